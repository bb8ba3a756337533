/-
  The maker in memory; the walk of its put.
  The walks of nfa.alone, and of the maker's part at a leaf.
  The walks of the maker's cat, or, maybe and circle, over what part does.
  The walks of the maker's maybe and circle.
-/
import Derived.Test.YtepegohopgnmnaaPk21
import Derived.Test.YtepegohopgnmnaaPk34
import Derived.Deep.RegionLaw
import Derived.BigRegion
import Derived.Test.YtepegohopgnmnaaPk15
import Derived.Deep.RegionHeldLaw
namespace Go.Proofs.Ytepegohopgnmnaa
open Go.RowKit

/-- Block M holds the maker: its tree and its states. -/
def isMk (w : World) (M : Nat) (t v : Value) : Prop := w.heap[M]? = some (.cells #[t, v] 76 (0, 0))
theorem isMk.cells {w : World} {M : Nat} {t v : Value} (h : isMk w M t v) : w.cell? ⟨M, 0, none⟩ = some t ∧ w.cell? ⟨M, 1, none⟩ = some v ∧ w.frozen? ⟨M, 1, none⟩ = false ∧ M < w.heap.size := by
  unfold isMk at h
  refine ⟨?_, ?_, ?_, lt_of_block h⟩ <;> simp [World.cell?, World.frozen?, h]
/-- Its states lie behind it. -/
def mkW (w : World) (t : Value) (M : Nat) (L : List Sd) : Prop := ∃ v, isMk w M t v ∧ w.ownsRow (M + 1) 64 7 v L.length (sds L)
theorem mkW.below {w w' : World} {t : Value} {M : Nat} {L : List Sd} (h : mkW w t M L) (hb : Below w.heap.size w w') : mkW w' t M L := by
  obtain ⟨v, h1, h2⟩ := h
  exact ⟨v, (hb.block M (lt_of_block h1)).trans h1, owns_below h2 hb⟩
theorem mkW.drew {w : World} {t : Value} {M : Nat} {L : List Sd} (h : mkW w t M L) : mkW w.drew t M L := h
theorem mkW.lt {w : World} {t : Value} {M : Nat} {L : List Sd} (h : mkW w t M L) : M < w.heap.size := by
  obtain ⟨v, h1, _⟩ := h
  exact lt_of_block h1
theorem mkW.op {w : World} {t : Value} {M : Nat} {L : List Sd} (h : mkW w t M L) (hl : 1 ≤ L.length) : ∃ g c, isMk w M t (.slice (some ⟨g, 0, none⟩) L.length c) ∧ stO w (M + 1) g c L := by
  obtain ⟨v, h1, h2⟩ := h
  obtain ⟨g, c, rfl, h3⟩ := stO_of h2 hl
  exact ⟨g, c, h1, h3⟩
/-- Blocks below M are kept, and all but M that hold no states. -/
def kpM (M : Nat) (w w' : World) : Prop := Below M w w' ∧ ∀ (k : Nat) (c : Array Value) (t : TypeId) (fr : Nat × Nat), w.heap[k]? = some (.cells c t fr) → t ≠ 64 → k ≠ M → w'.heap[k]? = some (.cells c t fr)
theorem kpM.refl (M : Nat) (w : World) : kpM M w w := ⟨Below.refl _ _, fun _ _ _ _ h _ _ => h⟩
theorem kpM.trans {M : Nat} {w w1 w2 : World} (h1 : kpM M w w1) (h2 : kpM M w1 w2) : kpM M w w2 := ⟨h1.1.trans h2.1, fun k c t fr h ht hk => h2.2 k c t fr (h1.2 k c t fr h ht hk) ht hk⟩
theorem kpM.of_below {M : Nat} {w w' : World} (hM : M ≤ w.heap.size) (h : Below w.heap.size w w') : kpM M w w' := ⟨h.mono hM, fun k c t fr hk _ _ => by rw [h.block k (lt_of_block hk)]; exact hk⟩
theorem kpM.of_grown {M : Nat} {w w' : World} {v : Value} {n : Nat} {xs : List Value} (hM : M + 1 ≤ w.heap.size) (ho : w.ownsRow (M + 1) 64 7 v n xs) (h : w.grownBy w' v.ownBlock) : kpM M w w' := by
  refine ⟨⟨h.os, h.tape, h.output, h.size, fun k hk => h.block k (by omega) fun e => ?_⟩, fun k c t fr hk ht _ => ?_⟩
  · have := (ho.lt k e.symm).1; omega
  · rw [h.block k (lt_of_block hk) fun e => ?_]
    · exact hk
    · rcases ho.2 with ⟨rfl, _⟩ | ⟨g, cp, cur, rfl, _, p1, _⟩
      · simp [Value.ownBlock] at e
      · have hg : k = g := by simpa [Value.ownBlock] using e
        subst hg
        rw [p1] at hk
        simp at hk
        exact ht hk.2.1.symm
theorem kpM.set (M j : Nat) (w : World) (v : Value) : kpM M w (w.setCell ⟨M, j, none⟩ v) := by
  have hg := grown_setCell w M j v
  exact ⟨(Below.refl M w).setCell (Nat.le_refl _) v, fun k c t fr h _ hk => (hg.block k (lt_of_block h) (by simpa using hk)).trans h⟩
theorem kpM.ints {M g : Nat} {w w' : World} {c : Array Value} (h : kpM M w w') (hk : w.heap[g]? = some (.cells c 3 (0, 0))) (hg : M < g) : w'.heap[g]? = some (.cells c 3 (0, 0)) := h.2 g c 3 (0, 0) hk (by decide) (by omega)
theorem kpM.row {M base : Nat} {w w' : World} {v : Value} {l : List Nat} (h : kpM M w w') (ho : spO w base v l) (hb : M < base) : spO w' base v l := by
  obtain ⟨h1, h2⟩ := ho
  refine ⟨h1, ?_⟩
  rcases h2 with h2 | ⟨g, cp, cur, rfl, h3, h4, h5⟩
  · exact .inl h2
  · exact .inr ⟨g, cp, cur, rfl, h3, h.ints h4 (by omega), h5⟩
theorem rdN.kept {M b off n : Nat} {N : Nat → Nd} {w w' : World} (h : rdN w b off n N) (hk : kpM M w w') (hb : b < M) : rdN w' b off n N := h.belowB hk.1 hb
/-- A store into a state. -/
theorem mkW.putA {w : World} {t : Value} {M g c : Nat} {L : List Sd} (h1 : isMk w M t (.slice (some ⟨g, 0, none⟩) L.length c)) (h2 : stO w (M + 1) g c L) (j : Nat) (a : Int) (A : Nat) (ha : a = A) :
    mkW (w.setCell ⟨g, j * 7 + 1, none⟩ (.int .i64 a)) t M (setA L j A) ∧ kpM M w (w.setCell ⟨g, j * 7 + 1, none⟩ (.int .i64 a)) := by
  have hg := grown_setCell w g (j * 7 + 1) (.int .i64 a)
  have hM : M ≠ g := by have := h2.lt.1; omega
  refine ⟨⟨.slice (some ⟨g, 0, none⟩) L.length c, ?_, ?_⟩, kpM.of_grown (lt_of_block h1) h2 hg⟩
  · exact (hg.block M (lt_of_block h1) (by simpa using hM)).trans h1
  · have := h2.putI j a A ha
    unfold stO at this
    rw [setA_len] at this ⊢
    exact this
theorem mkW.putB {w : World} {t : Value} {M g c : Nat} {L : List Sd} (h1 : isMk w M t (.slice (some ⟨g, 0, none⟩) L.length c)) (h2 : stO w (M + 1) g c L) (j : Nat) (a : Int) (A : Nat) (ha : a = A) :
    mkW (w.setCell ⟨g, j * 7 + 2, none⟩ (.int .i64 a)) t M (setB L j A) ∧ kpM M w (w.setCell ⟨g, j * 7 + 2, none⟩ (.int .i64 a)) := by
  have hg := grown_setCell w g (j * 7 + 2) (.int .i64 a)
  have hM : M ≠ g := by have := h2.lt.1; omega
  refine ⟨⟨.slice (some ⟨g, 0, none⟩) L.length c, ?_, ?_⟩, kpM.of_grown (lt_of_block h1) h2 hg⟩
  · exact (hg.block M (lt_of_block h1) (by simpa using hM)).trans h1
  · have := h2.putJ j a A ha
    unfold stO at this
    rw [setB_len] at this ⊢
    exact this

/-- An append of states as a step of a region that draws its order. -/
theorem step_append_sds {w : World} {ops : Array Oper} {o : Oper} {a : Act} {K : Act → World → Prop} {Q : Exit → Act → World → Prop} {E : Prop} (hgd : o.guard = none) (s x : Operand)
    (ho : o.op = .call { callee := .builtin .append, args := #[s, x], argTypes := #[22, 22] }) (base : Nat) (v : Value) (l : List Sd) (hs : a.eval s = v)
    (hown : w.ownsRow base 64 7 v l.length (sds l)) (v2 : Value) (m : List Sd) (hx : a.eval x = v2) (hrd : srd w v2 m) (hlen : l.length + m.length ≤ 100000) (hbase : base ≤ w.heap.size)
    (h : ∀ q' n' cap' w', n' = (l ++ m).length → w'.ownsRow base 64 7 (.slice q' n' cap') (l ++ m).length (sds (l ++ m)) → w.grownBy w' v.ownBlock → K (a.put o.dst (.slice q' n' cap')) w') :
    if Region.wanted o (yielded ops a.tmps) = true then Oper.wp Try.prog o a w K Q else E := by
  have hw : Region.wanted o (yielded ops a.tmps) = true := by simp [Region.wanted, hgd]
  rw [if_pos hw]
  refine wp_append_sds s x ho base v l hs hown v2 m hx hrd hlen hbase fun v' w' h1 h2 => ?_
  obtain ⟨q', cap', rfl⟩ : ∃ q cap, v' = .slice q (l ++ m).length cap := by
    rcases id h1.2 with ⟨rfl, h0⟩ | ⟨g, cap, cur, rfl, _⟩
    · exact ⟨none, 0, by rw [h0]⟩
    · exact ⟨_, cap, rfl⟩
  exact h q' _ cap' w' rfl h1 h2
def putMk (t : Value) (M : Nat) (L : List Sd) (x : Sd) (w : World) (e : Ending) (w' : World) : Prop := e = .returned (.int .i64 (L.length : Int)) ∧ mkW w' t M (L ++ [x]) ∧ kpM M w w'
set_option maxRecDepth 100000 in
set_option maxHeartbeats 4000000 in
theorem mput_is (t : Value) (M : Nat) (L : List Sd) (k A B a b c d : Int) (w : World) (hL : L.length ≤ 10000) (h : mkW w t M L) :
    Calls Try.prog 59 #[.pointer (some ⟨M, 0, none⟩), .agg #[.int .i64 k, .int .i64 A, .int .i64 B, .int .u64 a, .int .u64 b, .int .u64 c, .int .u64 d]] w (putMk t M L ⟨k, a, b, c, d, A, B⟩ w) := by
  obtain ⟨x, hx⟩ : ∃ x : Sd, x = ⟨k, a, b, c, d, A, B⟩ := ⟨_, rfl⟩
  rw [← hx]
  have hv : (Value.agg #[.int .i64 k, .int .i64 A, .int .i64 B, .int .u64 a, .int .u64 b, .int .u64 c, .int .u64 d]) = .agg #[.int .i64 x.k, .int .i64 x.A, .int .i64 x.B, .int .u64 x.a, .int .u64 x.b, .int .u64 x.c, .int .u64 x.d] := by rw [hx]
  rw [hv]
  clear hv hx
  obtain ⟨v, h1, h2⟩ := h
  obtain ⟨q, cap, rfl⟩ : ∃ q cap, v = .slice q L.length cap := by
    rcases id h2.2 with ⟨rfl, h0⟩ | ⟨g, cap, cur, rfl, _⟩
    · exact ⟨none, 0, by rw [h0]⟩
    · exact ⟨_, cap, rfl⟩
  obtain ⟨len, hlen⟩ : ∃ len, L.length = len := ⟨_, rfl⟩
  have Hm := Lib.hid hlen
  obtain ⟨c0, c1, f1, hM⟩ := h1.cells
  have hb2 : Below w.heap.size w (((w.alloc (.cells #[.int .i64 x.k, .int .i64 x.A, .int .i64 x.B, .int .u64 x.a, .int .u64 x.b, .int .u64 x.c, .int .u64 x.d] 64)).alloc (.cells #[.int .i64 x.k, .int .i64 x.A, .int .i64 x.B, .int .u64 x.a, .int .u64 x.b, .int .u64 x.c, .int .u64 x.d] 64)).drew) := (((Below.refl _ w).alloc (Nat.le_refl _) _).alloc (by simp) _).drew
  have HO := Lib.hid (show (((w.alloc (.cells #[.int .i64 x.k, .int .i64 x.A, .int .i64 x.B, .int .u64 x.a, .int .u64 x.b, .int .u64 x.c, .int .u64 x.d] 64)).alloc (.cells #[.int .i64 x.k, .int .i64 x.A, .int .i64 x.B, .int .u64 x.a, .int .u64 x.b, .int .u64 x.c, .int .u64 x.d] 64)).drew).ownsRow (M + 1) 64 7 (.slice q len cap) L.length (sds L) from by have := owns_below h2 hb2; rw [Hm.out] at this ⊢; exact this)
  have hc := lit_rd9 (w.alloc (.cells #[.int .i64 x.k, .int .i64 x.A, .int .i64 x.B, .int .u64 x.a, .int .u64 x.b, .int .u64 x.c, .int .u64 x.d] 64)) x
  rw [World.size_alloc] at hc
  have HC := Lib.hid (show srd (((w.alloc (.cells #[.int .i64 x.k, .int .i64 x.A, .int .i64 x.B, .int .u64 x.a, .int .u64 x.b, .int .u64 x.c, .int .u64 x.d] 64)).alloc (.cells #[.int .i64 x.k, .int .i64 x.A, .int .i64 x.B, .int .u64 x.a, .int .u64 x.b, .int .u64 x.c, .int .u64 x.d] 64)).drew) (.slice (some ⟨w.heap.size + 1, 0, none⟩) 1 1) [x] from hc)
  have HB2 := Lib.hid hb2
  have HMK : Hid (isMk (((w.alloc (.cells #[.int .i64 x.k, .int .i64 x.A, .int .i64 x.B, .int .u64 x.a, .int .u64 x.b, .int .u64 x.c, .int .u64 x.d] 64)).alloc (.cells #[.int .i64 x.k, .int .i64 x.A, .int .i64 x.B, .int .u64 x.a, .int .u64 x.b, .int .u64 x.c, .int .u64 x.d] 64)).drew) M t (.slice q L.length cap)) := Lib.hid ((hb2.block M hM).trans h1)
  have HSM : Hid (M + 1 ≤ (((w.alloc (.cells #[.int .i64 x.k, .int .i64 x.A, .int .i64 x.B, .int .u64 x.a, .int .u64 x.b, .int .u64 x.c, .int .u64 x.d] 64)).alloc (.cells #[.int .i64 x.k, .int .i64 x.A, .int .i64 x.B, .int .u64 x.a, .int .u64 x.b, .int .u64 x.c, .int .u64 x.d] 64)).drew).heap.size) := Lib.hid (Nat.le_trans (show M + 1 ≤ w.heap.size from hM) hb2.size)
  have HKM := Lib.hid (kpM.of_below (M := M) (Nat.le_of_lt hM) hb2)
  have HLL : Hid (L.length + [x].length ≤ 100000) := Lib.hid (by simp; omega)
  rw [hlen] at c1
  have l0 : (0 : Int) ≤ (len : Int) := by omega
  have l1 : (len : Int) ≤ 10000 := by omega
  clear hc hb2 h1 h2 hlen hL
  go_enter Try.func59, Try.ntmps59
  go_wp2_with fail
  go_region_law ((refine step_append_sds rfl (.tmp 9) (.tmp 11) rfl (M + 1) (.slice q len cap) L rfl HO.out (.slice (some ⟨w.heap.size + 1, 0, none⟩) 1 1) [x] rfl HC.out HLL.out HSM.out ?_; intro q' n' cap' w' hn' ho' hg'; have HN := Lib.hid hn'; have HO' := Lib.hid ho'; have HG' := Lib.hid hg'; have hm3 : isMk w' M t (.slice q L.length cap) := (hg'.block M (HMK.out.cells).2.2.2 (fun e => by have := (HO.out.lt M e.symm).1; omega)).trans HMK.out; obtain ⟨-, c1', f1', hBw⟩ := hm3.cells; have HM3 := Lib.hid hm3; clear hn' ho' hg' hm3))
  all_goals
    obtain rfl : n' = len + 1 := by rw [HN.out, List.length_append, Hm.out]; rfl
    have hset := heap_setCell_same w' M 1 _ _ (.slice q' (len + 1) cap') HM3.out
    have hm4 : isMk (w'.setCell ⟨M, 1, none⟩ (.slice q' (len + 1) cap')) M t (.slice q' (len + 1) cap') := by
      unfold isMk; rw [hset]; simp
    obtain ⟨-, d1, -, dM⟩ := hm4.cells
    have HE : Hid (mkW (w'.setCell ⟨M, 1, none⟩ (.slice q' (len + 1) cap')) t M (L ++ [x])) := Lib.hid ⟨_, hm4, ownsRow_setCell_below HO'.out (Nat.lt_succ_self M) _⟩
    have HK := Lib.hid ((HKM.out.trans (kpM.of_grown HSM.out HO.out HG'.out)).trans (kpM.set M 1 w' (.slice q' (len + 1) cap')))
    clear hset hm4 HO HC HB2 HMK HSM HKM HLL HO' HG' HM3 HN c1' f1'
    go_wp2_with fail
    go_returns
    exact ⟨by rw [Hm.out] <;> rfl, HE.out, HK.out⟩
theorem mputE (t : Value) (M : Nat) (L L' : List Sd) (len : Nat) (w : World) (hl : L.length = len) (h5 : len ≤ 10000) (hL : L ++ [sE 0] = L') (h : mkW w t M L) :
    Calls Try.prog 59 #[.pointer (some ⟨M, 0, none⟩), .agg #[.int .i64 2, .int .i64 0, .int .i64 0, .int .u64 0, .int .u64 0, .int .u64 0, .int .u64 0]] w fun e w' => e = .returned (.int .i64 (len : Int)) ∧ mkW w' t M L' ∧ kpM M w w' := by
  subst hl; subst hL
  exact mput_is t M L 2 0 0 0 0 0 0 w h5 h
theorem mputS (t : Value) (M : Nat) (L L' : List Sd) (len : Nat) (A B : Int) (w : World) (hl : L.length = len) (h5 : len ≤ 10000) (hL : L ++ [sS A B] = L') (h : mkW w t M L) :
    Calls Try.prog 59 #[.pointer (some ⟨M, 0, none⟩), .agg #[.int .i64 3, .int .i64 A, .int .i64 B, .int .u64 0, .int .u64 0, .int .u64 0, .int .u64 0]] w fun e w' => e = .returned (.int .i64 (len : Int)) ∧ mkW w' t M L' ∧ kpM M w w' := by
  subst hl; subst hL
  exact mput_is t M L 3 A B 0 0 0 0 w h5 h
/-- A maker's states as a field's store wants them. -/
theorem mkW.opn {w : World} {t : Value} {M : Nat} {L : List Sd} {len j : Nat} (h : mkW w t M L) (hl : L.length = len) (hj : j < len) : ∃ g c, w.cell? ⟨M, 1, none⟩ = some (.slice (some ⟨g, 0, none⟩) len c) ∧ M < w.heap.size ∧ g < w.heap.size ∧
    (∃ u, w.cell? ⟨g, j * 7 + 1, none⟩ = some (.int .i64 u)) ∧ w.frozen? ⟨g, j * 7 + 1, none⟩ = false ∧ (∃ u, w.cell? ⟨g, j * 7 + 2, none⟩ = some (.int .i64 u)) ∧ w.frozen? ⟨g, j * 7 + 2, none⟩ = false ∧
    (∀ (a : Int) (A : Nat), a = A → mkW (w.setCell ⟨g, j * 7 + 1, none⟩ (.int .i64 a)) t M (setA L j A) ∧ kpM M w (w.setCell ⟨g, j * 7 + 1, none⟩ (.int .i64 a))) ∧
    (∀ (a : Int) (A : Nat), a = A → mkW (w.setCell ⟨g, j * 7 + 2, none⟩ (.int .i64 a)) t M (setB L j A) ∧ kpM M w (w.setCell ⟨g, j * 7 + 2, none⟩ (.int .i64 a))) := by
  subst hl
  obtain ⟨g, c, m1, o1⟩ := h.op (by omega)
  obtain ⟨-, mc, -, ml⟩ := m1.cells
  exact ⟨g, c, mc, ml, o1.lt.2, ⟨_, o1.cellA hj⟩, o1.free _, ⟨_, o1.cellB hj⟩, o1.free _, fun a A ha => mkW.putA m1 o1 j a A ha, fun a A ha => mkW.putB m1 o1 j a A ha⟩
end Go.Proofs.Ytepegohopgnmnaa

namespace Go.Proofs.Ytepegohopgnmnaa
open Go.RowKit

def isNd9 (w : World) (b : Nat) (x : Nd) : Prop := w.heap[b]? = some (.cells #[.int .i64 x.k, .int .u64 x.a, .int .u64 x.b, .int .u64 x.c, .int .u64 x.d, .int .i64 x.lo, .int .i64 x.hi] 71 (0, 0))
theorem isNd9.new (w : World) (x : Nd) : isNd9 (w.alloc (.cells #[.int .i64 x.k, .int .u64 x.a, .int .u64 x.b, .int .u64 x.c, .int .u64 x.d, .int .i64 x.lo, .int .i64 x.hi] 71)) w.heap.size x := heap_alloc_new w _
theorem isNd9.lt {w : World} {b : Nat} {x : Nd} (h : isNd9 w b x) : b < w.heap.size := lt_of_block h
theorem isNd9.cells {w : World} {b : Nat} {x : Nd} (h : isNd9 w b x) : w.cell? ⟨b, 0, none⟩ = some (.int .i64 x.k) ∧ w.cell? ⟨b, 1, none⟩ = some (.int .u64 x.a) ∧ w.cell? ⟨b, 2, none⟩ = some (.int .u64 x.b) ∧ w.cell? ⟨b, 3, none⟩ = some (.int .u64 x.c) ∧ w.cell? ⟨b, 4, none⟩ = some (.int .u64 x.d) ∧ w.cell? ⟨b, 5, none⟩ = some (.int .i64 x.lo) ∧ w.cell? ⟨b, 6, none⟩ = some (.int .i64 x.hi) := by
  unfold isNd9 at h
  refine ⟨?_, ?_, ?_, ?_, ?_, ?_, ?_⟩ <;> simp [World.cell?, h]
theorem isNd9.free {w : World} {b : Nat} {x : Nd} (h : isNd9 w b x) : w.frozen? ⟨b, 0, none⟩ = false ∧ w.frozen? ⟨b, 1, none⟩ = false ∧ w.frozen? ⟨b, 2, none⟩ = false ∧ w.frozen? ⟨b, 3, none⟩ = false ∧ w.frozen? ⟨b, 4, none⟩ = false ∧ w.frozen? ⟨b, 5, none⟩ = false ∧ w.frozen? ⟨b, 6, none⟩ = false := by
  unfold isNd9 at h
  refine ⟨?_, ?_, ?_, ?_, ?_, ?_, ?_⟩ <;> simp [World.frozen?, h]
theorem isSt9.free {w : World} {b : Nat} {k A B a0 a1 a2 a3 : Int} (h : isSt9 w b k A B a0 a1 a2 a3) : w.frozen? ⟨b, 0, none⟩ = false ∧ w.frozen? ⟨b, 1, none⟩ = false ∧ w.frozen? ⟨b, 2, none⟩ = false ∧ w.frozen? ⟨b, 3, none⟩ = false ∧ w.frozen? ⟨b, 4, none⟩ = false ∧ w.frozen? ⟨b, 5, none⟩ = false ∧ w.frozen? ⟨b, 6, none⟩ = false := by
  unfold isSt9 at h
  refine ⟨?_, ?_, ?_, ?_, ?_, ?_, ?_⟩ <;> simp [World.frozen?, h]
theorem isSt9.stored {w : World} {b : Nat} {k A B a0 a1 a2 a3 : Int} (h : isSt9 w b k A B a0 a1 a2 a3) (k' A' B' y0 y1 y2 y3 : Int) :
    isSt9 (((((((w.setCell ⟨b, 0, none⟩ (.int .i64 k')).setCell ⟨b, 1, none⟩ (.int .i64 A')).setCell ⟨b, 2, none⟩ (.int .i64 B')).setCell ⟨b, 3, none⟩ (.int .u64 y0)).setCell ⟨b, 4, none⟩ (.int .u64 y1)).setCell ⟨b, 5, none⟩ (.int .u64 y2)).setCell ⟨b, 6, none⟩ (.int .u64 y3)) b k' A' B' y0 y1 y2 y3 := by
  have h1 := heap_setCell_same w b 0 _ _ (.int .i64 k') h
  have h2 := heap_setCell_same _ b 1 _ _ (.int .i64 A') h1
  have h3 := heap_setCell_same _ b 2 _ _ (.int .i64 B') h2
  have h4 := heap_setCell_same _ b 3 _ _ (.int .u64 y0) h3
  have h5 := heap_setCell_same _ b 4 _ _ (.int .u64 y1) h4
  have h6 := heap_setCell_same _ b 5 _ _ (.int .u64 y2) h5
  have h7 := heap_setCell_same _ b 6 _ _ (.int .u64 y3) h6
  unfold isSt9
  rw [h7]
  simp
theorem below_st7 {B : Nat} {a w : World} {c : Nat} (h : Below B a w) (hc : B ≤ c) (k' A' B' y0 y1 y2 y3 : Int) : Below B a
    (((((((w.setCell ⟨c, 0, none⟩ (.int .i64 k')).setCell ⟨c, 1, none⟩ (.int .i64 A')).setCell ⟨c, 2, none⟩ (.int .i64 B')).setCell ⟨c, 3, none⟩ (.int .u64 y0)).setCell ⟨c, 4, none⟩ (.int .u64 y1)).setCell ⟨c, 5, none⟩ (.int .u64 y2)).setCell ⟨c, 6, none⟩ (.int .u64 y3)) :=
  ((((((h.setCell hc _).setCell hc _).setCell hc _).setCell hc _).setCell hc _).setCell hc _).setCell hc _
theorem build_stS9 (k a b c d : Int) (w : World) : (Instr.build 64 #[(0, .int .i64 k), (3, .agg #[.int .u64 a, .int .u64 b, .int .u64 c, .int .u64 d])]).run Try.prog w = .ok (.agg #[.int .i64 k, .int .i64 0, .int .i64 0, .int .u64 a, .int .u64 b, .int .u64 c, .int .u64 d]) w := by kernel_rfl
theorem wpList_build_stS9 {ops : Array Oper} {rest : List Oper} {o : Oper} {a : Act} {w : World} {Q : Exit → Act → World → Prop} (hgd : o.guard = none) (x y : Operand) (ho : o.op = .build 64 #[(0, x), (3, y)])
    (k a0 a1 a2 a3 : Int) (hx : a.eval x = .int .i64 k) (hy : a.eval y = .agg #[.int .u64 a0, .int .u64 a1, .int .u64 a2, .int .u64 a3])
    (h : wpList Try.prog ops Q rest (a.put o.dst (.agg #[.int .i64 k, .int .i64 0, .int .i64 0, .int .u64 a0, .int .u64 a1, .int .u64 a2, .int .u64 a3])) w) : wpList Try.prog ops Q (o :: rest) a w :=
  wpList_plain hgd fun K hK => by
    have hb := build_stS9 k a0 a1 a2 a3 w
    have hm : (#[(0, x), (3, y)] : Array (Nat × Operand)).map (fun (i, v) => (i, a.eval v)) = #[(0, a.eval x), (3, a.eval y)] := by simp
    unfold Oper.wp execOp
    simp only [ho]
    rw [hm, hx, hy]
    simp only [Sem.run_bind, hb, Result.andThen_ok]
    exact hK _ _ h
/-- What alone tells of a leaf. -/
def alnPost (x : Sd) (w : World) (e : Ending) (w' : World) : Prop := e = .returned (.agg #[.int .i64 x.k, .int .i64 x.A, .int .i64 x.B, .int .u64 x.a, .int .u64 x.b, .int .u64 x.c, .int .u64 x.d]) ∧ Below w.heap.size w w'
set_option maxRecDepth 100000 in
set_option maxHeartbeats 4000000 in
theorem alone9 (x : Nd) (hk : x.k = 1 ∨ x.k = 2 ∨ x.k = 3 ∨ x.k = 4) (hz : x.k ≠ 1 → x.a = 0 ∧ x.b = 0 ∧ x.c = 0 ∧ x.d = 0) (w : World) :
    Calls Try.prog 60 #[.agg #[.int .i64 x.k, .int .u64 x.a, .int .u64 x.b, .int .u64 x.c, .int .u64 x.d, .int .i64 x.lo, .int .i64 x.hi]] w (alnPost (leafS x 0) w) := by
  obtain ⟨W, hW⟩ : ∃ W, (w.alloc (.cells #[.int .i64 x.k, .int .u64 x.a, .int .u64 x.b, .int .u64 x.c, .int .u64 x.d, .int .i64 x.lo, .int .i64 x.hi] 71)).alloc (.cells #[.int .i64 0, .int .i64 0, .int .i64 0, .int .u64 0, .int .u64 0, .int .u64 0, .int .u64 0] 64) = W := ⟨_, rfl⟩
  obtain ⟨g, hg⟩ : ∃ g, w.heap.size = g := ⟨_, rfl⟩
  have hs1 : (w.alloc (.cells #[.int .i64 x.k, .int .u64 x.a, .int .u64 x.b, .int .u64 x.c, .int .u64 x.d, .int .i64 x.lo, .int .i64 x.hi] 71)).heap.size = g + 1 := by rw [World.size_alloc, hg]
  have hst : isSt9 W (g + 1) 0 0 0 0 0 0 0 := by
    have := isSt9.new (w.alloc (.cells #[.int .i64 x.k, .int .u64 x.a, .int .u64 x.b, .int .u64 x.c, .int .u64 x.d, .int .i64 x.lo, .int .i64 x.hi] 71)) 0 0 0 0 0 0 0
    rw [hs1, hW] at this; exact this
  have hnd : isNd9 W g x := by
    have h := isNd9.new w x
    rw [← hW, ← hg]
    exact (Below.heap_alloc _ _ _ h.lt).trans h
  have hB : Below w.heap.size w W := hW ▸ ((Below.refl _ w).alloc (Nat.le_refl _) _).alloc (by simp) _
  have HST := Lib.hid hst; have HND := Lib.hid hnd; have HB := Lib.hid hB; have HW := Lib.hid hW
  have HG := Lib.hid hg
  have hGE : w.heap.size ≤ g + 1 := by omega
  have HGE := Lib.hid hGE
  clear hst hnd hB hW hs1 hGE
  go_enter Try.func60, Try.ntmps60
  go_upto_region 1 with (fail)
  rw [HW.out]
  clear hg HW
  obtain ⟨p0, p1, p2, p3, p4, p5, p6⟩ := HND.out.cells
  obtain ⟨q0, q1, q2, q3, q4, q5, q6⟩ := HST.out.cells
  obtain ⟨f0, f1, f2, f3, f4, f5, f6⟩ := HST.out.free
  have nl := HND.out.lt
  have sl := HST.out.lt
  obtain ⟨k, a, b, c, d, lo, hi⟩ := x
  simp only at hk hz p0 p1 p2 p3 p4 p5 p6
  by_cases h1 : k = 1
  · subst h1
    have Z := Lib.hid (HST.out.stored 1 0 0 a b c d).cells
    have HS := Lib.hid (below_st7 HB.out HGE.out 1 0 0 a b c d)
    clear hk hz HND HST HB
    go_wp2_with (refine wpList_build_stS9 rfl _ _ rfl 1 a b c d rfl rfl ?_)
    refine bodyPost_ret (v := .agg #[.int .i64 1, .int .i64 0, .int .i64 0, .int .u64 a, .int .u64 b, .int .u64 c, .int .u64 d]) (by simp [results, Try.results60, go_sem, Z.out]) rfl ⟨rfl, HS.out⟩
  · obtain ⟨rfl, rfl, rfl, rfl⟩ := hz h1
    rcases (show k = 2 ∨ k = 3 ∨ k = 4 by omega) with rfl | rfl | rfl
    · have Z := Lib.hid (HST.out.stored 2 0 0 0 0 0 0).cells
      have HS := Lib.hid (below_st7 HB.out HGE.out 2 0 0 0 0 0 0)
      clear hk hz HND HST HB h1
      go_wp2_with (refine wpList_build_st0 rfl _ rfl 2 rfl ?_)
      refine bodyPost_ret (v := .agg #[.int .i64 2, .int .i64 0, .int .i64 0, .int .u64 0, .int .u64 0, .int .u64 0, .int .u64 0]) (by simp [results, Try.results60, go_sem, Z.out]) rfl ⟨rfl, HS.out⟩
    · have Z := Lib.hid (HST.out.stored 4 0 0 0 0 0 0).cells
      have HS := Lib.hid (below_st7 HB.out HGE.out 4 0 0 0 0 0 0)
      clear hk hz HND HST HB h1
      go_wp2_with (refine wpList_build_st0 rfl _ rfl 4 rfl ?_)
      refine bodyPost_ret (v := .agg #[.int .i64 4, .int .i64 0, .int .i64 0, .int .u64 0, .int .u64 0, .int .u64 0, .int .u64 0]) (by simp [results, Try.results60, go_sem, Z.out]) rfl ⟨rfl, HS.out⟩
    · have Z := Lib.hid (HST.out.stored 5 0 0 0 0 0 0).cells
      have HS := Lib.hid (below_st7 HB.out HGE.out 5 0 0 0 0 0 0)
      clear hk hz HND HST HB h1
      go_wp2_with (refine wpList_build_st0 rfl _ rfl 5 rfl ?_)
      refine bodyPost_ret (v := .agg #[.int .i64 5, .int .i64 0, .int .i64 0, .int .u64 0, .int .u64 0, .int .u64 0, .int .u64 0]) (by simp [results, Try.results60, go_sem, Z.out]) rfl ⟨rfl, HS.out⟩
end Go.Proofs.Ytepegohopgnmnaa

namespace Go.Proofs.Ytepegohopgnmnaa
open Go.RowKit

theorem setA_two (L : List Sd) (j A B : Nat) : setA (setA L j A) j B = setA L j B := by
  induction L generalizing j with
  | nil => simp [setA]
  | cons r l ih =>
    cases j with
    | zero => rfl
    | succ j => exact congrArg (r :: ·) (ih j)
theorem setA_app (L R : List Sd) (j A : Nat) (h : j < L.length) : setA (L ++ R) j A = setA L j A ++ R := by
  induction L generalizing j with
  | nil => simp at h
  | cons r l ih =>
    cases j with
    | zero => rfl
    | succ j => exact congrArg (r :: ·) (ih j (by simpa using h))
/-- The first and the last state of what is made; the states; what is kept. -/
def prtPost (t : Value) (M : Nat) (R : List Sd × Nat × Nat) (w : World) (e : Ending) (w' : World) : Prop :=
  e = .returned (.tuple #[.int .i64 (R.2.1 : Int), .int .i64 (R.2.2 : Int)]) ∧ mkW w' t M R.1 ∧ kpM M w w'
/-- What part does, at a node. -/
def PrtC (N : Nat → Nd) (n b off cap j : Nat) : Prop := ∀ (M : Nat) (L : List Sd) (w : World), b < M → L.length + nst (trT N j) ≤ 1000 → mkW w (.slice (some ⟨b, off, none⟩) n cap) M L → rdN w b off n N →
  Calls Try.prog 36 #[.pointer (some ⟨M, 0, none⟩), .int .i64 (j : Int)] w (prtPost (.slice (some ⟨b, off, none⟩) n cap) M (mkF (trT N j) L) w)

set_option maxRecDepth 100000 in
set_option maxHeartbeats 4000000 in
theorem cat9 (N : Nat → Nd) (n b off cap j1 j2 : Nat) (H1 : PrtC N n b off cap j1) (H2 : PrtC N n b off cap j2) (M : Nat) (L : List Sd) (w : World) (hb : b < M) (hlen : L.length + (nst (trT N j1) + nst (trT N j2)) ≤ 1000)
    (hm : mkW w (.slice (some ⟨b, off, none⟩) n cap) M L) (hr : rdN w b off n N) :
    Calls Try.prog 56 #[.pointer (some ⟨M, 0, none⟩), .int .i64 (j1 : Int), .int .i64 (j2 : Int)] w (prtPost (.slice (some ⟨b, off, none⟩) n cap) M (mkF (.cat (trT N j1) (trT N j2)) L) w) := by
  have hc1 := H1 M L w hb (by omega) hm hr
  have l1 := mk_len (trT N j1) L; have b1 := mk_bd (trT N j1) L
  obtain ⟨X, hX⟩ : ∃ X, mkF (trT N j1) L = X := ⟨_, rfl⟩
  obtain ⟨LX, f1, e1⟩ := X
  rw [hX] at hc1 l1 b1
  simp only at l1 b1
  have l2 := mk_len (trT N j2) LX; have b2 := mk_bd (trT N j2) LX
  obtain ⟨Y, hY⟩ : ∃ Y, mkF (trT N j2) LX = Y := ⟨_, rfl⟩
  obtain ⟨LY, f2, e2⟩ := Y
  rw [hY] at l2 b2
  simp only at l2 b2
  have HMF : Hid (mkF (.cat (trT N j1) (trT N j2)) L = (setA LY e1 f2, f1, e2)) := Lib.hid (by simp only [mkF, hX, hY])
  have HC1 := Lib.hid hc1
  have HC2 := Lib.hid (fun w' (hm' : mkW w' (.slice (some ⟨b, off, none⟩) n cap) M LX) (hr' : rdN w' b off n N) => hY ▸ H2 M LX w' hb (by omega) hm' hr')
  have HR := Lib.hid hr
  have h1 : 1 ≤ LY.length := by omega
  have d0 : (0 : Int) ≤ (e1 : Int) := by omega
  have hlt : e1 < LY.length := by omega
  clear hc1 hX hY H1 H2 hm hr l1 l2 b1 b2 hlen
  go_enter Try.func56, Try.ntmps56
  go_wp2_with fail
  refine HC1.out.mono ?_
  rintro e w1 ⟨rfl, hm1, hk1⟩
  have HC := Lib.hid (HC2.out w1 hm1 (HR.out.kept hk1 hb))
  have HK1 := Lib.hid hk1
  clear hm1 hk1 HC1 HC2
  simp only
  go_wp2_with fail
  refine HC.out.mono ?_
  rintro e w2 ⟨rfl, hm2, hk2⟩
  simp only at hm2
  obtain ⟨g, c, m1, o1⟩ := hm2.op h1
  have HE := Lib.hid (mkW.putA m1 o1 e1 (f2 : Int) f2 rfl)
  obtain ⟨-, mc, -, ml⟩ := m1.cells
  have cA := o1.cellA hlt
  have fA := o1.free (e1 * 7 + 1)
  have gl := o1.lt.2
  obtain ⟨len, hln⟩ : ∃ len, LY.length = len := ⟨_, rfl⟩
  rw [hln] at mc hlt
  have d1 : (e1 : Int) < (len : Int) := by omega
  have HK2 := Lib.hid (HK1.out.trans hk2)
  clear hm2 hk2 HC m1 o1 hln h1 HR
  simp only
  go_wp2_with fail
  go_returns
  rw [HMF.out]
  exact ⟨rfl, HE.out.1, HK2.out.trans HE.out.2⟩

set_option maxRecDepth 100000 in
set_option maxHeartbeats 8000000 in
theorem or9 (N : Nat → Nd) (n b off cap j1 j2 : Nat) (H1 : PrtC N n b off cap j1) (H2 : PrtC N n b off cap j2) (M : Nat) (L : List Sd) (w : World) (hb : b < M) (hlen : L.length + (nst (trT N j1) + nst (trT N j2) + 2) ≤ 1000)
    (hm : mkW w (.slice (some ⟨b, off, none⟩) n cap) M L) (hr : rdN w b off n N) :
    Calls Try.prog 57 #[.pointer (some ⟨M, 0, none⟩), .int .i64 (j1 : Int), .int .i64 (j2 : Int)] w (prtPost (.slice (some ⟨b, off, none⟩) n cap) M (mkF (.or (trT N j1) (trT N j2)) L) w) := by
  have hc1 := H1 M L w hb (by omega) hm hr
  have l1 := mk_len (trT N j1) L; have b1 := mk_bd (trT N j1) L
  obtain ⟨X, hX⟩ : ∃ X, mkF (trT N j1) L = X := ⟨_, rfl⟩
  obtain ⟨LX, f1, e1⟩ := X
  rw [hX] at hc1 l1 b1
  simp only at l1 b1
  have l2 := mk_len (trT N j2) LX; have b2 := mk_bd (trT N j2) LX
  obtain ⟨Y, hY⟩ : ∃ Y, mkF (trT N j2) LX = Y := ⟨_, rfl⟩
  obtain ⟨LY, f2, e2⟩ := Y
  rw [hY] at l2 b2
  simp only at l2 b2
  have HMF : Hid (mkF (.or (trT N j1) (trT N j2)) L = (setA (setA (LY ++ [sS f1 f2] ++ [sE 0]) e1 (LY.length + 1)) e2 (LY.length + 1), LY.length, LY.length + 1)) := Lib.hid (by simp only [mkF, hX, hY])
  have HC1 := Lib.hid hc1
  have HC2 := Lib.hid (fun w' (hm' : mkW w' (.slice (some ⟨b, off, none⟩) n cap) M LX) (hr' : rdN w' b off n N) => hY ▸ H2 M LX w' hb (by omega) hm' hr')
  have HR := Lib.hid hr
  have d0 : (0 : Int) ≤ (e1 : Int) := by omega
  have g0 : (0 : Int) ≤ (e2 : Int) := by omega
  obtain ⟨len, hln⟩ : ∃ len, LY.length = len := ⟨_, rfl⟩
  obtain ⟨L3, hL3⟩ : ∃ L3, LY ++ [sS f1 f2] = L3 := ⟨_, rfl⟩
  obtain ⟨L4, hL4⟩ : ∃ L4, L3 ++ [sE 0] = L4 := ⟨_, rfl⟩
  have hl3 : L3.length = len + 1 := by rw [← hL3]; simp [hln]
  have hl4 : L4.length = len + 2 := by rw [← hL4]; simp [hl3]
  have HMF : Hid (mkF (.or (trT N j1) (trT N j2)) L = (setA (setA L4 e1 (len + 1)) e2 (len + 1), len, len + 1)) := Lib.hid (by rw [HMF.out, hL3, hL4, hln])
  have HLN := Lib.hid hln; have HL3 := Lib.hid hL3; have HL4 := Lib.hid hL4; have Hl3 := Lib.hid hl3; have Hl4 := Lib.hid hl4
  have hlt1 : e1 < len := by omega
  have hlt2 : e2 < len := by omega
  have hL9 : len ≤ 1000 := by omega
  clear hc1 hX hY H1 H2 hm hr l1 l2 b1 b2 hlen hln hL3 hL4 hl3 hl4
  go_enter Try.func57, Try.ntmps57
  go_wp2_with fail
  refine HC1.out.mono ?_
  rintro e w1 ⟨rfl, hm1, hk1⟩
  have HC := Lib.hid (HC2.out w1 hm1 (HR.out.kept hk1 hb))
  have HK1 := Lib.hid hk1
  clear hm1 hk1 HC1 HC2
  simp only
  go_wp2_with fail
  refine HC.out.mono ?_
  rintro e w2 ⟨rfl, hm2, hk2⟩
  simp only at hm2
  have HP2 := Lib.hid (mputS _ M LY L3 len (f1 : Int) (f2 : Int) w2 HLN.out (by omega) HL3.out hm2)
  have HK2 := Lib.hid (HK1.out.trans hk2)
  clear hm2 hk2 HC HR HK1
  simp only
  go_wp2_with (refine wpList_build_stAB rfl _ _ _ rfl 3 (f1 : Int) (f2 : Int) rfl rfl rfl ?_)
  refine HP2.out.mono ?_
  rintro e w3 ⟨rfl, hm3, hk3⟩
  have HP3 := Lib.hid (mputE _ M L3 L4 (len + 1) w3 Hl3.out (by omega) HL4.out hm3)
  have HK3 := Lib.hid (HK2.out.trans hk3)
  clear hm3 hk3 HP2 HK2
  go_wp2_with (refine wpList_build_st0 rfl _ rfl 2 rfl ?_)
  refine HP3.out.mono ?_
  rintro e w4 ⟨rfl, hm4, hk4⟩
  obtain ⟨g, c, mc, ml, gl, ⟨u, cA⟩, fA, -, -, hA, -⟩ := hm4.opn Hl4.out (show e1 < len + 2 by omega)
  obtain ⟨W5, hW5⟩ : ∃ W5, w4.setCell ⟨g, e1 * 7 + 1, none⟩ (.int .i64 ((len : Int) + 1)) = W5 := ⟨_, rfl⟩
  have he := hA ((len : Int) + 1) (len + 1) (by omega)
  rw [hW5] at he
  have d1 : (e1 : Int) < (len : Int) + 2 := by omega
  have HM5 := Lib.hid he.1
  have HK5 := Lib.hid ((HK3.out.trans hk4).trans he.2)
  have HW5 := Lib.hid hW5
  clear hm4 hk4 HP3 HK3 hA he hW5
  go_upto_region 6 with (fail)
  rw [HW5.out]
  clear mc ml gl cA fA HW5
  obtain ⟨g', c', mc, ml, gl, ⟨u', cA⟩, fA, -, -, hA, -⟩ := HM5.out.opn (len := len + 2) (by rw [setA_len]; exact Hl4.out) (show e2 < len + 2 by omega)
  have he := hA ((len : Int) + 1) (len + 1) (by omega)
  have HE := Lib.hid he.1
  have HKE := Lib.hid (HK5.out.trans he.2)
  have d2 : (e2 : Int) < (len : Int) + 2 := by omega
  clear hA he
  go_wp2_with fail
  go_returns
  rw [HMF.out]
  exact ⟨rfl, HE.out, HKE.out⟩
end Go.Proofs.Ytepegohopgnmnaa

namespace Go.Proofs.Ytepegohopgnmnaa
open Go.RowKit

/-- What maybe does: a part and a split behind it. -/
def mbPost (t : Value) (M : Nat) (T : Tr) (L : List Sd) (ah : Nat) (w : World) (e : Ending) (w' : World) : Prop :=
  e = .returned (.tuple #[.int .i64 ((mkF T L).1.length : Int), .int .i64 ((mkF T L).2.2 : Int)]) ∧ mkW w' t M (setA ((mkF T L).1 ++ [sS (mkF T L).2.1 0]) ah (mkF T L).1.length) ∧ kpM M w w'
set_option maxRecDepth 100000 in
set_option maxHeartbeats 4000000 in
theorem maybe9 (N : Nat → Nd) (n b off cap j : Nat) (H1 : PrtC N n b off cap j) (M : Nat) (L : List Sd) (ah : Nat) (w : World) (hb : b < M) (hlen : L.length + (nst (trT N j) + 1) ≤ 1000) (hah : ah < L.length)
    (hm : mkW w (.slice (some ⟨b, off, none⟩) n cap) M L) (hr : rdN w b off n N) :
    Calls Try.prog 82 #[.pointer (some ⟨M, 0, none⟩), .int .i64 (j : Int), .int .i64 (ah : Int)] w (mbPost (.slice (some ⟨b, off, none⟩) n cap) M (trT N j) L ah w) := by
  have hc1 := H1 M L w hb (by omega) hm hr
  have l1 := mk_len (trT N j) L; have b1 := mk_bd (trT N j) L
  unfold mbPost
  obtain ⟨X, hX⟩ : ∃ X, mkF (trT N j) L = X := ⟨_, rfl⟩
  obtain ⟨LX, f1, e1⟩ := X
  rw [hX] at hc1 l1 b1 ⊢
  simp only at l1 b1 ⊢
  obtain ⟨len, hln⟩ : ∃ len, LX.length = len := ⟨_, rfl⟩
  obtain ⟨L3, hL3⟩ : ∃ L3, LX ++ [sS f1 0] = L3 := ⟨_, rfl⟩
  have hl3 : L3.length = len + 1 := by rw [← hL3]; simp [hln]
  rw [hln, hL3]
  have HLN := Lib.hid hln; have HL3 := Lib.hid hL3; have Hl3 := Lib.hid hl3
  have HC1 := Lib.hid hc1
  have d0 : (0 : Int) ≤ (ah : Int) := by omega
  have hL9 : len ≤ 1000 := by omega
  have hal : ah < len := by omega
  clear hc1 hX H1 hm hr l1 b1 hlen hln hL3 hl3 hah
  go_enter Try.func82, Try.ntmps82
  go_wp2_with fail
  refine HC1.out.mono ?_
  rintro e w1 ⟨rfl, hm1, hk1⟩
  simp only at hm1
  have HP2 := Lib.hid (mputS _ M LX L3 len (f1 : Int) 0 w1 HLN.out (by omega) HL3.out hm1)
  have HK1 := Lib.hid hk1
  clear hm1 hk1 HC1
  simp only
  go_wp2_with (refine wpList_build_stA rfl _ _ rfl 3 (f1 : Int) rfl rfl ?_)
  refine HP2.out.mono ?_
  rintro e w3 ⟨rfl, hm3, hk3⟩
  obtain ⟨g, c, mc, ml, gl, ⟨u, cA⟩, fA, -, -, hA, -⟩ := hm3.opn Hl3.out (show ah < len + 1 by omega)
  have he := hA (len : Int) len rfl
  have HE := Lib.hid he.1
  have HKE := Lib.hid ((HK1.out.trans hk3).trans he.2)
  have d1 : (ah : Int) < (len : Int) + 1 := by omega
  clear hm3 hk3 HP2 HK1 hA he
  go_wp2_with fail
  go_returns
  exact ⟨rfl, HE.out, HKE.out⟩

/-- What circle does. -/
def edPost (t : Value) (M : Nat) (R : List Sd × Nat) (w : World) (e : Ending) (w' : World) : Prop := e = .returned (.int .i64 (R.2 : Int)) ∧ mkW w' t M R.1 ∧ kpM M w w'
theorem edL9_circle (T : Tr) (L : List Sd) (ah s : Nat) (U : List Sd) (hs : (mkF T L).1.length = s) (hU : setA ((mkF T L).1 ++ [sS (mkF T L).2.1 0]) ah s = U) (hul : U.length = s + 1) (he : (mkF T L).2.2 < s) :
    edL9 true (opL (mkF T) 1 L ah) = (setB (setA U (mkF T L).2.2 s ++ [sE 0]) s (s + 1), s + 1) := by
  have e : opL (mkF T) 1 L ah = (U, (mkF T L).2.2, [s]) := by rw [← hU, ← hs]; rfl
  rw [e]
  unfold edL9
  simp only [if_true, List.headD_cons, hul]
  rw [setA_two, setA_app _ _ _ _ (by omega)]
  rfl
set_option maxRecDepth 100000 in
set_option maxHeartbeats 4000000 in
theorem circle9 (N : Nat → Nd) (n b off cap j : Nat) (H1 : PrtC N n b off cap j) (M : Nat) (L : List Sd) (ah : Nat) (w : World) (hb : b < M) (hlen : L.length + (nst (trT N j) + 2) ≤ 1000) (hah : ah < L.length)
    (hm : mkW w (.slice (some ⟨b, off, none⟩) n cap) M L) (hr : rdN w b off n N) :
    Calls Try.prog 75 #[.pointer (some ⟨M, 0, none⟩), .int .i64 (j : Int), .int .i64 (ah : Int)] w (edPost (.slice (some ⟨b, off, none⟩) n cap) M (edL9 true (opL (mkF (trT N j)) 1 L ah)) w) := by
  have hc1 := maybe9 N n b off cap j H1 M L ah w hb (by omega) hah hm hr
  have l1 := mk_len (trT N j) L; have b1 := mk_bd (trT N j) L
  obtain ⟨s, hs⟩ : ∃ s, (mkF (trT N j) L).1.length = s := ⟨_, rfl⟩
  obtain ⟨U, hU⟩ : ∃ U, setA ((mkF (trT N j) L).1 ++ [sS (mkF (trT N j) L).2.1 0]) ah s = U := ⟨_, rfl⟩
  have hul : U.length = s + 1 := by rw [← hU, setA_len]; simp [hs]
  have hed := edL9_circle (trT N j) L ah s U hs hU hul (by omega)
  unfold mbPost at hc1
  rw [hs, hU] at hc1
  rw [hed]
  obtain ⟨e1, he1⟩ : ∃ e1, (mkF (trT N j) L).2.2 = e1 := ⟨_, rfl⟩
  rw [he1] at hc1 ⊢
  obtain ⟨U2, hU2⟩ : ∃ U2, setA U e1 s ++ [sE 0] = U2 := ⟨_, rfl⟩
  have hl2 : U2.length = s + 2 := by rw [← hU2]; simp [setA_len, hul]
  rw [hU2]
  have HU2 := Lib.hid hU2; have Hul := Lib.hid hul; have Hl2 := Lib.hid hl2; have HC1 := Lib.hid hc1
  have d0 : (0 : Int) ≤ (e1 : Int) := by omega
  have s0 : (0 : Int) ≤ (s : Int) := by omega
  have hes : e1 < s := by omega
  have hs9 : s ≤ 1000 := by omega
  clear hc1 hs hU hul hed he1 hU2 hl2 l1 b1 H1 hm hr hlen hah
  go_enter Try.func75, Try.ntmps75
  go_wp2_with fail
  refine HC1.out.mono ?_
  rintro e w1 ⟨rfl, hm1, hk1⟩
  obtain ⟨g, c, mc, ml, gl, ⟨u, cA⟩, fA, -, -, hA, -⟩ := hm1.opn Hul.out (show e1 < s + 1 by omega)
  have he := hA (s : Int) s rfl
  obtain ⟨W2, hW2⟩ : ∃ W2, w1.setCell ⟨g, e1 * 7 + 1, none⟩ (.int .i64 (s : Int)) = W2 := ⟨_, rfl⟩
  rw [hW2] at he
  have HW2 := Lib.hid hW2
  have HK2 := Lib.hid (hk1.trans he.2)
  have HP2 := Lib.hid (mputE _ M (setA U e1 s) U2 (s + 1) W2 (by rw [setA_len]; exact Hul.out) (by omega) HU2.out he.1)
  have d1 : (e1 : Int) < (s : Int) + 1 := by omega
  clear hm1 hk1 HC1 hA he hW2
  go_upto_region 3 with (fail)
  rw [HW2.out]
  clear mc ml gl cA fA HW2
  go_wp2_with (refine wpList_build_st0 rfl _ rfl 2 rfl ?_)
  refine HP2.out.mono ?_
  rintro e w3 ⟨rfl, hm3, hk3⟩
  obtain ⟨g, c, mc, ml, gl, -, -, ⟨u, cB⟩, fB, -, hB⟩ := hm3.opn Hl2.out (show s < s + 2 by omega)
  have he := hB ((s : Int) + 1) (s + 1) (by omega)
  have HE := Lib.hid he.1
  have HKE := Lib.hid ((HK2.out.trans hk3).trans he.2)
  have d2 : (s : Int) < (s : Int) + 2 := by omega
  clear hm3 hk3 HP2 HK2 hB he
  go_wp2_with fail
  go_returns
  exact ⟨rfl, HE.out, HKE.out⟩
end Go.Proofs.Ytepegohopgnmnaa
