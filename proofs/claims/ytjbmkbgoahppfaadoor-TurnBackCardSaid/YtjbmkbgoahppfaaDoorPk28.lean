/-
  The walk of turn.put: a part, turned, behind some nodes; by recursion.
-/
import Derived.Test.YtjbmkbgoahppfaaDoorPk27
import Derived.Test.YtjbmkbgoahppfaaDoorPk3
import Derived.Test.YtjbmkbgoahppfaaDoorPk20
import Derived.Deep.Cut
namespace Go.Proofs.YtjbmkbgoahppfaaDoor
open Go.RowKit

/-- Blocks below B are kept, and all those that hold no nodes. -/
def kpt (B : Nat) (w w' : World) : Prop := Below B w w' ∧ ∀ (k : Nat) (c : Array Value) (t : TypeId) (fr : Nat × Nat), w.heap[k]? = some (.cells c t fr) → t ≠ 45 → w'.heap[k]? = some (.cells c t fr)
theorem kpt.refl (B : Nat) (w : World) : kpt B w w := ⟨Below.refl _ _, fun _ _ _ _ h _ => h⟩
theorem kpt.trans {B : Nat} {w w1 w2 : World} (h1 : kpt B w w1) (h2 : kpt B w1 w2) : kpt B w w2 := ⟨h1.1.trans h2.1, fun k c t fr h ht => h2.2 k c t fr (h1.2 k c t fr h ht) ht⟩
theorem kpt.of_below {B : Nat} {w w' : World} (hB : B ≤ w.heap.size) (h : Below w.heap.size w w') : kpt B w w' := ⟨h.mono hB, fun k c t fr hk _ => by rw [h.block k (lt_of_block hk)]; exact hk⟩
theorem kpt.of_grown {B n : Nat} {w w' : World} {v : Value} {xs : List Value} (hB : B ≤ w.heap.size) (ho : w.ownsRow B 45 7 v n xs) (h : w.grownBy w' v.ownBlock) : kpt B w w' := by
  refine ⟨⟨h.os, h.tape, h.output, h.size, fun k hk => h.block k (by omega) fun e => ?_⟩, fun k c t fr hk ht => ?_⟩
  · have := (ho.lt k e.symm).1; omega
  · rw [h.block k (lt_of_block hk) fun e => ?_]
    · exact hk
    · rcases ho.2 with ⟨rfl, _⟩ | ⟨g, cp, cur, rfl, _, p1, _⟩
      · simp [Value.ownBlock] at e
      · have hg : k = g := by simpa [Value.ownBlock] using e
        subst hg
        rw [p1] at hk
        simp at hk
        exact ht hk.2.1.symm
/-- An append of one node that a literal holds. -/
theorem append_put {w : World} {ops : Array Oper} {rest : List Oper} {o : Oper} {a : Act} {Q : Exit → Act → World → Prop} (hgd : o.guard = none) (s x : Operand)
    (ho : o.op = .call { callee := .builtin .append, args := #[s, x], argTypes := #[22, 22] }) (base : Nat) (v : Value) (l : List Nd) (hs : a.eval s = v)
    (hown : w.ownsRow base 45 7 v l.length (nds l)) (g c : Nat) (m : List Nd) (k : Nat) (hk : k = m.length) (hx : a.eval x = .slice (some ⟨g, 0, none⟩) k c)
    (hcell : ∀ j u, (nds m)[j]? = some u → w.cell? ((⟨g, 0, none⟩ : Addr).add j) = some u) (hlen : l.length + m.length ≤ 100000) (hbase : base ≤ w.heap.size)
    (h : ∀ v' w', w'.ownsRow base 45 7 v' (l ++ m).length (nds (l ++ m)) → kpt base w w' → wpList Tryd.prog ops Q rest (a.put o.dst v') w') : wpList Tryd.prog ops Q (o :: rest) a w := by
  subst hk
  obtain ⟨i0, hi, hz0, hz1, hz2⟩ := info_parts infoNode
  refine wpList_append_own w hgd s x 22 ho base 45 i0 (.agg #[.int .i64 0, .int .u64 0, .int .u64 0, .int .u64 0, .int .u64 0, .int .i64 0, .int .i64 0]) 7 56 Tryd.underlying22 hi hz0 hz1 hz2 rfl (by decide) v l.length (nds l) hs hown ⟨g, 0, none⟩ m.length c (nds m) hx (nds_len m) hcell (nds_cell m) (by unfold maxLen; omega) (by omega) hbase ?_
  intro v' w' h1 h2 _
  refine h v' w' ?_ (kpt.of_grown hbase hown h2)
  rw [nds_append, List.length_append]; exact h1

theorem isNd.free7 {w : World} {b : Nat} {k a0 a1 a2 a3 lo hi : Int} (h : isNd w b k a0 a1 a2 a3 lo hi) :
    w.frozen? ⟨b, 0, none⟩ = false ∧ w.frozen? ⟨b, 1, none⟩ = false ∧ w.frozen? ⟨b, 2, none⟩ = false ∧ w.frozen? ⟨b, 3, none⟩ = false ∧ w.frozen? ⟨b, 4, none⟩ = false ∧ w.frozen? ⟨b, 5, none⟩ = false ∧ w.frozen? ⟨b, 6, none⟩ = false := by
  unfold isNd at h
  refine ⟨?_, ?_, ?_, ?_, ?_, ?_, ?_⟩ <;> simp [World.frozen?, h]
theorem isNd.stored {w : World} {b : Nat} {k a0 a1 a2 a3 lo hi : Int} (h : isNd w b k a0 a1 a2 a3 lo hi) (k' y0 y1 y2 y3 lo' hi' : Int) :
    isNd (((((((w.setCell ⟨b, 0, none⟩ (.int .i64 k')).setCell ⟨b, 1, none⟩ (.int .u64 y0)).setCell ⟨b, 2, none⟩ (.int .u64 y1)).setCell ⟨b, 3, none⟩ (.int .u64 y2)).setCell ⟨b, 4, none⟩ (.int .u64 y3)).setCell ⟨b, 5, none⟩ (.int .i64 lo')).setCell ⟨b, 6, none⟩ (.int .i64 hi')) b k' y0 y1 y2 y3 lo' hi' := by
  have h1 := heap_setCell_same w b 0 _ _ (.int .i64 k') h
  have h2 := heap_setCell_same _ b 1 _ _ (.int .u64 y0) h1
  have h3 := heap_setCell_same _ b 2 _ _ (.int .u64 y1) h2
  have h4 := heap_setCell_same _ b 3 _ _ (.int .u64 y2) h3
  have h5 := heap_setCell_same _ b 4 _ _ (.int .u64 y3) h4
  have h6 := heap_setCell_same _ b 5 _ _ (.int .i64 lo') h5
  have h7 := heap_setCell_same _ b 6 _ _ (.int .i64 hi') h6
  unfold isNd
  rw [h7]
  simp
theorem below_nd7 {B : Nat} {a w : World} {c : Nat} (h : Below B a w) (hc : B ≤ c) (k' y0 y1 y2 y3 lo' hi' : Int) : Below B a
    (((((((w.setCell ⟨c, 0, none⟩ (.int .i64 k')).setCell ⟨c, 1, none⟩ (.int .u64 y0)).setCell ⟨c, 2, none⟩ (.int .u64 y1)).setCell ⟨c, 3, none⟩ (.int .u64 y2)).setCell ⟨c, 4, none⟩ (.int .u64 y3)).setCell ⟨c, 5, none⟩ (.int .i64 lo')).setCell ⟨c, 6, none⟩ (.int .i64 hi')) :=
  ((((((h.setCell hc _).setCell hc _).setCell hc _).setCell hc _).setCell hc _).setCell hc _).setCell hc _
theorem isNd.put0o {w : World} {b c : Nat} {k a0 a1 a2 a3 lo hi : Int} (h : isNd w b k a0 a1 a2 a3 lo hi) (hc : b ≠ c) (m : Value) : isNd (w.setCell ⟨c, 0, none⟩ m) b k a0 a1 a2 a3 lo hi := by
  unfold isNd at h ⊢
  rw [← h]
  show (w.heap.modify c _)[b]? = _
  rw [Array.getElem?_modify, if_neg (Ne.symm hc)]

@[reducible] def ndr8 (x : Nd) : Value := .agg #[.int .i64 x.k, .int .u64 x.a, .int .u64 x.b, .int .u64 x.c, .int .u64 x.d, .int .i64 x.lo, .int .i64 x.hi]
set_option maxHeartbeats 2000000 in
theorem alone_is (k a b c d lo hi m : Int) (hm : m = if k = 3 then 4 else if k = 4 then 3 else k) (w : World) :
    Calls Tryd.prog 32 #[.agg #[.int .i64 k, .int .u64 a, .int .u64 b, .int .u64 c, .int .u64 d, .int .i64 lo, .int .i64 hi]] w fun e w' =>
      e = .returned (.agg #[.int .i64 m, .int .u64 a, .int .u64 b, .int .u64 c, .int .u64 d, .int .i64 lo, .int .i64 hi]) ∧ Below w.heap.size w w' := by
  have E0 := isNd.new w k a b c d lo hi
  have HQ : Below w.heap.size w (w.alloc (.cells #[.int .i64 k, .int .u64 a, .int .u64 b, .int .u64 c, .int .u64 d, .int .i64 lo, .int .i64 hi] 45)) := (Below.refl _ _).alloc (Nat.le_refl _) _
  have hs : (w.alloc (.cells #[.int .i64 k, .int .u64 a, .int .u64 b, .int .u64 c, .int .u64 d, .int .i64 lo, .int .i64 hi] 45)).heap.size = w.heap.size + 1 := by simp
  have Z0 := isNd.new (w.alloc (.cells #[.int .i64 k, .int .u64 a, .int .u64 b, .int .u64 c, .int .u64 d, .int .i64 lo, .int .i64 hi] 45)) 0 0 0 0 0 0 0
  have HQ2 := HQ.alloc HQ.size (.cells #[.int .i64 0, .int .u64 0, .int .u64 0, .int .u64 0, .int .u64 0, .int .i64 0, .int .i64 0] 45)
  have E1 := E0.below ((Below.refl _ _).alloc (Nat.le_refl _) (.cells #[.int .i64 0, .int .u64 0, .int .u64 0, .int .u64 0, .int .u64 0, .int .i64 0, .int .i64 0] 45)) E0.lt
  rw [hs] at Z0
  have HZ := Lib.hid Z0; have HE := Lib.hid E1; have HB := Lib.hid HQ2
  clear E0 HQ Z0 HQ2 E1
  go_enter Tryd.func32, Tryd.ntmps32
  go_upto_region 1 with (fail)
  generalize (w.alloc (.cells #[.int .i64 k, .int .u64 a, .int .u64 b, .int .u64 c, .int .u64 d, .int .i64 lo, .int .i64 hi] 45)).alloc (.cells #[.int .i64 0, .int .u64 0, .int .u64 0, .int .u64 0, .int .u64 0, .int .i64 0, .int .i64 0] 45) = W at *
  clear hs
  have nd : ¬ w.heap.size = w.heap.size + 1 := by omega
  have hin : w.heap.size ≤ w.heap.size + 1 := by omega
  have hsW := HB.out.size
  by_cases h3 : k = 3
  · subst h3
    obtain rfl : m = 4 := by rw [hm, if_pos rfl]
    obtain ⟨p0, p1, p2, p3, p4, p5, p6⟩ := HE.out.cells
    have g0 := HE.out.free
    have E1 := Lib.hid (HE.out.put0 4)
    have Z1 := Lib.hid (HZ.out.put0o (c := w.heap.size) (by omega) (.int .i64 4))
    have B1 := Lib.hid (HB.out.setCell (p := ⟨w.heap.size, 0, none⟩) (Nat.le_refl _) (.int .i64 4))
    clear HE HZ HB hm
    go_upto_region 6 with (fail)
    generalize W.setCell ⟨w.heap.size, 0, none⟩ (.int .i64 4) = W1 at *
    clear p0 p1 p2 p3 p4 p5 p6 g0
    obtain ⟨p0, p1, p2, p3, p4, p5, p6⟩ := E1.out.cells
    obtain ⟨q0, q1, q2, q3, q4, q5, q6⟩ := Z1.out.cells
    obtain ⟨f0, f1, f2, f3, f4, f5, f6⟩ := Z1.out.free7
    have HS := Lib.hid (below_nd7 B1.out hin 4 a b c d lo hi)
    have Z := Lib.hid (Z1.out.stored 4 a b c d lo hi).cells
    clear E1 Z1 B1
    go_wp2_with fail
    refine bodyPost_ret (v := .agg #[.int .i64 4, .int .u64 a, .int .u64 b, .int .u64 c, .int .u64 d, .int .i64 lo, .int .i64 hi]) (by simp [results, Tryd.results32, go_sem, Z.out]) rfl ⟨rfl, HS.out⟩
  · by_cases h4 : k = 4
    · subst h4
      obtain rfl : m = 3 := by rw [hm]; rfl
      obtain ⟨p0, p1, p2, p3, p4, p5, p6⟩ := HE.out.cells
      have g0 := HE.out.free
      have E1 := Lib.hid (HE.out.put0 3)
      have Z1 := Lib.hid (HZ.out.put0o (c := w.heap.size) (by omega) (.int .i64 3))
      have B1 := Lib.hid (HB.out.setCell (p := ⟨w.heap.size, 0, none⟩) (Nat.le_refl _) (.int .i64 3))
      clear HE HZ HB hm
      go_upto_region 6 with (fail)
      generalize W.setCell ⟨w.heap.size, 0, none⟩ (.int .i64 3) = W1 at *
      clear p0 p1 p2 p3 p4 p5 p6 g0
      obtain ⟨p0, p1, p2, p3, p4, p5, p6⟩ := E1.out.cells
      obtain ⟨q0, q1, q2, q3, q4, q5, q6⟩ := Z1.out.cells
      obtain ⟨f0, f1, f2, f3, f4, f5, f6⟩ := Z1.out.free7
      have HS := Lib.hid (below_nd7 B1.out hin 3 a b c d lo hi)
      have Z := Lib.hid (Z1.out.stored 3 a b c d lo hi).cells
      clear E1 Z1 B1
      go_wp2_with fail
      refine bodyPost_ret (v := .agg #[.int .i64 3, .int .u64 a, .int .u64 b, .int .u64 c, .int .u64 d, .int .i64 lo, .int .i64 hi]) (by simp [results, Tryd.results32, go_sem, Z.out]) rfl ⟨rfl, HS.out⟩
    · obtain rfl : m = k := by rw [hm, if_neg h3, if_neg h4]
      have e3 : (m == 3) = false := beq_eq_false_iff_ne.2 h3
      have e4 : (m == 4) = false := beq_eq_false_iff_ne.2 h4
      obtain ⟨p0, p1, p2, p3, p4, p5, p6⟩ := HE.out.cells
      obtain ⟨q0, q1, q2, q3, q4, q5, q6⟩ := HZ.out.cells
      obtain ⟨f0, f1, f2, f3, f4, f5, f6⟩ := HZ.out.free7
      have HS := Lib.hid (below_nd7 HB.out hin m a b c d lo hi)
      have Z := Lib.hid (HZ.out.stored m a b c d lo hi).cells
      clear HE HZ HB h3 h4 hm
      go_wp2_with fail
      refine bodyPost_ret (v := .agg #[.int .i64 m, .int .u64 a, .int .u64 b, .int .u64 c, .int .u64 d, .int .i64 lo, .int .i64 hi]) (by simp [results, Tryd.results32, go_sem, Z.out]) rfl ⟨rfl, HS.out⟩
end Go.Proofs.YtjbmkbgoahppfaaDoor
