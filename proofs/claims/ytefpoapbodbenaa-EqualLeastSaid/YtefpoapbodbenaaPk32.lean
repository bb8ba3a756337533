/-
  Ways in memory: a row of structs of two ints and a slice, that a call owns, its words too. The struct's type is open.
  The walk of search's word: the symbols that lead to a pair that was met.
  The walk of the thirteenth reference's Heads.
  Rounds in place over a grid: which states words of so many symbols tell apart. Plain.
  Where a state goes by a symbol: the eleventh reference's Go at any automaton that may be.
-/
import Derived.Test.YtefpoapbodbenaaPk26
import Derived.Test.YtefpoapbodbenaaPk11
import Derived.Test.YtefpoapbodbenaaPk30
import Derived.Test.YtefpoapbodbenaaPk31
import Derived.Test.YtefpoapbodbenaaPk14
import Derived.BigRegion
import Derived.RegionTactic
import Derived.OwnWalk
import Derived.Test.YtefpoapbodbenaaPk13
import Derived.Test.YtefpoapbodbenaaPk12
namespace Go.Proofs.Ytefpoapbodbenaa
open Go.RowKit

structure Wv14 where
  a : Int
  b : Int
  p : Option Addr
  n : Nat
  c : Nat
def Wv14.word (x : Wv14) : Value := .slice x.p x.n x.c
def wvC : List Wv14 → List Value
  | [] => []
  | x :: G => .int .i64 x.a :: .int .i64 x.b :: x.word :: wvC G
theorem wvC_len : ∀ G, (wvC G).length = G.length * 3
  | [] => rfl
  | x :: G => by
    show (wvC G).length + 1 + 1 + 1 = (G.length + 1) * 3
    rw [wvC_len G]; omega
theorem wvC_app : ∀ (G : List Wv14) (x : Wv14), wvC (G ++ [x]) = wvC G ++ [.int .i64 x.a, .int .i64 x.b, x.word]
  | [], _ => rfl
  | y :: G, x => by
    show _ :: _ :: _ :: wvC (G ++ [x]) = _ :: _ :: _ :: (wvC G ++ _)
    rw [wvC_app G x]
theorem wvC_at : ∀ (G : List Wv14) (i : Nat) (h : i < G.length), (wvC G)[i * 3]? = some (.int .i64 (G[i]).a) ∧ (wvC G)[i * 3 + 1]? = some (.int .i64 (G[i]).b) ∧ (wvC G)[i * 3 + 2]? = some (G[i]).word
  | [], _, h => absurd h (Nat.not_lt_zero _)
  | x :: G, 0, _ => ⟨rfl, rfl, rfl⟩
  | x :: G, i + 1, h => by
    obtain ⟨h1, h2, h3⟩ := wvC_at G i (Nat.lt_of_succ_lt_succ h)
    rw [show (i + 1) * 3 = i * 3 + 1 + 1 + 1 by omega]
    exact ⟨h1, h2, h3⟩
def wdF (u : List Nat) (j : Nat) : Int := (u.getD j 0 : Nat)
/-- A way in memory. -/
def okWv (w : World) (base : Nat) (x : Wv14) (X : (Nat × Nat) × List Nat) : Prop := x.a = (X.1.1 : Nat) ∧ x.b = (X.1.2 : Nat) ∧ spF w base x.word (wdF X.2) X.2.length
theorem okWv.below {w w' : World} {base : Nat} {x : Wv14} {X : (Nat × Nat) × List Nat} (h : okWv w base x X) (hb : Below w.heap.size w w') : okWv w' base x X := ⟨h.1, h.2.1, h.2.2.below hb⟩
theorem okWv.len {w : World} {base : Nat} {x : Wv14} {X : (Nat × Nat) × List Nat} (h : okWv w base x X) : x.n = X.2.length := by
  obtain ⟨p, c, e⟩ := spF_of h.2.2
  exact (Value.slice.inj e).2.1
/-- The ways in memory. -/
structure WyR (w : World) (base : Nat) (e : TypeId) (sv : Value) (G : List Wv14) (l : Wy (Nat × Nat)) : Prop where
  row : w.ownsRow base e 3 sv G.length (wvC G)
  len : G.length = l.length
  oks : ∀ (i : Nat) (x : Wv14) (X : (Nat × Nat) × List Nat), G[i]? = some x → l[i]? = some X → okWv w base x X
  ap : ∀ x, x ∈ G → x.word.ownBlock = none ∨ x.word.ownBlock ≠ sv.ownBlock
section
variable {w w' : World} {base : Nat} {e : TypeId} {sv : Value} {G : List Wv14} {l : Wy (Nat × Nat)}
theorem WyR.below (H : WyR w base e sv G l) (hb : Below w.heap.size w w') : WyR w' base e sv G l :=
  ⟨owns_below H.row hb, H.len, fun i x X h1 h2 => (H.oks i x X h1 h2).below hb, H.ap⟩
theorem WyR.slice (H : WyR w base e sv G l) : ∃ p c, sv = .slice p l.length c := by
  rw [← H.len]
  rcases id H.row.2 with ⟨rfl, h0⟩ | ⟨g, cap, cur, rfl, _⟩
  · exact ⟨none, 0, by rw [h0]⟩
  · exact ⟨_, cap, rfl⟩
/-- Its cells. -/
theorem WyR.cell {p : Option Addr} {n c : Nat} (H : WyR w base e (.slice p n c) G l) (i : Nat) (hi : i < l.length) : ∃ g u, p = some ⟨g, 0, none⟩ ∧ base ≤ g ∧ g < w.heap.size ∧ n = l.length ∧
    w.cell? ⟨g, i * 3, none⟩ = some (.int .i64 ((l[i]).1.1 : Nat)) ∧ w.cell? ⟨g, i * 3 + 1, none⟩ = some (.int .i64 ((l[i]).1.2 : Nat)) ∧ w.cell? ⟨g, i * 3 + 2, none⟩ = some u ∧ spF w base u (wdF (l[i]).2) (l[i]).2.length := by
  have hG := H.len
  have hiG : i < G.length := by omega
  rcases id H.row.2 with ⟨_, h0⟩ | ⟨g, cap, cur, h1, _⟩
  · omega
  · have e1 := (Value.slice.inj h1).1
    have e2 := (Value.slice.inj h1).2.1
    subst e1
    have hr := H.row
    rw [h1] at hr
    have hlt := World.ownsRow.lt hr g rfl
    obtain ⟨k1, k2, k3⟩ := wvC_at G i hiG
    obtain ⟨o1, o2, o3⟩ := H.oks i _ _ (List.getElem?_eq_getElem hiG) (List.getElem?_eq_getElem hi)
    refine ⟨g, (G[i]).word, rfl, hlt.1, hlt.2, by rw [e2, hG], ?_, ?_, ?_, o3⟩
    · rw [World.ownsRow.cellAt hr _ (by omega), k1, o1]
    · rw [World.ownsRow.cellAt hr _ (by omega), k2, o2]
    · rw [World.ownsRow.cellAt hr _ (by omega), k3]
/-- The first one. -/
theorem WyR.one {w1 : World} {p q : Nat} (h : w1.ownsRow base e 3 sv 1 [.int .i64 (p : Nat), .int .i64 (q : Nat), .slice none 0 0]) : WyR w1 base e sv [⟨(p : Nat), (q : Nat), none, 0, 0⟩] [((p, q), [])] where
  row := h
  len := rfl
  oks := fun i x X h1 h2 => by
    cases i with
    | zero =>
      cases h1; cases h2
      exact ⟨rfl, rfl, spF_zero _ _ _⟩
    | succ i => cases h1
  ap := fun x hx => by
    have : x = ⟨(p : Nat), (q : Nat), none, 0, 0⟩ := by simpa using hx
    subst this
    exact .inl rfl
/-- One more: the row grows, or is laid anew. -/
theorem WyR.app (H : WyR w base e sv G l) {v' : Value} {x : Wv14} {X : (Nat × Nat) × List Nat} (hg : w.grownBy w' sv.ownBlock) (hrow : w'.ownsRow base e 3 v' (G.length + 1) (wvC G ++ [.int .i64 x.a, .int .i64 x.b, x.word])) (hv : v'.ownBlock = sv.ownBlock ∨ v'.ownBlock = some w.heap.size)
    (hx : okWv w base x X) (hap : x.word.ownBlock = none ∨ x.word.ownBlock ≠ sv.ownBlock) : WyR w' base e v' (G ++ [x]) (l ++ [X]) := by
  have key : ∀ (y : Wv14) (Y : (Nat × Nat) × List Nat), okWv w base y Y → (y.word.ownBlock = none ∨ y.word.ownBlock ≠ sv.ownBlock) → okWv w' base y Y ∧ (y.word.ownBlock = none ∨ y.word.ownBlock ≠ v'.ownBlock) := fun y Y hy ha => by
    refine ⟨⟨hy.1, hy.2.1, World.ownsRow.kept hy.2.2 hg ha⟩, ?_⟩
    rcases ha with h1 | h1
    · exact .inl h1
    · cases hb : y.word.ownBlock with
      | none => exact .inl rfl
      | some b =>
        right
        rcases hv with h2 | h2
        · rw [h2, ← hb]; exact h1
        · rw [h2]
          intro h3
          have := (World.ownsRow.lt hy.2.2 b hb).2
          have h4 : b = w.heap.size := by simpa using h3
          omega
  have hlen := H.len
  refine ⟨by rw [List.length_append, wvC_app]; exact hrow, by simp [hlen], fun i y Y h1 h2 => ?_, fun y hy => ?_⟩
  · rcases Nat.lt_or_ge i G.length with g | g
    · rw [List.getElem?_append_left g] at h1
      rw [List.getElem?_append_left (by omega)] at h2
      exact (key y Y (H.oks i y Y h1 h2) (H.ap y (List.mem_of_getElem? h1))).1
    · rw [List.getElem?_append_right g] at h1
      rw [List.getElem?_append_right (by omega)] at h2
      have h0 : i - G.length = 0 := by
        rcases Nat.eq_zero_or_pos (i - G.length) with q | q
        · exact q
        · rw [List.getElem?_eq_none (by simp; omega)] at h1; cases h1
      rw [← hlen, h0] at h2
      rw [h0] at h1
      cases h1; cases h2
      exact (key x X hx hap).1
  · rcases List.mem_append.1 hy with g | g
    · obtain ⟨i, hi, rfl⟩ := List.getElem_of_mem g
      exact (key _ _ (H.oks i _ _ (List.getElem?_eq_getElem hi) (List.getElem?_eq_getElem (by omega))) (H.ap _ (List.getElem_mem hi))).2
    · have : y = x := by simpa using g
      subst this
      exact (key y X hx hap).2
end
end Go.Proofs.Ytefpoapbodbenaa

namespace Go.Proofs.Ytefpoapbodbenaa
open Go.RowKit Go.Sort

/-- The library's Reverse at a row that the call owns. -/
theorem rev14 (base : Nat) (p : Option Addr) (c : Nat) (l : List Nat) (hl : l.length ≤ 1000000) (w : World) (h : spO w base (.slice p l.length c) l) :
    Calls Try.prog 39 #[.slice p l.length c] w fun e w' => e = .returned (.tuple #[]) ∧ rdL w' p l.length (wdF l.reverse) ∧ Below base w w' := by
  rcases id h.2 with ⟨h1, h2⟩ | ⟨g, cap, cur, h1, hb, hg, -⟩
  · rw [h2]
    refine (AnyE.slices_Reverse_empty lays8I p c w).mono ?_
    rintro e w' ⟨rfl, rfl⟩
    exact ⟨rfl, fun j hj => absurd hj (Nat.not_lt_zero _), Below.refl _ _⟩
  · obtain ⟨e1, e2, e3⟩ := Value.slice.inj h1
    subst e1
    have hH : Sort.Holds (fun z : Nat => Value.int .i64 (z : Int)) w g 0 l.toArray := fun j hj => by
      have hj' : j < l.length := by simpa using hj
      rw [Nat.zero_add]
      refine ⟨?_, World.ownsRow.frozenAt h j⟩
      rw [World.ownsRow.cellAt h j (by omega)]
      unfold spl9
      rw [List.getElem?_map, List.getElem?_eq_getElem hj']
      simp [getElem!_pos l.toArray j hj]
    have hc := AnyE.slices_Reverse lays8I (fun z : Nat => Value.int .i64 (z : Int)) (fun _ => rfl) g 0 c l w hH (by omega)
    refine hc.mono ?_
    rintro e w' ⟨rfl, n, rfl⟩
    refine ⟨rfl, fun j hj => ?_, putRow_below _ _ _ _ _ _ _ hb⟩
    have hj2 : j < l.reverse.toArray.size := by simpa using hj
    have := Sort.cell?_putRow (fun z : Nat => Value.int .i64 (z : Int)) (Sort.ahead w n) g 0 l.toArray l.reverse.toArray (Sort.holds_ahead _ w n _ _ _ hH) (by simp) j hj2
    refine ⟨g, 0, rfl, ?_, ?_⟩
    · rw [size_putRow]
      exact (World.ownsRow.lt h g rfl).2
    · rw [this]
      congr 2
      unfold wdF
      rw [getElem!_pos l.reverse.toArray j hj2, List.getD_eq_getElem?_getD, List.getElem?_eq_getElem (by simpa using hj2)]
      simp
/-- A step in a block. -/
def isSp (w : World) (h : Nat) (a b c : Int) : Prop := w.heap[h]? = some (.cells #[.int .i64 a, .int .i64 b, .int .i64 c] 76 (0, 0))
theorem isSp.lt {w : World} {h : Nat} {a b c : Int} (H : isSp w h a b c) : h < w.heap.size := lt_of_block H
theorem isSp.cells {w : World} {h : Nat} {a b c : Int} (H : isSp w h a b c) : w.cell? ⟨h, 0, none⟩ = some (.int .i64 a) ∧ w.cell? ⟨h, 1, none⟩ = some (.int .i64 b) ∧ w.cell? ⟨h, 2, none⟩ = some (.int .i64 c) := by
  unfold isSp at H
  exact ⟨by simp [World.cell?, H], by simp [World.cell?, H], by simp [World.cell?, H]⟩
theorem isSp.free {w : World} {h : Nat} {a b c : Int} (H : isSp w h a b c) (j : Nat) : w.frozen? ⟨h, j, none⟩ = false := by
  unfold isSp at H
  simp [World.frozen?, H]
theorem isSp.below {w w' : World} {h : Nat} {a b c : Int} (H : isSp w h a b c) (hb : Below w.heap.size w w') : isSp w' h a b c := (hb.block h H.lt).trans H
theorem isSp.put {w : World} {h : Nat} {a b c : Int} (H : isSp w h a b c) (a' b' c' : Int) : isSp (((w.setCell ⟨h, 0, none⟩ (.int .i64 a')).setCell ⟨h, 1, none⟩ (.int .i64 b')).setCell ⟨h, 2, none⟩ (.int .i64 c')) h a' b' c' := by
  have h1 := heap_setCell_same w h 0 _ _ (.int .i64 a') H
  have h2 := heap_setCell_same _ h 1 _ _ (.int .i64 b') h1
  have h3 := heap_setCell_same _ h 2 _ _ (.int .i64 c') h2
  unfold isSp
  rw [h3]; simp
theorem isSp.far {w : World} {h E : Nat} {a b c : Int} {v : Value} {l : List Nat} (H : isSp w h a b c) (ho : spO w E v l) : v.ownBlock = none ∨ v.ownBlock ≠ some h := by
  rcases id ho.2 with ⟨rfl, _⟩ | ⟨g', cap, cur, rfl, _, e4, _⟩
  · exact .inl rfl
  · refine .inr fun e2 => ?_
    have e5 : g' = h := by simpa [Value.ownBlock] using e2
    subst e5
    unfold isSp at H
    rw [e4] at H
    revert H
    simp only [Option.some.injEq, Obj.cells.injEq]
    rintro ⟨-, e7, -⟩
    revert e7
    decide
/-- The map's step to a pair. -/
theorem look14 {w : World} {b k : Nat} {D : Dm} (hown : ownsS w b k D) {p q : Nat} (hp : p ≤ 1000) (hq : q ≤ 1000) : ∃ a' b' c' : Int, D.atKey (kpL p q) (spD 0 0 0) = spD a' b' c' ∧
    (Instr.lookup 42 (.map (some b)) (.agg #[.int .i64 (p : Int), .int .i64 (q : Int)]) false).run Try.prog w = .ok (.agg #[.int .i64 a', .int .i64 b', .int .i64 c']) w := by
  obtain ⟨v, ps, hrun, hv⟩ := hown.lookup eqpLaw Try.underlying42 (zeroS14 w) (stE_mk 0 0 0) (ep_key (wfN hp) (wfN hq))
  obtain ⟨a, b, c, rfl, hz⟩ := stE_inv hv
  exact ⟨a, b, c, congrArg Prod.fst hz, hrun⟩
def sln14 : Value → Nat
  | .slice _ n _ => n
  | _ => 0

set_option maxRecDepth 100000 in
set_option maxHeartbeats 8000000 in
theorem word14 (X : Nat → Prop) (base S : Nat) (A : Dq14) (x : Da) (B : Dq14) (y : Da) (mb g c : Nat) (l : Mt14) (H : Nat → Nat) (p q : Nat) (u : List Nat) (w : World)
    (HI : srI X w base S A x B y mb g c l H) (hm : ((p, q), u) ∈ l) (hul : u.length ≤ 1000000) :
    Calls Try.prog 21 #[.pointer (some ⟨S, 0, none⟩), prV p q] w fun e w' => ∃ pt cc, e = .returned (.slice pt u.length cc) ∧ rdL w' pt u.length (wdF u) ∧ u.length ≤ cc ∧ Below w.heap.size w w' := by
  obtain ⟨mv, K, d, D, hM, -, -, hd, hs⟩ := HI
  obtain ⟨E, hE⟩ : ∃ E, w.heap.size = E := ⟨_, rfl⟩
  obtain ⟨W1, hW1⟩ : ∃ W1, w.alloc (.cells #[.int .i64 (p : Int), .int .i64 (q : Int)] 49) = W1 := ⟨_, rfl⟩
  have hb1 : Below E w W1 := hW1 ▸ hE ▸ (Below.refl _ _).alloc (Nat.le_refl _) _
  have hz1 : W1.heap.size = E + 1 := by rw [← hW1, World.size_alloc, hE]
  have hP1 : isPr W1 E p q := hW1 ▸ hE ▸ heap_alloc_new w _
  have hM1 := hM.below (hE.symm ▸ hb1)
  obtain ⟨hp, hq⟩ := hs (p, q) u hm
  obtain ⟨a0, b0, c0, hat, hlk⟩ := look14 (w := W1.drew) (hM1.below (Below.refl _ _).drew).mp hp hq
  have hbz : Below W1.heap.size W1 (W1.alloc (.cells #[.int .i64 0, .int .i64 0, .int .i64 0] 76)).drew := ((Below.refl _ _).alloc (Nat.le_refl _) _).drew
  obtain ⟨a0', b0', c0', hat', hlk'⟩ := look14 (w := (W1.alloc (.cells #[.int .i64 0, .int .i64 0, .int .i64 0] 76)).drew) (hM1.below hbz).mp hp hq
  obtain ⟨e1, e2, e3⟩ := spD_inj (hat.symm.trans hat')
  subst e1 e2 e3
  have HM := Lib.hid hM; have HD := Lib.hid hd; have HS := Lib.hid hs; have HAT := Lib.hid hat; have HME := Lib.hid hm
  have HB1 := Lib.hid hb1; have HW1 := Lib.hid hW1; have HZ1 := Lib.hid hz1
  have HKC : Hid (∀ w', Below W1.heap.size W1 w' → w'.cell? ⟨S, 10, none⟩ = some (.map (some mb)) ∧ w'.cell? ⟨E, 0, none⟩ = some (.int .i64 (p : Int)) ∧ w'.cell? ⟨E, 1, none⟩ = some (.int .i64 (q : Int))) := Lib.hid fun w' h => by
    obtain ⟨t0, t1⟩ := (hP1.below h).cells
    exact ⟨(hM1.below h).sr.cells.2.2.2.2.2.2.2.2.2.2.1, t0, t1⟩
  clear hM hd hs hm hb1 hW1 hP1 hM1 hp hq hat hat' hbz
  go_enter Try.func21, Try.ntmps21
  go_upto_region 2 with (fail)
  rw [HW1.out]
  have hE2 := Lib.hid hE
  clear hE
  go_cut [6] from 6 to 12 (fun sv wx => sv = .pointer (some ⟨E + 1, 0, none⟩) ∧ wx = (W1.alloc (.cells #[.int .i64 a0, .int .i64 b0, .int .i64 c0] 76)).drew)
  case first =>
    go_region_held_law (fun w' => w'.cell? ⟨S, 10, none⟩ = some (.map (some mb)) ∧ w'.cell? ⟨E, 0, none⟩ = some (.int .i64 (p : Int)) ∧ w'.cell? ⟨E, 1, none⟩ = some (.int .i64 (q : Int)))
      (first | exact HKC.out _ (Below.refl _ _) | exact HKC.out _ (Below.refl _ _).drew | exact HKC.out _ ((Below.refl _ _).alloc (Nat.le_refl _) _) | exact HKC.out _ ((Below.refl _ _).alloc (Nat.le_refl _) _).drew) (fail)
    all_goals (go_wp2_with fail; go_meet; exact ⟨rfl, rfl⟩)
  case rest =>
  obtain ⟨rfl, rfl⟩ := hcut
  obtain ⟨W2, hW2⟩ : ∃ W2, (W1.alloc (.cells #[.int .i64 a0, .int .i64 b0, .int .i64 c0] 76)).drew = W2 := ⟨_, rfl⟩
  have hb2 : Below W1.heap.size W1 W2 := hW2 ▸ ((Below.refl _ _).alloc (Nat.le_refl _) _).drew
  have hs2 : isSp W2 (E + 1) a0 b0 c0 := by rw [← hz1, ← hW2]; exact heap_alloc_new W1 _
  have HB2 : Hid (Below E w W2) := Lib.hid (HB1.out.trans (hb2.mono (by omega)))
  have HS2 := Lib.hid hs2
  have HO2 : Hid (spO W2 E (.slice none 0 0) ([] : List Nat).reverse) := Lib.hid ⟨rfl, .inl ⟨rfl, rfl⟩⟩
  have HEE : Hid (w.heap.size = E) := hE2
  have HU0 : Hid (u = u ++ []) := Lib.hid (List.append_nil u).symm
  rw [hW2]
  clear hW2 hb2 hs2 hlk hlk' HKC HW1 HB1 HZ1 hz1
  go_wp2_with fail
  go_loopw [5, 6] (fun wv sv wr => ∃ (h : Nat) (P : Nat × Nat) (v z : List Nat) (pt : Option Addr) (n cc : Nat) (a b cI : Int), wv = .slice pt n cc ∧ sv = .pointer (some ⟨h, 0, none⟩) ∧ Hid (isSp wr h a b cI) ∧ Hid (D.atKey (kpL P.1 P.2) (spD 0 0 0) = spD a b cI) ∧ Hid ((P, v) ∈ l) ∧ Hid (u = v ++ z) ∧ Hid (z.length = n) ∧ Hid (spO wr E (.slice pt n cc) z.reverse) ∧ Hid (Below E w wr)) (fun wv _ _ => u.length - sln14 wv)
  case atStart => exact ⟨E + 1, (p, q), u, [], none, 0, 0, a0, b0, c0, rfl, rfl, HS2, HAT, HME, HU0, Lib.hid rfl, HO2, HB2⟩
  case round =>
    clear HS2 HAT HME HU0 HO2 HB2
    obtain ⟨h, P, v, z, pt, n, cc, a, b, cI, rfl, rfl, HSP, HAT, HME, HUU, HZL, HO, HB⟩ := hrel
    have hMr := HM.out.below (HEE.out.symm ▸ HB.out)
    have y10 := hMr.sr.cells.2.2.2.2.2.2.2.2.2.2.1
    obtain ⟨s0, s1, s2⟩ := HSP.out.cells
    have hsl := HSP.out.lt
    rcases snoc_cases v with rfl | ⟨v', c', rfl⟩
    · obtain ⟨a', b', e⟩ := (HD.out P [] HME.out).1 rfl
      obtain ⟨rfl, rfl, rfl⟩ := spD_inj (HAT.out.symm.trans e)
      have huz : u = z := HUU.out
      subst huz
      have HO' : Hid (spO wr E (.slice pt u.reverse.length cc) u.reverse) := Lib.hid (by rw [List.length_reverse, HZL.out]; exact HO.out)
      have HCAP : Hid (n ≤ cc) := Lib.hid (by
        rcases id HO.out.2 with ⟨e1, e2⟩ | ⟨g', cap, cur, e1, _, _, e2, _⟩
        · have := (Value.slice.inj e1).2.1; omega
        · have h1 := (Value.slice.inj e1).2.1; have h2 := (Value.slice.inj e1).2.2; omega)
      have HRV := Lib.hid (rev14 E pt cc u.reverse (by rw [List.length_reverse]; exact hul) wr HO'.out)
      rw [List.length_reverse, HZL.out, List.reverse_reverse] at HRV
      clear HO HO' hMr
      go_wp2_with fail
      refine HRV.out.mono ?_
      rintro e w3 ⟨rfl, hr, hb3⟩
      have HF : Hid (∃ pt' cc', Value.slice pt n cc = .slice pt' u.length cc' ∧ rdL w3 pt' u.length (wdF u) ∧ u.length ≤ cc' ∧ Below w.heap.size w w3) := Lib.hid (by
        rw [HZL.out]
        exact ⟨pt, cc, rfl, hr, HCAP.out, HEE.out.symm ▸ HB.out.trans hb3⟩)
      clear hr hb3 HRV s0 s1 s2 y10
      go_wp2_with fail
      go_returns
      obtain ⟨pt', cc', e1, e2, e4, e3⟩ := HF.out
      exact ⟨pt', cc', by rw [← e1] <;> rfl, e2, e4, e3⟩
    · obtain ⟨Q, hQ, e⟩ := (HD.out P (v' ++ [c']) HME.out).2 v' c' rfl
      obtain ⟨rfl, rfl, rfl⟩ := spD_inj (HAT.out.symm.trans e)
      obtain ⟨hP1, hP2⟩ := HS.out Q v' hQ
      have b0 : ((c' : Int) != -1) = true := by simp
      have HME2 := Lib.hid hQ
      have HUU2 : Hid (u = v' ++ (c' :: z)) := Lib.hid (by rw [HUU.out, List.append_assoc]; rfl)
      have HZL2 : Hid ((c' :: z).length = n + 1) := Lib.hid (by rw [List.length_cons, HZL.out])
      have hnu : n < u.length := by rw [HUU2.out, List.length_append, HZL2.out]; omega
      have HNU := Lib.hid hnu
      obtain ⟨Q1, hQ1⟩ : ∃ Q1, Q.1 = Q1 := ⟨_, rfl⟩
      obtain ⟨Q2, hQ2⟩ : ∃ Q2, Q.2 = Q2 := ⟨_, rfl⟩
      have HQE : Hid (Q = (Q1, Q2)) := Lib.hid (Prod.ext hQ1 hQ2)
      rw [hQ1] at hP1 HSP s0; rw [hQ2] at hP2 HSP s1
      have hEr : E ≤ wr.heap.size := by have := HB.out.size; have := HEE.out; omega
      have hal : Below wr.heap.size wr (wr.alloc (.cells #[.int .i64 (c' : Int)] 3)) := (Below.refl _ _).alloc (Nat.le_refl _) _
      have HOA : Hid (spO (wr.alloc (.cells #[.int .i64 (c' : Int)] 3)) E (.slice pt n cc) z.reverse) := Lib.hid (owns_below HO.out hal)
      have HSA : Hid (isSp (wr.alloc (.cells #[.int .i64 (c' : Int)] 3)) h Q1 Q2 c') := Lib.hid (HSP.out.below hal)
      have HBA : Hid (Below E w (wr.alloc (.cells #[.int .i64 (c' : Int)] 3))) := Lib.hid (HB.out.trans (hal.mono hEr))
      have HLE : Hid (z.reverse.length ≤ 1000000) := Lib.hid (by rw [List.length_reverse, HZL.out]; omega)
      have HSZ : Hid (E ≤ (wr.alloc (.cells #[.int .i64 (c' : Int)] 3)).heap.size) := Lib.hid (by rw [World.size_alloc]; omega)
      clear HO HSP HB hMr y10 hal hQ HUU HAT hQ1 hQ2 hsl e
      go_wp2_with (at_builtin; refine append_nx2 rfl _ _ rfl E (.slice pt n cc) z.reverse rfl HOA.out wr.heap.size c' rfl (by simp) HLE.out HSZ.out ?_; intro va w3 hown hgrow hat; have HO := Lib.hid hown; have HG := Lib.hid hgrow; clear hown hgrow hat; refine Hid.out ?_)
      obtain ⟨pt', cc', hv'⟩ := spO_of HO.out
      have hl : (z.reverse ++ [c']).length = n + 1 := by have := HZL.out; rw [List.length_append, List.length_reverse]; simp; omega
      rw [hl] at hv'
      subst hv'
      have HO3 : Hid (spO w3 E (.slice pt' (n + 1) cc') (c' :: z).reverse) := Lib.hid (by rw [List.reverse_cons]; exact HO.out)
      have hS3 : isSp w3 h Q1 Q2 c' := by
        refine (HG.out.block h HSA.out.lt fun e2 => ?_).trans HSA.out
        rcases HSA.out.far HOA.out with e3 | e3
        · rw [e3] at e2; cases e2
        · exact e3 e2.symm
      have HB3 : Hid (Below E w w3) := Lib.hid (HBA.out.grown HG.out HSZ.out fun r hr => (World.ownsRow.lt HOA.out r hr).1)
      obtain ⟨W7, hW7⟩ : ∃ W7, w3.alloc (.cells #[.int .i64 (Q1 : Int), .int .i64 (Q2 : Int), .int .i64 (c' : Int)] 76) = W7 := ⟨_, rfl⟩
      obtain ⟨h7, hh7⟩ : ∃ h7, w3.heap.size = h7 := ⟨_, rfl⟩
      have hb7 : Below w3.heap.size w3 W7 := hW7 ▸ (Below.refl _ _).alloc (Nat.le_refl _) _
      have hS7 : isSp W7 h7 Q1 Q2 c' := hW7 ▸ hh7 ▸ heap_alloc_new w3 _
      have hz3 : E ≤ w3.heap.size := by have := HB3.out.size; have := HEE.out; omega
      have HB7 : Hid (Below E w W7) := Lib.hid (HB3.out.trans (hb7.mono hz3))
      have HO7 : Hid (spO W7 E (.slice pt' (n + 1) cc') (c' :: z).reverse) := Lib.hid (owns_below HO3.out hb7)
      obtain ⟨a1, b1, c1, hat1, hlk1⟩ := look14 (w := W7.drew) (HM.out.below (HEE.out.symm ▸ HB7.out.drew)).mp hP1 hP2
      have y10 := (HM.out.below (HEE.out.symm ▸ HB7.out)).sr.cells.2.2.2.2.2.2.2.2.2.2.1
      have HAT1 := Lib.hid hat1
      have HS7 := Lib.hid hS7
      have hE7 : E ≤ h7 := by omega
      have HE7 := Lib.hid hE7
      obtain ⟨t0, t1, t2⟩ := hS3.cells
      clear HO HG HOA HSA HBA s0 s1 s2 hl hat1 hS3 hb7 HO3 hz3 HB3 hS7
      refine Lib.hid ?_
      go_upto_region 4 with (fail)
      clear hh7 hW7 t0 t1 t2
      obtain ⟨t0, t1, t2⟩ := HS7.out.cells
      have f0 := HS7.out.free 0
      have f1 := HS7.out.free 1
      have f2 := HS7.out.free 2
      have HS8 : Hid (isSp (((W7.setCell ⟨h7, 0, none⟩ (.int .i64 a1)).setCell ⟨h7, 1, none⟩ (.int .i64 b1)).setCell ⟨h7, 2, none⟩ (.int .i64 c1)).drew h7 a1 b1 c1) := Lib.hid (HS7.out.put a1 b1 c1)
      have hfar := HS7.out.far HO7.out
      have HO8 : Hid (spO (((W7.setCell ⟨h7, 0, none⟩ (.int .i64 a1)).setCell ⟨h7, 1, none⟩ (.int .i64 b1)).setCell ⟨h7, 2, none⟩ (.int .i64 c1)).drew E (.slice pt' (n + 1) cc') (c' :: z).reverse) := Lib.hid (owns_below (World.ownsRow.kept (World.ownsRow.kept (World.ownsRow.kept HO7.out (grown_setCell _ h7 0 _) hfar) (grown_setCell _ h7 1 _) hfar) (grown_setCell _ h7 2 _) hfar) (Below.refl _ _).drew)
      have HB8 : Hid (Below E w (((W7.setCell ⟨h7, 0, none⟩ (.int .i64 a1)).setCell ⟨h7, 1, none⟩ (.int .i64 b1)).setCell ⟨h7, 2, none⟩ (.int .i64 c1)).drew) := Lib.hid (((HB7.out.setCell (p := ⟨h7, 0, none⟩) hE7 _).setCell (p := ⟨h7, 1, none⟩) hE7 _).setCell (p := ⟨h7, 2, none⟩) hE7 _).drew
      clear hfar HO7 HB7 HS7
      go_region
      have HME3 : Hid (((Q1, Q2), v') ∈ l) := Lib.hid (HQE.out ▸ HME2.out)
      go_roundw
      case rel =>
        exact ⟨_, _, _, _, _, _, _, _, _, _, _, _, _, _, _, _, _, _, ⟨h7, (Q1, Q2), v', c' :: z, pt', n + 1, cc', a1, b1, c1, rfl, rfl, HS8, HAT1, HME3, HUU2, HZL2, HO8, HB8⟩, rfl⟩
      case measure =>
        have := HNU.out
        simp [sln14]; omega
end Go.Proofs.Ytefpoapbodbenaa

namespace Go.Proofs.Ytefpoapbodbenaa
open Go.RowKit

theorem spF.same {w : World} {base : Nat} {v : Value} {f g : Nat → Int} {n : Nat} (h : spF w base v f n) (hf : ∀ j, j < n → f j = g j) : spF w base v g n := by
  have e : fnv f n = fnv g n := List.map_congr_left fun i hi => by rw [hf i (List.mem_range.1 hi)]
  unfold spF at h ⊢
  rw [← e]; exact h
def hdI (x : Da) (H : Nat → Nat) (k s : Nat) : Prop := k ≤ s ∧ (∀ j, j < k → H j < 259) ∧ ∀ y, y < s → ∃ j, j < k ∧ x.l0 (H j) = x.l0 y
def hdX (x : Da) (H : Nat → Nat) (k s : Nat) (b : Bool) (j : Nat) : Prop := (b = true → ∀ i, i < j → x.l0 (H i) ≠ x.l0 s) ∧ (b = false → ∃ i, i < k ∧ x.l0 (H i) = x.l0 s)
theorem hdI_skip {x : Da} {H : Nat → Nat} {k s : Nat} (h : hdI x H k s) (hs : ∃ j, j < k ∧ x.l0 (H j) = x.l0 s) : hdI x H k (s + 1) :=
  ⟨by have := h.1; omega, h.2.1, fun y hy => by
    by_cases e : y = s
    · subst e; exact hs
    · exact h.2.2 y (by omega)⟩
theorem hdI_new {x : Da} {H : Nat → Nat} {k s : Nat} (h : hdI x H k s) (hs : s < 259) : hdI x (fun j => if j = k then s else H j) (k + 1) (s + 1) :=
  ⟨by have := h.1; omega, fun j hj => by
    show (if j = k then s else H j) < 259
    split
    · exact hs
    · exact h.2.1 j (by omega), fun y hy => by
    by_cases e : y = s
    · subst e; exact ⟨k, Nat.lt_succ_self k, by simp⟩
    · obtain ⟨j, h1, h2⟩ := h.2.2 y (by omega)
      exact ⟨j, by omega, by simp only; rw [if_neg (by omega)]; exact h2⟩⟩

set_option maxRecDepth 100000 in
set_option maxHeartbeats 20000000 in
theorem heads13 (v : Value) (x : Da) (hx : rgD x) (w : World) (hd : daAt w v x) :
    Calls Try.prog 71 #[v] w fun e w' => ∃ v' k H, e = .returned v' ∧ spF w' (w.heap.size + 1) v' (fun j => (H j : Nat)) k ∧ hdI x H k 259 ∧ Below w.heap.size w w' := by
  obtain ⟨D, hD⟩ : ∃ D, w.heap.size = D := ⟨_, rfl⟩
  obtain ⟨q0, c0, q1, c1, q2, c2, rfl, hr0, hr1, -⟩ := hd
  obtain ⟨w1, hw1⟩ : ∃ w1, w.alloc (.cells #[.slice q0 x.n0 c0, .int .i64 x.wd, .int .i64 x.st, .slice q1 x.n1 c1, .slice q2 x.n2 c2] 25) = w1 := ⟨_, rfl⟩
  have hz1 : w1.heap.size = D + 1 := by rw [← hw1, World.size_alloc, hD]
  have hb1 : Below D w w1 := hw1 ▸ (Below.refl _ _).alloc (by omega) _
  have hk1 : isDf w1 D q0 x.n0 c0 x.wd x.st q1 x.n1 c1 q2 x.n2 c2 := hw1 ▸ hD ▸ heap_alloc_new w _
  have HK := Lib.hid (fun w' (h : Below (D + 1) w1 w') => (hk1.below h (Nat.lt_succ_self D)).cells)
  have HR0 := Lib.hid (fun w' (h : Below (D + 1) w1 w') => hr0.below (hD.symm ▸ hb1.trans (h.mono (Nat.le_succ D))))
  have HW1 := Lib.hid hw1; have HG := Lib.hid hD; have HB1 := Lib.hid hb1; have HZ := Lib.hid hz1
  have hn0 : x.n0 = 259 := hx.1
  rw [hn0] at HK HR0 ⊢
  rw [hn0] at HW1
  have HBs : Hid (Below (D + 1) w1 w1) := Lib.hid (Below.refl _ _)
  have HO0 : Hid (spF w1 (D + 1) (.slice none 0 0) (fun j => ((fun _ => 0 : Nat → Nat) j : Nat)) 0) := Lib.hid (spF_zero _ _ _)
  have HI0 : Hid (hdI x (fun _ => 0) 0 0) := Lib.hid ⟨Nat.le_refl _, fun j h => by omega, fun j h => by omega⟩
  clear hw1 hk1 hr0 hr1 hb1 hx hn0
  go_enter Try.func71, Try.ntmps71
  go_upto_region 1 with (fail)
  rw [HW1.out]
  clear hD hz1
  go_wp2_with fail
  go_loopw [3, 4] (fun ov sv wr => ∃ (s k : Nat) (H : Nat → Nat) (vn : Value), s ≤ 259 ∧ sv = .int .i64 s ∧ vn = ov ∧ Hid (spF wr (D + 1) vn (fun j => (H j : Nat)) k) ∧ Hid (hdI x H k s) ∧ Hid (Below (D + 1) w1 wr)) (fun _ sv _ => 259 - (intOf sv).toNat)
  case atStart => exact ⟨0, 0, _, _, Nat.zero_le _, rfl, rfl, HO0, HI0, HBs⟩
  case round =>
    clear HO0 HI0 HBs
    obtain ⟨s, k, H, vn, hs, rfl, rfl, HO, HI, HB⟩ := hrel
    by_cases hlt : s < 259
    · have i0 : (0 : Int) ≤ (s : Int) := by omega
      have i1 : (s : Int) < 259 := by omega
      obtain ⟨p, c, rfl⟩ := spF_of HO.out
      have HB0 : Hid (Below wr.heap.size wr wr) := Lib.hid (Below.refl _ _)
      have HX0 : Hid (hdX x H k s true 0) := Lib.hid ⟨fun _ j h => by omega, fun h => by cases h⟩
      have HWB := HB
      clear HB
      go_wp2_with fail
      go_loopw [5, 6] (fun bv jv wx => ∃ (b : Bool) (j : Nat), j ≤ k ∧ bv = .bool b ∧ jv = .int .i64 j ∧ Hid (hdX x H k s b j) ∧ Hid (Below wr.heap.size wr wx)) (fun _ jv _ => k - (intOf jv).toNat)
      case atStart => exact ⟨true, 0, Nat.zero_le _, rfl, rfl, HX0, HB0⟩
      case round =>
        clear HX0 HB0
        obtain ⟨b, j, hj, rfl, rfl, HX, HB⟩ := hrel
        have HB9 : Hid (Below (D + 1) w1 wr) := Lib.hid (HWB.out.trans (HB.out.mono (by have := HWB.out.size; have := HZ.out; omega)))
        have HO9 := Lib.hid (HO.out.below HB.out)
        have kb := HI.out.1
        by_cases hltj : j < k
        · have j0 : (0 : Int) ≤ (j : Int) := by omega
          have j1 : (j : Int) < (k : Int) := by omega
          have dk : decide ((j : Int) < (k : Int)) = true := decide_eq_true j1
          obtain ⟨y0, -, -, -, -⟩ := HK.out _ HB9.out
          obtain ⟨ob, oo, rfl, -, k0⟩ := HO9.out.rd j hltj
          have hH := HI.out.2.1 j hltj
          obtain ⟨b0, o0, rfl, -, k1⟩ := HR0.out _ HB9.out (H j) hH
          obtain ⟨b0', o0', e0, -, k2⟩ := HR0.out _ HB9.out s hlt
          cases e0
          obtain ⟨h, hh⟩ : ∃ h, H j = h := ⟨_, rfl⟩
          simp only at k0
          rw [hh] at hH k0 k1
          obtain ⟨u, hu⟩ : ∃ u, x.l0 h = u := ⟨_, rfl⟩
          obtain ⟨u', hu'⟩ : ∃ u', x.l0 s = u' := ⟨_, rfl⟩
          rw [hu] at k1
          rw [hu'] at k2
          have h0 : (0 : Int) ≤ (h : Int) := by omega
          have h1 : (h : Int) < 259 := by omega
          have HX2 : Hid (hdX x H k s (b && (u != u')) (j + 1)) := Lib.hid (by
            constructor
            · intro e
              rw [Bool.and_eq_true] at e
              intro i hi
              by_cases g : i = j
              · subst g
                rw [hh, hu, hu']
                simpa using e.2
              · exact HX.out.1 e.1 i (by omega)
            · intro e
              rw [Bool.and_eq_false_iff] at e
              rcases e with e | e
              · exact HX.out.2 e
              · exact ⟨j, hltj, by rw [hh, hu, hu']; simpa using e⟩)
          clear hh hu hu' HX
          cases b with
          | false =>
            rw [Bool.false_and] at HX2
            go_wp2_with fail
            go_quiet (fail)
            have HBd := Lib.hid (below_drewN nq HB.out)
            go_wp2_with fail
            go_roundw
            case rel => exact ⟨_, j + 1, by omega, rfl, by go_num, HX2, HBd⟩
            case measure => simp [intOf]; omega
          | true =>
            rw [Bool.true_and] at HX2
            go_wp2_with fail
            go_quiet (fail)
            have HBd := Lib.hid (below_drewN nq HB.out)
            go_wp2_with fail
            go_roundw
            case rel => exact ⟨_, j + 1, by omega, rfl, by go_num, HX2, HBd⟩
            case measure => simp [intOf]; omega
        · obtain hjk : j = k := by omega
          have dk : decide ((j : Int) < (k : Int)) = false := decide_eq_false (by omega)
          cases b with
          | false =>
            have HI2 := Lib.hid (hdI_skip HI.out (HX.out.2 rfl))
            clear HX hjk
            go_wp2_with fail
            go_roundw
            case rel => exact ⟨s + 1, k, H, _, by omega, by go_num, rfl, HO9, HI2, HB9⟩
            case measure => simp [intOf]; omega
          | true =>
            have HI2 := Lib.hid (hdI_new HI.out hlt)
            have hk9 : k ≤ 10000 := by have := HI.out.1; omega
            have hbs : D + 1 ≤ wr.heap.size := by have := HB9.out.size; have := HZ.out; omega
            have HAL : Hid (Below wr.heap.size wr (wr.alloc (.cells #[.int .i64 s] 3))) := Lib.hid ((Below.refl _ _).alloc (Nat.le_refl _) _)
            have HO2 : Hid (spF (wr.alloc (.cells #[.int .i64 s] 3)) (D + 1) (.slice p k c) (fun i => ((if i = k then s else H i : Nat) : Int)) k) := Lib.hid ((HO9.out.below HAL.out).same fun i hi => by rw [if_neg (by omega)])
            clear HX hjk HO HO9 HI
            go_wp2_with (at_builtin; refine append_fn rfl _ _ rfl (D + 1) (.slice p k c) (fun i => ((if i = k then s else H i : Nat) : Int)) k rfl HO2.out wr.heap.size (s : Int) (by exact congrArg Nat.cast (if_pos rfl)) rfl (by simp) hk9 (by simp; omega) ?_)
            intro v' w5 hown5 hgrow
            have HO5 := Lib.hid hown5
            have HB5 : Hid (Below (D + 1) w1 w5) := Lib.hid ((HB9.out.trans (HAL.out.mono hbs)).grown hgrow (by simp; omega) fun r hr => (HO2.out.lt r hr).1)
            clear hown5 hgrow HO2 HAL
            go_wp2_with fail
            go_roundw
            case rel => exact ⟨s + 1, k + 1, _, v', by omega, by go_num, rfl, HO5, HI2, HB5⟩
            case measure => simp [intOf]; omega
    · obtain rfl : s = 259 := by omega
      have HE : Hid (∃ v' k H, Ending.returned vn = Ending.returned v' ∧ spF wr (w.heap.size + 1) v' (fun j => (H j : Nat)) k ∧ hdI x H k 259 ∧ Below w.heap.size w wr) := Lib.hid (by
        refine ⟨vn, k, H, rfl, ?_, HI.out, ?_⟩
        · rw [HG.out]; exact HO.out
        · rw [HG.out]; exact HB1.out.trans (HB.out.mono (Nat.le_succ D)))
      go_wp2_with fail
      go_returns
      exact HE.out
end Go.Proofs.Ytefpoapbodbenaa

namespace Go.Proofs.Ytefpoapbodbenaa

/-- Within a turn: nothing is told apart that is alike; what words of t symbols tell apart is; what those of t + 1 symbols do, ahead of a place. -/
def unI (x : Da) (t i k : Nat) (M : Gr) : Prop :=
  (∀ a b, a < x.n2 → b < x.n2 → M a b = true → lnW x a ≠ lnW x b) ∧ (∀ a b, a < x.n2 → b < x.n2 → ¬ apR x t a b → M a b = true) ∧
  (∀ a b, a < x.n2 → b < x.n2 → (a < i ∨ (a = i ∧ b < k)) → ¬ apR x (t + 1) a b → M a b = true)
theorem apR_zero {x : Da} {i k : Nat} : apR x 0 i k ↔ x.T i = x.T k := by
  constructor
  · intro h; exact h [] okw_nil (Nat.le_refl _)
  · intro h w hw hl
    have : w = [] := List.length_eq_zero_iff.1 (by omega)
    subst this; exact h
theorem unI_zero (x : Da) {M : Gr} (h : ∀ a b, a < x.n2 → b < x.n2 → M a b = (x.T a != x.T b)) : unI x 0 0 0 M := by
  refine ⟨fun a b ha hb e g => ?_, fun a b ha hb g => ?_, fun a b _ _ g _ => by omega⟩
  · rw [h a b ha hb] at e
    have := lnW_T g
    rw [this] at e
    simp at e
  · rw [apR_zero] at g
    rw [h a b ha hb]
    simpa using g
theorem unI_row {x : Da} {t i : Nat} {M : Gr} (h : unI x t i x.n2 M) : unI x t (i + 1) 0 M :=
  ⟨h.1, h.2.1, fun a b ha hb g => h.2.2 a b ha hb (by omega)⟩
theorem unI_turn {x : Da} {t : Nat} {M : Gr} (h : unI x t x.n2 0 M) : unI x (t + 1) 0 0 M :=
  ⟨h.1, fun a b ha hb g => h.2.2 a b ha hb (.inl ha) g, fun a b _ _ g => by omega⟩
theorem unI_put {x : Da} {t i k y : Nat} {M : Gr} (hx : rgD x) (h : unI x t i k M) (hi : i < x.n2) (hk : k < x.n2) (hy : y < 259) (hn : M i k = false) : unI x t i k (putG M i k (M (goD x i y) (goD x k y))) := by
  have key : ∀ a b, putG M i k (M (goD x i y) (goD x k y)) a b = if a = i ∧ b = k then M (goD x i y) (goD x k y) else M a b := by
    intro a b
    unfold putG
    by_cases h1 : a = i
    · by_cases h2 : b = k
      · rw [if_pos h1, if_pos h2, if_pos ⟨h1, h2⟩]
      · rw [if_pos h1, if_neg h2, if_neg (fun e => h2 e.2)]
    · rw [if_neg h1, if_neg (fun e => h1 e.1)]
  refine ⟨fun a b ha hb e => ?_, fun a b ha hb g => ?_, fun a b ha hb hd g => ?_⟩
  · rw [key] at e
    by_cases he : a = i ∧ b = k
    · rw [if_pos he] at e
      obtain ⟨rfl, rfl⟩ := he
      intro g
      exact h.1 _ _ (goD_at hx ha hy).2.2 (goD_at hx hb hy).2.2 e (lnW_same g hy)
    · rw [if_neg he] at e
      exact h.1 a b ha hb e
  · rw [key]
    by_cases he : a = i ∧ b = k
    · obtain ⟨rfl, rfl⟩ := he
      rw [h.2.1 a b ha hb g] at hn
      cases hn
    · rw [if_neg he]
      exact h.2.1 a b ha hb g
  · rw [key, if_neg (by omega)]
    exact h.2.2 a b ha hb hd g
theorem unI_next {x : Da} {t i k : Nat} {M : Gr} (h : unI x t i k M) (hi : i < x.n2) (hk : k < x.n2) (hs : M i k = false → ∀ y, y < 259 → apR x t (goD x i y) (goD x k y)) : unI x t i (k + 1) M := by
  refine ⟨h.1, h.2.1, fun a b ha hb hd g => ?_⟩
  by_cases he : a = i ∧ b = k
  · obtain ⟨rfl, rfl⟩ := he
    cases e : M a b with
    | true => rfl
    | false =>
      exfalso
      refine g (apR_succ.2 ⟨?_, hs e⟩)
      have h2 : apR x t a b := Classical.byContradiction fun n => by
        rw [h.2.1 a b ha hb n] at e; cases e
      exact apR_zero.1 (apR_le h2 (Nat.zero_le t))
  · exact h.2.2 a b ha hb (by omega) g
/-- At a pair: none of the first c symbols tells it apart. -/
def unC (x : Da) (t i k : Nat) (H : Nat → Nat) (c : Nat) (M : Gr) : Prop := M i k = false → ∀ j, j < c → apR x t (goD x i (H j)) (goD x k (H j))
theorem unC_zero (x : Da) (t i k : Nat) (H : Nat → Nat) (M : Gr) : unC x t i k H 0 M := fun _ j hj => absurd hj (Nat.not_lt_zero j)
theorem unC_put {x : Da} {t i k c : Nat} {H : Nat → Nat} {M : Gr} (hx : rgD x) (h : unI x t i k M) (hc : unC x t i k H c M) (hi : i < x.n2) (hk : k < x.n2) (hy : H c < 259) (hn : M i k = false) : unC x t i k H (c + 1) (putG M i k (M (goD x i (H c)) (goD x k (H c)))) := by
  intro e j hj
  have e2 : M (goD x i (H c)) (goD x k (H c)) = false := by
    unfold putG at e
    rwa [if_pos rfl, if_pos rfl] at e
  by_cases hjc : j = c
  · subst hjc
    exact Classical.byContradiction fun n => by
      rw [h.2.1 _ _ (goD_at hx hi hy).2.2 (goD_at hx hk hy).2.2 n] at e2; cases e2
  · exact hc hn j (by omega)
theorem goD_class {x : Da} {s y z : Nat} (h : x.l0 y = x.l0 z) : goD x s y = goD x s z := by unfold goD; rw [h]
theorem unC_all {x : Da} {t i k kk : Nat} {H : Nat → Nat} {M : Gr} (hH : hdI x H kk 259) (h : unC x t i k H kk M) : M i k = false → ∀ y, y < 259 → apR x t (goD x i y) (goD x k y) := fun e y hy => by
  obtain ⟨j, h1, h2⟩ := hH.2.2 y hy
  rw [← goD_class h2, ← goD_class h2]
  exact h e j h1
theorem unI_end {x : Da} {M : Gr} (hx : rgD x) (h : unI x x.n2 0 0 M) {i k : Nat} (hi : i < x.n2) (hk : k < x.n2) : M i k = true ↔ lnW x i ≠ lnW x k := by
  refine ⟨h.1 i k hi hk, fun g => ?_⟩
  exact h.2.1 i k hi hk fun n => g (apR_deep hx hi hk n)
end Go.Proofs.Ytefpoapbodbenaa

namespace Go.Proofs.Ytefpoapbodbenaa
open Go.RowKit

theorem goC13 {x : Da} (hx : rgD x) (h1 : x.n1 ≤ 100000) {W : Nat} (hW : x.wd = W) (q0 : Option Addr) (c0 : Nat) (q1 : Option Addr) (c1 : Nat) (q2 : Option Addr) (n2 c2 i y : Nat) (hi : i < x.n2) (hy : y < 259) (w : World) (h0 : rdL w q0 259 x.l0) (hr1 : rdL w q1 x.n1 x.l1) :
    Calls Try.prog 24 #[dfV q0 259 c0 (W : Int) x.st q1 x.n1 c1 q2 n2 c2, .int .i64 (i : Int), .int .i64 (y : Int)] w fun e w' => e = .returned (.int .i64 (goD x i y : Nat)) ∧ Below w.heap.size w w' := by
  obtain ⟨g1, g2, g3⟩ := goD_at hx hi hy
  have hcc := (hx.2.2.2.2.2.2.2.2.1 y hy).1
  have hgd : x.l1 (i * x.wd.toNat + (x.l0 y).toNat) = (goD x i y : Nat) := by
    unfold goD
    rw [Int.toNat_of_nonneg g2]
  rw [hW, Int.toNat_natCast] at g1 hgd
  rw [← hgd]
  exact go11 q0 c0 W x.st q1 x.n1 c1 q2 n2 c2 x.l0 x.l1 i y (x.l0 y).toNat (i * W) hy (Int.toNat_of_nonneg hcc).symm rfl g1 (Nat.le_trans h1 (by decide)) w h0 hr1
end Go.Proofs.Ytefpoapbodbenaa
