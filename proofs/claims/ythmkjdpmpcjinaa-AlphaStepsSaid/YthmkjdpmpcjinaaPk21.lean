/-
  A part in memory: its states, its first and its last one; what Make is asked.
  The walk of the ninth reference's repeat.
  What is met, and the list of it, in memory; the walk of the closure that puts.
-/
import Derived.Test.YthmkjdpmpcjinaaPk17
import Derived.Test.YthmkjdpmpcjinaaPk18
import Derived.Test.YthmkjdpmpcjinaaPk20
import Derived.Laws.AppendOwnNone
import Derived.Deep.Cut
import Derived.Test.YthmkjdpmpcjinaaPk16
import Derived.OneCell
namespace Go.Proofs.Ythmkjdpmpcjinaa
open Go.RowKit

theorem grown_setCell (w : World) (b j : Nat) (v : Value) : w.grownBy (w.setCell ⟨b, j, none⟩ v) (some b) := by
  have h := (Below.refl b w).setCell (p := ⟨b, j, none⟩) (Nat.le_refl _) v
  refine ⟨h.os, h.tape, h.output, h.size, fun k _ hk => ?_⟩
  have : k ≠ b := fun e => hk (by rw [e])
  show (w.heap.modify b _)[k]? = _
  rw [Array.getElem?_modify, if_neg (Ne.symm this)]
theorem stO.other {w : World} {base g c b j : Nat} {L : List Sd} (h : stO w base g c L) (hb : b ≠ g) (u : Value) : stO (w.setCell ⟨b, j, none⟩ u) base g c L :=
  World.ownsRow.kept h (grown_setCell w b j u) (.inr (by simp [Value.ownBlock]; omega))
theorem below_pt3 {B : Nat} {a w : World} {c : Nat} (h : Below B a w) (hc : B ≤ c) (v' : Value) (f' l' : Int) : Below B a (((w.setCell ⟨c, 0, none⟩ v').setCell ⟨c, 1, none⟩ (.int .i64 f')).setCell ⟨c, 2, none⟩ (.int .i64 l')) :=
  ((h.setCell hc _).setCell hc _).setCell hc _
theorem stO.pt3 {w : World} {base g c b : Nat} {L : List Sd} (h : stO w base g c L) (hb : b ≠ g) (v' : Value) (f' l' : Int) : stO (((w.setCell ⟨b, 0, none⟩ v').setCell ⟨b, 1, none⟩ (.int .i64 f')).setCell ⟨b, 2, none⟩ (.int .i64 l')) base g c L :=
  ((h.other hb _).other hb _).other hb _

theorem stO.cellA {w : World} {base g c j : Nat} {L : List Sd} (h : stO w base g c L) (hj : j < L.length) : w.cell? ⟨g, j * 7 + 1, none⟩ = some (.int .i64 (sfn L j).A) :=
  h.cell _ _ (by rw [sds_get L j hj 1 (by decide), sfn_lt hj]; rfl)
theorem stO.cellB {w : World} {base g c j : Nat} {L : List Sd} (h : stO w base g c L) (hj : j < L.length) : w.cell? ⟨g, j * 7 + 2, none⟩ = some (.int .i64 (sfn L j).B) :=
  h.cell _ _ (by rw [sds_get L j hj 2 (by decide), sfn_lt hj]; rfl)
theorem stO.putI {w : World} {base g c : Nat} {L : List Sd} (h : stO w base g c L) (j : Nat) (a : Int) (A : Nat) (ha : a = A) : stO (w.setCell ⟨g, j * 7 + 1, none⟩ (.int .i64 a)) base g c (setA L j A) := by
  subst ha; exact h.putA j A
theorem stO.putJ {w : World} {base g c : Nat} {L : List Sd} (h : stO w base g c L) (j : Nat) (a : Int) (A : Nat) (ha : a = A) : stO (w.setCell ⟨g, j * 7 + 2, none⟩ (.int .i64 a)) base g c (setB L j A) := by
  subst ha; exact h.putB j A
/-- What Make does, at a node: its part's states, made behind some. -/
def mkPost (R : List Sd × Nat × Nat) (w : World) (e : Ending) (w' : World) : Prop :=
  ∃ g c, e = .returned (.agg #[.slice (some ⟨g, 0, none⟩) R.1.length c, .int .i64 (R.2.1 : Int), .int .i64 (R.2.2 : Int)]) ∧ stO w' w.heap.size g c R.1 ∧ Below w.heap.size w w'
theorem build_st0 (k : Int) (w : World) : (Instr.build 42 #[(0, .int .i64 k)]).run Try.prog w = .ok (.agg #[.int .i64 k, .int .i64 0, .int .i64 0, .int .u64 0, .int .u64 0, .int .u64 0, .int .u64 0]) w := by kernel_rfl
theorem build_stA (k A : Int) (w : World) : (Instr.build 42 #[(0, .int .i64 k), (1, .int .i64 A)]).run Try.prog w = .ok (.agg #[.int .i64 k, .int .i64 A, .int .i64 0, .int .u64 0, .int .u64 0, .int .u64 0, .int .u64 0]) w := by kernel_rfl
theorem build_stAB (k A B : Int) (w : World) : (Instr.build 42 #[(0, .int .i64 k), (1, .int .i64 A), (2, .int .i64 B)]).run Try.prog w = .ok (.agg #[.int .i64 k, .int .i64 A, .int .i64 B, .int .u64 0, .int .u64 0, .int .u64 0, .int .u64 0]) w := by kernel_rfl
theorem build_stS (k a b c d A : Int) (w : World) : (Instr.build 42 #[(0, .int .i64 k), (3, .agg #[.int .u64 a, .int .u64 b, .int .u64 c, .int .u64 d]), (1, .int .i64 A)]).run Try.prog w = .ok (.agg #[.int .i64 k, .int .i64 A, .int .i64 0, .int .u64 a, .int .u64 b, .int .u64 c, .int .u64 d]) w := by kernel_rfl
theorem wpList_build_st0 {ops : Array Oper} {rest : List Oper} {o : Oper} {a : Act} {w : World} {Q : Exit → Act → World → Prop} (hgd : o.guard = none) (x : Operand) (ho : o.op = .build 42 #[(0, x)])
    (k : Int) (hx : a.eval x = .int .i64 k)
    (h : wpList Try.prog ops Q rest (a.put o.dst (.agg #[.int .i64 k, .int .i64 0, .int .i64 0, .int .u64 0, .int .u64 0, .int .u64 0, .int .u64 0])) w) : wpList Try.prog ops Q (o :: rest) a w :=
  wpList_plain hgd fun K hK => by
    have hb := build_st0 k w
    have hm : (#[(0, x)] : Array (Nat × Operand)).map (fun (i, v) => (i, a.eval v)) = #[(0, a.eval x)] := by simp
    unfold Oper.wp execOp
    simp only [ho]
    rw [hm, hx]
    simp only [Sem.run_bind, hb, Result.andThen_ok]
    exact hK _ _ h
theorem wpList_build_stA {ops : Array Oper} {rest : List Oper} {o : Oper} {a : Act} {w : World} {Q : Exit → Act → World → Prop} (hgd : o.guard = none) (x y : Operand) (ho : o.op = .build 42 #[(0, x), (1, y)])
    (k A : Int) (hx : a.eval x = .int .i64 k) (hy : a.eval y = .int .i64 A)
    (h : wpList Try.prog ops Q rest (a.put o.dst (.agg #[.int .i64 k, .int .i64 A, .int .i64 0, .int .u64 0, .int .u64 0, .int .u64 0, .int .u64 0])) w) : wpList Try.prog ops Q (o :: rest) a w :=
  wpList_plain hgd fun K hK => by
    have hb := build_stA k A w
    have hm : (#[(0, x), (1, y)] : Array (Nat × Operand)).map (fun (i, v) => (i, a.eval v)) = #[(0, a.eval x), (1, a.eval y)] := by simp
    unfold Oper.wp execOp
    simp only [ho]
    rw [hm, hx, hy]
    simp only [Sem.run_bind, hb, Result.andThen_ok]
    exact hK _ _ h
theorem wpList_build_stAB {ops : Array Oper} {rest : List Oper} {o : Oper} {a : Act} {w : World} {Q : Exit → Act → World → Prop} (hgd : o.guard = none) (x y z : Operand) (ho : o.op = .build 42 #[(0, x), (1, y), (2, z)])
    (k A B : Int) (hx : a.eval x = .int .i64 k) (hy : a.eval y = .int .i64 A) (hz : a.eval z = .int .i64 B)
    (h : wpList Try.prog ops Q rest (a.put o.dst (.agg #[.int .i64 k, .int .i64 A, .int .i64 B, .int .u64 0, .int .u64 0, .int .u64 0, .int .u64 0])) w) : wpList Try.prog ops Q (o :: rest) a w :=
  wpList_plain hgd fun K hK => by
    have hb := build_stAB k A B w
    have hm : (#[(0, x), (1, y), (2, z)] : Array (Nat × Operand)).map (fun (i, v) => (i, a.eval v)) = #[(0, a.eval x), (1, a.eval y), (2, a.eval z)] := by simp
    unfold Oper.wp execOp
    simp only [ho]
    rw [hm, hx, hy, hz]
    simp only [Sem.run_bind, hb, Result.andThen_ok]
    exact hK _ _ h
end Go.Proofs.Ythmkjdpmpcjinaa

namespace Go.Proofs.Ythmkjdpmpcjinaa
open Go.RowKit

theorem rows_apart9 {w : World} {b1 b2 e1 e2 s1 s2 n1 n2 : Nat} {v1 v2 : Value} {x1 x2 : List Value} (h1 : w.ownsRow b1 e1 s1 v1 n1 x1) (h2 : w.ownsRow b2 e2 s2 v2 n2 x2) (hne : e1 ≠ e2) : v1.ownBlock = none ∨ v1.ownBlock ≠ v2.ownBlock := by
  rcases h1.2 with ⟨rfl, _⟩ | ⟨g1, c1, u1, rfl, _, p1, _⟩
  · exact .inl rfl
  · rcases h2.2 with ⟨rfl, _⟩ | ⟨g2, c2, u2, rfl, _, p2, _⟩
    · exact .inr (by simp [Value.ownBlock])
    · refine .inr fun h => ?_
      have hg : g1 = g2 := by simpa [Value.ownBlock] using h
      subst hg
      rw [p1] at p2
      simp at p2
      exact hne p2.2
def spl9 (l : List Nat) : List Value := l.map fun s : Nat => Value.int .i64 (s : Int)
theorem headD_get9 (l : List Nat) (h : 0 < l.length) : l.headD 0 = l[0] := by
  cases l with
  | nil => simp at h
  | cons x l => rfl
/-- A row of places that a call owns. -/
def spO (w : World) (base : Nat) (v : Value) (l : List Nat) : Prop := w.ownsRow base 3 1 v l.length (spl9 l)
theorem spO.stored {w : World} {base base' g c j : Nat} {v : Value} {l : List Nat} {L : List Sd} (h : spO w base v l) (hs : stO w base' g c L) (u : Value) : spO (w.setCell ⟨g, j, none⟩ u) base v l :=
  World.ownsRow.kept h (grown_setCell w g j u) (by
    rcases rows_apart9 h hs (by decide) with h | h
    · exact .inl h
    · exact .inr (by simpa [Value.ownBlock] using h))
theorem stO.apart {w w' : World} {base base' g c : Nat} {v : Value} {l : List Nat} {L : List Sd} (h : stO w base g c L) (hs : spO w base' v l) (hg : w.grownBy w' v.ownBlock) : stO w' base g c L :=
  World.ownsRow.kept h hg (rows_apart9 h hs (by decide))
end Go.Proofs.Ythmkjdpmpcjinaa

namespace Go.Proofs.Ythmkjdpmpcjinaa
open Go.RowKit

theorem infoInt9w : (Try.prog.info? 3).map (fun i => (i.zero, i.size, i.bytes)) = some (some (.int .i64 0), 1, 8) := by kernel_rfl
theorem spl9_len (l : List Nat) : (spl9 l).length = l.length := by simp [spl9]
theorem spl9_append (l r : List Nat) : spl9 (l ++ r) = spl9 l ++ spl9 r := by simp [spl9]
theorem spl9_cell (l : List Nat) : ∀ u ∈ spl9 l, u.oneCell' = true := by
  intro u hu
  unfold spl9 at hu
  obtain ⟨x, _, rfl⟩ := List.mem_map.1 hu
  rfl
/-- A block of one cell. -/
def one9 (t : TypeId) (w : World) (b : Nat) (v : Value) : Prop := w.heap[b]? = some (.cells #[v] t (0, 0))
theorem one9.lt {t : TypeId} {w : World} {b : Nat} {v : Value} (h : one9 t w b v) : b < w.heap.size := lt_of_block h
theorem one9.cell {t : TypeId} {w : World} {b : Nat} {v : Value} (h : one9 t w b v) : w.cell? ⟨b, 0, none⟩ = some v := by
  unfold one9 at h
  simp [World.cell?, h]
theorem one9.free {t : TypeId} {w : World} {b : Nat} {v : Value} (h : one9 t w b v) : w.frozen? ⟨b, 0, none⟩ = false := by
  unfold one9 at h
  simp [World.frozen?, h]
theorem one9.stored {t : TypeId} {w : World} {b : Nat} {v : Value} (h : one9 t w b v) (u : Value) : one9 t (w.setCell ⟨b, 0, none⟩ u) b u := by
  have h1 := heap_setCell_same w b 0 _ _ u h
  unfold one9
  rw [h1]
  simp
theorem one9.grown {t : TypeId} {w w' : World} {b : Nat} {r : Option Nat} {v : Value} (h : one9 t w b v) (hg : w.grownBy w' r) (hb : some b ≠ r) : one9 t w' b v :=
  (hg.block b h.lt hb).trans h
theorem one9.below {t : TypeId} {w w' : World} {b B : Nat} {v : Value} (h : one9 t w b v) (hB : Below B w w') (hb : b < B) : one9 t w' b v := (hB.block b hb).trans h

/-- Block g has what is met of m states, block h names it, block h + 1 the list of it. -/
def clW (w : World) (g h m : Nat) (A : List Nat) : Prop :=
  g < h ∧ one9 60 w (h) (.slice (some ⟨g, 0, none⟩) m m) ∧ (∃ p c, one9 26 w (h + 1) (.slice p A.length c) ∧ spO w (h + 2) (.slice p A.length c) A) ∧ blR w g g m m (memW A)
theorem clW.below {w w' : World} {g h m : Nat} {A : List Nat} (hc : clW w g h m A) (hb : Below w.heap.size w w') : clW w' g h m A := by
  obtain ⟨h0, h1, ⟨p, c, h2, h3⟩, h4⟩ := hc
  exact ⟨h0, h1.below hb h1.lt, ⟨p, c, h2.below hb h2.lt, owns_below h3 hb⟩, h4.below hb⟩
theorem spO_of {w : World} {base : Nat} {v : Value} {A : List Nat} (h : spO w base v A) : ∃ p c, v = .slice p A.length c := by
  rcases id h.2 with ⟨rfl, h0⟩ | ⟨g, cap, cur, rfl, _⟩
  · exact ⟨none, 0, by rw [h0]⟩
  · exact ⟨_, cap, rfl⟩
/-- Blocks below g are kept, and all those that hold states. -/
def kpW (g : Nat) (w w' : World) : Prop := Below g w w' ∧ ∀ (k : Nat) (c : Array Value) (fr : Nat × Nat), w.heap[k]? = some (.cells c 42 fr) → w'.heap[k]? = some (.cells c 42 fr)
theorem kpW.refl (g : Nat) (w : World) : kpW g w w := ⟨Below.refl _ _, fun _ _ _ h => h⟩
theorem kpW.trans {g : Nat} {w w1 w2 : World} (h1 : kpW g w w1) (h2 : kpW g w1 w2) : kpW g w w2 := ⟨h1.1.trans h2.1, fun k c fr h => h2.2 k c fr (h1.2 k c fr h)⟩
theorem kpW.of_below {g : Nat} {w w' : World} (hB : g ≤ w.heap.size) (h : Below w.heap.size w w') : kpW g w w' := ⟨h.mono hB, fun k c fr hk => by rw [h.block k (lt_of_block hk)]; exact hk⟩
theorem kpW.of_grown {g k : Nat} {w w' : World} {t : TypeId} {c : Array Value} {fr : Nat × Nat} (hk : w.heap[k]? = some (.cells c t fr)) (ht : t ≠ 42) (hg : g ≤ k) (h : w.grownBy w' (some k)) : kpW g w w' := by
  refine ⟨⟨h.os, h.tape, h.output, h.size, fun x hx => h.block x (by have := lt_of_block hk; omega) (fun e => by have : x = k := by simpa using e
                                                                                                                 omega)⟩, fun x c' fr' hx => ?_⟩
  rw [h.block x (lt_of_block hx) fun e => ?_]
  · exact hx
  · have : x = k := by simpa using e
    subst this
    rw [hk] at hx
    simp at hx
    exact ht hx.2.1
theorem kpW.of_row {g h : Nat} {w w' : World} {v : Value} {l : List Nat} (hgh : g < h) (hw : h + 2 ≤ w.heap.size) (ho : spO w (h + 2) v l) (h : w.grownBy w' v.ownBlock) : kpW g w w' := by
  rcases id ho.2 with ⟨rfl, _⟩ | ⟨k, cp, cur, rfl, hk, p1, _⟩
  · refine kpW.of_below (by omega) ⟨h.os, h.tape, h.output, h.size, fun x hx => h.block x hx (by simp [Value.ownBlock])⟩
  · exact kpW.of_grown (k := k) p1 (by decide) (by omega) (by simpa [Value.ownBlock] using h)

/-- A block with a state. -/
def isSt9 (w : World) (b : Nat) (k A B a0 a1 a2 a3 : Int) : Prop := w.heap[b]? = some (.cells #[.int .i64 k, .int .i64 A, .int .i64 B, .int .u64 a0, .int .u64 a1, .int .u64 a2, .int .u64 a3] 42 (0, 0))
theorem isSt9.new (w : World) (k A B a0 a1 a2 a3 : Int) : isSt9 (w.alloc (.cells #[.int .i64 k, .int .i64 A, .int .i64 B, .int .u64 a0, .int .u64 a1, .int .u64 a2, .int .u64 a3] 42)) w.heap.size k A B a0 a1 a2 a3 := heap_alloc_new w _
theorem isSt9.cells {w : World} {b : Nat} {k A B a0 a1 a2 a3 : Int} (h : isSt9 w b k A B a0 a1 a2 a3) : w.cell? ⟨b, 0, none⟩ = some (.int .i64 k) ∧ w.cell? ⟨b, 1, none⟩ = some (.int .i64 A) ∧ w.cell? ⟨b, 2, none⟩ = some (.int .i64 B) ∧ w.cell? ⟨b, 3, none⟩ = some (.int .u64 a0) ∧ w.cell? ⟨b, 4, none⟩ = some (.int .u64 a1) ∧ w.cell? ⟨b, 5, none⟩ = some (.int .u64 a2) ∧ w.cell? ⟨b, 6, none⟩ = some (.int .u64 a3) := by
  unfold isSt9 at h
  refine ⟨?_, ?_, ?_, ?_, ?_, ?_, ?_⟩ <;> simp [World.cell?, h]
theorem isSt9.lt {w : World} {b : Nat} {k A B a0 a1 a2 a3 : Int} (h : isSt9 w b k A B a0 a1 a2 a3) : b < w.heap.size := lt_of_block h
theorem isSt9.kept {w w' : World} {g b : Nat} {k A B a0 a1 a2 a3 : Int} (h : isSt9 w b k A B a0 a1 a2 a3) (hk : kpW g w w') : isSt9 w' b k A B a0 a1 a2 a3 := hk.2 _ _ _ h

set_option maxRecDepth 100000 in
set_option maxHeartbeats 4000000 in
theorem wput_is (g h m x : Nat) (A : List Nat) (hm : m ≤ 1000) (hx : x < m) (hA : okA9 m A) (w : World) (hc : clW w g h m A) :
    Calls Try.prog 29 #[.int .i64 (x : Int), .pointer (some ⟨h, 0, none⟩), .pointer (some ⟨h + 1, 0, none⟩)] w fun e w' => e = .returned (.tuple #[]) ∧ clW w' g h m (putW A x) ∧ kpW g w w' := by
  obtain ⟨hgh, h1, ⟨p, c, h2, h3⟩, h4⟩ := hc
  obtain ⟨i0, hi, hz0, hz1, hz2⟩ := info_parts infoInt9w
  have x0 : (0 : Int) ≤ (x : Int) := by omega
  have x1 : (x : Int) < (m : Int) := by omega
  have c1 := h1.cell
  have c2 := h2.cell
  have c4 := h4.cell x hx
  by_cases hin : x ∈ A
  · rw [show memW A x = true from decide_eq_true hin] at c4
    have HF := Lib.hid (show clW w g h m (putW A x) by rw [putW_in hin]; exact ⟨hgh, h1, ⟨p, c, h2, h3⟩, h4⟩)
    clear h1 h2 h3 h4 c2 hA hin
    go_enter Try.func29, Try.ntmps29
    go_wp2_with fail
    refine bodyPost_end (results_none rfl _ _ _) rfl ?_
    exact ⟨rfl, HF.out, kpW.refl _ _⟩
  · rw [show memW A x = false from decide_eq_false hin] at c4
    have f4 := h4.free x
    have hgl := h4.lt
    have hs3 : h + 1 < w.heap.size := h2.lt
    -- the store among what is met
    have hg1 : w.grownBy (w.setCell ⟨g, x, none⟩ (.bool true)) (some g) := grown_setCell w g x _
    obtain ⟨W1, hW1⟩ : ∃ W1, w.setCell ⟨g, x, none⟩ (.bool true) = W1 := ⟨_, rfl⟩
    have hk1 : kpW g w W1 := by
      rw [hW1] at hg1
      rcases id h4.2 with ⟨e, _⟩ | ⟨k, cp, cur, e, _, q1, _⟩
      · cases e
      · cases e
        exact kpW.of_grown q1 (by decide) (Nat.le_refl _) hg1
    rw [hW1] at hg1
    have a1 := Lib.hid (h1.grown hg1 (by simp; omega))
    have a2 := Lib.hid (h2.grown hg1 (by simp; omega))
    have a4 : blR W1 g g m m (putT (memW A) x true) := hW1 ▸ h4.put x true
    have a4' := Lib.hid (a4.same fun j _ => memW_put hin j)
    have a3 : spO W1 (h + 2) (.slice p A.length c) A := World.ownsRow.kept h3 hg1 (by
      rcases rows_apart9 h3 h4 (by decide) with h | h
      · exact .inl h
      · exact .inr (by simpa [Value.ownBlock] using h))
    have A3 := Lib.hid a3
    have HK1 := Lib.hid hk1
    have HW1 := Lib.hid hW1
    have HIN := Lib.hid hin
    have HLE : Hid (A.length ≤ m) := Lib.hid (okA_le hA)
    have hz : h + 2 ≤ W1.heap.size := by have := a2.out.lt; omega
    have HZ := Lib.hid hz
    have c2' := a2.out.cell
    clear h1 h2 h3 h4 hA hin a3 a4 hg1 hk1 hW1 hz hgl hs3
    go_enter Try.func29, Try.ntmps29
    go_upto_region 2 with (fail)
    rw [HW1.out]
    have hlit : ∀ j u, (spl9 [x])[j]? = some u → (W1.alloc (.cells #[.int .i64 (x : Int)] 3)).cell? ((⟨W1.heap.size, 0, none⟩ : Addr).add j) = some u := by
      intro j u hu
      match j, hu with
      | 0, hu => simp [spl9] at hu; subst hu; simp [Addr.add]
    have HLIT := Lib.hid hlit
    have HM : Hid (A.length + 1 ≤ maxLen) := Lib.hid (by have := HLE.out; unfold maxLen; omega)
    have H48 : Hid ((A.length + 1) * 8 ≤ 140737488355328) := Lib.hid (by have := HLE.out; omega)
    have HS5 : Hid (h + 2 ≤ (W1.alloc (.cells #[.int .i64 (x : Int)] 3)).heap.size) := Lib.hid (by rw [World.size_alloc]; have := HZ.out; omega)
    clear hlit c1 c2 c4 f4
    go_wp2_with (at_builtin; refine wpList_append_own _ rfl _ _ 26 rfl (h + 2) 3 i0 (.int .i64 0) 1 8 Try.underlying26 hi hz0 hz1 hz2 rfl (by decide) _ A.length (spl9 A) rfl (A3.out.alloc _) ⟨W1.heap.size, 0, none⟩ 1 1 (spl9 [x]) rfl (by rw [spl9_len]; rfl) HLIT.out (spl9_cell _) HM.out H48.out HS5.out ?_; intro v' w3 hown hgrow _; have HO := Lib.hid hown; have HG := Lib.hid hgrow; clear hown hgrow; refine Hid.out ?_)
    have ho : spO w3 (h + 2) v' (A ++ [x]) := by
      have := HO.out
      rw [← spl9_append] at this
      unfold spO
      rw [List.length_append]
      exact this
    obtain ⟨p', c', rfl⟩ := spO_of ho
    have hb5 : kpW g W1 (W1.alloc (.cells #[.int .i64 (x : Int)] 3)) := kpW.of_below (by have := HZ.out; omega) ((Below.refl _ _).alloc (Nat.le_refl _) _)
    have hk3 : kpW g W1 w3 := hb5.trans (kpW.of_row hgh HS5.out (A3.out.alloc _) HG.out)
    have hne : ∀ k, k < h + 2 → some k ≠ (Value.slice p A.length c).ownBlock := fun k hk e => by
      have := (A3.out.lt k e.symm).1; omega
    have hz3 : h + 1 < w3.heap.size := by have := HG.out.size; have := HS5.out; omega
    have hal := Below.heap_alloc W1 (.cells #[.int .i64 (x : Int)] 3)
    have b1 : one9 60 w3 (h) (.slice (some ⟨g, 0, none⟩) m m) := (HG.out.block (h) (by rw [World.size_alloc]; have := HZ.out; omega) (hne _ (by omega))).trans ((hal (h) (by have := HZ.out; omega)).trans a1.out)
    have b2 : one9 26 w3 (h + 1) (.slice p A.length c) := (HG.out.block (h + 1) (by rw [World.size_alloc]; have := HZ.out; omega) (hne _ (by omega))).trans ((hal (h + 1) (by have := HZ.out; omega)).trans a2.out)
    have b4 : blR w3 g g m m (memW (A ++ [x])) := World.ownsRow.kept (a4'.out.below ((Below.refl _ _).alloc (Nat.le_refl _) _)) HG.out (by
      rcases rows_apart9 (a4'.out.below ((Below.refl _ _).alloc (Nat.le_refl _) (.cells #[.int .i64 (x : Int)] 3))) (A3.out.alloc (.cells #[.int .i64 (x : Int)] 3)) (by decide) with h | h
      · exact .inl h
      · exact .inr h)
    have f2 := b2.free
    have c3 := b2.cell
    have e1 : (A ++ [x]).length = A.length + 1 := by simp
    have hl2 := b2.lt
    have hg2 : w3.grownBy (w3.setCell ⟨h + 1, 0, none⟩ (.slice p' (A ++ [x]).length c')) (some (h + 1)) := grown_setCell w3 (h + 1) 0 _
    have hpw : putW A x = A ++ [x] := putW_out HIN.out
    have HE : Hid (clW (w3.setCell ⟨h + 1, 0, none⟩ (.slice p' (A.length + 1) c')) g h m (putW A x)) := Lib.hid (by
      rw [← e1, hpw]
      refine ⟨hgh, b1.grown hg2 (by simp), ⟨p', c', b2.stored _, ?_⟩, ?_⟩
      · refine World.ownsRow.kept ho hg2 (.inr fun e => ?_)
        have := (ho.lt (h + 1) e).1; omega
      · refine World.ownsRow.kept b4 hg2 (.inr ?_)
        simp [Value.ownBlock]; omega)
    have HKE : Hid (kpW g w (w3.setCell ⟨h + 1, 0, none⟩ (.slice p' (A.length + 1) c'))) := Lib.hid (e1 ▸ (HK1.out.trans hk3).trans (kpW.of_grown b2 (by decide) (by omega) hg2))
    clear ho hb5 hk3 hne hz3 hal b1 b2 b4 hg2 hpw HO HG e1
    refine Lib.hid ?_
    go_wp2_with fail
    refine bodyPost_end (results_none rfl _ _ _) rfl ?_
    exact ⟨rfl, HE.out, HKE.out⟩
end Go.Proofs.Ythmkjdpmpcjinaa
