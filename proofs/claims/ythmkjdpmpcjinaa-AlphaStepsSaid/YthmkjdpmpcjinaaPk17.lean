/-
  Rows of states in memory, as lists.
  The walk of the ninth reference's put.
-/
import Derived.Test.YthmkjdpmpcjinaaPk13
import Derived.Test.YthmkjdpmpcjinaaPk16
import Derived.Laws.AppendOwnNone
namespace Go.Proofs.Ythmkjdpmpcjinaa
open Go.RowKit

theorem infoState9 : (Try.prog.info? 42).map (fun i => (i.zero, i.size, i.bytes)) = some (some (.agg #[.int .i64 0, .int .i64 0, .int .i64 0, .int .u64 0, .int .u64 0, .int .u64 0, .int .u64 0]), 7, 56) := by kernel_rfl
def scs (x : Sd) : List Value := [.int .i64 x.k, .int .i64 x.A, .int .i64 x.B, .int .u64 x.a, .int .u64 x.b, .int .u64 x.c, .int .u64 x.d]
def sds (l : List Sd) : List Value := l.flatMap scs
theorem sds_append (l r : List Sd) : sds (l ++ r) = sds l ++ sds r := by simp [sds]
theorem sds_one (x : Sd) : sds [x] = scs x := by simp [sds]
theorem sds_cons (x : Sd) (l : List Sd) : sds (x :: l) = scs x ++ sds l := rfl
theorem sds_len (l : List Sd) : (sds l).length = l.length * 7 := by
  induction l with
  | nil => rfl
  | cons x l ih => rw [sds_cons, List.length_append, ih, List.length_cons]; simp [scs]; omega
theorem sds_cell (l : List Sd) : ∀ u ∈ sds l, u.oneCell' = true := by
  intro u hu
  unfold sds at hu
  obtain ⟨x, _, hx⟩ := List.mem_flatMap.1 hu
  unfold scs at hx
  simp at hx
  rcases hx with rfl | rfl | rfl | rfl | rfl | rfl | rfl <;> rfl
theorem sds_get (l : List Sd) (j : Nat) (h : j < l.length) (x : Nat) (hx : x < 7) : (sds l)[j * 7 + x]? = (scs l[j])[x]? := by
  induction l generalizing j with
  | nil => simp at h
  | cons r l ih =>
    have e7 : (scs r).length = 7 := rfl
    rw [sds_cons]
    cases j with
    | zero => rw [List.getElem?_append_left (by omega)]; simp
    | succ j =>
      rw [List.getElem?_append_right (by omega), e7, show (j + 1) * 7 + x - 7 = j * 7 + x by omega]
      exact ih j (by simpa using h)
theorem sds_setA (l : List Sd) (j A : Nat) : (sds l).set (j * 7 + 1) (.int .i64 (A : Int)) = sds (setA l j A) := by
  induction l generalizing j with
  | nil => simp [sds, setA]
  | cons r l ih =>
    cases j with
    | zero => rfl
    | succ j =>
      have e : setA (r :: l) (j + 1) A = r :: setA l j A := rfl
      rw [sds_cons, e, sds_cons, ← ih j, show (j + 1) * 7 + 1 = (j * 7 + 1) + 7 by omega]
      rfl
theorem sds_setB (l : List Sd) (j A : Nat) : (sds l).set (j * 7 + 2) (.int .i64 (A : Int)) = sds (setB l j A) := by
  induction l generalizing j with
  | nil => simp [sds, setB]
  | cons r l ih =>
    cases j with
    | zero => rfl
    | succ j =>
      have e : setB (r :: l) (j + 1) A = r :: setB l j A := rfl
      rw [sds_cons, e, sds_cons, ← ih j, show (j + 1) * 7 + 2 = (j * 7 + 2) + 7 by omega]
      rfl

/-- A row of states that a call owns, not empty. -/
def stO (w : World) (base g c : Nat) (L : List Sd) : Prop := w.ownsRow base 42 7 (.slice (some ⟨g, 0, none⟩) L.length c) L.length (sds L)
theorem stO.below {w w' : World} {base g c : Nat} {L : List Sd} (h : stO w base g c L) (hb : Below w.heap.size w w') : stO w' base g c L := owns_below h hb
theorem stO.mono {w : World} {base base' g c : Nat} {L : List Sd} (h : stO w base g c L) (hb : base' ≤ base) : stO w base' g c L := owns_mono h hb
theorem stO.lt {w : World} {base g c : Nat} {L : List Sd} (h : stO w base g c L) : base ≤ g ∧ g < w.heap.size := World.ownsRow.lt h g rfl
theorem stO.free {w : World} {base g c : Nat} {L : List Sd} (h : stO w base g c L) (j : Nat) : w.frozen? ⟨g, j, none⟩ = false := World.ownsRow.frozenAt h j
theorem stO.putA {w : World} {base g c : Nat} {L : List Sd} (h : stO w base g c L) (j A : Nat) : stO (w.setCell ⟨g, j * 7 + 1, none⟩ (.int .i64 (A : Int))) base g c (setA L j A) := by
  have := (World.ownsRow.stored h (j * 7 + 1) (.int .i64 (A : Int))).1
  rw [sds_setA] at this
  unfold stO
  rw [setA_len]; exact this
theorem stO.putB {w : World} {base g c : Nat} {L : List Sd} (h : stO w base g c L) (j A : Nat) : stO (w.setCell ⟨g, j * 7 + 2, none⟩ (.int .i64 (A : Int))) base g c (setB L j A) := by
  have := (World.ownsRow.stored h (j * 7 + 2) (.int .i64 (A : Int))).1
  rw [sds_setB] at this
  unfold stO
  rw [setB_len]; exact this
theorem stO.cell {w : World} {base g c : Nat} {L : List Sd} (h : stO w base g c L) (j : Nat) (u : Value) (hu : (sds L)[j]? = some u) : w.cell? ⟨g, j, none⟩ = some u := by
  have hl : j < L.length * 7 := by
    rcases Nat.lt_or_ge j (sds L).length with h | h
    · rwa [sds_len] at h
    · rw [List.getElem?_eq_none h] at hu; cases hu
  rw [World.ownsRow.cellAt h j hl]; exact hu
/-- The states that a slice reads as: none, or those of a block. -/
def srd (w : World) (v : Value) (L : List Sd) : Prop := (v = .slice none 0 0 ∧ L = []) ∨ ∃ b c, v = .slice (some ⟨b, 0, none⟩) L.length c ∧ b < w.heap.size ∧ ∀ j u, (sds L)[j]? = some u → w.cell? ⟨b, j, none⟩ = some u
theorem srd.below {w w' : World} {v : Value} {L : List Sd} (h : srd w v L) (hb : Below w.heap.size w w') : srd w' v L := by
  rcases h with h | ⟨b, c, rfl, hl, hc⟩
  · exact .inl h
  · exact .inr ⟨b, c, rfl, Nat.lt_of_lt_of_le hl hb.size, fun j u hu => by rw [hb.cell (p := ⟨b, j, none⟩) hl]; exact hc j u hu⟩
theorem stO.rd {w : World} {base g c : Nat} {L : List Sd} (h : stO w base g c L) : srd w (.slice (some ⟨g, 0, none⟩) L.length c) L := .inr ⟨g, c, rfl, h.lt.2, fun j u hu => h.cell j u hu⟩
theorem stO.reads {w : World} {base g c : Nat} {L : List Sd} (h : stO w base g c L) : rdS w g 0 L.length (sfn L) := fun j hj => by
  refine ⟨h.lt.2, ?_⟩
  rw [sfn_lt hj]
  have k : ∀ x u, x < 7 → (scs L[j])[x]? = some u → w.cell? ⟨g, 0 + j * 7 + x, none⟩ = some u := fun x u hx hu => by
    rw [Nat.zero_add]
    exact h.cell _ _ (by rw [sds_get L j hj x hx]; exact hu)
  exact ⟨k 0 _ (by decide) rfl, k 1 _ (by decide) rfl, k 2 _ (by decide) rfl, k 3 _ (by decide) rfl, k 4 _ (by decide) rfl, k 5 _ (by decide) rfl, k 6 _ (by decide) rfl⟩
theorem stO_of {w : World} {base : Nat} {v : Value} {L : List Sd} (h : w.ownsRow base 42 7 v L.length (sds L)) (hl : 1 ≤ L.length) : ∃ g c, v = .slice (some ⟨g, 0, none⟩) L.length c ∧ stO w base g c L := by
  rcases id h.2 with ⟨rfl, h0⟩ | ⟨g, cap, cur, rfl, _⟩
  · omega
  · exact ⟨g, cap, rfl, h⟩
theorem lit_st9 (w : World) (x : Sd) : ∀ j u, (sds [x])[j]? = some u → (w.alloc (.cells #[.int .i64 x.k, .int .i64 x.A, .int .i64 x.B, .int .u64 x.a, .int .u64 x.b, .int .u64 x.c, .int .u64 x.d] 42)).cell? ((⟨w.heap.size, 0, none⟩ : Addr).add j) = some u := by
  intro j u hu
  rw [sds_one] at hu
  unfold scs at hu
  match j, hu with
  | 0, hu => simp at hu; subst hu; simp [Addr.add]
  | 1, hu => simp at hu; subst hu; simp [Addr.add]
  | 2, hu => simp at hu; subst hu; simp [Addr.add]
  | 3, hu => simp at hu; subst hu; simp [Addr.add]
  | 4, hu => simp at hu; subst hu; simp [Addr.add]
  | 5, hu => simp at hu; subst hu; simp [Addr.add]
  | 6, hu => simp at hu; subst hu; simp [Addr.add]
end Go.Proofs.Ythmkjdpmpcjinaa

namespace Go.Proofs.Ythmkjdpmpcjinaa
open Go.RowKit

theorem wp_append_none9 {P : Program} {w : World} {o : Oper} {a : Act} {K : Act → World → Prop} {Q : Exit → Act → World → Prop} (s x : Operand) (t : TypeId)
    (ho : o.op = .call { callee := .builtin .append, args := #[s, x], argTypes := #[t, t] })
    (base : Nat) (e : TypeId) (i : TypeInfo) (size : Nat) (ht : P.underlying t = some (.slice e)) (hi : P.info? e = some i)
    (v : Value) (n : Nat) (xs : List Value) (hs : a.eval s = v) (hown : w.ownsRow base e size v n xs) (hx : a.eval x = .slice none 0 0)
    (h : K (a.put o.dst v) w) : o.wp P a w K Q := by
  have hrun := run_append_owned_none (P := P) (w := w) base t o.type e i size ht hi v n xs hown
  unfold Oper.wp
  simp [execOp, ho, resolve, invoke, builtin, hs, hx, hrun, Result.andThen]
  exact h
theorem wp_append_sds {w : World} {o : Oper} {a : Act} {K : Act → World → Prop} {Q : Exit → Act → World → Prop} (s x : Operand)
    (ho : o.op = .call { callee := .builtin .append, args := #[s, x], argTypes := #[22, 22] }) (base : Nat) (v : Value) (l : List Sd) (hs : a.eval s = v)
    (hown : w.ownsRow base 42 7 v l.length (sds l)) (v2 : Value) (m : List Sd) (hx : a.eval x = v2) (hrd : srd w v2 m) (hlen : l.length + m.length ≤ 100000) (hbase : base ≤ w.heap.size)
    (h : ∀ v' w', w'.ownsRow base 42 7 v' (l ++ m).length (sds (l ++ m)) → w.grownBy w' v.ownBlock → K (a.put o.dst v') w') : o.wp Try.prog a w K Q := by
  obtain ⟨i0, hi, hz0, hz1, hz2⟩ := info_parts infoState9
  rcases hrd with ⟨rfl, rfl⟩ | ⟨g, c, rfl, hg, hc⟩
  · refine wp_append_none9 s x 22 ho base 42 i0 7 Try.underlying22 hi v l.length (sds l) hs hown hx ?_
    refine h v w ?_ ⟨rfl, rfl, rfl, Nat.le_refl _, fun _ _ _ => rfl⟩
    rw [List.append_nil]; exact hown
  · refine wp_append_own w s x 22 ho base 42 i0 (.agg #[.int .i64 0, .int .i64 0, .int .i64 0, .int .u64 0, .int .u64 0, .int .u64 0, .int .u64 0]) 7 56 Try.underlying22 hi hz0 hz1 hz2 rfl (by decide) v l.length (sds l) hs hown ⟨g, 0, none⟩ m.length c (sds m) hx (sds_len m) (fun j u hu => by rw [show (⟨g, 0, none⟩ : Addr).add j = ⟨g, j, none⟩ by unfold Addr.add; split <;> simp_all]; exact hc j u hu) (sds_cell m) (by unfold maxLen; omega) (by omega) hbase ?_
    intro v' w' h1 h2 _
    refine h v' w' ?_ h2
    rw [sds_append, List.length_append]; exact h1
theorem lit_rd9 (w : World) (x : Sd) : srd (w.alloc (.cells #[.int .i64 x.k, .int .i64 x.A, .int .i64 x.B, .int .u64 x.a, .int .u64 x.b, .int .u64 x.c, .int .u64 x.d] 42)) (.slice (some ⟨w.heap.size, 0, none⟩) 1 1) [x] :=
  .inr ⟨_, _, rfl, by simp, fun j u hu => by have := lit_st9 w x j u hu; rwa [show (⟨w.heap.size, 0, none⟩ : Addr).add j = ⟨w.heap.size, j, none⟩ by unfold Addr.add; split <;> simp_all] at this⟩
theorem srd.grown {w w' : World} {b c n : Nat} {L : List Sd} {r : Option Nat} (h : srd w (.slice (some ⟨b, 0, none⟩) n c) L) (hg : w.grownBy w' r) (hr : some b ≠ r) : srd w' (.slice (some ⟨b, 0, none⟩) n c) L := by
  rcases h with ⟨h, _⟩ | ⟨b', c', h, hl, hc⟩
  · cases h
  · simp only [Value.slice.injEq, Option.some.injEq, Addr.mk.injEq] at h
    obtain ⟨⟨rfl, -⟩, rfl, rfl⟩ := h
    exact .inr ⟨b, c, rfl, Nat.lt_of_lt_of_le hl hg.size, fun j u hu => hg.cell (hc j u hu) hr⟩
theorem lit0_own9 (w : World) (base : Nat) (hb : base ≤ w.heap.size) : (w.alloc (.cells #[] 42)).ownsRow base 42 7 (.slice (some ⟨w.heap.size, 0, none⟩) 0 0) ([] : List Sd).length (sds []) :=
  World.ownsRow_lit (e := 42) (size := 7) w #[] 0 hb (by decide) rfl

def putPost (L : List Sd) (x : Sd) (w : World) (e : Ending) (w' : World) : Prop := ∃ g c, e = .returned (.tuple #[.slice (some ⟨g, 0, none⟩) (L ++ [x]).length c, .int .i64 (L.length : Int)]) ∧ stO w' w.heap.size g c (L ++ [x]) ∧ Below w.heap.size w w'
end Go.Proofs.Ythmkjdpmpcjinaa
