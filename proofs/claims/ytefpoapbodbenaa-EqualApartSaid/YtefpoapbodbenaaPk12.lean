/-
  The walk of the twelfth reference's Run.
  Which states one comes to from which: counted by ways through ever more states. Plain.
-/
import Derived.Test.YtefpoapbodbenaaPk11
namespace Go.Proofs.Ytefpoapbodbenaa
open Go.RowKit

/-- Where a state goes by a symbol. -/
def goD (x : Da) (s y : Nat) : Nat := (x.l1 (s * x.wd.toNat + (x.l0 y).toNat)).toNat
/-- Where the first k symbols of a word lead; nowhere, if one of them is none. -/
def rwD (x : Da) (s : Nat) (l : Nat → Int) : Nat → Option Nat
  | 0 => some s
  | k + 1 => match rwD x s l k with
    | none => none
    | some t => if 0 ≤ l k ∧ l k ≤ 258 then some (goD x t (l k).toNat) else none
theorem rwD_none {x : Da} {s : Nat} {l : Nat → Int} {i : Nat} (h : rwD x s l i = none) : ∀ k, i ≤ k → rwD x s l k = none
  | 0, hk => by have : i = 0 := by omega
                subst this; exact h
  | k + 1, hk => by
    by_cases e : i = k + 1
    · subst e; exact h
    · show (match rwD x s l k with | none => none | some t => _) = none
      rw [rwD_none h k (by omega)]
theorem rwD_go {x : Da} {s : Nat} {l : Nat → Int} {i t : Nat} (h : rwD x s l i = some t) (hl : 0 ≤ l i ∧ l i ≤ 258) : rwD x s l (i + 1) = some (goD x t (l i).toNat) := by
  show (match rwD x s l i with | none => none | some t => _) = _
  rw [h]
  exact if_pos hl
theorem rwD_stop {x : Da} {s : Nat} {l : Nat → Int} {i t k : Nat} (h : rwD x s l i = some t) (hl : ¬ (0 ≤ l i ∧ l i ≤ 258)) (hk : i < k) : rwD x s l k = none := by
  refine rwD_none (i := i + 1) ?_ k hk
  show (match rwD x s l i with | none => none | some t => _) = _
  rw [h]
  exact if_neg hl
theorem goD_at {x : Da} (h : rgD x) {s y : Nat} (hs : s < x.n2) (hy : y < 259) : s * x.wd.toNat + (x.l0 y).toNat < x.n1 ∧ 0 ≤ x.l1 (s * x.wd.toNat + (x.l0 y).toNat) ∧ goD x s y < x.n2 := by
  obtain ⟨-, h1, h2, h3, h4, h5, -, -, h6, h7⟩ := h
  have a := h6 y hy
  obtain ⟨W, hW⟩ : ∃ W : Nat, x.wd = W := ⟨x.wd.toNat, by omega⟩
  rw [hW] at a h5 ⊢
  rw [Int.toNat_natCast]
  have e : (x.l0 y).toNat < W := by omega
  have h8 : x.n1 = x.n2 * W := by exact_mod_cast h5
  have h9 : (s + 1) * W ≤ x.n2 * W := Nat.mul_le_mul_right W hs
  rw [Nat.succ_mul] at h9
  have h10 : s * W + (x.l0 y).toNat < x.n1 := by omega
  have h11 := h7 _ h10
  refine ⟨h10, h11.1, ?_⟩
  unfold goD
  rw [hW, Int.toNat_natCast]
  omega
noncomputable def rnD (x : Da) (s : Int) (l : Nat → Int) (k : Nat) : Int := if rgB x = true ∧ 0 ≤ s ∧ s < x.n2 then (match rwD x s.toNat l k with | none => -1 | some t => (t : Int)) else -1

end Go.Proofs.Ytefpoapbodbenaa

namespace Go.Proofs.Ytefpoapbodbenaa

/-- One comes from a state to another one, by some edges or none. -/
inductive rtE (E : Nat → Nat → Bool) : Nat → Nat → Prop
  | refl (i : Nat) : rtE E i i
  | tail {i j k : Nat} : rtE E i j → E j k = true → rtE E i k
theorem rtE.one {E : Nat → Nat → Bool} {i k : Nat} (h : E i k = true) : rtE E i k := .tail (.refl i) h
theorem rtE.trans {E : Nat → Nat → Bool} {i j k : Nat} (h : rtE E i j) (g : rtE E j k) : rtE E i k := by
  induction g with
  | refl => exact h
  | tail _ e ih => exact .tail ih e
/-- Behind m rounds. -/
def wsh (E : Nat → Nat → Bool) : Nat → Nat → Nat → Bool
  | 0 => E
  | m + 1 => fun i k => wsh E m i k || (wsh E m i m && wsh E m m k)
theorem wsh_iff {E : Nat → Nat → Bool} {m i k : Nat} : wsh E (m + 1) i k = true ↔ wsh E m i k = true ∨ (wsh E m i m = true ∧ wsh E m m k = true) := by
  show (wsh E m i k || (wsh E m i m && wsh E m m k)) = true ↔ _
  rw [Bool.or_eq_true, Bool.and_eq_true]
theorem wsh_le {E : Nat → Nat → Bool} {i k : Nat} (h : E i k = true) : ∀ m, wsh E m i k = true
  | 0 => h
  | m + 1 => wsh_iff.2 (.inl (wsh_le h m))
theorem wsh_rt {E : Nat → Nat → Bool} : ∀ m i k, wsh E m i k = true → rtE E i k
  | 0, _, _, h => .one h
  | m + 1, i, k, h => by
    rcases wsh_iff.1 h with h | ⟨h1, h2⟩
    · exact wsh_rt m i k h
    · exact (wsh_rt m i m h1).trans (wsh_rt m m k h2)
theorem wsh_col {E : Nat → Nat → Bool} {m i : Nat} : wsh E (m + 1) i m = wsh E m i m := by
  rw [Bool.eq_iff_iff, wsh_iff]
  exact ⟨fun h => h.elim id And.left, .inl⟩
theorem wsh_row {E : Nat → Nat → Bool} {m k : Nat} : wsh E (m + 1) m k = wsh E m m k := by
  rw [Bool.eq_iff_iff, wsh_iff]
  exact ⟨fun h => h.elim id And.right, .inl⟩
theorem wsh_trans {E : Nat → Nat → Bool} : ∀ m a b c, b < m → wsh E m a b = true → wsh E m b c = true → wsh E m a c = true
  | 0, _, _, _, h, _, _ => absurd h (Nat.not_lt_zero _)
  | m + 1, a, b, c, hb, h1, h2 => by
    by_cases e : b = m
    · subst e
      rw [wsh_col] at h1
      rw [wsh_row] at h2
      exact wsh_iff.2 (.inr ⟨h1, h2⟩)
    · have hb' : b < m := by omega
      have T := fun a b c => wsh_trans (E := E) m a b c
      rcases wsh_iff.1 h1 with h1 | ⟨h1, h1'⟩
      · rcases wsh_iff.1 h2 with h2 | ⟨h2, h2'⟩
        · exact wsh_iff.2 (.inl (T _ _ _ hb' h1 h2))
        · exact wsh_iff.2 (.inr ⟨T _ _ _ hb' h1 h2, h2'⟩)
      · rcases wsh_iff.1 h2 with h2 | ⟨h2, h2'⟩
        · exact wsh_iff.2 (.inr ⟨h1, T _ _ _ hb' h1' h2⟩)
        · exact wsh_iff.2 (.inr ⟨h1, h2'⟩)
/-- Behind all rounds: just where one comes to. -/
theorem wsh_all {E : Nat → Nat → Bool} {n : Nat} (hr : ∀ i, i < n → E i i = true) (hl : ∀ i k, i < n → E i k = true → k < n) {i : Nat} (hi : i < n) (k : Nat) : wsh E n i k = true ↔ rtE E i k := by
  refine ⟨wsh_rt n i k, fun h => ?_⟩
  have key : wsh E n i k = true ∧ k < n := by
    induction h with
    | refl => exact ⟨wsh_le (hr i hi) n, hi⟩
    | tail _ e ih => exact ⟨wsh_trans n _ _ _ ih.2 ih.1 (wsh_le e n), hl _ _ ih.2 e⟩
  exact key.1
/-- A state leads to itself, and to where its symbols lead. -/
def edD (x : Da) (i k : Nat) : Bool := i == k || (List.range 259).any fun y => goD x i y == k
theorem edD_iff {x : Da} {i k : Nat} : edD x i k = true ↔ i = k ∨ ∃ y, y < 259 ∧ goD x i y = k := by
  unfold edD
  simp only [Bool.or_eq_true, beq_iff_eq, List.any_eq_true, List.mem_range]
theorem edD_lt {x : Da} (h : rgD x) : ∀ i k, i < x.n2 → edD x i k = true → k < x.n2 := fun i k hi e => by
  rcases edD_iff.1 e with rfl | ⟨y, hy, rfl⟩
  · exact hi
  · exact (goD_at h hi hy).2.2
theorem comes_iff {x : Da} (h : rgD x) {i : Nat} (hi : i < x.n2) (k : Nat) : wsh (edD x) x.n2 i k = true ↔ rtE (edD x) i k :=
  wsh_all (fun _ _ => edD_iff.2 (.inl rfl)) (edD_lt h) hi k
end Go.Proofs.Ytefpoapbodbenaa
