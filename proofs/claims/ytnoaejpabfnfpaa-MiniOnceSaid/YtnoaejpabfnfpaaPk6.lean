/-
  The walk of the ninth reference's Step.
  The walks of the ninth reference's Of and Told.
  The walk of the ninth reference's Told.
-/
import Derived.Test.YtnoaejpabfnfpaaPk5
import Derived.Test.YtnoaejpabfnfpaaPk1
namespace Go.Proofs.Ytnoaejpabfnfpaa
open Go.RowKit

/-- Words of a set, in range. -/
def okWs (x : Sd) : Prop := (0 ≤ x.a ∧ x.a < 18446744073709551616) ∧ (0 ≤ x.b ∧ x.b < 18446744073709551616) ∧ (0 ≤ x.c ∧ x.c < 18446744073709551616) ∧ (0 ≤ x.d ∧ x.d < 18446744073709551616)
theorem okWs_wd {x : Sd} (h : okWs x) : x.a = (wd (sOf x) 0 : Int) ∧ x.b = (wd (sOf x) 1 : Int) ∧ x.c = (wd (sOf x) 2 : Int) ∧ x.d = (wd (sOf x) 3 : Int) := fOf_wd (x := ⟨0, x.a, x.b, x.c, x.d, 0, 0⟩) h
/-- What the reference does at a state; at the first i of them. -/
def st1 (S : Nat → Sd) (y : Nat) (T : Nat → Bool) (T' : Nat → Bool) (i : Nat) : Nat → Bool := if T i = true ∧ (S i).k = 1 ∧ sOf (S i) y = true then putT T' (S i).A.toNat true else T'
def stR (S : Nat → Sd) (y : Nat) (T : Nat → Bool) : Nat → Nat → Bool
  | 0 => fun _ => false
  | i + 1 => st1 S y T (stR S y T i) i
theorem stR_iff {S : Nat → Sd} {y m : Nat} {T : Nat → Bool} (hr : rng S m) : ∀ {i q}, i ≤ m → (stR S y T i q = true ↔ ∃ q0, q0 < i ∧ T q0 = true ∧ (S q0).k = 1 ∧ sOf (S q0) y = true ∧ (q : Int) = (S q0).A)
  | 0, q, _ => Iff.intro (fun h => (by simp [stR] at h)) (fun ⟨_, h, _⟩ => absurd h (Nat.not_lt_zero _))
  | i + 1, q, hi => by
    have ih := stR_iff (y := y) (T := T) hr (i := i) (q := q) (by omega)
    obtain ⟨_, _, a1, a2, _, _⟩ := hr i (by omega)
    show st1 S y T (stR S y T i) i q = true ↔ _
    unfold st1
    by_cases h : T i = true ∧ (S i).k = 1 ∧ sOf (S i) y = true
    · rw [if_pos h]
      constructor
      · intro g
        rcases putT_or g with g | g
        · obtain ⟨q0, k1, k2⟩ := ih.1 g
          exact ⟨q0, by omega, k2⟩
        · exact ⟨i, by omega, h.1, h.2.1, h.2.2, by omega⟩
      · rintro ⟨q0, k1, k2⟩
        by_cases e : q0 = i
        · subst e
          have : q = (S q0).A.toNat := by omega
          rw [this]; exact putT_at
        · exact putT_le (ih.2 ⟨q0, by omega, k2⟩)
    · rw [if_neg h]
      constructor
      · intro g
        obtain ⟨q0, k1, k2⟩ := ih.1 g
        exact ⟨q0, by omega, k2⟩
      · rintro ⟨q0, k1, k2, k3, k4, k5⟩
        by_cases e : q0 = i
        · subst e; exact absurd ⟨k2, k3, k4⟩ h
        · exact ih.2 ⟨q0, by omega, k2, k3, k4, k5⟩

theorem made_bls (m : Nat) : (madeCells #[Value.bool false] m).toList = bls (fun _ => false) m := by
  unfold madeCells bls
  apply List.ext_getElem
  · simp
  · intro i h1 h2
    simp [Nat.mod_one]

end Go.Proofs.Ytnoaejpabfnfpaa

namespace Go.Proofs.Ytnoaejpabfnfpaa
open Go.RowKit

/-- Numbers that are read, as many as n. -/
def rdL (w : World) (p : Option Addr) (n : Nat) (l : Nat → Int) : Prop := ∀ j, j < n → ∃ b o, p = some ⟨b, o, none⟩ ∧ b < w.heap.size ∧ w.cell? ⟨b, o + j, none⟩ = some (.int .i64 (l j))
theorem rdL.below {w w' : World} {p : Option Addr} {n : Nat} {l : Nat → Int} (h : rdL w p n l) (hb : Below w.heap.size w w') : rdL w' p n l := fun j hj => by
  obtain ⟨b, o, h1, h2, h3⟩ := h j hj
  exact ⟨b, o, h1, Nat.lt_of_lt_of_le h2 hb.size, by rw [hb.cell (p := ⟨b, o + j, none⟩) h2]; exact h3⟩
/-- What the first k of them name. -/
def inL (m : Nat) (l : Nat → Int) : Nat → Nat → Bool
  | 0 => fun _ => false
  | k + 1 => if 0 ≤ l k ∧ l k < m then putT (inL m l k) (l k).toNat true else inL m l k
theorem inL_iff {m : Nat} {l : Nat → Int} : ∀ {k q}, q < m → (inL m l k q = true ↔ ∃ i, i < k ∧ l i = (q : Int))
  | 0, q, _ => Iff.intro (fun h => by simp [inL] at h) (fun ⟨_, h, _⟩ => absurd h (Nat.not_lt_zero _))
  | k + 1, q, hq => by
    have ih := inL_iff (l := l) (k := k) hq
    unfold inL
    by_cases h : 0 ≤ l k ∧ l k < m
    · rw [if_pos h]
      constructor
      · intro g
        rcases putT_or g with g | g
        · obtain ⟨i, k1, k2⟩ := ih.1 g
          exact ⟨i, by omega, k2⟩
        · exact ⟨k, by omega, by omega⟩
      · rintro ⟨i, k1, k2⟩
        by_cases e : i = k
        · subst e
          have : q = (l i).toNat := by omega
          rw [this]; exact putT_at
        · exact putT_le (ih.2 ⟨i, by omega, k2⟩)
    · rw [if_neg h]
      constructor
      · intro g
        obtain ⟨i, k1, k2⟩ := ih.1 g
        exact ⟨i, by omega, k2⟩
      · rintro ⟨i, k1, k2⟩
        by_cases e : i = k
        · subst e; omega
        · exact ih.2 ⟨i, by omega, k2⟩

end Go.Proofs.Ytnoaejpabfnfpaa

namespace Go.Proofs.Ytnoaejpabfnfpaa
open Go.RowKit

/-- A rising list of what is true. -/
def trs (T : Nat → Bool) (m : Nat) : List Nat := (List.range m).filter fun j => T j
theorem trs_len (T : Nat → Bool) (m : Nat) : (trs T m).length = cntT T m := rfl
theorem trs_at {T : Nat → Bool} : ∀ {m i}, i < m → T i = true → (trs T m)[cntT T i]? = some i
  | 0, i, h, _ => absurd h (Nat.not_lt_zero _)
  | m + 1, i, h, hT => by
    have es : trs T (m + 1) = trs T m ++ [m].filter fun j => T j := by unfold trs; rw [List.range_succ, List.filter_append]
    rw [es]
    by_cases e : i = m
    · subst e
      rw [List.getElem?_append_right (show (trs T i).length ≤ cntT T i from Nat.le_refl _), List.filter_cons_of_pos hT]
      rw [show cntT T i - (trs T i).length = 0 from Nat.sub_self _]; rfl
    · have hm := trs_at (m := m) (i := i) (by omega) hT
      have hlt : cntT T i < (trs T m).length := by
        rcases Nat.lt_or_ge (cntT T i) (trs T m).length with g | g
        · exact g
        · rw [List.getElem?_eq_none g] at hm; cases hm
      rw [List.getElem?_append_left hlt]
      exact hm

end Go.Proofs.Ytnoaejpabfnfpaa
