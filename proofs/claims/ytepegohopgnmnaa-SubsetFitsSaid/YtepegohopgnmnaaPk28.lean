/-
  The walk of nfa.Right.
-/
import Derived.Test.YtepegohopgnmnaaPk25
import Derived.BigQuiet
import Derived.Deep.QuietTactic
namespace Go.Proofs.Ytepegohopgnmnaa
open Go.RowKit

theorem ffB_iff {S : Nat → Sd} {m q : Nat} (hm : 1 ≤ m) : ffB (S q) m = true ↔ okQ S m q := by
  unfold ffB okQ goP
  by_cases h6 : (S q).k = 6
  · rw [h6]
    simp
    omega
  · by_cases h3 : (S q).k = 3
    · rw [h3]
      simp
      omega
    · by_cases h1 : (S q).k = 1
      · rw [h1]
        simp
        omega
      · have e6 : ((S q).k != 6) = true := by simp [h6]
        have e3 : ((S q).k == 3) = false := beq_eq_false_iff_ne.2 h3
        have e1 : ((S q).k == 1) = false := beq_eq_false_iff_ne.2 h1
        rw [e6, e3, e1]
        simp
        omega
theorem cntT_single (f : Nat) : ∀ m, cntT (fun q => decide (q = f)) m = if f < m then 1 else 0
  | 0 => by rw [if_neg (Nat.not_lt_zero _)]; rfl
  | m + 1 => by
    rw [cntT_succ, cntT_single f m]
    by_cases h : m = f
    · subst h; simp
    · by_cases h2 : f < m
      · rw [if_pos h2, if_neg (by simpa using h), if_pos (by omega)]
      · rw [if_neg h2, if_neg (by simpa using h), if_neg (by omega)]
theorem cntT_congr {T T' : Nat → Bool} : ∀ {m}, (∀ q, q < m → T q = T' q) → cntT T m = cntT T' m
  | 0, _ => rfl
  | m + 1, h => by
    rw [cntT_succ, cntT_succ, cntT_congr (m := m) fun q hq => h q (by omega), h m (by omega)]
/-- There is one, and it is f. -/
theorem cntT_one {T : Nat → Bool} {m f : Nat} (hf : f < m) : (cntT T m = 1 ∧ T f = true) ↔ ∀ q, q < m → T q = decide (q = f) := by
  constructor
  · rintro ⟨h1, h2⟩ q hq
    by_cases e : q = f
    · subst e; simpa using h2
    · rw [decide_eq_false e]
      cases hT : T q with
      | false => rfl
      | true =>
        have := cntT_less (T := fun q => decide (q = f)) (T' := T) (fun q hq => by
          have : q = f := by simpa using hq
          rw [this]; exact h2) (q := q) (by simpa using e) hT m hq
        rw [cntT_single, if_pos hf] at this
        omega
  · intro h
    refine ⟨?_, by rw [h f hf]; simp⟩
    rw [cntT_congr h, cntT_single, if_pos hf]
/-- What the code asks of a state at a place. -/
def okR (S : Nat → Sd) (m : Nat) (fin : Int) (q : Nat) : Prop := ffB (S q) m = true ∧ ((S q).k == 6) = decide ((q : Int) = fin)
theorem right_okR {S : Nat → Sd} {m : Nat} {st fin : Int} (h : 1 ≤ m ∧ m ≤ 600 ∧ 0 ≤ st ∧ st < m ∧ 0 ≤ fin ∧ fin < m) : rightP S m st fin ↔ ∀ q, q < m → okR S m fin q := by
  obtain ⟨f, rfl⟩ : ∃ f : Nat, fin = f := ⟨fin.toNat, by omega⟩
  have hf : f < m := by omega
  have hc := cntT_one (T := six S) hf
  have e6 : six S f = true ↔ (S f).k = 6 := by unfold six; simp
  unfold rightP okR
  rw [Int.toNat_natCast]
  constructor
  · rintro ⟨_, h2, h3, h4⟩ q hq
    refine ⟨(ffB_iff h.1).2 (h2 q hq), ?_⟩
    have := hc.1 ⟨h3, e6.2 h4⟩ q hq
    unfold six at this
    rw [this]
    simp [Int.ofNat_inj]
  · intro g
    have hs : ∀ q, q < m → six S q = decide (q = f) := fun q hq => by
      have := (g q hq).2
      unfold six
      rw [this]
      simp [Int.ofNat_inj]
    obtain ⟨k1, k2⟩ := hc.2 hs
    exact ⟨h, fun q hq => (ffB_iff h.1).1 (g q hq).1, k1, e6.1 k2⟩
end Go.Proofs.Ytepegohopgnmnaa
