/-
  The row of the type of a byte; what a list of bytes grows in.
  The walks of alpha's ends and within.
  What symbols are alike to no states, and to one more. Plain.
-/
import Derived.Test.YtpfbmbegddemoaaPk5
import Derived.Test.YtpfbmbegddemoaaPk22
import Derived.Test.YtpfbmbegddemoaaPk3
namespace Go.Proofs.Ytpfbmbegddemoaa
open Go.RowKit

theorem Try.info8 : (Try.prog.info? 5).map (fun i => (i.zero, i.size, i.bytes)) = some (some (.int .u8 0), 1, 1) := by kernel_rfl

end Go.Proofs.Ytpfbmbegddemoaa

namespace Go.Proofs.Ytpfbmbegddemoaa
open Go.RowKit

def endF (x : Nat) : Int := if x < 256 then 0 else (x : Int) - 255
def wiF (f : Nat → Bool) (x : Nat) : Int := if x < 256 ∧ f x = true then 1 else 0
/-- What is in the first j of a list of bytes. -/
def wiJ (l : List Nat) (j : Nat) (x : Nat) : Int := if x ∈ l.take j then 1 else 0
theorem wiJ_zero (l : List Nat) (x : Nat) : wiJ l 0 x = 0 := by simp [wiJ]
theorem wiJ_succ {l : List Nat} {j b : Nat} (h : l[j]? = some b) : putF (wiJ l j) b 1 = wiJ l (j + 1) := by
  funext x
  unfold putF wiJ
  have e : l.take (j + 1) = l.take j ++ [b] := by rw [List.take_add_one, h]; rfl
  rw [e]
  by_cases hx : x = b
  · subst hx; simp
  · rw [if_neg hx]
    have : x ∈ l.take j ++ [b] ↔ x ∈ l.take j := by simp [hx]
    by_cases hm : x ∈ l.take j
    · rw [if_pos hm, if_pos (this.2 hm)]
    · rw [if_neg hm, if_neg (fun h => hm (this.1 h))]
theorem wiJ_end (f : Nat → Bool) (x : Nat) : wiJ (bl f 256) (bl f 256).length x = wiF f x := by
  unfold wiJ wiF
  rw [List.take_length]
  have : x ∈ bl f 256 ↔ x < 256 ∧ f x = true := by unfold bl; rw [List.mem_filter, List.mem_range]
  by_cases h : x ∈ bl f 256
  · rw [if_pos h, if_pos (this.1 h)]
  · rw [if_neg h, if_neg (fun g => h (this.2 g))]

end Go.Proofs.Ytpfbmbegddemoaa

namespace Go.Proofs.Ytpfbmbegddemoaa

theorem alk_zero {S : Nat → Sd} {x y : Nat} : alk S 0 x y = true ↔ x = y ∨ (x ≤ 255 ∧ y ≤ 255) := by
  rw [alk_iff]
  constructor
  · rintro (h | ⟨h1, h2, _⟩)
    · exact .inl h
    · exact .inr ⟨h1, h2⟩
  · rintro (h | ⟨h1, h2⟩)
    · exact .inl h
    · exact .inr ⟨h1, h2, fun i hi => absurd hi (Nat.not_lt_zero _)⟩
theorem hdA_bytes {S : Nat → Sd} {x : Nat} (h : x ≤ 255) : hdA (alk S 0) x = 0 := by
  rcases Nat.eq_zero_or_pos x with rfl | h0
  · exact hdA_self fun j hj => absurd hj (Nat.not_lt_zero _)
  · exact hdA_is h0 (alk_zero.2 (.inr ⟨by omega, h⟩)) fun j hj => absurd hj (Nat.not_lt_zero _)
theorem hdA_ends {S : Nat → Sd} {x : Nat} (h : 255 < x) : hdA (alk S 0) x = x := hdA_self fun j hj => by
  cases e : alk S 0 j x with
  | false => rfl
  | true => rcases alk_zero.1 e with h | h <;> omega
theorem cnt_bytes (S : Nat → Sd) : ∀ n, n ≤ 255 → cntT (isH (alk S 0)) (n + 1) = 1
  | 0, _ => by
    rw [cntT_succ]
    have : isH (alk S 0) 0 = true := by unfold isH; rw [beq_iff_eq]; exact hdA_bytes (by omega)
    rw [if_pos this]; rfl
  | n + 1, h => by
    have : isH (alk S 0) (n + 1) = false := by unfold isH; rw [hdA_bytes h]; simp
    rw [cntT_succ, cnt_bytes S n (by omega), this]; rfl
theorem cnt_ends (S : Nat → Sd) : ∀ k, cntT (isH (alk S 0)) (256 + k) = 1 + k
  | 0 => cnt_bytes S 255 (by omega)
  | k + 1 => by
    have : isH (alk S 0) (256 + k) = true := by unfold isH; rw [beq_iff_eq]; exact hdA_ends (by omega)
    rw [show 256 + (k + 1) = (256 + k) + 1 by omega, cntT_succ, cnt_ends S k, if_pos this]; omega
theorem cl_zero (S : Nat → Sd) (x : Nat) : endF x = (clA (alk S 0) x : Nat) := by
  unfold endF clA
  by_cases h : x < 256
  · rw [if_pos h, hdA_bytes (by omega)]; rfl
  · rw [if_neg h, hdA_ends (by omega)]
    obtain ⟨k, rfl⟩ : ∃ k, x = 256 + k := ⟨x - 256, by omega⟩
    rw [cnt_ends]; omega
theorem wi_eq {f : Nat → Bool} {x y : Nat} (hx : x ≤ 255) (hy : y ≤ 255) : wiF f x = wiF f y ↔ f x = f y := by
  unfold wiF
  have h1 : x < 256 := by omega
  have h2 : y < 256 := by omega
  cases f x <;> cases f y <;> simp [h1, h2]
/-- A set more. -/
theorem alk_next (S : Nat → Sd) (i : Nat) : joR (fun x => (clA (alk S i) x : Nat)) (wiF (sOf (S i))) = alk S (i + 1) := by
  funext x y
  rw [Bool.eq_iff_iff, joR_iff, alk_iff]
  have h1 : (((clA (alk S i) x : Nat) : Int) = ((clA (alk S i) y : Nat) : Int)) ↔ (x = y ∨ (x ≤ 255 ∧ y ≤ 255 ∧ ∀ j, j < i → sOf (S j) x = sOf (S j) y)) := by
    rw [← alk_iff, ← clA_iff (alk_eq S i)]; omega
  rw [h1]
  constructor
  · rintro ⟨h | ⟨h2, h3, h4⟩, h5⟩
    · exact .inl h
    · refine .inr ⟨h2, h3, fun j hj => ?_⟩
      by_cases e : j = i
      · subst e; exact (wi_eq h2 h3).1 h5
      · exact h4 j (by omega)
  · rintro (rfl | ⟨h2, h3, h4⟩)
    · exact ⟨.inl rfl, rfl⟩
    · exact ⟨.inr ⟨h2, h3, fun j hj => h4 j (by omega)⟩, (wi_eq h2 h3).2 (h4 i (Nat.lt_succ_self i))⟩
theorem ofWords_none (x : Nat) : ofWords 0 0 0 0 x = false := by
  unfold ofWords
  simp
/-- A state without a set more. -/
theorem alk_skip {S : Nat → Sd} {i : Nat} (h : (S i).a = 0 ∧ (S i).b = 0 ∧ (S i).c = 0 ∧ (S i).d = 0) : alk S (i + 1) = alk S i := by
  have hs : ∀ x, sOf (S i) x = false := fun x => by
    unfold sOf
    rw [h.1, h.2.1, h.2.2.1, h.2.2.2]
    exact ofWords_none x
  funext x y
  rw [Bool.eq_iff_iff, alk_iff, alk_iff]
  constructor
  · rintro (h | ⟨h1, h2, h3⟩)
    · exact .inl h
    · exact .inr ⟨h1, h2, fun j hj => h3 j (by omega)⟩
  · rintro (h | ⟨h1, h2, h3⟩)
    · exact .inl h
    · refine .inr ⟨h1, h2, fun j hj => ?_⟩
      by_cases e : j = i
      · subst e; rw [hs, hs]
      · exact h3 j (by omega)
end Go.Proofs.Ytpfbmbegddemoaa
