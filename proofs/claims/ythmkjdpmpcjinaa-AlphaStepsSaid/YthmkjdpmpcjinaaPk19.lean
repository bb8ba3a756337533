/-
  The walks of Args, the code's and the reference's.
  The walk of First: where a part begins.
  The walk of Kids: the last nodes of a node's arguments.
-/
import Derived.Test.YthmkjdpmpcjinaaPk12
namespace Go.Proofs.Ythmkjdpmpcjinaa
open Go.RowKit

theorem arI {a b : Int} (h : a = b) : Ending.returned (.int .i64 a) = Ending.returned (.int .i64 b) := by rw [h]

end Go.Proofs.Ythmkjdpmpcjinaa

namespace Go.Proofs.Ythmkjdpmpcjinaa
open Go.RowKit

/-- What holds at the loop's head. -/
def fstRel (N : Nat → Nd) (i : Nat) (mi at_ : Value) : Prop :=
  (∃ p m : Nat, p ≤ i ∧ m ≤ 2 * (i - p) ∧ mi = .int .i64 ((m : Int) + 1) ∧ at_ = .int .i64 (p : Int) ∧ Hid (fst N i = back N (p + 1) (m + 1))) ∨ (at_ = .int .i64 (-1) ∧ Hid (fst N i = -1))
theorem fst_rel {N : Nat → Nd} {i p m : Nat} {x y : Int} (hp : p ≤ i) (hm : m + 1 ≤ 2 * (i - p) + 2) (hx : x = (m : Int) + 1) (hy : y = (p : Int) - 1) (h : fst N i = back N p (m + 1)) : fstRel N i (.int .i64 x) (.int .i64 y) := by
  subst hx hy
  cases p with
  | zero => exact .inr ⟨rfl, Lib.hid (by rw [h, back_none])⟩
  | succ p => exact .inl ⟨p, m, by omega, by omega, rfl, by rw [show ((p + 1 : Nat) : Int) - 1 = p by omega], Lib.hid h⟩

end Go.Proofs.Ythmkjdpmpcjinaa

namespace Go.Proofs.Ythmkjdpmpcjinaa
open Go.RowKit

/-- A node whose part begins somewhere: what its arguments are. -/
theorem kids_back {N : Nat → Nd} {i : Nat} (h : 0 ≤ fst N i) : (ar (N i).k = 0 ∧ kids N i = [] ∧ fst N i = i) ∨
    (ar (N i).k = 1 ∧ 0 < i ∧ kids N i = [(i : Int) - 1] ∧ fst N i = fst N (i - 1) ∧ 0 ≤ fst N (i - 1)) ∨
    (ar (N i).k = 2 ∧ ∃ f : Nat, 0 < f ∧ f + 1 ≤ i ∧ fst N (i - 1) = f ∧ kids N i = [(f : Int) - 1, (i : Int) - 1] ∧ fst N i = fst N (f - 1) ∧ 0 ≤ fst N (f - 1)) := by
  rw [fst_eq] at h
  have e := fst_eq N i
  rcases ar_cases (N i).k with ⟨ha, -⟩ | ⟨ha, -⟩ | ⟨ha, -⟩ | ⟨ha, -⟩
  · rw [ha] at h e; simp [back_zero] at e
    exact .inl ⟨ha, by simp [kids, ha], e⟩
  · rw [ha] at h e
    rw [if_neg (by omega)] at h e
    have hi : 0 < i := by
      rcases Nat.eq_zero_or_pos i with rfl | h0
      · rw [show ((1 : Int).toNat) = 0 + 1 from rfl, back_none] at h; omega
      · exact h0
    have e1 : fst N (i - 1) = back N i 1 := by unfold fst; rw [show i - 1 + 1 = i by omega]
    refine .inr (.inl ⟨ha, hi, by simp [kids, ha], ?_, ?_⟩)
    · rw [e, e1]; rfl
    · rw [e1]; exact h
  · rw [ha] at h e
    rw [if_neg (by omega)] at h e
    have hi : 0 < i := by
      rcases Nat.eq_zero_or_pos i with rfl | h0
      · rw [show ((2 : Int).toNat) = 1 + 1 from rfl, back_none] at h; omega
      · exact h0
    have hs : back N i (Int.toNat 2) = if fst N (i - 1) < 0 then -1 else back N (fst N (i - 1)).toNat 1 := by
      have := back_step N (i - 1) 1
      rwa [show i - 1 + 1 = i by omega] at this
    rw [hs] at h e
    have hb := fst_bd N (i - 1)
    by_cases h0 : fst N (i - 1) < 0
    · rw [if_pos h0] at h; omega
    · rw [if_neg h0] at h e
      obtain ⟨f, hf⟩ : ∃ f : Nat, fst N (i - 1) = f := ⟨(fst N (i - 1)).toNat, by omega⟩
      rw [hf] at h e
      simp only [Int.toNat_natCast] at h e
      have hf0 : 0 < f := by
        rcases Nat.eq_zero_or_pos f with rfl | h0
        · rw [back_none] at h; omega
        · exact h0
      have e1 : fst N (f - 1) = back N f 1 := by unfold fst; rw [show f - 1 + 1 = f by omega]
      exact .inr (.inr ⟨ha, f, hf0, by omega, hf, by simp [kids, ha, hf], by rw [e, e1], by rw [e1]; exact h⟩)
  · rw [ha] at h; simp at h

theorem mk0 : ∀ w, (Instr.makeSlice 26 (.int .i64 0) (.int .i64 0)).run Try.prog w = .ok (.slice (some ⟨w.heap.size, 0, none⟩) 0 0) (w.alloc (.cells #[] 3)) := fun _ => by kernel_rfl
theorem mk1 : ∀ w, (Instr.makeSlice 26 (.int .i64 1) (.int .i64 1)).run Try.prog w = .ok (.slice (some ⟨w.heap.size, 0, none⟩) 1 1) (w.alloc (.cells #[.int .i64 0] 3)) := fun _ => by kernel_rfl
theorem mk2 : ∀ w, (Instr.makeSlice 26 (.int .i64 2) (.int .i64 2)).run Try.prog w = .ok (.slice (some ⟨w.heap.size, 0, none⟩) 2 2) (w.alloc (.cells #[.int .i64 0, .int .i64 0] 3)) := fun _ => by kernel_rfl

end Go.Proofs.Ythmkjdpmpcjinaa
