/-
  The walk of the seventh laws' awake: the page's example holds.
-/
import Derived.Test.YtpjmogcphgaimaaPk48
import Derived.Deep.RegionHeldLaw
namespace Go.Proofs.Ytpjmogcphgaimaa
open Go.RowKit

def ex7 (k : Nat) : Bool := decide (k = 97)
def N7 (i : Nat) : Nd := if i = 0 then ⟨1, 0, 8589934592, 0, 0, 0, 0⟩ else ⟨7, 0, 0, 0, 0, 2, 3⟩
theorem wd_ex7 : wd ex7 0 = 0 ∧ wd ex7 1 = 8589934592 ∧ wd ex7 2 = 0 ∧ wd ex7 3 = 0 := by decide +kernel
theorem N7_tree : tree N7 2 := by decide
theorem N7_fx : (fxT (trT N7 1)).nv = false ∧ (fxT (trT N7 1)).ls = 2 ∧ (fxT (trT N7 1)).ms = 3 := by decide +kernel
theorem N7_fi : wd (fxT (trT N7 1)).fi 0 = 0 ∧ wd (fxT (trT N7 1)).fi 1 = 8589934592 ∧ wd (fxT (trT N7 1)).fi 2 = 0 ∧ wd (fxT (trT N7 1)).fi 3 = 0 := by decide +kernel
theorem N7_en : enT (trT N7 1) = false := by decide +kernel
theorem N7_sz : szF (trT N7 1) = 9 := by decide +kernel
theorem N7_ok : ∀ j, j < 2 → okW (N7 j) := by intro j hj; match j, hj with | 0, _ => (refine ⟨?_, ?_, ?_, ?_⟩ <;> decide) | 1, _ => (refine ⟨?_, ?_, ?_, ?_⟩ <;> decide)

theorem of_a (b : Nat) (w : World) (hb : b < w.heap.size) (h : w.cell? ⟨b, 0, none⟩ = some (.int .u8 97)) :
    Calls Try.prog 13 #[.slice (some ⟨b, 0, none⟩) 1 1] w fun e w' => e = .returned (.agg #[.int .u64 0, .int .u64 8589934592, .int .u64 0, .int .u64 0]) ∧ Below w.heap.size w w' := by
  refine (of_one 97 (by decide) b w hb h).mono ?_
  rw [show (fun k => decide (k = 97)) = ex7 from rfl]
  unfold sv
  rw [wd_ex7.1, wd_ex7.2.1, wd_ex7.2.2.1, wd_ex7.2.2.2]
  exact fun _ _ h => h
theorem of_N7 (b : Nat) (w : World) (hr : rdN w b 0 2 N7) :
    Calls Try.prog 9 #[.slice (some ⟨b, 0, none⟩) 2 2] w fun e w' => e = .returned (.tuple #[.agg #[.bool false, .int .i64 2, .int .i64 3, .int .u64 0, .int .u64 8589934592, .int .u64 0, .int .u64 0, .bool false], .int .i64 0]) ∧ Below w.heap.size w w' := by
  refine (cof_tree b 0 2 2 N7 N7_tree N7_ok w hr).mono ?_
  unfold ofPost7 fxv fxr
  rw [show (2 - 1 : Nat) = 1 from rfl, N7_fx.1, N7_fx.2.1, N7_fx.2.2, N7_fi.1, N7_fi.2.1, N7_fi.2.2.1, N7_fi.2.2.2, N7_en]
  exact fun _ _ h => h
theorem size_N7 (b : Nat) (w : World) (hr : rdN w b 0 2 N7) :
    Calls Try.prog 8 #[.slice (some ⟨b, 0, none⟩) 2 2] w fun e w' => e = .returned (.int .i64 9) ∧ Below w.heap.size w w' := by
  refine (csize_tree b 0 2 2 N7 N7_tree w hr).mono ?_
  unfold szPost
  rw [show (2 - 1 : Nat) = 1 from rfl, N7_sz]
  exact fun _ _ h => h
theorem can_N7 (w : World) :
    Calls Try.prog 11 #[.agg #[.bool false, .int .i64 2, .int .i64 3, .int .u64 0, .int .u64 8589934592, .int .u64 0, .int .u64 0, .bool false], .int .i64 3] w fun e w' => e = .returned (.bool true) ∧ Below w.heap.size w w' :=
  can_any false 2 3 0 8589934592 0 0 3 false w
theorem N7_rd (w : World) : rdN (w.alloc (.cells #[.int .i64 1, .int .u64 0, .int .u64 8589934592, .int .u64 0, .int .u64 0, .int .i64 0, .int .i64 0, .int .i64 7, .int .u64 0, .int .u64 0, .int .u64 0, .int .u64 0, .int .i64 2, .int .i64 3] 44)) w.heap.size 0 2 N7 := fun j hj => by
  refine ⟨by simp, ?_⟩
  match j, hj with
  | 0, _ => (refine ⟨?_, ?_, ?_, ?_, ?_, ?_, ?_⟩ <;> simp [N7])
  | 1, _ => (refine ⟨?_, ?_, ?_, ?_, ?_, ?_, ?_⟩ <;> simp [N7])
theorem eq_f7 (w : World) : (Op.equalIn 10000 31 (.agg #[.bool false, .int .i64 2, .int .i64 3, .int .u64 0, .int .u64 8589934592, .int .u64 0, .int .u64 0, .bool false]) (.agg #[.bool false, .int .i64 2, .int .i64 3, .int .u64 0, .int .u64 8589934592, .int .u64 0, .int .u64 0, .bool false])).run Try.prog w = .ok true w := by kernel_rfl
set_option maxRecDepth 100000 in
set_option maxHeartbeats 4000000 in
theorem awake7_any (w : World) : Calls Try.prog 5 #[] w fun e w' => e = .returned (.bool true) ∧ Below w.heap.size w w' := by
  have HW := Lib.hid ((Below.refl w.heap.size w).alloc (Nat.le_refl _) (.cells #[.int .u8 97] 5))
  go_enter Try.func5, Try.ntmps5
  go_wp2_with fail
  refine (of_a _ _ (by simp) (by simp)).mono ?_
  rintro e w1 ⟨rfl, hb⟩
  have HB1 := Lib.hid (HW.out.trans (hb.mono HW.out.size))
  clear hb HW
  go_wp2_with fail
  have HR := Lib.hid (N7_rd w1)
  have HB2 := Lib.hid (HB1.out.alloc HB1.out.size (.cells #[.int .i64 1, .int .u64 0, .int .u64 8589934592, .int .u64 0, .int .u64 0, .int .i64 0, .int .i64 0, .int .i64 7, .int .u64 0, .int .u64 0, .int .u64 0, .int .u64 0, .int .i64 2, .int .i64 3] 44))
  generalize w1.alloc (.cells #[.int .i64 1, .int .u64 0, .int .u64 8589934592, .int .u64 0, .int .u64 0, .int .i64 0, .int .i64 0, .int .i64 7, .int .u64 0, .int .u64 0, .int .u64 0, .int .u64 0, .int .i64 2, .int .i64 3] 44) = w2 at *
  clear HB1
  generalize w1.heap.size = g at *
  refine (of_N7 _ _ HR.out).mono ?_
  rintro e w3 ⟨rfl, hb⟩
  have HB3 := Lib.hid (HB2.out.trans (hb.mono HB2.out.size))
  have HR3 := Lib.hid (HR.out.below hb)
  clear hb HR HB2
  have E4 := isFx.new w3 false 2 3 0 8589934592 0 0 false
  have HB4 := Lib.hid (HB3.out.alloc HB3.out.size (.cells #[.bool false, .int .i64 2, .int .i64 3, .int .u64 0, .int .u64 8589934592, .int .u64 0, .int .u64 0, .bool false] 31))
  have HR4 := Lib.hid (HR3.out.below ((Below.refl w3.heap.size w3).alloc (Nat.le_refl _) (.cells #[.bool false, .int .i64 2, .int .i64 3, .int .u64 0, .int .u64 8589934592, .int .u64 0, .int .u64 0, .bool false] 31)))
  go_upto_region 3 with (fail)
  generalize w3.alloc (.cells #[.bool false, .int .i64 2, .int .i64 3, .int .u64 0, .int .u64 8589934592, .int .u64 0, .int .u64 0, .bool false] 31) = W at *
  generalize w3.heap.size = F at *
  have hB := Below.refl W.heap.size W
  have HK : Hid (∀ w', Below W.heap.size W w' → w'.cell? ⟨F, 0, none⟩ = some (.bool false) ∧ w'.cell? ⟨F, 1, none⟩ = some (.int .i64 2) ∧ w'.cell? ⟨F, 2, none⟩ = some (.int .i64 3) ∧ w'.cell? ⟨F, 3, none⟩ = some (.int .u64 0) ∧ w'.cell? ⟨F, 4, none⟩ = some (.int .u64 8589934592) ∧ w'.cell? ⟨F, 5, none⟩ = some (.int .u64 0) ∧ w'.cell? ⟨F, 6, none⟩ = some (.int .u64 0) ∧ w'.cell? ⟨F, 7, none⟩ = some (.bool false)) := Lib.hid fun w' hB => (E4.below hB E4.lt).cells
  have HX : Hid (∀ wk, Below (W.alloc (.cells #[.int .u8 97] 5)).drew.heap.size (W.alloc (.cells #[.int .u8 97] 5)).drew wk → Below W.heap.size W wk) := Lib.hid fun wk hb =>
    ((Below.refl W.heap.size W).alloc (Nat.le_refl _) _).drew.trans (hb.mono (by show W.heap.size ≤ (W.alloc _).heap.size; simp))
  clear E4
  have hq := eq_f7
  go_region_held_law (fun w' => w'.cell? ⟨F, 0, none⟩ = some (.bool false) ∧ w'.cell? ⟨F, 1, none⟩ = some (.int .i64 2) ∧ w'.cell? ⟨F, 2, none⟩ = some (.int .i64 3) ∧ w'.cell? ⟨F, 3, none⟩ = some (.int .u64 0) ∧ w'.cell? ⟨F, 4, none⟩ = some (.int .u64 8589934592) ∧ w'.cell? ⟨F, 5, none⟩ = some (.int .u64 0) ∧ w'.cell? ⟨F, 6, none⟩ = some (.int .u64 0) ∧ w'.cell? ⟨F, 7, none⟩ = some (.bool false))
    (first | with_reducible exact HK.out _ hB | with_reducible exact HK.out _ hB.drew | exact HK.out _ (hB.alloc (by exact hB.size) _).drew | exact HK.out _ (hB.drew.alloc (by exact hB.size) _))
    (first
      | (go_at_call 13; (with_reducible refine (of_a _ _ ?ta ?tb).mono ?_); (case ta => (simp; done)); (case tb => (simp; done)); rintro e wk ⟨rfl, hb⟩; (replace hB := HX.out _ hb); clear hb)
      | (go_at_call 8; (with_reducible refine (size_N7 _ _ ?tc).mono ?_); (case tc => first | exact HR4.out.below hB); rintro e wk ⟨rfl, hb⟩; (replace hB := hB.trans (hb.mono (by exact hB.size))); clear hb)
      | (go_at_call 11; (with_reducible refine (can_N7 _).mono ?_); rintro e wk ⟨rfl, hb⟩; (replace hB := hB.trans (hb.mono (by exact hB.size))); clear hb))
  all_goals
    have HF := Lib.hid (HB4.out.trans (hB.mono HB4.out.size))
    clear hB
    go_wp2_with fail
    go_returns
    exact ⟨rfl, HF.out⟩
end Go.Proofs.Ytpjmogcphgaimaa
