/-
  The walk of the second laws' awake: the page's examples hold.
-/
import Derived.Test.YtpgikkmpnbcljaaDoorFoldw
namespace Go.Proofs.YtpgikkmpnbcljaaDoor
open Go.RowKit

theorem wordF_eq : wordF = fun b => clsD [97, 108, 110, 117, 109] 23 b || decide (b = 95) := by
  funext b; unfold wordF; rw [clsK_eq]; rfl
theorem awake_word : popTo wordF 0 256 = 63 := by
  rw [wordF_eq]; decide +kernel
theorem awake_fold0 : ∀ k, k < 256 → rfK (inl [97, 49]) 256 k = inl [65, 97, 49] k := by decide +kernel
theorem awake_fold : sv (foldF (inl [97, 49])) = sv (inl [65, 97, 49]) := sv_congr fun k hk => by rw [← rfK_all]; exact awake_fold0 k hk

set_option maxRecDepth 100000 in
set_option maxHeartbeats 2000000 in
theorem awaken_any (w : World) (hT : Tabbed w) :
    Calls Tryd.prog 6 #[] w fun e w' => e = .returned (.bool true) ∧ Below w.heap.size w w' := by
  have heq := eq_set
  go_enter Tryd.func6, Tryd.ntmps6
  go_wp2_with fail
  refine (esc_w _ hT).mono ?_
  rintro e w1 ⟨rfl, hb1⟩
  have HT := Lib.hid ((hT.to hb1).alloc (.cells #[.int .u64 (wd wordF 0 : Int), .int .u64 (wd wordF 1 : Int), .int .u64 (wd wordF 2 : Int), .int .u64 (wd wordF 3 : Int)] 25))
  have HW := Lib.hid (hb1.alloc hb1.size (.cells #[.int .u64 (wd wordF 0 : Int), .int .u64 (wd wordF 1 : Int), .int .u64 (wd wordF 2 : Int), .int .u64 (wd wordF 3 : Int)] 25))
  clear hb1 hT
  go_wp2_with fail
  refine (count_lit wordF _).mono ?_
  rw [awake_word]
  rintro e w2 ⟨rfl, hb2⟩
  have HW2 := Lib.hid ((HW.out.trans (hb2.mono HW.out.size)).alloc (Nat.le_trans HW.out.size hb2.size) (.cells #[.int .u8 97, .int .u8 49] 5))
  have HT2 := Lib.hid ((HT.out.to hb2).alloc (.cells #[.int .u8 97, .int .u8 49] 5))
  clear HW HT hb2
  go_wp2_with fail
  refine (of_any [97, 49] (by decide) (by unfold maxLen; simp) _ _ (.inr ⟨_, 0, 2, rfl, ?h1, ?h2⟩)).mono ?_
  case h1 => simp
  case h2 =>
    intro j hj
    match j, hj with
    | 0, _ => simp [go_sem]
    | 1, _ => simp [go_sem]
  rintro e w3 ⟨rfl, hb3⟩
  have HW3 := Lib.hid (HW2.out.trans (hb3.mono HW2.out.size))
  have HT3 := Lib.hid (HT2.out.to hb3)
  clear HW2 HT2 hb3
  go_wp2_with fail
  refine (fold_any _ _ HT3.out).mono ?_
  rw [awake_fold]
  rintro e w4 ⟨rfl, hb4⟩
  have HW4 := Lib.hid ((HW3.out.trans (hb4.mono HW3.out.size)).alloc (Nat.le_trans HW3.out.size hb4.size) (.cells #[.int .u8 65, .int .u8 97, .int .u8 49] 5))
  clear HW3 HT3 hb4
  go_wp2_with fail
  refine (of_any [65, 97, 49] (by decide) (by unfold maxLen; simp) _ _ (.inr ⟨_, 0, 3, rfl, ?h3, ?h4⟩)).mono ?_
  case h3 => simp
  case h4 =>
    intro j hj
    match j, hj with
    | 0, _ => simp [go_sem]
    | 1, _ => simp [go_sem]
    | 2, _ => simp [go_sem]
  rintro e w5 ⟨rfl, hb5⟩
  have HW5 := Lib.hid (HW4.out.trans (hb5.mono HW4.out.size))
  clear HW4 hb5
  go_wp2
  go_ret
  exact ⟨rfl, HW5.out⟩
end Go.Proofs.YtpgikkmpnbcljaaDoor
