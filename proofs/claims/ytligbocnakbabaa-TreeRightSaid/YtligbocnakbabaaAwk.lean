/-
  The walk of the laws' awake: the page's example holds.
-/
import Derived.Test.YtligbocnakbabaaDep
import Derived.Test.YtligbocnakbabaaPrt
namespace Go.Proofs.Ytligbocnakbabaa
open Go.RowKit

/-- The page's example: Set, Set, Cat. -/
def N0 (j : Nat) : Nd := if j < 2 then ⟨1, 0, 0, 0, 0, 0, 0⟩ else ⟨5, 0, 0, 0, 0, 0, 0⟩
theorem N0_tree : tree N0 3 := by decide
theorem N0_kids : kids N0 2 = [0, 1] := by decide
theorem N0_fst : 0 ≤ fst N0 2 := by decide
theorem N0_dpt : dpt N0 2 = 2 := by decide

theorem N0_rd (w : World) : rdN (w.alloc (.cells #[.int .i64 1, .int .u64 0, .int .u64 0, .int .u64 0, .int .u64 0, .int .i64 0, .int .i64 0, .int .i64 1, .int .u64 0, .int .u64 0, .int .u64 0, .int .u64 0, .int .i64 0, .int .i64 0, .int .i64 5, .int .u64 0, .int .u64 0, .int .u64 0, .int .u64 0, .int .i64 0, .int .i64 0] 38)) w.heap.size 0 3 N0 := by
  intro j hj
  refine ⟨by simp, ?_⟩
  match j, hj with
  | 0, _ => simp [ndAt, N0, go_sem]
  | 1, _ => simp [ndAt, N0, go_sem]
  | 2, _ => simp [ndAt, N0, go_sem]

set_option maxRecDepth 100000 in
set_option maxHeartbeats 2000000 in
theorem awake_any (w : World) :
    Calls Try.prog 6 #[] w fun e w' => e = .returned (.bool true) ∧ Below w.heap.size w w' := by
  have HW := Lib.hid ((Below.refl w.heap.size w).alloc (Nat.le_refl _) (.cells #[.int .i64 1, .int .u64 0, .int .u64 0, .int .u64 0, .int .u64 0, .int .i64 0, .int .i64 0, .int .i64 1, .int .u64 0, .int .u64 0, .int .u64 0, .int .u64 0, .int .i64 0, .int .i64 0, .int .i64 5, .int .u64 0, .int .u64 0, .int .u64 0, .int .u64 0, .int .i64 0, .int .i64 0] 38))
  have HR := Lib.hid (N0_rd w)
  go_enter Try.func6, Try.ntmps6
  go_wp2_with fail
  generalize w.alloc (.cells #[.int .i64 1, .int .u64 0, .int .u64 0, .int .u64 0, .int .u64 0, .int .i64 0, .int .i64 0, .int .i64 1, .int .u64 0, .int .u64 0, .int .u64 0, .int .u64 0, .int .i64 0, .int .i64 0, .int .i64 5, .int .u64 0, .int .u64 0, .int .u64 0, .int .u64 0, .int .i64 0, .int .i64 0] 38) = W at *
  refine (kids_is _ _ _ _ 2 N0 (by decide) (by decide) N0_fst _ HR.out).mono ?_
  rintro e w1 ⟨v, rfl, hv, hb⟩
  rw [N0_kids] at hv
  have HR1 := Lib.hid (HR.out.below hb)
  have HW1 := Lib.hid (HW.out.trans (hb.mono HW.out.size))
  have hs1 := HW1.out.size
  rcases hv with ⟨p, cp, rfl, hz⟩ | ⟨g, cp, rfl, hgl, hc⟩
  · cases hz
  have hg0 := hc 0 (by decide)
  have hg1 := hc 1 (by decide)
  clear hb hc HR HW
  have HG0 := Lib.hid hg0; have HG1 := Lib.hid hg1
  clear hg0 hg1
  go_wp2_with fail
  refine (right_some _ _ _ _ N0 (by decide) _ HR1.out).mono ?_
  rintro e w2 ⟨rfl, hb⟩
  rw [show decide (tree N0 3) = true from decide_eq_true N0_tree]
  have HR2 := Lib.hid (HR1.out.below hb)
  have HW2 := Lib.hid (HW1.out.trans (hb.mono hs1))
  have hs2 := HW2.out.size
  have HH0 : Hid (w2.cell? ⟨g, 0, none⟩ = some (.int .i64 0)) := Lib.hid (by rw [hb.cell (p := ⟨g, 0, none⟩) hgl]; exact HG0.out)
  have HH1 : Hid (w2.cell? ⟨g, 1, none⟩ = some (.int .i64 1)) := Lib.hid (by rw [hb.cell (p := ⟨g, 1, none⟩) hgl]; exact HG1.out)
  have hgl2 : g < w2.heap.size := Nat.lt_of_lt_of_le hgl hb.size
  clear hb HR1 HW1 HG0 HG1 hgl hs1
  go_wp2_with fail
  refine (depth_is _ _ _ _ N0 N0_tree _ HR2.out).mono ?_
  rintro e w3 ⟨rfl, hb⟩
  rw [show dpt N0 (3 - 1) = 2 from N0_dpt]
  have HW3 := Lib.hid (HW2.out.trans (hb.mono hs2))
  have c0 : w3.cell? ⟨g, 0, none⟩ = some (.int .i64 0) := by rw [hb.cell (p := ⟨g, 0, none⟩) hgl2]; exact HH0.out
  have c1 : w3.cell? ⟨g, 1, none⟩ = some (.int .i64 1) := by rw [hb.cell (p := ⟨g, 1, none⟩) hgl2]; exact HH1.out
  clear hb HR2 HW2 HH0 HH1 hgl2 hs2
  go_wp2_with fail
  refine (args_any _ _).mono ?_
  rintro e w4 ⟨rfl, rfl⟩
  rw [show ar 7 = 1 from by decide]
  go_wp2
  go_ret
  exact ⟨rfl, HW3.out⟩
end Go.Proofs.Ytligbocnakbabaa
