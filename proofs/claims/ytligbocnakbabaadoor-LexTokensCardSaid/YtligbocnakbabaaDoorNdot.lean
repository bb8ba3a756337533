/-
  The walk of named's Dot.
-/
import Derived.Test.YtligbocnakbabaaDoorOf
import Derived.Test.YtligbocnakbabaaDoorNot
import Derived.Test.YtligbocnakbabaaDoorBlk
namespace Go.Proofs.YtligbocnakbabaaDoor
open Go.RowKit

/-- All bytes but the line feed. -/
def dotF (k : Nat) : Bool := !decide (k = 10)
set_option maxRecDepth 100000 in
set_option maxHeartbeats 1000000 in
theorem dot_any (w : World) : Calls Tryd.prog 25 #[] w fun e w' => e = .returned (sv dotF) ∧ Below w.heap.size w w' := by
  have e0 := (isSet.newNone w).alloc (.cells #[.int .u8 10] 5)
  have hW : Below w.heap.size w ((w.alloc (.cells #[.int .u64 0, .int .u64 0, .int .u64 0, .int .u64 0] 33)).alloc (.cells #[.int .u8 10] 5)) := ((Below.refl _ _).alloc (Nat.le_refl _) _).alloc (by simp) _
  have HW := Lib.hid hW; have E0 := Lib.hid e0
  clear hW e0
  go_enter Tryd.func25, Tryd.ntmps25
  go_wp2_with fail
  refine (of_one 10 (by decide) _ _ (by simp) (by simp [go_sem])).mono ?_
  rintro e w1 ⟨rfl, hb⟩
  have hW := HW.out.trans (hb.mono HW.out.size)
  have e0 := E0.out.below hb E0.out.lt
  clear hb HW E0
  have HW := Lib.hid hW; have E0 := Lib.hid e0
  clear hW e0
  go_wp2_with fail
  refine (not_lit _ _).mono ?_
  rw [show (fun k => !decide (k = 10)) = dotF from rfl]
  rintro e w2 ⟨rfl, hb⟩
  have hW := HW.out.trans (hb.mono HW.out.size)
  have e0 := E0.out.below hb E0.out.lt
  clear hb HW E0
  have l9 : w.heap.size < w2.heap.size := e0.lt
  obtain ⟨r0, r1, r2, r3⟩ := e0.free
  obtain ⟨q0, q1, q2, q3⟩ := e0.cells
  have HR := Lib.hid (below_set4 (c := w.heap.size) hW (Nat.le_refl _) (.int .u64 (wd dotF 0 : Int)) (.int .u64 (wd dotF 1 : Int)) (.int .u64 (wd dotF 2 : Int)) (.int .u64 (wd dotF 3 : Int)))
  have Z := Lib.hid (e0.stored dotF).cells
  clear e0 hW
  go_wp2
  refine bodyPost_ret (v := sv dotF) (by simp [results, Tryd.results25, go_sem, Z.out]) rfl ⟨rfl, HR.out⟩
end Go.Proofs.YtligbocnakbabaaDoor
