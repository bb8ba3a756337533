/-
  The walks of named's class and word.
-/
import Derived.Test.YtligbocnakbabaaDoorNclass
import Derived.Test.YtligbocnakbabaaDoorOf
namespace Go.Proofs.YtligbocnakbabaaDoor
open Go.RowKit

set_option maxRecDepth 100000 in
set_option maxHeartbeats 1000000 in
theorem cl_any (s : ByteArray) (w : World) (hT : Tabbed w) :
    Calls Tryd.prog 52 #[.string s] w fun e w' => e = .returned (sv (clsK s 23)) ∧ Below w.heap.size w w' := by
  have b0 := isSet.newNone w
  have hT1 := Lib.hid (hT.alloc (.cells #[.int .u64 0, .int .u64 0, .int .u64 0, .int .u64 0] 33))
  go_enter Tryd.func52, Tryd.ntmps52
  go_wp2_with fail
  refine (class_any s _ hT1.out).mono ?_
  rintro e w1 ⟨rfl, hb1⟩
  have hW : Below w.heap.size w w1 := ((Below.refl _ _).alloc (Nat.le_refl _) _).trans (hb1.mono (by simp))
  have c0 := b0.below hb1 (by simp)
  have hR1 := below_set4 (c := w.heap.size) hW (Nat.le_refl _) (.int .u64 (wd (clsK s 23) 0 : Int)) (.int .u64 (wd (clsK s 23) 1 : Int)) (.int .u64 (wd (clsK s 23) 2 : Int)) (.int .u64 (wd (clsK s 23) 3 : Int))
  have hR := hR1.alloc hR1.size (.cells #[.int .u64 (wd (clsK s 23) 0 : Int), .int .u64 (wd (clsK s 23) 1 : Int), .int .u64 (wd (clsK s 23) 2 : Int), .int .u64 (wd (clsK s 23) 3 : Int)] 33)
  have z := ((c0.stored (clsK s 23)).alloc (.cells #[.int .u64 (wd (clsK s 23) 0 : Int), .int .u64 (wd (clsK s 23) 1 : Int), .int .u64 (wd (clsK s 23) 2 : Int), .int .u64 (wd (clsK s 23) 3 : Int)] 33)).cells
  have HR := Lib.hid hR
  have l1 := hW.size
  have l2 : w.heap.size < w1.heap.size := c0.lt
  obtain ⟨r0, r1, r2, r3⟩ := c0.free
  obtain ⟨q0, q1, q2, q3⟩ := c0.cells
  have Z := Lib.hid z
  clear z hR hR1 c0 b0 hT1 hW hb1
  go_wp2
  refine bodyPost_ret (v := sv (clsK s 23)) (by simp [results, Tryd.results52, go_sem, Z.out]) rfl ⟨rfl, HR.out⟩

def alnumS : ByteArray := { data := #[97, 108, 110, 117, 109] }
/-- The bytes of a word. -/
def wordF (b : Nat) : Bool := clsK alnumS 23 b || decide (b = 95)
set_option maxRecDepth 100000 in
set_option maxHeartbeats 1000000 in
theorem word_any (w : World) (hT : Tabbed w) :
    Calls Tryd.prog 53 #[] w fun e w' => e = .returned (sv wordF) ∧ Below w.heap.size w w' := by
  have b0 := isSet.newNone w
  have hT1 := Lib.hid (hT.alloc (.cells #[.int .u64 0, .int .u64 0, .int .u64 0, .int .u64 0] 33))
  go_enter Tryd.func53, Tryd.ntmps53
  go_wp2_with fail
  refine (cl_any _ _ hT1.out).mono ?_
  rintro e w1 ⟨rfl, hb1⟩
  have hW : Below w.heap.size w w1 := ((Below.refl _ _).alloc (Nat.le_refl _) _).trans (hb1.mono (by simp))
  have c0 := b0.below hb1 (by simp)
  have l1 : w.heap.size < w1.heap.size := c0.lt
  clear hb1 hT1 b0
  go_wp2_with fail
  refine (of_one 95 (by decide) _ _ (by simp) (by simp [go_sem])).mono ?_
  rintro e w2 ⟨rfl, hb2⟩
  have hW2 := (hW.alloc hW.size (.cells #[.int .u8 95] 5)).trans (hb2.mono (by simp; omega))
  have d0 := (c0.alloc (.cells #[.int .u8 95] 5)).below hb2 (by simp; omega)
  have l2 : w.heap.size < w2.heap.size := d0.lt
  clear hb2 hW c0
  go_wp2_with fail
  refine (or_lit _ _ _).mono ?_
  rw [show (fun k => clsK { data := #[97, 108, 110, 117, 109] } 23 k || decide (k = 95)) = wordF from rfl]
  rintro e w3 ⟨rfl, hb3⟩
  have hW3 := hW2.trans (hb3.mono hW2.size)
  have e0 := d0.below hb3 (by omega)
  have l3 : w.heap.size < w3.heap.size := e0.lt
  obtain ⟨r0, r1, r2, r3⟩ := e0.free
  obtain ⟨q0, q1, q2, q3⟩ := e0.cells
  have HR := Lib.hid (below_set4 (c := w.heap.size) hW3 (Nat.le_refl _) (.int .u64 (wd wordF 0 : Int)) (.int .u64 (wd wordF 1 : Int)) (.int .u64 (wd wordF 2 : Int)) (.int .u64 (wd wordF 3 : Int)))
  have Z := Lib.hid (e0.stored wordF).cells
  clear e0 hW3 hW2 d0 hb3
  go_wp2
  refine bodyPost_ret (v := sv wordF) (by simp [results, Tryd.results53, go_sem, Z.out]) rfl ⟨rfl, HR.out⟩
end Go.Proofs.YtligbocnakbabaaDoor
