/-
  The walks of named's Escape, a theorem a branch.
  The table's classes are the reference's: named's Class and Escape, said as the second reference says them.
-/
import Derived.Test.YtiahgcgpakgeeaaDoorPk24
import Derived.Test.YtiahgcgpakgeeaaDoorPk25
import Derived.Test.YtiahgcgpakgeeaaDoorPk18
namespace Go.Proofs.YtiahgcgpakgeeaaDoor
open Go.RowKit

def digitS : ByteArray := { data := #[100, 105, 103, 105, 116] }
def spaceS : ByteArray := { data := #[115, 112, 97, 99, 101] }

set_option maxRecDepth 100000 in
set_option maxHeartbeats 2000000 in
theorem esc_n (w : World) (hT : Tabbed w) :
    Calls Tryd.prog 38 #[.int .u8 110] w fun e w' => e = .returned (.tuple #[sv (fun k => decide (k = 10)), .bool true]) ∧ Below w.heap.size w w' := by
  have e0 := isSet.newNone w
  have hT1 := hT.alloc (.cells #[.int .u64 0, .int .u64 0, .int .u64 0, .int .u64 0] 35)
  have hW : Below w.heap.size w (w.alloc (.cells #[.int .u64 0, .int .u64 0, .int .u64 0, .int .u64 0] 35)) := (Below.refl _ _).alloc (Nat.le_refl _) _
  have HT := Lib.hid hT1; have HW := Lib.hid hW; have E0 := Lib.hid e0
  clear hT1 hW e0 hT
  go_enter Tryd.func38, Tryd.ntmps38
  go_wp2_with fail
  have HT2 := Lib.hid (HT.out.alloc (.cells #[.int .u8 10] 5)); have HW2 := Lib.hid (HW.out.alloc HW.out.size (.cells #[.int .u8 10] 5)); have E2 := Lib.hid (E0.out.alloc (.cells #[.int .u8 10] 5))
  clear HT HW E0
  have HT := Lib.hid HT2.out; have HW := Lib.hid HW2.out; have E0 := Lib.hid E2.out
  clear HT2 HW2 E2
  refine (of_one 10 (by decide) _ _ (by simp) (by simp [go_sem])).mono ?_
  rintro e w1 ⟨rfl, hb⟩
  have hW := HW.out.trans (hb.mono HW.out.size)
  have e0 := E0.out.below hb E0.out.lt
  have hT1 := HT.out.to hb
  clear hb HW E0 HT
  have l9 : w.heap.size < w1.heap.size := e0.lt
  obtain ⟨r0, r1, r2, r3⟩ := e0.free
  obtain ⟨q0, q1, q2, q3⟩ := e0.cells
  have HR := Lib.hid (below_set4 (c := w.heap.size) hW (Nat.le_refl _) (.int .u64 (wd (fun k => decide (k = 10)) 0 : Int)) (.int .u64 (wd (fun k => decide (k = 10)) 1 : Int)) (.int .u64 (wd (fun k => decide (k = 10)) 2 : Int)) (.int .u64 (wd (fun k => decide (k = 10)) 3 : Int)))
  have Z := Lib.hid (e0.stored (fun k => decide (k = 10))).cells
  clear e0 hW
  go_wp2
  refine bodyPost_ret (v := .tuple #[sv (fun k => decide (k = 10)), .bool true]) (by simp [results, Tryd.results38, go_sem, Z.out]) rfl ⟨rfl, HR.out⟩

set_option maxRecDepth 100000 in
set_option maxHeartbeats 2000000 in
theorem esc_t (w : World) (hT : Tabbed w) :
    Calls Tryd.prog 38 #[.int .u8 116] w fun e w' => e = .returned (.tuple #[sv (fun k => decide (k = 9)), .bool true]) ∧ Below w.heap.size w w' := by
  have e0 := isSet.newNone w
  have hT1 := hT.alloc (.cells #[.int .u64 0, .int .u64 0, .int .u64 0, .int .u64 0] 35)
  have hW : Below w.heap.size w (w.alloc (.cells #[.int .u64 0, .int .u64 0, .int .u64 0, .int .u64 0] 35)) := (Below.refl _ _).alloc (Nat.le_refl _) _
  have HT := Lib.hid hT1; have HW := Lib.hid hW; have E0 := Lib.hid e0
  clear hT1 hW e0 hT
  go_enter Tryd.func38, Tryd.ntmps38
  go_wp2_with fail
  have HT2 := Lib.hid (HT.out.alloc (.cells #[.int .u8 9] 5)); have HW2 := Lib.hid (HW.out.alloc HW.out.size (.cells #[.int .u8 9] 5)); have E2 := Lib.hid (E0.out.alloc (.cells #[.int .u8 9] 5))
  clear HT HW E0
  have HT := Lib.hid HT2.out; have HW := Lib.hid HW2.out; have E0 := Lib.hid E2.out
  clear HT2 HW2 E2
  refine (of_one 9 (by decide) _ _ (by simp) (by simp [go_sem])).mono ?_
  rintro e w1 ⟨rfl, hb⟩
  have hW := HW.out.trans (hb.mono HW.out.size)
  have e0 := E0.out.below hb E0.out.lt
  have hT1 := HT.out.to hb
  clear hb HW E0 HT
  have l9 : w.heap.size < w1.heap.size := e0.lt
  obtain ⟨r0, r1, r2, r3⟩ := e0.free
  obtain ⟨q0, q1, q2, q3⟩ := e0.cells
  have HR := Lib.hid (below_set4 (c := w.heap.size) hW (Nat.le_refl _) (.int .u64 (wd (fun k => decide (k = 9)) 0 : Int)) (.int .u64 (wd (fun k => decide (k = 9)) 1 : Int)) (.int .u64 (wd (fun k => decide (k = 9)) 2 : Int)) (.int .u64 (wd (fun k => decide (k = 9)) 3 : Int)))
  have Z := Lib.hid (e0.stored (fun k => decide (k = 9))).cells
  clear e0 hW
  go_wp2
  refine bodyPost_ret (v := .tuple #[sv (fun k => decide (k = 9)), .bool true]) (by simp [results, Tryd.results38, go_sem, Z.out]) rfl ⟨rfl, HR.out⟩

set_option maxRecDepth 100000 in
set_option maxHeartbeats 2000000 in
theorem esc_r (w : World) (hT : Tabbed w) :
    Calls Tryd.prog 38 #[.int .u8 114] w fun e w' => e = .returned (.tuple #[sv (fun k => decide (k = 13)), .bool true]) ∧ Below w.heap.size w w' := by
  have e0 := isSet.newNone w
  have hT1 := hT.alloc (.cells #[.int .u64 0, .int .u64 0, .int .u64 0, .int .u64 0] 35)
  have hW : Below w.heap.size w (w.alloc (.cells #[.int .u64 0, .int .u64 0, .int .u64 0, .int .u64 0] 35)) := (Below.refl _ _).alloc (Nat.le_refl _) _
  have HT := Lib.hid hT1; have HW := Lib.hid hW; have E0 := Lib.hid e0
  clear hT1 hW e0 hT
  go_enter Tryd.func38, Tryd.ntmps38
  go_wp2_with fail
  have HT2 := Lib.hid (HT.out.alloc (.cells #[.int .u8 13] 5)); have HW2 := Lib.hid (HW.out.alloc HW.out.size (.cells #[.int .u8 13] 5)); have E2 := Lib.hid (E0.out.alloc (.cells #[.int .u8 13] 5))
  clear HT HW E0
  have HT := Lib.hid HT2.out; have HW := Lib.hid HW2.out; have E0 := Lib.hid E2.out
  clear HT2 HW2 E2
  refine (of_one 13 (by decide) _ _ (by simp) (by simp [go_sem])).mono ?_
  rintro e w1 ⟨rfl, hb⟩
  have hW := HW.out.trans (hb.mono HW.out.size)
  have e0 := E0.out.below hb E0.out.lt
  have hT1 := HT.out.to hb
  clear hb HW E0 HT
  have l9 : w.heap.size < w1.heap.size := e0.lt
  obtain ⟨r0, r1, r2, r3⟩ := e0.free
  obtain ⟨q0, q1, q2, q3⟩ := e0.cells
  have HR := Lib.hid (below_set4 (c := w.heap.size) hW (Nat.le_refl _) (.int .u64 (wd (fun k => decide (k = 13)) 0 : Int)) (.int .u64 (wd (fun k => decide (k = 13)) 1 : Int)) (.int .u64 (wd (fun k => decide (k = 13)) 2 : Int)) (.int .u64 (wd (fun k => decide (k = 13)) 3 : Int)))
  have Z := Lib.hid (e0.stored (fun k => decide (k = 13))).cells
  clear e0 hW
  go_wp2
  refine bodyPost_ret (v := .tuple #[sv (fun k => decide (k = 13)), .bool true]) (by simp [results, Tryd.results38, go_sem, Z.out]) rfl ⟨rfl, HR.out⟩

set_option maxRecDepth 100000 in
set_option maxHeartbeats 2000000 in
theorem esc_d (w : World) (hT : Tabbed w) :
    Calls Tryd.prog 38 #[.int .u8 100] w fun e w' => e = .returned (.tuple #[sv (clsK digitS 23), .bool true]) ∧ Below w.heap.size w w' := by
  have e0 := isSet.newNone w
  have hT1 := hT.alloc (.cells #[.int .u64 0, .int .u64 0, .int .u64 0, .int .u64 0] 35)
  have hW : Below w.heap.size w (w.alloc (.cells #[.int .u64 0, .int .u64 0, .int .u64 0, .int .u64 0] 35)) := (Below.refl _ _).alloc (Nat.le_refl _) _
  have HT := Lib.hid hT1; have HW := Lib.hid hW; have E0 := Lib.hid e0
  clear hT1 hW e0 hT
  go_enter Tryd.func38, Tryd.ntmps38
  go_wp2_with fail
  refine (cl_any digitS _ HT.out).mono ?_
  rintro e w1 ⟨rfl, hb⟩
  have hW := HW.out.trans (hb.mono HW.out.size)
  have e0 := E0.out.below hb E0.out.lt
  have hT1 := HT.out.to hb
  clear hb HW E0 HT
  have l9 : w.heap.size < w1.heap.size := e0.lt
  obtain ⟨r0, r1, r2, r3⟩ := e0.free
  obtain ⟨q0, q1, q2, q3⟩ := e0.cells
  have HR := Lib.hid (below_set4 (c := w.heap.size) hW (Nat.le_refl _) (.int .u64 (wd (clsK digitS 23) 0 : Int)) (.int .u64 (wd (clsK digitS 23) 1 : Int)) (.int .u64 (wd (clsK digitS 23) 2 : Int)) (.int .u64 (wd (clsK digitS 23) 3 : Int)))
  have Z := Lib.hid (e0.stored (clsK digitS 23)).cells
  clear e0 hW
  go_wp2
  refine bodyPost_ret (v := .tuple #[sv (clsK digitS 23), .bool true]) (by simp [results, Tryd.results38, go_sem, Z.out]) rfl ⟨rfl, HR.out⟩

set_option maxRecDepth 100000 in
set_option maxHeartbeats 2000000 in
theorem esc_s (w : World) (hT : Tabbed w) :
    Calls Tryd.prog 38 #[.int .u8 115] w fun e w' => e = .returned (.tuple #[sv (clsK spaceS 23), .bool true]) ∧ Below w.heap.size w w' := by
  have e0 := isSet.newNone w
  have hT1 := hT.alloc (.cells #[.int .u64 0, .int .u64 0, .int .u64 0, .int .u64 0] 35)
  have hW : Below w.heap.size w (w.alloc (.cells #[.int .u64 0, .int .u64 0, .int .u64 0, .int .u64 0] 35)) := (Below.refl _ _).alloc (Nat.le_refl _) _
  have HT := Lib.hid hT1; have HW := Lib.hid hW; have E0 := Lib.hid e0
  clear hT1 hW e0 hT
  go_enter Tryd.func38, Tryd.ntmps38
  go_wp2_with fail
  refine (cl_any spaceS _ HT.out).mono ?_
  rintro e w1 ⟨rfl, hb⟩
  have hW := HW.out.trans (hb.mono HW.out.size)
  have e0 := E0.out.below hb E0.out.lt
  have hT1 := HT.out.to hb
  clear hb HW E0 HT
  have l9 : w.heap.size < w1.heap.size := e0.lt
  obtain ⟨r0, r1, r2, r3⟩ := e0.free
  obtain ⟨q0, q1, q2, q3⟩ := e0.cells
  have HR := Lib.hid (below_set4 (c := w.heap.size) hW (Nat.le_refl _) (.int .u64 (wd (clsK spaceS 23) 0 : Int)) (.int .u64 (wd (clsK spaceS 23) 1 : Int)) (.int .u64 (wd (clsK spaceS 23) 2 : Int)) (.int .u64 (wd (clsK spaceS 23) 3 : Int)))
  have Z := Lib.hid (e0.stored (clsK spaceS 23)).cells
  clear e0 hW
  go_wp2
  refine bodyPost_ret (v := .tuple #[sv (clsK spaceS 23), .bool true]) (by simp [results, Tryd.results38, go_sem, Z.out]) rfl ⟨rfl, HR.out⟩

set_option maxRecDepth 100000 in
set_option maxHeartbeats 2000000 in
theorem esc_w (w : World) (hT : Tabbed w) :
    Calls Tryd.prog 38 #[.int .u8 119] w fun e w' => e = .returned (.tuple #[sv (wordF), .bool true]) ∧ Below w.heap.size w w' := by
  have e0 := isSet.newNone w
  have hT1 := hT.alloc (.cells #[.int .u64 0, .int .u64 0, .int .u64 0, .int .u64 0] 35)
  have hW : Below w.heap.size w (w.alloc (.cells #[.int .u64 0, .int .u64 0, .int .u64 0, .int .u64 0] 35)) := (Below.refl _ _).alloc (Nat.le_refl _) _
  have HT := Lib.hid hT1; have HW := Lib.hid hW; have E0 := Lib.hid e0
  clear hT1 hW e0 hT
  go_enter Tryd.func38, Tryd.ntmps38
  go_wp2_with fail
  refine (word_any _ HT.out).mono ?_
  rintro e w1 ⟨rfl, hb⟩
  have hW := HW.out.trans (hb.mono HW.out.size)
  have e0 := E0.out.below hb E0.out.lt
  have hT1 := HT.out.to hb
  clear hb HW E0 HT
  have l9 : w.heap.size < w1.heap.size := e0.lt
  obtain ⟨r0, r1, r2, r3⟩ := e0.free
  obtain ⟨q0, q1, q2, q3⟩ := e0.cells
  have HR := Lib.hid (below_set4 (c := w.heap.size) hW (Nat.le_refl _) (.int .u64 (wd (wordF) 0 : Int)) (.int .u64 (wd (wordF) 1 : Int)) (.int .u64 (wd (wordF) 2 : Int)) (.int .u64 (wd (wordF) 3 : Int)))
  have Z := Lib.hid (e0.stored (wordF)).cells
  clear e0 hW
  go_wp2
  refine bodyPost_ret (v := .tuple #[sv (wordF), .bool true]) (by simp [results, Tryd.results38, go_sem, Z.out]) rfl ⟨rfl, HR.out⟩

set_option maxRecDepth 100000 in
set_option maxHeartbeats 2000000 in
theorem esc_nd (w : World) (hT : Tabbed w) :
    Calls Tryd.prog 38 #[.int .u8 68] w fun e w' => e = .returned (.tuple #[sv (fun k => !clsK digitS 23 k), .bool true]) ∧ Below w.heap.size w w' := by
  have e0 := isSet.newNone w
  have hT1 := hT.alloc (.cells #[.int .u64 0, .int .u64 0, .int .u64 0, .int .u64 0] 35)
  have hW : Below w.heap.size w (w.alloc (.cells #[.int .u64 0, .int .u64 0, .int .u64 0, .int .u64 0] 35)) := (Below.refl _ _).alloc (Nat.le_refl _) _
  have HT := Lib.hid hT1; have HW := Lib.hid hW; have E0 := Lib.hid e0
  clear hT1 hW e0 hT
  go_enter Tryd.func38, Tryd.ntmps38
  go_wp2_with fail
  refine (cl_any digitS _ HT.out).mono ?_
  rintro e w1 ⟨rfl, hb⟩
  have hW := HW.out.trans (hb.mono HW.out.size)
  have e0 := E0.out.below hb E0.out.lt
  have hT1 := HT.out.to hb
  clear hb HW E0 HT
  have HT := Lib.hid hT1; have HW := Lib.hid hW; have E0 := Lib.hid e0
  have l9 : w.heap.size < w1.heap.size := e0.lt
  clear hT1 hW e0
  go_wp2_with fail
  refine (not_lit _ _).mono ?_
  rintro e w2 ⟨rfl, hb⟩
  have hW := HW.out.trans (hb.mono HW.out.size)
  have e0 := E0.out.below hb E0.out.lt
  have hT1 := HT.out.to hb
  clear hb HW E0 HT
  have l9 : w.heap.size < w2.heap.size := e0.lt
  obtain ⟨r0, r1, r2, r3⟩ := e0.free
  obtain ⟨q0, q1, q2, q3⟩ := e0.cells
  have HR := Lib.hid (below_set4 (c := w.heap.size) hW (Nat.le_refl _) (.int .u64 (wd (fun k => !clsK digitS 23 k) 0 : Int)) (.int .u64 (wd (fun k => !clsK digitS 23 k) 1 : Int)) (.int .u64 (wd (fun k => !clsK digitS 23 k) 2 : Int)) (.int .u64 (wd (fun k => !clsK digitS 23 k) 3 : Int)))
  have Z := Lib.hid (e0.stored (fun k => !clsK digitS 23 k)).cells
  clear e0 hW
  go_wp2
  refine bodyPost_ret (v := .tuple #[sv (fun k => !clsK digitS 23 k), .bool true]) (by simp [results, Tryd.results38, go_sem, Z.out]) rfl ⟨rfl, HR.out⟩

set_option maxRecDepth 100000 in
set_option maxHeartbeats 2000000 in
theorem esc_ns (w : World) (hT : Tabbed w) :
    Calls Tryd.prog 38 #[.int .u8 83] w fun e w' => e = .returned (.tuple #[sv (fun k => !clsK spaceS 23 k), .bool true]) ∧ Below w.heap.size w w' := by
  have e0 := isSet.newNone w
  have hT1 := hT.alloc (.cells #[.int .u64 0, .int .u64 0, .int .u64 0, .int .u64 0] 35)
  have hW : Below w.heap.size w (w.alloc (.cells #[.int .u64 0, .int .u64 0, .int .u64 0, .int .u64 0] 35)) := (Below.refl _ _).alloc (Nat.le_refl _) _
  have HT := Lib.hid hT1; have HW := Lib.hid hW; have E0 := Lib.hid e0
  clear hT1 hW e0 hT
  go_enter Tryd.func38, Tryd.ntmps38
  go_wp2_with fail
  refine (cl_any spaceS _ HT.out).mono ?_
  rintro e w1 ⟨rfl, hb⟩
  have hW := HW.out.trans (hb.mono HW.out.size)
  have e0 := E0.out.below hb E0.out.lt
  have hT1 := HT.out.to hb
  clear hb HW E0 HT
  have HT := Lib.hid hT1; have HW := Lib.hid hW; have E0 := Lib.hid e0
  have l9 : w.heap.size < w1.heap.size := e0.lt
  clear hT1 hW e0
  go_wp2_with fail
  refine (not_lit _ _).mono ?_
  rintro e w2 ⟨rfl, hb⟩
  have hW := HW.out.trans (hb.mono HW.out.size)
  have e0 := E0.out.below hb E0.out.lt
  have hT1 := HT.out.to hb
  clear hb HW E0 HT
  have l9 : w.heap.size < w2.heap.size := e0.lt
  obtain ⟨r0, r1, r2, r3⟩ := e0.free
  obtain ⟨q0, q1, q2, q3⟩ := e0.cells
  have HR := Lib.hid (below_set4 (c := w.heap.size) hW (Nat.le_refl _) (.int .u64 (wd (fun k => !clsK spaceS 23 k) 0 : Int)) (.int .u64 (wd (fun k => !clsK spaceS 23 k) 1 : Int)) (.int .u64 (wd (fun k => !clsK spaceS 23 k) 2 : Int)) (.int .u64 (wd (fun k => !clsK spaceS 23 k) 3 : Int)))
  have Z := Lib.hid (e0.stored (fun k => !clsK spaceS 23 k)).cells
  clear e0 hW
  go_wp2
  refine bodyPost_ret (v := .tuple #[sv (fun k => !clsK spaceS 23 k), .bool true]) (by simp [results, Tryd.results38, go_sem, Z.out]) rfl ⟨rfl, HR.out⟩

set_option maxRecDepth 100000 in
set_option maxHeartbeats 2000000 in
theorem esc_nw (w : World) (hT : Tabbed w) :
    Calls Tryd.prog 38 #[.int .u8 87] w fun e w' => e = .returned (.tuple #[sv (fun k => !wordF k), .bool true]) ∧ Below w.heap.size w w' := by
  have e0 := isSet.newNone w
  have hT1 := hT.alloc (.cells #[.int .u64 0, .int .u64 0, .int .u64 0, .int .u64 0] 35)
  have hW : Below w.heap.size w (w.alloc (.cells #[.int .u64 0, .int .u64 0, .int .u64 0, .int .u64 0] 35)) := (Below.refl _ _).alloc (Nat.le_refl _) _
  have HT := Lib.hid hT1; have HW := Lib.hid hW; have E0 := Lib.hid e0
  clear hT1 hW e0 hT
  go_enter Tryd.func38, Tryd.ntmps38
  go_wp2_with fail
  refine (word_any _ HT.out).mono ?_
  rintro e w1 ⟨rfl, hb⟩
  have hW := HW.out.trans (hb.mono HW.out.size)
  have e0 := E0.out.below hb E0.out.lt
  have hT1 := HT.out.to hb
  clear hb HW E0 HT
  have HT := Lib.hid hT1; have HW := Lib.hid hW; have E0 := Lib.hid e0
  have l9 : w.heap.size < w1.heap.size := e0.lt
  clear hT1 hW e0
  go_wp2_with fail
  refine (not_lit _ _).mono ?_
  rintro e w2 ⟨rfl, hb⟩
  have hW := HW.out.trans (hb.mono HW.out.size)
  have e0 := E0.out.below hb E0.out.lt
  have hT1 := HT.out.to hb
  clear hb HW E0 HT
  have l9 : w.heap.size < w2.heap.size := e0.lt
  obtain ⟨r0, r1, r2, r3⟩ := e0.free
  obtain ⟨q0, q1, q2, q3⟩ := e0.cells
  have HR := Lib.hid (below_set4 (c := w.heap.size) hW (Nat.le_refl _) (.int .u64 (wd (fun k => !wordF k) 0 : Int)) (.int .u64 (wd (fun k => !wordF k) 1 : Int)) (.int .u64 (wd (fun k => !wordF k) 2 : Int)) (.int .u64 (wd (fun k => !wordF k) 3 : Int)))
  have Z := Lib.hid (e0.stored (fun k => !wordF k)).cells
  clear e0 hW
  go_wp2
  refine bodyPost_ret (v := .tuple #[sv (fun k => !wordF k), .bool true]) (by simp [results, Tryd.results38, go_sem, Z.out]) rfl ⟨rfl, HR.out⟩

set_option maxRecDepth 100000 in
set_option maxHeartbeats 2000000 in
theorem esc_none (c : Nat) (hc : c < 256) (h110 : ((c : Int) == 110) = false) (h116 : ((c : Int) == 116) = false) (h114 : ((c : Int) == 114) = false) (h100 : ((c : Int) == 100) = false) (h115 : ((c : Int) == 115) = false) (h119 : ((c : Int) == 119) = false) (h68 : ((c : Int) == 68) = false) (h83 : ((c : Int) == 83) = false) (h87 : ((c : Int) == 87) = false) (ha : clsK alnumS 23 c = true) (w : World) (hT : Tabbed w) :
    Calls Tryd.prog 38 #[.int .u8 (c : Int)] w fun e w' => e = .returned (.tuple #[sv (fun _ => false), .bool false]) ∧ Below w.heap.size w w' := by
  have e0 := isSet.newNone w
  have hT1 := hT.alloc (.cells #[.int .u64 0, .int .u64 0, .int .u64 0, .int .u64 0] 35)
  have hW : Below w.heap.size w (w.alloc (.cells #[.int .u64 0, .int .u64 0, .int .u64 0, .int .u64 0] 35)) := (Below.refl _ _).alloc (Nat.le_refl _) _
  have HT := Lib.hid hT1; have HW := Lib.hid hW; have E0 := Lib.hid e0
  clear hT1 hW e0 hT
  have HA := Lib.hid ha
  clear ha
  go_enter Tryd.func38, Tryd.ntmps38
  go_wp2_with fail
  refine (cl_any alnumS _ HT.out).mono ?_
  rintro e w1 ⟨rfl, hb⟩
  have hW := HW.out.trans (hb.mono HW.out.size)
  have e0 := E0.out.below hb E0.out.lt
  have hT1 := HT.out.to hb
  clear hb HW E0 HT
  have HT := Lib.hid hT1; have HW := Lib.hid hW; have E0 := Lib.hid e0
  have l9 : w.heap.size < w1.heap.size := e0.lt
  clear hT1 hW e0
  go_wp2_with fail
  refine (has_lit _ c hc _).mono ?_
  rw [HA.out]
  rintro e w2 ⟨rfl, hb⟩
  have hW := HW.out.trans (hb.mono HW.out.size)
  have e0 := E0.out.below hb E0.out.lt
  have hT1 := HT.out.to hb
  clear hb HW E0 HT
  have l9 : w.heap.size < w2.heap.size := e0.lt
  have HV : Hid (sv (fun _ => false) = .agg #[.int .u64 0, .int .u64 0, .int .u64 0, .int .u64 0]) := by unfold sv; simp only [none_wd]; exact rfl
  obtain ⟨r0, r1, r2, r3⟩ := e0.free
  have q := e0.cells
  simp only [none_wd] at q
  obtain ⟨q0, q1, q2, q3⟩ := q
  have HR := Lib.hid (below_set4 (c := w.heap.size) hW (Nat.le_refl _) (.int .u64 0) (.int .u64 0) (.int .u64 0) (.int .u64 0))
  clear e0 hW
  go_wp2
  refine bodyPost_ret (v := .tuple #[.agg #[.int .u64 0, .int .u64 0, .int .u64 0, .int .u64 0], .bool false]) (by simp [results, Tryd.results38, go_sem, q0, q1, q2, q3]) rfl ⟨by rw [HV.out], HR.out⟩

set_option maxRecDepth 100000 in
set_option maxHeartbeats 2000000 in
theorem esc_self (c : Nat) (hc : c < 256) (h110 : ((c : Int) == 110) = false) (h116 : ((c : Int) == 116) = false) (h114 : ((c : Int) == 114) = false) (h100 : ((c : Int) == 100) = false) (h115 : ((c : Int) == 115) = false) (h119 : ((c : Int) == 119) = false) (h68 : ((c : Int) == 68) = false) (h83 : ((c : Int) == 83) = false) (h87 : ((c : Int) == 87) = false) (ha : clsK alnumS 23 c = false) (w : World) (hT : Tabbed w) :
    Calls Tryd.prog 38 #[.int .u8 (c : Int)] w fun e w' => e = .returned (.tuple #[sv (fun k => decide (k = c)), .bool true]) ∧ Below w.heap.size w w' := by
  have e0 := isSet.newNone w
  have hT1 := hT.alloc (.cells #[.int .u64 0, .int .u64 0, .int .u64 0, .int .u64 0] 35)
  have hW : Below w.heap.size w (w.alloc (.cells #[.int .u64 0, .int .u64 0, .int .u64 0, .int .u64 0] 35)) := (Below.refl _ _).alloc (Nat.le_refl _) _
  have HT := Lib.hid hT1; have HW := Lib.hid hW; have E0 := Lib.hid e0
  clear hT1 hW e0 hT
  have HA := Lib.hid ha
  clear ha
  go_enter Tryd.func38, Tryd.ntmps38
  go_wp2_with fail
  refine (cl_any alnumS _ HT.out).mono ?_
  rintro e w1 ⟨rfl, hb⟩
  have hW := HW.out.trans (hb.mono HW.out.size)
  have e0 := E0.out.below hb E0.out.lt
  have hT1 := HT.out.to hb
  clear hb HW E0 HT
  have HT := Lib.hid hT1; have HW := Lib.hid hW; have E0 := Lib.hid e0
  have l9 : w.heap.size < w1.heap.size := e0.lt
  clear hT1 hW e0
  go_wp2_with fail
  refine (has_lit _ c hc _).mono ?_
  rw [HA.out]
  rintro e w2 ⟨rfl, hb⟩
  have hW := HW.out.trans (hb.mono HW.out.size)
  have e0 := E0.out.below hb E0.out.lt
  have hT1 := HT.out.to hb
  clear hb HW E0 HT
  have HT := Lib.hid hT1; have HW := Lib.hid hW; have E0 := Lib.hid e0
  have l9 : w.heap.size < w2.heap.size := e0.lt
  clear hT1 hW e0
  go_wp2_with fail
  have HT2 := Lib.hid (HT.out.alloc (.cells #[.int .u8 (c : Int)] 5)); have HW2 := Lib.hid (HW.out.alloc HW.out.size (.cells #[.int .u8 (c : Int)] 5)); have E2 := Lib.hid (E0.out.alloc (.cells #[.int .u8 (c : Int)] 5))
  clear HT HW E0
  have HT := Lib.hid HT2.out; have HW := Lib.hid HW2.out; have E0 := Lib.hid E2.out
  clear HT2 HW2 E2
  refine (of_one c hc _ _ (by simp) (by simp [go_sem])).mono ?_
  rintro e w3 ⟨rfl, hb⟩
  have hW := HW.out.trans (hb.mono HW.out.size)
  have e0 := E0.out.below hb E0.out.lt
  have hT1 := HT.out.to hb
  clear hb HW E0 HT
  have l9 : w.heap.size < w3.heap.size := e0.lt
  obtain ⟨r0, r1, r2, r3⟩ := e0.free
  obtain ⟨q0, q1, q2, q3⟩ := e0.cells
  have HR := Lib.hid (below_set4 (c := w.heap.size) hW (Nat.le_refl _) (.int .u64 (wd (fun k => decide (k = c)) 0 : Int)) (.int .u64 (wd (fun k => decide (k = c)) 1 : Int)) (.int .u64 (wd (fun k => decide (k = c)) 2 : Int)) (.int .u64 (wd (fun k => decide (k = c)) 3 : Int)))
  have Z := Lib.hid (e0.stored (fun k => decide (k = c))).cells
  clear e0 hW
  go_wp2
  refine bodyPost_ret (v := .tuple #[sv (fun k => decide (k = c)), .bool true]) (by simp [results, Tryd.results38, go_sem, Z.out]) rfl ⟨rfl, HR.out⟩
end Go.Proofs.YtiahgcgpakgeeaaDoor

namespace Go.Proofs.YtiahgcgpakgeeaaDoor
open Go.RowKit

/-- The names, rising. -/
def nmL : List (List UInt8) :=
  [[97, 108, 110, 117, 109], [97, 108, 112, 104, 97], [98, 108, 97, 110, 107], [99, 110, 116, 114, 108], [100, 105, 103, 105, 116], [103, 114, 97, 112, 104],
   [108, 111, 119, 101, 114], [112, 114, 105, 110, 116], [112, 117, 110, 99, 116], [115, 112, 97, 99, 101], [117, 112, 112, 101, 114], [120, 100, 105, 103, 105, 116]]
/-- The classes over a list of bytes: these reckon. -/
def clsD (s : List UInt8) : Nat → Nat → Bool
  | 0, _ => false
  | k + 1, b => clsD s k b || ((rowOf k).1 == s && (decide (tlo k ≤ b) && decide (b ≤ thi k)))
def fndD (s : List UInt8) : Nat → Bool
  | 0 => false
  | k + 1 => fndD s k || (rowOf k).1 == s
theorem clsK_eq (s : ByteArray) (k b : Nat) : clsK s k b = clsD s.data.toList k b := by
  induction k with
  | zero => rfl
  | succ k ih => unfold clsK clsD; rw [ih, toList_data, toList_data]; rfl
theorem fndK_eq (s : ByteArray) (k : Nat) : fndK s k = fndD s.data.toList k := by
  induction k with
  | zero => rfl
  | succ k ih => unfold fndK fndD; rw [ih, toList_data, toList_data]; rfl

theorem row_named : ∀ k, k < 23 → (rowOf k).1 ∈ nmL := by decide +kernel
theorem clsD_none (l : List UInt8) (h : l ∉ nmL) (b k : Nat) (hk : k ≤ 23) : clsD l k b = false := by
  induction k with
  | zero => rfl
  | succ k ih =>
    have h1 : ((rowOf k).1 == l) = false := by
      rw [Bool.eq_false_iff]
      intro he
      exact h (by rw [← beq_iff_eq.1 he]; exact row_named k (by omega))
    unfold clsD
    rw [ih (by omega), h1]; rfl
theorem fndD_none (l : List UInt8) (h : l ∉ nmL) (k : Nat) (hk : k ≤ 23) : fndD l k = false := by
  induction k with
  | zero => rfl
  | succ k ih =>
    have h1 : ((rowOf k).1 == l) = false := by
      rw [Bool.eq_false_iff]
      intro he
      exact h (by rw [← beq_iff_eq.1 he]; exact row_named k (by omega))
    unfold fndD
    rw [ih (by omega), h1]; rfl
theorem not_each (l : List UInt8) (h : l ∉ nmL) : ∀ x ∈ nmL, (l == x) = false := fun x hx => by
  rw [Bool.eq_false_iff]
  intro he
  exact h (by rw [beq_iff_eq.1 he]; exact hx)
theorem isB_none (l : List UInt8) (h : l ∉ nmL) (b : Nat) : isB l b = false := by
  have e := not_each l h
  unfold isB
  rw [e _ (by decide), e _ (by decide), e _ (by decide), e _ (by decide), e _ (by decide), e _ (by decide), e _ (by decide), e _ (by decide), e _ (by decide), e _ (by decide), e _ (by decide), e _ (by decide)]
  rfl
theorem isN_none (l : List UInt8) (h : l ∉ nmL) : isN l = false := by
  have e := not_each l h
  unfold isN
  rw [e _ (by decide), e _ (by decide), e _ (by decide), e _ (by decide), e _ (by decide), e _ (by decide), e _ (by decide), e _ (by decide), e _ (by decide), e _ (by decide), e _ (by decide), e _ (by decide)]
  rfl
theorem cls_some : ∀ l ∈ nmL, ∀ b, b < 256 → clsD l 23 b = isB l b := by decide +kernel
theorem fnd_some : ∀ l ∈ nmL, fndD l 23 = isN l := by decide +kernel
theorem cls_is (s : ByteArray) (b : Nat) (hb : b < 256) : clsK s 23 b = isB s.toList b := by
  rw [clsK_eq, toList_data]
  by_cases h : s.data.toList ∈ nmL
  · exact cls_some _ h b hb
  · rw [clsD_none _ h b 23 (Nat.le_refl _), isB_none _ h]
theorem fnd_is (s : ByteArray) : fndK s 23 = isN s.toList := by
  rw [fndK_eq, toList_data]
  by_cases h : s.data.toList ∈ nmL
  · exact fnd_some _ h
  · rw [fndD_none _ h 23 (Nat.le_refl _), isN_none _ h]


theorem class2 (s : ByteArray) (l : List UInt8) (hl : s.toList = l) (w : World) (hT : Tabbed w) :
    Calls Tryd.prog 64 #[.string s] w fun e w' => e = .returned (.tuple #[sv (isB l), .bool (isN l)]) ∧ Below w.heap.size w w' := by
  subst hl
  refine (class_any s w hT).mono fun e w' h => ⟨?_, h.2⟩
  rw [h.1, fnd_is, sv_congr fun b hb => cls_is s b hb]
theorem dig2 (k : Nat) (h : k < 256) : clsK digitS 23 k = diB k := by rw [cls_is _ k h, toList_data]; rfl
theorem spa2 (k : Nat) (h : k < 256) : clsK spaceS 23 k = isS k := by rw [cls_is _ k h, toList_data]; rfl
theorem aln2 (k : Nat) (h : k < 256) : clsK alnumS 23 k = isA k := by rw [cls_is _ k h, toList_data]; rfl
theorem word2 (k : Nat) (h : k < 256) : wordF k = wordR k := by unfold wordF wordR; rw [aln2 k h]
/-- named's Escape, for any byte. -/
theorem esc_any (c : Nat) (hc : c < 256) (w : World) (hT : Tabbed w) :
    Calls Tryd.prog 38 #[.int .u8 (c : Int)] w fun e w' => e = .returned (.tuple #[sv (escF c), .bool (escOk c)]) ∧ Below w.heap.size w w' := by
  have to : ∀ {f g : Nat → Bool} {b : Bool}, (∀ k, k < 256 → f k = g k) → (Calls Tryd.prog 38 #[.int .u8 (c : Int)] w fun e w' => e = .returned (.tuple #[sv f, .bool b]) ∧ Below w.heap.size w w') →
      Calls Tryd.prog 38 #[.int .u8 (c : Int)] w fun e w' => e = .returned (.tuple #[sv g, .bool b]) ∧ Below w.heap.size w w' := fun h hh => hh.mono fun e w' h2 => ⟨by rw [h2.1, sv_congr h], h2.2⟩
  by_cases h1 : c = 110
  · subst h1; exact esc_n w hT
  by_cases h2 : c = 116
  · subst h2; exact esc_t w hT
  by_cases h3 : c = 114
  · subst h3; exact esc_r w hT
  by_cases h4 : c = 100
  · subst h4; exact to dig2 (esc_d w hT)
  by_cases h5 : c = 115
  · subst h5; exact to spa2 (esc_s w hT)
  by_cases h6 : c = 119
  · subst h6; exact to word2 (esc_w w hT)
  by_cases h7 : c = 68
  · subst h7; exact to (fun k hk => by rw [dig2 k hk]; rfl) (esc_nd w hT)
  by_cases h8 : c = 83
  · subst h8; exact to (fun k hk => by rw [spa2 k hk]; rfl) (esc_ns w hT)
  by_cases h9 : c = 87
  · subst h9; exact to (fun k hk => by rw [word2 k hk]; rfl) (esc_nw w hT)
  have g : ∀ n : Nat, c ≠ n → ((c : Int) == (n : Int)) = false := fun n h => by simp; omega
  cases ha : isA c
  · have hF : escF c = fun k => decide (k = c) := by simp [escF, h1, h2, h3, h4, h5, h6, h7, h8, h9, ha]
    have hO : escOk c = true := by simp [escOk, ha]
    rw [hF, hO]
    exact esc_self c hc (g 110 h1) (g 116 h2) (g 114 h3) (g 100 h4) (g 115 h5) (g 119 h6) (g 68 h7) (g 83 h8) (g 87 h9) (by rw [aln2 c hc, ha]) w hT
  · have hF : escF c = fun _ => false := by simp [escF, h1, h2, h3, h4, h5, h6, h7, h8, h9, ha]
    have hO : escOk c = false := by simp [escOk, h1, h2, h3, h4, h5, h6, h7, h8, h9, ha]
    rw [hF, hO]
    exact esc_none c hc (g 110 h1) (g 116 h2) (g 114 h3) (g 100 h4) (g 115 h5) (g 119 h6) (g 68 h7) (g 83 h8) (g 87 h9) (by rw [aln2 c hc, ha]) w hT
end Go.Proofs.YtiahgcgpakgeeaaDoor
