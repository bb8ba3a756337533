/-
  The walks of named's Escape, a theorem a branch.
-/
import Derived.Test.YtgjpmfdiidkdnaaDoorPk12
namespace Go.Proofs.YtgjpmfdiidkdnaaDoor
open Go.RowKit

def digitS : ByteArray := { data := #[100, 105, 103, 105, 116] }
def spaceS : ByteArray := { data := #[115, 112, 97, 99, 101] }

set_option maxRecDepth 100000 in
set_option maxHeartbeats 2000000 in
theorem esc_n (w : World) (hT : Tabbed w) :
    Calls Tryd.prog 67 #[.int .u8 110] w fun e w' => e = .returned (.tuple #[sv (fun k => decide (k = 10)), .bool true]) ∧ Below w.heap.size w w' := by
  have e0 := isSet.newNone w
  have hT1 := hT.alloc (.cells #[.int .u64 0, .int .u64 0, .int .u64 0, .int .u64 0] 32)
  have hW : Below w.heap.size w (w.alloc (.cells #[.int .u64 0, .int .u64 0, .int .u64 0, .int .u64 0] 32)) := (Below.refl _ _).alloc (Nat.le_refl _) _
  have HT := Lib.hid hT1; have HW := Lib.hid hW; have E0 := Lib.hid e0
  clear hT1 hW e0 hT
  go_enter Tryd.func67, Tryd.ntmps67
  go_wp2_with fail
  have HT2 := Lib.hid (HT.out.alloc (.cells #[.int .u8 10] 5)); have HW2 := Lib.hid (HW.out.alloc HW.out.size (.cells #[.int .u8 10] 5)); have E2 := Lib.hid (E0.out.alloc (.cells #[.int .u8 10] 5))
  clear HT HW E0
  have HT := Lib.hid HT2.out; have HW := Lib.hid HW2.out; have E0 := Lib.hid E2.out
  clear HT2 HW2 E2
  refine (of_one 10 (by decide) _ _ (by simp) (by simp [go_sem])).mono ?_
  rintro e w1 ⟨rfl, hb⟩
  have hW := HW.out.trans (hb.mono HW.out.size)
  have e0 := E0.out.below hb E0.out.lt
  have hT1 := HT.out.to hb
  clear hb HW E0 HT
  have l9 : w.heap.size < w1.heap.size := e0.lt
  obtain ⟨r0, r1, r2, r3⟩ := e0.free
  obtain ⟨q0, q1, q2, q3⟩ := e0.cells
  have HR := Lib.hid (below_set4 (c := w.heap.size) hW (Nat.le_refl _) (.int .u64 (wd (fun k => decide (k = 10)) 0 : Int)) (.int .u64 (wd (fun k => decide (k = 10)) 1 : Int)) (.int .u64 (wd (fun k => decide (k = 10)) 2 : Int)) (.int .u64 (wd (fun k => decide (k = 10)) 3 : Int)))
  have Z := Lib.hid (e0.stored (fun k => decide (k = 10))).cells
  clear e0 hW
  go_wp2
  refine bodyPost_ret (v := .tuple #[sv (fun k => decide (k = 10)), .bool true]) (by simp [results, Tryd.results67, go_sem, Z.out]) rfl ⟨rfl, HR.out⟩

set_option maxRecDepth 100000 in
set_option maxHeartbeats 2000000 in
theorem esc_t (w : World) (hT : Tabbed w) :
    Calls Tryd.prog 67 #[.int .u8 116] w fun e w' => e = .returned (.tuple #[sv (fun k => decide (k = 9)), .bool true]) ∧ Below w.heap.size w w' := by
  have e0 := isSet.newNone w
  have hT1 := hT.alloc (.cells #[.int .u64 0, .int .u64 0, .int .u64 0, .int .u64 0] 32)
  have hW : Below w.heap.size w (w.alloc (.cells #[.int .u64 0, .int .u64 0, .int .u64 0, .int .u64 0] 32)) := (Below.refl _ _).alloc (Nat.le_refl _) _
  have HT := Lib.hid hT1; have HW := Lib.hid hW; have E0 := Lib.hid e0
  clear hT1 hW e0 hT
  go_enter Tryd.func67, Tryd.ntmps67
  go_wp2_with fail
  have HT2 := Lib.hid (HT.out.alloc (.cells #[.int .u8 9] 5)); have HW2 := Lib.hid (HW.out.alloc HW.out.size (.cells #[.int .u8 9] 5)); have E2 := Lib.hid (E0.out.alloc (.cells #[.int .u8 9] 5))
  clear HT HW E0
  have HT := Lib.hid HT2.out; have HW := Lib.hid HW2.out; have E0 := Lib.hid E2.out
  clear HT2 HW2 E2
  refine (of_one 9 (by decide) _ _ (by simp) (by simp [go_sem])).mono ?_
  rintro e w1 ⟨rfl, hb⟩
  have hW := HW.out.trans (hb.mono HW.out.size)
  have e0 := E0.out.below hb E0.out.lt
  have hT1 := HT.out.to hb
  clear hb HW E0 HT
  have l9 : w.heap.size < w1.heap.size := e0.lt
  obtain ⟨r0, r1, r2, r3⟩ := e0.free
  obtain ⟨q0, q1, q2, q3⟩ := e0.cells
  have HR := Lib.hid (below_set4 (c := w.heap.size) hW (Nat.le_refl _) (.int .u64 (wd (fun k => decide (k = 9)) 0 : Int)) (.int .u64 (wd (fun k => decide (k = 9)) 1 : Int)) (.int .u64 (wd (fun k => decide (k = 9)) 2 : Int)) (.int .u64 (wd (fun k => decide (k = 9)) 3 : Int)))
  have Z := Lib.hid (e0.stored (fun k => decide (k = 9))).cells
  clear e0 hW
  go_wp2
  refine bodyPost_ret (v := .tuple #[sv (fun k => decide (k = 9)), .bool true]) (by simp [results, Tryd.results67, go_sem, Z.out]) rfl ⟨rfl, HR.out⟩

set_option maxRecDepth 100000 in
set_option maxHeartbeats 2000000 in
theorem esc_r (w : World) (hT : Tabbed w) :
    Calls Tryd.prog 67 #[.int .u8 114] w fun e w' => e = .returned (.tuple #[sv (fun k => decide (k = 13)), .bool true]) ∧ Below w.heap.size w w' := by
  have e0 := isSet.newNone w
  have hT1 := hT.alloc (.cells #[.int .u64 0, .int .u64 0, .int .u64 0, .int .u64 0] 32)
  have hW : Below w.heap.size w (w.alloc (.cells #[.int .u64 0, .int .u64 0, .int .u64 0, .int .u64 0] 32)) := (Below.refl _ _).alloc (Nat.le_refl _) _
  have HT := Lib.hid hT1; have HW := Lib.hid hW; have E0 := Lib.hid e0
  clear hT1 hW e0 hT
  go_enter Tryd.func67, Tryd.ntmps67
  go_wp2_with fail
  have HT2 := Lib.hid (HT.out.alloc (.cells #[.int .u8 13] 5)); have HW2 := Lib.hid (HW.out.alloc HW.out.size (.cells #[.int .u8 13] 5)); have E2 := Lib.hid (E0.out.alloc (.cells #[.int .u8 13] 5))
  clear HT HW E0
  have HT := Lib.hid HT2.out; have HW := Lib.hid HW2.out; have E0 := Lib.hid E2.out
  clear HT2 HW2 E2
  refine (of_one 13 (by decide) _ _ (by simp) (by simp [go_sem])).mono ?_
  rintro e w1 ⟨rfl, hb⟩
  have hW := HW.out.trans (hb.mono HW.out.size)
  have e0 := E0.out.below hb E0.out.lt
  have hT1 := HT.out.to hb
  clear hb HW E0 HT
  have l9 : w.heap.size < w1.heap.size := e0.lt
  obtain ⟨r0, r1, r2, r3⟩ := e0.free
  obtain ⟨q0, q1, q2, q3⟩ := e0.cells
  have HR := Lib.hid (below_set4 (c := w.heap.size) hW (Nat.le_refl _) (.int .u64 (wd (fun k => decide (k = 13)) 0 : Int)) (.int .u64 (wd (fun k => decide (k = 13)) 1 : Int)) (.int .u64 (wd (fun k => decide (k = 13)) 2 : Int)) (.int .u64 (wd (fun k => decide (k = 13)) 3 : Int)))
  have Z := Lib.hid (e0.stored (fun k => decide (k = 13))).cells
  clear e0 hW
  go_wp2
  refine bodyPost_ret (v := .tuple #[sv (fun k => decide (k = 13)), .bool true]) (by simp [results, Tryd.results67, go_sem, Z.out]) rfl ⟨rfl, HR.out⟩

set_option maxRecDepth 100000 in
set_option maxHeartbeats 2000000 in
theorem esc_d (w : World) (hT : Tabbed w) :
    Calls Tryd.prog 67 #[.int .u8 100] w fun e w' => e = .returned (.tuple #[sv (clsK digitS 23), .bool true]) ∧ Below w.heap.size w w' := by
  have e0 := isSet.newNone w
  have hT1 := hT.alloc (.cells #[.int .u64 0, .int .u64 0, .int .u64 0, .int .u64 0] 32)
  have hW : Below w.heap.size w (w.alloc (.cells #[.int .u64 0, .int .u64 0, .int .u64 0, .int .u64 0] 32)) := (Below.refl _ _).alloc (Nat.le_refl _) _
  have HT := Lib.hid hT1; have HW := Lib.hid hW; have E0 := Lib.hid e0
  clear hT1 hW e0 hT
  go_enter Tryd.func67, Tryd.ntmps67
  go_wp2_with fail
  refine (cl_any digitS _ HT.out).mono ?_
  rintro e w1 ⟨rfl, hb⟩
  have hW := HW.out.trans (hb.mono HW.out.size)
  have e0 := E0.out.below hb E0.out.lt
  have hT1 := HT.out.to hb
  clear hb HW E0 HT
  have l9 : w.heap.size < w1.heap.size := e0.lt
  obtain ⟨r0, r1, r2, r3⟩ := e0.free
  obtain ⟨q0, q1, q2, q3⟩ := e0.cells
  have HR := Lib.hid (below_set4 (c := w.heap.size) hW (Nat.le_refl _) (.int .u64 (wd (clsK digitS 23) 0 : Int)) (.int .u64 (wd (clsK digitS 23) 1 : Int)) (.int .u64 (wd (clsK digitS 23) 2 : Int)) (.int .u64 (wd (clsK digitS 23) 3 : Int)))
  have Z := Lib.hid (e0.stored (clsK digitS 23)).cells
  clear e0 hW
  go_wp2
  refine bodyPost_ret (v := .tuple #[sv (clsK digitS 23), .bool true]) (by simp [results, Tryd.results67, go_sem, Z.out]) rfl ⟨rfl, HR.out⟩

set_option maxRecDepth 100000 in
set_option maxHeartbeats 2000000 in
theorem esc_s (w : World) (hT : Tabbed w) :
    Calls Tryd.prog 67 #[.int .u8 115] w fun e w' => e = .returned (.tuple #[sv (clsK spaceS 23), .bool true]) ∧ Below w.heap.size w w' := by
  have e0 := isSet.newNone w
  have hT1 := hT.alloc (.cells #[.int .u64 0, .int .u64 0, .int .u64 0, .int .u64 0] 32)
  have hW : Below w.heap.size w (w.alloc (.cells #[.int .u64 0, .int .u64 0, .int .u64 0, .int .u64 0] 32)) := (Below.refl _ _).alloc (Nat.le_refl _) _
  have HT := Lib.hid hT1; have HW := Lib.hid hW; have E0 := Lib.hid e0
  clear hT1 hW e0 hT
  go_enter Tryd.func67, Tryd.ntmps67
  go_wp2_with fail
  refine (cl_any spaceS _ HT.out).mono ?_
  rintro e w1 ⟨rfl, hb⟩
  have hW := HW.out.trans (hb.mono HW.out.size)
  have e0 := E0.out.below hb E0.out.lt
  have hT1 := HT.out.to hb
  clear hb HW E0 HT
  have l9 : w.heap.size < w1.heap.size := e0.lt
  obtain ⟨r0, r1, r2, r3⟩ := e0.free
  obtain ⟨q0, q1, q2, q3⟩ := e0.cells
  have HR := Lib.hid (below_set4 (c := w.heap.size) hW (Nat.le_refl _) (.int .u64 (wd (clsK spaceS 23) 0 : Int)) (.int .u64 (wd (clsK spaceS 23) 1 : Int)) (.int .u64 (wd (clsK spaceS 23) 2 : Int)) (.int .u64 (wd (clsK spaceS 23) 3 : Int)))
  have Z := Lib.hid (e0.stored (clsK spaceS 23)).cells
  clear e0 hW
  go_wp2
  refine bodyPost_ret (v := .tuple #[sv (clsK spaceS 23), .bool true]) (by simp [results, Tryd.results67, go_sem, Z.out]) rfl ⟨rfl, HR.out⟩

set_option maxRecDepth 100000 in
set_option maxHeartbeats 2000000 in
theorem esc_w (w : World) (hT : Tabbed w) :
    Calls Tryd.prog 67 #[.int .u8 119] w fun e w' => e = .returned (.tuple #[sv (wordF), .bool true]) ∧ Below w.heap.size w w' := by
  have e0 := isSet.newNone w
  have hT1 := hT.alloc (.cells #[.int .u64 0, .int .u64 0, .int .u64 0, .int .u64 0] 32)
  have hW : Below w.heap.size w (w.alloc (.cells #[.int .u64 0, .int .u64 0, .int .u64 0, .int .u64 0] 32)) := (Below.refl _ _).alloc (Nat.le_refl _) _
  have HT := Lib.hid hT1; have HW := Lib.hid hW; have E0 := Lib.hid e0
  clear hT1 hW e0 hT
  go_enter Tryd.func67, Tryd.ntmps67
  go_wp2_with fail
  refine (word_any _ HT.out).mono ?_
  rintro e w1 ⟨rfl, hb⟩
  have hW := HW.out.trans (hb.mono HW.out.size)
  have e0 := E0.out.below hb E0.out.lt
  have hT1 := HT.out.to hb
  clear hb HW E0 HT
  have l9 : w.heap.size < w1.heap.size := e0.lt
  obtain ⟨r0, r1, r2, r3⟩ := e0.free
  obtain ⟨q0, q1, q2, q3⟩ := e0.cells
  have HR := Lib.hid (below_set4 (c := w.heap.size) hW (Nat.le_refl _) (.int .u64 (wd (wordF) 0 : Int)) (.int .u64 (wd (wordF) 1 : Int)) (.int .u64 (wd (wordF) 2 : Int)) (.int .u64 (wd (wordF) 3 : Int)))
  have Z := Lib.hid (e0.stored (wordF)).cells
  clear e0 hW
  go_wp2
  refine bodyPost_ret (v := .tuple #[sv (wordF), .bool true]) (by simp [results, Tryd.results67, go_sem, Z.out]) rfl ⟨rfl, HR.out⟩

set_option maxRecDepth 100000 in
set_option maxHeartbeats 2000000 in
theorem esc_nd (w : World) (hT : Tabbed w) :
    Calls Tryd.prog 67 #[.int .u8 68] w fun e w' => e = .returned (.tuple #[sv (fun k => !clsK digitS 23 k), .bool true]) ∧ Below w.heap.size w w' := by
  have e0 := isSet.newNone w
  have hT1 := hT.alloc (.cells #[.int .u64 0, .int .u64 0, .int .u64 0, .int .u64 0] 32)
  have hW : Below w.heap.size w (w.alloc (.cells #[.int .u64 0, .int .u64 0, .int .u64 0, .int .u64 0] 32)) := (Below.refl _ _).alloc (Nat.le_refl _) _
  have HT := Lib.hid hT1; have HW := Lib.hid hW; have E0 := Lib.hid e0
  clear hT1 hW e0 hT
  go_enter Tryd.func67, Tryd.ntmps67
  go_wp2_with fail
  refine (cl_any digitS _ HT.out).mono ?_
  rintro e w1 ⟨rfl, hb⟩
  have hW := HW.out.trans (hb.mono HW.out.size)
  have e0 := E0.out.below hb E0.out.lt
  have hT1 := HT.out.to hb
  clear hb HW E0 HT
  have HT := Lib.hid hT1; have HW := Lib.hid hW; have E0 := Lib.hid e0
  have l9 : w.heap.size < w1.heap.size := e0.lt
  clear hT1 hW e0
  go_wp2_with fail
  refine (not_lit _ _).mono ?_
  rintro e w2 ⟨rfl, hb⟩
  have hW := HW.out.trans (hb.mono HW.out.size)
  have e0 := E0.out.below hb E0.out.lt
  have hT1 := HT.out.to hb
  clear hb HW E0 HT
  have l9 : w.heap.size < w2.heap.size := e0.lt
  obtain ⟨r0, r1, r2, r3⟩ := e0.free
  obtain ⟨q0, q1, q2, q3⟩ := e0.cells
  have HR := Lib.hid (below_set4 (c := w.heap.size) hW (Nat.le_refl _) (.int .u64 (wd (fun k => !clsK digitS 23 k) 0 : Int)) (.int .u64 (wd (fun k => !clsK digitS 23 k) 1 : Int)) (.int .u64 (wd (fun k => !clsK digitS 23 k) 2 : Int)) (.int .u64 (wd (fun k => !clsK digitS 23 k) 3 : Int)))
  have Z := Lib.hid (e0.stored (fun k => !clsK digitS 23 k)).cells
  clear e0 hW
  go_wp2
  refine bodyPost_ret (v := .tuple #[sv (fun k => !clsK digitS 23 k), .bool true]) (by simp [results, Tryd.results67, go_sem, Z.out]) rfl ⟨rfl, HR.out⟩

set_option maxRecDepth 100000 in
set_option maxHeartbeats 2000000 in
theorem esc_ns (w : World) (hT : Tabbed w) :
    Calls Tryd.prog 67 #[.int .u8 83] w fun e w' => e = .returned (.tuple #[sv (fun k => !clsK spaceS 23 k), .bool true]) ∧ Below w.heap.size w w' := by
  have e0 := isSet.newNone w
  have hT1 := hT.alloc (.cells #[.int .u64 0, .int .u64 0, .int .u64 0, .int .u64 0] 32)
  have hW : Below w.heap.size w (w.alloc (.cells #[.int .u64 0, .int .u64 0, .int .u64 0, .int .u64 0] 32)) := (Below.refl _ _).alloc (Nat.le_refl _) _
  have HT := Lib.hid hT1; have HW := Lib.hid hW; have E0 := Lib.hid e0
  clear hT1 hW e0 hT
  go_enter Tryd.func67, Tryd.ntmps67
  go_wp2_with fail
  refine (cl_any spaceS _ HT.out).mono ?_
  rintro e w1 ⟨rfl, hb⟩
  have hW := HW.out.trans (hb.mono HW.out.size)
  have e0 := E0.out.below hb E0.out.lt
  have hT1 := HT.out.to hb
  clear hb HW E0 HT
  have HT := Lib.hid hT1; have HW := Lib.hid hW; have E0 := Lib.hid e0
  have l9 : w.heap.size < w1.heap.size := e0.lt
  clear hT1 hW e0
  go_wp2_with fail
  refine (not_lit _ _).mono ?_
  rintro e w2 ⟨rfl, hb⟩
  have hW := HW.out.trans (hb.mono HW.out.size)
  have e0 := E0.out.below hb E0.out.lt
  have hT1 := HT.out.to hb
  clear hb HW E0 HT
  have l9 : w.heap.size < w2.heap.size := e0.lt
  obtain ⟨r0, r1, r2, r3⟩ := e0.free
  obtain ⟨q0, q1, q2, q3⟩ := e0.cells
  have HR := Lib.hid (below_set4 (c := w.heap.size) hW (Nat.le_refl _) (.int .u64 (wd (fun k => !clsK spaceS 23 k) 0 : Int)) (.int .u64 (wd (fun k => !clsK spaceS 23 k) 1 : Int)) (.int .u64 (wd (fun k => !clsK spaceS 23 k) 2 : Int)) (.int .u64 (wd (fun k => !clsK spaceS 23 k) 3 : Int)))
  have Z := Lib.hid (e0.stored (fun k => !clsK spaceS 23 k)).cells
  clear e0 hW
  go_wp2
  refine bodyPost_ret (v := .tuple #[sv (fun k => !clsK spaceS 23 k), .bool true]) (by simp [results, Tryd.results67, go_sem, Z.out]) rfl ⟨rfl, HR.out⟩

set_option maxRecDepth 100000 in
set_option maxHeartbeats 2000000 in
theorem esc_nw (w : World) (hT : Tabbed w) :
    Calls Tryd.prog 67 #[.int .u8 87] w fun e w' => e = .returned (.tuple #[sv (fun k => !wordF k), .bool true]) ∧ Below w.heap.size w w' := by
  have e0 := isSet.newNone w
  have hT1 := hT.alloc (.cells #[.int .u64 0, .int .u64 0, .int .u64 0, .int .u64 0] 32)
  have hW : Below w.heap.size w (w.alloc (.cells #[.int .u64 0, .int .u64 0, .int .u64 0, .int .u64 0] 32)) := (Below.refl _ _).alloc (Nat.le_refl _) _
  have HT := Lib.hid hT1; have HW := Lib.hid hW; have E0 := Lib.hid e0
  clear hT1 hW e0 hT
  go_enter Tryd.func67, Tryd.ntmps67
  go_wp2_with fail
  refine (word_any _ HT.out).mono ?_
  rintro e w1 ⟨rfl, hb⟩
  have hW := HW.out.trans (hb.mono HW.out.size)
  have e0 := E0.out.below hb E0.out.lt
  have hT1 := HT.out.to hb
  clear hb HW E0 HT
  have HT := Lib.hid hT1; have HW := Lib.hid hW; have E0 := Lib.hid e0
  have l9 : w.heap.size < w1.heap.size := e0.lt
  clear hT1 hW e0
  go_wp2_with fail
  refine (not_lit _ _).mono ?_
  rintro e w2 ⟨rfl, hb⟩
  have hW := HW.out.trans (hb.mono HW.out.size)
  have e0 := E0.out.below hb E0.out.lt
  have hT1 := HT.out.to hb
  clear hb HW E0 HT
  have l9 : w.heap.size < w2.heap.size := e0.lt
  obtain ⟨r0, r1, r2, r3⟩ := e0.free
  obtain ⟨q0, q1, q2, q3⟩ := e0.cells
  have HR := Lib.hid (below_set4 (c := w.heap.size) hW (Nat.le_refl _) (.int .u64 (wd (fun k => !wordF k) 0 : Int)) (.int .u64 (wd (fun k => !wordF k) 1 : Int)) (.int .u64 (wd (fun k => !wordF k) 2 : Int)) (.int .u64 (wd (fun k => !wordF k) 3 : Int)))
  have Z := Lib.hid (e0.stored (fun k => !wordF k)).cells
  clear e0 hW
  go_wp2
  refine bodyPost_ret (v := .tuple #[sv (fun k => !wordF k), .bool true]) (by simp [results, Tryd.results67, go_sem, Z.out]) rfl ⟨rfl, HR.out⟩

set_option maxRecDepth 100000 in
set_option maxHeartbeats 2000000 in
theorem esc_none (c : Nat) (hc : c < 256) (h110 : ((c : Int) == 110) = false) (h116 : ((c : Int) == 116) = false) (h114 : ((c : Int) == 114) = false) (h100 : ((c : Int) == 100) = false) (h115 : ((c : Int) == 115) = false) (h119 : ((c : Int) == 119) = false) (h68 : ((c : Int) == 68) = false) (h83 : ((c : Int) == 83) = false) (h87 : ((c : Int) == 87) = false) (ha : clsK alnumS 23 c = true) (w : World) (hT : Tabbed w) :
    Calls Tryd.prog 67 #[.int .u8 (c : Int)] w fun e w' => e = .returned (.tuple #[sv (fun _ => false), .bool false]) ∧ Below w.heap.size w w' := by
  have e0 := isSet.newNone w
  have hT1 := hT.alloc (.cells #[.int .u64 0, .int .u64 0, .int .u64 0, .int .u64 0] 32)
  have hW : Below w.heap.size w (w.alloc (.cells #[.int .u64 0, .int .u64 0, .int .u64 0, .int .u64 0] 32)) := (Below.refl _ _).alloc (Nat.le_refl _) _
  have HT := Lib.hid hT1; have HW := Lib.hid hW; have E0 := Lib.hid e0
  clear hT1 hW e0 hT
  have HA := Lib.hid ha
  clear ha
  go_enter Tryd.func67, Tryd.ntmps67
  go_wp2_with fail
  refine (cl_any alnumS _ HT.out).mono ?_
  rintro e w1 ⟨rfl, hb⟩
  have hW := HW.out.trans (hb.mono HW.out.size)
  have e0 := E0.out.below hb E0.out.lt
  have hT1 := HT.out.to hb
  clear hb HW E0 HT
  have HT := Lib.hid hT1; have HW := Lib.hid hW; have E0 := Lib.hid e0
  have l9 : w.heap.size < w1.heap.size := e0.lt
  clear hT1 hW e0
  go_wp2_with fail
  refine (has_lit _ c hc _).mono ?_
  rw [HA.out]
  rintro e w2 ⟨rfl, hb⟩
  have hW := HW.out.trans (hb.mono HW.out.size)
  have e0 := E0.out.below hb E0.out.lt
  have hT1 := HT.out.to hb
  clear hb HW E0 HT
  have l9 : w.heap.size < w2.heap.size := e0.lt
  have HV : Hid (sv (fun _ => false) = .agg #[.int .u64 0, .int .u64 0, .int .u64 0, .int .u64 0]) := by unfold sv; simp only [none_wd]; exact rfl
  obtain ⟨r0, r1, r2, r3⟩ := e0.free
  have q := e0.cells
  simp only [none_wd] at q
  obtain ⟨q0, q1, q2, q3⟩ := q
  have HR := Lib.hid (below_set4 (c := w.heap.size) hW (Nat.le_refl _) (.int .u64 0) (.int .u64 0) (.int .u64 0) (.int .u64 0))
  clear e0 hW
  go_wp2
  refine bodyPost_ret (v := .tuple #[.agg #[.int .u64 0, .int .u64 0, .int .u64 0, .int .u64 0], .bool false]) (by simp [results, Tryd.results67, go_sem, q0, q1, q2, q3]) rfl ⟨by rw [HV.out], HR.out⟩

set_option maxRecDepth 100000 in
set_option maxHeartbeats 2000000 in
theorem esc_self (c : Nat) (hc : c < 256) (h110 : ((c : Int) == 110) = false) (h116 : ((c : Int) == 116) = false) (h114 : ((c : Int) == 114) = false) (h100 : ((c : Int) == 100) = false) (h115 : ((c : Int) == 115) = false) (h119 : ((c : Int) == 119) = false) (h68 : ((c : Int) == 68) = false) (h83 : ((c : Int) == 83) = false) (h87 : ((c : Int) == 87) = false) (ha : clsK alnumS 23 c = false) (w : World) (hT : Tabbed w) :
    Calls Tryd.prog 67 #[.int .u8 (c : Int)] w fun e w' => e = .returned (.tuple #[sv (fun k => decide (k = c)), .bool true]) ∧ Below w.heap.size w w' := by
  have e0 := isSet.newNone w
  have hT1 := hT.alloc (.cells #[.int .u64 0, .int .u64 0, .int .u64 0, .int .u64 0] 32)
  have hW : Below w.heap.size w (w.alloc (.cells #[.int .u64 0, .int .u64 0, .int .u64 0, .int .u64 0] 32)) := (Below.refl _ _).alloc (Nat.le_refl _) _
  have HT := Lib.hid hT1; have HW := Lib.hid hW; have E0 := Lib.hid e0
  clear hT1 hW e0 hT
  have HA := Lib.hid ha
  clear ha
  go_enter Tryd.func67, Tryd.ntmps67
  go_wp2_with fail
  refine (cl_any alnumS _ HT.out).mono ?_
  rintro e w1 ⟨rfl, hb⟩
  have hW := HW.out.trans (hb.mono HW.out.size)
  have e0 := E0.out.below hb E0.out.lt
  have hT1 := HT.out.to hb
  clear hb HW E0 HT
  have HT := Lib.hid hT1; have HW := Lib.hid hW; have E0 := Lib.hid e0
  have l9 : w.heap.size < w1.heap.size := e0.lt
  clear hT1 hW e0
  go_wp2_with fail
  refine (has_lit _ c hc _).mono ?_
  rw [HA.out]
  rintro e w2 ⟨rfl, hb⟩
  have hW := HW.out.trans (hb.mono HW.out.size)
  have e0 := E0.out.below hb E0.out.lt
  have hT1 := HT.out.to hb
  clear hb HW E0 HT
  have HT := Lib.hid hT1; have HW := Lib.hid hW; have E0 := Lib.hid e0
  have l9 : w.heap.size < w2.heap.size := e0.lt
  clear hT1 hW e0
  go_wp2_with fail
  have HT2 := Lib.hid (HT.out.alloc (.cells #[.int .u8 (c : Int)] 5)); have HW2 := Lib.hid (HW.out.alloc HW.out.size (.cells #[.int .u8 (c : Int)] 5)); have E2 := Lib.hid (E0.out.alloc (.cells #[.int .u8 (c : Int)] 5))
  clear HT HW E0
  have HT := Lib.hid HT2.out; have HW := Lib.hid HW2.out; have E0 := Lib.hid E2.out
  clear HT2 HW2 E2
  refine (of_one c hc _ _ (by simp) (by simp [go_sem])).mono ?_
  rintro e w3 ⟨rfl, hb⟩
  have hW := HW.out.trans (hb.mono HW.out.size)
  have e0 := E0.out.below hb E0.out.lt
  have hT1 := HT.out.to hb
  clear hb HW E0 HT
  have l9 : w.heap.size < w3.heap.size := e0.lt
  obtain ⟨r0, r1, r2, r3⟩ := e0.free
  obtain ⟨q0, q1, q2, q3⟩ := e0.cells
  have HR := Lib.hid (below_set4 (c := w.heap.size) hW (Nat.le_refl _) (.int .u64 (wd (fun k => decide (k = c)) 0 : Int)) (.int .u64 (wd (fun k => decide (k = c)) 1 : Int)) (.int .u64 (wd (fun k => decide (k = c)) 2 : Int)) (.int .u64 (wd (fun k => decide (k = c)) 3 : Int)))
  have Z := Lib.hid (e0.stored (fun k => decide (k = c))).cells
  clear e0 hW
  go_wp2
  refine bodyPost_ret (v := .tuple #[sv (fun k => decide (k = c)), .bool true]) (by simp [results, Tryd.results67, go_sem, Z.out]) rfl ⟨rfl, HR.out⟩
end Go.Proofs.YtgjpmfdiidkdnaaDoor
