/-
  The walk of the law TreeRight: it answers true, at any list and any kind.
-/
import Derived.Test.YtligbocnakbabaaRdp
namespace Go.Proofs.Ytligbocnakbabaa
open Go.RowKit

set_option maxRecDepth 100000 in
set_option maxHeartbeats 4000000 in
theorem trt_zero (p : Option Addr) (cap : Nat) (kind : Int) (w : World) :
    Calls Try.prog 3 #[.slice p 0 cap, .int .i64 kind] w fun e w' => e = .returned (.bool true) ∧ Below w.heap.size w w' := by
  have HT : Hid (¬ tree N0 0) := Lib.hid (by decide)
  have HD : Hid (decide (tree N0 0) = false) := Lib.hid (by decide)
  rcases p with _ | a
  · go_enter Try.func3, Try.ntmps3
    go_wp2_with fail
    refine (awake_any _).mono ?_
    rintro e w1 ⟨rfl, hb1⟩
    have HW1 := Lib.hid hb1
    clear hb1
    go_wp2_with fail
    refine (rright_zero _ _ N0 _).mono ?_
    rintro e w2 ⟨rfl, hb⟩
    rw [HD.out]
    have HW2 := Lib.hid (HW1.out.trans (hb.mono HW1.out.size))
    clear hb HW1
    go_wp2_with fail
    refine (right_zero _ _ N0 _).mono ?_
    rintro e w3 ⟨rfl, hb⟩
    rw [HD.out]
    have HW3 := Lib.hid (HW2.out.trans (hb.mono HW2.out.size))
    clear hb HW2
    go_wp2_with fail
    refine (depth_not _ N0 0 HT.out _ (right_zero _ _ N0 _)).mono ?_
    rintro e w4 ⟨rfl, hb⟩
    have HL := Lib.hid (HW3.out.trans (hb.mono HW3.out.size))
    clear hb HW3
    go_wp2_with fail
    refine (args_any _ _).mono ?_
    rintro e wy ⟨rfl, rfl⟩
    go_wp2_with fail
    refine (rargs_any _ _).mono ?_
    rintro e wz ⟨rfl, hb⟩
    have HZ := Lib.hid (HL.out.trans (hb.mono HL.out.size))
    clear hb
    go_wp2
    go_ret
    exact ⟨rfl, HZ.out⟩
  · go_enter Try.func3, Try.ntmps3
    go_wp2_with fail
    refine (awake_any _).mono ?_
    rintro e w1 ⟨rfl, hb1⟩
    have HW1 := Lib.hid hb1
    clear hb1
    go_wp2_with fail
    refine (rright_zero _ _ N0 _).mono ?_
    rintro e w2 ⟨rfl, hb⟩
    rw [HD.out]
    have HW2 := Lib.hid (HW1.out.trans (hb.mono HW1.out.size))
    clear hb HW1
    go_wp2_with fail
    refine (right_zero _ _ N0 _).mono ?_
    rintro e w3 ⟨rfl, hb⟩
    rw [HD.out]
    have HW3 := Lib.hid (HW2.out.trans (hb.mono HW2.out.size))
    clear hb HW2
    go_wp2_with fail
    refine (depth_not _ N0 0 HT.out _ (right_zero _ _ N0 _)).mono ?_
    rintro e w4 ⟨rfl, hb⟩
    have HL := Lib.hid (HW3.out.trans (hb.mono HW3.out.size))
    clear hb HW3
    go_wp2_with fail
    refine (args_any _ _).mono ?_
    rintro e wy ⟨rfl, rfl⟩
    go_wp2_with fail
    refine (rargs_any _ _).mono ?_
    rintro e wz ⟨rfl, hb⟩
    have HZ := Lib.hid (HL.out.trans (hb.mono HL.out.size))
    clear hb
    go_wp2
    go_ret
    exact ⟨rfl, HZ.out⟩

set_option maxRecDepth 100000 in
set_option maxHeartbeats 4000000 in
theorem trt_not (b off n cap : Nat) (N : Nat → Nd) (kind : Int) (hpos : 0 < n) (hn : n ≤ 60) (hcap : n ≤ cap) (ht : ¬ tree N n) (w : World) (hr : rdN w b off n N) :
    Calls Try.prog 3 #[.slice (some ⟨b, off, none⟩) n cap, .int .i64 kind] w fun e w' => e = .returned (.bool true) ∧ Below w.heap.size w w' := by
  have HT := Lib.hid ht
  have HD : Hid (decide (tree N n) = false) := Lib.hid (decide_eq_false ht)
  clear ht
  have HR0 := Lib.hid (hr.take n (by omega))
  have hm512 : n ≤ 512 := by omega
  have hm0 : 0 < n := by omega
  have hm61 : (n : Int) ≤ 1000 := by omega
  clear hr
  go_enter Try.func3, Try.ntmps3
  go_wp2_with fail
  refine (awake_any _).mono ?_
  rintro e w1 ⟨rfl, hb⟩
  have HW1 := Lib.hid hb
  have HR1 := Lib.hid (HR0.out.below hb)
  clear hb HR0
  go_wp2_with fail
  refine (rright_some _ _ _ _ N hm0 hm512 _ HR1.out).mono ?_
  rintro e w2 ⟨rfl, hb⟩
  have HW2 := Lib.hid (HW1.out.trans (hb.mono HW1.out.size))
  have HR2 := Lib.hid (HR1.out.below hb)
  clear hb HW1 HR1
  rw [HD.out]
  go_wp2_with fail
  refine (right_val _ _ _ _ N hm512 _ HD.out _ HR2.out).mono ?_
  rintro e w3 ⟨rfl, hb⟩
  have HW3 := Lib.hid (HW2.out.trans (hb.mono HW2.out.size))
  have HR3 := Lib.hid (HR2.out.below hb)
  clear hb HW2 HR2
  go_wp2_with fail
  refine (depth_not _ N n HT.out _ (right_some _ _ _ _ _ hm512 _ HR3.out)).mono ?_
  rintro e w4 ⟨rfl, hb⟩
  have HL := Lib.hid (HW3.out.trans (hb.mono HW3.out.size))
  clear hb HW3 HR3
  go_wp2_with fail
  refine (args_any _ _).mono ?_
  rintro e wy ⟨rfl, rfl⟩
  go_wp2_with fail
  refine (rargs_any _ _).mono ?_
  rintro e wz ⟨rfl, hb⟩
  have HZ := Lib.hid (HL.out.trans (hb.mono HL.out.size))
  clear hb
  go_wp2
  go_ret
  exact ⟨rfl, HZ.out⟩

set_option maxRecDepth 100000 in
set_option maxHeartbeats 4000000 in
theorem trt_is (b off n cap : Nat) (N : Nat → Nd) (kind : Int) (hpos : 0 < n) (hn : n ≤ 60) (hcap : n ≤ cap) (ht : tree N n) (w : World) (hr : rdN w b off n N) :
    Calls Try.prog 3 #[.slice (some ⟨b, off, none⟩) n cap, .int .i64 kind] w fun e w' => e = .returned (.bool true) ∧ Below w.heap.size w w' := by
  have HT := Lib.hid ht
  have HD : Hid (decide (tree N n) = true) := Lib.hid (decide_eq_true ht)
  obtain ⟨D, hD⟩ : ∃ D, dpt N (n - 1) = D := ⟨_, rfl⟩
  have hD1 : 1 ≤ D := by rw [← hD]; exact dpt_pos N _
  have HDp := Lib.hid hD
  clear ht hD
  obtain ⟨t, ht⟩ : ∃ t, n = t + 1 := ⟨n - 1, by omega⟩
  have HDt : Hid (dpt N t = D) := Lib.hid (by have := HDp.out; rwa [show n - 1 = t by omega] at this)
  have h9 : (n : Int) - 1 = (t : Int) := by omega
  have h11 : t < n := by omega
  clear ht
  have HR0 := Lib.hid (hr.take n (by omega))
  have hm512 : n ≤ 512 := by omega
  have hm0 : 0 < n := by omega
  have hm61 : (n : Int) ≤ 1000 := by omega
  clear hr
  go_enter Try.func3, Try.ntmps3
  go_wp2_with fail
  refine (awake_any _).mono ?_
  rintro e w1 ⟨rfl, hb⟩
  have HW1 := Lib.hid hb
  have HR1 := Lib.hid (HR0.out.below hb)
  clear hb HR0
  go_wp2_with fail
  refine (rright_some _ _ _ _ N hm0 hm512 _ HR1.out).mono ?_
  rintro e w2 ⟨rfl, hb⟩
  have HW2 := Lib.hid (HW1.out.trans (hb.mono HW1.out.size))
  have HR2 := Lib.hid (HR1.out.below hb)
  clear hb HW1 HR1
  rw [HD.out]
  go_wp2_with fail
  refine (rdepth_is _ _ _ _ N HT.out t h11 D HDt.out _ HR2.out).mono ?_
  rintro e wd ⟨rfl, hb⟩
  have HWd := Lib.hid (HW2.out.trans (hb.mono HW2.out.size))
  have HRd := Lib.hid (HR2.out.below hb)
  clear hb HW2 HR2
  go_wp2_with fail
  refine (right_val _ _ _ _ N hm512 _ HD.out _ HRd.out).mono ?_
  rintro e w3 ⟨rfl, hb⟩
  have HW3 := Lib.hid (HWd.out.trans (hb.mono HWd.out.size))
  have HR3 := Lib.hid (HRd.out.below hb)
  clear hb HWd HRd
  go_wp2_with fail
  refine (depth_val _ _ _ _ N HT.out D HDp.out _ HR3.out).mono ?_
  rintro e w4 ⟨rfl, hb⟩
  have HL := Lib.hid (HW3.out.trans (hb.mono HW3.out.size))
  clear hb HW3 HR3
  go_wp2_with fail
  refine (args_any _ _).mono ?_
  rintro e wy ⟨rfl, rfl⟩
  go_wp2_with fail
  refine (rargs_any _ _).mono ?_
  rintro e wz ⟨rfl, hb⟩
  have HZ := Lib.hid (HL.out.trans (hb.mono HL.out.size))
  clear hb
  go_wp2
  go_ret
  exact ⟨rfl, HZ.out⟩

set_option maxRecDepth 100000 in
set_option maxHeartbeats 4000000 in
theorem trtb_not (b off n cap : Nat) (N : Nat → Nd) (kind : Int) (hn : 60 < n) (hcap : n ≤ cap) (ht : ¬ tree N 60) (w : World) (hr : rdN w b off n N) :
    Calls Try.prog 3 #[.slice (some ⟨b, off, none⟩) n cap, .int .i64 kind] w fun e w' => e = .returned (.bool true) ∧ Below w.heap.size w w' := by
  have HT := Lib.hid ht
  have HD : Hid (decide (tree N 60) = false) := Lib.hid (decide_eq_false ht)
  clear ht
  have HR0 := Lib.hid (hr.take 60 (by omega))
  have hm512 : 60 ≤ 512 := by omega
  have hm0 : 0 < 60 := by omega
  have hm61 : (60 : Int) ≤ 1000 := by omega
  clear hr
  go_enter Try.func3, Try.ntmps3
  go_wp2_with fail
  refine (awake_any _).mono ?_
  rintro e w1 ⟨rfl, hb⟩
  have HW1 := Lib.hid hb
  have HR1 := Lib.hid (HR0.out.below hb)
  clear hb HR0
  go_wp2_with fail
  refine (rright_some _ _ _ _ N hm0 hm512 _ HR1.out).mono ?_
  rintro e w2 ⟨rfl, hb⟩
  have HW2 := Lib.hid (HW1.out.trans (hb.mono HW1.out.size))
  have HR2 := Lib.hid (HR1.out.below hb)
  clear hb HW1 HR1
  rw [HD.out]
  go_wp2_with fail
  refine (right_val _ _ _ _ N hm512 _ HD.out _ HR2.out).mono ?_
  rintro e w3 ⟨rfl, hb⟩
  have HW3 := Lib.hid (HW2.out.trans (hb.mono HW2.out.size))
  have HR3 := Lib.hid (HR2.out.below hb)
  clear hb HW2 HR2
  go_wp2_with fail
  refine (depth_not _ N 60 HT.out _ (right_some _ _ _ _ _ hm512 _ HR3.out)).mono ?_
  rintro e w4 ⟨rfl, hb⟩
  have HL := Lib.hid (HW3.out.trans (hb.mono HW3.out.size))
  clear hb HW3 HR3
  go_wp2_with fail
  refine (args_any _ _).mono ?_
  rintro e wy ⟨rfl, rfl⟩
  go_wp2_with fail
  refine (rargs_any _ _).mono ?_
  rintro e wz ⟨rfl, hb⟩
  have HZ := Lib.hid (HL.out.trans (hb.mono HL.out.size))
  clear hb
  go_wp2
  go_ret
  exact ⟨rfl, HZ.out⟩

set_option maxRecDepth 100000 in
set_option maxHeartbeats 4000000 in
theorem trtb_is (b off n cap : Nat) (N : Nat → Nd) (kind : Int) (hn : 60 < n) (hcap : n ≤ cap) (ht : tree N 60) (w : World) (hr : rdN w b off n N) :
    Calls Try.prog 3 #[.slice (some ⟨b, off, none⟩) n cap, .int .i64 kind] w fun e w' => e = .returned (.bool true) ∧ Below w.heap.size w w' := by
  have HT := Lib.hid ht
  have HD : Hid (decide (tree N 60) = true) := Lib.hid (decide_eq_true ht)
  obtain ⟨D, hD⟩ : ∃ D, dpt N (60 - 1) = D := ⟨_, rfl⟩
  have hD1 : 1 ≤ D := by rw [← hD]; exact dpt_pos N _
  have HDp := Lib.hid hD
  clear ht hD
  have HDt : Hid (dpt N 59 = D) := HDp
  have h11 : 59 < 60 := by decide
  have HR0 := Lib.hid (hr.take 60 (by omega))
  have hm512 : 60 ≤ 512 := by omega
  have hm0 : 0 < 60 := by omega
  have hm61 : (60 : Int) ≤ 1000 := by omega
  clear hr
  go_enter Try.func3, Try.ntmps3
  go_wp2_with fail
  refine (awake_any _).mono ?_
  rintro e w1 ⟨rfl, hb⟩
  have HW1 := Lib.hid hb
  have HR1 := Lib.hid (HR0.out.below hb)
  clear hb HR0
  go_wp2_with fail
  refine (rright_some _ _ _ _ N hm0 hm512 _ HR1.out).mono ?_
  rintro e w2 ⟨rfl, hb⟩
  have HW2 := Lib.hid (HW1.out.trans (hb.mono HW1.out.size))
  have HR2 := Lib.hid (HR1.out.below hb)
  clear hb HW1 HR1
  rw [HD.out]
  go_wp2_with fail
  refine (rdepth_is _ _ _ _ N HT.out 59 h11 D HDt.out _ HR2.out).mono ?_
  rintro e wd ⟨rfl, hb⟩
  have HWd := Lib.hid (HW2.out.trans (hb.mono HW2.out.size))
  have HRd := Lib.hid (HR2.out.below hb)
  clear hb HW2 HR2
  go_wp2_with fail
  refine (right_val _ _ _ _ N hm512 _ HD.out _ HRd.out).mono ?_
  rintro e w3 ⟨rfl, hb⟩
  have HW3 := Lib.hid (HWd.out.trans (hb.mono HWd.out.size))
  have HR3 := Lib.hid (HRd.out.below hb)
  clear hb HWd HRd
  go_wp2_with fail
  refine (depth_val _ _ _ _ N HT.out D HDp.out _ HR3.out).mono ?_
  rintro e w4 ⟨rfl, hb⟩
  have HL := Lib.hid (HW3.out.trans (hb.mono HW3.out.size))
  clear hb HW3 HR3
  go_wp2_with fail
  refine (args_any _ _).mono ?_
  rintro e wy ⟨rfl, rfl⟩
  go_wp2_with fail
  refine (rargs_any _ _).mono ?_
  rintro e wz ⟨rfl, hb⟩
  have HZ := Lib.hid (HL.out.trans (hb.mono HL.out.size))
  clear hb
  go_wp2
  go_ret
  exact ⟨rfl, HZ.out⟩
end Go.Proofs.Ytligbocnakbabaa
