/-
  The walk of the law TreeWhole: it answers true, at any list.
-/
import Derived.Test.YtligbocnakbabaaAwk
namespace Go.Proofs.Ytligbocnakbabaa
open Go.RowKit

theorem rdI_form {w : World} {v : Value} {l : List Int} (h : rdI w v l) : ∃ p cap, v = .slice p l.length cap ∧ ∀ j (_ : j < l.length), ∃ b, p = some ⟨b, 0, none⟩ ∧ b < w.heap.size ∧ w.cell? ⟨b, j, none⟩ = some (.int .i64 l[j]) := by
  rcases h with ⟨p, cap, rfl, rfl⟩ | ⟨b, cap, rfl, hl, hc⟩
  · exact ⟨p, cap, rfl, fun j hj => absurd hj (by simp)⟩
  · exact ⟨_, cap, rfl, fun j hj => ⟨b, rfl, hl, hc j hj⟩⟩
theorem part_len (b off n cap i f len : Nat) (N : Nat → Nd) (hn : n ≤ 1000) (hi : i < n) (hcap : n ≤ cap) (hf : fst N i = f) (hlen : i + 1 - f = len) (w : World) (hr : rdN w b off n N) :
    Calls Try.prog 15 #[.slice (some ⟨b, off, none⟩) n cap, .int .i64 (i : Int)] w fun e w' => ∃ g c, e = .returned (.slice (some ⟨g, 0, none⟩) len c) ∧ rdN w' g 0 len (fun j => N (f + j)) ∧ Below w.heap.size w w' := by
  rw [← hlen]; exact part_is b off n cap i f N hn hi hcap hf w hr
theorem depth_val (b off n cap : Nat) (N : Nat → Nd) (ht : tree N n) (D : Int) (hD : dpt N (n - 1) = D) (w : World) (hr : rdN w b off n N) :
    Calls Try.prog 10 #[.slice (some ⟨b, off, none⟩) n cap] w fun e w' => e = .returned (.int .i64 D) ∧ Below w.heap.size w w' := by
  rw [← hD]; exact depth_is b off n cap N ht w hr
theorem right_val (b off n cap : Nat) (N : Nat → Nd) (hn : n ≤ 512) (r : Bool) (h : decide (tree N n) = r) (w : World) (hr : rdN w b off n N) :
    Calls Try.prog 9 #[.slice (some ⟨b, off, none⟩) n cap] w fun e w' => e = .returned (.bool r) ∧ Below w.heap.size w w' := by
  rw [← h]; exact right_some b off n cap N hn w hr

set_option maxRecDepth 100000 in
set_option maxHeartbeats 4000000 in
theorem whole_zero (p : Option Addr) (cap : Nat) (w : World) :
    Calls Try.prog 5 #[.slice p 0 cap] w fun e w' => e = .returned (.bool true) ∧ Below w.heap.size w w' := by
  have HT : Hid (¬ tree N0 0) := Lib.hid (by decide)
  have HD : Hid (decide (tree N0 0) = false) := Lib.hid (by decide)
  rcases p with _ | a
  · go_enter Try.func5, Try.ntmps5
    go_wp2_with fail
    refine (awake_any _).mono ?_
    rintro e w1 ⟨rfl, hb1⟩
    have HW1 := Lib.hid hb1
    clear hb1
    go_wp2_with fail
    refine (right_zero _ _ N0 _).mono ?_
    rintro e w2 ⟨rfl, hb⟩
    rw [HD.out]
    have HW2 := Lib.hid (HW1.out.trans (hb.mono HW1.out.size))
    clear hb HW1
    go_wp2_with fail
    refine (depth_not _ N0 0 HT.out _ (right_zero _ _ N0 _)).mono ?_
    rintro e w3 ⟨rfl, hb⟩
    have HW3 := Lib.hid (HW2.out.trans (hb.mono HW2.out.size))
    clear hb HW2
    go_wp2
    go_ret
    exact ⟨rfl, HW3.out⟩
  · go_enter Try.func5, Try.ntmps5
    go_wp2_with fail
    refine (awake_any _).mono ?_
    rintro e w1 ⟨rfl, hb1⟩
    have HW1 := Lib.hid hb1
    clear hb1
    go_wp2_with fail
    refine (right_zero _ _ N0 _).mono ?_
    rintro e w2 ⟨rfl, hb⟩
    rw [HD.out]
    have HW2 := Lib.hid (HW1.out.trans (hb.mono HW1.out.size))
    clear hb HW1
    go_wp2_with fail
    refine (depth_not _ N0 0 HT.out _ (right_zero _ _ N0 _)).mono ?_
    rintro e w3 ⟨rfl, hb⟩
    have HW3 := Lib.hid (HW2.out.trans (hb.mono HW2.out.size))
    clear hb HW2
    go_wp2
    go_ret
    exact ⟨rfl, HW3.out⟩

set_option maxRecDepth 100000 in
set_option maxHeartbeats 4000000 in
theorem whole_not (b off n cap : Nat) (N : Nat → Nd) (hn : n ≤ 60) (hcap : n ≤ cap) (ht : ¬ tree N n) (w : World) (hr : rdN w b off n N) :
    Calls Try.prog 5 #[.slice (some ⟨b, off, none⟩) n cap] w fun e w' => e = .returned (.bool true) ∧ Below w.heap.size w w' := by
  have HT := Lib.hid ht
  have HD : Hid (decide (tree N n) = false) := Lib.hid (decide_eq_false ht)
  clear ht
  have HR0 := Lib.hid (hr.take n (by omega))
  have hmc : n ≤ cap := by omega
  have hm60 : n ≤ 1000 := by omega
  have hm512 : n ≤ 512 := by omega
  have hm61 : (n : Int) ≤ 1000 := by omega
  clear hr
  go_enter Try.func5, Try.ntmps5
  go_wp2_with fail
  refine (awake_any _).mono ?_
  rintro e w1 ⟨rfl, hb1⟩
  have HW1 := Lib.hid hb1
  have HR1 := Lib.hid (HR0.out.below hb1)
  clear hb1 HR0
  go_wp2_with fail
  refine (right_some _ _ _ _ _ hm512 _ HR1.out).mono ?_
  rintro e w2 ⟨rfl, hb2⟩
  have HW2 := Lib.hid (HW1.out.trans (hb2.mono HW1.out.size))
  have HR := Lib.hid (HR1.out.below hb2)
  clear hb2 HW1 HR1
  rw [HD.out]
  go_wp2_with fail
  refine (depth_not _ N n HT.out _ (right_some _ _ _ _ _ hm512 _ HR.out)).mono ?_
  rintro e w3 ⟨rfl, hb⟩
  have HW3 := Lib.hid (HW2.out.trans (hb.mono HW2.out.size))
  clear hb HW2
  go_wp2
  go_ret
  exact ⟨rfl, HW3.out⟩

set_option maxRecDepth 100000 in
set_option maxHeartbeats 4000000 in
theorem wholeb_not (b off n cap : Nat) (N : Nat → Nd) (hn : 60 < n) (hcap : n ≤ cap) (ht : ¬ tree N 60) (w : World) (hr : rdN w b off n N) :
    Calls Try.prog 5 #[.slice (some ⟨b, off, none⟩) n cap] w fun e w' => e = .returned (.bool true) ∧ Below w.heap.size w w' := by
  have HT := Lib.hid ht
  have HD : Hid (decide (tree N 60) = false) := Lib.hid (decide_eq_false ht)
  clear ht
  have HR0 := Lib.hid (hr.take 60 (by omega))
  have hmc : 60 ≤ cap := by omega
  have hm60 : 60 ≤ 1000 := by omega
  have hm512 : 60 ≤ 512 := by omega
  have hm61 : (60 : Int) ≤ 1000 := by omega
  clear hr
  go_enter Try.func5, Try.ntmps5
  go_wp2_with fail
  refine (awake_any _).mono ?_
  rintro e w1 ⟨rfl, hb1⟩
  have HW1 := Lib.hid hb1
  have HR1 := Lib.hid (HR0.out.below hb1)
  clear hb1 HR0
  go_wp2_with fail
  refine (right_some _ _ _ _ _ hm512 _ HR1.out).mono ?_
  rintro e w2 ⟨rfl, hb2⟩
  have HW2 := Lib.hid (HW1.out.trans (hb2.mono HW1.out.size))
  have HR := Lib.hid (HR1.out.below hb2)
  clear hb2 HW1 HR1
  rw [HD.out]
  go_wp2_with fail
  refine (depth_not _ N 60 HT.out _ (right_some _ _ _ _ _ hm512 _ HR.out)).mono ?_
  rintro e w3 ⟨rfl, hb⟩
  have HW3 := Lib.hid (HW2.out.trans (hb.mono HW2.out.size))
  clear hb HW2
  go_wp2
  go_ret
  exact ⟨rfl, HW3.out⟩
end Go.Proofs.Ytligbocnakbabaa
