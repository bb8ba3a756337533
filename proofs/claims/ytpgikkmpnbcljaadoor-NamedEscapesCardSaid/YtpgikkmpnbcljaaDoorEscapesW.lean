/-
  The walk of named's Dot, and of the law NamedEscapes: it answers true, at any byte, where the table stands as it is laid.
-/
import Derived.Test.YtpgikkmpnbcljaaDoorAwaken
import Derived.Test.YtpgikkmpnbcljaaDoorResc
namespace Go.Proofs.YtpgikkmpnbcljaaDoor
open Go.RowKit

/-- All bytes but the line feed. -/
def dotF (k : Nat) : Bool := !decide (k = 10)
theorem dot_count : popTo dotF 0 256 = 255 := by decide +kernel
set_option maxRecDepth 100000 in
set_option maxHeartbeats 1000000 in
theorem dot_any (w : World) : Calls Tryd.prog 13 #[] w fun e w' => e = .returned (sv dotF) ∧ Below w.heap.size w w' := by
  have e0 := (isSet.newNone w).alloc (.cells #[.int .u8 10] 5)
  have hW : Below w.heap.size w ((w.alloc (.cells #[.int .u64 0, .int .u64 0, .int .u64 0, .int .u64 0] 25)).alloc (.cells #[.int .u8 10] 5)) := ((Below.refl _ _).alloc (Nat.le_refl _) _).alloc (by simp) _
  have HW := Lib.hid hW; have E0 := Lib.hid e0
  clear hW e0
  go_enter Tryd.func13, Tryd.ntmps13
  go_wp2_with fail
  refine (of_one 10 (by decide) _ _ (by simp) (by simp [go_sem])).mono ?_
  rintro e w1 ⟨rfl, hb⟩
  have hW := HW.out.trans (hb.mono HW.out.size)
  have e0 := E0.out.below hb E0.out.lt
  clear hb HW E0
  have HW := Lib.hid hW; have E0 := Lib.hid e0
  clear hW e0
  go_wp2_with fail
  refine (not_lit _ _).mono ?_
  rw [show (fun k => !decide (k = 10)) = dotF from rfl]
  rintro e w2 ⟨rfl, hb⟩
  have hW := HW.out.trans (hb.mono HW.out.size)
  have e0 := E0.out.below hb E0.out.lt
  clear hb HW E0
  have l9 : w.heap.size < w2.heap.size := e0.lt
  obtain ⟨r0, r1, r2, r3⟩ := e0.free
  obtain ⟨q0, q1, q2, q3⟩ := e0.cells
  have HR := Lib.hid (below_set4 (c := w.heap.size) hW (Nat.le_refl _) (.int .u64 (wd dotF 0 : Int)) (.int .u64 (wd dotF 1 : Int)) (.int .u64 (wd dotF 2 : Int)) (.int .u64 (wd dotF 3 : Int)))
  have Z := Lib.hid (e0.stored dotF).cells
  clear e0 hW
  go_wp2
  refine bodyPost_ret (v := sv dotF) (by simp [results, Tryd.results13, go_sem, Z.out]) rfl ⟨rfl, HR.out⟩

set_option maxRecDepth 100000 in
set_option maxHeartbeats 8000000 in
theorem escapes_gen (c : Nat) (hc : c < 256) (F : Nat → Bool) (ok : Bool)
    (hE : ∀ w, Tabbed w → Calls Tryd.prog 10 #[.int .u8 (c : Int)] w fun e w' => e = .returned (.tuple #[sv F, .bool ok]) ∧ Below w.heap.size w w')
    (hR : ∀ w, Calls Tryd.prog 11 #[.int .i64 (c : Int)] w fun e w' => e = .returned (.tuple #[sv F, .bool ok]) ∧ Below w.heap.size w w')
    (w : World) (hT : Tabbed w) :
    Calls Tryd.prog 4 #[.int .u8 (c : Int)] w fun e w' => e = .returned (.bool true) ∧ Below w.heap.size w w' := by
  have heq := eq_set
  have hwr : IntKind.i64.wrap (c : Int) = (c : Int) := by rw [IntKind.wrap_i64]; omega
  obtain ⟨v, hv1, hv2⟩ : ∃ v, dotF c = v ∧ ((c : Int) != 10) = v := ⟨_, rfl, by unfold dotF; rw [Bool.eq_iff_iff]; simp; omega⟩
  have HV := Lib.hid hv1
  clear hv1
  have HE := Lib.hid hE; have HR := Lib.hid hR
  clear hE hR
  go_enter Tryd.func4, Tryd.ntmps4
  go_wp2_with fail
  refine (awaken_any _ hT).mono ?_
  rintro e w0 ⟨rfl, hb0⟩
  have HW := Lib.hid hb0
  have HT := Lib.hid (hT.to hb0)
  clear hb0 hT
  go_wp2_with fail
  refine (HE.out _ HT.out).mono ?_
  rintro e w1 ⟨rfl, hb1⟩
  have s1 := isSet.new w1 F
  have hW1 := (HW.out.trans (hb1.mono HW.out.size)).alloc (Nat.le_trans HW.out.size hb1.size) (.cells #[.int .u64 (wd F 0 : Int), .int .u64 (wd F 1 : Int), .int .u64 (wd F 2 : Int), .int .u64 (wd F 3 : Int)] 25)
  have HW1 := Lib.hid hW1; have S1 := Lib.hid s1
  clear hb1 hW1 s1 HW HT HE
  go_wp2_with fail
  refine (HR.out _).mono ?_
  rintro e w2 ⟨rfl, hb2⟩
  have s2 := isSet.new w2 F
  have s1 := (S1.out.below hb2 S1.out.lt).alloc (.cells #[.int .u64 (wd F 0 : Int), .int .u64 (wd F 1 : Int), .int .u64 (wd F 2 : Int), .int .u64 (wd F 3 : Int)] 25)
  have hW2 := (HW1.out.trans (hb2.mono HW1.out.size)).alloc (Nat.le_trans HW1.out.size hb2.size) (.cells #[.int .u64 (wd F 0 : Int), .int .u64 (wd F 1 : Int), .int .u64 (wd F 2 : Int), .int .u64 (wd F 3 : Int)] 25)
  have l1 : w1.heap.size < w2.heap.size := Nat.lt_of_lt_of_le S1.out.lt hb2.size
  have HW2 := Lib.hid hW2
  obtain ⟨p0, p1, p2, p3⟩ := (S1.out.below hb2 S1.out.lt).cells
  clear hb2 hW2 HW1 S1 HR s1 s2
  go_wp2_with fail
  refine (dot_any _).mono ?_
  rintro e w3 ⟨rfl, hb3⟩
  have HW3 := Lib.hid (HW2.out.trans (hb3.mono HW2.out.size))
  clear HW2 hb3 p0 p1 p2 p3
  go_wp2_with fail
  refine (has_lit dotF c hc _).mono ?_
  rw [HV.out]
  rintro e w4 ⟨rfl, hb4⟩
  have HW4 := Lib.hid (HW3.out.trans (hb4.mono HW3.out.size))
  clear HW3 hb4
  go_wp2_with fail
  refine (dot_any _).mono ?_
  rintro e w5 ⟨rfl, hb5⟩
  have HW5 := Lib.hid (HW4.out.trans (hb5.mono HW4.out.size))
  clear HW4 hb5
  go_wp2_with fail
  refine (count_lit dotF _).mono ?_
  rw [dot_count]
  rintro e w6 ⟨rfl, hb6⟩
  have HW6 := Lib.hid (HW5.out.trans (hb6.mono HW5.out.size))
  clear HW5 hb6
  go_wp2
  go_ret
  exact ⟨rfl, HW6.out⟩

theorem escapes_walk (c : Nat) (hc : c < 256) (w : World) (hT : Tabbed w) :
    Calls Tryd.prog 4 #[.int .u8 (c : Int)] w fun e w' => e = .returned (.bool true) ∧ Below w.heap.size w w' := by
  by_cases h1 : c = 110
  · subst h1; exact escapes_gen 110 hc _ _ (fun w h => esc_n w h) (fun w => resc_n w) w hT
  by_cases h2 : c = 116
  · subst h2; exact escapes_gen 116 hc _ _ (fun w h => esc_t w h) (fun w => resc_t w) w hT
  by_cases h3 : c = 114
  · subst h3; exact escapes_gen 114 hc _ _ (fun w h => esc_r w h) (fun w => resc_r w) w hT
  by_cases h4 : c = 100
  · subst h4; exact escapes_gen 100 hc _ _ (fun w h => esc_d w h) (fun w => resc_d w) w hT
  by_cases h5 : c = 115
  · subst h5; exact escapes_gen 115 hc _ _ (fun w h => esc_s w h) (fun w => resc_s w) w hT
  by_cases h6 : c = 119
  · subst h6; exact escapes_gen 119 hc _ _ (fun w h => esc_w w h) (fun w => resc_w w) w hT
  by_cases h7 : c = 68
  · subst h7; exact escapes_gen 68 hc _ _ (fun w h => esc_nd w h) (fun w => resc_nd w) w hT
  by_cases h8 : c = 83
  · subst h8; exact escapes_gen 83 hc _ _ (fun w h => esc_ns w h) (fun w => resc_ns w) w hT
  by_cases h9 : c = 87
  · subst h9; exact escapes_gen 87 hc _ _ (fun w h => esc_nw w h) (fun w => resc_nw w) w hT
  have g : ∀ n : Nat, c ≠ n → ((c : Int) == (n : Int)) = false := fun n h => by simp; omega
  cases ha : isA c
  · exact escapes_gen c hc _ _ (fun w h => esc_self c hc (g 110 h1) (g 116 h2) (g 114 h3) (g 100 h4) (g 115 h5) (g 119 h6) (g 68 h7) (g 83 h8) (g 87 h9) (by rw [aln_ref c hc, ha]) w h)
      (fun w => resc_self c hc (g 110 h1) (g 116 h2) (g 114 h3) (g 100 h4) (g 115 h5) (g 119 h6) (g 68 h7) (g 83 h8) (g 87 h9) (Lib.hid ha) w) w hT
  · exact escapes_gen c hc _ _ (fun w h => esc_none c hc (g 110 h1) (g 116 h2) (g 114 h3) (g 100 h4) (g 115 h5) (g 119 h6) (g 68 h7) (g 83 h8) (g 87 h9) (by rw [aln_ref c hc, ha]) w h)
      (fun w => resc_none c hc (g 110 h1) (g 116 h2) (g 114 h3) (g 100 h4) (g 115 h5) (g 119 h6) (g 68 h7) (g 83 h8) (g 87 h9) (Lib.hid ha) w) w hT
end Go.Proofs.YtpgikkmpnbcljaaDoor
