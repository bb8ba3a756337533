/-
  The walk of the law TreeParts: it answers true, at any list and any place.
-/
import Derived.Test.YtligbocnakbabaaAwk
import Derived.Test.YtligbocnakbabaaRkd
namespace Go.Proofs.Ytligbocnakbabaa
open Go.RowKit

theorem rdI.form {w : World} {v : Value} {l : List Int} (h : rdI w v l) : ∃ p cap, v = .slice p l.length cap ∧ ∀ j (_ : j < l.length), ∃ b, p = some ⟨b, 0, none⟩ ∧ b < w.heap.size ∧ w.cell? ⟨b, j, none⟩ = some (.int .i64 l[j]) := by
  rcases h with ⟨p, cap, rfl, rfl⟩ | ⟨b, cap, rfl, hl, hc⟩
  · exact ⟨p, cap, rfl, fun j hj => absurd hj (by simp)⟩
  · exact ⟨_, cap, rfl, fun j hj => ⟨b, rfl, hl, hc j hj⟩⟩
theorem kids_len (N : Nat → Nd) (i : Nat) : (kids N i).length ≤ 2 := by unfold kids; split <;> (try split) <;> simp
theorem first_q (b off n cap i : Nat) (N : Nat → Nd) (hn : n ≤ 1000) (hi : i < n) (w : World) (hr : rdN w b off n N) :
    Calls Try.prog 16 #[.slice (some ⟨b, off, none⟩) n cap, .int .i64 (i : Int)] w fun e w' => e = .returned (.int .i64 (fst N i)) ∧ w' = w :=
  (first_in b off n cap i N hn hi w hr).mono fun _ _ h => ⟨h.1, h.2.symm⟩

theorem first_qv (b off n cap i : Nat) (N : Nat → Nd) (hn : n ≤ 1000) (hi : i < n) (r : Int) (h : fst N i = r) (w : World) (hr : rdN w b off n N) :
    Calls Try.prog 16 #[.slice (some ⟨b, off, none⟩) n cap, .int .i64 (i : Int)] w fun e w' => e = .returned (.int .i64 r) ∧ w' = w := by
  rw [← h]; exact first_q b off n cap i N hn hi w hr

/-- The last line, behind the loop. -/
theorem last_in {i m : Int} (h : ¬ (0 ≤ i ∧ i < m)) : i < 0 ∨ m ≤ i := by omega

set_option maxRecDepth 100000 in
set_option maxHeartbeats 4000000 in
theorem parts_zero (p : Option Addr) (cap : Nat) (at_ : Int) (w : World) :
    Calls Try.prog 4 #[.slice p 0 cap, .int .i64 at_] w fun e w' => e = .returned (.bool true) ∧ Below w.heap.size w w' := by
  rcases p with _ | a
  · go_enter Try.func4, Try.ntmps4
    go_wp2_with fail
    refine (awake_any _).mono ?_
    rintro e w1 ⟨rfl, hb1⟩
    have HW1 := Lib.hid hb1
    clear hb1
    go_wp2_with fail
    refine (firsts_zero _ _ _).mono ?_
    rintro e w2 ⟨rfl, rfl⟩
    by_cases hat : 0 ≤ at_ ∧ at_ < (0 : Int)
    · obtain ⟨hat0, hat1⟩ := hat
      have d0 : decide (0 ≤ at_) = true := decide_eq_true hat0
      have d1 : decide (at_ < (0 : Int)) = true := decide_eq_true hat1
      go_wp2_with fail
      refine wp_loop_rounds 1 ?_
      rw [rounds_succ]
      go_wp2
      go_ret
      exact ⟨rfl, HW1.out⟩
    · have hout : at_ < 0 ∨ ((0 : Nat) : Int) ≤ at_ := by have := last_in hat; omega
      have HO := Lib.hid hout
      rcases Int.lt_or_le at_ 0 with hat0 | hat0
      · have d0 : decide (0 ≤ at_) = false := decide_eq_false (by omega)
        clear hat hout
        go_wp2_with fail
        refine wp_loop_rounds 1 ?_
        rw [rounds_succ]
        go_wp2_with fail
        refine (first_out _ 0 _ at_ HO.out _).mono ?_; rintro e w' ⟨rfl, rfl⟩
        go_wp2_with fail
        refine (kids_out _ 0 _ at_ HO.out _).mono ?_; rintro e w' ⟨rfl, rfl⟩
        go_wp2_with fail
        refine (part_out _ 0 _ at_ HO.out _).mono ?_; rintro e w' ⟨rfl, rfl⟩
        go_wp2
        go_ret
        exact ⟨rfl, HW1.out⟩
      · have d0 : decide (0 ≤ at_) = true := decide_eq_true hat0
        have d1 : decide (at_ < (0 : Int)) = false := decide_eq_false (by omega)
        clear hat hout
        go_wp2_with fail
        refine wp_loop_rounds 1 ?_
        rw [rounds_succ]
        go_wp2_with fail
        refine (first_out _ 0 _ at_ HO.out _).mono ?_; rintro e w' ⟨rfl, rfl⟩
        go_wp2_with fail
        refine (kids_out _ 0 _ at_ HO.out _).mono ?_; rintro e w' ⟨rfl, rfl⟩
        go_wp2_with fail
        refine (part_out _ 0 _ at_ HO.out _).mono ?_; rintro e w' ⟨rfl, rfl⟩
        go_wp2
        go_ret
        exact ⟨rfl, HW1.out⟩
  · go_enter Try.func4, Try.ntmps4
    go_wp2_with fail
    refine (awake_any _).mono ?_
    rintro e w1 ⟨rfl, hb1⟩
    have HW1 := Lib.hid hb1
    clear hb1
    go_wp2_with fail
    refine (firsts_zero _ _ _).mono ?_
    rintro e w2 ⟨rfl, rfl⟩
    by_cases hat : 0 ≤ at_ ∧ at_ < (0 : Int)
    · obtain ⟨hat0, hat1⟩ := hat
      have d0 : decide (0 ≤ at_) = true := decide_eq_true hat0
      have d1 : decide (at_ < (0 : Int)) = true := decide_eq_true hat1
      go_wp2_with fail
      refine wp_loop_rounds 1 ?_
      rw [rounds_succ]
      go_wp2
      go_ret
      exact ⟨rfl, HW1.out⟩
    · have hout : at_ < 0 ∨ ((0 : Nat) : Int) ≤ at_ := by have := last_in hat; omega
      have HO := Lib.hid hout
      rcases Int.lt_or_le at_ 0 with hat0 | hat0
      · have d0 : decide (0 ≤ at_) = false := decide_eq_false (by omega)
        clear hat hout
        go_wp2_with fail
        refine wp_loop_rounds 1 ?_
        rw [rounds_succ]
        go_wp2_with fail
        refine (first_out _ 0 _ at_ HO.out _).mono ?_; rintro e w' ⟨rfl, rfl⟩
        go_wp2_with fail
        refine (kids_out _ 0 _ at_ HO.out _).mono ?_; rintro e w' ⟨rfl, rfl⟩
        go_wp2_with fail
        refine (part_out _ 0 _ at_ HO.out _).mono ?_; rintro e w' ⟨rfl, rfl⟩
        go_wp2
        go_ret
        exact ⟨rfl, HW1.out⟩
      · have d0 : decide (0 ≤ at_) = true := decide_eq_true hat0
        have d1 : decide (at_ < (0 : Int)) = false := decide_eq_false (by omega)
        clear hat hout
        go_wp2_with fail
        refine wp_loop_rounds 1 ?_
        rw [rounds_succ]
        go_wp2_with fail
        refine (first_out _ 0 _ at_ HO.out _).mono ?_; rintro e w' ⟨rfl, rfl⟩
        go_wp2_with fail
        refine (kids_out _ 0 _ at_ HO.out _).mono ?_; rintro e w' ⟨rfl, rfl⟩
        go_wp2_with fail
        refine (part_out _ 0 _ at_ HO.out _).mono ?_; rintro e w' ⟨rfl, rfl⟩
        go_wp2
        go_ret
        exact ⟨rfl, HW1.out⟩

set_option maxRecDepth 100000 in
set_option maxHeartbeats 8000000 in
theorem parts_some (b off n cap : Nat) (N : Nat → Nd) (at_ : Int) (hn : n ≤ 60) (hcap : n ≤ cap) (w : World) (hr : rdN w b off n N) :
    Calls Try.prog 4 #[.slice (some ⟨b, off, none⟩) n cap, .int .i64 at_] w fun e w' => e = .returned (.bool true) ∧ Below w.heap.size w w' := by
  have HR0 := Lib.hid (hr.take n (by omega))
  have hmc : n ≤ cap := by omega
  have hm60 : n ≤ 1000 := by omega
  have hm61 : (n : Int) ≤ 1000 := by omega
  clear hr
  go_enter Try.func4, Try.ntmps4
  go_wp2_with fail
  refine (awake_any _).mono ?_
  rintro e w1 ⟨rfl, hb1⟩
  have HW1 := Lib.hid hb1
  have HR1 := Lib.hid (HR0.out.below hb1)
  clear hb1 HR0
  go_wp2_with fail
  refine (firsts_some _ _ _ _ _ hm60 _ HR1.out).mono ?_
  rintro e w2 ⟨v, rfl, hown, hb2⟩
  have HW2 := Lib.hid (HW1.out.trans (hb2.mono HW1.out.size))
  have HR := Lib.hid (HR1.out.below hb2)
  clear hb2 HW1 HR1
  have HO := Lib.hid hown
  clear hown
  obtain ⟨vp, vc, rfl, HG⟩ : ∃ vp vc, v = .slice vp n vc ∧ Hid (∀ q, q < n → ∃ g, vp = some ⟨g, 0, none⟩ ∧ g < w2.heap.size ∧ w2.cell? ⟨g, q, none⟩ = some (.int .i64 (fst N q))) := by
    rcases id HO.out.2 with ⟨rfl, hz⟩ | ⟨g, cp, cur, rfl, -⟩
    · exact ⟨none, 0, by rw [hz], Lib.hid fun q hq => by omega⟩
    · exact ⟨_, cp, rfl, Lib.hid fun q hq => ⟨g, rfl, (HO.out.lt g rfl).2, by rw [HO.out.cellAt q (by omega), fsts_get N n q hq]⟩⟩
  clear HO
  go_wp2_with fail
  go_loopw [6] (fun i wr => ∃ k : Nat, k ≤ n ∧ i = .int .i64 k ∧ Below w2.heap.size w2 wr) (fun i _ => n - (intOf i).toNat)
  case atStart => exact ⟨0, Nat.zero_le _, rfl, Below.refl _ _⟩
  case round =>
    obtain ⟨k, hk, rfl, hB⟩ := hrel
    obtain ⟨wo, rfl⟩ : ∃ wo : World, wo = wr := ⟨_, rfl⟩
    by_cases hlt : k < n
    · have HRo := Lib.hid (HR.out.below hB)
      obtain ⟨g, rfl, hg0, hg1⟩ := HG.out k hlt
      have hgl : g < wo.heap.size := Nat.lt_of_lt_of_le hg0 hB.size
      have hgc : wo.cell? ⟨g, k, none⟩ = some (.int .i64 (fst N k)) := by rw [hB.cell (p := ⟨g, k, none⟩) hg0]; exact hg1
      have h0 : (0 : Int) ≤ (k : Int) := by omega
      have h1 : (k : Int) < (n : Int) := by omega
      have hfb := fst_bd N k
      clear hg0 hg1 HG
      have HB := Lib.hid hB
      clear hB
      obtain ⟨fr, hfr⟩ : ∃ fr, fst N k = fr := ⟨_, rfl⟩
      rw [hfr] at hgc hfb
      have HF := Lib.hid hfr
      clear hfr
      rcases Int.lt_or_le fr 0 with hneg | hpos
      · have d0 : decide (fr < 0) = true := decide_eq_true hneg
        have hfn : Hid (fst N k < 0) := Lib.hid (by rw [HF.out]; exact hneg)
        go_wp2_with fail
        refine (kids_not _ _ _ _ _ N hm60 hlt hfn.out _ HRo.out).mono ?_; rintro e w' ⟨rfl, rfl⟩
        go_wp2_with fail
        refine (part_not _ _ _ _ _ N hm60 hlt hfn.out _ HRo.out).mono ?_; rintro e w' ⟨rfl, rfl⟩
        go_wp2_with fail
        go_quiet ((go_at_call 16; exact Calls.quiet_of_same (first_qv _ _ _ _ _ N hm60 hlt _ HF.out _ (HRo.out.drewN _))))
        go_wp2
        go_roundw
        case rel => exact ⟨k + 1, by omega, by go_num, below_drewN _ HB.out⟩
        case measure => simp [intOf]; omega
      · obtain ⟨f, rfl⟩ := Int.eq_ofNat_of_zero_le hpos
        have d0 : decide ((f : Int) < 0) = false := decide_eq_false (by omega)
        have hfp : Hid (0 ≤ fst N k) := Lib.hid (by rw [HF.out]; omega)
        have hfk : f ≤ k := by omega
        obtain ⟨ks, hks⟩ : ∃ ks, kids N k = ks := ⟨_, rfl⟩
        have hkl : ks.length ≤ 2 := by rw [← hks]; exact kids_len N k
        have HK := Lib.hid hks
        have f1 : (f : Int) ≤ (k : Int) + 1 := by omega
        have f2 : (k : Int) + 1 ≤ (n : Int) := by omega
        have f3 : ((k : Int) + 1).toNat = k + 1 := by omega
        clear hks hfb
        go_wp2_with fail
        refine (kids_is _ _ _ _ _ N hm60 hlt hfp.out _ HRo.out).mono ?_
        rintro e w3 ⟨v3, rfl, hv3, hb⟩
        rw [HK.out] at hv3
        have HR3 := Lib.hid (HRo.out.below hb)
        have HB3 := Lib.hid (HB.out.trans (hb.mono HB.out.size))
        have hgc3 : w3.cell? ⟨g, k, none⟩ = some (.int .i64 (f : Int)) := by rw [hb.cell (p := ⟨g, k, none⟩) hgl]; exact hgc
        have hgl3 : g < w3.heap.size := Nat.lt_of_lt_of_le hgl hb.size
        have HV3 := Lib.hid hv3
        clear hb HRo HB hgc hgl hv3
        go_wp2_with fail
        refine (part_is _ _ _ _ _ f N hm60 hlt hmc HF.out _ HR3.out).mono ?_
        rintro e w4 ⟨g4, c4, rfl, hg4, hb⟩
        have HR4 := Lib.hid (HR3.out.below hb)
        have HB4 := Lib.hid (HB3.out.trans (hb.mono HB3.out.size))
        have hgc4 : w4.cell? ⟨g, k, none⟩ = some (.int .i64 (f : Int)) := by rw [hb.cell (p := ⟨g, k, none⟩) hgl3]; exact hgc3
        have hgl4 : g < w4.heap.size := Nat.lt_of_lt_of_le hgl3 hb.size
        have HV4 := Lib.hid (HV3.out.below hb)
        have HP4 := Lib.hid hg4
        clear hb HR3 HB3 hgc3 hgl3 HV3 hg4
        go_wp2_with fail
        go_quiet ((go_at_call 16; exact Calls.quiet_of_same (first_qv _ _ _ _ _ N hm60 hlt _ HF.out _ (HR4.out.drewN _))))
        go_wp2_with fail
        refine (rkids_is _ _ _ _ _ N hm60 hlt hfp.out _ (HR4.out.drewN _)).mono ?_
        rintro e w5 ⟨v5, rfl, hv5, hb⟩
        rw [HK.out] at hv5
        have hb' : Below w4.heap.size w4 w5 := below_two (below_drewN _ (Below.refl _ _)) hb
        have HR5 := Lib.hid (HR4.out.below hb')
        have HB5 := Lib.hid (HB4.out.trans (hb'.mono HB4.out.size))
        have hgc5 : w5.cell? ⟨g, k, none⟩ = some (.int .i64 (f : Int)) := by rw [hb'.cell (p := ⟨g, k, none⟩) hgl4]; exact hgc4
        have HV5 := Lib.hid (HV4.out.below hb')
        have HP5 := Lib.hid (HP4.out.below hb')
        have HU5 := Lib.hid hv5
        clear hb hb' HR4 HB4 hgc4 hgl4 HV4 HP4 hv5
        obtain ⟨p3, c3, rfl, hc3⟩ := HV5.out.form
        obtain ⟨p5, c5, rfl, hc5⟩ := HU5.out.form
        have HC3 := Lib.hid hc3; have HC5 := Lib.hid hc5
        clear hc3 hc5 HV5 HU5
        go_wp2_with fail
        refine (same_is _ _ (k + 1 - f) (fun _ _ => rfl) (by omega) _ _ _ _ _ _ _ HP5.out (HR5.out.sub f (k + 1 - f) (by omega))).mono ?_
        rintro e w6 ⟨rfl, q6, rfl⟩
        clear HP5 HR5 hgc5
        go_wp2_with fail
        go_loopw [10] (fun j wr => ∃ x q : Nat, x ≤ ks.length ∧ j = .int .i64 x ∧ wr = w5.drewN q) (fun j _ => ks.length - (intOf j).toNat)
        case atStart => exact ⟨0, q6, Nat.zero_le _, rfl, rfl⟩
        case round =>
          obtain ⟨x, q, hx, rfl, rfl⟩ := hrel
          by_cases hxl : x < ks.length
          · obtain ⟨b3, rfl, -, y3⟩ := HC3.out x hxl
            obtain ⟨b5, rfl, -, y5⟩ := HC5.out x hxl
            obtain ⟨z, hz⟩ : ∃ z, ks[x] = z := ⟨_, rfl⟩
            rw [hz] at y3 y5
            have x0 : (0 : Int) ≤ (x : Int) := by omega
            have x1 : (x : Int) < (ks.length : Int) := by omega
            clear hz HC3 HC5
            go_wp2_with fail
            go_quiet (fail)
            go_wp2
            go_roundw
            case rel => exact ⟨x + 1, q + nq, by omega, by go_num, rfl⟩
            case measure => simp [intOf]; omega
          · have hxe : ¬ x < ks.length := hxl
            go_wp2
            go_roundw
            case rel => exact ⟨k + 1, by omega, by go_num, below_drewN _ HB5.out⟩
            case measure => simp [intOf]; omega
    · have hkm : ¬ k < n := hlt
      have hki : decide ((k : Int) < (n : Int)) = false := decide_eq_false (by omega)
      have HB := Lib.hid hB
      clear hB HG
      by_cases hat : 0 ≤ at_ ∧ at_ < (n : Int)
      · obtain ⟨hat0, hat1⟩ := hat
        have d0 : decide (0 ≤ at_) = true := decide_eq_true hat0
        have d1 : decide (at_ < (n : Int)) = true := decide_eq_true hat1
        go_wp2
        go_ret
        exact ⟨rfl, HW2.out.trans (HB.out.mono HW2.out.size)⟩
      · have hout : at_ < 0 ∨ ((n : Nat) : Int) ≤ at_ := by have := last_in hat; omega
        have HO := Lib.hid hout
        rcases Int.lt_or_le at_ 0 with hat0 | hat0
        · have d0 : decide (0 ≤ at_) = false := decide_eq_false (by omega)
          clear hat hout
          go_wp2_with fail
          refine (first_out _ n _ at_ HO.out _).mono ?_; rintro e w' ⟨rfl, rfl⟩
          go_wp2_with fail
          refine (kids_out _ n _ at_ HO.out _).mono ?_; rintro e w' ⟨rfl, rfl⟩
          go_wp2_with fail
          refine (part_out _ n _ at_ HO.out _).mono ?_; rintro e w' ⟨rfl, rfl⟩
          go_wp2
          go_ret
          exact ⟨rfl, HW2.out.trans (HB.out.mono HW2.out.size)⟩
        · have d0 : decide (0 ≤ at_) = true := decide_eq_true hat0
          have d1 : decide (at_ < (n : Int)) = false := decide_eq_false (by omega)
          clear hat hout
          go_wp2_with fail
          refine (first_out _ n _ at_ HO.out _).mono ?_; rintro e w' ⟨rfl, rfl⟩
          go_wp2_with fail
          refine (kids_out _ n _ at_ HO.out _).mono ?_; rintro e w' ⟨rfl, rfl⟩
          go_wp2_with fail
          refine (part_out _ n _ at_ HO.out _).mono ?_; rintro e w' ⟨rfl, rfl⟩
          go_wp2
          go_ret
          exact ⟨rfl, HW2.out.trans (HB.out.mono HW2.out.size)⟩
end Go.Proofs.Ytligbocnakbabaa
