/-
  The walk of the law AlphaJoins, over whatever Join and Firsts are that do as the page says.
-/
import Derived.Test.YthmkjdpmpcjinaaPk46
import Derived.Test.YthmkjdpmpcjinaaPk49
import Derived.Test.YthmkjdpmpcjinaaPk32
import Derived.Deep.RegionHeldLaw
namespace Go.Proofs.Ythmkjdpmpcjinaa
open Go.RowKit

set_option maxRecDepth 100000 in
set_option maxHeartbeats 4000000 in
theorem joins_any (hJ : JoiC) (hF : FrsC) (q : Option Addr) (n c ka : Nat) (hka : ka = min n 80) (hcn : n ≤ c) (l : Nat → Int) (q' : Option Addr) (n' c' kb : Nat) (hkb : kb = min n' 80) (hcn' : n' ≤ c') (l' : Nat → Int) (width : Int) (w : World) (hwl : ∀ j, j < ka → wfI (l j)) (hwl' : ∀ j, j < kb → wfI (l' j)) (hl : rdL w q ka l) (hl' : rdL w q' kb l') :
    Calls Try.prog 4 #[.slice q n c, .slice q' n' c', .int .i64 width] w fun e w' => e = .returned (.bool true) ∧ Below w.heap.size w w' := by
  have HAw := Lib.hid (awake10 hJ hF)
  have HWl := Lib.hid hwl; have HWl' := Lib.hid hwl'; have HL := Lib.hid hl; have HL' := Lib.hid hl'; have HJt := Lib.hid hJ; have HFt := Lib.hid hF
  have h1 : (if (80 : Int) < (n : Int) then (80 : Int) else (n : Int)) = (ka : Int) := by split <;> omega
  have h2 : (if (80 : Int) < (n' : Int) then (80 : Int) else (n' : Int)) = (kb : Int) := by split <;> omega
  have e1 : min (n : Int) 80 = (ka : Int) := by omega
  have e2 : min (n' : Int) 80 = (kb : Int) := by omega
  have H1 := Lib.hid h1; have H2 := Lib.hid h2
  have k0 : (0 : Int) ≤ (ka : Int) := by omega
  have k1 : (ka : Int) ≤ (c : Int) := by omega
  have m0 : (0 : Int) ≤ (kb : Int) := by omega
  have m1 : (kb : Int) ≤ (c' : Int) := by omega
  have hka8 : ka ≤ 80 := by omega
  have hkb8 : kb ≤ 80 := by omega
  obtain ⟨W, hW⟩ : ∃ W, (min width 259).toNat = W := ⟨_, rfl⟩
  have HWW := Lib.hid hW
  have hW9 : W ≤ 259 := by omega
  clear hwl hwl' hJ hF hl hl' h1 h2 hka hkb hW
  go_enter Try.func4, Try.ntmps4
  go_wp2_with fail
  refine (HAw.out _).mono ?_
  rintro e w1 ⟨rfl, hb⟩
  have HB1 := Lib.hid hb
  clear hb HAw
  go_wp2_with fail
  go_region_held_law (fun _ => True) (exact trivial) (first | (refine wp_min9 _ _ rfl (n : Int) 80 (ka : Int) rfl rfl H1.out ?_) | (refine wp_min9 _ _ rfl (n' : Int) 80 (kb : Int) rfl rfl H2.out ?_))
  all_goals
    have HB2 := Lib.hid HB1.out.drew
    have HL2 := Lib.hid (HL.out.below HB2.out); have HL2' := Lib.hid (HL'.out.below HB2.out)
    have HJ2 := Lib.hid (HJt.out q ka c l q' kb c' l' _ (by omega) (by omega) HWl.out HWl'.out HL2.out HL2'.out)
    clear HB1 HJt
    go_wp2_with fail
    refine HJ2.out.mono ?_
    rintro e w3 ⟨hyes, hno⟩
    have main : ∃ q3 n3 c3 l3, ∃ k3 : Int, e = .returned (.tuple #[.slice q3 n3 c3, .int .i64 k3]) ∧ rdL w3 q3 n3 l3 ∧ Below w1.drew.heap.size w1.drew w3 ∧ (ka = kb → n3 = ka ∧ k3 = ((cntT (isH (joR l l')) ka : Nat) : Int) ∧ ∀ j, j < ka → l3 j = ((clA (joR l l') j : Nat) : Int)) ∧ (ka ≠ kb → n3 = 0 ∧ k3 = 0) := by
      by_cases h : ka = kb
      · obtain ⟨q3, c3, l3, e3, r3, v3, b3⟩ := hyes h
        exact ⟨q3, ka, c3, l3, _, e3, r3, b3, fun _ => ⟨rfl, rfl, v3⟩, fun hn => absurd h hn⟩
      · obtain ⟨q3, c3, l3, e3, r3, v3, b3⟩ := hno h
        exact ⟨q3, 0, c3, l3, _, e3, r3, b3, fun hn => absurd hn h, fun _ => ⟨rfl, rfl⟩⟩
    obtain ⟨q3, n3, c3, l3, k3, rfl, r3, b3, hy3, hn3⟩ := main
    have HB3 := Lib.hid (HB2.out.trans (b3.mono HB2.out.size))
    have HR3 := Lib.hid r3; have HY3 := Lib.hid hy3; have HN3 := Lib.hid hn3
    have HF3 := Lib.hid (HFt.out q ka c l width w3 (by omega) (HL.out.below HB3.out))
    clear hyes hno r3 b3 hy3 hn3 HJ2 HFt HB2 HL2 HL2'
    go_wp2_with fail
    refine HF3.out.mono ?_
    rintro e w4 ⟨q4, c4, l4, rfl, r4, v4, b4⟩
    rw [HWW.out] at r4 v4 ⊢
    have HB4 := Lib.hid (HB3.out.trans (b4.mono HB3.out.size))
    have HR4 := Lib.hid r4; have HV4 := Lib.hid v4
    have HR3' := Lib.hid (HR3.out.below b4)
    have hff := firsts10 q ka c l width (by omega) w4 (HL.out.below HB4.out)
    rw [HWW.out] at hff
    have HFF := Lib.hid hff
    clear r4 v4 b4 hff HF3 HB3 HR3
    go_wp2_with fail
    refine HFF.out.mono ?_
    rintro e w5 ⟨q5, c5, rfl, r5, b5⟩
    have HB5 := Lib.hid (HB4.out.trans (b5.mono HB4.out.size))
    have HR3 := Lib.hid (HR3'.out.below b5)
    have HSm := Lib.hid (same10 q4 W c4 l4 q5 W c5 _ true ⟨fun _ => ⟨rfl, fun j hj => HV4.out j hj⟩, fun _ => rfl⟩ (by omega) (by omega) w5 (HR4.out.below b5) r5)
    clear r5 b5 HFF HB4 HR4 HR3'
    go_wp2_with fail
    refine HSm.out.mono ?_
    rintro e w6 ⟨rfl, b6⟩
    have HB6 := Lib.hid (HB5.out.trans (b6.mono HB5.out.size))
    have HR6 := Lib.hid (HR3.out.below b6)
    clear b6 HSm HB5 HR3
    by_cases hab : ka = kb
    · subst hab
      obtain ⟨rfl, rfl, v3⟩ := HY3.out rfl
      have hb0 : ((n3 : Int) != (n3 : Int)) = false := by simp
      have HV3 := Lib.hid v3
      have HJo := Lib.hid (join10 q n3 c l q' c' l' (by omega) w6 (HL.out.below HB6.out) (HL'.out.below HB6.out))
      obtain ⟨ct, hct⟩ : ∃ ct, cntT (isH (joR l l')) n3 = ct := ⟨_, rfl⟩
      rw [hct] at HJo ⊢
      clear v3 HY3 HN3 hct
      go_wp2_with fail
      refine HJo.out.mono ?_
      rintro e w7 ⟨q7, c7, rfl, r7, b7⟩
      have HB7 := Lib.hid (HB6.out.trans (b7.mono HB6.out.size))
      have HS7 := Lib.hid (same10 q3 n3 c3 l3 q7 n3 c7 _ true ⟨fun _ => ⟨rfl, fun j hj => HV3.out j hj⟩, fun _ => rfl⟩ (by omega) (by omega) w7 (HR6.out.below b7) r7)
      clear r7 b7 HJo HB6 HR6
      go_wp2_with fail
      refine HS7.out.mono ?_
      rintro e w8 ⟨rfl, b8⟩
      have HB8 := Lib.hid (HB7.out.trans (b8.mono HB7.out.size))
      clear b8 HS7 HB7
      go_wp2_with fail
      go_returns
      exact ⟨rfl, HB8.out⟩
    · obtain ⟨rfl, rfl⟩ := HN3.out hab
      have hb0 : ((ka : Int) != (kb : Int)) = true := by simp; omega
      clear HY3 HN3
      go_wp2_with fail
      go_returns
      exact ⟨rfl, HB6.out⟩
end Go.Proofs.Ythmkjdpmpcjinaa
