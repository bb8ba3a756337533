/-
  The walk of the law TreeWhole: it answers true, at any list.
  The walk of the reference's Depth: by recursion over the arguments.
-/
import Derived.Test.YtgjpmfdiidkdnaaGreatDoorPk48
import Derived.Test.YtgjpmfdiidkdnaaGreatDoorPk49
namespace Go.Proofs.YtgjpmfdiidkdnaaGreatDoor
open Go.RowKit

theorem rdI_form {w : World} {v : Value} {l : List Int} (h : rdI w v l) : ∃ p cap, v = .slice p l.length cap ∧ ∀ j (_ : j < l.length), ∃ b, p = some ⟨b, 0, none⟩ ∧ b < w.heap.size ∧ w.cell? ⟨b, j, none⟩ = some (.int .i64 l[j]) := by
  rcases h with ⟨p, cap, rfl, rfl⟩ | ⟨b, cap, rfl, hl, hc⟩
  · exact ⟨p, cap, rfl, fun j hj => absurd hj (by simp)⟩
  · exact ⟨_, cap, rfl, fun j hj => ⟨b, rfl, hl, hc j hj⟩⟩
theorem right_val (b off n cap : Nat) (N : Nat → Nd) (hn : n ≤ 512) (r : Bool) (h : decide (tree N n) = r) (w : World) (hr : rdN w b off n N) :
    Calls Tryz.prog 15 #[.slice (some ⟨b, off, none⟩) n cap] w fun e w' => e = .returned (.bool r) ∧ Below w.heap.size w w' := by
  rw [← h]; exact right_some b off n cap N hn w hr

end Go.Proofs.YtgjpmfdiidkdnaaGreatDoor

namespace Go.Proofs.YtgjpmfdiidkdnaaGreatDoor
open Go.RowKit

theorem dpt_bd (N : Nat → Nd) (i : Nat) : dpt N i ≤ i + 1 := by
  have h := mx_le N (i + 1)
  rw [stk_succ] at h
  simp only [mx] at h
  omega

set_option maxRecDepth 100000 in
set_option maxHeartbeats 4000000 in
theorem rdepth_is (b off n cap : Nat) (N : Nat → Nd) (ht : tree N n) : ∀ i, i < n → ∀ (D : Int), dpt N i = D → ∀ (w : World), rdN w b off n N →
    Calls Tryz.prog 9 #[.slice (some ⟨b, off, none⟩) n cap, .int .i64 (i : Int)] w fun e w' => e = .returned (.int .i64 D) ∧ Below w.heap.size w w' := by
  intro i
  induction i using Nat.strongRecOn with
  | ind i ih =>
  intro hi D hD w hr
  have hn := ht.1
  have hm60 : n ≤ 1000 := by omega
  have IH := Lib.hid ih
  have HR := Lib.hid hr
  have hg := ht.2.1
  have hfp := ((tree_iff.1 ht).2.2.1 i hi).1
  have HFP := Lib.hid hfp
  have HKB := Lib.hid (kids_back hfp)
  have HG := Lib.hid hg
  have HD := Lib.hid hD
  have hdb := dpt_bd N i
  rw [hD] at hdb
  have hib : (i : Int) < 1000 := by omega
  clear ih hr hfp hg ht hD
  go_enter Tryz.func9, Tryz.ntmps9
  go_wp2_with fail
  refine (rkids_is _ _ _ _ _ N hm60 hi HFP.out _ HR.out).mono ?_
  rintro e w1 ⟨v, rfl, hv, hb⟩
  have HR1 := Lib.hid (HR.out.below hb)
  have HB1 := Lib.hid hb
  clear hb HR
  rcases HKB.out with ⟨ha, hks, -⟩ | ⟨ha, hi0, hks, -, -⟩ | ⟨ha, f, hf0, hfi, hf1, hks, -, -⟩
  · rw [hks] at hv
    obtain ⟨p, c, rfl, -⟩ := rdI_form hv
    have HV : Hid (D = 1) := Lib.hid (by rw [← HD.out]; exact dpt_zero ha)
    clear ha hks hv HKB
    go_wp2_with fail
    refine wp_loop_rounds 1 ?_
    rw [rounds_succ]; go_wp2
    go_ret
    exact ⟨by rw [HV.out] <;> rfl, HB1.out⟩
  · obtain ⟨j, rfl⟩ : ∃ j, i = j + 1 := ⟨i - 1, by omega⟩
    rw [hks, show ((j + 1 : Nat) : Int) - 1 = (j : Int) by omega] at hv
    obtain ⟨p, c, rfl, hc⟩ := rdI_form hv
    obtain ⟨g, rfl, -, hgc⟩ := hc 0 (by simp)
    have hgc : w1.cell? ⟨g, 0, none⟩ = some (.int .i64 (j : Int)) := hgc
    obtain ⟨E, hE⟩ : ∃ E, dpt N j = E := ⟨_, rfl⟩
    have hE1 : 1 ≤ E := by rw [← hE]; exact dpt_pos N j
    have hE2 := dpt_bd N j
    rw [hE] at hE2
    have HE := Lib.hid hE
    have HV : Hid (D = E + 1) := Lib.hid (by rw [← HD.out, dpt_one (by omega) ha, show j + 1 - 1 = j by omega, hE]; omega)
    clear ha hks hv HKB hc hE
    have x1 : max 0 E = E := by omega
    go_wp2_with fail
    refine wp_loop_rounds 2 ?_
    rw [rounds_succ]; go_wp2_with fail
    refine (IH.out j (by omega) (by omega) E HE.out _ HR1.out).mono ?_
    rintro e w2 ⟨rfl, hb⟩
    have HB2 := Lib.hid (HB1.out.trans (hb.mono HB1.out.size))
    clear hb HB1 HR1 hgc
    go_wp2_with fail
    rw [rounds_succ]; go_wp2
    go_ret
    exact ⟨by rw [HV.out] <;> rfl, HB2.out⟩
  · obtain ⟨j, rfl⟩ : ∃ j, i = j + 1 := ⟨i - 1, by omega⟩
    obtain ⟨q, rfl⟩ : ∃ q, f = q + 1 := ⟨f - 1, by omega⟩
    rw [hks, show ((j + 1 : Nat) : Int) - 1 = (j : Int) by omega, show ((q + 1 : Nat) : Int) - 1 = (q : Int) by omega] at hv
    obtain ⟨p, c, rfl, hc⟩ := rdI_form hv
    obtain ⟨g, rfl, hgl, hgc⟩ := hc 0 (by simp)
    have hgc : w1.cell? ⟨g, 0, none⟩ = some (.int .i64 (q : Int)) := hgc
    obtain ⟨g', hg', -, hgd⟩ := hc 1 (by simp)
    obtain rfl : g = g' := by simpa using hg'
    have hgd : w1.cell? ⟨g, 1, none⟩ = some (.int .i64 (j : Int)) := hgd
    obtain ⟨E, hE⟩ : ∃ E, dpt N q = E := ⟨_, rfl⟩
    obtain ⟨F, hF⟩ : ∃ F, dpt N j = F := ⟨_, rfl⟩
    have hE1 : 1 ≤ E := by rw [← hE]; exact dpt_pos N q
    have hF1 : 1 ≤ F := by rw [← hF]; exact dpt_pos N j
    have hE2 := dpt_bd N q
    have hF2 := dpt_bd N j
    rw [hE] at hE2
    rw [hF] at hF2
    have HE := Lib.hid hE; have HF := Lib.hid hF
    have HV : Hid (D = max E F + 1) := Lib.hid (by
      have := dpt_two (N := N) (i := j + 1) (f := q + 1) (fun x hx => HG.out x (by omega)) (by omega) ha hf1 (by omega)
      rw [← HD.out, this, show q + 1 - 1 = q by omega, show j + 1 - 1 = j by omega, hE, hF]; omega)
    clear ha hks hv HKB hc hE hF hg' hf1
    rcases Int.lt_or_le E F with hef | hef
    · have HV2 : Hid (D = F + 1) := Lib.hid (by rw [HV.out]; omega)
      have x1 : max 0 E = E := by omega
      have x2 : max E F = F := by omega
      go_wp2_with fail
      refine wp_loop_rounds 3 ?_
      rw [rounds_succ]; go_wp2_with fail
      refine (IH.out q (by omega) (by omega) E HE.out _ HR1.out).mono ?_
      rintro e w2 ⟨rfl, hb⟩
      have HB2 := Lib.hid (HB1.out.trans (hb.mono HB1.out.size))
      have HR2 := Lib.hid (HR1.out.below hb)
      have hgd2 : w2.cell? ⟨g, 1, none⟩ = some (.int .i64 (j : Int)) := by rw [hb.cell (p := ⟨g, 1, none⟩) hgl]; exact hgd
      clear hb HB1 HR1 hgc hgd hgl
      go_wp2_with fail
      rw [rounds_succ]; go_wp2_with fail
      refine (IH.out j (by omega) (by omega) F HF.out _ HR2.out).mono ?_
      rintro e w3 ⟨rfl, hb⟩
      have HB3 := Lib.hid (HB2.out.trans (hb.mono HB2.out.size))
      clear hb HB2 HR2 hgd2
      go_wp2_with fail
      rw [rounds_succ]; go_wp2
      go_ret
      exact ⟨by rw [HV2.out] <;> rfl, HB3.out⟩
    · have HV2 : Hid (D = E + 1) := Lib.hid (by rw [HV.out]; omega)
      have x1 : max 0 E = E := by omega
      have x2 : max E F = E := by omega
      go_wp2_with fail
      refine wp_loop_rounds 3 ?_
      rw [rounds_succ]; go_wp2_with fail
      refine (IH.out q (by omega) (by omega) E HE.out _ HR1.out).mono ?_
      rintro e w2 ⟨rfl, hb⟩
      have HB2 := Lib.hid (HB1.out.trans (hb.mono HB1.out.size))
      have HR2 := Lib.hid (HR1.out.below hb)
      have hgd2 : w2.cell? ⟨g, 1, none⟩ = some (.int .i64 (j : Int)) := by rw [hb.cell (p := ⟨g, 1, none⟩) hgl]; exact hgd
      clear hb HB1 HR1 hgc hgd hgl
      go_wp2_with fail
      rw [rounds_succ]; go_wp2_with fail
      refine (IH.out j (by omega) (by omega) F HF.out _ HR2.out).mono ?_
      rintro e w3 ⟨rfl, hb⟩
      have HB3 := Lib.hid (HB2.out.trans (hb.mono HB2.out.size))
      clear hb HB2 HR2 hgd2
      go_wp2_with fail
      rw [rounds_succ]; go_wp2
      go_ret
      exact ⟨by rw [HV2.out] <;> rfl, HB3.out⟩
end Go.Proofs.YtgjpmfdiidkdnaaGreatDoor
