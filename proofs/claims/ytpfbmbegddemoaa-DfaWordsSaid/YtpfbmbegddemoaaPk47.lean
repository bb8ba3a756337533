/-
  The walk of the twelfth laws' awake, over whatever the code answers that does as the page says.
-/
import Derived.Test.YtpfbmbegddemoaaPk44
import Derived.Test.YtpfbmbegddemoaaPk45
import Derived.Test.YtpfbmbegddemoaaPk46
import Derived.Test.YtpfbmbegddemoaaPk22
namespace Go.Proofs.Ytpfbmbegddemoaa
open Go.RowKit

/-- dfa.Word, dfa.Same. -/
def WrdD : Prop := ∀ (s : ByteArray) (i j : Int) (w : World), s.size ≤ 1000 → Calls Try.prog 17 #[.string s, .int .i64 i, .int .i64 j] w fun e w' =>
  ((0 ≤ i ∧ i ≤ j ∧ j ≤ (s.size : Int)) → ∃ v, e = .returned (.tuple #[v, .bool true]) ∧ rdW w' v (wrY s.size (tx7 s) i.toNat j.toNat)) ∧ (¬ (0 ≤ i ∧ i ≤ j ∧ j ≤ (s.size : Int)) → ∃ p c, e = .returned (.tuple #[.slice p 0 c, .bool false])) ∧ Below w.heap.size w w'
def SamD : Prop := ∀ (v v' : Value) (x y : Da) (w : World), x.n0 ≤ maxLen → x.n1 ≤ maxLen → x.n2 ≤ maxLen → y.n0 ≤ maxLen → y.n1 ≤ maxLen → y.n2 ≤ maxLen → daAt w v x → daAt w v' y →
  Calls Try.prog 18 #[v, v'] w fun e w' => e = .returned (.bool (saB x y)) ∧ Below w.heap.size w w'
theorem build_df12 (q0 : Option Addr) (n0 c0 : Nat) (wd : Int) (q1 : Option Addr) (n1 c1 : Nat) (q2 : Option Addr) (n2 c2 : Nat) (w : World) : (Instr.build 25 #[(0, .slice q0 n0 c0), (1, .int .i64 wd), (3, .slice q1 n1 c1), (4, .slice q2 n2 c2)]).run Try.prog w = .ok (dfV q0 n0 c0 wd 0 q1 n1 c1 q2 n2 c2) w := by kernel_rfl
/-- The automaton of one state. -/
def x12 : Da := ⟨259, fun _ => 0, 1, 0, 1, fun _ => 0, 1, fun _ => true⟩
theorem x12_rg : rgD x12 := by
  unfold rgD x12
  refine ⟨rfl, by decide, by decide, by decide, by decide, by decide, by decide, by decide, fun _ _ => ⟨Int.le_refl 0, Int.zero_lt_one⟩, fun _ _ => ⟨Int.le_refl 0, Int.zero_lt_one⟩⟩
theorem x12_rn (l : Nat → Int) (h0 : l 0 = 256) (h1 : l 1 = 97) : rnD x12 x12.st l 2 = 0 := by
  have hg : ∀ s y, goD x12 s y = 0 := fun _ _ => rfl
  unfold rnD
  rw [if_pos ⟨rgB_yes x12_rg, by decide, by decide⟩]
  simp [rwD, h0, h1, hg]
theorem x12_ac (l : Nat → Int) (h0 : l 0 = 256) (h1 : l 1 = 97) : acD x12 l 2 = true := by
  have h := x12_rn l h0 h1
  rw [(acD_is x12 l 2).2 (by rw [h]; decide)]
  rfl
theorem x12_sm : smD x12 := ⟨by decide, by decide, by decide⟩
theorem ab_wr : wrY 2 (tx7 ⟨#[97, 98]⟩) 0 1 = [256, 97] := by decide

set_option maxRecDepth 100000 in
set_option maxHeartbeats 16000000 in
theorem awake12 (hW : WrdD) (hG : RigD) (hA : AccD) (hL : LivD) (hR : RchD) (w : World) : Calls Try.prog 6 #[] w fun e w' => e = .returned (.bool true) ∧ Below w.heap.size w w' := by
  have HWd := Lib.hid (hW ⟨#[97, 98]⟩ 0 1 w (by decide))
  have HGd := Lib.hid hG; have HAc := Lib.hid hA; have HLv := Lib.hid hL; have HRc := Lib.hid hR
  have hbd := build_df12
  clear hW hG hA hL hR
  go_enter Try.func6, Try.ntmps6
  go_wp2_with fail
  refine HWd.out.mono ?_
  rintro e w1 ⟨h1, -, hb1⟩
  obtain ⟨v, rfl, hv⟩ := h1 ⟨by decide, by decide, by decide⟩
  rw [show ((0 : Int)).toNat = 0 from rfl, show ((1 : Int)).toNat = 1 from rfl, show (ByteArray.mk #[97, 98]).size = 2 from rfl, ab_wr] at hv
  obtain ⟨p, c, rfl, hr⟩ := hv
  have HV := Lib.hid hr; have HB1 := Lib.hid hb1
  clear h1 hb1 hr
  go_wp2_with (refine make_ints rfl _ _ rfl w1.heap.size 259 rfl rfl (by decide) (Nat.le_refl _) ?_)
  intro w2 ho hb2
  obtain ⟨g, hg⟩ : ∃ g, w1.heap.size = g := ⟨_, rfl⟩
  obtain ⟨h, hh⟩ : ∃ h, w2.heap.size = h := ⟨_, rfl⟩
  rw [hg] at ho hb2 ⊢
  obtain ⟨W, hW⟩ : ∃ W, (((w2.alloc (.cells #[.int .i64 0] 3)).alloc (.cells #[.bool true] 4)).alloc (.cells #[.slice (some ⟨g, 0, none⟩) 259 259, .int .i64 1, .int .i64 0, .slice (some ⟨h, 0, none⟩) 1 1, .slice (some ⟨h + 1, 0, none⟩) 1 1] 25)) = W := ⟨_, rfl⟩
  have hgh : g < h := hh ▸ ho.lt.2
  have hs1 : (w2.alloc (.cells #[.int .i64 0] 3)).heap.size = h + 1 := by rw [World.size_alloc, hh]
  have hs2 : ((w2.alloc (.cells #[.int .i64 0] 3)).alloc (.cells #[.bool true] 4)).heap.size = h + 2 := by rw [World.size_alloc, hs1]
  have hz : W.heap.size = h + 3 := by rw [← hW, World.size_alloc, hs2]
  have hal : Below h w2 W := hW ▸ (((Below.refl _ _).alloc (by omega) _).alloc (by omega) _).alloc (by omega) _
  have hk0 : W.heap[h]? = some (.cells #[.int .i64 0] 3 (0, 0)) := by
    have h1 := heap_alloc_new w2 (.cells #[.int .i64 0] 3)
    rw [hh] at h1
    rw [← hW]
    exact (Below.heap_alloc _ _ h (by omega)).trans ((Below.heap_alloc _ _ h (by omega)).trans h1)
  have hk1 : W.heap[h + 1]? = some (.cells #[.bool true] 4 (0, 0)) := by
    have h1 := heap_alloc_new (w2.alloc (.cells #[.int .i64 0] 3)) (.cells #[.bool true] 4)
    rw [hs1] at h1
    rw [← hW]
    exact (Below.heap_alloc _ _ (h + 1) (by omega)).trans h1
  have hk2 : isDf W (h + 2) (some ⟨g, 0, none⟩) 259 259 1 0 (some ⟨h, 0, none⟩) 1 1 (some ⟨h + 1, 0, none⟩) 1 1 := by
    have h1 := heap_alloc_new ((w2.alloc (.cells #[.int .i64 0] 3)).alloc (.cells #[.bool true] 4)) (.cells #[.slice (some ⟨g, 0, none⟩) 259 259, .int .i64 1, .int .i64 0, .slice (some ⟨h, 0, none⟩) 1 1, .slice (some ⟨h + 1, 0, none⟩) 1 1] 25)
    rw [hs2, hW] at h1
    exact h1
  have hd : daAt W (dfV (some ⟨g, 0, none⟩) 259 259 1 0 (some ⟨h, 0, none⟩) 1 1 (some ⟨h + 1, 0, none⟩) 1 1) x12 := ⟨some ⟨g, 0, none⟩, 259, some ⟨h, 0, none⟩, 1, some ⟨h + 1, 0, none⟩, 1, rfl, (ho.rd.below (hh.symm ▸ hal)), fun j hj => by
      have hj : j < 1 := hj
      obtain rfl : j = 0 := by omega
      exact ⟨h, 0, rfl, by omega, by simp [World.cell?, hk0, x12]⟩, fun j hj => by
      have hj : j < 1 := hj
      obtain rfl : j = 0 := by omega
      exact ⟨h + 1, 0, rfl, by omega, by simp [World.cell?, hk1, x12]⟩⟩
  have HS : Hid (∀ w', Below W.heap.size W w' → w'.cell? ⟨h + 2, 0, none⟩ = some (.slice (some ⟨g, 0, none⟩) 259 259) ∧ w'.cell? ⟨h + 2, 1, none⟩ = some (.int .i64 1) ∧ w'.cell? ⟨h + 2, 2, none⟩ = some (.int .i64 0) ∧ w'.cell? ⟨h + 2, 3, none⟩ = some (.slice (some ⟨h, 0, none⟩) 1 1) ∧ w'.cell? ⟨h + 2, 4, none⟩ = some (.slice (some ⟨h + 1, 0, none⟩) 1 1)) := Lib.hid fun w' hb => (hk2.below hb hk2.lt).cells
  have HD : Hid (∀ w', Below W.heap.size W w' → daAt w' (dfV (some ⟨g, 0, none⟩) 259 259 1 0 (some ⟨h, 0, none⟩) 1 1 (some ⟨h + 1, 0, none⟩) 1 1) x12) := Lib.hid fun w' hb => hd.below hb
  have HBW : Hid (Below w.heap.size w W) := Lib.hid (HB1.out.trans ((hb2.mono (by rw [← hg]; exact HB1.out.size)).trans (hal.mono (Nat.le_trans HB1.out.size (by rw [hg]; omega)))))
  have HVW : Hid (∀ w', Below W.heap.size W w' → rdL w' p 2 (fun j => (([256, 97] : List Nat).getD j 0 : Nat))) := Lib.hid fun w' hb => (HV.out.below (hg.symm ▸ (hb2.trans (hal.mono (Nat.le_of_lt hgh))))).below hb
  have HWW := Lib.hid hW
  clear ho hb2 hal hk0 hk1 hk2 hd hs1 hs2 hz hgh hW HB1 HV HWd
  go_upto_region 3 with (fail)
  rw [HWW.out]
  clear hh hg hbd HWW
  have HL0 := Lib.hid (HLv.out _ x12 W.drew x12_sm (HD.out _ (Below.refl _ _).drew))
  have hB : Below W.heap.size W W := Below.refl _ _
  go_region_held_law (fun w' => w'.cell? ⟨h + 2, 0, none⟩ = some (.slice (some ⟨g, 0, none⟩) 259 259) ∧ w'.cell? ⟨h + 2, 1, none⟩ = some (.int .i64 1) ∧ w'.cell? ⟨h + 2, 2, none⟩ = some (.int .i64 0) ∧ w'.cell? ⟨h + 2, 3, none⟩ = some (.slice (some ⟨h, 0, none⟩) 1 1) ∧ w'.cell? ⟨h + 2, 4, none⟩ = some (.slice (some ⟨h + 1, 0, none⟩) 1 1))
    (first | with_reducible exact HS.out _ hB.drew | with_reducible exact HS.out _ hB)
    (first
      | (go_at_call 14; (with_reducible refine HL0.out.mono ?_); rintro e w4 ⟨p4, n4, c4, T4, rfl, h1, -, h2, h3⟩; obtain ⟨h4, h5⟩ := h2 x12_rg; obtain rfl : n4 = 1 := h4; have hB4 : Below W.heap.size W w4 := Below.trans hB.drew h3; (replace hB := hB4); have HB4 := Lib.hid hB4; have HT4 := Lib.hid h1; have HI4 := Lib.hid ((h5 0 (by decide)).2 ⟨0, by decide, .refl 0, rfl⟩); have HR4 := Lib.hid (HRc.out _ x12 w4 x12_sm (HD.out _ hB4)); clear h1 h2 h3 h5 hB4)
      | (go_at_call 15; (with_reducible refine HR4.out.mono ?_); rintro e w5 ⟨p5, n5, c5, T5, rfl, h1, -, h2, h3⟩; obtain ⟨h4, h5⟩ := h2 x12_rg; obtain rfl : n5 = 1 := h4; have hB5 : Below W.heap.size W w5 := HB4.out.trans (h3.mono HB4.out.size); (replace hB := hB5); have HB5 := Lib.hid hB5; have HT5 := Lib.hid h1; have HB45 := Lib.hid h3; have HI5 := Lib.hid ((h5 0 (by decide)).2 (.refl 0)); clear h1 h2 h3 h5 hB5))
  all_goals
    clear hB HL0 HR4
    have HS2 : Hid (∀ w', Below W.heap.size W w' → w'.cell? ⟨h + 1 + 1, 0, none⟩ = some (.slice (some ⟨g, 0, none⟩) 259 259) ∧ w'.cell? ⟨h + 1 + 1, 1, none⟩ = some (.int .i64 1) ∧ w'.cell? ⟨h + 1 + 1, 2, none⟩ = some (.int .i64 0) ∧ w'.cell? ⟨h + 1 + 1, 3, none⟩ = some (.slice (some ⟨h, 0, none⟩) 1 1) ∧ w'.cell? ⟨h + 1 + 1, 4, none⟩ = some (.slice (some ⟨h + 1, 0, none⟩) 1 1)) := HS
    obtain ⟨b, o, rfl, -, -⟩ := HVW.out w5 HB5.out 0 (by decide)
    have HVC : Hid (∀ w', Below W.heap.size W w' → w'.cell? ⟨b, o, none⟩ = some (.int .i64 256) ∧ w'.cell? ⟨b, o + 1, none⟩ = some (.int .i64 97)) := Lib.hid fun w' hb => by
      obtain ⟨b1, o1, e1, -, k1⟩ := HVW.out w' hb 0 (by decide)
      obtain ⟨b2, o2, e2, -, k2⟩ := HVW.out w' hb 1 (by decide)
      cases e1; cases e2
      exact ⟨k1, k2⟩
    obtain ⟨b4, o4, rfl, hb4, ht4⟩ := HT4.out 0 (by decide)
    obtain ⟨b5, o5, rfl, hb5, ht5⟩ := HT5.out 0 (by decide)
    rw [HI4.out, Nat.add_zero] at ht4
    rw [HI5.out, Nat.add_zero] at ht5
    have HC4 : Hid (∀ w', Below w5.heap.size w5 w' → w'.cell? ⟨b4, o4, none⟩ = some (.bool true) ∧ w'.cell? ⟨b5, o5, none⟩ = some (.bool true)) := Lib.hid fun w' hb => by
      have hc := HB45.out.cell (p := ⟨b4, o4, none⟩) hb4
      exact ⟨((hb.cell (p := ⟨b4, o4, none⟩) (Nat.lt_of_lt_of_le hb4 HB45.out.size)).trans hc).trans ht4, (hb.cell (p := ⟨b5, o5, none⟩) hb5).trans ht5⟩
    have hg1 := HGd.out _ x12 w5 x12_sm (HD.out _ HB5.out)
    rw [rgB_yes x12_rg] at hg1
    have HG5 := Lib.hid hg1
    have HAx : Hid (∀ w', Below W.heap.size W w' → Calls Try.prog 13 #[dfV (some ⟨g, 0, none⟩) 259 259 1 0 (some ⟨h, 0, none⟩) 1 1 (some ⟨h + 1, 0, none⟩) 1 1, .slice (some ⟨b, o, none⟩) 2 c] w' fun e w'' => e = .returned (.bool true) ∧ Below w'.heap.size w' w'') := Lib.hid fun w' hb => by
      have := HAc.out _ x12 (some ⟨b, o, none⟩) 2 c _ w' x12_sm (by decide) (HD.out _ hb) (HVW.out w' hb)
      rw [x12_ac _ rfl rfl] at this
      exact this
    obtain ⟨v0, v1⟩ := HVC.out w5 HB5.out
    obtain ⟨d0, d1, d2, d3, d4⟩ := HS2.out w5 HB5.out
    clear hg1 hb4 hb5 ht4 ht5 HT4 HT5 HI4 HI5 HB45 HB4
    go_wp2_with fail
    refine HG5.out.mono ?_
    rintro e w6 ⟨rfl, hb6⟩
    have HB6 := Lib.hid (HB5.out.trans (hb6.mono HB5.out.size))
    have HB56 := Lib.hid hb6
    clear v0 v1 d0 d1 d2 d3 d4 hb6
    obtain ⟨d0, d1, d2, d3, d4⟩ := HS2.out w6 HB6.out
    go_wp2_with fail
    refine (HAx.out w6 HB6.out).mono ?_
    rintro e w7 ⟨rfl, hb7⟩
    have HB7 := Lib.hid (HB6.out.trans (hb7.mono HB6.out.size))
    obtain ⟨t0, t1⟩ := HC4.out w7 (HB56.out.trans (hb7.mono HB56.out.size))
    have HFI := Lib.hid (HBW.out.trans (HB7.out.mono HBW.out.size))
    clear d0 d1 d2 d3 d4 hb7
    go_wp2_with fail
    go_returns
    exact ⟨rfl, HFI.out⟩
end Go.Proofs.Ytpfbmbegddemoaa
