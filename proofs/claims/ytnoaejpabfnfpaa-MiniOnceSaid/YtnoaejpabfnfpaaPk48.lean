/-
  The contracts of the thirteenth laws, held by the code.
  The walk of the thirteenth laws' awake, over whatever Of is that does as the page says.
-/
import Derived.Test.YtnoaejpabfnfpaaPk47
import Derived.Test.YtnoaejpabfnfpaaPk44
import Derived.Test.YtnoaejpabfnfpaaPk35
import Derived.Test.YtnoaejpabfnfpaaPk10
namespace Go.Proofs.Ytnoaejpabfnfpaa
open Go.RowKit

set_option maxRecDepth 100000 in
set_option maxHeartbeats 4000000 in
theorem mof_no13 (v : Value) (x : Da) (w : World) (hs : smD x) (hx : ¬ rgD x) (hd : daAt w v x) : Calls Try.prog 9 #[v] w fun e w' => ∃ v' x', e = .returned (.tuple #[v', .int .i64 3]) ∧ daAt w' v' x' ∧ x'.n1 = 0 ∧ Below w.heap.size w w' := by
  obtain ⟨D, hD⟩ : ∃ D, w.heap.size = D := ⟨_, rfl⟩
  have hd' := hd
  obtain ⟨q0, c0, q1, c1, q2, c2, rfl, -, -, -⟩ := hd'
  obtain ⟨w1, hw1⟩ : ∃ w1, (w.alloc (.cells #[.slice q0 x.n0 c0, .int .i64 x.wd, .int .i64 x.st, .slice q1 x.n1 c1, .slice q2 x.n2 c2] 25)).alloc (.cells #[.slice none 0 0, .int .i64 0, .int .i64 0, .slice none 0 0, .slice none 0 0] 25) = w1 := ⟨_, rfl⟩
  have hs1 : (w.alloc (.cells #[.slice q0 x.n0 c0, .int .i64 x.wd, .int .i64 x.st, .slice q1 x.n1 c1, .slice q2 x.n2 c2] 25)).heap.size = D + 1 := by rw [World.size_alloc, hD]
  have hz1 : w1.heap.size = D + 2 := by rw [← hw1, World.size_alloc, hs1]
  have hb1 : Below D w w1 := hw1 ▸ ((Below.refl _ _).alloc (by omega) _).alloc (by omega) _
  have hk1 : isDf w1 D q0 x.n0 c0 x.wd x.st q1 x.n1 c1 q2 x.n2 c2 := by
    have h1 : isDf (w.alloc (.cells #[.slice q0 x.n0 c0, .int .i64 x.wd, .int .i64 x.st, .slice q1 x.n1 c1, .slice q2 x.n2 c2] 25)) D q0 x.n0 c0 x.wd x.st q1 x.n1 c1 q2 x.n2 c2 := hD ▸ heap_alloc_new w _
    refine h1.below (B := D + 1) ?_ (Nat.lt_succ_self D)
    rw [← hw1]
    exact (Below.refl _ _).alloc (by omega) _
  have hr1 : isDf w1 (D + 1) none 0 0 0 0 none 0 0 none 0 0 := by
    have := heap_alloc_new (w.alloc (.cells #[.slice q0 x.n0 c0, .int .i64 x.wd, .int .i64 x.st, .slice q1 x.n1 c1, .slice q2 x.n2 c2] 25)) (.cells #[.slice none 0 0, .int .i64 0, .int .i64 0, .slice none 0 0, .slice none 0 0] 25)
    rw [hw1, hs1] at this
    exact this
  have HRI := Lib.hid (rig_any _ x w1 hs (hd.below (hD.symm ▸ hb1)))
  rw [rgB_no hx] at HRI
  have HW1 := Lib.hid hw1; have HZ := Lib.hid hz1; have HG := Lib.hid hD; have HB1 := Lib.hid hb1; have HR1 := Lib.hid hr1
  have hbd := build_df0
  obtain ⟨y0, y1, y2, y3, y4⟩ := hk1.cells
  clear hw1 hs1 hz1 hb1 hk1 hr1 hd hs hx
  go_enter Try.func9, Try.ntmps9
  go_upto_region 1 with (fail)
  rw [HW1.out]
  clear hD
  go_wp2_with fail
  refine HRI.out.mono ?_
  rintro e w2 ⟨rfl, hb⟩
  rw [HZ.out] at hb
  have hDf := HR1.out.below hb (by omega)
  obtain ⟨e0, e1, e2, e3, e4⟩ := hDf.cells
  have f0 := hDf.free 0; have f1 := hDf.free 1; have f2 := hDf.free 2; have f3 := hDf.free 3; have f4 := hDf.free 4
  have hl := hDf.lt
  have Z := Lib.hid (hDf.stored none 0 0 0 0 none 0 0 none 0 0).cells
  have hB2 : Below D w w2 := HB1.out.trans (hb.mono (by omega))
  have HBF : Hid (Below w.heap.size w (((((w2.setCell ⟨D + 1, 0, none⟩ (.slice none 0 0)).setCell ⟨D + 1, 1, none⟩ (.int .i64 0)).setCell ⟨D + 1, 2, none⟩ (.int .i64 0)).setCell ⟨D + 1, 3, none⟩ (.slice none 0 0)).setCell ⟨D + 1, 4, none⟩ (.slice none 0 0))) := Lib.hid (by
    rw [HG.out]
    exact ((((hB2.setCell (p := ⟨D + 1, 0, none⟩) (Nat.le_succ D) _).setCell (p := ⟨D + 1, 1, none⟩) (Nat.le_succ D) _).setCell (p := ⟨D + 1, 2, none⟩) (Nat.le_succ D) _).setCell (p := ⟨D + 1, 3, none⟩) (Nat.le_succ D) _).setCell (p := ⟨D + 1, 4, none⟩) (Nat.le_succ D) _)
  have HDF : Hid (daAt (((((w2.setCell ⟨D + 1, 0, none⟩ (.slice none 0 0)).setCell ⟨D + 1, 1, none⟩ (.int .i64 0)).setCell ⟨D + 1, 2, none⟩ (.int .i64 0)).setCell ⟨D + 1, 3, none⟩ (.slice none 0 0)).setCell ⟨D + 1, 4, none⟩ (.slice none 0 0)) (dfV none 0 0 0 0 none 0 0 none 0 0) ⟨0, fun _ => 0, 0, 0, 0, fun _ => 0, 0, fun _ => false⟩) := Lib.hid
    ⟨none, 0, none, 0, none, 0, rfl, fun j hj => absurd hj (Nat.not_lt_zero _), fun j hj => absurd hj (Nat.not_lt_zero _), fun j hj => absurd hj (Nat.not_lt_zero _)⟩
  clear hb y0 y1 y2 y3 y4 hDf hB2
  go_wp2_with fail
  refine bodyPost_ret (v := .tuple #[dfV none 0 0 0 0 none 0 0 none 0 0, .int .i64 3]) (by simp [results, Try.results9, go_sem, Z.out]) rfl ?_
  exact ⟨_, _, rfl, HDF.out, rfl, HBF.out⟩
theorem mof_any : MofD := fun v x w hs hd => by
  by_cases hx : rgD x
  · refine (mof13 v x w hs hx hd).mono fun e w' h => ?_
    obtain ⟨v', h1, h2, h3⟩ := h
    exact ⟨fun _ => ⟨v', h1, h2⟩, fun g => absurd hx g, h3⟩
  · refine (mof_no13 v x w hs hx hd).mono fun e w' h => ?_
    obtain ⟨v', x', h1, h2, h3, h4⟩ := h
    exact ⟨fun g => absurd g hx, fun _ => ⟨v', x', h1, h2, h3⟩, h4⟩
end Go.Proofs.Ytnoaejpabfnfpaa

namespace Go.Proofs.Ytnoaejpabfnfpaa
open Go.RowKit

/-- The automaton of two states that are alike. -/
def x13 : Da := ⟨259, fun _ => 0, 1, 0, 2, fun j => if j = 0 then 1 else 0, 2, fun _ => true⟩
theorem x13_rg : rgD x13 := by
  unfold rgD x13
  refine ⟨rfl, by decide, by decide, by decide, by decide, by decide, by decide, by decide, fun _ _ => ⟨Int.le_refl 0, Int.zero_lt_one⟩, fun j _ => ?_⟩
  show 0 ≤ (if j = 0 then (1 : Int) else 0) ∧ (if j = 0 then (1 : Int) else 0) < ((2 : Nat) : Int)
  split <;> decide
theorem x13_sm : smD x13 := ⟨by decide, by decide, by decide⟩
theorem x13_ln : lnW x13 x13.st.toNat = okw := by
  funext w
  exact propext ⟨fun h => h.1, fun h => ⟨h, rfl⟩⟩
theorem ders_okw : ∀ v, okw v → ders v okw = okw := fun v hv => by
  funext w
  exact propext ⟨fun h => (okw_append.1 h).2, fun h => okw_append.2 ⟨hv, h⟩⟩
theorem der_okw {y : Nat} (hy : y < 259) : der y okw = okw := by
  funext w
  exact propext ⟨fun h => (okw_cons.1 h).2, fun h => okw_cons.2 ⟨hy, h⟩⟩
theorem cntT_same {T T' : Nat → Bool} {m : Nat} (h : ∀ q, q < m → T q = T' q) : cntT T m = cntT T' m := by
  unfold cntT
  congr 1
  exact List.filter_congr fun q hq => h q (List.mem_range.1 hq)
theorem x13_mn : (mnD x13).n0 = 259 ∧ (mnD x13).wd = 1 ∧ (mnD x13).n2 = 1 ∧ (mnD x13).T 0 = true := by
  have hr := mnD_rg x13_rg
  have hl : lnW (mnD x13) 0 = okw := (mnD_ln x13_rg).trans x13_ln
  have hall : ∀ i, i < (mnD x13).n2 → lnW (mnD x13) i = okw := fun i hi => by
    obtain ⟨v, hv, rfl⟩ := rt_word (mnD_reach x13_rg hi)
    rw [lnW_run _ v 0 hv, hl]
    exact ders_okw v hv
  have h1 : (mnD x13).n2 = 1 := by
    have hp := hr.2.2.2.1
    rcases Nat.lt_or_ge 1 (mnD x13).n2 with g | g
    · exact absurd (mnD_apart x13_rg (i := 0) (k := 1) (by omega) g ((hall 0 (by omega)).trans (hall 1 g).symm)) (by decide)
    · omega
  refine ⟨rfl, ?_, h1, ?_⟩
  · show ((wdL (lnW x13 x13.st.toNat) : Nat) : Int) = 1
    rw [x13_ln]
    have hs : ∀ j, j < 259 → syB okw 0 j = true := fun j hj => (syB_iff okw).2 fun v hv => by
      rw [ders_okw v hv, der_okw (by decide), der_okw hj]
    have hw : wdL okw = 1 := by
      unfold wdL
      rw [cntT_same (T' := fun i => i == 0) fun i hi => ?_]
      · decide +kernel
      · by_cases e : i = 0
        · subst e
          have h0 : hdA (syB okw) 0 = 0 := by have := hdA_le (syB okw) 0; omega
          unfold isH
          rw [h0]
        · have h0 : hdA (syB okw) i = 0 := hdA_is (by omega) (hs i hi) fun j hj => absurd hj (Nat.not_lt_zero _)
          unfold isH
          rw [h0]
          have e1 : ((0 : Nat) == i) = false := beq_eq_false_iff_ne.2 (fun h => e h.symm)
          have e2 : (i == (0 : Nat)) = false := beq_eq_false_iff_ne.2 e
          rw [e1]; exact e2.symm
    rw [hw]; rfl
  · have h2 : lnW (mnD x13) 0 [] := by rw [hl]; exact okw_nil
    exact h2.2

theorem build_df2a (q0 : Option Addr) (n0 c0 : Nat) (wd : Int) (q1 : Option Addr) (n1 c1 : Nat) (q2 : Option Addr) (n2 c2 : Nat) (w : World) : (Instr.build 25 #[(0, .slice q0 n0 c0), (1, .int .i64 wd), (3, .slice q1 n1 c1), (4, .slice q2 n2 c2)]).run Try.prog w = .ok (dfV q0 n0 c0 wd 0 q1 n1 c1 q2 n2 c2) w := by kernel_rfl

set_option maxRecDepth 100000 in
set_option maxHeartbeats 16000000 in
theorem awake13 (hO : MofD) (w : World) : Calls Try.prog 6 #[] w fun e w' => e = .returned (.bool true) ∧ Below w.heap.size w w' := by
  have HO := Lib.hid hO
  have hbd := build_df2a
  clear hO
  go_enter Try.func6, Try.ntmps6
  go_wp2_with (refine make_ints rfl _ _ rfl w.heap.size 259 rfl rfl (by decide) (Nat.le_refl _) ?_)
  intro w2 ho hb2
  obtain ⟨g, hg⟩ : ∃ g, w.heap.size = g := ⟨_, rfl⟩
  obtain ⟨h, hh⟩ : ∃ h, w2.heap.size = h := ⟨_, rfl⟩
  rw [hg] at ho hb2 ⊢
  obtain ⟨W, hW⟩ : ∃ W, (w2.alloc (.cells #[.int .i64 1, .int .i64 0] 3)).alloc (.cells #[.bool true, .bool true] 4) = W := ⟨_, rfl⟩
  have hgh : g < h := hh ▸ ho.lt.2
  have hs1 : (w2.alloc (.cells #[.int .i64 1, .int .i64 0] 3)).heap.size = h + 1 := by rw [World.size_alloc, hh]
  have hz : W.heap.size = h + 2 := by rw [← hW, World.size_alloc, hs1]
  have hal : Below h w2 W := hW ▸ ((Below.refl _ _).alloc (by omega) _).alloc (by omega) _
  have hk0 : W.heap[h]? = some (.cells #[.int .i64 1, .int .i64 0] 3 (0, 0)) := by
    have h1 := heap_alloc_new w2 (.cells #[.int .i64 1, .int .i64 0] 3)
    rw [hh] at h1
    rw [← hW]
    exact (Below.heap_alloc _ _ h (by omega)).trans h1
  have hk1 : W.heap[h + 1]? = some (.cells #[.bool true, .bool true] 4 (0, 0)) := by
    have h1 := heap_alloc_new (w2.alloc (.cells #[.int .i64 1, .int .i64 0] 3)) (.cells #[.bool true, .bool true] 4)
    rw [hs1, hW] at h1
    exact h1
  have hd : daAt W (dfV (some ⟨g, 0, none⟩) 259 259 1 0 (some ⟨h, 0, none⟩) 2 2 (some ⟨h + 1, 0, none⟩) 2 2) x13 := ⟨some ⟨g, 0, none⟩, 259, some ⟨h, 0, none⟩, 2, some ⟨h + 1, 0, none⟩, 2, rfl, (ho.rd.below (hh.symm ▸ hal)), fun j hj => by
      have hj : j < 2 := hj
      refine ⟨h, 0, rfl, by omega, ?_⟩
      rcases (show j = 0 ∨ j = 1 by omega) with rfl | rfl <;> simp [World.cell?, hk0, x13], fun j hj => by
      have hj : j < 2 := hj
      refine ⟨h + 1, 0, rfl, by omega, ?_⟩
      rcases (show j = 0 ∨ j = 1 by omega) with rfl | rfl <;> simp [World.cell?, hk1, x13]⟩
  have HC := Lib.hid (HO.out _ x13 W x13_sm hd)
  have HBW : Hid (Below w.heap.size w W) := Lib.hid (by rw [hg]; exact hb2.trans (hal.mono (Nat.le_of_lt hgh)))
  have HWW := Lib.hid hW
  clear ho hal hk0 hk1 hd hs1 hz hgh hW hb2 HO
  go_wp2_with fail
  rw [HWW.out]
  clear hh hg hbd HWW
  refine HC.out.mono ?_
  rintro e w4 ⟨h1, -, hb4⟩
  obtain ⟨v', rfl, hd'⟩ := h1 x13_rg
  obtain ⟨e0, e1, e2, e3⟩ := x13_mn
  obtain ⟨p0, d0, p1, d1, p2, d2, rfl, -, -, hT⟩ := hd'
  obtain ⟨bb, oo, rfl, hbl, hcl⟩ := hT 0 (by rw [e2]; decide)
  rw [e3, Nat.add_zero] at hcl
  rw [e0, e1, e2]
  have HBF : Hid (Below w.heap.size w w4) := Lib.hid (HBW.out.trans (hb4.mono HBW.out.size))
  obtain ⟨st, hst⟩ : ∃ st, (mnD x13).st = st := ⟨_, rfl⟩
  obtain ⟨n1, hn1⟩ : ∃ n1, (mnD x13).n1 = n1 := ⟨_, rfl⟩
  rw [hst, hn1]
  have HBA : Hid (Below w.heap.size w (w4.alloc (.cells #[.slice p0 259 d0, .int .i64 1, .int .i64 st, .slice p1 n1 d1, .slice (some ⟨bb, oo, none⟩) 1 d2] 25))) := Lib.hid (HBF.out.alloc HBF.out.size _)
  clear h1 hb4 hT e0 e1 e2 e3 hst hn1 HC HBW HBF
  go_wp2_with fail
  go_returns
  exact ⟨rfl, HBA.out⟩
end Go.Proofs.Ytnoaejpabfnfpaa
