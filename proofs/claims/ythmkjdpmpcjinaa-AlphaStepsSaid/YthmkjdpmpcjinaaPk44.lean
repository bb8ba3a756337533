/-
  The walks of nfa's Close and Step, and of slices.Contains at numbers.
-/
import Derived.Test.YthmkjdpmpcjinaaPk43
import Derived.Test.YthmkjdpmpcjinaaPk39
namespace Go.Proofs.Ythmkjdpmpcjinaa
open Go.RowKit

theorem tld_of {R : Prop} {m : Nat} {P : Nat → Prop} {w : World} {e : Ending} {w' : World} (h : clPost m P w e w') : tldPost R m P w e w' ∨ ¬ R := by
  obtain ⟨p, c, A, rfl, h1, h2, h3, h4⟩ := h
  by_cases hR : R
  · refine .inl ⟨p, A.length, c, tlA A m, rfl, h1, h2, fun h => absurd hR h, fun _ T hT => ?_⟩
    have e : ∀ q, q < m → T q = memW A q := fun q hq => by
      have k1 := hT q hq
      have k2 : memW A q = true ↔ P q := by unfold memW; rw [decide_eq_true_eq]; exact h4 q
      cases ha : T q <;> cases hb : memW A q
      · rfl
      · rw [k1.2 (k2.1 hb)] at ha; cases ha
      · rw [k2.2 (k1.1 ha)] at hb; cases hb
      · rfl
    refine ⟨by rw [okA_len h3, cntT_congr e], fun i hi hTi => ?_⟩
    rw [cntT_congr (m := i) (T' := memW A) fun q hq => e q (by omega)]
    have := trs_at (T := memW A) hi (by rw [← e i hi]; exact hTi)
    unfold tlA
    rw [List.getD_eq_getElem?_getD, this]
    rfl
  · exact .inr hR
theorem tld_none {R : Prop} (hR : ¬ R) {m : Nat} {P : Nat → Prop} {w w' : World} (hb : Below w.heap.size w w') : tldPost R m P w (.returned (.slice none 0 0)) w' :=
  ⟨none, 0, 0, fun _ => 0, rfl, fun _ hj => absurd hj (Nat.not_lt_zero _), hb, fun _ => rfl, fun h => absurd h hR⟩

set_option maxRecDepth 100000 in
set_option maxHeartbeats 8000000 in
theorem stp_any : StpC := by
  intro p m cap S st fin y q n c l w hm hn hy hS hw hl
  obtain ⟨w1, hw1⟩ : ∃ w1, w.alloc (.cells #[.slice p m cap, .int .i64 st, .int .i64 fin] 24) = w1 := ⟨_, rfl⟩
  have hb1 : Below w.heap.size w w1 := hw1 ▸ (Below.refl _ _).alloc (Nat.le_refl _) _
  have hn1 : is3 24 w1 w.heap.size (.slice p m cap) st fin := hw1 ▸ is3.new 24 w (.slice p m cap) st fin
  have hS1 : stsAt w1 p m S := ⟨hS.1, fun b off h => (hS.2 b off h).below hb1⟩
  have HR := Lib.hid (rgt9_is p m cap S st fin w1 hm hS1)
  have HB1 := Lib.hid hb1
  have HN1 := Lib.hid hn1
  have HS := Lib.hid hS
  have HL := Lib.hid hl
  have HW1 := Lib.hid hw1
  obtain ⟨z0, z1, z2⟩ := hn1.cells
  have zl := hn1.lt
  rw [show (nfV p m cap st fin) = .agg #[.slice p m cap, .int .i64 st, .int .i64 fin] from rfl]
  clear hw1 hb1 hn1 hS1 hS hl
  by_cases hr : rightP S m st fin
  · have HRR := Lib.hid hr
    have hrr := HR.out
    rw [decide_eq_true hr] at hrr
    have HR := Lib.hid hrr
    obtain ⟨b, off, rfl⟩ : ∃ b off, p = some ⟨b, off, none⟩ := by
      rcases HS.out.1 with h | h
      · have := hr.1; omega
      · exact h
    have HCL := Lib.hid (fun w' (h : Below w.heap.size w w') => behind_is b off m cap S y q n c l (by omega) hr.1.1 hn hy (right_rng hr) hw w' ((HS.out.2 b off rfl).below h) (HL.out.below h))
    clear hrr hr
    go_enter Try.func16, Try.ntmps16
    go_upto_region 1 with (fail)
    rw [HW1.out]
    go_wp2_with fail
    refine HR.out.mono ?_
    rintro e w2 ⟨rfl, hb⟩
    have hb2 := HB1.out.trans (hb.mono HB1.out.size)
    have HB2 := Lib.hid hb2
    obtain ⟨y0, y1, y2⟩ := (HN1.out.below hb HN1.out.lt).cells
    have yl := (HN1.out.below hb HN1.out.lt).lt
    clear hb hb2 z0 z1 z2 zl
    go_wp2_with fail
    refine (HCL.out _ HB2.out).mono ?_
    rintro e w3 hcp
    obtain ⟨p6, c6, A, rfl, h1, h2, h3, h4⟩ := hcp
    have HF := Lib.hid ((tld_of (R := rightP S m st fin) (show clPost m (Cl S 0 (By S y (nmd m n l))) w (.returned (.slice p6 A.length c6)) w3 from ⟨p6, c6, A, rfl, h1, HB2.out.trans (h2.mono HB2.out.size), h3, h4⟩)).resolve_right (fun h => h HRR.out))
    clear h1 h2 h3 h4 y0 y1 y2 yl
    go_wp2_with fail
    go_returns
    exact HF.out
  · have hrr := HR.out
    rw [decide_eq_false hr] at hrr
    have HR := Lib.hid hrr
    have HNR := Lib.hid hr
    clear hrr hr
    go_enter Try.func16, Try.ntmps16
    go_upto_region 1 with (fail)
    rw [HW1.out]
    go_wp2_with fail
    refine HR.out.mono ?_
    rintro e w2 ⟨rfl, hb⟩
    have HB2 := Lib.hid (HB1.out.trans (hb.mono HB1.out.size))
    clear hb z0 z1 z2 zl
    go_wp2_with fail
    go_returns
    exact tld_none HNR.out HB2.out

end Go.Proofs.Ythmkjdpmpcjinaa
