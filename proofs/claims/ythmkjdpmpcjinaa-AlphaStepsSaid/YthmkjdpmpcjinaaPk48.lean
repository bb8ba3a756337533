/-
  The walk of the law AlphaClasses, over whatever Classes, Firsts and Join are that do as the page says.
-/
import Derived.Test.YthmkjdpmpcjinaaPk46
import Derived.Test.YthmkjdpmpcjinaaPk47
import Derived.Test.YthmkjdpmpcjinaaPk38
import Derived.Test.YthmkjdpmpcjinaaPk32
namespace Go.Proofs.Ythmkjdpmpcjinaa
open Go.RowKit

theorem is3.put10 {t : TypeId} {w : World} {b : Nat} {v : Value} {f l : Int} (h : is3 t w b v f l) (u : Value) : is3 t (w.setCell ⟨b, 0, none⟩ u) b u f l := by
  have h1 := heap_setCell_same w b 0 _ _ u h
  unfold is3
  rw [h1]
  simp
theorem sts10 {w w' : World} {p : Option Addr} {m : Nat} {S : Nat → Sd} (h : stsAt w p m S) (hb : Below w.heap.size w w') : stsAt w' p m S := ⟨h.1, fun b off e => (h.2 b off e).below hb⟩
set_option maxRecDepth 100000 in
set_option maxHeartbeats 4000000 in
theorem classes_any (hC : ClsC) (hJ : JoiC) (hF : FrsC) (p : Option Addr) (n cap k : Nat) (hk : k = min n 60) (hcap : n ≤ cap) (S : Nat → Sd) (st fin : Int) (w : World) (hS : stsAt w p k S) (hw : ∀ q, q < k → okWs (S q)) :
    Calls Try.prog 3 #[nfV p n cap st fin] w fun e w' => e = .returned (.bool true) ∧ Below w.heap.size w w' := by
  have HAw := Lib.hid (awake10 hJ hF)
  obtain ⟨w0, hw0⟩ : ∃ w0, w.alloc (.cells #[.slice p n cap, .int .i64 st, .int .i64 fin] 24) = w0 := ⟨_, rfl⟩
  have hb0 : Below w.heap.size w w0 := hw0 ▸ (Below.refl _ _).alloc (Nat.le_refl _) _
  have hn0 : is3 24 w0 w.heap.size (.slice p n cap) st fin := hw0 ▸ is3.new _ _ _ _ _
  have HB0 := Lib.hid hb0; have HN0 := Lib.hid hn0; have HW0 := Lib.hid hw0
  have HSW := Lib.hid hS; have HOK := Lib.hid hw; have HCl := Lib.hid hC
  have h1 : (if (60 : Int) < (n : Int) then (60 : Int) else (n : Int)) = (k : Int) := by split <;> omega
  have e1 : min (n : Int) 60 = (k : Int) := by omega
  have H1 := Lib.hid h1
  have k0 : (0 : Int) ≤ (k : Int) := by omega
  have k1 : (k : Int) ≤ (cap : Int) := by omega
  have hk60 : k ≤ 60 := by omega
  clear hC hJ hF hS hw hb0 hn0 hw0 h1 hk
  go_enter Try.func3, Try.ntmps3
  go_upto_region 1 with (fail)
  rw [HW0.out]
  go_wp2_with fail
  refine (HAw.out _).mono ?_
  rintro e w1 ⟨rfl, hb⟩
  have HB1 := Lib.hid (HB0.out.trans (hb.mono HB0.out.size))
  have HN1 := Lib.hid (HN0.out.below hb HN0.out.lt)
  clear hb HAw HN0 HB0 HW0
  obtain ⟨n0, n1, n2⟩ := HN1.out.cells
  obtain ⟨f0, -, -⟩ := HN1.out.free
  go_upto_region 4 with (refine wpList_plain rfl fun _ hK => wp_min9 _ _ rfl (n : Int) 60 (k : Int) rfl rfl H1.out (hK _ _ ?_))
  obtain ⟨W, hW⟩ : ∃ W, w1.setCell ⟨w.heap.size, 0, none⟩ (.slice p k cap) = W := ⟨_, rfl⟩
  have HN2 : Hid (is3 24 W w.heap.size (.slice p k cap) st fin) := Lib.hid (hW ▸ HN1.out.put10 _)
  have HB2 : Hid (Below w.heap.size w W) := Lib.hid (hW ▸ HB1.out.setCell (p := ⟨w.heap.size, 0, none⟩) (Nat.le_refl _) _)
  rw [hW]
  clear n0 n1 n2 f0 hW HN1 HB1
  obtain ⟨n0, n1, n2⟩ := HN2.out.cells
  have HCC := Lib.hid (HCl.out p k cap S st fin W (by omega) (sts10 HSW.out HB2.out) HOK.out)
  go_wp2_with fail
  refine HCC.out.mono ?_
  rintro e w3 ⟨hyes, hno⟩
  by_cases hr : rightP S k st fin
  · obtain ⟨q, c, l, rfl, hl, hv, hb⟩ := hyes hr
    have HRI := Lib.hid hr
    have HL3 := Lib.hid hl; have HV3 := Lib.hid hv
    have HB3 := Lib.hid (HB2.out.trans (hb.mono HB2.out.size))
    have HN3 := Lib.hid (HN2.out.below hb HN2.out.lt)
    have hrr := rright9_is p k cap S st fin (by omega) w3 HSW.out.1 (fun b off e => (sts10 HSW.out HB3.out).2 b off e)
    rw [decide_eq_true hr] at hrr
    have HRc := Lib.hid hrr
    obtain ⟨ct, hct⟩ : ∃ ct, cntT (isH (alk S k)) 259 = ct := ⟨_, rfl⟩
    rw [hct]
    have HCT := Lib.hid hct
    obtain ⟨b, off, rfl⟩ : ∃ b off, p = some ⟨b, off, none⟩ := by
      rcases HSW.out.1 with h | h
      · have := hr.1; omega
      · exact h
    clear hyes hno hr hl hv hb hrr hct n0 n1 n2 HN2 HB2 HCC
    obtain ⟨n0, n1, n2⟩ := HN3.out.cells
    go_wp2_with fail
    refine HRc.out.mono ?_
    rintro e w4 ⟨rfl, hb⟩
    have HB4 := Lib.hid (HB3.out.trans (hb.mono HB3.out.size))
    have HN4 := Lib.hid (HN3.out.below hb HN3.out.lt)
    have HL4 := Lib.hid (HL3.out.below hb)
    have HK4 := Lib.hid (classes10 b off k cap S st fin (by omega) HOK.out w4 ((sts10 HSW.out HB4.out).2 b off rfl))
    clear hb HRc HN3 HB3 HL3 n0 n1 n2
    obtain ⟨n0, n1, n2⟩ := HN4.out.cells
    go_wp2_with fail
    refine HK4.out.mono ?_
    rintro e w5 ⟨q5, c5, rfl, h5, hb⟩
    rw [HCT.out]
    have HB5 := Lib.hid (HB4.out.trans (hb.mono HB4.out.size))
    have HSm := Lib.hid (same10 q 259 c l q5 259 c5 _ true ⟨fun _ => ⟨rfl, fun j hj => HV3.out j hj⟩, fun _ => rfl⟩ (by decide) (by decide) w5 (HL4.out.below hb) h5)
    clear hb h5 HN4 HB4 HL4 HK4 n0 n1 n2
    go_wp2_with fail
    refine HSm.out.mono ?_
    rintro e w6 ⟨rfl, hb⟩
    have HB6 := Lib.hid (HB5.out.trans (hb.mono HB5.out.size))
    clear hb HSm HB5
    go_wp2_with fail
    go_returns
    exact ⟨rfl, HB6.out⟩
  · obtain ⟨q, c, l, rfl, hl, hv, hb⟩ := hno hr
    have HB3 := Lib.hid (HB2.out.trans (hb.mono HB2.out.size))
    have HN3 := Lib.hid (HN2.out.below hb HN2.out.lt)
    have hrr := rright9_is p k cap S st fin (by omega) w3 HSW.out.1 (fun b off e => (sts10 HSW.out HB3.out).2 b off e)
    rw [decide_eq_false hr] at hrr
    have HRc := Lib.hid hrr
    clear hyes hno hr hl hv hb hrr n0 n1 n2 HN2 HB2 HCC
    obtain ⟨n0, n1, n2⟩ := HN3.out.cells
    go_wp2_with fail
    refine HRc.out.mono ?_
    rintro e w4 ⟨rfl, hb⟩
    have HB4 := Lib.hid (HB3.out.trans (hb.mono HB3.out.size))
    clear hb HRc HN3 HB3 n0 n1 n2
    go_wp2_with fail
    go_returns
    exact ⟨rfl, HB4.out⟩
end Go.Proofs.Ythmkjdpmpcjinaa
