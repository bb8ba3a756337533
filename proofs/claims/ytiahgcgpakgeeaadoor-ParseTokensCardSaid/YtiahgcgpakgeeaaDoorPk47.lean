/-
  The walk of the code's Pattern.
-/
import Derived.Test.YtiahgcgpakgeeaaDoorPk41
import Derived.Test.YtiahgcgpakgeeaaDoorPk46
namespace Go.Proofs.YtiahgcgpakgeeaaDoor
open Go.RowKit

set_option maxRecDepth 100000 in
set_option maxHeartbeats 2000000 in
theorem cpat_any (p : ByteArray) (w : World) (hT : Okw w) : Calls Tryd.prog 8 #[.string p] w (ofPost (patF p) w) := by
  obtain ⟨R, hR⟩ : ∃ R, patF p = R := ⟨_, rfl⟩
  rw [hR]
  unfold patF at hR
  rcases Nat.lt_or_ge 200 p.size with h | h
  · rw [if_pos h] at hR
    have HE := Lib.hid hR.symm
    have HP := Lib.hid h
    clear hR h hT
    go_enter Tryd.func8, Tryd.ntmps8
    go_wp2_with fail
    refine (ltoks_long p HP.out _).mono ?_
    rintro e1 w1 ⟨rfl, rfl⟩
    go_wp2
    go_returns
    exact ofPost.bad _ _ HE.out (Below.refl _ _)
  · rw [if_neg (by omega)] at hR
    have HQ := Lib.hid (ltoks_any p h w hT)
    have HLN := Lib.hid (fun l n (h : toks p = (some l, n)) => toks_length h)
    obtain ⟨⟨r, k⟩, hr⟩ : ∃ r, toks p = r := ⟨_, rfl⟩
    rw [hr] at hR HQ HLN
    simp only at hR
    have HPS := Lib.hid h
    have hps : (p.size : Int) ≤ 200 := by omega
    clear hT hr h
    cases r with
    | none =>
      have HE := Lib.hid hR.symm
      clear hR HLN
      go_enter Tryd.func8, Tryd.ntmps8
      go_wp2_with fail
      refine HQ.out.mono ?_
      rintro e1 w1 ⟨-, h2, hb⟩
      obtain rfl := h2 k rfl
      have HB := Lib.hid hb
      clear h2 hb HQ
      go_wp2
      go_returns
      exact ofPost.bad _ _ HE.out HB.out
    | some l =>
      simp only at hR
      have hln : l.length ≤ 200 := by have := HLN.out l k rfl; have := HPS.out; omega
      have HR := Lib.hid hR
      clear hR HLN
      go_enter Tryd.func8, Tryd.ntmps8
      go_wp2_with fail
      refine HQ.out.mono ?_
      rintro e1 w1 ⟨h1, -, hb⟩
      obtain ⟨v, rfl, hown⟩ := h1 l k rfl
      have HB := Lib.hid hb
      have HC : Hid (Calls Tryd.prog 5 #[v, .int .i64 (p.size : Int)] w1 (ofPost (ofF (tof l) l.length p.size) w1)) := Lib.hid (by
        rcases toks_own hown with ⟨rfl, h0⟩ | ⟨g, cap, rfl, hc, hrd⟩
        · rw [h0]; exact cof_zero (tof l) none 0 p.size w1
        · exact cof_some (tof l) l.length g 0 cap p.size (by omega) hc w1 hrd)
      rw [HR.out] at HC
      clear h1 hown hb HQ HR hln
      go_wp2_with fail
      refine HC.out.mono ?_
      intro e2 w2 h2
      obtain ⟨v2, rfl⟩ := h2.form
      have H2 := Lib.hid h2
      clear h2 HC
      go_wp2
      go_returns
      exact H2.out.lift HB.out
end Go.Proofs.YtiahgcgpakgeeaaDoor
