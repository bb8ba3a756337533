/-
  The walks of the reference's Right and Depth.
-/
import Derived.Test.YtepegohopgnmnaaPk18
import Derived.Test.YtepegohopgnmnaaPk11
namespace Go.Proofs.Ytepegohopgnmnaa
open Go.RowKit

theorem tree_false {N : Nat → Nd} {n k : Nat} (hk : k < n) (h : ¬ (0 ≤ fst N k ∧ okN (N k) = true)) : decide (tree N n) = false :=
  decide_eq_false fun ht => h ((tree_iff.1 ht).2.2.1 k hk)

theorem rright_zero (p : Option Addr) (cap : Nat) (N : Nat → Nd) (w : World) :
    Calls Try.prog 13 #[.slice p 0 cap] w fun e w' => e = .returned (.bool (decide (tree N 0))) ∧ Below w.heap.size w w' := by
  have HD : Hid (decide (tree N 0) = false) := Lib.hid (decide_eq_false fun ht => by have := ht.2.2; simp [dep] at this)
  go_enter Try.func13, Try.ntmps13
  go_wp2
  go_ret
  exact ⟨by rw [HD.out] <;> rfl, Below.refl _ _⟩

set_option maxRecDepth 100000 in
set_option maxHeartbeats 8000000 in
theorem rright_some (b off n cap : Nat) (N : Nat → Nd) (hpos : 0 < n) (hn : n ≤ 512) (w : World) (hr : rdN w b off n N) :
    Calls Try.prog 13 #[.slice (some ⟨b, off, none⟩) n cap] w fun e w' => e = .returned (.bool (decide (tree N n))) ∧ Below w.heap.size w w' := by
  have HR0 := Lib.hid hr
  have hn0 : ((n : Int) == 0) = false := beq_eq_false_iff_ne.2 (by omega)
  have hn1 : decide ((512 : Int) < (n : Int)) = false := decide_eq_false (by omega)
  have hn2 : decide (512 < n) = false := decide_eq_false (by omega)
  clear hr
  go_enter Try.func13, Try.ntmps13
  go_wp2_with fail
  refine (firsts_some _ _ _ _ _ (by omega) _ HR0.out).mono ?_
  rintro e w2 ⟨v, rfl, hown, hb2⟩
  have HW2 := Lib.hid hb2
  have HR := Lib.hid (HR0.out.below hb2)
  clear hb2 HR0
  have HO := Lib.hid hown
  clear hown
  obtain ⟨g, vc, rfl, hgl, HG⟩ : ∃ g vc, v = .slice (some ⟨g, 0, none⟩) n vc ∧ g < w2.heap.size ∧ Hid (∀ q, q < n → w2.cell? ⟨g, q, none⟩ = some (.int .i64 (fst N q))) := by
    rcases id HO.out.2 with ⟨rfl, hz⟩ | ⟨g, cp, cur, rfl, -⟩
    · exfalso; omega
    · exact ⟨_, cp, rfl, (HO.out.lt g rfl).2, Lib.hid fun q hq => by rw [HO.out.cellAt q (by omega), fsts_get N n q hq]⟩
  clear HO
  go_wp2_with fail
  go_loopw [4] (fun i wr => ∃ k : Nat, k ≤ n ∧ i = .int .i64 k ∧ Hid (∀ j, j < k → 0 ≤ fst N j ∧ okN (N j) = true) ∧ Below w2.heap.size w2 wr) (fun i _ => n - (intOf i).toNat)
  case atStart => exact ⟨0, Nat.zero_le _, rfl, Lib.hid (fun j hj => by omega), Below.refl _ _⟩
  case round =>
    obtain ⟨k, hk, rfl, HK, hB⟩ := hrel
    by_cases hlt : k < n
    · have hgc : wr.cell? ⟨g, k, none⟩ = some (.int .i64 (fst N k)) := by rw [hB.cell (p := ⟨g, k, none⟩) hgl]; exact HG.out k hlt
      obtain ⟨hbl, p0, p1, p2, p3, p4, p5, p6⟩ := (HR.out.below hB) k hlt
      have hsz := hB.size
      have hglr : g < wr.heap.size := by omega
      have h0 : (0 : Int) ≤ (k : Int) := by omega
      have h1 : (k : Int) < (n : Int) := by omega
      have HN := Lib.hid (tree_false (N := N) hlt)
      have HB := Lib.hid hB
      obtain ⟨fr, hfr⟩ : ∃ fr, fst N k = fr := ⟨_, rfl⟩
      obtain ⟨y, hy⟩ : ∃ y, N k = y := ⟨_, rfl⟩
      rw [hfr] at hgc HN
      rw [hy] at p0 p1 p2 p3 p4 p5 p6 HN
      have HF := Lib.hid hfr; have HY := Lib.hid hy
      clear hB hfr hy
      obtain ⟨q, a, b', c, d, lo, hi⟩ := y
      simp only at p0 p1 p2 p3 p4 p5 p6
      rcases Int.lt_or_le fr 0 with hneg | hfp
      · have d0 : decide (fr < 0) = true := decide_eq_true hneg
        have HZ := Lib.hid (HN.out (fun h => by omega))
        go_wp2
        go_ret
        exact ⟨by rw [HZ.out] <;> rfl, HW2.out.trans ((HB.out.alloc hsz _).mono HW2.out.size)⟩
      · have d0 : decide (fr < 0) = false := decide_eq_false (by omega)
        cases hs : (a == 0 && b' == 0 && c == 0 && d == 0)
        · have hq := set_eq a b' c d false hs
          have HS := Lib.hid hs
          clear hs
          by_cases hk1 : q = 1
          · subst hk1
            have HO : Hid (okN ⟨1, a, b', c, d, lo, hi⟩ = ((lo == 0) && (hi == 0))) := Lib.hid (by simp [okN])
            cases hl : (lo == 0)
            · have hl' : (lo != 0) = true := by simp only [bne, hl]; rfl
              have HL := Lib.hid hl
              have HZ := Lib.hid (HN.out (fun h => by have := h.2; rw [HO.out, HL.out] at this; exact absurd this (by simp)))
              go_wp2
              go_ret
              exact ⟨by rw [HZ.out] <;> rfl, HW2.out.trans ((HB.out.alloc hsz _).mono HW2.out.size)⟩
            · have hl' : (lo != 0) = false := by simp only [bne, hl]; rfl
              have HL := Lib.hid hl
              cases hh : (hi == 0)
              · have hh' : (hi != 0) = true := by simp only [bne, hh]; rfl
                have HH := Lib.hid hh
                have HZ := Lib.hid (HN.out (fun h => by have := h.2; rw [HO.out, HL.out, HH.out] at this; exact absurd this (by simp)))
                go_wp2
                go_ret
                exact ⟨by rw [HZ.out] <;> rfl, HW2.out.trans ((HB.out.alloc hsz _).mono HW2.out.size)⟩
              · have hh' : (hi != 0) = false := by simp only [bne, hh]; rfl
                have HH := Lib.hid hh
                have HK2 : Hid (∀ j, j < k + 1 → 0 ≤ fst N j ∧ okN (N j) = true) := Lib.hid (fun j hj => by
                  by_cases hjk : j = k
                  · subst hjk; rw [HF.out, HY.out]; exact ⟨hfp, by rw [HO.out, HL.out, HH.out]; rfl⟩
                  · exact HK.out j (by omega))
                go_wp2
                go_roundw
                case rel => exact ⟨k + 1, by omega, by go_num, HK2.out, HB.out.alloc hsz _⟩
                case measure => simp [intOf]; omega
          · have k1 : (q == 1) = false := beq_eq_false_iff_ne.2 hk1
            have k1' : (q != 1) = true := by simp [hk1]
            have HO : Hid (okN ⟨q, a, b', c, d, lo, hi⟩ = false) := Lib.hid (by unfold okN; simp only [k1, HS.out]; rfl)
            clear hk1
            have HZ := Lib.hid (HN.out (fun h => by have := h.2; rw [HO.out] at this; exact absurd this (by simp)))
            go_wp2
            go_ret
            exact ⟨by rw [HZ.out] <;> rfl, HW2.out.trans ((HB.out.alloc hsz _).mono HW2.out.size)⟩
        · have hq := set_eq a b' c d true hs
          have HS := Lib.hid hs
          clear hs
          by_cases hk1 : q = 1
          · subst hk1
            have HO : Hid (okN ⟨1, a, b', c, d, lo, hi⟩ = ((lo == 0) && (hi == 0))) := Lib.hid (by simp [okN])
            cases hl : (lo == 0)
            · have hl' : (lo != 0) = true := by simp only [bne, hl]; rfl
              have HL := Lib.hid hl
              have HZ := Lib.hid (HN.out (fun h => by have := h.2; rw [HO.out, HL.out] at this; exact absurd this (by simp)))
              go_wp2
              go_ret
              exact ⟨by rw [HZ.out] <;> rfl, HW2.out.trans ((HB.out.alloc hsz _).mono HW2.out.size)⟩
            · have hl' : (lo != 0) = false := by simp only [bne, hl]; rfl
              have HL := Lib.hid hl
              cases hh : (hi == 0)
              · have hh' : (hi != 0) = true := by simp only [bne, hh]; rfl
                have HH := Lib.hid hh
                have HZ := Lib.hid (HN.out (fun h => by have := h.2; rw [HO.out, HL.out, HH.out] at this; exact absurd this (by simp)))
                go_wp2
                go_ret
                exact ⟨by rw [HZ.out] <;> rfl, HW2.out.trans ((HB.out.alloc hsz _).mono HW2.out.size)⟩
              · have hh' : (hi != 0) = false := by simp only [bne, hh]; rfl
                have HH := Lib.hid hh
                have HK2 : Hid (∀ j, j < k + 1 → 0 ≤ fst N j ∧ okN (N j) = true) := Lib.hid (fun j hj => by
                  by_cases hjk : j = k
                  · subst hjk; rw [HF.out, HY.out]; exact ⟨hfp, by rw [HO.out, HL.out, HH.out]; rfl⟩
                  · exact HK.out j (by omega))
                go_wp2
                go_roundw
                case rel => exact ⟨k + 1, by omega, by go_num, HK2.out, HB.out.alloc hsz _⟩
                case measure => simp [intOf]; omega
          · have k1 : (q == 1) = false := beq_eq_false_iff_ne.2 hk1
            have k1' : (q != 1) = true := by simp [hk1]
            by_cases hk7 : q = 7
            · subst hk7
              have HO : Hid (okN ⟨7, a, b', c, d, lo, hi⟩ = (decide (0 ≤ lo) && decide (lo ≤ 32) && (hi == -1 || (decide (lo ≤ hi) && decide (hi ≤ 32))))) := Lib.hid (by unfold okN; simp only [HS.out]; simp)
              clear k1 k1' hk1
              rcases Int.lt_or_le lo 0 with hl0 | hl0
              · have t0 : decide (lo < 0) = true := decide_eq_true hl0
                have HZ := Lib.hid (HN.out (fun h => by have := h.2; rw [HO.out] at this; simp at this; omega))
                go_wp2
                go_ret
                exact ⟨by rw [HZ.out] <;> rfl, HW2.out.trans ((HB.out.alloc hsz _).mono HW2.out.size)⟩
              · have t0 : decide (lo < 0) = false := decide_eq_false (by omega)
                rcases Int.lt_or_le 32 lo with hl1 | hl1
                · have t1 : decide (32 < lo) = true := decide_eq_true hl1
                  have HZ := Lib.hid (HN.out (fun h => by have := h.2; rw [HO.out] at this; simp at this; omega))
                  go_wp2
                  go_ret
                  exact ⟨by rw [HZ.out] <;> rfl, HW2.out.trans ((HB.out.alloc hsz _).mono HW2.out.size)⟩
                · have t1 : decide (32 < lo) = false := decide_eq_false (by omega)
                  by_cases hm : hi = -1
                  · subst hm
                    have HK2 : Hid (∀ j, j < k + 1 → 0 ≤ fst N j ∧ okN (N j) = true) := Lib.hid (fun j hj => by
                      by_cases hjk : j = k
                      · subst hjk; rw [HF.out, HY.out]; exact ⟨hfp, by rw [HO.out]; simp; omega⟩
                      · exact HK.out j (by omega))
                    go_wp2
                    go_roundw
                    case rel => exact ⟨k + 1, by omega, by go_num, HK2.out, HB.out.alloc hsz _⟩
                    case measure => simp [intOf]; omega
                  · have t2 : (hi == -1) = false := beq_eq_false_iff_ne.2 hm
                    have t2' : (hi != -1) = true := by simp [hm]
                    have HM := Lib.hid hm
                    clear hm
                    rcases Int.lt_or_le hi lo with hl2 | hl2
                    · have t3 : decide (hi < lo) = true := decide_eq_true hl2
                      have HZ := Lib.hid (HN.out (fun h => by have := h.2; rw [HO.out] at this; have hm := HM.out; simp at this; omega))
                      go_wp2
                      go_ret
                      exact ⟨by rw [HZ.out] <;> rfl, HW2.out.trans ((HB.out.alloc hsz _).mono HW2.out.size)⟩
                    · have t3 : decide (hi < lo) = false := decide_eq_false (by omega)
                      rcases Int.lt_or_le 32 hi with hl3 | hl3
                      · have t4 : decide (32 < hi) = true := decide_eq_true hl3
                        have HZ := Lib.hid (HN.out (fun h => by have := h.2; rw [HO.out] at this; have hm := HM.out; simp at this; omega))
                        go_wp2
                        go_ret
                        exact ⟨by rw [HZ.out] <;> rfl, HW2.out.trans ((HB.out.alloc hsz _).mono HW2.out.size)⟩
                      · have t4 : decide (32 < hi) = false := decide_eq_false (by omega)
                        have HK2 : Hid (∀ j, j < k + 1 → 0 ≤ fst N j ∧ okN (N j) = true) := Lib.hid (fun j hj => by
                          by_cases hjk : j = k
                          · subst hjk; rw [HF.out, HY.out]; exact ⟨hfp, by rw [HO.out]; simp; omega⟩
                          · exact HK.out j (by omega))
                        go_wp2
                        go_roundw
                        case rel => exact ⟨k + 1, by omega, by go_num, HK2.out, HB.out.alloc hsz _⟩
                        case measure => simp [intOf]; omega
            · have k7 : (q == 7) = false := beq_eq_false_iff_ne.2 hk7
              have k7' : (q != 7) = true := by simp [hk7]
              have HO : Hid (okN ⟨q, a, b', c, d, lo, hi⟩ = ((lo == 0) && (hi == 0))) := Lib.hid (by unfold okN; simp only [HS.out]; simp [hk7])
              clear hk1 hk7
              cases hl : (lo == 0)
              · have hl' : (lo != 0) = true := by simp only [bne, hl]; rfl
                have HL := Lib.hid hl
                have HZ := Lib.hid (HN.out (fun h => by have := h.2; rw [HO.out, HL.out] at this; exact absurd this (by simp)))
                go_wp2
                go_ret
                exact ⟨by rw [HZ.out] <;> rfl, HW2.out.trans ((HB.out.alloc hsz _).mono HW2.out.size)⟩
              · have hl' : (lo != 0) = false := by simp only [bne, hl]; rfl
                have HL := Lib.hid hl
                cases hh : (hi == 0)
                · have hh' : (hi != 0) = true := by simp only [bne, hh]; rfl
                  have HH := Lib.hid hh
                  have HZ := Lib.hid (HN.out (fun h => by have := h.2; rw [HO.out, HL.out, HH.out] at this; exact absurd this (by simp)))
                  go_wp2
                  go_ret
                  exact ⟨by rw [HZ.out] <;> rfl, HW2.out.trans ((HB.out.alloc hsz _).mono HW2.out.size)⟩
                · have hh' : (hi != 0) = false := by simp only [bne, hh]; rfl
                  have HH := Lib.hid hh
                  have HK2 : Hid (∀ j, j < k + 1 → 0 ≤ fst N j ∧ okN (N j) = true) := Lib.hid (fun j hj => by
                    by_cases hjk : j = k
                    · subst hjk; rw [HF.out, HY.out]; exact ⟨hfp, by rw [HO.out, HL.out, HH.out]; rfl⟩
                    · exact HK.out j (by omega))
                  go_wp2
                  go_roundw
                  case rel => exact ⟨k + 1, by omega, by go_num, HK2.out, HB.out.alloc hsz _⟩
                  case measure => simp [intOf]; omega
    · have hkn : ¬ k < n := hlt
      obtain ⟨t, ht⟩ : ∃ t, n = t + 1 := ⟨n - 1, by omega⟩
      have hgc : wr.cell? ⟨g, t, none⟩ = some (.int .i64 (fst N t)) := by rw [hB.cell (p := ⟨g, t, none⟩) hgl]; exact HG.out t (by omega)
      have HT : Hid (decide (tree N n) = (fst N t == 0)) := Lib.hid (by
        have e : n - 1 = t := by omega
        by_cases h : fst N t = 0
        · rw [h]; exact decide_eq_true (tree_iff.2 ⟨hpos, hn, fun j hj => HK.out j (by omega), by rw [e]; exact h⟩)
        · rw [beq_eq_false_iff_ne.2 h]; exact decide_eq_false fun hh => h (by have := (tree_iff.1 hh).2.2.2; rwa [e] at this))
      have h9 : (n : Int) - 1 = (t : Int) := by omega
      have t0 : (0 : Int) ≤ (t : Int) := by omega
      have t1 : (t : Int) < (n : Int) := by omega
      have HB := Lib.hid hB
      clear ht hB
      go_wp2
      go_ret
      exact ⟨by rw [HT.out] <;> rfl, HW2.out.trans (HB.out.mono HW2.out.size)⟩
end Go.Proofs.Ytepegohopgnmnaa
