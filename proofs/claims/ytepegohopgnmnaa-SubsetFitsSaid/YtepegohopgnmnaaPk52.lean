/-
  The walk of the law SubsetFits, where its automaton is decided.
-/
import Derived.Test.YtepegohopgnmnaaPk51
import Derived.Test.YtepegohopgnmnaaPk44
namespace Go.Proofs.Ytepegohopgnmnaa
open Go.RowKit

set_option maxRecDepth 100000 in
set_option maxHeartbeats 8000000 in
/-- The law, where there is a tree, and its automaton is decided, or there are too many states. -/
theorem sfits_both (hA : ∀ w, Calls Try.prog 6 #[] w fun e w' => e = .returned (.bool true) ∧ Below w.heap.size w w')
    (p : Option Addr) (n cap k : Nat) (hk : k = min n 30) (hk1 : 1 ≤ k) (hcap : n ≤ cap) (t : ByteArray) (w : World) (D : Int) (hD : D ≤ 60)
    (hR : ∀ w', Below w.heap.size w w' → Calls Try.prog 13 #[.slice p k cap] w' fun e w'' => e = .returned (.bool true) ∧ Below w'.heap.size w' w'')
    (hS : ∀ w', Below w.heap.size w w' → Calls Try.prog 14 #[.slice p k cap, .int .i64 ((k : Int) - 1)] w' fun e w'' => e = .returned (.int .i64 D) ∧ Below w'.heap.size w' w'')
    (m : Nat) (hm : m = min t.size 8) (s : ByteArray) (hs : t.extract 0 m = s) (hsz : s.size = m) (F : Gr)
    (hAl : ∀ w', Below w.heap.size w w' → Calls Try.prog 16 #[.slice p k cap, .string s] w' (fitPost m F w'))
    (hB : ∀ w', Below w.heap.size w w' → Calls Try.prog 15 #[.slice p k cap] w' fun e w3 => ∃ g M c st fin, e = .returned (.tuple #[nfV g M c st fin, .int .i64 0]) ∧ Below w'.heap.size w' w3 ∧
      (((∀ w4, Below w3.heap.size w3 w4 → Calls Try.prog 8 #[nfV g M c st fin, .int .i64 64] w4 fun e w5 => ∃ q0 c0 s0 q1 c1 q2 c2, e = .returned (.tuple #[dfV q0 0 c0 0 s0 q1 0 c1 q2 0 c2, .int .i64 5]) ∧ Below w4.heap.size w4 w5) ∧
      (∀ w4, Below w3.heap.size w3 w4 → Calls Try.prog 12 #[nfV g M c st fin, .int .i64 64] w4 fun e w5 => e = .returned (.int .i64 65) ∧ Below w4.heap.size w4 w5)) ∨
      (∀ w4, Below w3.heap.size w3 w4 → Calls Try.prog 8 #[nfV g M c st fin, .int .i64 64] w4 fun e w5 => ∃ p0 c0, ∃ wd : Int, ∃ p1 n1 c1 p2 n2 c2 T, ∃ σ : Nat → Nat → Nat, e = .returned (.tuple #[dfV p0 259 c0 wd 0 p1 n1 c1 p2 n2 c2, .int .i64 0]) ∧ Below w4.heap.size w4 w5 ∧ rdBs w5 p2 n2 T ∧
        ∀ i j, i ≤ j → j ≤ m → σ i j < n2 ∧ T (σ i j) = F i j ∧ ∀ w6 v, Below w5.heap.size w5 w6 → rdW w6 v (wrY m (tx7 s) i j) → Calls Try.prog 17 #[dfV p0 259 c0 wd 0 p1 n1 c1 p2 n2 c2, .int .i64 0, v] w6 fun e w7 => e = .returned (.int .i64 (σ i j : Nat)) ∧ Below w6.heap.size w6 w7))) :
    Calls Try.prog 5 #[.slice p n cap, .string t] w fun e w' => e = .returned (.bool true) ∧ Below w.heap.size w w' := by
  have HA := Lib.hid hA; have HR := Lib.hid hR; have HS := Lib.hid hS; have HBd := Lib.hid hB; have HAl := Lib.hid hAl; have HSX := Lib.hid hs; have HTS := Lib.hid hsz
  have m8 : m ≤ 8 := by omega
  have h1 : (if (30 : Int) < (n : Int) then (30 : Int) else (n : Int)) = (k : Int) := by split <;> omega
  have h2 : (if (8 : Int) < (t.size : Int) then (8 : Int) else (t.size : Int)) = (m : Int) := by split <;> omega
  have e1 : min (n : Int) 30 = (k : Int) := by omega
  have e2 : min (t.size : Int) 8 = (m : Int) := by omega
  have H1 := Lib.hid h1
  have H2 := Lib.hid h2
  have k0 : (0 : Int) ≤ (k : Int) := by omega
  have k1 : (k : Int) ≤ (cap : Int) := by omega
  have k2 : (k : Int) ≤ 30 := by omega
  have k4 : (1 : Int) ≤ (k : Int) := by omega
  have m0 : (0 : Int) ≤ (m : Int) := by omega
  have m1 : (m : Int) ≤ (t.size : Int) := by omega
  have dD : decide (60 < D) = false := decide_eq_false (by omega)
  clear hA hR hS hB hAl h1 h2 hk hm hs hsz
  go_enter Try.func5, Try.ntmps5
  go_wp2_with fail
  refine (HA.out _).mono ?_
  rintro e w1 ⟨rfl, hb⟩
  have HB1 := Lib.hid hb
  clear hb HA
  go_wp2_with fail
  go_region_held_law (fun _ => True) (exact trivial) (first | (refine wp_min9 _ _ rfl (n : Int) 30 (k : Int) rfl rfl H1.out ?_) | (refine wp_min9 _ _ rfl (t.size : Int) 8 (m : Int) rfl rfl H2.out ?_))
  all_goals
    have HB2 := Lib.hid HB1.out.drew
    clear HB1
    generalize w1.drew = w2 at *
    rw [HSX.out]
    go_wp2_with fail
    refine (HR.out _ HB2.out).mono ?_
    rintro e w3 ⟨rfl, hb⟩
    have HB3 := Lib.hid (HB2.out.trans (hb.mono HB2.out.size))
    clear hb HR HB2
    go_wp2_with fail
    refine (HS.out _ HB3.out).mono ?_
    rintro e w4 ⟨rfl, hb⟩
    have HB4 := Lib.hid (HB3.out.trans (hb.mono HB3.out.size))
    clear hb HB3
    go_wp2_with fail
    refine (HBd.out _ HB4.out).mono ?_
    rintro e w5 ⟨g, M, c, st, fin, rfl, hb, hsb⟩
    have HB5 := Lib.hid (HB4.out.trans (hb.mono HB4.out.size))
    rcases hsb with ⟨hsb, hct⟩ | hsb
    · have HSB := Lib.hid hsb; have HCT := Lib.hid hct
      clear hsb hct HAl
      obtain ⟨w6, hw6⟩ : ∃ w6, w5.alloc (.cells #[.slice g M c, .int .i64 st, .int .i64 fin] 24) = w6 := ⟨_, rfl⟩
      have hb6 : Below w5.heap.size w5 w6 := hw6 ▸ (Below.refl _ _).alloc (Nat.le_refl _) _
      have HN6 : Hid (is3 24 w6 w5.heap.size (.slice g M c) st fin) := Lib.hid (hw6 ▸ is3.new _ _ _ _ _)
      have HB56 := Lib.hid hb6
      have HB6 := Lib.hid (HB5.out.trans (hb6.mono HB5.out.size))
      have HW6 := Lib.hid hw6
      clear hb hb6 hw6 HB4 HBd HS
      go_upto_region 7 with (fail)
      rw [HW6.out]
      obtain ⟨n0, n1, n2⟩ := HN6.out.cells
      go_wp2_with fail
      refine (HSB.out _ HB56.out).mono ?_
      rintro e w7 ⟨q0, c0, s0, q1, c1, q2, c2, rfl, hb⟩
      obtain ⟨w8, hw8⟩ : ∃ w8, w7.alloc (.cells #[.slice q0 0 c0, .int .i64 0, .int .i64 s0, .slice q1 0 c1, .slice q2 0 c2] 30) = w8 := ⟨_, rfl⟩
      have hb8 : Below w7.heap.size w7 w8 := hw8 ▸ (Below.refl _ _).alloc (Nat.le_refl _) _
      have hb68 : Below w6.heap.size w6 w8 := hb.trans (hb8.mono hb.size)
      have HN8 : Hid (is3 24 w8 w5.heap.size (.slice g M c) st fin) := Lib.hid (HN6.out.below hb68 HN6.out.lt)
      have HB8 := Lib.hid (HB6.out.trans (hb68.mono HB6.out.size))
      have HB58 := Lib.hid (HB56.out.trans (hb68.mono HB56.out.size))
      have HW8 := Lib.hid hw8
      clear hb hb8 hb68 hw8 n0 n1 n2 HSB HN6 HB6
      go_upto_region 8 with (fail)
      rw [HW8.out]
      obtain ⟨n0, n1, n2⟩ := HN8.out.cells
      go_wp2_with fail
      refine (HCT.out _ HB58.out).mono ?_
      rintro e w9 ⟨rfl, hb⟩
      have HB9 := Lib.hid (HB8.out.trans (hb.mono HB8.out.size))
      clear hb n0 n1 n2
      go_wp2_with fail
      go_returns
      exact ⟨rfl, HB9.out⟩
    · have HSB := Lib.hid hsb
      clear hsb
      obtain ⟨w6, hw6⟩ : ∃ w6, w5.alloc (.cells #[.slice g M c, .int .i64 st, .int .i64 fin] 24) = w6 := ⟨_, rfl⟩
      have hb6 : Below w5.heap.size w5 w6 := hw6 ▸ (Below.refl _ _).alloc (Nat.le_refl _) _
      have HN6 : Hid (is3 24 w6 w5.heap.size (.slice g M c) st fin) := Lib.hid (hw6 ▸ is3.new _ _ _ _ _)
      have HB56 := Lib.hid hb6
      have HB6 := Lib.hid (HB5.out.trans (hb6.mono HB5.out.size))
      have HW6 := Lib.hid hw6
      clear hb hb6 hw6 HB4 HBd HS
      go_upto_region 7 with (fail)
      rw [HW6.out]
      obtain ⟨n0, n1, n2⟩ := HN6.out.cells
      go_wp2_with fail
      refine (HSB.out _ HB56.out).mono ?_
      rintro e w7 ⟨p0, c0, wd, p1, n1', c1, p2, n2', c2, T, σ, rfl, hb, hrb, hrun⟩
      obtain ⟨w8, hw8⟩ : ∃ w8, w7.alloc (.cells #[.slice p0 259 c0, .int .i64 wd, .int .i64 0, .slice p1 n1' c1, .slice p2 n2' c2] 30) = w8 := ⟨_, rfl⟩
      have hb8 : Below w7.heap.size w7 w8 := hw8 ▸ (Below.refl _ _).alloc (Nat.le_refl _) _
      have HD8 : Hid (isDf w8 w7.heap.size p0 259 c0 wd 0 p1 n1' c1 p2 n2' c2) := Lib.hid (hw8 ▸ heap_alloc_new w7 _)
      have HB78 := Lib.hid hb8
      have HB8 := Lib.hid (HB6.out.trans ((hb.trans (hb8.mono hb.size)).mono HB6.out.size))
      have HRB := Lib.hid hrb; have HRN := Lib.hid hrun
      have HW8 := Lib.hid hw8
      clear hb hb8 hw8 hrb hrun n0 n1 n2 HSB HN6 HB6 HB56
      go_upto_region 8 with (fail)
      rw [HW8.out]
      go_wp2_with fail
      refine (HAl.out _ HB8.out).mono ?_
      rintro e W ⟨v, rfl, hg, hb⟩
      obtain ⟨ga, ca, ra, rfl, hga, hga1, hga2⟩ := rdG.of hg
      have HW := Lib.hid (HB8.out.trans (hb.mono HB8.out.size))
      have HQ := Lib.hid (HB78.out.trans (hb.mono HB78.out.size))
      have HDW := Lib.hid (HD8.out.below hb HD8.out.lt)
      obtain ⟨D7, hD7⟩ : ∃ D7, w7.heap.size = D7 := ⟨_, rfl⟩
      rw [hD7] at HDW ⊢
      have HK : Hid (∀ w', Below W.heap.size W w' → ∀ i j, i ≤ j → j ≤ m → ∃ b o, p2 = some ⟨b, o, none⟩ ∧ w'.cell? ⟨D7, 0, none⟩ = some (.slice p0 259 c0) ∧ w'.cell? ⟨D7, 1, none⟩ = some (.int .i64 wd) ∧ w'.cell? ⟨D7, 2, none⟩ = some (.int .i64 0) ∧ w'.cell? ⟨D7, 3, none⟩ = some (.slice p1 n1' c1) ∧ w'.cell? ⟨D7, 4, none⟩ = some (.slice p2 n2' c2) ∧
          w'.cell? ⟨ga, i, none⟩ = some (.slice (some ⟨ra i, 0, none⟩) (m + 1) (m + 1)) ∧ w'.cell? ⟨ra i, j, none⟩ = some (.bool (F i j)) ∧ w'.cell? ⟨b, o + σ i j, none⟩ = some (.bool (F i j))) := Lib.hid fun w' hB i j hij hj => by
        obtain ⟨x0, x1, x2, x3, x4⟩ := (HDW.out.below hB HDW.out.lt).cells
        obtain ⟨hσ, hT, -⟩ := HRN.out i j hij hj
        obtain ⟨b, o, e, hlt, hc⟩ := HRB.out _ hσ
        refine ⟨b, o, e, x0, x1, x2, x3, x4, ?_, ?_, ?_⟩
        · rw [hB.cell (p := ⟨ga, i, none⟩) hga]; exact hga1 i (by omega)
        · rw [hB.cell (p := ⟨ra i, j, none⟩) (hga2 i (by omega)).1]; exact (hga2 i (by omega)).2 j hj
        · have hh := HQ.out.trans (hB.mono HQ.out.size)
          rw [hh.cell (p := ⟨b, o + σ i j, none⟩) hlt, ← hT]; exact hc
      have hmz : s.size = m := HTS.out
      clear hb hg hga hga1 hga2 HAl HB8 HD8 HW8 hD7
      go_wp2_with fail
      go_loopw [10] (fun iv wr => ∃ i : Nat, i ≤ m + 1 ∧ iv = .int .i64 i ∧ Below W.heap.size W wr) (fun iv _ => m + 1 - (intOf iv).toNat)
      case atStart => exact ⟨0, Nat.zero_le _, rfl, Below.refl _ _⟩
      case round =>
        obtain ⟨i, hi, rfl, hB⟩ := hrel
        have HB := Lib.hid hB
        clear hB
        by_cases hlt : i ≤ m
        · have d1 : decide ((i : Int) ≤ (m : Int)) = true := decide_eq_true (by omega)
          have i0 : (0 : Int) ≤ (i : Int) := by omega
          have i1 : (i : Int) < (m : Int) + 1 := by omega
          go_wp2_with fail
          go_loopw [11] (fun jv wx => ∃ j : Nat, i ≤ j ∧ j ≤ m + 1 ∧ jv = .int .i64 j ∧ Below W.heap.size W wx) (fun jv _ => m + 1 - (intOf jv).toNat)
          case atStart => exact ⟨i, Nat.le_refl _, hi, rfl, HB.out⟩
          case round =>
            obtain ⟨j, hij, hj, rfl, hB⟩ := hrel
            have HB' := Lib.hid hB
            by_cases hjm : j ≤ m
            · have d2 : decide ((j : Int) ≤ (m : Int)) = true := decide_eq_true (by omega)
              have j0 : (0 : Int) ≤ (j : Int) := by omega
              have j1 : (j : Int) < (m : Int) + 1 := by omega
              have hB := hB.drew
              obtain ⟨b2, o2, rfl, -⟩ := HK.out _ hB i j hij hjm
              obtain ⟨hσ, -, hrn⟩ := HRN.out i j hij hjm
              have HWo := Lib.hid (fun w => word11 s m hmz (by omega) i j hij hjm w)
              obtain ⟨sg, hsg⟩ : ∃ sg, σ i j = sg := ⟨_, rfl⟩
              obtain ⟨fb, hfb⟩ : ∃ fb, F i j = fb := ⟨_, rfl⟩
              rw [hsg] at hσ hrn
              have HRn := Lib.hid hrn
              have HKS : Hid (∀ w', Below W.heap.size W w' → w'.cell? ⟨D7, 0, none⟩ = some (.slice p0 259 c0) ∧ w'.cell? ⟨D7, 1, none⟩ = some (.int .i64 wd) ∧ w'.cell? ⟨D7, 2, none⟩ = some (.int .i64 0) ∧ w'.cell? ⟨D7, 3, none⟩ = some (.slice p1 n1' c1) ∧ w'.cell? ⟨D7, 4, none⟩ = some (.slice (some ⟨b2, o2, none⟩) n2' c2) ∧
                  w'.cell? ⟨ga, i, none⟩ = some (.slice (some ⟨ra i, 0, none⟩) (m + 1) (m + 1)) ∧ w'.cell? ⟨ra i, j, none⟩ = some (.bool fb) ∧ w'.cell? ⟨b2, o2 + sg, none⟩ = some (.bool fb)) := Lib.hid fun w' h => by
                obtain ⟨b', o', e', h8⟩ := HK.out w' h i j hij hjm
                cases e'
                rw [hsg, hfb] at h8
                exact h8
              have s0 : (0 : Int) ≤ (sg : Int) := by omega
              have s1 : (sg : Int) < (n2' : Int) := by omega
              have hff : (fb != fb) = false := by simp
              have HIJ : Hid (i ≤ j ∧ j ≤ m) := Lib.hid ⟨hij, hjm⟩
              clear hfb hsg hrn hij hjm hlt hi hj hσ
              go_wp2_with fail
              go_region_held_law (fun w' => w'.cell? ⟨D7, 0, none⟩ = some (.slice p0 259 c0) ∧ w'.cell? ⟨D7, 1, none⟩ = some (.int .i64 wd) ∧ w'.cell? ⟨D7, 2, none⟩ = some (.int .i64 0) ∧ w'.cell? ⟨D7, 3, none⟩ = some (.slice p1 n1' c1) ∧ w'.cell? ⟨D7, 4, none⟩ = some (.slice (some ⟨b2, o2, none⟩) n2' c2) ∧
                  w'.cell? ⟨ga, i, none⟩ = some (.slice (some ⟨ra i, 0, none⟩) (m + 1) (m + 1)) ∧ w'.cell? ⟨ra i, j, none⟩ = some (.bool fb) ∧ w'.cell? ⟨b2, o2 + sg, none⟩ = some (.bool fb))
                (exact HKS.out _ hB)
                (first
                  | (go_at_call 18; (with_reducible refine (HWo.out _).mono ?_); rintro e wk ⟨vw, rfl, hvw, hb⟩; have HVW := Lib.hid hvw; (replace hB := hB.trans (hb.mono hB.size)); clear hb hvw)
                  | (go_at_call 17; (with_reducible refine (HRn.out _ _ (HQ.out.trans (hB.mono HQ.out.size)) HVW.out).mono ?_); rintro e wk2 ⟨rfl, hb⟩; (replace hB := hB.trans (hb.mono hB.size)); clear hb))
              all_goals
                have HB9 := Lib.hid hB
                clear hB
                obtain ⟨hij, hjm⟩ := HIJ.out
                go_wp2_with fail
                go_roundw
                case rel => exact ⟨j + 1, by omega, by omega, by go_num, HB9.out⟩
                case measure => simp [intOf]; omega
            · have d2 : decide ((j : Int) ≤ (m : Int)) = false := decide_eq_false (by omega)
              clear hB
              go_wp2_with fail
              go_roundw
              case rel => exact ⟨i + 1, by omega, by go_num, HB'.out⟩
              case measure => simp [intOf]; omega
        · have d1 : decide ((i : Int) ≤ (m : Int)) = false := decide_eq_false (by omega)
          have HFe := Lib.hid (HW.out.trans (HB.out.mono HW.out.size))
          go_wp2_with fail
          go_returns
          exact ⟨rfl, HFe.out⟩
end Go.Proofs.Ytepegohopgnmnaa
