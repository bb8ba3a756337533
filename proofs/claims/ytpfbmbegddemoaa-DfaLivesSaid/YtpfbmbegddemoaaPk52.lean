/-
  The walk of the law DfaLives, over whatever Live and Reach are that do as the page says.
-/
import Derived.Test.YtpfbmbegddemoaaPk32
import Derived.Test.YtpfbmbegddemoaaPk18
namespace Go.Proofs.Ytpfbmbegddemoaa
open Go.RowKit

/-- Is one of the first k states, to which one comes from s, one that accepts? -/
def lvJ (x : Da) (N s k : Nat) : Bool := (List.range k).any fun j => wsh (edD x) (N + 1) s j && x.T j
theorem lvJ_succ (x : Da) (N s k : Nat) : lvJ x N s (k + 1) = (lvJ x N s k || (wsh (edD x) (N + 1) s k && x.T k)) := by
  unfold lvJ
  rw [List.range_succ, List.any_append]
  simp
theorem lvJ_iff {x : Da} (hx : rgD x) {N s : Nat} (hN : x.n2 = N + 1) (hs : s < x.n2) : lvJ x N s x.n2 = true ↔ ∃ k, k < x.n2 ∧ rtE (edD x) s k ∧ x.T k = true := by
  unfold lvJ
  simp only [List.any_eq_true, List.mem_range, Bool.and_eq_true, ← hN, comes_iff hx hs]

set_option maxRecDepth 100000 in
set_option maxHeartbeats 20000000 in
theorem lives_any (hA : ∀ w, Calls Try.prog 6 #[] w fun e w' => e = .returned (.bool true) ∧ Below w.heap.size w w') (hL : LivD) (hR : RchD)
    (q0 : Option Addr) (n0 c0 : Nat) (wd st : Int) (q1 : Option Addr) (n1 c1 : Nat) (q2 : Option Addr) (n2 c2 : Nat) (l0 l1 : Nat → Int) (T : Nat → Bool) (w : World) (hr0 : n0 ≤ 300 → rdL w q0 n0 l0) (hr1 : n1 ≤ 4000 → rdL w q1 n1 l1) (hr2 : n2 ≤ 12 → rdBs w q2 n2 T) :
    Calls Try.prog 4 #[dfV q0 n0 c0 wd st q1 n1 c1 q2 n2 c2] w fun e w' => e = .returned (.bool true) ∧ Below w.heap.size w w' := by
  obtain ⟨D, hD⟩ : ∃ D, w.heap.size = D := ⟨_, rfl⟩
  obtain ⟨w1, hw1⟩ : ∃ w1, w.alloc (.cells #[.slice q0 n0 c0, .int .i64 wd, .int .i64 st, .slice q1 n1 c1, .slice q2 n2 c2] 25) = w1 := ⟨_, rfl⟩
  have hz1 : w1.heap.size = D + 1 := by rw [← hw1, World.size_alloc, hD]
  have hb1 : Below D w w1 := hw1 ▸ (Below.refl _ _).alloc (by omega) _
  have hk1 : isDf w1 D q0 n0 c0 wd st q1 n1 c1 q2 n2 c2 := hw1 ▸ hD ▸ heap_alloc_new w _
  have HK := Lib.hid (fun w' (h : Below (D + 1) w1 w') => (hk1.below h (Nat.lt_succ_self D)).cells)
  have HAw := Lib.hid hA
  have HSm := Lib.hid (fun w => small12 q0 n0 c0 wd st q1 n1 c1 q2 n2 c2 w)
  have HW1 := Lib.hid hw1; have HG := Lib.hid hD; have HB1 := Lib.hid hb1; have HZ := Lib.hid hz1
  cases hsm : (decide ((n2 : Int) ≤ 12) && decide ((n1 : Int) ≤ 4000) && decide ((n0 : Int) ≤ 300))
  · rw [hsm] at HSm
    clear hw1 hk1 hb1 hz1 hA hL hR hr0 hr1 hr2 hsm
    go_enter Try.func4, Try.ntmps4
    go_upto_region 1 with (fail)
    rw [HW1.out]
    clear hD
    go_wp2_with fail
    refine (HAw.out _).mono ?_
    rintro e w2 ⟨rfl, hb2⟩
    have HB2 : Hid (Below (D + 1) w1 w2) := Lib.hid (HZ.out ▸ hb2)
    obtain ⟨z0, z1, z2, z3, z4⟩ := HK.out _ HB2.out
    clear hb2
    go_wp2_with fail
    refine (HSm.out _).mono ?_
    rintro e w3 ⟨rfl, hb3⟩
    have HF : Hid (Below w.heap.size w w3) := Lib.hid (HG.out.symm ▸ HB1.out.trans ((HB2.out.trans (hb3.mono (by have := HB2.out.size; have := HZ.out; omega))).mono (Nat.le_succ D)))
    clear hb3 z0 z1 z2 z3 z4
    go_wp2_with fail
    go_returns
    exact ⟨rfl, HF.out⟩
  rw [hsm] at HSm
  have hs3 : n2 ≤ 12 ∧ n1 ≤ 4000 ∧ n0 ≤ 300 := by
    simp only [Bool.and_eq_true, decide_eq_true_eq] at hsm
    omega
  have hd1 : daAt w (dfV q0 n0 c0 wd st q1 n1 c1 q2 n2 c2) ⟨n0, l0, wd, st, n1, l1, n2, T⟩ := ⟨q0, c0, q1, c1, q2, c2, rfl, hr0 hs3.2.2, hr1 hs3.2.1, hr2 hs3.1⟩
  obtain ⟨x, hx⟩ : ∃ x : Da, ⟨n0, l0, wd, st, n1, l1, n2, T⟩ = x := ⟨_, rfl⟩
  rw [hx] at hd1
  have hxn : x.n2 = n2 ∧ x.st = st ∧ x.T = T := by rw [← hx]; exact ⟨rfl, rfl, rfl⟩
  have hsd : smD x := by rw [← hx]; exact ⟨show n0 ≤ 10000 by omega, show n1 ≤ 100000 by omega, show n2 ≤ 1000 by omega⟩
  have HDA := Lib.hid (fun w' (h : Below (D + 1) w1 w') => hd1.below (hD.symm ▸ hb1.trans (h.mono (Nat.le_succ D))))
  have HLv := Lib.hid (fun w' (h : Below (D + 1) w1 w') => hL _ x w' hsd (HDA.out w' h))
  have HRc := Lib.hid (fun w' (h : Below (D + 1) w1 w') => hR _ x w' hsd (HDA.out w' h))
  have HRt := Lib.hid (fun w' (h : Below (D + 1) w1 w') => rright12 _ x hsd.1 hsd.2.1 hsd.2.2 w' (HDA.out w' h))
  have HXN := Lib.hid hxn
  have HSD := Lib.hid hsd
  have hn12 : n2 ≤ 12 := hs3.1
  clear hw1 hk1 hb1 hz1 hA hL hR hr0 hr1 hr2 hsm hs3 hd1 hx hxn hsd
  go_enter Try.func4, Try.ntmps4
  go_upto_region 1 with (fail)
  rw [HW1.out]
  clear hD
  go_wp2_with fail
  refine (HAw.out _).mono ?_
  rintro e w2 ⟨rfl, hb2⟩
  have HB2 : Hid (Below (D + 1) w1 w2) := Lib.hid (HZ.out ▸ hb2)
  obtain ⟨z0, z1, z2, z3, z4⟩ := HK.out _ HB2.out
  clear hb2 HAw
  go_wp2_with fail
  refine (HSm.out _).mono ?_
  rintro e w3 ⟨rfl, hb3⟩
  have HB3 : Hid (Below (D + 1) w1 w3) := Lib.hid (HB2.out.trans (hb3.mono (by have := HB2.out.size; have := HZ.out; omega)))
  clear hb3 z0 z1 z2 z3 z4 HSm HB2
  have hB := HB3.out.drew
  go_wp2_with fail
  go_region_held_law (fun w' => w'.cell? ⟨D, 0, none⟩ = some (.slice q0 n0 c0) ∧ w'.cell? ⟨D, 1, none⟩ = some (.int .i64 wd) ∧ w'.cell? ⟨D, 2, none⟩ = some (.int .i64 st) ∧ w'.cell? ⟨D, 3, none⟩ = some (.slice q1 n1 c1) ∧ w'.cell? ⟨D, 4, none⟩ = some (.slice q2 n2 c2))
    (exact HK.out _ hB)
    (first
      | (go_at_call 14; (with_reducible refine (HLv.out _ hB).mono ?_); rintro e wl ⟨pl, nl, cl, Tl, rfl, hrl, hl0, hl1, hbl⟩; have HRL := Lib.hid hrl; have HL0 := Lib.hid hl0; have HL1 := Lib.hid hl1; have HBL := Lib.hid hbl; (replace hB := hB.trans (hbl.mono (Nat.le_trans (Nat.le_of_eq HZ.out.symm) hB.size))); clear hrl hl0 hl1 hbl)
      | (go_at_call 15; (with_reducible refine (HRc.out _ hB).mono ?_); rintro e wc ⟨pr, nr, cr, Tr, rfl, hrr, hr0, hr1, hbr⟩; have HRR := Lib.hid hrr; have HR0 := Lib.hid hr0; have HR1 := Lib.hid hr1; have HBR := Lib.hid hbr; (replace hB := hB.trans (hbr.mono (Nat.le_trans (Nat.le_of_eq HZ.out.symm) hB.size))); clear hrr hr0 hr1 hbr))
  have HB5 := Lib.hid hB
  have HRl : Hid (rdBs wc pl nl Tl) := Lib.hid (HRL.out.below HBR.out)
  have HRr : Hid (rdBs wc pr nr Tr) := Lib.hid HRR.out
  clear hB HRL HRR HBL HBR HB3 HLv HRc
  obtain ⟨z0, z1, z2, z3, z4⟩ := HK.out _ HB5.out
  go_wp2_with fail
  have hrt := HRt.out _ HB5.out
  cases hg : rgB x with
  | false =>
    rw [hg] at hrt
    have hng : ¬ rgD x := fun h => by rw [rgB_yes h] at hg; cases hg
    obtain rfl : nl = 0 := HL0.out hng
    obtain rfl : nr = 0 := HR0.out hng
    refine hrt.mono ?_
    rintro e w6 ⟨rfl, hb6⟩
    have HF : Hid (Below w.heap.size w w6) := Lib.hid (HG.out.symm ▸ HB1.out.trans ((HB5.out.trans (hb6.mono (by have := HB5.out.size; have := HZ.out; omega))).mono (Nat.le_succ D)))
    clear hrt hg hng hb6 z0 z1 z2 z3 z4
    go_wp2_with fail
    go_returns
    exact ⟨rfl, HF.out⟩
  | true =>
    rw [hg] at hrt
    have hrg := rgB_iff.1 hg
    obtain ⟨e1, e2, e3⟩ := HXN.out
    obtain ⟨hl1, hl2⟩ := HL1.out hrg
    obtain ⟨hr1, hr2⟩ := HR1.out hrg
    obtain rfl : nl = n2 := hl1.trans e1
    obtain rfl : nr = nl := hr1.trans e1
    obtain ⟨N, hN⟩ : ∃ N, x.n2 = N + 1 := ⟨x.n2 - 1, by have := hrg.2.2.2.1; omega⟩
    have HNn : Hid (N + 1 = nr) := Lib.hid (hN.symm.trans e1)
    obtain ⟨S, hS⟩ : ∃ S : Nat, st = S := ⟨st.toNat, by have := hrg.2.2.2.2.2.2.1; rw [e2] at this; omega⟩
    have hSn : S < nr := by have := hrg.2.2.2.2.2.2.2.1; rw [e1, e2] at this; omega
    have HTl : Hid (∀ s, s < nr → Tl s = lvJ x N s nr) := Lib.hid fun s hs => by
      rw [Bool.eq_iff_iff, hl2 s hs]
      have := lvJ_iff hrg hN (s := s) (by omega)
      rw [e1] at this ⊢
      exact this.symm
    have HTr : Hid (∀ s, s < nr → Tr s = wsh (edD x) (N + 1) S s) := Lib.hid fun s hs => by
      rw [Bool.eq_iff_iff, hr2 s hs, e2, hS, Int.toNat_natCast, ← hN, comes_iff hrg (by omega)]
    have HCm := Lib.hid (fun w' (h : Below (D + 1) w1 w') => comes12 _ x hrg HSD.out.2.1 HSD.out.2.2 N hN w' (HDA.out w' h))
    have HRT := Lib.hid hrt
    have HAc := Lib.hid (fun w' (h : Below (D + 1) w1 w') => HDA.out w' h)
    subst hS
    clear hrt hg hrg hl1 hl2 hr1 hr2 hN e1 e2 HL0 HL1 HR0 HR1
    refine HRT.out.mono ?_
    rintro e w6 ⟨rfl, hb6⟩
    have HB6 : Hid (Below (D + 1) w1 w6) := Lib.hid (HB5.out.trans (hb6.mono (by have := HB5.out.size; have := HZ.out; omega)))
    have HRl6 := Lib.hid (HRl.out.below hb6); have HRr6 := Lib.hid (HRr.out.below hb6)
    clear hb6 z0 z1 z2 z3 z4 HRl HRr HRT HB5
    obtain ⟨z0, z1, z2, z3, z4⟩ := HK.out _ HB6.out
    go_wp2_with fail
    refine (HCm.out _ HB6.out).mono ?_
    rintro e w7 ⟨v', rfl, hgd, hb7⟩
    obtain ⟨go, cap, r, rfl, hgl, hgo, hgr⟩ := rdG.of hgd
    rw [HNn.out]
    have HB7 : Hid (Below (D + 1) w1 w7) := Lib.hid (HB6.out.trans (hb7.mono (by have := HB6.out.size; have := HZ.out; omega)))
    have HRl7 := Lib.hid (HRl6.out.below hb7); have HRr7 := Lib.hid (HRr6.out.below hb7)
    have HC7 : Hid (∀ w', Below w7.heap.size w7 w' → ∀ i j, i < nr → j < nr → w'.cell? ⟨go, i, none⟩ = some (.slice (some ⟨r i, 0, none⟩) nr nr) ∧ w'.cell? ⟨r i, j, none⟩ = some (.bool (wsh (edD x) (N + 1) i j))) := Lib.hid fun w' h i j hi hj => by
      have e := HNn.out
      subst e
      exact ⟨(h.cell (p := ⟨go, i, none⟩) hgl).trans (hgo i (by omega)), (h.cell (p := ⟨r i, j, none⟩) (hgr i (by omega)).1).trans ((hgr i (by omega)).2 j (by omega))⟩
    have hnn : ((nr : Int) != (nr : Int)) = false := by simp
    clear hgd hb7 z0 z1 z2 z3 z4 hgl hgo hgr HRl6 HRr6 HCm HB6
    go_wp2_with fail
    go_loopw [6] (fun sv wr => ∃ s : Nat, s ≤ nr ∧ sv = .int .i64 s ∧ Hid (Below w7.heap.size w7 wr)) (fun sv _ => nr - (intOf sv).toNat)
    case atStart => exact ⟨0, Nat.zero_le _, rfl, Lib.hid (Below.refl _ _)⟩
    case round =>
      obtain ⟨s, hs, rfl, HB⟩ := hrel
      by_cases hlt : s < nr
      · have i0 : (0 : Int) ≤ (s : Int) := by omega
        have i1 : (s : Int) < (nr : Int) := by omega
        go_wp2_with fail
        go_loopw [7, 8] (fun lv kv wx => ∃ k : Nat, k ≤ nr ∧ kv = .int .i64 k ∧ lv = .bool (lvJ x N s k) ∧ Hid (Below w7.heap.size w7 wx)) (fun _ kv _ => nr - (intOf kv).toNat)
        case atStart => exact ⟨0, Nat.zero_le _, rfl, rfl, HB⟩
        case round =>
          clear HB
          obtain ⟨k, hk, rfl, rfl, HB⟩ := hrel
          have hBB : Below (D + 1) w1 wr := HB7.out.trans (HB.out.mono (by have := HB7.out.size; have := HZ.out; omega))
          by_cases hltk : k < nr
          · have j0 : (0 : Int) ≤ (k : Int) := by omega
            have j1 : (k : Int) < (nr : Int) := by omega
            obtain ⟨cg, cr⟩ := HC7.out _ HB.out s k hlt hltk
            have HLS := Lib.hid (lvJ_succ x N s k)
            obtain ⟨u, hu⟩ : ∃ u, lvJ x N s k = u := ⟨_, rfl⟩
            obtain ⟨a, ha⟩ : ∃ a, wsh (edD x) (N + 1) s k = a := ⟨_, rfl⟩
            rw [hu, ha] at HLS
            rw [ha] at cr
            rw [hu]
            obtain ⟨z0, z1, z2, z3, z4⟩ := HK.out _ hBB
            obtain ⟨p0, p1, p2, p3, p4, p5, hv, -, -, h5⟩ := HDA.out _ hBB
            have e5 : p4 = q2 ∧ x.n2 = nr := by
              simp only [dfV, Value.agg.injEq] at hv
              have h9 := congrArg (fun a => a[4]?) hv
              simp at h9
              exact ⟨h9.1.symm, h9.2.1.symm⟩
            obtain ⟨bt, ot, ebt, -, ct⟩ := h5 k (by omega)
            rw [e5.1] at ebt
            subst ebt
            obtain ⟨t, ht⟩ : ∃ t, x.T k = t := ⟨_, rfl⟩
            rw [ht] at ct HLS
            clear hu ha hv h5 e5 ht hBB
            cases u <;> cases a
            all_goals
              go_wp2_with fail
              go_roundw
              case rel => exact ⟨k + 1, by omega, by go_num, by rw [HLS.out] <;> rfl, HB⟩
              case measure => simp [intOf]; omega
          · obtain hkn : k = nr := by omega
            obtain ⟨cg, cr⟩ := HC7.out _ HB.out S s hSn hlt
            obtain ⟨b1, o1, rfl, -, x1⟩ := (HRl7.out.below HB.out) s hlt
            obtain ⟨b2, o2, rfl, -, x2⟩ := (HRr7.out.below HB.out) s hlt
            rw [HTl.out s hlt] at x1
            rw [HTr.out s hlt] at x2
            rw [hkn]
            obtain ⟨u, hu⟩ : ∃ u, lvJ x N s nr = u := ⟨_, rfl⟩
            obtain ⟨a, ha⟩ : ∃ a, wsh (edD x) (N + 1) S s = a := ⟨_, rfl⟩
            rw [hu] at x1 ⊢
            rw [ha] at x2 cr
            have huu : (u != u) = false := by simp
            have haa : (a != a) = false := by simp
            have s0 : (0 : Int) ≤ (S : Int) := by omega
            have s1 : (S : Int) < (nr : Int) := by omega
            obtain ⟨z0, z1, z2, z3, z4⟩ := HK.out _ hBB
            subst hkn
            clear hu ha hBB
            go_wp2_with fail
            go_quiet (fail)
            have HBd := Lib.hid (below_drewN nq HB.out)
            go_wp2_with fail
            go_roundw
            case rel => exact ⟨s + 1, by omega, by go_num, HBd⟩
            case measure => simp [intOf]; omega
      · obtain rfl : s = nr := by omega
        have HF : Hid (Below w.heap.size w wr) := Lib.hid (HG.out.symm ▸ HB1.out.trans ((HB7.out.trans (HB.out.mono (by have := HB7.out.size; have := HZ.out; omega))).mono (Nat.le_succ D)))
        go_wp2_with fail
        go_returns
        exact ⟨rfl, HF.out⟩
end Go.Proofs.Ytpfbmbegddemoaa
