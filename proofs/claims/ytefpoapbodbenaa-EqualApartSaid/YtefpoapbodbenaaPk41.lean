/-
  The walk of the fourteenth reference's Apart.
-/
import Derived.Test.YtefpoapbodbenaaPk40
import Derived.Test.YtefpoapbodbenaaPk31
import Derived.Test.YtefpoapbodbenaaPk24
import Derived.Deep.RegionHeldLaw
import Derived.Deep.Cut
import Derived.BigQuiet
import Derived.Deep.QuietTactic
namespace Go.Proofs.Ytefpoapbodbenaa
open Go.RowKit

/-- Both accept alike at the first k ways. -/
def agY (x y : Da) (l : Wy (Nat × Nat)) (k : Nat) : Prop := ∀ j (p' q' : Nat) (u : List Nat), j < k → l[j]? = some ((p', q'), u) → x.T p' = y.T q'
/-- A way in a block of its own. -/
def isWa (w : World) (h p q : Nat) (uv : Value) : Prop := w.heap[h]? = some (.cells #[.int .i64 (p : Int), .int .i64 (q : Int), uv] 56 (0, 0))
theorem isWa.lt {w : World} {h p q : Nat} {uv : Value} (H : isWa w h p q uv) : h < w.heap.size := lt_of_block H
theorem isWa.cells {w : World} {h p q : Nat} {uv : Value} (H : isWa w h p q uv) : w.cell? ⟨h, 0, none⟩ = some (.int .i64 (p : Int)) ∧ w.cell? ⟨h, 1, none⟩ = some (.int .i64 (q : Int)) ∧ w.cell? ⟨h, 2, none⟩ = some uv := by
  unfold isWa at H
  exact ⟨by simp [World.cell?, H], by simp [World.cell?, H], by simp [World.cell?, H]⟩
theorem isWa.below {w w' : World} {h p q : Nat} {uv : Value} (H : isWa w h p q uv) (hb : Below w.heap.size w w') : isWa w' h p q uv := (hb.block h H.lt).trans H
theorem wdF_app (u : List Nat) (c j : Nat) : wdF (u ++ [c]) j = if j < u.length then wdF u j else if j = u.length then (c : Int) else 0 := by
  unfold wdF
  rw [List.getD_eq_getElem?_getD, List.getD_eq_getElem?_getD]
  split
  · rename_i h
    rw [List.getElem?_append_left h]
  · rename_i h
    rw [List.getElem?_append_right (by omega)]
    split
    · rename_i e
      rw [e, Nat.sub_self]; rfl
    · rename_i e
      rw [List.getElem?_eq_none (by simp; omega)]; rfl
/-- No word is longer than there are ways ahead of it. -/
def lnI (l : Wy (Nat × Nat)) : Prop := ∀ (i : Nat) (e : (Nat × Nat) × List Nat), l[i]? = some e → e.2.length ≤ i
theorem lnI_one {P : Nat × Nat} : lnI [(P, [])] := fun i e h => by
  match i, h with
  | 0, h =>
    have : (P, []) = e := by simpa using h
    rw [← this]; exact Nat.le_refl _
  | i + 1, h => simp at h
theorem lnI_app {l : Wy (Nat × Nat)} {k c : Nat} {P : Nat × Nat} {u : List Nat} (h : lnI l) (hk : k < l.length) (hu : u.length ≤ k) : lnI (l ++ [(P, u ++ [c])]) := fun i e he => by
  rcases Nat.lt_or_ge i l.length with g | g
  · rw [List.getElem?_append_left g] at he
    exact h i e he
  · rw [List.getElem?_append_right g] at he
    have h0 : i - l.length = 0 := by
      rcases Nat.eq_zero_or_pos (i - l.length) with q | q
      · exact q
      · rw [List.getElem?_eq_none (by simp; omega)] at he; cases he
    rw [h0] at he
    have : (P, u ++ [c]) = e := by simpa using he
    rw [← this, List.length_append, List.length_singleton]
    omega
set_option maxRecDepth 100000 in
set_option maxHeartbeats 16000000 in
theorem rap14 (q0 : Option Addr) (c0 : Nat) (q1 : Option Addr) (c1 : Nat) (q2 : Option Addr) (c2 : Nat) (q0' : Option Addr) (c0' : Nat) (q1' : Option Addr) (c1' : Nat) (q2' : Option Addr) (c2' : Nat) (x y : Da) (hx : rgD x) (hy : rgD y) (hs1 : x.n1 ≤ 100000) (hs2 : y.n1 ≤ 100000) (hm : x.n2 * y.n2 ≤ 1000) (w : World)
    (hd : daAt w (dfV q0 x.n0 c0 x.wd x.st q1 x.n1 c1 q2 x.n2 c2) x) (hd' : daAt w (dfV q0' y.n0 c0' y.wd y.st q1' y.n1 c1' q2' y.n2 c2') y) :
    Calls Try.prog 12 #[dfV q0 x.n0 c0 x.wd x.st q1 x.n1 c1 q2 x.n2 c2, dfV q0' y.n0 c0' y.wd y.st q1' y.n1 c1' q2' y.n2 c2'] w fun e w' => ((∃ u pt cc, e = .returned (.tuple #[.slice pt u.length cc, .bool true]) ∧ rdL w' pt u.length (wdF u) ∧ apW x y u) ∨ (e = .returned (.tuple #[.slice none 0 0, .bool false]) ∧ ∀ v, ¬ dfW x y v)) ∧ Below w.heap.size w w' := by
  obtain ⟨D, hD⟩ : ∃ D, w.heap.size = D := ⟨_, rfl⟩
  obtain ⟨W1, hW1⟩ : ∃ W1, (w.alloc (.cells #[.slice q0 x.n0 c0, .int .i64 x.wd, .int .i64 x.st, .slice q1 x.n1 c1, .slice q2 x.n2 c2] 25)).alloc (.cells #[.slice q0' y.n0 c0', .int .i64 y.wd, .int .i64 y.st, .slice q1' y.n1 c1', .slice q2' y.n2 c2'] 25) = W1 := ⟨_, rfl⟩
  have hb1 : Below D w W1 := hW1 ▸ hD ▸ (((Below.refl _ _).alloc (Nat.le_refl _) _).alloc (by rw [World.size_alloc]; omega) _)
  have hz1 : W1.heap.size = D + 2 := by rw [← hW1, World.size_alloc, World.size_alloc, hD]
  have hk1 : isDf W1 D q0 x.n0 c0 x.wd x.st q1 x.n1 c1 q2 x.n2 c2 := by
    rw [← hW1, ← hD]
    exact (Below.heap_alloc (w.alloc _) _ w.heap.size (by rw [World.size_alloc]; omega)).trans (heap_alloc_new w _)
  have hk2 : isDf W1 (D + 1) q0' y.n0 c0' y.wd y.st q1' y.n1 c1' q2' y.n2 c2' := by
    rw [← hW1, ← hD, show w.heap.size + 1 = (w.alloc (.cells #[.slice q0 x.n0 c0, .int .i64 x.wd, .int .i64 x.st, .slice q1 x.n1 c1, .slice q2 x.n2 c2] 25)).heap.size by rw [World.size_alloc]]
    exact heap_alloc_new _ _
  have hd9 := hd; have hd9' := hd'
  obtain ⟨_, _, _, _, _, _, ev, r0, r1, r2⟩ := hd9
  obtain ⟨_, _, _, _, _, _, ev', r0', r1', r2'⟩ := hd9'
  simp only [dfV, Value.agg.injEq, Array.mk.injEq, List.cons.injEq, Value.slice.injEq, true_and, and_true] at ev ev'
  obtain ⟨⟨rfl, rfl⟩, ⟨rfl, rfl⟩, rfl, rfl⟩ := ev
  obtain ⟨⟨rfl, rfl⟩, ⟨rfl, rfl⟩, rfl, rfl⟩ := ev'
  have HBW : Hid (∀ w', Below (D + 2) W1 w' → Below D w w') := Lib.hid fun w' h => hb1.trans (h.mono (by omega))
  have HRD : Hid (∀ w', Below D w w' → rdL w' q0 259 x.l0 ∧ rdL w' q1 x.n1 x.l1 ∧ rdBs w' q2 x.n2 x.T ∧ rdL w' q0' 259 y.l0 ∧ rdL w' q1' y.n1 y.l1 ∧ rdBs w' q2' y.n2 y.T) := Lib.hid fun w' h => ⟨by rw [← hx.1]; exact r0.below (hD.symm ▸ h), r1.below (hD.symm ▸ h), r2.below (hD.symm ▸ h), by rw [← hy.1]; exact r0'.below (hD.symm ▸ h), r1'.below (hD.symm ▸ h), r2'.below (hD.symm ▸ h)⟩
  have HK : Hid (∀ w', Below (D + 2) W1 w' → w'.cell? ⟨D, 0, none⟩ = some (.slice q0 x.n0 c0) ∧ w'.cell? ⟨D, 1, none⟩ = some (.int .i64 x.wd) ∧ w'.cell? ⟨D, 2, none⟩ = some (.int .i64 x.st) ∧ w'.cell? ⟨D, 3, none⟩ = some (.slice q1 x.n1 c1) ∧ w'.cell? ⟨D, 4, none⟩ = some (.slice q2 x.n2 c2) ∧ w'.cell? ⟨D + 1, 0, none⟩ = some (.slice q0' y.n0 c0') ∧ w'.cell? ⟨D + 1, 1, none⟩ = some (.int .i64 y.wd) ∧ w'.cell? ⟨D + 1, 2, none⟩ = some (.int .i64 y.st) ∧ w'.cell? ⟨D + 1, 3, none⟩ = some (.slice q1' y.n1 c1') ∧ w'.cell? ⟨D + 1, 4, none⟩ = some (.slice q2' y.n2 c2')) := Lib.hid fun w' h => by
    obtain ⟨y0, y1, y2, y3, y4⟩ := (hk1.below h (by omega)).cells
    obtain ⟨z0, z1, z2, z3, z4⟩ := (hk2.below h (by omega)).cells
    exact ⟨y0, y1, y2, y3, y4, z0, z1, z2, z3, z4⟩
  have HF : Hid (∀ w', Below (D + 2) W1 w' → Below w.heap.size w w') := Lib.hid fun w' h => by rw [hD]; exact hb1.trans (h.mono (by omega))
  have HSZ : Hid (∀ w' w'', Below (D + 2) W1 w' → Below w'.heap.size w' w'' → Below (D + 2) W1 w'') := Lib.hid fun w' w'' h h' => h.trans (h'.mono (by have := h.size; omega))
  obtain ⟨p0, hp0⟩ : ∃ p0 : Nat, x.st.toNat = p0 := ⟨_, rfl⟩
  obtain ⟨s0, hs0⟩ : ∃ s0 : Nat, y.st.toNat = s0 := ⟨_, rfl⟩
  have hps : x.st = (p0 : Int) := by have := hx.2.2.2.2.2.2.1; omega
  have hqs : y.st = (s0 : Int) := by have := hy.2.2.2.2.2.2.1; omega
  obtain ⟨W2, hW2⟩ : ∃ W2, W1.alloc (.cells #[.int .i64 (p0 : Int), .int .i64 (s0 : Int), .slice none 0 0] 56) = W2 := ⟨_, rfl⟩
  have hb2 : Below (D + 2) W1 W2 := hW2 ▸ hz1 ▸ (Below.refl _ _).alloc (Nat.le_refl _) _
  have HWY0 : Hid (WyR W2 (D + 2) 56 (.slice (some ⟨D + 2, 0, none⟩) 1 1) [⟨(p0 : Int), (s0 : Int), none, 0, 0⟩] [((p0, s0), [])]) := Lib.hid (WyR.one (by
    have := World.ownsRow_lit (base := D + 2) (e := 56) (size := 3) W1 #[.int .i64 (p0 : Int), .int .i64 (s0 : Int), .slice none 0 0] 1 (by omega) (by decide) rfl
    rw [hW2, hz1] at this
    exact this))
  have HOK0 : Hid (okY (go14 x y) (st14 x y) [((p0, s0), [])] 0 0) := Lib.hid (by
    have : st14 x y = (p0, s0) := by unfold st14; rw [hp0, hs0]
    rw [← this]; exact okY_zero _ _)
  have HAG0 : Hid (agY x y [((p0, s0), [])] 0) := Lib.hid fun j _ _ _ hj _ => absurd hj (Nat.not_lt_zero _)
  have HLI0 : Hid (lnI [((p0, s0), [])]) := Lib.hid lnI_one
  obtain ⟨M, hM⟩ : ∃ M, x.n2 * y.n2 = M := ⟨_, rfl⟩
  have hMM : M ≤ 1000 := hM ▸ hm
  have HB2 := Lib.hid hb2; have HW1 := Lib.hid hW1; have HW2 := Lib.hid hW2; have HZ1 := Lib.hid hz1; have HM := Lib.hid hM
  have HX := Lib.hid hx; have HY := Lib.hid hy; have HS1 := Lib.hid hs1; have HS2 := Lib.hid hs2
  have HPS := Lib.hid hps; have HQS := Lib.hid hqs
  obtain ⟨y0, y1, y2, y3, y4, z0, z1, z2, z3, z4⟩ := HK.out _ (Below.refl _ _)
  rw [hps] at y2
  rw [hqs] at z2
  have HDD := Lib.hid hD
  clear hW1 hb1 hk1 hk2 hd hd' r0 r1 r2 r0' r1' r2' hx hy hs1 hs2 hm hM hps hqs hp0 hs0 hb2
  go_enter Try.func12, Try.ntmps12
  go_upto_region 1 with (fail)
  rw [HW1.out]
  clear hD
  go_wp2_with fail
  clear y0 y1 y2 y3 y4 z0 z1 z2 z3 z4 hz1 hW2
  go_loopw [6, 7] (fun sv kv wr => ∃ (k : Nat) (l : Wy (Nat × Nat)) (G : List Wv14) (pp : Option Addr) (n cc : Nat), kv = .int .i64 (k : Int) ∧ sv = .slice pp n cc ∧ Hid (k ≤ n) ∧ Hid (l.length = n) ∧ Hid (WyR wr (D + 2) 56 (.slice pp n cc) G l) ∧ Hid (okY (go14 x y) (st14 x y) l k 0) ∧ Hid (agY x y l k) ∧ Hid (lnI l) ∧ Hid (Below (D + 2) W1 wr)) (fun _ kv _ => M + 1 - (intOf kv).toNat)
  case atStart => exact ⟨0, _, _, _, 1, 1, rfl, rfl, Lib.hid (Nat.zero_le _), Lib.hid rfl, HWY0, HOK0, HAG0, HLI0, HB2⟩
  case round =>
    clear HWY0 HOK0 HAG0 HB2 HLI0
    obtain ⟨k, l, G, pp, n, cc, rfl, rfl, HLE, HLN, HWY, HOK, HAG, HLI, HB⟩ := hrel
    have hfew := (ways_few HX.out HY.out HOK.out).1
    rw [HM.out, HLN.out] at hfew
    have hkn := HLE.out
    have k0 : (0 : Int) ≤ (k : Int) := by omega
    have n1 : (n : Int) ≤ 1000 := by omega
    by_cases hlt : k < n
    · have k1 : (k : Int) < (n : Int) := by omega
      have hkl : k < l.length := by rw [HLN.out]; exact hlt
      obtain ⟨r, uv, rfl, -, hrl, -, e0, e1, e2, hsp⟩ := HWY.out.cell k hkl
      obtain ⟨⟨⟨p, q⟩, u⟩, hX⟩ : ∃ e, l[k] = e := ⟨_, rfl⟩
      have hXs : l[k]? = some ((p, q), u) := by rw [List.getElem?_eq_getElem hkl, hX]
      rw [hX] at e0 e1 hsp
      simp only at e0 e1 hsp
      obtain ⟨pu, cu, rfl⟩ := spF_of hsp
      obtain ⟨X0, hX0⟩ : ∃ X0, G[k]? = some X0 := ⟨_, List.getElem?_eq_getElem (by rw [HWY.out.len]; exact hkl)⟩
      obtain ⟨o1, o2, o3⟩ := HWY.out.oks k X0 _ hX0 hXs
      have hap := HWY.out.ap X0 (List.mem_of_getElem? hX0)
      have huw : Value.slice pu u.length cu = X0.word := by
        have hr := HWY.out.row
        rw [show n = G.length by have := HWY.out.len; have := HLN.out; omega] at hr
        obtain ⟨hi0, hi1⟩ := List.getElem?_eq_some_iff.1 hX0
        have h3 := (wvC_at G k hi0).2.2
        rw [hi1] at h3
        have h4 := World.ownsRow.cellAt hr (k * 3 + 2) (by omega)
        rw [h3, e2] at h4
        exact Option.some.inj h4
      rw [← huw] at o3 hap
      obtain ⟨hpx, hqy⟩ := (ways_few HX.out HY.out HOK.out).2 p q u (List.mem_of_getElem? hXs)
      obtain ⟨h, hh⟩ : ∃ h, wr.heap.size = h := ⟨_, rfl⟩
      obtain ⟨W5, hW5⟩ : ∃ W5, wr.alloc (.cells #[.int .i64 (p : Int), .int .i64 (q : Int), .slice pu u.length cu] 56) = W5 := ⟨_, rfl⟩
      have hb5 : Below wr.heap.size wr W5 := hW5 ▸ (Below.refl _ _).alloc (Nat.le_refl _) _
      have hP5 : isWa W5 h p q (.slice pu u.length cu) := hW5 ▸ hh ▸ heap_alloc_new wr _
      have HB5 : Hid (Below (D + 2) W1 W5) := Lib.hid (HSZ.out _ _ HB.out hb5)
      obtain ⟨y0, y1, y2, y3, y4, z0, z1, z2, z3, z4⟩ := HK.out _ HB5.out
      obtain ⟨-, -, ra, -, -, rb⟩ := HRD.out _ (HBW.out _ HB5.out)
      obtain ⟨ba, oa, rfl, -, ha2⟩ := ra p hpx
      obtain ⟨bb, ob, rfl, -, hb2⟩ := rb q hqy
      obtain ⟨t, ht⟩ : ∃ t, x.T p = t := ⟨_, rfl⟩
      obtain ⟨t', ht'⟩ : ∃ t', y.T q = t' := ⟨_, rfl⟩
      rw [ht] at ha2
      rw [ht'] at hb2
      obtain ⟨a0, a1, a2⟩ := hP5.cells
      have HT := Lib.hid ht; have HT' := Lib.hid ht'; have HXs := Lib.hid hXs; have HX0 := Lib.hid hX0; have HP5 := Lib.hid hP5; have HW5 := Lib.hid hW5
      have HO3 := Lib.hid (o3.below hb5); have HAPT := Lib.hid hap; have HWY5 := Lib.hid (HWY.out.below hb5)
      have HPX := Lib.hid hpx; have HQY := Lib.hid hqy; have HH := Lib.hid hh
      have HHR : Hid (r ≠ h) := Lib.hid (by omega)
      have HHL : Hid (D + 2 ≤ h) := Lib.hid (by have := HB.out.size; have := HZ1.out; omega)
      have HO3r := Lib.hid o3
      have p0' : (0 : Int) ≤ (p : Int) := by omega
      have p1' : (p : Int) < (x.n2 : Int) := by omega
      have q0'' : (0 : Int) ≤ (q : Int) := by omega
      have q1'' : (q : Int) < (y.n2 : Int) := by omega
      have HUW := Lib.hid huw
      clear hX hXs hX0 o1 o2 o3 hap huw hsp hb5 hP5 hW5 ra rb ht ht' hpx hqy hkl hrl HWY
      go_upto_region 6 with (fail)
      rw [HW5.out]
      clear hh e0 e1 e2 HW5
      obtain ⟨bt, hbt⟩ : ∃ bt, (t != t') = bt := ⟨_, rfl⟩
      go_cut [40] from 28 to 40 (fun bv wx => bv = .bool bt ∧ Hid (Below W5.heap.size W5 wx))
      case first =>
        cases t <;> cases t' <;> (subst hbt; go_quiet (fail); go_wp2_with fail; go_meet; exact ⟨rfl, Lib.hid (below_drewN nq (Below.refl _ _))⟩)
      case rest =>
      obtain ⟨rfl, HB6⟩ := hcut
      obtain ⟨W6, hW6⟩ : ∃ W6, W6 = wc := ⟨_, rfl⟩
      subst hW6
      have HB06 : Hid (Below (D + 2) W1 W6) := Lib.hid (HSZ.out _ _ HB5.out HB6.out)
      have HP6 := Lib.hid (HP5.out.below HB6.out)
      have HO6 := Lib.hid (HO3.out.below HB6.out)
      have HWY6 := Lib.hid (HWY5.out.below HB6.out)
      clear y0 y1 y2 y3 y4 z0 z1 z2 z3 z4 a0 a1 a2 ha2 hb2 HP5 HO3 HWY5 HB5 HB6 p0' p1' q0'' q1''
      obtain ⟨a0, a1, a2⟩ := HP6.out.cells
      cases bt with
      | true =>
        have HAP : Hid (apW x y u) := Lib.hid (ap_found HOK.out HXs.out (by rw [HT.out, HT'.out]; revert hbt; cases t <;> cases t' <;> simp) HAG.out)
        have HRU := Lib.hid (show rdL W6 pu u.length (wdF u) from HO6.out.rd)
        go_wp2_with fail
        go_returns
        exact ⟨.inl ⟨u, pu, ⟨cu, rfl⟩, HRU.out, HAP.out⟩, HF.out _ HB06.out⟩
      | false =>
        obtain rfl : t = t' := by revert hbt; cases t <;> cases t' <;> simp
        have HAGk : Hid (agY x y l (k + 1)) := Lib.hid fun j p' q' v hj e => by
          by_cases g : j = k
          · subst g
            have := HXs.out
            rw [this] at e
            cases e
            rw [HT.out, HT'.out]
          · exact HAG.out j p' q' v (by omega) e
        clear hbt HAG
        have HUL : Hid (u.length ≤ 1000) := Lib.hid (by have := HLI.out k _ HXs.out; simp only at this; omega)
        have HOB : Hid ((Value.slice (some ⟨r, 0, none⟩) n cc).ownBlock ≠ some h) := Lib.hid (by simp [Value.ownBlock]; exact HHR.out)
        obtain ⟨wo, hwo⟩ : ∃ wo, wo = wr := ⟨_, rfl⟩
        subst hwo
        clear HO6 HO3r HAPT a0 a1 a2
        go_wp2_with fail
        go_loopw [6, 9] (fun sv iv wr => ∃ (c : Nat) (l' : Wy (Nat × Nat)) (G' : List Wv14) (pp : Option Addr) (n' cc : Nat), iv = .int .i64 (c : Int) ∧ sv = .slice pp n' cc ∧ c ≤ 259 ∧ Hid (l'.length = n') ∧ Hid (WyR wr (D + 2) 56 (.slice pp n' cc) G' l') ∧ Hid (okY (go14 x y) (st14 x y) l' k c) ∧ Hid (l'[k]? = some ((p, q), u)) ∧ Hid (G'[k]? = some X0) ∧ Hid (agY x y l' (k + 1)) ∧ Hid ((Value.slice pp n' cc).ownBlock ≠ some h) ∧ Hid (isWa wr h p q (.slice pu u.length cu)) ∧ Hid (lnI l') ∧ Hid (Below (D + 2) W1 wr)) (fun _ iv _ => 259 - (intOf iv).toNat)
        case atStart => exact ⟨0, l, G, some ⟨r, 0, none⟩, n, cc, rfl, rfl, Nat.zero_le _, HLN, HWY6, HOK, HXs, HX0, HAGk, HOB, HP6, HLI, HB06⟩
        case round =>
          clear HOK HXs HX0 HAGk HOB HP6 HB06 HWY6 HLE HLN HLI
          obtain ⟨c, l', G', pp, n', cc', rfl, rfl, hc, HLN, HWY, HOK, HXs, HX0, HAG, HOB, HP, HLI, HB⟩ := hrel
          have hkl := lt_some HXs.out
          have hfew' := (ways_few HX.out HY.out HOK.out).1
          rw [HM.out, HLN.out] at hfew'
          have c0i : (0 : Int) ≤ (c : Int) := by omega
          by_cases hlc : c < 259
          · have c1i : (c : Int) < 259 := by omega
            obtain ⟨r', uv', rfl, -, hrl', -⟩ := HWY.out.cell k hkl
            obtain ⟨o1, o2, o3⟩ := HWY.out.oks k X0 _ HX0.out HXs.out
            rw [← HUW.out] at o3
            obtain ⟨Wx, hWx⟩ : ∃ Wx : Nat, x.wd = Wx := ⟨x.wd.toNat, by have := HX.out.2.1; omega⟩
            obtain ⟨Wz, hWz⟩ : ∃ Wz : Nat, y.wd = Wz := ⟨y.wd.toNat, by have := HY.out.2.1; omega⟩
            obtain ⟨ga, hga⟩ : ∃ ga, goD x p c = ga := ⟨_, rfl⟩
            obtain ⟨gb, hgb⟩ : ∃ gb, goD y q c = gb := ⟨_, rfl⟩
            have HGO : Hid (go14 x y c (p, q) = (ga, gb)) := Lib.hid (by unfold go14; rw [hga, hgb])
            have HGa : Hid (∀ w', Below wr.heap.size wr w' → Calls Try.prog 24 #[.agg #[.slice q0 x.n0 c0, .int .i64 x.wd, .int .i64 x.st, .slice q1 x.n1 c1, .slice (some ⟨ba, oa, none⟩) x.n2 c2], .int .i64 (p : Int), .int .i64 (c : Int)] w' fun e w'' => e = .returned (.int .i64 (ga : Int)) ∧ Below w'.heap.size w' w'') := Lib.hid fun w' h => by
              obtain ⟨g1, g2, -⟩ := HRD.out _ (HBW.out _ (HSZ.out _ _ HB.out h))
              rw [HX.out.1, hWx, ← hga]
              exact goC13 HX.out HS1.out hWx q0 c0 q1 c1 (some ⟨ba, oa, none⟩) x.n2 c2 p c HPX.out hlc w' g1 g2
            have HGb : Hid (∀ w', Below wr.heap.size wr w' → Calls Try.prog 24 #[.agg #[.slice q0' y.n0 c0', .int .i64 y.wd, .int .i64 y.st, .slice q1' y.n1 c1', .slice (some ⟨bb, ob, none⟩) y.n2 c2'], .int .i64 (q : Int), .int .i64 (c : Int)] w' fun e w'' => e = .returned (.int .i64 (gb : Int)) ∧ Below w'.heap.size w' w'') := Lib.hid fun w' h => by
              obtain ⟨-, -, -, g1, g2, -⟩ := HRD.out _ (HBW.out _ (HSZ.out _ _ HB.out h))
              rw [HY.out.1, hWz, ← hgb]
              exact goC13 HY.out HS2.out hWz q0' c0' q1' c1' (some ⟨bb, ob, none⟩) y.n2 c2' q c HQY.out hlc w' g1 g2
            obtain ⟨am, ham⟩ : ∃ am, amB (fun i => ((l'.getD i ((0, 0), [])).1.1 : Nat)) (fun i => ((l'.getD i ((0, 0), [])).1.2 : Nat)) (ga : Int) (gb : Int) n' = am := ⟨_, rfl⟩
            have HAM : Hid (∀ w', Below wr.heap.size wr w' → Calls Try.prog 25 #[.slice (some ⟨r', 0, none⟩) n' cc', .int .i64 (ga : Int), .int .i64 (gb : Int)] w' fun e w'' => e = .returned (.bool am) ∧ Below w'.heap.size w' w'') := Lib.hid fun w' hw' => by
              have h1 := among14 r' cc' n' (fun i => ((l'.getD i ((0, 0), [])).1.1 : Nat)) (fun i => ((l'.getD i ((0, 0), [])).1.2 : Nat)) ga gb (by omega) w' (Nat.lt_of_lt_of_le hrl' hw'.size) (fun i hi => by
                have hil : i < l'.length := by rw [HLN.out]; exact hi
                obtain ⟨g9, u9, e9, -, -, -, k1, k2, -⟩ := (HWY.out.below hw').cell i hil
                cases e9
                simp only [List.getD_eq_getElem?_getD, List.getElem?_eq_getElem hil, Option.getD_some]
                exact ⟨k1, k2⟩)
              rw [ham] at h1
              exact h1
            have HAMI : Hid (am = true ↔ ∃ v, ((ga, gb), v) ∈ l') := Lib.hid (by
              rw [← ham, amB_iff]
              constructor
              · rintro ⟨i, h1, h2, h3⟩
                have hil : i < l'.length := by rw [HLN.out]; exact h1
                simp only [List.getD_eq_getElem?_getD, List.getElem?_eq_getElem hil, Option.getD_some] at h2 h3
                refine ⟨(l'[i]).2, ?_⟩
                have e : l'[i] = ((ga, gb), (l'[i]).2) := Prod.ext (Prod.ext (by show _ = ga; omega) (by show _ = gb; omega)) rfl
                rw [← e]
                exact List.getElem_mem hil
              · rintro ⟨v, hv⟩
                obtain ⟨i, hi⟩ := mem_at hv
                have hil := lt_some hi
                refine ⟨i, by rw [← HLN.out]; exact hil, ?_⟩
                simp only [List.getD_eq_getElem?_getD, hi, Option.getD_some]
                exact ⟨trivial, trivial⟩)
            have HOKp : Hid (okY (go14 x y) (st14 x y) (adW l' (ga, gb) (u ++ [c])) k (c + 1)) := Lib.hid (by
              have := okY_put HOK.out hlc HXs.out
              rw [HGO.out] at this
              exact this)
            have HKC : Hid (∀ w', Below wr.heap.size wr w' → w'.cell? ⟨D, 0, none⟩ = some (.slice q0 x.n0 c0) ∧ w'.cell? ⟨D, 1, none⟩ = some (.int .i64 x.wd) ∧ w'.cell? ⟨D, 2, none⟩ = some (.int .i64 x.st) ∧ w'.cell? ⟨D, 3, none⟩ = some (.slice q1 x.n1 c1) ∧ w'.cell? ⟨D, 4, none⟩ = some (.slice (some ⟨ba, oa, none⟩) x.n2 c2) ∧ w'.cell? ⟨D + 1, 0, none⟩ = some (.slice q0' y.n0 c0') ∧ w'.cell? ⟨D + 1, 1, none⟩ = some (.int .i64 y.wd) ∧ w'.cell? ⟨D + 1, 2, none⟩ = some (.int .i64 y.st) ∧ w'.cell? ⟨D + 1, 3, none⟩ = some (.slice q1' y.n1 c1') ∧ w'.cell? ⟨D + 1, 4, none⟩ = some (.slice (some ⟨bb, ob, none⟩) y.n2 c2') ∧ w'.cell? ⟨h, 0, none⟩ = some (.int .i64 (p : Int)) ∧ w'.cell? ⟨h, 1, none⟩ = some (.int .i64 (q : Int))) := Lib.hid fun w' h => by
              obtain ⟨y0, y1, y2, y3, y4, z0, z1, z2, z3, z4⟩ := HK.out _ (HSZ.out _ _ HB.out h)
              obtain ⟨a0, a1, -⟩ := (HP.out.below h).cells
              exact ⟨y0, y1, y2, y3, y4, z0, z1, z2, z3, z4, a0, a1⟩
            have HSRC : Hid (∀ w', Below wr.heap.size wr w' → spF w' (D + 2) (.slice pu u.length cu) (wdF u) u.length) := Lib.hid fun w' h => o3.below h
            have hB : Below wr.heap.size wr wr.drew := (Below.refl _ _).drew
            have HRL := Lib.hid hrl'
            clear hga hgb ham o1 o2 o3 hWx hWz hrl'
            go_upto_region 11 with (fail)
            go_region_held_law (fun w' => w'.cell? ⟨D, 0, none⟩ = some (.slice q0 x.n0 c0) ∧ w'.cell? ⟨D, 1, none⟩ = some (.int .i64 x.wd) ∧ w'.cell? ⟨D, 2, none⟩ = some (.int .i64 x.st) ∧ w'.cell? ⟨D, 3, none⟩ = some (.slice q1 x.n1 c1) ∧ w'.cell? ⟨D, 4, none⟩ = some (.slice (some ⟨ba, oa, none⟩) x.n2 c2) ∧ w'.cell? ⟨D + 1, 0, none⟩ = some (.slice q0' y.n0 c0') ∧ w'.cell? ⟨D + 1, 1, none⟩ = some (.int .i64 y.wd) ∧ w'.cell? ⟨D + 1, 2, none⟩ = some (.int .i64 y.st) ∧ w'.cell? ⟨D + 1, 3, none⟩ = some (.slice q1' y.n1 c1') ∧ w'.cell? ⟨D + 1, 4, none⟩ = some (.slice (some ⟨bb, ob, none⟩) y.n2 c2') ∧ w'.cell? ⟨h, 0, none⟩ = some (.int .i64 (p : Int)) ∧ w'.cell? ⟨h, 1, none⟩ = some (.int .i64 (q : Int)))
              (exact HKC.out _ hB)
              (first | (with_reducible refine (HGa.out _ hB).mono ?_; rintro e wa ⟨rfl, hba⟩; replace hB := hB.trans (hba.mono hB.size); clear hba) | (with_reducible refine (HGb.out _ hB).mono ?_; rintro e wb ⟨rfl, hbb⟩; replace hB := hB.trans (hbb.mono hB.size); clear hbb))
            all_goals
              have HBB := Lib.hid hB
              clear hB
              go_wp2_with fail
              refine (HAM.out _ HBB.out).mono ?_
              rintro e w7 ⟨rfl, hb7⟩
              have HB7 := Lib.hid (HBB.out.trans (hb7.mono HBB.out.size))
              clear hb7
              cases am with
              | true =>
                have hin := HAMI.out.1 rfl
                have HOK2 : Hid (okY (go14 x y) (st14 x y) l' k (c + 1)) := Lib.hid (by have := HOKp.out; rw [adW_in hin] at this; exact this)
                have HWY2 := Lib.hid (HWY.out.below HB7.out)
                have HP2 := Lib.hid (HP.out.below HB7.out)
                have HB2 := Lib.hid (HSZ.out _ _ HB.out HB7.out)
                clear hin HGa HGb HAM HKC
                go_wp2_with fail
                go_roundw
                case rel => exact ⟨c + 1, l', G', some ⟨r', 0, none⟩, n', cc', by go_num, rfl, by omega, HLN, HWY2, HOK2, HXs, HX0, HAG, HOB, HP2, HLI, HB2⟩
                case measure => simp [intOf]; omega
              | false =>
                have hout : ¬ ∃ v, ((ga, gb), v) ∈ l' := fun hv => by have := HAMI.out.2 hv; cases this
                have HOK2 : Hid (okY (go14 x y) (st14 x y) (l' ++ [((ga, gb), u ++ [c])]) k (c + 1)) := Lib.hid (by have := HOKp.out; rw [adW_out hout] at this; exact this)
                have HWY7 := Lib.hid (HWY.out.below HB7.out)
                have HP7 := Lib.hid (HP.out.below HB7.out)
                have HB17 := Lib.hid (HSZ.out _ _ HB.out HB7.out)
                have HS7 := Lib.hid (HSRC.out _ HB7.out)
                clear hout HGa HGb HAM HKC HAMI HSRC HOKp HOK
                obtain ⟨E, hE⟩ : ∃ E, w7.heap.size = E := ⟨_, rfl⟩
                have hrE : r' < E := by have := HRL.out; have := HB7.out.size; omega
                obtain ⟨W8, hW8⟩ : ∃ W8, w7.alloc (.cells #[] 3) = W8 := ⟨_, rfl⟩
                have hb8 : Below w7.heap.size w7 W8 := hW8 ▸ (Below.refl _ _).alloc (Nat.le_refl _) _
                have hz8 : W8.heap.size = E + 1 := by rw [← hW8, World.size_alloc, hE]
                have HO8 : Hid (spF W8 E (.slice (some ⟨E, 0, none⟩) 0 0) (wdF (u ++ [c])) 0) := Lib.hid (by
                  have := World.ownsRow_lit (base := E) (e := 3) (size := 1) w7 #[] 0 (by omega) (by decide) rfl
                  rw [hW8, hE] at this
                  exact this)
                have h28 := (HP7.out.below hb8).cells.2.2
                have hsrc : (Value.slice pu u.length cu = .slice none 0 0 ∧ u.length = 0) ∨ ∃ g c9, Value.slice pu u.length cu = .slice (some ⟨g, 0, none⟩) u.length c9 ∧ ∀ j, j < u.length → W8.cell? ⟨g, j, none⟩ = some (.int .i64 (wdF (u ++ [c]) (0 + j))) := by
                  have hs8 := HS7.out.below hb8
                  rcases id hs8.2 with ⟨e1, e2⟩ | ⟨g, cap, cur, e1, _⟩
                  · exact .inl ⟨e1, e2⟩
                  · refine .inr ⟨g, cap, e1, fun j hj => ?_⟩
                    have hs9 : spF W8 (D + 2) (.slice (some ⟨g, 0, none⟩) u.length cap) (wdF u) u.length := e1 ▸ hs8
                    rw [World.ownsRow.cellAt hs9 j (by omega), fnv_at _ _ j hj, Nat.zero_add, wdF_app, if_pos hj]
                have HSC := Lib.hid hsrc
                have HLU : Hid (0 + u.length ≤ 1000000) := Lib.hid (by
                  have := HUL.out; omega)
                have HZ8 : Hid (E ≤ W8.heap.size) := Lib.hid (by omega)
                have HE := Lib.hid hE; have HB8 := Lib.hid hb8; have HZZ := Lib.hid hz8
                have HRE := Lib.hid hrE
                clear hsrc hb8 hz8 hrE
                go_wp2_with (at_builtin; refine append_fm rfl _ _ rfl E (.slice (some ⟨E, 0, none⟩) 0 0) (wdF (u ++ [c])) 0 rfl HO8.out (.slice pu u.length cu) u.length rfl HSC.out HLU.out HZ8.out ?_; intro v9 w9 h9 g9; have H9 := Lib.hid h9; have G9 := Lib.hid g9; clear h9 g9; refine Hid.out ?_)
                have H9z : Hid (spF w9 E v9 (wdF (u ++ [c])) u.length) := Lib.hid (by have := H9.out; rwa [Nat.zero_add] at this)
                have hg9 : Below E W8 w9 := (Below.refl _ _).grown G9.out HZ8.out (fun z hz => (World.ownsRow.lt HO8.out z hz).1)
                obtain ⟨W10, hW10⟩ : ∃ W10, w9.alloc (.cells #[.int .i64 (c : Int)] 3) = W10 := ⟨_, rfl⟩
                have hz9 : E + 1 ≤ w9.heap.size := by have := hg9.size; have := HZZ.out; omega
                have hb10 : Below w9.heap.size w9 W10 := hW10 ▸ (Below.refl _ _).alloc (Nat.le_refl _) _
                have HO10 : Hid (spF W10 E v9 (wdF (u ++ [c])) (u.length)) := Lib.hid (H9z.out.below hb10)
                have HSC2 : Hid ((Value.slice (some ⟨w9.heap.size, 0, none⟩) 1 1 = .slice none 0 0 ∧ 1 = 0) ∨ ∃ g c9, Value.slice (some ⟨w9.heap.size, 0, none⟩) 1 1 = .slice (some ⟨g, 0, none⟩) 1 c9 ∧ ∀ j, j < 1 → W10.cell? ⟨g, j, none⟩ = some (.int .i64 (wdF (u ++ [c]) (u.length + j)))) := Lib.hid (.inr ⟨_, _, rfl, fun j hj => by
                  obtain rfl : j = 0 := by omega
                  rw [← hW10, wdF_app, if_neg (by omega), if_pos (by omega)]
                  simp⟩)
                have HLU2 : Hid (u.length + 1 ≤ 1000000) := Lib.hid (by have := HUL.out; omega)
                have HZ10 : Hid (E ≤ W10.heap.size) := Lib.hid (by have := hb10.size; omega)
                have HG9 : Hid (Below E w7 W10) := Lib.hid (((HE.out ▸ HB8.out : Below E w7 W8).trans hg9).trans (hb10.mono (by omega)))
                obtain ⟨p9, cc9, hv9⟩ := spF_of H9z.out
                subst hv9
                have HZ9 := Lib.hid hz9
                clear hg9 hz9 hb10 h28 HO8 HSC HLU HZ8 HB8 HZZ H9 H9z G9
                refine Lib.hid ?_
                go_wp2_with (at_builtin; refine append_fm rfl _ _ rfl E (.slice p9 (u.length) cc9) (wdF (u ++ [c])) (u.length) rfl HO10.out (.slice (some ⟨w9.heap.size, 0, none⟩) 1 1) 1 rfl HSC2.out HLU2.out HZ10.out ?_; intro v11 w11 h11 g11; have H11 := Lib.hid h11; have G11 := Lib.hid g11; clear h11 g11; refine Hid.out ?_)
                obtain ⟨p11, cc11, hv11⟩ := spF_of H11.out
                subst hv11
                have hg11 : Below E w7 w11 := HG9.out.trans ((Below.refl _ _).grown G11.out HZ10.out (fun z hz => (World.ownsRow.lt HO10.out z hz).1))
                have hEw : E ≤ w11.heap.size := by have := hg11.size; have := HE.out; omega
                obtain ⟨W12, hW12⟩ : ∃ W12, w11.alloc (.cells #[.int .i64 (ga : Int), .int .i64 (gb : Int), .slice p11 (u.length + 1) cc11] 56) = W12 := ⟨_, rfl⟩
                have hb12 : Below w11.heap.size w11 W12 := hW12 ▸ (Below.refl _ _).alloc (Nat.le_refl _) _
                have hb712 : Below w7.heap.size w7 W12 := HE.out.symm ▸ hg11.trans (hb12.mono hEw)
                have HWY12 := Lib.hid (HWY7.out.below hb712)
                have HP12 := Lib.hid (HP7.out.below hb712)
                have HB12 : Hid (Below (D + 2) W1 W12) := Lib.hid (HSZ.out _ _ HB17.out hb712)
                have hE2 : D + 2 ≤ E := by have := HB17.out.size; have := HZ1.out; have := HE.out; omega
                have HS12 : Hid (spF W12 (D + 2) (.slice p11 (u.length + 1) cc11) (wdF (u ++ [c])) (u ++ [c]).length) := Lib.hid (by
                  have h := owns_mono (H11.out.below hb12) hE2
                  rw [show (u ++ [c]).length = u.length + 1 by rw [List.length_append]; rfl]
                  exact h)
                have HGL : Hid (G'.length ≤ 100000) := Lib.hid (by rw [HWY12.out.len, HLN.out]; omega)
                have HROW : Hid (W12.ownsRow (D + 2) 56 3 (.slice (some ⟨r', 0, none⟩) n' cc') G'.length (wvC G')) := Lib.hid HWY12.out.row
                have HZ12 : Hid (D + 2 ≤ W12.heap.size) := Lib.hid (by have := hb12.size; omega)
                have HC12 : Hid (W12.cell? ⟨w11.heap.size, 0, none⟩ = some (.int .i64 (ga : Int)) ∧ W12.cell? ⟨w11.heap.size, 1, none⟩ = some (.int .i64 (gb : Int)) ∧ W12.cell? ⟨w11.heap.size, 2, none⟩ = some (.slice p11 (u.length + 1) cc11)) := Lib.hid (by rw [← hW12]; simp)
                have HAP12 : Hid ((Value.slice p11 (u.length + 1) cc11).ownBlock = none ∨ (Value.slice p11 (u.length + 1) cc11).ownBlock ≠ (Value.slice (some ⟨r', 0, none⟩) n' cc').ownBlock) := Lib.hid (by
                  cases hb : (Value.slice p11 (u.length + 1) cc11).ownBlock with
                  | none => exact .inl rfl
                  | some z =>
                    right
                    have h1 := (World.ownsRow.lt H11.out z hb).1
                    have h2 := HRE.out
                    simp only [Value.ownBlock, ne_eq, Option.some.injEq]
                    omega)
                have HEW := Lib.hid hEw
                have HH2 : Hid (h < W12.heap.size) := Lib.hid HP12.out.lt
                clear hg11 hb12 hb712 hE2 hEw HO10 HSC2 HLU2 HZ10 HG9 H11 G11 HS7 HWY7 HP7
                refine Lib.hid ?_
                go_wp2_with (at_builtin; refine append_wy rfl _ _ rfl (D + 2) (.slice (some ⟨r', 0, none⟩) n' cc') G' rfl HROW.out w11.heap.size ⟨(ga : Int), (gb : Int), p11, u.length + 1, cc11⟩ rfl HC12.out.1 HC12.out.2.1 HC12.out.2.2 HGL.out HZ12.out ?_; intro p13 n13 c13 w13 hn13 hr13 hg13 hv13; have HN13 := Lib.hid hn13; have HR13 := Lib.hid hr13; have HG13 := Lib.hid hg13; have HV13 := Lib.hid hv13; clear hn13 hr13 hg13 hv13; refine Hid.out ?_)
                obtain rfl : n13 = n' + 1 := by rw [HN13.out, HWY12.out.len, HLN.out]
                have HWYn : Hid (WyR w13 (D + 2) 56 (.slice p13 (n' + 1) c13) (G' ++ [⟨(ga : Int), (gb : Int), p11, u.length + 1, cc11⟩]) (l' ++ [((ga, gb), u ++ [c])])) := Lib.hid (HWY12.out.app HG13.out HR13.out HV13.out ⟨rfl, rfl, HS12.out⟩ HAP12.out)
                have HLNn : Hid ((l' ++ [((ga, gb), u ++ [c])]).length = n' + 1) := Lib.hid (by rw [List.length_append, HLN.out]; rfl)
                have HXn : Hid ((l' ++ [((ga, gb), u ++ [c])])[k]? = some ((p, q), u)) := Lib.hid (by rw [List.getElem?_append_left hkl]; exact HXs.out)
                have HX0n : Hid ((G' ++ [⟨(ga : Int), (gb : Int), p11, u.length + 1, cc11⟩])[k]? = some X0) := Lib.hid (by rw [List.getElem?_append_left (by rw [HWY12.out.len]; exact hkl)]; exact HX0.out)
                have HAGn : Hid (agY x y (l' ++ [((ga, gb), u ++ [c])]) (k + 1)) := Lib.hid fun j p' q' v hj e => by
                  rw [List.getElem?_append_left (by omega)] at e
                  exact HAG.out j p' q' v hj e
                have HLIn : Hid (lnI (l' ++ [((ga, gb), u ++ [c])])) := Lib.hid (lnI_app HLI.out hkl (HLI.out k _ HXs.out))
                have HOBn : Hid ((Value.slice p13 (n' + 1) c13).ownBlock ≠ some h) := Lib.hid (by
                  rcases HV13.out with e | e
                  · rw [e]; exact HOB.out
                  · rw [e]
                    have := HH2.out
                    simp only [ne_eq, Option.some.injEq]
                    omega)
                have HPn : Hid (isWa w13 h p q (.slice pu u.length cu)) := Lib.hid ((HG13.out.block h HP12.out.lt (Ne.symm HOB.out)).trans HP12.out)
                have HBn : Hid (Below (D + 2) W1 w13) := Lib.hid (HB12.out.grown HG13.out HZ12.out fun z hz => (World.ownsRow.lt HROW.out z hz).1)
                clear HROW HC12 HGL HZ12 HWY12 HP12 HB12 HS12 HAP12 HG13 HR13 HV13 HN13
                refine Lib.hid ?_
                go_wp2_with fail
                go_roundw
                case rel => exact ⟨c + 1, _, _, p13, n' + 1, c13, by go_num, rfl, by omega, HLNn, HWYn, HOK2, HXn, HX0n, HAGn, HOBn, HPn, HLIn, HBn⟩
                case measure => simp [intOf]; omega
          · obtain rfl : c = 259 := by omega
            have HOK2 : Hid (okY (go14 x y) (st14 x y) l' (k + 1) 0) := Lib.hid (okY_next HOK.out)
            have HLE2 : Hid (k + 1 ≤ n') := Lib.hid (by rw [← HLN.out]; exact hkl)
            have hle2 := HLE2.out
            go_wp2_with fail
            go_roundw
            case rel => exact ⟨k + 1, l', G', pp, n', cc', by go_num, rfl, HLE2, HLN, HWY, HOK2, HAG, HLI, HB⟩
            case measure => simp [intOf]; omega
    · obtain rfl : k = n := by omega
      have HNO : Hid (∀ v, ¬ dfW x y v) := Lib.hid (ap_none HOK.out (by rw [HLN.out]; exact Nat.le_refl _) HAG.out)
      have hd : decide ((k : Int) < (k : Int)) = false := by simp
      clear hkn hfew hlt
      go_wp2_with fail
      go_returns
      exact ⟨.inr ⟨rfl, HNO.out⟩, HF.out _ HB.out⟩
end Go.Proofs.Ytefpoapbodbenaa
