/-
  The walk of alpha.Join.
  The walks of kin's head and join, and of alone.
  What equal's search is made of, in memory: the struct, the map of steps, the pairs that were met, and who is kin.
-/
import Derived.Test.YtefpoapbodbenaaPk24
import Derived.Deep.RegionHeldLaw
import Derived.Test.YtefpoapbodbenaaPk9
import Derived.Test.YtefpoapbodbenaaPk16
import Derived.Test.YtefpoapbodbenaaPk11
namespace Go.Proofs.Ytefpoapbodbenaa
open Go.RowKit

/-- What is written behind i rounds. -/
def clJ (l l' : Nat → Int) (i : Nat) (x : Nat) : Int := if x < i then (clA (joR l l') x : Nat) else 0
theorem clJ_succ (l l' : Nat → Int) (i : Nat) : putF (clJ l l' i) i (clA (joR l l') i : Nat) = clJ l l' (i + 1) := by
  funext x
  unfold putF clJ
  by_cases h : x = i
  · subst h; simp
  · rw [if_neg h]
    by_cases g : x < i
    · rw [if_pos g, if_pos (by omega)]
    · rw [if_neg g, if_neg (by omega)]
theorem ownsMap_below {w w' : World} {P : Program} {k : TypeId} {R : Value → Option (Dm × List MemPlace)} {b n B : Nat} {D : Dm} (h : w.ownsMap P k R b n D) (hb : Below B w w') (hlt : b < B) : w'.ownsMap P k R b n D := by
  obtain ⟨es, clock, h1, h2⟩ := h
  exact ⟨es, clock, (hb.block b hlt).trans h1, h2⟩
theorem build_pair (x y : Int) (w : World) : (Instr.build 103 #[(0, .int .i64 x), (1, .int .i64 y)]).run Try.prog w = .ok (.agg #[.int .i64 x, .int .i64 y]) w := by kernel_rfl
abbrev ownsP (w : World) (b n : Nat) (D : Dm) : Prop := w.ownsMap Try.prog 103 (plainElem Try.prog 3) b n D
set_option maxRecDepth 100000 in
set_option maxHeartbeats 8000000 in
theorem join_is (q : Option Addr) (n c : Nat) (l : Nat → Int) (q' : Option Addr) (c' : Nat) (l' : Nat → Int) (hn : n ≤ 1000) (hw : ∀ j, j < n → wfI (l j)) (hw' : ∀ j, j < n → wfI (l' j)) (w : World) (hl : rdL w q n l) (hl' : rdL w q' n l') :
    Calls Try.prog 36 #[.slice q n c, .slice q' n c'] w (clsPost n (fun x => (clA (joR l l') x : Nat)) (cntT (isH (joR l l')) n : Nat) w) := by
  obtain ⟨Cn, hCn⟩ : ∃ Cn, cntT (isH (joR l l')) n = Cn := ⟨_, rfl⟩
  rw [hCn]
  have HCn := Lib.hid hCn
  clear hCn
  have hb0 : ((n : Int) != (n : Int)) = false := by simp
  have hmm := @run_makeMap Try.prog
  have n0 : (0 : Int) ≤ (n : Int) := by omega
  have HWl := Lib.hid hw; have HWl' := Lib.hid hw'
  obtain ⟨b, hb⟩ : ∃ b, w.heap.size = b := ⟨_, rfl⟩
  obtain ⟨W, hW⟩ : ∃ W, w.alloc (.map #[] 0) = W := ⟨_, rfl⟩
  have hz : W.heap.size = b + 1 := by rw [← hW, World.size_alloc, hb]
  have hbw : Below b w W := hW ▸ (Below.refl _ _).alloc (by omega) _
  have hown : W.ownsMap Try.prog 103 (plainElem Try.prog 3) b 0 (.map [] : Dm) := by rw [← hW, ← hb]; exact World.ownsMap_made _ _ _ _
  have HW := Lib.hid hW
  have HBW := Lib.hid hbw
  have HM0 := Lib.hid hown
  have HGb := Lib.hid hb
  have HL := Lib.hid hl
  have HL' := Lib.hid hl'
  clear hbw hown hW hw hw' hl hl'
  go_enter Try.func36, Try.ntmps36
  go_upto_region 4 with (fail)
  rw [HW.out]
  go_wp2_with (refine make_ints rfl _ _ rfl (b + 1) n rfl rfl (by omega) (by omega) ?_)
  intro w1 ho hb1
  have HO0 := Lib.hid (ho.same (f' := clJ l l' 0) fun j _ => by simp [clJ])
  have HB0 : Hid (Below (b + 1) W w1) := Lib.hid hb1
  have HM1 : Hid (ownsP w1 b 0 (.map [])) := Lib.hid (ownsMap_below HM0.out hb1 (Nat.lt_succ_self b))
  have HJ0 := Lib.hid (mpJ_zero l l')
  have HZ := Lib.hid hz
  clear ho hb1 HM0 hmm hz HW
  go_wp2_with fail
  go_loopw [23] (fun iv wr => ∃ i : Nat, i ≤ n ∧ iv = .int .i64 i ∧ ∃ D, Hid (mpJ l l' i D) ∧ Hid (ownsP wr b i D) ∧ Hid (ipR wr (b + 1) (b + 1) n (clJ l l' i)) ∧ Hid (Below (b + 1) w1 wr ∨ True) ∧ Hid (Below b w wr)) (fun iv _ => n - (intOf iv).toNat)
  case atStart => exact ⟨0, Nat.zero_le _, rfl, _, HJ0, HM1, HO0, Lib.hid (.inr trivial), Lib.hid (HBW.out.trans (HB0.out.mono (Nat.le_succ b)))⟩
  case round =>
    clear HJ0 HM1 HO0 HB0
    obtain ⟨i, hi, rfl, D, HJ, HM, HO, -, HB⟩ := hrel
    by_cases hlti : i < n
    · have i0 : (0 : Int) ≤ (i : Int) := by omega
      have i1 : (i : Int) < (n : Int) := by omega
      obtain ⟨lb, lo, rfl, hlb, hlc⟩ := (HL.out.below (HGb.out.symm ▸ HB.out)) i hlti
      obtain ⟨lb', lo', rfl, hlb', hlc'⟩ := (HL'.out.below (HGb.out.symm ▸ HB.out)) i hlti
      have HWa := Lib.hid (HWl.out i hlti); have HWb := Lib.hid (HWl'.out i hlti)
      obtain ⟨x, hx⟩ : ∃ x, l i = x := ⟨_, rfl⟩
      obtain ⟨y, hy⟩ : ∃ y, l' i = y := ⟨_, rfl⟩
      have HX := Lib.hid hx; have HY := Lib.hid hy
      rw [hx] at hlc; rw [hy] at hlc'
      have HKY : Hid (keyOf Try.prog 103 (prV x y) = some (kpL x y)) := Lib.hid (kp_key (hx ▸ HWa.out) (hy ▸ HWb.out))
      clear hx hy
      have HKC : Hid (∀ w', Below wr.heap.size wr w' → w'.cell? ⟨lb, lo + i, none⟩ = some (.int .i64 x) ∧ w'.cell? ⟨lb', lo' + i, none⟩ = some (.int .i64 y)) := Lib.hid fun w' h => by
        rw [h.cell (p := ⟨lb, lo + i, none⟩) hlb, h.cell (p := ⟨lb', lo' + i, none⟩) hlb']; exact ⟨hlc, hlc'⟩
      have HBP := build_pair
      have hbl := (HO.out.lt).2
      go_wp2_with fail
      go_region_held_law (fun w' => w'.cell? ⟨lb, lo + i, none⟩ = some (.int .i64 x) ∧ w'.cell? ⟨lb', lo' + i, none⟩ = some (.int .i64 y))
        (first | exact HKC.out _ (Below.refl _ _).drew | exact HKC.out _ ((Below.refl _ _).alloc (Nat.le_refl _) _) | exact HKC.out _ ((Below.refl _ _).drew.alloc (Nat.le_refl _) _) | exact HKC.out _ (((Below.refl _ _).alloc (Nat.le_refl _) _).drew))
        (fail)
      obtain ⟨W2, hW2⟩ : ∃ W2, (wr.alloc (.cells #[.int .i64 x, .int .i64 y] 103)).drew = W2 := ⟨_, rfl⟩
      obtain ⟨h, hh⟩ : ∃ h, wr.heap.size = h := ⟨_, rfl⟩
      have hb2 : Below wr.heap.size wr W2 := hW2 ▸ ((Below.refl _ _).alloc (Nat.le_refl _) _).drew
      have hbh : b + 1 < h := hh ▸ hbl
      have HM2 : Hid (ownsP W2 b i D) := Lib.hid (ownsMap_below HM.out hb2 (by omega))
      have HO2 : Hid (ipR W2 (b + 1) (b + 1) n (clJ l l' i)) := Lib.hid (HO.out.below hb2)
      have HB2 : Hid (Below b w W2) := Lib.hid (HB.out.trans (hb2.mono (by omega)))
      have HP2 : Hid (W2.heap[h]? = some (.cells #[.int .i64 x, .int .i64 y] 103 (0, 0))) := Lib.hid (by rw [← hW2, ← hh]; exact heap_alloc_new wr _)
      have p0 : W2.cell? ⟨h, 0, none⟩ = some (.int .i64 x) := by simp [World.cell?, HP2.out]
      have p1 : W2.cell? ⟨h, 1, none⟩ = some (.int .i64 y) := by simp [World.cell?, HP2.out]
      rw [hW2, hh]
      have hsz := cntT_le (isH (joR l l')) i
      have hjz := HJ.out.1
      obtain ⟨R, hR⟩ : ∃ R, joR l l' = R := ⟨_, rfl⟩
      have hclle : clA R i ≤ i := by
        have h1 := cntT_le (isH R) (hdA R i); have h2 := hdA_le R i
        unfold clA; omega
      obtain ⟨C, hC⟩ : ∃ C, clA R i = C := ⟨_, rfl⟩
      rw [hC] at hclle
      have HCL : Hid (clA (joR l l') i = C) := Lib.hid (hR ▸ hC)
      clear hb2 hW2 hlc hlc' hlb hlb' HM HO HB HKC HBP hR hC hb0 hh
      have f0 := HO2.out.free i
      have c0 := HO2.out.cell i hlti
      by_cases hm : ∃ j, j < i ∧ joR l l' j i = true
      · obtain ⟨hhas, hat⟩ := (HJ.out.2 i HWa.out HWb.out).1 hm
        rw [HX.out, HY.out] at hhas hat
        rw [HCL.out] at hat
        have HHAS := Lib.hid hhas
        have HAT := Lib.hid hat
        have HJ2 := Lib.hid (mpJ_old HJ.out hm)
        have HM3 : Hid (ownsP (W2.setCell ⟨b + 1, i, none⟩ (.int .i64 (C : Int))) b (i + 1) D) := Lib.hid ((HM2.out.mono (Nat.le_succ i)).setCell (by simp) _)
        have HO3 : Hid (ipR (W2.setCell ⟨b + 1, i, none⟩ (.int .i64 (C : Int))) (b + 1) (b + 1) n (clJ l l' (i + 1))) := Lib.hid (by have := HO2.out.put i (C : Int); rw [← HCL.out, clJ_succ] at this; rw [← HCL.out]; exact this)
        have HB3 : Hid (Below b w (W2.setCell ⟨b + 1, i, none⟩ (.int .i64 (C : Int)))) := Lib.hid (HB2.out.setCell (p := ⟨b + 1, i, none⟩) (Nat.le_succ b) _)
        clear hhas hat hm HJ HO2 HB2 hjz
        go_wp2_with (at_lookup; refine wpList_lookup_own_ok_int _ rfl _ _ 101 rfl 103 3 .i64 pairLaw Try.underlying101 Try.underlying3 (zeroI10 _) b i D rfl HM2.out _ _ rfl HKY.out ?_; intro z hz _; rw [HHAS.out]; obtain rfl : z = (C : Int) := (Lit.int.inj (DataW.lit.inj (hz.symm.trans HAT.out))).2)
        go_roundw
        case rel => exact ⟨i + 1, by omega, by go_num, D, HJ2, HM3, HO3, Lib.hid (.inr trivial), HB3⟩
        case measure => simp [intOf]; omega
      · have hm' : ∀ j, j < i → joR l l' j i = false := fun j hj => by
          cases e : joR l l' j i with
          | false => rfl
          | true => exact absurd ⟨j, hj, e⟩ hm
        have hhas := (HJ.out.2 i HWa.out HWb.out).2 hm'
        obtain ⟨hj2, hcc⟩ := mpJ_new HJ.out (HM2.out.tidy pairLaw) HWa.out HWb.out hm'
        rw [HCL.out] at hcc
        rw [HX.out, HY.out] at hhas
        rw [← hcc, HX.out, HY.out] at hj2
        rw [← hcc] at hjz
        have HHAS := Lib.hid hhas
        have HSZ := Lib.hid hjz
        have HJ2 := Lib.hid hj2
        have HWF : Hid ((Lit.int .i64 (C : Int)).wf = true) := Lib.hid (WalkArith.wf_i64 (by omega))
        have HMX : Hid (i < maxLen) := Lib.hid (by unfold maxLen; omega)
        clear hhas hcc hj2 hjz hm hm' HJ hsz
        go_wp2_with (first | (at_lookup; refine wpList_lookup_own_ok_int _ rfl _ _ 101 rfl 103 3 .i64 pairLaw Try.underlying101 Try.underlying3 (zeroI10 _) b i D rfl HM2.out _ _ rfl HKY.out ?_; intro z _ _; rw [HHAS.out]) | (at_len; refine wpList_len_own _ rfl _ 101 rfl 103 3 Try.underlying101 _ b i D rfl HM2.out ?_; rw [HSZ.out]) | (at_mapUpdate; refine wpList_mapUpdate_own _ rfl _ _ _ 101 rfl 103 3 pairLaw Try.underlying101 _ b i D rfl HM2.out HMX.out _ _ _ rfl rfl HKY.out (iL (C : Int)) [] (plainElem_int Try.underlying3 HWF.out) ?_))
        intro w3 hown3 hg3
        have HM3 : Hid (ownsP w3 b (i + 1) (D.put (kpL x y) (iL (C : Int)))) := Lib.hid hown3
        have ho3 : ipR w3 (b + 1) (b + 1) n (clJ l l' i) := World.ownsRow.kept HO2.out hg3 (.inr (by simp [Value.ownBlock]))
        have hb3 : Below b w w3 := HB2.out.grown hg3 (by have := HO2.out.lt; omega) (fun r hr => by cases hr; exact Nat.le_refl _)
        have f0 := ho3.free i
        have c0 := ho3.cell i hlti
        have HM4 : Hid (ownsP (w3.setCell ⟨b + 1, i, none⟩ (.int .i64 (C : Int))) b (i + 1) (D.put (kpL x y) (iL (C : Int)))) := Lib.hid (HM3.out.setCell (by simp) _)
        have HO3 : Hid (ipR (w3.setCell ⟨b + 1, i, none⟩ (.int .i64 (C : Int))) (b + 1) (b + 1) n (clJ l l' (i + 1))) := Lib.hid (by have := ho3.put i (C : Int); rw [← HCL.out, clJ_succ] at this; rw [← HCL.out]; exact this)
        have HB3 : Hid (Below b w (w3.setCell ⟨b + 1, i, none⟩ (.int .i64 (C : Int)))) := Lib.hid (hb3.setCell (p := ⟨b + 1, i, none⟩) (Nat.le_succ b) _)
        clear hown3 hg3 ho3 hb3 HM2 HO2 HB2 HP2 p0 p1 HM3
        go_wp2_with fail
        go_roundw
        case rel => exact ⟨i + 1, by omega, by go_num, _, HJ2, HM4, HO3, Lib.hid (.inr trivial), HB3⟩
        case measure => simp [intOf]; omega
    · obtain rfl : i = n := by omega
      have HSZ := Lib.hid (HJ.out.1.trans HCn.out)
      have HR : Hid (rdL wr (some ⟨b + 1, 0, none⟩) i (fun x => (clA (joR l l') x : Nat))) := Lib.hid (HO.out.same fun j hj => by simp [clJ, hj]).rd
      have HE : Hid (Below w.heap.size w wr) := Lib.hid (HGb.out.symm ▸ HB.out)
      clear HO HB HJ HCn
      go_wp2_with (at_len; refine wpList_len_own _ rfl _ 101 rfl 103 3 Try.underlying101 _ b i D rfl HM.out ?_; rw [HSZ.out])
      go_returns
      exact ⟨_, _, _, rfl, HR.out, fun _ _ => rfl, HE.out⟩
set_option maxRecDepth 100000 in
set_option maxHeartbeats 4000000 in
theorem join_none (q : Option Addr) (n c : Nat) (q' : Option Addr) (n' c' : Nat) (hne : n ≠ n') (hn : n ≤ 1000) (hn' : n' ≤ 1000) (w : World) :
    Calls Try.prog 36 #[.slice q n c, .slice q' n' c'] w (clsPost 0 (fun _ => 0) 0 w) := by
  have hb0 : ((n : Int) != (n' : Int)) = true := by simp; omega
  have n0 : (0 : Int) ≤ (n : Int) := by omega
  have n1 : (0 : Int) ≤ (n' : Int) := by omega
  have n2 : (n : Int) ≤ 1000 := by omega
  have n3 : (n' : Int) ≤ 1000 := by omega
  go_enter Try.func36, Try.ntmps36
  go_wp2_with fail
  go_returns
  exact ⟨none, 0, fun _ => 0, rfl, fun j hj => absurd hj (Nat.not_lt_zero _), fun _ _ => rfl, Below.refl _ _⟩
theorem joi_any : JoiC := fun q n c l q' n' c' l' w hn hn' hw hw' hl hl' => by
  by_cases h : n = n'
  · subst h
    exact (join_is q n c l q' c' l' hn hw hw' w hl hl').mono fun e w' h => ⟨fun _ => h, fun g => absurd rfl g⟩
  · exact (join_none q n c q' n' c' h hn hn' w).mono fun e w' g => ⟨fun k => absurd k h, fun _ => g⟩
end Go.Proofs.Ytefpoapbodbenaa

namespace Go.Proofs.Ytefpoapbodbenaa
open Go.RowKit

/-- A row of n numbers that the call owns, with room for c. -/
def icR (w : World) (base g n c : Nat) (f : Nat → Nat) : Prop := w.ownsRow base 3 1 (.slice (some ⟨g, 0, none⟩) n c) n (fnv (fun j => (f j : Int)) n)
section
variable {w w' : World} {base g n c : Nat} {f f' : Nat → Nat}
theorem icR.cell (h : icR w base g n c f) (j : Nat) (hj : j < n) : w.cell? ⟨g, j, none⟩ = some (.int .i64 (f j : Int)) := by
  rw [World.ownsRow.cellAt h j (by omega)]; exact fnv_at _ n j hj
theorem icR.free (h : icR w base g n c f) (j : Nat) : w.frozen? ⟨g, j, none⟩ = false := World.ownsRow.frozenAt h j
theorem icR.lt (h : icR w base g n c f) : base ≤ g ∧ g < w.heap.size := World.ownsRow.lt h g rfl
theorem icR.below (h : icR w base g n c f) (hb : Below w.heap.size w w') : icR w' base g n c f := owns_below h hb
theorem icR.put (h : icR w base g n c f) (j x : Nat) : icR (w.setCell ⟨g, j, none⟩ (.int .i64 (x : Int))) base g n c (putN f j x) := by
  have := (World.ownsRow.stored h j (.int .i64 (x : Int))).1
  rw [fnv_set] at this
  have e : putF (fun j => (f j : Int)) j (x : Int) = fun z => ((putN f j x z : Nat) : Int) := by
    funext z
    unfold putF putN
    split <;> rfl
  rw [e] at this
  exact this
end

set_option maxRecDepth 100000 in
set_option maxHeartbeats 4000000 in
theorem head14 (base g n c : Nat) (K H d : Nat → Nat) (x : Nat) (hu : ufP K n H d) (hx : x < n) (hn : n ≤ 100000) (w : World) (h : icR w base g n c K) :
    Calls Try.prog 68 #[.slice (some ⟨g, 0, none⟩) n c, .int .i64 (x : Int)] w fun e w' => e = .returned (.int .i64 (H x : Int)) ∧ (∃ K', ufP K' n H d ∧ icR w' base g n c K') ∧ kpX (fun k => k ≠ g) w w' := by
  obtain ⟨hx0, hHX⟩ : ∃ hx0, H x = hx0 := ⟨_, rfl⟩
  rw [hHX]
  have HU := Lib.hid hu; have HR := Lib.hid h; have HX := Lib.hid hHX; have HLX := Lib.hid hx
  have n1 : (n : Int) ≤ 100000 := by omega
  clear hu h hHX hx
  go_enter Try.func68, Try.ntmps68
  go_upto_region 1 with (fail)
  go_loopw [1] (fun xv wr => ∃ (z : Nat) (K' : Nat → Nat), xv = .int .i64 (z : Int) ∧ Hid (z < n) ∧ Hid (H z = hx0) ∧ Hid (ufP K' n H d) ∧ Hid (icR wr base g n c K') ∧ Hid (kpX (fun k => k ≠ g) w wr)) (fun xv _ => d (intOf xv).toNat)
  case atStart => exact ⟨x, K, rfl, HLX, HX, HU, HR, Lib.hid (kpX.refl _ _)⟩
  case round =>
    clear HLX HX HU HR
    obtain ⟨z, K1, rfl, HZ, HX, HU, HR, HK⟩ := hrel
    have z0 : (0 : Int) ≤ (z : Int) := by omega
    have z1 : (z : Int) < (n : Int) := by have := HZ.out; omega
    have hkl := HU.out.lt z HZ.out
    have hkkl := HU.out.lt _ hkl
    have c0 := HR.out.cell z HZ.out
    have c1 := HR.out.cell (K1 z) hkl
    have f0 := HR.out.free z
    have hgl := HR.out.lt.2
    obtain ⟨y, hy⟩ : ∃ y, K1 z = y := ⟨_, rfl⟩
    obtain ⟨u, hu⟩ : ∃ u, K1 y = u := ⟨_, rfl⟩
    rw [hy] at c0 c1 hkl hkkl
    rw [hu] at c1 hkkl
    have y0 : (0 : Int) ≤ (y : Int) := by omega
    have y1 : (y : Int) < (n : Int) := by omega
    have u0 : (0 : Int) ≤ (u : Int) := by omega
    have HY := Lib.hid hy; have HUU := Lib.hid hu
    by_cases he : y = z
    · have b0 : ((y : Int) != (z : Int)) = false := by simp; omega
      have HF : Hid (hx0 = z) := Lib.hid (by rw [← HX.out]; exact HU.out.own z HZ.out (by rw [HY.out]; exact he))
      clear hy hu he hkl hkkl c1 u0 HUU
      go_wp2_with fail
      go_returns
      exact ⟨by rw [HF.out] <;> rfl, ⟨_, HU.out, HR.out⟩, HK.out⟩
    · have b0 : ((y : Int) != (z : Int)) = true := by simp; omega
      have HNE : Hid (K1 z ≠ z) := Lib.hid (by rw [HY.out]; exact he)
      have HU2 : Hid (ufP (putN K1 z u) n H d) := Lib.hid (by have := HU.out.half HZ.out HNE.out; rw [HY.out, HUU.out] at this; exact this)
      have HR2 : Hid (icR (wr.setCell ⟨g, z, none⟩ (.int .i64 (u : Int))) base g n c (putN K1 z u)) := Lib.hid (HR.out.put z u)
      have HK2 : Hid (kpX (fun k => k ≠ g) w (wr.setCell ⟨g, z, none⟩ (.int .i64 (u : Int)))) := Lib.hid (HK.out.trans (kpX.of_grown (grown_setCell wr g z _) fun k e => by cases e; exact fun h => h rfl))
      have HX2 : Hid (H u = hx0) := Lib.hid (by rw [← HUU.out, HU.out.step y (by omega), ← HY.out, HU.out.step z HZ.out]; exact HX.out)
      have HLU : Hid (u < n) := Lib.hid hkkl
      have HD : Hid (d u < d z) := Lib.hid (by
        have h1 := HU.out.down z HZ.out HNE.out
        rw [HY.out] at h1
        by_cases g2 : K1 y = y
        · rw [HUU.out] at g2; rw [g2]; exact h1
        · have h2 := HU.out.down y (by omega) g2
          rw [HUU.out] at h2; omega)
      clear hy hu he hkl hkkl
      go_wp2_with fail
      go_roundw
      case rel => exact ⟨u, _, rfl, HLU, HX2, HU2, HR2, HK2⟩
      case measure => simp only [intOf, Int.toNat_natCast]; exact HD.out

set_option maxRecDepth 100000 in
set_option maxHeartbeats 4000000 in
theorem join14 (base g n c : Nat) (K H d : Nat → Nat) (x y : Nat) (hu : ufP K n H d) (hx : x < n) (hy : y < n) (hn : n ≤ 100000) (w : World) (h : icR w base g n c K) :
    Calls Try.prog 59 #[.slice (some ⟨g, 0, none⟩) n c, .int .i64 (x : Int), .int .i64 (y : Int)] w fun e w' => e = .returned (.bool (decide (H x ≠ H y))) ∧ (∃ K' d', ufP K' n (joH H x y) d' ∧ icR w' base g n c K') ∧ kpX (fun k => k ≠ g) w w' := by
  have HC1 := Lib.hid (head14 base g n c K H d x hu hx hn w h)
  have HC2 := Lib.hid (fun K' w' hu' h' => head14 base g n c K' H d y hu' hy hn w' h')
  have HX := Lib.hid hx; have HY := Lib.hid hy
  have hxl := hu.hlt x hx
  have hyl := hu.hlt y hy
  obtain ⟨p, hp⟩ : ∃ p, H x = p := ⟨_, rfl⟩
  obtain ⟨q, hq⟩ : ∃ q, H y = q := ⟨_, rfl⟩
  rw [hp, hq]
  rw [hp] at HC1 hxl; rw [hq] at HC2 hyl
  have HP := Lib.hid hp; have HQ := Lib.hid hq
  have p0 : (0 : Int) ≤ (p : Int) := by omega
  have p1 : (p : Int) < (n : Int) := by omega
  have n1 : (n : Int) ≤ 100000 := by omega
  have HBN : Hid ((decide (p ≠ q) : Bool) = ((p : Int) != (q : Int))) := Lib.hid (by
    rw [Bool.eq_iff_iff]
    simp
    omega)
  clear hu hx hy h hp hq
  rw [HBN.out]
  go_enter Try.func59, Try.ntmps59
  go_wp2_with fail
  refine HC1.out.mono ?_
  rintro e w1 ⟨rfl, ⟨K1, hu1, hr1⟩, hk1⟩
  have HC3 := Lib.hid (HC2.out K1 w1 hu1 hr1)
  have HK1 := Lib.hid hk1
  clear HC1 HC2 hu1 hr1 hk1
  go_wp2_with fail
  refine HC3.out.mono ?_
  rintro e w2 ⟨rfl, ⟨K2, hu2, hr2⟩, hk2⟩
  have HJ : Hid (ufP (putN K2 p q) n (joH H x y) (joD H d x y)) := Lib.hid (by have := hu2.join HX.out HY.out; rw [HP.out, HQ.out] at this; exact this)
  have HR : Hid (icR (w2.setCell ⟨g, p, none⟩ (.int .i64 (q : Int))) base g n c (putN K2 p q)) := Lib.hid (hr2.put p q)
  have HK : Hid (kpX (fun k => k ≠ g) w (w2.setCell ⟨g, p, none⟩ (.int .i64 (q : Int)))) := Lib.hid ((HK1.out.trans hk2).trans (kpX.of_grown (grown_setCell w2 g p _) fun k e => by cases e; exact fun h => h rfl))
  have c0 := hr2.cell p (by omega)
  have f0 := hr2.free p
  clear HC3 hu2 hr2 hk2
  go_wp2_with fail
  go_returns
  exact ⟨rfl, ⟨_, _, HJ.out, HR.out⟩, HK.out⟩
end Go.Proofs.Ytefpoapbodbenaa

namespace Go.Proofs.Ytefpoapbodbenaa
open Go.RowKit

theorem laidOut14 : laidOutB Try.prog = true := by kernel_rfl
theorem eqpWide : (match Try.prog.underlying 49 with | some (.array _ _) | some (.struct _) => true | _ => false) = true := by kernel_rfl
set_option maxRecDepth 100000 in
theorem eqpLaw : Go.Maps.Keyed Try.prog 49 := Go.Maps.Keyed.of_law (deep_law_laid laidOut14 (m := 3) (by omega) (of_decide_eq_true (by kernel_rfl)) (by kernel_rfl) eqpWide)
theorem eqpKey : Try.prog.keyType 49 = true := by kernel_rfl
theorem eqpCells : Try.prog.cellsOf 49 = 2 := by kernel_rfl
set_option maxRecDepth 100000 in
theorem eqpLits (n : Nat) {a b : Int} (ha : wfI a) (hb : wfI b) : Try.prog.keyLits (n + 2) 49 [.int .i64 a, .int .i64 b] = some [.int .i64 a, .int .i64 b] := by
  unfold wfI at ha hb
  have e : ∀ x : Int, (Lit.int .i64 x).wf = true → Try.prog.keyLits (n + 1) 3 [.int .i64 x] = some [.int .i64 x] := fun x hx => by
    simp [Program.keyLits, Try.underlying3, hx]
  unfold Program.keyLits
  simp only [Try.underlying49]
  simp [eqpCells, intCells10, e _ ha, e _ hb]
theorem ep_key {a b : Int} (ha : wfI a) (hb : wfI b) : keyOf Try.prog 49 (prV a b) = some (kpL a b) := by
  obtain ⟨n, hn⟩ := pairSize
  have hl := eqpLits n ha hb
  have hf : (prV a b).formed Try.prog 49 = true := by
    simp [Value.formed, Try.underlying49, eqpCells]
  unfold keyOf
  rw [Try.underlying49]
  simp only [eqpKey, hf, hn, Bool.and_self, if_true]
  have : (prV a b).cells.toList = [.int .i64 a, .int .i64 b] := rfl
  rw [this, hl]
  rfl
theorem ep_inj {a b a' b' : Int} (ha : wfI a) (hb : wfI b) (ha' : wfI a') (hb' : wfI b') : kpL a b = kpL a' b' ↔ a = a' ∧ b = b' := by
  constructor
  · intro h
    have h1 := ep_key ha hb
    rw [h] at h1
    have := eqpLaw.inj h1 (ep_key ha' hb')
    simpa [prV] using this
  · rintro ⟨rfl, rfl⟩; rfl
theorem ep_lit {a b : Int} (ha : wfI a) (hb : wfI b) : WideAt.IsKeyLit (kpL a b) := eqpLaw.key (ep_key ha hb)
/-- A step as a value, and as what it reads as. -/
@[reducible] def spV (a b c : Int) : Value := .agg #[.int .i64 a, .int .i64 b, .int .i64 c]
def spD (a b c : Int) : Dm := .agg [iL a, iL b, iL c]
def stE14 : Value → Option (Dm × List MemPlace)
  | .agg ⟨[.int .i64 a, .int .i64 b, .int .i64 c]⟩ => some (spD a b c, [])
  | _ => none
theorem stE_mk (a b c : Int) : stE14 (spV a b c) = some (spD a b c, []) := rfl
theorem stE_inv {v : Value} {z : Dm × List MemPlace} (h : stE14 v = some z) : ∃ a b c, v = spV a b c ∧ z = (spD a b c, []) := by
  unfold stE14 at h
  split at h
  · cases h
    exact ⟨_, _, _, rfl, rfl⟩
  · cases h
theorem spD_inj {a b c a' b' c' : Int} (h : spD a b c = spD a' b' c') : a = a' ∧ b = b' ∧ c = c' := by
  unfold spD at h
  simp only [DataW.agg.injEq, List.cons.injEq, DataW.lit.injEq, Lit.int.injEq, true_and, and_true] at h
  exact h
theorem zeroS14 (w : World) : (zeroValue 76).run Try.prog w = .ok (spV 0 0 0) w := by kernel_rfl
abbrev ownsS (w : World) (b n : Nat) (D : Dm) : Prop := w.ownsMap Try.prog 49 stE14 b n D
/-- The step to a pair by some symbols. -/
def stpP (l : Mt14) (D : Dm) (P : Nat × Nat) (u : List Nat) : Prop :=
  (u = [] → ∃ a b, D.atKey (kpL P.1 P.2) (spD 0 0 0) = spD a b (-1)) ∧ ∀ v (c : Nat), u = v ++ [c] → ∃ Q : Nat × Nat, (Q, v) ∈ l ∧ D.atKey (kpL P.1 P.2) (spD 0 0 0) = spD Q.1 Q.2 c
def dmZ (l : Mt14) (D : Dm) : Prop := ∀ (P : Nat × Nat) (u : List Nat), (P, u) ∈ l → stpP l D P u
theorem dmZ_nil (D : Dm) : dmZ [] D := fun _ _ h => by simp at h
/-- All states are within an int's bounds. -/
def smZ (l : Mt14) : Prop := ∀ (P : Nat × Nat) (u : List Nat), (P, u) ∈ l → P.1 ≤ 1000 ∧ P.2 ≤ 1000
theorem wfN {a : Nat} (h : a ≤ 1000) : wfI (a : Int) := wfI_of (by omega) (by omega)
theorem dmZ_put {l : Mt14} {D : Dm} {P : Nat × Nat} {u : List Nat} {f1 f2 f3 : Int} (h : dmZ l D) (hs : smZ l) (ht : Maps.Tidy D) (h1 : P.1 ≤ 1000) (h2 : P.2 ≤ 1000) (hno : ∀ v, (P, v) ∉ l)
    (hst : (u = [] ∧ f3 = -1) ∨ ∃ (Q : Nat × Nat) (v : List Nat) (c : Nat), u = v ++ [c] ∧ (Q, v) ∈ l ∧ f1 = (Q.1 : Int) ∧ f2 = (Q.2 : Int) ∧ f3 = (c : Int)) : dmZ (l ++ [(P, u)]) (D.put (kpL P.1 P.2) (spD f1 f2 f3)) := fun R v hR => by
  have hkl := ep_lit (wfN h1) (wfN h2)
  rcases List.mem_append.1 hR with g | g
  · have hne : R ≠ P := fun e => hno v (e ▸ g)
    obtain ⟨r1, r2⟩ := hs R v g
    have ek : kpL (R.1 : Int) (R.2 : Int) ≠ kpL (P.1 : Int) (P.2 : Int) := fun e => by
      obtain ⟨e1, e2⟩ := (ep_inj (wfN r1) (wfN r2) (wfN h1) (wfN h2)).1 e
      exact hne (Prod.ext (by omega) (by omega))
    obtain ⟨k1, k2⟩ := h R v g
    unfold stpP
    rw [Maps.atKey_put_other ek]
    exact ⟨k1, fun v' c e => by
      obtain ⟨Q, q1, q2⟩ := k2 v' c e
      exact ⟨Q, List.mem_append_left _ q1, q2⟩⟩
  · have e : (R, v) = (P, u) := by simpa using g
    obtain rfl : R = P := congrArg Prod.fst e
    obtain rfl : v = u := congrArg Prod.snd e
    unfold stpP
    rw [Maps.atKey_put_same ht.isMap hkl]
    rcases hst with ⟨rfl, rfl⟩ | ⟨Q, u', c, rfl, q1, rfl, rfl, rfl⟩
    · exact ⟨fun _ => ⟨_, _, rfl⟩, fun v c e => by simp at e⟩
    · refine ⟨fun e => by simp at e, fun v' c' e => ?_⟩
      obtain ⟨rfl, e2⟩ := List.append_inj' e rfl
      obtain rfl : c = c' := by simpa using e2
      exact ⟨Q, List.mem_append_left _ q1, rfl⟩
/-- The pairs in memory. -/
def pcC14 : Mt14 → List Value
  | [] => []
  | e :: l => .int .i64 (e.1.1 : Int) :: .int .i64 (e.1.2 : Int) :: pcC14 l
theorem pcC_app : ∀ (l : Mt14) (e : (Nat × Nat) × List Nat), pcC14 (l ++ [e]) = pcC14 l ++ [.int .i64 (e.1.1 : Int), .int .i64 (e.1.2 : Int)]
  | [], _ => rfl
  | y :: l, x => by
    show _ :: _ :: pcC14 (l ++ [x]) = _ :: _ :: (pcC14 l ++ _)
    rw [pcC_app l x]
theorem pcC_at : ∀ (l : Mt14) (i : Nat) (e : (Nat × Nat) × List Nat), l[i]? = some e → (pcC14 l)[i * 2]? = some (.int .i64 (e.1.1 : Int)) ∧ (pcC14 l)[i * 2 + 1]? = some (.int .i64 (e.1.2 : Int))
  | [], _, _, h => by simp at h
  | x :: l, 0, e, h => by
    have : x = e := by simpa using h
    subst this
    exact ⟨rfl, rfl⟩
  | x :: l, i + 1, e, h => by
    obtain ⟨h1, h2⟩ := pcC_at l i e (by simpa using h)
    rw [show (i + 1) * 2 = i * 2 + 1 + 1 by omega]
    exact ⟨h1, h2⟩
/-- Where a decided automaton's rows lie. -/
structure Dq14 where
  q0 : Option Addr
  c0 : Nat
  q1 : Option Addr
  c1 : Nat
  q2 : Option Addr
  c2 : Nat
def Dq14.val (A : Dq14) (x : Da) : Value := dfV A.q0 x.n0 A.c0 x.wd x.st A.q1 x.n1 A.c1 A.q2 x.n2 A.c2
/-- The struct. -/
def isSr (w : World) (S : Nat) (A : Dq14) (x : Da) (B : Dq14) (y : Da) (mb : Nat) (mv : Value) (g n c : Nat) : Prop :=
  w.heap[S]? = some (.cells #[.slice A.q0 x.n0 A.c0, .int .i64 x.wd, .int .i64 x.st, .slice A.q1 x.n1 A.c1, .slice A.q2 x.n2 A.c2, .slice B.q0 y.n0 B.c0, .int .i64 y.wd, .int .i64 y.st, .slice B.q1 y.n1 B.c1, .slice B.q2 y.n2 B.c2, .map (some mb), mv, .slice (some ⟨g, 0, none⟩) n c] 47 (0, 0))
section
variable {w w' : World} {S : Nat} {A B : Dq14} {x y : Da} {mb : Nat} {mv : Value} {g n c : Nat}
theorem isSr.lt (h : isSr w S A x B y mb mv g n c) : S < w.heap.size := lt_of_block h
theorem isSr.cells (h : isSr w S A x B y mb mv g n c) : w.cell? ⟨S, 0, none⟩ = some (.slice A.q0 x.n0 A.c0) ∧ w.cell? ⟨S, 1, none⟩ = some (.int .i64 x.wd) ∧ w.cell? ⟨S, 2, none⟩ = some (.int .i64 x.st) ∧ w.cell? ⟨S, 3, none⟩ = some (.slice A.q1 x.n1 A.c1) ∧ w.cell? ⟨S, 4, none⟩ = some (.slice A.q2 x.n2 A.c2) ∧
    w.cell? ⟨S, 5, none⟩ = some (.slice B.q0 y.n0 B.c0) ∧ w.cell? ⟨S, 6, none⟩ = some (.int .i64 y.wd) ∧ w.cell? ⟨S, 7, none⟩ = some (.int .i64 y.st) ∧ w.cell? ⟨S, 8, none⟩ = some (.slice B.q1 y.n1 B.c1) ∧ w.cell? ⟨S, 9, none⟩ = some (.slice B.q2 y.n2 B.c2) ∧
    w.cell? ⟨S, 10, none⟩ = some (.map (some mb)) ∧ w.cell? ⟨S, 11, none⟩ = some mv ∧ w.cell? ⟨S, 12, none⟩ = some (.slice (some ⟨g, 0, none⟩) n c) := by
  unfold isSr at h
  refine ⟨?_, ?_, ?_, ?_, ?_, ?_, ?_, ?_, ?_, ?_, ?_, ?_, ?_⟩ <;> simp [World.cell?, h]
theorem isSr.free (h : isSr w S A x B y mb mv g n c) (j : Nat) : w.frozen? ⟨S, j, none⟩ = false := by
  unfold isSr at h
  simp [World.frozen?, h]
theorem isSr.kept {r : Option Nat} (h : isSr w S A x B y mb mv g n c) (hg : w.grownBy w' r) (hr : some S ≠ r) : isSr w' S A x B y mb mv g n c := (hg.block S h.lt hr).trans h
theorem isSr.put11 (h : isSr w S A x B y mb mv g n c) (u : Value) : isSr (w.setCell ⟨S, 11, none⟩ u) S A x B y mb u g n c := by
  have h1 := heap_setCell_same w S 11 _ _ u h
  unfold isSr
  rw [h1]; simp
end
/-- A search in memory; nothing of it is in X. -/
structure SrM (X : Nat → Prop) (w : World) (base S : Nat) (A : Dq14) (x : Da) (B : Dq14) (y : Da) (mb : Nat) (mv : Value) (g c : Nat) (l : Mt14) (K : Nat → Nat) (D : Dm) : Prop where
  sr : isSr w S A x B y mb mv g (x.n2 + y.n2) c
  kin : icR w base g (x.n2 + y.n2) c K
  mp : ownsS w mb l.length D
  met : w.ownsRow base 49 2 mv l.length (pcC14 l)
  xs : ¬ X S
  xg : ¬ X g
  xm : ¬ X mb
  xr : ∀ b, mv.ownBlock = some b → ¬ X b
  xl : ∀ k, X k → k < w.heap.size
  bl : base ≤ w.heap.size
section
variable {X : Nat → Prop} {w w' : World} {base S : Nat} {A B : Dq14} {x y : Da} {mb : Nat} {mv : Value} {g c : Nat} {l : Mt14} {K : Nat → Nat} {D : Dm}
theorem SrM.mlt (H : SrM X w base S A x B y mb mv g c l K D) : mb < w.heap.size := H.mp.lt
/-- Its blocks lie apart. -/
theorem SrM.sg (H : SrM X w base S A x B y mb mv g c l K D) : S ≠ g := fun e => by
  rcases H.kin.2 with ⟨h, _⟩ | ⟨g', cap, cur, h, _, h2, _⟩
  · cases h
  · have h3 := congrArg Value.ownBlock h
    have h4 : g = g' := by simpa [Value.ownBlock] using h3
    subst h4
    have h5 := H.sr
    unfold isSr at h5
    rw [e, h2] at h5
    revert h5
    simp only [Option.some.injEq, Obj.cells.injEq]
    rintro ⟨-, h6, -⟩
    revert h6
    decide
theorem SrM.sm (H : SrM X w base S A x B y mb mv g c l K D) : S ≠ mb := fun e => by
  obtain ⟨es, clock, h1, -⟩ := H.mp
  have h5 := H.sr
  unfold isSr at h5
  rw [e, h1] at h5
  cases h5
theorem SrM.gm (H : SrM X w base S A x B y mb mv g c l K D) : g ≠ mb := fun e => by
  obtain ⟨es, clock, h1, -⟩ := H.mp
  rcases H.kin.2 with ⟨h, _⟩ | ⟨g', cap, cur, h, _, h2, _⟩
  · cases h
  · have h3 := congrArg Value.ownBlock h
    have h4 : g = g' := by simpa [Value.ownBlock] using h3
    subst h4
    rw [e, h1] at h2
    cases h2
theorem SrM.rblock (H : SrM X w base S A x B y mb mv g c l K D) {b : Nat} (hb : mv.ownBlock = some b) : ∃ cur, w.heap[b]? = some (.cells cur 49 (0, 0)) := by
  rcases H.met.2 with ⟨h, _⟩ | ⟨g', cap, cur, h, _, h2, _⟩
  · rw [h] at hb; cases hb
  · rw [h] at hb
    have h4 : g' = b := by simpa [Value.ownBlock] using hb
    subst h4
    exact ⟨_, h2⟩
theorem SrM.sr' (H : SrM X w base S A x B y mb mv g c l K D) : some S ≠ mv.ownBlock := fun e => by
  obtain ⟨cur, h⟩ := H.rblock e.symm
  have h5 := H.sr
  unfold isSr at h5
  rw [h] at h5
  revert h5
  simp only [Option.some.injEq, Obj.cells.injEq]
  rintro ⟨-, h6, -⟩
  revert h6
  decide
theorem SrM.mr (H : SrM X w base S A x B y mb mv g c l K D) : some mb ≠ mv.ownBlock := fun e => by
  obtain ⟨cur, h⟩ := H.rblock e.symm
  obtain ⟨es, clock, h1, -⟩ := H.mp
  rw [h] at h1
  cases h1
theorem SrM.gr (H : SrM X w base S A x B y mb mv g c l K D) : mv.ownBlock = none ∨ mv.ownBlock ≠ some g := by
  have := rows_apart9 H.met H.kin (by decide)
  simpa [Value.ownBlock] using this
theorem SrM.rg (H : SrM X w base S A x B y mb mv g c l K D) : some g ≠ mv.ownBlock := fun e => by
  rcases H.gr with h | h
  · rw [h] at e; cases e
  · exact h e.symm
theorem SrM.below (H : SrM X w base S A x B y mb mv g c l K D) (hb : Below w.heap.size w w') : SrM X w' base S A x B y mb mv g c l K D :=
  ⟨(hb.block S H.sr.lt).trans H.sr, H.kin.below hb, ownsMap_below H.mp hb H.mlt, owns_below H.met hb, H.xs, H.xg, H.xm, H.xr, fun k hk => Nat.lt_of_lt_of_le (H.xl k hk) hb.size, Nat.le_trans H.bl hb.size⟩
/-- Only who is kin has turned. -/
theorem SrM.kind {K' : Nat → Nat} (H : SrM X w base S A x B y mb mv g c l K D) (hk : kpX (fun k => k ≠ g) w w') (hK : icR w' base g (x.n2 + y.n2) c K') : SrM X w' base S A x B y mb mv g c l K' D := by
  refine ⟨(hk.block S H.sr.lt H.sg).trans H.sr, hK, ?_, ?_, H.xs, H.xg, H.xm, H.xr, fun k hX => Nat.lt_of_lt_of_le (H.xl k hX) hk.size, Nat.le_trans H.bl hk.size⟩
  · obtain ⟨es, clock, h1, h2⟩ := H.mp
    exact ⟨es, clock, (hk.block mb (lt_of_block h1) (Ne.symm H.gm)).trans h1, h2⟩
  · refine ⟨H.met.1, ?_⟩
    rcases H.met.2 with h | ⟨g', cap, cur, h, h0, h2, h3⟩
    · exact .inl h
    · refine .inr ⟨g', cap, cur, h, h0, (hk.block g' (lt_of_block h2) fun e => H.rg ?_).trans h2, h3⟩
      rw [h, ← e]; rfl
/-- The pair at a place. -/
theorem SrM.cell {p : Option Addr} {m cc : Nat} (H : SrM X w base S A x B y mb (.slice p m cc) g c l K D) {i : Nat} {e : (Nat × Nat) × List Nat} (hi : l[i]? = some e) : ∃ r, p = some ⟨r, 0, none⟩ ∧ r < w.heap.size ∧ m = l.length ∧ w.cell? ⟨r, i * 2, none⟩ = some (.int .i64 (e.1.1 : Int)) ∧ w.cell? ⟨r, i * 2 + 1, none⟩ = some (.int .i64 (e.1.2 : Int)) := by
  have hil := lt_some hi
  rcases id H.met.2 with ⟨_, h0⟩ | ⟨r, cap, cur, h1, _⟩
  · omega
  · have e1 := (Value.slice.inj h1).1
    have e2 := (Value.slice.inj h1).2.1
    subst e1
    have hr := H.met
    rw [h1] at hr
    have hlt := World.ownsRow.lt hr r rfl
    obtain ⟨k1, k2⟩ := pcC_at l i e hi
    exact ⟨r, rfl, hlt.2, e2, by rw [World.ownsRow.cellAt hr _ (by omega), k1], by rw [World.ownsRow.cellAt hr _ (by omega), k2]⟩
theorem SrM.slice (H : SrM X w base S A x B y mb mv g c l K D) : ∃ p cc, mv = .slice p l.length cc := by
  rcases id H.met.2 with ⟨rfl, h0⟩ | ⟨r, cap, cur, rfl, _⟩
  · exact ⟨none, 0, by rw [h0]⟩
  · exact ⟨_, cap, rfl⟩
end
end Go.Proofs.Ytefpoapbodbenaa
