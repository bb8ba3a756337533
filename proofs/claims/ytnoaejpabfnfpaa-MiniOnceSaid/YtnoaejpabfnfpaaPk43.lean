/-
  Maps whose keys are pairs of numbers: what a key reads as; what either list tells apart, as a map.
  The walk of alpha.Join.
-/
import Derived.Test.YtnoaejpabfnfpaaPk10
import Derived.Maps.OwnSet
import Derived.DeepKeys4
import Derived.Deep.RegionHeldLaw
namespace Go.Proofs.Ytnoaejpabfnfpaa
open Go.RowKit

theorem laidOut10 : laidOutB Try.prog = true := by kernel_rfl
theorem pairWide : (match Try.prog.underlying 70 with | some (.array _ _) | some (.struct _) => true | _ => false) = true := by kernel_rfl
set_option maxRecDepth 100000 in
theorem pairLaw : Go.Maps.Keyed Try.prog 70 := Go.Maps.Keyed.of_law (deep_law_laid laidOut10 (m := 3) (by omega) (of_decide_eq_true (by kernel_rfl)) (by kernel_rfl) pairWide)
theorem pairKey : Try.prog.keyType 70 = true := by kernel_rfl
theorem pairCells : Try.prog.cellsOf 70 = 2 := by kernel_rfl
theorem intCells10 : Try.prog.cellsOf 3 = 1 := by kernel_rfl
/-- What a pair reads as. -/
def kpL (a b : Int) : Lit := .string (keyBytes [.int .i64 a, .int .i64 b])
@[reducible] def prV (a b : Int) : Value := .agg #[.int .i64 a, .int .i64 b]
set_option maxRecDepth 100000 in
theorem pairLits (n : Nat) {a b : Int} (ha : wfI a) (hb : wfI b) : Try.prog.keyLits (n + 2) 70 [.int .i64 a, .int .i64 b] = some [.int .i64 a, .int .i64 b] := by
  unfold wfI at ha hb
  have e : ∀ x : Int, (Lit.int .i64 x).wf = true → Try.prog.keyLits (n + 1) 3 [.int .i64 x] = some [.int .i64 x] := fun x hx => by
    simp [Program.keyLits, Try.underlying3, hx]
  unfold Program.keyLits
  simp only [Try.underlying70]
  simp [pairCells, intCells10, e _ ha, e _ hb]
set_option maxRecDepth 100000 in
theorem pairSize : ∃ n, Try.prog.types.size = n + 1 := ⟨_, (rfl : Try.prog.types.size = (Try.prog.types.size - 1) + 1)⟩
theorem kp_key {a b : Int} (ha : wfI a) (hb : wfI b) : keyOf Try.prog 70 (prV a b) = some (kpL a b) := by
  obtain ⟨n, hn⟩ := pairSize
  have hl := pairLits n ha hb
  have hf : (prV a b).formed Try.prog 70 = true := by
    simp [Value.formed, Try.underlying70, pairCells]
  unfold keyOf
  rw [Try.underlying70]
  simp only [pairKey, hf, hn, Bool.and_self, if_true]
  have : (prV a b).cells.toList = [.int .i64 a, .int .i64 b] := rfl
  rw [this, hl]
  rfl
theorem kp_inj {a b a' b' : Int} (ha : wfI a) (hb : wfI b) (ha' : wfI a') (hb' : wfI b') : kpL a b = kpL a' b' ↔ a = a' ∧ b = b' := by
  constructor
  · intro h
    have h1 := kp_key ha hb
    rw [h] at h1
    have := pairLaw.inj h1 (kp_key ha' hb')
    simpa [prV] using this
  · rintro ⟨rfl, rfl⟩; rfl
theorem kp_lit {a b : Int} (ha : wfI a) (hb : wfI b) : WideAt.IsKeyLit (kpL a b) := pairLaw.key (kp_key ha hb)
theorem zeroI10 (w : World) : (zeroValue 3).run Try.prog w = .ok (.int .i64 0) w := by kernel_rfl

abbrev Dm := DataW Unit
@[reducible] def iL (x : Int) : Dm := .lit (.int .i64 x)
/-- The map behind i rounds: the pairs of the first i places, each with its class. -/
def mpJ (l l' : Nat → Int) (i : Nat) (D : Dm) : Prop :=
  Maps.size D = cntT (isH (joR l l')) i ∧ ∀ x : Nat, wfI (l x) → wfI (l' x) →
    ((∃ j, j < i ∧ joR l l' j x = true) → Maps.has D (kpL (l x) (l' x)) = true ∧ D.atKey (kpL (l x) (l' x)) (iL 0) = iL (clA (joR l l') x : Nat)) ∧
    ((∀ j, j < i → joR l l' j x = false) → Maps.has D (kpL (l x) (l' x)) = false)
theorem mpJ_zero (l l' : Nat → Int) : mpJ l l' 0 (.map []) := ⟨rfl, fun _ _ _ => ⟨fun ⟨_, h, _⟩ => absurd h (Nat.not_lt_zero _), fun _ => rfl⟩⟩
/-- A pair that was met: nothing turns. -/
theorem mpJ_old {l l' : Nat → Int} {i : Nat} {D : Dm} (h : mpJ l l' i D) (hm : ∃ j, j < i ∧ joR l l' j i = true) : mpJ l l' (i + 1) D := by
  obtain ⟨j, hj, hji⟩ := hm
  have hR := joR_eq l l'
  have hnh : isH (joR l l') i = false := by
    unfold isH
    have h1 := hdA_le (joR l l') j
    have h2 := hdA_same hR hji
    rw [← h2]
    simp; omega
  refine ⟨by rw [h.1, cntT_succ, if_neg (by rw [hnh]; simp)]; rfl, fun x hx hx' => ⟨fun ⟨k, hk, hkx⟩ => ?_, fun hn => (h.2 x hx hx').2 fun k hk => hn k (by omega)⟩⟩
  by_cases e : k = i
  · subst e
    exact (h.2 x hx hx').1 ⟨j, hj, hR.tr _ _ _ hji hkx⟩
  · exact (h.2 x hx hx').1 ⟨k, by omega, hkx⟩
/-- A pair that is new. -/
theorem mpJ_new {l l' : Nat → Int} {i : Nat} {D : Dm} (h : mpJ l l' i D) (ht : Maps.Tidy D) (hw : wfI (l i)) (hw' : wfI (l' i)) (hm : ∀ j, j < i → joR l l' j i = false) :
    mpJ l l' (i + 1) (D.put (kpL (l i) (l' i)) (iL (cntT (isH (joR l l')) i : Nat))) ∧ clA (joR l l') i = cntT (isH (joR l l')) i := by
  have hR := joR_eq l l'
  have hself := hdA_self hm
  have hih : isH (joR l l') i = true := by unfold isH; rw [beq_iff_eq]; exact hself
  have hcl := clA_head hih
  have hkl := kp_lit hw hw'
  have hno := (h.2 i hw hw').2 hm
  refine ⟨⟨?_, fun x hx hx' => ?_⟩, hcl⟩
  · rw [Maps.size_put ht, hno, h.1, cntT_succ, hih]; simp
  · by_cases e : joR l l' i x = true
    · have e2 := joR_iff.1 e
      have ek : kpL (l x) (l' x) = kpL (l i) (l' i) := by rw [e2.1, e2.2]
      rw [ek]
      refine ⟨fun _ => ⟨Maps.has_put_same ht.isMap hkl _, ?_⟩, fun hn => ?_⟩
      · rw [Maps.atKey_put_same ht.isMap hkl, ← hcl, (clA_iff hR).2 e]
      · rw [hn i (Nat.lt_succ_self i)] at e; cases e
    · have ek : kpL (l x) (l' x) ≠ kpL (l i) (l' i) := fun g => e (joR_iff.2 (by have := (kp_inj hx hx' hw hw').1 g; exact ⟨this.1.symm, this.2.symm⟩))
      rw [Maps.has_put_other ek, Maps.atKey_put_other ek]
      refine ⟨fun ⟨k, hk, hkx⟩ => ?_, fun hn => (h.2 x hx hx').2 fun k hk => hn k (by omega)⟩
      by_cases g : k = i
      · subst g; exact absurd hkx e
      · exact (h.2 x hx hx').1 ⟨k, by omega, hkx⟩
end Go.Proofs.Ytnoaejpabfnfpaa

namespace Go.Proofs.Ytnoaejpabfnfpaa
open Go.RowKit

/-- What is written behind i rounds. -/
def clJ (l l' : Nat → Int) (i : Nat) (x : Nat) : Int := if x < i then (clA (joR l l') x : Nat) else 0
theorem clJ_succ (l l' : Nat → Int) (i : Nat) : putF (clJ l l' i) i (clA (joR l l') i : Nat) = clJ l l' (i + 1) := by
  funext x
  unfold putF clJ
  by_cases h : x = i
  · subst h; simp
  · rw [if_neg h]
    by_cases g : x < i
    · rw [if_pos g, if_pos (by omega)]
    · rw [if_neg g, if_neg (by omega)]
theorem ownsMap_below {w w' : World} {P : Program} {k : TypeId} {R : Value → Option (Dm × List MemPlace)} {b n B : Nat} {D : Dm} (h : w.ownsMap P k R b n D) (hb : Below B w w') (hlt : b < B) : w'.ownsMap P k R b n D := by
  obtain ⟨es, clock, h1, h2⟩ := h
  exact ⟨es, clock, (hb.block b hlt).trans h1, h2⟩
theorem build_pair (x y : Int) (w : World) : (Instr.build 70 #[(0, .int .i64 x), (1, .int .i64 y)]).run Try.prog w = .ok (.agg #[.int .i64 x, .int .i64 y]) w := by kernel_rfl
abbrev ownsP (w : World) (b n : Nat) (D : Dm) : Prop := w.ownsMap Try.prog 70 (plainElem Try.prog 3) b n D
set_option maxRecDepth 100000 in
set_option maxHeartbeats 8000000 in
theorem join_is (q : Option Addr) (n c : Nat) (l : Nat → Int) (q' : Option Addr) (c' : Nat) (l' : Nat → Int) (hn : n ≤ 1000) (hw : ∀ j, j < n → wfI (l j)) (hw' : ∀ j, j < n → wfI (l' j)) (w : World) (hl : rdL w q n l) (hl' : rdL w q' n l') :
    Calls Try.prog 28 #[.slice q n c, .slice q' n c'] w (clsPost n (fun x => (clA (joR l l') x : Nat)) (cntT (isH (joR l l')) n : Nat) w) := by
  obtain ⟨Cn, hCn⟩ : ∃ Cn, cntT (isH (joR l l')) n = Cn := ⟨_, rfl⟩
  rw [hCn]
  have HCn := Lib.hid hCn
  clear hCn
  have hb0 : ((n : Int) != (n : Int)) = false := by simp
  have hmm := @run_makeMap Try.prog
  have n0 : (0 : Int) ≤ (n : Int) := by omega
  have HWl := Lib.hid hw; have HWl' := Lib.hid hw'
  obtain ⟨b, hb⟩ : ∃ b, w.heap.size = b := ⟨_, rfl⟩
  obtain ⟨W, hW⟩ : ∃ W, w.alloc (.map #[] 0) = W := ⟨_, rfl⟩
  have hz : W.heap.size = b + 1 := by rw [← hW, World.size_alloc, hb]
  have hbw : Below b w W := hW ▸ (Below.refl _ _).alloc (by omega) _
  have hown : W.ownsMap Try.prog 70 (plainElem Try.prog 3) b 0 (.map [] : Dm) := by rw [← hW, ← hb]; exact World.ownsMap_made _ _ _ _
  have HW := Lib.hid hW
  have HBW := Lib.hid hbw
  have HM0 := Lib.hid hown
  have HGb := Lib.hid hb
  have HL := Lib.hid hl
  have HL' := Lib.hid hl'
  clear hbw hown hW hw hw' hl hl'
  go_enter Try.func28, Try.ntmps28
  go_upto_region 4 with (fail)
  rw [HW.out]
  go_wp2_with (refine make_ints rfl _ _ rfl (b + 1) n rfl rfl (by omega) (by omega) ?_)
  intro w1 ho hb1
  have HO0 := Lib.hid (ho.same (f' := clJ l l' 0) fun j _ => by simp [clJ])
  have HB0 : Hid (Below (b + 1) W w1) := Lib.hid hb1
  have HM1 : Hid (ownsP w1 b 0 (.map [])) := Lib.hid (ownsMap_below HM0.out hb1 (Nat.lt_succ_self b))
  have HJ0 := Lib.hid (mpJ_zero l l')
  have HZ := Lib.hid hz
  clear ho hb1 HM0 hmm hz HW
  go_wp2_with fail
  go_loopw [23] (fun iv wr => ∃ i : Nat, i ≤ n ∧ iv = .int .i64 i ∧ ∃ D, Hid (mpJ l l' i D) ∧ Hid (ownsP wr b i D) ∧ Hid (ipR wr (b + 1) (b + 1) n (clJ l l' i)) ∧ Hid (Below (b + 1) w1 wr ∨ True) ∧ Hid (Below b w wr)) (fun iv _ => n - (intOf iv).toNat)
  case atStart => exact ⟨0, Nat.zero_le _, rfl, _, HJ0, HM1, HO0, Lib.hid (.inr trivial), Lib.hid (HBW.out.trans (HB0.out.mono (Nat.le_succ b)))⟩
  case round =>
    clear HJ0 HM1 HO0 HB0
    obtain ⟨i, hi, rfl, D, HJ, HM, HO, -, HB⟩ := hrel
    by_cases hlti : i < n
    · have i0 : (0 : Int) ≤ (i : Int) := by omega
      have i1 : (i : Int) < (n : Int) := by omega
      obtain ⟨lb, lo, rfl, hlb, hlc⟩ := (HL.out.below (HGb.out.symm ▸ HB.out)) i hlti
      obtain ⟨lb', lo', rfl, hlb', hlc'⟩ := (HL'.out.below (HGb.out.symm ▸ HB.out)) i hlti
      have HWa := Lib.hid (HWl.out i hlti); have HWb := Lib.hid (HWl'.out i hlti)
      obtain ⟨x, hx⟩ : ∃ x, l i = x := ⟨_, rfl⟩
      obtain ⟨y, hy⟩ : ∃ y, l' i = y := ⟨_, rfl⟩
      have HX := Lib.hid hx; have HY := Lib.hid hy
      rw [hx] at hlc; rw [hy] at hlc'
      have HKY : Hid (keyOf Try.prog 70 (prV x y) = some (kpL x y)) := Lib.hid (kp_key (hx ▸ HWa.out) (hy ▸ HWb.out))
      clear hx hy
      have HKC : Hid (∀ w', Below wr.heap.size wr w' → w'.cell? ⟨lb, lo + i, none⟩ = some (.int .i64 x) ∧ w'.cell? ⟨lb', lo' + i, none⟩ = some (.int .i64 y)) := Lib.hid fun w' h => by
        rw [h.cell (p := ⟨lb, lo + i, none⟩) hlb, h.cell (p := ⟨lb', lo' + i, none⟩) hlb']; exact ⟨hlc, hlc'⟩
      have HBP := build_pair
      have hbl := (HO.out.lt).2
      go_wp2_with fail
      go_region_held_law (fun w' => w'.cell? ⟨lb, lo + i, none⟩ = some (.int .i64 x) ∧ w'.cell? ⟨lb', lo' + i, none⟩ = some (.int .i64 y))
        (first | exact HKC.out _ (Below.refl _ _).drew | exact HKC.out _ ((Below.refl _ _).alloc (Nat.le_refl _) _) | exact HKC.out _ ((Below.refl _ _).drew.alloc (Nat.le_refl _) _) | exact HKC.out _ (((Below.refl _ _).alloc (Nat.le_refl _) _).drew))
        (fail)
      obtain ⟨W2, hW2⟩ : ∃ W2, (wr.alloc (.cells #[.int .i64 x, .int .i64 y] 70)).drew = W2 := ⟨_, rfl⟩
      obtain ⟨h, hh⟩ : ∃ h, wr.heap.size = h := ⟨_, rfl⟩
      have hb2 : Below wr.heap.size wr W2 := hW2 ▸ ((Below.refl _ _).alloc (Nat.le_refl _) _).drew
      have hbh : b + 1 < h := hh ▸ hbl
      have HM2 : Hid (ownsP W2 b i D) := Lib.hid (ownsMap_below HM.out hb2 (by omega))
      have HO2 : Hid (ipR W2 (b + 1) (b + 1) n (clJ l l' i)) := Lib.hid (HO.out.below hb2)
      have HB2 : Hid (Below b w W2) := Lib.hid (HB.out.trans (hb2.mono (by omega)))
      have HP2 : Hid (W2.heap[h]? = some (.cells #[.int .i64 x, .int .i64 y] 70 (0, 0))) := Lib.hid (by rw [← hW2, ← hh]; exact heap_alloc_new wr _)
      have p0 : W2.cell? ⟨h, 0, none⟩ = some (.int .i64 x) := by simp [World.cell?, HP2.out]
      have p1 : W2.cell? ⟨h, 1, none⟩ = some (.int .i64 y) := by simp [World.cell?, HP2.out]
      rw [hW2, hh]
      have hsz := cntT_le (isH (joR l l')) i
      have hjz := HJ.out.1
      obtain ⟨R, hR⟩ : ∃ R, joR l l' = R := ⟨_, rfl⟩
      have hclle : clA R i ≤ i := by
        have h1 := cntT_le (isH R) (hdA R i); have h2 := hdA_le R i
        unfold clA; omega
      obtain ⟨C, hC⟩ : ∃ C, clA R i = C := ⟨_, rfl⟩
      rw [hC] at hclle
      have HCL : Hid (clA (joR l l') i = C) := Lib.hid (hR ▸ hC)
      clear hb2 hW2 hlc hlc' hlb hlb' HM HO HB HKC HBP hR hC hb0 hh
      have f0 := HO2.out.free i
      have c0 := HO2.out.cell i hlti
      by_cases hm : ∃ j, j < i ∧ joR l l' j i = true
      · obtain ⟨hhas, hat⟩ := (HJ.out.2 i HWa.out HWb.out).1 hm
        rw [HX.out, HY.out] at hhas hat
        rw [HCL.out] at hat
        have HHAS := Lib.hid hhas
        have HAT := Lib.hid hat
        have HJ2 := Lib.hid (mpJ_old HJ.out hm)
        have HM3 : Hid (ownsP (W2.setCell ⟨b + 1, i, none⟩ (.int .i64 (C : Int))) b (i + 1) D) := Lib.hid ((HM2.out.mono (Nat.le_succ i)).setCell (by simp) _)
        have HO3 : Hid (ipR (W2.setCell ⟨b + 1, i, none⟩ (.int .i64 (C : Int))) (b + 1) (b + 1) n (clJ l l' (i + 1))) := Lib.hid (by have := HO2.out.put i (C : Int); rw [← HCL.out, clJ_succ] at this; rw [← HCL.out]; exact this)
        have HB3 : Hid (Below b w (W2.setCell ⟨b + 1, i, none⟩ (.int .i64 (C : Int)))) := Lib.hid (HB2.out.setCell (p := ⟨b + 1, i, none⟩) (Nat.le_succ b) _)
        clear hhas hat hm HJ HO2 HB2 hjz
        go_wp2_with (at_lookup; refine wpList_lookup_own_ok_int _ rfl _ _ 68 rfl 70 3 .i64 pairLaw Try.underlying68 Try.underlying3 (zeroI10 _) b i D rfl HM2.out _ _ rfl HKY.out ?_; intro z hz _; rw [HHAS.out]; obtain rfl : z = (C : Int) := (Lit.int.inj (DataW.lit.inj (hz.symm.trans HAT.out))).2)
        go_roundw
        case rel => exact ⟨i + 1, by omega, by go_num, D, HJ2, HM3, HO3, Lib.hid (.inr trivial), HB3⟩
        case measure => simp [intOf]; omega
      · have hm' : ∀ j, j < i → joR l l' j i = false := fun j hj => by
          cases e : joR l l' j i with
          | false => rfl
          | true => exact absurd ⟨j, hj, e⟩ hm
        have hhas := (HJ.out.2 i HWa.out HWb.out).2 hm'
        obtain ⟨hj2, hcc⟩ := mpJ_new HJ.out (HM2.out.tidy pairLaw) HWa.out HWb.out hm'
        rw [HCL.out] at hcc
        rw [HX.out, HY.out] at hhas
        rw [← hcc, HX.out, HY.out] at hj2
        rw [← hcc] at hjz
        have HHAS := Lib.hid hhas
        have HSZ := Lib.hid hjz
        have HJ2 := Lib.hid hj2
        have HWF : Hid ((Lit.int .i64 (C : Int)).wf = true) := Lib.hid (WalkArith.wf_i64 (by omega))
        have HMX : Hid (i < maxLen) := Lib.hid (by unfold maxLen; omega)
        clear hhas hcc hj2 hjz hm hm' HJ hsz
        go_wp2_with (first | (at_lookup; refine wpList_lookup_own_ok_int _ rfl _ _ 68 rfl 70 3 .i64 pairLaw Try.underlying68 Try.underlying3 (zeroI10 _) b i D rfl HM2.out _ _ rfl HKY.out ?_; intro z _ _; rw [HHAS.out]) | (at_len; refine wpList_len_own _ rfl _ 68 rfl 70 3 Try.underlying68 _ b i D rfl HM2.out ?_; rw [HSZ.out]) | (at_mapUpdate; refine wpList_mapUpdate_own _ rfl _ _ _ 68 rfl 70 3 pairLaw Try.underlying68 _ b i D rfl HM2.out HMX.out _ _ _ rfl rfl HKY.out (iL (C : Int)) [] (plainElem_int Try.underlying3 HWF.out) ?_))
        intro w3 hown3 hg3
        have HM3 : Hid (ownsP w3 b (i + 1) (D.put (kpL x y) (iL (C : Int)))) := Lib.hid hown3
        have ho3 : ipR w3 (b + 1) (b + 1) n (clJ l l' i) := World.ownsRow.kept HO2.out hg3 (.inr (by simp [Value.ownBlock]))
        have hb3 : Below b w w3 := HB2.out.grown hg3 (by have := HO2.out.lt; omega) (fun r hr => by cases hr; exact Nat.le_refl _)
        have f0 := ho3.free i
        have c0 := ho3.cell i hlti
        have HM4 : Hid (ownsP (w3.setCell ⟨b + 1, i, none⟩ (.int .i64 (C : Int))) b (i + 1) (D.put (kpL x y) (iL (C : Int)))) := Lib.hid (HM3.out.setCell (by simp) _)
        have HO3 : Hid (ipR (w3.setCell ⟨b + 1, i, none⟩ (.int .i64 (C : Int))) (b + 1) (b + 1) n (clJ l l' (i + 1))) := Lib.hid (by have := ho3.put i (C : Int); rw [← HCL.out, clJ_succ] at this; rw [← HCL.out]; exact this)
        have HB3 : Hid (Below b w (w3.setCell ⟨b + 1, i, none⟩ (.int .i64 (C : Int)))) := Lib.hid (hb3.setCell (p := ⟨b + 1, i, none⟩) (Nat.le_succ b) _)
        clear hown3 hg3 ho3 hb3 HM2 HO2 HB2 HP2 p0 p1 HM3
        go_wp2_with fail
        go_roundw
        case rel => exact ⟨i + 1, by omega, by go_num, _, HJ2, HM4, HO3, Lib.hid (.inr trivial), HB3⟩
        case measure => simp [intOf]; omega
    · obtain rfl : i = n := by omega
      have HSZ := Lib.hid (HJ.out.1.trans HCn.out)
      have HR : Hid (rdL wr (some ⟨b + 1, 0, none⟩) i (fun x => (clA (joR l l') x : Nat))) := Lib.hid (HO.out.same fun j hj => by simp [clJ, hj]).rd
      have HE : Hid (Below w.heap.size w wr) := Lib.hid (HGb.out.symm ▸ HB.out)
      clear HO HB HJ HCn
      go_wp2_with (at_len; refine wpList_len_own _ rfl _ 68 rfl 70 3 Try.underlying68 _ b i D rfl HM.out ?_; rw [HSZ.out])
      go_returns
      exact ⟨_, _, _, rfl, HR.out, fun _ _ => rfl, HE.out⟩
set_option maxRecDepth 100000 in
set_option maxHeartbeats 4000000 in
theorem join_none (q : Option Addr) (n c : Nat) (q' : Option Addr) (n' c' : Nat) (hne : n ≠ n') (hn : n ≤ 1000) (hn' : n' ≤ 1000) (w : World) :
    Calls Try.prog 28 #[.slice q n c, .slice q' n' c'] w (clsPost 0 (fun _ => 0) 0 w) := by
  have hb0 : ((n : Int) != (n' : Int)) = true := by simp; omega
  have n0 : (0 : Int) ≤ (n : Int) := by omega
  have n1 : (0 : Int) ≤ (n' : Int) := by omega
  have n2 : (n : Int) ≤ 1000 := by omega
  have n3 : (n' : Int) ≤ 1000 := by omega
  go_enter Try.func28, Try.ntmps28
  go_wp2_with fail
  go_returns
  exact ⟨none, 0, fun _ => 0, rfl, fun j hj => absurd hj (Nat.not_lt_zero _), fun _ _ => rfl, Below.refl _ _⟩
theorem joi_any : JoiC := fun q n c l q' n' c' l' w hn hn' hw hw' hl hl' => by
  by_cases h : n = n'
  · subst h
    exact (join_is q n c l q' c' l' hn hw hw' w hl hl').mono fun e w' h => ⟨fun _ => h, fun g => absurd rfl g⟩
  · exact (join_none q n c q' n' c' h hn hn' w).mono fun e w' g => ⟨fun k => absurd k h, fun _ => g⟩
end Go.Proofs.Ytnoaejpabfnfpaa
