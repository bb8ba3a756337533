/-
  The walks of dfa.Live and dfa.Reach.
-/
import Derived.Test.YtnoaejpabfnfpaaPk21
import Derived.Test.YtnoaejpabfnfpaaPk36
import Derived.Test.YtnoaejpabfnfpaaPk38
namespace Go.Proofs.Ytnoaejpabfnfpaa
open Go.RowKit

theorem rtQ.trans {E : Nat → Nat → Prop} {i j k : Nat} (h : rtQ E i j) (g : rtQ E j k) : rtQ E i k := by
  induction g with
  | refl => exact h
  | tail _ e ih => exact .tail ih e
/-- Forwards. -/
theorem rtQ_fwd {x : Da} {a b : Nat} : rtQ (fun s t => ∃ y, y < 259 ∧ goD x s y = t) a b ↔ rtE (edD x) a b := by
  constructor
  · intro h
    induction h with
    | refl => exact .refl _
    | tail _ e ih => exact .tail ih (edD_iff.2 (.inr e))
  · intro h
    induction h with
    | refl => exact .refl _
    | tail _ e ih =>
      rcases edD_iff.1 e with rfl | e
      · exact ih
      · exact .tail ih e
/-- Backwards. -/
theorem rtQ_bwd {x : Da} (hx : rgD x) {a b : Nat} (hb : b < x.n2) : rtQ (fun s t => t < x.n2 ∧ ∃ y, y < 259 ∧ goD x t y = s) a b ↔ rtE (edD x) b a := by
  constructor
  · intro h
    clear hb
    induction h with
    | refl => exact .refl _
    | tail _ e ih => exact (rtE.one (edD_iff.2 (.inr e.2))).trans ih
  · intro h
    have key : a < x.n2 ∧ rtQ (fun s t => t < x.n2 ∧ ∃ y, y < 259 ∧ goD x t y = s) a b := by
      induction h with
      | refl => exact ⟨hb, .refl _⟩
      | @tail j k _ e ih =>
        refine ⟨edD_lt hx _ _ ih.1 e, ?_⟩
        rcases edD_iff.1 e with rfl | e
        · exact ih.2
        · exact (rtQ.tail (.refl k) ⟨ih.1, e⟩).trans ih.2
    exact key.2

set_option maxRecDepth 100000 in
set_option maxHeartbeats 4000000 in
theorem reachFn12 (x : Da) (D Z s g : Nat) (q0 : Option Addr) (c0 : Nat) (q1 : Option Addr) (c1 : Nat) (q2 : Option Addr) (c2 : Nat) (p : Option Addr) (n c : Nat) (f : Nat → Int) (hsm : smD x) (hx : rgD x) (hs : s < x.n2) (hn : n ≤ 259) (hf : ∀ y, (∃ i, i < n ∧ f i = y) ↔ ∃ j, j < 259 ∧ x.l0 j = y) (w : World)
    (hd : daAt w (dfV q0 x.n0 c0 x.wd x.st q1 x.n1 c1 q2 x.n2 c2) x) (hk : isDf w D q0 x.n0 c0 x.wd x.st q1 x.n1 c1 q2 x.n2 c2) (hZ : one9 22 w Z (.slice p n c)) (hl : rdL w p n f) :
    Calls Try.prog 54 #[.int .i64 (s : Int), .pointer (some ⟨D, 0, none⟩), .pointer (some ⟨Z, 0, none⟩)] w (onPost g x.n2 (fun s t => ∃ y, y < 259 ∧ goD x s y = t) s w) := by
  have hfr : ∀ i, i < n → 0 ≤ f i ∧ f i < x.wd := fun i hi => by
    obtain ⟨j, h1, h2⟩ := (hf (f i)).1 ⟨i, hi, rfl⟩
    rw [← h2]
    exact (show ∀ j, j < 259 → 0 ≤ x.l0 j ∧ x.l0 j < x.wd from hx.2.2.2.2.2.2.2.2.1) j h1
  have HC := Lib.hid (going12 _ x s p n c f w hsm hx hs hn hfr hd hl)
  have HM := Lib.hid (gt_mem (x := x) s n f hf)
  have HR : Hid (∀ i, i < n → gtF x s (f i).toNat < x.n2) := Lib.hid fun i hi => (gtF_at hx hs (by have := hfr i hi; omega)).2.2
  have z0 := hZ.cell
  obtain ⟨y0, y1, y2, y3, y4⟩ := hk.cells
  have dl := hk.lt
  clear hd hl hfr hf hx hsm hk hZ
  go_enter Try.func54, Try.ntmps54
  go_wp2_with fail
  refine HC.out.mono ?_
  rintro e w2 ⟨p2, k2, rfl, hsp, hb2⟩
  have HRD := Lib.hid hsp.rd
  have HB := Lib.hid hb2
  have HG : Hid (∀ b o, p2 = some ⟨b, o, none⟩ → w.heap.size ≤ b) := Lib.hid fun b o e => (World.ownsRow.lt hsp b (by rw [e]; rfl)).1
  clear hsp hb2
  go_wp2_with fail
  go_returns
  exact ⟨p2, n, k2, _, rfl, HRD.out, by omega, fun i hi => ⟨_, rfl, HR.out i hi⟩, HM.out, HB.out, fun b o e => .inr (HG.out b o e)⟩

set_option maxRecDepth 100000 in
set_option maxHeartbeats 20000000 in
theorem rch_any : RchD := by
  intro v x w hs hd
  obtain ⟨D, hD⟩ : ∃ D, w.heap.size = D := ⟨_, rfl⟩
  have hd' := hd
  obtain ⟨q0, c0, q1, c1, q2, c2, rfl, -, -, -⟩ := hd'
  obtain ⟨w1, hw1⟩ : ∃ w1, w.alloc (.cells #[.slice q0 x.n0 c0, .int .i64 x.wd, .int .i64 x.st, .slice q1 x.n1 c1, .slice q2 x.n2 c2] 25) = w1 := ⟨_, rfl⟩
  have hz1 : w1.heap.size = D + 1 := by rw [← hw1, World.size_alloc, hD]
  have hb1 : Below D w w1 := hw1 ▸ (Below.refl _ _).alloc (by omega) _
  have hk1 : isDf w1 D q0 x.n0 c0 x.wd x.st q1 x.n1 c1 q2 x.n2 c2 := hw1 ▸ hD ▸ heap_alloc_new w _
  have HDF := Lib.hid (fun w' (h : Below (D + 1) w1 w') => hk1.below h (Nat.lt_succ_self D))
  have HD := Lib.hid (fun w' (h : Below (D + 1) w1 w') => hd.below (hD.symm ▸ hb1.trans (h.mono (Nat.le_succ D))))
  have HRG := Lib.hid (rig_any _ x w1 hs (HD.out _ (Below.refl _ _)))
  have HCS := Lib.hid (fun w' (hx : rgD x) (h : Below (D + 1) w1 w') => classes12 _ x w' hx (HD.out _ h))
  have HW1 := Lib.hid hw1; have HZ := Lib.hid hz1
  have HF : Hid (∀ w', Below (D + 1) w1 w' → Below w.heap.size w w') := Lib.hid fun w' h => by rw [hD]; exact hb1.trans (h.mono (by omega))
  have HS := Lib.hid hs
  have hm : x.n2 ≤ 1000 := hs.2.2
  obtain ⟨y0, y1, y2, y3, y4⟩ := hk1.cells
  clear hw1 hb1 hk1 hd hz1 hs
  cases hg : rgB x with
  | false =>
    rw [hg] at HRG
    have HNR : Hid (¬ rgD x) := Lib.hid fun h => by rw [rgB_yes h] at hg; cases hg
    clear hg
    go_enter Try.func45, Try.ntmps45
    go_upto_region 1 with (fail)
    rw [HW1.out]
    clear hD
    go_wp2_with fail
    refine HRG.out.mono ?_
    rintro e w2 ⟨rfl, hb2⟩
    have HB2 : Hid (Below (D + 1) w1 w2) := Lib.hid (HZ.out ▸ hb2)
    clear hb2 y0 y1 y2 y3 y4
    go_wp2_with fail
    go_returns
    exact ⟨none, 0, 0, fun _ => false, rfl, fun j hj => absurd hj (Nat.not_lt_zero _), fun _ => rfl, fun h => absurd h HNR.out, HF.out _ HB2.out⟩
  | true =>
    rw [hg] at HRG
    have hx := rgB_iff.1 hg
    have HX := Lib.hid hx
    obtain ⟨st, hst⟩ : ∃ st : Nat, x.st = st := ⟨x.st.toNat, by have := hx.2.2.2.2.2.2.1; omega⟩
    have HSL : Hid (st < x.n2) := Lib.hid (by have := hx.2.2.2.2.2.2.2.1; omega)
    have HST : Hid (x.st.toNat = st) := Lib.hid (by omega)
    obtain ⟨m, hme⟩ : ∃ m, x.n2 = m := ⟨_, rfl⟩
    have HME := Lib.hid hme
    rw [hst] at y2
    rw [hme] at y4 hm
    have HWW : Hid (w.alloc (.cells #[.slice q0 x.n0 c0, .int .i64 x.wd, .int .i64 (st : Int), .slice q1 x.n1 c1, .slice q2 m c2] 25) = w1) := Lib.hid (by rw [← hst, ← hme]; exact HW1.out)
    have HRG2 : Hid (Calls Try.prog 17 #[dfV q0 x.n0 c0 x.wd (st : Int) q1 x.n1 c1 q2 m c2] w1 fun e w' => e = .returned (.bool true) ∧ Below w1.heap.size w1 w') := Lib.hid (by rw [← hst, ← hme]; exact HRG.out)
    have HCS2 : Hid (∀ w', Below (D + 1) w1 w' → Calls Try.prog 52 #[dfV q0 x.n0 c0 x.wd (st : Int) q1 x.n1 c1 q2 m c2] w' (csPost x w')) := Lib.hid fun w' h => by rw [← hst, ← hme]; exact HCS.out w' HX.out h
    have HK : Hid (∀ w', Below (D + 1) w1 w' → w'.cell? ⟨D, 0, none⟩ = some (.slice q0 x.n0 c0) ∧ w'.cell? ⟨D, 1, none⟩ = some (.int .i64 x.wd) ∧ w'.cell? ⟨D, 2, none⟩ = some (.int .i64 (st : Int)) ∧ w'.cell? ⟨D, 3, none⟩ = some (.slice q1 x.n1 c1) ∧ w'.cell? ⟨D, 4, none⟩ = some (.slice q2 m c2)) := Lib.hid fun w' h => by
      have := (HDF.out w' h).cells
      rw [hst, hme] at this; exact this
    have HGOAL : Hid (dfV q0 x.n0 c0 x.wd x.st q1 x.n1 c1 q2 x.n2 c2 = dfV q0 x.n0 c0 x.wd (st : Int) q1 x.n1 c1 q2 m c2) := Lib.hid (by rw [hst, hme])
    have hgo := HGOAL.out
    rw [hgo]
    clear hgo HGOAL hg hx hst hme HRG HCS HW1
    go_enter Try.func45, Try.ntmps45
    go_upto_region 1 with (fail)
    rw [HWW.out]
    clear hD
    go_wp2_with fail
    refine HRG2.out.mono ?_
    rintro e w2 ⟨rfl, hb2⟩
    have HB2 : Hid (Below (D + 1) w1 w2) := Lib.hid (HZ.out ▸ hb2)
    clear hb2 y0 y1 y2 y3 y4
    obtain ⟨y0, y1, y2, y3, y4⟩ := HK.out _ HB2.out
    go_wp2_with fail
    refine (HCS2.out _ HB2.out).mono ?_
    rintro e w3 ⟨gc, nc, cc, f, rfl, hrf, hnc, hmf, hb3, hgc⟩
    have hb3' : Below (D + 1) w1 w3 := HB2.out.trans (hb3.mono (by have := HB2.out.size; have := HZ.out; omega))
    obtain ⟨W, hW⟩ : ∃ W, w3.alloc (.cells #[.slice (some ⟨gc, 0, none⟩) nc cc] 22) = W := ⟨_, rfl⟩
    have hbW : Below w3.heap.size w3 W := hW ▸ (Below.refl _ _).alloc (Nat.le_refl _) _
    obtain ⟨Z, hZ⟩ : ∃ Z, w3.heap.size = Z := ⟨_, rfl⟩
    have hoW : one9 22 W Z (.slice (some ⟨gc, 0, none⟩) nc cc) := by rw [← hW, ← hZ]; exact heap_alloc_new w3 _
    have hbW1 : Below (D + 1) w1 W := hb3'.trans (hbW.mono (by have := hb3'.size; have := HZ.out; omega))
    have hzW : W.heap.size = Z + 1 := by rw [← hW, World.size_alloc, hZ]
    -- the list of the start
    have hbS : Below W.heap.size W (W.alloc (.cells #[.int .i64 (st : Int)] 3)) := (Below.refl _ _).alloc (Nat.le_refl _) _
    have hrW : rdL W (some ⟨gc, 0, none⟩) nc f := (hrf.below hbW)
    have hsp := spreadR12 m (fun s t => ∃ y, y < 259 ∧ goD x s y = t) (some ⟨W.heap.size, 0, none⟩) 1 1 (fun _ => (st : Int)) D Z hm (by decide) (W.alloc (.cells #[.int .i64 (st : Int)] 3)) (one_rdL W _) (fun i hi => ⟨st, rfl, by have := HSL.out; have := HME.out; omega⟩) (fun s w' hsm' hb' => by
      have hbb : Below W.heap.size W w' := hbS.trans (hb'.mono hbS.size)
      have hb1' : Below (D + 1) w1 w' := hbW1.trans (hbb.mono (by have := hbW1.size; have := HZ.out; omega))
      have h := reachFn12 x D Z s (W.alloc (.cells #[.int .i64 (st : Int)] 3)).heap.size q0 c0 q1 c1 q2 c2 (some ⟨gc, 0, none⟩) nc cc f HS.out HX.out (by have := HME.out; omega) hnc hmf w' (HD.out _ hb1') (HDF.out _ hb1') (hoW.below hbb hoW.lt) (hrW.below hbb)
      rw [HME.out] at h
      exact h)
    have HSP := Lib.hid hsp
    have HWEQ := Lib.hid hW
    have HBW := Lib.hid hbW1
    have HZW := Lib.hid hzW
    have HBS := Lib.hid hbS
    rw [hzW] at HSP
    clear hsp hW hbW hoW hbW1 hbS hrW hb3 hb3' hrf hmf hgc y0 y1 y2 y3 y4
    obtain ⟨y0, y1, y2, y3, y4⟩ := HK.out _ HBW.out
    go_upto_region 4 with (fail)
    rw [HWEQ.out]
    clear hZ HWEQ
    go_wp2_with fail
    refine HSP.out.mono ?_
    rintro e w5 ⟨p5, c5, T5, rfl, h5, h6, h7⟩
    have HF5 : Hid (Below w.heap.size w w5) := Lib.hid (HF.out _ (HBW.out.trans ((HBS.out.trans (h7.mono HBS.out.size)).mono (by have := HBW.out.size; have := HZ.out; omega))))
    have H5 := Lib.hid h5
    have H6 : Hid (∀ s, s < m → (T5 s = true ↔ rtE (edD x) st s)) := Lib.hid fun s hs => by
      rw [h6 s hs]
      constructor
      · rintro ⟨q0, ⟨i, -, e⟩, h⟩
        have : q0 = st := by exact_mod_cast e.symm
        subst this
        exact rtQ_fwd.1 h
      · exact fun h => ⟨st, ⟨0, by decide, rfl⟩, rtQ_fwd.2 h⟩
    clear h5 h6 h7 HSP
    go_wp2_with fail
    go_returns
    exact ⟨p5, m, c5, T5, rfl, H5.out, fun h => absurd HX.out h, fun _ => ⟨HME.out.symm, fun s hs => by rw [HST.out]; exact H6.out s hs⟩, HF5.out⟩

/-- The states that accept, one by one. -/
theorem trs_step (T : Nat → Bool) (i : Nat) : (T i = true → trs T (i + 1) = trs T i ++ [i]) ∧ (T i = false → trs T (i + 1) = trs T i) := by
  unfold trs
  rw [List.range_succ, List.filter_append]
  constructor <;> intro h <;> simp [h]
theorem trs_le12 (T : Nat → Bool) (i : Nat) : (trs T i).length ≤ i := Nat.le_trans (List.length_filter_le _ _) (by simp)

end Go.Proofs.Ytnoaejpabfnfpaa
