/-
  The walks of dfa.Live and dfa.Reach.
-/
import Derived.Test.YtefpoapbodbenaaPk17
import Derived.Test.YtefpoapbodbenaaPk18
import Derived.Test.YtefpoapbodbenaaPk21
namespace Go.Proofs.Ytefpoapbodbenaa
open Go.RowKit

theorem rtQ.trans {E : Nat → Nat → Prop} {i j k : Nat} (h : rtQ E i j) (g : rtQ E j k) : rtQ E i k := by
  induction g with
  | refl => exact h
  | tail _ e ih => exact .tail ih e
/-- Forwards. -/
theorem rtQ_fwd {x : Da} {a b : Nat} : rtQ (fun s t => ∃ y, y < 259 ∧ goD x s y = t) a b ↔ rtE (edD x) a b := by
  constructor
  · intro h
    induction h with
    | refl => exact .refl _
    | tail _ e ih => exact .tail ih (edD_iff.2 (.inr e))
  · intro h
    induction h with
    | refl => exact .refl _
    | tail _ e ih =>
      rcases edD_iff.1 e with rfl | e
      · exact ih
      · exact .tail ih e
/-- Backwards. -/
theorem rtQ_bwd {x : Da} (hx : rgD x) {a b : Nat} (hb : b < x.n2) : rtQ (fun s t => t < x.n2 ∧ ∃ y, y < 259 ∧ goD x t y = s) a b ↔ rtE (edD x) b a := by
  constructor
  · intro h
    clear hb
    induction h with
    | refl => exact .refl _
    | tail _ e ih => exact (rtE.one (edD_iff.2 (.inr e.2))).trans ih
  · intro h
    have key : a < x.n2 ∧ rtQ (fun s t => t < x.n2 ∧ ∃ y, y < 259 ∧ goD x t y = s) a b := by
      induction h with
      | refl => exact ⟨hb, .refl _⟩
      | @tail j k _ e ih =>
        refine ⟨edD_lt hx _ _ ih.1 e, ?_⟩
        rcases edD_iff.1 e with rfl | e
        · exact ih.2
        · exact (rtQ.tail (.refl k) ⟨ih.1, e⟩).trans ih.2
    exact key.2

set_option maxRecDepth 100000 in
set_option maxHeartbeats 4000000 in
theorem liveFn12 (x : Da) (G Z s g : Nat) (V : Nat → Value) (L : Nat → List Nat) (hL : ∀ t, t < x.n2 → (L t).length ≤ 1000000 ∧ ∀ q, q ∈ L t ↔ q < x.n2 ∧ ∃ y, y < 259 ∧ goD x q y = t) (hs : s < x.n2) (X : Nat → Prop) (w : World)
    (hR : rwX X w G x.n2 V L) (hZ : one9 78 w Z (.slice (some ⟨G, 0, none⟩) x.n2 x.n2)) (hg : ∀ b, (V s).ownBlock = some b → b < g) :
    Calls Try.prog 42 #[.int .i64 (s : Int), .pointer (some ⟨Z, 0, none⟩)] w (onPost g x.n2 (fun s t => t < x.n2 ∧ ∃ y, y < 259 ∧ goD x t y = s) s w) := by
  obtain ⟨m, hm⟩ : ∃ m, x.n2 = m := ⟨_, rfl⟩
  obtain ⟨p, c, hV⟩ := hR.val s hs
  have c1 := (hR.cell hs).1
  have hrow := hR.row s hs
  rw [hV] at c1 hrow hg
  have HRD := Lib.hid (spO.rd11 hrow)
  obtain ⟨l1, l2⟩ := hL s hs
  have HL2 := Lib.hid l2
  have HG : Hid (∀ b o, p = some ⟨b, o, none⟩ → b < g) := Lib.hid fun b o e => hg b (by rw [e]; rfl)
  have hgl := hR.lt
  have c0 := hZ.cell
  have HN : Hid ((L s).length ≤ 1000000) := Lib.hid l1
  rw [hm] at c0 hs HL2 ⊢
  have s0 : (0 : Int) ≤ (s : Int) := by omega
  have s1 : (s : Int) < (m : Int) := by omega
  have hlm : ∀ i, i < (L s).length → (L s).getD i 0 < m := fun i hi => by
    have : (L s).getD i 0 ∈ L s := by rw [List.getD_eq_getElem?_getD, List.getElem?_eq_getElem hi]; simp
    exact ((HL2.out _).1 this).1
  have HLM := Lib.hid hlm
  have HMI : Hid (∀ t : Nat, (∃ i, i < (L s).length ∧ (((L s).getD i 0 : Nat) : Int) = (t : Int)) ↔ t ∈ L s) := Lib.hid fun t => by
    rw [List.mem_iff_getElem]
    constructor
    · rintro ⟨i, hi, e⟩
      rw [List.getD_eq_getElem?_getD, List.getElem?_eq_getElem hi] at e
      refine ⟨i, hi, ?_⟩
      have e2 : (((L s)[i] : Nat) : Int) = (t : Int) := by simpa using e
      omega
    · rintro ⟨i, hi, e⟩
      refine ⟨i, hi, ?_⟩
      rw [List.getD_eq_getElem?_getD, List.getElem?_eq_getElem hi]; simp [e]
  clear hR hZ hL hV hrow hg l1 l2 hlm hm
  obtain ⟨len, hlen⟩ : ∃ len, (L s).length = len := ⟨_, rfl⟩
  rw [hlen] at c1 HRD HN HLM HMI
  go_enter Try.func42, Try.ntmps42
  go_wp2_with fail
  go_returns
  exact ⟨p, len, c, _, rfl, HRD.out, HN.out, fun i hi => ⟨_, rfl, HLM.out i hi⟩, fun t => (HMI.out t).trans (HL2.out t), Below.refl _ _, fun b o e => .inl (HG.out b o e)⟩

set_option maxRecDepth 100000 in
set_option maxHeartbeats 4000000 in
theorem reachFn12 (x : Da) (D Z s g : Nat) (q0 : Option Addr) (c0 : Nat) (q1 : Option Addr) (c1 : Nat) (q2 : Option Addr) (c2 : Nat) (p : Option Addr) (n c : Nat) (f : Nat → Int) (hsm : smD x) (hx : rgD x) (hs : s < x.n2) (hn : n ≤ 259) (hf : ∀ y, (∃ i, i < n ∧ f i = y) ↔ ∃ j, j < 259 ∧ x.l0 j = y) (w : World)
    (hd : daAt w (dfV q0 x.n0 c0 x.wd x.st q1 x.n1 c1 q2 x.n2 c2) x) (hk : isDf w D q0 x.n0 c0 x.wd x.st q1 x.n1 c1 q2 x.n2 c2) (hZ : one9 22 w Z (.slice p n c)) (hl : rdL w p n f) :
    Calls Try.prog 66 #[.int .i64 (s : Int), .pointer (some ⟨D, 0, none⟩), .pointer (some ⟨Z, 0, none⟩)] w (onPost g x.n2 (fun s t => ∃ y, y < 259 ∧ goD x s y = t) s w) := by
  have hfr : ∀ i, i < n → 0 ≤ f i ∧ f i < x.wd := fun i hi => by
    obtain ⟨j, h1, h2⟩ := (hf (f i)).1 ⟨i, hi, rfl⟩
    rw [← h2]
    exact (show ∀ j, j < 259 → 0 ≤ x.l0 j ∧ x.l0 j < x.wd from hx.2.2.2.2.2.2.2.2.1) j h1
  have HC := Lib.hid (going12 _ x s p n c f w hsm hx hs hn hfr hd hl)
  have HM := Lib.hid (gt_mem (x := x) s n f hf)
  have HR : Hid (∀ i, i < n → gtF x s (f i).toNat < x.n2) := Lib.hid fun i hi => (gtF_at hx hs (by have := hfr i hi; omega)).2.2
  have z0 := hZ.cell
  obtain ⟨y0, y1, y2, y3, y4⟩ := hk.cells
  have dl := hk.lt
  clear hd hl hfr hf hx hsm hk hZ
  go_enter Try.func66, Try.ntmps66
  go_wp2_with fail
  refine HC.out.mono ?_
  rintro e w2 ⟨p2, k2, rfl, hsp, hb2⟩
  have HRD := Lib.hid hsp.rd
  have HB := Lib.hid hb2
  have HG : Hid (∀ b o, p2 = some ⟨b, o, none⟩ → w.heap.size ≤ b) := Lib.hid fun b o e => (World.ownsRow.lt hsp b (by rw [e]; rfl)).1
  clear hsp hb2
  go_wp2_with fail
  go_returns
  exact ⟨p2, n, k2, _, rfl, HRD.out, by omega, fun i hi => ⟨_, rfl, HR.out i hi⟩, HM.out, HB.out, fun b o e => .inr (HG.out b o e)⟩

set_option maxRecDepth 100000 in
set_option maxHeartbeats 20000000 in
theorem rch_any : RchD := by
  intro v x w hs hd
  obtain ⟨D, hD⟩ : ∃ D, w.heap.size = D := ⟨_, rfl⟩
  have hd' := hd
  obtain ⟨q0, c0, q1, c1, q2, c2, rfl, -, -, -⟩ := hd'
  obtain ⟨w1, hw1⟩ : ∃ w1, w.alloc (.cells #[.slice q0 x.n0 c0, .int .i64 x.wd, .int .i64 x.st, .slice q1 x.n1 c1, .slice q2 x.n2 c2] 25) = w1 := ⟨_, rfl⟩
  have hz1 : w1.heap.size = D + 1 := by rw [← hw1, World.size_alloc, hD]
  have hb1 : Below D w w1 := hw1 ▸ (Below.refl _ _).alloc (by omega) _
  have hk1 : isDf w1 D q0 x.n0 c0 x.wd x.st q1 x.n1 c1 q2 x.n2 c2 := hw1 ▸ hD ▸ heap_alloc_new w _
  have HDF := Lib.hid (fun w' (h : Below (D + 1) w1 w') => hk1.below h (Nat.lt_succ_self D))
  have HD := Lib.hid (fun w' (h : Below (D + 1) w1 w') => hd.below (hD.symm ▸ hb1.trans (h.mono (Nat.le_succ D))))
  have HRG := Lib.hid (rig_any _ x w1 hs (HD.out _ (Below.refl _ _)))
  have HCS := Lib.hid (fun w' (hx : rgD x) (h : Below (D + 1) w1 w') => classes12 _ x w' hx (HD.out _ h))
  have HW1 := Lib.hid hw1; have HZ := Lib.hid hz1
  have HF : Hid (∀ w', Below (D + 1) w1 w' → Below w.heap.size w w') := Lib.hid fun w' h => by rw [hD]; exact hb1.trans (h.mono (by omega))
  have HS := Lib.hid hs
  have hm : x.n2 ≤ 1000 := hs.2.2
  obtain ⟨y0, y1, y2, y3, y4⟩ := hk1.cells
  clear hw1 hb1 hk1 hd hz1 hs
  cases hg : rgB x with
  | false =>
    rw [hg] at HRG
    have HNR : Hid (¬ rgD x) := Lib.hid fun h => by rw [rgB_yes h] at hg; cases hg
    clear hg
    go_enter Try.func55, Try.ntmps55
    go_upto_region 1 with (fail)
    rw [HW1.out]
    clear hD
    go_wp2_with fail
    refine HRG.out.mono ?_
    rintro e w2 ⟨rfl, hb2⟩
    have HB2 : Hid (Below (D + 1) w1 w2) := Lib.hid (HZ.out ▸ hb2)
    clear hb2 y0 y1 y2 y3 y4
    go_wp2_with fail
    go_returns
    exact ⟨none, 0, 0, fun _ => false, rfl, fun j hj => absurd hj (Nat.not_lt_zero _), fun _ => rfl, fun h => absurd h HNR.out, HF.out _ HB2.out⟩
  | true =>
    rw [hg] at HRG
    have hx := rgB_iff.1 hg
    have HX := Lib.hid hx
    obtain ⟨st, hst⟩ : ∃ st : Nat, x.st = st := ⟨x.st.toNat, by have := hx.2.2.2.2.2.2.1; omega⟩
    have HSL : Hid (st < x.n2) := Lib.hid (by have := hx.2.2.2.2.2.2.2.1; omega)
    have HST : Hid (x.st.toNat = st) := Lib.hid (by omega)
    obtain ⟨m, hme⟩ : ∃ m, x.n2 = m := ⟨_, rfl⟩
    have HME := Lib.hid hme
    rw [hst] at y2
    rw [hme] at y4 hm
    have HWW : Hid (w.alloc (.cells #[.slice q0 x.n0 c0, .int .i64 x.wd, .int .i64 (st : Int), .slice q1 x.n1 c1, .slice q2 m c2] 25) = w1) := Lib.hid (by rw [← hst, ← hme]; exact HW1.out)
    have HRG2 : Hid (Calls Try.prog 18 #[dfV q0 x.n0 c0 x.wd (st : Int) q1 x.n1 c1 q2 m c2] w1 fun e w' => e = .returned (.bool true) ∧ Below w1.heap.size w1 w') := Lib.hid (by rw [← hst, ← hme]; exact HRG.out)
    have HCS2 : Hid (∀ w', Below (D + 1) w1 w' → Calls Try.prog 60 #[dfV q0 x.n0 c0 x.wd (st : Int) q1 x.n1 c1 q2 m c2] w' (csPost x w')) := Lib.hid fun w' h => by rw [← hst, ← hme]; exact HCS.out w' HX.out h
    have HK : Hid (∀ w', Below (D + 1) w1 w' → w'.cell? ⟨D, 0, none⟩ = some (.slice q0 x.n0 c0) ∧ w'.cell? ⟨D, 1, none⟩ = some (.int .i64 x.wd) ∧ w'.cell? ⟨D, 2, none⟩ = some (.int .i64 (st : Int)) ∧ w'.cell? ⟨D, 3, none⟩ = some (.slice q1 x.n1 c1) ∧ w'.cell? ⟨D, 4, none⟩ = some (.slice q2 m c2)) := Lib.hid fun w' h => by
      have := (HDF.out w' h).cells
      rw [hst, hme] at this; exact this
    have HGOAL : Hid (dfV q0 x.n0 c0 x.wd x.st q1 x.n1 c1 q2 x.n2 c2 = dfV q0 x.n0 c0 x.wd (st : Int) q1 x.n1 c1 q2 m c2) := Lib.hid (by rw [hst, hme])
    have hgo := HGOAL.out
    rw [hgo]
    clear hgo HGOAL hg hx hst hme HRG HCS HW1
    go_enter Try.func55, Try.ntmps55
    go_upto_region 1 with (fail)
    rw [HWW.out]
    clear hD
    go_wp2_with fail
    refine HRG2.out.mono ?_
    rintro e w2 ⟨rfl, hb2⟩
    have HB2 : Hid (Below (D + 1) w1 w2) := Lib.hid (HZ.out ▸ hb2)
    clear hb2 y0 y1 y2 y3 y4
    obtain ⟨y0, y1, y2, y3, y4⟩ := HK.out _ HB2.out
    go_wp2_with fail
    refine (HCS2.out _ HB2.out).mono ?_
    rintro e w3 ⟨gc, nc, cc, f, rfl, hrf, hnc, hmf, hb3, hgc⟩
    have hb3' : Below (D + 1) w1 w3 := HB2.out.trans (hb3.mono (by have := HB2.out.size; have := HZ.out; omega))
    obtain ⟨W, hW⟩ : ∃ W, w3.alloc (.cells #[.slice (some ⟨gc, 0, none⟩) nc cc] 22) = W := ⟨_, rfl⟩
    have hbW : Below w3.heap.size w3 W := hW ▸ (Below.refl _ _).alloc (Nat.le_refl _) _
    obtain ⟨Z, hZ⟩ : ∃ Z, w3.heap.size = Z := ⟨_, rfl⟩
    have hoW : one9 22 W Z (.slice (some ⟨gc, 0, none⟩) nc cc) := by rw [← hW, ← hZ]; exact heap_alloc_new w3 _
    have hbW1 : Below (D + 1) w1 W := hb3'.trans (hbW.mono (by have := hb3'.size; have := HZ.out; omega))
    have hzW : W.heap.size = Z + 1 := by rw [← hW, World.size_alloc, hZ]
    -- the list of the start
    have hbS : Below W.heap.size W (W.alloc (.cells #[.int .i64 (st : Int)] 3)) := (Below.refl _ _).alloc (Nat.le_refl _) _
    have hrW : rdL W (some ⟨gc, 0, none⟩) nc f := (hrf.below hbW)
    have hsp := spreadR12 m (fun s t => ∃ y, y < 259 ∧ goD x s y = t) (some ⟨W.heap.size, 0, none⟩) 1 1 (fun _ => (st : Int)) D Z hm (by decide) (W.alloc (.cells #[.int .i64 (st : Int)] 3)) (one_rdL W _) (fun i hi => ⟨st, rfl, by have := HSL.out; have := HME.out; omega⟩) (fun s w' hsm' hb' => by
      have hbb : Below W.heap.size W w' := hbS.trans (hb'.mono hbS.size)
      have hb1' : Below (D + 1) w1 w' := hbW1.trans (hbb.mono (by have := hbW1.size; have := HZ.out; omega))
      have h := reachFn12 x D Z s (W.alloc (.cells #[.int .i64 (st : Int)] 3)).heap.size q0 c0 q1 c1 q2 c2 (some ⟨gc, 0, none⟩) nc cc f HS.out HX.out (by have := HME.out; omega) hnc hmf w' (HD.out _ hb1') (HDF.out _ hb1') (hoW.below hbb hoW.lt) (hrW.below hbb)
      rw [HME.out] at h
      exact h)
    have HSP := Lib.hid hsp
    have HWEQ := Lib.hid hW
    have HBW := Lib.hid hbW1
    have HZW := Lib.hid hzW
    have HBS := Lib.hid hbS
    rw [hzW] at HSP
    clear hsp hW hbW hoW hbW1 hbS hrW hb3 hb3' hrf hmf hgc y0 y1 y2 y3 y4
    obtain ⟨y0, y1, y2, y3, y4⟩ := HK.out _ HBW.out
    go_upto_region 4 with (fail)
    rw [HWEQ.out]
    clear hZ HWEQ
    go_wp2_with fail
    refine HSP.out.mono ?_
    rintro e w5 ⟨p5, c5, T5, rfl, h5, h6, h7⟩
    have HF5 : Hid (Below w.heap.size w w5) := Lib.hid (HF.out _ (HBW.out.trans ((HBS.out.trans (h7.mono HBS.out.size)).mono (by have := HBW.out.size; have := HZ.out; omega))))
    have H5 := Lib.hid h5
    have H6 : Hid (∀ s, s < m → (T5 s = true ↔ rtE (edD x) st s)) := Lib.hid fun s hs => by
      rw [h6 s hs]
      constructor
      · rintro ⟨q0, ⟨i, -, e⟩, h⟩
        have : q0 = st := by exact_mod_cast e.symm
        subst this
        exact rtQ_fwd.1 h
      · exact fun h => ⟨st, ⟨0, by decide, rfl⟩, rtQ_fwd.2 h⟩
    clear h5 h6 h7 HSP
    go_wp2_with fail
    go_returns
    exact ⟨p5, m, c5, T5, rfl, H5.out, fun h => absurd HX.out h, fun _ => ⟨HME.out.symm, fun s hs => by rw [HST.out]; exact H6.out s hs⟩, HF5.out⟩

/-- The states that accept, one by one. -/
theorem trs_step (T : Nat → Bool) (i : Nat) : (T i = true → trs T (i + 1) = trs T i ++ [i]) ∧ (T i = false → trs T (i + 1) = trs T i) := by
  unfold trs
  rw [List.range_succ, List.filter_append]
  constructor <;> intro h <;> simp [h]
theorem trs_le12 (T : Nat → Bool) (i : Nat) : (trs T i).length ≤ i := Nat.le_trans (List.length_filter_le _ _) (by simp)

set_option maxRecDepth 100000 in
set_option maxHeartbeats 20000000 in
theorem liv_any : LivD := by
  intro v x w hs hd
  obtain ⟨D, hD⟩ : ∃ D, w.heap.size = D := ⟨_, rfl⟩
  have hd' := hd
  obtain ⟨q0, c0, q1, c1, q2, c2, rfl, -, -, hr2⟩ := hd'
  obtain ⟨w1, hw1⟩ : ∃ w1, w.alloc (.cells #[.slice q0 x.n0 c0, .int .i64 x.wd, .int .i64 x.st, .slice q1 x.n1 c1, .slice q2 x.n2 c2] 25) = w1 := ⟨_, rfl⟩
  have hz1 : w1.heap.size = D + 1 := by rw [← hw1, World.size_alloc, hD]
  have hb1 : Below D w w1 := hw1 ▸ (Below.refl _ _).alloc (by omega) _
  have hk1 : isDf w1 D q0 x.n0 c0 x.wd x.st q1 x.n1 c1 q2 x.n2 c2 := hw1 ▸ hD ▸ heap_alloc_new w _
  have HDF := Lib.hid (fun w' (h : Below (D + 1) w1 w') => hk1.below h (Nat.lt_succ_self D))
  have HD := Lib.hid (fun w' (h : Below (D + 1) w1 w') => hd.below (hD.symm ▸ hb1.trans (h.mono (Nat.le_succ D))))
  have HR2 := Lib.hid (fun w' (h : Below (D + 1) w1 w') => hr2.below (hD.symm ▸ hb1.trans (h.mono (Nat.le_succ D))))
  have HRG := Lib.hid (rig_any _ x w1 hs (HD.out _ (Below.refl _ _)))
  have HCT := Lib.hid (fun w' (hx : rgD x) (h : Below (D + 1) w1 w') => coming12 _ x w' hs hx (HD.out _ h))
  have HW1 := Lib.hid hw1; have HZ := Lib.hid hz1
  have HF : Hid (∀ w', Below (D + 1) w1 w' → Below w.heap.size w w') := Lib.hid fun w' h => by rw [hD]; exact hb1.trans (h.mono (by omega))
  have HS := Lib.hid hs
  have hm : x.n2 ≤ 1000 := hs.2.2
  obtain ⟨y0, y1, y2, y3, y4⟩ := hk1.cells
  clear hw1 hb1 hk1 hd hz1 hs hr2
  cases hg : rgB x with
  | false =>
    rw [hg] at HRG
    have HNR : Hid (¬ rgD x) := Lib.hid fun h => by rw [rgB_yes h] at hg; cases hg
    clear hg
    go_enter Try.func22, Try.ntmps22
    go_upto_region 1 with (fail)
    rw [HW1.out]
    clear hD
    go_wp2_with fail
    refine HRG.out.mono ?_
    rintro e w2 ⟨rfl, hb2⟩
    have HB2 : Hid (Below (D + 1) w1 w2) := Lib.hid (HZ.out ▸ hb2)
    clear hb2 y0 y1 y2 y3 y4
    go_wp2_with fail
    go_returns
    exact ⟨none, 0, 0, fun _ => false, rfl, fun j hj => absurd hj (Nat.not_lt_zero _), fun _ => rfl, fun h => absurd h HNR.out, HF.out _ HB2.out⟩
  | true =>
    rw [hg] at HRG
    have hx := rgB_iff.1 hg
    have HX := Lib.hid hx
    obtain ⟨m, hme⟩ : ∃ m, x.n2 = m := ⟨_, rfl⟩
    have HME := Lib.hid hme
    rw [hme] at y4 hm
    have HWW : Hid (w.alloc (.cells #[.slice q0 x.n0 c0, .int .i64 x.wd, .int .i64 x.st, .slice q1 x.n1 c1, .slice q2 m c2] 25) = w1) := Lib.hid (by rw [← hme]; exact HW1.out)
    have HRG2 : Hid (Calls Try.prog 18 #[dfV q0 x.n0 c0 x.wd x.st q1 x.n1 c1 q2 m c2] w1 fun e w' => e = .returned (.bool true) ∧ Below w1.heap.size w1 w') := Lib.hid (by rw [← hme]; exact HRG.out)
    have HCT2 : Hid (∀ w', Below (D + 1) w1 w' → Calls Try.prog 40 #[dfV q0 x.n0 c0 x.wd x.st q1 x.n1 c1 q2 m c2] w' (ctPost x w')) := Lib.hid fun w' h => by rw [← hme]; exact HCT.out w' HX.out h
    have HRT : Hid (∀ w', Below (D + 1) w1 w' → rdBs w' q2 m x.T) := Lib.hid fun w' h => by rw [← hme]; exact HR2.out w' h
    have HK : Hid (∀ w', Below (D + 1) w1 w' → w'.cell? ⟨D, 0, none⟩ = some (.slice q0 x.n0 c0) ∧ w'.cell? ⟨D, 1, none⟩ = some (.int .i64 x.wd) ∧ w'.cell? ⟨D, 2, none⟩ = some (.int .i64 x.st) ∧ w'.cell? ⟨D, 3, none⟩ = some (.slice q1 x.n1 c1) ∧ w'.cell? ⟨D, 4, none⟩ = some (.slice q2 m c2)) := Lib.hid fun w' h => by
      have := (HDF.out w' h).cells
      rw [hme] at this; exact this
    have hgo : dfV q0 x.n0 c0 x.wd x.st q1 x.n1 c1 q2 x.n2 c2 = dfV q0 x.n0 c0 x.wd x.st q1 x.n1 c1 q2 m c2 := by rw [hme]
    rw [hgo]
    have HP0 : Hid (∀ w', spO w' (D + 1) (.slice none 0 0) (trs x.T 0)) := Lib.hid fun w' => ⟨rfl, .inl ⟨rfl, rfl⟩⟩
    have m0 : (0 : Int) ≤ (m : Int) := by omega
    have HXN : Hid (x.n2 = m) := HME
    clear hgo hg hx hme HRG HCT HW1 HR2
    go_enter Try.func22, Try.ntmps22
    go_upto_region 1 with (fail)
    rw [HWW.out]
    clear hD
    go_wp2_with fail
    refine HRG2.out.mono ?_
    rintro e w2 ⟨rfl, hb2⟩
    have HB2 : Hid (Below (D + 1) w1 w2) := Lib.hid (HZ.out ▸ hb2)
    clear hb2 y0 y1 y2 y3 y4
    obtain ⟨y0, y1, y2, y3, y4⟩ := HK.out _ HB2.out
    go_wp2_with fail
    clear y0 y1 y2 y3 y4
    go_loopw [3, 13] (fun av iv wr => ∃ (i : Nat) (vn : Value), i ≤ m ∧ iv = .int .i64 i ∧ vn = av ∧ Hid (spO wr (D + 1) vn (trs x.T i)) ∧ Hid (Below (D + 1) w1 wr)) (fun _ iv _ => m - (intOf iv).toNat)
    case atStart => exact ⟨0, _, Nat.zero_le _, rfl, rfl, Lib.hid (HP0.out _), HB2⟩
    case round =>
      clear HP0 HB2
      obtain ⟨i, vn, hi, rfl, rfl, HXR, HB⟩ := hrel
      by_cases hlt : i < m
      · have i0 : (0 : Int) ≤ (i : Int) := by omega
        have i1 : (i : Int) < (m : Int) := by omega
        obtain ⟨b, o, rfl, hb, hc⟩ := HRT.out _ HB.out i hlt
        obtain ⟨u, hu⟩ : ∃ u, x.T i = u := ⟨_, rfl⟩
        rw [hu] at hc
        cases u
        · have HX2 : Hid (spO wr (D + 1) vn (trs x.T (i + 1))) := Lib.hid (by rw [(trs_step x.T i).2 hu]; exact HXR.out)
          clear hb hu HXR
          go_wp2_with fail
          go_roundw
          case rel => exact ⟨i + 1, _, by omega, by go_num, rfl, HX2, HB⟩
          case measure => simp [intOf]; omega
        · have HTS := Lib.hid ((trs_step x.T i).1 hu)
          have HAL : Hid (Below wr.heap.size wr (wr.alloc (.cells #[.int .i64 (i : Int)] 3))) := Lib.hid ((Below.refl _ _).alloc (Nat.le_refl _) _)
          have HXA : Hid (spO (wr.alloc (.cells #[.int .i64 (i : Int)] 3)) (D + 1) vn (trs x.T i)) := Lib.hid (owns_below HXR.out HAL.out)
          have hBr : D + 1 ≤ wr.heap.size := by have := HB.out.size; have := HZ.out; omega
          have HBA : Hid (Below (D + 1) w1 (wr.alloc (.cells #[.int .i64 (i : Int)] 3))) := Lib.hid (HB.out.trans (HAL.out.mono hBr))
          have HLL : Hid ((trs x.T i).length ≤ 1000000) := Lib.hid (by have := trs_le12 x.T i; omega)
          clear hb hu HXR HB HAL
          go_wp2_with (at_builtin; refine append_nx2 rfl _ _ rfl (D + 1) vn (trs x.T i) rfl HXA.out wr.heap.size i rfl (by simp) HLL.out (by simp; omega) ?_)
          intro v7 w7 hn7 hg7 _
          have HX7 : Hid (spO w7 (D + 1) v7 (trs x.T (i + 1))) := Lib.hid (HTS.out.symm ▸ hn7)
          have HB7 : Hid (Below (D + 1) w1 w7) := Lib.hid (HBA.out.grown hg7 (by simp; omega) (fun r hr => (HXA.out.lt r hr).1))
          clear hn7 hg7 HXA HBA HTS
          go_wp2_with fail
          go_roundw
          case rel => exact ⟨i + 1, _, by omega, by go_num, rfl, HX7, HB7⟩
          case measure => simp [intOf]; omega
      · obtain rfl : i = m := by omega
        obtain ⟨pa, ca, rfl⟩ := spO_of HXR.out
        have HAR := Lib.hid (spO.rd11 HXR.out)
        have HAL : Hid ((trs x.T i).length ≤ 1000000) := Lib.hid (by have := trs_le12 x.T i; omega)
        have HAM : Hid (∀ t : Nat, (∃ j, j < (trs x.T i).length ∧ (((trs x.T i).getD j 0 : Nat) : Int) = (t : Int)) ↔ t < i ∧ x.T t = true) := Lib.hid fun t => by
          have hmem : t ∈ trs x.T i ↔ t < i ∧ x.T t = true := by unfold trs; rw [List.mem_filter, List.mem_range]
          rw [← hmem, List.mem_iff_getElem]
          constructor
          · rintro ⟨j, hj, e⟩
            rw [List.getD_eq_getElem?_getD, List.getElem?_eq_getElem hj] at e
            refine ⟨j, hj, ?_⟩
            have e2 : (((trs x.T i)[j] : Nat) : Int) = (t : Int) := by simpa using e
            omega
          · rintro ⟨j, hj, e⟩
            refine ⟨j, hj, ?_⟩
            rw [List.getD_eq_getElem?_getD, List.getElem?_eq_getElem hj]; simp [e]
        obtain ⟨la, hla⟩ : ∃ la, (trs x.T i).length = la := ⟨_, rfl⟩
        rw [hla] at HAR HAL HAM ⊢
        obtain ⟨fa, hfa⟩ : ∃ fa : Nat → Int, (fun j => (((trs x.T i).getD j 0 : Nat) : Int)) = fa := ⟨_, rfl⟩
        have HAM2 : Hid (∀ t : Nat, (∃ j, j < la ∧ fa j = (t : Int)) ↔ t < i ∧ x.T t = true) := Lib.hid (by rw [← hfa]; exact HAM.out)
        have HNN : Hid (∀ j, j < la → ∃ t : Nat, fa j = (t : Int) ∧ t < i) := Lib.hid fun j hj => by
          have h : fa j = (((trs x.T i).getD j 0 : Nat) : Int) := by rw [← hfa]
          exact ⟨_, h, ((HAM2.out _).1 ⟨j, hj, h⟩).1⟩
        rw [hfa] at HAR
        obtain ⟨y0, y1, y2, y3, y4⟩ := HK.out _ HB.out
        clear hla HXR HAM hfa
        go_wp2_with fail
        refine (HCT2.out _ HB.out).mono ?_
        rintro e w3 ⟨G, V, L, rfl, hR, hL, hG, hb3⟩
        rw [HXN.out] at hR hL ⊢
        have hb3' : Below (D + 1) w1 w3 := HB.out.trans (hb3.mono (by have := HB.out.size; have := HZ.out; omega))
        have hra3 := HAR.out.below hb3
        obtain ⟨W, hW⟩ : ∃ W, w3.alloc (.cells #[.slice (some ⟨G, 0, none⟩) i i] 78) = W := ⟨_, rfl⟩
        have hbW : Below w3.heap.size w3 W := hW ▸ (Below.refl _ _).alloc (Nat.le_refl _) _
        obtain ⟨Z, hZ⟩ : ∃ Z, w3.heap.size = Z := ⟨_, rfl⟩
        have hoW : one9 78 W Z (.slice (some ⟨G, 0, none⟩) i i) := by rw [← hW, ← hZ]; exact heap_alloc_new w3 _
        have hbW1 : Below (D + 1) w1 W := hb3'.trans (hbW.mono (by have := hb3'.size; have := HZ.out; omega))
        have hRW := hR.below hbW
        have hsp := spreadL12 i (fun s t => t < i ∧ ∃ y, y < 259 ∧ goD x t y = s) pa la ca fa Z hm HAL.out W (hra3.below hbW) HNN.out (fun s w' hsm' hb' => by
          have h := liveFn12 x G Z s W.heap.size V L (by rw [HXN.out]; exact hL) (by rw [HXN.out]; exact hsm') (fun k => k < G) w' (by rw [HXN.out]; exact hRW.below hb') (by rw [HXN.out]; exact hoW.below hb' hoW.lt) (fun b e => (World.ownsRow.lt (hRW.row s hsm') b e).2)
          rw [HXN.out] at h
          exact h)
        have HSP := Lib.hid hsp
        have HWEQ := Lib.hid hW
        have HBW := Lib.hid hbW1
        clear hsp hW hbW hoW hbW1 hb3 hb3' hR hL hG hra3 hRW y0 y1 y2 y3 y4
        obtain ⟨y0, y1, y2, y3, y4⟩ := HK.out _ HBW.out
        go_upto_region 11 with (fail)
        rw [HWEQ.out]
        clear hZ HWEQ
        go_wp2_with fail
        refine HSP.out.mono ?_
        rintro e w5 ⟨p5, c5, T5, rfl, h5, h6, h7⟩
        have HF5 : Hid (Below w.heap.size w w5) := Lib.hid (HF.out _ (HBW.out.trans (h7.mono (by have := HBW.out.size; have := HZ.out; omega))))
        have H5 := Lib.hid h5
        have H6 : Hid (∀ s, s < i → (T5 s = true ↔ ∃ k, k < x.n2 ∧ rtE (edD x) s k ∧ x.T k = true)) := Lib.hid fun s hs => by
          rw [h6 s hs]
          have hE : ∀ a, rtQ (fun s t => t < i ∧ ∃ y, y < 259 ∧ goD x t y = s) a s ↔ rtE (edD x) s a := fun a => by
            have := rtQ_bwd HX.out (a := a) (b := s) (by rw [HXN.out]; exact hs)
            rw [HXN.out] at this; exact this
          constructor
          · rintro ⟨q0, hq, h⟩
            obtain ⟨h8, h9⟩ := (HAM2.out q0).1 hq
            exact ⟨q0, by rw [HXN.out]; exact h8, (hE q0).1 h, h9⟩
          · rintro ⟨k, h8, h9, h10⟩
            exact ⟨k, (HAM2.out k).2 ⟨by rw [← HXN.out]; exact h8, h10⟩, (hE k).2 h9⟩
        clear h5 h6 h7 HSP
        go_wp2_with fail
        go_returns
        exact ⟨p5, i, c5, T5, rfl, H5.out, fun h => absurd HX.out h, fun _ => ⟨HXN.out.symm, H6.out⟩, HF5.out⟩
end Go.Proofs.Ytefpoapbodbenaa
