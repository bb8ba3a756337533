/-
  The walk of the parts' part: some of a block's states become a block of their own.
-/
import Derived.Test.YtefpoapbodbenaaPk46
import Derived.Test.YtefpoapbodbenaaPk47
import Derived.Deep.RegionHeldLaw
namespace Go.Proofs.Ytefpoapbodbenaa
open Go.RowKit

section
variable {X X' : Nat → Prop} {w0 w w' : World} {h n : Nat} {U V : Nat → Value} {L : Nat → List Value}
/-- More is kept. -/
theorem Fm.more (H : Fm X w0 w h U V L) (hx : ∀ k, X' k → k < w.heap.size ∧ k ≠ h ∧ ∀ r, (V r).ownBlock ≠ some k) : Fm X' w w h U V L :=
  ⟨H.st, H.row, H.ap, H.nh, fun r b e hb => (hx b hb).2.2 r e, fun hb => (hx h hb).2.1 rfl, fun k hk => (hx k hk).1, kpX.refl _ _⟩
/-- Less is kept. -/
theorem Fm.less {w1 : World} (H : Fm X' w1 w h U V L) (hx : ∀ k, X k → X' k) (hk : kpX X w0 w1) : Fm X w0 w h U V L :=
  ⟨H.st, H.row, H.ap, H.nh, fun r b e hb => H.nX r b e (hx b hb), fun hb => H.hX (hx h hb), fun k hk => H.Xl k (hx k hk), hk.trans (H.kp.sub hx)⟩
end
theorem setP_nil (t : Ps) (k : Nat) : setP t [] k = t := by
  unfold setP
  simp
theorem lP_set (n : Nat) (V : Nat → Value) (t : Ps) (l : List Nat) (j x k : Nat) (hx : l[j]? = some x) : upd (lP n V (setP t (l.take j) k)) 0 ((lP n V (setP t (l.take j) k) 0).set x (.int .i64 (k : Int))) = lP n V (setP t (l.take (j + 1)) k) := by
  have ht : l.take (j + 1) = l.take j ++ [x] := by rw [List.take_add_one, hx]; rfl
  refine fn_ext ?_ rfl rfl rfl rfl (fun i => ?_) fun i => ?_
  · rw [upd_at, lP0, lP0, fnv_set]
    congr 1
    funext y
    show (if y = x then (k : Int) else ((if y ∈ l.take j then k else t.blk y : Nat) : Int)) = ((if y ∈ l.take (j + 1) then k else t.blk y : Nat) : Int)
    rw [ht]
    by_cases e : y = x
    · rw [if_pos e, if_pos (by simp [e])]
    · rw [if_neg e]
      have : y ∈ l.take j ++ [x] ↔ y ∈ l.take j := by simp [e]
      simp only [this]
  · rw [upd_ne _ _ (rS_ne i (by decide)), lPS, lPS]; rfl
  · rw [upd_ne _ _ (rT_ne i (by decide)), lPT, lPT]; rfl
theorem lP_cut (n : Nat) (V : Nat → Value) (t : Ps) (b k : Nat) (v : Value) : upd (upd (lP n V t) (rS b) (spl9 ((t.S b).filter fun i => !decide (t.blk i = k)))) 1 ((vls (fun k => V (rS k)) t.nb).set b v) = lP n (upd V (rS b) v) (cutP t b k) := by
  refine fn_ext ?_ ?_ ?_ ?_ ?_ (fun i => ?_) fun i => ?_
  · show upd (lP n V t) (rS b) _ 0 = _
    rw [upd_ne _ _ (Ne.symm (rS_ne b (by decide)))]; rfl
  · rw [upd_at, lP1, vls_set]
    refine vls_ext fun j _ => ?_
    unfold putV
    by_cases e : j = b
    · rw [if_pos e, e, upd_at]
    · rw [if_neg e, upd_ne _ _ (rS_inj e)]
  · show upd (lP n V t) (rS b) _ 2 = _
    rw [upd_ne _ _ (Ne.symm (rS_ne b (by decide))), lP2, lP2]
    exact vls_ext fun j _ => (upd_ne _ _ (Ne.symm (rS_rT b j))).symm
  · show upd (lP n V t) (rS b) _ 3 = _
    rw [upd_ne _ _ (Ne.symm (rS_ne b (by decide)))]; rfl
  · show upd (lP n V t) (rS b) _ 4 = _
    rw [upd_ne _ _ (Ne.symm (rS_ne b (by decide)))]; rfl
  · rw [upd_ne _ _ (rS_ne i (by decide)), lPS]
    show _ = spl9 (upd t.S b _ i)
    by_cases e : i = b
    · rw [e, upd_at, upd_at]
    · rw [upd_ne _ _ (rS_inj e), upd_ne _ _ e, lPS]
  · rw [upd_ne _ _ (rT_ne i (by decide)), upd_ne _ _ (Ne.symm (rS_rT b i)), lPT, lPT]; rfl

set_option maxRecDepth 100000 in
set_option maxHeartbeats 8000000 in
theorem part13 (X : Nat → Prop) (h n b : Nat) (l : List Nat) (p : Option Addr) (m c : Nat) (V : Nat → Value) (s : Ps) (w0 w : World) (H : PtM X w0 w h n V { s with S := upd s.S s.nb l }) (hv : V (rS s.nb) = .slice p m c) (hb : b < s.nb) (hnb : s.nb ≤ 1000) (hq : s.Q.length ≤ 1000)
    (hl : ∀ i, i ∈ l → i < n) (hS : ∀ i, i ∈ s.S b → i < n) (h0 : s.S b ≠ []) (hn : n ≤ 1000) (hlm : l.length ≤ 1000) :
    Calls Try.prog 65 #[.pointer (some ⟨h, 0, none⟩), .int .i64 (b : Int), .slice p m c] w fun e w' => e = .returned (.tuple #[]) ∧ ∃ V', PtM X w0 w' h n V' (partP s b l) ∧ ∀ k, k ≠ b → V' (rS k) = V (rS k) := by
  obtain ⟨p1, c1, e1, -⟩ := H.v1
  obtain ⟨W1, hW1⟩ : ∃ W1, w.alloc (.cells #[.pointer (some ⟨h, 0, none⟩)] 86) = W1 := ⟨_, rfl⟩
  obtain ⟨W2, hW2⟩ : ∃ W2, W1.alloc (.cells #[.int .i64 (s.nb : Int)] 3) = W2 := ⟨_, rfl⟩
  obtain ⟨bp, hbp⟩ : ∃ bp, w.heap.size = bp := ⟨_, rfl⟩
  obtain ⟨bk, hbk⟩ : ∃ bk, W1.heap.size = bk := ⟨_, rfl⟩
  have hz1 : bk = bp + 1 := by rw [← hbk, ← hW1, World.size_alloc, hbp]
  have hz2 : W2.heap.size = bp + 2 := by rw [← hW2, World.size_alloc, hbk, hz1]
  have hb1 : Below w.heap.size w W1 := hW1 ▸ (Below.refl _ _).alloc (Nat.le_refl _) _
  have hb2 : Below W1.heap.size W1 W2 := hW2 ▸ (Below.refl _ _).alloc (Nat.le_refl _) _
  have o1 : one9 86 W1 bp (.pointer (some ⟨h, 0, none⟩)) := hW1 ▸ hbp ▸ heap_alloc_new w _
  have o2 : one9 3 W2 bk (.int .i64 (s.nb : Int)) := hW2 ▸ hbk ▸ heap_alloc_new W1 _
  have hml : l.length = m := by
    obtain ⟨_, _, e, -⟩ := PtM.vS H s.nb
    simp only [upd_at] at e
    rw [hv] at e
    cases e; rfl
  have HML := Lib.hid hml
  have H1 := Fm.below H hb1
  have H2 := H1.below hb2
  -- what is kept from here on: the two boxes, too
  have hlt : ∀ r k, (V r).ownBlock = some k → k < bp := fun r k e => hbp ▸ Fm.lt H r k e
  have hhp : h < bp := hbp ▸ H.st.lt
  have H3 := H2.more (X' := fun k => X k ∨ k = bp ∨ k = bk) fun k hk => by
    rcases hk with hk | hk | hk
    · exact ⟨H2.Xl k hk, fun e => H2.hX (e ▸ hk), fun r e => H2.nX r k e hk⟩
    · exact ⟨by omega, by omega, fun r e => by have := hlt r k e; omega⟩
    · exact ⟨by omega, by omega, fun r e => by have := hlt r k e; omega⟩
  have HADD := Lib.hid (add13 _ h n l p m c V s W2 W2 H3 hv (by omega))
  have HKP : Hid (kpX X w0 W2) := Lib.hid H2.kp
  have HO1 : Hid (∀ w', kpX (fun k => X k ∨ k = bp ∨ k = bk) W2 w' → one9 86 w' bp (.pointer (some ⟨h, 0, none⟩)) ∧ one9 3 w' bk (.int .i64 (s.nb : Int))) := Lib.hid fun w' hk =>
    ⟨(hk.block bp (by omega) (.inr (.inl rfl))).trans (o1.below hb2 (by omega)), (hk.block bk (by omega) (.inr (.inr rfl))).trans o2⟩
  obtain ⟨-, y1, -, -, -⟩ := H1.st.cells
  rw [e1] at y1
  have HW1 := Lib.hid hW1
  have HW2 := Lib.hid hW2
  have HVS := Lib.hid hv
  have x1 := (o1.below (Below.refl _ _) o1.lt).cell
  have x2 := (o1.below hb2 (by omega)).cell
  have HBP := Lib.hid hbp; have HBK := Lib.hid hbk
  have HZ := Lib.hid hz1
  clear hW1 hW2 hbk hz1 hz2 hb1 hb2 o1 o2 H H1 H2 H3 hlt hhp e1
  go_enter Try.func65, Try.ntmps65
  go_upto_region 1 with (fail)
  rw [HW1.out]
  go_upto_region 2 with (fail)
  rw [HW2.out, HBK.out]
  clear y1 x1 hbp
  go_wp2_with fail
  refine HADD.out.mono ?_
  rintro e w3 ⟨rfl, V', HP, hVS⟩
  have HPA := Lib.hid (show PtM _ W2 w3 h n V' (setP (addP s l) (l.take 0) s.nb) by rw [List.take_zero, setP_nil]; exact HP)
  obtain ⟨p0, c0, e0, g0'⟩ := HP.v0
  have hn0 : 0 < n := by
    cases hA : s.S b with
    | nil => exact absurd hA h0
    | cons a A => have := hS a (by rw [hA]; exact List.mem_cons_self ..); omega
  obtain ⟨g0, rfl⟩ := g0' hn0
  obtain ⟨ps, cs, es, gs'⟩ := HP.v1
  obtain ⟨gs, rfl⟩ := gs' (Nat.succ_pos _)
  have HSR := Lib.hid (fun w' L (hf : Fm (fun k => X k ∨ k = bp ∨ k = bk) W2 w' h V' V' L) => (show w'.cell? ⟨bp, 0, none⟩ = some (.pointer (some ⟨h, 0, none⟩)) ∧ w'.cell? ⟨h, 0, none⟩ = some (.slice (some ⟨g0, 0, none⟩) n c0) ∧ w'.cell? ⟨bk, 0, none⟩ = some (.int .i64 (s.nb : Int)) from
    ⟨(HO1.out w' hf.kp).1.cell, e0 ▸ hf.st.cells.1, (HO1.out w' hf.kp).2.cell⟩))
  have HE0 := Lib.hid e0; have HES := Lib.hid es; have HVV := Lib.hid hVS
  obtain ⟨q, hqq⟩ : ∃ q, s.nb = q := ⟨_, rfl⟩
  rw [hqq] at HPA HSR
  simp only [hqq] at HO1
  have HQ := Lib.hid hqq
  have m0 : (0 : Int) ≤ (m : Int) := by omega
  have m1 : (m : Int) ≤ 1000 := by omega
  have n0 : (0 : Int) ≤ (n : Int) := by omega
  have n1 : (n : Int) ≤ 1000 := by omega
  have HLL := Lib.hid hl; have HSS := Lib.hid hS; have HH0 := Lib.hid h0
  have HNB := Lib.hid hnb; have HQQ := Lib.hid hq; have HBB := Lib.hid hb
  clear HADD HP hVS e0 es g0' gs' hqq x2 hl hS h0 hnb hq hb hml
  go_wp2_with fail
  go_loopw [19] (fun jv wr => ∃ j : Nat, j ≤ m ∧ jv = .int .i64 j ∧ Hid (PtM (fun k => X k ∨ k = bp ∨ k = bk) W2 wr h n V' (setP (addP s l) (l.take j) q))) (fun jv _ => m - (intOf jv).toNat)
  case atStart => exact ⟨0, Nat.zero_le _, rfl, HPA⟩
  case round =>
    clear HPA
    obtain ⟨j, hj, rfl, HP⟩ := hrel
    by_cases hlt : j < m
    · have j0 : (0 : Int) ≤ (j : Int) := by omega
      have j1 : (j : Int) < (m : Int) := by omega
      obtain ⟨x, hx⟩ : ∃ x, l[j]? = some x := ⟨l[j]'(by have := HML.out; omega), by simp⟩
      have hxn := HLL.out x (List.mem_of_getElem? hx)
      have hvl := (HVV.out s.nb).trans HVS.out
      obtain ⟨pl, cl, el, gl'⟩ := HP.out.vS s.nb
      have hSl : (setP (addP s l) (l.take j) q).S s.nb = l := upd_at _ _ _
      rw [hvl, hSl] at el
      rw [hSl] at gl'
      obtain ⟨gl, hgl⟩ := gl' (by have := HML.out; omega)
      cases el
      subst hgl
      obtain ⟨k1, k2, k3, -⟩ := Fm.cell HP.out (rS s.nb) hvl (j := j) (u := .int .i64 (x : Int)) (by rw [lPS, hSl]; simp [spl9, hx])
      obtain ⟨k4, k5, k6, -⟩ := Fm.cell HP.out 0 HE0.out (j := x) (u := .int .i64 ((setP (addP s l) (l.take j) q).blk x : Int)) (by rw [lP0]; exact fnv_at _ _ _ hxn)
      obtain ⟨y0, y1, y2⟩ := HSR.out wr _ HP.out
      have hPd := Lib.hid (Fm.below HP.out (Below.refl _ _).drew)
      have hPs := Fm.stored hPd.out 0 (show V' 0 = .slice (some ⟨g0, 0, none⟩) _ c0 by rw [lP0, fnv_len13]; exact HE0.out) x (.int .i64 (q : Int))
      rw [lP_set n V' _ l j x q hx] at hPs
      have HPS := Lib.hid hPs
      have x0 : (0 : Int) ≤ (x : Int) := by omega
      have x1 : (x : Int) < (n : Int) := by omega
      clear hx hvl hSl gl' hPs hxn
      go_wp2_with fail
      go_region_held_law (fun w' => w'.cell? ⟨bp, 0, none⟩ = some (.pointer (some ⟨h, 0, none⟩)) ∧ w'.cell? ⟨h, 0, none⟩ = some (.slice (some ⟨g0, 0, none⟩) n c0) ∧ w'.cell? ⟨bk, 0, none⟩ = some (.int .i64 (q : Int))) (first | exact HSR.out _ _ HP.out | exact HSR.out _ _ hPd.out | exact HSR.out _ _ HPS.out) (fail)
      go_wp2_with fail
      go_roundw
      case rel => exact ⟨j + 1, by omega, by go_num, HPS⟩
      case measure => simp [intOf]; omega
    · obtain rfl : j = m := by omega
      rw [← HML.out, List.take_length] at HP
      have HS2 : Hid ((setP (addP s l) l q).S b = s.S b) := Lib.hid (upd_ne _ _ (by have := HBB.out; omega))
      obtain ⟨pa, ca, ea, ga'⟩ := HP.out.vS b
      rw [HS2.out] at ea ga'
      obtain ⟨ga, rfl⟩ := ga' (List.length_pos_iff.2 HH0.out)
      obtain ⟨k1, k2, k3, -⟩ := Fm.cell HP.out 1 HES.out (j := b) (u := V' (rS b)) (by rw [lP1]; exact vls_at _ _ _ (by have := HBB.out; show b < s.nb + 1; omega))
      rw [ea] at k1
      have HPd := Lib.hid (Fm.below HP.out (Below.refl _ _).drew)
      have HS1 := Lib.hid (fun w' L (hf : Fm (fun k => X k ∨ k = bp ∨ k = bk) W2 w' h V' (upd V' (rS b) (.slice (some ⟨ga, 0, none⟩) ((s.S b).filter fun i => !decide ((setP (addP s l) l q).blk i = q)).length ca)) L) => (show w'.cell? ⟨bp, 0, none⟩ = some (.pointer (some ⟨h, 0, none⟩)) ∧ w'.cell? ⟨h, 1, none⟩ = some (.slice (some ⟨gs, 0, none⟩) (q + 1) cs) from
        ⟨(HO1.out w' hf.kp).1.cell, by have := hf.st.cells.2.1; rw [HES.out] at this; rw [← HQ.out]; exact this⟩))
      have HS0 := Lib.hid (fun w' L (hf : Fm (fun k => X k ∨ k = bp ∨ k = bk) W2 w' h V' V' L) => (show w'.cell? ⟨bp, 0, none⟩ = some (.pointer (some ⟨h, 0, none⟩)) ∧ w'.cell? ⟨h, 1, none⟩ = some (.slice (some ⟨gs, 0, none⟩) (q + 1) cs) from
        ⟨(HO1.out w' hf.kp).1.cell, by have := hf.st.cells.2.1; rw [HES.out] at this; rw [← HQ.out]; exact this⟩))
      have HDEL := Lib.hid (delete13 bp bk h g0 c0 n q ga ca (setP (addP s l) l q).blk (s.S b) wr.drew (by
          cases hA : s.S b with
          | nil => exact absurd hA HH0.out
          | cons a A => have := HSS.out a (by rw [hA]; exact List.mem_cons_self ..); omega) HSS.out
        (by have := HPd.out.sp (rS b) (s.S b) (eT13S b) (by rw [lPS, HS2.out]); rw [ea] at this; exact this)
        (HSR.out _ _ HPd.out).1 (HSR.out _ _ HPd.out).2.2 (HSR.out _ _ HPd.out).2.1 (fun x hx => (Fm.cell HPd.out 0 HE0.out (by rw [lP0]; exact fnv_at _ _ _ hx)).1)
        (fun e => HPd.out.nX (rS b) ga (by rw [ea]; rfl) (.inr (.inl e.symm))) (fun e => HPd.out.nX (rS b) ga (by rw [ea]; rfl) (.inr (.inr e.symm))) (fun e => HPd.out.nh (rS b) (by rw [ea]; exact congrArg some e.symm))
        (fun e => by
          rcases HPd.out.ap 0 (rS b) (Ne.symm (rS_ne b (by decide))) with g | g
          · rw [HE0.out] at g; cases g
          · rw [HE0.out, ea] at g; exact g (congrArg some e)))
      have HEA := Lib.hid ea
      obtain ⟨B, hBl⟩ : ∃ B, ((s.S b).filter fun i => !decide ((setP (addP s l) l q).blk i = q)) = B := ⟨_, rfl⟩
      have HBL := Lib.hid hBl
      rw [hBl] at HDEL HS1
      have HST : Hid (∀ wc, wc.ownsRow 0 3 1 (.slice (some ⟨ga, 0, none⟩) B.length ca) B.length (spl9 B) → wr.drew.grownBy wc (some ga) →
          Fm (fun k => X k ∨ k = bp ∨ k = bk) W2 wc h V' (upd V' (rS b) (.slice (some ⟨ga, 0, none⟩) B.length ca)) (upd (lP n V' (setP (addP s l) l q)) (rS b) (spl9 B)) ∧
          PtM (fun k => X k ∨ k = bp ∨ k = bk) W2 (wc.setCell ⟨gs, b, none⟩ (.slice (some ⟨ga, 0, none⟩) B.length ca)) h n (upd V' (rS b) (.slice (some ⟨ga, 0, none⟩) B.length ca)) (midP s b l) ∧ wc.cell? ⟨gs, b, none⟩ = some (.slice (some ⟨ga, 0, none⟩) (s.S b).length ca) ∧ wc.frozen? ⟨gs, b, none⟩ = false ∧ gs < wc.heap.size) := Lib.hid fun wc h1 h2 => by
        have f1 := HPd.out.growI (rS b) B (v := .slice (some ⟨ga, 0, none⟩) B.length ca) (eT13S b) (by rw [HEA.out]; exact h2) h1 (.inl (by rw [HEA.out]; rfl))
        have hV1 : upd V' (rS b) (.slice (some ⟨ga, 0, none⟩) B.length ca) 1 = .slice (some ⟨gs, 0, none⟩) (s.nb + 1) cs := by rw [upd_ne _ _ (Ne.symm (rS_ne b (by decide)))]; exact HES.out
        have hL1 : upd (lP n V' (setP (addP s l) l q)) (rS b) (spl9 B) 1 = vls (fun k => V' (rS k)) (s.nb + 1) := by rw [upd_ne _ _ (Ne.symm (rS_ne b (by decide)))]; rfl
        have f2 := f1.stored 1 (by rw [hL1, vls_len]; exact hV1) b (.slice (some ⟨ga, 0, none⟩) B.length ca)
        have f3 := f2.useU (U' := upd V' (rS b) (.slice (some ⟨ga, 0, none⟩) B.length ca)) fun i hi => (upd_ne _ _ (Ne.symm (rS_ne b hi))).symm
        rw [hL1] at f3
        have e4 := lP_cut n V' (setP (addP s l) l q) b q (.slice (some ⟨ga, 0, none⟩) B.length ca)
        rw [HS2.out, HBL.out] at e4
        have e5 : midP s b l = cutP (setP (addP s l) l q) b q := by unfold midP; rw [HQ.out]
        obtain ⟨a1, a2, a3, -⟩ := f1.cell 1 hV1 (j := b) (u := V' (rS b)) (by rw [hL1]; exact vls_at _ _ _ (by have := HBB.out; omega))
        rw [HEA.out] at a1
        refine ⟨f1, ?_, a1, a2, a3⟩
        unfold PtM
        rw [e5, ← e4]
        exact f3
      obtain ⟨u, hu⟩ : ∃ u, (s.S b).length = u := ⟨_, rfl⟩
      rw [hu] at HDEL k1
      simp only [hu] at HST
      have b0 : (0 : Int) ≤ (b : Int) := by omega
      have b1 : (b : Int) < ((q + 1 : Nat) : Int) := by have := HBB.out; have := HQ.out; omega
      have b2 : (b : Int) < (q : Int) + 1 := by have := HBB.out; have := HQ.out; omega
      clear ga' ea hBl hu
      obtain ⟨z0, z1⟩ := HS0.out _ _ HPd.out
      have z2 : wr.drew.cell? ⟨gs, b, none⟩ = some (.slice (some ⟨ga, 0, none⟩) u ca) := k1
      clear k1 k2 k3
      go_wp2_with fail
      -- the takes of region 8
      refine wp_region_held_drew (S := (fun w' => w'.cell? ⟨bp, 0, none⟩ = some (.pointer (some ⟨h, 0, none⟩)) ∧ w'.cell? ⟨h, 1, none⟩ = some (.slice (some ⟨gs, 0, none⟩) (q + 1) cs))) (by kernel_rfl) (HS0.out _ _ HPd.out) (fun hHeld => ?_)
      refine wpAnyH_take (i := 0) (oi := { dst := some 31, op := Go.Op.load 86 (Go.Operand.tmp 3), type := 86, pos := "parts.go:70", after := #[], guard := none }) (v := .pointer (some ⟨h, 0, none⟩)) rfl (by kernel_rfl) (by kernel_rfl) (by kernel_rfl) (fun _ _ _ h => h) (Or.inl ⟨by rfl, ?_⟩) (by assumption) ?_
      · intro w hSw; (try dsimp only at hSw); go_simp
      try simp only [Act.put, List.setIfInBounds_toArray, List.set_cons_zero, List.set_cons_succ]
      refine wpAnyH_take (i := 1) (oi := { dst := some 32, op := Go.Op.nilCheck (Go.Operand.tmp 31), type := 0, pos := "parts.go:70", after := #[{ on := 0, ground := Go.Ground.data }], guard := none }) (v := .pointer (some ⟨h, 0, none⟩)) rfl (by kernel_rfl) (by kernel_rfl) (by kernel_rfl) (fun _ _ _ h => h) (Or.inl ⟨by rfl, ?_⟩) (by assumption) ?_
      · intro w hSw; (try dsimp only at hSw); go_simp
      try simp only [Act.put, List.setIfInBounds_toArray, List.set_cons_zero, List.set_cons_succ]
      refine wpAnyH_take (i := 2) (oi := { dst := some 33, op := Go.Op.fieldAddr 92 (Go.Operand.tmp 32) 1, type := 0, pos := "parts.go:70", after := #[{ on := 1, ground := Go.Ground.data }], guard := none }) (v := .pointer (some ⟨h, 1, none⟩)) rfl (by kernel_rfl) (by kernel_rfl) (by kernel_rfl) (fun _ _ _ h => h) (Or.inl ⟨by rfl, ?_⟩) (by assumption) ?_
      · intro w hSw; (try dsimp only at hSw); go_simp
      try simp only [Act.put, List.setIfInBounds_toArray, List.set_cons_zero, List.set_cons_succ]
      refine wpAnyH_take (i := 3) (oi := { dst := some 34, op := Go.Op.load 78 (Go.Operand.tmp 33), type := 78, pos := "parts.go:70", after := #[{ on := 2, ground := Go.Ground.data }], guard := none }) (v := .slice (some ⟨gs, 0, none⟩) (q + 1) cs) rfl (by kernel_rfl) (by kernel_rfl) (by kernel_rfl) (fun _ _ _ h => h) (Or.inl ⟨by rfl, ?_⟩) (by assumption) ?_
      · intro w hSw; (try dsimp only at hSw); go_simp
      try simp only [Act.put, List.setIfInBounds_toArray, List.set_cons_zero, List.set_cons_succ]
      refine wpAnyH_take (i := 4) (oi := { dst := some 35, op := Go.Op.move (Go.Operand.tmp 1), type := 3, pos := "parts.go:70", after := #[], guard := none }) (v := .int .i64 (b : Int)) rfl (by kernel_rfl) (by kernel_rfl) (by kernel_rfl) (fun _ _ _ h => h) (Or.inl ⟨by rfl, ?_⟩) (by assumption) ?_
      · intro w hSw; (try dsimp only at hSw); go_simp
      try simp only [Act.put, List.setIfInBounds_toArray, List.set_cons_zero, List.set_cons_succ]
      refine wpAnyH_take (i := 5) (oi := { dst := some 36, op := Go.Op.load 86 (Go.Operand.tmp 3), type := 86, pos := "parts.go:70", after := #[], guard := none }) (v := .pointer (some ⟨h, 0, none⟩)) rfl (by kernel_rfl) (by kernel_rfl) (by kernel_rfl) (fun _ _ _ h => h) (Or.inl ⟨by rfl, ?_⟩) (by assumption) ?_
      · intro w hSw; (try dsimp only at hSw); go_simp
      try simp only [Act.put, List.setIfInBounds_toArray, List.set_cons_zero, List.set_cons_succ]
      refine wpAnyH_take (i := 6) (oi := { dst := some 37, op := Go.Op.nilCheck (Go.Operand.tmp 36), type := 0, pos := "parts.go:70", after := #[{ on := 5, ground := Go.Ground.data }], guard := none }) (v := .pointer (some ⟨h, 0, none⟩)) rfl (by kernel_rfl) (by kernel_rfl) (by kernel_rfl) (fun _ _ _ h => h) (Or.inl ⟨by rfl, ?_⟩) (by assumption) ?_
      · intro w hSw; (try dsimp only at hSw); go_simp
      try simp only [Act.put, List.setIfInBounds_toArray, List.set_cons_zero, List.set_cons_succ]
      refine wpAnyH_take (i := 7) (oi := { dst := some 38, op := Go.Op.fieldAddr 92 (Go.Operand.tmp 37) 1, type := 0, pos := "parts.go:70", after := #[{ on := 6, ground := Go.Ground.data }], guard := none }) (v := .pointer (some ⟨h, 1, none⟩)) rfl (by kernel_rfl) (by kernel_rfl) (by kernel_rfl) (fun _ _ _ h => h) (Or.inl ⟨by rfl, ?_⟩) (by assumption) ?_
      · intro w hSw; (try dsimp only at hSw); go_simp
      try simp only [Act.put, List.setIfInBounds_toArray, List.set_cons_zero, List.set_cons_succ]
      refine wpAnyH_take (i := 8) (oi := { dst := some 39, op := Go.Op.load 78 (Go.Operand.tmp 38), type := 78, pos := "parts.go:70", after := #[{ on := 7, ground := Go.Ground.data }], guard := none }) (v := .slice (some ⟨gs, 0, none⟩) (q + 1) cs) rfl (by kernel_rfl) (by kernel_rfl) (by kernel_rfl) (fun _ _ _ h => h) (Or.inl ⟨by rfl, ?_⟩) (by assumption) ?_
      · intro w hSw; (try dsimp only at hSw); go_simp
      try simp only [Act.put, List.setIfInBounds_toArray, List.set_cons_zero, List.set_cons_succ]
      refine wpAnyH_take (i := 9) (oi := { dst := some 40, op := Go.Op.move (Go.Operand.tmp 1), type := 3, pos := "parts.go:70", after := #[], guard := none }) (v := .int .i64 (b : Int)) rfl (by kernel_rfl) (by kernel_rfl) (by kernel_rfl) (fun _ _ _ h => h) (Or.inl ⟨by rfl, ?_⟩) (by assumption) ?_
      · intro w hSw; (try dsimp only at hSw); go_simp
      try simp only [Act.put, List.setIfInBounds_toArray, List.set_cons_zero, List.set_cons_succ]
      refine wpAnyH_take (i := 10) (oi := { dst := some 41, op := Go.Op.indexAddr 78 (Go.Operand.tmp 39) (Go.Operand.tmp 40), type := 0, pos := "parts.go:70", after := #[{ on := 8, ground := Go.Ground.data }, { on := 9, ground := Go.Ground.data }], guard := none }) (v := .pointer (some ⟨gs, b, none⟩)) rfl (by kernel_rfl) (by kernel_rfl) (by kernel_rfl) (fun _ _ _ h => h) (Or.inl ⟨by rfl, ?_⟩) (by assumption) ?_
      · intro w hSw; (try dsimp only at hSw); go_simp
      try simp only [Act.put, List.setIfInBounds_toArray, List.set_cons_zero, List.set_cons_succ]
      refine wpAnyH_take (i := 12) (oi := { dst := some 43, op := Go.Op.makeFunc (Go.Fn.func 73) #[] #[Go.Operand.tmp 3, Go.Operand.tmp 6], type := 100, pos := "parts.go:70", after := #[], guard := none }) (v := .func (.func 73) #[] #[.pointer (some ⟨bp, 0, none⟩), .pointer (some ⟨bk, 0, none⟩)]) rfl (by kernel_rfl) (by kernel_rfl) (by kernel_rfl) (fun _ _ _ h => h) (Or.inl ⟨by rfl, ?_⟩) (by assumption) ?_
      · intro w hSw; (try dsimp only at hSw); go_simp
      try simp only [Act.put, List.setIfInBounds_toArray, List.set_cons_zero, List.set_cons_succ]
      refine wpAnyH_ready (rs := [11]) (by kernel_rfl) (by simp) ?_
      refine AllReadyH.cons rfl (fun K' hK' => ?_) AllReadyH.nil
      go_simp
      skip
      refine hK'.out _ _ ?_ (fun hHeld => ?_)
      · (try dsimp only)
        exact HS0.out _ _ HPd.out
      clear hK' K'
      try simp only [Act.put, List.setIfInBounds_toArray, List.set_cons_zero, List.set_cons_succ]
      refine wpAnyH_ready (rs := [13]) (by kernel_rfl) (by simp) ?_
      refine AllReadyH.cons rfl (fun K' hK' => ?_) AllReadyH.nil
      go_simp
      go_wp2_with (go_at_call 72; (with_reducible refine HDEL.out.mono ?_); rintro e wc ⟨rfl, hr, hg⟩)
      have HFF := Lib.hid (HST.out wc hr hg).1
      have HPP := Lib.hid (HST.out wc hr hg).2.1
      obtain ⟨-, -, d1, d2, d3⟩ := HST.out wc hr hg
      clear hr hg z0 z1 z2
      refine hK'.out _ _ ?_ (fun hHeld => ?_)
      · (try dsimp only)
        exact HS1.out _ _ HFF.out
      clear hK' K'
      try simp only [Act.put, List.setIfInBounds_toArray, List.set_cons_zero, List.set_cons_succ]
      refine wpAnyH_take (i := 14) (oi := { dst := some 45, op := Go.Op.indexAddr 78 (Go.Operand.tmp 34) (Go.Operand.tmp 35), type := 0, pos := "parts.go:70", after := #[{ on := 3, ground := Go.Ground.data }, { on := 4, ground := Go.Ground.data }, { on := 0, ground := Go.Ground.phase }, { on := 1, ground := Go.Ground.phase }, { on := 2, ground := Go.Ground.phase }, { on := 3, ground := Go.Ground.phase }, { on := 4, ground := Go.Ground.phase }, { on := 5, ground := Go.Ground.phase }, { on := 6, ground := Go.Ground.phase }, { on := 7, ground := Go.Ground.phase }, { on := 8, ground := Go.Ground.phase }, { on := 9, ground := Go.Ground.phase }, { on := 10, ground := Go.Ground.phase }, { on := 11, ground := Go.Ground.phase }, { on := 12, ground := Go.Ground.phase }, { on := 13, ground := Go.Ground.phase }], guard := none }) (v := .pointer (some ⟨gs, b, none⟩)) rfl (by kernel_rfl) (by kernel_rfl) (by kernel_rfl) (fun _ _ _ h => h) (Or.inl ⟨by rfl, ?_⟩) (by assumption) ?_
      · intro w hSw; (try dsimp only at hSw); go_simp
      try simp only [Act.put, List.setIfInBounds_toArray, List.set_cons_zero, List.set_cons_succ]
      refine wpAnyH_ready (rs := [15]) (by kernel_rfl) (by simp) ?_
      refine AllReadyH.cons rfl (fun K' hK' => ?_) AllReadyH.nil
      go_simp
      skip
      refine hK'.out _ _ ?_ (fun hHeld => ?_)
      · (try dsimp only)
        exact HS1.out _ _ (HPP.out.useU fun i hi => upd_ne _ _ (Ne.symm (rS_ne b hi)))
      clear hK' K'
      try simp only [Act.put, List.setIfInBounds_toArray, List.set_cons_zero, List.set_cons_succ]
      refine wpAnyH_done (by kernel_rfl) ?_ _
      -- behind region 8
      obtain ⟨W5, hW5⟩ : ∃ W5, wc.setCell ⟨gs, b, none⟩ (.slice (some ⟨ga, 0, none⟩) B.length ca) = W5 := ⟨_, rfl⟩
      rw [hW5] at HPP ⊢
      obtain ⟨V3, hV3⟩ : ∃ V3, upd V' (rS b) (.slice (some ⟨ga, 0, none⟩) B.length ca) = V3 := ⟨_, rfl⟩
      have hV31 : V3 1 = .slice (some ⟨gs, 0, none⟩) (s.nb + 1) cs := by rw [← hV3, upd_ne _ _ (Ne.symm (rS_ne b (by decide)))]; exact HES.out
      have hV3b : V3 (rS b) = .slice (some ⟨ga, 0, none⟩) B.length ca := by rw [← hV3, upd_at]
      have HVK : Hid (∀ k, k ≠ b → V3 (rS k) = V (rS k)) := Lib.hid fun k hk => by rw [← hV3, upd_ne _ _ (rS_inj hk)]; exact HVV.out k
      rw [hV3] at HPP
      have hSB : (midP s b l).S b = B := by
        rw [← HBL.out]
        show upd _ b _ b = _
        rw [upd_at, HQ.out]
        congr 1
      obtain ⟨p3, c3, e3, g3'⟩ := HPP.out.v3
      obtain ⟨g3, rfl⟩ := g3' (Nat.succ_pos _)
      have e3' : V3 3 = .slice (some ⟨g3, 0, none⟩) (q + 1) c3 := by rw [← HQ.out]; exact e3
      rw [HQ.out] at hV31
      obtain ⟨x1, x2⟩ := HO1.out W5 HPP.out.kp
      have x1 := x1.cell
      have x2 := x2.cell
      obtain ⟨-, y1, -, y3, -⟩ := HPP.out.st.cells
      rw [hV31] at y1
      rw [e3'] at y3
      obtain ⟨z3, -, -, -⟩ := Fm.cell HPP.out 3 e3' (j := b) (u := .bool ((midP s b l).W b)) (by rw [lP3]; exact bls_at _ _ _ (by have := HBB.out; show b < s.nb + 1; omega))
      obtain ⟨z1, -, -, -⟩ := Fm.cell HPP.out 1 hV31 (j := b) (u := V3 (rS b)) (by rw [lP1]; exact vls_at _ _ _ (by have := HBB.out; show b < s.nb + 1; omega))
      rw [hV3b] at z1
      have HWT := Lib.hid (fun who (hw : who < s.nb + 1) => wait13 _ h n who V3 (midP s b l) W2 W5 HPP.out hw (by have := HNB.out; show s.nb + 1 ≤ 2000; omega) (by have := HQQ.out; show s.Q.length ≤ 2000; omega))
      have HFIN : Hid (∀ who, whoP (midP s b l) b s.nb l = who → ∀ w' V4, PtM (fun k => X k ∨ k = bp ∨ k = bk) W2 w' h n V4 (waitP (midP s b l) who) → PtM X w0 w' h n V4 (partP s b l)) := Lib.hid fun who hw w' V4 h4 => by
        have h5 := Fm.less (X := X) h4 (fun _ => .inl) HKP.out
        unfold PtM partP
        rw [hw]
        exact h5
      have HSB := Lib.hid hSB
      obtain ⟨u2, hu2⟩ : ∃ u2, B.length = u2 := ⟨_, rfl⟩
      have HU2 := Lib.hid hu2
      obtain ⟨u3, hu3⟩ : ∃ u3, (midP s b l).W b = u3 := ⟨_, rfl⟩
      have HU3 := Lib.hid hu3
      rw [hu2] at z1
      rw [hu3] at z3
      have b2 : (b : Int) ≤ 1000 := by have := HNB.out; have := HBB.out; omega
      have HWQ : Hid (whoP (midP s b l) b s.nb l = q → ∃ _ : True, True) := Lib.hid fun _ => ⟨trivial, trivial⟩
      clear d1 d2 d3 HFF HPP HST HDEL hV3 hV31 hV3b hSB e3 e3' g3' hu2 hu3 hW5 HWQ
      cases u3 with
      | true =>
        have HWH : Hid (whoP (midP s b l) b s.nb l = s.nb) := Lib.hid (by unfold whoP; rw [HU3.out]; rfl)
        have HCL := Lib.hid (HWT.out s.nb (by omega))
        rw [HQ.out] at HCL
        replace HWH : Hid (whoP (midP s b l) b s.nb l = q) := Lib.hid (HWH.out.trans HQ.out)
        go_wp2_with fail
        refine HCL.out.mono ?_
        rintro e w6 ⟨rfl, V4, H4, hV4⟩
        have HE := Lib.hid (HFIN.out _ HWH.out _ _ H4)
        have HEV : Hid (∀ k, k ≠ b → V4 (rS k) = V (rS k)) := Lib.hid fun k hk => (hV4 _ (rS_ne k (by decide))).trans (HVK.out k hk)
        clear H4 HCL hV4
        go_wp2_with fail
        refine bodyPost_end (results_none rfl _ _ _) rfl ?_
        exact ⟨rfl, _, HE.out, HEV.out⟩
      | false =>
        by_cases hlt : j < u2
        · have d1 : decide ((j : Int) < (u2 : Int)) = true := decide_eq_true (by omega)
          have HWH : Hid (whoP (midP s b l) b s.nb l = s.nb) := Lib.hid (by unfold whoP; rw [HU3.out, HSB.out, if_pos]; simp; have := HML.out; have := HU2.out; omega)
          have HCL := Lib.hid (HWT.out s.nb (by omega))
          rw [HQ.out] at HCL
          replace HWH : Hid (whoP (midP s b l) b s.nb l = q) := Lib.hid (HWH.out.trans HQ.out)
          go_wp2_with fail
          refine HCL.out.mono ?_
          rintro e w6 ⟨rfl, V4, H4, hV4⟩
          have HE := Lib.hid (HFIN.out _ HWH.out _ _ H4)
          have HEV : Hid (∀ k, k ≠ b → V4 (rS k) = V (rS k)) := Lib.hid fun k hk => (hV4 _ (rS_ne k (by decide))).trans (HVK.out k hk)
          clear H4 HCL hV4
          go_wp2_with fail
          refine bodyPost_end (results_none rfl _ _ _) rfl ?_
          exact ⟨rfl, _, HE.out, HEV.out⟩
        · have d1 : decide ((j : Int) < (u2 : Int)) = false := decide_eq_false (by omega)
          have HWH : Hid (whoP (midP s b l) b s.nb l = b) := Lib.hid (by unfold whoP; rw [HU3.out, HSB.out, if_neg]; simp; have := HML.out; have := HU2.out; omega)
          have HCL := Lib.hid (HWT.out b (by have := HBB.out; omega))
          go_wp2_with fail
          refine HCL.out.mono ?_
          rintro e w6 ⟨rfl, V4, H4, hV4⟩
          have HE := Lib.hid (HFIN.out _ HWH.out _ _ H4)
          have HEV : Hid (∀ k, k ≠ b → V4 (rS k) = V (rS k)) := Lib.hid fun k hk => (hV4 _ (rS_ne k (by decide))).trans (HVK.out k hk)
          clear H4 HCL hV4
          go_wp2_with fail
          refine bodyPost_end (results_none rfl _ _ _) rfl ?_
          exact ⟨rfl, _, HE.out, HEV.out⟩
end Go.Proofs.Ytefpoapbodbenaa
