/-
  The walk of mini.Blocks.
-/
import Derived.Test.YtefpoapbodbenaaPk52
import Derived.Test.YtefpoapbodbenaaPk35
import Derived.Test.YtefpoapbodbenaaPk22
import Derived.Test.YtefpoapbodbenaaPk23
import Derived.Laws.IdiomStrings
import Derived.Test.YtefpoapbodbenaaPk25
import Derived.Deep.RegionHeldLaw
namespace Go.Proofs.Ytefpoapbodbenaa
open Go.RowKit

theorem hpI.mono {x : Da} {s : Ps} {R R' : Nat → Prop} {A : List Nat} (h : hpI x s R A) (hR : ∀ y, y < 259 → R y → R' y) : hpI x s R' A :=
  ⟨h.ok, h.tz, h.fi, h.co, fun i j y hi hj hy e => (h.hp i j y hi hj hy e).imp id fun g => g.imp id fun g => g.imp id fun g => ⟨hR y hy g.1, g.2⟩, h.ca⟩
/-- How much is left to be done. -/
def mP (n : Nat) (s : Ps) : Nat := 2 * (n - s.nb) + s.Q.length
def lnV : Option Value → Nat
  | some (.slice _ n _) => n
  | _ => 0
def mW (n h : Nat) (w : World) : Nat := 2 * (n - lnV (w.cell? ⟨h, 1, none⟩)) + lnV (w.cell? ⟨h, 4, none⟩)
theorem PtM.meas {X : Nat → Prop} {w0 w : World} {h n : Nat} {V : Nat → Value} {s : Ps} (H : PtM X w0 w h n V s) : mW n h w = mP n s := by
  obtain ⟨p1, c1, e1, -⟩ := H.v1
  obtain ⟨p4, c4, e4, -⟩ := H.v4
  unfold mW mP
  rw [H.st.cells.2.1, H.st.cells.2.2.2.2, e1, e4]
  rfl
theorem flat_mem {x : Da} {y n i : Nat} {A : List Nat} : i ∈ A.flatMap (inB x y n) ↔ i < n ∧ goD x i y ∈ A := by
  unfold inB
  rw [List.mem_flatMap]
  constructor
  · rintro ⟨a, ha, h⟩
    rw [List.mem_filter, List.mem_range, decide_eq_true_iff] at h
    exact ⟨h.1, h.2 ▸ ha⟩
  · rintro ⟨h1, h2⟩
    exact ⟨_, h2, by rw [List.mem_filter, List.mem_range, decide_eq_true_iff]; exact ⟨h1, rfl⟩⟩
theorem flat_nodup {x : Da} {y n : Nat} : ∀ {A : List Nat}, A.Nodup → (A.flatMap (inB x y n)).Nodup
  | [], _ => List.nodup_nil
  | a :: A, h => by
    rw [List.nodup_cons] at h
    rw [List.flatMap_cons, List.nodup_append]
    refine ⟨List.Pairwise.filter _ List.nodup_range, flat_nodup h.2, fun i hi j hj e => ?_⟩
    subst e
    unfold inB at hi
    rw [List.mem_filter, List.mem_range, decide_eq_true_iff] at hi
    exact h.1 (hi.2 ▸ (flat_mem.1 hj).2)
theorem acc_mem {x : Da} {n i : Nat} : i ∈ accS x n ↔ i < n ∧ x.T i = true := by
  unfold accS
  rw [List.mem_filter, List.mem_range]
/-- The rows of rows as they are read. -/
def frX (X : Nat → Prop) (w : World) (q : Option Addr) (nf n : Nat) (g : Nat → Nat) (L : Nat → Nat → List Nat) : Prop :=
  ∀ i, i < nf → ∃ b, q = some ⟨b, 0, none⟩ ∧ X b ∧ w.cell? ⟨b, i, none⟩ = some (.slice (some ⟨g i, 0, none⟩) n n) ∧ clX13 X w (g i) n (L i)
theorem frX.kp {X : Nat → Prop} {w w' : World} {q : Option Addr} {nf n : Nat} {g : Nat → Nat} {L : Nat → Nat → List Nat} (h : frX X w q nf n g L) (hk : kpX X w w') : frX X w' q nf n g L := fun i hi => by
  obtain ⟨b, h1, h2, h3, h4⟩ := h i hi
  exact ⟨b, h1, h2, hk.cell13 h2 h3, h4.kp hk⟩
theorem frX.imp {X X' : Nat → Prop} {w : World} {q : Option Addr} {nf n : Nat} {g : Nat → Nat} {L : Nat → Nat → List Nat} (h : frX X w q nf n g L) (hi : ∀ k, X k → X' k) : frX X' w q nf n g L := fun i h0 => by
  obtain ⟨b, h1, h2, h3, h4⟩ := h i h0
  exact ⟨b, h1, hi b h2, h3, h4.imp (hi _ h4.1) hi⟩
theorem frM.frX {x : Da} {w : World} {D : Nat} {q : Option Addr} {nf c n : Nat} {g H : Nat → Nat} (h : frM x w D (.slice q nf c) nf n g H) : frX (fun k => D ≤ k ∧ k < w.heap.size) w q nf n g (fun i => inB x (H i) n) := fun i hi => by
  obtain ⟨h1, h2⟩ := h
  obtain ⟨g1, -, V, g3⟩ := h2 i hi
  rcases id h1.2 with ⟨_, h0⟩ | ⟨b, cap, cur, e, _⟩
  · omega
  · cases e
    refine ⟨b, rfl, World.ownsRow.lt h1 b rfl, ?_, g3.clX13.imp ⟨g1, g3.lt⟩ fun k hk => ⟨by omega, hk.2⟩⟩
    rw [World.ownsRow.cellAt h1 i (by omega)]
    exact vls_at _ _ _ hi
/-- What is kept where a call has made more since the world w1. -/
def xtB (X : Nat → Prop) (a b : Nat) : Nat → Prop := fun k => X k ∨ (a ≤ k ∧ k < b)
theorem PtM.ext13 {X : Nat → Prop} {w0 w1 w2 : World} {h n : Nat} {V : Nat → Value} {s : Ps} (H : PtM X w0 w1 h n V s) (hb : Below w1.heap.size w1 w2) : PtM (xtB X w1.heap.size w2.heap.size) w2 w2 h n V s :=
  Fm.more (Fm.below H hb) fun k hk => by
    have hH := Fm.below H hb
    rcases hk with hk | ⟨h1, h2⟩
    · exact ⟨hH.Xl k hk, fun e => hH.hX (e ▸ hk), fun r e => hH.nX r k e hk⟩
    · exact ⟨h2, fun e => by have := H.st.lt; omega, fun r e => by have := Fm.lt H r k e; omega⟩
theorem PtM.bk13 {X : Nat → Prop} {a b : Nat} {w0 w2 w3 : World} {h n : Nat} {V : Nat → Value} {s : Ps} (H : PtM (xtB X a b) w2 w3 h n V s) (hk : kpX X w0 w2) : PtM X w0 w3 h n V s := Fm.less H (fun _ h => .inl h) hk
theorem Fm.bel13 {X : Nat → Prop} {w0 w : World} {B h : Nat} {U V : Nat → Value} {L : Nat → List Value} (H : Fm X w0 w h U V L) (hB : B ≤ w0.heap.size) (hX : ∀ k, k < B → X k) : Below B w0 w := H.kp.below hB hX
theorem PtM.bel {X : Nat → Prop} {w0 w : World} {B h n : Nat} {V : Nat → Value} {s : Ps} (H : PtM X w0 w h n V s) (hB : B ≤ w0.heap.size) (hX : ∀ k, k < B → X k) : Below B w0 w := H.kp.below hB hX

set_option maxRecDepth 100000 in
set_option maxHeartbeats 20000000 in
theorem mblk13 (v : Value) (x : Da) (w : World) (hs : smD x) (hx : rgD x) (hd : daAt w v x) : Calls Try.prog 27 #[v] w fun e w' => ∃ q c, e = .returned (.tuple #[.slice q x.n2 c, .int .i64 (cntT (isH (lnB x)) x.n2 : Nat)]) ∧ rdL w' q x.n2 (fun i => (clA (lnB x) i : Nat)) ∧ Below w.heap.size w w' := by
  obtain ⟨D, hD⟩ : ∃ D, w.heap.size = D := ⟨_, rfl⟩
  have hd' := hd
  obtain ⟨q0, c0, q1, c1, q2, c2, rfl, -, -, -⟩ := hd'
  obtain ⟨w1, hw1⟩ : ∃ w1, w.alloc (.cells #[.slice q0 x.n0 c0, .int .i64 x.wd, .int .i64 x.st, .slice q1 x.n1 c1, .slice q2 x.n2 c2] 25) = w1 := ⟨_, rfl⟩
  have hz1 : w1.heap.size = D + 1 := by rw [← hw1, World.size_alloc, hD]
  have hb1 : Below D w w1 := hw1 ▸ (Below.refl _ _).alloc (by omega) _
  have hk1 : isDf w1 D q0 x.n0 c0 x.wd x.st q1 x.n1 c1 q2 x.n2 c2 := hw1 ▸ hD ▸ heap_alloc_new w _
  have HK := Lib.hid (fun w' (h : Below (D + 1) w1 w') => (hk1.below h (Nat.lt_succ_self D)).cells)
  have HDA := Lib.hid (fun w' (h : Below (D + 1) w1 w') => hd.below (hD.symm ▸ hb1.trans (h.mono (Nat.le_succ D))))
  have HRI := Lib.hid (rig_any _ x w1 hs (HDA.out _ (Below.refl _ _)))
  have HS := Lib.hid hs; have HX := Lib.hid hx
  have HW1 := Lib.hid hw1; have HZ := Lib.hid hz1; have HDG := Lib.hid hD; have HB1 := Lib.hid hb1
  rw [rgB_yes hx] at HRI
  have hm : x.n2 ≤ 1000 := hs.2.2
  have hm1 : 1 ≤ x.n2 := hx.2.2.2.1
  obtain ⟨n, hn⟩ : ∃ n, x.n2 = n := ⟨_, rfl⟩
  have HN := Lib.hid hn
  obtain ⟨y0, y1, y2, y3, y4⟩ := hk1.cells
  rw [hn] at HRI HDA HK HW1 y4 hm hm1 ⊢
  have n0 : (0 : Int) ≤ (n : Int) := by omega
  have n1 : (n : Int) ≤ 1000 := by omega
  have HM1 := Lib.hid hm1
  clear hw1 hb1 hk1 hd hx hs hz1 hn hm1
  go_enter Try.func27, Try.ntmps27
  go_upto_region 1 with (fail)
  rw [HW1.out]
  clear hD
  go_wp2_with fail
  refine HRI.out.mono ?_
  rintro e w2 ⟨rfl, hb2⟩
  have HB2 : Hid (Below (D + 1) w1 w2) := Lib.hid (HZ.out ▸ hb2)
  clear hb2 HRI y0 y1 y2 y3 y4
  obtain ⟨y0, y1, y2, y3, y4⟩ := HK.out _ HB2.out
  have HUD := Lib.hid (undivided13 n hm w2)
  go_wp2_with fail
  refine HUD.out.mono ?_
  rintro e w3 ⟨h, V3, rfl, hp3⟩
  have HL2 : Hid (D + 1 ≤ w2.heap.size) := Lib.hid (by have := HB2.out.size; have := HZ.out; omega)
  have hb3 : Below w2.heap.size w2 w3 := hp3.bel (Nat.le_refl _) fun k hk => hk
  have HB3 : Hid (Below (D + 1) w1 w3) := Lib.hid (HB2.out.trans (hb3.mono HL2.out))
  have HP3 := Lib.hid hp3
  have HAC := Lib.hid (accepting13 _ x w3 HS.out (HDA.out _ HB3.out))
  rw [HN.out] at HAC
  clear hp3 hb3 HUD y0 y1 y2 y3 y4
  obtain ⟨y0, y1, y2, y3, y4⟩ := HK.out _ HB3.out
  go_wp2_with fail
  refine HAC.out.mono ?_
  rintro e w4 ⟨pa, ca, rfl, hsa, hb4⟩
  obtain ⟨ka, hka⟩ : ∃ ka, (accS x n).length = ka := ⟨_, rfl⟩
  have HP4 := Lib.hid (HP3.out.ext13 hb4)
  have hst4 := (hsa.stX).imp (X' := xtB (fun k => k < w2.heap.size) w3.heap.size w4.heap.size) fun k hk _ => .inr hk
  have HDV := Lib.hid (divide13 _ h n (accS x n) pa ka ca V3 (oneP n) w4 w4 HP4.out (oneP_ok HM1.out) (fun _ => rfl) HM1.out hm (List.Pairwise.filter _ List.nodup_range) (fun i hi => (acc_mem.1 hi).1) hka hst4)
  have HK4 : Hid (kpX (fun k => k < w2.heap.size) w2 w4) := Lib.hid (HP3.out.kp.trans (kpX.of_below hb4))
  rw [hka]
  clear hsa hb4 hst4 hka HAC y0 y1 y2 y3 y4
  go_wp2_with fail
  refine HDV.out.mono ?_
  rintro e w5 ⟨rfl, V5, t5, hp5, hd5⟩
  have HP5 := Lib.hid (hp5.bk13 HK4.out)
  have HI5 : Hid (hpI x t5 (fun _ => False) []) := Lib.hid (hpI_start HX.out (by rw [HN.out]; exact hd5) fun i => by rw [HN.out]; exact acc_mem)
  have hb5 : Below w2.heap.size w2 w5 := HP5.out.bel (Nat.le_refl _) fun k hk => hk
  have HB5 : Hid (Below (D + 1) w1 w5) := Lib.hid (HB2.out.trans (hb5.mono HL2.out))
  have HCO := Lib.hid (coming13 _ x w5 HS.out HX.out (HDA.out _ HB5.out))
  rw [HN.out] at HCO
  clear hp5 hd5 hb5 HDV HP4 HK4 HP3 HB3
  obtain ⟨y0, y1, y2, y3, y4⟩ := HK.out _ HB5.out
  go_wp2_with fail
  refine HCO.out.mono ?_
  rintro e w6 ⟨q, nf, cf, g, H, rfl, hfm, hnf, hcv, hb6⟩
  obtain ⟨X6, hX6⟩ : ∃ X6, xtB (fun k => k < w2.heap.size) w5.heap.size w6.heap.size = X6 := ⟨_, rfl⟩
  have HP6 : Hid (PtM X6 w6 w6 h n V5 t5) := Lib.hid (hX6 ▸ HP5.out.ext13 hb6)
  have HF6 : Hid (frX X6 w6 q nf n g (fun i => inB x (H i) n)) := Lib.hid (hX6 ▸ hfm.frX.imp fun k hk => .inr hk)
  have HX2 : Hid (∀ k, k < w2.heap.size → X6 k) := Lib.hid fun k hk => hX6 ▸ .inl hk
  have HB6 : Hid (Below (D + 1) w1 w6) := Lib.hid (HB5.out.trans (hb6.mono (by have := HB5.out.size; have := HZ.out; omega)))
  have HHL : Hid (∀ i, i < nf → H i < 259) := Lib.hid fun i hi => (hfm.2 i hi).2.1
  have HCV := Lib.hid hcv
  have HL6 : Hid (w2.heap.size ≤ w6.heap.size) := Lib.hid (Nat.le_trans (HP5.out.kp.size) hb6.size)
  have f0 : (0 : Int) ≤ (nf : Int) := by omega
  have f1 : (nf : Int) ≤ 259 := by omega
  clear hfm hcv hb6 hX6 HCO HP5 HB5 y0 y1 y2 y3 y4
  go_wp2_with fail
  go_loopw [] (fun wr => ∃ V t A, Hid (PtM X6 w6 wr h n V t) ∧ Hid (hpI x t (fun _ => False) A)) (fun wr => mW n h wr)
  case atStart => exact ⟨_, _, _, HP6, HI5⟩
  case round =>
    clear HP6 HI5
    obtain ⟨V, t, A, HP, HI⟩ := hrel
    obtain ⟨wo, hwo⟩ : ∃ wo, wo = wr := ⟨_, rfl⟩
    subst hwo
    have hok := HI.out.ok
    rw [HN.out] at hok
    have hnb := hok.le
    have hql := hok.ql
    obtain ⟨p4, c4, e4, -⟩ := HP.out.v4
    obtain ⟨lq, hlq⟩ : ∃ lq, t.Q.length = lq := ⟨_, rfl⟩
    rw [hlq] at e4
    obtain ⟨-, -, -, -, y4⟩ := HP.out.st.cells
    rw [e4] at y4
    have q1 : (lq : Int) ≤ 1000 := by omega
    rcases List.eq_nil_or_concat t.Q with hQ | ⟨Q, b, hQ⟩
    · have hl0 : lq = 0 := by rw [← hlq, hQ]; rfl
      subst hl0
      obtain ⟨p0, cc0, e0, g0'⟩ := HP.out.v0
      obtain ⟨g0, rfl⟩ := g0' (by have := HM1.out; omega)
      have HPd := Lib.hid (Fm.below HP.out (Below.refl _ _).drew)
      have hrd : rdL wo.drew (some ⟨g0, 0, none⟩) n (fun i => (t.blk i : Int)) := by
        have h1 := Fm.row HPd.out 0
        rw [lP0, fnv_len13, e0] at h1
        exact spF.rd (show spF wo.drew 0 (.slice (some ⟨g0, 0, none⟩) n cc0) (fun i => (t.blk i : Int)) n from h1)
      have hwf : ∀ j, j < n → wfI ((t.blk j : Nat) : Int) := fun j hj => by
        have := hok.bl j hj
        exact wfI_of (by omega) (by omega)
      have hcl := cla_on (R := joR (fun i => (t.blk i : Int)) (fun i => (t.blk i : Int))) (R' := lnB x) (n := n) fun i k hi hk => by
        rw [Bool.eq_iff_iff, joR_iff, lnB_iff, ← hpI_end HI.out HX.out hQ (by rw [HN.out]; exact hi) (by rw [HN.out]; exact hk)]
        omega
      have HJ : Hid (Calls Try.prog 36 #[.slice (some ⟨g0, 0, none⟩) n cc0, .slice (some ⟨g0, 0, none⟩) n cc0] wo.drew fun e w' => ∃ qj cj, e = .returned (.tuple #[.slice qj n cj, .int .i64 (cntT (isH (lnB x)) n : Nat)]) ∧ rdL w' qj n (fun i => (clA (lnB x) i : Nat)) ∧ Below wo.drew.heap.size wo.drew w') := Lib.hid ((joi_any _ n cc0 _ _ n cc0 _ wo.drew hm hm hwf hwf hrd hrd).mono fun e w' hp => by
        obtain ⟨qj, cj, lj, h1, h2, h3, h4⟩ := hp.1 rfl
        refine ⟨qj, cj, by rw [h1, hcl.2], fun j hj => ?_, h4⟩
        obtain ⟨b', o', k1, k2, k3⟩ := h2 j hj
        exact ⟨b', o', k1, k2, by rw [k3, h3 j hj]; exact congrArg (fun z : Nat => some (Value.int .i64 (z : Int))) (hcl.1 j hj)⟩)
      have HS0 : Hid (wo.drew.cell? ⟨h, 0, none⟩ = some (.slice (some ⟨g0, 0, none⟩) n cc0)) := Lib.hid (by rw [HPd.out.st.cells.1, e0])
      have HSJ : Hid (∀ w', Below wo.drew.heap.size wo.drew w' → w'.cell? ⟨h, 0, none⟩ = some (.slice (some ⟨g0, 0, none⟩) n cc0)) := Lib.hid fun w' hb => by rw [(Fm.below HPd.out hb).st.cells.1, e0]
      have HBF : Hid (∀ w', Below wo.drew.heap.size wo.drew w' → Below w.heap.size w w') := Lib.hid fun w' hb => by
        have h1 : Below w2.heap.size w6 w' := (HPd.out.bel13 HL6.out HX2.out).trans (hb.mono (Nat.le_trans HL6.out HPd.out.kp.size))
        have h2 := HB1.out.trans ((HB6.out.trans (h1.mono HL2.out)).mono (Nat.le_succ D))
        rw [← HDG.out] at h2
        exact h2
      clear hrd hwf hcl hok hnb hql hlq e4 e0 g0' hQ
      go_wp2_with fail
      go_region_held_law (fun w' => w'.cell? ⟨h, 0, none⟩ = some (.slice (some ⟨g0, 0, none⟩) n cc0)) (first | exact HS0.out | exact HSJ.out _ HBJ.out)
        (first | (go_at_call 36; (with_reducible refine HJ.out.mono ?_); rintro e wj ⟨qj, cj, rfl, hr, hbj⟩; (have HRJ := Lib.hid hr); (have HBJ := Lib.hid hbj); clear hr hbj))
      have HE := Lib.hid (HBF.out _ HBJ.out)
      go_wp2_with fail
      go_returns
      exact ⟨qj, cj, rfl, HRJ.out, HE.out⟩
    · rw [List.concat_eq_append] at hQ
      have hlq1 : 0 < lq := by rw [← hlq, hQ]; simp
      have hQl : Q.length ≤ 1000 := by rw [hQ] at hlq; simp at hlq; omega
      have hbt := ((hok.qm b).1 (by rw [hQ]; simp)).1
      obtain ⟨p1, c1', e1, g1'⟩ := HP.out.v1
      obtain ⟨gs, rfl⟩ := g1' (by omega)
      obtain ⟨pa', ca', ea, ga'⟩ := HP.out.vS b
      obtain ⟨ga, rfl⟩ := ga' (List.length_pos_iff.2 (hok.ne b hbt))
      have HPd := Lib.hid (Fm.below HP.out (Below.refl _ _).drew)
      have HTK := Lib.hid (take13 X6 h n b Q V t w6 wo.drew HPd.out hQ hbt (by omega) (by omega))
      obtain ⟨nb, hnb'⟩ : ∃ nb, t.nb = nb := ⟨_, rfl⟩
      obtain ⟨ls, hls⟩ : ∃ ls, (t.S b).length = ls := ⟨_, rfl⟩
      rw [hnb'] at e1
      rw [hls] at ea
      have hls1 : ls ≤ 1000 := by have := hok.len hbt; omega
      have HSS : Hid (∀ w' V' t', PtM X6 w6 w' h n V' t' → V' 1 = V 1 → V' (rS b) = V (rS b) → t'.nb = t.nb → w'.cell? ⟨h, 1, none⟩ = some (.slice (some ⟨gs, 0, none⟩) nb c1') ∧ w'.cell? ⟨gs, b, none⟩ = some (.slice (some ⟨ga, 0, none⟩) ls ca')) := Lib.hid fun w' V' t' h7 k1 k2 k3 => by
        obtain ⟨a1, -, -, -⟩ := Fm.cell h7 1 (k1.trans e1) (j := b) (u := V' (rS b)) (by rw [lP1]; exact vls_at _ _ _ (by omega))
        exact ⟨by rw [h7.st.cells.2.1, k1, e1], by rw [a1, k2, ea]⟩
      have HSd := Lib.hid (HSS.out _ _ _ HPd.out rfl rfl rfl)
      have HS7 := Lib.hid (fun w' v' (h7 : PtM X6 w6 w' h n (upd V 4 v') (tkP t b Q)) => HSS.out w' _ _ h7 (upd_ne _ _ (by decide)) (upd_ne _ _ (rS_ne b (by decide))) rfl)
      have HS8 := Lib.hid (fun w' w'' v' (h7 : PtM X6 w6 w' h n (upd V 4 v') (tkP t b Q)) (hb : Below w'.heap.size w' w'') => HS7.out w'' v' (Fm.below h7 hb))
      have HRD : Hid (∀ w' v', PtM X6 w6 w' h n (upd V 4 v') (tkP t b Q) → rdL w' (some ⟨ga, 0, none⟩) ls (fun j => (((t.S b).getD j 0 : Nat) : Int))) := Lib.hid fun w' v' h7 => by
        have h9 : spO w' 0 (.slice (some ⟨ga, 0, none⟩) (t.S b).length ca') (t.S b) := by
          have := Fm.sp h7 (rS b) (t.S b) (eT13S b) (by rw [lPS]; rfl)
          rw [upd_ne _ _ (rS_ne b (by decide)), ea, ← hls] at this
          exact this
        have h8 := spO.rd11 h9
        rw [hls] at h8
        exact h8
      have HCL := Lib.hid (fun w' v' (h7 : PtM X6 w6 w' h n (upd V 4 v') (tkP t b Q)) => clone12 (some ⟨ga, 0, none⟩) ls ca' _ (by rw [← hls]; exact List.length_pos_iff.2 (hok.ne b hbt)) hls1 w' (HRD.out w' v' h7))
      have HI8 := Lib.hid (hpI_take HI.out HX.out hQ)
      have HLS := Lib.hid hls
      have HAN : Hid (∀ a, a ∈ t.S b → a < n) := Lib.hid fun a ha => ((hok.sm b hbt a).1 ha).1
      have HAD : Hid (t.S b).Nodup := Lib.hid (hok.sn b hbt)
      have HMS : Hid (mP n (tkP t b Q) < mW n h wo) := Lib.hid (by
        rw [HP.out.meas]
        show 2 * (n - t.nb) + Q.length < 2 * (n - t.nb) + t.Q.length
        rw [hQ]; simp)
      have b0 : (0 : Int) ≤ (b : Int) := by omega
      have b1 : (b : Int) < (nb : Int) := by omega
      have l0 : (0 : Int) < (lq : Int) := by omega
      have d1 : decide ((0 : Int) < (lq : Int)) = true := decide_eq_true l0
      have s0 : (0 : Int) ≤ (ls : Int) := by omega
      have s1 : (ls : Int) ≤ 1000 := by omega
      clear hok hnb hql e4 hlq hQ hlq1 hQl hbt e1 g1' ea ga' hnb' hls hls1 HRD HSS
      go_wp2_with fail
      go_region_held_law (fun w' => w'.cell? ⟨h, 1, none⟩ = some (.slice (some ⟨gs, 0, none⟩) nb c1') ∧ w'.cell? ⟨gs, b, none⟩ = some (.slice (some ⟨ga, 0, none⟩) ls ca')) (first | exact HSd.out | exact HS7.out _ _ H7.out | exact HS8.out _ _ _ H7.out HB8.out)
        (first | (go_at_call 53; (with_reducible refine HTK.out.mono ?_); rintro e w7 ⟨rfl, v7, h7⟩; (have H7 := Lib.hid h7); clear h7) | (go_at_call 52; (with_reducible refine (HCL.out _ _ H7.out).mono ?_); rintro e w8 ⟨gc, cc, rfl, -, hsp, hb8⟩; (have HSP := Lib.hid hsp); (have HB8 := Lib.hid hb8); clear hsp hb8))
      obtain ⟨B, hB⟩ : ∃ B, t.S b = B := ⟨_, rfl⟩
      rw [hB] at HI8 HLS HAN HAD HSP
      obtain ⟨X8, hX8⟩ : ∃ X8, xtB X6 w7.heap.size w8.heap.size = X8 := ⟨_, rfl⟩
      have HP8 : Hid (PtM X8 w8 w8 h n (upd V 4 v7) (tkP t b Q)) := Lib.hid (hX8 ▸ H7.out.ext13 HB8.out)
      have HK8 : Hid (kpX X6 w6 w8) := Lib.hid (H7.out.kp.trans (kpX.of_below HB8.out))
      have HF8 : Hid (frX X8 w8 q nf n g (fun i => inB x (H i) n)) := Lib.hid (hX8 ▸ (HF6.out.kp HK8.out).imp fun k hk => .inl hk)
      have HT8 : Hid (stX X8 w8 (some ⟨gc, 0, none⟩) B) := Lib.hid (by
        have h1 : spO w8 w7.heap.size (.slice (some ⟨gc, 0, none⟩) B.length cc) B := by
          have := HSP.out
          unfold spF at this
          rw [← HLS.out, ← spl9_fnv] at this
          exact this
        rw [← hX8]
        exact h1.stX.imp fun k hk _ => .inr hk)
      have HBK : Hid (∀ w' V' t', PtM X8 w8 w' h n V' t' → PtM X6 w6 w' h n V' t') := Lib.hid fun w' V' t' h8 => (show PtM (xtB X6 w7.heap.size w8.heap.size) w8 w' h n V' t' from hX8.symm ▸ h8).bk13 HK8.out
      obtain ⟨M8, hM8⟩ : ∃ M8, mP n (tkP t b Q) = M8 := ⟨_, rfl⟩
      rw [hM8] at HMS
      have HM80 : Hid (mP n (tkP t b Q) ≤ M8) := Lib.hid (Nat.le_of_eq hM8)
      have HI80 : Hid (hpI x (tkP t b Q) (fun y => ∀ j, j < 0 → x.l0 y ≠ x.l0 (H j)) B) := Lib.hid (HI8.out.mono fun y _ _ j hj => absurd hj (Nat.not_lt_zero _))
      clear hB hX8 hM8 HI8 HSP HB8 H7 HTK HCL HSd HS7 HS8 HPd HP HI y4 d1 HF6
      go_wp2_with fail
      go_loopw [39] (fun iv wr => ∃ (i : Nat) (V' : Nat → Value) (t' : Ps), i ≤ nf ∧ iv = .int .i64 i ∧ Hid (PtM X8 w8 wr h n V' t') ∧ Hid (hpI x t' (fun y => ∀ j, j < i → x.l0 y ≠ x.l0 (H j)) B) ∧ Hid (mP n t' ≤ M8)) (fun iv _ => nf - (intOf iv).toNat)
      case atStart => exact ⟨0, _, _, Nat.zero_le _, rfl, HP8, HI80, HM80⟩
      case round =>
        clear HP8 HI80 HM80
        obtain ⟨i, V', t', hi, rfl, HP, HI, HM8⟩ := hrel
        by_cases hlti : i < nf
        · have i0 : (0 : Int) ≤ (i : Int) := by omega
          have i1 : (i : Int) < (nf : Int) := by omega
          obtain ⟨qb, rfl, -, hcq, hcl⟩ := (HF8.out.kp HP.out.kp) i hlti
          have hil := HHL.out i hlti
          have HIN := Lib.hid (into13 X8 (g i) n n (inB x (H i) n) B (some ⟨gc, 0, none⟩) ls cc wr hcl (HT8.out.kp HP.out.kp) HLS.out HAN.out hm (by omega) (fun t _ => by have := inB_len x (H i) n t; omega))
          have HIL := Lib.hid hil
          clear hcl hil
          go_wp2_with fail
          refine HIN.out.mono ?_
          rintro e w9 ⟨p9, k9, c9, rfl, hk9, hs9, hb9⟩
          obtain ⟨so, hso⟩ : ∃ so, B.flatMap (inB x (H i) n) = so := ⟨_, rfl⟩
          rw [hso] at hk9 hs9
          have hsm : ∀ s, s ∈ so ↔ s < x.n2 ∧ goD x s (H i) ∈ B := fun s => by rw [← hso, HN.out]; exact flat_mem
          have hst9 : stX (xtB X8 wr.heap.size w9.heap.size) w9 p9 so := by
            rw [← hk9] at hs9
            exact hs9.stX.imp fun k hk _ => .inr hk
          have hok := HI.out.ok
          rw [HN.out] at hok
          have HDV := Lib.hid (divide13 _ h n so p9 k9 c9 V' t' w9 w9 (HP.out.ext13 hb9) hok HI.out.tz HM1.out hm (hso ▸ flat_nodup HAD.out) (fun s hs => by have := ((hsm s).1 hs).1; rw [HN.out] at this; exact this) hk9 hst9)
          have HK9 : Hid (kpX X8 w8 w9) := Lib.hid (HP.out.kp.trans (kpX.of_below hb9))
          have HSM := Lib.hid hsm
          clear hk9 hs9 hb9 hso hsm hst9 hok HIN hcq
          go_wp2_with fail
          refine HDV.out.mono ?_
          rintro e w10 ⟨rfl, V10, t10, h10, hd10⟩
          have HP10 := Lib.hid (h10.bk13 HK9.out)
          have HI10 : Hid (hpI x t10 (fun y => ∀ j, j < i + 1 → x.l0 y ≠ x.l0 (H j)) B) := Lib.hid ((hpI_div HI.out HX.out HIL.out HSM.out (by rw [HN.out]; exact hd10)).mono fun y _ hy j hj => by
            by_cases e : j = i
            · subst e; exact hy.2
            · exact hy.1 j (by omega))
          have HM10 : Hid (mP n t10 ≤ M8) := Lib.hid (Nat.le_trans hd10.ms HM8.out)
          clear h10 hd10 HP HI HM8 HDV HK9 HSM
          go_wp2_with fail
          go_roundw
          case rel => exact ⟨i + 1, _, _, by omega, by go_num, HP10, HI10, HM10⟩
          case measure => simp [intOf]; omega
        · obtain rfl : i = nf := by omega
          have HI9 := Lib.hid (hpI_round HI.out fun y hy hR => by
            obtain ⟨j, h1, h2⟩ := HCV.out y hy
            exact hR j h1 h2.symm)
          have HP9 := Lib.hid (HBK.out _ _ _ HP.out)
          have HME : Hid (mW n h wr < mW n h wo) := Lib.hid (by rw [HP.out.meas]; exact Nat.lt_of_le_of_lt HM8.out HMS.out)
          clear HP HI HM8
          go_wp2_with fail
          go_roundw
          case rel => exact ⟨_, _, _, HP9, HI9⟩
          case measure => exact HME.out

end Go.Proofs.Ytefpoapbodbenaa
