/-
  The walk of mini's comingTo: class by class, of each state those that go to it.
-/
import Derived.Test.YtnoaejpabfnfpaaPk27
namespace Go.Proofs.Ytnoaejpabfnfpaa
open Go.RowKit

theorem infoRows13 : (Try.prog.info? 47).map (fun i => (i.zero, i.size, i.bytes)) = some (some (.slice none 0 0), 1, 24) := by kernel_rfl
theorem append_sl3 {w : World} {ops : Array Oper} {rest : List Oper} {o : Oper} {a : Act} {Q : Exit → Act → World → Prop} (hgd : o.guard = none) (s x : Operand)
    (ho : o.op = .call { callee := .builtin .append, args := #[s, x], argTypes := #[45, 45] }) (base : Nat) (v : Value) (xs : List Value) (hs : a.eval s = v)
    (hown : w.ownsRow base 47 1 v xs.length xs) (g : Nat) (u : Value) (hu : u.oneCell' = true) (hx : a.eval x = .slice (some ⟨g, 0, none⟩) 1 1)
    (hcell : w.cell? ⟨g, 0, none⟩ = some u) (hlen : xs.length ≤ 10000) (hbase : base ≤ w.heap.size)
    (h : ∀ p' n' c' w', n' = xs.length + 1 → w'.ownsRow base 47 1 (.slice p' n' c') n' (xs ++ [u]) → w.grownBy w' v.ownBlock → wpList Try.prog ops Q rest (a.put o.dst (.slice p' n' c')) w') : wpList Try.prog ops Q (o :: rest) a w := by
  obtain ⟨i0, hi, hz0, hz1, hz2⟩ := info_parts infoRows13
  refine Go.wpList_append_own_at w hgd s x 45 ho base 47 i0 (.slice none 0 0) 1 24 Try.underlying45 hi hz0 hz1 hz2 rfl (by decide) v xs.length xs hs hown ⟨g, 0, none⟩ 1 1 [u] hx rfl ?_ ?_ (by unfold maxLen; omega) (by omega) hbase ?_
  · intro j y hy
    match j, hy with
    | 0, hy => simp at hy; subst hy; simpa [Addr.add] using hcell
  · intro y hy
    have : y = u := by simpa using hy
    subst this; exact hu
  · intro v' w' h1 h2 _ h3
    rcases id h1.2 with ⟨_, h0⟩ | ⟨g, cap, cur, rfl, _⟩
    · omega
    · exact h _ _ _ w' rfl h1 h2
/-- The states below i that go to t by a symbol. -/
def inB (x : Da) (y i t : Nat) : List Nat := (List.range i).filter fun q => decide (goD x q y = t)
theorem inB_succ (x : Da) (y i t : Nat) : inB x y (i + 1) t = if t = goD x i y then inB x y i t ++ [i] else inB x y i t := by
  unfold inB
  rw [range_snoc, List.filter_append]
  by_cases e : t = goD x i y
  · rw [if_pos e]; simp [e]
  · rw [if_neg e]
    have : ¬ goD x i y = t := fun h => e h.symm
    simp [this]
theorem inB_len (x : Da) (y i t : Nat) : (inB x y i t).length ≤ i := by
  have := List.length_filter_le (fun q => decide (goD x q y = t)) (List.range i)
  simpa [inB] using this
theorem inB_put (x : Da) (y i : Nat) : putL (inB x y i) (goD x i y) (inB x y i (goD x i y) ++ [i]) = inB x y (i + 1) := by
  funext t
  unfold putL
  rw [inB_succ]
  by_cases e : t = goD x i y
  · rw [if_pos e, if_pos e, e]
  · rw [if_neg e, if_neg e]
/-- Rows are kept where a row of rows of rows grows. -/
theorem rwX.far {X : Nat → Prop} {w w' : World} {G m b n : Nat} {V : Nat → Value} {L : Nat → List Nat} {v : Value} {xs : List Value} (h : rwX X w G m V L) (hr : w.ownsRow b 47 1 v n xs) (hg : w.grownBy w' v.ownBlock) : rwX X w' G m V L :=
  ⟨World.ownsRow.kept h.all hg (rows_apart9 h.all hr (by decide)), h.val, fun t ht => World.ownsRow.kept (h.row t ht) hg (rows_apart9 (h.row t ht) hr (by decide)), h.apart, h.nX, h.nG⟩
/-- A row of rows of rows: each names, for each state, those that go to it. -/
def frM (x : Da) (w : World) (D : Nat) (v : Value) (nf n : Nat) (g H : Nat → Nat) : Prop :=
  w.ownsRow D 47 1 v nf (vls (fun i => .slice (some ⟨g i, 0, none⟩) n n) nf) ∧ ∀ i, i < nf → D ≤ g i ∧ H i < 259 ∧ ∃ V, rwX (fun _ => False) w (g i) n V (inB x (H i) n)
theorem frM.below {x : Da} {w w' : World} {D : Nat} {v : Value} {nf n : Nat} {g H : Nat → Nat} (h : frM x w D v nf n g H) (hb : Below w.heap.size w w') : frM x w' D v nf n g H :=
  ⟨owns_below h.1 hb, fun i hi => by
    obtain ⟨h1, h2, V, h3⟩ := h.2 i hi
    exact ⟨h1, h2, V, h3.below hb⟩⟩
theorem frM.mono {x : Da} {w : World} {D D' : Nat} {v : Value} {nf n : Nat} {g H : Nat → Nat} (h : frM x w D v nf n g H) (hD : D' ≤ D) : frM x w D' v nf n g H :=
  ⟨owns_mono h.1 hD, fun i hi => ⟨Nat.le_trans hD (h.2 i hi).1, (h.2 i hi).2⟩⟩
theorem frM.put {x : Da} {w w' : World} {D : Nat} {v v' : Value} {nf n : Nat} {g H : Nat → Nat} (h : frM x w D v nf n g H) {G y : Nat} {V : Nat → Value} (hG : D ≤ G) (hy : y < 259) (hl : rwX (fun _ => False) w G n V (inB x y n))
    (hr : w'.ownsRow D 47 1 v' (nf + 1) (vls (fun i => .slice (some ⟨g i, 0, none⟩) n n) nf ++ [.slice (some ⟨G, 0, none⟩) n n])) (hg : w.grownBy w' v.ownBlock) : frM x w' D v' (nf + 1) n (upd g nf G) (upd H nf y) := by
  refine ⟨?_, fun i hi => ?_⟩
  · rw [vls_succ, upd_at]
    rw [vls_ext (V := fun i => .slice (some ⟨upd g nf G i, 0, none⟩) n n) (V' := fun i => .slice (some ⟨g i, 0, none⟩) n n) fun j hj => by show Value.slice (some ⟨upd g nf G j, 0, none⟩) n n = _; rw [upd_ne _ _ (by omega)]]
    exact hr
  · by_cases e : i = nf
    · subst e
      rw [upd_at, upd_at]
      exact ⟨hG, hy, V, hl.far h.1 hg⟩
    · rw [upd_ne _ _ e, upd_ne _ _ e]
      obtain ⟨h1, h2, V', h3⟩ := h.2 i (by omega)
      exact ⟨h1, h2, V', h3.far h.1 hg⟩
/-- The classes below a that have a symbol have one among the rows. -/
def covF (x : Da) (a nf : Nat) (H : Nat → Nat) : Prop := nf ≤ a ∧ ∀ y, y < 259 → x.l0 y < (a : Int) → ∃ i, i < nf ∧ x.l0 (H i) = x.l0 y
theorem covF_zero (x : Da) (hx : rgD x) (H : Nat → Nat) : covF x 0 0 H := ⟨Nat.le_refl _, fun y hy h => by have := (hx.2.2.2.2.2.2.2.2.1 y hy).1; omega⟩
theorem covF_skip {x : Da} {a nf : Nat} {H : Nat → Nat} (h : covF x a nf H) (hn : ∀ y, y < 259 → x.l0 y ≠ (a : Int)) : covF x (a + 1) nf H := ⟨by have := h.1; omega, fun y hy hlt => h.2 y hy (by have := hn y hy; omega)⟩
theorem covF_put {x : Da} {a nf z : Nat} {H : Nat → Nat} (h : covF x a nf H) (hz : x.l0 z = (a : Int)) : covF x (a + 1) (nf + 1) (upd H nf z) := by
  refine ⟨by have := h.1; omega, fun y hy hlt => ?_⟩
  by_cases e : x.l0 y = (a : Int)
  · exact ⟨nf, Nat.lt_succ_self _, by rw [upd_at, hz, e]⟩
  · obtain ⟨i, h1, h2⟩ := h.2 y hy (by omega)
    exact ⟨i, by omega, by rw [upd_ne _ _ (by omega)]; exact h2⟩
/-- The first place of a class: there is one, or the class has no symbol. -/
theorem fsA_or (l : Nat → Int) (n : Nat) (c : Int) : (fsA l n c = -1 ∧ ∀ j, j < n → l j ≠ c) ∨ ∃ i : Nat, i < n ∧ l i = c ∧ fsA l n c = (i : Int) := by
  unfold fsA
  cases h : (List.range n).find? fun i => l i == c with
  | none =>
    refine .inl ⟨rfl, fun j hj e => ?_⟩
    have := List.find?_eq_none.1 h j (List.mem_range.2 hj)
    exact this (by simp [e])
  | some i =>
    refine .inr ⟨i, List.mem_range.1 (List.mem_of_find?_eq_some h), ?_, rfl⟩
    have := List.find?_some h
    simpa using this

set_option maxRecDepth 100000 in
set_option maxHeartbeats 20000000 in
theorem coming13 (v : Value) (x : Da) (w : World) (hs : smD x) (hx : rgD x) (hd : daAt w v x) :
    Calls Try.prog 24 #[v] w fun e w' => ∃ q nf c g H, e = .returned (.slice q nf c) ∧ frM x w' w.heap.size (.slice q nf c) nf x.n2 g H ∧ nf ≤ 259 ∧ (∀ y, y < 259 → ∃ i, i < nf ∧ x.l0 (H i) = x.l0 y) ∧ Below w.heap.size w w' := by
  obtain ⟨D, hD⟩ : ∃ D, w.heap.size = D := ⟨_, rfl⟩
  have hd' := hd
  obtain ⟨q0, c0, q1, c1, q2, c2, rfl, h0, -, -⟩ := hd'
  obtain ⟨w1, hw1⟩ : ∃ w1, w.alloc (.cells #[.slice q0 x.n0 c0, .int .i64 x.wd, .int .i64 x.st, .slice q1 x.n1 c1, .slice q2 x.n2 c2] 25) = w1 := ⟨_, rfl⟩
  have hz1 : w1.heap.size = D + 1 := by rw [← hw1, World.size_alloc, hD]
  have hb1 : Below D w w1 := hw1 ▸ (Below.refl _ _).alloc (by omega) _
  have hk1 : isDf w1 D q0 x.n0 c0 x.wd x.st q1 x.n1 c1 q2 x.n2 c2 := hw1 ▸ hD ▸ heap_alloc_new w _
  have HK := Lib.hid (fun w' (h : Below (D + 1) w1 w') => (hk1.below h (Nat.lt_succ_self D)).cells)
  have HDA := Lib.hid (fun w' (h : Below (D + 1) w1 w') => hd.below (hD.symm ▸ hb1.trans (h.mono (Nat.le_succ D))))
  have HBY := Lib.hid (fun s y w' (hst : s < x.n2) (hy : y < 259) (h : Below (D + 1) w1 w') => by13 _ x s y w' hs hx hst hy (HDA.out w' h))
  have HGD := Lib.hid (fun s y (hst : s < x.n2) (hy : y < 259) => (goD_at hx hst hy).2.2)
  obtain ⟨W, hW⟩ : ∃ W : Nat, x.wd = W := ⟨x.wd.toNat, by have := hx.2.1; omega⟩
  have hWl : W ≤ 259 := by have := hx.2.2.1; omega
  have HFS := Lib.hid (frs_any q0 259 c0 x.l0 x.wd w1 (by decide) (by have := h0.below (hD.symm ▸ hb1); rw [hx.1] at this; exact this))
  have HCV0 := Lib.hid (covF_zero x hx fun _ => 0)
  have HRG : Hid (∀ y, y < 259 → x.l0 y < (W : Int)) := Lib.hid fun y hy => by have := (hx.2.2.2.2.2.2.2.2.1 y hy).2; omega
  have hmw : (min (W : Int) 259).toNat = W := by omega
  have HW1 := Lib.hid hw1; have HZ := Lib.hid hz1; have HDG := Lib.hid hD; have HB1 := Lib.hid hb1
  have hm : x.n2 ≤ 1000 := hs.2.2
  obtain ⟨m, hme⟩ : ∃ m, x.n2 = m := ⟨_, rfl⟩
  have HME := Lib.hid hme
  obtain ⟨y0, y1, y2, y3, y4⟩ := hk1.cells
  have hx0 := hx.1
  rw [hx0] at y0 HK HBY HW1
  rw [hW] at y1 HK HBY HW1
  rw [hme] at HBY HGD HK HW1 y4 hm ⊢
  unfold frsPost at HFS
  rw [hW, hmw] at HFS
  rw [hx0, hW]
  obtain ⟨ir, hir, hr0, hr1, hr2⟩ := info_parts infoRow12
  have m1 : Hid (24 * m ≤ 281474976710656) := Lib.hid (by omega)
  have m2 : Hid (m ≤ maxLen) := Lib.hid (by unfold maxLen; omega)
  have m0 : (0 : Int) ≤ (m : Int) := by omega
  have m3 : (m : Int) ≤ 1000 := by omega
  have W0 : (0 : Int) ≤ (W : Int) := by omega
  have W1 : (W : Int) ≤ 259 := by omega
  clear hw1 hb1 hk1 hd hx hs hz1 hme hW h0 HDA hmw hx0
  go_enter Try.func24, Try.ntmps24
  go_upto_region 1 with (fail)
  rw [HW1.out]
  clear hD
  go_wp2_with fail
  refine HFS.out.mono ?_
  rintro e w2 ⟨qf, cf, lf, rfl, hrf, hlf, hb2⟩
  have HB2 : Hid (Below (D + 1) w1 w2) := Lib.hid (HZ.out ▸ hb2)
  obtain ⟨E, hE⟩ : ∃ E, w2.heap.size = E := ⟨_, rfl⟩
  have HRF := Lib.hid (fun w' (h : Below E w2 w') => hrf.below (hE.symm ▸ h))
  have HE := Lib.hid hE
  have HLF := Lib.hid hlf
  have HDL : Hid (D + 1 ≤ E) := Lib.hid (by rw [← hE]; have := HB2.out.size; have := HZ.out; omega)
  have HM0 : Hid (frM x w2 E (.slice none 0 0) 0 m (fun _ => 0) (fun _ => 0)) := Lib.hid ⟨⟨rfl, .inl ⟨rfl, rfl⟩⟩, fun i hi => absurd hi (Nat.not_lt_zero _)⟩
  have HB0 : Hid (Below E w2 w2) := Lib.hid (Below.refl _ _)
  have HKE : Hid (∀ w', Below E w2 w' → Below (D + 1) w1 w') := Lib.hid fun w' h => HB2.out.trans (h.mono HDL.out)
  clear hE hb2 hrf hlf HFS y0 y1 y2 y3 y4
  go_wp2_with fail
  go_loopw [3, 15] (fun fv av wr => ∃ (a nf : Nat) (q : Option Addr) (c : Nat) (g H : Nat → Nat), a ≤ W ∧ av = .int .i64 a ∧ fv = .slice q nf c ∧ Hid (frM x wr E (.slice q nf c) nf m g H) ∧ Hid (covF x a nf H) ∧ Hid (Below E w2 wr)) (fun _ av _ => W - (intOf av).toNat)
  case atStart => exact ⟨0, 0, none, 0, _, _, Nat.zero_le _, rfl, rfl, HM0, HCV0, HB0⟩
  case round =>
    clear HM0 HCV0 HB0
    obtain ⟨a, nf, q, c, g, H, ha, rfl, rfl, HM, HCV, HB⟩ := hrel
    by_cases hlta : a < W
    · have a0 : (0 : Int) ≤ (a : Int) := by omega
      have a1 : (a : Int) < (W : Int) := by omega
      obtain ⟨fb, fo, rfl, hfb, hfc⟩ := HRF.out wr HB.out a hlta
      have hla := HLF.out a hlta
      rcases fsA_or x.l0 259 (a : Int) with ⟨hno, hall⟩ | ⟨z, hz, hza, hfz⟩
      · rw [hla, hno] at hfc
        have HCV2 := Lib.hid (covF_skip HCV.out hall)
        clear hfb hla hno hall
        go_wp2_with fail
        go_roundw
        case rel => exact ⟨a + 1, nf, q, c, g, H, by omega, by go_num, rfl, HM, HCV2, HB⟩
        case measure => simp [intOf]; omega
      · rw [hla, hfz] at hfc
        have HCV2 := Lib.hid (covF_put HCV.out hza)
        have HZA := Lib.hid hz
        obtain ⟨y0, y1, y2, y3, y4⟩ := HK.out _ (HKE.out _ HB.out)
        have z0 : (0 : Int) ≤ (z : Int) := by omega
        have z1 : (z : Int) < 259 := by omega
        obtain ⟨wo, hwo⟩ : ∃ wo, wo = wr := ⟨_, rfl⟩
        subst hwo
        clear hfb hla hfz hza
        go_wp2_with (refine wpList_make_full _ rfl _ _ 47 rfl wo.heap.size 22 ir (.slice none 0 0) 1 Try.underlying47 hir hr0 hr1 .i64 .i64 (m : Int) (m : Int) m rfl rfl (by omega) (by omega) (by rw [hr2]; exact m1.out) m2.out (Nat.le_refl _) ?_)
        intro w3 hmk hg3
        have hmk' : w3.ownsRow wo.heap.size 22 1 (.slice (some ⟨wo.heap.size, 0, none⟩) m m) m (vls (fun _ => .slice none 0 0) m) := by
          rw [made_vls] at hmk; exact hmk
        have hB3 : Below wo.heap.size wo w3 := (Below.refl _ _).grown hg3 (Nat.le_refl _) (fun r hr => by cases hr)
        obtain ⟨G, hG⟩ : ∃ G, wo.heap.size = G := ⟨_, rfl⟩
        rw [hG] at hmk' hB3 ⊢
        have HG := Lib.hid hG
        have HDG2 : Hid (E ≤ G) := Lib.hid (by have := HB.out.size; have := HE.out; omega)
        have HR0 : Hid (rwX (fun k => k < G) w3 G m (fun _ => .slice none 0 0) (inB x z 0)) := Lib.hid ⟨hmk', fun _ _ => ⟨none, 0, rfl⟩, fun _ _ => ⟨rfl, .inl ⟨rfl, rfl⟩⟩, fun _ _ _ _ _ => .inl rfl, fun _ _ _ e => (by cases e), Nat.lt_irrefl _⟩
        have HB3 : Hid (Below G wo w3) := Lib.hid hB3
        have HEW : Hid (∀ w', Below G wo w' → Below E w2 w') := Lib.hid fun w' h => HB.out.trans (h.mono HDG2.out)
        have HKW : Hid (∀ w', Below G wo w' → Below (D + 1) w1 w') := Lib.hid fun w' h => HKE.out _ (HEW.out _ h)
        have HMW : Hid (∀ w', Below G wo w' → frM x w' E (.slice q nf c) nf m g H) := Lib.hid fun w' h => HM.out.below (HG.out.symm ▸ h)
        clear hmk hmk' hg3 hB3 hG y0 y1 y2 y3 y4 HM HB hfc
        obtain ⟨y0, y1, y2, y3, y4⟩ := HK.out _ (HKW.out _ HB3.out)
        go_wp2_with fail
        clear y0 y1 y2 y3 y4
        go_loopw [28] (fun sv wr => ∃ s : Nat, s ≤ m ∧ sv = .int .i64 s ∧ ∃ V, Hid (rwX (fun k => k < G) wr G m V (inB x z s)) ∧ Hid (Below G wo wr)) (fun sv _ => m - (intOf sv).toNat)
        case atStart => exact ⟨0, Nat.zero_le _, rfl, _, HR0, HB3⟩
        case round =>
          clear HR0 HB3
          obtain ⟨s, hsm, rfl, V, HR, HB⟩ := hrel
          by_cases hlts : s < m
          · have s0 : (0 : Int) ≤ (s : Int) := by omega
            have s1 : (s : Int) < (m : Int) := by omega
            obtain ⟨y0, y1, y2, y3, y4⟩ := HK.out _ (HKW.out _ HB.out)
            have HCALL := Lib.hid (HBY.out s z _ hlts HZA.out (HKW.out _ HB.out))
            have htm := HGD.out s z hlts HZA.out
            obtain ⟨t, ht⟩ : ∃ t, goD x s z = t := ⟨_, rfl⟩
            rw [ht] at HCALL htm
            have HT := Lib.hid ht
            have HTM := Lib.hid htm
            have hgl := HR.out.lt
            have HGL : Hid (G ≤ wr.heap.size) := Lib.hid (Nat.le_of_lt hgl)
            clear ht hgl
            go_wp2_with fail
            refine HCALL.out.mono ?_
            rintro e w4 ⟨rfl, hb4⟩
            have HR4 := Lib.hid (HR.out.below hb4)
            have HB4 : Hid (Below G wo w4) := Lib.hid (HB.out.trans (hb4.mono HGL.out))
            have t0 : (0 : Int) ≤ (t : Int) := by omega
            have t1 : (t : Int) < (m : Int) := by omega
            obtain ⟨pt, ct, hV⟩ := HR4.out.val t HTM.out
            obtain ⟨ct1, ct2⟩ := HR4.out.cell HTM.out
            rw [hV] at ct1
            have hrow := HR4.out.row t HTM.out
            rw [hV] at hrow
            have hgr := HR4.out.lt
            have HAL : Hid (Below w4.heap.size w4 (w4.alloc (.cells #[.int .i64 (s : Int)] 3))) := Lib.hid ((Below.refl _ _).alloc (Nat.le_refl _) _)
            have HRA := Lib.hid (HR4.out.below HAL.out)
            have HXA := Lib.hid (owns_below hrow HAL.out)
            have HLL : Hid ((inB x z s t).length ≤ 1000000) := Lib.hid (by have := inB_len x z s t; omega)
            have HBA : Hid (Below G wo (w4.alloc (.cells #[.int .i64 (s : Int)] 3))) := Lib.hid (HB4.out.trans (HAL.out.mono (by omega)))
            have HXS : Hid (∀ k, k < G → k < (w4.alloc (.cells #[.int .i64 (s : Int)] 3)).heap.size) := Lib.hid fun k hk => by rw [World.size_alloc]; omega
            have HVT := Lib.hid hV
            have HG2 : Hid (G ≤ (w4.alloc (.cells #[.int .i64 (s : Int)] 3)).heap.size) := Lib.hid (by rw [World.size_alloc]; omega)
            clear hrow HR HB HAL hV hb4 htm HCALL y0 y1 y2 y3 y4 HR4 HB4
            obtain ⟨len, hlen⟩ : ∃ len, (inB x z s t).length = len := ⟨_, rfl⟩
            have HLEN := Lib.hid hlen
            have HXA2 : Hid (spO (w4.alloc (.cells #[.int .i64 (s : Int)] 3)) G (.slice pt len ct) (inB x z s t)) := Lib.hid (hlen ▸ HXA.out)
            rw [hlen] at ct1
            clear hlen HXA
            go_wp2_with (at_builtin; refine append_nx2 rfl _ _ rfl G _ (inB x z s t) rfl HXA2.out w4.heap.size s rfl (by simp) HLL.out HG2.out ?_; intro v' w5 hown hgrow hat; have HO := Lib.hid hown; have HGW : Hid ((w4.alloc (.cells #[.int .i64 (s : Int)] 3)).grownBy w5 (Value.slice pt len ct).ownBlock) := Lib.hid hgrow; have HAT5 : Hid (v'.ownBlock = (Value.slice pt len ct).ownBlock ∨ v'.ownBlock = some (w4.alloc (.cells #[.int .i64 (s : Int)] 3)).heap.size) := Lib.hid hat; clear hown hgrow hat; refine Hid.out ?_)
            obtain ⟨p', c', rfl⟩ := spO_of HO.out
            have e1 : (inB x z s t ++ [s]).length = len + 1 := by rw [List.length_append, HLEN.out]; rfl
            have hstep := HRA.out.step (s := s) (p := p') (c := c') HTM.out HXS.out (by have := HO.out; rw [e1, ← HLEN.out] at this; exact this) (by rw [HVT.out, HLEN.out]; exact HGW.out) (by rw [HVT.out, HLEN.out]; have := HAT5.out; rw [e1] at this; exact this)
            rw [HLEN.out] at hstep
            have HR6 : Hid (rwX (fun k => k < G) (w5.setCell ⟨G, t, none⟩ (.slice p' (len + 1) c')) G m (putV V t (.slice p' (len + 1) c')) (inB x z (s + 1))) := Lib.hid (by
              have h1 := hstep.1
              have h2 := inB_put x z s
              rw [HT.out] at h2
              rw [h2] at h1
              exact h1)
            have HB6 : Hid (Below G wo (w5.setCell ⟨G, t, none⟩ (.slice p' (len + 1) c'))) := Lib.hid (HBA.out.trans (hstep.2.below HG2.out fun k hk => hk))
            have hc5 : w5.cell? ⟨G, t, none⟩ = some (.slice pt len ct) ∧ w5.frozen? ⟨G, t, none⟩ = false := by
              have hall : w5.ownsRow G 22 1 (.slice (some ⟨G, 0, none⟩) m m) m (vls V m) := World.ownsRow.kept HRA.out.all HGW.out (by
                right
                rcases HRA.out.neG HTM.out with e | e
                · rw [HVT.out, HLEN.out] at e; rw [e]; simp [Value.ownBlock]
                · rw [HVT.out, HLEN.out] at e; exact fun e2 => e e2.symm)
              exact ⟨(World.ownsRow.cellAt hall t (by omega)).trans ((vls_at V m t HTM.out).trans (by rw [HVT.out, HLEN.out])), World.ownsRow.frozenAt hall t⟩
            obtain ⟨d1, d2⟩ := hc5
            have hg5 : G < w5.heap.size := Nat.lt_of_lt_of_le (by rw [World.size_alloc]; omega) HGW.out.size
            rw [e1]
            clear hstep ct1 ct2 HRA HXA2 HBA HO HGW HAT5 e1
            refine Lib.hid ?_
            go_wp2_with fail
            go_roundw
            case rel => exact ⟨s + 1, by omega, by go_num, _, HR6, HB6⟩
            case measure => simp [intOf]; omega
          · obtain rfl : s = m := by omega
            have HL5 : Hid (rwX (fun _ => False) wr G s V (inB x z s)) := Lib.hid ⟨HR.out.all, HR.out.val, HR.out.row, HR.out.apart, fun t b ht e hb => hb, fun h => h⟩
            have HAL : Hid (Below wr.heap.size wr (wr.alloc (.cells #[.slice (some ⟨G, 0, none⟩) s s] 47))) := Lib.hid ((Below.refl _ _).alloc (Nat.le_refl _) _)
            have HLA := Lib.hid (HL5.out.below HAL.out)
            have HMA := Lib.hid ((HMW.out _ HB.out).below HAL.out)
            have hgl : G ≤ wr.heap.size := Nat.le_of_lt HR.out.lt
            have HBA : Hid (Below G wo (wr.alloc (.cells #[.slice (some ⟨G, 0, none⟩) s s] 47))) := Lib.hid (HB.out.trans (HAL.out.mono hgl))
            have HVL : Hid ((vls (fun i => .slice (some ⟨g i, 0, none⟩) s s) nf).length = nf) := Lib.hid (vls_len _ _)
            have HNF : Hid ((vls (fun i => .slice (some ⟨g i, 0, none⟩) s s) nf).length ≤ 10000) := Lib.hid (by rw [vls_len]; have := HCV.out.1; omega)
            have HOWN : Hid ((wr.alloc (.cells #[.slice (some ⟨G, 0, none⟩) s s] 47)).ownsRow E 47 1 (.slice q nf c) (vls (fun i => .slice (some ⟨g i, 0, none⟩) s s) nf).length (vls (fun i => .slice (some ⟨g i, 0, none⟩) s s) nf)) := Lib.hid (by rw [vls_len]; exact HMA.out.1)
            have HSZ : Hid (E ≤ (wr.alloc (.cells #[.slice (some ⟨G, 0, none⟩) s s] 47)).heap.size) := Lib.hid (by rw [World.size_alloc]; have := HDG2.out; omega)
            clear HR HB HAL hgl HL5
            go_wp2_with (at_builtin; refine append_sl3 rfl _ _ rfl E _ _ rfl HOWN.out wr.heap.size (.slice (some ⟨G, 0, none⟩) s s) rfl rfl (by simp) HNF.out HSZ.out ?_; intro p' n' c' w5 hn' hown hgrow; have HN5 := Lib.hid hn'; have HO := Lib.hid hown; have HGW := Lib.hid hgrow; clear hn' hown hgrow)
            have hn5 : n' = nf + 1 := by rw [HN5.out, HVL.out]
            subst hn5
            have HM5 := Lib.hid (HMA.out.put HDG2.out HZA.out HLA.out HO.out HGW.out)
            have HB5 : Hid (Below E w2 w5) := Lib.hid ((HEW.out _ HBA.out).grown HGW.out HSZ.out fun r hr => (World.ownsRow.lt HOWN.out r hr).1)
            clear HO HGW HMA HLA HBA HOWN HSZ HN5
            go_wp2_with fail
            go_roundw
            case rel => exact ⟨a + 1, nf + 1, _, _, _, _, by omega, by go_num, rfl, HM5, HCV2, HB5⟩
            case measure => simp [intOf]; omega
    · obtain rfl : a = W := by omega
      have HMF : Hid (frM x wr w.heap.size (.slice q nf c) nf m g H) := Lib.hid (HM.out.mono (by have := HDL.out; have := HDG.out; omega))
      have HBF : Hid (Below w.heap.size w wr) := Lib.hid (by have h1 := HB1.out.trans ((HKE.out _ HB.out).mono (Nat.le_succ D)); rw [← HDG.out] at h1; exact h1)
      have HCF : Hid (nf ≤ 259 ∧ ∀ y, y < 259 → ∃ i, i < nf ∧ x.l0 (H i) = x.l0 y) := Lib.hid ⟨by have := HCV.out.1; omega, fun y hy => HCV.out.2 y hy (HRG.out y hy)⟩
      clear HM HB HCV
      go_wp2_with fail
      go_returns
      exact ⟨q, nf, c, g, H, rfl, HMF.out, HCF.out.1, HCF.out.2, HBF.out⟩
end Go.Proofs.Ytnoaejpabfnfpaa
