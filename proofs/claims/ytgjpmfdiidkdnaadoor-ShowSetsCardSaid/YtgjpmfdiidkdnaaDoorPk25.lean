/-
  The walk of show's Set.
-/
import Derived.Test.YtgjpmfdiidkdnaaDoorPk24
import Derived.Test.YtgjpmfdiidkdnaaDoorPk5
namespace Go.Proofs.YtgjpmfdiidkdnaaDoor
open Go.RowKit

/-- A bracket, so far: the first k runs. -/
def outL (L : List (Nat × Nat)) (k : Nat) : List Nat := 91 :: (L.take k).flatMap runL
theorem outL_step (L : List (Nat × Nat)) (k : Nat) (h : k < L.length) : outL L (k + 1) = outL L k ++ runL L[k] := by
  unfold outL
  rw [List.take_succ_eq_append_getElem h, List.flatMap_append]
  simp
theorem runL_len (r : Nat × Nat) : 1 ≤ (runL r).length ∧ (runL r).length ≤ 9 := by
  have h1 := end_len r.1
  have h2 := end_len r.2
  unfold runL
  rw [List.length_append]
  split
  · omega
  · split
    · rw [List.length_cons]; omega
    · simp; omega
theorem outL_len (L : List (Nat × Nat)) (k : Nat) (h : k ≤ L.length) : (outL L k).length ≤ 1 + 9 * k := by
  induction k with
  | zero => simp [outL]
  | succ k ih =>
    have := ih (by omega)
    have := runL_len L[k]
    rw [outL_step L k (by omega), List.length_append]
    omega
theorem outL_all (f : Nat → Bool) (h1 : ¬ ((bl f 256).length = 255 ∧ f 10 = false)) (h2 : (bl f 256).length ≠ 1) : setL f = outL (segs f 256 256) (segs f 256 256).length ++ [93] := by
  unfold setL outL
  rw [if_neg h1, if_neg h2, List.take_length, List.cons_append]

set_option maxRecDepth 100000 in
set_option maxHeartbeats 4000000 in
theorem cset_dot (f : Nat → Bool) (w : World) (h1 : (bl f 256).length = 255 ∧ f 10 = false) :
    Calls Tryd.prog 8 #[sv f] w fun e w' => e = .returned (.string (bs (setL f))) ∧ Below w.heap.size w w' := by
  have HE : Hid (bs (setL f) = ⟨#[46]⟩) := Lib.hid (by unfold setL; rw [if_pos h1]; rfl)
  have hq := (eqW_iff f).2 h1
  unfold eqW at hq
  have hE : ∀ w, (Op.equalIn 10000 32 (svr f) (svr dotF)).run Tryd.prog w = .ok true w := fun w => by rw [← hq]; exact eq_any _ _ _ _ _ _ _ _ w
  clear h1 hq
  obtain ⟨W, hW⟩ : ∃ W, w.alloc (.cells #[.int .u64 (wd f 0 : Int), .int .u64 (wd f 1 : Int), .int .u64 (wd f 2 : Int), .int .u64 (wd f 3 : Int)] 32) = W := ⟨_, rfl⟩
  have S0 : isSet W w.heap.size f := hW ▸ isSet.new w f
  have l0 := S0.lt
  obtain ⟨p0, p1, p2, p3⟩ := S0.cells
  have HBW : Hid (Below w.heap.size w W) := Lib.hid (hW ▸ (Below.refl _ _).alloc (Nat.le_refl _) _)
  have hB := (Below.refl W.heap.size W).drew
  clear S0
  unfold sv
  go_enter Tryd.func8, Tryd.ntmps8
  go_wp2_with fail
  clear hW
  go_region_held_law (fun w' => w'.cell? ⟨w.heap.size, 0, none⟩ = some (.int .u64 (wd f 0 : Int)) ∧ w'.cell? ⟨w.heap.size, 1, none⟩ = some (.int .u64 (wd f 1 : Int)) ∧ w'.cell? ⟨w.heap.size, 2, none⟩ = some (.int .u64 (wd f 2 : Int)) ∧ w'.cell? ⟨w.heap.size, 3, none⟩ = some (.int .u64 (wd f 3 : Int)))
    (exact ⟨(hB.cell (p := ⟨w.heap.size, 0, none⟩) l0).trans p0, (hB.cell (p := ⟨w.heap.size, 1, none⟩) l0).trans p1, (hB.cell (p := ⟨w.heap.size, 2, none⟩) l0).trans p2, (hB.cell (p := ⟨w.heap.size, 3, none⟩) l0).trans p3⟩)
    (first | (go_at_call 21; (with_reducible refine (dot_any _).mono ?_); rintro e wk ⟨rfl, hb⟩; replace hB := hB.trans (hb.mono hB.size); clear hb))
  go_wp2_with fail
  go_returns
  exact ⟨by rw [HE.out] <;> rfl, HBW.out.trans (hB.mono HBW.out.size)⟩

/-- Two rows of different kinds are different blocks. -/
theorem rows_apart {w : World} {b1 b2 e1 e2 s1 s2 n1 n2 : Nat} {v1 v2 : Value} {x1 x2 : List Value} (h1 : w.ownsRow b1 e1 s1 v1 n1 x1) (h2 : w.ownsRow b2 e2 s2 v2 n2 x2) (hne : e1 ≠ e2) : v1.ownBlock = none ∨ v1.ownBlock ≠ v2.ownBlock := by
  rcases h1.2 with ⟨rfl, _⟩ | ⟨g1, c1, u1, rfl, _, p1, _⟩
  · exact .inl rfl
  · rcases h2.2 with ⟨rfl, _⟩ | ⟨g2, c2, u2, rfl, _, p2, _⟩
    · exact .inr (by simp [Value.ownBlock])
    · refine .inr fun h => ?_
      have hg : g1 = g2 := by simpa [Value.ownBlock] using h
      subst hg
      rw [p1] at p2
      simp at p2
      exact hne p2.2
theorem segs_most6 (f : Nat → Bool) : (segs f 256 256).length ≤ 256 := by
  unfold segs starts
  rw [List.length_map]
  have := List.length_filter_le (st f) (List.range 256)
  rw [List.length_range] at this
  exact this
theorem eqW_not (f : Nat → Bool) (h1 : ¬ ((bl f 256).length = 255 ∧ f 10 = false)) : ∀ w, (Op.equalIn 10000 32 (svr f) (svr dotF)).run Tryd.prog w = .ok false w := fun w => by
  have hq : eqW f = false := by
    cases h : eqW f
    · rfl
    · exact absurd ((eqW_iff f).1 h) h1
  unfold eqW at hq
  rw [← hq]
  exact eq_any _ _ _ _ _ _ _ _ w
def aloneL (c : Nat) : List Nat := if 33 ≤ c ∧ c ≤ 126 ∧ plainB c = false then [92, c] else endL c
theorem aloneL_ok (c : Nat) (hc : c < 256) : 1 ≤ (aloneL c).length ∧ ∀ x, x ∈ aloneL c → x < 128 := by
  unfold aloneL
  split
  · rename_i h
    refine ⟨by simp, fun x hx => ?_⟩
    simp only [List.mem_cons, List.not_mem_nil, or_false] at hx
    omega
  · exact ⟨(end_len c).1, endL_small c hc⟩

set_option maxRecDepth 100000 in
set_option maxHeartbeats 4000000 in
theorem cset_one (f : Nat → Bool) (c : Nat) (w : World) (hT : Tabbed w) (h1 : bl f 256 = [c]) :
    Calls Tryd.prog 8 #[sv f] w fun e w' => e = .returned (.string (bs (setL f))) ∧ Below w.heap.size w w' := by
  have hc : c < 256 := bl_bytes f 256 c (by rw [h1]; simp)
  have HE : Hid (setL f = aloneL c) := Lib.hid (by unfold setL aloneL; rw [h1, if_neg (by simp), if_pos (show [c].length = 1 from rfl), List.headD_cons])
  have HL := Lib.hid h1
  have HPop : Hid (popTo f 0 256 = 1) := Lib.hid (by rw [← pop_bl, h1]; rfl)
  have hE := eqW_not f (by rw [h1]; simp)
  have HA := Lib.hid (fun w hT => alone_any c hc w hT)
  have HO := Lib.hid (aloneL_ok c hc)
  change Hid (∀ w, Tabbed w → Calls Tryd.prog 23 #[.int .u8 (c : Int)] w (runesPost (aloneL c) w)) at HA
  generalize aloneL c = la at *
  clear h1
  obtain ⟨W, hW⟩ : ∃ W, w.alloc (.cells #[.int .u64 (wd f 0 : Int), .int .u64 (wd f 1 : Int), .int .u64 (wd f 2 : Int), .int .u64 (wd f 3 : Int)] 32) = W := ⟨_, rfl⟩
  have S0 : isSet W w.heap.size f := hW ▸ isSet.new w f
  have HS0 := Lib.hid S0
  have l0 := S0.lt
  obtain ⟨p0, p1, p2, p3⟩ := S0.cells
  have HBW : Hid (Below w.heap.size w W) := Lib.hid (hW ▸ (Below.refl _ _).alloc (Nat.le_refl _) _)
  have HT : Hid (Tabbed W) := Lib.hid (hW ▸ hT.alloc _)
  have hB := (Below.refl W.heap.size W).drew
  clear S0 hT
  unfold sv
  go_enter Tryd.func8, Tryd.ntmps8
  go_wp2_with fail
  clear hW
  go_region_held_law (fun w' => w'.cell? ⟨w.heap.size, 0, none⟩ = some (.int .u64 (wd f 0 : Int)) ∧ w'.cell? ⟨w.heap.size, 1, none⟩ = some (.int .u64 (wd f 1 : Int)) ∧ w'.cell? ⟨w.heap.size, 2, none⟩ = some (.int .u64 (wd f 2 : Int)) ∧ w'.cell? ⟨w.heap.size, 3, none⟩ = some (.int .u64 (wd f 3 : Int)))
    (exact ⟨(hB.cell (p := ⟨w.heap.size, 0, none⟩) l0).trans p0, (hB.cell (p := ⟨w.heap.size, 1, none⟩) l0).trans p1, (hB.cell (p := ⟨w.heap.size, 2, none⟩) l0).trans p2, (hB.cell (p := ⟨w.heap.size, 3, none⟩) l0).trans p3⟩)
    (first | (go_at_call 21; (with_reducible refine (dot_any _).mono ?_); rintro e wk ⟨rfl, hb⟩; replace hB := hB.trans (hb.mono hB.size); clear hb))
  rename_i wk hHeld
  clear hHeld p0 p1 p2 p3 hE
  have HS1 := Lib.hid (HS0.out.below hB l0)
  have HT1 := Lib.hid (HT.out.to hB)
  have HB1 := Lib.hid (HBW.out.trans (hB.mono HBW.out.size))
  have l1 := HS1.out.lt
  clear hB HS0 HT l0 HBW
  obtain ⟨q0, q1, q2, q3⟩ := HS1.out.cells
  go_wp2_with fail
  refine (count_lit f _).mono ?_
  rintro e w2 ⟨rfl, hb⟩
  rw [HPop.out]
  have HS2 := Lib.hid (HS1.out.below hb l1)
  have HT2 := Lib.hid (HT1.out.to hb)
  have HB2 := Lib.hid (HB1.out.trans (hb.mono HB1.out.size))
  have l2 := HS2.out.lt
  clear hb HS1 HT1 HB1 l1 q0 q1 q2 q3
  obtain ⟨q0, q1, q2, q3⟩ := HS2.out.cells
  go_wp2_with fail
  refine (bytes_any f _).mono ?_
  rintro e w3 ⟨v8, rfl, hown8, hb⟩
  have HT3 := Lib.hid (HT2.out.to hb)
  have HB3 := Lib.hid (HB2.out.trans (hb.mono HB2.out.size))
  rw [HL.out] at hown8
  obtain ⟨g, cap, rfl, hg, hcell⟩ : ∃ g cap, v8 = .slice (some ⟨g, 0, none⟩) 1 cap ∧ g < w3.heap.size ∧ w3.cell? ⟨g, 0, none⟩ = some (.int .u8 (c : Int)) := by
    have hlt := hown8.lt
    rcases id hown8.2 with ⟨rfl, h0⟩ | ⟨g, cap, cur, rfl, -⟩
    · cases h0
    · exact ⟨g, cap, rfl, (hlt g rfl).2, hown8.cellAt 0 (by simp)⟩
  clear hb hown8 HL HB2 HT2 HS2 q0 q1 q2 q3 l2
  go_wp2_with fail
  refine (HA.out _ HT3.out).mono ?_
  rintro e w4 ⟨v, rfl, hown, hb⟩
  have hcv := convR hown HO.out.2 HO.out.1
  have HB4 := Lib.hid (HB3.out.trans (hb.mono HB3.out.size))
  clear hb hown
  go_wp2_with fail
  go_returns
  exact ⟨by rw [HE.out] <;> rfl, HB4.out⟩

set_option maxRecDepth 100000 in
set_option maxHeartbeats 8000000 in
theorem cset_many (f : Nat → Bool) (w : World) (hT : Tabbed w) (h1 : ¬ ((bl f 256).length = 255 ∧ f 10 = false)) (h2 : (bl f 256).length ≠ 1) :
    Calls Tryd.prog 8 #[sv f] w fun e w' => e = .returned (.string (bs (setL f))) ∧ Below w.heap.size w w' := by
  obtain ⟨i0, hi, hz0, hz1, hz2⟩ := info_parts infoI32
  have HSM : Hid (∀ x, x ∈ setL f → x < 128) := Lib.hid (by
    have := many_small f
    unfold setL
    rw [if_neg h1, if_neg h2]
    exact this)
  have HE := Lib.hid (outL_all f h1 h2)
  obtain ⟨pn, hpn⟩ : ∃ n, popTo f 0 256 = n := ⟨_, rfl⟩
  have HPop := Lib.hid hpn
  have n2 : ((pn : Int) == 1) = false := beq_eq_false_iff_ne.2 (by rw [pop_bl, hpn] at h2; omega)
  have hE := eqW_not f h1
  have hw2 := segs_whole f
  have hsl := segs_most6 f
  have hrs := runs_segs f 256 (by decide)
  have HTw := Lib.hid hT
  clear h1 h2 hpn
  obtain ⟨W, hW⟩ : ∃ W, w.alloc (.cells #[.int .u64 (wd f 0 : Int), .int .u64 (wd f 1 : Int), .int .u64 (wd f 2 : Int), .int .u64 (wd f 3 : Int)] 32) = W := ⟨_, rfl⟩
  have S0 : isSet W w.heap.size f := hW ▸ isSet.new w f
  have HS0 := Lib.hid S0
  have l0 := S0.lt
  obtain ⟨p0, p1, p2, p3⟩ := S0.cells
  have HBW : Hid (Below w.heap.size w W) := Lib.hid (hW ▸ (Below.refl _ _).alloc (Nat.le_refl _) _)
  have HT : Hid (Tabbed W) := Lib.hid (hW ▸ hT.alloc _)
  have hB := (Below.refl W.heap.size W).drew
  clear S0 hT
  unfold sv
  go_enter Tryd.func8, Tryd.ntmps8
  go_wp2_with fail
  clear hW
  go_region_held_law (fun w' => w'.cell? ⟨w.heap.size, 0, none⟩ = some (.int .u64 (wd f 0 : Int)) ∧ w'.cell? ⟨w.heap.size, 1, none⟩ = some (.int .u64 (wd f 1 : Int)) ∧ w'.cell? ⟨w.heap.size, 2, none⟩ = some (.int .u64 (wd f 2 : Int)) ∧ w'.cell? ⟨w.heap.size, 3, none⟩ = some (.int .u64 (wd f 3 : Int)))
    (exact ⟨(hB.cell (p := ⟨w.heap.size, 0, none⟩) l0).trans p0, (hB.cell (p := ⟨w.heap.size, 1, none⟩) l0).trans p1, (hB.cell (p := ⟨w.heap.size, 2, none⟩) l0).trans p2, (hB.cell (p := ⟨w.heap.size, 3, none⟩) l0).trans p3⟩)
    (first | (go_at_call 21; (with_reducible refine (dot_any _).mono ?_); rintro e wk ⟨rfl, hb⟩; replace hB := hB.trans (hb.mono hB.size); clear hb))
  rename_i wk hHeld
  clear hHeld p0 p1 p2 p3 hE
  have HS1 := Lib.hid (HS0.out.below hB l0)
  have HT1 := Lib.hid (HT.out.to hB)
  have HB1 := Lib.hid (HBW.out.trans (hB.mono HBW.out.size))
  have l1 := HS1.out.lt
  clear hB HS0 HT l0 HBW
  obtain ⟨q0, q1, q2, q3⟩ := HS1.out.cells
  go_wp2_with fail
  refine (count_lit f _).mono ?_
  rintro e w2 ⟨rfl, hb⟩
  rw [HPop.out]
  have HS2 := Lib.hid (HS1.out.below hb l1)
  have HT2 := Lib.hid (HT1.out.to hb)
  have HB2 := Lib.hid (HB1.out.trans (hb.mono HB1.out.size))
  have l2 := HS2.out.lt
  clear hb HS1 HT1 HB1 l1 q0 q1 q2 q3
  obtain ⟨q0, q1, q2, q3⟩ := HS2.out.cells
  have HO0 := Lib.hid (own_lit (w := w) (w1 := w2) HB2.out.size #[.int .i32 91] 1 (by decide) rfl)
  have HT2a := Lib.hid (HT2.out.alloc (.cells #[.int .i32 91] 21))
  have HB2a := Lib.hid (HB2.out.alloc HB2.out.size (.cells #[.int .i32 91] 21))
  clear HB2 HT2 HS2
  go_wp2_with fail
  refine (runs_any f _).mono ?_
  rintro e w3 ⟨vr, rfl, hownR, hb⟩
  rw [hrs] at hownR
  obtain ⟨tr, cr, rfl, -⟩ := rdR_of_owns hownR
  have HT3 := Lib.hid (HT2a.out.to hb)
  have HB3 := Lib.hid (HB2a.out.trans (hb.mono HB2a.out.size))
  have HO3 := Lib.hid (owns_below HO0.out hb)
  generalize segs f 256 256 = L at *
  obtain ⟨m, hm⟩ : ∃ m, L.length = m := ⟨_, rfl⟩
  rw [hm] at HE ⊢
  have hm2 : m ≤ 256 := by rw [← hm]; exact hsl
  have HM := Lib.hid hm
  have HW := Lib.hid hw2
  have hownR2 := owns_mono hownR (show w.heap.size ≤ _ by have := HB2a.out.size; exact this)
  rw [hm] at hownR2
  have HRD := Lib.hid hownR2
  clear hownR hownR2 hb hm hw2 hsl hrs q0 q1 q2 q3 l2 HO0 HT2a HB2a
  go_wp2_with fail
  go_loopw [3, 22] (fun v i wr => ∃ k : Nat, k ≤ m ∧ i = .int .i64 k ∧ Hid (wr.ownsRow w.heap.size 21 1 v (outL L k).length (r32 (outL L k))) ∧ Hid (wr.ownsRow w.heap.size 64 2 (.slice tr m cr) m (rvs L)) ∧ Tabbed wr ∧ Below w.heap.size w wr) (fun _ i _ => m - (intOf i).toNat)
  case atStart => exact ⟨0, Nat.zero_le _, rfl, HO3, HRD, HT3.out, HB3.out⟩
  case round =>
    obtain ⟨k, hk, rfl, HO, HR, hTr, hBr⟩ := hrel
    have HTr := Lib.hid hTr
    have HBr := Lib.hid hBr
    clear hTr hBr HO3 HT3 HB3 HRD
    by_cases hlt : k < m
    · have hlt' : k < L.length := by rw [HM.out]; exact hlt
      have HRo := HR.out
      rw [← HM.out] at HRo
      obtain ⟨tr', cr', hv, hrd⟩ := rdR_of_owns HRo
      obtain ⟨g, htr, hg, c0, c1⟩ := hrd k hlt'
      subst htr
      simp only [Value.slice.injEq] at hv
      obtain ⟨rfl, -, rfl⟩ := hv
      clear hrd HRo
      have hwh := HW.out _ (List.getElem_mem hlt')
      have HST := Lib.hid (outL_step L k hlt')
      have hol := outL_len L k (by omega)
      obtain ⟨⟨lo, hi'⟩, hr⟩ : ∃ r, L[k] = r := ⟨_, rfl⟩
      rw [hr] at c0 c1 hwh HST
      simp only at c0 c1 hwh
      have i0' : (0 : Int) ≤ (k : Int) := by omega
      have i1 : (k : Int) < (m : Int) := by omega
      have HRu := Lib.hid (fun w hT => run_any lo hi' hwh.1 hwh.2.1 w hT)
      have hrl := runL_len (lo, hi')
      generalize runL (lo, hi') = l at *
      obtain ⟨o, ho⟩ : ∃ o, outL L k = o := ⟨_, rfl⟩
      rw [ho] at HO HST hol
      have HOL : Hid (o.length + l.length ≤ 2400) := Lib.hid (by omega)
      have HRL := Lib.hid hrl.1
      have HG := Lib.hid hg
      clear hr hlt' ho hrl hol hwh hg
      go_wp2_with fail
      refine (HRu.out _ (HTr.out.alloc _)).mono ?_
      rintro e w4 ⟨v4, rfl, o4, hb⟩
      have hT4 := (HTr.out.alloc (.cells #[.int .u8 (lo : Int), .int .u8 (hi' : Int)] 64)).to hb
      have hB4 := (HBr.out.alloc HBr.out.size (.cells #[.int .u8 (lo : Int), .int .u8 (hi' : Int)] 64)).trans (hb.mono (by have := HBr.out.size; simp; omega))
      have hO4 := owns_below (HO.out.alloc (.cells #[.int .u8 (lo : Int), .int .u8 (hi' : Int)] 64)) hb
      have hR4 := owns_below (HR.out.alloc (.cells #[.int .u8 (lo : Int), .int .u8 (hi' : Int)] 64)) hb
      obtain ⟨g4, k4, rfl, hg4, hc4⟩ := row_at o4 HRL.out
      have HT4 := Lib.hid hT4; have HB4 := Lib.hid hB4; have HR4 := Lib.hid hR4; have HC4 := Lib.hid hc4
      have H63 : Hid (o.length + l.length ≤ maxLen) := Lib.hid (by have := HOL.out; unfold maxLen; omega)
      have H48 : Hid ((o.length + l.length) * 4 ≤ 140737488355328) := Lib.hid (by have := HOL.out; omega)
      clear hb hT4 hB4 hR4 o4 hc4 HO HR HTr HBr c0 c1 HRu
      go_wp2_with (at_builtin; refine wpList_append_own _ rfl _ _ 57 rfl w.heap.size 21 i0 (.int .i32 0) 1 4 Tryd.underlying57 hi hz0 hz1 hz2 rfl (by decide) _ _ _ rfl hO4 ⟨g4, 0, none⟩ l.length k4 (r32 l) rfl ?c1 ?c2 ?c3 H63.out H48.out ?c5 ?_)
      case c1 => rw [r32_length, Nat.mul_one]
      case c2 =>
        intro j u hj
        have hjl : j < l.length := by
          rcases Nat.lt_or_ge j l.length with h | h
          · exact h
          · rw [List.getElem?_eq_none (by rw [r32_length]; exact h)] at hj; cases hj
        have := HC4.out j hjl
        rw [show ((⟨g4, 0, none⟩ : Addr).add j) = ⟨g4, j, none⟩ by unfold Addr.add; split <;> simp_all, this]
        simp only [r32, List.getElem?_map, List.getElem?_eq_getElem hjl, Option.map_some] at hj
        exact hj
      case c3 => intro u hu; unfold r32 at hu; obtain ⟨x, -, rfl⟩ := List.mem_map.1 hu; rfl
      case c5 => exact HB4.out.size
      intro v' w5 hown5 hgrow _
      have HB5 : Hid (Below w.heap.size w w5) := Lib.hid (HB4.out.grown hgrow HB4.out.size fun r hr => (hO4.lt r hr).1)
      have HO5 : Hid (w5.ownsRow w.heap.size 21 1 v' (outL L (k + 1)).length (r32 (outL L (k + 1)))) := Lib.hid (by
        rw [HST.out, List.length_append, r32_append]
        exact hown5)
      have HR5 := Lib.hid (HR4.out.kept hgrow (rows_apart HR4.out hO4 (by decide)))
      have HT5 : Hid (Tabbed w5) := Lib.hid (HTw.out.to HB5.out)
      clear hown5 hgrow hO4 HB4 HR4 HC4 HT4
      go_wp2_with fail
      go_roundw
      case rel => exact ⟨k + 1, by omega, by go_num, HO5, HR5, HT5.out, HB5.out⟩
      case measure => simp [intOf]; omega
    · have hkm : k = m := by omega
      rw [hkm] at HO
      have hol := outL_len L m (by rw [HM.out]; exact Nat.le_refl _)
      have HFin : Hid (setL f = outL L m ++ [93]) := HE
      generalize outL L m = o at *
      have H63 : Hid (o.length + 1 ≤ maxLen) := Lib.hid (by unfold maxLen; omega)
      have H48 : Hid ((o.length + 1) * 4 ≤ 140737488355328) := Lib.hid (by omega)
      have hO4 := HO.out.alloc (.cells #[.int .i32 93] 21)
      have HB4 := Lib.hid (HBr.out.alloc HBr.out.size (.cells #[.int .i32 93] 21))
      clear hol hkm HO HR HTr HE
      go_wp2_with (at_builtin; refine wpList_append_own _ rfl _ _ 57 rfl w.heap.size 21 i0 (.int .i32 0) 1 4 Tryd.underlying57 hi hz0 hz1 hz2 rfl (by decide) _ _ _ rfl hO4 ⟨wr.heap.size, 0, none⟩ 1 1 [.int .i32 93] rfl rfl ?c2 ?c3 H63.out H48.out ?c5 ?_)
      case c2 =>
        intro j u hj
        match j, hj with
        | 0, hj => simp at hj; subst hj; simp [Addr.add]
      case c3 => intro u hu; simp at hu; subst hu; rfl
      case c5 => exact HB4.out.size
      intro v' w5 hown5 hgrow _
      have HB5 : Hid (Below w.heap.size w w5) := Lib.hid (HB4.out.grown hgrow HB4.out.size fun r hr => (hO4.lt r hr).1)
      have hown6 : w5.ownsRow w.heap.size 21 1 v' (o ++ [93]).length (r32 (o ++ [93])) := by
        rw [List.length_append, r32_append]
        exact hown5
      have hcv := convR hown6 (by rw [← HFin.out]; exact HSM.out) (by simp)
      rw [← HFin.out] at hcv
      clear hown5 hown6 hgrow hO4 HB4
      go_wp2_with fail
      go_returns
      exact ⟨rfl, HB5.out⟩

/-- The code's Set. -/
theorem cset_any (f : Nat → Bool) (w : World) (hT : Tabbed w) : Calls Tryd.prog 8 #[sv f] w fun e w' => e = .returned (.string (bs (setL f))) ∧ Below w.heap.size w w' := by
  by_cases h1 : (bl f 256).length = 255 ∧ f 10 = false
  · exact cset_dot f w h1
  · by_cases h2 : (bl f 256).length = 1
    · obtain ⟨c, hc⟩ := List.length_eq_one_iff.1 h2
      exact cset_one f c w hT hc
    · exact cset_many f w hT h1 h2
end Go.Proofs.YtgjpmfdiidkdnaaDoor
