/-
  The walk of the fourteenth reference's Empty.
-/
import Derived.Test.YtefpoapbodbenaaPk34
import Derived.Test.YtefpoapbodbenaaPk37
namespace Go.Proofs.Ytefpoapbodbenaa
open Go.RowKit

set_option maxRecDepth 100000 in
set_option maxHeartbeats 8000000 in
theorem rem14 (v : Value) (x : Da) (hx : rgD x) (h1 : x.n1 ≤ 100000) (h2 : x.n2 ≤ 1000) (w : World) (hd : daAt w v x) :
    Calls Try.prog 11 #[v] w fun e w' => e = .returned (.bool (emB x)) ∧ Below w.heap.size w w' := by
  obtain ⟨D, hD⟩ : ∃ D, w.heap.size = D := ⟨_, rfl⟩
  have hd9 := hd
  obtain ⟨q0, c0, q1, c1, q2, c2, rfl, -, -, -⟩ := hd
  obtain ⟨w1, hw1⟩ : ∃ w1, w.alloc (.cells #[.slice q0 x.n0 c0, .int .i64 x.wd, .int .i64 x.st, .slice q1 x.n1 c1, .slice q2 x.n2 c2] 25) = w1 := ⟨_, rfl⟩
  have hz1 : w1.heap.size = D + 1 := by rw [← hw1, World.size_alloc, hD]
  have hb1 : Below D w w1 := hw1 ▸ (Below.refl _ _).alloc (by omega) _
  have hk1 : isDf w1 D q0 x.n0 c0 x.wd x.st q1 x.n1 c1 q2 x.n2 c2 := hw1 ▸ hD ▸ heap_alloc_new w _
  have HRO := Lib.hid (fun w' (h : Below (D + 1) w1 w') => rof13 _ x hx h1 h2 w' (hd9.below (hD.symm ▸ hb1.trans (h.mono (Nat.le_succ D)))))
  have HEm := Lib.hid (emW_mn hx)
  have HMl := Lib.hid (Nat.le_trans (mnD_le hx) h2)
  have HF : Hid (∀ w', Below (D + 1) w1 w' → Below w.heap.size w w') := Lib.hid fun w' h => by rw [hD]; exact hb1.trans (h.mono (by omega))
  have HW1 := Lib.hid hw1; have HZ := Lib.hid hz1
  obtain ⟨z0, z1, z2, z3, z4⟩ := hk1.cells
  obtain ⟨bb, hbb⟩ : ∃ bb, emB x = bb := ⟨_, rfl⟩
  have HBB := Lib.hid hbb
  rw [hbb]
  clear hw1 hk1 hb1 hz1 hd9 hx h1 h2 hbb
  go_enter Try.func11, Try.ntmps11
  go_upto_region 1 with (fail)
  rw [HW1.out]
  clear hD
  go_wp2_with fail
  refine (HRO.out _ (Below.refl _ _)).mono ?_
  rintro e w2 ⟨vo, y, rfl, hvo, hsa, hb2⟩
  obtain ⟨p0, k0, p1, k1, p2, k2, rfl, r0, r1, r2⟩ := hvo
  have HB2 : Hid (Below (D + 1) w1 w2) := Lib.hid (HZ.out ▸ hb2)
  have hn2 : y.n2 ≤ 1000 := by rw [hsa.2.2.2.2.1]; exact HMl.out
  have HT : Hid (bb = false ↔ ∃ j, j < y.n2 ∧ y.T j = true) := Lib.hid (by
    have h3 : emB x = true ↔ _ := emB_iff.trans HEm.out
    rw [HBB.out, ← hsa.2.2.2.2.1] at h3
    constructor
    · intro hf
      refine Classical.byContradiction fun hn => ?_
      have := h3.2 fun i hi => by
        rw [← hsa.2.2.2.2.2 i hi]
        cases e : y.T i with
        | false => rfl
        | true => exact absurd ⟨i, hi, e⟩ hn
      rw [hf] at this; cases this
    · rintro ⟨j, hj, e⟩
      cases hbb : bb with
      | false => rfl
      | true =>
        have := h3.1 hbb j hj
        rw [← hsa.2.2.2.2.2 j hj, e] at this; cases this)
  have HR2 := Lib.hid r2
  clear hb2 r0 r1 r2 hsa z0 z1 z2 z3 z4
  go_upto_region 3 with (fail)
  obtain ⟨E, hE⟩ : ∃ E, w2.heap.size = E := ⟨_, rfl⟩
  obtain ⟨w3, hw3⟩ : ∃ w3, w2.alloc (.cells #[.slice p0 y.n0 k0, .int .i64 y.wd, .int .i64 y.st, .slice p1 y.n1 k1, .slice p2 y.n2 k2] 25) = w3 := ⟨_, rfl⟩
  have hk3 : isDf w3 E p0 y.n0 k0 y.wd y.st p1 y.n1 k1 p2 y.n2 k2 := hw3 ▸ hE ▸ heap_alloc_new w2 _
  have hb3 : Below E w2 w3 := hw3 ▸ (Below.refl _ _).alloc (by omega) _
  have hDE : D + 1 ≤ E := by have := HB2.out.size; have := HZ.out; omega
  have HK3 := Lib.hid (fun w' (h : Below (E + 1) w3 w') => (hk3.below h (Nat.lt_succ_self E)).cells)
  have HR3 := Lib.hid (fun w' (h : Below (E + 1) w3 w') => HR2.out.below (hE.symm ▸ hb3.trans (h.mono (Nat.le_succ E))))
  have HF3 : Hid (∀ w', Below (E + 1) w3 w' → Below w.heap.size w w') := Lib.hid fun w' h => HF.out _ (HB2.out.trans ((hb3.trans (h.mono (Nat.le_succ E))).mono hDE))
  rw [hw3, hE]
  obtain ⟨n, hn⟩ : ∃ n, y.n2 = n := ⟨_, rfl⟩
  rw [hn] at HK3 HR3 HT hn2 ⊢
  have n0 : (0 : Int) ≤ (n : Int) := by omega
  have n1 : (n : Int) ≤ 1000 := by omega
  clear hw3 hk3 hb3 hDE hE HR2 HF HRO HEm HMl HBB HW1 HZ HB2 hn
  go_loopw [4] (fun iv wr => ∃ i : Nat, i ≤ n ∧ iv = .int .i64 i ∧ Hid (∀ j, j < i → y.T j = false) ∧ Hid (Below (E + 1) w3 wr)) (fun iv _ => n - (intOf iv).toNat)
  case atStart => exact ⟨0, Nat.zero_le _, rfl, Lib.hid (fun _ h => absurd h (Nat.not_lt_zero _)), Lib.hid (Below.refl _ _)⟩
  case round =>
    obtain ⟨i, hi, rfl, HQ, HB⟩ := hrel
    obtain ⟨z0, z1, z2, z3, z4⟩ := HK3.out _ HB.out
    by_cases hlti : i < n
    · have i0 : (0 : Int) ≤ (i : Int) := by omega
      have i1 : (i : Int) < (n : Int) := by omega
      obtain ⟨b, o, e1, e2, e3⟩ := HR3.out _ HB.out i hlti
      obtain ⟨t, ht⟩ : ∃ t, y.T i = t := ⟨_, rfl⟩
      rw [ht] at e3
      have HX := Lib.hid ht
      subst e1
      clear ht e2 z0 z1 z2 z3
      cases t with
      | false =>
        have HQ2 : Hid (∀ j, j < i + 1 → y.T j = false) := Lib.hid fun j hj => by
          by_cases e : j = i
          · subst e; exact HX.out
          · exact HQ.out j (by omega)
        go_wp2_with fail
        go_roundw
        case rel => exact ⟨i + 1, by omega, by go_num, HQ2, HB⟩
        case measure => simp [intOf]; omega
      | true =>
        have HZ := Lib.hid (HT.out.2 ⟨i, hlti, HX.out⟩)
        go_wp2_with fail
        go_returns
        exact ⟨by rw [HZ.out] <;> rfl, HF3.out _ HB.out⟩
    · obtain rfl : i = n := by omega
      have HZ : Hid (bb = true) := Lib.hid (by
        cases h : bb with
        | true => rfl
        | false =>
          obtain ⟨j, hj, e⟩ := HT.out.1 h
          rw [HQ.out j hj] at e; cases e)
      clear z0 z1 z2 z3
      go_wp2_with fail
      go_returns
      exact ⟨by rw [HZ.out] <;> rfl, HF3.out _ HB.out⟩
end Go.Proofs.Ytefpoapbodbenaa
