/-
  The walk of the maker's part, a kind of node at a time.
-/
import Derived.Test.YtepegohopgnmnaaPk37
namespace Go.Proofs.Ytepegohopgnmnaa
open Go.RowKit

/-- What part reads ahead: its tree, and its node. -/
@[reducible] def rdA (w : World) (M b off i : Nat) (t : Value) (x : Nd) : Prop := w.cell? ⟨M, 0, none⟩ = some t ∧ w.cell? ⟨b, off + i * 7, none⟩ = some (.int .i64 x.k) ∧ w.cell? ⟨b, off + i * 7 + 1, none⟩ = some (.int .u64 x.a) ∧ w.cell? ⟨b, off + i * 7 + 2, none⟩ = some (.int .u64 x.b) ∧
  w.cell? ⟨b, off + i * 7 + 3, none⟩ = some (.int .u64 x.c) ∧ w.cell? ⟨b, off + i * 7 + 4, none⟩ = some (.int .u64 x.d) ∧ w.cell? ⟨b, off + i * 7 + 5, none⟩ = some (.int .i64 x.lo) ∧ w.cell? ⟨b, off + i * 7 + 6, none⟩ = some (.int .i64 x.hi)
theorem okN_rep9 {x : Nd} (h : okN x = true) (hk : x.k = 7) : 0 ≤ x.lo ∧ x.lo ≤ 32 ∧ (x.hi = -1 ∨ (x.lo ≤ x.hi ∧ x.hi ≤ 32)) := by
  unfold okN at h
  rw [hk] at h
  simp at h
  omega
theorem rdA_of {w : World} {M b off n i : Nat} {t : Value} {N : Nat → Nd} {L : List Sd} (hm : mkW w t M L) (hr : rdN w b off n N) (hi : i < n) {w' : World} (hb : Below w.heap.size w w') : rdA w' M b off i t (N i) := by
  obtain ⟨v, h1, _⟩ := hm.below hb
  obtain ⟨_, p0, p1, p2, p3, p4, p5, p6⟩ := (hr.below hb) i hi
  exact ⟨h1.cells.1, p0, p1, p2, p3, p4, p5, p6⟩

theorem below_nd9 {B : Nat} {a w : World} {c : Nat} (h : Below B a w) (hc : B ≤ c) (v0 v1 v2 v3 v4 v5 v6 : Value) : Below B a
    (((((((w.setCell ⟨c, 0, none⟩ v0).setCell ⟨c, 1, none⟩ v1).setCell ⟨c, 2, none⟩ v2).setCell ⟨c, 3, none⟩ v3).setCell ⟨c, 4, none⟩ v4).setCell ⟨c, 5, none⟩ v5).setCell ⟨c, 6, none⟩ v6) :=
  ((((((h.setCell hc _).setCell hc _).setCell hc _).setCell hc _).setCell hc _).setCell hc _).setCell hc _
theorem isNd9.stored {w : World} {b : Nat} {y : Nd} (h : isNd9 w b y) (x : Nd) :
    isNd9 (((((((w.setCell ⟨b, 0, none⟩ (.int .i64 x.k)).setCell ⟨b, 1, none⟩ (.int .u64 x.a)).setCell ⟨b, 2, none⟩ (.int .u64 x.b)).setCell ⟨b, 3, none⟩ (.int .u64 x.c)).setCell ⟨b, 4, none⟩ (.int .u64 x.d)).setCell ⟨b, 5, none⟩ (.int .i64 x.lo)).setCell ⟨b, 6, none⟩ (.int .i64 x.hi)) b x := by
  have h1 := heap_setCell_same w b 0 _ _ (.int .i64 x.k) h
  have h2 := heap_setCell_same _ b 1 _ _ (.int .u64 x.a) h1
  have h3 := heap_setCell_same _ b 2 _ _ (.int .u64 x.b) h2
  have h4 := heap_setCell_same _ b 3 _ _ (.int .u64 x.c) h3
  have h5 := heap_setCell_same _ b 4 _ _ (.int .u64 x.d) h4
  have h6 := heap_setCell_same _ b 5 _ _ (.int .i64 x.lo) h5
  have h7 := heap_setCell_same _ b 6 _ _ (.int .i64 x.hi) h6
  unfold isNd9
  rw [h7]
  simp
theorem mputX (t : Value) (M : Nat) (L L' : List Sd) (len : Nat) (y : Sd) (w : World) (hl : L.length = len) (h5 : len ≤ 10000) (hL : L ++ [y] = L') (h : mkW w t M L) :
    Calls Try.prog 59 #[.pointer (some ⟨M, 0, none⟩), .agg #[.int .i64 y.k, .int .i64 y.A, .int .i64 y.B, .int .u64 y.a, .int .u64 y.b, .int .u64 y.c, .int .u64 y.d]] w fun e w' => e = .returned (.int .i64 (len : Int)) ∧ mkW w' t M L' ∧ kpM M w w' := by
  subst hl; subst hL
  exact mput_is t M L y.k y.A y.B y.a y.b y.c y.d w h5 h

set_option maxRecDepth 100000 in
set_option maxHeartbeats 8000000 in
theorem part_leaf (N : Nat → Nd) (n b off cap i : Nat) (hn : n ≤ 512) (hi : i < n) (hf : 0 ≤ fst N i) (hok : okN (N i) = true) (hk : (N i).k = 1 ∨ (N i).k = 2 ∨ (N i).k = 3 ∨ (N i).k = 4) : PrtC N n b off cap i := by
  intro M L w hbM hlen hm hr
  have hT : trT N i = .leaf (N i) := trT_leaf hk
  rw [hT] at hlen ⊢
  have hlen : L.length + 2 ≤ 1000 := hlen
  have HAR : ar (N i).k = 0 := by rcases hk with h | h | h | h <;> (rw [h]; rfl)
  have hz : (N i).k ≠ 1 → (N i).a = 0 ∧ (N i).b = 0 ∧ (N i).c = 0 ∧ (N i).d = 0 := fun h => okN_zero hok h
  have HKI := Lib.hid (fun w' (h : Below w.heap.size w w') => kids_none8 b off n cap i N (by omega) hi hf HAR w' (hr.below h))
  have HRA := Lib.hid (fun w' (h : Below w.heap.size w w') => rdA_of hm hr hi h)
  have HD : Hid (Below w.heap.size w w.drew) := Lib.hid (Below.refl _ _).drew
  obtain ⟨x, hx⟩ : ∃ x, N i = x := ⟨_, rfl⟩
  rw [hx] at HRA hz hk ⊢
  have HDa : Hid (Below w.heap.size w (w.alloc (.cells #[.int .i64 0, .int .u64 0, .int .u64 0, .int .u64 0, .int .u64 0, .int .i64 0, .int .i64 0] 71)).drew) := Lib.hid ((Below.refl _ _).alloc (Nat.le_refl _) _).drew
  have HNa : Hid (isNd9 (w.alloc (.cells #[.int .i64 0, .int .u64 0, .int .u64 0, .int .u64 0, .int .u64 0, .int .i64 0, .int .i64 0] 71)).drew w.heap.size ⟨0, 0, 0, 0, 0, 0, 0⟩) := Lib.hid (isNd9.new w ⟨0, 0, 0, 0, 0, 0, 0⟩)
  obtain ⟨y, hy⟩ : ∃ y, leafS x 0 = y := ⟨_, rfl⟩
  have HAL := Lib.hid (fun w => hy ▸ alone9 x hk hz w)
  have e5 : (x.k == 5) = false := beq_eq_false_iff_ne.2 (by omega)
  have e6 : (x.k == 6) = false := beq_eq_false_iff_ne.2 (by omega)
  have e7 : (x.k == 7) = false := beq_eq_false_iff_ne.2 (by omega)
  obtain ⟨len, hln⟩ : ∃ len, L.length = len := ⟨_, rfl⟩
  obtain ⟨L1, hL1⟩ : ∃ L1, L ++ [y] = L1 := ⟨_, rfl⟩
  obtain ⟨L2, hL2⟩ : ∃ L2, L1 ++ [sE 0] = L2 := ⟨_, rfl⟩
  have hl1 : L1.length = len + 1 := by rw [← hL1]; simp [hln]
  have hl2 : L2.length = len + 2 := by rw [← hL2]; simp [hl1]
  have HMF : Hid (mkF (.leaf x) L = (setA L2 len (len + 1), len, len + 1)) := Lib.hid (by
    rw [← hL2, ← hL1, setA_app _ _ _ _ (by simp [hln]), ← hy, ← hln]
    have : ∀ l : List Sd, setA (l ++ [leafS x 0]) l.length (L.length + 1) = l ++ [leafS x (L.length + 1)] := by
      intro l
      induction l with
      | nil => rfl
      | cons r l ih => exact congrArg (r :: ·) ih
    rw [this]
    rfl)
  have HML := Lib.hid hm.lt
  have HMW := Lib.hid hm
  have i0 : (0 : Int) ≤ (i : Int) := by omega
  have i1 : (i : Int) < (n : Int) := by omega
  have hbl := (hr i hi).1
  have ml := hm.lt
  have hS0 := HRA.out _ (Below.refl _ _)
  have HLN := Lib.hid hln; have HL1 := Lib.hid hL1; have HL2 := Lib.hid hL2; have Hl1 := Lib.hid hl1; have Hl2 := Lib.hid hl2
  have hl9 : len ≤ 1000 := by omega
  clear hm hr hz hk hok hf hx hT HAR hL1 hL2 hl1 hl2 hln hlen hy
  go_enter Try.func36, Try.ntmps36
  go_wp2_with fail
  clear hS0
  go_region_held_law (fun w' => rdA w' M b off i (.slice (some ⟨b, off, none⟩) n cap) x)
    (first | with_reducible exact HRA.out _ HD.out | with_reducible exact HRA.out _ HDa.out | with_reducible exact HRA.out _ HBK.out | with_reducible exact HRA.out _ HBZ.out | with_reducible exact HRA.out _ HBX.out | with_reducible exact HRA.out _ HBN.out)
    (first
      | (go_at_call 55; (with_reducible refine (HKI.out _ HD.out).mono ?_); rintro e wk ⟨kp, rfl, hb⟩; have HBK := Lib.hid (HD.out.trans (hb.mono HD.out.size)); have HBZ := Lib.hid (HBK.out.alloc HBK.out.size (.cells #[.int .i64 0, .int .u64 0, .int .u64 0, .int .u64 0, .int .u64 0, .int .i64 0, .int .i64 0] 71)); have HBX := Lib.hid (HBK.out.alloc HBK.out.size (.cells #[.int .i64 x.k, .int .u64 x.a, .int .u64 x.b, .int .u64 x.c, .int .u64 x.d, .int .i64 x.lo, .int .i64 x.hi] 71)); clear hb)
      | (go_at_call 55; (with_reducible refine (HKI.out _ HDa.out).mono ?_); rintro e wk ⟨kp, rfl, hb⟩; have HBK := Lib.hid (HDa.out.trans (hb.mono HDa.out.size)); have HBN := Lib.hid (below_nd9 HBK.out (Nat.le_refl _) (.int .i64 x.k) (.int .u64 x.a) (.int .u64 x.b) (.int .u64 x.c) (.int .u64 x.d) (.int .i64 x.lo) (.int .i64 x.hi)); have HNK : Hid (isNd9 wk w.heap.size ⟨0, 0, 0, 0, 0, 0, 0⟩) := Lib.hid ((hb.block _ HNa.out.lt).trans HNa.out); obtain ⟨s0, s1, s2, s3, s4, s5, s6⟩ := HNK.out.cells; obtain ⟨f0, f1, f2, f3, f4, f5, f6⟩ := HNK.out.free; have sl := HNK.out.lt; clear hb))
  · obtain ⟨W, hW⟩ : ∃ W, wk.alloc (.cells #[.int .i64 x.k, .int .u64 x.a, .int .u64 x.b, .int .u64 x.c, .int .u64 x.d, .int .i64 x.lo, .int .i64 x.hi] 71) = W := ⟨_, rfl⟩
    have HNW : Hid (isNd9 W wk.heap.size x) := Lib.hid (hW ▸ isNd9.new wk x)
    have HBW : Hid (Below w.heap.size w W) := Lib.hid (hW ▸ HBX.out)
    rw [hW]
    generalize wk.heap.size = s at *
    clear hW HBX HBZ HBK HRA HD HDa HKI HNa
    obtain ⟨s0, s1, s2, s3, s4, s5, s6⟩ := HNW.out.cells
    have sl := HNW.out.lt
    have HM1 := Lib.hid (HMW.out.below HBW.out)
    have HK1 := Lib.hid (kpM.of_below (Nat.le_of_lt HML.out) HBW.out)
    go_wp2_with fail
    refine (HAL.out _).mono ?_
    rintro e w2 ⟨rfl, hb2⟩
    have HP2 := Lib.hid (mputX _ M L L1 len y w2 HLN.out (by omega) HL1.out (HM1.out.below hb2))
    have HK2 := Lib.hid (HK1.out.trans (kpM.of_below (Nat.le_of_lt HM1.out.lt) hb2))
    clear hb2 s0 s1 s2 s3 s4 s5 s6 sl HM1 HK1 HBW HNW HAL
    go_wp2_with fail
    refine HP2.out.mono ?_
    rintro e w3 ⟨rfl, hm3, hk3⟩
    have HP3 := Lib.hid (mputE _ M L1 L2 (len + 1) w3 Hl1.out (by omega) HL2.out hm3)
    have HK3 := Lib.hid (HK2.out.trans hk3)
    clear hm3 hk3 HP2 HK2
    go_wp2_with (refine wpList_build_st0 rfl _ rfl 2 rfl ?_)
    refine HP3.out.mono ?_
    rintro e w4 ⟨rfl, hm4, hk4⟩
    obtain ⟨g, c, mc, ml4, gl, ⟨u, cA⟩, fA, -, -, hA, -⟩ := hm4.opn Hl2.out (show len < len + 2 by omega)
    have he := hA ((len : Int) + 1) (len + 1) (by omega)
    have HE := Lib.hid he.1
    have HKE := Lib.hid ((HK3.out.trans hk4).trans he.2)
    have z0 : (0 : Int) ≤ (len : Int) := by omega
    have z1 : (len : Int) < (len : Int) + 2 := by omega
    clear hm4 hk4 hA he HP3 HK3 HMW
    go_wp2_with fail
    go_returns
    rw [HMF.out]
    exact ⟨rfl, HE.out, HKE.out⟩
  · obtain ⟨W, hW⟩ : ∃ W, (((((((wk.setCell ⟨w.heap.size, 0, none⟩ (.int .i64 x.k)).setCell ⟨w.heap.size, 1, none⟩ (.int .u64 x.a)).setCell ⟨w.heap.size, 2, none⟩ (.int .u64 x.b)).setCell ⟨w.heap.size, 3, none⟩ (.int .u64 x.c)).setCell ⟨w.heap.size, 4, none⟩ (.int .u64 x.d)).setCell ⟨w.heap.size, 5, none⟩ (.int .i64 x.lo)).setCell ⟨w.heap.size, 6, none⟩ (.int .i64 x.hi)) = W := ⟨_, rfl⟩
    have HNW : Hid (isNd9 W w.heap.size x) := Lib.hid (hW ▸ HNK.out.stored x)
    have HBW : Hid (Below w.heap.size w W) := Lib.hid (hW ▸ HBN.out)
    rw [hW]
    obtain ⟨s, hs⟩ : ∃ s, w.heap.size = s := ⟨_, rfl⟩
    rw [hs] at HNW ⊢
    clear hW hs HBN HBK HRA HD HDa HKI HNa HNK s0 s1 s2 s3 s4 s5 s6 f0 f1 f2 f3 f4 f5 f6 sl
    obtain ⟨s0, s1, s2, s3, s4, s5, s6⟩ := HNW.out.cells
    have sl := HNW.out.lt
    have HM1 := Lib.hid (HMW.out.below HBW.out)
    have HK1 := Lib.hid (kpM.of_below (Nat.le_of_lt HML.out) HBW.out)
    go_wp2_with fail
    refine (HAL.out _).mono ?_
    rintro e w2 ⟨rfl, hb2⟩
    have HP2 := Lib.hid (mputX _ M L L1 len y w2 HLN.out (by omega) HL1.out (HM1.out.below hb2))
    have HK2 := Lib.hid (HK1.out.trans (kpM.of_below (Nat.le_of_lt HM1.out.lt) hb2))
    clear hb2 s0 s1 s2 s3 s4 s5 s6 sl HM1 HK1 HBW HNW HAL
    go_wp2_with fail
    refine HP2.out.mono ?_
    rintro e w3 ⟨rfl, hm3, hk3⟩
    have HP3 := Lib.hid (mputE _ M L1 L2 (len + 1) w3 Hl1.out (by omega) HL2.out hm3)
    have HK3 := Lib.hid (HK2.out.trans hk3)
    clear hm3 hk3 HP2 HK2
    go_wp2_with (refine wpList_build_st0 rfl _ rfl 2 rfl ?_)
    refine HP3.out.mono ?_
    rintro e w4 ⟨rfl, hm4, hk4⟩
    obtain ⟨g, c, mc, ml4, gl, ⟨u, cA⟩, fA, -, -, hA, -⟩ := hm4.opn Hl2.out (show len < len + 2 by omega)
    have he := hA ((len : Int) + 1) (len + 1) (by omega)
    have HE := Lib.hid he.1
    have HKE := Lib.hid ((HK3.out.trans hk4).trans he.2)
    have z0 : (0 : Int) ≤ (len : Int) := by omega
    have z1 : (len : Int) < (len : Int) + 2 := by omega
    clear hm4 hk4 hA he HP3 HK3 HMW
    go_wp2_with fail
    go_returns
    rw [HMF.out]
    exact ⟨rfl, HE.out, HKE.out⟩
set_option maxRecDepth 100000 in
set_option maxHeartbeats 8000000 in
theorem part_rep (N : Nat → Nd) (n b off cap p : Nat) (hn : n ≤ 512) (hi : p + 1 < n) (hf : 0 ≤ fst N (p + 1)) (hok : okN (N (p + 1)) = true) (hk : (N (p + 1)).k = 7) (HP1 : PrtC N n b off cap p) : PrtC N n b off cap (p + 1) := by
  intro M L w hbM hlen hm hr
  rw [trT_one hk] at hlen ⊢
  obtain ⟨R, hR⟩ : ∃ R, mkF ((trT N p).rep (N (p + 1)).lo (N (p + 1)).hi) L = R := ⟨_, rfl⟩
  rw [hR]
  have HLO : Hid (0 ≤ (N (p + 1)).lo ∧ (N (p + 1)).lo ≤ 32 ∧ ((N (p + 1)).hi = -1 ∨ ((N (p + 1)).lo ≤ (N (p + 1)).hi ∧ (N (p + 1)).hi ≤ 32))) := Lib.hid (okN_rep9 hok hk)
  have HAR : ar (N (p + 1)).k = 1 := by rw [hk]; rfl
  have HLEN := Lib.hid hlen
  have HD : Hid (Below w.heap.size w w.drew) := Lib.hid (Below.refl _ _).drew
  have HKI := Lib.hid (fun w' (h : Below w.heap.size w w') => kids_one8 b off n cap p N (by omega) hi hf HAR w' (hr.below h))
  have HRA := Lib.hid (fun w' (h : Below w.heap.size w w') => rdA_of hm hr hi h)
  have HRW := Lib.hid hr
  obtain ⟨x, hx⟩ : ∃ x, N (p + 1) = x := ⟨_, rfl⟩
  rw [hx] at HRA hk
  have HDa : Hid (Below w.heap.size w (w.alloc (.cells #[.int .i64 0, .int .u64 0, .int .u64 0, .int .u64 0, .int .u64 0, .int .i64 0, .int .i64 0] 71)).drew) := Lib.hid ((Below.refl _ _).alloc (Nat.le_refl _) _).drew
  have HNa : Hid (isNd9 (w.alloc (.cells #[.int .i64 0, .int .u64 0, .int .u64 0, .int .u64 0, .int .u64 0, .int .i64 0, .int .i64 0] 71)).drew w.heap.size ⟨0, 0, 0, 0, 0, 0, 0⟩) := Lib.hid (isNd9.new w ⟨0, 0, 0, 0, 0, 0, 0⟩)
  have hzs : (w.alloc (.cells #[.int .i64 0, .int .u64 0, .int .u64 0, .int .u64 0, .int .u64 0, .int .i64 0, .int .i64 0] 71)).drew.heap.size = w.heap.size + 1 := World.size_alloc _ _
  have HZS := Lib.hid hzs
  have e5 : (x.k == 5) = false := by rw [hk]; rfl
  have e6 : (x.k == 6) = false := by rw [hk]; rfl
  have e7 : (x.k == 7) = true := by rw [hk]; rfl
  have HML := Lib.hid hm.lt
  have HMW := Lib.hid hm
  have i0 : (0 : Int) ≤ ((p + 1 : Nat) : Int) := by omega
  have i1 : ((p + 1 : Nat) : Int) < (n : Int) := by omega
  have hbl := (hr (p + 1) hi).1
  have ml := hm.lt
  obtain ⟨i, hpi⟩ : ∃ i, p + 1 = i := ⟨_, rfl⟩
  rw [hpi] at HKI HRA i0 i1 ⊢
  have hS0 := HRA.out _ (Below.refl _ _)
  rw [hx] at HLO HLEN
  rw [hx] at hR
  have HRR := Lib.hid hR
  clear hm hr hok hf hx HAR hlen hzs hk hpi hi hR
  go_enter Try.func36, Try.ntmps36
  go_wp2_with fail
  clear hS0
  go_region_held_law (fun w' => rdA w' M b off i (.slice (some ⟨b, off, none⟩) n cap) x)
    (first | with_reducible exact HRA.out _ HD.out | with_reducible exact HRA.out _ HDa.out | with_reducible exact HRA.out _ HBK.out | with_reducible exact HRA.out _ HBZ.out | with_reducible exact HRA.out _ HBX.out | with_reducible exact HRA.out _ HBN.out)
    (first
      | (go_at_call 55; (with_reducible refine (HKI.out _ HD.out).mono ?_); rintro e wk ⟨rfl, hg, hb⟩; have HBK := Lib.hid (HD.out.trans (hb.mono HD.out.size)); have HBZ := Lib.hid (HBK.out.alloc HBK.out.size (.cells #[.int .i64 0, .int .u64 0, .int .u64 0, .int .u64 0, .int .u64 0, .int .i64 0, .int .i64 0] 71)); have HBX := Lib.hid (HBK.out.alloc HBK.out.size (.cells #[.int .i64 x.k, .int .u64 x.a, .int .u64 x.b, .int .u64 x.c, .int .u64 x.d, .int .i64 x.lo, .int .i64 x.hi] 71)); have HKB : Hid (wk.heap[w.heap.size]? = some (.cells #[.int .i64 (p : Int)] 3 (0, 0))) := Lib.hid hg; have HSG : Hid (w.heap.size ≤ wk.heap.size) := Lib.hid HBK.out.size; clear hg; clear hb)
      | (go_at_call 55; (with_reducible refine (HKI.out _ HDa.out).mono ?_); rintro e wk ⟨rfl, hg, hb⟩; have HBK := Lib.hid (HDa.out.trans (hb.mono HDa.out.size)); have HBN := Lib.hid (below_nd9 HBK.out (Nat.le_refl _) (.int .i64 x.k) (.int .u64 x.a) (.int .u64 x.b) (.int .u64 x.c) (.int .u64 x.d) (.int .i64 x.lo) (.int .i64 x.hi)); have HKB : Hid (wk.heap[w.heap.size + 1]? = some (.cells #[.int .i64 (p : Int)] 3 (0, 0))) := Lib.hid (HZS.out ▸ hg); clear hg; have HNK : Hid (isNd9 wk w.heap.size ⟨0, 0, 0, 0, 0, 0, 0⟩) := Lib.hid ((hb.block _ HNa.out.lt).trans HNa.out); obtain ⟨s0, s1, s2, s3, s4, s5, s6⟩ := HNK.out.cells; obtain ⟨f0, f1, f2, f3, f4, f5, f6⟩ := HNK.out.free; have sl := HNK.out.lt; clear hb))
  · obtain ⟨W, hW⟩ : ∃ W, wk.alloc (.cells #[.int .i64 x.k, .int .u64 x.a, .int .u64 x.b, .int .u64 x.c, .int .u64 x.d, .int .i64 x.lo, .int .i64 x.hi] 71) = W := ⟨_, rfl⟩
    have HNW : Hid (isNd9 W wk.heap.size x) := Lib.hid (hW ▸ isNd9.new wk x)
    have HBW : Hid (Below w.heap.size w W) := Lib.hid (hW ▸ HBX.out)
    have HKW : Hid (W.heap[w.heap.size]? = some (.cells #[.int .i64 (p : Int)] 3 (0, 0))) := Lib.hid (hW ▸ (Below.heap_alloc wk (.cells #[.int .i64 x.k, .int .u64 x.a, .int .u64 x.b, .int .u64 x.c, .int .u64 x.d, .int .i64 x.lo, .int .i64 x.hi] 71) _ (lt_of_block HKB.out)).trans HKB.out)
    rw [hW]
    generalize wk.heap.size = s at *
    clear hW HBX HBZ HBK HRA HD HDa HKI HNa
    obtain ⟨s0, s1, s2, s3, s4, s5, s6⟩ := HNW.out.cells
    have sl := HNW.out.lt
    have HM1 := Lib.hid (HMW.out.below HBW.out)
    have HK1 := Lib.hid (kpM.of_below (Nat.le_of_lt HML.out) HBW.out)
    have HMs : Hid (M < s) := Lib.hid (by have := HML.out; have := HSG.out; omega)
    obtain ⟨kb, hkb⟩ : ∃ kb, w.heap.size = kb := ⟨_, rfl⟩
    rw [hkb] at HKW ⊢
    have hkM : M < kb := by have := HML.out; omega
    have HKM := Lib.hid hkM
    have HSX : Hid (∀ w', kpM M W w' → (w'.cell? ⟨kb, 0, none⟩ = some (.int .i64 (p : Int)) ∧ w'.cell? ⟨s, 5, none⟩ = some (.int .i64 x.lo) ∧ w'.cell? ⟨s, 6, none⟩ = some (.int .i64 x.hi))) := Lib.hid fun w' h => by
      have k1 := h.ints HKW.out HKM.out
      have k2 := (show isNd9 w' s x from h.2 s _ _ _ HNW.out (by decide) (by have := HMs.out; omega)).cells
      obtain ⟨t0, t1, t2, t3, t4, t5, t6⟩ := k2
      exact ⟨by simp [World.cell?, k1], t5, t6⟩
    have HKD : Hid (kpM M W W.drew) := Lib.hid (kpM.of_below (Nat.le_of_lt HM1.out.lt) (Below.refl _ _).drew)
    have hs1 := HSX.out _ (kpM.refl _ _)
    have hkl := lt_of_block HKW.out
    have HC := Lib.hid (rep9 N n b off cap p HP1 M L x.lo x.hi HLO.out.1 HLO.out.2.1 HLO.out.2.2 W.drew hbM HLEN.out HM1.out.drew (HRW.out.below (HBW.out.drew)))
    clear hkb HBW HMW hs1
    go_wp2_with fail
    go_region_held_law (fun w' => w'.cell? ⟨kb, 0, none⟩ = some (.int .i64 (p : Int)) ∧ w'.cell? ⟨s, 5, none⟩ = some (.int .i64 x.lo) ∧ w'.cell? ⟨s, 6, none⟩ = some (.int .i64 x.hi))
      (first | with_reducible exact HSX.out _ HKD.out | with_reducible exact HSX.out _ HK5.out)
      (first | (go_at_call 58; (with_reducible refine HC.out.mono ?_); rintro e w5 ⟨rfl, hm5, hk5⟩; have HM5 := Lib.hid hm5; have HK5 := Lib.hid (HKD.out.trans hk5); clear hm5 hk5))
    all_goals
      have HF := Lib.hid (HK1.out.trans HK5.out)
      go_wp2_with fail
      go_returns
      rw [← HRR.out]
      exact ⟨rfl, HM5.out, HF.out⟩
  · obtain ⟨W, hW⟩ : ∃ W, (((((((wk.setCell ⟨w.heap.size, 0, none⟩ (.int .i64 x.k)).setCell ⟨w.heap.size, 1, none⟩ (.int .u64 x.a)).setCell ⟨w.heap.size, 2, none⟩ (.int .u64 x.b)).setCell ⟨w.heap.size, 3, none⟩ (.int .u64 x.c)).setCell ⟨w.heap.size, 4, none⟩ (.int .u64 x.d)).setCell ⟨w.heap.size, 5, none⟩ (.int .i64 x.lo)).setCell ⟨w.heap.size, 6, none⟩ (.int .i64 x.hi)) = W := ⟨_, rfl⟩
    have HNW : Hid (isNd9 W w.heap.size x) := Lib.hid (hW ▸ HNK.out.stored x)
    have HBW : Hid (Below w.heap.size w W) := Lib.hid (hW ▸ HBN.out)
    have HKW : Hid (W.heap[w.heap.size + 1]? = some (.cells #[.int .i64 (p : Int)] 3 (0, 0))) := Lib.hid (hW ▸ (st7_grown wk w.heap.size 0 1 2 3 4 5 6 _ _ _ _ _ _ _).block _ (lt_of_block HKB.out) (by simp) |>.trans HKB.out)
    rw [hW]
    obtain ⟨s, hs⟩ : ∃ s, w.heap.size = s := ⟨_, rfl⟩
    rw [hs] at HNW ⊢
    rw [hs] at HKW
    have HMs : Hid (M < s) := Lib.hid (by have := HML.out; omega)
    clear hW hs HBN HBK HRA HD HDa HKI HNa HNK s0 s1 s2 s3 s4 s5 s6 f0 f1 f2 f3 f4 f5 f6 sl
    obtain ⟨s0, s1, s2, s3, s4, s5, s6⟩ := HNW.out.cells
    have sl := HNW.out.lt
    have HM1 := Lib.hid (HMW.out.below HBW.out)
    have HK1 := Lib.hid (kpM.of_below (Nat.le_of_lt HML.out) HBW.out)
    obtain ⟨kb, hkb⟩ : ∃ kb, s + 1 = kb := ⟨_, rfl⟩
    rw [hkb] at HKW ⊢
    have hkM : M < kb := by have := HMs.out; omega
    have HKM := Lib.hid hkM
    have HSX : Hid (∀ w', kpM M W w' → (w'.cell? ⟨kb, 0, none⟩ = some (.int .i64 (p : Int)) ∧ w'.cell? ⟨s, 5, none⟩ = some (.int .i64 x.lo) ∧ w'.cell? ⟨s, 6, none⟩ = some (.int .i64 x.hi))) := Lib.hid fun w' h => by
      have k1 := h.ints HKW.out HKM.out
      have k2 := (show isNd9 w' s x from h.2 s _ _ _ HNW.out (by decide) (by have := HMs.out; omega)).cells
      obtain ⟨t0, t1, t2, t3, t4, t5, t6⟩ := k2
      exact ⟨by simp [World.cell?, k1], t5, t6⟩
    have HKD : Hid (kpM M W W.drew) := Lib.hid (kpM.of_below (Nat.le_of_lt HM1.out.lt) (Below.refl _ _).drew)
    have hs1 := HSX.out _ (kpM.refl _ _)
    have hkl := lt_of_block HKW.out
    have HC := Lib.hid (rep9 N n b off cap p HP1 M L x.lo x.hi HLO.out.1 HLO.out.2.1 HLO.out.2.2 W.drew hbM HLEN.out HM1.out.drew (HRW.out.below (HBW.out.drew)))
    clear hkb HBW HMW hs1
    go_wp2_with fail
    go_region_held_law (fun w' => w'.cell? ⟨kb, 0, none⟩ = some (.int .i64 (p : Int)) ∧ w'.cell? ⟨s, 5, none⟩ = some (.int .i64 x.lo) ∧ w'.cell? ⟨s, 6, none⟩ = some (.int .i64 x.hi))
      (first | with_reducible exact HSX.out _ HKD.out | with_reducible exact HSX.out _ HK5.out)
      (first | (go_at_call 58; (with_reducible refine HC.out.mono ?_); rintro e w5 ⟨rfl, hm5, hk5⟩; have HM5 := Lib.hid hm5; have HK5 := Lib.hid (HKD.out.trans hk5); clear hm5 hk5))
    all_goals
      have HF := Lib.hid (HK1.out.trans HK5.out)
      go_wp2_with fail
      go_returns
      rw [← HRR.out]
      exact ⟨rfl, HM5.out, HF.out⟩
set_option maxRecDepth 100000 in
set_option maxHeartbeats 8000000 in
theorem part_cat (N : Nat → Nd) (n b off cap p q : Nat) (hn : n ≤ 512) (ht : tree N n) (hi : p + 1 < n) (hf : 0 ≤ fst N (p + 1)) (hk : (N (p + 1)).k = 5) (h1 : fst N p = ((q + 1 : Nat) : Int)) (h2 : q + 1 ≤ p) (HP1 : PrtC N n b off cap q) (HP2 : PrtC N n b off cap p) : PrtC N n b off cap (p + 1) := by
  intro M L w hbM hlen hm hr
  rw [trT_cat ht hi hk h1 h2] at hlen ⊢
  obtain ⟨R, hR⟩ : ∃ R, mkF (.cat (trT N q) (trT N p)) L = R := ⟨_, rfl⟩
  rw [hR]
  have HAR : ar (N (p + 1)).k = 2 := by rw [hk]; rfl
  have HLEN : Hid (L.length + (nst (trT N q) + nst (trT N p)) ≤ 1000) := Lib.hid hlen
  have HD : Hid (Below w.heap.size w w.drew) := Lib.hid (Below.refl _ _).drew
  have HKI := Lib.hid (fun w' (h : Below w.heap.size w w') => kids_two8 b off n cap p q N (by omega) hi hf HAR h1 h2 w' (hr.below h))
  have HRA := Lib.hid (fun w' (h : Below w.heap.size w w') => rdA_of hm hr hi h)
  have HRW := Lib.hid hr
  obtain ⟨x, hx⟩ : ∃ x, N (p + 1) = x := ⟨_, rfl⟩
  rw [hx] at HRA hk
  have HDa : Hid (Below w.heap.size w (w.alloc (.cells #[.int .i64 0, .int .u64 0, .int .u64 0, .int .u64 0, .int .u64 0, .int .i64 0, .int .i64 0] 71)).drew) := Lib.hid ((Below.refl _ _).alloc (Nat.le_refl _) _).drew
  have HNa : Hid (isNd9 (w.alloc (.cells #[.int .i64 0, .int .u64 0, .int .u64 0, .int .u64 0, .int .u64 0, .int .i64 0, .int .i64 0] 71)).drew w.heap.size ⟨0, 0, 0, 0, 0, 0, 0⟩) := Lib.hid (isNd9.new w ⟨0, 0, 0, 0, 0, 0, 0⟩)
  have hzs : (w.alloc (.cells #[.int .i64 0, .int .u64 0, .int .u64 0, .int .u64 0, .int .u64 0, .int .i64 0, .int .i64 0] 71)).drew.heap.size = w.heap.size + 1 := World.size_alloc _ _
  have HZS := Lib.hid hzs
  have e5 : (x.k == 5) = true := by rw [hk]; rfl
  have e6 : (x.k == 6) = false := by rw [hk]; rfl
  have e7 : (x.k == 7) = false := by rw [hk]; rfl
  have HML := Lib.hid hm.lt
  have HMW := Lib.hid hm
  have i0 : (0 : Int) ≤ ((p + 1 : Nat) : Int) := by omega
  have i1 : ((p + 1 : Nat) : Int) < (n : Int) := by omega
  have hbl := (hr (p + 1) hi).1
  have ml := hm.lt
  obtain ⟨i, hpi⟩ : ∃ i, p + 1 = i := ⟨_, rfl⟩
  rw [hpi] at HKI HRA i0 i1 ⊢
  have hS0 := HRA.out _ (Below.refl _ _)
  have HRR := Lib.hid hR
  clear hm hr hf hx HAR hlen hzs hk hpi hi hR ht h1 h2
  go_enter Try.func36, Try.ntmps36
  go_wp2_with fail
  clear hS0
  go_region_held_law (fun w' => rdA w' M b off i (.slice (some ⟨b, off, none⟩) n cap) x)
    (first | with_reducible exact HRA.out _ HD.out | with_reducible exact HRA.out _ HDa.out | with_reducible exact HRA.out _ HBK.out | with_reducible exact HRA.out _ HBZ.out | with_reducible exact HRA.out _ HBX.out | with_reducible exact HRA.out _ HBN.out)
    (first
      | (go_at_call 55; (with_reducible refine (HKI.out _ HD.out).mono ?_); rintro e wk ⟨rfl, hg, hb⟩; have HBK := Lib.hid (HD.out.trans (hb.mono HD.out.size)); have HBZ := Lib.hid (HBK.out.alloc HBK.out.size (.cells #[.int .i64 0, .int .u64 0, .int .u64 0, .int .u64 0, .int .u64 0, .int .i64 0, .int .i64 0] 71)); have HBX := Lib.hid (HBK.out.alloc HBK.out.size (.cells #[.int .i64 x.k, .int .u64 x.a, .int .u64 x.b, .int .u64 x.c, .int .u64 x.d, .int .i64 x.lo, .int .i64 x.hi] 71)); have HKB : Hid (wk.heap[w.heap.size]? = some (.cells #[.int .i64 (q : Int), .int .i64 (p : Int)] 3 (0, 0))) := Lib.hid hg; have HSG : Hid (w.heap.size ≤ wk.heap.size) := Lib.hid HBK.out.size; clear hg; clear hb)
      | (go_at_call 55; (with_reducible refine (HKI.out _ HDa.out).mono ?_); rintro e wk ⟨rfl, hg, hb⟩; have HBK := Lib.hid (HDa.out.trans (hb.mono HDa.out.size)); have HBN := Lib.hid (below_nd9 HBK.out (Nat.le_refl _) (.int .i64 x.k) (.int .u64 x.a) (.int .u64 x.b) (.int .u64 x.c) (.int .u64 x.d) (.int .i64 x.lo) (.int .i64 x.hi)); have HKB : Hid (wk.heap[w.heap.size + 1]? = some (.cells #[.int .i64 (q : Int), .int .i64 (p : Int)] 3 (0, 0))) := Lib.hid (HZS.out ▸ hg); clear hg; have HNK : Hid (isNd9 wk w.heap.size ⟨0, 0, 0, 0, 0, 0, 0⟩) := Lib.hid ((hb.block _ HNa.out.lt).trans HNa.out); obtain ⟨s0, s1, s2, s3, s4, s5, s6⟩ := HNK.out.cells; obtain ⟨f0, f1, f2, f3, f4, f5, f6⟩ := HNK.out.free; have sl := HNK.out.lt; clear hb))
  · obtain ⟨W, hW⟩ : ∃ W, wk.alloc (.cells #[.int .i64 x.k, .int .u64 x.a, .int .u64 x.b, .int .u64 x.c, .int .u64 x.d, .int .i64 x.lo, .int .i64 x.hi] 71) = W := ⟨_, rfl⟩
    have HNW : Hid (isNd9 W wk.heap.size x) := Lib.hid (hW ▸ isNd9.new wk x)
    have HBW : Hid (Below w.heap.size w W) := Lib.hid (hW ▸ HBX.out)
    have HKW : Hid (W.heap[w.heap.size]? = some (.cells #[.int .i64 (q : Int), .int .i64 (p : Int)] 3 (0, 0))) := Lib.hid (hW ▸ (Below.heap_alloc wk (.cells #[.int .i64 x.k, .int .u64 x.a, .int .u64 x.b, .int .u64 x.c, .int .u64 x.d, .int .i64 x.lo, .int .i64 x.hi] 71) _ (lt_of_block HKB.out)).trans HKB.out)
    rw [hW]
    generalize wk.heap.size = s at *
    clear hW HBX HBZ HBK HRA HD HDa HKI HNa
    obtain ⟨s0, s1, s2, s3, s4, s5, s6⟩ := HNW.out.cells
    have sl := HNW.out.lt
    have HM1 := Lib.hid (HMW.out.below HBW.out)
    have HK1 := Lib.hid (kpM.of_below (Nat.le_of_lt HML.out) HBW.out)
    have HMs : Hid (M < s) := Lib.hid (by have := HML.out; have := HSG.out; omega)
    obtain ⟨kb, hkb⟩ : ∃ kb, w.heap.size = kb := ⟨_, rfl⟩
    rw [hkb] at HKW ⊢
    have hkM : M < kb := by have := HML.out; omega
    have HKM := Lib.hid hkM
    have HSX : Hid (∀ w', kpM M W w' → (w'.cell? ⟨kb, 0, none⟩ = some (.int .i64 (q : Int)) ∧ w'.cell? ⟨kb, 1, none⟩ = some (.int .i64 (p : Int)))) := Lib.hid fun w' h => by
      have k1 := h.ints HKW.out HKM.out
      have k2 := (show isNd9 w' s x from h.2 s _ _ _ HNW.out (by decide) (by have := HMs.out; omega)).cells
      obtain ⟨t0, t1, t2, t3, t4, t5, t6⟩ := k2
      exact ⟨by simp [World.cell?, k1], by simp [World.cell?, k1]⟩
    have HKD : Hid (kpM M W W.drew) := Lib.hid (kpM.of_below (Nat.le_of_lt HM1.out.lt) (Below.refl _ _).drew)
    have hs1 := HSX.out _ (kpM.refl _ _)
    have hkl := lt_of_block HKW.out
    have HC := Lib.hid (cat9 N n b off cap q p HP1 HP2 M L W.drew hbM HLEN.out HM1.out.drew (HRW.out.below (HBW.out.drew)))
    clear hkb HBW HMW hs1
    go_wp2_with fail
    go_region_held_law (fun w' => w'.cell? ⟨kb, 0, none⟩ = some (.int .i64 (q : Int)) ∧ w'.cell? ⟨kb, 1, none⟩ = some (.int .i64 (p : Int)))
      (first | with_reducible exact HSX.out _ HKD.out | with_reducible exact HSX.out _ HK5.out)
      (first | (go_at_call 56; (with_reducible refine HC.out.mono ?_); rintro e w5 ⟨rfl, hm5, hk5⟩; have HM5 := Lib.hid hm5; have HK5 := Lib.hid (HKD.out.trans hk5); clear hm5 hk5))
    all_goals
      have HF := Lib.hid (HK1.out.trans HK5.out)
      go_wp2_with fail
      go_returns
      rw [← HRR.out]
      exact ⟨rfl, HM5.out, HF.out⟩
  · obtain ⟨W, hW⟩ : ∃ W, (((((((wk.setCell ⟨w.heap.size, 0, none⟩ (.int .i64 x.k)).setCell ⟨w.heap.size, 1, none⟩ (.int .u64 x.a)).setCell ⟨w.heap.size, 2, none⟩ (.int .u64 x.b)).setCell ⟨w.heap.size, 3, none⟩ (.int .u64 x.c)).setCell ⟨w.heap.size, 4, none⟩ (.int .u64 x.d)).setCell ⟨w.heap.size, 5, none⟩ (.int .i64 x.lo)).setCell ⟨w.heap.size, 6, none⟩ (.int .i64 x.hi)) = W := ⟨_, rfl⟩
    have HNW : Hid (isNd9 W w.heap.size x) := Lib.hid (hW ▸ HNK.out.stored x)
    have HBW : Hid (Below w.heap.size w W) := Lib.hid (hW ▸ HBN.out)
    have HKW : Hid (W.heap[w.heap.size + 1]? = some (.cells #[.int .i64 (q : Int), .int .i64 (p : Int)] 3 (0, 0))) := Lib.hid (hW ▸ (st7_grown wk w.heap.size 0 1 2 3 4 5 6 _ _ _ _ _ _ _).block _ (lt_of_block HKB.out) (by simp) |>.trans HKB.out)
    rw [hW]
    obtain ⟨s, hs⟩ : ∃ s, w.heap.size = s := ⟨_, rfl⟩
    rw [hs] at HNW ⊢
    rw [hs] at HKW
    have HMs : Hid (M < s) := Lib.hid (by have := HML.out; omega)
    clear hW hs HBN HBK HRA HD HDa HKI HNa HNK s0 s1 s2 s3 s4 s5 s6 f0 f1 f2 f3 f4 f5 f6 sl
    obtain ⟨s0, s1, s2, s3, s4, s5, s6⟩ := HNW.out.cells
    have sl := HNW.out.lt
    have HM1 := Lib.hid (HMW.out.below HBW.out)
    have HK1 := Lib.hid (kpM.of_below (Nat.le_of_lt HML.out) HBW.out)
    obtain ⟨kb, hkb⟩ : ∃ kb, s + 1 = kb := ⟨_, rfl⟩
    rw [hkb] at HKW ⊢
    have hkM : M < kb := by have := HMs.out; omega
    have HKM := Lib.hid hkM
    have HSX : Hid (∀ w', kpM M W w' → (w'.cell? ⟨kb, 0, none⟩ = some (.int .i64 (q : Int)) ∧ w'.cell? ⟨kb, 1, none⟩ = some (.int .i64 (p : Int)))) := Lib.hid fun w' h => by
      have k1 := h.ints HKW.out HKM.out
      have k2 := (show isNd9 w' s x from h.2 s _ _ _ HNW.out (by decide) (by have := HMs.out; omega)).cells
      obtain ⟨t0, t1, t2, t3, t4, t5, t6⟩ := k2
      exact ⟨by simp [World.cell?, k1], by simp [World.cell?, k1]⟩
    have HKD : Hid (kpM M W W.drew) := Lib.hid (kpM.of_below (Nat.le_of_lt HM1.out.lt) (Below.refl _ _).drew)
    have hs1 := HSX.out _ (kpM.refl _ _)
    have hkl := lt_of_block HKW.out
    have HC := Lib.hid (cat9 N n b off cap q p HP1 HP2 M L W.drew hbM HLEN.out HM1.out.drew (HRW.out.below (HBW.out.drew)))
    clear hkb HBW HMW hs1
    go_wp2_with fail
    go_region_held_law (fun w' => w'.cell? ⟨kb, 0, none⟩ = some (.int .i64 (q : Int)) ∧ w'.cell? ⟨kb, 1, none⟩ = some (.int .i64 (p : Int)))
      (first | with_reducible exact HSX.out _ HKD.out | with_reducible exact HSX.out _ HK5.out)
      (first | (go_at_call 56; (with_reducible refine HC.out.mono ?_); rintro e w5 ⟨rfl, hm5, hk5⟩; have HM5 := Lib.hid hm5; have HK5 := Lib.hid (HKD.out.trans hk5); clear hm5 hk5))
    all_goals
      have HF := Lib.hid (HK1.out.trans HK5.out)
      go_wp2_with fail
      go_returns
      rw [← HRR.out]
      exact ⟨rfl, HM5.out, HF.out⟩
set_option maxRecDepth 100000 in
set_option maxHeartbeats 8000000 in
theorem part_or (N : Nat → Nd) (n b off cap p q : Nat) (hn : n ≤ 512) (ht : tree N n) (hi : p + 1 < n) (hf : 0 ≤ fst N (p + 1)) (hk : (N (p + 1)).k = 6) (h1 : fst N p = ((q + 1 : Nat) : Int)) (h2 : q + 1 ≤ p) (HP1 : PrtC N n b off cap q) (HP2 : PrtC N n b off cap p) : PrtC N n b off cap (p + 1) := by
  intro M L w hbM hlen hm hr
  rw [trT_or ht hi hk h1 h2] at hlen ⊢
  obtain ⟨R, hR⟩ : ∃ R, mkF (.or (trT N q) (trT N p)) L = R := ⟨_, rfl⟩
  rw [hR]
  have HAR : ar (N (p + 1)).k = 2 := by rw [hk]; rfl
  have HLEN : Hid (L.length + (nst (trT N q) + nst (trT N p) + 2) ≤ 1000) := Lib.hid hlen
  have HD : Hid (Below w.heap.size w w.drew) := Lib.hid (Below.refl _ _).drew
  have HKI := Lib.hid (fun w' (h : Below w.heap.size w w') => kids_two8 b off n cap p q N (by omega) hi hf HAR h1 h2 w' (hr.below h))
  have HRA := Lib.hid (fun w' (h : Below w.heap.size w w') => rdA_of hm hr hi h)
  have HRW := Lib.hid hr
  obtain ⟨x, hx⟩ : ∃ x, N (p + 1) = x := ⟨_, rfl⟩
  rw [hx] at HRA hk
  have HDa : Hid (Below w.heap.size w (w.alloc (.cells #[.int .i64 0, .int .u64 0, .int .u64 0, .int .u64 0, .int .u64 0, .int .i64 0, .int .i64 0] 71)).drew) := Lib.hid ((Below.refl _ _).alloc (Nat.le_refl _) _).drew
  have HNa : Hid (isNd9 (w.alloc (.cells #[.int .i64 0, .int .u64 0, .int .u64 0, .int .u64 0, .int .u64 0, .int .i64 0, .int .i64 0] 71)).drew w.heap.size ⟨0, 0, 0, 0, 0, 0, 0⟩) := Lib.hid (isNd9.new w ⟨0, 0, 0, 0, 0, 0, 0⟩)
  have hzs : (w.alloc (.cells #[.int .i64 0, .int .u64 0, .int .u64 0, .int .u64 0, .int .u64 0, .int .i64 0, .int .i64 0] 71)).drew.heap.size = w.heap.size + 1 := World.size_alloc _ _
  have HZS := Lib.hid hzs
  have e5 : (x.k == 5) = false := by rw [hk]; rfl
  have e6 : (x.k == 6) = true := by rw [hk]; rfl
  have e7 : (x.k == 7) = false := by rw [hk]; rfl
  have HML := Lib.hid hm.lt
  have HMW := Lib.hid hm
  have i0 : (0 : Int) ≤ ((p + 1 : Nat) : Int) := by omega
  have i1 : ((p + 1 : Nat) : Int) < (n : Int) := by omega
  have hbl := (hr (p + 1) hi).1
  have ml := hm.lt
  obtain ⟨i, hpi⟩ : ∃ i, p + 1 = i := ⟨_, rfl⟩
  rw [hpi] at HKI HRA i0 i1 ⊢
  have hS0 := HRA.out _ (Below.refl _ _)
  have HRR := Lib.hid hR
  clear hm hr hf hx HAR hlen hzs hk hpi hi hR ht h1 h2
  go_enter Try.func36, Try.ntmps36
  go_wp2_with fail
  clear hS0
  go_region_held_law (fun w' => rdA w' M b off i (.slice (some ⟨b, off, none⟩) n cap) x)
    (first | with_reducible exact HRA.out _ HD.out | with_reducible exact HRA.out _ HDa.out | with_reducible exact HRA.out _ HBK.out | with_reducible exact HRA.out _ HBZ.out | with_reducible exact HRA.out _ HBX.out | with_reducible exact HRA.out _ HBN.out)
    (first
      | (go_at_call 55; (with_reducible refine (HKI.out _ HD.out).mono ?_); rintro e wk ⟨rfl, hg, hb⟩; have HBK := Lib.hid (HD.out.trans (hb.mono HD.out.size)); have HBZ := Lib.hid (HBK.out.alloc HBK.out.size (.cells #[.int .i64 0, .int .u64 0, .int .u64 0, .int .u64 0, .int .u64 0, .int .i64 0, .int .i64 0] 71)); have HBX := Lib.hid (HBK.out.alloc HBK.out.size (.cells #[.int .i64 x.k, .int .u64 x.a, .int .u64 x.b, .int .u64 x.c, .int .u64 x.d, .int .i64 x.lo, .int .i64 x.hi] 71)); have HKB : Hid (wk.heap[w.heap.size]? = some (.cells #[.int .i64 (q : Int), .int .i64 (p : Int)] 3 (0, 0))) := Lib.hid hg; have HSG : Hid (w.heap.size ≤ wk.heap.size) := Lib.hid HBK.out.size; clear hg; clear hb)
      | (go_at_call 55; (with_reducible refine (HKI.out _ HDa.out).mono ?_); rintro e wk ⟨rfl, hg, hb⟩; have HBK := Lib.hid (HDa.out.trans (hb.mono HDa.out.size)); have HBN := Lib.hid (below_nd9 HBK.out (Nat.le_refl _) (.int .i64 x.k) (.int .u64 x.a) (.int .u64 x.b) (.int .u64 x.c) (.int .u64 x.d) (.int .i64 x.lo) (.int .i64 x.hi)); have HKB : Hid (wk.heap[w.heap.size + 1]? = some (.cells #[.int .i64 (q : Int), .int .i64 (p : Int)] 3 (0, 0))) := Lib.hid (HZS.out ▸ hg); clear hg; have HNK : Hid (isNd9 wk w.heap.size ⟨0, 0, 0, 0, 0, 0, 0⟩) := Lib.hid ((hb.block _ HNa.out.lt).trans HNa.out); obtain ⟨s0, s1, s2, s3, s4, s5, s6⟩ := HNK.out.cells; obtain ⟨f0, f1, f2, f3, f4, f5, f6⟩ := HNK.out.free; have sl := HNK.out.lt; clear hb))
  · obtain ⟨W, hW⟩ : ∃ W, wk.alloc (.cells #[.int .i64 x.k, .int .u64 x.a, .int .u64 x.b, .int .u64 x.c, .int .u64 x.d, .int .i64 x.lo, .int .i64 x.hi] 71) = W := ⟨_, rfl⟩
    have HNW : Hid (isNd9 W wk.heap.size x) := Lib.hid (hW ▸ isNd9.new wk x)
    have HBW : Hid (Below w.heap.size w W) := Lib.hid (hW ▸ HBX.out)
    have HKW : Hid (W.heap[w.heap.size]? = some (.cells #[.int .i64 (q : Int), .int .i64 (p : Int)] 3 (0, 0))) := Lib.hid (hW ▸ (Below.heap_alloc wk (.cells #[.int .i64 x.k, .int .u64 x.a, .int .u64 x.b, .int .u64 x.c, .int .u64 x.d, .int .i64 x.lo, .int .i64 x.hi] 71) _ (lt_of_block HKB.out)).trans HKB.out)
    rw [hW]
    generalize wk.heap.size = s at *
    clear hW HBX HBZ HBK HRA HD HDa HKI HNa
    obtain ⟨s0, s1, s2, s3, s4, s5, s6⟩ := HNW.out.cells
    have sl := HNW.out.lt
    have HM1 := Lib.hid (HMW.out.below HBW.out)
    have HK1 := Lib.hid (kpM.of_below (Nat.le_of_lt HML.out) HBW.out)
    have HMs : Hid (M < s) := Lib.hid (by have := HML.out; have := HSG.out; omega)
    obtain ⟨kb, hkb⟩ : ∃ kb, w.heap.size = kb := ⟨_, rfl⟩
    rw [hkb] at HKW ⊢
    have hkM : M < kb := by have := HML.out; omega
    have HKM := Lib.hid hkM
    have HSX : Hid (∀ w', kpM M W w' → (w'.cell? ⟨kb, 0, none⟩ = some (.int .i64 (q : Int)) ∧ w'.cell? ⟨kb, 1, none⟩ = some (.int .i64 (p : Int)))) := Lib.hid fun w' h => by
      have k1 := h.ints HKW.out HKM.out
      have k2 := (show isNd9 w' s x from h.2 s _ _ _ HNW.out (by decide) (by have := HMs.out; omega)).cells
      obtain ⟨t0, t1, t2, t3, t4, t5, t6⟩ := k2
      exact ⟨by simp [World.cell?, k1], by simp [World.cell?, k1]⟩
    have HKD : Hid (kpM M W W.drew) := Lib.hid (kpM.of_below (Nat.le_of_lt HM1.out.lt) (Below.refl _ _).drew)
    have hs1 := HSX.out _ (kpM.refl _ _)
    have hkl := lt_of_block HKW.out
    have HC := Lib.hid (or9 N n b off cap q p HP1 HP2 M L W.drew hbM HLEN.out HM1.out.drew (HRW.out.below (HBW.out.drew)))
    clear hkb HBW HMW hs1
    go_wp2_with fail
    go_region_held_law (fun w' => w'.cell? ⟨kb, 0, none⟩ = some (.int .i64 (q : Int)) ∧ w'.cell? ⟨kb, 1, none⟩ = some (.int .i64 (p : Int)))
      (first | with_reducible exact HSX.out _ HKD.out | with_reducible exact HSX.out _ HK5.out)
      (first | (go_at_call 57; (with_reducible refine HC.out.mono ?_); rintro e w5 ⟨rfl, hm5, hk5⟩; have HM5 := Lib.hid hm5; have HK5 := Lib.hid (HKD.out.trans hk5); clear hm5 hk5))
    all_goals
      have HF := Lib.hid (HK1.out.trans HK5.out)
      go_wp2_with fail
      go_returns
      rw [← HRR.out]
      exact ⟨rfl, HM5.out, HF.out⟩
  · obtain ⟨W, hW⟩ : ∃ W, (((((((wk.setCell ⟨w.heap.size, 0, none⟩ (.int .i64 x.k)).setCell ⟨w.heap.size, 1, none⟩ (.int .u64 x.a)).setCell ⟨w.heap.size, 2, none⟩ (.int .u64 x.b)).setCell ⟨w.heap.size, 3, none⟩ (.int .u64 x.c)).setCell ⟨w.heap.size, 4, none⟩ (.int .u64 x.d)).setCell ⟨w.heap.size, 5, none⟩ (.int .i64 x.lo)).setCell ⟨w.heap.size, 6, none⟩ (.int .i64 x.hi)) = W := ⟨_, rfl⟩
    have HNW : Hid (isNd9 W w.heap.size x) := Lib.hid (hW ▸ HNK.out.stored x)
    have HBW : Hid (Below w.heap.size w W) := Lib.hid (hW ▸ HBN.out)
    have HKW : Hid (W.heap[w.heap.size + 1]? = some (.cells #[.int .i64 (q : Int), .int .i64 (p : Int)] 3 (0, 0))) := Lib.hid (hW ▸ (st7_grown wk w.heap.size 0 1 2 3 4 5 6 _ _ _ _ _ _ _).block _ (lt_of_block HKB.out) (by simp) |>.trans HKB.out)
    rw [hW]
    obtain ⟨s, hs⟩ : ∃ s, w.heap.size = s := ⟨_, rfl⟩
    rw [hs] at HNW ⊢
    rw [hs] at HKW
    have HMs : Hid (M < s) := Lib.hid (by have := HML.out; omega)
    clear hW hs HBN HBK HRA HD HDa HKI HNa HNK s0 s1 s2 s3 s4 s5 s6 f0 f1 f2 f3 f4 f5 f6 sl
    obtain ⟨s0, s1, s2, s3, s4, s5, s6⟩ := HNW.out.cells
    have sl := HNW.out.lt
    have HM1 := Lib.hid (HMW.out.below HBW.out)
    have HK1 := Lib.hid (kpM.of_below (Nat.le_of_lt HML.out) HBW.out)
    obtain ⟨kb, hkb⟩ : ∃ kb, s + 1 = kb := ⟨_, rfl⟩
    rw [hkb] at HKW ⊢
    have hkM : M < kb := by have := HMs.out; omega
    have HKM := Lib.hid hkM
    have HSX : Hid (∀ w', kpM M W w' → (w'.cell? ⟨kb, 0, none⟩ = some (.int .i64 (q : Int)) ∧ w'.cell? ⟨kb, 1, none⟩ = some (.int .i64 (p : Int)))) := Lib.hid fun w' h => by
      have k1 := h.ints HKW.out HKM.out
      have k2 := (show isNd9 w' s x from h.2 s _ _ _ HNW.out (by decide) (by have := HMs.out; omega)).cells
      obtain ⟨t0, t1, t2, t3, t4, t5, t6⟩ := k2
      exact ⟨by simp [World.cell?, k1], by simp [World.cell?, k1]⟩
    have HKD : Hid (kpM M W W.drew) := Lib.hid (kpM.of_below (Nat.le_of_lt HM1.out.lt) (Below.refl _ _).drew)
    have hs1 := HSX.out _ (kpM.refl _ _)
    have hkl := lt_of_block HKW.out
    have HC := Lib.hid (or9 N n b off cap q p HP1 HP2 M L W.drew hbM HLEN.out HM1.out.drew (HRW.out.below (HBW.out.drew)))
    clear hkb HBW HMW hs1
    go_wp2_with fail
    go_region_held_law (fun w' => w'.cell? ⟨kb, 0, none⟩ = some (.int .i64 (q : Int)) ∧ w'.cell? ⟨kb, 1, none⟩ = some (.int .i64 (p : Int)))
      (first | with_reducible exact HSX.out _ HKD.out | with_reducible exact HSX.out _ HK5.out)
      (first | (go_at_call 57; (with_reducible refine HC.out.mono ?_); rintro e w5 ⟨rfl, hm5, hk5⟩; have HM5 := Lib.hid hm5; have HK5 := Lib.hid (HKD.out.trans hk5); clear hm5 hk5))
    all_goals
      have HF := Lib.hid (HK1.out.trans HK5.out)
      go_wp2_with fail
      go_returns
      rw [← HRR.out]
      exact ⟨rfl, HM5.out, HF.out⟩

theorem part_any (b off n cap : Nat) (N : Nat → Nd) (ht : tree N n) : ∀ u j, j < u → j < n → PrtC N n b off cap j := by
  intro u
  induction u with
  | zero => intro j h; omega
  | succ u ih =>
    intro j hju hj
    have hn := ht.1
    have hok := ((tree_iff.1 ht).2.2.1 j hj)
    obtain ⟨f, hf, hc⟩ := nd_is ht hj
    cases hc with
    | leaf _ hk _ => exact part_leaf N n b off cap j hn hj hok.1 hok.2 hk
    | @one p _ hi hk h1 h2 _ => exact part_rep N n b off cap p hn hi hok.1 hok.2 hk (ih p (by omega) (by omega))
    | @two p q _ hi hk h1 h2 h3 h4 _ =>
      rcases hk with hk | hk
      · exact part_cat N n b off cap p q hn ht hi hok.1 hk h1 h2 (ih q (by omega) (by omega)) (ih p (by omega) (by omega))
      · exact part_or N n b off cap p q hn ht hi hok.1 hk h1 h2 (ih q (by omega) (by omega)) (ih p (by omega) (by omega))
end Go.Proofs.Ytepegohopgnmnaa
