/-
  The walks of the eleventh reference's Word and Run.
-/
import Derived.Test.YtepegohopgnmnaaPk17
import Derived.Test.YtepegohopgnmnaaPk15
import Derived.Test.YtepegohopgnmnaaPk13
namespace Go.Proofs.Ytepegohopgnmnaa
open Go.RowKit

/-- Numbers that are read, as a list. -/
def rdW (w : World) (v : Value) (l : List Nat) : Prop := ∃ p c, v = .slice p l.length c ∧ rdL w p l.length (fun j => (l.getD j 0 : Nat))
theorem spO.rdW {w : World} {base : Nat} {v : Value} {l : List Nat} (h : spO w base v l) : rdW w v l := by
  rcases id h.2 with ⟨rfl, h0⟩ | ⟨g, cap, cur, rfl, _⟩
  · refine ⟨none, 0, by rw [h0], fun j hj => by omega⟩
  · exact ⟨_, cap, rfl, spO.rd11 h⟩
theorem bytes_range (tx : Nat → Nat) (i k : Nat) (pre : List Nat) : pre ++ (List.range (k + 1)).map (fun q => tx (i + q)) = (pre ++ (List.range k).map (fun q => tx (i + q))) ++ [tx (i + k)] := by
  rw [List.range_succ, List.map_append, List.append_assoc]; rfl
theorem wrY_lt {n : Nat} {tx : Nat → Nat} (ht : ∀ k, tx k < 256) {i j : Nat} : ∀ y, y ∈ wrY n tx i j → y < 259 := by
  intro y hy
  unfold wrY at hy
  split at hy
  · simp at hy; omega
  · simp only [List.mem_append, List.mem_map, List.mem_range] at hy
    rcases hy with (h | ⟨q, _, rfl⟩) | h
    · split at h
      · simp at h; omega
      · cases h
    · have := ht (i + q); omega
    · split at h
      · simp at h; omega
      · cases h
theorem wrY_len {n : Nat} {tx : Nat → Nat} {i j : Nat} (hj : j ≤ n) : (wrY n tx i j).length ≤ n + 2 := by
  unfold wrY
  split
  · simp
  · simp only [List.length_append, List.length_map, List.length_range]
    split <;> split <;> simp <;> omega

set_option maxRecDepth 100000 in
set_option maxHeartbeats 8000000 in
theorem word11 (s : ByteArray) (n : Nat) (hs : s.size = n) (hn : n ≤ 1000) (i j : Nat) (hij : i ≤ j) (hj : j ≤ n) (w : World) :
    Calls Try.prog 18 #[.string s, .int .i64 (i : Int), .int .i64 (j : Int)] w fun e w' => ∃ v, e = .returned v ∧ rdW w' v (wrY n (tx7 s) i j) ∧ Below w.heap.size w w' := by
  subst hs
  obtain ⟨B, hB⟩ : ∃ B, w.heap.size = B := ⟨_, rfl⟩
  have HG := Lib.hid hB
  by_cases hn0 : s.size = 0
  · have d0 : ((s.size : Int) == 0) = true := by simp [hn0]
    have HW0 : Hid (rdW (w.alloc (.cells #[.int .i64 258] 3)) (.slice (some ⟨w.heap.size, 0, none⟩) 1 1) (wrY s.size (tx7 s) i j)) := Lib.hid (by
      have e : wrY s.size (tx7 s) i j = [258] := by unfold wrY; rw [if_pos hn0]
      rw [e]
      exact ⟨_, 1, rfl, fun q hq => by
        obtain rfl : q = 0 := by simp at hq; omega
        exact ⟨_, _, rfl, by simp, by simp⟩⟩)
    have HB1 : Hid (Below w.heap.size w (w.alloc (.cells #[.int .i64 258] 3))) := Lib.hid ((Below.refl _ _).alloc (Nat.le_refl _) _)
    clear hn0 hB
    go_enter Try.func18, Try.ntmps18
    go_wp2_with fail
    go_returns
    exact ⟨_, rfl, HW0.out, HB1.out⟩
  · have d0 : ((s.size : Int) == 0) = false := beq_eq_false_iff_ne.2 (by omega)
    by_cases hi0 : i = 0
    · have di : ((i : Int) == 0) = true := by simp [hi0]
      have HI0 := Lib.hid hi0
      clear hi0
      have HAL : Hid (Below w.heap.size w (w.alloc (.cells #[.int .i64 256] 3))) := Lib.hid ((Below.refl _ _).alloc (Nat.le_refl _) _)
      have HN0 : Hid (spO (w.alloc (.cells #[.int .i64 256] 3)) B (.slice none 0 0) []) := Lib.hid ⟨rfl, .inl ⟨rfl, rfl⟩⟩
      go_enter Try.func18, Try.ntmps18
      go_wp2_with (at_builtin; refine append_nx11 rfl _ _ rfl B (.slice none 0 0) [] rfl HN0.out B 256 rfl (by have h := heap_alloc_new w (.cells #[.int .i64 256] 3); rw [HG.out] at h; simp [World.cell?, h]) (by decide) (by simp; omega) ?_)
      intro v1 w1 hn1 hg1
      have HP : Hid (spO w1 B v1 ([256] ++ [])) := Lib.hid hn1
      have HB0 : Hid (Below B w w1) := Lib.hid ((hB ▸ HAL.out).grown hg1 (by simp; omega) (fun r hr => (HN0.out.lt r hr).1))
      clear hn1 hg1 HN0 HAL hB
      go_wp2_with fail
      go_loopw [7, 8] (fun av kv wr => ∃ (k : Nat) (vn : Value), i ≤ k ∧ k ≤ j ∧ kv = .int .i64 k ∧ vn = av ∧ Hid (spO wr B vn ([256] ++ (List.range (k - i)).map fun q => tx7 s (i + q))) ∧ Hid (Below B w wr)) (fun _ kv _ => j - (intOf kv).toNat)
      case atStart => exact ⟨i, _, Nat.le_refl _, hij, rfl, rfl, Lib.hid (by rw [Nat.sub_self]; exact HP.out), HB0⟩
      case round =>
        clear HP HB0
        obtain ⟨k, vn, hik, hkj, rfl, rfl, HX, HB⟩ := hrel
        by_cases hlt : k < j
        · have HIx := Lib.hid (fun w => ix_str s k (by omega) (by omega) w)
          have hix := HIx.out
          have hc := tx7_lt s k
          have HNX : Hid (([256] ++ (List.range (k - i)).map fun q => tx7 s (i + q)) ++ [tx7 s k] = [256] ++ (List.range (k + 1 - i)).map fun q => tx7 s (i + q)) := Lib.hid (by
            rw [show k + 1 - i = (k - i) + 1 by omega, bytes_range, show i + (k - i) = k by omega])
          have hll : ([256] ++ (List.range (k - i)).map fun q => tx7 s (i + q)).length ≤ 1100 := by simp; omega
          generalize ([256] ++ (List.range (k - i)).map fun q => tx7 s (i + q)) = V at *
          generalize tx7 s k = y at *
          have hwc : IntKind.i64.wrap (y : Int) = (y : Int) := by rw [IntKind.wrap_i64]; omega
          have k0 : (0 : Int) ≤ (k : Int) := by omega
          have k1 : (k : Int) < (j : Int) := by omega
          have k2 : (k : Int) < (s.size : Int) := by omega
          have HAL : Hid (Below wr.heap.size wr (wr.alloc (.cells #[.int .i64 (y : Int)] 3))) := Lib.hid ((Below.refl _ _).alloc (Nat.le_refl _) _)
          have HXA : Hid (spO (wr.alloc (.cells #[.int .i64 (y : Int)] 3)) B vn V) := Lib.hid (owns_below HX.out HAL.out)
          have hBr : B ≤ wr.heap.size := by have := HB.out.size; have := HG.out; omega
          have HBA : Hid (Below B w (wr.alloc (.cells #[.int .i64 (y : Int)] 3))) := Lib.hid (HB.out.trans (HAL.out.mono hBr))
          clear HX HB HAL
          go_wp2_with (at_builtin; refine append_nx11 rfl _ _ rfl B vn V rfl HXA.out wr.heap.size y rfl (by simp) (by omega) (by simp; omega) ?_)
          intro v7 w7 hn7 hg7
          have HX7 : Hid (spO w7 B v7 ([256] ++ (List.range (k + 1 - i)).map fun q => tx7 s (i + q))) := Lib.hid (HNX.out ▸ hn7)
          have HB7 : Hid (Below B w w7) := Lib.hid (HBA.out.grown hg7 (by simp; omega) (fun r hr => (HXA.out.lt r hr).1))
          clear hn7 hg7 HXA HBA HNX
          go_wp2_with fail
          go_roundw
          case rel => exact ⟨k + 1, _, by omega, by omega, by go_num, rfl, HX7, HB7⟩
          case measure => simp [intOf]; omega
        · obtain rfl : k = j := by omega
          have hll : ([256] ++ (List.range (k - i)).map fun q => tx7 s (i + q)).length ≤ 1100 := by simp; omega
          by_cases hjn : k = s.size
          · have d2 : ((k : Int) == (s.size : Int)) = true := by simp [hjn]
            have HWY : Hid (wrY s.size (tx7 s) i k = ([256] ++ (List.range (k - i)).map fun q => tx7 s (i + q)) ++ [257]) := Lib.hid (by unfold wrY; rw [if_neg hn0, if_pos hjn, if_pos HI0.out])
            generalize ([256] ++ (List.range (k - i)).map fun q => tx7 s (i + q)) = V at *
            have HAL : Hid (Below wr.heap.size wr (wr.alloc (.cells #[.int .i64 257] 3))) := Lib.hid ((Below.refl _ _).alloc (Nat.le_refl _) _)
            have HXA : Hid (spO (wr.alloc (.cells #[.int .i64 257] 3)) B vn V) := Lib.hid (owns_below HX.out HAL.out)
            have hBr : B ≤ wr.heap.size := by have := HB.out.size; have := HG.out; omega
            have HBA : Hid (Below B w (wr.alloc (.cells #[.int .i64 257] 3))) := Lib.hid (HB.out.trans (HAL.out.mono hBr))
            clear HX HB HAL hjn
            go_wp2_with (at_builtin; refine append_nx11 rfl _ _ rfl B vn V rfl HXA.out wr.heap.size 257 rfl (by simp) (by omega) (by simp; omega) ?_)
            intro v7 w7 hn7 hg7
            have HX7 : Hid (rdW w7 v7 (wrY s.size (tx7 s) i k)) := Lib.hid (HWY.out.symm ▸ spO.rdW hn7)
            have HB7 : Hid (Below B w w7) := Lib.hid (HBA.out.grown hg7 (by simp; omega) (fun r hr => (HXA.out.lt r hr).1))
            clear hn7 hg7 HXA HBA HWY
            go_wp2_with fail
            go_returns
            exact ⟨_, rfl, HX7.out, HG.out.symm ▸ HB7.out⟩
          · have d2 : ((k : Int) == (s.size : Int)) = false := beq_eq_false_iff_ne.2 (by omega)
            have HWY : Hid (wrY s.size (tx7 s) i k = [256] ++ (List.range (k - i)).map fun q => tx7 s (i + q)) := Lib.hid (by unfold wrY; rw [if_neg hn0, if_neg hjn, if_pos HI0.out, List.append_nil])
            have HX7 : Hid (rdW wr vn (wrY s.size (tx7 s) i k)) := Lib.hid (HWY.out.symm ▸ spO.rdW HX.out)
            clear HX HWY hjn
            go_wp2_with fail
            go_returns
            exact ⟨_, rfl, HX7.out, HG.out.symm ▸ HB.out⟩
    · have di : ((i : Int) == 0) = false := beq_eq_false_iff_ne.2 (by omega)
      have HP : Hid (spO w B (.slice none 0 0) ([] ++ [])) := Lib.hid ⟨rfl, .inl ⟨rfl, rfl⟩⟩
      have HB0 : Hid (Below B w w) := Lib.hid (Below.refl _ _)
      clear hB
      go_enter Try.func18, Try.ntmps18
      go_wp2_with fail
      go_loopw [7, 8] (fun av kv wr => ∃ (k : Nat) (vn : Value), i ≤ k ∧ k ≤ j ∧ kv = .int .i64 k ∧ vn = av ∧ Hid (spO wr B vn ([] ++ (List.range (k - i)).map fun q => tx7 s (i + q))) ∧ Hid (Below B w wr)) (fun _ kv _ => j - (intOf kv).toNat)
      case atStart => exact ⟨i, _, Nat.le_refl _, hij, rfl, rfl, Lib.hid (by rw [Nat.sub_self]; exact HP.out), HB0⟩
      case round =>
        clear HP HB0
        obtain ⟨k, vn, hik, hkj, rfl, rfl, HX, HB⟩ := hrel
        by_cases hlt : k < j
        · have HIx := Lib.hid (fun w => ix_str s k (by omega) (by omega) w)
          have hix := HIx.out
          have hc := tx7_lt s k
          have HNX : Hid (([] ++ (List.range (k - i)).map fun q => tx7 s (i + q)) ++ [tx7 s k] = [] ++ (List.range (k + 1 - i)).map fun q => tx7 s (i + q)) := Lib.hid (by
            rw [show k + 1 - i = (k - i) + 1 by omega, bytes_range, show i + (k - i) = k by omega])
          have hll : ([] ++ (List.range (k - i)).map fun q => tx7 s (i + q)).length ≤ 1100 := by simp; omega
          generalize ([] ++ (List.range (k - i)).map fun q => tx7 s (i + q)) = V at *
          generalize tx7 s k = y at *
          have hwc : IntKind.i64.wrap (y : Int) = (y : Int) := by rw [IntKind.wrap_i64]; omega
          have k0 : (0 : Int) ≤ (k : Int) := by omega
          have k1 : (k : Int) < (j : Int) := by omega
          have k2 : (k : Int) < (s.size : Int) := by omega
          have HAL : Hid (Below wr.heap.size wr (wr.alloc (.cells #[.int .i64 (y : Int)] 3))) := Lib.hid ((Below.refl _ _).alloc (Nat.le_refl _) _)
          have HXA : Hid (spO (wr.alloc (.cells #[.int .i64 (y : Int)] 3)) B vn V) := Lib.hid (owns_below HX.out HAL.out)
          have hBr : B ≤ wr.heap.size := by have := HB.out.size; have := HG.out; omega
          have HBA : Hid (Below B w (wr.alloc (.cells #[.int .i64 (y : Int)] 3))) := Lib.hid (HB.out.trans (HAL.out.mono hBr))
          clear HX HB HAL
          go_wp2_with (at_builtin; refine append_nx11 rfl _ _ rfl B vn V rfl HXA.out wr.heap.size y rfl (by simp) (by omega) (by simp; omega) ?_)
          intro v7 w7 hn7 hg7
          have HX7 : Hid (spO w7 B v7 ([] ++ (List.range (k + 1 - i)).map fun q => tx7 s (i + q))) := Lib.hid (HNX.out ▸ hn7)
          have HB7 : Hid (Below B w w7) := Lib.hid (HBA.out.grown hg7 (by simp; omega) (fun r hr => (HXA.out.lt r hr).1))
          clear hn7 hg7 HXA HBA HNX
          go_wp2_with fail
          go_roundw
          case rel => exact ⟨k + 1, _, by omega, by omega, by go_num, rfl, HX7, HB7⟩
          case measure => simp [intOf]; omega
        · obtain rfl : k = j := by omega
          have hll : ([] ++ (List.range (k - i)).map fun q => tx7 s (i + q)).length ≤ 1100 := by simp; omega
          by_cases hjn : k = s.size
          · have d2 : ((k : Int) == (s.size : Int)) = true := by simp [hjn]
            have HWY : Hid (wrY s.size (tx7 s) i k = ([] ++ (List.range (k - i)).map fun q => tx7 s (i + q)) ++ [257]) := Lib.hid (by unfold wrY; rw [if_neg hn0, if_pos hjn, if_neg hi0])
            generalize ([] ++ (List.range (k - i)).map fun q => tx7 s (i + q)) = V at *
            have HAL : Hid (Below wr.heap.size wr (wr.alloc (.cells #[.int .i64 257] 3))) := Lib.hid ((Below.refl _ _).alloc (Nat.le_refl _) _)
            have HXA : Hid (spO (wr.alloc (.cells #[.int .i64 257] 3)) B vn V) := Lib.hid (owns_below HX.out HAL.out)
            have hBr : B ≤ wr.heap.size := by have := HB.out.size; have := HG.out; omega
            have HBA : Hid (Below B w (wr.alloc (.cells #[.int .i64 257] 3))) := Lib.hid (HB.out.trans (HAL.out.mono hBr))
            clear HX HB HAL hjn
            go_wp2_with (at_builtin; refine append_nx11 rfl _ _ rfl B vn V rfl HXA.out wr.heap.size 257 rfl (by simp) (by omega) (by simp; omega) ?_)
            intro v7 w7 hn7 hg7
            have HX7 : Hid (rdW w7 v7 (wrY s.size (tx7 s) i k)) := Lib.hid (HWY.out.symm ▸ spO.rdW hn7)
            have HB7 : Hid (Below B w w7) := Lib.hid (HBA.out.grown hg7 (by simp; omega) (fun r hr => (HXA.out.lt r hr).1))
            clear hn7 hg7 HXA HBA HWY
            go_wp2_with fail
            go_returns
            exact ⟨_, rfl, HX7.out, HG.out.symm ▸ HB7.out⟩
          · have d2 : ((k : Int) == (s.size : Int)) = false := beq_eq_false_iff_ne.2 (by omega)
            have HWY : Hid (wrY s.size (tx7 s) i k = [] ++ (List.range (k - i)).map fun q => tx7 s (i + q)) := Lib.hid (by unfold wrY; rw [if_neg hn0, if_neg hjn, if_neg hi0, List.append_nil])
            have HX7 : Hid (rdW wr vn (wrY s.size (tx7 s) i k)) := Lib.hid (HWY.out.symm ▸ spO.rdW HX.out)
            clear HX HWY hjn
            go_wp2_with fail
            go_returns
            exact ⟨_, rfl, HX7.out, HG.out.symm ▸ HB.out⟩

/-- What a word leads to is a state, all along. -/
def okRun (S : Nat → Sd) (m : Nat) (F : Ms) (n s : Nat) (l : List Nat) : Prop := ∀ k, k ≤ l.length → rnY S m F s (l.take k) < n
theorem rnY_step {S : Nat → Sd} {m : Nat} {F : Ms} {s k y : Nat} {l : List Nat} (h : l[k]? = some y) : rnY S m F s (l.take (k + 1)) = nxY S m F (rnY S m F s (l.take k)) y := by
  unfold rnY
  rw [List.take_add_one, h]
  simp [List.foldl_append]

set_option maxRecDepth 100000 in
set_option maxHeartbeats 8000000 in
theorem run11 (S : Nat → Sd) (m : Nat) (F : Ms) (q0 : Option Addr) (c0 : Nat) (st : Int) (q1 : Option Addr) (n1 c1 : Nat) (q2 : Option Addr) (n2 c2 : Nat) (l0 l1 : Nat → Int) (v : Value) (l : List Nat) (s : Nat) (hn2 : n2 ≤ 1000) (hn1 : n1 = n2 * wdY S m) (hl0 : ∀ j, j < 259 → l0 j = (clA (alk S m) j : Nat)) (hl1 : ∀ j, j < n1 → l1 j = (F.2.getD j 0 : Nat)) (hlen : l.length ≤ 1100) (hl : ∀ y, y ∈ l → y < 259) (hok : okRun S m F n2 s l) (w : World) (h0 : rdL w q0 259 l0) (h1 : rdL w q1 n1 l1) (hv : rdW w v l) :
    Calls Try.prog 17 #[dfV q0 259 c0 (wdY S m : Nat) st q1 n1 c1 q2 n2 c2, .int .i64 (s : Int), v] w fun e w' => e = .returned (.int .i64 (rnY S m F s l : Nat)) ∧ Below w.heap.size w w' := by
  obtain ⟨p, c, rfl, hp⟩ := hv
  obtain ⟨w1, hw1⟩ : ∃ w1, w.alloc (.cells #[.slice q0 259 c0, .int .i64 (wdY S m : Nat), .int .i64 st, .slice q1 n1 c1, .slice q2 n2 c2] 30) = w1 := ⟨_, rfl⟩
  have hbw : Below w.heap.size w w1 := hw1 ▸ (Below.refl _ _).alloc (Nat.le_refl _) _
  obtain ⟨D, hD⟩ : ∃ D, w.heap.size = D := ⟨_, rfl⟩
  have hk : w1.heap[D]? = some (.cells #[.slice q0 259 c0, .int .i64 (wdY S m : Nat), .int .i64 st, .slice q1 n1 c1, .slice q2 n2 c2] 30 (0, 0)) := hw1 ▸ hD ▸ heap_alloc_new w _
  have hz1 : w1.heap.size = D + 1 := by rw [← hw1, World.size_alloc, hD]
  have hwl : wdY S m ≤ 259 := cntT_le _ _
  have HCl := Lib.hid (fun y (hy : y < 259) => clA_lt (alk_eq S m) hy)
  have hn1b : n1 ≤ 1000000 := by rw [hn1]; have := Nat.mul_le_mul hn2 hwl; omega
  have HI : Hid (∀ s y, s < n2 → y < 259 → s * wdY S m + clA (alk S m) y < n1) := Lib.hid fun s y hs hy => by
    have h3 := HCl.out y hy
    have h4 : (s + 1) * wdY S m ≤ n2 * wdY S m := Nat.mul_le_mul_right _ hs
    rw [Nat.succ_mul] at h4
    change clA (alk S m) y < wdY S m at h3
    rw [hn1]; omega
  have HGo := Lib.hid (fun s y (hs : s < n2) (hy : y < 259) w' (h : Below w1.heap.size w1 w') => by
    have hb := hbw.trans (h.mono (by have := hbw.size; omega))
    have := go11 q0 c0 (wdY S m) st q1 n1 c1 q2 n2 c2 l0 l1 s y (clA (alk S m) y) (s * wdY S m) hy (hl0 y hy) rfl (HI.out s y hs hy) hn1b w' (h0.below hb) (h1.below hb)
    rw [hl1 _ (HI.out s y hs hy)] at this
    exact (show Calls Try.prog 38 #[dfV q0 259 c0 (wdY S m : Nat) st q1 n1 c1 q2 n2 c2, .int .i64 (s : Int), .int .i64 (y : Int)] w' fun e w'' => e = .returned (.int .i64 (nxY S m F s y : Nat)) ∧ Below w'.heap.size w' w'' from this))
  have HK : Hid (∀ w', Below w1.heap.size w1 w' → w'.cell? ⟨D, 0, none⟩ = some (.slice q0 259 c0) ∧ w'.cell? ⟨D, 1, none⟩ = some (.int .i64 (wdY S m : Nat)) ∧ w'.cell? ⟨D, 2, none⟩ = some (.int .i64 st) ∧ w'.cell? ⟨D, 3, none⟩ = some (.slice q1 n1 c1) ∧ w'.cell? ⟨D, 4, none⟩ = some (.slice q2 n2 c2)) := Lib.hid fun w' h => by
    have hb : w'.heap[D]? = _ := (h.block D (by omega)).trans hk
    refine ⟨?_, ?_, ?_, ?_, ?_⟩ <;> simp [World.cell?, hb]
  have HP := Lib.hid (hp.below hbw)
  have HW1 := Lib.hid hw1
  have HBW := Lib.hid hbw
  have HG := Lib.hid hD
  have HOKr := Lib.hid hok
  have HLy := Lib.hid hl
  obtain ⟨n, hn⟩ : ∃ n, l.length = n := ⟨_, rfl⟩
  have HNn := Lib.hid hn
  rw [hn] at HP ⊢
  have n0 : (0 : Int) ≤ (n : Int) := by omega
  have hn11 : n ≤ 1100 := by omega
  have HS0 : Hid (s = rnY S m F s (l.take 0)) := Lib.hid rfl
  generalize wdY S m = W at *
  clear hw1 hbw hk hz1 hwl hn1b hl0 hl1 h0 h1 hp hn1 hok hl hn HCl HI
  go_enter Try.func17, Try.ntmps17
  go_upto_region 1 with (fail)
  rw [HW1.out]
  go_wp2_with fail
  go_loopw [1, 7] (fun sv kv wr => ∃ k : Nat, k ≤ n ∧ kv = .int .i64 k ∧ sv = .int .i64 (rnY S m F s (l.take k) : Nat) ∧ Hid (Below w1.heap.size w1 wr)) (fun _ kv _ => n - (intOf kv).toNat)
  case atStart => exact ⟨0, Nat.zero_le _, rfl, by rw [← HS0.out], Lib.hid (Below.refl _ _)⟩
  case round =>
    obtain ⟨k, hk, rfl, rfl, HB⟩ := hrel
    by_cases hlt : k < n
    · have k0 : (0 : Int) ≤ (k : Int) := by omega
      have k1 : (k : Int) < (n : Int) := by omega
      have hkl : k < l.length := by have := HNn.out; omega
      obtain ⟨y, hy⟩ : ∃ y, l[k]? = some y := ⟨l[k], List.getElem?_eq_getElem hkl⟩
      have hy9 := HLy.out y (List.mem_of_getElem? hy)
      have HST := Lib.hid (rnY_step (S := S) (m := m) (F := F) (s := s) hy)
      have hs2 := HOKr.out k (by omega)
      obtain ⟨b, o, rfl, hb, hc⟩ := HP.out k hlt
      have hyk : l.getD k 0 = y := by rw [List.getD_eq_getElem?_getD, hy]; rfl
      simp only [hyk] at hc
      obtain ⟨s2, hs2e⟩ : ∃ s2, rnY S m F s (l.take k) = s2 := ⟨_, rfl⟩
      rw [hs2e] at HST hs2 ⊢
      have HCa := Lib.hid (HGo.out s2 y hs2 hy9)
      have hB := HB.out.drew
      have HKS : Hid (∀ w', Below w1.heap.size w1 w' → w'.cell? ⟨D, 0, none⟩ = some (.slice q0 259 c0) ∧ w'.cell? ⟨D, 1, none⟩ = some (.int .i64 (W : Int)) ∧ w'.cell? ⟨D, 2, none⟩ = some (.int .i64 st) ∧ w'.cell? ⟨D, 3, none⟩ = some (.slice q1 n1 c1) ∧ w'.cell? ⟨D, 4, none⟩ = some (.slice q2 n2 c2) ∧ w'.cell? ⟨b, o + k, none⟩ = some (.int .i64 (y : Int))) := Lib.hid fun w' h => by
        obtain ⟨a0, a1, a2, a3, a4⟩ := HK.out w' h
        exact ⟨a0, a1, a2, a3, a4, (h.cell (p := ⟨b, o + k, none⟩) hb).trans hc⟩
      clear hy hyk hc hb hs2e hs2
      go_wp2_with fail
      go_region_held_law (fun w' => w'.cell? ⟨D, 0, none⟩ = some (.slice q0 259 c0) ∧ w'.cell? ⟨D, 1, none⟩ = some (.int .i64 (W : Int)) ∧ w'.cell? ⟨D, 2, none⟩ = some (.int .i64 st) ∧ w'.cell? ⟨D, 3, none⟩ = some (.slice q1 n1 c1) ∧ w'.cell? ⟨D, 4, none⟩ = some (.slice q2 n2 c2) ∧ w'.cell? ⟨b, o + k, none⟩ = some (.int .i64 (y : Int)))
        (exact HKS.out _ hB)
        (first | (go_at_call 38; (with_reducible refine (HCa.out _ hB).mono ?_); rintro e wc ⟨rfl, hbc⟩; (replace hB := hB.trans (hbc.mono hB.size)); clear hbc))
      all_goals
        have HBn := Lib.hid hB
        clear hB
        go_wp2_with fail
        go_roundw
        case rel => exact ⟨k + 1, by omega, by go_num, by rw [HST.out], HBn⟩
        case measure => simp [intOf]; omega
    · obtain rfl : k = n := by omega
      have HE : Hid (rnY S m F s (l.take k) = rnY S m F s l) := Lib.hid (by rw [← HNn.out, List.take_length])
      have HBf : Hid (Below w.heap.size w wr) := Lib.hid (HBW.out.trans (HB.out.mono HBW.out.size))
      go_wp2_with fail
      go_returns
      exact ⟨by rw [HE.out] <;> rfl, HBf.out⟩
end Go.Proofs.Ytepegohopgnmnaa
