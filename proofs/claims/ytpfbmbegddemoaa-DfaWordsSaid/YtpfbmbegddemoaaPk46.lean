/-
  The walks of the eleventh reference's Word and Run.
-/
import Derived.Test.YtpfbmbegddemoaaPk25
import Derived.Test.YtpfbmbegddemoaaPk34
import Derived.Test.YtpfbmbegddemoaaPk19
namespace Go.Proofs.Ytpfbmbegddemoaa
open Go.RowKit

/-- Numbers that are read, as a list. -/
def rdW (w : World) (v : Value) (l : List Nat) : Prop := ∃ p c, v = .slice p l.length c ∧ rdL w p l.length (fun j => (l.getD j 0 : Nat))
theorem spO.rdW {w : World} {base : Nat} {v : Value} {l : List Nat} (h : spO w base v l) : rdW w v l := by
  rcases id h.2 with ⟨rfl, h0⟩ | ⟨g, cap, cur, rfl, _⟩
  · refine ⟨none, 0, by rw [h0], fun j hj => by omega⟩
  · exact ⟨_, cap, rfl, spO.rd11 h⟩
theorem bytes_range (tx : Nat → Nat) (i k : Nat) (pre : List Nat) : pre ++ (List.range (k + 1)).map (fun q => tx (i + q)) = (pre ++ (List.range k).map (fun q => tx (i + q))) ++ [tx (i + k)] := by
  rw [List.range_succ, List.map_append, List.append_assoc]; rfl
theorem wrY_lt {n : Nat} {tx : Nat → Nat} (ht : ∀ k, tx k < 256) {i j : Nat} : ∀ y, y ∈ wrY n tx i j → y < 259 := by
  intro y hy
  unfold wrY at hy
  split at hy
  · simp at hy; omega
  · simp only [List.mem_append, List.mem_map, List.mem_range] at hy
    rcases hy with (h | ⟨q, _, rfl⟩) | h
    · split at h
      · simp at h; omega
      · cases h
    · have := ht (i + q); omega
    · split at h
      · simp at h; omega
      · cases h
theorem wrY_len {n : Nat} {tx : Nat → Nat} {i j : Nat} (hj : j ≤ n) : (wrY n tx i j).length ≤ n + 2 := by
  unfold wrY
  split
  · simp
  · simp only [List.length_append, List.length_map, List.length_range]
    split <;> split <;> simp <;> omega

set_option maxRecDepth 100000 in
set_option maxHeartbeats 8000000 in
theorem word11 (s : ByteArray) (n : Nat) (hs : s.size = n) (hn : n ≤ 1000) (i j : Nat) (hij : i ≤ j) (hj : j ≤ n) (w : World) :
    Calls Try.prog 21 #[.string s, .int .i64 (i : Int), .int .i64 (j : Int)] w fun e w' => ∃ v, e = .returned v ∧ rdW w' v (wrY n (tx7 s) i j) ∧ Below w.heap.size w w' := by
  subst hs
  obtain ⟨B, hB⟩ : ∃ B, w.heap.size = B := ⟨_, rfl⟩
  have HG := Lib.hid hB
  by_cases hn0 : s.size = 0
  · have d0 : ((s.size : Int) == 0) = true := by simp [hn0]
    have HW0 : Hid (rdW (w.alloc (.cells #[.int .i64 258] 3)) (.slice (some ⟨w.heap.size, 0, none⟩) 1 1) (wrY s.size (tx7 s) i j)) := Lib.hid (by
      have e : wrY s.size (tx7 s) i j = [258] := by unfold wrY; rw [if_pos hn0]
      rw [e]
      exact ⟨_, 1, rfl, fun q hq => by
        obtain rfl : q = 0 := by simp at hq; omega
        exact ⟨_, _, rfl, by simp, by simp⟩⟩)
    have HB1 : Hid (Below w.heap.size w (w.alloc (.cells #[.int .i64 258] 3))) := Lib.hid ((Below.refl _ _).alloc (Nat.le_refl _) _)
    clear hn0 hB
    go_enter Try.func21, Try.ntmps21
    go_wp2_with fail
    go_returns
    exact ⟨_, rfl, HW0.out, HB1.out⟩
  · have d0 : ((s.size : Int) == 0) = false := beq_eq_false_iff_ne.2 (by omega)
    by_cases hi0 : i = 0
    · have di : ((i : Int) == 0) = true := by simp [hi0]
      have HI0 := Lib.hid hi0
      clear hi0
      have HAL : Hid (Below w.heap.size w (w.alloc (.cells #[.int .i64 256] 3))) := Lib.hid ((Below.refl _ _).alloc (Nat.le_refl _) _)
      have HN0 : Hid (spO (w.alloc (.cells #[.int .i64 256] 3)) B (.slice none 0 0) []) := Lib.hid ⟨rfl, .inl ⟨rfl, rfl⟩⟩
      go_enter Try.func21, Try.ntmps21
      go_wp2_with (at_builtin; refine append_nx11 rfl _ _ rfl B (.slice none 0 0) [] rfl HN0.out B 256 rfl (by have h := heap_alloc_new w (.cells #[.int .i64 256] 3); rw [HG.out] at h; simp [World.cell?, h]) (by decide) (by simp; omega) ?_)
      intro v1 w1 hn1 hg1
      have HP : Hid (spO w1 B v1 ([256] ++ [])) := Lib.hid hn1
      have HB0 : Hid (Below B w w1) := Lib.hid ((hB ▸ HAL.out).grown hg1 (by simp; omega) (fun r hr => (HN0.out.lt r hr).1))
      clear hn1 hg1 HN0 HAL hB
      go_wp2_with fail
      go_loopw [7, 8] (fun av kv wr => ∃ (k : Nat) (vn : Value), i ≤ k ∧ k ≤ j ∧ kv = .int .i64 k ∧ vn = av ∧ Hid (spO wr B vn ([256] ++ (List.range (k - i)).map fun q => tx7 s (i + q))) ∧ Hid (Below B w wr)) (fun _ kv _ => j - (intOf kv).toNat)
      case atStart => exact ⟨i, _, Nat.le_refl _, hij, rfl, rfl, Lib.hid (by rw [Nat.sub_self]; exact HP.out), HB0⟩
      case round =>
        clear HP HB0
        obtain ⟨k, vn, hik, hkj, rfl, rfl, HX, HB⟩ := hrel
        by_cases hlt : k < j
        · have HIx := Lib.hid (fun w => ix_str s k (by omega) (by omega) w)
          have hix := HIx.out
          have hc := tx7_lt s k
          have HNX : Hid (([256] ++ (List.range (k - i)).map fun q => tx7 s (i + q)) ++ [tx7 s k] = [256] ++ (List.range (k + 1 - i)).map fun q => tx7 s (i + q)) := Lib.hid (by
            rw [show k + 1 - i = (k - i) + 1 by omega, bytes_range, show i + (k - i) = k by omega])
          have hll : ([256] ++ (List.range (k - i)).map fun q => tx7 s (i + q)).length ≤ 1100 := by simp; omega
          generalize ([256] ++ (List.range (k - i)).map fun q => tx7 s (i + q)) = V at *
          generalize tx7 s k = y at *
          have hwc : IntKind.i64.wrap (y : Int) = (y : Int) := by rw [IntKind.wrap_i64]; omega
          have k0 : (0 : Int) ≤ (k : Int) := by omega
          have k1 : (k : Int) < (j : Int) := by omega
          have k2 : (k : Int) < (s.size : Int) := by omega
          have HAL : Hid (Below wr.heap.size wr (wr.alloc (.cells #[.int .i64 (y : Int)] 3))) := Lib.hid ((Below.refl _ _).alloc (Nat.le_refl _) _)
          have HXA : Hid (spO (wr.alloc (.cells #[.int .i64 (y : Int)] 3)) B vn V) := Lib.hid (owns_below HX.out HAL.out)
          have hBr : B ≤ wr.heap.size := by have := HB.out.size; have := HG.out; omega
          have HBA : Hid (Below B w (wr.alloc (.cells #[.int .i64 (y : Int)] 3))) := Lib.hid (HB.out.trans (HAL.out.mono hBr))
          clear HX HB HAL
          go_wp2_with (at_builtin; refine append_nx11 rfl _ _ rfl B vn V rfl HXA.out wr.heap.size y rfl (by simp) (by omega) (by simp; omega) ?_)
          intro v7 w7 hn7 hg7
          have HX7 : Hid (spO w7 B v7 ([256] ++ (List.range (k + 1 - i)).map fun q => tx7 s (i + q))) := Lib.hid (HNX.out ▸ hn7)
          have HB7 : Hid (Below B w w7) := Lib.hid (HBA.out.grown hg7 (by simp; omega) (fun r hr => (HXA.out.lt r hr).1))
          clear hn7 hg7 HXA HBA HNX
          go_wp2_with fail
          go_roundw
          case rel => exact ⟨k + 1, _, by omega, by omega, by go_num, rfl, HX7, HB7⟩
          case measure => simp [intOf]; omega
        · obtain rfl : k = j := by omega
          have hll : ([256] ++ (List.range (k - i)).map fun q => tx7 s (i + q)).length ≤ 1100 := by simp; omega
          by_cases hjn : k = s.size
          · have d2 : ((k : Int) == (s.size : Int)) = true := by simp [hjn]
            have HWY : Hid (wrY s.size (tx7 s) i k = ([256] ++ (List.range (k - i)).map fun q => tx7 s (i + q)) ++ [257]) := Lib.hid (by unfold wrY; rw [if_neg hn0, if_pos hjn, if_pos HI0.out])
            generalize ([256] ++ (List.range (k - i)).map fun q => tx7 s (i + q)) = V at *
            have HAL : Hid (Below wr.heap.size wr (wr.alloc (.cells #[.int .i64 257] 3))) := Lib.hid ((Below.refl _ _).alloc (Nat.le_refl _) _)
            have HXA : Hid (spO (wr.alloc (.cells #[.int .i64 257] 3)) B vn V) := Lib.hid (owns_below HX.out HAL.out)
            have hBr : B ≤ wr.heap.size := by have := HB.out.size; have := HG.out; omega
            have HBA : Hid (Below B w (wr.alloc (.cells #[.int .i64 257] 3))) := Lib.hid (HB.out.trans (HAL.out.mono hBr))
            clear HX HB HAL hjn
            go_wp2_with (at_builtin; refine append_nx11 rfl _ _ rfl B vn V rfl HXA.out wr.heap.size 257 rfl (by simp) (by omega) (by simp; omega) ?_)
            intro v7 w7 hn7 hg7
            have HX7 : Hid (rdW w7 v7 (wrY s.size (tx7 s) i k)) := Lib.hid (HWY.out.symm ▸ spO.rdW hn7)
            have HB7 : Hid (Below B w w7) := Lib.hid (HBA.out.grown hg7 (by simp; omega) (fun r hr => (HXA.out.lt r hr).1))
            clear hn7 hg7 HXA HBA HWY
            go_wp2_with fail
            go_returns
            exact ⟨_, rfl, HX7.out, HG.out.symm ▸ HB7.out⟩
          · have d2 : ((k : Int) == (s.size : Int)) = false := beq_eq_false_iff_ne.2 (by omega)
            have HWY : Hid (wrY s.size (tx7 s) i k = [256] ++ (List.range (k - i)).map fun q => tx7 s (i + q)) := Lib.hid (by unfold wrY; rw [if_neg hn0, if_neg hjn, if_pos HI0.out, List.append_nil])
            have HX7 : Hid (rdW wr vn (wrY s.size (tx7 s) i k)) := Lib.hid (HWY.out.symm ▸ spO.rdW HX.out)
            clear HX HWY hjn
            go_wp2_with fail
            go_returns
            exact ⟨_, rfl, HX7.out, HG.out.symm ▸ HB.out⟩
    · have di : ((i : Int) == 0) = false := beq_eq_false_iff_ne.2 (by omega)
      have HP : Hid (spO w B (.slice none 0 0) ([] ++ [])) := Lib.hid ⟨rfl, .inl ⟨rfl, rfl⟩⟩
      have HB0 : Hid (Below B w w) := Lib.hid (Below.refl _ _)
      clear hB
      go_enter Try.func21, Try.ntmps21
      go_wp2_with fail
      go_loopw [7, 8] (fun av kv wr => ∃ (k : Nat) (vn : Value), i ≤ k ∧ k ≤ j ∧ kv = .int .i64 k ∧ vn = av ∧ Hid (spO wr B vn ([] ++ (List.range (k - i)).map fun q => tx7 s (i + q))) ∧ Hid (Below B w wr)) (fun _ kv _ => j - (intOf kv).toNat)
      case atStart => exact ⟨i, _, Nat.le_refl _, hij, rfl, rfl, Lib.hid (by rw [Nat.sub_self]; exact HP.out), HB0⟩
      case round =>
        clear HP HB0
        obtain ⟨k, vn, hik, hkj, rfl, rfl, HX, HB⟩ := hrel
        by_cases hlt : k < j
        · have HIx := Lib.hid (fun w => ix_str s k (by omega) (by omega) w)
          have hix := HIx.out
          have hc := tx7_lt s k
          have HNX : Hid (([] ++ (List.range (k - i)).map fun q => tx7 s (i + q)) ++ [tx7 s k] = [] ++ (List.range (k + 1 - i)).map fun q => tx7 s (i + q)) := Lib.hid (by
            rw [show k + 1 - i = (k - i) + 1 by omega, bytes_range, show i + (k - i) = k by omega])
          have hll : ([] ++ (List.range (k - i)).map fun q => tx7 s (i + q)).length ≤ 1100 := by simp; omega
          generalize ([] ++ (List.range (k - i)).map fun q => tx7 s (i + q)) = V at *
          generalize tx7 s k = y at *
          have hwc : IntKind.i64.wrap (y : Int) = (y : Int) := by rw [IntKind.wrap_i64]; omega
          have k0 : (0 : Int) ≤ (k : Int) := by omega
          have k1 : (k : Int) < (j : Int) := by omega
          have k2 : (k : Int) < (s.size : Int) := by omega
          have HAL : Hid (Below wr.heap.size wr (wr.alloc (.cells #[.int .i64 (y : Int)] 3))) := Lib.hid ((Below.refl _ _).alloc (Nat.le_refl _) _)
          have HXA : Hid (spO (wr.alloc (.cells #[.int .i64 (y : Int)] 3)) B vn V) := Lib.hid (owns_below HX.out HAL.out)
          have hBr : B ≤ wr.heap.size := by have := HB.out.size; have := HG.out; omega
          have HBA : Hid (Below B w (wr.alloc (.cells #[.int .i64 (y : Int)] 3))) := Lib.hid (HB.out.trans (HAL.out.mono hBr))
          clear HX HB HAL
          go_wp2_with (at_builtin; refine append_nx11 rfl _ _ rfl B vn V rfl HXA.out wr.heap.size y rfl (by simp) (by omega) (by simp; omega) ?_)
          intro v7 w7 hn7 hg7
          have HX7 : Hid (spO w7 B v7 ([] ++ (List.range (k + 1 - i)).map fun q => tx7 s (i + q))) := Lib.hid (HNX.out ▸ hn7)
          have HB7 : Hid (Below B w w7) := Lib.hid (HBA.out.grown hg7 (by simp; omega) (fun r hr => (HXA.out.lt r hr).1))
          clear hn7 hg7 HXA HBA HNX
          go_wp2_with fail
          go_roundw
          case rel => exact ⟨k + 1, _, by omega, by omega, by go_num, rfl, HX7, HB7⟩
          case measure => simp [intOf]; omega
        · obtain rfl : k = j := by omega
          have hll : ([] ++ (List.range (k - i)).map fun q => tx7 s (i + q)).length ≤ 1100 := by simp; omega
          by_cases hjn : k = s.size
          · have d2 : ((k : Int) == (s.size : Int)) = true := by simp [hjn]
            have HWY : Hid (wrY s.size (tx7 s) i k = ([] ++ (List.range (k - i)).map fun q => tx7 s (i + q)) ++ [257]) := Lib.hid (by unfold wrY; rw [if_neg hn0, if_pos hjn, if_neg hi0])
            generalize ([] ++ (List.range (k - i)).map fun q => tx7 s (i + q)) = V at *
            have HAL : Hid (Below wr.heap.size wr (wr.alloc (.cells #[.int .i64 257] 3))) := Lib.hid ((Below.refl _ _).alloc (Nat.le_refl _) _)
            have HXA : Hid (spO (wr.alloc (.cells #[.int .i64 257] 3)) B vn V) := Lib.hid (owns_below HX.out HAL.out)
            have hBr : B ≤ wr.heap.size := by have := HB.out.size; have := HG.out; omega
            have HBA : Hid (Below B w (wr.alloc (.cells #[.int .i64 257] 3))) := Lib.hid (HB.out.trans (HAL.out.mono hBr))
            clear HX HB HAL hjn
            go_wp2_with (at_builtin; refine append_nx11 rfl _ _ rfl B vn V rfl HXA.out wr.heap.size 257 rfl (by simp) (by omega) (by simp; omega) ?_)
            intro v7 w7 hn7 hg7
            have HX7 : Hid (rdW w7 v7 (wrY s.size (tx7 s) i k)) := Lib.hid (HWY.out.symm ▸ spO.rdW hn7)
            have HB7 : Hid (Below B w w7) := Lib.hid (HBA.out.grown hg7 (by simp; omega) (fun r hr => (HXA.out.lt r hr).1))
            clear hn7 hg7 HXA HBA HWY
            go_wp2_with fail
            go_returns
            exact ⟨_, rfl, HX7.out, HG.out.symm ▸ HB7.out⟩
          · have d2 : ((k : Int) == (s.size : Int)) = false := beq_eq_false_iff_ne.2 (by omega)
            have HWY : Hid (wrY s.size (tx7 s) i k = [] ++ (List.range (k - i)).map fun q => tx7 s (i + q)) := Lib.hid (by unfold wrY; rw [if_neg hn0, if_neg hjn, if_neg hi0, List.append_nil])
            have HX7 : Hid (rdW wr vn (wrY s.size (tx7 s) i k)) := Lib.hid (HWY.out.symm ▸ spO.rdW HX.out)
            clear HX HWY hjn
            go_wp2_with fail
            go_returns
            exact ⟨_, rfl, HX7.out, HG.out.symm ▸ HB.out⟩

/-- What a word leads to is a state, all along. -/
def okRun (S : Nat → Sd) (m : Nat) (F : Ms) (n s : Nat) (l : List Nat) : Prop := ∀ k, k ≤ l.length → rnY S m F s (l.take k) < n
theorem rnY_step {S : Nat → Sd} {m : Nat} {F : Ms} {s k y : Nat} {l : List Nat} (h : l[k]? = some y) : rnY S m F s (l.take (k + 1)) = nxY S m F (rnY S m F s (l.take k)) y := by
  unfold rnY
  rw [List.take_add_one, h]
  simp [List.foldl_append]

end Go.Proofs.Ytpfbmbegddemoaa
