/-
  The walk of dfa.Word.
-/
import Derived.Test.YtpfbmbegddemoaaPk47
import Derived.Laws.IdiomStrings
namespace Go.Proofs.Ytpfbmbegddemoaa
open Go.RowKit

/-- A string's bytes in a new block. -/
theorem conv12 (e : ByteArray) (w : World) : ∃ w' c C fr, (convert 9 51 (.string e)).run Try.prog w = .ok (.slice (some ⟨w.heap.size, 0, none⟩) e.size c) w' ∧ Below w.heap.size w w' ∧ w'.heap[w.heap.size]? = some (.cells C 5 fr) ∧ ∀ q, q < e.size → C[q]? = some (.int .u8 (tx7 e q : Nat)) := by
  refine ⟨_, _, _, _, run_bytes_of_string (P := Try.prog) w 9 51 5 e Try.underlying9 Try.underlying51 Try.underlying5, (Below.refl _ _).drew.alloc (Nat.le_refl _) _, heap_alloc_new w.drew _, fun q hq => ?_⟩
  rw [bytesRow_at e _ q hq]
  unfold tx7
  rw [dif_pos hq]
  rfl
/-- A row of numbers grows beside a block of bytes. -/
theorem bytes_apart {w w' : World} {base g : Nat} {v : Value} {l : List Nat} {C : Array Value} {fr : Nat × Nat} (h : spO w base v l) (hg : w.heap[g]? = some (.cells C 5 fr)) (hgr : w.grownBy w' v.ownBlock) : w'.heap[g]? = some (.cells C 5 fr) := by
  rw [hgr.block g (lt_of_block hg) fun e => ?_]
  · exact hg
  · rcases id h.2 with ⟨rfl, _⟩ | ⟨k, cp, cur, rfl, hk, p1, _⟩
    · cases e
    · cases e
      rw [hg] at p1
      simp at p1
theorem tx7_ext (s : ByteArray) (i j q : Nat) (hj : j ≤ s.size) (hq : q < j - i) : tx7 (s.extract i j) q = tx7 s (i + q) := by
  have h1 : q < (s.extract i j).size := by rw [ByteArray.size_extract]; omega
  unfold tx7
  rw [dif_pos h1, dif_pos (by omega)]
  rw [ByteArray.getElem_extract]

set_option maxRecDepth 100000 in
set_option maxHeartbeats 16000000 in
theorem word12_no (s : ByteArray) (i j : Int) (hs : s.size ≤ 1000) (h : ¬ (0 ≤ i ∧ i ≤ j ∧ j ≤ (s.size : Int))) (w : World) : Calls Try.prog 17 #[.string s, .int .i64 i, .int .i64 j] w fun e w' => e = .returned (.tuple #[.slice none 0 0, .bool false]) ∧ Below w.heap.size w w' := by
  have s0 : (s.size : Int) ≤ 1000 := by omega
  cases h1 : decide (i < 0)
  case true =>
    go_enter Try.func17, Try.ntmps17
    go_wp2_with fail
    go_returns
    exact ⟨rfl, Below.refl _ _⟩
  cases h2 : decide (j < i)
  case true =>
    go_enter Try.func17, Try.ntmps17
    go_wp2_with fail
    go_returns
    exact ⟨rfl, Below.refl _ _⟩
  have h3 : decide ((s.size : Int) < j) = true := by
    rw [decide_eq_false_iff_not] at h1 h2
    exact decide_eq_true (by omega)
  clear h
  go_enter Try.func17, Try.ntmps17
  go_wp2_with fail
  go_returns
  exact ⟨rfl, Below.refl _ _⟩

set_option maxRecDepth 100000 in
set_option maxHeartbeats 16000000 in
theorem word12_is (s : ByteArray) (i j : Nat) (hs : s.size ≤ 1000) (hij : i ≤ j) (hj : j ≤ s.size) (w : World) : Calls Try.prog 17 #[.string s, .int .i64 (i : Int), .int .i64 (j : Int)] w fun e w' => ∃ v, e = .returned (.tuple #[v, .bool true]) ∧ rdW w' v (wrY s.size (tx7 s) i j) ∧ Below w.heap.size w w' := by
  have s0 : (s.size : Int) ≤ 1000 := by omega
  have h1 : decide ((i : Int) < 0) = false := decide_eq_false (by omega)
  have h2 : decide ((j : Int) < (i : Int)) = false := decide_eq_false (by omega)
  have h2n : decide (j < i) = false := decide_eq_false (by omega)
  have h3 : decide ((s.size : Int) < (j : Int)) = false := decide_eq_false (by omega)
  have h3n : decide (s.size < j) = false := decide_eq_false (by omega)
  obtain ⟨B, hB⟩ : ∃ B, w.heap.size = B := ⟨_, rfl⟩
  have HG := Lib.hid hB
  by_cases hn0 : s.size = 0
  · have hse : s = ⟨#[]⟩ := by
      apply ByteArray.ext
      exact Array.eq_empty_of_size_eq_zero hn0
    have HW0 : Hid (rdW (w.alloc (.cells #[.int .i64 258] 3)) (.slice (some ⟨w.heap.size, 0, none⟩) 1 1) (wrY s.size (tx7 s) i j)) := Lib.hid (by
      have e : wrY s.size (tx7 s) i j = [258] := by unfold wrY; rw [if_pos hn0]
      rw [e]
      exact ⟨_, 1, rfl, fun q hq => by
        obtain rfl : q = 0 := by simp at hq; omega
        exact ⟨_, _, rfl, by simp, by simp⟩⟩)
    have HB1 : Hid (Below w.heap.size w (w.alloc (.cells #[.int .i64 258] 3))) := Lib.hid ((Below.refl _ _).alloc (Nat.le_refl _) _)
    have hji : j = 0 := by omega
    have hii : i = 0 := by omega
    subst hji; subst hii
    subst hse
    clear hn0 hB hij
    go_enter Try.func17, Try.ntmps17
    go_wp2_with fail
    go_returns
    exact ⟨_, rfl, HW0.out, HB1.out⟩
  · have d0 : s.toList.isEmpty = false := by
      rw [← decide_eq_emptyBytes]
      exact decide_eq_false (fun h => hn0 (by rw [h]; rfl))
    by_cases hi0 : i = 0
    · have di : ((i : Int) == 0) = true := by simp [hi0]
      have HI0 := Lib.hid hi0
      clear hi0
      have HAL : Hid (Below w.heap.size w (w.alloc (.cells #[.int .i64 256] 3))) := Lib.hid ((Below.refl _ _).alloc (Nat.le_refl _) _)
      have HN0 : Hid (spO (w.alloc (.cells #[.int .i64 256] 3)) B (.slice none 0 0) []) := Lib.hid ⟨rfl, .inl ⟨rfl, rfl⟩⟩
      go_enter Try.func17, Try.ntmps17
      go_wp2_with (at_builtin; refine append_nx11 rfl _ _ rfl B (.slice none 0 0) [] rfl HN0.out B 256 rfl (by have h := heap_alloc_new w (.cells #[.int .i64 256] 3); rw [HG.out] at h; simp [World.cell?, h]) (by decide) (by simp; omega) ?_)
      intro v1 w1 hn1 hg1
      have HP : Hid (spO w1 B v1 ([256] ++ [])) := Lib.hid hn1
      have HB0 : Hid (Below B w w1) := Lib.hid ((hB ▸ HAL.out).grown hg1 (by simp; omega) (fun r hr => (HN0.out.lt r hr).1))
      clear hn1 hg1 HN0 HAL hB
      obtain ⟨wc, cc, C, fr, hcv, hbc, hgb, hcl⟩ := conv12 (s.extract i j) w1
      have hsz : (s.extract i j).size = j - i := by rw [ByteArray.size_extract]; omega
      rw [hsz] at hcv hcl
      have HCV := Lib.hid hcv
      have HCL := Lib.hid (fun q (hq : q < j - i) => (hcl q hq).trans (by rw [tx7_ext s i j q hj hq]))
      obtain ⟨g, hg⟩ : ∃ g, w1.heap.size = g := ⟨_, rfl⟩
      rw [hg] at hgb
      have HBC : Hid (Below B w wc) := Lib.hid (HB0.out.trans (hbc.mono (by have := HB0.out.size; have := HG.out; omega)))
      have HPc := Lib.hid (owns_below HP.out hbc)
      have HGB := Lib.hid hgb
      have HGG := Lib.hid hg
      clear hcv hbc hcl HP HB0 hsz hgb hg
      have ij0 : (0 : Int) ≤ (i : Int) := by omega
      have ij1 : (i : Int) ≤ (j : Int) := by omega
      have ij2 : (j : Int) ≤ (s.size : Int) := by omega
      go_wp2_with fail
      rw [HCV.out, HGG.out]
      obtain ⟨n, hn⟩ : ∃ n, j - i = n := ⟨_, rfl⟩
      have HN := Lib.hid hn
      rw [hn] at HCL ⊢
      clear HCV HGG hn
      have n0 : (0 : Int) ≤ (n : Int) := by omega
      have nj : n ≤ 1000 := by have := HN.out; omega
      go_wp2_with fail
      go_loopw [8, 38] (fun av kv wr => ∃ (k : Nat) (vn : Value), k ≤ n ∧ kv = .int .i64 k ∧ vn = av ∧ Hid (spO wr B vn ([256] ++ (List.range k).map fun q => tx7 s (i + q))) ∧ Hid (Below B w wr) ∧ Hid (wr.heap[g]? = some (.cells C 5 fr))) (fun _ kv _ => n - (intOf kv).toNat)
      case atStart => exact ⟨0, _, Nat.zero_le _, rfl, rfl, HPc, HBC, HGB⟩
      case round =>
        clear HPc HBC HGB
        obtain ⟨k, vn, hkn, rfl, rfl, HX, HB, HGB⟩ := hrel
        by_cases hlt : k < n
        · have hcy : wr.cell? ⟨g, k, none⟩ = some (.int .u8 (tx7 s (i + k) : Nat)) := by
            have h1 := HGB.out
            have h2 := HCL.out k hlt
            simp only [World.cell?, h1]
            exact h2
          have hc := tx7_lt s (i + k)
          have HNX : Hid (([256] ++ (List.range k).map fun q => tx7 s (i + q)) ++ [tx7 s (i + k)] = [256] ++ (List.range (k + 1)).map fun q => tx7 s (i + q)) := Lib.hid (by
            rw [List.range_succ, List.map_append, List.append_assoc]; rfl)
          have hll : ([256] ++ (List.range k).map fun q => tx7 s (i + q)).length ≤ 1100 := by simp; omega
          generalize ([256] ++ (List.range k).map fun q => tx7 s (i + q)) = V at *
          generalize tx7 s (i + k) = y at *
          have hwc : IntKind.i64.wrap (y : Int) = (y : Int) := by rw [IntKind.wrap_i64]; omega
          have k0 : (0 : Int) ≤ (k : Int) := by omega
          have k1 : (k : Int) < (n : Int) := by omega
          have hgl : g < wr.heap.size := lt_of_block HGB.out
          have HAL : Hid (Below wr.heap.size wr (wr.alloc (.cells #[.int .i64 (y : Int)] 3))) := Lib.hid ((Below.refl _ _).alloc (Nat.le_refl _) _)
          have HXA : Hid (spO (wr.alloc (.cells #[.int .i64 (y : Int)] 3)) B vn V) := Lib.hid (owns_below HX.out HAL.out)
          have HGA : Hid ((wr.alloc (.cells #[.int .i64 (y : Int)] 3)).heap[g]? = some (.cells C 5 fr)) := Lib.hid ((HAL.out.block g hgl).trans HGB.out)
          have hBr : B ≤ wr.heap.size := by have := HB.out.size; have := HG.out; omega
          have HBA : Hid (Below B w (wr.alloc (.cells #[.int .i64 (y : Int)] 3))) := Lib.hid (HB.out.trans (HAL.out.mono hBr))
          clear HX HB HAL HGB
          go_wp2_with (at_builtin; refine append_nx11 rfl _ _ rfl B vn V rfl HXA.out wr.heap.size y rfl (by simp) (by omega) (by simp; omega) ?_)
          intro v7 w7 hn7 hg7
          have HX7 : Hid (spO w7 B v7 ([256] ++ (List.range (k + 1)).map fun q => tx7 s (i + q))) := Lib.hid (HNX.out ▸ hn7)
          have HB7 : Hid (Below B w w7) := Lib.hid (HBA.out.grown hg7 (by simp; omega) (fun r hr => (HXA.out.lt r hr).1))
          have HG7 := Lib.hid (bytes_apart HXA.out HGA.out hg7)
          clear hn7 hg7 HXA HBA HNX HGA hcy
          go_wp2_with fail
          go_roundw
          case rel => exact ⟨k + 1, _, by omega, by go_num, rfl, HX7, HB7, HG7⟩
          case measure => simp [intOf]; omega
        · obtain rfl : k = n := by omega
          obtain rfl := HN.out
          have hll : ([256] ++ (List.range (j - i)).map fun q => tx7 s (i + q)).length ≤ 1100 := by simp; omega
          by_cases hjn : j = s.size
          · have d2 : ((j : Int) == (s.size : Int)) = true := by simp [hjn]
            have HWY : Hid (wrY s.size (tx7 s) i j = ([256] ++ (List.range (j - i)).map fun q => tx7 s (i + q)) ++ [257]) := Lib.hid (by unfold wrY; rw [if_neg hn0, if_pos hjn, if_pos HI0.out])
            generalize ([256] ++ (List.range (j - i)).map fun q => tx7 s (i + q)) = V at *
            have HAL : Hid (Below wr.heap.size wr (wr.alloc (.cells #[.int .i64 257] 3))) := Lib.hid ((Below.refl _ _).alloc (Nat.le_refl _) _)
            have HXA : Hid (spO (wr.alloc (.cells #[.int .i64 257] 3)) B vn V) := Lib.hid (owns_below HX.out HAL.out)
            have hBr : B ≤ wr.heap.size := by have := HB.out.size; have := HG.out; omega
            have HBA : Hid (Below B w (wr.alloc (.cells #[.int .i64 257] 3))) := Lib.hid (HB.out.trans (HAL.out.mono hBr))
            clear HX HB HAL hjn
            go_wp2_with (at_builtin; refine append_nx11 rfl _ _ rfl B vn V rfl HXA.out wr.heap.size 257 rfl (by simp) (by omega) (by simp; omega) ?_)
            intro v7 w7 hn7 hg7
            have HX7 : Hid (rdW w7 v7 (wrY s.size (tx7 s) i j)) := Lib.hid (HWY.out.symm ▸ spO.rdW hn7)
            have HB7 : Hid (Below B w w7) := Lib.hid (HBA.out.grown hg7 (by simp; omega) (fun r hr => (HXA.out.lt r hr).1))
            clear hn7 hg7 HXA HBA HWY
            go_wp2_with fail
            go_returns
            exact ⟨_, rfl, HX7.out, HG.out.symm ▸ HB7.out⟩
          · have d2 : ((j : Int) == (s.size : Int)) = false := beq_eq_false_iff_ne.2 (by omega)
            have HWY : Hid (wrY s.size (tx7 s) i j = [256] ++ (List.range (j - i)).map fun q => tx7 s (i + q)) := Lib.hid (by unfold wrY; rw [if_neg hn0, if_neg hjn, if_pos HI0.out, List.append_nil])
            have HX7 : Hid (rdW wr vn (wrY s.size (tx7 s) i j)) := Lib.hid (HWY.out.symm ▸ spO.rdW HX.out)
            clear HX HWY hjn
            go_wp2_with fail
            go_returns
            exact ⟨_, rfl, HX7.out, HG.out.symm ▸ HB.out⟩
    · have di : ((i : Int) == 0) = false := beq_eq_false_iff_ne.2 (by omega)
      obtain ⟨w1, hw1⟩ : ∃ w1, w1 = w := ⟨_, rfl⟩
      obtain ⟨v1, hv1⟩ : ∃ v1, Value.slice none 0 0 = v1 := ⟨_, rfl⟩
      have HP : Hid (spO w B (.slice none 0 0) ([] ++ [])) := Lib.hid ⟨rfl, .inl ⟨rfl, rfl⟩⟩
      have HB0 : Hid (Below B w w) := Lib.hid (Below.refl _ _)
      clear hB hw1 hv1
      go_enter Try.func17, Try.ntmps17
      obtain ⟨wc, cc, C, fr, hcv, hbc, hgb, hcl⟩ := conv12 (s.extract i j) w
      have hsz : (s.extract i j).size = j - i := by rw [ByteArray.size_extract]; omega
      rw [hsz] at hcv hcl
      have HCV := Lib.hid hcv
      have HCL := Lib.hid (fun q (hq : q < j - i) => (hcl q hq).trans (by rw [tx7_ext s i j q hj hq]))
      obtain ⟨g, hg⟩ : ∃ g, w.heap.size = g := ⟨_, rfl⟩
      rw [hg] at hgb
      have HBC : Hid (Below B w wc) := Lib.hid (HB0.out.trans (hbc.mono (by have := HB0.out.size; have := HG.out; omega)))
      have HPc := Lib.hid (owns_below HP.out hbc)
      have HGB := Lib.hid hgb
      have HGG := Lib.hid hg
      clear hcv hbc hcl HP HB0 hsz hgb hg
      have ij0 : (0 : Int) ≤ (i : Int) := by omega
      have ij1 : (i : Int) ≤ (j : Int) := by omega
      have ij2 : (j : Int) ≤ (s.size : Int) := by omega
      go_wp2_with fail
      rw [HCV.out, HGG.out]
      obtain ⟨n, hn⟩ : ∃ n, j - i = n := ⟨_, rfl⟩
      have HN := Lib.hid hn
      rw [hn] at HCL ⊢
      clear HCV HGG hn
      have n0 : (0 : Int) ≤ (n : Int) := by omega
      have nj : n ≤ 1000 := by have := HN.out; omega
      go_wp2_with fail
      go_loopw [8, 38] (fun av kv wr => ∃ (k : Nat) (vn : Value), k ≤ n ∧ kv = .int .i64 k ∧ vn = av ∧ Hid (spO wr B vn ([] ++ (List.range k).map fun q => tx7 s (i + q))) ∧ Hid (Below B w wr) ∧ Hid (wr.heap[g]? = some (.cells C 5 fr))) (fun _ kv _ => n - (intOf kv).toNat)
      case atStart => exact ⟨0, _, Nat.zero_le _, rfl, rfl, HPc, HBC, HGB⟩
      case round =>
        clear HPc HBC HGB
        obtain ⟨k, vn, hkn, rfl, rfl, HX, HB, HGB⟩ := hrel
        by_cases hlt : k < n
        · have hcy : wr.cell? ⟨g, k, none⟩ = some (.int .u8 (tx7 s (i + k) : Nat)) := by
            have h1 := HGB.out
            have h2 := HCL.out k hlt
            simp only [World.cell?, h1]
            exact h2
          have hc := tx7_lt s (i + k)
          have HNX : Hid (([] ++ (List.range k).map fun q => tx7 s (i + q)) ++ [tx7 s (i + k)] = [] ++ (List.range (k + 1)).map fun q => tx7 s (i + q)) := Lib.hid (by
            rw [List.range_succ, List.map_append, List.append_assoc]; rfl)
          have hll : ([] ++ (List.range k).map fun q => tx7 s (i + q)).length ≤ 1100 := by simp; omega
          generalize ([] ++ (List.range k).map fun q => tx7 s (i + q)) = V at *
          generalize tx7 s (i + k) = y at *
          have hwc : IntKind.i64.wrap (y : Int) = (y : Int) := by rw [IntKind.wrap_i64]; omega
          have k0 : (0 : Int) ≤ (k : Int) := by omega
          have k1 : (k : Int) < (n : Int) := by omega
          have hgl : g < wr.heap.size := lt_of_block HGB.out
          have HAL : Hid (Below wr.heap.size wr (wr.alloc (.cells #[.int .i64 (y : Int)] 3))) := Lib.hid ((Below.refl _ _).alloc (Nat.le_refl _) _)
          have HXA : Hid (spO (wr.alloc (.cells #[.int .i64 (y : Int)] 3)) B vn V) := Lib.hid (owns_below HX.out HAL.out)
          have HGA : Hid ((wr.alloc (.cells #[.int .i64 (y : Int)] 3)).heap[g]? = some (.cells C 5 fr)) := Lib.hid ((HAL.out.block g hgl).trans HGB.out)
          have hBr : B ≤ wr.heap.size := by have := HB.out.size; have := HG.out; omega
          have HBA : Hid (Below B w (wr.alloc (.cells #[.int .i64 (y : Int)] 3))) := Lib.hid (HB.out.trans (HAL.out.mono hBr))
          clear HX HB HAL HGB
          go_wp2_with (at_builtin; refine append_nx11 rfl _ _ rfl B vn V rfl HXA.out wr.heap.size y rfl (by simp) (by omega) (by simp; omega) ?_)
          intro v7 w7 hn7 hg7
          have HX7 : Hid (spO w7 B v7 ([] ++ (List.range (k + 1)).map fun q => tx7 s (i + q))) := Lib.hid (HNX.out ▸ hn7)
          have HB7 : Hid (Below B w w7) := Lib.hid (HBA.out.grown hg7 (by simp; omega) (fun r hr => (HXA.out.lt r hr).1))
          have HG7 := Lib.hid (bytes_apart HXA.out HGA.out hg7)
          clear hn7 hg7 HXA HBA HNX HGA hcy
          go_wp2_with fail
          go_roundw
          case rel => exact ⟨k + 1, _, by omega, by go_num, rfl, HX7, HB7, HG7⟩
          case measure => simp [intOf]; omega
        · obtain rfl : k = n := by omega
          obtain rfl := HN.out
          have hll : ([] ++ (List.range (j - i)).map fun q => tx7 s (i + q)).length ≤ 1100 := by simp; omega
          by_cases hjn : j = s.size
          · have d2 : ((j : Int) == (s.size : Int)) = true := by simp [hjn]
            have HWY : Hid (wrY s.size (tx7 s) i j = ([] ++ (List.range (j - i)).map fun q => tx7 s (i + q)) ++ [257]) := Lib.hid (by unfold wrY; rw [if_neg hn0, if_pos hjn, if_neg hi0])
            generalize ([] ++ (List.range (j - i)).map fun q => tx7 s (i + q)) = V at *
            have HAL : Hid (Below wr.heap.size wr (wr.alloc (.cells #[.int .i64 257] 3))) := Lib.hid ((Below.refl _ _).alloc (Nat.le_refl _) _)
            have HXA : Hid (spO (wr.alloc (.cells #[.int .i64 257] 3)) B vn V) := Lib.hid (owns_below HX.out HAL.out)
            have hBr : B ≤ wr.heap.size := by have := HB.out.size; have := HG.out; omega
            have HBA : Hid (Below B w (wr.alloc (.cells #[.int .i64 257] 3))) := Lib.hid (HB.out.trans (HAL.out.mono hBr))
            clear HX HB HAL hjn
            go_wp2_with (at_builtin; refine append_nx11 rfl _ _ rfl B vn V rfl HXA.out wr.heap.size 257 rfl (by simp) (by omega) (by simp; omega) ?_)
            intro v7 w7 hn7 hg7
            have HX7 : Hid (rdW w7 v7 (wrY s.size (tx7 s) i j)) := Lib.hid (HWY.out.symm ▸ spO.rdW hn7)
            have HB7 : Hid (Below B w w7) := Lib.hid (HBA.out.grown hg7 (by simp; omega) (fun r hr => (HXA.out.lt r hr).1))
            clear hn7 hg7 HXA HBA HWY
            go_wp2_with fail
            go_returns
            exact ⟨_, rfl, HX7.out, HG.out.symm ▸ HB7.out⟩
          · have d2 : ((j : Int) == (s.size : Int)) = false := beq_eq_false_iff_ne.2 (by omega)
            have HWY : Hid (wrY s.size (tx7 s) i j = [] ++ (List.range (j - i)).map fun q => tx7 s (i + q)) := Lib.hid (by unfold wrY; rw [if_neg hn0, if_neg hjn, if_neg hi0, List.append_nil])
            have HX7 : Hid (rdW wr vn (wrY s.size (tx7 s) i j)) := Lib.hid (HWY.out.symm ▸ spO.rdW HX.out)
            clear HX HWY hjn
            go_wp2_with fail
            go_returns
            exact ⟨_, rfl, HX7.out, HG.out.symm ▸ HB.out⟩

theorem wrd_any : WrdD := by
  intro s i j w hs
  by_cases h : 0 ≤ i ∧ i ≤ j ∧ j ≤ (s.size : Int)
  · obtain ⟨I, rfl⟩ : ∃ I : Nat, i = I := ⟨i.toNat, by omega⟩
    obtain ⟨J, rfl⟩ : ∃ J : Nat, j = J := ⟨j.toNat, by omega⟩
    refine (word12_is s I J hs (by omega) (by omega) w).mono ?_
    rintro e w' ⟨v, h1, h2, h3⟩
    exact ⟨fun _ => ⟨v, h1, h2⟩, fun hn => absurd h hn, h3⟩
  · refine (word12_no s i j hs h w).mono ?_
    rintro e w' ⟨h1, h2⟩
    exact ⟨fun hn => absurd hn h, fun _ => ⟨none, 0, h1⟩, h2⟩
end Go.Proofs.Ytpfbmbegddemoaa
