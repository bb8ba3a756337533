/-
  The walk of the ninth reference's Fits.
-/
import Derived.Test.YtdhplphgackjaaaPk20
import Derived.Test.YtdhplphgackjaaaPk25
import Derived.Deep.RegionHeldLaw
import Derived.Deep.RegionWith
namespace Go.Proofs.Ytdhplphgackjaaa
open Go.RowKit

theorem lit_rdL (w : World) (x : Int) : rdL (w.alloc (.cells #[.int .i64 x] 3)) (some ⟨w.heap.size, 0, none⟩) 1 (fun _ => x) := fun j hj => by
  obtain rfl : j = 0 := by omega
  exact ⟨_, _, rfl, by simp, by simp⟩
/-- So many bytes from a place on, as the reference takes them. -/
def rF (S : Nat → Sd) (m : Nat) (tx : Nat → Nat) : Nat → Nat → (Nat → Bool) → Nat → Bool
  | _, 0, T => T
  | i, k + 1, T => rF S m tx (i + 1) k (upN S 0 m (stR S (tx i) T m) m)
theorem rF_last (S : Nat → Sd) (m : Nat) (tx : Nat → Nat) : ∀ k i T, rF S m tx i (k + 1) T = upN S 0 m (stR S (tx (i + k)) (rF S m tx i k T) m) m
  | 0, _, _ => rfl
  | k + 1, i, T => by
    show rF S m tx (i + 1) (k + 1) _ = _
    rw [rF_last S m tx k (i + 1) _, show i + 1 + k = i + (k + 1) by omega]; rfl
def aF (S : Nat → Sd) (m : Nat) (st : Int) : Nat → Bool := upN S 0 m (inL m (fun _ => st) 1) m
/-- What leads to the end, as the reference counts it. -/
def fF (S : Nat → Sd) (m n : Nat) (tx : Nat → Nat) (st : Int) (fin i j : Nat) : Bool :=
  if n = 0 then upN S 258 m (aF S m st) m fin
  else if j = n then upN S 257 m (rF S m tx i (j - i) (if i = 0 then upN S 256 m (aF S m st) m else aF S m st)) m fin
  else rF S m tx i (j - i) (if i = 0 then upN S 256 m (aF S m st) m else aF S m st) fin

set_option maxRecDepth 100000 in
set_option maxHeartbeats 20000000 in
theorem rfit9_is (b off m cap : Nat) (S : Nat → Sd) (st : Int) (F : Nat) (hm : m ≤ 1000) (hpos : 0 < m) (hF : F < m) (hR : rng S m) (hw : ∀ q, q < m → okWs (S q)) (s : ByteArray) (n : Nat) (hs : s.size = n) (hn : n ≤ 1000) (i j : Nat) (hij : i ≤ j) (hj : j ≤ n) (w : World) (hS : rdS w b off m S) :
    Calls Try.prog 24 #[.agg #[.slice (some ⟨b, off, none⟩) m cap, .int .i64 st, .int .i64 (F : Int)], .string s, .int .i64 (i : Int), .int .i64 (j : Int)] w fun e w' => e = .returned (.bool (fF S m n (tx7 s) st F i j)) ∧ Below w.heap.size w w' := by
  obtain ⟨w1, hw1⟩ : ∃ w1, w.alloc (.cells #[.slice (some ⟨b, off, none⟩) m cap, .int .i64 st, .int .i64 (F : Int)] 26) = w1 := ⟨_, rfl⟩
  have hz : w1.heap.size = w.heap.size + 1 := by rw [← hw1]; simp
  have hal : Below w.heap.size w w1 := hw1 ▸ (Below.refl _ _).alloc (Nat.le_refl _) _
  have HB1 := Lib.hid hal
  have HS1 := Lib.hid (hS.below hal)
  have hn0 : w1.cell? ⟨w.heap.size, 0, none⟩ = some (.slice (some ⟨b, off, none⟩) m cap) ∧ w1.cell? ⟨w.heap.size, 1, none⟩ = some (.int .i64 st) ∧ w1.cell? ⟨w.heap.size, 2, none⟩ = some (.int .i64 (F : Int)) := by rw [← hw1]; simp
  have HN : Hid (∀ w', Below w1.heap.size w1 w' → w'.cell? ⟨w.heap.size, 0, none⟩ = some (.slice (some ⟨b, off, none⟩) m cap) ∧ w'.cell? ⟨w.heap.size, 1, none⟩ = some (.int .i64 st) ∧ w'.cell? ⟨w.heap.size, 2, none⟩ = some (.int .i64 (F : Int))) := Lib.hid fun w' h =>
    ⟨(h.cell (p := ⟨w.heap.size, 0, none⟩) (by show w.heap.size < _; omega)).trans hn0.1, (h.cell (p := ⟨w.heap.size, 1, none⟩) (by show w.heap.size < _; omega)).trans hn0.2.1, (h.cell (p := ⟨w.heap.size, 2, none⟩) (by show w.heap.size < _; omega)).trans hn0.2.2⟩
  have HW1 := Lib.hid hw1
  have hlit := (lit_rdL w1 st).below ((Below.refl _ _).drew)
  have HOF := Lib.hid (rof9_is b off m cap st F hm hpos (some ⟨w1.heap.size, 0, none⟩) 1 1 (fun _ => st) (by decide) _ hlit)
  have HCL := Lib.hid (fun g c T sym w' (hB : Below w1.heap.size w1 w') hT => rcl_is b off m cap g c S T st F sym hm hpos hR w' (HS1.out.below hB) hT)
  have HBL : Hid (Below w1.heap.size w1 (w1.alloc (.cells #[.int .i64 st] 3)).drew) := Lib.hid ((Below.refl _ _).alloc (Nat.le_refl _) _).drew
  have hB := Below.refl w1.heap.size w1
  have HST := Lib.hid (fun g c T y (hy : y < 256) w' (hB : Below w1.heap.size w1 w') hT => rst_is b off m cap g c S T st F y hy hm hpos hR hw w' (HS1.out.below hB) hT)
  clear hal hS hn0 hw1 hw hR hlit hz
  subst hs
  go_enter Try.func24, Try.ntmps24
  go_wp2_with fail
  rw [HW1.out]
  go_region_held_law (fun w' => w'.cell? ⟨w.heap.size, 0, none⟩ = some (.slice (some ⟨b, off, none⟩) m cap) ∧ w'.cell? ⟨w.heap.size, 1, none⟩ = some (.int .i64 st) ∧ w'.cell? ⟨w.heap.size, 2, none⟩ = some (.int .i64 (F : Int)))
    (first | with_reducible exact HN.out _ hB | with_reducible exact HN.out _ hB.drew | with_reducible exact HN.out _ HBL.out)
    (first
      | (go_at_call 20; (with_reducible refine HOF.out.mono ?_); rintro e wk ⟨G0, rfl, ho, hb⟩; have HO0 := Lib.hid ho; (replace hB := HBL.out.trans (hb.mono HBL.out.size)); clear ho hb)
      | (go_at_call 22; (with_reducible refine (HCL.out _ _ _ 0 _ hB HO0.out.rd).mono ?_); rintro e wc ⟨G1, C1, rfl, ho, hb⟩; have HO1 := Lib.hid ho; (replace hB := hB.trans (hb.mono hB.size)); clear ho hb))
  have HA := Lib.hid HO1.out.rd
  have HBa := Lib.hid hB
  have HTA : Hid (upN S 0 m (inL m (fun _ => st) 1) m = aF S m st) := Lib.hid rfl
  rw [HTA.out] at HA
  clear HO0 HO1 hB HOF HBL
  generalize aF S m st = TA at *
  have F0 : (0 : Int) ≤ (F : Int) := by omega
  have F1 : (F : Int) < (m : Int) := by omega
  by_cases h0 : s.size = 0
  · have d0 : ((s.size : Int) == 0) = true := by simp [h0]
    have HE : Hid (fF S m s.size (tx7 s) st F i j = upN S 258 m TA m F) := Lib.hid (by unfold fF; rw [if_pos h0, ← HTA.out]; rfl)
    go_wp2_with fail
    have hB := HBa.out
    obtain ⟨n0, n1, n2⟩ := HN.out _ hB.drew
    go_region_with ((go_at_call 22; (with_reducible refine (HCL.out _ _ _ 258 _ hB.drew (HA.out.below (Below.refl _ _).drew)).mono ?_); rintro e wc ⟨G2, C2, rfl, ho, hb⟩; have hc2 := ho.cell F hF; (replace hB := hB.drew.trans (hb.mono hB.size)); clear ho hb n0 n1 n2; obtain ⟨n0, n1, n2⟩ := HN.out _ hB))
    all_goals
      have HBf := Lib.hid (HB1.out.trans (hB.mono HB1.out.size))
      clear hB
      go_wp2_with fail
      go_returns
      exact ⟨by rw [HE.out] <;> rfl, HBf.out⟩
  · have d0 : ((s.size : Int) == 0) = false := beq_eq_false_iff_ne.2 (by omega)
    obtain ⟨T1, hT1⟩ : ∃ T1, (if i = 0 then upN S 256 m TA m else TA) = T1 := ⟨_, rfl⟩
    have HEQ : Hid (fF S m s.size (tx7 s) st F i j = if j = s.size then upN S 257 m (rF S m (tx7 s) i (j - i) T1) m F else rF S m (tx7 s) i (j - i) T1 F) := Lib.hid (by
      unfold fF
      have e : aF S m st = TA := HTA.out
      rw [if_neg h0, e, hT1])
    by_cases hi0 : i = 0
    · rw [if_pos hi0] at hT1
      have di : ((i : Int) == 0) = true := by simp [hi0]
      have di' : (i == 0) = true := by simp [hi0]
      clear hi0
      have n012 := HN.out _ HBa.out
      obtain ⟨n0, n1, n2⟩ := n012
      go_wp2_with fail
      refine (HCL.out _ _ _ 256 _ HBa.out HA.out).mono ?_
      rintro e wd ⟨G2, C2, rfl, ho, hb⟩
      rw [hT1] at ho
      have HA1 := Lib.hid ho.rd
      have HBb := Lib.hid (HBa.out.trans (hb.mono HBa.out.size))
      clear ho hb hT1 n0 n1 n2 HA HBa HTA
      go_wp2_with fail
      go_loopw [9, 10] (fun av kv wr => ∃ k G C, i ≤ k ∧ k ≤ j ∧ kv = .int .i64 (k : Nat) ∧ av = .slice (some ⟨G, 0, none⟩) m C ∧ Hid (rdB wr G m (rF S m (tx7 s) i (k - i) T1)) ∧ Below w1.heap.size w1 wr) (fun _ kv _ => j - (intOf kv).toNat)
      case atStart => exact ⟨i, _, _, Nat.le_refl _, hij, rfl, rfl, Lib.hid (by rw [Nat.sub_self]; exact HA1.out), HBb.out⟩
      case round =>
        obtain ⟨k, G, C, hik, hkj, rfl, rfl, HX, hB⟩ := hrel
        by_cases hlt : k < j
        · have HIx := Lib.hid (fun w => ix_str s k (by omega) (by omega) w)
          have hix := HIx.out
          have hc := tx7_lt s k
          have HSt := Lib.hid (show upN S 0 m (stR S (tx7 s k) (rF S m (tx7 s) i (k - i) T1) m) m = rF S m (tx7 s) i (k + 1 - i) T1 by rw [show k + 1 - i = (k - i) + 1 by omega, rF_last, show i + (k - i) = k by omega])
          generalize rF S m (tx7 s) i (k - i) T1 = V at *
          generalize tx7 s k = y at *
          have hwc : IntKind.i64.wrap (y : Int) = (y : Int) := by rw [IntKind.wrap_i64]; omega
          have k0 : (0 : Int) ≤ (k : Int) := by omega
          have k1 : (k : Int) < (j : Int) := by omega
          have k2 : (k : Int) < (s.size : Int) := by omega
          have HHY := Lib.hid hc
          go_wp2_with fail
          go_region_held_law (fun w' => w'.cell? ⟨w.heap.size, 0, none⟩ = some (.slice (some ⟨b, off, none⟩) m cap) ∧ w'.cell? ⟨w.heap.size, 1, none⟩ = some (.int .i64 st) ∧ w'.cell? ⟨w.heap.size, 2, none⟩ = some (.int .i64 (F : Int))) (first | with_reducible exact HN.out _ hB | with_reducible exact HN.out _ hB.drew)
            ((go_at_call 23; (with_reducible refine (HST.out _ _ _ y HHY.out _ hB.drew (HX.out.below (Below.refl _ _).drew)).mono ?_); rintro e wc ⟨G2, C2, rfl, ho, hb⟩; have HO2 := Lib.hid ho.rd; (replace hB := hB.drew.trans (hb.mono hB.size)); clear ho hb))
          all_goals
            rw [HSt.out] at HO2
            go_wp2_with fail
            go_roundw
            case rel => exact ⟨k + 1, _, _, by omega, by omega, by go_num, rfl, HO2, hB⟩
            case measure => simp [intOf]; omega
        · obtain rfl : k = j := by omega
          obtain ⟨TE, hTE⟩ : ∃ TE, rF S m (tx7 s) i (k - i) T1 = TE := ⟨_, rfl⟩
          rw [hTE] at HX HEQ
          clear hTE
          by_cases hjs : k = s.size
          · have d2 : ((k : Int) == (s.size : Int)) = true := by simp [hjs]
            have d3 : (k == s.size) = true := by simp [hjs]
            have HE : Hid (fF S m s.size (tx7 s) st F i k = upN S 257 m TE m F) := Lib.hid (by rw [HEQ.out, if_pos hjs])
            clear hjs
            obtain ⟨a0, a1, a2⟩ := HN.out _ hB
            go_wp2_with fail
            clear a0 a1 a2
            refine (HCL.out _ _ _ 257 _ hB HX.out).mono ?_
            rintro e wc ⟨G2, C2, rfl, ho, hb⟩
            have hc2 := ho.cell F hF
            have hB9 := hB.trans (hb.mono hB.size)
            have HBf := Lib.hid (HB1.out.trans (hB9.mono HB1.out.size))
            obtain ⟨n0, n1, n2⟩ := HN.out _ hB9
            clear ho hb hB hB9
            go_wp2_with fail
            go_returns
            exact ⟨by rw [HE.out] <;> rfl, HBf.out⟩
          · have d2 : ((k : Int) == (s.size : Int)) = false := beq_eq_false_iff_ne.2 (by omega)
            have d3 : (k == s.size) = false := beq_eq_false_iff_ne.2 hjs
            have HE : Hid (fF S m s.size (tx7 s) st F i k = TE F) := Lib.hid (by rw [HEQ.out, if_neg hjs])
            have hc2 := HX.out.2 F hF
            have HBf := Lib.hid (HB1.out.trans (hB.mono HB1.out.size))
            obtain ⟨n0, n1, n2⟩ := HN.out _ hB
            clear hjs hB
            go_wp2_with fail
            go_returns
            exact ⟨by rw [HE.out] <;> rfl, HBf.out⟩
    · rw [if_neg hi0] at hT1
      have di : ((i : Int) == 0) = false := beq_eq_false_iff_ne.2 (by omega)
      have di' : (i == 0) = false := beq_eq_false_iff_ne.2 hi0
      clear hi0
      subst hT1
      have HA1 := HA
      have HBb := HBa
      clear HA HBa HTA
      go_wp2_with fail
      go_loopw [9, 10] (fun av kv wr => ∃ k G C, i ≤ k ∧ k ≤ j ∧ kv = .int .i64 (k : Nat) ∧ av = .slice (some ⟨G, 0, none⟩) m C ∧ Hid (rdB wr G m (rF S m (tx7 s) i (k - i) TA)) ∧ Below w1.heap.size w1 wr) (fun _ kv _ => j - (intOf kv).toNat)
      case atStart => exact ⟨i, _, _, Nat.le_refl _, hij, rfl, rfl, Lib.hid (by rw [Nat.sub_self]; exact HA1.out), HBb.out⟩
      case round =>
        obtain ⟨k, G, C, hik, hkj, rfl, rfl, HX, hB⟩ := hrel
        by_cases hlt : k < j
        · have HIx := Lib.hid (fun w => ix_str s k (by omega) (by omega) w)
          have hix := HIx.out
          have hc := tx7_lt s k
          have HSt := Lib.hid (show upN S 0 m (stR S (tx7 s k) (rF S m (tx7 s) i (k - i) TA) m) m = rF S m (tx7 s) i (k + 1 - i) TA by rw [show k + 1 - i = (k - i) + 1 by omega, rF_last, show i + (k - i) = k by omega])
          generalize rF S m (tx7 s) i (k - i) TA = V at *
          generalize tx7 s k = y at *
          have hwc : IntKind.i64.wrap (y : Int) = (y : Int) := by rw [IntKind.wrap_i64]; omega
          have k0 : (0 : Int) ≤ (k : Int) := by omega
          have k1 : (k : Int) < (j : Int) := by omega
          have k2 : (k : Int) < (s.size : Int) := by omega
          have HHY := Lib.hid hc
          go_wp2_with fail
          go_region_held_law (fun w' => w'.cell? ⟨w.heap.size, 0, none⟩ = some (.slice (some ⟨b, off, none⟩) m cap) ∧ w'.cell? ⟨w.heap.size, 1, none⟩ = some (.int .i64 st) ∧ w'.cell? ⟨w.heap.size, 2, none⟩ = some (.int .i64 (F : Int))) (first | with_reducible exact HN.out _ hB | with_reducible exact HN.out _ hB.drew)
            ((go_at_call 23; (with_reducible refine (HST.out _ _ _ y HHY.out _ hB.drew (HX.out.below (Below.refl _ _).drew)).mono ?_); rintro e wc ⟨G2, C2, rfl, ho, hb⟩; have HO2 := Lib.hid ho.rd; (replace hB := hB.drew.trans (hb.mono hB.size)); clear ho hb))
          all_goals
            rw [HSt.out] at HO2
            go_wp2_with fail
            go_roundw
            case rel => exact ⟨k + 1, _, _, by omega, by omega, by go_num, rfl, HO2, hB⟩
            case measure => simp [intOf]; omega
        · obtain rfl : k = j := by omega
          obtain ⟨TE, hTE⟩ : ∃ TE, rF S m (tx7 s) i (k - i) TA = TE := ⟨_, rfl⟩
          rw [hTE] at HX HEQ
          clear hTE
          by_cases hjs : k = s.size
          · have d2 : ((k : Int) == (s.size : Int)) = true := by simp [hjs]
            have d3 : (k == s.size) = true := by simp [hjs]
            have HE : Hid (fF S m s.size (tx7 s) st F i k = upN S 257 m TE m F) := Lib.hid (by rw [HEQ.out, if_pos hjs])
            clear hjs
            obtain ⟨a0, a1, a2⟩ := HN.out _ hB
            go_wp2_with fail
            clear a0 a1 a2
            refine (HCL.out _ _ _ 257 _ hB HX.out).mono ?_
            rintro e wc ⟨G2, C2, rfl, ho, hb⟩
            have hc2 := ho.cell F hF
            have hB9 := hB.trans (hb.mono hB.size)
            have HBf := Lib.hid (HB1.out.trans (hB9.mono HB1.out.size))
            obtain ⟨n0, n1, n2⟩ := HN.out _ hB9
            clear ho hb hB hB9
            go_wp2_with fail
            go_returns
            exact ⟨by rw [HE.out] <;> rfl, HBf.out⟩
          · have d2 : ((k : Int) == (s.size : Int)) = false := beq_eq_false_iff_ne.2 (by omega)
            have d3 : (k == s.size) = false := beq_eq_false_iff_ne.2 hjs
            have HE : Hid (fF S m s.size (tx7 s) st F i k = TE F) := Lib.hid (by rw [HEQ.out, if_neg hjs])
            have hc2 := HX.out.2 F hF
            have HBf := Lib.hid (HB1.out.trans (hB.mono HB1.out.size))
            obtain ⟨n0, n1, n2⟩ := HN.out _ hB
            clear hjs hB
            go_wp2_with fail
            go_returns
            exact ⟨by rw [HE.out] <;> rfl, HBf.out⟩
end Go.Proofs.Ytdhplphgackjaaa
