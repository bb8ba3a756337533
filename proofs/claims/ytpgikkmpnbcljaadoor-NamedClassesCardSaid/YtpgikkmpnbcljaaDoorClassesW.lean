/-
  The walk of the law NamedClasses: it answers true, at any name, where the table stands as it is laid.
-/
import Derived.Test.YtpgikkmpnbcljaaDoorAwaken
import Derived.Test.YtpgikkmpnbcljaaDoorClassesM
import Derived.WalkLawsBesides
import Derived.BigQuiet
import Derived.Deep.QuietTactic
namespace Go.Proofs.YtpgikkmpnbcljaaDoor
open Go.RowKit

theorem class2 (s : ByteArray) (l : List UInt8) (hl : s.toList = l) (w : World) (hT : Tabbed w) :
    Calls Tryd.prog 7 #[.string s] w fun e w' => e = .returned (.tuple #[sv (isB l), .bool (isN l)]) ∧ Below w.heap.size w w' := by
  subst hl
  refine (class_any s w hT).mono fun e w' h => ⟨?_, h.2⟩
  rw [h.1, fnd_is, sv_congr fun b hb => cls_is s b hb]
theorem thr_succ (s : ByteArray) (k : Nat) : thr s (k + 1) = (thr s k || (nmB k).toList == s.toList) := rfl
/-- The class of a name that is told: it is there. -/
theorem rclass_in (k : Nat) (hk : k < 12) (w : World) :
    Calls Tryd.prog 8 #[.string (nmB k)] w fun e w' => e = .returned (.tuple #[sv (isB (nmB k).toList), .bool true]) ∧ Below w.heap.size w w' :=
  (rclass_any (nmB k) _ rfl w).mono fun e w' h => ⟨by rw [h.1, nm_is k hk], h.2⟩

set_option maxRecDepth 100000 in
set_option maxHeartbeats 8000000 in
theorem classes_walk (s : ByteArray) (w : World) (hT : Tabbed w) :
    Calls Tryd.prog 3 #[.string s] w fun e w' => e = .returned (.bool true) ∧ Below w.heap.size w w' := by
  have heq := eq_set
  obtain ⟨l, hl⟩ : ∃ l, s.toList = l := ⟨_, rfl⟩
  have HL := Lib.hid hl
  clear hl
  obtain ⟨F, hF⟩ : ∃ F, isB l = F := ⟨_, rfl⟩
  obtain ⟨N, hN⟩ : ∃ N, isN l = N := ⟨_, rfl⟩
  have HF := Lib.hid hF; have HN := Lib.hid hN
  clear hF hN
  go_enter Tryd.func3, Tryd.ntmps3
  go_wp2_with fail
  refine (awaken_any _ hT).mono ?_
  rintro e w0 ⟨rfl, hb0⟩
  have HW := Lib.hid hb0
  have HT := Lib.hid (hT.to hb0)
  clear hb0 hT
  go_wp2_with fail
  refine (class2 s l HL.out _ HT.out).mono ?_
  rw [HF.out, HN.out]
  rintro e w1 ⟨rfl, hb1⟩
  have s1 := isSet.new w1 F
  have HW1 := Lib.hid ((HW.out.trans (hb1.mono HW.out.size)).alloc (Nat.le_trans HW.out.size hb1.size) (.cells #[.int .u64 (wd F 0 : Int), .int .u64 (wd F 1 : Int), .int .u64 (wd F 2 : Int), .int .u64 (wd F 3 : Int)] 25))
  have HT1 := Lib.hid ((HT.out.to hb1).alloc (.cells #[.int .u64 (wd F 0 : Int), .int .u64 (wd F 1 : Int), .int .u64 (wd F 2 : Int), .int .u64 (wd F 3 : Int)] 25))
  have S1 := Lib.hid s1
  clear hb1 s1 HW HT
  go_wp2_with fail
  refine (rclass_any s l HL.out _).mono ?_
  rw [HF.out, HN.out]
  rintro e w2 ⟨rfl, hb2⟩
  have S2 := Lib.hid (isSet.new w2 F)
  have S12 := Lib.hid ((S1.out.below hb2 S1.out.lt).alloc (.cells #[.int .u64 (wd F 0 : Int), .int .u64 (wd F 1 : Int), .int .u64 (wd F 2 : Int), .int .u64 (wd F 3 : Int)] 25))
  have HW2 := Lib.hid ((HW1.out.trans (hb2.mono HW1.out.size)).alloc (Nat.le_trans HW1.out.size hb2.size) (.cells #[.int .u64 (wd F 0 : Int), .int .u64 (wd F 1 : Int), .int .u64 (wd F 2 : Int), .int .u64 (wd F 3 : Int)] 25))
  have HT2 := Lib.hid ((HT1.out.to hb2).alloc (.cells #[.int .u64 (wd F 0 : Int), .int .u64 (wd F 1 : Int), .int .u64 (wd F 2 : Int), .int .u64 (wd F 3 : Int)] 25))
  clear hb2 S1 HW1 HT1
  go_wp2_with fail
  refine (names_any _ HT2.out).mono ?_
  rintro e w3 ⟨g, c, rfl, ⟨_, hgl, hgc⟩, hb3⟩
  have S3 := Lib.hid (S12.out.below hb3 S12.out.lt)
  have S5 := Lib.hid (S2.out.below hb3 S2.out.lt)
  have HW3 := Lib.hid (HW2.out.trans (hb3.mono HW2.out.size))
  have HG := Lib.hid hgc
  clear hb3 S12 S2 HW2 HT2 hgc
  go_wp2
  go_loopw [8, 9] (fun t i wr => ∃ k : Nat, k ≤ 12 ∧ i = .int .i64 k ∧ t = .bool (thr s k) ∧ isSet wr w1.heap.size F ∧ isSet wr w2.heap.size F ∧ (g < wr.heap.size ∧ ∀ j, j < 12 → wr.cell? ⟨g, j, none⟩ = some (.string (nmB j))) ∧ Below w.heap.size w wr) (fun _ i _ => 12 - (RowKit.intOf i).toNat)
  case atStart => exact ⟨0, Nat.zero_le _, rfl, rfl, S3.out, S5.out, ⟨hgl, HG.out⟩, HW3.out⟩
  case round =>
    obtain ⟨k, hk, rfl, rfl, b1, b2, ⟨hgw, hgc⟩, hBw⟩ := hrel
    clear S3 S5 HG HW3 hgl
    by_cases hlt : k < 12
    · have q0 := hgc k hlt
      have HG := Lib.hid hgc
      clear hgc
      go_wp2_with fail
      refine (rclass_in k hlt _).mono ?_
      rintro e wa ⟨rfl, hb⟩
      clear q0
      have q0 := (hb.cell (p := ⟨g, k, none⟩) hgw).trans (HG.out k hlt)
      have hga := Nat.lt_of_lt_of_le hgw hb.size
      have HGa := Lib.hid (fun j (hj : j < 12) => (hb.cell (p := ⟨g, j, none⟩) hgw).trans (HG.out j hj))
      have B1 := Lib.hid (b1.below hb b1.lt)
      have B2 := Lib.hid (b2.below hb b2.lt)
      have HB := Lib.hid (hBw.trans (hb.mono hBw.size))
      clear b1 b2 hb hBw HG hgw
      rcases Nat.eq_zero_or_pos k with hk0 | hk0
      · have hd : decide ((0 : Int) < (k : Int)) = false := by simp; omega
        have hd2 : decide (0 < k) = false := by simp; omega
        have hi0 : (0 : Int) ≤ (k : Int) := by omega
        have hi1 : (k : Int) < 12 := by omega
        have HK0 := Lib.hid hk0
        clear hk0
        cases hq : ((nmB k).toList == s.toList)
        · have ht : thr s k = false := by rw [HK0.out]; rfl
          have hth : thr s (k + 1) = false := by rw [thr_succ s k, ht, hq]; rfl
          have HTH := Lib.hid hth
          clear hth
          go_wp2_with fail
          go_quiet (fail)
          go_wp2
          have z1 := B1.out.alloc (.cells #[.int .u64 (wd (isB (nmB k).toList) 0 : Int), .int .u64 (wd (isB (nmB k).toList) 1 : Int), .int .u64 (wd (isB (nmB k).toList) 2 : Int), .int .u64 (wd (isB (nmB k).toList) 3 : Int)] 25)
          have z2 := B2.out.alloc (.cells #[.int .u64 (wd (isB (nmB k).toList) 0 : Int), .int .u64 (wd (isB (nmB k).toList) 1 : Int), .int .u64 (wd (isB (nmB k).toList) 2 : Int), .int .u64 (wd (isB (nmB k).toList) 3 : Int)] 25)
          have z3 : ∀ j, j < 12 → (wa.alloc (.cells #[.int .u64 (wd (isB (nmB k).toList) 0 : Int), .int .u64 (wd (isB (nmB k).toList) 1 : Int), .int .u64 (wd (isB (nmB k).toList) 2 : Int), .int .u64 (wd (isB (nmB k).toList) 3 : Int)] 25)).cell? ⟨g, j, none⟩ = some (.string (nmB j)) := fun j hj => (World.cell?_alloc_lt _ _ ⟨g, j, none⟩ hga).trans (HGa.out j hj)
          have z4 := HB.out.alloc HB.out.size (.cells #[.int .u64 (wd (isB (nmB k).toList) 0 : Int), .int .u64 (wd (isB (nmB k).toList) 1 : Int), .int .u64 (wd (isB (nmB k).toList) 2 : Int), .int .u64 (wd (isB (nmB k).toList) 3 : Int)] 25)
          have z5 : g < (wa.alloc (.cells #[.int .u64 (wd (isB (nmB k).toList) 0 : Int), .int .u64 (wd (isB (nmB k).toList) 1 : Int), .int .u64 (wd (isB (nmB k).toList) 2 : Int), .int .u64 (wd (isB (nmB k).toList) 3 : Int)] 25)).heap.size := Nat.lt_of_lt_of_le hga (by simp)
          go_roundw
          case rel => exact ⟨k + 1, by omega, by go_num, by rw [HTH.out], z1, z2, ⟨z5, z3⟩, below_drewN nq z4⟩
          case measure => simp [RowKit.intOf]; omega
        · have ht : thr s k = false := by rw [HK0.out]; rfl
          have hth : thr s (k + 1) = true := by rw [thr_succ s k, ht, hq]; rfl
          have HTH := Lib.hid hth
          clear hth
          go_wp2_with fail
          go_quiet (fail)
          go_wp2
          have z1 := B1.out.alloc (.cells #[.int .u64 (wd (isB (nmB k).toList) 0 : Int), .int .u64 (wd (isB (nmB k).toList) 1 : Int), .int .u64 (wd (isB (nmB k).toList) 2 : Int), .int .u64 (wd (isB (nmB k).toList) 3 : Int)] 25)
          have z2 := B2.out.alloc (.cells #[.int .u64 (wd (isB (nmB k).toList) 0 : Int), .int .u64 (wd (isB (nmB k).toList) 1 : Int), .int .u64 (wd (isB (nmB k).toList) 2 : Int), .int .u64 (wd (isB (nmB k).toList) 3 : Int)] 25)
          have z3 : ∀ j, j < 12 → (wa.alloc (.cells #[.int .u64 (wd (isB (nmB k).toList) 0 : Int), .int .u64 (wd (isB (nmB k).toList) 1 : Int), .int .u64 (wd (isB (nmB k).toList) 2 : Int), .int .u64 (wd (isB (nmB k).toList) 3 : Int)] 25)).cell? ⟨g, j, none⟩ = some (.string (nmB j)) := fun j hj => (World.cell?_alloc_lt _ _ ⟨g, j, none⟩ hga).trans (HGa.out j hj)
          have z4 := HB.out.alloc HB.out.size (.cells #[.int .u64 (wd (isB (nmB k).toList) 0 : Int), .int .u64 (wd (isB (nmB k).toList) 1 : Int), .int .u64 (wd (isB (nmB k).toList) 2 : Int), .int .u64 (wd (isB (nmB k).toList) 3 : Int)] 25)
          have z5 : g < (wa.alloc (.cells #[.int .u64 (wd (isB (nmB k).toList) 0 : Int), .int .u64 (wd (isB (nmB k).toList) 1 : Int), .int .u64 (wd (isB (nmB k).toList) 2 : Int), .int .u64 (wd (isB (nmB k).toList) 3 : Int)] 25)).heap.size := Nat.lt_of_lt_of_le hga (by simp)
          go_roundw
          case rel => exact ⟨k + 1, by omega, by go_num, by rw [HTH.out], z1, z2, ⟨z5, z3⟩, below_drewN nq z4⟩
          case measure => simp [RowKit.intOf]; omega
      · obtain ⟨m, rfl⟩ : ∃ m, k = m + 1 := ⟨k - 1, by omega⟩
        have q1 := HGa.out m (by omega)
        have hle := nm_less m (by omega)
        have hd1 : decide ((m : Int) + 1 < 12) = true := decide_eq_true (by omega)
        have hi0 : (0 : Int) ≤ (m : Int) := by omega
        have hi1 : (m : Int) < 12 := by omega
        have hi2 : (m : Int) + 1 < 12 := by omega
        have hd3 : decide ((0 : Int) < (m : Int) + 1) = true := decide_eq_true (by omega)
        clear hk0
        cases hq : ((nmB (m + 1)).toList == s.toList)
        · cases ht : thr s (m + 1)
          · have hth : thr s ((m + 1) + 1) = false := by rw [thr_succ s (m + 1), ht, hq]; rfl
            have HTH := Lib.hid hth
            clear hth
            go_wp2_with fail
            go_quiet (fail)
            go_wp2
            have z1 := B1.out.alloc (.cells #[.int .u64 (wd (isB (nmB (m + 1)).toList) 0 : Int), .int .u64 (wd (isB (nmB (m + 1)).toList) 1 : Int), .int .u64 (wd (isB (nmB (m + 1)).toList) 2 : Int), .int .u64 (wd (isB (nmB (m + 1)).toList) 3 : Int)] 25)
            have z2 := B2.out.alloc (.cells #[.int .u64 (wd (isB (nmB (m + 1)).toList) 0 : Int), .int .u64 (wd (isB (nmB (m + 1)).toList) 1 : Int), .int .u64 (wd (isB (nmB (m + 1)).toList) 2 : Int), .int .u64 (wd (isB (nmB (m + 1)).toList) 3 : Int)] 25)
            have z3 : ∀ j, j < 12 → (wa.alloc (.cells #[.int .u64 (wd (isB (nmB (m + 1)).toList) 0 : Int), .int .u64 (wd (isB (nmB (m + 1)).toList) 1 : Int), .int .u64 (wd (isB (nmB (m + 1)).toList) 2 : Int), .int .u64 (wd (isB (nmB (m + 1)).toList) 3 : Int)] 25)).cell? ⟨g, j, none⟩ = some (.string (nmB j)) := fun j hj => (World.cell?_alloc_lt _ _ ⟨g, j, none⟩ hga).trans (HGa.out j hj)
            have z4 := HB.out.alloc HB.out.size (.cells #[.int .u64 (wd (isB (nmB (m + 1)).toList) 0 : Int), .int .u64 (wd (isB (nmB (m + 1)).toList) 1 : Int), .int .u64 (wd (isB (nmB (m + 1)).toList) 2 : Int), .int .u64 (wd (isB (nmB (m + 1)).toList) 3 : Int)] 25)
            have z5 : g < (wa.alloc (.cells #[.int .u64 (wd (isB (nmB (m + 1)).toList) 0 : Int), .int .u64 (wd (isB (nmB (m + 1)).toList) 1 : Int), .int .u64 (wd (isB (nmB (m + 1)).toList) 2 : Int), .int .u64 (wd (isB (nmB (m + 1)).toList) 3 : Int)] 25)).heap.size := Nat.lt_of_lt_of_le hga (by simp)
            go_roundw
            case rel => exact ⟨(m + 1) + 1, by omega, by go_num, by rw [HTH.out], z1, z2, ⟨z5, z3⟩, below_drewN nq z4⟩
            case measure => simp [RowKit.intOf]; omega
          · have hth : thr s ((m + 1) + 1) = true := by rw [thr_succ s (m + 1), ht, hq]; rfl
            have HTH := Lib.hid hth
            clear hth
            go_wp2_with fail
            go_quiet (fail)
            go_wp2
            have z1 := B1.out.alloc (.cells #[.int .u64 (wd (isB (nmB (m + 1)).toList) 0 : Int), .int .u64 (wd (isB (nmB (m + 1)).toList) 1 : Int), .int .u64 (wd (isB (nmB (m + 1)).toList) 2 : Int), .int .u64 (wd (isB (nmB (m + 1)).toList) 3 : Int)] 25)
            have z2 := B2.out.alloc (.cells #[.int .u64 (wd (isB (nmB (m + 1)).toList) 0 : Int), .int .u64 (wd (isB (nmB (m + 1)).toList) 1 : Int), .int .u64 (wd (isB (nmB (m + 1)).toList) 2 : Int), .int .u64 (wd (isB (nmB (m + 1)).toList) 3 : Int)] 25)
            have z3 : ∀ j, j < 12 → (wa.alloc (.cells #[.int .u64 (wd (isB (nmB (m + 1)).toList) 0 : Int), .int .u64 (wd (isB (nmB (m + 1)).toList) 1 : Int), .int .u64 (wd (isB (nmB (m + 1)).toList) 2 : Int), .int .u64 (wd (isB (nmB (m + 1)).toList) 3 : Int)] 25)).cell? ⟨g, j, none⟩ = some (.string (nmB j)) := fun j hj => (World.cell?_alloc_lt _ _ ⟨g, j, none⟩ hga).trans (HGa.out j hj)
            have z4 := HB.out.alloc HB.out.size (.cells #[.int .u64 (wd (isB (nmB (m + 1)).toList) 0 : Int), .int .u64 (wd (isB (nmB (m + 1)).toList) 1 : Int), .int .u64 (wd (isB (nmB (m + 1)).toList) 2 : Int), .int .u64 (wd (isB (nmB (m + 1)).toList) 3 : Int)] 25)
            have z5 : g < (wa.alloc (.cells #[.int .u64 (wd (isB (nmB (m + 1)).toList) 0 : Int), .int .u64 (wd (isB (nmB (m + 1)).toList) 1 : Int), .int .u64 (wd (isB (nmB (m + 1)).toList) 2 : Int), .int .u64 (wd (isB (nmB (m + 1)).toList) 3 : Int)] 25)).heap.size := Nat.lt_of_lt_of_le hga (by simp)
            go_roundw
            case rel => exact ⟨(m + 1) + 1, by omega, by go_num, by rw [HTH.out], z1, z2, ⟨z5, z3⟩, below_drewN nq z4⟩
            case measure => simp [RowKit.intOf]; omega
        · cases ht : thr s (m + 1)
          · have hth : thr s ((m + 1) + 1) = true := by rw [thr_succ s (m + 1), ht, hq]; rfl
            have HTH := Lib.hid hth
            clear hth
            go_wp2_with fail
            go_quiet (fail)
            go_wp2
            have z1 := B1.out.alloc (.cells #[.int .u64 (wd (isB (nmB (m + 1)).toList) 0 : Int), .int .u64 (wd (isB (nmB (m + 1)).toList) 1 : Int), .int .u64 (wd (isB (nmB (m + 1)).toList) 2 : Int), .int .u64 (wd (isB (nmB (m + 1)).toList) 3 : Int)] 25)
            have z2 := B2.out.alloc (.cells #[.int .u64 (wd (isB (nmB (m + 1)).toList) 0 : Int), .int .u64 (wd (isB (nmB (m + 1)).toList) 1 : Int), .int .u64 (wd (isB (nmB (m + 1)).toList) 2 : Int), .int .u64 (wd (isB (nmB (m + 1)).toList) 3 : Int)] 25)
            have z3 : ∀ j, j < 12 → (wa.alloc (.cells #[.int .u64 (wd (isB (nmB (m + 1)).toList) 0 : Int), .int .u64 (wd (isB (nmB (m + 1)).toList) 1 : Int), .int .u64 (wd (isB (nmB (m + 1)).toList) 2 : Int), .int .u64 (wd (isB (nmB (m + 1)).toList) 3 : Int)] 25)).cell? ⟨g, j, none⟩ = some (.string (nmB j)) := fun j hj => (World.cell?_alloc_lt _ _ ⟨g, j, none⟩ hga).trans (HGa.out j hj)
            have z4 := HB.out.alloc HB.out.size (.cells #[.int .u64 (wd (isB (nmB (m + 1)).toList) 0 : Int), .int .u64 (wd (isB (nmB (m + 1)).toList) 1 : Int), .int .u64 (wd (isB (nmB (m + 1)).toList) 2 : Int), .int .u64 (wd (isB (nmB (m + 1)).toList) 3 : Int)] 25)
            have z5 : g < (wa.alloc (.cells #[.int .u64 (wd (isB (nmB (m + 1)).toList) 0 : Int), .int .u64 (wd (isB (nmB (m + 1)).toList) 1 : Int), .int .u64 (wd (isB (nmB (m + 1)).toList) 2 : Int), .int .u64 (wd (isB (nmB (m + 1)).toList) 3 : Int)] 25)).heap.size := Nat.lt_of_lt_of_le hga (by simp)
            go_roundw
            case rel => exact ⟨(m + 1) + 1, by omega, by go_num, by rw [HTH.out], z1, z2, ⟨z5, z3⟩, below_drewN nq z4⟩
            case measure => simp [RowKit.intOf]; omega
          · have hth : thr s ((m + 1) + 1) = true := by rw [thr_succ s (m + 1), ht, hq]; rfl
            have HTH := Lib.hid hth
            clear hth
            go_wp2_with fail
            go_quiet (fail)
            go_wp2
            have z1 := B1.out.alloc (.cells #[.int .u64 (wd (isB (nmB (m + 1)).toList) 0 : Int), .int .u64 (wd (isB (nmB (m + 1)).toList) 1 : Int), .int .u64 (wd (isB (nmB (m + 1)).toList) 2 : Int), .int .u64 (wd (isB (nmB (m + 1)).toList) 3 : Int)] 25)
            have z2 := B2.out.alloc (.cells #[.int .u64 (wd (isB (nmB (m + 1)).toList) 0 : Int), .int .u64 (wd (isB (nmB (m + 1)).toList) 1 : Int), .int .u64 (wd (isB (nmB (m + 1)).toList) 2 : Int), .int .u64 (wd (isB (nmB (m + 1)).toList) 3 : Int)] 25)
            have z3 : ∀ j, j < 12 → (wa.alloc (.cells #[.int .u64 (wd (isB (nmB (m + 1)).toList) 0 : Int), .int .u64 (wd (isB (nmB (m + 1)).toList) 1 : Int), .int .u64 (wd (isB (nmB (m + 1)).toList) 2 : Int), .int .u64 (wd (isB (nmB (m + 1)).toList) 3 : Int)] 25)).cell? ⟨g, j, none⟩ = some (.string (nmB j)) := fun j hj => (World.cell?_alloc_lt _ _ ⟨g, j, none⟩ hga).trans (HGa.out j hj)
            have z4 := HB.out.alloc HB.out.size (.cells #[.int .u64 (wd (isB (nmB (m + 1)).toList) 0 : Int), .int .u64 (wd (isB (nmB (m + 1)).toList) 1 : Int), .int .u64 (wd (isB (nmB (m + 1)).toList) 2 : Int), .int .u64 (wd (isB (nmB (m + 1)).toList) 3 : Int)] 25)
            have z5 : g < (wa.alloc (.cells #[.int .u64 (wd (isB (nmB (m + 1)).toList) 0 : Int), .int .u64 (wd (isB (nmB (m + 1)).toList) 1 : Int), .int .u64 (wd (isB (nmB (m + 1)).toList) 2 : Int), .int .u64 (wd (isB (nmB (m + 1)).toList) 3 : Int)] 25)).heap.size := Nat.lt_of_lt_of_le hga (by simp)
            go_roundw
            case rel => exact ⟨(m + 1) + 1, by omega, by go_num, by rw [HTH.out], z1, z2, ⟨z5, z3⟩, below_drewN nq z4⟩
            case measure => simp [RowKit.intOf]; omega
    · obtain rfl : k = 12 := by omega
      have hth : thr s 12 = N := by rw [thr_is, HL.out]; exact HN.out
      rw [hth]
      clear hth
      obtain ⟨p0, p1, p2, p3⟩ := b1.cells
      obtain ⟨p4, p5, p6, p7⟩ := b2.cells
      have HB := Lib.hid hBw
      clear b1 b2 hBw hgc hgw
      cases N
      · go_wp2
        go_ret
        exact ⟨rfl, HB.out⟩
      · go_wp2
        go_ret
        exact ⟨rfl, HB.out⟩
end Go.Proofs.YtpgikkmpnbcljaaDoor
