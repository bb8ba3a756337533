/-
  The walk of show's Text, whole.
-/
import Derived.Test.YtjbmkbgoahppfaaDoorPk18
import Derived.Deep.RegionHeldLaw
namespace Go.Proofs.YtjbmkbgoahppfaaDoor
open Go.RowKit

theorem infoPart : (Tryd.prog.info? 64).map (fun i => (i.zero, i.size, i.bytes)) = some (some (.agg #[.int .i64 0, .string ByteArray.empty]), 2, 24) := by kernel_rfl
/-- What Text tells. -/
def textPost (N : Nat → Nd) (n : Nat) (w : World) (e : Ending) (w' : World) : Prop := e = .returned (.tuple #[.string (showF N n).1, .int .i64 (showF N n).2]) ∧ Below w.heap.size w w'

set_option maxRecDepth 100000 in
set_option maxHeartbeats 2000000 in
theorem ctext_not (p : Option Addr) (n cap : Nat) (N : Nat → Nd) (ht : ¬ tree N n) (w : World) (hR : Calls Tryd.prog 17 #[.slice p n cap] w fun e w' => e = .returned (.bool (decide (tree N n))) ∧ Below w.heap.size w w') :
    Calls Tryd.prog 16 #[.slice p n cap] w (textPost N n w) := by
  have HF := Lib.hid (showF_not ht)
  rw [decide_eq_false ht] at hR
  have HR := Lib.hid hR
  clear hR ht
  unfold textPost
  go_enter Tryd.func16, Tryd.ntmps16
  go_wp2_with fail
  refine HR.out.mono ?_
  rintro e w1 ⟨rfl, hb⟩
  have HB := Lib.hid hb
  clear hb
  go_wp2_with fail
  go_returns
  exact ⟨by rw [HF.out] <;> rfl, HB.out⟩

set_option maxRecDepth 100000 in
set_option maxHeartbeats 8000000 in
theorem ctext_tree (b off n cap : Nat) (N : Nat → Nd) (ht : tree N n) (hw : ∀ j, j < n → okW (N j)) (w : World) (hT : Tabbed w) (hr : rdN w b off n N) :
    Calls Tryd.prog 16 #[.slice (some ⟨b, off, none⟩) n cap] w (textPost N n w) := by
  obtain ⟨i0, hi, hz0, hz1, hz2⟩ := info_parts infoPart
  have hn := ht.1
  have hpos : 0 < n := by
    rcases Nat.eq_zero_or_pos n with h | h
    · subst h; have := ht.2.2; simp [dep] at this
    · exact h
  have hR := right_some b off n cap N hn w hr
  rw [decide_eq_true ht] at hR
  have HR := Lib.hid hR
  have HRD := Lib.hid hr
  have HTR := Lib.hid ht
  have HW := Lib.hid hw
  have HT := Lib.hid hT
  have HEND := Lib.hid (fun h => showF_ok ht h)
  clear hR hr ht hw hT
  unfold textPost
  go_enter Tryd.func16, Tryd.ntmps16
  go_wp2_with fail
  refine HR.out.mono ?_
  rintro e w1 ⟨rfl, hb⟩
  have HB1 := Lib.hid hb
  have HRD1 := Lib.hid (HRD.out.below hb)
  have HT1 := Lib.hid (HT.out.to hb)
  clear hb HR HRD HT
  go_wp2_with fail
  go_loopw [4, 14] (fun v i wr => ∃ k : Nat, k ≤ n ∧ i = .int .i64 k ∧ Hid (wr.ownsRow w1.heap.size 64 2 v (roots N k).length (pvs N (roots N k))) ∧ Hid (∀ j, j < k → (txB N j).size ≤ 200) ∧ Below w1.heap.size w1 wr) (fun _ i _ => n - (intOf i).toNat)
  case atStart => exact ⟨0, Nat.zero_le _, rfl, Lib.hid (World.ownsRow_nil _ _ _ _), Lib.hid (fun j hj => by omega), Below.refl _ _⟩
  case round =>
    obtain ⟨k, hk, rfl, HO, HZ, hB⟩ := hrel
    have HB := Lib.hid hB
    clear hB
    by_cases hlt : k < n
    · obtain ⟨hbl, p0, p1, p2, p3, p4, p5, p6⟩ := (HRD1.out.below HB.out) k hlt
      obtain ⟨a1, a2, a3⟩ := ar_two HTR.out hlt
      have HAR := Lib.hid (args_any (N k).k)
      rw [a1] at HAR
      have HRS := Lib.hid (roots_succ N k)
      have hrl := roots_len N k
      have HLF : Hid ((ar (N k).k).toNat = 0 → ∀ v w, Tabbed w → Calls Tryd.prog 28 #[ndr (N k), v] w (strPost (txB N k) w)) := Lib.hid (by
        intro h0 v w hT
        have hkk : (N k).k = 1 ∨ (N k).k = 2 ∨ (N k).k = 3 ∨ (N k).k = 4 := by
          have hg := (HTR.out.2.1 k hlt).1
          rcases ar_cases (N k).k with ⟨_, h⟩ | ⟨h, _⟩ | ⟨h, _⟩ | ⟨h, _⟩
          · exact h
          all_goals (rw [h] at h0 hg; simp at h0 hg)
        rw [txB_leaf hkk]
        exact node_leaf (N k) (HW.out k hlt) hkk v w hT)
      obtain ⟨a, ha⟩ : ∃ a, (ar (N k).k).toNat = a := ⟨_, rfl⟩
      obtain ⟨L, hL⟩ : ∃ L, (roots N k).length = L := ⟨_, rfl⟩
      rw [ha] at HAR HRS HLF a2 a3
      rw [hL] at HO HRS a2 hrl
      obtain ⟨r, rfl⟩ : ∃ r, L = r + a := ⟨L - a, by omega⟩
      rw [Nat.add_sub_cancel] at HRS
      have HNA : Hid (∀ w, Tabbed w → ∀ g cap, g < w.heap.size → rowsAt N (roots N k) w g → Calls Tryd.prog 28 #[ndr (N k), .slice (some ⟨g, r * 2, none⟩) a cap] w (strPost (txB N k) w)) := Lib.hid (fun w hT g cap hg hp => by
        have h := node_at HTR.out hlt (HW.out k hlt) w hT g cap hg hp HZ.out
        rw [ha, hL, Nat.add_sub_cancel] at h
        exact h)
      have hlong := fun h => showF_long HTR.out hlt h
      obtain ⟨s, hs⟩ : ∃ s, txB N k = s := ⟨_, rfl⟩
      rw [hs] at HNA HLF hlong
      have HS := Lib.hid hs
      have HLONG := Lib.hid hlong
      obtain ⟨⟨kd, ya, yb, yc, yd, ylo, yhi⟩, hy⟩ : ∃ y, N k = y := ⟨_, rfl⟩
      have HPV : Hid (pvs N [k] = [.int .i64 kd, .string s]) := Lib.hid (by simp [pvs, hy, hs])
      rw [hy] at p0 p1 p2 p3 p4 p5 p6 HAR HNA HLF
      simp only at p0 p1 p2 p3 p4 p5 p6
      unfold ndr at HNA HLF
      have HLL := Lib.hid hL
      have i0' : (0 : Int) ≤ (k : Int) := by omega
      have i1 : (k : Int) < (n : Int) := by omega
      clear a1 hs hlong hy ha hL
      rcases id HO.out.2 with ⟨rfl, h0⟩ | ⟨g, cp, cur, rfl, hg1, hg2, -⟩
      · obtain ⟨rfl, rfl⟩ : r = 0 ∧ a = 0 := by omega
        have HL0 := Lib.hid (HLF.out rfl)
        clear HLF HNA
        go_wp2_with fail
        refine (HAR.out _).mono ?_
        rintro e wk ⟨rfl, hwk⟩
        subst hwk
        go_wp2_with fail
        obtain ⟨W, hW⟩ : ∃ W, wr.alloc (.cells #[.int .i64 kd, .int .u64 ya, .int .u64 yb, .int .u64 yc, .int .u64 yd, .int .i64 ylo, .int .i64 yhi] 45) = W := ⟨_, rfl⟩
        have c0 : W.cell? ⟨wr.heap.size, 0, none⟩ = some (.int .i64 kd) := by rw [← hW]; simp
        have c1 : W.cell? ⟨wr.heap.size, 1, none⟩ = some (.int .u64 ya) := by rw [← hW]; simp
        have c2 : W.cell? ⟨wr.heap.size, 2, none⟩ = some (.int .u64 yb) := by rw [← hW]; simp
        have c3 : W.cell? ⟨wr.heap.size, 3, none⟩ = some (.int .u64 yc) := by rw [← hW]; simp
        have c4 : W.cell? ⟨wr.heap.size, 4, none⟩ = some (.int .u64 yd) := by rw [← hW]; simp
        have c5 : W.cell? ⟨wr.heap.size, 5, none⟩ = some (.int .i64 ylo) := by rw [← hW]; simp
        have c6 : W.cell? ⟨wr.heap.size, 6, none⟩ = some (.int .i64 yhi) := by rw [← hW]; simp
        have hlW : wr.heap.size < W.heap.size := by rw [← hW]; simp
        have HBW : Hid (Below w1.heap.size w1 W) := Lib.hid (hW ▸ HB.out.alloc HB.out.size _)
        have hB := Below.refl W.heap.size W
        rw [hW]
        clear hW p0 p1 p2 p3 p4 p5 p6 h0 hbl HO HB
        go_region_held_law (fun w' => w'.cell? ⟨wr.heap.size, 0, none⟩ = some (.int .i64 kd) ∧ w'.cell? ⟨wr.heap.size, 1, none⟩ = some (.int .u64 ya) ∧ w'.cell? ⟨wr.heap.size, 2, none⟩ = some (.int .u64 yb) ∧ w'.cell? ⟨wr.heap.size, 3, none⟩ = some (.int .u64 yc) ∧ w'.cell? ⟨wr.heap.size, 4, none⟩ = some (.int .u64 yd) ∧ w'.cell? ⟨wr.heap.size, 5, none⟩ = some (.int .i64 ylo) ∧ w'.cell? ⟨wr.heap.size, 6, none⟩ = some (.int .i64 yhi))
          (exact ⟨cell_far hB hlW c0, cell_far hB hlW c1, cell_far hB hlW c2, cell_far hB hlW c3, cell_far hB hlW c4, cell_far hB hlW c5, cell_far hB hlW c6⟩)
          (first | (go_at_call 28; (with_reducible refine (HL0.out _ _ ?t1).mono ?_); (case t1 => exact HT1.out.to HBW.out.drew); rintro e wk ⟨rfl, hb⟩; replace hB := hB.drew.trans (hb.mono (by exact hB.size)); clear hb))
        rename_i hHeld
        have cK := hHeld.1
        have HBk := Lib.hid (HBW.out.trans (hB.mono HBW.out.size))
        clear hHeld hB c0 c1 c2 c3 c4 c5 c6
        by_cases hsz : s.size ≤ 200
        · have d1 : ¬ (200 < s.size) := by omega
          have HOT : Hid (wk.ownsRow w1.heap.size 64 2 (.slice none 0 0) 0 (pvs N ((roots N k).take 0))) := Lib.hid (by
            rw [List.take_zero]
            exact World.ownsRow_nil _ _ _ _)
          have HK : Hid (∀ w', Below wk.heap.size wk w' → w'.cell? ⟨wr.heap.size, 0, none⟩ = some (.int .i64 kd)) := Lib.hid (fun w' hb => by
            rw [hb.cell (p := ⟨wr.heap.size, 0, none⟩) (World.block_lt_of_cell? wk _ cK)]; exact cK)
          have hBk := Below.refl wk.heap.size wk
          go_wp2_with fail
          go_region_held_law (fun w' => w'.cell? ⟨wr.heap.size, 0, none⟩ = some (.int .i64 kd))
            (first | exact HK.out _ hBk | exact HK.out _ hBk.drew | exact HK.out _ (hBk.alloc (Nat.le_refl _) _) | exact HK.out _ (hBk.alloc (Nat.le_refl _) _).drew | exact HKe.out)
            ((refine wp_append_own _ _ _ 60 rfl w1.heap.size 64 i0 (.agg #[.int .i64 0, .string ByteArray.empty]) 2 24 Tryd.underlying60 hi hz0 hz1 hz2 rfl (by decide) _ 0 (pvs N ((roots N k).take 0)) rfl (HOT.out.alloc _) ⟨wk.heap.size, 0, none⟩ 1 1 [.int .i64 kd, .string s] rfl rfl (by intro j u hj; match j, hj with | 0, hj => (simp at hj; subst hj; simp [Addr.add]) | 1, hj => (simp at hj; subst hj; simp [Addr.add])) (by intro u hu; simp at hu; rcases hu with rfl | rfl <;> rfl) (by unfold maxLen; omega) (by omega) (by have := HBk.out.size; simp; omega) ?_; intro v5 w5 h5 hg5 _; have HO5 := Lib.hid h5; have HG5 := Lib.hid hg5; have HKe : Hid (w5.cell? ⟨wr.heap.size, 0, none⟩ = some (.int .i64 kd)) := Lib.hid (hg5.cell (HK.out _ (hBk.alloc (Nat.le_refl _) _).drew) (by intro h; cases h)); clear h5 hg5))
          all_goals
            have HB5 : Hid (Below w1.heap.size w1 w5) := Lib.hid ((HBk.out.alloc HBk.out.size _).drew.grown HG5.out (by have := HBk.out.size; simp; omega) fun r hr => (HOT.out.lt r hr).1)
            have HO6 : Hid (w5.ownsRow w1.heap.size 64 2 v5 (roots N (k + 1)).length (pvs N (roots N (k + 1)))) := Lib.hid (by
              rw [HRS.out, List.length_append, List.length_take, HLL.out, Nat.min_eq_left (by omega), pvs_append, HPV.out]
              exact HO5.out)
            have HZ6 : Hid (∀ j, j < k + 1 → (txB N j).size ≤ 200) := Lib.hid (fun j hj => by
              by_cases h : j < k
              · exact HZ.out j h
              · rw [show j = k by omega, HS.out]; exact hsz)
            clear hBk
            go_wp2_with fail
            go_roundw
            case rel => exact ⟨k + 1, by omega, by go_num, HO6, HZ6, HB5.out⟩
            case measure => simp [intOf]; omega
        · have d1 : 200 < s.size := by omega
          have HFL := Lib.hid (HLONG.out d1)
          have HBB := Lib.hid (HB1.out.trans (HBk.out.mono HB1.out.size))
          go_wp2_with fail
          go_returns
          exact ⟨by rw [HFL.out] <;> rfl, HBB.out⟩
      · go_wp2_with fail
        refine (HAR.out _).mono ?_
        rintro e wk ⟨rfl, hwk⟩
        subst hwk
        go_wp2_with fail
        obtain ⟨W, hW⟩ : ∃ W, wr.alloc (.cells #[.int .i64 kd, .int .u64 ya, .int .u64 yb, .int .u64 yc, .int .u64 yd, .int .i64 ylo, .int .i64 yhi] 45) = W := ⟨_, rfl⟩
        have c0 : W.cell? ⟨wr.heap.size, 0, none⟩ = some (.int .i64 kd) := by rw [← hW]; simp
        have c1 : W.cell? ⟨wr.heap.size, 1, none⟩ = some (.int .u64 ya) := by rw [← hW]; simp
        have c2 : W.cell? ⟨wr.heap.size, 2, none⟩ = some (.int .u64 yb) := by rw [← hW]; simp
        have c3 : W.cell? ⟨wr.heap.size, 3, none⟩ = some (.int .u64 yc) := by rw [← hW]; simp
        have c4 : W.cell? ⟨wr.heap.size, 4, none⟩ = some (.int .u64 yd) := by rw [← hW]; simp
        have c5 : W.cell? ⟨wr.heap.size, 5, none⟩ = some (.int .i64 ylo) := by rw [← hW]; simp
        have c6 : W.cell? ⟨wr.heap.size, 6, none⟩ = some (.int .i64 yhi) := by rw [← hW]; simp
        have hlW : wr.heap.size < W.heap.size := by rw [← hW]; simp
        have HBW : Hid (Below w1.heap.size w1 W) := Lib.hid (hW ▸ HB.out.alloc HB.out.size _)
        have HOW : Hid (W.ownsRow w1.heap.size 64 2 (.slice (some ⟨g, 0, none⟩) (r + a) cp) (r + a) (pvs N (roots N k))) := Lib.hid (hW ▸ HO.out.alloc _)
        have hcp : r + a ≤ cp := by
          rcases HOW.out.2 with ⟨hx, _⟩ | ⟨g', c', cur', hx, _, _, h5, _⟩
          · cases hx
          · simp only [Value.slice.injEq] at hx
            rw [hx.2.2]; exact h5
        have hB := Below.refl W.heap.size W
        have HROWS := Lib.hid (rowsAt_of HOW.out HLL.out)
        have HGW := Lib.hid (HOW.out.lt g rfl).2
        have HGr := Lib.hid (HO.out.lt g rfl).2
        have s1 : (0 : Int) ≤ (r : Int) := by omega
        have s2 : (r : Int) ≤ (r : Int) + (a : Int) := by omega
        have s3 : (r : Int) + (a : Int) ≤ (cp : Int) := by omega
        rw [hW]
        clear hW p0 p1 p2 p3 p4 p5 p6 hg1 hg2 hbl HO HB
        rcases Nat.eq_zero_or_pos a with h0 | h0
        · have HL0 := Lib.hid (HLF.out h0)
          subst h0
          rcases Nat.lt_or_ge r cp with s4 | s4
          · have s6 : ¬ (r = cp) := by omega
            have s7 : ¬ (cp - r = 0) := by omega
            go_region_held_law (fun w' => w'.cell? ⟨wr.heap.size, 0, none⟩ = some (.int .i64 kd) ∧ w'.cell? ⟨wr.heap.size, 1, none⟩ = some (.int .u64 ya) ∧ w'.cell? ⟨wr.heap.size, 2, none⟩ = some (.int .u64 yb) ∧ w'.cell? ⟨wr.heap.size, 3, none⟩ = some (.int .u64 yc) ∧ w'.cell? ⟨wr.heap.size, 4, none⟩ = some (.int .u64 yd) ∧ w'.cell? ⟨wr.heap.size, 5, none⟩ = some (.int .i64 ylo) ∧ w'.cell? ⟨wr.heap.size, 6, none⟩ = some (.int .i64 yhi))
              (exact ⟨cell_far hB hlW c0, cell_far hB hlW c1, cell_far hB hlW c2, cell_far hB hlW c3, cell_far hB hlW c4, cell_far hB hlW c5, cell_far hB hlW c6⟩)
              (first | (go_at_call 28; (with_reducible refine (HL0.out _ _ ?t1).mono ?_); (case t1 => exact HT1.out.to HBW.out.drew); rintro e wk ⟨rfl, hb⟩; replace hB := hB.drew.trans (hb.mono (by exact hB.size)); clear hb))
            rename_i hHeld
            have cK := hHeld.1
            have HBk := Lib.hid (HBW.out.trans (hB.mono HBW.out.size))
            have HOk := Lib.hid (owns_below HOW.out hB)
            clear hHeld hB c0 c1 c2 c3 c4 c5 c6
            by_cases hsz : s.size ≤ 200
            · have d1 : ¬ (200 < s.size) := by omega
              have HOT : Hid (wk.ownsRow w1.heap.size 64 2 (.slice (some ⟨g, 0, none⟩) r cp) r (pvs N ((roots N k).take r))) := Lib.hid (by
                rw [← pvs_take N _ r (by rw [HLL.out]; omega)]
                exact own_take HOk.out (by omega))
              have HK : Hid (∀ w', Below wk.heap.size wk w' → w'.cell? ⟨wr.heap.size, 0, none⟩ = some (.int .i64 kd)) := Lib.hid (fun w' hb => by
                rw [hb.cell (p := ⟨wr.heap.size, 0, none⟩) (World.block_lt_of_cell? wk _ cK)]; exact cK)
              have hBk := Below.refl wk.heap.size wk
              go_wp2_with fail
              go_region_held_law (fun w' => w'.cell? ⟨wr.heap.size, 0, none⟩ = some (.int .i64 kd))
                (first | exact HK.out _ hBk | exact HK.out _ hBk.drew | exact HK.out _ (hBk.alloc (Nat.le_refl _) _) | exact HK.out _ (hBk.alloc (Nat.le_refl _) _).drew | exact HKe.out)
                ((refine wp_append_own _ _ _ 60 rfl w1.heap.size 64 i0 (.agg #[.int .i64 0, .string ByteArray.empty]) 2 24 Tryd.underlying60 hi hz0 hz1 hz2 rfl (by decide) _ r (pvs N ((roots N k).take r)) rfl (HOT.out.alloc _) ⟨wk.heap.size, 0, none⟩ 1 1 [.int .i64 kd, .string s] rfl rfl (by intro j u hj; match j, hj with | 0, hj => (simp at hj; subst hj; simp [Addr.add]) | 1, hj => (simp at hj; subst hj; simp [Addr.add])) (by intro u hu; simp at hu; rcases hu with rfl | rfl <;> rfl) (by unfold maxLen; omega) (by omega) (by have := HBk.out.size; simp; omega) ?_; intro v5 w5 h5 hg5 _; have HO5 := Lib.hid h5; have HG5 := Lib.hid hg5; have HKe : Hid (w5.cell? ⟨wr.heap.size, 0, none⟩ = some (.int .i64 kd)) := Lib.hid (hg5.cell (HK.out _ (hBk.alloc (Nat.le_refl _) _).drew) (by have hGr := HGr.out; show some wr.heap.size ≠ some g; intro h; injection h with h; omega)); clear h5 hg5))
              all_goals
                have HB5 : Hid (Below w1.heap.size w1 w5) := Lib.hid ((HBk.out.alloc HBk.out.size _).drew.grown HG5.out (by have := HBk.out.size; simp; omega) fun r hr => (HOT.out.lt r hr).1)
                have HO6 : Hid (w5.ownsRow w1.heap.size 64 2 v5 (roots N (k + 1)).length (pvs N (roots N (k + 1)))) := Lib.hid (by
                  rw [HRS.out, List.length_append, List.length_take, HLL.out, Nat.min_eq_left (by omega), pvs_append, HPV.out]
                  exact HO5.out)
                have HZ6 : Hid (∀ j, j < k + 1 → (txB N j).size ≤ 200) := Lib.hid (fun j hj => by
                  by_cases h : j < k
                  · exact HZ.out j h
                  · rw [show j = k by omega, HS.out]; exact hsz)
                clear hBk
                go_wp2_with fail
                go_roundw
                case rel => exact ⟨k + 1, by omega, by go_num, HO6, HZ6, HB5.out⟩
                case measure => simp [intOf]; omega
            · have d1 : 200 < s.size := by omega
              have HFL := Lib.hid (HLONG.out d1)
              have HBB := Lib.hid (HB1.out.trans (HBk.out.mono HB1.out.size))
              go_wp2_with fail
              go_returns
              exact ⟨by rw [HFL.out] <;> rfl, HBB.out⟩
          · obtain rfl : r = cp := by omega
            have s7 : r - r = 0 := by omega
            go_region_held_law (fun w' => w'.cell? ⟨wr.heap.size, 0, none⟩ = some (.int .i64 kd) ∧ w'.cell? ⟨wr.heap.size, 1, none⟩ = some (.int .u64 ya) ∧ w'.cell? ⟨wr.heap.size, 2, none⟩ = some (.int .u64 yb) ∧ w'.cell? ⟨wr.heap.size, 3, none⟩ = some (.int .u64 yc) ∧ w'.cell? ⟨wr.heap.size, 4, none⟩ = some (.int .u64 yd) ∧ w'.cell? ⟨wr.heap.size, 5, none⟩ = some (.int .i64 ylo) ∧ w'.cell? ⟨wr.heap.size, 6, none⟩ = some (.int .i64 yhi))
              (exact ⟨cell_far hB hlW c0, cell_far hB hlW c1, cell_far hB hlW c2, cell_far hB hlW c3, cell_far hB hlW c4, cell_far hB hlW c5, cell_far hB hlW c6⟩)
              (first | (go_at_call 28; (with_reducible refine (HL0.out _ _ ?t1).mono ?_); (case t1 => exact HT1.out.to HBW.out.drew); rintro e wk ⟨rfl, hb⟩; replace hB := hB.drew.trans (hb.mono (by exact hB.size)); clear hb))
            rename_i hHeld
            have cK := hHeld.1
            have HBk := Lib.hid (HBW.out.trans (hB.mono HBW.out.size))
            have HOk := Lib.hid (owns_below HOW.out hB)
            clear hHeld hB c0 c1 c2 c3 c4 c5 c6
            by_cases hsz : s.size ≤ 200
            · have d1 : ¬ (200 < s.size) := by omega
              have HOT : Hid (wk.ownsRow w1.heap.size 64 2 (.slice (some ⟨g, 0, none⟩) r r) r (pvs N ((roots N k).take r))) := Lib.hid (by
                rw [← pvs_take N _ r (by rw [HLL.out]; omega)]
                exact own_take HOk.out (by omega))
              have HK : Hid (∀ w', Below wk.heap.size wk w' → w'.cell? ⟨wr.heap.size, 0, none⟩ = some (.int .i64 kd)) := Lib.hid (fun w' hb => by
                rw [hb.cell (p := ⟨wr.heap.size, 0, none⟩) (World.block_lt_of_cell? wk _ cK)]; exact cK)
              have hBk := Below.refl wk.heap.size wk
              go_wp2_with fail
              go_region_held_law (fun w' => w'.cell? ⟨wr.heap.size, 0, none⟩ = some (.int .i64 kd))
                (first | exact HK.out _ hBk | exact HK.out _ hBk.drew | exact HK.out _ (hBk.alloc (Nat.le_refl _) _) | exact HK.out _ (hBk.alloc (Nat.le_refl _) _).drew | exact HKe.out)
                ((refine wp_append_own _ _ _ 60 rfl w1.heap.size 64 i0 (.agg #[.int .i64 0, .string ByteArray.empty]) 2 24 Tryd.underlying60 hi hz0 hz1 hz2 rfl (by decide) _ r (pvs N ((roots N k).take r)) rfl (HOT.out.alloc _) ⟨wk.heap.size, 0, none⟩ 1 1 [.int .i64 kd, .string s] rfl rfl (by intro j u hj; match j, hj with | 0, hj => (simp at hj; subst hj; simp [Addr.add]) | 1, hj => (simp at hj; subst hj; simp [Addr.add])) (by intro u hu; simp at hu; rcases hu with rfl | rfl <;> rfl) (by unfold maxLen; omega) (by omega) (by have := HBk.out.size; simp; omega) ?_; intro v5 w5 h5 hg5 _; have HO5 := Lib.hid h5; have HG5 := Lib.hid hg5; have HKe : Hid (w5.cell? ⟨wr.heap.size, 0, none⟩ = some (.int .i64 kd)) := Lib.hid (hg5.cell (HK.out _ (hBk.alloc (Nat.le_refl _) _).drew) (by have hGr := HGr.out; show some wr.heap.size ≠ some g; intro h; injection h with h; omega)); clear h5 hg5))
              all_goals
                have HB5 : Hid (Below w1.heap.size w1 w5) := Lib.hid ((HBk.out.alloc HBk.out.size _).drew.grown HG5.out (by have := HBk.out.size; simp; omega) fun r hr => (HOT.out.lt r hr).1)
                have HO6 : Hid (w5.ownsRow w1.heap.size 64 2 v5 (roots N (k + 1)).length (pvs N (roots N (k + 1)))) := Lib.hid (by
                  rw [HRS.out, List.length_append, List.length_take, HLL.out, Nat.min_eq_left (by omega), pvs_append, HPV.out]
                  exact HO5.out)
                have HZ6 : Hid (∀ j, j < k + 1 → (txB N j).size ≤ 200) := Lib.hid (fun j hj => by
                  by_cases h : j < k
                  · exact HZ.out j h
                  · rw [show j = k by omega, HS.out]; exact hsz)
                clear hBk
                go_wp2_with fail
                go_roundw
                case rel => exact ⟨k + 1, by omega, by go_num, HO6, HZ6, HB5.out⟩
                case measure => simp [intOf]; omega
            · have d1 : 200 < s.size := by omega
              have HFL := Lib.hid (HLONG.out d1)
              have HBB := Lib.hid (HB1.out.trans (HBk.out.mono HB1.out.size))
              go_wp2_with fail
              go_returns
              exact ⟨by rw [HFL.out] <;> rfl, HBB.out⟩
        · have s4 : r < cp := by omega
          have s5 : (r : Int) < (cp : Int) := by omega
          have s6 : ¬ (r = cp) := by omega
          have s7 : ¬ (cp - r = 0) := by omega
          have HC := Lib.hid (HNA.out W.drew (HT1.out.to HBW.out.drew) g (cp - r) HGW.out HROWS.out)
          go_region_held_law (fun w' => w'.cell? ⟨wr.heap.size, 0, none⟩ = some (.int .i64 kd) ∧ w'.cell? ⟨wr.heap.size, 1, none⟩ = some (.int .u64 ya) ∧ w'.cell? ⟨wr.heap.size, 2, none⟩ = some (.int .u64 yb) ∧ w'.cell? ⟨wr.heap.size, 3, none⟩ = some (.int .u64 yc) ∧ w'.cell? ⟨wr.heap.size, 4, none⟩ = some (.int .u64 yd) ∧ w'.cell? ⟨wr.heap.size, 5, none⟩ = some (.int .i64 ylo) ∧ w'.cell? ⟨wr.heap.size, 6, none⟩ = some (.int .i64 yhi))
            (exact ⟨cell_far hB hlW c0, cell_far hB hlW c1, cell_far hB hlW c2, cell_far hB hlW c3, cell_far hB hlW c4, cell_far hB hlW c5, cell_far hB hlW c6⟩)
            (first | (go_at_call 28; (with_reducible refine HC.out.mono ?_); rintro e wk ⟨rfl, hb⟩; replace hB := hB.drew.trans (hb.mono (by exact hB.size)); clear hb))
          rename_i hHeld
          have cK := hHeld.1
          have HBk := Lib.hid (HBW.out.trans (hB.mono HBW.out.size))
          have HOk := Lib.hid (owns_below HOW.out hB)
          clear hHeld hB c0 c1 c2 c3 c4 c5 c6
          by_cases hsz : s.size ≤ 200
          · have d1 : ¬ (200 < s.size) := by omega
            have HOT : Hid (wk.ownsRow w1.heap.size 64 2 (.slice (some ⟨g, 0, none⟩) r cp) r (pvs N ((roots N k).take r))) := Lib.hid (by
              rw [← pvs_take N _ r (by rw [HLL.out]; omega)]
              exact own_take HOk.out (by omega))
            have HK : Hid (∀ w', Below wk.heap.size wk w' → w'.cell? ⟨wr.heap.size, 0, none⟩ = some (.int .i64 kd)) := Lib.hid (fun w' hb => by
              rw [hb.cell (p := ⟨wr.heap.size, 0, none⟩) (World.block_lt_of_cell? wk _ cK)]; exact cK)
            have hBk := Below.refl wk.heap.size wk
            go_wp2_with fail
            go_region_held_law (fun w' => w'.cell? ⟨wr.heap.size, 0, none⟩ = some (.int .i64 kd))
              (first | exact HK.out _ hBk | exact HK.out _ hBk.drew | exact HK.out _ (hBk.alloc (Nat.le_refl _) _) | exact HK.out _ (hBk.alloc (Nat.le_refl _) _).drew | exact HKe.out)
              ((refine wp_append_own _ _ _ 60 rfl w1.heap.size 64 i0 (.agg #[.int .i64 0, .string ByteArray.empty]) 2 24 Tryd.underlying60 hi hz0 hz1 hz2 rfl (by decide) _ r (pvs N ((roots N k).take r)) rfl (HOT.out.alloc _) ⟨wk.heap.size, 0, none⟩ 1 1 [.int .i64 kd, .string s] rfl rfl (by intro j u hj; match j, hj with | 0, hj => (simp at hj; subst hj; simp [Addr.add]) | 1, hj => (simp at hj; subst hj; simp [Addr.add])) (by intro u hu; simp at hu; rcases hu with rfl | rfl <;> rfl) (by unfold maxLen; omega) (by omega) (by have := HBk.out.size; simp; omega) ?_; intro v5 w5 h5 hg5 _; have HO5 := Lib.hid h5; have HG5 := Lib.hid hg5; have HKe : Hid (w5.cell? ⟨wr.heap.size, 0, none⟩ = some (.int .i64 kd)) := Lib.hid (hg5.cell (HK.out _ (hBk.alloc (Nat.le_refl _) _).drew) (by have hGr := HGr.out; show some wr.heap.size ≠ some g; intro h; injection h with h; omega)); clear h5 hg5))
            all_goals
              have HB5 : Hid (Below w1.heap.size w1 w5) := Lib.hid ((HBk.out.alloc HBk.out.size _).drew.grown HG5.out (by have := HBk.out.size; simp; omega) fun r hr => (HOT.out.lt r hr).1)
              have HO6 : Hid (w5.ownsRow w1.heap.size 64 2 v5 (roots N (k + 1)).length (pvs N (roots N (k + 1)))) := Lib.hid (by
                rw [HRS.out, List.length_append, List.length_take, HLL.out, Nat.min_eq_left (by omega), pvs_append, HPV.out]
                exact HO5.out)
              have HZ6 : Hid (∀ j, j < k + 1 → (txB N j).size ≤ 200) := Lib.hid (fun j hj => by
                by_cases h : j < k
                · exact HZ.out j h
                · rw [show j = k by omega, HS.out]; exact hsz)
              clear hBk
              go_wp2_with fail
              go_roundw
              case rel => exact ⟨k + 1, by omega, by go_num, HO6, HZ6, HB5.out⟩
              case measure => simp [intOf]; omega
          · have d1 : 200 < s.size := by omega
            have HFL := Lib.hid (HLONG.out d1)
            have HBB := Lib.hid (HB1.out.trans (HBk.out.mono HB1.out.size))
            go_wp2_with fail
            go_returns
            exact ⟨by rw [HFL.out] <;> rfl, HBB.out⟩
    · have hkn : k = n := by omega
      subst hkn
      have hra := roots_all HTR.out hpos
      have hO := HO.out
      rw [hra] at hO
      obtain ⟨g, cp, rfl, -⟩ : ∃ g cp, u4 = .slice (some ⟨g, 0, none⟩) 1 cp ∧ True := by
        rcases id hO.2 with ⟨rfl, h0⟩ | ⟨g, cp, cur, rfl, -⟩
        · cases h0
        · exact ⟨g, cp, rfl, trivial⟩
      obtain ⟨q0, q1⟩ := rowsAt_of hO rfl 0 (by simp)
      have HF := Lib.hid (HEND.out (HZ.out (k - 1) (by omega)))
      have q1' : wr.cell? ⟨g, 1, none⟩ = some (.string (txB N (k - 1))) := q1
      have HBB := Lib.hid (HB1.out.trans (HB.out.mono HB1.out.size))
      generalize txB N (k - 1) = s at *
      clear hO hra q0 q1 HO HZ HB
      go_wp2_with fail
      go_returns
      exact ⟨by rw [HF.out] <;> rfl, HBB.out⟩

/-- The code's Text, over any list. -/
theorem ctext_any (p : Option Addr) (n cap : Nat) (N : Nat → Nd) (h : n = 0 ∨ ∃ b off, p = some ⟨b, off, none⟩ ∧ (∀ j, j < n → okW (N j))) (w : World) (hT : Tabbed w) (hr : ∀ b off, p = some ⟨b, off, none⟩ → rdN w b off n N) :
    Calls Tryd.prog 16 #[.slice p n cap] w (textPost N n w) := by
  by_cases ht : tree N n
  · rcases h with rfl | ⟨b, off, rfl, hw⟩
    · have := ht.2.2; simp [dep] at this
    · exact ctext_tree b off n cap N ht hw w hT (hr b off rfl)
  · refine ctext_not p n cap N ht w ?_
    rcases Nat.lt_or_ge 512 n with hn | hn
    · exact right_long p n cap N hn w
    · rcases h with rfl | ⟨b, off, rfl, -⟩
      · exact right_zero p cap N w
      · exact right_some b off n cap N hn w (hr b off rfl)
end Go.Proofs.YtjbmkbgoahppfaaDoor
