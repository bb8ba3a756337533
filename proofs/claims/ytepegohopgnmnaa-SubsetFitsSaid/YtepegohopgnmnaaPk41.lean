/-
  The walk of facts' fold over numbers.
-/
import Derived.Test.YtepegohopgnmnaaPk40
import Derived.Test.YtepegohopgnmnaaPk9
import Derived.Test.YtepegohopgnmnaaPk18
import Derived.Deep.RegionHeldLaw
namespace Go.Proofs.Ytepegohopgnmnaa
open Go.RowKit

/-- The stack of numbers, as cells. -/
def svs7 (N : Nat → Nd) (L : List Nat) : List Value := L.map fun j => .int .i64 (szF (trT N j))
theorem svs7_append (N : Nat → Nd) (a b : List Nat) : svs7 N (a ++ b) = svs7 N a ++ svs7 N b := by simp [svs7]
theorem svs7_take (N : Nat → Nd) (L : List Nat) (r : Nat) (_h : r ≤ L.length) : (svs7 N L).take (r * 1) = svs7 N (L.take r) := by simp [svs7]
theorem svsAt_of {N : Nat → Nd} {L : List Nat} {w : World} {base g cap n : Nat} (h : w.ownsRow base 3 1 (.slice (some ⟨g, 0, none⟩) n cap) n (svs7 N L)) (hn : L.length = n) : szsAt N L w g := fun j hj => by
  subst hn
  rw [h.cellAt j (by omega)]
  simp [svs7, hj]
theorem infoI7 : (Try.prog.info? 3).map (fun i => (i.zero, i.size, i.bytes)) = some (some (.int .i64 0), 1, 8) := by kernel_rfl

set_option maxRecDepth 100000 in
set_option maxHeartbeats 8000000 in
theorem fold_i (b off n cap : Nat) (N : Nat → Nd) (ht : tree N n) (w : World) (hr : rdN w b off n N) :
    Calls Try.prog 53 #[.slice (some ⟨b, off, none⟩) n cap, .func (.func 54) #[] #[]] w (szPost (szF (trT N (n - 1))) w) := by
  obtain ⟨i0, hi, hz0, hz1, hz2⟩ := info_parts infoI7
  have hn := ht.1
  have hpos : 0 < n := (tree_iff.1 ht).1
  have HRD := Lib.hid hr
  have HTR := Lib.hid ht
  clear hr ht
  unfold szPost
  go_enter Try.func53, Try.ntmps53
  go_wp2_with fail
  have HRD1 := HRD
  go_loopw [5, 11] (fun v i wr => ∃ k : Nat, k ≤ n ∧ i = .int .i64 k ∧ Hid (wr.ownsRow w.heap.size 3 1 v (roots7 N k).length (svs7 N (roots7 N k))) ∧ Below w.heap.size w wr) (fun _ i _ => n - (intOf i).toNat)
  case atStart => exact ⟨0, Nat.zero_le _, rfl, Lib.hid (World.ownsRow_nil _ _ _ _), Below.refl _ _⟩
  case round =>
    obtain ⟨k, hk, rfl, HO, hB⟩ := hrel
    have HB := Lib.hid hB
    clear hB
    by_cases hlt : k < n
    · obtain ⟨hbl, p0, p1, p2, p3, p4, p5, p6⟩ := (HRD1.out.below HB.out) k hlt
      obtain ⟨a1, a2, a3⟩ := ar_two7 HTR.out hlt
      have HAR := Lib.hid (args_any (N k).k)
      rw [a1] at HAR
      have HRS := Lib.hid (roots_succ7 N k)
      have hrl := roots_len7 N k
      have HLF : Hid ((ar (N k).k).toNat = 0 → ∀ v w, Calls Try.prog 54 #[ndr7 (N k), v] w (szPost (szF (trT N k)) w)) := Lib.hid (by
        intro h0 v w
        have hkk : (N k).k = 1 ∨ (N k).k = 2 ∨ (N k).k = 3 ∨ (N k).k = 4 := by
          have hg := (HTR.out.2.1 k hlt).1
          rcases ar_cases (N k).k with ⟨_, h⟩ | ⟨h, _⟩ | ⟨h, _⟩ | ⟨h, _⟩
          · exact h
          all_goals (rw [h] at h0 hg; simp at h0 hg)
        rw [sz_leaf hkk]
        exact states_lf (N k) hkk v w)
      have HNA : Hid (∀ w, ∀ g cap, g < w.heap.size → szsAt N (roots7 N k) w g → Calls Try.prog 54 #[ndr7 (N k), .slice (some ⟨g, (roots7 N k).length - (ar (N k).k).toNat, none⟩) (ar (N k).k).toNat cap] w (szPost (szF (trT N k)) w)) := Lib.hid (fun w g cap hg hp => states_at HTR.out hlt w g cap hg hp)
      obtain ⟨a, ha⟩ : ∃ a, (ar (N k).k).toNat = a := ⟨_, rfl⟩
      obtain ⟨L, hL⟩ : ∃ L, (roots7 N k).length = L := ⟨_, rfl⟩
      rw [ha] at HAR HRS HLF HNA a2 a3
      rw [hL] at HO HRS HNA a2 hrl
      obtain ⟨r, rfl⟩ : ∃ r, L = r + a := ⟨L - a, by omega⟩
      rw [Nat.add_sub_cancel] at HRS HNA
      obtain ⟨D, hD⟩ : ∃ s, szF (trT N k) = s := ⟨_, rfl⟩
      rw [hD] at HNA HLF
      unfold szPost at HNA HLF
      have HPV : Hid (svs7 N [k] = [.int .i64 D]) := Lib.hid (by simp [svs7, hD])
      obtain ⟨⟨kd, ya, yb, yc, yd, ylo, yhi⟩, hy⟩ : ∃ y, N k = y := ⟨_, rfl⟩
      rw [hy] at p0 p1 p2 p3 p4 p5 p6 HAR HNA HLF
      simp only at p0 p1 p2 p3 p4 p5 p6
      unfold ndr7 at HNA HLF
      have HLL := Lib.hid hL
      have i0' : (0 : Int) ≤ (k : Int) := by omega
      have i1 : (k : Int) < (n : Int) := by omega
      clear a1 hD hy ha hL
      rcases id HO.out.2 with ⟨rfl, h0⟩ | ⟨g, cp, cur, rfl, hg1, hg2, -⟩
      · obtain ⟨rfl, rfl⟩ : r = 0 ∧ a = 0 := by omega
        have HL0 := Lib.hid (HLF.out rfl)
        clear HLF HNA
        go_wp2_with fail
        refine (HAR.out _).mono ?_
        rintro e wk ⟨rfl, hwk⟩
        subst hwk
        go_wp2_with fail
        obtain ⟨W, hW⟩ : ∃ W, wr.alloc (.cells #[.int .i64 kd, .int .u64 ya, .int .u64 yb, .int .u64 yc, .int .u64 yd, .int .i64 ylo, .int .i64 yhi] 71) = W := ⟨_, rfl⟩
        have c0 : W.cell? ⟨wr.heap.size, 0, none⟩ = some (.int .i64 kd) := by rw [← hW]; simp
        have c1 : W.cell? ⟨wr.heap.size, 1, none⟩ = some (.int .u64 ya) := by rw [← hW]; simp
        have c2 : W.cell? ⟨wr.heap.size, 2, none⟩ = some (.int .u64 yb) := by rw [← hW]; simp
        have c3 : W.cell? ⟨wr.heap.size, 3, none⟩ = some (.int .u64 yc) := by rw [← hW]; simp
        have c4 : W.cell? ⟨wr.heap.size, 4, none⟩ = some (.int .u64 yd) := by rw [← hW]; simp
        have c5 : W.cell? ⟨wr.heap.size, 5, none⟩ = some (.int .i64 ylo) := by rw [← hW]; simp
        have c6 : W.cell? ⟨wr.heap.size, 6, none⟩ = some (.int .i64 yhi) := by rw [← hW]; simp
        have hlW : wr.heap.size < W.heap.size := by rw [← hW]; simp
        have HBW : Hid (Below w.heap.size w W) := Lib.hid (hW ▸ HB.out.alloc HB.out.size _)
        have HK : Hid (∀ w', Below W.heap.size W w' → w'.cell? ⟨wr.heap.size, 0, none⟩ = some (.int .i64 kd) ∧ w'.cell? ⟨wr.heap.size, 1, none⟩ = some (.int .u64 ya) ∧ w'.cell? ⟨wr.heap.size, 2, none⟩ = some (.int .u64 yb) ∧ w'.cell? ⟨wr.heap.size, 3, none⟩ = some (.int .u64 yc) ∧ w'.cell? ⟨wr.heap.size, 4, none⟩ = some (.int .u64 yd) ∧ w'.cell? ⟨wr.heap.size, 5, none⟩ = some (.int .i64 ylo) ∧ w'.cell? ⟨wr.heap.size, 6, none⟩ = some (.int .i64 yhi)) := Lib.hid (fun w' hB => ⟨cell_far7 hB hlW c0, cell_far7 hB hlW c1, cell_far7 hB hlW c2, cell_far7 hB hlW c3, cell_far7 hB hlW c4, cell_far7 hB hlW c5, cell_far7 hB hlW c6⟩)
        have HX : Hid (∀ wk, Below W.heap.size W wk → wk.ownsRow w.heap.size 3 1 (.slice none 0 0) 0 (svs7 N ((roots7 N k).take 0))) := Lib.hid (fun wk hB => by
          rw [List.take_zero]
          exact World.ownsRow_nil _ _ _ _)
        have hB := Below.refl W.heap.size W
        rw [hW]
        clear hW p0 p1 p2 p3 p4 p5 p6 h0 hbl HO HB c0 c1 c2 c3 c4 c5 c6 hlW
        go_region_held_law (fun w' => w'.cell? ⟨wr.heap.size, 0, none⟩ = some (.int .i64 kd) ∧ w'.cell? ⟨wr.heap.size, 1, none⟩ = some (.int .u64 ya) ∧ w'.cell? ⟨wr.heap.size, 2, none⟩ = some (.int .u64 yb) ∧ w'.cell? ⟨wr.heap.size, 3, none⟩ = some (.int .u64 yc) ∧ w'.cell? ⟨wr.heap.size, 4, none⟩ = some (.int .u64 yd) ∧ w'.cell? ⟨wr.heap.size, 5, none⟩ = some (.int .i64 ylo) ∧ w'.cell? ⟨wr.heap.size, 6, none⟩ = some (.int .i64 yhi))
          (first | with_reducible exact HK.out _ hB | with_reducible exact HK.out _ hB.drew | exact HKe.out | exact HK.out _ (hB.alloc (by exact hB.size) _))
          (first | (go_at_call 54; (with_reducible refine (HL0.out _ _).mono ?_); rintro e wk ⟨rfl, hb⟩; (replace hB := hB.drew.trans (hb.mono (by exact hB.size))); clear hb; have HOT := Lib.hid (HX.out wk hB)) | (refine wp_append_own _ _ _ 27 rfl w.heap.size 3 i0 (.int .i64 0) 1 8 Try.underlying27 hi hz0 hz1 hz2 rfl (by decide) _ 0 (svs7 N ((roots7 N k).take 0)) rfl (HOT.out.alloc _) ⟨wk.heap.size, 0, none⟩ 1 1 [.int .i64 D] rfl rfl (by intro j u hj; match j, hj with | 0, hj => (simp at hj; subst hj; simp [Addr.add])) (by intro u hu; simp at hu; rcases hu with rfl <;> rfl) (by unfold maxLen; omega) (by omega) (by have := hB.size; have := HBW.out.size; simp; omega) ?_; intro v5 w5 h5 hg5 _; have HO5 := Lib.hid h5; have HG5 := Lib.hid hg5; have HKe : Hid (w5.cell? ⟨wr.heap.size, 0, none⟩ = some (.int .i64 kd) ∧ w5.cell? ⟨wr.heap.size, 1, none⟩ = some (.int .u64 ya) ∧ w5.cell? ⟨wr.heap.size, 2, none⟩ = some (.int .u64 yb) ∧ w5.cell? ⟨wr.heap.size, 3, none⟩ = some (.int .u64 yc) ∧ w5.cell? ⟨wr.heap.size, 4, none⟩ = some (.int .u64 yd) ∧ w5.cell? ⟨wr.heap.size, 5, none⟩ = some (.int .i64 ylo) ∧ w5.cell? ⟨wr.heap.size, 6, none⟩ = some (.int .i64 yhi)) := Lib.hid (by obtain ⟨k0, k1, k2, k3, k4, k5, k6⟩ := HK.out _ (hB.alloc (by exact hB.size) (.cells #[.int .i64 D] 3)); have hne := (show some wr.heap.size ≠ none from fun h => by cases h); exact ⟨hg5.cell k0 hne, hg5.cell k1 hne, hg5.cell k2 hne, hg5.cell k3 hne, hg5.cell k4 hne, hg5.cell k5 hne, hg5.cell k6 hne⟩); clear h5 hg5))
        all_goals
          have HB5 : Hid (Below w.heap.size w w5) := Lib.hid (((HBW.out.trans (hB.mono HBW.out.size)).alloc (by have := HBW.out.size; have := hB.size; omega) _).grown HG5.out (by have := HBW.out.size; have := hB.size; simp; omega) fun r hr => (HOT.out.lt r hr).1)
          have HO6 : Hid (w5.ownsRow w.heap.size 3 1 v5 (roots7 N (k + 1)).length (svs7 N (roots7 N (k + 1)))) := Lib.hid (by
            rw [HRS.out, List.length_append, List.length_take, HLL.out, Nat.min_eq_left (by omega), svs7_append, HPV.out]
            exact HO5.out)
          clear hB
          go_wp2_with fail
          go_roundw
          case rel => exact ⟨k + 1, by omega, by go_num, HO6, HB5.out⟩
          case measure => simp [intOf]; omega
      · go_wp2_with fail
        refine (HAR.out _).mono ?_
        rintro e wk ⟨rfl, hwk⟩
        subst hwk
        go_wp2_with fail
        obtain ⟨W, hW⟩ : ∃ W, wr.alloc (.cells #[.int .i64 kd, .int .u64 ya, .int .u64 yb, .int .u64 yc, .int .u64 yd, .int .i64 ylo, .int .i64 yhi] 71) = W := ⟨_, rfl⟩
        have c0 : W.cell? ⟨wr.heap.size, 0, none⟩ = some (.int .i64 kd) := by rw [← hW]; simp
        have c1 : W.cell? ⟨wr.heap.size, 1, none⟩ = some (.int .u64 ya) := by rw [← hW]; simp
        have c2 : W.cell? ⟨wr.heap.size, 2, none⟩ = some (.int .u64 yb) := by rw [← hW]; simp
        have c3 : W.cell? ⟨wr.heap.size, 3, none⟩ = some (.int .u64 yc) := by rw [← hW]; simp
        have c4 : W.cell? ⟨wr.heap.size, 4, none⟩ = some (.int .u64 yd) := by rw [← hW]; simp
        have c5 : W.cell? ⟨wr.heap.size, 5, none⟩ = some (.int .i64 ylo) := by rw [← hW]; simp
        have c6 : W.cell? ⟨wr.heap.size, 6, none⟩ = some (.int .i64 yhi) := by rw [← hW]; simp
        have hlW : wr.heap.size < W.heap.size := by rw [← hW]; simp
        have HBW : Hid (Below w.heap.size w W) := Lib.hid (hW ▸ HB.out.alloc HB.out.size _)
        have HK : Hid (∀ w', Below W.heap.size W w' → w'.cell? ⟨wr.heap.size, 0, none⟩ = some (.int .i64 kd) ∧ w'.cell? ⟨wr.heap.size, 1, none⟩ = some (.int .u64 ya) ∧ w'.cell? ⟨wr.heap.size, 2, none⟩ = some (.int .u64 yb) ∧ w'.cell? ⟨wr.heap.size, 3, none⟩ = some (.int .u64 yc) ∧ w'.cell? ⟨wr.heap.size, 4, none⟩ = some (.int .u64 yd) ∧ w'.cell? ⟨wr.heap.size, 5, none⟩ = some (.int .i64 ylo) ∧ w'.cell? ⟨wr.heap.size, 6, none⟩ = some (.int .i64 yhi)) := Lib.hid (fun w' hB => ⟨cell_far7 hB hlW c0, cell_far7 hB hlW c1, cell_far7 hB hlW c2, cell_far7 hB hlW c3, cell_far7 hB hlW c4, cell_far7 hB hlW c5, cell_far7 hB hlW c6⟩)
        have HOW : Hid (W.ownsRow w.heap.size 3 1 (.slice (some ⟨g, 0, none⟩) (r + a) cp) (r + a) (svs7 N (roots7 N k))) := Lib.hid (hW ▸ HO.out.alloc _)
        have hcp : r + a ≤ cp := by
          rcases HOW.out.2 with ⟨hx, _⟩ | ⟨g', c', cur', hx, _, _, h5, _⟩
          · cases hx
          · simp only [Value.slice.injEq] at hx
            rw [hx.2.2]; exact h5
        have HX : Hid (∀ wk, Below W.heap.size W wk → wk.ownsRow w.heap.size 3 1 (.slice (some ⟨g, 0, none⟩) r cp) r (svs7 N ((roots7 N k).take r))) := Lib.hid (fun wk hB => by
          rw [← svs7_take N _ r (by rw [HLL.out]; omega)]
          exact own_take7 (owns_below HOW.out hB) (by omega))
        have hB := Below.refl W.heap.size W
        have HROWS := Lib.hid (svsAt_of HOW.out HLL.out)
        have HGW := Lib.hid (HOW.out.lt g rfl).2
        have HGr := Lib.hid (HO.out.lt g rfl).2
        have s1 : (0 : Int) ≤ (r : Int) := by omega
        have s2 : (r : Int) ≤ (r : Int) + (a : Int) := by omega
        have s3 : (r : Int) + (a : Int) ≤ (cp : Int) := by omega
        rw [hW]
        clear hW p0 p1 p2 p3 p4 p5 p6 hg1 hg2 hbl HO HB c0 c1 c2 c3 c4 c5 c6 hlW
        rcases Nat.eq_zero_or_pos a with h0 | h0
        · have HL0 := Lib.hid (HLF.out h0)
          subst h0
          rcases Nat.lt_or_ge r cp with s4 | s4
          · have s6 : ¬ (r = cp) := by omega
            have s7 : ¬ (cp - r = 0) := by omega
            go_region_held_law (fun w' => w'.cell? ⟨wr.heap.size, 0, none⟩ = some (.int .i64 kd) ∧ w'.cell? ⟨wr.heap.size, 1, none⟩ = some (.int .u64 ya) ∧ w'.cell? ⟨wr.heap.size, 2, none⟩ = some (.int .u64 yb) ∧ w'.cell? ⟨wr.heap.size, 3, none⟩ = some (.int .u64 yc) ∧ w'.cell? ⟨wr.heap.size, 4, none⟩ = some (.int .u64 yd) ∧ w'.cell? ⟨wr.heap.size, 5, none⟩ = some (.int .i64 ylo) ∧ w'.cell? ⟨wr.heap.size, 6, none⟩ = some (.int .i64 yhi))
              (first | with_reducible exact HK.out _ hB | with_reducible exact HK.out _ hB.drew | exact HKe.out | exact HK.out _ (hB.alloc (by exact hB.size) _))
              (first | (go_at_call 54; (with_reducible refine (HL0.out _ _).mono ?_); rintro e wk ⟨rfl, hb⟩; (replace hB := hB.drew.trans (hb.mono (by exact hB.size))); clear hb; have HOT := Lib.hid (HX.out wk hB)) | (refine wp_append_own _ _ _ 27 rfl w.heap.size 3 i0 (.int .i64 0) 1 8 Try.underlying27 hi hz0 hz1 hz2 rfl (by decide) _ r (svs7 N ((roots7 N k).take r)) rfl (HOT.out.alloc _) ⟨wk.heap.size, 0, none⟩ 1 1 [.int .i64 D] rfl rfl (by intro j u hj; match j, hj with | 0, hj => (simp at hj; subst hj; simp [Addr.add])) (by intro u hu; simp at hu; rcases hu with rfl <;> rfl) (by unfold maxLen; omega) (by omega) (by have := hB.size; have := HBW.out.size; simp; omega) ?_; intro v5 w5 h5 hg5 _; have HO5 := Lib.hid h5; have HG5 := Lib.hid hg5; have HKe : Hid (w5.cell? ⟨wr.heap.size, 0, none⟩ = some (.int .i64 kd) ∧ w5.cell? ⟨wr.heap.size, 1, none⟩ = some (.int .u64 ya) ∧ w5.cell? ⟨wr.heap.size, 2, none⟩ = some (.int .u64 yb) ∧ w5.cell? ⟨wr.heap.size, 3, none⟩ = some (.int .u64 yc) ∧ w5.cell? ⟨wr.heap.size, 4, none⟩ = some (.int .u64 yd) ∧ w5.cell? ⟨wr.heap.size, 5, none⟩ = some (.int .i64 ylo) ∧ w5.cell? ⟨wr.heap.size, 6, none⟩ = some (.int .i64 yhi)) := Lib.hid (by obtain ⟨k0, k1, k2, k3, k4, k5, k6⟩ := HK.out _ (hB.alloc (by exact hB.size) (.cells #[.int .i64 D] 3)); have hne := (show some wr.heap.size ≠ some g from fun h => by have := HGr.out; injection h with h; omega); exact ⟨hg5.cell k0 hne, hg5.cell k1 hne, hg5.cell k2 hne, hg5.cell k3 hne, hg5.cell k4 hne, hg5.cell k5 hne, hg5.cell k6 hne⟩); clear h5 hg5))
            all_goals
              have HB5 : Hid (Below w.heap.size w w5) := Lib.hid (((HBW.out.trans (hB.mono HBW.out.size)).alloc (by have := HBW.out.size; have := hB.size; omega) _).grown HG5.out (by have := HBW.out.size; have := hB.size; simp; omega) fun r hr => (HOT.out.lt r hr).1)
              have HO6 : Hid (w5.ownsRow w.heap.size 3 1 v5 (roots7 N (k + 1)).length (svs7 N (roots7 N (k + 1)))) := Lib.hid (by
                rw [HRS.out, List.length_append, List.length_take, HLL.out, Nat.min_eq_left (by omega), svs7_append, HPV.out]
                exact HO5.out)
              clear hB
              go_wp2_with fail
              go_roundw
              case rel => exact ⟨k + 1, by omega, by go_num, HO6, HB5.out⟩
              case measure => simp [intOf]; omega
          · obtain rfl : r = cp := by omega
            have s7 : r - r = 0 := by omega
            go_region_held_law (fun w' => w'.cell? ⟨wr.heap.size, 0, none⟩ = some (.int .i64 kd) ∧ w'.cell? ⟨wr.heap.size, 1, none⟩ = some (.int .u64 ya) ∧ w'.cell? ⟨wr.heap.size, 2, none⟩ = some (.int .u64 yb) ∧ w'.cell? ⟨wr.heap.size, 3, none⟩ = some (.int .u64 yc) ∧ w'.cell? ⟨wr.heap.size, 4, none⟩ = some (.int .u64 yd) ∧ w'.cell? ⟨wr.heap.size, 5, none⟩ = some (.int .i64 ylo) ∧ w'.cell? ⟨wr.heap.size, 6, none⟩ = some (.int .i64 yhi))
              (first | with_reducible exact HK.out _ hB | with_reducible exact HK.out _ hB.drew | exact HKe.out | exact HK.out _ (hB.alloc (by exact hB.size) _))
              (first | (go_at_call 54; (with_reducible refine (HL0.out _ _).mono ?_); rintro e wk ⟨rfl, hb⟩; (replace hB := hB.drew.trans (hb.mono (by exact hB.size))); clear hb; have HOT := Lib.hid (HX.out wk hB)) | (refine wp_append_own _ _ _ 27 rfl w.heap.size 3 i0 (.int .i64 0) 1 8 Try.underlying27 hi hz0 hz1 hz2 rfl (by decide) _ r (svs7 N ((roots7 N k).take r)) rfl (HOT.out.alloc _) ⟨wk.heap.size, 0, none⟩ 1 1 [.int .i64 D] rfl rfl (by intro j u hj; match j, hj with | 0, hj => (simp at hj; subst hj; simp [Addr.add])) (by intro u hu; simp at hu; rcases hu with rfl <;> rfl) (by unfold maxLen; omega) (by omega) (by have := hB.size; have := HBW.out.size; simp; omega) ?_; intro v5 w5 h5 hg5 _; have HO5 := Lib.hid h5; have HG5 := Lib.hid hg5; have HKe : Hid (w5.cell? ⟨wr.heap.size, 0, none⟩ = some (.int .i64 kd) ∧ w5.cell? ⟨wr.heap.size, 1, none⟩ = some (.int .u64 ya) ∧ w5.cell? ⟨wr.heap.size, 2, none⟩ = some (.int .u64 yb) ∧ w5.cell? ⟨wr.heap.size, 3, none⟩ = some (.int .u64 yc) ∧ w5.cell? ⟨wr.heap.size, 4, none⟩ = some (.int .u64 yd) ∧ w5.cell? ⟨wr.heap.size, 5, none⟩ = some (.int .i64 ylo) ∧ w5.cell? ⟨wr.heap.size, 6, none⟩ = some (.int .i64 yhi)) := Lib.hid (by obtain ⟨k0, k1, k2, k3, k4, k5, k6⟩ := HK.out _ (hB.alloc (by exact hB.size) (.cells #[.int .i64 D] 3)); have hne := (show some wr.heap.size ≠ some g from fun h => by have := HGr.out; injection h with h; omega); exact ⟨hg5.cell k0 hne, hg5.cell k1 hne, hg5.cell k2 hne, hg5.cell k3 hne, hg5.cell k4 hne, hg5.cell k5 hne, hg5.cell k6 hne⟩); clear h5 hg5))
            all_goals
              have HB5 : Hid (Below w.heap.size w w5) := Lib.hid (((HBW.out.trans (hB.mono HBW.out.size)).alloc (by have := HBW.out.size; have := hB.size; omega) _).grown HG5.out (by have := HBW.out.size; have := hB.size; simp; omega) fun r hr => (HOT.out.lt r hr).1)
              have HO6 : Hid (w5.ownsRow w.heap.size 3 1 v5 (roots7 N (k + 1)).length (svs7 N (roots7 N (k + 1)))) := Lib.hid (by
                rw [HRS.out, List.length_append, List.length_take, HLL.out, Nat.min_eq_left (by omega), svs7_append, HPV.out]
                exact HO5.out)
              clear hB
              go_wp2_with fail
              go_roundw
              case rel => exact ⟨k + 1, by omega, by go_num, HO6, HB5.out⟩
              case measure => simp [intOf]; omega
        · have s4 : r < cp := by omega
          have s5 : (r : Int) < (cp : Int) := by omega
          have s6 : ¬ (r = cp) := by omega
          have s7 : ¬ (cp - r = 0) := by omega
          have HC := Lib.hid (HNA.out W.drew g (cp - r) HGW.out HROWS.out)
          go_region_held_law (fun w' => w'.cell? ⟨wr.heap.size, 0, none⟩ = some (.int .i64 kd) ∧ w'.cell? ⟨wr.heap.size, 1, none⟩ = some (.int .u64 ya) ∧ w'.cell? ⟨wr.heap.size, 2, none⟩ = some (.int .u64 yb) ∧ w'.cell? ⟨wr.heap.size, 3, none⟩ = some (.int .u64 yc) ∧ w'.cell? ⟨wr.heap.size, 4, none⟩ = some (.int .u64 yd) ∧ w'.cell? ⟨wr.heap.size, 5, none⟩ = some (.int .i64 ylo) ∧ w'.cell? ⟨wr.heap.size, 6, none⟩ = some (.int .i64 yhi))
            (first | with_reducible exact HK.out _ hB | with_reducible exact HK.out _ hB.drew | exact HKe.out | exact HK.out _ (hB.alloc (by exact hB.size) _))
            (first | (go_at_call 54; (with_reducible refine (HC.out).mono ?_); rintro e wk ⟨rfl, hb⟩; (replace hB := hB.drew.trans (hb.mono (by exact hB.size))); clear hb; have HOT := Lib.hid (HX.out wk hB)) | (refine wp_append_own _ _ _ 27 rfl w.heap.size 3 i0 (.int .i64 0) 1 8 Try.underlying27 hi hz0 hz1 hz2 rfl (by decide) _ r (svs7 N ((roots7 N k).take r)) rfl (HOT.out.alloc _) ⟨wk.heap.size, 0, none⟩ 1 1 [.int .i64 D] rfl rfl (by intro j u hj; match j, hj with | 0, hj => (simp at hj; subst hj; simp [Addr.add])) (by intro u hu; simp at hu; rcases hu with rfl <;> rfl) (by unfold maxLen; omega) (by omega) (by have := hB.size; have := HBW.out.size; simp; omega) ?_; intro v5 w5 h5 hg5 _; have HO5 := Lib.hid h5; have HG5 := Lib.hid hg5; have HKe : Hid (w5.cell? ⟨wr.heap.size, 0, none⟩ = some (.int .i64 kd) ∧ w5.cell? ⟨wr.heap.size, 1, none⟩ = some (.int .u64 ya) ∧ w5.cell? ⟨wr.heap.size, 2, none⟩ = some (.int .u64 yb) ∧ w5.cell? ⟨wr.heap.size, 3, none⟩ = some (.int .u64 yc) ∧ w5.cell? ⟨wr.heap.size, 4, none⟩ = some (.int .u64 yd) ∧ w5.cell? ⟨wr.heap.size, 5, none⟩ = some (.int .i64 ylo) ∧ w5.cell? ⟨wr.heap.size, 6, none⟩ = some (.int .i64 yhi)) := Lib.hid (by obtain ⟨k0, k1, k2, k3, k4, k5, k6⟩ := HK.out _ (hB.alloc (by exact hB.size) (.cells #[.int .i64 D] 3)); have hne := (show some wr.heap.size ≠ some g from fun h => by have := HGr.out; injection h with h; omega); exact ⟨hg5.cell k0 hne, hg5.cell k1 hne, hg5.cell k2 hne, hg5.cell k3 hne, hg5.cell k4 hne, hg5.cell k5 hne, hg5.cell k6 hne⟩); clear h5 hg5))
          all_goals
            have HB5 : Hid (Below w.heap.size w w5) := Lib.hid (((HBW.out.trans (hB.mono HBW.out.size)).alloc (by have := HBW.out.size; have := hB.size; omega) _).grown HG5.out (by have := HBW.out.size; have := hB.size; simp; omega) fun r hr => (HOT.out.lt r hr).1)
            have HO6 : Hid (w5.ownsRow w.heap.size 3 1 v5 (roots7 N (k + 1)).length (svs7 N (roots7 N (k + 1)))) := Lib.hid (by
              rw [HRS.out, List.length_append, List.length_take, HLL.out, Nat.min_eq_left (by omega), svs7_append, HPV.out]
              exact HO5.out)
            clear hB
            go_wp2_with fail
            go_roundw
            case rel => exact ⟨k + 1, by omega, by go_num, HO6, HB5.out⟩
            case measure => simp [intOf]; omega
    · have hkn : k = n := by omega
      subst hkn
      have hra := roots_all7 HTR.out hpos
      have hO := HO.out
      rw [hra] at hO
      obtain ⟨g, cp, rfl, -⟩ : ∃ g cp, u5 = .slice (some ⟨g, 0, none⟩) 1 cp ∧ True := by
        rcases id hO.2 with ⟨rfl, h0⟩ | ⟨g, cp, cur, rfl, -⟩
        · cases h0
        · exact ⟨g, cp, rfl, trivial⟩
      have q := svsAt_of hO rfl 0 (by simp)
      clear hO hra HO HTR
      simp only [List.getElem_cons_zero] at q
      obtain ⟨D, hD⟩ : ∃ D, szF (trT N (k - 1)) = D := ⟨_, rfl⟩
      rw [hD] at q
      have HDD := Lib.hid hD
      clear hD
      have HBB := HB
      clear HB
      go_wp2_with fail
      go_returns
      exact ⟨by rw [HDD.out] <;> rfl, HBB.out⟩
end Go.Proofs.Ytepegohopgnmnaa
