/-
  The walk of the reference's Behind.
  The walks of Args, the code's and the reference's.
-/
import Derived.Test.YtepegohopgnmnaaPk8
import Derived.Test.YtepegohopgnmnaaPk4
namespace Go.Proofs.Ytepegohopgnmnaa
open Go.RowKit

/-- Is there a place ahead of M at which the one ends and the other begins? -/
def behP (A B : Gr) (i j M : Nat) : Bool := (List.range M).any fun m => decide (i ≤ m) && decide (m ≤ j) && (A i m && B m j)
theorem behP_succ (A B : Gr) (i j M : Nat) : behP A B i j (M + 1) = (behP A B i j M || (decide (i ≤ M) && decide (M ≤ j) && (A i M && B M j))) := by
  unfold behP
  rw [List.range_succ, List.any_append]
  simp
theorem behP_none (A B : Gr) (i j M : Nat) (h : M ≤ i) : behP A B i j M = false := by
  unfold behP
  rw [List.any_eq_false]
  intro m hm
  have := List.mem_range.1 hm
  simp [show ¬ i ≤ m by omega]
/-- So far: the rows ahead of i; of row i the places ahead of m, and place m up to j. -/
def behC (n : Nat) (A B : Gr) (i m j : Nat) : Gr := fun x y =>
  if x < i then behB n A B x y else if x = i then behP A B i y m || (decide (y < j) && (decide (m ≤ y) && (A i m && B m y))) else false
theorem behC_put (n : Nat) (A B : Gr) (i m j : Nat) (him : i ≤ m) (hmj : m ≤ j) (ha : A i m = true) (x y : Nat) : putG (behC n A B i m j) i j (behC n A B i m j i j || B m j) x y = behC n A B i m (j + 1) x y := by
  unfold putG
  by_cases h1 : x = i
  · subst h1
    rw [if_pos rfl]
    by_cases h2 : y = j
    · subst h2
      rw [if_pos rfl]
      unfold behC
      simp [ha, hmj]
    · rw [if_neg h2]
      unfold behC
      have hx : (y < j) ↔ (y < j + 1) := by omega
      simp only [hx]
  · rw [if_neg h1]
    unfold behC
    by_cases h3 : x < i
    · rw [if_pos h3, if_pos h3]
    · rw [if_neg h3, if_neg h3, if_neg h1, if_neg h1]
theorem behC_col (n : Nat) (A B : Gr) (i m j : Nat) (him : i ≤ m) (h : j = n + 1 ∨ A i m = false) (x y : Nat) (hy : y ≤ n) : behC n A B i m j x y = behC n A B i (m + 1) (m + 1) x y := by
  unfold behC
  by_cases h3 : x < i
  · rw [if_pos h3, if_pos h3]
  · rw [if_neg h3, if_neg h3]
    by_cases h1 : x = i
    · subst h1
      rw [if_pos rfl, if_pos rfl, behP_succ, decide_eq_true him, Bool.true_and]
      have e2 : (decide (y < m + 1) && (decide (m + 1 ≤ y) && (A x (m + 1) && B (m + 1) y))) = false := by
        by_cases hq : y < m + 1
        · simp [show ¬ m + 1 ≤ y by omega]
        · simp [hq]
      rw [e2, Bool.or_false]
      rcases h with h | h
      · rw [h, decide_eq_true (show y < n + 1 by omega), Bool.true_and]
      · rw [h]; simp
    · rw [if_neg h1, if_neg h1]
theorem behC_row (n : Nat) (A B : Gr) (i j x y : Nat) (_hy : y ≤ n) : behC n A B i (n + 1) j x y = behC n A B (i + 1) (i + 1) (i + 1) x y := by
  have hb : behP A B i y (n + 1) = behB n A B i y := rfl
  unfold behC
  by_cases h3 : x < i
  · rw [if_pos h3, if_pos (by omega)]
  · rw [if_neg h3]
    by_cases h1 : x = i
    · subst h1
      rw [if_pos rfl, if_pos (by omega), hb, show decide (n + 1 ≤ y) = false from decide_eq_false (by omega)]
      simp
    · rw [if_neg h1]
      by_cases h4 : x < i + 1
      · omega
      · rw [if_neg h4]
        by_cases h5 : x = i + 1
        · rw [if_pos h5, behP_none A B _ _ _ (Nat.le_refl _)]
          by_cases hq : y < i + 1
          · simp [show ¬ i + 1 ≤ y by omega]
          · simp [hq]
        · rw [if_neg h5]
theorem behC_start (n : Nat) (A B : Gr) (x y : Nat) : behC n A B 0 0 0 x y = false := by
  unfold behC behP
  simp

set_option maxRecDepth 100000 in
set_option maxHeartbeats 8000000 in
theorem gbehind_any (n : Nat) (hn : n ≤ 1000) (A B : Gr) (va vb : Value) (w : World) (ha : rdG w va n A) (hb : rdG w vb n B) :
    Calls Try.prog 63 #[va, vb] w fun e w' => ∃ v, e = .returned v ∧ grd w' w.heap.size v n (behB n A B) ∧ Below w.heap.size w w' := by
  have HA := Lib.hid ha; have HBb := Lib.hid hb
  obtain ⟨ga, ca, ra, rfl, -⟩ := ha
  obtain ⟨gb, cb, rb, rfl, -⟩ := hb
  go_enter Try.func63, Try.ntmps63
  go_wp2_with fail
  refine (grid_any n hn w).mono ?_
  rintro e w1 ⟨v, rfl, ⟨r, hg⟩, hb⟩
  obtain ⟨go, cap, rfl, -⟩ := hg.outer
  have HG1 := Lib.hid hg
  have HB1 := Lib.hid hb
  clear hg hb
  go_wp2_with fail
  go_loopw [7] (fun iv wr => ∃ i : Nat, i ≤ n + 1 ∧ iv = .int .i64 i ∧ Hid (grK wr w.heap.size (.slice (some ⟨go, 0, none⟩) (n + 1) cap) n (n + 1) r (behC n A B i i i)) ∧ Below w.heap.size w wr) (fun iv _ => n + 1 - (intOf iv).toNat)
  case atStart => exact ⟨0, Nat.zero_le _, rfl, Lib.hid (HG1.out.same fun i j _ _ => (behC_start n A B i j).symm), HB1.out⟩
  case round =>
    obtain ⟨i, hi, rfl, HG, hB⟩ := hrel
    by_cases hlt : i ≤ n
    · have d1 : decide ((i : Int) ≤ (n : Int)) = true := decide_eq_true (by omega)
      have HB := Lib.hid hB
      clear hB
      go_wp2_with fail
      go_loopw [8] (fun mv wm => ∃ m : Nat, i ≤ m ∧ m ≤ n + 1 ∧ mv = .int .i64 m ∧ Hid (grK wm w.heap.size (.slice (some ⟨go, 0, none⟩) (n + 1) cap) n (n + 1) r (behC n A B i m m)) ∧ Below w.heap.size w wm) (fun mv _ => n + 1 - (intOf mv).toNat)
      case atStart => exact ⟨i, Nat.le_refl _, hi, rfl, HG, HB.out⟩
      case round =>
        obtain ⟨m, him, hm, rfl, HGm, hBm⟩ := hrel
        by_cases hltm : m ≤ n
        · have d2 : decide ((m : Int) ≤ (n : Int)) = true := decide_eq_true (by omega)
          have HBm := Lib.hid hBm
          clear hBm
          go_wp2_with fail
          go_loopw [9] (fun jv w2 => ∃ j : Nat, m ≤ j ∧ j ≤ n + 1 ∧ jv = .int .i64 j ∧ Hid (grK w2 w.heap.size (.slice (some ⟨go, 0, none⟩) (n + 1) cap) n (n + 1) r (behC n A B i m j)) ∧ Below w.heap.size w w2) (fun jv _ => n + 1 - (intOf jv).toNat)
          case atStart => exact ⟨m, Nat.le_refl _, hm, rfl, HGm, HBm.out⟩
          case round =>
            obtain ⟨j, hmj, hj, rfl, HG2, hB2⟩ := hrel
            have i0 : (0 : Int) ≤ (i : Int) := by omega
            have i1 : (i : Int) < (n : Int) + 1 := by omega
            have m0 : (0 : Int) ≤ (m : Int) := by omega
            have m1 : (m : Int) < (n : Int) + 1 := by omega
            obtain ⟨ga', ca', ra', hva, -, ha1, ha2⟩ := HA.out.below hB2 (Nat.le_refl _)
            simp only [Value.slice.injEq, Option.some.injEq, Addr.mk.injEq, and_true, true_and] at hva
            obtain ⟨rfl, rfl⟩ := hva
            have a0 := ha1 i hlt
            have a1 := (ha2 i hlt).2 m hltm
            by_cases hltj : j ≤ n
            · have d3 : decide ((j : Int) ≤ (n : Int)) = true := decide_eq_true (by omega)
              cases hA : A i m
              · rw [hA] at a1
                have HG3 : Hid (grK wr w.heap.size (.slice (some ⟨go, 0, none⟩) (n + 1) cap) n (n + 1) r (behC n A B i (m + 1) (m + 1))) := Lib.hid (HG2.out.same fun x y _ hy => behC_col n A B i m j him (.inr hA) x y hy)
                have HB2 := Lib.hid hB2
                clear hB2 HG2 ha1 ha2 hA
                go_wp2_with fail
                go_roundw
                case rel => exact ⟨m + 1, by omega, by omega, by go_num, HG3, HB2.out⟩
                case measure => simp [intOf]; omega
              · rw [hA] at a1
                obtain ⟨go', cap', hv, -, hgo, hco⟩ := HG2.out.outer
                simp only [Value.slice.injEq, Option.some.injEq, Addr.mk.injEq, and_true, true_and] at hv
                obtain ⟨rfl, rfl⟩ := hv
                have q0 := hco i (by omega)
                obtain ⟨q1, q2, q3, q4⟩ := HG2.out.at (i := i) (j := j) (by omega) hltj
                obtain ⟨gb', cb', rb', hvb, -, hb1, hb2⟩ := HBb.out.below hB2 (Nat.le_refl _)
                simp only [Value.slice.injEq, Option.some.injEq, Addr.mk.injEq, and_true, true_and] at hvb
                obtain ⟨rfl, rfl⟩ := hvb
                have b0 := hb1 m hltm
                have b1 := (hb2 m hltm).2 j hltj
                have j0 : (0 : Int) ≤ (j : Int) := by omega
                have j1 : (j : Int) < (n : Int) + 1 := by omega
                have hput := fun b (hb : (behC n A B i m j i j || B m j) = b) => (HG2.out.put (i := i) (j := j) (by omega) b).same (G' := behC n A B i m (j + 1)) fun x y _ _ => by rw [← hb]; exact behC_put n A B i m j him hmj hA x y
                have HPut := Lib.hid hput
                have HBs : Hid (∀ b, Below w.heap.size w (wr.setCell ⟨r i, j, none⟩ (.bool b))) := Lib.hid fun b => hB2.setCell (p := ⟨r i, j, none⟩) q3 (.bool b)
                generalize behC n A B i m j i j = z at *
                generalize B m j = y at *
                clear hco hB2 HG2 ha1 ha2 hb1 hb2 hput q3 q4 hgo hA
                cases z
                · cases y
                  · go_wp2_with fail
                    go_region
                    go_wp2_with fail
                    go_roundw
                    case rel => exact ⟨j + 1, by omega, by omega, by go_num, Lib.hid (HPut.out false rfl), (HBs.out false).drew⟩
                    case measure => simp [intOf]; omega
                  · go_wp2_with fail
                    go_region
                    go_wp2_with fail
                    go_roundw
                    case rel => exact ⟨j + 1, by omega, by omega, by go_num, Lib.hid (HPut.out true rfl), (HBs.out true).drew⟩
                    case measure => simp [intOf]; omega
                · go_wp2_with fail
                  go_region
                  go_wp2_with fail
                  go_roundw
                  case rel => exact ⟨j + 1, by omega, by omega, by go_num, Lib.hid (HPut.out true rfl), (HBs.out true).drew⟩
                  case measure => simp [intOf]; omega
            · have hjn : j = n + 1 := by omega
              subst hjn
              have d3 : decide (((n + 1 : Nat) : Int) ≤ (n : Int)) = false := decide_eq_false (by omega)
              have HG3 : Hid (grK wr w.heap.size (.slice (some ⟨go, 0, none⟩) (n + 1) cap) n (n + 1) r (behC n A B i (m + 1) (m + 1))) := Lib.hid (HG2.out.same fun x y _ hy => behC_col n A B i m (n + 1) him (.inl rfl) x y hy)
              have HB2 := Lib.hid hB2
              clear hB2 HG2 ha1 ha2
              go_wp2_with fail
              go_roundw
              case rel => exact ⟨m + 1, by omega, by omega, by go_num, HG3, HB2.out⟩
              case measure => simp [intOf]; omega
        · have hmn : m = n + 1 := by omega
          subst hmn
          have d2 : decide (((n + 1 : Nat) : Int) ≤ (n : Int)) = false := decide_eq_false (by omega)
          have HG3 : Hid (grK wr w.heap.size (.slice (some ⟨go, 0, none⟩) (n + 1) cap) n (n + 1) r (behC n A B (i + 1) (i + 1) (i + 1))) := Lib.hid (HGm.out.same fun x y _ hy => behC_row n A B i _ x y hy)
          have HBm := Lib.hid hBm
          clear hBm HGm
          go_wp2_with fail
          go_roundw
          case rel => exact ⟨i + 1, by omega, by go_num, HG3, HBm.out⟩
          case measure => simp [intOf]; omega
    · have hin : i = n + 1 := by omega
      subst hin
      have d1 : decide (((n + 1 : Nat) : Int) ≤ (n : Int)) = false := decide_eq_false (by omega)
      have HB := Lib.hid hB
      have HE : Hid (grK wr w.heap.size (.slice (some ⟨go, 0, none⟩) (n + 1) cap) n (n + 1) r (behB n A B)) := Lib.hid (HG.out.same fun x y hx _ => by
        unfold behC
        rw [if_pos hx])
      clear hB HG
      go_wp2_with fail
      go_returns
      exact ⟨_, rfl, ⟨r, HE.out⟩, HB.out⟩
end Go.Proofs.Ytepegohopgnmnaa

namespace Go.Proofs.Ytepegohopgnmnaa
open Go.RowKit

theorem arI {a b : Int} (h : a = b) : Ending.returned (.int .i64 a) = Ending.returned (.int .i64 b) := by rw [h]

theorem args_any (k : Int) (w : World) : Calls Try.prog 71 #[.int .i64 k] w fun e w' => e = .returned (.int .i64 (ar k)) ∧ w = w' := by
  rcases ar_cases k with ⟨h, h1⟩ | ⟨h, rfl⟩ | ⟨h, h1⟩ | ⟨h, h1, h2, h3, h4, h5, h6, h7⟩
  · rw [h]; clear h
    rcases h1 with rfl | rfl | rfl | rfl
    all_goals
      go_enter Try.func71, Try.ntmps71
      go_wp2
      go_ret
      exact ⟨rfl, rfl⟩
  · rw [h]; clear h
    go_enter Try.func71, Try.ntmps71
    go_wp2
    go_ret
    exact ⟨rfl, rfl⟩
  · rw [h]; clear h
    rcases h1 with rfl | rfl
    all_goals
      go_enter Try.func71, Try.ntmps71
      go_wp2
      go_ret
      exact ⟨rfl, rfl⟩
  · rw [h]; clear h
    have t1 : (k == 1) = false := beq_eq_false_iff_ne.2 h1
    have t2 : (k == 2) = false := beq_eq_false_iff_ne.2 h2
    have t3 : (k == 3) = false := beq_eq_false_iff_ne.2 h3
    have t4 : (k == 4) = false := beq_eq_false_iff_ne.2 h4
    have t5 : (k == 5) = false := beq_eq_false_iff_ne.2 h5
    have t6 : (k == 6) = false := beq_eq_false_iff_ne.2 h6
    have t7 : (k == 7) = false := beq_eq_false_iff_ne.2 h7
    clear h1 h2 h3 h4 h5 h6 h7
    go_enter Try.func71, Try.ntmps71
    go_wp2
    go_ret
    exact ⟨rfl, rfl⟩

theorem rargs_any (k : Int) (w : World) : Calls Try.prog 51 #[.int .i64 k] w fun e w' => e = .returned (.int .i64 (ar k)) ∧ Below w.heap.size w w' := by
  rcases ar_cases k with ⟨h, h1⟩ | ⟨h, rfl⟩ | ⟨h, h1⟩ | ⟨h, h1, h2, h3, h4, h5, h6, h7⟩
  · rw [h]; clear h
    rcases h1 with rfl | rfl | rfl | rfl
    all_goals
      go_enter Try.func51, Try.ntmps51
      go_wp2
      go_ret
      exact ⟨rfl, (Below.refl _ _).alloc (Nat.le_refl _) _⟩
  · rw [h]; clear h
    go_enter Try.func51, Try.ntmps51
    go_wp2
    go_ret
    exact ⟨rfl, (Below.refl _ _).alloc (Nat.le_refl _) _⟩
  · rw [h]; clear h
    rcases h1 with rfl | rfl
    all_goals
      go_enter Try.func51, Try.ntmps51
      go_wp2
      go_ret
      exact ⟨rfl, (Below.refl _ _).alloc (Nat.le_refl _) _⟩
  · rw [h]; clear h
    have hd : decide (k < 1) = true ∨ (decide (k < 1) = false ∧ decide (7 < k) = true) := by
      by_cases h : k < 1
      · exact .inl (decide_eq_true h)
      · exact .inr ⟨decide_eq_false h, decide_eq_true (by omega)⟩
    clear h1 h2 h3 h4 h5 h6 h7
    rcases hd with h1 | ⟨h1, h2⟩
    all_goals
      go_enter Try.func51, Try.ntmps51
      go_wp2
      go_ret
      exact ⟨rfl, (Below.refl _ _).alloc (Nat.le_refl _) _⟩
end Go.Proofs.Ytepegohopgnmnaa
