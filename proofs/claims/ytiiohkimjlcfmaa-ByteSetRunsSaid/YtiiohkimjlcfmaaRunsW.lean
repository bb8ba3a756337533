/-
  The walk of the law ByteSetRuns, at at most forty runs: it answers true.
-/
import Derived.Test.YtiiohkimjlcfmaaRunsC
namespace Go.Proofs.Ytiiohkimjlcfmaa
open Go.RowKit

set_option maxRecDepth 100000 in
set_option maxHeartbeats 8000000 in
theorem runslaw_small (b off n cap : Nat) (hn : n ≤ 40) (hcap : n ≤ cap) (w : World) (L : List (Nat × Nat)) (hL : ∀ r, r ∈ L → r.1 < 256 ∧ r.2 < 256) (hLl : L.length ≤ 40) (hfew : (segs (inU L) 256 256).length ≤ n) (hr : rdR w (.slice (some ⟨b, off, none⟩) n cap) L) :
    Calls Try.prog 5 #[.slice (some ⟨b, off, none⟩) n cap] w fun e w' => e = .returned (.bool true) ∧ Below w.heap.size w w' := by
  have heq := eq_set
  have Hfew := Lib.hid hfew
  clear hfew
  go_enter Try.func5, Try.ntmps5
  go_wp2_with fail
  refine (awake_any _).mono ?_
  rintro e w1 ⟨rfl, hW1⟩
  go_wp2_with fail
  refine (union_any L hL (by omega) _ _ (rdR_below hr hW1 (Nat.le_refl _))).mono ?_
  rintro e w2 ⟨rfl, hW2⟩
  have hW12 := hW1.trans (hW2.mono hW1.size)
  have s3 := isSet.new w2 (inU L)
  have hT := hW12.alloc hW12.size (.cells #[.int .u64 (wd (inU L) 0 : Int), .int .u64 (wd (inU L) 1 : Int), .int .u64 (wd (inU L) 2 : Int), .int .u64 (wd (inU L) 3 : Int)] 24)
  go_wp2_with fail
  generalize w2.alloc (.cells #[.int .u64 (wd (inU L) 0 : Int), .int .u64 (wd (inU L) 1 : Int), .int .u64 (wd (inU L) 2 : Int), .int .u64 (wd (inU L) 3 : Int)] 24) = W at *
  have hrW := rdR_below hr hT (Nat.le_refl _)
  refine (runs_segs_any (inU L) _).mono ?_
  rintro e w4 ⟨vr, rfl, hr4, hB4⟩
  have l3 := s3.lt
  clear hW1 hW2 hW12 hr
  rcases id hr4 with ⟨rfl, h0⟩ | ⟨b4, off4, cap4, rfl, hb4, hc4⟩
  · go_wp2
    refine wp_loop_rounds 1 ?_
    rw [rounds_succ]; go_wp2_with fail
    have hBr := hB4.drew
    have hBv := (Below.refl w4.heap.size w4).drew
    have hS := (s3.below hBr l3).cells
    go_region_held3 (fun w' => w'.cell? ⟨w2.heap.size, 0, none⟩ = some (.int .u64 (wd (inU L) 0 : Int)) ∧ w'.cell? ⟨w2.heap.size, 1, none⟩ = some (.int .u64 (wd (inU L) 1 : Int)) ∧ w'.cell? ⟨w2.heap.size, 2, none⟩ = some (.int .u64 (wd (inU L) 2 : Int)) ∧ w'.cell? ⟨w2.heap.size, 3, none⟩ = some (.int .u64 (wd (inU L) 3 : Int)))
      (first | exact (s3.below hBr l3).cells | go_keep)
      (first | (go_at_call 26; (with_reducible refine (runion_any L hL (by omega) _ _ ?hx).mono ?_); (case hx => exact rdR_below hrW hBr (Nat.le_refl _)); rintro e wk ⟨rfl, hb⟩; replace hBr := hBr.trans (hb.mono hBr.size); replace hBv := hBv.trans (hb.mono hBv.size); clear hb)
             | (go_at_call 25; (with_reducible refine (union_segs (inU L) _ _ ?hy).mono ?_); (case hy => exact rdR_below hr4 hBv (Nat.le_refl _)); rintro e wk ⟨rfl, hb⟩; replace hBr := hBr.trans (hb.mono hBr.size); clear hb))
    rename_i hHeld
    clear hHeld
    go_wp2
    go_ret
    exact ⟨rfl, hT.trans (hBr.mono hT.size)⟩
  · obtain ⟨sg, hsg⟩ : ∃ sg, sg = segs (inU L) 256 256 := ⟨_, rfl⟩
    have hwh : ∀ r, r ∈ sg → r.1 ≤ r.2 ∧ r.2 < 256 ∧ r.1 < 256 := by rw [hsg]; exact segs_whole (inU L)
    have hgap : ∀ m (h : m + 1 < sg.length), (sg[m]'(by omega)).2 + 2 ≤ (sg[m + 1]).1 := by subst hsg; exact fun m h => segs_gap (inU L) (m + 1) (by omega) h
    have hfew := Hfew.out
    rw [← hsg] at hfew
    have Hf2 := Lib.hid hfew
    clear hfew
    have hc5 : ∀ j (h : j < sg.length), w4.cell? ⟨b4, off4 + j * 2, none⟩ = some (.int .u8 (sg[j].1 : Nat)) ∧ w4.cell? ⟨b4, off4 + j * 2 + 1, none⟩ = some (.int .u8 (sg[j].2 : Nat)) := by subst hsg; exact hc4
    clear hc4
    have hr5 : rdR w4 (.slice (some ⟨b4, off4, none⟩) sg.length cap4) (segs (inU L) 256 256) := by rw [hsg]; exact hr4
    rw [← hsg]
    have Hsg := Lib.hid hsg
    clear hsg
    go_wp2
    go_loopw [5] (fun i wr => ∃ k n1 : Nat, k ≤ sg.length ∧ i = .int .i64 k ∧ wr = w4.drewN n1) (fun i _ => sg.length - (intOf i).toNat)
    case atStart => exact ⟨0, 0, Nat.zero_le _, rfl, rfl⟩
    case round =>
      obtain ⟨k, n1, hk, rfl, rfl⟩ := hrel
      by_cases hlt : k < sg.length
      · obtain ⟨q0, q1⟩ := hc5 k hlt
        have hw := hwh _ (List.getElem_mem hlt)
        have hg : ∀ m, k = m + 1 → (∃ p : Nat, p + 2 ≤ sg[k].1 ∧ p < 256 ∧ w4.cell? ⟨b4, off4 + m * 2 + 1, none⟩ = some (.int .u8 (p : Int))) := by
          intro m hm
          subst hm
          exact ⟨(sg[m]'(by omega)).2, hgap m hlt, (hwh _ (List.getElem_mem (by omega))).2.1, (hc5 m (by omega)).2⟩
        obtain ⟨x, hx1⟩ : ∃ x, x = sg[k].1 := ⟨_, rfl⟩
        obtain ⟨y, hy1⟩ : ∃ y, y = sg[k].2 := ⟨_, rfl⟩
        rw [← hx1, ← hy1] at hw
        rw [← hx1] at q0 hg
        rw [← hy1] at q1
        obtain ⟨h1, h2, h3⟩ := hw
        have hd : decide (y < x) = false := by simp; omega
        clear hc5 hwh hgap hx1 hy1
        have hkb : k < 1000 := by have := Hf2.out; omega
        have hi0 : (0 : Int) ≤ (k : Int) := by omega
        have hi1 : (k : Int) < (sg.length : Int) := by omega
        rcases Nat.eq_zero_or_pos k with hk0 | hk0
        · have hd2 : decide (0 < k) = false := by simp; omega
          clear hg hk0
          go_wp2_with fail
          go_quiet (fail)
          go_wp2
          go_roundw
          case rel => exact ⟨k + 1, n1 + nq, by omega, by go_num, rfl⟩
          case measure => simp [intOf]; omega
        · obtain ⟨m, rfl⟩ : ∃ m, k = m + 1 := ⟨k - 1, by omega⟩
          obtain ⟨p, hp1, hp2, hp3⟩ := hg m rfl
          clear hg
          have hwx : IntKind.i64.wrap (x : Int) = (x : Int) := by rw [IntKind.wrap_i64]; omega
          have hwp : IntKind.i64.wrap (p : Int) = (p : Int) := by rw [IntKind.wrap_i64]; omega
          have hwp2 : IntKind.i64.wrap ((p : Int) + 2) = (p : Int) + 2 := by rw [IntKind.wrap_i64]; omega
          have hd4 : decide ((x : Int) < (p : Int) + 2) = false := by simp; omega
          have hd5 : decide (x < p + 2) = false := by simp; omega
          go_wp2_with fail
          go_quiet (fail)
          go_wp2
          go_roundw
          case rel => exact ⟨m + 1 + 1, n1 + nq, by omega, by go_num, rfl⟩
          case measure => simp [intOf]; omega
      · clear hc5 hwh hgap
        go_wp2_with fail
        have hBr : Below W.heap.size W (w4.drewN n1).drew := (hB4.trans (below_drewN _ _ _)).drew
        have hBv : Below w4.heap.size w4 (w4.drewN n1).drew := (below_drewN _ _ _).drew
        have hfd : decide (sg.length ≤ n) = true := by have := Hf2.out; rw [decide_eq_true_eq]; exact this
        have hfd2 : decide ((sg.length : Int) ≤ (n : Int)) = true := by have := Hf2.out; rw [decide_eq_true_eq]; omega
        have hS := (s3.below hBr l3).cells
        go_region_held3 (fun w' => w'.cell? ⟨w2.heap.size, 0, none⟩ = some (.int .u64 (wd (inU L) 0 : Int)) ∧ w'.cell? ⟨w2.heap.size, 1, none⟩ = some (.int .u64 (wd (inU L) 1 : Int)) ∧ w'.cell? ⟨w2.heap.size, 2, none⟩ = some (.int .u64 (wd (inU L) 2 : Int)) ∧ w'.cell? ⟨w2.heap.size, 3, none⟩ = some (.int .u64 (wd (inU L) 3 : Int)))
          (first | exact (s3.below hBr l3).cells | go_keep)
          (first | (go_at_call 26; (with_reducible refine (runion_any L hL (by omega) _ _ ?hx).mono ?_); (case hx => exact rdR_below hrW hBr (Nat.le_refl _)); rintro e wk ⟨rfl, hb⟩; replace hBr := hBr.trans (hb.mono hBr.size); replace hBv := hBv.trans (hb.mono hBv.size); clear hb)
                 | (go_at_call 25; (with_reducible refine (union_segs (inU L) _ _ ?hy).mono ?_); (case hy => exact rdR_below hr5 hBv (Nat.le_refl _)); rintro e wk ⟨rfl, hb⟩; replace hBr := hBr.trans (hb.mono hBr.size); clear hb))
        rename_i hHeld
        clear hHeld
        go_wp2
        go_ret
        exact ⟨rfl, hT.trans (hBr.mono hT.size)⟩

end Go.Proofs.Ytiiohkimjlcfmaa
