/-
  The walk of the law NamedFolds: it answers true, at any set, where the table stands as it is laid.
-/
import Derived.Test.YtpgikkmpnbcljaaDoorAwaken
import Derived.Test.YtpgikkmpnbcljaaDoorRfold
namespace Go.Proofs.YtpgikkmpnbcljaaDoor
open Go.RowKit

theorem fold_lit (f : Nat → Bool) (w : World) (hT : Tabbed w) : Calls Tryd.prog 15 #[svr f] w fun e w' => e = .returned (sv (foldF f)) ∧ Below w.heap.size w w' := fold_any f w hT
theorem fold2_lit (f : Nat → Bool) (w : World) (hT : Tabbed w) : Calls Tryd.prog 15 #[svr (foldF f)] w fun e w' => e = .returned (sv (foldF f)) ∧ Below w.heap.size w w' := by
  have h : foldF (foldF f) = foldF f := funext fun b => foldF_twice f b
  have := fold_any (foldF f) w hT
  rw [h] at this
  exact this
theorem rfold_lit (f : Nat → Bool) (w : World) : Calls Tryd.prog 16 #[svr f] w fun e w' => e = .returned (sv (foldF f)) ∧ Below w.heap.size w w' := rfold_any f w
theorem and3_lit (f : Nat → Bool) (w : World) : Calls Tryd.prog 17 #[svr (foldF f), svr f] w fun e w' => e = .returned (sv f) ∧ Below w.heap.size w w' := by
  have h : (fun k => foldF f k && f k) = f := funext fun b => foldF_keeps f b
  have := and_any (foldF f) f w
  rw [h] at this
  exact this

set_option maxRecDepth 100000 in
set_option maxHeartbeats 8000000 in
theorem folds_walk (f : Nat → Bool) (w : World) (hT : Tabbed w) :
    Calls Tryd.prog 5 #[sv f] w fun e w' => e = .returned (.bool true) ∧ Below w.heap.size w w' := by
  have heq := eq_set
  have HT0 := Lib.hid (hT.alloc (.cells #[.int .u64 (wd f 0 : Int), .int .u64 (wd f 1 : Int), .int .u64 (wd f 2 : Int), .int .u64 (wd f 3 : Int)] 25))
  unfold sv
  go_enter Tryd.func5, Tryd.ntmps5
  go_wp2_with fail
  refine (awaken_any _ HT0.out).mono ?_
  rintro e w0 ⟨rfl, hb0⟩
  have s0 := (isSet.new w f).below hb0 (by simp)
  have hT0 := HT0.out.to hb0
  have hW0 : Below w.heap.size w w0 := ((Below.refl _ _).alloc (Nat.le_refl _) _).trans (hb0.mono (by go_size))
  clear hb0
  obtain ⟨q0, q1, q2, q3⟩ := s0.cells
  have HT1 := Lib.hid hT0
  clear hT0 HT0 hT
  go_wp2_with fail
  refine (fold_lit f _ HT1.out).mono ?_
  rintro e w1 ⟨rfl, hb1⟩
  have c0 := (s0.below hb1 s0.lt).alloc (.cells #[.int .u64 (wd (foldF f) 0 : Int), .int .u64 (wd (foldF f) 1 : Int), .int .u64 (wd (foldF f) 2 : Int), .int .u64 (wd (foldF f) 3 : Int)] 25)
  have c1 := isSet.new w1 (foldF f)
  have hW1 := (hW0.trans (hb1.mono hW0.size)).alloc (Nat.le_trans hW0.size hb1.size) (.cells #[.int .u64 (wd (foldF f) 0 : Int), .int .u64 (wd (foldF f) 1 : Int), .int .u64 (wd (foldF f) 2 : Int), .int .u64 (wd (foldF f) 3 : Int)] 25)
  have HT2 := Lib.hid ((HT1.out.to hb1).alloc (.cells #[.int .u64 (wd (foldF f) 0 : Int), .int .u64 (wd (foldF f) 1 : Int), .int .u64 (wd (foldF f) 2 : Int), .int .u64 (wd (foldF f) 3 : Int)] 25))
  clear hb1 s0 hW0 q0 q1 q2 q3 HT1
  go_wp2_with fail
  generalize hb : w1.heap.size = B at *
  generalize w1.alloc (.cells #[.int .u64 (wd (foldF f) 0 : Int), .int .u64 (wd (foldF f) 1 : Int), .int .u64 (wd (foldF f) 2 : Int), .int .u64 (wd (foldF f) 3 : Int)] 25) = W at *
  have hS := And.intro c0.cells c1.cells
  have l0 := c0.lt; have l1 := c1.lt
  have hB := (Below.refl W.heap.size W).drew
  go_region_held_law (fun w' => (w'.cell? ⟨w.heap.size, 0, none⟩ = some (.int .u64 (wd f 0 : Int)) ∧ w'.cell? ⟨w.heap.size, 1, none⟩ = some (.int .u64 (wd f 1 : Int)) ∧ w'.cell? ⟨w.heap.size, 2, none⟩ = some (.int .u64 (wd f 2 : Int)) ∧ w'.cell? ⟨w.heap.size, 3, none⟩ = some (.int .u64 (wd f 3 : Int))) ∧
      (w'.cell? ⟨B, 0, none⟩ = some (.int .u64 (wd (foldF f) 0 : Int)) ∧ w'.cell? ⟨B, 1, none⟩ = some (.int .u64 (wd (foldF f) 1 : Int)) ∧ w'.cell? ⟨B, 2, none⟩ = some (.int .u64 (wd (foldF f) 2 : Int)) ∧ w'.cell? ⟨B, 3, none⟩ = some (.int .u64 (wd (foldF f) 3 : Int))))
    (first | exact ⟨(c0.below hB l0).cells, (c1.below hB l1).cells⟩ | go_keep)
    (first | (go_at_call 16; (with_reducible refine (rfold_lit f _).mono ?_); rintro e wk ⟨rfl, hb⟩; replace hB := hB.trans (hb.mono hB.size); clear hb)
           | (go_at_call 15; (with_reducible refine (fold2_lit f _ (HT2.out.to hB)).mono ?_); rintro e wk ⟨rfl, hb⟩; replace hB := hB.trans (hb.mono hB.size); clear hb)
           | (go_at_call 17; (with_reducible refine (and3_lit f _).mono ?_); rintro e wk ⟨rfl, hb⟩; replace hB := hB.trans (hb.mono hB.size); clear hb))
  rename_i hHeld
  clear hHeld
  go_wp2
  go_ret
  exact ⟨rfl, hW1.trans (hB.mono hW1.size)⟩
end Go.Proofs.YtpgikkmpnbcljaaDoor
