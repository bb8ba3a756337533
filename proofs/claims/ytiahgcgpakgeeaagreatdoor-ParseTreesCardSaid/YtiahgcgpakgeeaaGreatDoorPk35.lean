/-
  The walk of the reference's Not.
-/
import Derived.Test.YtiahgcgpakgeeaaGreatDoorPk13
import Derived.Test.YtiahgcgpakgeeaaGreatDoorPk34
namespace Go.Proofs.YtiahgcgpakgeeaaGreatDoor
open Go.RowKit

set_option maxHeartbeats 1000000 in
theorem rnot_any (f : Nat → Bool) (w : World) :
    Calls Tryz.prog 25 #[sv f] w fun e w' => e = .returned (sv fun k => !f k) ∧ Below w.heap.size w w' := by
  have hs : Hid (sv (fun k => decide (k ≤ 255) && !f k) = sv (fun k => !f k)) := by
    apply sv_congr
    intro k hk
    have : k ≤ 255 := by omega
    simp [this]
  have b0 := (isSet.new w f).alloc (.cells #[.int .u64 0, .int .u64 0, .int .u64 0, .int .u64 0] 36)
  have b1 := isSet.newNone (w.alloc (.cells #[.int .u64 (wd f 0 : Int), .int .u64 (wd f 1 : Int), .int .u64 (wd f 2 : Int), .int .u64 (wd f 3 : Int)] 36))
  have hB0 : Below w.heap.size w ((w.alloc (.cells #[.int .u64 (wd f 0 : Int), .int .u64 (wd f 1 : Int), .int .u64 (wd f 2 : Int), .int .u64 (wd f 3 : Int)] 36)).alloc (.cells #[.int .u64 0, .int .u64 0, .int .u64 0, .int .u64 0] 36)) := ((Below.refl _ _).alloc (Nat.le_refl _) _).alloc (by simp) _
  rw [World.size_alloc] at b1
  unfold sv
  go_enter Tryz.func25, Tryz.ntmps25
  go_wp2_with fail
  generalize (w.alloc (.cells #[.int .u64 (wd f 0 : Int), .int .u64 (wd f 1 : Int), .int .u64 (wd f 2 : Int), .int .u64 (wd f 3 : Int)] 36)).alloc (.cells #[.int .u64 0, .int .u64 0, .int .u64 0, .int .u64 0] 36) = W at *
  have hS := b0.cells
  have l0 := b0.lt; have l1 := b1.lt
  have hB := (Below.refl W.heap.size W).drew
  go_region_held3 (fun w' => w'.cell? ⟨w.heap.size, 0, none⟩ = some (.int .u64 (wd f 0 : Int)) ∧ w'.cell? ⟨w.heap.size, 1, none⟩ = some (.int .u64 (wd f 1 : Int)) ∧ w'.cell? ⟨w.heap.size, 2, none⟩ = some (.int .u64 (wd f 2 : Int)) ∧ w'.cell? ⟨w.heap.size, 3, none⟩ = some (.int .u64 (wd f 3 : Int)))
    (first | exact (b0.below hB l0).cells | go_keep)
    (first | (go_at_call 21; refine (rrange_int _ _ (by omega) (by omega) (by omega) (by omega) _).mono ?_; rintro e w1 ⟨rfl, hb⟩; replace hB := hB.trans (hb.mono hB.size); clear hb)
           | (go_at_call 40; refine (rjoin2_any _ _ _).mono ?_; rintro e w2 ⟨rfl, hb⟩; replace hB := hB.trans (hb.mono hB.size); clear hb; have d1 := b1.below hB l1; obtain ⟨q0, q1, q2, q3⟩ := d1.cells; obtain ⟨r0, r1, r2, r3⟩ := d1.free))
  rename_i hHeld
  have hR3 := below_set4 (c := w.heap.size + 1) (hB0.trans (hB.mono hB0.size)) (by omega) (.int .u64 (wd (fun k => decide (k ≤ 255) && !f k) 0 : Int)) (.int .u64 (wd (fun k => decide (k ≤ 255) && !f k) 1 : Int)) (.int .u64 (wd (fun k => decide (k ≤ 255) && !f k) 2 : Int)) (.int .u64 (wd (fun k => decide (k ≤ 255) && !f k) 3 : Int))
  have z2 := (d1.stored (fun k => decide (k ≤ 255) && !f k)).cells
  clear hHeld d1 hB hB0 hS b0 b1
  go_wp2
  refine bodyPost_ret (v := sv (fun k => decide (k ≤ 255) && !f k)) (by simp [results, Tryz.results25, go_sem, z2]) rfl ⟨by rw [hs.out] <;> rfl, hR3⟩
end Go.Proofs.YtiahgcgpakgeeaaGreatDoor
