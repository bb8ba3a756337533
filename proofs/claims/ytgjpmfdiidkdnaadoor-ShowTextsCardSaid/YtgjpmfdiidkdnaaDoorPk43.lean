/-
  The walks of the reference's number and often.
-/
import Derived.Test.YtgjpmfdiidkdnaaDoorPk1
namespace Go.Proofs.YtgjpmfdiidkdnaaDoor
open Go.RowKit

set_option maxRecDepth 100000 in
set_option maxHeartbeats 4000000 in
theorem num_any : ∀ n : Nat, n < 33 → ∀ w, Calls Tryd.prog 42 #[.int .i64 (n : Int)] w fun e w' => e = .returned (.string (bs (numL n))) ∧ Below w.heap.size w w'
  | 0, _, w => by go_enter Tryd.func42, Tryd.ntmps42; go_wp2; go_returns; exact ⟨rfl, by go_grown⟩
  | 1, _, w => by go_enter Tryd.func42, Tryd.ntmps42; go_wp2; go_returns; exact ⟨rfl, by go_grown⟩
  | 2, _, w => by go_enter Tryd.func42, Tryd.ntmps42; go_wp2; go_returns; exact ⟨rfl, by go_grown⟩
  | 3, _, w => by go_enter Tryd.func42, Tryd.ntmps42; go_wp2; go_returns; exact ⟨rfl, by go_grown⟩
  | 4, _, w => by go_enter Tryd.func42, Tryd.ntmps42; go_wp2; go_returns; exact ⟨rfl, by go_grown⟩
  | 5, _, w => by go_enter Tryd.func42, Tryd.ntmps42; go_wp2; go_returns; exact ⟨rfl, by go_grown⟩
  | 6, _, w => by go_enter Tryd.func42, Tryd.ntmps42; go_wp2; go_returns; exact ⟨rfl, by go_grown⟩
  | 7, _, w => by go_enter Tryd.func42, Tryd.ntmps42; go_wp2; go_returns; exact ⟨rfl, by go_grown⟩
  | 8, _, w => by go_enter Tryd.func42, Tryd.ntmps42; go_wp2; go_returns; exact ⟨rfl, by go_grown⟩
  | 9, _, w => by go_enter Tryd.func42, Tryd.ntmps42; go_wp2; go_returns; exact ⟨rfl, by go_grown⟩
  | 10, _, w => by go_enter Tryd.func42, Tryd.ntmps42; go_wp2; go_region; go_wp2; go_returns; exact ⟨rfl, by go_grown⟩
  | 11, _, w => by go_enter Tryd.func42, Tryd.ntmps42; go_wp2; go_region; go_wp2; go_returns; exact ⟨rfl, by go_grown⟩
  | 12, _, w => by go_enter Tryd.func42, Tryd.ntmps42; go_wp2; go_region; go_wp2; go_returns; exact ⟨rfl, by go_grown⟩
  | 13, _, w => by go_enter Tryd.func42, Tryd.ntmps42; go_wp2; go_region; go_wp2; go_returns; exact ⟨rfl, by go_grown⟩
  | 14, _, w => by go_enter Tryd.func42, Tryd.ntmps42; go_wp2; go_region; go_wp2; go_returns; exact ⟨rfl, by go_grown⟩
  | 15, _, w => by go_enter Tryd.func42, Tryd.ntmps42; go_wp2; go_region; go_wp2; go_returns; exact ⟨rfl, by go_grown⟩
  | 16, _, w => by go_enter Tryd.func42, Tryd.ntmps42; go_wp2; go_region; go_wp2; go_returns; exact ⟨rfl, by go_grown⟩
  | 17, _, w => by go_enter Tryd.func42, Tryd.ntmps42; go_wp2; go_region; go_wp2; go_returns; exact ⟨rfl, by go_grown⟩
  | 18, _, w => by go_enter Tryd.func42, Tryd.ntmps42; go_wp2; go_region; go_wp2; go_returns; exact ⟨rfl, by go_grown⟩
  | 19, _, w => by go_enter Tryd.func42, Tryd.ntmps42; go_wp2; go_region; go_wp2; go_returns; exact ⟨rfl, by go_grown⟩
  | 20, _, w => by go_enter Tryd.func42, Tryd.ntmps42; go_wp2; go_region; go_wp2; go_returns; exact ⟨rfl, by go_grown⟩
  | 21, _, w => by go_enter Tryd.func42, Tryd.ntmps42; go_wp2; go_region; go_wp2; go_returns; exact ⟨rfl, by go_grown⟩
  | 22, _, w => by go_enter Tryd.func42, Tryd.ntmps42; go_wp2; go_region; go_wp2; go_returns; exact ⟨rfl, by go_grown⟩
  | 23, _, w => by go_enter Tryd.func42, Tryd.ntmps42; go_wp2; go_region; go_wp2; go_returns; exact ⟨rfl, by go_grown⟩
  | 24, _, w => by go_enter Tryd.func42, Tryd.ntmps42; go_wp2; go_region; go_wp2; go_returns; exact ⟨rfl, by go_grown⟩
  | 25, _, w => by go_enter Tryd.func42, Tryd.ntmps42; go_wp2; go_region; go_wp2; go_returns; exact ⟨rfl, by go_grown⟩
  | 26, _, w => by go_enter Tryd.func42, Tryd.ntmps42; go_wp2; go_region; go_wp2; go_returns; exact ⟨rfl, by go_grown⟩
  | 27, _, w => by go_enter Tryd.func42, Tryd.ntmps42; go_wp2; go_region; go_wp2; go_returns; exact ⟨rfl, by go_grown⟩
  | 28, _, w => by go_enter Tryd.func42, Tryd.ntmps42; go_wp2; go_region; go_wp2; go_returns; exact ⟨rfl, by go_grown⟩
  | 29, _, w => by go_enter Tryd.func42, Tryd.ntmps42; go_wp2; go_region; go_wp2; go_returns; exact ⟨rfl, by go_grown⟩
  | 30, _, w => by go_enter Tryd.func42, Tryd.ntmps42; go_wp2; go_region; go_wp2; go_returns; exact ⟨rfl, by go_grown⟩
  | 31, _, w => by go_enter Tryd.func42, Tryd.ntmps42; go_wp2; go_region; go_wp2; go_returns; exact ⟨rfl, by go_grown⟩
  | 32, _, w => by go_enter Tryd.func42, Tryd.ntmps42; go_wp2; go_region; go_wp2; go_returns; exact ⟨rfl, by go_grown⟩
  | _ + 33, h, _ => absurd h (by omega)
end Go.Proofs.YtgjpmfdiidkdnaaDoor
