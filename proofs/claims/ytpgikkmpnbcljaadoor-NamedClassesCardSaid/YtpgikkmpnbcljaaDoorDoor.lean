/-
  The door's own heap meets the condition on the table; a byte as a number.
-/
import Derived.Test.YtpgikkmpnbcljaaDoorTab
import Derived.Test.YtpgikkmpnbcljaaDoorOpen
import Derived.Test.YtpgikkmpnbcljaaDoorCards
import Derived.Test.YtpgikkmpnbcljaaDoorTie
import Derived.SevenTiedAt
namespace Go.Proofs.YtpgikkmpnbcljaaDoor
open Go.ChangeShapes Go.WideShapes Go.ChangeAt Go.RowKit

theorem door_met (os : Os) (args : Array Value) : laidMetH Tryd.prog [("tatting/named.table", Rows.laid_tatting_named_table)] ((World.doorLaid Tryd.prog 400 os).forCall (fun _ _ => 0) ⟨#[], args, []⟩).memory :=
  laidMetH_of_parts3 (fuel := 8) (laidMet_of_run' 8 (by kernel_rfl) (by kernel_rfl)) (by kernel_rfl) (by kernel_rfl)
theorem u8_nat {x : Int} (h : (Lit.int .u8 x).wf = true) : ∃ n : Nat, x = n ∧ n < 256 := by
  have hw : IntKind.u8.min ≤ x ∧ x ≤ IntKind.u8.max := by simpa [Lit.wf] using h
  simp [IntKind.min, IntKind.max, IntKind.bits, IntKind.signed] at hw
  exact ⟨x.toNat, by omega, by omega⟩
end Go.Proofs.YtpgikkmpnbcljaaDoor
