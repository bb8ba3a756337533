/-
  The contracts once more, with the sets of the arguments written out: so that one that does not fit fails at once.
-/
import Derived.Test.YtpgikkmpnbcljaaRefn
import Derived.Test.YtpgikkmpnbcljaaSetn
namespace Go.Proofs.Ytpgikkmpnbcljaa
open Go.RowKit

/-- A set as a value, written out. -/
@[reducible] def svr (f : Nat → Bool) : Value := .agg #[.int .u64 (wd f 0 : Int), .int .u64 (wd f 1 : Int), .int .u64 (wd f 2 : Int), .int .u64 (wd f 3 : Int)]
theorem or_lit (f g : Nat → Bool) (w : World) : Calls Try.prog 8 #[svr f, svr g] w fun e w' => e = .returned (sv fun k => f k || g k) ∧ Below w.heap.size w w' := or_any f g w
theorem and_lit (f g : Nat → Bool) (w : World) : Calls Try.prog 10 #[svr f, svr g] w fun e w' => e = .returned (sv fun k => f k && g k) ∧ Below w.heap.size w w' := and_any f g w
theorem less_lit (f g : Nat → Bool) (w : World) : Calls Try.prog 11 #[svr f, svr g] w fun e w' => e = .returned (sv fun k => f k && !g k) ∧ Below w.heap.size w w' := less_any f g w
theorem not_lit (f : Nat → Bool) (w : World) : Calls Try.prog 12 #[svr f] w fun e w' => e = .returned (sv fun k => !f k) ∧ Below w.heap.size w w' := not_any f w
theorem has_lit (f : Nat → Bool) (b : Nat) (hn : b < 256) (w : World) : Calls Try.prog 14 #[svr f, .int .u8 (b : Int)] w fun e w' => e = .returned (.bool (f b)) ∧ Below w.heap.size w w' := has_any f b hn w
theorem rhas_lit (f : Nat → Bool) (b : Nat) (hn : b < 256) (w : World) : Calls Try.prog 15 #[svr f, .int .i64 (b : Int)] w fun e w' => e = .returned (.bool (f b)) ∧ Below w.heap.size w w' := rhas_any f b (by omega) (by omega) w
theorem rnot_lit (f : Nat → Bool) (w : World) : Calls Try.prog 13 #[svr f] w fun e w' => e = .returned (sv fun k => !f k) ∧ Below w.heap.size w w' := rnot_any f w
theorem rjoin0_lit (f g : Nat → Bool) (w : World) : Calls Try.prog 9 #[svr f, svr g, .int .i64 0] w fun e w' => e = .returned (sv fun k => f k || g k) ∧ Below w.heap.size w w' := rjoin0_any f g w
theorem rjoin1_lit (f g : Nat → Bool) (w : World) : Calls Try.prog 9 #[svr f, svr g, .int .i64 1] w fun e w' => e = .returned (sv fun k => f k && g k) ∧ Below w.heap.size w w' := rjoin1_any f g w
theorem rjoin2_lit (f g : Nat → Bool) (w : World) : Calls Try.prog 9 #[svr f, svr g, .int .i64 2] w fun e w' => e = .returned (sv fun k => f k && !g k) ∧ Below w.heap.size w w' := rjoin2_any f g w
theorem count_lit (f : Nat → Bool) (w : World) : Calls Try.prog 18 #[svr f] w fun e w' => e = .returned (.int .i64 (popTo f 0 256 : Nat)) ∧ Below w.heap.size w w' := count_any f w
end Go.Proofs.Ytpgikkmpnbcljaa
