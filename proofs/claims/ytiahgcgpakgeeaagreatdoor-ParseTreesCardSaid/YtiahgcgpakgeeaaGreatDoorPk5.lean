/-
  The contract of the fifth reference's either, by recursion over the tokens that are left.
-/
import Derived.Test.YtiahgcgpakgeeaaGreatDoorPk2
import Derived.Test.YtiahgcgpakgeeaaGreatDoorPk3
import Derived.Test.YtiahgcgpakgeeaaGreatDoorPk4
namespace Go.Proofs.YtiahgcgpakgeeaaGreatDoor
open Go.RowKit

theorem either_any (T : Nat → Tn) (n b off cap : Nat) (hn : n ≤ 1000) : ∀ u a, n + 1 ≤ a + u → a ≤ n → ∀ w, rdTn w b off n T →
    Calls Tryz.prog 20 #[.slice (some ⟨b, off, none⟩) n cap, .int .i64 (a : Int)] w (ndPost (ei T n u a) w) := by
  intro u
  induction u with
  | zero => intro a h1 h2; omega
  | succ u ih =>
    intro a h1 h2 w hr
    have hk := ei_ok T n u
    exact either_of T n (n + 1 - u) b off cap (ei T n u) hn hk
      (fun a ha hle w hr => behind_of T n (n + 1 - u) b off cap (ei T n u) hn hk
        (fun a ha hlt w hr => part_of T n (n + 1 - u) b off cap (ei T n u) hn hk (fun a ha hle w hr => ih a (by omega) hle w hr) a ha hlt w hr) a ha hle w hr)
      a (by omega) h2 w hr
end Go.Proofs.YtiahgcgpakgeeaaGreatDoor
