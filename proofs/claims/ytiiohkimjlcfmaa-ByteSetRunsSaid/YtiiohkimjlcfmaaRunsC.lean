/-
  What the walks of the law ByteSetRuns call for.
-/
import Derived.Test.YtiiohkimjlcfmaaAwake
import Derived.Test.YtiiohkimjlcfmaaEq
import Derived.Test.YtiiohkimjlcfmaaRunion
import Derived.Test.YtiiohkimjlcfmaaUmath
import Derived.Test.YtiiohkimjlcfmaaRruns
import Derived.Deep.QuietTactic
import Derived.BigQuiet
namespace Go.Proofs.Ytiiohkimjlcfmaa
open Go.RowKit

theorem runs_segs_any (f : Nat → Bool) (w : World) : Calls Try.prog 20 #[svr f] w fun e w' => ∃ v, e = .returned v ∧ rdR w' v (segs f 256 256) ∧ Below w.heap.size w w' :=
  (runs_any f w).mono fun _ _ ⟨v, h1, h2, h3⟩ => ⟨v, h1, by rw [runs_segs f 256 (by omega)] at h2; exact rdR_of_owns h2, h3⟩
theorem union_segs (f : Nat → Bool) (v : Value) (w : World) (h : rdR w v (segs f 256 256)) : Calls Try.prog 25 #[v] w fun e w' => e = .returned (sv f) ∧ Below w.heap.size w w' :=
  (union_any (segs f 256 256) (fun r hr => ⟨(segs_whole f r hr).2.2, (segs_whole f r hr).2.1⟩) (by have := segs_length f 256 256; omega) v w h).mono fun _ _ h2 => ⟨h2.1.trans (congrArg Ending.returned (sv_congr fun k hk => segs_union f k hk)), h2.2⟩

end Go.Proofs.Ytiiohkimjlcfmaa
