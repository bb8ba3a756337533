/-
  A set that comes in as an argument, opened: the function that its words are.
-/
import Derived.Test.YtgjpmfdiidkdnaaDoorPk50
import Derived.Test.YtgjpmfdiidkdnaaDoorPk1
import Derived.WalkKit
import Derived.ProofKit
import Derived.OpenShut
import Derived.Below
import Derived.Laws.IdiomArrays
import Derived.Lib.SmallJoins
namespace Go.Proofs.YtgjpmfdiidkdnaaDoor
open Go.ChangeShapes Go.WideShapes Go.ChangeAt Go.RowKit Go.Joins


set_option maxRecDepth 100000 in
theorem open_set {H : Type} {enc : TypeId × Value → H} {W : World} {base b0 : Nat} {sp : Nat → Bool} {hd : Bool} {v : Value} {d : DataW H} {ps : List MemPlace}
    (hok : Value.okWide Tryd.prog W .any base 32 v) (h : DataW.Trod enc Tryd.prog W b0 sp hd 32 v d ps) : ∃ f, v = sv f := by
  obtain ⟨cs, rfl, hsz, _⟩ : ∃ cs, v = .agg cs ∧ cs.size = Tryd.prog.cellsOf 32 ∧ Row.okWide Tryd.prog W .any base 32 cs := by
    simpa [Value.okWide, Tryd.underlying32] using hok
  rw [cellsSet] at hsz
  obtain ⟨c0, c1, c2, c3, rfl⟩ := array4 hsz
  obtain ⟨fuel, hf⟩ := h
  obtain ⟨y0, y1, y2, y3, m, hx, hy0, hy1, hy2, hy3⟩ := trod_array4 Tryd.underlying32 cellsU64 hf
  obtain ⟨x0, e0, rfl, w0⟩ := DataW.trod_int Tryd.underlying30 hy0
  obtain ⟨x1, e1, rfl, w1⟩ := DataW.trod_int Tryd.underlying30 hy1
  obtain ⟨x2, e2, rfl, w2⟩ := DataW.trod_int Tryd.underlying30 hy2
  obtain ⟨x3, e3, rfl, w3⟩ := DataW.trod_int Tryd.underlying30 hy3
  simp at e0 e1 e2 e3
  subst e0 e1 e2 e3
  have bd : ∀ x : Int, (Lit.int .u64 x).wf = true → ∃ n : Nat, x = n ∧ n < 18446744073709551616 := by
    intro x hx
    have hw : IntKind.u64.min ≤ x ∧ x ≤ IntKind.u64.max := by simpa [Lit.wf] using hx
    simp [IntKind.min, IntKind.max, IntKind.bits, IntKind.signed] at hw
    exact ⟨x.toNat, by omega, by omega⟩
  obtain ⟨n0, rfl, l0⟩ := bd x0 w0
  obtain ⟨n1, rfl, l1⟩ := bd x1 w1
  obtain ⟨n2, rfl, l2⟩ := bd x2 w2
  obtain ⟨n3, rfl, l3⟩ := bd x3 w3
  obtain ⟨g0, g1, g2, g3⟩ := ofWords_wd l0 l1 l2 l3
  refine ⟨ofWords n0 n1 n2 n3, ?_⟩
  unfold sv
  rw [← g0, ← g1, ← g2, ← g3]

end Go.Proofs.YtgjpmfdiidkdnaaDoor
