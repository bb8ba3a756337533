/-
  An argument opened: an array of two bytes.
-/
import Derived.Test.YthmkjdpmpcjinaaPk51
namespace Go.Proofs.Ythmkjdpmpcjinaa
open Go.ChangeShapes Go.WideShapes Go.ChangeAt Go.RowKit Go.Joins Go.Deep

theorem cellsTwo8 : Try.prog.cellsOf 34 = 2 := by kernel_rfl
theorem cellsByte8 : Try.prog.cellsOf 5 = 1 := by kernel_rfl
set_option maxRecDepth 100000 in
/-- An array of two bytes. -/
theorem open_two8 {H : Type} {enc : TypeId × Value → H} {W : World} {base b0 : Nat} {sp : Nat → Bool} {hd : Bool} {v : Value} {d : DataW H} {ps : List MemPlace}
    (hok : Value.okWide Try.prog W .any base 34 v) (h : DataW.Trod enc Try.prog W b0 sp hd 34 v d ps) : ∃ i j : Nat, i < 256 ∧ j < 256 ∧ v = .agg #[.int .u8 (i : Int), .int .u8 (j : Int)] := by
  obtain ⟨cs, rfl, hsz, _⟩ : ∃ cs, v = .agg cs ∧ cs.size = Try.prog.cellsOf 34 ∧ Row.okWide Try.prog W .any base 34 cs := by
    simpa [Value.okWide, Try.underlying34] using hok
  rw [cellsTwo8] at hsz
  obtain ⟨c0, c1, rfl⟩ : ∃ c0 c1, cs = #[c0, c1] := by
    obtain ⟨l⟩ := cs
    match l, hsz with
    | [a, b], _ => exact ⟨a, b, rfl⟩
  obtain ⟨fuel, hf⟩ := h
  change DataW.trod enc Try.prog W b0 sp hd fuel 34 [c0, c1] = some (d, ps) at hf
  obtain ⟨xs, m, _, _, _, hxl, hg⟩ := DataW.trod_array Try.underlying34 hf
  match xs, hxl with
  | [y0, y1], _ =>
    have g0 := hg 0 (by decide)
    have g1 := hg 1 (by decide)
    simp [cellsByte8] at g0 g1
    obtain ⟨x0, e0, _, r0⟩ := DataW.trod_int Try.underlying5 g0
    obtain ⟨x1, e1, _, r1⟩ := DataW.trod_int Try.underlying5 g1
    have e0' : c0 = .int .u8 x0 := by first | exact e0 | simpa using e0
    have e1' : c1 = .int .u8 x1 := by first | exact e1 | simpa using e1
    clear e0 e1
    subst e0' e1'
    have k0 : 0 ≤ x0 ∧ x0 < 256 := by
      have hw : IntKind.u8.min ≤ x0 ∧ x0 ≤ IntKind.u8.max := by simpa [Lit.wf] using r0
      have h1 : IntKind.u8.min = 0 := rfl
      have h2 : IntKind.u8.max = 255 := rfl
      omega
    have k1 : 0 ≤ x1 ∧ x1 < 256 := by
      have hw : IntKind.u8.min ≤ x1 ∧ x1 ≤ IntKind.u8.max := by simpa [Lit.wf] using r1
      have h1 : IntKind.u8.min = 0 := rfl
      have h2 : IntKind.u8.max = 255 := rfl
      omega
    exact ⟨x0.toNat, x1.toNat, by omega, by omega, by rw [Int.toNat_of_nonneg k0.1, Int.toNat_of_nonneg k1.1]⟩
end Go.Proofs.Ythmkjdpmpcjinaa
