/-
  What the thirteenth laws ask of the code: contracts; whether an automaton is small.
-/
import Derived.Test.YtefpoapbodbenaaPk34
import Derived.Test.YtefpoapbodbenaaPk32
import Derived.Test.YtefpoapbodbenaaPk19
import Derived.Test.YtefpoapbodbenaaPk12
import Derived.Test.YtefpoapbodbenaaPk23
import Derived.Deep.RegionHeldLaw
namespace Go.Proofs.Ytefpoapbodbenaa
open Go.RowKit

theorem daAt.same {w : World} {v : Value} {x y : Da} (h : daAt w v x) (hs : saP x y) : daAt w v y := by
  obtain ⟨q0, c0, q1, c1, q2, c2, rfl, h0, h1, h2⟩ := h
  obtain ⟨⟨s0, s1⟩, ⟨s2, s3⟩, s4, s5, s6, s7⟩ := hs
  refine ⟨q0, c0, q1, c1, q2, c2, by rw [s0, s2, s4, s5, s6], ?_, ?_, ?_⟩
  · rw [← s0]; exact h0.eqv13 s1
  · rw [← s2]; exact h1.eqv13 s3
  · rw [← s6]
    exact fun j hj => by
      obtain ⟨b, o, e1, e2, e3⟩ := h2 j hj
      exact ⟨b, o, e1, e2, by rw [← s7 j hj]; exact e3⟩
/-- mini.Of, mini.Blocks. -/
def moPost (x : Da) (w : World) (e : Ending) (w' : World) : Prop :=
  (rgD x → ∃ v', e = .returned (.tuple #[v', .int .i64 0]) ∧ daAt w' v' (mnD x)) ∧ (¬ rgD x → ∃ v' x', e = .returned (.tuple #[v', .int .i64 3]) ∧ daAt w' v' x' ∧ x'.n1 = 0) ∧ Below w.heap.size w w'
def MofD : Prop := ∀ (v : Value) (x : Da) (w : World), smD x → daAt w v x → Calls Try.prog 15 #[v] w (moPost x w)
theorem mnD_sm {x : Da} (hx : rgD x) (h : x.n2 ≤ 12) : smD (mnD x) := by
  have h1 := mnD_rg hx
  have h2 := mnD_le hx
  obtain ⟨g0, g1, g2, g3, g4, g5, -⟩ := h1
  obtain ⟨W, hW⟩ : ∃ W : Nat, (mnD x).wd = W := ⟨(mnD x).wd.toNat, by omega⟩
  rw [hW] at g2 g5
  have g6 : (mnD x).n1 = (mnD x).n2 * W := by exact_mod_cast g5
  have g7 : (mnD x).n2 * W ≤ 12 * 259 := Nat.mul_le_mul (by omega) (by omega)
  exact ⟨by omega, by omega, by omega⟩

end Go.Proofs.Ytefpoapbodbenaa
