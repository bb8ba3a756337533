/-
  Same of what Of tells twice; what Of's answers are, as values.
-/
import Derived.Test.YtiahgcgpakgeeaaDoorPk49
namespace Go.Proofs.YtiahgcgpakgeeaaDoor
open Go.RowKit

theorem same_nil (w : World) : Calls Tryd.prog 7 #[.slice none 0 0, .slice none 0 0] w fun e w' => e = .returned (.bool true) ∧ ∃ q, w' = w.drewN q := by
  go_enter Tryd.func7, Tryd.ntmps7
  go_wp2
  refine wp_loop_rounds 1 ?_
  rw [rounds_succ]; go_wp2
  go_returns
  exact ⟨rfl, 0, rfl⟩
/-- No tree of more than 512 nodes is told, and none without nodes. -/
theorem ofF_len {T : Nat → Tn} {n : Nat} {end_ : Int} {l : List Nd} (h : (ofF T n end_).1 = some l) : 1 ≤ l.length ∧ l.length ≤ 512 ∧ (ofF T n end_).2 = (0, 0) ∧ (wrF T n (n + 1) 0 0).2.1 = 0 ∧ (wrF T n (n + 1) 0 0).2.2 = 0 ∧ l = (ei T n (n + 1) 0).1 := by
  unfold ofF at h ⊢
  by_cases h1 : (wrF T n (n + 1) 0 0).2.1 ≠ 0
  · rw [if_pos h1] at h; cases h
  · rw [if_neg h1] at h ⊢
    by_cases h2 : 0 < (wrF T n (n + 1) 0 0).2.2
    · rw [if_pos h2] at h; cases h
    · rw [if_neg h2] at h ⊢
      by_cases h3 : 512 < (ei T n (n + 1) 0).1.length
      · rw [if_pos h3] at h; cases h
      · rw [if_neg h3] at h ⊢
        have := Option.some.inj h
        subst this
        have hok := (ei_ok T n (n + 1)) 0 (by omega) (by omega)
        exact ⟨by omega, by omega, rfl, by omega, by omega, rfl⟩
theorem patF_len {p : ByteArray} {l : List Nd} (h : (patF p).1 = some l) : 1 ≤ l.length ∧ l.length ≤ 512 := by
  unfold patF at h
  by_cases h1 : 200 < p.size
  · rw [if_pos h1] at h; cases h
  · rw [if_neg h1] at h
    cases ht : (toks p).1 with
    | none => rw [ht] at h; cases h
    | some tl => rw [ht] at h; exact ⟨(ofF_len h).1, (ofF_len h).2.1⟩
/-- Same, of what is told twice of one thing. -/
theorem same_of {r : Option (List Nd) × Int × Int} (hl : ∀ l, r.1 = some l → 1 ≤ l.length ∧ l.length ≤ 512) {w w1 w2 : World} {v v2 : Value} {x y : Value} (h1 : ofPost r w (.returned (.tuple #[v, x, y])) w1) (h2 : ofPost r w1 (.returned (.tuple #[v2, x, y])) w2) :
    (∃ q n c q' n' c', v = .slice q n c ∧ v2 = .slice q' n' c') ∧ Calls Tryd.prog 7 #[v, v2] w2 fun e w' => e = .returned (.bool true) ∧ ∃ q, w' = w2.drewN q := by
  cases hr : r.1 with
  | none =>
    have e1 := h1.2.1 hr
    have e2 := h2.2.1 hr
    simp at e1 e2
    have a1 := e1.1
    have a2 := e2.1
    subst a1 a2
    exact ⟨⟨_, _, _, _, _, _, rfl, rfl⟩, same_nil w2⟩
  | some l =>
    obtain ⟨u, e1, o1⟩ := h1.1 l hr
    obtain ⟨u2, e2, o2⟩ := h2.1 l hr
    simp at e1 e2
    have a1 := e1.1
    have a2 := e2.1
    subst a1 a2
    obtain ⟨g1, g2⟩ := hl l hr
    obtain ⟨b, c, rfl, hb⟩ := nds_own o1 g1
    obtain ⟨b', c', rfl, hb'⟩ := nds_own o2 g1
    exact ⟨⟨_, _, _, _, _, _, rfl, rfl⟩, same_is (nfn l) (nfn l) l.length (fun _ _ => rfl) (by omega) _ _ _ _ _ _ w2 (hb.below h2.2.2) hb'⟩
end Go.Proofs.YtiahgcgpakgeeaaDoor
