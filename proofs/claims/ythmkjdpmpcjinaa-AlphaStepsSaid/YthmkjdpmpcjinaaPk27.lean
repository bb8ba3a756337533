/-
  Two symbols that no state tells apart lead to the same places; lists that tell the same. Plain facts.
  What the tenth laws ask of the code: Classes, Firsts and Join, as contracts.
-/
import Derived.Test.YthmkjdpmpcjinaaPk13
import Derived.Test.YthmkjdpmpcjinaaPk26
namespace Go.Proofs.Ythmkjdpmpcjinaa
open Go.RowKit

theorem cntT_onto {T : Nat → Bool} : ∀ {m j}, j < cntT T m → ∃ i, i < m ∧ T i = true ∧ cntT T i = j
  | 0, j, h => absurd h (Nat.not_lt_zero _)
  | m + 1, j, h => by
    rw [cntT_succ] at h
    by_cases e : j < cntT T m
    · obtain ⟨i, h1, h2, h3⟩ := cntT_onto e
      exact ⟨i, by omega, h2, h3⟩
    · by_cases hT : T m = true
      · rw [if_pos hT] at h
        exact ⟨m, by omega, hT, by omega⟩
      · rw [if_neg hT] at h; omega
/-- What a rising list tells is one list. -/
theorem tld_one {R : Prop} {m k1 k2 : Nat} {P : Nat → Prop} {l1 l2 : Nat → Int} (n1 : ¬ R → k1 = 0) (n2 : ¬ R → k2 = 0)
    (h1 : R → ∀ T : Nat → Bool, (∀ x, x < m → (T x = true ↔ P x)) → k1 = cntT T m ∧ ∀ i, i < m → T i = true → l1 (cntT T i) = i)
    (h2 : R → ∀ T : Nat → Bool, (∀ x, x < m → (T x = true ↔ P x)) → k2 = cntT T m ∧ ∀ i, i < m → T i = true → l2 (cntT T i) = i) : k1 = k2 ∧ ∀ j, j < k1 → l1 j = l2 j := by
  by_cases hR : R
  · obtain ⟨T, hT⟩ : ∃ T : Nat → Bool, ∀ x, (T x = true ↔ P x) := by
      refine ⟨fun x => @decide (P x) (Classical.propDecidable _), fun x => ?_⟩
      simp
    obtain ⟨e1, g1⟩ := h1 hR T fun x _ => hT x
    obtain ⟨e2, g2⟩ := h2 hR T fun x _ => hT x
    refine ⟨by omega, fun j hj => ?_⟩
    obtain ⟨i, i1, i2, i3⟩ := cntT_onto (T := T) (m := m) (j := j) (by omega)
    rw [← i3, g1 i i1 i2, g2 i i1 i2]
  · rw [n1 hR, n2 hR]
    exact ⟨rfl, fun j hj => absurd hj (Nat.not_lt_zero _)⟩
theorem By_alike {S : Nat → Sd} {m a b n : Nat} {l : Nat → Int} (h : alk S m a b = true) : By S a (nmd m n l) = By S b (nmd m n l) := by
  have key : ∀ q0, q0 < m → sOf (S q0) a = sOf (S q0) b := by
    intro q0 hq
    rcases alk_iff.1 h with rfl | ⟨_, _, h3⟩
    · rfl
    · exact h3 q0 hq
  funext q
  apply propext
  constructor
  · rintro ⟨q0, h0, h1, h2, h3⟩; exact ⟨q0, h0, h1, by rw [← key q0 h0.1]; exact h2, h3⟩
  · rintro ⟨q0, h0, h1, h2, h3⟩; exact ⟨q0, h0, h1, by rw [key q0 h0.1]; exact h2, h3⟩
end Go.Proofs.Ythmkjdpmpcjinaa

namespace Go.Proofs.Ythmkjdpmpcjinaa
open Go.RowKit

/-- A list of numbers, and how many classes there are. -/
def clsPost (n : Nat) (l : Nat → Int) (k : Int) (w : World) (e : Ending) (w' : World) : Prop := ∃ q c l', e = .returned (.tuple #[.slice q n c, .int .i64 k]) ∧ rdL w' q n l' ∧ (∀ j, j < n → l' j = l j) ∧ Below w.heap.size w w'
def ClsC : Prop := ∀ (p : Option Addr) (m cap : Nat) (S : Nat → Sd) (st fin : Int) (w : World), m ≤ 600 → stsAt w p m S → (∀ j, j < m → okWs (S j)) →
  Calls Try.prog 7 #[nfV p m cap st fin] w fun e w' => (rightP S m st fin → clsPost 259 (fun x => (clA (alk S m) x : Nat)) (cntT (isH (alk S m)) 259 : Nat) w e w') ∧ (¬ rightP S m st fin → clsPost 0 (fun _ => 0) 0 w e w')
def frsPost (n : Nat) (l : Nat → Int) (width : Int) (w : World) (e : Ending) (w' : World) : Prop := ∃ q c l', e = .returned (.slice q (min width 259).toNat c) ∧ rdL w' q (min width 259).toNat l' ∧ (∀ j, j < (min width 259).toNat → l' j = fsA l n (j : Nat)) ∧ Below w.heap.size w w'
def FrsC : Prop := ∀ (q : Option Addr) (n c : Nat) (l : Nat → Int) (width : Int) (w : World), n ≤ 1000 → rdL w q n l →
  Calls Try.prog 12 #[.slice q n c, .int .i64 width] w (frsPost n l width w)
/-- A number that an int holds. -/
def wfI (x : Int) : Prop := (Lit.int .i64 x).wf = true
theorem wfI_of {x : Int} (h1 : -1000000 ≤ x) (h2 : x ≤ 1000000) : wfI x := WalkArith.wf_i64 ⟨by omega, by omega⟩
def JoiC : Prop := ∀ (q : Option Addr) (n c : Nat) (l : Nat → Int) (q' : Option Addr) (n' c' : Nat) (l' : Nat → Int) (w : World), n ≤ 1000 → n' ≤ 1000 → (∀ j, j < n → wfI (l j)) → (∀ j, j < n' → wfI (l' j)) → rdL w q n l → rdL w q' n' l' →
  Calls Try.prog 11 #[.slice q n c, .slice q' n' c'] w fun e w' => (n = n' → clsPost n (fun x => (clA (joR l l') x : Nat)) (cntT (isH (joR l l')) n : Nat) w e w') ∧ (n ≠ n' → clsPost 0 (fun _ => 0) 0 w e w')
end Go.Proofs.Ythmkjdpmpcjinaa
