/-
  Which states one comes to from which: counted by ways through ever more states. Plain.
-/
import Derived.Test.YtpfbmbegddemoaaPk29
namespace Go.Proofs.Ytpfbmbegddemoaa

/-- One comes from a state to another one, by some edges or none. -/
inductive rtE (E : Nat → Nat → Bool) : Nat → Nat → Prop
  | refl (i : Nat) : rtE E i i
  | tail {i j k : Nat} : rtE E i j → E j k = true → rtE E i k
theorem rtE.one {E : Nat → Nat → Bool} {i k : Nat} (h : E i k = true) : rtE E i k := .tail (.refl i) h
theorem rtE.trans {E : Nat → Nat → Bool} {i j k : Nat} (h : rtE E i j) (g : rtE E j k) : rtE E i k := by
  induction g with
  | refl => exact h
  | tail _ e ih => exact .tail ih e
/-- Behind m rounds. -/
def wsh (E : Nat → Nat → Bool) : Nat → Nat → Nat → Bool
  | 0 => E
  | m + 1 => fun i k => wsh E m i k || (wsh E m i m && wsh E m m k)
theorem wsh_iff {E : Nat → Nat → Bool} {m i k : Nat} : wsh E (m + 1) i k = true ↔ wsh E m i k = true ∨ (wsh E m i m = true ∧ wsh E m m k = true) := by
  show (wsh E m i k || (wsh E m i m && wsh E m m k)) = true ↔ _
  rw [Bool.or_eq_true, Bool.and_eq_true]
theorem wsh_le {E : Nat → Nat → Bool} {i k : Nat} (h : E i k = true) : ∀ m, wsh E m i k = true
  | 0 => h
  | m + 1 => wsh_iff.2 (.inl (wsh_le h m))
theorem wsh_rt {E : Nat → Nat → Bool} : ∀ m i k, wsh E m i k = true → rtE E i k
  | 0, _, _, h => .one h
  | m + 1, i, k, h => by
    rcases wsh_iff.1 h with h | ⟨h1, h2⟩
    · exact wsh_rt m i k h
    · exact (wsh_rt m i m h1).trans (wsh_rt m m k h2)
theorem wsh_col {E : Nat → Nat → Bool} {m i : Nat} : wsh E (m + 1) i m = wsh E m i m := by
  rw [Bool.eq_iff_iff, wsh_iff]
  exact ⟨fun h => h.elim id And.left, .inl⟩
theorem wsh_row {E : Nat → Nat → Bool} {m k : Nat} : wsh E (m + 1) m k = wsh E m m k := by
  rw [Bool.eq_iff_iff, wsh_iff]
  exact ⟨fun h => h.elim id And.right, .inl⟩
theorem wsh_trans {E : Nat → Nat → Bool} : ∀ m a b c, b < m → wsh E m a b = true → wsh E m b c = true → wsh E m a c = true
  | 0, _, _, _, h, _, _ => absurd h (Nat.not_lt_zero _)
  | m + 1, a, b, c, hb, h1, h2 => by
    by_cases e : b = m
    · subst e
      rw [wsh_col] at h1
      rw [wsh_row] at h2
      exact wsh_iff.2 (.inr ⟨h1, h2⟩)
    · have hb' : b < m := by omega
      have T := fun a b c => wsh_trans (E := E) m a b c
      rcases wsh_iff.1 h1 with h1 | ⟨h1, h1'⟩
      · rcases wsh_iff.1 h2 with h2 | ⟨h2, h2'⟩
        · exact wsh_iff.2 (.inl (T _ _ _ hb' h1 h2))
        · exact wsh_iff.2 (.inr ⟨T _ _ _ hb' h1 h2, h2'⟩)
      · rcases wsh_iff.1 h2 with h2 | ⟨h2, h2'⟩
        · exact wsh_iff.2 (.inr ⟨h1, T _ _ _ hb' h1' h2⟩)
        · exact wsh_iff.2 (.inr ⟨h1, h2'⟩)
/-- Behind all rounds: just where one comes to. -/
theorem wsh_all {E : Nat → Nat → Bool} {n : Nat} (hr : ∀ i, i < n → E i i = true) (hl : ∀ i k, i < n → E i k = true → k < n) {i : Nat} (hi : i < n) (k : Nat) : wsh E n i k = true ↔ rtE E i k := by
  refine ⟨wsh_rt n i k, fun h => ?_⟩
  have key : wsh E n i k = true ∧ k < n := by
    induction h with
    | refl => exact ⟨wsh_le (hr i hi) n, hi⟩
    | tail _ e ih => exact ⟨wsh_trans n _ _ _ ih.2 ih.1 (wsh_le e n), hl _ _ ih.2 e⟩
  exact key.1
/-- A state leads to itself, and to where its symbols lead. -/
def edD (x : Da) (i k : Nat) : Bool := i == k || (List.range 259).any fun y => goD x i y == k
theorem edD_iff {x : Da} {i k : Nat} : edD x i k = true ↔ i = k ∨ ∃ y, y < 259 ∧ goD x i y = k := by
  unfold edD
  simp only [Bool.or_eq_true, beq_iff_eq, List.any_eq_true, List.mem_range]
theorem edD_lt {x : Da} (h : rgD x) : ∀ i k, i < x.n2 → edD x i k = true → k < x.n2 := fun i k hi e => by
  rcases edD_iff.1 e with rfl | ⟨y, hy, rfl⟩
  · exact hi
  · exact (goD_at h hi hy).2.2
theorem comes_iff {x : Da} (h : rgD x) {i : Nat} (hi : i < x.n2) (k : Nat) : wsh (edD x) x.n2 i k = true ↔ rtE (edD x) i k :=
  wsh_all (fun _ _ => edD_iff.2 (.inl rfl)) (edD_lt h) hi k
end Go.Proofs.Ytpfbmbegddemoaa
