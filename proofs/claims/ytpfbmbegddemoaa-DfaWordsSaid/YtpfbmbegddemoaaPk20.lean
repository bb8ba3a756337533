/-
  What the ninth laws ask of the code: Build, Right, Close, Step and Fits, as contracts.
  Two symbols that no state tells apart lead to the same places; lists that tell the same. Plain facts.
  An automaton, decided: sets met one after the other, and where each goes. Plain.
-/
import Derived.Test.YtpfbmbegddemoaaPk17
import Derived.Test.YtpfbmbegddemoaaPk19
import Derived.Test.YtpfbmbegddemoaaPk12
import Derived.Test.YtpfbmbegddemoaaPk16
import Derived.Test.YtpfbmbegddemoaaPk11
namespace Go.Proofs.Ytpfbmbegddemoaa
open Go.RowKit

@[reducible] def nfV (p : Option Addr) (m cap : Nat) (st fin : Int) : Value := .agg #[.slice p m cap, .int .i64 st, .int .i64 fin]
def fin9 : Sd := ⟨6, 0, 0, 0, 0, 0, 0⟩
/-- The states that a slice holds. -/
def stsAt (w : World) (p : Option Addr) (m : Nat) (S : Nat → Sd) : Prop := (m = 0 ∨ ∃ b off, p = some ⟨b, off, none⟩) ∧ ∀ b off, p = some ⟨b, off, none⟩ → rdS w b off m S
def bldPost (N : Nat → Nd) (n : Nat) (w : World) (e : Ending) (w' : World) : Prop :=
  (¬ tree N n → ∃ p c, e = .returned (.tuple #[nfV p 0 c 0 0, .int .i64 3]) ∧ Below w.heap.size w w') ∧
  (tree N n → 600 < nst (trT N (n - 1)) → ∃ p c st fin, e = .returned (.tuple #[nfV p 0 c st fin, .int .i64 4]) ∧ Below w.heap.size w w') ∧
  (tree N n → nst (trT N (n - 1)) ≤ 600 → ∃ g o c S, ∃ f l : Nat, e = .returned (.tuple #[nfV (some ⟨g, o, none⟩) (nst (trT N (n - 1))) c f l, .int .i64 0]) ∧ rdS w' g o (nst (trT N (n - 1))) S ∧ nst (trT N (n - 1)) ≤ c ∧
    isFr S (trT N (n - 1)) 0 f l ∧ S l = fin9 ∧ Below w.heap.size w w')
/-- A rising list of what is so; of none, where an automaton may not be. -/
def tldPost (R : Prop) (m : Nat) (P : Nat → Prop) (w : World) (e : Ending) (w' : World) : Prop :=
  ∃ q k c l, e = .returned (.slice q k c) ∧ rdL w' q k l ∧ Below w.heap.size w w' ∧ (¬ R → k = 0) ∧ (R → ∀ T : Nat → Bool, (∀ x, x < m → (T x = true ↔ P x)) → k = cntT T m ∧ ∀ i, i < m → T i = true → l (cntT T i) = i)
/-- What a list names. -/
def nmd (m n : Nat) (l : Nat → Int) (q : Nat) : Prop := q < m ∧ ∃ i, i < n ∧ l i = (q : Int)
def fitC (S : Nat → Sd) (m : Nat) (st fin : Int) (s : ByteArray) (i j : Int) : Prop := rightP S m st fin ∧ 0 ≤ i ∧ i ≤ j ∧ j ≤ s.size ∧ fitsP S s.size (tx7 s) st.toNat fin.toNat i.toNat j.toNat
end Go.Proofs.Ytpfbmbegddemoaa

namespace Go.Proofs.Ytpfbmbegddemoaa
open Go.RowKit

theorem cntT_onto {T : Nat → Bool} : ∀ {m j}, j < cntT T m → ∃ i, i < m ∧ T i = true ∧ cntT T i = j
  | 0, j, h => absurd h (Nat.not_lt_zero _)
  | m + 1, j, h => by
    rw [cntT_succ] at h
    by_cases e : j < cntT T m
    · obtain ⟨i, h1, h2, h3⟩ := cntT_onto e
      exact ⟨i, by omega, h2, h3⟩
    · by_cases hT : T m = true
      · rw [if_pos hT] at h
        exact ⟨m, by omega, hT, by omega⟩
      · rw [if_neg hT] at h; omega
/-- What a rising list tells is one list. -/
theorem tld_one {R : Prop} {m k1 k2 : Nat} {P : Nat → Prop} {l1 l2 : Nat → Int} (n1 : ¬ R → k1 = 0) (n2 : ¬ R → k2 = 0)
    (h1 : R → ∀ T : Nat → Bool, (∀ x, x < m → (T x = true ↔ P x)) → k1 = cntT T m ∧ ∀ i, i < m → T i = true → l1 (cntT T i) = i)
    (h2 : R → ∀ T : Nat → Bool, (∀ x, x < m → (T x = true ↔ P x)) → k2 = cntT T m ∧ ∀ i, i < m → T i = true → l2 (cntT T i) = i) : k1 = k2 ∧ ∀ j, j < k1 → l1 j = l2 j := by
  by_cases hR : R
  · obtain ⟨T, hT⟩ : ∃ T : Nat → Bool, ∀ x, (T x = true ↔ P x) := by
      refine ⟨fun x => @decide (P x) (Classical.propDecidable _), fun x => ?_⟩
      simp
    obtain ⟨e1, g1⟩ := h1 hR T fun x _ => hT x
    obtain ⟨e2, g2⟩ := h2 hR T fun x _ => hT x
    refine ⟨by omega, fun j hj => ?_⟩
    obtain ⟨i, i1, i2, i3⟩ := cntT_onto (T := T) (m := m) (j := j) (by omega)
    rw [← i3, g1 i i1 i2, g2 i i1 i2]
  · rw [n1 hR, n2 hR]
    exact ⟨rfl, fun j hj => absurd hj (Nat.not_lt_zero _)⟩
theorem By_alike {S : Nat → Sd} {m a b n : Nat} {l : Nat → Int} (h : alk S m a b = true) : By S a (nmd m n l) = By S b (nmd m n l) := by
  have key : ∀ q0, q0 < m → sOf (S q0) a = sOf (S q0) b := by
    intro q0 hq
    rcases alk_iff.1 h with rfl | ⟨_, _, h3⟩
    · rfl
    · exact h3 q0 hq
  funext q
  apply propext
  constructor
  · rintro ⟨q0, h0, h1, h2, h3⟩; exact ⟨q0, h0, h1, by rw [← key q0 h0.1]; exact h2, h3⟩
  · rintro ⟨q0, h0, h1, h2, h3⟩; exact ⟨q0, h0, h1, by rw [key q0 h0.1]; exact h2, h3⟩
end Go.Proofs.Ytpfbmbegddemoaa

namespace Go.Proofs.Ytpfbmbegddemoaa

abbrev Bf := Nat → Bool
/-- Are two sets the same below m? -/
def eqS (m : Nat) (T U : Bf) : Bool := (List.range m).all fun k => T k == U k
theorem eqS_iff {m : Nat} {T U : Bf} : eqS m T U = true ↔ ∀ k, k < m → T k = U k := by
  unfold eqS
  simp only [List.all_eq_true, List.mem_range, beq_iff_eq]
/-- The place of a set among some; how many they are, if it is none of them. -/
def fiS (m : Nat) (L : List Bf) (x : Bf) : Nat := L.findIdx fun T => eqS m T x
theorem fiS_le (m : Nat) (L : List Bf) (x : Bf) : fiS m L x ≤ L.length := List.findIdx_le_length
def adS (m : Nat) (L : List Bf) (x : Bf) : List Bf := if fiS m L x < L.length then L else L ++ [x]
theorem adS_len (m : Nat) (L : List Bf) (x : Bf) : L.length ≤ (adS m L x).length ∧ (adS m L x).length ≤ L.length + 1 := by
  unfold adS
  split
  · omega
  · simp
theorem adS_old {m : Nat} {L : List Bf} {x : Bf} {j : Nat} (h : j < L.length) : (adS m L x)[j]? = L[j]? := by
  unfold adS
  split
  · rfl
  · rw [List.getElem?_append_left h]
theorem fiS_lt (m : Nat) (L : List Bf) (x : Bf) : fiS m L x < (adS m L x).length := by
  have := fiS_le m L x
  unfold adS
  split
  · assumption
  · simp; omega
theorem fiS_at (m : Nat) (L : List Bf) (x : Bf) : ∃ T, (adS m L x)[fiS m L x]? = some T ∧ ∀ k, k < m → T k = x k := by
  have hle := fiS_le m L x
  unfold adS
  split
  · rename_i h
    refine ⟨L[fiS m L x], List.getElem?_eq_getElem h, ?_⟩
    have := List.findIdx_getElem (p := fun T => eqS m T x) (xs := L) (w := h)
    exact eqS_iff.1 this
  · rename_i h
    have e : fiS m L x = L.length := by omega
    refine ⟨x, by rw [e]; simp, fun _ _ => rfl⟩
theorem fiS_is {m : Nat} {L : List Bf} {x : Bf} {j : Nat} (hj : j < L.length) (h : eqS m L[j] x = true) (hn : ∀ i (hi : i < j), eqS m (L[i]'(Nat.lt_trans hi hj)) x = false) : fiS m L x = j := by
  unfold fiS
  rw [List.findIdx_eq hj]
  exact ⟨h, fun i hi => hn i hi⟩
theorem fiS_none {m : Nat} {L : List Bf} {x : Bf} (h : ∀ i (hi : i < L.length), eqS m L[i] x = false) : fiS m L x = L.length := by
  unfold fiS
  rw [List.findIdx_eq_length]
  intro T hT
  obtain ⟨i, hi, rfl⟩ := List.getElem_of_mem hT
  exact h i hi
/-- Sets, and where they go. -/
abbrev Ms := List Bf × List Nat
/-- One set goes by the first c classes. -/
def clM (go : Nat → Bf → Bf) (m : Nat) (X : Bf) : Nat → Ms → Ms
  | 0, s => s
  | c + 1, s => (adS m (clM go m X c s).1 (go c X), (clM go m X c s).2 ++ [fiS m (clM go m X c s).1 (go c X)])
/-- Behind a rounds. -/
def atM (go : Nat → Bf → Bf) (m width : Nat) (T0 : Bf) : Nat → Ms
  | 0 => ([T0], [])
  | a + 1 => match (atM go m width T0 a).1[a]? with
    | none => atM go m width T0 a
    | some X => clM go m X width (atM go m width T0 a)
variable {go : Nat → Bf → Bf} {m width : Nat} {T0 : Bf}
theorem clM_len {X : Bf} {s : Ms} : ∀ c, s.1.length ≤ (clM go m X c s).1.length ∧ (clM go m X c s).1.length ≤ s.1.length + c ∧ (clM go m X c s).2.length = s.2.length + c
  | 0 => ⟨Nat.le_refl _, Nat.le_refl _, rfl⟩
  | c + 1 => by
    obtain ⟨h1, h2, h3⟩ := clM_len (X := X) (s := s) c
    have h4 := adS_len m (clM go m X c s).1 (go c X)
    refine ⟨?_, ?_, ?_⟩
    · show _ ≤ (adS m _ _).length; omega
    · show (adS m _ _).length ≤ _; omega
    · show (_ ++ [_]).length = _
      rw [List.length_append, h3]; rfl
theorem clM_old {X : Bf} {s : Ms} {j : Nat} (hj : j < s.1.length) : ∀ c, (clM go m X c s).1[j]? = s.1[j]?
  | 0 => rfl
  | c + 1 => by
    show (adS m _ _)[j]? = _
    rw [adS_old (Nat.lt_of_lt_of_le hj (clM_len c).1), clM_old hj c]
theorem atM_go {a : Nat} {X : Bf} (h : (atM go m width T0 a).1[a]? = some X) : atM go m width T0 (a + 1) = clM go m X width (atM go m width T0 a) := by
  show (match (atM go m width T0 a).1[a]? with | none => _ | some X => _) = _
  rw [h]
theorem atM_stay {a : Nat} (h : (atM go m width T0 a).1.length ≤ a) : atM go m width T0 (a + 1) = atM go m width T0 a := by
  show (match (atM go m width T0 a).1[a]? with | none => _ | some X => _) = _
  rw [List.getElem?_eq_none h]
theorem atM_mono (a : Nat) : (atM go m width T0 a).1.length ≤ (atM go m width T0 (a + 1)).1.length := by
  cases h : (atM go m width T0 a).1[a]? with
  | none => rw [atM_stay (List.getElem?_eq_none_iff.1 h)]; exact Nat.le_refl _
  | some X => rw [atM_go h]; exact (clM_len width).1
theorem atM_le {a b : Nat} (h : a ≤ b) : (atM go m width T0 a).1.length ≤ (atM go m width T0 b).1.length := by
  induction b with
  | zero => have : a = 0 := by omega
            subst this; exact Nat.le_refl _
  | succ b ih =>
    by_cases e : a = b + 1
    · subst e; exact Nat.le_refl _
    · exact Nat.le_trans (ih (by omega)) (atM_mono b)
theorem atM_one (a : Nat) : 1 ≤ (atM go m width T0 a).1.length := atM_le (a := 0) (Nat.zero_le a)
theorem atM_end {a b : Nat} (hab : a ≤ b) (h : (atM go m width T0 a).1.length ≤ a) : atM go m width T0 b = atM go m width T0 a := by
  induction b with
  | zero => have : a = 0 := by omega
            subst this; rfl
  | succ b ih =>
    by_cases e : a = b + 1
    · subst e; rfl
    · have := ih (by omega)
      rw [atM_stay (by rw [this]; omega), this]
theorem atM_old {a b j : Nat} (hab : a ≤ b) (hj : j < (atM go m width T0 a).1.length) : (atM go m width T0 b).1[j]? = (atM go m width T0 a).1[j]? := by
  induction b with
  | zero => have : a = 0 := by omega
            subst this; rfl
  | succ b ih =>
    by_cases e : a = b + 1
    · subst e; rfl
    · have := ih (by omega)
      have hl := atM_le (go := go) (m := m) (width := width) (T0 := T0) (show a ≤ b by omega)
      rw [← this]
      cases h : (atM go m width T0 b).1[b]? with
      | none => rw [atM_stay (List.getElem?_eq_none_iff.1 h)]
      | some X => rw [atM_go h]; exact clM_old (by omega) width
/-- How many rounds there are at most, where no more than so many states are let be. -/
def rdM (most : Int) : Nat := (most + 1).toNat
/-- All that is decided, where no more than so many states are let be. -/
def fullM (go : Nat → Bf → Bf) (m width : Nat) (T0 : Bf) (most : Int) : Ms := atM go m width T0 (rdM most)
/-- Where a loop over the sets ends. -/
theorem atM_stop {most : Int} {a : Nat} (ha : ∀ b, b < a → b < (atM go m width T0 b).1.length ∧ ((atM go m width T0 b).1.length : Int) ≤ most) :
    (most < (atM go m width T0 a).1.length → most < (fullM go m width T0 most).1.length) ∧
    ((atM go m width T0 a).1.length ≤ a → ((atM go m width T0 a).1.length : Int) ≤ most → fullM go m width T0 most = atM go m width T0 a) := by
  have hle : a ≤ rdM most := by
    unfold rdM
    rcases Nat.eq_zero_or_pos a with rfl | h
    · omega
    · have := ha (a - 1) (by omega)
      omega
  refine ⟨fun h => ?_, fun h h2 => atM_end hle h⟩
  have := atM_le (go := go) (m := m) (width := width) (T0 := T0) hle
  unfold fullM
  omega
/-- Where a set goes by a symbol. -/
def goY (S : Nat → Sd) (m y : Nat) (T : Bf) : Bf := if y < 256 then upN S 0 m (stR S y T m) m else upN S (y : Int) m T m
/-- The classes' first places. -/
def fsY (S : Nat → Sd) (m c : Nat) : Nat := (fsA (fun x => (clA (alk S m) x : Nat)) 259 (c : Nat)).toNat
def goC (S : Nat → Sd) (m c : Nat) (T : Bf) : Bf := goY S m (fsY S m c) T
def wdY (S : Nat → Sd) (m : Nat) : Nat := cntT (isH (alk S m)) 259
def T0Y (S : Nat → Sd) (m : Nat) (st : Int) : Bf := upN S 0 m (inL m (fun _ => st) 1) m
/-- The decided automaton of one that may be. -/
def subM (S : Nat → Sd) (m : Nat) (st most : Int) : Ms := fullM (goC S m) m (wdY S m) (T0Y S m st) most
end Go.Proofs.Ytpfbmbegddemoaa
