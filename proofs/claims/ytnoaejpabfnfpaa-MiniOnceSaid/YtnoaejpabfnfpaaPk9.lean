/-
  What the ninth laws ask of the code: Build, Right, Close, Step and Fits, as contracts.
  Two symbols that no state tells apart lead to the same places; lists that tell the same. Plain facts.
  An automaton, decided: sets met one after the other, and where each goes. Plain.
  What the ninth reference counts is what the page says, and what there are steps for. Plain facts.
  A list that grows while it is gone over: where one comes at once. Plain facts.
  Rows of states in memory, as lists.
  The walk of the ninth reference's put.
  The states of repeated parts, a round at a time. Plain facts.
  A part in memory: its states, its first and its last one; what Make is asked.
  The walk of the ninth reference's repeat.
  What is met, and the list of it, in memory; the walk of the closure that puts.
-/
import Derived.Test.YtnoaejpabfnfpaaPk7
import Derived.Test.YtnoaejpabfnfpaaPk8
import Derived.Test.YtnoaejpabfnfpaaPk4
import Derived.Test.YtnoaejpabfnfpaaPk6
import Derived.Laws.AppendOwnNone
import Derived.Deep.Cut
import Derived.OneCell
namespace Go.Proofs.Ytnoaejpabfnfpaa
open Go.RowKit

@[reducible] def nfV (p : Option Addr) (m cap : Nat) (st fin : Int) : Value := .agg #[.slice p m cap, .int .i64 st, .int .i64 fin]
def fin9 : Sd := ⟨6, 0, 0, 0, 0, 0, 0⟩
/-- The states that a slice holds. -/
def stsAt (w : World) (p : Option Addr) (m : Nat) (S : Nat → Sd) : Prop := (m = 0 ∨ ∃ b off, p = some ⟨b, off, none⟩) ∧ ∀ b off, p = some ⟨b, off, none⟩ → rdS w b off m S
def bldPost (N : Nat → Nd) (n : Nat) (w : World) (e : Ending) (w' : World) : Prop :=
  (¬ tree N n → ∃ p c, e = .returned (.tuple #[nfV p 0 c 0 0, .int .i64 3]) ∧ Below w.heap.size w w') ∧
  (tree N n → 600 < nst (trT N (n - 1)) → ∃ p c st fin, e = .returned (.tuple #[nfV p 0 c st fin, .int .i64 4]) ∧ Below w.heap.size w w') ∧
  (tree N n → nst (trT N (n - 1)) ≤ 600 → ∃ g o c S, ∃ f l : Nat, e = .returned (.tuple #[nfV (some ⟨g, o, none⟩) (nst (trT N (n - 1))) c f l, .int .i64 0]) ∧ rdS w' g o (nst (trT N (n - 1))) S ∧ nst (trT N (n - 1)) ≤ c ∧
    isFr S (trT N (n - 1)) 0 f l ∧ S l = fin9 ∧ Below w.heap.size w w')
/-- A rising list of what is so; of none, where an automaton may not be. -/
def tldPost (R : Prop) (m : Nat) (P : Nat → Prop) (w : World) (e : Ending) (w' : World) : Prop :=
  ∃ q k c l, e = .returned (.slice q k c) ∧ rdL w' q k l ∧ Below w.heap.size w w' ∧ (¬ R → k = 0) ∧ (R → ∀ T : Nat → Bool, (∀ x, x < m → (T x = true ↔ P x)) → k = cntT T m ∧ ∀ i, i < m → T i = true → l (cntT T i) = i)
/-- What a list names. -/
def nmd (m n : Nat) (l : Nat → Int) (q : Nat) : Prop := q < m ∧ ∃ i, i < n ∧ l i = (q : Int)
def fitC (S : Nat → Sd) (m : Nat) (st fin : Int) (s : ByteArray) (i j : Int) : Prop := rightP S m st fin ∧ 0 ≤ i ∧ i ≤ j ∧ j ≤ s.size ∧ fitsP S s.size (tx7 s) st.toNat fin.toNat i.toNat j.toNat
end Go.Proofs.Ytnoaejpabfnfpaa

namespace Go.Proofs.Ytnoaejpabfnfpaa
open Go.RowKit

theorem cntT_onto {T : Nat → Bool} : ∀ {m j}, j < cntT T m → ∃ i, i < m ∧ T i = true ∧ cntT T i = j
  | 0, j, h => absurd h (Nat.not_lt_zero _)
  | m + 1, j, h => by
    rw [cntT_succ] at h
    by_cases e : j < cntT T m
    · obtain ⟨i, h1, h2, h3⟩ := cntT_onto e
      exact ⟨i, by omega, h2, h3⟩
    · by_cases hT : T m = true
      · rw [if_pos hT] at h
        exact ⟨m, by omega, hT, by omega⟩
      · rw [if_neg hT] at h; omega
/-- What a rising list tells is one list. -/
theorem tld_one {R : Prop} {m k1 k2 : Nat} {P : Nat → Prop} {l1 l2 : Nat → Int} (n1 : ¬ R → k1 = 0) (n2 : ¬ R → k2 = 0)
    (h1 : R → ∀ T : Nat → Bool, (∀ x, x < m → (T x = true ↔ P x)) → k1 = cntT T m ∧ ∀ i, i < m → T i = true → l1 (cntT T i) = i)
    (h2 : R → ∀ T : Nat → Bool, (∀ x, x < m → (T x = true ↔ P x)) → k2 = cntT T m ∧ ∀ i, i < m → T i = true → l2 (cntT T i) = i) : k1 = k2 ∧ ∀ j, j < k1 → l1 j = l2 j := by
  by_cases hR : R
  · obtain ⟨T, hT⟩ : ∃ T : Nat → Bool, ∀ x, (T x = true ↔ P x) := by
      refine ⟨fun x => @decide (P x) (Classical.propDecidable _), fun x => ?_⟩
      simp
    obtain ⟨e1, g1⟩ := h1 hR T fun x _ => hT x
    obtain ⟨e2, g2⟩ := h2 hR T fun x _ => hT x
    refine ⟨by omega, fun j hj => ?_⟩
    obtain ⟨i, i1, i2, i3⟩ := cntT_onto (T := T) (m := m) (j := j) (by omega)
    rw [← i3, g1 i i1 i2, g2 i i1 i2]
  · rw [n1 hR, n2 hR]
    exact ⟨rfl, fun j hj => absurd hj (Nat.not_lt_zero _)⟩
theorem By_alike {S : Nat → Sd} {m a b n : Nat} {l : Nat → Int} (h : alk S m a b = true) : By S a (nmd m n l) = By S b (nmd m n l) := by
  have key : ∀ q0, q0 < m → sOf (S q0) a = sOf (S q0) b := by
    intro q0 hq
    rcases alk_iff.1 h with rfl | ⟨_, _, h3⟩
    · rfl
    · exact h3 q0 hq
  funext q
  apply propext
  constructor
  · rintro ⟨q0, h0, h1, h2, h3⟩; exact ⟨q0, h0, h1, by rw [← key q0 h0.1]; exact h2, h3⟩
  · rintro ⟨q0, h0, h1, h2, h3⟩; exact ⟨q0, h0, h1, by rw [key q0 h0.1]; exact h2, h3⟩
end Go.Proofs.Ytnoaejpabfnfpaa

namespace Go.Proofs.Ytnoaejpabfnfpaa

abbrev Bf := Nat → Bool
/-- Are two sets the same below m? -/
def eqS (m : Nat) (T U : Bf) : Bool := (List.range m).all fun k => T k == U k
theorem eqS_iff {m : Nat} {T U : Bf} : eqS m T U = true ↔ ∀ k, k < m → T k = U k := by
  unfold eqS
  simp only [List.all_eq_true, List.mem_range, beq_iff_eq]
/-- The place of a set among some; how many they are, if it is none of them. -/
def fiS (m : Nat) (L : List Bf) (x : Bf) : Nat := L.findIdx fun T => eqS m T x
theorem fiS_le (m : Nat) (L : List Bf) (x : Bf) : fiS m L x ≤ L.length := List.findIdx_le_length
def adS (m : Nat) (L : List Bf) (x : Bf) : List Bf := if fiS m L x < L.length then L else L ++ [x]
theorem adS_len (m : Nat) (L : List Bf) (x : Bf) : L.length ≤ (adS m L x).length ∧ (adS m L x).length ≤ L.length + 1 := by
  unfold adS
  split
  · omega
  · simp
theorem adS_old {m : Nat} {L : List Bf} {x : Bf} {j : Nat} (h : j < L.length) : (adS m L x)[j]? = L[j]? := by
  unfold adS
  split
  · rfl
  · rw [List.getElem?_append_left h]
theorem fiS_lt (m : Nat) (L : List Bf) (x : Bf) : fiS m L x < (adS m L x).length := by
  have := fiS_le m L x
  unfold adS
  split
  · assumption
  · simp; omega
theorem fiS_at (m : Nat) (L : List Bf) (x : Bf) : ∃ T, (adS m L x)[fiS m L x]? = some T ∧ ∀ k, k < m → T k = x k := by
  have hle := fiS_le m L x
  unfold adS
  split
  · rename_i h
    refine ⟨L[fiS m L x], List.getElem?_eq_getElem h, ?_⟩
    have := List.findIdx_getElem (p := fun T => eqS m T x) (xs := L) (w := h)
    exact eqS_iff.1 this
  · rename_i h
    have e : fiS m L x = L.length := by omega
    refine ⟨x, by rw [e]; simp, fun _ _ => rfl⟩
theorem fiS_is {m : Nat} {L : List Bf} {x : Bf} {j : Nat} (hj : j < L.length) (h : eqS m L[j] x = true) (hn : ∀ i (hi : i < j), eqS m (L[i]'(Nat.lt_trans hi hj)) x = false) : fiS m L x = j := by
  unfold fiS
  rw [List.findIdx_eq hj]
  exact ⟨h, fun i hi => hn i hi⟩
theorem fiS_none {m : Nat} {L : List Bf} {x : Bf} (h : ∀ i (hi : i < L.length), eqS m L[i] x = false) : fiS m L x = L.length := by
  unfold fiS
  rw [List.findIdx_eq_length]
  intro T hT
  obtain ⟨i, hi, rfl⟩ := List.getElem_of_mem hT
  exact h i hi
/-- Sets, and where they go. -/
abbrev Ms := List Bf × List Nat
/-- One set goes by the first c classes. -/
def clM (go : Nat → Bf → Bf) (m : Nat) (X : Bf) : Nat → Ms → Ms
  | 0, s => s
  | c + 1, s => (adS m (clM go m X c s).1 (go c X), (clM go m X c s).2 ++ [fiS m (clM go m X c s).1 (go c X)])
/-- Behind a rounds. -/
def atM (go : Nat → Bf → Bf) (m width : Nat) (T0 : Bf) : Nat → Ms
  | 0 => ([T0], [])
  | a + 1 => match (atM go m width T0 a).1[a]? with
    | none => atM go m width T0 a
    | some X => clM go m X width (atM go m width T0 a)
variable {go : Nat → Bf → Bf} {m width : Nat} {T0 : Bf}
theorem clM_len {X : Bf} {s : Ms} : ∀ c, s.1.length ≤ (clM go m X c s).1.length ∧ (clM go m X c s).1.length ≤ s.1.length + c ∧ (clM go m X c s).2.length = s.2.length + c
  | 0 => ⟨Nat.le_refl _, Nat.le_refl _, rfl⟩
  | c + 1 => by
    obtain ⟨h1, h2, h3⟩ := clM_len (X := X) (s := s) c
    have h4 := adS_len m (clM go m X c s).1 (go c X)
    refine ⟨?_, ?_, ?_⟩
    · show _ ≤ (adS m _ _).length; omega
    · show (adS m _ _).length ≤ _; omega
    · show (_ ++ [_]).length = _
      rw [List.length_append, h3]; rfl
theorem clM_old {X : Bf} {s : Ms} {j : Nat} (hj : j < s.1.length) : ∀ c, (clM go m X c s).1[j]? = s.1[j]?
  | 0 => rfl
  | c + 1 => by
    show (adS m _ _)[j]? = _
    rw [adS_old (Nat.lt_of_lt_of_le hj (clM_len c).1), clM_old hj c]
theorem atM_go {a : Nat} {X : Bf} (h : (atM go m width T0 a).1[a]? = some X) : atM go m width T0 (a + 1) = clM go m X width (atM go m width T0 a) := by
  show (match (atM go m width T0 a).1[a]? with | none => _ | some X => _) = _
  rw [h]
theorem atM_stay {a : Nat} (h : (atM go m width T0 a).1.length ≤ a) : atM go m width T0 (a + 1) = atM go m width T0 a := by
  show (match (atM go m width T0 a).1[a]? with | none => _ | some X => _) = _
  rw [List.getElem?_eq_none h]
theorem atM_mono (a : Nat) : (atM go m width T0 a).1.length ≤ (atM go m width T0 (a + 1)).1.length := by
  cases h : (atM go m width T0 a).1[a]? with
  | none => rw [atM_stay (List.getElem?_eq_none_iff.1 h)]; exact Nat.le_refl _
  | some X => rw [atM_go h]; exact (clM_len width).1
theorem atM_le {a b : Nat} (h : a ≤ b) : (atM go m width T0 a).1.length ≤ (atM go m width T0 b).1.length := by
  induction b with
  | zero => have : a = 0 := by omega
            subst this; exact Nat.le_refl _
  | succ b ih =>
    by_cases e : a = b + 1
    · subst e; exact Nat.le_refl _
    · exact Nat.le_trans (ih (by omega)) (atM_mono b)
theorem atM_one (a : Nat) : 1 ≤ (atM go m width T0 a).1.length := atM_le (a := 0) (Nat.zero_le a)
theorem atM_end {a b : Nat} (hab : a ≤ b) (h : (atM go m width T0 a).1.length ≤ a) : atM go m width T0 b = atM go m width T0 a := by
  induction b with
  | zero => have : a = 0 := by omega
            subst this; rfl
  | succ b ih =>
    by_cases e : a = b + 1
    · subst e; rfl
    · have := ih (by omega)
      rw [atM_stay (by rw [this]; omega), this]
theorem atM_old {a b j : Nat} (hab : a ≤ b) (hj : j < (atM go m width T0 a).1.length) : (atM go m width T0 b).1[j]? = (atM go m width T0 a).1[j]? := by
  induction b with
  | zero => have : a = 0 := by omega
            subst this; rfl
  | succ b ih =>
    by_cases e : a = b + 1
    · subst e; rfl
    · have := ih (by omega)
      have hl := atM_le (go := go) (m := m) (width := width) (T0 := T0) (show a ≤ b by omega)
      rw [← this]
      cases h : (atM go m width T0 b).1[b]? with
      | none => rw [atM_stay (List.getElem?_eq_none_iff.1 h)]
      | some X => rw [atM_go h]; exact clM_old (by omega) width
/-- How many rounds there are at most, where no more than so many states are let be. -/
def rdM (most : Int) : Nat := (most + 1).toNat
/-- All that is decided, where no more than so many states are let be. -/
def fullM (go : Nat → Bf → Bf) (m width : Nat) (T0 : Bf) (most : Int) : Ms := atM go m width T0 (rdM most)
/-- Where a loop over the sets ends. -/
theorem atM_stop {most : Int} {a : Nat} (ha : ∀ b, b < a → b < (atM go m width T0 b).1.length ∧ ((atM go m width T0 b).1.length : Int) ≤ most) :
    (most < (atM go m width T0 a).1.length → most < (fullM go m width T0 most).1.length) ∧
    ((atM go m width T0 a).1.length ≤ a → ((atM go m width T0 a).1.length : Int) ≤ most → fullM go m width T0 most = atM go m width T0 a) := by
  have hle : a ≤ rdM most := by
    unfold rdM
    rcases Nat.eq_zero_or_pos a with rfl | h
    · omega
    · have := ha (a - 1) (by omega)
      omega
  refine ⟨fun h => ?_, fun h h2 => atM_end hle h⟩
  have := atM_le (go := go) (m := m) (width := width) (T0 := T0) hle
  unfold fullM
  omega
/-- Where a set goes by a symbol. -/
def goY (S : Nat → Sd) (m y : Nat) (T : Bf) : Bf := if y < 256 then upN S 0 m (stR S y T m) m else upN S (y : Int) m T m
/-- The classes' first places. -/
def fsY (S : Nat → Sd) (m c : Nat) : Nat := (fsA (fun x => (clA (alk S m) x : Nat)) 259 (c : Nat)).toNat
def goC (S : Nat → Sd) (m c : Nat) (T : Bf) : Bf := goY S m (fsY S m c) T
def wdY (S : Nat → Sd) (m : Nat) : Nat := cntT (isH (alk S m)) 259
def T0Y (S : Nat → Sd) (m : Nat) (st : Int) : Bf := upN S 0 m (inL m (fun _ => st) 1) m
/-- The decided automaton of one that may be. -/
def subM (S : Nat → Sd) (m : Nat) (st most : Int) : Ms := fullM (goC S m) m (wdY S m) (T0Y S m st) most
end Go.Proofs.Ytnoaejpabfnfpaa

namespace Go.Proofs.Ytnoaejpabfnfpaa

section
variable {S : Nat → Sd} {m : Nat}
/-- What is true, as a set of states. -/
def pT (m : Nat) (T : Nat → Bool) (q : Nat) : Prop := q < m ∧ T q = true
theorem rt_lt {sym : Int} (hr : rng S m) {a q : Nat} (ha : a < m) (h : rt S sym a q) : q < m := by
  induction h with
  | refl => exact ha
  | @tail q' q'' _ he ih =>
    obtain ⟨_, _, a1, a2, b1, b2⟩ := hr q' ih
    rcases he with ⟨_, h⟩ | ⟨_, h⟩ <;> omega
theorem pT_up {sym : Int} {T : Nat → Bool} (hr : rng S m) : pT m (upN S sym m T m) = Cl S sym (pT m T) := by
  funext q
  apply propext
  constructor
  · rintro ⟨h1, h2⟩; exact (upN_iff hr h1).1 h2
  · intro h
    obtain ⟨q0, h1, h2⟩ := h
    have hq := rt_lt hr h1.1 h2
    exact ⟨hq, (upN_iff hr hq).2 ⟨q0, h1, h2⟩⟩
theorem pT_st {y : Nat} {T : Nat → Bool} (hr : rng S m) : pT m (stR S y T m) = By S y (pT m T) := by
  funext q
  apply propext
  constructor
  · rintro ⟨h1, h2⟩
    obtain ⟨q0, k1, k2, k3, k4, k5⟩ := (stR_iff hr (Nat.le_refl _)).1 h2
    exact ⟨q0, ⟨k1, k2⟩, k3, k4, k5⟩
  · rintro ⟨q0, ⟨k1, k2⟩, k3, k4, k5⟩
    obtain ⟨_, _, a1, a2, _, _⟩ := hr q0 k1
    exact ⟨by omega, (stR_iff hr (Nat.le_refl _)).2 ⟨q0, k1, k2, k3, k4, k5⟩⟩
theorem pT_in {s : Nat} (hs : s < m) : pT m (inL m (fun _ => (s : Int)) 1) = fun q => q = s := by
  funext q
  apply propext
  constructor
  · rintro ⟨h1, h2⟩
    obtain ⟨_, _, h⟩ := (inL_iff h1).1 h2
    omega
  · rintro rfl
    exact ⟨hs, (inL_iff hs).2 ⟨0, by omega, rfl⟩⟩
theorem pT_rF {tx : Nat → Nat} (hr : rng S m) : ∀ {k i T}, pT m (rF S m tx i k T) = runF S tx i k (pT m T)
  | 0, _, _ => rfl
  | k + 1, i, T => by
    show pT m (rF S m tx (i + 1) k (upN S 0 m (stR S (tx i) T m) m)) = runF S tx (i + 1) k (Cl S 0 (By S (tx i) (pT m T)))
    rw [pT_rF hr, pT_up hr, pT_st hr]
theorem fF_iff {n : Nat} {tx : Nat → Nat} {s fin i j : Nat} (hr : rng S m) (hs : s < m) (hf : fin < m) : fF S m n tx (s : Int) fin i j = true ↔ fitsP S n tx s fin i j := by
  have h0 : pT m (aF S m (s : Int)) = Cl S 0 fun q => q = s := by unfold aF; rw [pT_up hr, pT_in hs]
  have h1 : pT m (if i = 0 then upN S 256 m (aF S m (s : Int)) m else aF S m (s : Int)) = if i = 0 then Cl S 256 (Cl S 0 fun q => q = s) else Cl S 0 fun q => q = s := by
    by_cases hi : i = 0
    · rw [if_pos hi, if_pos hi, pT_up hr, h0]
    · rw [if_neg hi, if_neg hi, h0]
  have key : ∀ T : Nat → Bool, T fin = true ↔ pT m T fin := fun T => ⟨fun h => ⟨hf, h⟩, fun h => h.2⟩
  unfold fF fitsP
  by_cases hn : n = 0
  · rw [if_pos hn, if_pos hn, key, pT_up hr, h0]
  · rw [if_neg hn, if_neg hn]
    by_cases hj : j = n
    · rw [if_pos hj, if_pos hj, key, pT_up hr, pT_rF hr, h1]
    · rw [if_neg hj, if_neg hj, key, pT_rF hr, h1]
/-- An automaton of a tree, its last state the final one, may be. -/
theorem fr_right {t : Tr} (h : okT t) {f l : Nat} (hS : isFr S t 0 f l) (hl : S l = ⟨6, 0, 0, 0, 0, 0, 0⟩) (hn : nst t ≤ 600) : rightP S (nst t) f l := by
  have hb := fr_bd S t 0 f l hS
  have h2 := nst_two t
  have hk : ∀ q, q < nst t → q ≠ l → okS 0 (0 + nst t) (S q) := fun q hq hn' => fr_ok t h 0 f l hS q (Nat.zero_le _) (by omega) hn'
  have h6 : ∀ q, q < nst t → (six S q = true ↔ q = l) := fun q hq => by
    unfold six
    by_cases e : q = l
    · subst e; rw [hl]; simp
    · obtain ⟨k1, k2, _⟩ := hk q hq e
      constructor
      · intro g; rw [beq_iff_eq] at g; omega
      · intro g; exact absurd g e
  refine ⟨by omega, fun q hq => ?_, ?_, by rw [Int.toNat_natCast, hl]⟩
  · by_cases e : q = l
    · subst e
      unfold okQ
      rw [hl]
      exact ⟨⟨by show (1 : Int) ≤ 6; decide, by show (6 : Int) ≤ 6; decide, by show (0 : Int) ≤ 0; decide, by show (0 : Int) < _; omega, by show (0 : Int) ≤ 0; decide, by show (0 : Int) < _; omega⟩, .inr ⟨rfl, rfl, rfl, rfl⟩, .inr rfl, fun _ => rfl⟩
    · obtain ⟨k1, k2, k3, k4, k5, k6, k7⟩ := hk q hq e
      rw [Nat.zero_add] at k4 k5
      have hB : 0 ≤ (S q).B ∧ (S q).B < (nst t : Nat) := by
        by_cases e3 : (S q).k = 3
        · have := k5 e3; omega
        · have := k6 e3; omega
      refine ⟨⟨k1, by omega, by omega, k4, hB.1, hB.2⟩, ?_, ?_, fun g => by omega⟩
      · by_cases e1 : (S q).k = 1
        · exact .inl e1
        · exact .inr (k7 e1)
      · by_cases e3 : (S q).k = 3
        · exact .inl e3
        · exact .inr (k6 e3)
  · have main : ∀ M, M ≤ nst t → cntT (six S) M = if l < M then 1 else 0 := by
      intro M
      induction M with
      | zero => intro _; rfl
      | succ M ih =>
        intro hM
        rw [cntT_succ, ih (by omega)]
        have := h6 M (by omega)
        by_cases e : M = l
        · rw [if_pos (this.2 e), if_neg (by omega), if_pos (by omega)]
        · rw [if_neg (fun g => e (this.1 g))]
          by_cases g : l < M
          · rw [if_pos g, if_pos (by omega)]
          · rw [if_neg g, if_neg (by omega)]
    rw [main _ (Nat.le_refl _), if_pos (by omega)]
end
end Go.Proofs.Ytnoaejpabfnfpaa

namespace Go.Proofs.Ytnoaejpabfnfpaa
open Go.RowKit

/-- What is put behind the list of what is met, if it isn't met yet. -/
def putW (A : List Nat) (x : Nat) : List Nat := if x ∈ A then A else A ++ [x]
def memW (A : List Nat) (x : Nat) : Bool := decide (x ∈ A)
theorem putW_in {A : List Nat} {x : Nat} (h : x ∈ A) : putW A x = A := by unfold putW; rw [if_pos h]
theorem putW_out {A : List Nat} {x : Nat} (h : ¬ x ∈ A) : putW A x = A ++ [x] := by unfold putW; rw [if_neg h]
theorem putW_mem {A : List Nat} {x q : Nat} : q ∈ putW A x ↔ q ∈ A ∨ q = x := by
  by_cases h : x ∈ A
  · rw [putW_in h]
    constructor
    · exact .inl
    · rintro (g | rfl)
      · exact g
      · exact h
  · rw [putW_out h]; simp
theorem memW_put {A : List Nat} {x : Nat} (h : ¬ x ∈ A) (j : Nat) : putT (memW A) x true j = memW (A ++ [x]) j := by
  unfold putT memW
  by_cases e : j = x
  · subst e; simp
  · rw [if_neg e]
    congr 1
    simp [e]
def okA9 (m : Nat) (A : List Nat) : Prop := A.Nodup ∧ ∀ x, x ∈ A → x < m
theorem okA_nil (m : Nat) : okA9 m [] := ⟨List.nodup_nil, fun _ h => by cases h⟩
theorem okA_put {m : Nat} {A : List Nat} {x : Nat} (h : okA9 m A) (hx : x < m) : okA9 m (putW A x) := by
  by_cases e : x ∈ A
  · rw [putW_in e]; exact h
  · rw [putW_out e]
    refine ⟨?_, ?_⟩
    · rw [List.nodup_append]
      refine ⟨h.1, by simp, ?_⟩
      intro a ha b hb
      have : b = x := by simpa using hb
      subst this
      exact fun e2 => e (e2 ▸ ha)
    · intro y hy
      rcases List.mem_append.1 hy with g | g
      · exact h.2 y g
      · have : y = x := by simpa using g
        omega
theorem putW_old {A : List Nat} {x i : Nat} (h : i < A.length) : (putW A x)[i]? = A[i]? := by
  by_cases e : x ∈ A
  · rw [putW_in e]
  · rw [putW_out e, List.getElem?_append_left h]
theorem putW_len {A : List Nat} {x : Nat} : A.length ≤ (putW A x).length := by
  by_cases e : x ∈ A
  · rw [putW_in e]; exact Nat.le_refl _
  · rw [putW_out e]; simp
/-- The same members, none twice: what is true, rising, is a permutation. -/
theorem okA_perm {m : Nat} {A : List Nat} (h : okA9 m A) : (trs (memW A) m).Perm A := by
  refine (List.perm_ext_iff_of_nodup ?_ h.1).2 fun q => ?_
  · exact List.Pairwise.filter _ List.nodup_range
  · unfold trs memW
    rw [List.mem_filter, List.mem_range]
    constructor
    · rintro ⟨_, h2⟩; simpa using h2
    · exact fun g => ⟨h.2 q g, by simpa using g⟩
theorem okA_len {m : Nat} {A : List Nat} (h : okA9 m A) : A.length = cntT (memW A) m := (okA_perm h).length_eq.symm
theorem okA_le {m : Nat} {A : List Nat} (h : okA9 m A) : A.length ≤ m := by rw [okA_len h]; exact cntT_le _ _
def ints9 (A : List Nat) : List Int := A.map fun x : Nat => (x : Int)
theorem sort9 {m : Nat} {A : List Nat} (h : okA9 m A) : (ints9 A).mergeSort (fun x y => decide (x ≤ y)) = ints9 (trs (memW A) m) := by
  have ht : ∀ a b c : Int, decide (a ≤ b) = true → decide (b ≤ c) = true → decide (a ≤ c) = true := fun a b c h1 h2 => by
    simp only [decide_eq_true_eq] at *; omega
  have hto : ∀ a b : Int, (decide (a ≤ b) || decide (b ≤ a)) = true := fun a b => by
    simp only [Bool.or_eq_true, decide_eq_true_eq]; omega
  refine List.Perm.eq_of_pairwise (le := fun x y : Int => x ≤ y) (fun a b _ _ h1 h2 => by omega) ?_ ?_ ?_
  · exact (List.pairwise_mergeSort ht hto _).imp fun h => by simpa using h
  · unfold ints9 trs
    rw [List.pairwise_map]
    refine (List.Pairwise.filter _ (List.pairwise_lt_range (n := m))).imp fun h => by omega
  · refine (List.mergeSort_perm _ _).trans ?_
    exact ((okA_perm h).map _).symm

/-- The list is gone over up to k: what it has is reached, and it has all that one step from the first k leads to. -/
def wInv (S : Nat → Sd) (sym : Int) (m : Nat) (P : Nat → Prop) (A : List Nat) (k : Nat) : Prop :=
  okA9 m A ∧ k ≤ A.length ∧ (∀ q, q ∈ A → Cl S sym P q) ∧ (∀ q, P q → q ∈ A) ∧ ∀ i, i < k → ∀ x, A[i]? = some x → ∀ q, ep S sym x q → q ∈ A
theorem wInv_start {S : Nat → Sd} {sym : Int} {m : Nat} {P : Nat → Prop} {A : List Nat} (h : okA9 m A) (hP : ∀ q, q ∈ A ↔ P q) : wInv S sym m P A 0 :=
  ⟨h, Nat.zero_le _, fun q hq => ⟨q, (hP q).1 hq, .refl _⟩, fun q hq => (hP q).2 hq, fun _ hi => absurd hi (Nat.not_lt_zero _)⟩
theorem wInv_next {S : Nat → Sd} {sym : Int} {m : Nat} {P : Nat → Prop} {A A' : List Nat} {k x : Nat} (h : wInv S sym m P A k) (hk : k < A.length) (hx : A[k]? = some x) (ho : okA9 m A') (hl : A.length ≤ A'.length)
    (hp : ∀ i, i < A.length → A'[i]? = A[i]?) (h1 : ∀ q, q ∈ A' → q ∈ A ∨ ep S sym x q) (h2 : ∀ q, ep S sym x q → q ∈ A') (h3 : ∀ q, q ∈ A → q ∈ A') : wInv S sym m P A' (k + 1) := by
  obtain ⟨g1, g2, g3, g4, g5⟩ := h
  refine ⟨ho, by omega, fun q hq => ?_, fun q hq => h3 q (g4 q hq), fun i hi y hy q hq => ?_⟩
  · rcases h1 q hq with h | h
    · exact g3 q h
    · obtain ⟨q0, k1, k2⟩ := g3 x (List.mem_of_getElem? hx)
      exact ⟨q0, k1, .tail k2 h⟩
  · rw [hp i (by omega)] at hy
    by_cases e : i = k
    · subst e
      rw [hx] at hy; cases hy
      exact h2 q hq
    · exact h3 q (g5 i (by omega) y hy q hq)
theorem wInv_none {S : Nat → Sd} {sym : Int} {m : Nat} {P : Nat → Prop} {A : List Nat} {k x : Nat} (h : wInv S sym m P A k) (hk : k < A.length) (hx : A[k]? = some x) (h3 : (S x).k ≠ 3) (hA : eA S sym x = false) : wInv S sym m P A (k + 1) := by
  have hn : ∀ q, ¬ ep S sym x q := by
    rintro q (⟨g, _⟩ | ⟨g, _⟩)
    · rw [eA_iff.2 g] at hA; cases hA
    · exact h3 g
  exact wInv_next h hk hx h.1 (Nat.le_refl _) (fun _ _ => rfl) (fun q hq => .inl hq) (fun q hq => absurd hq (hn q)) fun _ hq => hq
theorem wInv_one {S : Nat → Sd} {sym : Int} {m : Nat} {P : Nat → Prop} {A : List Nat} {k x a : Nat} (h : wInv S sym m P A k) (hk : k < A.length) (hx : A[k]? = some x) (h3 : (S x).k ≠ 3) (hA : eA S sym x = true) (ha : (S x).A = (a : Int)) (ham : a < m) : wInv S sym m P (putW A a) (k + 1) := by
  refine wInv_next h hk hx (okA_put h.1 ham) putW_len (fun _ hi => putW_old hi) (fun q hq => ?_) (fun q hq => ?_) fun q hq => putW_mem.2 (.inl hq)
  · rcases putW_mem.1 hq with g | rfl
    · exact .inl g
    · exact .inr (.inl ⟨eA_iff.1 hA, ha.symm⟩)
  · rcases hq with ⟨_, g⟩ | ⟨g, _⟩
    · exact putW_mem.2 (.inr (by omega))
    · exact absurd g h3
theorem wInv_two {S : Nat → Sd} {sym : Int} {m : Nat} {P : Nat → Prop} {A : List Nat} {k x a b : Nat} (h : wInv S sym m P A k) (hk : k < A.length) (hx : A[k]? = some x) (h3 : (S x).k = 3) (ha : (S x).A = (a : Int)) (hb : (S x).B = (b : Int)) (ham : a < m) (hbm : b < m) : wInv S sym m P (putW (putW A b) a) (k + 1) := by
  refine wInv_next h hk hx (okA_put (okA_put h.1 hbm) ham) (Nat.le_trans putW_len putW_len) (fun i hi => ?_) (fun q hq => ?_) (fun q hq => ?_) fun q hq => putW_mem.2 (.inl (putW_mem.2 (.inl hq)))
  · rw [putW_old (Nat.lt_of_lt_of_le hi putW_len), putW_old hi]
  · rcases putW_mem.1 hq with g | rfl
    · rcases putW_mem.1 g with g | rfl
      · exact .inl g
      · exact .inr (.inr ⟨h3, hb.symm⟩)
    · exact .inr (.inl ⟨.inr (.inl h3), ha.symm⟩)
  · rcases hq with ⟨_, g⟩ | ⟨_, g⟩
    · exact putW_mem.2 (.inr (by omega))
    · exact putW_mem.2 (.inl (putW_mem.2 (.inr (by omega))))
theorem wInv_end {S : Nat → Sd} {sym : Int} {m : Nat} {P : Nat → Prop} {A : List Nat} {k : Nat} (h : wInv S sym m P A k) (hk : A.length ≤ k) (q : Nat) : q ∈ A ↔ Cl S sym P q := by
  obtain ⟨g1, g2, g3, g4, g5⟩ := h
  refine ⟨g3 q, ?_⟩
  rintro ⟨q0, h0, hr⟩
  induction hr with
  | refl => exact g4 q0 h0
  | @tail q1 q2 _ he ih =>
    obtain ⟨i, hi⟩ := List.mem_iff_getElem?.1 ih
    have hil : i < A.length := by
      rcases Nat.lt_or_ge i A.length with h | h
      · exact h
      · rw [List.getElem?_eq_none h] at hi; cases hi
    exact g5 i (by omega) q1 hi q2 he
end Go.Proofs.Ytnoaejpabfnfpaa

namespace Go.Proofs.Ytnoaejpabfnfpaa
open Go.RowKit

def scs (x : Sd) : List Value := [.int .i64 x.k, .int .i64 x.A, .int .i64 x.B, .int .u64 x.a, .int .u64 x.b, .int .u64 x.c, .int .u64 x.d]
def sds (l : List Sd) : List Value := l.flatMap scs
theorem sds_append (l r : List Sd) : sds (l ++ r) = sds l ++ sds r := by simp [sds]
theorem sds_one (x : Sd) : sds [x] = scs x := by simp [sds]
theorem sds_cons (x : Sd) (l : List Sd) : sds (x :: l) = scs x ++ sds l := rfl
theorem sds_len (l : List Sd) : (sds l).length = l.length * 7 := by
  induction l with
  | nil => rfl
  | cons x l ih => rw [sds_cons, List.length_append, ih, List.length_cons]; simp [scs]; omega
theorem sds_cell (l : List Sd) : ∀ u ∈ sds l, u.oneCell' = true := by
  intro u hu
  unfold sds at hu
  obtain ⟨x, _, hx⟩ := List.mem_flatMap.1 hu
  unfold scs at hx
  simp at hx
  rcases hx with rfl | rfl | rfl | rfl | rfl | rfl | rfl <;> rfl
theorem sds_get (l : List Sd) (j : Nat) (h : j < l.length) (x : Nat) (hx : x < 7) : (sds l)[j * 7 + x]? = (scs l[j])[x]? := by
  induction l generalizing j with
  | nil => simp at h
  | cons r l ih =>
    have e7 : (scs r).length = 7 := rfl
    rw [sds_cons]
    cases j with
    | zero => rw [List.getElem?_append_left (by omega)]; simp
    | succ j =>
      rw [List.getElem?_append_right (by omega), e7, show (j + 1) * 7 + x - 7 = j * 7 + x by omega]
      exact ih j (by simpa using h)
theorem sds_setA (l : List Sd) (j A : Nat) : (sds l).set (j * 7 + 1) (.int .i64 (A : Int)) = sds (setA l j A) := by
  induction l generalizing j with
  | nil => simp [sds, setA]
  | cons r l ih =>
    cases j with
    | zero => rfl
    | succ j =>
      have e : setA (r :: l) (j + 1) A = r :: setA l j A := rfl
      rw [sds_cons, e, sds_cons, ← ih j, show (j + 1) * 7 + 1 = (j * 7 + 1) + 7 by omega]
      rfl
theorem sds_setB (l : List Sd) (j A : Nat) : (sds l).set (j * 7 + 2) (.int .i64 (A : Int)) = sds (setB l j A) := by
  induction l generalizing j with
  | nil => simp [sds, setB]
  | cons r l ih =>
    cases j with
    | zero => rfl
    | succ j =>
      have e : setB (r :: l) (j + 1) A = r :: setB l j A := rfl
      rw [sds_cons, e, sds_cons, ← ih j, show (j + 1) * 7 + 2 = (j * 7 + 2) + 7 by omega]
      rfl

/-- The states that a slice reads as: none, or those of a block. -/
def srd (w : World) (v : Value) (L : List Sd) : Prop := (v = .slice none 0 0 ∧ L = []) ∨ ∃ b c, v = .slice (some ⟨b, 0, none⟩) L.length c ∧ b < w.heap.size ∧ ∀ j u, (sds L)[j]? = some u → w.cell? ⟨b, j, none⟩ = some u
theorem srd.below {w w' : World} {v : Value} {L : List Sd} (h : srd w v L) (hb : Below w.heap.size w w') : srd w' v L := by
  rcases h with h | ⟨b, c, rfl, hl, hc⟩
  · exact .inl h
  · exact .inr ⟨b, c, rfl, Nat.lt_of_lt_of_le hl hb.size, fun j u hu => by rw [hb.cell (p := ⟨b, j, none⟩) hl]; exact hc j u hu⟩
end Go.Proofs.Ytnoaejpabfnfpaa

namespace Go.Proofs.Ytnoaejpabfnfpaa
open Go.RowKit

theorem wp_append_none9 {P : Program} {w : World} {o : Oper} {a : Act} {K : Act → World → Prop} {Q : Exit → Act → World → Prop} (s x : Operand) (t : TypeId)
    (ho : o.op = .call { callee := .builtin .append, args := #[s, x], argTypes := #[t, t] })
    (base : Nat) (e : TypeId) (i : TypeInfo) (size : Nat) (ht : P.underlying t = some (.slice e)) (hi : P.info? e = some i)
    (v : Value) (n : Nat) (xs : List Value) (hs : a.eval s = v) (hown : w.ownsRow base e size v n xs) (hx : a.eval x = .slice none 0 0)
    (h : K (a.put o.dst v) w) : o.wp P a w K Q := by
  have hrun := run_append_owned_none (P := P) (w := w) base t o.type e i size ht hi v n xs hown
  unfold Oper.wp
  simp [execOp, ho, resolve, invoke, builtin, hs, hx, hrun, Result.andThen]
  exact h
theorem srd.grown {w w' : World} {b c n : Nat} {L : List Sd} {r : Option Nat} (h : srd w (.slice (some ⟨b, 0, none⟩) n c) L) (hg : w.grownBy w' r) (hr : some b ≠ r) : srd w' (.slice (some ⟨b, 0, none⟩) n c) L := by
  rcases h with ⟨h, _⟩ | ⟨b', c', h, hl, hc⟩
  · cases h
  · simp only [Value.slice.injEq, Option.some.injEq, Addr.mk.injEq] at h
    obtain ⟨⟨rfl, -⟩, rfl, rfl⟩ := h
    exact .inr ⟨b, c, rfl, Nat.lt_of_lt_of_le hl hg.size, fun j u hu => hg.cell (hc j u hu) hr⟩
end Go.Proofs.Ytnoaejpabfnfpaa

namespace Go.Proofs.Ytnoaejpabfnfpaa

theorem cpL_snoc (mk : List Sd → List Sd × Nat × Nat) : ∀ m L ah, cpL mk (m + 1) L ah = (setA (mk (cpL mk m L ah).1).1 (cpL mk m L ah).2 (mk (cpL mk m L ah).1).2.1, (mk (cpL mk m L ah).1).2.2)
  | 0, _, _ => rfl
  | m + 1, L, ah => cpL_snoc mk m (setA (mk L).1 ah (mk L).2.1) (mk L).2.2
theorem opL_snoc (mk : List Sd → List Sd × Nat × Nat) : ∀ m L ah, opL mk (m + 1) L ah = (setA ((mk (opL mk m L ah).1).1 ++ [sS (mk (opL mk m L ah).1).2.1 0]) (opL mk m L ah).2.1 (mk (opL mk m L ah).1).1.length, (mk (opL mk m L ah).1).2.2, (opL mk m L ah).2.2 ++ [(mk (opL mk m L ah).1).1.length])
  | 0, _, _ => rfl
  | m + 1, L, ah => by
    have h := opL_snoc mk m (setA ((mk L).1 ++ [sS (mk L).2.1 0]) ah (mk L).1.length) (mk L).2.2
    have e : ∀ k, opL mk (k + 1) L ah = ((opL mk k (setA ((mk L).1 ++ [sS (mk L).2.1 0]) ah (mk L).1.length) (mk L).2.2).1, (opL mk k (setA ((mk L).1 ++ [sS (mk L).2.1 0]) ah (mk L).1.length) (mk L).2.2).2.1, (mk L).1.length :: (opL mk k (setA ((mk L).1 ++ [sS (mk L).2.1 0]) ah (mk L).1.length) (mk L).2.2).2.2) := fun _ => rfl
    rw [e (m + 1), h, e m]
    rfl
theorem bsL_snoc (last : Nat) : ∀ (sp : List Nat) (U : List Sd) (s : Nat), bsL last U (sp ++ [s]) = setB (bsL last U sp) s last
  | [], _, _ => rfl
  | x :: sp, U, s => bsL_snoc last sp (setB U x last) s
theorem bsL_take (last : Nat) (U : List Sd) (sp : List Nat) (j : Nat) (h : j < sp.length) : bsL last U (sp.take (j + 1)) = setB (bsL last U (sp.take j)) sp[j] last := by
  rw [List.take_succ_eq_append_getElem h, bsL_snoc]
theorem mk_len (t : Tr) (L : List Sd) : (mkF t L).1.length = L.length + nst t := (mk_ok t L).1
theorem mk_bd (t : Tr) (L : List Sd) : L.length ≤ (mkF t L).2.1 ∧ (mkF t L).2.1 < (mkF t L).1.length ∧ L.length ≤ (mkF t L).2.2 ∧ (mkF t L).2.2 < (mkF t L).1.length := by
  have := fr_bd _ t _ _ _ (mk_ok t L).2.2.1
  rw [mk_len]
  omega
theorem cpL_bd (t : Tr) (m : Nat) (L : List Sd) (ah : Nat) (h : ah < L.length) : (cpL (mkF t) m L ah).1.length = L.length + m * nst t ∧ (cpL (mkF t) m L ah).2 < (cpL (mkF t) m L ah).1.length := by
  induction m with
  | zero => exact ⟨by rw [Nat.zero_mul]; rfl, h⟩
  | succ m ih =>
    rw [cpL_snoc]
    simp only [setA_len]
    have := mk_bd t (cpL (mkF t) m L ah).1
    have e := mk_len t (cpL (mkF t) m L ah).1
    have em : (m + 1) * nst t = m * nst t + nst t := Nat.succ_mul m (nst t)
    exact ⟨by omega, by omega⟩
theorem opL_bd (t : Tr) (m : Nat) (L : List Sd) (ah : Nat) (h : ah < L.length) : (opL (mkF t) m L ah).1.length = L.length + m * (nst t + 1) ∧ (opL (mkF t) m L ah).2.1 < (opL (mkF t) m L ah).1.length ∧ (opL (mkF t) m L ah).2.2.length = m ∧ ∀ s, s ∈ (opL (mkF t) m L ah).2.2 → s < (opL (mkF t) m L ah).1.length := by
  induction m with
  | zero => exact ⟨by rw [Nat.zero_mul]; rfl, h, rfl, fun s hs => by simp [opL] at hs⟩
  | succ m ih =>
    rw [opL_snoc]
    simp only [setA_len, List.length_append, List.length_cons, List.length_nil]
    have := mk_bd t (opL (mkF t) m L ah).1
    have e := mk_len t (opL (mkF t) m L ah).1
    have em : (m + 1) * (nst t + 1) = m * (nst t + 1) + (nst t + 1) := Nat.succ_mul m (nst t + 1)
    refine ⟨by omega, by omega, by omega, fun s hs => ?_⟩
    rcases List.mem_append.1 hs with hs | hs
    · have := ih.2.2.2 s hs; omega
    · have := List.mem_singleton.1 hs; omega
end Go.Proofs.Ytnoaejpabfnfpaa

namespace Go.Proofs.Ytnoaejpabfnfpaa
open Go.RowKit

theorem grown_setCell (w : World) (b j : Nat) (v : Value) : w.grownBy (w.setCell ⟨b, j, none⟩ v) (some b) := by
  have h := (Below.refl b w).setCell (p := ⟨b, j, none⟩) (Nat.le_refl _) v
  refine ⟨h.os, h.tape, h.output, h.size, fun k _ hk => ?_⟩
  have : k ≠ b := fun e => hk (by rw [e])
  show (w.heap.modify b _)[k]? = _
  rw [Array.getElem?_modify, if_neg (Ne.symm this)]
theorem below_pt3 {B : Nat} {a w : World} {c : Nat} (h : Below B a w) (hc : B ≤ c) (v' : Value) (f' l' : Int) : Below B a (((w.setCell ⟨c, 0, none⟩ v').setCell ⟨c, 1, none⟩ (.int .i64 f')).setCell ⟨c, 2, none⟩ (.int .i64 l')) :=
  ((h.setCell hc _).setCell hc _).setCell hc _
end Go.Proofs.Ytnoaejpabfnfpaa

namespace Go.Proofs.Ytnoaejpabfnfpaa
open Go.RowKit

theorem rows_apart9 {w : World} {b1 b2 e1 e2 s1 s2 n1 n2 : Nat} {v1 v2 : Value} {x1 x2 : List Value} (h1 : w.ownsRow b1 e1 s1 v1 n1 x1) (h2 : w.ownsRow b2 e2 s2 v2 n2 x2) (hne : e1 ≠ e2) : v1.ownBlock = none ∨ v1.ownBlock ≠ v2.ownBlock := by
  rcases h1.2 with ⟨rfl, _⟩ | ⟨g1, c1, u1, rfl, _, p1, _⟩
  · exact .inl rfl
  · rcases h2.2 with ⟨rfl, _⟩ | ⟨g2, c2, u2, rfl, _, p2, _⟩
    · exact .inr (by simp [Value.ownBlock])
    · refine .inr fun h => ?_
      have hg : g1 = g2 := by simpa [Value.ownBlock] using h
      subst hg
      rw [p1] at p2
      simp at p2
      exact hne p2.2
def spl9 (l : List Nat) : List Value := l.map fun s : Nat => Value.int .i64 (s : Int)
theorem headD_get9 (l : List Nat) (h : 0 < l.length) : l.headD 0 = l[0] := by
  cases l with
  | nil => simp at h
  | cons x l => rfl
/-- A row of places that a call owns. -/
def spO (w : World) (base : Nat) (v : Value) (l : List Nat) : Prop := w.ownsRow base 3 1 v l.length (spl9 l)
end Go.Proofs.Ytnoaejpabfnfpaa

namespace Go.Proofs.Ytnoaejpabfnfpaa
open Go.RowKit

theorem infoInt9w : (Try.prog.info? 3).map (fun i => (i.zero, i.size, i.bytes)) = some (some (.int .i64 0), 1, 8) := by kernel_rfl
theorem spl9_len (l : List Nat) : (spl9 l).length = l.length := by simp [spl9]
theorem spl9_append (l r : List Nat) : spl9 (l ++ r) = spl9 l ++ spl9 r := by simp [spl9]
theorem spl9_cell (l : List Nat) : ∀ u ∈ spl9 l, u.oneCell' = true := by
  intro u hu
  unfold spl9 at hu
  obtain ⟨x, _, rfl⟩ := List.mem_map.1 hu
  rfl
/-- A block of one cell. -/
def one9 (t : TypeId) (w : World) (b : Nat) (v : Value) : Prop := w.heap[b]? = some (.cells #[v] t (0, 0))
theorem one9.lt {t : TypeId} {w : World} {b : Nat} {v : Value} (h : one9 t w b v) : b < w.heap.size := lt_of_block h
theorem one9.cell {t : TypeId} {w : World} {b : Nat} {v : Value} (h : one9 t w b v) : w.cell? ⟨b, 0, none⟩ = some v := by
  unfold one9 at h
  simp [World.cell?, h]
theorem one9.free {t : TypeId} {w : World} {b : Nat} {v : Value} (h : one9 t w b v) : w.frozen? ⟨b, 0, none⟩ = false := by
  unfold one9 at h
  simp [World.frozen?, h]
theorem one9.stored {t : TypeId} {w : World} {b : Nat} {v : Value} (h : one9 t w b v) (u : Value) : one9 t (w.setCell ⟨b, 0, none⟩ u) b u := by
  have h1 := heap_setCell_same w b 0 _ _ u h
  unfold one9
  rw [h1]
  simp
theorem one9.grown {t : TypeId} {w w' : World} {b : Nat} {r : Option Nat} {v : Value} (h : one9 t w b v) (hg : w.grownBy w' r) (hb : some b ≠ r) : one9 t w' b v :=
  (hg.block b h.lt hb).trans h
theorem one9.below {t : TypeId} {w w' : World} {b B : Nat} {v : Value} (h : one9 t w b v) (hB : Below B w w') (hb : b < B) : one9 t w' b v := (hB.block b hb).trans h

/-- Block g has what is met of m states, block h names it, block h + 1 the list of it. -/
def clW (w : World) (g h m : Nat) (A : List Nat) : Prop :=
  g < h ∧ one9 23 w (h) (.slice (some ⟨g, 0, none⟩) m m) ∧ (∃ p c, one9 22 w (h + 1) (.slice p A.length c) ∧ spO w (h + 2) (.slice p A.length c) A) ∧ blR w g g m m (memW A)
theorem clW.below {w w' : World} {g h m : Nat} {A : List Nat} (hc : clW w g h m A) (hb : Below w.heap.size w w') : clW w' g h m A := by
  obtain ⟨h0, h1, ⟨p, c, h2, h3⟩, h4⟩ := hc
  exact ⟨h0, h1.below hb h1.lt, ⟨p, c, h2.below hb h2.lt, owns_below h3 hb⟩, h4.below hb⟩
theorem spO_of {w : World} {base : Nat} {v : Value} {A : List Nat} (h : spO w base v A) : ∃ p c, v = .slice p A.length c := by
  rcases id h.2 with ⟨rfl, h0⟩ | ⟨g, cap, cur, rfl, _⟩
  · exact ⟨none, 0, by rw [h0]⟩
  · exact ⟨_, cap, rfl⟩
end Go.Proofs.Ytnoaejpabfnfpaa
