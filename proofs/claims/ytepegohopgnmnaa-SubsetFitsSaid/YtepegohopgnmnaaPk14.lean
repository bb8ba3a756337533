/-
  An automaton, decided: sets met one after the other, and where each goes. Plain.
  A list that grows while it is gone over: where one comes at once. Plain facts.
  Rows of states in memory, as lists.
  The walk of the ninth reference's put.
  The states of repeated parts, a round at a time. Plain facts.
  A part in memory: its states, its first and its last one; what Make is asked.
  The walk of the ninth reference's repeat.
-/
import Derived.Test.YtepegohopgnmnaaPk13
import Derived.Test.YtepegohopgnmnaaPk6
import Derived.Test.YtepegohopgnmnaaPk4
import Derived.Laws.AppendOwnNone
import Derived.Test.YtepegohopgnmnaaPk11
import Derived.Deep.Cut
namespace Go.Proofs.Ytepegohopgnmnaa

abbrev Bf := Nat → Bool
/-- Are two sets the same below m? -/
def eqS (m : Nat) (T U : Bf) : Bool := (List.range m).all fun k => T k == U k
theorem eqS_iff {m : Nat} {T U : Bf} : eqS m T U = true ↔ ∀ k, k < m → T k = U k := by
  unfold eqS
  simp only [List.all_eq_true, List.mem_range, beq_iff_eq]
/-- The place of a set among some; how many they are, if it is none of them. -/
def fiS (m : Nat) (L : List Bf) (x : Bf) : Nat := L.findIdx fun T => eqS m T x
theorem fiS_le (m : Nat) (L : List Bf) (x : Bf) : fiS m L x ≤ L.length := List.findIdx_le_length
def adS (m : Nat) (L : List Bf) (x : Bf) : List Bf := if fiS m L x < L.length then L else L ++ [x]
theorem adS_len (m : Nat) (L : List Bf) (x : Bf) : L.length ≤ (adS m L x).length ∧ (adS m L x).length ≤ L.length + 1 := by
  unfold adS
  split
  · omega
  · simp
theorem adS_old {m : Nat} {L : List Bf} {x : Bf} {j : Nat} (h : j < L.length) : (adS m L x)[j]? = L[j]? := by
  unfold adS
  split
  · rfl
  · rw [List.getElem?_append_left h]
theorem fiS_lt (m : Nat) (L : List Bf) (x : Bf) : fiS m L x < (adS m L x).length := by
  have := fiS_le m L x
  unfold adS
  split
  · assumption
  · simp; omega
theorem fiS_at (m : Nat) (L : List Bf) (x : Bf) : ∃ T, (adS m L x)[fiS m L x]? = some T ∧ ∀ k, k < m → T k = x k := by
  have hle := fiS_le m L x
  unfold adS
  split
  · rename_i h
    refine ⟨L[fiS m L x], List.getElem?_eq_getElem h, ?_⟩
    have := List.findIdx_getElem (p := fun T => eqS m T x) (xs := L) (w := h)
    exact eqS_iff.1 this
  · rename_i h
    have e : fiS m L x = L.length := by omega
    refine ⟨x, by rw [e]; simp, fun _ _ => rfl⟩
theorem fiS_is {m : Nat} {L : List Bf} {x : Bf} {j : Nat} (hj : j < L.length) (h : eqS m L[j] x = true) (hn : ∀ i (hi : i < j), eqS m (L[i]'(Nat.lt_trans hi hj)) x = false) : fiS m L x = j := by
  unfold fiS
  rw [List.findIdx_eq hj]
  exact ⟨h, fun i hi => hn i hi⟩
theorem fiS_none {m : Nat} {L : List Bf} {x : Bf} (h : ∀ i (hi : i < L.length), eqS m L[i] x = false) : fiS m L x = L.length := by
  unfold fiS
  rw [List.findIdx_eq_length]
  intro T hT
  obtain ⟨i, hi, rfl⟩ := List.getElem_of_mem hT
  exact h i hi
/-- Sets, and where they go. -/
abbrev Ms := List Bf × List Nat
/-- One set goes by the first c classes. -/
def clM (go : Nat → Bf → Bf) (m : Nat) (X : Bf) : Nat → Ms → Ms
  | 0, s => s
  | c + 1, s => (adS m (clM go m X c s).1 (go c X), (clM go m X c s).2 ++ [fiS m (clM go m X c s).1 (go c X)])
/-- Behind a rounds. -/
def atM (go : Nat → Bf → Bf) (m width : Nat) (T0 : Bf) : Nat → Ms
  | 0 => ([T0], [])
  | a + 1 => match (atM go m width T0 a).1[a]? with
    | none => atM go m width T0 a
    | some X => clM go m X width (atM go m width T0 a)
variable {go : Nat → Bf → Bf} {m width : Nat} {T0 : Bf}
theorem clM_len {X : Bf} {s : Ms} : ∀ c, s.1.length ≤ (clM go m X c s).1.length ∧ (clM go m X c s).1.length ≤ s.1.length + c ∧ (clM go m X c s).2.length = s.2.length + c
  | 0 => ⟨Nat.le_refl _, Nat.le_refl _, rfl⟩
  | c + 1 => by
    obtain ⟨h1, h2, h3⟩ := clM_len (X := X) (s := s) c
    have h4 := adS_len m (clM go m X c s).1 (go c X)
    refine ⟨?_, ?_, ?_⟩
    · show _ ≤ (adS m _ _).length; omega
    · show (adS m _ _).length ≤ _; omega
    · show (_ ++ [_]).length = _
      rw [List.length_append, h3]; rfl
theorem clM_old {X : Bf} {s : Ms} {j : Nat} (hj : j < s.1.length) : ∀ c, (clM go m X c s).1[j]? = s.1[j]?
  | 0 => rfl
  | c + 1 => by
    show (adS m _ _)[j]? = _
    rw [adS_old (Nat.lt_of_lt_of_le hj (clM_len c).1), clM_old hj c]
theorem atM_go {a : Nat} {X : Bf} (h : (atM go m width T0 a).1[a]? = some X) : atM go m width T0 (a + 1) = clM go m X width (atM go m width T0 a) := by
  show (match (atM go m width T0 a).1[a]? with | none => _ | some X => _) = _
  rw [h]
theorem atM_stay {a : Nat} (h : (atM go m width T0 a).1.length ≤ a) : atM go m width T0 (a + 1) = atM go m width T0 a := by
  show (match (atM go m width T0 a).1[a]? with | none => _ | some X => _) = _
  rw [List.getElem?_eq_none h]
theorem atM_mono (a : Nat) : (atM go m width T0 a).1.length ≤ (atM go m width T0 (a + 1)).1.length := by
  cases h : (atM go m width T0 a).1[a]? with
  | none => rw [atM_stay (List.getElem?_eq_none_iff.1 h)]; exact Nat.le_refl _
  | some X => rw [atM_go h]; exact (clM_len width).1
theorem atM_le {a b : Nat} (h : a ≤ b) : (atM go m width T0 a).1.length ≤ (atM go m width T0 b).1.length := by
  induction b with
  | zero => have : a = 0 := by omega
            subst this; exact Nat.le_refl _
  | succ b ih =>
    by_cases e : a = b + 1
    · subst e; exact Nat.le_refl _
    · exact Nat.le_trans (ih (by omega)) (atM_mono b)
theorem atM_one (a : Nat) : 1 ≤ (atM go m width T0 a).1.length := atM_le (a := 0) (Nat.zero_le a)
theorem atM_end {a b : Nat} (hab : a ≤ b) (h : (atM go m width T0 a).1.length ≤ a) : atM go m width T0 b = atM go m width T0 a := by
  induction b with
  | zero => have : a = 0 := by omega
            subst this; rfl
  | succ b ih =>
    by_cases e : a = b + 1
    · subst e; rfl
    · have := ih (by omega)
      rw [atM_stay (by rw [this]; omega), this]
theorem atM_old {a b j : Nat} (hab : a ≤ b) (hj : j < (atM go m width T0 a).1.length) : (atM go m width T0 b).1[j]? = (atM go m width T0 a).1[j]? := by
  induction b with
  | zero => have : a = 0 := by omega
            subst this; rfl
  | succ b ih =>
    by_cases e : a = b + 1
    · subst e; rfl
    · have := ih (by omega)
      have hl := atM_le (go := go) (m := m) (width := width) (T0 := T0) (show a ≤ b by omega)
      rw [← this]
      cases h : (atM go m width T0 b).1[b]? with
      | none => rw [atM_stay (List.getElem?_eq_none_iff.1 h)]
      | some X => rw [atM_go h]; exact clM_old (by omega) width
/-- How many rounds there are at most, where no more than so many states are let be. -/
def rdM (most : Int) : Nat := (most + 1).toNat
/-- All that is decided, where no more than so many states are let be. -/
def fullM (go : Nat → Bf → Bf) (m width : Nat) (T0 : Bf) (most : Int) : Ms := atM go m width T0 (rdM most)
/-- Where a loop over the sets ends. -/
theorem atM_stop {most : Int} {a : Nat} (ha : ∀ b, b < a → b < (atM go m width T0 b).1.length ∧ ((atM go m width T0 b).1.length : Int) ≤ most) :
    (most < (atM go m width T0 a).1.length → most < (fullM go m width T0 most).1.length) ∧
    ((atM go m width T0 a).1.length ≤ a → ((atM go m width T0 a).1.length : Int) ≤ most → fullM go m width T0 most = atM go m width T0 a) := by
  have hle : a ≤ rdM most := by
    unfold rdM
    rcases Nat.eq_zero_or_pos a with rfl | h
    · omega
    · have := ha (a - 1) (by omega)
      omega
  refine ⟨fun h => ?_, fun h h2 => atM_end hle h⟩
  have := atM_le (go := go) (m := m) (width := width) (T0 := T0) hle
  unfold fullM
  omega
/-- Where a set goes by a symbol. -/
def goY (S : Nat → Sd) (m y : Nat) (T : Bf) : Bf := if y < 256 then upN S 0 m (stR S y T m) m else upN S (y : Int) m T m
/-- The classes' first places. -/
def fsY (S : Nat → Sd) (m c : Nat) : Nat := (fsA (fun x => (clA (alk S m) x : Nat)) 259 (c : Nat)).toNat
def goC (S : Nat → Sd) (m c : Nat) (T : Bf) : Bf := goY S m (fsY S m c) T
def wdY (S : Nat → Sd) (m : Nat) : Nat := cntT (isH (alk S m)) 259
def T0Y (S : Nat → Sd) (m : Nat) (st : Int) : Bf := upN S 0 m (inL m (fun _ => st) 1) m
/-- The decided automaton of one that may be. -/
def subM (S : Nat → Sd) (m : Nat) (st most : Int) : Ms := fullM (goC S m) m (wdY S m) (T0Y S m st) most
end Go.Proofs.Ytepegohopgnmnaa

namespace Go.Proofs.Ytepegohopgnmnaa
open Go.RowKit

/-- What is put behind the list of what is met, if it isn't met yet. -/
def putW (A : List Nat) (x : Nat) : List Nat := if x ∈ A then A else A ++ [x]
def memW (A : List Nat) (x : Nat) : Bool := decide (x ∈ A)
theorem putW_in {A : List Nat} {x : Nat} (h : x ∈ A) : putW A x = A := by unfold putW; rw [if_pos h]
theorem putW_out {A : List Nat} {x : Nat} (h : ¬ x ∈ A) : putW A x = A ++ [x] := by unfold putW; rw [if_neg h]
theorem putW_mem {A : List Nat} {x q : Nat} : q ∈ putW A x ↔ q ∈ A ∨ q = x := by
  by_cases h : x ∈ A
  · rw [putW_in h]
    constructor
    · exact .inl
    · rintro (g | rfl)
      · exact g
      · exact h
  · rw [putW_out h]; simp
theorem memW_put {A : List Nat} {x : Nat} (h : ¬ x ∈ A) (j : Nat) : putT (memW A) x true j = memW (A ++ [x]) j := by
  unfold putT memW
  by_cases e : j = x
  · subst e; simp
  · rw [if_neg e]
    congr 1
    simp [e]
def okA9 (m : Nat) (A : List Nat) : Prop := A.Nodup ∧ ∀ x, x ∈ A → x < m
theorem okA_nil (m : Nat) : okA9 m [] := ⟨List.nodup_nil, fun _ h => by cases h⟩
theorem okA_put {m : Nat} {A : List Nat} {x : Nat} (h : okA9 m A) (hx : x < m) : okA9 m (putW A x) := by
  by_cases e : x ∈ A
  · rw [putW_in e]; exact h
  · rw [putW_out e]
    refine ⟨?_, ?_⟩
    · rw [List.nodup_append]
      refine ⟨h.1, by simp, ?_⟩
      intro a ha b hb
      have : b = x := by simpa using hb
      subst this
      exact fun e2 => e (e2 ▸ ha)
    · intro y hy
      rcases List.mem_append.1 hy with g | g
      · exact h.2 y g
      · have : y = x := by simpa using g
        omega
theorem putW_old {A : List Nat} {x i : Nat} (h : i < A.length) : (putW A x)[i]? = A[i]? := by
  by_cases e : x ∈ A
  · rw [putW_in e]
  · rw [putW_out e, List.getElem?_append_left h]
theorem putW_len {A : List Nat} {x : Nat} : A.length ≤ (putW A x).length := by
  by_cases e : x ∈ A
  · rw [putW_in e]; exact Nat.le_refl _
  · rw [putW_out e]; simp
/-- The same members, none twice: what is true, rising, is a permutation. -/
theorem okA_perm {m : Nat} {A : List Nat} (h : okA9 m A) : (trs (memW A) m).Perm A := by
  refine (List.perm_ext_iff_of_nodup ?_ h.1).2 fun q => ?_
  · exact List.Pairwise.filter _ List.nodup_range
  · unfold trs memW
    rw [List.mem_filter, List.mem_range]
    constructor
    · rintro ⟨_, h2⟩; simpa using h2
    · exact fun g => ⟨h.2 q g, by simpa using g⟩
theorem okA_len {m : Nat} {A : List Nat} (h : okA9 m A) : A.length = cntT (memW A) m := (okA_perm h).length_eq.symm
theorem okA_le {m : Nat} {A : List Nat} (h : okA9 m A) : A.length ≤ m := by rw [okA_len h]; exact cntT_le _ _
def ints9 (A : List Nat) : List Int := A.map fun x : Nat => (x : Int)
theorem sort9 {m : Nat} {A : List Nat} (h : okA9 m A) : (ints9 A).mergeSort (fun x y => decide (x ≤ y)) = ints9 (trs (memW A) m) := by
  have ht : ∀ a b c : Int, decide (a ≤ b) = true → decide (b ≤ c) = true → decide (a ≤ c) = true := fun a b c h1 h2 => by
    simp only [decide_eq_true_eq] at *; omega
  have hto : ∀ a b : Int, (decide (a ≤ b) || decide (b ≤ a)) = true := fun a b => by
    simp only [Bool.or_eq_true, decide_eq_true_eq]; omega
  refine List.Perm.eq_of_pairwise (le := fun x y : Int => x ≤ y) (fun a b _ _ h1 h2 => by omega) ?_ ?_ ?_
  · exact (List.pairwise_mergeSort ht hto _).imp fun h => by simpa using h
  · unfold ints9 trs
    rw [List.pairwise_map]
    refine (List.Pairwise.filter _ (List.pairwise_lt_range (n := m))).imp fun h => by omega
  · refine (List.mergeSort_perm _ _).trans ?_
    exact ((okA_perm h).map _).symm

/-- The list is gone over up to k: what it has is reached, and it has all that one step from the first k leads to. -/
def wInv (S : Nat → Sd) (sym : Int) (m : Nat) (P : Nat → Prop) (A : List Nat) (k : Nat) : Prop :=
  okA9 m A ∧ k ≤ A.length ∧ (∀ q, q ∈ A → Cl S sym P q) ∧ (∀ q, P q → q ∈ A) ∧ ∀ i, i < k → ∀ x, A[i]? = some x → ∀ q, ep S sym x q → q ∈ A
theorem wInv_start {S : Nat → Sd} {sym : Int} {m : Nat} {P : Nat → Prop} {A : List Nat} (h : okA9 m A) (hP : ∀ q, q ∈ A ↔ P q) : wInv S sym m P A 0 :=
  ⟨h, Nat.zero_le _, fun q hq => ⟨q, (hP q).1 hq, .refl _⟩, fun q hq => (hP q).2 hq, fun _ hi => absurd hi (Nat.not_lt_zero _)⟩
theorem wInv_next {S : Nat → Sd} {sym : Int} {m : Nat} {P : Nat → Prop} {A A' : List Nat} {k x : Nat} (h : wInv S sym m P A k) (hk : k < A.length) (hx : A[k]? = some x) (ho : okA9 m A') (hl : A.length ≤ A'.length)
    (hp : ∀ i, i < A.length → A'[i]? = A[i]?) (h1 : ∀ q, q ∈ A' → q ∈ A ∨ ep S sym x q) (h2 : ∀ q, ep S sym x q → q ∈ A') (h3 : ∀ q, q ∈ A → q ∈ A') : wInv S sym m P A' (k + 1) := by
  obtain ⟨g1, g2, g3, g4, g5⟩ := h
  refine ⟨ho, by omega, fun q hq => ?_, fun q hq => h3 q (g4 q hq), fun i hi y hy q hq => ?_⟩
  · rcases h1 q hq with h | h
    · exact g3 q h
    · obtain ⟨q0, k1, k2⟩ := g3 x (List.mem_of_getElem? hx)
      exact ⟨q0, k1, .tail k2 h⟩
  · rw [hp i (by omega)] at hy
    by_cases e : i = k
    · subst e
      rw [hx] at hy; cases hy
      exact h2 q hq
    · exact h3 q (g5 i (by omega) y hy q hq)
theorem wInv_none {S : Nat → Sd} {sym : Int} {m : Nat} {P : Nat → Prop} {A : List Nat} {k x : Nat} (h : wInv S sym m P A k) (hk : k < A.length) (hx : A[k]? = some x) (h3 : (S x).k ≠ 3) (hA : eA S sym x = false) : wInv S sym m P A (k + 1) := by
  have hn : ∀ q, ¬ ep S sym x q := by
    rintro q (⟨g, _⟩ | ⟨g, _⟩)
    · rw [eA_iff.2 g] at hA; cases hA
    · exact h3 g
  exact wInv_next h hk hx h.1 (Nat.le_refl _) (fun _ _ => rfl) (fun q hq => .inl hq) (fun q hq => absurd hq (hn q)) fun _ hq => hq
theorem wInv_one {S : Nat → Sd} {sym : Int} {m : Nat} {P : Nat → Prop} {A : List Nat} {k x a : Nat} (h : wInv S sym m P A k) (hk : k < A.length) (hx : A[k]? = some x) (h3 : (S x).k ≠ 3) (hA : eA S sym x = true) (ha : (S x).A = (a : Int)) (ham : a < m) : wInv S sym m P (putW A a) (k + 1) := by
  refine wInv_next h hk hx (okA_put h.1 ham) putW_len (fun _ hi => putW_old hi) (fun q hq => ?_) (fun q hq => ?_) fun q hq => putW_mem.2 (.inl hq)
  · rcases putW_mem.1 hq with g | rfl
    · exact .inl g
    · exact .inr (.inl ⟨eA_iff.1 hA, ha.symm⟩)
  · rcases hq with ⟨_, g⟩ | ⟨g, _⟩
    · exact putW_mem.2 (.inr (by omega))
    · exact absurd g h3
theorem wInv_two {S : Nat → Sd} {sym : Int} {m : Nat} {P : Nat → Prop} {A : List Nat} {k x a b : Nat} (h : wInv S sym m P A k) (hk : k < A.length) (hx : A[k]? = some x) (h3 : (S x).k = 3) (ha : (S x).A = (a : Int)) (hb : (S x).B = (b : Int)) (ham : a < m) (hbm : b < m) : wInv S sym m P (putW (putW A b) a) (k + 1) := by
  refine wInv_next h hk hx (okA_put (okA_put h.1 hbm) ham) (Nat.le_trans putW_len putW_len) (fun i hi => ?_) (fun q hq => ?_) (fun q hq => ?_) fun q hq => putW_mem.2 (.inl (putW_mem.2 (.inl hq)))
  · rw [putW_old (Nat.lt_of_lt_of_le hi putW_len), putW_old hi]
  · rcases putW_mem.1 hq with g | rfl
    · rcases putW_mem.1 g with g | rfl
      · exact .inl g
      · exact .inr (.inr ⟨h3, hb.symm⟩)
    · exact .inr (.inl ⟨.inr (.inl h3), ha.symm⟩)
  · rcases hq with ⟨_, g⟩ | ⟨_, g⟩
    · exact putW_mem.2 (.inr (by omega))
    · exact putW_mem.2 (.inl (putW_mem.2 (.inr (by omega))))
theorem wInv_end {S : Nat → Sd} {sym : Int} {m : Nat} {P : Nat → Prop} {A : List Nat} {k : Nat} (h : wInv S sym m P A k) (hk : A.length ≤ k) (q : Nat) : q ∈ A ↔ Cl S sym P q := by
  obtain ⟨g1, g2, g3, g4, g5⟩ := h
  refine ⟨g3 q, ?_⟩
  rintro ⟨q0, h0, hr⟩
  induction hr with
  | refl => exact g4 q0 h0
  | @tail q1 q2 _ he ih =>
    obtain ⟨i, hi⟩ := List.mem_iff_getElem?.1 ih
    have hil : i < A.length := by
      rcases Nat.lt_or_ge i A.length with h | h
      · exact h
      · rw [List.getElem?_eq_none h] at hi; cases hi
    exact g5 i (by omega) q1 hi q2 he
end Go.Proofs.Ytepegohopgnmnaa

namespace Go.Proofs.Ytepegohopgnmnaa
open Go.RowKit

theorem infoState9 : (Try.prog.info? 64).map (fun i => (i.zero, i.size, i.bytes)) = some (some (.agg #[.int .i64 0, .int .i64 0, .int .i64 0, .int .u64 0, .int .u64 0, .int .u64 0, .int .u64 0]), 7, 56) := by kernel_rfl
def scs (x : Sd) : List Value := [.int .i64 x.k, .int .i64 x.A, .int .i64 x.B, .int .u64 x.a, .int .u64 x.b, .int .u64 x.c, .int .u64 x.d]
def sds (l : List Sd) : List Value := l.flatMap scs
theorem sds_append (l r : List Sd) : sds (l ++ r) = sds l ++ sds r := by simp [sds]
theorem sds_one (x : Sd) : sds [x] = scs x := by simp [sds]
theorem sds_cons (x : Sd) (l : List Sd) : sds (x :: l) = scs x ++ sds l := rfl
theorem sds_len (l : List Sd) : (sds l).length = l.length * 7 := by
  induction l with
  | nil => rfl
  | cons x l ih => rw [sds_cons, List.length_append, ih, List.length_cons]; simp [scs]; omega
theorem sds_cell (l : List Sd) : ∀ u ∈ sds l, u.oneCell' = true := by
  intro u hu
  unfold sds at hu
  obtain ⟨x, _, hx⟩ := List.mem_flatMap.1 hu
  unfold scs at hx
  simp at hx
  rcases hx with rfl | rfl | rfl | rfl | rfl | rfl | rfl <;> rfl
theorem sds_get (l : List Sd) (j : Nat) (h : j < l.length) (x : Nat) (hx : x < 7) : (sds l)[j * 7 + x]? = (scs l[j])[x]? := by
  induction l generalizing j with
  | nil => simp at h
  | cons r l ih =>
    have e7 : (scs r).length = 7 := rfl
    rw [sds_cons]
    cases j with
    | zero => rw [List.getElem?_append_left (by omega)]; simp
    | succ j =>
      rw [List.getElem?_append_right (by omega), e7, show (j + 1) * 7 + x - 7 = j * 7 + x by omega]
      exact ih j (by simpa using h)
theorem sds_setA (l : List Sd) (j A : Nat) : (sds l).set (j * 7 + 1) (.int .i64 (A : Int)) = sds (setA l j A) := by
  induction l generalizing j with
  | nil => simp [sds, setA]
  | cons r l ih =>
    cases j with
    | zero => rfl
    | succ j =>
      have e : setA (r :: l) (j + 1) A = r :: setA l j A := rfl
      rw [sds_cons, e, sds_cons, ← ih j, show (j + 1) * 7 + 1 = (j * 7 + 1) + 7 by omega]
      rfl
theorem sds_setB (l : List Sd) (j A : Nat) : (sds l).set (j * 7 + 2) (.int .i64 (A : Int)) = sds (setB l j A) := by
  induction l generalizing j with
  | nil => simp [sds, setB]
  | cons r l ih =>
    cases j with
    | zero => rfl
    | succ j =>
      have e : setB (r :: l) (j + 1) A = r :: setB l j A := rfl
      rw [sds_cons, e, sds_cons, ← ih j, show (j + 1) * 7 + 2 = (j * 7 + 2) + 7 by omega]
      rfl

/-- A row of states that a call owns, not empty. -/
def stO (w : World) (base g c : Nat) (L : List Sd) : Prop := w.ownsRow base 64 7 (.slice (some ⟨g, 0, none⟩) L.length c) L.length (sds L)
theorem stO.below {w w' : World} {base g c : Nat} {L : List Sd} (h : stO w base g c L) (hb : Below w.heap.size w w') : stO w' base g c L := owns_below h hb
theorem stO.mono {w : World} {base base' g c : Nat} {L : List Sd} (h : stO w base g c L) (hb : base' ≤ base) : stO w base' g c L := owns_mono h hb
theorem stO.lt {w : World} {base g c : Nat} {L : List Sd} (h : stO w base g c L) : base ≤ g ∧ g < w.heap.size := World.ownsRow.lt h g rfl
theorem stO.free {w : World} {base g c : Nat} {L : List Sd} (h : stO w base g c L) (j : Nat) : w.frozen? ⟨g, j, none⟩ = false := World.ownsRow.frozenAt h j
theorem stO.putA {w : World} {base g c : Nat} {L : List Sd} (h : stO w base g c L) (j A : Nat) : stO (w.setCell ⟨g, j * 7 + 1, none⟩ (.int .i64 (A : Int))) base g c (setA L j A) := by
  have := (World.ownsRow.stored h (j * 7 + 1) (.int .i64 (A : Int))).1
  rw [sds_setA] at this
  unfold stO
  rw [setA_len]; exact this
theorem stO.putB {w : World} {base g c : Nat} {L : List Sd} (h : stO w base g c L) (j A : Nat) : stO (w.setCell ⟨g, j * 7 + 2, none⟩ (.int .i64 (A : Int))) base g c (setB L j A) := by
  have := (World.ownsRow.stored h (j * 7 + 2) (.int .i64 (A : Int))).1
  rw [sds_setB] at this
  unfold stO
  rw [setB_len]; exact this
theorem stO.cell {w : World} {base g c : Nat} {L : List Sd} (h : stO w base g c L) (j : Nat) (u : Value) (hu : (sds L)[j]? = some u) : w.cell? ⟨g, j, none⟩ = some u := by
  have hl : j < L.length * 7 := by
    rcases Nat.lt_or_ge j (sds L).length with h | h
    · rwa [sds_len] at h
    · rw [List.getElem?_eq_none h] at hu; cases hu
  rw [World.ownsRow.cellAt h j hl]; exact hu
/-- The states that a slice reads as: none, or those of a block. -/
def srd (w : World) (v : Value) (L : List Sd) : Prop := (v = .slice none 0 0 ∧ L = []) ∨ ∃ b c, v = .slice (some ⟨b, 0, none⟩) L.length c ∧ b < w.heap.size ∧ ∀ j u, (sds L)[j]? = some u → w.cell? ⟨b, j, none⟩ = some u
theorem srd.below {w w' : World} {v : Value} {L : List Sd} (h : srd w v L) (hb : Below w.heap.size w w') : srd w' v L := by
  rcases h with h | ⟨b, c, rfl, hl, hc⟩
  · exact .inl h
  · exact .inr ⟨b, c, rfl, Nat.lt_of_lt_of_le hl hb.size, fun j u hu => by rw [hb.cell (p := ⟨b, j, none⟩) hl]; exact hc j u hu⟩
theorem stO.rd {w : World} {base g c : Nat} {L : List Sd} (h : stO w base g c L) : srd w (.slice (some ⟨g, 0, none⟩) L.length c) L := .inr ⟨g, c, rfl, h.lt.2, fun j u hu => h.cell j u hu⟩
theorem stO.reads {w : World} {base g c : Nat} {L : List Sd} (h : stO w base g c L) : rdS w g 0 L.length (sfn L) := fun j hj => by
  refine ⟨h.lt.2, ?_⟩
  rw [sfn_lt hj]
  have k : ∀ x u, x < 7 → (scs L[j])[x]? = some u → w.cell? ⟨g, 0 + j * 7 + x, none⟩ = some u := fun x u hx hu => by
    rw [Nat.zero_add]
    exact h.cell _ _ (by rw [sds_get L j hj x hx]; exact hu)
  exact ⟨k 0 _ (by decide) rfl, k 1 _ (by decide) rfl, k 2 _ (by decide) rfl, k 3 _ (by decide) rfl, k 4 _ (by decide) rfl, k 5 _ (by decide) rfl, k 6 _ (by decide) rfl⟩
theorem stO_of {w : World} {base : Nat} {v : Value} {L : List Sd} (h : w.ownsRow base 64 7 v L.length (sds L)) (hl : 1 ≤ L.length) : ∃ g c, v = .slice (some ⟨g, 0, none⟩) L.length c ∧ stO w base g c L := by
  rcases id h.2 with ⟨rfl, h0⟩ | ⟨g, cap, cur, rfl, _⟩
  · omega
  · exact ⟨g, cap, rfl, h⟩
theorem lit_st9 (w : World) (x : Sd) : ∀ j u, (sds [x])[j]? = some u → (w.alloc (.cells #[.int .i64 x.k, .int .i64 x.A, .int .i64 x.B, .int .u64 x.a, .int .u64 x.b, .int .u64 x.c, .int .u64 x.d] 64)).cell? ((⟨w.heap.size, 0, none⟩ : Addr).add j) = some u := by
  intro j u hu
  rw [sds_one] at hu
  unfold scs at hu
  match j, hu with
  | 0, hu => simp at hu; subst hu; simp [Addr.add]
  | 1, hu => simp at hu; subst hu; simp [Addr.add]
  | 2, hu => simp at hu; subst hu; simp [Addr.add]
  | 3, hu => simp at hu; subst hu; simp [Addr.add]
  | 4, hu => simp at hu; subst hu; simp [Addr.add]
  | 5, hu => simp at hu; subst hu; simp [Addr.add]
  | 6, hu => simp at hu; subst hu; simp [Addr.add]
end Go.Proofs.Ytepegohopgnmnaa

namespace Go.Proofs.Ytepegohopgnmnaa
open Go.RowKit

theorem wp_append_none9 {P : Program} {w : World} {o : Oper} {a : Act} {K : Act → World → Prop} {Q : Exit → Act → World → Prop} (s x : Operand) (t : TypeId)
    (ho : o.op = .call { callee := .builtin .append, args := #[s, x], argTypes := #[t, t] })
    (base : Nat) (e : TypeId) (i : TypeInfo) (size : Nat) (ht : P.underlying t = some (.slice e)) (hi : P.info? e = some i)
    (v : Value) (n : Nat) (xs : List Value) (hs : a.eval s = v) (hown : w.ownsRow base e size v n xs) (hx : a.eval x = .slice none 0 0)
    (h : K (a.put o.dst v) w) : o.wp P a w K Q := by
  have hrun := run_append_owned_none (P := P) (w := w) base t o.type e i size ht hi v n xs hown
  unfold Oper.wp
  simp [execOp, ho, resolve, invoke, builtin, hs, hx, hrun, Result.andThen]
  exact h
theorem wp_append_sds {w : World} {o : Oper} {a : Act} {K : Act → World → Prop} {Q : Exit → Act → World → Prop} (s x : Operand)
    (ho : o.op = .call { callee := .builtin .append, args := #[s, x], argTypes := #[22, 22] }) (base : Nat) (v : Value) (l : List Sd) (hs : a.eval s = v)
    (hown : w.ownsRow base 64 7 v l.length (sds l)) (v2 : Value) (m : List Sd) (hx : a.eval x = v2) (hrd : srd w v2 m) (hlen : l.length + m.length ≤ 100000) (hbase : base ≤ w.heap.size)
    (h : ∀ v' w', w'.ownsRow base 64 7 v' (l ++ m).length (sds (l ++ m)) → w.grownBy w' v.ownBlock → K (a.put o.dst v') w') : o.wp Try.prog a w K Q := by
  obtain ⟨i0, hi, hz0, hz1, hz2⟩ := info_parts infoState9
  rcases hrd with ⟨rfl, rfl⟩ | ⟨g, c, rfl, hg, hc⟩
  · refine wp_append_none9 s x 22 ho base 64 i0 7 Try.underlying22 hi v l.length (sds l) hs hown hx ?_
    refine h v w ?_ ⟨rfl, rfl, rfl, Nat.le_refl _, fun _ _ _ => rfl⟩
    rw [List.append_nil]; exact hown
  · refine wp_append_own w s x 22 ho base 64 i0 (.agg #[.int .i64 0, .int .i64 0, .int .i64 0, .int .u64 0, .int .u64 0, .int .u64 0, .int .u64 0]) 7 56 Try.underlying22 hi hz0 hz1 hz2 rfl (by decide) v l.length (sds l) hs hown ⟨g, 0, none⟩ m.length c (sds m) hx (sds_len m) (fun j u hu => by rw [show (⟨g, 0, none⟩ : Addr).add j = ⟨g, j, none⟩ by unfold Addr.add; split <;> simp_all]; exact hc j u hu) (sds_cell m) (by unfold maxLen; omega) (by omega) hbase ?_
    intro v' w' h1 h2 _
    refine h v' w' ?_ h2
    rw [sds_append, List.length_append]; exact h1
theorem lit_rd9 (w : World) (x : Sd) : srd (w.alloc (.cells #[.int .i64 x.k, .int .i64 x.A, .int .i64 x.B, .int .u64 x.a, .int .u64 x.b, .int .u64 x.c, .int .u64 x.d] 64)) (.slice (some ⟨w.heap.size, 0, none⟩) 1 1) [x] :=
  .inr ⟨_, _, rfl, by simp, fun j u hu => by have := lit_st9 w x j u hu; rwa [show (⟨w.heap.size, 0, none⟩ : Addr).add j = ⟨w.heap.size, j, none⟩ by unfold Addr.add; split <;> simp_all] at this⟩
theorem srd.grown {w w' : World} {b c n : Nat} {L : List Sd} {r : Option Nat} (h : srd w (.slice (some ⟨b, 0, none⟩) n c) L) (hg : w.grownBy w' r) (hr : some b ≠ r) : srd w' (.slice (some ⟨b, 0, none⟩) n c) L := by
  rcases h with ⟨h, _⟩ | ⟨b', c', h, hl, hc⟩
  · cases h
  · simp only [Value.slice.injEq, Option.some.injEq, Addr.mk.injEq] at h
    obtain ⟨⟨rfl, -⟩, rfl, rfl⟩ := h
    exact .inr ⟨b, c, rfl, Nat.lt_of_lt_of_le hl hg.size, fun j u hu => hg.cell (hc j u hu) hr⟩
theorem lit0_own9 (w : World) (base : Nat) (hb : base ≤ w.heap.size) : (w.alloc (.cells #[] 64)).ownsRow base 64 7 (.slice (some ⟨w.heap.size, 0, none⟩) 0 0) ([] : List Sd).length (sds []) :=
  World.ownsRow_lit (e := 64) (size := 7) w #[] 0 hb (by decide) rfl

def putPost (L : List Sd) (x : Sd) (w : World) (e : Ending) (w' : World) : Prop := ∃ g c, e = .returned (.tuple #[.slice (some ⟨g, 0, none⟩) (L ++ [x]).length c, .int .i64 (L.length : Int)]) ∧ stO w' w.heap.size g c (L ++ [x]) ∧ Below w.heap.size w w'
end Go.Proofs.Ytepegohopgnmnaa

namespace Go.Proofs.Ytepegohopgnmnaa

theorem cpL_snoc (mk : List Sd → List Sd × Nat × Nat) : ∀ m L ah, cpL mk (m + 1) L ah = (setA (mk (cpL mk m L ah).1).1 (cpL mk m L ah).2 (mk (cpL mk m L ah).1).2.1, (mk (cpL mk m L ah).1).2.2)
  | 0, _, _ => rfl
  | m + 1, L, ah => cpL_snoc mk m (setA (mk L).1 ah (mk L).2.1) (mk L).2.2
theorem opL_snoc (mk : List Sd → List Sd × Nat × Nat) : ∀ m L ah, opL mk (m + 1) L ah = (setA ((mk (opL mk m L ah).1).1 ++ [sS (mk (opL mk m L ah).1).2.1 0]) (opL mk m L ah).2.1 (mk (opL mk m L ah).1).1.length, (mk (opL mk m L ah).1).2.2, (opL mk m L ah).2.2 ++ [(mk (opL mk m L ah).1).1.length])
  | 0, _, _ => rfl
  | m + 1, L, ah => by
    have h := opL_snoc mk m (setA ((mk L).1 ++ [sS (mk L).2.1 0]) ah (mk L).1.length) (mk L).2.2
    have e : ∀ k, opL mk (k + 1) L ah = ((opL mk k (setA ((mk L).1 ++ [sS (mk L).2.1 0]) ah (mk L).1.length) (mk L).2.2).1, (opL mk k (setA ((mk L).1 ++ [sS (mk L).2.1 0]) ah (mk L).1.length) (mk L).2.2).2.1, (mk L).1.length :: (opL mk k (setA ((mk L).1 ++ [sS (mk L).2.1 0]) ah (mk L).1.length) (mk L).2.2).2.2) := fun _ => rfl
    rw [e (m + 1), h, e m]
    rfl
theorem bsL_snoc (last : Nat) : ∀ (sp : List Nat) (U : List Sd) (s : Nat), bsL last U (sp ++ [s]) = setB (bsL last U sp) s last
  | [], _, _ => rfl
  | x :: sp, U, s => bsL_snoc last sp (setB U x last) s
theorem bsL_take (last : Nat) (U : List Sd) (sp : List Nat) (j : Nat) (h : j < sp.length) : bsL last U (sp.take (j + 1)) = setB (bsL last U (sp.take j)) sp[j] last := by
  rw [List.take_succ_eq_append_getElem h, bsL_snoc]
theorem mk_len (t : Tr) (L : List Sd) : (mkF t L).1.length = L.length + nst t := (mk_ok t L).1
theorem mk_bd (t : Tr) (L : List Sd) : L.length ≤ (mkF t L).2.1 ∧ (mkF t L).2.1 < (mkF t L).1.length ∧ L.length ≤ (mkF t L).2.2 ∧ (mkF t L).2.2 < (mkF t L).1.length := by
  have := fr_bd _ t _ _ _ (mk_ok t L).2.2.1
  rw [mk_len]
  omega
theorem cpL_bd (t : Tr) (m : Nat) (L : List Sd) (ah : Nat) (h : ah < L.length) : (cpL (mkF t) m L ah).1.length = L.length + m * nst t ∧ (cpL (mkF t) m L ah).2 < (cpL (mkF t) m L ah).1.length := by
  induction m with
  | zero => exact ⟨by rw [Nat.zero_mul]; rfl, h⟩
  | succ m ih =>
    rw [cpL_snoc]
    simp only [setA_len]
    have := mk_bd t (cpL (mkF t) m L ah).1
    have e := mk_len t (cpL (mkF t) m L ah).1
    have em : (m + 1) * nst t = m * nst t + nst t := Nat.succ_mul m (nst t)
    exact ⟨by omega, by omega⟩
theorem opL_bd (t : Tr) (m : Nat) (L : List Sd) (ah : Nat) (h : ah < L.length) : (opL (mkF t) m L ah).1.length = L.length + m * (nst t + 1) ∧ (opL (mkF t) m L ah).2.1 < (opL (mkF t) m L ah).1.length ∧ (opL (mkF t) m L ah).2.2.length = m ∧ ∀ s, s ∈ (opL (mkF t) m L ah).2.2 → s < (opL (mkF t) m L ah).1.length := by
  induction m with
  | zero => exact ⟨by rw [Nat.zero_mul]; rfl, h, rfl, fun s hs => by simp [opL] at hs⟩
  | succ m ih =>
    rw [opL_snoc]
    simp only [setA_len, List.length_append, List.length_cons, List.length_nil]
    have := mk_bd t (opL (mkF t) m L ah).1
    have e := mk_len t (opL (mkF t) m L ah).1
    have em : (m + 1) * (nst t + 1) = m * (nst t + 1) + (nst t + 1) := Nat.succ_mul m (nst t + 1)
    refine ⟨by omega, by omega, by omega, fun s hs => ?_⟩
    rcases List.mem_append.1 hs with hs | hs
    · have := ih.2.2.2 s hs; omega
    · have := List.mem_singleton.1 hs; omega
end Go.Proofs.Ytepegohopgnmnaa

namespace Go.Proofs.Ytepegohopgnmnaa
open Go.RowKit

theorem grown_setCell (w : World) (b j : Nat) (v : Value) : w.grownBy (w.setCell ⟨b, j, none⟩ v) (some b) := by
  have h := (Below.refl b w).setCell (p := ⟨b, j, none⟩) (Nat.le_refl _) v
  refine ⟨h.os, h.tape, h.output, h.size, fun k _ hk => ?_⟩
  have : k ≠ b := fun e => hk (by rw [e])
  show (w.heap.modify b _)[k]? = _
  rw [Array.getElem?_modify, if_neg (Ne.symm this)]
theorem stO.other {w : World} {base g c b j : Nat} {L : List Sd} (h : stO w base g c L) (hb : b ≠ g) (u : Value) : stO (w.setCell ⟨b, j, none⟩ u) base g c L :=
  World.ownsRow.kept h (grown_setCell w b j u) (.inr (by simp [Value.ownBlock]; omega))
theorem below_pt3 {B : Nat} {a w : World} {c : Nat} (h : Below B a w) (hc : B ≤ c) (v' : Value) (f' l' : Int) : Below B a (((w.setCell ⟨c, 0, none⟩ v').setCell ⟨c, 1, none⟩ (.int .i64 f')).setCell ⟨c, 2, none⟩ (.int .i64 l')) :=
  ((h.setCell hc _).setCell hc _).setCell hc _
theorem stO.pt3 {w : World} {base g c b : Nat} {L : List Sd} (h : stO w base g c L) (hb : b ≠ g) (v' : Value) (f' l' : Int) : stO (((w.setCell ⟨b, 0, none⟩ v').setCell ⟨b, 1, none⟩ (.int .i64 f')).setCell ⟨b, 2, none⟩ (.int .i64 l')) base g c L :=
  ((h.other hb _).other hb _).other hb _

theorem stO.cellA {w : World} {base g c j : Nat} {L : List Sd} (h : stO w base g c L) (hj : j < L.length) : w.cell? ⟨g, j * 7 + 1, none⟩ = some (.int .i64 (sfn L j).A) :=
  h.cell _ _ (by rw [sds_get L j hj 1 (by decide), sfn_lt hj]; rfl)
theorem stO.cellB {w : World} {base g c j : Nat} {L : List Sd} (h : stO w base g c L) (hj : j < L.length) : w.cell? ⟨g, j * 7 + 2, none⟩ = some (.int .i64 (sfn L j).B) :=
  h.cell _ _ (by rw [sds_get L j hj 2 (by decide), sfn_lt hj]; rfl)
theorem stO.putI {w : World} {base g c : Nat} {L : List Sd} (h : stO w base g c L) (j : Nat) (a : Int) (A : Nat) (ha : a = A) : stO (w.setCell ⟨g, j * 7 + 1, none⟩ (.int .i64 a)) base g c (setA L j A) := by
  subst ha; exact h.putA j A
theorem stO.putJ {w : World} {base g c : Nat} {L : List Sd} (h : stO w base g c L) (j : Nat) (a : Int) (A : Nat) (ha : a = A) : stO (w.setCell ⟨g, j * 7 + 2, none⟩ (.int .i64 a)) base g c (setB L j A) := by
  subst ha; exact h.putB j A
/-- What Make does, at a node: its part's states, made behind some. -/
def mkPost (R : List Sd × Nat × Nat) (w : World) (e : Ending) (w' : World) : Prop :=
  ∃ g c, e = .returned (.agg #[.slice (some ⟨g, 0, none⟩) R.1.length c, .int .i64 (R.2.1 : Int), .int .i64 (R.2.2 : Int)]) ∧ stO w' w.heap.size g c R.1 ∧ Below w.heap.size w w'
theorem build_st0 (k : Int) (w : World) : (Instr.build 64 #[(0, .int .i64 k)]).run Try.prog w = .ok (.agg #[.int .i64 k, .int .i64 0, .int .i64 0, .int .u64 0, .int .u64 0, .int .u64 0, .int .u64 0]) w := by kernel_rfl
theorem build_stA (k A : Int) (w : World) : (Instr.build 64 #[(0, .int .i64 k), (1, .int .i64 A)]).run Try.prog w = .ok (.agg #[.int .i64 k, .int .i64 A, .int .i64 0, .int .u64 0, .int .u64 0, .int .u64 0, .int .u64 0]) w := by kernel_rfl
theorem build_stAB (k A B : Int) (w : World) : (Instr.build 64 #[(0, .int .i64 k), (1, .int .i64 A), (2, .int .i64 B)]).run Try.prog w = .ok (.agg #[.int .i64 k, .int .i64 A, .int .i64 B, .int .u64 0, .int .u64 0, .int .u64 0, .int .u64 0]) w := by kernel_rfl
theorem build_stS (k a b c d A : Int) (w : World) : (Instr.build 64 #[(0, .int .i64 k), (3, .agg #[.int .u64 a, .int .u64 b, .int .u64 c, .int .u64 d]), (1, .int .i64 A)]).run Try.prog w = .ok (.agg #[.int .i64 k, .int .i64 A, .int .i64 0, .int .u64 a, .int .u64 b, .int .u64 c, .int .u64 d]) w := by kernel_rfl
theorem wpList_build_st0 {ops : Array Oper} {rest : List Oper} {o : Oper} {a : Act} {w : World} {Q : Exit → Act → World → Prop} (hgd : o.guard = none) (x : Operand) (ho : o.op = .build 64 #[(0, x)])
    (k : Int) (hx : a.eval x = .int .i64 k)
    (h : wpList Try.prog ops Q rest (a.put o.dst (.agg #[.int .i64 k, .int .i64 0, .int .i64 0, .int .u64 0, .int .u64 0, .int .u64 0, .int .u64 0])) w) : wpList Try.prog ops Q (o :: rest) a w :=
  wpList_plain hgd fun K hK => by
    have hb := build_st0 k w
    have hm : (#[(0, x)] : Array (Nat × Operand)).map (fun (i, v) => (i, a.eval v)) = #[(0, a.eval x)] := by simp
    unfold Oper.wp execOp
    simp only [ho]
    rw [hm, hx]
    simp only [Sem.run_bind, hb, Result.andThen_ok]
    exact hK _ _ h
theorem wpList_build_stA {ops : Array Oper} {rest : List Oper} {o : Oper} {a : Act} {w : World} {Q : Exit → Act → World → Prop} (hgd : o.guard = none) (x y : Operand) (ho : o.op = .build 64 #[(0, x), (1, y)])
    (k A : Int) (hx : a.eval x = .int .i64 k) (hy : a.eval y = .int .i64 A)
    (h : wpList Try.prog ops Q rest (a.put o.dst (.agg #[.int .i64 k, .int .i64 A, .int .i64 0, .int .u64 0, .int .u64 0, .int .u64 0, .int .u64 0])) w) : wpList Try.prog ops Q (o :: rest) a w :=
  wpList_plain hgd fun K hK => by
    have hb := build_stA k A w
    have hm : (#[(0, x), (1, y)] : Array (Nat × Operand)).map (fun (i, v) => (i, a.eval v)) = #[(0, a.eval x), (1, a.eval y)] := by simp
    unfold Oper.wp execOp
    simp only [ho]
    rw [hm, hx, hy]
    simp only [Sem.run_bind, hb, Result.andThen_ok]
    exact hK _ _ h
theorem wpList_build_stAB {ops : Array Oper} {rest : List Oper} {o : Oper} {a : Act} {w : World} {Q : Exit → Act → World → Prop} (hgd : o.guard = none) (x y z : Operand) (ho : o.op = .build 64 #[(0, x), (1, y), (2, z)])
    (k A B : Int) (hx : a.eval x = .int .i64 k) (hy : a.eval y = .int .i64 A) (hz : a.eval z = .int .i64 B)
    (h : wpList Try.prog ops Q rest (a.put o.dst (.agg #[.int .i64 k, .int .i64 A, .int .i64 B, .int .u64 0, .int .u64 0, .int .u64 0, .int .u64 0])) w) : wpList Try.prog ops Q (o :: rest) a w :=
  wpList_plain hgd fun K hK => by
    have hb := build_stAB k A B w
    have hm : (#[(0, x), (1, y), (2, z)] : Array (Nat × Operand)).map (fun (i, v) => (i, a.eval v)) = #[(0, a.eval x), (1, a.eval y), (2, a.eval z)] := by simp
    unfold Oper.wp execOp
    simp only [ho]
    rw [hm, hx, hy, hz]
    simp only [Sem.run_bind, hb, Result.andThen_ok]
    exact hK _ _ h
end Go.Proofs.Ytepegohopgnmnaa

namespace Go.Proofs.Ytepegohopgnmnaa
open Go.RowKit

theorem rows_apart9 {w : World} {b1 b2 e1 e2 s1 s2 n1 n2 : Nat} {v1 v2 : Value} {x1 x2 : List Value} (h1 : w.ownsRow b1 e1 s1 v1 n1 x1) (h2 : w.ownsRow b2 e2 s2 v2 n2 x2) (hne : e1 ≠ e2) : v1.ownBlock = none ∨ v1.ownBlock ≠ v2.ownBlock := by
  rcases h1.2 with ⟨rfl, _⟩ | ⟨g1, c1, u1, rfl, _, p1, _⟩
  · exact .inl rfl
  · rcases h2.2 with ⟨rfl, _⟩ | ⟨g2, c2, u2, rfl, _, p2, _⟩
    · exact .inr (by simp [Value.ownBlock])
    · refine .inr fun h => ?_
      have hg : g1 = g2 := by simpa [Value.ownBlock] using h
      subst hg
      rw [p1] at p2
      simp at p2
      exact hne p2.2
def spl9 (l : List Nat) : List Value := l.map fun s : Nat => Value.int .i64 (s : Int)
theorem headD_get9 (l : List Nat) (h : 0 < l.length) : l.headD 0 = l[0] := by
  cases l with
  | nil => simp at h
  | cons x l => rfl
/-- A row of places that a call owns. -/
def spO (w : World) (base : Nat) (v : Value) (l : List Nat) : Prop := w.ownsRow base 3 1 v l.length (spl9 l)
theorem spO.stored {w : World} {base base' g c j : Nat} {v : Value} {l : List Nat} {L : List Sd} (h : spO w base v l) (hs : stO w base' g c L) (u : Value) : spO (w.setCell ⟨g, j, none⟩ u) base v l :=
  World.ownsRow.kept h (grown_setCell w g j u) (by
    rcases rows_apart9 h hs (by decide) with h | h
    · exact .inl h
    · exact .inr (by simpa [Value.ownBlock] using h))
theorem stO.apart {w w' : World} {base base' g c : Nat} {v : Value} {l : List Nat} {L : List Sd} (h : stO w base g c L) (hs : spO w base' v l) (hg : w.grownBy w' v.ownBlock) : stO w' base g c L :=
  World.ownsRow.kept h hg (rows_apart9 h hs (by decide))
end Go.Proofs.Ytepegohopgnmnaa
