/-
  The walk of the ninth reference's Step.
  The walks of the ninth reference's Of and Told.
  The walk of the ninth reference's Told.
  A list that grows while it is gone over: where one comes at once. Plain facts.
  The states of a tree's part, made behind some, as lists: they are the page's. Plain facts.
  Rows of states in memory, as lists.
  The walk of the ninth reference's put.
-/
import Derived.Test.YtefpoapbodbenaaPk5
import Derived.Test.YtefpoapbodbenaaPk1
import Derived.Test.YtefpoapbodbenaaPk4
import Derived.Laws.AppendOwnNone
namespace Go.Proofs.Ytefpoapbodbenaa
open Go.RowKit

/-- Words of a set, in range. -/
def okWs (x : Sd) : Prop := (0 ≤ x.a ∧ x.a < 18446744073709551616) ∧ (0 ≤ x.b ∧ x.b < 18446744073709551616) ∧ (0 ≤ x.c ∧ x.c < 18446744073709551616) ∧ (0 ≤ x.d ∧ x.d < 18446744073709551616)
theorem okWs_wd {x : Sd} (h : okWs x) : x.a = (wd (sOf x) 0 : Int) ∧ x.b = (wd (sOf x) 1 : Int) ∧ x.c = (wd (sOf x) 2 : Int) ∧ x.d = (wd (sOf x) 3 : Int) := fOf_wd (x := ⟨0, x.a, x.b, x.c, x.d, 0, 0⟩) h
/-- What the reference does at a state; at the first i of them. -/
def st1 (S : Nat → Sd) (y : Nat) (T : Nat → Bool) (T' : Nat → Bool) (i : Nat) : Nat → Bool := if T i = true ∧ (S i).k = 1 ∧ sOf (S i) y = true then putT T' (S i).A.toNat true else T'
def stR (S : Nat → Sd) (y : Nat) (T : Nat → Bool) : Nat → Nat → Bool
  | 0 => fun _ => false
  | i + 1 => st1 S y T (stR S y T i) i
theorem stR_iff {S : Nat → Sd} {y m : Nat} {T : Nat → Bool} (hr : rng S m) : ∀ {i q}, i ≤ m → (stR S y T i q = true ↔ ∃ q0, q0 < i ∧ T q0 = true ∧ (S q0).k = 1 ∧ sOf (S q0) y = true ∧ (q : Int) = (S q0).A)
  | 0, q, _ => Iff.intro (fun h => (by simp [stR] at h)) (fun ⟨_, h, _⟩ => absurd h (Nat.not_lt_zero _))
  | i + 1, q, hi => by
    have ih := stR_iff (y := y) (T := T) hr (i := i) (q := q) (by omega)
    obtain ⟨_, _, a1, a2, _, _⟩ := hr i (by omega)
    show st1 S y T (stR S y T i) i q = true ↔ _
    unfold st1
    by_cases h : T i = true ∧ (S i).k = 1 ∧ sOf (S i) y = true
    · rw [if_pos h]
      constructor
      · intro g
        rcases putT_or g with g | g
        · obtain ⟨q0, k1, k2⟩ := ih.1 g
          exact ⟨q0, by omega, k2⟩
        · exact ⟨i, by omega, h.1, h.2.1, h.2.2, by omega⟩
      · rintro ⟨q0, k1, k2⟩
        by_cases e : q0 = i
        · subst e
          have : q = (S q0).A.toNat := by omega
          rw [this]; exact putT_at
        · exact putT_le (ih.2 ⟨q0, by omega, k2⟩)
    · rw [if_neg h]
      constructor
      · intro g
        obtain ⟨q0, k1, k2⟩ := ih.1 g
        exact ⟨q0, by omega, k2⟩
      · rintro ⟨q0, k1, k2, k3, k4, k5⟩
        by_cases e : q0 = i
        · subst e; exact absurd ⟨k2, k3, k4⟩ h
        · exact ih.2 ⟨q0, by omega, k2, k3, k4, k5⟩

theorem made_bls (m : Nat) : (madeCells #[Value.bool false] m).toList = bls (fun _ => false) m := by
  unfold madeCells bls
  apply List.ext_getElem
  · simp
  · intro i h1 h2
    simp [Nat.mod_one]

end Go.Proofs.Ytefpoapbodbenaa

namespace Go.Proofs.Ytefpoapbodbenaa
open Go.RowKit

/-- Numbers that are read, as many as n. -/
def rdL (w : World) (p : Option Addr) (n : Nat) (l : Nat → Int) : Prop := ∀ j, j < n → ∃ b o, p = some ⟨b, o, none⟩ ∧ b < w.heap.size ∧ w.cell? ⟨b, o + j, none⟩ = some (.int .i64 (l j))
theorem rdL.below {w w' : World} {p : Option Addr} {n : Nat} {l : Nat → Int} (h : rdL w p n l) (hb : Below w.heap.size w w') : rdL w' p n l := fun j hj => by
  obtain ⟨b, o, h1, h2, h3⟩ := h j hj
  exact ⟨b, o, h1, Nat.lt_of_lt_of_le h2 hb.size, by rw [hb.cell (p := ⟨b, o + j, none⟩) h2]; exact h3⟩
/-- What the first k of them name. -/
def inL (m : Nat) (l : Nat → Int) : Nat → Nat → Bool
  | 0 => fun _ => false
  | k + 1 => if 0 ≤ l k ∧ l k < m then putT (inL m l k) (l k).toNat true else inL m l k
theorem inL_iff {m : Nat} {l : Nat → Int} : ∀ {k q}, q < m → (inL m l k q = true ↔ ∃ i, i < k ∧ l i = (q : Int))
  | 0, q, _ => Iff.intro (fun h => by simp [inL] at h) (fun ⟨_, h, _⟩ => absurd h (Nat.not_lt_zero _))
  | k + 1, q, hq => by
    have ih := inL_iff (l := l) (k := k) hq
    unfold inL
    by_cases h : 0 ≤ l k ∧ l k < m
    · rw [if_pos h]
      constructor
      · intro g
        rcases putT_or g with g | g
        · obtain ⟨i, k1, k2⟩ := ih.1 g
          exact ⟨i, by omega, k2⟩
        · exact ⟨k, by omega, by omega⟩
      · rintro ⟨i, k1, k2⟩
        by_cases e : i = k
        · subst e
          have : q = (l i).toNat := by omega
          rw [this]; exact putT_at
        · exact putT_le (ih.2 ⟨i, by omega, k2⟩)
    · rw [if_neg h]
      constructor
      · intro g
        obtain ⟨i, k1, k2⟩ := ih.1 g
        exact ⟨i, by omega, k2⟩
      · rintro ⟨i, k1, k2⟩
        by_cases e : i = k
        · subst e; omega
        · exact ih.2 ⟨i, by omega, k2⟩

end Go.Proofs.Ytefpoapbodbenaa

namespace Go.Proofs.Ytefpoapbodbenaa
open Go.RowKit

/-- A rising list of what is true. -/
def trs (T : Nat → Bool) (m : Nat) : List Nat := (List.range m).filter fun j => T j
theorem trs_len (T : Nat → Bool) (m : Nat) : (trs T m).length = cntT T m := rfl
theorem trs_at {T : Nat → Bool} : ∀ {m i}, i < m → T i = true → (trs T m)[cntT T i]? = some i
  | 0, i, h, _ => absurd h (Nat.not_lt_zero _)
  | m + 1, i, h, hT => by
    have es : trs T (m + 1) = trs T m ++ [m].filter fun j => T j := by unfold trs; rw [List.range_succ, List.filter_append]
    rw [es]
    by_cases e : i = m
    · subst e
      rw [List.getElem?_append_right (show (trs T i).length ≤ cntT T i from Nat.le_refl _), List.filter_cons_of_pos hT]
      rw [show cntT T i - (trs T i).length = 0 from Nat.sub_self _]; rfl
    · have hm := trs_at (m := m) (i := i) (by omega) hT
      have hlt : cntT T i < (trs T m).length := by
        rcases Nat.lt_or_ge (cntT T i) (trs T m).length with g | g
        · exact g
        · rw [List.getElem?_eq_none g] at hm; cases hm
      rw [List.getElem?_append_left hlt]
      exact hm

end Go.Proofs.Ytefpoapbodbenaa

namespace Go.Proofs.Ytefpoapbodbenaa
open Go.RowKit

/-- What is put behind the list of what is met, if it isn't met yet. -/
def putW (A : List Nat) (x : Nat) : List Nat := if x ∈ A then A else A ++ [x]
def memW (A : List Nat) (x : Nat) : Bool := decide (x ∈ A)
theorem putW_in {A : List Nat} {x : Nat} (h : x ∈ A) : putW A x = A := by unfold putW; rw [if_pos h]
theorem putW_out {A : List Nat} {x : Nat} (h : ¬ x ∈ A) : putW A x = A ++ [x] := by unfold putW; rw [if_neg h]
theorem putW_mem {A : List Nat} {x q : Nat} : q ∈ putW A x ↔ q ∈ A ∨ q = x := by
  by_cases h : x ∈ A
  · rw [putW_in h]
    constructor
    · exact .inl
    · rintro (g | rfl)
      · exact g
      · exact h
  · rw [putW_out h]; simp
theorem memW_put {A : List Nat} {x : Nat} (h : ¬ x ∈ A) (j : Nat) : putT (memW A) x true j = memW (A ++ [x]) j := by
  unfold putT memW
  by_cases e : j = x
  · subst e; simp
  · rw [if_neg e]
    congr 1
    simp [e]
def okA9 (m : Nat) (A : List Nat) : Prop := A.Nodup ∧ ∀ x, x ∈ A → x < m
theorem okA_nil (m : Nat) : okA9 m [] := ⟨List.nodup_nil, fun _ h => by cases h⟩
theorem okA_put {m : Nat} {A : List Nat} {x : Nat} (h : okA9 m A) (hx : x < m) : okA9 m (putW A x) := by
  by_cases e : x ∈ A
  · rw [putW_in e]; exact h
  · rw [putW_out e]
    refine ⟨?_, ?_⟩
    · rw [List.nodup_append]
      refine ⟨h.1, by simp, ?_⟩
      intro a ha b hb
      have : b = x := by simpa using hb
      subst this
      exact fun e2 => e (e2 ▸ ha)
    · intro y hy
      rcases List.mem_append.1 hy with g | g
      · exact h.2 y g
      · have : y = x := by simpa using g
        omega
theorem putW_old {A : List Nat} {x i : Nat} (h : i < A.length) : (putW A x)[i]? = A[i]? := by
  by_cases e : x ∈ A
  · rw [putW_in e]
  · rw [putW_out e, List.getElem?_append_left h]
theorem putW_len {A : List Nat} {x : Nat} : A.length ≤ (putW A x).length := by
  by_cases e : x ∈ A
  · rw [putW_in e]; exact Nat.le_refl _
  · rw [putW_out e]; simp
/-- The same members, none twice: what is true, rising, is a permutation. -/
theorem okA_perm {m : Nat} {A : List Nat} (h : okA9 m A) : (trs (memW A) m).Perm A := by
  refine (List.perm_ext_iff_of_nodup ?_ h.1).2 fun q => ?_
  · exact List.Pairwise.filter _ List.nodup_range
  · unfold trs memW
    rw [List.mem_filter, List.mem_range]
    constructor
    · rintro ⟨_, h2⟩; simpa using h2
    · exact fun g => ⟨h.2 q g, by simpa using g⟩
theorem okA_len {m : Nat} {A : List Nat} (h : okA9 m A) : A.length = cntT (memW A) m := (okA_perm h).length_eq.symm
theorem okA_le {m : Nat} {A : List Nat} (h : okA9 m A) : A.length ≤ m := by rw [okA_len h]; exact cntT_le _ _
def ints9 (A : List Nat) : List Int := A.map fun x : Nat => (x : Int)
theorem sort9 {m : Nat} {A : List Nat} (h : okA9 m A) : (ints9 A).mergeSort (fun x y => decide (x ≤ y)) = ints9 (trs (memW A) m) := by
  have ht : ∀ a b c : Int, decide (a ≤ b) = true → decide (b ≤ c) = true → decide (a ≤ c) = true := fun a b c h1 h2 => by
    simp only [decide_eq_true_eq] at *; omega
  have hto : ∀ a b : Int, (decide (a ≤ b) || decide (b ≤ a)) = true := fun a b => by
    simp only [Bool.or_eq_true, decide_eq_true_eq]; omega
  refine List.Perm.eq_of_pairwise (le := fun x y : Int => x ≤ y) (fun a b _ _ h1 h2 => by omega) ?_ ?_ ?_
  · exact (List.pairwise_mergeSort ht hto _).imp fun h => by simpa using h
  · unfold ints9 trs
    rw [List.pairwise_map]
    refine (List.Pairwise.filter _ (List.pairwise_lt_range (n := m))).imp fun h => by omega
  · refine (List.mergeSort_perm _ _).trans ?_
    exact ((okA_perm h).map _).symm

/-- The list is gone over up to k: what it has is reached, and it has all that one step from the first k leads to. -/
def wInv (S : Nat → Sd) (sym : Int) (m : Nat) (P : Nat → Prop) (A : List Nat) (k : Nat) : Prop :=
  okA9 m A ∧ k ≤ A.length ∧ (∀ q, q ∈ A → Cl S sym P q) ∧ (∀ q, P q → q ∈ A) ∧ ∀ i, i < k → ∀ x, A[i]? = some x → ∀ q, ep S sym x q → q ∈ A
theorem wInv_start {S : Nat → Sd} {sym : Int} {m : Nat} {P : Nat → Prop} {A : List Nat} (h : okA9 m A) (hP : ∀ q, q ∈ A ↔ P q) : wInv S sym m P A 0 :=
  ⟨h, Nat.zero_le _, fun q hq => ⟨q, (hP q).1 hq, .refl _⟩, fun q hq => (hP q).2 hq, fun _ hi => absurd hi (Nat.not_lt_zero _)⟩
theorem wInv_next {S : Nat → Sd} {sym : Int} {m : Nat} {P : Nat → Prop} {A A' : List Nat} {k x : Nat} (h : wInv S sym m P A k) (hk : k < A.length) (hx : A[k]? = some x) (ho : okA9 m A') (hl : A.length ≤ A'.length)
    (hp : ∀ i, i < A.length → A'[i]? = A[i]?) (h1 : ∀ q, q ∈ A' → q ∈ A ∨ ep S sym x q) (h2 : ∀ q, ep S sym x q → q ∈ A') (h3 : ∀ q, q ∈ A → q ∈ A') : wInv S sym m P A' (k + 1) := by
  obtain ⟨g1, g2, g3, g4, g5⟩ := h
  refine ⟨ho, by omega, fun q hq => ?_, fun q hq => h3 q (g4 q hq), fun i hi y hy q hq => ?_⟩
  · rcases h1 q hq with h | h
    · exact g3 q h
    · obtain ⟨q0, k1, k2⟩ := g3 x (List.mem_of_getElem? hx)
      exact ⟨q0, k1, .tail k2 h⟩
  · rw [hp i (by omega)] at hy
    by_cases e : i = k
    · subst e
      rw [hx] at hy; cases hy
      exact h2 q hq
    · exact h3 q (g5 i (by omega) y hy q hq)
theorem wInv_none {S : Nat → Sd} {sym : Int} {m : Nat} {P : Nat → Prop} {A : List Nat} {k x : Nat} (h : wInv S sym m P A k) (hk : k < A.length) (hx : A[k]? = some x) (h3 : (S x).k ≠ 3) (hA : eA S sym x = false) : wInv S sym m P A (k + 1) := by
  have hn : ∀ q, ¬ ep S sym x q := by
    rintro q (⟨g, _⟩ | ⟨g, _⟩)
    · rw [eA_iff.2 g] at hA; cases hA
    · exact h3 g
  exact wInv_next h hk hx h.1 (Nat.le_refl _) (fun _ _ => rfl) (fun q hq => .inl hq) (fun q hq => absurd hq (hn q)) fun _ hq => hq
theorem wInv_one {S : Nat → Sd} {sym : Int} {m : Nat} {P : Nat → Prop} {A : List Nat} {k x a : Nat} (h : wInv S sym m P A k) (hk : k < A.length) (hx : A[k]? = some x) (h3 : (S x).k ≠ 3) (hA : eA S sym x = true) (ha : (S x).A = (a : Int)) (ham : a < m) : wInv S sym m P (putW A a) (k + 1) := by
  refine wInv_next h hk hx (okA_put h.1 ham) putW_len (fun _ hi => putW_old hi) (fun q hq => ?_) (fun q hq => ?_) fun q hq => putW_mem.2 (.inl hq)
  · rcases putW_mem.1 hq with g | rfl
    · exact .inl g
    · exact .inr (.inl ⟨eA_iff.1 hA, ha.symm⟩)
  · rcases hq with ⟨_, g⟩ | ⟨g, _⟩
    · exact putW_mem.2 (.inr (by omega))
    · exact absurd g h3
theorem wInv_two {S : Nat → Sd} {sym : Int} {m : Nat} {P : Nat → Prop} {A : List Nat} {k x a b : Nat} (h : wInv S sym m P A k) (hk : k < A.length) (hx : A[k]? = some x) (h3 : (S x).k = 3) (ha : (S x).A = (a : Int)) (hb : (S x).B = (b : Int)) (ham : a < m) (hbm : b < m) : wInv S sym m P (putW (putW A b) a) (k + 1) := by
  refine wInv_next h hk hx (okA_put (okA_put h.1 hbm) ham) (Nat.le_trans putW_len putW_len) (fun i hi => ?_) (fun q hq => ?_) (fun q hq => ?_) fun q hq => putW_mem.2 (.inl (putW_mem.2 (.inl hq)))
  · rw [putW_old (Nat.lt_of_lt_of_le hi putW_len), putW_old hi]
  · rcases putW_mem.1 hq with g | rfl
    · rcases putW_mem.1 g with g | rfl
      · exact .inl g
      · exact .inr (.inr ⟨h3, hb.symm⟩)
    · exact .inr (.inl ⟨.inr (.inl h3), ha.symm⟩)
  · rcases hq with ⟨_, g⟩ | ⟨_, g⟩
    · exact putW_mem.2 (.inr (by omega))
    · exact putW_mem.2 (.inl (putW_mem.2 (.inr (by omega))))
theorem wInv_end {S : Nat → Sd} {sym : Int} {m : Nat} {P : Nat → Prop} {A : List Nat} {k : Nat} (h : wInv S sym m P A k) (hk : A.length ≤ k) (q : Nat) : q ∈ A ↔ Cl S sym P q := by
  obtain ⟨g1, g2, g3, g4, g5⟩ := h
  refine ⟨g3 q, ?_⟩
  rintro ⟨q0, h0, hr⟩
  induction hr with
  | refl => exact g4 q0 h0
  | @tail q1 q2 _ he ih =>
    obtain ⟨i, hi⟩ := List.mem_iff_getElem?.1 ih
    have hil : i < A.length := by
      rcases Nat.lt_or_ge i A.length with h | h
      · exact h
      · rw [List.getElem?_eq_none h] at hi; cases hi
    exact g5 i (by omega) q1 hi q2 he
end Go.Proofs.Ytefpoapbodbenaa

namespace Go.Proofs.Ytefpoapbodbenaa

def sfn (L : List Sd) (j : Nat) : Sd := L.getD j (sE 0)
def setA (L : List Sd) (j A : Nat) : List Sd := L.modify j fun s => { s with A := (A : Int) }
def setB (L : List Sd) (j B : Nat) : List Sd := L.modify j fun s => { s with B := (B : Int) }
theorem setA_len (L : List Sd) (j A : Nat) : (setA L j A).length = L.length := List.length_modify ..
theorem setB_len (L : List Sd) (j B : Nat) : (setB L j B).length = L.length := List.length_modify ..
theorem sfn_lt {L : List Sd} {j : Nat} (h : j < L.length) : sfn L j = L[j] := by unfold sfn; rw [List.getD_eq_getElem?_getD, List.getElem?_eq_getElem h]; rfl
theorem setA_at {L : List Sd} {j A : Nat} (h : j < L.length) : sfn (setA L j A) j = { sfn L j with A := (A : Int) } := by
  unfold sfn setA
  rw [List.getD_eq_getElem?_getD, List.getElem?_modify, List.getD_eq_getElem?_getD, List.getElem?_eq_getElem h]
  simp
theorem setA_ne {L : List Sd} {j A q : Nat} (h : q ≠ j) : sfn (setA L j A) q = sfn L q := by
  unfold sfn setA
  rw [List.getD_eq_getElem?_getD, List.getElem?_modify, List.getD_eq_getElem?_getD]
  simp [Ne.symm h]
theorem setB_at {L : List Sd} {j A : Nat} (h : j < L.length) : sfn (setB L j A) j = { sfn L j with B := (A : Int) } := by
  unfold sfn setB
  rw [List.getD_eq_getElem?_getD, List.getElem?_modify, List.getD_eq_getElem?_getD, List.getElem?_eq_getElem h]
  simp
theorem setB_ne {L : List Sd} {j A q : Nat} (h : q ≠ j) : sfn (setB L j A) q = sfn L q := by
  unfold sfn setB
  rw [List.getD_eq_getElem?_getD, List.getElem?_modify, List.getD_eq_getElem?_getD]
  simp [Ne.symm h]
theorem sfn_old {L : List Sd} {x : Sd} {q : Nat} (h : q < L.length) : sfn (L ++ [x]) q = sfn L q := by
  unfold sfn
  rw [List.getD_eq_getElem?_getD, List.getD_eq_getElem?_getD, List.getElem?_append_left h]
theorem sfn_new {L : List Sd} {x : Sd} {q : Nat} (h : q = L.length) : sfn (L ++ [x]) q = x := by
  subst h
  unfold sfn
  rw [List.getD_eq_getElem?_getD, List.getElem?_append_right (Nat.le_refl _)]
  simp
theorem setA_E {L : List Sd} {j A : Nat} (h : j < L.length) (hs : sfn L j = sE 0) : sfn (setA L j A) j = sE A := by rw [setA_at h, hs]; rfl
theorem setA_EE {L : List Sd} {j A B : Nat} (h : j < L.length) (hs : sfn L j = sE A) : sfn (setA L j B) j = sE B := by rw [setA_at h, hs]; rfl
theorem setB_S {L : List Sd} {j A B : Nat} (h : j < L.length) (hs : sfn L j = sS A 0) : sfn (setB L j B) j = sS A B := by rw [setB_at h, hs]; rfl

/-- Some copies, one behind the other: the states, and what is ahead. -/
def cpL (mk : List Sd → List Sd × Nat × Nat) : Nat → List Sd → Nat → List Sd × Nat
  | 0, L, ah => (L, ah)
  | m + 1, L, ah => cpL mk m (setA (mk L).1 ah (mk L).2.1) (mk L).2.2
/-- Some copies that may be left out: the states, what is ahead, the splits. -/
def opL (mk : List Sd → List Sd × Nat × Nat) : Nat → List Sd → Nat → List Sd × Nat × List Nat
  | 0, L, ah => (L, ah, [])
  | m + 1, L, ah =>
    let r := opL mk m (setA ((mk L).1 ++ [sS (mk L).2.1 0]) ah (mk L).1.length) (mk L).2.2
    (r.1, r.2.1, (mk L).1.length :: r.2.2)
def bsL (last : Nat) : List Sd → List Nat → List Sd
  | L, [] => L
  | L, s :: sp => bsL last (setB L s last) sp
def edL9 (inf : Bool) (r : List Sd × Nat × List Nat) : List Sd × Nat :=
  let U := setA (r.1 ++ [sE 0]) r.2.1 r.1.length
  let V := if inf then setA U r.2.1 (r.2.2.headD 0) else U
  (bsL r.1.length V r.2.2, r.1.length)
def leafS (x : Nd) (A : Nat) : Sd := ⟨skd x.k, x.a, x.b, x.c, x.d, A, 0⟩
/-- What is made of a tree's part, behind some states: all states, its first and its last one. -/
def mkF : Tr → List Sd → List Sd × Nat × Nat
  | .leaf x, L => (L ++ [leafS x (L.length + 1)] ++ [sE 0], L.length, L.length + 1)
  | .cat a b, L => (setA (mkF b (mkF a L).1).1 (mkF a L).2.2 (mkF b (mkF a L).1).2.1, (mkF a L).2.1, (mkF b (mkF a L).1).2.2)
  | .or a b, L =>
    let x := mkF a L
    let y := mkF b x.1
    (setA (setA (y.1 ++ [sS x.2.1 y.2.1] ++ [sE 0]) x.2.2 (y.1.length + 1)) y.2.2 (y.1.length + 1), y.1.length, y.1.length + 1)
  | .rep a lo hi, L =>
    let p := cpL (mkF a) lo.toNat (L ++ [sE 0]) L.length
    let r := edL9 (hi == -1) (opL (mkF a) (if hi = -1 then 1 else (hi - lo).toNat) p.1 p.2)
    (r.1, L.length, r.2)

/-- A part stands where its states stand. -/
def samP (S S' : Nat → Sd) (P P' : Nat → Nat → Nat → Prop) (sz : Nat) : Prop := ∀ b f l, (∀ q, b ≤ q → q < b + sz → q ≠ l → S q = S' q) → P b f l → P' b f l
theorem cps_same {S S' : Nat → Sd} {P P' : Nat → Nat → Nat → Prop} {sz : Nat} (hP : inP P sz) (hs : samP S S' P P' sz) : ∀ {m base ah b1 a1}, ah < base → (∀ q, (q = ah ∨ (base ≤ q ∧ q < b1)) → q ≠ a1 → S q = S' q) → cps S P sz m base ah b1 a1 → cps S' P' sz m base ah b1 a1
  | 0, _, _, _, _, _, _, h => h
  | m + 1, base, ah, b1, a1, hlt, hq, ⟨f, l, h1, h2, h3⟩ => by
    obtain ⟨k1, k2, k3, k4, k5⟩ := hP _ _ _ h2
    obtain ⟨g1, g2⟩ := cps_bd hP h3
    have hb1 : base + sz ≤ b1 := by omega
    refine ⟨f, l, ?_, hs _ _ _ (fun q q1 q2 q3 => hq q (.inr ⟨q1, by omega⟩) (by rcases g2 with ⟨_, rfl⟩ | g2 <;> omega)) h2, cps_same hP hs (by omega) (fun q hq' hne => hq q (.inr (by rcases hq' with rfl | hq' <;> omega)) hne) h3⟩
    rw [← hq ah (.inl rfl) (by rcases g2 with ⟨_, rfl⟩ | g2 <;> omega)]
    exact h1
theorem opts_same {S S' : Nat → Sd} {P P' : Nat → Nat → Nat → Prop} {sz : Nat} (hP : inP P sz) (hs : samP S S' P P' sz) : ∀ {m base ah L}, (∀ q, (q = ah ∨ (base ≤ q ∧ q < L)) → S q = S' q) → opts S P sz m base ah L → opts S' P' sz m base ah L
  | 0, _, ah, _, hq, ⟨h1, h2⟩ => ⟨h1, by rw [← hq ah (.inl rfl)]; exact h2⟩
  | m + 1, base, ah, L, hq, ⟨f, l, h1, h2, h3, h4⟩ => by
    obtain ⟨k1, k2, k3, k4, k5⟩ := hP _ _ _ h1
    have g := opts_bd h4
    refine ⟨f, l, hs _ _ _ (fun q q1 q2 _ => hq q (.inr ⟨q1, by omega⟩)) h1, ?_, ?_, opts_same hP hs (fun q hq' => hq q (.inr (by rcases hq' with rfl | hq' <;> omega))) h4⟩
    · rw [← hq _ (.inr ⟨by omega, by omega⟩)]; exact h2
    · rw [← hq ah (.inl rfl)]; exact h3
theorem again_same {S S' : Nat → Sd} {P P' : Nat → Nat → Nat → Prop} {sz : Nat} (hP : inP P sz) (hs : samP S S' P P' sz) {base ah L : Nat} (hq : ∀ q, (q = ah ∨ (base ≤ q ∧ q < L)) → S q = S' q) (h : again9 S P sz base ah L) : again9 S' P' sz base ah L := by
  obtain ⟨f, l, h1, h2, h3, h4, h5⟩ := h
  obtain ⟨k1, k2, k3, k4, k5⟩ := hP _ _ _ h1
  exact ⟨f, l, hs _ _ _ (fun q q1 q2 _ => hq q (.inr ⟨q1, by omega⟩)) h1, by rw [← hq _ (.inr ⟨by omega, by omega⟩)]; exact h2, by rw [← hq ah (.inl rfl)]; exact h3, by rw [← hq _ (.inr ⟨by omega, by omega⟩)]; exact h4, h5⟩
theorem fr_same {S S' : Nat → Sd} : ∀ t, samP S S' (isFr S t) (isFr S' t) (nst t)
  | .leaf x, b, f, l, hq, ⟨h1, h2, h3⟩ => ⟨h1, h2, by rw [← hq f (by omega) (by show _ < b + 2; omega) (by omega)]; exact h3⟩
  | .cat x y, b, f, l, hq, ⟨la, fb, h1, h2, h3⟩ => by
    have g1 := fr_bd S x _ _ _ h1
    have g2 := fr_bd S y _ _ _ h2
    have hq : ∀ q, b ≤ q → q < b + (nst x + nst y) → q ≠ l → S q = S' q := hq
    exact ⟨la, fb, fr_same x _ _ _ (fun q q1 q2 q3 => hq q q1 (by omega) (by omega)) h1, fr_same y _ _ _ (fun q q1 q2 q3 => hq q (by omega) (by omega) q3) h2, by rw [← hq la (by omega) (by omega) (by omega)]; exact h3⟩
  | .or x y, b, f, l, hq, ⟨fa, la, fb, lb, h1, h2, h3, h4, h5, h6, h7⟩ => by
    have g1 := fr_bd S x _ _ _ h1
    have g2 := fr_bd S y _ _ _ h2
    have hq : ∀ q, b ≤ q → q < b + (nst x + nst y + 2) → q ≠ l → S q = S' q := hq
    exact ⟨fa, la, fb, lb, fr_same x _ _ _ (fun q q1 q2 q3 => hq q q1 (by omega) (by omega)) h1, fr_same y _ _ _ (fun q q1 q2 q3 => hq q (by omega) (by omega) (by omega)) h2, h3, h4,
      by rw [← hq f (by omega) (by omega) (by omega)]; exact h5, by rw [← hq la (by omega) (by omega) (by omega)]; exact h6, by rw [← hq lb (by omega) (by omega) (by omega)]; exact h7⟩
  | .rep x lo hi, b, f, l, hq, ⟨h1, base', ah, h2, h3⟩ => by
    have hP := fr_bd S x
    obtain ⟨g1, g2⟩ := cps_bd hP h2
    have hl : b + 1 ≤ base' ∧ base' ≤ l ∧ l < b + nst (.rep x lo hi) := by
      refine ⟨by omega, ?_, ?_⟩
      · by_cases hh : hi = -1
        · rw [if_pos hh] at h3; obtain ⟨_, _, _, _, _, _, h8⟩ := h3; omega
        · rw [if_neg hh] at h3; have := opts_bd h3; omega
      · show _ < b + (2 + lo.toNat * nst x + _)
        by_cases hh : hi = -1
        · rw [if_pos hh] at h3 ⊢; obtain ⟨_, _, _, _, _, _, h8⟩ := h3; omega
        · rw [if_neg hh] at h3 ⊢; have := opts_bd h3; omega
    have hS : ∀ q, b ≤ q → q < l → S q = S' q := fun q q1 q2 => hq q q1 (by omega) (by omega)
    refine ⟨h1, base', ah, cps_same hP (fr_same x) (by omega) (fun q q1 q2 => hS q (by omega) (by omega)) h2, ?_⟩
    by_cases hh : hi = -1
    · rw [if_pos hh] at h3 ⊢
      exact again_same hP (fr_same x) (fun q q1 => hS q (by omega) (by rcases q1 with rfl | q1 <;> first | omega | (obtain ⟨_, _, _, _, _, _, h8⟩ := h3; omega))) h3
    · rw [if_neg hh] at h3 ⊢
      have hbd := opts_bd h3
      by_cases hl' : ah < l
      · exact opts_same hP (fr_same x) (fun q q1 => hS q (by omega) (by omega)) h3
      · omega
end Go.Proofs.Ytefpoapbodbenaa

namespace Go.Proofs.Ytefpoapbodbenaa
open Go.RowKit

def scs (x : Sd) : List Value := [.int .i64 x.k, .int .i64 x.A, .int .i64 x.B, .int .u64 x.a, .int .u64 x.b, .int .u64 x.c, .int .u64 x.d]
def sds (l : List Sd) : List Value := l.flatMap scs
theorem sds_append (l r : List Sd) : sds (l ++ r) = sds l ++ sds r := by simp [sds]
theorem sds_one (x : Sd) : sds [x] = scs x := by simp [sds]
theorem sds_cons (x : Sd) (l : List Sd) : sds (x :: l) = scs x ++ sds l := rfl
theorem sds_len (l : List Sd) : (sds l).length = l.length * 7 := by
  induction l with
  | nil => rfl
  | cons x l ih => rw [sds_cons, List.length_append, ih, List.length_cons]; simp [scs]; omega
theorem sds_cell (l : List Sd) : ∀ u ∈ sds l, u.oneCell' = true := by
  intro u hu
  unfold sds at hu
  obtain ⟨x, _, hx⟩ := List.mem_flatMap.1 hu
  unfold scs at hx
  simp at hx
  rcases hx with rfl | rfl | rfl | rfl | rfl | rfl | rfl <;> rfl
theorem sds_get (l : List Sd) (j : Nat) (h : j < l.length) (x : Nat) (hx : x < 7) : (sds l)[j * 7 + x]? = (scs l[j])[x]? := by
  induction l generalizing j with
  | nil => simp at h
  | cons r l ih =>
    have e7 : (scs r).length = 7 := rfl
    rw [sds_cons]
    cases j with
    | zero => rw [List.getElem?_append_left (by omega)]; simp
    | succ j =>
      rw [List.getElem?_append_right (by omega), e7, show (j + 1) * 7 + x - 7 = j * 7 + x by omega]
      exact ih j (by simpa using h)
theorem sds_setA (l : List Sd) (j A : Nat) : (sds l).set (j * 7 + 1) (.int .i64 (A : Int)) = sds (setA l j A) := by
  induction l generalizing j with
  | nil => simp [sds, setA]
  | cons r l ih =>
    cases j with
    | zero => rfl
    | succ j =>
      have e : setA (r :: l) (j + 1) A = r :: setA l j A := rfl
      rw [sds_cons, e, sds_cons, ← ih j, show (j + 1) * 7 + 1 = (j * 7 + 1) + 7 by omega]
      rfl
theorem sds_setB (l : List Sd) (j A : Nat) : (sds l).set (j * 7 + 2) (.int .i64 (A : Int)) = sds (setB l j A) := by
  induction l generalizing j with
  | nil => simp [sds, setB]
  | cons r l ih =>
    cases j with
    | zero => rfl
    | succ j =>
      have e : setB (r :: l) (j + 1) A = r :: setB l j A := rfl
      rw [sds_cons, e, sds_cons, ← ih j, show (j + 1) * 7 + 2 = (j * 7 + 2) + 7 by omega]
      rfl

/-- The states that a slice reads as: none, or those of a block. -/
def srd (w : World) (v : Value) (L : List Sd) : Prop := (v = .slice none 0 0 ∧ L = []) ∨ ∃ b c, v = .slice (some ⟨b, 0, none⟩) L.length c ∧ b < w.heap.size ∧ ∀ j u, (sds L)[j]? = some u → w.cell? ⟨b, j, none⟩ = some u
theorem srd.below {w w' : World} {v : Value} {L : List Sd} (h : srd w v L) (hb : Below w.heap.size w w') : srd w' v L := by
  rcases h with h | ⟨b, c, rfl, hl, hc⟩
  · exact .inl h
  · exact .inr ⟨b, c, rfl, Nat.lt_of_lt_of_le hl hb.size, fun j u hu => by rw [hb.cell (p := ⟨b, j, none⟩) hl]; exact hc j u hu⟩
end Go.Proofs.Ytefpoapbodbenaa

namespace Go.Proofs.Ytefpoapbodbenaa
open Go.RowKit

theorem wp_append_none9 {P : Program} {w : World} {o : Oper} {a : Act} {K : Act → World → Prop} {Q : Exit → Act → World → Prop} (s x : Operand) (t : TypeId)
    (ho : o.op = .call { callee := .builtin .append, args := #[s, x], argTypes := #[t, t] })
    (base : Nat) (e : TypeId) (i : TypeInfo) (size : Nat) (ht : P.underlying t = some (.slice e)) (hi : P.info? e = some i)
    (v : Value) (n : Nat) (xs : List Value) (hs : a.eval s = v) (hown : w.ownsRow base e size v n xs) (hx : a.eval x = .slice none 0 0)
    (h : K (a.put o.dst v) w) : o.wp P a w K Q := by
  have hrun := run_append_owned_none (P := P) (w := w) base t o.type e i size ht hi v n xs hown
  unfold Oper.wp
  simp [execOp, ho, resolve, invoke, builtin, hs, hx, hrun, Result.andThen]
  exact h
theorem srd.grown {w w' : World} {b c n : Nat} {L : List Sd} {r : Option Nat} (h : srd w (.slice (some ⟨b, 0, none⟩) n c) L) (hg : w.grownBy w' r) (hr : some b ≠ r) : srd w' (.slice (some ⟨b, 0, none⟩) n c) L := by
  rcases h with ⟨h, _⟩ | ⟨b', c', h, hl, hc⟩
  · cases h
  · simp only [Value.slice.injEq, Option.some.injEq, Addr.mk.injEq] at h
    obtain ⟨⟨rfl, -⟩, rfl, rfl⟩ := h
    exact .inr ⟨b, c, rfl, Nat.lt_of_lt_of_le hl hg.size, fun j u hu => hg.cell (hc j u hu) hr⟩
end Go.Proofs.Ytefpoapbodbenaa
