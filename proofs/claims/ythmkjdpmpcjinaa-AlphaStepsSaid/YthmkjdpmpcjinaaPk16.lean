/-
  A list that grows while it is gone over: where one comes at once. Plain facts.
  The states of a tree's part, made behind some, as lists: they are the page's. Plain facts.
-/
import Derived.Test.YthmkjdpmpcjinaaPk15
import Derived.Test.YthmkjdpmpcjinaaPk11
namespace Go.Proofs.Ythmkjdpmpcjinaa
open Go.RowKit

/-- What is put behind the list of what is met, if it isn't met yet. -/
def putW (A : List Nat) (x : Nat) : List Nat := if x ∈ A then A else A ++ [x]
def memW (A : List Nat) (x : Nat) : Bool := decide (x ∈ A)
theorem putW_in {A : List Nat} {x : Nat} (h : x ∈ A) : putW A x = A := by unfold putW; rw [if_pos h]
theorem putW_out {A : List Nat} {x : Nat} (h : ¬ x ∈ A) : putW A x = A ++ [x] := by unfold putW; rw [if_neg h]
theorem putW_mem {A : List Nat} {x q : Nat} : q ∈ putW A x ↔ q ∈ A ∨ q = x := by
  by_cases h : x ∈ A
  · rw [putW_in h]
    constructor
    · exact .inl
    · rintro (g | rfl)
      · exact g
      · exact h
  · rw [putW_out h]; simp
theorem memW_put {A : List Nat} {x : Nat} (h : ¬ x ∈ A) (j : Nat) : putT (memW A) x true j = memW (A ++ [x]) j := by
  unfold putT memW
  by_cases e : j = x
  · subst e; simp
  · rw [if_neg e]
    congr 1
    simp [e]
def okA9 (m : Nat) (A : List Nat) : Prop := A.Nodup ∧ ∀ x, x ∈ A → x < m
theorem okA_nil (m : Nat) : okA9 m [] := ⟨List.nodup_nil, fun _ h => by cases h⟩
theorem okA_put {m : Nat} {A : List Nat} {x : Nat} (h : okA9 m A) (hx : x < m) : okA9 m (putW A x) := by
  by_cases e : x ∈ A
  · rw [putW_in e]; exact h
  · rw [putW_out e]
    refine ⟨?_, ?_⟩
    · rw [List.nodup_append]
      refine ⟨h.1, by simp, ?_⟩
      intro a ha b hb
      have : b = x := by simpa using hb
      subst this
      exact fun e2 => e (e2 ▸ ha)
    · intro y hy
      rcases List.mem_append.1 hy with g | g
      · exact h.2 y g
      · have : y = x := by simpa using g
        omega
theorem putW_old {A : List Nat} {x i : Nat} (h : i < A.length) : (putW A x)[i]? = A[i]? := by
  by_cases e : x ∈ A
  · rw [putW_in e]
  · rw [putW_out e, List.getElem?_append_left h]
theorem putW_len {A : List Nat} {x : Nat} : A.length ≤ (putW A x).length := by
  by_cases e : x ∈ A
  · rw [putW_in e]; exact Nat.le_refl _
  · rw [putW_out e]; simp
/-- The same members, none twice: what is true, rising, is a permutation. -/
theorem okA_perm {m : Nat} {A : List Nat} (h : okA9 m A) : (trs (memW A) m).Perm A := by
  refine (List.perm_ext_iff_of_nodup ?_ h.1).2 fun q => ?_
  · exact List.Pairwise.filter _ List.nodup_range
  · unfold trs memW
    rw [List.mem_filter, List.mem_range]
    constructor
    · rintro ⟨_, h2⟩; simpa using h2
    · exact fun g => ⟨h.2 q g, by simpa using g⟩
theorem okA_len {m : Nat} {A : List Nat} (h : okA9 m A) : A.length = cntT (memW A) m := (okA_perm h).length_eq.symm
theorem okA_le {m : Nat} {A : List Nat} (h : okA9 m A) : A.length ≤ m := by rw [okA_len h]; exact cntT_le _ _
def ints9 (A : List Nat) : List Int := A.map fun x : Nat => (x : Int)
theorem sort9 {m : Nat} {A : List Nat} (h : okA9 m A) : (ints9 A).mergeSort (fun x y => decide (x ≤ y)) = ints9 (trs (memW A) m) := by
  have ht : ∀ a b c : Int, decide (a ≤ b) = true → decide (b ≤ c) = true → decide (a ≤ c) = true := fun a b c h1 h2 => by
    simp only [decide_eq_true_eq] at *; omega
  have hto : ∀ a b : Int, (decide (a ≤ b) || decide (b ≤ a)) = true := fun a b => by
    simp only [Bool.or_eq_true, decide_eq_true_eq]; omega
  refine List.Perm.eq_of_pairwise (le := fun x y : Int => x ≤ y) (fun a b _ _ h1 h2 => by omega) ?_ ?_ ?_
  · exact (List.pairwise_mergeSort ht hto _).imp fun h => by simpa using h
  · unfold ints9 trs
    rw [List.pairwise_map]
    refine (List.Pairwise.filter _ (List.pairwise_lt_range (n := m))).imp fun h => by omega
  · refine (List.mergeSort_perm _ _).trans ?_
    exact ((okA_perm h).map _).symm

/-- The list is gone over up to k: what it has is reached, and it has all that one step from the first k leads to. -/
def wInv (S : Nat → Sd) (sym : Int) (m : Nat) (P : Nat → Prop) (A : List Nat) (k : Nat) : Prop :=
  okA9 m A ∧ k ≤ A.length ∧ (∀ q, q ∈ A → Cl S sym P q) ∧ (∀ q, P q → q ∈ A) ∧ ∀ i, i < k → ∀ x, A[i]? = some x → ∀ q, ep S sym x q → q ∈ A
theorem wInv_start {S : Nat → Sd} {sym : Int} {m : Nat} {P : Nat → Prop} {A : List Nat} (h : okA9 m A) (hP : ∀ q, q ∈ A ↔ P q) : wInv S sym m P A 0 :=
  ⟨h, Nat.zero_le _, fun q hq => ⟨q, (hP q).1 hq, .refl _⟩, fun q hq => (hP q).2 hq, fun _ hi => absurd hi (Nat.not_lt_zero _)⟩
theorem wInv_next {S : Nat → Sd} {sym : Int} {m : Nat} {P : Nat → Prop} {A A' : List Nat} {k x : Nat} (h : wInv S sym m P A k) (hk : k < A.length) (hx : A[k]? = some x) (ho : okA9 m A') (hl : A.length ≤ A'.length)
    (hp : ∀ i, i < A.length → A'[i]? = A[i]?) (h1 : ∀ q, q ∈ A' → q ∈ A ∨ ep S sym x q) (h2 : ∀ q, ep S sym x q → q ∈ A') (h3 : ∀ q, q ∈ A → q ∈ A') : wInv S sym m P A' (k + 1) := by
  obtain ⟨g1, g2, g3, g4, g5⟩ := h
  refine ⟨ho, by omega, fun q hq => ?_, fun q hq => h3 q (g4 q hq), fun i hi y hy q hq => ?_⟩
  · rcases h1 q hq with h | h
    · exact g3 q h
    · obtain ⟨q0, k1, k2⟩ := g3 x (List.mem_of_getElem? hx)
      exact ⟨q0, k1, .tail k2 h⟩
  · rw [hp i (by omega)] at hy
    by_cases e : i = k
    · subst e
      rw [hx] at hy; cases hy
      exact h2 q hq
    · exact h3 q (g5 i (by omega) y hy q hq)
theorem wInv_none {S : Nat → Sd} {sym : Int} {m : Nat} {P : Nat → Prop} {A : List Nat} {k x : Nat} (h : wInv S sym m P A k) (hk : k < A.length) (hx : A[k]? = some x) (h3 : (S x).k ≠ 3) (hA : eA S sym x = false) : wInv S sym m P A (k + 1) := by
  have hn : ∀ q, ¬ ep S sym x q := by
    rintro q (⟨g, _⟩ | ⟨g, _⟩)
    · rw [eA_iff.2 g] at hA; cases hA
    · exact h3 g
  exact wInv_next h hk hx h.1 (Nat.le_refl _) (fun _ _ => rfl) (fun q hq => .inl hq) (fun q hq => absurd hq (hn q)) fun _ hq => hq
theorem wInv_one {S : Nat → Sd} {sym : Int} {m : Nat} {P : Nat → Prop} {A : List Nat} {k x a : Nat} (h : wInv S sym m P A k) (hk : k < A.length) (hx : A[k]? = some x) (h3 : (S x).k ≠ 3) (hA : eA S sym x = true) (ha : (S x).A = (a : Int)) (ham : a < m) : wInv S sym m P (putW A a) (k + 1) := by
  refine wInv_next h hk hx (okA_put h.1 ham) putW_len (fun _ hi => putW_old hi) (fun q hq => ?_) (fun q hq => ?_) fun q hq => putW_mem.2 (.inl hq)
  · rcases putW_mem.1 hq with g | rfl
    · exact .inl g
    · exact .inr (.inl ⟨eA_iff.1 hA, ha.symm⟩)
  · rcases hq with ⟨_, g⟩ | ⟨g, _⟩
    · exact putW_mem.2 (.inr (by omega))
    · exact absurd g h3
theorem wInv_two {S : Nat → Sd} {sym : Int} {m : Nat} {P : Nat → Prop} {A : List Nat} {k x a b : Nat} (h : wInv S sym m P A k) (hk : k < A.length) (hx : A[k]? = some x) (h3 : (S x).k = 3) (ha : (S x).A = (a : Int)) (hb : (S x).B = (b : Int)) (ham : a < m) (hbm : b < m) : wInv S sym m P (putW (putW A b) a) (k + 1) := by
  refine wInv_next h hk hx (okA_put (okA_put h.1 hbm) ham) (Nat.le_trans putW_len putW_len) (fun i hi => ?_) (fun q hq => ?_) (fun q hq => ?_) fun q hq => putW_mem.2 (.inl (putW_mem.2 (.inl hq)))
  · rw [putW_old (Nat.lt_of_lt_of_le hi putW_len), putW_old hi]
  · rcases putW_mem.1 hq with g | rfl
    · rcases putW_mem.1 g with g | rfl
      · exact .inl g
      · exact .inr (.inr ⟨h3, hb.symm⟩)
    · exact .inr (.inl ⟨.inr (.inl h3), ha.symm⟩)
  · rcases hq with ⟨_, g⟩ | ⟨_, g⟩
    · exact putW_mem.2 (.inr (by omega))
    · exact putW_mem.2 (.inl (putW_mem.2 (.inr (by omega))))
theorem wInv_end {S : Nat → Sd} {sym : Int} {m : Nat} {P : Nat → Prop} {A : List Nat} {k : Nat} (h : wInv S sym m P A k) (hk : A.length ≤ k) (q : Nat) : q ∈ A ↔ Cl S sym P q := by
  obtain ⟨g1, g2, g3, g4, g5⟩ := h
  refine ⟨g3 q, ?_⟩
  rintro ⟨q0, h0, hr⟩
  induction hr with
  | refl => exact g4 q0 h0
  | @tail q1 q2 _ he ih =>
    obtain ⟨i, hi⟩ := List.mem_iff_getElem?.1 ih
    have hil : i < A.length := by
      rcases Nat.lt_or_ge i A.length with h | h
      · exact h
      · rw [List.getElem?_eq_none h] at hi; cases hi
    exact g5 i (by omega) q1 hi q2 he
end Go.Proofs.Ythmkjdpmpcjinaa

namespace Go.Proofs.Ythmkjdpmpcjinaa

def sfn (L : List Sd) (j : Nat) : Sd := L.getD j (sE 0)
def setA (L : List Sd) (j A : Nat) : List Sd := L.modify j fun s => { s with A := (A : Int) }
def setB (L : List Sd) (j B : Nat) : List Sd := L.modify j fun s => { s with B := (B : Int) }
theorem setA_len (L : List Sd) (j A : Nat) : (setA L j A).length = L.length := List.length_modify ..
theorem setB_len (L : List Sd) (j B : Nat) : (setB L j B).length = L.length := List.length_modify ..
theorem sfn_lt {L : List Sd} {j : Nat} (h : j < L.length) : sfn L j = L[j] := by unfold sfn; rw [List.getD_eq_getElem?_getD, List.getElem?_eq_getElem h]; rfl
theorem setA_at {L : List Sd} {j A : Nat} (h : j < L.length) : sfn (setA L j A) j = { sfn L j with A := (A : Int) } := by
  unfold sfn setA
  rw [List.getD_eq_getElem?_getD, List.getElem?_modify, List.getD_eq_getElem?_getD, List.getElem?_eq_getElem h]
  simp
theorem setA_ne {L : List Sd} {j A q : Nat} (h : q ≠ j) : sfn (setA L j A) q = sfn L q := by
  unfold sfn setA
  rw [List.getD_eq_getElem?_getD, List.getElem?_modify, List.getD_eq_getElem?_getD]
  simp [Ne.symm h]
theorem setB_at {L : List Sd} {j A : Nat} (h : j < L.length) : sfn (setB L j A) j = { sfn L j with B := (A : Int) } := by
  unfold sfn setB
  rw [List.getD_eq_getElem?_getD, List.getElem?_modify, List.getD_eq_getElem?_getD, List.getElem?_eq_getElem h]
  simp
theorem setB_ne {L : List Sd} {j A q : Nat} (h : q ≠ j) : sfn (setB L j A) q = sfn L q := by
  unfold sfn setB
  rw [List.getD_eq_getElem?_getD, List.getElem?_modify, List.getD_eq_getElem?_getD]
  simp [Ne.symm h]
theorem sfn_old {L : List Sd} {x : Sd} {q : Nat} (h : q < L.length) : sfn (L ++ [x]) q = sfn L q := by
  unfold sfn
  rw [List.getD_eq_getElem?_getD, List.getD_eq_getElem?_getD, List.getElem?_append_left h]
theorem sfn_new {L : List Sd} {x : Sd} {q : Nat} (h : q = L.length) : sfn (L ++ [x]) q = x := by
  subst h
  unfold sfn
  rw [List.getD_eq_getElem?_getD, List.getElem?_append_right (Nat.le_refl _)]
  simp
theorem setA_E {L : List Sd} {j A : Nat} (h : j < L.length) (hs : sfn L j = sE 0) : sfn (setA L j A) j = sE A := by rw [setA_at h, hs]; rfl
theorem setA_EE {L : List Sd} {j A B : Nat} (h : j < L.length) (hs : sfn L j = sE A) : sfn (setA L j B) j = sE B := by rw [setA_at h, hs]; rfl
theorem setB_S {L : List Sd} {j A B : Nat} (h : j < L.length) (hs : sfn L j = sS A 0) : sfn (setB L j B) j = sS A B := by rw [setB_at h, hs]; rfl

/-- Some copies, one behind the other: the states, and what is ahead. -/
def cpL (mk : List Sd → List Sd × Nat × Nat) : Nat → List Sd → Nat → List Sd × Nat
  | 0, L, ah => (L, ah)
  | m + 1, L, ah => cpL mk m (setA (mk L).1 ah (mk L).2.1) (mk L).2.2
/-- Some copies that may be left out: the states, what is ahead, the splits. -/
def opL (mk : List Sd → List Sd × Nat × Nat) : Nat → List Sd → Nat → List Sd × Nat × List Nat
  | 0, L, ah => (L, ah, [])
  | m + 1, L, ah =>
    let r := opL mk m (setA ((mk L).1 ++ [sS (mk L).2.1 0]) ah (mk L).1.length) (mk L).2.2
    (r.1, r.2.1, (mk L).1.length :: r.2.2)
def bsL (last : Nat) : List Sd → List Nat → List Sd
  | L, [] => L
  | L, s :: sp => bsL last (setB L s last) sp
def edL9 (inf : Bool) (r : List Sd × Nat × List Nat) : List Sd × Nat :=
  let U := setA (r.1 ++ [sE 0]) r.2.1 r.1.length
  let V := if inf then setA U r.2.1 (r.2.2.headD 0) else U
  (bsL r.1.length V r.2.2, r.1.length)
def leafS (x : Nd) (A : Nat) : Sd := ⟨skd x.k, x.a, x.b, x.c, x.d, A, 0⟩
/-- What is made of a tree's part, behind some states: all states, its first and its last one. -/
def mkF : Tr → List Sd → List Sd × Nat × Nat
  | .leaf x, L => (L ++ [leafS x (L.length + 1)] ++ [sE 0], L.length, L.length + 1)
  | .cat a b, L => (setA (mkF b (mkF a L).1).1 (mkF a L).2.2 (mkF b (mkF a L).1).2.1, (mkF a L).2.1, (mkF b (mkF a L).1).2.2)
  | .or a b, L =>
    let x := mkF a L
    let y := mkF b x.1
    (setA (setA (y.1 ++ [sS x.2.1 y.2.1] ++ [sE 0]) x.2.2 (y.1.length + 1)) y.2.2 (y.1.length + 1), y.1.length, y.1.length + 1)
  | .rep a lo hi, L =>
    let p := cpL (mkF a) lo.toNat (L ++ [sE 0]) L.length
    let r := edL9 (hi == -1) (opL (mkF a) (if hi = -1 then 1 else (hi - lo).toNat) p.1 p.2)
    (r.1, L.length, r.2)

/-- A part stands where its states stand. -/
def samP (S S' : Nat → Sd) (P P' : Nat → Nat → Nat → Prop) (sz : Nat) : Prop := ∀ b f l, (∀ q, b ≤ q → q < b + sz → q ≠ l → S q = S' q) → P b f l → P' b f l
theorem cps_same {S S' : Nat → Sd} {P P' : Nat → Nat → Nat → Prop} {sz : Nat} (hP : inP P sz) (hs : samP S S' P P' sz) : ∀ {m base ah b1 a1}, ah < base → (∀ q, (q = ah ∨ (base ≤ q ∧ q < b1)) → q ≠ a1 → S q = S' q) → cps S P sz m base ah b1 a1 → cps S' P' sz m base ah b1 a1
  | 0, _, _, _, _, _, _, h => h
  | m + 1, base, ah, b1, a1, hlt, hq, ⟨f, l, h1, h2, h3⟩ => by
    obtain ⟨k1, k2, k3, k4, k5⟩ := hP _ _ _ h2
    obtain ⟨g1, g2⟩ := cps_bd hP h3
    have hb1 : base + sz ≤ b1 := by omega
    refine ⟨f, l, ?_, hs _ _ _ (fun q q1 q2 q3 => hq q (.inr ⟨q1, by omega⟩) (by rcases g2 with ⟨_, rfl⟩ | g2 <;> omega)) h2, cps_same hP hs (by omega) (fun q hq' hne => hq q (.inr (by rcases hq' with rfl | hq' <;> omega)) hne) h3⟩
    rw [← hq ah (.inl rfl) (by rcases g2 with ⟨_, rfl⟩ | g2 <;> omega)]
    exact h1
theorem opts_same {S S' : Nat → Sd} {P P' : Nat → Nat → Nat → Prop} {sz : Nat} (hP : inP P sz) (hs : samP S S' P P' sz) : ∀ {m base ah L}, (∀ q, (q = ah ∨ (base ≤ q ∧ q < L)) → S q = S' q) → opts S P sz m base ah L → opts S' P' sz m base ah L
  | 0, _, ah, _, hq, ⟨h1, h2⟩ => ⟨h1, by rw [← hq ah (.inl rfl)]; exact h2⟩
  | m + 1, base, ah, L, hq, ⟨f, l, h1, h2, h3, h4⟩ => by
    obtain ⟨k1, k2, k3, k4, k5⟩ := hP _ _ _ h1
    have g := opts_bd h4
    refine ⟨f, l, hs _ _ _ (fun q q1 q2 _ => hq q (.inr ⟨q1, by omega⟩)) h1, ?_, ?_, opts_same hP hs (fun q hq' => hq q (.inr (by rcases hq' with rfl | hq' <;> omega))) h4⟩
    · rw [← hq _ (.inr ⟨by omega, by omega⟩)]; exact h2
    · rw [← hq ah (.inl rfl)]; exact h3
theorem again_same {S S' : Nat → Sd} {P P' : Nat → Nat → Nat → Prop} {sz : Nat} (hP : inP P sz) (hs : samP S S' P P' sz) {base ah L : Nat} (hq : ∀ q, (q = ah ∨ (base ≤ q ∧ q < L)) → S q = S' q) (h : again9 S P sz base ah L) : again9 S' P' sz base ah L := by
  obtain ⟨f, l, h1, h2, h3, h4, h5⟩ := h
  obtain ⟨k1, k2, k3, k4, k5⟩ := hP _ _ _ h1
  exact ⟨f, l, hs _ _ _ (fun q q1 q2 _ => hq q (.inr ⟨q1, by omega⟩)) h1, by rw [← hq _ (.inr ⟨by omega, by omega⟩)]; exact h2, by rw [← hq ah (.inl rfl)]; exact h3, by rw [← hq _ (.inr ⟨by omega, by omega⟩)]; exact h4, h5⟩
theorem fr_same {S S' : Nat → Sd} : ∀ t, samP S S' (isFr S t) (isFr S' t) (nst t)
  | .leaf x, b, f, l, hq, ⟨h1, h2, h3⟩ => ⟨h1, h2, by rw [← hq f (by omega) (by show _ < b + 2; omega) (by omega)]; exact h3⟩
  | .cat x y, b, f, l, hq, ⟨la, fb, h1, h2, h3⟩ => by
    have g1 := fr_bd S x _ _ _ h1
    have g2 := fr_bd S y _ _ _ h2
    have hq : ∀ q, b ≤ q → q < b + (nst x + nst y) → q ≠ l → S q = S' q := hq
    exact ⟨la, fb, fr_same x _ _ _ (fun q q1 q2 q3 => hq q q1 (by omega) (by omega)) h1, fr_same y _ _ _ (fun q q1 q2 q3 => hq q (by omega) (by omega) q3) h2, by rw [← hq la (by omega) (by omega) (by omega)]; exact h3⟩
  | .or x y, b, f, l, hq, ⟨fa, la, fb, lb, h1, h2, h3, h4, h5, h6, h7⟩ => by
    have g1 := fr_bd S x _ _ _ h1
    have g2 := fr_bd S y _ _ _ h2
    have hq : ∀ q, b ≤ q → q < b + (nst x + nst y + 2) → q ≠ l → S q = S' q := hq
    exact ⟨fa, la, fb, lb, fr_same x _ _ _ (fun q q1 q2 q3 => hq q q1 (by omega) (by omega)) h1, fr_same y _ _ _ (fun q q1 q2 q3 => hq q (by omega) (by omega) (by omega)) h2, h3, h4,
      by rw [← hq f (by omega) (by omega) (by omega)]; exact h5, by rw [← hq la (by omega) (by omega) (by omega)]; exact h6, by rw [← hq lb (by omega) (by omega) (by omega)]; exact h7⟩
  | .rep x lo hi, b, f, l, hq, ⟨h1, base', ah, h2, h3⟩ => by
    have hP := fr_bd S x
    obtain ⟨g1, g2⟩ := cps_bd hP h2
    have hl : b + 1 ≤ base' ∧ base' ≤ l ∧ l < b + nst (.rep x lo hi) := by
      refine ⟨by omega, ?_, ?_⟩
      · by_cases hh : hi = -1
        · rw [if_pos hh] at h3; obtain ⟨_, _, _, _, _, _, h8⟩ := h3; omega
        · rw [if_neg hh] at h3; have := opts_bd h3; omega
      · show _ < b + (2 + lo.toNat * nst x + _)
        by_cases hh : hi = -1
        · rw [if_pos hh] at h3 ⊢; obtain ⟨_, _, _, _, _, _, h8⟩ := h3; omega
        · rw [if_neg hh] at h3 ⊢; have := opts_bd h3; omega
    have hS : ∀ q, b ≤ q → q < l → S q = S' q := fun q q1 q2 => hq q q1 (by omega) (by omega)
    refine ⟨h1, base', ah, cps_same hP (fr_same x) (by omega) (fun q q1 q2 => hS q (by omega) (by omega)) h2, ?_⟩
    by_cases hh : hi = -1
    · rw [if_pos hh] at h3 ⊢
      exact again_same hP (fr_same x) (fun q q1 => hS q (by omega) (by rcases q1 with rfl | q1 <;> first | omega | (obtain ⟨_, _, _, _, _, _, h8⟩ := h3; omega))) h3
    · rw [if_neg hh] at h3 ⊢
      have hbd := opts_bd h3
      by_cases hl' : ah < l
      · exact opts_same hP (fr_same x) (fun q q1 => hS q (by omega) (by omega)) h3
      · omega
end Go.Proofs.Ythmkjdpmpcjinaa
