/-
  The states of a tree's part, made behind some, as lists: they are the page's. Plain facts.
  Rows of states in memory, as lists.
  The walk of the ninth reference's put.
  What is made of a tree's part is that part's states, as the page has them. Plain facts.
-/
import Derived.Test.YtpfbmbegddemoaaPk8
import Derived.Test.YtpfbmbegddemoaaPk9
import Derived.Laws.AppendOwnNone
namespace Go.Proofs.Ytpfbmbegddemoaa

def sfn (L : List Sd) (j : Nat) : Sd := L.getD j (sE 0)
def setA (L : List Sd) (j A : Nat) : List Sd := L.modify j fun s => { s with A := (A : Int) }
def setB (L : List Sd) (j B : Nat) : List Sd := L.modify j fun s => { s with B := (B : Int) }
theorem setA_len (L : List Sd) (j A : Nat) : (setA L j A).length = L.length := List.length_modify ..
theorem setB_len (L : List Sd) (j B : Nat) : (setB L j B).length = L.length := List.length_modify ..
theorem sfn_lt {L : List Sd} {j : Nat} (h : j < L.length) : sfn L j = L[j] := by unfold sfn; rw [List.getD_eq_getElem?_getD, List.getElem?_eq_getElem h]; rfl
theorem setA_at {L : List Sd} {j A : Nat} (h : j < L.length) : sfn (setA L j A) j = { sfn L j with A := (A : Int) } := by
  unfold sfn setA
  rw [List.getD_eq_getElem?_getD, List.getElem?_modify, List.getD_eq_getElem?_getD, List.getElem?_eq_getElem h]
  simp
theorem setA_ne {L : List Sd} {j A q : Nat} (h : q ≠ j) : sfn (setA L j A) q = sfn L q := by
  unfold sfn setA
  rw [List.getD_eq_getElem?_getD, List.getElem?_modify, List.getD_eq_getElem?_getD]
  simp [Ne.symm h]
theorem setB_at {L : List Sd} {j A : Nat} (h : j < L.length) : sfn (setB L j A) j = { sfn L j with B := (A : Int) } := by
  unfold sfn setB
  rw [List.getD_eq_getElem?_getD, List.getElem?_modify, List.getD_eq_getElem?_getD, List.getElem?_eq_getElem h]
  simp
theorem setB_ne {L : List Sd} {j A q : Nat} (h : q ≠ j) : sfn (setB L j A) q = sfn L q := by
  unfold sfn setB
  rw [List.getD_eq_getElem?_getD, List.getElem?_modify, List.getD_eq_getElem?_getD]
  simp [Ne.symm h]
theorem sfn_old {L : List Sd} {x : Sd} {q : Nat} (h : q < L.length) : sfn (L ++ [x]) q = sfn L q := by
  unfold sfn
  rw [List.getD_eq_getElem?_getD, List.getD_eq_getElem?_getD, List.getElem?_append_left h]
theorem sfn_new {L : List Sd} {x : Sd} {q : Nat} (h : q = L.length) : sfn (L ++ [x]) q = x := by
  subst h
  unfold sfn
  rw [List.getD_eq_getElem?_getD, List.getElem?_append_right (Nat.le_refl _)]
  simp
theorem setA_E {L : List Sd} {j A : Nat} (h : j < L.length) (hs : sfn L j = sE 0) : sfn (setA L j A) j = sE A := by rw [setA_at h, hs]; rfl
theorem setA_EE {L : List Sd} {j A B : Nat} (h : j < L.length) (hs : sfn L j = sE A) : sfn (setA L j B) j = sE B := by rw [setA_at h, hs]; rfl
theorem setB_S {L : List Sd} {j A B : Nat} (h : j < L.length) (hs : sfn L j = sS A 0) : sfn (setB L j B) j = sS A B := by rw [setB_at h, hs]; rfl

/-- Some copies, one behind the other: the states, and what is ahead. -/
def cpL (mk : List Sd → List Sd × Nat × Nat) : Nat → List Sd → Nat → List Sd × Nat
  | 0, L, ah => (L, ah)
  | m + 1, L, ah => cpL mk m (setA (mk L).1 ah (mk L).2.1) (mk L).2.2
/-- Some copies that may be left out: the states, what is ahead, the splits. -/
def opL (mk : List Sd → List Sd × Nat × Nat) : Nat → List Sd → Nat → List Sd × Nat × List Nat
  | 0, L, ah => (L, ah, [])
  | m + 1, L, ah =>
    let r := opL mk m (setA ((mk L).1 ++ [sS (mk L).2.1 0]) ah (mk L).1.length) (mk L).2.2
    (r.1, r.2.1, (mk L).1.length :: r.2.2)
def bsL (last : Nat) : List Sd → List Nat → List Sd
  | L, [] => L
  | L, s :: sp => bsL last (setB L s last) sp
def edL9 (inf : Bool) (r : List Sd × Nat × List Nat) : List Sd × Nat :=
  let U := setA (r.1 ++ [sE 0]) r.2.1 r.1.length
  let V := if inf then setA U r.2.1 (r.2.2.headD 0) else U
  (bsL r.1.length V r.2.2, r.1.length)
def leafS (x : Nd) (A : Nat) : Sd := ⟨skd x.k, x.a, x.b, x.c, x.d, A, 0⟩
/-- What is made of a tree's part, behind some states: all states, its first and its last one. -/
def mkF : Tr → List Sd → List Sd × Nat × Nat
  | .leaf x, L => (L ++ [leafS x (L.length + 1)] ++ [sE 0], L.length, L.length + 1)
  | .cat a b, L => (setA (mkF b (mkF a L).1).1 (mkF a L).2.2 (mkF b (mkF a L).1).2.1, (mkF a L).2.1, (mkF b (mkF a L).1).2.2)
  | .or a b, L =>
    let x := mkF a L
    let y := mkF b x.1
    (setA (setA (y.1 ++ [sS x.2.1 y.2.1] ++ [sE 0]) x.2.2 (y.1.length + 1)) y.2.2 (y.1.length + 1), y.1.length, y.1.length + 1)
  | .rep a lo hi, L =>
    let p := cpL (mkF a) lo.toNat (L ++ [sE 0]) L.length
    let r := edL9 (hi == -1) (opL (mkF a) (if hi = -1 then 1 else (hi - lo).toNat) p.1 p.2)
    (r.1, L.length, r.2)

/-- A part stands where its states stand. -/
def samP (S S' : Nat → Sd) (P P' : Nat → Nat → Nat → Prop) (sz : Nat) : Prop := ∀ b f l, (∀ q, b ≤ q → q < b + sz → q ≠ l → S q = S' q) → P b f l → P' b f l
theorem cps_same {S S' : Nat → Sd} {P P' : Nat → Nat → Nat → Prop} {sz : Nat} (hP : inP P sz) (hs : samP S S' P P' sz) : ∀ {m base ah b1 a1}, ah < base → (∀ q, (q = ah ∨ (base ≤ q ∧ q < b1)) → q ≠ a1 → S q = S' q) → cps S P sz m base ah b1 a1 → cps S' P' sz m base ah b1 a1
  | 0, _, _, _, _, _, _, h => h
  | m + 1, base, ah, b1, a1, hlt, hq, ⟨f, l, h1, h2, h3⟩ => by
    obtain ⟨k1, k2, k3, k4, k5⟩ := hP _ _ _ h2
    obtain ⟨g1, g2⟩ := cps_bd hP h3
    have hb1 : base + sz ≤ b1 := by omega
    refine ⟨f, l, ?_, hs _ _ _ (fun q q1 q2 q3 => hq q (.inr ⟨q1, by omega⟩) (by rcases g2 with ⟨_, rfl⟩ | g2 <;> omega)) h2, cps_same hP hs (by omega) (fun q hq' hne => hq q (.inr (by rcases hq' with rfl | hq' <;> omega)) hne) h3⟩
    rw [← hq ah (.inl rfl) (by rcases g2 with ⟨_, rfl⟩ | g2 <;> omega)]
    exact h1
theorem opts_same {S S' : Nat → Sd} {P P' : Nat → Nat → Nat → Prop} {sz : Nat} (hP : inP P sz) (hs : samP S S' P P' sz) : ∀ {m base ah L}, (∀ q, (q = ah ∨ (base ≤ q ∧ q < L)) → S q = S' q) → opts S P sz m base ah L → opts S' P' sz m base ah L
  | 0, _, ah, _, hq, ⟨h1, h2⟩ => ⟨h1, by rw [← hq ah (.inl rfl)]; exact h2⟩
  | m + 1, base, ah, L, hq, ⟨f, l, h1, h2, h3, h4⟩ => by
    obtain ⟨k1, k2, k3, k4, k5⟩ := hP _ _ _ h1
    have g := opts_bd h4
    refine ⟨f, l, hs _ _ _ (fun q q1 q2 _ => hq q (.inr ⟨q1, by omega⟩)) h1, ?_, ?_, opts_same hP hs (fun q hq' => hq q (.inr (by rcases hq' with rfl | hq' <;> omega))) h4⟩
    · rw [← hq _ (.inr ⟨by omega, by omega⟩)]; exact h2
    · rw [← hq ah (.inl rfl)]; exact h3
theorem again_same {S S' : Nat → Sd} {P P' : Nat → Nat → Nat → Prop} {sz : Nat} (hP : inP P sz) (hs : samP S S' P P' sz) {base ah L : Nat} (hq : ∀ q, (q = ah ∨ (base ≤ q ∧ q < L)) → S q = S' q) (h : again9 S P sz base ah L) : again9 S' P' sz base ah L := by
  obtain ⟨f, l, h1, h2, h3, h4, h5⟩ := h
  obtain ⟨k1, k2, k3, k4, k5⟩ := hP _ _ _ h1
  exact ⟨f, l, hs _ _ _ (fun q q1 q2 _ => hq q (.inr ⟨q1, by omega⟩)) h1, by rw [← hq _ (.inr ⟨by omega, by omega⟩)]; exact h2, by rw [← hq ah (.inl rfl)]; exact h3, by rw [← hq _ (.inr ⟨by omega, by omega⟩)]; exact h4, h5⟩
theorem fr_same {S S' : Nat → Sd} : ∀ t, samP S S' (isFr S t) (isFr S' t) (nst t)
  | .leaf x, b, f, l, hq, ⟨h1, h2, h3⟩ => ⟨h1, h2, by rw [← hq f (by omega) (by show _ < b + 2; omega) (by omega)]; exact h3⟩
  | .cat x y, b, f, l, hq, ⟨la, fb, h1, h2, h3⟩ => by
    have g1 := fr_bd S x _ _ _ h1
    have g2 := fr_bd S y _ _ _ h2
    have hq : ∀ q, b ≤ q → q < b + (nst x + nst y) → q ≠ l → S q = S' q := hq
    exact ⟨la, fb, fr_same x _ _ _ (fun q q1 q2 q3 => hq q q1 (by omega) (by omega)) h1, fr_same y _ _ _ (fun q q1 q2 q3 => hq q (by omega) (by omega) q3) h2, by rw [← hq la (by omega) (by omega) (by omega)]; exact h3⟩
  | .or x y, b, f, l, hq, ⟨fa, la, fb, lb, h1, h2, h3, h4, h5, h6, h7⟩ => by
    have g1 := fr_bd S x _ _ _ h1
    have g2 := fr_bd S y _ _ _ h2
    have hq : ∀ q, b ≤ q → q < b + (nst x + nst y + 2) → q ≠ l → S q = S' q := hq
    exact ⟨fa, la, fb, lb, fr_same x _ _ _ (fun q q1 q2 q3 => hq q q1 (by omega) (by omega)) h1, fr_same y _ _ _ (fun q q1 q2 q3 => hq q (by omega) (by omega) (by omega)) h2, h3, h4,
      by rw [← hq f (by omega) (by omega) (by omega)]; exact h5, by rw [← hq la (by omega) (by omega) (by omega)]; exact h6, by rw [← hq lb (by omega) (by omega) (by omega)]; exact h7⟩
  | .rep x lo hi, b, f, l, hq, ⟨h1, base', ah, h2, h3⟩ => by
    have hP := fr_bd S x
    obtain ⟨g1, g2⟩ := cps_bd hP h2
    have hl : b + 1 ≤ base' ∧ base' ≤ l ∧ l < b + nst (.rep x lo hi) := by
      refine ⟨by omega, ?_, ?_⟩
      · by_cases hh : hi = -1
        · rw [if_pos hh] at h3; obtain ⟨_, _, _, _, _, _, h8⟩ := h3; omega
        · rw [if_neg hh] at h3; have := opts_bd h3; omega
      · show _ < b + (2 + lo.toNat * nst x + _)
        by_cases hh : hi = -1
        · rw [if_pos hh] at h3 ⊢; obtain ⟨_, _, _, _, _, _, h8⟩ := h3; omega
        · rw [if_neg hh] at h3 ⊢; have := opts_bd h3; omega
    have hS : ∀ q, b ≤ q → q < l → S q = S' q := fun q q1 q2 => hq q q1 (by omega) (by omega)
    refine ⟨h1, base', ah, cps_same hP (fr_same x) (by omega) (fun q q1 q2 => hS q (by omega) (by omega)) h2, ?_⟩
    by_cases hh : hi = -1
    · rw [if_pos hh] at h3 ⊢
      exact again_same hP (fr_same x) (fun q q1 => hS q (by omega) (by rcases q1 with rfl | q1 <;> first | omega | (obtain ⟨_, _, _, _, _, _, h8⟩ := h3; omega))) h3
    · rw [if_neg hh] at h3 ⊢
      have hbd := opts_bd h3
      by_cases hl' : ah < l
      · exact opts_same hP (fr_same x) (fun q q1 => hS q (by omega) (by omega)) h3
      · omega
end Go.Proofs.Ytpfbmbegddemoaa

namespace Go.Proofs.Ytpfbmbegddemoaa
open Go.RowKit

def scs (x : Sd) : List Value := [.int .i64 x.k, .int .i64 x.A, .int .i64 x.B, .int .u64 x.a, .int .u64 x.b, .int .u64 x.c, .int .u64 x.d]
def sds (l : List Sd) : List Value := l.flatMap scs
theorem sds_append (l r : List Sd) : sds (l ++ r) = sds l ++ sds r := by simp [sds]
theorem sds_one (x : Sd) : sds [x] = scs x := by simp [sds]
theorem sds_cons (x : Sd) (l : List Sd) : sds (x :: l) = scs x ++ sds l := rfl
theorem sds_len (l : List Sd) : (sds l).length = l.length * 7 := by
  induction l with
  | nil => rfl
  | cons x l ih => rw [sds_cons, List.length_append, ih, List.length_cons]; simp [scs]; omega
theorem sds_cell (l : List Sd) : ∀ u ∈ sds l, u.oneCell' = true := by
  intro u hu
  unfold sds at hu
  obtain ⟨x, _, hx⟩ := List.mem_flatMap.1 hu
  unfold scs at hx
  simp at hx
  rcases hx with rfl | rfl | rfl | rfl | rfl | rfl | rfl <;> rfl
theorem sds_get (l : List Sd) (j : Nat) (h : j < l.length) (x : Nat) (hx : x < 7) : (sds l)[j * 7 + x]? = (scs l[j])[x]? := by
  induction l generalizing j with
  | nil => simp at h
  | cons r l ih =>
    have e7 : (scs r).length = 7 := rfl
    rw [sds_cons]
    cases j with
    | zero => rw [List.getElem?_append_left (by omega)]; simp
    | succ j =>
      rw [List.getElem?_append_right (by omega), e7, show (j + 1) * 7 + x - 7 = j * 7 + x by omega]
      exact ih j (by simpa using h)
theorem sds_setA (l : List Sd) (j A : Nat) : (sds l).set (j * 7 + 1) (.int .i64 (A : Int)) = sds (setA l j A) := by
  induction l generalizing j with
  | nil => simp [sds, setA]
  | cons r l ih =>
    cases j with
    | zero => rfl
    | succ j =>
      have e : setA (r :: l) (j + 1) A = r :: setA l j A := rfl
      rw [sds_cons, e, sds_cons, ← ih j, show (j + 1) * 7 + 1 = (j * 7 + 1) + 7 by omega]
      rfl
theorem sds_setB (l : List Sd) (j A : Nat) : (sds l).set (j * 7 + 2) (.int .i64 (A : Int)) = sds (setB l j A) := by
  induction l generalizing j with
  | nil => simp [sds, setB]
  | cons r l ih =>
    cases j with
    | zero => rfl
    | succ j =>
      have e : setB (r :: l) (j + 1) A = r :: setB l j A := rfl
      rw [sds_cons, e, sds_cons, ← ih j, show (j + 1) * 7 + 2 = (j * 7 + 2) + 7 by omega]
      rfl

/-- The states that a slice reads as: none, or those of a block. -/
def srd (w : World) (v : Value) (L : List Sd) : Prop := (v = .slice none 0 0 ∧ L = []) ∨ ∃ b c, v = .slice (some ⟨b, 0, none⟩) L.length c ∧ b < w.heap.size ∧ ∀ j u, (sds L)[j]? = some u → w.cell? ⟨b, j, none⟩ = some u
theorem srd.below {w w' : World} {v : Value} {L : List Sd} (h : srd w v L) (hb : Below w.heap.size w w') : srd w' v L := by
  rcases h with h | ⟨b, c, rfl, hl, hc⟩
  · exact .inl h
  · exact .inr ⟨b, c, rfl, Nat.lt_of_lt_of_le hl hb.size, fun j u hu => by rw [hb.cell (p := ⟨b, j, none⟩) hl]; exact hc j u hu⟩
end Go.Proofs.Ytpfbmbegddemoaa

namespace Go.Proofs.Ytpfbmbegddemoaa
open Go.RowKit

theorem wp_append_none9 {P : Program} {w : World} {o : Oper} {a : Act} {K : Act → World → Prop} {Q : Exit → Act → World → Prop} (s x : Operand) (t : TypeId)
    (ho : o.op = .call { callee := .builtin .append, args := #[s, x], argTypes := #[t, t] })
    (base : Nat) (e : TypeId) (i : TypeInfo) (size : Nat) (ht : P.underlying t = some (.slice e)) (hi : P.info? e = some i)
    (v : Value) (n : Nat) (xs : List Value) (hs : a.eval s = v) (hown : w.ownsRow base e size v n xs) (hx : a.eval x = .slice none 0 0)
    (h : K (a.put o.dst v) w) : o.wp P a w K Q := by
  have hrun := run_append_owned_none (P := P) (w := w) base t o.type e i size ht hi v n xs hown
  unfold Oper.wp
  simp [execOp, ho, resolve, invoke, builtin, hs, hx, hrun, Result.andThen]
  exact h
theorem srd.grown {w w' : World} {b c n : Nat} {L : List Sd} {r : Option Nat} (h : srd w (.slice (some ⟨b, 0, none⟩) n c) L) (hg : w.grownBy w' r) (hr : some b ≠ r) : srd w' (.slice (some ⟨b, 0, none⟩) n c) L := by
  rcases h with ⟨h, _⟩ | ⟨b', c', h, hl, hc⟩
  · cases h
  · simp only [Value.slice.injEq, Option.some.injEq, Addr.mk.injEq] at h
    obtain ⟨⟨rfl, -⟩, rfl, rfl⟩ := h
    exact .inr ⟨b, c, rfl, Nat.lt_of_lt_of_le hl hg.size, fun j u hu => hg.cell (hc j u hu) hr⟩
end Go.Proofs.Ytpfbmbegddemoaa

namespace Go.Proofs.Ytpfbmbegddemoaa

def mkOK (P : (Nat → Sd) → Nat → Nat → Nat → Prop) (sz : Nat) (mk : List Sd → List Sd × Nat × Nat) : Prop := ∀ L, (mk L).1.length = L.length + sz ∧ (∀ q, q < L.length → sfn (mk L).1 q = sfn L q) ∧
  P (sfn (mk L).1) L.length (mk L).2.1 (mk L).2.2 ∧ sfn (mk L).1 (mk L).2.2 = sE 0
section
variable {P : (Nat → Sd) → Nat → Nat → Nat → Prop} {sz : Nat} {mk : List Sd → List Sd × Nat × Nat}
theorem cp_ok (hP : ∀ S, inP (P S) sz) (hs : ∀ S S', samP S S' (P S) (P S') sz) (hm : mkOK P sz mk) : ∀ m L ah, ah < L.length → sfn L ah = sE 0 →
    (cpL mk m L ah).1.length = L.length + m * sz ∧ (∀ q, q < L.length → q ≠ ah → sfn (cpL mk m L ah).1 q = sfn L q) ∧ sfn (cpL mk m L ah).1 (cpL mk m L ah).2 = sE 0 ∧ (cpL mk m L ah).2 < (cpL mk m L ah).1.length ∧
      ((m = 0 ∧ (cpL mk m L ah).2 = ah) ∨ L.length ≤ (cpL mk m L ah).2) ∧ cps (sfn (cpL mk m L ah).1) (P (sfn (cpL mk m L ah).1)) sz m L.length ah (cpL mk m L ah).1.length (cpL mk m L ah).2
  | 0, L, ah, h1, h2 => ⟨by rw [Nat.zero_mul]; rfl, fun _ _ _ => rfl, h2, h1, .inl ⟨rfl, rfl⟩, rfl, rfl⟩
  | m + 1, L, ah, h1, h2 => by
    obtain ⟨e1, e2, e3, e4⟩ := hm L
    obtain ⟨k1, k2, k3, k4, k5⟩ := hP _ _ _ _ e3
    show _ ∧ _
    have eL : cpL mk (m + 1) L ah = cpL mk m (setA (mk L).1 ah (mk L).2.1) (mk L).2.2 := rfl
    rw [eL]
    have hl : (setA (mk L).1 ah (mk L).2.1).length = L.length + sz := by rw [setA_len, e1]
    obtain ⟨i1, i2, i3, i4, i5, i6⟩ := cp_ok hP hs hm m (setA (mk L).1 ah (mk L).2.1) (mk L).2.2 (by omega) (by rw [setA_ne (by omega)]; exact e4)
    generalize cpL mk m (setA (mk L).1 ah (mk L).2.1) (mk L).2.2 = R at *
    rw [hl] at i1 i2 i5 i6
    have em : (m + 1) * sz = m * sz + sz := Nat.succ_mul m sz
    have hold : ∀ q, q < L.length + sz → q ≠ (mk L).2.2 → q ≠ ah → sfn R.1 q = sfn (mk L).1 q := fun q q1 q2 q3 => by rw [i2 q q1 q2, setA_ne q3]
    refine ⟨by omega, fun q q1 q2 => by rw [hold q (by omega) (by omega) q2]; exact e2 q q1, i3, i4, .inr (by omega), (mk L).2.1, (mk L).2.2, ?_, ?_, i6⟩
    · rw [i2 ah (by omega) (by omega)]
      exact setA_E (by omega) (by rw [e2 ah h1]; exact h2)
    · exact hs _ _ _ _ _ (fun q q1 q2 q3 => (hold q q2 q3 (by omega)).symm) e3

/-- Copies that may be left out, whose splits don't yet go on. -/
def optO (S : Nat → Sd) (P : Nat → Nat → Nat → Prop) (sz : Nat) : Nat → Nat → Nat → Nat → Nat → List Nat → Prop
  | 0, base, ah, L', ah', sp => L' = base ∧ ah' = ah ∧ sp = []
  | m + 1, base, ah, L', ah', sp => ∃ f l sp', P base f l ∧ S (base + sz) = sS f 0 ∧ S ah = sE (base + sz : Nat) ∧ sp = (base + sz) :: sp' ∧ optO S P sz m (base + sz + 1) l L' ah' sp'
theorem op_ok (hP : ∀ S, inP (P S) sz) (hs : ∀ S S', samP S S' (P S) (P S') sz) (hm : mkOK P sz mk) : ∀ m L ah, ah < L.length → sfn L ah = sE 0 →
    (opL mk m L ah).1.length = L.length + m * (sz + 1) ∧ (∀ q, q < L.length → q ≠ ah → sfn (opL mk m L ah).1 q = sfn L q) ∧ sfn (opL mk m L ah).1 (opL mk m L ah).2.1 = sE 0 ∧ (opL mk m L ah).2.1 < (opL mk m L ah).1.length ∧
      ((m = 0 ∧ (opL mk m L ah).2.1 = ah) ∨ L.length ≤ (opL mk m L ah).2.1) ∧ (∀ s, s ∈ (opL mk m L ah).2.2 → L.length ≤ s ∧ s < (opL mk m L ah).1.length ∧ s ≠ (opL mk m L ah).2.1) ∧
      optO (sfn (opL mk m L ah).1) (P (sfn (opL mk m L ah).1)) sz m L.length ah (opL mk m L ah).1.length (opL mk m L ah).2.1 (opL mk m L ah).2.2
  | 0, L, ah, h1, h2 => ⟨by rw [Nat.zero_mul]; rfl, fun _ _ _ => rfl, h2, h1, .inl ⟨rfl, rfl⟩, fun s h => by simp [opL] at h, rfl, rfl, rfl⟩
  | m + 1, L, ah, h1, h2 => by
    obtain ⟨e1, e2, e3, e4⟩ := hm L
    obtain ⟨k1, k2, k3, k4, k5⟩ := hP _ _ _ _ e3
    have eL : opL mk (m + 1) L ah = ((opL mk m (setA ((mk L).1 ++ [sS (mk L).2.1 0]) ah (mk L).1.length) (mk L).2.2).1, (opL mk m (setA ((mk L).1 ++ [sS (mk L).2.1 0]) ah (mk L).1.length) (mk L).2.2).2.1, (mk L).1.length :: (opL mk m (setA ((mk L).1 ++ [sS (mk L).2.1 0]) ah (mk L).1.length) (mk L).2.2).2.2) := rfl
    rw [eL]
    have hl : (setA ((mk L).1 ++ [sS (mk L).2.1 0]) ah (mk L).1.length).length = L.length + sz + 1 := by rw [setA_len, List.length_append, e1]; rfl
    obtain ⟨i1, i2, i3, i4, i5, i6, i7⟩ := op_ok hP hs hm m (setA ((mk L).1 ++ [sS (mk L).2.1 0]) ah (mk L).1.length) (mk L).2.2 (by omega) (by rw [setA_ne (by omega), sfn_old (by omega)]; exact e4)
    have hA : ∀ q, q < L.length + sz → q ≠ ah → sfn (setA ((mk L).1 ++ [sS (mk L).2.1 0]) ah (mk L).1.length) q = sfn (mk L).1 q := fun q q1 q2 => by rw [setA_ne q2, sfn_old (by omega)]
    have hN : sfn (setA ((mk L).1 ++ [sS (mk L).2.1 0]) ah (mk L).1.length) (L.length + sz) = sS (mk L).2.1 0 := by rw [setA_ne (by omega), sfn_new e1.symm]
    have hH : sfn (setA ((mk L).1 ++ [sS (mk L).2.1 0]) ah (mk L).1.length) ah = sE (L.length + sz : Nat) := by
      rw [← e1]
      exact setA_E (by rw [List.length_append]; omega) (by rw [sfn_old (by omega), e2 ah h1]; exact h2)
    generalize opL mk m (setA ((mk L).1 ++ [sS (mk L).2.1 0]) ah (mk L).1.length) (mk L).2.2 = R at *
    generalize setA ((mk L).1 ++ [sS (mk L).2.1 0]) ah (mk L).1.length = L1 at *
    simp only
    rw [hl] at i1 i2 i5 i6 i7
    have em : (m + 1) * (sz + 1) = m * (sz + 1) + (sz + 1) := Nat.succ_mul m (sz + 1)
    have hold : ∀ q, q < L.length + sz → q ≠ (mk L).2.2 → q ≠ ah → sfn R.1 q = sfn (mk L).1 q := fun q q1 q2 q3 => by rw [i2 q (by omega) q2, hA q q1 q3]
    refine ⟨by omega, fun q q1 q2 => by rw [hold q (by omega) (by omega) q2]; exact e2 q q1, i3, i4, .inr (by omega), fun s hsp => ?_, (mk L).2.1, (mk L).2.2, R.2.2, ?_, ?_, ?_, by rw [e1], i7⟩
    · rcases List.mem_cons.1 hsp with rfl | hsp
      · rcases i5 with ⟨-, i5⟩ | i5 <;> omega
      · have := i6 s hsp; omega
    · exact hs _ _ _ _ _ (fun q q1 q2 q3 => (hold q q2 q3 (by omega)).symm) e3
    · rw [i2 _ (by omega) (by omega)]; exact hN
    · rw [i2 ah (by omega) (by omega)]; exact hH
end

theorem bs_len (last : Nat) : ∀ (sp : List Nat) (U : List Sd), (bsL last U sp).length = U.length
  | [], _ => rfl
  | s :: sp, U => by
    show (bsL last (setB U s last) sp).length = _
    rw [bs_len last sp, setB_len]
theorem bs_out (last : Nat) : ∀ (sp : List Nat) (U : List Sd) (q : Nat), q ∉ sp → sfn (bsL last U sp) q = sfn U q
  | [], _, _, _ => rfl
  | s :: sp, U, q, h => by
    show sfn (bsL last (setB U s last) sp) q = _
    rw [bs_out last sp _ q (fun hq => h (List.mem_cons_of_mem _ hq)), setB_ne (fun e => h (by rw [e]; exact List.mem_cons_self))]
theorem bs_in (last : Nat) : ∀ (sp : List Nat) (U : List Sd) (q : Nat), (∀ s, s ∈ sp → s < U.length) → q ∈ sp → sfn (bsL last U sp) q = { sfn U q with B := (last : Int) }
  | s :: sp, U, q, hlt, h => by
    show sfn (bsL last (setB U s last) sp) q = _
    have hs : s < U.length := hlt s List.mem_cons_self
    by_cases hq : q ∈ sp
    · rw [bs_in last sp _ q (fun x hx => by rw [setB_len]; exact hlt x (List.mem_cons_of_mem _ hx)) hq]
      by_cases e : q = s
      · subst e; rw [setB_at hs]
      · rw [setB_ne e]
    · rcases List.mem_cons.1 h with rfl | h
      · rw [bs_out last sp _ q hq, setB_at hs]
      · exact absurd h hq

theorem optO_bd {S : Nat → Sd} {P : Nat → Nat → Nat → Prop} {sz : Nat} (hP : inP P sz) : ∀ {m base ah L' ah' sp}, optO S P sz m base ah L' ah' sp → L' = base + m * (sz + 1) ∧ (∀ s, s ∈ sp → base + sz ≤ s ∧ s < L') ∧ ((m = 0 ∧ ah' = ah) ∨ (base ≤ ah' ∧ ah' < L'))
  | 0, base, ah, L', ah', sp, ⟨h1, h2, h3⟩ => ⟨by omega, fun s hs => (by rw [h3] at hs; cases hs), .inl ⟨rfl, h2⟩⟩
  | m + 1, base, ah, L', ah', sp, ⟨f, l, sp', h1, _, _, h4, h5⟩ => by
    obtain ⟨k1, k2, k3, k4, k5⟩ := hP _ _ _ h1
    obtain ⟨g1, g2, g3⟩ := optO_bd hP h5
    have em : (m + 1) * (sz + 1) = m * (sz + 1) + (sz + 1) := Nat.succ_mul m (sz + 1)
    refine ⟨by omega, fun s hs => ?_, .inr ?_⟩
    · rw [h4] at hs
      rcases List.mem_cons.1 hs with rfl | hs
      · omega
      · have := g2 s hs; omega
    · rcases g3 with ⟨rfl, rfl⟩ | g3
      · rw [Nat.zero_mul] at g1; omega
      · omega
/-- Where the splits go on, and what is ahead: copies that may be left out. -/
theorem opts_of {S S' : Nat → Sd} {P P' : Nat → Nat → Nat → Prop} {sz : Nat} (hP : inP P sz) (hs : samP S S' P P' sz) {L' : Nat} : ∀ {m base ah ah' sp}, ah < base → optO S P sz m base ah L' ah' sp →
    (∀ q, q ≠ ah' → q ∉ sp → (q = ah ∨ (base ≤ q ∧ q < L')) → S' q = S q) → (∀ s, s ∈ sp → S' s = { S s with B := (L' : Int) }) → S' ah' = sE L' → opts S' P' sz m base ah L'
  | 0, base, ah, ah', sp, _, ⟨h1, h2, _⟩, _, _, he => ⟨h1, by rw [← h2]; exact he⟩
  | m + 1, base, ah, ah', sp, hlt, ⟨f, l, sp', h1, h2, h3, h4, h5⟩, hq, hsp, he => by
    obtain ⟨k1, k2, k3, k4, k5⟩ := hP _ _ _ h1
    obtain ⟨g1, g2, g3⟩ := optO_bd hP h5
    have hah : ah' = l ∨ base + sz + 1 ≤ ah' := by rcases g3 with ⟨_, e⟩ | g3 <;> omega
    have hnot : ∀ q, q < base + sz → q ∉ sp := fun q q1 hm => by
      rw [h4] at hm
      rcases List.mem_cons.1 hm with rfl | hm
      · omega
      · have := g2 q hm; omega
    refine ⟨f, l, hs _ _ _ (fun q q1 q2 q3 => (hq q (by omega) (hnot q q2) (.inr ⟨q1, by omega⟩)).symm) h1, ?_, ?_, opts_of hP hs (by omega) h5 (fun q q1 q2 q3 => ?_) (fun s h => hsp s (by rw [h4]; exact List.mem_cons_of_mem _ h)) he⟩
    · rw [hsp _ (by rw [h4]; exact List.mem_cons_self), h2]; rfl
    · rw [hq ah (by omega) (hnot ah (by omega)) (.inl rfl)]; exact h3
    · refine hq q q1 (fun hm => ?_) (.inr (by rcases q3 with rfl | q3 <;> omega))
      rw [h4] at hm
      rcases List.mem_cons.1 hm with rfl | hm
      · rcases q3 with q3 | q3 <;> omega
      · exact q2 hm
/-- What the ends lead to. -/
theorem end_ok {inf : Bool} {r : List Sd × Nat × List Nat} (h1 : r.2.1 < r.1.length) (h2 : sfn r.1 r.2.1 = sE 0) (h3 : ∀ s, s ∈ r.2.2 → s < r.1.length ∧ s ≠ r.2.1) :
    (edL9 inf r).2 = r.1.length ∧ (edL9 inf r).1.length = r.1.length + 1 ∧ (∀ q, q < r.1.length → q ≠ r.2.1 → q ∉ r.2.2 → sfn (edL9 inf r).1 q = sfn r.1 q) ∧ (∀ s, s ∈ r.2.2 → sfn (edL9 inf r).1 s = { sfn r.1 s with B := (r.1.length : Int) }) ∧
      sfn (edL9 inf r).1 r.2.1 = sE (if inf then r.2.2.headD 0 else r.1.length : Nat) ∧ sfn (edL9 inf r).1 r.1.length = sE 0 := by
  obtain ⟨U, ah, sp⟩ := r
  simp only at h1 h2 h3 ⊢
  have hU : (setA (U ++ [sE 0]) ah U.length).length = U.length + 1 := by rw [setA_len, List.length_append]; rfl
  have eV : ∃ V, (if inf then setA (setA (U ++ [sE 0]) ah U.length) ah (sp.headD 0) else setA (U ++ [sE 0]) ah U.length) = V ∧ V.length = U.length + 1 ∧ (∀ q, q < U.length → q ≠ ah → sfn V q = sfn U q) ∧ sfn V ah = sE (if inf then sp.headD 0 else U.length : Nat) ∧ sfn V U.length = sE 0 := by
    refine ⟨_, rfl, ?_⟩
    cases inf with
    | true =>
      simp only [if_true]
      refine ⟨by rw [setA_len, hU], fun q q1 q2 => by rw [setA_ne q2, setA_ne q2, sfn_old q1], setA_EE (by omega) (setA_E (by rw [List.length_append]; omega) (by rw [sfn_old h1]; exact h2)), by rw [setA_ne (by omega), setA_ne (by omega), sfn_new rfl]⟩
    | false =>
      simp only [Bool.false_eq_true, if_false]
      refine ⟨hU, fun q q1 q2 => by rw [setA_ne q2, sfn_old q1], setA_E (by rw [List.length_append]; omega) (by rw [sfn_old h1]; exact h2), by rw [setA_ne (by omega), sfn_new rfl]⟩
  obtain ⟨V, e, v1, v2, v3, v4⟩ := eV
  have eE : edL9 inf (U, ah, sp) = (bsL U.length V sp, U.length) := by unfold edL9; simp only; rw [e]
  rw [eE]
  simp only
  have hlt : ∀ s, s ∈ sp → s < V.length := fun s hs => by have := (h3 s hs).1; omega
  refine ⟨trivial, by rw [bs_len, v1], fun q q1 q2 q3 => by rw [bs_out _ _ _ _ q3, v2 q q1 q2], fun s hs => by rw [bs_in _ _ _ _ hlt hs, v2 s (h3 s hs).1 (h3 s hs).2], by rw [bs_out _ _ _ _ (fun hm => (h3 ah hm).2 rfl), v3], by rw [bs_out _ _ _ _ (fun hm => by have := (h3 _ hm).1; omega), v4]⟩

theorem mk_ok : ∀ t, mkOK (fun S => isFr S t) (nst t) (mkF t)
  | .leaf x, L => by
    have e : mkF (.leaf x) L = (L ++ [leafS x (L.length + 1)] ++ [sE 0], L.length, L.length + 1) := rfl
    rw [e]
    simp only
    refine ⟨by simp [nst], fun q hq => by rw [sfn_old (by simp; omega), sfn_old hq], ⟨rfl, rfl, ?_⟩, by rw [sfn_new (by simp)]⟩
    rw [sfn_old (by simp), sfn_new rfl]; rfl
  | .cat a b, L => by
    obtain ⟨a1, a2, a3, a4⟩ := mk_ok a L
    obtain ⟨b1, b2, b3, b4⟩ := mk_ok b (mkF a L).1
    have e : mkF (.cat a b) L = (setA (mkF b (mkF a L).1).1 (mkF a L).2.2 (mkF b (mkF a L).1).2.1, (mkF a L).2.1, (mkF b (mkF a L).1).2.2) := rfl
    rw [e]
    generalize mkF b (mkF a L).1 = y at *
    generalize mkF a L = x at *
    simp only at *
    obtain ⟨k1, k2, k3, k4, k5⟩ := fr_bd _ a _ _ _ a3
    obtain ⟨l1, l2, l3, l4, l5⟩ := fr_bd _ b _ _ _ b3
    have hold : ∀ q, q < x.1.length → q ≠ x.2.2 → sfn (setA y.1 x.2.2 y.2.1) q = sfn x.1 q := fun q q1 q2 => by rw [setA_ne q2, b2 q q1]
    refine ⟨by rw [setA_len]; show _ = _ + (nst a + nst b); omega, fun q hq => by rw [hold q (by omega) (by omega), a2 q hq], ⟨x.2.2, y.2.1, ?_, ?_, ?_⟩, by rw [setA_ne (by omega)]; exact b4⟩
    · exact fr_same a _ _ _ (fun q q1 q2 q3 => (hold q (by omega) q3).symm) a3
    · rw [← a1]; exact fr_same b _ _ _ (fun q q1 q2 q3 => (setA_ne (by omega)).symm) b3
    · exact setA_E (by omega) (by rw [b2 _ (by omega)]; exact a4)
  | .or a b, L => by
    obtain ⟨a1, a2, a3, a4⟩ := mk_ok a L
    obtain ⟨b1, b2, b3, b4⟩ := mk_ok b (mkF a L).1
    have e : mkF (.or a b) L = (setA (setA ((mkF b (mkF a L).1).1 ++ [sS (mkF a L).2.1 (mkF b (mkF a L).1).2.1] ++ [sE 0]) (mkF a L).2.2 ((mkF b (mkF a L).1).1.length + 1)) (mkF b (mkF a L).1).2.2 ((mkF b (mkF a L).1).1.length + 1), (mkF b (mkF a L).1).1.length, (mkF b (mkF a L).1).1.length + 1) := rfl
    rw [e]
    generalize mkF b (mkF a L).1 = y at *
    generalize mkF a L = x at *
    simp only at *
    obtain ⟨k1, k2, k3, k4, k5⟩ := fr_bd _ a _ _ _ a3
    obtain ⟨l1, l2, l3, l4, l5⟩ := fr_bd _ b _ _ _ b3
    have hW : (y.1 ++ [sS x.2.1 y.2.1] ++ [sE 0]).length = y.1.length + 2 := by simp
    have hol : ∀ q, q < y.1.length → q ≠ x.2.2 → q ≠ y.2.2 → sfn (setA (setA (y.1 ++ [sS x.2.1 y.2.1] ++ [sE 0]) x.2.2 (y.1.length + 1)) y.2.2 (y.1.length + 1)) q = sfn y.1 q := fun q q1 q2 q3 => by
      rw [setA_ne q3, setA_ne q2, sfn_old (by simp; omega), sfn_old q1]
    refine ⟨by rw [setA_len, setA_len, hW]; show _ = _ + (nst a + nst b + 2); omega, fun q hq => by rw [hol q (by omega) (by omega) (by omega), b2 q (by omega), a2 q hq], ⟨x.2.1, x.2.2, y.2.1, y.2.2, ?_, ?_, by omega, rfl, ?_, ?_, ?_⟩, ?_⟩
    · exact fr_same a _ _ _ (fun q q1 q2 q3 => by rw [hol q (by omega) q3 (by omega), b2 q (by omega)]) a3
    · rw [← a1]; exact fr_same b _ _ _ (fun q q1 q2 q3 => by rw [hol q (by omega) (by omega) q3]) b3
    · rw [setA_ne (by omega), setA_ne (by omega), sfn_old (by simp), sfn_new rfl]
    · rw [setA_ne (by omega)]
      exact setA_E (by omega) (by rw [sfn_old (by simp; omega), sfn_old (by omega), b2 _ (by omega)]; exact a4)
    · exact setA_E (by rw [setA_len]; omega) (by rw [setA_ne (by omega), sfn_old (by simp; omega), sfn_old (by omega)]; exact b4)
    · rw [setA_ne (by omega), setA_ne (by omega), sfn_new (by simp)]
  | .rep a lo hi, L => by
    have hP : ∀ S, inP (isFr S a) (nst a) := fun S => fr_bd S a
    have hs : ∀ S S' : Nat → Sd, samP S S' (isFr S a) (isFr S' a) (nst a) := fun S S' => fr_same a
    have hm := mk_ok a
    have h0 : (L ++ [sE 0]).length = L.length + 1 := by simp
    obtain ⟨c1, c2, c3, c4, c5, c6⟩ := cp_ok (P := fun S => isFr S a) hP hs hm lo.toNat (L ++ [sE 0]) L.length (by omega) (sfn_new rfl)
    have e : mkF (.rep a lo hi) L = ((edL9 (hi == -1) (opL (mkF a) (if hi = -1 then 1 else (hi - lo).toNat) (cpL (mkF a) lo.toNat (L ++ [sE 0]) L.length).1 (cpL (mkF a) lo.toNat (L ++ [sE 0]) L.length).2)).1, L.length, (edL9 (hi == -1) (opL (mkF a) (if hi = -1 then 1 else (hi - lo).toNat) (cpL (mkF a) lo.toNat (L ++ [sE 0]) L.length).1 (cpL (mkF a) lo.toNat (L ++ [sE 0]) L.length).2)).2) := rfl
    rw [e]
    generalize cpL (mkF a) lo.toNat (L ++ [sE 0]) L.length = p at *
    obtain ⟨o1, o2, o3, o4, o5, o6, o7⟩ := op_ok (P := fun S => isFr S a) hP hs hm (if hi = -1 then 1 else (hi - lo).toNat) p.1 p.2 c4 c3
    generalize hmm : (if hi = -1 then 1 else (hi - lo).toNat) = m at *
    generalize opL (mkF a) m p.1 p.2 = r at *
    obtain ⟨n1, n2, n3, n4, n5, n6⟩ := end_ok (inf := hi == -1) (r := r) o4 o3 (fun s h => (o6 s h).2)
    generalize edL9 (hi == -1) r = E at *
    simp only at *
    rw [h0] at c1 c2 c5 c6
    have hpl : L.length + 1 ≤ p.1.length := by omega
    have hrl : p.1.length ≤ r.1.length := by omega
    have hold : ∀ q, q < p.1.length → q ≠ p.2 → sfn E.1 q = sfn p.1 q := fun q q1 q2 => by
      rw [n3 q (by omega) (by rcases o5 with ⟨_, o5⟩ | o5 <;> omega) (fun hm => by have := o6 q hm; omega), o2 q q1 q2]
    refine ⟨?_, fun q hq => ?_, ⟨rfl, p.1.length, p.2, cps_same (hP _) (hs _ _) (by omega) (fun q q1 q2 => (hold q (by omega) q2).symm) c6, ?_⟩, by rw [n1]; exact n6⟩
    · rw [n2, o1, c1]
      show _ = _ + (2 + lo.toNat * nst a + _)
      rw [← hmm]
      by_cases hh : hi = -1
      · rw [if_pos hh, if_pos hh]; omega
      · rw [if_neg hh, if_neg hh]; omega
    · rw [hold q (by omega) (by rcases c5 with ⟨_, c5⟩ | c5 <;> omega), c2 q (by omega) (by omega), sfn_old hq]
    · rw [n1]
      by_cases hh : hi = -1
      · rw [if_pos hh] at hmm ⊢
        subst hmm
        rw [hh] at n5
        simp only [beq_self_eq_true, if_true] at n5
        obtain ⟨f, l, sp', g1, g2, g3, g4, g5, g6, g7⟩ := o7
        obtain ⟨k1, k2, k3, k4, k5⟩ := hP _ _ _ _ g1
        subst g7
        rw [g4] at n5 n4 o6 n3
        rw [g6] at n5 n3 o6
        simp only [List.headD_cons] at n5
        have hne : ∀ q, q < p.1.length + nst a → q ≠ l → sfn E.1 q = sfn r.1 q := fun q q1 q2 => n3 q (by omega) q2 (fun hm => by simp at hm; omega)
        refine ⟨f, l, hs _ _ _ _ _ (fun q q1 q2 q3 => (hne q q2 q3).symm) g1, ?_, ?_, n5, by omega⟩
        · rw [n4 _ (by simp), g2]; rfl
        · rw [hne p.2 (by omega) (by omega)]; exact g3
      · rw [if_neg hh] at hmm ⊢
        subst hmm
        have hb : (hi == -1) = false := by simp [hh]
        rw [hb] at n5
        simp only [Bool.false_eq_true, if_false] at n5
        exact opts_of (hP _) (hs _ _) c4 o7 (fun q q1 q2 q3 => n3 q (by rcases q3 with rfl | q3 <;> omega) q1 q2) n4 n5
end Go.Proofs.Ytpfbmbegddemoaa
