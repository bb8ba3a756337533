/-
  Trees as tokens, and back: what the way down makes of the tokens that a tree is told as. Plain facts.
  Sets of bytes as functions from numbers to bools: a word of 64 bits out of such a function, and what the operations on words make of it. Plain facts, no program.
  What all texts lean on: imports, and small words on worlds.
  Nodes and tokens in memory: rows that a call owns, and what is read.
  An append of a row of nodes to another one.
  The walk of the fifth reference's part, given either.
  The walk of the fifth reference's Wrong.
  The walk of the fifth reference's Of.
  What is wrong in the tokens that a tree is told as: nothing, or too many groups within one another. Plain facts.
-/
import Derived.Test.YtpjmogcphgaimaaPk1
import Derived.WalkKit
import Derived.Test.YtpjmogcphgaimaaProg
import Derived.WalkSpells
import Derived.WalkLawsBesides
import Derived.Handy
import Derived.KernelRfl
import Derived.Deep.RegionHeld3
import Derived.Deep.RegionHeldLaw
import Derived.Deep.QuietTactic
import Derived.BigQuiet
import Derived.Lib.Hide
import Derived.OneCell
import Derived.Laws.StructEq
import Derived.Laws.OwnMore
import Derived.OwnWalk
import Derived.StillTailTactics
import Derived.Deep.Cut
import Derived.Deep.CutRange
namespace Go.Proofs.Ytpjmogcphgaimaa

inductive Tr where
  | leaf (x : Nd)
  | cat (a b : Tr)
  | or (a b : Tr)
  | rep (a : Tr) (lo hi : Int)
def ndR (lo hi : Int) : Nd := ⟨7, 0, 0, 0, 0, lo, hi⟩
def post : Tr → List Nd
  | .leaf x => [x]
  | .cat a b => post a ++ post b ++ [nd0 5]
  | .or a b => post a ++ post b ++ [nd0 6]
  | .rep a lo hi => post a ++ [ndR lo hi]
def isOr : Tr → Bool
  | .or _ _ => true
  | _ => false
def isCat : Tr → Bool
  | .cat _ _ => true
  | _ => false
/-- The leaves are such as a tree may have, and the repeats. -/
def okT : Tr → Prop
  | .leaf x => (x.k = 1 ∧ x.lo = 0 ∧ x.hi = 0) ∨ x = nd0 2 ∨ x = nd0 3 ∨ x = nd0 4
  | .cat a b => okT a ∧ okT b
  | .or a b => okT a ∧ okT b
  | .rep a lo hi => okT a ∧ 0 ≤ lo ∧ lo ≤ 32 ∧ (hi = -1 ∨ (lo ≤ hi ∧ hi ≤ 32))
/-- Tokens, without their places. -/
def tn0 (k : Int) : Tn := ⟨k, 0, 0, 0, 0, 0, 0, 0⟩
def tnS (x : Nd) : Tn := ⟨1, 0, x.a, x.b, x.c, x.d, 0, 0⟩
def tnR (lo hi : Int) : Tn := ⟨5, 0, 0, 0, 0, 0, lo, hi⟩
def grp (b : Bool) (l : List Tn) : List Tn := if b = true then tn0 3 :: (l ++ [tn0 4]) else l
def eT : Tr → List Tn
  | .leaf x => if x.k = 1 then [tnS x] else if x.k = 2 then [tn0 3, tn0 4] else if x.k = 3 then [tn0 6] else [tn0 7]
  | .cat a b => grp (isOr a) (eT a) ++ grp (isOr b || isCat b) (eT b)
  | .or a b => eT a ++ tn0 2 :: grp (isOr b) (eT b)
  | .rep a lo hi => grp (isOr a || isCat a) (eT a) ++ [tnR lo hi]

/-- A token but for its place. -/
def sameT (t s : Tn) : Prop := t.k = s.k ∧ t.a = s.a ∧ t.b = s.b ∧ t.c = s.c ∧ t.d = s.d ∧ t.lo = s.lo ∧ t.hi = s.hi
def hasT (T : Nat → Tn) (n i : Nat) (l : List Tn) : Prop := i + l.length ≤ n ∧ ∀ j (h : j < l.length), sameT (T (i + j)) l[j]
theorem hasT.head {T : Nat → Tn} {n i : Nat} {c : Tn} {l : List Tn} (h : hasT T n i (c :: l)) : i < n ∧ sameT (T i) c := ⟨by have := h.1; simp at this; omega, h.2 0 (by simp)⟩
theorem hasT.tail {T : Nat → Tn} {n i : Nat} {c : Tn} {l : List Tn} (h : hasT T n i (c :: l)) : hasT T n (i + 1) l := ⟨by have := h.1; simp at this; omega, fun j hj => by
  have := h.2 (j + 1) (by simp; omega)
  simpa [show i + 1 + j = i + (j + 1) by omega] using this⟩
theorem hasT.left {T : Nat → Tn} {n i : Nat} {l m : List Tn} (h : hasT T n i (l ++ m)) : hasT T n i l := ⟨by have := h.1; simp at this; omega, fun j hj => by
  have := h.2 j (by simp; omega)
  simpa [List.getElem_append_left hj] using this⟩
theorem hasT.right {T : Nat → Tn} {n i : Nat} {l m : List Tn} (h : hasT T n i (l ++ m)) : hasT T n (i + l.length) m := ⟨by have := h.1; simp at this; omega, fun j hj => by
  have := h.2 (l.length + j) (by simp; omega)
  simpa [Nat.add_assoc] using this⟩

/-- A list of tokens begins as a part does. -/
def beg (l : List Tn) : Prop := ∃ c m, l = c :: m ∧ (c.k = 1 ∨ c.k = 3 ∨ c.k = 6 ∨ c.k = 7)
theorem beg_grp {b : Bool} {l : List Tn} (h : beg l) : beg (grp b l) := by
  cases b
  · exact h
  · exact ⟨tn0 3, _, rfl, .inr (.inl rfl)⟩
theorem beg_app {l m : List Tn} (h : beg l) : beg (l ++ m) := by
  obtain ⟨c, s, rfl, hc⟩ := h
  exact ⟨c, s ++ m, rfl, hc⟩
theorem beg_eT : ∀ t, okT t → beg (eT t)
  | .leaf x, h => by
    unfold eT
    by_cases c1 : x.k = 1
    · rw [if_pos c1]; exact ⟨_, _, rfl, .inl rfl⟩
    · rw [if_neg c1]
      by_cases c2 : x.k = 2
      · rw [if_pos c2]; exact ⟨_, _, rfl, .inr (.inl rfl)⟩
      · rw [if_neg c2]
        by_cases c3 : x.k = 3
        · rw [if_pos c3]; exact ⟨_, _, rfl, .inr (.inr (.inl rfl))⟩
        · rw [if_neg c3]; exact ⟨_, _, rfl, .inr (.inr (.inr rfl))⟩
  | .cat a _, h => beg_app (beg_grp (beg_eT a h.1))
  | .or a _, h => beg_app (beg_eT a h.1)
  | .rep a _ _, h => beg_app (beg_grp (beg_eT a h.1))
theorem beg.kind {T : Nat → Tn} {n i : Nat} {l : List Tn} (hb : beg l) (h : hasT T n i l) : i < n ∧ (T i).k ≠ 2 ∧ (T i).k ≠ 4 ∧ (T i).k ≠ 5 := by
  obtain ⟨c, m, rfl, hc⟩ := hb
  obtain ⟨h1, h2⟩ := h.head
  have := h2.1
  omega

/-- What the way down tells of a part, of parts one behind the other, of choices, of the whole. -/
def partsG (l : List Tn) (p : List Nd) : Prop := ∀ (T : Nat → Tn) (n u i : Nat), n ≤ u + i → hasT T n i l →
  ∃ x j r, partB T (ei T n u) i = (x, j) ∧ x ++ r = p ∧ repsL T n (n + 1) j = (r ++ (repsL T n (n + 1) (i + l.length)).1, (repsL T n (n + 1) (i + l.length)).2)
def chainG (l : List Tn) (p : List Nd) : Prop := ∀ (T : Nat → Tn) (n u i U : Nat), n ≤ u + i → hasT T n i l → (i + l.length < n → (T (i + l.length)).k ≠ 5) → n + 2 ≤ U →
  ∃ U' m, behL T n (ei T n u) U i [] 0 = behL T n (ei T n u) U' (i + l.length) p (m + 1) ∧ U ≤ U' + l.length
def altG (l : List Tn) (p : List Nd) : Prop := ∀ (T : Nat → Tn) (n u i : Nat), n ≤ u + i → hasT T n i l → (i + l.length < n → (T (i + l.length)).k = 2 ∨ (T (i + l.length)).k = 4) →
  ∃ U', eiF T n (ei T n u) i = eiL T n (ei T n u) U' (i + l.length) p ∧ n + 2 ≤ U' + l.length
def wholeG (l : List Tn) (p : List Nd) : Prop := ∀ (T : Nat → Tn) (n u i : Nat), n + 1 ≤ u + i → hasT T n i l → (i + l.length < n → (T (i + l.length)).k = 4) → ei T n u i = (p, i + l.length)

theorem reps_not {T : Nat → Tn} {n j : Nat} (h : j < n → (T j).k ≠ 5) : repsL T n (n + 1) j = ([], j) := by
  unfold repsL
  rw [if_neg (fun hh => h hh.1 hh.2)]
theorem reps_fuel (T : Nat → Tn) (n : Nat) : ∀ u i, n + 1 ≤ u + i → 0 < u → repsL T n u i = repsL T n (u + 1) i := by
  intro u
  induction u with
  | zero => intro i _ h; omega
  | succ u ih =>
    intro i h _
    unfold repsL
    split
    · rename_i hc
      rw [ih (i + 1) (by omega) (by omega)]
    · rfl
theorem reps_step {T : Nat → Tn} {n j : Nat} (h1 : j < n) (h2 : (T j).k = 5) : repsL T n (n + 1) j = (ndRep (T j) :: (repsL T n (n + 1) (j + 1)).1, (repsL T n (n + 1) (j + 1)).2) := by
  conv => lhs; unfold repsL
  rw [if_pos ⟨h1, h2⟩, reps_fuel T n n (j + 1) (by omega) (by omega)]
theorem part_of_parts {l : List Tn} {p : List Nd} (h : partsG l p) {T : Nat → Tn} {n u i : Nat} (hu : n ≤ u + i) (hh : hasT T n i l) (hn : i + l.length < n → (T (i + l.length)).k ≠ 5) : partF T n (ei T n u) i = (p, i + l.length) := by
  obtain ⟨x, j, r, h1, h2, h3⟩ := h T n u i hu hh
  unfold partF
  rw [h1]
  simp only
  rw [h3, reps_not hn]
  simp only [List.append_nil]
  rw [h2]
theorem beh_step {l : List Tn} {p : List Nd} (h : partsG l p) (hb : beg l) {T : Nat → Tn} {n u i : Nat} (hu : n ≤ u + i) (hh : hasT T n i l) (hn : i + l.length < n → (T (i + l.length)).k ≠ 5) (U : Nat) (acc : List Nd) (many : Nat) :
    behL T n (ei T n u) (U + 1) i acc many = behL T n (ei T n u) U (i + l.length) (acc ++ p ++ if many = 0 then [] else [nd0 5]) (many + 1) := by
  obtain ⟨k1, k2, k3, -⟩ := hb.kind hh
  conv => lhs; unfold behL
  rw [if_pos ⟨k1, k2, k3⟩, part_of_parts h hu hh hn]
theorem beg.pos {l : List Tn} (h : beg l) : 0 < l.length := by obtain ⟨c, m, rfl, -⟩ := h; simp
theorem chain_of_parts {l : List Tn} {p : List Nd} (h : partsG l p) (hb : beg l) : chainG l p := by
  intro T n u i U hu hh hn hU
  obtain ⟨V, rfl⟩ : ∃ V, U = V + 1 := ⟨U - 1, by omega⟩
  refine ⟨V, 0, ?_, by have := hb.pos; omega⟩
  rw [beh_step h hb hu hh hn]
  simp
theorem chain_cat {l1 l2 : List Tn} {p1 p2 : List Nd} (h1 : chainG l1 p1) (h2 : partsG l2 p2) (hb2 : beg l2) : chainG (l1 ++ l2) (p1 ++ p2 ++ [nd0 5]) := by
  intro T n u i U hu hh hn hU
  have hR := hh.right
  obtain ⟨k1, k2, k3, k4⟩ := hb2.kind hR
  obtain ⟨U', m, e1, e2⟩ := h1 T n u i U hu hh.left (fun _ => k4) hU
  have hle := hh.1
  rw [List.length_append] at hle hn
  obtain ⟨V, rfl⟩ : ∃ V, U' = V + 1 := ⟨U' - 1, by omega⟩
  refine ⟨V, m + 1, ?_, by have := hb2.pos; rw [List.length_append]; omega⟩
  rw [e1, beh_step h2 hb2 (by omega) hR (by rw [Nat.add_assoc]; exact hn), List.length_append, Nat.add_assoc]
  simp
theorem beh_of_chain {l : List Tn} {p : List Nd} (h : chainG l p) {T : Nat → Tn} {n u i : Nat} (hu : n ≤ u + i) (hh : hasT T n i l) (hn : i + l.length < n → (T (i + l.length)).k = 2 ∨ (T (i + l.length)).k = 4) : bhF T n (ei T n u) i = (p, i + l.length) := by
  obtain ⟨U', m, e1, e2⟩ := h T n u i (n + 2) hu hh (fun hl => by have := hn hl; omega) (Nat.le_refl _)
  have hle := hh.1
  obtain ⟨V, rfl⟩ : ∃ V, U' = V + 1 := ⟨U' - 1, by omega⟩
  unfold bhF
  rw [e1]
  unfold behL
  rw [if_neg (fun hc => by have := hn hc.1; omega), if_neg (by omega)]
theorem alt_of_chain {l : List Tn} {p : List Nd} (h : chainG l p) : altG l p := by
  intro T n u i hu hh hn
  refine ⟨n + 2, ?_, by omega⟩
  unfold eiF
  rw [beh_of_chain h hu hh hn]
theorem alt_or {l1 l2 : List Tn} {p1 p2 : List Nd} (h1 : altG l1 p1) (h2 : chainG l2 p2) : altG (l1 ++ tn0 2 :: l2) (p1 ++ p2 ++ [nd0 6]) := by
  intro T n u i hu hh hn
  have hR := hh.right
  obtain ⟨k1, k2⟩ := hR.head
  have hk : (T (i + l1.length)).k = 2 := k2.1
  obtain ⟨U', e1, e2⟩ := h1 T n u i hu hh.left (fun _ => .inl hk)
  have hle := hh.1
  have hlen : (l1 ++ tn0 2 :: l2).length = l1.length + 1 + l2.length := by simp; omega
  rw [hlen] at hle hn ⊢
  obtain ⟨V, rfl⟩ : ∃ V, U' = V + 1 := ⟨U' - 1, by omega⟩
  refine ⟨V, ?_, by omega⟩
  rw [e1]
  conv => lhs; unfold eiL
  rw [if_pos ⟨k1, hk⟩, beh_of_chain h2 (by omega) hR.tail (by rw [show i + l1.length + 1 + l2.length = i + (l1.length + 1 + l2.length) by omega]; exact hn)]
  rw [show i + l1.length + 1 + l2.length = i + (l1.length + 1 + l2.length) by omega]
theorem whole_of_alt {l : List Tn} {p : List Nd} (h : altG l p) : wholeG l p := by
  intro T n u i hu hh hn
  have hle := hh.1
  obtain ⟨v, rfl⟩ : ∃ v, u = v + 1 := ⟨u - 1, by omega⟩
  obtain ⟨U', e1, e2⟩ := h T n v i (by omega) hh (fun hl => .inr (hn hl))
  obtain ⟨V, rfl⟩ : ∃ V, U' = V + 1 := ⟨U' - 1, by omega⟩
  show eiF T n (ei T n v) i = _
  rw [e1]
  unfold eiL
  rw [if_neg (fun hc => by have := hn hc.1; omega)]
theorem parts_grp {l : List Tn} {p : List Nd} (h : wholeG l p) : partsG (tn0 3 :: (l ++ [tn0 4])) p := by
  intro T n u i hu hh
  obtain ⟨k1, k2⟩ := hh.head
  have hk : (T i).k = 3 := k2.1
  have hT := hh.tail
  have hC := hT.right.head
  have hk4 : (T (i + 1 + l.length)).k = 4 := hC.2.1
  have e := h T n u (i + 1) (by omega) hT.left (fun _ => hk4)
  refine ⟨p, i + 1 + l.length + 1, [], ?_, by simp, ?_⟩
  · unfold partB
    rw [if_neg (by omega), if_neg (by omega), if_neg (by omega), e]
  · rw [show i + (tn0 3 :: (l ++ [tn0 4])).length = i + 1 + l.length + 1 by simp; omega]; rfl
theorem parts_rep {l : List Tn} {p : List Nd} (h : partsG l p) (lo hi : Int) : partsG (l ++ [tnR lo hi]) (p ++ [ndR lo hi]) := by
  intro T n u i hu hh
  obtain ⟨x, j, r, h1, h2, h3⟩ := h T n u i hu hh.left
  obtain ⟨k1, k2⟩ := hh.right.head
  obtain ⟨q1, -, -, -, -, q6, q7⟩ := k2
  refine ⟨x, j, r ++ [ndR lo hi], h1, by rw [← List.append_assoc, h2], ?_⟩
  rw [h3, reps_step k1 q1]
  have e : ndRep (T (i + l.length)) = ndR lo hi := by unfold ndRep ndR; rw [q6, q7]; rfl
  rw [e, show i + (l ++ [tnR lo hi]).length = i + l.length + 1 by simp; omega]
  simp
theorem parts_grp_if {b : Bool} {l : List Tn} {p : List Nd} (h1 : b = true → wholeG l p) (h2 : b = false → partsG l p) : partsG (grp b l) p := by
  cases b
  · exact h2 rfl
  · exact parts_grp (h1 rfl)
theorem ei_shut {T : Nat → Tn} {n u i : Nat} (hu : n + 1 ≤ u + i) (hi : i < n) (hk : (T i).k = 4) : ei T n u i = ([nd0 2], i) := by
  obtain ⟨v, rfl⟩ : ∃ v, u = v + 1 := ⟨u - 1, by omega⟩
  show eiF T n (ei T n v) i = _
  have hb : bhF T n (ei T n v) i = ([nd0 2], i) := by
    unfold bhF behL
    rw [if_neg (fun h => h.2.2 hk), if_pos rfl]
  unfold eiF
  rw [hb]
  unfold eiL
  rw [if_neg (fun h => by have h2 : (T i).k = 2 := h.2; omega)]
theorem parts_leaf (x : Nd) (h : okT (.leaf x)) : partsG (eT (.leaf x)) [x] := by
  intro T n u i hu hh
  unfold eT at hh ⊢
  rcases h with ⟨c1, c2, c3⟩ | rfl | rfl | rfl
  · rw [if_pos c1] at hh ⊢
    obtain ⟨k1, q1, q2, q3, q4, q5, q6, q7⟩ := hh.head
    have q1' : (T i).k = 1 := q1
    refine ⟨[ndSet (T i)], i + 1, [], ?_, ?_, rfl⟩
    · unfold partB; rw [if_pos q1']
    · obtain ⟨k, a, b, c, d, lo, hi⟩ := x
      simp only at c1 c2 c3
      subst c1 c2 c3
      unfold ndSet; rw [q2, q3, q4, q5]; rfl
  · rw [if_neg (by decide), if_pos (by rfl)] at hh ⊢
    obtain ⟨k1, q1, -⟩ := hh.head
    have q1' : (T i).k = 3 := q1
    obtain ⟨k2, q2, -⟩ := hh.tail.head
    have q2' : (T (i + 1)).k = 4 := q2
    refine ⟨[nd0 2], i + 2, [], ?_, rfl, rfl⟩
    unfold partB
    rw [if_neg (by omega), if_neg (by omega), if_neg (by omega), ei_shut (by omega) k2 q2']
  · rw [if_neg (by decide), if_neg (by decide), if_pos (by rfl)] at hh ⊢
    obtain ⟨k1, q1, -⟩ := hh.head
    have q1' : (T i).k = 6 := q1
    refine ⟨[nd0 3], i + 1, [], ?_, rfl, rfl⟩
    unfold partB; rw [if_neg (by omega), if_pos q1']
  · rw [if_neg (by decide), if_neg (by decide), if_neg (by decide)] at hh ⊢
    obtain ⟨k1, q1, -⟩ := hh.head
    have q1' : (T i).k = 7 := q1
    refine ⟨[nd0 4], i + 1, [], ?_, rfl, rfl⟩
    unfold partB; rw [if_neg (by omega), if_neg (by omega), if_pos q1']
theorem back_all : ∀ t, okT t → (isOr t = false → isCat t = false → partsG (eT t) (post t)) ∧ (isOr t = false → chainG (eT t) (post t)) ∧ altG (eT t) (post t)
  | .leaf x, h => by
    have h1 := parts_leaf x h
    have h2 := chain_of_parts h1 (beg_eT _ h)
    exact ⟨fun _ _ => h1, fun _ => h2, alt_of_chain h2⟩
  | .cat a b, h => by
    obtain ⟨a1, a2, a3⟩ := back_all a h.1
    obtain ⟨b1, b2, b3⟩ := back_all b h.2
    have hb : partsG (grp (isOr b || isCat b) (eT b)) (post b) := parts_grp_if (fun _ => whole_of_alt b3) (fun e => by rw [Bool.or_eq_false_iff] at e; exact b1 e.1 e.2)
    have ha : chainG (grp (isOr a) (eT a)) (post a) := by
      cases ho : isOr a
      · exact a2 ho
      · exact chain_of_parts (parts_grp (whole_of_alt a3)) ⟨_, _, rfl, .inr (.inl rfl)⟩
    have h2 := chain_cat ha hb (beg_grp (beg_eT b h.2))
    exact ⟨(fun _ h => by cases h), fun _ => h2, alt_of_chain h2⟩
  | .or a b, h => by
    obtain ⟨a1, a2, a3⟩ := back_all a h.1
    obtain ⟨b1, b2, b3⟩ := back_all b h.2
    have hb : chainG (grp (isOr b) (eT b)) (post b) := by
      cases ho : isOr b
      · exact b2 ho
      · exact chain_of_parts (parts_grp (whole_of_alt b3)) ⟨_, _, rfl, .inr (.inl rfl)⟩
    exact ⟨(fun h => by cases h), (fun h => by cases h), alt_or a3 hb⟩
  | .rep a lo hi, h => by
    obtain ⟨a1, a2, a3⟩ := back_all a h.1
    have h1 : partsG (eT (.rep a lo hi)) (post (.rep a lo hi)) := parts_rep (parts_grp_if (fun _ => whole_of_alt a3) (fun e => by rw [Bool.or_eq_false_iff] at e; exact a1 e.1 e.2)) lo hi
    have h2 := chain_of_parts h1 (beg_eT (.rep a lo hi) h)
    exact ⟨fun _ _ => h1, fun _ => h2, alt_of_chain h2⟩
/-- The way down, of a tree's tokens: the tree. -/
theorem ei_back {t : Tr} (h : okT t) {T : Nat → Tn} {n : Nat} (hh : hasT T n 0 (eT t)) (hn : (eT t).length = n) : ei T n (n + 1) 0 = (post t, n) := by
  have := whole_of_alt (back_all t h).2.2 T n (n + 1) 0 (by omega) hh (fun h => by omega)
  rwa [Nat.zero_add, hn] at this
end Go.Proofs.Ytpjmogcphgaimaa

namespace Go.Proofs.Ytpjmogcphgaimaa

/-- The number whose bit j is f (b + j), for j below n. -/
def bitsTo (f : Nat → Bool) (b : Nat) : Nat → Nat
  | 0 => 0
  | n + 1 => bitsTo f b n + if f (b + n) = true then 2 ^ n else 0

theorem bitsTo_lt (f : Nat → Bool) (b n : Nat) : bitsTo f b n < 2 ^ n := by
  induction n with
  | zero => simp [bitsTo]
  | succ n ih =>
    simp only [bitsTo]
    have : 2 ^ (n + 1) = 2 * 2 ^ n := by rw [Nat.pow_succ]; omega
    split <;> omega

theorem bitsTo_testBit (f : Nat → Bool) (b n j : Nat) : (bitsTo f b n).testBit j = (decide (j < n) && f (b + j)) := by
  induction n with
  | zero => simp [bitsTo]
  | succ n ih =>
    simp only [bitsTo]
    by_cases hj : j < n
    · have h1 : decide (j < n + 1) = true := by simp; omega
      rw [h1]
      have h2 : decide (j < n) = true := by simp [hj]
      rw [h2] at ih
      split
      · rw [Nat.add_comm, Nat.testBit_two_pow_add_gt hj, ih]
      · rw [Nat.add_zero, ih]
    · by_cases he : j = n
      · subst he
        have h0 : (bitsTo f b j).testBit j = false := by rw [ih]; simp
        split
        · rename_i hf
          rw [Nat.add_comm, Nat.testBit_two_pow_add_eq, h0, hf]; simp
        · rename_i hf
          rw [Nat.add_zero, h0]
          simp at hf
          rw [hf]; simp
      · have h1 : decide (j < n + 1) = false := by simp; omega
        rw [h1]
        have hl := bitsTo_lt f b n
        have hp : 2 ^ (n + 1) ≤ 2 ^ j := Nat.pow_le_pow_right (by decide) (by omega)
        have hq : 2 ^ (n + 1) = 2 * 2 ^ n := by rw [Nat.pow_succ]; omega
        rw [Nat.testBit_lt_two_pow]
        · simp
        · split <;> omega

/-- Word i of a set. -/
def wd (f : Nat → Bool) (i : Nat) : Nat := bitsTo f (64 * i) 64
theorem wd_lt (f : Nat → Bool) (i : Nat) : wd f i < 18446744073709551616 := bitsTo_lt f (64 * i) 64
theorem wd_testBit (f : Nat → Bool) (i j : Nat) : (wd f i).testBit j = (decide (j < 64) && f (64 * i + j)) := bitsTo_testBit f (64 * i) 64 j

theorem eq_of_bits {x y : Nat} (hx : x < 18446744073709551616) (hy : y < 18446744073709551616) (h : ∀ j, j < 64 → x.testBit j = y.testBit j) : x = y := by
  apply Nat.eq_of_testBit_eq
  intro j
  by_cases hj : j < 64
  · exact h j hj
  · have hp : 2 ^ 64 ≤ 2 ^ j := Nat.pow_le_pow_right (by decide) (by omega)
    rw [Nat.testBit_lt_two_pow (by omega), Nat.testBit_lt_two_pow (by omega)]

/-- A number below 2 to the 64 is the word of its own bits. -/
theorem wd_eq {x : Nat} (hx : x < 18446744073709551616) (f : Nat → Bool) (i : Nat) (h : ∀ j, j < 64 → x.testBit j = f (64 * i + j)) : x = wd f i :=
  eq_of_bits hx (wd_lt f i) fun j hj => by rw [wd_testBit, h j hj]; simp [hj]

theorem wd_congr {f g : Nat → Bool} {i : Nat} (h : ∀ j, j < 64 → f (64 * i + j) = g (64 * i + j)) : wd f i = wd g i :=
  wd_eq (wd_lt f i) g i fun j hj => by rw [wd_testBit, h j hj]; simp [hj]

/-- The function of four words. -/
def ofWords (x0 x1 x2 x3 : Nat) (k : Nat) : Bool :=
  if k < 64 then x0.testBit k else if k < 128 then x1.testBit (k - 64) else if k < 192 then x2.testBit (k - 128) else x3.testBit (k - 192)
theorem ofWords_wd {x0 x1 x2 x3 : Nat} (h0 : x0 < 18446744073709551616) (h1 : x1 < 18446744073709551616) (h2 : x2 < 18446744073709551616) (h3 : x3 < 18446744073709551616) :
    x0 = wd (ofWords x0 x1 x2 x3) 0 ∧ x1 = wd (ofWords x0 x1 x2 x3) 1 ∧ x2 = wd (ofWords x0 x1 x2 x3) 2 ∧ x3 = wd (ofWords x0 x1 x2 x3) 3 := by
  refine ⟨wd_eq h0 _ 0 ?_, wd_eq h1 _ 1 ?_, wd_eq h2 _ 2 ?_, wd_eq h3 _ 3 ?_⟩ <;> intro j hj <;> unfold ofWords
  · rw [if_pos (by omega)]; simp
  · rw [if_neg (by omega), if_pos (by omega), show 64 * 1 + j - 64 = j from by omega]
  · rw [if_neg (by omega), if_neg (by omega), if_pos (by omega), show 64 * 2 + j - 128 = j from by omega]
  · rw [if_neg (by omega), if_neg (by omega), if_neg (by omega), show 64 * 3 + j - 192 = j from by omega]

theorem word_or (f g : Nat → Bool) (i : Nat) : bits .or .u64 (wd f i : Int) (wd g i : Int) = (wd (fun k => f k || g k) i : Nat) := by
  rw [bits_or_u64_nat _ _ (wd_lt f i) (wd_lt g i)]
  congr 1
  refine wd_eq (Nat.or_lt_two_pow (n := 64) (wd_lt f i) (wd_lt g i)) _ i fun j hj => ?_
  rw [Nat.testBit_or, wd_testBit, wd_testBit]; simp [hj]
theorem word_and (f g : Nat → Bool) (i : Nat) : bits .and .u64 (wd f i : Int) (wd g i : Int) = (wd (fun k => f k && g k) i : Nat) := by
  rw [bits_and_u64_nat _ _ (wd_lt f i) (wd_lt g i)]
  congr 1
  refine wd_eq (Nat.and_lt_two_pow (n := 64) _ (wd_lt g i)) _ i fun j hj => ?_
  rw [Nat.testBit_and, wd_testBit, wd_testBit]; simp [hj]
theorem word_less (f g : Nat → Bool) (i : Nat) : bits .andNot .u64 (wd f i : Int) (wd g i : Int) = (wd (fun k => f k && !g k) i : Nat) := by
  have e : bits .andNot .u64 (wd f i : Int) (wd g i : Int) = ((wd f i &&& (18446744073709551615 - wd g i) : Nat) : Int) := by
    have := u64_andNot_nat (wd f i) (wd g i) (wd_lt f i) (wd_lt g i)
    exact this
  rw [e]
  congr 1
  have hn : 18446744073709551615 - wd g i = wd (fun k => !g k) i := by
    refine wd_eq (by omega) _ i fun j hj => ?_
    have h := wd_lt g i
    have := Nat.testBit_two_pow_sub_succ (n := 64) (x := wd g i) h j
    have e2 : 2 ^ 64 - (wd g i + 1) = 18446744073709551615 - wd g i := by omega
    rw [e2] at this
    rw [this, wd_testBit]; simp [hj]
  rw [hn]
  refine wd_eq (Nat.and_lt_two_pow (n := 64) _ (wd_lt _ i)) _ i fun j hj => ?_
  rw [Nat.testBit_and, wd_testBit, wd_testBit]; simp [hj]

/-- The test of a bit. -/
theorem word_has (f : Nat → Bool) (i j : Nat) (hj : j < 64) : (bits .and .u64 ((wd f i : Int) / 2 ^ j) 1 == 1) = f (64 * i + j) := by
  have e0 : ((wd f i : Int) / 2 ^ j) = ((wd f i / 2 ^ j : Nat) : Int) := by simp
  have hl : wd f i / 2 ^ j < 18446744073709551616 := Nat.lt_of_le_of_lt (Nat.div_le_self _ _) (wd_lt f i)
  rw [e0, show (1 : Int) = ((1 : Nat) : Int) from rfl, bits_and_u64_nat _ _ hl (by decide)]
  have hb : (wd f i).testBit j = f (64 * i + j) := by rw [wd_testBit]; simp [hj]
  rw [← hb, Nat.testBit_eq_decide_div_mod_eq, Nat.and_one_is_mod]
  have h2 : wd f i / 2 ^ j % 2 = 0 ∨ wd f i / 2 ^ j % 2 = 1 := by omega
  rcases h2 with h2 | h2 <;> rw [h2] <;> decide

/-- The word with one bit more. -/
theorem word_put (f : Nat → Bool) (i j : Nat) (hj : j < 64) : bits .or .u64 (wd f i : Int) (IntKind.u64.wrap (2 ^ j)) = (wd (fun k => f k || decide (k = 64 * i + j)) i : Nat) := by
  have hlt : 2 ^ j < 2 ^ 64 := Nat.pow_lt_pow_right (by decide) hj
  have e : IntKind.u64.wrap (2 ^ j) = ((2 ^ j : Nat) : Int) := by
    rw [IntKind.wrap_u64]
    have e1 : ((2 : Int) ^ j) = ((2 ^ j : Nat) : Int) := by simp
    rw [e1]
    generalize 2 ^ j = p at *
    omega
  rw [e, bits_or_u64_nat _ _ (wd_lt f i) (by omega)]
  congr 1
  refine wd_eq (Nat.or_lt_two_pow (n := 64) (wd_lt f i) hlt) _ i fun k hk => ?_
  rw [Nat.testBit_or, wd_testBit, Nat.testBit_two_pow]
  simp [hk]
  by_cases h : j = k <;> simp [h]
  omega
theorem word_put_other (f : Nat → Bool) (i c : Nat) (h : c / 64 ≠ i) : wd (fun k => f k || decide (k = c)) i = wd f i :=
  wd_congr fun j hj => by
    have : ¬ (64 * i + j = c) := by omega
    simp [this]

/-- The bytes below n. -/
theorem word_below (n i : Nat) (h0 : 64 * i < n) (h1 : n < 64 * i + 64) : IntKind.u64.wrap (IntKind.u64.wrap (2 ^ (n - 64 * i)) - 1) = (wd (fun k => decide (k < n)) i : Nat) := by
  have hlt : 2 ^ (n - 64 * i) < 2 ^ 64 := Nat.pow_lt_pow_right (by decide) (by omega)
  have hpos : 0 < 2 ^ (n - 64 * i) := Nat.two_pow_pos _
  have e1 : ((2 : Int) ^ (n - 64 * i)) = ((2 ^ (n - 64 * i) : Nat) : Int) := by simp
  rw [IntKind.wrap_u64, IntKind.wrap_u64, e1]
  have e2 : ((((2 ^ (n - 64 * i) : Nat) : Int) % 18446744073709551616 - 1) % 18446744073709551616) = ((2 ^ (n - 64 * i) - 1 : Nat) : Int) := by
    clear e1
    generalize 2 ^ (n - 64 * i) = p at *
    omega
  rw [e2]
  congr 1
  refine wd_eq (by omega) _ i fun j hj => ?_
  rw [Nat.testBit_two_pow_sub_one]
  by_cases h : j < n - 64 * i
  · have : 64 * i + j < n := by omega
    simp [h, this]
  · have : ¬ 64 * i + j < n := by omega
    simp [h, this]
theorem word_none (f : Nat → Bool) (i : Nat) (h : ∀ j, j < 64 → f (64 * i + j) = false) : wd f i = 0 :=
  (wd_eq (by decide) f i fun j hj => by rw [h j hj]; simp).symm
theorem word_all (f : Nat → Bool) (i : Nat) (h : ∀ j, j < 64 → f (64 * i + j) = true) : wd f i = 18446744073709551615 :=
  (wd_eq (by decide) f i fun j hj => by
    rw [h j hj]
    have := Nat.testBit_two_pow_sub_one 64 j
    simp only [Nat.reducePow, Nat.reduceSub] at this
    rw [this]; simp [hj]).symm

/-- A set as a value. -/
def sv (f : Nat → Bool) : Value := .agg #[.int .u64 (wd f 0 : Int), .int .u64 (wd f 1 : Int), .int .u64 (wd f 2 : Int), .int .u64 (wd f 3 : Int)]
theorem sv_congr {f g : Nat → Bool} (h : ∀ k, k < 256 → f k = g k) : sv f = sv g := by
  unfold sv
  rw [wd_congr (i := 0) (f := f) (g := g) fun j hj => h _ (by omega), wd_congr (i := 1) (f := f) (g := g) fun j hj => h _ (by omega), wd_congr (i := 2) (f := f) (g := g) fun j hj => h _ (by omega), wd_congr (i := 3) (f := f) (g := g) fun j hj => h _ (by omega)]

end Go.Proofs.Ytpjmogcphgaimaa

namespace Go.Proofs.Ytpjmogcphgaimaa
open Go.RowKit

attribute [go_sem] sv
theorem w2of {B : Nat} {W w1 : World} (hb : Below B W w1) : (∀ b o, b < B → w1.cell? ⟨b, o, none⟩ = W.cell? ⟨b, o, none⟩) ∧ (∀ b o, b < B → w1.frozen? ⟨b, o, none⟩ = W.frozen? ⟨b, o, none⟩) :=
  ⟨fun b o h => hb.cell (p := ⟨b, o, none⟩) h, fun b o h => hb.frozen (p := ⟨b, o, none⟩) h⟩


theorem grownBy_of_below {w w' : World} (h : Below w.heap.size w w') : w.grownBy w' none := ⟨h.os, h.tape, h.output, h.size, fun k hk _ => h.block k hk⟩
theorem owns_below {w w' : World} {base : Nat} {e : TypeId} {size : Nat} {v : Value} {n : Nat} {xs : List Value} (h : w.ownsRow base e size v n xs) (hb : Below w.heap.size w w') : w'.ownsRow base e size v n xs :=
  h.kept (grownBy_of_below hb) (by cases v.ownBlock <;> simp)
theorem owns_mono {w : World} {base base' : Nat} {e : TypeId} {size : Nat} {v : Value} {n : Nat} {xs : List Value} (h : w.ownsRow base e size v n xs) (hb : base' ≤ base) : w.ownsRow base' e size v n xs := by
  obtain ⟨h0, h1⟩ := h
  refine ⟨h0, ?_⟩
  rcases h1 with h1 | ⟨g, cap, cur, h1, h2, h3⟩
  · exact .inl h1
  · exact .inr ⟨g, cap, cur, h1, Nat.le_trans hb h2, h3⟩
theorem below_drewN {B : Nat} {w w' : World} (n : Nat) (h : Below B w w') : Below B w (w'.drewN n) := ⟨h.os, h.tape, h.output, h.size, h.block⟩
theorem toList_data (s : ByteArray) : s.toList = s.data.toList := ByteArray.toList_eq s
/-- A set as a value, written out. -/
@[reducible] def svr (f : Nat → Bool) : Value := .agg #[.int .u64 (wd f 0 : Int), .int .u64 (wd f 1 : Int), .int .u64 (wd f 2 : Int), .int .u64 (wd f 3 : Int)]
end Go.Proofs.Ytpjmogcphgaimaa

namespace Go.Proofs.Ytpjmogcphgaimaa
open Go.RowKit

theorem below_two {w w1 w2 : World} (h1 : Below w.heap.size w w1) (h2 : Below w1.heap.size w1 w2) : Below w.heap.size w w2 := h1.trans (h2.mono h1.size)
theorem infoNode : (Try.prog.info? 44).map (fun i => (i.zero, i.size, i.bytes)) = some (some (.agg #[.int .i64 0, .int .u64 0, .int .u64 0, .int .u64 0, .int .u64 0, .int .i64 0, .int .i64 0]), 7, 56) := by kernel_rfl

/-- A token's cells at a place. -/
def tnAt (w : World) (b o : Nat) (x : Tn) : Prop := w.cell? ⟨b, o, none⟩ = some (.int .i64 x.k) ∧ w.cell? ⟨b, o + 1, none⟩ = some (.int .i64 x.p) ∧ w.cell? ⟨b, o + 2, none⟩ = some (.int .u64 x.a) ∧ w.cell? ⟨b, o + 3, none⟩ = some (.int .u64 x.b) ∧ w.cell? ⟨b, o + 4, none⟩ = some (.int .u64 x.c) ∧ w.cell? ⟨b, o + 5, none⟩ = some (.int .u64 x.d) ∧ w.cell? ⟨b, o + 6, none⟩ = some (.int .i64 x.lo) ∧ w.cell? ⟨b, o + 7, none⟩ = some (.int .i64 x.hi)
theorem tnAt.below {w w' : World} {b o B : Nat} {x : Tn} (h : tnAt w b o x) (hb : Below B w w') (hB : b < B) : tnAt w' b o x := by
  have c : ∀ x, w'.cell? ⟨b, x, none⟩ = w.cell? ⟨b, x, none⟩ := fun x => hb.cell (p := ⟨b, x, none⟩) hB
  unfold tnAt at h ⊢
  simp only [c]
  exact h
/-- The tokens that lie in a block from a place on. -/
def rdTn (w : World) (b off n : Nat) (T : Nat → Tn) : Prop := ∀ j, j < n → b < w.heap.size ∧ tnAt w b (off + j * 8) (T j)
theorem rdTn.below {w w' : World} {b off n : Nat} {T : Nat → Tn} (h : rdTn w b off n T) (hb : Below w.heap.size w w') : rdTn w' b off n T := fun j hj =>
  ⟨Nat.lt_of_lt_of_le (h j hj).1 hb.size, (h j hj).2.below hb (h j hj).1⟩

/-- A node's cells, as values; a row of nodes. -/
def ncs (x : Nd) : List Value := [.int .i64 x.k, .int .u64 x.a, .int .u64 x.b, .int .u64 x.c, .int .u64 x.d, .int .i64 x.lo, .int .i64 x.hi]
def nds (l : List Nd) : List Value := l.flatMap ncs
theorem nds_append (l r : List Nd) : nds (l ++ r) = nds l ++ nds r := by simp [nds]
theorem nds_one (x : Nd) : nds [x] = ncs x := by simp [nds]
theorem nds_len (l : List Nd) : (nds l).length = l.length * 7 := by
  induction l with
  | nil => rfl
  | cons x l ih => rw [show x :: l = [x] ++ l from rfl, nds_append, nds_one, List.length_append, ih, List.length_append]; simp [ncs]; omega
theorem nds_cell (l : List Nd) : ∀ u ∈ nds l, u.oneCell' = true := by
  intro u hu
  unfold nds at hu
  obtain ⟨x, _, hx⟩ := List.mem_flatMap.1 hu
  unfold ncs at hx
  simp at hx
  rcases hx with rfl | rfl | rfl | rfl | rfl | rfl | rfl <;> rfl
/-- A row of nodes that the call owns, not empty: its block. -/
theorem owns_block {w : World} {base : Nat} {e : TypeId} {v : Value} {l : List Nd} (h : w.ownsRow base e 7 v l.length (nds l)) (hl : 1 ≤ l.length) :
    ∃ g cap, v = .slice (some ⟨g, 0, none⟩) l.length cap ∧ base ≤ g ∧ g < w.heap.size ∧ ∀ j u, (nds l)[j]? = some u → w.cell? ((⟨g, 0, none⟩ : Addr).add j) = some u := by
  have hlt := h.lt
  rcases id h.2 with ⟨rfl, h0⟩ | ⟨g, cap, cur, rfl, _⟩
  · omega
  · exact ⟨g, cap, rfl, (hlt g rfl).1, (hlt g rfl).2, fun j u hu => h.cells rfl j u hu⟩
end Go.Proofs.Ytpjmogcphgaimaa

namespace Go.Proofs.Ytpjmogcphgaimaa
open Go.RowKit

theorem append_nds {w : World} {ops : Array Oper} {rest : List Oper} {o : Oper} {a : Act} {Q : Exit → Act → World → Prop} (hgd : o.guard = none) (s x : Operand)
    (ho : o.op = .call { callee := .builtin .append, args := #[s, x], argTypes := #[22, 22] }) (base : Nat) (v : Value) (l : List Nd) (hs : a.eval s = v)
    (hown : w.ownsRow base 44 7 v l.length (nds l)) (g c : Nat) (m : List Nd) (k : Nat) (hk : k = m.length) (hx : a.eval x = .slice (some ⟨g, 0, none⟩) k c)
    (hcell : ∀ j u, (nds m)[j]? = some u → w.cell? ((⟨g, 0, none⟩ : Addr).add j) = some u) (hlen : l.length + m.length ≤ 100000) (hbase : base ≤ w.heap.size)
    (h : ∀ v' w', w'.ownsRow base 44 7 v' (l ++ m).length (nds (l ++ m)) → Below base w w' → wpList Try.prog ops Q rest (a.put o.dst v') w') : wpList Try.prog ops Q (o :: rest) a w := by
  subst hk
  obtain ⟨i0, hi, hz0, hz1, hz2⟩ := info_parts infoNode
  refine wpList_append_own w hgd s x 22 ho base 44 i0 (.agg #[.int .i64 0, .int .u64 0, .int .u64 0, .int .u64 0, .int .u64 0, .int .i64 0, .int .i64 0]) 7 56 Try.underlying22 hi hz0 hz1 hz2 rfl (by decide) v l.length (nds l) hs hown ⟨g, 0, none⟩ m.length c (nds m) hx (nds_len m) hcell (nds_cell m) (by unfold maxLen; omega) (by omega) hbase ?_
  intro v' w' h1 h2 _
  refine h v' w' ?_ ?_
  · rw [nds_append, List.length_append]; exact h1
  · refine ⟨h2.os, h2.tape, h2.output, h2.size, fun k hk => ?_⟩
    refine h2.block k (by omega) fun e => ?_
    have := (hown.lt k e.symm).1
    omega

theorem wp_append_nds {w : World} {o : Oper} {a : Act} {K : Act → World → Prop} {Q : Exit → Act → World → Prop} (s x : Operand)
    (ho : o.op = .call { callee := .builtin .append, args := #[s, x], argTypes := #[22, 22] }) (base : Nat) (v : Value) (l : List Nd) (hs : a.eval s = v)
    (hown : w.ownsRow base 44 7 v l.length (nds l)) (g c : Nat) (m : List Nd) (k : Nat) (hk : k = m.length) (hx : a.eval x = .slice (some ⟨g, 0, none⟩) k c)
    (hcell : ∀ j u, (nds m)[j]? = some u → w.cell? ((⟨g, 0, none⟩ : Addr).add j) = some u) (hlen : l.length + m.length ≤ 100000) (hbase : base ≤ w.heap.size)
    (h : ∀ v' w', w'.ownsRow base 44 7 v' (l ++ m).length (nds (l ++ m)) → Below base w w' → K (a.put o.dst v') w') : o.wp Try.prog a w K Q := by
  subst hk
  obtain ⟨i0, hi, hz0, hz1, hz2⟩ := info_parts infoNode
  refine wp_append_own w s x 22 ho base 44 i0 (.agg #[.int .i64 0, .int .u64 0, .int .u64 0, .int .u64 0, .int .u64 0, .int .i64 0, .int .i64 0]) 7 56 Try.underlying22 hi hz0 hz1 hz2 rfl (by decide) v l.length (nds l) hs hown ⟨g, 0, none⟩ m.length c (nds m) hx (nds_len m) hcell (nds_cell m) (by unfold maxLen; omega) (by omega) hbase ?_
  intro v' w' h1 h2 _
  refine h v' w' ?_ ?_
  · rw [nds_append, List.length_append]; exact h1
  · refine ⟨h2.os, h2.tape, h2.output, h2.size, fun k hk => ?_⟩
    refine h2.block k (by omega) fun e => ?_
    have := (hown.lt k e.symm).1
    omega
theorem lit_nd (w : World) (x : Nd) : ∀ j u, (nds [x])[j]? = some u → (w.alloc (.cells #[.int .i64 x.k, .int .u64 x.a, .int .u64 x.b, .int .u64 x.c, .int .u64 x.d, .int .i64 x.lo, .int .i64 x.hi] 44)).cell? ((⟨w.heap.size, 0, none⟩ : Addr).add j) = some u := by
  intro j u hu
  rw [nds_one] at hu
  unfold ncs at hu
  match j, hu with
  | 0, hu => simp at hu; subst hu; simp [Addr.add]
  | 1, hu => simp at hu; subst hu; simp [Addr.add]
  | 2, hu => simp at hu; subst hu; simp [Addr.add]
  | 3, hu => simp at hu; subst hu; simp [Addr.add]
  | 4, hu => simp at hu; subst hu; simp [Addr.add]
  | 5, hu => simp at hu; subst hu; simp [Addr.add]
  | 6, hu => simp at hu; subst hu; simp [Addr.add]

theorem lit_owns (w : World) (base : Nat) (hb : base ≤ w.heap.size) (x : Nd) : (w.alloc (.cells #[.int .i64 x.k, .int .u64 x.a, .int .u64 x.b, .int .u64 x.c, .int .u64 x.d, .int .i64 x.lo, .int .i64 x.hi] 44)).ownsRow base 44 7 (.slice (some ⟨w.heap.size, 0, none⟩) 1 1) [x].length (nds [x]) := by
  have := World.ownsRow_lit (e := 44) (size := 7) w #[.int .i64 x.k, .int .u64 x.a, .int .u64 x.b, .int .u64 x.c, .int .u64 x.d, .int .i64 x.lo, .int .i64 x.hi] 1 hb (by unfold maxLen; omega) rfl
  rw [nds_one]; exact this

/-- What is told: a row of nodes, and a place. -/
def ndPost (r : List Nd × Nat) (w : World) (e : Ending) (w' : World) : Prop :=
  ∃ v, e = .returned (.tuple #[v, .int .i64 (r.2 : Int)]) ∧ w'.ownsRow w.heap.size 44 7 v r.1.length (nds r.1) ∧ Below w.heap.size w w'
theorem ndPost.mk {r : List Nd × Nat} {w w' : World} {v : Value} {x : Int} (l : List Nd) (i : Nat) (hr : r = (l, i)) (hx : x = i) (ho : w'.ownsRow w.heap.size 44 7 v l.length (nds l)) (hb : Below w.heap.size w w') : ndPost r w (.returned (.tuple #[v, .int .i64 x])) w' := by
  subst hr hx; exact ⟨v, rfl, ho, hb⟩
end Go.Proofs.Ytpjmogcphgaimaa

namespace Go.Proofs.Ytpjmogcphgaimaa
open Go.RowKit

theorem build_set (x0 x1 x2 x3 : Int) (w : World) : (Instr.build 44 #[(0, .int .i64 1), (1, .agg #[.int .u64 x0, .int .u64 x1, .int .u64 x2, .int .u64 x3])]).run Try.prog w = .ok (.agg #[.int .i64 1, .int .u64 x0, .int .u64 x1, .int .u64 x2, .int .u64 x3, .int .i64 0, .int .i64 0]) w := by kernel_rfl
theorem build_rep (lo hi : Int) (w : World) : (Instr.build 44 #[(0, .int .i64 7), (2, .int .i64 lo), (3, .int .i64 hi)]).run Try.prog w = .ok (.agg #[.int .i64 7, .int .u64 0, .int .u64 0, .int .u64 0, .int .u64 0, .int .i64 lo, .int .i64 hi]) w := by kernel_rfl
theorem wpList_build_set {ops : Array Oper} {rest : List Oper} {o : Oper} {a : Act} {w : World} {Q : Exit → Act → World → Prop} (hgd : o.guard = none) (x y : Operand) (ho : o.op = .build 44 #[(0, x), (1, y)])
    (x0 x1 x2 x3 : Int) (hx : a.eval x = .int .i64 1) (hy : a.eval y = .agg #[.int .u64 x0, .int .u64 x1, .int .u64 x2, .int .u64 x3])
    (h : wpList Try.prog ops Q rest (a.put o.dst (.agg #[.int .i64 1, .int .u64 x0, .int .u64 x1, .int .u64 x2, .int .u64 x3, .int .i64 0, .int .i64 0])) w) : wpList Try.prog ops Q (o :: rest) a w :=
  wpList_plain hgd fun K hK => by
    have hb := build_set x0 x1 x2 x3 w
    have hm : (#[(0, x), (1, y)] : Array (Nat × Operand)).map (fun (i, v) => (i, a.eval v)) = #[(0, a.eval x), (1, a.eval y)] := by simp
    unfold Oper.wp execOp
    simp only [ho]
    rw [hm, hx, hy]
    simp only [Sem.run_bind, hb, Result.andThen_ok]
    exact hK _ _ h
theorem wpList_build_rep {ops : Array Oper} {rest : List Oper} {o : Oper} {a : Act} {w : World} {Q : Exit → Act → World → Prop} (hgd : o.guard = none) (x y z : Operand) (ho : o.op = .build 44 #[(0, x), (2, y), (3, z)])
    (lo hi : Int) (hx : a.eval x = .int .i64 7) (hy : a.eval y = .int .i64 lo) (hz : a.eval z = .int .i64 hi)
    (h : wpList Try.prog ops Q rest (a.put o.dst (.agg #[.int .i64 7, .int .u64 0, .int .u64 0, .int .u64 0, .int .u64 0, .int .i64 lo, .int .i64 hi])) w) : wpList Try.prog ops Q (o :: rest) a w :=
  wpList_plain hgd fun K hK => by
    have hb := build_rep lo hi w
    have hm : (#[(0, x), (2, y), (3, z)] : Array (Nat × Operand)).map (fun (i, v) => (i, a.eval v)) = #[(0, a.eval x), (2, a.eval y), (3, a.eval z)] := by simp
    unfold Oper.wp execOp
    simp only [ho]
    rw [hm, hx, hy, hz]
    simp only [Sem.run_bind, hb, Result.andThen_ok]
    exact hK _ _ h
def rpRel (T : Nat → Tn) (n : Nat) (R : List Nd × Nat) (w : World) (v x : Value) (wr : World) : Prop :=
  ∃ (i u : Nat) (acc : List Nd), x = .int .i64 (i : Int) ∧ i ≤ 2 * n + 1 ∧ acc.length ≤ 4 * n + i ∧ 1 ≤ acc.length ∧ wr.ownsRow w.heap.size 44 7 v acc.length (nds acc) ∧ Below w.heap.size w wr ∧ Hid (R = (acc ++ (repsL T n u i).1, (repsL T n u i).2) ∧ n + 1 ≤ u + i)

end Go.Proofs.Ytpjmogcphgaimaa

namespace Go.Proofs.Ytpjmogcphgaimaa
open Go.RowKit

/-- Does the token ahead end a part? -/
def ahead (T : Nat → Tn) (i : Nat) : Bool := decide (0 < i) && endsP (T (i - 1)).k
def wrRel (T : Nat → Tn) (n : Nat) (R : Int × Int × Nat) (w : World) (o x : Value) (wr : World) : Prop :=
  ∃ (i u op : Nat), x = .int .i64 (i : Int) ∧ o = .int .i64 (op : Int) ∧ i ≤ n ∧ op ≤ 20 ∧ Below w.heap.size w wr ∧ Hid (wrF T n u i op = R ∧ n + 1 ≤ u + i)

end Go.Proofs.Ytpjmogcphgaimaa

namespace Go.Proofs.Ytpjmogcphgaimaa
open Go.RowKit

/-- What Of tells: a tree, or a place and an error. -/
def ofF (T : Nat → Tn) (n : Nat) (end_ : Int) : Option (List Nd) × Int × Int :=
  if (wrF T n (n + 1) 0 0).2.1 ≠ 0 then (none, (T (wrF T n (n + 1) 0 0).1.toNat).p, (wrF T n (n + 1) 0 0).2.1)
  else if 0 < (wrF T n (n + 1) 0 0).2.2 then (none, end_, 3)
  else if 512 < (ei T n (n + 1) 0).1.length then (none, 0, 4)
  else (some (ei T n (n + 1) 0).1, 0, 0)
def ofPost (r : Option (List Nd) × Int × Int) (w : World) (e : Ending) (w' : World) : Prop :=
  (∀ l, r.1 = some l → ∃ v, e = .returned (.tuple #[v, .int .i64 r.2.1, .int .i64 r.2.2]) ∧ w'.ownsRow w.heap.size 44 7 v l.length (nds l)) ∧ (r.1 = none → e = .returned (.tuple #[.slice none 0 0, .int .i64 r.2.1, .int .i64 r.2.2])) ∧ Below w.heap.size w w'
theorem ofPost.bad {r : Option (List Nd) × Int × Int} {w w' : World} (x y : Int) (h : r = (none, x, y)) (hb : Below w.heap.size w w') : ofPost r w (.returned (.tuple #[.slice none 0 0, .int .i64 x, .int .i64 y])) w' := by
  subst h
  exact ⟨fun l hl => (by cases hl), fun _ => rfl, hb⟩
theorem ofPost.good {r : Option (List Nd) × Int × Int} {w w' : World} {v : Value} (l : List Nd) (h : r = (some l, 0, 0)) (ho : w'.ownsRow w.heap.size 44 7 v l.length (nds l)) (hb : Below w.heap.size w w') : ofPost r w (.returned (.tuple #[v, .int .i64 0, .int .i64 0])) w' := by
  subst h
  exact ⟨fun l' hl => (by cases hl; exact ⟨v, rfl, ho⟩), fun hn => (by cases hn), hb⟩

end Go.Proofs.Ytpjmogcphgaimaa

namespace Go.Proofs.Ytpjmogcphgaimaa

/-- How many groups stand within one another. -/
def gd : Tr → Nat
  | .leaf x => if x.k = 2 then 1 else 0
  | .cat a b => max (gd a + (isOr a).toNat) (gd b + (isOr b || isCat b).toNat)
  | .or a b => max (gd a) (gd b + (isOr b).toNat)
  | .rep a _ _ => gd a + (isOr a || isCat a).toNat
def dp : Tr → Nat
  | .leaf _ => 1
  | .cat a b => max (dp a) (dp b) + 1
  | .or a b => max (dp a) (dp b) + 1
  | .rep a _ _ => dp a + 1
theorem toNat_le (b : Bool) : b.toNat ≤ 1 := by cases b <;> decide
theorem gd_dp : ∀ t, gd t ≤ dp t
  | .leaf x => by unfold gd dp; split <;> omega
  | .cat a b => by
    have h1 := gd_dp a; have h2 := gd_dp b; have h3 := toNat_le (isOr a); have h4 := toNat_le (isOr b || isCat b)
    show max (gd a + (isOr a).toNat) (gd b + (isOr b || isCat b).toNat) ≤ max (dp a) (dp b) + 1
    omega
  | .or a b => by
    have h1 := gd_dp a; have h2 := gd_dp b; have h3 := toNat_le (isOr b)
    show max (gd a) (gd b + (isOr b).toNat) ≤ max (dp a) (dp b) + 1
    omega
  | .rep a _ _ => by
    have h1 := gd_dp a; have h3 := toNat_le (isOr a || isCat a)
    show gd a + (isOr a || isCat a).toNat ≤ dp a + 1
    omega

/-- What Wrong tells of some tokens within d groups of their own. -/
def wrG (l : List Tn) (d : Nat) : Prop := ∀ (T : Nat → Tn) (n u i o : Nat), n + 1 ≤ u + i → hasT T n i l → o ≤ 20 →
  (o + d ≤ 20 → wrF T n u i o = wrF T n (u - l.length) (i + l.length) o) ∧ (20 < o + d → ∃ j q, wrF T n u i o = (j, 4, q))
def fin (l : List Tn) : Prop := ∃ m c, l = m ++ [c] ∧ endsP c.k = true
theorem fin_app {l m : List Tn} (h : fin m) : fin (l ++ m) := by
  obtain ⟨s, c, rfl, hc⟩ := h
  exact ⟨l ++ s, c, by simp, hc⟩
theorem fin_grp {b : Bool} {l : List Tn} (h : fin l) : fin (grp b l) := by
  cases b
  · exact h
  · exact ⟨tn0 3 :: l, tn0 4, rfl, rfl⟩
theorem fin_eT : ∀ t, fin (eT t)
  | .leaf x => by
    unfold eT
    by_cases c1 : x.k = 1
    · rw [if_pos c1]; exact ⟨[], _, rfl, rfl⟩
    · rw [if_neg c1]
      by_cases c2 : x.k = 2
      · rw [if_pos c2]; exact ⟨[tn0 3], tn0 4, rfl, rfl⟩
      · rw [if_neg c2]
        by_cases c3 : x.k = 3
        · rw [if_pos c3]; exact ⟨[], _, rfl, rfl⟩
        · rw [if_neg c3]; exact ⟨[], _, rfl, rfl⟩
  | .cat _ b => fin_app (fin_grp (fin_eT b))
  | .or a b => by
    obtain ⟨m, c, h, hc⟩ := fin_grp (b := isOr b) (fin_eT b)
    exact ⟨eT a ++ tn0 2 :: m, c, by show eT a ++ tn0 2 :: grp (isOr b) (eT b) = _; rw [h]; simp, hc⟩
  | .rep _ _ _ => ⟨_, tnR _ _, rfl, rfl⟩
theorem wrG_app {l1 l2 : List Tn} {d1 d2 : Nat} (h1 : wrG l1 d1) (h2 : wrG l2 d2) : wrG (l1 ++ l2) (max d1 d2) := by
  intro T n u i o hu hh ho
  obtain ⟨a1, a2⟩ := h1 T n u i o hu hh.left ho
  have hle := hh.left.1
  obtain ⟨b1, b2⟩ := h2 T n (u - l1.length) (i + l1.length) o (by omega) hh.right ho
  refine ⟨fun h => ?_, fun h => ?_⟩
  · rw [a1 (by omega), b1 (by omega), List.length_append, Nat.sub_add_eq, Nat.add_assoc]
  · by_cases h3 : 20 < o + d1
    · exact a2 h3
    · rw [a1 (by omega)]; exact b2 (by omega)
theorem wrF_step {T : Nat → Tn} {n u i o : Nat} (hi : i < n) (h1 : 1 ≤ (T i).k) (h7 : (T i).k ≤ 7) (h5 : (T i).k = 5 → badRep (T i) = false ∧ 0 < i ∧ endsP (T (i - 1)).k = true) (h3 : (T i).k = 3 → o ≠ 20) (h4 : (T i).k = 4 → o ≠ 0) :
    wrF T n (u + 1) i o = wrF T n u (i + 1) (if (T i).k = 3 then o + 1 else if (T i).k = 4 then o - 1 else o) := by
  conv => lhs; unfold wrF
  rw [if_neg (by omega), if_neg (by omega), if_neg (fun h => by rw [(h5 h.1).1] at h; simp at h), if_neg (fun h => h.2 (h5 h.1).2), if_neg (fun h => h3 h.1 h.2), if_neg (fun h => h4 h.1 h.2)]
theorem wrG_one {c : Tn} (h : c.k = 1 ∨ c.k = 2 ∨ c.k = 6 ∨ c.k = 7) : wrG [c] 0 := by
  intro T n u i o hu hh ho
  obtain ⟨k1, k2, -⟩ := hh.head
  refine ⟨fun _ => ?_, fun h => absurd h (by omega)⟩
  obtain ⟨v, rfl⟩ : ∃ v, u = v + 1 := ⟨u - 1, by omega⟩
  rw [wrF_step k1 (by omega) (by omega) (fun h => by omega) (fun h => by omega) (fun h => by omega), if_neg (by omega), if_neg (by omega)]
  rfl
theorem wrG_grp {l : List Tn} {d : Nat} (h : wrG l d) : wrG (tn0 3 :: (l ++ [tn0 4])) (d + 1) := by
  intro T n u i o hu hh ho
  obtain ⟨k1, k2, -⟩ := hh.head
  have k3 : (T i).k = 3 := k2
  have hT := hh.tail
  have hC := hT.right.head
  have k4 : (T (i + 1 + l.length)).k = 4 := hC.2.1
  have hle := hC.1
  obtain ⟨v, rfl⟩ : ∃ v, u = v + 1 := ⟨u - 1, by omega⟩
  by_cases h20 : o = 20
  · refine ⟨fun h => by omega, fun _ => ⟨(i : Int), o, ?_⟩⟩
    unfold wrF
    rw [if_neg (by omega), if_neg (by omega), if_neg (fun h => by omega), if_neg (fun h => by omega), if_pos ⟨k3, h20⟩]
  · rw [wrF_step k1 (by omega) (by omega) (fun h => by omega) (fun _ => h20) (fun h => by omega), if_pos k3]
    obtain ⟨a1, a2⟩ := h T n v (i + 1) (o + 1) (by omega) hT.left (by omega)
    refine ⟨fun hd => ?_, fun hd => a2 (by omega)⟩
    rw [a1 (by omega)]
    obtain ⟨w, hw⟩ : ∃ w, v - l.length = w + 1 := ⟨v - l.length - 1, by omega⟩
    rw [hw, wrF_step hle (by omega) (by omega) (fun h => by omega) (fun h => by omega) (fun _ => by omega), if_neg (by omega), if_pos k4]
    have e1 : w = v + 1 - (tn0 3 :: (l ++ [tn0 4])).length := by simp; omega
    have e2 : i + 1 + l.length + 1 = i + (tn0 3 :: (l ++ [tn0 4])).length := by simp; omega
    rw [e1, e2]
    rfl
theorem wrG_rep {l : List Tn} {d : Nat} (h : wrG l d) (hf : fin l) {lo hi : Int} (h1 : 0 ≤ lo) (h2 : lo ≤ 32) (h3 : hi = -1 ∨ (lo ≤ hi ∧ hi ≤ 32)) : wrG (l ++ [tnR lo hi]) d := by
  intro T n u i o hu hh ho
  obtain ⟨a1, a2⟩ := h T n u i o hu hh.left ho
  refine ⟨fun hd => ?_, a2⟩
  obtain ⟨k1, k2, -, -, -, -, k6, k7⟩ := hh.right.head
  have k5 : (T (i + l.length)).k = 5 := k2
  have k6' : (T (i + l.length)).lo = lo := k6
  have k7' : (T (i + l.length)).hi = hi := k7
  obtain ⟨m, c, e, hc⟩ := hf
  have hp : 0 < i + l.length ∧ endsP (T (i + l.length - 1)).k = true := by
    subst e
    have hl := hh.left.right.head
    have : (T (i + m.length)).k = c.k := hl.2.1
    rw [show i + (m ++ [c]).length - 1 = i + m.length by simp, this]
    exact ⟨by simp; omega, hc⟩
  have hb : badRep (T (i + l.length)) = false := by
    unfold badRep
    rw [k6', k7']
    rcases h3 with rfl | ⟨q1, q2⟩
    · simp; omega
    · simp; omega
  obtain ⟨w, hw⟩ : ∃ w, u - l.length = w + 1 := ⟨u - l.length - 1, by omega⟩
  rw [a1 hd, hw, wrF_step k1 (by omega) (by omega) (fun _ => ⟨hb, hp⟩) (fun h => by omega) (fun h => by omega), if_neg (by omega), if_neg (by omega)]
  rw [show u - (l ++ [tnR lo hi]).length = w by simp; omega, show i + (l ++ [tnR lo hi]).length = i + l.length + 1 by simp; omega]
theorem wrG_grp_if {b : Bool} {l : List Tn} {d : Nat} (h : wrG l d) : wrG (grp b l) (d + b.toNat) := by
  cases b
  · exact h
  · exact wrG_grp h
theorem wrG_nil : wrG [] 0 := fun T n u i o _ _ ho => ⟨fun _ => rfl, fun h => absurd h (by omega)⟩
theorem wrG_eT : ∀ t, okT t → wrG (eT t) (gd t)
  | .leaf x, h => by
    unfold eT gd
    by_cases c1 : x.k = 1
    · rw [if_pos c1, if_neg (by omega)]; exact wrG_one (.inl rfl)
    · rw [if_neg c1]
      by_cases c2 : x.k = 2
      · rw [if_pos c2, if_pos c2]; exact wrG_grp (l := []) wrG_nil
      · rw [if_neg c2, if_neg c2]
        by_cases c3 : x.k = 3
        · rw [if_pos c3]; exact wrG_one (.inr (.inr (.inl rfl)))
        · rw [if_neg c3]; exact wrG_one (.inr (.inr (.inr rfl)))
  | .cat a b, h => wrG_app (wrG_grp_if (wrG_eT a h.1)) (wrG_grp_if (wrG_eT b h.2))
  | .or a b, h => by
    have h1 : wrG (tn0 2 :: grp (isOr b) (eT b)) (gd b + (isOr b).toNat) := by
      have := wrG_app (wrG_one (c := tn0 2) (.inr (.inl rfl))) (wrG_grp_if (b := isOr b) (wrG_eT b h.2))
      rwa [Nat.zero_max] at this
    exact wrG_app (wrG_eT a h.1) h1
  | .rep a lo hi, h => wrG_rep (wrG_grp_if (wrG_eT a h.1)) (fin_grp (fin_eT a)) h.2.1 h.2.2.1 h.2.2.2
/-- What Of tells of a tree's tokens: the tree; or that too many groups stand within one another. -/
theorem of_back {t : Tr} (h : okT t) {T : Nat → Tn} {n : Nat} (hh : hasT T n 0 (eT t)) (hn : (eT t).length = n) (hp : (post t).length ≤ 512) (end_ : Int) :
    (gd t ≤ 20 → ofF T n end_ = (some (post t), 0, 0)) ∧ (20 < gd t → ∃ x, ofF T n end_ = (none, x, 4)) := by
  obtain ⟨a1, a2⟩ := wrG_eT t h T n (n + 1) 0 0 (by omega) hh (by omega)
  refine ⟨fun hg => ?_, fun hg => ?_⟩
  · have e : wrF T n (n + 1) 0 0 = (-1, 0, 0) := by
      rw [a1 (by omega), hn, show n + 1 - n = 1 by omega]
      unfold wrF
      rw [if_pos (by omega)]
    unfold ofF
    rw [e, ei_back h hh hn]
    simp only
    rw [if_neg (by decide), if_neg (by decide), if_neg (by omega)]
  · obtain ⟨j, q, e⟩ := a2 (by omega)
    refine ⟨(T j.toNat).p, ?_⟩
    unfold ofF
    rw [e, if_pos (show (4 : Int) ≠ 0 by decide)]
end Go.Proofs.Ytpjmogcphgaimaa
