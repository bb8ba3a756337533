/-
  Trees as tokens, and back: what the way down makes of the tokens that a tree is told as. Plain facts.
  Sets of bytes as functions from numbers to bools: a word of 64 bits out of such a function, and what the operations on words make of it. Plain facts, no program.
  What all texts lean on: imports, and small words on worlds.
  Nodes and tokens in memory: rows that a call owns, and what is read.
-/
import Derived.Test.YtpfbmbegddemoaaPk2
import Derived.WalkKit
import Derived.Test.YtpfbmbegddemoaaProg
import Derived.WalkSpells
import Derived.WalkLawsBesides
import Derived.Handy
import Derived.KernelRfl
import Derived.Deep.RegionHeld3
import Derived.Deep.RegionHeldLaw
import Derived.Deep.QuietTactic
import Derived.BigQuiet
import Derived.Lib.Hide
import Derived.OneCell
import Derived.Laws.StructEq
import Derived.Laws.OwnMore
import Derived.Test.YtpfbmbegddemoaaPk1
import Derived.OwnWalk
namespace Go.Proofs.Ytpfbmbegddemoaa

inductive Tr where
  | leaf (x : Nd)
  | cat (a b : Tr)
  | or (a b : Tr)
  | rep (a : Tr) (lo hi : Int)
def ndR (lo hi : Int) : Nd := ⟨7, 0, 0, 0, 0, lo, hi⟩
def post : Tr → List Nd
  | .leaf x => [x]
  | .cat a b => post a ++ post b ++ [nd0 5]
  | .or a b => post a ++ post b ++ [nd0 6]
  | .rep a lo hi => post a ++ [ndR lo hi]
def isOr : Tr → Bool
  | .or _ _ => true
  | _ => false
def isCat : Tr → Bool
  | .cat _ _ => true
  | _ => false
/-- The leaves are such as a tree may have, and the repeats. -/
def okT : Tr → Prop
  | .leaf x => (x.k = 1 ∧ x.lo = 0 ∧ x.hi = 0) ∨ x = nd0 2 ∨ x = nd0 3 ∨ x = nd0 4
  | .cat a b => okT a ∧ okT b
  | .or a b => okT a ∧ okT b
  | .rep a lo hi => okT a ∧ 0 ≤ lo ∧ lo ≤ 32 ∧ (hi = -1 ∨ (lo ≤ hi ∧ hi ≤ 32))
/-- Tokens, without their places. -/
def tn0 (k : Int) : Tn := ⟨k, 0, 0, 0, 0, 0, 0, 0⟩
def tnS (x : Nd) : Tn := ⟨1, 0, x.a, x.b, x.c, x.d, 0, 0⟩
def tnR (lo hi : Int) : Tn := ⟨5, 0, 0, 0, 0, 0, lo, hi⟩
def grp (b : Bool) (l : List Tn) : List Tn := if b = true then tn0 3 :: (l ++ [tn0 4]) else l
def eT : Tr → List Tn
  | .leaf x => if x.k = 1 then [tnS x] else if x.k = 2 then [tn0 3, tn0 4] else if x.k = 3 then [tn0 6] else [tn0 7]
  | .cat a b => grp (isOr a) (eT a) ++ grp (isOr b || isCat b) (eT b)
  | .or a b => eT a ++ tn0 2 :: grp (isOr b) (eT b)
  | .rep a lo hi => grp (isOr a || isCat a) (eT a) ++ [tnR lo hi]

/-- A token but for its place. -/
def sameT (t s : Tn) : Prop := t.k = s.k ∧ t.a = s.a ∧ t.b = s.b ∧ t.c = s.c ∧ t.d = s.d ∧ t.lo = s.lo ∧ t.hi = s.hi
def hasT (T : Nat → Tn) (n i : Nat) (l : List Tn) : Prop := i + l.length ≤ n ∧ ∀ j (h : j < l.length), sameT (T (i + j)) l[j]
theorem hasT.head {T : Nat → Tn} {n i : Nat} {c : Tn} {l : List Tn} (h : hasT T n i (c :: l)) : i < n ∧ sameT (T i) c := ⟨by have := h.1; simp at this; omega, h.2 0 (by simp)⟩
theorem hasT.tail {T : Nat → Tn} {n i : Nat} {c : Tn} {l : List Tn} (h : hasT T n i (c :: l)) : hasT T n (i + 1) l := ⟨by have := h.1; simp at this; omega, fun j hj => by
  have := h.2 (j + 1) (by simp; omega)
  simpa [show i + 1 + j = i + (j + 1) by omega] using this⟩
theorem hasT.left {T : Nat → Tn} {n i : Nat} {l m : List Tn} (h : hasT T n i (l ++ m)) : hasT T n i l := ⟨by have := h.1; simp at this; omega, fun j hj => by
  have := h.2 j (by simp; omega)
  simpa [List.getElem_append_left hj] using this⟩
theorem hasT.right {T : Nat → Tn} {n i : Nat} {l m : List Tn} (h : hasT T n i (l ++ m)) : hasT T n (i + l.length) m := ⟨by have := h.1; simp at this; omega, fun j hj => by
  have := h.2 (l.length + j) (by simp; omega)
  simpa [Nat.add_assoc] using this⟩

/-- A list of tokens begins as a part does. -/
def beg (l : List Tn) : Prop := ∃ c m, l = c :: m ∧ (c.k = 1 ∨ c.k = 3 ∨ c.k = 6 ∨ c.k = 7)
theorem beg_grp {b : Bool} {l : List Tn} (h : beg l) : beg (grp b l) := by
  cases b
  · exact h
  · exact ⟨tn0 3, _, rfl, .inr (.inl rfl)⟩
theorem beg_app {l m : List Tn} (h : beg l) : beg (l ++ m) := by
  obtain ⟨c, s, rfl, hc⟩ := h
  exact ⟨c, s ++ m, rfl, hc⟩
theorem beg_eT : ∀ t, okT t → beg (eT t)
  | .leaf x, h => by
    unfold eT
    by_cases c1 : x.k = 1
    · rw [if_pos c1]; exact ⟨_, _, rfl, .inl rfl⟩
    · rw [if_neg c1]
      by_cases c2 : x.k = 2
      · rw [if_pos c2]; exact ⟨_, _, rfl, .inr (.inl rfl)⟩
      · rw [if_neg c2]
        by_cases c3 : x.k = 3
        · rw [if_pos c3]; exact ⟨_, _, rfl, .inr (.inr (.inl rfl))⟩
        · rw [if_neg c3]; exact ⟨_, _, rfl, .inr (.inr (.inr rfl))⟩
  | .cat a _, h => beg_app (beg_grp (beg_eT a h.1))
  | .or a _, h => beg_app (beg_eT a h.1)
  | .rep a _ _, h => beg_app (beg_grp (beg_eT a h.1))
theorem beg.kind {T : Nat → Tn} {n i : Nat} {l : List Tn} (hb : beg l) (h : hasT T n i l) : i < n ∧ (T i).k ≠ 2 ∧ (T i).k ≠ 4 ∧ (T i).k ≠ 5 := by
  obtain ⟨c, m, rfl, hc⟩ := hb
  obtain ⟨h1, h2⟩ := h.head
  have := h2.1
  omega

/-- What the way down tells of a part, of parts one behind the other, of choices, of the whole. -/
def partsG (l : List Tn) (p : List Nd) : Prop := ∀ (T : Nat → Tn) (n u i : Nat), n ≤ u + i → hasT T n i l →
  ∃ x j r, partB T (ei T n u) i = (x, j) ∧ x ++ r = p ∧ repsL T n (n + 1) j = (r ++ (repsL T n (n + 1) (i + l.length)).1, (repsL T n (n + 1) (i + l.length)).2)
def chainG (l : List Tn) (p : List Nd) : Prop := ∀ (T : Nat → Tn) (n u i U : Nat), n ≤ u + i → hasT T n i l → (i + l.length < n → (T (i + l.length)).k ≠ 5) → n + 2 ≤ U →
  ∃ U' m, behL T n (ei T n u) U i [] 0 = behL T n (ei T n u) U' (i + l.length) p (m + 1) ∧ U ≤ U' + l.length
def altG (l : List Tn) (p : List Nd) : Prop := ∀ (T : Nat → Tn) (n u i : Nat), n ≤ u + i → hasT T n i l → (i + l.length < n → (T (i + l.length)).k = 2 ∨ (T (i + l.length)).k = 4) →
  ∃ U', eiF T n (ei T n u) i = eiL T n (ei T n u) U' (i + l.length) p ∧ n + 2 ≤ U' + l.length
def wholeG (l : List Tn) (p : List Nd) : Prop := ∀ (T : Nat → Tn) (n u i : Nat), n + 1 ≤ u + i → hasT T n i l → (i + l.length < n → (T (i + l.length)).k = 4) → ei T n u i = (p, i + l.length)

theorem reps_not {T : Nat → Tn} {n j : Nat} (h : j < n → (T j).k ≠ 5) : repsL T n (n + 1) j = ([], j) := by
  unfold repsL
  rw [if_neg (fun hh => h hh.1 hh.2)]
theorem reps_fuel (T : Nat → Tn) (n : Nat) : ∀ u i, n + 1 ≤ u + i → 0 < u → repsL T n u i = repsL T n (u + 1) i := by
  intro u
  induction u with
  | zero => intro i _ h; omega
  | succ u ih =>
    intro i h _
    unfold repsL
    split
    · rename_i hc
      rw [ih (i + 1) (by omega) (by omega)]
    · rfl
theorem reps_step {T : Nat → Tn} {n j : Nat} (h1 : j < n) (h2 : (T j).k = 5) : repsL T n (n + 1) j = (ndRep (T j) :: (repsL T n (n + 1) (j + 1)).1, (repsL T n (n + 1) (j + 1)).2) := by
  conv => lhs; unfold repsL
  rw [if_pos ⟨h1, h2⟩, reps_fuel T n n (j + 1) (by omega) (by omega)]
theorem part_of_parts {l : List Tn} {p : List Nd} (h : partsG l p) {T : Nat → Tn} {n u i : Nat} (hu : n ≤ u + i) (hh : hasT T n i l) (hn : i + l.length < n → (T (i + l.length)).k ≠ 5) : partF T n (ei T n u) i = (p, i + l.length) := by
  obtain ⟨x, j, r, h1, h2, h3⟩ := h T n u i hu hh
  unfold partF
  rw [h1]
  simp only
  rw [h3, reps_not hn]
  simp only [List.append_nil]
  rw [h2]
theorem beh_step {l : List Tn} {p : List Nd} (h : partsG l p) (hb : beg l) {T : Nat → Tn} {n u i : Nat} (hu : n ≤ u + i) (hh : hasT T n i l) (hn : i + l.length < n → (T (i + l.length)).k ≠ 5) (U : Nat) (acc : List Nd) (many : Nat) :
    behL T n (ei T n u) (U + 1) i acc many = behL T n (ei T n u) U (i + l.length) (acc ++ p ++ if many = 0 then [] else [nd0 5]) (many + 1) := by
  obtain ⟨k1, k2, k3, -⟩ := hb.kind hh
  conv => lhs; unfold behL
  rw [if_pos ⟨k1, k2, k3⟩, part_of_parts h hu hh hn]
theorem beg.pos {l : List Tn} (h : beg l) : 0 < l.length := by obtain ⟨c, m, rfl, -⟩ := h; simp
theorem chain_of_parts {l : List Tn} {p : List Nd} (h : partsG l p) (hb : beg l) : chainG l p := by
  intro T n u i U hu hh hn hU
  obtain ⟨V, rfl⟩ : ∃ V, U = V + 1 := ⟨U - 1, by omega⟩
  refine ⟨V, 0, ?_, by have := hb.pos; omega⟩
  rw [beh_step h hb hu hh hn]
  simp
theorem chain_cat {l1 l2 : List Tn} {p1 p2 : List Nd} (h1 : chainG l1 p1) (h2 : partsG l2 p2) (hb2 : beg l2) : chainG (l1 ++ l2) (p1 ++ p2 ++ [nd0 5]) := by
  intro T n u i U hu hh hn hU
  have hR := hh.right
  obtain ⟨k1, k2, k3, k4⟩ := hb2.kind hR
  obtain ⟨U', m, e1, e2⟩ := h1 T n u i U hu hh.left (fun _ => k4) hU
  have hle := hh.1
  rw [List.length_append] at hle hn
  obtain ⟨V, rfl⟩ : ∃ V, U' = V + 1 := ⟨U' - 1, by omega⟩
  refine ⟨V, m + 1, ?_, by have := hb2.pos; rw [List.length_append]; omega⟩
  rw [e1, beh_step h2 hb2 (by omega) hR (by rw [Nat.add_assoc]; exact hn), List.length_append, Nat.add_assoc]
  simp
theorem beh_of_chain {l : List Tn} {p : List Nd} (h : chainG l p) {T : Nat → Tn} {n u i : Nat} (hu : n ≤ u + i) (hh : hasT T n i l) (hn : i + l.length < n → (T (i + l.length)).k = 2 ∨ (T (i + l.length)).k = 4) : bhF T n (ei T n u) i = (p, i + l.length) := by
  obtain ⟨U', m, e1, e2⟩ := h T n u i (n + 2) hu hh (fun hl => by have := hn hl; omega) (Nat.le_refl _)
  have hle := hh.1
  obtain ⟨V, rfl⟩ : ∃ V, U' = V + 1 := ⟨U' - 1, by omega⟩
  unfold bhF
  rw [e1]
  unfold behL
  rw [if_neg (fun hc => by have := hn hc.1; omega), if_neg (by omega)]
theorem alt_of_chain {l : List Tn} {p : List Nd} (h : chainG l p) : altG l p := by
  intro T n u i hu hh hn
  refine ⟨n + 2, ?_, by omega⟩
  unfold eiF
  rw [beh_of_chain h hu hh hn]
theorem alt_or {l1 l2 : List Tn} {p1 p2 : List Nd} (h1 : altG l1 p1) (h2 : chainG l2 p2) : altG (l1 ++ tn0 2 :: l2) (p1 ++ p2 ++ [nd0 6]) := by
  intro T n u i hu hh hn
  have hR := hh.right
  obtain ⟨k1, k2⟩ := hR.head
  have hk : (T (i + l1.length)).k = 2 := k2.1
  obtain ⟨U', e1, e2⟩ := h1 T n u i hu hh.left (fun _ => .inl hk)
  have hle := hh.1
  have hlen : (l1 ++ tn0 2 :: l2).length = l1.length + 1 + l2.length := by simp; omega
  rw [hlen] at hle hn ⊢
  obtain ⟨V, rfl⟩ : ∃ V, U' = V + 1 := ⟨U' - 1, by omega⟩
  refine ⟨V, ?_, by omega⟩
  rw [e1]
  conv => lhs; unfold eiL
  rw [if_pos ⟨k1, hk⟩, beh_of_chain h2 (by omega) hR.tail (by rw [show i + l1.length + 1 + l2.length = i + (l1.length + 1 + l2.length) by omega]; exact hn)]
  rw [show i + l1.length + 1 + l2.length = i + (l1.length + 1 + l2.length) by omega]
theorem whole_of_alt {l : List Tn} {p : List Nd} (h : altG l p) : wholeG l p := by
  intro T n u i hu hh hn
  have hle := hh.1
  obtain ⟨v, rfl⟩ : ∃ v, u = v + 1 := ⟨u - 1, by omega⟩
  obtain ⟨U', e1, e2⟩ := h T n v i (by omega) hh (fun hl => .inr (hn hl))
  obtain ⟨V, rfl⟩ : ∃ V, U' = V + 1 := ⟨U' - 1, by omega⟩
  show eiF T n (ei T n v) i = _
  rw [e1]
  unfold eiL
  rw [if_neg (fun hc => by have := hn hc.1; omega)]
theorem parts_grp {l : List Tn} {p : List Nd} (h : wholeG l p) : partsG (tn0 3 :: (l ++ [tn0 4])) p := by
  intro T n u i hu hh
  obtain ⟨k1, k2⟩ := hh.head
  have hk : (T i).k = 3 := k2.1
  have hT := hh.tail
  have hC := hT.right.head
  have hk4 : (T (i + 1 + l.length)).k = 4 := hC.2.1
  have e := h T n u (i + 1) (by omega) hT.left (fun _ => hk4)
  refine ⟨p, i + 1 + l.length + 1, [], ?_, by simp, ?_⟩
  · unfold partB
    rw [if_neg (by omega), if_neg (by omega), if_neg (by omega), e]
  · rw [show i + (tn0 3 :: (l ++ [tn0 4])).length = i + 1 + l.length + 1 by simp; omega]; rfl
theorem parts_rep {l : List Tn} {p : List Nd} (h : partsG l p) (lo hi : Int) : partsG (l ++ [tnR lo hi]) (p ++ [ndR lo hi]) := by
  intro T n u i hu hh
  obtain ⟨x, j, r, h1, h2, h3⟩ := h T n u i hu hh.left
  obtain ⟨k1, k2⟩ := hh.right.head
  obtain ⟨q1, -, -, -, -, q6, q7⟩ := k2
  refine ⟨x, j, r ++ [ndR lo hi], h1, by rw [← List.append_assoc, h2], ?_⟩
  rw [h3, reps_step k1 q1]
  have e : ndRep (T (i + l.length)) = ndR lo hi := by unfold ndRep ndR; rw [q6, q7]; rfl
  rw [e, show i + (l ++ [tnR lo hi]).length = i + l.length + 1 by simp; omega]
  simp
theorem parts_grp_if {b : Bool} {l : List Tn} {p : List Nd} (h1 : b = true → wholeG l p) (h2 : b = false → partsG l p) : partsG (grp b l) p := by
  cases b
  · exact h2 rfl
  · exact parts_grp (h1 rfl)
theorem ei_shut {T : Nat → Tn} {n u i : Nat} (hu : n + 1 ≤ u + i) (hi : i < n) (hk : (T i).k = 4) : ei T n u i = ([nd0 2], i) := by
  obtain ⟨v, rfl⟩ : ∃ v, u = v + 1 := ⟨u - 1, by omega⟩
  show eiF T n (ei T n v) i = _
  have hb : bhF T n (ei T n v) i = ([nd0 2], i) := by
    unfold bhF behL
    rw [if_neg (fun h => h.2.2 hk), if_pos rfl]
  unfold eiF
  rw [hb]
  unfold eiL
  rw [if_neg (fun h => by have h2 : (T i).k = 2 := h.2; omega)]
theorem parts_leaf (x : Nd) (h : okT (.leaf x)) : partsG (eT (.leaf x)) [x] := by
  intro T n u i hu hh
  unfold eT at hh ⊢
  rcases h with ⟨c1, c2, c3⟩ | rfl | rfl | rfl
  · rw [if_pos c1] at hh ⊢
    obtain ⟨k1, q1, q2, q3, q4, q5, q6, q7⟩ := hh.head
    have q1' : (T i).k = 1 := q1
    refine ⟨[ndSet (T i)], i + 1, [], ?_, ?_, rfl⟩
    · unfold partB; rw [if_pos q1']
    · obtain ⟨k, a, b, c, d, lo, hi⟩ := x
      simp only at c1 c2 c3
      subst c1 c2 c3
      unfold ndSet; rw [q2, q3, q4, q5]; rfl
  · rw [if_neg (by decide), if_pos (by rfl)] at hh ⊢
    obtain ⟨k1, q1, -⟩ := hh.head
    have q1' : (T i).k = 3 := q1
    obtain ⟨k2, q2, -⟩ := hh.tail.head
    have q2' : (T (i + 1)).k = 4 := q2
    refine ⟨[nd0 2], i + 2, [], ?_, rfl, rfl⟩
    unfold partB
    rw [if_neg (by omega), if_neg (by omega), if_neg (by omega), ei_shut (by omega) k2 q2']
  · rw [if_neg (by decide), if_neg (by decide), if_pos (by rfl)] at hh ⊢
    obtain ⟨k1, q1, -⟩ := hh.head
    have q1' : (T i).k = 6 := q1
    refine ⟨[nd0 3], i + 1, [], ?_, rfl, rfl⟩
    unfold partB; rw [if_neg (by omega), if_pos q1']
  · rw [if_neg (by decide), if_neg (by decide), if_neg (by decide)] at hh ⊢
    obtain ⟨k1, q1, -⟩ := hh.head
    have q1' : (T i).k = 7 := q1
    refine ⟨[nd0 4], i + 1, [], ?_, rfl, rfl⟩
    unfold partB; rw [if_neg (by omega), if_neg (by omega), if_pos q1']
theorem back_all : ∀ t, okT t → (isOr t = false → isCat t = false → partsG (eT t) (post t)) ∧ (isOr t = false → chainG (eT t) (post t)) ∧ altG (eT t) (post t)
  | .leaf x, h => by
    have h1 := parts_leaf x h
    have h2 := chain_of_parts h1 (beg_eT _ h)
    exact ⟨fun _ _ => h1, fun _ => h2, alt_of_chain h2⟩
  | .cat a b, h => by
    obtain ⟨a1, a2, a3⟩ := back_all a h.1
    obtain ⟨b1, b2, b3⟩ := back_all b h.2
    have hb : partsG (grp (isOr b || isCat b) (eT b)) (post b) := parts_grp_if (fun _ => whole_of_alt b3) (fun e => by rw [Bool.or_eq_false_iff] at e; exact b1 e.1 e.2)
    have ha : chainG (grp (isOr a) (eT a)) (post a) := by
      cases ho : isOr a
      · exact a2 ho
      · exact chain_of_parts (parts_grp (whole_of_alt a3)) ⟨_, _, rfl, .inr (.inl rfl)⟩
    have h2 := chain_cat ha hb (beg_grp (beg_eT b h.2))
    exact ⟨(fun _ h => by cases h), fun _ => h2, alt_of_chain h2⟩
  | .or a b, h => by
    obtain ⟨a1, a2, a3⟩ := back_all a h.1
    obtain ⟨b1, b2, b3⟩ := back_all b h.2
    have hb : chainG (grp (isOr b) (eT b)) (post b) := by
      cases ho : isOr b
      · exact b2 ho
      · exact chain_of_parts (parts_grp (whole_of_alt b3)) ⟨_, _, rfl, .inr (.inl rfl)⟩
    exact ⟨(fun h => by cases h), (fun h => by cases h), alt_or a3 hb⟩
  | .rep a lo hi, h => by
    obtain ⟨a1, a2, a3⟩ := back_all a h.1
    have h1 : partsG (eT (.rep a lo hi)) (post (.rep a lo hi)) := parts_rep (parts_grp_if (fun _ => whole_of_alt a3) (fun e => by rw [Bool.or_eq_false_iff] at e; exact a1 e.1 e.2)) lo hi
    have h2 := chain_of_parts h1 (beg_eT (.rep a lo hi) h)
    exact ⟨fun _ _ => h1, fun _ => h2, alt_of_chain h2⟩
/-- The way down, of a tree's tokens: the tree. -/
theorem ei_back {t : Tr} (h : okT t) {T : Nat → Tn} {n : Nat} (hh : hasT T n 0 (eT t)) (hn : (eT t).length = n) : ei T n (n + 1) 0 = (post t, n) := by
  have := whole_of_alt (back_all t h).2.2 T n (n + 1) 0 (by omega) hh (fun h => by omega)
  rwa [Nat.zero_add, hn] at this
end Go.Proofs.Ytpfbmbegddemoaa

namespace Go.Proofs.Ytpfbmbegddemoaa

/-- The number whose bit j is f (b + j), for j below n. -/
def bitsTo (f : Nat → Bool) (b : Nat) : Nat → Nat
  | 0 => 0
  | n + 1 => bitsTo f b n + if f (b + n) = true then 2 ^ n else 0

theorem bitsTo_lt (f : Nat → Bool) (b n : Nat) : bitsTo f b n < 2 ^ n := by
  induction n with
  | zero => simp [bitsTo]
  | succ n ih =>
    simp only [bitsTo]
    have : 2 ^ (n + 1) = 2 * 2 ^ n := by rw [Nat.pow_succ]; omega
    split <;> omega

theorem bitsTo_testBit (f : Nat → Bool) (b n j : Nat) : (bitsTo f b n).testBit j = (decide (j < n) && f (b + j)) := by
  induction n with
  | zero => simp [bitsTo]
  | succ n ih =>
    simp only [bitsTo]
    by_cases hj : j < n
    · have h1 : decide (j < n + 1) = true := by simp; omega
      rw [h1]
      have h2 : decide (j < n) = true := by simp [hj]
      rw [h2] at ih
      split
      · rw [Nat.add_comm, Nat.testBit_two_pow_add_gt hj, ih]
      · rw [Nat.add_zero, ih]
    · by_cases he : j = n
      · subst he
        have h0 : (bitsTo f b j).testBit j = false := by rw [ih]; simp
        split
        · rename_i hf
          rw [Nat.add_comm, Nat.testBit_two_pow_add_eq, h0, hf]; simp
        · rename_i hf
          rw [Nat.add_zero, h0]
          simp at hf
          rw [hf]; simp
      · have h1 : decide (j < n + 1) = false := by simp; omega
        rw [h1]
        have hl := bitsTo_lt f b n
        have hp : 2 ^ (n + 1) ≤ 2 ^ j := Nat.pow_le_pow_right (by decide) (by omega)
        have hq : 2 ^ (n + 1) = 2 * 2 ^ n := by rw [Nat.pow_succ]; omega
        rw [Nat.testBit_lt_two_pow]
        · simp
        · split <;> omega

/-- Word i of a set. -/
def wd (f : Nat → Bool) (i : Nat) : Nat := bitsTo f (64 * i) 64
theorem wd_lt (f : Nat → Bool) (i : Nat) : wd f i < 18446744073709551616 := bitsTo_lt f (64 * i) 64
theorem wd_testBit (f : Nat → Bool) (i j : Nat) : (wd f i).testBit j = (decide (j < 64) && f (64 * i + j)) := bitsTo_testBit f (64 * i) 64 j

theorem eq_of_bits {x y : Nat} (hx : x < 18446744073709551616) (hy : y < 18446744073709551616) (h : ∀ j, j < 64 → x.testBit j = y.testBit j) : x = y := by
  apply Nat.eq_of_testBit_eq
  intro j
  by_cases hj : j < 64
  · exact h j hj
  · have hp : 2 ^ 64 ≤ 2 ^ j := Nat.pow_le_pow_right (by decide) (by omega)
    rw [Nat.testBit_lt_two_pow (by omega), Nat.testBit_lt_two_pow (by omega)]

/-- A number below 2 to the 64 is the word of its own bits. -/
theorem wd_eq {x : Nat} (hx : x < 18446744073709551616) (f : Nat → Bool) (i : Nat) (h : ∀ j, j < 64 → x.testBit j = f (64 * i + j)) : x = wd f i :=
  eq_of_bits hx (wd_lt f i) fun j hj => by rw [wd_testBit, h j hj]; simp [hj]

theorem wd_congr {f g : Nat → Bool} {i : Nat} (h : ∀ j, j < 64 → f (64 * i + j) = g (64 * i + j)) : wd f i = wd g i :=
  wd_eq (wd_lt f i) g i fun j hj => by rw [wd_testBit, h j hj]; simp [hj]

/-- The function of four words. -/
def ofWords (x0 x1 x2 x3 : Nat) (k : Nat) : Bool :=
  if k < 64 then x0.testBit k else if k < 128 then x1.testBit (k - 64) else if k < 192 then x2.testBit (k - 128) else x3.testBit (k - 192)
theorem ofWords_wd {x0 x1 x2 x3 : Nat} (h0 : x0 < 18446744073709551616) (h1 : x1 < 18446744073709551616) (h2 : x2 < 18446744073709551616) (h3 : x3 < 18446744073709551616) :
    x0 = wd (ofWords x0 x1 x2 x3) 0 ∧ x1 = wd (ofWords x0 x1 x2 x3) 1 ∧ x2 = wd (ofWords x0 x1 x2 x3) 2 ∧ x3 = wd (ofWords x0 x1 x2 x3) 3 := by
  refine ⟨wd_eq h0 _ 0 ?_, wd_eq h1 _ 1 ?_, wd_eq h2 _ 2 ?_, wd_eq h3 _ 3 ?_⟩ <;> intro j hj <;> unfold ofWords
  · rw [if_pos (by omega)]; simp
  · rw [if_neg (by omega), if_pos (by omega), show 64 * 1 + j - 64 = j from by omega]
  · rw [if_neg (by omega), if_neg (by omega), if_pos (by omega), show 64 * 2 + j - 128 = j from by omega]
  · rw [if_neg (by omega), if_neg (by omega), if_neg (by omega), show 64 * 3 + j - 192 = j from by omega]

theorem word_or (f g : Nat → Bool) (i : Nat) : bits .or .u64 (wd f i : Int) (wd g i : Int) = (wd (fun k => f k || g k) i : Nat) := by
  rw [bits_or_u64_nat _ _ (wd_lt f i) (wd_lt g i)]
  congr 1
  refine wd_eq (Nat.or_lt_two_pow (n := 64) (wd_lt f i) (wd_lt g i)) _ i fun j hj => ?_
  rw [Nat.testBit_or, wd_testBit, wd_testBit]; simp [hj]
theorem word_and (f g : Nat → Bool) (i : Nat) : bits .and .u64 (wd f i : Int) (wd g i : Int) = (wd (fun k => f k && g k) i : Nat) := by
  rw [bits_and_u64_nat _ _ (wd_lt f i) (wd_lt g i)]
  congr 1
  refine wd_eq (Nat.and_lt_two_pow (n := 64) _ (wd_lt g i)) _ i fun j hj => ?_
  rw [Nat.testBit_and, wd_testBit, wd_testBit]; simp [hj]
theorem word_less (f g : Nat → Bool) (i : Nat) : bits .andNot .u64 (wd f i : Int) (wd g i : Int) = (wd (fun k => f k && !g k) i : Nat) := by
  have e : bits .andNot .u64 (wd f i : Int) (wd g i : Int) = ((wd f i &&& (18446744073709551615 - wd g i) : Nat) : Int) := by
    have := u64_andNot_nat (wd f i) (wd g i) (wd_lt f i) (wd_lt g i)
    exact this
  rw [e]
  congr 1
  have hn : 18446744073709551615 - wd g i = wd (fun k => !g k) i := by
    refine wd_eq (by omega) _ i fun j hj => ?_
    have h := wd_lt g i
    have := Nat.testBit_two_pow_sub_succ (n := 64) (x := wd g i) h j
    have e2 : 2 ^ 64 - (wd g i + 1) = 18446744073709551615 - wd g i := by omega
    rw [e2] at this
    rw [this, wd_testBit]; simp [hj]
  rw [hn]
  refine wd_eq (Nat.and_lt_two_pow (n := 64) _ (wd_lt _ i)) _ i fun j hj => ?_
  rw [Nat.testBit_and, wd_testBit, wd_testBit]; simp [hj]

/-- The test of a bit. -/
theorem word_has (f : Nat → Bool) (i j : Nat) (hj : j < 64) : (bits .and .u64 ((wd f i : Int) / 2 ^ j) 1 == 1) = f (64 * i + j) := by
  have e0 : ((wd f i : Int) / 2 ^ j) = ((wd f i / 2 ^ j : Nat) : Int) := by simp
  have hl : wd f i / 2 ^ j < 18446744073709551616 := Nat.lt_of_le_of_lt (Nat.div_le_self _ _) (wd_lt f i)
  rw [e0, show (1 : Int) = ((1 : Nat) : Int) from rfl, bits_and_u64_nat _ _ hl (by decide)]
  have hb : (wd f i).testBit j = f (64 * i + j) := by rw [wd_testBit]; simp [hj]
  rw [← hb, Nat.testBit_eq_decide_div_mod_eq, Nat.and_one_is_mod]
  have h2 : wd f i / 2 ^ j % 2 = 0 ∨ wd f i / 2 ^ j % 2 = 1 := by omega
  rcases h2 with h2 | h2 <;> rw [h2] <;> decide

/-- The word with one bit more. -/
theorem word_put (f : Nat → Bool) (i j : Nat) (hj : j < 64) : bits .or .u64 (wd f i : Int) (IntKind.u64.wrap (2 ^ j)) = (wd (fun k => f k || decide (k = 64 * i + j)) i : Nat) := by
  have hlt : 2 ^ j < 2 ^ 64 := Nat.pow_lt_pow_right (by decide) hj
  have e : IntKind.u64.wrap (2 ^ j) = ((2 ^ j : Nat) : Int) := by
    rw [IntKind.wrap_u64]
    have e1 : ((2 : Int) ^ j) = ((2 ^ j : Nat) : Int) := by simp
    rw [e1]
    generalize 2 ^ j = p at *
    omega
  rw [e, bits_or_u64_nat _ _ (wd_lt f i) (by omega)]
  congr 1
  refine wd_eq (Nat.or_lt_two_pow (n := 64) (wd_lt f i) hlt) _ i fun k hk => ?_
  rw [Nat.testBit_or, wd_testBit, Nat.testBit_two_pow]
  simp [hk]
  by_cases h : j = k <;> simp [h]
  omega
theorem word_put_other (f : Nat → Bool) (i c : Nat) (h : c / 64 ≠ i) : wd (fun k => f k || decide (k = c)) i = wd f i :=
  wd_congr fun j hj => by
    have : ¬ (64 * i + j = c) := by omega
    simp [this]

/-- The bytes below n. -/
theorem word_below (n i : Nat) (h0 : 64 * i < n) (h1 : n < 64 * i + 64) : IntKind.u64.wrap (IntKind.u64.wrap (2 ^ (n - 64 * i)) - 1) = (wd (fun k => decide (k < n)) i : Nat) := by
  have hlt : 2 ^ (n - 64 * i) < 2 ^ 64 := Nat.pow_lt_pow_right (by decide) (by omega)
  have hpos : 0 < 2 ^ (n - 64 * i) := Nat.two_pow_pos _
  have e1 : ((2 : Int) ^ (n - 64 * i)) = ((2 ^ (n - 64 * i) : Nat) : Int) := by simp
  rw [IntKind.wrap_u64, IntKind.wrap_u64, e1]
  have e2 : ((((2 ^ (n - 64 * i) : Nat) : Int) % 18446744073709551616 - 1) % 18446744073709551616) = ((2 ^ (n - 64 * i) - 1 : Nat) : Int) := by
    clear e1
    generalize 2 ^ (n - 64 * i) = p at *
    omega
  rw [e2]
  congr 1
  refine wd_eq (by omega) _ i fun j hj => ?_
  rw [Nat.testBit_two_pow_sub_one]
  by_cases h : j < n - 64 * i
  · have : 64 * i + j < n := by omega
    simp [h, this]
  · have : ¬ 64 * i + j < n := by omega
    simp [h, this]
theorem word_none (f : Nat → Bool) (i : Nat) (h : ∀ j, j < 64 → f (64 * i + j) = false) : wd f i = 0 :=
  (wd_eq (by decide) f i fun j hj => by rw [h j hj]; simp).symm
theorem word_all (f : Nat → Bool) (i : Nat) (h : ∀ j, j < 64 → f (64 * i + j) = true) : wd f i = 18446744073709551615 :=
  (wd_eq (by decide) f i fun j hj => by
    rw [h j hj]
    have := Nat.testBit_two_pow_sub_one 64 j
    simp only [Nat.reducePow, Nat.reduceSub] at this
    rw [this]; simp [hj]).symm

/-- A set as a value. -/
def sv (f : Nat → Bool) : Value := .agg #[.int .u64 (wd f 0 : Int), .int .u64 (wd f 1 : Int), .int .u64 (wd f 2 : Int), .int .u64 (wd f 3 : Int)]
theorem sv_congr {f g : Nat → Bool} (h : ∀ k, k < 256 → f k = g k) : sv f = sv g := by
  unfold sv
  rw [wd_congr (i := 0) (f := f) (g := g) fun j hj => h _ (by omega), wd_congr (i := 1) (f := f) (g := g) fun j hj => h _ (by omega), wd_congr (i := 2) (f := f) (g := g) fun j hj => h _ (by omega), wd_congr (i := 3) (f := f) (g := g) fun j hj => h _ (by omega)]

end Go.Proofs.Ytpfbmbegddemoaa

namespace Go.Proofs.Ytpfbmbegddemoaa
open Go.RowKit

attribute [go_sem] sv
theorem w2of {B : Nat} {W w1 : World} (hb : Below B W w1) : (∀ b o, b < B → w1.cell? ⟨b, o, none⟩ = W.cell? ⟨b, o, none⟩) ∧ (∀ b o, b < B → w1.frozen? ⟨b, o, none⟩ = W.frozen? ⟨b, o, none⟩) :=
  ⟨fun b o h => hb.cell (p := ⟨b, o, none⟩) h, fun b o h => hb.frozen (p := ⟨b, o, none⟩) h⟩


theorem grownBy_of_below {w w' : World} (h : Below w.heap.size w w') : w.grownBy w' none := ⟨h.os, h.tape, h.output, h.size, fun k hk _ => h.block k hk⟩
theorem owns_below {w w' : World} {base : Nat} {e : TypeId} {size : Nat} {v : Value} {n : Nat} {xs : List Value} (h : w.ownsRow base e size v n xs) (hb : Below w.heap.size w w') : w'.ownsRow base e size v n xs :=
  h.kept (grownBy_of_below hb) (by cases v.ownBlock <;> simp)
theorem owns_mono {w : World} {base base' : Nat} {e : TypeId} {size : Nat} {v : Value} {n : Nat} {xs : List Value} (h : w.ownsRow base e size v n xs) (hb : base' ≤ base) : w.ownsRow base' e size v n xs := by
  obtain ⟨h0, h1⟩ := h
  refine ⟨h0, ?_⟩
  rcases h1 with h1 | ⟨g, cap, cur, h1, h2, h3⟩
  · exact .inl h1
  · exact .inr ⟨g, cap, cur, h1, Nat.le_trans hb h2, h3⟩
theorem below_drewN {B : Nat} {w w' : World} (n : Nat) (h : Below B w w') : Below B w (w'.drewN n) := ⟨h.os, h.tape, h.output, h.size, h.block⟩
theorem toList_data (s : ByteArray) : s.toList = s.data.toList := ByteArray.toList_eq s
/-- A set as a value, written out. -/
@[reducible] def svr (f : Nat → Bool) : Value := .agg #[.int .u64 (wd f 0 : Int), .int .u64 (wd f 1 : Int), .int .u64 (wd f 2 : Int), .int .u64 (wd f 3 : Int)]
end Go.Proofs.Ytpfbmbegddemoaa

namespace Go.Proofs.Ytpfbmbegddemoaa
open Go.RowKit

theorem below_two {w w1 w2 : World} (h1 : Below w.heap.size w w1) (h2 : Below w1.heap.size w1 w2) : Below w.heap.size w w2 := h1.trans (h2.mono h1.size)
/-- A token's cells at a place. -/
def tnAt (w : World) (b o : Nat) (x : Tn) : Prop := w.cell? ⟨b, o, none⟩ = some (.int .i64 x.k) ∧ w.cell? ⟨b, o + 1, none⟩ = some (.int .i64 x.p) ∧ w.cell? ⟨b, o + 2, none⟩ = some (.int .u64 x.a) ∧ w.cell? ⟨b, o + 3, none⟩ = some (.int .u64 x.b) ∧ w.cell? ⟨b, o + 4, none⟩ = some (.int .u64 x.c) ∧ w.cell? ⟨b, o + 5, none⟩ = some (.int .u64 x.d) ∧ w.cell? ⟨b, o + 6, none⟩ = some (.int .i64 x.lo) ∧ w.cell? ⟨b, o + 7, none⟩ = some (.int .i64 x.hi)
theorem tnAt.below {w w' : World} {b o B : Nat} {x : Tn} (h : tnAt w b o x) (hb : Below B w w') (hB : b < B) : tnAt w' b o x := by
  have c : ∀ x, w'.cell? ⟨b, x, none⟩ = w.cell? ⟨b, x, none⟩ := fun x => hb.cell (p := ⟨b, x, none⟩) hB
  unfold tnAt at h ⊢
  simp only [c]
  exact h
/-- The tokens that lie in a block from a place on. -/
def rdTn (w : World) (b off n : Nat) (T : Nat → Tn) : Prop := ∀ j, j < n → b < w.heap.size ∧ tnAt w b (off + j * 8) (T j)
theorem rdTn.below {w w' : World} {b off n : Nat} {T : Nat → Tn} (h : rdTn w b off n T) (hb : Below w.heap.size w w') : rdTn w' b off n T := fun j hj =>
  ⟨Nat.lt_of_lt_of_le (h j hj).1 hb.size, (h j hj).2.below hb (h j hj).1⟩

/-- A node's cells, as values; a row of nodes. -/
def ncs (x : Nd) : List Value := [.int .i64 x.k, .int .u64 x.a, .int .u64 x.b, .int .u64 x.c, .int .u64 x.d, .int .i64 x.lo, .int .i64 x.hi]
def nds (l : List Nd) : List Value := l.flatMap ncs
theorem nds_append (l r : List Nd) : nds (l ++ r) = nds l ++ nds r := by simp [nds]
theorem nds_one (x : Nd) : nds [x] = ncs x := by simp [nds]
theorem nds_len (l : List Nd) : (nds l).length = l.length * 7 := by
  induction l with
  | nil => rfl
  | cons x l ih => rw [show x :: l = [x] ++ l from rfl, nds_append, nds_one, List.length_append, ih, List.length_append]; simp [ncs]; omega
theorem nds_cell (l : List Nd) : ∀ u ∈ nds l, u.oneCell' = true := by
  intro u hu
  unfold nds at hu
  obtain ⟨x, _, hx⟩ := List.mem_flatMap.1 hu
  unfold ncs at hx
  simp at hx
  rcases hx with rfl | rfl | rfl | rfl | rfl | rfl | rfl <;> rfl
/-- A row of nodes that the call owns, not empty: its block. -/
theorem owns_block {w : World} {base : Nat} {e : TypeId} {v : Value} {l : List Nd} (h : w.ownsRow base e 7 v l.length (nds l)) (hl : 1 ≤ l.length) :
    ∃ g cap, v = .slice (some ⟨g, 0, none⟩) l.length cap ∧ base ≤ g ∧ g < w.heap.size ∧ ∀ j u, (nds l)[j]? = some u → w.cell? ((⟨g, 0, none⟩ : Addr).add j) = some u := by
  have hlt := h.lt
  rcases id h.2 with ⟨rfl, h0⟩ | ⟨g, cap, cur, rfl, _⟩
  · omega
  · exact ⟨g, cap, rfl, (hlt g rfl).1, (hlt g rfl).2, fun j u hu => h.cells rfl j u hu⟩
end Go.Proofs.Ytpfbmbegddemoaa
