/-
  Trees as lists: where a part begins, what is a tree, how deep it is: the plain mathematics.
  The fifth reference's way down: what tokens are, as a tree: the plain mathematics.
  The fifth reference's Wrong: the first token that is wrong: the plain mathematics.
  The fifth reference's way down keeps the order: the leaves of what it tells are the tokens that make leaves, in order.
  Trees as tokens, and back: what the way down makes of the tokens that a tree is told as. Plain facts.
  Sets of bytes as functions from numbers to bools: a word of 64 bits out of such a function, and what the operations on words make of it. Plain facts, no program.
  What all texts lean on: imports, and small words on worlds.
  Nodes and tokens in memory: rows that a call owns, and what is read.
-/
import Derived.Test.YtefpoapbodbenaaRows
import Derived.WalkKit
import Derived.Test.YtefpoapbodbenaaProg
import Derived.WalkSpells
import Derived.WalkLawsBesides
import Derived.Handy
import Derived.KernelRfl
import Derived.Deep.RegionHeld3
import Derived.Deep.RegionHeldLaw
import Derived.Deep.QuietTactic
import Derived.BigQuiet
import Derived.Lib.Hide
import Derived.OneCell
import Derived.Laws.StructEq
import Derived.Laws.OwnMore
import Derived.OwnWalk
namespace Go.Proofs.Ytefpoapbodbenaa

/-- A node: its kind, the words of its set, Lo and Hi. -/
structure Nd where
  k : Int
  a : Int
  b : Int
  c : Int
  d : Int
  lo : Int
  hi : Int

/-- How many arguments a kind has. -/
def ar (k : Int) : Int := if k = 1 ∨ k = 2 ∨ k = 3 ∨ k = 4 then 0 else if k = 7 then 1 else if k = 5 ∨ k = 6 then 2 else -1
/-- Where m parts begin, the last of which ends right ahead of p; -1: nowhere. -/
def back (N : Nat → Nd) : Nat → Nat → Int
  | 0, m => if m = 0 then 0 else -1
  | p + 1, m => if m = 0 then (p + 1 : Nat) else if ar (N p).k < 0 then -1 else back N p (m - 1 + (ar (N p).k).toNat)
/-- Where the part begins whose last node is i. -/
def fst (N : Nat → Nd) (i : Nat) : Int := back N (i + 1) 1
/-- Are a node's Set, Lo and Hi such as its kind lets be? -/
def okN (x : Nd) : Bool := (x.k == 1 || (x.a == 0 && x.b == 0 && x.c == 0 && x.d == 0)) && (if x.k = 7 then decide (0 ≤ x.lo) && decide (x.lo ≤ 32) && (x.hi == -1 || (decide (x.lo ≤ x.hi) && decide (x.hi ≤ 32))) else x.lo == 0 && x.hi == 0)

/-- How many parts are nobody's argument ahead of node k. -/
def dep (N : Nat → Nd) : Nat → Int
  | 0 => 0
  | k + 1 => dep N k + 1 - ar (N k).k
def good (N : Nat → Nd) (i : Nat) : Prop := 0 ≤ ar (N i).k ∧ ar (N i).k ≤ dep N i ∧ okN (N i) = true
instance (N : Nat → Nd) (i : Nat) : Decidable (good N i) := by unfold good; infer_instance
def tree (N : Nat → Nd) (n : Nat) : Prop := n ≤ 512 ∧ (∀ i, i < n → good N i) ∧ dep N n = 1
instance (N : Nat → Nd) (n : Nat) : Decidable (tree N n) := by unfold tree; infer_instance

/-- The greatest of some numbers, 0 at least. -/
def mx : List Int → Int
  | [] => 0
  | x :: l => max x (mx l)
end Go.Proofs.Ytefpoapbodbenaa

namespace Go.Proofs.Ytefpoapbodbenaa

/-- A token: its kind, its place, the words of its set, Lo and Hi. -/
structure Tn where
  k : Int
  p : Int
  a : Int
  b : Int
  c : Int
  d : Int
  lo : Int
  hi : Int
def ndRep (t : Tn) : Nd := ⟨7, 0, 0, 0, 0, t.lo, t.hi⟩
def ndSet (t : Tn) : Nd := ⟨1, t.a, t.b, t.c, t.d, 0, 0⟩
def nd0 (k : Int) : Nd := ⟨k, 0, 0, 0, 0, 0, 0⟩

/-- The repeats from a place on, and where they end. -/
def repsL (T : Nat → Tn) (n : Nat) : Nat → Nat → List Nd × Nat
  | 0, i => ([], i)
  | u + 1, i => if i < n ∧ (T i).k = 5 then (ndRep (T i) :: (repsL T n u (i + 1)).1, (repsL T n u (i + 1)).2) else ([], i)
/-- What a part begins with, and where that ends; e: what stands in a group. -/
def partB (T : Nat → Tn) (e : Nat → List Nd × Nat) (at_ : Nat) : List Nd × Nat :=
  if (T at_).k = 1 then ([ndSet (T at_)], at_ + 1) else if (T at_).k = 6 then ([nd0 3], at_ + 1) else if (T at_).k = 7 then ([nd0 4], at_ + 1) else ((e (at_ + 1)).1, (e (at_ + 1)).2 + 1)
def partF (T : Nat → Tn) (n : Nat) (e : Nat → List Nd × Nat) (at_ : Nat) : List Nd × Nat :=
  ((partB T e at_).1 ++ (repsL T n (n + 1) (partB T e at_).2).1, (repsL T n (n + 1) (partB T e at_).2).2)
/-- Parts one behind the other. -/
def behL (T : Nat → Tn) (n : Nat) (e : Nat → List Nd × Nat) : Nat → Nat → List Nd → Nat → List Nd × Nat
  | 0, i, acc, _ => (acc, i)
  | u + 1, i, acc, many => if i < n ∧ (T i).k ≠ 2 ∧ (T i).k ≠ 4 then behL T n e u (partF T n e i).2 (acc ++ (partF T n e i).1 ++ if many = 0 then [] else [nd0 5]) (many + 1) else (if many = 0 then [nd0 2] else acc, i)
def bhF (T : Nat → Tn) (n : Nat) (e : Nat → List Nd × Nat) (at_ : Nat) : List Nd × Nat := behL T n e (n + 2) at_ [] 0
/-- Choices. -/
def eiL (T : Nat → Tn) (n : Nat) (e : Nat → List Nd × Nat) : Nat → Nat → List Nd → List Nd × Nat
  | 0, i, acc => (acc, i)
  | u + 1, i, acc => if i < n ∧ (T i).k = 2 then eiL T n e u (bhF T n e (i + 1)).2 (acc ++ (bhF T n e (i + 1)).1 ++ [nd0 6]) else (acc, i)
def eiF (T : Nat → Tn) (n : Nat) (e : Nat → List Nd × Nat) (at_ : Nat) : List Nd × Nat := eiL T n e (n + 2) (bhF T n e at_).2 (bhF T n e at_).1
def ei (T : Nat → Tn) (n : Nat) : Nat → Nat → List Nd × Nat
  | 0 => fun at_ => ([], at_)
  | u + 1 => eiF T n (ei T n u)

/-- What is asked of the answer for a group, from a place on. -/
def eOk (n : Nat) (m : Nat) (e : Nat → List Nd × Nat) : Prop := ∀ a, m ≤ a → a ≤ n → a ≤ (e a).2 ∧ (e a).2 + a ≤ 2 * n + 1 ∧ 1 ≤ (e a).1.length ∧ (e a).1.length + 2 * a ≤ 2 * (e a).2 + 1
theorem eOk.mono {n m m' : Nat} {e : Nat → List Nd × Nat} (h : eOk n m e) (hm : m ≤ m') : eOk n m' e := fun a h1 h2 => h a (by omega) h2
end Go.Proofs.Ytefpoapbodbenaa

namespace Go.Proofs.Ytefpoapbodbenaa

/-- Does a part end with a token of this kind? -/
def endsP (k : Int) : Bool := k == 1 || k == 6 || k == 7 || k == 5 || k == 4
end Go.Proofs.Ytefpoapbodbenaa

namespace Go.Proofs.Ytefpoapbodbenaa

def lfT (t : Tn) : Bool := !(t.k == 2 || t.k == 3 || t.k == 4)
def leafOf (t : Tn) : Nd := if t.k = 1 then ndSet t else if t.k = 6 then nd0 3 else if t.k = 7 then nd0 4 else ndRep t
/-- The leaves that the tokens from one place to another make. -/
def tl (T : Nat → Tn) (i j : Nat) : List Nd := ((List.range' i (j - i)).filter fun x => lfT (T x)).map fun x => leafOf (T x)
/-- No part begins with a repeat. -/
def startOk (T : Nat → Tn) (n a : Nat) : Prop := a < n → (T a).k ≠ 5
/-- What Wrong asks of repeats, and of kinds. -/
def wellT (T : Nat → Tn) (n : Nat) : Prop := (∀ i, i < n → 1 ≤ (T i).k ∧ (T i).k ≤ 7) ∧ ∀ i, i < n → (T i).k = 5 → 0 < i ∧ endsP (T (i - 1)).k = true
theorem wellT.start {T : Nat → Tn} {n : Nat} (h : wellT T n) {a : Nat} (ha : a = 0 ∨ (T (a - 1)).k = 2 ∨ (T (a - 1)).k = 3) : startOk T n a := fun h1 h2 => by
  obtain ⟨h3, h4⟩ := h.2 a h1 h2
  rcases ha with ha | ha | ha
  · omega
  · rw [ha] at h4; exact absurd h4 (by decide)
  · rw [ha] at h4; exact absurd h4 (by decide)
end Go.Proofs.Ytefpoapbodbenaa

namespace Go.Proofs.Ytefpoapbodbenaa

inductive Tr where
  | leaf (x : Nd)
  | cat (a b : Tr)
  | or (a b : Tr)
  | rep (a : Tr) (lo hi : Int)
def ndR (lo hi : Int) : Nd := ⟨7, 0, 0, 0, 0, lo, hi⟩
def post : Tr → List Nd
  | .leaf x => [x]
  | .cat a b => post a ++ post b ++ [nd0 5]
  | .or a b => post a ++ post b ++ [nd0 6]
  | .rep a lo hi => post a ++ [ndR lo hi]
/-- A token but for its place. -/
def sameT (t s : Tn) : Prop := t.k = s.k ∧ t.a = s.a ∧ t.b = s.b ∧ t.c = s.c ∧ t.d = s.d ∧ t.lo = s.lo ∧ t.hi = s.hi
def hasT (T : Nat → Tn) (n i : Nat) (l : List Tn) : Prop := i + l.length ≤ n ∧ ∀ j (h : j < l.length), sameT (T (i + j)) l[j]
theorem hasT.head {T : Nat → Tn} {n i : Nat} {c : Tn} {l : List Tn} (h : hasT T n i (c :: l)) : i < n ∧ sameT (T i) c := ⟨by have := h.1; simp at this; omega, h.2 0 (by simp)⟩
theorem hasT.tail {T : Nat → Tn} {n i : Nat} {c : Tn} {l : List Tn} (h : hasT T n i (c :: l)) : hasT T n (i + 1) l := ⟨by have := h.1; simp at this; omega, fun j hj => by
  have := h.2 (j + 1) (by simp; omega)
  simpa [show i + 1 + j = i + (j + 1) by omega] using this⟩
theorem hasT.left {T : Nat → Tn} {n i : Nat} {l m : List Tn} (h : hasT T n i (l ++ m)) : hasT T n i l := ⟨by have := h.1; simp at this; omega, fun j hj => by
  have := h.2 j (by simp; omega)
  simpa [List.getElem_append_left hj] using this⟩
theorem hasT.right {T : Nat → Tn} {n i : Nat} {l m : List Tn} (h : hasT T n i (l ++ m)) : hasT T n (i + l.length) m := ⟨by have := h.1; simp at this; omega, fun j hj => by
  have := h.2 (l.length + j) (by simp; omega)
  simpa [Nat.add_assoc] using this⟩

/-- A list of tokens begins as a part does. -/
def beg (l : List Tn) : Prop := ∃ c m, l = c :: m ∧ (c.k = 1 ∨ c.k = 3 ∨ c.k = 6 ∨ c.k = 7)
theorem beg.kind {T : Nat → Tn} {n i : Nat} {l : List Tn} (hb : beg l) (h : hasT T n i l) : i < n ∧ (T i).k ≠ 2 ∧ (T i).k ≠ 4 ∧ (T i).k ≠ 5 := by
  obtain ⟨c, m, rfl, hc⟩ := hb
  obtain ⟨h1, h2⟩ := h.head
  have := h2.1
  omega

theorem beg.pos {l : List Tn} (h : beg l) : 0 < l.length := by obtain ⟨c, m, rfl, -⟩ := h; simp
end Go.Proofs.Ytefpoapbodbenaa

namespace Go.Proofs.Ytefpoapbodbenaa

/-- The number whose bit j is f (b + j), for j below n. -/
def bitsTo (f : Nat → Bool) (b : Nat) : Nat → Nat
  | 0 => 0
  | n + 1 => bitsTo f b n + if f (b + n) = true then 2 ^ n else 0

/-- Word i of a set. -/
def wd (f : Nat → Bool) (i : Nat) : Nat := bitsTo f (64 * i) 64
/-- A set as a value. -/
def sv (f : Nat → Bool) : Value := .agg #[.int .u64 (wd f 0 : Int), .int .u64 (wd f 1 : Int), .int .u64 (wd f 2 : Int), .int .u64 (wd f 3 : Int)]
end Go.Proofs.Ytefpoapbodbenaa

namespace Go.Proofs.Ytefpoapbodbenaa
open Go.RowKit

attribute [go_sem] sv
theorem grownBy_of_below {w w' : World} (h : Below w.heap.size w w') : w.grownBy w' none := ⟨h.os, h.tape, h.output, h.size, fun k hk _ => h.block k hk⟩
theorem owns_below {w w' : World} {base : Nat} {e : TypeId} {size : Nat} {v : Value} {n : Nat} {xs : List Value} (h : w.ownsRow base e size v n xs) (hb : Below w.heap.size w w') : w'.ownsRow base e size v n xs :=
  h.kept (grownBy_of_below hb) (by cases v.ownBlock <;> simp)
theorem owns_mono {w : World} {base base' : Nat} {e : TypeId} {size : Nat} {v : Value} {n : Nat} {xs : List Value} (h : w.ownsRow base e size v n xs) (hb : base' ≤ base) : w.ownsRow base' e size v n xs := by
  obtain ⟨h0, h1⟩ := h
  refine ⟨h0, ?_⟩
  rcases h1 with h1 | ⟨g, cap, cur, h1, h2, h3⟩
  · exact .inl h1
  · exact .inr ⟨g, cap, cur, h1, Nat.le_trans hb h2, h3⟩
theorem below_drewN {B : Nat} {w w' : World} (n : Nat) (h : Below B w w') : Below B w (w'.drewN n) := ⟨h.os, h.tape, h.output, h.size, h.block⟩
end Go.Proofs.Ytefpoapbodbenaa

namespace Go.Proofs.Ytefpoapbodbenaa
open Go.RowKit

/-- A token's cells at a place. -/
def tnAt (w : World) (b o : Nat) (x : Tn) : Prop := w.cell? ⟨b, o, none⟩ = some (.int .i64 x.k) ∧ w.cell? ⟨b, o + 1, none⟩ = some (.int .i64 x.p) ∧ w.cell? ⟨b, o + 2, none⟩ = some (.int .u64 x.a) ∧ w.cell? ⟨b, o + 3, none⟩ = some (.int .u64 x.b) ∧ w.cell? ⟨b, o + 4, none⟩ = some (.int .u64 x.c) ∧ w.cell? ⟨b, o + 5, none⟩ = some (.int .u64 x.d) ∧ w.cell? ⟨b, o + 6, none⟩ = some (.int .i64 x.lo) ∧ w.cell? ⟨b, o + 7, none⟩ = some (.int .i64 x.hi)
theorem tnAt.below {w w' : World} {b o B : Nat} {x : Tn} (h : tnAt w b o x) (hb : Below B w w') (hB : b < B) : tnAt w' b o x := by
  have c : ∀ x, w'.cell? ⟨b, x, none⟩ = w.cell? ⟨b, x, none⟩ := fun x => hb.cell (p := ⟨b, x, none⟩) hB
  unfold tnAt at h ⊢
  simp only [c]
  exact h
/-- The tokens that lie in a block from a place on. -/
def rdTn (w : World) (b off n : Nat) (T : Nat → Tn) : Prop := ∀ j, j < n → b < w.heap.size ∧ tnAt w b (off + j * 8) (T j)
theorem rdTn.below {w w' : World} {b off n : Nat} {T : Nat → Tn} (h : rdTn w b off n T) (hb : Below w.heap.size w w') : rdTn w' b off n T := fun j hj =>
  ⟨Nat.lt_of_lt_of_le (h j hj).1 hb.size, (h j hj).2.below hb (h j hj).1⟩

end Go.Proofs.Ytefpoapbodbenaa
