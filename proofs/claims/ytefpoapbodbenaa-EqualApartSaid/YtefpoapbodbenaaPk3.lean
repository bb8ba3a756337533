/-
  What is wrong in the tokens that a tree is told as: nothing, or too many groups within one another. Plain facts.
  Slices of bytes that read as lists of numbers; the bytes of a set as a list.
  Runs of a set: plain facts (stage 1's, without any walk).
  Sets and trees as texts: what they are as lists of bytes. Plain facts.
-/
import Derived.Test.YtefpoapbodbenaaPk1
import Derived.StillTailTactics
import Derived.Test.YtefpoapbodbenaaPk2
namespace Go.Proofs.Ytefpoapbodbenaa

def fin (l : List Tn) : Prop := ∃ m c, l = m ++ [c] ∧ endsP c.k = true
end Go.Proofs.Ytefpoapbodbenaa

namespace Go.Proofs.Ytefpoapbodbenaa
open Go.RowKit

/-- Is a number in a list? -/
def inl (l : List Nat) (x : Nat) : Bool := decide (x ∈ l)
/-- The numbers below n that are in a set, rising. -/
def bl (f : Nat → Bool) (n : Nat) : List Nat := (List.range n).filter f
end Go.Proofs.Ytefpoapbodbenaa

namespace Go.Proofs.Ytefpoapbodbenaa

/-- A run starts here. -/
def st (f : Nat → Bool) (k : Nat) : Bool := f k && (decide (k = 0) || !f (k - 1))
end Go.Proofs.Ytefpoapbodbenaa

namespace Go.Proofs.Ytefpoapbodbenaa

def bs (s : List Nat) : ByteArray := ⟨(s.map UInt8.ofNat).toArray⟩
end Go.Proofs.Ytefpoapbodbenaa
