/-
  The walk of the seventh reference's Fit, where a node has two arguments.
  The walk of the seventh reference's Fit, where a node is a set.
  The walk of the ninth reference's Fits.
  What the ninth laws ask of the code: Build, Right, Close, Step and Fits, as contracts.
-/
import Derived.Test.YthmkjdpmpcjinaaPk25
import Derived.Test.YthmkjdpmpcjinaaPk20
import Derived.Laws.AppendOwnNone
import Derived.Deep.RegionHeldLaw
import Derived.Test.YthmkjdpmpcjinaaPk15
import Derived.Deep.RegionWith
import Derived.Test.YthmkjdpmpcjinaaPk23
import Derived.Test.YthmkjdpmpcjinaaPk18
namespace Go.Proofs.Ythmkjdpmpcjinaa
open Go.RowKit

/-- What Fit tells: a grid of the call's own. -/
def fitPost (n : Nat) (F : Gr) (w : World) (e : Ending) (w' : World) : Prop := ∃ v, e = .returned v ∧ grd w' w.heap.size v n F ∧ Below w.heap.size w w'

end Go.Proofs.Ythmkjdpmpcjinaa

namespace Go.Proofs.Ythmkjdpmpcjinaa
open Go.RowKit

/-- The bytes of a text. -/
def tx7 (s : ByteArray) (x : Nat) : Nat := if h : x < s.size then (s[x]'h).toNat else 0
theorem tx7_lt (s : ByteArray) (x : Nat) : tx7 s x < 256 := by
  unfold tx7
  split
  · exact UInt8.toNat_lt _
  · decide
theorem ix_str (s : ByteArray) (x : Nat) (h : x < s.size) (hs : s.size ≤ 1000) (w : World) : (Instr.index 9 (.string s) (.int .i64 (x : Int))).run Try.prog w = .ok (.int .u8 (tx7 s x : Nat)) w := by
  have h0 : (0 : Int) ≤ (x : Int) := by omega
  have h1 : (x : Int) < (s.size : Int) := by omega
  have hw : IntKind.i64.wrap (x : Int) = (x : Int) := by rw [IntKind.wrap_i64]; omega
  unfold tx7
  rw [dif_pos h]
  go_simp
/-- So far: the places ahead of x. -/
def setC (f : Nat → Bool) (tx : Nat → Nat) (x : Nat) : Gr := fun a c => decide (a < x) && (decide (c = a + 1) && f (tx a))
theorem setC_put (f : Nat → Bool) (tx : Nat → Nat) (x a c : Nat) : putG (setC f tx x) x (x + 1) (f (tx x)) a c = setC f tx (x + 1) a c := by
  unfold putG setC
  by_cases h1 : a = x
  · subst h1
    rw [if_pos rfl]
    by_cases h2 : c = a + 1
    · rw [if_pos h2, decide_eq_true h2, decide_eq_true (show a < a + 1 by omega)]; rfl
    · rw [if_neg h2, decide_eq_false h2]; simp
  · rw [if_neg h1]
    have hx : (a < x) ↔ (a < x + 1) := by omega
    simp only [hx]

end Go.Proofs.Ythmkjdpmpcjinaa

namespace Go.Proofs.Ythmkjdpmpcjinaa
open Go.RowKit

theorem lit_rdL (w : World) (x : Int) : rdL (w.alloc (.cells #[.int .i64 x] 3)) (some ⟨w.heap.size, 0, none⟩) 1 (fun _ => x) := fun j hj => by
  obtain rfl : j = 0 := by omega
  exact ⟨_, _, rfl, by simp, by simp⟩
/-- So many bytes from a place on, as the reference takes them. -/
def rF (S : Nat → Sd) (m : Nat) (tx : Nat → Nat) : Nat → Nat → (Nat → Bool) → Nat → Bool
  | _, 0, T => T
  | i, k + 1, T => rF S m tx (i + 1) k (upN S 0 m (stR S (tx i) T m) m)
theorem rF_last (S : Nat → Sd) (m : Nat) (tx : Nat → Nat) : ∀ k i T, rF S m tx i (k + 1) T = upN S 0 m (stR S (tx (i + k)) (rF S m tx i k T) m) m
  | 0, _, _ => rfl
  | k + 1, i, T => by
    show rF S m tx (i + 1) (k + 1) _ = _
    rw [rF_last S m tx k (i + 1) _, show i + 1 + k = i + (k + 1) by omega]; rfl
def aF (S : Nat → Sd) (m : Nat) (st : Int) : Nat → Bool := upN S 0 m (inL m (fun _ => st) 1) m
/-- What leads to the end, as the reference counts it. -/
def fF (S : Nat → Sd) (m n : Nat) (tx : Nat → Nat) (st : Int) (fin i j : Nat) : Bool :=
  if n = 0 then upN S 258 m (aF S m st) m fin
  else if j = n then upN S 257 m (rF S m tx i (j - i) (if i = 0 then upN S 256 m (aF S m st) m else aF S m st)) m fin
  else rF S m tx i (j - i) (if i = 0 then upN S 256 m (aF S m st) m else aF S m st) fin

end Go.Proofs.Ythmkjdpmpcjinaa

namespace Go.Proofs.Ythmkjdpmpcjinaa
open Go.RowKit

@[reducible] def nfV (p : Option Addr) (m cap : Nat) (st fin : Int) : Value := .agg #[.slice p m cap, .int .i64 st, .int .i64 fin]
def fin9 : Sd := ⟨6, 0, 0, 0, 0, 0, 0⟩
/-- The states that a slice holds. -/
def stsAt (w : World) (p : Option Addr) (m : Nat) (S : Nat → Sd) : Prop := (m = 0 ∨ ∃ b off, p = some ⟨b, off, none⟩) ∧ ∀ b off, p = some ⟨b, off, none⟩ → rdS w b off m S
def bldPost (N : Nat → Nd) (n : Nat) (w : World) (e : Ending) (w' : World) : Prop :=
  (¬ tree N n → ∃ p c, e = .returned (.tuple #[nfV p 0 c 0 0, .int .i64 3]) ∧ Below w.heap.size w w') ∧
  (tree N n → 600 < nst (trT N (n - 1)) → ∃ p c st fin, e = .returned (.tuple #[nfV p 0 c st fin, .int .i64 4]) ∧ Below w.heap.size w w') ∧
  (tree N n → nst (trT N (n - 1)) ≤ 600 → ∃ g o c S, ∃ f l : Nat, e = .returned (.tuple #[nfV (some ⟨g, o, none⟩) (nst (trT N (n - 1))) c f l, .int .i64 0]) ∧ rdS w' g o (nst (trT N (n - 1))) S ∧ nst (trT N (n - 1)) ≤ c ∧
    isFr S (trT N (n - 1)) 0 f l ∧ S l = fin9 ∧ Below w.heap.size w w')
def RgtC : Prop := ∀ (p : Option Addr) (m cap : Nat) (S : Nat → Sd) (st fin : Int) (w : World), m ≤ 600 → stsAt w p m S →
  Calls Try.prog 15 #[nfV p m cap st fin] w fun e w' => e = .returned (.bool (decide (rightP S m st fin))) ∧ Below w.heap.size w w'
/-- A rising list of what is so; of none, where an automaton may not be. -/
def tldPost (R : Prop) (m : Nat) (P : Nat → Prop) (w : World) (e : Ending) (w' : World) : Prop :=
  ∃ q k c l, e = .returned (.slice q k c) ∧ rdL w' q k l ∧ Below w.heap.size w w' ∧ (¬ R → k = 0) ∧ (R → ∀ T : Nat → Bool, (∀ x, x < m → (T x = true ↔ P x)) → k = cntT T m ∧ ∀ i, i < m → T i = true → l (cntT T i) = i)
/-- What a list names. -/
def nmd (m n : Nat) (l : Nat → Int) (q : Nat) : Prop := q < m ∧ ∃ i, i < n ∧ l i = (q : Int)
def StpC : Prop := ∀ (p : Option Addr) (m cap : Nat) (S : Nat → Sd) (st fin : Int) (y : Nat) (q : Option Addr) (n c : Nat) (l : Nat → Int) (w : World), m ≤ 600 → n ≤ 1000 → y < 256 → stsAt w p m S → (∀ j, j < m → okWs (S j)) → rdL w q n l →
  Calls Try.prog 16 #[nfV p m cap st fin, .slice q n c, .int .u8 (y : Int)] w (tldPost (rightP S m st fin) m (Cl S 0 (By S y (nmd m n l))) w)
def fitC (S : Nat → Sd) (m : Nat) (st fin : Int) (s : ByteArray) (i j : Int) : Prop := rightP S m st fin ∧ 0 ≤ i ∧ i ≤ j ∧ j ≤ s.size ∧ fitsP S s.size (tx7 s) st.toNat fin.toNat i.toNat j.toNat
end Go.Proofs.Ythmkjdpmpcjinaa
