/-
  The walk of the reference's Join.
  Two statements of the third reference's Bracket that draw their order, each as a theorem of its own. The walk of the third reference's Bracket. The walk of the third reference's Bracket at a text's last byte. The contract of the third reference's Bracket, at any place of a text.
-/
import Derived.Test.YtiahgcgpakgeeaaDoorPk17
import Derived.Test.YtiahgcgpakgeeaaDoorPk13
import Derived.Test.YtiahgcgpakgeeaaDoorPk1
import Derived.Test.YtiahgcgpakgeeaaDoorPk37
import Derived.Test.YtiahgcgpakgeeaaDoorPk19
import Derived.BigQuiet
import Derived.Deep.Cut
import Derived.Deep.CutRange
import Derived.Deep.RegionHeldLaw
import Derived.Deep.QuietTactic
namespace Go.Proofs.YtiahgcgpakgeeaaDoor
open Go.RowKit

/-- What Join puts: kind 0: in either; 1: in both; 2: in the first one alone. -/
def sel (kind : Nat) (x y : Bool) : Bool := match kind with
  | 0 => x || y
  | 1 => x && y
  | _ => x && !y
/-- .. of the numbers below k. -/
def joinTo (kind : Nat) (f g : Nat → Bool) (k x : Nat) : Bool := decide (x < k) && sel kind (f x) (g x)
theorem joinTo_hit (kind : Nat) (f g : Nat → Bool) (k : Nat) (h : sel kind (f k) (g k) = true) : put (joinTo kind f g k) k = joinTo kind f g (k + 1) := by
  funext x
  unfold put joinTo
  by_cases hx : x = k
  · subst hx; simp [h]
  · by_cases h1 : x < k
    · have : x < k + 1 := by omega
      simp [h1, this, hx]
    · have : ¬ x < k + 1 := by omega
      simp [h1, this, hx]
theorem joinTo_miss (kind : Nat) (f g : Nat → Bool) (k : Nat) (h : sel kind (f k) (g k) = false) : joinTo kind f g k = joinTo kind f g (k + 1) := by
  funext x
  unfold joinTo
  by_cases hx : x = k
  · subst hx; simp [h]
  · by_cases h1 : x < k
    · have : x < k + 1 := by omega
      simp [h1, this]
    · have : ¬ x < k + 1 := by omega
      simp [h1, this]

/-- The state of Join's loop, k numbers on. -/
def joinR (kind : Nat) (f g : Nat → Bool) (w : World) (k : Nat) (wr : World) : Prop :=
  isSet wr w.heap.size f ∧ isSet wr (w.heap.size + 1) g ∧ isSet wr (w.heap.size + 1 + 1) (fun _ => false) ∧ isSet wr (w.heap.size + 1 + 1 + 1) (joinTo kind f g k) ∧ Below w.heap.size w wr
theorem joinR_start (kind : Nat) (f g : Nat → Bool) (w : World) : joinR kind f g w 0 ((((w.alloc (.cells #[.int .u64 (wd f 0 : Int), .int .u64 (wd f 1 : Int), .int .u64 (wd f 2 : Int), .int .u64 (wd f 3 : Int)] 35)).alloc (.cells #[.int .u64 (wd g 0 : Int), .int .u64 (wd g 1 : Int), .int .u64 (wd g 2 : Int), .int .u64 (wd g 3 : Int)] 35)).alloc
    (.cells #[.int .u64 0, .int .u64 0, .int .u64 0, .int .u64 0] 35)).alloc (.cells #[.int .u64 0, .int .u64 0, .int .u64 0, .int .u64 0] 35)) := by
  have h0 : joinTo kind f g 0 = fun _ => false := by funext x; simp [joinTo]
  refine ⟨(((isSet.new w f).alloc _).alloc _).alloc _, ?_, ?_, ?_, ((((Below.refl _ _).alloc (Nat.le_refl _) _).alloc (by simp) _).alloc (by simp; omega) _).alloc (by simp; omega) _⟩
  · have := ((isSet.new (w.alloc (.cells #[.int .u64 (wd f 0 : Int), .int .u64 (wd f 1 : Int), .int .u64 (wd f 2 : Int), .int .u64 (wd f 3 : Int)] 35)) g).alloc (.cells #[.int .u64 0, .int .u64 0, .int .u64 0, .int .u64 0] 35)).alloc (.cells #[.int .u64 0, .int .u64 0, .int .u64 0, .int .u64 0] 35)
    simpa only [World.size_alloc] using this
  · have := (isSet.newNone ((w.alloc (.cells #[.int .u64 (wd f 0 : Int), .int .u64 (wd f 1 : Int), .int .u64 (wd f 2 : Int), .int .u64 (wd f 3 : Int)] 35)).alloc (.cells #[.int .u64 (wd g 0 : Int), .int .u64 (wd g 1 : Int), .int .u64 (wd g 2 : Int), .int .u64 (wd g 3 : Int)] 35))).alloc (.cells #[.int .u64 0, .int .u64 0, .int .u64 0, .int .u64 0] 35)
    simpa only [World.size_alloc] using this
  · rw [h0]
    have := isSet.newNone (((w.alloc (.cells #[.int .u64 (wd f 0 : Int), .int .u64 (wd f 1 : Int), .int .u64 (wd f 2 : Int), .int .u64 (wd f 3 : Int)] 35)).alloc (.cells #[.int .u64 (wd g 0 : Int), .int .u64 (wd g 1 : Int), .int .u64 (wd g 2 : Int), .int .u64 (wd g 3 : Int)] 35)).alloc (.cells #[.int .u64 0, .int .u64 0, .int .u64 0, .int .u64 0] 35))
    simpa only [World.size_alloc] using this

end Go.Proofs.YtiahgcgpakgeeaaDoor

namespace Go.Proofs.YtiahgcgpakgeeaaDoor
open Go.RowKit

/-- A region of a code, by its number. -/
def findReg (k : Nat) : Code → Option Code
  | .region j ops d => if j = k then some (.region j ops d) else none
  | .seq a b => match findReg k a with
    | some c => some c
    | none => findReg k b
  | .cond _ a b => match findReg k a with
    | some c => some c
    | none => findReg k b
  | .block _ c => findReg k c
  | .loop c => findReg k c
  | .scope c => findReg k c
  | _ => none
theorem wp_false {P : Program} {s : Code} {K K' : Act → World → Prop} {Q : Exit → Act → World → Prop} {a : Act} {w : World} (h : s.wp P (Exit.then K (fun _ _ _ => False)) a w) (hK : ∀ a' w', K a' w' → K' a' w') : s.wp P (Exit.then K' Q) a w := by
  refine wp_mono h ?_
  intro e a' w' hq
  cases e with
  | normal => exact hK _ _ hq
  | exit id => exact hq.elim
  | goto l => exact hq.elim
  | ret => exact hq.elim
  | panic ch => exact hq.elim
  | outgrown => exact hq.elim

end Go.Proofs.YtiahgcgpakgeeaaDoor

namespace Go.Proofs.YtiahgcgpakgeeaaDoor
open Go.RowKit

/-- The bracket at a place. -/
def bkF (p : ByteArray) (k : Nat) : Nat → Bool := match brk p k with | some r => r.1 | none => fun _ => false
def bkN (p : ByteArray) (k : Nat) : Nat := match brk p k with | some r => r.2 | none => 0
def bkOk (p : ByteArray) (k : Nat) : Bool := match brk p k with | some _ => true | none => false
theorem oneF_lt (f : Nat → Bool) (nm : Bool) : oneF f nm < 256 := by
  unfold oneF
  split
  · decide
  · split
    · rename_i h
      have hm : (bl f 256).headD 0 ∈ bl f 256 := by
        cases hl : bl f 256 with
        | nil => rw [hl] at h; cases h
        | cons a l => simp
      have hm2 := List.mem_range.1 (List.mem_filter.1 hm).1
      exact Int.ofNat_lt.2 hm2
    · decide
end Go.Proofs.YtiahgcgpakgeeaaDoor

namespace Go.Proofs.YtiahgcgpakgeeaaDoor
open Go.RowKit

end Go.Proofs.YtiahgcgpakgeeaaDoor

namespace Go.Proofs.YtiahgcgpakgeeaaDoor
open Go.RowKit

end Go.Proofs.YtiahgcgpakgeeaaDoor
