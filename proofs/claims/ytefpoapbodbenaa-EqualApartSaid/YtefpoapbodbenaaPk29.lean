/-
  The library's slices.Reverse, at numbers and at bytes, laid at this program.
-/
import Derived.Shelf.SlicesE.Reverse
import Derived.Test.YtefpoapbodbenaaPk4
namespace Go.Proofs.Ytefpoapbodbenaa
open Go.RowKit Go.Sort

def ren8I : Go.Shelf.Ren := ⟨fun | 35 => 39 | n => n, fun | 0 => 0 | 3 => 3 | 4 => 4 | 22 => 22 | 23 => 3 | n => n, fun n => n⟩
theorem lays8I : SlLaysE.n35 Try.prog ren8I := {
  mixed := by kernel_rfl
  f35 := ⟨"slices.Reverse[[]int,int]", by decide, Try.func39.trans (congrArg some (by kernel_rfl))⟩
  t0 := Try.underlying0
  a0 := Try.isAgg0
  z0 := Try.sizeOf0
  v0 := Try.zeroValue0
  t3 := Try.underlying3
  a3 := Try.isAgg3
  z3 := Try.sizeOf3
  v3 := Try.zeroValue3
  t4 := Try.underlying4
  a4 := Try.isAgg4
  z4 := Try.sizeOf4
  v4 := Try.zeroValue4
  t22 := Try.underlying22
  a22 := Try.isAgg22
  z22 := Try.sizeOf22
  v22 := Try.zeroValue22
  a23 := Try.isAgg3
  z23 := Try.sizeOf3 }

theorem putRow_block {α : Type} [Inhabited α] (enc : α → Value) (w : World) (b off : Nat) (d : Array α) (k : Nat) (hk : k ≠ b) : (putRow enc w b off d).heap[k]? = w.heap[k]? := by
  unfold putRow mapBlock
  simp only [Array.getElem?_modify]
  rw [if_neg (fun h => hk h.symm)]
/-- Nothing is kept back but block b. -/
theorem putRow_below {α : Type} [Inhabited α] (enc : α → Value) (w : World) (b off n B : Nat) (d : Array α) (hB : B ≤ b) : Below B w (putRow enc (Sort.ahead w n) b off d) :=
  ⟨rfl, rfl, rfl, by rw [size_putRow]; exact Nat.le_refl _, fun k hk => by rw [putRow_block _ _ _ _ _ _ (by omega)]; rfl⟩
end Go.Proofs.Ytefpoapbodbenaa
