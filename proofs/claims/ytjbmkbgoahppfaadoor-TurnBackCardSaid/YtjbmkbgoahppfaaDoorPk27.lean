/-
  The library's slices.Reverse, at numbers and at bytes, laid at this program.
-/
import Derived.Shelf.SlicesE.Reverse
import Derived.Test.YtjbmkbgoahppfaaDoorPk3
namespace Go.Proofs.YtjbmkbgoahppfaaDoor
open Go.RowKit Go.Sort

def ren8B : Go.Shelf.Ren := ⟨fun | 35 => 19 | n => n, fun | 0 => 0 | 3 => 3 | 4 => 4 | 22 => 49 | 23 => 5 | n => n, fun n => n⟩
theorem lays8B : SlLaysE.n35 Tryd.prog ren8B := {
  mixed := by kernel_rfl
  f35 := ⟨"slices.Reverse[[]byte,byte]", by decide, Tryd.func19.trans (congrArg some (by kernel_rfl))⟩
  t0 := Tryd.underlying0
  a0 := Tryd.isAgg0
  z0 := Tryd.sizeOf0
  v0 := Tryd.zeroValue0
  t3 := Tryd.underlying3
  a3 := Tryd.isAgg3
  z3 := Tryd.sizeOf3
  v3 := Tryd.zeroValue3
  t4 := Tryd.underlying4
  a4 := Tryd.isAgg4
  z4 := Tryd.sizeOf4
  v4 := Tryd.zeroValue4
  t22 := Tryd.underlying49
  a22 := Tryd.isAgg49
  z22 := Tryd.sizeOf49
  v22 := Tryd.zeroValue49
  a23 := Tryd.isAgg5
  z23 := Tryd.sizeOf5 }
def ren8I : Go.Shelf.Ren := ⟨fun | 35 => 31 | n => n, fun | 0 => 0 | 3 => 3 | 4 => 4 | 22 => 51 | 23 => 3 | n => n, fun n => n⟩
theorem lays8I : SlLaysE.n35 Tryd.prog ren8I := {
  mixed := by kernel_rfl
  f35 := ⟨"slices.Reverse[[]int,int]", by decide, Tryd.func31.trans (congrArg some (by kernel_rfl))⟩
  t0 := Tryd.underlying0
  a0 := Tryd.isAgg0
  z0 := Tryd.sizeOf0
  v0 := Tryd.zeroValue0
  t3 := Tryd.underlying3
  a3 := Tryd.isAgg3
  z3 := Tryd.sizeOf3
  v3 := Tryd.zeroValue3
  t4 := Tryd.underlying4
  a4 := Tryd.isAgg4
  z4 := Tryd.sizeOf4
  v4 := Tryd.zeroValue4
  t22 := Tryd.underlying51
  a22 := Tryd.isAgg51
  z22 := Tryd.sizeOf51
  v22 := Tryd.zeroValue51
  a23 := Tryd.isAgg3
  z23 := Tryd.sizeOf3 }

theorem putRow_block {α : Type} [Inhabited α] (enc : α → Value) (w : World) (b off : Nat) (d : Array α) (k : Nat) (hk : k ≠ b) : (putRow enc w b off d).heap[k]? = w.heap[k]? := by
  unfold putRow mapBlock
  simp only [Array.getElem?_modify]
  rw [if_neg (fun h => hk h.symm)]
theorem putRow_own {α : Type} [Inhabited α] (enc : α → Value) (w : World) (b off : Nat) (d : Array α) (c : Array Value) (t : TypeId) (fr : Nat × Nat) (h : w.heap[b]? = some (.cells c t fr)) :
    (putRow enc w b off d).heap[b]? = some (.cells (putCells enc off d c) t fr) := by
  unfold putRow mapBlock
  simp only [Array.getElem?_modify]
  rw [if_pos trivial, h]; rfl
/-- Nothing is kept back but block b. -/
theorem putRow_below {α : Type} [Inhabited α] (enc : α → Value) (w : World) (b off n B : Nat) (d : Array α) (hB : B ≤ b) : Below B w (putRow enc (Sort.ahead w n) b off d) :=
  ⟨rfl, rfl, rfl, by rw [size_putRow]; exact Nat.le_refl _, fun k hk => by rw [putRow_block _ _ _ _ _ _ (by omega)]; rfl⟩
set_option maxHeartbeats 1000000 in
/-- Two numbers, the last one first. -/
theorem rev_two (b cap : Nat) (x y : Int) (w : World) (hb : w.heap[b]? = some (.cells #[.int .i64 x, .int .i64 y] 3 (0, 0))) :
    Calls Tryd.prog 31 #[.slice (some ⟨b, 0, none⟩) 2 cap] w fun e w' => e = .returned (.tuple #[]) ∧ w'.heap[b]? = some (.cells #[.int .i64 y, .int .i64 x] 3 (0, 0)) ∧ w.grownBy w' (some b) := by
  have h := AnyE.slices_Reverse lays8I (fun z : Int => Value.int .i64 z) (fun _ => rfl) b 0 cap [x, y] w (by
    intro j hj
    have : j = 0 ∨ j = 1 := by have : j < 2 := hj; omega
    rcases this with rfl | rfl <;> exact ⟨by simp [World.cell?, hb], by simp [World.frozen?, hb]⟩) (by simp)
  refine h.mono ?_
  rintro e w' ⟨rfl, n, rfl⟩
  refine ⟨rfl, ?_, ?_⟩
  · rw [putRow_own _ _ _ _ _ _ _ _ (show (Sort.ahead w n).heap[b]? = _ from hb)]
    rfl
  · exact ⟨rfl, rfl, rfl, by rw [size_putRow]; exact Nat.le_refl _, fun k _ hk => by rw [putRow_block _ _ _ _ _ _ (fun h => hk (by rw [h]))]; rfl⟩
end Go.Proofs.YtjbmkbgoahppfaaDoor
