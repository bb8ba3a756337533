/-
  A block of memory that holds a set.
-/
import Derived.Test.YtiahgcgpakgeeaaDoorPk1
namespace Go.Proofs.YtiahgcgpakgeeaaDoor
open Go.RowKit

/-- Block b holds the set f. -/
def isSet (w : World) (b : Nat) (f : Nat → Bool) : Prop :=
  w.heap[b]? = some (.cells #[.int .u64 (wd f 0 : Int), .int .u64 (wd f 1 : Int), .int .u64 (wd f 2 : Int), .int .u64 (wd f 3 : Int)] 35 (0, 0))
theorem isSet.lt {w : World} {b : Nat} {f : Nat → Bool} (h : isSet w b f) : b < w.heap.size := lt_of_block h
theorem isSet.cells {w : World} {b : Nat} {f : Nat → Bool} (h : isSet w b f) :
    w.cell? ⟨b, 0, none⟩ = some (.int .u64 (wd f 0 : Int)) ∧ w.cell? ⟨b, 1, none⟩ = some (.int .u64 (wd f 1 : Int)) ∧ w.cell? ⟨b, 2, none⟩ = some (.int .u64 (wd f 2 : Int)) ∧ w.cell? ⟨b, 3, none⟩ = some (.int .u64 (wd f 3 : Int)) := by
  unfold isSet at h
  refine ⟨?_, ?_, ?_, ?_⟩ <;> simp [World.cell?, h]
theorem isSet.free {w : World} {b : Nat} {f : Nat → Bool} (h : isSet w b f) :
    w.frozen? ⟨b, 0, none⟩ = false ∧ w.frozen? ⟨b, 1, none⟩ = false ∧ w.frozen? ⟨b, 2, none⟩ = false ∧ w.frozen? ⟨b, 3, none⟩ = false := by
  unfold isSet at h
  refine ⟨?_, ?_, ?_, ?_⟩ <;> simp [World.frozen?, h]
theorem isSet.below {w w' : World} {b B : Nat} {f : Nat → Bool} (h : isSet w b f) (hB : Below B w w') (hb : b < B) : isSet w' b f := (hB.block b hb).trans h
theorem isSet.stored {w : World} {b : Nat} {f : Nat → Bool} (h : isSet w b f) (g : Nat → Bool) :
    isSet ((((w.setCell ⟨b, 0, none⟩ (.int .u64 (wd g 0 : Int))).setCell ⟨b, 1, none⟩ (.int .u64 (wd g 1 : Int))).setCell ⟨b, 2, none⟩ (.int .u64 (wd g 2 : Int))).setCell ⟨b, 3, none⟩ (.int .u64 (wd g 3 : Int))) b g := by
  have h1 := heap_setCell_same w b 0 _ _ (.int .u64 (wd g 0 : Int)) h
  have h2 := heap_setCell_same _ b 1 _ _ (.int .u64 (wd g 1 : Int)) h1
  have h3 := heap_setCell_same _ b 2 _ _ (.int .u64 (wd g 2 : Int)) h2
  have h4 := heap_setCell_same _ b 3 _ _ (.int .u64 (wd g 3 : Int)) h3
  unfold isSet
  rw [h4]
  simp
theorem isSet.other {w : World} {b : Nat} {f : Nat → Bool} (h : isSet w b f) {a : Addr} (ha : b ≠ a.block) (v : Value) : isSet (w.setCell a v) b f := (heap_setCell_other w a b v ha).trans h
theorem isSet.other4 {w : World} {b c : Nat} {f : Nat → Bool} (h : isSet w b f) (ha : b ≠ c) (v0 v1 v2 v3 : Value) :
    isSet ((((w.setCell ⟨c, 0, none⟩ v0).setCell ⟨c, 1, none⟩ v1).setCell ⟨c, 2, none⟩ v2).setCell ⟨c, 3, none⟩ v3) b f := (((h.other ha _).other ha _).other ha _).other ha _
theorem isSet.new (w : World) (f : Nat → Bool) : isSet (w.alloc (.cells #[.int .u64 (wd f 0 : Int), .int .u64 (wd f 1 : Int), .int .u64 (wd f 2 : Int), .int .u64 (wd f 3 : Int)] 35)) w.heap.size f := heap_alloc_new w _
theorem isSet.alloc {w : World} {b : Nat} {f : Nat → Bool} (h : isSet w b f) (o : Obj) : isSet (w.alloc o) b f := (Below.heap_alloc w o b h.lt).trans h
/-- The set without bytes. -/
theorem none_wd (i : Nat) : wd (fun _ => false) i = 0 := word_none _ _ fun _ _ => rfl
theorem isSet.newNone (w : World) : isSet (w.alloc (.cells #[.int .u64 0, .int .u64 0, .int .u64 0, .int .u64 0] 35)) w.heap.size (fun _ => false) := by
  have := isSet.new w (fun _ => false)
  rw [none_wd, none_wd, none_wd, none_wd] at this
  exact this
theorem below_set4 {B : Nat} {a w : World} {c : Nat} (h : Below B a w) (hc : B ≤ c) (v0 v1 v2 v3 : Value) :
    Below B a ((((w.setCell ⟨c, 0, none⟩ v0).setCell ⟨c, 1, none⟩ v1).setCell ⟨c, 2, none⟩ v2).setCell ⟨c, 3, none⟩ v3) := (((h.setCell hc _).setCell hc _).setCell hc _).setCell hc _
theorem isSet.congr {w : World} {b : Nat} {f g : Nat → Bool} (h : isSet w b f) (hfg : ∀ k, k < 256 → f k = g k) : isSet w b g := by
  unfold isSet at h ⊢
  rw [h, wd_congr fun j _ => hfg _ (by omega), wd_congr (i := 1) fun j _ => hfg _ (by omega), wd_congr (i := 2) fun j _ => hfg _ (by omega), wd_congr (i := 3) fun j _ => hfg _ (by omega)]
end Go.Proofs.YtiahgcgpakgeeaaDoor
