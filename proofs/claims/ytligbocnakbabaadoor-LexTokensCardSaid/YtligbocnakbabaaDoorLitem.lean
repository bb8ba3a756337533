/-
  Items of a bracket: as values, and as blocks of memory.
-/
import Derived.Test.YtligbocnakbabaaDoorLone
import Derived.Test.YtligbocnakbabaaDoorLnumber
import Derived.Test.YtligbocnakbabaaDoorResc
import Derived.Test.YtligbocnakbabaaDoorRrange
namespace Go.Proofs.YtligbocnakbabaaDoor
open Go.RowKit

/-- Block b holds the item. -/
def isIt (w : World) (b : Nat) (f : Nat → Bool) (n : Int) (ok nm : Bool) : Prop :=
  w.heap[b]? = some (.cells #[.int .u64 (wd f 0 : Int), .int .u64 (wd f 1 : Int), .int .u64 (wd f 2 : Int), .int .u64 (wd f 3 : Int), .int .i64 n, .bool ok, .bool nm] 48 (0, 0))
theorem isIt.lt {w : World} {b : Nat} {f : Nat → Bool} {n : Int} {ok nm : Bool} (h : isIt w b f n ok nm) : b < w.heap.size := lt_of_block h
theorem isIt.cells {w : World} {b : Nat} {f : Nat → Bool} {n : Int} {ok nm : Bool} (h : isIt w b f n ok nm) :
    w.cell? ⟨b, 0, none⟩ = some (.int .u64 (wd f 0 : Int)) ∧ w.cell? ⟨b, 1, none⟩ = some (.int .u64 (wd f 1 : Int)) ∧ w.cell? ⟨b, 2, none⟩ = some (.int .u64 (wd f 2 : Int)) ∧ w.cell? ⟨b, 3, none⟩ = some (.int .u64 (wd f 3 : Int)) ∧
    w.cell? ⟨b, 4, none⟩ = some (.int .i64 n) ∧ w.cell? ⟨b, 5, none⟩ = some (.bool ok) ∧ w.cell? ⟨b, 6, none⟩ = some (.bool nm) := by
  unfold isIt at h
  refine ⟨?_, ?_, ?_, ?_, ?_, ?_, ?_⟩ <;> simp [World.cell?, h]
theorem isIt.free {w : World} {b : Nat} {f : Nat → Bool} {n : Int} {ok nm : Bool} (h : isIt w b f n ok nm) :
    w.frozen? ⟨b, 0, none⟩ = false ∧ w.frozen? ⟨b, 1, none⟩ = false ∧ w.frozen? ⟨b, 2, none⟩ = false ∧ w.frozen? ⟨b, 3, none⟩ = false ∧ w.frozen? ⟨b, 4, none⟩ = false ∧ w.frozen? ⟨b, 5, none⟩ = false ∧ w.frozen? ⟨b, 6, none⟩ = false := by
  unfold isIt at h
  refine ⟨?_, ?_, ?_, ?_, ?_, ?_, ?_⟩ <;> simp [World.frozen?, h]
theorem isIt.below {w w' : World} {b B : Nat} {f : Nat → Bool} {n : Int} {ok nm : Bool} (h : isIt w b f n ok nm) (hB : Below B w w') (hb : b < B) : isIt w' b f n ok nm := (hB.block b hb).trans h
theorem isIt.alloc {w : World} {b : Nat} {f : Nat → Bool} {n : Int} {ok nm : Bool} (h : isIt w b f n ok nm) (o : Obj) : isIt (w.alloc o) b f n ok nm := (Below.heap_alloc w o b h.lt).trans h
theorem isIt.new (w : World) (f : Nat → Bool) (n : Int) (ok nm : Bool) : isIt (w.alloc (.cells #[.int .u64 (wd f 0 : Int), .int .u64 (wd f 1 : Int), .int .u64 (wd f 2 : Int), .int .u64 (wd f 3 : Int), .int .i64 n, .bool ok, .bool nm] 48)) w.heap.size f n ok nm := heap_alloc_new w _
theorem isIt.newNone (w : World) : isIt (w.alloc (.cells #[.int .u64 0, .int .u64 0, .int .u64 0, .int .u64 0, .int .i64 0, .bool false, .bool false] 48)) w.heap.size (fun _ => false) 0 false false := by
  have := isIt.new w (fun _ => false) 0 false false
  rw [none_wd, none_wd, none_wd, none_wd] at this
  exact this
theorem isIt.set {w : World} {b c : Nat} {f : Nat → Bool} {n : Int} {ok nm : Bool} (h : isIt w b f n ok nm) (ha : b ≠ c) (o : Nat) (v : Value) : isIt (w.setCell ⟨c, o, none⟩ v) b f n ok nm := (heap_setCell_other w ⟨c, o, none⟩ b v ha).trans h
/-- Seven cells stored. -/
def set7 (w : World) (c : Nat) (f : Nat → Bool) (n : Int) (ok nm : Bool) : World :=
  ((((((w.setCell ⟨c, 0, none⟩ (.int .u64 (wd f 0 : Int))).setCell ⟨c, 1, none⟩ (.int .u64 (wd f 1 : Int))).setCell ⟨c, 2, none⟩ (.int .u64 (wd f 2 : Int))).setCell ⟨c, 3, none⟩ (.int .u64 (wd f 3 : Int))).setCell ⟨c, 4, none⟩ (.int .i64 n)).setCell ⟨c, 5, none⟩ (.bool ok)).setCell ⟨c, 6, none⟩ (.bool nm)
theorem isIt.stored {w : World} {b : Nat} {f : Nat → Bool} {n : Int} {ok nm : Bool} (h : isIt w b f n ok nm) (g : Nat → Bool) (m : Int) (ok' nm' : Bool) : isIt (set7 w b g m ok' nm') b g m ok' nm' := by
  have h1 := heap_setCell_same w b 0 _ _ (.int .u64 (wd g 0 : Int)) h
  have h2 := heap_setCell_same _ b 1 _ _ (.int .u64 (wd g 1 : Int)) h1
  have h3 := heap_setCell_same _ b 2 _ _ (.int .u64 (wd g 2 : Int)) h2
  have h4 := heap_setCell_same _ b 3 _ _ (.int .u64 (wd g 3 : Int)) h3
  have h5 := heap_setCell_same _ b 4 _ _ (.int .i64 m) h4
  have h6 := heap_setCell_same _ b 5 _ _ (.bool ok') h5
  have h7 := heap_setCell_same _ b 6 _ _ (.bool nm') h6
  unfold isIt set7
  rw [h7]
  simp
theorem below_set7 {B : Nat} {a w : World} {c : Nat} (h : Below B a w) (hc : B ≤ c) (g : Nat → Bool) (m : Int) (ok nm : Bool) : Below B a (set7 w c g m ok nm) :=
  ((((((h.setCell hc _).setCell hc _).setCell hc _).setCell hc _).setCell hc _).setCell hc _).setCell hc _

/-- The bytes from one to one. -/
def oneR (b x : Nat) : Bool := decide (b ≤ x) && decide (x ≤ b)
/-- What a backslash at a place stands for: the bytes, where it ends, whether it can be made. -/
def behF (p : ByteArray) (k : Nat) : Nat → Bool :=
  if p.size ≤ k + 1 then fun _ => false
  else if gb p (k + 1) ≠ 120 then escF (gb p (k + 1))
  else if p.size ≤ k + 3 ∨ dig16 (gb p (k + 2)) < 0 ∨ dig16 (gb p (k + 3)) < 0 then fun _ => false
  else oneR (dig16 (gb p (k + 2)) * 16 + dig16 (gb p (k + 3))).toNat
def behN (p : ByteArray) (k : Nat) : Nat :=
  if p.size ≤ k + 1 then 0
  else if gb p (k + 1) ≠ 120 then k + 2
  else if p.size ≤ k + 3 ∨ dig16 (gb p (k + 2)) < 0 ∨ dig16 (gb p (k + 3)) < 0 then 0
  else k + 4
def behOk (p : ByteArray) (k : Nat) : Bool :=
  if p.size ≤ k + 1 then false
  else if gb p (k + 1) ≠ 120 then escOk (gb p (k + 1))
  else if p.size ≤ k + 3 ∨ dig16 (gb p (k + 2)) < 0 ∨ dig16 (gb p (k + 3)) < 0 then false
  else true
theorem dig16_bd (c : Nat) : -1 ≤ dig16 c ∧ dig16 c ≤ 15 := by unfold dig16; repeat' split <;> omega
theorem dig16_eq (c : Nat) (d : Int) (hc : c < 256) (h : dig16 c = d) (w : World) : Calls Tryd.prog 35 #[.int .u8 (c : Int)] w fun e w' => e = .returned (.int .i64 d) ∧ w = w' := by
  subst h
  exact (dig16_any c hc w).mono fun _ _ h => h
end Go.Proofs.YtligbocnakbabaaDoor
