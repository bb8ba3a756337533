/-
  The walk of the reference's Range.
  Items of a bracket: as values, and as blocks of memory.
-/
import Derived.Test.YtiahgcgpakgeeaaGreatDoorPk11
import Derived.Test.YtiahgcgpakgeeaaGreatDoorPk8
import Derived.Test.YtiahgcgpakgeeaaGreatDoorPk9
import Derived.Test.YtiahgcgpakgeeaaGreatDoorPk12
namespace Go.Proofs.YtiahgcgpakgeeaaGreatDoor
open Go.RowKit

/-- The numbers from lo on, below k. -/
def rg (lo k x : Nat) : Bool := decide (lo ≤ x) && decide (x < k)
theorem rg_put (lo k : Nat) (h : lo ≤ k) : put (rg lo k) k = rg lo (k + 1) := by
  funext x
  unfold put rg
  by_cases hx : x = k
  · subst hx; simp [h]
  · by_cases h1 : x < k
    · have : x < k + 1 := by omega
      simp [h1, this, hx]
    · have : ¬ x < k + 1 := by omega
      simp [h1, this, hx]
theorem rg_none (lo : Nat) : rg lo lo = fun _ => false := by
  funext x
  unfold rg
  by_cases h : lo ≤ x
  · have : ¬ x < lo := by omega
    simp [this]
  · simp [h]

set_option maxRecDepth 100000 in
set_option maxHeartbeats 4000000 in
theorem rrange_any (lo hi : Nat) (_ : lo < 256) (hhi : hi < 256) (w : World) :
    Calls Tryz.prog 21 #[.int .i64 (lo : Int), .int .i64 (hi : Int)] w fun e w' => e = .returned (sv fun k => decide (lo ≤ k) && decide (k ≤ hi)) ∧ Below w.heap.size w w' := by
  have s0 : isSet ((w.alloc (.cells #[.int .u64 0, .int .u64 0, .int .u64 0, .int .u64 0] 36)).alloc (.cells #[.int .u64 0, .int .u64 0, .int .u64 0, .int .u64 0] 36)) w.heap.size (fun _ => false) := (isSet.newNone w).alloc _
  have s1 : isSet ((w.alloc (.cells #[.int .u64 0, .int .u64 0, .int .u64 0, .int .u64 0] 36)).alloc (.cells #[.int .u64 0, .int .u64 0, .int .u64 0, .int .u64 0] 36)) (w.heap.size + 1) (rg lo lo) := by
    rw [rg_none]
    have := isSet.newNone (w.alloc (.cells #[.int .u64 0, .int .u64 0, .int .u64 0, .int .u64 0] 36))
    simpa only [World.size_alloc] using this
  have S0 := Lib.hid s0; have S1 := Lib.hid s1
  clear s0 s1
  go_enter Tryz.func21, Tryz.ntmps21
  go_wp2
  go_loopw [6] (fun i wr => ∃ k : Nat, lo ≤ k ∧ (k ≤ hi + 1 ∨ k = lo) ∧ i = .int .i64 k ∧ isSet wr w.heap.size (fun _ => false) ∧ isSet wr (w.heap.size + 1) (rg lo k) ∧ Below w.heap.size w wr) (fun i _ => 256 - (intOf i).toNat)
  case atStart => exact ⟨lo, Nat.le_refl _, .inr rfl, rfl, S0.out, S1.out, ((Below.refl _ _).alloc (Nat.le_refl _) _).alloc (by simp) _⟩
  case round =>
    obtain ⟨k, hk, hk2, rfl, b0, b1, hB⟩ := hrel
    clear S0 S1
    have l0 := b0.lt; have l1 := b1.lt
    obtain ⟨q0, q1, q2, q3⟩ := b1.cells
    by_cases hlt : k ≤ hi
    · go_wp2_with fail
      refine (rput_any (rg lo k) k (by omega) (by omega) _).mono ?_
      rw [Int.toNat_natCast, rg_put lo k hk]
      rintro e wp ⟨rfl, hb⟩
      have d0 := b0.below hb l0; have d1 := b1.below hb l1
      have hR2 : Below w.heap.size w wp := hB.trans (hb.mono hB.size)
      clear b0 b1 hB hb q0 q1 q2 q3
      obtain ⟨q0, q1, q2, q3⟩ := d1.cells
      obtain ⟨r0, r1, r2, r3⟩ := d1.free
      have z0 := d0.other4 (c := w.heap.size + 1) (by omega) (.int .u64 (wd (rg lo (k + 1)) 0 : Int)) (.int .u64 (wd (rg lo (k + 1)) 1 : Int)) (.int .u64 (wd (rg lo (k + 1)) 2 : Int)) (.int .u64 (wd (rg lo (k + 1)) 3 : Int))
      have z1 := d1.stored (rg lo (k + 1))
      have hR3 := below_set4 (c := w.heap.size + 1) hR2 (by omega) (.int .u64 (wd (rg lo (k + 1)) 0 : Int)) (.int .u64 (wd (rg lo (k + 1)) 1 : Int)) (.int .u64 (wd (rg lo (k + 1)) 2 : Int)) (.int .u64 (wd (rg lo (k + 1)) 3 : Int))
      clear d0 d1 hR2
      go_wp2
      go_roundw
      case rel => exact ⟨k + 1, by omega, .inl (by omega), by go_num, z0, z1, hR3⟩
      case measure => simp [intOf]; omega
    · have hsv : Hid (sv (rg lo k) = sv (fun x => decide (lo ≤ x) && decide (x ≤ hi))) := sv_congr fun x _ => by
        unfold rg
        by_cases h1 : lo ≤ x
        · by_cases h2 : x ≤ hi
          · have : x < k := by omega
            simp [h1, h2, this]
          · have : ¬ x < k := by omega
            simp [h1, h2, this]
        · simp [h1]
      obtain ⟨q4, q5, q6, q7⟩ := b0.cells
      obtain ⟨r0, r1, r2, r3⟩ := b0.free
      have hR3 := below_set4 (c := w.heap.size) hB (Nat.le_refl _) (.int .u64 (wd (rg lo k) 0 : Int)) (.int .u64 (wd (rg lo k) 1 : Int)) (.int .u64 (wd (rg lo k) 2 : Int)) (.int .u64 (wd (rg lo k) 3 : Int))
      have z2 := (b0.stored (rg lo k)).cells
      clear hB b0 b1
      go_wp2
      refine bodyPost_ret (v := sv (rg lo k)) (by simp [results, Tryz.results21, go_sem, z2]) rfl ⟨by rw [hsv.out] <;> rfl, hR3⟩

theorem rrange_int (lo hi : Int) (h0 : 0 ≤ lo) (h1 : lo < 256) (h2 : 0 ≤ hi) (h3 : hi < 256) (w : World) :
    Calls Tryz.prog 21 #[.int .i64 lo, .int .i64 hi] w fun e w' => e = .returned (sv fun k => decide (lo.toNat ≤ k) && decide (k ≤ hi.toNat)) ∧ Below w.heap.size w w' := by
  obtain ⟨a, rfl⟩ := Int.eq_ofNat_of_zero_le h0
  obtain ⟨b, rfl⟩ := Int.eq_ofNat_of_zero_le h2
  exact rrange_any a b (by omega) (by omega) w
end Go.Proofs.YtiahgcgpakgeeaaGreatDoor

namespace Go.Proofs.YtiahgcgpakgeeaaGreatDoor
open Go.RowKit

/-- Block b holds the item. -/
def isIt (w : World) (b : Nat) (f : Nat → Bool) (n : Int) (ok nm : Bool) : Prop :=
  w.heap[b]? = some (.cells #[.int .u64 (wd f 0 : Int), .int .u64 (wd f 1 : Int), .int .u64 (wd f 2 : Int), .int .u64 (wd f 3 : Int), .int .i64 n, .bool ok, .bool nm] 61 (0, 0))
theorem isIt.lt {w : World} {b : Nat} {f : Nat → Bool} {n : Int} {ok nm : Bool} (h : isIt w b f n ok nm) : b < w.heap.size := lt_of_block h
theorem isIt.cells {w : World} {b : Nat} {f : Nat → Bool} {n : Int} {ok nm : Bool} (h : isIt w b f n ok nm) :
    w.cell? ⟨b, 0, none⟩ = some (.int .u64 (wd f 0 : Int)) ∧ w.cell? ⟨b, 1, none⟩ = some (.int .u64 (wd f 1 : Int)) ∧ w.cell? ⟨b, 2, none⟩ = some (.int .u64 (wd f 2 : Int)) ∧ w.cell? ⟨b, 3, none⟩ = some (.int .u64 (wd f 3 : Int)) ∧
    w.cell? ⟨b, 4, none⟩ = some (.int .i64 n) ∧ w.cell? ⟨b, 5, none⟩ = some (.bool ok) ∧ w.cell? ⟨b, 6, none⟩ = some (.bool nm) := by
  unfold isIt at h
  refine ⟨?_, ?_, ?_, ?_, ?_, ?_, ?_⟩ <;> simp [World.cell?, h]
theorem isIt.free {w : World} {b : Nat} {f : Nat → Bool} {n : Int} {ok nm : Bool} (h : isIt w b f n ok nm) :
    w.frozen? ⟨b, 0, none⟩ = false ∧ w.frozen? ⟨b, 1, none⟩ = false ∧ w.frozen? ⟨b, 2, none⟩ = false ∧ w.frozen? ⟨b, 3, none⟩ = false ∧ w.frozen? ⟨b, 4, none⟩ = false ∧ w.frozen? ⟨b, 5, none⟩ = false ∧ w.frozen? ⟨b, 6, none⟩ = false := by
  unfold isIt at h
  refine ⟨?_, ?_, ?_, ?_, ?_, ?_, ?_⟩ <;> simp [World.frozen?, h]
theorem isIt.below {w w' : World} {b B : Nat} {f : Nat → Bool} {n : Int} {ok nm : Bool} (h : isIt w b f n ok nm) (hB : Below B w w') (hb : b < B) : isIt w' b f n ok nm := (hB.block b hb).trans h
theorem isIt.alloc {w : World} {b : Nat} {f : Nat → Bool} {n : Int} {ok nm : Bool} (h : isIt w b f n ok nm) (o : Obj) : isIt (w.alloc o) b f n ok nm := (Below.heap_alloc w o b h.lt).trans h
theorem isIt.new (w : World) (f : Nat → Bool) (n : Int) (ok nm : Bool) : isIt (w.alloc (.cells #[.int .u64 (wd f 0 : Int), .int .u64 (wd f 1 : Int), .int .u64 (wd f 2 : Int), .int .u64 (wd f 3 : Int), .int .i64 n, .bool ok, .bool nm] 61)) w.heap.size f n ok nm := heap_alloc_new w _
theorem isIt.newNone (w : World) : isIt (w.alloc (.cells #[.int .u64 0, .int .u64 0, .int .u64 0, .int .u64 0, .int .i64 0, .bool false, .bool false] 61)) w.heap.size (fun _ => false) 0 false false := by
  have := isIt.new w (fun _ => false) 0 false false
  rw [none_wd, none_wd, none_wd, none_wd] at this
  exact this
theorem isIt.set {w : World} {b c : Nat} {f : Nat → Bool} {n : Int} {ok nm : Bool} (h : isIt w b f n ok nm) (ha : b ≠ c) (o : Nat) (v : Value) : isIt (w.setCell ⟨c, o, none⟩ v) b f n ok nm := (heap_setCell_other w ⟨c, o, none⟩ b v ha).trans h
/-- Seven cells stored. -/
def set7 (w : World) (c : Nat) (f : Nat → Bool) (n : Int) (ok nm : Bool) : World :=
  ((((((w.setCell ⟨c, 0, none⟩ (.int .u64 (wd f 0 : Int))).setCell ⟨c, 1, none⟩ (.int .u64 (wd f 1 : Int))).setCell ⟨c, 2, none⟩ (.int .u64 (wd f 2 : Int))).setCell ⟨c, 3, none⟩ (.int .u64 (wd f 3 : Int))).setCell ⟨c, 4, none⟩ (.int .i64 n)).setCell ⟨c, 5, none⟩ (.bool ok)).setCell ⟨c, 6, none⟩ (.bool nm)
theorem isIt.stored {w : World} {b : Nat} {f : Nat → Bool} {n : Int} {ok nm : Bool} (h : isIt w b f n ok nm) (g : Nat → Bool) (m : Int) (ok' nm' : Bool) : isIt (set7 w b g m ok' nm') b g m ok' nm' := by
  have h1 := heap_setCell_same w b 0 _ _ (.int .u64 (wd g 0 : Int)) h
  have h2 := heap_setCell_same _ b 1 _ _ (.int .u64 (wd g 1 : Int)) h1
  have h3 := heap_setCell_same _ b 2 _ _ (.int .u64 (wd g 2 : Int)) h2
  have h4 := heap_setCell_same _ b 3 _ _ (.int .u64 (wd g 3 : Int)) h3
  have h5 := heap_setCell_same _ b 4 _ _ (.int .i64 m) h4
  have h6 := heap_setCell_same _ b 5 _ _ (.bool ok') h5
  have h7 := heap_setCell_same _ b 6 _ _ (.bool nm') h6
  unfold isIt set7
  rw [h7]
  simp
theorem below_set7 {B : Nat} {a w : World} {c : Nat} (h : Below B a w) (hc : B ≤ c) (g : Nat → Bool) (m : Int) (ok nm : Bool) : Below B a (set7 w c g m ok nm) :=
  ((((((h.setCell hc _).setCell hc _).setCell hc _).setCell hc _).setCell hc _).setCell hc _).setCell hc _

/-- The bytes from one to one. -/
def oneR (b x : Nat) : Bool := decide (b ≤ x) && decide (x ≤ b)
/-- What a backslash at a place stands for: the bytes, where it ends, whether it can be made. -/
def behF (p : ByteArray) (k : Nat) : Nat → Bool :=
  if p.size ≤ k + 1 then fun _ => false
  else if gb p (k + 1) ≠ 120 then escF (gb p (k + 1))
  else if p.size ≤ k + 3 ∨ dig16 (gb p (k + 2)) < 0 ∨ dig16 (gb p (k + 3)) < 0 then fun _ => false
  else oneR (dig16 (gb p (k + 2)) * 16 + dig16 (gb p (k + 3))).toNat
def behN (p : ByteArray) (k : Nat) : Nat :=
  if p.size ≤ k + 1 then 0
  else if gb p (k + 1) ≠ 120 then k + 2
  else if p.size ≤ k + 3 ∨ dig16 (gb p (k + 2)) < 0 ∨ dig16 (gb p (k + 3)) < 0 then 0
  else k + 4
def behOk (p : ByteArray) (k : Nat) : Bool :=
  if p.size ≤ k + 1 then false
  else if gb p (k + 1) ≠ 120 then escOk (gb p (k + 1))
  else if p.size ≤ k + 3 ∨ dig16 (gb p (k + 2)) < 0 ∨ dig16 (gb p (k + 3)) < 0 then false
  else true
theorem dig16_bd (c : Nat) : -1 ≤ dig16 c ∧ dig16 c ≤ 15 := by unfold dig16; repeat' split <;> omega
theorem dig16_eq (c : Nat) (d : Int) (hc : c < 256) (h : dig16 c = d) (w : World) : Calls Tryz.prog 42 #[.int .u8 (c : Int)] w fun e w' => e = .returned (.int .i64 d) ∧ w = w' := by
  subst h
  exact (dig16_any c hc w).mono fun _ _ h => h
end Go.Proofs.YtiahgcgpakgeeaaGreatDoor
