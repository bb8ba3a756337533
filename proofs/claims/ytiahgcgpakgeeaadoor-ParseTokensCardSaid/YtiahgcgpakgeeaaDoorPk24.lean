/-
  The walk of named's Class: what any name's rows of the table make.
  The walks of named's class and word.
-/
import Derived.Test.YtiahgcgpakgeeaaDoorPk10
import Derived.Test.YtiahgcgpakgeeaaDoorPk23
import Derived.Test.YtiahgcgpakgeeaaDoorPk13
import Derived.Test.YtiahgcgpakgeeaaDoorPk21
namespace Go.Proofs.YtiahgcgpakgeeaaDoor
open Go.RowKit

/-- A row of the table; its name, as the walk has it. -/
def rowOf (k : Nat) : List UInt8 × Nat × Nat := tabL.getD k ([], 0, 0)
def tn (k : Nat) : ByteArray := ⟨(rowOf k).1.toArray⟩
def tlo (k : Nat) : Nat := (rowOf k).2.1
def thi (k : Nat) : Nat := (rowOf k).2.2
/-- Is b one of the bytes of the first k rows of that name? Is there such a row? -/
def clsK (s : ByteArray) : Nat → Nat → Bool
  | 0, _ => false
  | k + 1, b => clsK s k b || ((tn k).toList == s.toList && (decide (tlo k ≤ b) && decide (b ≤ thi k)))
def fndK (s : ByteArray) : Nat → Bool
  | 0 => false
  | k + 1 => fndK s k || (tn k).toList == s.toList
theorem clsK_hit (s : ByteArray) (k : Nat) (h : ((tn k).toList == s.toList) = true) : (fun b => clsK s k b || (decide (tlo k ≤ b) && decide (b ≤ thi k))) = clsK s (k + 1) := by
  funext b; simp only [clsK, h, Bool.true_and]
theorem clsK_miss (s : ByteArray) (k : Nat) (h : ((tn k).toList == s.toList) = false) : clsK s (k + 1) = clsK s k := by
  funext b; simp only [clsK, h, Bool.false_and, Bool.or_false]
theorem fndK_hit (s : ByteArray) (k : Nat) (h : ((tn k).toList == s.toList) = true) : fndK s (k + 1) = true := by simp only [fndK, h, Bool.or_true]
theorem fndK_miss (s : ByteArray) (k : Nat) (h : ((tn k).toList == s.toList) = false) : fndK s (k + 1) = fndK s k := by simp only [fndK, h, Bool.or_false]

theorem index_tab : ∀ (k : Nat), k < 23 → ∀ (w : World), (Instr.index 109 (.agg tabC.toArray) (.int .i64 (k : Int))).run Tryd.prog w = .ok (.agg #[.string (tn k), .int .u8 (tlo k : Int), .int .u8 (thi k : Int)]) w
  | 0, _, _ => by kernel_rfl
  | 1, _, _ => by kernel_rfl
  | 2, _, _ => by kernel_rfl
  | 3, _, _ => by kernel_rfl
  | 4, _, _ => by kernel_rfl
  | 5, _, _ => by kernel_rfl
  | 6, _, _ => by kernel_rfl
  | 7, _, _ => by kernel_rfl
  | 8, _, _ => by kernel_rfl
  | 9, _, _ => by kernel_rfl
  | 10, _, _ => by kernel_rfl
  | 11, _, _ => by kernel_rfl
  | 12, _, _ => by kernel_rfl
  | 13, _, _ => by kernel_rfl
  | 14, _, _ => by kernel_rfl
  | 15, _, _ => by kernel_rfl
  | 16, _, _ => by kernel_rfl
  | 17, _, _ => by kernel_rfl
  | 18, _, _ => by kernel_rfl
  | 19, _, _ => by kernel_rfl
  | 20, _, _ => by kernel_rfl
  | 21, _, _ => by kernel_rfl
  | 22, _, _ => by kernel_rfl
  | _ + 23, h, _ => absurd h (by omega)
theorem t_small : ∀ k, k < 23 → tlo k < 256 ∧ thi k < 256 := by decide
theorem infoTab : (Tryd.prog.info? 109).map (·.size) = some tabC.length := by kernel_rfl

/-- A block that holds a row. -/
def isRow (w : World) (b : Nat) (s : ByteArray) (x y : Nat) : Prop := w.heap[b]? = some (.cells #[.string s, .int .u8 (x : Int), .int .u8 (y : Int)] 108 (0, 0))
theorem isRow.cells {w : World} {b x y : Nat} {s : ByteArray} (h : isRow w b s x y) : w.cell? ⟨b, 0, none⟩ = some (.string s) ∧ w.cell? ⟨b, 1, none⟩ = some (.int .u8 (x : Int)) ∧ w.cell? ⟨b, 2, none⟩ = some (.int .u8 (y : Int)) := by
  unfold isRow at h
  refine ⟨?_, ?_, ?_⟩ <;> simp [World.cell?, h]

set_option maxRecDepth 100000 in
set_option maxHeartbeats 4000000 in
theorem class_any (s : ByteArray) (w : World) (hT : Tabbed w) :
    Calls Tryd.prog 64 #[.string s] w fun e w' => e = .returned (.tuple #[sv (clsK s 23), .bool (fndK s 23)]) ∧ Below w.heap.size w w' := by
  have S0 := Lib.hid ((isSet.newNone w).alloc (.cells #[.int .u64 0, .int .u64 0, .int .u64 0, .int .u64 0] 35))
  have S1 := Lib.hid (isSet.newNone (w.alloc (.cells #[.int .u64 0, .int .u64 0, .int .u64 0, .int .u64 0] 35)))
  have hT2 : ((w.alloc (.cells #[.int .u64 0, .int .u64 0, .int .u64 0, .int .u64 0] 35)).alloc (.cells #[.int .u64 0, .int .u64 0, .int .u64 0, .int .u64 0] 35)).rangeAt 1 0 tabC := (hT.alloc _).alloc _
  go_enter Tryd.func64, Tryd.ntmps64
  go_wp2_with (refine wpList_load_mid rfl 109 _ rfl 1 0 rfl tabC _ hT2 Tryd.underlying109 rfl infoTab ?_)
  clear hT2
  go_loopw [5, 9] (fun fd i wr => ∃ k : Nat, k ≤ 23 ∧ fd = .bool (fndK s k) ∧ i = .int .i64 k ∧ isSet wr w.heap.size (fun _ => false) ∧ isSet wr (w.heap.size + 1) (clsK s k) ∧ Below w.heap.size w wr) (fun _ i _ => 23 - (intOf i).toNat)
  case atStart => exact ⟨0, Nat.zero_le _, rfl, rfl, S0.out, by have := S1.out; rw [World.size_alloc] at this; exact this, ((Below.refl _ _).alloc (Nat.le_refl _) _).alloc (by simp) _⟩
  case round =>
    obtain ⟨k, hk, rfl, rfl, b0, b1, hBw⟩ := hrel
    clear S0 S1
    have l0 := b0.lt; have l1 := b1.lt
    by_cases hlt : k < 23
    · have hix := index_tab k hlt
      have hx := t_small k hlt
      cases hq : ((tn k).toList == s.toList)
      · have hm := Lib.hid (clsK_miss s k hq)
        have hf := Lib.hid (fndK_miss s k hq)
        have hR := Lib.hid (hBw.alloc hBw.size (.cells #[.string (tn k), .int .u8 (tlo k : Int), .int .u8 (thi k : Int)] 108))
        have z0 := Lib.hid (b0.alloc (.cells #[.string (tn k), .int .u8 (tlo k : Int), .int .u8 (thi k : Int)] 108))
        have z1 := Lib.hid (b1.alloc (.cells #[.string (tn k), .int .u8 (tlo k : Int), .int .u8 (thi k : Int)] 108))
        clear hBw b0 b1
        go_wp2
        go_roundw
        case rel => exact ⟨k + 1, by omega, by rw [hf.out], by go_num, z0.out, by rw [hm.out]; exact z1.out, hR.out⟩
        case measure => simp [intOf]; omega
      · have hm := Lib.hid (clsK_hit s k hq)
        have hf := Lib.hid (fndK_hit s k hq)
        have c0 := b0.alloc (.cells #[.string (tn k), .int .u8 (tlo k : Int), .int .u8 (thi k : Int)] 108)
        have c1 := b1.alloc (.cells #[.string (tn k), .int .u8 (tlo k : Int), .int .u8 (thi k : Int)] 108)
        have c2 : isRow (wr.alloc (.cells #[.string (tn k), .int .u8 (tlo k : Int), .int .u8 (thi k : Int)] 108)) wr.heap.size (tn k) (tlo k) (thi k) := heap_alloc_new wr _
        have hB1 := hBw.alloc hBw.size (.cells #[.string (tn k), .int .u8 (tlo k : Int), .int .u8 (thi k : Int)] 108)
        have hbs := hBw.size
        clear b0 b1 hBw
        go_wp2
        obtain ⟨x, hx1⟩ : ∃ x, x = tlo k := ⟨_, rfl⟩
        obtain ⟨y, hy1⟩ : ∃ y, y = thi k := ⟨_, rfl⟩
        have hstep : Hid ((fun b => clsK s k b || (decide (x ≤ b) && decide (b ≤ y))) = clsK s (k + 1)) := by rw [hx1, hy1]; exact hm.out
        rw [← hx1, ← hy1] at hx c0 c1 c2 hB1 ⊢
        obtain ⟨hx2, hy2⟩ := hx
        clear hm hx1 hy1 hix hq
        have l2 : wr.heap.size < (wr.alloc (.cells #[.string (tn k), .int .u8 (x : Int), .int .u8 (y : Int)] 108)).heap.size := by simp
        generalize wr.alloc (.cells #[.string (tn k), .int .u8 (x : Int), .int .u8 (y : Int)] 108) = W at *
        have hB := (Below.refl W.heap.size W).drew
        have lt1 := c1.lt
        obtain ⟨p0, p1, p2, p3⟩ := c1.cells
        obtain ⟨u0, u1, u2⟩ := c2.cells
        go_region_with
          (first
            | (go_at_call 53; (with_reducible refine (range_any x y hx2 hy2 _).mono ?_); rintro e wk ⟨rfl, hb⟩; replace hB := hB.trans (hb.mono hB.size); clear hb; have d1 := c1.below hB lt1; obtain ⟨p0, p1, p2, p3⟩ := d1.cells)
            | (go_at_call 41; (with_reducible refine (or_lit _ _ _).mono ?_); rw [hstep.out]; rintro e wk ⟨rfl, hb⟩; replace hB := hB.trans (hb.mono hB.size); clear hb; have d1 := c1.below hB lt1; obtain ⟨r0, r1, r2, r3⟩ := d1.free; obtain ⟨p0, p1, p2, p3⟩ := d1.cells))
        all_goals
          have d0 := c0.below hB c0.lt
          have z0 := d0.other4 (c := w.heap.size + 1) (by omega) (.int .u64 (wd (clsK s (k + 1)) 0 : Int)) (.int .u64 (wd (clsK s (k + 1)) 1 : Int)) (.int .u64 (wd (clsK s (k + 1)) 2 : Int)) (.int .u64 (wd (clsK s (k + 1)) 3 : Int))
          have z1 := d1.stored (clsK s (k + 1))
          have hR3 := below_set4 (c := w.heap.size + 1) (hB1.trans (hB.mono hB1.size)) (by omega) (.int .u64 (wd (clsK s (k + 1)) 0 : Int)) (.int .u64 (wd (clsK s (k + 1)) 1 : Int)) (.int .u64 (wd (clsK s (k + 1)) 2 : Int)) (.int .u64 (wd (clsK s (k + 1)) 3 : Int))
          clear d0 d1 c0 c1 c2 hB1 hB p0 p1 p2 p3 u0 u1 u2 r0 r1 r2 r3 hstep
          go_wp2
          go_roundw
          case rel => exact ⟨k + 1, by omega, by rw [hf.out], by go_num, z0, z1, hR3⟩
          case measure => simp [intOf]; omega
    · obtain rfl : k = 23 := by omega
      obtain ⟨q0, q1, q2, q3⟩ := b1.cells
      obtain ⟨q4, q5, q6, q7⟩ := b0.cells
      obtain ⟨r0, r1, r2, r3⟩ := b0.free
      have hR3 := below_set4 (c := w.heap.size) hBw (Nat.le_refl _) (.int .u64 (wd (clsK s 23) 0 : Int)) (.int .u64 (wd (clsK s 23) 1 : Int)) (.int .u64 (wd (clsK s 23) 2 : Int)) (.int .u64 (wd (clsK s 23) 3 : Int))
      have z2 := (b0.stored (clsK s 23)).cells
      clear hBw b0 b1
      go_wp2
      refine bodyPost_ret (v := .tuple #[sv (clsK s 23), .bool (fndK s 23)]) (by simp [results, Tryd.results64, go_sem, z2]) rfl ⟨rfl, hR3⟩
end Go.Proofs.YtiahgcgpakgeeaaDoor

namespace Go.Proofs.YtiahgcgpakgeeaaDoor
open Go.RowKit

set_option maxRecDepth 100000 in
set_option maxHeartbeats 1000000 in
theorem cl_any (s : ByteArray) (w : World) (hT : Tabbed w) :
    Calls Tryd.prog 47 #[.string s] w fun e w' => e = .returned (sv (clsK s 23)) ∧ Below w.heap.size w w' := by
  have b0 := isSet.newNone w
  have hT1 := Lib.hid (hT.alloc (.cells #[.int .u64 0, .int .u64 0, .int .u64 0, .int .u64 0] 35))
  go_enter Tryd.func47, Tryd.ntmps47
  go_wp2_with fail
  refine (class_any s _ hT1.out).mono ?_
  rintro e w1 ⟨rfl, hb1⟩
  have hW : Below w.heap.size w w1 := ((Below.refl _ _).alloc (Nat.le_refl _) _).trans (hb1.mono (by simp))
  have c0 := b0.below hb1 (by simp)
  have hR1 := below_set4 (c := w.heap.size) hW (Nat.le_refl _) (.int .u64 (wd (clsK s 23) 0 : Int)) (.int .u64 (wd (clsK s 23) 1 : Int)) (.int .u64 (wd (clsK s 23) 2 : Int)) (.int .u64 (wd (clsK s 23) 3 : Int))
  have hR := hR1.alloc hR1.size (.cells #[.int .u64 (wd (clsK s 23) 0 : Int), .int .u64 (wd (clsK s 23) 1 : Int), .int .u64 (wd (clsK s 23) 2 : Int), .int .u64 (wd (clsK s 23) 3 : Int)] 35)
  have z := ((c0.stored (clsK s 23)).alloc (.cells #[.int .u64 (wd (clsK s 23) 0 : Int), .int .u64 (wd (clsK s 23) 1 : Int), .int .u64 (wd (clsK s 23) 2 : Int), .int .u64 (wd (clsK s 23) 3 : Int)] 35)).cells
  have HR := Lib.hid hR
  have l1 := hW.size
  have l2 : w.heap.size < w1.heap.size := c0.lt
  obtain ⟨r0, r1, r2, r3⟩ := c0.free
  obtain ⟨q0, q1, q2, q3⟩ := c0.cells
  have Z := Lib.hid z
  clear z hR hR1 c0 b0 hT1 hW hb1
  go_wp2
  refine bodyPost_ret (v := sv (clsK s 23)) (by simp [results, Tryd.results47, go_sem, Z.out]) rfl ⟨rfl, HR.out⟩

def alnumS : ByteArray := { data := #[97, 108, 110, 117, 109] }
/-- The bytes of a word. -/
def wordF (b : Nat) : Bool := clsK alnumS 23 b || decide (b = 95)
set_option maxRecDepth 100000 in
set_option maxHeartbeats 1000000 in
theorem word_any (w : World) (hT : Tabbed w) :
    Calls Tryd.prog 48 #[] w fun e w' => e = .returned (sv wordF) ∧ Below w.heap.size w w' := by
  have b0 := isSet.newNone w
  have hT1 := Lib.hid (hT.alloc (.cells #[.int .u64 0, .int .u64 0, .int .u64 0, .int .u64 0] 35))
  go_enter Tryd.func48, Tryd.ntmps48
  go_wp2_with fail
  refine (cl_any _ _ hT1.out).mono ?_
  rintro e w1 ⟨rfl, hb1⟩
  have hW : Below w.heap.size w w1 := ((Below.refl _ _).alloc (Nat.le_refl _) _).trans (hb1.mono (by simp))
  have c0 := b0.below hb1 (by simp)
  have l1 : w.heap.size < w1.heap.size := c0.lt
  clear hb1 hT1 b0
  go_wp2_with fail
  refine (of_one 95 (by decide) _ _ (by simp) (by simp [go_sem])).mono ?_
  rintro e w2 ⟨rfl, hb2⟩
  have hW2 := (hW.alloc hW.size (.cells #[.int .u8 95] 5)).trans (hb2.mono (by simp; omega))
  have d0 := (c0.alloc (.cells #[.int .u8 95] 5)).below hb2 (by simp; omega)
  have l2 : w.heap.size < w2.heap.size := d0.lt
  clear hb2 hW c0
  go_wp2_with fail
  refine (or_lit _ _ _).mono ?_
  rw [show (fun k => clsK { data := #[97, 108, 110, 117, 109] } 23 k || decide (k = 95)) = wordF from rfl]
  rintro e w3 ⟨rfl, hb3⟩
  have hW3 := hW2.trans (hb3.mono hW2.size)
  have e0 := d0.below hb3 (by omega)
  have l3 : w.heap.size < w3.heap.size := e0.lt
  obtain ⟨r0, r1, r2, r3⟩ := e0.free
  obtain ⟨q0, q1, q2, q3⟩ := e0.cells
  have HR := Lib.hid (below_set4 (c := w.heap.size) hW3 (Nat.le_refl _) (.int .u64 (wd wordF 0 : Int)) (.int .u64 (wd wordF 1 : Int)) (.int .u64 (wd wordF 2 : Int)) (.int .u64 (wd wordF 3 : Int)))
  have Z := Lib.hid (e0.stored wordF).cells
  clear e0 hW3 hW2 d0 hb3
  go_wp2
  refine bodyPost_ret (v := sv wordF) (by simp [results, Tryd.results48, go_sem, Z.out]) rfl ⟨rfl, HR.out⟩
end Go.Proofs.YtiahgcgpakgeeaaDoor
