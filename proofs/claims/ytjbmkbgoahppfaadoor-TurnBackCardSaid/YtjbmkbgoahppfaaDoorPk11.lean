/-
  The walk of named's Class: what any name's rows of the table make.
-/
import Derived.Test.YtjbmkbgoahppfaaDoorPk4
import Derived.Test.YtjbmkbgoahppfaaDoorPk10
import Derived.Test.YtjbmkbgoahppfaaDoorPk6
namespace Go.Proofs.YtjbmkbgoahppfaaDoor
open Go.RowKit

/-- A row of the table; its name, as the walk has it. -/
def rowOf (k : Nat) : List UInt8 × Nat × Nat := tabL.getD k ([], 0, 0)
def tn (k : Nat) : ByteArray := ⟨(rowOf k).1.toArray⟩
def tlo (k : Nat) : Nat := (rowOf k).2.1
def thi (k : Nat) : Nat := (rowOf k).2.2
/-- Is b one of the bytes of the first k rows of that name? Is there such a row? -/
def clsK (s : ByteArray) : Nat → Nat → Bool
  | 0, _ => false
  | k + 1, b => clsK s k b || ((tn k).toList == s.toList && (decide (tlo k ≤ b) && decide (b ≤ thi k)))
def fndK (s : ByteArray) : Nat → Bool
  | 0 => false
  | k + 1 => fndK s k || (tn k).toList == s.toList
theorem clsK_hit (s : ByteArray) (k : Nat) (h : ((tn k).toList == s.toList) = true) : (fun b => clsK s k b || (decide (tlo k ≤ b) && decide (b ≤ thi k))) = clsK s (k + 1) := by
  funext b; simp only [clsK, h, Bool.true_and]
theorem clsK_miss (s : ByteArray) (k : Nat) (h : ((tn k).toList == s.toList) = false) : clsK s (k + 1) = clsK s k := by
  funext b; simp only [clsK, h, Bool.false_and, Bool.or_false]
theorem fndK_hit (s : ByteArray) (k : Nat) (h : ((tn k).toList == s.toList) = true) : fndK s (k + 1) = true := by simp only [fndK, h, Bool.or_true]
theorem fndK_miss (s : ByteArray) (k : Nat) (h : ((tn k).toList == s.toList) = false) : fndK s (k + 1) = fndK s k := by simp only [fndK, h, Bool.or_false]

theorem index_tab : ∀ (k : Nat), k < 23 → ∀ (w : World), (Instr.index 111 (.agg tabC.toArray) (.int .i64 (k : Int))).run Tryd.prog w = .ok (.agg #[.string (tn k), .int .u8 (tlo k : Int), .int .u8 (thi k : Int)]) w
  | 0, _, _ => by kernel_rfl
  | 1, _, _ => by kernel_rfl
  | 2, _, _ => by kernel_rfl
  | 3, _, _ => by kernel_rfl
  | 4, _, _ => by kernel_rfl
  | 5, _, _ => by kernel_rfl
  | 6, _, _ => by kernel_rfl
  | 7, _, _ => by kernel_rfl
  | 8, _, _ => by kernel_rfl
  | 9, _, _ => by kernel_rfl
  | 10, _, _ => by kernel_rfl
  | 11, _, _ => by kernel_rfl
  | 12, _, _ => by kernel_rfl
  | 13, _, _ => by kernel_rfl
  | 14, _, _ => by kernel_rfl
  | 15, _, _ => by kernel_rfl
  | 16, _, _ => by kernel_rfl
  | 17, _, _ => by kernel_rfl
  | 18, _, _ => by kernel_rfl
  | 19, _, _ => by kernel_rfl
  | 20, _, _ => by kernel_rfl
  | 21, _, _ => by kernel_rfl
  | 22, _, _ => by kernel_rfl
  | _ + 23, h, _ => absurd h (by omega)
theorem t_small : ∀ k, k < 23 → tlo k < 256 ∧ thi k < 256 := by decide
theorem infoTab : (Tryd.prog.info? 111).map (·.size) = some tabC.length := by kernel_rfl

/-- A block that holds a row. -/
def isRow (w : World) (b : Nat) (s : ByteArray) (x y : Nat) : Prop := w.heap[b]? = some (.cells #[.string s, .int .u8 (x : Int), .int .u8 (y : Int)] 110 (0, 0))
theorem isRow.cells {w : World} {b x y : Nat} {s : ByteArray} (h : isRow w b s x y) : w.cell? ⟨b, 0, none⟩ = some (.string s) ∧ w.cell? ⟨b, 1, none⟩ = some (.int .u8 (x : Int)) ∧ w.cell? ⟨b, 2, none⟩ = some (.int .u8 (y : Int)) := by
  unfold isRow at h
  refine ⟨?_, ?_, ?_⟩ <;> simp [World.cell?, h]

set_option maxRecDepth 100000 in
set_option maxHeartbeats 4000000 in
theorem class_any (s : ByteArray) (w : World) (hT : Tabbed w) :
    Calls Tryd.prog 72 #[.string s] w fun e w' => e = .returned (.tuple #[sv (clsK s 23), .bool (fndK s 23)]) ∧ Below w.heap.size w w' := by
  have S0 := Lib.hid ((isSet.newNone w).alloc (.cells #[.int .u64 0, .int .u64 0, .int .u64 0, .int .u64 0] 38))
  have S1 := Lib.hid (isSet.newNone (w.alloc (.cells #[.int .u64 0, .int .u64 0, .int .u64 0, .int .u64 0] 38)))
  have hT2 : ((w.alloc (.cells #[.int .u64 0, .int .u64 0, .int .u64 0, .int .u64 0] 38)).alloc (.cells #[.int .u64 0, .int .u64 0, .int .u64 0, .int .u64 0] 38)).rangeAt 0 0 tabC := (hT.alloc _).alloc _
  go_enter Tryd.func72, Tryd.ntmps72
  go_wp2_with (refine wpList_load_mid rfl 111 _ rfl 0 0 rfl tabC _ hT2 Tryd.underlying111 rfl infoTab ?_)
  clear hT2
  go_loopw [5, 9] (fun fd i wr => ∃ k : Nat, k ≤ 23 ∧ fd = .bool (fndK s k) ∧ i = .int .i64 k ∧ isSet wr w.heap.size (fun _ => false) ∧ isSet wr (w.heap.size + 1) (clsK s k) ∧ Below w.heap.size w wr) (fun _ i _ => 23 - (intOf i).toNat)
  case atStart => exact ⟨0, Nat.zero_le _, rfl, rfl, S0.out, by have := S1.out; rw [World.size_alloc] at this; exact this, ((Below.refl _ _).alloc (Nat.le_refl _) _).alloc (by simp) _⟩
  case round =>
    obtain ⟨k, hk, rfl, rfl, b0, b1, hBw⟩ := hrel
    clear S0 S1
    have l0 := b0.lt; have l1 := b1.lt
    by_cases hlt : k < 23
    · have hix := index_tab k hlt
      have hx := t_small k hlt
      cases hq : ((tn k).toList == s.toList)
      · have hm := Lib.hid (clsK_miss s k hq)
        have hf := Lib.hid (fndK_miss s k hq)
        have hR := Lib.hid (hBw.alloc hBw.size (.cells #[.string (tn k), .int .u8 (tlo k : Int), .int .u8 (thi k : Int)] 110))
        have z0 := Lib.hid (b0.alloc (.cells #[.string (tn k), .int .u8 (tlo k : Int), .int .u8 (thi k : Int)] 110))
        have z1 := Lib.hid (b1.alloc (.cells #[.string (tn k), .int .u8 (tlo k : Int), .int .u8 (thi k : Int)] 110))
        clear hBw b0 b1
        go_wp2
        go_roundw
        case rel => exact ⟨k + 1, by omega, by rw [hf.out], by go_num, z0.out, by rw [hm.out]; exact z1.out, hR.out⟩
        case measure => simp [intOf]; omega
      · have hm := Lib.hid (clsK_hit s k hq)
        have hf := Lib.hid (fndK_hit s k hq)
        have c0 := b0.alloc (.cells #[.string (tn k), .int .u8 (tlo k : Int), .int .u8 (thi k : Int)] 110)
        have c1 := b1.alloc (.cells #[.string (tn k), .int .u8 (tlo k : Int), .int .u8 (thi k : Int)] 110)
        have c2 : isRow (wr.alloc (.cells #[.string (tn k), .int .u8 (tlo k : Int), .int .u8 (thi k : Int)] 110)) wr.heap.size (tn k) (tlo k) (thi k) := heap_alloc_new wr _
        have hB1 := hBw.alloc hBw.size (.cells #[.string (tn k), .int .u8 (tlo k : Int), .int .u8 (thi k : Int)] 110)
        have hbs := hBw.size
        clear b0 b1 hBw
        go_wp2
        obtain ⟨x, hx1⟩ : ∃ x, x = tlo k := ⟨_, rfl⟩
        obtain ⟨y, hy1⟩ : ∃ y, y = thi k := ⟨_, rfl⟩
        have hstep : Hid ((fun b => clsK s k b || (decide (x ≤ b) && decide (b ≤ y))) = clsK s (k + 1)) := by rw [hx1, hy1]; exact hm.out
        rw [← hx1, ← hy1] at hx c0 c1 c2 hB1 ⊢
        obtain ⟨hx2, hy2⟩ := hx
        clear hm hx1 hy1 hix hq
        have l2 : wr.heap.size < (wr.alloc (.cells #[.string (tn k), .int .u8 (x : Int), .int .u8 (y : Int)] 110)).heap.size := by simp
        generalize wr.alloc (.cells #[.string (tn k), .int .u8 (x : Int), .int .u8 (y : Int)] 110) = W at *
        have hB := (Below.refl W.heap.size W).drew
        have lt1 := c1.lt
        obtain ⟨p0, p1, p2, p3⟩ := c1.cells
        obtain ⟨u0, u1, u2⟩ := c2.cells
        go_region_with
          (first
            | (go_at_call 77; (with_reducible refine (range_any x y hx2 hy2 _).mono ?_); rintro e wk ⟨rfl, hb⟩; replace hB := hB.trans (hb.mono hB.size); clear hb; have d1 := c1.below hB lt1; obtain ⟨p0, p1, p2, p3⟩ := d1.cells)
            | (go_at_call 58; (with_reducible refine (or_lit _ _ _).mono ?_); rw [hstep.out]; rintro e wk ⟨rfl, hb⟩; replace hB := hB.trans (hb.mono hB.size); clear hb; have d1 := c1.below hB lt1; obtain ⟨r0, r1, r2, r3⟩ := d1.free; obtain ⟨p0, p1, p2, p3⟩ := d1.cells))
        all_goals
          have d0 := c0.below hB c0.lt
          have z0 := d0.other4 (c := w.heap.size + 1) (by omega) (.int .u64 (wd (clsK s (k + 1)) 0 : Int)) (.int .u64 (wd (clsK s (k + 1)) 1 : Int)) (.int .u64 (wd (clsK s (k + 1)) 2 : Int)) (.int .u64 (wd (clsK s (k + 1)) 3 : Int))
          have z1 := d1.stored (clsK s (k + 1))
          have hR3 := below_set4 (c := w.heap.size + 1) (hB1.trans (hB.mono hB1.size)) (by omega) (.int .u64 (wd (clsK s (k + 1)) 0 : Int)) (.int .u64 (wd (clsK s (k + 1)) 1 : Int)) (.int .u64 (wd (clsK s (k + 1)) 2 : Int)) (.int .u64 (wd (clsK s (k + 1)) 3 : Int))
          clear d0 d1 c0 c1 c2 hB1 hB p0 p1 p2 p3 u0 u1 u2 r0 r1 r2 r3 hstep
          go_wp2
          go_roundw
          case rel => exact ⟨k + 1, by omega, by rw [hf.out], by go_num, z0, z1, hR3⟩
          case measure => simp [intOf]; omega
    · obtain rfl : k = 23 := by omega
      obtain ⟨q0, q1, q2, q3⟩ := b1.cells
      obtain ⟨q4, q5, q6, q7⟩ := b0.cells
      obtain ⟨r0, r1, r2, r3⟩ := b0.free
      have hR3 := below_set4 (c := w.heap.size) hBw (Nat.le_refl _) (.int .u64 (wd (clsK s 23) 0 : Int)) (.int .u64 (wd (clsK s 23) 1 : Int)) (.int .u64 (wd (clsK s 23) 2 : Int)) (.int .u64 (wd (clsK s 23) 3 : Int))
      have z2 := (b0.stored (clsK s 23)).cells
      clear hBw b0 b1
      go_wp2
      refine bodyPost_ret (v := .tuple #[sv (clsK s 23), .bool (fndK s 23)]) (by simp [results, Tryd.results72, go_sem, z2]) rfl ⟨rfl, hR3⟩
end Go.Proofs.YtjbmkbgoahppfaaDoor
