/-
  Sets of bytes as functions from numbers to bools: a word of 64 bits out of such a function, and what the operations on words make of it. Plain facts, no program.
  What all texts lean on: imports, and small words on worlds.
-/
import Derived.WalkKit
import Derived.Test.YtiahgcgpakgeeaaDoorProg
import Derived.WalkSpells
import Derived.WalkLawsBesides
import Derived.Handy
import Derived.KernelRfl
import Derived.Deep.RegionHeld3
import Derived.Deep.RegionHeldLaw
import Derived.Deep.QuietTactic
import Derived.BigQuiet
import Derived.Lib.Hide
import Derived.OneCell
import Derived.Laws.StructEq
import Derived.Laws.OwnMore
namespace Go.Proofs.YtiahgcgpakgeeaaDoor

/-- The number whose bit j is f (b + j), for j below n. -/
def bitsTo (f : Nat → Bool) (b : Nat) : Nat → Nat
  | 0 => 0
  | n + 1 => bitsTo f b n + if f (b + n) = true then 2 ^ n else 0

theorem bitsTo_lt (f : Nat → Bool) (b n : Nat) : bitsTo f b n < 2 ^ n := by
  induction n with
  | zero => simp [bitsTo]
  | succ n ih =>
    simp only [bitsTo]
    have : 2 ^ (n + 1) = 2 * 2 ^ n := by rw [Nat.pow_succ]; omega
    split <;> omega

theorem bitsTo_testBit (f : Nat → Bool) (b n j : Nat) : (bitsTo f b n).testBit j = (decide (j < n) && f (b + j)) := by
  induction n with
  | zero => simp [bitsTo]
  | succ n ih =>
    simp only [bitsTo]
    by_cases hj : j < n
    · have h1 : decide (j < n + 1) = true := by simp; omega
      rw [h1]
      have h2 : decide (j < n) = true := by simp [hj]
      rw [h2] at ih
      split
      · rw [Nat.add_comm, Nat.testBit_two_pow_add_gt hj, ih]
      · rw [Nat.add_zero, ih]
    · by_cases he : j = n
      · subst he
        have h0 : (bitsTo f b j).testBit j = false := by rw [ih]; simp
        split
        · rename_i hf
          rw [Nat.add_comm, Nat.testBit_two_pow_add_eq, h0, hf]; simp
        · rename_i hf
          rw [Nat.add_zero, h0]
          simp at hf
          rw [hf]; simp
      · have h1 : decide (j < n + 1) = false := by simp; omega
        rw [h1]
        have hl := bitsTo_lt f b n
        have hp : 2 ^ (n + 1) ≤ 2 ^ j := Nat.pow_le_pow_right (by decide) (by omega)
        have hq : 2 ^ (n + 1) = 2 * 2 ^ n := by rw [Nat.pow_succ]; omega
        rw [Nat.testBit_lt_two_pow]
        · simp
        · split <;> omega

/-- Word i of a set. -/
def wd (f : Nat → Bool) (i : Nat) : Nat := bitsTo f (64 * i) 64
theorem wd_lt (f : Nat → Bool) (i : Nat) : wd f i < 18446744073709551616 := bitsTo_lt f (64 * i) 64
theorem wd_testBit (f : Nat → Bool) (i j : Nat) : (wd f i).testBit j = (decide (j < 64) && f (64 * i + j)) := bitsTo_testBit f (64 * i) 64 j

theorem eq_of_bits {x y : Nat} (hx : x < 18446744073709551616) (hy : y < 18446744073709551616) (h : ∀ j, j < 64 → x.testBit j = y.testBit j) : x = y := by
  apply Nat.eq_of_testBit_eq
  intro j
  by_cases hj : j < 64
  · exact h j hj
  · have hp : 2 ^ 64 ≤ 2 ^ j := Nat.pow_le_pow_right (by decide) (by omega)
    rw [Nat.testBit_lt_two_pow (by omega), Nat.testBit_lt_two_pow (by omega)]

/-- A number below 2 to the 64 is the word of its own bits. -/
theorem wd_eq {x : Nat} (hx : x < 18446744073709551616) (f : Nat → Bool) (i : Nat) (h : ∀ j, j < 64 → x.testBit j = f (64 * i + j)) : x = wd f i :=
  eq_of_bits hx (wd_lt f i) fun j hj => by rw [wd_testBit, h j hj]; simp [hj]

theorem wd_congr {f g : Nat → Bool} {i : Nat} (h : ∀ j, j < 64 → f (64 * i + j) = g (64 * i + j)) : wd f i = wd g i :=
  wd_eq (wd_lt f i) g i fun j hj => by rw [wd_testBit, h j hj]; simp [hj]

/-- The function of four words. -/
def ofWords (x0 x1 x2 x3 : Nat) (k : Nat) : Bool :=
  if k < 64 then x0.testBit k else if k < 128 then x1.testBit (k - 64) else if k < 192 then x2.testBit (k - 128) else x3.testBit (k - 192)
theorem ofWords_wd {x0 x1 x2 x3 : Nat} (h0 : x0 < 18446744073709551616) (h1 : x1 < 18446744073709551616) (h2 : x2 < 18446744073709551616) (h3 : x3 < 18446744073709551616) :
    x0 = wd (ofWords x0 x1 x2 x3) 0 ∧ x1 = wd (ofWords x0 x1 x2 x3) 1 ∧ x2 = wd (ofWords x0 x1 x2 x3) 2 ∧ x3 = wd (ofWords x0 x1 x2 x3) 3 := by
  refine ⟨wd_eq h0 _ 0 ?_, wd_eq h1 _ 1 ?_, wd_eq h2 _ 2 ?_, wd_eq h3 _ 3 ?_⟩ <;> intro j hj <;> unfold ofWords
  · rw [if_pos (by omega)]; simp
  · rw [if_neg (by omega), if_pos (by omega), show 64 * 1 + j - 64 = j from by omega]
  · rw [if_neg (by omega), if_neg (by omega), if_pos (by omega), show 64 * 2 + j - 128 = j from by omega]
  · rw [if_neg (by omega), if_neg (by omega), if_neg (by omega), show 64 * 3 + j - 192 = j from by omega]

theorem word_or (f g : Nat → Bool) (i : Nat) : bits .or .u64 (wd f i : Int) (wd g i : Int) = (wd (fun k => f k || g k) i : Nat) := by
  rw [bits_or_u64_nat _ _ (wd_lt f i) (wd_lt g i)]
  congr 1
  refine wd_eq (Nat.or_lt_two_pow (n := 64) (wd_lt f i) (wd_lt g i)) _ i fun j hj => ?_
  rw [Nat.testBit_or, wd_testBit, wd_testBit]; simp [hj]
theorem word_and (f g : Nat → Bool) (i : Nat) : bits .and .u64 (wd f i : Int) (wd g i : Int) = (wd (fun k => f k && g k) i : Nat) := by
  rw [bits_and_u64_nat _ _ (wd_lt f i) (wd_lt g i)]
  congr 1
  refine wd_eq (Nat.and_lt_two_pow (n := 64) _ (wd_lt g i)) _ i fun j hj => ?_
  rw [Nat.testBit_and, wd_testBit, wd_testBit]; simp [hj]
theorem word_less (f g : Nat → Bool) (i : Nat) : bits .andNot .u64 (wd f i : Int) (wd g i : Int) = (wd (fun k => f k && !g k) i : Nat) := by
  have e : bits .andNot .u64 (wd f i : Int) (wd g i : Int) = ((wd f i &&& (18446744073709551615 - wd g i) : Nat) : Int) := by
    have := u64_andNot_nat (wd f i) (wd g i) (wd_lt f i) (wd_lt g i)
    exact this
  rw [e]
  congr 1
  have hn : 18446744073709551615 - wd g i = wd (fun k => !g k) i := by
    refine wd_eq (by omega) _ i fun j hj => ?_
    have h := wd_lt g i
    have := Nat.testBit_two_pow_sub_succ (n := 64) (x := wd g i) h j
    have e2 : 2 ^ 64 - (wd g i + 1) = 18446744073709551615 - wd g i := by omega
    rw [e2] at this
    rw [this, wd_testBit]; simp [hj]
  rw [hn]
  refine wd_eq (Nat.and_lt_two_pow (n := 64) _ (wd_lt _ i)) _ i fun j hj => ?_
  rw [Nat.testBit_and, wd_testBit, wd_testBit]; simp [hj]

/-- The test of a bit. -/
theorem word_has (f : Nat → Bool) (i j : Nat) (hj : j < 64) : (bits .and .u64 ((wd f i : Int) / 2 ^ j) 1 == 1) = f (64 * i + j) := by
  have e0 : ((wd f i : Int) / 2 ^ j) = ((wd f i / 2 ^ j : Nat) : Int) := by simp
  have hl : wd f i / 2 ^ j < 18446744073709551616 := Nat.lt_of_le_of_lt (Nat.div_le_self _ _) (wd_lt f i)
  rw [e0, show (1 : Int) = ((1 : Nat) : Int) from rfl, bits_and_u64_nat _ _ hl (by decide)]
  have hb : (wd f i).testBit j = f (64 * i + j) := by rw [wd_testBit]; simp [hj]
  rw [← hb, Nat.testBit_eq_decide_div_mod_eq, Nat.and_one_is_mod]
  have h2 : wd f i / 2 ^ j % 2 = 0 ∨ wd f i / 2 ^ j % 2 = 1 := by omega
  rcases h2 with h2 | h2 <;> rw [h2] <;> decide

/-- The word with one bit more. -/
theorem word_put (f : Nat → Bool) (i j : Nat) (hj : j < 64) : bits .or .u64 (wd f i : Int) (IntKind.u64.wrap (2 ^ j)) = (wd (fun k => f k || decide (k = 64 * i + j)) i : Nat) := by
  have hlt : 2 ^ j < 2 ^ 64 := Nat.pow_lt_pow_right (by decide) hj
  have e : IntKind.u64.wrap (2 ^ j) = ((2 ^ j : Nat) : Int) := by
    rw [IntKind.wrap_u64]
    have e1 : ((2 : Int) ^ j) = ((2 ^ j : Nat) : Int) := by simp
    rw [e1]
    generalize 2 ^ j = p at *
    omega
  rw [e, bits_or_u64_nat _ _ (wd_lt f i) (by omega)]
  congr 1
  refine wd_eq (Nat.or_lt_two_pow (n := 64) (wd_lt f i) hlt) _ i fun k hk => ?_
  rw [Nat.testBit_or, wd_testBit, Nat.testBit_two_pow]
  simp [hk]
  by_cases h : j = k <;> simp [h]
  omega
theorem word_put_other (f : Nat → Bool) (i c : Nat) (h : c / 64 ≠ i) : wd (fun k => f k || decide (k = c)) i = wd f i :=
  wd_congr fun j hj => by
    have : ¬ (64 * i + j = c) := by omega
    simp [this]

/-- The bytes below n. -/
theorem word_below (n i : Nat) (h0 : 64 * i < n) (h1 : n < 64 * i + 64) : IntKind.u64.wrap (IntKind.u64.wrap (2 ^ (n - 64 * i)) - 1) = (wd (fun k => decide (k < n)) i : Nat) := by
  have hlt : 2 ^ (n - 64 * i) < 2 ^ 64 := Nat.pow_lt_pow_right (by decide) (by omega)
  have hpos : 0 < 2 ^ (n - 64 * i) := Nat.two_pow_pos _
  have e1 : ((2 : Int) ^ (n - 64 * i)) = ((2 ^ (n - 64 * i) : Nat) : Int) := by simp
  rw [IntKind.wrap_u64, IntKind.wrap_u64, e1]
  have e2 : ((((2 ^ (n - 64 * i) : Nat) : Int) % 18446744073709551616 - 1) % 18446744073709551616) = ((2 ^ (n - 64 * i) - 1 : Nat) : Int) := by
    clear e1
    generalize 2 ^ (n - 64 * i) = p at *
    omega
  rw [e2]
  congr 1
  refine wd_eq (by omega) _ i fun j hj => ?_
  rw [Nat.testBit_two_pow_sub_one]
  by_cases h : j < n - 64 * i
  · have : 64 * i + j < n := by omega
    simp [h, this]
  · have : ¬ 64 * i + j < n := by omega
    simp [h, this]
theorem word_none (f : Nat → Bool) (i : Nat) (h : ∀ j, j < 64 → f (64 * i + j) = false) : wd f i = 0 :=
  (wd_eq (by decide) f i fun j hj => by rw [h j hj]; simp).symm
theorem word_all (f : Nat → Bool) (i : Nat) (h : ∀ j, j < 64 → f (64 * i + j) = true) : wd f i = 18446744073709551615 :=
  (wd_eq (by decide) f i fun j hj => by
    rw [h j hj]
    have := Nat.testBit_two_pow_sub_one 64 j
    simp only [Nat.reducePow, Nat.reduceSub] at this
    rw [this]; simp [hj]).symm

/-- A set as a value. -/
def sv (f : Nat → Bool) : Value := .agg #[.int .u64 (wd f 0 : Int), .int .u64 (wd f 1 : Int), .int .u64 (wd f 2 : Int), .int .u64 (wd f 3 : Int)]
theorem sv_congr {f g : Nat → Bool} (h : ∀ k, k < 256 → f k = g k) : sv f = sv g := by
  unfold sv
  rw [wd_congr (i := 0) (f := f) (g := g) fun j hj => h _ (by omega), wd_congr (i := 1) (f := f) (g := g) fun j hj => h _ (by omega), wd_congr (i := 2) (f := f) (g := g) fun j hj => h _ (by omega), wd_congr (i := 3) (f := f) (g := g) fun j hj => h _ (by omega)]

end Go.Proofs.YtiahgcgpakgeeaaDoor

namespace Go.Proofs.YtiahgcgpakgeeaaDoor
open Go.RowKit

attribute [go_sem] sv
theorem w2of {B : Nat} {W w1 : World} (hb : Below B W w1) : (∀ b o, b < B → w1.cell? ⟨b, o, none⟩ = W.cell? ⟨b, o, none⟩) ∧ (∀ b o, b < B → w1.frozen? ⟨b, o, none⟩ = W.frozen? ⟨b, o, none⟩) :=
  ⟨fun b o h => hb.cell (p := ⟨b, o, none⟩) h, fun b o h => hb.frozen (p := ⟨b, o, none⟩) h⟩


theorem grownBy_of_below {w w' : World} (h : Below w.heap.size w w') : w.grownBy w' none := ⟨h.os, h.tape, h.output, h.size, fun k hk _ => h.block k hk⟩
theorem owns_below {w w' : World} {base : Nat} {e : TypeId} {size : Nat} {v : Value} {n : Nat} {xs : List Value} (h : w.ownsRow base e size v n xs) (hb : Below w.heap.size w w') : w'.ownsRow base e size v n xs :=
  h.kept (grownBy_of_below hb) (by cases v.ownBlock <;> simp)
theorem owns_mono {w : World} {base base' : Nat} {e : TypeId} {size : Nat} {v : Value} {n : Nat} {xs : List Value} (h : w.ownsRow base e size v n xs) (hb : base' ≤ base) : w.ownsRow base' e size v n xs := by
  obtain ⟨h0, h1⟩ := h
  refine ⟨h0, ?_⟩
  rcases h1 with h1 | ⟨g, cap, cur, h1, h2, h3⟩
  · exact .inl h1
  · exact .inr ⟨g, cap, cur, h1, Nat.le_trans hb h2, h3⟩
theorem below_drewN {B : Nat} {w w' : World} (n : Nat) (h : Below B w w') : Below B w (w'.drewN n) := ⟨h.os, h.tape, h.output, h.size, h.block⟩
theorem toList_data (s : ByteArray) : s.toList = s.data.toList := ByteArray.toList_eq s
/-- A set as a value, written out. -/
@[reducible] def svr (f : Nat → Bool) : Value := .agg #[.int .u64 (wd f 0 : Int), .int .u64 (wd f 1 : Int), .int .u64 (wd f 2 : Int), .int .u64 (wd f 3 : Int)]
end Go.Proofs.YtiahgcgpakgeeaaDoor
