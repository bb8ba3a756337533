/-
  Sets of bytes as functions from numbers to bools: a word of 64 bits out of such a function, and what the operations on words make of it. Plain facts, no program.
  What all texts lean on: imports, and small words on worlds.
  Slices of bytes that read as lists of numbers; the bytes of a set as a list.
  Runs of a set: plain facts (stage 1's, without any walk).
  Trees as lists: where a part begins, what is a tree, how deep it is: the plain mathematics.
  Sets and trees as texts: what they are as lists of bytes. Plain facts.
-/
import Derived.WalkKit
import Derived.Test.YtgjpmfdiidkdnaaDoorProg
import Derived.WalkSpells
import Derived.WalkLawsBesides
import Derived.Handy
import Derived.KernelRfl
import Derived.Deep.RegionHeld3
import Derived.Deep.RegionHeldLaw
import Derived.Deep.QuietTactic
import Derived.BigQuiet
import Derived.Lib.Hide
import Derived.OneCell
import Derived.Laws.StructEq
import Derived.Laws.OwnMore
import Derived.Test.YtgjpmfdiidkdnaaDoorRows
namespace Go.Proofs.YtgjpmfdiidkdnaaDoor

/-- The number whose bit j is f (b + j), for j below n. -/
def bitsTo (f : Nat → Bool) (b : Nat) : Nat → Nat
  | 0 => 0
  | n + 1 => bitsTo f b n + if f (b + n) = true then 2 ^ n else 0

theorem bitsTo_lt (f : Nat → Bool) (b n : Nat) : bitsTo f b n < 2 ^ n := by
  induction n with
  | zero => simp [bitsTo]
  | succ n ih =>
    simp only [bitsTo]
    have : 2 ^ (n + 1) = 2 * 2 ^ n := by rw [Nat.pow_succ]; omega
    split <;> omega

theorem bitsTo_testBit (f : Nat → Bool) (b n j : Nat) : (bitsTo f b n).testBit j = (decide (j < n) && f (b + j)) := by
  induction n with
  | zero => simp [bitsTo]
  | succ n ih =>
    simp only [bitsTo]
    by_cases hj : j < n
    · have h1 : decide (j < n + 1) = true := by simp; omega
      rw [h1]
      have h2 : decide (j < n) = true := by simp [hj]
      rw [h2] at ih
      split
      · rw [Nat.add_comm, Nat.testBit_two_pow_add_gt hj, ih]
      · rw [Nat.add_zero, ih]
    · by_cases he : j = n
      · subst he
        have h0 : (bitsTo f b j).testBit j = false := by rw [ih]; simp
        split
        · rename_i hf
          rw [Nat.add_comm, Nat.testBit_two_pow_add_eq, h0, hf]; simp
        · rename_i hf
          rw [Nat.add_zero, h0]
          simp at hf
          rw [hf]; simp
      · have h1 : decide (j < n + 1) = false := by simp; omega
        rw [h1]
        have hl := bitsTo_lt f b n
        have hp : 2 ^ (n + 1) ≤ 2 ^ j := Nat.pow_le_pow_right (by decide) (by omega)
        have hq : 2 ^ (n + 1) = 2 * 2 ^ n := by rw [Nat.pow_succ]; omega
        rw [Nat.testBit_lt_two_pow]
        · simp
        · split <;> omega

/-- Word i of a set. -/
def wd (f : Nat → Bool) (i : Nat) : Nat := bitsTo f (64 * i) 64
theorem wd_lt (f : Nat → Bool) (i : Nat) : wd f i < 18446744073709551616 := bitsTo_lt f (64 * i) 64
theorem wd_testBit (f : Nat → Bool) (i j : Nat) : (wd f i).testBit j = (decide (j < 64) && f (64 * i + j)) := bitsTo_testBit f (64 * i) 64 j

theorem eq_of_bits {x y : Nat} (hx : x < 18446744073709551616) (hy : y < 18446744073709551616) (h : ∀ j, j < 64 → x.testBit j = y.testBit j) : x = y := by
  apply Nat.eq_of_testBit_eq
  intro j
  by_cases hj : j < 64
  · exact h j hj
  · have hp : 2 ^ 64 ≤ 2 ^ j := Nat.pow_le_pow_right (by decide) (by omega)
    rw [Nat.testBit_lt_two_pow (by omega), Nat.testBit_lt_two_pow (by omega)]

/-- A number below 2 to the 64 is the word of its own bits. -/
theorem wd_eq {x : Nat} (hx : x < 18446744073709551616) (f : Nat → Bool) (i : Nat) (h : ∀ j, j < 64 → x.testBit j = f (64 * i + j)) : x = wd f i :=
  eq_of_bits hx (wd_lt f i) fun j hj => by rw [wd_testBit, h j hj]; simp [hj]

theorem wd_congr {f g : Nat → Bool} {i : Nat} (h : ∀ j, j < 64 → f (64 * i + j) = g (64 * i + j)) : wd f i = wd g i :=
  wd_eq (wd_lt f i) g i fun j hj => by rw [wd_testBit, h j hj]; simp [hj]

/-- The function of four words. -/
def ofWords (x0 x1 x2 x3 : Nat) (k : Nat) : Bool :=
  if k < 64 then x0.testBit k else if k < 128 then x1.testBit (k - 64) else if k < 192 then x2.testBit (k - 128) else x3.testBit (k - 192)
theorem ofWords_wd {x0 x1 x2 x3 : Nat} (h0 : x0 < 18446744073709551616) (h1 : x1 < 18446744073709551616) (h2 : x2 < 18446744073709551616) (h3 : x3 < 18446744073709551616) :
    x0 = wd (ofWords x0 x1 x2 x3) 0 ∧ x1 = wd (ofWords x0 x1 x2 x3) 1 ∧ x2 = wd (ofWords x0 x1 x2 x3) 2 ∧ x3 = wd (ofWords x0 x1 x2 x3) 3 := by
  refine ⟨wd_eq h0 _ 0 ?_, wd_eq h1 _ 1 ?_, wd_eq h2 _ 2 ?_, wd_eq h3 _ 3 ?_⟩ <;> intro j hj <;> unfold ofWords
  · rw [if_pos (by omega)]; simp
  · rw [if_neg (by omega), if_pos (by omega), show 64 * 1 + j - 64 = j from by omega]
  · rw [if_neg (by omega), if_neg (by omega), if_pos (by omega), show 64 * 2 + j - 128 = j from by omega]
  · rw [if_neg (by omega), if_neg (by omega), if_neg (by omega), show 64 * 3 + j - 192 = j from by omega]

theorem word_or (f g : Nat → Bool) (i : Nat) : bits .or .u64 (wd f i : Int) (wd g i : Int) = (wd (fun k => f k || g k) i : Nat) := by
  rw [bits_or_u64_nat _ _ (wd_lt f i) (wd_lt g i)]
  congr 1
  refine wd_eq (Nat.or_lt_two_pow (n := 64) (wd_lt f i) (wd_lt g i)) _ i fun j hj => ?_
  rw [Nat.testBit_or, wd_testBit, wd_testBit]; simp [hj]
theorem word_and (f g : Nat → Bool) (i : Nat) : bits .and .u64 (wd f i : Int) (wd g i : Int) = (wd (fun k => f k && g k) i : Nat) := by
  rw [bits_and_u64_nat _ _ (wd_lt f i) (wd_lt g i)]
  congr 1
  refine wd_eq (Nat.and_lt_two_pow (n := 64) _ (wd_lt g i)) _ i fun j hj => ?_
  rw [Nat.testBit_and, wd_testBit, wd_testBit]; simp [hj]
theorem word_less (f g : Nat → Bool) (i : Nat) : bits .andNot .u64 (wd f i : Int) (wd g i : Int) = (wd (fun k => f k && !g k) i : Nat) := by
  have e : bits .andNot .u64 (wd f i : Int) (wd g i : Int) = ((wd f i &&& (18446744073709551615 - wd g i) : Nat) : Int) := by
    have := u64_andNot_nat (wd f i) (wd g i) (wd_lt f i) (wd_lt g i)
    exact this
  rw [e]
  congr 1
  have hn : 18446744073709551615 - wd g i = wd (fun k => !g k) i := by
    refine wd_eq (by omega) _ i fun j hj => ?_
    have h := wd_lt g i
    have := Nat.testBit_two_pow_sub_succ (n := 64) (x := wd g i) h j
    have e2 : 2 ^ 64 - (wd g i + 1) = 18446744073709551615 - wd g i := by omega
    rw [e2] at this
    rw [this, wd_testBit]; simp [hj]
  rw [hn]
  refine wd_eq (Nat.and_lt_two_pow (n := 64) _ (wd_lt _ i)) _ i fun j hj => ?_
  rw [Nat.testBit_and, wd_testBit, wd_testBit]; simp [hj]

/-- The test of a bit. -/
theorem word_has (f : Nat → Bool) (i j : Nat) (hj : j < 64) : (bits .and .u64 ((wd f i : Int) / 2 ^ j) 1 == 1) = f (64 * i + j) := by
  have e0 : ((wd f i : Int) / 2 ^ j) = ((wd f i / 2 ^ j : Nat) : Int) := by simp
  have hl : wd f i / 2 ^ j < 18446744073709551616 := Nat.lt_of_le_of_lt (Nat.div_le_self _ _) (wd_lt f i)
  rw [e0, show (1 : Int) = ((1 : Nat) : Int) from rfl, bits_and_u64_nat _ _ hl (by decide)]
  have hb : (wd f i).testBit j = f (64 * i + j) := by rw [wd_testBit]; simp [hj]
  rw [← hb, Nat.testBit_eq_decide_div_mod_eq, Nat.and_one_is_mod]
  have h2 : wd f i / 2 ^ j % 2 = 0 ∨ wd f i / 2 ^ j % 2 = 1 := by omega
  rcases h2 with h2 | h2 <;> rw [h2] <;> decide

/-- The word with one bit more. -/
theorem word_put (f : Nat → Bool) (i j : Nat) (hj : j < 64) : bits .or .u64 (wd f i : Int) (IntKind.u64.wrap (2 ^ j)) = (wd (fun k => f k || decide (k = 64 * i + j)) i : Nat) := by
  have hlt : 2 ^ j < 2 ^ 64 := Nat.pow_lt_pow_right (by decide) hj
  have e : IntKind.u64.wrap (2 ^ j) = ((2 ^ j : Nat) : Int) := by
    rw [IntKind.wrap_u64]
    have e1 : ((2 : Int) ^ j) = ((2 ^ j : Nat) : Int) := by simp
    rw [e1]
    generalize 2 ^ j = p at *
    omega
  rw [e, bits_or_u64_nat _ _ (wd_lt f i) (by omega)]
  congr 1
  refine wd_eq (Nat.or_lt_two_pow (n := 64) (wd_lt f i) hlt) _ i fun k hk => ?_
  rw [Nat.testBit_or, wd_testBit, Nat.testBit_two_pow]
  simp [hk]
  by_cases h : j = k <;> simp [h]
  omega
theorem word_put_other (f : Nat → Bool) (i c : Nat) (h : c / 64 ≠ i) : wd (fun k => f k || decide (k = c)) i = wd f i :=
  wd_congr fun j hj => by
    have : ¬ (64 * i + j = c) := by omega
    simp [this]

/-- The bytes below n. -/
theorem word_below (n i : Nat) (h0 : 64 * i < n) (h1 : n < 64 * i + 64) : IntKind.u64.wrap (IntKind.u64.wrap (2 ^ (n - 64 * i)) - 1) = (wd (fun k => decide (k < n)) i : Nat) := by
  have hlt : 2 ^ (n - 64 * i) < 2 ^ 64 := Nat.pow_lt_pow_right (by decide) (by omega)
  have hpos : 0 < 2 ^ (n - 64 * i) := Nat.two_pow_pos _
  have e1 : ((2 : Int) ^ (n - 64 * i)) = ((2 ^ (n - 64 * i) : Nat) : Int) := by simp
  rw [IntKind.wrap_u64, IntKind.wrap_u64, e1]
  have e2 : ((((2 ^ (n - 64 * i) : Nat) : Int) % 18446744073709551616 - 1) % 18446744073709551616) = ((2 ^ (n - 64 * i) - 1 : Nat) : Int) := by
    clear e1
    generalize 2 ^ (n - 64 * i) = p at *
    omega
  rw [e2]
  congr 1
  refine wd_eq (by omega) _ i fun j hj => ?_
  rw [Nat.testBit_two_pow_sub_one]
  by_cases h : j < n - 64 * i
  · have : 64 * i + j < n := by omega
    simp [h, this]
  · have : ¬ 64 * i + j < n := by omega
    simp [h, this]
theorem word_none (f : Nat → Bool) (i : Nat) (h : ∀ j, j < 64 → f (64 * i + j) = false) : wd f i = 0 :=
  (wd_eq (by decide) f i fun j hj => by rw [h j hj]; simp).symm
theorem word_all (f : Nat → Bool) (i : Nat) (h : ∀ j, j < 64 → f (64 * i + j) = true) : wd f i = 18446744073709551615 :=
  (wd_eq (by decide) f i fun j hj => by
    rw [h j hj]
    have := Nat.testBit_two_pow_sub_one 64 j
    simp only [Nat.reducePow, Nat.reduceSub] at this
    rw [this]; simp [hj]).symm

/-- A set as a value. -/
def sv (f : Nat → Bool) : Value := .agg #[.int .u64 (wd f 0 : Int), .int .u64 (wd f 1 : Int), .int .u64 (wd f 2 : Int), .int .u64 (wd f 3 : Int)]
theorem sv_congr {f g : Nat → Bool} (h : ∀ k, k < 256 → f k = g k) : sv f = sv g := by
  unfold sv
  rw [wd_congr (i := 0) (f := f) (g := g) fun j hj => h _ (by omega), wd_congr (i := 1) (f := f) (g := g) fun j hj => h _ (by omega), wd_congr (i := 2) (f := f) (g := g) fun j hj => h _ (by omega), wd_congr (i := 3) (f := f) (g := g) fun j hj => h _ (by omega)]

end Go.Proofs.YtgjpmfdiidkdnaaDoor

namespace Go.Proofs.YtgjpmfdiidkdnaaDoor
open Go.RowKit

attribute [go_sem] sv
theorem w2of {B : Nat} {W w1 : World} (hb : Below B W w1) : (∀ b o, b < B → w1.cell? ⟨b, o, none⟩ = W.cell? ⟨b, o, none⟩) ∧ (∀ b o, b < B → w1.frozen? ⟨b, o, none⟩ = W.frozen? ⟨b, o, none⟩) :=
  ⟨fun b o h => hb.cell (p := ⟨b, o, none⟩) h, fun b o h => hb.frozen (p := ⟨b, o, none⟩) h⟩


theorem grownBy_of_below {w w' : World} (h : Below w.heap.size w w') : w.grownBy w' none := ⟨h.os, h.tape, h.output, h.size, fun k hk _ => h.block k hk⟩
theorem owns_below {w w' : World} {base : Nat} {e : TypeId} {size : Nat} {v : Value} {n : Nat} {xs : List Value} (h : w.ownsRow base e size v n xs) (hb : Below w.heap.size w w') : w'.ownsRow base e size v n xs :=
  h.kept (grownBy_of_below hb) (by cases v.ownBlock <;> simp)
theorem owns_mono {w : World} {base base' : Nat} {e : TypeId} {size : Nat} {v : Value} {n : Nat} {xs : List Value} (h : w.ownsRow base e size v n xs) (hb : base' ≤ base) : w.ownsRow base' e size v n xs := by
  obtain ⟨h0, h1⟩ := h
  refine ⟨h0, ?_⟩
  rcases h1 with h1 | ⟨g, cap, cur, h1, h2, h3⟩
  · exact .inl h1
  · exact .inr ⟨g, cap, cur, h1, Nat.le_trans hb h2, h3⟩
theorem below_drewN {B : Nat} {w w' : World} (n : Nat) (h : Below B w w') : Below B w (w'.drewN n) := ⟨h.os, h.tape, h.output, h.size, h.block⟩
theorem toList_data (s : ByteArray) : s.toList = s.data.toList := ByteArray.toList_eq s
/-- A set as a value, written out. -/
@[reducible] def svr (f : Nat → Bool) : Value := .agg #[.int .u64 (wd f 0 : Int), .int .u64 (wd f 1 : Int), .int .u64 (wd f 2 : Int), .int .u64 (wd f 3 : Int)]
end Go.Proofs.YtgjpmfdiidkdnaaDoor

namespace Go.Proofs.YtgjpmfdiidkdnaaDoor
open Go.RowKit

/-- A slice of bytes that reads as a list of numbers. -/
def rd8 (w : World) (v : Value) (l : List Nat) : Prop :=
  (v = .slice none 0 0 ∧ l = []) ∨ ∃ b off cap, v = .slice (some ⟨b, off, none⟩) l.length cap ∧ b < w.heap.size ∧ ∀ j (h : j < l.length), w.cell? ⟨b, off + j, none⟩ = some (.int .u8 (l[j] : Nat))

/-- Is a number in a list? -/
def inl (l : List Nat) (x : Nat) : Bool := decide (x ∈ l)
theorem inl_take (l : List Nat) (k : Nat) (h : k < l.length) (x : Nat) : inl (l.take (k + 1)) x = (inl (l.take k) x || decide (x = l[k])) := by
  unfold inl
  rw [List.take_succ_eq_append_getElem h, Bool.eq_iff_iff]
  simp only [decide_eq_true_eq, List.mem_append, List.mem_singleton, Bool.or_eq_true]

theorem of_word_hit (l : List Nat) (k i : Nat) (h : k < l.length) (hi : l[k] / 64 = i) :
    bits .or .u64 (wd (inl (l.take k)) i : Int) (IntKind.u64.wrap (2 ^ (l[k] % 64))) = (wd (inl (l.take (k + 1))) i : Nat) := by
  rw [word_put _ _ _ (Nat.mod_lt _ (by decide)), show 64 * i + l[k] % 64 = l[k] from by omega]
  congr 2
  funext x
  rw [inl_take l k h x]
theorem of_word_miss (l : List Nat) (k i : Nat) (h : k < l.length) (hi : l[k] / 64 ≠ i) : wd (inl (l.take k)) i = wd (inl (l.take (k + 1))) i := by
  have : inl (l.take (k + 1)) = fun x => inl (l.take k) x || decide (x = l[k]) := funext fun x => inl_take l k h x
  rw [this, word_put_other _ _ _ hi]

/-- The numbers below n that are in a set, rising. -/
def bl (f : Nat → Bool) (n : Nat) : List Nat := (List.range n).filter f
theorem bl_hit (f : Nat → Bool) (n : Nat) (h : f n = true) : bl f (n + 1) = bl f n ++ [n] := by
  unfold bl; rw [List.range_succ, List.filter_append]; simp [h]
theorem bl_miss (f : Nat → Bool) (n : Nat) (h : f n = false) : bl f (n + 1) = bl f n := by
  unfold bl; rw [List.range_succ, List.filter_append]; simp [h]
theorem bl_le (f : Nat → Bool) (n : Nat) : (bl f n).length ≤ n := by
  have := List.length_filter_le f (List.range n)
  rw [List.length_range] at this
  exact this
/-- Values of numbers. -/
def u8s (l : List Nat) : List Value := l.map fun (x : Nat) => .int .u8 (x : Int)

theorem rd8_of_owns {w : World} {base : Nat} {e : TypeId} {v : Value} {l : List Nat} (h : w.ownsRow base e 1 v l.length (u8s l)) : rd8 w v l := by
  have hlt := h.lt
  rcases h.2 with ⟨rfl, h0⟩ | ⟨g, cap, cur, rfl, _, _, _, _, _, _⟩
  · exact .inl ⟨rfl, List.length_eq_zero_iff.1 h0⟩
  · refine .inr ⟨g, 0, cap, rfl, (hlt g rfl).2, fun j hj => ?_⟩
    have := h.cells (g := g) rfl j (.int .u8 (l[j] : Nat)) (by simp [u8s, List.getElem?_map, List.getElem?_eq_getElem hj])
    rw [Nat.zero_add]
    by_cases h0 : j = 0
    · subst h0; simpa [Addr.add] using this
    · simpa [Addr.add, h0] using this
theorem rd8_below {w w' : World} {v : Value} {l : List Nat} (h : rd8 w v l) (hb : Below w.heap.size w w') : rd8 w' v l := by
  rcases h with h | ⟨b, off, cap, rfl, hl, hc⟩
  · exact .inl h
  · refine .inr ⟨b, off, cap, rfl, Nat.lt_of_lt_of_le hl hb.size, fun j hj => ?_⟩
    rw [hb.cell (p := ⟨b, off + j, none⟩) hl]; exact hc j hj
theorem bl_bytes (f : Nat → Bool) (n : Nat) : ∀ x, x ∈ bl f n → x < n := by
  intro x hx
  unfold bl at hx
  rw [List.mem_filter, List.mem_range] at hx
  exact hx.1
end Go.Proofs.YtgjpmfdiidkdnaaDoor

namespace Go.Proofs.YtgjpmfdiidkdnaaDoor

/-- One byte more, behind the runs of those ahead of it. -/
def stepRun (acc : List (Nat × Nat)) (b : Nat) : List (Nat × Nat) :=
  match acc.getLast? with
  | some (lo, hi) => if (hi + 1) % 256 = b then acc.dropLast ++ [(lo, b)] else acc ++ [(b, b)]
  | none => [(b, b)]
/-- The runs of rising bytes. -/
def runsOf (l : List Nat) : List (Nat × Nat) := l.foldl stepRun []
theorem runsOf_take (l : List Nat) (k : Nat) (h : k < l.length) : runsOf (l.take (k + 1)) = stepRun (runsOf (l.take k)) l[k] := by
  unfold runsOf
  rw [List.take_succ_eq_append_getElem h, List.foldl_append]
  rfl
theorem step_nil (b : Nat) : stepRun [] b = [(b, b)] := rfl
theorem step_hit (init : List (Nat × Nat)) (lo hi b : Nat) (h : (hi + 1) % 256 = b) : stepRun (init ++ [(lo, hi)]) b = init ++ [(lo, b)] := by
  unfold stepRun; simp [h]
theorem step_new (init : List (Nat × Nat)) (lo hi b : Nat) (h : (hi + 1) % 256 ≠ b) : stepRun (init ++ [(lo, hi)]) b = init ++ [(lo, hi)] ++ [(b, b)] := by
  unfold stepRun; simp [h]
theorem step_length (acc : List (Nat × Nat)) (b : Nat) : (stepRun acc b).length ≤ acc.length + 1 := by
  rcases List.eq_nil_or_concat acc with rfl | ⟨init, ⟨lo, hi⟩, rfl⟩
  · simp [step_nil]
  · rw [List.concat_eq_append]
    by_cases h : (hi + 1) % 256 = b
    · rw [step_hit init lo hi b h]; simp
    · rw [step_new init lo hi b h]; simp
theorem runsOf_length (l : List Nat) (k : Nat) (hk : k ≤ l.length) : (runsOf (l.take k)).length ≤ k := by
  induction k with
  | zero => simp [runsOf]
  | succ k ih =>
    rw [runsOf_take l k (by omega)]
    have := step_length (runsOf (l.take k)) l[k]
    have := ih (by omega)
    omega
theorem step_bytes (acc : List (Nat × Nat)) (b : Nat) (hb : b < 256) (h : ∀ r, r ∈ acc → r.1 < 256 ∧ r.2 < 256) : ∀ r, r ∈ stepRun acc b → r.1 < 256 ∧ r.2 < 256 := by
  rcases List.eq_nil_or_concat acc with rfl | ⟨init, ⟨lo, hi⟩, rfl⟩
  · intro r hr; rw [step_nil] at hr; simp at hr; subst hr; exact ⟨hb, hb⟩
  · rw [List.concat_eq_append] at *
    have hl := h (lo, hi) (by simp)
    intro r hr
    by_cases he : (hi + 1) % 256 = b
    · rw [step_hit init lo hi b he] at hr
      rcases List.mem_append.1 hr with hr | hr
      · exact h r (by simp [hr])
      · simp at hr; subst hr; exact ⟨hl.1, hb⟩
    · rw [step_new init lo hi b he] at hr
      rcases List.mem_append.1 hr with hr | hr
      · exact h r hr
      · simp at hr; subst hr; exact ⟨hb, hb⟩
theorem runsOf_bytes (l : List Nat) (hl : ∀ x, x ∈ l → x < 256) (k : Nat) (hk : k ≤ l.length) : ∀ r, r ∈ runsOf (l.take k) → r.1 < 256 ∧ r.2 < 256 := by
  induction k with
  | zero => intro r hr; simp [runsOf] at hr
  | succ k ih =>
    rw [runsOf_take l k (by omega)]
    exact step_bytes _ _ (hl _ (List.getElem_mem _)) (ih (by omega))
/-- A run starts here. -/
def st (f : Nat → Bool) (k : Nat) : Bool := f k && (decide (k = 0) || !f (k - 1))
/-- The places below n where a run starts, rising. -/
def starts (f : Nat → Bool) (n : Nat) : List Nat := (List.range n).filter (st f)
theorem starts_hit (f : Nat → Bool) (n : Nat) (h : st f n = true) : starts f (n + 1) = starts f n ++ [n] := by
  unfold starts; rw [List.range_succ, List.filter_append]; simp [h]
theorem starts_miss (f : Nat → Bool) (n : Nat) (h : st f n = false) : starts f (n + 1) = starts f n := by
  unfold starts; rw [List.range_succ, List.filter_append]; simp [h]
theorem starts_mem (f : Nat → Bool) (n x : Nat) (h : x ∈ starts f n) : x < n ∧ st f x = true := by
  unfold starts at h; rw [List.mem_filter, List.mem_range] at h; exact h
/-- How far the run that starts at lo goes, below k. -/
def upTo (f : Nat → Bool) (lo : Nat) : Nat → Nat
  | 0 => lo
  | k + 1 => if k ≤ lo then lo else if upTo f lo k + 1 = k ∧ f k = true then k else upTo f lo k
theorem upTo_props (f : Nat → Bool) (lo : Nat) (k : Nat) (hk : lo < k) :
    lo ≤ upTo f lo k ∧ upTo f lo k < k ∧ (∀ x, lo < x → x ≤ upTo f lo k → f x = true) ∧ (upTo f lo k + 1 < k → f (upTo f lo k + 1) = false) := by
  induction k with
  | zero => omega
  | succ k ih =>
    by_cases h0 : k ≤ lo
    · have hkl : k = lo := by omega
      have e : upTo f lo (k + 1) = lo := by simp [upTo, h0]
      rw [e]
      exact ⟨Nat.le_refl _, by omega, fun x h1 h2 => by omega, fun h => by omega⟩
    · obtain ⟨i1, i2, i3, i4⟩ := ih (by omega)
      by_cases h1 : upTo f lo k + 1 = k ∧ f k = true
      · have e : upTo f lo (k + 1) = k := by simp [upTo, h0, h1]
        rw [e]
        refine ⟨by omega, by omega, fun x a b => ?_, fun h => by omega⟩
        by_cases hx : x = k
        · rw [hx]; exact h1.2
        · exact i3 x a (by omega)
      · have e : upTo f lo (k + 1) = upTo f lo k := by simp only [upTo]; rw [if_neg h0, if_neg h1]
        rw [e]
        refine ⟨i1, by omega, i3, fun h => ?_⟩
        by_cases h2 : upTo f lo k + 1 < k
        · exact i4 h2
        · have h3 : upTo f lo k + 1 = k := by omega
          rw [h3]
          cases hf : f k
          · rfl
          · exact absurd ⟨h3, hf⟩ h1
theorem upTo_same (f : Nat → Bool) (lo k : Nat) (hk : lo < k) (h : upTo f lo k + 1 ≠ k ∨ f k = false) : upTo f lo (k + 1) = upTo f lo k := by
  simp only [upTo]
  rw [if_neg (by omega), if_neg]
  rintro ⟨a, b⟩
  rcases h with h | h
  · exact h a
  · rw [h] at b; cases b
theorem upTo_more (f : Nat → Bool) (lo k : Nat) (hk : lo < k) (h : upTo f lo k + 1 = k) (hf : f k = true) : upTo f lo (k + 1) = k := by
  simp only [upTo]
  rw [if_neg (by omega), if_pos ⟨h, hf⟩]
theorem upTo_own (f : Nat → Bool) (k : Nat) : upTo f k (k + 1) = k := by simp [upTo]
/-- There is but one end. -/
theorem upTo_only (f : Nat → Bool) (lo k h : Nat) (hk : lo < k) (h1 : lo ≤ h) (h2 : h < k) (h3 : ∀ x, lo < x → x ≤ h → f x = true) (h4 : h + 1 < k → f (h + 1) = false) : h = upTo f lo k := by
  obtain ⟨i1, i2, i3, i4⟩ := upTo_props f lo k hk
  rcases Nat.lt_trichotomy h (upTo f lo k) with h5 | h5 | h5
  · have := h4 (by omega)
    rw [i3 (h + 1) (by omega) (by omega)] at this
    cases this
  · exact h5
  · have := i4 (by omega)
    rw [h3 (upTo f lo k + 1) (by omega) (by omega)] at this
    cases this
/-- The runs that start below n, as far as they go below m. -/
def segs (f : Nat → Bool) (n m : Nat) : List (Nat × Nat) := (starts f n).map fun lo => (lo, upTo f lo m)
/-- What the last run is, ahead of k. -/
theorem segs_state (f : Nat → Bool) (k : Nat) :
    (0 < k ∧ f (k - 1) = true ∧ ∃ init lo, starts f k = init ++ [lo] ∧ upTo f lo k + 1 = k ∧ ∀ x, x ∈ init → upTo f x k + 1 < k) ∨
    ((k = 0 ∨ f (k - 1) = false) ∧ ∀ x, x ∈ starts f k → upTo f x k + 1 < k) := by
  induction k with
  | zero => exact .inr ⟨.inl rfl, fun x hx => by simp [starts] at hx⟩
  | succ k ih =>
    have low : ∀ x, x ∈ starts f k → upTo f x k < k := fun x hx => (upTo_props f x k (starts_mem f k x hx).1).2.1
    cases hf : f k
    · refine .inr ⟨.inr (by simpa using hf), fun x hx => ?_⟩
      have hs : st f k = false := by simp [st, hf]
      rw [starts_miss f k hs] at hx
      rw [upTo_same f x k (starts_mem f k x hx).1 (.inr hf)]
      have := low x hx
      omega
    · refine .inl ⟨by omega, by simpa using hf, ?_⟩
      rcases ih with ⟨hk0, hp, init, lo, hst, hlo, hin⟩ | ⟨hp, hin⟩
      · have hs : st f k = false := by
          have : ¬ k = 0 := by omega
          simp [st, hf, hp, this]
        rw [starts_miss f k hs]
        have hmem : ∀ x, x ∈ init → x ∈ starts f k := fun x hx => by rw [hst]; simp [hx]
        have hlm : lo ∈ starts f k := by rw [hst]; simp
        refine ⟨init, lo, hst, by rw [upTo_more f lo k (starts_mem f k lo hlm).1 hlo hf], fun x hx => ?_⟩
        have := hin x hx
        rw [upTo_same f x k (starts_mem f k x (hmem x hx)).1 (.inl (by omega))]
        omega
      · have hs : st f k = true := by
          rcases hp with hp | hp
          · subst hp; simp [st, hf]
          · simp [st, hf, hp]
        rw [starts_hit f k hs]
        refine ⟨starts f k, k, rfl, by rw [upTo_own], fun x hx => ?_⟩
        have := hin x hx
        rw [upTo_same f x k (starts_mem f k x hx).1 (.inl (by omega))]
        omega
theorem runsOf_snoc (l : List Nat) (b : Nat) : runsOf (l ++ [b]) = stepRun (runsOf l) b := by
  unfold runsOf; rw [List.foldl_append]; rfl
/-- The runs of the bytes below k are the runs that start below k, as far as they go below k. -/
theorem runs_segs (f : Nat → Bool) (k : Nat) (hk : k ≤ 256) : runsOf (bl f k) = segs f k k := by
  induction k with
  | zero => rfl
  | succ k ih =>
    have ih := ih (by omega)
    have low : ∀ x, x ∈ starts f k → x < k := fun x hx => (starts_mem f k x hx).1
    have same : ∀ l : List Nat, (∀ x, x ∈ l → upTo f x (k + 1) = upTo f x k) → (l.map fun lo => (lo, upTo f lo (k + 1))) = l.map fun lo => (lo, upTo f lo k) := fun l hl => List.map_congr_left fun x hx => by rw [hl x hx]
    cases hf : f k
    · have hs : st f k = false := by simp [st, hf]
      rw [bl_miss f k hf, ih]
      unfold segs
      rw [starts_miss f k hs, same _ fun x hx => upTo_same f x k (low x hx) (.inr hf)]
    · rw [bl_hit f k hf, runsOf_snoc, ih]
      unfold segs
      rcases segs_state f k with ⟨hk0, hp, init, lo, hst, hlo, hin⟩ | ⟨hp, hin⟩
      · have hs : st f k = false := by
          have : ¬ k = 0 := by omega
          simp [st, hf, hp, this]
        rw [starts_miss f k hs, hst, List.map_append, List.map_append]
        have hmem : ∀ x, x ∈ init → x ∈ starts f k := fun x hx => by rw [hst]; simp [hx]
        have hlm : lo ∈ starts f k := by rw [hst]; simp
        rw [same init fun x hx => upTo_same f x k (low x (hmem x hx)) (.inl (by have := hin x hx; omega))]
        simp only [List.map_cons, List.map_nil]
        rw [step_hit _ lo (upTo f lo k) k (by omega), upTo_more f lo k (low lo hlm) hlo hf]
      · have hs : st f k = true := by
          rcases hp with hp | hp
          · subst hp; simp [st, hf]
          · simp [st, hf, hp]
        rw [starts_hit f k hs, List.map_append, same _ fun x hx => upTo_same f x k (low x hx) (.inl (by have := hin x hx; omega))]
        simp only [List.map_cons, List.map_nil]
        rw [upTo_own]
        rcases List.eq_nil_or_concat (starts f k) with h0 | ⟨init, lo, h0⟩
        · rw [h0]; rfl
        · rw [List.concat_eq_append] at h0
          have hlm : lo ∈ starts f k := by rw [h0]; simp
          have := hin lo hlm
          rw [h0, List.map_append]
          simp only [List.map_cons, List.map_nil]
          rw [step_new _ lo (upTo f lo k) k (by omega)]
/-- What is in any of some runs. -/
def inU (l : List (Nat × Nat)) (x : Nat) : Bool := l.any fun r => decide (r.1 ≤ x) && decide (x ≤ r.2)
theorem inU_take (l : List (Nat × Nat)) (k : Nat) (h : k < l.length) : (fun x => inU (l.take k) x || (decide (l[k].1 ≤ x) && decide (x ≤ l[k].2))) = inU (l.take (k + 1)) := by
  funext x
  unfold inU
  rw [List.take_succ_eq_append_getElem h, List.any_append]
  simp
theorem inU_none (l : List (Nat × Nat)) : inU (l.take 0) = fun _ => false := rfl
theorem inU_nil : inU [] = fun _ => false := rfl
theorem starts_nodup (f : Nat → Bool) (n : Nat) : (starts f n).Nodup := List.Nodup.sublist List.filter_sublist List.nodup_range
/-- A start of a union of runs is where one of them begins. -/
theorem start_in (l : List (Nat × Nat)) (x : Nat) (h : st (inU l) x = true) : x ∈ l.map (·.1) := by
  unfold st at h
  simp only [Bool.and_eq_true, Bool.or_eq_true, decide_eq_true_eq, Bool.not_eq_true'] at h
  obtain ⟨h1, h2⟩ := h
  unfold inU at h1
  rw [List.any_eq_true] at h1
  obtain ⟨r, hr, hx⟩ := h1
  simp only [Bool.and_eq_true, decide_eq_true_eq] at hx
  refine List.mem_map.2 ⟨r, hr, ?_⟩
  rcases Nat.lt_or_ge r.1 x with h3 | h3
  · exfalso
    rcases h2 with h2 | h2
    · omega
    · unfold inU at h2
      rw [List.any_eq_false] at h2
      have := h2 r hr
      simp only [Bool.and_eq_true, decide_eq_true_eq] at this
      omega
  · omega
theorem nodup_subset_length {a b : List Nat} (hn : a.Nodup) (hs : ∀ x, x ∈ a → x ∈ b) : a.length ≤ b.length := by
  induction a generalizing b with
  | nil => simp
  | cons x a ih =>
    have hx : x ∈ b := hs x (by simp)
    have hn' := List.nodup_cons.1 hn
    have : a.length ≤ (b.erase x).length := ih hn'.2 fun y hy => by
      have hne : y ≠ x := fun e => hn'.1 (e ▸ hy)
      exact (List.mem_erase_of_ne hne).2 (hs y (by simp [hy]))
    rw [List.length_erase_of_mem hx] at this
    have hpos : 0 < b.length := List.length_pos_of_mem hx
    simp only [List.length_cons]
    omega
theorem segs_few (l : List (Nat × Nat)) (n m : Nat) : (segs (inU l) n m).length ≤ l.length := by
  have := nodup_subset_length (starts_nodup (inU l) n) fun x hx => start_in l x (starts_mem _ _ _ hx).2
  unfold segs
  rw [List.length_map]
  rw [List.length_map] at this
  exact this
/-- Each run is whole, and lies within the bytes. -/
theorem segs_whole (f : Nat → Bool) (r : Nat × Nat) (h : r ∈ segs f 256 256) : r.1 ≤ r.2 ∧ r.2 < 256 ∧ r.1 < 256 := by
  unfold segs at h
  obtain ⟨lo, hlo, rfl⟩ := List.mem_map.1 h
  have hs := starts_mem f 256 lo hlo
  have := upTo_props f lo 256 hs.1
  exact ⟨this.1, this.2.1, hs.1⟩
/-- The starts rise. -/
theorem starts_rise (f : Nat → Bool) (n : Nat) : (starts f n).Pairwise (· < ·) := List.Pairwise.sublist List.filter_sublist List.pairwise_lt_range
/-- Between two runs there is a gap. -/
theorem segs_gap (f : Nat → Bool) (i : Nat) (h0 : 0 < i) (h : i < (segs f 256 256).length) : (segs f 256 256)[i - 1].2 + 2 ≤ (segs f 256 256)[i].1 := by
  have hl : (segs f 256 256).length = (starts f 256).length := by simp [segs]
  have e1 : (segs f 256 256)[i].1 = (starts f 256)[i]'(by omega) := by simp [segs]
  have e2 : (segs f 256 256)[i - 1].2 = upTo f ((starts f 256)[i - 1]'(by omega)) 256 := by simp [segs]
  rw [e1, e2]
  have hr := List.pairwise_iff_getElem.1 (starts_rise f 256) (i - 1) i (by omega) (by omega) (by omega)
  have m1 := starts_mem f 256 _ (List.getElem_mem (show i - 1 < (starts f 256).length by omega))
  have m2 := starts_mem f 256 _ (List.getElem_mem (show i < (starts f 256).length by omega))
  generalize (starts f 256)[i - 1]'(by omega) = a at *
  generalize (starts f 256)[i]'(by omega) = b at *
  obtain ⟨p1, p2, p3, p4⟩ := upTo_props f a 256 m1.1
  have hb := m2.2
  unfold st at hb
  simp only [Bool.and_eq_true, Bool.or_eq_true, decide_eq_true_eq, Bool.not_eq_true'] at hb
  rcases hb.2 with h3 | h3
  · omega
  · rcases Nat.lt_or_ge (upTo f a 256) (b - 1) with h4 | h4
    · omega
    · exfalso
      rcases Nat.lt_or_ge a (b - 1) with h5 | h5
      · rw [p3 (b - 1) h5 h4] at h3; cases h3
      · have hab : a = b - 1 := by omega
        have ha := m1.2
        unfold st at ha
        simp only [Bool.and_eq_true] at ha
        rw [← hab, ha.1] at h3
        cases h3
/-- Each byte of a set lies in the run that starts at some place at or ahead of it. -/
theorem byte_start (f : Nat → Bool) (x : Nat) (h : f x = true) : ∃ a, a ≤ x ∧ st f a = true ∧ ∀ y, a < y → y ≤ x → f y = true := by
  induction x with
  | zero => exact ⟨0, Nat.le_refl _, by simp [st, h], fun y h1 h2 => by omega⟩
  | succ x ih =>
    cases hx : f x
    · exact ⟨x + 1, Nat.le_refl _, by simp [st, h, hx], fun y h1 h2 => by omega⟩
    · obtain ⟨a, h1, h2, h3⟩ := ih hx
      refine ⟨a, by omega, h2, fun y h4 h5 => ?_⟩
      by_cases hy : y = x + 1
      · rw [hy]; exact h
      · exact h3 y h4 (by omega)
theorem segs_union (f : Nat → Bool) (x : Nat) (hx : x < 256) : inU (segs f 256 256) x = f x := by
  rw [Bool.eq_iff_iff]
  unfold inU
  rw [List.any_eq_true]
  constructor
  · rintro ⟨r, hr, h⟩
    simp only [Bool.and_eq_true, decide_eq_true_eq] at h
    unfold segs at hr
    obtain ⟨lo, hlo, rfl⟩ := List.mem_map.1 hr
    have hs := starts_mem f 256 lo hlo
    have hp := upTo_props f lo 256 hs.1
    by_cases he : x = lo
    · have := hs.2
      unfold st at this
      simp only [Bool.and_eq_true] at this
      rw [he]; exact this.1
    · exact hp.2.2.1 x (by have := h.1; show lo < x; omega) h.2
  · intro h
    obtain ⟨a, h1, h2, h3⟩ := byte_start f x h
    have ha : a ∈ starts f 256 := by
      unfold starts
      rw [List.mem_filter, List.mem_range]
      exact ⟨by omega, h2⟩
    refine ⟨(a, upTo f a 256), List.mem_map.2 ⟨a, ha, rfl⟩, ?_⟩
    simp only [Bool.and_eq_true, decide_eq_true_eq]
    refine ⟨h1, ?_⟩
    obtain ⟨p1, p2, p3, p4⟩ := upTo_props f a 256 (by omega)
    rcases Nat.lt_or_ge (upTo f a 256) x with h4 | h4
    · exfalso
      have := p4 (by omega)
      rw [h3 _ (by omega) (by omega)] at this
      cases this
    · exact h4
end Go.Proofs.YtgjpmfdiidkdnaaDoor

namespace Go.Proofs.YtgjpmfdiidkdnaaDoor

/-- A node: its kind, the words of its set, Lo and Hi. -/
structure Nd where
  k : Int
  a : Int
  b : Int
  c : Int
  d : Int
  lo : Int
  hi : Int

/-- How many arguments a kind has. -/
def ar (k : Int) : Int := if k = 1 ∨ k = 2 ∨ k = 3 ∨ k = 4 then 0 else if k = 7 then 1 else if k = 5 ∨ k = 6 then 2 else -1
theorem ar_cases (k : Int) : (ar k = 0 ∧ (k = 1 ∨ k = 2 ∨ k = 3 ∨ k = 4)) ∨ (ar k = 1 ∧ k = 7) ∨ (ar k = 2 ∧ (k = 5 ∨ k = 6)) ∨ (ar k = -1 ∧ k ≠ 1 ∧ k ≠ 2 ∧ k ≠ 3 ∧ k ≠ 4 ∧ k ≠ 5 ∧ k ≠ 6 ∧ k ≠ 7) := by
  unfold ar; split
  · exact .inl ⟨rfl, by omega⟩
  · split
    · exact .inr (.inl ⟨rfl, by omega⟩)
    · split
      · exact .inr (.inr (.inl ⟨rfl, by omega⟩))
      · exact .inr (.inr (.inr ⟨rfl, by omega⟩))
theorem ar_bd (k : Int) : -1 ≤ ar k ∧ ar k ≤ 2 := by rcases ar_cases k with h | h | h | h <;> omega

/-- Where m parts begin, the last of which ends right ahead of p; -1: nowhere. -/
def back (N : Nat → Nd) : Nat → Nat → Int
  | 0, m => if m = 0 then 0 else -1
  | p + 1, m => if m = 0 then (p + 1 : Nat) else if ar (N p).k < 0 then -1 else back N p (m - 1 + (ar (N p).k).toNat)
theorem back_zero (N : Nat → Nd) (p : Nat) : back N p 0 = p := by cases p <;> simp [back]
theorem back_none (N : Nat → Nd) (m : Nat) : back N 0 (m + 1) = -1 := by simp [back]
theorem back_succ (N : Nat → Nd) (p m : Nat) : back N (p + 1) (m + 1) = if ar (N p).k < 0 then -1 else back N p (m + (ar (N p).k).toNat) := by simp [back]
theorem back_bd (N : Nat → Nd) : ∀ p m, -1 ≤ back N p m ∧ (0 ≤ back N p m → back N p m + m ≤ p) := by
  intro p
  induction p with
  | zero => intro m; cases m with
    | zero => rw [back_zero]; omega
    | succ m => rw [back_none]; omega
  | succ p ih => intro m; cases m with
    | zero => rw [back_zero]; omega
    | succ m =>
      rw [back_succ]; split
      · omega
      · have := ih (m + (ar (N p).k).toNat); omega
theorem back_add (N : Nat → Nd) : ∀ p m n, back N p (m + n) = if back N p m < 0 then -1 else back N (back N p m).toNat n := by
  intro p
  induction p with
  | zero => intro m n; cases m with
    | zero => rw [back_zero]; simp
    | succ m => rw [show m + 1 + n = m + n + 1 by omega, back_none, back_none]; simp
  | succ p ih => intro m n; cases m with
    | zero => rw [back_zero]; simp [show ¬ ((p : Int) + 1 < 0) by omega]
    | succ m =>
      rw [show m + 1 + n = m + n + 1 by omega, back_succ, back_succ]
      split
      · simp
      · rw [show m + n + (ar (N p).k).toNat = m + (ar (N p).k).toNat + n by omega, ih]

/-- Where the part begins whose last node is i. -/
def fst (N : Nat → Nd) (i : Nat) : Int := back N (i + 1) 1
theorem fst_eq (N : Nat → Nd) (i : Nat) : fst N i = if ar (N i).k < 0 then -1 else back N i (ar (N i).k).toNat := by
  unfold fst; rw [back_succ, Nat.zero_add]
theorem fst_bd (N : Nat → Nd) (i : Nat) : -1 ≤ fst N i ∧ fst N i ≤ i := by
  have := back_bd N (i + 1) 1
  unfold fst; omega
theorem back_step (N : Nat → Nd) (p m : Nat) : back N (p + 1) (m + 1) = if fst N p < 0 then -1 else back N (fst N p).toNat m := by
  rw [show m + 1 = 1 + m by omega, back_add]; rfl
theorem back_congr {N M : Nat → Nd} : ∀ (p m : Nat), (∀ j, j < p → N j = M j) → back N p m = back M p m := by
  intro p
  induction p with
  | zero => intro m _; simp [back]
  | succ p ih => intro m h; cases m with
    | zero => rw [back_zero, back_zero]
    | succ m => rw [back_succ, back_succ, h p (by omega), ih _ fun j hj => h j (by omega)]
theorem back_shift (N : Nat → Nd) (f : Nat) : ∀ p m, back (fun j => N (f + j)) p m = if back N (f + p) m < f then -1 else back N (f + p) m - f := by
  intro p
  induction p with
  | zero => intro m; cases m with
    | zero => rw [back_zero, back_zero]; simp
    | succ m =>
      rw [back_none]
      have := back_bd N (f + 0) (m + 1)
      rw [if_pos (by omega)]
  | succ p ih => intro m; cases m with
    | zero => rw [back_zero, back_zero, if_neg (by omega)]; omega
    | succ m =>
      rw [back_succ, show f + (p + 1) = f + p + 1 by omega, back_succ]
      split
      · rw [if_pos (by omega)]
      · rw [ih]
/-- What lies in a part goes back no further than it. -/
theorem back_nest (N : Nat → Nd) (f : Nat) : ∀ p m, back N p m = f → ∀ q, f < q → q ≤ p → ∃ m', back N q (m' + 1) = f := by
  intro p
  induction p with
  | zero => intro m h q h1 h2; omega
  | succ p ih =>
    intro m h q h1 h2
    cases m with
    | zero => rw [back_zero] at h; omega
    | succ m =>
      by_cases hq : q = p + 1
      · subst hq; exact ⟨m, h⟩
      · rw [back_succ] at h
        split at h
        · omega
        · exact ih _ h q h1 (by omega)
theorem fst_nest {N : Nat → Nd} {i f : Nat} (h : fst N i = f) {j : Nat} (h1 : f ≤ j) (h2 : j ≤ i) : (f : Int) ≤ fst N j := by
  obtain ⟨m, hm⟩ := back_nest N f (i + 1) 1 h (j + 1) (by omega) (by omega)
  rw [back_step] at hm
  split at hm
  · omega
  · have := back_bd N (fst N j).toNat m; omega

/-- Are a node's Set, Lo and Hi such as its kind lets be? -/
def okN (x : Nd) : Bool := (x.k == 1 || (x.a == 0 && x.b == 0 && x.c == 0 && x.d == 0)) && (if x.k = 7 then decide (0 ≤ x.lo) && decide (x.lo ≤ 32) && (x.hi == -1 || (decide (x.lo ≤ x.hi) && decide (x.hi ≤ 32))) else x.lo == 0 && x.hi == 0)

/-- How many parts are nobody's argument ahead of node k. -/
def dep (N : Nat → Nd) : Nat → Int
  | 0 => 0
  | k + 1 => dep N k + 1 - ar (N k).k
def good (N : Nat → Nd) (i : Nat) : Prop := 0 ≤ ar (N i).k ∧ ar (N i).k ≤ dep N i ∧ okN (N i) = true
instance (N : Nat → Nd) (i : Nat) : Decidable (good N i) := by unfold good; infer_instance
def tree (N : Nat → Nd) (n : Nat) : Prop := n ≤ 512 ∧ (∀ i, i < n → good N i) ∧ dep N n = 1
instance (N : Nat → Nd) (n : Nat) : Decidable (tree N n) := by unfold tree; infer_instance

theorem dep_bd {N : Nat → Nd} : ∀ {p}, (∀ i, i < p → good N i) → 0 ≤ dep N p ∧ (0 < p → 1 ≤ dep N p) ∧ dep N p ≤ p := by
  intro p
  induction p with
  | zero => intro _; simp [dep]
  | succ p ih =>
    intro h
    have h1 := ih fun i hi => h i (by omega)
    have h2 := h p (by omega)
    unfold good at h2
    simp only [dep]
    omega
theorem back_dep {N : Nat → Nd} : ∀ {p}, (∀ i, i < p → good N i) → ∀ m : Nat, ((m : Int) ≤ dep N p → 0 ≤ back N p m ∧ dep N (back N p m).toNat = dep N p - m) ∧ (dep N p < m → back N p m = -1) := by
  intro p
  induction p with
  | zero => intro _ m; cases m with
    | zero => rw [back_zero]; simp [dep]
    | succ m => rw [back_none]; refine ⟨fun h => ?_, fun _ => rfl⟩; simp only [dep] at h; omega
  | succ p ih => intro h m; cases m with
    | zero => have := dep_bd h; rw [back_zero]; simp; omega
    | succ m =>
      have h2 := h p (by omega)
      unfold good at h2
      have h3 := ih (fun i hi => h i (by omega)) (m + (ar (N p).k).toNat)
      rw [back_succ, if_neg (by omega)]
      simp only [dep]
      constructor
      · intro h4
        have := h3.1 (by omega)
        exact ⟨this.1, by rw [this.2]; omega⟩
      · intro h4
        exact h3.2 (by omega)
/-- Behind nodes that are good a node is good just if its part begins somewhere, and its fields fit. -/
theorem good_iff {N : Nat → Nd} {i : Nat} (h : ∀ j, j < i → good N j) : good N i ↔ 0 ≤ fst N i ∧ okN (N i) = true := by
  have hb := back_dep h (ar (N i).k).toNat
  rw [fst_eq]
  unfold good
  constructor
  · rintro ⟨h0, h1, h2⟩
    rw [if_neg (by omega)]
    exact ⟨(hb.1 (by omega)).1, h2⟩
  · rintro ⟨h0, h2⟩
    split at h0
    · omega
    · refine ⟨by omega, ?_, h2⟩
      by_cases hle : ar (N i).k ≤ dep N i
      · exact hle
      · rw [hb.2 (by omega)] at h0; omega
theorem goods_iff {N : Nat → Nd} : ∀ {n}, (∀ i, i < n → good N i) ↔ ∀ i, i < n → 0 ≤ fst N i ∧ okN (N i) = true := by
  intro n
  induction n with
  | zero => simp
  | succ n ih =>
    constructor
    · intro h i hi
      exact (good_iff fun j hj => h j (by omega)).1 (h i hi)
    · intro h i hi
      have hn := ih.2 fun i hi => h i (by omega)
      by_cases he : i = n
      · subst he; exact (good_iff hn).2 (h i hi)
      · exact hn i (by omega)
/-- A tree, by where its parts begin. -/
theorem tree_iff {N : Nat → Nd} {n : Nat} : tree N n ↔ 0 < n ∧ n ≤ 512 ∧ (∀ i, i < n → 0 ≤ fst N i ∧ okN (N i) = true) ∧ fst N (n - 1) = 0 := by
  unfold tree
  constructor
  · rintro ⟨h1, h2, h3⟩
    have hn : 0 < n := by
      rcases Nat.eq_zero_or_pos n with rfl | h
      · simp [dep] at h3
      · exact h
    refine ⟨hn, h1, goods_iff.1 h2, ?_⟩
    obtain ⟨m, rfl⟩ : ∃ m, n = m + 1 := ⟨n - 1, by omega⟩
    obtain ⟨a, b⟩ := (back_dep h2 1).1 (by omega)
    show back N (m + 1) 1 = 0
    have hr := back_bd N (m + 1) 1
    have := dep_bd (N := N) (p := (back N (m + 1) 1).toNat) fun i hi => h2 i (by omega)
    omega
  · rintro ⟨h0, h1, h2, h3⟩
    have hg := goods_iff.2 h2
    refine ⟨h1, hg, ?_⟩
    obtain ⟨m, rfl⟩ : ∃ m, n = m + 1 := ⟨n - 1, by omega⟩
    have h3 : back N (m + 1) 1 = 0 := h3
    have hb := back_dep hg 1
    by_cases hd : dep N (m + 1) < 1
    · rw [hb.2 (by omega)] at h3; omega
    · have := (hb.1 (by omega)).2
      rw [h3] at this
      simp [dep] at this ⊢
      omega

/-- The greatest of some numbers, 0 at least. -/
def mx : List Int → Int
  | [] => 0
  | x :: l => max x (mx l)
/-- How deep the parts are that are nobody's argument ahead of node k, the last one first. -/
def stk (N : Nat → Nd) : Nat → List Int
  | 0 => []
  | k + 1 => (mx ((stk N k).take (ar (N k).k).toNat) + 1) :: (stk N k).drop (ar (N k).k).toNat
/-- How deep the part is whose last node is i. -/
def dpt (N : Nat → Nd) (i : Nat) : Int := mx ((stk N i).take (ar (N i).k).toNat) + 1
theorem stk_succ (N : Nat → Nd) (k : Nat) : stk N (k + 1) = dpt N k :: (stk N k).drop (ar (N k).k).toNat := rfl
theorem stk_len {N : Nat → Nd} : ∀ {k}, (∀ i, i < k → good N i) → ((stk N k).length : Int) = dep N k := by
  intro k
  induction k with
  | zero => intro _; simp [stk, dep]
  | succ k ih =>
    intro h
    have h1 := ih fun i hi => h i (by omega)
    have h2 := h k (by omega)
    unfold good at h2
    simp [stk, dep]
    omega
theorem stk_back {N : Nat → Nd} : ∀ {p}, (∀ i, i < p → good N i) → ∀ m : Nat, (m : Int) ≤ dep N p → (stk N p).drop m = stk N (back N p m).toNat := by
  intro p
  induction p with
  | zero => intro _ m hm; simp [dep] at hm; subst hm; simp [back_zero, stk]
  | succ p ih => intro h m hm; cases m with
    | zero => rw [back_zero]; simp
    | succ m =>
      have h2 := h p (by omega)
      unfold good at h2
      rw [back_succ, if_neg (by omega), stk_succ, List.drop_succ_cons, List.drop_drop, ← ih (fun i hi => h i (by omega)), Nat.add_comm m]
      simp only [dep] at hm
      omega
theorem mx_nonneg (l : List Int) : 0 ≤ mx l := by cases l <;> simp [mx]; rename_i x l; have := mx_nonneg l; omega
theorem mx_append (l r : List Int) : mx (l ++ r) = max (mx l) (mx r) := by
  induction l with
  | nil => have := mx_nonneg r; simp [mx]; omega
  | cons x l ih => simp only [List.cons_append, mx, ih]; omega
theorem dpt_pos (N : Nat → Nd) (i : Nat) : 1 ≤ dpt N i := by
  have := mx_nonneg ((stk N i).take (ar (N i).k).toNat)
  unfold dpt; omega
/-- How deep a part is, by its arguments. -/
theorem dpt_zero {N : Nat → Nd} {i : Nat} (h : ar (N i).k = 0) : dpt N i = 1 := by unfold dpt; rw [h]; simp [mx]
theorem stk_one {N : Nat → Nd} {p : Nat} (hp : 0 < p) : ∃ r, stk N p = dpt N (p - 1) :: r := by
  obtain ⟨q, rfl⟩ : ∃ q, p = q + 1 := ⟨p - 1, by omega⟩
  exact ⟨_, stk_succ N q⟩
theorem dpt_one {N : Nat → Nd} {i : Nat} (hi : 0 < i) (h : ar (N i).k = 1) : dpt N i = max 0 (dpt N (i - 1)) + 1 := by
  obtain ⟨r, hr⟩ := stk_one (N := N) hi
  unfold dpt at *
  rw [h, hr]
  simp [mx]
  omega
theorem dpt_two {N : Nat → Nd} {i f : Nat} (hg : ∀ j, j < i → good N j) (hi : 0 < i) (h : ar (N i).k = 2) (hf : fst N (i - 1) = f) (hf0 : 0 < f) : dpt N i = max (max 0 (dpt N (f - 1))) (dpt N (i - 1)) + 1 := by
  obtain ⟨p, rfl⟩ : ∃ p, i = p + 1 := ⟨i - 1, by omega⟩
  have hd : 1 ≤ dep N (p + 1) := (dep_bd hg).2.1 (by omega)
  have hb : (stk N (p + 1)).drop 1 = stk N f := by
    rw [stk_back hg 1 (by omega), show back N (p + 1) 1 = f from hf]; simp
  obtain ⟨r, hr⟩ := stk_one (N := N) hf0
  obtain ⟨r', hr'⟩ := stk_one (N := N) (p := p + 1) (by omega)
  rw [hr'] at hb
  simp only [List.drop_succ_cons, List.drop_zero] at hb
  rw [show dpt N (p + 1) = mx ((stk N (p + 1)).take (ar (N (p + 1)).k).toNat) + 1 from rfl, h, hr', hb, hr]
  show mx [dpt N (p + 1 - 1), dpt N (f - 1)] + 1 = _
  have := dpt_pos N (f - 1)
  have := dpt_pos N (p + 1 - 1)
  simp only [mx]
  omega

/-- A part of a tree, alone: a tree; as deep as in the tree; the tree is no less deep. -/
theorem tree_part {N : Nat → Nd} {n i f : Nat} (ht : tree N n) (hi : i < n) (hf : fst N i = f) : tree (fun j => N (f + j)) (i + 1 - f) := by
  obtain ⟨h0, h1, h2, h3⟩ := tree_iff.1 ht
  have hb := fst_bd N i
  refine tree_iff.2 ⟨by omega, by omega, fun j hj => ⟨?_, (h2 (f + j) (by omega)).2⟩, ?_⟩
  · have := fst_nest hf (j := f + j) (by omega) (by omega)
    unfold fst at this ⊢
    rw [back_shift, show f + (j + 1) = f + j + 1 by omega, if_neg (by omega)]; omega
  · have hf' : back N (i + 1) 1 = f := hf
    unfold fst
    rw [back_shift, show f + (i + 1 - f - 1 + 1) = i + 1 by omega, hf', if_neg (by omega)]; omega
theorem stk_part {N : Nat → Nd} (f : Nat) : ∀ {m}, (∀ j, j < m → good (fun j => N (f + j)) j) → stk N (f + m) = stk (fun j => N (f + j)) m ++ stk N f := by
  intro m
  induction m with
  | zero => intro _; simp [stk]
  | succ m ih =>
    intro h
    have hg := h m (by omega)
    have hl := stk_len (N := fun j => N (f + j)) (k := m) fun j hj => h j (by omega)
    have hg1 : 0 ≤ ar (N (f + m)).k := hg.1
    have hg2 : ar (N (f + m)).k ≤ dep (fun j => N (f + j)) m := hg.2.1
    rw [show f + (m + 1) = f + m + 1 by omega]
    simp only [stk]
    rw [ih fun j hj => h j (by omega), List.take_append_of_le_length (by omega), List.drop_append_of_le_length (by omega)]
    simp
theorem dpt_part {N : Nat → Nd} {n i f : Nat} (ht : tree N n) (hi : i < n) (hf : fst N i = f) : dpt (fun j => N (f + j)) (i + 1 - f - 1) = dpt N i := by
  have hp := tree_part ht hi hf
  have hb := fst_bd N i
  have hs := stk_part (N := N) f (m := i + 1 - f) hp.2.1
  rw [show f + (i + 1 - f) = i + 1 by omega] at hs
  obtain ⟨r, hr⟩ := stk_one (N := fun j => N (f + j)) (p := i + 1 - f) (by omega)
  rw [hr, stk_succ] at hs
  simp only [List.cons_append] at hs
  exact (List.cons.inj hs).1.symm
theorem mx_stk (N : Nat → Nd) (k : Nat) : ∀ m, mx (stk N k) ≤ mx (stk N (k + m)) := by
  intro m
  induction m with
  | zero => exact Int.le_refl _
  | succ m ih =>
    refine Int.le_trans ih ?_
    rw [show k + (m + 1) = k + m + 1 by omega]
    have := mx_append ((stk N (k + m)).take (ar (N (k + m)).k).toNat) ((stk N (k + m)).drop (ar (N (k + m)).k).toNat)
    rw [List.take_append_drop] at this
    simp only [stk, mx]
    omega
theorem stk_root {N : Nat → Nd} {n : Nat} (ht : tree N n) : stk N n = [dpt N (n - 1)] := by
  have hl := stk_len ht.2.1
  rw [ht.2.2] at hl
  obtain ⟨h0, _⟩ := tree_iff.1 ht
  obtain ⟨r, hr⟩ := stk_one (N := N) h0
  rw [hr] at hl ⊢
  obtain rfl : r = [] := by
    cases r with
    | nil => rfl
    | cons x r => simp at hl; omega
  rfl
theorem dpt_le {N : Nat → Nd} {n i : Nat} (ht : tree N n) (hi : i < n) : dpt N i ≤ dpt N (n - 1) := by
  have h1 := mx_stk N (i + 1) (n - (i + 1))
  rw [show i + 1 + (n - (i + 1)) = n by omega, stk_root ht, stk_succ] at h1
  have := dpt_pos N (n - 1)
  simp only [mx] at h1
  omega
/-- The last nodes of a node's arguments, in order. -/
def kids (N : Nat → Nd) (i : Nat) : List Int :=
  if ar (N i).k = 1 then [(i : Int) - 1] else if ar (N i).k = 2 then [fst N (i - 1) - 1, (i : Int) - 1] else []
theorem dpt_congr {N M : Nat → Nd} {n : Nat} (h : ∀ j, j < n → N j = M j) : ∀ {k}, k ≤ n → stk N k = stk M k := by
  intro k
  induction k with
  | zero => intro _; rfl
  | succ k ih => intro hk; simp only [stk]; rw [ih (by omega), h k (by omega)]
end Go.Proofs.YtgjpmfdiidkdnaaDoor

namespace Go.Proofs.YtgjpmfdiidkdnaaDoor

def plainB (b : Nat) : Bool := (decide (48 ≤ b) && decide (b ≤ 57)) || (decide (65 ≤ b) && decide (b ≤ 90)) || (decide (97 ≤ b) && decide (b ≤ 122))
def hxd (d : Nat) : Nat := if d < 10 then 48 + d else 87 + d
/-- An end of a run. -/
def endL (b : Nat) : List Nat := if plainB b = true then [b] else [92, 120, hxd (b / 16), hxd (b % 16)]
/-- A run of a set, as a bracket has it. -/
def runL (r : Nat × Nat) : List Nat := endL r.1 ++ if r.2 = r.1 + 1 then endL r.2 else if r.1 + 1 < r.2 then 45 :: endL r.2 else []
theorem end_len (b : Nat) : 1 ≤ (endL b).length ∧ (endL b).length ≤ 4 := by unfold endL; split <;> simp
/-- A set as a pattern has it. -/
def setL (f : Nat → Bool) : List Nat :=
  if (bl f 256).length = 255 ∧ f 10 = false then [46]
  else if (bl f 256).length = 1 then (if 33 ≤ (bl f 256).headD 0 ∧ (bl f 256).headD 0 ≤ 126 ∧ plainB ((bl f 256).headD 0) = false then [92, (bl f 256).headD 0] else endL ((bl f 256).headD 0))
  else 91 :: ((segs f 256 256).flatMap runL ++ [93])
def bs (s : List Nat) : ByteArray := ⟨(s.map UInt8.ofNat).toArray⟩
theorem bs_size (s : List Nat) : (bs s).size = s.length := by unfold bs; simp [ByteArray.size]
def numL (n : Nat) : List Nat := if n < 10 then [48 + n] else [48 + n / 10, 48 + n % 10]
def oftL (lo hi : Int) : List Nat :=
  if hi = -1 ∧ lo = 0 then [42] else if hi = -1 ∧ lo = 1 then [43] else if lo = 0 ∧ hi = 1 then [63]
  else 123 :: (numL lo.toNat ++ (if hi = -1 then [44, 125] else if hi = lo then [125] else 44 :: (numL hi.toNat ++ [125])))
def fOf (x : Nd) : Nat → Bool := ofWords x.a.toNat x.b.toNat x.c.toNat x.d.toNat
/-- A node's words are such as words may be. -/
def okW (x : Nd) : Prop := (0 ≤ x.a ∧ x.a < 18446744073709551616) ∧ (0 ≤ x.b ∧ x.b < 18446744073709551616) ∧ (0 ≤ x.c ∧ x.c < 18446744073709551616) ∧ (0 ≤ x.d ∧ x.d < 18446744073709551616)
theorem fOf_wd {x : Nd} (h : okW x) : x.a = (wd (fOf x) 0 : Int) ∧ x.b = (wd (fOf x) 1 : Int) ∧ x.c = (wd (fOf x) 2 : Int) ∧ x.d = (wd (fOf x) 3 : Int) := by
  obtain ⟨⟨a1, a2⟩, ⟨b1, b2⟩, ⟨c1, c2⟩, ⟨d1, d2⟩⟩ := h
  obtain ⟨e1, e2, e3, e4⟩ := ofWords_wd (x0 := x.a.toNat) (x1 := x.b.toNat) (x2 := x.c.toNat) (x3 := x.d.toNat) (by omega) (by omega) (by omega) (by omega)
  unfold fOf
  omega
def par (b : Bool) (l : List Nat) : List Nat := if b = true then 40 :: (l ++ [41]) else l
theorem bs_append (a b : List Nat) : bs (a ++ b) = bs a ++ bs b := by
  unfold bs
  apply ByteArray.ext
  simp [ByteArray.data_append]
theorem bs_nil : bs [] = ByteArray.empty := rfl
/-- A text, with a group about it, if that is to be. -/
def parB (b : Bool) (s : ByteArray) : ByteArray := if b = true then ⟨#[40]⟩ ++ s ++ ⟨#[41]⟩ else s
theorem parB_bs (b : Bool) (l : List Nat) : parB b (bs l) = bs (par b l) := by
  unfold parB par
  cases b
  · rfl
  · rw [if_pos rfl, if_pos rfl, show 40 :: (l ++ [41]) = [40] ++ l ++ [41] from rfl, bs_append, bs_append]; rfl
theorem parB_len (b : Bool) (s : ByteArray) : (parB b s).size ≤ s.size + 2 := by
  unfold parB
  split
  · rw [ByteArray.size_append, ByteArray.size_append]; show 1 + s.size + 1 ≤ _; omega
  · omega
end Go.Proofs.YtgjpmfdiidkdnaaDoor
