/-
  How many bits of a word are set: the way of math/bits.OnesCount64, in plain numbers.
  The walk of bits.OnesCount64.
  The walk of byteset's Count.
  Sets held against the one that Dot tells; runes as bytes. Plain facts, and what a conversion of runes tells.
  The walk of byteset's Runs: the runs of a set, as a slice of the call's own (stage 1's, over the plain facts of Segp).
  The walk of show's Set.
-/
import Derived.Test.YtjbmkbgoahppfaaDoorPk1
import Derived.Test.YtjbmkbgoahppfaaDoorPk13
import Derived.Test.YtjbmkbgoahppfaaDoorPk12
import Derived.Laws.Cover4
import Derived.Test.YtjbmkbgoahppfaaDoorPk3
import Derived.Test.YtjbmkbgoahppfaaDoorPk6
namespace Go.Proofs.YtjbmkbgoahppfaaDoor

/-- How many of f b .. f (b + n - 1) are true. -/
def popTo (f : Nat → Bool) (b : Nat) : Nat → Nat
  | 0 => 0
  | n + 1 => popTo f b n + if f (b + n) = true then 1 else 0
theorem popTo_add (f : Nat → Bool) (b m n : Nat) : popTo f b (m + n) = popTo f b m + popTo f (b + m) n := by
  induction n with
  | zero => simp [popTo]
  | succ n ih =>
    rw [← Nat.add_assoc]
    simp only [popTo]
    rw [ih, Nat.add_assoc b m n]
    omega
theorem popTo_congr {f g : Nat → Bool} {b c : Nat} (n : Nat) (h : ∀ j, j < n → f (b + j) = g (c + j)) : popTo f b n = popTo g c n := by
  induction n with
  | zero => rfl
  | succ n ih => simp only [popTo]; rw [ih (fun j hj => h j (by omega)), h n (by omega)]
theorem popTo_le (f : Nat → Bool) (b n : Nat) : popTo f b n ≤ n := by
  induction n with
  | zero => simp [popTo]
  | succ n ih => simp only [popTo]; split <;> omega
theorem popTo_or_and (f g : Nat → Bool) (b n : Nat) : popTo f b n + popTo g b n = popTo (fun k => f k || g k) b n + popTo (fun k => f k && g k) b n := by
  induction n with
  | zero => rfl
  | succ n ih =>
    simp only [popTo]
    rcases Bool.eq_false_or_eq_true (f (b + n)) with hf | hf <;> rcases Bool.eq_false_or_eq_true (g (b + n)) with hg | hg <;> simp [hf, hg] <;> omega

/-- k bytes, each c. -/
def rep (c : Nat) : Nat → Nat
  | 0 => 0
  | k + 1 => 256 * rep c k + c
/-- g of each of the k lowest bytes. -/
def bmap (g : Nat → Nat) : Nat → Nat → Nat
  | 0, _ => 0
  | k + 1, x => 256 * bmap g k (x / 256) + g (x % 256)

theorem and_split (a b r s : Nat) (hr : r < 256) (hs : s < 256) : (256 * a + r) &&& (256 * b + s) = 256 * (a &&& b) + (r &&& s) := by
  have hrs : r &&& s < 2 ^ 8 := Nat.and_lt_two_pow _ hs
  apply Nat.eq_of_testBit_eq
  intro j
  rw [show (256 : Nat) = 2 ^ 8 from rfl, Nat.testBit_and, Nat.testBit_two_pow_mul_add a hr, Nat.testBit_two_pow_mul_add b hs, Nat.testBit_two_pow_mul_add _ hrs]
  split <;> simp [Nat.testBit_and]

def h1 (x : Nat) : Nat := (x / 2 &&& 85) + (x &&& 85)
def h2 (x : Nat) : Nat := (x / 4 &&& 51) + (x &&& 51)
def h3 (x : Nat) : Nat := (x / 16 + x) &&& 15

theorem h1_shift : ∀ r, r < 256 → ∀ t, t < 2 → (128 * t + r / 2) &&& 85 = r / 2 &&& 85 := by decide +kernel
theorem h2_shift : ∀ r, r < 256 → ∀ t, t < 4 → (64 * t + r / 4) &&& 51 = r / 4 &&& 51 := by decide +kernel
theorem h1_lt : ∀ r, r < 256 → h1 r < 256 := by decide +kernel
theorem h21_le : ∀ r, r < 256 → h2 (h1 r) ≤ 68 ∧ h2 (h1 r) % 16 ≤ 4 := by decide +kernel
theorem h321 : ∀ r, r < 256 → h3 (h2 (h1 r)) = popTo (fun j => r.testBit j) 0 8 := by decide +kernel

theorem step1 (k : Nat) : ∀ x, (x / 2 &&& rep 85 k) + (x &&& rep 85 k) = bmap h1 k x := by
  induction k with
  | zero => intro x; simp [rep, bmap]
  | succ k ih =>
    intro x
    have hx : x = 256 * (x / 256) + x % 256 := by omega
    have hx2 : x / 2 = 256 * (x / 256 / 2) + (128 * (x / 256 % 2) + x % 256 / 2) := by omega
    have e1 : x / 2 &&& rep 85 (k + 1) = 256 * (x / 256 / 2 &&& rep 85 k) + (x % 256 / 2 &&& 85) := by
      rw [hx2]; simp only [rep]; rw [and_split _ _ _ _ (by omega) (by omega), h1_shift _ (by omega) _ (by omega)]
    have e2 : x &&& rep 85 (k + 1) = 256 * (x / 256 &&& rep 85 k) + (x % 256 &&& 85) := by
      conv => lhs; rw [hx]
      simp only [rep]; rw [and_split _ _ _ _ (by omega) (by omega)]
    rw [e1, e2]
    simp only [bmap]
    rw [← ih (x / 256)]
    unfold h1
    omega
theorem step2 (k : Nat) : ∀ x, (x / 4 &&& rep 51 k) + (x &&& rep 51 k) = bmap h2 k x := by
  induction k with
  | zero => intro x; simp [rep, bmap]
  | succ k ih =>
    intro x
    have hx : x = 256 * (x / 256) + x % 256 := by omega
    have hx2 : x / 4 = 256 * (x / 256 / 4) + (64 * (x / 256 % 4) + x % 256 / 4) := by omega
    have e1 : x / 4 &&& rep 51 (k + 1) = 256 * (x / 256 / 4 &&& rep 51 k) + (x % 256 / 4 &&& 51) := by
      rw [hx2]; simp only [rep]; rw [and_split _ _ _ _ (by omega) (by omega), h2_shift _ (by omega) _ (by omega)]
    have e2 : x &&& rep 51 (k + 1) = 256 * (x / 256 &&& rep 51 k) + (x % 256 &&& 51) := by
      conv => lhs; rw [hx]
      simp only [rep]; rw [and_split _ _ _ _ (by omega) (by omega)]
    rw [e1, e2]
    simp only [bmap]
    rw [← ih (x / 256)]
    unfold h2
    omega
theorem bmap_bmap (g h : Nat → Nat) (hh : ∀ r, r < 256 → h r < 256) (k : Nat) : ∀ x, bmap g k (bmap h k x) = bmap (fun r => g (h r)) k x := by
  induction k with
  | zero => intro x; rfl
  | succ k ih =>
    intro x
    have hl := hh (x % 256) (by omega)
    simp only [bmap]
    rw [show (256 * bmap h k (x / 256) + h (x % 256)) / 256 = bmap h k (x / 256) from by omega, show (256 * bmap h k (x / 256) + h (x % 256)) % 256 = h (x % 256) from by omega, ih]
theorem bmap_low (h : Nat → Nat) (hm : ∀ r, r < 256 → h r % 16 ≤ 4) (k : Nat) (x : Nat) : bmap h k x % 16 ≤ 4 := by
  cases k with
  | zero => simp [bmap]
  | succ k => simp only [bmap]; have := hm (x % 256) (by omega); omega
theorem step3 (h : Nat → Nat) (hm : ∀ r, r < 256 → h r ≤ 68 ∧ h r % 16 ≤ 4) (k : Nat) : ∀ x, (bmap h k x / 16 + bmap h k x) &&& rep 15 k = bmap (fun r => h3 (h r)) k x := by
  induction k with
  | zero => intro x; simp [rep, bmap]
  | succ k ih =>
    intro x
    have hb := hm (x % 256) (by omega)
    have hlow := bmap_low h (fun r hr => (hm r hr).2) k (x / 256)
    simp only [bmap, rep]
    rw [← ih (x / 256)]
    generalize bmap h k (x / 256) = a at *
    generalize h (x % 256) = r at *
    have e : (256 * a + r) / 16 + (256 * a + r) = 256 * (a / 16 + a) + (16 * (a % 16) + r / 16 + r) := by omega
    rw [e, and_split _ _ _ _ (by omega) (by omega)]
    unfold h3
    rw [show (15 : Nat) = 2 ^ 4 - 1 from rfl, Nat.and_two_pow_sub_one_eq_mod, Nat.and_two_pow_sub_one_eq_mod]
    omega

/-- The whole way, of eight bytes. -/
theorem swar (x : Nat) :
    let a := (x / 2 &&& 6148914691236517205) + (x &&& 6148914691236517205)
    let b := (a / 4 &&& 3689348814741910323) + (a &&& 3689348814741910323)
    let c := (b / 16 + b) &&& 1085102592571150095
    a < 18446744073709551616 ∧ b < 18446744073709551616 ∧ b / 16 + b < 18446744073709551616 ∧ c = bmap (fun r => h3 (h2 (h1 r))) 8 x := by
  have e1 : (x / 2 &&& 6148914691236517205) + (x &&& 6148914691236517205) = bmap h1 8 x := step1 8 x
  have hz : ∀ {u d A B : Nat}, u ≤ A → d ≤ B → 256 * u + d ≤ 256 * A + B := by intro u d A B _ _; omega
  have lt8 : ∀ (g : Nat → Nat) (B : Nat), (∀ r, r < 256 → g r ≤ B) → bmap g 8 x ≤ 256 * (256 * (256 * (256 * (256 * (256 * (256 * (256 * 0 + B) + B) + B) + B) + B) + B) + B) + B := by
    intro g B hg
    simp only [bmap]
    have hm : ∀ y, g (y % 256) ≤ B := fun y => hg _ (Nat.mod_lt _ (by decide))
    exact hz (hz (hz (hz (hz (hz (hz (hz (Nat.le_refl 0) (hm _)) (hm _)) (hm _)) (hm _)) (hm _)) (hm _)) (hm _)) (hm _)
  have l1 := lt8 h1 255 (fun r hr => by have := h1_lt r hr; omega)
  have e2 : (bmap h1 8 x / 4 &&& 3689348814741910323) + (bmap h1 8 x &&& 3689348814741910323) = bmap (fun r => h2 (h1 r)) 8 x := by
    rw [← bmap_bmap h2 h1 h1_lt]; exact step2 8 _
  have l2 := lt8 (fun r => h2 (h1 r)) 68 (fun r hr => (h21_le r hr).1)
  have e3 := step3 (fun r => h2 (h1 r)) h21_le 8 x
  simp only []
  rw [e1, e2]
  refine ⟨by omega, by omega, by omega, e3⟩

theorem popTo_byte (x k : Nat) : popTo (fun j => (x / 2 ^ (8 * k) % 256).testBit j) 0 8 = popTo (fun j => x.testBit j) (8 * k) 8 :=
  popTo_congr 8 fun j hj => by
    rw [show (256 : Nat) = 2 ^ 8 from rfl, Nat.testBit_mod_two_pow, Nat.testBit_div_two_pow]
    simp [hj, Nat.add_comm]

theorem div_of {c K r m : Nat} (h : c = m * K + r) (hr : r < m) : c / m = K := by
  subst h
  rw [Nat.mul_add_div (by omega), Nat.div_eq_of_lt hr, Nat.add_zero]
theorem horner_le {u d B : Nat} (h : u ≤ B) (g : d ≤ 8) : 256 * u + d ≤ 256 * B + 8 := by omega
theorem c_bounds (c : Nat) (h : c ≤ 578721382704613384) :
    c + c / 256 < 1152921504606846976 ∧ (c + c / 256) + (c + c / 256) / 65536 < 1152921504606846976 ∧
      (c + c / 256) + (c + c / 256) / 65536 + ((c + c / 256) + (c + c / 256) / 65536) / 4294967296 < 1152921504606846976 := by
  generalize hq : c / 256 = q
  have : q ≤ c / 256 := by omega
  have hq' : q ≤ 2260630401189896 := by omega
  generalize hs : (c + q) / 65536 = s
  have hs' : s ≤ 9000000000000 := by omega
  generalize ht : (c + q + s) / 4294967296 = t
  have ht' : t ≤ 135400000 := by omega
  refine ⟨by omega, by omega, by omega⟩
theorem fold8 (d0 d1 d2 d3 d4 d5 d6 d7 c : Nat) (hsum : d0 + d1 + d2 + d3 + d4 + d5 + d6 + d7 < 128) (l1 : d0 < 256) (l2 : 256 * (d1 + d2) + (d0 + d1) < 65536)
    (l3 : 16777216 * (d3 + d4 + d5 + d6) + 65536 * (d2 + d3 + d4 + d5) + 256 * (d1 + d2 + d3 + d4) + (d0 + d1 + d2 + d3) < 4294967296)
    (hc : c = 256 * (256 * (256 * (256 * (256 * (256 * (256 * d7 + d6) + d5) + d4) + d3) + d2) + d1) + d0) :
      ((c + c / 256) + (c + c / 256) / 65536 + ((c + c / 256) + (c + c / 256) / 65536) / 4294967296) % 128 = d0 + d1 + d2 + d3 + d4 + d5 + d6 + d7 := by
  have a1 : c / 256 = 256 * (256 * (256 * (256 * (256 * (256 * d7 + d6) + d5) + d4) + d3) + d2) + d1 := div_of (r := d0) hc l1
  rw [a1]
  have b1 : c + (256 * (256 * (256 * (256 * (256 * (256 * d7 + d6) + d5) + d4) + d3) + d2) + d1) = 65536 * (256 * (256 * (256 * (256 * (256 * d7 + (d6 + d7)) + (d5 + d6)) + (d4 + d5)) + (d3 + d4)) + (d2 + d3)) + (256 * (d1 + d2) + (d0 + d1)) := by
    clear hsum l1 l2 l3 a1
    rw [hc]; omega
  have a2 := div_of b1 l2
  rw [a2, b1]
  have b2 : 65536 * (256 * (256 * (256 * (256 * (256 * d7 + (d6 + d7)) + (d5 + d6)) + (d4 + d5)) + (d3 + d4)) + (d2 + d3)) + (256 * (d1 + d2) + (d0 + d1)) + (256 * (256 * (256 * (256 * (256 * d7 + (d6 + d7)) + (d5 + d6)) + (d4 + d5)) + (d3 + d4)) + (d2 + d3)) =
      4294967296 * (256 * (256 * (256 * d7 + (d6 + d7)) + (d5 + d6 + d7)) + (d4 + d5 + d6 + d7)) + (16777216 * (d3 + d4 + d5 + d6) + 65536 * (d2 + d3 + d4 + d5) + 256 * (d1 + d2 + d3 + d4) + (d0 + d1 + d2 + d3)) := by
    clear hsum l1 l2 l3 a1 b1 a2 hc
    omega
  have a3 := div_of b2 l3
  rw [a3, b2]
  have b3 : 4294967296 * (256 * (256 * (256 * d7 + (d6 + d7)) + (d5 + d6 + d7)) + (d4 + d5 + d6 + d7)) + (16777216 * (d3 + d4 + d5 + d6) + 65536 * (d2 + d3 + d4 + d5) + 256 * (d1 + d2 + d3 + d4) + (d0 + d1 + d2 + d3)) + (256 * (256 * (256 * d7 + (d6 + d7)) + (d5 + d6 + d7)) + (d4 + d5 + d6 + d7)) =
      128 * (33554432 * (256 * (256 * (256 * d7 + (d6 + d7)) + (d5 + d6 + d7)) + (d4 + d5 + d6 + d7)) + (131072 * (d3 + d4 + d5 + d6) + 512 * (d2 + d3 + d4 + d5) + 2 * (d1 + d2 + d3 + d4)) + 2 * (256 * (256 * d7 + (d6 + d7)) + (d5 + d6 + d7))) + (d0 + d1 + d2 + d3 + d4 + d5 + d6 + d7) := by
    clear hsum l1 l2 l3 a1 b1 a2 hc a3 b2
    omega
  rw [b3, Nat.mul_add_mod, Nat.mod_eq_of_lt hsum]

/-- .. and its end: all the bits. -/
theorem swar_end (x c : Nat) (hc : c = bmap (fun r => h3 (h2 (h1 r))) 8 x) :
    c + c / 256 < 1152921504606846976 ∧ (c + c / 256) + (c + c / 256) / 65536 < 1152921504606846976 ∧
      (c + c / 256) + (c + c / 256) / 65536 + ((c + c / 256) + (c + c / 256) / 65536) / 4294967296 < 1152921504606846976 ∧
      ((c + c / 256) + (c + c / 256) / 65536 + ((c + c / 256) + (c + c / 256) / 65536) / 4294967296) % 128 = popTo (fun j => x.testBit j) 0 64 := by
  have p : ∀ r, r < 256 → h3 (h2 (h1 r)) ≤ 8 := fun r hr => by rw [h321 r hr]; exact popTo_le _ _ _
  have q : ∀ k, h3 (h2 (h1 (x / 2 ^ (8 * k) % 256))) = popTo (fun j => x.testBit j) (8 * k) 8 := fun k => by rw [h321 _ (by omega), popTo_byte]
  have hc' := hc
  simp only [bmap, Nat.div_div_eq_div_mul] at hc'
  have q0 := q 0; have q1 := q 1; have q2 := q 2; have q3 := q 3; have q4 := q 4; have q5 := q 5; have q6 := q 6; have q7 := q 7
  simp only [Nat.reduceMul, Nat.reducePow, Nat.div_one] at q0 q1 q2 q3 q4 q5 q6 q7
  simp only [Nat.reduceMul, Nat.mul_zero, Nat.zero_add] at hc'
  rw [q0, q1, q2, q3, q4, q5, q6, q7] at hc'
  have g0 := popTo_le (fun j => x.testBit j) 0 8; have g1 := popTo_le (fun j => x.testBit j) 8 8; have g2 := popTo_le (fun j => x.testBit j) 16 8; have g3 := popTo_le (fun j => x.testBit j) 24 8
  have g4 := popTo_le (fun j => x.testBit j) 32 8; have g5 := popTo_le (fun j => x.testBit j) 40 8; have g6 := popTo_le (fun j => x.testBit j) 48 8; have g7 := popTo_le (fun j => x.testBit j) 56 8
  have hall : popTo (fun j => x.testBit j) 0 64 = popTo (fun j => x.testBit j) 0 8 + popTo (fun j => x.testBit j) 8 8 + popTo (fun j => x.testBit j) 16 8 + popTo (fun j => x.testBit j) 24 8 + popTo (fun j => x.testBit j) 32 8 + popTo (fun j => x.testBit j) 40 8 + popTo (fun j => x.testBit j) 48 8 + popTo (fun j => x.testBit j) 56 8 := by
    have s1 := popTo_add (fun j => x.testBit j) 0 8 56
    have s2 := popTo_add (fun j => x.testBit j) 8 8 48
    have s3 := popTo_add (fun j => x.testBit j) 16 8 40
    have s4 := popTo_add (fun j => x.testBit j) 24 8 32
    have s5 := popTo_add (fun j => x.testBit j) 32 8 24
    have s6 := popTo_add (fun j => x.testBit j) 40 8 16
    have s7 := popTo_add (fun j => x.testBit j) 48 8 8
    simp only [Nat.reduceAdd] at s1 s2 s3 s4 s5 s6 s7
    rw [s1, s2, s3, s4, s5, s6, s7]
    simp only [Nat.add_assoc]
  rw [hall]
  clear hall q q0 q1 q2 q3 q4 q5 q6 q7 p hc
  generalize popTo (fun j => x.testBit j) 0 8 = d0 at *
  generalize popTo (fun j => x.testBit j) 8 8 = d1 at *
  generalize popTo (fun j => x.testBit j) 16 8 = d2 at *
  generalize popTo (fun j => x.testBit j) 24 8 = d3 at *
  generalize popTo (fun j => x.testBit j) 32 8 = d4 at *
  generalize popTo (fun j => x.testBit j) 40 8 = d5 at *
  generalize popTo (fun j => x.testBit j) 48 8 = d6 at *
  generalize popTo (fun j => x.testBit j) 56 8 = d7 at *
  have hc2 : c = 256 * (256 * (256 * (256 * (256 * (256 * (256 * d7 + d6) + d5) + d4) + d3) + d2) + d1) + d0 := hc'
  have hB : c ≤ 578721382704613384 := by
    rw [hc2]
    exact horner_le (horner_le (horner_le (horner_le (horner_le (horner_le (horner_le (B := 8) g7 g6) g5) g4) g3) g2) g1) g0
  have b := c_bounds c hB
  refine ⟨b.1, b.2.1, b.2.2, fold8 d0 d1 d2 d3 d4 d5 d6 d7 c ?_ ?_ ?_ ?_ hc2⟩
  · clear hc' hc2 hB b; omega
  · clear hc' hc2 hB b; omega
  · clear hc' hc2 hB b; omega
  · clear hc' hc2 hB b; omega

theorem popTo_wd (f : Nat → Bool) (i : Nat) : popTo (fun j => (wd f i).testBit j) 0 64 = popTo f (64 * i) 64 :=
  popTo_congr 64 fun j hj => by rw [Nat.zero_add, wd_testBit]; simp [hj]

end Go.Proofs.YtjbmkbgoahppfaaDoor

namespace Go.Proofs.YtjbmkbgoahppfaaDoor
open Go.RowKit

/-- The numbers on the way of OnesCount64. -/
theorem ones_steps (x : Nat) (hx : x < 18446744073709551616) : ∃ a b c d e g : Nat,
    IntKind.u64.wrap (bits .and .u64 ((x : Int) / 2) 6148914691236517205 + bits .and .u64 (x : Int) 6148914691236517205) = (a : Int) ∧
    IntKind.u64.wrap (bits .and .u64 ((a : Int) / 4) 3689348814741910323 + bits .and .u64 (a : Int) 3689348814741910323) = (b : Int) ∧
    bits .and .u64 (IntKind.u64.wrap ((b : Int) / 16 + (b : Int))) 1085102592571150095 = (c : Int) ∧
    IntKind.u64.wrap ((c : Int) + (c : Int) / 256) = (d : Int) ∧ IntKind.u64.wrap ((d : Int) + (d : Int) / 65536) = (e : Int) ∧
    IntKind.u64.wrap ((e : Int) + (e : Int) / 4294967296) = (g : Int) ∧ g < 1152921504606846976 ∧ g % 128 = popTo (fun j => x.testBit j) 0 64 := by
  have s := swar x
  simp only [] at s
  obtain ⟨s1, s2, s3, s4⟩ := s
  have en := swar_end x _ s4
  have andn : ∀ (y m : Nat), y < 18446744073709551616 → m < 18446744073709551616 → bits .and .u64 (y : Int) (m : Int) = ((y &&& m : Nat) : Int) := fun y m => bits_and_u64_nat y m
  have wr : ∀ y : Nat, y < 18446744073709551616 → IntKind.u64.wrap (y : Int) = (y : Int) := fun y hy => by rw [IntKind.wrap_u64]; omega
  have dv : ∀ (y m : Nat), ((y : Int) / (m : Int)) = ((y / m : Nat) : Int) := fun y m => by simp
  generalize ha : (x / 2 &&& 6148914691236517205) + (x &&& 6148914691236517205) = a at *
  generalize hb : (a / 4 &&& 3689348814741910323) + (a &&& 3689348814741910323) = b at *
  generalize hc : (b / 16 + b) &&& 1085102592571150095 = c at *
  obtain ⟨e1, e2, e3, e4⟩ := en
  refine ⟨a, b, c, c + c / 256, c + c / 256 + (c + c / 256) / 65536, c + c / 256 + (c + c / 256) / 65536 + (c + c / 256 + (c + c / 256) / 65536) / 4294967296, ?_, ?_, ?_, ?_, ?_, ?_, e3, e4⟩
  · rw [show ((x : Int) / 2) = ((x / 2 : Nat) : Int) from dv x 2, show (6148914691236517205 : Int) = ((6148914691236517205 : Nat) : Int) from rfl, andn _ _ (by omega) (by omega), andn _ _ hx (by omega), ← Int.natCast_add, ha, wr _ s1]
  · rw [show ((a : Int) / 4) = ((a / 4 : Nat) : Int) from dv a 4, show (3689348814741910323 : Int) = ((3689348814741910323 : Nat) : Int) from rfl, andn _ _ (by omega) (by omega), andn _ _ s1 (by omega), ← Int.natCast_add, hb, wr _ s2]
  · rw [show ((b : Int) / 16) = ((b / 16 : Nat) : Int) from dv b 16, show (1085102592571150095 : Int) = ((1085102592571150095 : Nat) : Int) from rfl, ← Int.natCast_add, wr _ s3, andn _ _ s3 (by omega), hc]
  · rw [show ((c : Int) / 256) = ((c / 256 : Nat) : Int) from dv c 256, ← Int.natCast_add, wr _ (by omega)]
  · generalize c + c / 256 = d at *
    rw [show ((d : Int) / 65536) = ((d / 65536 : Nat) : Int) from dv d 65536, ← Int.natCast_add, wr _ (by omega)]
  · generalize c + c / 256 + (c + c / 256) / 65536 = d at *
    rw [show ((d : Int) / 4294967296) = ((d / 4294967296 : Nat) : Int) from dv d 4294967296, ← Int.natCast_add, wr _ (by omega)]

set_option maxHeartbeats 1000000 in
theorem ones_any (x : Nat) (hx : x < 18446744073709551616) (w : World) :
    Calls Tryd.prog 61 #[.int .u64 (x : Int)] w fun e w' => e = .returned (.int .i64 (popTo (fun j => x.testBit j) 0 64 : Nat)) ∧ w' = w := by
  obtain ⟨a, b, c, d, e, g, h1, h2, h3, h4, h5, h6, h7, h8⟩ := ones_steps x hx
  have h9 : bits .and .i64 (g : Int) 127 = ((g % 128 : Nat) : Int) := by
    have := bits_mask .i64 62 (by decide) (fun n h0 h1 => by rw [IntKind.wrap_i64]; omega) 7 (by decide) (g : Int) (by omega) (by omega)
    simpa using this
  rw [h8] at h9
  have hg : (g : Int) < 1152921504606846976 := by omega
  clear h7 h8
  go_enter Tryd.func61, Tryd.ntmps61
  go_wp2
  go_ret
  exact ⟨rfl, rfl⟩
end Go.Proofs.YtjbmkbgoahppfaaDoor

namespace Go.Proofs.YtjbmkbgoahppfaaDoor
open Go.RowKit

set_option maxHeartbeats 1000000 in
theorem count_any (f : Nat → Bool) (w : World) :
    Calls Tryd.prog 51 #[sv f] w fun e w' => e = .returned (.int .i64 (popTo f 0 256 : Nat)) ∧ Below w.heap.size w w' := by
  have i0 : ∀ w : World, (Instr.index 38 (.agg #[.int .u64 (wd f 0 : Int), .int .u64 (wd f 1 : Int), .int .u64 (wd f 2 : Int), .int .u64 (wd f 3 : Int)]) (.int .i64 0)).run Tryd.prog w = .ok (.int .u64 (wd f 0 : Int)) w := fun _ => by kernel_rfl
  have i1 : ∀ w : World, (Instr.index 38 (.agg #[.int .u64 (wd f 0 : Int), .int .u64 (wd f 1 : Int), .int .u64 (wd f 2 : Int), .int .u64 (wd f 3 : Int)]) (.int .i64 1)).run Tryd.prog w = .ok (.int .u64 (wd f 1 : Int)) w := fun _ => by kernel_rfl
  have i2 : ∀ w : World, (Instr.index 38 (.agg #[.int .u64 (wd f 0 : Int), .int .u64 (wd f 1 : Int), .int .u64 (wd f 2 : Int), .int .u64 (wd f 3 : Int)]) (.int .i64 2)).run Tryd.prog w = .ok (.int .u64 (wd f 2 : Int)) w := fun _ => by kernel_rfl
  have i3 : ∀ w : World, (Instr.index 38 (.agg #[.int .u64 (wd f 0 : Int), .int .u64 (wd f 1 : Int), .int .u64 (wd f 2 : Int), .int .u64 (wd f 3 : Int)]) (.int .i64 3)).run Tryd.prog w = .ok (.int .u64 (wd f 3 : Int)) w := fun _ => by kernel_rfl
  have l0 := popTo_le f 0 64; have l1 := popTo_le f 64 64; have l2 := popTo_le f 128 64; have l3 := popTo_le f 192 64
  have hall : Hid (popTo f 0 256 = popTo f 0 64 + popTo f 64 64 + popTo f 128 64 + popTo f 192 64) := by
    have s1 := popTo_add f 0 64 192
    have s2 := popTo_add f 64 64 128
    have s3 := popTo_add f 128 64 64
    simp only [Nat.reduceAdd] at s1 s2 s3
    show popTo f 0 256 = _
    omega
  have c : ∀ i (w : World), Calls Tryd.prog 61 #[.int .u64 (wd f i : Int)] w fun e w' => e = .returned (.int .i64 (popTo f (64 * i) 64 : Nat)) ∧ w' = w := fun i w => by
    have := ones_any (wd f i) (wd_lt f i) w
    rw [popTo_wd] at this
    exact this
  have C := Lib.hid c
  clear c
  unfold sv
  go_enter Tryd.func51, Tryd.ntmps51
  go_wp2
  refine wp_loop_rounds 5 ?_
  rw [rounds_succ]; go_wp2_with (go_at_call 61; refine (C.out 0 _).mono ?_; rintro e w' ⟨rfl, rfl⟩)
  rw [rounds_succ]; go_wp2_with (go_at_call 61; refine (C.out 1 _).mono ?_; rintro e w' ⟨rfl, rfl⟩)
  rw [rounds_succ]; go_wp2_with (go_at_call 61; refine (C.out 2 _).mono ?_; rintro e w' ⟨rfl, rfl⟩)
  rw [rounds_succ]; go_wp2_with (go_at_call 61; refine (C.out 3 _).mono ?_; rintro e w' ⟨rfl, rfl⟩)
  rw [rounds_succ]; go_wp2
  go_ret
  exact ⟨by rw [hall.out]; simp, by go_grown⟩

theorem count_lit (f : Nat → Bool) (w : World) : Calls Tryd.prog 51 #[svr f] w fun e w' => e = .returned (.int .i64 (popTo f 0 256 : Nat)) ∧ Below w.heap.size w w' := count_any f w
end Go.Proofs.YtjbmkbgoahppfaaDoor

namespace Go.Proofs.YtjbmkbgoahppfaaDoor
open Go.RowKit

theorem pop_bl (f : Nat → Bool) (n : Nat) : (bl f n).length = popTo f 0 n := by
  induction n with
  | zero => rfl
  | succ n ih =>
    cases hf : f n
    · rw [bl_miss f n hf, ih]; simp [popTo, hf]
    · rw [bl_hit f n hf, List.length_append, ih]; simp [popTo, hf]
theorem bl_same (f g : Nat → Bool) : ∀ n, (∀ k, k < n → f k = g k) → bl f n = bl g n := by
  intro n
  induction n with
  | zero => intro _; rfl
  | succ n ih =>
    intro h
    have h1 := ih fun k hk => h k (by omega)
    have h2 := h n (by omega)
    cases hf : f n
    · rw [bl_miss f n hf, bl_miss g n (by rw [← h2, hf]), h1]
    · rw [bl_hit f n hf, bl_hit g n (by rw [← h2, hf]), h1]
def eqW (f : Nat → Bool) : Bool := (wd f 0 : Int) == (wd dotF 0 : Int) && (wd f 1 : Int) == (wd dotF 1 : Int) && (wd f 2 : Int) == (wd dotF 2 : Int) && (wd f 3 : Int) == (wd dotF 3 : Int)
theorem dot_len : (bl dotF 256).length = 255 := by decide +kernel
theorem wd_same {f g : Nat → Bool} {i : Nat} (h : (wd f i : Int) = (wd g i : Int)) (j : Nat) (hj : j < 64) : f (64 * i + j) = g (64 * i + j) := by
  have h1 : wd f i = wd g i := by omega
  have h2 := wd_testBit f i j
  rw [h1, wd_testBit g i j, decide_eq_true hj] at h2
  simpa using h2.symm
theorem eqW_iff (f : Nat → Bool) : eqW f = true ↔ (bl f 256).length = 255 ∧ f 10 = false := by
  constructor
  · intro h
    unfold eqW at h
    simp only [Bool.and_eq_true, beq_iff_eq] at h
    obtain ⟨⟨⟨h0, h1⟩, h2⟩, h3⟩ := h
    have hk : ∀ k, k < 256 → f k = dotF k := fun k hk => by
      rcases Nat.lt_or_ge k 64 with a | a
      · simpa using wd_same h0 k a
      · rcases Nat.lt_or_ge k 128 with b | b
        · have := wd_same h1 (k - 64) (by omega); rwa [show 64 * 1 + (k - 64) = k by omega] at this
        · rcases Nat.lt_or_ge k 192 with c | c
          · have := wd_same h2 (k - 128) (by omega); rwa [show 64 * 2 + (k - 128) = k by omega] at this
          · have := wd_same h3 (k - 192) (by omega); rwa [show 64 * 3 + (k - 192) = k by omega] at this
    exact ⟨by rw [bl_same f dotF 256 hk, dot_len], by rw [hk 10 (by decide)]; rfl⟩
  · rintro ⟨h1, h2⟩
    have h3 := bl_all f 10 256 (by decide) h2
    have h4 := h3.2 (by omega)
    have hk : ∀ k, k < 256 → f k = dotF k := fun k hk => by
      by_cases h : k = 10
      · rw [h, h2]; rfl
      · rw [h4 k hk h]; unfold dotF; simp [h]
    unfold eqW
    rw [wd_congr (i := 0) fun j _ => hk _ (by omega), wd_congr (i := 1) fun j _ => hk _ (by omega), wd_congr (i := 2) fun j _ => hk _ (by omega), wd_congr (i := 3) fun j _ => hk _ (by omega)]
    simp

theorem enc_tab : ∀ n : Nat, n < 128 → Utf8.encode (n : Int) = ⟨#[UInt8.ofNat n]⟩ := by decide +kernel
theorem runes_bs : ∀ (l : List Nat), (∀ x, x ∈ l → x < 128) → ∀ s : ByteArray, (l.map fun x : Nat => (x : Int)).foldl (fun r n => r ++ Utf8.encode n) s = s ++ bs l
  | [], _, s => by rw [bs_nil]; simp
  | x :: l, h, s => by
    rw [List.map_cons, List.foldl_cons, enc_tab x (h x (by simp)), runes_bs l fun y hy => h y (by simp [hy]), ByteArray.append_assoc]
    congr 1
theorem convR {w : World} {base : Nat} {v : Value} {l : List Nat} (h : w.ownsRow base 21 1 v l.length (r32 l)) (hl : ∀ x, x ∈ l → x < 128) (h1 : 1 ≤ l.length) :
    (convert 83 9 v).run Tryd.prog w = .ok (.string (bs l)) w := by
  obtain ⟨g, c, rfl, hg, hc⟩ := row_at h h1
  rw [run_convert_runes w 83 9 21 ⟨g, 0, none⟩ l.length c (l.map fun x : Nat => (x : Int)) (by simp) Tryd.underlying83 Tryd.underlying21 Tryd.underlying9 fun j hj => by
    have hj' : j < l.length := by simpa using hj
    rw [show ((⟨g, 0, none⟩ : Addr).add j) = ⟨g, j, none⟩ by unfold Addr.add; split <;> simp_all, hc j hj', List.getD_eq_getElem?_getD, List.getElem?_map, List.getElem?_eq_getElem hj']
    rfl]
  rw [List.take_of_length_le (by simp)]
  unfold runesBytes
  rw [runes_bs l hl]
  simp
theorem hxd_small (d : Nat) (h : d < 16) : hxd d < 128 := by unfold hxd; split <;> omega
theorem endL_small (b : Nat) (hb : b < 256) : ∀ x, x ∈ endL b → x < 128 := by
  intro x hx
  unfold endL at hx
  split at hx
  · rename_i h
    rw [List.mem_singleton.1 hx]
    unfold plainB at h
    simp only [Bool.or_eq_true, Bool.and_eq_true, decide_eq_true_eq] at h
    omega
  · have h1 := hxd_small (b / 16) (by omega)
    have h2 := hxd_small (b % 16) (by omega)
    simp only [List.mem_cons, List.not_mem_nil, or_false] at hx
    omega
theorem runL_small (r : Nat × Nat) (h1 : r.1 < 256) (h2 : r.2 < 256) : ∀ x, x ∈ runL r → x < 128 := by
  intro x hx
  unfold runL at hx
  rcases List.mem_append.1 hx with hx | hx
  · exact endL_small _ h1 x hx
  · split at hx
    · exact endL_small _ h2 x hx
    · split at hx
      · rcases List.mem_cons.1 hx with rfl | hx
        · decide
        · exact endL_small _ h2 x hx
      · cases hx
theorem many_small (f : Nat → Bool) : ∀ x, x ∈ 91 :: ((segs f 256 256).flatMap runL ++ [93]) → x < 128 := by
  intro x hx
  rcases List.mem_cons.1 hx with rfl | hx
  · decide
  · rcases List.mem_append.1 hx with hx | hx
    · obtain ⟨r, hr, hx⟩ := List.mem_flatMap.1 hx
      have := segs_whole f r hr
      exact runL_small r this.2.2 this.2.1 x hx
    · rw [List.mem_singleton.1 hx]; decide
end Go.Proofs.YtjbmkbgoahppfaaDoor

namespace Go.Proofs.YtjbmkbgoahppfaaDoor
open Go.RowKit

theorem Tryd.infoRun : (Tryd.prog.info? 89).map (fun i => (i.zero, i.size, i.bytes)) = some (some (.agg #[.int .u8 0, .int .u8 0]), 2, 2) := by kernel_rfl

/-- Runs as cells. -/
def rvs (l : List (Nat × Nat)) : List Value := l.flatMap fun r => [.int .u8 (r.1 : Int), .int .u8 (r.2 : Int)]
theorem rvs_append (a b : List (Nat × Nat)) : rvs (a ++ b) = rvs a ++ rvs b := by simp [rvs]
theorem rvs_length (l : List (Nat × Nat)) : (rvs l).length = l.length * 2 := by
  induction l with
  | nil => rfl
  | cons r l ih => simp only [rvs, List.flatMap_cons, List.length_append] at *; rw [ih]; simp; omega
theorem rvs_last (init : List (Nat × Nat)) (lo hi : Nat) : (rvs (init ++ [(lo, hi)]))[init.length * 2 + 1]? = some (.int .u8 (hi : Int)) := by
  rw [rvs_append, List.getElem?_append_right (by rw [rvs_length]; omega), rvs_length]
  simp [rvs]
theorem rvs_set (init : List (Nat × Nat)) (lo hi b : Nat) : (rvs (init ++ [(lo, hi)])).set (init.length * 2 + 1) (.int .u8 (b : Int)) = rvs (init ++ [(lo, b)]) := by
  rw [rvs_append, rvs_append, List.set_append_right _ _ (by rw [rvs_length]; omega), rvs_length]
  simp [rvs]

/-- The state of the loop of Runs, k bytes on. -/
def runsR (l : List Nat) (w1 : World) (k : Nat) (v : Value) (wr : World) : Prop :=
  wr.ownsRow w1.heap.size 89 2 v (runsOf (l.take k)).length (rvs (runsOf (l.take k))) ∧ Below w1.heap.size w1 wr

set_option maxRecDepth 100000 in
set_option maxHeartbeats 2000000 in
theorem runs_any (f : Nat → Bool) (w : World) :
    Calls Tryd.prog 54 #[sv f] w fun e w' => ∃ v, e = .returned v ∧ w'.ownsRow w.heap.size 89 2 v (runsOf (bl f 256)).length (rvs (runsOf (bl f 256))) ∧ Below w.heap.size w w' := by
  obtain ⟨i0, hi, hz0, hz1, hz2⟩ := info_parts Tryd.infoRun
  have hlen := bl_le f 256
  have hby := bl_bytes f 256
  unfold sv
  go_enter Tryd.func54, Tryd.ntmps54
  go_wp2_with fail
  refine (bytes_any f _).mono ?_
  rintro e w1 ⟨v8, rfl, hown8, hB1⟩
  have hr8 := rd8_of_owns hown8
  have hz1' := hB1.size
  simp only [World.size_alloc] at hz1'
  obtain ⟨l, hl0⟩ : ∃ l, l = bl f 256 := ⟨_, rfl⟩
  rw [← hl0] at hr8 hlen hby
  have HL := Lib.hid hl0
  clear hown8 hl0
  rcases hr8 with ⟨rfl, rfl⟩ | ⟨b, off, cap, rfl, hb, hc⟩
  · go_wp2
    refine wp_loop_rounds 1 ?_
    rw [rounds_succ]; go_wp2
    go_ret
    exact ⟨.slice none 0 0, rfl, by rw [← HL.out]; exact World.ownsRow_nil _ _ _ _, ((Below.refl _ _).alloc (Nat.le_refl _) _).trans (hB1.mono (by simp))⟩
  · go_wp2
    go_loopw [3, 10] (fun v i wr => ∃ k : Nat, k ≤ l.length ∧ i = .int .i64 k ∧ runsR l w1 k v wr) (fun _ i _ => l.length - (intOf i).toNat)
    case atStart => exact ⟨0, Nat.zero_le _, rfl, World.ownsRow_nil _ _ _ _, Below.refl _ _⟩
    case round =>
      obtain ⟨k, hk, rfl, hown, hB⟩ := hrel
      have hz := hB.size
      by_cases hlt : k < l.length
      · have hcell := (hB.cell (p := ⟨b, off + k, none⟩) hb).trans (hc k hlt)
        have hx : l[k] < 256 := hby _ (List.getElem_mem hlt)
        have hstep := Lib.hid (runsOf_take l k hlt)
        have hal := runsOf_length l k hk
        have hab := Lib.hid (runsOf_bytes l hby k hk)
        obtain ⟨c, hcc⟩ : ∃ c, c = l[k] := ⟨_, rfl⟩
        rw [← hcc] at hcell hx
        rw [← hcc] at hstep
        clear hcc hc hby
        obtain ⟨acc, hacc⟩ : ∃ acc, acc = runsOf (l.take k) := ⟨_, rfl⟩
        rw [← hacc] at hown hal hstep hab
        clear hacc
        rcases List.eq_nil_or_concat acc with rfl | ⟨init, ⟨lo, hi'⟩, rfl⟩
        · rcases hown.2 with ⟨rfl, _⟩ | ⟨g, cap2, cur, rfl, _⟩
          all_goals
            go_wp2_with (at_builtin; refine wpList_append_own _ rfl _ _ 86 rfl w1.heap.size 89 i0 (.agg #[.int .u8 0, .int .u8 0]) 2 2 Tryd.underlying86 hi hz0 hz1 hz2 rfl (by decide) _ _ _ rfl (hown.alloc _) ⟨wr.heap.size, 0, none⟩ 1 1 [.int .u8 (c : Int), .int .u8 (c : Int)] rfl rfl ?_ ?_ ?_ ?_ ?_ ?_)
            · intro j u hj
              match j, hj with
              | 0, hj => simp at hj; subst hj; simp [Addr.add]
              | 1, hj => simp at hj; subst hj; simp [Addr.add]
            · intro u hu; simp at hu; subst hu; rfl
            · unfold maxLen; simp
            · simp
            · simp; omega
            intro v' w2 hown2 hgrow _
            have hB2 : Below w1.heap.size w1 w2 := (hB.alloc hz _).grown hgrow (by simp; omega) fun r hr => (hown.lt r hr).1
            have hown3 : w2.ownsRow w1.heap.size 89 2 v' (runsOf (l.take (k + 1))).length (rvs (runsOf (l.take (k + 1)))) := by
              rw [hstep.out, step_nil]
              simpa [rvs] using hown2
            clear hown2 hgrow hown hB
            go_wp2
            go_roundw
            case rel => exact ⟨k + 1, by omega, by go_num, hown3, hB2⟩
            case measure => simp [intOf]; omega
        · rw [List.concat_eq_append] at *
          have hmlen : (init ++ [(lo, hi')]).length = init.length + 1 := by simp
          rw [hmlen] at hown hal
          rcases hown.2 with ⟨_, h0⟩ | ⟨g, cap2, cur, rfl, hg⟩
          · omega
          · have hq := hown.cellAt (init.length * 2 + 1) (by omega)
            rw [rvs_last] at hq
            have hfr := hown.frozenAt (init.length * 2 + 1)
            have hge := hg.1
            clear hmlen hg
            by_cases hcond : (hi' + 1) % 256 = c
            · have ht : (((hi' : Int) + 1) % 256 == (c : Int)) = true := beq_iff_eq.2 (by omega)
              have st := hown.stored (init.length * 2 + 1) (.int .u8 (c : Int))
              have hown3 : (wr.setCell ⟨g, init.length * 2 + 1, none⟩ (.int .u8 (c : Int))).ownsRow w1.heap.size 89 2 (.slice (some ⟨g, 0, none⟩) (init.length + 1) cap2) (runsOf (l.take (k + 1))).length (rvs (runsOf (l.take (k + 1)))) := by
                rw [hstep.out, step_hit init lo hi' c hcond]
                have := st.1
                rw [rvs_set] at this
                simpa using this
              have hB2 := hB.setCell (p := ⟨g, init.length * 2 + 1, none⟩) hge (.int .u8 (c : Int))
              have Ho := Lib.hid hown3
              clear hcond hown hown3 st hstep
              go_wp2
              go_roundw
              case rel => exact ⟨k + 1, by omega, by go_num, Ho.out, hB2⟩
              case measure => simp [intOf]; omega
            · have ht : (((hi' : Int) + 1) % 256 == (c : Int)) = false := beq_eq_false_iff_ne.2 (by omega)
              go_wp2_with (at_builtin; refine wpList_append_own _ rfl _ _ 86 rfl w1.heap.size 89 i0 (.agg #[.int .u8 0, .int .u8 0]) 2 2 Tryd.underlying86 hi hz0 hz1 hz2 rfl (by decide) _ _ _ rfl (hown.alloc _) ⟨wr.heap.size, 0, none⟩ 1 1 [.int .u8 (c : Int), .int .u8 (c : Int)] rfl rfl ?c1 ?c2 ?c3 ?c4 ?c5 ?_)
              case c1 =>
                intro j u hj
                match j, hj with
                | 0, hj => simp at hj; subst hj; simp [Addr.add]
                | 1, hj => simp at hj; subst hj; simp [Addr.add]
              case c2 => intro u hu; simp at hu; subst hu; rfl
              case c3 => unfold maxLen; omega
              case c4 => omega
              case c5 => simp; omega
              intro v' w2 hown2 hgrow _
              have hB2 : Below w1.heap.size w1 w2 := (hB.alloc hz _).grown hgrow (by simp; omega) fun r hr => (hown.lt r hr).1
              have hown3 : w2.ownsRow w1.heap.size 89 2 v' (runsOf (l.take (k + 1))).length (rvs (runsOf (l.take (k + 1)))) := by
                rw [hstep.out, step_new init lo hi' c hcond, rvs_append (init ++ [(lo, hi')])]
                simpa [rvs] using hown2
              clear hown2 hgrow hown hB hq hfr
              go_wp2
              go_roundw
              case rel => exact ⟨k + 1, by omega, by go_num, hown3, hB2⟩
              case measure => simp [intOf]; omega
      · have hkl : k = l.length := by omega
        have hown' : wr.ownsRow w1.heap.size 89 2 u3 (runsOf (bl f 256)).length (rvs (runsOf (bl f 256))) := by
          rw [← HL.out]
          rw [hkl, List.take_length] at hown
          exact hown
        have Ho := Lib.hid hown'
        clear hown' hown hc hby hkl
        go_wp2
        go_ret
        exact ⟨_, rfl, owns_mono Ho.out (by omega), (((Below.refl _ _).alloc (Nat.le_refl _) _).trans (hB1.mono (by simp))).trans (hB.mono (by omega))⟩

/-- The runs that a slice's cells are. -/
def rdR (w : World) (tp : Option Addr) (L : List (Nat × Nat)) : Prop :=
  ∀ j (h : j < L.length), ∃ b, tp = some ⟨b, 0, none⟩ ∧ b < w.heap.size ∧ w.cell? ⟨b, j * 2, none⟩ = some (.int .u8 (L[j].1 : Int)) ∧ w.cell? ⟨b, j * 2 + 1, none⟩ = some (.int .u8 (L[j].2 : Int))
theorem rvs_at (L : List (Nat × Nat)) (j : Nat) (h : j < L.length) : (rvs L)[j * 2]? = some (.int .u8 (L[j].1 : Int)) ∧ (rvs L)[j * 2 + 1]? = some (.int .u8 (L[j].2 : Int)) := by
  induction L generalizing j with
  | nil => simp at h
  | cons r L ih =>
    cases j with
    | zero => exact ⟨rfl, rfl⟩
    | succ j =>
      have := ih j (by simpa using h)
      rw [show (j + 1) * 2 = j * 2 + 1 + 1 by omega]
      simpa [rvs] using this
theorem rdR_of_owns {w : World} {base : Nat} {v : Value} {L : List (Nat × Nat)} (h : w.ownsRow base 89 2 v L.length (rvs L)) : ∃ tp cap, v = .slice tp L.length cap ∧ rdR w tp L := by
  have hlt := h.lt
  rcases h.2 with ⟨rfl, h0⟩ | ⟨g, cap, cur, rfl, -⟩
  · exact ⟨none, 0, by rw [h0], fun j hj => by omega⟩
  · refine ⟨some ⟨g, 0, none⟩, cap, rfl, fun j hj => ⟨g, rfl, (hlt g rfl).2, ?_, ?_⟩⟩
    · rw [h.cellAt (j * 2) (by omega)]; exact (rvs_at L j hj).1
    · rw [h.cellAt (j * 2 + 1) (by omega)]; exact (rvs_at L j hj).2
theorem rdR.below {w w' : World} {tp : Option Addr} {L : List (Nat × Nat)} {B : Nat} (h : rdR w tp L) (hb : Below B w w') (hB : w.heap.size ≤ B) : rdR w' tp L := fun j hj => by
  obtain ⟨b, h1, h2, h3, h4⟩ := h j hj
  exact ⟨b, h1, by have := hb.size; omega, by rw [hb.cell (p := ⟨b, j * 2, none⟩) (by show b < B; omega)]; exact h3, by rw [hb.cell (p := ⟨b, j * 2 + 1, none⟩) (by show b < B; omega)]; exact h4⟩
end Go.Proofs.YtjbmkbgoahppfaaDoor

namespace Go.Proofs.YtjbmkbgoahppfaaDoor
open Go.RowKit

/-- A bracket, so far: the first k runs. -/
def outL (L : List (Nat × Nat)) (k : Nat) : List Nat := 91 :: (L.take k).flatMap runL
theorem outL_step (L : List (Nat × Nat)) (k : Nat) (h : k < L.length) : outL L (k + 1) = outL L k ++ runL L[k] := by
  unfold outL
  rw [List.take_succ_eq_append_getElem h, List.flatMap_append]
  simp
theorem runL_len (r : Nat × Nat) : 1 ≤ (runL r).length ∧ (runL r).length ≤ 9 := by
  have h1 := end_len r.1
  have h2 := end_len r.2
  unfold runL
  rw [List.length_append]
  split
  · omega
  · split
    · rw [List.length_cons]; omega
    · simp; omega
theorem outL_len (L : List (Nat × Nat)) (k : Nat) (h : k ≤ L.length) : (outL L k).length ≤ 1 + 9 * k := by
  induction k with
  | zero => simp [outL]
  | succ k ih =>
    have := ih (by omega)
    have := runL_len L[k]
    rw [outL_step L k (by omega), List.length_append]
    omega
theorem outL_all (f : Nat → Bool) (h1 : ¬ ((bl f 256).length = 255 ∧ f 10 = false)) (h2 : (bl f 256).length ≠ 1) : setL f = outL (segs f 256 256) (segs f 256 256).length ++ [93] := by
  unfold setL outL
  rw [if_neg h1, if_neg h2, List.take_length, List.cons_append]

set_option maxRecDepth 100000 in
set_option maxHeartbeats 4000000 in
theorem cset_dot (f : Nat → Bool) (w : World) (h1 : (bl f 256).length = 255 ∧ f 10 = false) :
    Calls Tryd.prog 41 #[sv f] w fun e w' => e = .returned (.string (bs (setL f))) ∧ Below w.heap.size w w' := by
  have HE : Hid (bs (setL f) = ⟨#[46]⟩) := Lib.hid (by unfold setL; rw [if_pos h1]; rfl)
  have hq := (eqW_iff f).2 h1
  unfold eqW at hq
  have hE : ∀ w, (Op.equalIn 10000 38 (svr f) (svr dotF)).run Tryd.prog w = .ok true w := fun w => by rw [← hq]; exact eq_any _ _ _ _ _ _ _ _ w
  clear h1 hq
  obtain ⟨W, hW⟩ : ∃ W, w.alloc (.cells #[.int .u64 (wd f 0 : Int), .int .u64 (wd f 1 : Int), .int .u64 (wd f 2 : Int), .int .u64 (wd f 3 : Int)] 38) = W := ⟨_, rfl⟩
  have S0 : isSet W w.heap.size f := hW ▸ isSet.new w f
  have l0 := S0.lt
  obtain ⟨p0, p1, p2, p3⟩ := S0.cells
  have HBW : Hid (Below w.heap.size w W) := Lib.hid (hW ▸ (Below.refl _ _).alloc (Nat.le_refl _) _)
  have hB := (Below.refl W.heap.size W).drew
  clear S0
  unfold sv
  go_enter Tryd.func41, Tryd.ntmps41
  go_wp2_with fail
  clear hW
  go_region_held_law (fun w' => w'.cell? ⟨w.heap.size, 0, none⟩ = some (.int .u64 (wd f 0 : Int)) ∧ w'.cell? ⟨w.heap.size, 1, none⟩ = some (.int .u64 (wd f 1 : Int)) ∧ w'.cell? ⟨w.heap.size, 2, none⟩ = some (.int .u64 (wd f 2 : Int)) ∧ w'.cell? ⟨w.heap.size, 3, none⟩ = some (.int .u64 (wd f 3 : Int)))
    (exact ⟨(hB.cell (p := ⟨w.heap.size, 0, none⟩) l0).trans p0, (hB.cell (p := ⟨w.heap.size, 1, none⟩) l0).trans p1, (hB.cell (p := ⟨w.heap.size, 2, none⟩) l0).trans p2, (hB.cell (p := ⟨w.heap.size, 3, none⟩) l0).trans p3⟩)
    (first | (go_at_call 50; (with_reducible refine (dot_any _).mono ?_); rintro e wk ⟨rfl, hb⟩; replace hB := hB.trans (hb.mono hB.size); clear hb))
  go_wp2_with fail
  go_returns
  exact ⟨by rw [HE.out] <;> rfl, HBW.out.trans (hB.mono HBW.out.size)⟩

/-- Two rows of different kinds are different blocks. -/
theorem rows_apart {w : World} {b1 b2 e1 e2 s1 s2 n1 n2 : Nat} {v1 v2 : Value} {x1 x2 : List Value} (h1 : w.ownsRow b1 e1 s1 v1 n1 x1) (h2 : w.ownsRow b2 e2 s2 v2 n2 x2) (hne : e1 ≠ e2) : v1.ownBlock = none ∨ v1.ownBlock ≠ v2.ownBlock := by
  rcases h1.2 with ⟨rfl, _⟩ | ⟨g1, c1, u1, rfl, _, p1, _⟩
  · exact .inl rfl
  · rcases h2.2 with ⟨rfl, _⟩ | ⟨g2, c2, u2, rfl, _, p2, _⟩
    · exact .inr (by simp [Value.ownBlock])
    · refine .inr fun h => ?_
      have hg : g1 = g2 := by simpa [Value.ownBlock] using h
      subst hg
      rw [p1] at p2
      simp at p2
      exact hne p2.2
theorem segs_most6 (f : Nat → Bool) : (segs f 256 256).length ≤ 256 := by
  unfold segs starts
  rw [List.length_map]
  have := List.length_filter_le (st f) (List.range 256)
  rw [List.length_range] at this
  exact this
theorem eqW_not (f : Nat → Bool) (h1 : ¬ ((bl f 256).length = 255 ∧ f 10 = false)) : ∀ w, (Op.equalIn 10000 38 (svr f) (svr dotF)).run Tryd.prog w = .ok false w := fun w => by
  have hq : eqW f = false := by
    cases h : eqW f
    · rfl
    · exact absurd ((eqW_iff f).1 h) h1
  unfold eqW at hq
  rw [← hq]
  exact eq_any _ _ _ _ _ _ _ _ w
def aloneL (c : Nat) : List Nat := if 33 ≤ c ∧ c ≤ 126 ∧ plainB c = false then [92, c] else endL c
theorem aloneL_ok (c : Nat) (hc : c < 256) : 1 ≤ (aloneL c).length ∧ ∀ x, x ∈ aloneL c → x < 128 := by
  unfold aloneL
  split
  · rename_i h
    refine ⟨by simp, fun x hx => ?_⟩
    simp only [List.mem_cons, List.not_mem_nil, or_false] at hx
    omega
  · exact ⟨(end_len c).1, endL_small c hc⟩

set_option maxRecDepth 100000 in
set_option maxHeartbeats 4000000 in
theorem cset_one (f : Nat → Bool) (c : Nat) (w : World) (hT : Tabbed w) (h1 : bl f 256 = [c]) :
    Calls Tryd.prog 41 #[sv f] w fun e w' => e = .returned (.string (bs (setL f))) ∧ Below w.heap.size w w' := by
  have hc : c < 256 := bl_bytes f 256 c (by rw [h1]; simp)
  have HE : Hid (setL f = aloneL c) := Lib.hid (by unfold setL aloneL; rw [h1, if_neg (by simp), if_pos (show [c].length = 1 from rfl), List.headD_cons])
  have HL := Lib.hid h1
  have HPop : Hid (popTo f 0 256 = 1) := Lib.hid (by rw [← pop_bl, h1]; rfl)
  have hE := eqW_not f (by rw [h1]; simp)
  have HA := Lib.hid (fun w hT => alone_any c hc w hT)
  have HO := Lib.hid (aloneL_ok c hc)
  change Hid (∀ w, Tabbed w → Calls Tryd.prog 52 #[.int .u8 (c : Int)] w (runesPost (aloneL c) w)) at HA
  generalize aloneL c = la at *
  clear h1
  obtain ⟨W, hW⟩ : ∃ W, w.alloc (.cells #[.int .u64 (wd f 0 : Int), .int .u64 (wd f 1 : Int), .int .u64 (wd f 2 : Int), .int .u64 (wd f 3 : Int)] 38) = W := ⟨_, rfl⟩
  have S0 : isSet W w.heap.size f := hW ▸ isSet.new w f
  have HS0 := Lib.hid S0
  have l0 := S0.lt
  obtain ⟨p0, p1, p2, p3⟩ := S0.cells
  have HBW : Hid (Below w.heap.size w W) := Lib.hid (hW ▸ (Below.refl _ _).alloc (Nat.le_refl _) _)
  have HT : Hid (Tabbed W) := Lib.hid (hW ▸ hT.alloc _)
  have hB := (Below.refl W.heap.size W).drew
  clear S0 hT
  unfold sv
  go_enter Tryd.func41, Tryd.ntmps41
  go_wp2_with fail
  clear hW
  go_region_held_law (fun w' => w'.cell? ⟨w.heap.size, 0, none⟩ = some (.int .u64 (wd f 0 : Int)) ∧ w'.cell? ⟨w.heap.size, 1, none⟩ = some (.int .u64 (wd f 1 : Int)) ∧ w'.cell? ⟨w.heap.size, 2, none⟩ = some (.int .u64 (wd f 2 : Int)) ∧ w'.cell? ⟨w.heap.size, 3, none⟩ = some (.int .u64 (wd f 3 : Int)))
    (exact ⟨(hB.cell (p := ⟨w.heap.size, 0, none⟩) l0).trans p0, (hB.cell (p := ⟨w.heap.size, 1, none⟩) l0).trans p1, (hB.cell (p := ⟨w.heap.size, 2, none⟩) l0).trans p2, (hB.cell (p := ⟨w.heap.size, 3, none⟩) l0).trans p3⟩)
    (first | (go_at_call 50; (with_reducible refine (dot_any _).mono ?_); rintro e wk ⟨rfl, hb⟩; replace hB := hB.trans (hb.mono hB.size); clear hb))
  rename_i wk hHeld
  clear hHeld p0 p1 p2 p3 hE
  have HS1 := Lib.hid (HS0.out.below hB l0)
  have HT1 := Lib.hid (HT.out.to hB)
  have HB1 := Lib.hid (HBW.out.trans (hB.mono HBW.out.size))
  have l1 := HS1.out.lt
  clear hB HS0 HT l0 HBW
  obtain ⟨q0, q1, q2, q3⟩ := HS1.out.cells
  go_wp2_with fail
  refine (count_lit f _).mono ?_
  rintro e w2 ⟨rfl, hb⟩
  rw [HPop.out]
  have HS2 := Lib.hid (HS1.out.below hb l1)
  have HT2 := Lib.hid (HT1.out.to hb)
  have HB2 := Lib.hid (HB1.out.trans (hb.mono HB1.out.size))
  have l2 := HS2.out.lt
  clear hb HS1 HT1 HB1 l1 q0 q1 q2 q3
  obtain ⟨q0, q1, q2, q3⟩ := HS2.out.cells
  go_wp2_with fail
  refine (bytes_any f _).mono ?_
  rintro e w3 ⟨v8, rfl, hown8, hb⟩
  have HT3 := Lib.hid (HT2.out.to hb)
  have HB3 := Lib.hid (HB2.out.trans (hb.mono HB2.out.size))
  rw [HL.out] at hown8
  obtain ⟨g, cap, rfl, hg, hcell⟩ : ∃ g cap, v8 = .slice (some ⟨g, 0, none⟩) 1 cap ∧ g < w3.heap.size ∧ w3.cell? ⟨g, 0, none⟩ = some (.int .u8 (c : Int)) := by
    have hlt := hown8.lt
    rcases id hown8.2 with ⟨rfl, h0⟩ | ⟨g, cap, cur, rfl, -⟩
    · cases h0
    · exact ⟨g, cap, rfl, (hlt g rfl).2, hown8.cellAt 0 (by simp)⟩
  clear hb hown8 HL HB2 HT2 HS2 q0 q1 q2 q3 l2
  go_wp2_with fail
  refine (HA.out _ HT3.out).mono ?_
  rintro e w4 ⟨v, rfl, hown, hb⟩
  have hcv := convR hown HO.out.2 HO.out.1
  have HB4 := Lib.hid (HB3.out.trans (hb.mono HB3.out.size))
  clear hb hown
  go_wp2_with fail
  go_returns
  exact ⟨by rw [HE.out] <;> rfl, HB4.out⟩

set_option maxRecDepth 100000 in
set_option maxHeartbeats 8000000 in
theorem cset_many (f : Nat → Bool) (w : World) (hT : Tabbed w) (h1 : ¬ ((bl f 256).length = 255 ∧ f 10 = false)) (h2 : (bl f 256).length ≠ 1) :
    Calls Tryd.prog 41 #[sv f] w fun e w' => e = .returned (.string (bs (setL f))) ∧ Below w.heap.size w w' := by
  obtain ⟨i0, hi, hz0, hz1, hz2⟩ := info_parts infoI32
  have HSM : Hid (∀ x, x ∈ setL f → x < 128) := Lib.hid (by
    have := many_small f
    unfold setL
    rw [if_neg h1, if_neg h2]
    exact this)
  have HE := Lib.hid (outL_all f h1 h2)
  obtain ⟨pn, hpn⟩ : ∃ n, popTo f 0 256 = n := ⟨_, rfl⟩
  have HPop := Lib.hid hpn
  have n2 : ((pn : Int) == 1) = false := beq_eq_false_iff_ne.2 (by rw [pop_bl, hpn] at h2; omega)
  have hE := eqW_not f h1
  have hw2 := segs_whole f
  have hsl := segs_most6 f
  have hrs := runs_segs f 256 (by decide)
  have HTw := Lib.hid hT
  clear h1 h2 hpn
  obtain ⟨W, hW⟩ : ∃ W, w.alloc (.cells #[.int .u64 (wd f 0 : Int), .int .u64 (wd f 1 : Int), .int .u64 (wd f 2 : Int), .int .u64 (wd f 3 : Int)] 38) = W := ⟨_, rfl⟩
  have S0 : isSet W w.heap.size f := hW ▸ isSet.new w f
  have HS0 := Lib.hid S0
  have l0 := S0.lt
  obtain ⟨p0, p1, p2, p3⟩ := S0.cells
  have HBW : Hid (Below w.heap.size w W) := Lib.hid (hW ▸ (Below.refl _ _).alloc (Nat.le_refl _) _)
  have HT : Hid (Tabbed W) := Lib.hid (hW ▸ hT.alloc _)
  have hB := (Below.refl W.heap.size W).drew
  clear S0 hT
  unfold sv
  go_enter Tryd.func41, Tryd.ntmps41
  go_wp2_with fail
  clear hW
  go_region_held_law (fun w' => w'.cell? ⟨w.heap.size, 0, none⟩ = some (.int .u64 (wd f 0 : Int)) ∧ w'.cell? ⟨w.heap.size, 1, none⟩ = some (.int .u64 (wd f 1 : Int)) ∧ w'.cell? ⟨w.heap.size, 2, none⟩ = some (.int .u64 (wd f 2 : Int)) ∧ w'.cell? ⟨w.heap.size, 3, none⟩ = some (.int .u64 (wd f 3 : Int)))
    (exact ⟨(hB.cell (p := ⟨w.heap.size, 0, none⟩) l0).trans p0, (hB.cell (p := ⟨w.heap.size, 1, none⟩) l0).trans p1, (hB.cell (p := ⟨w.heap.size, 2, none⟩) l0).trans p2, (hB.cell (p := ⟨w.heap.size, 3, none⟩) l0).trans p3⟩)
    (first | (go_at_call 50; (with_reducible refine (dot_any _).mono ?_); rintro e wk ⟨rfl, hb⟩; replace hB := hB.trans (hb.mono hB.size); clear hb))
  rename_i wk hHeld
  clear hHeld p0 p1 p2 p3 hE
  have HS1 := Lib.hid (HS0.out.below hB l0)
  have HT1 := Lib.hid (HT.out.to hB)
  have HB1 := Lib.hid (HBW.out.trans (hB.mono HBW.out.size))
  have l1 := HS1.out.lt
  clear hB HS0 HT l0 HBW
  obtain ⟨q0, q1, q2, q3⟩ := HS1.out.cells
  go_wp2_with fail
  refine (count_lit f _).mono ?_
  rintro e w2 ⟨rfl, hb⟩
  rw [HPop.out]
  have HS2 := Lib.hid (HS1.out.below hb l1)
  have HT2 := Lib.hid (HT1.out.to hb)
  have HB2 := Lib.hid (HB1.out.trans (hb.mono HB1.out.size))
  have l2 := HS2.out.lt
  clear hb HS1 HT1 HB1 l1 q0 q1 q2 q3
  obtain ⟨q0, q1, q2, q3⟩ := HS2.out.cells
  have HO0 := Lib.hid (own_lit (w := w) (w1 := w2) HB2.out.size #[.int .i32 91] 1 (by decide) rfl)
  have HT2a := Lib.hid (HT2.out.alloc (.cells #[.int .i32 91] 21))
  have HB2a := Lib.hid (HB2.out.alloc HB2.out.size (.cells #[.int .i32 91] 21))
  clear HB2 HT2 HS2
  go_wp2_with fail
  refine (runs_any f _).mono ?_
  rintro e w3 ⟨vr, rfl, hownR, hb⟩
  rw [hrs] at hownR
  obtain ⟨tr, cr, rfl, -⟩ := rdR_of_owns hownR
  have HT3 := Lib.hid (HT2a.out.to hb)
  have HB3 := Lib.hid (HB2a.out.trans (hb.mono HB2a.out.size))
  have HO3 := Lib.hid (owns_below HO0.out hb)
  generalize segs f 256 256 = L at *
  obtain ⟨m, hm⟩ : ∃ m, L.length = m := ⟨_, rfl⟩
  rw [hm] at HE ⊢
  have hm2 : m ≤ 256 := by rw [← hm]; exact hsl
  have HM := Lib.hid hm
  have HW := Lib.hid hw2
  have hownR2 := owns_mono hownR (show w.heap.size ≤ _ by have := HB2a.out.size; exact this)
  rw [hm] at hownR2
  have HRD := Lib.hid hownR2
  clear hownR hownR2 hb hm hw2 hsl hrs q0 q1 q2 q3 l2 HO0 HT2a HB2a
  go_wp2_with fail
  go_loopw [3, 22] (fun v i wr => ∃ k : Nat, k ≤ m ∧ i = .int .i64 k ∧ Hid (wr.ownsRow w.heap.size 21 1 v (outL L k).length (r32 (outL L k))) ∧ Hid (wr.ownsRow w.heap.size 89 2 (.slice tr m cr) m (rvs L)) ∧ Tabbed wr ∧ Below w.heap.size w wr) (fun _ i _ => m - (intOf i).toNat)
  case atStart => exact ⟨0, Nat.zero_le _, rfl, HO3, HRD, HT3.out, HB3.out⟩
  case round =>
    obtain ⟨k, hk, rfl, HO, HR, hTr, hBr⟩ := hrel
    have HTr := Lib.hid hTr
    have HBr := Lib.hid hBr
    clear hTr hBr HO3 HT3 HB3 HRD
    by_cases hlt : k < m
    · have hlt' : k < L.length := by rw [HM.out]; exact hlt
      have HRo := HR.out
      rw [← HM.out] at HRo
      obtain ⟨tr', cr', hv, hrd⟩ := rdR_of_owns HRo
      obtain ⟨g, htr, hg, c0, c1⟩ := hrd k hlt'
      subst htr
      simp only [Value.slice.injEq] at hv
      obtain ⟨rfl, -, rfl⟩ := hv
      clear hrd HRo
      have hwh := HW.out _ (List.getElem_mem hlt')
      have HST := Lib.hid (outL_step L k hlt')
      have hol := outL_len L k (by omega)
      obtain ⟨⟨lo, hi'⟩, hr⟩ : ∃ r, L[k] = r := ⟨_, rfl⟩
      rw [hr] at c0 c1 hwh HST
      simp only at c0 c1 hwh
      have i0' : (0 : Int) ≤ (k : Int) := by omega
      have i1 : (k : Int) < (m : Int) := by omega
      have HRu := Lib.hid (fun w hT => run_any lo hi' hwh.1 hwh.2.1 w hT)
      have hrl := runL_len (lo, hi')
      generalize runL (lo, hi') = l at *
      obtain ⟨o, ho⟩ : ∃ o, outL L k = o := ⟨_, rfl⟩
      rw [ho] at HO HST hol
      have HOL : Hid (o.length + l.length ≤ 2400) := Lib.hid (by omega)
      have HRL := Lib.hid hrl.1
      have HG := Lib.hid hg
      clear hr hlt' ho hrl hol hwh hg
      go_wp2_with fail
      refine (HRu.out _ (HTr.out.alloc _)).mono ?_
      rintro e w4 ⟨v4, rfl, o4, hb⟩
      have hT4 := (HTr.out.alloc (.cells #[.int .u8 (lo : Int), .int .u8 (hi' : Int)] 89)).to hb
      have hB4 := (HBr.out.alloc HBr.out.size (.cells #[.int .u8 (lo : Int), .int .u8 (hi' : Int)] 89)).trans (hb.mono (by have := HBr.out.size; simp; omega))
      have hO4 := owns_below (HO.out.alloc (.cells #[.int .u8 (lo : Int), .int .u8 (hi' : Int)] 89)) hb
      have hR4 := owns_below (HR.out.alloc (.cells #[.int .u8 (lo : Int), .int .u8 (hi' : Int)] 89)) hb
      obtain ⟨g4, k4, rfl, hg4, hc4⟩ := row_at o4 HRL.out
      have HT4 := Lib.hid hT4; have HB4 := Lib.hid hB4; have HR4 := Lib.hid hR4; have HC4 := Lib.hid hc4
      have H63 : Hid (o.length + l.length ≤ maxLen) := Lib.hid (by have := HOL.out; unfold maxLen; omega)
      have H48 : Hid ((o.length + l.length) * 4 ≤ 140737488355328) := Lib.hid (by have := HOL.out; omega)
      clear hb hT4 hB4 hR4 o4 hc4 HO HR HTr HBr c0 c1 HRu
      go_wp2_with (at_builtin; refine wpList_append_own _ rfl _ _ 83 rfl w.heap.size 21 i0 (.int .i32 0) 1 4 Tryd.underlying83 hi hz0 hz1 hz2 rfl (by decide) _ _ _ rfl hO4 ⟨g4, 0, none⟩ l.length k4 (r32 l) rfl ?c1 ?c2 ?c3 H63.out H48.out ?c5 ?_)
      case c1 => rw [r32_length, Nat.mul_one]
      case c2 =>
        intro j u hj
        have hjl : j < l.length := by
          rcases Nat.lt_or_ge j l.length with h | h
          · exact h
          · rw [List.getElem?_eq_none (by rw [r32_length]; exact h)] at hj; cases hj
        have := HC4.out j hjl
        rw [show ((⟨g4, 0, none⟩ : Addr).add j) = ⟨g4, j, none⟩ by unfold Addr.add; split <;> simp_all, this]
        simp only [r32, List.getElem?_map, List.getElem?_eq_getElem hjl, Option.map_some] at hj
        exact hj
      case c3 => intro u hu; unfold r32 at hu; obtain ⟨x, -, rfl⟩ := List.mem_map.1 hu; rfl
      case c5 => exact HB4.out.size
      intro v' w5 hown5 hgrow _
      have HB5 : Hid (Below w.heap.size w w5) := Lib.hid (HB4.out.grown hgrow HB4.out.size fun r hr => (hO4.lt r hr).1)
      have HO5 : Hid (w5.ownsRow w.heap.size 21 1 v' (outL L (k + 1)).length (r32 (outL L (k + 1)))) := Lib.hid (by
        rw [HST.out, List.length_append, r32_append]
        exact hown5)
      have HR5 := Lib.hid (HR4.out.kept hgrow (rows_apart HR4.out hO4 (by decide)))
      have HT5 : Hid (Tabbed w5) := Lib.hid (HTw.out.to HB5.out)
      clear hown5 hgrow hO4 HB4 HR4 HC4 HT4
      go_wp2_with fail
      go_roundw
      case rel => exact ⟨k + 1, by omega, by go_num, HO5, HR5, HT5.out, HB5.out⟩
      case measure => simp [intOf]; omega
    · have hkm : k = m := by omega
      rw [hkm] at HO
      have hol := outL_len L m (by rw [HM.out]; exact Nat.le_refl _)
      have HFin : Hid (setL f = outL L m ++ [93]) := HE
      generalize outL L m = o at *
      have H63 : Hid (o.length + 1 ≤ maxLen) := Lib.hid (by unfold maxLen; omega)
      have H48 : Hid ((o.length + 1) * 4 ≤ 140737488355328) := Lib.hid (by omega)
      have hO4 := HO.out.alloc (.cells #[.int .i32 93] 21)
      have HB4 := Lib.hid (HBr.out.alloc HBr.out.size (.cells #[.int .i32 93] 21))
      clear hol hkm HO HR HTr HE
      go_wp2_with (at_builtin; refine wpList_append_own _ rfl _ _ 83 rfl w.heap.size 21 i0 (.int .i32 0) 1 4 Tryd.underlying83 hi hz0 hz1 hz2 rfl (by decide) _ _ _ rfl hO4 ⟨wr.heap.size, 0, none⟩ 1 1 [.int .i32 93] rfl rfl ?c2 ?c3 H63.out H48.out ?c5 ?_)
      case c2 =>
        intro j u hj
        match j, hj with
        | 0, hj => simp at hj; subst hj; simp [Addr.add]
      case c3 => intro u hu; simp at hu; subst hu; rfl
      case c5 => exact HB4.out.size
      intro v' w5 hown5 hgrow _
      have HB5 : Hid (Below w.heap.size w w5) := Lib.hid (HB4.out.grown hgrow HB4.out.size fun r hr => (hO4.lt r hr).1)
      have hown6 : w5.ownsRow w.heap.size 21 1 v' (o ++ [93]).length (r32 (o ++ [93])) := by
        rw [List.length_append, r32_append]
        exact hown5
      have hcv := convR hown6 (by rw [← HFin.out]; exact HSM.out) (by simp)
      rw [← HFin.out] at hcv
      clear hown5 hown6 hgrow hO4 HB4
      go_wp2_with fail
      go_returns
      exact ⟨rfl, HB5.out⟩

/-- The code's Set. -/
theorem cset_any (f : Nat → Bool) (w : World) (hT : Tabbed w) : Calls Tryd.prog 41 #[sv f] w fun e w' => e = .returned (.string (bs (setL f))) ∧ Below w.heap.size w w' := by
  by_cases h1 : (bl f 256).length = 255 ∧ f 10 = false
  · exact cset_dot f w h1
  · by_cases h2 : (bl f 256).length = 1
    · obtain ⟨c, hc⟩ := List.length_eq_one_iff.1 h2
      exact cset_one f c w hT hc
    · exact cset_many f w hT h1 h2
end Go.Proofs.YtjbmkbgoahppfaaDoor
