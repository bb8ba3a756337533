/-
  How many bits of a word are set: the way of math/bits.OnesCount64, in plain numbers.
  The walk of bits.OnesCount64.
  Facts as values and in memory; the walks of facts' atMost and oneOf.
  The walk of facts' behind.
  The walks of facts' either and again, where one of them never fits; of facts' Can.
  What facts' behind, either and again tell is what the plain functions catX, orX and repX tell.
-/
import Derived.Test.YtepegohopgnmnaaPk1
import Derived.Test.YtepegohopgnmnaaPk3
import Derived.Deep.RegionHeldLaw
namespace Go.Proofs.Ytepegohopgnmnaa

/-- How many of f b .. f (b + n - 1) are true. -/
def popTo (f : Nat → Bool) (b : Nat) : Nat → Nat
  | 0 => 0
  | n + 1 => popTo f b n + if f (b + n) = true then 1 else 0
theorem popTo_add (f : Nat → Bool) (b m n : Nat) : popTo f b (m + n) = popTo f b m + popTo f (b + m) n := by
  induction n with
  | zero => simp [popTo]
  | succ n ih =>
    rw [← Nat.add_assoc]
    simp only [popTo]
    rw [ih, Nat.add_assoc b m n]
    omega
theorem popTo_congr {f g : Nat → Bool} {b c : Nat} (n : Nat) (h : ∀ j, j < n → f (b + j) = g (c + j)) : popTo f b n = popTo g c n := by
  induction n with
  | zero => rfl
  | succ n ih => simp only [popTo]; rw [ih (fun j hj => h j (by omega)), h n (by omega)]
theorem popTo_le (f : Nat → Bool) (b n : Nat) : popTo f b n ≤ n := by
  induction n with
  | zero => simp [popTo]
  | succ n ih => simp only [popTo]; split <;> omega
theorem popTo_or_and (f g : Nat → Bool) (b n : Nat) : popTo f b n + popTo g b n = popTo (fun k => f k || g k) b n + popTo (fun k => f k && g k) b n := by
  induction n with
  | zero => rfl
  | succ n ih =>
    simp only [popTo]
    rcases Bool.eq_false_or_eq_true (f (b + n)) with hf | hf <;> rcases Bool.eq_false_or_eq_true (g (b + n)) with hg | hg <;> simp [hf, hg] <;> omega

/-- k bytes, each c. -/
def rep (c : Nat) : Nat → Nat
  | 0 => 0
  | k + 1 => 256 * rep c k + c
/-- g of each of the k lowest bytes. -/
def bmap (g : Nat → Nat) : Nat → Nat → Nat
  | 0, _ => 0
  | k + 1, x => 256 * bmap g k (x / 256) + g (x % 256)

theorem and_split (a b r s : Nat) (hr : r < 256) (hs : s < 256) : (256 * a + r) &&& (256 * b + s) = 256 * (a &&& b) + (r &&& s) := by
  have hrs : r &&& s < 2 ^ 8 := Nat.and_lt_two_pow _ hs
  apply Nat.eq_of_testBit_eq
  intro j
  rw [show (256 : Nat) = 2 ^ 8 from rfl, Nat.testBit_and, Nat.testBit_two_pow_mul_add a hr, Nat.testBit_two_pow_mul_add b hs, Nat.testBit_two_pow_mul_add _ hrs]
  split <;> simp [Nat.testBit_and]

def h1 (x : Nat) : Nat := (x / 2 &&& 85) + (x &&& 85)
def h2 (x : Nat) : Nat := (x / 4 &&& 51) + (x &&& 51)
def h3 (x : Nat) : Nat := (x / 16 + x) &&& 15

theorem h1_shift : ∀ r, r < 256 → ∀ t, t < 2 → (128 * t + r / 2) &&& 85 = r / 2 &&& 85 := by decide +kernel
theorem h2_shift : ∀ r, r < 256 → ∀ t, t < 4 → (64 * t + r / 4) &&& 51 = r / 4 &&& 51 := by decide +kernel
theorem h1_lt : ∀ r, r < 256 → h1 r < 256 := by decide +kernel
theorem h21_le : ∀ r, r < 256 → h2 (h1 r) ≤ 68 ∧ h2 (h1 r) % 16 ≤ 4 := by decide +kernel
theorem h321 : ∀ r, r < 256 → h3 (h2 (h1 r)) = popTo (fun j => r.testBit j) 0 8 := by decide +kernel

theorem step1 (k : Nat) : ∀ x, (x / 2 &&& rep 85 k) + (x &&& rep 85 k) = bmap h1 k x := by
  induction k with
  | zero => intro x; simp [rep, bmap]
  | succ k ih =>
    intro x
    have hx : x = 256 * (x / 256) + x % 256 := by omega
    have hx2 : x / 2 = 256 * (x / 256 / 2) + (128 * (x / 256 % 2) + x % 256 / 2) := by omega
    have e1 : x / 2 &&& rep 85 (k + 1) = 256 * (x / 256 / 2 &&& rep 85 k) + (x % 256 / 2 &&& 85) := by
      rw [hx2]; simp only [rep]; rw [and_split _ _ _ _ (by omega) (by omega), h1_shift _ (by omega) _ (by omega)]
    have e2 : x &&& rep 85 (k + 1) = 256 * (x / 256 &&& rep 85 k) + (x % 256 &&& 85) := by
      conv => lhs; rw [hx]
      simp only [rep]; rw [and_split _ _ _ _ (by omega) (by omega)]
    rw [e1, e2]
    simp only [bmap]
    rw [← ih (x / 256)]
    unfold h1
    omega
theorem step2 (k : Nat) : ∀ x, (x / 4 &&& rep 51 k) + (x &&& rep 51 k) = bmap h2 k x := by
  induction k with
  | zero => intro x; simp [rep, bmap]
  | succ k ih =>
    intro x
    have hx : x = 256 * (x / 256) + x % 256 := by omega
    have hx2 : x / 4 = 256 * (x / 256 / 4) + (64 * (x / 256 % 4) + x % 256 / 4) := by omega
    have e1 : x / 4 &&& rep 51 (k + 1) = 256 * (x / 256 / 4 &&& rep 51 k) + (x % 256 / 4 &&& 51) := by
      rw [hx2]; simp only [rep]; rw [and_split _ _ _ _ (by omega) (by omega), h2_shift _ (by omega) _ (by omega)]
    have e2 : x &&& rep 51 (k + 1) = 256 * (x / 256 &&& rep 51 k) + (x % 256 &&& 51) := by
      conv => lhs; rw [hx]
      simp only [rep]; rw [and_split _ _ _ _ (by omega) (by omega)]
    rw [e1, e2]
    simp only [bmap]
    rw [← ih (x / 256)]
    unfold h2
    omega
theorem bmap_bmap (g h : Nat → Nat) (hh : ∀ r, r < 256 → h r < 256) (k : Nat) : ∀ x, bmap g k (bmap h k x) = bmap (fun r => g (h r)) k x := by
  induction k with
  | zero => intro x; rfl
  | succ k ih =>
    intro x
    have hl := hh (x % 256) (by omega)
    simp only [bmap]
    rw [show (256 * bmap h k (x / 256) + h (x % 256)) / 256 = bmap h k (x / 256) from by omega, show (256 * bmap h k (x / 256) + h (x % 256)) % 256 = h (x % 256) from by omega, ih]
theorem bmap_low (h : Nat → Nat) (hm : ∀ r, r < 256 → h r % 16 ≤ 4) (k : Nat) (x : Nat) : bmap h k x % 16 ≤ 4 := by
  cases k with
  | zero => simp [bmap]
  | succ k => simp only [bmap]; have := hm (x % 256) (by omega); omega
theorem step3 (h : Nat → Nat) (hm : ∀ r, r < 256 → h r ≤ 68 ∧ h r % 16 ≤ 4) (k : Nat) : ∀ x, (bmap h k x / 16 + bmap h k x) &&& rep 15 k = bmap (fun r => h3 (h r)) k x := by
  induction k with
  | zero => intro x; simp [rep, bmap]
  | succ k ih =>
    intro x
    have hb := hm (x % 256) (by omega)
    have hlow := bmap_low h (fun r hr => (hm r hr).2) k (x / 256)
    simp only [bmap, rep]
    rw [← ih (x / 256)]
    generalize bmap h k (x / 256) = a at *
    generalize h (x % 256) = r at *
    have e : (256 * a + r) / 16 + (256 * a + r) = 256 * (a / 16 + a) + (16 * (a % 16) + r / 16 + r) := by omega
    rw [e, and_split _ _ _ _ (by omega) (by omega)]
    unfold h3
    rw [show (15 : Nat) = 2 ^ 4 - 1 from rfl, Nat.and_two_pow_sub_one_eq_mod, Nat.and_two_pow_sub_one_eq_mod]
    omega

/-- The whole way, of eight bytes. -/
theorem swar (x : Nat) :
    let a := (x / 2 &&& 6148914691236517205) + (x &&& 6148914691236517205)
    let b := (a / 4 &&& 3689348814741910323) + (a &&& 3689348814741910323)
    let c := (b / 16 + b) &&& 1085102592571150095
    a < 18446744073709551616 ∧ b < 18446744073709551616 ∧ b / 16 + b < 18446744073709551616 ∧ c = bmap (fun r => h3 (h2 (h1 r))) 8 x := by
  have e1 : (x / 2 &&& 6148914691236517205) + (x &&& 6148914691236517205) = bmap h1 8 x := step1 8 x
  have hz : ∀ {u d A B : Nat}, u ≤ A → d ≤ B → 256 * u + d ≤ 256 * A + B := by intro u d A B _ _; omega
  have lt8 : ∀ (g : Nat → Nat) (B : Nat), (∀ r, r < 256 → g r ≤ B) → bmap g 8 x ≤ 256 * (256 * (256 * (256 * (256 * (256 * (256 * (256 * 0 + B) + B) + B) + B) + B) + B) + B) + B := by
    intro g B hg
    simp only [bmap]
    have hm : ∀ y, g (y % 256) ≤ B := fun y => hg _ (Nat.mod_lt _ (by decide))
    exact hz (hz (hz (hz (hz (hz (hz (hz (Nat.le_refl 0) (hm _)) (hm _)) (hm _)) (hm _)) (hm _)) (hm _)) (hm _)) (hm _)
  have l1 := lt8 h1 255 (fun r hr => by have := h1_lt r hr; omega)
  have e2 : (bmap h1 8 x / 4 &&& 3689348814741910323) + (bmap h1 8 x &&& 3689348814741910323) = bmap (fun r => h2 (h1 r)) 8 x := by
    rw [← bmap_bmap h2 h1 h1_lt]; exact step2 8 _
  have l2 := lt8 (fun r => h2 (h1 r)) 68 (fun r hr => (h21_le r hr).1)
  have e3 := step3 (fun r => h2 (h1 r)) h21_le 8 x
  simp only []
  rw [e1, e2]
  refine ⟨by omega, by omega, by omega, e3⟩

theorem popTo_byte (x k : Nat) : popTo (fun j => (x / 2 ^ (8 * k) % 256).testBit j) 0 8 = popTo (fun j => x.testBit j) (8 * k) 8 :=
  popTo_congr 8 fun j hj => by
    rw [show (256 : Nat) = 2 ^ 8 from rfl, Nat.testBit_mod_two_pow, Nat.testBit_div_two_pow]
    simp [hj, Nat.add_comm]

theorem div_of {c K r m : Nat} (h : c = m * K + r) (hr : r < m) : c / m = K := by
  subst h
  rw [Nat.mul_add_div (by omega), Nat.div_eq_of_lt hr, Nat.add_zero]
theorem horner_le {u d B : Nat} (h : u ≤ B) (g : d ≤ 8) : 256 * u + d ≤ 256 * B + 8 := by omega
theorem c_bounds (c : Nat) (h : c ≤ 578721382704613384) :
    c + c / 256 < 1152921504606846976 ∧ (c + c / 256) + (c + c / 256) / 65536 < 1152921504606846976 ∧
      (c + c / 256) + (c + c / 256) / 65536 + ((c + c / 256) + (c + c / 256) / 65536) / 4294967296 < 1152921504606846976 := by
  generalize hq : c / 256 = q
  have : q ≤ c / 256 := by omega
  have hq' : q ≤ 2260630401189896 := by omega
  generalize hs : (c + q) / 65536 = s
  have hs' : s ≤ 9000000000000 := by omega
  generalize ht : (c + q + s) / 4294967296 = t
  have ht' : t ≤ 135400000 := by omega
  refine ⟨by omega, by omega, by omega⟩
theorem fold8 (d0 d1 d2 d3 d4 d5 d6 d7 c : Nat) (hsum : d0 + d1 + d2 + d3 + d4 + d5 + d6 + d7 < 128) (l1 : d0 < 256) (l2 : 256 * (d1 + d2) + (d0 + d1) < 65536)
    (l3 : 16777216 * (d3 + d4 + d5 + d6) + 65536 * (d2 + d3 + d4 + d5) + 256 * (d1 + d2 + d3 + d4) + (d0 + d1 + d2 + d3) < 4294967296)
    (hc : c = 256 * (256 * (256 * (256 * (256 * (256 * (256 * d7 + d6) + d5) + d4) + d3) + d2) + d1) + d0) :
      ((c + c / 256) + (c + c / 256) / 65536 + ((c + c / 256) + (c + c / 256) / 65536) / 4294967296) % 128 = d0 + d1 + d2 + d3 + d4 + d5 + d6 + d7 := by
  have a1 : c / 256 = 256 * (256 * (256 * (256 * (256 * (256 * d7 + d6) + d5) + d4) + d3) + d2) + d1 := div_of (r := d0) hc l1
  rw [a1]
  have b1 : c + (256 * (256 * (256 * (256 * (256 * (256 * d7 + d6) + d5) + d4) + d3) + d2) + d1) = 65536 * (256 * (256 * (256 * (256 * (256 * d7 + (d6 + d7)) + (d5 + d6)) + (d4 + d5)) + (d3 + d4)) + (d2 + d3)) + (256 * (d1 + d2) + (d0 + d1)) := by
    clear hsum l1 l2 l3 a1
    rw [hc]; omega
  have a2 := div_of b1 l2
  rw [a2, b1]
  have b2 : 65536 * (256 * (256 * (256 * (256 * (256 * d7 + (d6 + d7)) + (d5 + d6)) + (d4 + d5)) + (d3 + d4)) + (d2 + d3)) + (256 * (d1 + d2) + (d0 + d1)) + (256 * (256 * (256 * (256 * (256 * d7 + (d6 + d7)) + (d5 + d6)) + (d4 + d5)) + (d3 + d4)) + (d2 + d3)) =
      4294967296 * (256 * (256 * (256 * d7 + (d6 + d7)) + (d5 + d6 + d7)) + (d4 + d5 + d6 + d7)) + (16777216 * (d3 + d4 + d5 + d6) + 65536 * (d2 + d3 + d4 + d5) + 256 * (d1 + d2 + d3 + d4) + (d0 + d1 + d2 + d3)) := by
    clear hsum l1 l2 l3 a1 b1 a2 hc
    omega
  have a3 := div_of b2 l3
  rw [a3, b2]
  have b3 : 4294967296 * (256 * (256 * (256 * d7 + (d6 + d7)) + (d5 + d6 + d7)) + (d4 + d5 + d6 + d7)) + (16777216 * (d3 + d4 + d5 + d6) + 65536 * (d2 + d3 + d4 + d5) + 256 * (d1 + d2 + d3 + d4) + (d0 + d1 + d2 + d3)) + (256 * (256 * (256 * d7 + (d6 + d7)) + (d5 + d6 + d7)) + (d4 + d5 + d6 + d7)) =
      128 * (33554432 * (256 * (256 * (256 * d7 + (d6 + d7)) + (d5 + d6 + d7)) + (d4 + d5 + d6 + d7)) + (131072 * (d3 + d4 + d5 + d6) + 512 * (d2 + d3 + d4 + d5) + 2 * (d1 + d2 + d3 + d4)) + 2 * (256 * (256 * d7 + (d6 + d7)) + (d5 + d6 + d7))) + (d0 + d1 + d2 + d3 + d4 + d5 + d6 + d7) := by
    clear hsum l1 l2 l3 a1 b1 a2 hc a3 b2
    omega
  rw [b3, Nat.mul_add_mod, Nat.mod_eq_of_lt hsum]

/-- .. and its end: all the bits. -/
theorem swar_end (x c : Nat) (hc : c = bmap (fun r => h3 (h2 (h1 r))) 8 x) :
    c + c / 256 < 1152921504606846976 ∧ (c + c / 256) + (c + c / 256) / 65536 < 1152921504606846976 ∧
      (c + c / 256) + (c + c / 256) / 65536 + ((c + c / 256) + (c + c / 256) / 65536) / 4294967296 < 1152921504606846976 ∧
      ((c + c / 256) + (c + c / 256) / 65536 + ((c + c / 256) + (c + c / 256) / 65536) / 4294967296) % 128 = popTo (fun j => x.testBit j) 0 64 := by
  have p : ∀ r, r < 256 → h3 (h2 (h1 r)) ≤ 8 := fun r hr => by rw [h321 r hr]; exact popTo_le _ _ _
  have q : ∀ k, h3 (h2 (h1 (x / 2 ^ (8 * k) % 256))) = popTo (fun j => x.testBit j) (8 * k) 8 := fun k => by rw [h321 _ (by omega), popTo_byte]
  have hc' := hc
  simp only [bmap, Nat.div_div_eq_div_mul] at hc'
  have q0 := q 0; have q1 := q 1; have q2 := q 2; have q3 := q 3; have q4 := q 4; have q5 := q 5; have q6 := q 6; have q7 := q 7
  simp only [Nat.reduceMul, Nat.reducePow, Nat.div_one] at q0 q1 q2 q3 q4 q5 q6 q7
  simp only [Nat.reduceMul, Nat.mul_zero, Nat.zero_add] at hc'
  rw [q0, q1, q2, q3, q4, q5, q6, q7] at hc'
  have g0 := popTo_le (fun j => x.testBit j) 0 8; have g1 := popTo_le (fun j => x.testBit j) 8 8; have g2 := popTo_le (fun j => x.testBit j) 16 8; have g3 := popTo_le (fun j => x.testBit j) 24 8
  have g4 := popTo_le (fun j => x.testBit j) 32 8; have g5 := popTo_le (fun j => x.testBit j) 40 8; have g6 := popTo_le (fun j => x.testBit j) 48 8; have g7 := popTo_le (fun j => x.testBit j) 56 8
  have hall : popTo (fun j => x.testBit j) 0 64 = popTo (fun j => x.testBit j) 0 8 + popTo (fun j => x.testBit j) 8 8 + popTo (fun j => x.testBit j) 16 8 + popTo (fun j => x.testBit j) 24 8 + popTo (fun j => x.testBit j) 32 8 + popTo (fun j => x.testBit j) 40 8 + popTo (fun j => x.testBit j) 48 8 + popTo (fun j => x.testBit j) 56 8 := by
    have s1 := popTo_add (fun j => x.testBit j) 0 8 56
    have s2 := popTo_add (fun j => x.testBit j) 8 8 48
    have s3 := popTo_add (fun j => x.testBit j) 16 8 40
    have s4 := popTo_add (fun j => x.testBit j) 24 8 32
    have s5 := popTo_add (fun j => x.testBit j) 32 8 24
    have s6 := popTo_add (fun j => x.testBit j) 40 8 16
    have s7 := popTo_add (fun j => x.testBit j) 48 8 8
    simp only [Nat.reduceAdd] at s1 s2 s3 s4 s5 s6 s7
    rw [s1, s2, s3, s4, s5, s6, s7]
    simp only [Nat.add_assoc]
  rw [hall]
  clear hall q q0 q1 q2 q3 q4 q5 q6 q7 p hc
  generalize popTo (fun j => x.testBit j) 0 8 = d0 at *
  generalize popTo (fun j => x.testBit j) 8 8 = d1 at *
  generalize popTo (fun j => x.testBit j) 16 8 = d2 at *
  generalize popTo (fun j => x.testBit j) 24 8 = d3 at *
  generalize popTo (fun j => x.testBit j) 32 8 = d4 at *
  generalize popTo (fun j => x.testBit j) 40 8 = d5 at *
  generalize popTo (fun j => x.testBit j) 48 8 = d6 at *
  generalize popTo (fun j => x.testBit j) 56 8 = d7 at *
  have hc2 : c = 256 * (256 * (256 * (256 * (256 * (256 * (256 * d7 + d6) + d5) + d4) + d3) + d2) + d1) + d0 := hc'
  have hB : c ≤ 578721382704613384 := by
    rw [hc2]
    exact horner_le (horner_le (horner_le (horner_le (horner_le (horner_le (horner_le (B := 8) g7 g6) g5) g4) g3) g2) g1) g0
  have b := c_bounds c hB
  refine ⟨b.1, b.2.1, b.2.2, fold8 d0 d1 d2 d3 d4 d5 d6 d7 c ?_ ?_ ?_ ?_ hc2⟩
  · clear hc' hc2 hB b; omega
  · clear hc' hc2 hB b; omega
  · clear hc' hc2 hB b; omega
  · clear hc' hc2 hB b; omega

theorem popTo_wd (f : Nat → Bool) (i : Nat) : popTo (fun j => (wd f i).testBit j) 0 64 = popTo f (64 * i) 64 :=
  popTo_congr 64 fun j hj => by rw [Nat.zero_add, wd_testBit]; simp [hj]

end Go.Proofs.Ytepegohopgnmnaa

namespace Go.Proofs.Ytepegohopgnmnaa
open Go.RowKit

/-- The numbers on the way of OnesCount64. -/
theorem ones_steps (x : Nat) (hx : x < 18446744073709551616) : ∃ a b c d e g : Nat,
    IntKind.u64.wrap (bits .and .u64 ((x : Int) / 2) 6148914691236517205 + bits .and .u64 (x : Int) 6148914691236517205) = (a : Int) ∧
    IntKind.u64.wrap (bits .and .u64 ((a : Int) / 4) 3689348814741910323 + bits .and .u64 (a : Int) 3689348814741910323) = (b : Int) ∧
    bits .and .u64 (IntKind.u64.wrap ((b : Int) / 16 + (b : Int))) 1085102592571150095 = (c : Int) ∧
    IntKind.u64.wrap ((c : Int) + (c : Int) / 256) = (d : Int) ∧ IntKind.u64.wrap ((d : Int) + (d : Int) / 65536) = (e : Int) ∧
    IntKind.u64.wrap ((e : Int) + (e : Int) / 4294967296) = (g : Int) ∧ g < 1152921504606846976 ∧ g % 128 = popTo (fun j => x.testBit j) 0 64 := by
  have s := swar x
  simp only [] at s
  obtain ⟨s1, s2, s3, s4⟩ := s
  have en := swar_end x _ s4
  have andn : ∀ (y m : Nat), y < 18446744073709551616 → m < 18446744073709551616 → bits .and .u64 (y : Int) (m : Int) = ((y &&& m : Nat) : Int) := fun y m => bits_and_u64_nat y m
  have wr : ∀ y : Nat, y < 18446744073709551616 → IntKind.u64.wrap (y : Int) = (y : Int) := fun y hy => by rw [IntKind.wrap_u64]; omega
  have dv : ∀ (y m : Nat), ((y : Int) / (m : Int)) = ((y / m : Nat) : Int) := fun y m => by simp
  generalize ha : (x / 2 &&& 6148914691236517205) + (x &&& 6148914691236517205) = a at *
  generalize hb : (a / 4 &&& 3689348814741910323) + (a &&& 3689348814741910323) = b at *
  generalize hc : (b / 16 + b) &&& 1085102592571150095 = c at *
  obtain ⟨e1, e2, e3, e4⟩ := en
  refine ⟨a, b, c, c + c / 256, c + c / 256 + (c + c / 256) / 65536, c + c / 256 + (c + c / 256) / 65536 + (c + c / 256 + (c + c / 256) / 65536) / 4294967296, ?_, ?_, ?_, ?_, ?_, ?_, e3, e4⟩
  · rw [show ((x : Int) / 2) = ((x / 2 : Nat) : Int) from dv x 2, show (6148914691236517205 : Int) = ((6148914691236517205 : Nat) : Int) from rfl, andn _ _ (by omega) (by omega), andn _ _ hx (by omega), ← Int.natCast_add, ha, wr _ s1]
  · rw [show ((a : Int) / 4) = ((a / 4 : Nat) : Int) from dv a 4, show (3689348814741910323 : Int) = ((3689348814741910323 : Nat) : Int) from rfl, andn _ _ (by omega) (by omega), andn _ _ s1 (by omega), ← Int.natCast_add, hb, wr _ s2]
  · rw [show ((b : Int) / 16) = ((b / 16 : Nat) : Int) from dv b 16, show (1085102592571150095 : Int) = ((1085102592571150095 : Nat) : Int) from rfl, ← Int.natCast_add, wr _ s3, andn _ _ s3 (by omega), hc]
  · rw [show ((c : Int) / 256) = ((c / 256 : Nat) : Int) from dv c 256, ← Int.natCast_add, wr _ (by omega)]
  · generalize c + c / 256 = d at *
    rw [show ((d : Int) / 65536) = ((d / 65536 : Nat) : Int) from dv d 65536, ← Int.natCast_add, wr _ (by omega)]
  · generalize c + c / 256 + (c + c / 256) / 65536 = d at *
    rw [show ((d : Int) / 4294967296) = ((d / 4294967296 : Nat) : Int) from dv d 4294967296, ← Int.natCast_add, wr _ (by omega)]

end Go.Proofs.Ytepegohopgnmnaa

namespace Go.Proofs.Ytepegohopgnmnaa
open Go.RowKit

/-- Facts as a value, its words closed. -/
@[reducible] def fxr (nv : Bool) (ls ms x0 x1 x2 x3 : Int) (e : Bool) : Value := .agg #[.bool nv, .int .i64 ls, .int .i64 ms, .int .u64 x0, .int .u64 x1, .int .u64 x2, .int .u64 x3, .bool e]
def fxv (a : Fx) (e : Bool) : Value := fxr a.nv a.ls a.ms (wd a.fi 0 : Int) (wd a.fi 1 : Int) (wd a.fi 2 : Int) (wd a.fi 3 : Int) e
/-- Eight cells stored. -/
def set87 (w : World) (c : Nat) (nv : Bool) (ls ms x0 x1 x2 x3 : Int) (e : Bool) : World :=
  (((((((w.setCell ⟨c, 0, none⟩ (.bool nv)).setCell ⟨c, 1, none⟩ (.int .i64 ls)).setCell ⟨c, 2, none⟩ (.int .i64 ms)).setCell ⟨c, 3, none⟩ (.int .u64 x0)).setCell ⟨c, 4, none⟩ (.int .u64 x1)).setCell ⟨c, 5, none⟩ (.int .u64 x2)).setCell ⟨c, 6, none⟩ (.int .u64 x3)).setCell ⟨c, 7, none⟩ (.bool e)
theorem below_set87 {B : Nat} {a w : World} {c : Nat} (h : Below B a w) (hc : B ≤ c) (nv : Bool) (ls ms x0 x1 x2 x3 : Int) (e : Bool) : Below B a (set87 w c nv ls ms x0 x1 x2 x3 e) :=
  (((((((h.setCell hc _).setCell hc _).setCell hc _).setCell hc _).setCell hc _).setCell hc _).setCell hc _).setCell hc _

theorem below_st8 {B : Nat} {a w : World} {c : Nat} (h : Below B a w) (hc : B ≤ c) (nv : Bool) (ls ms x0 x1 x2 x3 : Int) (e : Bool) : Below B a
    ((((((((w.setCell ⟨c, 0, none⟩ (.bool nv)).setCell ⟨c, 1, none⟩ (.int .i64 ls)).setCell ⟨c, 2, none⟩ (.int .i64 ms)).setCell ⟨c, 3, none⟩ (.int .u64 x0)).setCell ⟨c, 4, none⟩ (.int .u64 x1)).setCell ⟨c, 5, none⟩ (.int .u64 x2)).setCell ⟨c, 6, none⟩ (.int .u64 x3)).setCell ⟨c, 7, none⟩ (.bool e)) := below_set87 h hc nv ls ms x0 x1 x2 x3 e

theorem catmost_any (n : Int) (w : World) : Calls Try.prog 73 #[.int .i64 n] w fun e w' => e = .returned (.int .i64 (cap20 n)) ∧ w' = w := by
  rcases Int.lt_or_le 1048576 n with h | h
  · have HM : Hid (cap20 n = 1048576) := Lib.hid (by unfold cap20; omega)
    have x1 : min n 1048576 = 1048576 := by omega
    have x2 : ¬ (n ≤ 1048576) := by omega
    go_enter Try.func73, Try.ntmps73
    go_wp2
    go_returns
    exact ⟨by rw [HM.out] <;> rfl, rfl⟩
  · have HM : Hid (cap20 n = n) := Lib.hid (by unfold cap20; omega)
    have x1 : min n 1048576 = n := by omega
    go_enter Try.func73, Try.ntmps73
    go_wp2
    go_returns
    exact ⟨by rw [HM.out] <;> rfl, rfl⟩

theorem min_run (p q : Int) (t : TypeId) (w : World) : (Builtin.min_ #[3, 3] t #[.int .i64 p, .int .i64 q]).run Try.prog w = .ok (.int .i64 (if q < p then q else p)) w := by
  unfold Builtin.min_
  simp [go_sem, Builtin.min2]
theorem wp_min7 {o : Oper} {a : Act} {w : World} {K : Act → World → Prop} {Q : Exit → Act → World → Prop} (x y : Operand) (ho : o.op = .call { callee := .builtin .min, args := #[x, y], argTypes := #[3, 3] })
    (p q L : Int) (hx : a.eval x = .int .i64 p) (hy : a.eval y = .int .i64 q) (hL : (if q < p then q else p) = L)
    (h : K (a.put o.dst (.int .i64 L)) w) : Oper.wp Try.prog o a w K Q := by
  have hr := min_run p q o.type w
  rw [hL] at hr
  unfold Oper.wp execOp
  simp only [ho]
  generalize a.eval = ev at *
  simp [go_sem, hx, hy, hr]
  exact h
theorem max_run (p q : Int) (t : TypeId) (w : World) : (Builtin.max_ #[3, 3] t #[.int .i64 p, .int .i64 q]).run Try.prog w = .ok (.int .i64 (if p < q then q else p)) w := by
  unfold Builtin.max_
  simp [go_sem, Builtin.max2]
theorem wp_max7 {o : Oper} {a : Act} {w : World} {K : Act → World → Prop} {Q : Exit → Act → World → Prop} (x y : Operand) (ho : o.op = .call { callee := .builtin .max, args := #[x, y], argTypes := #[3, 3] })
    (p q L : Int) (hx : a.eval x = .int .i64 p) (hy : a.eval y = .int .i64 q) (hL : (if p < q then q else p) = L)
    (h : K (a.put o.dst (.int .i64 L)) w) : Oper.wp Try.prog o a w K Q := by
  have hr := max_run p q o.type w
  rw [hL] at hr
  unfold Oper.wp execOp
  simp only [ho]
  generalize a.eval = ev at *
  simp [go_sem, hx, hy, hr]
  exact h

theorem pop_none {f : Nat → Bool} {b n : Nat} : popTo f b n = 0 ↔ ∀ j, j < n → f (b + j) = false := by
  induction n with
  | zero => exact ⟨fun _ j hj => absurd hj (Nat.not_lt_zero _), fun _ => rfl⟩
  | succ n ih =>
    simp only [popTo]
    constructor
    · intro h j hj
      rcases Nat.lt_or_ge j n with h1 | h1
      · exact ih.1 (by omega) j h1
      · obtain rfl : j = n := by omega
        cases hc : f (b + j) with
        | false => rfl
        | true => rw [hc] at h; simp at h
    · intro h
      rw [ih.2 fun j hj => h j (by omega), h n (by omega)]
      rfl
/-- What a set tells. -/
def oneX (f : Nat → Bool) : Fx := if popTo f 0 256 = 0 then fxN else ⟨false, 1, 1, f⟩
theorem wd_zero7 {f : Nat → Bool} {i : Nat} (h : wd f i = 0) (j : Nat) (hj : j < 64) : f (64 * i + j) = false := by
  have := wd_testBit f i j
  rw [h, decide_eq_true hj, Nat.zero_testBit] at this
  simpa using this.symm
theorem oneX_leaf {x : Nd} (hk : x.k = 1) (hw : okW x) : oneX (fOf x) = leafX x := by
  unfold oneX leafX
  rw [if_pos hk]
  obtain ⟨e0, e1, e2, e3⟩ := fOf_wd hw
  by_cases h : x.a = 0 ∧ x.b = 0 ∧ x.c = 0 ∧ x.d = 0
  · rw [if_pos h, if_pos (pop_none.2 fun j _ => fOf_none h _)]
  · rw [if_neg h, if_neg]
    intro hp
    have hp := pop_none.1 hp
    apply h
    have z : ∀ i, i < 4 → wd (fOf x) i = 0 := fun i hi => word_none _ i fun j hj => by
      have := hp (64 * i + j) (by omega)
      rwa [Nat.zero_add] at this
    rw [e0, e1, e2, e3, z 0 (by decide), z 1 (by decide), z 2 (by decide), z 3 (by decide)]
    exact ⟨rfl, rfl, rfl, rfl⟩
theorem none_wd7 (i : Nat) : wd (fun _ => false) i = 0 := word_none _ i fun _ _ => rfl
theorem fxv_nv (e : Bool) : fxv fxN e = fxr true 0 0 0 0 0 0 e := by
  simp only [fxv, fxN, none_wd7]; rfl
theorem fxv_zero (e : Bool) : fxv fx0 e = fxr false 0 0 0 0 0 0 e := by
  simp only [fxv, fx0, none_wd7]; rfl

end Go.Proofs.Ytepegohopgnmnaa

namespace Go.Proofs.Ytepegohopgnmnaa
open Go.RowKit

def bdX (a : Fx) : Prop := (0 ≤ a.ls ∧ a.ls ≤ 1048576) ∧ (-1 ≤ a.ms ∧ a.ms ≤ 1048576)
end Go.Proofs.Ytepegohopgnmnaa

namespace Go.Proofs.Ytepegohopgnmnaa
open Go.RowKit

/-- What a length may be. -/
def canX (nv : Bool) (ls ms n : Int) : Bool := !nv && decide (ls ≤ n) && (decide (ms < 0) || decide (n ≤ ms))
end Go.Proofs.Ytepegohopgnmnaa

namespace Go.Proofs.Ytepegohopgnmnaa
open Go.RowKit

theorem cap_bd {n : Int} (h : -1 ≤ n) : -1 ≤ cap20 n ∧ cap20 n ≤ 1048576 := by unfold cap20; omega
theorem cap_bd0 {n : Int} (h : 0 ≤ n) : 0 ≤ cap20 n ∧ cap20 n ≤ 1048576 := by unfold cap20; omega
theorem min_bd {a b : Int} (h1 : 0 ≤ a) (h2 : 0 ≤ b) (h3 : a ≤ 1048576) : 0 ≤ min a b ∧ min a b ≤ 1048576 := by omega
theorem max_bd {a b : Int} (h1 : -1 ≤ a) (h2 : a ≤ 1048576) (h3 : b ≤ 1048576) : -1 ≤ max a b ∧ max a b ≤ 1048576 := by omega
theorem bdX_T : ∀ t, okT t → bdX (fxT t)
  | .leaf x, _ => by
    show bdX (leafX x)
    unfold leafX bdX
    split
    · split
      · exact ⟨⟨Int.le_refl _, show (0 : Int) ≤ 1048576 by decide⟩, show (-1 : Int) ≤ 0 by decide, show (0 : Int) ≤ 1048576 by decide⟩
      · exact ⟨⟨show (0 : Int) ≤ 1 by decide, show (1 : Int) ≤ 1048576 by decide⟩, show (-1 : Int) ≤ 1 by decide, show (1 : Int) ≤ 1048576 by decide⟩
    · exact ⟨⟨Int.le_refl _, show (0 : Int) ≤ 1048576 by decide⟩, show (-1 : Int) ≤ 0 by decide, show (0 : Int) ≤ 1048576 by decide⟩
  | .cat a b, h => by
    obtain ⟨⟨a1, a2⟩, a3, a4⟩ := bdX_T a h.1
    obtain ⟨⟨b1, b2⟩, b3, b4⟩ := bdX_T b h.2
    show bdX (catX (fxT a) (fxT b))
    unfold catX bdX
    split
    · exact ⟨⟨Int.le_refl _, show (0 : Int) ≤ 1048576 by decide⟩, show (-1 : Int) ≤ 0 by decide, show (0 : Int) ≤ 1048576 by decide⟩
    · refine ⟨?_, ?_⟩
      · exact cap_bd0 (by omega)
      · show -1 ≤ (if _ then _ else _) ∧ (if _ then _ else _) ≤ _
        split
        · exact ⟨Int.le_refl _, by decide⟩
        · exact cap_bd (by omega)
  | .or a b, h => by
    have ha := bdX_T a h.1
    have hb := bdX_T b h.2
    show bdX (orX (fxT a) (fxT b))
    unfold orX
    split
    · exact hb
    · split
      · exact ha
      · obtain ⟨⟨a1, a2⟩, a3, a4⟩ := ha
        obtain ⟨⟨b1, b2⟩, b3, b4⟩ := hb
        refine ⟨?_, ?_⟩
        · exact min_bd a1 b1 a2
        · show -1 ≤ (if _ then _ else _) ∧ (if _ then _ else _) ≤ _
          split
          · exact ⟨Int.le_refl _, by decide⟩
          · exact max_bd a3 a4 b4
  | .rep a lo hi, h => by
    obtain ⟨⟨a1, a2⟩, a3, a4⟩ := bdX_T a h.1
    have h1 := h.2.1
    show bdX (repX lo hi (fxT a))
    unfold repX
    split
    · exact ⟨⟨Int.le_refl _, show (0 : Int) ≤ 1048576 by decide⟩, show (-1 : Int) ≤ 0 by decide, show (0 : Int) ≤ 1048576 by decide⟩
    · split
      · exact ⟨⟨Int.le_refl _, show (0 : Int) ≤ 1048576 by decide⟩, show (-1 : Int) ≤ 0 by decide, show (0 : Int) ≤ 1048576 by decide⟩
      · refine ⟨?_, ?_⟩
        · have := Int.mul_nonneg h1 a1
          exact cap_bd0 this
        · show -1 ≤ (if _ then _ else _) ∧ (if _ then _ else _) ≤ _
          split
          · exact ⟨Int.le_refl _, by decide⟩
          · split
            · rename_i hn hp
              have : 0 ≤ hi * (fxT a).ms := Int.mul_nonneg (Int.le_of_lt hp) (by omega)
              exact cap_bd (by omega)
            · exact ⟨by decide, by decide⟩
theorem fxv_mk {a : Fx} {nv : Bool} {ls ms : Int} {fi : Nat → Bool} (h : a = ⟨nv, ls, ms, fi⟩) (e : Bool) : fxv a e = fxr nv ls ms (wd fi 0 : Int) (wd fi 1 : Int) (wd fi 2 : Int) (wd fi 3 : Int) e := by subst h; rfl

theorem mul_bd {x y : Int} (h0 : 0 ≤ x) (h1 : x ≤ 32) (h2 : 0 ≤ y) (h3 : y ≤ 1048577) : 0 ≤ x * y ∧ x * y ≤ 33554464 := by
  have m1 := Int.mul_nonneg h0 h2
  have m2 := Int.mul_le_mul h1 h3 h2 (by decide : (0 : Int) ≤ 32)
  omega
end Go.Proofs.Ytepegohopgnmnaa
