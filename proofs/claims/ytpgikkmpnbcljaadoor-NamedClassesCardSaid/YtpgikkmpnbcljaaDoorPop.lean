/-
  How many bits of a word are set: the way of math/bits.OnesCount64, in plain numbers.
-/
import Derived.Test.YtpgikkmpnbcljaaDoorBits
namespace Go.Proofs.YtpgikkmpnbcljaaDoor

/-- How many of f b .. f (b + n - 1) are true. -/
def popTo (f : Nat → Bool) (b : Nat) : Nat → Nat
  | 0 => 0
  | n + 1 => popTo f b n + if f (b + n) = true then 1 else 0
theorem popTo_add (f : Nat → Bool) (b m n : Nat) : popTo f b (m + n) = popTo f b m + popTo f (b + m) n := by
  induction n with
  | zero => simp [popTo]
  | succ n ih =>
    rw [← Nat.add_assoc]
    simp only [popTo]
    rw [ih, Nat.add_assoc b m n]
    omega
theorem popTo_congr {f g : Nat → Bool} {b c : Nat} (n : Nat) (h : ∀ j, j < n → f (b + j) = g (c + j)) : popTo f b n = popTo g c n := by
  induction n with
  | zero => rfl
  | succ n ih => simp only [popTo]; rw [ih (fun j hj => h j (by omega)), h n (by omega)]
theorem popTo_le (f : Nat → Bool) (b n : Nat) : popTo f b n ≤ n := by
  induction n with
  | zero => simp [popTo]
  | succ n ih => simp only [popTo]; split <;> omega
theorem popTo_or_and (f g : Nat → Bool) (b n : Nat) : popTo f b n + popTo g b n = popTo (fun k => f k || g k) b n + popTo (fun k => f k && g k) b n := by
  induction n with
  | zero => rfl
  | succ n ih =>
    simp only [popTo]
    rcases Bool.eq_false_or_eq_true (f (b + n)) with hf | hf <;> rcases Bool.eq_false_or_eq_true (g (b + n)) with hg | hg <;> simp [hf, hg] <;> omega

/-- k bytes, each c. -/
def rep (c : Nat) : Nat → Nat
  | 0 => 0
  | k + 1 => 256 * rep c k + c
/-- g of each of the k lowest bytes. -/
def bmap (g : Nat → Nat) : Nat → Nat → Nat
  | 0, _ => 0
  | k + 1, x => 256 * bmap g k (x / 256) + g (x % 256)

theorem and_split (a b r s : Nat) (hr : r < 256) (hs : s < 256) : (256 * a + r) &&& (256 * b + s) = 256 * (a &&& b) + (r &&& s) := by
  have hrs : r &&& s < 2 ^ 8 := Nat.and_lt_two_pow _ hs
  apply Nat.eq_of_testBit_eq
  intro j
  rw [show (256 : Nat) = 2 ^ 8 from rfl, Nat.testBit_and, Nat.testBit_two_pow_mul_add a hr, Nat.testBit_two_pow_mul_add b hs, Nat.testBit_two_pow_mul_add _ hrs]
  split <;> simp [Nat.testBit_and]

def h1 (x : Nat) : Nat := (x / 2 &&& 85) + (x &&& 85)
def h2 (x : Nat) : Nat := (x / 4 &&& 51) + (x &&& 51)
def h3 (x : Nat) : Nat := (x / 16 + x) &&& 15

theorem h1_shift : ∀ r, r < 256 → ∀ t, t < 2 → (128 * t + r / 2) &&& 85 = r / 2 &&& 85 := by decide +kernel
theorem h2_shift : ∀ r, r < 256 → ∀ t, t < 4 → (64 * t + r / 4) &&& 51 = r / 4 &&& 51 := by decide +kernel
theorem h1_lt : ∀ r, r < 256 → h1 r < 256 := by decide +kernel
theorem h21_le : ∀ r, r < 256 → h2 (h1 r) ≤ 68 ∧ h2 (h1 r) % 16 ≤ 4 := by decide +kernel
theorem h321 : ∀ r, r < 256 → h3 (h2 (h1 r)) = popTo (fun j => r.testBit j) 0 8 := by decide +kernel

theorem step1 (k : Nat) : ∀ x, (x / 2 &&& rep 85 k) + (x &&& rep 85 k) = bmap h1 k x := by
  induction k with
  | zero => intro x; simp [rep, bmap]
  | succ k ih =>
    intro x
    have hx : x = 256 * (x / 256) + x % 256 := by omega
    have hx2 : x / 2 = 256 * (x / 256 / 2) + (128 * (x / 256 % 2) + x % 256 / 2) := by omega
    have e1 : x / 2 &&& rep 85 (k + 1) = 256 * (x / 256 / 2 &&& rep 85 k) + (x % 256 / 2 &&& 85) := by
      rw [hx2]; simp only [rep]; rw [and_split _ _ _ _ (by omega) (by omega), h1_shift _ (by omega) _ (by omega)]
    have e2 : x &&& rep 85 (k + 1) = 256 * (x / 256 &&& rep 85 k) + (x % 256 &&& 85) := by
      conv => lhs; rw [hx]
      simp only [rep]; rw [and_split _ _ _ _ (by omega) (by omega)]
    rw [e1, e2]
    simp only [bmap]
    rw [← ih (x / 256)]
    unfold h1
    omega
theorem step2 (k : Nat) : ∀ x, (x / 4 &&& rep 51 k) + (x &&& rep 51 k) = bmap h2 k x := by
  induction k with
  | zero => intro x; simp [rep, bmap]
  | succ k ih =>
    intro x
    have hx : x = 256 * (x / 256) + x % 256 := by omega
    have hx2 : x / 4 = 256 * (x / 256 / 4) + (64 * (x / 256 % 4) + x % 256 / 4) := by omega
    have e1 : x / 4 &&& rep 51 (k + 1) = 256 * (x / 256 / 4 &&& rep 51 k) + (x % 256 / 4 &&& 51) := by
      rw [hx2]; simp only [rep]; rw [and_split _ _ _ _ (by omega) (by omega), h2_shift _ (by omega) _ (by omega)]
    have e2 : x &&& rep 51 (k + 1) = 256 * (x / 256 &&& rep 51 k) + (x % 256 &&& 51) := by
      conv => lhs; rw [hx]
      simp only [rep]; rw [and_split _ _ _ _ (by omega) (by omega)]
    rw [e1, e2]
    simp only [bmap]
    rw [← ih (x / 256)]
    unfold h2
    omega
theorem bmap_bmap (g h : Nat → Nat) (hh : ∀ r, r < 256 → h r < 256) (k : Nat) : ∀ x, bmap g k (bmap h k x) = bmap (fun r => g (h r)) k x := by
  induction k with
  | zero => intro x; rfl
  | succ k ih =>
    intro x
    have hl := hh (x % 256) (by omega)
    simp only [bmap]
    rw [show (256 * bmap h k (x / 256) + h (x % 256)) / 256 = bmap h k (x / 256) from by omega, show (256 * bmap h k (x / 256) + h (x % 256)) % 256 = h (x % 256) from by omega, ih]
theorem bmap_low (h : Nat → Nat) (hm : ∀ r, r < 256 → h r % 16 ≤ 4) (k : Nat) (x : Nat) : bmap h k x % 16 ≤ 4 := by
  cases k with
  | zero => simp [bmap]
  | succ k => simp only [bmap]; have := hm (x % 256) (by omega); omega
theorem step3 (h : Nat → Nat) (hm : ∀ r, r < 256 → h r ≤ 68 ∧ h r % 16 ≤ 4) (k : Nat) : ∀ x, (bmap h k x / 16 + bmap h k x) &&& rep 15 k = bmap (fun r => h3 (h r)) k x := by
  induction k with
  | zero => intro x; simp [rep, bmap]
  | succ k ih =>
    intro x
    have hb := hm (x % 256) (by omega)
    have hlow := bmap_low h (fun r hr => (hm r hr).2) k (x / 256)
    simp only [bmap, rep]
    rw [← ih (x / 256)]
    generalize bmap h k (x / 256) = a at *
    generalize h (x % 256) = r at *
    have e : (256 * a + r) / 16 + (256 * a + r) = 256 * (a / 16 + a) + (16 * (a % 16) + r / 16 + r) := by omega
    rw [e, and_split _ _ _ _ (by omega) (by omega)]
    unfold h3
    rw [show (15 : Nat) = 2 ^ 4 - 1 from rfl, Nat.and_two_pow_sub_one_eq_mod, Nat.and_two_pow_sub_one_eq_mod]
    omega

/-- The whole way, of eight bytes. -/
theorem swar (x : Nat) :
    let a := (x / 2 &&& 6148914691236517205) + (x &&& 6148914691236517205)
    let b := (a / 4 &&& 3689348814741910323) + (a &&& 3689348814741910323)
    let c := (b / 16 + b) &&& 1085102592571150095
    a < 18446744073709551616 ∧ b < 18446744073709551616 ∧ b / 16 + b < 18446744073709551616 ∧ c = bmap (fun r => h3 (h2 (h1 r))) 8 x := by
  have e1 : (x / 2 &&& 6148914691236517205) + (x &&& 6148914691236517205) = bmap h1 8 x := step1 8 x
  have hz : ∀ {u d A B : Nat}, u ≤ A → d ≤ B → 256 * u + d ≤ 256 * A + B := by intro u d A B _ _; omega
  have lt8 : ∀ (g : Nat → Nat) (B : Nat), (∀ r, r < 256 → g r ≤ B) → bmap g 8 x ≤ 256 * (256 * (256 * (256 * (256 * (256 * (256 * (256 * 0 + B) + B) + B) + B) + B) + B) + B) + B := by
    intro g B hg
    simp only [bmap]
    have hm : ∀ y, g (y % 256) ≤ B := fun y => hg _ (Nat.mod_lt _ (by decide))
    exact hz (hz (hz (hz (hz (hz (hz (hz (Nat.le_refl 0) (hm _)) (hm _)) (hm _)) (hm _)) (hm _)) (hm _)) (hm _)) (hm _)
  have l1 := lt8 h1 255 (fun r hr => by have := h1_lt r hr; omega)
  have e2 : (bmap h1 8 x / 4 &&& 3689348814741910323) + (bmap h1 8 x &&& 3689348814741910323) = bmap (fun r => h2 (h1 r)) 8 x := by
    rw [← bmap_bmap h2 h1 h1_lt]; exact step2 8 _
  have l2 := lt8 (fun r => h2 (h1 r)) 68 (fun r hr => (h21_le r hr).1)
  have e3 := step3 (fun r => h2 (h1 r)) h21_le 8 x
  simp only []
  rw [e1, e2]
  refine ⟨by omega, by omega, by omega, e3⟩

theorem popTo_byte (x k : Nat) : popTo (fun j => (x / 2 ^ (8 * k) % 256).testBit j) 0 8 = popTo (fun j => x.testBit j) (8 * k) 8 :=
  popTo_congr 8 fun j hj => by
    rw [show (256 : Nat) = 2 ^ 8 from rfl, Nat.testBit_mod_two_pow, Nat.testBit_div_two_pow]
    simp [hj, Nat.add_comm]

theorem div_of {c K r m : Nat} (h : c = m * K + r) (hr : r < m) : c / m = K := by
  subst h
  rw [Nat.mul_add_div (by omega), Nat.div_eq_of_lt hr, Nat.add_zero]
theorem horner_le {u d B : Nat} (h : u ≤ B) (g : d ≤ 8) : 256 * u + d ≤ 256 * B + 8 := by omega
theorem c_bounds (c : Nat) (h : c ≤ 578721382704613384) :
    c + c / 256 < 1152921504606846976 ∧ (c + c / 256) + (c + c / 256) / 65536 < 1152921504606846976 ∧
      (c + c / 256) + (c + c / 256) / 65536 + ((c + c / 256) + (c + c / 256) / 65536) / 4294967296 < 1152921504606846976 := by
  generalize hq : c / 256 = q
  have : q ≤ c / 256 := by omega
  have hq' : q ≤ 2260630401189896 := by omega
  generalize hs : (c + q) / 65536 = s
  have hs' : s ≤ 9000000000000 := by omega
  generalize ht : (c + q + s) / 4294967296 = t
  have ht' : t ≤ 135400000 := by omega
  refine ⟨by omega, by omega, by omega⟩
theorem fold8 (d0 d1 d2 d3 d4 d5 d6 d7 c : Nat) (hsum : d0 + d1 + d2 + d3 + d4 + d5 + d6 + d7 < 128) (l1 : d0 < 256) (l2 : 256 * (d1 + d2) + (d0 + d1) < 65536)
    (l3 : 16777216 * (d3 + d4 + d5 + d6) + 65536 * (d2 + d3 + d4 + d5) + 256 * (d1 + d2 + d3 + d4) + (d0 + d1 + d2 + d3) < 4294967296)
    (hc : c = 256 * (256 * (256 * (256 * (256 * (256 * (256 * d7 + d6) + d5) + d4) + d3) + d2) + d1) + d0) :
      ((c + c / 256) + (c + c / 256) / 65536 + ((c + c / 256) + (c + c / 256) / 65536) / 4294967296) % 128 = d0 + d1 + d2 + d3 + d4 + d5 + d6 + d7 := by
  have a1 : c / 256 = 256 * (256 * (256 * (256 * (256 * (256 * d7 + d6) + d5) + d4) + d3) + d2) + d1 := div_of (r := d0) hc l1
  rw [a1]
  have b1 : c + (256 * (256 * (256 * (256 * (256 * (256 * d7 + d6) + d5) + d4) + d3) + d2) + d1) = 65536 * (256 * (256 * (256 * (256 * (256 * d7 + (d6 + d7)) + (d5 + d6)) + (d4 + d5)) + (d3 + d4)) + (d2 + d3)) + (256 * (d1 + d2) + (d0 + d1)) := by
    clear hsum l1 l2 l3 a1
    rw [hc]; omega
  have a2 := div_of b1 l2
  rw [a2, b1]
  have b2 : 65536 * (256 * (256 * (256 * (256 * (256 * d7 + (d6 + d7)) + (d5 + d6)) + (d4 + d5)) + (d3 + d4)) + (d2 + d3)) + (256 * (d1 + d2) + (d0 + d1)) + (256 * (256 * (256 * (256 * (256 * d7 + (d6 + d7)) + (d5 + d6)) + (d4 + d5)) + (d3 + d4)) + (d2 + d3)) =
      4294967296 * (256 * (256 * (256 * d7 + (d6 + d7)) + (d5 + d6 + d7)) + (d4 + d5 + d6 + d7)) + (16777216 * (d3 + d4 + d5 + d6) + 65536 * (d2 + d3 + d4 + d5) + 256 * (d1 + d2 + d3 + d4) + (d0 + d1 + d2 + d3)) := by
    clear hsum l1 l2 l3 a1 b1 a2 hc
    omega
  have a3 := div_of b2 l3
  rw [a3, b2]
  have b3 : 4294967296 * (256 * (256 * (256 * d7 + (d6 + d7)) + (d5 + d6 + d7)) + (d4 + d5 + d6 + d7)) + (16777216 * (d3 + d4 + d5 + d6) + 65536 * (d2 + d3 + d4 + d5) + 256 * (d1 + d2 + d3 + d4) + (d0 + d1 + d2 + d3)) + (256 * (256 * (256 * d7 + (d6 + d7)) + (d5 + d6 + d7)) + (d4 + d5 + d6 + d7)) =
      128 * (33554432 * (256 * (256 * (256 * d7 + (d6 + d7)) + (d5 + d6 + d7)) + (d4 + d5 + d6 + d7)) + (131072 * (d3 + d4 + d5 + d6) + 512 * (d2 + d3 + d4 + d5) + 2 * (d1 + d2 + d3 + d4)) + 2 * (256 * (256 * d7 + (d6 + d7)) + (d5 + d6 + d7))) + (d0 + d1 + d2 + d3 + d4 + d5 + d6 + d7) := by
    clear hsum l1 l2 l3 a1 b1 a2 hc a3 b2
    omega
  rw [b3, Nat.mul_add_mod, Nat.mod_eq_of_lt hsum]

/-- .. and its end: all the bits. -/
theorem swar_end (x c : Nat) (hc : c = bmap (fun r => h3 (h2 (h1 r))) 8 x) :
    c + c / 256 < 1152921504606846976 ∧ (c + c / 256) + (c + c / 256) / 65536 < 1152921504606846976 ∧
      (c + c / 256) + (c + c / 256) / 65536 + ((c + c / 256) + (c + c / 256) / 65536) / 4294967296 < 1152921504606846976 ∧
      ((c + c / 256) + (c + c / 256) / 65536 + ((c + c / 256) + (c + c / 256) / 65536) / 4294967296) % 128 = popTo (fun j => x.testBit j) 0 64 := by
  have p : ∀ r, r < 256 → h3 (h2 (h1 r)) ≤ 8 := fun r hr => by rw [h321 r hr]; exact popTo_le _ _ _
  have q : ∀ k, h3 (h2 (h1 (x / 2 ^ (8 * k) % 256))) = popTo (fun j => x.testBit j) (8 * k) 8 := fun k => by rw [h321 _ (by omega), popTo_byte]
  have hc' := hc
  simp only [bmap, Nat.div_div_eq_div_mul] at hc'
  have q0 := q 0; have q1 := q 1; have q2 := q 2; have q3 := q 3; have q4 := q 4; have q5 := q 5; have q6 := q 6; have q7 := q 7
  simp only [Nat.reduceMul, Nat.reducePow, Nat.div_one] at q0 q1 q2 q3 q4 q5 q6 q7
  simp only [Nat.reduceMul, Nat.mul_zero, Nat.zero_add] at hc'
  rw [q0, q1, q2, q3, q4, q5, q6, q7] at hc'
  have g0 := popTo_le (fun j => x.testBit j) 0 8; have g1 := popTo_le (fun j => x.testBit j) 8 8; have g2 := popTo_le (fun j => x.testBit j) 16 8; have g3 := popTo_le (fun j => x.testBit j) 24 8
  have g4 := popTo_le (fun j => x.testBit j) 32 8; have g5 := popTo_le (fun j => x.testBit j) 40 8; have g6 := popTo_le (fun j => x.testBit j) 48 8; have g7 := popTo_le (fun j => x.testBit j) 56 8
  have hall : popTo (fun j => x.testBit j) 0 64 = popTo (fun j => x.testBit j) 0 8 + popTo (fun j => x.testBit j) 8 8 + popTo (fun j => x.testBit j) 16 8 + popTo (fun j => x.testBit j) 24 8 + popTo (fun j => x.testBit j) 32 8 + popTo (fun j => x.testBit j) 40 8 + popTo (fun j => x.testBit j) 48 8 + popTo (fun j => x.testBit j) 56 8 := by
    have s1 := popTo_add (fun j => x.testBit j) 0 8 56
    have s2 := popTo_add (fun j => x.testBit j) 8 8 48
    have s3 := popTo_add (fun j => x.testBit j) 16 8 40
    have s4 := popTo_add (fun j => x.testBit j) 24 8 32
    have s5 := popTo_add (fun j => x.testBit j) 32 8 24
    have s6 := popTo_add (fun j => x.testBit j) 40 8 16
    have s7 := popTo_add (fun j => x.testBit j) 48 8 8
    simp only [Nat.reduceAdd] at s1 s2 s3 s4 s5 s6 s7
    rw [s1, s2, s3, s4, s5, s6, s7]
    simp only [Nat.add_assoc]
  rw [hall]
  clear hall q q0 q1 q2 q3 q4 q5 q6 q7 p hc
  generalize popTo (fun j => x.testBit j) 0 8 = d0 at *
  generalize popTo (fun j => x.testBit j) 8 8 = d1 at *
  generalize popTo (fun j => x.testBit j) 16 8 = d2 at *
  generalize popTo (fun j => x.testBit j) 24 8 = d3 at *
  generalize popTo (fun j => x.testBit j) 32 8 = d4 at *
  generalize popTo (fun j => x.testBit j) 40 8 = d5 at *
  generalize popTo (fun j => x.testBit j) 48 8 = d6 at *
  generalize popTo (fun j => x.testBit j) 56 8 = d7 at *
  have hc2 : c = 256 * (256 * (256 * (256 * (256 * (256 * (256 * d7 + d6) + d5) + d4) + d3) + d2) + d1) + d0 := hc'
  have hB : c ≤ 578721382704613384 := by
    rw [hc2]
    exact horner_le (horner_le (horner_le (horner_le (horner_le (horner_le (horner_le (B := 8) g7 g6) g5) g4) g3) g2) g1) g0
  have b := c_bounds c hB
  refine ⟨b.1, b.2.1, b.2.2, fold8 d0 d1 d2 d3 d4 d5 d6 d7 c ?_ ?_ ?_ ?_ hc2⟩
  · clear hc' hc2 hB b; omega
  · clear hc' hc2 hB b; omega
  · clear hc' hc2 hB b; omega
  · clear hc' hc2 hB b; omega

theorem popTo_wd (f : Nat → Bool) (i : Nat) : popTo (fun j => (wd f i).testBit j) 0 64 = popTo f (64 * i) 64 :=
  popTo_congr 64 fun j hj => by rw [Nat.zero_add, wd_testBit]; simp [hj]

end Go.Proofs.YtpgikkmpnbcljaaDoor
