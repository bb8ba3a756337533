/-
  What the seventh reference's Fit and All tell of a tree: which parts fit.
  How many states a tree has. Plain facts.
  How many bits of a word are set: the way of math/bits.OnesCount64, in plain numbers.
  The walk of bits.OnesCount64.
  The walk of byteset's Count.
-/
import Derived.Test.YtpjmogcphgaimaaPk10
import Derived.Test.YtpjmogcphgaimaaPk11
import Derived.Test.YtpjmogcphgaimaaPk3
import Derived.Test.YtpjmogcphgaimaaPk2
namespace Go.Proofs.Ytpjmogcphgaimaa
open Go.RowKit

/-- Two grids agree where a part may be. -/
def agr (n : Nat) (A B : Gr) : Prop := ∀ i j, i ≤ j → j ≤ n → A i j = B i j
theorem agr_beh {n : Nat} {A A' B B' : Gr} (hA : agr n A A') (hB : agr n B B') : agr n (behB n A B) (behB n A' B') := fun i j hij hj => by
  rw [Bool.eq_iff_iff, beh_iff, beh_iff]
  constructor
  · rintro ⟨m, h1, h2, h3, h4, h5⟩
    exact ⟨m, h1, h2, h3, by rw [← hA i m h2 h1]; exact h4, by rw [← hB m j h3 hj]; exact h5⟩
  · rintro ⟨m, h1, h2, h3, h4, h5⟩
    exact ⟨m, h1, h2, h3, by rw [hA i m h2 h1]; exact h4, by rw [hB m j h3 hj]; exact h5⟩
theorem agr_eit {n : Nat} {A A' B B' : Gr} (hA : agr n A A') (hB : agr n B B') : agr n (eitB A B) (fun i j => A' i j || B' i j) := fun i j hij hj => by
  unfold eitB
  rw [decide_eq_true hij, Bool.true_and, hA i j hij hj, hB i j hij hj]
theorem agr_pow {n : Nat} {A A' : Gr} (hA : agr n A A') : ∀ k, agr n (powB n A k) (powB n A' k)
  | 0 => fun _ _ _ _ => rfl
  | k + 1 => agr_beh (agr_pow hA k) hA
theorem agr_acc {n : Nat} {A A' : Gr} (hA : agr n A A') (lo : Nat) : ∀ j, agr n (accB n A lo j) (repB n A' lo j)
  | 0 => fun i c hi hc => by
    have h := agr_pow hA lo i c hi hc
    show powB n A lo i c = (List.range 1).any fun k => powB n A' (lo + k) i c
    rw [h]
    simp [List.range_succ]
  | j + 1 => fun i c hi hc => by
    have h1 := agr_acc hA lo j i c hi hc
    have h2 := agr_pow hA (lo + j + 1) i c hi hc
    show eitB (accB n A lo j) (powB n A (lo + j + 1)) i c = (List.range (j + 1 + 1)).any fun k => powB n A' (lo + k) i c
    unfold eitB
    rw [decide_eq_true hi, Bool.true_and, h1, h2, List.range_succ, List.any_append]
    simp [repB, Nat.add_assoc]

/-- Fit, over a tree. -/
theorem fit_is (b off n cap : Nat) (N : Nat → Nd) (ht : tree N n) (hw : ∀ j, j < n → okW (N j)) (s : ByteArray) (m : Nat) (hm : s.size = m) (hm10 : m ≤ 1000) : ∀ i, i < n → ∃ F, agr m F (fitT m (tx7 s) (trT N i)) ∧ ∀ w, rdN w b off n N →
    Calls Try.prog 22 #[.slice (some ⟨b, off, none⟩) n cap, .int .i64 (i : Int), .string s] w (fitPost m F w) := by
  intro i
  induction i using Nat.strongRecOn with
  | ind i ih =>
  intro hi
  have hn := ht.1
  obtain ⟨hf0, hok⟩ := (tree_iff.1 ht).2.2.1 i hi
  obtain ⟨f, hf, hc⟩ := nd_is ht hi
  cases hc with
  | leaf _ hk0 _ =>
    have hkids : kids N i = [] := by unfold kids; rcases hk0 with h | h | h | h <;> (rw [h]; rfl)
    rw [trT_leaf hk0]
    rcases hk0 with hk | hk | hk | hk
    · refine ⟨setC (fOf (N i)) (tx7 s) m, fun a c hac hc => ?_, fun w hr => fit_set b off n cap N hn i hi hf0 hkids hk (hw i hi) s m hm hm10 w hr⟩
      show _ = leafB7 m (tx7 s) (N i) a c
      unfold setC leafB7
      rw [if_pos hk, Bool.and_assoc]
    · refine ⟨evenB m, fun a c hac hc => ?_, fun w hr => fit_empty b off n cap N hn i hi hf0 hkids hk s m hm hm10 w hr⟩
      show _ = leafB7 m (tx7 s) (N i) a c
      unfold leafB7
      rw [if_neg (by omega), if_pos hk]
    · refine ⟨fun x y => decide (x = 0) && decide (y = 0), fun a c hac hc => ?_, fun w hr => fit_begin b off n cap N hn i hi hf0 hkids hk s m hm hm10 w hr⟩
      show _ = leafB7 m (tx7 s) (N i) a c
      unfold leafB7
      rw [if_neg (by omega), if_neg (by omega), if_pos hk]
    · refine ⟨fun x y => decide (x = m) && decide (y = m), fun a c hac hc => ?_, fun w hr => fit_end b off n cap N hn i hi hf0 hkids hk s m hm hm10 w hr⟩
      show _ = leafB7 m (tx7 s) (N i) a c
      unfold leafB7
      rw [if_neg (by omega), if_neg (by omega), if_neg (by omega)]
  | @one p _ _ hk0 h1 h2 _ =>
    have hkids : kids N (p + 1) = [(p : Int)] := by unfold kids; rw [hk0, if_pos (show ar 7 = 1 from rfl)]; congr 1; omega
    obtain ⟨F, hF, hc⟩ := ih p (by omega) (by omega)
    have hrep := okN_rep hok hk0
    obtain ⟨l, hl⟩ := Int.eq_ofNat_of_zero_le hrep.1
    rw [trT_one hk0]
    refine ⟨accB m F l (moreN m l (N (p + 1)).hi), ?_, fun w hr => fit_rep b off n cap N hn (p + 1) p hi hf0 hkids hk0 l hl (by omega) (by omega) s m hm hm10 F w hr (fun w' hB => hc w' (hr.below hB))⟩
    have := agr_acc hF l (moreN m l (N (p + 1)).hi)
    show agr m _ (repB m (fitT m (tx7 s) (trT N p)) (N (p + 1)).lo.toNat (moreN m (N (p + 1)).lo (N (p + 1)).hi))
    rw [hl]
    exact this
  | @two p q _ _ hk0 h1 h2 h3 h4 _ =>
    have hkids : kids N (p + 1) = [(q : Int), (p : Int)] := by
      unfold kids
      rw [if_neg (by rcases hk0 with h | h <;> rw [h] <;> decide), if_pos (by rcases hk0 with h | h <;> rw [h] <;> rfl), Nat.add_sub_cancel, h1]
      congr 1
      · omega
      · congr 1; omega
    obtain ⟨Fp, hFp, hcp⟩ := ih p (by omega) (by omega)
    obtain ⟨Fq, hFq, hcq⟩ := ih q (by omega) (by omega)
    rcases hk0 with hk0 | hk0
    · rw [trT_cat ht hi hk0 h1 h2]
      exact ⟨behB m Fq Fp, agr_beh hFq hFp, fun w hr => fit_cat b off n cap N hn (p + 1) p q hi hf0 hkids hk0 s m hm hm10 Fq Fp w hr (fun w' hB => hcq w' (hr.below hB)) (fun w' hB => hcp w' (hr.below hB))⟩
    · rw [trT_or ht hi hk0 h1 h2]
      exact ⟨eitB Fq Fp, agr_eit hFq hFp, fun w hr => fit_or b off n cap N hn (p + 1) p q hi hf0 hkids hk0 s m hm hm10 Fq Fp w hr (fun w' hB => hcq w' (hr.below hB)) (fun w' hB => hcp w' (hr.below hB))⟩

/-- All, over a tree. -/
theorem all_is (b off n cap : Nat) (N : Nat → Nd) (ht : tree N n) (hw : ∀ j, j < n → okW (N j)) (s : ByteArray) (m : Nat) (hm : s.size = m) (hm10 : m ≤ 1000) : ∃ F, agr m F (fitT m (tx7 s) (trT N (n - 1))) ∧ ∀ w, rdN w b off n N →
    Calls Try.prog 10 #[.slice (some ⟨b, off, none⟩) n cap, .string s] w (fitPost m F w) := by
  have hpos : 0 < n := (tree_iff.1 ht).1
  have hn := ht.1
  obtain ⟨F, hF, hc⟩ := fit_is b off n cap N ht hw s m hm hm10 (n - 1) (by omega)
  refine ⟨F, hF, fun w hr => ?_⟩
  have hc1 := hc w hr
  rw [show ((n - 1 : Nat) : Int) = (n : Int) - 1 by omega] at hc1
  have HC := Lib.hid hc1
  have hwr : IntKind.i64.wrap ((n : Int) - 1) = (n : Int) - 1 := by rw [IntKind.wrap_i64]; omega
  clear hc1 hc hF ht hw hr hm
  go_enter Try.func10, Try.ntmps10
  go_wp2_with fail
  refine HC.out.mono ?_
  rintro e w2 ⟨v, rfl, hg, hb⟩
  have HG := Lib.hid hg; have HB := Lib.hid hb
  clear hg hb
  go_wp2_with fail
  go_returns
  exact ⟨_, rfl, HG.out, HB.out⟩
end Go.Proofs.Ytpjmogcphgaimaa

namespace Go.Proofs.Ytpjmogcphgaimaa

/-- How many states are made of a tree, at most 2^20. -/
def szF : Tr → Int
  | .leaf _ => 2
  | .cat a b => cap20 (szF a + szF b)
  | .or a b => cap20 (szF a + szF b + 2)
  | .rep a lo hi => cap20 (2 + lo * szF a + (if hi = -1 then szF a + 1 else (hi - lo) * (szF a + 1)))
theorem cap_two {n : Int} (h : 2 ≤ n) : 2 ≤ cap20 n ∧ cap20 n ≤ 1048576 := by unfold cap20; omega
theorem sz_bd : ∀ t, okT t → 2 ≤ szF t ∧ szF t ≤ 1048576
  | .leaf _, _ => ⟨show (2 : Int) ≤ 2 by decide, show (2 : Int) ≤ 1048576 by decide⟩
  | .cat a b, h => by
    have h1 := sz_bd a h.1; have h2 := sz_bd b h.2
    exact cap_two (by omega)
  | .or a b, h => by
    have h1 := sz_bd a h.1; have h2 := sz_bd b h.2
    exact cap_two (by omega)
  | .rep a lo hi, h => by
    have h1 := sz_bd a h.1
    refine cap_two ?_
    have m1 := Int.mul_nonneg h.2.1 (show 0 ≤ szF a by omega)
    split
    · omega
    · rename_i hn
      have := h.2.2.2
      have m2 := Int.mul_nonneg (show 0 ≤ hi - lo by omega) (show 0 ≤ szF a + 1 by omega)
      omega
theorem sz_one {N : Nat → Nd} {p : Nat} (hk : (N (p + 1)).k = 7) : szF (trT N (p + 1)) = cap20 (2 + (N (p + 1)).lo * szF (trT N p) + (if (N (p + 1)).hi = -1 then szF (trT N p) + 1 else ((N (p + 1)).hi - (N (p + 1)).lo) * (szF (trT N p) + 1))) := by rw [trT_one hk]; rfl
theorem sz_cat {N : Nat → Nd} {n p q : Nat} (ht : tree N n) (hi : p + 1 < n) (hk : (N (p + 1)).k = 5) (h1 : fst N p = (q + 1 : Nat)) (h2 : q + 1 ≤ p) : szF (trT N (p + 1)) = cap20 (szF (trT N q) + szF (trT N p)) := by rw [trT_cat ht hi hk h1 h2]; rfl
theorem sz_or {N : Nat → Nd} {n p q : Nat} (ht : tree N n) (hi : p + 1 < n) (hk : (N (p + 1)).k = 6) (h1 : fst N p = (q + 1 : Nat)) (h2 : q + 1 ≤ p) : szF (trT N (p + 1)) = cap20 (szF (trT N q) + szF (trT N p) + 2) := by rw [trT_or ht hi hk h1 h2]; rfl
theorem sz_leaf {N : Nat → Nd} {i : Nat} (hk : (N i).k = 1 ∨ (N i).k = 2 ∨ (N i).k = 3 ∨ (N i).k = 4) : szF (trT N i) = 2 := by rw [trT_leaf hk]; rfl
end Go.Proofs.Ytpjmogcphgaimaa

namespace Go.Proofs.Ytpjmogcphgaimaa

/-- How many of f b .. f (b + n - 1) are true. -/
def popTo (f : Nat → Bool) (b : Nat) : Nat → Nat
  | 0 => 0
  | n + 1 => popTo f b n + if f (b + n) = true then 1 else 0
theorem popTo_add (f : Nat → Bool) (b m n : Nat) : popTo f b (m + n) = popTo f b m + popTo f (b + m) n := by
  induction n with
  | zero => simp [popTo]
  | succ n ih =>
    rw [← Nat.add_assoc]
    simp only [popTo]
    rw [ih, Nat.add_assoc b m n]
    omega
theorem popTo_congr {f g : Nat → Bool} {b c : Nat} (n : Nat) (h : ∀ j, j < n → f (b + j) = g (c + j)) : popTo f b n = popTo g c n := by
  induction n with
  | zero => rfl
  | succ n ih => simp only [popTo]; rw [ih (fun j hj => h j (by omega)), h n (by omega)]
theorem popTo_le (f : Nat → Bool) (b n : Nat) : popTo f b n ≤ n := by
  induction n with
  | zero => simp [popTo]
  | succ n ih => simp only [popTo]; split <;> omega
theorem popTo_or_and (f g : Nat → Bool) (b n : Nat) : popTo f b n + popTo g b n = popTo (fun k => f k || g k) b n + popTo (fun k => f k && g k) b n := by
  induction n with
  | zero => rfl
  | succ n ih =>
    simp only [popTo]
    rcases Bool.eq_false_or_eq_true (f (b + n)) with hf | hf <;> rcases Bool.eq_false_or_eq_true (g (b + n)) with hg | hg <;> simp [hf, hg] <;> omega

/-- k bytes, each c. -/
def rep (c : Nat) : Nat → Nat
  | 0 => 0
  | k + 1 => 256 * rep c k + c
/-- g of each of the k lowest bytes. -/
def bmap (g : Nat → Nat) : Nat → Nat → Nat
  | 0, _ => 0
  | k + 1, x => 256 * bmap g k (x / 256) + g (x % 256)

theorem and_split (a b r s : Nat) (hr : r < 256) (hs : s < 256) : (256 * a + r) &&& (256 * b + s) = 256 * (a &&& b) + (r &&& s) := by
  have hrs : r &&& s < 2 ^ 8 := Nat.and_lt_two_pow _ hs
  apply Nat.eq_of_testBit_eq
  intro j
  rw [show (256 : Nat) = 2 ^ 8 from rfl, Nat.testBit_and, Nat.testBit_two_pow_mul_add a hr, Nat.testBit_two_pow_mul_add b hs, Nat.testBit_two_pow_mul_add _ hrs]
  split <;> simp [Nat.testBit_and]

def h1 (x : Nat) : Nat := (x / 2 &&& 85) + (x &&& 85)
def h2 (x : Nat) : Nat := (x / 4 &&& 51) + (x &&& 51)
def h3 (x : Nat) : Nat := (x / 16 + x) &&& 15

theorem h1_shift : ∀ r, r < 256 → ∀ t, t < 2 → (128 * t + r / 2) &&& 85 = r / 2 &&& 85 := by decide +kernel
theorem h2_shift : ∀ r, r < 256 → ∀ t, t < 4 → (64 * t + r / 4) &&& 51 = r / 4 &&& 51 := by decide +kernel
theorem h1_lt : ∀ r, r < 256 → h1 r < 256 := by decide +kernel
theorem h21_le : ∀ r, r < 256 → h2 (h1 r) ≤ 68 ∧ h2 (h1 r) % 16 ≤ 4 := by decide +kernel
theorem h321 : ∀ r, r < 256 → h3 (h2 (h1 r)) = popTo (fun j => r.testBit j) 0 8 := by decide +kernel

theorem step1 (k : Nat) : ∀ x, (x / 2 &&& rep 85 k) + (x &&& rep 85 k) = bmap h1 k x := by
  induction k with
  | zero => intro x; simp [rep, bmap]
  | succ k ih =>
    intro x
    have hx : x = 256 * (x / 256) + x % 256 := by omega
    have hx2 : x / 2 = 256 * (x / 256 / 2) + (128 * (x / 256 % 2) + x % 256 / 2) := by omega
    have e1 : x / 2 &&& rep 85 (k + 1) = 256 * (x / 256 / 2 &&& rep 85 k) + (x % 256 / 2 &&& 85) := by
      rw [hx2]; simp only [rep]; rw [and_split _ _ _ _ (by omega) (by omega), h1_shift _ (by omega) _ (by omega)]
    have e2 : x &&& rep 85 (k + 1) = 256 * (x / 256 &&& rep 85 k) + (x % 256 &&& 85) := by
      conv => lhs; rw [hx]
      simp only [rep]; rw [and_split _ _ _ _ (by omega) (by omega)]
    rw [e1, e2]
    simp only [bmap]
    rw [← ih (x / 256)]
    unfold h1
    omega
theorem step2 (k : Nat) : ∀ x, (x / 4 &&& rep 51 k) + (x &&& rep 51 k) = bmap h2 k x := by
  induction k with
  | zero => intro x; simp [rep, bmap]
  | succ k ih =>
    intro x
    have hx : x = 256 * (x / 256) + x % 256 := by omega
    have hx2 : x / 4 = 256 * (x / 256 / 4) + (64 * (x / 256 % 4) + x % 256 / 4) := by omega
    have e1 : x / 4 &&& rep 51 (k + 1) = 256 * (x / 256 / 4 &&& rep 51 k) + (x % 256 / 4 &&& 51) := by
      rw [hx2]; simp only [rep]; rw [and_split _ _ _ _ (by omega) (by omega), h2_shift _ (by omega) _ (by omega)]
    have e2 : x &&& rep 51 (k + 1) = 256 * (x / 256 &&& rep 51 k) + (x % 256 &&& 51) := by
      conv => lhs; rw [hx]
      simp only [rep]; rw [and_split _ _ _ _ (by omega) (by omega)]
    rw [e1, e2]
    simp only [bmap]
    rw [← ih (x / 256)]
    unfold h2
    omega
theorem bmap_bmap (g h : Nat → Nat) (hh : ∀ r, r < 256 → h r < 256) (k : Nat) : ∀ x, bmap g k (bmap h k x) = bmap (fun r => g (h r)) k x := by
  induction k with
  | zero => intro x; rfl
  | succ k ih =>
    intro x
    have hl := hh (x % 256) (by omega)
    simp only [bmap]
    rw [show (256 * bmap h k (x / 256) + h (x % 256)) / 256 = bmap h k (x / 256) from by omega, show (256 * bmap h k (x / 256) + h (x % 256)) % 256 = h (x % 256) from by omega, ih]
theorem bmap_low (h : Nat → Nat) (hm : ∀ r, r < 256 → h r % 16 ≤ 4) (k : Nat) (x : Nat) : bmap h k x % 16 ≤ 4 := by
  cases k with
  | zero => simp [bmap]
  | succ k => simp only [bmap]; have := hm (x % 256) (by omega); omega
theorem step3 (h : Nat → Nat) (hm : ∀ r, r < 256 → h r ≤ 68 ∧ h r % 16 ≤ 4) (k : Nat) : ∀ x, (bmap h k x / 16 + bmap h k x) &&& rep 15 k = bmap (fun r => h3 (h r)) k x := by
  induction k with
  | zero => intro x; simp [rep, bmap]
  | succ k ih =>
    intro x
    have hb := hm (x % 256) (by omega)
    have hlow := bmap_low h (fun r hr => (hm r hr).2) k (x / 256)
    simp only [bmap, rep]
    rw [← ih (x / 256)]
    generalize bmap h k (x / 256) = a at *
    generalize h (x % 256) = r at *
    have e : (256 * a + r) / 16 + (256 * a + r) = 256 * (a / 16 + a) + (16 * (a % 16) + r / 16 + r) := by omega
    rw [e, and_split _ _ _ _ (by omega) (by omega)]
    unfold h3
    rw [show (15 : Nat) = 2 ^ 4 - 1 from rfl, Nat.and_two_pow_sub_one_eq_mod, Nat.and_two_pow_sub_one_eq_mod]
    omega

/-- The whole way, of eight bytes. -/
theorem swar (x : Nat) :
    let a := (x / 2 &&& 6148914691236517205) + (x &&& 6148914691236517205)
    let b := (a / 4 &&& 3689348814741910323) + (a &&& 3689348814741910323)
    let c := (b / 16 + b) &&& 1085102592571150095
    a < 18446744073709551616 ∧ b < 18446744073709551616 ∧ b / 16 + b < 18446744073709551616 ∧ c = bmap (fun r => h3 (h2 (h1 r))) 8 x := by
  have e1 : (x / 2 &&& 6148914691236517205) + (x &&& 6148914691236517205) = bmap h1 8 x := step1 8 x
  have hz : ∀ {u d A B : Nat}, u ≤ A → d ≤ B → 256 * u + d ≤ 256 * A + B := by intro u d A B _ _; omega
  have lt8 : ∀ (g : Nat → Nat) (B : Nat), (∀ r, r < 256 → g r ≤ B) → bmap g 8 x ≤ 256 * (256 * (256 * (256 * (256 * (256 * (256 * (256 * 0 + B) + B) + B) + B) + B) + B) + B) + B := by
    intro g B hg
    simp only [bmap]
    have hm : ∀ y, g (y % 256) ≤ B := fun y => hg _ (Nat.mod_lt _ (by decide))
    exact hz (hz (hz (hz (hz (hz (hz (hz (Nat.le_refl 0) (hm _)) (hm _)) (hm _)) (hm _)) (hm _)) (hm _)) (hm _)) (hm _)
  have l1 := lt8 h1 255 (fun r hr => by have := h1_lt r hr; omega)
  have e2 : (bmap h1 8 x / 4 &&& 3689348814741910323) + (bmap h1 8 x &&& 3689348814741910323) = bmap (fun r => h2 (h1 r)) 8 x := by
    rw [← bmap_bmap h2 h1 h1_lt]; exact step2 8 _
  have l2 := lt8 (fun r => h2 (h1 r)) 68 (fun r hr => (h21_le r hr).1)
  have e3 := step3 (fun r => h2 (h1 r)) h21_le 8 x
  simp only []
  rw [e1, e2]
  refine ⟨by omega, by omega, by omega, e3⟩

theorem popTo_byte (x k : Nat) : popTo (fun j => (x / 2 ^ (8 * k) % 256).testBit j) 0 8 = popTo (fun j => x.testBit j) (8 * k) 8 :=
  popTo_congr 8 fun j hj => by
    rw [show (256 : Nat) = 2 ^ 8 from rfl, Nat.testBit_mod_two_pow, Nat.testBit_div_two_pow]
    simp [hj, Nat.add_comm]

theorem div_of {c K r m : Nat} (h : c = m * K + r) (hr : r < m) : c / m = K := by
  subst h
  rw [Nat.mul_add_div (by omega), Nat.div_eq_of_lt hr, Nat.add_zero]
theorem horner_le {u d B : Nat} (h : u ≤ B) (g : d ≤ 8) : 256 * u + d ≤ 256 * B + 8 := by omega
theorem c_bounds (c : Nat) (h : c ≤ 578721382704613384) :
    c + c / 256 < 1152921504606846976 ∧ (c + c / 256) + (c + c / 256) / 65536 < 1152921504606846976 ∧
      (c + c / 256) + (c + c / 256) / 65536 + ((c + c / 256) + (c + c / 256) / 65536) / 4294967296 < 1152921504606846976 := by
  generalize hq : c / 256 = q
  have : q ≤ c / 256 := by omega
  have hq' : q ≤ 2260630401189896 := by omega
  generalize hs : (c + q) / 65536 = s
  have hs' : s ≤ 9000000000000 := by omega
  generalize ht : (c + q + s) / 4294967296 = t
  have ht' : t ≤ 135400000 := by omega
  refine ⟨by omega, by omega, by omega⟩
theorem fold8 (d0 d1 d2 d3 d4 d5 d6 d7 c : Nat) (hsum : d0 + d1 + d2 + d3 + d4 + d5 + d6 + d7 < 128) (l1 : d0 < 256) (l2 : 256 * (d1 + d2) + (d0 + d1) < 65536)
    (l3 : 16777216 * (d3 + d4 + d5 + d6) + 65536 * (d2 + d3 + d4 + d5) + 256 * (d1 + d2 + d3 + d4) + (d0 + d1 + d2 + d3) < 4294967296)
    (hc : c = 256 * (256 * (256 * (256 * (256 * (256 * (256 * d7 + d6) + d5) + d4) + d3) + d2) + d1) + d0) :
      ((c + c / 256) + (c + c / 256) / 65536 + ((c + c / 256) + (c + c / 256) / 65536) / 4294967296) % 128 = d0 + d1 + d2 + d3 + d4 + d5 + d6 + d7 := by
  have a1 : c / 256 = 256 * (256 * (256 * (256 * (256 * (256 * d7 + d6) + d5) + d4) + d3) + d2) + d1 := div_of (r := d0) hc l1
  rw [a1]
  have b1 : c + (256 * (256 * (256 * (256 * (256 * (256 * d7 + d6) + d5) + d4) + d3) + d2) + d1) = 65536 * (256 * (256 * (256 * (256 * (256 * d7 + (d6 + d7)) + (d5 + d6)) + (d4 + d5)) + (d3 + d4)) + (d2 + d3)) + (256 * (d1 + d2) + (d0 + d1)) := by
    clear hsum l1 l2 l3 a1
    rw [hc]; omega
  have a2 := div_of b1 l2
  rw [a2, b1]
  have b2 : 65536 * (256 * (256 * (256 * (256 * (256 * d7 + (d6 + d7)) + (d5 + d6)) + (d4 + d5)) + (d3 + d4)) + (d2 + d3)) + (256 * (d1 + d2) + (d0 + d1)) + (256 * (256 * (256 * (256 * (256 * d7 + (d6 + d7)) + (d5 + d6)) + (d4 + d5)) + (d3 + d4)) + (d2 + d3)) =
      4294967296 * (256 * (256 * (256 * d7 + (d6 + d7)) + (d5 + d6 + d7)) + (d4 + d5 + d6 + d7)) + (16777216 * (d3 + d4 + d5 + d6) + 65536 * (d2 + d3 + d4 + d5) + 256 * (d1 + d2 + d3 + d4) + (d0 + d1 + d2 + d3)) := by
    clear hsum l1 l2 l3 a1 b1 a2 hc
    omega
  have a3 := div_of b2 l3
  rw [a3, b2]
  have b3 : 4294967296 * (256 * (256 * (256 * d7 + (d6 + d7)) + (d5 + d6 + d7)) + (d4 + d5 + d6 + d7)) + (16777216 * (d3 + d4 + d5 + d6) + 65536 * (d2 + d3 + d4 + d5) + 256 * (d1 + d2 + d3 + d4) + (d0 + d1 + d2 + d3)) + (256 * (256 * (256 * d7 + (d6 + d7)) + (d5 + d6 + d7)) + (d4 + d5 + d6 + d7)) =
      128 * (33554432 * (256 * (256 * (256 * d7 + (d6 + d7)) + (d5 + d6 + d7)) + (d4 + d5 + d6 + d7)) + (131072 * (d3 + d4 + d5 + d6) + 512 * (d2 + d3 + d4 + d5) + 2 * (d1 + d2 + d3 + d4)) + 2 * (256 * (256 * d7 + (d6 + d7)) + (d5 + d6 + d7))) + (d0 + d1 + d2 + d3 + d4 + d5 + d6 + d7) := by
    clear hsum l1 l2 l3 a1 b1 a2 hc a3 b2
    omega
  rw [b3, Nat.mul_add_mod, Nat.mod_eq_of_lt hsum]

/-- .. and its end: all the bits. -/
theorem swar_end (x c : Nat) (hc : c = bmap (fun r => h3 (h2 (h1 r))) 8 x) :
    c + c / 256 < 1152921504606846976 ∧ (c + c / 256) + (c + c / 256) / 65536 < 1152921504606846976 ∧
      (c + c / 256) + (c + c / 256) / 65536 + ((c + c / 256) + (c + c / 256) / 65536) / 4294967296 < 1152921504606846976 ∧
      ((c + c / 256) + (c + c / 256) / 65536 + ((c + c / 256) + (c + c / 256) / 65536) / 4294967296) % 128 = popTo (fun j => x.testBit j) 0 64 := by
  have p : ∀ r, r < 256 → h3 (h2 (h1 r)) ≤ 8 := fun r hr => by rw [h321 r hr]; exact popTo_le _ _ _
  have q : ∀ k, h3 (h2 (h1 (x / 2 ^ (8 * k) % 256))) = popTo (fun j => x.testBit j) (8 * k) 8 := fun k => by rw [h321 _ (by omega), popTo_byte]
  have hc' := hc
  simp only [bmap, Nat.div_div_eq_div_mul] at hc'
  have q0 := q 0; have q1 := q 1; have q2 := q 2; have q3 := q 3; have q4 := q 4; have q5 := q 5; have q6 := q 6; have q7 := q 7
  simp only [Nat.reduceMul, Nat.reducePow, Nat.div_one] at q0 q1 q2 q3 q4 q5 q6 q7
  simp only [Nat.reduceMul, Nat.mul_zero, Nat.zero_add] at hc'
  rw [q0, q1, q2, q3, q4, q5, q6, q7] at hc'
  have g0 := popTo_le (fun j => x.testBit j) 0 8; have g1 := popTo_le (fun j => x.testBit j) 8 8; have g2 := popTo_le (fun j => x.testBit j) 16 8; have g3 := popTo_le (fun j => x.testBit j) 24 8
  have g4 := popTo_le (fun j => x.testBit j) 32 8; have g5 := popTo_le (fun j => x.testBit j) 40 8; have g6 := popTo_le (fun j => x.testBit j) 48 8; have g7 := popTo_le (fun j => x.testBit j) 56 8
  have hall : popTo (fun j => x.testBit j) 0 64 = popTo (fun j => x.testBit j) 0 8 + popTo (fun j => x.testBit j) 8 8 + popTo (fun j => x.testBit j) 16 8 + popTo (fun j => x.testBit j) 24 8 + popTo (fun j => x.testBit j) 32 8 + popTo (fun j => x.testBit j) 40 8 + popTo (fun j => x.testBit j) 48 8 + popTo (fun j => x.testBit j) 56 8 := by
    have s1 := popTo_add (fun j => x.testBit j) 0 8 56
    have s2 := popTo_add (fun j => x.testBit j) 8 8 48
    have s3 := popTo_add (fun j => x.testBit j) 16 8 40
    have s4 := popTo_add (fun j => x.testBit j) 24 8 32
    have s5 := popTo_add (fun j => x.testBit j) 32 8 24
    have s6 := popTo_add (fun j => x.testBit j) 40 8 16
    have s7 := popTo_add (fun j => x.testBit j) 48 8 8
    simp only [Nat.reduceAdd] at s1 s2 s3 s4 s5 s6 s7
    rw [s1, s2, s3, s4, s5, s6, s7]
    simp only [Nat.add_assoc]
  rw [hall]
  clear hall q q0 q1 q2 q3 q4 q5 q6 q7 p hc
  generalize popTo (fun j => x.testBit j) 0 8 = d0 at *
  generalize popTo (fun j => x.testBit j) 8 8 = d1 at *
  generalize popTo (fun j => x.testBit j) 16 8 = d2 at *
  generalize popTo (fun j => x.testBit j) 24 8 = d3 at *
  generalize popTo (fun j => x.testBit j) 32 8 = d4 at *
  generalize popTo (fun j => x.testBit j) 40 8 = d5 at *
  generalize popTo (fun j => x.testBit j) 48 8 = d6 at *
  generalize popTo (fun j => x.testBit j) 56 8 = d7 at *
  have hc2 : c = 256 * (256 * (256 * (256 * (256 * (256 * (256 * d7 + d6) + d5) + d4) + d3) + d2) + d1) + d0 := hc'
  have hB : c ≤ 578721382704613384 := by
    rw [hc2]
    exact horner_le (horner_le (horner_le (horner_le (horner_le (horner_le (horner_le (B := 8) g7 g6) g5) g4) g3) g2) g1) g0
  have b := c_bounds c hB
  refine ⟨b.1, b.2.1, b.2.2, fold8 d0 d1 d2 d3 d4 d5 d6 d7 c ?_ ?_ ?_ ?_ hc2⟩
  · clear hc' hc2 hB b; omega
  · clear hc' hc2 hB b; omega
  · clear hc' hc2 hB b; omega
  · clear hc' hc2 hB b; omega

theorem popTo_wd (f : Nat → Bool) (i : Nat) : popTo (fun j => (wd f i).testBit j) 0 64 = popTo f (64 * i) 64 :=
  popTo_congr 64 fun j hj => by rw [Nat.zero_add, wd_testBit]; simp [hj]

end Go.Proofs.Ytpjmogcphgaimaa

namespace Go.Proofs.Ytpjmogcphgaimaa
open Go.RowKit

/-- The numbers on the way of OnesCount64. -/
theorem ones_steps (x : Nat) (hx : x < 18446744073709551616) : ∃ a b c d e g : Nat,
    IntKind.u64.wrap (bits .and .u64 ((x : Int) / 2) 6148914691236517205 + bits .and .u64 (x : Int) 6148914691236517205) = (a : Int) ∧
    IntKind.u64.wrap (bits .and .u64 ((a : Int) / 4) 3689348814741910323 + bits .and .u64 (a : Int) 3689348814741910323) = (b : Int) ∧
    bits .and .u64 (IntKind.u64.wrap ((b : Int) / 16 + (b : Int))) 1085102592571150095 = (c : Int) ∧
    IntKind.u64.wrap ((c : Int) + (c : Int) / 256) = (d : Int) ∧ IntKind.u64.wrap ((d : Int) + (d : Int) / 65536) = (e : Int) ∧
    IntKind.u64.wrap ((e : Int) + (e : Int) / 4294967296) = (g : Int) ∧ g < 1152921504606846976 ∧ g % 128 = popTo (fun j => x.testBit j) 0 64 := by
  have s := swar x
  simp only [] at s
  obtain ⟨s1, s2, s3, s4⟩ := s
  have en := swar_end x _ s4
  have andn : ∀ (y m : Nat), y < 18446744073709551616 → m < 18446744073709551616 → bits .and .u64 (y : Int) (m : Int) = ((y &&& m : Nat) : Int) := fun y m => bits_and_u64_nat y m
  have wr : ∀ y : Nat, y < 18446744073709551616 → IntKind.u64.wrap (y : Int) = (y : Int) := fun y hy => by rw [IntKind.wrap_u64]; omega
  have dv : ∀ (y m : Nat), ((y : Int) / (m : Int)) = ((y / m : Nat) : Int) := fun y m => by simp
  generalize ha : (x / 2 &&& 6148914691236517205) + (x &&& 6148914691236517205) = a at *
  generalize hb : (a / 4 &&& 3689348814741910323) + (a &&& 3689348814741910323) = b at *
  generalize hc : (b / 16 + b) &&& 1085102592571150095 = c at *
  obtain ⟨e1, e2, e3, e4⟩ := en
  refine ⟨a, b, c, c + c / 256, c + c / 256 + (c + c / 256) / 65536, c + c / 256 + (c + c / 256) / 65536 + (c + c / 256 + (c + c / 256) / 65536) / 4294967296, ?_, ?_, ?_, ?_, ?_, ?_, e3, e4⟩
  · rw [show ((x : Int) / 2) = ((x / 2 : Nat) : Int) from dv x 2, show (6148914691236517205 : Int) = ((6148914691236517205 : Nat) : Int) from rfl, andn _ _ (by omega) (by omega), andn _ _ hx (by omega), ← Int.natCast_add, ha, wr _ s1]
  · rw [show ((a : Int) / 4) = ((a / 4 : Nat) : Int) from dv a 4, show (3689348814741910323 : Int) = ((3689348814741910323 : Nat) : Int) from rfl, andn _ _ (by omega) (by omega), andn _ _ s1 (by omega), ← Int.natCast_add, hb, wr _ s2]
  · rw [show ((b : Int) / 16) = ((b / 16 : Nat) : Int) from dv b 16, show (1085102592571150095 : Int) = ((1085102592571150095 : Nat) : Int) from rfl, ← Int.natCast_add, wr _ s3, andn _ _ s3 (by omega), hc]
  · rw [show ((c : Int) / 256) = ((c / 256 : Nat) : Int) from dv c 256, ← Int.natCast_add, wr _ (by omega)]
  · generalize c + c / 256 = d at *
    rw [show ((d : Int) / 65536) = ((d / 65536 : Nat) : Int) from dv d 65536, ← Int.natCast_add, wr _ (by omega)]
  · generalize c + c / 256 + (c + c / 256) / 65536 = d at *
    rw [show ((d : Int) / 4294967296) = ((d / 4294967296 : Nat) : Int) from dv d 4294967296, ← Int.natCast_add, wr _ (by omega)]

set_option maxHeartbeats 1000000 in
theorem ones_any (x : Nat) (hx : x < 18446744073709551616) (w : World) :
    Calls Try.prog 39 #[.int .u64 (x : Int)] w fun e w' => e = .returned (.int .i64 (popTo (fun j => x.testBit j) 0 64 : Nat)) ∧ w' = w := by
  obtain ⟨a, b, c, d, e, g, h1, h2, h3, h4, h5, h6, h7, h8⟩ := ones_steps x hx
  have h9 : bits .and .i64 (g : Int) 127 = ((g % 128 : Nat) : Int) := by
    have := bits_mask .i64 62 (by decide) (fun n h0 h1 => by rw [IntKind.wrap_i64]; omega) 7 (by decide) (g : Int) (by omega) (by omega)
    simpa using this
  rw [h8] at h9
  have hg : (g : Int) < 1152921504606846976 := by omega
  clear h7 h8
  go_enter Try.func39, Try.ntmps39
  go_wp2
  go_ret
  exact ⟨rfl, rfl⟩
end Go.Proofs.Ytpjmogcphgaimaa

namespace Go.Proofs.Ytpjmogcphgaimaa
open Go.RowKit

set_option maxHeartbeats 1000000 in
theorem count_any (f : Nat → Bool) (w : World) :
    Calls Try.prog 37 #[sv f] w fun e w' => e = .returned (.int .i64 (popTo f 0 256 : Nat)) ∧ Below w.heap.size w w' := by
  have i0 : ∀ w : World, (Instr.index 29 (.agg #[.int .u64 (wd f 0 : Int), .int .u64 (wd f 1 : Int), .int .u64 (wd f 2 : Int), .int .u64 (wd f 3 : Int)]) (.int .i64 0)).run Try.prog w = .ok (.int .u64 (wd f 0 : Int)) w := fun _ => by kernel_rfl
  have i1 : ∀ w : World, (Instr.index 29 (.agg #[.int .u64 (wd f 0 : Int), .int .u64 (wd f 1 : Int), .int .u64 (wd f 2 : Int), .int .u64 (wd f 3 : Int)]) (.int .i64 1)).run Try.prog w = .ok (.int .u64 (wd f 1 : Int)) w := fun _ => by kernel_rfl
  have i2 : ∀ w : World, (Instr.index 29 (.agg #[.int .u64 (wd f 0 : Int), .int .u64 (wd f 1 : Int), .int .u64 (wd f 2 : Int), .int .u64 (wd f 3 : Int)]) (.int .i64 2)).run Try.prog w = .ok (.int .u64 (wd f 2 : Int)) w := fun _ => by kernel_rfl
  have i3 : ∀ w : World, (Instr.index 29 (.agg #[.int .u64 (wd f 0 : Int), .int .u64 (wd f 1 : Int), .int .u64 (wd f 2 : Int), .int .u64 (wd f 3 : Int)]) (.int .i64 3)).run Try.prog w = .ok (.int .u64 (wd f 3 : Int)) w := fun _ => by kernel_rfl
  have l0 := popTo_le f 0 64; have l1 := popTo_le f 64 64; have l2 := popTo_le f 128 64; have l3 := popTo_le f 192 64
  have hall : Hid (popTo f 0 256 = popTo f 0 64 + popTo f 64 64 + popTo f 128 64 + popTo f 192 64) := by
    have s1 := popTo_add f 0 64 192
    have s2 := popTo_add f 64 64 128
    have s3 := popTo_add f 128 64 64
    simp only [Nat.reduceAdd] at s1 s2 s3
    show popTo f 0 256 = _
    omega
  have c : ∀ i (w : World), Calls Try.prog 39 #[.int .u64 (wd f i : Int)] w fun e w' => e = .returned (.int .i64 (popTo f (64 * i) 64 : Nat)) ∧ w' = w := fun i w => by
    have := ones_any (wd f i) (wd_lt f i) w
    rw [popTo_wd] at this
    exact this
  have C := Lib.hid c
  clear c
  unfold sv
  go_enter Try.func37, Try.ntmps37
  go_wp2
  refine wp_loop_rounds 5 ?_
  rw [rounds_succ]; go_wp2_with (go_at_call 39; refine (C.out 0 _).mono ?_; rintro e w' ⟨rfl, rfl⟩)
  rw [rounds_succ]; go_wp2_with (go_at_call 39; refine (C.out 1 _).mono ?_; rintro e w' ⟨rfl, rfl⟩)
  rw [rounds_succ]; go_wp2_with (go_at_call 39; refine (C.out 2 _).mono ?_; rintro e w' ⟨rfl, rfl⟩)
  rw [rounds_succ]; go_wp2_with (go_at_call 39; refine (C.out 3 _).mono ?_; rintro e w' ⟨rfl, rfl⟩)
  rw [rounds_succ]; go_wp2
  go_ret
  exact ⟨by rw [hall.out]; simp, by go_grown⟩

theorem count_lit (f : Nat → Bool) (w : World) : Calls Try.prog 37 #[svr f] w fun e w' => e = .returned (.int .i64 (popTo f 0 256 : Nat)) ∧ Below w.heap.size w w' := count_any f w
end Go.Proofs.Ytpjmogcphgaimaa
