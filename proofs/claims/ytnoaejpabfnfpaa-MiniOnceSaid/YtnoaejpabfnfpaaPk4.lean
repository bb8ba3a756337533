/-
  Automata that are not yet decided, made of trees: just the parts of a text that fit a tree lead through its automaton. Plain facts.
  Just the parts of a text that fit a tree lead through its part of an automaton. Plain facts.
  An automaton of a tree is told by the tree alone; each of its states may be. Plain facts.
  Where one comes at once, and by bytes; what leads to the end. Plain facts.
  What all texts of the tree lean on: imports, small words on worlds, slices that read as nodes or as numbers.
  Rows of bools, and states, in memory; where one comes at once as the reference counts it.
  Classes of places by what tells them apart: numbered by their first ones. Plain facts.
-/
import Derived.Test.YtnoaejpabfnfpaaPk3
import Derived.Test.YtnoaejpabfnfpaaPk1
import Derived.Test.YtnoaejpabfnfpaaProg
import Derived.WalkKit
import Derived.WalkSpells
import Derived.WalkLawsBesides
import Derived.Handy
import Derived.KernelRfl
import Derived.Deep.RegionHeld3
import Derived.Deep.RegionHeldLaw
import Derived.Deep.QuietTactic
import Derived.BigQuiet
import Derived.Lib.Hide
import Derived.OneCell
import Derived.Laws.StructEq
import Derived.Laws.OwnMore
import Derived.Laws.IdiomArrays
import Derived.OwnWalk
namespace Go.Proofs.Ytnoaejpabfnfpaa

/-- A state: its kind, the words of its set, A and B. -/
structure Sd where
  k : Int
  a : Int
  b : Int
  c : Int
  d : Int
  A : Int
  B : Int
def sOf (s : Sd) : Nat → Bool := ofWords s.a.toNat s.b.toNat s.c.toNat s.d.toNat
def sE (A : Int) : Sd := ⟨2, 0, 0, 0, 0, A, 0⟩
def sS (A B : Int) : Sd := ⟨3, 0, 0, 0, 0, A, B⟩
/-- One step: from a state at a place of a text of n bytes to another one. -/
def stp (S : Nat → Sd) (n : Nat) (tx : Nat → Nat) (q i q' i' : Nat) : Prop :=
  ((S q).k = 1 ∧ i < n ∧ sOf (S q) (tx i) = true ∧ (q' : Int) = (S q).A ∧ i' = i + 1) ∨
  (i' = i ∧ (((S q).k = 2 ∨ (S q).k = 3 ∨ ((S q).k = 4 ∧ i = 0) ∨ ((S q).k = 5 ∧ i = n)) ∧ (q' : Int) = (S q).A ∨ (S q).k = 3 ∧ (q' : Int) = (S q).B))
/-- So many steps lead to the end. -/
def wk (S : Nat → Sd) (n : Nat) (tx : Nat → Nat) (qf jf : Nat) : Nat → Nat → Nat → Prop
  | 0, q, i => q = qf ∧ i = jf
  | r + 1, q, i => ∃ q' i', stp S n tx q i q' i' ∧ wk S n tx qf jf r q' i'

section
variable {S : Nat → Sd} {n : Nat} {tx : Nat → Nat} {qf jf : Nat}
theorem wk_pos {r q i : Nat} (h : wk S n tx qf jf r q i) (hq : q ≠ qf) : ∃ r', r = r' + 1 := by
  cases r with
  | zero => exact absurd h.1 hq
  | succ r => exact ⟨r, rfl⟩
/-- Through a state that goes on at once. -/
theorem wk_E {r q i A : Nat} (hs : S q = sE A) : wk S n tx qf jf (r + 1) q i ↔ wk S n tx qf jf r A i := by
  constructor
  · rintro ⟨q', i', h, hw⟩
    unfold stp at h
    rw [hs] at h
    rcases h with ⟨h, -⟩ | ⟨rfl, ⟨-, h⟩ | ⟨h, -⟩⟩
    · simp [sE] at h
    · have : q' = A := by simp [sE] at h; omega
      subst this; exact hw
    · simp [sE] at h
  · intro hw
    exact ⟨A, i, by unfold stp; rw [hs]; exact .inr ⟨rfl, .inl ⟨.inl rfl, rfl⟩⟩, hw⟩
theorem wk_S {r q i A B : Nat} (hs : S q = sS A B) : wk S n tx qf jf (r + 1) q i ↔ wk S n tx qf jf r A i ∨ wk S n tx qf jf r B i := by
  constructor
  · rintro ⟨q', i', h, hw⟩
    unfold stp at h
    rw [hs] at h
    rcases h with ⟨h, -⟩ | ⟨rfl, ⟨-, h⟩ | ⟨-, h⟩⟩
    · simp [sS] at h
    · have : q' = A := by simp [sS] at h; omega
      subst this; exact .inl hw
    · have : q' = B := by simp [sS] at h; omega
      subst this; exact .inr hw
  · rintro (hw | hw)
    · exact ⟨A, i, by unfold stp; rw [hs]; exact .inr ⟨rfl, .inl ⟨.inr (.inl rfl), rfl⟩⟩, hw⟩
    · exact ⟨B, i, by unfold stp; rw [hs]; exact .inr ⟨rfl, .inr ⟨rfl, rfl⟩⟩, hw⟩
end

/-- So many parts, the first one ahead. -/
def pw (n : Nat) (x : Gr) : Nat → Nat → Nat → Prop
  | 0, i, j => i = j ∧ j ≤ n
  | k + 1, i, j => ∃ m, i ≤ m ∧ m ≤ n ∧ x i m = true ∧ pw n x k m j
theorem pw_le {n : Nat} {x : Gr} : ∀ {k i j}, pw n x k i j → i ≤ j ∧ j ≤ n
  | 0, _, _, h => ⟨by have := h.1; omega, h.2⟩
  | k + 1, i, j, ⟨m, h1, _, _, h4⟩ => ⟨Nat.le_trans h1 (pw_le h4).1, (pw_le h4).2⟩
theorem pw_iff {n : Nat} {x : Gr} : ∀ {k i j}, i ≤ j → j ≤ n → (powB n x k i j = true ↔ pw n x k i j)
  | 0, i, j, _, _ => even_iff
  | k + 1, i, j, h1, h2 => by
    show behB n (powB n x k) x i j = true ↔ _
    rw [← pow_comm n x k i j h1 h2, beh_iff]
    constructor
    · rintro ⟨m, g1, g2, g3, g4, g5⟩
      exact ⟨m, g2, g1, g4, (pw_iff g3 h2).1 g5⟩
    · rintro ⟨m, g1, g2, g3, g4⟩
      exact ⟨m, g2, g1, (pw_le g4).1, g3, (pw_iff (pw_le g4).1 h2).2 g4⟩
theorem pw_add {n : Nat} {x : Gr} : ∀ {a b i m j}, pw n x a i m → pw n x b m j → pw n x (a + b) i j
  | 0, b, i, m, j, h, h' => by obtain ⟨rfl, -⟩ := h; rw [Nat.zero_add]; exact h'
  | a + 1, b, i, m, j, ⟨l, h1, h2, h3, h4⟩, h' => by rw [show a + 1 + b = (a + b) + 1 by omega]; exact ⟨l, h1, h2, h3, pw_add h4 h'⟩
theorem pw_split {n : Nat} {x : Gr} : ∀ {a b i j}, pw n x (a + b) i j → ∃ m, pw n x a i m ∧ pw n x b m j
  | 0, b, i, j, h => by
    rw [Nat.zero_add] at h
    exact ⟨i, ⟨rfl, by have := pw_le h; omega⟩, h⟩
  | a + 1, b, i, j, h => by
    rw [show a + 1 + b = (a + b) + 1 by omega] at h
    obtain ⟨l, h1, h2, h3, h4⟩ := h
    obtain ⟨m, g1, g2⟩ := pw_split h4
    exact ⟨m, ⟨l, h1, h2, h3, g1⟩, g2⟩
/-- A part more than there are bytes: one is empty, and may be left out. -/
theorem pw_less {n : Nat} {x : Gr} : ∀ {k i j}, pw n x (k + 1) i j → pw n x k i j ∨ k + 1 ≤ j - i
  | 0, i, j, ⟨m, h1, h2, h3, h4⟩ => by
    obtain ⟨rfl, h5⟩ := h4
    rcases Nat.lt_or_ge i m with h | h
    · exact .inr (by omega)
    · exact .inl ⟨by omega, h5⟩
  | k + 1, i, j, ⟨m, h1, h2, h3, h4⟩ => by
    rcases Nat.lt_or_ge i m with h | h
    · rcases pw_less h4 with g | g
      · exact .inl ⟨m, h1, h2, h3, g⟩
      · exact .inr (by omega)
    · obtain rfl : m = i := by omega
      exact .inl h4
theorem pw_few {n : Nat} {x : Gr} (c : Nat) : ∀ d {i j}, pw n x (c + n + d) i j → ∃ e, e ≤ n ∧ pw n x (c + e) i j
  | 0, i, j, h => ⟨n, Nat.le_refl _, h⟩
  | d + 1, i, j, h => by
    rw [show c + n + (d + 1) = (c + n + d) + 1 by omega] at h
    rcases pw_less h with g | g
    · exact pw_few c d g
    · have := pw_le h; omega

/-- How many states a tree's part has. -/
def nst : Tr → Nat
  | .leaf _ => 2
  | .cat a b => nst a + nst b
  | .or a b => nst a + nst b + 2
  | .rep a lo hi => 2 + lo.toNat * nst a + (if hi = -1 then nst a + 1 else (hi - lo).toNat * (nst a + 1))
theorem nst_two : ∀ t, 2 ≤ nst t
  | .leaf _ => Nat.le_refl _
  | .cat a b => by have := nst_two a; show 2 ≤ nst a + nst b; omega
  | .or a b => by show 2 ≤ nst a + nst b + 2; omega
  | .rep a lo hi => by show 2 ≤ 2 + _ + _; omega
def skd (k : Int) : Int := if k = 1 then 1 else if k = 2 then 2 else if k = 3 then 4 else 5
/-- Some copies of a part, one behind the other: what is ahead goes to the first, the last one's last state is ahead then. -/
def cps (S : Nat → Sd) (P : Nat → Nat → Nat → Prop) (sz : Nat) : Nat → Nat → Nat → Nat → Nat → Prop
  | 0, base, ah, base', ah' => base' = base ∧ ah' = ah
  | m + 1, base, ah, base', ah' => ∃ f l : Nat, S ah = sE f ∧ P base f l ∧ cps S P sz m (base + sz) l base' ah'
/-- Some copies that may be left out, and the last state. -/
def opts (S : Nat → Sd) (P : Nat → Nat → Nat → Prop) (sz : Nat) : Nat → Nat → Nat → Nat → Prop
  | 0, base, ah, L => L = base ∧ S ah = sE L
  | m + 1, base, ah, L => ∃ f l : Nat, P base f l ∧ S (base + sz) = sS f L ∧ S ah = sE (base + sz : Nat) ∧ opts S P sz m (base + sz + 1) l L
/-- A copy that may come again and again, and the last state. -/
def again9 (S : Nat → Sd) (P : Nat → Nat → Nat → Prop) (sz base ah L : Nat) : Prop :=
  ∃ f l : Nat, P base f l ∧ S (base + sz) = sS f L ∧ S ah = sE (base + sz : Nat) ∧ S l = sE (base + sz : Nat) ∧ L = base + sz + 1
/-- A tree's part lies in S from a place on, its first and its last state; where the last one goes is not told. -/
def isFr (S : Nat → Sd) : Tr → Nat → Nat → Nat → Prop
  | .leaf x, base, f, l => f = base ∧ l = base + 1 ∧ S f = ⟨skd x.k, x.a, x.b, x.c, x.d, (base + 1 : Nat), 0⟩
  | .cat a b, base, f, l => ∃ la fb : Nat, isFr S a base f la ∧ isFr S b (base + nst a) fb l ∧ S la = sE fb
  | .or a b, base, f, l => ∃ fa la fb lb : Nat, isFr S a base fa la ∧ isFr S b (base + nst a) fb lb ∧ f = base + nst a + nst b ∧ l = f + 1 ∧ S f = sS fa fb ∧ S la = sE l ∧ S lb = sE l
  | .rep a lo hi, base, f, l => f = base ∧ ∃ base' ah, cps S (isFr S a) (nst a) lo.toNat (base + 1) base base' ah ∧
      (if hi = -1 then again9 S (isFr S a) (nst a) base' ah l else opts S (isFr S a) (nst a) (hi - lo).toNat base' ah l)

/-- A part's first and last state lie in it, and are two. -/
def inP (P : Nat → Nat → Nat → Prop) (sz : Nat) : Prop := ∀ b f l, P b f l → b ≤ f ∧ f < b + sz ∧ b ≤ l ∧ l < b + sz ∧ f ≠ l
theorem cps_bd {S : Nat → Sd} {P : Nat → Nat → Nat → Prop} {sz : Nat} (hP : inP P sz) : ∀ {m base ah base' ah'}, cps S P sz m base ah base' ah' → base' = base + m * sz ∧ ((m = 0 ∧ ah' = ah) ∨ (base ≤ ah' ∧ ah' < base'))
  | 0, _, _, _, _, ⟨h1, h2⟩ => ⟨by omega, .inl ⟨rfl, h2⟩⟩
  | m + 1, base, ah, base', ah', ⟨f, l, _, h2, h3⟩ => by
    obtain ⟨g1, g2⟩ := cps_bd hP h3
    obtain ⟨k1, k2, k3, k4, _⟩ := hP _ _ _ h2
    have e : (m + 1) * sz = m * sz + sz := Nat.succ_mul m sz
    refine ⟨by omega, .inr ?_⟩
    rcases g2 with ⟨rfl, rfl⟩ | g2
    · rw [Nat.zero_mul] at g1; omega
    · omega
theorem opts_bd {S : Nat → Sd} {P : Nat → Nat → Nat → Prop} {sz : Nat} : ∀ {m base ah L}, opts S P sz m base ah L → L = base + m * (sz + 1)
  | 0, _, _, _, ⟨h1, _⟩ => by omega
  | m + 1, base, ah, L, ⟨f, l, _, _, _, h3⟩ => by
    have g1 := opts_bd h3
    have e : (m + 1) * (sz + 1) = m * (sz + 1) + (sz + 1) := Nat.succ_mul m (sz + 1)
    omega
theorem fr_bd (S : Nat → Sd) : ∀ t, inP (isFr S t) (nst t)
  | .leaf x, b, f, l, ⟨h1, h2, _⟩ => by show _ ∧ _ < b + 2 ∧ _ ∧ _ < b + 2 ∧ _; omega
  | .cat x y, b, f, l, ⟨la, fb, h1, h2, _⟩ => by
    have g1 := fr_bd S x _ _ _ h1
    have g2 := fr_bd S y _ _ _ h2
    show _ ∧ _ < b + (nst x + nst y) ∧ _ ∧ _ < b + (nst x + nst y) ∧ _
    omega
  | .or x y, b, f, l, ⟨fa, la, fb, lb, h1, h2, h3, h4, _⟩ => by
    show _ ∧ _ < b + (nst x + nst y + 2) ∧ _ ∧ _ < b + (nst x + nst y + 2) ∧ _
    omega
  | .rep x lo hi, b, f, l, ⟨h1, base', ah, h2, h3⟩ => by
    have g1 := (cps_bd (fr_bd S x) h2).1
    show _ ∧ _ < b + (2 + lo.toNat * nst x + _) ∧ _ ∧ _ < b + (2 + lo.toNat * nst x + _) ∧ _
    by_cases hh : hi = -1
    · rw [if_pos hh] at h3 ⊢
      obtain ⟨_, _, _, _, _, _, h8⟩ := h3
      omega
    · rw [if_neg hh] at h3 ⊢
      have := opts_bd h3
      omega
end Go.Proofs.Ytnoaejpabfnfpaa

namespace Go.Proofs.Ytnoaejpabfnfpaa

section
variable {S : Nat → Sd} {n : Nat} {tx : Nat → Nat} {qf jf : Nat}
/-- From a part's first state one comes to its last one only by what fits. -/
def fwdP (S : Nat → Sd) (n : Nat) (tx : Nat → Nat) (qf jf : Nat) (P : Nat → Nat → Nat → Prop) (x : Gr) (sz : Nat) : Prop :=
  ∀ b f l, P b f l → (∀ q, b ≤ q → q < b + sz → q = qf → q = l) → ∀ r i, i ≤ n → wk S n tx qf jf r f i → ∃ j r', i ≤ j ∧ j ≤ n ∧ r' < r ∧ x i j = true ∧ wk S n tx qf jf r' l j
/-- By what fits one comes from the first state to the last one. -/
def bwdP (S : Nat → Sd) (n : Nat) (tx : Nat → Nat) (qf jf : Nat) (P : Nat → Nat → Nat → Prop) (x : Gr) : Prop :=
  ∀ b f l, P b f l → ∀ i j, i ≤ j → j ≤ n → x i j = true → ∀ r, wk S n tx qf jf r l j → ∃ r', wk S n tx qf jf r' f i

theorem cps_fwd {P : Nat → Nat → Nat → Prop} {x : Gr} {sz : Nat} (hP : inP P sz) (hf : fwdP S n tx qf jf P x sz) : ∀ {m base ah base' ah'}, cps S P sz m base ah base' ah' → (∀ q, base ≤ q → q < base' → q ≠ qf) → ah ≠ qf →
    ∀ r i, i ≤ n → wk S n tx qf jf r ah i → ∃ j r', pw n x m i j ∧ r' ≤ r ∧ wk S n tx qf jf r' ah' j
  | 0, base, ah, base', ah', ⟨_, h2⟩, _, _, r, i, hi, hw => by subst h2; exact ⟨i, r, ⟨rfl, hi⟩, Nat.le_refl _, hw⟩
  | m + 1, base, ah, base', ah', ⟨f, l, h1, h2, h3⟩, hq, ha, r, i, hi, hw => by
    obtain ⟨r1, rfl⟩ := wk_pos hw ha
    have hw := (wk_E h1).1 hw
    have hb := (cps_bd hP h3).1
    obtain ⟨k1, k2, k3, k4, _⟩ := hP _ _ _ h2
    have hle : base + sz ≤ base' := by rw [hb]; exact Nat.le_add_right _ _
    obtain ⟨j1, r2, a1, a2, a3, a4, a5⟩ := hf base f l h2 (fun q g1 g2 g3 => absurd g3 (hq q g1 (by omega))) r1 i hi hw
    obtain ⟨j, r', b1, b2, b3⟩ := cps_fwd hP hf h3 (fun q g1 g2 => hq q (by omega) g2) (hq l k3 (by omega)) r2 j1 a2 a5
    exact ⟨j, r', ⟨j1, a1, a2, a4, b1⟩, by omega, b3⟩
theorem cps_bwd {P : Nat → Nat → Nat → Prop} {x : Gr} {sz : Nat} (hf : bwdP S n tx qf jf P x) : ∀ {m base ah base' ah'}, cps S P sz m base ah base' ah' → ∀ i j, pw n x m i j → ∀ r, wk S n tx qf jf r ah' j → ∃ r', wk S n tx qf jf r' ah i
  | 0, base, ah, base', ah', ⟨_, h2⟩, i, j, ⟨h3, _⟩, r, hw => by subst h2 h3; exact ⟨r, hw⟩
  | m + 1, base, ah, base', ah', ⟨f, l, h1, h2, h3⟩, i, j, ⟨m1, g1, g2, g3, g4⟩, r, hw => by
    obtain ⟨r1, k1⟩ := cps_bwd hf h3 m1 j g4 r hw
    obtain ⟨r2, k2⟩ := hf base f l h2 i m1 g1 g2 g3 r1 k1
    exact ⟨r2 + 1, (wk_E h1).2 k2⟩
theorem opts_fwd {P : Nat → Nat → Nat → Prop} {x : Gr} {sz : Nat} (hP : inP P sz) (hf : fwdP S n tx qf jf P x sz) : ∀ {m base ah L}, opts S P sz m base ah L → (∀ q, base ≤ q → q < L → q ≠ qf) → ah ≠ qf →
    ∀ r i, i ≤ n → wk S n tx qf jf r ah i → ∃ k j r', k ≤ m ∧ pw n x k i j ∧ r' < r ∧ wk S n tx qf jf r' L j
  | 0, base, ah, L, ⟨_, h2⟩, _, ha, r, i, hi, hw => by
    obtain ⟨r1, rfl⟩ := wk_pos hw ha
    exact ⟨0, i, r1, Nat.le_refl _, ⟨rfl, hi⟩, Nat.lt_succ_self _, (wk_E h2).1 hw⟩
  | m + 1, base, ah, L, ⟨f, l, h1, h2, h3, h4⟩, hq, ha, r, i, hi, hw => by
    obtain ⟨r1, rfl⟩ := wk_pos hw ha
    have hw := (wk_E h3).1 hw
    have hb := opts_bd h4
    have hle : base + sz + 1 ≤ L := by rw [hb]; exact Nat.le_add_right _ _
    obtain ⟨k1, k2, k3, k4, _⟩ := hP _ _ _ h1
    obtain ⟨r2, rfl⟩ := wk_pos hw (hq _ (by omega) (by omega))
    rcases (wk_S h2).1 hw with hw | hw
    · obtain ⟨j1, r3, a1, a2, a3, a4, a5⟩ := hf base f l h1 (fun q g1 g2 g3 => absurd g3 (hq q g1 (by omega))) r2 i hi hw
      obtain ⟨k, j, r', b0, b1, b2, b3⟩ := opts_fwd hP hf h4 (fun q g1 g2 => hq q (by omega) g2) (hq l k3 (by omega)) r3 j1 a2 a5
      exact ⟨k + 1, j, r', by omega, ⟨j1, a1, a2, a4, b1⟩, by omega, b3⟩
    · exact ⟨0, i, r2, Nat.zero_le _, ⟨rfl, hi⟩, by omega, hw⟩
theorem opts_bwd {P : Nat → Nat → Nat → Prop} {x : Gr} {sz : Nat} (hf : bwdP S n tx qf jf P x) : ∀ {m base ah L}, opts S P sz m base ah L → ∀ k i j, k ≤ m → pw n x k i j → ∀ r, wk S n tx qf jf r L j → ∃ r', wk S n tx qf jf r' ah i
  | 0, base, ah, L, ⟨_, h2⟩, k, i, j, hk, h3, r, hw => by
    obtain rfl : k = 0 := by omega
    obtain ⟨rfl, -⟩ := h3
    exact ⟨r + 1, (wk_E h2).2 hw⟩
  | m + 1, base, ah, L, ⟨f, l, h1, h2, h3, h4⟩, k, i, j, hk, hp, r, hw => by
    cases k with
    | zero =>
      obtain ⟨rfl, -⟩ := hp
      exact ⟨r + 1 + 1, (wk_E h3).2 ((wk_S h2).2 (.inr hw))⟩
    | succ k =>
      obtain ⟨m1, g1, g2, g3, g4⟩ := hp
      obtain ⟨r1, k1⟩ := opts_bwd hf h4 k m1 j (by omega) g4 r hw
      obtain ⟨r2, k2⟩ := hf base f l h1 i m1 g1 g2 g3 r1 k1
      exact ⟨r2 + 1 + 1, (wk_E h3).2 ((wk_S h2).2 (.inl k2))⟩
theorem again_fwd {P : Nat → Nat → Nat → Prop} {x : Gr} {sz base ah L : Nat} (hP : inP P sz) (hf : fwdP S n tx qf jf P x sz) (h : again9 S P sz base ah L) (hq : ∀ q, base ≤ q → q < L → q ≠ qf) (ha : ah ≠ qf) :
    ∀ r i, i ≤ n → wk S n tx qf jf r ah i → ∃ k j r', pw n x k i j ∧ r' < r ∧ wk S n tx qf jf r' L j := by
  obtain ⟨f, l, h1, h2, h3, h4, h5⟩ := h
  obtain ⟨k1, k2, k3, k4, _⟩ := hP _ _ _ h1
  have main : ∀ R r i, r ≤ R → i ≤ n → wk S n tx qf jf r (base + sz) i → ∃ k j r', pw n x k i j ∧ r' < r ∧ wk S n tx qf jf r' L j := by
    intro R
    induction R with
    | zero =>
      intro r i hr hi hw
      obtain ⟨r1, rfl⟩ := wk_pos hw (hq _ (by omega) (by omega))
      omega
    | succ R ih =>
      intro r i hr hi hw
      obtain ⟨r1, rfl⟩ := wk_pos hw (hq _ (by omega) (by omega))
      rcases (wk_S h2).1 hw with hw | hw
      · obtain ⟨j1, r2, a1, a2, a3, a4, a5⟩ := hf base f l h1 (fun q g1 g2 g3 => absurd g3 (hq q g1 (by omega))) r1 i hi hw
        obtain ⟨r3, rfl⟩ := wk_pos a5 (hq l k3 (by omega))
        obtain ⟨k, j, r', b1, b2, b3⟩ := ih r3 j1 (by omega) a2 ((wk_E h4).1 a5)
        exact ⟨k + 1, j, r', ⟨j1, a1, a2, a4, b1⟩, by omega, b3⟩
      · exact ⟨0, i, r1, ⟨rfl, hi⟩, by omega, hw⟩
  intro r i hi hw
  obtain ⟨r1, rfl⟩ := wk_pos hw ha
  obtain ⟨k, j, r', b1, b2, b3⟩ := main r1 r1 i (Nat.le_refl _) hi ((wk_E h3).1 hw)
  exact ⟨k, j, r', b1, by omega, b3⟩
theorem again_bwd {P : Nat → Nat → Nat → Prop} {x : Gr} {sz base ah L : Nat} (hf : bwdP S n tx qf jf P x) (h : again9 S P sz base ah L) : ∀ k i j, pw n x k i j → ∀ r, wk S n tx qf jf r L j → ∃ r', wk S n tx qf jf r' ah i := by
  obtain ⟨f, l, h1, h2, h3, h4, h5⟩ := h
  have main : ∀ k i j, pw n x k i j → ∀ r, wk S n tx qf jf r L j → ∃ r', wk S n tx qf jf r' (base + sz) i := by
    intro k
    induction k with
    | zero =>
      rintro i j ⟨rfl, -⟩ r hw
      exact ⟨r + 1, (wk_S h2).2 (.inr hw)⟩
    | succ k ih =>
      rintro i j ⟨m1, g1, g2, g3, g4⟩ r hw
      obtain ⟨r1, w1⟩ := ih m1 j g4 r hw
      obtain ⟨r2, w2⟩ := hf base f l h1 i m1 g1 g2 g3 (r1 + 1) ((wk_E h4).2 w1)
      exact ⟨r2 + 1, (wk_S h2).2 (.inl w2)⟩
  intro k i j hp r hw
  obtain ⟨r1, w1⟩ := main k i j hp r hw
  exact ⟨r1 + 1, (wk_E h3).2 w1⟩

theorem leaf_fwd {x : Nd} (h : okT (.leaf x)) : fwdP S n tx qf jf (isFr S (.leaf x)) (leafB7 n tx x) 2 := by
  rintro b f l ⟨rfl, rfl, h3⟩ hq r i hi hw
  obtain ⟨r1, rfl⟩ := wk_pos hw (fun e => by have := hq f (Nat.le_refl _) (by omega) e; omega)
  obtain ⟨q', i', hs, hw⟩ := hw
  unfold stp at hs
  rw [h3] at hs
  rcases h with ⟨h1, -⟩ | rfl | rfl | rfl
  · have e : skd x.k = 1 := by unfold skd; rw [if_pos h1]
    simp only [e] at hs
    rcases hs with ⟨-, g1, g2, g3, rfl⟩ | ⟨-, g⟩
    · obtain rfl : q' = f + 1 := by omega
      refine ⟨i + 1, r1, by omega, by omega, by omega, ?_, hw⟩
      unfold leafB7
      rw [if_pos h1, decide_eq_true g1, decide_eq_true (show i + 1 = i + 1 from rfl)]
      exact g2
    · omega
  · simp only [show skd (nd0 2).k = 2 from rfl] at hs
    rcases hs with ⟨g, -⟩ | ⟨rfl, ⟨-, g⟩ | ⟨g, -⟩⟩
    · omega
    · obtain rfl : q' = f + 1 := by omega
      exact ⟨i', r1, Nat.le_refl _, hi, by omega, even_iff.2 ⟨rfl, hi⟩, hw⟩
    · omega
  · simp only [show skd (nd0 3).k = 4 from rfl] at hs
    rcases hs with ⟨g, -⟩ | ⟨rfl, ⟨g0, g⟩ | ⟨g, -⟩⟩
    · omega
    · obtain rfl : q' = f + 1 := by omega
      obtain rfl : i' = 0 := by omega
      exact ⟨0, r1, Nat.le_refl _, hi, by omega, rfl, hw⟩
    · omega
  · simp only [show skd (nd0 4).k = 5 from rfl] at hs
    rcases hs with ⟨g, -⟩ | ⟨rfl, ⟨g0, g⟩ | ⟨g, -⟩⟩
    · omega
    · obtain rfl : q' = f + 1 := by omega
      obtain rfl : i' = n := by omega
      refine ⟨i', r1, Nat.le_refl _, hi, by omega, ?_, hw⟩
      show (decide (i' = i') && decide (i' = i')) = true
      simp
    · omega
theorem leaf_bwd {x : Nd} (h : okT (.leaf x)) : bwdP S n tx qf jf (isFr S (.leaf x)) (leafB7 n tx x) := by
  rintro b f l ⟨rfl, rfl, h3⟩ i j hij hj hx r hw
  have hl : ((f + 1 : Nat) : Int) = (S f).A := by rw [h3]
  rcases h with ⟨h1, -⟩ | rfl | rfl | rfl
  · unfold leafB7 at hx
    rw [if_pos h1] at hx
    simp only [Bool.and_eq_true, decide_eq_true_eq] at hx
    obtain ⟨⟨g1, rfl⟩, g2⟩ := hx
    exact ⟨r + 1, f + 1, i + 1, .inl ⟨by rw [h3]; unfold skd; rw [if_pos h1], g1, by rw [h3]; exact g2, hl, rfl⟩, hw⟩
  · obtain ⟨rfl, -⟩ := even_iff.1 (show evenB n i j = true from hx)
    exact ⟨r + 1, f + 1, i, .inr ⟨rfl, .inl ⟨.inl (by rw [h3]; rfl), hl⟩⟩, hw⟩
  · have hx : (decide (i = 0) && decide (j = 0)) = true := hx
    simp only [Bool.and_eq_true, decide_eq_true_eq] at hx
    obtain ⟨rfl, rfl⟩ := hx
    exact ⟨r + 1, f + 1, 0, .inr ⟨rfl, .inl ⟨.inr (.inr (.inl ⟨by rw [h3]; rfl, rfl⟩)), hl⟩⟩, hw⟩
  · have hx : (decide (i = n) && decide (j = n)) = true := hx
    simp only [Bool.and_eq_true, decide_eq_true_eq] at hx
    obtain ⟨e1, e2⟩ := hx
    refine ⟨r + 1, f + 1, j, .inr ⟨by omega, .inl ⟨.inr (.inr (.inr ⟨by rw [h3]; rfl, e1⟩)), hl⟩⟩, hw⟩
theorem rep_iff {x : Gr} {lo more i j : Nat} (h1 : i ≤ j) (h2 : j ≤ n) : repB n x lo more i j = true ↔ ∃ k, k ≤ more ∧ pw n x (lo + k) i j := by
  unfold repB
  rw [List.any_eq_true]
  constructor
  · rintro ⟨k, hk, h⟩
    exact ⟨k, by have := List.mem_range.1 hk; omega, (pw_iff h1 h2).1 h⟩
  · rintro ⟨k, hk, h⟩
    exact ⟨k, List.mem_range.2 (by omega), (pw_iff h1 h2).2 h⟩

theorem fwd_fr : ∀ t, okT t → fwdP S n tx qf jf (isFr S t) (fitT n tx t) (nst t)
  | .leaf x, h => leaf_fwd h
  | .cat a b, h => by
    rintro B f l ⟨la, fb, h1, h2, h3⟩ hq r i hi hw
    have ba := fr_bd S a _ _ _ h1
    have bb := fr_bd S b _ _ _ h2
    have hq : ∀ q, B ≤ q → q < B + (nst a + nst b) → q = qf → q = l := hq
    obtain ⟨j1, r1, a1, a2, a3, a4, a5⟩ := fwd_fr a h.1 B f la h1 (fun q g1 g2 g3 => by have := hq q g1 (by omega) g3; omega) r i hi hw
    obtain ⟨r2, rfl⟩ := wk_pos a5 (fun e => by have := hq la (by omega) (by omega) e; omega)
    obtain ⟨j, r', b1, b2, b3, b4, b5⟩ := fwd_fr b h.2 _ fb l h2 (fun q g1 g2 g3 => hq q (by omega) (by omega) g3) r2 j1 a2 ((wk_E h3).1 a5)
    exact ⟨j, r', by omega, b2, by omega, beh_iff.2 ⟨j1, a2, a1, b1, a4, b4⟩, b5⟩
  | .or a b, h => by
    rintro B f l ⟨fa, la, fb, lb, h1, h2, h3, h4, h5, h6, h7⟩ hq r i hi hw
    have ba := fr_bd S a _ _ _ h1
    have bb := fr_bd S b _ _ _ h2
    have hq : ∀ q, B ≤ q → q < B + (nst a + nst b + 2) → q = qf → q = l := hq
    obtain ⟨r1, rfl⟩ := wk_pos hw (fun e => by have := hq f (by omega) (by omega) e; omega)
    rcases (wk_S h5).1 hw with hw | hw
    · obtain ⟨j, r2, a1, a2, a3, a4, a5⟩ := fwd_fr a h.1 B fa la h1 (fun q g1 g2 g3 => by have := hq q g1 (by omega) g3; omega) r1 i hi hw
      obtain ⟨r3, rfl⟩ := wk_pos a5 (fun e => by have := hq la (by omega) (by omega) e; omega)
      refine ⟨j, r3, a1, a2, by omega, ?_, (wk_E h6).1 a5⟩
      show (fitT n tx a i j || fitT n tx b i j) = true
      rw [a4]; rfl
    · obtain ⟨j, r2, a1, a2, a3, a4, a5⟩ := fwd_fr b h.2 _ fb lb h2 (fun q g1 g2 g3 => by have := hq q (by omega) (by omega) g3; omega) r1 i hi hw
      obtain ⟨r3, rfl⟩ := wk_pos a5 (fun e => by have := hq lb (by omega) (by omega) e; omega)
      refine ⟨j, r3, a1, a2, by omega, ?_, (wk_E h7).1 a5⟩
      show (fitT n tx a i j || fitT n tx b i j) = true
      rw [a4, Bool.or_true]
  | .rep a lo hi, h => by
    rintro B f l ⟨rfl, base', ah, h2, h3⟩ hq r i hi' hw
    have hP := fr_bd S a
    have hr := fr_bd S (.rep a lo hi) f f l ⟨rfl, base', ah, h2, h3⟩
    have hf := fwd_fr a h.1
    obtain ⟨c1, c2⟩ := cps_bd hP h2
    have hll : base' ≤ l ∧ l + 1 = f + nst (.rep a lo hi) := by
      show base' ≤ l ∧ l + 1 = f + (2 + lo.toNat * nst a + _)
      by_cases hh : hi = -1
      · rw [if_pos hh] at h3 ⊢
        obtain ⟨_, _, _, _, _, _, h8⟩ := h3
        omega
      · rw [if_neg hh] at h3 ⊢
        have := opts_bd h3
        have e := Nat.zero_le ((hi - lo).toNat * (nst a + 1))
        omega
    have hq' : ∀ q, f ≤ q → q < l → q ≠ qf := fun q g1 g2 g3 => by have := hq q g1 (by omega) g3; omega
    have hah : f ≤ ah ∧ ah < l := by
      rcases c2 with ⟨e1, rfl⟩ | c2
      · omega
      · omega
    obtain ⟨j1, r1, a1, a2, a3⟩ := cps_fwd hP hf h2 (fun q g1 g2 => hq' q (by omega) (by omega)) (hq' f (Nat.le_refl _) (by omega)) r i hi' hw
    have hp1 := pw_le a1
    by_cases hh : hi = -1
    · rw [if_pos hh] at h3
      obtain ⟨k, j, r', b1, b2, b3⟩ := again_fwd hP hf h3 (fun q g1 g2 => hq' q (by omega) g2) (hq' ah hah.1 hah.2) r1 j1 hp1.2 a3
      have hp2 := pw_le b1
      have hp := pw_add a1 b1
      refine ⟨j, r', by omega, hp2.2, by omega, ?_, b3⟩
      show repB n (fitT n tx a) lo.toNat (moreN n lo hi) i j = true
      rw [show moreN n lo hi = n by unfold moreN; rw [if_pos hh]]
      refine (rep_iff (by omega) hp2.2).2 ?_
      rcases Nat.lt_or_ge n k with hk | hk
      · exact pw_few lo.toNat (k - n) (by rw [show lo.toNat + n + (k - n) = lo.toNat + k by omega]; exact hp)
      · exact ⟨k, hk, hp⟩
    · rw [if_neg hh] at h3
      obtain ⟨k, j, r', b0, b1, b2, b3⟩ := opts_fwd hP hf h3 (fun q g1 g2 => hq' q (by omega) g2) (hq' ah hah.1 hah.2) r1 j1 hp1.2 a3
      have hp2 := pw_le b1
      have hp := pw_add a1 b1
      refine ⟨j, r', by omega, hp2.2, by omega, ?_, b3⟩
      show repB n (fitT n tx a) lo.toNat (moreN n lo hi) i j = true
      rw [show moreN n lo hi = (hi - lo).toNat by unfold moreN; rw [if_neg hh]]
      exact (rep_iff (by omega) hp2.2).2 ⟨k, b0, hp⟩
theorem bwd_fr : ∀ t, okT t → bwdP S n tx qf jf (isFr S t) (fitT n tx t)
  | .leaf x, h => leaf_bwd h
  | .cat a b, h => by
    rintro B f l ⟨la, fb, h1, h2, h3⟩ i j hij hj hx r hw
    obtain ⟨m, g1, g2, g3, g4, g5⟩ := beh_iff.1 (show behB n (fitT n tx a) (fitT n tx b) i j = true from hx)
    obtain ⟨r1, w1⟩ := bwd_fr b h.2 _ fb l h2 m j g3 hj g5 r hw
    exact bwd_fr a h.1 B f la h1 i m g2 g1 g4 (r1 + 1) ((wk_E h3).2 w1)
  | .or a b, h => by
    rintro B f l ⟨fa, la, fb, lb, h1, h2, h3, h4, h5, h6, h7⟩ i j hij hj hx r hw
    have hx : (fitT n tx a i j || fitT n tx b i j) = true := hx
    rcases Bool.or_eq_true_iff.1 hx with hx | hx
    · obtain ⟨r1, w1⟩ := bwd_fr a h.1 B fa la h1 i j hij hj hx (r + 1) ((wk_E h6).2 hw)
      exact ⟨r1 + 1, (wk_S h5).2 (.inl w1)⟩
    · obtain ⟨r1, w1⟩ := bwd_fr b h.2 _ fb lb h2 i j hij hj hx (r + 1) ((wk_E h7).2 hw)
      exact ⟨r1 + 1, (wk_S h5).2 (.inr w1)⟩
  | .rep a lo hi, h => by
    rintro B f l ⟨rfl, base', ah, h2, h3⟩ i j hij hj hx r hw
    have hf := bwd_fr a h.1
    obtain ⟨k, hk, hp⟩ := (rep_iff hij hj).1 (show repB n (fitT n tx a) lo.toNat (moreN n lo hi) i j = true from hx)
    obtain ⟨m, p1, p2⟩ := pw_split hp
    have : ∃ r', wk S n tx qf jf r' ah m := by
      by_cases hh : hi = -1
      · rw [if_pos hh] at h3
        exact again_bwd hf h3 k m j p2 r hw
      · rw [if_neg hh] at h3
        rw [show moreN n lo hi = (hi - lo).toNat by unfold moreN; rw [if_neg hh]] at hk
        exact opts_bwd hf h3 k m j hk p2 r hw
    obtain ⟨r1, w1⟩ := this
    exact cps_bwd hf h2 i m p1 r1 w1
end
/-- Just the parts that fit a tree lead through its automaton. -/
theorem fits_wk {S : Nat → Sd} {n : Nat} {tx : Nat → Nat} {t : Tr} (h : okT t) {f l : Nat} (hS : isFr S t 0 f l) (hl : (S l).k = 6) (i j : Nat) (hij : i ≤ j) (hj : j ≤ n) : fitT n tx t i j = true ↔ ∃ r, wk S n tx l j r f i := by
  constructor
  · intro hx
    exact bwd_fr t h 0 f l hS i j hij hj hx 0 ⟨rfl, rfl⟩
  · rintro ⟨r, hw⟩
    obtain ⟨j', r', a1, a2, a3, a4, a5⟩ := fwd_fr t h 0 f l hS (fun q _ _ e => e) r i (by omega) hw
    cases r' with
    | zero => obtain ⟨-, rfl⟩ := a5; exact a4
    | succ r' =>
      obtain ⟨q', i', hs, -⟩ := a5
      unfold stp at hs
      rw [hl] at hs
      omega
end Go.Proofs.Ytnoaejpabfnfpaa

namespace Go.Proofs.Ytnoaejpabfnfpaa

section
variable {S S' : Nat → Sd}
/-- Two parts of one tree at one place are the same, but for their last states. -/
def unP (S S' : Nat → Sd) (P P' : Nat → Nat → Nat → Prop) (sz : Nat) : Prop := ∀ b f l f' l', P b f l → P' b f' l' → f = f' ∧ l = l' ∧ ∀ q, b ≤ q → q < b + sz → q ≠ l → S q = S' q
theorem cps_un {P P' : Nat → Nat → Nat → Prop} {sz : Nat} (hP : inP P sz) (hu : unP S S' P P' sz) : ∀ {m base ah b1 a1 b2 a2}, cps S P sz m base ah b1 a1 → cps S' P' sz m base ah b2 a2 →
    b1 = b2 ∧ a1 = a2 ∧ ∀ q, (q = ah ∨ (base ≤ q ∧ q < b1)) → q ≠ a1 → S q = S' q
  | 0, base, ah, b1, a1, b2, a2, ⟨h1, h2⟩, ⟨g1, g2⟩ => ⟨by omega, by omega, fun q hq hn => by omega⟩
  | m + 1, base, ah, b1, a1, b2, a2, ⟨f, l, h1, h2, h3⟩, ⟨f', l', g1, g2, g3⟩ => by
    obtain ⟨rfl, rfl, hs⟩ := hu _ _ _ _ _ h2 g2
    obtain ⟨c1, c2, c3⟩ := cps_un hP hu h3 g3
    obtain ⟨k1, k2, k3, k4, _⟩ := hP _ _ _ h2
    refine ⟨c1, c2, fun q hq hn => ?_⟩
    by_cases e : q = ah
    · rw [e, h1, g1]
    · by_cases el : q = l
      · exact c3 q (.inl el) hn
      · rcases Nat.lt_or_ge q (base + sz) with hlt | hge
        · exact hs q (by omega) hlt el
        · exact c3 q (.inr ⟨hge, by omega⟩) hn
theorem opts_un {P P' : Nat → Nat → Nat → Prop} {sz : Nat} (hP : inP P sz) (hu : unP S S' P P' sz) : ∀ {m base ah L L'}, opts S P sz m base ah L → opts S' P' sz m base ah L' → L = L' ∧ ∀ q, (q = ah ∨ (base ≤ q ∧ q < L)) → S q = S' q
  | 0, base, ah, L, L', ⟨h1, h2⟩, ⟨g1, g2⟩ => by
    obtain rfl : L = L' := by omega
    refine ⟨rfl, fun q hq => ?_⟩
    obtain rfl : q = ah := by omega
    rw [h2, g2]
  | m + 1, base, ah, L, L', ⟨f, l, h1, h2, h3, h4⟩, ⟨f', l', g1, g2, g3, g4⟩ => by
    obtain ⟨rfl, rfl, hs⟩ := hu _ _ _ _ _ h1 g1
    obtain ⟨rfl, c3⟩ := opts_un hP hu h4 g4
    obtain ⟨k1, k2, k3, k4, _⟩ := hP _ _ _ h1
    refine ⟨rfl, fun q hq => ?_⟩
    by_cases e : q = ah
    · rw [e, h3, g3]
    · by_cases el : q = l
      · exact c3 q (.inl el)
      · rcases Nat.lt_or_ge q (base + sz) with hlt | hge
        · exact hs q (by omega) hlt el
        · by_cases es : q = base + sz
          · rw [es, h2, g2]
          · exact c3 q (.inr ⟨by omega, by omega⟩)
theorem again_un {P P' : Nat → Nat → Nat → Prop} {sz base ah L L' : Nat} (hu : unP S S' P P' sz) (h : again9 S P sz base ah L) (g : again9 S' P' sz base ah L') : L = L' ∧ ∀ q, (q = ah ∨ (base ≤ q ∧ q < L)) → S q = S' q := by
  obtain ⟨f, l, h1, h2, h3, h4, h5⟩ := h
  obtain ⟨f', l', g1, g2, g3, g4, g5⟩ := g
  obtain ⟨rfl, rfl, hs⟩ := hu _ _ _ _ _ h1 g1
  obtain rfl : L = L' := by omega
  refine ⟨rfl, fun q hq => ?_⟩
  by_cases e : q = ah
  · rw [e, h3, g3]
  · by_cases el : q = l
    · rw [el, h4, g4]
    · rcases Nat.lt_or_ge q (base + sz) with hlt | hge
      · exact hs q (by omega) hlt el
      · obtain rfl : q = base + sz := by omega
        rw [h2, g2]
theorem fr_un : ∀ t, unP S S' (isFr S t) (isFr S' t) (nst t)
  | .leaf x => by
    rintro b f l f' l' ⟨rfl, rfl, h3⟩ ⟨rfl, rfl, g3⟩
    refine ⟨rfl, rfl, fun q h1 h2 hn => ?_⟩
    have h2 : q < f' + 2 := h2
    obtain rfl : q = f' := by omega
    rw [h3, g3]
  | .cat a b => by
    rintro B f l f' l' ⟨la, fb, h1, h2, h3⟩ ⟨la', fb', g1, g2, g3⟩
    have ba := fr_bd S a _ _ _ h1
    have bb := fr_bd S b _ _ _ h2
    obtain ⟨rfl, rfl, hs⟩ := fr_un a _ _ _ _ _ h1 g1
    obtain ⟨rfl, rfl, ht⟩ := fr_un b _ _ _ _ _ h2 g2
    refine ⟨rfl, rfl, fun q k1 k2 hn => ?_⟩
    have k2 : q < B + (nst a + nst b) := k2
    by_cases e : q = la
    · rw [e, h3, g3]
    · rcases Nat.lt_or_ge q (B + nst a) with hlt | hge
      · exact hs q k1 hlt e
      · exact ht q hge (by omega) hn
  | .or a b => by
    rintro B f l f' l' ⟨fa, la, fb, lb, h1, h2, h3, h4, h5, h6, h7⟩ ⟨fa', la', fb', lb', g1, g2, g3, g4, g5, g6, g7⟩
    have ba := fr_bd S a _ _ _ h1
    have bb := fr_bd S b _ _ _ h2
    obtain ⟨rfl, rfl, hs⟩ := fr_un a _ _ _ _ _ h1 g1
    obtain ⟨rfl, rfl, ht⟩ := fr_un b _ _ _ _ _ h2 g2
    obtain rfl : f = f' := by omega
    obtain rfl : l = l' := by omega
    refine ⟨rfl, rfl, fun q k1 k2 hn => ?_⟩
    have k2 : q < B + (nst a + nst b + 2) := k2
    by_cases e : q = la
    · rw [e, h6, g6]
    · by_cases e' : q = lb
      · rw [e', h7, g7]
      · rcases Nat.lt_or_ge q (B + nst a) with hlt | hge
        · exact hs q k1 hlt e
        · rcases Nat.lt_or_ge q (B + nst a + nst b) with hlt | hge'
          · exact ht q hge hlt e'
          · obtain rfl : q = f := by omega
            rw [h5, g5]
  | .rep a lo hi => by
    rintro B f l f' l' h g
    have hb := fr_bd S _ _ _ _ h
    obtain ⟨rfl, b1, a1, h2, h3⟩ := h
    obtain ⟨rfl, b2, a2, g2, g3⟩ := g
    obtain ⟨rfl, rfl, hs⟩ := cps_un (fr_bd S a) (fr_un a) h2 g2
    have hl : l + 1 = f' + nst (.rep a lo hi) := by
      have c1 := (cps_bd (fr_bd S a) h2).1
      show l + 1 = f' + (2 + lo.toNat * nst a + _)
      by_cases hh : hi = -1
      · rw [if_pos hh] at h3 ⊢
        obtain ⟨_, _, _, _, _, _, h8⟩ := h3
        omega
      · rw [if_neg hh] at h3 ⊢
        have := opts_bd h3
        omega
    have main : l = l' ∧ ∀ q, (q = a1 ∨ (b1 ≤ q ∧ q < l)) → S q = S' q := by
      by_cases hh : hi = -1
      · rw [if_pos hh] at h3 g3
        exact again_un (fr_un a) h3 g3
      · rw [if_neg hh] at h3 g3
        exact opts_un (fr_bd S a) (fr_un a) h3 g3
    obtain ⟨rfl, ht⟩ := main
    refine ⟨rfl, rfl, fun q k1 k2 hn => ?_⟩
    by_cases e : q = a1
    · exact ht q (.inl e)
    · rcases Nat.lt_or_ge q b1 with hlt | hge
      · exact hs q (by omega) e
      · exact ht q (.inr ⟨hge, by omega⟩)
/-- A state that may be, A and B from lo to hi. -/
def okS (lo hi : Nat) (s : Sd) : Prop := 1 ≤ s.k ∧ s.k ≤ 5 ∧ (lo : Int) ≤ s.A ∧ s.A < hi ∧ (s.k = 3 → (lo : Int) ≤ s.B ∧ s.B < hi) ∧ (s.k ≠ 3 → s.B = 0) ∧ (s.k ≠ 1 → s.a = 0 ∧ s.b = 0 ∧ s.c = 0 ∧ s.d = 0)
theorem okS_E {lo hi A : Nat} (h1 : lo ≤ A) (h2 : A < hi) : okS lo hi (sE A) := ⟨by show (1 : Int) ≤ 2; decide, by show (2 : Int) ≤ 5; decide, by show (lo : Int) ≤ A; omega, by show (A : Int) < hi; omega, fun h => by simp [sE] at h, fun _ => rfl, fun _ => ⟨rfl, rfl, rfl, rfl⟩⟩
theorem okS_S {lo hi A B : Nat} (h1 : lo ≤ A) (h2 : A < hi) (h3 : lo ≤ B) (h4 : B < hi) : okS lo hi (sS A B) := ⟨by show (1 : Int) ≤ 3; decide, by show (3 : Int) ≤ 5; decide, by show (lo : Int) ≤ A; omega, by show (A : Int) < hi; omega, fun _ => ⟨by show (lo : Int) ≤ B; omega, by show (B : Int) < hi; omega⟩, fun h => absurd rfl h, fun _ => ⟨rfl, rfl, rfl, rfl⟩⟩
theorem okS.wide {lo hi lo' hi' : Nat} {s : Sd} (h : okS lo hi s) (h1 : lo' ≤ lo) (h2 : hi ≤ hi') : okS lo' hi' s :=
  ⟨h.1, h.2.1, by have := h.2.2.1; omega, by have := h.2.2.2.1; omega, fun e => by have := h.2.2.2.2.1 e; omega, h.2.2.2.2.2.1, h.2.2.2.2.2.2⟩
def okP (S : Nat → Sd) (P : Nat → Nat → Nat → Prop) (sz : Nat) : Prop := ∀ b f l, P b f l → ∀ q, b ≤ q → q < b + sz → q ≠ l → okS b (b + sz) (S q)
theorem cps_ok {P : Nat → Nat → Nat → Prop} {sz : Nat} (hP : inP P sz) (hk : okP S P sz) {lo hi : Nat} : ∀ {m base ah b1 a1}, cps S P sz m base ah b1 a1 → lo ≤ base → b1 ≤ hi → ∀ q, (q = ah ∨ (base ≤ q ∧ q < b1)) → q ≠ a1 → okS lo hi (S q)
  | 0, base, ah, b1, a1, ⟨h1, h2⟩, _, _, q, hq, hn => by omega
  | m + 1, base, ah, b1, a1, ⟨f, l, h1, h2, h3⟩, hlo, hhi, q, hq, hn => by
    obtain ⟨k1, k2, k3, k4, _⟩ := hP _ _ _ h2
    have hb := (cps_bd hP h3).1
    have hle : base + sz ≤ b1 := by rw [hb]; exact Nat.le_add_right _ _
    by_cases e : q = ah
    · rw [e, h1]; exact okS_E (by omega) (by omega)
    · by_cases el : q = l
      · exact cps_ok hP hk h3 (by omega) hhi q (.inl el) hn
      · rcases Nat.lt_or_ge q (base + sz) with hlt | hge
        · exact (hk _ _ _ h2 q (by omega) hlt el).wide hlo (by omega)
        · exact cps_ok hP hk h3 (by omega) hhi q (.inr ⟨hge, by omega⟩) hn
theorem opts_ok {P : Nat → Nat → Nat → Prop} {sz : Nat} (hP : inP P sz) (hk : okP S P sz) {lo hi : Nat} : ∀ {m base ah L}, opts S P sz m base ah L → lo ≤ base → L < hi → ∀ q, (q = ah ∨ (base ≤ q ∧ q < L)) → okS lo hi (S q)
  | 0, base, ah, L, ⟨h1, h2⟩, hlo, hhi, q, hq => by
    obtain rfl : q = ah := by omega
    rw [h2]; exact okS_E (by omega) (by omega)
  | m + 1, base, ah, L, ⟨f, l, h1, h2, h3, h4⟩, hlo, hhi, q, hq => by
    obtain ⟨k1, k2, k3, k4, _⟩ := hP _ _ _ h1
    have hb := opts_bd h4
    have hle : base + sz + 1 ≤ L := by rw [hb]; exact Nat.le_add_right _ _
    by_cases e : q = ah
    · rw [e, h3]; exact okS_E (by omega) (by omega)
    · by_cases el : q = l
      · exact opts_ok hP hk h4 (by omega) hhi q (.inl el)
      · rcases Nat.lt_or_ge q (base + sz) with hlt | hge
        · exact (hk _ _ _ h1 q (by omega) hlt el).wide hlo (by omega)
        · by_cases es : q = base + sz
          · rw [es, h2]; exact okS_S (by omega) (by omega) (by omega) (by omega)
          · exact opts_ok hP hk h4 (by omega) hhi q (.inr ⟨by omega, by omega⟩)
theorem again_ok {P : Nat → Nat → Nat → Prop} {sz base ah L lo hi : Nat} (hP : inP P sz) (hk : okP S P sz) (h : again9 S P sz base ah L) (hlo : lo ≤ base) (hhi : L < hi) (q : Nat) (hq : q = ah ∨ (base ≤ q ∧ q < L)) : okS lo hi (S q) := by
  obtain ⟨f, l, h1, h2, h3, h4, h5⟩ := h
  obtain ⟨k1, k2, k3, k4, _⟩ := hP _ _ _ h1
  by_cases e : q = ah
  · rw [e, h3]; exact okS_E (by omega) (by omega)
  · by_cases el : q = l
    · rw [el, h4]; exact okS_E (by omega) (by omega)
    · rcases Nat.lt_or_ge q (base + sz) with hlt | hge
      · exact (hk _ _ _ h1 q (by omega) hlt el).wide hlo (by omega)
      · obtain rfl : q = base + sz := by omega
        rw [h2]; exact okS_S (by omega) (by omega) (by omega) (by omega)
theorem fr_ok : ∀ t, okT t → okP S (isFr S t) (nst t)
  | .leaf x, h => by
    rintro b f l ⟨rfl, rfl, h3⟩ q k1 k2 hn
    have k2 : q < f + 2 := k2
    obtain rfl : q = f := by omega
    rw [h3]
    have hA : ((q : Nat) : Int) ≤ ((q + 1 : Nat) : Int) ∧ ((q + 1 : Nat) : Int) < ((q + nst (.leaf x) : Nat) : Int) := ⟨by omega, by show ((q + 1 : Nat) : Int) < ((q + 2 : Nat) : Int); omega⟩
    rcases h with ⟨h1, -⟩ | rfl | rfl | rfl
    · have e : skd x.k = 1 := by unfold skd; rw [if_pos h1]
      refine ⟨?_, ?_, hA.1, hA.2, fun g => ?_, fun _ => rfl, fun g => absurd e g⟩
      · show (1 : Int) ≤ skd x.k; rw [e]; decide
      · show skd x.k ≤ (5 : Int); rw [e]; decide
      · have : skd x.k = 3 := g
        rw [e] at this; exact absurd this (by decide)
    · exact ⟨by show (1 : Int) ≤ 2; decide, by show (2 : Int) ≤ 5; decide, hA.1, hA.2, fun g => absurd (show (2 : Int) = 3 from g) (by decide), fun _ => rfl, fun _ => ⟨rfl, rfl, rfl, rfl⟩⟩
    · exact ⟨by show (1 : Int) ≤ 4; decide, by show (4 : Int) ≤ 5; decide, hA.1, hA.2, fun g => absurd (show (4 : Int) = 3 from g) (by decide), fun _ => rfl, fun _ => ⟨rfl, rfl, rfl, rfl⟩⟩
    · exact ⟨by show (1 : Int) ≤ 5; decide, by show (5 : Int) ≤ 5; decide, hA.1, hA.2, fun g => absurd (show (5 : Int) = 3 from g) (by decide), fun _ => rfl, fun _ => ⟨rfl, rfl, rfl, rfl⟩⟩
  | .cat a b, h => by
    rintro B f l ⟨la, fb, h1, h2, h3⟩ q k1 k2 hn
    have ba := fr_bd S a _ _ _ h1
    have bb := fr_bd S b _ _ _ h2
    have k2 : q < B + (nst a + nst b) := k2
    show okS B (B + (nst a + nst b)) (S q)
    by_cases e : q = la
    · rw [e, h3]; exact okS_E (by omega) (by omega)
    · rcases Nat.lt_or_ge q (B + nst a) with hlt | hge
      · exact (fr_ok a h.1 _ _ _ h1 q k1 hlt e).wide (by omega) (by omega)
      · exact (fr_ok b h.2 _ _ _ h2 q hge (by omega) hn).wide (by omega) (by omega)
  | .or a b, h => by
    rintro B f l ⟨fa, la, fb, lb, h1, h2, h3, h4, h5, h6, h7⟩ q k1 k2 hn
    have ba := fr_bd S a _ _ _ h1
    have bb := fr_bd S b _ _ _ h2
    have k2 : q < B + (nst a + nst b + 2) := k2
    show okS B (B + (nst a + nst b + 2)) (S q)
    by_cases e : q = la
    · rw [e, h6]; exact okS_E (by omega) (by omega)
    · by_cases e' : q = lb
      · rw [e', h7]; exact okS_E (by omega) (by omega)
      · rcases Nat.lt_or_ge q (B + nst a) with hlt | hge
        · exact (fr_ok a h.1 _ _ _ h1 q k1 hlt e).wide (by omega) (by omega)
        · rcases Nat.lt_or_ge q (B + nst a + nst b) with hlt | hge'
          · exact (fr_ok b h.2 _ _ _ h2 q hge hlt e').wide (by omega) (by omega)
          · obtain rfl : q = f := by omega
            rw [h5]; exact okS_S (by omega) (by omega) (by omega) (by omega)
  | .rep a lo hi, h => by
    rintro B f l hfr q k1 k2 hn
    have hb := fr_bd S _ _ _ _ hfr
    obtain ⟨rfl, b1, a1, h2, h3⟩ := hfr
    obtain ⟨c1, c2⟩ := cps_bd (fr_bd S a) h2
    have hl : b1 ≤ l ∧ l + 1 = f + nst (.rep a lo hi) := by
      show b1 ≤ l ∧ l + 1 = f + (2 + lo.toNat * nst a + _)
      by_cases hh : hi = -1
      · rw [if_pos hh] at h3 ⊢
        obtain ⟨_, _, _, _, _, _, h8⟩ := h3
        omega
      · rw [if_neg hh] at h3 ⊢
        have := opts_bd h3
        have e := Nat.zero_le ((hi - lo).toNat * (nst a + 1))
        omega
    have main : ∀ q, (q = a1 ∨ (b1 ≤ q ∧ q < l)) → okS f (f + nst (.rep a lo hi)) (S q) := by
      intro q hq
      by_cases hh : hi = -1
      · rw [if_pos hh] at h3
        exact again_ok (fr_bd S a) (fr_ok a h.1) h3 (by omega) (by omega) q hq
      · rw [if_neg hh] at h3
        exact opts_ok (fr_bd S a) (fr_ok a h.1) h3 (by omega) (by omega) q hq
    by_cases e : q = a1
    · exact main q (.inl e)
    · rcases Nat.lt_or_ge q b1 with hlt | hge
      · exact cps_ok (fr_bd S a) (fr_ok a h.1) h2 (by omega) (by omega) q (by omega) e
      · exact main q (.inr ⟨hge, by omega⟩)
end
end Go.Proofs.Ytnoaejpabfnfpaa

namespace Go.Proofs.Ytnoaejpabfnfpaa

/-- As many states are told as there are, at most 2^20. -/
theorem sz_nst : ∀ t, okT t → szF t = cap20 (nst t : Nat)
  | .leaf _, _ => rfl
  | .cat a b, h => by
    have h1 := sz_nst a h.1; have h2 := sz_nst b h.2
    show cap20 (szF a + szF b) = cap20 ((nst a + nst b : Nat) : Int)
    rw [h1, h2]; unfold cap20; omega
  | .or a b, h => by
    have h1 := sz_nst a h.1; have h2 := sz_nst b h.2
    show cap20 (szF a + szF b + 2) = cap20 ((nst a + nst b + 2 : Nat) : Int)
    rw [h1, h2]; unfold cap20; omega
  | .rep a lo hi, h => by
    have h1 := sz_nst a h.1
    obtain ⟨-, g1, g2, g3⟩ := h
    obtain ⟨L, rfl⟩ : ∃ L : Nat, lo = L := ⟨lo.toNat, by omega⟩
    show cap20 (2 + (L : Int) * szF a + (if hi = -1 then szF a + 1 else (hi - L) * (szF a + 1))) = cap20 ((2 + (L : Int).toNat * nst a + (if hi = -1 then nst a + 1 else (hi - L).toNat * (nst a + 1)) : Nat) : Int)
    have h2 := nst_two a
    obtain ⟨s, hs⟩ : ∃ s : Nat, szF a = s := ⟨(szF a).toNat, by have := cap_two (n := (nst a : Int)) (by omega); rw [← h1] at this; omega⟩
    have hs' : (s : Int) = cap20 (nst a : Nat) := by rw [← hs, h1]
    rw [hs, Int.toNat_natCast]
    have m1 : L = 0 ∨ (s ≤ L * s ∧ nst a ≤ L * nst a) := by
      rcases Nat.eq_zero_or_pos L with h | h
      · exact .inl h
      · exact .inr ⟨Nat.le_mul_of_pos_left _ h, Nat.le_mul_of_pos_left _ h⟩
    have e1 : (L : Int) * (s : Int) = ((L * s : Nat) : Int) := by rw [Int.natCast_mul]
    rw [e1]
    by_cases hh : hi = -1
    · rw [if_pos hh, if_pos hh]
      by_cases hc : nst a ≤ 1048576
      · have : s = nst a := by unfold cap20 at hs'; omega
        rw [this]; congr 1
      · have : s = 1048576 := by unfold cap20 at hs'; omega
        unfold cap20
        omega
    · rw [if_neg hh, if_neg hh]
      obtain ⟨H, hH⟩ : ∃ H : Nat, hi - L = H := ⟨(hi - L).toNat, by omega⟩
      rw [hH, Int.toNat_natCast]
      have e2 : (H : Int) * ((s : Int) + 1) = ((H * (s + 1) : Nat) : Int) := by rw [Int.natCast_mul]; rfl
      rw [e2]
      have m2 : H = 0 ∨ (s + 1 ≤ H * (s + 1) ∧ nst a + 1 ≤ H * (nst a + 1)) := by
        rcases Nat.eq_zero_or_pos H with h | h
        · exact .inl h
        · exact .inr ⟨Nat.le_mul_of_pos_left _ h, Nat.le_mul_of_pos_left _ h⟩
      by_cases hc : nst a ≤ 1048576
      · have : s = nst a := by unfold cap20 at hs'; omega
        rw [this]; congr 1
      · have : s = 1048576 := by unfold cap20 at hs'; omega
        rcases m1 with rfl | m1
        · rcases m2 with rfl | m2
          · simp
          · unfold cap20; omega
        · unfold cap20; omega

section
variable {S : Nat → Sd}
/-- At once from a state to another one. -/
def ep (S : Nat → Sd) (sym : Int) (q q' : Nat) : Prop :=
  ((S q).k = 2 ∨ (S q).k = 3 ∨ ((S q).k = 4 ∧ (sym = 256 ∨ sym = 258)) ∨ ((S q).k = 5 ∧ (sym = 257 ∨ sym = 258))) ∧ (q' : Int) = (S q).A ∨ (S q).k = 3 ∧ (q' : Int) = (S q).B
inductive rt (S : Nat → Sd) (sym : Int) : Nat → Nat → Prop where
  | refl (q : Nat) : rt S sym q q
  | tail {q q' q'' : Nat} : rt S sym q q' → ep S sym q' q'' → rt S sym q q''
theorem rt.trans {sym : Int} {a b c : Nat} (h : rt S sym a b) (g : rt S sym b c) : rt S sym a c := by
  induction g with
  | refl => exact h
  | tail _ h2 ih => exact .tail ih h2
theorem ep.any {sym : Int} {q q' : Nat} (h : ep S 0 q q') : ep S sym q q' := by
  unfold ep at h ⊢
  rcases h with ⟨h | h | ⟨h, h'⟩ | ⟨h, h'⟩, g⟩ | h
  · exact .inl ⟨.inl h, g⟩
  · exact .inl ⟨.inr (.inl h), g⟩
  · omega
  · omega
  · exact .inr h
theorem rt.any {sym : Int} {q q' : Nat} (h : rt S 0 q q') : rt S sym q q' := by
  induction h with
  | refl => exact .refl _
  | tail _ h2 ih => exact .tail ih h2.any
/-- Where one comes at once from some states; by a byte. -/
def Cl (S : Nat → Sd) (sym : Int) (P : Nat → Prop) (q : Nat) : Prop := ∃ q0, P q0 ∧ rt S sym q0 q
def By (S : Nat → Sd) (b : Nat) (P : Nat → Prop) (q : Nat) : Prop := ∃ q0, P q0 ∧ (S q0).k = 1 ∧ sOf (S q0) b = true ∧ (q : Int) = (S q0).A
theorem Cl_Cl {sym : Int} {P : Nat → Prop} : Cl S sym (Cl S 0 P) = Cl S sym P := by
  funext q
  apply propext
  constructor
  · rintro ⟨q1, ⟨q0, h0, h1⟩, h2⟩
    exact ⟨q0, h0, h1.any.trans h2⟩
  · rintro ⟨q0, h0, h1⟩
    exact ⟨q0, ⟨q0, h0, .refl _⟩, h1⟩
theorem Cl_zero {P : Nat → Prop} : Cl S 0 (Cl S 0 P) = Cl S 0 P := Cl_Cl
def runF (S : Nat → Sd) (tx : Nat → Nat) : Nat → Nat → (Nat → Prop) → Nat → Prop
  | _, 0, P => P
  | i, k + 1, P => runF S tx (i + 1) k (Cl S 0 (By S (tx i) P))
/-- What leads to the end, as the page has it. -/
def fitsP (S : Nat → Sd) (n : Nat) (tx : Nat → Nat) (st fin i j : Nat) : Prop :=
  if n = 0 then Cl S 258 (Cl S 0 fun q => q = st) fin
  else if j = n then Cl S 257 (runF S tx i (j - i) (if i = 0 then Cl S 256 (Cl S 0 fun q => q = st) else Cl S 0 fun q => q = st)) fin
  else runF S tx i (j - i) (if i = 0 then Cl S 256 (Cl S 0 fun q => q = st) else Cl S 0 fun q => q = st) fin

/-- The symbol of a place of a text. -/
def syA (n i : Nat) : Int := if n = 0 then 258 else if i = 0 then 256 else if i = n then 257 else 0
theorem stp_iff {n : Nat} {tx : Nat → Nat} {q i q' i' : Nat} (hi : i ≤ n) : stp S n tx q i q' i' ↔ ((S q).k = 1 ∧ i < n ∧ sOf (S q) (tx i) = true ∧ (q' : Int) = (S q).A ∧ i' = i + 1) ∨ (i' = i ∧ ep S (syA n i) q q') := by
  have h1 : i = 0 ↔ (syA n i = 256 ∨ syA n i = 258) := by
    unfold syA
    split
    · omega
    · split
      · omega
      · split <;> omega
  have h2 : i = n ↔ (syA n i = 257 ∨ syA n i = 258) := by
    unfold syA
    split
    · omega
    · split
      · omega
      · split <;> omega
  unfold stp ep
  rw [h1, h2]
/-- From some states at a place, by so many bytes, each place's own symbol counting. -/
def runA (S : Nat → Sd) (n : Nat) (tx : Nat → Nat) : Nat → Nat → (Nat → Prop) → Nat → Prop
  | _, 0, P => P
  | i, k + 1, P => runA S n tx (i + 1) k (Cl S (syA n (i + 1)) (By S (tx i) P))
theorem runA_of {n : Nat} {tx : Nat → Nat} {fin j : Nat} : ∀ {r q i}, i ≤ j → j ≤ n → wk S n tx fin j r q i → ∀ P : Nat → Prop, P q → (∀ a b, P a → ep S (syA n i) a b → P b) → runA S n tx i (j - i) P fin
  | 0, q, i, h1, h2, ⟨e1, e2⟩, P, hP, _ => by
    subst e1 e2
    rw [Nat.sub_self]; exact hP
  | r + 1, q, i, h1, h2, ⟨q', i', hs, hw⟩, P, hP, hc => by
    rcases (stp_iff (by omega)).1 hs with ⟨g1, g2, g3, g4, rfl⟩ | ⟨rfl, g⟩
    · have hle : ∀ {r q i}, wk S n tx fin j r q i → i ≤ j := by
        intro r
        induction r with
        | zero => rintro q i ⟨_, rfl⟩; omega
        | succ r ih =>
          rintro q i ⟨q', i', hs, hw⟩
          have := ih hw
          unfold stp at hs
          omega
      have hj := hle hw
      rw [show j - i = (j - (i + 1)) + 1 by omega]
      exact runA_of hj h2 hw _ ⟨q', ⟨q, hP, g1, g3, g4⟩, .refl _⟩ (fun a b ⟨q0, k1, k2⟩ k3 => ⟨q0, k1, .tail k2 k3⟩)
    · exact runA_of h1 h2 hw P (hc q q' hP g) hc
theorem wk_add {n : Nat} {tx : Nat → Nat} {a i b j c l : Nat} : ∀ {r r'}, wk S n tx b j r a i → wk S n tx c l r' b j → ∃ r'', wk S n tx c l r'' a i
  | 0, r', ⟨h1, h2⟩, g => by subst h1 h2; exact ⟨r', g⟩
  | r + 1, r', ⟨q', i', hs, hw⟩, g => by
    obtain ⟨r'', h⟩ := wk_add hw g
    exact ⟨r'' + 1, q', i', hs, h⟩
theorem wk_rt {n : Nat} {tx : Nat → Nat} {a b i : Nat} (hi : i ≤ n) (h : rt S (syA n i) a b) : ∃ r, wk S n tx b i r a i := by
  induction h with
  | refl => exact ⟨0, rfl, rfl⟩
  | @tail q' q'' _ h2 ih =>
    obtain ⟨r, h⟩ := ih
    exact wk_add (r' := 1) h ⟨q'', i, (stp_iff hi).2 (.inr ⟨rfl, h2⟩), rfl, rfl⟩
theorem of_runA {n : Nat} {tx : Nat → Nat} {fin : Nat} : ∀ {k i} {P : Nat → Prop}, i + k ≤ n → runA S n tx i k P fin → ∃ q, P q ∧ ∃ r, wk S n tx fin (i + k) r q i
  | 0, i, P, _, h => ⟨fin, h, 0, rfl, rfl⟩
  | k + 1, i, P, hk, h => by
    obtain ⟨q, ⟨q1, ⟨q0, g1, g2, g3, g4⟩, g5⟩, r, hw⟩ := of_runA (i := i + 1) (k := k) (by omega) h
    obtain ⟨r1, w1⟩ := wk_rt (tx := tx) (by omega) g5
    obtain ⟨r2, w2⟩ := wk_add w1 hw
    refine ⟨q0, g1, r2 + 1, q1, i + 1, .inl ⟨g2, by omega, g3, g4, rfl⟩, ?_⟩
    rw [show i + (k + 1) = i + 1 + k by omega]; exact w2
theorem wk_iff {n : Nat} {tx : Nat → Nat} {st fin i j : Nat} (h1 : i ≤ j) (h2 : j ≤ n) : (∃ r, wk S n tx fin j r st i) ↔ runA S n tx i (j - i) (Cl S (syA n i) fun q => q = st) fin := by
  constructor
  · rintro ⟨r, hw⟩
    exact runA_of h1 h2 hw _ ⟨st, rfl, .refl _⟩ (fun a b ⟨q0, k1, k2⟩ k3 => ⟨q0, k1, .tail k2 k3⟩)
  · intro h
    obtain ⟨q, ⟨q0, rfl, g⟩, r, hw⟩ := of_runA (by omega) h
    rw [show i + (j - i) = j by omega] at hw
    obtain ⟨r1, w1⟩ := wk_rt (tx := tx) (by omega) g
    exact wk_add w1 hw
/-- Ahead of the text's end each place's own symbol is none; at it, the end's counts behind. -/
theorem runA_F {n : Nat} {tx : Nat → Nat} : ∀ {k i} {P : Nat → Prop}, i + k < n → runA S n tx i k P = runF S tx i k P
  | 0, _, _, _ => rfl
  | k + 1, i, P, h => by
    show runA S n tx (i + 1) k (Cl S (syA n (i + 1)) (By S (tx i) P)) = runF S tx (i + 1) k (Cl S 0 (By S (tx i) P))
    rw [show syA n (i + 1) = 0 by unfold syA; rw [if_neg (by omega), if_neg (by omega), if_neg (by omega)]]
    exact runA_F (by omega)
theorem runA_E {n : Nat} {tx : Nat → Nat} : ∀ {k i} {P : Nat → Prop}, i + (k + 1) = n → runA S n tx i (k + 1) P = Cl S 257 (runF S tx i (k + 1) P)
  | 0, i, P, h => by
    show Cl S (syA n (i + 1)) (By S (tx i) P) = Cl S 257 (Cl S 0 (By S (tx i) P))
    rw [show syA n (i + 1) = 257 by unfold syA; rw [if_neg (by omega), if_neg (by omega), if_pos (by omega)], Cl_Cl]
  | k + 1, i, P, h => by
    show runA S n tx (i + 1) (k + 1) (Cl S (syA n (i + 1)) (By S (tx i) P)) = Cl S 257 (runF S tx (i + 1) (k + 1) (Cl S 0 (By S (tx i) P)))
    rw [show syA n (i + 1) = 0 by unfold syA; rw [if_neg (by omega), if_neg (by omega), if_neg (by omega)]]
    exact runA_E (by omega)
/-- What leads to the end, as the page has it, is what there are steps for. -/
theorem fits_iff {n : Nat} {tx : Nat → Nat} {st fin i j : Nat} (h1 : i ≤ j) (h2 : j ≤ n) : fitsP S n tx st fin i j ↔ ∃ r, wk S n tx fin j r st i := by
  rw [wk_iff h1 h2]
  unfold fitsP
  by_cases h0 : n = 0
  · rw [if_pos h0, Cl_Cl, show j - i = 0 by omega, show syA n i = 258 by unfold syA; rw [if_pos h0]]; exact Iff.rfl
  · rw [if_neg h0]
    have e : (if i = 0 then Cl S 256 (Cl S 0 fun q => q = st) else Cl S 0 fun q => q = st) = if i = n then Cl S 0 fun q => q = st else Cl S (syA n i) fun q => q = st := by
      by_cases hi : i = 0
      · rw [if_pos hi, if_neg (by omega), Cl_Cl, show syA n i = 256 by unfold syA; rw [if_neg h0, if_pos hi]]
      · rw [if_neg hi]
        by_cases hn : i = n
        · rw [if_pos hn]
        · rw [if_neg hn, show syA n i = 0 by unfold syA; rw [if_neg h0, if_neg hi, if_neg hn]]
    rw [e]
    by_cases hj : j = n
    · rw [if_pos hj]
      by_cases hi : i = n
      · rw [if_pos hi, show j - i = 0 by omega, show syA n i = 257 by unfold syA; rw [if_neg h0, if_neg (by omega), if_pos hi]]
        show Cl S 257 (Cl S 0 fun q => q = st) fin ↔ Cl S 257 (fun q => q = st) fin
        rw [Cl_Cl]
      · rw [if_neg hi]
        obtain ⟨k, hk⟩ : ∃ k, j - i = k + 1 := ⟨j - i - 1, by omega⟩
        rw [hk, runA_E (by omega)]
    · rw [if_neg hj, if_neg (by omega), runA_F (by omega)]
end
end Go.Proofs.Ytnoaejpabfnfpaa

namespace Go.Proofs.Ytnoaejpabfnfpaa
open Go.RowKit

/-- A node's cells at a place. -/
def ndAt (w : World) (b o : Nat) (x : Nd) : Prop := w.cell? ⟨b, o, none⟩ = some (.int .i64 x.k) ∧ w.cell? ⟨b, o + 1, none⟩ = some (.int .u64 x.a) ∧ w.cell? ⟨b, o + 2, none⟩ = some (.int .u64 x.b) ∧ w.cell? ⟨b, o + 3, none⟩ = some (.int .u64 x.c) ∧ w.cell? ⟨b, o + 4, none⟩ = some (.int .u64 x.d) ∧ w.cell? ⟨b, o + 5, none⟩ = some (.int .i64 x.lo) ∧ w.cell? ⟨b, o + 6, none⟩ = some (.int .i64 x.hi)
theorem ndAt.below {w w' : World} {b o B : Nat} {x : Nd} (h : ndAt w b o x) (hb : Below B w w') (hB : b < B) : ndAt w' b o x := by
  have c : ∀ x, w'.cell? ⟨b, x, none⟩ = w.cell? ⟨b, x, none⟩ := fun x => hb.cell (p := ⟨b, x, none⟩) hB
  unfold ndAt at h ⊢
  simp only [c]
  exact h
/-- The nodes that lie in a block from a place on. -/
def rdN (w : World) (b off n : Nat) (N : Nat → Nd) : Prop := ∀ j, j < n → b < w.heap.size ∧ ndAt w b (off + j * 7) (N j)
theorem rdN.below {w w' : World} {b off n : Nat} {N : Nat → Nd} (h : rdN w b off n N) (hb : Below w.heap.size w w') : rdN w' b off n N := fun j hj =>
  ⟨Nat.lt_of_lt_of_le (h j hj).1 hb.size, (h j hj).2.below hb (h j hj).1⟩
theorem rdN.belowB {w w' : World} {b off n : Nat} {N : Nat → Nd} {B : Nat} (h : rdN w b off n N) (hb : Below B w w') (hB : b < B) : rdN w' b off n N := fun j hj =>
  ⟨Nat.lt_of_lt_of_le (h j hj).1 hb.size, (h j hj).2.below hb hB⟩
theorem rdN.drewN {w : World} {b off n : Nat} {N : Nat → Nd} (h : rdN w b off n N) (k : Nat) : rdN (w.drewN k) b off n N := h
theorem rdN.sub {w : World} {b off n : Nat} {N : Nat → Nd} (h : rdN w b off n N) (f m : Nat) (hm : f + m ≤ n) : rdN w b (off + f * 7) m (fun j => N (f + j)) := fun j hj => by
  have := h (f + j) (by omega)
  rwa [show off + (f + j) * 7 = off + f * 7 + j * 7 by omega] at this
theorem rdN.take {w : World} {b off n : Nat} {N : Nat → Nd} (h : rdN w b off n N) (m : Nat) (hm : m ≤ n) : rdN w b off m N := fun j hj => h j (by omega)

/-- A slice that reads as a list of numbers. -/
def rdI (w : World) (v : Value) (l : List Int) : Prop :=
  (∃ p cap, v = .slice p 0 cap ∧ l = []) ∨ ∃ b cap, v = .slice (some ⟨b, 0, none⟩) l.length cap ∧ b < w.heap.size ∧ ∀ j (h : j < l.length), w.cell? ⟨b, j, none⟩ = some (.int .i64 l[j])
theorem rdI.below {w w' : World} {v : Value} {l : List Int} (h : rdI w v l) (hb : Below w.heap.size w w') : rdI w' v l := by
  rcases h with h | ⟨b, cap, rfl, hl, hc⟩
  · exact .inl h
  · exact .inr ⟨b, cap, rfl, Nat.lt_of_lt_of_le hl hb.size, fun j hj => by rw [hb.cell (p := ⟨b, j, none⟩) hl]; exact hc j hj⟩
theorem rdI.belowB {w w' : World} {v : Value} {l : List Int} {B : Nat} (h : rdI w v l) (hb : Below B w w') (hB : w.heap.size ≤ B) : rdI w' v l := by
  rcases h with h | ⟨b, cap, rfl, hl, hc⟩
  · exact .inl h
  · exact .inr ⟨b, cap, rfl, Nat.lt_of_lt_of_le hl hb.size, fun j hj => by rw [hb.cell (p := ⟨b, j, none⟩) (show b < B by omega)]; exact hc j hj⟩
def ivs (l : List Int) : List Value := l.map (Value.int .i64)
theorem rdI_of_owns {w : World} {base : Nat} {e : TypeId} {v : Value} {l : List Int} (h : w.ownsRow base e 1 v l.length (ivs l)) : rdI w v l := by
  have hlt := h.lt
  rcases h.2 with ⟨rfl, h0⟩ | ⟨g, cap, cur, rfl, _, _, _, _, _, _⟩
  · exact .inl ⟨none, 0, rfl, List.length_eq_zero_iff.1 h0⟩
  · refine .inr ⟨g, cap, rfl, (hlt g rfl).2, fun j hj => ?_⟩
    rw [h.cellAt j (by omega)]
    simp [ivs, hj]
end Go.Proofs.Ytnoaejpabfnfpaa

namespace Go.Proofs.Ytnoaejpabfnfpaa
open Go.RowKit

def bls (T : Nat → Bool) (m : Nat) : List Value := (List.range m).map fun j => Value.bool (T j)
theorem bls_len (T : Nat → Bool) (m : Nat) : (bls T m).length = m := by simp [bls]
theorem bls_at (T : Nat → Bool) (m j : Nat) (h : j < m) : (bls T m)[j]? = some (.bool (T j)) := by simp [bls, h]
def putT (T : Nat → Bool) (j : Nat) (b : Bool) : Nat → Bool := fun x => if x = j then b else T x
theorem bls_set (T : Nat → Bool) (m j : Nat) (b : Bool) : (bls T m).set j (.bool b) = bls (putT T j b) m := by
  unfold bls
  apply List.ext_getElem
  · simp
  · intro i h1 h2
    simp only [List.getElem_set, List.getElem_map, List.getElem_range, putT]
    by_cases h : i = j
    · rw [if_pos h.symm, if_pos h]
    · rw [if_neg (fun e => h e.symm), if_neg h]
/-- A row of m bools that the call owns. -/
def blR (w : World) (base g c m : Nat) (T : Nat → Bool) : Prop := w.ownsRow base 4 1 (.slice (some ⟨g, 0, none⟩) m c) m (bls T m)
theorem blR.cell {w : World} {base g c m : Nat} {T : Nat → Bool} (h : blR w base g c m T) (j : Nat) (hj : j < m) : w.cell? ⟨g, j, none⟩ = some (.bool (T j)) := by
  rw [World.ownsRow.cellAt h j (by omega)]; exact bls_at T m j hj
theorem blR.free {w : World} {base g c m : Nat} {T : Nat → Bool} (h : blR w base g c m T) (j : Nat) : w.frozen? ⟨g, j, none⟩ = false := World.ownsRow.frozenAt h j
theorem blR.lt {w : World} {base g c m : Nat} {T : Nat → Bool} (h : blR w base g c m T) : base ≤ g ∧ g < w.heap.size := World.ownsRow.lt h g rfl
theorem blR.below {w w' : World} {base g c m : Nat} {T : Nat → Bool} (h : blR w base g c m T) (hb : Below w.heap.size w w') : blR w' base g c m T := owns_below h hb
theorem blR.put {w : World} {base g c m : Nat} {T : Nat → Bool} (h : blR w base g c m T) (j : Nat) (b : Bool) : blR (w.setCell ⟨g, j, none⟩ (.bool b)) base g c m (putT T j b) := by
  have := (World.ownsRow.stored h j (.bool b)).1
  rw [bls_set] at this
  exact this
theorem blR.same {w : World} {base g c m : Nat} {T T' : Nat → Bool} (h : blR w base g c m T) (hT : ∀ j, j < m → T j = T' j) : blR w base g c m T' := by
  have e : bls T m = bls T' m := by
    unfold bls
    exact List.map_congr_left fun i hi => by rw [hT i (List.mem_range.1 hi)]
  unfold blR at h ⊢
  rw [← e]; exact h
/-- Bools that are read. -/
def rdB (w : World) (g m : Nat) (T : Nat → Bool) : Prop := g < w.heap.size ∧ ∀ j, j < m → w.cell? ⟨g, j, none⟩ = some (.bool (T j))
theorem rdB.below {w w' : World} {g m : Nat} {T : Nat → Bool} (h : rdB w g m T) (hb : Below w.heap.size w w') : rdB w' g m T :=
  ⟨Nat.lt_of_lt_of_le h.1 hb.size, fun j hj => by rw [hb.cell (p := ⟨g, j, none⟩) h.1]; exact h.2 j hj⟩
theorem blR.rd {w : World} {base g c m : Nat} {T : Nat → Bool} (h : blR w base g c m T) : rdB w g m T := ⟨h.lt.2, fun j hj => h.cell j hj⟩
theorem infoBool9 : (Try.prog.info? 4).map (fun i => (i.zero, i.size, i.bytes)) = some (some (.bool false), 1, 1) := by kernel_rfl

/-- A state's cells at a place; the states that lie in a block from a place on. -/
def sdAt (w : World) (b o : Nat) (x : Sd) : Prop := w.cell? ⟨b, o, none⟩ = some (.int .i64 x.k) ∧ w.cell? ⟨b, o + 1, none⟩ = some (.int .i64 x.A) ∧ w.cell? ⟨b, o + 2, none⟩ = some (.int .i64 x.B) ∧ w.cell? ⟨b, o + 3, none⟩ = some (.int .u64 x.a) ∧ w.cell? ⟨b, o + 4, none⟩ = some (.int .u64 x.b) ∧ w.cell? ⟨b, o + 5, none⟩ = some (.int .u64 x.c) ∧ w.cell? ⟨b, o + 6, none⟩ = some (.int .u64 x.d)
theorem sdAt.below {w w' : World} {b o B : Nat} {x : Sd} (h : sdAt w b o x) (hb : Below B w w') (hB : b < B) : sdAt w' b o x := by
  have c : ∀ x, w'.cell? ⟨b, x, none⟩ = w.cell? ⟨b, x, none⟩ := fun x => hb.cell (p := ⟨b, x, none⟩) hB
  unfold sdAt at h ⊢
  simp only [c]
  exact h
def rdS (w : World) (b off m : Nat) (S : Nat → Sd) : Prop := ∀ j, j < m → b < w.heap.size ∧ sdAt w b (off + j * 7) (S j)
theorem rdS.below {w w' : World} {b off m : Nat} {S : Nat → Sd} (h : rdS w b off m S) (hb : Below w.heap.size w w') : rdS w' b off m S := fun j hj =>
  ⟨Nat.lt_of_lt_of_le (h j hj).1 hb.size, (h j hj).2.below hb (h j hj).1⟩
/-- A and B are places of states, where they count. -/
def rng (S : Nat → Sd) (m : Nat) : Prop := ∀ q, q < m → 1 ≤ (S q).k ∧ (S q).k ≤ 6 ∧ 0 ≤ (S q).A ∧ (S q).A < m ∧ 0 ≤ (S q).B ∧ (S q).B < m

/-- Does a state go on at once to A? -/
def eA (S : Nat → Sd) (sym : Int) (q : Nat) : Bool := (S q).k == 2 || (S q).k == 3 || ((S q).k == 4 && (sym == 256 || sym == 258)) || ((S q).k == 5 && (sym == 257 || sym == 258))
theorem eA_iff {S : Nat → Sd} {sym : Int} {q : Nat} : eA S sym q = true ↔ ((S q).k = 2 ∨ (S q).k = 3 ∨ ((S q).k = 4 ∧ (sym = 256 ∨ sym = 258)) ∨ ((S q).k = 5 ∧ (sym = 257 ∨ sym = 258))) := by
  unfold eA
  simp only [Bool.or_eq_true, Bool.and_eq_true, beq_iff_eq]
  constructor
  · rintro (((h | h) | h) | h)
    · exact .inl h
    · exact .inr (.inl h)
    · exact .inr (.inr (.inl h))
    · exact .inr (.inr (.inr h))
  · rintro (h | h | h | h)
    · exact .inl (.inl (.inl h))
    · exact .inl (.inl (.inr h))
    · exact .inl (.inr h)
    · exact .inr h
/-- What the reference does at a state; at all of them in turn; so many turns. -/
def up1 (S : Nat → Sd) (sym : Int) (T : Nat → Bool) (i : Nat) : Nat → Bool :=
  if T i = true then (if (S i).k = 3 then putT (putT T (S i).A.toNat true) (S i).B.toNat true else if eA S sym i = true then putT T (S i).A.toNat true else T) else T
def upR (S : Nat → Sd) (sym : Int) (T : Nat → Bool) : Nat → Nat → Bool
  | 0 => T
  | i + 1 => up1 S sym (upR S sym T i) i
def upN (S : Nat → Sd) (sym : Int) (m : Nat) (T : Nat → Bool) : Nat → Nat → Bool
  | 0 => T
  | k + 1 => upR S sym (upN S sym m T k) m

section
variable {S : Nat → Sd} {sym : Int} {m : Nat}
theorem putT_le {T : Nat → Bool} {j q : Nat} (h : T q = true) : putT T j true q = true := by unfold putT; split <;> first | rfl | exact h
theorem putT_at {T : Nat → Bool} {j : Nat} : putT T j true j = true := by unfold putT; rw [if_pos rfl]
theorem putT_or {T : Nat → Bool} {j q : Nat} (h : putT T j true q = true) : T q = true ∨ q = j := by
  unfold putT at h
  by_cases e : q = j
  · exact .inr e
  · rw [if_neg e] at h; exact .inl h
theorem up1_le {T : Nat → Bool} {i q : Nat} (h : T q = true) : up1 S sym T i q = true := by
  unfold up1
  split
  · split
    · exact putT_le (putT_le h)
    · split
      · exact putT_le h
      · exact h
  · exact h
theorem upR_le {T : Nat → Bool} {q : Nat} (h : T q = true) : ∀ i, upR S sym T i q = true
  | 0 => h
  | i + 1 => up1_le (upR_le h i)
theorem upN_le {T : Nat → Bool} {q : Nat} (h : T q = true) : ∀ k, upN S sym m T k q = true
  | 0 => h
  | k + 1 => upR_le (upN_le h k) m
/-- What is true behind a state was so ahead, or is where it goes. -/
theorem up1_ep {T : Nat → Bool} {i q : Nat} (hr : rng S m) (hi : i < m) (h : up1 S sym T i q = true) : T q = true ∨ (T i = true ∧ ep S sym i q) := by
  obtain ⟨_, _, a1, a2, b1, b2⟩ := hr i hi
  unfold up1 at h
  split at h
  · rename_i hT
    split at h
    · rename_i h3
      rcases putT_or h with h | rfl
      · rcases putT_or h with h | rfl
        · exact .inl h
        · exact .inr ⟨hT, .inl ⟨.inr (.inl h3), by omega⟩⟩
      · exact .inr ⟨hT, .inr ⟨h3, by omega⟩⟩
    · split at h
      · rename_i hA
        rcases putT_or h with h | rfl
        · exact .inl h
        · exact .inr ⟨hT, .inl ⟨eA_iff.1 hA, by omega⟩⟩
      · exact .inl h
  · exact .inl h
theorem ep_up1 {T : Nat → Bool} {i q : Nat} (hT : T i = true) (h : ep S sym i q) : up1 S sym T i q = true := by
  unfold up1
  rw [if_pos hT]
  rcases h with ⟨h1, h2⟩ | ⟨h1, h2⟩
  · by_cases h3 : (S i).k = 3
    · rw [if_pos h3]
      have : q = (S i).A.toNat := by omega
      rw [this]; exact putT_le putT_at
    · rw [if_neg h3, if_pos (eA_iff.2 h1)]
      have : q = (S i).A.toNat := by omega
      rw [this]; exact putT_at
  · rw [if_pos h1]
    have : q = (S i).B.toNat := by omega
    rw [this]; exact putT_at
theorem upR_rt {T : Nat → Bool} (hr : rng S m) : ∀ {i q}, i ≤ m → q < m → upR S sym T i q = true → ∃ q0, (q0 < m ∧ T q0 = true) ∧ rt S sym q0 q
  | 0, q, _, hq, h => ⟨q, ⟨hq, h⟩, .refl _⟩
  | i + 1, q, hi, hq, h => by
    rcases up1_ep hr (by omega) h with h | ⟨h, h2⟩
    · exact upR_rt hr (by omega) hq h
    · obtain ⟨q0, g1, g2⟩ := upR_rt hr (by omega) (by omega) h
      exact ⟨q0, g1, .tail g2 h2⟩
theorem upN_rt {T : Nat → Bool} (hr : rng S m) : ∀ {k q}, q < m → upN S sym m T k q = true → ∃ q0, (q0 < m ∧ T q0 = true) ∧ rt S sym q0 q
  | 0, q, hq, h => ⟨q, ⟨hq, h⟩, .refl _⟩
  | k + 1, q, hq, h => by
    obtain ⟨q0, ⟨g0, g1⟩, g2⟩ := upR_rt hr (Nat.le_refl _) hq h
    obtain ⟨q1, k1, k2⟩ := upN_rt hr g0 g1
    exact ⟨q1, k1, k2.trans g2⟩
theorem upR_mono {T : Nat → Bool} {q : Nat} {i : Nat} (h : upR S sym T i q = true) : ∀ d, upR S sym T (i + d) q = true
  | 0 => h
  | d + 1 => up1_le (upR_mono h d)
/-- A turn reaches all to which one step leads. -/
theorem upR_ep {T : Nat → Bool} {i q : Nat} (hi : i < m) (hT : T i = true) (h : ep S sym i q) : upR S sym T m q = true := by
  have h1 : upR S sym T (i + 1) q = true := ep_up1 (upR_le hT i) h
  have := upR_mono h1 (m - (i + 1))
  rwa [show i + 1 + (m - (i + 1)) = m by omega] at this
/-- Is nothing new reached by one step? -/
def clsd (S : Nat → Sd) (sym : Int) (m : Nat) (T : Nat → Bool) : Prop := ∀ i q, i < m → q < m → T i = true → ep S sym i q → T q = true
def cntT (T : Nat → Bool) (m : Nat) : Nat := ((List.range m).filter fun j => T j).length
theorem cntT_le (T : Nat → Bool) (m : Nat) : cntT T m ≤ m := by
  unfold cntT
  have := List.length_filter_le (fun j => T j) (List.range m)
  rwa [List.length_range] at this
theorem cntT_succ (T : Nat → Bool) (m : Nat) : cntT T (m + 1) = cntT T m + if T m = true then 1 else 0 := by
  unfold cntT
  rw [List.range_succ, List.filter_append, List.length_append]
  congr 1
  by_cases h : T m = true
  · rw [if_pos h, List.filter_cons_of_pos h]; rfl
  · rw [if_neg h, List.filter_cons_of_neg h]; rfl
theorem cntT_mono {T T' : Nat → Bool} (h : ∀ q, T q = true → T' q = true) : ∀ m, cntT T m ≤ cntT T' m
  | 0 => Nat.le_refl _
  | m + 1 => by
    have := cntT_mono h m
    rw [cntT_succ, cntT_succ]
    by_cases h1 : T m = true
    · rw [if_pos h1, if_pos (h m h1)]; omega
    · rw [if_neg h1]; omega
theorem cntT_less {T T' : Nat → Bool} (h : ∀ q, T q = true → T' q = true) {q : Nat} (h1 : T q ≠ true) (h2 : T' q = true) : ∀ m, q < m → cntT T m < cntT T' m
  | 0, hq => absurd hq (Nat.not_lt_zero _)
  | m + 1, hq => by
    rw [cntT_succ, cntT_succ]
    by_cases e : q = m
    · subst e
      have := cntT_mono h q
      rw [if_neg h1, if_pos h2]; omega
    · have := cntT_less h h1 h2 m (by omega)
      by_cases h3 : T m = true
      · rw [if_pos h3, if_pos (h m h3)]; omega
      · rw [if_neg h3]; omega
theorem cntT_all {T : Nat → Bool} : ∀ {m}, m ≤ cntT T m → ∀ q, q < m → T q = true
  | 0, _, q, hq => absurd hq (Nat.not_lt_zero _)
  | k + 1, h, q, hq => by
    rw [cntT_succ] at h
    have hle := cntT_le T k
    by_cases h1 : T k = true
    · rw [if_pos h1] at h
      by_cases e : q = k
      · rw [e]; exact h1
      · exact cntT_all (m := k) (by omega) q (by omega)
    · rw [if_neg h1] at h; omega
theorem clsd_or {T : Nat → Bool} : clsd S sym m T ∨ cntT T m < cntT (upR S sym T m) m := by
  by_cases h : clsd S sym m T
  · exact .inl h
  · right
    unfold clsd at h
    simp only [Classical.not_forall] at h
    obtain ⟨i, q, hi, hq, hT, he, hn⟩ := h
    exact cntT_less (fun q hq => upR_le hq m) hn (upR_ep hi hT he) m hq
theorem clsd_up {T : Nat → Bool} (hr : rng S m) (h : clsd S sym m T) : ∀ q, q < m → upR S sym T m q = true → T q = true := by
  have main : ∀ i, i ≤ m → ∀ q, q < m → upR S sym T i q = true → T q = true := by
    intro i
    induction i with
    | zero => exact fun _ q _ hq => hq
    | succ i ih =>
      intro hi q hq hu
      rcases up1_ep hr (by omega) hu with g | ⟨g1, g2⟩
      · exact ih (by omega) q hq g
      · exact h i q (by omega) hq (ih (by omega) i (by omega) g1) g2
  exact main m (Nat.le_refl _)
theorem upN_cls {T : Nat → Bool} (hr : rng S m) : ∀ k, clsd S sym m (upN S sym m T k) ∨ k ≤ cntT (upN S sym m T k) m
  | 0 => .inr (Nat.zero_le _)
  | k + 1 => by
    rcases upN_cls hr k with h | h
    · refine .inl fun i q hi hq h1 h2 => ?_
      exact upR_le (h i q hi hq (clsd_up hr h i hi h1) h2) m
    · rcases clsd_or (S := S) (sym := sym) (m := m) (T := upN S sym m T k) with g | g
      · refine .inl fun i q hi hq h1 h2 => ?_
        exact upR_le (g i q hi hq (clsd_up hr g i hi h1) h2) m
      · exact .inr (by show k + 1 ≤ cntT (upR S sym (upN S sym m T k) m) m; omega)
/-- Behind as many turns as there are states just that is true to which one comes at once. -/
theorem upN_iff {T : Nat → Bool} (hr : rng S m) {q : Nat} (hq : q < m) : upN S sym m T m q = true ↔ Cl S sym (fun q => q < m ∧ T q = true) q := by
  constructor
  · exact fun h => upN_rt hr hq h
  · rintro ⟨q0, ⟨h0, h1⟩, h2⟩
    have hc : clsd S sym m (upN S sym m T m) := by
      rcases upN_cls (S := S) (sym := sym) (T := T) hr m with h | h
      · exact h
      · exact fun i q _ hq _ _ => cntT_all h q hq
    have main : ∀ q, rt S sym q0 q → q < m ∧ upN S sym m T m q = true := by
      intro q h
      induction h with
      | refl => exact ⟨h0, upN_le h1 m⟩
      | @tail q' q'' _ he ih =>
        obtain ⟨g1, g2⟩ := ih
        obtain ⟨_, _, a1, a2, b1, b2⟩ := hr q' g1
        have hlt : q'' < m := by
          rcases he with ⟨_, h⟩ | ⟨_, h⟩ <;> omega
        exact ⟨hlt, hc q' q'' g1 hlt g2 he⟩
    exact (main q h2).2
end
end Go.Proofs.Ytnoaejpabfnfpaa

namespace Go.Proofs.Ytnoaejpabfnfpaa

/-- The first place that is like a place. -/
def hdA (R : Nat → Nat → Bool) (x : Nat) : Nat := ((List.range x).find? fun k => R k x).getD x
theorem hdA_le (R : Nat → Nat → Bool) (x : Nat) : hdA R x ≤ x := by
  unfold hdA
  cases h : (List.range x).find? fun k => R k x with
  | none => exact Nat.le_refl _
  | some k => exact Nat.le_of_lt (List.mem_range.1 (List.mem_of_find?_eq_some h))
theorem hdA_like {R : Nat → Nat → Bool} (hr : ∀ x, R x x = true) (x : Nat) : R (hdA R x) x = true := by
  unfold hdA
  cases h : (List.range x).find? fun k => R k x with
  | none => exact hr x
  | some k => exact List.find?_some (p := fun k => R k x) h
theorem find_range {P : Nat → Bool} : ∀ {n k}, k < n → P k = true → (∀ j, j < k → P j = false) → (List.range n).find? P = some k
  | 0, k, h, _, _ => absurd h (Nat.not_lt_zero _)
  | n + 1, k, h, hk, hj => by
    rw [List.range_succ, List.find?_append]
    by_cases e : k = n
    · subst e
      have : (List.range k).find? P = none := List.find?_eq_none.2 fun x hx => by rw [hj x (List.mem_range.1 hx)]; simp
      rw [this]
      simp [hk]
    · rw [find_range (n := n) (by omega) hk hj]; rfl
theorem find_range_none {P : Nat → Bool} {n : Nat} (h : ∀ j, j < n → P j = false) : (List.range n).find? P = none := List.find?_eq_none.2 fun x hx => by rw [h x (List.mem_range.1 hx)]; simp
theorem hdA_least {R : Nat → Nat → Bool} {x k : Nat} (h : k < hdA R x) : R k x = false := by
  cases hk : R k x with
  | false => rfl
  | true =>
    exfalso
    have hle := hdA_le R x
    have : ∃ j, j ≤ k ∧ R j x = true ∧ ∀ i, i < j → R i x = false := by
      clear h hle
      induction k using Nat.strongRecOn with
      | _ k ih =>
        by_cases e : ∀ i, i < k → R i x = false
        · exact ⟨k, Nat.le_refl _, hk, e⟩
        · simp only [Classical.not_forall] at e
          obtain ⟨i, hi, hn⟩ := e
          obtain ⟨j, h1, h2, h3⟩ := ih i hi (by simpa using hn)
          exact ⟨j, by omega, h2, h3⟩
    obtain ⟨j, h1, h2, h3⟩ := this
    have : hdA R x = j := by
      unfold hdA
      rw [find_range (P := fun k => R k x) (by omega) h2 h3]; rfl
    omega
theorem hdA_is {R : Nat → Nat → Bool} {x k : Nat} (hk : k < x) (h1 : R k x = true) (h2 : ∀ j, j < k → R j x = false) : hdA R x = k := by
  unfold hdA
  rw [find_range (P := fun k => R k x) hk h1 h2]; rfl
theorem hdA_self {R : Nat → Nat → Bool} {x : Nat} (h : ∀ j, j < x → R j x = false) : hdA R x = x := by
  unfold hdA
  rw [find_range_none h]; rfl
/-- Is a place the first of its class? How many classes begin below a place; the class of a place. -/
def isH (R : Nat → Nat → Bool) (x : Nat) : Bool := hdA R x == x
def clA (R : Nat → Nat → Bool) (x : Nat) : Nat := cntT (isH R) (hdA R x)
/-- What tells apart, told as an equivalence. -/
structure eqR (R : Nat → Nat → Bool) : Prop where
  re : ∀ x, R x x = true
  sy : ∀ x y, R x y = true → R y x = true
  tr : ∀ x y z, R x y = true → R y z = true → R x z = true
theorem hdA_head {R : Nat → Nat → Bool} (h : eqR R) (x : Nat) : isH R (hdA R x) = true := by
  unfold isH
  rw [beq_iff_eq]
  refine hdA_self fun j hj => ?_
  cases hk : R j (hdA R x) with
  | false => rfl
  | true => rw [← hdA_least hj]; exact (h.tr _ _ _ hk (hdA_like h.re x)).symm
theorem hdA_same {R : Nat → Nat → Bool} (h : eqR R) {x y : Nat} (hxy : R x y = true) : hdA R x = hdA R y := by
  have main : ∀ x y, R x y = true → hdA R y ≤ hdA R x := by
    intro x y hxy
    rcases Nat.lt_or_ge (hdA R x) (hdA R y) with g | g
    · have := hdA_least g
      rw [h.tr _ _ _ (hdA_like h.re x) hxy] at this; cases this
    · exact g
  exact Nat.le_antisymm (main y x (h.sy _ _ hxy)) (main x y hxy)
theorem cntT_lt {T : Nat → Bool} {a b : Nat} (hab : a < b) (ha : T a = true) : cntT T a < cntT T b := by
  induction b with
  | zero => omega
  | succ b ih =>
    rw [cntT_succ]
    by_cases e : a = b
    · subst e; rw [if_pos ha]; omega
    · have := ih (by omega); omega
theorem clA_iff {R : Nat → Nat → Bool} (h : eqR R) {x y : Nat} : clA R x = clA R y ↔ R x y = true := by
  constructor
  · intro e
    unfold clA at e
    have : hdA R x = hdA R y := by
      rcases Nat.lt_trichotomy (hdA R x) (hdA R y) with g | g | g
      · have := cntT_lt g (hdA_head h x); omega
      · exact g
      · have := cntT_lt g (hdA_head h y); omega
    have h1 := hdA_like h.re x
    have h2 := hdA_like h.re y
    rw [this] at h1
    exact h.tr _ _ _ (h.sy _ _ h1) h2
  · intro e
    unfold clA
    rw [hdA_same h e]
theorem clA_head {R : Nat → Nat → Bool} {x : Nat} (h : isH R x = true) : clA R x = cntT (isH R) x := by
  unfold isH at h
  unfold clA
  rw [beq_iff_eq.1 h]
theorem clA_lt {R : Nat → Nat → Bool} (h : eqR R) {x n : Nat} (hx : x < n) : clA R x < cntT (isH R) n := by
  have := hdA_le R x
  exact cntT_lt (by omega) (hdA_head h x)
/-- Are two symbols alike to states? -/
def alk (S : Nat → Sd) (m : Nat) (a b : Nat) : Bool := a == b || (decide (a ≤ 255) && decide (b ≤ 255) && (List.range m).all fun i => sOf (S i) a == sOf (S i) b)
theorem alk_iff {S : Nat → Sd} {m a b : Nat} : alk S m a b = true ↔ a = b ∨ (a ≤ 255 ∧ b ≤ 255 ∧ ∀ i, i < m → sOf (S i) a = sOf (S i) b) := by
  unfold alk
  simp only [Bool.or_eq_true, beq_iff_eq, Bool.and_eq_true, decide_eq_true_eq, List.all_eq_true, List.mem_range, and_assoc]
theorem alk_eq (S : Nat → Sd) (m : Nat) : eqR (alk S m) where
  re x := alk_iff.2 (.inl rfl)
  sy x y h := by
    rcases alk_iff.1 h with h | ⟨h1, h2, h3⟩
    · exact alk_iff.2 (.inl h.symm)
    · exact alk_iff.2 (.inr ⟨h2, h1, fun i hi => (h3 i hi).symm⟩)
  tr x y z h g := by
    rcases alk_iff.1 h with rfl | ⟨h1, h2, h3⟩
    · exact g
    · rcases alk_iff.1 g with rfl | ⟨g1, g2, g3⟩
      · exact h
      · exact alk_iff.2 (.inr ⟨h1, g2, fun i hi => (h3 i hi).trans (g3 i hi)⟩)
/-- Are two places alike to two lists? -/
def joR (a b : Nat → Int) (x y : Nat) : Bool := a x == a y && b x == b y
theorem joR_iff {a b : Nat → Int} {x y : Nat} : joR a b x y = true ↔ a x = a y ∧ b x = b y := by unfold joR; simp
theorem joR_eq (a b : Nat → Int) : eqR (joR a b) where
  re x := joR_iff.2 ⟨rfl, rfl⟩
  sy x y h := by have := joR_iff.1 h; exact joR_iff.2 ⟨this.1.symm, this.2.symm⟩
  tr x y z h g := by have h := joR_iff.1 h; have g := joR_iff.1 g; exact joR_iff.2 ⟨h.1.trans g.1, h.2.trans g.2⟩
/-- The first place of a class among n; -1. -/
def fsA (l : Nat → Int) (n : Nat) (c : Int) : Int := (((List.range n).find? fun i => l i == c).map fun i : Nat => (i : Int)).getD (-1)
end Go.Proofs.Ytnoaejpabfnfpaa
