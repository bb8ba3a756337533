/-
  Automata that are not yet decided, made of trees: just the parts of a text that fit a tree lead through its automaton. Plain facts.
  Just the parts of a text that fit a tree lead through its part of an automaton. Plain facts.
  An automaton of a tree is told by the tree alone; each of its states may be. Plain facts.
-/
import Derived.Test.YtpfbmbegddemoaaPk7
namespace Go.Proofs.Ytpfbmbegddemoaa

/-- A state: its kind, the words of its set, A and B. -/
structure Sd where
  k : Int
  a : Int
  b : Int
  c : Int
  d : Int
  A : Int
  B : Int
def sOf (s : Sd) : Nat → Bool := ofWords s.a.toNat s.b.toNat s.c.toNat s.d.toNat
def sE (A : Int) : Sd := ⟨2, 0, 0, 0, 0, A, 0⟩
def sS (A B : Int) : Sd := ⟨3, 0, 0, 0, 0, A, B⟩
/-- One step: from a state at a place of a text of n bytes to another one. -/
def stp (S : Nat → Sd) (n : Nat) (tx : Nat → Nat) (q i q' i' : Nat) : Prop :=
  ((S q).k = 1 ∧ i < n ∧ sOf (S q) (tx i) = true ∧ (q' : Int) = (S q).A ∧ i' = i + 1) ∨
  (i' = i ∧ (((S q).k = 2 ∨ (S q).k = 3 ∨ ((S q).k = 4 ∧ i = 0) ∨ ((S q).k = 5 ∧ i = n)) ∧ (q' : Int) = (S q).A ∨ (S q).k = 3 ∧ (q' : Int) = (S q).B))
/-- So many steps lead to the end. -/
def wk (S : Nat → Sd) (n : Nat) (tx : Nat → Nat) (qf jf : Nat) : Nat → Nat → Nat → Prop
  | 0, q, i => q = qf ∧ i = jf
  | r + 1, q, i => ∃ q' i', stp S n tx q i q' i' ∧ wk S n tx qf jf r q' i'

section
variable {S : Nat → Sd} {n : Nat} {tx : Nat → Nat} {qf jf : Nat}
theorem wk_pos {r q i : Nat} (h : wk S n tx qf jf r q i) (hq : q ≠ qf) : ∃ r', r = r' + 1 := by
  cases r with
  | zero => exact absurd h.1 hq
  | succ r => exact ⟨r, rfl⟩
/-- Through a state that goes on at once. -/
theorem wk_E {r q i A : Nat} (hs : S q = sE A) : wk S n tx qf jf (r + 1) q i ↔ wk S n tx qf jf r A i := by
  constructor
  · rintro ⟨q', i', h, hw⟩
    unfold stp at h
    rw [hs] at h
    rcases h with ⟨h, -⟩ | ⟨rfl, ⟨-, h⟩ | ⟨h, -⟩⟩
    · simp [sE] at h
    · have : q' = A := by simp [sE] at h; omega
      subst this; exact hw
    · simp [sE] at h
  · intro hw
    exact ⟨A, i, by unfold stp; rw [hs]; exact .inr ⟨rfl, .inl ⟨.inl rfl, rfl⟩⟩, hw⟩
theorem wk_S {r q i A B : Nat} (hs : S q = sS A B) : wk S n tx qf jf (r + 1) q i ↔ wk S n tx qf jf r A i ∨ wk S n tx qf jf r B i := by
  constructor
  · rintro ⟨q', i', h, hw⟩
    unfold stp at h
    rw [hs] at h
    rcases h with ⟨h, -⟩ | ⟨rfl, ⟨-, h⟩ | ⟨-, h⟩⟩
    · simp [sS] at h
    · have : q' = A := by simp [sS] at h; omega
      subst this; exact .inl hw
    · have : q' = B := by simp [sS] at h; omega
      subst this; exact .inr hw
  · rintro (hw | hw)
    · exact ⟨A, i, by unfold stp; rw [hs]; exact .inr ⟨rfl, .inl ⟨.inr (.inl rfl), rfl⟩⟩, hw⟩
    · exact ⟨B, i, by unfold stp; rw [hs]; exact .inr ⟨rfl, .inr ⟨rfl, rfl⟩⟩, hw⟩
end

/-- So many parts, the first one ahead. -/
def pw (n : Nat) (x : Gr) : Nat → Nat → Nat → Prop
  | 0, i, j => i = j ∧ j ≤ n
  | k + 1, i, j => ∃ m, i ≤ m ∧ m ≤ n ∧ x i m = true ∧ pw n x k m j
theorem pw_le {n : Nat} {x : Gr} : ∀ {k i j}, pw n x k i j → i ≤ j ∧ j ≤ n
  | 0, _, _, h => ⟨by have := h.1; omega, h.2⟩
  | k + 1, i, j, ⟨m, h1, _, _, h4⟩ => ⟨Nat.le_trans h1 (pw_le h4).1, (pw_le h4).2⟩
theorem pw_iff {n : Nat} {x : Gr} : ∀ {k i j}, i ≤ j → j ≤ n → (powB n x k i j = true ↔ pw n x k i j)
  | 0, i, j, _, _ => even_iff
  | k + 1, i, j, h1, h2 => by
    show behB n (powB n x k) x i j = true ↔ _
    rw [← pow_comm n x k i j h1 h2, beh_iff]
    constructor
    · rintro ⟨m, g1, g2, g3, g4, g5⟩
      exact ⟨m, g2, g1, g4, (pw_iff g3 h2).1 g5⟩
    · rintro ⟨m, g1, g2, g3, g4⟩
      exact ⟨m, g2, g1, (pw_le g4).1, g3, (pw_iff (pw_le g4).1 h2).2 g4⟩
theorem pw_add {n : Nat} {x : Gr} : ∀ {a b i m j}, pw n x a i m → pw n x b m j → pw n x (a + b) i j
  | 0, b, i, m, j, h, h' => by obtain ⟨rfl, -⟩ := h; rw [Nat.zero_add]; exact h'
  | a + 1, b, i, m, j, ⟨l, h1, h2, h3, h4⟩, h' => by rw [show a + 1 + b = (a + b) + 1 by omega]; exact ⟨l, h1, h2, h3, pw_add h4 h'⟩
theorem pw_split {n : Nat} {x : Gr} : ∀ {a b i j}, pw n x (a + b) i j → ∃ m, pw n x a i m ∧ pw n x b m j
  | 0, b, i, j, h => by
    rw [Nat.zero_add] at h
    exact ⟨i, ⟨rfl, by have := pw_le h; omega⟩, h⟩
  | a + 1, b, i, j, h => by
    rw [show a + 1 + b = (a + b) + 1 by omega] at h
    obtain ⟨l, h1, h2, h3, h4⟩ := h
    obtain ⟨m, g1, g2⟩ := pw_split h4
    exact ⟨m, ⟨l, h1, h2, h3, g1⟩, g2⟩
/-- A part more than there are bytes: one is empty, and may be left out. -/
theorem pw_less {n : Nat} {x : Gr} : ∀ {k i j}, pw n x (k + 1) i j → pw n x k i j ∨ k + 1 ≤ j - i
  | 0, i, j, ⟨m, h1, h2, h3, h4⟩ => by
    obtain ⟨rfl, h5⟩ := h4
    rcases Nat.lt_or_ge i m with h | h
    · exact .inr (by omega)
    · exact .inl ⟨by omega, h5⟩
  | k + 1, i, j, ⟨m, h1, h2, h3, h4⟩ => by
    rcases Nat.lt_or_ge i m with h | h
    · rcases pw_less h4 with g | g
      · exact .inl ⟨m, h1, h2, h3, g⟩
      · exact .inr (by omega)
    · obtain rfl : m = i := by omega
      exact .inl h4
theorem pw_few {n : Nat} {x : Gr} (c : Nat) : ∀ d {i j}, pw n x (c + n + d) i j → ∃ e, e ≤ n ∧ pw n x (c + e) i j
  | 0, i, j, h => ⟨n, Nat.le_refl _, h⟩
  | d + 1, i, j, h => by
    rw [show c + n + (d + 1) = (c + n + d) + 1 by omega] at h
    rcases pw_less h with g | g
    · exact pw_few c d g
    · have := pw_le h; omega

/-- How many states a tree's part has. -/
def nst : Tr → Nat
  | .leaf _ => 2
  | .cat a b => nst a + nst b
  | .or a b => nst a + nst b + 2
  | .rep a lo hi => 2 + lo.toNat * nst a + (if hi = -1 then nst a + 1 else (hi - lo).toNat * (nst a + 1))
theorem nst_two : ∀ t, 2 ≤ nst t
  | .leaf _ => Nat.le_refl _
  | .cat a b => by have := nst_two a; show 2 ≤ nst a + nst b; omega
  | .or a b => by show 2 ≤ nst a + nst b + 2; omega
  | .rep a lo hi => by show 2 ≤ 2 + _ + _; omega
def skd (k : Int) : Int := if k = 1 then 1 else if k = 2 then 2 else if k = 3 then 4 else 5
/-- Some copies of a part, one behind the other: what is ahead goes to the first, the last one's last state is ahead then. -/
def cps (S : Nat → Sd) (P : Nat → Nat → Nat → Prop) (sz : Nat) : Nat → Nat → Nat → Nat → Nat → Prop
  | 0, base, ah, base', ah' => base' = base ∧ ah' = ah
  | m + 1, base, ah, base', ah' => ∃ f l : Nat, S ah = sE f ∧ P base f l ∧ cps S P sz m (base + sz) l base' ah'
/-- Some copies that may be left out, and the last state. -/
def opts (S : Nat → Sd) (P : Nat → Nat → Nat → Prop) (sz : Nat) : Nat → Nat → Nat → Nat → Prop
  | 0, base, ah, L => L = base ∧ S ah = sE L
  | m + 1, base, ah, L => ∃ f l : Nat, P base f l ∧ S (base + sz) = sS f L ∧ S ah = sE (base + sz : Nat) ∧ opts S P sz m (base + sz + 1) l L
/-- A copy that may come again and again, and the last state. -/
def again9 (S : Nat → Sd) (P : Nat → Nat → Nat → Prop) (sz base ah L : Nat) : Prop :=
  ∃ f l : Nat, P base f l ∧ S (base + sz) = sS f L ∧ S ah = sE (base + sz : Nat) ∧ S l = sE (base + sz : Nat) ∧ L = base + sz + 1
/-- A tree's part lies in S from a place on, its first and its last state; where the last one goes is not told. -/
def isFr (S : Nat → Sd) : Tr → Nat → Nat → Nat → Prop
  | .leaf x, base, f, l => f = base ∧ l = base + 1 ∧ S f = ⟨skd x.k, x.a, x.b, x.c, x.d, (base + 1 : Nat), 0⟩
  | .cat a b, base, f, l => ∃ la fb : Nat, isFr S a base f la ∧ isFr S b (base + nst a) fb l ∧ S la = sE fb
  | .or a b, base, f, l => ∃ fa la fb lb : Nat, isFr S a base fa la ∧ isFr S b (base + nst a) fb lb ∧ f = base + nst a + nst b ∧ l = f + 1 ∧ S f = sS fa fb ∧ S la = sE l ∧ S lb = sE l
  | .rep a lo hi, base, f, l => f = base ∧ ∃ base' ah, cps S (isFr S a) (nst a) lo.toNat (base + 1) base base' ah ∧
      (if hi = -1 then again9 S (isFr S a) (nst a) base' ah l else opts S (isFr S a) (nst a) (hi - lo).toNat base' ah l)

/-- A part's first and last state lie in it, and are two. -/
def inP (P : Nat → Nat → Nat → Prop) (sz : Nat) : Prop := ∀ b f l, P b f l → b ≤ f ∧ f < b + sz ∧ b ≤ l ∧ l < b + sz ∧ f ≠ l
theorem cps_bd {S : Nat → Sd} {P : Nat → Nat → Nat → Prop} {sz : Nat} (hP : inP P sz) : ∀ {m base ah base' ah'}, cps S P sz m base ah base' ah' → base' = base + m * sz ∧ ((m = 0 ∧ ah' = ah) ∨ (base ≤ ah' ∧ ah' < base'))
  | 0, _, _, _, _, ⟨h1, h2⟩ => ⟨by omega, .inl ⟨rfl, h2⟩⟩
  | m + 1, base, ah, base', ah', ⟨f, l, _, h2, h3⟩ => by
    obtain ⟨g1, g2⟩ := cps_bd hP h3
    obtain ⟨k1, k2, k3, k4, _⟩ := hP _ _ _ h2
    have e : (m + 1) * sz = m * sz + sz := Nat.succ_mul m sz
    refine ⟨by omega, .inr ?_⟩
    rcases g2 with ⟨rfl, rfl⟩ | g2
    · rw [Nat.zero_mul] at g1; omega
    · omega
theorem opts_bd {S : Nat → Sd} {P : Nat → Nat → Nat → Prop} {sz : Nat} : ∀ {m base ah L}, opts S P sz m base ah L → L = base + m * (sz + 1)
  | 0, _, _, _, ⟨h1, _⟩ => by omega
  | m + 1, base, ah, L, ⟨f, l, _, _, _, h3⟩ => by
    have g1 := opts_bd h3
    have e : (m + 1) * (sz + 1) = m * (sz + 1) + (sz + 1) := Nat.succ_mul m (sz + 1)
    omega
theorem fr_bd (S : Nat → Sd) : ∀ t, inP (isFr S t) (nst t)
  | .leaf x, b, f, l, ⟨h1, h2, _⟩ => by show _ ∧ _ < b + 2 ∧ _ ∧ _ < b + 2 ∧ _; omega
  | .cat x y, b, f, l, ⟨la, fb, h1, h2, _⟩ => by
    have g1 := fr_bd S x _ _ _ h1
    have g2 := fr_bd S y _ _ _ h2
    show _ ∧ _ < b + (nst x + nst y) ∧ _ ∧ _ < b + (nst x + nst y) ∧ _
    omega
  | .or x y, b, f, l, ⟨fa, la, fb, lb, h1, h2, h3, h4, _⟩ => by
    show _ ∧ _ < b + (nst x + nst y + 2) ∧ _ ∧ _ < b + (nst x + nst y + 2) ∧ _
    omega
  | .rep x lo hi, b, f, l, ⟨h1, base', ah, h2, h3⟩ => by
    have g1 := (cps_bd (fr_bd S x) h2).1
    show _ ∧ _ < b + (2 + lo.toNat * nst x + _) ∧ _ ∧ _ < b + (2 + lo.toNat * nst x + _) ∧ _
    by_cases hh : hi = -1
    · rw [if_pos hh] at h3 ⊢
      obtain ⟨_, _, _, _, _, _, h8⟩ := h3
      omega
    · rw [if_neg hh] at h3 ⊢
      have := opts_bd h3
      omega
end Go.Proofs.Ytpfbmbegddemoaa

namespace Go.Proofs.Ytpfbmbegddemoaa

section
variable {S : Nat → Sd} {n : Nat} {tx : Nat → Nat} {qf jf : Nat}
/-- From a part's first state one comes to its last one only by what fits. -/
def fwdP (S : Nat → Sd) (n : Nat) (tx : Nat → Nat) (qf jf : Nat) (P : Nat → Nat → Nat → Prop) (x : Gr) (sz : Nat) : Prop :=
  ∀ b f l, P b f l → (∀ q, b ≤ q → q < b + sz → q = qf → q = l) → ∀ r i, i ≤ n → wk S n tx qf jf r f i → ∃ j r', i ≤ j ∧ j ≤ n ∧ r' < r ∧ x i j = true ∧ wk S n tx qf jf r' l j
/-- By what fits one comes from the first state to the last one. -/
def bwdP (S : Nat → Sd) (n : Nat) (tx : Nat → Nat) (qf jf : Nat) (P : Nat → Nat → Nat → Prop) (x : Gr) : Prop :=
  ∀ b f l, P b f l → ∀ i j, i ≤ j → j ≤ n → x i j = true → ∀ r, wk S n tx qf jf r l j → ∃ r', wk S n tx qf jf r' f i

theorem cps_fwd {P : Nat → Nat → Nat → Prop} {x : Gr} {sz : Nat} (hP : inP P sz) (hf : fwdP S n tx qf jf P x sz) : ∀ {m base ah base' ah'}, cps S P sz m base ah base' ah' → (∀ q, base ≤ q → q < base' → q ≠ qf) → ah ≠ qf →
    ∀ r i, i ≤ n → wk S n tx qf jf r ah i → ∃ j r', pw n x m i j ∧ r' ≤ r ∧ wk S n tx qf jf r' ah' j
  | 0, base, ah, base', ah', ⟨_, h2⟩, _, _, r, i, hi, hw => by subst h2; exact ⟨i, r, ⟨rfl, hi⟩, Nat.le_refl _, hw⟩
  | m + 1, base, ah, base', ah', ⟨f, l, h1, h2, h3⟩, hq, ha, r, i, hi, hw => by
    obtain ⟨r1, rfl⟩ := wk_pos hw ha
    have hw := (wk_E h1).1 hw
    have hb := (cps_bd hP h3).1
    obtain ⟨k1, k2, k3, k4, _⟩ := hP _ _ _ h2
    have hle : base + sz ≤ base' := by rw [hb]; exact Nat.le_add_right _ _
    obtain ⟨j1, r2, a1, a2, a3, a4, a5⟩ := hf base f l h2 (fun q g1 g2 g3 => absurd g3 (hq q g1 (by omega))) r1 i hi hw
    obtain ⟨j, r', b1, b2, b3⟩ := cps_fwd hP hf h3 (fun q g1 g2 => hq q (by omega) g2) (hq l k3 (by omega)) r2 j1 a2 a5
    exact ⟨j, r', ⟨j1, a1, a2, a4, b1⟩, by omega, b3⟩
theorem cps_bwd {P : Nat → Nat → Nat → Prop} {x : Gr} {sz : Nat} (hf : bwdP S n tx qf jf P x) : ∀ {m base ah base' ah'}, cps S P sz m base ah base' ah' → ∀ i j, pw n x m i j → ∀ r, wk S n tx qf jf r ah' j → ∃ r', wk S n tx qf jf r' ah i
  | 0, base, ah, base', ah', ⟨_, h2⟩, i, j, ⟨h3, _⟩, r, hw => by subst h2 h3; exact ⟨r, hw⟩
  | m + 1, base, ah, base', ah', ⟨f, l, h1, h2, h3⟩, i, j, ⟨m1, g1, g2, g3, g4⟩, r, hw => by
    obtain ⟨r1, k1⟩ := cps_bwd hf h3 m1 j g4 r hw
    obtain ⟨r2, k2⟩ := hf base f l h2 i m1 g1 g2 g3 r1 k1
    exact ⟨r2 + 1, (wk_E h1).2 k2⟩
theorem opts_fwd {P : Nat → Nat → Nat → Prop} {x : Gr} {sz : Nat} (hP : inP P sz) (hf : fwdP S n tx qf jf P x sz) : ∀ {m base ah L}, opts S P sz m base ah L → (∀ q, base ≤ q → q < L → q ≠ qf) → ah ≠ qf →
    ∀ r i, i ≤ n → wk S n tx qf jf r ah i → ∃ k j r', k ≤ m ∧ pw n x k i j ∧ r' < r ∧ wk S n tx qf jf r' L j
  | 0, base, ah, L, ⟨_, h2⟩, _, ha, r, i, hi, hw => by
    obtain ⟨r1, rfl⟩ := wk_pos hw ha
    exact ⟨0, i, r1, Nat.le_refl _, ⟨rfl, hi⟩, Nat.lt_succ_self _, (wk_E h2).1 hw⟩
  | m + 1, base, ah, L, ⟨f, l, h1, h2, h3, h4⟩, hq, ha, r, i, hi, hw => by
    obtain ⟨r1, rfl⟩ := wk_pos hw ha
    have hw := (wk_E h3).1 hw
    have hb := opts_bd h4
    have hle : base + sz + 1 ≤ L := by rw [hb]; exact Nat.le_add_right _ _
    obtain ⟨k1, k2, k3, k4, _⟩ := hP _ _ _ h1
    obtain ⟨r2, rfl⟩ := wk_pos hw (hq _ (by omega) (by omega))
    rcases (wk_S h2).1 hw with hw | hw
    · obtain ⟨j1, r3, a1, a2, a3, a4, a5⟩ := hf base f l h1 (fun q g1 g2 g3 => absurd g3 (hq q g1 (by omega))) r2 i hi hw
      obtain ⟨k, j, r', b0, b1, b2, b3⟩ := opts_fwd hP hf h4 (fun q g1 g2 => hq q (by omega) g2) (hq l k3 (by omega)) r3 j1 a2 a5
      exact ⟨k + 1, j, r', by omega, ⟨j1, a1, a2, a4, b1⟩, by omega, b3⟩
    · exact ⟨0, i, r2, Nat.zero_le _, ⟨rfl, hi⟩, by omega, hw⟩
theorem opts_bwd {P : Nat → Nat → Nat → Prop} {x : Gr} {sz : Nat} (hf : bwdP S n tx qf jf P x) : ∀ {m base ah L}, opts S P sz m base ah L → ∀ k i j, k ≤ m → pw n x k i j → ∀ r, wk S n tx qf jf r L j → ∃ r', wk S n tx qf jf r' ah i
  | 0, base, ah, L, ⟨_, h2⟩, k, i, j, hk, h3, r, hw => by
    obtain rfl : k = 0 := by omega
    obtain ⟨rfl, -⟩ := h3
    exact ⟨r + 1, (wk_E h2).2 hw⟩
  | m + 1, base, ah, L, ⟨f, l, h1, h2, h3, h4⟩, k, i, j, hk, hp, r, hw => by
    cases k with
    | zero =>
      obtain ⟨rfl, -⟩ := hp
      exact ⟨r + 1 + 1, (wk_E h3).2 ((wk_S h2).2 (.inr hw))⟩
    | succ k =>
      obtain ⟨m1, g1, g2, g3, g4⟩ := hp
      obtain ⟨r1, k1⟩ := opts_bwd hf h4 k m1 j (by omega) g4 r hw
      obtain ⟨r2, k2⟩ := hf base f l h1 i m1 g1 g2 g3 r1 k1
      exact ⟨r2 + 1 + 1, (wk_E h3).2 ((wk_S h2).2 (.inl k2))⟩
theorem again_fwd {P : Nat → Nat → Nat → Prop} {x : Gr} {sz base ah L : Nat} (hP : inP P sz) (hf : fwdP S n tx qf jf P x sz) (h : again9 S P sz base ah L) (hq : ∀ q, base ≤ q → q < L → q ≠ qf) (ha : ah ≠ qf) :
    ∀ r i, i ≤ n → wk S n tx qf jf r ah i → ∃ k j r', pw n x k i j ∧ r' < r ∧ wk S n tx qf jf r' L j := by
  obtain ⟨f, l, h1, h2, h3, h4, h5⟩ := h
  obtain ⟨k1, k2, k3, k4, _⟩ := hP _ _ _ h1
  have main : ∀ R r i, r ≤ R → i ≤ n → wk S n tx qf jf r (base + sz) i → ∃ k j r', pw n x k i j ∧ r' < r ∧ wk S n tx qf jf r' L j := by
    intro R
    induction R with
    | zero =>
      intro r i hr hi hw
      obtain ⟨r1, rfl⟩ := wk_pos hw (hq _ (by omega) (by omega))
      omega
    | succ R ih =>
      intro r i hr hi hw
      obtain ⟨r1, rfl⟩ := wk_pos hw (hq _ (by omega) (by omega))
      rcases (wk_S h2).1 hw with hw | hw
      · obtain ⟨j1, r2, a1, a2, a3, a4, a5⟩ := hf base f l h1 (fun q g1 g2 g3 => absurd g3 (hq q g1 (by omega))) r1 i hi hw
        obtain ⟨r3, rfl⟩ := wk_pos a5 (hq l k3 (by omega))
        obtain ⟨k, j, r', b1, b2, b3⟩ := ih r3 j1 (by omega) a2 ((wk_E h4).1 a5)
        exact ⟨k + 1, j, r', ⟨j1, a1, a2, a4, b1⟩, by omega, b3⟩
      · exact ⟨0, i, r1, ⟨rfl, hi⟩, by omega, hw⟩
  intro r i hi hw
  obtain ⟨r1, rfl⟩ := wk_pos hw ha
  obtain ⟨k, j, r', b1, b2, b3⟩ := main r1 r1 i (Nat.le_refl _) hi ((wk_E h3).1 hw)
  exact ⟨k, j, r', b1, by omega, b3⟩
theorem again_bwd {P : Nat → Nat → Nat → Prop} {x : Gr} {sz base ah L : Nat} (hf : bwdP S n tx qf jf P x) (h : again9 S P sz base ah L) : ∀ k i j, pw n x k i j → ∀ r, wk S n tx qf jf r L j → ∃ r', wk S n tx qf jf r' ah i := by
  obtain ⟨f, l, h1, h2, h3, h4, h5⟩ := h
  have main : ∀ k i j, pw n x k i j → ∀ r, wk S n tx qf jf r L j → ∃ r', wk S n tx qf jf r' (base + sz) i := by
    intro k
    induction k with
    | zero =>
      rintro i j ⟨rfl, -⟩ r hw
      exact ⟨r + 1, (wk_S h2).2 (.inr hw)⟩
    | succ k ih =>
      rintro i j ⟨m1, g1, g2, g3, g4⟩ r hw
      obtain ⟨r1, w1⟩ := ih m1 j g4 r hw
      obtain ⟨r2, w2⟩ := hf base f l h1 i m1 g1 g2 g3 (r1 + 1) ((wk_E h4).2 w1)
      exact ⟨r2 + 1, (wk_S h2).2 (.inl w2)⟩
  intro k i j hp r hw
  obtain ⟨r1, w1⟩ := main k i j hp r hw
  exact ⟨r1 + 1, (wk_E h3).2 w1⟩

theorem leaf_fwd {x : Nd} (h : okT (.leaf x)) : fwdP S n tx qf jf (isFr S (.leaf x)) (leafB7 n tx x) 2 := by
  rintro b f l ⟨rfl, rfl, h3⟩ hq r i hi hw
  obtain ⟨r1, rfl⟩ := wk_pos hw (fun e => by have := hq f (Nat.le_refl _) (by omega) e; omega)
  obtain ⟨q', i', hs, hw⟩ := hw
  unfold stp at hs
  rw [h3] at hs
  rcases h with ⟨h1, -⟩ | rfl | rfl | rfl
  · have e : skd x.k = 1 := by unfold skd; rw [if_pos h1]
    simp only [e] at hs
    rcases hs with ⟨-, g1, g2, g3, rfl⟩ | ⟨-, g⟩
    · obtain rfl : q' = f + 1 := by omega
      refine ⟨i + 1, r1, by omega, by omega, by omega, ?_, hw⟩
      unfold leafB7
      rw [if_pos h1, decide_eq_true g1, decide_eq_true (show i + 1 = i + 1 from rfl)]
      exact g2
    · omega
  · simp only [show skd (nd0 2).k = 2 from rfl] at hs
    rcases hs with ⟨g, -⟩ | ⟨rfl, ⟨-, g⟩ | ⟨g, -⟩⟩
    · omega
    · obtain rfl : q' = f + 1 := by omega
      exact ⟨i', r1, Nat.le_refl _, hi, by omega, even_iff.2 ⟨rfl, hi⟩, hw⟩
    · omega
  · simp only [show skd (nd0 3).k = 4 from rfl] at hs
    rcases hs with ⟨g, -⟩ | ⟨rfl, ⟨g0, g⟩ | ⟨g, -⟩⟩
    · omega
    · obtain rfl : q' = f + 1 := by omega
      obtain rfl : i' = 0 := by omega
      exact ⟨0, r1, Nat.le_refl _, hi, by omega, rfl, hw⟩
    · omega
  · simp only [show skd (nd0 4).k = 5 from rfl] at hs
    rcases hs with ⟨g, -⟩ | ⟨rfl, ⟨g0, g⟩ | ⟨g, -⟩⟩
    · omega
    · obtain rfl : q' = f + 1 := by omega
      obtain rfl : i' = n := by omega
      refine ⟨i', r1, Nat.le_refl _, hi, by omega, ?_, hw⟩
      show (decide (i' = i') && decide (i' = i')) = true
      simp
    · omega
theorem leaf_bwd {x : Nd} (h : okT (.leaf x)) : bwdP S n tx qf jf (isFr S (.leaf x)) (leafB7 n tx x) := by
  rintro b f l ⟨rfl, rfl, h3⟩ i j hij hj hx r hw
  have hl : ((f + 1 : Nat) : Int) = (S f).A := by rw [h3]
  rcases h with ⟨h1, -⟩ | rfl | rfl | rfl
  · unfold leafB7 at hx
    rw [if_pos h1] at hx
    simp only [Bool.and_eq_true, decide_eq_true_eq] at hx
    obtain ⟨⟨g1, rfl⟩, g2⟩ := hx
    exact ⟨r + 1, f + 1, i + 1, .inl ⟨by rw [h3]; unfold skd; rw [if_pos h1], g1, by rw [h3]; exact g2, hl, rfl⟩, hw⟩
  · obtain ⟨rfl, -⟩ := even_iff.1 (show evenB n i j = true from hx)
    exact ⟨r + 1, f + 1, i, .inr ⟨rfl, .inl ⟨.inl (by rw [h3]; rfl), hl⟩⟩, hw⟩
  · have hx : (decide (i = 0) && decide (j = 0)) = true := hx
    simp only [Bool.and_eq_true, decide_eq_true_eq] at hx
    obtain ⟨rfl, rfl⟩ := hx
    exact ⟨r + 1, f + 1, 0, .inr ⟨rfl, .inl ⟨.inr (.inr (.inl ⟨by rw [h3]; rfl, rfl⟩)), hl⟩⟩, hw⟩
  · have hx : (decide (i = n) && decide (j = n)) = true := hx
    simp only [Bool.and_eq_true, decide_eq_true_eq] at hx
    obtain ⟨e1, e2⟩ := hx
    refine ⟨r + 1, f + 1, j, .inr ⟨by omega, .inl ⟨.inr (.inr (.inr ⟨by rw [h3]; rfl, e1⟩)), hl⟩⟩, hw⟩
theorem rep_iff {x : Gr} {lo more i j : Nat} (h1 : i ≤ j) (h2 : j ≤ n) : repB n x lo more i j = true ↔ ∃ k, k ≤ more ∧ pw n x (lo + k) i j := by
  unfold repB
  rw [List.any_eq_true]
  constructor
  · rintro ⟨k, hk, h⟩
    exact ⟨k, by have := List.mem_range.1 hk; omega, (pw_iff h1 h2).1 h⟩
  · rintro ⟨k, hk, h⟩
    exact ⟨k, List.mem_range.2 (by omega), (pw_iff h1 h2).2 h⟩

theorem fwd_fr : ∀ t, okT t → fwdP S n tx qf jf (isFr S t) (fitT n tx t) (nst t)
  | .leaf x, h => leaf_fwd h
  | .cat a b, h => by
    rintro B f l ⟨la, fb, h1, h2, h3⟩ hq r i hi hw
    have ba := fr_bd S a _ _ _ h1
    have bb := fr_bd S b _ _ _ h2
    have hq : ∀ q, B ≤ q → q < B + (nst a + nst b) → q = qf → q = l := hq
    obtain ⟨j1, r1, a1, a2, a3, a4, a5⟩ := fwd_fr a h.1 B f la h1 (fun q g1 g2 g3 => by have := hq q g1 (by omega) g3; omega) r i hi hw
    obtain ⟨r2, rfl⟩ := wk_pos a5 (fun e => by have := hq la (by omega) (by omega) e; omega)
    obtain ⟨j, r', b1, b2, b3, b4, b5⟩ := fwd_fr b h.2 _ fb l h2 (fun q g1 g2 g3 => hq q (by omega) (by omega) g3) r2 j1 a2 ((wk_E h3).1 a5)
    exact ⟨j, r', by omega, b2, by omega, beh_iff.2 ⟨j1, a2, a1, b1, a4, b4⟩, b5⟩
  | .or a b, h => by
    rintro B f l ⟨fa, la, fb, lb, h1, h2, h3, h4, h5, h6, h7⟩ hq r i hi hw
    have ba := fr_bd S a _ _ _ h1
    have bb := fr_bd S b _ _ _ h2
    have hq : ∀ q, B ≤ q → q < B + (nst a + nst b + 2) → q = qf → q = l := hq
    obtain ⟨r1, rfl⟩ := wk_pos hw (fun e => by have := hq f (by omega) (by omega) e; omega)
    rcases (wk_S h5).1 hw with hw | hw
    · obtain ⟨j, r2, a1, a2, a3, a4, a5⟩ := fwd_fr a h.1 B fa la h1 (fun q g1 g2 g3 => by have := hq q g1 (by omega) g3; omega) r1 i hi hw
      obtain ⟨r3, rfl⟩ := wk_pos a5 (fun e => by have := hq la (by omega) (by omega) e; omega)
      refine ⟨j, r3, a1, a2, by omega, ?_, (wk_E h6).1 a5⟩
      show (fitT n tx a i j || fitT n tx b i j) = true
      rw [a4]; rfl
    · obtain ⟨j, r2, a1, a2, a3, a4, a5⟩ := fwd_fr b h.2 _ fb lb h2 (fun q g1 g2 g3 => by have := hq q (by omega) (by omega) g3; omega) r1 i hi hw
      obtain ⟨r3, rfl⟩ := wk_pos a5 (fun e => by have := hq lb (by omega) (by omega) e; omega)
      refine ⟨j, r3, a1, a2, by omega, ?_, (wk_E h7).1 a5⟩
      show (fitT n tx a i j || fitT n tx b i j) = true
      rw [a4, Bool.or_true]
  | .rep a lo hi, h => by
    rintro B f l ⟨rfl, base', ah, h2, h3⟩ hq r i hi' hw
    have hP := fr_bd S a
    have hr := fr_bd S (.rep a lo hi) f f l ⟨rfl, base', ah, h2, h3⟩
    have hf := fwd_fr a h.1
    obtain ⟨c1, c2⟩ := cps_bd hP h2
    have hll : base' ≤ l ∧ l + 1 = f + nst (.rep a lo hi) := by
      show base' ≤ l ∧ l + 1 = f + (2 + lo.toNat * nst a + _)
      by_cases hh : hi = -1
      · rw [if_pos hh] at h3 ⊢
        obtain ⟨_, _, _, _, _, _, h8⟩ := h3
        omega
      · rw [if_neg hh] at h3 ⊢
        have := opts_bd h3
        have e := Nat.zero_le ((hi - lo).toNat * (nst a + 1))
        omega
    have hq' : ∀ q, f ≤ q → q < l → q ≠ qf := fun q g1 g2 g3 => by have := hq q g1 (by omega) g3; omega
    have hah : f ≤ ah ∧ ah < l := by
      rcases c2 with ⟨e1, rfl⟩ | c2
      · omega
      · omega
    obtain ⟨j1, r1, a1, a2, a3⟩ := cps_fwd hP hf h2 (fun q g1 g2 => hq' q (by omega) (by omega)) (hq' f (Nat.le_refl _) (by omega)) r i hi' hw
    have hp1 := pw_le a1
    by_cases hh : hi = -1
    · rw [if_pos hh] at h3
      obtain ⟨k, j, r', b1, b2, b3⟩ := again_fwd hP hf h3 (fun q g1 g2 => hq' q (by omega) g2) (hq' ah hah.1 hah.2) r1 j1 hp1.2 a3
      have hp2 := pw_le b1
      have hp := pw_add a1 b1
      refine ⟨j, r', by omega, hp2.2, by omega, ?_, b3⟩
      show repB n (fitT n tx a) lo.toNat (moreN n lo hi) i j = true
      rw [show moreN n lo hi = n by unfold moreN; rw [if_pos hh]]
      refine (rep_iff (by omega) hp2.2).2 ?_
      rcases Nat.lt_or_ge n k with hk | hk
      · exact pw_few lo.toNat (k - n) (by rw [show lo.toNat + n + (k - n) = lo.toNat + k by omega]; exact hp)
      · exact ⟨k, hk, hp⟩
    · rw [if_neg hh] at h3
      obtain ⟨k, j, r', b0, b1, b2, b3⟩ := opts_fwd hP hf h3 (fun q g1 g2 => hq' q (by omega) g2) (hq' ah hah.1 hah.2) r1 j1 hp1.2 a3
      have hp2 := pw_le b1
      have hp := pw_add a1 b1
      refine ⟨j, r', by omega, hp2.2, by omega, ?_, b3⟩
      show repB n (fitT n tx a) lo.toNat (moreN n lo hi) i j = true
      rw [show moreN n lo hi = (hi - lo).toNat by unfold moreN; rw [if_neg hh]]
      exact (rep_iff (by omega) hp2.2).2 ⟨k, b0, hp⟩
theorem bwd_fr : ∀ t, okT t → bwdP S n tx qf jf (isFr S t) (fitT n tx t)
  | .leaf x, h => leaf_bwd h
  | .cat a b, h => by
    rintro B f l ⟨la, fb, h1, h2, h3⟩ i j hij hj hx r hw
    obtain ⟨m, g1, g2, g3, g4, g5⟩ := beh_iff.1 (show behB n (fitT n tx a) (fitT n tx b) i j = true from hx)
    obtain ⟨r1, w1⟩ := bwd_fr b h.2 _ fb l h2 m j g3 hj g5 r hw
    exact bwd_fr a h.1 B f la h1 i m g2 g1 g4 (r1 + 1) ((wk_E h3).2 w1)
  | .or a b, h => by
    rintro B f l ⟨fa, la, fb, lb, h1, h2, h3, h4, h5, h6, h7⟩ i j hij hj hx r hw
    have hx : (fitT n tx a i j || fitT n tx b i j) = true := hx
    rcases Bool.or_eq_true_iff.1 hx with hx | hx
    · obtain ⟨r1, w1⟩ := bwd_fr a h.1 B fa la h1 i j hij hj hx (r + 1) ((wk_E h6).2 hw)
      exact ⟨r1 + 1, (wk_S h5).2 (.inl w1)⟩
    · obtain ⟨r1, w1⟩ := bwd_fr b h.2 _ fb lb h2 i j hij hj hx (r + 1) ((wk_E h7).2 hw)
      exact ⟨r1 + 1, (wk_S h5).2 (.inr w1)⟩
  | .rep a lo hi, h => by
    rintro B f l ⟨rfl, base', ah, h2, h3⟩ i j hij hj hx r hw
    have hf := bwd_fr a h.1
    obtain ⟨k, hk, hp⟩ := (rep_iff hij hj).1 (show repB n (fitT n tx a) lo.toNat (moreN n lo hi) i j = true from hx)
    obtain ⟨m, p1, p2⟩ := pw_split hp
    have : ∃ r', wk S n tx qf jf r' ah m := by
      by_cases hh : hi = -1
      · rw [if_pos hh] at h3
        exact again_bwd hf h3 k m j p2 r hw
      · rw [if_neg hh] at h3
        rw [show moreN n lo hi = (hi - lo).toNat by unfold moreN; rw [if_neg hh]] at hk
        exact opts_bwd hf h3 k m j hk p2 r hw
    obtain ⟨r1, w1⟩ := this
    exact cps_bwd hf h2 i m p1 r1 w1
end
/-- Just the parts that fit a tree lead through its automaton. -/
theorem fits_wk {S : Nat → Sd} {n : Nat} {tx : Nat → Nat} {t : Tr} (h : okT t) {f l : Nat} (hS : isFr S t 0 f l) (hl : (S l).k = 6) (i j : Nat) (hij : i ≤ j) (hj : j ≤ n) : fitT n tx t i j = true ↔ ∃ r, wk S n tx l j r f i := by
  constructor
  · intro hx
    exact bwd_fr t h 0 f l hS i j hij hj hx 0 ⟨rfl, rfl⟩
  · rintro ⟨r, hw⟩
    obtain ⟨j', r', a1, a2, a3, a4, a5⟩ := fwd_fr t h 0 f l hS (fun q _ _ e => e) r i (by omega) hw
    cases r' with
    | zero => obtain ⟨-, rfl⟩ := a5; exact a4
    | succ r' =>
      obtain ⟨q', i', hs, -⟩ := a5
      unfold stp at hs
      rw [hl] at hs
      omega
end Go.Proofs.Ytpfbmbegddemoaa

namespace Go.Proofs.Ytpfbmbegddemoaa

section
variable {S S' : Nat → Sd}
/-- Two parts of one tree at one place are the same, but for their last states. -/
def unP (S S' : Nat → Sd) (P P' : Nat → Nat → Nat → Prop) (sz : Nat) : Prop := ∀ b f l f' l', P b f l → P' b f' l' → f = f' ∧ l = l' ∧ ∀ q, b ≤ q → q < b + sz → q ≠ l → S q = S' q
theorem cps_un {P P' : Nat → Nat → Nat → Prop} {sz : Nat} (hP : inP P sz) (hu : unP S S' P P' sz) : ∀ {m base ah b1 a1 b2 a2}, cps S P sz m base ah b1 a1 → cps S' P' sz m base ah b2 a2 →
    b1 = b2 ∧ a1 = a2 ∧ ∀ q, (q = ah ∨ (base ≤ q ∧ q < b1)) → q ≠ a1 → S q = S' q
  | 0, base, ah, b1, a1, b2, a2, ⟨h1, h2⟩, ⟨g1, g2⟩ => ⟨by omega, by omega, fun q hq hn => by omega⟩
  | m + 1, base, ah, b1, a1, b2, a2, ⟨f, l, h1, h2, h3⟩, ⟨f', l', g1, g2, g3⟩ => by
    obtain ⟨rfl, rfl, hs⟩ := hu _ _ _ _ _ h2 g2
    obtain ⟨c1, c2, c3⟩ := cps_un hP hu h3 g3
    obtain ⟨k1, k2, k3, k4, _⟩ := hP _ _ _ h2
    refine ⟨c1, c2, fun q hq hn => ?_⟩
    by_cases e : q = ah
    · rw [e, h1, g1]
    · by_cases el : q = l
      · exact c3 q (.inl el) hn
      · rcases Nat.lt_or_ge q (base + sz) with hlt | hge
        · exact hs q (by omega) hlt el
        · exact c3 q (.inr ⟨hge, by omega⟩) hn
theorem opts_un {P P' : Nat → Nat → Nat → Prop} {sz : Nat} (hP : inP P sz) (hu : unP S S' P P' sz) : ∀ {m base ah L L'}, opts S P sz m base ah L → opts S' P' sz m base ah L' → L = L' ∧ ∀ q, (q = ah ∨ (base ≤ q ∧ q < L)) → S q = S' q
  | 0, base, ah, L, L', ⟨h1, h2⟩, ⟨g1, g2⟩ => by
    obtain rfl : L = L' := by omega
    refine ⟨rfl, fun q hq => ?_⟩
    obtain rfl : q = ah := by omega
    rw [h2, g2]
  | m + 1, base, ah, L, L', ⟨f, l, h1, h2, h3, h4⟩, ⟨f', l', g1, g2, g3, g4⟩ => by
    obtain ⟨rfl, rfl, hs⟩ := hu _ _ _ _ _ h1 g1
    obtain ⟨rfl, c3⟩ := opts_un hP hu h4 g4
    obtain ⟨k1, k2, k3, k4, _⟩ := hP _ _ _ h1
    refine ⟨rfl, fun q hq => ?_⟩
    by_cases e : q = ah
    · rw [e, h3, g3]
    · by_cases el : q = l
      · exact c3 q (.inl el)
      · rcases Nat.lt_or_ge q (base + sz) with hlt | hge
        · exact hs q (by omega) hlt el
        · by_cases es : q = base + sz
          · rw [es, h2, g2]
          · exact c3 q (.inr ⟨by omega, by omega⟩)
theorem again_un {P P' : Nat → Nat → Nat → Prop} {sz base ah L L' : Nat} (hu : unP S S' P P' sz) (h : again9 S P sz base ah L) (g : again9 S' P' sz base ah L') : L = L' ∧ ∀ q, (q = ah ∨ (base ≤ q ∧ q < L)) → S q = S' q := by
  obtain ⟨f, l, h1, h2, h3, h4, h5⟩ := h
  obtain ⟨f', l', g1, g2, g3, g4, g5⟩ := g
  obtain ⟨rfl, rfl, hs⟩ := hu _ _ _ _ _ h1 g1
  obtain rfl : L = L' := by omega
  refine ⟨rfl, fun q hq => ?_⟩
  by_cases e : q = ah
  · rw [e, h3, g3]
  · by_cases el : q = l
    · rw [el, h4, g4]
    · rcases Nat.lt_or_ge q (base + sz) with hlt | hge
      · exact hs q (by omega) hlt el
      · obtain rfl : q = base + sz := by omega
        rw [h2, g2]
theorem fr_un : ∀ t, unP S S' (isFr S t) (isFr S' t) (nst t)
  | .leaf x => by
    rintro b f l f' l' ⟨rfl, rfl, h3⟩ ⟨rfl, rfl, g3⟩
    refine ⟨rfl, rfl, fun q h1 h2 hn => ?_⟩
    have h2 : q < f' + 2 := h2
    obtain rfl : q = f' := by omega
    rw [h3, g3]
  | .cat a b => by
    rintro B f l f' l' ⟨la, fb, h1, h2, h3⟩ ⟨la', fb', g1, g2, g3⟩
    have ba := fr_bd S a _ _ _ h1
    have bb := fr_bd S b _ _ _ h2
    obtain ⟨rfl, rfl, hs⟩ := fr_un a _ _ _ _ _ h1 g1
    obtain ⟨rfl, rfl, ht⟩ := fr_un b _ _ _ _ _ h2 g2
    refine ⟨rfl, rfl, fun q k1 k2 hn => ?_⟩
    have k2 : q < B + (nst a + nst b) := k2
    by_cases e : q = la
    · rw [e, h3, g3]
    · rcases Nat.lt_or_ge q (B + nst a) with hlt | hge
      · exact hs q k1 hlt e
      · exact ht q hge (by omega) hn
  | .or a b => by
    rintro B f l f' l' ⟨fa, la, fb, lb, h1, h2, h3, h4, h5, h6, h7⟩ ⟨fa', la', fb', lb', g1, g2, g3, g4, g5, g6, g7⟩
    have ba := fr_bd S a _ _ _ h1
    have bb := fr_bd S b _ _ _ h2
    obtain ⟨rfl, rfl, hs⟩ := fr_un a _ _ _ _ _ h1 g1
    obtain ⟨rfl, rfl, ht⟩ := fr_un b _ _ _ _ _ h2 g2
    obtain rfl : f = f' := by omega
    obtain rfl : l = l' := by omega
    refine ⟨rfl, rfl, fun q k1 k2 hn => ?_⟩
    have k2 : q < B + (nst a + nst b + 2) := k2
    by_cases e : q = la
    · rw [e, h6, g6]
    · by_cases e' : q = lb
      · rw [e', h7, g7]
      · rcases Nat.lt_or_ge q (B + nst a) with hlt | hge
        · exact hs q k1 hlt e
        · rcases Nat.lt_or_ge q (B + nst a + nst b) with hlt | hge'
          · exact ht q hge hlt e'
          · obtain rfl : q = f := by omega
            rw [h5, g5]
  | .rep a lo hi => by
    rintro B f l f' l' h g
    have hb := fr_bd S _ _ _ _ h
    obtain ⟨rfl, b1, a1, h2, h3⟩ := h
    obtain ⟨rfl, b2, a2, g2, g3⟩ := g
    obtain ⟨rfl, rfl, hs⟩ := cps_un (fr_bd S a) (fr_un a) h2 g2
    have hl : l + 1 = f' + nst (.rep a lo hi) := by
      have c1 := (cps_bd (fr_bd S a) h2).1
      show l + 1 = f' + (2 + lo.toNat * nst a + _)
      by_cases hh : hi = -1
      · rw [if_pos hh] at h3 ⊢
        obtain ⟨_, _, _, _, _, _, h8⟩ := h3
        omega
      · rw [if_neg hh] at h3 ⊢
        have := opts_bd h3
        omega
    have main : l = l' ∧ ∀ q, (q = a1 ∨ (b1 ≤ q ∧ q < l)) → S q = S' q := by
      by_cases hh : hi = -1
      · rw [if_pos hh] at h3 g3
        exact again_un (fr_un a) h3 g3
      · rw [if_neg hh] at h3 g3
        exact opts_un (fr_bd S a) (fr_un a) h3 g3
    obtain ⟨rfl, ht⟩ := main
    refine ⟨rfl, rfl, fun q k1 k2 hn => ?_⟩
    by_cases e : q = a1
    · exact ht q (.inl e)
    · rcases Nat.lt_or_ge q b1 with hlt | hge
      · exact hs q (by omega) e
      · exact ht q (.inr ⟨hge, by omega⟩)
/-- A state that may be, A and B from lo to hi. -/
def okS (lo hi : Nat) (s : Sd) : Prop := 1 ≤ s.k ∧ s.k ≤ 5 ∧ (lo : Int) ≤ s.A ∧ s.A < hi ∧ (s.k = 3 → (lo : Int) ≤ s.B ∧ s.B < hi) ∧ (s.k ≠ 3 → s.B = 0) ∧ (s.k ≠ 1 → s.a = 0 ∧ s.b = 0 ∧ s.c = 0 ∧ s.d = 0)
theorem okS_E {lo hi A : Nat} (h1 : lo ≤ A) (h2 : A < hi) : okS lo hi (sE A) := ⟨by show (1 : Int) ≤ 2; decide, by show (2 : Int) ≤ 5; decide, by show (lo : Int) ≤ A; omega, by show (A : Int) < hi; omega, fun h => by simp [sE] at h, fun _ => rfl, fun _ => ⟨rfl, rfl, rfl, rfl⟩⟩
theorem okS_S {lo hi A B : Nat} (h1 : lo ≤ A) (h2 : A < hi) (h3 : lo ≤ B) (h4 : B < hi) : okS lo hi (sS A B) := ⟨by show (1 : Int) ≤ 3; decide, by show (3 : Int) ≤ 5; decide, by show (lo : Int) ≤ A; omega, by show (A : Int) < hi; omega, fun _ => ⟨by show (lo : Int) ≤ B; omega, by show (B : Int) < hi; omega⟩, fun h => absurd rfl h, fun _ => ⟨rfl, rfl, rfl, rfl⟩⟩
theorem okS.wide {lo hi lo' hi' : Nat} {s : Sd} (h : okS lo hi s) (h1 : lo' ≤ lo) (h2 : hi ≤ hi') : okS lo' hi' s :=
  ⟨h.1, h.2.1, by have := h.2.2.1; omega, by have := h.2.2.2.1; omega, fun e => by have := h.2.2.2.2.1 e; omega, h.2.2.2.2.2.1, h.2.2.2.2.2.2⟩
def okP (S : Nat → Sd) (P : Nat → Nat → Nat → Prop) (sz : Nat) : Prop := ∀ b f l, P b f l → ∀ q, b ≤ q → q < b + sz → q ≠ l → okS b (b + sz) (S q)
theorem cps_ok {P : Nat → Nat → Nat → Prop} {sz : Nat} (hP : inP P sz) (hk : okP S P sz) {lo hi : Nat} : ∀ {m base ah b1 a1}, cps S P sz m base ah b1 a1 → lo ≤ base → b1 ≤ hi → ∀ q, (q = ah ∨ (base ≤ q ∧ q < b1)) → q ≠ a1 → okS lo hi (S q)
  | 0, base, ah, b1, a1, ⟨h1, h2⟩, _, _, q, hq, hn => by omega
  | m + 1, base, ah, b1, a1, ⟨f, l, h1, h2, h3⟩, hlo, hhi, q, hq, hn => by
    obtain ⟨k1, k2, k3, k4, _⟩ := hP _ _ _ h2
    have hb := (cps_bd hP h3).1
    have hle : base + sz ≤ b1 := by rw [hb]; exact Nat.le_add_right _ _
    by_cases e : q = ah
    · rw [e, h1]; exact okS_E (by omega) (by omega)
    · by_cases el : q = l
      · exact cps_ok hP hk h3 (by omega) hhi q (.inl el) hn
      · rcases Nat.lt_or_ge q (base + sz) with hlt | hge
        · exact (hk _ _ _ h2 q (by omega) hlt el).wide hlo (by omega)
        · exact cps_ok hP hk h3 (by omega) hhi q (.inr ⟨hge, by omega⟩) hn
theorem opts_ok {P : Nat → Nat → Nat → Prop} {sz : Nat} (hP : inP P sz) (hk : okP S P sz) {lo hi : Nat} : ∀ {m base ah L}, opts S P sz m base ah L → lo ≤ base → L < hi → ∀ q, (q = ah ∨ (base ≤ q ∧ q < L)) → okS lo hi (S q)
  | 0, base, ah, L, ⟨h1, h2⟩, hlo, hhi, q, hq => by
    obtain rfl : q = ah := by omega
    rw [h2]; exact okS_E (by omega) (by omega)
  | m + 1, base, ah, L, ⟨f, l, h1, h2, h3, h4⟩, hlo, hhi, q, hq => by
    obtain ⟨k1, k2, k3, k4, _⟩ := hP _ _ _ h1
    have hb := opts_bd h4
    have hle : base + sz + 1 ≤ L := by rw [hb]; exact Nat.le_add_right _ _
    by_cases e : q = ah
    · rw [e, h3]; exact okS_E (by omega) (by omega)
    · by_cases el : q = l
      · exact opts_ok hP hk h4 (by omega) hhi q (.inl el)
      · rcases Nat.lt_or_ge q (base + sz) with hlt | hge
        · exact (hk _ _ _ h1 q (by omega) hlt el).wide hlo (by omega)
        · by_cases es : q = base + sz
          · rw [es, h2]; exact okS_S (by omega) (by omega) (by omega) (by omega)
          · exact opts_ok hP hk h4 (by omega) hhi q (.inr ⟨by omega, by omega⟩)
theorem again_ok {P : Nat → Nat → Nat → Prop} {sz base ah L lo hi : Nat} (hP : inP P sz) (hk : okP S P sz) (h : again9 S P sz base ah L) (hlo : lo ≤ base) (hhi : L < hi) (q : Nat) (hq : q = ah ∨ (base ≤ q ∧ q < L)) : okS lo hi (S q) := by
  obtain ⟨f, l, h1, h2, h3, h4, h5⟩ := h
  obtain ⟨k1, k2, k3, k4, _⟩ := hP _ _ _ h1
  by_cases e : q = ah
  · rw [e, h3]; exact okS_E (by omega) (by omega)
  · by_cases el : q = l
    · rw [el, h4]; exact okS_E (by omega) (by omega)
    · rcases Nat.lt_or_ge q (base + sz) with hlt | hge
      · exact (hk _ _ _ h1 q (by omega) hlt el).wide hlo (by omega)
      · obtain rfl : q = base + sz := by omega
        rw [h2]; exact okS_S (by omega) (by omega) (by omega) (by omega)
theorem fr_ok : ∀ t, okT t → okP S (isFr S t) (nst t)
  | .leaf x, h => by
    rintro b f l ⟨rfl, rfl, h3⟩ q k1 k2 hn
    have k2 : q < f + 2 := k2
    obtain rfl : q = f := by omega
    rw [h3]
    have hA : ((q : Nat) : Int) ≤ ((q + 1 : Nat) : Int) ∧ ((q + 1 : Nat) : Int) < ((q + nst (.leaf x) : Nat) : Int) := ⟨by omega, by show ((q + 1 : Nat) : Int) < ((q + 2 : Nat) : Int); omega⟩
    rcases h with ⟨h1, -⟩ | rfl | rfl | rfl
    · have e : skd x.k = 1 := by unfold skd; rw [if_pos h1]
      refine ⟨?_, ?_, hA.1, hA.2, fun g => ?_, fun _ => rfl, fun g => absurd e g⟩
      · show (1 : Int) ≤ skd x.k; rw [e]; decide
      · show skd x.k ≤ (5 : Int); rw [e]; decide
      · have : skd x.k = 3 := g
        rw [e] at this; exact absurd this (by decide)
    · exact ⟨by show (1 : Int) ≤ 2; decide, by show (2 : Int) ≤ 5; decide, hA.1, hA.2, fun g => absurd (show (2 : Int) = 3 from g) (by decide), fun _ => rfl, fun _ => ⟨rfl, rfl, rfl, rfl⟩⟩
    · exact ⟨by show (1 : Int) ≤ 4; decide, by show (4 : Int) ≤ 5; decide, hA.1, hA.2, fun g => absurd (show (4 : Int) = 3 from g) (by decide), fun _ => rfl, fun _ => ⟨rfl, rfl, rfl, rfl⟩⟩
    · exact ⟨by show (1 : Int) ≤ 5; decide, by show (5 : Int) ≤ 5; decide, hA.1, hA.2, fun g => absurd (show (5 : Int) = 3 from g) (by decide), fun _ => rfl, fun _ => ⟨rfl, rfl, rfl, rfl⟩⟩
  | .cat a b, h => by
    rintro B f l ⟨la, fb, h1, h2, h3⟩ q k1 k2 hn
    have ba := fr_bd S a _ _ _ h1
    have bb := fr_bd S b _ _ _ h2
    have k2 : q < B + (nst a + nst b) := k2
    show okS B (B + (nst a + nst b)) (S q)
    by_cases e : q = la
    · rw [e, h3]; exact okS_E (by omega) (by omega)
    · rcases Nat.lt_or_ge q (B + nst a) with hlt | hge
      · exact (fr_ok a h.1 _ _ _ h1 q k1 hlt e).wide (by omega) (by omega)
      · exact (fr_ok b h.2 _ _ _ h2 q hge (by omega) hn).wide (by omega) (by omega)
  | .or a b, h => by
    rintro B f l ⟨fa, la, fb, lb, h1, h2, h3, h4, h5, h6, h7⟩ q k1 k2 hn
    have ba := fr_bd S a _ _ _ h1
    have bb := fr_bd S b _ _ _ h2
    have k2 : q < B + (nst a + nst b + 2) := k2
    show okS B (B + (nst a + nst b + 2)) (S q)
    by_cases e : q = la
    · rw [e, h6]; exact okS_E (by omega) (by omega)
    · by_cases e' : q = lb
      · rw [e', h7]; exact okS_E (by omega) (by omega)
      · rcases Nat.lt_or_ge q (B + nst a) with hlt | hge
        · exact (fr_ok a h.1 _ _ _ h1 q k1 hlt e).wide (by omega) (by omega)
        · rcases Nat.lt_or_ge q (B + nst a + nst b) with hlt | hge'
          · exact (fr_ok b h.2 _ _ _ h2 q hge hlt e').wide (by omega) (by omega)
          · obtain rfl : q = f := by omega
            rw [h5]; exact okS_S (by omega) (by omega) (by omega) (by omega)
  | .rep a lo hi, h => by
    rintro B f l hfr q k1 k2 hn
    have hb := fr_bd S _ _ _ _ hfr
    obtain ⟨rfl, b1, a1, h2, h3⟩ := hfr
    obtain ⟨c1, c2⟩ := cps_bd (fr_bd S a) h2
    have hl : b1 ≤ l ∧ l + 1 = f + nst (.rep a lo hi) := by
      show b1 ≤ l ∧ l + 1 = f + (2 + lo.toNat * nst a + _)
      by_cases hh : hi = -1
      · rw [if_pos hh] at h3 ⊢
        obtain ⟨_, _, _, _, _, _, h8⟩ := h3
        omega
      · rw [if_neg hh] at h3 ⊢
        have := opts_bd h3
        have e := Nat.zero_le ((hi - lo).toNat * (nst a + 1))
        omega
    have main : ∀ q, (q = a1 ∨ (b1 ≤ q ∧ q < l)) → okS f (f + nst (.rep a lo hi)) (S q) := by
      intro q hq
      by_cases hh : hi = -1
      · rw [if_pos hh] at h3
        exact again_ok (fr_bd S a) (fr_ok a h.1) h3 (by omega) (by omega) q hq
      · rw [if_neg hh] at h3
        exact opts_ok (fr_bd S a) (fr_ok a h.1) h3 (by omega) (by omega) q hq
    by_cases e : q = a1
    · exact main q (.inl e)
    · rcases Nat.lt_or_ge q b1 with hlt | hge
      · exact cps_ok (fr_bd S a) (fr_ok a h.1) h2 (by omega) (by omega) q (by omega) e
      · exact main q (.inr ⟨hge, by omega⟩)
end
end Go.Proofs.Ytpfbmbegddemoaa
