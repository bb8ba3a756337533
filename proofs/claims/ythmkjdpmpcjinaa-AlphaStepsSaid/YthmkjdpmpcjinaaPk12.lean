/-
  An automaton of a tree is told by the tree alone; each of its states may be. Plain facts.
  Where one comes at once, and by bytes; what leads to the end. Plain facts.
  What all texts of the tree lean on: imports, small words on worlds, slices that read as nodes or as numbers.
-/
import Derived.Test.YthmkjdpmpcjinaaPk11
import Derived.Test.YthmkjdpmpcjinaaPk5
import Derived.Test.YthmkjdpmpcjinaaPk1
import Derived.Test.YthmkjdpmpcjinaaProg
import Derived.WalkKit
import Derived.WalkSpells
import Derived.WalkLawsBesides
import Derived.Handy
import Derived.KernelRfl
import Derived.Deep.RegionHeld3
import Derived.Deep.RegionHeldLaw
import Derived.Deep.QuietTactic
import Derived.BigQuiet
import Derived.Lib.Hide
import Derived.OneCell
import Derived.Laws.StructEq
import Derived.Laws.OwnMore
import Derived.Laws.IdiomArrays
namespace Go.Proofs.Ythmkjdpmpcjinaa

section
variable {S S' : Nat → Sd}
/-- Two parts of one tree at one place are the same, but for their last states. -/
def unP (S S' : Nat → Sd) (P P' : Nat → Nat → Nat → Prop) (sz : Nat) : Prop := ∀ b f l f' l', P b f l → P' b f' l' → f = f' ∧ l = l' ∧ ∀ q, b ≤ q → q < b + sz → q ≠ l → S q = S' q
theorem cps_un {P P' : Nat → Nat → Nat → Prop} {sz : Nat} (hP : inP P sz) (hu : unP S S' P P' sz) : ∀ {m base ah b1 a1 b2 a2}, cps S P sz m base ah b1 a1 → cps S' P' sz m base ah b2 a2 →
    b1 = b2 ∧ a1 = a2 ∧ ∀ q, (q = ah ∨ (base ≤ q ∧ q < b1)) → q ≠ a1 → S q = S' q
  | 0, base, ah, b1, a1, b2, a2, ⟨h1, h2⟩, ⟨g1, g2⟩ => ⟨by omega, by omega, fun q hq hn => by omega⟩
  | m + 1, base, ah, b1, a1, b2, a2, ⟨f, l, h1, h2, h3⟩, ⟨f', l', g1, g2, g3⟩ => by
    obtain ⟨rfl, rfl, hs⟩ := hu _ _ _ _ _ h2 g2
    obtain ⟨c1, c2, c3⟩ := cps_un hP hu h3 g3
    obtain ⟨k1, k2, k3, k4, _⟩ := hP _ _ _ h2
    refine ⟨c1, c2, fun q hq hn => ?_⟩
    by_cases e : q = ah
    · rw [e, h1, g1]
    · by_cases el : q = l
      · exact c3 q (.inl el) hn
      · rcases Nat.lt_or_ge q (base + sz) with hlt | hge
        · exact hs q (by omega) hlt el
        · exact c3 q (.inr ⟨hge, by omega⟩) hn
theorem opts_un {P P' : Nat → Nat → Nat → Prop} {sz : Nat} (hP : inP P sz) (hu : unP S S' P P' sz) : ∀ {m base ah L L'}, opts S P sz m base ah L → opts S' P' sz m base ah L' → L = L' ∧ ∀ q, (q = ah ∨ (base ≤ q ∧ q < L)) → S q = S' q
  | 0, base, ah, L, L', ⟨h1, h2⟩, ⟨g1, g2⟩ => by
    obtain rfl : L = L' := by omega
    refine ⟨rfl, fun q hq => ?_⟩
    obtain rfl : q = ah := by omega
    rw [h2, g2]
  | m + 1, base, ah, L, L', ⟨f, l, h1, h2, h3, h4⟩, ⟨f', l', g1, g2, g3, g4⟩ => by
    obtain ⟨rfl, rfl, hs⟩ := hu _ _ _ _ _ h1 g1
    obtain ⟨rfl, c3⟩ := opts_un hP hu h4 g4
    obtain ⟨k1, k2, k3, k4, _⟩ := hP _ _ _ h1
    refine ⟨rfl, fun q hq => ?_⟩
    by_cases e : q = ah
    · rw [e, h3, g3]
    · by_cases el : q = l
      · exact c3 q (.inl el)
      · rcases Nat.lt_or_ge q (base + sz) with hlt | hge
        · exact hs q (by omega) hlt el
        · by_cases es : q = base + sz
          · rw [es, h2, g2]
          · exact c3 q (.inr ⟨by omega, by omega⟩)
theorem again_un {P P' : Nat → Nat → Nat → Prop} {sz base ah L L' : Nat} (hu : unP S S' P P' sz) (h : again9 S P sz base ah L) (g : again9 S' P' sz base ah L') : L = L' ∧ ∀ q, (q = ah ∨ (base ≤ q ∧ q < L)) → S q = S' q := by
  obtain ⟨f, l, h1, h2, h3, h4, h5⟩ := h
  obtain ⟨f', l', g1, g2, g3, g4, g5⟩ := g
  obtain ⟨rfl, rfl, hs⟩ := hu _ _ _ _ _ h1 g1
  obtain rfl : L = L' := by omega
  refine ⟨rfl, fun q hq => ?_⟩
  by_cases e : q = ah
  · rw [e, h3, g3]
  · by_cases el : q = l
    · rw [el, h4, g4]
    · rcases Nat.lt_or_ge q (base + sz) with hlt | hge
      · exact hs q (by omega) hlt el
      · obtain rfl : q = base + sz := by omega
        rw [h2, g2]
theorem fr_un : ∀ t, unP S S' (isFr S t) (isFr S' t) (nst t)
  | .leaf x => by
    rintro b f l f' l' ⟨rfl, rfl, h3⟩ ⟨rfl, rfl, g3⟩
    refine ⟨rfl, rfl, fun q h1 h2 hn => ?_⟩
    have h2 : q < f' + 2 := h2
    obtain rfl : q = f' := by omega
    rw [h3, g3]
  | .cat a b => by
    rintro B f l f' l' ⟨la, fb, h1, h2, h3⟩ ⟨la', fb', g1, g2, g3⟩
    have ba := fr_bd S a _ _ _ h1
    have bb := fr_bd S b _ _ _ h2
    obtain ⟨rfl, rfl, hs⟩ := fr_un a _ _ _ _ _ h1 g1
    obtain ⟨rfl, rfl, ht⟩ := fr_un b _ _ _ _ _ h2 g2
    refine ⟨rfl, rfl, fun q k1 k2 hn => ?_⟩
    have k2 : q < B + (nst a + nst b) := k2
    by_cases e : q = la
    · rw [e, h3, g3]
    · rcases Nat.lt_or_ge q (B + nst a) with hlt | hge
      · exact hs q k1 hlt e
      · exact ht q hge (by omega) hn
  | .or a b => by
    rintro B f l f' l' ⟨fa, la, fb, lb, h1, h2, h3, h4, h5, h6, h7⟩ ⟨fa', la', fb', lb', g1, g2, g3, g4, g5, g6, g7⟩
    have ba := fr_bd S a _ _ _ h1
    have bb := fr_bd S b _ _ _ h2
    obtain ⟨rfl, rfl, hs⟩ := fr_un a _ _ _ _ _ h1 g1
    obtain ⟨rfl, rfl, ht⟩ := fr_un b _ _ _ _ _ h2 g2
    obtain rfl : f = f' := by omega
    obtain rfl : l = l' := by omega
    refine ⟨rfl, rfl, fun q k1 k2 hn => ?_⟩
    have k2 : q < B + (nst a + nst b + 2) := k2
    by_cases e : q = la
    · rw [e, h6, g6]
    · by_cases e' : q = lb
      · rw [e', h7, g7]
      · rcases Nat.lt_or_ge q (B + nst a) with hlt | hge
        · exact hs q k1 hlt e
        · rcases Nat.lt_or_ge q (B + nst a + nst b) with hlt | hge'
          · exact ht q hge hlt e'
          · obtain rfl : q = f := by omega
            rw [h5, g5]
  | .rep a lo hi => by
    rintro B f l f' l' h g
    have hb := fr_bd S _ _ _ _ h
    obtain ⟨rfl, b1, a1, h2, h3⟩ := h
    obtain ⟨rfl, b2, a2, g2, g3⟩ := g
    obtain ⟨rfl, rfl, hs⟩ := cps_un (fr_bd S a) (fr_un a) h2 g2
    have hl : l + 1 = f' + nst (.rep a lo hi) := by
      have c1 := (cps_bd (fr_bd S a) h2).1
      show l + 1 = f' + (2 + lo.toNat * nst a + _)
      by_cases hh : hi = -1
      · rw [if_pos hh] at h3 ⊢
        obtain ⟨_, _, _, _, _, _, h8⟩ := h3
        omega
      · rw [if_neg hh] at h3 ⊢
        have := opts_bd h3
        omega
    have main : l = l' ∧ ∀ q, (q = a1 ∨ (b1 ≤ q ∧ q < l)) → S q = S' q := by
      by_cases hh : hi = -1
      · rw [if_pos hh] at h3 g3
        exact again_un (fr_un a) h3 g3
      · rw [if_neg hh] at h3 g3
        exact opts_un (fr_bd S a) (fr_un a) h3 g3
    obtain ⟨rfl, ht⟩ := main
    refine ⟨rfl, rfl, fun q k1 k2 hn => ?_⟩
    by_cases e : q = a1
    · exact ht q (.inl e)
    · rcases Nat.lt_or_ge q b1 with hlt | hge
      · exact hs q (by omega) e
      · exact ht q (.inr ⟨hge, by omega⟩)
/-- A state that may be, A and B from lo to hi. -/
def okS (lo hi : Nat) (s : Sd) : Prop := 1 ≤ s.k ∧ s.k ≤ 5 ∧ (lo : Int) ≤ s.A ∧ s.A < hi ∧ (s.k = 3 → (lo : Int) ≤ s.B ∧ s.B < hi) ∧ (s.k ≠ 3 → s.B = 0) ∧ (s.k ≠ 1 → s.a = 0 ∧ s.b = 0 ∧ s.c = 0 ∧ s.d = 0)
theorem okS_E {lo hi A : Nat} (h1 : lo ≤ A) (h2 : A < hi) : okS lo hi (sE A) := ⟨by show (1 : Int) ≤ 2; decide, by show (2 : Int) ≤ 5; decide, by show (lo : Int) ≤ A; omega, by show (A : Int) < hi; omega, fun h => by simp [sE] at h, fun _ => rfl, fun _ => ⟨rfl, rfl, rfl, rfl⟩⟩
theorem okS_S {lo hi A B : Nat} (h1 : lo ≤ A) (h2 : A < hi) (h3 : lo ≤ B) (h4 : B < hi) : okS lo hi (sS A B) := ⟨by show (1 : Int) ≤ 3; decide, by show (3 : Int) ≤ 5; decide, by show (lo : Int) ≤ A; omega, by show (A : Int) < hi; omega, fun _ => ⟨by show (lo : Int) ≤ B; omega, by show (B : Int) < hi; omega⟩, fun h => absurd rfl h, fun _ => ⟨rfl, rfl, rfl, rfl⟩⟩
theorem okS.wide {lo hi lo' hi' : Nat} {s : Sd} (h : okS lo hi s) (h1 : lo' ≤ lo) (h2 : hi ≤ hi') : okS lo' hi' s :=
  ⟨h.1, h.2.1, by have := h.2.2.1; omega, by have := h.2.2.2.1; omega, fun e => by have := h.2.2.2.2.1 e; omega, h.2.2.2.2.2.1, h.2.2.2.2.2.2⟩
def okP (S : Nat → Sd) (P : Nat → Nat → Nat → Prop) (sz : Nat) : Prop := ∀ b f l, P b f l → ∀ q, b ≤ q → q < b + sz → q ≠ l → okS b (b + sz) (S q)
theorem cps_ok {P : Nat → Nat → Nat → Prop} {sz : Nat} (hP : inP P sz) (hk : okP S P sz) {lo hi : Nat} : ∀ {m base ah b1 a1}, cps S P sz m base ah b1 a1 → lo ≤ base → b1 ≤ hi → ∀ q, (q = ah ∨ (base ≤ q ∧ q < b1)) → q ≠ a1 → okS lo hi (S q)
  | 0, base, ah, b1, a1, ⟨h1, h2⟩, _, _, q, hq, hn => by omega
  | m + 1, base, ah, b1, a1, ⟨f, l, h1, h2, h3⟩, hlo, hhi, q, hq, hn => by
    obtain ⟨k1, k2, k3, k4, _⟩ := hP _ _ _ h2
    have hb := (cps_bd hP h3).1
    have hle : base + sz ≤ b1 := by rw [hb]; exact Nat.le_add_right _ _
    by_cases e : q = ah
    · rw [e, h1]; exact okS_E (by omega) (by omega)
    · by_cases el : q = l
      · exact cps_ok hP hk h3 (by omega) hhi q (.inl el) hn
      · rcases Nat.lt_or_ge q (base + sz) with hlt | hge
        · exact (hk _ _ _ h2 q (by omega) hlt el).wide hlo (by omega)
        · exact cps_ok hP hk h3 (by omega) hhi q (.inr ⟨hge, by omega⟩) hn
theorem opts_ok {P : Nat → Nat → Nat → Prop} {sz : Nat} (hP : inP P sz) (hk : okP S P sz) {lo hi : Nat} : ∀ {m base ah L}, opts S P sz m base ah L → lo ≤ base → L < hi → ∀ q, (q = ah ∨ (base ≤ q ∧ q < L)) → okS lo hi (S q)
  | 0, base, ah, L, ⟨h1, h2⟩, hlo, hhi, q, hq => by
    obtain rfl : q = ah := by omega
    rw [h2]; exact okS_E (by omega) (by omega)
  | m + 1, base, ah, L, ⟨f, l, h1, h2, h3, h4⟩, hlo, hhi, q, hq => by
    obtain ⟨k1, k2, k3, k4, _⟩ := hP _ _ _ h1
    have hb := opts_bd h4
    have hle : base + sz + 1 ≤ L := by rw [hb]; exact Nat.le_add_right _ _
    by_cases e : q = ah
    · rw [e, h3]; exact okS_E (by omega) (by omega)
    · by_cases el : q = l
      · exact opts_ok hP hk h4 (by omega) hhi q (.inl el)
      · rcases Nat.lt_or_ge q (base + sz) with hlt | hge
        · exact (hk _ _ _ h1 q (by omega) hlt el).wide hlo (by omega)
        · by_cases es : q = base + sz
          · rw [es, h2]; exact okS_S (by omega) (by omega) (by omega) (by omega)
          · exact opts_ok hP hk h4 (by omega) hhi q (.inr ⟨by omega, by omega⟩)
theorem again_ok {P : Nat → Nat → Nat → Prop} {sz base ah L lo hi : Nat} (hP : inP P sz) (hk : okP S P sz) (h : again9 S P sz base ah L) (hlo : lo ≤ base) (hhi : L < hi) (q : Nat) (hq : q = ah ∨ (base ≤ q ∧ q < L)) : okS lo hi (S q) := by
  obtain ⟨f, l, h1, h2, h3, h4, h5⟩ := h
  obtain ⟨k1, k2, k3, k4, _⟩ := hP _ _ _ h1
  by_cases e : q = ah
  · rw [e, h3]; exact okS_E (by omega) (by omega)
  · by_cases el : q = l
    · rw [el, h4]; exact okS_E (by omega) (by omega)
    · rcases Nat.lt_or_ge q (base + sz) with hlt | hge
      · exact (hk _ _ _ h1 q (by omega) hlt el).wide hlo (by omega)
      · obtain rfl : q = base + sz := by omega
        rw [h2]; exact okS_S (by omega) (by omega) (by omega) (by omega)
theorem fr_ok : ∀ t, okT t → okP S (isFr S t) (nst t)
  | .leaf x, h => by
    rintro b f l ⟨rfl, rfl, h3⟩ q k1 k2 hn
    have k2 : q < f + 2 := k2
    obtain rfl : q = f := by omega
    rw [h3]
    have hA : ((q : Nat) : Int) ≤ ((q + 1 : Nat) : Int) ∧ ((q + 1 : Nat) : Int) < ((q + nst (.leaf x) : Nat) : Int) := ⟨by omega, by show ((q + 1 : Nat) : Int) < ((q + 2 : Nat) : Int); omega⟩
    rcases h with ⟨h1, -⟩ | rfl | rfl | rfl
    · have e : skd x.k = 1 := by unfold skd; rw [if_pos h1]
      refine ⟨?_, ?_, hA.1, hA.2, fun g => ?_, fun _ => rfl, fun g => absurd e g⟩
      · show (1 : Int) ≤ skd x.k; rw [e]; decide
      · show skd x.k ≤ (5 : Int); rw [e]; decide
      · have : skd x.k = 3 := g
        rw [e] at this; exact absurd this (by decide)
    · exact ⟨by show (1 : Int) ≤ 2; decide, by show (2 : Int) ≤ 5; decide, hA.1, hA.2, fun g => absurd (show (2 : Int) = 3 from g) (by decide), fun _ => rfl, fun _ => ⟨rfl, rfl, rfl, rfl⟩⟩
    · exact ⟨by show (1 : Int) ≤ 4; decide, by show (4 : Int) ≤ 5; decide, hA.1, hA.2, fun g => absurd (show (4 : Int) = 3 from g) (by decide), fun _ => rfl, fun _ => ⟨rfl, rfl, rfl, rfl⟩⟩
    · exact ⟨by show (1 : Int) ≤ 5; decide, by show (5 : Int) ≤ 5; decide, hA.1, hA.2, fun g => absurd (show (5 : Int) = 3 from g) (by decide), fun _ => rfl, fun _ => ⟨rfl, rfl, rfl, rfl⟩⟩
  | .cat a b, h => by
    rintro B f l ⟨la, fb, h1, h2, h3⟩ q k1 k2 hn
    have ba := fr_bd S a _ _ _ h1
    have bb := fr_bd S b _ _ _ h2
    have k2 : q < B + (nst a + nst b) := k2
    show okS B (B + (nst a + nst b)) (S q)
    by_cases e : q = la
    · rw [e, h3]; exact okS_E (by omega) (by omega)
    · rcases Nat.lt_or_ge q (B + nst a) with hlt | hge
      · exact (fr_ok a h.1 _ _ _ h1 q k1 hlt e).wide (by omega) (by omega)
      · exact (fr_ok b h.2 _ _ _ h2 q hge (by omega) hn).wide (by omega) (by omega)
  | .or a b, h => by
    rintro B f l ⟨fa, la, fb, lb, h1, h2, h3, h4, h5, h6, h7⟩ q k1 k2 hn
    have ba := fr_bd S a _ _ _ h1
    have bb := fr_bd S b _ _ _ h2
    have k2 : q < B + (nst a + nst b + 2) := k2
    show okS B (B + (nst a + nst b + 2)) (S q)
    by_cases e : q = la
    · rw [e, h6]; exact okS_E (by omega) (by omega)
    · by_cases e' : q = lb
      · rw [e', h7]; exact okS_E (by omega) (by omega)
      · rcases Nat.lt_or_ge q (B + nst a) with hlt | hge
        · exact (fr_ok a h.1 _ _ _ h1 q k1 hlt e).wide (by omega) (by omega)
        · rcases Nat.lt_or_ge q (B + nst a + nst b) with hlt | hge'
          · exact (fr_ok b h.2 _ _ _ h2 q hge hlt e').wide (by omega) (by omega)
          · obtain rfl : q = f := by omega
            rw [h5]; exact okS_S (by omega) (by omega) (by omega) (by omega)
  | .rep a lo hi, h => by
    rintro B f l hfr q k1 k2 hn
    have hb := fr_bd S _ _ _ _ hfr
    obtain ⟨rfl, b1, a1, h2, h3⟩ := hfr
    obtain ⟨c1, c2⟩ := cps_bd (fr_bd S a) h2
    have hl : b1 ≤ l ∧ l + 1 = f + nst (.rep a lo hi) := by
      show b1 ≤ l ∧ l + 1 = f + (2 + lo.toNat * nst a + _)
      by_cases hh : hi = -1
      · rw [if_pos hh] at h3 ⊢
        obtain ⟨_, _, _, _, _, _, h8⟩ := h3
        omega
      · rw [if_neg hh] at h3 ⊢
        have := opts_bd h3
        have e := Nat.zero_le ((hi - lo).toNat * (nst a + 1))
        omega
    have main : ∀ q, (q = a1 ∨ (b1 ≤ q ∧ q < l)) → okS f (f + nst (.rep a lo hi)) (S q) := by
      intro q hq
      by_cases hh : hi = -1
      · rw [if_pos hh] at h3
        exact again_ok (fr_bd S a) (fr_ok a h.1) h3 (by omega) (by omega) q hq
      · rw [if_neg hh] at h3
        exact opts_ok (fr_bd S a) (fr_ok a h.1) h3 (by omega) (by omega) q hq
    by_cases e : q = a1
    · exact main q (.inl e)
    · rcases Nat.lt_or_ge q b1 with hlt | hge
      · exact cps_ok (fr_bd S a) (fr_ok a h.1) h2 (by omega) (by omega) q (by omega) e
      · exact main q (.inr ⟨hge, by omega⟩)
end
end Go.Proofs.Ythmkjdpmpcjinaa

namespace Go.Proofs.Ythmkjdpmpcjinaa

/-- As many states are told as there are, at most 2^20. -/
theorem sz_nst : ∀ t, okT t → szF t = cap20 (nst t : Nat)
  | .leaf _, _ => rfl
  | .cat a b, h => by
    have h1 := sz_nst a h.1; have h2 := sz_nst b h.2
    show cap20 (szF a + szF b) = cap20 ((nst a + nst b : Nat) : Int)
    rw [h1, h2]; unfold cap20; omega
  | .or a b, h => by
    have h1 := sz_nst a h.1; have h2 := sz_nst b h.2
    show cap20 (szF a + szF b + 2) = cap20 ((nst a + nst b + 2 : Nat) : Int)
    rw [h1, h2]; unfold cap20; omega
  | .rep a lo hi, h => by
    have h1 := sz_nst a h.1
    obtain ⟨-, g1, g2, g3⟩ := h
    obtain ⟨L, rfl⟩ : ∃ L : Nat, lo = L := ⟨lo.toNat, by omega⟩
    show cap20 (2 + (L : Int) * szF a + (if hi = -1 then szF a + 1 else (hi - L) * (szF a + 1))) = cap20 ((2 + (L : Int).toNat * nst a + (if hi = -1 then nst a + 1 else (hi - L).toNat * (nst a + 1)) : Nat) : Int)
    have h2 := nst_two a
    obtain ⟨s, hs⟩ : ∃ s : Nat, szF a = s := ⟨(szF a).toNat, by have := cap_two (n := (nst a : Int)) (by omega); rw [← h1] at this; omega⟩
    have hs' : (s : Int) = cap20 (nst a : Nat) := by rw [← hs, h1]
    rw [hs, Int.toNat_natCast]
    have m1 : L = 0 ∨ (s ≤ L * s ∧ nst a ≤ L * nst a) := by
      rcases Nat.eq_zero_or_pos L with h | h
      · exact .inl h
      · exact .inr ⟨Nat.le_mul_of_pos_left _ h, Nat.le_mul_of_pos_left _ h⟩
    have e1 : (L : Int) * (s : Int) = ((L * s : Nat) : Int) := by rw [Int.natCast_mul]
    rw [e1]
    by_cases hh : hi = -1
    · rw [if_pos hh, if_pos hh]
      by_cases hc : nst a ≤ 1048576
      · have : s = nst a := by unfold cap20 at hs'; omega
        rw [this]; congr 1
      · have : s = 1048576 := by unfold cap20 at hs'; omega
        unfold cap20
        omega
    · rw [if_neg hh, if_neg hh]
      obtain ⟨H, hH⟩ : ∃ H : Nat, hi - L = H := ⟨(hi - L).toNat, by omega⟩
      rw [hH, Int.toNat_natCast]
      have e2 : (H : Int) * ((s : Int) + 1) = ((H * (s + 1) : Nat) : Int) := by rw [Int.natCast_mul]; rfl
      rw [e2]
      have m2 : H = 0 ∨ (s + 1 ≤ H * (s + 1) ∧ nst a + 1 ≤ H * (nst a + 1)) := by
        rcases Nat.eq_zero_or_pos H with h | h
        · exact .inl h
        · exact .inr ⟨Nat.le_mul_of_pos_left _ h, Nat.le_mul_of_pos_left _ h⟩
      by_cases hc : nst a ≤ 1048576
      · have : s = nst a := by unfold cap20 at hs'; omega
        rw [this]; congr 1
      · have : s = 1048576 := by unfold cap20 at hs'; omega
        rcases m1 with rfl | m1
        · rcases m2 with rfl | m2
          · simp
          · unfold cap20; omega
        · unfold cap20; omega

section
variable {S : Nat → Sd}
/-- At once from a state to another one. -/
def ep (S : Nat → Sd) (sym : Int) (q q' : Nat) : Prop :=
  ((S q).k = 2 ∨ (S q).k = 3 ∨ ((S q).k = 4 ∧ (sym = 256 ∨ sym = 258)) ∨ ((S q).k = 5 ∧ (sym = 257 ∨ sym = 258))) ∧ (q' : Int) = (S q).A ∨ (S q).k = 3 ∧ (q' : Int) = (S q).B
inductive rt (S : Nat → Sd) (sym : Int) : Nat → Nat → Prop where
  | refl (q : Nat) : rt S sym q q
  | tail {q q' q'' : Nat} : rt S sym q q' → ep S sym q' q'' → rt S sym q q''
theorem rt.trans {sym : Int} {a b c : Nat} (h : rt S sym a b) (g : rt S sym b c) : rt S sym a c := by
  induction g with
  | refl => exact h
  | tail _ h2 ih => exact .tail ih h2
theorem ep.any {sym : Int} {q q' : Nat} (h : ep S 0 q q') : ep S sym q q' := by
  unfold ep at h ⊢
  rcases h with ⟨h | h | ⟨h, h'⟩ | ⟨h, h'⟩, g⟩ | h
  · exact .inl ⟨.inl h, g⟩
  · exact .inl ⟨.inr (.inl h), g⟩
  · omega
  · omega
  · exact .inr h
theorem rt.any {sym : Int} {q q' : Nat} (h : rt S 0 q q') : rt S sym q q' := by
  induction h with
  | refl => exact .refl _
  | tail _ h2 ih => exact .tail ih h2.any
/-- Where one comes at once from some states; by a byte. -/
def Cl (S : Nat → Sd) (sym : Int) (P : Nat → Prop) (q : Nat) : Prop := ∃ q0, P q0 ∧ rt S sym q0 q
def By (S : Nat → Sd) (b : Nat) (P : Nat → Prop) (q : Nat) : Prop := ∃ q0, P q0 ∧ (S q0).k = 1 ∧ sOf (S q0) b = true ∧ (q : Int) = (S q0).A
theorem Cl_Cl {sym : Int} {P : Nat → Prop} : Cl S sym (Cl S 0 P) = Cl S sym P := by
  funext q
  apply propext
  constructor
  · rintro ⟨q1, ⟨q0, h0, h1⟩, h2⟩
    exact ⟨q0, h0, h1.any.trans h2⟩
  · rintro ⟨q0, h0, h1⟩
    exact ⟨q0, ⟨q0, h0, .refl _⟩, h1⟩
theorem Cl_zero {P : Nat → Prop} : Cl S 0 (Cl S 0 P) = Cl S 0 P := Cl_Cl
def runF (S : Nat → Sd) (tx : Nat → Nat) : Nat → Nat → (Nat → Prop) → Nat → Prop
  | _, 0, P => P
  | i, k + 1, P => runF S tx (i + 1) k (Cl S 0 (By S (tx i) P))
/-- What leads to the end, as the page has it. -/
def fitsP (S : Nat → Sd) (n : Nat) (tx : Nat → Nat) (st fin i j : Nat) : Prop :=
  if n = 0 then Cl S 258 (Cl S 0 fun q => q = st) fin
  else if j = n then Cl S 257 (runF S tx i (j - i) (if i = 0 then Cl S 256 (Cl S 0 fun q => q = st) else Cl S 0 fun q => q = st)) fin
  else runF S tx i (j - i) (if i = 0 then Cl S 256 (Cl S 0 fun q => q = st) else Cl S 0 fun q => q = st) fin

/-- The symbol of a place of a text. -/
def syA (n i : Nat) : Int := if n = 0 then 258 else if i = 0 then 256 else if i = n then 257 else 0
theorem stp_iff {n : Nat} {tx : Nat → Nat} {q i q' i' : Nat} (hi : i ≤ n) : stp S n tx q i q' i' ↔ ((S q).k = 1 ∧ i < n ∧ sOf (S q) (tx i) = true ∧ (q' : Int) = (S q).A ∧ i' = i + 1) ∨ (i' = i ∧ ep S (syA n i) q q') := by
  have h1 : i = 0 ↔ (syA n i = 256 ∨ syA n i = 258) := by
    unfold syA
    split
    · omega
    · split
      · omega
      · split <;> omega
  have h2 : i = n ↔ (syA n i = 257 ∨ syA n i = 258) := by
    unfold syA
    split
    · omega
    · split
      · omega
      · split <;> omega
  unfold stp ep
  rw [h1, h2]
/-- From some states at a place, by so many bytes, each place's own symbol counting. -/
def runA (S : Nat → Sd) (n : Nat) (tx : Nat → Nat) : Nat → Nat → (Nat → Prop) → Nat → Prop
  | _, 0, P => P
  | i, k + 1, P => runA S n tx (i + 1) k (Cl S (syA n (i + 1)) (By S (tx i) P))
theorem runA_of {n : Nat} {tx : Nat → Nat} {fin j : Nat} : ∀ {r q i}, i ≤ j → j ≤ n → wk S n tx fin j r q i → ∀ P : Nat → Prop, P q → (∀ a b, P a → ep S (syA n i) a b → P b) → runA S n tx i (j - i) P fin
  | 0, q, i, h1, h2, ⟨e1, e2⟩, P, hP, _ => by
    subst e1 e2
    rw [Nat.sub_self]; exact hP
  | r + 1, q, i, h1, h2, ⟨q', i', hs, hw⟩, P, hP, hc => by
    rcases (stp_iff (by omega)).1 hs with ⟨g1, g2, g3, g4, rfl⟩ | ⟨rfl, g⟩
    · have hle : ∀ {r q i}, wk S n tx fin j r q i → i ≤ j := by
        intro r
        induction r with
        | zero => rintro q i ⟨_, rfl⟩; omega
        | succ r ih =>
          rintro q i ⟨q', i', hs, hw⟩
          have := ih hw
          unfold stp at hs
          omega
      have hj := hle hw
      rw [show j - i = (j - (i + 1)) + 1 by omega]
      exact runA_of hj h2 hw _ ⟨q', ⟨q, hP, g1, g3, g4⟩, .refl _⟩ (fun a b ⟨q0, k1, k2⟩ k3 => ⟨q0, k1, .tail k2 k3⟩)
    · exact runA_of h1 h2 hw P (hc q q' hP g) hc
theorem wk_add {n : Nat} {tx : Nat → Nat} {a i b j c l : Nat} : ∀ {r r'}, wk S n tx b j r a i → wk S n tx c l r' b j → ∃ r'', wk S n tx c l r'' a i
  | 0, r', ⟨h1, h2⟩, g => by subst h1 h2; exact ⟨r', g⟩
  | r + 1, r', ⟨q', i', hs, hw⟩, g => by
    obtain ⟨r'', h⟩ := wk_add hw g
    exact ⟨r'' + 1, q', i', hs, h⟩
theorem wk_rt {n : Nat} {tx : Nat → Nat} {a b i : Nat} (hi : i ≤ n) (h : rt S (syA n i) a b) : ∃ r, wk S n tx b i r a i := by
  induction h with
  | refl => exact ⟨0, rfl, rfl⟩
  | @tail q' q'' _ h2 ih =>
    obtain ⟨r, h⟩ := ih
    exact wk_add (r' := 1) h ⟨q'', i, (stp_iff hi).2 (.inr ⟨rfl, h2⟩), rfl, rfl⟩
theorem of_runA {n : Nat} {tx : Nat → Nat} {fin : Nat} : ∀ {k i} {P : Nat → Prop}, i + k ≤ n → runA S n tx i k P fin → ∃ q, P q ∧ ∃ r, wk S n tx fin (i + k) r q i
  | 0, i, P, _, h => ⟨fin, h, 0, rfl, rfl⟩
  | k + 1, i, P, hk, h => by
    obtain ⟨q, ⟨q1, ⟨q0, g1, g2, g3, g4⟩, g5⟩, r, hw⟩ := of_runA (i := i + 1) (k := k) (by omega) h
    obtain ⟨r1, w1⟩ := wk_rt (tx := tx) (by omega) g5
    obtain ⟨r2, w2⟩ := wk_add w1 hw
    refine ⟨q0, g1, r2 + 1, q1, i + 1, .inl ⟨g2, by omega, g3, g4, rfl⟩, ?_⟩
    rw [show i + (k + 1) = i + 1 + k by omega]; exact w2
theorem wk_iff {n : Nat} {tx : Nat → Nat} {st fin i j : Nat} (h1 : i ≤ j) (h2 : j ≤ n) : (∃ r, wk S n tx fin j r st i) ↔ runA S n tx i (j - i) (Cl S (syA n i) fun q => q = st) fin := by
  constructor
  · rintro ⟨r, hw⟩
    exact runA_of h1 h2 hw _ ⟨st, rfl, .refl _⟩ (fun a b ⟨q0, k1, k2⟩ k3 => ⟨q0, k1, .tail k2 k3⟩)
  · intro h
    obtain ⟨q, ⟨q0, rfl, g⟩, r, hw⟩ := of_runA (by omega) h
    rw [show i + (j - i) = j by omega] at hw
    obtain ⟨r1, w1⟩ := wk_rt (tx := tx) (by omega) g
    exact wk_add w1 hw
/-- Ahead of the text's end each place's own symbol is none; at it, the end's counts behind. -/
theorem runA_F {n : Nat} {tx : Nat → Nat} : ∀ {k i} {P : Nat → Prop}, i + k < n → runA S n tx i k P = runF S tx i k P
  | 0, _, _, _ => rfl
  | k + 1, i, P, h => by
    show runA S n tx (i + 1) k (Cl S (syA n (i + 1)) (By S (tx i) P)) = runF S tx (i + 1) k (Cl S 0 (By S (tx i) P))
    rw [show syA n (i + 1) = 0 by unfold syA; rw [if_neg (by omega), if_neg (by omega), if_neg (by omega)]]
    exact runA_F (by omega)
theorem runA_E {n : Nat} {tx : Nat → Nat} : ∀ {k i} {P : Nat → Prop}, i + (k + 1) = n → runA S n tx i (k + 1) P = Cl S 257 (runF S tx i (k + 1) P)
  | 0, i, P, h => by
    show Cl S (syA n (i + 1)) (By S (tx i) P) = Cl S 257 (Cl S 0 (By S (tx i) P))
    rw [show syA n (i + 1) = 257 by unfold syA; rw [if_neg (by omega), if_neg (by omega), if_pos (by omega)], Cl_Cl]
  | k + 1, i, P, h => by
    show runA S n tx (i + 1) (k + 1) (Cl S (syA n (i + 1)) (By S (tx i) P)) = Cl S 257 (runF S tx (i + 1) (k + 1) (Cl S 0 (By S (tx i) P)))
    rw [show syA n (i + 1) = 0 by unfold syA; rw [if_neg (by omega), if_neg (by omega), if_neg (by omega)]]
    exact runA_E (by omega)
/-- What leads to the end, as the page has it, is what there are steps for. -/
theorem fits_iff {n : Nat} {tx : Nat → Nat} {st fin i j : Nat} (h1 : i ≤ j) (h2 : j ≤ n) : fitsP S n tx st fin i j ↔ ∃ r, wk S n tx fin j r st i := by
  rw [wk_iff h1 h2]
  unfold fitsP
  by_cases h0 : n = 0
  · rw [if_pos h0, Cl_Cl, show j - i = 0 by omega, show syA n i = 258 by unfold syA; rw [if_pos h0]]; exact Iff.rfl
  · rw [if_neg h0]
    have e : (if i = 0 then Cl S 256 (Cl S 0 fun q => q = st) else Cl S 0 fun q => q = st) = if i = n then Cl S 0 fun q => q = st else Cl S (syA n i) fun q => q = st := by
      by_cases hi : i = 0
      · rw [if_pos hi, if_neg (by omega), Cl_Cl, show syA n i = 256 by unfold syA; rw [if_neg h0, if_pos hi]]
      · rw [if_neg hi]
        by_cases hn : i = n
        · rw [if_pos hn]
        · rw [if_neg hn, show syA n i = 0 by unfold syA; rw [if_neg h0, if_neg hi, if_neg hn]]
    rw [e]
    by_cases hj : j = n
    · rw [if_pos hj]
      by_cases hi : i = n
      · rw [if_pos hi, show j - i = 0 by omega, show syA n i = 257 by unfold syA; rw [if_neg h0, if_neg (by omega), if_pos hi]]
        show Cl S 257 (Cl S 0 fun q => q = st) fin ↔ Cl S 257 (fun q => q = st) fin
        rw [Cl_Cl]
      · rw [if_neg hi]
        obtain ⟨k, hk⟩ : ∃ k, j - i = k + 1 := ⟨j - i - 1, by omega⟩
        rw [hk, runA_E (by omega)]
    · rw [if_neg hj, if_neg (by omega), runA_F (by omega)]
end
end Go.Proofs.Ythmkjdpmpcjinaa

namespace Go.Proofs.Ythmkjdpmpcjinaa
open Go.RowKit

/-- A node's cells at a place. -/
def ndAt (w : World) (b o : Nat) (x : Nd) : Prop := w.cell? ⟨b, o, none⟩ = some (.int .i64 x.k) ∧ w.cell? ⟨b, o + 1, none⟩ = some (.int .u64 x.a) ∧ w.cell? ⟨b, o + 2, none⟩ = some (.int .u64 x.b) ∧ w.cell? ⟨b, o + 3, none⟩ = some (.int .u64 x.c) ∧ w.cell? ⟨b, o + 4, none⟩ = some (.int .u64 x.d) ∧ w.cell? ⟨b, o + 5, none⟩ = some (.int .i64 x.lo) ∧ w.cell? ⟨b, o + 6, none⟩ = some (.int .i64 x.hi)
theorem ndAt.below {w w' : World} {b o B : Nat} {x : Nd} (h : ndAt w b o x) (hb : Below B w w') (hB : b < B) : ndAt w' b o x := by
  have c : ∀ x, w'.cell? ⟨b, x, none⟩ = w.cell? ⟨b, x, none⟩ := fun x => hb.cell (p := ⟨b, x, none⟩) hB
  unfold ndAt at h ⊢
  simp only [c]
  exact h
/-- The nodes that lie in a block from a place on. -/
def rdN (w : World) (b off n : Nat) (N : Nat → Nd) : Prop := ∀ j, j < n → b < w.heap.size ∧ ndAt w b (off + j * 7) (N j)
theorem rdN.below {w w' : World} {b off n : Nat} {N : Nat → Nd} (h : rdN w b off n N) (hb : Below w.heap.size w w') : rdN w' b off n N := fun j hj =>
  ⟨Nat.lt_of_lt_of_le (h j hj).1 hb.size, (h j hj).2.below hb (h j hj).1⟩
theorem rdN.belowB {w w' : World} {b off n : Nat} {N : Nat → Nd} {B : Nat} (h : rdN w b off n N) (hb : Below B w w') (hB : b < B) : rdN w' b off n N := fun j hj =>
  ⟨Nat.lt_of_lt_of_le (h j hj).1 hb.size, (h j hj).2.below hb hB⟩
theorem rdN.drewN {w : World} {b off n : Nat} {N : Nat → Nd} (h : rdN w b off n N) (k : Nat) : rdN (w.drewN k) b off n N := h
theorem rdN.sub {w : World} {b off n : Nat} {N : Nat → Nd} (h : rdN w b off n N) (f m : Nat) (hm : f + m ≤ n) : rdN w b (off + f * 7) m (fun j => N (f + j)) := fun j hj => by
  have := h (f + j) (by omega)
  rwa [show off + (f + j) * 7 = off + f * 7 + j * 7 by omega] at this
theorem rdN.take {w : World} {b off n : Nat} {N : Nat → Nd} (h : rdN w b off n N) (m : Nat) (hm : m ≤ n) : rdN w b off m N := fun j hj => h j (by omega)

/-- A slice that reads as a list of numbers. -/
def rdI (w : World) (v : Value) (l : List Int) : Prop :=
  (∃ p cap, v = .slice p 0 cap ∧ l = []) ∨ ∃ b cap, v = .slice (some ⟨b, 0, none⟩) l.length cap ∧ b < w.heap.size ∧ ∀ j (h : j < l.length), w.cell? ⟨b, j, none⟩ = some (.int .i64 l[j])
theorem rdI.below {w w' : World} {v : Value} {l : List Int} (h : rdI w v l) (hb : Below w.heap.size w w') : rdI w' v l := by
  rcases h with h | ⟨b, cap, rfl, hl, hc⟩
  · exact .inl h
  · exact .inr ⟨b, cap, rfl, Nat.lt_of_lt_of_le hl hb.size, fun j hj => by rw [hb.cell (p := ⟨b, j, none⟩) hl]; exact hc j hj⟩
theorem rdI.belowB {w w' : World} {v : Value} {l : List Int} {B : Nat} (h : rdI w v l) (hb : Below B w w') (hB : w.heap.size ≤ B) : rdI w' v l := by
  rcases h with h | ⟨b, cap, rfl, hl, hc⟩
  · exact .inl h
  · exact .inr ⟨b, cap, rfl, Nat.lt_of_lt_of_le hl hb.size, fun j hj => by rw [hb.cell (p := ⟨b, j, none⟩) (show b < B by omega)]; exact hc j hj⟩
def ivs (l : List Int) : List Value := l.map (Value.int .i64)
theorem rdI_of_owns {w : World} {base : Nat} {e : TypeId} {v : Value} {l : List Int} (h : w.ownsRow base e 1 v l.length (ivs l)) : rdI w v l := by
  have hlt := h.lt
  rcases h.2 with ⟨rfl, h0⟩ | ⟨g, cap, cur, rfl, _, _, _, _, _, _⟩
  · exact .inl ⟨none, 0, rfl, List.length_eq_zero_iff.1 h0⟩
  · refine .inr ⟨g, cap, rfl, (hlt g rfl).2, fun j hj => ?_⟩
    rw [h.cellAt j (by omega)]
    simp [ivs, hj]
end Go.Proofs.Ythmkjdpmpcjinaa
