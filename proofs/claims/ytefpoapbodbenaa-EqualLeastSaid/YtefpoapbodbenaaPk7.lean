/-
  What is made of a tree's part is that part's states, as the page has them. Plain facts.
  The states of repeated parts, a round at a time. Plain facts.
  The walks of Args, the code's and the reference's.
  The walk of First: where a part begins.
  The walk of Kids: the last nodes of a node's arguments.
  The walks of Clone and Part: the nodes of a part.
  The walk of the reference's Firsts: where each node's part begins.
  A part in memory: its states, its first and its last one; what Make is asked.
  The walk of the ninth reference's repeat.
  What is met, and the list of it, in memory; the walk of the closure that puts.
-/
import Derived.Test.YtefpoapbodbenaaPk6
import Derived.Test.YtefpoapbodbenaaPk4
import Derived.OwnWalk
import Derived.Laws.AppendOwnNone
import Derived.Deep.Cut
import Derived.OneCell
namespace Go.Proofs.Ytefpoapbodbenaa

def mkOK (P : (Nat → Sd) → Nat → Nat → Nat → Prop) (sz : Nat) (mk : List Sd → List Sd × Nat × Nat) : Prop := ∀ L, (mk L).1.length = L.length + sz ∧ (∀ q, q < L.length → sfn (mk L).1 q = sfn L q) ∧
  P (sfn (mk L).1) L.length (mk L).2.1 (mk L).2.2 ∧ sfn (mk L).1 (mk L).2.2 = sE 0
section
variable {P : (Nat → Sd) → Nat → Nat → Nat → Prop} {sz : Nat} {mk : List Sd → List Sd × Nat × Nat}
theorem cp_ok (hP : ∀ S, inP (P S) sz) (hs : ∀ S S', samP S S' (P S) (P S') sz) (hm : mkOK P sz mk) : ∀ m L ah, ah < L.length → sfn L ah = sE 0 →
    (cpL mk m L ah).1.length = L.length + m * sz ∧ (∀ q, q < L.length → q ≠ ah → sfn (cpL mk m L ah).1 q = sfn L q) ∧ sfn (cpL mk m L ah).1 (cpL mk m L ah).2 = sE 0 ∧ (cpL mk m L ah).2 < (cpL mk m L ah).1.length ∧
      ((m = 0 ∧ (cpL mk m L ah).2 = ah) ∨ L.length ≤ (cpL mk m L ah).2) ∧ cps (sfn (cpL mk m L ah).1) (P (sfn (cpL mk m L ah).1)) sz m L.length ah (cpL mk m L ah).1.length (cpL mk m L ah).2
  | 0, L, ah, h1, h2 => ⟨by rw [Nat.zero_mul]; rfl, fun _ _ _ => rfl, h2, h1, .inl ⟨rfl, rfl⟩, rfl, rfl⟩
  | m + 1, L, ah, h1, h2 => by
    obtain ⟨e1, e2, e3, e4⟩ := hm L
    obtain ⟨k1, k2, k3, k4, k5⟩ := hP _ _ _ _ e3
    show _ ∧ _
    have eL : cpL mk (m + 1) L ah = cpL mk m (setA (mk L).1 ah (mk L).2.1) (mk L).2.2 := rfl
    rw [eL]
    have hl : (setA (mk L).1 ah (mk L).2.1).length = L.length + sz := by rw [setA_len, e1]
    obtain ⟨i1, i2, i3, i4, i5, i6⟩ := cp_ok hP hs hm m (setA (mk L).1 ah (mk L).2.1) (mk L).2.2 (by omega) (by rw [setA_ne (by omega)]; exact e4)
    generalize cpL mk m (setA (mk L).1 ah (mk L).2.1) (mk L).2.2 = R at *
    rw [hl] at i1 i2 i5 i6
    have em : (m + 1) * sz = m * sz + sz := Nat.succ_mul m sz
    have hold : ∀ q, q < L.length + sz → q ≠ (mk L).2.2 → q ≠ ah → sfn R.1 q = sfn (mk L).1 q := fun q q1 q2 q3 => by rw [i2 q q1 q2, setA_ne q3]
    refine ⟨by omega, fun q q1 q2 => by rw [hold q (by omega) (by omega) q2]; exact e2 q q1, i3, i4, .inr (by omega), (mk L).2.1, (mk L).2.2, ?_, ?_, i6⟩
    · rw [i2 ah (by omega) (by omega)]
      exact setA_E (by omega) (by rw [e2 ah h1]; exact h2)
    · exact hs _ _ _ _ _ (fun q q1 q2 q3 => (hold q q2 q3 (by omega)).symm) e3

/-- Copies that may be left out, whose splits don't yet go on. -/
def optO (S : Nat → Sd) (P : Nat → Nat → Nat → Prop) (sz : Nat) : Nat → Nat → Nat → Nat → Nat → List Nat → Prop
  | 0, base, ah, L', ah', sp => L' = base ∧ ah' = ah ∧ sp = []
  | m + 1, base, ah, L', ah', sp => ∃ f l sp', P base f l ∧ S (base + sz) = sS f 0 ∧ S ah = sE (base + sz : Nat) ∧ sp = (base + sz) :: sp' ∧ optO S P sz m (base + sz + 1) l L' ah' sp'
theorem op_ok (hP : ∀ S, inP (P S) sz) (hs : ∀ S S', samP S S' (P S) (P S') sz) (hm : mkOK P sz mk) : ∀ m L ah, ah < L.length → sfn L ah = sE 0 →
    (opL mk m L ah).1.length = L.length + m * (sz + 1) ∧ (∀ q, q < L.length → q ≠ ah → sfn (opL mk m L ah).1 q = sfn L q) ∧ sfn (opL mk m L ah).1 (opL mk m L ah).2.1 = sE 0 ∧ (opL mk m L ah).2.1 < (opL mk m L ah).1.length ∧
      ((m = 0 ∧ (opL mk m L ah).2.1 = ah) ∨ L.length ≤ (opL mk m L ah).2.1) ∧ (∀ s, s ∈ (opL mk m L ah).2.2 → L.length ≤ s ∧ s < (opL mk m L ah).1.length ∧ s ≠ (opL mk m L ah).2.1) ∧
      optO (sfn (opL mk m L ah).1) (P (sfn (opL mk m L ah).1)) sz m L.length ah (opL mk m L ah).1.length (opL mk m L ah).2.1 (opL mk m L ah).2.2
  | 0, L, ah, h1, h2 => ⟨by rw [Nat.zero_mul]; rfl, fun _ _ _ => rfl, h2, h1, .inl ⟨rfl, rfl⟩, fun s h => by simp [opL] at h, rfl, rfl, rfl⟩
  | m + 1, L, ah, h1, h2 => by
    obtain ⟨e1, e2, e3, e4⟩ := hm L
    obtain ⟨k1, k2, k3, k4, k5⟩ := hP _ _ _ _ e3
    have eL : opL mk (m + 1) L ah = ((opL mk m (setA ((mk L).1 ++ [sS (mk L).2.1 0]) ah (mk L).1.length) (mk L).2.2).1, (opL mk m (setA ((mk L).1 ++ [sS (mk L).2.1 0]) ah (mk L).1.length) (mk L).2.2).2.1, (mk L).1.length :: (opL mk m (setA ((mk L).1 ++ [sS (mk L).2.1 0]) ah (mk L).1.length) (mk L).2.2).2.2) := rfl
    rw [eL]
    have hl : (setA ((mk L).1 ++ [sS (mk L).2.1 0]) ah (mk L).1.length).length = L.length + sz + 1 := by rw [setA_len, List.length_append, e1]; rfl
    obtain ⟨i1, i2, i3, i4, i5, i6, i7⟩ := op_ok hP hs hm m (setA ((mk L).1 ++ [sS (mk L).2.1 0]) ah (mk L).1.length) (mk L).2.2 (by omega) (by rw [setA_ne (by omega), sfn_old (by omega)]; exact e4)
    have hA : ∀ q, q < L.length + sz → q ≠ ah → sfn (setA ((mk L).1 ++ [sS (mk L).2.1 0]) ah (mk L).1.length) q = sfn (mk L).1 q := fun q q1 q2 => by rw [setA_ne q2, sfn_old (by omega)]
    have hN : sfn (setA ((mk L).1 ++ [sS (mk L).2.1 0]) ah (mk L).1.length) (L.length + sz) = sS (mk L).2.1 0 := by rw [setA_ne (by omega), sfn_new e1.symm]
    have hH : sfn (setA ((mk L).1 ++ [sS (mk L).2.1 0]) ah (mk L).1.length) ah = sE (L.length + sz : Nat) := by
      rw [← e1]
      exact setA_E (by rw [List.length_append]; omega) (by rw [sfn_old (by omega), e2 ah h1]; exact h2)
    generalize opL mk m (setA ((mk L).1 ++ [sS (mk L).2.1 0]) ah (mk L).1.length) (mk L).2.2 = R at *
    generalize setA ((mk L).1 ++ [sS (mk L).2.1 0]) ah (mk L).1.length = L1 at *
    simp only
    rw [hl] at i1 i2 i5 i6 i7
    have em : (m + 1) * (sz + 1) = m * (sz + 1) + (sz + 1) := Nat.succ_mul m (sz + 1)
    have hold : ∀ q, q < L.length + sz → q ≠ (mk L).2.2 → q ≠ ah → sfn R.1 q = sfn (mk L).1 q := fun q q1 q2 q3 => by rw [i2 q (by omega) q2, hA q q1 q3]
    refine ⟨by omega, fun q q1 q2 => by rw [hold q (by omega) (by omega) q2]; exact e2 q q1, i3, i4, .inr (by omega), fun s hsp => ?_, (mk L).2.1, (mk L).2.2, R.2.2, ?_, ?_, ?_, by rw [e1], i7⟩
    · rcases List.mem_cons.1 hsp with rfl | hsp
      · rcases i5 with ⟨-, i5⟩ | i5 <;> omega
      · have := i6 s hsp; omega
    · exact hs _ _ _ _ _ (fun q q1 q2 q3 => (hold q q2 q3 (by omega)).symm) e3
    · rw [i2 _ (by omega) (by omega)]; exact hN
    · rw [i2 ah (by omega) (by omega)]; exact hH
end

theorem bs_len (last : Nat) : ∀ (sp : List Nat) (U : List Sd), (bsL last U sp).length = U.length
  | [], _ => rfl
  | s :: sp, U => by
    show (bsL last (setB U s last) sp).length = _
    rw [bs_len last sp, setB_len]
theorem bs_out (last : Nat) : ∀ (sp : List Nat) (U : List Sd) (q : Nat), q ∉ sp → sfn (bsL last U sp) q = sfn U q
  | [], _, _, _ => rfl
  | s :: sp, U, q, h => by
    show sfn (bsL last (setB U s last) sp) q = _
    rw [bs_out last sp _ q (fun hq => h (List.mem_cons_of_mem _ hq)), setB_ne (fun e => h (by rw [e]; exact List.mem_cons_self))]
theorem bs_in (last : Nat) : ∀ (sp : List Nat) (U : List Sd) (q : Nat), (∀ s, s ∈ sp → s < U.length) → q ∈ sp → sfn (bsL last U sp) q = { sfn U q with B := (last : Int) }
  | s :: sp, U, q, hlt, h => by
    show sfn (bsL last (setB U s last) sp) q = _
    have hs : s < U.length := hlt s List.mem_cons_self
    by_cases hq : q ∈ sp
    · rw [bs_in last sp _ q (fun x hx => by rw [setB_len]; exact hlt x (List.mem_cons_of_mem _ hx)) hq]
      by_cases e : q = s
      · subst e; rw [setB_at hs]
      · rw [setB_ne e]
    · rcases List.mem_cons.1 h with rfl | h
      · rw [bs_out last sp _ q hq, setB_at hs]
      · exact absurd h hq

theorem optO_bd {S : Nat → Sd} {P : Nat → Nat → Nat → Prop} {sz : Nat} (hP : inP P sz) : ∀ {m base ah L' ah' sp}, optO S P sz m base ah L' ah' sp → L' = base + m * (sz + 1) ∧ (∀ s, s ∈ sp → base + sz ≤ s ∧ s < L') ∧ ((m = 0 ∧ ah' = ah) ∨ (base ≤ ah' ∧ ah' < L'))
  | 0, base, ah, L', ah', sp, ⟨h1, h2, h3⟩ => ⟨by omega, fun s hs => (by rw [h3] at hs; cases hs), .inl ⟨rfl, h2⟩⟩
  | m + 1, base, ah, L', ah', sp, ⟨f, l, sp', h1, _, _, h4, h5⟩ => by
    obtain ⟨k1, k2, k3, k4, k5⟩ := hP _ _ _ h1
    obtain ⟨g1, g2, g3⟩ := optO_bd hP h5
    have em : (m + 1) * (sz + 1) = m * (sz + 1) + (sz + 1) := Nat.succ_mul m (sz + 1)
    refine ⟨by omega, fun s hs => ?_, .inr ?_⟩
    · rw [h4] at hs
      rcases List.mem_cons.1 hs with rfl | hs
      · omega
      · have := g2 s hs; omega
    · rcases g3 with ⟨rfl, rfl⟩ | g3
      · rw [Nat.zero_mul] at g1; omega
      · omega
/-- Where the splits go on, and what is ahead: copies that may be left out. -/
theorem opts_of {S S' : Nat → Sd} {P P' : Nat → Nat → Nat → Prop} {sz : Nat} (hP : inP P sz) (hs : samP S S' P P' sz) {L' : Nat} : ∀ {m base ah ah' sp}, ah < base → optO S P sz m base ah L' ah' sp →
    (∀ q, q ≠ ah' → q ∉ sp → (q = ah ∨ (base ≤ q ∧ q < L')) → S' q = S q) → (∀ s, s ∈ sp → S' s = { S s with B := (L' : Int) }) → S' ah' = sE L' → opts S' P' sz m base ah L'
  | 0, base, ah, ah', sp, _, ⟨h1, h2, _⟩, _, _, he => ⟨h1, by rw [← h2]; exact he⟩
  | m + 1, base, ah, ah', sp, hlt, ⟨f, l, sp', h1, h2, h3, h4, h5⟩, hq, hsp, he => by
    obtain ⟨k1, k2, k3, k4, k5⟩ := hP _ _ _ h1
    obtain ⟨g1, g2, g3⟩ := optO_bd hP h5
    have hah : ah' = l ∨ base + sz + 1 ≤ ah' := by rcases g3 with ⟨_, e⟩ | g3 <;> omega
    have hnot : ∀ q, q < base + sz → q ∉ sp := fun q q1 hm => by
      rw [h4] at hm
      rcases List.mem_cons.1 hm with rfl | hm
      · omega
      · have := g2 q hm; omega
    refine ⟨f, l, hs _ _ _ (fun q q1 q2 q3 => (hq q (by omega) (hnot q q2) (.inr ⟨q1, by omega⟩)).symm) h1, ?_, ?_, opts_of hP hs (by omega) h5 (fun q q1 q2 q3 => ?_) (fun s h => hsp s (by rw [h4]; exact List.mem_cons_of_mem _ h)) he⟩
    · rw [hsp _ (by rw [h4]; exact List.mem_cons_self), h2]; rfl
    · rw [hq ah (by omega) (hnot ah (by omega)) (.inl rfl)]; exact h3
    · refine hq q q1 (fun hm => ?_) (.inr (by rcases q3 with rfl | q3 <;> omega))
      rw [h4] at hm
      rcases List.mem_cons.1 hm with rfl | hm
      · rcases q3 with q3 | q3 <;> omega
      · exact q2 hm
/-- What the ends lead to. -/
theorem end_ok {inf : Bool} {r : List Sd × Nat × List Nat} (h1 : r.2.1 < r.1.length) (h2 : sfn r.1 r.2.1 = sE 0) (h3 : ∀ s, s ∈ r.2.2 → s < r.1.length ∧ s ≠ r.2.1) :
    (edL9 inf r).2 = r.1.length ∧ (edL9 inf r).1.length = r.1.length + 1 ∧ (∀ q, q < r.1.length → q ≠ r.2.1 → q ∉ r.2.2 → sfn (edL9 inf r).1 q = sfn r.1 q) ∧ (∀ s, s ∈ r.2.2 → sfn (edL9 inf r).1 s = { sfn r.1 s with B := (r.1.length : Int) }) ∧
      sfn (edL9 inf r).1 r.2.1 = sE (if inf then r.2.2.headD 0 else r.1.length : Nat) ∧ sfn (edL9 inf r).1 r.1.length = sE 0 := by
  obtain ⟨U, ah, sp⟩ := r
  simp only at h1 h2 h3 ⊢
  have hU : (setA (U ++ [sE 0]) ah U.length).length = U.length + 1 := by rw [setA_len, List.length_append]; rfl
  have eV : ∃ V, (if inf then setA (setA (U ++ [sE 0]) ah U.length) ah (sp.headD 0) else setA (U ++ [sE 0]) ah U.length) = V ∧ V.length = U.length + 1 ∧ (∀ q, q < U.length → q ≠ ah → sfn V q = sfn U q) ∧ sfn V ah = sE (if inf then sp.headD 0 else U.length : Nat) ∧ sfn V U.length = sE 0 := by
    refine ⟨_, rfl, ?_⟩
    cases inf with
    | true =>
      simp only [if_true]
      refine ⟨by rw [setA_len, hU], fun q q1 q2 => by rw [setA_ne q2, setA_ne q2, sfn_old q1], setA_EE (by omega) (setA_E (by rw [List.length_append]; omega) (by rw [sfn_old h1]; exact h2)), by rw [setA_ne (by omega), setA_ne (by omega), sfn_new rfl]⟩
    | false =>
      simp only [Bool.false_eq_true, if_false]
      refine ⟨hU, fun q q1 q2 => by rw [setA_ne q2, sfn_old q1], setA_E (by rw [List.length_append]; omega) (by rw [sfn_old h1]; exact h2), by rw [setA_ne (by omega), sfn_new rfl]⟩
  obtain ⟨V, e, v1, v2, v3, v4⟩ := eV
  have eE : edL9 inf (U, ah, sp) = (bsL U.length V sp, U.length) := by unfold edL9; simp only; rw [e]
  rw [eE]
  simp only
  have hlt : ∀ s, s ∈ sp → s < V.length := fun s hs => by have := (h3 s hs).1; omega
  refine ⟨trivial, by rw [bs_len, v1], fun q q1 q2 q3 => by rw [bs_out _ _ _ _ q3, v2 q q1 q2], fun s hs => by rw [bs_in _ _ _ _ hlt hs, v2 s (h3 s hs).1 (h3 s hs).2], by rw [bs_out _ _ _ _ (fun hm => (h3 ah hm).2 rfl), v3], by rw [bs_out _ _ _ _ (fun hm => by have := (h3 _ hm).1; omega), v4]⟩

theorem mk_ok : ∀ t, mkOK (fun S => isFr S t) (nst t) (mkF t)
  | .leaf x, L => by
    have e : mkF (.leaf x) L = (L ++ [leafS x (L.length + 1)] ++ [sE 0], L.length, L.length + 1) := rfl
    rw [e]
    simp only
    refine ⟨by simp [nst], fun q hq => by rw [sfn_old (by simp; omega), sfn_old hq], ⟨rfl, rfl, ?_⟩, by rw [sfn_new (by simp)]⟩
    rw [sfn_old (by simp), sfn_new rfl]; rfl
  | .cat a b, L => by
    obtain ⟨a1, a2, a3, a4⟩ := mk_ok a L
    obtain ⟨b1, b2, b3, b4⟩ := mk_ok b (mkF a L).1
    have e : mkF (.cat a b) L = (setA (mkF b (mkF a L).1).1 (mkF a L).2.2 (mkF b (mkF a L).1).2.1, (mkF a L).2.1, (mkF b (mkF a L).1).2.2) := rfl
    rw [e]
    generalize mkF b (mkF a L).1 = y at *
    generalize mkF a L = x at *
    simp only at *
    obtain ⟨k1, k2, k3, k4, k5⟩ := fr_bd _ a _ _ _ a3
    obtain ⟨l1, l2, l3, l4, l5⟩ := fr_bd _ b _ _ _ b3
    have hold : ∀ q, q < x.1.length → q ≠ x.2.2 → sfn (setA y.1 x.2.2 y.2.1) q = sfn x.1 q := fun q q1 q2 => by rw [setA_ne q2, b2 q q1]
    refine ⟨by rw [setA_len]; show _ = _ + (nst a + nst b); omega, fun q hq => by rw [hold q (by omega) (by omega), a2 q hq], ⟨x.2.2, y.2.1, ?_, ?_, ?_⟩, by rw [setA_ne (by omega)]; exact b4⟩
    · exact fr_same a _ _ _ (fun q q1 q2 q3 => (hold q (by omega) q3).symm) a3
    · rw [← a1]; exact fr_same b _ _ _ (fun q q1 q2 q3 => (setA_ne (by omega)).symm) b3
    · exact setA_E (by omega) (by rw [b2 _ (by omega)]; exact a4)
  | .or a b, L => by
    obtain ⟨a1, a2, a3, a4⟩ := mk_ok a L
    obtain ⟨b1, b2, b3, b4⟩ := mk_ok b (mkF a L).1
    have e : mkF (.or a b) L = (setA (setA ((mkF b (mkF a L).1).1 ++ [sS (mkF a L).2.1 (mkF b (mkF a L).1).2.1] ++ [sE 0]) (mkF a L).2.2 ((mkF b (mkF a L).1).1.length + 1)) (mkF b (mkF a L).1).2.2 ((mkF b (mkF a L).1).1.length + 1), (mkF b (mkF a L).1).1.length, (mkF b (mkF a L).1).1.length + 1) := rfl
    rw [e]
    generalize mkF b (mkF a L).1 = y at *
    generalize mkF a L = x at *
    simp only at *
    obtain ⟨k1, k2, k3, k4, k5⟩ := fr_bd _ a _ _ _ a3
    obtain ⟨l1, l2, l3, l4, l5⟩ := fr_bd _ b _ _ _ b3
    have hW : (y.1 ++ [sS x.2.1 y.2.1] ++ [sE 0]).length = y.1.length + 2 := by simp
    have hol : ∀ q, q < y.1.length → q ≠ x.2.2 → q ≠ y.2.2 → sfn (setA (setA (y.1 ++ [sS x.2.1 y.2.1] ++ [sE 0]) x.2.2 (y.1.length + 1)) y.2.2 (y.1.length + 1)) q = sfn y.1 q := fun q q1 q2 q3 => by
      rw [setA_ne q3, setA_ne q2, sfn_old (by simp; omega), sfn_old q1]
    refine ⟨by rw [setA_len, setA_len, hW]; show _ = _ + (nst a + nst b + 2); omega, fun q hq => by rw [hol q (by omega) (by omega) (by omega), b2 q (by omega), a2 q hq], ⟨x.2.1, x.2.2, y.2.1, y.2.2, ?_, ?_, by omega, rfl, ?_, ?_, ?_⟩, ?_⟩
    · exact fr_same a _ _ _ (fun q q1 q2 q3 => by rw [hol q (by omega) q3 (by omega), b2 q (by omega)]) a3
    · rw [← a1]; exact fr_same b _ _ _ (fun q q1 q2 q3 => by rw [hol q (by omega) (by omega) q3]) b3
    · rw [setA_ne (by omega), setA_ne (by omega), sfn_old (by simp), sfn_new rfl]
    · rw [setA_ne (by omega)]
      exact setA_E (by omega) (by rw [sfn_old (by simp; omega), sfn_old (by omega), b2 _ (by omega)]; exact a4)
    · exact setA_E (by rw [setA_len]; omega) (by rw [setA_ne (by omega), sfn_old (by simp; omega), sfn_old (by omega)]; exact b4)
    · rw [setA_ne (by omega), setA_ne (by omega), sfn_new (by simp)]
  | .rep a lo hi, L => by
    have hP : ∀ S, inP (isFr S a) (nst a) := fun S => fr_bd S a
    have hs : ∀ S S' : Nat → Sd, samP S S' (isFr S a) (isFr S' a) (nst a) := fun S S' => fr_same a
    have hm := mk_ok a
    have h0 : (L ++ [sE 0]).length = L.length + 1 := by simp
    obtain ⟨c1, c2, c3, c4, c5, c6⟩ := cp_ok (P := fun S => isFr S a) hP hs hm lo.toNat (L ++ [sE 0]) L.length (by omega) (sfn_new rfl)
    have e : mkF (.rep a lo hi) L = ((edL9 (hi == -1) (opL (mkF a) (if hi = -1 then 1 else (hi - lo).toNat) (cpL (mkF a) lo.toNat (L ++ [sE 0]) L.length).1 (cpL (mkF a) lo.toNat (L ++ [sE 0]) L.length).2)).1, L.length, (edL9 (hi == -1) (opL (mkF a) (if hi = -1 then 1 else (hi - lo).toNat) (cpL (mkF a) lo.toNat (L ++ [sE 0]) L.length).1 (cpL (mkF a) lo.toNat (L ++ [sE 0]) L.length).2)).2) := rfl
    rw [e]
    generalize cpL (mkF a) lo.toNat (L ++ [sE 0]) L.length = p at *
    obtain ⟨o1, o2, o3, o4, o5, o6, o7⟩ := op_ok (P := fun S => isFr S a) hP hs hm (if hi = -1 then 1 else (hi - lo).toNat) p.1 p.2 c4 c3
    generalize hmm : (if hi = -1 then 1 else (hi - lo).toNat) = m at *
    generalize opL (mkF a) m p.1 p.2 = r at *
    obtain ⟨n1, n2, n3, n4, n5, n6⟩ := end_ok (inf := hi == -1) (r := r) o4 o3 (fun s h => (o6 s h).2)
    generalize edL9 (hi == -1) r = E at *
    simp only at *
    rw [h0] at c1 c2 c5 c6
    have hpl : L.length + 1 ≤ p.1.length := by omega
    have hrl : p.1.length ≤ r.1.length := by omega
    have hold : ∀ q, q < p.1.length → q ≠ p.2 → sfn E.1 q = sfn p.1 q := fun q q1 q2 => by
      rw [n3 q (by omega) (by rcases o5 with ⟨_, o5⟩ | o5 <;> omega) (fun hm => by have := o6 q hm; omega), o2 q q1 q2]
    refine ⟨?_, fun q hq => ?_, ⟨rfl, p.1.length, p.2, cps_same (hP _) (hs _ _) (by omega) (fun q q1 q2 => (hold q (by omega) q2).symm) c6, ?_⟩, by rw [n1]; exact n6⟩
    · rw [n2, o1, c1]
      show _ = _ + (2 + lo.toNat * nst a + _)
      rw [← hmm]
      by_cases hh : hi = -1
      · rw [if_pos hh, if_pos hh]; omega
      · rw [if_neg hh, if_neg hh]; omega
    · rw [hold q (by omega) (by rcases c5 with ⟨_, c5⟩ | c5 <;> omega), c2 q (by omega) (by omega), sfn_old hq]
    · rw [n1]
      by_cases hh : hi = -1
      · rw [if_pos hh] at hmm ⊢
        subst hmm
        rw [hh] at n5
        simp only [beq_self_eq_true, if_true] at n5
        obtain ⟨f, l, sp', g1, g2, g3, g4, g5, g6, g7⟩ := o7
        obtain ⟨k1, k2, k3, k4, k5⟩ := hP _ _ _ _ g1
        subst g7
        rw [g4] at n5 n4 o6 n3
        rw [g6] at n5 n3 o6
        simp only [List.headD_cons] at n5
        have hne : ∀ q, q < p.1.length + nst a → q ≠ l → sfn E.1 q = sfn r.1 q := fun q q1 q2 => n3 q (by omega) q2 (fun hm => by simp at hm; omega)
        refine ⟨f, l, hs _ _ _ _ _ (fun q q1 q2 q3 => (hne q q2 q3).symm) g1, ?_, ?_, n5, by omega⟩
        · rw [n4 _ (by simp), g2]; rfl
        · rw [hne p.2 (by omega) (by omega)]; exact g3
      · rw [if_neg hh] at hmm ⊢
        subst hmm
        have hb : (hi == -1) = false := by simp [hh]
        rw [hb] at n5
        simp only [Bool.false_eq_true, if_false] at n5
        exact opts_of (hP _) (hs _ _) c4 o7 (fun q q1 q2 q3 => n3 q (by rcases q3 with rfl | q3 <;> omega) q1 q2) n4 n5
end Go.Proofs.Ytefpoapbodbenaa

namespace Go.Proofs.Ytefpoapbodbenaa

theorem cpL_snoc (mk : List Sd → List Sd × Nat × Nat) : ∀ m L ah, cpL mk (m + 1) L ah = (setA (mk (cpL mk m L ah).1).1 (cpL mk m L ah).2 (mk (cpL mk m L ah).1).2.1, (mk (cpL mk m L ah).1).2.2)
  | 0, _, _ => rfl
  | m + 1, L, ah => cpL_snoc mk m (setA (mk L).1 ah (mk L).2.1) (mk L).2.2
theorem opL_snoc (mk : List Sd → List Sd × Nat × Nat) : ∀ m L ah, opL mk (m + 1) L ah = (setA ((mk (opL mk m L ah).1).1 ++ [sS (mk (opL mk m L ah).1).2.1 0]) (opL mk m L ah).2.1 (mk (opL mk m L ah).1).1.length, (mk (opL mk m L ah).1).2.2, (opL mk m L ah).2.2 ++ [(mk (opL mk m L ah).1).1.length])
  | 0, _, _ => rfl
  | m + 1, L, ah => by
    have h := opL_snoc mk m (setA ((mk L).1 ++ [sS (mk L).2.1 0]) ah (mk L).1.length) (mk L).2.2
    have e : ∀ k, opL mk (k + 1) L ah = ((opL mk k (setA ((mk L).1 ++ [sS (mk L).2.1 0]) ah (mk L).1.length) (mk L).2.2).1, (opL mk k (setA ((mk L).1 ++ [sS (mk L).2.1 0]) ah (mk L).1.length) (mk L).2.2).2.1, (mk L).1.length :: (opL mk k (setA ((mk L).1 ++ [sS (mk L).2.1 0]) ah (mk L).1.length) (mk L).2.2).2.2) := fun _ => rfl
    rw [e (m + 1), h, e m]
    rfl
theorem bsL_snoc (last : Nat) : ∀ (sp : List Nat) (U : List Sd) (s : Nat), bsL last U (sp ++ [s]) = setB (bsL last U sp) s last
  | [], _, _ => rfl
  | x :: sp, U, s => bsL_snoc last sp (setB U x last) s
theorem bsL_take (last : Nat) (U : List Sd) (sp : List Nat) (j : Nat) (h : j < sp.length) : bsL last U (sp.take (j + 1)) = setB (bsL last U (sp.take j)) sp[j] last := by
  rw [List.take_succ_eq_append_getElem h, bsL_snoc]
theorem mk_len (t : Tr) (L : List Sd) : (mkF t L).1.length = L.length + nst t := (mk_ok t L).1
theorem mk_bd (t : Tr) (L : List Sd) : L.length ≤ (mkF t L).2.1 ∧ (mkF t L).2.1 < (mkF t L).1.length ∧ L.length ≤ (mkF t L).2.2 ∧ (mkF t L).2.2 < (mkF t L).1.length := by
  have := fr_bd _ t _ _ _ (mk_ok t L).2.2.1
  rw [mk_len]
  omega
theorem cpL_bd (t : Tr) (m : Nat) (L : List Sd) (ah : Nat) (h : ah < L.length) : (cpL (mkF t) m L ah).1.length = L.length + m * nst t ∧ (cpL (mkF t) m L ah).2 < (cpL (mkF t) m L ah).1.length := by
  induction m with
  | zero => exact ⟨by rw [Nat.zero_mul]; rfl, h⟩
  | succ m ih =>
    rw [cpL_snoc]
    simp only [setA_len]
    have := mk_bd t (cpL (mkF t) m L ah).1
    have e := mk_len t (cpL (mkF t) m L ah).1
    have em : (m + 1) * nst t = m * nst t + nst t := Nat.succ_mul m (nst t)
    exact ⟨by omega, by omega⟩
theorem opL_bd (t : Tr) (m : Nat) (L : List Sd) (ah : Nat) (h : ah < L.length) : (opL (mkF t) m L ah).1.length = L.length + m * (nst t + 1) ∧ (opL (mkF t) m L ah).2.1 < (opL (mkF t) m L ah).1.length ∧ (opL (mkF t) m L ah).2.2.length = m ∧ ∀ s, s ∈ (opL (mkF t) m L ah).2.2 → s < (opL (mkF t) m L ah).1.length := by
  induction m with
  | zero => exact ⟨by rw [Nat.zero_mul]; rfl, h, rfl, fun s hs => by simp [opL] at hs⟩
  | succ m ih =>
    rw [opL_snoc]
    simp only [setA_len, List.length_append, List.length_cons, List.length_nil]
    have := mk_bd t (opL (mkF t) m L ah).1
    have e := mk_len t (opL (mkF t) m L ah).1
    have em : (m + 1) * (nst t + 1) = m * (nst t + 1) + (nst t + 1) := Nat.succ_mul m (nst t + 1)
    refine ⟨by omega, by omega, by omega, fun s hs => ?_⟩
    rcases List.mem_append.1 hs with hs | hs
    · have := ih.2.2.2 s hs; omega
    · have := List.mem_singleton.1 hs; omega
end Go.Proofs.Ytefpoapbodbenaa

namespace Go.Proofs.Ytefpoapbodbenaa
open Go.RowKit

theorem arI {a b : Int} (h : a = b) : Ending.returned (.int .i64 a) = Ending.returned (.int .i64 b) := by rw [h]

end Go.Proofs.Ytefpoapbodbenaa

namespace Go.Proofs.Ytefpoapbodbenaa
open Go.RowKit

/-- What holds at the loop's head. -/
def fstRel (N : Nat → Nd) (i : Nat) (mi at_ : Value) : Prop :=
  (∃ p m : Nat, p ≤ i ∧ m ≤ 2 * (i - p) ∧ mi = .int .i64 ((m : Int) + 1) ∧ at_ = .int .i64 (p : Int) ∧ Hid (fst N i = back N (p + 1) (m + 1))) ∨ (at_ = .int .i64 (-1) ∧ Hid (fst N i = -1))
theorem fst_rel {N : Nat → Nd} {i p m : Nat} {x y : Int} (hp : p ≤ i) (hm : m + 1 ≤ 2 * (i - p) + 2) (hx : x = (m : Int) + 1) (hy : y = (p : Int) - 1) (h : fst N i = back N p (m + 1)) : fstRel N i (.int .i64 x) (.int .i64 y) := by
  subst hx hy
  cases p with
  | zero => exact .inr ⟨rfl, Lib.hid (by rw [h, back_none])⟩
  | succ p => exact .inl ⟨p, m, by omega, by omega, rfl, by rw [show ((p + 1 : Nat) : Int) - 1 = p by omega], Lib.hid h⟩

end Go.Proofs.Ytefpoapbodbenaa

namespace Go.Proofs.Ytefpoapbodbenaa
open Go.RowKit

/-- A node whose part begins somewhere: what its arguments are. -/
theorem kids_back {N : Nat → Nd} {i : Nat} (h : 0 ≤ fst N i) : (ar (N i).k = 0 ∧ kids N i = [] ∧ fst N i = i) ∨
    (ar (N i).k = 1 ∧ 0 < i ∧ kids N i = [(i : Int) - 1] ∧ fst N i = fst N (i - 1) ∧ 0 ≤ fst N (i - 1)) ∨
    (ar (N i).k = 2 ∧ ∃ f : Nat, 0 < f ∧ f + 1 ≤ i ∧ fst N (i - 1) = f ∧ kids N i = [(f : Int) - 1, (i : Int) - 1] ∧ fst N i = fst N (f - 1) ∧ 0 ≤ fst N (f - 1)) := by
  rw [fst_eq] at h
  have e := fst_eq N i
  rcases ar_cases (N i).k with ⟨ha, -⟩ | ⟨ha, -⟩ | ⟨ha, -⟩ | ⟨ha, -⟩
  · rw [ha] at h e; simp [back_zero] at e
    exact .inl ⟨ha, by simp [kids, ha], e⟩
  · rw [ha] at h e
    rw [if_neg (by omega)] at h e
    have hi : 0 < i := by
      rcases Nat.eq_zero_or_pos i with rfl | h0
      · rw [show ((1 : Int).toNat) = 0 + 1 from rfl, back_none] at h; omega
      · exact h0
    have e1 : fst N (i - 1) = back N i 1 := by unfold fst; rw [show i - 1 + 1 = i by omega]
    refine .inr (.inl ⟨ha, hi, by simp [kids, ha], ?_, ?_⟩)
    · rw [e, e1]; rfl
    · rw [e1]; exact h
  · rw [ha] at h e
    rw [if_neg (by omega)] at h e
    have hi : 0 < i := by
      rcases Nat.eq_zero_or_pos i with rfl | h0
      · rw [show ((2 : Int).toNat) = 1 + 1 from rfl, back_none] at h; omega
      · exact h0
    have hs : back N i (Int.toNat 2) = if fst N (i - 1) < 0 then -1 else back N (fst N (i - 1)).toNat 1 := by
      have := back_step N (i - 1) 1
      rwa [show i - 1 + 1 = i by omega] at this
    rw [hs] at h e
    have hb := fst_bd N (i - 1)
    by_cases h0 : fst N (i - 1) < 0
    · rw [if_pos h0] at h; omega
    · rw [if_neg h0] at h e
      obtain ⟨f, hf⟩ : ∃ f : Nat, fst N (i - 1) = f := ⟨(fst N (i - 1)).toNat, by omega⟩
      rw [hf] at h e
      simp only [Int.toNat_natCast] at h e
      have hf0 : 0 < f := by
        rcases Nat.eq_zero_or_pos f with rfl | h0
        · rw [back_none] at h; omega
        · exact h0
      have e1 : fst N (f - 1) = back N f 1 := by unfold fst; rw [show f - 1 + 1 = f by omega]
      exact .inr (.inr ⟨ha, f, hf0, by omega, hf, by simp [kids, ha, hf], by rw [e, e1], by rw [e1]; exact h⟩)
  · rw [ha] at h; simp at h

theorem mk0 : ∀ w, (Instr.makeSlice 22 (.int .i64 0) (.int .i64 0)).run Try.prog w = .ok (.slice (some ⟨w.heap.size, 0, none⟩) 0 0) (w.alloc (.cells #[] 3)) := fun _ => by kernel_rfl
theorem mk1 : ∀ w, (Instr.makeSlice 22 (.int .i64 1) (.int .i64 1)).run Try.prog w = .ok (.slice (some ⟨w.heap.size, 0, none⟩) 1 1) (w.alloc (.cells #[.int .i64 0] 3)) := fun _ => by kernel_rfl
theorem mk2 : ∀ w, (Instr.makeSlice 22 (.int .i64 2) (.int .i64 2)).run Try.prog w = .ok (.slice (some ⟨w.heap.size, 0, none⟩) 2 2) (w.alloc (.cells #[.int .i64 0, .int .i64 0] 3)) := fun _ => by kernel_rfl

end Go.Proofs.Ytefpoapbodbenaa

namespace Go.Proofs.Ytefpoapbodbenaa
open Go.RowKit

/-- A node's cells. -/
def nval (x : Nd) : Nat → Value
  | 0 => .int .i64 x.k
  | 1 => .int .u64 x.a
  | 2 => .int .u64 x.b
  | 3 => .int .u64 x.c
  | 4 => .int .u64 x.d
  | 5 => .int .i64 x.lo
  | _ => .int .i64 x.hi
def nvs (N : Nat → Nd) (m : Nat) : List Value := (List.range (m * 7)).map fun t => nval (N (t / 7)) (t % 7)
theorem nvs_len (N : Nat → Nd) (m : Nat) : (nvs N m).length = m * 7 := by simp [nvs]
theorem nvs_get (N : Nat → Nd) (m t : Nat) (h : t < m * 7) : (nvs N m)[t]? = some (nval (N (t / 7)) (t % 7)) := by
  unfold nvs; rw [List.getElem?_map, List.getElem?_range h]; rfl
theorem nvs_one (N : Nat → Nd) (m : Nat) : ∀ u ∈ nvs N m, u.oneCell' = true := by
  intro u hu
  unfold nvs at hu
  obtain ⟨t, _, rfl⟩ := List.mem_map.1 hu
  unfold nval
  split <;> rfl
theorem ndAt_val {w : World} {b o : Nat} {x : Nd} (h : ndAt w b o x) (r : Nat) (hr : r < 7) : w.cell? ⟨b, o + r, none⟩ = some (nval x r) := by
  unfold ndAt at h
  obtain ⟨h0, h1, h2, h3, h4, h5, h6⟩ := h
  match r, hr with
  | 0, _ => exact h0
  | 1, _ => exact h1
  | 2, _ => exact h2
  | 3, _ => exact h3
  | 4, _ => exact h4
  | 5, _ => exact h5
  | 6, _ => exact h6
theorem rdN_cells {w : World} {b off m : Nat} {N : Nat → Nd} (h : rdN w b off m N) : ∀ j u, (nvs N m)[j]? = some u → w.cell? ((⟨b, off, none⟩ : Addr).add j) = some u := by
  intro j u hu
  have hj : j < m * 7 := by
    have := (List.getElem?_eq_some_iff.1 hu).1
    rwa [nvs_len] at this
  rw [nvs_get N m j hj] at hu
  have hv := ndAt_val (h (j / 7) (by omega)).2 (j % 7) (by omega)
  rw [show off + j / 7 * 7 + j % 7 = off + j by omega] at hv
  have ha : (⟨b, off, none⟩ : Addr).add j = ⟨b, off + j, none⟩ := by unfold Addr.add; split <;> simp_all
  rw [ha, hv, ← hu]
theorem rdN_of_owns {w : World} {base : Nat} {e : TypeId} {g n cap : Nat} {N : Nat → Nd} (h : w.ownsRow base e 7 (.slice (some ⟨g, 0, none⟩) n cap) n (nvs N n)) : rdN w g 0 n N := by
  intro j hj
  refine ⟨(h.lt g rfl).2, ?_⟩
  have c : ∀ r, r < 7 → w.cell? ⟨g, 0 + j * 7 + r, none⟩ = some (nval (N j) r) := fun r hr => by
    rw [h.cellAt _ (by omega), nvs_get _ _ _ (by omega), show (0 + j * 7 + r) / 7 = j by omega, show (0 + j * 7 + r) % 7 = r by omega]
  exact ⟨c 0 (by decide), c 1 (by decide), c 2 (by decide), c 3 (by decide), c 4 (by decide), c 5 (by decide), c 6 (by decide)⟩

end Go.Proofs.Ytefpoapbodbenaa

namespace Go.Proofs.Ytefpoapbodbenaa
open Go.RowKit

theorem infoInt : (Try.prog.info? 3).map (fun i => (i.zero, i.size, i.bytes)) = some (some (.int .i64 0), 1, 8) := by kernel_rfl
def fsts (N : Nat → Nd) (k : Nat) : List Int := (List.range k).map (fst N)
theorem fsts_succ (N : Nat → Nd) (k : Nat) : fsts N (k + 1) = fsts N k ++ [fst N k] := by unfold fsts; rw [List.range_succ, List.map_append]; rfl
theorem fsts_len (N : Nat → Nd) (k : Nat) : (fsts N k).length = k := by simp [fsts]
theorem fsts_get (N : Nat → Nd) (k j : Nat) (h : j < k) : (ivs (fsts N k))[j]? = some (.int .i64 (fst N j)) := by simp [ivs, fsts, h]

/-- What holds at the head of the inner loop. -/
def fsRel (N : Nat → Nd) (k : Nat) (x y : Value) : Prop := ∃ (fr : Int) (m : Nat), x = .int .i64 fr ∧ y = .int .i64 (m : Int) ∧ m ≤ 2 ∧ -1 ≤ fr ∧ fr ≤ k ∧ Hid (fst N k = if fr < 0 then -1 else back N fr.toNat m)
theorem fsRel_none {N : Nat → Nd} {k m : Nat} (hm : m ≤ 1) (h : fst N k = back N 0 (m + 1)) (y : Int) (hy : y = m) : fsRel N k (.int .i64 (-1)) (.int .i64 y) :=
  ⟨-1, m, rfl, by rw [hy], by omega, by omega, by omega, Lib.hid (by rw [h, back_none]; rfl)⟩
theorem fsRel_step {N : Nat → Nd} {k q m : Nat} (hm : m ≤ 1) (hq : q + 1 ≤ k) (h : fst N k = back N (q + 1) (m + 1)) (y : Int) (hy : y = m) : fsRel N k (.int .i64 (fst N q)) (.int .i64 y) := by
  have hb := fst_bd N q
  refine ⟨fst N q, m, rfl, by rw [hy], by omega, by omega, by omega, Lib.hid ?_⟩
  rw [h, back_step]

theorem fs_end {N : Nat → Nd} {k : Nat} {fr : Int} (h : fst N k = if fr < 0 then -1 else back N fr.toNat 0) (h0 : -1 ≤ fr) : fst N k = fr := by
  rw [h]
  split
  · omega
  · rw [back_zero]; omega

end Go.Proofs.Ytefpoapbodbenaa

namespace Go.Proofs.Ytefpoapbodbenaa
open Go.RowKit

theorem grown_setCell (w : World) (b j : Nat) (v : Value) : w.grownBy (w.setCell ⟨b, j, none⟩ v) (some b) := by
  have h := (Below.refl b w).setCell (p := ⟨b, j, none⟩) (Nat.le_refl _) v
  refine ⟨h.os, h.tape, h.output, h.size, fun k _ hk => ?_⟩
  have : k ≠ b := fun e => hk (by rw [e])
  show (w.heap.modify b _)[k]? = _
  rw [Array.getElem?_modify, if_neg (Ne.symm this)]
theorem below_pt3 {B : Nat} {a w : World} {c : Nat} (h : Below B a w) (hc : B ≤ c) (v' : Value) (f' l' : Int) : Below B a (((w.setCell ⟨c, 0, none⟩ v').setCell ⟨c, 1, none⟩ (.int .i64 f')).setCell ⟨c, 2, none⟩ (.int .i64 l')) :=
  ((h.setCell hc _).setCell hc _).setCell hc _
end Go.Proofs.Ytefpoapbodbenaa

namespace Go.Proofs.Ytefpoapbodbenaa
open Go.RowKit

theorem rows_apart9 {w : World} {b1 b2 e1 e2 s1 s2 n1 n2 : Nat} {v1 v2 : Value} {x1 x2 : List Value} (h1 : w.ownsRow b1 e1 s1 v1 n1 x1) (h2 : w.ownsRow b2 e2 s2 v2 n2 x2) (hne : e1 ≠ e2) : v1.ownBlock = none ∨ v1.ownBlock ≠ v2.ownBlock := by
  rcases h1.2 with ⟨rfl, _⟩ | ⟨g1, c1, u1, rfl, _, p1, _⟩
  · exact .inl rfl
  · rcases h2.2 with ⟨rfl, _⟩ | ⟨g2, c2, u2, rfl, _, p2, _⟩
    · exact .inr (by simp [Value.ownBlock])
    · refine .inr fun h => ?_
      have hg : g1 = g2 := by simpa [Value.ownBlock] using h
      subst hg
      rw [p1] at p2
      simp at p2
      exact hne p2.2
def spl9 (l : List Nat) : List Value := l.map fun s : Nat => Value.int .i64 (s : Int)
theorem headD_get9 (l : List Nat) (h : 0 < l.length) : l.headD 0 = l[0] := by
  cases l with
  | nil => simp at h
  | cons x l => rfl
/-- A row of places that a call owns. -/
def spO (w : World) (base : Nat) (v : Value) (l : List Nat) : Prop := w.ownsRow base 3 1 v l.length (spl9 l)
end Go.Proofs.Ytefpoapbodbenaa

namespace Go.Proofs.Ytefpoapbodbenaa
open Go.RowKit

theorem infoInt9w : (Try.prog.info? 3).map (fun i => (i.zero, i.size, i.bytes)) = some (some (.int .i64 0), 1, 8) := by kernel_rfl
theorem spl9_len (l : List Nat) : (spl9 l).length = l.length := by simp [spl9]
theorem spl9_append (l r : List Nat) : spl9 (l ++ r) = spl9 l ++ spl9 r := by simp [spl9]
theorem spl9_cell (l : List Nat) : ∀ u ∈ spl9 l, u.oneCell' = true := by
  intro u hu
  unfold spl9 at hu
  obtain ⟨x, _, rfl⟩ := List.mem_map.1 hu
  rfl
/-- A block of one cell. -/
def one9 (t : TypeId) (w : World) (b : Nat) (v : Value) : Prop := w.heap[b]? = some (.cells #[v] t (0, 0))
theorem one9.lt {t : TypeId} {w : World} {b : Nat} {v : Value} (h : one9 t w b v) : b < w.heap.size := lt_of_block h
theorem one9.cell {t : TypeId} {w : World} {b : Nat} {v : Value} (h : one9 t w b v) : w.cell? ⟨b, 0, none⟩ = some v := by
  unfold one9 at h
  simp [World.cell?, h]
theorem one9.free {t : TypeId} {w : World} {b : Nat} {v : Value} (h : one9 t w b v) : w.frozen? ⟨b, 0, none⟩ = false := by
  unfold one9 at h
  simp [World.frozen?, h]
theorem one9.stored {t : TypeId} {w : World} {b : Nat} {v : Value} (h : one9 t w b v) (u : Value) : one9 t (w.setCell ⟨b, 0, none⟩ u) b u := by
  have h1 := heap_setCell_same w b 0 _ _ u h
  unfold one9
  rw [h1]
  simp
theorem one9.grown {t : TypeId} {w w' : World} {b : Nat} {r : Option Nat} {v : Value} (h : one9 t w b v) (hg : w.grownBy w' r) (hb : some b ≠ r) : one9 t w' b v :=
  (hg.block b h.lt hb).trans h
theorem one9.below {t : TypeId} {w w' : World} {b B : Nat} {v : Value} (h : one9 t w b v) (hB : Below B w w') (hb : b < B) : one9 t w' b v := (hB.block b hb).trans h

/-- Block g has what is met of m states, block h names it, block h + 1 the list of it. -/
def clW (w : World) (g h m : Nat) (A : List Nat) : Prop :=
  g < h ∧ one9 23 w (h) (.slice (some ⟨g, 0, none⟩) m m) ∧ (∃ p c, one9 22 w (h + 1) (.slice p A.length c) ∧ spO w (h + 2) (.slice p A.length c) A) ∧ blR w g g m m (memW A)
theorem clW.below {w w' : World} {g h m : Nat} {A : List Nat} (hc : clW w g h m A) (hb : Below w.heap.size w w') : clW w' g h m A := by
  obtain ⟨h0, h1, ⟨p, c, h2, h3⟩, h4⟩ := hc
  exact ⟨h0, h1.below hb h1.lt, ⟨p, c, h2.below hb h2.lt, owns_below h3 hb⟩, h4.below hb⟩
theorem spO_of {w : World} {base : Nat} {v : Value} {A : List Nat} (h : spO w base v A) : ∃ p c, v = .slice p A.length c := by
  rcases id h.2 with ⟨rfl, h0⟩ | ⟨g, cap, cur, rfl, _⟩
  · exact ⟨none, 0, by rw [h0]⟩
  · exact ⟨_, cap, rfl⟩
end Go.Proofs.Ytefpoapbodbenaa
