/-
  What is made of a tree's part is that part's states, as the page has them. Plain facts.
  The states of repeated parts, a round at a time. Plain facts.
-/
import Derived.Test.YthmkjdpmpcjinaaPk16
namespace Go.Proofs.Ythmkjdpmpcjinaa

def mkOK (P : (Nat → Sd) → Nat → Nat → Nat → Prop) (sz : Nat) (mk : List Sd → List Sd × Nat × Nat) : Prop := ∀ L, (mk L).1.length = L.length + sz ∧ (∀ q, q < L.length → sfn (mk L).1 q = sfn L q) ∧
  P (sfn (mk L).1) L.length (mk L).2.1 (mk L).2.2 ∧ sfn (mk L).1 (mk L).2.2 = sE 0
section
variable {P : (Nat → Sd) → Nat → Nat → Nat → Prop} {sz : Nat} {mk : List Sd → List Sd × Nat × Nat}
theorem cp_ok (hP : ∀ S, inP (P S) sz) (hs : ∀ S S', samP S S' (P S) (P S') sz) (hm : mkOK P sz mk) : ∀ m L ah, ah < L.length → sfn L ah = sE 0 →
    (cpL mk m L ah).1.length = L.length + m * sz ∧ (∀ q, q < L.length → q ≠ ah → sfn (cpL mk m L ah).1 q = sfn L q) ∧ sfn (cpL mk m L ah).1 (cpL mk m L ah).2 = sE 0 ∧ (cpL mk m L ah).2 < (cpL mk m L ah).1.length ∧
      ((m = 0 ∧ (cpL mk m L ah).2 = ah) ∨ L.length ≤ (cpL mk m L ah).2) ∧ cps (sfn (cpL mk m L ah).1) (P (sfn (cpL mk m L ah).1)) sz m L.length ah (cpL mk m L ah).1.length (cpL mk m L ah).2
  | 0, L, ah, h1, h2 => ⟨by rw [Nat.zero_mul]; rfl, fun _ _ _ => rfl, h2, h1, .inl ⟨rfl, rfl⟩, rfl, rfl⟩
  | m + 1, L, ah, h1, h2 => by
    obtain ⟨e1, e2, e3, e4⟩ := hm L
    obtain ⟨k1, k2, k3, k4, k5⟩ := hP _ _ _ _ e3
    show _ ∧ _
    have eL : cpL mk (m + 1) L ah = cpL mk m (setA (mk L).1 ah (mk L).2.1) (mk L).2.2 := rfl
    rw [eL]
    have hl : (setA (mk L).1 ah (mk L).2.1).length = L.length + sz := by rw [setA_len, e1]
    obtain ⟨i1, i2, i3, i4, i5, i6⟩ := cp_ok hP hs hm m (setA (mk L).1 ah (mk L).2.1) (mk L).2.2 (by omega) (by rw [setA_ne (by omega)]; exact e4)
    generalize cpL mk m (setA (mk L).1 ah (mk L).2.1) (mk L).2.2 = R at *
    rw [hl] at i1 i2 i5 i6
    have em : (m + 1) * sz = m * sz + sz := Nat.succ_mul m sz
    have hold : ∀ q, q < L.length + sz → q ≠ (mk L).2.2 → q ≠ ah → sfn R.1 q = sfn (mk L).1 q := fun q q1 q2 q3 => by rw [i2 q q1 q2, setA_ne q3]
    refine ⟨by omega, fun q q1 q2 => by rw [hold q (by omega) (by omega) q2]; exact e2 q q1, i3, i4, .inr (by omega), (mk L).2.1, (mk L).2.2, ?_, ?_, i6⟩
    · rw [i2 ah (by omega) (by omega)]
      exact setA_E (by omega) (by rw [e2 ah h1]; exact h2)
    · exact hs _ _ _ _ _ (fun q q1 q2 q3 => (hold q q2 q3 (by omega)).symm) e3

/-- Copies that may be left out, whose splits don't yet go on. -/
def optO (S : Nat → Sd) (P : Nat → Nat → Nat → Prop) (sz : Nat) : Nat → Nat → Nat → Nat → Nat → List Nat → Prop
  | 0, base, ah, L', ah', sp => L' = base ∧ ah' = ah ∧ sp = []
  | m + 1, base, ah, L', ah', sp => ∃ f l sp', P base f l ∧ S (base + sz) = sS f 0 ∧ S ah = sE (base + sz : Nat) ∧ sp = (base + sz) :: sp' ∧ optO S P sz m (base + sz + 1) l L' ah' sp'
theorem op_ok (hP : ∀ S, inP (P S) sz) (hs : ∀ S S', samP S S' (P S) (P S') sz) (hm : mkOK P sz mk) : ∀ m L ah, ah < L.length → sfn L ah = sE 0 →
    (opL mk m L ah).1.length = L.length + m * (sz + 1) ∧ (∀ q, q < L.length → q ≠ ah → sfn (opL mk m L ah).1 q = sfn L q) ∧ sfn (opL mk m L ah).1 (opL mk m L ah).2.1 = sE 0 ∧ (opL mk m L ah).2.1 < (opL mk m L ah).1.length ∧
      ((m = 0 ∧ (opL mk m L ah).2.1 = ah) ∨ L.length ≤ (opL mk m L ah).2.1) ∧ (∀ s, s ∈ (opL mk m L ah).2.2 → L.length ≤ s ∧ s < (opL mk m L ah).1.length ∧ s ≠ (opL mk m L ah).2.1) ∧
      optO (sfn (opL mk m L ah).1) (P (sfn (opL mk m L ah).1)) sz m L.length ah (opL mk m L ah).1.length (opL mk m L ah).2.1 (opL mk m L ah).2.2
  | 0, L, ah, h1, h2 => ⟨by rw [Nat.zero_mul]; rfl, fun _ _ _ => rfl, h2, h1, .inl ⟨rfl, rfl⟩, fun s h => by simp [opL] at h, rfl, rfl, rfl⟩
  | m + 1, L, ah, h1, h2 => by
    obtain ⟨e1, e2, e3, e4⟩ := hm L
    obtain ⟨k1, k2, k3, k4, k5⟩ := hP _ _ _ _ e3
    have eL : opL mk (m + 1) L ah = ((opL mk m (setA ((mk L).1 ++ [sS (mk L).2.1 0]) ah (mk L).1.length) (mk L).2.2).1, (opL mk m (setA ((mk L).1 ++ [sS (mk L).2.1 0]) ah (mk L).1.length) (mk L).2.2).2.1, (mk L).1.length :: (opL mk m (setA ((mk L).1 ++ [sS (mk L).2.1 0]) ah (mk L).1.length) (mk L).2.2).2.2) := rfl
    rw [eL]
    have hl : (setA ((mk L).1 ++ [sS (mk L).2.1 0]) ah (mk L).1.length).length = L.length + sz + 1 := by rw [setA_len, List.length_append, e1]; rfl
    obtain ⟨i1, i2, i3, i4, i5, i6, i7⟩ := op_ok hP hs hm m (setA ((mk L).1 ++ [sS (mk L).2.1 0]) ah (mk L).1.length) (mk L).2.2 (by omega) (by rw [setA_ne (by omega), sfn_old (by omega)]; exact e4)
    have hA : ∀ q, q < L.length + sz → q ≠ ah → sfn (setA ((mk L).1 ++ [sS (mk L).2.1 0]) ah (mk L).1.length) q = sfn (mk L).1 q := fun q q1 q2 => by rw [setA_ne q2, sfn_old (by omega)]
    have hN : sfn (setA ((mk L).1 ++ [sS (mk L).2.1 0]) ah (mk L).1.length) (L.length + sz) = sS (mk L).2.1 0 := by rw [setA_ne (by omega), sfn_new e1.symm]
    have hH : sfn (setA ((mk L).1 ++ [sS (mk L).2.1 0]) ah (mk L).1.length) ah = sE (L.length + sz : Nat) := by
      rw [← e1]
      exact setA_E (by rw [List.length_append]; omega) (by rw [sfn_old (by omega), e2 ah h1]; exact h2)
    generalize opL mk m (setA ((mk L).1 ++ [sS (mk L).2.1 0]) ah (mk L).1.length) (mk L).2.2 = R at *
    generalize setA ((mk L).1 ++ [sS (mk L).2.1 0]) ah (mk L).1.length = L1 at *
    simp only
    rw [hl] at i1 i2 i5 i6 i7
    have em : (m + 1) * (sz + 1) = m * (sz + 1) + (sz + 1) := Nat.succ_mul m (sz + 1)
    have hold : ∀ q, q < L.length + sz → q ≠ (mk L).2.2 → q ≠ ah → sfn R.1 q = sfn (mk L).1 q := fun q q1 q2 q3 => by rw [i2 q (by omega) q2, hA q q1 q3]
    refine ⟨by omega, fun q q1 q2 => by rw [hold q (by omega) (by omega) q2]; exact e2 q q1, i3, i4, .inr (by omega), fun s hsp => ?_, (mk L).2.1, (mk L).2.2, R.2.2, ?_, ?_, ?_, by rw [e1], i7⟩
    · rcases List.mem_cons.1 hsp with rfl | hsp
      · rcases i5 with ⟨-, i5⟩ | i5 <;> omega
      · have := i6 s hsp; omega
    · exact hs _ _ _ _ _ (fun q q1 q2 q3 => (hold q q2 q3 (by omega)).symm) e3
    · rw [i2 _ (by omega) (by omega)]; exact hN
    · rw [i2 ah (by omega) (by omega)]; exact hH
end

theorem bs_len (last : Nat) : ∀ (sp : List Nat) (U : List Sd), (bsL last U sp).length = U.length
  | [], _ => rfl
  | s :: sp, U => by
    show (bsL last (setB U s last) sp).length = _
    rw [bs_len last sp, setB_len]
theorem bs_out (last : Nat) : ∀ (sp : List Nat) (U : List Sd) (q : Nat), q ∉ sp → sfn (bsL last U sp) q = sfn U q
  | [], _, _, _ => rfl
  | s :: sp, U, q, h => by
    show sfn (bsL last (setB U s last) sp) q = _
    rw [bs_out last sp _ q (fun hq => h (List.mem_cons_of_mem _ hq)), setB_ne (fun e => h (by rw [e]; exact List.mem_cons_self))]
theorem bs_in (last : Nat) : ∀ (sp : List Nat) (U : List Sd) (q : Nat), (∀ s, s ∈ sp → s < U.length) → q ∈ sp → sfn (bsL last U sp) q = { sfn U q with B := (last : Int) }
  | s :: sp, U, q, hlt, h => by
    show sfn (bsL last (setB U s last) sp) q = _
    have hs : s < U.length := hlt s List.mem_cons_self
    by_cases hq : q ∈ sp
    · rw [bs_in last sp _ q (fun x hx => by rw [setB_len]; exact hlt x (List.mem_cons_of_mem _ hx)) hq]
      by_cases e : q = s
      · subst e; rw [setB_at hs]
      · rw [setB_ne e]
    · rcases List.mem_cons.1 h with rfl | h
      · rw [bs_out last sp _ q hq, setB_at hs]
      · exact absurd h hq

theorem optO_bd {S : Nat → Sd} {P : Nat → Nat → Nat → Prop} {sz : Nat} (hP : inP P sz) : ∀ {m base ah L' ah' sp}, optO S P sz m base ah L' ah' sp → L' = base + m * (sz + 1) ∧ (∀ s, s ∈ sp → base + sz ≤ s ∧ s < L') ∧ ((m = 0 ∧ ah' = ah) ∨ (base ≤ ah' ∧ ah' < L'))
  | 0, base, ah, L', ah', sp, ⟨h1, h2, h3⟩ => ⟨by omega, fun s hs => (by rw [h3] at hs; cases hs), .inl ⟨rfl, h2⟩⟩
  | m + 1, base, ah, L', ah', sp, ⟨f, l, sp', h1, _, _, h4, h5⟩ => by
    obtain ⟨k1, k2, k3, k4, k5⟩ := hP _ _ _ h1
    obtain ⟨g1, g2, g3⟩ := optO_bd hP h5
    have em : (m + 1) * (sz + 1) = m * (sz + 1) + (sz + 1) := Nat.succ_mul m (sz + 1)
    refine ⟨by omega, fun s hs => ?_, .inr ?_⟩
    · rw [h4] at hs
      rcases List.mem_cons.1 hs with rfl | hs
      · omega
      · have := g2 s hs; omega
    · rcases g3 with ⟨rfl, rfl⟩ | g3
      · rw [Nat.zero_mul] at g1; omega
      · omega
/-- Where the splits go on, and what is ahead: copies that may be left out. -/
theorem opts_of {S S' : Nat → Sd} {P P' : Nat → Nat → Nat → Prop} {sz : Nat} (hP : inP P sz) (hs : samP S S' P P' sz) {L' : Nat} : ∀ {m base ah ah' sp}, ah < base → optO S P sz m base ah L' ah' sp →
    (∀ q, q ≠ ah' → q ∉ sp → (q = ah ∨ (base ≤ q ∧ q < L')) → S' q = S q) → (∀ s, s ∈ sp → S' s = { S s with B := (L' : Int) }) → S' ah' = sE L' → opts S' P' sz m base ah L'
  | 0, base, ah, ah', sp, _, ⟨h1, h2, _⟩, _, _, he => ⟨h1, by rw [← h2]; exact he⟩
  | m + 1, base, ah, ah', sp, hlt, ⟨f, l, sp', h1, h2, h3, h4, h5⟩, hq, hsp, he => by
    obtain ⟨k1, k2, k3, k4, k5⟩ := hP _ _ _ h1
    obtain ⟨g1, g2, g3⟩ := optO_bd hP h5
    have hah : ah' = l ∨ base + sz + 1 ≤ ah' := by rcases g3 with ⟨_, e⟩ | g3 <;> omega
    have hnot : ∀ q, q < base + sz → q ∉ sp := fun q q1 hm => by
      rw [h4] at hm
      rcases List.mem_cons.1 hm with rfl | hm
      · omega
      · have := g2 q hm; omega
    refine ⟨f, l, hs _ _ _ (fun q q1 q2 q3 => (hq q (by omega) (hnot q q2) (.inr ⟨q1, by omega⟩)).symm) h1, ?_, ?_, opts_of hP hs (by omega) h5 (fun q q1 q2 q3 => ?_) (fun s h => hsp s (by rw [h4]; exact List.mem_cons_of_mem _ h)) he⟩
    · rw [hsp _ (by rw [h4]; exact List.mem_cons_self), h2]; rfl
    · rw [hq ah (by omega) (hnot ah (by omega)) (.inl rfl)]; exact h3
    · refine hq q q1 (fun hm => ?_) (.inr (by rcases q3 with rfl | q3 <;> omega))
      rw [h4] at hm
      rcases List.mem_cons.1 hm with rfl | hm
      · rcases q3 with q3 | q3 <;> omega
      · exact q2 hm
/-- What the ends lead to. -/
theorem end_ok {inf : Bool} {r : List Sd × Nat × List Nat} (h1 : r.2.1 < r.1.length) (h2 : sfn r.1 r.2.1 = sE 0) (h3 : ∀ s, s ∈ r.2.2 → s < r.1.length ∧ s ≠ r.2.1) :
    (edL9 inf r).2 = r.1.length ∧ (edL9 inf r).1.length = r.1.length + 1 ∧ (∀ q, q < r.1.length → q ≠ r.2.1 → q ∉ r.2.2 → sfn (edL9 inf r).1 q = sfn r.1 q) ∧ (∀ s, s ∈ r.2.2 → sfn (edL9 inf r).1 s = { sfn r.1 s with B := (r.1.length : Int) }) ∧
      sfn (edL9 inf r).1 r.2.1 = sE (if inf then r.2.2.headD 0 else r.1.length : Nat) ∧ sfn (edL9 inf r).1 r.1.length = sE 0 := by
  obtain ⟨U, ah, sp⟩ := r
  simp only at h1 h2 h3 ⊢
  have hU : (setA (U ++ [sE 0]) ah U.length).length = U.length + 1 := by rw [setA_len, List.length_append]; rfl
  have eV : ∃ V, (if inf then setA (setA (U ++ [sE 0]) ah U.length) ah (sp.headD 0) else setA (U ++ [sE 0]) ah U.length) = V ∧ V.length = U.length + 1 ∧ (∀ q, q < U.length → q ≠ ah → sfn V q = sfn U q) ∧ sfn V ah = sE (if inf then sp.headD 0 else U.length : Nat) ∧ sfn V U.length = sE 0 := by
    refine ⟨_, rfl, ?_⟩
    cases inf with
    | true =>
      simp only [if_true]
      refine ⟨by rw [setA_len, hU], fun q q1 q2 => by rw [setA_ne q2, setA_ne q2, sfn_old q1], setA_EE (by omega) (setA_E (by rw [List.length_append]; omega) (by rw [sfn_old h1]; exact h2)), by rw [setA_ne (by omega), setA_ne (by omega), sfn_new rfl]⟩
    | false =>
      simp only [Bool.false_eq_true, if_false]
      refine ⟨hU, fun q q1 q2 => by rw [setA_ne q2, sfn_old q1], setA_E (by rw [List.length_append]; omega) (by rw [sfn_old h1]; exact h2), by rw [setA_ne (by omega), sfn_new rfl]⟩
  obtain ⟨V, e, v1, v2, v3, v4⟩ := eV
  have eE : edL9 inf (U, ah, sp) = (bsL U.length V sp, U.length) := by unfold edL9; simp only; rw [e]
  rw [eE]
  simp only
  have hlt : ∀ s, s ∈ sp → s < V.length := fun s hs => by have := (h3 s hs).1; omega
  refine ⟨trivial, by rw [bs_len, v1], fun q q1 q2 q3 => by rw [bs_out _ _ _ _ q3, v2 q q1 q2], fun s hs => by rw [bs_in _ _ _ _ hlt hs, v2 s (h3 s hs).1 (h3 s hs).2], by rw [bs_out _ _ _ _ (fun hm => (h3 ah hm).2 rfl), v3], by rw [bs_out _ _ _ _ (fun hm => by have := (h3 _ hm).1; omega), v4]⟩

theorem mk_ok : ∀ t, mkOK (fun S => isFr S t) (nst t) (mkF t)
  | .leaf x, L => by
    have e : mkF (.leaf x) L = (L ++ [leafS x (L.length + 1)] ++ [sE 0], L.length, L.length + 1) := rfl
    rw [e]
    simp only
    refine ⟨by simp [nst], fun q hq => by rw [sfn_old (by simp; omega), sfn_old hq], ⟨rfl, rfl, ?_⟩, by rw [sfn_new (by simp)]⟩
    rw [sfn_old (by simp), sfn_new rfl]; rfl
  | .cat a b, L => by
    obtain ⟨a1, a2, a3, a4⟩ := mk_ok a L
    obtain ⟨b1, b2, b3, b4⟩ := mk_ok b (mkF a L).1
    have e : mkF (.cat a b) L = (setA (mkF b (mkF a L).1).1 (mkF a L).2.2 (mkF b (mkF a L).1).2.1, (mkF a L).2.1, (mkF b (mkF a L).1).2.2) := rfl
    rw [e]
    generalize mkF b (mkF a L).1 = y at *
    generalize mkF a L = x at *
    simp only at *
    obtain ⟨k1, k2, k3, k4, k5⟩ := fr_bd _ a _ _ _ a3
    obtain ⟨l1, l2, l3, l4, l5⟩ := fr_bd _ b _ _ _ b3
    have hold : ∀ q, q < x.1.length → q ≠ x.2.2 → sfn (setA y.1 x.2.2 y.2.1) q = sfn x.1 q := fun q q1 q2 => by rw [setA_ne q2, b2 q q1]
    refine ⟨by rw [setA_len]; show _ = _ + (nst a + nst b); omega, fun q hq => by rw [hold q (by omega) (by omega), a2 q hq], ⟨x.2.2, y.2.1, ?_, ?_, ?_⟩, by rw [setA_ne (by omega)]; exact b4⟩
    · exact fr_same a _ _ _ (fun q q1 q2 q3 => (hold q (by omega) q3).symm) a3
    · rw [← a1]; exact fr_same b _ _ _ (fun q q1 q2 q3 => (setA_ne (by omega)).symm) b3
    · exact setA_E (by omega) (by rw [b2 _ (by omega)]; exact a4)
  | .or a b, L => by
    obtain ⟨a1, a2, a3, a4⟩ := mk_ok a L
    obtain ⟨b1, b2, b3, b4⟩ := mk_ok b (mkF a L).1
    have e : mkF (.or a b) L = (setA (setA ((mkF b (mkF a L).1).1 ++ [sS (mkF a L).2.1 (mkF b (mkF a L).1).2.1] ++ [sE 0]) (mkF a L).2.2 ((mkF b (mkF a L).1).1.length + 1)) (mkF b (mkF a L).1).2.2 ((mkF b (mkF a L).1).1.length + 1), (mkF b (mkF a L).1).1.length, (mkF b (mkF a L).1).1.length + 1) := rfl
    rw [e]
    generalize mkF b (mkF a L).1 = y at *
    generalize mkF a L = x at *
    simp only at *
    obtain ⟨k1, k2, k3, k4, k5⟩ := fr_bd _ a _ _ _ a3
    obtain ⟨l1, l2, l3, l4, l5⟩ := fr_bd _ b _ _ _ b3
    have hW : (y.1 ++ [sS x.2.1 y.2.1] ++ [sE 0]).length = y.1.length + 2 := by simp
    have hol : ∀ q, q < y.1.length → q ≠ x.2.2 → q ≠ y.2.2 → sfn (setA (setA (y.1 ++ [sS x.2.1 y.2.1] ++ [sE 0]) x.2.2 (y.1.length + 1)) y.2.2 (y.1.length + 1)) q = sfn y.1 q := fun q q1 q2 q3 => by
      rw [setA_ne q3, setA_ne q2, sfn_old (by simp; omega), sfn_old q1]
    refine ⟨by rw [setA_len, setA_len, hW]; show _ = _ + (nst a + nst b + 2); omega, fun q hq => by rw [hol q (by omega) (by omega) (by omega), b2 q (by omega), a2 q hq], ⟨x.2.1, x.2.2, y.2.1, y.2.2, ?_, ?_, by omega, rfl, ?_, ?_, ?_⟩, ?_⟩
    · exact fr_same a _ _ _ (fun q q1 q2 q3 => by rw [hol q (by omega) q3 (by omega), b2 q (by omega)]) a3
    · rw [← a1]; exact fr_same b _ _ _ (fun q q1 q2 q3 => by rw [hol q (by omega) (by omega) q3]) b3
    · rw [setA_ne (by omega), setA_ne (by omega), sfn_old (by simp), sfn_new rfl]
    · rw [setA_ne (by omega)]
      exact setA_E (by omega) (by rw [sfn_old (by simp; omega), sfn_old (by omega), b2 _ (by omega)]; exact a4)
    · exact setA_E (by rw [setA_len]; omega) (by rw [setA_ne (by omega), sfn_old (by simp; omega), sfn_old (by omega)]; exact b4)
    · rw [setA_ne (by omega), setA_ne (by omega), sfn_new (by simp)]
  | .rep a lo hi, L => by
    have hP : ∀ S, inP (isFr S a) (nst a) := fun S => fr_bd S a
    have hs : ∀ S S' : Nat → Sd, samP S S' (isFr S a) (isFr S' a) (nst a) := fun S S' => fr_same a
    have hm := mk_ok a
    have h0 : (L ++ [sE 0]).length = L.length + 1 := by simp
    obtain ⟨c1, c2, c3, c4, c5, c6⟩ := cp_ok (P := fun S => isFr S a) hP hs hm lo.toNat (L ++ [sE 0]) L.length (by omega) (sfn_new rfl)
    have e : mkF (.rep a lo hi) L = ((edL9 (hi == -1) (opL (mkF a) (if hi = -1 then 1 else (hi - lo).toNat) (cpL (mkF a) lo.toNat (L ++ [sE 0]) L.length).1 (cpL (mkF a) lo.toNat (L ++ [sE 0]) L.length).2)).1, L.length, (edL9 (hi == -1) (opL (mkF a) (if hi = -1 then 1 else (hi - lo).toNat) (cpL (mkF a) lo.toNat (L ++ [sE 0]) L.length).1 (cpL (mkF a) lo.toNat (L ++ [sE 0]) L.length).2)).2) := rfl
    rw [e]
    generalize cpL (mkF a) lo.toNat (L ++ [sE 0]) L.length = p at *
    obtain ⟨o1, o2, o3, o4, o5, o6, o7⟩ := op_ok (P := fun S => isFr S a) hP hs hm (if hi = -1 then 1 else (hi - lo).toNat) p.1 p.2 c4 c3
    generalize hmm : (if hi = -1 then 1 else (hi - lo).toNat) = m at *
    generalize opL (mkF a) m p.1 p.2 = r at *
    obtain ⟨n1, n2, n3, n4, n5, n6⟩ := end_ok (inf := hi == -1) (r := r) o4 o3 (fun s h => (o6 s h).2)
    generalize edL9 (hi == -1) r = E at *
    simp only at *
    rw [h0] at c1 c2 c5 c6
    have hpl : L.length + 1 ≤ p.1.length := by omega
    have hrl : p.1.length ≤ r.1.length := by omega
    have hold : ∀ q, q < p.1.length → q ≠ p.2 → sfn E.1 q = sfn p.1 q := fun q q1 q2 => by
      rw [n3 q (by omega) (by rcases o5 with ⟨_, o5⟩ | o5 <;> omega) (fun hm => by have := o6 q hm; omega), o2 q q1 q2]
    refine ⟨?_, fun q hq => ?_, ⟨rfl, p.1.length, p.2, cps_same (hP _) (hs _ _) (by omega) (fun q q1 q2 => (hold q (by omega) q2).symm) c6, ?_⟩, by rw [n1]; exact n6⟩
    · rw [n2, o1, c1]
      show _ = _ + (2 + lo.toNat * nst a + _)
      rw [← hmm]
      by_cases hh : hi = -1
      · rw [if_pos hh, if_pos hh]; omega
      · rw [if_neg hh, if_neg hh]; omega
    · rw [hold q (by omega) (by rcases c5 with ⟨_, c5⟩ | c5 <;> omega), c2 q (by omega) (by omega), sfn_old hq]
    · rw [n1]
      by_cases hh : hi = -1
      · rw [if_pos hh] at hmm ⊢
        subst hmm
        rw [hh] at n5
        simp only [beq_self_eq_true, if_true] at n5
        obtain ⟨f, l, sp', g1, g2, g3, g4, g5, g6, g7⟩ := o7
        obtain ⟨k1, k2, k3, k4, k5⟩ := hP _ _ _ _ g1
        subst g7
        rw [g4] at n5 n4 o6 n3
        rw [g6] at n5 n3 o6
        simp only [List.headD_cons] at n5
        have hne : ∀ q, q < p.1.length + nst a → q ≠ l → sfn E.1 q = sfn r.1 q := fun q q1 q2 => n3 q (by omega) q2 (fun hm => by simp at hm; omega)
        refine ⟨f, l, hs _ _ _ _ _ (fun q q1 q2 q3 => (hne q q2 q3).symm) g1, ?_, ?_, n5, by omega⟩
        · rw [n4 _ (by simp), g2]; rfl
        · rw [hne p.2 (by omega) (by omega)]; exact g3
      · rw [if_neg hh] at hmm ⊢
        subst hmm
        have hb : (hi == -1) = false := by simp [hh]
        rw [hb] at n5
        simp only [Bool.false_eq_true, if_false] at n5
        exact opts_of (hP _) (hs _ _) c4 o7 (fun q q1 q2 q3 => n3 q (by rcases q3 with rfl | q3 <;> omega) q1 q2) n4 n5
end Go.Proofs.Ythmkjdpmpcjinaa

namespace Go.Proofs.Ythmkjdpmpcjinaa

theorem cpL_snoc (mk : List Sd → List Sd × Nat × Nat) : ∀ m L ah, cpL mk (m + 1) L ah = (setA (mk (cpL mk m L ah).1).1 (cpL mk m L ah).2 (mk (cpL mk m L ah).1).2.1, (mk (cpL mk m L ah).1).2.2)
  | 0, _, _ => rfl
  | m + 1, L, ah => cpL_snoc mk m (setA (mk L).1 ah (mk L).2.1) (mk L).2.2
theorem opL_snoc (mk : List Sd → List Sd × Nat × Nat) : ∀ m L ah, opL mk (m + 1) L ah = (setA ((mk (opL mk m L ah).1).1 ++ [sS (mk (opL mk m L ah).1).2.1 0]) (opL mk m L ah).2.1 (mk (opL mk m L ah).1).1.length, (mk (opL mk m L ah).1).2.2, (opL mk m L ah).2.2 ++ [(mk (opL mk m L ah).1).1.length])
  | 0, _, _ => rfl
  | m + 1, L, ah => by
    have h := opL_snoc mk m (setA ((mk L).1 ++ [sS (mk L).2.1 0]) ah (mk L).1.length) (mk L).2.2
    have e : ∀ k, opL mk (k + 1) L ah = ((opL mk k (setA ((mk L).1 ++ [sS (mk L).2.1 0]) ah (mk L).1.length) (mk L).2.2).1, (opL mk k (setA ((mk L).1 ++ [sS (mk L).2.1 0]) ah (mk L).1.length) (mk L).2.2).2.1, (mk L).1.length :: (opL mk k (setA ((mk L).1 ++ [sS (mk L).2.1 0]) ah (mk L).1.length) (mk L).2.2).2.2) := fun _ => rfl
    rw [e (m + 1), h, e m]
    rfl
theorem bsL_snoc (last : Nat) : ∀ (sp : List Nat) (U : List Sd) (s : Nat), bsL last U (sp ++ [s]) = setB (bsL last U sp) s last
  | [], _, _ => rfl
  | x :: sp, U, s => bsL_snoc last sp (setB U x last) s
theorem bsL_take (last : Nat) (U : List Sd) (sp : List Nat) (j : Nat) (h : j < sp.length) : bsL last U (sp.take (j + 1)) = setB (bsL last U (sp.take j)) sp[j] last := by
  rw [List.take_succ_eq_append_getElem h, bsL_snoc]
theorem mk_len (t : Tr) (L : List Sd) : (mkF t L).1.length = L.length + nst t := (mk_ok t L).1
theorem mk_bd (t : Tr) (L : List Sd) : L.length ≤ (mkF t L).2.1 ∧ (mkF t L).2.1 < (mkF t L).1.length ∧ L.length ≤ (mkF t L).2.2 ∧ (mkF t L).2.2 < (mkF t L).1.length := by
  have := fr_bd _ t _ _ _ (mk_ok t L).2.2.1
  rw [mk_len]
  omega
theorem cpL_bd (t : Tr) (m : Nat) (L : List Sd) (ah : Nat) (h : ah < L.length) : (cpL (mkF t) m L ah).1.length = L.length + m * nst t ∧ (cpL (mkF t) m L ah).2 < (cpL (mkF t) m L ah).1.length := by
  induction m with
  | zero => exact ⟨by rw [Nat.zero_mul]; rfl, h⟩
  | succ m ih =>
    rw [cpL_snoc]
    simp only [setA_len]
    have := mk_bd t (cpL (mkF t) m L ah).1
    have e := mk_len t (cpL (mkF t) m L ah).1
    have em : (m + 1) * nst t = m * nst t + nst t := Nat.succ_mul m (nst t)
    exact ⟨by omega, by omega⟩
theorem opL_bd (t : Tr) (m : Nat) (L : List Sd) (ah : Nat) (h : ah < L.length) : (opL (mkF t) m L ah).1.length = L.length + m * (nst t + 1) ∧ (opL (mkF t) m L ah).2.1 < (opL (mkF t) m L ah).1.length ∧ (opL (mkF t) m L ah).2.2.length = m ∧ ∀ s, s ∈ (opL (mkF t) m L ah).2.2 → s < (opL (mkF t) m L ah).1.length := by
  induction m with
  | zero => exact ⟨by rw [Nat.zero_mul]; rfl, h, rfl, fun s hs => by simp [opL] at hs⟩
  | succ m ih =>
    rw [opL_snoc]
    simp only [setA_len, List.length_append, List.length_cons, List.length_nil]
    have := mk_bd t (opL (mkF t) m L ah).1
    have e := mk_len t (opL (mkF t) m L ah).1
    have em : (m + 1) * (nst t + 1) = m * (nst t + 1) + (nst t + 1) := Nat.succ_mul m (nst t + 1)
    refine ⟨by omega, by omega, by omega, fun s hs => ?_⟩
    rcases List.mem_append.1 hs with hs | hs
    · have := ih.2.2.2 s hs; omega
    · have := List.mem_singleton.1 hs; omega
end Go.Proofs.Ythmkjdpmpcjinaa
