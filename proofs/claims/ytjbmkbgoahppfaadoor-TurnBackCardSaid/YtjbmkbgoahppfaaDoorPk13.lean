/-
  What stands between braces: the code cuts it at the closing brace and at the comma, the reference goes digit by digit: the same. Tokens as values, and as blocks of memory; lex's repeat. The walk of lex's bounds.
  The walk of lex's set. The walk of lex's token.
  Lists of tokens; the walk of the third reference's Same at two that read alike.
  Tokens: what begins at a place, and rows of them. Rows of tokens: as lists, and as memory. Rows of tokens: each token's bytes, alone, are that token; two rows, one behind the other, are the row of both.
  Sets as patterns have them, as lists of bytes; what they are as tokens, wherever they stand in a text. Plain facts.
  The walks of show's in, digit, end, alone.
  The walks of slices.Grow (of nil) and slices.Concat, over runes.
  The walk of show's run.
-/
import Derived.Test.YtjbmkbgoahppfaaDoorPk12
import Derived.Test.YtjbmkbgoahppfaaDoorPk6
import Derived.Deep.Cut
import Derived.Test.YtjbmkbgoahppfaaDoorPk1
import Derived.Test.YtjbmkbgoahppfaaDoorPk3
import Derived.Lib.AppendZeros
import Derived.BigQuiet
import Derived.Deep.QuietTactic
import Derived.Deep.RegionHeldLaw
namespace Go.Proofs.YtjbmkbgoahppfaaDoor
open Go.RowKit

/-- A text cut at the first of a byte. -/
theorem cut_byte (s : ByteArray) (a : UInt8) :
    (∃ i, i < s.size ∧ gb s i = a.toNat ∧ (∀ x, x < i → gb s x ≠ a.toNat) ∧ cutIs s ⟨#[a]⟩ (s.extract 0 i) (s.extract (i + 1) s.size) true) ∨ ((∀ x, gb s x ≠ a.toNat) ∧ cutIs s ⟨#[a]⟩ s ByteArray.empty false) := by
  have ha := UInt8.toNat_lt a
  cases hf : (List.range s.size).find? fun i => gb s i == a.toNat with
  | some i =>
    rw [List.find?_range_eq_some] at hf
    obtain ⟨h1, h2, h3⟩ := hf
    have h2' : i < s.size := by simpa using h2
    have h1' : gb s i = a.toNat := by simpa using h1
    have h3' : ∀ x, x < i → gb s x ≠ a.toNat := fun x hx => by have := h3 x hx; simpa using this
    refine .inl ⟨i, h2', h1', h3', cut_some s ⟨#[a]⟩ i ?_⟩
    refine Lib.index_first (i := i) ?_ ?_ ?_
    · have : s.data.toList.length = s.size := by simp
      omega
    · show Lib.occAt s.data.toList [a] i = true
      rw [occ_one, h1']; simp
    · intro x hx
      show Lib.occAt s.data.toList [a] x = false
      rw [occ_one]
      exact beq_eq_false_iff_ne.2 (h3' x hx)
  | none =>
    rw [List.find?_range_eq_none] at hf
    have h3' : ∀ x, gb s x ≠ a.toNat := fun x => by
      rcases Nat.lt_or_ge x s.size with h | h
      · have := hf x h; simpa using this
      · rw [gb_out h]; omega
    refine .inr ⟨h3', cut_none s ⟨#[a]⟩ (Lib.index_none fun x _ => ?_)⟩
    show Lib.occAt s.data.toList [a] x = false
    rw [occ_one]
    exact beq_eq_false_iff_ne.2 (h3' x)

theorem it_tab : ∀ v, v < 33 → ((itB v).size = 1 ∧ v < 10 ∧ gb (itB v) 0 = 48 + v) ∨ ((itB v).size = 2 ∧ 10 ≤ v ∧ gb (itB v) 0 = 48 + v / 10 ∧ gb (itB v) 1 = 48 + v % 10) := by decide +kernel
theorem it_inj : ∀ v, v < 33 → ∀ u, u < v → ((itB v).toList == (itB u).toList) = false := by decide +kernel
theorem nm_of {s : ByteArray} {v : Nat} (hv : v < 33) (h : s = itB v) : nmO s = true ∧ nmV s = v := by
  have := numS_some (s := s) hv (by rw [h]; simp) (fun j hj => by rw [h]; exact it_inj v hv j hj)
  unfold nmO nmV
  rw [this]
  exact ⟨rfl, rfl⟩
theorem nm_ex {s : ByteArray} (h : nmO s = true) : ∃ v, v < 33 ∧ s = itB v ∧ nmV s = v := by
  unfold nmO at h
  unfold nmV
  cases hn : numS s with
  | none => rw [hn] at h; cases h
  | some v =>
    have hn' := hn
    unfold numS at hn'
    rw [List.find?_range_eq_some] at hn'
    obtain ⟨h1, h2, _⟩ := hn'
    have e : s.toList = (itB v).toList := by simpa using h1
    rw [toList_data, toList_data] at e
    have hd : s.data = (itB v).data := Array.toList_inj.1 e
    have hs : s = itB v := by cases s; cases hi : itB v; rw [hi] at hd; cases hd; rfl
    exact ⟨v, by simpa using h2, hs, rfl⟩
theorem isD_gb {p : ByteArray} {j : Nat} : isD p j = true ↔ 48 ≤ gb p j ∧ gb p j ≤ 57 := by unfold isD; simp
theorem isD_not {p : ByteArray} {j : Nat} : isD p j = false ↔ ¬ (48 ≤ gb p j ∧ gb p j ≤ 57) := by rw [← isD_gb]; cases isD p j <;> simp
theorem num_digits {p : ByteArray} {k : Nat} (h : 0 ≤ numF p k) : k < numN p k ∧ numN p k ≤ k + 2 ∧ ∀ x, k ≤ x → x < numN p k → isD p x = true := by
  unfold numF at h
  unfold numN
  cases h0 : isD p k
  · rw [h0] at h; simp at h
  · rw [h0] at h
    cases h1 : isD p (k + 1)
    · simp only [if_true, Bool.false_eq_true, if_false]
      exact ⟨by omega, by omega, fun x a b => by rw [show x = k by omega]; exact h0⟩
    · rw [h1] at h
      cases h2 : isD p (k + 2)
      · simp only [if_true, Bool.false_eq_true, if_false]
        refine ⟨by omega, by omega, fun x a b => ?_⟩
        rcases Nat.lt_or_ge x (k + 1) with h3 | h3
        · rw [show x = k by omega]; exact h0
        · rw [show x = k + 1 by omega]; exact h1
      · rw [h2] at h; simp at h
theorem num_eq {p : ByteArray} {k j : Nat} (hkj : k ≤ j) (hj : j ≤ p.size) (hd : isD p j = false) :
    (nmO (p.extract k j) = true → numF p k = (nmV (p.extract k j) : Nat) ∧ numN p k = j) ∧ (0 ≤ numF p k → numN p k = j → nmO (p.extract k j) = true) := by
  have hsz : (p.extract k j).size = j - k := by simp; omega
  have hg : ∀ i, i < j - k → gb (p.extract k j) i = gb p (k + i) := fun i hi => by rw [gb_extract, if_pos (by omega)]
  constructor
  · intro h
    obtain ⟨v, hv, hs, hnv⟩ := nm_ex h
    rw [hnv]
    rcases it_tab v hv with ⟨t1, t2, t3⟩ | ⟨t1, t2, t3, t4⟩
    · rw [← hs] at t1 t3
      have hj1 : j = k + 1 := by omega
      rw [hg 0 (by omega), Nat.add_zero] at t3
      subst hj1
      have d0 : isD p k = true := isD_gb.2 (by omega)
      unfold numF numN dv
      rw [d0, hd, t3]
      simp only [if_true, Bool.false_eq_true, if_false]
      exact ⟨by omega, trivial⟩
    · rw [← hs] at t1 t3 t4
      have hj1 : j = k + 2 := by omega
      rw [hg 0 (by omega), Nat.add_zero] at t3
      rw [hg 1 (by omega)] at t4
      subst hj1
      have d0 : isD p k = true := isD_gb.2 (by omega)
      have d1 : isD p (k + 1) = true := isD_gb.2 (by omega)
      unfold numF numN dv
      rw [d0, d1, hd, t3, t4]
      simp only [if_true, Bool.false_eq_true, if_false]
      rw [if_neg (by omega)]
      exact ⟨by omega, trivial⟩
  · intro h hn
    obtain ⟨c1, c2, c3⟩ := num_digits h
    rw [hn] at c1 c2 c3
    have d0 := isD_gb.1 (c3 k (Nat.le_refl _) c1)
    rcases Nat.lt_or_ge j (k + 2) with h2 | h2
    · have hj1 : j = k + 1 := by omega
      have hv : gb p k - 48 < 33 := by omega
      refine (nm_of hv (eq_of_gb fun i => ?_)).1
      rcases it_tab _ hv with ⟨t1, t2, t3⟩ | ⟨t1, t2, t3, t4⟩
      · by_cases hi : i = 0
        · rw [hi, hg 0 (by omega), t3]; show gb p k = _; omega
        · rw [gb_out (by omega), gb_out (by omega)]
      · omega
    · have hj1 : j = k + 2 := by omega
      have d1 := isD_gb.1 (c3 (k + 1) (by omega) (by omega))
      unfold numF dv at h
      rw [isD_gb.2 d0, isD_gb.2 d1, if_pos rfl, if_pos rfl] at h
      rw [← hj1, hd, if_neg (by decide)] at h
      by_cases hb : gb p k - 48 = 0 ∨ 32 < (gb p k - 48) * 10 + (gb p (k + 1) - 48)
      · rw [if_pos hb] at h; omega
      · have hv : (gb p k - 48) * 10 + (gb p (k + 1) - 48) < 33 := by omega
        refine (nm_of hv (eq_of_gb fun i => ?_)).1
        rcases it_tab _ hv with ⟨t1, t2, t3⟩ | ⟨t1, t2, t3, t4⟩
        · omega
        · by_cases hi : i = 0
          · rw [hi, hg 0 (by omega), t3]; show gb p k = _; omega
          · by_cases hi1 : i = 1
            · rw [hi1, hg 1 (by omega), t4]; omega
            · rw [gb_out (by omega), gb_out (by omega)]

/-- What the code answers, of what it cut. -/
def bdV (inside first second : ByteArray) (closed comma : Bool) : Int × Int × Nat :=
  if closed = true ∧ nmO first = true then
    if second.size = 0 then ((nmV first : Nat), (if comma = true then -1 else (nmV first : Nat)), inside.size + 2)
    else if nmO second = true ∧ nmV first ≤ nmV second then ((nmV first : Nat), (nmV second : Nat), inside.size + 2) else (0, 0, 0)
  else (0, 0, 0)
theorem oft_eq (p : ByteArray) : oftF p 0 =
    if numF p 1 < 0 then (0, 0, 0)
    else if gb p (numN p 1) = 125 then (numF p 1, numF p 1, numN p 1 + 1)
    else if gb p (numN p 1) ≠ 44 then (0, 0, 0)
    else if gb p (numN p 1 + 1) = 125 then (numF p 1, -1, numN p 1 + 2)
    else if numF p (numN p 1 + 1) < numF p 1 ∨ gb p (numN p (numN p 1 + 1)) ≠ 125 then (0, 0, 0)
    else (numF p 1, numF p (numN p 1 + 1), numN p (numN p 1 + 1) + 1) := by
  unfold oftF
  rw [Nat.zero_add]
  by_cases h1 : numF p 1 < 0
  · rw [if_pos h1, if_pos h1]
  · rw [if_neg h1, if_neg h1]
    by_cases h2 : p.size ≤ numN p 1 + 1
    · have hd : isD p (numN p 1 + 1) = false := isD_not.2 (by rw [gb_out h2]; omega)
      have hm : numF p (numN p 1 + 1) = -1 := by unfold numF; rw [hd, if_neg (by decide)]
      rw [if_pos h2, hm]
      rw [if_pos (show (-1 : Int) < numF p 1 ∨ gb p (numN p (numN p 1 + 1)) ≠ 125 from .inl (by omega))]
    · rw [if_neg h2]
theorem oft_bad {p : ByteArray} (h : numF p 1 < 0 ∨ (gb p (numN p 1) ≠ 125 ∧ gb p (numN p 1) ≠ 44)) : oftF p 0 = (0, 0, 0) := by
  rw [oft_eq]
  by_cases h1 : numF p 1 < 0
  · rw [if_pos h1]
  · rw [if_neg h1]
    rcases h with h | ⟨h, h'⟩
    · exact absurd h h1
    · rw [if_neg h, if_pos h']
/-- The braces' text, cut, and what the reference makes of it. -/
theorem bnd_cut (p : ByteArray) (h0 : 1 ≤ p.size) : ∃ inside rest first second closed comma,
    cutIs (p.extract 1 p.size) ⟨#[125]⟩ inside rest closed ∧ cutIs inside ⟨#[44]⟩ first second comma ∧ inside.size ≤ p.size ∧ bdV inside first second closed comma = oftF p 0 := by
  rcases cut_byte (p.extract 1 p.size) 125 with ⟨i, hi, he, hno, hcut⟩ | ⟨hno, hcut⟩
  · -- the closing brace stands at i + 1
    have hsz : (p.extract 1 p.size).size = p.size - 1 := by simp
    rw [hsz] at hi
    have hin : (p.extract 1 p.size).extract 0 i = p.extract 1 (1 + i) := by
      rw [ByteArray.extract_extract]; congr 1; omega
    rw [hin] at hcut
    rw [gb_tail] at he
    have hno' : ∀ x, 1 ≤ x → x < 1 + i → gb p x ≠ 125 := fun x h1 h2 => by
      have := hno (x - 1) (by omega)
      rw [gb_tail, show 1 + (x - 1) = x by omega] at this
      exact this
    have he' : gb p (1 + i) = 125 := he
    have isz : (p.extract 1 (1 + i)).size = i := by simp; omega
    have gin : ∀ x, x < i → gb (p.extract 1 (1 + i)) x = gb p (1 + x) := fun x hx => by rw [gb_extract, if_pos (by omega)]
    rcases cut_byte (p.extract 1 (1 + i)) 44 with ⟨c, hc, hce, hcno, hcut2⟩ | ⟨hcno, hcut2⟩
    · rw [isz] at hc
      have hfi : (p.extract 1 (1 + i)).extract 0 c = p.extract 1 (1 + c) := by
        rw [ByteArray.extract_extract]; congr 1; omega
      have hse : (p.extract 1 (1 + i)).extract (c + 1) (p.extract 1 (1 + i)).size = p.extract (1 + c + 1) (1 + i) := by
        rw [ByteArray.extract_extract, isz]; congr 1; omega
      rw [hfi, hse] at hcut2
      rw [gin c hc] at hce
      have hce' : gb p (1 + c) = 44 := hce
      have hcno' : ∀ x, 1 ≤ x → x < 1 + c → gb p x ≠ 44 := fun x h1 h2 => by
        have := hcno (x - 1) (by omega)
        rw [gin (x - 1) (by omega), show 1 + (x - 1) = x by omega] at this
        exact this
      refine ⟨_, _, _, _, _, _, hcut, hcut2, by omega, ?_⟩
      have ssz : (p.extract (1 + c + 1) (1 + i)).size = i - c - 1 := by simp; omega
      obtain ⟨n1, n2⟩ := num_eq (p := p) (k := 1) (j := 1 + c) (by omega) (by omega) (isD_not.2 (by omega))
      unfold bdV
      cases hf : nmO (p.extract 1 (1 + c))
      · rw [if_neg (by simp)]
        symm
        apply oft_bad
        rcases Int.lt_or_le (numF p 1) 0 with h | h
        · exact .inl h
        · right
          obtain ⟨d1, d2, d3⟩ := num_digits h
          have hlt : ¬ 1 + c < numN p 1 := fun h' => by have := isD_gb.1 (d3 (1 + c) (by omega) h'); omega
          have hne : numN p 1 ≠ 1 + c := fun h' => by have := n2 h h'; rw [hf] at this; cases this
          exact ⟨hno' _ (by omega) (by omega), hcno' _ (by omega) (by omega)⟩
      · rw [if_pos ⟨rfl, rfl⟩]
        obtain ⟨m1, m2⟩ := n1 hf
        have hO : oftF p 0 = if gb p (1 + c + 1) = 125 then (numF p 1, -1, 1 + c + 2) else if numF p (1 + c + 1) < numF p 1 ∨ gb p (numN p (1 + c + 1)) ≠ 125 then (0, 0, 0) else (numF p 1, numF p (1 + c + 1), numN p (1 + c + 1) + 1) := by
          rw [oft_eq, if_neg (by omega), m2, hce', if_neg (by decide), if_neg (by decide)]
        rw [hO, ssz]
        by_cases hz : i - c - 1 = 0
        · rw [if_pos hz, if_pos (show gb p (1 + c + 1) = 125 by rw [show 1 + c + 1 = 1 + i by omega]; exact he'), m1, if_pos rfl, isz, show 1 + c + 2 = i + 2 by omega]
        · rw [if_neg hz, if_neg (show ¬ gb p (1 + c + 1) = 125 from hno' _ (by omega) (by omega))]
          obtain ⟨s1, s2⟩ := num_eq (p := p) (k := 1 + c + 1) (j := 1 + i) (by omega) (by omega) (isD_not.2 (by omega))
          cases hg : nmO (p.extract (1 + c + 1) (1 + i))
          · rw [if_neg (by simp)]
            rcases Int.lt_or_le (numF p (1 + c + 1)) 0 with h | h
            · rw [if_pos (.inl (by omega))]
            · have hne : gb p (numN p (1 + c + 1)) ≠ 125 := fun h' => by
                obtain ⟨d1, d2, d3⟩ := num_digits h
                have hlt : ¬ 1 + i < numN p (1 + c + 1) := fun h' => by have := isD_gb.1 (d3 (1 + i) (by omega) h'); omega
                have hge : ¬ numN p (1 + c + 1) < 1 + i := fun h2 => hno' _ (by omega) h2 h'
                have := s2 h (by omega)
                rw [hg] at this; cases this
              rw [if_pos (.inr hne)]
          · obtain ⟨r1, r2⟩ := s1 hg
            rw [r2, he', r1, m1]
            by_cases hle : nmV (p.extract 1 (1 + c)) ≤ nmV (p.extract (1 + c + 1) (1 + i))
            · rw [if_pos ⟨rfl, hle⟩, if_neg (by omega), isz, show 1 + i + 1 = i + 2 by omega]
            · rw [if_neg (fun h => hle h.2), if_pos (.inl (by omega))]
    · refine ⟨_, _, _, _, _, _, hcut, hcut2, by omega, ?_⟩
      have hcno' : ∀ x, 1 ≤ x → x < 1 + i → gb p x ≠ 44 := fun x h1 h2 => by
        have := hcno (x - 1)
        rw [gin (x - 1) (by omega), show 1 + (x - 1) = x by omega] at this
        exact this
      obtain ⟨n1, n2⟩ := num_eq (p := p) (k := 1) (j := 1 + i) (by omega) (by omega) (isD_not.2 (by omega))
      unfold bdV
      cases hf : nmO (p.extract 1 (1 + i))
      · rw [if_neg (by simp)]
        symm
        apply oft_bad
        rcases Int.lt_or_le (numF p 1) 0 with h | h
        · exact .inl h
        · right
          obtain ⟨d1, d2, d3⟩ := num_digits h
          have hlt : ¬ 1 + i < numN p 1 := fun h' => by have := isD_gb.1 (d3 (1 + i) (by omega) h'); omega
          have hne : numN p 1 ≠ 1 + i := fun h' => by have := n2 h h'; rw [hf] at this; cases this
          exact ⟨hno' _ (by omega) (by omega), hcno' _ (by omega) (by omega)⟩
      · obtain ⟨m1, m2⟩ := n1 hf
        have hO : oftF p 0 = (numF p 1, numF p 1, 1 + i + 1) := by rw [oft_eq, if_neg (by omega), m2, if_pos he']
        rw [if_pos ⟨rfl, rfl⟩, hO, m1, if_neg (show ¬ false = true by decide), isz, show 1 + i + 1 = i + 2 by omega]
        exact if_pos rfl
  · have hno' : ∀ x, 1 ≤ x → gb p x ≠ 125 := fun x h1 => by
      have := hno (x - 1)
      rw [gb_tail, show 1 + (x - 1) = x by omega] at this
      exact this
    have fin : ∀ first second comma, bdV (p.extract 1 p.size) first second false comma = oftF p 0 := fun first second comma => by
      unfold bdV
      rw [oft_eq, if_neg (by simp)]
      by_cases h1 : numF p 1 < 0
      · rw [if_pos h1]
      · have h1' : 0 ≤ numF p 1 := by omega
        obtain ⟨d1, d2, d3⟩ := num_digits h1'
        rw [if_neg h1, if_neg (hno' _ (by omega))]
        by_cases h2 : gb p (numN p 1) ≠ 44
        · rw [if_pos h2]
        · rw [if_neg h2, if_neg (hno' _ (by omega))]
          rcases Int.lt_or_le (numF p (numN p 1 + 1)) 0 with h | h
          · rw [if_pos (.inl (by omega))]
          · obtain ⟨d1', _, _⟩ := num_digits h
            rw [if_pos (.inr (hno' _ (by omega)))]
    rcases cut_byte (p.extract 1 p.size) 44 with ⟨c, hc, hce, hcno, hcut2⟩ | ⟨hcno, hcut2⟩
    · exact ⟨_, _, _, _, _, _, hcut, hcut2, by simp, fin _ _ _⟩
    · exact ⟨_, _, _, _, _, _, hcut, hcut2, by simp, fin _ _ _⟩
end Go.Proofs.YtjbmkbgoahppfaaDoor

namespace Go.Proofs.YtjbmkbgoahppfaaDoor
open Go.RowKit

/-- A token as a value. -/
@[reducible] def tkv (k a : Int) (f : Nat → Bool) (lo hi : Int) : Value := .agg #[.int .i64 k, .int .i64 a, .int .u64 (wd f 0 : Int), .int .u64 (wd f 1 : Int), .int .u64 (wd f 2 : Int), .int .u64 (wd f 3 : Int), .int .i64 lo, .int .i64 hi]
/-- Eight cells stored. -/
def set8 (w : World) (c : Nat) (k a : Int) (f : Nat → Bool) (lo hi : Int) : World := ((((((((w.setCell ⟨c, 0, none⟩ (.int .i64 k)).setCell ⟨c, 1, none⟩ (.int .i64 a)).setCell ⟨c, 2, none⟩ (.int .u64 (wd f 0 : Int))).setCell ⟨c, 3, none⟩ (.int .u64 (wd f 1 : Int))).setCell ⟨c, 4, none⟩ (.int .u64 (wd f 2 : Int))).setCell ⟨c, 5, none⟩ (.int .u64 (wd f 3 : Int))).setCell ⟨c, 6, none⟩ (.int .i64 lo)).setCell ⟨c, 7, none⟩ (.int .i64 hi))
theorem below_set8 {B : Nat} {x w : World} {c : Nat} (h : Below B x w) (hc : B ≤ c) (k a : Int) (f : Nat → Bool) (lo hi : Int) : Below B x (set8 w c k a f lo hi) :=
  (((((((h.setCell hc _).setCell hc _).setCell hc _).setCell hc _).setCell hc _).setCell hc _).setCell hc _).setCell hc _

theorem tkv_none (k a lo hi : Int) : tkv k a (fun _ => false) lo hi = .agg #[.int .i64 k, .int .i64 a, .int .u64 0, .int .u64 0, .int .u64 0, .int .u64 0, .int .i64 lo, .int .i64 hi] := by
  simp only [tkv, none_wd]; rfl
end Go.Proofs.YtjbmkbgoahppfaaDoor

namespace Go.Proofs.YtjbmkbgoahppfaaDoor
open Go.RowKit

/-- What bounds answers. -/
def bdPost (p : ByteArray) (w : World) (e : Ending) (w' : World) : Prop :=
  e = .returned (.tuple #[tkv (if (oftF p 0).2.2 = 0 then 0 else 5) 0 (fun _ => false) (oftF p 0).1 (oftF p 0).2.1, .int .i64 ((oftF p 0).2.2 : Nat)]) ∧ Below w.heap.size w w'
theorem bdPost.bad {p : ByteArray} {w w' : World} (h : oftF p 0 = (0, 0, 0)) (hb : Below w.heap.size w w') : bdPost p w (.returned (.tuple #[.agg #[.int .i64 0, .int .i64 0, .int .u64 0, .int .u64 0, .int .u64 0, .int .u64 0, .int .i64 0, .int .i64 0], .int .i64 0])) w' := by
  unfold bdPost
  rw [h]
  exact ⟨by rw [if_pos rfl, tkv_none]; rfl, hb⟩
theorem bdPost.good {p : ByteArray} {w w' : World} {lo hi : Int} {n : Nat} {x : Int} (h : oftF p 0 = (lo, hi, n)) (hn : n ≠ 0) (hx : x = (n : Nat)) (hb : Below w.heap.size w w') : bdPost p w (.returned (.tuple #[.agg #[.int .i64 5, .int .i64 0, .int .u64 0, .int .u64 0, .int .u64 0, .int .u64 0, .int .i64 lo, .int .i64 hi], .int .i64 x])) w' := by
  unfold bdPost
  rw [h]
  exact ⟨by rw [if_neg hn, tkv_none, hx], hb⟩
theorem emp_of {s : ByteArray} (h : s.size = 0) : s.toList.isEmpty = true := by
  rw [toList_data]
  have : s.data.toList.length = 0 := by simpa using h
  rw [List.length_eq_zero_iff.1 this]; rfl
theorem emp_not {s : ByteArray} (h : s.size ≠ 0) : s.toList.isEmpty = false := by
  rw [toList_data]
  have : s.data.toList.length ≠ 0 := by simpa using h
  cases hl : s.data.toList with
  | nil => rw [hl] at this; exact absurd rfl this
  | cons a l => rfl
theorem nmV_le (s : ByteArray) : nmV s ≤ 32 := by
  cases ho : nmO s
  · unfold nmO at ho
    unfold nmV
    cases hn : numS s with
    | none => simp
    | some v => rw [hn] at ho; cases ho
  · obtain ⟨v, h1, h2, h3⟩ := nm_ex ho
    omega

end Go.Proofs.YtjbmkbgoahppfaaDoor

namespace Go.Proofs.YtjbmkbgoahppfaaDoor
open Go.RowKit

/-- The set that a text begins with, of no other kind. -/
def stF (p : ByteArray) : Nat → Bool := if gb p 0 = 46 then dotF else if gb p 0 = 92 then esF p else if gb p 0 = 91 then brF p else oneR (gb p 0)
def stN (p : ByteArray) : Nat := if gb p 0 = 46 then 1 else if gb p 0 = 92 then esN p else if gb p 0 = 91 then brN p else 1

end Go.Proofs.YtjbmkbgoahppfaaDoor

namespace Go.Proofs.YtjbmkbgoahppfaaDoor
open Go.RowKit

/-- The bytes that are tokens by themselves: kind, and how often. -/
def tkSign (c : Nat) : Option (Int × Int × Int) :=
  if c = 124 then some (2, 0, 0) else if c = 40 then some (3, 0, 0) else if c = 41 then some (4, 0, 0) else if c = 94 then some (6, 0, 0) else if c = 36 then some (7, 0, 0)
  else if c = 42 then some (5, 0, -1) else if c = 43 then some (5, 1, -1) else if c = 63 then some (5, 0, 1) else none
/-- What the code answers of a text that is not empty. -/
def ct (p : ByteArray) : (Int × (Nat → Bool) × Int × Int) × Nat := match tkSign (gb p 0) with
  | some (a, lo, hi) => ((a, (fun _ => false), lo, hi), 1)
  | none => if gb p 0 = 123 then ((if (oftF p 0).2.2 = 0 then 0 else 5, (fun _ => false), (oftF p 0).1, (oftF p 0).2.1), (oftF p 0).2.2) else ((1, stF p, 0, 0), stN p)
def tokPost (r : (Int × (Nat → Bool) × Int × Int) × Nat) (w : World) (e : Ending) (w' : World) : Prop :=
  e = .returned (.tuple #[tkv r.1.1 0 r.1.2.1 r.1.2.2.1 r.1.2.2.2, .int .i64 (r.2 : Nat)]) ∧ Below w.heap.size w w'
theorem tokPost.sign {p : ByteArray} {w w' : World} {a lo hi : Int} (h : tkSign (gb p 0) = some (a, lo, hi)) (hb : Below w.heap.size w w') : tokPost (ct p) w (.returned (.tuple #[.agg #[.int .i64 a, .int .i64 0, .int .u64 0, .int .u64 0, .int .u64 0, .int .u64 0, .int .i64 lo, .int .i64 hi], .int .i64 1])) w' := by
  unfold tokPost ct
  rw [h]
  exact ⟨by rw [tkv_none]; rfl, hb⟩

end Go.Proofs.YtjbmkbgoahppfaaDoor

namespace Go.Proofs.YtjbmkbgoahppfaaDoor
open Go.RowKit

/-- A token's cells at a place. -/
def tokAt (w : World) (b o : Nat) (r : Int × Int × (Nat → Bool) × Int × Int) : Prop := w.cell? ⟨b, o, none⟩ = some (.int .i64 r.1) ∧ w.cell? ⟨b, o + 1, none⟩ = some (.int .i64 r.2.1) ∧ w.cell? ⟨b, o + 2, none⟩ = some (.int .u64 (wd r.2.2.1 0 : Int)) ∧ w.cell? ⟨b, o + 3, none⟩ = some (.int .u64 (wd r.2.2.1 1 : Int)) ∧ w.cell? ⟨b, o + 4, none⟩ = some (.int .u64 (wd r.2.2.1 2 : Int)) ∧ w.cell? ⟨b, o + 5, none⟩ = some (.int .u64 (wd r.2.2.1 3 : Int)) ∧ w.cell? ⟨b, o + 6, none⟩ = some (.int .i64 r.2.2.2.1) ∧ w.cell? ⟨b, o + 7, none⟩ = some (.int .i64 r.2.2.2.2)
theorem tokAt.below {w w' : World} {b o B : Nat} {r : Int × Int × (Nat → Bool) × Int × Int} (h : tokAt w b o r) (hb : Below B w w') (hB : b < B) : tokAt w' b o r := by
  have c : ∀ x, w'.cell? ⟨b, x, none⟩ = w.cell? ⟨b, x, none⟩ := fun x => hb.cell (p := ⟨b, x, none⟩) hB
  unfold tokAt at h ⊢
  simp only [c]
  exact h
/-- A slice that reads as a list of tokens. -/
def rdT (w : World) (v : Value) (l : List (Int × Int × (Nat → Bool) × Int × Int)) : Prop :=
  (v = .slice none 0 0 ∧ l = []) ∨ ∃ b off cap, v = .slice (some ⟨b, off, none⟩) l.length cap ∧ b < w.heap.size ∧ ∀ j (h : j < l.length), tokAt w b (off + j * 8) l[j]
theorem rdT_below {w w' : World} {v : Value} {l : List (Int × Int × (Nat → Bool) × Int × Int)} {B : Nat} (h : rdT w v l) (hb : Below B w w') (hB : w.heap.size ≤ B) : rdT w' v l := by
  rcases h with h | ⟨b, off, cap, rfl, hl, hc⟩
  · exact .inl h
  · exact .inr ⟨b, off, cap, rfl, Nat.lt_of_lt_of_le hl hb.size, fun j hj => (hc j hj).below hb (by omega)⟩

end Go.Proofs.YtjbmkbgoahppfaaDoor

namespace Go.Proofs.YtjbmkbgoahppfaaDoor
open Go.RowKit

abbrev Tk := Int × (Nat → Bool) × Int × Int
/-- The token that begins at a place, and where it ends. -/
def tk (p : ByteArray) (k : Nat) : Option (Tk × Nat) := match tkSign (gb p k) with
  | some (a, lo, hi) => some ((a, (fun _ => false), lo, hi), k + 1)
  | none =>
    if gb p k = 123 then (if (oftF p k).2.2 = 0 then none else some ((5, (fun _ => false), (oftF p k).1, (oftF p k).2.1), (oftF p k).2.2))
    else if gb p k = 91 then (brk p k).map fun r => ((1, r.1, 0, 0), r.2)
    else if gb p k = 92 then (if behOk p k = true then some ((1, behF p k, 0, 0), behN p k) else none)
    else if gb p k = 46 then some ((1, dotF, 0, 0), k + 1)
    else some ((1, oneR (gb p k), 0, 0), k + 1)

theorem num_pre {p p' : ByteArray} {k k' m : Nat} (h : alike p k p' k' m) (h0 : 0 ≤ numF p k) (hm : numN p k < k + m) : numF p' k' = numF p k ∧ numN p' k' + k = numN p k + k' := by
  obtain ⟨d1, d2, d3⟩ := num_digits h0
  have e : ∀ i, i < m → isD p' (k' + i) = isD p (k + i) := fun i hi => by unfold isD; rw [h i hi]
  have a0 := e 0 (by omega)
  have a1 := e 1 (by omega)
  have g0 := h 0 (by omega)
  have g1 := h 1 (by omega)
  rw [Nat.add_zero, Nat.add_zero] at a0 g0
  have hd0 := d3 k (Nat.le_refl _) d1
  unfold numF numN dv
  unfold numN at hm
  rw [a0, a1, ← g0, ← g1, hd0]
  rw [hd0] at hm
  cases h1 : isD p (k + 1)
  · simp only [if_true, Bool.false_eq_true, if_false]
    exact ⟨trivial, by omega⟩
  · rw [h1] at hm
    simp only [if_true] at hm ⊢
    cases h2 : isD p (k + 2)
    · rw [h2] at hm
      simp only [Bool.false_eq_true, if_false] at hm
      rw [e 2 (by omega), h2]
      simp only [Bool.false_eq_true, if_false]
      exact ⟨trivial, by omega⟩
    · rw [h2] at hm
      simp only [if_true] at hm
      rw [e 2 (by omega), h2]
      simp only [if_true]
      exact ⟨trivial, by omega⟩
theorem oft_eqk (p : ByteArray) (k : Nat) : oftF p k =
    if numF p (k + 1) < 0 then (0, 0, 0)
    else if gb p (numN p (k + 1)) = 125 then (numF p (k + 1), numF p (k + 1), numN p (k + 1) + 1)
    else if gb p (numN p (k + 1)) ≠ 44 then (0, 0, 0)
    else if gb p (numN p (k + 1) + 1) = 125 then (numF p (k + 1), -1, numN p (k + 1) + 2)
    else if numF p (numN p (k + 1) + 1) < numF p (k + 1) ∨ gb p (numN p (numN p (k + 1) + 1)) ≠ 125 then (0, 0, 0)
    else (numF p (k + 1), numF p (numN p (k + 1) + 1), numN p (numN p (k + 1) + 1) + 1) := by
  unfold oftF
  by_cases h1 : numF p (k + 1) < 0
  · rw [if_pos h1, if_pos h1]
  · rw [if_neg h1, if_neg h1]
    by_cases h2 : p.size ≤ numN p (k + 1) + 1
    · have hd : isD p (numN p (k + 1) + 1) = false := isD_not.2 (by rw [gb_out h2]; omega)
      have hm : numF p (numN p (k + 1) + 1) = -1 := by unfold numF; rw [hd, if_neg (by decide)]
      rw [if_pos h2, hm]
      rw [if_pos (show (-1 : Int) < numF p (k + 1) ∨ gb p (numN p (numN p (k + 1) + 1)) ≠ 125 from .inl (by omega))]
    · rw [if_neg h2]
theorem oft_pre {p p' : ByteArray} {k k' m : Nat} (h : alike p k p' k' m) (h0 : (oftF p k).2.2 ≠ 0) (hm : (oftF p k).2.2 ≤ k + m) :
    oftF p' k' = ((oftF p k).1, (oftF p k).2.1, (oftF p k).2.2 - k + k') ∧ k + 3 ≤ (oftF p k).2.2 ∧ (oftF p k).2.2 ≤ p.size := by
  have gj : ∀ x, k ≤ x → x < k + m → gb p' (x - k + k') = gb p x := fun x hx hx2 => by
    have := h (x - k) (by omega)
    rw [show k + (x - k) = x by omega, show k' + (x - k) = x - k + k' by omega] at this
    exact this.symm
  rw [oft_eqk p k] at h0 hm ⊢
  rw [oft_eqk p' k']
  by_cases c1 : numF p (k + 1) < 0
  · rw [if_pos c1] at h0; exact absurd rfl h0
  rw [if_neg c1] at h0 hm ⊢
  obtain ⟨d1, d2, d3⟩ := num_digits (show 0 ≤ numF p (k + 1) by omega)
  by_cases c2 : gb p (numN p (k + 1)) = 125
  · rw [if_pos c2] at h0 hm ⊢
    have hm' : numN p (k + 1) + 1 ≤ k + m := hm
    have hal := h.from (j := 1) (by omega)
    obtain ⟨n1, n2⟩ := num_pre hal (by omega) (by omega)
    have hs := (gb_lt_iff p (numN p (k + 1))).1 (by omega)
    have g := gj (numN p (k + 1)) (by omega) (by omega)
    rw [show numN p (k + 1) - k + k' = numN p' (k' + 1) by omega] at g
    rw [n1, if_neg c1, g, if_pos c2]
    refine ⟨?_, by show k + 3 ≤ numN p (k + 1) + 1; omega, by show numN p (k + 1) + 1 ≤ p.size; omega⟩
    show (_, _, numN p' (k' + 1) + 1) = (_, _, numN p (k + 1) + 1 - k + k')
    rw [show numN p (k + 1) + 1 - k + k' = numN p' (k' + 1) + 1 by omega]
  rw [if_neg c2] at h0 hm ⊢
  by_cases c3 : gb p (numN p (k + 1)) ≠ 44
  · rw [if_pos c3] at h0; exact absurd rfl h0
  rw [if_neg c3] at h0 hm ⊢
  by_cases c4 : gb p (numN p (k + 1) + 1) = 125
  · rw [if_pos c4] at h0 hm ⊢
    have hm' : numN p (k + 1) + 2 ≤ k + m := hm
    have hal := h.from (j := 1) (by omega)
    obtain ⟨n1, n2⟩ := num_pre hal (by omega) (by omega)
    have hs := (gb_lt_iff p (numN p (k + 1) + 1)).1 (by omega)
    have g := gj (numN p (k + 1)) (by omega) (by omega)
    have g' := gj (numN p (k + 1) + 1) (by omega) (by omega)
    rw [show numN p (k + 1) - k + k' = numN p' (k' + 1) by omega] at g
    rw [show numN p (k + 1) + 1 - k + k' = numN p' (k' + 1) + 1 by omega] at g'
    rw [n1, if_neg c1, g, if_neg c2, if_neg c3, g', if_pos c4]
    refine ⟨?_, by show k + 3 ≤ numN p (k + 1) + 2; omega, by show numN p (k + 1) + 2 ≤ p.size; omega⟩
    show (_, _, numN p' (k' + 1) + 2) = (_, _, numN p (k + 1) + 2 - k + k')
    rw [show numN p (k + 1) + 2 - k + k' = numN p' (k' + 1) + 2 by omega]
  rw [if_neg c4] at h0 hm ⊢
  by_cases c5 : numF p (numN p (k + 1) + 1) < numF p (k + 1) ∨ gb p (numN p (numN p (k + 1) + 1)) ≠ 125
  · rw [if_pos c5] at h0; exact absurd rfl h0
  rw [if_neg c5] at h0 hm ⊢
  have hm' : numN p (numN p (k + 1) + 1) + 1 ≤ k + m := hm
  obtain ⟨e1, e2, e3⟩ := num_digits (show 0 ≤ numF p (numN p (k + 1) + 1) by omega)
  have hal := h.from (j := 1) (by omega)
  obtain ⟨n1, n2⟩ := num_pre hal (by omega) (by omega)
  have hal2 := h.from (j := numN p (k + 1) + 1 - k) (by omega)
  rw [show k + (numN p (k + 1) + 1 - k) = numN p (k + 1) + 1 by omega, show k' + (numN p (k + 1) + 1 - k) = numN p' (k' + 1) + 1 by omega] at hal2
  obtain ⟨n3, n4⟩ := num_pre hal2 (by omega) (by omega)
  have hs := (gb_lt_iff p (numN p (numN p (k + 1) + 1))).1 (by omega)
  have g := gj (numN p (k + 1)) (by omega) (by omega)
  have g' := gj (numN p (k + 1) + 1) (by omega) (by omega)
  have g'' := gj (numN p (numN p (k + 1) + 1)) (by omega) (by omega)
  rw [show numN p (k + 1) - k + k' = numN p' (k' + 1) by omega] at g
  rw [show numN p (k + 1) + 1 - k + k' = numN p' (k' + 1) + 1 by omega] at g'
  rw [show numN p (numN p (k + 1) + 1) - k + k' = numN p' (numN p' (k' + 1) + 1) by omega] at g''
  rw [n1, if_neg c1, g, if_neg c2, if_neg c3, g', if_neg c4, n3, g'', if_neg c5]
  refine ⟨?_, by show k + 3 ≤ numN p (numN p (k + 1) + 1) + 1; omega, by show numN p (numN p (k + 1) + 1) + 1 ≤ p.size; omega⟩
  show (_, _, numN p' (numN p' (k' + 1) + 1) + 1) = (_, _, numN p (numN p (k + 1) + 1) + 1 - k + k')
  rw [show numN p (numN p (k + 1) + 1) + 1 - k + k' = numN p' (numN p' (k' + 1) + 1) + 1 by omega]

theorem tk_pre {p p' : ByteArray} {k k' m : Nat} {r : Tk} {n : Nat} (h : alike p k p' k' m) (hk : k < p.size) (ht : tk p k = some (r, n)) (hn : n ≤ k + m) : tk p' k' = some (r, n - k + k') ∧ k + 1 ≤ n ∧ n ≤ p.size := by
  have key : ∀ (_ : 0 < m), gb p' k' = gb p k := fun h0 => (h.at0 h0).symm
  unfold tk at ht ⊢
  cases hs : tkSign (gb p k) with
  | some s =>
    obtain ⟨a, lo, hi⟩ := s
    rw [hs] at ht
    obtain ⟨e1, e2⟩ := Prod.mk.inj (Option.some.inj ht)
    subst e2
    rw [key (by omega), hs, ← e1, show k + 1 - k + k' = k' + 1 by omega]
    exact ⟨rfl, by omega, by omega⟩
  | none =>
    rw [hs] at ht
    simp only at ht
    by_cases c1 : gb p k = 123
    · rw [if_pos c1] at ht
      by_cases c2 : (oftF p k).2.2 = 0
      · rw [if_pos c2] at ht; cases ht
      · rw [if_neg c2] at ht
        obtain ⟨e1, e2⟩ := Prod.mk.inj (Option.some.inj ht)
        subst e2
        obtain ⟨o1, o2, o3⟩ := oft_pre h c2 hn
        rw [key (by omega), hs]
        simp only
        rw [if_pos c1, o1, if_neg (show ¬ (oftF p k).2.2 - k + k' = 0 by omega), ← e1]
        exact ⟨rfl, by omega, o3⟩
    · rw [if_neg c1] at ht
      by_cases c3 : gb p k = 91
      · rw [if_pos c3] at ht
        cases hb : brk p k with
        | none => rw [hb] at ht; cases ht
        | some b =>
          rw [hb] at ht
          obtain ⟨e1, e2⟩ := Prod.mk.inj (Option.some.inj ht)
          subst e2
          have := brk_end hb
          rw [key (by omega), hs]
          simp only
          rw [if_neg c1, if_pos c3, brk_pre h hb hn, ← e1]
          exact ⟨rfl, by omega, by omega⟩
      · rw [if_neg c3] at ht
        by_cases c4 : gb p k = 92
        · rw [if_pos c4] at ht
          cases hb : behOk p k
          · rw [hb, if_neg (by decide)] at ht; cases ht
          · rw [hb, if_pos rfl] at ht
            obtain ⟨e1, e2⟩ := Prod.mk.inj (Option.some.inj ht)
            subst e2
            obtain ⟨b1, b2, b3, b4⟩ := beh_pre h hb hn
            have hle : behN p k ≤ p.size := by
              have hso : sinOk p k = true := by unfold sinOk; rw [if_pos c4]; exact hb
              have := sin_le hk hso
              unfold sinN at this
              rw [if_pos c4] at this
              exact this
            rw [key (by omega), hs]
            simp only
            rw [if_neg c1, if_neg c3, if_pos c4, b1, if_pos rfl, b2, ← e1, show behN p k - k + k' = behN p' k' by omega]
            exact ⟨rfl, by omega, hle⟩
        · rw [if_neg c4] at ht
          by_cases c5 : gb p k = 46
          · rw [if_pos c5] at ht
            obtain ⟨e1, e2⟩ := Prod.mk.inj (Option.some.inj ht)
            subst e2
            rw [key (by omega), hs]
            simp only
            rw [if_neg c1, if_neg c3, if_neg c4, if_pos c5, ← e1, show k + 1 - k + k' = k' + 1 by omega]
            exact ⟨rfl, by omega, by omega⟩
          · rw [if_neg c5] at ht
            obtain ⟨e1, e2⟩ := Prod.mk.inj (Option.some.inj ht)
            subst e2
            rw [key (by omega), hs]
            simp only
            rw [if_neg c1, if_neg c3, if_neg c4, if_neg c5, ← e1, show k + 1 - k + k' = k' + 1 by omega]
            exact ⟨rfl, by omega, by omega⟩
theorem tk_end {p : ByteArray} {k : Nat} {r : Tk} {n : Nat} (hk : k < p.size) (ht : tk p k = some (r, n)) : k + 1 ≤ n ∧ n ≤ p.size :=
  (tk_pre (p' := p) (k' := k) (m := n) (fun _ _ => rfl) hk ht (by omega)).2
/-- The code's answer, in these words. -/
theorem ct_tk (q : ByteArray) (_h : 1 ≤ q.size) : (∀ r n, tk q 0 = some (r, n) → ct q = (r, n)) ∧ (tk q 0 = none → (ct q).2 = 0) := by
  unfold tk ct
  cases hs : tkSign (gb q 0) with
  | some s => exact ⟨fun r n h => by obtain ⟨e1, e2⟩ := Prod.mk.inj (Option.some.inj h); rw [← e1, ← e2], fun h => by cases h⟩
  | none =>
    simp only
    by_cases c1 : gb q 0 = 123
    · rw [if_pos c1, if_pos c1]
      by_cases c2 : (oftF q 0).2.2 = 0
      · rw [if_pos c2]; exact ⟨fun r n h => (by cases h), fun _ => c2⟩
      · rw [if_neg c2, if_neg c2]; exact ⟨fun r n h => by obtain ⟨e1, e2⟩ := Prod.mk.inj (Option.some.inj h); rw [← e1, ← e2], fun h => by cases h⟩
    · rw [if_neg c1, if_neg c1]
      unfold stF stN
      have fin : ∀ (x : Tk) (m : Nat), (∀ r n, some (x, m) = some (r, n) → (x, m) = (r, n)) ∧ ((some (x, m) : Option (Tk × Nat)) = none → (x, m).2 = 0) := fun x m => ⟨fun r n h => Option.some.inj h, fun h => by cases h⟩
      by_cases c3 : gb q 0 = 91
      · have n46 : ¬ gb q 0 = 46 := by omega
        have n92 : ¬ gb q 0 = 92 := by omega
        simp only [if_pos c3, if_neg n46, if_neg n92]
        unfold brF brN
        cases hb : brk q 0 with
        | none => exact ⟨fun r n h => (by cases h), fun _ => by trivial⟩
        | some b => exact fin _ _
      · by_cases c4 : gb q 0 = 92
        · have n46 : ¬ gb q 0 = 46 := by omega
          simp only [if_neg c3, if_pos c4, if_neg n46]
          unfold esF esN
          cases hb : behOk q 0
          · simp only [Bool.false_eq_true, if_false]; exact ⟨fun r n h => (by cases h), fun _ => by trivial⟩
          · simp only [if_true]; exact fin _ _
        · by_cases c5 : gb q 0 = 46
          · simp only [if_neg c3, if_neg c4, if_pos c5]; exact fin _ _
          · simp only [if_neg c3, if_neg c4, if_neg c5]; exact fin _ _
theorem ct_tail (p : ByteArray) (k : Nat) (hk : k < p.size) : (∀ r n, tk p k = some (r, n) → ct (p.extract k p.size) = (r, n - k)) ∧ (tk p k = none → (ct (p.extract k p.size)).2 = 0) := by
  have hq : 1 ≤ (p.extract k p.size).size := by simp; omega
  obtain ⟨c1, c2⟩ := ct_tk (p.extract k p.size) hq
  constructor
  · intro r n h
    have := (tk_pre (tail_alike p k n).symm hk h (by omega)).1
    rw [Nat.add_zero] at this
    exact c1 _ _ this
  · intro h
    cases ht : tk (p.extract k p.size) 0 with
    | none => exact c2 ht
    | some x =>
      obtain ⟨r, n⟩ := x
      have := (tk_pre (tail_alike p k n) (by omega) ht (by omega)).1
      rw [h] at this; cases this
end Go.Proofs.YtjbmkbgoahppfaaDoor

namespace Go.Proofs.YtjbmkbgoahppfaaDoor
open Go.RowKit

/-- A token with its place. -/
abbrev Tka := Int × Int × (Nat → Bool) × Int × Int
def tka (i : Nat) (r : Tk) : Tka := (r.1, (i : Int), r.2.1, r.2.2.1, r.2.2.2)
/-- Token by token: the row; or the place of the first that cannot be made. -/
def tksL (p : ByteArray) : Nat → Nat → List Tka → Option (List Tka) × Nat
  | 0, _, _ => (none, 0)
  | u + 1, i, acc => if p.size ≤ i then (some acc, 0) else match tk p i with | some (r, n) => tksL p u n (acc ++ [tka i r]) | none => (none, i)
def toks (p : ByteArray) : Option (List Tka) × Nat := tksL p (p.size + 1) 0 []
theorem tksL_end {p : ByteArray} {u i : Nat} {acc : List Tka} (h : p.size ≤ i) (hu : 0 < u) : tksL p u i acc = (some acc, 0) := by
  obtain ⟨v, rfl⟩ : ∃ v, u = v + 1 := ⟨u - 1, by omega⟩
  unfold tksL
  rw [if_pos h]
theorem tksL_step {p : ByteArray} {u i : Nat} {acc : List Tka} {r : Tk} {n : Nat} (h : i < p.size) (ht : tk p i = some (r, n)) : tksL p (u + 1) i acc = tksL p u n (acc ++ [tka i r]) := by
  conv => lhs; unfold tksL
  rw [if_neg (by omega), ht]
theorem tksL_bad {p : ByteArray} {u i : Nat} {acc : List Tka} (h : i < p.size) (ht : tk p i = none) (hu : 0 < u) : tksL p u i acc = (none, i) := by
  obtain ⟨v, rfl⟩ : ∃ v, u = v + 1 := ⟨u - 1, by omega⟩
  unfold tksL
  rw [if_neg (by omega), ht]

/-- A token's cells. -/
def tcs (r : Tka) : List Value := [.int .i64 r.1, .int .i64 r.2.1, .int .u64 (wd r.2.2.1 0 : Int), .int .u64 (wd r.2.2.1 1 : Int), .int .u64 (wd r.2.2.1 2 : Int), .int .u64 (wd r.2.2.1 3 : Int), .int .i64 r.2.2.2.1, .int .i64 r.2.2.2.2]
def tvs (l : List Tka) : List Value := l.flatMap tcs
theorem tvs_append (a b : List Tka) : tvs (a ++ b) = tvs a ++ tvs b := by simp [tvs]
theorem tvs_one (r : Tka) : tvs [r] = tcs r := by simp [tvs]
theorem tvs_get (l : List Tka) (j : Nat) (h : j < l.length) (x : Nat) (hx : x < 8) : (tvs l)[j * 8 + x]? = (tcs l[j])[x]? := by
  induction l generalizing j with
  | nil => simp at h
  | cons r l ih =>
    have e : tvs (r :: l) = tcs r ++ tvs l := rfl
    have e8 : (tcs r).length = 8 := rfl
    rw [e]
    cases j with
    | zero => rw [List.getElem?_append_left (by omega)]; simp
    | succ j =>
      rw [List.getElem?_append_right (by omega), e8, show (j + 1) * 8 + x - 8 = j * 8 + x by omega]
      exact ih j (by simpa using h)
theorem rdT_of_owns {w : World} {base : Nat} {e : TypeId} {v : Value} {l : List Tka} (h : w.ownsRow base e 8 v l.length (tvs l)) : rdT w v l := by
  have hlt := h.lt
  rcases h.2 with ⟨rfl, h0⟩ | ⟨g, cap, cur, rfl, _, _, _, _, _, _⟩
  · exact .inl ⟨rfl, List.length_eq_zero_iff.1 h0⟩
  · refine .inr ⟨g, 0, cap, rfl, (hlt g rfl).2, fun j hj => ?_⟩
    have c : ∀ x, x < 8 → ∀ v, (tcs l[j])[x]? = some v → w.cell? ⟨g, 0 + j * 8 + x, none⟩ = some v := fun x hx v hv => by
      rw [Nat.zero_add, h.cellAt (j * 8 + x) (by omega), tvs_get l j hj x hx]
      exact hv
    exact ⟨c 0 (by omega) _ rfl, c 1 (by omega) _ rfl, c 2 (by omega) _ rfl, c 3 (by omega) _ rfl, c 4 (by omega) _ rfl, c 5 (by omega) _ rfl, c 6 (by omega) _ rfl, c 7 (by omega) _ rfl⟩
end Go.Proofs.YtjbmkbgoahppfaaDoor

namespace Go.Proofs.YtjbmkbgoahppfaaDoor
open Go.RowKit

/-- A row of tokens that lie one behind the other, from a place to the text's end. -/
def chain (p : ByteArray) : List Tka → Nat → Prop
  | [], i => p.size ≤ i
  | t :: l, i => ∃ r n, tk p i = some (r, n) ∧ t = tka i r ∧ i < p.size ∧ chain p l n
theorem tksL_chain {p : ByteArray} : ∀ {u i : Nat} {acc l : List Tka} {m : Nat}, tksL p u i acc = (some l, m) → ∃ l', l = acc ++ l' ∧ chain p l' i ∧ m = 0
  | 0, i, acc, l, m, h => by cases h
  | u + 1, i, acc, l, m, h => by
    unfold tksL at h
    by_cases h1 : p.size ≤ i
    · rw [if_pos h1] at h
      obtain ⟨e1, e2⟩ := Prod.mk.inj h
      exact ⟨[], by rw [List.append_nil]; exact (Option.some.inj e1).symm, h1, e2.symm⟩
    · rw [if_neg h1] at h
      cases ht : tk p i with
      | none => rw [ht] at h; exact absurd (Prod.mk.inj h).1 (by simp)
      | some x =>
        obtain ⟨r, n⟩ := x
        rw [ht] at h
        obtain ⟨l', e1, e2, e3⟩ := tksL_chain h
        exact ⟨tka i r :: l', by rw [e1, List.append_assoc]; rfl, ⟨r, n, ht, rfl, by omega, e2⟩, e3⟩
theorem chain_tksL {p : ByteArray} : ∀ {l : List Tka} {i u : Nat} {acc : List Tka}, chain p l i → p.size + 1 ≤ u + i → 0 < u → tksL p u i acc = (some (acc ++ l), 0)
  | [], i, u, acc, h, _, h0 => by rw [tksL_end h h0, List.append_nil]
  | t :: l, i, u, acc, h, hu, h0 => by
    obtain ⟨r, n, ht, rfl, hi, hc⟩ := h
    obtain ⟨v, rfl⟩ : ∃ v, u = v + 1 := ⟨u - 1, by omega⟩
    have := tk_end hi ht
    rw [tksL_step hi ht]
    rw [chain_tksL hc (by omega) (by omega), List.append_assoc]
    rfl
theorem toks_chain {p : ByteArray} {l : List Tka} {m : Nat} (h : toks p = (some l, m)) : chain p l 0 ∧ m = 0 := by
  obtain ⟨l', e1, e2, e3⟩ := tksL_chain h
  rw [List.nil_append] at e1
  subst e1
  exact ⟨e2, e3⟩
theorem chain_toks {p : ByteArray} {l : List Tka} (h : chain p l 0) : toks p = (some l, 0) := by
  unfold toks
  rw [chain_tksL h (by omega) (by omega), List.nil_append]
theorem chain_at {p : ByteArray} : ∀ {l : List Tka} {i : Nat}, chain p l i → ∀ j (hj : j < l.length), ∃ (k n : Nat) (r : Tk), l[j] = tka k r ∧ tk p k = some (r, n) ∧ k < p.size ∧ (j = 0 → k = i) ∧ (∀ h : j + 1 < l.length, l[j + 1].2.1 = (n : Int)) ∧ (j + 1 = l.length → p.size ≤ n)
  | [], i, h, j, hj => by simp at hj
  | t :: l, i, h, 0, hj => by
    obtain ⟨r, n, ht, rfl, hi, hc⟩ := h
    refine ⟨i, n, r, rfl, ht, hi, fun _ => rfl, fun h1 => ?_, fun h1 => ?_⟩
    · match l, hc, h1 with
      | t2 :: l2, hc, h1 =>
        obtain ⟨r2, n2, ht2, rfl, _, _⟩ := hc
        rfl
    · match l, hc, h1 with
      | [], hc, h1 => exact hc
  | t :: l, i, h, j + 1, hj => by
    obtain ⟨r, n, ht, rfl, hi, hc⟩ := h
    obtain ⟨k, n', r', e1, e2, e3, e4, e5, e6⟩ := chain_at hc j (by simpa using hj)
    refine ⟨k, n', r', by simpa using e1, e2, e3, fun h => (by omega), fun h1 => ?_, fun h1 => ?_⟩
    · have := e5 (by simpa using h1)
      simpa using this
    · exact e6 (by simpa using h1)
/-- The bytes of one token, alone. -/
theorem piece_one {p : ByteArray} {k n : Nat} {r : Tk} (hk : k < p.size) (ht : tk p k = some (r, n)) : toks (p.extract k n) = (some [tka 0 r], 0) := by
  obtain ⟨h1, h2⟩ := tk_end hk ht
  have hs : (p.extract k n).size = n - k := by simp; omega
  have hal : alike p k (p.extract k n) 0 (n - k) := fun i hi => by rw [Nat.zero_add, gb_extract, if_pos (by omega)]
  have := (tk_pre hal hk ht (by omega)).1
  rw [Nat.add_zero] at this
  apply chain_toks
  exact ⟨r, n - k, this, rfl, by omega, by show (p.extract k n).size ≤ n - k; omega⟩
theorem pieces {p : ByteArray} {l : List Tka} {m : Nat} (h : toks p = (some l, m)) (j : Nat) (hj : j < l.length) :
    ∃ (k n : Nat) (r : Tk), l[j] = tka k r ∧ k < n ∧ n ≤ p.size ∧ (j = 0 → k = 0) ∧ (∀ h : j + 1 < l.length, l[j + 1].2.1 = (n : Int)) ∧ (j + 1 = l.length → n = p.size) ∧ toks (p.extract k n) = (some [tka 0 r], 0) := by
  obtain ⟨k, n, r, e1, e2, e3, e4, e5, e6⟩ := chain_at (toks_chain h).1 j hj
  obtain ⟨h1, h2⟩ := tk_end e3 e2
  exact ⟨k, n, r, e1, by omega, h2, e4, e5, fun h' => by have := e6 h'; omega, piece_one e3 e2⟩
theorem toks_empty {p : ByteArray} {l : List Tka} {m : Nat} (h : toks p = (some l, m)) : l.length = 0 ↔ p.size = 0 := by
  have hc := (toks_chain h).1
  match l, hc with
  | [], hc =>
    have hc' : p.size ≤ 0 := hc
    exact ⟨fun _ => by omega, fun _ => rfl⟩
  | t :: l, hc =>
    obtain ⟨r, n, _, _, hi, _⟩ := hc
    exact ⟨fun h => by simp at h, fun h => by omega⟩

theorem chain_length {p : ByteArray} : ∀ {l : List Tka} {i : Nat}, chain p l i → l.length ≤ p.size - i
  | [], i, _ => Nat.zero_le _
  | t :: l, i, h => by
    obtain ⟨r, n, ht, _, hi, hc⟩ := h
    have := chain_length hc
    have := tk_end hi ht
    simp only [List.length_cons]
    omega
theorem toks_length {p : ByteArray} {l : List Tka} {m : Nat} (h : toks p = (some l, m)) : l.length ≤ p.size := by
  have := chain_length (toks_chain h).1
  omega

/-- A token, further on. -/
def moved (d : Nat) (t : Tka) : Tka := (t.1, t.2.1 + (d : Int), t.2.2.1, t.2.2.2.1, t.2.2.2.2)
theorem moved_tka (d k : Nat) (r : Tk) : moved d (tka k r) = tka (k + d) r := by
  unfold moved tka
  simp
theorem gb_append_left (p q : ByteArray) (i : Nat) (h : i < p.size) : gb (p ++ q) i = gb p i := by
  have h2 : i < (p ++ q).size := by rw [ByteArray.size_append]; omega
  rw [← gb_in h, ← gb_in h2, ByteArray.getElem_append_left h]
theorem gb_append_right (p q : ByteArray) (i : Nat) : gb (p ++ q) (p.size + i) = gb q i := by
  by_cases h : i < q.size
  · have h2 : p.size + i < (p ++ q).size := by rw [ByteArray.size_append]; omega
    rw [← gb_in h, ← gb_in h2, ByteArray.getElem_append_right (by omega)]
    congr 2
    omega
  · have h3 : (p ++ q).size = p.size + q.size := ByteArray.size_append
    rw [gb_out (p := p ++ q) (by omega), gb_out (p := q) (by omega)]
theorem chain_right {p q : ByteArray} : ∀ {l : List Tka} {i : Nat}, chain q l i → chain (p ++ q) (l.map (moved p.size)) (i + p.size)
  | [], i, h => by
    have h' : q.size ≤ i := h
    show (p ++ q).size ≤ i + p.size
    rw [ByteArray.size_append]; omega
  | t :: l, i, h => by
    obtain ⟨r, n, ht, rfl, hi, hc⟩ := h
    obtain ⟨h1, h2⟩ := tk_end hi ht
    have hal : alike q i (p ++ q) (i + p.size) (n - i) := fun x hx => by
      rw [show i + p.size + x = p.size + (i + x) by omega, gb_append_right]
    have := (tk_pre hal hi ht (by omega)).1
    rw [show n - i + (i + p.size) = n + p.size by omega] at this
    exact ⟨r, n + p.size, this, moved_tka _ _ _, by rw [ByteArray.size_append]; omega, chain_right hc⟩
theorem chain_left {p q : ByteArray} {m : List Tka} (hq : chain (p ++ q) m p.size) : ∀ {l : List Tka} {i : Nat}, i ≤ p.size → chain p l i → chain (p ++ q) (l ++ m) i
  | [], i, hi, h => by
    have h' : p.size ≤ i := h
    rw [List.nil_append, show i = p.size by omega]
    exact hq
  | t :: l, i, _, h => by
    obtain ⟨r, n, ht, rfl, hi, hc⟩ := h
    obtain ⟨h1, h2⟩ := tk_end hi ht
    have hal : alike p i (p ++ q) i (n - i) := fun x hx => (gb_append_left p q (i + x) (by omega)).symm
    have := (tk_pre hal hi ht (by omega)).1
    rw [show n - i + i = n by omega] at this
    exact ⟨r, n, this, rfl, by rw [ByteArray.size_append]; omega, chain_left hq h2 hc⟩
/-- Two rows, one behind the other. -/
theorem toks_join {p q : ByteArray} {l m : List Tka} {a b : Nat} (hp : toks p = (some l, a)) (hq : toks q = (some m, b)) : toks (p ++ q) = (some (l ++ m.map (moved p.size)), 0) := by
  have h1 := (toks_chain hp).1
  have h2 := chain_right (p := p) (toks_chain hq).1
  rw [Nat.zero_add] at h2
  exact chain_toks (chain_left h2 (Nat.zero_le _) h1)
end Go.Proofs.YtjbmkbgoahppfaaDoor

namespace Go.Proofs.YtjbmkbgoahppfaaDoor

/-- The bytes that stand in a text from a place on. -/
def has (p : ByteArray) (k : Nat) (s : List Nat) : Prop := ∀ i (h : i < s.length), gb p (k + i) = s[i] ∧ s[i] < 256
theorem has.head {p : ByteArray} {k c : Nat} {s : List Nat} (h : has p k (c :: s)) : gb p k = c ∧ c < 256 := h 0 (by simp)
theorem has.tail {p : ByteArray} {k c : Nat} {s : List Nat} (h : has p k (c :: s)) : has p (k + 1) s := fun i hi => by
  have := h (i + 1) (by simp; omega)
  simpa [show k + 1 + i = k + (i + 1) by omega] using this
theorem has.left {p : ByteArray} {k : Nat} {s t : List Nat} (h : has p k (s ++ t)) : has p k s := fun i hi => by
  have := h i (by simp; omega)
  simpa [List.getElem_append_left hi] using this
theorem has.right {p : ByteArray} {k : Nat} {s t : List Nat} (h : has p k (s ++ t)) : has p (k + s.length) t := fun i hi => by
  have := h (s.length + i) (by simp; omega)
  simpa [Nat.add_assoc] using this
theorem has.lt {p : ByteArray} {k c : Nat} {s : List Nat} (h : has p k (c :: s)) : k < p.size := by
  have h1 := h.head
  rw [← gb_lt_iff, h1.1]; exact h1.2

theorem hex_tab : ∀ b, b < 256 → 0 ≤ dig16 (hxd (b / 16)) ∧ 0 ≤ dig16 (hxd (b % 16)) ∧ (dig16 (hxd (b / 16)) * 16 + dig16 (hxd (b % 16))).toNat = b := by decide +kernel
theorem sign_tab0 : ∀ c, c < 256 → (plainB c || (c != 110 && c != 116 && c != 114 && c != 100 && c != 115 && c != 119 && c != 68 && c != 83 && c != 87 && c != 120 && !isA c)) = true := by decide +kernel
theorem sign_tab (c : Nat) (hc : c < 256) (h : plainB c = false) : escOk c = true ∧ c ≠ 120 ∧ escF c = (fun k => decide (k = c)) := by
  have h1 := sign_tab0 c hc
  rw [h, Bool.false_or] at h1
  simp only [Bool.and_eq_true, bne_iff_ne, ne_eq, Bool.not_eq_true'] at h1
  obtain ⟨⟨⟨⟨⟨⟨⟨⟨⟨⟨a1, a2⟩, a3⟩, a4⟩, a5⟩, a6⟩, a7⟩, a8⟩, a9⟩, a10⟩, a11⟩ := h1
  refine ⟨by unfold escOk; simp [a11], a10, ?_⟩
  unfold escF
  simp [a1, a2, a3, a4, a5, a6, a7, a8, a9, a11]
theorem plain_tab : ∀ c, c < 256 → (!plainB c || (tkSign c == none && c != 123 && c != 91 && c != 92 && c != 46)) = true := by decide +kernel
theorem end_head (b : Nat) (hb : b < 256) : ∃ c s, endL b = c :: s ∧ c < 256 ∧ c ≠ 45 ∧ c ≠ 93 ∧ c ≠ 94 ∧ c ≠ 91 ∧ (c = 92 ∨ plainB c = true) := by
  unfold endL
  cases h : plainB b
  · exact ⟨92, _, by rw [if_neg (by decide)], by decide, by decide, by decide, by decide, by decide, .inl rfl⟩
  · refine ⟨b, [], by rw [if_pos rfl], hb, ?_, ?_, ?_, ?_, .inr h⟩ <;> (intro e; subst e; revert h; decide)
theorem beh_end {p : ByteArray} {k b : Nat} (hb : b < 256) (h : has p k [92, 120, hxd (b / 16), hxd (b % 16)]) : behOk p k = true ∧ behN p k = k + 4 ∧ behF p k = oneR b := by
  obtain ⟨t1, t2, t3⟩ := hex_tab b hb
  have g1 := h.tail.head.1
  have g2 := h.tail.tail.head.1
  have g3 := h.tail.tail.tail.head.1
  have l3 := h.tail.tail.tail.lt
  have e2 : k + 1 + 1 = k + 2 := rfl
  have e3 : k + 1 + 1 + 1 = k + 3 := rfl
  rw [e2] at g2
  rw [e3] at g3 l3
  have c1 : ¬ p.size ≤ k + 1 := by omega
  have c2 : ¬ gb p (k + 1) ≠ 120 := by simp [g1]
  have hn : ¬ (p.size ≤ k + 3 ∨ dig16 (hxd (b / 16)) < 0 ∨ dig16 (hxd (b % 16)) < 0) := by omega
  unfold behOk behN behF
  simp only [if_neg c1, if_neg c2, g2, g3, if_neg hn, t3]
  refine ⟨?_, ?_, ?_⟩ <;> first | trivial | rfl
/-- An end of a run as an item of a bracket. -/
theorem sin_end {p : ByteArray} {k b : Nat} (hb : b < 256) (h : has p k (endL b)) : sinOk p k = true ∧ sinN p k = k + (endL b).length ∧ sinF p k = oneR b ∧ sinNm p k = false := by
  unfold endL at h ⊢
  cases hpl : plainB b
  · rw [hpl, if_neg (by decide)] at h
    rw [if_neg (by decide)]
    obtain ⟨b1, b2, b3⟩ := beh_end hb h
    have g0 := h.head.1
    unfold sinOk sinN sinF sinNm
    rw [if_pos g0, if_pos g0, if_pos g0, if_pos g0]
    exact ⟨b1, b2, b3, rfl⟩
  · rw [hpl, if_pos rfl] at h
    rw [if_pos rfl]
    have g0 := h.head.1
    have n1 : ¬ gb p k = 92 := by rw [g0]; intro e; subst e; revert hpl; decide
    have n2 : ¬ (gb p k = 91 ∧ gb p (k + 1) = 58) := by rw [g0]; rintro ⟨e, -⟩; subst e; revert hpl; decide
    unfold sinOk sinN sinF sinNm
    rw [if_neg n1, if_neg n1, if_neg n1, if_neg n1, if_neg n2, if_neg n2, if_neg n2, if_neg n2, g0]
    exact ⟨rfl, rfl, rfl, rfl⟩
theorem bl_one (b : Nat) (hb : b < 256) : bl (oneR b) 256 = [b] := by
  have h : ∀ n, bl (oneR b) n = if b < n then [b] else [] := by
    intro n
    induction n with
    | zero => simp [bl]
    | succ n ih =>
      by_cases hn : b = n
      · rw [bl_hit _ _ (by simp [oneR, hn]), ih, if_neg (by omega), if_pos (by omega), hn]; rfl
      · rw [bl_miss _ _ (by unfold oneR; cases h1 : decide (b ≤ n) <;> cases h2 : decide (n ≤ b) <;> simp_all; omega), ih]
        by_cases h1 : b < n
        · rw [if_pos h1, if_pos (by omega)]
        · rw [if_neg h1, if_neg (by omega)]
  rw [h, if_pos hb]
theorem one_end {p : ByteArray} {k b : Nat} (hb : b < 256) (h : has p k (endL b)) : oneF (sinF p k) (sinNm p k) = (b : Int) := by
  obtain ⟨-, -, h3, h4⟩ := sin_end hb h
  unfold oneF
  rw [h3, h4, bl_one b hb]
  rfl
/-- An end of a run that no hyphen follows. -/
theorem it_end {p : ByteArray} {k b : Nat} (hb : b < 256) (h : has p k (endL b)) (hn : gb p (k + (endL b).length) ≠ 45) : itOk p k = true ∧ itN p k = k + (endL b).length ∧ itF p k = fun x => decide (b ≤ x) && decide (x ≤ b) := by
  obtain ⟨h1, h2, h3, h4⟩ := sin_end hb h
  have hh : itHyp p k = false := by
    unfold itHyp
    rw [h2, beq_eq_false_iff_ne.2 hn]; simp
  unfold itOk itN itF
  rw [hh, h1, h2, h3]
  exact ⟨rfl, rfl, rfl⟩
/-- Two ends with a hyphen between. -/
theorem it_two {p : ByteArray} {k a b : Nat} (ha : a < 256) (hb : b < 256) (hab : a ≤ b) (h : has p k (endL a ++ 45 :: endL b)) :
    itOk p k = true ∧ itN p k = k + (endL a ++ 45 :: endL b).length ∧ itF p k = fun x => decide (a ≤ x) && decide (x ≤ b) := by
  have hA := h.left
  have hH := h.right
  have hB := hH.tail
  obtain ⟨a1, a2, a3, a4⟩ := sin_end ha hA
  obtain ⟨b1, b2, b3, b4⟩ := sin_end hb hB
  obtain ⟨c, s, hc, hc1, hc2, hc3, -⟩ := end_head b hb
  have hB' := hB
  rw [hc] at hB'
  have g1 := hB'.head.1
  have l1 := hB'.lt
  have oA := one_end ha hA
  have oB := one_end hb hB
  have hh : itHyp p k = true := by
    unfold itHyp
    rw [oA, a2, hH.head.1, g1]
    have : k + (endL a).length + 1 < p.size := l1
    simp [this, hc3]
  have e1 : itLo p k = (a : Int) := oA
  have e2 : itHi p k = (b : Int) := by unfold itHi; rw [a2]; exact oB
  unfold itOk itN itF
  rw [hh, a1, a2, b1, b2, e1, e2]
  refine ⟨by simp; omega, by rw [if_pos rfl, List.length_append, List.length_cons]; omega, ?_⟩
  funext x
  simp

theorem run_head (r : Nat × Nat) (h : r.1 < 256) : ∃ c s, runL r = c :: s ∧ c ≠ 45 ∧ c ≠ 93 ∧ c ≠ 94 := by
  obtain ⟨c, s, hc, h1, h2, h3, h4, -⟩ := end_head r.1 h
  exact ⟨c, _, by unfold runL; rw [hc]; rfl, h2, h3, h4⟩
theorem runs_next (l : List (Nat × Nat)) (hl : ∀ r, r ∈ l → r.1 < 256) : ∃ c s, l.flatMap runL ++ [93] = c :: s ∧ c ≠ 45 ∧ c ≠ 94 := by
  cases l with
  | nil => exact ⟨93, [], rfl, by decide, by decide⟩
  | cons r l =>
    obtain ⟨c, s, hc, h1, h2, h3⟩ := run_head r (hl r (by simp))
    exact ⟨c, s ++ l.flatMap runL ++ [93], by rw [List.flatMap_cons, hc]; simp, h1, h3⟩
theorem brk_runs {p : ByteArray} : ∀ (l : List (Nat × Nat)), (∀ r, r ∈ l → r.1 ≤ r.2 ∧ r.2 < 256) → ∀ (i u : Nat) (f : Nat → Bool), has p i (l.flatMap runL ++ [93]) → p.size + 1 ≤ u + i →
    ∃ g, brkL p u i f = some (g, i + (l.flatMap runL ++ [93]).length) ∧ ∀ x, g x = (f x || inU l x) := by
  intro l
  induction l with
  | nil =>
    intro _ i u f h hu
    have h0 := h.head.1
    have hl := h.lt
    obtain ⟨v, rfl⟩ : ∃ v, u = v + 1 := ⟨u - 1, by omega⟩
    exact ⟨f, brkL_hit hl h0, fun x => by simp [inU]⟩
  | cons r l ih =>
    intro hl i u f h hu
    obtain ⟨r1, r2⟩ := hl r (by simp)
    have hl' : ∀ r, r ∈ l → r.1 ≤ r.2 ∧ r.2 < 256 := fun r hr => hl r (by simp [hr])
    rw [List.flatMap_cons, List.append_assoc] at h
    have hR := h.left
    have hT := h.right
    obtain ⟨c0, s0, e0, n1, n2, n3⟩ := run_head r (by omega)
    have hR' := hR
    rw [e0] at hR'
    have hi := hR'.lt
    have hi0 := hR'.head.1
    obtain ⟨cn, sn, en, m1, m2⟩ := runs_next l (fun r hr => by have := hl' r hr; omega)
    have hT' := hT
    rw [en] at hT'
    have hnx := hT'.head.1
    obtain ⟨v, rfl⟩ : ∃ v, u = v + 1 := ⟨u - 1, by omega⟩
    have hlen : (l.flatMap runL ++ [93]).length + (runL r).length = ((r :: l).flatMap runL ++ [93]).length := by simp [List.flatMap_cons]; omega
    have hin : ∀ x, inU (r :: l) x = ((decide (r.1 ≤ x) && decide (x ≤ r.2)) || inU l x) := fun x => by simp [inU]
    -- one item, or two
    by_cases c1 : r.2 = r.1 + 1
    · have eR : runL r = endL r.1 ++ endL r.2 := by unfold runL; rw [if_pos c1]
      rw [eR] at hR hT hlen hnx
      have hA := hR.left
      have hB := hR.right
      obtain ⟨cb, sb, eb, nb1, nb2, nb3, nb4, nb5, -⟩ := end_head r.2 r2
      have hB' := hB
      rw [eb] at hB'
      obtain ⟨a1, a2, a3⟩ := it_end (by omega) hA (by rw [hB'.head.1]; exact nb2)
      obtain ⟨b1, b2, b3⟩ := it_end r2 hB (by rw [Nat.add_assoc, ← List.length_append, hnx]; exact m1)
      have z1 := end_len r.1
      have z2 := end_len r.2
      obtain ⟨v', rfl⟩ : ∃ v', v = v' + 1 := ⟨v - 1, by have := hB'.lt; omega⟩
      rw [brkL_step hi (by rw [hi0]; exact n2) a1, a2, brkL_step hB'.lt (by rw [hB'.head.1]; exact nb3) b1, b2]
      have eL : (endL r.1 ++ endL r.2).length = (endL r.1).length + (endL r.2).length := List.length_append
      rw [eL] at hT hlen
      obtain ⟨g, hg, hx⟩ := ih hl' (i + (endL r.1).length + (endL r.2).length) v' _ (by rw [Nat.add_assoc]; exact hT) (by omega)
      refine ⟨g, by rw [hg]; congr 2; omega, fun x => ?_⟩
      rw [hx, a3, b3, hin, Bool.or_assoc, Bool.or_assoc]
      congr 1
      rw [← Bool.or_assoc]
      congr 1
      rw [Bool.eq_iff_iff]; simp; omega
    · by_cases c2 : r.1 + 1 < r.2
      · have eR : runL r = endL r.1 ++ 45 :: endL r.2 := by unfold runL; rw [if_neg c1, if_pos c2]
        rw [eR] at hR hT hlen
        obtain ⟨a1, a2, a3⟩ := it_two (by omega) r2 r1 hR
        rw [brkL_step hi (by rw [hi0]; exact n2) a1, a2]
        have z1 : 1 ≤ (endL r.1 ++ 45 :: endL r.2).length := by simp; omega
        obtain ⟨g, hg, hx⟩ := ih hl' (i + (endL r.1 ++ 45 :: endL r.2).length) v _ hT (by omega)
        refine ⟨g, by rw [hg]; congr 2; omega, fun x => ?_⟩
        rw [hx, a3, hin, Bool.or_assoc]
      · have c3 : r.2 = r.1 := by omega
        have eR : runL r = endL r.1 := by unfold runL; rw [if_neg c1, if_neg c2, List.append_nil]
        rw [eR] at hR hT hlen hnx
        obtain ⟨a1, a2, a3⟩ := it_end (by omega) hR (by rw [hnx]; exact m1)
        rw [brkL_step hi (by rw [hi0]; exact n2) a1, a2]
        have z1 := end_len r.1
        obtain ⟨g, hg, hx⟩ := ih hl' (i + (endL r.1).length) v _ hT (by omega)
        refine ⟨g, by rw [hg]; congr 2; omega, fun x => ?_⟩
        rw [hx, a3, hin, Bool.or_assoc, c3]

theorem bl_all (f : Nat → Bool) (y : Nat) : ∀ n, y < n → f y = false → ((bl f n).length + 1 ≤ n ∧ ((bl f n).length + 1 = n → ∀ x, x < n → x ≠ y → f x = true)) := by
  have full : ∀ n, (bl f n).length = n → ∀ x, x < n → f x = true := by
    intro n
    induction n with
    | zero => intro _ x hx; omega
    | succ n ih =>
      intro h x hx
      have hle := bl_le f n
      cases hf : f n
      · rw [bl_miss f n hf] at h; omega
      · rw [bl_hit f n hf, List.length_append] at h
        by_cases hxn : x = n
        · rw [hxn]; exact hf
        · exact ih (by simpa using h) x (by omega)
  intro n
  induction n with
  | zero => intro h; omega
  | succ n ih =>
    intro hy hf
    have hle := bl_le f n
    by_cases hyn : y = n
    · subst hyn
      rw [bl_miss f y hf]
      exact ⟨by omega, fun h x hx hxy => full y (by omega) x (by omega)⟩
    · obtain ⟨i1, i2⟩ := ih (by omega) hf
      cases hfn : f n
      · rw [bl_miss f n hfn]
        exact ⟨by omega, fun h => by omega⟩
      · rw [bl_hit f n hfn, List.length_append]
        refine ⟨by simp; omega, fun h x hx hxy => ?_⟩
        by_cases hxn : x = n
        · rw [hxn]; exact hfn
        · exact i2 (by simpa using h) x (by omega) hxy
theorem bl_mem {f : Nat → Bool} {x : Nat} (hx : x < 256) : x ∈ bl f 256 ↔ f x = true := by unfold bl; rw [List.mem_filter, List.mem_range]; simp [hx]
theorem tk_back {p : ByteArray} {k : Nat} (h : gb p k = 92) : tk p k = if behOk p k = true then some ((1, behF p k, 0, 0), behN p k) else none := by unfold tk; rw [h]; rfl
theorem tk_brk {p : ByteArray} {k : Nat} (h : gb p k = 91) : tk p k = (brk p k).map fun r => ((1, r.1, 0, 0), r.2) := by unfold tk; rw [h]; rfl
/-- A set's text is one token, that set, wherever it stands. -/
theorem tk_set {p : ByteArray} {k : Nat} (f : Nat → Bool) (h : has p k (setL f)) : ∃ F, tk p k = some ((1, F, 0, 0), k + (setL f).length) ∧ ∀ x, x < 256 → F x = f x := by
  unfold setL at h ⊢
  by_cases c1 : (bl f 256).length = 255 ∧ f 10 = false
  · rw [if_pos c1] at h ⊢
    have g0 := h.head.1
    refine ⟨dotF, by unfold tk; rw [g0]; rfl, fun x hx => ?_⟩
    unfold dotF
    by_cases hx10 : x = 10
    · rw [hx10, c1.2]; rfl
    · rw [(bl_all f 10 256 (by decide) c1.2).2 (by omega) x hx hx10]; simp [hx10]
  rw [if_neg c1] at h ⊢
  by_cases c2 : (bl f 256).length = 1
  · rw [if_pos c2] at h ⊢
    obtain ⟨c, hc⟩ : ∃ c, bl f 256 = [c] := List.length_eq_one_iff.1 c2
    have hc0 : (bl f 256).headD 0 = c := by rw [hc]; rfl
    have hc256 : c < 256 := bl_bytes f 256 c (by rw [hc]; simp)
    have hfc : ∀ x, x < 256 → oneR c x = f x := fun x hx => by
      have := bl_mem (f := f) hx
      rw [hc, List.mem_singleton] at this
      rw [Bool.eq_iff_iff, ← this]
      simp [oneR]; omega
    rw [hc0] at h ⊢
    by_cases c3 : 33 ≤ c ∧ c ≤ 126 ∧ plainB c = false
    · rw [if_pos c3] at h ⊢
      obtain ⟨t1, t2, t3⟩ := sign_tab c hc256 c3.2.2
      have g0 := h.head.1
      have g1 := h.tail.head.1
      have l1 := h.tail.lt
      refine ⟨fun x => decide (x = c), ?_, fun x hx => ?_⟩
      · have b1 : behOk p k = true := by unfold behOk; rw [if_neg (by omega), if_pos (by rw [g1]; exact t2), g1]; exact t1
        have b2 : behN p k = k + 2 := by unfold behN; rw [if_neg (by omega), if_pos (by rw [g1]; exact t2)]
        have b3 : behF p k = fun x => decide (x = c) := by unfold behF; rw [if_neg (by omega), if_pos (by rw [g1]; exact t2), g1]; exact t3
        rw [tk_back g0, if_pos b1, b2, b3]; rfl
      · rw [← hfc x hx]; unfold oneR; rw [Bool.eq_iff_iff]; simp; omega
    · rw [if_neg c3] at h ⊢
      refine ⟨oneR c, ?_, hfc⟩
      unfold endL at h ⊢
      cases hpl : plainB c
      · rw [hpl, if_neg (by decide)] at h
        rw [if_neg (by decide)]
        obtain ⟨b1, b2, b3⟩ := beh_end hc256 h
        rw [tk_back h.head.1, if_pos b1, b2, b3]; rfl
      · rw [hpl, if_pos rfl] at h
        rw [if_pos rfl]
        have n : tkSign c = none ∧ c ≠ 123 ∧ c ≠ 91 ∧ c ≠ 92 ∧ c ≠ 46 := by
          have h1 := plain_tab c hc256
          rw [hpl, Bool.not_true, Bool.false_or] at h1
          simp only [Bool.and_eq_true, bne_iff_ne, ne_eq, beq_iff_eq] at h1
          obtain ⟨⟨⟨⟨a1, a2⟩, a3⟩, a4⟩, a5⟩ := h1
          exact ⟨a1, a2, a3, a4, a5⟩
        unfold tk
        rw [h.head.1, n.1]
        simp only
        rw [if_neg n.2.1, if_neg n.2.2.1, if_neg n.2.2.2.1, if_neg n.2.2.2.2]
        rfl
  rw [if_neg c2] at h ⊢
  have hsg := fun r hr => segs_whole f r hr
  obtain ⟨g, hg, hx⟩ := brk_runs (p := p) (segs f 256 256) (fun r hr => ⟨(hsg r hr).1, (hsg r hr).2.1⟩) (k + 1) (p.size + 1) (fun _ => false) h.tail (by omega)
  obtain ⟨cn, sn, en, m1, m2⟩ := runs_next (segs f 256 256) (fun r hr => (hsg r hr).2.2)
  have ht := h.tail
  have ht' := ht
  rw [en] at ht'
  refine ⟨g, ?_, fun x hx' => by rw [hx, segs_union f x hx']; rfl⟩
  rw [tk_brk h.head.1]
  unfold brk
  rw [if_neg (by rw [ht'.head.1]; exact m2), hg]
  have e1 : k + 1 + ((segs f 256 256).flatMap runL ++ [93]).length = k + (91 :: ((segs f 256 256).flatMap runL ++ [93])).length := by rw [List.length_cons]; omega
  rw [e1]
  rfl
end Go.Proofs.YtjbmkbgoahppfaaDoor

namespace Go.Proofs.YtjbmkbgoahppfaaDoor
open Go.RowKit

/-- Numbers as runes. -/
def r32 (l : List Nat) : List Value := l.map fun x : Nat => .int .i32 (x : Int)
theorem r32_length (l : List Nat) : (r32 l).length = l.length := by simp [r32]
theorem r32_append (a b : List Nat) : r32 (a ++ b) = r32 a ++ r32 b := by simp [r32]
def alnS : ByteArray := { data := #[97, 108, 110, 117, 109] }
def punS : ByteArray := { data := #[112, 117, 110, 99, 116] }
def punB (b : Nat) : Bool := decide (33 ≤ b) && decide (b ≤ 126) && !plainB b
theorem aln_tab : ∀ b, b < 256 → clsD [97, 108, 110, 117, 109] 23 b = plainB b := by decide +kernel
theorem pun_tab : ∀ b, b < 256 → clsD [112, 117, 110, 99, 116] 23 b = punB b := by decide +kernel
theorem own_lit {w w1 : World} (hb : w.heap.size ≤ w1.heap.size) (cs : Array Value) (n : Nat) (hm : n ≤ 1000) (hs : cs.size = n) : (w1.alloc (.cells cs 21)).ownsRow w.heap.size 21 1 (.slice (some ⟨w1.heap.size, 0, none⟩) n n) n cs.toList :=
  World.ownsRow_lit w1 cs n hb (by unfold maxLen; omega) (by omega)
theorem in_any (s : ByteArray) (b : Nat) (hb : b < 256) (w : World) (hT : Tabbed w) :
    Calls Tryd.prog 62 #[.string s, .int .u8 (b : Int)] w fun e w' => e = .returned (.bool (clsK s 23 b)) ∧ Below w.heap.size w w' := by
  have HC := Lib.hid (class_any s w hT)
  obtain ⟨F, hF⟩ : ∃ F, clsK s 23 = F := ⟨_, rfl⟩
  rw [hF] at HC ⊢
  have HH := Lib.hid (fun w => has_lit F b hb w)
  clear hF
  go_enter Tryd.func62, Tryd.ntmps62
  go_wp2_with fail
  refine HC.out.mono ?_
  rintro e w1 ⟨rfl, hb1⟩
  have HB := Lib.hid hb1
  clear hb1
  go_wp2_with fail
  refine (HH.out _).mono ?_
  rintro e w2 ⟨rfl, hb2⟩
  go_wp2
  go_returns
  exact ⟨rfl, (HB.out.alloc HB.out.size _).trans (hb2.mono (by have := HB.out.size; simp; omega))⟩
theorem inA_any (b : Nat) (hb : b < 256) (w : World) (hT : Tabbed w) :
    Calls Tryd.prog 62 #[.string { data := #[97, 108, 110, 117, 109] }, .int .u8 (b : Int)] w fun e w' => e = .returned (.bool (plainB b)) ∧ Below w.heap.size w w' := by
  have := in_any { data := #[97, 108, 110, 117, 109] } b hb w hT
  rw [clsK_eq] at this
  exact (aln_tab b hb) ▸ this
theorem inP_any (b : Nat) (hb : b < 256) (w : World) (hT : Tabbed w) :
    Calls Tryd.prog 62 #[.string { data := #[112, 117, 110, 99, 116] }, .int .u8 (b : Int)] w fun e w' => e = .returned (.bool (punB b)) ∧ Below w.heap.size w w' := by
  have := in_any { data := #[112, 117, 110, 99, 116] } b hb w hT
  rw [clsK_eq] at this
  exact (pun_tab b hb) ▸ this
set_option maxRecDepth 100000 in
theorem cdg_any : ∀ (n : Nat), n < 16 → ∀ (w : World), Calls Tryd.prog 73 #[.int .u8 (n : Int)] w fun e w' => e = .returned (.int .i32 (hxd n : Nat)) ∧ w' = w
  | 0, _, w => by go_enter Tryd.func73, Tryd.ntmps73; go_wp2; go_returns; exact ⟨congrArg (fun z => Ending.returned (Value.int .i32 z)) (show wrap32 ((({ data := #[48, 49, 50, 51, 52, 53, 54, 55, 56, 57, 97, 98, 99, 100, 101, 102] } : ByteArray)[0]'(by decide)).toNat : Int) = ((hxd 0 : Nat) : Int) by decide +kernel), rfl⟩
  | 1, _, w => by go_enter Tryd.func73, Tryd.ntmps73; go_wp2; go_returns; exact ⟨congrArg (fun z => Ending.returned (Value.int .i32 z)) (show wrap32 ((({ data := #[48, 49, 50, 51, 52, 53, 54, 55, 56, 57, 97, 98, 99, 100, 101, 102] } : ByteArray)[1]'(by decide)).toNat : Int) = ((hxd 1 : Nat) : Int) by decide +kernel), rfl⟩
  | 2, _, w => by go_enter Tryd.func73, Tryd.ntmps73; go_wp2; go_returns; exact ⟨congrArg (fun z => Ending.returned (Value.int .i32 z)) (show wrap32 ((({ data := #[48, 49, 50, 51, 52, 53, 54, 55, 56, 57, 97, 98, 99, 100, 101, 102] } : ByteArray)[2]'(by decide)).toNat : Int) = ((hxd 2 : Nat) : Int) by decide +kernel), rfl⟩
  | 3, _, w => by go_enter Tryd.func73, Tryd.ntmps73; go_wp2; go_returns; exact ⟨congrArg (fun z => Ending.returned (Value.int .i32 z)) (show wrap32 ((({ data := #[48, 49, 50, 51, 52, 53, 54, 55, 56, 57, 97, 98, 99, 100, 101, 102] } : ByteArray)[3]'(by decide)).toNat : Int) = ((hxd 3 : Nat) : Int) by decide +kernel), rfl⟩
  | 4, _, w => by go_enter Tryd.func73, Tryd.ntmps73; go_wp2; go_returns; exact ⟨congrArg (fun z => Ending.returned (Value.int .i32 z)) (show wrap32 ((({ data := #[48, 49, 50, 51, 52, 53, 54, 55, 56, 57, 97, 98, 99, 100, 101, 102] } : ByteArray)[4]'(by decide)).toNat : Int) = ((hxd 4 : Nat) : Int) by decide +kernel), rfl⟩
  | 5, _, w => by go_enter Tryd.func73, Tryd.ntmps73; go_wp2; go_returns; exact ⟨congrArg (fun z => Ending.returned (Value.int .i32 z)) (show wrap32 ((({ data := #[48, 49, 50, 51, 52, 53, 54, 55, 56, 57, 97, 98, 99, 100, 101, 102] } : ByteArray)[5]'(by decide)).toNat : Int) = ((hxd 5 : Nat) : Int) by decide +kernel), rfl⟩
  | 6, _, w => by go_enter Tryd.func73, Tryd.ntmps73; go_wp2; go_returns; exact ⟨congrArg (fun z => Ending.returned (Value.int .i32 z)) (show wrap32 ((({ data := #[48, 49, 50, 51, 52, 53, 54, 55, 56, 57, 97, 98, 99, 100, 101, 102] } : ByteArray)[6]'(by decide)).toNat : Int) = ((hxd 6 : Nat) : Int) by decide +kernel), rfl⟩
  | 7, _, w => by go_enter Tryd.func73, Tryd.ntmps73; go_wp2; go_returns; exact ⟨congrArg (fun z => Ending.returned (Value.int .i32 z)) (show wrap32 ((({ data := #[48, 49, 50, 51, 52, 53, 54, 55, 56, 57, 97, 98, 99, 100, 101, 102] } : ByteArray)[7]'(by decide)).toNat : Int) = ((hxd 7 : Nat) : Int) by decide +kernel), rfl⟩
  | 8, _, w => by go_enter Tryd.func73, Tryd.ntmps73; go_wp2; go_returns; exact ⟨congrArg (fun z => Ending.returned (Value.int .i32 z)) (show wrap32 ((({ data := #[48, 49, 50, 51, 52, 53, 54, 55, 56, 57, 97, 98, 99, 100, 101, 102] } : ByteArray)[8]'(by decide)).toNat : Int) = ((hxd 8 : Nat) : Int) by decide +kernel), rfl⟩
  | 9, _, w => by go_enter Tryd.func73, Tryd.ntmps73; go_wp2; go_returns; exact ⟨congrArg (fun z => Ending.returned (Value.int .i32 z)) (show wrap32 ((({ data := #[48, 49, 50, 51, 52, 53, 54, 55, 56, 57, 97, 98, 99, 100, 101, 102] } : ByteArray)[9]'(by decide)).toNat : Int) = ((hxd 9 : Nat) : Int) by decide +kernel), rfl⟩
  | 10, _, w => by go_enter Tryd.func73, Tryd.ntmps73; go_wp2; go_returns; exact ⟨congrArg (fun z => Ending.returned (Value.int .i32 z)) (show wrap32 ((({ data := #[48, 49, 50, 51, 52, 53, 54, 55, 56, 57, 97, 98, 99, 100, 101, 102] } : ByteArray)[10]'(by decide)).toNat : Int) = ((hxd 10 : Nat) : Int) by decide +kernel), rfl⟩
  | 11, _, w => by go_enter Tryd.func73, Tryd.ntmps73; go_wp2; go_returns; exact ⟨congrArg (fun z => Ending.returned (Value.int .i32 z)) (show wrap32 ((({ data := #[48, 49, 50, 51, 52, 53, 54, 55, 56, 57, 97, 98, 99, 100, 101, 102] } : ByteArray)[11]'(by decide)).toNat : Int) = ((hxd 11 : Nat) : Int) by decide +kernel), rfl⟩
  | 12, _, w => by go_enter Tryd.func73, Tryd.ntmps73; go_wp2; go_returns; exact ⟨congrArg (fun z => Ending.returned (Value.int .i32 z)) (show wrap32 ((({ data := #[48, 49, 50, 51, 52, 53, 54, 55, 56, 57, 97, 98, 99, 100, 101, 102] } : ByteArray)[12]'(by decide)).toNat : Int) = ((hxd 12 : Nat) : Int) by decide +kernel), rfl⟩
  | 13, _, w => by go_enter Tryd.func73, Tryd.ntmps73; go_wp2; go_returns; exact ⟨congrArg (fun z => Ending.returned (Value.int .i32 z)) (show wrap32 ((({ data := #[48, 49, 50, 51, 52, 53, 54, 55, 56, 57, 97, 98, 99, 100, 101, 102] } : ByteArray)[13]'(by decide)).toNat : Int) = ((hxd 13 : Nat) : Int) by decide +kernel), rfl⟩
  | 14, _, w => by go_enter Tryd.func73, Tryd.ntmps73; go_wp2; go_returns; exact ⟨congrArg (fun z => Ending.returned (Value.int .i32 z)) (show wrap32 ((({ data := #[48, 49, 50, 51, 52, 53, 54, 55, 56, 57, 97, 98, 99, 100, 101, 102] } : ByteArray)[14]'(by decide)).toNat : Int) = ((hxd 14 : Nat) : Int) by decide +kernel), rfl⟩
  | 15, _, w => by go_enter Tryd.func73, Tryd.ntmps73; go_wp2; go_returns; exact ⟨congrArg (fun z => Ending.returned (Value.int .i32 z)) (show wrap32 ((({ data := #[48, 49, 50, 51, 52, 53, 54, 55, 56, 57, 97, 98, 99, 100, 101, 102] } : ByteArray)[15]'(by decide)).toNat : Int) = ((hxd 15 : Nat) : Int) by decide +kernel), rfl⟩
  | _ + 16, h, _ => absurd h (by omega)

/-- What a call that makes runes tells. -/
def runesPost (l : List Nat) (w : World) (e : Ending) (w' : World) : Prop := ∃ v, e = .returned v ∧ w'.ownsRow w.heap.size 21 1 v l.length (r32 l) ∧ Below w.heap.size w w'
set_option maxRecDepth 100000 in
set_option maxHeartbeats 1000000 in
theorem cend_plain (b : Nat) (hb : b < 256) (hp : plainB b = true) (w : World) (hT : Tabbed w) : Calls Tryd.prog 63 #[.int .u8 (b : Int)] w (runesPost [b] w) := by
  have HP := Lib.hid hp
  have HI := Lib.hid (inA_any b hb w hT)
  clear hp hT
  go_enter Tryd.func63, Tryd.ntmps63
  go_wp2_with fail
  refine HI.out.mono ?_
  rintro e w1 ⟨rfl, hb1⟩
  rw [HP.out]
  have HB := Lib.hid hb1
  clear hb1
  go_wp2
  go_returns
  exact ⟨_, rfl, own_lit HB.out.size #[.int .i32 (b : Int)] 1 (by decide) rfl, HB.out.alloc HB.out.size _⟩
set_option maxRecDepth 100000 in
set_option maxHeartbeats 1000000 in
theorem cend_hex (b : Nat) (hb : b < 256) (hp : plainB b = false) (w : World) (hT : Tabbed w) : Calls Tryd.prog 63 #[.int .u8 (b : Int)] w (runesPost [92, 120, hxd (b / 16), hxd (b % 16)] w) := by
  have HP := Lib.hid hp
  have HI := Lib.hid (inA_any b hb w hT)
  have HD1 := Lib.hid (cdg_any (b / 16) (by omega))
  have HD2 := Lib.hid (cdg_any (b % 16) (by omega))
  have hq : (b : Int) / 16 = ((b / 16 : Nat) : Int) := by omega
  have hr : (b : Int) % 16 = ((b % 16 : Nat) : Int) := by omega
  have i1 : b / 16 < 256 := by omega
  have i2 : b % 16 < 256 := by omega
  generalize hxd (b / 16) = x at *
  generalize hxd (b % 16) = y at *
  generalize b / 16 = i at *
  generalize b % 16 = j at *
  clear hp hT
  go_enter Tryd.func63, Tryd.ntmps63
  go_wp2_with fail
  refine HI.out.mono ?_
  rintro e w1 ⟨rfl, hb1⟩
  rw [HP.out]
  have HB := Lib.hid hb1
  clear hb1
  go_wp2_with fail
  refine (HD1.out _).mono ?_
  rintro e wk ⟨rfl, rfl⟩
  go_wp2_with fail
  refine (HD2.out _).mono ?_
  rintro e wk ⟨rfl, rfl⟩
  go_wp2
  go_returns
  exact ⟨_, rfl, own_lit HB.out.size #[.int .i32 92, .int .i32 120, .int .i32 (x : Int), .int .i32 (y : Int)] 4 (by decide) rfl, HB.out.alloc HB.out.size _⟩
theorem cend_any (b : Nat) (hb : b < 256) (w : World) (hT : Tabbed w) : Calls Tryd.prog 63 #[.int .u8 (b : Int)] w (runesPost (endL b) w) := by
  unfold endL
  cases hp : plainB b
  · exact cend_hex b hb hp w hT
  · exact cend_plain b hb hp w hT
set_option maxRecDepth 100000 in
set_option maxHeartbeats 1000000 in
theorem alone_any (b : Nat) (hb : b < 256) (w : World) (hT : Tabbed w) : Calls Tryd.prog 52 #[.int .u8 (b : Int)] w (runesPost (if 33 ≤ b ∧ b ≤ 126 ∧ plainB b = false then [92, b] else endL b) w) := by
  have HI := Lib.hid (inP_any b hb w hT)
  by_cases hp : 33 ≤ b ∧ b ≤ 126 ∧ plainB b = false
  · have HP : Hid (punB b = true) := Lib.hid (by unfold punB; rw [hp.2.2, decide_eq_true hp.1, decide_eq_true hp.2.1]; rfl)
    rw [if_pos hp]
    clear hp hT
    go_enter Tryd.func52, Tryd.ntmps52
    go_wp2_with fail
    refine HI.out.mono ?_
    rintro e w1 ⟨rfl, hb1⟩
    rw [HP.out]
    have HB := Lib.hid hb1
    clear hb1
    go_wp2
    go_returns
    exact ⟨_, rfl, own_lit HB.out.size #[.int .i32 92, .int .i32 (b : Int)] 2 (by decide) rfl, HB.out.alloc HB.out.size _⟩
  · have HP : Hid (punB b = false) := Lib.hid (by
      unfold punB
      cases h : plainB b
      · by_cases h1 : 33 ≤ b
        · by_cases h2 : b ≤ 126
          · exact absurd ⟨h1, h2, h⟩ hp
          · rw [decide_eq_false h2]; simp
        · rw [decide_eq_false h1]; simp
      · simp)
    rw [if_neg hp]
    have HT := Lib.hid hT
    clear hp hT
    go_enter Tryd.func52, Tryd.ntmps52
    go_wp2_with fail
    refine HI.out.mono ?_
    rintro e w1 ⟨rfl, hb1⟩
    rw [HP.out]
    have HB := Lib.hid hb1
    clear hb1
    go_wp2_with fail
    refine (cend_any b hb _ (HT.out.to HB.out)).mono ?_
    rintro e w2 ⟨v, rfl, hown, hb2⟩
    have HO := Lib.hid hown
    have HB2 := Lib.hid (HB.out.trans (hb2.mono HB.out.size))
    clear hown hb2
    go_wp2
    go_returns
    exact ⟨_, rfl, owns_mono HO.out HB.out.size, HB2.out⟩
end Go.Proofs.YtjbmkbgoahppfaaDoor

namespace Go.Proofs.YtjbmkbgoahppfaaDoor
open Go.RowKit

theorem infoI32 : (Tryd.prog.info? 21).map (fun i => (i.zero, i.size, i.bytes)) = some (some (.int .i32 0), 1, 4) := by kernel_rfl

set_option maxRecDepth 100000 in
set_option maxHeartbeats 1000000 in
theorem grow_any (n : Nat) (h0 : 0 < n) (hn : n ≤ 100) (w : World) : Calls Tryd.prog 74 #[.slice none 0 0, .int .i64 (n : Int)] w (runesPost [] w) := by
  obtain ⟨i0, hi, hz0, hz1, hz2⟩ := info_parts infoI32
  have hg := grownCap_le_maxLen w n 0 21 (by unfold maxLen; omega)
  have hge := grownCap_ge w n 0 21
  have hr : ∀ ty, (Builtin.append_ #[83, 3] ty #[.slice none 0 0, .int .i64 (n : Int)]).run Tryd.prog w = _ := fun ty =>
    Go.Lib.run_append_nil_zeros w 83 3 ty 21 i0 (.int .i32 0) .i64 .i64 Tryd.underlying83 Tryd.underlying3 hi hz0 n h0 (by omega) (by omega) (by rw [hz2]; omega)
  have hcs : (Builtin.zeroCells (Value.int .i32 0).cells n ++ Builtin.zeroCells (Value.int .i32 0).cells (grownCap w n 0 21 - n)).size = grownCap w n 0 21 * 1 := by
    have : ∀ k, (Builtin.zeroCells (Value.int .i32 0).cells k).size = k := fun k => by rw [size_zeroCells]; exact Nat.mul_one k
    rw [Array.size_append, this, this]; omega
  generalize grownCap w n 0 21 = c at *
  generalize Builtin.zeroCells (Value.int .i32 0).cells n ++ Builtin.zeroCells (Value.int .i32 0).cells (c - n) = cs at *
  have d1 : decide ((n : Int) < 0) = false := decide_eq_false (by omega)
  have d2 : decide ((0 : Int) < (n : Int)) = true := decide_eq_true (by omega)
  have HR := Lib.hid hr
  have HCS := Lib.hid hcs
  have HG := Lib.hid hg
  clear hr hcs hg hge
  go_enter Tryd.func74, Tryd.ntmps74
  go_wp2_with (at_builtin; refine Go.Lib.wpList_append_run _ rfl _ _ _ _ rfl _ _ rfl rfl _ _ (HR.out _) ?_)
  go_returns
  exact ⟨_, rfl, World.ownsRow_made w cs c (Nat.le_refl _) HG.out HCS.out, by go_grown⟩

/-- A slice of slices of runes: what each reads as. -/
def rdLL (w : World) (b : Nat) (LL : List (List Nat)) : Prop :=
  ∀ j (h : j < LL.length), ∃ g c, w.cell? ⟨b, j, none⟩ = some (.slice (some ⟨g, 0, none⟩) LL[j].length c) ∧ g < w.heap.size ∧ ∀ i (h : i < LL[j].length), w.cell? ⟨g, i, none⟩ = some (.int .i32 (LL[j][i] : Nat))
theorem rdLL.below {w w' : World} {b B : Nat} {LL : List (List Nat)} (h : rdLL w b LL) (hb : Below B w w') (hB : w.heap.size ≤ B) (hlt : b < w.heap.size) : rdLL w' b LL := fun j hj => by
  obtain ⟨g, c, h1, h2, h3⟩ := h j hj
  refine ⟨g, c, by rw [hb.cell (p := ⟨b, j, none⟩) (by show b < B; omega)]; exact h1, by have := hb.size; omega, fun i hi => ?_⟩
  rw [hb.cell (p := ⟨g, i, none⟩) (by show g < B; omega)]; exact h3 i hi
theorem flat_step (LL : List (List Nat)) (k : Nat) (h : k < LL.length) : (LL.take (k + 1)).flatten = (LL.take k).flatten ++ LL[k] := by
  rw [List.take_succ_eq_append_getElem h, List.flatten_append]; simp
theorem flat_len (LL : List (List Nat)) (h : ∀ l, l ∈ LL → 1 ≤ l.length ∧ l.length ≤ 4) : ∀ k, k ≤ LL.length → (LL.take k).flatten.length ≤ 4 * k ∧ k ≤ (LL.take k).flatten.length := by
  intro k
  induction k with
  | zero => intro _; simp
  | succ k ih =>
    intro hk
    have := ih (by omega)
    have h2 := h _ (List.getElem_mem (show k < LL.length by omega))
    rw [flat_step LL k (by omega), List.length_append]
    omega

set_option maxRecDepth 100000 in
set_option maxHeartbeats 4000000 in
theorem concat_any (LL : List (List Nat)) (b n cap : Nat) (hn : LL.length = n) (h0 : 0 < n) (h3 : n ≤ 3) (hl : ∀ l, l ∈ LL → 1 ≤ l.length ∧ l.length ≤ 4) (w : World) (hb : b < w.heap.size) (hR : rdLL w b LL) :
    Calls Tryd.prog 65 #[.slice (some ⟨b, 0, none⟩) n cap] w (runesPost LL.flatten w) := by
  obtain ⟨i0, hi, hz0, hz1, hz2⟩ := info_parts infoI32
  have HR := Lib.hid hR
  have HN := Lib.hid hn
  have HL := Lib.hid hl
  have HF := Lib.hid (flat_len LL hl)
  clear hR hn hl
  go_enter Tryd.func65, Tryd.ntmps65
  go_wp2_with fail
  go_loopw [3, 11] (fun s i wr => ∃ k z : Nat, k ≤ n ∧ i = .int .i64 k ∧ s = .int .i64 z ∧ z ≤ 12 ∧ Hid (z = (LL.take k).flatten.length) ∧ wr = w) (fun _ i _ => n - (intOf i).toNat)
  case atStart => exact ⟨0, 0, Nat.zero_le _, rfl, rfl, by omega, Lib.hid (by simp), rfl⟩
  case round =>
    obtain ⟨k, z, hk, rfl, rfl, hz, HZ, hwr⟩ := hrel
    have hwr' := hwr.symm
    subst hwr'
    by_cases hlt : k < n
    · have hlt' : k < LL.length := by rw [HN.out]; exact hlt
      obtain ⟨g, c, c0, hg, -⟩ := HR.out k hlt'
      have hlk := HL.out _ (List.getElem_mem hlt')
      have hst := flat_step LL k hlt'
      have hz2 := (HF.out (k + 1) (by omega)).1
      have HZ2 : Hid ((LL.take (k + 1)).flatten.length = z + LL[k].length) := Lib.hid (by rw [hst, List.length_append, HZ.out])
      have hle : z + LL[k].length ≤ 12 := by have := HZ2.out; omega
      obtain ⟨q, hq⟩ : ∃ q, LL[k].length = q := ⟨_, rfl⟩
      rw [hq] at c0 hlk HZ2 hle
      have i0' : (0 : Int) ≤ (k : Int) := by omega
      have i1 : (k : Int) < (n : Int) := by omega
      have d1 : decide ((z : Int) + (q : Int) < 0) = false := decide_eq_false (by omega)
      clear hq hst hz2 hlt'
      go_wp2_with fail
      go_roundw
      case rel => exact ⟨k + 1, z + q, by omega, by go_num, by go_num, hle, Lib.hid HZ2.out.symm, trivial⟩
      case measure => simp [intOf]; omega
    · have hkn : k = n := by omega
      have HZ2 : Hid (LL.flatten.length = z) := Lib.hid (by rw [HZ.out, hkn, ← HN.out, List.take_length])
      have hz0' : 0 < z := by have := (HF.out k (by rw [HN.out]; exact hk)).2; have := HZ.out; omega
      have HG := Lib.hid (grow_any z hz0' (by omega) w)
      clear HZ
      go_wp2_with fail
      refine HG.out.mono ?_
      rintro e w1 ⟨v, rfl, hown, hB⟩
      have HR1 := Lib.hid (HR.out.below hB (Nat.le_refl _) hb)
      have hb1 : b < w1.heap.size := by have := hB.size; omega
      have HO := Lib.hid hown
      have HB := Lib.hid hB
      clear hown hB HG hkn
      go_wp2_with fail
      go_loopw [6, 27] (fun v i w2 => ∃ k : Nat, k ≤ n ∧ i = .int .i64 k ∧ Hid (w2.ownsRow w.heap.size 21 1 v (LL.take k).flatten.length (r32 (LL.take k).flatten)) ∧ Below w.heap.size w w2) (fun _ i _ => n - (intOf i).toNat)
      case atStart => exact ⟨0, Nat.zero_le _, rfl, HO, HB.out⟩
      case round =>
        obtain ⟨k, hk, rfl, HO2, hB2⟩ := hrel
        by_cases hlt : k < n
        · have hlt' : k < LL.length := by rw [HN.out]; exact hlt
          obtain ⟨g, c, c0, hg, hcs⟩ := (HR.out.below hB2 (Nat.le_refl _) hb) k hlt'
          have hlk := HL.out _ (List.getElem_mem hlt')
          have HST := Lib.hid (flat_step LL k hlt')
          have hfl := (HF.out k (by omega)).1
          generalize LL[k] = l at *
          obtain ⟨q, hq⟩ : ∃ q, l.length = q := ⟨_, rfl⟩
          obtain ⟨F, hF⟩ : ∃ F, (LL.take k).flatten = F := ⟨_, rfl⟩
          rw [hF] at HO2 HST hfl
          have hown := HO2.out
          rw [hq] at c0 hlk
          have HQ := Lib.hid hq
          have HCS := Lib.hid hcs
          have hwb := HB.out.size
          have hwb2 := hB2.size
          have hfm : F.length + q ≤ maxLen := by unfold maxLen; omega
          have hfm2 : (F.length + q) * 4 ≤ 140737488355328 := by omega
          have HM := Lib.hid hfm; have HM2 := Lib.hid hfm2
          have HB2 := Lib.hid hB2
          have i0' : (0 : Int) ≤ (k : Int) := by omega
          have i1 : (k : Int) < (n : Int) := by omega
          clear hq hF hcs hlt' hfl hfm hfm2 hB2 HO2
          go_wp2_with (at_builtin; refine wpList_append_own _ rfl _ _ 83 rfl w.heap.size 21 i0 (.int .i32 0) 1 4 Tryd.underlying83 hi hz0 hz1 hz2 rfl (by decide) _ _ _ rfl hown ⟨g, 0, none⟩ q c (r32 l) rfl ?c1 ?c2 ?c3 HM.out HM2.out ?c5 ?_)
          case c1 => rw [r32_length, HQ.out, Nat.mul_one]
          case c2 =>
            intro j u hj
            have hjl : j < l.length := by
              rcases Nat.lt_or_ge j l.length with h | h
              · exact h
              · rw [List.getElem?_eq_none (by rw [r32_length]; exact h)] at hj; cases hj
            have := HCS.out j hjl
            rw [show ((⟨g, 0, none⟩ : Addr).add j) = ⟨g, j, none⟩ by unfold Addr.add; split <;> simp_all, this]
            simp only [r32, List.getElem?_map, List.getElem?_eq_getElem hjl, Option.map_some] at hj
            exact hj
          case c3 => intro u hu; unfold r32 at hu; obtain ⟨x, -, rfl⟩ := List.mem_map.1 hu; rfl
          case c5 => omega
          intro v' w3 hown3 hgrow _
          have HB3 : Hid (Below w.heap.size w w3) := Lib.hid (HB2.out.grown hgrow (by omega) fun r hr => (hown.lt r hr).1)
          have HO3 : Hid (w3.ownsRow w.heap.size 21 1 v' (LL.take (k + 1)).flatten.length (r32 (LL.take (k + 1)).flatten)) := Lib.hid (by
            rw [HST.out, List.length_append, HQ.out, r32_append]
            exact hown3)
          clear hown3 hgrow hown HB2 HCS
          go_wp2_with fail
          go_roundw
          case rel => exact ⟨k + 1, by omega, by go_num, HO3, HB3.out⟩
          case measure => simp [intOf]; omega
        · have HO3 : Hid (wr.ownsRow w.heap.size 21 1 u6 LL.flatten.length (r32 LL.flatten)) := Lib.hid (by
            have := HO2.out
            rw [show k = LL.length by have := HN.out; omega, List.take_length] at this
            exact this)
          have HB2 := Lib.hid hB2
          clear HO2 hB2
          go_wp2_with fail
          go_returns
          exact ⟨_, rfl, HO3.out, HB2.out⟩
end Go.Proofs.YtjbmkbgoahppfaaDoor

namespace Go.Proofs.YtjbmkbgoahppfaaDoor
open Go.RowKit

/-- The part of run behind both ends. -/
def two32 (w w' : World) (v1 v2 : Value) (l1 l2 : List Nat) : Prop := w'.ownsRow w.heap.size 21 1 v1 l1.length (r32 l1) ∧ w'.ownsRow w.heap.size 21 1 v2 l2.length (r32 l2)
theorem row_at {w : World} {base : Nat} {v : Value} {l : List Nat} (h : w.ownsRow base 21 1 v l.length (r32 l)) (h1 : 1 ≤ l.length) :
    ∃ g c, v = .slice (some ⟨g, 0, none⟩) l.length c ∧ g < w.heap.size ∧ ∀ i (h : i < l.length), w.cell? ⟨g, i, none⟩ = some (.int .i32 (l[i] : Nat)) := by
  have hlt := h.lt
  rcases id h.2 with ⟨rfl, h0⟩ | ⟨g, cap, cur, rfl, -⟩
  · omega
  · refine ⟨g, cap, rfl, (hlt g rfl).2, fun i hi => ?_⟩
    rw [h.cellAt i (by omega)]
    simp [r32, hi]
theorem rdLL_two {w : World} {v1 v2 : Value} {l1 l2 : List Nat} {base : Nat} (o1 : w.ownsRow base 21 1 v1 l1.length (r32 l1)) (o2 : w.ownsRow base 21 1 v2 l2.length (r32 l2)) (h1 : 1 ≤ l1.length) (h2 : 1 ≤ l2.length) :
    rdLL (w.alloc (.cells #[v1, v2] 83)) w.heap.size [l1, l2] := fun j hj => by
  match j, hj with
  | 0, _ =>
    obtain ⟨g, c, rfl, hg, hc⟩ := row_at (o1.alloc (.cells #[v1, v2] 83)) h1
    exact ⟨g, c, by simp, hg, hc⟩
  | 1, _ =>
    obtain ⟨g, c, rfl, hg, hc⟩ := row_at (o2.alloc (.cells #[v1, v2] 83)) h2
    exact ⟨g, c, by simp, hg, hc⟩
theorem rdLL_three {w : World} {v1 v2 v3 : Value} {l1 l2 l3 : List Nat} {base : Nat} (o1 : w.ownsRow base 21 1 v1 l1.length (r32 l1)) (o2 : w.ownsRow base 21 1 v2 l2.length (r32 l2)) (o3 : w.ownsRow base 21 1 v3 l3.length (r32 l3)) (h1 : 1 ≤ l1.length) (h2 : 1 ≤ l2.length) (h3 : 1 ≤ l3.length) :
    rdLL (w.alloc (.cells #[v1, v2, v3] 83)) w.heap.size [l1, l2, l3] := fun j hj => by
  match j, hj with
  | 0, _ =>
    obtain ⟨g, c, rfl, hg, hc⟩ := row_at (o1.alloc (.cells #[v1, v2, v3] 83)) h1
    exact ⟨g, c, by simp, hg, hc⟩
  | 1, _ =>
    obtain ⟨g, c, rfl, hg, hc⟩ := row_at (o2.alloc (.cells #[v1, v2, v3] 83)) h2
    exact ⟨g, c, by simp, hg, hc⟩
  | 2, _ =>
    obtain ⟨g, c, rfl, hg, hc⟩ := row_at (o3.alloc (.cells #[v1, v2, v3] 83)) h3
    exact ⟨g, c, by simp, hg, hc⟩
theorem run_is1 (lo : Nat) : runL (lo, lo) = endL lo := by unfold runL; rw [if_neg (by simp), if_neg (by simp)]; simp
theorem run_is2 (lo : Nat) : runL (lo, lo + 1) = [endL lo, endL (lo + 1)].flatten := by unfold runL; rw [if_pos rfl]; simp
theorem run_is3 (lo hi : Nat) (h : lo + 1 < hi) : runL (lo, hi) = [endL lo, [45], endL hi].flatten := by
  unfold runL
  rw [if_neg (show ¬ (lo, hi).2 = (lo, hi).1 + 1 by show ¬ hi = lo + 1; omega), if_pos (show (lo, hi).1 + 1 < (lo, hi).2 from h)]
  simp

set_option maxRecDepth 100000 in
set_option maxHeartbeats 4000000 in
theorem run_any (lo hi : Nat) (hle : lo ≤ hi) (hh : hi < 256) (w : World) (hT : Tabbed w) :
    Calls Tryd.prog 55 #[.agg #[.int .u8 (lo : Int), .int .u8 (hi : Int)]] w (runesPost (runL (lo, hi)) w) := by
  have HLo := Lib.hid (cend_any lo (by omega))
  have HHi := Lib.hid (cend_any hi hh)
  have e1 := end_len lo
  have e2 := end_len hi
  obtain ⟨l1, hl1⟩ : ∃ l, endL lo = l := ⟨_, rfl⟩
  obtain ⟨l2, hl2⟩ : ∃ l, endL hi = l := ⟨_, rfl⟩
  have HL1 := Lib.hid hl1
  have HL2 := Lib.hid hl2
  rw [hl1] at HLo e1
  rw [hl2] at HHi e2
  have E1 := Lib.hid e1
  have E2 := Lib.hid e2
  clear hl1 hl2 e1 e2
  obtain ⟨W, hW⟩ : ∃ W, w.alloc (.cells #[.int .u8 (lo : Int), .int .u8 (hi : Int)] 89) = W := ⟨_, rfl⟩
  have HT : Hid (Tabbed W) := Lib.hid (hW ▸ hT.alloc _)
  have p0 : W.cell? ⟨w.heap.size, 0, none⟩ = some (.int .u8 (lo : Int)) := by rw [← hW]; simp
  have p1 : W.cell? ⟨w.heap.size, 1, none⟩ = some (.int .u8 (hi : Int)) := by rw [← hW]; simp
  have hWs : w.heap.size < W.heap.size := by rw [← hW]; simp
  have HBW : Hid (Below w.heap.size w W) := Lib.hid (hW ▸ (Below.refl _ _).alloc (Nat.le_refl _) _)
  have hB := (Below.refl W.heap.size W).drew
  clear hT
  go_enter Tryd.func55, Tryd.ntmps55
  go_wp2_with fail
  clear hW
  go_region_held_law (fun w' => w'.cell? ⟨w.heap.size, 0, none⟩ = some (.int .u8 (lo : Int)) ∧ w'.cell? ⟨w.heap.size, 1, none⟩ = some (.int .u8 (hi : Int)))
    (exact ⟨(hB.cell (p := ⟨w.heap.size, 0, none⟩) hWs).trans p0, (hB.cell (p := ⟨w.heap.size, 1, none⟩) hWs).trans p1⟩)
    (first
      | (go_at_call 63; (with_reducible refine (HLo.out _ ?t1).mono ?_); (case t1 => exact HT.out.to (by exact hB)); rintro e wk ⟨v1, rfl, o1, hb⟩; have O1 := Lib.hid (owns_mono o1 (show W.heap.size ≤ _ from hB.size)); (try have O2x := Lib.hid (owns_below O2.out hb)); (try clear O2); replace hB := hB.trans (hb.mono hB.size); clear o1 hb)
      | (go_at_call 63; (with_reducible refine (HHi.out _ ?t2).mono ?_); (case t2 => exact HT.out.to (by exact hB)); rintro e wk ⟨v2, rfl, o2, hb⟩; have O2 := Lib.hid (owns_mono o2 (show W.heap.size ≤ _ from hB.size)); (try have O1x := Lib.hid (owns_below O1.out hb)); (try clear O1); replace hB := hB.trans (hb.mono hB.size); clear o2 hb))
  rename_i hHeld
  obtain ⟨c0, c1⟩ := hHeld
  have HB := Lib.hid (HBW.out.trans (hB.mono HBW.out.size))
  have HOa := Lib.hid (owns_mono O1x.out HBW.out.size)
  have HOb := Lib.hid (owns_mono O2.out HBW.out.size)
  clear hB O1x O2 p0 p1 hWs HBW HT HLo HHi
  obtain ⟨g1, k1, rfl, -⟩ := row_at HOa.out E1.out.1
  obtain ⟨g2, k2, rfl, -⟩ := row_at HOb.out E2.out.1
  have hcmp : hi = lo ∨ hi = lo + 1 ∨ lo + 1 < hi := by omega
  rcases hcmp with hcmp | hcmp | hcmp
  · subst hcmp
    have HRun : Hid (runL (hi, hi) = l1) := Lib.hid (by rw [run_is1, HL1.out])
    go_wp2_with fail
    go_returns
    exact ⟨_, rfl, by rw [HRun.out]; exact HOa.out, HB.out⟩
  · subst hcmp
    have d1 : (((lo + 1 : Nat) : Int) - (lo : Int) == 0) = false := beq_eq_false_iff_ne.2 (by omega)
    have d2 : (((lo + 1 : Nat) : Int) - (lo : Int) == 1) = true := beq_iff_eq.2 (by omega)
    have HRun : Hid (runL (lo, lo + 1) = [l1, l2].flatten) := Lib.hid (by rw [run_is2, HL1.out, HL2.out])
    have HLL := Lib.hid (rdLL_two HOa.out HOb.out E1.out.1 E2.out.1)
    have HC := Lib.hid (concat_any [l1, l2] _ 2 2 rfl (by decide) (by decide) (by
      intro l hl
      rcases List.mem_cons.1 hl with rfl | hl
      · exact E1.out
      · rw [List.mem_singleton.1 hl]; exact E2.out) _ (by simp) HLL.out)
    go_wp2_with fail
    refine HC.out.mono ?_
    rintro e w3 ⟨v3, rfl, hown, hb⟩
    have HO3 := Lib.hid hown
    have HB3 := Lib.hid hb
    clear hown hb HC HLL
    go_wp2_with fail
    go_returns
    exact ⟨_, rfl, by rw [HRun.out]; exact owns_mono HO3.out (by have := HB.out.size; simp; omega), (HB.out.alloc HB.out.size _).trans (HB3.out.mono (by have := HB.out.size; simp; omega))⟩
  · have HRun : Hid (runL (lo, hi) = [l1, [45], l2].flatten) := Lib.hid (by rw [run_is3 lo hi hcmp, HL1.out, HL2.out])
    have HOm := Lib.hid (own_lit HB.out.size #[.int .i32 45] 1 (by decide) rfl)
    have HOa2 := Lib.hid (HOa.out.alloc (.cells #[.int .i32 45] 21))
    have HOb2 := Lib.hid (HOb.out.alloc (.cells #[.int .i32 45] 21))
    have HLL := Lib.hid (rdLL_three (l2 := [45]) HOa2.out HOm.out HOb2.out E1.out.1 (by decide) E2.out.1)
    have hC := (concat_any [l1, [45], l2] _ 3 3 rfl (by decide) (by decide) (by
      intro l hl
      rcases List.mem_cons.1 hl with rfl | hl
      · exact E1.out
      · rcases List.mem_cons.1 hl with rfl | hl
        · decide
        · rw [List.mem_singleton.1 hl]; exact E2.out) _ (by simp) HLL.out)
    rw [World.size_alloc] at hC
    have HC := Lib.hid hC
    clear hC
    obtain ⟨d, rfl⟩ : ∃ d, hi = lo + d := ⟨hi - lo, by omega⟩
    have d1 : (((lo + d : Nat) : Int) - (lo : Int) == 0) = false := beq_eq_false_iff_ne.2 (by omega)
    have d2 : (((lo + d : Nat) : Int) - (lo : Int) == 1) = false := beq_eq_false_iff_ne.2 (by omega)
    clear HLL HOa HOb HOa2 HOb2 HOm HL1 HL2 E1 E2 hcmp
    go_wp2_with fail
    refine HC.out.mono ?_
    rintro e w3 ⟨v3, rfl, hown, hb⟩
    have HO3 := Lib.hid hown
    have HB3 := Lib.hid hb
    clear hown hb HC
    go_wp2_with fail
    go_returns
    exact ⟨_, rfl, by rw [HRun.out]; exact owns_mono HO3.out (by have := HB.out.size; simp; omega), ((HB.out.alloc HB.out.size _).alloc (by have := HB.out.size; simp; omega) _).trans (HB3.out.mono (by have := HB.out.size; simp; omega))⟩
end Go.Proofs.YtjbmkbgoahppfaaDoor
