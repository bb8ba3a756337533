/-
  What stands between braces: the code cuts it at the closing brace and at the comma, the reference goes digit by digit: the same. Tokens as values, and as blocks of memory; lex's repeat. The walk of lex's bounds.
-/
import Derived.Test.YtgjpmfdiidkdnaaDoorPk19
import Derived.Test.YtgjpmfdiidkdnaaDoorPk17
import Derived.Test.YtgjpmfdiidkdnaaDoorPk4
import Derived.Deep.Cut
namespace Go.Proofs.YtgjpmfdiidkdnaaDoor
open Go.RowKit

/-- A text cut at the first of a byte. -/
theorem cut_byte (s : ByteArray) (a : UInt8) :
    (∃ i, i < s.size ∧ gb s i = a.toNat ∧ (∀ x, x < i → gb s x ≠ a.toNat) ∧ cutIs s ⟨#[a]⟩ (s.extract 0 i) (s.extract (i + 1) s.size) true) ∨ ((∀ x, gb s x ≠ a.toNat) ∧ cutIs s ⟨#[a]⟩ s ByteArray.empty false) := by
  have ha := UInt8.toNat_lt a
  cases hf : (List.range s.size).find? fun i => gb s i == a.toNat with
  | some i =>
    rw [List.find?_range_eq_some] at hf
    obtain ⟨h1, h2, h3⟩ := hf
    have h2' : i < s.size := by simpa using h2
    have h1' : gb s i = a.toNat := by simpa using h1
    have h3' : ∀ x, x < i → gb s x ≠ a.toNat := fun x hx => by have := h3 x hx; simpa using this
    refine .inl ⟨i, h2', h1', h3', cut_some s ⟨#[a]⟩ i ?_⟩
    refine Lib.index_first (i := i) ?_ ?_ ?_
    · have : s.data.toList.length = s.size := by simp
      omega
    · show Lib.occAt s.data.toList [a] i = true
      rw [occ_one, h1']; simp
    · intro x hx
      show Lib.occAt s.data.toList [a] x = false
      rw [occ_one]
      exact beq_eq_false_iff_ne.2 (h3' x hx)
  | none =>
    rw [List.find?_range_eq_none] at hf
    have h3' : ∀ x, gb s x ≠ a.toNat := fun x => by
      rcases Nat.lt_or_ge x s.size with h | h
      · have := hf x h; simpa using this
      · rw [gb_out h]; omega
    refine .inr ⟨h3', cut_none s ⟨#[a]⟩ (Lib.index_none fun x _ => ?_)⟩
    show Lib.occAt s.data.toList [a] x = false
    rw [occ_one]
    exact beq_eq_false_iff_ne.2 (h3' x)

theorem it_tab : ∀ v, v < 33 → ((itB v).size = 1 ∧ v < 10 ∧ gb (itB v) 0 = 48 + v) ∨ ((itB v).size = 2 ∧ 10 ≤ v ∧ gb (itB v) 0 = 48 + v / 10 ∧ gb (itB v) 1 = 48 + v % 10) := by decide +kernel
theorem it_inj : ∀ v, v < 33 → ∀ u, u < v → ((itB v).toList == (itB u).toList) = false := by decide +kernel
theorem nm_of {s : ByteArray} {v : Nat} (hv : v < 33) (h : s = itB v) : nmO s = true ∧ nmV s = v := by
  have := numS_some (s := s) hv (by rw [h]; simp) (fun j hj => by rw [h]; exact it_inj v hv j hj)
  unfold nmO nmV
  rw [this]
  exact ⟨rfl, rfl⟩
theorem nm_ex {s : ByteArray} (h : nmO s = true) : ∃ v, v < 33 ∧ s = itB v ∧ nmV s = v := by
  unfold nmO at h
  unfold nmV
  cases hn : numS s with
  | none => rw [hn] at h; cases h
  | some v =>
    have hn' := hn
    unfold numS at hn'
    rw [List.find?_range_eq_some] at hn'
    obtain ⟨h1, h2, _⟩ := hn'
    have e : s.toList = (itB v).toList := by simpa using h1
    rw [toList_data, toList_data] at e
    have hd : s.data = (itB v).data := Array.toList_inj.1 e
    have hs : s = itB v := by cases s; cases hi : itB v; rw [hi] at hd; cases hd; rfl
    exact ⟨v, by simpa using h2, hs, rfl⟩
theorem isD_gb {p : ByteArray} {j : Nat} : isD p j = true ↔ 48 ≤ gb p j ∧ gb p j ≤ 57 := by unfold isD; simp
theorem isD_not {p : ByteArray} {j : Nat} : isD p j = false ↔ ¬ (48 ≤ gb p j ∧ gb p j ≤ 57) := by rw [← isD_gb]; cases isD p j <;> simp
theorem num_digits {p : ByteArray} {k : Nat} (h : 0 ≤ numF p k) : k < numN p k ∧ numN p k ≤ k + 2 ∧ ∀ x, k ≤ x → x < numN p k → isD p x = true := by
  unfold numF at h
  unfold numN
  cases h0 : isD p k
  · rw [h0] at h; simp at h
  · rw [h0] at h
    cases h1 : isD p (k + 1)
    · simp only [if_true, Bool.false_eq_true, if_false]
      exact ⟨by omega, by omega, fun x a b => by rw [show x = k by omega]; exact h0⟩
    · rw [h1] at h
      cases h2 : isD p (k + 2)
      · simp only [if_true, Bool.false_eq_true, if_false]
        refine ⟨by omega, by omega, fun x a b => ?_⟩
        rcases Nat.lt_or_ge x (k + 1) with h3 | h3
        · rw [show x = k by omega]; exact h0
        · rw [show x = k + 1 by omega]; exact h1
      · rw [h2] at h; simp at h
theorem num_eq {p : ByteArray} {k j : Nat} (hkj : k ≤ j) (hj : j ≤ p.size) (hd : isD p j = false) :
    (nmO (p.extract k j) = true → numF p k = (nmV (p.extract k j) : Nat) ∧ numN p k = j) ∧ (0 ≤ numF p k → numN p k = j → nmO (p.extract k j) = true) := by
  have hsz : (p.extract k j).size = j - k := by simp; omega
  have hg : ∀ i, i < j - k → gb (p.extract k j) i = gb p (k + i) := fun i hi => by rw [gb_extract, if_pos (by omega)]
  constructor
  · intro h
    obtain ⟨v, hv, hs, hnv⟩ := nm_ex h
    rw [hnv]
    rcases it_tab v hv with ⟨t1, t2, t3⟩ | ⟨t1, t2, t3, t4⟩
    · rw [← hs] at t1 t3
      have hj1 : j = k + 1 := by omega
      rw [hg 0 (by omega), Nat.add_zero] at t3
      subst hj1
      have d0 : isD p k = true := isD_gb.2 (by omega)
      unfold numF numN dv
      rw [d0, hd, t3]
      simp only [if_true, Bool.false_eq_true, if_false]
      exact ⟨by omega, trivial⟩
    · rw [← hs] at t1 t3 t4
      have hj1 : j = k + 2 := by omega
      rw [hg 0 (by omega), Nat.add_zero] at t3
      rw [hg 1 (by omega)] at t4
      subst hj1
      have d0 : isD p k = true := isD_gb.2 (by omega)
      have d1 : isD p (k + 1) = true := isD_gb.2 (by omega)
      unfold numF numN dv
      rw [d0, d1, hd, t3, t4]
      simp only [if_true, Bool.false_eq_true, if_false]
      rw [if_neg (by omega)]
      exact ⟨by omega, trivial⟩
  · intro h hn
    obtain ⟨c1, c2, c3⟩ := num_digits h
    rw [hn] at c1 c2 c3
    have d0 := isD_gb.1 (c3 k (Nat.le_refl _) c1)
    rcases Nat.lt_or_ge j (k + 2) with h2 | h2
    · have hj1 : j = k + 1 := by omega
      have hv : gb p k - 48 < 33 := by omega
      refine (nm_of hv (eq_of_gb fun i => ?_)).1
      rcases it_tab _ hv with ⟨t1, t2, t3⟩ | ⟨t1, t2, t3, t4⟩
      · by_cases hi : i = 0
        · rw [hi, hg 0 (by omega), t3]; show gb p k = _; omega
        · rw [gb_out (by omega), gb_out (by omega)]
      · omega
    · have hj1 : j = k + 2 := by omega
      have d1 := isD_gb.1 (c3 (k + 1) (by omega) (by omega))
      unfold numF dv at h
      rw [isD_gb.2 d0, isD_gb.2 d1, if_pos rfl, if_pos rfl] at h
      rw [← hj1, hd, if_neg (by decide)] at h
      by_cases hb : gb p k - 48 = 0 ∨ 32 < (gb p k - 48) * 10 + (gb p (k + 1) - 48)
      · rw [if_pos hb] at h; omega
      · have hv : (gb p k - 48) * 10 + (gb p (k + 1) - 48) < 33 := by omega
        refine (nm_of hv (eq_of_gb fun i => ?_)).1
        rcases it_tab _ hv with ⟨t1, t2, t3⟩ | ⟨t1, t2, t3, t4⟩
        · omega
        · by_cases hi : i = 0
          · rw [hi, hg 0 (by omega), t3]; show gb p k = _; omega
          · by_cases hi1 : i = 1
            · rw [hi1, hg 1 (by omega), t4]; omega
            · rw [gb_out (by omega), gb_out (by omega)]

/-- What the code answers, of what it cut. -/
def bdV (inside first second : ByteArray) (closed comma : Bool) : Int × Int × Nat :=
  if closed = true ∧ nmO first = true then
    if second.size = 0 then ((nmV first : Nat), (if comma = true then -1 else (nmV first : Nat)), inside.size + 2)
    else if nmO second = true ∧ nmV first ≤ nmV second then ((nmV first : Nat), (nmV second : Nat), inside.size + 2) else (0, 0, 0)
  else (0, 0, 0)
theorem oft_eq (p : ByteArray) : oftF p 0 =
    if numF p 1 < 0 then (0, 0, 0)
    else if gb p (numN p 1) = 125 then (numF p 1, numF p 1, numN p 1 + 1)
    else if gb p (numN p 1) ≠ 44 then (0, 0, 0)
    else if gb p (numN p 1 + 1) = 125 then (numF p 1, -1, numN p 1 + 2)
    else if numF p (numN p 1 + 1) < numF p 1 ∨ gb p (numN p (numN p 1 + 1)) ≠ 125 then (0, 0, 0)
    else (numF p 1, numF p (numN p 1 + 1), numN p (numN p 1 + 1) + 1) := by
  unfold oftF
  rw [Nat.zero_add]
  by_cases h1 : numF p 1 < 0
  · rw [if_pos h1, if_pos h1]
  · rw [if_neg h1, if_neg h1]
    by_cases h2 : p.size ≤ numN p 1 + 1
    · have hd : isD p (numN p 1 + 1) = false := isD_not.2 (by rw [gb_out h2]; omega)
      have hm : numF p (numN p 1 + 1) = -1 := by unfold numF; rw [hd, if_neg (by decide)]
      rw [if_pos h2, hm]
      rw [if_pos (show (-1 : Int) < numF p 1 ∨ gb p (numN p (numN p 1 + 1)) ≠ 125 from .inl (by omega))]
    · rw [if_neg h2]
theorem oft_bad {p : ByteArray} (h : numF p 1 < 0 ∨ (gb p (numN p 1) ≠ 125 ∧ gb p (numN p 1) ≠ 44)) : oftF p 0 = (0, 0, 0) := by
  rw [oft_eq]
  by_cases h1 : numF p 1 < 0
  · rw [if_pos h1]
  · rw [if_neg h1]
    rcases h with h | ⟨h, h'⟩
    · exact absurd h h1
    · rw [if_neg h, if_pos h']
/-- The braces' text, cut, and what the reference makes of it. -/
theorem bnd_cut (p : ByteArray) (h0 : 1 ≤ p.size) : ∃ inside rest first second closed comma,
    cutIs (p.extract 1 p.size) ⟨#[125]⟩ inside rest closed ∧ cutIs inside ⟨#[44]⟩ first second comma ∧ inside.size ≤ p.size ∧ bdV inside first second closed comma = oftF p 0 := by
  rcases cut_byte (p.extract 1 p.size) 125 with ⟨i, hi, he, hno, hcut⟩ | ⟨hno, hcut⟩
  · -- the closing brace stands at i + 1
    have hsz : (p.extract 1 p.size).size = p.size - 1 := by simp
    rw [hsz] at hi
    have hin : (p.extract 1 p.size).extract 0 i = p.extract 1 (1 + i) := by
      rw [ByteArray.extract_extract]; congr 1; omega
    rw [hin] at hcut
    rw [gb_tail] at he
    have hno' : ∀ x, 1 ≤ x → x < 1 + i → gb p x ≠ 125 := fun x h1 h2 => by
      have := hno (x - 1) (by omega)
      rw [gb_tail, show 1 + (x - 1) = x by omega] at this
      exact this
    have he' : gb p (1 + i) = 125 := he
    have isz : (p.extract 1 (1 + i)).size = i := by simp; omega
    have gin : ∀ x, x < i → gb (p.extract 1 (1 + i)) x = gb p (1 + x) := fun x hx => by rw [gb_extract, if_pos (by omega)]
    rcases cut_byte (p.extract 1 (1 + i)) 44 with ⟨c, hc, hce, hcno, hcut2⟩ | ⟨hcno, hcut2⟩
    · rw [isz] at hc
      have hfi : (p.extract 1 (1 + i)).extract 0 c = p.extract 1 (1 + c) := by
        rw [ByteArray.extract_extract]; congr 1; omega
      have hse : (p.extract 1 (1 + i)).extract (c + 1) (p.extract 1 (1 + i)).size = p.extract (1 + c + 1) (1 + i) := by
        rw [ByteArray.extract_extract, isz]; congr 1; omega
      rw [hfi, hse] at hcut2
      rw [gin c hc] at hce
      have hce' : gb p (1 + c) = 44 := hce
      have hcno' : ∀ x, 1 ≤ x → x < 1 + c → gb p x ≠ 44 := fun x h1 h2 => by
        have := hcno (x - 1) (by omega)
        rw [gin (x - 1) (by omega), show 1 + (x - 1) = x by omega] at this
        exact this
      refine ⟨_, _, _, _, _, _, hcut, hcut2, by omega, ?_⟩
      have ssz : (p.extract (1 + c + 1) (1 + i)).size = i - c - 1 := by simp; omega
      obtain ⟨n1, n2⟩ := num_eq (p := p) (k := 1) (j := 1 + c) (by omega) (by omega) (isD_not.2 (by omega))
      unfold bdV
      cases hf : nmO (p.extract 1 (1 + c))
      · rw [if_neg (by simp)]
        symm
        apply oft_bad
        rcases Int.lt_or_le (numF p 1) 0 with h | h
        · exact .inl h
        · right
          obtain ⟨d1, d2, d3⟩ := num_digits h
          have hlt : ¬ 1 + c < numN p 1 := fun h' => by have := isD_gb.1 (d3 (1 + c) (by omega) h'); omega
          have hne : numN p 1 ≠ 1 + c := fun h' => by have := n2 h h'; rw [hf] at this; cases this
          exact ⟨hno' _ (by omega) (by omega), hcno' _ (by omega) (by omega)⟩
      · rw [if_pos ⟨rfl, rfl⟩]
        obtain ⟨m1, m2⟩ := n1 hf
        have hO : oftF p 0 = if gb p (1 + c + 1) = 125 then (numF p 1, -1, 1 + c + 2) else if numF p (1 + c + 1) < numF p 1 ∨ gb p (numN p (1 + c + 1)) ≠ 125 then (0, 0, 0) else (numF p 1, numF p (1 + c + 1), numN p (1 + c + 1) + 1) := by
          rw [oft_eq, if_neg (by omega), m2, hce', if_neg (by decide), if_neg (by decide)]
        rw [hO, ssz]
        by_cases hz : i - c - 1 = 0
        · rw [if_pos hz, if_pos (show gb p (1 + c + 1) = 125 by rw [show 1 + c + 1 = 1 + i by omega]; exact he'), m1, if_pos rfl, isz, show 1 + c + 2 = i + 2 by omega]
        · rw [if_neg hz, if_neg (show ¬ gb p (1 + c + 1) = 125 from hno' _ (by omega) (by omega))]
          obtain ⟨s1, s2⟩ := num_eq (p := p) (k := 1 + c + 1) (j := 1 + i) (by omega) (by omega) (isD_not.2 (by omega))
          cases hg : nmO (p.extract (1 + c + 1) (1 + i))
          · rw [if_neg (by simp)]
            rcases Int.lt_or_le (numF p (1 + c + 1)) 0 with h | h
            · rw [if_pos (.inl (by omega))]
            · have hne : gb p (numN p (1 + c + 1)) ≠ 125 := fun h' => by
                obtain ⟨d1, d2, d3⟩ := num_digits h
                have hlt : ¬ 1 + i < numN p (1 + c + 1) := fun h' => by have := isD_gb.1 (d3 (1 + i) (by omega) h'); omega
                have hge : ¬ numN p (1 + c + 1) < 1 + i := fun h2 => hno' _ (by omega) h2 h'
                have := s2 h (by omega)
                rw [hg] at this; cases this
              rw [if_pos (.inr hne)]
          · obtain ⟨r1, r2⟩ := s1 hg
            rw [r2, he', r1, m1]
            by_cases hle : nmV (p.extract 1 (1 + c)) ≤ nmV (p.extract (1 + c + 1) (1 + i))
            · rw [if_pos ⟨rfl, hle⟩, if_neg (by omega), isz, show 1 + i + 1 = i + 2 by omega]
            · rw [if_neg (fun h => hle h.2), if_pos (.inl (by omega))]
    · refine ⟨_, _, _, _, _, _, hcut, hcut2, by omega, ?_⟩
      have hcno' : ∀ x, 1 ≤ x → x < 1 + i → gb p x ≠ 44 := fun x h1 h2 => by
        have := hcno (x - 1)
        rw [gin (x - 1) (by omega), show 1 + (x - 1) = x by omega] at this
        exact this
      obtain ⟨n1, n2⟩ := num_eq (p := p) (k := 1) (j := 1 + i) (by omega) (by omega) (isD_not.2 (by omega))
      unfold bdV
      cases hf : nmO (p.extract 1 (1 + i))
      · rw [if_neg (by simp)]
        symm
        apply oft_bad
        rcases Int.lt_or_le (numF p 1) 0 with h | h
        · exact .inl h
        · right
          obtain ⟨d1, d2, d3⟩ := num_digits h
          have hlt : ¬ 1 + i < numN p 1 := fun h' => by have := isD_gb.1 (d3 (1 + i) (by omega) h'); omega
          have hne : numN p 1 ≠ 1 + i := fun h' => by have := n2 h h'; rw [hf] at this; cases this
          exact ⟨hno' _ (by omega) (by omega), hcno' _ (by omega) (by omega)⟩
      · obtain ⟨m1, m2⟩ := n1 hf
        have hO : oftF p 0 = (numF p 1, numF p 1, 1 + i + 1) := by rw [oft_eq, if_neg (by omega), m2, if_pos he']
        rw [if_pos ⟨rfl, rfl⟩, hO, m1, if_neg (show ¬ false = true by decide), isz, show 1 + i + 1 = i + 2 by omega]
        exact if_pos rfl
  · have hno' : ∀ x, 1 ≤ x → gb p x ≠ 125 := fun x h1 => by
      have := hno (x - 1)
      rw [gb_tail, show 1 + (x - 1) = x by omega] at this
      exact this
    have fin : ∀ first second comma, bdV (p.extract 1 p.size) first second false comma = oftF p 0 := fun first second comma => by
      unfold bdV
      rw [oft_eq, if_neg (by simp)]
      by_cases h1 : numF p 1 < 0
      · rw [if_pos h1]
      · have h1' : 0 ≤ numF p 1 := by omega
        obtain ⟨d1, d2, d3⟩ := num_digits h1'
        rw [if_neg h1, if_neg (hno' _ (by omega))]
        by_cases h2 : gb p (numN p 1) ≠ 44
        · rw [if_pos h2]
        · rw [if_neg h2, if_neg (hno' _ (by omega))]
          rcases Int.lt_or_le (numF p (numN p 1 + 1)) 0 with h | h
          · rw [if_pos (.inl (by omega))]
          · obtain ⟨d1', _, _⟩ := num_digits h
            rw [if_pos (.inr (hno' _ (by omega)))]
    rcases cut_byte (p.extract 1 p.size) 44 with ⟨c, hc, hce, hcno, hcut2⟩ | ⟨hcno, hcut2⟩
    · exact ⟨_, _, _, _, _, _, hcut, hcut2, by simp, fin _ _ _⟩
    · exact ⟨_, _, _, _, _, _, hcut, hcut2, by simp, fin _ _ _⟩
end Go.Proofs.YtgjpmfdiidkdnaaDoor

namespace Go.Proofs.YtgjpmfdiidkdnaaDoor
open Go.RowKit

/-- A token as a value. -/
@[reducible] def tkv (k a : Int) (f : Nat → Bool) (lo hi : Int) : Value := .agg #[.int .i64 k, .int .i64 a, .int .u64 (wd f 0 : Int), .int .u64 (wd f 1 : Int), .int .u64 (wd f 2 : Int), .int .u64 (wd f 3 : Int), .int .i64 lo, .int .i64 hi]
/-- Block b holds the token. -/
def isTk (w : World) (b : Nat) (k a : Int) (f : Nat → Bool) (lo hi : Int) : Prop := w.heap[b]? = some (.cells #[.int .i64 k, .int .i64 a, .int .u64 (wd f 0 : Int), .int .u64 (wd f 1 : Int), .int .u64 (wd f 2 : Int), .int .u64 (wd f 3 : Int), .int .i64 lo, .int .i64 hi] 38 (0, 0))
theorem isTk.lt {w : World} {b : Nat} {k a : Int} {f : Nat → Bool} {lo hi : Int} (h : isTk w b k a f lo hi) : b < w.heap.size := lt_of_block h
theorem isTk.cells {w : World} {b : Nat} {k a : Int} {f : Nat → Bool} {lo hi : Int} (h : isTk w b k a f lo hi) :
    w.cell? ⟨b, 0, none⟩ = some (.int .i64 k) ∧ w.cell? ⟨b, 1, none⟩ = some (.int .i64 a) ∧ w.cell? ⟨b, 2, none⟩ = some (.int .u64 (wd f 0 : Int)) ∧ w.cell? ⟨b, 3, none⟩ = some (.int .u64 (wd f 1 : Int)) ∧ w.cell? ⟨b, 4, none⟩ = some (.int .u64 (wd f 2 : Int)) ∧ w.cell? ⟨b, 5, none⟩ = some (.int .u64 (wd f 3 : Int)) ∧ w.cell? ⟨b, 6, none⟩ = some (.int .i64 lo) ∧ w.cell? ⟨b, 7, none⟩ = some (.int .i64 hi) := by
  unfold isTk at h
  refine ⟨?_, ?_, ?_, ?_, ?_, ?_, ?_, ?_⟩ <;> simp [World.cell?, h]
theorem isTk.free {w : World} {b : Nat} {k a : Int} {f : Nat → Bool} {lo hi : Int} (h : isTk w b k a f lo hi) :
    w.frozen? ⟨b, 0, none⟩ = false ∧ w.frozen? ⟨b, 1, none⟩ = false ∧ w.frozen? ⟨b, 2, none⟩ = false ∧ w.frozen? ⟨b, 3, none⟩ = false ∧ w.frozen? ⟨b, 4, none⟩ = false ∧ w.frozen? ⟨b, 5, none⟩ = false ∧ w.frozen? ⟨b, 6, none⟩ = false ∧ w.frozen? ⟨b, 7, none⟩ = false := by
  unfold isTk at h
  refine ⟨?_, ?_, ?_, ?_, ?_, ?_, ?_, ?_⟩ <;> simp [World.frozen?, h]
theorem isTk.below {w' : World} {B : Nat} {w : World} {b : Nat} {k a : Int} {f : Nat → Bool} {lo hi : Int} (h : isTk w b k a f lo hi) (hB : Below B w w') (hb : b < B) : isTk w' b k a f lo hi := (hB.block b hb).trans h
theorem isTk.alloc {w : World} {b : Nat} {k a : Int} {f : Nat → Bool} {lo hi : Int} (h : isTk w b k a f lo hi) (o : Obj) : isTk (w.alloc o) b k a f lo hi := (Below.heap_alloc w o b h.lt).trans h
theorem isTk.new (w : World) (k a : Int) (f : Nat → Bool) (lo hi : Int) : isTk (w.alloc (.cells #[.int .i64 (k), .int .i64 (a), .int .u64 (wd (f) 0 : Int), .int .u64 (wd (f) 1 : Int), .int .u64 (wd (f) 2 : Int), .int .u64 (wd (f) 3 : Int), .int .i64 (lo), .int .i64 (hi)] 38)) w.heap.size k a f lo hi := heap_alloc_new w _
theorem isTk.newNone (w : World) : isTk (w.alloc (.cells #[.int .i64 0, .int .i64 0, .int .u64 0, .int .u64 0, .int .u64 0, .int .u64 0, .int .i64 0, .int .i64 0] 38)) w.heap.size 0 0 (fun _ => false) 0 0 := by
  have := isTk.new w 0 0 (fun _ => false) 0 0
  rw [none_wd, none_wd, none_wd, none_wd] at this
  exact this
theorem isTk.other {w : World} {b : Nat} {k a : Int} {f : Nat → Bool} {lo hi : Int} (h : isTk w b k a f lo hi) {c : Addr} (ha : b ≠ c.block) (v : Value) : isTk (w.setCell c v) b k a f lo hi := (heap_setCell_other w c b v ha).trans h
/-- Eight cells stored. -/
def set8 (w : World) (c : Nat) (k a : Int) (f : Nat → Bool) (lo hi : Int) : World := ((((((((w.setCell ⟨c, 0, none⟩ (.int .i64 k)).setCell ⟨c, 1, none⟩ (.int .i64 a)).setCell ⟨c, 2, none⟩ (.int .u64 (wd f 0 : Int))).setCell ⟨c, 3, none⟩ (.int .u64 (wd f 1 : Int))).setCell ⟨c, 4, none⟩ (.int .u64 (wd f 2 : Int))).setCell ⟨c, 5, none⟩ (.int .u64 (wd f 3 : Int))).setCell ⟨c, 6, none⟩ (.int .i64 lo)).setCell ⟨c, 7, none⟩ (.int .i64 hi))
theorem isTk.stored {w : World} {b : Nat} {k a : Int} {f : Nat → Bool} {lo hi : Int} (h : isTk w b k a f lo hi) (k' a' : Int) (g : Nat → Bool) (lo' hi' : Int) : isTk (set8 w b k' a' g lo' hi') b k' a' g lo' hi' := by
  have h0 := heap_setCell_same w b 0 _ _ (.int .i64 k') h
  have h1 := heap_setCell_same _ b 1 _ _ (.int .i64 a') h0
  have h2 := heap_setCell_same _ b 2 _ _ (.int .u64 (wd g 0 : Int)) h1
  have h3 := heap_setCell_same _ b 3 _ _ (.int .u64 (wd g 1 : Int)) h2
  have h4 := heap_setCell_same _ b 4 _ _ (.int .u64 (wd g 2 : Int)) h3
  have h5 := heap_setCell_same _ b 5 _ _ (.int .u64 (wd g 3 : Int)) h4
  have h6 := heap_setCell_same _ b 6 _ _ (.int .i64 lo') h5
  have h7 := heap_setCell_same _ b 7 _ _ (.int .i64 hi') h6
  unfold isTk set8
  rw [h7]
  simp
theorem below_set8 {B : Nat} {x w : World} {c : Nat} (h : Below B x w) (hc : B ≤ c) (k a : Int) (f : Nat → Bool) (lo hi : Int) : Below B x (set8 w c k a f lo hi) :=
  (((((((h.setCell hc _).setCell hc _).setCell hc _).setCell hc _).setCell hc _).setCell hc _).setCell hc _).setCell hc _

/-- Tokens built: of a kind; of a kind and two numbers; of a kind and a set. -/
theorem build_tk3 (k lo hi : Int) (w : World) : (Instr.build 38 #[(0, .int .i64 k), (3, .int .i64 lo), (4, .int .i64 hi)]).run Tryd.prog w = .ok (.agg #[.int .i64 k, .int .i64 0, .int .u64 0, .int .u64 0, .int .u64 0, .int .u64 0, .int .i64 lo, .int .i64 hi]) w := by kernel_rfl
theorem build_tkS (k x0 x1 x2 x3 : Int) (w : World) : (Instr.build 38 #[(0, .int .i64 k), (2, .agg #[.int .u64 x0, .int .u64 x1, .int .u64 x2, .int .u64 x3])]).run Tryd.prog w = .ok (.agg #[.int .i64 k, .int .i64 0, .int .u64 x0, .int .u64 x1, .int .u64 x2, .int .u64 x3, .int .i64 0, .int .i64 0]) w := by kernel_rfl
theorem wpList_build_tk3 {ops : Array Oper} {rest : List Oper} {o : Oper} {a : Act} {w : World} {Q : Exit → Act → World → Prop} (hgd : o.guard = none) (x y z : Operand) (ho : o.op = .build 38 #[(0, x), (3, y), (4, z)])
    (k lo hi : Int) (hx : a.eval x = .int .i64 k) (hy : a.eval y = .int .i64 lo) (hz : a.eval z = .int .i64 hi)
    (h : wpList Tryd.prog ops Q rest (a.put o.dst (.agg #[.int .i64 k, .int .i64 0, .int .u64 0, .int .u64 0, .int .u64 0, .int .u64 0, .int .i64 lo, .int .i64 hi])) w) : wpList Tryd.prog ops Q (o :: rest) a w :=
  wpList_plain hgd fun K hK => by
    have hb := build_tk3 k lo hi w
    have hm : (#[(0, x), (3, y), (4, z)] : Array (Nat × Operand)).map (fun (i, v) => (i, a.eval v)) = #[(0, a.eval x), (3, a.eval y), (4, a.eval z)] := by simp
    unfold Oper.wp execOp
    simp only [ho]
    rw [hm, hx, hy, hz]
    simp only [Sem.run_bind, hb, Result.andThen_ok]
    exact hK _ _ h
theorem wpList_build_tkS {ops : Array Oper} {rest : List Oper} {o : Oper} {a : Act} {w : World} {Q : Exit → Act → World → Prop} (hgd : o.guard = none) (x y : Operand) (ho : o.op = .build 38 #[(0, x), (2, y)])
    (k x0 x1 x2 x3 : Int) (hx : a.eval x = .int .i64 k) (hy : a.eval y = .agg #[.int .u64 x0, .int .u64 x1, .int .u64 x2, .int .u64 x3])
    (h : wpList Tryd.prog ops Q rest (a.put o.dst (.agg #[.int .i64 k, .int .i64 0, .int .u64 x0, .int .u64 x1, .int .u64 x2, .int .u64 x3, .int .i64 0, .int .i64 0])) w) : wpList Tryd.prog ops Q (o :: rest) a w :=
  wpList_plain hgd fun K hK => by
    have hb := build_tkS k x0 x1 x2 x3 w
    have hm : (#[(0, x), (2, y)] : Array (Nat × Operand)).map (fun (i, v) => (i, a.eval v)) = #[(0, a.eval x), (2, a.eval y)] := by simp
    unfold Oper.wp execOp
    simp only [ho]
    rw [hm, hx, hy]
    simp only [Sem.run_bind, hb, Result.andThen_ok]
    exact hK _ _ h

theorem tkv_none (k a lo hi : Int) : tkv k a (fun _ => false) lo hi = .agg #[.int .i64 k, .int .i64 a, .int .u64 0, .int .u64 0, .int .u64 0, .int .u64 0, .int .i64 lo, .int .i64 hi] := by
  simp only [tkv, none_wd]; rfl
set_option maxRecDepth 100000 in
set_option maxHeartbeats 1000000 in
theorem repeat_any (lo hi : Int) (w : World) :
    Calls Tryd.prog 49 #[.int .i64 lo, .int .i64 hi] w fun e w' => e = .returned (tkv 5 0 (fun _ => false) lo hi) ∧ Below w.heap.size w w' := by
  have e0 := isTk.newNone w
  have hW : Below w.heap.size w (w.alloc (.cells #[.int .i64 0, .int .i64 0, .int .u64 0, .int .u64 0, .int .u64 0, .int .u64 0, .int .i64 0, .int .i64 0] 38)) := (Below.refl _ _).alloc (Nat.le_refl _) _
  go_enter Tryd.func49, Tryd.ntmps49
  go_upto_region 1 with (fail)
  generalize w.alloc (.cells #[.int .i64 0, .int .i64 0, .int .u64 0, .int .u64 0, .int .u64 0, .int .u64 0, .int .i64 0, .int .i64 0] 38) = W at *
  have HR := Lib.hid (below_set8 hW (Nat.le_refl _) 5 0 (fun _ => false) lo hi)
  unfold set8 at HR
  simp only [none_wd, Int.ofNat_zero] at HR
  have HV := Lib.hid (tkv_none 5 0 lo hi)
  have q := e0.cells
  simp only [none_wd] at q
  obtain ⟨q0, q1, q2, q3, q4, q5, q6, q7⟩ := q
  obtain ⟨r0, r1, r2, r3, r4, r5, r6, r7⟩ := e0.free
  clear e0 hW
  go_wp2_with (refine wpList_build_tk3 rfl _ _ _ rfl 5 lo hi rfl rfl rfl ?_)
  refine bodyPost_ret (v := .agg #[.int .i64 5, .int .i64 0, .int .u64 0, .int .u64 0, .int .u64 0, .int .u64 0, .int .i64 lo, .int .i64 hi]) (by simp [results, Tryd.results49, go_sem, q0, q1, q2, q3, q4, q5, q6, q7]) rfl ⟨by rw [HV.out], HR.out⟩
end Go.Proofs.YtgjpmfdiidkdnaaDoor

namespace Go.Proofs.YtgjpmfdiidkdnaaDoor
open Go.RowKit

theorem cut_below (s sep A B : ByteArray) (c : Bool) (h : cutIs s sep A B c) (hs : s.size ≤ 1000) (w : World) (hT : Okw w) :
    Calls Tryd.prog 59 #[.string s, .string sep] w fun e w' => e = .returned (.tuple #[.string A, .string B, .bool c]) ∧ Below w.heap.size w w' :=
  (cut_sym s sep A B c h hs w hT).mono fun e w' ⟨h1, n, h2⟩ => ⟨h1, by rw [h2]; exact below_drewN n (Below.refl _ _)⟩
/-- What bounds answers. -/
def bdPost (p : ByteArray) (w : World) (e : Ending) (w' : World) : Prop :=
  e = .returned (.tuple #[tkv (if (oftF p 0).2.2 = 0 then 0 else 5) 0 (fun _ => false) (oftF p 0).1 (oftF p 0).2.1, .int .i64 ((oftF p 0).2.2 : Nat)]) ∧ Below w.heap.size w w'
theorem bdPost.bad {p : ByteArray} {w w' : World} (h : oftF p 0 = (0, 0, 0)) (hb : Below w.heap.size w w') : bdPost p w (.returned (.tuple #[.agg #[.int .i64 0, .int .i64 0, .int .u64 0, .int .u64 0, .int .u64 0, .int .u64 0, .int .i64 0, .int .i64 0], .int .i64 0])) w' := by
  unfold bdPost
  rw [h]
  exact ⟨by rw [if_pos rfl, tkv_none]; rfl, hb⟩
theorem bdPost.good {p : ByteArray} {w w' : World} {lo hi : Int} {n : Nat} {x : Int} (h : oftF p 0 = (lo, hi, n)) (hn : n ≠ 0) (hx : x = (n : Nat)) (hb : Below w.heap.size w w') : bdPost p w (.returned (.tuple #[.agg #[.int .i64 5, .int .i64 0, .int .u64 0, .int .u64 0, .int .u64 0, .int .u64 0, .int .i64 lo, .int .i64 hi], .int .i64 x])) w' := by
  unfold bdPost
  rw [h]
  exact ⟨by rw [if_neg hn, tkv_none, hx], hb⟩
theorem lnum_sym (s : ByteArray) (v : Nat) (o : Bool) (hv : nmV s = v) (ho : nmO s = o) (w : World) :
    Calls Tryd.prog 60 #[.string s] w fun e w' => e = .returned (.tuple #[.int .i64 (v : Int), .bool o]) ∧ w = w' := by
  have := lnum_any s w
  rw [hv, ho] at this
  exact this
theorem repeat_lit (lo hi : Int) (w : World) :
    Calls Tryd.prog 49 #[.int .i64 lo, .int .i64 hi] w fun e w' => e = .returned (.agg #[.int .i64 5, .int .i64 0, .int .u64 0, .int .u64 0, .int .u64 0, .int .u64 0, .int .i64 lo, .int .i64 hi]) ∧ Below w.heap.size w w' := by
  have := repeat_any lo hi w
  rw [tkv_none] at this
  exact this
theorem emp_of {s : ByteArray} (h : s.size = 0) : s.toList.isEmpty = true := by
  rw [toList_data]
  have : s.data.toList.length = 0 := by simpa using h
  rw [List.length_eq_zero_iff.1 this]; rfl
theorem emp_not {s : ByteArray} (h : s.size ≠ 0) : s.toList.isEmpty = false := by
  rw [toList_data]
  have : s.data.toList.length ≠ 0 := by simpa using h
  cases hl : s.data.toList with
  | nil => rw [hl] at this; exact absurd rfl this
  | cons a l => rfl
theorem nmV_le (s : ByteArray) : nmV s ≤ 32 := by
  cases ho : nmO s
  · unfold nmO at ho
    unfold nmV
    cases hn : numS s with
    | none => simp
    | some v => rw [hn] at ho; cases ho
  · obtain ⟨v, h1, h2, h3⟩ := nm_ex ho
    omega

set_option maxRecDepth 100000 in
set_option maxHeartbeats 1000000 in
theorem lbnd_gen (p inside rest first second : ByteArray) (closed comma : Bool) (hp : p.size ≤ 200) (h1 : 1 ≤ p.size) (hc1 : cutIs (p.extract 1 p.size) ⟨#[125]⟩ inside rest closed) (hc2 : cutIs inside ⟨#[44]⟩ first second comma) (hin : inside.size ≤ p.size)
    (hbd : bdV inside first second closed comma = oftF p 0) (w : World) (hT : Okw w) :
    Calls Tryd.prog 50 #[.string p] w (bdPost p w) := by
  have hq1 := cut_below (p.extract 1 p.size) _ _ _ _ hc1 (by simp; omega)
  have hq2 := cut_below inside _ _ _ _ hc2 (by omega)
  have b1 := nmV_le first
  have b2 := nmV_le second
  obtain ⟨v1, hv1⟩ : ∃ v, nmV first = v := ⟨_, rfl⟩
  obtain ⟨o1, ho1⟩ : ∃ v, nmO first = v := ⟨_, rfl⟩
  obtain ⟨v2, hv2⟩ : ∃ v, nmV second = v := ⟨_, rfl⟩
  obtain ⟨o2, ho2⟩ : ∃ v, nmO second = v := ⟨_, rfl⟩
  have hn1 := lnum_sym first v1 o1 hv1 ho1
  have hn2 := lnum_sym second v2 o2 hv2 ho2
  unfold bdV at hbd
  rw [hv1, ho1, hv2, ho2] at hbd
  rw [hv1] at b1; rw [hv2] at b2
  have HBD := Lib.hid hbd.symm
  have HQ1 := Lib.hid hq1; have HQ2 := Lib.hid hq2; have HN1 := Lib.hid hn1; have HN2 := Lib.hid hn2
  have u0 : (1 : Int) ≤ (p.size : Int) := by omega
  clear hq1 hq2 hn1 hn2 hbd hv1 ho1 hv2 ho2 hc1 hc2
  have E0 := Lib.hid (isTk.newNone w)
  have HW : Hid (Below w.heap.size w (w.alloc (.cells #[.int .i64 0, .int .i64 0, .int .u64 0, .int .u64 0, .int .u64 0, .int .u64 0, .int .i64 0, .int .i64 0] 38))) := Lib.hid ((Below.refl _ _).alloc (Nat.le_refl _) _)
  have HT := Lib.hid (hT.alloc (.cells #[.int .i64 0, .int .i64 0, .int .u64 0, .int .u64 0, .int .u64 0, .int .u64 0, .int .i64 0, .int .i64 0] 38))
  clear hT
  go_enter Tryd.func50, Tryd.ntmps50
  go_wp2_with fail
  refine (HQ1.out _ HT.out).mono ?_
  rintro e w1 ⟨rfl, hb⟩
  have hW := HW.out.trans (hb.mono HW.out.size)
  have e0 := E0.out.below hb E0.out.lt
  have hT := HT.out.to hb
  clear hb HW E0 HT
  have l9 : w.heap.size < w1.heap.size := e0.lt
  have HW := Lib.hid hW; have E0 := Lib.hid e0
  have HT := Lib.hid hT
  clear hW e0 hT
  go_wp2_with fail
  refine (HQ2.out _ HT.out).mono ?_
  rintro e w2 ⟨rfl, hb⟩
  clear l9
  have hW := HW.out.trans (hb.mono HW.out.size)
  have e0 := E0.out.below hb E0.out.lt
  have hT := HT.out.to hb
  clear hb HW E0 HT
  have l9 : w.heap.size < w2.heap.size := e0.lt
  have HW := Lib.hid hW; have E0 := Lib.hid e0
  have HT := Lib.hid hT
  clear hW e0 hT
  go_wp2_with fail
  refine (HN1.out _).mono ?_
  rintro e wq ⟨rfl, rfl⟩
  clear HQ1 HQ2 HN1 HT
  cases closed
  · have HG : Hid (oftF p 0 = (0, 0, 0)) := Lib.hid (by rw [HBD.out]; exact if_neg (by simp))
    clear HBD
    have e0 := E0.out; have hW := HW.out
    clear E0 HW
    have HR := Lib.hid (below_set8 hW (Nat.le_refl _) 0 0 (fun _ => false) 0 0)
    unfold set8 at HR
    simp only [none_wd, Int.ofNat_zero] at HR
    have q := e0.cells
    simp only [none_wd] at q
    obtain ⟨q0, q1, q2, q3, q4, q5, q6, q7⟩ := q
    obtain ⟨r0, r1, r2, r3, r4, r5, r6, r7⟩ := e0.free
    clear e0 hW
    go_wp2
    refine bodyPost_ret (v := .tuple #[.agg #[.int .i64 0, .int .i64 0, .int .u64 0, .int .u64 0, .int .u64 0, .int .u64 0, .int .i64 (0), .int .i64 (0)], .int .i64 (0)]) (by simp [results, Tryd.results50, go_sem, q0, q1, q2, q3, q4, q5, q6, q7]) rfl (bdPost.bad HG.out HR.out)
  cases o1
  · have HG : Hid (oftF p 0 = (0, 0, 0)) := Lib.hid (by rw [HBD.out]; exact if_neg (by simp))
    clear HBD
    have e0 := E0.out; have hW := HW.out
    clear E0 HW
    have HR := Lib.hid (below_set8 hW (Nat.le_refl _) 0 0 (fun _ => false) 0 0)
    unfold set8 at HR
    simp only [none_wd, Int.ofNat_zero] at HR
    have q := e0.cells
    simp only [none_wd] at q
    obtain ⟨q0, q1, q2, q3, q4, q5, q6, q7⟩ := q
    obtain ⟨r0, r1, r2, r3, r4, r5, r6, r7⟩ := e0.free
    clear e0 hW
    go_wp2
    refine bodyPost_ret (v := .tuple #[.agg #[.int .i64 0, .int .i64 0, .int .u64 0, .int .u64 0, .int .u64 0, .int .u64 0, .int .i64 (0), .int .i64 (0)], .int .i64 (0)]) (by simp [results, Tryd.results50, go_sem, q0, q1, q2, q3, q4, q5, q6, q7]) rfl (bdPost.bad HG.out HR.out)
  by_cases hz : second.size = 0
  · have hemp := emp_of hz
    cases comma
    · have HG : Hid (oftF p 0 = ((v1 : Int), (v1 : Int), inside.size + 2)) := Lib.hid (by rw [HBD.out]; rw [if_pos ⟨rfl, rfl⟩, if_pos hz, if_neg (by decide)])
      clear HBD
      go_wp2_with fail
      refine (repeat_lit (v1 : Int) ((v1 : Int)) _).mono ?_
      rintro e w3 ⟨rfl, hb⟩
      clear l9
      have hW := HW.out.trans (hb.mono HW.out.size)
      have e0 := E0.out.below hb E0.out.lt
      clear hb HW E0
      have l9 : w.heap.size < w3.heap.size := e0.lt
      have HR := Lib.hid (below_set8 hW (Nat.le_refl _) 5 0 (fun _ => false) (v1 : Int) ((v1 : Int)))
      unfold set8 at HR
      simp only [none_wd, Int.ofNat_zero] at HR
      have q := e0.cells
      simp only [none_wd] at q
      obtain ⟨q0, q1, q2, q3, q4, q5, q6, q7⟩ := q
      obtain ⟨r0, r1, r2, r3, r4, r5, r6, r7⟩ := e0.free
      clear e0 hW
      go_wp2
      refine bodyPost_ret (v := .tuple #[.agg #[.int .i64 5, .int .i64 0, .int .u64 0, .int .u64 0, .int .u64 0, .int .u64 0, .int .i64 ((v1 : Int)), .int .i64 (((v1 : Int)))], .int .i64 (1 + (inside.size : Int) + 1)]) (by simp [results, Tryd.results50, go_sem, q0, q1, q2, q3, q4, q5, q6, q7]) rfl (bdPost.good HG.out (by omega) (by omega) HR.out)
    · have HG : Hid (oftF p 0 = ((v1 : Int), -1, inside.size + 2)) := Lib.hid (by rw [HBD.out]; rw [if_pos ⟨rfl, rfl⟩, if_pos hz, if_pos rfl])
      clear HBD
      go_wp2_with fail
      refine (repeat_lit (v1 : Int) (-1) _).mono ?_
      rintro e w3 ⟨rfl, hb⟩
      clear l9
      have hW := HW.out.trans (hb.mono HW.out.size)
      have e0 := E0.out.below hb E0.out.lt
      clear hb HW E0
      have l9 : w.heap.size < w3.heap.size := e0.lt
      have HR := Lib.hid (below_set8 hW (Nat.le_refl _) 5 0 (fun _ => false) (v1 : Int) (-1))
      unfold set8 at HR
      simp only [none_wd, Int.ofNat_zero] at HR
      have q := e0.cells
      simp only [none_wd] at q
      obtain ⟨q0, q1, q2, q3, q4, q5, q6, q7⟩ := q
      obtain ⟨r0, r1, r2, r3, r4, r5, r6, r7⟩ := e0.free
      clear e0 hW
      go_wp2
      refine bodyPost_ret (v := .tuple #[.agg #[.int .i64 5, .int .i64 0, .int .u64 0, .int .u64 0, .int .u64 0, .int .u64 0, .int .i64 ((v1 : Int)), .int .i64 ((-1))], .int .i64 (1 + (inside.size : Int) + 1)]) (by simp [results, Tryd.results50, go_sem, q0, q1, q2, q3, q4, q5, q6, q7]) rfl (bdPost.good HG.out (by omega) (by omega) HR.out)
  · have hemp := emp_not hz
    cases o2
    · have HG : Hid (oftF p 0 = (0, 0, 0)) := Lib.hid (by rw [HBD.out, if_pos ⟨rfl, rfl⟩, if_neg hz]; exact if_neg (by simp))
      clear HBD
      cases comma
      · go_wp2_with fail
        refine (HN2.out _).mono ?_
        rintro e wq ⟨rfl, rfl⟩
        have e0 := E0.out; have hW := HW.out
        clear E0 HW
        have HR := Lib.hid (below_set8 hW (Nat.le_refl _) 0 0 (fun _ => false) 0 0)
        unfold set8 at HR
        simp only [none_wd, Int.ofNat_zero] at HR
        have q := e0.cells
        simp only [none_wd] at q
        obtain ⟨q0, q1, q2, q3, q4, q5, q6, q7⟩ := q
        obtain ⟨r0, r1, r2, r3, r4, r5, r6, r7⟩ := e0.free
        clear e0 hW
        go_wp2
        refine bodyPost_ret (v := .tuple #[.agg #[.int .i64 0, .int .i64 0, .int .u64 0, .int .u64 0, .int .u64 0, .int .u64 0, .int .i64 (0), .int .i64 (0)], .int .i64 (0)]) (by simp [results, Tryd.results50, go_sem, q0, q1, q2, q3, q4, q5, q6, q7]) rfl (bdPost.bad HG.out HR.out)
      · go_wp2_with fail
        refine (HN2.out _).mono ?_
        rintro e wq ⟨rfl, rfl⟩
        have e0 := E0.out; have hW := HW.out
        clear E0 HW
        have HR := Lib.hid (below_set8 hW (Nat.le_refl _) 0 0 (fun _ => false) 0 0)
        unfold set8 at HR
        simp only [none_wd, Int.ofNat_zero] at HR
        have q := e0.cells
        simp only [none_wd] at q
        obtain ⟨q0, q1, q2, q3, q4, q5, q6, q7⟩ := q
        obtain ⟨r0, r1, r2, r3, r4, r5, r6, r7⟩ := e0.free
        clear e0 hW
        go_wp2
        refine bodyPost_ret (v := .tuple #[.agg #[.int .i64 0, .int .i64 0, .int .u64 0, .int .u64 0, .int .u64 0, .int .u64 0, .int .i64 (0), .int .i64 (0)], .int .i64 (0)]) (by simp [results, Tryd.results50, go_sem, q0, q1, q2, q3, q4, q5, q6, q7]) rfl (bdPost.bad HG.out HR.out)
    · rcases Nat.lt_or_ge v2 v1 with hlt | hge
      · have t2 : decide ((v2 : Int) < (v1 : Int)) = true := decide_eq_true (by omega)
        have HG : Hid (oftF p 0 = (0, 0, 0)) := Lib.hid (by rw [HBD.out, if_pos ⟨rfl, rfl⟩, if_neg hz]; exact if_neg (fun h => by have := h.2; omega))
        clear HBD
        cases comma
        · go_wp2_with fail
          refine (HN2.out _).mono ?_
          rintro e wq ⟨rfl, rfl⟩
          have e0 := E0.out; have hW := HW.out
          clear E0 HW
          have HR := Lib.hid (below_set8 hW (Nat.le_refl _) 0 0 (fun _ => false) 0 0)
          unfold set8 at HR
          simp only [none_wd, Int.ofNat_zero] at HR
          have q := e0.cells
          simp only [none_wd] at q
          obtain ⟨q0, q1, q2, q3, q4, q5, q6, q7⟩ := q
          obtain ⟨r0, r1, r2, r3, r4, r5, r6, r7⟩ := e0.free
          clear e0 hW
          go_wp2
          refine bodyPost_ret (v := .tuple #[.agg #[.int .i64 0, .int .i64 0, .int .u64 0, .int .u64 0, .int .u64 0, .int .u64 0, .int .i64 (0), .int .i64 (0)], .int .i64 (0)]) (by simp [results, Tryd.results50, go_sem, q0, q1, q2, q3, q4, q5, q6, q7]) rfl (bdPost.bad HG.out HR.out)
        · go_wp2_with fail
          refine (HN2.out _).mono ?_
          rintro e wq ⟨rfl, rfl⟩
          have e0 := E0.out; have hW := HW.out
          clear E0 HW
          have HR := Lib.hid (below_set8 hW (Nat.le_refl _) 0 0 (fun _ => false) 0 0)
          unfold set8 at HR
          simp only [none_wd, Int.ofNat_zero] at HR
          have q := e0.cells
          simp only [none_wd] at q
          obtain ⟨q0, q1, q2, q3, q4, q5, q6, q7⟩ := q
          obtain ⟨r0, r1, r2, r3, r4, r5, r6, r7⟩ := e0.free
          clear e0 hW
          go_wp2
          refine bodyPost_ret (v := .tuple #[.agg #[.int .i64 0, .int .i64 0, .int .u64 0, .int .u64 0, .int .u64 0, .int .u64 0, .int .i64 (0), .int .i64 (0)], .int .i64 (0)]) (by simp [results, Tryd.results50, go_sem, q0, q1, q2, q3, q4, q5, q6, q7]) rfl (bdPost.bad HG.out HR.out)
      · have t2 : decide ((v2 : Int) < (v1 : Int)) = false := decide_eq_false (by omega)
        have HBD2 : Hid (oftF p 0 = ((v1 : Int), (v2 : Int), inside.size + 2)) := Lib.hid (by rw [HBD.out, if_pos ⟨rfl, rfl⟩, if_neg hz]; exact if_pos ⟨rfl, hge⟩)
        clear HBD
        cases comma
        · go_wp2_with fail
          refine (HN2.out _).mono ?_
          rintro e wq ⟨rfl, rfl⟩
          go_wp2_with fail
          refine (repeat_lit (v1 : Int) ((v2 : Int)) _).mono ?_
          rintro e w3 ⟨rfl, hb⟩
          clear l9
          have hW := HW.out.trans (hb.mono HW.out.size)
          have e0 := E0.out.below hb E0.out.lt
          clear hb HW E0
          have l9 : w.heap.size < w3.heap.size := e0.lt
          have HR := Lib.hid (below_set8 hW (Nat.le_refl _) 5 0 (fun _ => false) (v1 : Int) ((v2 : Int)))
          unfold set8 at HR
          simp only [none_wd, Int.ofNat_zero] at HR
          have q := e0.cells
          simp only [none_wd] at q
          obtain ⟨q0, q1, q2, q3, q4, q5, q6, q7⟩ := q
          obtain ⟨r0, r1, r2, r3, r4, r5, r6, r7⟩ := e0.free
          clear e0 hW
          go_wp2
          refine bodyPost_ret (v := .tuple #[.agg #[.int .i64 5, .int .i64 0, .int .u64 0, .int .u64 0, .int .u64 0, .int .u64 0, .int .i64 ((v1 : Int)), .int .i64 (((v2 : Int)))], .int .i64 (1 + (inside.size : Int) + 1)]) (by simp [results, Tryd.results50, go_sem, q0, q1, q2, q3, q4, q5, q6, q7]) rfl (bdPost.good HBD2.out (by omega) (by omega) HR.out)
        · go_wp2_with fail
          refine (HN2.out _).mono ?_
          rintro e wq ⟨rfl, rfl⟩
          go_wp2_with fail
          refine (repeat_lit (v1 : Int) ((v2 : Int)) _).mono ?_
          rintro e w3 ⟨rfl, hb⟩
          clear l9
          have hW := HW.out.trans (hb.mono HW.out.size)
          have e0 := E0.out.below hb E0.out.lt
          clear hb HW E0
          have l9 : w.heap.size < w3.heap.size := e0.lt
          have HR := Lib.hid (below_set8 hW (Nat.le_refl _) 5 0 (fun _ => false) (v1 : Int) ((v2 : Int)))
          unfold set8 at HR
          simp only [none_wd, Int.ofNat_zero] at HR
          have q := e0.cells
          simp only [none_wd] at q
          obtain ⟨q0, q1, q2, q3, q4, q5, q6, q7⟩ := q
          obtain ⟨r0, r1, r2, r3, r4, r5, r6, r7⟩ := e0.free
          clear e0 hW
          go_wp2
          refine bodyPost_ret (v := .tuple #[.agg #[.int .i64 5, .int .i64 0, .int .u64 0, .int .u64 0, .int .u64 0, .int .u64 0, .int .i64 ((v1 : Int)), .int .i64 (((v2 : Int)))], .int .i64 (1 + (inside.size : Int) + 1)]) (by simp [results, Tryd.results50, go_sem, q0, q1, q2, q3, q4, q5, q6, q7]) rfl (bdPost.good HBD2.out (by omega) (by omega) HR.out)

theorem lbnd_any (p : ByteArray) (hp : p.size ≤ 200) (h1 : 1 ≤ p.size) (w : World) (hT : Okw w) : Calls Tryd.prog 50 #[.string p] w (bdPost p w) := by
  obtain ⟨inside, rest, first, second, closed, comma, c1, c2, c3, c4⟩ := bnd_cut p h1
  exact lbnd_gen p inside rest first second closed comma hp h1 c1 c2 c3 c4 w hT
end Go.Proofs.YtgjpmfdiidkdnaaDoor
