/-
  Two tokens are the same just if all that they hold is.
  Lists of tokens; the walk of the third reference's Same at two that read alike.
  Tokens: what begins at a place, and rows of them. Rows of tokens: as lists, and as memory. Rows of tokens: each token's bytes, alone, are that token; two rows, one behind the other, are the row of both.
  Sets as patterns have them, as lists of bytes; what they are as tokens, wherever they stand in a text. Plain facts.
-/
import Derived.Test.YtgjpmfdiidkdnaaDoorPk5
import Derived.Test.YtgjpmfdiidkdnaaDoorPk1
import Derived.Test.YtgjpmfdiidkdnaaDoorPk21
namespace Go.Proofs.YtgjpmfdiidkdnaaDoor
open Go.RowKit

theorem eq_tok (k a x0 x1 x2 x3 l h k' a' y0 y1 y2 y3 l' h' : Int) (w : World) :
    (Op.equalIn 10000 38 (.agg #[.int .i64 k, .int .i64 a, .int .u64 x0, .int .u64 x1, .int .u64 x2, .int .u64 x3, .int .i64 l, .int .i64 h]) (.agg #[.int .i64 k', .int .i64 a', .int .u64 y0, .int .u64 y1, .int .u64 y2, .int .u64 y3, .int .i64 l', .int .i64 h'])).run Tryd.prog w =
      .ok (k == k' && (a == a' && ((x0 == y0 && x1 == y1 && x2 == y2 && x3 == y3) && (l == l' && h == h')))) w := by
  rw [show (10000 : Nat) = 9999 + 1 from rfl, run_equalIn_struct w 9999 38 _ _ (by kernel_rfl) (by kernel_rfl)]
  have hs : ∀ (a b c d e f g h : Int) (w : World), (part 32 #[.int .i64 a, .int .i64 b, .int .u64 c, .int .u64 d, .int .u64 e, .int .u64 f, .int .i64 g, .int .i64 h] 2).run Tryd.prog w = .ok (.agg #[.int .u64 c, .int .u64 d, .int .u64 e, .int .u64 f]) w := fun _ _ _ _ _ _ _ _ _ => by kernel_rfl
  have h0 : ∀ (a b c d e f g h : Int) (w : World), (part 3 #[.int .i64 a, .int .i64 b, .int .u64 c, .int .u64 d, .int .u64 e, .int .u64 f, .int .i64 g, .int .i64 h] 0).run Tryd.prog w = .ok (.int .i64 a) w := fun _ _ _ _ _ _ _ _ _ => by kernel_rfl
  have h1 : ∀ (a b c d e f g h : Int) (w : World), (part 3 #[.int .i64 a, .int .i64 b, .int .u64 c, .int .u64 d, .int .u64 e, .int .u64 f, .int .i64 g, .int .i64 h] 1).run Tryd.prog w = .ok (.int .i64 b) w := fun _ _ _ _ _ _ _ _ _ => by kernel_rfl
  have h6 : ∀ (a b c d e f g h : Int) (w : World), (part 3 #[.int .i64 a, .int .i64 b, .int .u64 c, .int .u64 d, .int .u64 e, .int .u64 f, .int .i64 g, .int .i64 h] 6).run Tryd.prog w = .ok (.int .i64 g) w := fun _ _ _ _ _ _ _ _ _ => by kernel_rfl
  have h7 : ∀ (a b c d e f g h : Int) (w : World), (part 3 #[.int .i64 a, .int .i64 b, .int .u64 c, .int .u64 d, .int .u64 e, .int .u64 f, .int .i64 g, .int .i64 h] 7).run Tryd.prog w = .ok (.int .i64 h) w := fun _ _ _ _ _ _ _ _ _ => by kernel_rfl
  have ei : ∀ (x y : Int) (w : World), (Op.equalIn 9999 3 (.int .i64 x) (.int .i64 y)).run Tryd.prog w = .ok (x == y) w := fun x y w => run_equalIn_int w 9998 3 .i64 .i64 x y Tryd.underlying3
  have es : ∀ (a b c d e f g h : Int) (w : World), (Op.equalIn 9999 32 (.agg #[.int .u64 a, .int .u64 b, .int .u64 c, .int .u64 d]) (.agg #[.int .u64 e, .int .u64 f, .int .u64 g, .int .u64 h])).run Tryd.prog w = .ok (a == e && b == f && c == g && d == h) w := fun a b c d e f g h w => eq_any' 9997 a b c d e f g h w
  simp only [Program.fieldsOf, Tryd.underlying38]
  cases ek : (k == k') <;> cases ea : (a == a') <;> cases eS : (x0 == y0 && x1 == y1 && x2 == y2 && x3 == y3) <;> cases el : (l == l') <;> cases eh : (h == h') <;> simp [Op.eqFields, hs, h0, h1, h6, h7, ei, es, ek, ea, eS, el, eh]
end Go.Proofs.YtgjpmfdiidkdnaaDoor

namespace Go.Proofs.YtgjpmfdiidkdnaaDoor
open Go.RowKit

/-- A token's cells at a place. -/
def tokAt (w : World) (b o : Nat) (r : Int × Int × (Nat → Bool) × Int × Int) : Prop := w.cell? ⟨b, o, none⟩ = some (.int .i64 r.1) ∧ w.cell? ⟨b, o + 1, none⟩ = some (.int .i64 r.2.1) ∧ w.cell? ⟨b, o + 2, none⟩ = some (.int .u64 (wd r.2.2.1 0 : Int)) ∧ w.cell? ⟨b, o + 3, none⟩ = some (.int .u64 (wd r.2.2.1 1 : Int)) ∧ w.cell? ⟨b, o + 4, none⟩ = some (.int .u64 (wd r.2.2.1 2 : Int)) ∧ w.cell? ⟨b, o + 5, none⟩ = some (.int .u64 (wd r.2.2.1 3 : Int)) ∧ w.cell? ⟨b, o + 6, none⟩ = some (.int .i64 r.2.2.2.1) ∧ w.cell? ⟨b, o + 7, none⟩ = some (.int .i64 r.2.2.2.2)
theorem tokAt.below {w w' : World} {b o B : Nat} {r : Int × Int × (Nat → Bool) × Int × Int} (h : tokAt w b o r) (hb : Below B w w') (hB : b < B) : tokAt w' b o r := by
  have c : ∀ x, w'.cell? ⟨b, x, none⟩ = w.cell? ⟨b, x, none⟩ := fun x => hb.cell (p := ⟨b, x, none⟩) hB
  unfold tokAt at h ⊢
  simp only [c]
  exact h
/-- A slice that reads as a list of tokens. -/
def rdT (w : World) (v : Value) (l : List (Int × Int × (Nat → Bool) × Int × Int)) : Prop :=
  (v = .slice none 0 0 ∧ l = []) ∨ ∃ b off cap, v = .slice (some ⟨b, off, none⟩) l.length cap ∧ b < w.heap.size ∧ ∀ j (h : j < l.length), tokAt w b (off + j * 8) l[j]
theorem rdT_below {w w' : World} {v : Value} {l : List (Int × Int × (Nat → Bool) × Int × Int)} {B : Nat} (h : rdT w v l) (hb : Below B w w') (hB : w.heap.size ≤ B) : rdT w' v l := by
  rcases h with h | ⟨b, off, cap, rfl, hl, hc⟩
  · exact .inl h
  · exact .inr ⟨b, off, cap, rfl, Nat.lt_of_lt_of_le hl hb.size, fun j hj => (hc j hj).below hb (by omega)⟩

end Go.Proofs.YtgjpmfdiidkdnaaDoor

namespace Go.Proofs.YtgjpmfdiidkdnaaDoor
open Go.RowKit

abbrev Tk := Int × (Nat → Bool) × Int × Int
/-- The token that begins at a place, and where it ends. -/
def tk (p : ByteArray) (k : Nat) : Option (Tk × Nat) := match tkSign (gb p k) with
  | some (a, lo, hi) => some ((a, (fun _ => false), lo, hi), k + 1)
  | none =>
    if gb p k = 123 then (if (oftF p k).2.2 = 0 then none else some ((5, (fun _ => false), (oftF p k).1, (oftF p k).2.1), (oftF p k).2.2))
    else if gb p k = 91 then (brk p k).map fun r => ((1, r.1, 0, 0), r.2)
    else if gb p k = 92 then (if behOk p k = true then some ((1, behF p k, 0, 0), behN p k) else none)
    else if gb p k = 46 then some ((1, dotF, 0, 0), k + 1)
    else some ((1, oneR (gb p k), 0, 0), k + 1)

theorem num_pre {p p' : ByteArray} {k k' m : Nat} (h : alike p k p' k' m) (h0 : 0 ≤ numF p k) (hm : numN p k < k + m) : numF p' k' = numF p k ∧ numN p' k' + k = numN p k + k' := by
  obtain ⟨d1, d2, d3⟩ := num_digits h0
  have e : ∀ i, i < m → isD p' (k' + i) = isD p (k + i) := fun i hi => by unfold isD; rw [h i hi]
  have a0 := e 0 (by omega)
  have a1 := e 1 (by omega)
  have g0 := h 0 (by omega)
  have g1 := h 1 (by omega)
  rw [Nat.add_zero, Nat.add_zero] at a0 g0
  have hd0 := d3 k (Nat.le_refl _) d1
  unfold numF numN dv
  unfold numN at hm
  rw [a0, a1, ← g0, ← g1, hd0]
  rw [hd0] at hm
  cases h1 : isD p (k + 1)
  · simp only [if_true, Bool.false_eq_true, if_false]
    exact ⟨trivial, by omega⟩
  · rw [h1] at hm
    simp only [if_true] at hm ⊢
    cases h2 : isD p (k + 2)
    · rw [h2] at hm
      simp only [Bool.false_eq_true, if_false] at hm
      rw [e 2 (by omega), h2]
      simp only [Bool.false_eq_true, if_false]
      exact ⟨trivial, by omega⟩
    · rw [h2] at hm
      simp only [if_true] at hm
      rw [e 2 (by omega), h2]
      simp only [if_true]
      exact ⟨trivial, by omega⟩
theorem oft_eqk (p : ByteArray) (k : Nat) : oftF p k =
    if numF p (k + 1) < 0 then (0, 0, 0)
    else if gb p (numN p (k + 1)) = 125 then (numF p (k + 1), numF p (k + 1), numN p (k + 1) + 1)
    else if gb p (numN p (k + 1)) ≠ 44 then (0, 0, 0)
    else if gb p (numN p (k + 1) + 1) = 125 then (numF p (k + 1), -1, numN p (k + 1) + 2)
    else if numF p (numN p (k + 1) + 1) < numF p (k + 1) ∨ gb p (numN p (numN p (k + 1) + 1)) ≠ 125 then (0, 0, 0)
    else (numF p (k + 1), numF p (numN p (k + 1) + 1), numN p (numN p (k + 1) + 1) + 1) := by
  unfold oftF
  by_cases h1 : numF p (k + 1) < 0
  · rw [if_pos h1, if_pos h1]
  · rw [if_neg h1, if_neg h1]
    by_cases h2 : p.size ≤ numN p (k + 1) + 1
    · have hd : isD p (numN p (k + 1) + 1) = false := isD_not.2 (by rw [gb_out h2]; omega)
      have hm : numF p (numN p (k + 1) + 1) = -1 := by unfold numF; rw [hd, if_neg (by decide)]
      rw [if_pos h2, hm]
      rw [if_pos (show (-1 : Int) < numF p (k + 1) ∨ gb p (numN p (numN p (k + 1) + 1)) ≠ 125 from .inl (by omega))]
    · rw [if_neg h2]
theorem oft_pre {p p' : ByteArray} {k k' m : Nat} (h : alike p k p' k' m) (h0 : (oftF p k).2.2 ≠ 0) (hm : (oftF p k).2.2 ≤ k + m) :
    oftF p' k' = ((oftF p k).1, (oftF p k).2.1, (oftF p k).2.2 - k + k') ∧ k + 3 ≤ (oftF p k).2.2 ∧ (oftF p k).2.2 ≤ p.size := by
  have gj : ∀ x, k ≤ x → x < k + m → gb p' (x - k + k') = gb p x := fun x hx hx2 => by
    have := h (x - k) (by omega)
    rw [show k + (x - k) = x by omega, show k' + (x - k) = x - k + k' by omega] at this
    exact this.symm
  rw [oft_eqk p k] at h0 hm ⊢
  rw [oft_eqk p' k']
  by_cases c1 : numF p (k + 1) < 0
  · rw [if_pos c1] at h0; exact absurd rfl h0
  rw [if_neg c1] at h0 hm ⊢
  obtain ⟨d1, d2, d3⟩ := num_digits (show 0 ≤ numF p (k + 1) by omega)
  by_cases c2 : gb p (numN p (k + 1)) = 125
  · rw [if_pos c2] at h0 hm ⊢
    have hm' : numN p (k + 1) + 1 ≤ k + m := hm
    have hal := h.from (j := 1) (by omega)
    obtain ⟨n1, n2⟩ := num_pre hal (by omega) (by omega)
    have hs := (gb_lt_iff p (numN p (k + 1))).1 (by omega)
    have g := gj (numN p (k + 1)) (by omega) (by omega)
    rw [show numN p (k + 1) - k + k' = numN p' (k' + 1) by omega] at g
    rw [n1, if_neg c1, g, if_pos c2]
    refine ⟨?_, by show k + 3 ≤ numN p (k + 1) + 1; omega, by show numN p (k + 1) + 1 ≤ p.size; omega⟩
    show (_, _, numN p' (k' + 1) + 1) = (_, _, numN p (k + 1) + 1 - k + k')
    rw [show numN p (k + 1) + 1 - k + k' = numN p' (k' + 1) + 1 by omega]
  rw [if_neg c2] at h0 hm ⊢
  by_cases c3 : gb p (numN p (k + 1)) ≠ 44
  · rw [if_pos c3] at h0; exact absurd rfl h0
  rw [if_neg c3] at h0 hm ⊢
  by_cases c4 : gb p (numN p (k + 1) + 1) = 125
  · rw [if_pos c4] at h0 hm ⊢
    have hm' : numN p (k + 1) + 2 ≤ k + m := hm
    have hal := h.from (j := 1) (by omega)
    obtain ⟨n1, n2⟩ := num_pre hal (by omega) (by omega)
    have hs := (gb_lt_iff p (numN p (k + 1) + 1)).1 (by omega)
    have g := gj (numN p (k + 1)) (by omega) (by omega)
    have g' := gj (numN p (k + 1) + 1) (by omega) (by omega)
    rw [show numN p (k + 1) - k + k' = numN p' (k' + 1) by omega] at g
    rw [show numN p (k + 1) + 1 - k + k' = numN p' (k' + 1) + 1 by omega] at g'
    rw [n1, if_neg c1, g, if_neg c2, if_neg c3, g', if_pos c4]
    refine ⟨?_, by show k + 3 ≤ numN p (k + 1) + 2; omega, by show numN p (k + 1) + 2 ≤ p.size; omega⟩
    show (_, _, numN p' (k' + 1) + 2) = (_, _, numN p (k + 1) + 2 - k + k')
    rw [show numN p (k + 1) + 2 - k + k' = numN p' (k' + 1) + 2 by omega]
  rw [if_neg c4] at h0 hm ⊢
  by_cases c5 : numF p (numN p (k + 1) + 1) < numF p (k + 1) ∨ gb p (numN p (numN p (k + 1) + 1)) ≠ 125
  · rw [if_pos c5] at h0; exact absurd rfl h0
  rw [if_neg c5] at h0 hm ⊢
  have hm' : numN p (numN p (k + 1) + 1) + 1 ≤ k + m := hm
  obtain ⟨e1, e2, e3⟩ := num_digits (show 0 ≤ numF p (numN p (k + 1) + 1) by omega)
  have hal := h.from (j := 1) (by omega)
  obtain ⟨n1, n2⟩ := num_pre hal (by omega) (by omega)
  have hal2 := h.from (j := numN p (k + 1) + 1 - k) (by omega)
  rw [show k + (numN p (k + 1) + 1 - k) = numN p (k + 1) + 1 by omega, show k' + (numN p (k + 1) + 1 - k) = numN p' (k' + 1) + 1 by omega] at hal2
  obtain ⟨n3, n4⟩ := num_pre hal2 (by omega) (by omega)
  have hs := (gb_lt_iff p (numN p (numN p (k + 1) + 1))).1 (by omega)
  have g := gj (numN p (k + 1)) (by omega) (by omega)
  have g' := gj (numN p (k + 1) + 1) (by omega) (by omega)
  have g'' := gj (numN p (numN p (k + 1) + 1)) (by omega) (by omega)
  rw [show numN p (k + 1) - k + k' = numN p' (k' + 1) by omega] at g
  rw [show numN p (k + 1) + 1 - k + k' = numN p' (k' + 1) + 1 by omega] at g'
  rw [show numN p (numN p (k + 1) + 1) - k + k' = numN p' (numN p' (k' + 1) + 1) by omega] at g''
  rw [n1, if_neg c1, g, if_neg c2, if_neg c3, g', if_neg c4, n3, g'', if_neg c5]
  refine ⟨?_, by show k + 3 ≤ numN p (numN p (k + 1) + 1) + 1; omega, by show numN p (numN p (k + 1) + 1) + 1 ≤ p.size; omega⟩
  show (_, _, numN p' (numN p' (k' + 1) + 1) + 1) = (_, _, numN p (numN p (k + 1) + 1) + 1 - k + k')
  rw [show numN p (numN p (k + 1) + 1) + 1 - k + k' = numN p' (numN p' (k' + 1) + 1) + 1 by omega]

theorem tk_pre {p p' : ByteArray} {k k' m : Nat} {r : Tk} {n : Nat} (h : alike p k p' k' m) (hk : k < p.size) (ht : tk p k = some (r, n)) (hn : n ≤ k + m) : tk p' k' = some (r, n - k + k') ∧ k + 1 ≤ n ∧ n ≤ p.size := by
  have key : ∀ (_ : 0 < m), gb p' k' = gb p k := fun h0 => (h.at0 h0).symm
  unfold tk at ht ⊢
  cases hs : tkSign (gb p k) with
  | some s =>
    obtain ⟨a, lo, hi⟩ := s
    rw [hs] at ht
    obtain ⟨e1, e2⟩ := Prod.mk.inj (Option.some.inj ht)
    subst e2
    rw [key (by omega), hs, ← e1, show k + 1 - k + k' = k' + 1 by omega]
    exact ⟨rfl, by omega, by omega⟩
  | none =>
    rw [hs] at ht
    simp only at ht
    by_cases c1 : gb p k = 123
    · rw [if_pos c1] at ht
      by_cases c2 : (oftF p k).2.2 = 0
      · rw [if_pos c2] at ht; cases ht
      · rw [if_neg c2] at ht
        obtain ⟨e1, e2⟩ := Prod.mk.inj (Option.some.inj ht)
        subst e2
        obtain ⟨o1, o2, o3⟩ := oft_pre h c2 hn
        rw [key (by omega), hs]
        simp only
        rw [if_pos c1, o1, if_neg (show ¬ (oftF p k).2.2 - k + k' = 0 by omega), ← e1]
        exact ⟨rfl, by omega, o3⟩
    · rw [if_neg c1] at ht
      by_cases c3 : gb p k = 91
      · rw [if_pos c3] at ht
        cases hb : brk p k with
        | none => rw [hb] at ht; cases ht
        | some b =>
          rw [hb] at ht
          obtain ⟨e1, e2⟩ := Prod.mk.inj (Option.some.inj ht)
          subst e2
          have := brk_end hb
          rw [key (by omega), hs]
          simp only
          rw [if_neg c1, if_pos c3, brk_pre h hb hn, ← e1]
          exact ⟨rfl, by omega, by omega⟩
      · rw [if_neg c3] at ht
        by_cases c4 : gb p k = 92
        · rw [if_pos c4] at ht
          cases hb : behOk p k
          · rw [hb, if_neg (by decide)] at ht; cases ht
          · rw [hb, if_pos rfl] at ht
            obtain ⟨e1, e2⟩ := Prod.mk.inj (Option.some.inj ht)
            subst e2
            obtain ⟨b1, b2, b3, b4⟩ := beh_pre h hb hn
            have hle : behN p k ≤ p.size := by
              have hso : sinOk p k = true := by unfold sinOk; rw [if_pos c4]; exact hb
              have := sin_le hk hso
              unfold sinN at this
              rw [if_pos c4] at this
              exact this
            rw [key (by omega), hs]
            simp only
            rw [if_neg c1, if_neg c3, if_pos c4, b1, if_pos rfl, b2, ← e1, show behN p k - k + k' = behN p' k' by omega]
            exact ⟨rfl, by omega, hle⟩
        · rw [if_neg c4] at ht
          by_cases c5 : gb p k = 46
          · rw [if_pos c5] at ht
            obtain ⟨e1, e2⟩ := Prod.mk.inj (Option.some.inj ht)
            subst e2
            rw [key (by omega), hs]
            simp only
            rw [if_neg c1, if_neg c3, if_neg c4, if_pos c5, ← e1, show k + 1 - k + k' = k' + 1 by omega]
            exact ⟨rfl, by omega, by omega⟩
          · rw [if_neg c5] at ht
            obtain ⟨e1, e2⟩ := Prod.mk.inj (Option.some.inj ht)
            subst e2
            rw [key (by omega), hs]
            simp only
            rw [if_neg c1, if_neg c3, if_neg c4, if_neg c5, ← e1, show k + 1 - k + k' = k' + 1 by omega]
            exact ⟨rfl, by omega, by omega⟩
theorem tk_end {p : ByteArray} {k : Nat} {r : Tk} {n : Nat} (hk : k < p.size) (ht : tk p k = some (r, n)) : k + 1 ≤ n ∧ n ≤ p.size :=
  (tk_pre (p' := p) (k' := k) (m := n) (fun _ _ => rfl) hk ht (by omega)).2
/-- The code's answer, in these words. -/
theorem ct_tk (q : ByteArray) (_h : 1 ≤ q.size) : (∀ r n, tk q 0 = some (r, n) → ct q = (r, n)) ∧ (tk q 0 = none → (ct q).2 = 0) := by
  unfold tk ct
  cases hs : tkSign (gb q 0) with
  | some s => exact ⟨fun r n h => by obtain ⟨e1, e2⟩ := Prod.mk.inj (Option.some.inj h); rw [← e1, ← e2], fun h => by cases h⟩
  | none =>
    simp only
    by_cases c1 : gb q 0 = 123
    · rw [if_pos c1, if_pos c1]
      by_cases c2 : (oftF q 0).2.2 = 0
      · rw [if_pos c2]; exact ⟨fun r n h => (by cases h), fun _ => c2⟩
      · rw [if_neg c2, if_neg c2]; exact ⟨fun r n h => by obtain ⟨e1, e2⟩ := Prod.mk.inj (Option.some.inj h); rw [← e1, ← e2], fun h => by cases h⟩
    · rw [if_neg c1, if_neg c1]
      unfold stF stN
      have fin : ∀ (x : Tk) (m : Nat), (∀ r n, some (x, m) = some (r, n) → (x, m) = (r, n)) ∧ ((some (x, m) : Option (Tk × Nat)) = none → (x, m).2 = 0) := fun x m => ⟨fun r n h => Option.some.inj h, fun h => by cases h⟩
      by_cases c3 : gb q 0 = 91
      · have n46 : ¬ gb q 0 = 46 := by omega
        have n92 : ¬ gb q 0 = 92 := by omega
        simp only [if_pos c3, if_neg n46, if_neg n92]
        unfold brF brN
        cases hb : brk q 0 with
        | none => exact ⟨fun r n h => (by cases h), fun _ => by trivial⟩
        | some b => exact fin _ _
      · by_cases c4 : gb q 0 = 92
        · have n46 : ¬ gb q 0 = 46 := by omega
          simp only [if_neg c3, if_pos c4, if_neg n46]
          unfold esF esN
          cases hb : behOk q 0
          · simp only [Bool.false_eq_true, if_false]; exact ⟨fun r n h => (by cases h), fun _ => by trivial⟩
          · simp only [if_true]; exact fin _ _
        · by_cases c5 : gb q 0 = 46
          · simp only [if_neg c3, if_neg c4, if_pos c5]; exact fin _ _
          · simp only [if_neg c3, if_neg c4, if_neg c5]; exact fin _ _
theorem ct_tail (p : ByteArray) (k : Nat) (hk : k < p.size) : (∀ r n, tk p k = some (r, n) → ct (p.extract k p.size) = (r, n - k)) ∧ (tk p k = none → (ct (p.extract k p.size)).2 = 0) := by
  have hq : 1 ≤ (p.extract k p.size).size := by simp; omega
  obtain ⟨c1, c2⟩ := ct_tk (p.extract k p.size) hq
  constructor
  · intro r n h
    have := (tk_pre (tail_alike p k n).symm hk h (by omega)).1
    rw [Nat.add_zero] at this
    exact c1 _ _ this
  · intro h
    cases ht : tk (p.extract k p.size) 0 with
    | none => exact c2 ht
    | some x =>
      obtain ⟨r, n⟩ := x
      have := (tk_pre (tail_alike p k n) (by omega) ht (by omega)).1
      rw [h] at this; cases this
end Go.Proofs.YtgjpmfdiidkdnaaDoor

namespace Go.Proofs.YtgjpmfdiidkdnaaDoor
open Go.RowKit

/-- A token with its place. -/
abbrev Tka := Int × Int × (Nat → Bool) × Int × Int
def tka (i : Nat) (r : Tk) : Tka := (r.1, (i : Int), r.2.1, r.2.2.1, r.2.2.2)
/-- Token by token: the row; or the place of the first that cannot be made. -/
def tksL (p : ByteArray) : Nat → Nat → List Tka → Option (List Tka) × Nat
  | 0, _, _ => (none, 0)
  | u + 1, i, acc => if p.size ≤ i then (some acc, 0) else match tk p i with | some (r, n) => tksL p u n (acc ++ [tka i r]) | none => (none, i)
def toks (p : ByteArray) : Option (List Tka) × Nat := tksL p (p.size + 1) 0 []
theorem tksL_end {p : ByteArray} {u i : Nat} {acc : List Tka} (h : p.size ≤ i) (hu : 0 < u) : tksL p u i acc = (some acc, 0) := by
  obtain ⟨v, rfl⟩ : ∃ v, u = v + 1 := ⟨u - 1, by omega⟩
  unfold tksL
  rw [if_pos h]
theorem tksL_step {p : ByteArray} {u i : Nat} {acc : List Tka} {r : Tk} {n : Nat} (h : i < p.size) (ht : tk p i = some (r, n)) : tksL p (u + 1) i acc = tksL p u n (acc ++ [tka i r]) := by
  conv => lhs; unfold tksL
  rw [if_neg (by omega), ht]
theorem tksL_bad {p : ByteArray} {u i : Nat} {acc : List Tka} (h : i < p.size) (ht : tk p i = none) (hu : 0 < u) : tksL p u i acc = (none, i) := by
  obtain ⟨v, rfl⟩ : ∃ v, u = v + 1 := ⟨u - 1, by omega⟩
  unfold tksL
  rw [if_neg (by omega), ht]

/-- A token's cells. -/
def tcs (r : Tka) : List Value := [.int .i64 r.1, .int .i64 r.2.1, .int .u64 (wd r.2.2.1 0 : Int), .int .u64 (wd r.2.2.1 1 : Int), .int .u64 (wd r.2.2.1 2 : Int), .int .u64 (wd r.2.2.1 3 : Int), .int .i64 r.2.2.2.1, .int .i64 r.2.2.2.2]
def tvs (l : List Tka) : List Value := l.flatMap tcs
theorem tvs_append (a b : List Tka) : tvs (a ++ b) = tvs a ++ tvs b := by simp [tvs]
theorem tvs_one (r : Tka) : tvs [r] = tcs r := by simp [tvs]
theorem tvs_get (l : List Tka) (j : Nat) (h : j < l.length) (x : Nat) (hx : x < 8) : (tvs l)[j * 8 + x]? = (tcs l[j])[x]? := by
  induction l generalizing j with
  | nil => simp at h
  | cons r l ih =>
    have e : tvs (r :: l) = tcs r ++ tvs l := rfl
    have e8 : (tcs r).length = 8 := rfl
    rw [e]
    cases j with
    | zero => rw [List.getElem?_append_left (by omega)]; simp
    | succ j =>
      rw [List.getElem?_append_right (by omega), e8, show (j + 1) * 8 + x - 8 = j * 8 + x by omega]
      exact ih j (by simpa using h)
theorem rdT_of_owns {w : World} {base : Nat} {e : TypeId} {v : Value} {l : List Tka} (h : w.ownsRow base e 8 v l.length (tvs l)) : rdT w v l := by
  have hlt := h.lt
  rcases h.2 with ⟨rfl, h0⟩ | ⟨g, cap, cur, rfl, _, _, _, _, _, _⟩
  · exact .inl ⟨rfl, List.length_eq_zero_iff.1 h0⟩
  · refine .inr ⟨g, 0, cap, rfl, (hlt g rfl).2, fun j hj => ?_⟩
    have c : ∀ x, x < 8 → ∀ v, (tcs l[j])[x]? = some v → w.cell? ⟨g, 0 + j * 8 + x, none⟩ = some v := fun x hx v hv => by
      rw [Nat.zero_add, h.cellAt (j * 8 + x) (by omega), tvs_get l j hj x hx]
      exact hv
    exact ⟨c 0 (by omega) _ rfl, c 1 (by omega) _ rfl, c 2 (by omega) _ rfl, c 3 (by omega) _ rfl, c 4 (by omega) _ rfl, c 5 (by omega) _ rfl, c 6 (by omega) _ rfl, c 7 (by omega) _ rfl⟩
theorem infoTok : (Tryd.prog.info? 38).map (fun i => (i.zero, i.size, i.bytes)) = some (some (.agg #[.int .i64 0, .int .i64 0, .int .u64 0, .int .u64 0, .int .u64 0, .int .u64 0, .int .i64 0, .int .i64 0]), 8, 64) := by kernel_rfl
end Go.Proofs.YtgjpmfdiidkdnaaDoor

namespace Go.Proofs.YtgjpmfdiidkdnaaDoor
open Go.RowKit

/-- A row of tokens that lie one behind the other, from a place to the text's end. -/
def chain (p : ByteArray) : List Tka → Nat → Prop
  | [], i => p.size ≤ i
  | t :: l, i => ∃ r n, tk p i = some (r, n) ∧ t = tka i r ∧ i < p.size ∧ chain p l n
theorem tksL_chain {p : ByteArray} : ∀ {u i : Nat} {acc l : List Tka} {m : Nat}, tksL p u i acc = (some l, m) → ∃ l', l = acc ++ l' ∧ chain p l' i ∧ m = 0
  | 0, i, acc, l, m, h => by cases h
  | u + 1, i, acc, l, m, h => by
    unfold tksL at h
    by_cases h1 : p.size ≤ i
    · rw [if_pos h1] at h
      obtain ⟨e1, e2⟩ := Prod.mk.inj h
      exact ⟨[], by rw [List.append_nil]; exact (Option.some.inj e1).symm, h1, e2.symm⟩
    · rw [if_neg h1] at h
      cases ht : tk p i with
      | none => rw [ht] at h; exact absurd (Prod.mk.inj h).1 (by simp)
      | some x =>
        obtain ⟨r, n⟩ := x
        rw [ht] at h
        obtain ⟨l', e1, e2, e3⟩ := tksL_chain h
        exact ⟨tka i r :: l', by rw [e1, List.append_assoc]; rfl, ⟨r, n, ht, rfl, by omega, e2⟩, e3⟩
theorem chain_tksL {p : ByteArray} : ∀ {l : List Tka} {i u : Nat} {acc : List Tka}, chain p l i → p.size + 1 ≤ u + i → 0 < u → tksL p u i acc = (some (acc ++ l), 0)
  | [], i, u, acc, h, _, h0 => by rw [tksL_end h h0, List.append_nil]
  | t :: l, i, u, acc, h, hu, h0 => by
    obtain ⟨r, n, ht, rfl, hi, hc⟩ := h
    obtain ⟨v, rfl⟩ : ∃ v, u = v + 1 := ⟨u - 1, by omega⟩
    have := tk_end hi ht
    rw [tksL_step hi ht]
    rw [chain_tksL hc (by omega) (by omega), List.append_assoc]
    rfl
theorem toks_chain {p : ByteArray} {l : List Tka} {m : Nat} (h : toks p = (some l, m)) : chain p l 0 ∧ m = 0 := by
  obtain ⟨l', e1, e2, e3⟩ := tksL_chain h
  rw [List.nil_append] at e1
  subst e1
  exact ⟨e2, e3⟩
theorem chain_toks {p : ByteArray} {l : List Tka} (h : chain p l 0) : toks p = (some l, 0) := by
  unfold toks
  rw [chain_tksL h (by omega) (by omega), List.nil_append]
theorem chain_at {p : ByteArray} : ∀ {l : List Tka} {i : Nat}, chain p l i → ∀ j (hj : j < l.length), ∃ (k n : Nat) (r : Tk), l[j] = tka k r ∧ tk p k = some (r, n) ∧ k < p.size ∧ (j = 0 → k = i) ∧ (∀ h : j + 1 < l.length, l[j + 1].2.1 = (n : Int)) ∧ (j + 1 = l.length → p.size ≤ n)
  | [], i, h, j, hj => by simp at hj
  | t :: l, i, h, 0, hj => by
    obtain ⟨r, n, ht, rfl, hi, hc⟩ := h
    refine ⟨i, n, r, rfl, ht, hi, fun _ => rfl, fun h1 => ?_, fun h1 => ?_⟩
    · match l, hc, h1 with
      | t2 :: l2, hc, h1 =>
        obtain ⟨r2, n2, ht2, rfl, _, _⟩ := hc
        rfl
    · match l, hc, h1 with
      | [], hc, h1 => exact hc
  | t :: l, i, h, j + 1, hj => by
    obtain ⟨r, n, ht, rfl, hi, hc⟩ := h
    obtain ⟨k, n', r', e1, e2, e3, e4, e5, e6⟩ := chain_at hc j (by simpa using hj)
    refine ⟨k, n', r', by simpa using e1, e2, e3, fun h => (by omega), fun h1 => ?_, fun h1 => ?_⟩
    · have := e5 (by simpa using h1)
      simpa using this
    · exact e6 (by simpa using h1)
/-- The bytes of one token, alone. -/
theorem piece_one {p : ByteArray} {k n : Nat} {r : Tk} (hk : k < p.size) (ht : tk p k = some (r, n)) : toks (p.extract k n) = (some [tka 0 r], 0) := by
  obtain ⟨h1, h2⟩ := tk_end hk ht
  have hs : (p.extract k n).size = n - k := by simp; omega
  have hal : alike p k (p.extract k n) 0 (n - k) := fun i hi => by rw [Nat.zero_add, gb_extract, if_pos (by omega)]
  have := (tk_pre hal hk ht (by omega)).1
  rw [Nat.add_zero] at this
  apply chain_toks
  exact ⟨r, n - k, this, rfl, by omega, by show (p.extract k n).size ≤ n - k; omega⟩
theorem pieces {p : ByteArray} {l : List Tka} {m : Nat} (h : toks p = (some l, m)) (j : Nat) (hj : j < l.length) :
    ∃ (k n : Nat) (r : Tk), l[j] = tka k r ∧ k < n ∧ n ≤ p.size ∧ (j = 0 → k = 0) ∧ (∀ h : j + 1 < l.length, l[j + 1].2.1 = (n : Int)) ∧ (j + 1 = l.length → n = p.size) ∧ toks (p.extract k n) = (some [tka 0 r], 0) := by
  obtain ⟨k, n, r, e1, e2, e3, e4, e5, e6⟩ := chain_at (toks_chain h).1 j hj
  obtain ⟨h1, h2⟩ := tk_end e3 e2
  exact ⟨k, n, r, e1, by omega, h2, e4, e5, fun h' => by have := e6 h'; omega, piece_one e3 e2⟩
theorem toks_empty {p : ByteArray} {l : List Tka} {m : Nat} (h : toks p = (some l, m)) : l.length = 0 ↔ p.size = 0 := by
  have hc := (toks_chain h).1
  match l, hc with
  | [], hc =>
    have hc' : p.size ≤ 0 := hc
    exact ⟨fun _ => by omega, fun _ => rfl⟩
  | t :: l, hc =>
    obtain ⟨r, n, _, _, hi, _⟩ := hc
    exact ⟨fun h => by simp at h, fun h => by omega⟩

theorem chain_length {p : ByteArray} : ∀ {l : List Tka} {i : Nat}, chain p l i → l.length ≤ p.size - i
  | [], i, _ => Nat.zero_le _
  | t :: l, i, h => by
    obtain ⟨r, n, ht, _, hi, hc⟩ := h
    have := chain_length hc
    have := tk_end hi ht
    simp only [List.length_cons]
    omega
theorem toks_length {p : ByteArray} {l : List Tka} {m : Nat} (h : toks p = (some l, m)) : l.length ≤ p.size := by
  have := chain_length (toks_chain h).1
  omega

/-- A token, further on. -/
def moved (d : Nat) (t : Tka) : Tka := (t.1, t.2.1 + (d : Int), t.2.2.1, t.2.2.2.1, t.2.2.2.2)
theorem moved_tka (d k : Nat) (r : Tk) : moved d (tka k r) = tka (k + d) r := by
  unfold moved tka
  simp
theorem gb_append_left (p q : ByteArray) (i : Nat) (h : i < p.size) : gb (p ++ q) i = gb p i := by
  have h2 : i < (p ++ q).size := by rw [ByteArray.size_append]; omega
  rw [← gb_in h, ← gb_in h2, ByteArray.getElem_append_left h]
theorem gb_append_right (p q : ByteArray) (i : Nat) : gb (p ++ q) (p.size + i) = gb q i := by
  by_cases h : i < q.size
  · have h2 : p.size + i < (p ++ q).size := by rw [ByteArray.size_append]; omega
    rw [← gb_in h, ← gb_in h2, ByteArray.getElem_append_right (by omega)]
    congr 2
    omega
  · have h3 : (p ++ q).size = p.size + q.size := ByteArray.size_append
    rw [gb_out (p := p ++ q) (by omega), gb_out (p := q) (by omega)]
theorem chain_right {p q : ByteArray} : ∀ {l : List Tka} {i : Nat}, chain q l i → chain (p ++ q) (l.map (moved p.size)) (i + p.size)
  | [], i, h => by
    have h' : q.size ≤ i := h
    show (p ++ q).size ≤ i + p.size
    rw [ByteArray.size_append]; omega
  | t :: l, i, h => by
    obtain ⟨r, n, ht, rfl, hi, hc⟩ := h
    obtain ⟨h1, h2⟩ := tk_end hi ht
    have hal : alike q i (p ++ q) (i + p.size) (n - i) := fun x hx => by
      rw [show i + p.size + x = p.size + (i + x) by omega, gb_append_right]
    have := (tk_pre hal hi ht (by omega)).1
    rw [show n - i + (i + p.size) = n + p.size by omega] at this
    exact ⟨r, n + p.size, this, moved_tka _ _ _, by rw [ByteArray.size_append]; omega, chain_right hc⟩
theorem chain_left {p q : ByteArray} {m : List Tka} (hq : chain (p ++ q) m p.size) : ∀ {l : List Tka} {i : Nat}, i ≤ p.size → chain p l i → chain (p ++ q) (l ++ m) i
  | [], i, hi, h => by
    have h' : p.size ≤ i := h
    rw [List.nil_append, show i = p.size by omega]
    exact hq
  | t :: l, i, _, h => by
    obtain ⟨r, n, ht, rfl, hi, hc⟩ := h
    obtain ⟨h1, h2⟩ := tk_end hi ht
    have hal : alike p i (p ++ q) i (n - i) := fun x hx => (gb_append_left p q (i + x) (by omega)).symm
    have := (tk_pre hal hi ht (by omega)).1
    rw [show n - i + i = n by omega] at this
    exact ⟨r, n, this, rfl, by rw [ByteArray.size_append]; omega, chain_left hq h2 hc⟩
/-- Two rows, one behind the other. -/
theorem toks_join {p q : ByteArray} {l m : List Tka} {a b : Nat} (hp : toks p = (some l, a)) (hq : toks q = (some m, b)) : toks (p ++ q) = (some (l ++ m.map (moved p.size)), 0) := by
  have h1 := (toks_chain hp).1
  have h2 := chain_right (p := p) (toks_chain hq).1
  rw [Nat.zero_add] at h2
  exact chain_toks (chain_left h2 (Nat.zero_le _) h1)
end Go.Proofs.YtgjpmfdiidkdnaaDoor

namespace Go.Proofs.YtgjpmfdiidkdnaaDoor

/-- The bytes that stand in a text from a place on. -/
def has (p : ByteArray) (k : Nat) (s : List Nat) : Prop := ∀ i (h : i < s.length), gb p (k + i) = s[i] ∧ s[i] < 256
theorem has.head {p : ByteArray} {k c : Nat} {s : List Nat} (h : has p k (c :: s)) : gb p k = c ∧ c < 256 := h 0 (by simp)
theorem has.tail {p : ByteArray} {k c : Nat} {s : List Nat} (h : has p k (c :: s)) : has p (k + 1) s := fun i hi => by
  have := h (i + 1) (by simp; omega)
  simpa [show k + 1 + i = k + (i + 1) by omega] using this
theorem has.left {p : ByteArray} {k : Nat} {s t : List Nat} (h : has p k (s ++ t)) : has p k s := fun i hi => by
  have := h i (by simp; omega)
  simpa [List.getElem_append_left hi] using this
theorem has.right {p : ByteArray} {k : Nat} {s t : List Nat} (h : has p k (s ++ t)) : has p (k + s.length) t := fun i hi => by
  have := h (s.length + i) (by simp; omega)
  simpa [Nat.add_assoc] using this
theorem has.lt {p : ByteArray} {k c : Nat} {s : List Nat} (h : has p k (c :: s)) : k < p.size := by
  have h1 := h.head
  rw [← gb_lt_iff, h1.1]; exact h1.2

theorem hex_tab : ∀ b, b < 256 → 0 ≤ dig16 (hxd (b / 16)) ∧ 0 ≤ dig16 (hxd (b % 16)) ∧ (dig16 (hxd (b / 16)) * 16 + dig16 (hxd (b % 16))).toNat = b := by decide +kernel
theorem sign_tab0 : ∀ c, c < 256 → (plainB c || (c != 110 && c != 116 && c != 114 && c != 100 && c != 115 && c != 119 && c != 68 && c != 83 && c != 87 && c != 120 && !isA c)) = true := by decide +kernel
theorem sign_tab (c : Nat) (hc : c < 256) (h : plainB c = false) : escOk c = true ∧ c ≠ 120 ∧ escF c = (fun k => decide (k = c)) := by
  have h1 := sign_tab0 c hc
  rw [h, Bool.false_or] at h1
  simp only [Bool.and_eq_true, bne_iff_ne, ne_eq, Bool.not_eq_true'] at h1
  obtain ⟨⟨⟨⟨⟨⟨⟨⟨⟨⟨a1, a2⟩, a3⟩, a4⟩, a5⟩, a6⟩, a7⟩, a8⟩, a9⟩, a10⟩, a11⟩ := h1
  refine ⟨by unfold escOk; simp [a11], a10, ?_⟩
  unfold escF
  simp [a1, a2, a3, a4, a5, a6, a7, a8, a9, a11]
theorem plain_tab : ∀ c, c < 256 → (!plainB c || (tkSign c == none && c != 123 && c != 91 && c != 92 && c != 46)) = true := by decide +kernel
theorem end_head (b : Nat) (hb : b < 256) : ∃ c s, endL b = c :: s ∧ c < 256 ∧ c ≠ 45 ∧ c ≠ 93 ∧ c ≠ 94 ∧ c ≠ 91 ∧ (c = 92 ∨ plainB c = true) := by
  unfold endL
  cases h : plainB b
  · exact ⟨92, _, by rw [if_neg (by decide)], by decide, by decide, by decide, by decide, by decide, .inl rfl⟩
  · refine ⟨b, [], by rw [if_pos rfl], hb, ?_, ?_, ?_, ?_, .inr h⟩ <;> (intro e; subst e; revert h; decide)
theorem beh_end {p : ByteArray} {k b : Nat} (hb : b < 256) (h : has p k [92, 120, hxd (b / 16), hxd (b % 16)]) : behOk p k = true ∧ behN p k = k + 4 ∧ behF p k = oneR b := by
  obtain ⟨t1, t2, t3⟩ := hex_tab b hb
  have g1 := h.tail.head.1
  have g2 := h.tail.tail.head.1
  have g3 := h.tail.tail.tail.head.1
  have l3 := h.tail.tail.tail.lt
  have e2 : k + 1 + 1 = k + 2 := rfl
  have e3 : k + 1 + 1 + 1 = k + 3 := rfl
  rw [e2] at g2
  rw [e3] at g3 l3
  have c1 : ¬ p.size ≤ k + 1 := by omega
  have c2 : ¬ gb p (k + 1) ≠ 120 := by simp [g1]
  have hn : ¬ (p.size ≤ k + 3 ∨ dig16 (hxd (b / 16)) < 0 ∨ dig16 (hxd (b % 16)) < 0) := by omega
  unfold behOk behN behF
  simp only [if_neg c1, if_neg c2, g2, g3, if_neg hn, t3]
  refine ⟨?_, ?_, ?_⟩ <;> first | trivial | rfl
/-- An end of a run as an item of a bracket. -/
theorem sin_end {p : ByteArray} {k b : Nat} (hb : b < 256) (h : has p k (endL b)) : sinOk p k = true ∧ sinN p k = k + (endL b).length ∧ sinF p k = oneR b ∧ sinNm p k = false := by
  unfold endL at h ⊢
  cases hpl : plainB b
  · rw [hpl, if_neg (by decide)] at h
    rw [if_neg (by decide)]
    obtain ⟨b1, b2, b3⟩ := beh_end hb h
    have g0 := h.head.1
    unfold sinOk sinN sinF sinNm
    rw [if_pos g0, if_pos g0, if_pos g0, if_pos g0]
    exact ⟨b1, b2, b3, rfl⟩
  · rw [hpl, if_pos rfl] at h
    rw [if_pos rfl]
    have g0 := h.head.1
    have n1 : ¬ gb p k = 92 := by rw [g0]; intro e; subst e; revert hpl; decide
    have n2 : ¬ (gb p k = 91 ∧ gb p (k + 1) = 58) := by rw [g0]; rintro ⟨e, -⟩; subst e; revert hpl; decide
    unfold sinOk sinN sinF sinNm
    rw [if_neg n1, if_neg n1, if_neg n1, if_neg n1, if_neg n2, if_neg n2, if_neg n2, if_neg n2, g0]
    exact ⟨rfl, rfl, rfl, rfl⟩
theorem bl_one (b : Nat) (hb : b < 256) : bl (oneR b) 256 = [b] := by
  have h : ∀ n, bl (oneR b) n = if b < n then [b] else [] := by
    intro n
    induction n with
    | zero => simp [bl]
    | succ n ih =>
      by_cases hn : b = n
      · rw [bl_hit _ _ (by simp [oneR, hn]), ih, if_neg (by omega), if_pos (by omega), hn]; rfl
      · rw [bl_miss _ _ (by unfold oneR; cases h1 : decide (b ≤ n) <;> cases h2 : decide (n ≤ b) <;> simp_all; omega), ih]
        by_cases h1 : b < n
        · rw [if_pos h1, if_pos (by omega)]
        · rw [if_neg h1, if_neg (by omega)]
  rw [h, if_pos hb]
theorem one_end {p : ByteArray} {k b : Nat} (hb : b < 256) (h : has p k (endL b)) : oneF (sinF p k) (sinNm p k) = (b : Int) := by
  obtain ⟨-, -, h3, h4⟩ := sin_end hb h
  unfold oneF
  rw [h3, h4, bl_one b hb]
  rfl
/-- An end of a run that no hyphen follows. -/
theorem it_end {p : ByteArray} {k b : Nat} (hb : b < 256) (h : has p k (endL b)) (hn : gb p (k + (endL b).length) ≠ 45) : itOk p k = true ∧ itN p k = k + (endL b).length ∧ itF p k = fun x => decide (b ≤ x) && decide (x ≤ b) := by
  obtain ⟨h1, h2, h3, h4⟩ := sin_end hb h
  have hh : itHyp p k = false := by
    unfold itHyp
    rw [h2, beq_eq_false_iff_ne.2 hn]; simp
  unfold itOk itN itF
  rw [hh, h1, h2, h3]
  exact ⟨rfl, rfl, rfl⟩
/-- Two ends with a hyphen between. -/
theorem it_two {p : ByteArray} {k a b : Nat} (ha : a < 256) (hb : b < 256) (hab : a ≤ b) (h : has p k (endL a ++ 45 :: endL b)) :
    itOk p k = true ∧ itN p k = k + (endL a ++ 45 :: endL b).length ∧ itF p k = fun x => decide (a ≤ x) && decide (x ≤ b) := by
  have hA := h.left
  have hH := h.right
  have hB := hH.tail
  obtain ⟨a1, a2, a3, a4⟩ := sin_end ha hA
  obtain ⟨b1, b2, b3, b4⟩ := sin_end hb hB
  obtain ⟨c, s, hc, hc1, hc2, hc3, -⟩ := end_head b hb
  have hB' := hB
  rw [hc] at hB'
  have g1 := hB'.head.1
  have l1 := hB'.lt
  have oA := one_end ha hA
  have oB := one_end hb hB
  have hh : itHyp p k = true := by
    unfold itHyp
    rw [oA, a2, hH.head.1, g1]
    have : k + (endL a).length + 1 < p.size := l1
    simp [this, hc3]
  have e1 : itLo p k = (a : Int) := oA
  have e2 : itHi p k = (b : Int) := by unfold itHi; rw [a2]; exact oB
  unfold itOk itN itF
  rw [hh, a1, a2, b1, b2, e1, e2]
  refine ⟨by simp; omega, by rw [if_pos rfl, List.length_append, List.length_cons]; omega, ?_⟩
  funext x
  simp

theorem run_head (r : Nat × Nat) (h : r.1 < 256) : ∃ c s, runL r = c :: s ∧ c ≠ 45 ∧ c ≠ 93 ∧ c ≠ 94 := by
  obtain ⟨c, s, hc, h1, h2, h3, h4, -⟩ := end_head r.1 h
  exact ⟨c, _, by unfold runL; rw [hc]; rfl, h2, h3, h4⟩
theorem runs_next (l : List (Nat × Nat)) (hl : ∀ r, r ∈ l → r.1 < 256) : ∃ c s, l.flatMap runL ++ [93] = c :: s ∧ c ≠ 45 ∧ c ≠ 94 := by
  cases l with
  | nil => exact ⟨93, [], rfl, by decide, by decide⟩
  | cons r l =>
    obtain ⟨c, s, hc, h1, h2, h3⟩ := run_head r (hl r (by simp))
    exact ⟨c, s ++ l.flatMap runL ++ [93], by rw [List.flatMap_cons, hc]; simp, h1, h3⟩
theorem brk_runs {p : ByteArray} : ∀ (l : List (Nat × Nat)), (∀ r, r ∈ l → r.1 ≤ r.2 ∧ r.2 < 256) → ∀ (i u : Nat) (f : Nat → Bool), has p i (l.flatMap runL ++ [93]) → p.size + 1 ≤ u + i →
    ∃ g, brkL p u i f = some (g, i + (l.flatMap runL ++ [93]).length) ∧ ∀ x, g x = (f x || inU l x) := by
  intro l
  induction l with
  | nil =>
    intro _ i u f h hu
    have h0 := h.head.1
    have hl := h.lt
    obtain ⟨v, rfl⟩ : ∃ v, u = v + 1 := ⟨u - 1, by omega⟩
    exact ⟨f, brkL_hit hl h0, fun x => by simp [inU]⟩
  | cons r l ih =>
    intro hl i u f h hu
    obtain ⟨r1, r2⟩ := hl r (by simp)
    have hl' : ∀ r, r ∈ l → r.1 ≤ r.2 ∧ r.2 < 256 := fun r hr => hl r (by simp [hr])
    rw [List.flatMap_cons, List.append_assoc] at h
    have hR := h.left
    have hT := h.right
    obtain ⟨c0, s0, e0, n1, n2, n3⟩ := run_head r (by omega)
    have hR' := hR
    rw [e0] at hR'
    have hi := hR'.lt
    have hi0 := hR'.head.1
    obtain ⟨cn, sn, en, m1, m2⟩ := runs_next l (fun r hr => by have := hl' r hr; omega)
    have hT' := hT
    rw [en] at hT'
    have hnx := hT'.head.1
    obtain ⟨v, rfl⟩ : ∃ v, u = v + 1 := ⟨u - 1, by omega⟩
    have hlen : (l.flatMap runL ++ [93]).length + (runL r).length = ((r :: l).flatMap runL ++ [93]).length := by simp [List.flatMap_cons]; omega
    have hin : ∀ x, inU (r :: l) x = ((decide (r.1 ≤ x) && decide (x ≤ r.2)) || inU l x) := fun x => by simp [inU]
    -- one item, or two
    by_cases c1 : r.2 = r.1 + 1
    · have eR : runL r = endL r.1 ++ endL r.2 := by unfold runL; rw [if_pos c1]
      rw [eR] at hR hT hlen hnx
      have hA := hR.left
      have hB := hR.right
      obtain ⟨cb, sb, eb, nb1, nb2, nb3, nb4, nb5, -⟩ := end_head r.2 r2
      have hB' := hB
      rw [eb] at hB'
      obtain ⟨a1, a2, a3⟩ := it_end (by omega) hA (by rw [hB'.head.1]; exact nb2)
      obtain ⟨b1, b2, b3⟩ := it_end r2 hB (by rw [Nat.add_assoc, ← List.length_append, hnx]; exact m1)
      have z1 := end_len r.1
      have z2 := end_len r.2
      obtain ⟨v', rfl⟩ : ∃ v', v = v' + 1 := ⟨v - 1, by have := hB'.lt; omega⟩
      rw [brkL_step hi (by rw [hi0]; exact n2) a1, a2, brkL_step hB'.lt (by rw [hB'.head.1]; exact nb3) b1, b2]
      have eL : (endL r.1 ++ endL r.2).length = (endL r.1).length + (endL r.2).length := List.length_append
      rw [eL] at hT hlen
      obtain ⟨g, hg, hx⟩ := ih hl' (i + (endL r.1).length + (endL r.2).length) v' _ (by rw [Nat.add_assoc]; exact hT) (by omega)
      refine ⟨g, by rw [hg]; congr 2; omega, fun x => ?_⟩
      rw [hx, a3, b3, hin, Bool.or_assoc, Bool.or_assoc]
      congr 1
      rw [← Bool.or_assoc]
      congr 1
      rw [Bool.eq_iff_iff]; simp; omega
    · by_cases c2 : r.1 + 1 < r.2
      · have eR : runL r = endL r.1 ++ 45 :: endL r.2 := by unfold runL; rw [if_neg c1, if_pos c2]
        rw [eR] at hR hT hlen
        obtain ⟨a1, a2, a3⟩ := it_two (by omega) r2 r1 hR
        rw [brkL_step hi (by rw [hi0]; exact n2) a1, a2]
        have z1 : 1 ≤ (endL r.1 ++ 45 :: endL r.2).length := by simp; omega
        obtain ⟨g, hg, hx⟩ := ih hl' (i + (endL r.1 ++ 45 :: endL r.2).length) v _ hT (by omega)
        refine ⟨g, by rw [hg]; congr 2; omega, fun x => ?_⟩
        rw [hx, a3, hin, Bool.or_assoc]
      · have c3 : r.2 = r.1 := by omega
        have eR : runL r = endL r.1 := by unfold runL; rw [if_neg c1, if_neg c2, List.append_nil]
        rw [eR] at hR hT hlen hnx
        obtain ⟨a1, a2, a3⟩ := it_end (by omega) hR (by rw [hnx]; exact m1)
        rw [brkL_step hi (by rw [hi0]; exact n2) a1, a2]
        have z1 := end_len r.1
        obtain ⟨g, hg, hx⟩ := ih hl' (i + (endL r.1).length) v _ hT (by omega)
        refine ⟨g, by rw [hg]; congr 2; omega, fun x => ?_⟩
        rw [hx, a3, hin, Bool.or_assoc, c3]

theorem bl_all (f : Nat → Bool) (y : Nat) : ∀ n, y < n → f y = false → ((bl f n).length + 1 ≤ n ∧ ((bl f n).length + 1 = n → ∀ x, x < n → x ≠ y → f x = true)) := by
  have full : ∀ n, (bl f n).length = n → ∀ x, x < n → f x = true := by
    intro n
    induction n with
    | zero => intro _ x hx; omega
    | succ n ih =>
      intro h x hx
      have hle := bl_le f n
      cases hf : f n
      · rw [bl_miss f n hf] at h; omega
      · rw [bl_hit f n hf, List.length_append] at h
        by_cases hxn : x = n
        · rw [hxn]; exact hf
        · exact ih (by simpa using h) x (by omega)
  intro n
  induction n with
  | zero => intro h; omega
  | succ n ih =>
    intro hy hf
    have hle := bl_le f n
    by_cases hyn : y = n
    · subst hyn
      rw [bl_miss f y hf]
      exact ⟨by omega, fun h x hx hxy => full y (by omega) x (by omega)⟩
    · obtain ⟨i1, i2⟩ := ih (by omega) hf
      cases hfn : f n
      · rw [bl_miss f n hfn]
        exact ⟨by omega, fun h => by omega⟩
      · rw [bl_hit f n hfn, List.length_append]
        refine ⟨by simp; omega, fun h x hx hxy => ?_⟩
        by_cases hxn : x = n
        · rw [hxn]; exact hfn
        · exact i2 (by simpa using h) x (by omega) hxy
theorem bl_mem {f : Nat → Bool} {x : Nat} (hx : x < 256) : x ∈ bl f 256 ↔ f x = true := by unfold bl; rw [List.mem_filter, List.mem_range]; simp [hx]
theorem tk_back {p : ByteArray} {k : Nat} (h : gb p k = 92) : tk p k = if behOk p k = true then some ((1, behF p k, 0, 0), behN p k) else none := by unfold tk; rw [h]; rfl
theorem tk_brk {p : ByteArray} {k : Nat} (h : gb p k = 91) : tk p k = (brk p k).map fun r => ((1, r.1, 0, 0), r.2) := by unfold tk; rw [h]; rfl
/-- A set's text is one token, that set, wherever it stands. -/
theorem tk_set {p : ByteArray} {k : Nat} (f : Nat → Bool) (h : has p k (setL f)) : ∃ F, tk p k = some ((1, F, 0, 0), k + (setL f).length) ∧ ∀ x, x < 256 → F x = f x := by
  unfold setL at h ⊢
  by_cases c1 : (bl f 256).length = 255 ∧ f 10 = false
  · rw [if_pos c1] at h ⊢
    have g0 := h.head.1
    refine ⟨dotF, by unfold tk; rw [g0]; rfl, fun x hx => ?_⟩
    unfold dotF
    by_cases hx10 : x = 10
    · rw [hx10, c1.2]; rfl
    · rw [(bl_all f 10 256 (by decide) c1.2).2 (by omega) x hx hx10]; simp [hx10]
  rw [if_neg c1] at h ⊢
  by_cases c2 : (bl f 256).length = 1
  · rw [if_pos c2] at h ⊢
    obtain ⟨c, hc⟩ : ∃ c, bl f 256 = [c] := List.length_eq_one_iff.1 c2
    have hc0 : (bl f 256).headD 0 = c := by rw [hc]; rfl
    have hc256 : c < 256 := bl_bytes f 256 c (by rw [hc]; simp)
    have hfc : ∀ x, x < 256 → oneR c x = f x := fun x hx => by
      have := bl_mem (f := f) hx
      rw [hc, List.mem_singleton] at this
      rw [Bool.eq_iff_iff, ← this]
      simp [oneR]; omega
    rw [hc0] at h ⊢
    by_cases c3 : 33 ≤ c ∧ c ≤ 126 ∧ plainB c = false
    · rw [if_pos c3] at h ⊢
      obtain ⟨t1, t2, t3⟩ := sign_tab c hc256 c3.2.2
      have g0 := h.head.1
      have g1 := h.tail.head.1
      have l1 := h.tail.lt
      refine ⟨fun x => decide (x = c), ?_, fun x hx => ?_⟩
      · have b1 : behOk p k = true := by unfold behOk; rw [if_neg (by omega), if_pos (by rw [g1]; exact t2), g1]; exact t1
        have b2 : behN p k = k + 2 := by unfold behN; rw [if_neg (by omega), if_pos (by rw [g1]; exact t2)]
        have b3 : behF p k = fun x => decide (x = c) := by unfold behF; rw [if_neg (by omega), if_pos (by rw [g1]; exact t2), g1]; exact t3
        rw [tk_back g0, if_pos b1, b2, b3]; rfl
      · rw [← hfc x hx]; unfold oneR; rw [Bool.eq_iff_iff]; simp; omega
    · rw [if_neg c3] at h ⊢
      refine ⟨oneR c, ?_, hfc⟩
      unfold endL at h ⊢
      cases hpl : plainB c
      · rw [hpl, if_neg (by decide)] at h
        rw [if_neg (by decide)]
        obtain ⟨b1, b2, b3⟩ := beh_end hc256 h
        rw [tk_back h.head.1, if_pos b1, b2, b3]; rfl
      · rw [hpl, if_pos rfl] at h
        rw [if_pos rfl]
        have n : tkSign c = none ∧ c ≠ 123 ∧ c ≠ 91 ∧ c ≠ 92 ∧ c ≠ 46 := by
          have h1 := plain_tab c hc256
          rw [hpl, Bool.not_true, Bool.false_or] at h1
          simp only [Bool.and_eq_true, bne_iff_ne, ne_eq, beq_iff_eq] at h1
          obtain ⟨⟨⟨⟨a1, a2⟩, a3⟩, a4⟩, a5⟩ := h1
          exact ⟨a1, a2, a3, a4, a5⟩
        unfold tk
        rw [h.head.1, n.1]
        simp only
        rw [if_neg n.2.1, if_neg n.2.2.1, if_neg n.2.2.2.1, if_neg n.2.2.2.2]
        rfl
  rw [if_neg c2] at h ⊢
  have hsg := fun r hr => segs_whole f r hr
  obtain ⟨g, hg, hx⟩ := brk_runs (p := p) (segs f 256 256) (fun r hr => ⟨(hsg r hr).1, (hsg r hr).2.1⟩) (k + 1) (p.size + 1) (fun _ => false) h.tail (by omega)
  obtain ⟨cn, sn, en, m1, m2⟩ := runs_next (segs f 256 256) (fun r hr => (hsg r hr).2.2)
  have ht := h.tail
  have ht' := ht
  rw [en] at ht'
  refine ⟨g, ?_, fun x hx' => by rw [hx, segs_union f x hx']; rfl⟩
  rw [tk_brk h.head.1]
  unfold brk
  rw [if_neg (by rw [ht'.head.1]; exact m2), hg]
  have e1 : k + 1 + ((segs f 256 256).flatMap runL ++ [93]).length = k + (91 :: ((segs f 256 256).flatMap runL ++ [93])).length := by rw [List.length_cons]; omega
  rw [e1]
  rfl
end Go.Proofs.YtgjpmfdiidkdnaaDoor
