/-
  Trees as lists of nodes against trees as such. Plain facts.
  Slices of bytes that read as lists of numbers; the bytes of a set as a list.
  Runs of a set: plain facts (stage 1's, without any walk).
  Sets and trees as texts: what they are as lists of bytes. Plain facts.
  What a tree tells ahead of any text, and which parts of a text fit it. Plain facts.
-/
import Derived.Test.YtpjmogcphgaimaaPk2
import Derived.Test.YtpjmogcphgaimaaPk1
namespace Go.Proofs.Ytpjmogcphgaimaa

/-- The tree whose last node is i. -/
def trF (N : Nat → Nd) : Nat → Nat → Tr
  | 0, i => .leaf (N i)
  | u + 1, i => if (N i).k = 7 then .rep (trF N u (i - 1)) (N i).lo (N i).hi
      else if (N i).k = 5 then .cat (trF N u ((fst N (i - 1)).toNat - 1)) (trF N u (i - 1))
      else if (N i).k = 6 then .or (trF N u ((fst N (i - 1)).toNat - 1)) (trF N u (i - 1)) else .leaf (N i)
def trT (N : Nat → Nd) (i : Nat) : Tr := trF N i i
def seg (N : Nat → Nd) (f m : Nat) : List Nd := (List.range' f m).map N
theorem seg_app (N : Nat → Nd) (f m k : Nat) : seg N f (m + k) = seg N f m ++ seg N (f + m) k := by
  have := List.range'_append (s := f) (m := m) (n := k) (step := 1)
  unfold seg
  rw [← List.map_append, ← this, Nat.one_mul]
theorem seg_one (N : Nat → Nd) (f : Nat) : seg N f 1 = [N f] := rfl
theorem seg_len (N : Nat → Nd) (f m : Nat) : (seg N f m).length = m := by unfold seg; simp

theorem fst_nat {N : Nat → Nd} {n i : Nat} (ht : tree N n) (hi : i < n) : ∃ f : Nat, fst N i = f ∧ f ≤ i := by
  have h1 := ((tree_iff.1 ht).2.2.1 i hi).1
  have h2 := fst_bd N i
  exact ⟨(fst N i).toNat, by omega, by omega⟩
theorem okN_zero {x : Nd} (h : okN x = true) (h1 : x.k ≠ 1) : x.a = 0 ∧ x.b = 0 ∧ x.c = 0 ∧ x.d = 0 := by
  unfold okN at h
  simp only [Bool.and_eq_true, Bool.or_eq_true, beq_iff_eq] at h
  rcases h.1 with h2 | h2
  · exact absurd h2 h1
  · exact ⟨h2.1.1.1, h2.1.1.2, h2.1.2, h2.2⟩
theorem okN_lohi {x : Nd} (h : okN x = true) (h7 : x.k ≠ 7) : x.lo = 0 ∧ x.hi = 0 := by
  unfold okN at h
  rw [if_neg h7] at h
  simp only [Bool.and_eq_true, beq_iff_eq] at h
  exact h.2
theorem okN_rep {x : Nd} (h : okN x = true) (h7 : x.k = 7) : 0 ≤ x.lo ∧ x.lo ≤ 32 ∧ (x.hi = -1 ∨ (x.lo ≤ x.hi ∧ x.hi ≤ 32)) := by
  unfold okN at h
  rw [if_pos h7] at h
  simp only [Bool.and_eq_true, Bool.or_eq_true, beq_iff_eq, decide_eq_true_eq] at h
  exact ⟨h.2.1.1, h.2.1.2, h.2.2⟩
/-- What a node of a tree is. -/
inductive ndC (N : Nat → Nd) (n : Nat) : Nat → Nat → Prop where
  | leaf {i : Nat} (hi : i < n) (hk : (N i).k = 1 ∨ (N i).k = 2 ∨ (N i).k = 3 ∨ (N i).k = 4) (hd : dpt N i = 1) : ndC N n i i
  | one {p f : Nat} (hi : p + 1 < n) (hk : (N (p + 1)).k = 7) (h1 : fst N p = f) (h2 : f ≤ p) (hd : dpt N (p + 1) = dpt N p + 1) : ndC N n (p + 1) f
  | two {p q f : Nat} (hi : p + 1 < n) (hk : (N (p + 1)).k = 5 ∨ (N (p + 1)).k = 6) (h1 : fst N p = (q + 1 : Nat)) (h2 : q + 1 ≤ p) (h3 : fst N q = f) (h4 : f ≤ q) (hd : dpt N (p + 1) = max (dpt N q) (dpt N p) + 1) : ndC N n (p + 1) f
theorem nd_is {N : Nat → Nd} {n i : Nat} (ht : tree N n) (hi : i < n) : ∃ f : Nat, fst N i = f ∧ ndC N n i f := by
  obtain ⟨f, hf, hfi⟩ := fst_nat ht hi
  refine ⟨f, hf, ?_⟩
  have hg : ∀ j, j < i → good N j := fun j hj => ht.2.1 j (by omega)
  have hgi := ht.2.1 i hi
  have he := fst_eq N i
  rcases ar_cases (N i).k with ⟨h0, hk⟩ | ⟨h1, hk⟩ | ⟨h2, hk⟩ | ⟨h3, _⟩
  · rw [h0, if_neg (by omega)] at he
    have : fst N i = i := by rw [he]; exact back_zero N i
    have e : f = i := by omega
    subst e
    exact .leaf hi hk (dpt_zero h0)
  · rw [h1, if_neg (by omega), show ((1 : Int)).toNat = 1 from rfl] at he
    obtain ⟨p, rfl⟩ : ∃ p, i = p + 1 := ⟨i - 1, by
      have : dep N i ≥ 1 := by have := hgi.2.1; omega
      rcases Nat.eq_zero_or_pos i with h | h
      · subst h; simp [dep] at this
      · omega⟩
    have hfp : fst N p = f := by unfold fst; rw [← he, hf]
    have := fst_bd N p
    refine .one hi hk hfp (by omega) ?_
    rw [dpt_one (by omega) h1]
    have := dpt_pos N p
    rw [Nat.add_sub_cancel, Int.max_eq_right (by omega)]
  · rw [h2, if_neg (by omega), show ((2 : Int)).toNat = 2 from rfl] at he
    obtain ⟨p, rfl⟩ : ∃ p, i = p + 1 := ⟨i - 1, by
      have : dep N i ≥ 2 := by have := hgi.2.1; omega
      rcases Nat.eq_zero_or_pos i with h | h
      · subst h; simp [dep] at this
      · omega⟩
    obtain ⟨g, hg1, hg2⟩ := fst_nat ht (show p < n by omega)
    rw [back_step, hg1, if_neg (by omega), Int.toNat_natCast] at he
    obtain ⟨q, rfl⟩ : ∃ q, g = q + 1 := ⟨g - 1, by
      rcases Nat.eq_zero_or_pos g with h | h
      · subst h; rw [back_none] at he; omega
      · omega⟩
    have hfq : fst N q = f := by unfold fst; rw [← he, hf]
    have := fst_bd N q
    refine .two hi hk hg1 (by omega) hfq (by omega) ?_
    rw [dpt_two hg (by omega) h2 (by rw [Nat.add_sub_cancel]; exact hg1) (by omega)]
    have := dpt_pos N q
    rw [Nat.add_sub_cancel, Nat.add_sub_cancel, Int.max_eq_right (show (0 : Int) ≤ dpt N q by omega)]
  · have := hgi.1; omega
theorem trF_same {N : Nat → Nd} {n : Nat} (ht : tree N n) : ∀ u v i, i < n → i ≤ u → i ≤ v → trF N u i = trF N v i := by
  have zero : ∀ u, 0 < n → trF N u 0 = .leaf (N 0) := by
    intro u h0
    obtain ⟨f, hf, hc⟩ := nd_is ht h0
    cases hc with
    | leaf _ hk _ =>
      cases u with
      | zero => rfl
      | succ u => unfold trF; rw [if_neg (by omega), if_neg (by omega), if_neg (by omega)]
  intro u
  induction u with
  | zero => intro v i hi h1 _; obtain rfl : i = 0 := by omega
            rw [zero 0 hi, zero v hi]
  | succ u ih =>
    intro v i hi h1 h2
    cases v with
    | zero => obtain rfl : i = 0 := by omega
              rw [zero _ hi, zero _ hi]
    | succ v =>
      rcases Nat.eq_zero_or_pos i with h0 | h0
      · subst h0; rw [zero _ hi, zero _ hi]
      · have hb := fst_bd N (i - 1)
        unfold trF
        rw [ih v (i - 1) (by omega) (by omega) (by omega), ih v ((fst N (i - 1)).toNat - 1) (by omega) (by omega) (by omega)]
theorem trT_leaf {N : Nat → Nd} {i : Nat} (hk : (N i).k = 1 ∨ (N i).k = 2 ∨ (N i).k = 3 ∨ (N i).k = 4) : trT N i = .leaf (N i) := by
  unfold trT
  cases i with
  | zero => rfl
  | succ i => unfold trF; rw [if_neg (by omega), if_neg (by omega), if_neg (by omega)]
theorem trT_one {N : Nat → Nd} {p : Nat} (hk : (N (p + 1)).k = 7) : trT N (p + 1) = .rep (trT N p) (N (p + 1)).lo (N (p + 1)).hi := by
  unfold trT
  conv => lhs; unfold trF
  rw [if_pos hk]; rfl
theorem trT_cat {N : Nat → Nd} {n p q : Nat} (ht : tree N n) (hi : p + 1 < n) (hk : (N (p + 1)).k = 5) (h1 : fst N p = (q + 1 : Nat)) (h2 : q + 1 ≤ p) : trT N (p + 1) = .cat (trT N q) (trT N p) := by
  unfold trT
  conv => lhs; unfold trF
  rw [if_neg (by omega), if_pos hk, Nat.add_sub_cancel, h1, Int.toNat_natCast, Nat.add_sub_cancel, trF_same ht p q q (by omega) (by omega) (by omega)]
theorem trT_or {N : Nat → Nd} {n p q : Nat} (ht : tree N n) (hi : p + 1 < n) (hk : (N (p + 1)).k = 6) (h1 : fst N p = (q + 1 : Nat)) (h2 : q + 1 ≤ p) : trT N (p + 1) = .or (trT N q) (trT N p) := by
  unfold trT
  conv => lhs; unfold trF
  rw [if_neg (by omega), if_neg (by omega), if_pos hk, Nat.add_sub_cancel, h1, Int.toNat_natCast, Nat.add_sub_cancel, trF_same ht p q q (by omega) (by omega) (by omega)]
theorem nd_zero {x : Nd} (h : okN x = true) {k : Int} (hk : x.k = k) (h1 : k ≠ 1) (h7 : k ≠ 7) : x = nd0 k := by
  obtain ⟨a1, a2, a3, a4⟩ := okN_zero h (by omega)
  obtain ⟨b1, b2⟩ := okN_lohi h (by omega)
  obtain ⟨k, a, b, c, d, lo, hi⟩ := x
  simp only at hk a1 a2 a3 a4 b1 b2
  subst hk a1 a2 a3 a4 b1 b2
  rfl
/-- The tree at a node: its nodes are those of the part, its leaves are such as may be, it is as deep. -/
theorem trT_is {N : Nat → Nd} {n : Nat} (ht : tree N n) : ∀ m i, i ≤ m → i < n → ∀ f : Nat, fst N i = f → post (trT N i) = seg N f (i + 1 - f) ∧ okT (trT N i) ∧ ((dp (trT N i) : Nat) : Int) = dpt N i := by
  intro m
  induction m with
  | zero =>
    intro i h0 hi f hf
    obtain ⟨f', hf', hc⟩ := nd_is ht hi
    obtain rfl : f' = f := by omega
    have hok := ((tree_iff.1 ht).2.2.1 i hi).2
    cases hc with
    | leaf _ hk hd =>
      rw [trT_leaf hk]
      refine ⟨by rw [show i + 1 - i = 1 by omega, seg_one]; rfl, ?_, by rw [hd]; rfl⟩
      rcases hk with hk | hk | hk | hk
      · exact .inl ⟨hk, okN_lohi hok (by omega)⟩
      · exact .inr (.inl (nd_zero hok hk (by decide) (by decide)))
      · exact .inr (.inr (.inl (nd_zero hok hk (by decide) (by decide))))
      · exact .inr (.inr (.inr (nd_zero hok hk (by decide) (by decide))))
    | one => omega
    | two => omega
  | succ m ih =>
    intro i h0 hi f hf
    obtain ⟨f', hf', hc⟩ := nd_is ht hi
    obtain rfl : f' = f := by omega
    have hok := ((tree_iff.1 ht).2.2.1 i hi).2
    cases hc with
    | leaf _ hk hd =>
      rw [trT_leaf hk]
      refine ⟨by rw [show i + 1 - i = 1 by omega, seg_one]; rfl, ?_, by rw [hd]; rfl⟩
      rcases hk with hk | hk | hk | hk
      · exact .inl ⟨hk, okN_lohi hok (by omega)⟩
      · exact .inr (.inl (nd_zero hok hk (by decide) (by decide)))
      · exact .inr (.inr (.inl (nd_zero hok hk (by decide) (by decide))))
      · exact .inr (.inr (.inr (nd_zero hok hk (by decide) (by decide))))
    | @one p _ _ hk h1 h2 hd =>
      obtain ⟨a1, a2, a3⟩ := ih p (by omega) (by omega) f' h1
      rw [trT_one hk]
      refine ⟨?_, ⟨a2, okN_rep hok hk⟩, by rw [hd, ← a3]; rfl⟩
      show post (trT N p) ++ [ndR (N (p + 1)).lo (N (p + 1)).hi] = _
      rw [a1, show p + 1 + 1 - f' = (p + 1 - f') + 1 by omega, seg_app, show f' + (p + 1 - f') = p + 1 by omega, seg_one]
      obtain ⟨z1, z2, z3, z4⟩ := okN_zero hok (by omega)
      have e : N (p + 1) = ndR (N (p + 1)).lo (N (p + 1)).hi := by
        generalize N (p + 1) = x at *
        obtain ⟨k, a, b, c, d, lo, hi⟩ := x
        simp only at hk z1 z2 z3 z4
        subst hk z1 z2 z3 z4
        rfl
      rw [← e]
    | @two p q _ _ hk h1 h2 h3 h4 hd =>
      obtain ⟨a1, a2, a3⟩ := ih q (by omega) (by omega) f' h3
      obtain ⟨b1, b2, b3⟩ := ih p (by omega) (by omega) (q + 1) h1
      have e : seg N f' (p + 1 + 1 - f') = seg N f' (q + 1 - f') ++ seg N (q + 1) (p + 1 - (q + 1)) ++ [N (p + 1)] := by
        rw [show p + 1 + 1 - f' = (q + 1 - f') + (p + 1 - (q + 1)) + 1 by omega, seg_app, seg_app, show f' + (q + 1 - f') = q + 1 by omega, show f' + (q + 1 - f' + (p + 1 - (q + 1))) = p + 1 by omega, seg_one]
      rcases hk with hk | hk
      · rw [trT_cat ht hi hk h1 h2]
        refine ⟨?_, ⟨a2, b2⟩, by rw [hd, ← a3, ← b3]; show ((max (dp (trT N q)) (dp (trT N p)) + 1 : Nat) : Int) = _; omega⟩
        show post (trT N q) ++ post (trT N p) ++ [nd0 5] = _
        rw [a1, b1, e, nd_zero hok hk (by decide) (by decide)]
      · rw [trT_or ht hi hk h1 h2]
        refine ⟨?_, ⟨a2, b2⟩, by rw [hd, ← a3, ← b3]; show ((max (dp (trT N q)) (dp (trT N p)) + 1 : Nat) : Int) = _; omega⟩
        show post (trT N q) ++ post (trT N p) ++ [nd0 6] = _
        rw [a1, b1, e, nd_zero hok hk (by decide) (by decide)]
/-- The whole tree. -/
theorem trT_root {N : Nat → Nd} {n : Nat} (ht : tree N n) : post (trT N (n - 1)) = seg N 0 n ∧ okT (trT N (n - 1)) ∧ ((dp (trT N (n - 1)) : Nat) : Int) = dpt N (n - 1) := by
  have h := tree_iff.1 ht
  obtain ⟨a1, a2, a3⟩ := trT_is ht (n - 1) (n - 1) (Nat.le_refl _) (by omega) 0 h.2.2.2
  exact ⟨by rw [a1]; congr 1; omega, a2, a3⟩
end Go.Proofs.Ytpjmogcphgaimaa

namespace Go.Proofs.Ytpjmogcphgaimaa
open Go.RowKit

/-- A slice of bytes that reads as a list of numbers. -/
def rd8 (w : World) (v : Value) (l : List Nat) : Prop :=
  (v = .slice none 0 0 ∧ l = []) ∨ ∃ b off cap, v = .slice (some ⟨b, off, none⟩) l.length cap ∧ b < w.heap.size ∧ ∀ j (h : j < l.length), w.cell? ⟨b, off + j, none⟩ = some (.int .u8 (l[j] : Nat))

/-- Is a number in a list? -/
def inl (l : List Nat) (x : Nat) : Bool := decide (x ∈ l)
theorem inl_take (l : List Nat) (k : Nat) (h : k < l.length) (x : Nat) : inl (l.take (k + 1)) x = (inl (l.take k) x || decide (x = l[k])) := by
  unfold inl
  rw [List.take_succ_eq_append_getElem h, Bool.eq_iff_iff]
  simp only [decide_eq_true_eq, List.mem_append, List.mem_singleton, Bool.or_eq_true]

theorem of_word_hit (l : List Nat) (k i : Nat) (h : k < l.length) (hi : l[k] / 64 = i) :
    bits .or .u64 (wd (inl (l.take k)) i : Int) (IntKind.u64.wrap (2 ^ (l[k] % 64))) = (wd (inl (l.take (k + 1))) i : Nat) := by
  rw [word_put _ _ _ (Nat.mod_lt _ (by decide)), show 64 * i + l[k] % 64 = l[k] from by omega]
  congr 2
  funext x
  rw [inl_take l k h x]
theorem of_word_miss (l : List Nat) (k i : Nat) (h : k < l.length) (hi : l[k] / 64 ≠ i) : wd (inl (l.take k)) i = wd (inl (l.take (k + 1))) i := by
  have : inl (l.take (k + 1)) = fun x => inl (l.take k) x || decide (x = l[k]) := funext fun x => inl_take l k h x
  rw [this, word_put_other _ _ _ hi]

/-- The numbers below n that are in a set, rising. -/
def bl (f : Nat → Bool) (n : Nat) : List Nat := (List.range n).filter f
theorem bl_hit (f : Nat → Bool) (n : Nat) (h : f n = true) : bl f (n + 1) = bl f n ++ [n] := by
  unfold bl; rw [List.range_succ, List.filter_append]; simp [h]
theorem bl_miss (f : Nat → Bool) (n : Nat) (h : f n = false) : bl f (n + 1) = bl f n := by
  unfold bl; rw [List.range_succ, List.filter_append]; simp [h]
theorem bl_le (f : Nat → Bool) (n : Nat) : (bl f n).length ≤ n := by
  have := List.length_filter_le f (List.range n)
  rw [List.length_range] at this
  exact this
/-- Values of numbers. -/
def u8s (l : List Nat) : List Value := l.map fun (x : Nat) => .int .u8 (x : Int)

theorem rd8_of_owns {w : World} {base : Nat} {e : TypeId} {v : Value} {l : List Nat} (h : w.ownsRow base e 1 v l.length (u8s l)) : rd8 w v l := by
  have hlt := h.lt
  rcases h.2 with ⟨rfl, h0⟩ | ⟨g, cap, cur, rfl, _, _, _, _, _, _⟩
  · exact .inl ⟨rfl, List.length_eq_zero_iff.1 h0⟩
  · refine .inr ⟨g, 0, cap, rfl, (hlt g rfl).2, fun j hj => ?_⟩
    have := h.cells (g := g) rfl j (.int .u8 (l[j] : Nat)) (by simp [u8s, List.getElem?_map, List.getElem?_eq_getElem hj])
    rw [Nat.zero_add]
    by_cases h0 : j = 0
    · subst h0; simpa [Addr.add] using this
    · simpa [Addr.add, h0] using this
theorem rd8_below {w w' : World} {v : Value} {l : List Nat} (h : rd8 w v l) (hb : Below w.heap.size w w') : rd8 w' v l := by
  rcases h with h | ⟨b, off, cap, rfl, hl, hc⟩
  · exact .inl h
  · refine .inr ⟨b, off, cap, rfl, Nat.lt_of_lt_of_le hl hb.size, fun j hj => ?_⟩
    rw [hb.cell (p := ⟨b, off + j, none⟩) hl]; exact hc j hj
theorem bl_bytes (f : Nat → Bool) (n : Nat) : ∀ x, x ∈ bl f n → x < n := by
  intro x hx
  unfold bl at hx
  rw [List.mem_filter, List.mem_range] at hx
  exact hx.1
end Go.Proofs.Ytpjmogcphgaimaa

namespace Go.Proofs.Ytpjmogcphgaimaa

/-- One byte more, behind the runs of those ahead of it. -/
def stepRun (acc : List (Nat × Nat)) (b : Nat) : List (Nat × Nat) :=
  match acc.getLast? with
  | some (lo, hi) => if (hi + 1) % 256 = b then acc.dropLast ++ [(lo, b)] else acc ++ [(b, b)]
  | none => [(b, b)]
/-- The runs of rising bytes. -/
def runsOf (l : List Nat) : List (Nat × Nat) := l.foldl stepRun []
theorem runsOf_take (l : List Nat) (k : Nat) (h : k < l.length) : runsOf (l.take (k + 1)) = stepRun (runsOf (l.take k)) l[k] := by
  unfold runsOf
  rw [List.take_succ_eq_append_getElem h, List.foldl_append]
  rfl
theorem step_nil (b : Nat) : stepRun [] b = [(b, b)] := rfl
theorem step_hit (init : List (Nat × Nat)) (lo hi b : Nat) (h : (hi + 1) % 256 = b) : stepRun (init ++ [(lo, hi)]) b = init ++ [(lo, b)] := by
  unfold stepRun; simp [h]
theorem step_new (init : List (Nat × Nat)) (lo hi b : Nat) (h : (hi + 1) % 256 ≠ b) : stepRun (init ++ [(lo, hi)]) b = init ++ [(lo, hi)] ++ [(b, b)] := by
  unfold stepRun; simp [h]
theorem step_length (acc : List (Nat × Nat)) (b : Nat) : (stepRun acc b).length ≤ acc.length + 1 := by
  rcases List.eq_nil_or_concat acc with rfl | ⟨init, ⟨lo, hi⟩, rfl⟩
  · simp [step_nil]
  · rw [List.concat_eq_append]
    by_cases h : (hi + 1) % 256 = b
    · rw [step_hit init lo hi b h]; simp
    · rw [step_new init lo hi b h]; simp
theorem runsOf_length (l : List Nat) (k : Nat) (hk : k ≤ l.length) : (runsOf (l.take k)).length ≤ k := by
  induction k with
  | zero => simp [runsOf]
  | succ k ih =>
    rw [runsOf_take l k (by omega)]
    have := step_length (runsOf (l.take k)) l[k]
    have := ih (by omega)
    omega
theorem step_bytes (acc : List (Nat × Nat)) (b : Nat) (hb : b < 256) (h : ∀ r, r ∈ acc → r.1 < 256 ∧ r.2 < 256) : ∀ r, r ∈ stepRun acc b → r.1 < 256 ∧ r.2 < 256 := by
  rcases List.eq_nil_or_concat acc with rfl | ⟨init, ⟨lo, hi⟩, rfl⟩
  · intro r hr; rw [step_nil] at hr; simp at hr; subst hr; exact ⟨hb, hb⟩
  · rw [List.concat_eq_append] at *
    have hl := h (lo, hi) (by simp)
    intro r hr
    by_cases he : (hi + 1) % 256 = b
    · rw [step_hit init lo hi b he] at hr
      rcases List.mem_append.1 hr with hr | hr
      · exact h r (by simp [hr])
      · simp at hr; subst hr; exact ⟨hl.1, hb⟩
    · rw [step_new init lo hi b he] at hr
      rcases List.mem_append.1 hr with hr | hr
      · exact h r hr
      · simp at hr; subst hr; exact ⟨hb, hb⟩
theorem runsOf_bytes (l : List Nat) (hl : ∀ x, x ∈ l → x < 256) (k : Nat) (hk : k ≤ l.length) : ∀ r, r ∈ runsOf (l.take k) → r.1 < 256 ∧ r.2 < 256 := by
  induction k with
  | zero => intro r hr; simp [runsOf] at hr
  | succ k ih =>
    rw [runsOf_take l k (by omega)]
    exact step_bytes _ _ (hl _ (List.getElem_mem _)) (ih (by omega))
/-- A run starts here. -/
def st (f : Nat → Bool) (k : Nat) : Bool := f k && (decide (k = 0) || !f (k - 1))
/-- The places below n where a run starts, rising. -/
def starts (f : Nat → Bool) (n : Nat) : List Nat := (List.range n).filter (st f)
theorem starts_hit (f : Nat → Bool) (n : Nat) (h : st f n = true) : starts f (n + 1) = starts f n ++ [n] := by
  unfold starts; rw [List.range_succ, List.filter_append]; simp [h]
theorem starts_miss (f : Nat → Bool) (n : Nat) (h : st f n = false) : starts f (n + 1) = starts f n := by
  unfold starts; rw [List.range_succ, List.filter_append]; simp [h]
theorem starts_mem (f : Nat → Bool) (n x : Nat) (h : x ∈ starts f n) : x < n ∧ st f x = true := by
  unfold starts at h; rw [List.mem_filter, List.mem_range] at h; exact h
/-- How far the run that starts at lo goes, below k. -/
def upTo (f : Nat → Bool) (lo : Nat) : Nat → Nat
  | 0 => lo
  | k + 1 => if k ≤ lo then lo else if upTo f lo k + 1 = k ∧ f k = true then k else upTo f lo k
theorem upTo_props (f : Nat → Bool) (lo : Nat) (k : Nat) (hk : lo < k) :
    lo ≤ upTo f lo k ∧ upTo f lo k < k ∧ (∀ x, lo < x → x ≤ upTo f lo k → f x = true) ∧ (upTo f lo k + 1 < k → f (upTo f lo k + 1) = false) := by
  induction k with
  | zero => omega
  | succ k ih =>
    by_cases h0 : k ≤ lo
    · have hkl : k = lo := by omega
      have e : upTo f lo (k + 1) = lo := by simp [upTo, h0]
      rw [e]
      exact ⟨Nat.le_refl _, by omega, fun x h1 h2 => by omega, fun h => by omega⟩
    · obtain ⟨i1, i2, i3, i4⟩ := ih (by omega)
      by_cases h1 : upTo f lo k + 1 = k ∧ f k = true
      · have e : upTo f lo (k + 1) = k := by simp [upTo, h0, h1]
        rw [e]
        refine ⟨by omega, by omega, fun x a b => ?_, fun h => by omega⟩
        by_cases hx : x = k
        · rw [hx]; exact h1.2
        · exact i3 x a (by omega)
      · have e : upTo f lo (k + 1) = upTo f lo k := by simp only [upTo]; rw [if_neg h0, if_neg h1]
        rw [e]
        refine ⟨i1, by omega, i3, fun h => ?_⟩
        by_cases h2 : upTo f lo k + 1 < k
        · exact i4 h2
        · have h3 : upTo f lo k + 1 = k := by omega
          rw [h3]
          cases hf : f k
          · rfl
          · exact absurd ⟨h3, hf⟩ h1
theorem upTo_same (f : Nat → Bool) (lo k : Nat) (hk : lo < k) (h : upTo f lo k + 1 ≠ k ∨ f k = false) : upTo f lo (k + 1) = upTo f lo k := by
  simp only [upTo]
  rw [if_neg (by omega), if_neg]
  rintro ⟨a, b⟩
  rcases h with h | h
  · exact h a
  · rw [h] at b; cases b
theorem upTo_more (f : Nat → Bool) (lo k : Nat) (hk : lo < k) (h : upTo f lo k + 1 = k) (hf : f k = true) : upTo f lo (k + 1) = k := by
  simp only [upTo]
  rw [if_neg (by omega), if_pos ⟨h, hf⟩]
theorem upTo_own (f : Nat → Bool) (k : Nat) : upTo f k (k + 1) = k := by simp [upTo]
/-- There is but one end. -/
theorem upTo_only (f : Nat → Bool) (lo k h : Nat) (hk : lo < k) (h1 : lo ≤ h) (h2 : h < k) (h3 : ∀ x, lo < x → x ≤ h → f x = true) (h4 : h + 1 < k → f (h + 1) = false) : h = upTo f lo k := by
  obtain ⟨i1, i2, i3, i4⟩ := upTo_props f lo k hk
  rcases Nat.lt_trichotomy h (upTo f lo k) with h5 | h5 | h5
  · have := h4 (by omega)
    rw [i3 (h + 1) (by omega) (by omega)] at this
    cases this
  · exact h5
  · have := i4 (by omega)
    rw [h3 (upTo f lo k + 1) (by omega) (by omega)] at this
    cases this
/-- The runs that start below n, as far as they go below m. -/
def segs (f : Nat → Bool) (n m : Nat) : List (Nat × Nat) := (starts f n).map fun lo => (lo, upTo f lo m)
/-- What the last run is, ahead of k. -/
theorem segs_state (f : Nat → Bool) (k : Nat) :
    (0 < k ∧ f (k - 1) = true ∧ ∃ init lo, starts f k = init ++ [lo] ∧ upTo f lo k + 1 = k ∧ ∀ x, x ∈ init → upTo f x k + 1 < k) ∨
    ((k = 0 ∨ f (k - 1) = false) ∧ ∀ x, x ∈ starts f k → upTo f x k + 1 < k) := by
  induction k with
  | zero => exact .inr ⟨.inl rfl, fun x hx => by simp [starts] at hx⟩
  | succ k ih =>
    have low : ∀ x, x ∈ starts f k → upTo f x k < k := fun x hx => (upTo_props f x k (starts_mem f k x hx).1).2.1
    cases hf : f k
    · refine .inr ⟨.inr (by simpa using hf), fun x hx => ?_⟩
      have hs : st f k = false := by simp [st, hf]
      rw [starts_miss f k hs] at hx
      rw [upTo_same f x k (starts_mem f k x hx).1 (.inr hf)]
      have := low x hx
      omega
    · refine .inl ⟨by omega, by simpa using hf, ?_⟩
      rcases ih with ⟨hk0, hp, init, lo, hst, hlo, hin⟩ | ⟨hp, hin⟩
      · have hs : st f k = false := by
          have : ¬ k = 0 := by omega
          simp [st, hf, hp, this]
        rw [starts_miss f k hs]
        have hmem : ∀ x, x ∈ init → x ∈ starts f k := fun x hx => by rw [hst]; simp [hx]
        have hlm : lo ∈ starts f k := by rw [hst]; simp
        refine ⟨init, lo, hst, by rw [upTo_more f lo k (starts_mem f k lo hlm).1 hlo hf], fun x hx => ?_⟩
        have := hin x hx
        rw [upTo_same f x k (starts_mem f k x (hmem x hx)).1 (.inl (by omega))]
        omega
      · have hs : st f k = true := by
          rcases hp with hp | hp
          · subst hp; simp [st, hf]
          · simp [st, hf, hp]
        rw [starts_hit f k hs]
        refine ⟨starts f k, k, rfl, by rw [upTo_own], fun x hx => ?_⟩
        have := hin x hx
        rw [upTo_same f x k (starts_mem f k x hx).1 (.inl (by omega))]
        omega
theorem runsOf_snoc (l : List Nat) (b : Nat) : runsOf (l ++ [b]) = stepRun (runsOf l) b := by
  unfold runsOf; rw [List.foldl_append]; rfl
/-- The runs of the bytes below k are the runs that start below k, as far as they go below k. -/
theorem runs_segs (f : Nat → Bool) (k : Nat) (hk : k ≤ 256) : runsOf (bl f k) = segs f k k := by
  induction k with
  | zero => rfl
  | succ k ih =>
    have ih := ih (by omega)
    have low : ∀ x, x ∈ starts f k → x < k := fun x hx => (starts_mem f k x hx).1
    have same : ∀ l : List Nat, (∀ x, x ∈ l → upTo f x (k + 1) = upTo f x k) → (l.map fun lo => (lo, upTo f lo (k + 1))) = l.map fun lo => (lo, upTo f lo k) := fun l hl => List.map_congr_left fun x hx => by rw [hl x hx]
    cases hf : f k
    · have hs : st f k = false := by simp [st, hf]
      rw [bl_miss f k hf, ih]
      unfold segs
      rw [starts_miss f k hs, same _ fun x hx => upTo_same f x k (low x hx) (.inr hf)]
    · rw [bl_hit f k hf, runsOf_snoc, ih]
      unfold segs
      rcases segs_state f k with ⟨hk0, hp, init, lo, hst, hlo, hin⟩ | ⟨hp, hin⟩
      · have hs : st f k = false := by
          have : ¬ k = 0 := by omega
          simp [st, hf, hp, this]
        rw [starts_miss f k hs, hst, List.map_append, List.map_append]
        have hmem : ∀ x, x ∈ init → x ∈ starts f k := fun x hx => by rw [hst]; simp [hx]
        have hlm : lo ∈ starts f k := by rw [hst]; simp
        rw [same init fun x hx => upTo_same f x k (low x (hmem x hx)) (.inl (by have := hin x hx; omega))]
        simp only [List.map_cons, List.map_nil]
        rw [step_hit _ lo (upTo f lo k) k (by omega), upTo_more f lo k (low lo hlm) hlo hf]
      · have hs : st f k = true := by
          rcases hp with hp | hp
          · subst hp; simp [st, hf]
          · simp [st, hf, hp]
        rw [starts_hit f k hs, List.map_append, same _ fun x hx => upTo_same f x k (low x hx) (.inl (by have := hin x hx; omega))]
        simp only [List.map_cons, List.map_nil]
        rw [upTo_own]
        rcases List.eq_nil_or_concat (starts f k) with h0 | ⟨init, lo, h0⟩
        · rw [h0]; rfl
        · rw [List.concat_eq_append] at h0
          have hlm : lo ∈ starts f k := by rw [h0]; simp
          have := hin lo hlm
          rw [h0, List.map_append]
          simp only [List.map_cons, List.map_nil]
          rw [step_new _ lo (upTo f lo k) k (by omega)]
/-- What is in any of some runs. -/
def inU (l : List (Nat × Nat)) (x : Nat) : Bool := l.any fun r => decide (r.1 ≤ x) && decide (x ≤ r.2)
theorem inU_take (l : List (Nat × Nat)) (k : Nat) (h : k < l.length) : (fun x => inU (l.take k) x || (decide (l[k].1 ≤ x) && decide (x ≤ l[k].2))) = inU (l.take (k + 1)) := by
  funext x
  unfold inU
  rw [List.take_succ_eq_append_getElem h, List.any_append]
  simp
theorem inU_none (l : List (Nat × Nat)) : inU (l.take 0) = fun _ => false := rfl
theorem inU_nil : inU [] = fun _ => false := rfl
theorem starts_nodup (f : Nat → Bool) (n : Nat) : (starts f n).Nodup := List.Nodup.sublist List.filter_sublist List.nodup_range
/-- A start of a union of runs is where one of them begins. -/
theorem start_in (l : List (Nat × Nat)) (x : Nat) (h : st (inU l) x = true) : x ∈ l.map (·.1) := by
  unfold st at h
  simp only [Bool.and_eq_true, Bool.or_eq_true, decide_eq_true_eq, Bool.not_eq_true'] at h
  obtain ⟨h1, h2⟩ := h
  unfold inU at h1
  rw [List.any_eq_true] at h1
  obtain ⟨r, hr, hx⟩ := h1
  simp only [Bool.and_eq_true, decide_eq_true_eq] at hx
  refine List.mem_map.2 ⟨r, hr, ?_⟩
  rcases Nat.lt_or_ge r.1 x with h3 | h3
  · exfalso
    rcases h2 with h2 | h2
    · omega
    · unfold inU at h2
      rw [List.any_eq_false] at h2
      have := h2 r hr
      simp only [Bool.and_eq_true, decide_eq_true_eq] at this
      omega
  · omega
theorem nodup_subset_length {a b : List Nat} (hn : a.Nodup) (hs : ∀ x, x ∈ a → x ∈ b) : a.length ≤ b.length := by
  induction a generalizing b with
  | nil => simp
  | cons x a ih =>
    have hx : x ∈ b := hs x (by simp)
    have hn' := List.nodup_cons.1 hn
    have : a.length ≤ (b.erase x).length := ih hn'.2 fun y hy => by
      have hne : y ≠ x := fun e => hn'.1 (e ▸ hy)
      exact (List.mem_erase_of_ne hne).2 (hs y (by simp [hy]))
    rw [List.length_erase_of_mem hx] at this
    have hpos : 0 < b.length := List.length_pos_of_mem hx
    simp only [List.length_cons]
    omega
theorem segs_few (l : List (Nat × Nat)) (n m : Nat) : (segs (inU l) n m).length ≤ l.length := by
  have := nodup_subset_length (starts_nodup (inU l) n) fun x hx => start_in l x (starts_mem _ _ _ hx).2
  unfold segs
  rw [List.length_map]
  rw [List.length_map] at this
  exact this
/-- Each run is whole, and lies within the bytes. -/
theorem segs_whole (f : Nat → Bool) (r : Nat × Nat) (h : r ∈ segs f 256 256) : r.1 ≤ r.2 ∧ r.2 < 256 ∧ r.1 < 256 := by
  unfold segs at h
  obtain ⟨lo, hlo, rfl⟩ := List.mem_map.1 h
  have hs := starts_mem f 256 lo hlo
  have := upTo_props f lo 256 hs.1
  exact ⟨this.1, this.2.1, hs.1⟩
/-- The starts rise. -/
theorem starts_rise (f : Nat → Bool) (n : Nat) : (starts f n).Pairwise (· < ·) := List.Pairwise.sublist List.filter_sublist List.pairwise_lt_range
/-- Between two runs there is a gap. -/
theorem segs_gap (f : Nat → Bool) (i : Nat) (h0 : 0 < i) (h : i < (segs f 256 256).length) : (segs f 256 256)[i - 1].2 + 2 ≤ (segs f 256 256)[i].1 := by
  have hl : (segs f 256 256).length = (starts f 256).length := by simp [segs]
  have e1 : (segs f 256 256)[i].1 = (starts f 256)[i]'(by omega) := by simp [segs]
  have e2 : (segs f 256 256)[i - 1].2 = upTo f ((starts f 256)[i - 1]'(by omega)) 256 := by simp [segs]
  rw [e1, e2]
  have hr := List.pairwise_iff_getElem.1 (starts_rise f 256) (i - 1) i (by omega) (by omega) (by omega)
  have m1 := starts_mem f 256 _ (List.getElem_mem (show i - 1 < (starts f 256).length by omega))
  have m2 := starts_mem f 256 _ (List.getElem_mem (show i < (starts f 256).length by omega))
  generalize (starts f 256)[i - 1]'(by omega) = a at *
  generalize (starts f 256)[i]'(by omega) = b at *
  obtain ⟨p1, p2, p3, p4⟩ := upTo_props f a 256 m1.1
  have hb := m2.2
  unfold st at hb
  simp only [Bool.and_eq_true, Bool.or_eq_true, decide_eq_true_eq, Bool.not_eq_true'] at hb
  rcases hb.2 with h3 | h3
  · omega
  · rcases Nat.lt_or_ge (upTo f a 256) (b - 1) with h4 | h4
    · omega
    · exfalso
      rcases Nat.lt_or_ge a (b - 1) with h5 | h5
      · rw [p3 (b - 1) h5 h4] at h3; cases h3
      · have hab : a = b - 1 := by omega
        have ha := m1.2
        unfold st at ha
        simp only [Bool.and_eq_true] at ha
        rw [← hab, ha.1] at h3
        cases h3
/-- Each byte of a set lies in the run that starts at some place at or ahead of it. -/
theorem byte_start (f : Nat → Bool) (x : Nat) (h : f x = true) : ∃ a, a ≤ x ∧ st f a = true ∧ ∀ y, a < y → y ≤ x → f y = true := by
  induction x with
  | zero => exact ⟨0, Nat.le_refl _, by simp [st, h], fun y h1 h2 => by omega⟩
  | succ x ih =>
    cases hx : f x
    · exact ⟨x + 1, Nat.le_refl _, by simp [st, h, hx], fun y h1 h2 => by omega⟩
    · obtain ⟨a, h1, h2, h3⟩ := ih hx
      refine ⟨a, by omega, h2, fun y h4 h5 => ?_⟩
      by_cases hy : y = x + 1
      · rw [hy]; exact h
      · exact h3 y h4 (by omega)
theorem segs_union (f : Nat → Bool) (x : Nat) (hx : x < 256) : inU (segs f 256 256) x = f x := by
  rw [Bool.eq_iff_iff]
  unfold inU
  rw [List.any_eq_true]
  constructor
  · rintro ⟨r, hr, h⟩
    simp only [Bool.and_eq_true, decide_eq_true_eq] at h
    unfold segs at hr
    obtain ⟨lo, hlo, rfl⟩ := List.mem_map.1 hr
    have hs := starts_mem f 256 lo hlo
    have hp := upTo_props f lo 256 hs.1
    by_cases he : x = lo
    · have := hs.2
      unfold st at this
      simp only [Bool.and_eq_true] at this
      rw [he]; exact this.1
    · exact hp.2.2.1 x (by have := h.1; show lo < x; omega) h.2
  · intro h
    obtain ⟨a, h1, h2, h3⟩ := byte_start f x h
    have ha : a ∈ starts f 256 := by
      unfold starts
      rw [List.mem_filter, List.mem_range]
      exact ⟨by omega, h2⟩
    refine ⟨(a, upTo f a 256), List.mem_map.2 ⟨a, ha, rfl⟩, ?_⟩
    simp only [Bool.and_eq_true, decide_eq_true_eq]
    refine ⟨h1, ?_⟩
    obtain ⟨p1, p2, p3, p4⟩ := upTo_props f a 256 (by omega)
    rcases Nat.lt_or_ge (upTo f a 256) x with h4 | h4
    · exfalso
      have := p4 (by omega)
      rw [h3 _ (by omega) (by omega)] at this
      cases this
    · exact h4
end Go.Proofs.Ytpjmogcphgaimaa

namespace Go.Proofs.Ytpjmogcphgaimaa

def plainB (b : Nat) : Bool := (decide (48 ≤ b) && decide (b ≤ 57)) || (decide (65 ≤ b) && decide (b ≤ 90)) || (decide (97 ≤ b) && decide (b ≤ 122))
def hxd (d : Nat) : Nat := if d < 10 then 48 + d else 87 + d
/-- An end of a run. -/
def endL (b : Nat) : List Nat := if plainB b = true then [b] else [92, 120, hxd (b / 16), hxd (b % 16)]
/-- A run of a set, as a bracket has it. -/
def runL (r : Nat × Nat) : List Nat := endL r.1 ++ if r.2 = r.1 + 1 then endL r.2 else if r.1 + 1 < r.2 then 45 :: endL r.2 else []
theorem end_len (b : Nat) : 1 ≤ (endL b).length ∧ (endL b).length ≤ 4 := by unfold endL; split <;> simp
/-- A set as a pattern has it. -/
def setL (f : Nat → Bool) : List Nat :=
  if (bl f 256).length = 255 ∧ f 10 = false then [46]
  else if (bl f 256).length = 1 then (if 33 ≤ (bl f 256).headD 0 ∧ (bl f 256).headD 0 ≤ 126 ∧ plainB ((bl f 256).headD 0) = false then [92, (bl f 256).headD 0] else endL ((bl f 256).headD 0))
  else 91 :: ((segs f 256 256).flatMap runL ++ [93])
def bs (s : List Nat) : ByteArray := ⟨(s.map UInt8.ofNat).toArray⟩
theorem bs_size (s : List Nat) : (bs s).size = s.length := by unfold bs; simp [ByteArray.size]
def numL (n : Nat) : List Nat := if n < 10 then [48 + n] else [48 + n / 10, 48 + n % 10]
def oftL (lo hi : Int) : List Nat :=
  if hi = -1 ∧ lo = 0 then [42] else if hi = -1 ∧ lo = 1 then [43] else if lo = 0 ∧ hi = 1 then [63]
  else 123 :: (numL lo.toNat ++ (if hi = -1 then [44, 125] else if hi = lo then [125] else 44 :: (numL hi.toNat ++ [125])))
def fOf (x : Nd) : Nat → Bool := ofWords x.a.toNat x.b.toNat x.c.toNat x.d.toNat
/-- A node's words are such as words may be. -/
def okW (x : Nd) : Prop := (0 ≤ x.a ∧ x.a < 18446744073709551616) ∧ (0 ≤ x.b ∧ x.b < 18446744073709551616) ∧ (0 ≤ x.c ∧ x.c < 18446744073709551616) ∧ (0 ≤ x.d ∧ x.d < 18446744073709551616)
theorem fOf_wd {x : Nd} (h : okW x) : x.a = (wd (fOf x) 0 : Int) ∧ x.b = (wd (fOf x) 1 : Int) ∧ x.c = (wd (fOf x) 2 : Int) ∧ x.d = (wd (fOf x) 3 : Int) := by
  obtain ⟨⟨a1, a2⟩, ⟨b1, b2⟩, ⟨c1, c2⟩, ⟨d1, d2⟩⟩ := h
  obtain ⟨e1, e2, e3, e4⟩ := ofWords_wd (x0 := x.a.toNat) (x1 := x.b.toNat) (x2 := x.c.toNat) (x3 := x.d.toNat) (by omega) (by omega) (by omega) (by omega)
  unfold fOf
  omega
def par (b : Bool) (l : List Nat) : List Nat := if b = true then 40 :: (l ++ [41]) else l
theorem bs_append (a b : List Nat) : bs (a ++ b) = bs a ++ bs b := by
  unfold bs
  apply ByteArray.ext
  simp [ByteArray.data_append]
theorem bs_nil : bs [] = ByteArray.empty := rfl
/-- A text, with a group about it, if that is to be. -/
def parB (b : Bool) (s : ByteArray) : ByteArray := if b = true then ⟨#[40]⟩ ++ s ++ ⟨#[41]⟩ else s
theorem parB_bs (b : Bool) (l : List Nat) : parB b (bs l) = bs (par b l) := by
  unfold parB par
  cases b
  · rfl
  · rw [if_pos rfl, if_pos rfl, show 40 :: (l ++ [41]) = [40] ++ l ++ [41] from rfl, bs_append, bs_append]; rfl
theorem parB_len (b : Bool) (s : ByteArray) : (parB b s).size ≤ s.size + 2 := by
  unfold parB
  split
  · rw [ByteArray.size_append, ByteArray.size_append]; show 1 + s.size + 1 ≤ _; omega
  · omega
end Go.Proofs.Ytpjmogcphgaimaa

namespace Go.Proofs.Ytpjmogcphgaimaa

/-- What is told: never, at least, at most (-1: without bound), the first bytes. -/
structure Fx where
  nv : Bool
  ls : Int
  ms : Int
  fi : Nat → Bool
def cap20 (n : Int) : Int := min n 1048576
theorem cap_pos {n : Int} (h : 0 ≤ n) : 0 ≤ cap20 n := by unfold cap20; omega
theorem cap_le (n : Int) : cap20 n ≤ n := by unfold cap20; omega
theorem cap_ge {m n : Int} (h : m ≤ n) (h1 : m ≤ 1048576) : m ≤ cap20 n := by unfold cap20; omega
def fx0 : Fx := ⟨false, 0, 0, fun _ => false⟩
def fxN : Fx := ⟨true, 0, 0, fun _ => false⟩
def leafX (x : Nd) : Fx := if x.k = 1 then (if x.a = 0 ∧ x.b = 0 ∧ x.c = 0 ∧ x.d = 0 then fxN else ⟨false, 1, 1, fOf x⟩) else fx0
def catX (a b : Fx) : Fx := if a.nv = true ∨ b.nv = true then fxN else
  ⟨false, cap20 (a.ls + b.ls), if a.ms = -1 ∨ b.ms = -1 then -1 else cap20 (a.ms + b.ms), if a.ls = 0 then fun k => a.fi k || b.fi k else a.fi⟩
def orX (a b : Fx) : Fx := if a.nv = true then b else if b.nv = true then a else
  ⟨false, min a.ls b.ls, if a.ms = -1 ∨ b.ms = -1 then -1 else max a.ms b.ms, fun k => a.fi k || b.fi k⟩
def repX (lo hi : Int) (a : Fx) : Fx := if hi = 0 ∨ (lo = 0 ∧ a.nv = true) then fx0 else if a.nv = true then fxN else
  ⟨false, cap20 (lo * a.ls), if a.ms = -1 ∨ (hi = -1 ∧ 0 < a.ms) then -1 else if 0 < hi then cap20 (hi * a.ms) else 0, a.fi⟩
def fxT : Tr → Fx
  | .leaf x => leafX x
  | .cat a b => catX (fxT a) (fxT b)
  | .or a b => orX (fxT a) (fxT b)
  | .rep a lo hi => repX lo hi (fxT a)

/-- Which parts of a text (n bytes, tx i its bytes) do something. -/
abbrev Gr := Nat → Nat → Bool
def evenB (n : Nat) : Gr := fun i j => decide (i = j) && decide (j ≤ n)
def behB (n : Nat) (a b : Gr) : Gr := fun i j => (List.range (n + 1)).any fun m => decide (i ≤ m) && decide (m ≤ j) && (a i m && b m j)
def powB (n : Nat) (x : Gr) : Nat → Gr
  | 0 => evenB n
  | k + 1 => behB n (powB n x k) x
def repB (n : Nat) (x : Gr) (lo more : Nat) : Gr := fun i j => (List.range (more + 1)).any fun k => powB n x (lo + k) i j
def leafB7 (n : Nat) (tx : Nat → Nat) (x : Nd) : Gr := fun i j =>
  if x.k = 1 then decide (i < n) && decide (j = i + 1) && fOf x (tx i) else if x.k = 2 then evenB n i j else if x.k = 3 then decide (i = 0) && decide (j = 0) else decide (i = n) && decide (j = n)
def moreN (n : Nat) (lo hi : Int) : Nat := if hi = -1 then n else (hi - lo).toNat
def fitT (n : Nat) (tx : Nat → Nat) : Tr → Gr
  | .leaf x => leafB7 n tx x
  | .cat a b => behB n (fitT n tx a) (fitT n tx b)
  | .or a b => fun i j => fitT n tx a i j || fitT n tx b i j
  | .rep a lo hi => repB n (fitT n tx a) lo.toNat (moreN n lo hi)

/-- A part is within what is told. -/
def inX (n : Nat) (tx : Nat → Nat) (a : Fx) (i j : Nat) : Prop := i ≤ j ∧ j ≤ n ∧ a.nv = false ∧ a.ls ≤ (j : Int) - i ∧ (a.ms = -1 ∨ (j : Int) - i ≤ a.ms) ∧ (i < j → a.fi (tx i) = true)
def okX (a : Fx) : Prop := 0 ≤ a.ls ∧ (a.ms = -1 ∨ 0 ≤ a.ms)
theorem okX_T : ∀ t, okT t → okX (fxT t)
  | .leaf x, _ => by
    unfold fxT leafX
    split
    · split
      · exact ⟨Int.le_refl _, .inr (Int.le_refl _)⟩
      · exact ⟨show (0 : Int) ≤ 1 by decide, .inr (show (0 : Int) ≤ 1 by decide)⟩
    · exact ⟨Int.le_refl _, .inr (Int.le_refl _)⟩
  | .cat a b, h => by
    obtain ⟨a1, a2⟩ := okX_T a h.1
    obtain ⟨b1, b2⟩ := okX_T b h.2
    show okX (catX (fxT a) (fxT b))
    unfold catX
    split
    · exact ⟨Int.le_refl _, .inr (Int.le_refl _)⟩
    · refine ⟨?_, ?_⟩
      · exact cap_pos (by omega)
      · show (if _ then _ else _) = _ ∨ _ ≤ (if _ then _ else _)
        split
        · exact .inl rfl
        · exact .inr (cap_pos (by omega))
  | .or a b, h => by
    obtain ⟨a1, a2⟩ := okX_T a h.1
    obtain ⟨b1, b2⟩ := okX_T b h.2
    show okX (orX (fxT a) (fxT b))
    unfold orX
    split
    · exact ⟨b1, b2⟩
    · split
      · exact ⟨a1, a2⟩
      · refine ⟨?_, ?_⟩
        · show 0 ≤ min _ _; omega
        · show (if _ then _ else _) = _ ∨ _ ≤ (if _ then _ else _)
          split
          · exact .inl rfl
          · rename_i hno
            exact .inr (Int.le_trans (show (0 : Int) ≤ (fxT a).ms by omega) (Int.le_max_left _ _))
  | .rep a lo hi, h => by
    obtain ⟨a1, a2⟩ := okX_T a h.1
    have h1 := h.2.1
    show okX (repX lo hi (fxT a))
    unfold repX
    split
    · exact ⟨Int.le_refl _, .inr (Int.le_refl _)⟩
    · split
      · exact ⟨Int.le_refl _, .inr (Int.le_refl _)⟩
      · refine ⟨?_, ?_⟩
        · exact cap_pos (Int.mul_nonneg h1 a1)
        · show (if _ then _ else _) = _ ∨ _ ≤ (if _ then _ else _)
          split
          · exact .inl rfl
          · right
            split
            · rename_i hn hp
              have : 0 ≤ (fxT a).ms := by omega
              exact cap_pos (Int.mul_nonneg (Int.le_of_lt hp) this)
            · exact Int.le_refl _
theorem fOf_none {x : Nd} (h : x.a = 0 ∧ x.b = 0 ∧ x.c = 0 ∧ x.d = 0) (k : Nat) : fOf x k = false := by
  obtain ⟨a, b, c, d⟩ := h
  unfold fOf ofWords
  rw [a, b, c, d]
  simp
theorem in_leaf {n : Nat} {tx : Nat → Nat} {x : Nd} {i j : Nat} (h : leafB7 n tx x i j = true) : inX n tx (leafX x) i j := by
  unfold leafB7 at h
  unfold leafX
  by_cases c1 : x.k = 1
  · rw [if_pos c1] at h ⊢
    simp only [Bool.and_eq_true, decide_eq_true_eq] at h
    obtain ⟨⟨h1, rfl⟩, h3⟩ := h
    by_cases c0 : x.a = 0 ∧ x.b = 0 ∧ x.c = 0 ∧ x.d = 0
    · rw [fOf_none c0] at h3; cases h3
    · rw [if_neg c0]
      exact ⟨by omega, by omega, rfl, by show (1 : Int) ≤ _; omega, .inr (by show _ ≤ (1 : Int); omega), fun _ => h3⟩
  · rw [if_neg c1] at h ⊢
    have hz : i = j ∧ j ≤ n := by
      split at h
      · unfold evenB at h; simp only [Bool.and_eq_true, decide_eq_true_eq] at h; exact h
      · split at h
        · simp only [Bool.and_eq_true, decide_eq_true_eq] at h; omega
        · simp only [Bool.and_eq_true, decide_eq_true_eq] at h; omega
    obtain ⟨rfl, hj⟩ := hz
    exact ⟨Nat.le_refl _, hj, rfl, by show (0 : Int) ≤ _; omega, .inr (by show _ ≤ (0 : Int); omega), fun hlt => absurd hlt (Nat.lt_irrefl _)⟩
theorem beh_iff {n : Nat} {a b : Gr} {i j : Nat} : behB n a b i j = true ↔ ∃ m, m ≤ n ∧ i ≤ m ∧ m ≤ j ∧ a i m = true ∧ b m j = true := by
  unfold behB
  rw [List.any_eq_true]
  constructor
  · rintro ⟨m, hm, h⟩
    simp only [Bool.and_eq_true, decide_eq_true_eq] at h
    exact ⟨m, by have := List.mem_range.1 hm; omega, h.1.1, h.1.2, h.2.1, h.2.2⟩
  · rintro ⟨m, h1, h2, h3, h4, h5⟩
    exact ⟨m, List.mem_range.2 (by omega), by simp [h2, h3, h4, h5]⟩
/-- Some copies, one behind the other. -/
theorem in_pow {n : Nat} {tx : Nat → Nat} {x : Gr} {a : Fx} (_ha : okX a) (hx : ∀ i j, x i j = true → inX n tx a i j) : ∀ k i j, powB n x k i j = true →
    i ≤ j ∧ j ≤ n ∧ (k : Int) * a.ls ≤ (j : Int) - i ∧ (a.ms = -1 ∨ (j : Int) - i ≤ k * a.ms) ∧ (i < j → a.fi (tx i) = true) ∧ (0 < k → a.nv = false) := by
  intro k
  induction k with
  | zero =>
    intro i j h
    unfold powB evenB at h
    simp only [Bool.and_eq_true, decide_eq_true_eq] at h
    obtain ⟨rfl, h2⟩ := h
    exact ⟨Nat.le_refl _, h2, by simp, .inr (by simp), fun hlt => absurd hlt (Nat.lt_irrefl _), fun h => absurd h (Nat.lt_irrefl _)⟩
  | succ k ih =>
    intro i j h
    unfold powB at h
    obtain ⟨m, h1, h2, h3, h4, h5⟩ := beh_iff.1 h
    obtain ⟨p1, p2, p3, p4, p5, -⟩ := ih i m h4
    obtain ⟨q1, q2, q3, q4, q5, q6⟩ := hx m j h5
    have e1 : ((k + 1 : Nat) : Int) * a.ls = (k : Int) * a.ls + a.ls := by rw [Int.natCast_add, Int.add_mul]; simp
    have e2 : ((k + 1 : Nat) : Int) * a.ms = (k : Int) * a.ms + a.ms := by rw [Int.natCast_add, Int.add_mul]; simp
    refine ⟨by omega, q2, by rw [e1]; omega, ?_, ?_, fun _ => q3⟩
    · rw [e2]; omega
    · intro hlt
      rcases Nat.lt_or_ge i m with him | him
      · exact p5 him
      · have : i = m := by omega
        subst this
        exact q6 hlt
/-- Whatever part fits is within what is told. -/
theorem fit_in {n : Nat} (hn : n ≤ 1048576) (tx : Nat → Nat) : ∀ t, okT t → ∀ i j, fitT n tx t i j = true → inX n tx (fxT t) i j
  | .leaf x, _, i, j, h => in_leaf h
  | .cat a b, ht, i, j, h => by
    obtain ⟨m, h1, h2, h3, h4, h5⟩ := beh_iff.1 (show behB n (fitT n tx a) (fitT n tx b) i j = true from h)
    obtain ⟨p1, p2, p3, p4, p5, p6⟩ := fit_in hn tx a ht.1 i m h4
    obtain ⟨q1, q2, q3, q4, q5, q6⟩ := fit_in hn tx b ht.2 m j h5
    have oa := okX_T a ht.1
    show inX n tx (catX (fxT a) (fxT b)) i j
    unfold catX
    rw [if_neg (by rw [p3, q3]; simp)]
    refine ⟨by omega, q2, rfl, ?_, ?_, ?_⟩
    · exact Int.le_trans (cap_le _) (by omega)
    · show (if _ then _ else _) = _ ∨ _ ≤ (if _ then _ else _)
      split
      · exact .inl rfl
      · exact .inr (cap_ge (by omega) (by omega))
    · intro hlt
      show (if (fxT a).ls = 0 then fun k => (fxT a).fi k || (fxT b).fi k else (fxT a).fi) (tx i) = true
      rcases Nat.lt_or_ge i m with him | him
      · have := p6 him
        split
        · simp [this]
        · exact this
      · have : i = m := by omega
        subst this
        have := q6 hlt
        rw [if_pos (by have := oa.1; omega)]
        simp [this]
  | .or a b, ht, i, j, h => by
    have h' : (fitT n tx a i j || fitT n tx b i j) = true := h
    rw [Bool.or_eq_true] at h'
    have oa := okX_T a ht.1
    have ob := okX_T b ht.2
    show inX n tx (orX (fxT a) (fxT b)) i j
    unfold orX
    rcases h' with h' | h'
    · obtain ⟨p1, p2, p3, p4, p5, p6⟩ := fit_in hn tx a ht.1 i j h'
      rw [if_neg (by rw [p3]; simp)]
      split
      · exact ⟨p1, p2, p3, p4, p5, p6⟩
      · refine ⟨p1, p2, rfl, ?_, ?_, fun hlt => ?_⟩
        · show min _ _ ≤ _; omega
        · show (if _ then _ else _) = _ ∨ _ ≤ (if _ then _ else _)
          split
          · exact .inl rfl
          · exact .inr (Int.le_trans (show (j : Int) - i ≤ (fxT a).ms by omega) (Int.le_max_left _ _))
        · show ((fxT a).fi (tx i) || (fxT b).fi (tx i)) = true
          rw [p6 hlt]; rfl
    · obtain ⟨p1, p2, p3, p4, p5, p6⟩ := fit_in hn tx b ht.2 i j h'
      split
      · exact ⟨p1, p2, p3, p4, p5, p6⟩
      · rw [if_neg (by rw [p3]; simp)]
        refine ⟨p1, p2, rfl, ?_, ?_, fun hlt => ?_⟩
        · show min _ _ ≤ _; omega
        · show (if _ then _ else _) = _ ∨ _ ≤ (if _ then _ else _)
          split
          · exact .inl rfl
          · exact .inr (Int.le_trans (show (j : Int) - i ≤ (fxT b).ms by omega) (Int.le_max_right _ _))
        · show ((fxT a).fi (tx i) || (fxT b).fi (tx i)) = true
          rw [p6 hlt, Bool.or_true]
  | .rep a lo hi, ht, i, j, h => by
    have oa := okX_T a ht.1
    have h' : repB n (fitT n tx a) lo.toNat (moreN n lo hi) i j = true := h
    unfold repB at h'
    obtain ⟨k, hk, hp⟩ := List.any_eq_true.1 h'
    have hk := List.mem_range.1 hk
    obtain ⟨p1, p2, p3, p4, p5, p6⟩ := in_pow oa (fit_in hn tx a ht.1) _ i j hp
    obtain ⟨-, l1, l2, l3⟩ := ht
    obtain ⟨l, rfl⟩ := Int.eq_ofNat_of_zero_le l1
    rw [Int.toNat_natCast] at p3 p4 p6
    have kle : hi = -1 ∨ (l + k : Int) ≤ hi := by
      unfold moreN at hk
      split at hk
      · left; assumption
      · right; omega
    show inX n tx (repX l hi (fxT a)) i j
    unfold repX
    by_cases c1 : hi = 0 ∨ ((l : Int) = 0 ∧ (fxT a).nv = true)
    · rw [if_pos c1]
      have hz : l + k = 0 := by
        rcases c1 with c1 | ⟨c1, c2⟩
        · omega
        · rcases Nat.eq_zero_or_pos (l + k) with h0 | h0
          · exact h0
          · have := p6 h0; rw [c2] at this; cases this
      rw [hz] at p4 p3
      have hij : j = i := by
        have h0 : powB n (fitT n tx a) 0 i j = true := by rw [Int.toNat_natCast, hz] at hp; exact hp
        unfold powB evenB at h0
        simp only [Bool.and_eq_true, decide_eq_true_eq] at h0
        exact h0.1.symm
      subst hij
      exact ⟨Nat.le_refl _, p2, rfl, by show (0 : Int) ≤ _; omega, .inr (by show _ ≤ (0 : Int); omega), fun hlt => absurd hlt (Nat.lt_irrefl _)⟩
    · rw [if_neg c1]
      by_cases c2 : (fxT a).nv = true
      · exfalso
        have : 0 < l := by
          rcases Nat.eq_zero_or_pos l with h0 | h0
          · exact absurd (.inr ⟨by omega, c2⟩) c1
          · exact h0
        have := p6 (by omega)
        rw [c2] at this; cases this
      · rw [if_neg c2]
        have m1 : (l : Int) * (fxT a).ls ≤ ((l + k : Nat) : Int) * (fxT a).ls := Int.mul_le_mul_of_nonneg_right (by omega) oa.1
        refine ⟨p1, p2, rfl, ?_, ?_, p5⟩
        · exact Int.le_trans (cap_le _) (by omega)
        · show (if _ then _ else _) = _ ∨ _ ≤ (if _ then _ else _)
          split
          · exact .inl rfl
          · rename_i hno
            right
            have hms : 0 ≤ (fxT a).ms := by have := oa.2; omega
            have p4' : (j : Int) - i ≤ ((l + k : Nat) : Int) * (fxT a).ms := by omega
            split
            · rename_i hp0
              have m2 : ((l + k : Nat) : Int) * (fxT a).ms ≤ hi * (fxT a).ms := Int.mul_le_mul_of_nonneg_right (by omega) hms
              exact cap_ge (by omega) (by omega)
            · rename_i hp0
              have hm0 : (fxT a).ms = 0 := by omega
              rw [hm0, Int.mul_zero] at p4'
              exact p4'
end Go.Proofs.Ytpjmogcphgaimaa
