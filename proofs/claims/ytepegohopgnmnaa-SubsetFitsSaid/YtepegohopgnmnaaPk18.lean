/-
  The walks of within and fieldsFit: are a node's Set, Lo and Hi such as its kind lets be?
  The walk of the code's Right: is a list a tree?
  The walk of the code's Depth: how many nodes stand within one another.
  The walk of the laws' awake: the page's example holds.
-/
import Derived.Test.YtepegohopgnmnaaPk6
import Derived.Test.YtepegohopgnmnaaPk9
import Derived.Test.YtepegohopgnmnaaPk11
import Derived.Test.YtepegohopgnmnaaPk10
namespace Go.Proofs.Ytepegohopgnmnaa
open Go.RowKit

theorem within_any (n l : Int) (w : World) : Calls Try.prog 81 #[.int .i64 n, .int .i64 l] w fun e w' => e = .returned (.bool (decide (l ≤ n) && decide (n ≤ 32))) ∧ w = w' := by
  cases h1 : decide (l ≤ n) <;> cases h2 : decide (n ≤ 32)
  all_goals
    go_enter Try.func81, Try.ntmps81
    go_wp2
    go_ret
    exact ⟨rfl, rfl⟩
theorem within_b (n l : Int) (r : Bool) (h : (decide (l ≤ n) && decide (n ≤ 32)) = r) (w : World) : Calls Try.prog 81 #[.int .i64 n, .int .i64 l] w fun e w' => e = .returned (.bool r) ∧ w = w' := by
  rw [← h]; exact within_any n l w

/-- A node as a value. -/
@[reducible] def nv (x : Nd) : Value := .agg #[.int .i64 x.k, .int .u64 x.a, .int .u64 x.b, .int .u64 x.c, .int .u64 x.d, .int .i64 x.lo, .int .i64 x.hi]
theorem set_eq (a b c d : Int) (r : Bool) (h : (a == 0 && b == 0 && c == 0 && d == 0) = r) : ∀ w : World, (Op.equalIn 10000 62 (.agg #[.int .u64 a, .int .u64 b, .int .u64 c, .int .u64 d]) (.agg #[.int .u64 0, .int .u64 0, .int .u64 0, .int .u64 0])).run Try.prog w = .ok r w := fun w => by
  rw [← h]; exact eq_set_any 9998 a b c d 0 0 0 0 w

set_option maxHeartbeats 2000000 in
theorem fits_any (x : Nd) (w : World) : Calls Try.prog 72 #[nv x] w fun e w' => e = .returned (.bool (okN x)) ∧ Below w.heap.size w w' := by
  obtain ⟨k, a, b, c, d, lo, hi⟩ := x
  show Calls Try.prog 72 #[.agg #[.int .i64 k, .int .u64 a, .int .u64 b, .int .u64 c, .int .u64 d, .int .i64 lo, .int .i64 hi]] w fun e w' => e = .returned (.bool (okN ⟨k, a, b, c, d, lo, hi⟩)) ∧ Below w.heap.size w w'
  cases hs : (a == 0 && b == 0 && c == 0 && d == 0)
  · have hq := set_eq a b c d false hs
    have HS := Lib.hid hs
    clear hs
    by_cases hk1 : k = 1
    · subst hk1
      cases hl : (lo == 0) <;> cases hh : (hi == 0)
      all_goals
        have HL := Lib.hid hl; have HH := Lib.hid hh
        obtain ⟨r, hr⟩ : ∃ r, r = okN ⟨1, a, b, c, d, lo, hi⟩ := ⟨_, rfl⟩
        have HO : Hid (okN ⟨1, a, b, c, d, lo, hi⟩ = ((lo == 0) && (hi == 0))) := Lib.hid (by simp [okN])
        have HO2 : Hid (okN ⟨1, a, b, c, d, lo, hi⟩ = _) := Lib.hid (HO.out.trans (by rw [HL.out, HH.out]))
        clear HO hr r
        go_enter Try.func72, Try.ntmps72
        go_wp2
        go_ret
        exact ⟨by rw [HO2.out] <;> rfl, by go_grown⟩
    · have k1 : (k == 1) = false := beq_eq_false_iff_ne.2 hk1
      have k1' : (k != 1) = true := by simp [hk1]
      have HO : Hid (okN ⟨k, a, b, c, d, lo, hi⟩ = false) := Lib.hid (by unfold okN; simp only [k1, HS.out]; rfl)
      clear hk1 HS
      go_enter Try.func72, Try.ntmps72
      go_wp2
      go_ret
      exact ⟨by rw [HO.out] <;> rfl, by go_grown⟩
  · have hq := set_eq a b c d true hs
    have HS := Lib.hid hs
    clear hs
    by_cases hk1 : k = 1
    · subst hk1
      cases hl : (lo == 0) <;> cases hh : (hi == 0)
      all_goals
        have HL := Lib.hid hl; have HH := Lib.hid hh
        obtain ⟨r, hr⟩ : ∃ r, r = okN ⟨1, a, b, c, d, lo, hi⟩ := ⟨_, rfl⟩
        have HO : Hid (okN ⟨1, a, b, c, d, lo, hi⟩ = ((lo == 0) && (hi == 0))) := Lib.hid (by simp [okN])
        have HO2 : Hid (okN ⟨1, a, b, c, d, lo, hi⟩ = _) := Lib.hid (HO.out.trans (by rw [HL.out, HH.out]))
        clear HO hr r
        go_enter Try.func72, Try.ntmps72
        go_wp2
        go_ret
        exact ⟨by rw [HO2.out] <;> rfl, by go_grown⟩
    · have k1 : (k == 1) = false := beq_eq_false_iff_ne.2 hk1
      have k1' : (k != 1) = true := by simp [hk1]
      by_cases hk7 : k = 7
      · subst hk7
        have HO : Hid (okN ⟨7, a, b, c, d, lo, hi⟩ = (decide (0 ≤ lo) && decide (lo ≤ 32) && (hi == -1 || (decide (lo ≤ hi) && decide (hi ≤ 32))))) := Lib.hid (by unfold okN; simp only [HS.out]; simp)
        clear k1 k1' hk1 HS
        cases h1 : (decide (0 ≤ lo) && decide (lo ≤ 32))
        · have H1 := Lib.hid h1
          have HO2 : Hid (okN ⟨7, a, b, c, d, lo, hi⟩ = false) := Lib.hid (by rw [HO.out, h1]; rfl)
          clear h1 HO
          go_enter Try.func72, Try.ntmps72
          go_wp2_with (go_at_call 81; (with_reducible refine (within_b lo 0 _ H1.out _).mono ?_); rintro e w' ⟨rfl, rfl⟩)
          go_ret
          exact ⟨by rw [HO2.out] <;> rfl, by go_grown⟩
        · have H1 := Lib.hid h1
          cases h2 : (hi == -1)
          · obtain ⟨r, hr⟩ : ∃ r, (decide (lo ≤ hi) && decide (hi ≤ 32)) = r := ⟨_, rfl⟩
            have H3 := Lib.hid hr
            have HO2 : Hid (okN ⟨7, a, b, c, d, lo, hi⟩ = r) := Lib.hid (by rw [HO.out, h1, h2, hr]; rfl)
            clear h1 HO hr
            go_enter Try.func72, Try.ntmps72
            go_wp2_with (first | (go_at_call 81; (with_reducible refine (within_b lo 0 _ H1.out _).mono ?_); rintro e w' ⟨rfl, rfl⟩) | (go_at_call 81; (with_reducible refine (within_b hi lo _ H3.out _).mono ?_); rintro e w' ⟨rfl, rfl⟩))
            go_ret
            exact ⟨by rw [HO2.out] <;> rfl, by go_grown⟩
          · have HO2 : Hid (okN ⟨7, a, b, c, d, lo, hi⟩ = true) := Lib.hid (by rw [HO.out, h1, h2]; rfl)
            clear h1 HO
            go_enter Try.func72, Try.ntmps72
            go_wp2_with (go_at_call 81; (with_reducible refine (within_b lo 0 _ H1.out _).mono ?_); rintro e w' ⟨rfl, rfl⟩)
            go_ret
            exact ⟨by rw [HO2.out] <;> rfl, by go_grown⟩
      · have k7 : (k == 7) = false := beq_eq_false_iff_ne.2 hk7
        have k7' : (k != 7) = true := by simp [hk7]
        have HO : Hid (okN ⟨k, a, b, c, d, lo, hi⟩ = ((lo == 0) && (hi == 0))) := Lib.hid (by unfold okN; simp only [HS.out]; simp [hk7])
        clear hk1 hk7 HS
        cases hl : (lo == 0) <;> cases hh : (hi == 0)
        all_goals
          have HO2 : Hid (okN ⟨k, a, b, c, d, lo, hi⟩ = _) := Lib.hid (HO.out.trans (by rw [hl, hh]))
          clear HO
          go_enter Try.func72, Try.ntmps72
          go_wp2
          go_ret
          exact ⟨by rw [HO2.out] <;> rfl, by go_grown⟩
end Go.Proofs.Ytepegohopgnmnaa

namespace Go.Proofs.Ytepegohopgnmnaa
open Go.RowKit

theorem not_tree {N : Nat → Nd} {n k : Nat} (hk : k < n) (h : ¬ good N k) : decide (tree N n) = false := decide_eq_false fun ht => h (ht.2.1 k hk)

theorem right_long (p : Option Addr) (n cap : Nat) (N : Nat → Nd) (hn : 512 < n) (w : World) :
    Calls Try.prog 52 #[.slice p n cap] w fun e w' => e = .returned (.bool (decide (tree N n))) ∧ Below w.heap.size w w' := by
  have HD : Hid (decide (tree N n) = false) := Lib.hid (decide_eq_false fun ht => by have := ht.1; omega)
  go_enter Try.func52, Try.ntmps52
  go_wp2
  go_ret
  exact ⟨by rw [HD.out] <;> rfl, Below.refl _ _⟩
theorem right_zero (p : Option Addr) (cap : Nat) (N : Nat → Nd) (w : World) :
    Calls Try.prog 52 #[.slice p 0 cap] w fun e w' => e = .returned (.bool (decide (tree N 0))) ∧ Below w.heap.size w w' := by
  have HD : Hid (decide (tree N 0) = false) := Lib.hid (decide_eq_false fun ht => by have := ht.2.2; simp [dep] at this)
  go_enter Try.func52, Try.ntmps52
  go_wp2
  refine wp_loop_rounds 1 ?_
  rw [rounds_succ]; go_wp2
  go_ret
  exact ⟨by rw [HD.out] <;> rfl, Below.refl _ _⟩

set_option maxHeartbeats 4000000 in
theorem right_some (b off n cap : Nat) (N : Nat → Nd) (hn : n ≤ 512) (w : World) (hr : rdN w b off n N) :
    Calls Try.prog 52 #[.slice (some ⟨b, off, none⟩) n cap] w fun e w' => e = .returned (.bool (decide (tree N n))) ∧ Below w.heap.size w w' := by
  have HR := Lib.hid hr
  have d0 : decide (512 < n) = false := decide_eq_false (by omega)
  clear hr
  go_enter Try.func52, Try.ntmps52
  go_wp2
  go_loopw [3, 12] (fun fr i wr => ∃ k : Nat, k ≤ n ∧ i = .int .i64 k ∧ fr = .int .i64 (dep N k) ∧ Hid (∀ j, j < k → good N j) ∧ Below w.heap.size w wr) (fun _ i _ => n - (intOf i).toNat)
  case atStart => exact ⟨0, Nat.zero_le _, rfl, rfl, Lib.hid (fun j hj => by omega), Below.refl _ _⟩
  case round =>
    obtain ⟨k, hk, rfl, rfl, HG, hB⟩ := hrel
    have hd := dep_bd HG.out
    obtain ⟨D, HD⟩ : ∃ D, Hid (dep N k = D) := ⟨_, Lib.hid rfl⟩
    rw [HD.out] at hd ⊢
    obtain ⟨hd0, -, hd1⟩ := hd
    by_cases hlt : k < n
    · have hc := ((HR.out.below hB) k hlt)
      have hsz := hB.size
      have h0 : (0 : Int) ≤ (k : Int) := by omega
      have h1 : (k : Int) < (n : Int) := by omega
      have hab := ar_bd (N k).k
      obtain ⟨A, HA⟩ : ∃ A, Hid (ar (N k).k = A) := ⟨_, Lib.hid rfl⟩
      rw [HA.out] at hab
      obtain ⟨F, HF⟩ : ∃ F, Hid (okN (N k) = F) := ⟨_, Lib.hid rfl⟩
      have hnot : A < 0 ∨ D < A ∨ F = false → decide (tree N n) = false := fun h => not_tree hlt fun hg => by
        unfold good at hg
        rw [HA.out, HD.out, HF.out] at hg
        rcases h with h | h | h
        · omega
        · omega
        · rw [h] at hg; exact absurd hg.2.2 (by decide)
      have HN := Lib.hid hnot
      clear hnot
      obtain ⟨hbl, p0, p1, p2, p3, p4, p5, p6⟩ := hc
      rcases Int.lt_or_le A 0 with ha | ha
      · have t0 : decide (A < 0) = true := decide_eq_true ha
        go_wp2_with (go_at_call 71; refine (args_any _ _).mono ?_; rintro e w' ⟨rfl, rfl⟩; rw [HA.out])
        go_ret
        exact ⟨by rw [HN.out (.inl ha)] <;> rfl, hB.alloc hsz _⟩
      · have t0 : decide (A < 0) = false := decide_eq_false (by omega)
        rcases Int.lt_or_le D A with hda | hda
        · have t1 : decide (D < A) = true := decide_eq_true hda
          go_wp2_with (go_at_call 71; refine (args_any _ _).mono ?_; rintro e w' ⟨rfl, rfl⟩; rw [HA.out])
          go_ret
          exact ⟨by rw [HN.out (.inr (.inl hda))] <;> rfl, hB.alloc hsz _⟩
        · have t1 : decide (D < A) = false := decide_eq_false (by omega)
          go_wp2_with (go_at_call 71; refine (args_any _ _).mono ?_; rintro e w' ⟨rfl, rfl⟩; rw [HA.out])
          refine (fits_any (N k) _).mono ?_
          rintro e w2 ⟨rfl, hb2⟩
          rw [HF.out]
          have HB2 : Hid (Below w.heap.size w w2) := Lib.hid ((hB.alloc hsz _).trans (hb2.mono (by simp; omega)))
          clear hb2
          cases F
          · go_wp2
            go_ret
            exact ⟨by rw [HN.out (by simp)] <;> rfl, HB2.out⟩
          · go_wp2
            go_roundw
            case rel => exact ⟨k + 1, by omega, by go_num, by simp only [dep]; rw [HD.out, HA.out]; congr 1; omega, Lib.hid (fun j hj => by
                by_cases hjk : j = k
                · subst hjk; exact ⟨by rw [HA.out]; exact ha, by rw [HA.out, HD.out]; exact hda, HF.out⟩
                · exact HG.out j (by omega)), HB2.out⟩
            case measure => simp [intOf]; omega
    · obtain rfl : k = n := by omega
      have HT : Hid (decide (tree N k) = (D == 1)) := Lib.hid (by
        by_cases h : D = 1
        · rw [h]; exact decide_eq_true ⟨hn, HG.out, by rw [HD.out, h]⟩
        · rw [beq_eq_false_iff_ne.2 h]; exact decide_eq_false fun ht => h (by rw [← HD.out]; exact ht.2.2))
      go_wp2
      go_ret
      exact ⟨by rw [HT.out] <;> rfl, hB⟩
end Go.Proofs.Ytepegohopgnmnaa

namespace Go.Proofs.Ytepegohopgnmnaa
open Go.RowKit

theorem mx_take_le (l : List Int) (n : Nat) : mx (l.take n) ≤ mx l := by
  have := mx_append (l.take n) (l.drop n)
  rw [List.take_append_drop] at this
  omega
theorem mx_le (N : Nat → Nd) : ∀ k, mx (stk N k) ≤ k := by
  intro k
  induction k with
  | zero => simp [stk, mx]
  | succ k ih =>
    have h := mx_append ((stk N k).take (ar (N k).k).toNat) ((stk N k).drop (ar (N k).k).toNat)
    rw [List.take_append_drop] at h
    simp only [stk, mx]
    omega
theorem stk_pos (N : Nat → Nd) : ∀ k x, x ∈ stk N k → 1 ≤ x := by
  intro k
  induction k with
  | zero => intro x hx; simp [stk] at hx
  | succ k ih =>
    intro x hx
    rw [stk_succ] at hx
    rcases List.mem_cons.1 hx with rfl | hx
    · exact dpt_pos N k
    · exact ih x (List.mem_of_mem_drop hx)
theorem mem_le_mx {l : List Int} {x : Int} (h : x ∈ l) : x ≤ mx l := by
  induction l with
  | nil => cases h
  | cons y l ih =>
    simp only [mx]
    rcases List.mem_cons.1 h with rfl | h
    · omega
    · have := ih h; omega
/-- The front of a row that the call owns. -/
theorem owns_take {w : World} {base : Nat} {e : TypeId} {g cap n m : Nat} {xs : List Value} (hm : m ≤ n) (h : w.ownsRow base e 1 (.slice (some ⟨g, 0, none⟩) n cap) n xs) :
    w.ownsRow base e 1 (.slice (some ⟨g, 0, none⟩) m cap) m (xs.take m) := by
  obtain ⟨h1, h2⟩ := h
  rcases h2 with ⟨h0, _⟩ | ⟨g', cap', cur, hv, hg, hh, hn, hcap, hsz, htake⟩
  · cases h0
  · cases hv
    refine ⟨by rw [List.length_take]; omega, .inr ⟨g, cap, cur, rfl, hg, hh, by omega, hcap, hsz, ?_⟩⟩
    rw [← htake, List.take_take]
    congr 1
    omega
theorem rev_take (st : List Int) (a : Nat) : (ivs st.reverse).take (st.length - a) = ivs (st.drop a).reverse := by
  have : st.reverse = (st.drop a).reverse ++ (st.take a).reverse := by rw [← List.reverse_append, List.take_append_drop]
  unfold ivs
  rw [this, List.map_append, List.take_left' (by simp)]
theorem rev_get (st : List Int) (j : Nat) (hj : j < st.length) : (ivs st.reverse)[st.length - 1 - j]? = some (.int .i64 st[j]) := by
  have h2 : st.reverse[st.length - 1 - j]? = some st[j] := by
    rw [List.getElem?_reverse (by omega), show st.length - 1 - (st.length - 1 - j) = j by omega, List.getElem?_eq_getElem hj]
  unfold ivs
  rw [List.getElem?_map, h2]; rfl

end Go.Proofs.Ytepegohopgnmnaa

namespace Go.Proofs.Ytepegohopgnmnaa
open Go.RowKit

/-- The page's example: Set, Set, Cat. -/
def N0 (j : Nat) : Nd := if j < 2 then ⟨1, 0, 0, 0, 0, 0, 0⟩ else ⟨5, 0, 0, 0, 0, 0, 0⟩
theorem N0_tree : tree N0 3 := by decide
theorem N0_kids : kids N0 2 = [0, 1] := by decide
theorem N0_fst : 0 ≤ fst N0 2 := by decide
theorem N0_dpt : dpt N0 2 = 2 := by decide

theorem N0_rd (w : World) : rdN (w.alloc (.cells #[.int .i64 1, .int .u64 0, .int .u64 0, .int .u64 0, .int .u64 0, .int .i64 0, .int .i64 0, .int .i64 1, .int .u64 0, .int .u64 0, .int .u64 0, .int .u64 0, .int .i64 0, .int .i64 0, .int .i64 5, .int .u64 0, .int .u64 0, .int .u64 0, .int .u64 0, .int .i64 0, .int .i64 0] 71)) w.heap.size 0 3 N0 := by
  intro j hj
  refine ⟨by simp, ?_⟩
  match j, hj with
  | 0, _ => simp [ndAt, N0, go_sem]
  | 1, _ => simp [ndAt, N0, go_sem]
  | 2, _ => simp [ndAt, N0, go_sem]

end Go.Proofs.Ytepegohopgnmnaa
