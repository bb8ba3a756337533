/-
  The walks of within and fieldsFit: are a node's Set, Lo and Hi such as its kind lets be?
  The walks of Args, the code's and the reference's.
  The walk of the code's Right: is a list a tree?
  The walk of show's Text.
-/
import Derived.Test.YtjbmkbgoahppfaaDoorPk3
import Derived.Test.YtjbmkbgoahppfaaDoorPk17
namespace Go.Proofs.YtjbmkbgoahppfaaDoor
open Go.RowKit

theorem within_any (n l : Int) (w : World) : Calls Tryd.prog 44 #[.int .i64 n, .int .i64 l] w fun e w' => e = .returned (.bool (decide (l ≤ n) && decide (n ≤ 32))) ∧ w = w' := by
  cases h1 : decide (l ≤ n) <;> cases h2 : decide (n ≤ 32)
  all_goals
    go_enter Tryd.func44, Tryd.ntmps44
    go_wp2
    go_ret
    exact ⟨rfl, rfl⟩
theorem within_b (n l : Int) (r : Bool) (h : (decide (l ≤ n) && decide (n ≤ 32)) = r) (w : World) : Calls Tryd.prog 44 #[.int .i64 n, .int .i64 l] w fun e w' => e = .returned (.bool r) ∧ w = w' := by
  rw [← h]; exact within_any n l w

/-- A node as a value. -/
@[reducible] def nv (x : Nd) : Value := .agg #[.int .i64 x.k, .int .u64 x.a, .int .u64 x.b, .int .u64 x.c, .int .u64 x.d, .int .i64 x.lo, .int .i64 x.hi]
theorem set_eq (a b c d : Int) (r : Bool) (h : (a == 0 && b == 0 && c == 0 && d == 0) = r) : ∀ w : World, (Op.equalIn 10000 38 (.agg #[.int .u64 a, .int .u64 b, .int .u64 c, .int .u64 d]) (.agg #[.int .u64 0, .int .u64 0, .int .u64 0, .int .u64 0])).run Tryd.prog w = .ok r w := fun w => by
  rw [← h]; exact eq_set_any 9998 a b c d 0 0 0 0 w

set_option maxHeartbeats 2000000 in
theorem fits_any (x : Nd) (w : World) : Calls Tryd.prog 29 #[nv x] w fun e w' => e = .returned (.bool (okN x)) ∧ Below w.heap.size w w' := by
  obtain ⟨k, a, b, c, d, lo, hi⟩ := x
  show Calls Tryd.prog 29 #[.agg #[.int .i64 k, .int .u64 a, .int .u64 b, .int .u64 c, .int .u64 d, .int .i64 lo, .int .i64 hi]] w fun e w' => e = .returned (.bool (okN ⟨k, a, b, c, d, lo, hi⟩)) ∧ Below w.heap.size w w'
  cases hs : (a == 0 && b == 0 && c == 0 && d == 0)
  · have hq := set_eq a b c d false hs
    have HS := Lib.hid hs
    clear hs
    by_cases hk1 : k = 1
    · subst hk1
      cases hl : (lo == 0) <;> cases hh : (hi == 0)
      all_goals
        have HL := Lib.hid hl; have HH := Lib.hid hh
        obtain ⟨r, hr⟩ : ∃ r, r = okN ⟨1, a, b, c, d, lo, hi⟩ := ⟨_, rfl⟩
        have HO : Hid (okN ⟨1, a, b, c, d, lo, hi⟩ = ((lo == 0) && (hi == 0))) := Lib.hid (by simp [okN])
        have HO2 : Hid (okN ⟨1, a, b, c, d, lo, hi⟩ = _) := Lib.hid (HO.out.trans (by rw [HL.out, HH.out]))
        clear HO hr r
        go_enter Tryd.func29, Tryd.ntmps29
        go_wp2
        go_ret
        exact ⟨by rw [HO2.out] <;> rfl, by go_grown⟩
    · have k1 : (k == 1) = false := beq_eq_false_iff_ne.2 hk1
      have k1' : (k != 1) = true := by simp [hk1]
      have HO : Hid (okN ⟨k, a, b, c, d, lo, hi⟩ = false) := Lib.hid (by unfold okN; simp only [k1, HS.out]; rfl)
      clear hk1 HS
      go_enter Tryd.func29, Tryd.ntmps29
      go_wp2
      go_ret
      exact ⟨by rw [HO.out] <;> rfl, by go_grown⟩
  · have hq := set_eq a b c d true hs
    have HS := Lib.hid hs
    clear hs
    by_cases hk1 : k = 1
    · subst hk1
      cases hl : (lo == 0) <;> cases hh : (hi == 0)
      all_goals
        have HL := Lib.hid hl; have HH := Lib.hid hh
        obtain ⟨r, hr⟩ : ∃ r, r = okN ⟨1, a, b, c, d, lo, hi⟩ := ⟨_, rfl⟩
        have HO : Hid (okN ⟨1, a, b, c, d, lo, hi⟩ = ((lo == 0) && (hi == 0))) := Lib.hid (by simp [okN])
        have HO2 : Hid (okN ⟨1, a, b, c, d, lo, hi⟩ = _) := Lib.hid (HO.out.trans (by rw [HL.out, HH.out]))
        clear HO hr r
        go_enter Tryd.func29, Tryd.ntmps29
        go_wp2
        go_ret
        exact ⟨by rw [HO2.out] <;> rfl, by go_grown⟩
    · have k1 : (k == 1) = false := beq_eq_false_iff_ne.2 hk1
      have k1' : (k != 1) = true := by simp [hk1]
      by_cases hk7 : k = 7
      · subst hk7
        have HO : Hid (okN ⟨7, a, b, c, d, lo, hi⟩ = (decide (0 ≤ lo) && decide (lo ≤ 32) && (hi == -1 || (decide (lo ≤ hi) && decide (hi ≤ 32))))) := Lib.hid (by unfold okN; simp only [HS.out]; simp)
        clear k1 k1' hk1 HS
        cases h1 : (decide (0 ≤ lo) && decide (lo ≤ 32))
        · have H1 := Lib.hid h1
          have HO2 : Hid (okN ⟨7, a, b, c, d, lo, hi⟩ = false) := Lib.hid (by rw [HO.out, h1]; rfl)
          clear h1 HO
          go_enter Tryd.func29, Tryd.ntmps29
          go_wp2_with (go_at_call 44; (with_reducible refine (within_b lo 0 _ H1.out _).mono ?_); rintro e w' ⟨rfl, rfl⟩)
          go_ret
          exact ⟨by rw [HO2.out] <;> rfl, by go_grown⟩
        · have H1 := Lib.hid h1
          cases h2 : (hi == -1)
          · obtain ⟨r, hr⟩ : ∃ r, (decide (lo ≤ hi) && decide (hi ≤ 32)) = r := ⟨_, rfl⟩
            have H3 := Lib.hid hr
            have HO2 : Hid (okN ⟨7, a, b, c, d, lo, hi⟩ = r) := Lib.hid (by rw [HO.out, h1, h2, hr]; rfl)
            clear h1 HO hr
            go_enter Tryd.func29, Tryd.ntmps29
            go_wp2_with (first | (go_at_call 44; (with_reducible refine (within_b lo 0 _ H1.out _).mono ?_); rintro e w' ⟨rfl, rfl⟩) | (go_at_call 44; (with_reducible refine (within_b hi lo _ H3.out _).mono ?_); rintro e w' ⟨rfl, rfl⟩))
            go_ret
            exact ⟨by rw [HO2.out] <;> rfl, by go_grown⟩
          · have HO2 : Hid (okN ⟨7, a, b, c, d, lo, hi⟩ = true) := Lib.hid (by rw [HO.out, h1, h2]; rfl)
            clear h1 HO
            go_enter Tryd.func29, Tryd.ntmps29
            go_wp2_with (go_at_call 44; (with_reducible refine (within_b lo 0 _ H1.out _).mono ?_); rintro e w' ⟨rfl, rfl⟩)
            go_ret
            exact ⟨by rw [HO2.out] <;> rfl, by go_grown⟩
      · have k7 : (k == 7) = false := beq_eq_false_iff_ne.2 hk7
        have k7' : (k != 7) = true := by simp [hk7]
        have HO : Hid (okN ⟨k, a, b, c, d, lo, hi⟩ = ((lo == 0) && (hi == 0))) := Lib.hid (by unfold okN; simp only [HS.out]; simp [hk7])
        clear hk1 hk7 HS
        cases hl : (lo == 0) <;> cases hh : (hi == 0)
        all_goals
          have HO2 : Hid (okN ⟨k, a, b, c, d, lo, hi⟩ = _) := Lib.hid (HO.out.trans (by rw [hl, hh]))
          clear HO
          go_enter Tryd.func29, Tryd.ntmps29
          go_wp2
          go_ret
          exact ⟨by rw [HO2.out] <;> rfl, by go_grown⟩
end Go.Proofs.YtjbmkbgoahppfaaDoor

namespace Go.Proofs.YtjbmkbgoahppfaaDoor
open Go.RowKit

theorem arI {a b : Int} (h : a = b) : Ending.returned (.int .i64 a) = Ending.returned (.int .i64 b) := by rw [h]

theorem args_any (k : Int) (w : World) : Calls Tryd.prog 27 #[.int .i64 k] w fun e w' => e = .returned (.int .i64 (ar k)) ∧ w = w' := by
  rcases ar_cases k with ⟨h, h1⟩ | ⟨h, rfl⟩ | ⟨h, h1⟩ | ⟨h, h1, h2, h3, h4, h5, h6, h7⟩
  · rw [h]; clear h
    rcases h1 with rfl | rfl | rfl | rfl
    all_goals
      go_enter Tryd.func27, Tryd.ntmps27
      go_wp2
      go_ret
      exact ⟨rfl, rfl⟩
  · rw [h]; clear h
    go_enter Tryd.func27, Tryd.ntmps27
    go_wp2
    go_ret
    exact ⟨rfl, rfl⟩
  · rw [h]; clear h
    rcases h1 with rfl | rfl
    all_goals
      go_enter Tryd.func27, Tryd.ntmps27
      go_wp2
      go_ret
      exact ⟨rfl, rfl⟩
  · rw [h]; clear h
    have t1 : (k == 1) = false := beq_eq_false_iff_ne.2 h1
    have t2 : (k == 2) = false := beq_eq_false_iff_ne.2 h2
    have t3 : (k == 3) = false := beq_eq_false_iff_ne.2 h3
    have t4 : (k == 4) = false := beq_eq_false_iff_ne.2 h4
    have t5 : (k == 5) = false := beq_eq_false_iff_ne.2 h5
    have t6 : (k == 6) = false := beq_eq_false_iff_ne.2 h6
    have t7 : (k == 7) = false := beq_eq_false_iff_ne.2 h7
    clear h1 h2 h3 h4 h5 h6 h7
    go_enter Tryd.func27, Tryd.ntmps27
    go_wp2
    go_ret
    exact ⟨rfl, rfl⟩

theorem rargs_any (k : Int) (w : World) : Calls Tryd.prog 33 #[.int .i64 k] w fun e w' => e = .returned (.int .i64 (ar k)) ∧ Below w.heap.size w w' := by
  rcases ar_cases k with ⟨h, h1⟩ | ⟨h, rfl⟩ | ⟨h, h1⟩ | ⟨h, h1, h2, h3, h4, h5, h6, h7⟩
  · rw [h]; clear h
    rcases h1 with rfl | rfl | rfl | rfl
    all_goals
      go_enter Tryd.func33, Tryd.ntmps33
      go_wp2
      go_ret
      exact ⟨rfl, (Below.refl _ _).alloc (Nat.le_refl _) _⟩
  · rw [h]; clear h
    go_enter Tryd.func33, Tryd.ntmps33
    go_wp2
    go_ret
    exact ⟨rfl, (Below.refl _ _).alloc (Nat.le_refl _) _⟩
  · rw [h]; clear h
    rcases h1 with rfl | rfl
    all_goals
      go_enter Tryd.func33, Tryd.ntmps33
      go_wp2
      go_ret
      exact ⟨rfl, (Below.refl _ _).alloc (Nat.le_refl _) _⟩
  · rw [h]; clear h
    have hd : decide (k < 1) = true ∨ (decide (k < 1) = false ∧ decide (7 < k) = true) := by
      by_cases h : k < 1
      · exact .inl (decide_eq_true h)
      · exact .inr ⟨decide_eq_false h, decide_eq_true (by omega)⟩
    clear h1 h2 h3 h4 h5 h6 h7
    rcases hd with h1 | ⟨h1, h2⟩
    all_goals
      go_enter Tryd.func33, Tryd.ntmps33
      go_wp2
      go_ret
      exact ⟨rfl, (Below.refl _ _).alloc (Nat.le_refl _) _⟩
end Go.Proofs.YtjbmkbgoahppfaaDoor

namespace Go.Proofs.YtjbmkbgoahppfaaDoor
open Go.RowKit

theorem not_tree {N : Nat → Nd} {n k : Nat} (hk : k < n) (h : ¬ good N k) : decide (tree N n) = false := decide_eq_false fun ht => h (ht.2.1 k hk)

theorem right_long (p : Option Addr) (n cap : Nat) (N : Nat → Nd) (hn : 512 < n) (w : World) :
    Calls Tryd.prog 17 #[.slice p n cap] w fun e w' => e = .returned (.bool (decide (tree N n))) ∧ Below w.heap.size w w' := by
  have HD : Hid (decide (tree N n) = false) := Lib.hid (decide_eq_false fun ht => by have := ht.1; omega)
  go_enter Tryd.func17, Tryd.ntmps17
  go_wp2
  go_ret
  exact ⟨by rw [HD.out] <;> rfl, Below.refl _ _⟩
theorem right_zero (p : Option Addr) (cap : Nat) (N : Nat → Nd) (w : World) :
    Calls Tryd.prog 17 #[.slice p 0 cap] w fun e w' => e = .returned (.bool (decide (tree N 0))) ∧ Below w.heap.size w w' := by
  have HD : Hid (decide (tree N 0) = false) := Lib.hid (decide_eq_false fun ht => by have := ht.2.2; simp [dep] at this)
  go_enter Tryd.func17, Tryd.ntmps17
  go_wp2
  refine wp_loop_rounds 1 ?_
  rw [rounds_succ]; go_wp2
  go_ret
  exact ⟨by rw [HD.out] <;> rfl, Below.refl _ _⟩

set_option maxHeartbeats 4000000 in
theorem right_some (b off n cap : Nat) (N : Nat → Nd) (hn : n ≤ 512) (w : World) (hr : rdN w b off n N) :
    Calls Tryd.prog 17 #[.slice (some ⟨b, off, none⟩) n cap] w fun e w' => e = .returned (.bool (decide (tree N n))) ∧ Below w.heap.size w w' := by
  have HR := Lib.hid hr
  have d0 : decide (512 < n) = false := decide_eq_false (by omega)
  clear hr
  go_enter Tryd.func17, Tryd.ntmps17
  go_wp2
  go_loopw [3, 12] (fun fr i wr => ∃ k : Nat, k ≤ n ∧ i = .int .i64 k ∧ fr = .int .i64 (dep N k) ∧ Hid (∀ j, j < k → good N j) ∧ Below w.heap.size w wr) (fun _ i _ => n - (intOf i).toNat)
  case atStart => exact ⟨0, Nat.zero_le _, rfl, rfl, Lib.hid (fun j hj => by omega), Below.refl _ _⟩
  case round =>
    obtain ⟨k, hk, rfl, rfl, HG, hB⟩ := hrel
    have hd := dep_bd HG.out
    obtain ⟨D, HD⟩ : ∃ D, Hid (dep N k = D) := ⟨_, Lib.hid rfl⟩
    rw [HD.out] at hd ⊢
    obtain ⟨hd0, -, hd1⟩ := hd
    by_cases hlt : k < n
    · have hc := ((HR.out.below hB) k hlt)
      have hsz := hB.size
      have h0 : (0 : Int) ≤ (k : Int) := by omega
      have h1 : (k : Int) < (n : Int) := by omega
      have hab := ar_bd (N k).k
      obtain ⟨A, HA⟩ : ∃ A, Hid (ar (N k).k = A) := ⟨_, Lib.hid rfl⟩
      rw [HA.out] at hab
      obtain ⟨F, HF⟩ : ∃ F, Hid (okN (N k) = F) := ⟨_, Lib.hid rfl⟩
      have hnot : A < 0 ∨ D < A ∨ F = false → decide (tree N n) = false := fun h => not_tree hlt fun hg => by
        unfold good at hg
        rw [HA.out, HD.out, HF.out] at hg
        rcases h with h | h | h
        · omega
        · omega
        · rw [h] at hg; exact absurd hg.2.2 (by decide)
      have HN := Lib.hid hnot
      clear hnot
      obtain ⟨hbl, p0, p1, p2, p3, p4, p5, p6⟩ := hc
      rcases Int.lt_or_le A 0 with ha | ha
      · have t0 : decide (A < 0) = true := decide_eq_true ha
        go_wp2_with (go_at_call 27; refine (args_any _ _).mono ?_; rintro e w' ⟨rfl, rfl⟩; rw [HA.out])
        go_ret
        exact ⟨by rw [HN.out (.inl ha)] <;> rfl, hB.alloc hsz _⟩
      · have t0 : decide (A < 0) = false := decide_eq_false (by omega)
        rcases Int.lt_or_le D A with hda | hda
        · have t1 : decide (D < A) = true := decide_eq_true hda
          go_wp2_with (go_at_call 27; refine (args_any _ _).mono ?_; rintro e w' ⟨rfl, rfl⟩; rw [HA.out])
          go_ret
          exact ⟨by rw [HN.out (.inr (.inl hda))] <;> rfl, hB.alloc hsz _⟩
        · have t1 : decide (D < A) = false := decide_eq_false (by omega)
          go_wp2_with (go_at_call 27; refine (args_any _ _).mono ?_; rintro e w' ⟨rfl, rfl⟩; rw [HA.out])
          refine (fits_any (N k) _).mono ?_
          rintro e w2 ⟨rfl, hb2⟩
          rw [HF.out]
          have HB2 : Hid (Below w.heap.size w w2) := Lib.hid ((hB.alloc hsz _).trans (hb2.mono (by simp; omega)))
          clear hb2
          cases F
          · go_wp2
            go_ret
            exact ⟨by rw [HN.out (by simp)] <;> rfl, HB2.out⟩
          · go_wp2
            go_roundw
            case rel => exact ⟨k + 1, by omega, by go_num, by simp only [dep]; rw [HD.out, HA.out]; congr 1; omega, Lib.hid (fun j hj => by
                by_cases hjk : j = k
                · subst hjk; exact ⟨by rw [HA.out]; exact ha, by rw [HA.out, HD.out]; exact hda, HF.out⟩
                · exact HG.out j (by omega)), HB2.out⟩
            case measure => simp [intOf]; omega
    · obtain rfl : k = n := by omega
      have HT : Hid (decide (tree N k) = (D == 1)) := Lib.hid (by
        by_cases h : D = 1
        · rw [h]; exact decide_eq_true ⟨hn, HG.out, by rw [HD.out, h]⟩
        · rw [beq_eq_false_iff_ne.2 h]; exact decide_eq_false fun ht => h (by rw [← HD.out]; exact ht.2.2))
      go_wp2
      go_ret
      exact ⟨by rw [HT.out] <;> rfl, hB⟩
end Go.Proofs.YtjbmkbgoahppfaaDoor

namespace Go.Proofs.YtjbmkbgoahppfaaDoor
open Go.RowKit

/-- The stack of parts, as cells. -/
def pvs (N : Nat → Nd) (L : List Nat) : List Value := L.flatMap fun j => [.int .i64 (N j).k, .string (txB N j)]
theorem pvs_length (N : Nat → Nd) (L : List Nat) : (pvs N L).length = L.length * 2 := by
  induction L with
  | nil => rfl
  | cons r l ih => simp only [pvs, List.flatMap_cons, List.length_append] at *; rw [ih]; simp; omega
theorem pvs_append (N : Nat → Nd) (a b : List Nat) : pvs N (a ++ b) = pvs N a ++ pvs N b := by simp [pvs]
theorem pvs_at (N : Nat → Nd) (L : List Nat) (j : Nat) (h : j < L.length) : (pvs N L)[j * 2]? = some (.int .i64 (N L[j]).k) ∧ (pvs N L)[j * 2 + 1]? = some (.string (txB N L[j])) := by
  induction L generalizing j with
  | nil => simp at h
  | cons r L ih =>
    cases j with
    | zero => exact ⟨rfl, rfl⟩
    | succ j =>
      have := ih j (by simpa using h)
      rw [show (j + 1) * 2 = j * 2 + 1 + 1 by omega]
      simpa [pvs] using this
theorem pvs_take (N : Nat → Nd) (L : List Nat) (r : Nat) (h : r ≤ L.length) : (pvs N L).take (r * 2) = pvs N (L.take r) := by
  have h1 : pvs N L = pvs N (L.take r) ++ pvs N (L.drop r) := by rw [← pvs_append, List.take_append_drop]
  rw [h1, show r * 2 = (pvs N (L.take r)).length by rw [pvs_length, List.length_take]; congr 1; omega, List.take_left]
theorem own_take {w : World} {base e size n cap r : Nat} {p : Option Addr} {xs : List Value} (h : w.ownsRow base e size (.slice p n cap) n xs) (hr : r ≤ n) : w.ownsRow base e size (.slice p r cap) r (xs.take (r * size)) := by
  obtain ⟨h1, h2⟩ := h
  have hm : r * size ≤ n * size := Nat.mul_le_mul_right _ hr
  refine ⟨by rw [List.length_take, h1]; omega, ?_⟩
  rcases h2 with ⟨h2, h3⟩ | ⟨g, c, cur, h2, h3, h4, h5, h6, h7, h8⟩
  · obtain rfl : r = 0 := by omega
    simp only [Value.slice.injEq] at h2
    exact .inl ⟨by rw [h2.1, h2.2.2], rfl⟩
  · simp only [Value.slice.injEq] at h2
    obtain ⟨rfl, -, rfl⟩ := h2
    refine .inr ⟨g, cap, cur, rfl, h3, h4, by omega, h6, h7, ?_⟩
    rw [← h8, List.take_take, Nat.min_eq_left hm]
theorem ar_two {N : Nat → Nd} {n k : Nat} (ht : tree N n) (hk : k < n) : ar (N k).k = ((ar (N k).k).toNat : Int) ∧ (ar (N k).k).toNat ≤ (roots N k).length ∧ (ar (N k).k).toNat ≤ 2 := by
  obtain ⟨g1, g2, -⟩ := ht.2.1 k hk
  have h := roots_dep ht k (by omega)
  rcases ar_cases (N k).k with ⟨h0, _⟩ | ⟨h0, _⟩ | ⟨h0, _⟩ | ⟨h0, _⟩ <;> (rw [h0] at g1 g2 ⊢; refine ⟨?_, ?_, ?_⟩ <;> omega)

/-- The parts of a list, in a block. -/
def rowsAt (N : Nat → Nd) (L : List Nat) (w : World) (g : Nat) : Prop := ∀ j (h : j < L.length), prAt w g (j * 2) (N L[j]).k (txB N L[j])
theorem rowsAt_of {N : Nat → Nd} {L : List Nat} {w : World} {base g cap n : Nat} (h : w.ownsRow base 64 2 (.slice (some ⟨g, 0, none⟩) n cap) n (pvs N L)) (hn : L.length = n) : rowsAt N L w g := fun j hj => by
  subst hn
  exact ⟨by rw [h.cellAt (j * 2) (by omega)]; exact (pvs_at N L j hj).1, by rw [h.cellAt (j * 2 + 1) (by omega)]; exact (pvs_at N L j hj).2⟩
/-- What node tells at a node of a tree, where the parts ahead of it lie in memory. -/
theorem node_at {N : Nat → Nd} {n k : Nat} (ht : tree N n) (hk : k < n) (hw : okW (N k)) (w : World) (hT : Tabbed w) (g cap : Nat) (hg : g < w.heap.size)
    (hp : rowsAt N (roots N k) w g) (hz : ∀ j, j < k → (txB N j).size ≤ 200) :
    Calls Tryd.prog 28 #[ndr (N k), .slice (some ⟨g, ((roots N k).length - (ar (N k).k).toNat) * 2, none⟩) (ar (N k).k).toNat cap] w (strPost (txB N k) w) := by
  obtain ⟨f, hf, hc⟩ := nd_is ht hk
  have hok := ((tree_iff.1 ht).2.2.1 k hk).2
  cases hc with
  | leaf _ hkk _ =>
    rw [txB_leaf hkk]
    exact node_leaf (N k) hw hkk _ w hT
  | @one p _ _ hkk h1 h2 _ =>
    have hr := roots_fst ht (show p < n by omega) h1
    have ha : (ar (N (p + 1)).k).toNat = 1 := by rw [hkk]; rfl
    have hlen : (roots N (p + 1)).length = (roots N f).length + 1 := by rw [hr]; simp
    have h0 := hp (roots N f).length (by omega)
    have hget : (roots N (p + 1))[(roots N f).length]'(by omega) = p := by simp [hr]
    rw [hget] at h0
    rw [txB_rep ht hk hkk, ha, hlen, Nat.add_sub_cancel]
    have hrep := okN_rep hok hkk
    have := node_rep (N (p + 1)).a (N (p + 1)).b (N (p + 1)).c (N (p + 1)).d (N (p + 1)).lo (N (p + 1)).hi hrep.1 hrep.2.1 hrep.2.2 g ((roots N f).length * 2) cap (N p).k (txB N p) (hz p (by omega)) w hg h0
    unfold ndr
    rw [hkk]
    exact this
  | @two p q _ _ hkk h1 h2 h3 h4 _ =>
    have hr1 := roots_fst ht (show p < n by omega) h1
    have hr := roots_fst ht (show q < n by omega) h3
    rw [hr] at hr1
    have ha : (ar (N (p + 1)).k).toNat = 2 := by rcases hkk with h | h <;> rw [h] <;> rfl
    have hlen : (roots N (p + 1)).length = (roots N f).length + 2 := by rw [hr1]; simp
    have h0 := hp (roots N f).length (by omega)
    have hget : (roots N (p + 1))[(roots N f).length]'(by omega) = q := by simp [hr1]
    rw [hget] at h0
    have h1' := hp ((roots N f).length + 1) (by omega)
    have hget1 : (roots N (p + 1))[(roots N f).length + 1]'(by omega) = p := by simp [hr1]
    rw [hget1, show ((roots N f).length + 1) * 2 = (roots N f).length * 2 + 2 by omega] at h1'
    rw [ha, hlen, Nat.add_sub_cancel]
    rcases hkk with hkk | hkk
    · rw [txB_cat ht hk hkk h1 h2]
      have := node_cat (N (p + 1)).a (N (p + 1)).b (N (p + 1)).c (N (p + 1)).d (N (p + 1)).lo (N (p + 1)).hi g ((roots N f).length * 2) cap (N q).k (N p).k (txB N q) (txB N p) (hz q (by omega)) (hz p (by omega)) w hg h0 h1'
      unfold ndr
      rw [hkk]
      exact this
    · rw [txB_or ht hk hkk h1 h2]
      have := node_or (N (p + 1)).a (N (p + 1)).b (N (p + 1)).c (N (p + 1)).d (N (p + 1)).lo (N (p + 1)).hi g ((roots N f).length * 2) cap (N q).k (N p).k (txB N q) (txB N p) (hz q (by omega)) (hz p (by omega)) w hg h0 h1'
      unfold ndr
      rw [hkk]
      exact this
end Go.Proofs.YtjbmkbgoahppfaaDoor
