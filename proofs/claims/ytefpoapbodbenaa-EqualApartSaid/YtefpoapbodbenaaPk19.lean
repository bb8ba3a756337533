/-
  The walks of the tenth and of the eleventh reference's Same, at any two, of any length.
  The walks of dfa's below and allBelow, with slices.ContainsFunc and slices.IndexFunc at allBelow's function.
-/
import Derived.Test.YtefpoapbodbenaaPk11
import Derived.BigQuiet
import Derived.Deep.QuietTactic
import Derived.Test.YtefpoapbodbenaaPk5
namespace Go.Proofs.Ytefpoapbodbenaa
open Go.RowKit

set_option maxRecDepth 100000 in
set_option maxHeartbeats 4000000 in
theorem same10n (q : Option Addr) (n c : Nat) (l : Nat → Int) (q' : Option Addr) (n' c' : Nat) (l' : Nat → Int) (r : Bool) (hr : r = true ↔ n = n' ∧ ∀ j, j < n → l j = l' j) (hn : n ≤ maxLen) (w : World) (hl : rdL w q n l) (hl' : rdL w q' n' l') :
    Calls Try.prog 13 #[.slice q n c, .slice q' n' c'] w fun e w' => e = .returned (.bool r) ∧ Below w.heap.size w w' := by
  have HL := Lib.hid hl; have HL' := Lib.hid hl'
  have hn9 : (n : Int) ≤ 9223372036854775807 := by unfold maxLen at hn; omega
  clear hn
  by_cases hnn : n = n'
  · subst hnn
    have hb : ((n : Int) != (n : Int)) = false := by simp
    have HR : Hid (r = true ↔ ∀ j, j < n → l j = l' j) := Lib.hid (hr.trans ⟨fun h => h.2, fun h => ⟨rfl, h⟩⟩)
    have n0 : (0 : Int) ≤ (n : Int) := by omega
    clear hr hl hl'
    go_enter Try.func13, Try.ntmps13
    go_wp2_with fail
    go_loopw [5] (fun iv wr => ∃ i : Nat, i ≤ n ∧ iv = .int .i64 i ∧ Hid (∀ j, j < i → l j = l' j) ∧ Hid (Below w.heap.size w wr)) (fun iv _ => n - (intOf iv).toNat)
    case atStart => exact ⟨0, Nat.zero_le _, rfl, Lib.hid (fun _ h => absurd h (Nat.not_lt_zero _)), Lib.hid (Below.refl _ _)⟩
    case round =>
      obtain ⟨i, hi, rfl, HQ, HB⟩ := hrel
      by_cases hlti : i < n
      · have i0 : (0 : Int) ≤ (i : Int) := by omega
        have i1 : (i : Int) < (n : Int) := by omega
        obtain ⟨lb, lo, rfl, hlb, hlc⟩ := (HL.out.below HB.out) i hlti
        obtain ⟨lb', lo', rfl, hlb', hlc'⟩ := (HL'.out.below HB.out) i hlti
        obtain ⟨u, hu⟩ : ∃ u, l i = u := ⟨_, rfl⟩
        obtain ⟨u', hu'⟩ : ∃ u', l' i = u' := ⟨_, rfl⟩
        have HU := Lib.hid hu; have HU' := Lib.hid hu'
        rw [hu] at hlc; rw [hu'] at hlc'
        clear hu hu'
        cases hx : (u != u')
        · have HQ2 : Hid (∀ j, j < i + 1 → l j = l' j) := Lib.hid fun j hj => by
            by_cases e : j = i
            · subst e; rw [HU.out, HU'.out]; simpa using hx
            · exact HQ.out j (by omega)
          go_wp2_with fail
          go_quiet (fail)
          have HBd := Lib.hid (below_drewN nq HB.out)
          go_wp2_with fail
          go_roundw
          case rel => exact ⟨i + 1, by omega, by go_num, HQ2, HBd⟩
          case measure => simp [intOf]; omega
        · have HE : Hid (r = false) := Lib.hid (by
            cases r with
            | false => rfl
            | true =>
              have := HR.out.1 rfl i hlti
              rw [HU.out, HU'.out] at this
              subst this
              simp at hx)
          go_wp2_with fail
          go_quiet (fail)
          have HBd := Lib.hid (below_drewN nq HB.out)
          go_wp2_with fail
          go_returns
          exact ⟨by rw [HE.out] <;> rfl, HBd.out⟩
      · obtain rfl : i = n := by omega
        have HE : Hid (r = true) := Lib.hid (HR.out.2 HQ.out)
        go_wp2_with fail
        go_returns
        exact ⟨by rw [HE.out] <;> rfl, HB.out⟩
  · have hb : ((n : Int) != (n' : Int)) = true := by simp; omega
    have HE : Hid (r = false) := Lib.hid (by
      cases r with
      | false => rfl
      | true => exact absurd (hr.1 rfl).1 hnn)
    clear hr hnn
    go_enter Try.func13, Try.ntmps13
    go_wp2_with fail
    go_returns
    exact ⟨by rw [HE.out] <;> rfl, Below.refl _ _⟩

/-- Two decided automata that are the same, entry by entry. -/
def saP (x y : Da) : Prop := (x.n0 = y.n0 ∧ ∀ j, j < x.n0 → x.l0 j = y.l0 j) ∧ (x.n1 = y.n1 ∧ ∀ j, j < x.n1 → x.l1 j = y.l1 j) ∧ x.wd = y.wd ∧ x.st = y.st ∧ x.n2 = y.n2 ∧ ∀ j, j < x.n2 → x.T j = y.T j
noncomputable def saB (x y : Da) : Bool := @decide (saP x y) (Classical.propDecidable _)
theorem saB_iff {x y : Da} : saB x y = true ↔ saP x y := by unfold saB; simp
theorem saB_no {x y : Da} (h : ¬ saP x y) : saB x y = false := by unfold saB; simp [h]
theorem saP_refl (x : Da) : saP x x := ⟨⟨rfl, fun _ _ => rfl⟩, ⟨rfl, fun _ _ => rfl⟩, rfl, rfl, rfl, fun _ _ => rfl⟩
noncomputable def sl0 (n : Nat) (l : Nat → Int) (n' : Nat) (l' : Nat → Int) : Bool := @decide (n = n' ∧ ∀ j, j < n → l j = l' j) (Classical.propDecidable _)
theorem sl0_iff {n : Nat} {l : Nat → Int} {n' : Nat} {l' : Nat → Int} : sl0 n l n' l' = true ↔ n = n' ∧ ∀ j, j < n → l j = l' j := by unfold sl0; simp
end Go.Proofs.Ytefpoapbodbenaa

namespace Go.Proofs.Ytefpoapbodbenaa
open Go.RowKit

theorem below12 (x n : Int) (r : Bool) (hr : (decide (0 ≤ x) && decide (x < n)) = r) (w : World) : Calls Try.prog 35 #[.int .i64 x, .int .i64 n] w fun e w' => e = .returned (.bool r) ∧ w' = w := by
  subst hr
  cases h1 : decide (0 ≤ x) <;> cases h2 : decide (x < n)
  all_goals
    go_enter Try.func35, Try.ntmps35
    go_wp2_with fail
    go_returns
    exact ⟨rfl, rfl⟩
/-- The function that allBelow hands over: whether a number is not from 0 to below what the block b holds. -/
theorem not12 (x n : Int) (b : Nat) (r : Bool) (hr : (decide (0 ≤ x) && decide (x < n)) = r) (w : World) (hb : w.cell? ⟨b, 0, none⟩ = some (.int .i64 n)) :
    Calls Try.prog 58 #[.int .i64 x, .pointer (some ⟨b, 0, none⟩)] w fun e w' => e = .returned (.bool (!r)) ∧ w' = w := by
  have H := Lib.hid (below12 x n r hr)
  clear hr
  go_enter Try.func58, Try.ntmps58
  go_wp2_with fail
  refine (H.out _).mono ?_
  rintro e w' ⟨rfl, rfl⟩
  go_wp2_with fail
  go_returns
  exact ⟨rfl, rfl⟩

set_option maxRecDepth 100000 in
set_option maxHeartbeats 4000000 in
theorem index12 (q : Option Addr) (n c : Nat) (l : Nat → Int) (N : Int) (b : Nat) (hn : n ≤ 1000000) (w : World) (hl : rdL w q n l) (hb : w.cell? ⟨b, 0, none⟩ = some (.int .i64 N)) :
    Calls Try.prog 67 #[.slice q n c, .func (.func 58) #[] #[.pointer (some ⟨b, 0, none⟩)]] w fun e w' => ∃ i : Int, e = .returned (.int .i64 i) ∧ w' = w ∧ (0 ≤ i ↔ ∃ j, j < n ∧ ¬ (0 ≤ l j ∧ l j < N)) := by
  have HL := Lib.hid hl
  have HNt := Lib.hid (fun (x : Int) (r : Bool) (hr : (decide (0 ≤ x) && decide (x < N)) = r) => not12 x N b r hr w hb)
  have n0 : (0 : Int) ≤ (n : Int) := by omega
  clear hl hb
  go_enter Try.func67, Try.ntmps67
  go_wp2_with fail
  go_loopw [8] (fun iv wr => ∃ i : Nat, i ≤ n ∧ iv = .int .i64 i ∧ Hid (∀ j, j < i → 0 ≤ l j ∧ l j < N) ∧ wr = w) (fun iv _ => n - (intOf iv).toNat)
  case atStart => exact ⟨0, Nat.zero_le _, rfl, Lib.hid (fun _ h => absurd h (Nat.not_lt_zero _)), rfl⟩
  case round =>
    obtain ⟨i, hi, rfl, HQ, rfl⟩ := hrel
    by_cases hlti : i < n
    · have i0 : (0 : Int) ≤ (i : Int) := by omega
      have i1 : (i : Int) < (n : Int) := by omega
      obtain ⟨lb, lo, rfl, hlb, hlc⟩ := HL.out i hlti
      obtain ⟨u, hu⟩ : ∃ u, l i = u := ⟨_, rfl⟩
      have HU := Lib.hid hu
      rw [hu] at hlc
      clear hu
      cases hx : (decide (0 ≤ u) && decide (u < N))
      · have HC := Lib.hid (HNt.out u false hx)
        have HE : Hid (∃ j, j < n ∧ ¬ (0 ≤ l j ∧ l j < N)) := Lib.hid ⟨i, hlti, fun h => by
          rw [HU.out] at h
          rw [decide_eq_true h.1, decide_eq_true h.2] at hx
          cases hx⟩
        clear hx
        go_wp2_with fail
        refine HC.out.mono ?_
        rintro e w' ⟨rfl, rfl⟩
        go_wp2_with fail
        go_returns
        exact ⟨_, rfl, rfl, ⟨fun _ => HE.out, fun _ => i0⟩⟩
      · have HC := Lib.hid (HNt.out u true hx)
        have HQ2 : Hid (∀ j, j < i + 1 → 0 ≤ l j ∧ l j < N) := Lib.hid fun j hj => by
          by_cases e : j = i
          · subst e; rw [HU.out]; simpa using hx
          · exact HQ.out j (by omega)
        clear hx
        go_wp2_with fail
        refine HC.out.mono ?_
        rintro e w' ⟨rfl, rfl⟩
        go_wp2_with fail
        go_roundw
        case rel => exact ⟨i + 1, by omega, by go_num, HQ2, trivial⟩
        case measure => simp [intOf]; omega
    · obtain rfl : i = n := by omega
      have HE : Hid (¬ ∃ j, j < i ∧ ¬ (0 ≤ l j ∧ l j < N)) := Lib.hid fun ⟨j, h1, h2⟩ => h2 (HQ.out j h1)
      go_wp2_with fail
      go_returns
      exact ⟨-1, rfl, rfl, ⟨fun h => absurd h (by decide), fun h => absurd h HE.out⟩⟩

set_option maxRecDepth 100000 in
set_option maxHeartbeats 4000000 in
theorem contains12 (q : Option Addr) (n c : Nat) (l : Nat → Int) (N : Int) (b : Nat) (r : Bool) (hr : r = true ↔ ∀ j, j < n → 0 ≤ l j ∧ l j < N) (hn : n ≤ 1000000) (w : World) (hl : rdL w q n l) (hb : w.cell? ⟨b, 0, none⟩ = some (.int .i64 N)) :
    Calls Try.prog 57 #[.slice q n c, .func (.func 58) #[] #[.pointer (some ⟨b, 0, none⟩)]] w fun e w' => e = .returned (.bool (!r)) ∧ w' = w := by
  have HI := Lib.hid (index12 q n c l N b hn w hl hb)
  have HR := Lib.hid hr
  clear hl hb hr
  go_enter Try.func57, Try.ntmps57
  go_wp2_with fail
  refine HI.out.mono ?_
  rintro e w' ⟨i, rfl, rfl, hi⟩
  have HE : Hid (decide (0 ≤ i) = !r) := Lib.hid (by
    by_cases h : 0 ≤ i
    · rw [decide_eq_true h]
      cases r with
      | false => rfl
      | true =>
        obtain ⟨j, h1, h2⟩ := hi.1 h
        exact absurd (HR.out.1 rfl j h1) h2
    · rw [decide_eq_false h]
      cases r with
      | true => rfl
      | false =>
        have := HR.out.2 (fun j hj => Classical.byContradiction fun hn => h (hi.2 ⟨j, hj, hn⟩))
        cases this)
  clear hi
  go_wp2_with fail
  go_returns
  exact ⟨by rw [← HE.out] <;> rfl, rfl⟩

set_option maxRecDepth 100000 in
set_option maxHeartbeats 4000000 in
theorem allb12 (q : Option Addr) (n c : Nat) (l : Nat → Int) (N : Int) (r : Bool) (hr : r = true ↔ ∀ j, j < n → 0 ≤ l j ∧ l j < N) (hn : n ≤ 1000000) (w : World) (hl : rdL w q n l) :
    Calls Try.prog 34 #[.slice q n c, .int .i64 N] w fun e w' => e = .returned (.bool r) ∧ Below w.heap.size w w' := by
  obtain ⟨w1, hw1⟩ : ∃ w1, w.alloc (.cells #[.int .i64 N] 3) = w1 := ⟨_, rfl⟩
  have hb1 : Below w.heap.size w w1 := hw1 ▸ (Below.refl _ _).alloc (Nat.le_refl _) _
  have hc1 : one9 3 w1 w.heap.size (.int .i64 N) := hw1 ▸ heap_alloc_new w _
  have HC := Lib.hid (contains12 q n c l N w.heap.size r hr hn w1 (hl.below hb1) hc1.cell)
  have HW1 := Lib.hid hw1
  have HB1 := Lib.hid hb1
  clear hw1 hb1 hc1 hl hr
  go_enter Try.func34, Try.ntmps34
  go_upto_region 1 with (fail)
  rw [HW1.out]
  go_wp2_with fail
  refine HC.out.mono ?_
  rintro e w' ⟨rfl, rfl⟩
  cases r
  all_goals
    go_wp2_with fail
    go_returns
    exact ⟨rfl, HB1.out⟩
end Go.Proofs.Ytefpoapbodbenaa
