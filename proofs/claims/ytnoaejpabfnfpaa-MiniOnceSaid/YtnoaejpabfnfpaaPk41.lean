/-
  The walks of slices.Equal at numbers and at bools.
-/
import Derived.Test.YtnoaejpabfnfpaaPk29
import Derived.BigQuiet
import Derived.Deep.QuietTactic
namespace Go.Proofs.Ytnoaejpabfnfpaa
open Go.RowKit

set_option maxRecDepth 100000 in
set_option maxHeartbeats 4000000 in
theorem equalI12 (q : Option Addr) (n c : Nat) (l : Nat → Int) (q' : Option Addr) (n' c' : Nat) (l' : Nat → Int) (r : Bool) (hr : r = true ↔ n = n' ∧ ∀ j, j < n → l j = l' j) (hn : n ≤ maxLen) (w : World) (hl : rdL w q n l) (hl' : rdL w q' n' l') :
    Calls Try.prog 41 #[.slice q n c, .slice q' n' c'] w fun e w' => e = .returned (.bool r) ∧ Below w.heap.size w w' := by
  have HL := Lib.hid hl; have HL' := Lib.hid hl'
  have hn9 : (n : Int) ≤ 9223372036854775807 := by unfold maxLen at hn; omega
  clear hn
  by_cases hnn : n = n'
  · subst hnn
    have hb : ((n : Int) != (n : Int)) = false := by simp
    have HR : Hid (r = true ↔ ∀ j, j < n → l j = l' j) := Lib.hid (hr.trans ⟨fun h => h.2, fun h => ⟨rfl, h⟩⟩)
    have n0 : (0 : Int) ≤ (n : Int) := by omega
    clear hr hl hl'
    go_enter Try.func41, Try.ntmps41
    go_wp2_with fail
    go_loopw [13] (fun iv wr => ∃ i : Nat, i ≤ n ∧ iv = .int .i64 i ∧ Hid (∀ j, j < i → l j = l' j) ∧ Hid (Below w.heap.size w wr)) (fun iv _ => n - (intOf iv).toNat)
    case atStart => exact ⟨0, Nat.zero_le _, rfl, Lib.hid (fun _ h => absurd h (Nat.not_lt_zero _)), Lib.hid (Below.refl _ _)⟩
    case round =>
      obtain ⟨i, hi, rfl, HQ, HB⟩ := hrel
      by_cases hlti : i < n
      · have i0 : (0 : Int) ≤ (i : Int) := by omega
        have i1 : (i : Int) < (n : Int) := by omega
        obtain ⟨lb, lo, rfl, hlb, hlc⟩ := (HL.out.below HB.out) i hlti
        obtain ⟨lb', lo', rfl, hlb', hlc'⟩ := (HL'.out.below HB.out) i hlti
        obtain ⟨u, hu⟩ : ∃ u, l i = u := ⟨_, rfl⟩
        obtain ⟨u', hu'⟩ : ∃ u', l' i = u' := ⟨_, rfl⟩
        have HU := Lib.hid hu; have HU' := Lib.hid hu'
        rw [hu] at hlc; rw [hu'] at hlc'
        clear hu hu'
        cases hx : (u != u')
        · have HQ2 : Hid (∀ j, j < i + 1 → l j = l' j) := Lib.hid fun j hj => by
            by_cases e : j = i
            · subst e; rw [HU.out, HU'.out]; simpa using hx
            · exact HQ.out j (by omega)
          go_wp2_with fail
          go_quiet (fail)
          have HBd := Lib.hid (below_drewN nq HB.out)
          go_wp2_with fail
          go_roundw
          case rel => exact ⟨i + 1, by omega, by go_num, HQ2, HBd⟩
          case measure => simp [intOf]; omega
        · have HE : Hid (r = false) := Lib.hid (by
            cases r with
            | false => rfl
            | true =>
              have := HR.out.1 rfl i hlti
              rw [HU.out, HU'.out] at this
              subst this
              simp at hx)
          go_wp2_with fail
          go_quiet (fail)
          have HBd := Lib.hid (below_drewN nq HB.out)
          go_wp2_with fail
          go_returns
          exact ⟨by rw [HE.out] <;> rfl, HBd.out⟩
      · obtain rfl : i = n := by omega
        have HE : Hid (r = true) := Lib.hid (HR.out.2 HQ.out)
        go_wp2_with fail
        go_returns
        exact ⟨by rw [HE.out] <;> rfl, HB.out⟩
  · have hb : ((n : Int) != (n' : Int)) = true := by simp; omega
    have HE : Hid (r = false) := Lib.hid (by
      cases r with
      | false => rfl
      | true => exact absurd (hr.1 rfl).1 hnn)
    clear hr hnn
    go_enter Try.func41, Try.ntmps41
    go_wp2_with fail
    go_returns
    exact ⟨by rw [HE.out] <;> rfl, Below.refl _ _⟩

set_option maxRecDepth 100000 in
set_option maxHeartbeats 4000000 in
theorem equalB12 (q : Option Addr) (n c : Nat) (l : Nat → Bool) (q' : Option Addr) (n' c' : Nat) (l' : Nat → Bool) (r : Bool) (hr : r = true ↔ n = n' ∧ ∀ j, j < n → l j = l' j) (hn : n ≤ maxLen) (w : World) (hl : rdBs w q n l) (hl' : rdBs w q' n' l') :
    Calls Try.prog 42 #[.slice q n c, .slice q' n' c'] w fun e w' => e = .returned (.bool r) ∧ Below w.heap.size w w' := by
  have HL := Lib.hid hl; have HL' := Lib.hid hl'
  have hn9 : (n : Int) ≤ 9223372036854775807 := by unfold maxLen at hn; omega
  clear hn
  by_cases hnn : n = n'
  · subst hnn
    have hb : ((n : Int) != (n : Int)) = false := by simp
    have HR : Hid (r = true ↔ ∀ j, j < n → l j = l' j) := Lib.hid (hr.trans ⟨fun h => h.2, fun h => ⟨rfl, h⟩⟩)
    have n0 : (0 : Int) ≤ (n : Int) := by omega
    clear hr hl hl'
    go_enter Try.func42, Try.ntmps42
    go_wp2_with fail
    go_loopw [13] (fun iv wr => ∃ i : Nat, i ≤ n ∧ iv = .int .i64 i ∧ Hid (∀ j, j < i → l j = l' j) ∧ Hid (Below w.heap.size w wr)) (fun iv _ => n - (intOf iv).toNat)
    case atStart => exact ⟨0, Nat.zero_le _, rfl, Lib.hid (fun _ h => absurd h (Nat.not_lt_zero _)), Lib.hid (Below.refl _ _)⟩
    case round =>
      obtain ⟨i, hi, rfl, HQ, HB⟩ := hrel
      by_cases hlti : i < n
      · have i0 : (0 : Int) ≤ (i : Int) := by omega
        have i1 : (i : Int) < (n : Int) := by omega
        obtain ⟨lb, lo, rfl, hlb, hlc⟩ := (HL.out.below HB.out) i hlti
        obtain ⟨lb', lo', rfl, hlb', hlc'⟩ := (HL'.out.below HB.out) i hlti
        obtain ⟨u, hu⟩ : ∃ u, l i = u := ⟨_, rfl⟩
        obtain ⟨u', hu'⟩ : ∃ u', l' i = u' := ⟨_, rfl⟩
        have HU := Lib.hid hu; have HU' := Lib.hid hu'
        rw [hu] at hlc; rw [hu'] at hlc'
        clear hu hu'
        cases hx : (u != u')
        · have HQ2 : Hid (∀ j, j < i + 1 → l j = l' j) := Lib.hid fun j hj => by
            by_cases e : j = i
            · subst e; rw [HU.out, HU'.out]; simpa using hx
            · exact HQ.out j (by omega)
          cases u <;> cases u' <;> first | (exfalso; revert hx; decide) | skip
          all_goals
            go_wp2_with fail
            go_quiet (fail)
            have HBd := Lib.hid (below_drewN nq HB.out)
            go_wp2_with fail
            go_roundw
            case rel => exact ⟨i + 1, by omega, by go_num, HQ2, HBd⟩
            case measure => simp [intOf]; omega
        · have HE : Hid (r = false) := Lib.hid (by
            cases r with
            | false => rfl
            | true =>
              have := HR.out.1 rfl i hlti
              rw [HU.out, HU'.out] at this
              subst this
              simp at hx)
          cases u <;> cases u' <;> first | (exfalso; revert hx; decide) | skip
          all_goals
            go_wp2_with fail
            go_quiet (fail)
            have HBd := Lib.hid (below_drewN nq HB.out)
            go_wp2_with fail
            go_returns
            exact ⟨by rw [HE.out] <;> rfl, HBd.out⟩
      · obtain rfl : i = n := by omega
        have HE : Hid (r = true) := Lib.hid (HR.out.2 HQ.out)
        go_wp2_with fail
        go_returns
        exact ⟨by rw [HE.out] <;> rfl, HB.out⟩
  · have hb : ((n : Int) != (n' : Int)) = true := by simp; omega
    have HE : Hid (r = false) := Lib.hid (by
      cases r with
      | false => rfl
      | true => exact absurd (hr.1 rfl).1 hnn)
    clear hr hnn
    go_enter Try.func42, Try.ntmps42
    go_wp2_with fail
    go_returns
    exact ⟨by rw [HE.out] <;> rfl, Below.refl _ _⟩
end Go.Proofs.Ytnoaejpabfnfpaa
