/-
  The lesser one of two numbers, whatever numbers they are.
  The walk of the twelfth laws' awake, over whatever the code answers that does as the page says.
  The walks of slices.Equal at numbers and at bools.
  The walk of dfa.Same.
-/
import Derived.Test.YtefpoapbodbenaaPk4
import Derived.Test.YtefpoapbodbenaaPk13
import Derived.Test.YtefpoapbodbenaaPk19
import Derived.Test.YtefpoapbodbenaaPk12
import Derived.Test.YtefpoapbodbenaaPk10
import Derived.Test.YtefpoapbodbenaaPk15
import Derived.Test.YtefpoapbodbenaaPk9
import Derived.OwnWalk
import Derived.Laws.AppendOwnNone
import Derived.Deep.RegionHeldLaw
import Derived.Test.YtefpoapbodbenaaPk1
import Derived.BigQuiet
import Derived.Deep.QuietTactic
namespace Go.Proofs.Ytefpoapbodbenaa
open Go.RowKit

theorem min_run9 (p q : Int) (t : TypeId) (w : World) : (Builtin.min_ #[3, 3] t #[.int .i64 p, .int .i64 q]).run Try.prog w = .ok (.int .i64 (if q < p then q else p)) w := by
  unfold Builtin.min_
  simp [go_sem, Builtin.min2]
theorem wp_min9 {o : Oper} {a : Act} {w : World} {K : Act → World → Prop} {Q : Exit → Act → World → Prop} (x y : Operand) (ho : o.op = .call { callee := .builtin .min, args := #[x, y], argTypes := #[3, 3] })
    (p q L : Int) (hx : a.eval x = .int .i64 p) (hy : a.eval y = .int .i64 q) (hL : (if q < p then q else p) = L)
    (h : K (a.put o.dst (.int .i64 L)) w) : Oper.wp Try.prog o a w K Q := by
  have hr := min_run9 p q o.type w
  rw [hL] at hr
  unfold Oper.wp execOp
  simp only [ho]
  generalize a.eval = ev at *
  simp [go_sem, hx, hy, hr]
  exact h
end Go.Proofs.Ytefpoapbodbenaa

namespace Go.Proofs.Ytefpoapbodbenaa
open Go.RowKit

def SamD : Prop := ∀ (v v' : Value) (x y : Da) (w : World), x.n0 ≤ maxLen → x.n1 ≤ maxLen → x.n2 ≤ maxLen → y.n0 ≤ maxLen → y.n1 ≤ maxLen → y.n2 ≤ maxLen → daAt w v x → daAt w v' y →
  Calls Try.prog 16 #[v, v'] w fun e w' => e = .returned (.bool (saB x y)) ∧ Below w.heap.size w w'
end Go.Proofs.Ytefpoapbodbenaa

namespace Go.Proofs.Ytefpoapbodbenaa
open Go.RowKit

set_option maxRecDepth 100000 in
set_option maxHeartbeats 4000000 in
theorem equalI12 (q : Option Addr) (n c : Nat) (l : Nat → Int) (q' : Option Addr) (n' c' : Nat) (l' : Nat → Int) (r : Bool) (hr : r = true ↔ n = n' ∧ ∀ j, j < n → l j = l' j) (hn : n ≤ maxLen) (w : World) (hl : rdL w q n l) (hl' : rdL w q' n' l') :
    Calls Try.prog 32 #[.slice q n c, .slice q' n' c'] w fun e w' => e = .returned (.bool r) ∧ Below w.heap.size w w' := by
  have HL := Lib.hid hl; have HL' := Lib.hid hl'
  have hn9 : (n : Int) ≤ 9223372036854775807 := by unfold maxLen at hn; omega
  clear hn
  by_cases hnn : n = n'
  · subst hnn
    have hb : ((n : Int) != (n : Int)) = false := by simp
    have HR : Hid (r = true ↔ ∀ j, j < n → l j = l' j) := Lib.hid (hr.trans ⟨fun h => h.2, fun h => ⟨rfl, h⟩⟩)
    have n0 : (0 : Int) ≤ (n : Int) := by omega
    clear hr hl hl'
    go_enter Try.func32, Try.ntmps32
    go_wp2_with fail
    go_loopw [13] (fun iv wr => ∃ i : Nat, i ≤ n ∧ iv = .int .i64 i ∧ Hid (∀ j, j < i → l j = l' j) ∧ Hid (Below w.heap.size w wr)) (fun iv _ => n - (intOf iv).toNat)
    case atStart => exact ⟨0, Nat.zero_le _, rfl, Lib.hid (fun _ h => absurd h (Nat.not_lt_zero _)), Lib.hid (Below.refl _ _)⟩
    case round =>
      obtain ⟨i, hi, rfl, HQ, HB⟩ := hrel
      by_cases hlti : i < n
      · have i0 : (0 : Int) ≤ (i : Int) := by omega
        have i1 : (i : Int) < (n : Int) := by omega
        obtain ⟨lb, lo, rfl, hlb, hlc⟩ := (HL.out.below HB.out) i hlti
        obtain ⟨lb', lo', rfl, hlb', hlc'⟩ := (HL'.out.below HB.out) i hlti
        obtain ⟨u, hu⟩ : ∃ u, l i = u := ⟨_, rfl⟩
        obtain ⟨u', hu'⟩ : ∃ u', l' i = u' := ⟨_, rfl⟩
        have HU := Lib.hid hu; have HU' := Lib.hid hu'
        rw [hu] at hlc; rw [hu'] at hlc'
        clear hu hu'
        cases hx : (u != u')
        · have HQ2 : Hid (∀ j, j < i + 1 → l j = l' j) := Lib.hid fun j hj => by
            by_cases e : j = i
            · subst e; rw [HU.out, HU'.out]; simpa using hx
            · exact HQ.out j (by omega)
          go_wp2_with fail
          go_quiet (fail)
          have HBd := Lib.hid (below_drewN nq HB.out)
          go_wp2_with fail
          go_roundw
          case rel => exact ⟨i + 1, by omega, by go_num, HQ2, HBd⟩
          case measure => simp [intOf]; omega
        · have HE : Hid (r = false) := Lib.hid (by
            cases r with
            | false => rfl
            | true =>
              have := HR.out.1 rfl i hlti
              rw [HU.out, HU'.out] at this
              subst this
              simp at hx)
          go_wp2_with fail
          go_quiet (fail)
          have HBd := Lib.hid (below_drewN nq HB.out)
          go_wp2_with fail
          go_returns
          exact ⟨by rw [HE.out] <;> rfl, HBd.out⟩
      · obtain rfl : i = n := by omega
        have HE : Hid (r = true) := Lib.hid (HR.out.2 HQ.out)
        go_wp2_with fail
        go_returns
        exact ⟨by rw [HE.out] <;> rfl, HB.out⟩
  · have hb : ((n : Int) != (n' : Int)) = true := by simp; omega
    have HE : Hid (r = false) := Lib.hid (by
      cases r with
      | false => rfl
      | true => exact absurd (hr.1 rfl).1 hnn)
    clear hr hnn
    go_enter Try.func32, Try.ntmps32
    go_wp2_with fail
    go_returns
    exact ⟨by rw [HE.out] <;> rfl, Below.refl _ _⟩

set_option maxRecDepth 100000 in
set_option maxHeartbeats 4000000 in
theorem equalB12 (q : Option Addr) (n c : Nat) (l : Nat → Bool) (q' : Option Addr) (n' c' : Nat) (l' : Nat → Bool) (r : Bool) (hr : r = true ↔ n = n' ∧ ∀ j, j < n → l j = l' j) (hn : n ≤ maxLen) (w : World) (hl : rdBs w q n l) (hl' : rdBs w q' n' l') :
    Calls Try.prog 33 #[.slice q n c, .slice q' n' c'] w fun e w' => e = .returned (.bool r) ∧ Below w.heap.size w w' := by
  have HL := Lib.hid hl; have HL' := Lib.hid hl'
  have hn9 : (n : Int) ≤ 9223372036854775807 := by unfold maxLen at hn; omega
  clear hn
  by_cases hnn : n = n'
  · subst hnn
    have hb : ((n : Int) != (n : Int)) = false := by simp
    have HR : Hid (r = true ↔ ∀ j, j < n → l j = l' j) := Lib.hid (hr.trans ⟨fun h => h.2, fun h => ⟨rfl, h⟩⟩)
    have n0 : (0 : Int) ≤ (n : Int) := by omega
    clear hr hl hl'
    go_enter Try.func33, Try.ntmps33
    go_wp2_with fail
    go_loopw [13] (fun iv wr => ∃ i : Nat, i ≤ n ∧ iv = .int .i64 i ∧ Hid (∀ j, j < i → l j = l' j) ∧ Hid (Below w.heap.size w wr)) (fun iv _ => n - (intOf iv).toNat)
    case atStart => exact ⟨0, Nat.zero_le _, rfl, Lib.hid (fun _ h => absurd h (Nat.not_lt_zero _)), Lib.hid (Below.refl _ _)⟩
    case round =>
      obtain ⟨i, hi, rfl, HQ, HB⟩ := hrel
      by_cases hlti : i < n
      · have i0 : (0 : Int) ≤ (i : Int) := by omega
        have i1 : (i : Int) < (n : Int) := by omega
        obtain ⟨lb, lo, rfl, hlb, hlc⟩ := (HL.out.below HB.out) i hlti
        obtain ⟨lb', lo', rfl, hlb', hlc'⟩ := (HL'.out.below HB.out) i hlti
        obtain ⟨u, hu⟩ : ∃ u, l i = u := ⟨_, rfl⟩
        obtain ⟨u', hu'⟩ : ∃ u', l' i = u' := ⟨_, rfl⟩
        have HU := Lib.hid hu; have HU' := Lib.hid hu'
        rw [hu] at hlc; rw [hu'] at hlc'
        clear hu hu'
        cases hx : (u != u')
        · have HQ2 : Hid (∀ j, j < i + 1 → l j = l' j) := Lib.hid fun j hj => by
            by_cases e : j = i
            · subst e; rw [HU.out, HU'.out]; simpa using hx
            · exact HQ.out j (by omega)
          cases u <;> cases u' <;> first | (exfalso; revert hx; decide) | skip
          all_goals
            go_wp2_with fail
            go_quiet (fail)
            have HBd := Lib.hid (below_drewN nq HB.out)
            go_wp2_with fail
            go_roundw
            case rel => exact ⟨i + 1, by omega, by go_num, HQ2, HBd⟩
            case measure => simp [intOf]; omega
        · have HE : Hid (r = false) := Lib.hid (by
            cases r with
            | false => rfl
            | true =>
              have := HR.out.1 rfl i hlti
              rw [HU.out, HU'.out] at this
              subst this
              simp at hx)
          cases u <;> cases u' <;> first | (exfalso; revert hx; decide) | skip
          all_goals
            go_wp2_with fail
            go_quiet (fail)
            have HBd := Lib.hid (below_drewN nq HB.out)
            go_wp2_with fail
            go_returns
            exact ⟨by rw [HE.out] <;> rfl, HBd.out⟩
      · obtain rfl : i = n := by omega
        have HE : Hid (r = true) := Lib.hid (HR.out.2 HQ.out)
        go_wp2_with fail
        go_returns
        exact ⟨by rw [HE.out] <;> rfl, HB.out⟩
  · have hb : ((n : Int) != (n' : Int)) = true := by simp; omega
    have HE : Hid (r = false) := Lib.hid (by
      cases r with
      | false => rfl
      | true => exact absurd (hr.1 rfl).1 hnn)
    clear hr hnn
    go_enter Try.func33, Try.ntmps33
    go_wp2_with fail
    go_returns
    exact ⟨by rw [HE.out] <;> rfl, Below.refl _ _⟩
end Go.Proofs.Ytefpoapbodbenaa

namespace Go.Proofs.Ytefpoapbodbenaa
open Go.RowKit

noncomputable def sb0 (n : Nat) (l : Nat → Bool) (n' : Nat) (l' : Nat → Bool) : Bool := @decide (n = n' ∧ ∀ j, j < n → l j = l' j) (Classical.propDecidable _)
theorem sb0_iff {n : Nat} {l : Nat → Bool} {n' : Nat} {l' : Nat → Bool} : sb0 n l n' l' = true ↔ n = n' ∧ ∀ j, j < n → l j = l' j := by unfold sb0; simp

set_option maxRecDepth 100000 in
set_option maxHeartbeats 16000000 in
theorem sam_any : SamD := by
  intro v v' x y w hx hx1 hx2 hy0 hy1 hy2 hd hd'
  obtain ⟨q0, c0, q1, c1, q2, c2, rfl, h0, h1, h2⟩ := hd
  obtain ⟨p0, d0, p1, d1, p2, d2, rfl, k0, k1, k2⟩ := hd'
  obtain ⟨n0, l0, wd, st, n1, l1, n2, T⟩ := x
  obtain ⟨m0, g0, we, su, m1, g1, m2, U⟩ := y
  dsimp only at hx hx1 hx2 hy0 hy1 hy2 h0 h1 h2 k0 k1 k2 ⊢
  obtain ⟨D, hD⟩ : ∃ D, w.heap.size = D := ⟨_, rfl⟩
  obtain ⟨w1, hw1⟩ : ∃ w1, w.alloc (.cells #[.slice q0 n0 c0, .int .i64 wd, .int .i64 st, .slice q1 n1 c1, .slice q2 n2 c2] 25) = w1 := ⟨_, rfl⟩
  have hz1 : w1.heap.size = D + 1 := by rw [← hw1, World.size_alloc, hD]
  have hb1 : Below D w w1 := hw1 ▸ (Below.refl _ _).alloc (by omega) _
  have hk1 : isDf w1 D q0 n0 c0 wd st q1 n1 c1 q2 n2 c2 := hw1 ▸ hD ▸ heap_alloc_new w _
  obtain ⟨w2, hw2⟩ : ∃ w2, w1.alloc (.cells #[.slice p0 m0 d0, .int .i64 we, .int .i64 su, .slice p1 m1 d1, .slice p2 m2 d2] 25) = w2 := ⟨_, rfl⟩
  have hz2 : w2.heap.size = D + 2 := by rw [← hw2, World.size_alloc, hz1]
  have hb2 : Below (D + 1) w1 w2 := hw2 ▸ (Below.refl _ _).alloc (by omega) _
  have hk2 : isDf w2 (D + 1) p0 m0 d0 we su p1 m1 d1 p2 m2 d2 := hw2 ▸ hz1 ▸ heap_alloc_new w1 _
  have hb02 : Below D w w2 := hb1.trans (hb2.mono (by omega))
  obtain ⟨r, hr⟩ : ∃ r, saB ⟨n0, l0, wd, st, n1, l1, n2, T⟩ ⟨m0, g0, we, su, m1, g1, m2, U⟩ = r := ⟨_, rfl⟩
  have HNO : Hid (¬ saP ⟨n0, l0, wd, st, n1, l1, n2, T⟩ ⟨m0, g0, we, su, m1, g1, m2, U⟩ → r = false) := Lib.hid fun h => hr ▸ saB_no h
  have HYES : Hid (saP ⟨n0, l0, wd, st, n1, l1, n2, T⟩ ⟨m0, g0, we, su, m1, g1, m2, U⟩ → r = true) := Lib.hid fun h => hr ▸ saB_iff.2 h
  rw [hr]
  obtain ⟨r0, hr0⟩ : ∃ r0, sl0 n0 l0 m0 g0 = r0 := ⟨_, rfl⟩
  obtain ⟨r1, hr1⟩ : ∃ r1, sl0 n1 l1 m1 g1 = r1 := ⟨_, rfl⟩
  obtain ⟨r2, hr2⟩ : ∃ r2, sb0 n2 T m2 U = r2 := ⟨_, rfl⟩
  have hi0 : r0 = true ↔ n0 = m0 ∧ ∀ j, j < n0 → l0 j = g0 j := by rw [← hr0]; exact sl0_iff
  have hi1 : r1 = true ↔ n1 = m1 ∧ ∀ j, j < n1 → l1 j = g1 j := by rw [← hr1]; exact sl0_iff
  have hi2 : r2 = true ↔ n2 = m2 ∧ ∀ j, j < n2 → T j = U j := by rw [← hr2]; exact sb0_iff
  have HI0 := Lib.hid hi0; have HI1 := Lib.hid hi1; have HI2 := Lib.hid hi2
  have HA := Lib.hid (fun w' (h : Below (D + 2) w2 w') => ((hk1.below hb2 (by omega)).below h (by omega)).cells)
  have HB := Lib.hid (fun w' (h : Below (D + 2) w2 w') => (hk2.below h (by omega)).cells)
  have HS0 := Lib.hid (fun w' (h : Below (D + 2) w2 w') => by
    have hb := hD.symm ▸ hb02.trans (h.mono (show D ≤ D + 2 by omega))
    exact equalI12 q0 n0 c0 l0 p0 m0 d0 g0 r0 hi0 hx w' (h0.below hb) (k0.below hb))
  have HS1 := Lib.hid (fun w' (h : Below (D + 2) w2 w') => by
    have hb := hD.symm ▸ hb02.trans (h.mono (show D ≤ D + 2 by omega))
    exact equalI12 q1 n1 c1 l1 p1 m1 d1 g1 r1 hi1 hx1 w' (h1.below hb) (k1.below hb))
  have HS2 := Lib.hid (fun w' (h : Below (D + 2) w2 w') => by
    have hb := hD.symm ▸ hb02.trans (h.mono (show D ≤ D + 2 by omega))
    exact equalB12 q2 n2 c2 T p2 m2 d2 U r2 hi2 hx2 w' (h2.below hb) (k2.below hb))
  have HZ := Lib.hid hz2
  have HW1 := Lib.hid hw1; have HW2 := Lib.hid hw2
  have HF : Hid (∀ w', Below (D + 2) w2 w' → Below w.heap.size w w') := Lib.hid fun w' h => by rw [hD]; exact hb02.trans (h.mono (by omega))
  clear hw1 hw2 hz1 hb1 hk1 hb2 hk2 hb02 h0 h1 h2 k0 k1 k2 hr hr0 hr1 hr2 hi0 hi1 hi2 hx hx1 hx2 hy0 hy1 hy2
  cases tw : (wd == we)
  case false =>
    have ew : ¬ wd = we := by simpa using tw
    have HN : Hid (r = false) := Lib.hid (HNO.out fun h => by
      unfold saP at h
      dsimp only at h
      exact ew h.2.2.1)
    go_enter Try.func16, Try.ntmps16
    go_upto_region 1 with (fail)
    rw [HW1.out, HW2.out]
    clear hz2 hD
    obtain ⟨a0, a1, a2, a3, a4⟩ := HA.out _ (Below.refl _ _)
    obtain ⟨b0, b1, b2, b3, b4⟩ := HB.out _ (Below.refl _ _)
    go_wp2_with fail
    go_returns
    exact ⟨by rw [HN.out] <;> rfl, HF.out _ (Below.refl _ _)⟩
  have Ew : Hid (wd = we) := Lib.hid (by simpa using tw)
  cases ts : (st == su)
  case false =>
    have es : ¬ st = su := by simpa using ts
    have HN : Hid (r = false) := Lib.hid (HNO.out fun h => by
      unfold saP at h
      dsimp only at h
      exact es h.2.2.2.1)
    go_enter Try.func16, Try.ntmps16
    go_upto_region 1 with (fail)
    rw [HW1.out, HW2.out]
    clear hz2 hD
    obtain ⟨a0, a1, a2, a3, a4⟩ := HA.out _ (Below.refl _ _)
    obtain ⟨b0, b1, b2, b3, b4⟩ := HB.out _ (Below.refl _ _)
    go_wp2_with fail
    go_returns
    exact ⟨by rw [HN.out] <;> rfl, HF.out _ (Below.refl _ _)⟩
  have Es : Hid (st = su) := Lib.hid (by simpa using ts)
  cases r0
  case false =>
    have HN : Hid (r = false) := Lib.hid (HNO.out fun h => by
      unfold saP at h
      dsimp only at h
      have := HI0.out.2 h.1; cases this)
    go_enter Try.func16, Try.ntmps16
    go_upto_region 1 with (fail)
    rw [HW1.out, HW2.out]
    clear hz2 hD
    obtain ⟨a0, a1, a2, a3, a4⟩ := HA.out _ (Below.refl _ _)
    obtain ⟨b0, b1, b2, b3, b4⟩ := HB.out _ (Below.refl _ _)
    go_wp2_with fail
    refine (HS0.out _ (Below.refl _ _)).mono ?_
    rintro e w3 ⟨rfl, hb3⟩
    have HB3 : Hid (Below (D + 2) w2 w3) := Lib.hid (HZ.out ▸ hb3)
    clear hb3 HS0 a0 a1 a2 a3 a4 b0 b1 b2 b3 b4
    obtain ⟨a0, a1, a2, a3, a4⟩ := HA.out _ HB3.out
    obtain ⟨b0, b1, b2, b3, b4⟩ := HB.out _ HB3.out
    go_wp2_with fail
    go_returns
    exact ⟨by rw [HN.out] <;> rfl, HF.out _ (HB3.out)⟩
  cases r1
  case false =>
    have HN : Hid (r = false) := Lib.hid (HNO.out fun h => by
      unfold saP at h
      dsimp only at h
      have := HI1.out.2 h.2.1; cases this)
    go_enter Try.func16, Try.ntmps16
    go_upto_region 1 with (fail)
    rw [HW1.out, HW2.out]
    clear hz2 hD
    obtain ⟨a0, a1, a2, a3, a4⟩ := HA.out _ (Below.refl _ _)
    obtain ⟨b0, b1, b2, b3, b4⟩ := HB.out _ (Below.refl _ _)
    go_wp2_with fail
    refine (HS0.out _ (Below.refl _ _)).mono ?_
    rintro e w3 ⟨rfl, hb3⟩
    have HB3 : Hid (Below (D + 2) w2 w3) := Lib.hid (HZ.out ▸ hb3)
    clear hb3 HS0 a0 a1 a2 a3 a4 b0 b1 b2 b3 b4
    obtain ⟨a0, a1, a2, a3, a4⟩ := HA.out _ HB3.out
    obtain ⟨b0, b1, b2, b3, b4⟩ := HB.out _ HB3.out
    go_wp2_with fail
    refine (HS1.out _ (HB3.out)).mono ?_
    rintro e w4 ⟨rfl, hb4⟩
    have HB4 : Hid (Below (D + 2) w2 w4) := Lib.hid (HB3.out.trans (hb4.mono (by have := HB3.out.size; have := HZ.out; omega)))
    clear hb4 HS1 a0 a1 a2 a3 a4 b0 b1 b2 b3 b4
    obtain ⟨a0, a1, a2, a3, a4⟩ := HA.out _ HB4.out
    obtain ⟨b0, b1, b2, b3, b4⟩ := HB.out _ HB4.out
    go_wp2_with fail
    go_returns
    exact ⟨by rw [HN.out] <;> rfl, HF.out _ (HB4.out)⟩
  cases r2
  case false =>
    have HN : Hid (r = false) := Lib.hid (HNO.out fun h => by
      unfold saP at h
      dsimp only at h
      have := HI2.out.2 h.2.2.2.2; cases this)
    go_enter Try.func16, Try.ntmps16
    go_upto_region 1 with (fail)
    rw [HW1.out, HW2.out]
    clear hz2 hD
    obtain ⟨a0, a1, a2, a3, a4⟩ := HA.out _ (Below.refl _ _)
    obtain ⟨b0, b1, b2, b3, b4⟩ := HB.out _ (Below.refl _ _)
    go_wp2_with fail
    refine (HS0.out _ (Below.refl _ _)).mono ?_
    rintro e w3 ⟨rfl, hb3⟩
    have HB3 : Hid (Below (D + 2) w2 w3) := Lib.hid (HZ.out ▸ hb3)
    clear hb3 HS0 a0 a1 a2 a3 a4 b0 b1 b2 b3 b4
    obtain ⟨a0, a1, a2, a3, a4⟩ := HA.out _ HB3.out
    obtain ⟨b0, b1, b2, b3, b4⟩ := HB.out _ HB3.out
    go_wp2_with fail
    refine (HS1.out _ (HB3.out)).mono ?_
    rintro e w4 ⟨rfl, hb4⟩
    have HB4 : Hid (Below (D + 2) w2 w4) := Lib.hid (HB3.out.trans (hb4.mono (by have := HB3.out.size; have := HZ.out; omega)))
    clear hb4 HS1 a0 a1 a2 a3 a4 b0 b1 b2 b3 b4
    obtain ⟨a0, a1, a2, a3, a4⟩ := HA.out _ HB4.out
    obtain ⟨b0, b1, b2, b3, b4⟩ := HB.out _ HB4.out
    go_wp2_with fail
    refine (HS2.out _ (HB4.out)).mono ?_
    rintro e w5 ⟨rfl, hb5⟩
    have HB5 : Hid (Below (D + 2) w2 w5) := Lib.hid (HB4.out.trans (hb5.mono (by have := HB4.out.size; have := HZ.out; omega)))
    clear hb5 HS2 a0 a1 a2 a3 a4 b0 b1 b2 b3 b4
    obtain ⟨a0, a1, a2, a3, a4⟩ := HA.out _ HB5.out
    obtain ⟨b0, b1, b2, b3, b4⟩ := HB.out _ HB5.out
    go_wp2_with fail
    go_returns
    exact ⟨by rw [HN.out] <;> rfl, HF.out _ (HB5.out)⟩
  have HN : Hid (r = true) := Lib.hid (HYES.out ⟨HI0.out.1 rfl, HI1.out.1 rfl, Ew.out, Es.out, HI2.out.1 rfl⟩)
  go_enter Try.func16, Try.ntmps16
  go_upto_region 1 with (fail)
  rw [HW1.out, HW2.out]
  clear hz2 hD
  obtain ⟨a0, a1, a2, a3, a4⟩ := HA.out _ (Below.refl _ _)
  obtain ⟨b0, b1, b2, b3, b4⟩ := HB.out _ (Below.refl _ _)
  go_wp2_with fail
  refine (HS0.out _ (Below.refl _ _)).mono ?_
  rintro e w3 ⟨rfl, hb3⟩
  have HB3 : Hid (Below (D + 2) w2 w3) := Lib.hid (HZ.out ▸ hb3)
  clear hb3 HS0 a0 a1 a2 a3 a4 b0 b1 b2 b3 b4
  obtain ⟨a0, a1, a2, a3, a4⟩ := HA.out _ HB3.out
  obtain ⟨b0, b1, b2, b3, b4⟩ := HB.out _ HB3.out
  go_wp2_with fail
  refine (HS1.out _ (HB3.out)).mono ?_
  rintro e w4 ⟨rfl, hb4⟩
  have HB4 : Hid (Below (D + 2) w2 w4) := Lib.hid (HB3.out.trans (hb4.mono (by have := HB3.out.size; have := HZ.out; omega)))
  clear hb4 HS1 a0 a1 a2 a3 a4 b0 b1 b2 b3 b4
  obtain ⟨a0, a1, a2, a3, a4⟩ := HA.out _ HB4.out
  obtain ⟨b0, b1, b2, b3, b4⟩ := HB.out _ HB4.out
  go_wp2_with fail
  refine (HS2.out _ (HB4.out)).mono ?_
  rintro e w5 ⟨rfl, hb5⟩
  have HB5 : Hid (Below (D + 2) w2 w5) := Lib.hid (HB4.out.trans (hb5.mono (by have := HB4.out.size; have := HZ.out; omega)))
  clear hb5 HS2 a0 a1 a2 a3 a4 b0 b1 b2 b3 b4
  obtain ⟨a0, a1, a2, a3, a4⟩ := HA.out _ HB5.out
  obtain ⟨b0, b1, b2, b3, b4⟩ := HB.out _ HB5.out
  go_wp2_with fail
  go_returns
  exact ⟨by rw [HN.out] <;> rfl, HF.out _ (HB5.out)⟩
end Go.Proofs.Ytefpoapbodbenaa
