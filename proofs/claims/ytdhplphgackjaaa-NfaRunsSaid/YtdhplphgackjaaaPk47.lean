/-
  The walk of the ninth reference's Same, at two automata that read alike.
  The lesser one of two numbers, whatever numbers they are.
-/
import Derived.Test.YtdhplphgackjaaaPk5
import Derived.Test.YtdhplphgackjaaaPk14
import Derived.BigQuiet
import Derived.Deep.QuietTactic
namespace Go.Proofs.Ytdhplphgackjaaa
open Go.RowKit

theorem eq_state (k A B a b c d : Int) (w : World) :
    (Op.equalIn 10000 58 (.agg #[.int .i64 k, .int .i64 A, .int .i64 B, .int .u64 a, .int .u64 b, .int .u64 c, .int .u64 d]) (.agg #[.int .i64 k, .int .i64 A, .int .i64 B, .int .u64 a, .int .u64 b, .int .u64 c, .int .u64 d])).run Try.prog w = .ok true w := by
  rw [show (10000 : Nat) = 9999 + 1 from rfl, run_equalIn_struct w 9999 58 _ _ (by kernel_rfl) (by kernel_rfl)]
  have h0 : ∀ (b c d e f g h : Int) (w : World), (part 3 #[.int .i64 b, .int .i64 c, .int .i64 d, .int .u64 e, .int .u64 f, .int .u64 g, .int .u64 h] 0).run Try.prog w = .ok (.int .i64 b) w := fun _ _ _ _ _ _ _ _ => by kernel_rfl
  have h1 : ∀ (b c d e f g h : Int) (w : World), (part 3 #[.int .i64 b, .int .i64 c, .int .i64 d, .int .u64 e, .int .u64 f, .int .u64 g, .int .u64 h] 1).run Try.prog w = .ok (.int .i64 c) w := fun _ _ _ _ _ _ _ _ => by kernel_rfl
  have h2 : ∀ (b c d e f g h : Int) (w : World), (part 3 #[.int .i64 b, .int .i64 c, .int .i64 d, .int .u64 e, .int .u64 f, .int .u64 g, .int .u64 h] 2).run Try.prog w = .ok (.int .i64 d) w := fun _ _ _ _ _ _ _ _ => by kernel_rfl
  have hs : ∀ (b c d e f g h : Int) (w : World), (part 54 #[.int .i64 b, .int .i64 c, .int .i64 d, .int .u64 e, .int .u64 f, .int .u64 g, .int .u64 h] 3).run Try.prog w = .ok (.agg #[.int .u64 e, .int .u64 f, .int .u64 g, .int .u64 h]) w := fun _ _ _ _ _ _ _ _ => by kernel_rfl
  have ei : ∀ (x y : Int) (w : World), (Op.equalIn 9999 3 (.int .i64 x) (.int .i64 y)).run Try.prog w = .ok (x == y) w := fun x y w => run_equalIn_int w 9998 3 .i64 .i64 x y Try.underlying3
  have es : ∀ (a b c d : Int) (w : World), (Op.equalIn 9999 54 (.agg #[.int .u64 a, .int .u64 b, .int .u64 c, .int .u64 d]) (.agg #[.int .u64 a, .int .u64 b, .int .u64 c, .int .u64 d])).run Try.prog w = .ok true w := fun a b c d w => by rw [eq_set_any 9997 a b c d a b c d w]; simp
  simp only [Program.fieldsOf, Try.underlying58]
  simp [Op.eqFields, hs, h0, h1, h2, ei, es]

set_option maxRecDepth 100000 in
set_option maxHeartbeats 8000000 in
theorem same9_is (S S' : Nat → Sd) (m : Nat) (hm : m ≤ 1000) (hSS : ∀ q, q < m → S q = S' q) (st fin : Int) (p p' : Option Addr) (cap cap' : Nat) (w : World)
    (h1 : m = 0 ∨ ∃ b off, p = some ⟨b, off, none⟩ ∧ rdS w b off m S) (h2 : m = 0 ∨ ∃ b off, p' = some ⟨b, off, none⟩ ∧ rdS w b off m S') :
    Calls Try.prog 12 #[.agg #[.slice p m cap, .int .i64 st, .int .i64 fin], .agg #[.slice p' m cap', .int .i64 st, .int .i64 fin]] w fun e w' => e = .returned (.bool true) ∧ Below w.heap.size w w' := by
  obtain ⟨w2, hw2⟩ : ∃ w2, (w.alloc (.cells #[.slice p m cap, .int .i64 st, .int .i64 fin] 26)).alloc (.cells #[.slice p' m cap', .int .i64 st, .int .i64 fin] 26) = w2 := ⟨_, rfl⟩
  have hal : Below w.heap.size w w2 := hw2 ▸ ((Below.refl _ _).alloc (Nat.le_refl _) _).alloc (by simp) _
  have HB1 := Lib.hid hal
  have H1 : Hid (m = 0 ∨ ∃ b off, p = some ⟨b, off, none⟩ ∧ rdS w2 b off m S) := Lib.hid (h1.imp id fun ⟨b, off, e, h⟩ => ⟨b, off, e, h.below hal⟩)
  have H2 : Hid (m = 0 ∨ ∃ b off, p' = some ⟨b, off, none⟩ ∧ rdS w2 b off m S') := Lib.hid (h2.imp id fun ⟨b, off, e, h⟩ => ⟨b, off, e, h.below hal⟩)
  have hq := eq_state
  have HSS := Lib.hid hSS
  have hn0 : (w2.cell? ⟨w.heap.size, 0, none⟩ = some (.slice p m cap) ∧ w2.cell? ⟨w.heap.size, 1, none⟩ = some (.int .i64 st) ∧ w2.cell? ⟨w.heap.size, 2, none⟩ = some (.int .i64 fin)) ∧
      w2.cell? ⟨w.heap.size + 1, 0, none⟩ = some (.slice p' m cap') ∧ w2.cell? ⟨w.heap.size + 1, 1, none⟩ = some (.int .i64 st) ∧ w2.cell? ⟨w.heap.size + 1, 2, none⟩ = some (.int .i64 fin) := by rw [← hw2]; simp
  obtain ⟨⟨n0, n1, n2⟩, n3, n4, n5⟩ := hn0
  have HW2 := Lib.hid hw2
  clear hal h1 h2 hSS hw2
  go_enter Try.func12, Try.ntmps12
  go_wp2_with fail
  rw [HW2.out]
  go_loopw [5] (fun iv wr => ∃ i q : Nat, i ≤ m ∧ iv = .int .i64 i ∧ wr = w2.drewN q) (fun iv _ => m - (intOf iv).toNat)
  case atStart => exact ⟨0, 0, Nat.zero_le _, rfl, rfl⟩
  case round =>
    obtain ⟨i, q, hi, rfl, rfl⟩ := hrel
    by_cases hlt : i < m
    · obtain ⟨b, off, rfl, hr1⟩ : ∃ b off, p = some ⟨b, off, none⟩ ∧ rdS w2 b off m S := by
        rcases H1.out with h | h
        · omega
        · exact h
      obtain ⟨b', off', rfl, hr2⟩ : ∃ b off, p' = some ⟨b, off, none⟩ ∧ rdS w2 b off m S' := by
        rcases H2.out with h | h
        · omega
        · exact h
      obtain ⟨-, p0, p1, p2, p3, p4, p5, p6⟩ := hr1 i hlt
      obtain ⟨-, r0, r1, r2, r3, r4, r5, r6⟩ := hr2 i hlt
      rw [← HSS.out i hlt] at r0 r1 r2 r3 r4 r5 r6
      generalize S i = x at *
      obtain ⟨xk, xa, xb, xc, xd, xA, xB⟩ := x
      simp only at p0 p1 p2 p3 p4 p5 p6 r0 r1 r2 r3 r4 r5 r6
      have i0 : (0 : Int) ≤ (i : Int) := by omega
      have i1 : (i : Int) < (m : Int) := by omega
      clear hr1 hr2
      go_wp2_with fail
      go_quiet (fail)
      go_wp2_with fail
      go_roundw
      case rel => exact ⟨i + 1, q + nq, by omega, by go_num, by first | rfl | simp⟩
      case measure => simp [intOf]; omega
    · obtain rfl : i = m := by omega
      have HF := Lib.hid (below_drewN q HB1.out)
      go_wp2_with fail
      go_returns
      exact ⟨rfl, HF.out⟩
end Go.Proofs.Ytdhplphgackjaaa

namespace Go.Proofs.Ytdhplphgackjaaa
open Go.RowKit

theorem min_run9 (p q : Int) (t : TypeId) (w : World) : (Builtin.min_ #[3, 3] t #[.int .i64 p, .int .i64 q]).run Try.prog w = .ok (.int .i64 (if q < p then q else p)) w := by
  unfold Builtin.min_
  simp [go_sem, Builtin.min2]
theorem wp_min9 {o : Oper} {a : Act} {w : World} {K : Act → World → Prop} {Q : Exit → Act → World → Prop} (x y : Operand) (ho : o.op = .call { callee := .builtin .min, args := #[x, y], argTypes := #[3, 3] })
    (p q L : Int) (hx : a.eval x = .int .i64 p) (hy : a.eval y = .int .i64 q) (hL : (if q < p then q else p) = L)
    (h : K (a.put o.dst (.int .i64 L)) w) : Oper.wp Try.prog o a w K Q := by
  have hr := min_run9 p q o.type w
  rw [hL] at hr
  unfold Oper.wp execOp
  simp only [ho]
  generalize a.eval = ev at *
  simp [go_sem, hx, hy, hr]
  exact h
end Go.Proofs.Ytdhplphgackjaaa
