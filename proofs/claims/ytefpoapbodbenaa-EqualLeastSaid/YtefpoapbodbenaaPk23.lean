/-
  The lesser one of two numbers, whatever numbers they are.
-/
import Derived.Test.YtefpoapbodbenaaPk4
namespace Go.Proofs.Ytefpoapbodbenaa
open Go.RowKit

theorem min_run9 (p q : Int) (t : TypeId) (w : World) : (Builtin.min_ #[3, 3] t #[.int .i64 p, .int .i64 q]).run Try.prog w = .ok (.int .i64 (if q < p then q else p)) w := by
  unfold Builtin.min_
  simp [go_sem, Builtin.min2]
theorem wp_min9 {o : Oper} {a : Act} {w : World} {K : Act → World → Prop} {Q : Exit → Act → World → Prop} (x y : Operand) (ho : o.op = .call { callee := .builtin .min, args := #[x, y], argTypes := #[3, 3] })
    (p q L : Int) (hx : a.eval x = .int .i64 p) (hy : a.eval y = .int .i64 q) (hL : (if q < p then q else p) = L)
    (h : K (a.put o.dst (.int .i64 L)) w) : Oper.wp Try.prog o a w K Q := by
  have hr := min_run9 p q o.type w
  rw [hL] at hr
  unfold Oper.wp execOp
  simp only [ho]
  generalize a.eval = ev at *
  simp [go_sem, hx, hy, hr]
  exact h
end Go.Proofs.Ytefpoapbodbenaa
