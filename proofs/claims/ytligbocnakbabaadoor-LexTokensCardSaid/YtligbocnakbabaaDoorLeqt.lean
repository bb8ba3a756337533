/-
  Two tokens are the same just if all that they hold is.
-/
import Derived.Test.YtligbocnakbabaaDoorEqa
namespace Go.Proofs.YtligbocnakbabaaDoor
open Go.RowKit

theorem eq_tok (k a x0 x1 x2 x3 l h k' a' y0 y1 y2 y3 l' h' : Int) (w : World) :
    (Op.equalIn 10000 35 (.agg #[.int .i64 k, .int .i64 a, .int .u64 x0, .int .u64 x1, .int .u64 x2, .int .u64 x3, .int .i64 l, .int .i64 h]) (.agg #[.int .i64 k', .int .i64 a', .int .u64 y0, .int .u64 y1, .int .u64 y2, .int .u64 y3, .int .i64 l', .int .i64 h'])).run Tryd.prog w =
      .ok (k == k' && (a == a' && ((x0 == y0 && x1 == y1 && x2 == y2 && x3 == y3) && (l == l' && h == h')))) w := by
  rw [show (10000 : Nat) = 9999 + 1 from rfl, run_equalIn_struct w 9999 35 _ _ (by kernel_rfl) (by kernel_rfl)]
  have hs : ∀ (a b c d e f g h : Int) (w : World), (part 33 #[.int .i64 a, .int .i64 b, .int .u64 c, .int .u64 d, .int .u64 e, .int .u64 f, .int .i64 g, .int .i64 h] 2).run Tryd.prog w = .ok (.agg #[.int .u64 c, .int .u64 d, .int .u64 e, .int .u64 f]) w := fun _ _ _ _ _ _ _ _ _ => by kernel_rfl
  have h0 : ∀ (a b c d e f g h : Int) (w : World), (part 3 #[.int .i64 a, .int .i64 b, .int .u64 c, .int .u64 d, .int .u64 e, .int .u64 f, .int .i64 g, .int .i64 h] 0).run Tryd.prog w = .ok (.int .i64 a) w := fun _ _ _ _ _ _ _ _ _ => by kernel_rfl
  have h1 : ∀ (a b c d e f g h : Int) (w : World), (part 3 #[.int .i64 a, .int .i64 b, .int .u64 c, .int .u64 d, .int .u64 e, .int .u64 f, .int .i64 g, .int .i64 h] 1).run Tryd.prog w = .ok (.int .i64 b) w := fun _ _ _ _ _ _ _ _ _ => by kernel_rfl
  have h6 : ∀ (a b c d e f g h : Int) (w : World), (part 3 #[.int .i64 a, .int .i64 b, .int .u64 c, .int .u64 d, .int .u64 e, .int .u64 f, .int .i64 g, .int .i64 h] 6).run Tryd.prog w = .ok (.int .i64 g) w := fun _ _ _ _ _ _ _ _ _ => by kernel_rfl
  have h7 : ∀ (a b c d e f g h : Int) (w : World), (part 3 #[.int .i64 a, .int .i64 b, .int .u64 c, .int .u64 d, .int .u64 e, .int .u64 f, .int .i64 g, .int .i64 h] 7).run Tryd.prog w = .ok (.int .i64 h) w := fun _ _ _ _ _ _ _ _ _ => by kernel_rfl
  have ei : ∀ (x y : Int) (w : World), (Op.equalIn 9999 3 (.int .i64 x) (.int .i64 y)).run Tryd.prog w = .ok (x == y) w := fun x y w => run_equalIn_int w 9998 3 .i64 .i64 x y Tryd.underlying3
  have es : ∀ (a b c d e f g h : Int) (w : World), (Op.equalIn 9999 33 (.agg #[.int .u64 a, .int .u64 b, .int .u64 c, .int .u64 d]) (.agg #[.int .u64 e, .int .u64 f, .int .u64 g, .int .u64 h])).run Tryd.prog w = .ok (a == e && b == f && c == g && d == h) w := fun a b c d e f g h w => eq_any' 9997 a b c d e f g h w
  simp only [Program.fieldsOf, Tryd.underlying35]
  cases ek : (k == k') <;> cases ea : (a == a') <;> cases eS : (x0 == y0 && x1 == y1 && x2 == y2 && x3 == y3) <;> cases el : (l == l') <;> cases eh : (h == h') <;> simp [Op.eqFields, hs, h0, h1, h6, h7, ei, es, ek, ea, eS, el, eh]
end Go.Proofs.YtligbocnakbabaaDoor
