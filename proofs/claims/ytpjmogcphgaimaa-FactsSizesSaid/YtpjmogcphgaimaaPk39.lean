/-
  Two nodes are the same just if all that they hold is; the walk of the reference's Same at two lists that read alike.
-/
import Derived.Test.YtpjmogcphgaimaaPk37
namespace Go.Proofs.Ytpjmogcphgaimaa
open Go.RowKit

theorem eq_set_any (d : Nat) (x0 x1 x2 x3 y0 y1 y2 y3 : Int) (w : World) :
    (Op.equalIn (d + 2) 29 (.agg #[.int .u64 x0, .int .u64 x1, .int .u64 x2, .int .u64 x3]) (.agg #[.int .u64 y0, .int .u64 y1, .int .u64 y2, .int .u64 y3])).run Try.prog w = .ok (x0 == y0 && x1 == y1 && x2 == y2 && x3 == y3) w := by
  have hs : ∀ w, (sizeOf 27).run Try.prog w = .ok 1 w := fun _ => by kernel_rfl
  have hp : ∀ (xs : Array Value) (i : Nat) (v : Value) (w : World), xs[i]? = some v → (part 27 xs i).run Try.prog w = .ok v w := by
    intro xs i v w hv
    simp [part, go_sem, hv, isAgg, run_underlying Try.underlying27]
  have e : ∀ (x y : Int) (w : World), (Op.equalIn (d + 1) 27 (.int .u64 x) (.int .u64 y)).run Try.prog w = .ok (x == y) w := fun x y w => by
    rw [run_equalIn_int w d 27 .u64 .u64 x y Try.underlying27]
  rw [show d + 2 = (d + 1) + 1 from rfl, Op.equalIn]
  simp only [Sem.run_bind, run_underlying Try.underlying29, Result.andThen_ok, hs, Std.Legacy.Range.forIn_eq_forIn_range', Std.Legacy.Range.size]
  by_cases h0 : x0 = y0 <;> by_cases h1 : x1 = y1 <;> by_cases h2 : x2 = y2 <;> by_cases h3 : x3 = y3 <;> simp [List.range', hp, e, h0, h1, h2, h3]

theorem eq_node (k x0 x1 x2 x3 l h k' y0 y1 y2 y3 l' h' : Int) (w : World) :
    (Op.equalIn 10000 44 (.agg #[.int .i64 k, .int .u64 x0, .int .u64 x1, .int .u64 x2, .int .u64 x3, .int .i64 l, .int .i64 h]) (.agg #[.int .i64 k', .int .u64 y0, .int .u64 y1, .int .u64 y2, .int .u64 y3, .int .i64 l', .int .i64 h'])).run Try.prog w =
      .ok (k == k' && ((x0 == y0 && x1 == y1 && x2 == y2 && x3 == y3) && (l == l' && h == h'))) w := by
  rw [show (10000 : Nat) = 9999 + 1 from rfl, run_equalIn_struct w 9999 44 _ _ (by kernel_rfl) (by kernel_rfl)]
  have hs : ∀ (b c d e f g h : Int) (w : World), (part 29 #[.int .i64 b, .int .u64 c, .int .u64 d, .int .u64 e, .int .u64 f, .int .i64 g, .int .i64 h] 1).run Try.prog w = .ok (.agg #[.int .u64 c, .int .u64 d, .int .u64 e, .int .u64 f]) w := fun _ _ _ _ _ _ _ _ => by kernel_rfl
  have h0 : ∀ (b c d e f g h : Int) (w : World), (part 3 #[.int .i64 b, .int .u64 c, .int .u64 d, .int .u64 e, .int .u64 f, .int .i64 g, .int .i64 h] 0).run Try.prog w = .ok (.int .i64 b) w := fun _ _ _ _ _ _ _ _ => by kernel_rfl
  have h5 : ∀ (b c d e f g h : Int) (w : World), (part 3 #[.int .i64 b, .int .u64 c, .int .u64 d, .int .u64 e, .int .u64 f, .int .i64 g, .int .i64 h] 5).run Try.prog w = .ok (.int .i64 g) w := fun _ _ _ _ _ _ _ _ => by kernel_rfl
  have h6 : ∀ (b c d e f g h : Int) (w : World), (part 3 #[.int .i64 b, .int .u64 c, .int .u64 d, .int .u64 e, .int .u64 f, .int .i64 g, .int .i64 h] 6).run Try.prog w = .ok (.int .i64 h) w := fun _ _ _ _ _ _ _ _ => by kernel_rfl
  have ei : ∀ (x y : Int) (w : World), (Op.equalIn 9999 3 (.int .i64 x) (.int .i64 y)).run Try.prog w = .ok (x == y) w := fun x y w => run_equalIn_int w 9998 3 .i64 .i64 x y Try.underlying3
  have es : ∀ (a b c d e f g h : Int) (w : World), (Op.equalIn 9999 29 (.agg #[.int .u64 a, .int .u64 b, .int .u64 c, .int .u64 d]) (.agg #[.int .u64 e, .int .u64 f, .int .u64 g, .int .u64 h])).run Try.prog w = .ok (a == e && b == f && c == g && d == h) w := fun a b c d e f g h w => eq_set_any 9997 a b c d e f g h w
  simp only [Program.fieldsOf, Try.underlying44]
  cases ek : (k == k') <;> cases eS : (x0 == y0 && x1 == y1 && x2 == y2 && x3 == y3) <;> cases el : (l == l') <;> cases eh : (h == h') <;> simp [Op.eqFields, hs, h0, h5, h6, ei, es, ek, eS, el, eh]

end Go.Proofs.Ytpjmogcphgaimaa
