/-
  Two tokens are the same just if all that they hold is.
  Lists of tokens; the walk of the third reference's Same at two that read alike.
-/
import Derived.Test.YtiahgcgpakgeeaaDoorPk17
import Derived.Test.YtiahgcgpakgeeaaDoorPk1
namespace Go.Proofs.YtiahgcgpakgeeaaDoor
open Go.RowKit

theorem eq_tok (k a x0 x1 x2 x3 l h k' a' y0 y1 y2 y3 l' h' : Int) (w : World) :
    (Op.equalIn 10000 45 (.agg #[.int .i64 k, .int .i64 a, .int .u64 x0, .int .u64 x1, .int .u64 x2, .int .u64 x3, .int .i64 l, .int .i64 h]) (.agg #[.int .i64 k', .int .i64 a', .int .u64 y0, .int .u64 y1, .int .u64 y2, .int .u64 y3, .int .i64 l', .int .i64 h'])).run Tryd.prog w =
      .ok (k == k' && (a == a' && ((x0 == y0 && x1 == y1 && x2 == y2 && x3 == y3) && (l == l' && h == h')))) w := by
  rw [show (10000 : Nat) = 9999 + 1 from rfl, run_equalIn_struct w 9999 45 _ _ (by kernel_rfl) (by kernel_rfl)]
  have hs : ∀ (a b c d e f g h : Int) (w : World), (part 35 #[.int .i64 a, .int .i64 b, .int .u64 c, .int .u64 d, .int .u64 e, .int .u64 f, .int .i64 g, .int .i64 h] 2).run Tryd.prog w = .ok (.agg #[.int .u64 c, .int .u64 d, .int .u64 e, .int .u64 f]) w := fun _ _ _ _ _ _ _ _ _ => by kernel_rfl
  have h0 : ∀ (a b c d e f g h : Int) (w : World), (part 3 #[.int .i64 a, .int .i64 b, .int .u64 c, .int .u64 d, .int .u64 e, .int .u64 f, .int .i64 g, .int .i64 h] 0).run Tryd.prog w = .ok (.int .i64 a) w := fun _ _ _ _ _ _ _ _ _ => by kernel_rfl
  have h1 : ∀ (a b c d e f g h : Int) (w : World), (part 3 #[.int .i64 a, .int .i64 b, .int .u64 c, .int .u64 d, .int .u64 e, .int .u64 f, .int .i64 g, .int .i64 h] 1).run Tryd.prog w = .ok (.int .i64 b) w := fun _ _ _ _ _ _ _ _ _ => by kernel_rfl
  have h6 : ∀ (a b c d e f g h : Int) (w : World), (part 3 #[.int .i64 a, .int .i64 b, .int .u64 c, .int .u64 d, .int .u64 e, .int .u64 f, .int .i64 g, .int .i64 h] 6).run Tryd.prog w = .ok (.int .i64 g) w := fun _ _ _ _ _ _ _ _ _ => by kernel_rfl
  have h7 : ∀ (a b c d e f g h : Int) (w : World), (part 3 #[.int .i64 a, .int .i64 b, .int .u64 c, .int .u64 d, .int .u64 e, .int .u64 f, .int .i64 g, .int .i64 h] 7).run Tryd.prog w = .ok (.int .i64 h) w := fun _ _ _ _ _ _ _ _ _ => by kernel_rfl
  have ei : ∀ (x y : Int) (w : World), (Op.equalIn 9999 3 (.int .i64 x) (.int .i64 y)).run Tryd.prog w = .ok (x == y) w := fun x y w => run_equalIn_int w 9998 3 .i64 .i64 x y Tryd.underlying3
  have es : ∀ (a b c d e f g h : Int) (w : World), (Op.equalIn 9999 35 (.agg #[.int .u64 a, .int .u64 b, .int .u64 c, .int .u64 d]) (.agg #[.int .u64 e, .int .u64 f, .int .u64 g, .int .u64 h])).run Tryd.prog w = .ok (a == e && b == f && c == g && d == h) w := fun a b c d e f g h w => eq_any' 9997 a b c d e f g h w
  simp only [Program.fieldsOf, Tryd.underlying45]
  cases ek : (k == k') <;> cases ea : (a == a') <;> cases eS : (x0 == y0 && x1 == y1 && x2 == y2 && x3 == y3) <;> cases el : (l == l') <;> cases eh : (h == h') <;> simp [Op.eqFields, hs, h0, h1, h6, h7, ei, es, ek, ea, eS, el, eh]
end Go.Proofs.YtiahgcgpakgeeaaDoor

namespace Go.Proofs.YtiahgcgpakgeeaaDoor
open Go.RowKit

/-- A token's cells at a place. -/
def tokAt (w : World) (b o : Nat) (r : Int × Int × (Nat → Bool) × Int × Int) : Prop := w.cell? ⟨b, o, none⟩ = some (.int .i64 r.1) ∧ w.cell? ⟨b, o + 1, none⟩ = some (.int .i64 r.2.1) ∧ w.cell? ⟨b, o + 2, none⟩ = some (.int .u64 (wd r.2.2.1 0 : Int)) ∧ w.cell? ⟨b, o + 3, none⟩ = some (.int .u64 (wd r.2.2.1 1 : Int)) ∧ w.cell? ⟨b, o + 4, none⟩ = some (.int .u64 (wd r.2.2.1 2 : Int)) ∧ w.cell? ⟨b, o + 5, none⟩ = some (.int .u64 (wd r.2.2.1 3 : Int)) ∧ w.cell? ⟨b, o + 6, none⟩ = some (.int .i64 r.2.2.2.1) ∧ w.cell? ⟨b, o + 7, none⟩ = some (.int .i64 r.2.2.2.2)
theorem tokAt.below {w w' : World} {b o B : Nat} {r : Int × Int × (Nat → Bool) × Int × Int} (h : tokAt w b o r) (hb : Below B w w') (hB : b < B) : tokAt w' b o r := by
  have c : ∀ x, w'.cell? ⟨b, x, none⟩ = w.cell? ⟨b, x, none⟩ := fun x => hb.cell (p := ⟨b, x, none⟩) hB
  unfold tokAt at h ⊢
  simp only [c]
  exact h
/-- A slice that reads as a list of tokens. -/
def rdT (w : World) (v : Value) (l : List (Int × Int × (Nat → Bool) × Int × Int)) : Prop :=
  (v = .slice none 0 0 ∧ l = []) ∨ ∃ b off cap, v = .slice (some ⟨b, off, none⟩) l.length cap ∧ b < w.heap.size ∧ ∀ j (h : j < l.length), tokAt w b (off + j * 8) l[j]
theorem rdT_below {w w' : World} {v : Value} {l : List (Int × Int × (Nat → Bool) × Int × Int)} {B : Nat} (h : rdT w v l) (hb : Below B w w') (hB : w.heap.size ≤ B) : rdT w' v l := by
  rcases h with h | ⟨b, off, cap, rfl, hl, hc⟩
  · exact .inl h
  · exact .inr ⟨b, off, cap, rfl, Nat.lt_of_lt_of_le hl hb.size, fun j hj => (hc j hj).below hb (by omega)⟩

end Go.Proofs.YtiahgcgpakgeeaaDoor
