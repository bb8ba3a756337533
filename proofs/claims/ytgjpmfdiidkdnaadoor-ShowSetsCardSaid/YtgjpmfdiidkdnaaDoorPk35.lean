/-
  The stack of parts against the trees that they are; a part's text. Plain facts.
  What all texts of the tree lean on: imports, small words on worlds, slices that read as nodes or as numbers.
  Two nodes are the same just if all that they hold is; the walk of the reference's Same at two lists that read alike.
-/
import Derived.Test.YtgjpmfdiidkdnaaDoorPk33
import Derived.Test.YtgjpmfdiidkdnaaDoorPk28
import Derived.Test.YtgjpmfdiidkdnaaDoorPk1
import Derived.Test.YtgjpmfdiidkdnaaDoorProg
import Derived.WalkKit
import Derived.WalkSpells
import Derived.WalkLawsBesides
import Derived.Handy
import Derived.KernelRfl
import Derived.Deep.RegionHeld3
import Derived.Deep.RegionHeldLaw
import Derived.Deep.QuietTactic
import Derived.BigQuiet
import Derived.Lib.Hide
import Derived.OneCell
import Derived.Laws.StructEq
import Derived.Laws.OwnMore
import Derived.Laws.IdiomArrays
namespace Go.Proofs.YtgjpmfdiidkdnaaDoor

/-- The text at a node. -/
def txB (N : Nat → Nd) (j : Nat) : ByteArray := bs (txt (trT N j))
theorem txB_size (N : Nat → Nd) (j : Nat) : (txB N j).size = (txt (trT N j)).length := bs_size _
theorem roots_dep {N : Nat → Nd} {n : Nat} (ht : tree N n) : ∀ k, k ≤ n → ((roots N k).length : Int) = dep N k := by
  intro k
  induction k with
  | zero => intro _; rfl
  | succ k ih =>
    intro hk
    have h1 := ih (by omega)
    obtain ⟨g1, g2, -⟩ := ht.2.1 k (by omega)
    rw [roots_succ, List.length_append, List.length_take, List.length_singleton, show dep N (k + 1) = dep N k + 1 - ar (N k).k from rfl]
    omega
theorem kind_is {N : Nat → Nd} {n i : Nat} (ht : tree N n) (hi : i < n) : isOr (trT N i) = ((N i).k == 6) ∧ isCat (trT N i) = ((N i).k == 5) := by
  obtain ⟨f, hf, hc⟩ := nd_is ht hi
  cases hc with
  | leaf _ hk _ =>
    rw [trT_leaf hk]
    exact ⟨(beq_eq_false_iff_ne.2 (by omega)).symm, (beq_eq_false_iff_ne.2 (by omega)).symm⟩
  | one _ hk _ _ _ =>
    rw [trT_one hk]
    exact ⟨(beq_eq_false_iff_ne.2 (by omega)).symm, (beq_eq_false_iff_ne.2 (by omega)).symm⟩
  | two hi hk h1 h2 _ _ _ =>
    rcases hk with hk | hk
    · rw [trT_cat ht hi hk h1 h2]
      exact ⟨(beq_eq_false_iff_ne.2 (by omega)).symm, (beq_iff_eq.2 hk).symm⟩
    · rw [trT_or ht hi hk h1 h2]
      exact ⟨(beq_iff_eq.2 hk).symm, (beq_eq_false_iff_ne.2 (by omega)).symm⟩
theorem txB_rep {N : Nat → Nd} {n p : Nat} (ht : tree N n) (hi : p + 1 < n) (hk : (N (p + 1)).k = 7) :
    txB N (p + 1) = parB ((N p).k == 6 || (N p).k == 5) (txB N p) ++ bs (oftL (N (p + 1)).lo (N (p + 1)).hi) := by
  have h := kind_is ht (show p < n by omega)
  unfold txB
  rw [trT_one hk, parB_bs, ← bs_append, ← h.1, ← h.2]
  rfl
theorem txB_cat {N : Nat → Nd} {n p q : Nat} (ht : tree N n) (hi : p + 1 < n) (hk : (N (p + 1)).k = 5) (h1 : fst N p = (q + 1 : Nat)) (h2 : q + 1 ≤ p) :
    txB N (p + 1) = parB ((N q).k == 6) (txB N q) ++ parB ((N p).k == 6 || (N p).k == 5) (txB N p) := by
  have h := kind_is ht (show p < n by omega)
  have h' := kind_is ht (show q < n by omega)
  unfold txB
  rw [trT_cat ht hi hk h1 h2, parB_bs, parB_bs, ← bs_append, ← h.1, ← h.2, ← h'.1]
  rfl
theorem txB_or {N : Nat → Nd} {n p q : Nat} (ht : tree N n) (hi : p + 1 < n) (hk : (N (p + 1)).k = 6) (h1 : fst N p = (q + 1 : Nat)) (h2 : q + 1 ≤ p) :
    txB N (p + 1) = txB N q ++ ⟨#[124]⟩ ++ parB ((N p).k == 6) (txB N p) := by
  have h := kind_is ht (show p < n by omega)
  unfold txB
  rw [trT_or ht hi hk h1 h2, parB_bs, show (⟨#[124]⟩ : ByteArray) = bs [124] from rfl, ← bs_append, ← bs_append, ← h.1]
  show bs (txt (trT N q) ++ 124 :: par (isOr (trT N p)) (txt (trT N p))) = _
  rw [List.append_assoc]
  rfl
theorem txB_leaf {N : Nat → Nd} {i : Nat} (hk : (N i).k = 1 ∨ (N i).k = 2 ∨ (N i).k = 3 ∨ (N i).k = 4) : txB N i = bs (txt (.leaf (N i))) := by unfold txB; rw [trT_leaf hk]
/-- What the answer is, where nothing is wrong, and where a text is too long. -/
theorem showF_ok {N : Nat → Nd} {n : Nat} (ht : tree N n) (h : (txB N (n - 1)).size ≤ 200) : showF N n = (txB N (n - 1), 0) := by
  rw [txB_size] at h
  unfold showF
  rw [if_pos ht, if_pos h]
  rfl
theorem showF_long {N : Nat → Nd} {n j : Nat} (ht : tree N n) (hj : j < n) (h : 200 < (txB N j).size) : showF N n = (ByteArray.empty, 4) := by
  rw [txB_size] at h
  have := txt_root ht hj
  unfold showF
  rw [if_pos ht, if_neg (by omega)]
theorem showF_not {N : Nat → Nd} {n : Nat} (ht : ¬ tree N n) : showF N n = (ByteArray.empty, 3) := by unfold showF; rw [if_neg ht]
end Go.Proofs.YtgjpmfdiidkdnaaDoor

namespace Go.Proofs.YtgjpmfdiidkdnaaDoor
open Go.RowKit

/-- A node's cells at a place. -/
def ndAt (w : World) (b o : Nat) (x : Nd) : Prop := w.cell? ⟨b, o, none⟩ = some (.int .i64 x.k) ∧ w.cell? ⟨b, o + 1, none⟩ = some (.int .u64 x.a) ∧ w.cell? ⟨b, o + 2, none⟩ = some (.int .u64 x.b) ∧ w.cell? ⟨b, o + 3, none⟩ = some (.int .u64 x.c) ∧ w.cell? ⟨b, o + 4, none⟩ = some (.int .u64 x.d) ∧ w.cell? ⟨b, o + 5, none⟩ = some (.int .i64 x.lo) ∧ w.cell? ⟨b, o + 6, none⟩ = some (.int .i64 x.hi)
theorem ndAt.below {w w' : World} {b o B : Nat} {x : Nd} (h : ndAt w b o x) (hb : Below B w w') (hB : b < B) : ndAt w' b o x := by
  have c : ∀ x, w'.cell? ⟨b, x, none⟩ = w.cell? ⟨b, x, none⟩ := fun x => hb.cell (p := ⟨b, x, none⟩) hB
  unfold ndAt at h ⊢
  simp only [c]
  exact h
/-- The nodes that lie in a block from a place on. -/
def rdN (w : World) (b off n : Nat) (N : Nat → Nd) : Prop := ∀ j, j < n → b < w.heap.size ∧ ndAt w b (off + j * 7) (N j)
theorem rdN.below {w w' : World} {b off n : Nat} {N : Nat → Nd} (h : rdN w b off n N) (hb : Below w.heap.size w w') : rdN w' b off n N := fun j hj =>
  ⟨Nat.lt_of_lt_of_le (h j hj).1 hb.size, (h j hj).2.below hb (h j hj).1⟩
theorem rdN.belowB {w w' : World} {b off n : Nat} {N : Nat → Nd} {B : Nat} (h : rdN w b off n N) (hb : Below B w w') (hB : b < B) : rdN w' b off n N := fun j hj =>
  ⟨Nat.lt_of_lt_of_le (h j hj).1 hb.size, (h j hj).2.below hb hB⟩
theorem rdN.drewN {w : World} {b off n : Nat} {N : Nat → Nd} (h : rdN w b off n N) (k : Nat) : rdN (w.drewN k) b off n N := h
theorem rdN.sub {w : World} {b off n : Nat} {N : Nat → Nd} (h : rdN w b off n N) (f m : Nat) (hm : f + m ≤ n) : rdN w b (off + f * 7) m (fun j => N (f + j)) := fun j hj => by
  have := h (f + j) (by omega)
  rwa [show off + (f + j) * 7 = off + f * 7 + j * 7 by omega] at this
theorem rdN.take {w : World} {b off n : Nat} {N : Nat → Nd} (h : rdN w b off n N) (m : Nat) (hm : m ≤ n) : rdN w b off m N := fun j hj => h j (by omega)

/-- A slice that reads as a list of numbers. -/
def rdI (w : World) (v : Value) (l : List Int) : Prop :=
  (∃ p cap, v = .slice p 0 cap ∧ l = []) ∨ ∃ b cap, v = .slice (some ⟨b, 0, none⟩) l.length cap ∧ b < w.heap.size ∧ ∀ j (h : j < l.length), w.cell? ⟨b, j, none⟩ = some (.int .i64 l[j])
theorem rdI.below {w w' : World} {v : Value} {l : List Int} (h : rdI w v l) (hb : Below w.heap.size w w') : rdI w' v l := by
  rcases h with h | ⟨b, cap, rfl, hl, hc⟩
  · exact .inl h
  · exact .inr ⟨b, cap, rfl, Nat.lt_of_lt_of_le hl hb.size, fun j hj => by rw [hb.cell (p := ⟨b, j, none⟩) hl]; exact hc j hj⟩
theorem rdI.belowB {w w' : World} {v : Value} {l : List Int} {B : Nat} (h : rdI w v l) (hb : Below B w w') (hB : w.heap.size ≤ B) : rdI w' v l := by
  rcases h with h | ⟨b, cap, rfl, hl, hc⟩
  · exact .inl h
  · exact .inr ⟨b, cap, rfl, Nat.lt_of_lt_of_le hl hb.size, fun j hj => by rw [hb.cell (p := ⟨b, j, none⟩) (show b < B by omega)]; exact hc j hj⟩
def ivs (l : List Int) : List Value := l.map (Value.int .i64)
theorem rdI_of_owns {w : World} {base : Nat} {e : TypeId} {v : Value} {l : List Int} (h : w.ownsRow base e 1 v l.length (ivs l)) : rdI w v l := by
  have hlt := h.lt
  rcases h.2 with ⟨rfl, h0⟩ | ⟨g, cap, cur, rfl, _, _, _, _, _, _⟩
  · exact .inl ⟨none, 0, rfl, List.length_eq_zero_iff.1 h0⟩
  · refine .inr ⟨g, cap, rfl, (hlt g rfl).2, fun j hj => ?_⟩
    rw [h.cellAt j (by omega)]
    simp [ivs, hj]
end Go.Proofs.YtgjpmfdiidkdnaaDoor

namespace Go.Proofs.YtgjpmfdiidkdnaaDoor
open Go.RowKit

theorem eq_set_any (d : Nat) (x0 x1 x2 x3 y0 y1 y2 y3 : Int) (w : World) :
    (Op.equalIn (d + 2) 32 (.agg #[.int .u64 x0, .int .u64 x1, .int .u64 x2, .int .u64 x3]) (.agg #[.int .u64 y0, .int .u64 y1, .int .u64 y2, .int .u64 y3])).run Tryd.prog w = .ok (x0 == y0 && x1 == y1 && x2 == y2 && x3 == y3) w := by
  have hs : ∀ w, (sizeOf 30).run Tryd.prog w = .ok 1 w := fun _ => by kernel_rfl
  have hp : ∀ (xs : Array Value) (i : Nat) (v : Value) (w : World), xs[i]? = some v → (part 30 xs i).run Tryd.prog w = .ok v w := by
    intro xs i v w hv
    simp [part, go_sem, hv, isAgg, run_underlying Tryd.underlying30]
  have e : ∀ (x y : Int) (w : World), (Op.equalIn (d + 1) 30 (.int .u64 x) (.int .u64 y)).run Tryd.prog w = .ok (x == y) w := fun x y w => by
    rw [run_equalIn_int w d 30 .u64 .u64 x y Tryd.underlying30]
  rw [show d + 2 = (d + 1) + 1 from rfl, Op.equalIn]
  simp only [Sem.run_bind, run_underlying Tryd.underlying32, Result.andThen_ok, hs, Std.Legacy.Range.forIn_eq_forIn_range', Std.Legacy.Range.size]
  by_cases h0 : x0 = y0 <;> by_cases h1 : x1 = y1 <;> by_cases h2 : x2 = y2 <;> by_cases h3 : x3 = y3 <;> simp [List.range', hp, e, h0, h1, h2, h3]

theorem eq_node (k x0 x1 x2 x3 l h k' y0 y1 y2 y3 l' h' : Int) (w : World) :
    (Op.equalIn 10000 45 (.agg #[.int .i64 k, .int .u64 x0, .int .u64 x1, .int .u64 x2, .int .u64 x3, .int .i64 l, .int .i64 h]) (.agg #[.int .i64 k', .int .u64 y0, .int .u64 y1, .int .u64 y2, .int .u64 y3, .int .i64 l', .int .i64 h'])).run Tryd.prog w =
      .ok (k == k' && ((x0 == y0 && x1 == y1 && x2 == y2 && x3 == y3) && (l == l' && h == h'))) w := by
  rw [show (10000 : Nat) = 9999 + 1 from rfl, run_equalIn_struct w 9999 45 _ _ (by kernel_rfl) (by kernel_rfl)]
  have hs : ∀ (b c d e f g h : Int) (w : World), (part 32 #[.int .i64 b, .int .u64 c, .int .u64 d, .int .u64 e, .int .u64 f, .int .i64 g, .int .i64 h] 1).run Tryd.prog w = .ok (.agg #[.int .u64 c, .int .u64 d, .int .u64 e, .int .u64 f]) w := fun _ _ _ _ _ _ _ _ => by kernel_rfl
  have h0 : ∀ (b c d e f g h : Int) (w : World), (part 3 #[.int .i64 b, .int .u64 c, .int .u64 d, .int .u64 e, .int .u64 f, .int .i64 g, .int .i64 h] 0).run Tryd.prog w = .ok (.int .i64 b) w := fun _ _ _ _ _ _ _ _ => by kernel_rfl
  have h5 : ∀ (b c d e f g h : Int) (w : World), (part 3 #[.int .i64 b, .int .u64 c, .int .u64 d, .int .u64 e, .int .u64 f, .int .i64 g, .int .i64 h] 5).run Tryd.prog w = .ok (.int .i64 g) w := fun _ _ _ _ _ _ _ _ => by kernel_rfl
  have h6 : ∀ (b c d e f g h : Int) (w : World), (part 3 #[.int .i64 b, .int .u64 c, .int .u64 d, .int .u64 e, .int .u64 f, .int .i64 g, .int .i64 h] 6).run Tryd.prog w = .ok (.int .i64 h) w := fun _ _ _ _ _ _ _ _ => by kernel_rfl
  have ei : ∀ (x y : Int) (w : World), (Op.equalIn 9999 3 (.int .i64 x) (.int .i64 y)).run Tryd.prog w = .ok (x == y) w := fun x y w => run_equalIn_int w 9998 3 .i64 .i64 x y Tryd.underlying3
  have es : ∀ (a b c d e f g h : Int) (w : World), (Op.equalIn 9999 32 (.agg #[.int .u64 a, .int .u64 b, .int .u64 c, .int .u64 d]) (.agg #[.int .u64 e, .int .u64 f, .int .u64 g, .int .u64 h])).run Tryd.prog w = .ok (a == e && b == f && c == g && d == h) w := fun a b c d e f g h w => eq_set_any 9997 a b c d e f g h w
  simp only [Program.fieldsOf, Tryd.underlying45]
  cases ek : (k == k') <;> cases eS : (x0 == y0 && x1 == y1 && x2 == y2 && x3 == y3) <;> cases el : (l == l') <;> cases eh : (h == h') <;> simp [Op.eqFields, hs, h0, h5, h6, ei, es, ek, eS, el, eh]

end Go.Proofs.YtgjpmfdiidkdnaaDoor
