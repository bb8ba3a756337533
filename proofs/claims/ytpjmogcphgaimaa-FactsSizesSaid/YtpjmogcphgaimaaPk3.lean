/-
  What all texts lean on: imports, and small words on worlds.
  Nodes and tokens in memory: rows that a call owns, and what is read.
  An append of a row of nodes to another one.
  The walk of the fifth reference's part, given either.
  The walk of the fifth reference's Wrong.
  The walk of the fifth reference's Of.
  What is wrong in the tokens that a tree is told as: nothing, or too many groups within one another. Plain facts.
-/
import Derived.Test.YtpjmogcphgaimaaProg
import Derived.Test.YtpjmogcphgaimaaPk2
import Derived.WalkKit
import Derived.WalkSpells
import Derived.WalkLawsBesides
import Derived.Handy
import Derived.KernelRfl
import Derived.Deep.RegionHeld3
import Derived.Deep.RegionHeldLaw
import Derived.Deep.QuietTactic
import Derived.BigQuiet
import Derived.Lib.Hide
import Derived.OneCell
import Derived.Laws.StructEq
import Derived.Laws.OwnMore
import Derived.Test.YtpjmogcphgaimaaPk1
import Derived.OwnWalk
import Derived.StillTailTactics
import Derived.Deep.Cut
import Derived.Deep.CutRange
namespace Go.Proofs.Ytpjmogcphgaimaa
open Go.RowKit

attribute [go_sem] sv
theorem w2of {B : Nat} {W w1 : World} (hb : Below B W w1) : (∀ b o, b < B → w1.cell? ⟨b, o, none⟩ = W.cell? ⟨b, o, none⟩) ∧ (∀ b o, b < B → w1.frozen? ⟨b, o, none⟩ = W.frozen? ⟨b, o, none⟩) :=
  ⟨fun b o h => hb.cell (p := ⟨b, o, none⟩) h, fun b o h => hb.frozen (p := ⟨b, o, none⟩) h⟩


theorem grownBy_of_below {w w' : World} (h : Below w.heap.size w w') : w.grownBy w' none := ⟨h.os, h.tape, h.output, h.size, fun k hk _ => h.block k hk⟩
theorem owns_below {w w' : World} {base : Nat} {e : TypeId} {size : Nat} {v : Value} {n : Nat} {xs : List Value} (h : w.ownsRow base e size v n xs) (hb : Below w.heap.size w w') : w'.ownsRow base e size v n xs :=
  h.kept (grownBy_of_below hb) (by cases v.ownBlock <;> simp)
theorem owns_mono {w : World} {base base' : Nat} {e : TypeId} {size : Nat} {v : Value} {n : Nat} {xs : List Value} (h : w.ownsRow base e size v n xs) (hb : base' ≤ base) : w.ownsRow base' e size v n xs := by
  obtain ⟨h0, h1⟩ := h
  refine ⟨h0, ?_⟩
  rcases h1 with h1 | ⟨g, cap, cur, h1, h2, h3⟩
  · exact .inl h1
  · exact .inr ⟨g, cap, cur, h1, Nat.le_trans hb h2, h3⟩
theorem below_drewN {B : Nat} {w w' : World} (n : Nat) (h : Below B w w') : Below B w (w'.drewN n) := ⟨h.os, h.tape, h.output, h.size, h.block⟩
theorem toList_data (s : ByteArray) : s.toList = s.data.toList := ByteArray.toList_eq s
/-- A set as a value, written out. -/
@[reducible] def svr (f : Nat → Bool) : Value := .agg #[.int .u64 (wd f 0 : Int), .int .u64 (wd f 1 : Int), .int .u64 (wd f 2 : Int), .int .u64 (wd f 3 : Int)]
end Go.Proofs.Ytpjmogcphgaimaa

namespace Go.Proofs.Ytpjmogcphgaimaa
open Go.RowKit

theorem below_two {w w1 w2 : World} (h1 : Below w.heap.size w w1) (h2 : Below w1.heap.size w1 w2) : Below w.heap.size w w2 := h1.trans (h2.mono h1.size)
theorem infoNode : (Try.prog.info? 44).map (fun i => (i.zero, i.size, i.bytes)) = some (some (.agg #[.int .i64 0, .int .u64 0, .int .u64 0, .int .u64 0, .int .u64 0, .int .i64 0, .int .i64 0]), 7, 56) := by kernel_rfl

/-- A token's cells at a place. -/
def tnAt (w : World) (b o : Nat) (x : Tn) : Prop := w.cell? ⟨b, o, none⟩ = some (.int .i64 x.k) ∧ w.cell? ⟨b, o + 1, none⟩ = some (.int .i64 x.p) ∧ w.cell? ⟨b, o + 2, none⟩ = some (.int .u64 x.a) ∧ w.cell? ⟨b, o + 3, none⟩ = some (.int .u64 x.b) ∧ w.cell? ⟨b, o + 4, none⟩ = some (.int .u64 x.c) ∧ w.cell? ⟨b, o + 5, none⟩ = some (.int .u64 x.d) ∧ w.cell? ⟨b, o + 6, none⟩ = some (.int .i64 x.lo) ∧ w.cell? ⟨b, o + 7, none⟩ = some (.int .i64 x.hi)
theorem tnAt.below {w w' : World} {b o B : Nat} {x : Tn} (h : tnAt w b o x) (hb : Below B w w') (hB : b < B) : tnAt w' b o x := by
  have c : ∀ x, w'.cell? ⟨b, x, none⟩ = w.cell? ⟨b, x, none⟩ := fun x => hb.cell (p := ⟨b, x, none⟩) hB
  unfold tnAt at h ⊢
  simp only [c]
  exact h
/-- The tokens that lie in a block from a place on. -/
def rdTn (w : World) (b off n : Nat) (T : Nat → Tn) : Prop := ∀ j, j < n → b < w.heap.size ∧ tnAt w b (off + j * 8) (T j)
theorem rdTn.below {w w' : World} {b off n : Nat} {T : Nat → Tn} (h : rdTn w b off n T) (hb : Below w.heap.size w w') : rdTn w' b off n T := fun j hj =>
  ⟨Nat.lt_of_lt_of_le (h j hj).1 hb.size, (h j hj).2.below hb (h j hj).1⟩

/-- A node's cells, as values; a row of nodes. -/
def ncs (x : Nd) : List Value := [.int .i64 x.k, .int .u64 x.a, .int .u64 x.b, .int .u64 x.c, .int .u64 x.d, .int .i64 x.lo, .int .i64 x.hi]
def nds (l : List Nd) : List Value := l.flatMap ncs
theorem nds_append (l r : List Nd) : nds (l ++ r) = nds l ++ nds r := by simp [nds]
theorem nds_one (x : Nd) : nds [x] = ncs x := by simp [nds]
theorem nds_len (l : List Nd) : (nds l).length = l.length * 7 := by
  induction l with
  | nil => rfl
  | cons x l ih => rw [show x :: l = [x] ++ l from rfl, nds_append, nds_one, List.length_append, ih, List.length_append]; simp [ncs]; omega
theorem nds_cell (l : List Nd) : ∀ u ∈ nds l, u.oneCell' = true := by
  intro u hu
  unfold nds at hu
  obtain ⟨x, _, hx⟩ := List.mem_flatMap.1 hu
  unfold ncs at hx
  simp at hx
  rcases hx with rfl | rfl | rfl | rfl | rfl | rfl | rfl <;> rfl
/-- A row of nodes that the call owns, not empty: its block. -/
theorem owns_block {w : World} {base : Nat} {e : TypeId} {v : Value} {l : List Nd} (h : w.ownsRow base e 7 v l.length (nds l)) (hl : 1 ≤ l.length) :
    ∃ g cap, v = .slice (some ⟨g, 0, none⟩) l.length cap ∧ base ≤ g ∧ g < w.heap.size ∧ ∀ j u, (nds l)[j]? = some u → w.cell? ((⟨g, 0, none⟩ : Addr).add j) = some u := by
  have hlt := h.lt
  rcases id h.2 with ⟨rfl, h0⟩ | ⟨g, cap, cur, rfl, _⟩
  · omega
  · exact ⟨g, cap, rfl, (hlt g rfl).1, (hlt g rfl).2, fun j u hu => h.cells rfl j u hu⟩
end Go.Proofs.Ytpjmogcphgaimaa

namespace Go.Proofs.Ytpjmogcphgaimaa
open Go.RowKit

theorem append_nds {w : World} {ops : Array Oper} {rest : List Oper} {o : Oper} {a : Act} {Q : Exit → Act → World → Prop} (hgd : o.guard = none) (s x : Operand)
    (ho : o.op = .call { callee := .builtin .append, args := #[s, x], argTypes := #[22, 22] }) (base : Nat) (v : Value) (l : List Nd) (hs : a.eval s = v)
    (hown : w.ownsRow base 44 7 v l.length (nds l)) (g c : Nat) (m : List Nd) (k : Nat) (hk : k = m.length) (hx : a.eval x = .slice (some ⟨g, 0, none⟩) k c)
    (hcell : ∀ j u, (nds m)[j]? = some u → w.cell? ((⟨g, 0, none⟩ : Addr).add j) = some u) (hlen : l.length + m.length ≤ 100000) (hbase : base ≤ w.heap.size)
    (h : ∀ v' w', w'.ownsRow base 44 7 v' (l ++ m).length (nds (l ++ m)) → Below base w w' → wpList Try.prog ops Q rest (a.put o.dst v') w') : wpList Try.prog ops Q (o :: rest) a w := by
  subst hk
  obtain ⟨i0, hi, hz0, hz1, hz2⟩ := info_parts infoNode
  refine wpList_append_own w hgd s x 22 ho base 44 i0 (.agg #[.int .i64 0, .int .u64 0, .int .u64 0, .int .u64 0, .int .u64 0, .int .i64 0, .int .i64 0]) 7 56 Try.underlying22 hi hz0 hz1 hz2 rfl (by decide) v l.length (nds l) hs hown ⟨g, 0, none⟩ m.length c (nds m) hx (nds_len m) hcell (nds_cell m) (by unfold maxLen; omega) (by omega) hbase ?_
  intro v' w' h1 h2 _
  refine h v' w' ?_ ?_
  · rw [nds_append, List.length_append]; exact h1
  · refine ⟨h2.os, h2.tape, h2.output, h2.size, fun k hk => ?_⟩
    refine h2.block k (by omega) fun e => ?_
    have := (hown.lt k e.symm).1
    omega

theorem wp_append_nds {w : World} {o : Oper} {a : Act} {K : Act → World → Prop} {Q : Exit → Act → World → Prop} (s x : Operand)
    (ho : o.op = .call { callee := .builtin .append, args := #[s, x], argTypes := #[22, 22] }) (base : Nat) (v : Value) (l : List Nd) (hs : a.eval s = v)
    (hown : w.ownsRow base 44 7 v l.length (nds l)) (g c : Nat) (m : List Nd) (k : Nat) (hk : k = m.length) (hx : a.eval x = .slice (some ⟨g, 0, none⟩) k c)
    (hcell : ∀ j u, (nds m)[j]? = some u → w.cell? ((⟨g, 0, none⟩ : Addr).add j) = some u) (hlen : l.length + m.length ≤ 100000) (hbase : base ≤ w.heap.size)
    (h : ∀ v' w', w'.ownsRow base 44 7 v' (l ++ m).length (nds (l ++ m)) → Below base w w' → K (a.put o.dst v') w') : o.wp Try.prog a w K Q := by
  subst hk
  obtain ⟨i0, hi, hz0, hz1, hz2⟩ := info_parts infoNode
  refine wp_append_own w s x 22 ho base 44 i0 (.agg #[.int .i64 0, .int .u64 0, .int .u64 0, .int .u64 0, .int .u64 0, .int .i64 0, .int .i64 0]) 7 56 Try.underlying22 hi hz0 hz1 hz2 rfl (by decide) v l.length (nds l) hs hown ⟨g, 0, none⟩ m.length c (nds m) hx (nds_len m) hcell (nds_cell m) (by unfold maxLen; omega) (by omega) hbase ?_
  intro v' w' h1 h2 _
  refine h v' w' ?_ ?_
  · rw [nds_append, List.length_append]; exact h1
  · refine ⟨h2.os, h2.tape, h2.output, h2.size, fun k hk => ?_⟩
    refine h2.block k (by omega) fun e => ?_
    have := (hown.lt k e.symm).1
    omega
theorem lit_nd (w : World) (x : Nd) : ∀ j u, (nds [x])[j]? = some u → (w.alloc (.cells #[.int .i64 x.k, .int .u64 x.a, .int .u64 x.b, .int .u64 x.c, .int .u64 x.d, .int .i64 x.lo, .int .i64 x.hi] 44)).cell? ((⟨w.heap.size, 0, none⟩ : Addr).add j) = some u := by
  intro j u hu
  rw [nds_one] at hu
  unfold ncs at hu
  match j, hu with
  | 0, hu => simp at hu; subst hu; simp [Addr.add]
  | 1, hu => simp at hu; subst hu; simp [Addr.add]
  | 2, hu => simp at hu; subst hu; simp [Addr.add]
  | 3, hu => simp at hu; subst hu; simp [Addr.add]
  | 4, hu => simp at hu; subst hu; simp [Addr.add]
  | 5, hu => simp at hu; subst hu; simp [Addr.add]
  | 6, hu => simp at hu; subst hu; simp [Addr.add]

theorem lit_owns (w : World) (base : Nat) (hb : base ≤ w.heap.size) (x : Nd) : (w.alloc (.cells #[.int .i64 x.k, .int .u64 x.a, .int .u64 x.b, .int .u64 x.c, .int .u64 x.d, .int .i64 x.lo, .int .i64 x.hi] 44)).ownsRow base 44 7 (.slice (some ⟨w.heap.size, 0, none⟩) 1 1) [x].length (nds [x]) := by
  have := World.ownsRow_lit (e := 44) (size := 7) w #[.int .i64 x.k, .int .u64 x.a, .int .u64 x.b, .int .u64 x.c, .int .u64 x.d, .int .i64 x.lo, .int .i64 x.hi] 1 hb (by unfold maxLen; omega) rfl
  rw [nds_one]; exact this

/-- What is told: a row of nodes, and a place. -/
def ndPost (r : List Nd × Nat) (w : World) (e : Ending) (w' : World) : Prop :=
  ∃ v, e = .returned (.tuple #[v, .int .i64 (r.2 : Int)]) ∧ w'.ownsRow w.heap.size 44 7 v r.1.length (nds r.1) ∧ Below w.heap.size w w'
theorem ndPost.mk {r : List Nd × Nat} {w w' : World} {v : Value} {x : Int} (l : List Nd) (i : Nat) (hr : r = (l, i)) (hx : x = i) (ho : w'.ownsRow w.heap.size 44 7 v l.length (nds l)) (hb : Below w.heap.size w w') : ndPost r w (.returned (.tuple #[v, .int .i64 x])) w' := by
  subst hr hx; exact ⟨v, rfl, ho, hb⟩
end Go.Proofs.Ytpjmogcphgaimaa

namespace Go.Proofs.Ytpjmogcphgaimaa
open Go.RowKit

theorem build_set (x0 x1 x2 x3 : Int) (w : World) : (Instr.build 44 #[(0, .int .i64 1), (1, .agg #[.int .u64 x0, .int .u64 x1, .int .u64 x2, .int .u64 x3])]).run Try.prog w = .ok (.agg #[.int .i64 1, .int .u64 x0, .int .u64 x1, .int .u64 x2, .int .u64 x3, .int .i64 0, .int .i64 0]) w := by kernel_rfl
theorem build_rep (lo hi : Int) (w : World) : (Instr.build 44 #[(0, .int .i64 7), (2, .int .i64 lo), (3, .int .i64 hi)]).run Try.prog w = .ok (.agg #[.int .i64 7, .int .u64 0, .int .u64 0, .int .u64 0, .int .u64 0, .int .i64 lo, .int .i64 hi]) w := by kernel_rfl
theorem wpList_build_set {ops : Array Oper} {rest : List Oper} {o : Oper} {a : Act} {w : World} {Q : Exit → Act → World → Prop} (hgd : o.guard = none) (x y : Operand) (ho : o.op = .build 44 #[(0, x), (1, y)])
    (x0 x1 x2 x3 : Int) (hx : a.eval x = .int .i64 1) (hy : a.eval y = .agg #[.int .u64 x0, .int .u64 x1, .int .u64 x2, .int .u64 x3])
    (h : wpList Try.prog ops Q rest (a.put o.dst (.agg #[.int .i64 1, .int .u64 x0, .int .u64 x1, .int .u64 x2, .int .u64 x3, .int .i64 0, .int .i64 0])) w) : wpList Try.prog ops Q (o :: rest) a w :=
  wpList_plain hgd fun K hK => by
    have hb := build_set x0 x1 x2 x3 w
    have hm : (#[(0, x), (1, y)] : Array (Nat × Operand)).map (fun (i, v) => (i, a.eval v)) = #[(0, a.eval x), (1, a.eval y)] := by simp
    unfold Oper.wp execOp
    simp only [ho]
    rw [hm, hx, hy]
    simp only [Sem.run_bind, hb, Result.andThen_ok]
    exact hK _ _ h
theorem wpList_build_rep {ops : Array Oper} {rest : List Oper} {o : Oper} {a : Act} {w : World} {Q : Exit → Act → World → Prop} (hgd : o.guard = none) (x y z : Operand) (ho : o.op = .build 44 #[(0, x), (2, y), (3, z)])
    (lo hi : Int) (hx : a.eval x = .int .i64 7) (hy : a.eval y = .int .i64 lo) (hz : a.eval z = .int .i64 hi)
    (h : wpList Try.prog ops Q rest (a.put o.dst (.agg #[.int .i64 7, .int .u64 0, .int .u64 0, .int .u64 0, .int .u64 0, .int .i64 lo, .int .i64 hi])) w) : wpList Try.prog ops Q (o :: rest) a w :=
  wpList_plain hgd fun K hK => by
    have hb := build_rep lo hi w
    have hm : (#[(0, x), (2, y), (3, z)] : Array (Nat × Operand)).map (fun (i, v) => (i, a.eval v)) = #[(0, a.eval x), (2, a.eval y), (3, a.eval z)] := by simp
    unfold Oper.wp execOp
    simp only [ho]
    rw [hm, hx, hy, hz]
    simp only [Sem.run_bind, hb, Result.andThen_ok]
    exact hK _ _ h
def rpRel (T : Nat → Tn) (n : Nat) (R : List Nd × Nat) (w : World) (v x : Value) (wr : World) : Prop :=
  ∃ (i u : Nat) (acc : List Nd), x = .int .i64 (i : Int) ∧ i ≤ 2 * n + 1 ∧ acc.length ≤ 4 * n + i ∧ 1 ≤ acc.length ∧ wr.ownsRow w.heap.size 44 7 v acc.length (nds acc) ∧ Below w.heap.size w wr ∧ Hid (R = (acc ++ (repsL T n u i).1, (repsL T n u i).2) ∧ n + 1 ≤ u + i)

end Go.Proofs.Ytpjmogcphgaimaa

namespace Go.Proofs.Ytpjmogcphgaimaa
open Go.RowKit

/-- Does the token ahead end a part? -/
def ahead (T : Nat → Tn) (i : Nat) : Bool := decide (0 < i) && endsP (T (i - 1)).k
def wrRel (T : Nat → Tn) (n : Nat) (R : Int × Int × Nat) (w : World) (o x : Value) (wr : World) : Prop :=
  ∃ (i u op : Nat), x = .int .i64 (i : Int) ∧ o = .int .i64 (op : Int) ∧ i ≤ n ∧ op ≤ 20 ∧ Below w.heap.size w wr ∧ Hid (wrF T n u i op = R ∧ n + 1 ≤ u + i)

end Go.Proofs.Ytpjmogcphgaimaa

namespace Go.Proofs.Ytpjmogcphgaimaa
open Go.RowKit

/-- What Of tells: a tree, or a place and an error. -/
def ofF (T : Nat → Tn) (n : Nat) (end_ : Int) : Option (List Nd) × Int × Int :=
  if (wrF T n (n + 1) 0 0).2.1 ≠ 0 then (none, (T (wrF T n (n + 1) 0 0).1.toNat).p, (wrF T n (n + 1) 0 0).2.1)
  else if 0 < (wrF T n (n + 1) 0 0).2.2 then (none, end_, 3)
  else if 512 < (ei T n (n + 1) 0).1.length then (none, 0, 4)
  else (some (ei T n (n + 1) 0).1, 0, 0)
def ofPost (r : Option (List Nd) × Int × Int) (w : World) (e : Ending) (w' : World) : Prop :=
  (∀ l, r.1 = some l → ∃ v, e = .returned (.tuple #[v, .int .i64 r.2.1, .int .i64 r.2.2]) ∧ w'.ownsRow w.heap.size 44 7 v l.length (nds l)) ∧ (r.1 = none → e = .returned (.tuple #[.slice none 0 0, .int .i64 r.2.1, .int .i64 r.2.2])) ∧ Below w.heap.size w w'
theorem ofPost.bad {r : Option (List Nd) × Int × Int} {w w' : World} (x y : Int) (h : r = (none, x, y)) (hb : Below w.heap.size w w') : ofPost r w (.returned (.tuple #[.slice none 0 0, .int .i64 x, .int .i64 y])) w' := by
  subst h
  exact ⟨fun l hl => (by cases hl), fun _ => rfl, hb⟩
theorem ofPost.good {r : Option (List Nd) × Int × Int} {w w' : World} {v : Value} (l : List Nd) (h : r = (some l, 0, 0)) (ho : w'.ownsRow w.heap.size 44 7 v l.length (nds l)) (hb : Below w.heap.size w w') : ofPost r w (.returned (.tuple #[v, .int .i64 0, .int .i64 0])) w' := by
  subst h
  exact ⟨fun l' hl => (by cases hl; exact ⟨v, rfl, ho⟩), fun hn => (by cases hn), hb⟩

end Go.Proofs.Ytpjmogcphgaimaa

namespace Go.Proofs.Ytpjmogcphgaimaa

/-- How many groups stand within one another. -/
def gd : Tr → Nat
  | .leaf x => if x.k = 2 then 1 else 0
  | .cat a b => max (gd a + (isOr a).toNat) (gd b + (isOr b || isCat b).toNat)
  | .or a b => max (gd a) (gd b + (isOr b).toNat)
  | .rep a _ _ => gd a + (isOr a || isCat a).toNat
def dp : Tr → Nat
  | .leaf _ => 1
  | .cat a b => max (dp a) (dp b) + 1
  | .or a b => max (dp a) (dp b) + 1
  | .rep a _ _ => dp a + 1
theorem toNat_le (b : Bool) : b.toNat ≤ 1 := by cases b <;> decide
theorem gd_dp : ∀ t, gd t ≤ dp t
  | .leaf x => by unfold gd dp; split <;> omega
  | .cat a b => by
    have h1 := gd_dp a; have h2 := gd_dp b; have h3 := toNat_le (isOr a); have h4 := toNat_le (isOr b || isCat b)
    show max (gd a + (isOr a).toNat) (gd b + (isOr b || isCat b).toNat) ≤ max (dp a) (dp b) + 1
    omega
  | .or a b => by
    have h1 := gd_dp a; have h2 := gd_dp b; have h3 := toNat_le (isOr b)
    show max (gd a) (gd b + (isOr b).toNat) ≤ max (dp a) (dp b) + 1
    omega
  | .rep a _ _ => by
    have h1 := gd_dp a; have h3 := toNat_le (isOr a || isCat a)
    show gd a + (isOr a || isCat a).toNat ≤ dp a + 1
    omega

/-- What Wrong tells of some tokens within d groups of their own. -/
def wrG (l : List Tn) (d : Nat) : Prop := ∀ (T : Nat → Tn) (n u i o : Nat), n + 1 ≤ u + i → hasT T n i l → o ≤ 20 →
  (o + d ≤ 20 → wrF T n u i o = wrF T n (u - l.length) (i + l.length) o) ∧ (20 < o + d → ∃ j q, wrF T n u i o = (j, 4, q))
def fin (l : List Tn) : Prop := ∃ m c, l = m ++ [c] ∧ endsP c.k = true
theorem fin_app {l m : List Tn} (h : fin m) : fin (l ++ m) := by
  obtain ⟨s, c, rfl, hc⟩ := h
  exact ⟨l ++ s, c, by simp, hc⟩
theorem fin_grp {b : Bool} {l : List Tn} (h : fin l) : fin (grp b l) := by
  cases b
  · exact h
  · exact ⟨tn0 3 :: l, tn0 4, rfl, rfl⟩
theorem fin_eT : ∀ t, fin (eT t)
  | .leaf x => by
    unfold eT
    by_cases c1 : x.k = 1
    · rw [if_pos c1]; exact ⟨[], _, rfl, rfl⟩
    · rw [if_neg c1]
      by_cases c2 : x.k = 2
      · rw [if_pos c2]; exact ⟨[tn0 3], tn0 4, rfl, rfl⟩
      · rw [if_neg c2]
        by_cases c3 : x.k = 3
        · rw [if_pos c3]; exact ⟨[], _, rfl, rfl⟩
        · rw [if_neg c3]; exact ⟨[], _, rfl, rfl⟩
  | .cat _ b => fin_app (fin_grp (fin_eT b))
  | .or a b => by
    obtain ⟨m, c, h, hc⟩ := fin_grp (b := isOr b) (fin_eT b)
    exact ⟨eT a ++ tn0 2 :: m, c, by show eT a ++ tn0 2 :: grp (isOr b) (eT b) = _; rw [h]; simp, hc⟩
  | .rep _ _ _ => ⟨_, tnR _ _, rfl, rfl⟩
theorem wrG_app {l1 l2 : List Tn} {d1 d2 : Nat} (h1 : wrG l1 d1) (h2 : wrG l2 d2) : wrG (l1 ++ l2) (max d1 d2) := by
  intro T n u i o hu hh ho
  obtain ⟨a1, a2⟩ := h1 T n u i o hu hh.left ho
  have hle := hh.left.1
  obtain ⟨b1, b2⟩ := h2 T n (u - l1.length) (i + l1.length) o (by omega) hh.right ho
  refine ⟨fun h => ?_, fun h => ?_⟩
  · rw [a1 (by omega), b1 (by omega), List.length_append, Nat.sub_add_eq, Nat.add_assoc]
  · by_cases h3 : 20 < o + d1
    · exact a2 h3
    · rw [a1 (by omega)]; exact b2 (by omega)
theorem wrF_step {T : Nat → Tn} {n u i o : Nat} (hi : i < n) (h1 : 1 ≤ (T i).k) (h7 : (T i).k ≤ 7) (h5 : (T i).k = 5 → badRep (T i) = false ∧ 0 < i ∧ endsP (T (i - 1)).k = true) (h3 : (T i).k = 3 → o ≠ 20) (h4 : (T i).k = 4 → o ≠ 0) :
    wrF T n (u + 1) i o = wrF T n u (i + 1) (if (T i).k = 3 then o + 1 else if (T i).k = 4 then o - 1 else o) := by
  conv => lhs; unfold wrF
  rw [if_neg (by omega), if_neg (by omega), if_neg (fun h => by rw [(h5 h.1).1] at h; simp at h), if_neg (fun h => h.2 (h5 h.1).2), if_neg (fun h => h3 h.1 h.2), if_neg (fun h => h4 h.1 h.2)]
theorem wrG_one {c : Tn} (h : c.k = 1 ∨ c.k = 2 ∨ c.k = 6 ∨ c.k = 7) : wrG [c] 0 := by
  intro T n u i o hu hh ho
  obtain ⟨k1, k2, -⟩ := hh.head
  refine ⟨fun _ => ?_, fun h => absurd h (by omega)⟩
  obtain ⟨v, rfl⟩ : ∃ v, u = v + 1 := ⟨u - 1, by omega⟩
  rw [wrF_step k1 (by omega) (by omega) (fun h => by omega) (fun h => by omega) (fun h => by omega), if_neg (by omega), if_neg (by omega)]
  rfl
theorem wrG_grp {l : List Tn} {d : Nat} (h : wrG l d) : wrG (tn0 3 :: (l ++ [tn0 4])) (d + 1) := by
  intro T n u i o hu hh ho
  obtain ⟨k1, k2, -⟩ := hh.head
  have k3 : (T i).k = 3 := k2
  have hT := hh.tail
  have hC := hT.right.head
  have k4 : (T (i + 1 + l.length)).k = 4 := hC.2.1
  have hle := hC.1
  obtain ⟨v, rfl⟩ : ∃ v, u = v + 1 := ⟨u - 1, by omega⟩
  by_cases h20 : o = 20
  · refine ⟨fun h => by omega, fun _ => ⟨(i : Int), o, ?_⟩⟩
    unfold wrF
    rw [if_neg (by omega), if_neg (by omega), if_neg (fun h => by omega), if_neg (fun h => by omega), if_pos ⟨k3, h20⟩]
  · rw [wrF_step k1 (by omega) (by omega) (fun h => by omega) (fun _ => h20) (fun h => by omega), if_pos k3]
    obtain ⟨a1, a2⟩ := h T n v (i + 1) (o + 1) (by omega) hT.left (by omega)
    refine ⟨fun hd => ?_, fun hd => a2 (by omega)⟩
    rw [a1 (by omega)]
    obtain ⟨w, hw⟩ : ∃ w, v - l.length = w + 1 := ⟨v - l.length - 1, by omega⟩
    rw [hw, wrF_step hle (by omega) (by omega) (fun h => by omega) (fun h => by omega) (fun _ => by omega), if_neg (by omega), if_pos k4]
    have e1 : w = v + 1 - (tn0 3 :: (l ++ [tn0 4])).length := by simp; omega
    have e2 : i + 1 + l.length + 1 = i + (tn0 3 :: (l ++ [tn0 4])).length := by simp; omega
    rw [e1, e2]
    rfl
theorem wrG_rep {l : List Tn} {d : Nat} (h : wrG l d) (hf : fin l) {lo hi : Int} (h1 : 0 ≤ lo) (h2 : lo ≤ 32) (h3 : hi = -1 ∨ (lo ≤ hi ∧ hi ≤ 32)) : wrG (l ++ [tnR lo hi]) d := by
  intro T n u i o hu hh ho
  obtain ⟨a1, a2⟩ := h T n u i o hu hh.left ho
  refine ⟨fun hd => ?_, a2⟩
  obtain ⟨k1, k2, -, -, -, -, k6, k7⟩ := hh.right.head
  have k5 : (T (i + l.length)).k = 5 := k2
  have k6' : (T (i + l.length)).lo = lo := k6
  have k7' : (T (i + l.length)).hi = hi := k7
  obtain ⟨m, c, e, hc⟩ := hf
  have hp : 0 < i + l.length ∧ endsP (T (i + l.length - 1)).k = true := by
    subst e
    have hl := hh.left.right.head
    have : (T (i + m.length)).k = c.k := hl.2.1
    rw [show i + (m ++ [c]).length - 1 = i + m.length by simp, this]
    exact ⟨by simp; omega, hc⟩
  have hb : badRep (T (i + l.length)) = false := by
    unfold badRep
    rw [k6', k7']
    rcases h3 with rfl | ⟨q1, q2⟩
    · simp; omega
    · simp; omega
  obtain ⟨w, hw⟩ : ∃ w, u - l.length = w + 1 := ⟨u - l.length - 1, by omega⟩
  rw [a1 hd, hw, wrF_step k1 (by omega) (by omega) (fun _ => ⟨hb, hp⟩) (fun h => by omega) (fun h => by omega), if_neg (by omega), if_neg (by omega)]
  rw [show u - (l ++ [tnR lo hi]).length = w by simp; omega, show i + (l ++ [tnR lo hi]).length = i + l.length + 1 by simp; omega]
theorem wrG_grp_if {b : Bool} {l : List Tn} {d : Nat} (h : wrG l d) : wrG (grp b l) (d + b.toNat) := by
  cases b
  · exact h
  · exact wrG_grp h
theorem wrG_nil : wrG [] 0 := fun T n u i o _ _ ho => ⟨fun _ => rfl, fun h => absurd h (by omega)⟩
theorem wrG_eT : ∀ t, okT t → wrG (eT t) (gd t)
  | .leaf x, h => by
    unfold eT gd
    by_cases c1 : x.k = 1
    · rw [if_pos c1, if_neg (by omega)]; exact wrG_one (.inl rfl)
    · rw [if_neg c1]
      by_cases c2 : x.k = 2
      · rw [if_pos c2, if_pos c2]; exact wrG_grp (l := []) wrG_nil
      · rw [if_neg c2, if_neg c2]
        by_cases c3 : x.k = 3
        · rw [if_pos c3]; exact wrG_one (.inr (.inr (.inl rfl)))
        · rw [if_neg c3]; exact wrG_one (.inr (.inr (.inr rfl)))
  | .cat a b, h => wrG_app (wrG_grp_if (wrG_eT a h.1)) (wrG_grp_if (wrG_eT b h.2))
  | .or a b, h => by
    have h1 : wrG (tn0 2 :: grp (isOr b) (eT b)) (gd b + (isOr b).toNat) := by
      have := wrG_app (wrG_one (c := tn0 2) (.inr (.inl rfl))) (wrG_grp_if (b := isOr b) (wrG_eT b h.2))
      rwa [Nat.zero_max] at this
    exact wrG_app (wrG_eT a h.1) h1
  | .rep a lo hi, h => wrG_rep (wrG_grp_if (wrG_eT a h.1)) (fin_grp (fin_eT a)) h.2.1 h.2.2.1 h.2.2.2
/-- What Of tells of a tree's tokens: the tree; or that too many groups stand within one another. -/
theorem of_back {t : Tr} (h : okT t) {T : Nat → Tn} {n : Nat} (hh : hasT T n 0 (eT t)) (hn : (eT t).length = n) (hp : (post t).length ≤ 512) (end_ : Int) :
    (gd t ≤ 20 → ofF T n end_ = (some (post t), 0, 0)) ∧ (20 < gd t → ∃ x, ofF T n end_ = (none, x, 4)) := by
  obtain ⟨a1, a2⟩ := wrG_eT t h T n (n + 1) 0 0 (by omega) hh (by omega)
  refine ⟨fun hg => ?_, fun hg => ?_⟩
  · have e : wrF T n (n + 1) 0 0 = (-1, 0, 0) := by
      rw [a1 (by omega), hn, show n + 1 - n = 1 by omega]
      unfold wrF
      rw [if_pos (by omega)]
    unfold ofF
    rw [e, ei_back h hh hn]
    simp only
    rw [if_neg (by decide), if_neg (by decide), if_neg (by omega)]
  · obtain ⟨j, q, e⟩ := a2 (by omega)
    refine ⟨(T j.toNat).p, ?_⟩
    unfold ofF
    rw [e, if_pos (show (4 : Int) ≠ 0 by decide)]
end Go.Proofs.Ytpjmogcphgaimaa
