/-
  Two statements of the third reference's Bracket that draw their order, each as a theorem of its own. The walk of the third reference's Bracket. The walk of the third reference's Bracket at a text's last byte. The contract of the third reference's Bracket, at any place of a text.
  The walk of the third reference's Token. The walk of the third reference's Token, at what is no sign.
-/
import Derived.Test.YtgjpmfdiidkdnaaDoorPk22
import Derived.Test.YtgjpmfdiidkdnaaDoorPk5
import Derived.Test.YtgjpmfdiidkdnaaDoorPk29
import Derived.BigQuiet
import Derived.Deep.Cut
import Derived.Deep.CutRange
import Derived.Deep.RegionHeldLaw
import Derived.Deep.QuietTactic
import Derived.Deep.RegionWith
namespace Go.Proofs.YtgjpmfdiidkdnaaDoor
open Go.RowKit

/-- A region of a code, by its number. -/
def findReg (k : Nat) : Code → Option Code
  | .region j ops d => if j = k then some (.region j ops d) else none
  | .seq a b => match findReg k a with
    | some c => some c
    | none => findReg k b
  | .cond _ a b => match findReg k a with
    | some c => some c
    | none => findReg k b
  | .block _ c => findReg k c
  | .loop c => findReg k c
  | .scope c => findReg k c
  | _ => none
theorem wp_false {P : Program} {s : Code} {K K' : Act → World → Prop} {Q : Exit → Act → World → Prop} {a : Act} {w : World} (h : s.wp P (Exit.then K (fun _ _ _ => False)) a w) (hK : ∀ a' w', K a' w' → K' a' w') : s.wp P (Exit.then K' Q) a w := by
  refine wp_mono h ?_
  intro e a' w' hq
  cases e with
  | normal => exact hK _ _ hq
  | exit id => exact hq.elim
  | goto l => exact hq.elim
  | ret => exact hq.elim
  | panic ch => exact hq.elim
  | outgrown => exact hq.elim

end Go.Proofs.YtgjpmfdiidkdnaaDoor

namespace Go.Proofs.YtgjpmfdiidkdnaaDoor
open Go.RowKit

/-- The bracket at a place. -/
def bkF (p : ByteArray) (k : Nat) : Nat → Bool := match brk p k with | some r => r.1 | none => fun _ => false
def bkN (p : ByteArray) (k : Nat) : Nat := match brk p k with | some r => r.2 | none => 0
def bkOk (p : ByteArray) (k : Nat) : Bool := match brk p k with | some _ => true | none => false
theorem oneF_lt (f : Nat → Bool) (nm : Bool) : oneF f nm < 256 := by
  unfold oneF
  split
  · decide
  · split
    · rename_i h
      have hm : (bl f 256).headD 0 ∈ bl f 256 := by
        cases hl : bl f 256 with
        | nil => rw [hl] at h; cases h
        | cons a l => simp
      have hm2 := List.mem_range.1 (List.mem_filter.1 hm).1
      exact Int.ofNat_lt.2 hm2
    · decide
end Go.Proofs.YtgjpmfdiidkdnaaDoor

namespace Go.Proofs.YtgjpmfdiidkdnaaDoor
open Go.RowKit

end Go.Proofs.YtgjpmfdiidkdnaaDoor

namespace Go.Proofs.YtgjpmfdiidkdnaaDoor
open Go.RowKit

end Go.Proofs.YtgjpmfdiidkdnaaDoor

namespace Go.Proofs.YtgjpmfdiidkdnaaDoor
open Go.RowKit

theorem build_tk2 (k a : Int) (w : World) : (Instr.build 38 #[(0, .int .i64 k), (1, .int .i64 a)]).run Tryd.prog w = .ok (.agg #[.int .i64 k, .int .i64 a, .int .u64 0, .int .u64 0, .int .u64 0, .int .u64 0, .int .i64 0, .int .i64 0]) w := by kernel_rfl
theorem build_tk4 (k a lo hi : Int) (w : World) : (Instr.build 38 #[(0, .int .i64 k), (1, .int .i64 a), (3, .int .i64 lo), (4, .int .i64 hi)]).run Tryd.prog w = .ok (.agg #[.int .i64 k, .int .i64 a, .int .u64 0, .int .u64 0, .int .u64 0, .int .u64 0, .int .i64 lo, .int .i64 hi]) w := by kernel_rfl
theorem build_tkSA (k a x0 x1 x2 x3 : Int) (w : World) : (Instr.build 38 #[(0, .int .i64 k), (1, .int .i64 a), (2, .agg #[.int .u64 x0, .int .u64 x1, .int .u64 x2, .int .u64 x3])]).run Tryd.prog w = .ok (.agg #[.int .i64 k, .int .i64 a, .int .u64 x0, .int .u64 x1, .int .u64 x2, .int .u64 x3, .int .i64 0, .int .i64 0]) w := by kernel_rfl
theorem wpList_build_tk2 {ops : Array Oper} {rest : List Oper} {o : Oper} {a : Act} {w : World} {Q : Exit → Act → World → Prop} (hgd : o.guard = none) (x y : Operand) (ho : o.op = .build 38 #[(0, x), (1, y)])
    (k b : Int) (hx : a.eval x = .int .i64 k) (hy : a.eval y = .int .i64 b)
    (h : wpList Tryd.prog ops Q rest (a.put o.dst (.agg #[.int .i64 k, .int .i64 b, .int .u64 0, .int .u64 0, .int .u64 0, .int .u64 0, .int .i64 0, .int .i64 0])) w) : wpList Tryd.prog ops Q (o :: rest) a w :=
  wpList_plain hgd fun K hK => by
    have hb := build_tk2 k b w
    have hm : (#[(0, x), (1, y)] : Array (Nat × Operand)).map (fun (i, v) => (i, a.eval v)) = #[(0, a.eval x), (1, a.eval y)] := by simp
    unfold Oper.wp execOp
    simp only [ho]
    rw [hm, hx, hy]
    simp only [Sem.run_bind, hb, Result.andThen_ok]
    exact hK _ _ h
theorem wpList_build_tk4 {ops : Array Oper} {rest : List Oper} {o : Oper} {a : Act} {w : World} {Q : Exit → Act → World → Prop} (hgd : o.guard = none) (x y u v : Operand) (ho : o.op = .build 38 #[(0, x), (1, y), (3, u), (4, v)])
    (k b lo hi : Int) (hx : a.eval x = .int .i64 k) (hy : a.eval y = .int .i64 b) (hu : a.eval u = .int .i64 lo) (hv : a.eval v = .int .i64 hi)
    (h : wpList Tryd.prog ops Q rest (a.put o.dst (.agg #[.int .i64 k, .int .i64 b, .int .u64 0, .int .u64 0, .int .u64 0, .int .u64 0, .int .i64 lo, .int .i64 hi])) w) : wpList Tryd.prog ops Q (o :: rest) a w :=
  wpList_plain hgd fun K hK => by
    have hb := build_tk4 k b lo hi w
    have hm : (#[(0, x), (1, y), (3, u), (4, v)] : Array (Nat × Operand)).map (fun (i, v) => (i, a.eval v)) = #[(0, a.eval x), (1, a.eval y), (3, a.eval u), (4, a.eval v)] := by simp
    unfold Oper.wp execOp
    simp only [ho]
    rw [hm, hx, hy, hu, hv]
    simp only [Sem.run_bind, hb, Result.andThen_ok]
    exact hK _ _ h

/-- What Token answers. -/
def rtokPost (t : Option (Tk × Nat)) (k : Nat) (w : World) (e : Ending) (w' : World) : Prop :=
  (∀ r n, t = some (r, n) → e = .returned (.tuple #[tkv r.1 (k : Int) r.2.1 r.2.2.1 r.2.2.2, .int .i64 (n : Nat)])) ∧ (t = none → ∃ a b : Int, e = .returned (.tuple #[tkv a b (fun _ => false) 0 0, .int .i64 0])) ∧ Below w.heap.size w w'
theorem rtokPost.good {t : Option (Tk × Nat)} {k n : Nat} {w w' : World} {r : Tk} {v : Value} {x : Int} (h : t = some (r, n)) (hv : v = tkv r.1 (k : Int) r.2.1 r.2.2.1 r.2.2.2) (hx : x = (n : Nat)) (hb : Below w.heap.size w w') : rtokPost t k w (.returned (.tuple #[v, .int .i64 x])) w' := by
  subst h
  refine ⟨fun r' n' h => ?_, fun h => (by cases h), hb⟩
  obtain ⟨e1, e2⟩ := Prod.mk.inj (Option.some.inj h)
  rw [← e1, ← e2, hv, hx]
theorem rtokPost.bad {t : Option (Tk × Nat)} {k : Nat} {w w' : World} {v : Value} {a b : Int} (h : t = none) (hv : v = tkv a b (fun _ => false) 0 0) (hb : Below w.heap.size w w') : rtokPost t k w (.returned (.tuple #[v, .int .i64 0])) w' := by
  subst h
  exact ⟨fun r' n' h => (by cases h), fun _ => ⟨a, b, by rw [hv]⟩, hb⟩

end Go.Proofs.YtgjpmfdiidkdnaaDoor

namespace Go.Proofs.YtgjpmfdiidkdnaaDoor
open Go.RowKit

theorem oft_zero {p : ByteArray} {k : Nat} (h : (oftF p k).2.2 = 0) : oftF p k = (0, 0, 0) := by
  rw [oft_eqk] at h ⊢
  split
  · rfl
  · rename_i h1
    rw [if_neg h1] at h
    split
    · rename_i h2; rw [if_pos h2] at h; simp at h
    · rename_i h2
      rw [if_neg h2] at h
      split
      · rfl
      · rename_i h3
        rw [if_neg h3] at h
        split
        · rename_i h4; rw [if_pos h4] at h; simp at h
        · rename_i h4
          rw [if_neg h4] at h
          split
          · rfl
          · rename_i h5; rw [if_neg h5] at h; simp at h

theorem dot_one : dotF = fun x => !oneR 10 x := by
  funext x
  unfold dotF oneR
  rw [← Bool.decide_and]
  exact congrArg _ (decide_eq_decide.2 (by omega))
end Go.Proofs.YtgjpmfdiidkdnaaDoor
