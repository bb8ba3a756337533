/-
  Facts as values and in memory; the walks of facts' atMost and oneOf.
  The walk of facts' behind.
  The walks of facts' either and again, where one of them never fits; of facts' Can.
-/
import Derived.Test.YtjbmkbgoahppfaaDoorPk3
import Derived.Test.YtjbmkbgoahppfaaDoorPk14
import Derived.Test.YtjbmkbgoahppfaaDoorPk10
import Derived.Deep.RegionHeldLaw
namespace Go.Proofs.YtjbmkbgoahppfaaDoor
open Go.RowKit

/-- Facts as a value, its words opaque. -/
@[reducible] def fxr (nv : Bool) (ls ms x0 x1 x2 x3 : Int) (e : Bool) : Value := .agg #[.bool nv, .int .i64 ls, .int .i64 ms, .int .u64 x0, .int .u64 x1, .int .u64 x2, .int .u64 x3, .bool e]
def fxv (a : Fx) (e : Bool) : Value := fxr a.nv a.ls a.ms (wd a.fi 0 : Int) (wd a.fi 1 : Int) (wd a.fi 2 : Int) (wd a.fi 3 : Int) e
/-- Block b holds facts. -/
def isFx (w : World) (b : Nat) (nv : Bool) (ls ms x0 x1 x2 x3 : Int) (e : Bool) : Prop :=
  w.heap[b]? = some (.cells #[.bool nv, .int .i64 ls, .int .i64 ms, .int .u64 x0, .int .u64 x1, .int .u64 x2, .int .u64 x3, .bool e] 40 (0, 0))
theorem isFx.lt {w : World} {b : Nat} {nv : Bool} {ls ms x0 x1 x2 x3 : Int} {e : Bool} (h : isFx w b nv ls ms x0 x1 x2 x3 e) : b < w.heap.size := lt_of_block h
theorem isFx.cells {w : World} {b : Nat} {nv : Bool} {ls ms x0 x1 x2 x3 : Int} {e : Bool} (h : isFx w b nv ls ms x0 x1 x2 x3 e) :
    w.cell? ⟨b, 0, none⟩ = some (.bool nv) ∧ w.cell? ⟨b, 1, none⟩ = some (.int .i64 ls) ∧ w.cell? ⟨b, 2, none⟩ = some (.int .i64 ms) ∧ w.cell? ⟨b, 3, none⟩ = some (.int .u64 x0) ∧
    w.cell? ⟨b, 4, none⟩ = some (.int .u64 x1) ∧ w.cell? ⟨b, 5, none⟩ = some (.int .u64 x2) ∧ w.cell? ⟨b, 6, none⟩ = some (.int .u64 x3) ∧ w.cell? ⟨b, 7, none⟩ = some (.bool e) := by
  unfold isFx at h
  refine ⟨?_, ?_, ?_, ?_, ?_, ?_, ?_, ?_⟩ <;> simp [World.cell?, h]
theorem isFx.free {w : World} {b : Nat} {nv : Bool} {ls ms x0 x1 x2 x3 : Int} {e : Bool} (h : isFx w b nv ls ms x0 x1 x2 x3 e) :
    w.frozen? ⟨b, 0, none⟩ = false ∧ w.frozen? ⟨b, 1, none⟩ = false ∧ w.frozen? ⟨b, 2, none⟩ = false ∧ w.frozen? ⟨b, 3, none⟩ = false ∧ w.frozen? ⟨b, 4, none⟩ = false ∧ w.frozen? ⟨b, 5, none⟩ = false ∧ w.frozen? ⟨b, 6, none⟩ = false ∧ w.frozen? ⟨b, 7, none⟩ = false := by
  unfold isFx at h
  refine ⟨?_, ?_, ?_, ?_, ?_, ?_, ?_, ?_⟩ <;> simp [World.frozen?, h]
theorem isFx.below {w w' : World} {b B : Nat} {nv : Bool} {ls ms x0 x1 x2 x3 : Int} {e : Bool} (h : isFx w b nv ls ms x0 x1 x2 x3 e) (hB : Below B w w') (hb : b < B) : isFx w' b nv ls ms x0 x1 x2 x3 e := (hB.block b hb).trans h
theorem isFx.alloc {w : World} {b : Nat} {nv : Bool} {ls ms x0 x1 x2 x3 : Int} {e : Bool} (h : isFx w b nv ls ms x0 x1 x2 x3 e) (o : Obj) : isFx (w.alloc o) b nv ls ms x0 x1 x2 x3 e := (Below.heap_alloc w o b h.lt).trans h
theorem isFx.new (w : World) (nv : Bool) (ls ms x0 x1 x2 x3 : Int) (e : Bool) : isFx (w.alloc (.cells #[.bool nv, .int .i64 ls, .int .i64 ms, .int .u64 x0, .int .u64 x1, .int .u64 x2, .int .u64 x3, .bool e] 40)) w.heap.size nv ls ms x0 x1 x2 x3 e := heap_alloc_new w _
theorem isFx.set {w : World} {b : Nat} {nv : Bool} {ls ms x0 x1 x2 x3 : Int} {e : Bool} (h : isFx w b nv ls ms x0 x1 x2 x3 e) {c : Nat} (hc : ¬ (b = c)) (o : Nat) (v : Value) : isFx (w.setCell ⟨c, o, none⟩ v) b nv ls ms x0 x1 x2 x3 e := (heap_setCell_other w ⟨c, o, none⟩ b v hc).trans h
theorem isFx.put2 {w : World} {b : Nat} {nv : Bool} {ls ms x0 x1 x2 x3 : Int} {e : Bool} (h : isFx w b nv ls ms x0 x1 x2 x3 e) (m : Int) : isFx (w.setCell ⟨b, 2, none⟩ (.int .i64 m)) b nv ls m x0 x1 x2 x3 e := by
  have h1 := heap_setCell_same w b 2 _ _ (.int .i64 m) h
  unfold isFx; rw [h1]; simp
theorem isFx.put7 {w : World} {b : Nat} {nv : Bool} {ls ms x0 x1 x2 x3 : Int} {e : Bool} (h : isFx w b nv ls ms x0 x1 x2 x3 e) (e' : Bool) : isFx (w.setCell ⟨b, 7, none⟩ (.bool e')) b nv ls ms x0 x1 x2 x3 e' := by
  have h1 := heap_setCell_same w b 7 _ _ (.bool e') h
  unfold isFx; rw [h1]; simp
theorem isFx.put3 {w : World} {b : Nat} {nv : Bool} {ls ms x0 x1 x2 x3 : Int} {e : Bool} (h : isFx w b nv ls ms x0 x1 x2 x3 e) (y0 y1 y2 y3 : Int) : isFx ((((w.setCell ⟨b, 3, none⟩ (.int .u64 y0)).setCell ⟨b, 4, none⟩ (.int .u64 y1)).setCell ⟨b, 5, none⟩ (.int .u64 y2)).setCell ⟨b, 6, none⟩ (.int .u64 y3)) b nv ls ms y0 y1 y2 y3 e := by
  have h1 := heap_setCell_same w b 3 _ _ (.int .u64 y0) h
  have h2 := heap_setCell_same _ b 4 _ _ (.int .u64 y1) h1
  have h3 := heap_setCell_same _ b 5 _ _ (.int .u64 y2) h2
  have h4 := heap_setCell_same _ b 6 _ _ (.int .u64 y3) h3
  unfold isFx; rw [h4]; simp
/-- Eight cells stored. -/
def set87 (w : World) (c : Nat) (nv : Bool) (ls ms x0 x1 x2 x3 : Int) (e : Bool) : World :=
  (((((((w.setCell ⟨c, 0, none⟩ (.bool nv)).setCell ⟨c, 1, none⟩ (.int .i64 ls)).setCell ⟨c, 2, none⟩ (.int .i64 ms)).setCell ⟨c, 3, none⟩ (.int .u64 x0)).setCell ⟨c, 4, none⟩ (.int .u64 x1)).setCell ⟨c, 5, none⟩ (.int .u64 x2)).setCell ⟨c, 6, none⟩ (.int .u64 x3)).setCell ⟨c, 7, none⟩ (.bool e)
theorem isFx.stored {w : World} {b : Nat} {nv : Bool} {ls ms x0 x1 x2 x3 : Int} {e : Bool} (h : isFx w b nv ls ms x0 x1 x2 x3 e) (nv' : Bool) (ls' ms' y0 y1 y2 y3 : Int) (e' : Bool) : isFx (set87 w b nv' ls' ms' y0 y1 y2 y3 e') b nv' ls' ms' y0 y1 y2 y3 e' := by
  have h1 := heap_setCell_same w b 0 _ _ (.bool nv') h
  have h2 := heap_setCell_same _ b 1 _ _ (.int .i64 ls') h1
  have h3 := heap_setCell_same _ b 2 _ _ (.int .i64 ms') h2
  have h4 := heap_setCell_same _ b 3 _ _ (.int .u64 y0) h3
  have h5 := heap_setCell_same _ b 4 _ _ (.int .u64 y1) h4
  have h6 := heap_setCell_same _ b 5 _ _ (.int .u64 y2) h5
  have h7 := heap_setCell_same _ b 6 _ _ (.int .u64 y3) h6
  have h8 := heap_setCell_same _ b 7 _ _ (.bool e') h7
  unfold isFx set87
  rw [h8]
  simp
theorem below_set87 {B : Nat} {a w : World} {c : Nat} (h : Below B a w) (hc : B ≤ c) (nv : Bool) (ls ms x0 x1 x2 x3 : Int) (e : Bool) : Below B a (set87 w c nv ls ms x0 x1 x2 x3 e) :=
  (((((((h.setCell hc _).setCell hc _).setCell hc _).setCell hc _).setCell hc _).setCell hc _).setCell hc _).setCell hc _

theorem below_st8 {B : Nat} {a w : World} {c : Nat} (h : Below B a w) (hc : B ≤ c) (nv : Bool) (ls ms x0 x1 x2 x3 : Int) (e : Bool) : Below B a
    ((((((((w.setCell ⟨c, 0, none⟩ (.bool nv)).setCell ⟨c, 1, none⟩ (.int .i64 ls)).setCell ⟨c, 2, none⟩ (.int .i64 ms)).setCell ⟨c, 3, none⟩ (.int .u64 x0)).setCell ⟨c, 4, none⟩ (.int .u64 x1)).setCell ⟨c, 5, none⟩ (.int .u64 x2)).setCell ⟨c, 6, none⟩ (.int .u64 x3)).setCell ⟨c, 7, none⟩ (.bool e)) := below_set87 h hc nv ls ms x0 x1 x2 x3 e

theorem catmost_any (n : Int) (w : World) : Calls Tryd.prog 40 #[.int .i64 n] w fun e w' => e = .returned (.int .i64 (cap20 n)) ∧ w' = w := by
  rcases Int.lt_or_le 1048576 n with h | h
  · have HM : Hid (cap20 n = 1048576) := Lib.hid (by unfold cap20; omega)
    have x1 : min n 1048576 = 1048576 := by omega
    have x2 : ¬ (n ≤ 1048576) := by omega
    go_enter Tryd.func40, Tryd.ntmps40
    go_wp2
    go_returns
    exact ⟨by rw [HM.out] <;> rfl, rfl⟩
  · have HM : Hid (cap20 n = n) := Lib.hid (by unfold cap20; omega)
    have x1 : min n 1048576 = n := by omega
    go_enter Tryd.func40, Tryd.ntmps40
    go_wp2
    go_returns
    exact ⟨by rw [HM.out] <;> rfl, rfl⟩

theorem min_run (p q : Int) (t : TypeId) (w : World) : (Builtin.min_ #[3, 3] t #[.int .i64 p, .int .i64 q]).run Tryd.prog w = .ok (.int .i64 (if q < p then q else p)) w := by
  unfold Builtin.min_
  simp [go_sem, Builtin.min2]
theorem wp_min7 {o : Oper} {a : Act} {w : World} {K : Act → World → Prop} {Q : Exit → Act → World → Prop} (x y : Operand) (ho : o.op = .call { callee := .builtin .min, args := #[x, y], argTypes := #[3, 3] })
    (p q L : Int) (hx : a.eval x = .int .i64 p) (hy : a.eval y = .int .i64 q) (hL : (if q < p then q else p) = L)
    (h : K (a.put o.dst (.int .i64 L)) w) : Oper.wp Tryd.prog o a w K Q := by
  have hr := min_run p q o.type w
  rw [hL] at hr
  unfold Oper.wp execOp
  simp only [ho]
  generalize a.eval = ev at *
  simp [go_sem, hx, hy, hr]
  exact h
theorem max_run (p q : Int) (t : TypeId) (w : World) : (Builtin.max_ #[3, 3] t #[.int .i64 p, .int .i64 q]).run Tryd.prog w = .ok (.int .i64 (if p < q then q else p)) w := by
  unfold Builtin.max_
  simp [go_sem, Builtin.max2]
theorem wp_max7 {o : Oper} {a : Act} {w : World} {K : Act → World → Prop} {Q : Exit → Act → World → Prop} (x y : Operand) (ho : o.op = .call { callee := .builtin .max, args := #[x, y], argTypes := #[3, 3] })
    (p q L : Int) (hx : a.eval x = .int .i64 p) (hy : a.eval y = .int .i64 q) (hL : (if p < q then q else p) = L)
    (h : K (a.put o.dst (.int .i64 L)) w) : Oper.wp Tryd.prog o a w K Q := by
  have hr := max_run p q o.type w
  rw [hL] at hr
  unfold Oper.wp execOp
  simp only [ho]
  generalize a.eval = ev at *
  simp [go_sem, hx, hy, hr]
  exact h

/-- Facts built of a set. -/
theorem build_one (x0 x1 x2 x3 : Int) (w : World) : (Instr.build 40 #[(1, .int .i64 1), (2, .int .i64 1), (3, .agg #[.int .u64 x0, .int .u64 x1, .int .u64 x2, .int .u64 x3])]).run Tryd.prog w = .ok (fxr false 1 1 x0 x1 x2 x3 false) w := by kernel_rfl
theorem build_fx (ls ms x0 x1 x2 x3 : Int) (w : World) : (Instr.build 40 #[(1, .int .i64 ls), (2, .int .i64 ms), (3, .agg #[.int .u64 x0, .int .u64 x1, .int .u64 x2, .int .u64 x3])]).run Tryd.prog w = .ok (fxr false ls ms x0 x1 x2 x3 false) w := by kernel_rfl
theorem build_nv (w : World) : (Instr.build 40 #[(0, .bool true)]).run Tryd.prog w = .ok (fxr true 0 0 0 0 0 0 false) w := by kernel_rfl
theorem build_zero (w : World) : (Instr.build 40 #[]).run Tryd.prog w = .ok (fxr false 0 0 0 0 0 0 false) w := by kernel_rfl
theorem wp_build_fx {o : Oper} {a : Act} {w : World} {K : Act → World → Prop} {Q : Exit → Act → World → Prop} (x y z : Operand) (ho : o.op = .build 40 #[(1, x), (2, y), (3, z)])
    (ls ms x0 x1 x2 x3 : Int) (hx : a.eval x = .int .i64 ls) (hy : a.eval y = .int .i64 ms) (hz : a.eval z = .agg #[.int .u64 x0, .int .u64 x1, .int .u64 x2, .int .u64 x3])
    (h : K (a.put o.dst (fxr false ls ms x0 x1 x2 x3 false)) w) : Oper.wp Tryd.prog o a w K Q := by
  have hb := build_fx ls ms x0 x1 x2 x3 w
  have hm : (#[(1, x), (2, y), (3, z)] : Array (Nat × Operand)).map (fun (i, v) => (i, a.eval v)) = #[(1, a.eval x), (2, a.eval y), (3, a.eval z)] := by simp
  unfold Oper.wp execOp
  simp only [ho]
  rw [hm, hx, hy, hz]
  simp only [Sem.run_bind, hb, Result.andThen_ok]
  exact h
theorem wpList_build_fx {ops : Array Oper} {rest : List Oper} {o : Oper} {a : Act} {w : World} {Q : Exit → Act → World → Prop} (hgd : o.guard = none) (x y z : Operand) (ho : o.op = .build 40 #[(1, x), (2, y), (3, z)])
    (ls ms x0 x1 x2 x3 : Int) (hx : a.eval x = .int .i64 ls) (hy : a.eval y = .int .i64 ms) (hz : a.eval z = .agg #[.int .u64 x0, .int .u64 x1, .int .u64 x2, .int .u64 x3])
    (h : wpList Tryd.prog ops Q rest (a.put o.dst (fxr false ls ms x0 x1 x2 x3 false)) w) : wpList Tryd.prog ops Q (o :: rest) a w :=
  wpList_plain hgd fun _ hK => wp_build_fx x y z ho ls ms x0 x1 x2 x3 hx hy hz (hK _ _ h)

theorem pop_none {f : Nat → Bool} {b n : Nat} : popTo f b n = 0 ↔ ∀ j, j < n → f (b + j) = false := by
  induction n with
  | zero => exact ⟨fun _ j hj => absurd hj (Nat.not_lt_zero _), fun _ => rfl⟩
  | succ n ih =>
    simp only [popTo]
    constructor
    · intro h j hj
      rcases Nat.lt_or_ge j n with h1 | h1
      · exact ih.1 (by omega) j h1
      · obtain rfl : j = n := by omega
        cases hc : f (b + j) with
        | false => rfl
        | true => rw [hc] at h; simp at h
    · intro h
      rw [ih.2 fun j hj => h j (by omega), h n (by omega)]
      rfl
/-- What a set tells. -/
def oneX (f : Nat → Bool) : Fx := if popTo f 0 256 = 0 then fxN else ⟨false, 1, 1, f⟩
theorem wd_zero7 {f : Nat → Bool} {i : Nat} (h : wd f i = 0) (j : Nat) (hj : j < 64) : f (64 * i + j) = false := by
  have := wd_testBit f i j
  rw [h, decide_eq_true hj, Nat.zero_testBit] at this
  simpa using this.symm
theorem oneX_leaf {x : Nd} (hk : x.k = 1) (hw : okW x) : oneX (fOf x) = leafX x := by
  unfold oneX leafX
  rw [if_pos hk]
  obtain ⟨e0, e1, e2, e3⟩ := fOf_wd hw
  by_cases h : x.a = 0 ∧ x.b = 0 ∧ x.c = 0 ∧ x.d = 0
  · rw [if_pos h, if_pos (pop_none.2 fun j _ => fOf_none h _)]
  · rw [if_neg h, if_neg]
    intro hp
    have hp := pop_none.1 hp
    apply h
    have z : ∀ i, i < 4 → wd (fOf x) i = 0 := fun i hi => word_none _ i fun j hj => by
      have := hp (64 * i + j) (by omega)
      rwa [Nat.zero_add] at this
    rw [e0, e1, e2, e3, z 0 (by decide), z 1 (by decide), z 2 (by decide), z 3 (by decide)]
    exact ⟨rfl, rfl, rfl, rfl⟩
theorem none_wd7 (i : Nat) : wd (fun _ => false) i = 0 := word_none _ i fun _ _ => rfl
theorem fxv_nv (e : Bool) : fxv fxN e = fxr true 0 0 0 0 0 0 e := by
  simp only [fxv, fxN, none_wd7]; rfl
theorem fxv_zero (e : Bool) : fxv fx0 e = fxr false 0 0 0 0 0 0 e := by
  simp only [fxv, fx0, none_wd7]; rfl

set_option maxRecDepth 100000 in
set_option maxHeartbeats 2000000 in
theorem coneof_any (f : Nat → Bool) (w : World) : Calls Tryd.prog 46 #[svr f] w fun e w' => e = .returned (fxv (oneX f) false) ∧ Below w.heap.size w w' := by
  have HC := Lib.hid (count_lit f)
  have HX : Hid (oneX f = if popTo f 0 256 = 0 then fxN else ⟨false, 1, 1, f⟩) := Lib.hid rfl
  obtain ⟨c, hc⟩ : ∃ c, popTo f 0 256 = c := ⟨_, rfl⟩
  rw [hc] at HC HX
  have w2 : Hid (∀ e, fxv ⟨false, 1, 1, f⟩ e = fxr false 1 1 (wd f 0 : Int) (wd f 1 : Int) (wd f 2 : Int) (wd f 3 : Int) e) := Lib.hid fun _ => rfl
  unfold svr at HC ⊢
  generalize oneX f = X at *
  obtain ⟨x0, e0⟩ : ∃ x, (wd f 0 : Int) = x := ⟨_, rfl⟩
  obtain ⟨x1, e1⟩ : ∃ x, (wd f 1 : Int) = x := ⟨_, rfl⟩
  obtain ⟨x2, e2⟩ : ∃ x, (wd f 2 : Int) = x := ⟨_, rfl⟩
  obtain ⟨x3, e3⟩ : ∃ x, (wd f 3 : Int) = x := ⟨_, rfl⟩
  rw [e0, e1, e2, e3] at HC w2 ⊢
  clear e0 e1 e2 e3 hc
  have E0 : Hid (isFx ((w.alloc (.cells #[.int .u64 x0, .int .u64 x1, .int .u64 x2, .int .u64 x3] 38)).alloc (.cells #[.bool false, .int .i64 0, .int .i64 0, .int .u64 0, .int .u64 0, .int .u64 0, .int .u64 0, .bool false] 40)) (w.heap.size + 1) false 0 0 0 0 0 0 false) := Lib.hid (by
    have := isFx.new (w.alloc (.cells #[.int .u64 x0, .int .u64 x1, .int .u64 x2, .int .u64 x3] 38)) false 0 0 0 0 0 0 false
    rwa [World.size_alloc] at this)
  have HA : Hid (Below w.heap.size w ((w.alloc (.cells #[.int .u64 x0, .int .u64 x1, .int .u64 x2, .int .u64 x3] 38)).alloc (.cells #[.bool false, .int .i64 0, .int .i64 0, .int .u64 0, .int .u64 0, .int .u64 0, .int .u64 0, .bool false] 40))) := Lib.hid (((Below.refl _ _).alloc (Nat.le_refl _) _).alloc (by simp) _)
  rcases Nat.eq_zero_or_pos c with h0 | h0
  · subst h0
    have HX2 : Hid (fxv X false = fxr true 0 0 0 0 0 0 false) := Lib.hid (by rw [HX.out, if_pos rfl, fxv_nv])
    clear HX w2
    go_enter Tryd.func46, Tryd.ntmps46
    go_wp2_with fail
    refine (HC.out _).mono ?_
    rintro e wk ⟨rfl, hb⟩
    have e1 := E0.out.below hb E0.out.lt
    have HK := Lib.hid (HA.out.trans (hb.mono HA.out.size))
    have HS := Lib.hid (below_set87 HK.out (show w.heap.size ≤ w.heap.size + 1 by omega) true 0 0 0 0 0 0 false)
    have Z := Lib.hid (e1.stored true 0 0 0 0 0 0 false).cells
    obtain ⟨q0, q1, q2, q3, q4, q5, q6, q7⟩ := e1.cells
    obtain ⟨r0, r1, r2, r3, r4, r5, r6, r7⟩ := e1.free
    have hsz := hb.size
    simp only [World.size_alloc] at hsz
    clear hb HC E0 HA e1 HK
    unfold set87 at Z HS
    go_wp2_with fail
    refine bodyPost_ret (v := fxr true 0 0 0 0 0 0 false) (by simp [results, Tryd.results46, go_sem, Z.out]) rfl ⟨by rw [HX2.out], HS.out⟩
  · have d1 : ((c : Int) == 0) = false := beq_eq_false_iff_ne.2 (by omega)
    have HX2 : Hid (fxv X false = fxr false 1 1 x0 x1 x2 x3 false) := Lib.hid (by rw [HX.out, if_neg (by omega), w2.out])
    clear HX w2
    go_enter Tryd.func46, Tryd.ntmps46
    go_wp2_with fail
    refine (HC.out _).mono ?_
    rintro e wk ⟨rfl, hb⟩
    have e1 := E0.out.below hb E0.out.lt
    have HK := Lib.hid (HA.out.trans (hb.mono HA.out.size))
    have HS := Lib.hid (below_set87 HK.out (show w.heap.size ≤ w.heap.size + 1 by omega) false 1 1 x0 x1 x2 x3 false)
    have Z := Lib.hid (e1.stored false 1 1 x0 x1 x2 x3 false).cells
    obtain ⟨q0, q1, q2, q3, q4, q5, q6, q7⟩ := e1.cells
    obtain ⟨r0, r1, r2, r3, r4, r5, r6, r7⟩ := e1.free
    obtain ⟨hc, -⟩ := w2of hb
    have s0 := hc w.heap.size 0 (by simp; omega)
    have s1 := hc w.heap.size 1 (by simp; omega)
    have s2 := hc w.heap.size 2 (by simp; omega)
    have s3 := hc w.heap.size 3 (by simp; omega)
    simp at s0 s1 s2 s3
    have hsz := hb.size
    simp only [World.size_alloc] at hsz
    clear hb HC E0 HA e1 HK hc
    unfold set87 at Z HS
    go_wp2_with (refine wpList_build_fx rfl _ _ _ rfl 1 1 x0 x1 x2 x3 rfl rfl rfl ?_)
    refine bodyPost_ret (v := fxr false 1 1 x0 x1 x2 x3 false) (by simp [results, Tryd.results46, go_sem, Z.out]) rfl ⟨by rw [HX2.out], HS.out⟩
end Go.Proofs.YtjbmkbgoahppfaaDoor

namespace Go.Proofs.YtjbmkbgoahppfaaDoor
open Go.RowKit

def bdX (a : Fx) : Prop := (0 ≤ a.ls ∧ a.ls ≤ 1048576) ∧ (-1 ≤ a.ms ∧ a.ms ≤ 1048576)
/-- Three facts' blocks ahead of what a call makes. -/
theorem behind_nv (an bn : Bool) (h : an = true ∨ bn = true) (als ams a0 a1 a2 a3 bls bms b0 b1 b2 b3 : Int) (ea eb : Bool) (w : World) :
    Calls Tryd.prog 47 #[fxr an als ams a0 a1 a2 a3 ea, fxr bn bls bms b0 b1 b2 b3 eb] w fun e w' => e = .returned (fxr true 0 0 0 0 0 0 false) ∧ Below w.heap.size w w' := by
  have HA : Hid (Below w.heap.size w (((w.alloc (.cells #[.bool an, .int .i64 als, .int .i64 ams, .int .u64 a0, .int .u64 a1, .int .u64 a2, .int .u64 a3, .bool ea] 40)).alloc (.cells #[.bool bn, .int .i64 bls, .int .i64 bms, .int .u64 b0, .int .u64 b1, .int .u64 b2, .int .u64 b3, .bool eb] 40)).alloc (.cells #[.bool false, .int .i64 0, .int .i64 0, .int .u64 0, .int .u64 0, .int .u64 0, .int .u64 0, .bool false] 40))) := Lib.hid ((((Below.refl _ _).alloc (Nat.le_refl _) _).alloc (by simp) _).alloc (by simp; omega) _)
  unfold fxr
  cases an with
  | true =>
    go_enter Tryd.func47, Tryd.ntmps47
    go_wp2_with fail
    go_returns
    exact ⟨rfl, by go_grown⟩
  | false =>
    obtain rfl : bn = true := by simpa using h
    go_enter Tryd.func47, Tryd.ntmps47
    go_wp2_with fail
    go_returns
    exact ⟨rfl, by go_grown⟩

end Go.Proofs.YtjbmkbgoahppfaaDoor

namespace Go.Proofs.YtjbmkbgoahppfaaDoor
open Go.RowKit

theorem either_nv (als ams a0 a1 a2 a3 : Int) (bn : Bool) (bls bms b0 b1 b2 b3 : Int) (ea eb : Bool) (w : World) :
    Calls Tryd.prog 48 #[fxr true als ams a0 a1 a2 a3 ea, fxr bn bls bms b0 b1 b2 b3 eb] w fun e w' => e = .returned (fxr bn bls bms b0 b1 b2 b3 eb) ∧ Below w.heap.size w w' := by
  unfold fxr
  go_enter Tryd.func48, Tryd.ntmps48
  go_wp2_with fail
  go_returns
  exact ⟨rfl, by go_grown⟩
theorem either_vn (als ams a0 a1 a2 a3 bls bms b0 b1 b2 b3 : Int) (ea eb : Bool) (w : World) :
    Calls Tryd.prog 48 #[fxr false als ams a0 a1 a2 a3 ea, fxr true bls bms b0 b1 b2 b3 eb] w fun e w' => e = .returned (fxr false als ams a0 a1 a2 a3 ea) ∧ Below w.heap.size w w' := by
  unfold fxr
  go_enter Tryd.func48, Tryd.ntmps48
  go_wp2_with fail
  go_returns
  exact ⟨rfl, by go_grown⟩
theorem again_zero (an : Bool) (als ams a0 a1 a2 a3 lo hi : Int) (ea : Bool) (w : World) (h : hi = 0 ∨ (lo = 0 ∧ an = true)) :
    Calls Tryd.prog 49 #[fxr an als ams a0 a1 a2 a3 ea, .int .i64 lo, .int .i64 hi] w fun e w' => e = .returned (fxr false 0 0 0 0 0 0 false) ∧ Below w.heap.size w w' := by
  unfold fxr
  by_cases h0 : hi = 0
  · subst h0
    go_enter Tryd.func49, Tryd.ntmps49
    go_wp2_with fail
    go_returns
    exact ⟨rfl, by go_grown⟩
  · obtain ⟨rfl, rfl⟩ : lo = 0 ∧ an = true := by rcases h with h | h; exact absurd h h0; exact h
    have d : (hi == 0) = false := beq_eq_false_iff_ne.2 h0
    clear h
    go_enter Tryd.func49, Tryd.ntmps49
    go_wp2_with fail
    go_returns
    exact ⟨rfl, by go_grown⟩
theorem again_nv (als ams a0 a1 a2 a3 lo hi : Int) (ea : Bool) (w : World) (d : (hi == 0) = false) (d2 : (lo == 0) = false) :
    Calls Tryd.prog 49 #[fxr true als ams a0 a1 a2 a3 ea, .int .i64 lo, .int .i64 hi] w fun e w' => e = .returned (fxr true 0 0 0 0 0 0 false) ∧ Below w.heap.size w w' := by
  unfold fxr
  go_enter Tryd.func49, Tryd.ntmps49
  go_wp2_with fail
  go_returns
  exact ⟨rfl, by go_grown⟩
/-- What a length may be. -/
def canX (nv : Bool) (ls ms n : Int) : Bool := !nv && decide (ls ≤ n) && (decide (ms < 0) || decide (n ≤ ms))
end Go.Proofs.YtjbmkbgoahppfaaDoor
