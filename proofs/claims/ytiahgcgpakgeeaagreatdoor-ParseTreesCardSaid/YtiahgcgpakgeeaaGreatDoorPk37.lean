/-
  The walk of the third reference's Token. The walk of the third reference's Token, at what is no sign.
-/
import Derived.Test.YtiahgcgpakgeeaaGreatDoorPk33
import Derived.Test.YtiahgcgpakgeeaaGreatDoorPk35
import Derived.Deep.RegionWith
import Derived.Test.YtiahgcgpakgeeaaGreatDoorPk36
import Derived.Deep.Cut
namespace Go.Proofs.YtiahgcgpakgeeaaGreatDoor
open Go.RowKit

theorem rrange_one (z : Nat) (hz : z < 256) (w : World) : Calls Tryz.prog 21 #[.int .i64 (z : Int), .int .i64 (z : Int)] w fun e w' => e = .returned (sv (oneR z)) ∧ Below w.heap.size w w' := rrange_any z z hz hz w
theorem build_tk2 (k a : Int) (w : World) : (Instr.build 40 #[(0, .int .i64 k), (1, .int .i64 a)]).run Tryz.prog w = .ok (.agg #[.int .i64 k, .int .i64 a, .int .u64 0, .int .u64 0, .int .u64 0, .int .u64 0, .int .i64 0, .int .i64 0]) w := by kernel_rfl
theorem build_tk4 (k a lo hi : Int) (w : World) : (Instr.build 40 #[(0, .int .i64 k), (1, .int .i64 a), (3, .int .i64 lo), (4, .int .i64 hi)]).run Tryz.prog w = .ok (.agg #[.int .i64 k, .int .i64 a, .int .u64 0, .int .u64 0, .int .u64 0, .int .u64 0, .int .i64 lo, .int .i64 hi]) w := by kernel_rfl
theorem build_tkSA (k a x0 x1 x2 x3 : Int) (w : World) : (Instr.build 40 #[(0, .int .i64 k), (1, .int .i64 a), (2, .agg #[.int .u64 x0, .int .u64 x1, .int .u64 x2, .int .u64 x3])]).run Tryz.prog w = .ok (.agg #[.int .i64 k, .int .i64 a, .int .u64 x0, .int .u64 x1, .int .u64 x2, .int .u64 x3, .int .i64 0, .int .i64 0]) w := by kernel_rfl
theorem wpList_build_tk2 {ops : Array Oper} {rest : List Oper} {o : Oper} {a : Act} {w : World} {Q : Exit → Act → World → Prop} (hgd : o.guard = none) (x y : Operand) (ho : o.op = .build 40 #[(0, x), (1, y)])
    (k b : Int) (hx : a.eval x = .int .i64 k) (hy : a.eval y = .int .i64 b)
    (h : wpList Tryz.prog ops Q rest (a.put o.dst (.agg #[.int .i64 k, .int .i64 b, .int .u64 0, .int .u64 0, .int .u64 0, .int .u64 0, .int .i64 0, .int .i64 0])) w) : wpList Tryz.prog ops Q (o :: rest) a w :=
  wpList_plain hgd fun K hK => by
    have hb := build_tk2 k b w
    have hm : (#[(0, x), (1, y)] : Array (Nat × Operand)).map (fun (i, v) => (i, a.eval v)) = #[(0, a.eval x), (1, a.eval y)] := by simp
    unfold Oper.wp execOp
    simp only [ho]
    rw [hm, hx, hy]
    simp only [Sem.run_bind, hb, Result.andThen_ok]
    exact hK _ _ h
theorem wpList_build_tk4 {ops : Array Oper} {rest : List Oper} {o : Oper} {a : Act} {w : World} {Q : Exit → Act → World → Prop} (hgd : o.guard = none) (x y u v : Operand) (ho : o.op = .build 40 #[(0, x), (1, y), (3, u), (4, v)])
    (k b lo hi : Int) (hx : a.eval x = .int .i64 k) (hy : a.eval y = .int .i64 b) (hu : a.eval u = .int .i64 lo) (hv : a.eval v = .int .i64 hi)
    (h : wpList Tryz.prog ops Q rest (a.put o.dst (.agg #[.int .i64 k, .int .i64 b, .int .u64 0, .int .u64 0, .int .u64 0, .int .u64 0, .int .i64 lo, .int .i64 hi])) w) : wpList Tryz.prog ops Q (o :: rest) a w :=
  wpList_plain hgd fun K hK => by
    have hb := build_tk4 k b lo hi w
    have hm : (#[(0, x), (1, y), (3, u), (4, v)] : Array (Nat × Operand)).map (fun (i, v) => (i, a.eval v)) = #[(0, a.eval x), (1, a.eval y), (3, a.eval u), (4, a.eval v)] := by simp
    unfold Oper.wp execOp
    simp only [ho]
    rw [hm, hx, hy, hu, hv]
    simp only [Sem.run_bind, hb, Result.andThen_ok]
    exact hK _ _ h

/-- What Token answers. -/
def rtokPost (t : Option (Tk × Nat)) (k : Nat) (w : World) (e : Ending) (w' : World) : Prop :=
  (∀ r n, t = some (r, n) → e = .returned (.tuple #[tkv r.1 (k : Int) r.2.1 r.2.2.1 r.2.2.2, .int .i64 (n : Nat)])) ∧ (t = none → ∃ a b : Int, e = .returned (.tuple #[tkv a b (fun _ => false) 0 0, .int .i64 0])) ∧ Below w.heap.size w w'
theorem rtokPost.good {t : Option (Tk × Nat)} {k n : Nat} {w w' : World} {r : Tk} {v : Value} {x : Int} (h : t = some (r, n)) (hv : v = tkv r.1 (k : Int) r.2.1 r.2.2.1 r.2.2.2) (hx : x = (n : Nat)) (hb : Below w.heap.size w w') : rtokPost t k w (.returned (.tuple #[v, .int .i64 x])) w' := by
  subst h
  refine ⟨fun r' n' h => ?_, fun h => (by cases h), hb⟩
  obtain ⟨e1, e2⟩ := Prod.mk.inj (Option.some.inj h)
  rw [← e1, ← e2, hv, hx]
theorem rtokPost.bad {t : Option (Tk × Nat)} {k : Nat} {w w' : World} {v : Value} {a b : Int} (h : t = none) (hv : v = tkv a b (fun _ => false) 0 0) (hb : Below w.heap.size w w') : rtokPost t k w (.returned (.tuple #[v, .int .i64 0])) w' := by
  subst h
  exact ⟨fun r' n' h => (by cases h), fun _ => ⟨a, b, by rw [hv]⟩, hb⟩

set_option maxRecDepth 100000 in
set_option maxHeartbeats 1000000 in
theorem rtok_124 (p : ByteArray) (k : Nat) (hp : p.size ≤ 200) (hk : k < p.size) (h : gb p k = 124) (w : World) :
    Calls Tryz.prog 14 #[.string p, .int .i64 (k : Int)] w (rtokPost (tk p k) k w) := by
  have HS : Hid (tk p k = some ((2, (fun _ => false), 0, 0), k + 1)) := Lib.hid (by unfold tk; rw [show tkSign (gb p k) = some (2, 0, 0) by rw [h]; rfl])
  have g0 := gb_data1 hk h
  have gS0 : (({ data := #[124, 40, 41, 94, 36] } : ByteArray)[0]'(by decide)).toNat = 124 := rfl
  have gS1 : (({ data := #[124, 40, 41, 94, 36] } : ByteArray)[1]'(by decide)).toNat = 40 := rfl
  have gS2 : (({ data := #[124, 40, 41, 94, 36] } : ByteArray)[2]'(by decide)).toNat = 41 := rfl
  have gS3 : (({ data := #[124, 40, 41, 94, 36] } : ByteArray)[3]'(by decide)).toNat = 94 := rfl
  have gS4 : (({ data := #[124, 40, 41, 94, 36] } : ByteArray)[4]'(by decide)).toNat = 36 := rfl
  have E0 := Lib.hid (isTk.newNone w)
  clear h
  go_enter Tryz.func14, Tryz.ntmps14
  go_wp2_with fail
  refine wp_loop_rounds 1 ?_
  rw [rounds_succ]; go_wp2_with fail
  go_quiet (fail)
  go_upto_region 7 with (fail)
  have hW : Below w.heap.size w ((w.alloc (.cells #[.int .i64 0, .int .i64 0, .int .u64 0, .int .u64 0, .int .u64 0, .int .u64 0, .int .i64 0, .int .i64 0] 40)).alloc (.cells #[.int .i64 2, .int .i64 3, .int .i64 4, .int .i64 6, .int .i64 7] 3)) := ((Below.refl _ _).alloc (Nat.le_refl _) _).alloc (by simp) _
  have e0 := E0.out.alloc (.cells #[.int .i64 2, .int .i64 3, .int .i64 4, .int .i64 6, .int .i64 7] 3)
  have kz : ((w.alloc (.cells #[.int .i64 0, .int .i64 0, .int .u64 0, .int .u64 0, .int .u64 0, .int .u64 0, .int .i64 0, .int .i64 0] 40)).alloc (.cells #[.int .i64 2, .int .i64 3, .int .i64 4, .int .i64 6, .int .i64 7] 3)).cell? ⟨w.heap.size + 1, 0, none⟩ = some (.int .i64 2) := by simp [go_sem]
  generalize (w.alloc (.cells #[.int .i64 0, .int .i64 0, .int .u64 0, .int .u64 0, .int .u64 0, .int .u64 0, .int .i64 0, .int .i64 0] 40)).alloc (.cells #[.int .i64 2, .int .i64 3, .int .i64 4, .int .i64 6, .int .i64 7] 3) = W at *
  clear E0
  have HR9 := Lib.hid (fun n : Nat => below_set8 (below_drewN n hW) (Nat.le_refl _) 2 (k : Int) (fun _ => false) 0 0)
  unfold set8 at HR9
  simp only [none_wd, Int.ofNat_zero] at HR9
  have q := e0.cells
  simp only [none_wd] at q
  obtain ⟨y0, y1, y2, y3, y4, y5, y6, y7⟩ := q
  obtain ⟨r0, r1, r2, r3, r4, r5, r6, r7⟩ := e0.free
  clear e0 hW
  go_wp2_with (refine wpList_build_tk2 rfl _ _ rfl 2 (k : Int) rfl rfl ?_)
  refine bodyPost_ret (v := .tuple #[.agg #[.int .i64 (2), .int .i64 ((k : Int)), .int .u64 0, .int .u64 0, .int .u64 0, .int .u64 0, .int .i64 (0), .int .i64 (0)], .int .i64 ((k : Int) + 1)]) (by simp [results, Tryz.results14, go_sem, y0, y1, y2, y3, y4, y5, y6, y7]) rfl (rtokPost.good HS.out (by rw [tkv_none]) (by omega) (HR9.out _))

set_option maxRecDepth 100000 in
set_option maxHeartbeats 1000000 in
theorem rtok_40 (p : ByteArray) (k : Nat) (hp : p.size ≤ 200) (hk : k < p.size) (h : gb p k = 40) (w : World) :
    Calls Tryz.prog 14 #[.string p, .int .i64 (k : Int)] w (rtokPost (tk p k) k w) := by
  have HS : Hid (tk p k = some ((3, (fun _ => false), 0, 0), k + 1)) := Lib.hid (by unfold tk; rw [show tkSign (gb p k) = some (3, 0, 0) by rw [h]; rfl])
  have g0 := gb_data1 hk h
  have gS0 : (({ data := #[124, 40, 41, 94, 36] } : ByteArray)[0]'(by decide)).toNat = 124 := rfl
  have gS1 : (({ data := #[124, 40, 41, 94, 36] } : ByteArray)[1]'(by decide)).toNat = 40 := rfl
  have gS2 : (({ data := #[124, 40, 41, 94, 36] } : ByteArray)[2]'(by decide)).toNat = 41 := rfl
  have gS3 : (({ data := #[124, 40, 41, 94, 36] } : ByteArray)[3]'(by decide)).toNat = 94 := rfl
  have gS4 : (({ data := #[124, 40, 41, 94, 36] } : ByteArray)[4]'(by decide)).toNat = 36 := rfl
  have E0 := Lib.hid (isTk.newNone w)
  clear h
  go_enter Tryz.func14, Tryz.ntmps14
  go_wp2_with fail
  refine wp_loop_rounds 2 ?_
  iterate 1 (rw [rounds_succ]; go_wp2_with fail; go_quiet (fail); go_wp2_with fail)
  rw [rounds_succ]; go_wp2_with fail
  go_quiet (fail)
  go_upto_region 7 with (fail)
  have hW : Below w.heap.size w ((w.alloc (.cells #[.int .i64 0, .int .i64 0, .int .u64 0, .int .u64 0, .int .u64 0, .int .u64 0, .int .i64 0, .int .i64 0] 40)).alloc (.cells #[.int .i64 2, .int .i64 3, .int .i64 4, .int .i64 6, .int .i64 7] 3)) := ((Below.refl _ _).alloc (Nat.le_refl _) _).alloc (by simp) _
  have e0 := E0.out.alloc (.cells #[.int .i64 2, .int .i64 3, .int .i64 4, .int .i64 6, .int .i64 7] 3)
  have kz : ((w.alloc (.cells #[.int .i64 0, .int .i64 0, .int .u64 0, .int .u64 0, .int .u64 0, .int .u64 0, .int .i64 0, .int .i64 0] 40)).alloc (.cells #[.int .i64 2, .int .i64 3, .int .i64 4, .int .i64 6, .int .i64 7] 3)).cell? ⟨w.heap.size + 1, 1, none⟩ = some (.int .i64 3) := by simp [go_sem]
  generalize (w.alloc (.cells #[.int .i64 0, .int .i64 0, .int .u64 0, .int .u64 0, .int .u64 0, .int .u64 0, .int .i64 0, .int .i64 0] 40)).alloc (.cells #[.int .i64 2, .int .i64 3, .int .i64 4, .int .i64 6, .int .i64 7] 3) = W at *
  clear E0
  have HR9 := Lib.hid (fun n : Nat => below_set8 (below_drewN n hW) (Nat.le_refl _) 3 (k : Int) (fun _ => false) 0 0)
  unfold set8 at HR9
  simp only [none_wd, Int.ofNat_zero] at HR9
  have q := e0.cells
  simp only [none_wd] at q
  obtain ⟨y0, y1, y2, y3, y4, y5, y6, y7⟩ := q
  obtain ⟨r0, r1, r2, r3, r4, r5, r6, r7⟩ := e0.free
  clear e0 hW
  go_wp2_with (refine wpList_build_tk2 rfl _ _ rfl 3 (k : Int) rfl rfl ?_)
  refine bodyPost_ret (v := .tuple #[.agg #[.int .i64 (3), .int .i64 ((k : Int)), .int .u64 0, .int .u64 0, .int .u64 0, .int .u64 0, .int .i64 (0), .int .i64 (0)], .int .i64 ((k : Int) + 1)]) (by simp [results, Tryz.results14, go_sem, y0, y1, y2, y3, y4, y5, y6, y7]) rfl (rtokPost.good HS.out (by rw [tkv_none]) (by omega) (HR9.out _))

set_option maxRecDepth 100000 in
set_option maxHeartbeats 1000000 in
theorem rtok_41 (p : ByteArray) (k : Nat) (hp : p.size ≤ 200) (hk : k < p.size) (h : gb p k = 41) (w : World) :
    Calls Tryz.prog 14 #[.string p, .int .i64 (k : Int)] w (rtokPost (tk p k) k w) := by
  have HS : Hid (tk p k = some ((4, (fun _ => false), 0, 0), k + 1)) := Lib.hid (by unfold tk; rw [show tkSign (gb p k) = some (4, 0, 0) by rw [h]; rfl])
  have g0 := gb_data1 hk h
  have gS0 : (({ data := #[124, 40, 41, 94, 36] } : ByteArray)[0]'(by decide)).toNat = 124 := rfl
  have gS1 : (({ data := #[124, 40, 41, 94, 36] } : ByteArray)[1]'(by decide)).toNat = 40 := rfl
  have gS2 : (({ data := #[124, 40, 41, 94, 36] } : ByteArray)[2]'(by decide)).toNat = 41 := rfl
  have gS3 : (({ data := #[124, 40, 41, 94, 36] } : ByteArray)[3]'(by decide)).toNat = 94 := rfl
  have gS4 : (({ data := #[124, 40, 41, 94, 36] } : ByteArray)[4]'(by decide)).toNat = 36 := rfl
  have E0 := Lib.hid (isTk.newNone w)
  clear h
  go_enter Tryz.func14, Tryz.ntmps14
  go_wp2_with fail
  refine wp_loop_rounds 3 ?_
  iterate 2 (rw [rounds_succ]; go_wp2_with fail; go_quiet (fail); go_wp2_with fail)
  rw [rounds_succ]; go_wp2_with fail
  go_quiet (fail)
  go_upto_region 7 with (fail)
  have hW : Below w.heap.size w ((w.alloc (.cells #[.int .i64 0, .int .i64 0, .int .u64 0, .int .u64 0, .int .u64 0, .int .u64 0, .int .i64 0, .int .i64 0] 40)).alloc (.cells #[.int .i64 2, .int .i64 3, .int .i64 4, .int .i64 6, .int .i64 7] 3)) := ((Below.refl _ _).alloc (Nat.le_refl _) _).alloc (by simp) _
  have e0 := E0.out.alloc (.cells #[.int .i64 2, .int .i64 3, .int .i64 4, .int .i64 6, .int .i64 7] 3)
  have kz : ((w.alloc (.cells #[.int .i64 0, .int .i64 0, .int .u64 0, .int .u64 0, .int .u64 0, .int .u64 0, .int .i64 0, .int .i64 0] 40)).alloc (.cells #[.int .i64 2, .int .i64 3, .int .i64 4, .int .i64 6, .int .i64 7] 3)).cell? ⟨w.heap.size + 1, 2, none⟩ = some (.int .i64 4) := by simp [go_sem]
  generalize (w.alloc (.cells #[.int .i64 0, .int .i64 0, .int .u64 0, .int .u64 0, .int .u64 0, .int .u64 0, .int .i64 0, .int .i64 0] 40)).alloc (.cells #[.int .i64 2, .int .i64 3, .int .i64 4, .int .i64 6, .int .i64 7] 3) = W at *
  clear E0
  have HR9 := Lib.hid (fun n : Nat => below_set8 (below_drewN n hW) (Nat.le_refl _) 4 (k : Int) (fun _ => false) 0 0)
  unfold set8 at HR9
  simp only [none_wd, Int.ofNat_zero] at HR9
  have q := e0.cells
  simp only [none_wd] at q
  obtain ⟨y0, y1, y2, y3, y4, y5, y6, y7⟩ := q
  obtain ⟨r0, r1, r2, r3, r4, r5, r6, r7⟩ := e0.free
  clear e0 hW
  go_wp2_with (refine wpList_build_tk2 rfl _ _ rfl 4 (k : Int) rfl rfl ?_)
  refine bodyPost_ret (v := .tuple #[.agg #[.int .i64 (4), .int .i64 ((k : Int)), .int .u64 0, .int .u64 0, .int .u64 0, .int .u64 0, .int .i64 (0), .int .i64 (0)], .int .i64 ((k : Int) + 1)]) (by simp [results, Tryz.results14, go_sem, y0, y1, y2, y3, y4, y5, y6, y7]) rfl (rtokPost.good HS.out (by rw [tkv_none]) (by omega) (HR9.out _))

set_option maxRecDepth 100000 in
set_option maxHeartbeats 1000000 in
theorem rtok_94 (p : ByteArray) (k : Nat) (hp : p.size ≤ 200) (hk : k < p.size) (h : gb p k = 94) (w : World) :
    Calls Tryz.prog 14 #[.string p, .int .i64 (k : Int)] w (rtokPost (tk p k) k w) := by
  have HS : Hid (tk p k = some ((6, (fun _ => false), 0, 0), k + 1)) := Lib.hid (by unfold tk; rw [show tkSign (gb p k) = some (6, 0, 0) by rw [h]; rfl])
  have g0 := gb_data1 hk h
  have gS0 : (({ data := #[124, 40, 41, 94, 36] } : ByteArray)[0]'(by decide)).toNat = 124 := rfl
  have gS1 : (({ data := #[124, 40, 41, 94, 36] } : ByteArray)[1]'(by decide)).toNat = 40 := rfl
  have gS2 : (({ data := #[124, 40, 41, 94, 36] } : ByteArray)[2]'(by decide)).toNat = 41 := rfl
  have gS3 : (({ data := #[124, 40, 41, 94, 36] } : ByteArray)[3]'(by decide)).toNat = 94 := rfl
  have gS4 : (({ data := #[124, 40, 41, 94, 36] } : ByteArray)[4]'(by decide)).toNat = 36 := rfl
  have E0 := Lib.hid (isTk.newNone w)
  clear h
  go_enter Tryz.func14, Tryz.ntmps14
  go_wp2_with fail
  refine wp_loop_rounds 4 ?_
  iterate 3 (rw [rounds_succ]; go_wp2_with fail; go_quiet (fail); go_wp2_with fail)
  rw [rounds_succ]; go_wp2_with fail
  go_quiet (fail)
  go_upto_region 7 with (fail)
  have hW : Below w.heap.size w ((w.alloc (.cells #[.int .i64 0, .int .i64 0, .int .u64 0, .int .u64 0, .int .u64 0, .int .u64 0, .int .i64 0, .int .i64 0] 40)).alloc (.cells #[.int .i64 2, .int .i64 3, .int .i64 4, .int .i64 6, .int .i64 7] 3)) := ((Below.refl _ _).alloc (Nat.le_refl _) _).alloc (by simp) _
  have e0 := E0.out.alloc (.cells #[.int .i64 2, .int .i64 3, .int .i64 4, .int .i64 6, .int .i64 7] 3)
  have kz : ((w.alloc (.cells #[.int .i64 0, .int .i64 0, .int .u64 0, .int .u64 0, .int .u64 0, .int .u64 0, .int .i64 0, .int .i64 0] 40)).alloc (.cells #[.int .i64 2, .int .i64 3, .int .i64 4, .int .i64 6, .int .i64 7] 3)).cell? ⟨w.heap.size + 1, 3, none⟩ = some (.int .i64 6) := by simp [go_sem]
  generalize (w.alloc (.cells #[.int .i64 0, .int .i64 0, .int .u64 0, .int .u64 0, .int .u64 0, .int .u64 0, .int .i64 0, .int .i64 0] 40)).alloc (.cells #[.int .i64 2, .int .i64 3, .int .i64 4, .int .i64 6, .int .i64 7] 3) = W at *
  clear E0
  have HR9 := Lib.hid (fun n : Nat => below_set8 (below_drewN n hW) (Nat.le_refl _) 6 (k : Int) (fun _ => false) 0 0)
  unfold set8 at HR9
  simp only [none_wd, Int.ofNat_zero] at HR9
  have q := e0.cells
  simp only [none_wd] at q
  obtain ⟨y0, y1, y2, y3, y4, y5, y6, y7⟩ := q
  obtain ⟨r0, r1, r2, r3, r4, r5, r6, r7⟩ := e0.free
  clear e0 hW
  go_wp2_with (refine wpList_build_tk2 rfl _ _ rfl 6 (k : Int) rfl rfl ?_)
  refine bodyPost_ret (v := .tuple #[.agg #[.int .i64 (6), .int .i64 ((k : Int)), .int .u64 0, .int .u64 0, .int .u64 0, .int .u64 0, .int .i64 (0), .int .i64 (0)], .int .i64 ((k : Int) + 1)]) (by simp [results, Tryz.results14, go_sem, y0, y1, y2, y3, y4, y5, y6, y7]) rfl (rtokPost.good HS.out (by rw [tkv_none]) (by omega) (HR9.out _))

set_option maxRecDepth 100000 in
set_option maxHeartbeats 1000000 in
theorem rtok_36 (p : ByteArray) (k : Nat) (hp : p.size ≤ 200) (hk : k < p.size) (h : gb p k = 36) (w : World) :
    Calls Tryz.prog 14 #[.string p, .int .i64 (k : Int)] w (rtokPost (tk p k) k w) := by
  have HS : Hid (tk p k = some ((7, (fun _ => false), 0, 0), k + 1)) := Lib.hid (by unfold tk; rw [show tkSign (gb p k) = some (7, 0, 0) by rw [h]; rfl])
  have g0 := gb_data1 hk h
  have gS0 : (({ data := #[124, 40, 41, 94, 36] } : ByteArray)[0]'(by decide)).toNat = 124 := rfl
  have gS1 : (({ data := #[124, 40, 41, 94, 36] } : ByteArray)[1]'(by decide)).toNat = 40 := rfl
  have gS2 : (({ data := #[124, 40, 41, 94, 36] } : ByteArray)[2]'(by decide)).toNat = 41 := rfl
  have gS3 : (({ data := #[124, 40, 41, 94, 36] } : ByteArray)[3]'(by decide)).toNat = 94 := rfl
  have gS4 : (({ data := #[124, 40, 41, 94, 36] } : ByteArray)[4]'(by decide)).toNat = 36 := rfl
  have E0 := Lib.hid (isTk.newNone w)
  clear h
  go_enter Tryz.func14, Tryz.ntmps14
  go_wp2_with fail
  refine wp_loop_rounds 5 ?_
  iterate 4 (rw [rounds_succ]; go_wp2_with fail; go_quiet (fail); go_wp2_with fail)
  rw [rounds_succ]; go_wp2_with fail
  go_quiet (fail)
  go_upto_region 7 with (fail)
  have hW : Below w.heap.size w ((w.alloc (.cells #[.int .i64 0, .int .i64 0, .int .u64 0, .int .u64 0, .int .u64 0, .int .u64 0, .int .i64 0, .int .i64 0] 40)).alloc (.cells #[.int .i64 2, .int .i64 3, .int .i64 4, .int .i64 6, .int .i64 7] 3)) := ((Below.refl _ _).alloc (Nat.le_refl _) _).alloc (by simp) _
  have e0 := E0.out.alloc (.cells #[.int .i64 2, .int .i64 3, .int .i64 4, .int .i64 6, .int .i64 7] 3)
  have kz : ((w.alloc (.cells #[.int .i64 0, .int .i64 0, .int .u64 0, .int .u64 0, .int .u64 0, .int .u64 0, .int .i64 0, .int .i64 0] 40)).alloc (.cells #[.int .i64 2, .int .i64 3, .int .i64 4, .int .i64 6, .int .i64 7] 3)).cell? ⟨w.heap.size + 1, 4, none⟩ = some (.int .i64 7) := by simp [go_sem]
  generalize (w.alloc (.cells #[.int .i64 0, .int .i64 0, .int .u64 0, .int .u64 0, .int .u64 0, .int .u64 0, .int .i64 0, .int .i64 0] 40)).alloc (.cells #[.int .i64 2, .int .i64 3, .int .i64 4, .int .i64 6, .int .i64 7] 3) = W at *
  clear E0
  have HR9 := Lib.hid (fun n : Nat => below_set8 (below_drewN n hW) (Nat.le_refl _) 7 (k : Int) (fun _ => false) 0 0)
  unfold set8 at HR9
  simp only [none_wd, Int.ofNat_zero] at HR9
  have q := e0.cells
  simp only [none_wd] at q
  obtain ⟨y0, y1, y2, y3, y4, y5, y6, y7⟩ := q
  obtain ⟨r0, r1, r2, r3, r4, r5, r6, r7⟩ := e0.free
  clear e0 hW
  go_wp2_with (refine wpList_build_tk2 rfl _ _ rfl 7 (k : Int) rfl rfl ?_)
  refine bodyPost_ret (v := .tuple #[.agg #[.int .i64 (7), .int .i64 ((k : Int)), .int .u64 0, .int .u64 0, .int .u64 0, .int .u64 0, .int .i64 (0), .int .i64 (0)], .int .i64 ((k : Int) + 1)]) (by simp [results, Tryz.results14, go_sem, y0, y1, y2, y3, y4, y5, y6, y7]) rfl (rtokPost.good HS.out (by rw [tkv_none]) (by omega) (HR9.out _))

end Go.Proofs.YtiahgcgpakgeeaaGreatDoor

namespace Go.Proofs.YtiahgcgpakgeeaaGreatDoor
open Go.RowKit

theorem oft_zero {p : ByteArray} {k : Nat} (h : (oftF p k).2.2 = 0) : oftF p k = (0, 0, 0) := by
  rw [oft_eqk] at h ⊢
  split
  · rfl
  · rename_i h1
    rw [if_neg h1] at h
    split
    · rename_i h2; rw [if_pos h2] at h; simp at h
    · rename_i h2
      rw [if_neg h2] at h
      split
      · rfl
      · rename_i h3
        rw [if_neg h3] at h
        split
        · rename_i h4; rw [if_pos h4] at h; simp at h
        · rename_i h4
          rw [if_neg h4] at h
          split
          · rfl
          · rename_i h5; rw [if_neg h5] at h; simp at h

theorem dot_one : dotF = fun x => !oneR 10 x := by
  funext x
  unfold dotF oneR
  rw [← Bool.decide_and]
  exact congrArg _ (decide_eq_decide.2 (by omega))
theorem isIt.stored4 {w : World} {b : Nat} {f : Nat → Bool} {n : Int} {ok nm : Bool} (h : isIt w b f n ok nm) (g : Nat → Bool) : isIt ((((w.setCell ⟨b, 0, none⟩ (.int .u64 (wd g 0 : Int))).setCell ⟨b, 1, none⟩ (.int .u64 (wd g 1 : Int))).setCell ⟨b, 2, none⟩ (.int .u64 (wd g 2 : Int))).setCell ⟨b, 3, none⟩ (.int .u64 (wd g 3 : Int))) b g n ok nm := by
  have h1 := heap_setCell_same w b 0 _ _ (.int .u64 (wd g 0 : Int)) h
  have h2 := heap_setCell_same _ b 1 _ _ (.int .u64 (wd g 1 : Int)) h1
  have h3 := heap_setCell_same _ b 2 _ _ (.int .u64 (wd g 2 : Int)) h2
  have h4 := heap_setCell_same _ b 3 _ _ (.int .u64 (wd g 3 : Int)) h3
  unfold isIt
  rw [h4]
  simp

set_option maxRecDepth 100000 in
set_option maxHeartbeats 40000000 in
theorem rtok_gen (p : ByteArray) (k : Nat) (hp : p.size ≤ 200) (hk : k < p.size) (z : Nat) (hz : gb p k = z) (n1 : z ≠ 124) (n2 : z ≠ 40) (n3 : z ≠ 41) (n4 : z ≠ 94) (n5 : z ≠ 36)  (w : World) :
    Calls Tryz.prog 14 #[.string p, .int .i64 (k : Int)] w (rtokPost (tk p k) k w) := by
  have g0 := gb_data1 hk hz
  have bz : z < 256 := by rw [← hz]; exact gb_lt hk
  have c1 : ((124 : Int) == (z : Int)) = false := beq_eq_false_iff_ne.2 (by omega)
  have c2 : ((40 : Int) == (z : Int)) = false := beq_eq_false_iff_ne.2 (by omega)
  have c3 : ((41 : Int) == (z : Int)) = false := beq_eq_false_iff_ne.2 (by omega)
  have c4 : ((94 : Int) == (z : Int)) = false := beq_eq_false_iff_ne.2 (by omega)
  have c5 : ((36 : Int) == (z : Int)) = false := beq_eq_false_iff_ne.2 (by omega)
  have gS0 : (({ data := #[124, 40, 41, 94, 36] } : ByteArray)[0]'(by decide)).toNat = 124 := rfl
  have gS1 : (({ data := #[124, 40, 41, 94, 36] } : ByteArray)[1]'(by decide)).toNat = 40 := rfl
  have gS2 : (({ data := #[124, 40, 41, 94, 36] } : ByteArray)[2]'(by decide)).toNat = 41 := rfl
  have gS3 : (({ data := #[124, 40, 41, 94, 36] } : ByteArray)[3]'(by decide)).toNat = 94 := rfl
  have gS4 : (({ data := #[124, 40, 41, 94, 36] } : ByteArray)[4]'(by decide)).toNat = 36 := rfl
  have hwz := conv_u8 z bz
  have hwk : IntKind.i64.wrap ((k : Int) + 1) = (k : Int) + 1 := by rw [IntKind.wrap_i64]; omega
  have HBI := build_item
  have E0 := Lib.hid (isTk.newNone w)
  have HR := Lib.hid (show ∀ w, _ from rrange_one z bz)
  have HZ := Lib.hid hz
  have hs : tkSign z = if z = 42 then some (5, 0, -1) else if z = 43 then some (5, 1, -1) else if z = 63 then some (5, 0, 1) else none := by
    unfold tkSign
    rw [if_neg n1, if_neg n2, if_neg n3, if_neg n4, if_neg n5]
  have HS := Lib.hid hs
  clear hz n1 n2 n3 n4 n5 hs
  go_enter Tryz.func14, Tryz.ntmps14
  go_wp2_with fail
  refine wp_loop_rounds 6 ?_
  iterate 5 (rw [rounds_succ]; go_wp2_with fail; go_quiet (fail); go_wp2_with fail)
  rw [rounds_succ]; go_wp2_with fail
  clear c1 c2 c3 c4 c5 gS0 gS1 gS2 gS3 gS4
  have hW : Below w.heap.size w ((w.alloc (.cells #[.int .i64 0, .int .i64 0, .int .u64 0, .int .u64 0, .int .u64 0, .int .u64 0, .int .i64 0, .int .i64 0] 40)).alloc (.cells #[.int .i64 2, .int .i64 3, .int .i64 4, .int .i64 6, .int .i64 7] 3)) := ((Below.refl _ _).alloc (Nat.le_refl _) _).alloc (by simp) _
  have e0 := E0.out.alloc (.cells #[.int .i64 2, .int .i64 3, .int .i64 4, .int .i64 6, .int .i64 7] 3)
  have lW : w.heap.size < ((w.alloc (.cells #[.int .i64 0, .int .i64 0, .int .u64 0, .int .u64 0, .int .u64 0, .int .u64 0, .int .i64 0, .int .i64 0] 40)).alloc (.cells #[.int .i64 2, .int .i64 3, .int .i64 4, .int .i64 6, .int .i64 7] 3)).heap.size := by simp; omega
  generalize (w.alloc (.cells #[.int .i64 0, .int .i64 0, .int .u64 0, .int .u64 0, .int .u64 0, .int .u64 0, .int .i64 0, .int .i64 0] 40)).alloc (.cells #[.int .i64 2, .int .i64 3, .int .i64 4, .int .i64 6, .int .i64 7] 3) = W at *
  clear E0
  have E0 := Lib.hid e0; have HW := Lib.hid hW
  clear e0 hW
  go_cut [9] from 35 (fun s9 wx => ∃ b, s9 = .pointer (some ⟨b, 0, none⟩) ∧ isIt wx b (oneR z) ((k : Int) + 1) true false ∧ isTk wx w.heap.size 0 0 (fun _ => false) 0 0 ∧ Below w.heap.size w wx ∧ w.heap.size < b)
  case first =>
    go_region_with (first
      | (go_at_call 21; (with_reducible refine (HR.out _).mono ?_); rintro e wk ⟨rfl, hb⟩; have d1 := isIt.below (f := fun _ => false) (n := 0) (ok := false) (nm := false) (b := W.heap.size) (by exact isIt.newNone W) hb (by simp); have HB2 : Hid (Below W.heap.size W wk) := Lib.hid (((below_drewN _ (Below.refl W.heap.size W)).alloc (by simp) _).trans (hb.mono (by simp))); have D1 := Lib.hid d1; have q := d1.cells; simp only [none_wd] at q; obtain ⟨q0, q1, q2, q3, q4, q5, q6⟩ := q; obtain ⟨r0, r1, r2, r3, r4, r5, r6⟩ := d1.free; clear d1 hb)
      | (go_at_call 21; (with_reducible refine (HR.out _).mono ?_); rintro e wk ⟨rfl, hb⟩; have HB2 : Hid (Below W.heap.size W wk) := Lib.hid ((below_drewN _ (Below.refl W.heap.size W)).trans hb); clear hb))
    all_goals
      have t0 := E0.out.below HB2.out lW
      have hWk := HW.out.trans (HB2.out.mono HW.out.size)
      go_wp2_with fail
      go_meet
      first
        | (have D2 := D1; exact ⟨W.heap.size, rfl, D2.out.stored (oneR z) ((k : Int) + 1) true false, ((((((t0.other (by show w.heap.size ≠ W.heap.size; omega) _).other (by show w.heap.size ≠ W.heap.size; omega) _).other (by show w.heap.size ≠ W.heap.size; omega) _).other (by show w.heap.size ≠ W.heap.size; omega) _).other (by show w.heap.size ≠ W.heap.size; omega) _).other (by show w.heap.size ≠ W.heap.size; omega) _).other (by show w.heap.size ≠ W.heap.size; omega) _, below_set7 hWk (by omega) (oneR z) ((k : Int) + 1) true false, lW⟩)
        | exact ⟨wk.heap.size, rfl, isIt.new wk (oneR z) ((k : Int) + 1) true false, t0.alloc _, hWk.alloc hWk.size _, t0.lt⟩
  case rest =>
    obtain ⟨b, rfl, i0, e0, hW, lb⟩ := hcut
    clear HW E0 HR lW
    have hcs : z = 42 ∨ z = 43 ∨ z = 63 ∨ z = 123 ∨ z = 91 ∨ z = 92 ∨ z = 46 ∨ (z ≠ 42 ∧ z ≠ 43 ∧ z ≠ 63 ∧ z ≠ 123 ∧ z ≠ 91 ∧ z ≠ 92 ∧ z ≠ 46) := by omega
    clear hwz
    apply_assumption
    refine wp_seq_k fun K2 hK2 => ?_
    go_cut [] from 49 (fun wx => ∃ (F : Nat → Bool) (n : Nat) (ok nm : Bool), isIt wx b F (n : Int) ok nm ∧ isTk wx w.heap.size 0 0 (fun _ => false) 0 0 ∧ Below w.heap.size w wx ∧ Hid (tk p k = if ok = true then some ((1, F, 0, 0), n) else none))
    case first =>
      rcases hcs with hc | hc | hc | hc | hc | hc | hc | ⟨m42, m43, m63, m123, m91, m92, m46⟩
      · have x42 : ((z : Int) == 42) = true := beq_iff_eq.2 (by omega)
        have HT : Hid (tk p k = some ((5, (fun _ => false), 0, (-1)), k + 1)) := Lib.hid (by unfold tk; rw [HZ.out, show tkSign z = some (5, 0, (-1)) by rw [hc]; rfl])
        clear i0 hc HZ HS
        have HR9 := Lib.hid (below_set8 hW (Nat.le_refl _) 5 (k : Int) (fun _ => false) 0 (-1))
        unfold set8 at HR9
        simp only [none_wd, Int.ofNat_zero] at HR9
        have q := e0.cells
        simp only [none_wd] at q
        obtain ⟨y0, y1, y2, y3, y4, y5, y6, y7⟩ := q
        obtain ⟨r0, r1, r2, r3, r4, r5, r6, r7⟩ := e0.free
        clear e0 hW
        go_wp2_with (refine wpList_build_tk4 rfl _ _ _ _ rfl 5 (k : Int) 0 (-1) rfl rfl rfl rfl ?_)
        refine bodyPost_ret (v := .tuple #[.agg #[.int .i64 (5), .int .i64 ((k : Int)), .int .u64 0, .int .u64 0, .int .u64 0, .int .u64 0, .int .i64 (0), .int .i64 ((-1))], .int .i64 ((k : Int) + 1)]) (by simp [results, Tryz.results14, go_sem, y0, y1, y2, y3, y4, y5, y6, y7]) rfl (rtokPost.good HT.out (by rw [tkv_none]) (by omega) HR9.out)
      · have x42 : ((z : Int) == 42) = false := beq_eq_false_iff_ne.2 (by omega)
        have x43 : ((z : Int) == 43) = true := beq_iff_eq.2 (by omega)
        have HT : Hid (tk p k = some ((5, (fun _ => false), 1, (-1)), k + 1)) := Lib.hid (by unfold tk; rw [HZ.out, show tkSign z = some (5, 1, (-1)) by rw [hc]; rfl])
        clear i0 hc HZ HS
        have HR9 := Lib.hid (below_set8 hW (Nat.le_refl _) 5 (k : Int) (fun _ => false) 1 (-1))
        unfold set8 at HR9
        simp only [none_wd, Int.ofNat_zero] at HR9
        have q := e0.cells
        simp only [none_wd] at q
        obtain ⟨y0, y1, y2, y3, y4, y5, y6, y7⟩ := q
        obtain ⟨r0, r1, r2, r3, r4, r5, r6, r7⟩ := e0.free
        clear e0 hW
        go_wp2_with (refine wpList_build_tk4 rfl _ _ _ _ rfl 5 (k : Int) 1 (-1) rfl rfl rfl rfl ?_)
        refine bodyPost_ret (v := .tuple #[.agg #[.int .i64 (5), .int .i64 ((k : Int)), .int .u64 0, .int .u64 0, .int .u64 0, .int .u64 0, .int .i64 (1), .int .i64 ((-1))], .int .i64 ((k : Int) + 1)]) (by simp [results, Tryz.results14, go_sem, y0, y1, y2, y3, y4, y5, y6, y7]) rfl (rtokPost.good HT.out (by rw [tkv_none]) (by omega) HR9.out)
      · have x42 : ((z : Int) == 42) = false := beq_eq_false_iff_ne.2 (by omega)
        have x43 : ((z : Int) == 43) = false := beq_eq_false_iff_ne.2 (by omega)
        have x63 : ((z : Int) == 63) = true := beq_iff_eq.2 (by omega)
        have HT : Hid (tk p k = some ((5, (fun _ => false), 0, 1), k + 1)) := Lib.hid (by unfold tk; rw [HZ.out, show tkSign z = some (5, 0, 1) by rw [hc]; rfl])
        clear i0 hc HZ HS
        have HR9 := Lib.hid (below_set8 hW (Nat.le_refl _) 5 (k : Int) (fun _ => false) 0 1)
        unfold set8 at HR9
        simp only [none_wd, Int.ofNat_zero] at HR9
        have q := e0.cells
        simp only [none_wd] at q
        obtain ⟨y0, y1, y2, y3, y4, y5, y6, y7⟩ := q
        obtain ⟨r0, r1, r2, r3, r4, r5, r6, r7⟩ := e0.free
        clear e0 hW
        go_wp2_with (refine wpList_build_tk4 rfl _ _ _ _ rfl 5 (k : Int) 0 1 rfl rfl rfl rfl ?_)
        refine bodyPost_ret (v := .tuple #[.agg #[.int .i64 (5), .int .i64 ((k : Int)), .int .u64 0, .int .u64 0, .int .u64 0, .int .u64 0, .int .i64 (0), .int .i64 (1)], .int .i64 ((k : Int) + 1)]) (by simp [results, Tryz.results14, go_sem, y0, y1, y2, y3, y4, y5, y6, y7]) rfl (rtokPost.good HT.out (by rw [tkv_none]) (by omega) HR9.out)
      · have x42 : ((z : Int) == 42) = false := beq_eq_false_iff_ne.2 (by omega)
        have x43 : ((z : Int) == 43) = false := beq_eq_false_iff_ne.2 (by omega)
        have x63 : ((z : Int) == 63) = false := beq_eq_false_iff_ne.2 (by omega)
        have x123 : ((z : Int) == 123) = true := beq_iff_eq.2 (by omega)
        have HT : Hid (tk p k = if (oftF p k).2.2 = 0 then none else some ((5, (fun _ => false), (oftF p k).1, (oftF p k).2.1), (oftF p k).2.2)) := Lib.hid (by unfold tk; rw [HZ.out, show tkSign z = none by rw [hc]; rfl]; simp only; rw [if_pos hc])
        have hq := often_any p k
        unfold oftPost at hq
        have hz0 := oft_zero (p := p) (k := k)
        obtain ⟨⟨lo, hi, nx⟩, ho⟩ : ∃ x, oftF p k = x := ⟨_, rfl⟩
        rw [ho] at hq hz0
        have HO := Lib.hid ho
        have HQ := Lib.hid hq
        have HZ0 := Lib.hid hz0
        clear i0 hc HZ HS ho hq hz0
        go_wp2_with fail
        refine (HQ.out wc hp (by omega)).mono ?_
        rintro e wz ⟨rfl, rfl⟩
        have HR9 := Lib.hid (below_set8 hW (Nat.le_refl _) 5 (k : Int) (fun _ => false) lo hi)
        unfold set8 at HR9
        simp only [none_wd, Int.ofNat_zero] at HR9
        have q := e0.cells
        simp only [none_wd] at q
        obtain ⟨y0, y1, y2, y3, y4, y5, y6, y7⟩ := q
        obtain ⟨r0, r1, r2, r3, r4, r5, r6, r7⟩ := e0.free
        clear e0 hW
        go_wp2_with (refine wpList_build_tk4 rfl _ _ _ _ rfl 5 (k : Int) lo hi rfl rfl rfl rfl ?_)
        refine bodyPost_ret (v := .tuple #[.agg #[.int .i64 (5), .int .i64 ((k : Int)), .int .u64 0, .int .u64 0, .int .u64 0, .int .u64 0, .int .i64 (lo), .int .i64 (hi)], .int .i64 ((nx : Nat))]) (by simp [results, Tryz.results14, go_sem, y0, y1, y2, y3, y4, y5, y6, y7]) rfl (by
          by_cases hn : nx = 0
          · have e3 := HZ0.out hn
            obtain ⟨e4, e5⟩ := Prod.mk.inj e3
            obtain ⟨e6, e7⟩ := Prod.mk.inj e5
            subst e4 e6 e7
            exact rtokPost.bad (a := 5) (b := (k : Int)) (HT.out.trans (by rw [HO.out]; exact if_pos rfl)) (by rw [tkv_none]) HR9.out
          · exact rtokPost.good (HT.out.trans (by rw [HO.out]; exact if_neg hn)) (by rw [tkv_none]) rfl HR9.out)
      · have x42 : ((z : Int) == 42) = false := beq_eq_false_iff_ne.2 (by omega)
        have x43 : ((z : Int) == 43) = false := beq_eq_false_iff_ne.2 (by omega)
        have x63 : ((z : Int) == 63) = false := beq_eq_false_iff_ne.2 (by omega)
        have x123 : ((z : Int) == 123) = false := beq_eq_false_iff_ne.2 (by omega)
        have x91 : ((z : Int) == 91) = true := beq_iff_eq.2 (by omega)
        have HT : Hid (tk p k = if bkOk p k = true then some ((1, bkF p k, 0, 0), bkN p k) else none) := Lib.hid (by
          unfold tk
          rw [HZ.out, show tkSign z = none by rw [hc]; rfl]
          simp only
          rw [if_neg (by omega), if_pos hc]
          unfold bkF bkN bkOk
          cases brk p k <;> rfl)
        have hq := fun w => rbk_any p k w
        obtain ⟨F, eF⟩ : ∃ F, bkF p k = F := ⟨_, rfl⟩
        obtain ⟨n, eN⟩ : ∃ n, bkN p k = n := ⟨_, rfl⟩
        obtain ⟨ok, eO⟩ : ∃ ok, bkOk p k = ok := ⟨_, rfl⟩
        rw [eF, eN, eO] at hq HT
        have HQ := Lib.hid hq
        have I0 := Lib.hid i0; have E0 := Lib.hid e0; have HW := Lib.hid hW
        clear hc HZ HS eF eN eO hq i0 e0 hW
        go_wp2_with fail
        refine (HQ.out wc hp hk).mono ?_
        rintro e wz ⟨rfl, hb⟩
        have i1 := I0.out.below hb I0.out.lt
        have e1 := E0.out.below hb E0.out.lt
        have hW1 := HW.out.trans (hb.mono HW.out.size)
        have nb : w.heap.size ≠ b := by omega
        have I1 := Lib.hid (i1.stored F (n : Int) ok false)
        have E1 := Lib.hid ((((((((e1.other (by show w.heap.size ≠ b; omega) (.int .u64 (wd F 0 : Int)) : isTk (wz.setCell ⟨b, 0, none⟩ _) _ _ _ _ _ _).other (c := ⟨b, 1, none⟩) (by show w.heap.size ≠ b; omega) (.int .u64 (wd F 1 : Int))).other (c := ⟨b, 2, none⟩) (by show w.heap.size ≠ b; omega) (.int .u64 (wd F 2 : Int))).other (c := ⟨b, 3, none⟩) (by show w.heap.size ≠ b; omega) (.int .u64 (wd F 3 : Int))).other (c := ⟨b, 4, none⟩) (by show w.heap.size ≠ b; omega) (.int .i64 (n : Int))).other (c := ⟨b, 5, none⟩) (by show w.heap.size ≠ b; omega) (.bool ok)).other (c := ⟨b, 6, none⟩) (by show w.heap.size ≠ b; omega) (.bool false)))
        have W1 := Lib.hid (below_set7 (c := b) hW1 (by omega) F (n : Int) ok false)
        obtain ⟨q0, q1, q2, q3, q4, q5, q6⟩ := i1.cells
        obtain ⟨r0, r1, r2, r3, r4, r5, r6⟩ := i1.free
        clear i1 e1 hW1 I0 E0 HW HQ hb
        go_wp2_with fail
        go_meet
        exact ⟨F, n, ok, false, I1.out, E1.out, W1.out, HT⟩
      · have x42 : ((z : Int) == 42) = false := beq_eq_false_iff_ne.2 (by omega)
        have x43 : ((z : Int) == 43) = false := beq_eq_false_iff_ne.2 (by omega)
        have x63 : ((z : Int) == 63) = false := beq_eq_false_iff_ne.2 (by omega)
        have x123 : ((z : Int) == 123) = false := beq_eq_false_iff_ne.2 (by omega)
        have x91 : ((z : Int) == 91) = false := beq_eq_false_iff_ne.2 (by omega)
        have x92 : ((z : Int) == 92) = true := beq_iff_eq.2 (by omega)
        have HT : Hid (tk p k = if behOk p k = true then some ((1, behF p k, 0, 0), behN p k) else none) := Lib.hid (by
          unfold tk
          rw [HZ.out, show tkSign z = none by rw [hc]; rfl]
          simp only
          rw [if_neg (by omega), if_neg (by omega), if_pos hc])
        have hq := fun w => behind_any p k w
        obtain ⟨F, eF⟩ : ∃ F, behF p k = F := ⟨_, rfl⟩
        obtain ⟨n, eN⟩ : ∃ n, behN p k = n := ⟨_, rfl⟩
        obtain ⟨ok, eO⟩ : ∃ ok, behOk p k = ok := ⟨_, rfl⟩
        rw [eF, eN, eO] at hq HT
        have HQ := Lib.hid hq
        have I0 := Lib.hid i0; have E0 := Lib.hid e0; have HW := Lib.hid hW
        clear hc HZ HS eF eN eO hq i0 e0 hW
        go_wp2_with fail
        refine (HQ.out wc hp hk).mono ?_
        rintro e wz ⟨rfl, hb⟩
        have i1 := I0.out.below hb I0.out.lt
        have e1 := E0.out.below hb E0.out.lt
        have hW1 := HW.out.trans (hb.mono HW.out.size)
        have nb : w.heap.size ≠ b := by omega
        have I1 := Lib.hid (i1.stored F (n : Int) ok false)
        have E1 := Lib.hid ((((((((e1.other (by show w.heap.size ≠ b; omega) (.int .u64 (wd F 0 : Int)) : isTk (wz.setCell ⟨b, 0, none⟩ _) _ _ _ _ _ _).other (c := ⟨b, 1, none⟩) (by show w.heap.size ≠ b; omega) (.int .u64 (wd F 1 : Int))).other (c := ⟨b, 2, none⟩) (by show w.heap.size ≠ b; omega) (.int .u64 (wd F 2 : Int))).other (c := ⟨b, 3, none⟩) (by show w.heap.size ≠ b; omega) (.int .u64 (wd F 3 : Int))).other (c := ⟨b, 4, none⟩) (by show w.heap.size ≠ b; omega) (.int .i64 (n : Int))).other (c := ⟨b, 5, none⟩) (by show w.heap.size ≠ b; omega) (.bool ok)).other (c := ⟨b, 6, none⟩) (by show w.heap.size ≠ b; omega) (.bool false)))
        have W1 := Lib.hid (below_set7 (c := b) hW1 (by omega) F (n : Int) ok false)
        obtain ⟨q0, q1, q2, q3, q4, q5, q6⟩ := i1.cells
        obtain ⟨r0, r1, r2, r3, r4, r5, r6⟩ := i1.free
        clear i1 e1 hW1 I0 E0 HW HQ hb
        go_wp2_with fail
        go_meet
        exact ⟨F, n, ok, false, I1.out, E1.out, W1.out, HT⟩
      · have x42 : ((z : Int) == 42) = false := beq_eq_false_iff_ne.2 (by omega)
        have x43 : ((z : Int) == 43) = false := beq_eq_false_iff_ne.2 (by omega)
        have x63 : ((z : Int) == 63) = false := beq_eq_false_iff_ne.2 (by omega)
        have x123 : ((z : Int) == 123) = false := beq_eq_false_iff_ne.2 (by omega)
        have x91 : ((z : Int) == 91) = false := beq_eq_false_iff_ne.2 (by omega)
        have x92 : ((z : Int) == 92) = false := beq_eq_false_iff_ne.2 (by omega)
        have x46 : ((z : Int) == 46) = true := beq_iff_eq.2 (by omega)
        have HT : Hid (tk p k = if true = true then some ((1, dotF, 0, 0), k + 1) else none) := Lib.hid (by
          unfold tk
          rw [HZ.out, show tkSign z = none by rw [hc]; rfl]
          simp only
          rw [if_neg (by omega), if_neg (by omega), if_neg (by omega), if_pos hc, if_pos trivial])
        have HR10 := Lib.hid (show ∀ w, Calls Tryz.prog 21 #[.int .i64 10, .int .i64 10] w fun e w' => e = .returned (sv (oneR 10)) ∧ Below w.heap.size w w' from fun w => rrange_one 10 (by decide) w)
        obtain ⟨G, hG⟩ : ∃ G, dotF = G := ⟨_, rfl⟩
        rw [hG] at HT
        have HN10 := Lib.hid (show ∀ w, Calls Tryz.prog 25 #[sv (oneR 10)] w fun e w' => e = .returned (sv G) ∧ Below w.heap.size w w' from fun w => by rw [← hG, dot_one]; exact rnot_any (oneR 10) w)
        have I0 := Lib.hid i0; have E0 := Lib.hid e0; have HW := Lib.hid hW
        clear hc HZ HS hG i0 e0 hW
        go_wp2_with fail
        refine (HR10.out wc).mono ?_
        rintro e wz ⟨rfl, hb⟩
        have HB := Lib.hid hb
        clear hb
        go_wp2_with fail
        refine (HN10.out wz).mono ?_
        rintro e wy ⟨rfl, hb2⟩
        have hb := HB.out.trans (hb2.mono HB.out.size)
        have i1 := I0.out.below hb I0.out.lt
        have e1 := E0.out.below hb E0.out.lt
        have hW1 := HW.out.trans (hb.mono HW.out.size)
        have nb : w.heap.size ≠ b := by omega
        have I1 := Lib.hid (i1.stored4 G)
        have E1 := Lib.hid (((((e1.other (by show w.heap.size ≠ b; omega) (.int .u64 (wd G 0 : Int)) : isTk (wy.setCell ⟨b, 0, none⟩ _) _ _ _ _ _ _).other (c := ⟨b, 1, none⟩) (by show w.heap.size ≠ b; omega) (.int .u64 (wd G 1 : Int))).other (c := ⟨b, 2, none⟩) (by show w.heap.size ≠ b; omega) (.int .u64 (wd G 2 : Int))).other (c := ⟨b, 3, none⟩) (by show w.heap.size ≠ b; omega) (.int .u64 (wd G 3 : Int))))
        have W1 := Lib.hid (below_set4 (c := b) hW1 (by omega) (.int .u64 (wd G 0 : Int)) (.int .u64 (wd G 1 : Int)) (.int .u64 (wd G 2 : Int)) (.int .u64 (wd G 3 : Int)))
        obtain ⟨q0, q1, q2, q3, q4, q5, q6⟩ := i1.cells
        obtain ⟨r0, r1, r2, r3, r4, r5, r6⟩ := i1.free
        clear i1 e1 hW1 I0 E0 HW HB HR10 HN10 hb hb2
        go_wp2_with fail
        go_meet
        exact ⟨G, k + 1, true, false, by rw [show ((k + 1 : Nat) : Int) = (k : Int) + 1 by omega]; exact I1.out, E1.out, W1.out, HT⟩
      · have x42 : ((z : Int) == 42) = false := beq_eq_false_iff_ne.2 (by omega)
        have x43 : ((z : Int) == 43) = false := beq_eq_false_iff_ne.2 (by omega)
        have x63 : ((z : Int) == 63) = false := beq_eq_false_iff_ne.2 (by omega)
        have x123 : ((z : Int) == 123) = false := beq_eq_false_iff_ne.2 (by omega)
        have x91 : ((z : Int) == 91) = false := beq_eq_false_iff_ne.2 (by omega)
        have x92 : ((z : Int) == 92) = false := beq_eq_false_iff_ne.2 (by omega)
        have x46 : ((z : Int) == 46) = false := beq_eq_false_iff_ne.2 (by omega)
        have HT : Hid (tk p k = if true = true then some ((1, oneR z, 0, 0), k + 1) else none) := Lib.hid (by unfold tk; rw [HZ.out, show tkSign z = none by rw [HS.out, if_neg m42, if_neg m43, if_neg m63]]; simp only; rw [if_neg m123, if_neg m91, if_neg m92, if_neg m46, if_pos trivial])
        have I0 := Lib.hid i0; have E0 := Lib.hid e0; have HW := Lib.hid hW
        clear m42 m43 m63 m123 m91 m92 m46 HZ HS i0 e0 hW
        go_wp2_with fail
        go_meet
        exact ⟨oneR z, k + 1, true, false, by rw [show ((k + 1 : Nat) : Int) = (k : Int) + 1 by omega]; exact I0.out, E0.out, HW.out, HT⟩
    case rest =>
      obtain ⟨F, n, ok, nm, iX, eX, hWX, ht⟩ := hcut
      clear i0 e0 hW hcs HZ HS
      cases ok
      · have HT : Hid (tk p k = none) := Lib.hid (by rw [ht.out, if_neg (by decide)])
        clear ht
        obtain ⟨q0, q1, q2, q3, q4, q5, q6⟩ := iX.cells
        clear iX
        have e0 := eX; have hW := hWX
        clear eX hWX
        have HR9 := Lib.hid (below_set8 hW (Nat.le_refl _) 0 0 (fun _ => false) 0 0)
        unfold set8 at HR9
        simp only [none_wd, Int.ofNat_zero] at HR9
        have q := e0.cells
        simp only [none_wd] at q
        obtain ⟨y0, y1, y2, y3, y4, y5, y6, y7⟩ := q
        obtain ⟨r0, r1, r2, r3, r4, r5, r6, r7⟩ := e0.free
        clear e0 hW
        go_wp2
        refine bodyPost_ret (v := .tuple #[.agg #[.int .i64 (0), .int .i64 (0), .int .u64 0, .int .u64 0, .int .u64 0, .int .u64 0, .int .i64 (0), .int .i64 (0)], .int .i64 (0)]) (by simp [results, Tryz.results14, go_sem, y0, y1, y2, y3, y4, y5, y6, y7]) rfl (rtokPost.bad (a := 0) (b := 0) HT.out (by rw [tkv_none]) HR9.out)
      · have HT : Hid (tk p k = some ((1, F, 0, 0), n)) := Lib.hid (by rw [ht.out, if_pos rfl])
        clear ht
        have HBK := build_tkSA
        have h8 := below_set8 hWX (Nat.le_refl _) 1 (k : Int) F 0 0
        have z8 := (eX.stored 1 (k : Int) F 0 0).cells
        obtain ⟨y0, y1, y2, y3, y4, y5, y6, y7⟩ := eX.cells
        obtain ⟨r0, r1, r2, r3, r4, r5, r6, r7⟩ := eX.free
        obtain ⟨q0, q1, q2, q3, q4, q5, q6⟩ := iX.cells
        have hv : tkv 1 (k : Int) (F) 0 0 = .agg #[.int .i64 1, .int .i64 (k : Int), .int .u64 (wd F 0 : Int), .int .u64 (wd F 1 : Int), .int .u64 (wd F 2 : Int), .int .u64 (wd F 3 : Int), .int .i64 0, .int .i64 0] := rfl
        unfold set8 at h8 z8
        obtain ⟨x0, hx0⟩ : ∃ x : Int, (wd F 0 : Int) = x := ⟨_, rfl⟩
        obtain ⟨x1, hx1⟩ : ∃ x : Int, (wd F 1 : Int) = x := ⟨_, rfl⟩
        obtain ⟨x2, hx2⟩ : ∃ x : Int, (wd F 2 : Int) = x := ⟨_, rfl⟩
        obtain ⟨x3, hx3⟩ : ∃ x : Int, (wd F 3 : Int) = x := ⟨_, rfl⟩
        rw [hx0, hx1, hx2, hx3] at h8 z8 hv
        rw [hx0] at q0
        rw [hx1] at q1
        rw [hx2] at q2
        rw [hx3] at q3
        simp only [none_wd, Int.ofNat_zero] at y2 y3 y4 y5
        have HV := Lib.hid hv
        have HR9 := Lib.hid (show ∀ n : Nat, _ from fun n => below_drewN n h8)
        have Z9 := Lib.hid z8
        have nb : b ≠ w.heap.size := by omega
        clear eX hWX iX hx0 hx1 hx2 hx3 h8 z8 hv
        go_wp2_with fail
        go_region_with (fail)
        all_goals (go_wp2_with fail)
        all_goals (refine bodyPost_ret (v := .tuple #[.agg #[.int .i64 1, .int .i64 (k : Int), .int .u64 x0, .int .u64 x1, .int .u64 x2, .int .u64 x3, .int .i64 0, .int .i64 0], .int .i64 ((n : Nat))]) (by simp [results, Tryz.results14, go_sem, Z9.out]) rfl ?_)
        all_goals exact rtokPost.good HT.out HV.out.symm rfl (HR9.out _)
end Go.Proofs.YtiahgcgpakgeeaaGreatDoor
