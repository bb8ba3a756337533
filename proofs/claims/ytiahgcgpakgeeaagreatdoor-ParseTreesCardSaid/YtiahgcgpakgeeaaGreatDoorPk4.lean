/-
  The walk of the fifth reference's part, given either.
-/
import Derived.Test.YtiahgcgpakgeeaaGreatDoorPk2
import Derived.StillTailTactics
namespace Go.Proofs.YtiahgcgpakgeeaaGreatDoor
open Go.RowKit

theorem build_set (x0 x1 x2 x3 : Int) (w : World) : (Instr.build 38 #[(0, .int .i64 1), (1, .agg #[.int .u64 x0, .int .u64 x1, .int .u64 x2, .int .u64 x3])]).run Tryz.prog w = .ok (.agg #[.int .i64 1, .int .u64 x0, .int .u64 x1, .int .u64 x2, .int .u64 x3, .int .i64 0, .int .i64 0]) w := by kernel_rfl
theorem build_rep (lo hi : Int) (w : World) : (Instr.build 38 #[(0, .int .i64 7), (2, .int .i64 lo), (3, .int .i64 hi)]).run Tryz.prog w = .ok (.agg #[.int .i64 7, .int .u64 0, .int .u64 0, .int .u64 0, .int .u64 0, .int .i64 lo, .int .i64 hi]) w := by kernel_rfl
theorem wpList_build_set {ops : Array Oper} {rest : List Oper} {o : Oper} {a : Act} {w : World} {Q : Exit → Act → World → Prop} (hgd : o.guard = none) (x y : Operand) (ho : o.op = .build 38 #[(0, x), (1, y)])
    (x0 x1 x2 x3 : Int) (hx : a.eval x = .int .i64 1) (hy : a.eval y = .agg #[.int .u64 x0, .int .u64 x1, .int .u64 x2, .int .u64 x3])
    (h : wpList Tryz.prog ops Q rest (a.put o.dst (.agg #[.int .i64 1, .int .u64 x0, .int .u64 x1, .int .u64 x2, .int .u64 x3, .int .i64 0, .int .i64 0])) w) : wpList Tryz.prog ops Q (o :: rest) a w :=
  wpList_plain hgd fun K hK => by
    have hb := build_set x0 x1 x2 x3 w
    have hm : (#[(0, x), (1, y)] : Array (Nat × Operand)).map (fun (i, v) => (i, a.eval v)) = #[(0, a.eval x), (1, a.eval y)] := by simp
    unfold Oper.wp execOp
    simp only [ho]
    rw [hm, hx, hy]
    simp only [Sem.run_bind, hb, Result.andThen_ok]
    exact hK _ _ h
theorem wpList_build_rep {ops : Array Oper} {rest : List Oper} {o : Oper} {a : Act} {w : World} {Q : Exit → Act → World → Prop} (hgd : o.guard = none) (x y z : Operand) (ho : o.op = .build 38 #[(0, x), (2, y), (3, z)])
    (lo hi : Int) (hx : a.eval x = .int .i64 7) (hy : a.eval y = .int .i64 lo) (hz : a.eval z = .int .i64 hi)
    (h : wpList Tryz.prog ops Q rest (a.put o.dst (.agg #[.int .i64 7, .int .u64 0, .int .u64 0, .int .u64 0, .int .u64 0, .int .i64 lo, .int .i64 hi])) w) : wpList Tryz.prog ops Q (o :: rest) a w :=
  wpList_plain hgd fun K hK => by
    have hb := build_rep lo hi w
    have hm : (#[(0, x), (2, y), (3, z)] : Array (Nat × Operand)).map (fun (i, v) => (i, a.eval v)) = #[(0, a.eval x), (2, a.eval y), (3, a.eval z)] := by simp
    unfold Oper.wp execOp
    simp only [ho]
    rw [hm, hx, hy, hz]
    simp only [Sem.run_bind, hb, Result.andThen_ok]
    exact hK _ _ h
def rpRel (T : Nat → Tn) (n : Nat) (R : List Nd × Nat) (w : World) (v x : Value) (wr : World) : Prop :=
  ∃ (i u : Nat) (acc : List Nd), x = .int .i64 (i : Int) ∧ i ≤ 2 * n + 1 ∧ acc.length ≤ 4 * n + i ∧ 1 ≤ acc.length ∧ wr.ownsRow w.heap.size 38 7 v acc.length (nds acc) ∧ Below w.heap.size w wr ∧ Hid (R = (acc ++ (repsL T n u i).1, (repsL T n u i).2) ∧ n + 1 ≤ u + i)

set_option maxRecDepth 100000 in
set_option maxHeartbeats 8000000 in
theorem part_of (T : Nat → Tn) (n m b off cap : Nat) (e : Nat → List Nd × Nat) (hn : n ≤ 1000) (hk : eOk n m e)
    (hE : ∀ a, m ≤ a → a ≤ n → ∀ w, rdTn w b off n T → Calls Tryz.prog 20 #[.slice (some ⟨b, off, none⟩) n cap, .int .i64 (a : Int)] w (ndPost (e a) w))
    (a : Nat) (h1 : m ≤ a + 1) (h2 : a < n) (w : World) (hr : rdTn w b off n T) :
    Calls Tryz.prog 52 #[.slice (some ⟨b, off, none⟩) n cap, .int .i64 (a : Int)] w (ndPost (partF T n e a) w) := by
  obtain ⟨R, hR⟩ : ∃ R, partF T n e a = R := ⟨_, rfl⟩
  rw [hR]
  have HEE := Lib.hid (hE (a + 1) h1 (by omega))
  have hbd := partB_bd (T := T) hk h1 h2
  obtain ⟨kk, hkk⟩ : ∃ kk, (T a).k = kk := ⟨_, rfl⟩
  have hat := (hr a h2).2
  have hbl := (hr a h2).1
  obtain ⟨p0, -, p2, p3, p4, p5, -, -⟩ := hat
  rw [hkk] at p0
  have a0 : (0 : Int) ≤ (a : Int) := by omega
  have a1 : (a : Int) < (n : Int) := by omega
  have ab : (a : Int) ≤ 1000 := by omega
  have HRD := Lib.hid hr
  have HR : Hid (∀ l i, partB T e a = (l, i) → R = (l ++ (repsL T n (n + 1) i).1, (repsL T n (n + 1) i).2)) := Lib.hid fun l i h => by rw [← hR]; unfold partF; rw [h]
  have HBD := Lib.hid hbd
  clear hR hE hr hk hbd
  by_cases k1 : kk = 1
  · subst k1
    have HB : Hid (partB T e a = ([ndSet (T a)], a + 1)) := Lib.hid (by unfold partB; rw [if_pos hkk])
    have HI : Hid (rpRel T n R w (.slice (some ⟨w.heap.size, 0, none⟩) 1 1) (.int .i64 ((a : Int) + 1)) (w.alloc (.cells #[.int .i64 1, .int .u64 (T a).a, .int .u64 (T a).b, .int .u64 (T a).c, .int .u64 (T a).d, .int .i64 0, .int .i64 0] 38))) :=
      Lib.hid ⟨a + 1, n + 1, [ndSet (T a)], by go_num, by omega, by simp; omega, by simp, lit_owns w w.heap.size (Nat.le_refl _) (ndSet (T a)), (Below.refl _ _).alloc (Nat.le_refl _) _, Lib.hid ⟨HR.out _ _ HB.out, by omega⟩⟩
    clear hkk HB HR HBD HEE
    go_enter Tryz.func52, Tryz.ntmps52
    go_wp2_with (refine wpList_build_set rfl _ _ rfl (T a).a (T a).b (T a).c (T a).d rfl rfl ?_)
    clear p0 p2 p3 p4 p5 hbl
    go_loopw [6, 7] (fun v x wr => rpRel T n R w v x wr) (fun _ x _ => 3000 - (intOf x).toNat)
    case atStart => exact HI.out
    case round =>
      obtain ⟨i, u, acc, rfl, q1, q2, q3, hown, hW, hh⟩ := hrel
      clear HI
      have hsz := hW.size
      have i0 : (0 : Int) ≤ (i : Int) := by omega
      have ib : (i : Int) ≤ 2001 := by omega
      by_cases hlt : i < n
      · have d0 : decide ((i : Int) < (n : Int)) = true := decide_eq_true (by omega)
        have ilt : (i : Int) < (n : Int) := by omega
        obtain ⟨c0, -, -, -, -, -, c6, c7⟩ := ((HRD.out.below hW) i hlt).2
        obtain ⟨kk, hkk⟩ : ∃ kk, (T i).k = kk := ⟨_, rfl⟩
        rw [hkk] at c0
        by_cases h5 : kk = 5
        · subst h5
          have HE : Hid (∃ u', R = ((acc ++ [ndRep (T i)]) ++ (repsL T n u' (i + 1)).1, (repsL T n u' (i + 1)).2) ∧ n + 1 ≤ u' + (i + 1)) := Lib.hid (by
            obtain ⟨x1, x2⟩ := hh.out
            obtain ⟨u', rfl⟩ : ∃ u', u = u' + 1 := ⟨u - 1, by omega⟩
            refine ⟨u', ?_, by omega⟩
            rw [x1]
            conv => lhs; unfold repsL
            rw [if_pos ⟨hlt, hkk⟩]
            simp)
          have HO := Lib.hid (show (wr.drew).ownsRow w.heap.size 38 7 _ acc.length (nds acc) from hown)
          have HW := Lib.hid (show Below w.heap.size w wr.drew from hW.drew)
          have hsz2 : w.heap.size ≤ wr.drew.heap.size := hsz
          have HBI := build_rep (T i).lo (T i).hi
          have HK := Lib.hid (show ∀ w', Below w.heap.size w w' → (w'.cell? ⟨b, off + i * 8 + 6, none⟩ = some (.int .i64 (T i).lo) ∧ w'.cell? ⟨b, off + i * 8 + 7, none⟩ = some (.int .i64 (T i).hi)) from fun w' hb => by
            obtain ⟨-, -, -, -, -, -, y6, y7⟩ := ((HRD.out.below hb) i hlt).2
            exact ⟨y6, y7⟩)
          clear hh hkk hW hown
          go_wp2_with fail
          go_region_held_law (fun w' => w'.cell? ⟨b, off + i * 8 + 6, none⟩ = some (.int .i64 (T i).lo) ∧ w'.cell? ⟨b, off + i * 8 + 7, none⟩ = some (.int .i64 (T i).hi))
            (first | with_reducible exact HK.out _ HW.out | with_reducible exact HK.out _ (HW.out.alloc hsz2 _) | exact HK.out _ HW4.out | go_keep)
            ((refine wp_append_nds _ _ rfl w.heap.size _ acc rfl (HO.out.alloc _) wr.heap.size 1 [ndRep (T i)] 1 rfl rfl (lit_nd wr.drew (ndRep (T i))) (by simp; omega) (by simp; omega) ?_; intro v4 w4 h4 hb4; have HW4 := Lib.hid ((HW.out.alloc hsz2 _).trans hb4); have HO4 := Lib.hid h4; clear h4 hb4))
          clear HO HW HK HBI
          go_wp2
          go_roundw
          case rel =>
            obtain ⟨u', y1, y2⟩ := HE.out
            exact ⟨i + 1, u', acc ++ [ndRep (T i)], by go_num, by omega, by simp; omega, by simp, HO4.out, HW4.out, Lib.hid ⟨y1, y2⟩⟩
          case measure => simp [intOf]; omega
        · have d5 : (kk == 5) = false := beq_eq_false_iff_ne.2 h5
          have HE : Hid (R = (acc, i)) := Lib.hid (by
            obtain ⟨x1, x2⟩ := hh.out
            obtain ⟨u', rfl⟩ : ∃ u', u = u' + 1 := ⟨u - 1, by omega⟩
            rw [x1]; unfold repsL; rw [if_neg (fun hc => h5 (by rw [← hkk]; exact hc.2))]; simp)
          have HW := Lib.hid hW
          have HO := Lib.hid hown
          clear hh hkk hW hown h5
          go_wp2
          go_ret2
          exact ndPost.mk acc i HE.out rfl HO.out HW.out
      · have d0 : decide ((i : Int) < (n : Int)) = false := decide_eq_false (by omega)
        have HE : Hid (R = (acc, i)) := Lib.hid (by
          obtain ⟨x1, x2⟩ := hh.out
          rw [x1]
          cases u with
          | zero => simp [repsL]
          | succ u => unfold repsL; rw [if_neg (fun hc => hlt hc.1)]; simp)
        have HW := Lib.hid hW
        have HO := Lib.hid hown
        clear hh hW hown
        go_wp2
        go_ret2
        exact ndPost.mk acc i HE.out rfl HO.out HW.out
  · have d1 : (kk == 1) = false := beq_eq_false_iff_ne.2 k1
    by_cases k6 : kk = 6
    · subst k6
      have HB : Hid (partB T e a = ([nd0 3], a + 1)) := Lib.hid (by unfold partB; rw [if_neg (by omega), if_pos (by omega)])
      have HI : Hid (rpRel T n R w (.slice (some ⟨w.heap.size, 0, none⟩) 1 1) (.int .i64 ((a : Int) + 1)) (w.alloc (.cells #[.int .i64 3, .int .u64 0, .int .u64 0, .int .u64 0, .int .u64 0, .int .i64 0, .int .i64 0] 38))) :=
        Lib.hid ⟨a + 1, n + 1, [nd0 3], by go_num, by omega, by simp; omega, by simp, lit_owns w w.heap.size (Nat.le_refl _) (nd0 3), (Below.refl _ _).alloc (Nat.le_refl _) _, Lib.hid ⟨HR.out _ _ HB.out, by omega⟩⟩
      clear hkk HB HR HBD HEE k1
      go_enter Tryz.func52, Tryz.ntmps52
      go_wp2_with fail
      clear p0 p2 p3 p4 p5 hbl
      go_loopw [6, 7] (fun v x wr => rpRel T n R w v x wr) (fun _ x _ => 3000 - (intOf x).toNat)
      case atStart => exact HI.out
      case round =>
        obtain ⟨i, u, acc, rfl, q1, q2, q3, hown, hW, hh⟩ := hrel
        clear HI
        have hsz := hW.size
        have i0 : (0 : Int) ≤ (i : Int) := by omega
        have ib : (i : Int) ≤ 2001 := by omega
        by_cases hlt : i < n
        · have d0 : decide ((i : Int) < (n : Int)) = true := decide_eq_true (by omega)
          have ilt : (i : Int) < (n : Int) := by omega
          obtain ⟨c0, -, -, -, -, -, c6, c7⟩ := ((HRD.out.below hW) i hlt).2
          obtain ⟨kk, hkk⟩ : ∃ kk, (T i).k = kk := ⟨_, rfl⟩
          rw [hkk] at c0
          by_cases h5 : kk = 5
          · subst h5
            have HE : Hid (∃ u', R = ((acc ++ [ndRep (T i)]) ++ (repsL T n u' (i + 1)).1, (repsL T n u' (i + 1)).2) ∧ n + 1 ≤ u' + (i + 1)) := Lib.hid (by
              obtain ⟨x1, x2⟩ := hh.out
              obtain ⟨u', rfl⟩ : ∃ u', u = u' + 1 := ⟨u - 1, by omega⟩
              refine ⟨u', ?_, by omega⟩
              rw [x1]
              conv => lhs; unfold repsL
              rw [if_pos ⟨hlt, hkk⟩]
              simp)
            have HO := Lib.hid (show (wr.drew).ownsRow w.heap.size 38 7 _ acc.length (nds acc) from hown)
            have HW := Lib.hid (show Below w.heap.size w wr.drew from hW.drew)
            have hsz2 : w.heap.size ≤ wr.drew.heap.size := hsz
            have HBI := build_rep (T i).lo (T i).hi
            have HK := Lib.hid (show ∀ w', Below w.heap.size w w' → (w'.cell? ⟨b, off + i * 8 + 6, none⟩ = some (.int .i64 (T i).lo) ∧ w'.cell? ⟨b, off + i * 8 + 7, none⟩ = some (.int .i64 (T i).hi)) from fun w' hb => by
              obtain ⟨-, -, -, -, -, -, y6, y7⟩ := ((HRD.out.below hb) i hlt).2
              exact ⟨y6, y7⟩)
            clear hh hkk hW hown
            go_wp2_with fail
            go_region_held_law (fun w' => w'.cell? ⟨b, off + i * 8 + 6, none⟩ = some (.int .i64 (T i).lo) ∧ w'.cell? ⟨b, off + i * 8 + 7, none⟩ = some (.int .i64 (T i).hi))
              (first | with_reducible exact HK.out _ HW.out | with_reducible exact HK.out _ (HW.out.alloc hsz2 _) | exact HK.out _ HW4.out | go_keep)
              ((refine wp_append_nds _ _ rfl w.heap.size _ acc rfl (HO.out.alloc _) wr.heap.size 1 [ndRep (T i)] 1 rfl rfl (lit_nd wr.drew (ndRep (T i))) (by simp; omega) (by simp; omega) ?_; intro v4 w4 h4 hb4; have HW4 := Lib.hid ((HW.out.alloc hsz2 _).trans hb4); have HO4 := Lib.hid h4; clear h4 hb4))
            clear HO HW HK HBI
            go_wp2
            go_roundw
            case rel =>
              obtain ⟨u', y1, y2⟩ := HE.out
              exact ⟨i + 1, u', acc ++ [ndRep (T i)], by go_num, by omega, by simp; omega, by simp, HO4.out, HW4.out, Lib.hid ⟨y1, y2⟩⟩
            case measure => simp [intOf]; omega
          · have d5 : (kk == 5) = false := beq_eq_false_iff_ne.2 h5
            have HE : Hid (R = (acc, i)) := Lib.hid (by
              obtain ⟨x1, x2⟩ := hh.out
              obtain ⟨u', rfl⟩ : ∃ u', u = u' + 1 := ⟨u - 1, by omega⟩
              rw [x1]; unfold repsL; rw [if_neg (fun hc => h5 (by rw [← hkk]; exact hc.2))]; simp)
            have HW := Lib.hid hW
            have HO := Lib.hid hown
            clear hh hkk hW hown h5
            go_wp2
            go_ret2
            exact ndPost.mk acc i HE.out rfl HO.out HW.out
        · have d0 : decide ((i : Int) < (n : Int)) = false := decide_eq_false (by omega)
          have HE : Hid (R = (acc, i)) := Lib.hid (by
            obtain ⟨x1, x2⟩ := hh.out
            rw [x1]
            cases u with
            | zero => simp [repsL]
            | succ u => unfold repsL; rw [if_neg (fun hc => hlt hc.1)]; simp)
          have HW := Lib.hid hW
          have HO := Lib.hid hown
          clear hh hW hown
          go_wp2
          go_ret2
          exact ndPost.mk acc i HE.out rfl HO.out HW.out
    have d6 : (kk == 6) = false := beq_eq_false_iff_ne.2 k6
    by_cases k7 : kk = 7
    · subst k7
      have HB : Hid (partB T e a = ([nd0 4], a + 1)) := Lib.hid (by unfold partB; rw [if_neg (by omega), if_neg (by omega), if_pos (by omega)])
      have HI : Hid (rpRel T n R w (.slice (some ⟨w.heap.size, 0, none⟩) 1 1) (.int .i64 ((a : Int) + 1)) (w.alloc (.cells #[.int .i64 4, .int .u64 0, .int .u64 0, .int .u64 0, .int .u64 0, .int .i64 0, .int .i64 0] 38))) :=
        Lib.hid ⟨a + 1, n + 1, [nd0 4], by go_num, by omega, by simp; omega, by simp, lit_owns w w.heap.size (Nat.le_refl _) (nd0 4), (Below.refl _ _).alloc (Nat.le_refl _) _, Lib.hid ⟨HR.out _ _ HB.out, by omega⟩⟩
      clear hkk HB HR HBD HEE k1
      go_enter Tryz.func52, Tryz.ntmps52
      go_wp2_with fail
      clear p0 p2 p3 p4 p5 hbl
      go_loopw [6, 7] (fun v x wr => rpRel T n R w v x wr) (fun _ x _ => 3000 - (intOf x).toNat)
      case atStart => exact HI.out
      case round =>
        obtain ⟨i, u, acc, rfl, q1, q2, q3, hown, hW, hh⟩ := hrel
        clear HI
        have hsz := hW.size
        have i0 : (0 : Int) ≤ (i : Int) := by omega
        have ib : (i : Int) ≤ 2001 := by omega
        by_cases hlt : i < n
        · have d0 : decide ((i : Int) < (n : Int)) = true := decide_eq_true (by omega)
          have ilt : (i : Int) < (n : Int) := by omega
          obtain ⟨c0, -, -, -, -, -, c6, c7⟩ := ((HRD.out.below hW) i hlt).2
          obtain ⟨kk, hkk⟩ : ∃ kk, (T i).k = kk := ⟨_, rfl⟩
          rw [hkk] at c0
          by_cases h5 : kk = 5
          · subst h5
            have HE : Hid (∃ u', R = ((acc ++ [ndRep (T i)]) ++ (repsL T n u' (i + 1)).1, (repsL T n u' (i + 1)).2) ∧ n + 1 ≤ u' + (i + 1)) := Lib.hid (by
              obtain ⟨x1, x2⟩ := hh.out
              obtain ⟨u', rfl⟩ : ∃ u', u = u' + 1 := ⟨u - 1, by omega⟩
              refine ⟨u', ?_, by omega⟩
              rw [x1]
              conv => lhs; unfold repsL
              rw [if_pos ⟨hlt, hkk⟩]
              simp)
            have HO := Lib.hid (show (wr.drew).ownsRow w.heap.size 38 7 _ acc.length (nds acc) from hown)
            have HW := Lib.hid (show Below w.heap.size w wr.drew from hW.drew)
            have hsz2 : w.heap.size ≤ wr.drew.heap.size := hsz
            have HBI := build_rep (T i).lo (T i).hi
            have HK := Lib.hid (show ∀ w', Below w.heap.size w w' → (w'.cell? ⟨b, off + i * 8 + 6, none⟩ = some (.int .i64 (T i).lo) ∧ w'.cell? ⟨b, off + i * 8 + 7, none⟩ = some (.int .i64 (T i).hi)) from fun w' hb => by
              obtain ⟨-, -, -, -, -, -, y6, y7⟩ := ((HRD.out.below hb) i hlt).2
              exact ⟨y6, y7⟩)
            clear hh hkk hW hown
            go_wp2_with fail
            go_region_held_law (fun w' => w'.cell? ⟨b, off + i * 8 + 6, none⟩ = some (.int .i64 (T i).lo) ∧ w'.cell? ⟨b, off + i * 8 + 7, none⟩ = some (.int .i64 (T i).hi))
              (first | with_reducible exact HK.out _ HW.out | with_reducible exact HK.out _ (HW.out.alloc hsz2 _) | exact HK.out _ HW4.out | go_keep)
              ((refine wp_append_nds _ _ rfl w.heap.size _ acc rfl (HO.out.alloc _) wr.heap.size 1 [ndRep (T i)] 1 rfl rfl (lit_nd wr.drew (ndRep (T i))) (by simp; omega) (by simp; omega) ?_; intro v4 w4 h4 hb4; have HW4 := Lib.hid ((HW.out.alloc hsz2 _).trans hb4); have HO4 := Lib.hid h4; clear h4 hb4))
            clear HO HW HK HBI
            go_wp2
            go_roundw
            case rel =>
              obtain ⟨u', y1, y2⟩ := HE.out
              exact ⟨i + 1, u', acc ++ [ndRep (T i)], by go_num, by omega, by simp; omega, by simp, HO4.out, HW4.out, Lib.hid ⟨y1, y2⟩⟩
            case measure => simp [intOf]; omega
          · have d5 : (kk == 5) = false := beq_eq_false_iff_ne.2 h5
            have HE : Hid (R = (acc, i)) := Lib.hid (by
              obtain ⟨x1, x2⟩ := hh.out
              obtain ⟨u', rfl⟩ : ∃ u', u = u' + 1 := ⟨u - 1, by omega⟩
              rw [x1]; unfold repsL; rw [if_neg (fun hc => h5 (by rw [← hkk]; exact hc.2))]; simp)
            have HW := Lib.hid hW
            have HO := Lib.hid hown
            clear hh hkk hW hown h5
            go_wp2
            go_ret2
            exact ndPost.mk acc i HE.out rfl HO.out HW.out
        · have d0 : decide ((i : Int) < (n : Int)) = false := decide_eq_false (by omega)
          have HE : Hid (R = (acc, i)) := Lib.hid (by
            obtain ⟨x1, x2⟩ := hh.out
            rw [x1]
            cases u with
            | zero => simp [repsL]
            | succ u => unfold repsL; rw [if_neg (fun hc => hlt hc.1)]; simp)
          have HW := Lib.hid hW
          have HO := Lib.hid hown
          clear hh hW hown
          go_wp2
          go_ret2
          exact ndPost.mk acc i HE.out rfl HO.out HW.out
    have d7 : (kk == 7) = false := beq_eq_false_iff_ne.2 k7
    have HB : Hid (partB T e a = ((e (a + 1)).1, (e (a + 1)).2 + 1)) := Lib.hid (by unfold partB; rw [if_neg (by omega), if_neg (by omega), if_neg (by omega)])
    have hb1 := HBD.out
    rw [HB.out] at hb1
    simp only at hb1
    obtain ⟨⟨l0, j0⟩, hl0⟩ : ∃ r, e (a + 1) = r := ⟨_, rfl⟩
    rw [hl0] at hb1
    simp only at hb1
    have hcast : ((a + 1 : Nat) : Int) = (a : Int) + 1 := by omega
    rw [hl0, hcast] at HEE
    have HR2 : Hid (R = (l0 ++ (repsL T n (n + 1) (j0 + 1)).1, (repsL T n (n + 1) (j0 + 1)).2)) := Lib.hid (by have := HR.out _ _ HB.out; rw [hl0] at this; exact this)
    have jb : (j0 : Int) ≤ 2001 := by omega
    have j00 : (0 : Int) ≤ (j0 : Int) := by omega
    clear hkk HB HR HBD k1 k6 k7 hl0 hcast
    go_enter Tryz.func52, Tryz.ntmps52
    go_wp2_with fail
    refine (HEE.out _ HRD.out).mono ?_
    rintro e1 w1 ⟨v1, rfl, ho1, hb⟩
    have HI : Hid (rpRel T n R w v1 (.int .i64 ((j0 : Int) + 1)) w1) := Lib.hid ⟨j0 + 1, n + 1, l0, by go_num, by omega, by omega, by omega, ho1, hb, Lib.hid ⟨HR2.out, by omega⟩⟩
    clear ho1 hb HEE HR2 p0 p2 p3 p4 p5 hbl hb1
    go_wp2_with fail
    go_loopw [6, 7] (fun v x wr => rpRel T n R w v x wr) (fun _ x _ => 3000 - (intOf x).toNat)
    case atStart => exact HI.out
    case round =>
      obtain ⟨i, u, acc, rfl, q1, q2, q3, hown, hW, hh⟩ := hrel
      clear HI
      have hsz := hW.size
      have i0 : (0 : Int) ≤ (i : Int) := by omega
      have ib : (i : Int) ≤ 2001 := by omega
      by_cases hlt : i < n
      · have d0 : decide ((i : Int) < (n : Int)) = true := decide_eq_true (by omega)
        have ilt : (i : Int) < (n : Int) := by omega
        obtain ⟨c0, -, -, -, -, -, c6, c7⟩ := ((HRD.out.below hW) i hlt).2
        obtain ⟨kk, hkk⟩ : ∃ kk, (T i).k = kk := ⟨_, rfl⟩
        rw [hkk] at c0
        by_cases h5 : kk = 5
        · subst h5
          have HE : Hid (∃ u', R = ((acc ++ [ndRep (T i)]) ++ (repsL T n u' (i + 1)).1, (repsL T n u' (i + 1)).2) ∧ n + 1 ≤ u' + (i + 1)) := Lib.hid (by
            obtain ⟨x1, x2⟩ := hh.out
            obtain ⟨u', rfl⟩ : ∃ u', u = u' + 1 := ⟨u - 1, by omega⟩
            refine ⟨u', ?_, by omega⟩
            rw [x1]
            conv => lhs; unfold repsL
            rw [if_pos ⟨hlt, hkk⟩]
            simp)
          have HO := Lib.hid (show (wr.drew).ownsRow w.heap.size 38 7 _ acc.length (nds acc) from hown)
          have HW := Lib.hid (show Below w.heap.size w wr.drew from hW.drew)
          have hsz2 : w.heap.size ≤ wr.drew.heap.size := hsz
          have HBI := build_rep (T i).lo (T i).hi
          have HK := Lib.hid (show ∀ w', Below w.heap.size w w' → (w'.cell? ⟨b, off + i * 8 + 6, none⟩ = some (.int .i64 (T i).lo) ∧ w'.cell? ⟨b, off + i * 8 + 7, none⟩ = some (.int .i64 (T i).hi)) from fun w' hb => by
            obtain ⟨-, -, -, -, -, -, y6, y7⟩ := ((HRD.out.below hb) i hlt).2
            exact ⟨y6, y7⟩)
          clear hh hkk hW hown
          go_wp2_with fail
          go_region_held_law (fun w' => w'.cell? ⟨b, off + i * 8 + 6, none⟩ = some (.int .i64 (T i).lo) ∧ w'.cell? ⟨b, off + i * 8 + 7, none⟩ = some (.int .i64 (T i).hi))
            (first | with_reducible exact HK.out _ HW.out | with_reducible exact HK.out _ (HW.out.alloc hsz2 _) | exact HK.out _ HW4.out | go_keep)
            ((refine wp_append_nds _ _ rfl w.heap.size _ acc rfl (HO.out.alloc _) wr.heap.size 1 [ndRep (T i)] 1 rfl rfl (lit_nd wr.drew (ndRep (T i))) (by simp; omega) (by simp; omega) ?_; intro v4 w4 h4 hb4; have HW4 := Lib.hid ((HW.out.alloc hsz2 _).trans hb4); have HO4 := Lib.hid h4; clear h4 hb4))
          clear HO HW HK HBI
          go_wp2
          go_roundw
          case rel =>
            obtain ⟨u', y1, y2⟩ := HE.out
            exact ⟨i + 1, u', acc ++ [ndRep (T i)], by go_num, by omega, by simp; omega, by simp, HO4.out, HW4.out, Lib.hid ⟨y1, y2⟩⟩
          case measure => simp [intOf]; omega
        · have d5 : (kk == 5) = false := beq_eq_false_iff_ne.2 h5
          have HE : Hid (R = (acc, i)) := Lib.hid (by
            obtain ⟨x1, x2⟩ := hh.out
            obtain ⟨u', rfl⟩ : ∃ u', u = u' + 1 := ⟨u - 1, by omega⟩
            rw [x1]; unfold repsL; rw [if_neg (fun hc => h5 (by rw [← hkk]; exact hc.2))]; simp)
          have HW := Lib.hid hW
          have HO := Lib.hid hown
          clear hh hkk hW hown h5
          go_wp2
          go_ret2
          exact ndPost.mk acc i HE.out rfl HO.out HW.out
      · have d0 : decide ((i : Int) < (n : Int)) = false := decide_eq_false (by omega)
        have HE : Hid (R = (acc, i)) := Lib.hid (by
          obtain ⟨x1, x2⟩ := hh.out
          rw [x1]
          cases u with
          | zero => simp [repsL]
          | succ u => unfold repsL; rw [if_neg (fun hc => hlt hc.1)]; simp)
        have HW := Lib.hid hW
        have HO := Lib.hid hown
        clear hh hW hown
        go_wp2
        go_ret2
        exact ndPost.mk acc i HE.out rfl HO.out HW.out
end Go.Proofs.YtiahgcgpakgeeaaGreatDoor
