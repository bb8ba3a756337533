/-
  The walk of the third reference's Behind.
  The walk of the second reference's Class, for any name.
-/
import Derived.Test.YtiahgcgpakgeeaaGreatDoorPk13
import Derived.Deep.Cut
import Derived.Test.YtiahgcgpakgeeaaGreatDoorPk12
namespace Go.Proofs.YtiahgcgpakgeeaaGreatDoor
open Go.RowKit

/-- The item that cannot be made, as it lies. -/
theorem itv_none : itv (fun _ => false) 0 false false = .agg #[.int .u64 0, .int .u64 0, .int .u64 0, .int .u64 0, .int .i64 0, .bool false, .bool false] := by
  simp only [itv, none_wd]; rfl
theorem conv_u8 (c : Nat) (h : c < 256) : IntKind.i64.wrap (c : Int) = (c : Int) := by rw [IntKind.wrap_i64]; omega
theorem below_set7z {B : Nat} {a w : World} {c : Nat} (h : Below B a w) (hc : B ≤ c) : Below B a
    (((((((w.setCell ⟨c, 0, none⟩ (.int .u64 0)).setCell ⟨c, 1, none⟩ (.int .u64 0)).setCell ⟨c, 2, none⟩ (.int .u64 0)).setCell ⟨c, 3, none⟩ (.int .u64 0)).setCell ⟨c, 4, none⟩ (.int .i64 0)).setCell ⟨c, 5, none⟩ (.bool false)).setCell ⟨c, 6, none⟩ (.bool false)) :=
  ((((((h.setCell hc _).setCell hc _).setCell hc _).setCell hc _).setCell hc _).setCell hc _).setCell hc _

set_option maxRecDepth 100000 in
set_option maxHeartbeats 1000000 in
theorem behind_end (p : ByteArray) (k : Nat) (w : World) (hp : p.size ≤ 200) (_hk : k < p.size) (h1 : p.size ≤ k + 1) :
    Calls Tryz.prog 24 #[.string p, .int .i64 (k : Int)] w fun e w' => e = .returned (itv (behF p k) (behN p k) (behOk p k) false) ∧ Below w.heap.size w w' := by
  have HF : Hid (behF p k = fun _ => false) := Lib.hid (by unfold behF; rw [if_pos h1])
  have HN : Hid (behN p k = 0) := Lib.hid (by unfold behN; rw [if_pos h1])
  have HO : Hid (behOk p k = false) := Lib.hid (by unfold behOk; rw [if_pos h1])
  have t1 : decide ((p.size : Int) ≤ (k : Int) + 1) = true := decide_eq_true (by omega)
  have E0 := Lib.hid (isIt.newNone w)
  have HW : Hid (Below w.heap.size w (w.alloc (.cells #[.int .u64 0, .int .u64 0, .int .u64 0, .int .u64 0, .int .i64 0, .bool false, .bool false] 61))) := Lib.hid ((Below.refl _ _).alloc (Nat.le_refl _) _)
  go_enter Tryz.func24, Tryz.ntmps24
  clear E0
  go_wp2
  refine bodyPost_ret (v := .agg #[.int .u64 0, .int .u64 0, .int .u64 0, .int .u64 0, .int .i64 0, .bool false, .bool false]) (by simp [results, Tryz.results24, go_sem]) rfl ⟨by rw [HF.out, HN.out, HO.out, itv_none], HW.out⟩

/-- An item of a set, a place and a bool, built. -/
theorem build_item (x0 x1 x2 x3 n : Int) (o : Bool) (w : World) : (Instr.build 61 #[(0, .agg #[.int .u64 x0, .int .u64 x1, .int .u64 x2, .int .u64 x3]), (1, .int .i64 n), (2, .bool o)]).run Tryz.prog w = .ok (.agg #[.int .u64 x0, .int .u64 x1, .int .u64 x2, .int .u64 x3, .int .i64 n, .bool o, .bool false]) w := by kernel_rfl
theorem wpList_build_item {ops : Array Oper} {rest : List Oper} {o : Oper} {a : Act} {w : World} {Q : Exit → Act → World → Prop} (hgd : o.guard = none) (x y z : Operand) (ho : o.op = .build 61 #[(0, x), (1, y), (2, z)])
    (x0 x1 x2 x3 n : Int) (b : Bool) (hx : a.eval x = .agg #[.int .u64 x0, .int .u64 x1, .int .u64 x2, .int .u64 x3]) (hy : a.eval y = .int .i64 n) (hz : a.eval z = .bool b)
    (h : wpList Tryz.prog ops Q rest (a.put o.dst (.agg #[.int .u64 x0, .int .u64 x1, .int .u64 x2, .int .u64 x3, .int .i64 n, .bool b, .bool false])) w) : wpList Tryz.prog ops Q (o :: rest) a w :=
  wpList_plain hgd fun K hK => by
    have hb := build_item x0 x1 x2 x3 n b w
    have hm : (#[(0, x), (1, y), (2, z)] : Array (Nat × Operand)).map (fun (i, v) => (i, a.eval v)) = #[(0, a.eval x), (1, a.eval y), (2, a.eval z)] := by simp
    unfold Oper.wp execOp
    simp only [ho]
    rw [hm, hx, hy, hz]
    simp only [Sem.run_bind, hb, Result.andThen_ok]
    exact hK _ _ h

theorem dig16_sym (c : Nat) (d : Int) (hc : c < 256) (h : dig16 c = d) (w : World) : Calls Tryz.prog 42 #[.int .u8 (c : Int)] w fun e w' => e = .returned (.int .i64 d) ∧ w' = w :=
  (dig16_eq c d hc h w).mono fun _ _ h => ⟨h.1, h.2.symm⟩
theorem resc_eq (a : Nat) (F : Nat → Bool) (o : Bool) (ha : a < 256) (hF : escF a = F) (ho : escOk a = o) (w : World) :
    Calls Tryz.prog 41 #[.int .i64 (a : Int)] w fun e w' => e = .returned (.tuple #[sv F, .bool o]) ∧ Below w.heap.size w w' := by
  subst hF ho
  exact resc_any a ha w

set_option maxRecDepth 100000 in
set_option maxHeartbeats 1000000 in
theorem behind_esc (p : ByteArray) (k : Nat) (w : World) (hp : p.size ≤ 200) (_hk : k < p.size) (h1 : k + 1 < p.size) (h2 : gb p (k + 1) ≠ 120) :
    Calls Tryz.prog 24 #[.string p, .int .i64 (k : Int)] w fun e w' => e = .returned (itv (behF p k) (behN p k) (behOk p k) false) ∧ Below w.heap.size w w' := by
  have t1 : decide ((p.size : Int) ≤ (k : Int) + 1) = false := decide_eq_false (by omega)
  have g1 := gb_in h1
  have g2 := gb_lt h1
  have HF0 : behF p k = escF (gb p (k + 1)) := by unfold behF; rw [if_neg (by omega), if_pos h2]
  have HN0 : behN p k = k + 2 := by unfold behN; rw [if_neg (by omega), if_pos h2]
  have HO0 : behOk p k = escOk (gb p (k + 1)) := by unfold behOk; rw [if_neg (by omega), if_pos h2]
  obtain ⟨a, ha⟩ : ∃ a, gb p (k + 1) = a := ⟨_, rfl⟩
  rw [ha] at g1 g2 HF0 HO0 h2
  obtain ⟨F, hFe⟩ : ∃ F, escF a = F := ⟨_, rfl⟩
  obtain ⟨o, hOe⟩ : ∃ o, escOk a = o := ⟨_, rfl⟩
  rw [hFe] at HF0
  rw [hOe] at HO0
  have HFe := Lib.hid hFe; have HOe := Lib.hid hOe
  clear hFe hOe
  have HF := Lib.hid HF0; have HN := Lib.hid HN0; have HO := Lib.hid HO0
  clear ha HF0 HN0 HO0
  have t2 : ((a : Int) != 120) = true := by simp; omega
  have hwr := conv_u8 a g2
  have E0 := Lib.hid (isIt.newNone w)
  have HW : Hid (Below w.heap.size w (w.alloc (.cells #[.int .u64 0, .int .u64 0, .int .u64 0, .int .u64 0, .int .i64 0, .bool false, .bool false] 61))) := Lib.hid ((Below.refl _ _).alloc (Nat.le_refl _) _)
  go_enter Tryz.func24, Tryz.ntmps24
  go_wp2_with fail
  refine (resc_eq a F o g2 HFe.out HOe.out _).mono ?_
  rintro e w1 ⟨rfl, hb⟩
  have e0 := (E0.out.below hb E0.out.lt).alloc (.cells #[.int .u64 (wd F 0 : Int), .int .u64 (wd F 1 : Int), .int .u64 (wd F 2 : Int), .int .u64 (wd F 3 : Int)] 36)
  have hW := (HW.out.trans (hb.mono HW.out.size)).alloc (Nat.le_trans HW.out.size hb.size) (.cells #[.int .u64 (wd F 0 : Int), .int .u64 (wd F 1 : Int), .int .u64 (wd F 2 : Int), .int .u64 (wd F 3 : Int)] 36)
  have s0 := isSet.new w1 F
  clear hb E0 HW
  go_upto_region 5 with (fail)
  generalize hg : w1.heap.size = B at *
  generalize w1.alloc (.cells #[.int .u64 (wd F 0 : Int), .int .u64 (wd F 1 : Int), .int .u64 (wd F 2 : Int), .int .u64 (wd F 3 : Int)] 36) = W at *
  have HR := Lib.hid (below_set7 hW (Nat.le_refl _) F ((k : Int) + 2) o false)
  have Z := Lib.hid (e0.stored F ((k : Int) + 2) o false).cells
  obtain ⟨q0, q1, q2, q3, q4, q5, q6⟩ := e0.cells
  obtain ⟨r0, r1, r2, r3, r4, r5, r6⟩ := e0.free
  obtain ⟨s0, s1, s2, s3⟩ := s0.cells
  clear e0 hW hg
  go_wp2_with (refine wpList_build_item rfl _ _ _ rfl (wd F 0 : Int) (wd F 1 : Int) (wd F 2 : Int) (wd F 3 : Int) ((k : Int) + 2) o rfl rfl rfl ?_)
  unfold set7 at Z HR
  refine bodyPost_ret (v := itv F (k + 2) o false) (by simp [results, Tryz.results24, go_sem, Z.out]) rfl ⟨by rw [HF.out, HN.out, HO.out], HR.out⟩

set_option maxRecDepth 100000 in
set_option maxHeartbeats 1000000 in
theorem behind_short (p : ByteArray) (k : Nat) (w : World) (hp : p.size ≤ 200) (_hk : k < p.size) (h1 : k + 1 < p.size) (h2 : gb p (k + 1) = 120) (h3 : p.size ≤ k + 3) :
    Calls Tryz.prog 24 #[.string p, .int .i64 (k : Int)] w fun e w' => e = .returned (itv (behF p k) (behN p k) (behOk p k) false) ∧ Below w.heap.size w w' := by
  have t1 : decide ((p.size : Int) ≤ (k : Int) + 1) = false := decide_eq_false (by omega)
  have g1 := gb_in h1
  rw [h2] at g1
  have hn : ¬ p.size ≤ k + 1 := by omega
  have hx : ¬ gb p (k + 1) ≠ 120 := fun h => h h2
  have HF : Hid (behF p k = fun _ => false) := Lib.hid (by unfold behF; rw [if_neg hn, if_neg hx, if_pos (.inl h3)])
  have HN : Hid (behN p k = 0) := Lib.hid (by unfold behN; rw [if_neg hn, if_neg hx, if_pos (.inl h3)])
  have HO : Hid (behOk p k = false) := Lib.hid (by unfold behOk; rw [if_neg hn, if_neg hx, if_pos (.inl h3)])
  have t3 : decide ((p.size : Int) ≤ (k : Int) + 3) = true := decide_eq_true (by omega)
  have H2 := Lib.hid h2
  clear hx hn h2
  have E0 := Lib.hid (isIt.newNone w)
  have HW : Hid (Below w.heap.size w (w.alloc (.cells #[.int .u64 0, .int .u64 0, .int .u64 0, .int .u64 0, .int .i64 0, .bool false, .bool false] 61))) := Lib.hid ((Below.refl _ _).alloc (Nat.le_refl _) _)
  go_enter Tryz.func24, Tryz.ntmps24
  clear E0
  go_wp2
  refine bodyPost_ret (v := .agg #[.int .u64 0, .int .u64 0, .int .u64 0, .int .u64 0, .int .i64 0, .bool false, .bool false]) (by simp [results, Tryz.results24, go_sem]) rfl ⟨by rw [HF.out, HN.out, HO.out, itv_none], HW.out⟩

set_option maxRecDepth 100000 in
set_option maxHeartbeats 1000000 in
theorem behind_bad2 (p : ByteArray) (k : Nat) (w : World) (hp : p.size ≤ 200) (_hk : k < p.size) (h1 : k + 1 < p.size) (h2 : gb p (k + 1) = 120) (h3 : k + 3 < p.size) (c : Nat) (hc : gb p (k + 2) = c) (d : Int) (hd : dig16 c = d) (h4 : d < 0) :
    Calls Tryz.prog 24 #[.string p, .int .i64 (k : Int)] w fun e w' => e = .returned (itv (behF p k) (behN p k) (behOk p k) false) ∧ Below w.heap.size w w' := by
  have t1 : decide ((p.size : Int) ≤ (k : Int) + 1) = false := decide_eq_false (by omega)
  have g1 := gb_in h1
  rw [h2] at g1
  have hn : ¬ p.size ≤ k + 1 := by omega
  have hx : ¬ gb p (k + 1) ≠ 120 := fun h => h h2
  have HF : Hid (behF p k = fun _ => false) := Lib.hid (by unfold behF; rw [if_neg hn, if_neg hx, if_pos (.inr (.inl (by rw [hc, hd]; exact h4)))])
  have HN : Hid (behN p k = 0) := Lib.hid (by unfold behN; rw [if_neg hn, if_neg hx, if_pos (.inr (.inl (by rw [hc, hd]; exact h4)))])
  have HO : Hid (behOk p k = false) := Lib.hid (by unfold behOk; rw [if_neg hn, if_neg hx, if_pos (.inr (.inl (by rw [hc, hd]; exact h4)))])
  have t3 : decide ((p.size : Int) ≤ (k : Int) + 3) = false := decide_eq_false (by omega)
  have H2 := Lib.hid h2
  have g2 := gb_in (show k + 2 < p.size by omega)
  have b2 := gb_lt (show k + 2 < p.size by omega)
  rw [hc] at g2 b2
  have t4 : decide (d < 0) = true := decide_eq_true h4
  have HD := Lib.hid hd; have HC := Lib.hid hc
  clear hx hn h2 hd hc
  have E0 := Lib.hid (isIt.newNone w)
  have HW : Hid (Below w.heap.size w (w.alloc (.cells #[.int .u64 0, .int .u64 0, .int .u64 0, .int .u64 0, .int .i64 0, .bool false, .bool false] 61))) := Lib.hid ((Below.refl _ _).alloc (Nat.le_refl _) _)
  go_enter Tryz.func24, Tryz.ntmps24
  clear E0
  go_wp2_with (go_at_call 42; (with_reducible refine (dig16_eq c _ b2 HD.out _).mono ?_); rintro e wc ⟨rfl, rfl⟩)
  refine bodyPost_ret (v := .agg #[.int .u64 0, .int .u64 0, .int .u64 0, .int .u64 0, .int .i64 0, .bool false, .bool false]) (by simp [results, Tryz.results24, go_sem]) rfl ⟨by rw [HF.out, HN.out, HO.out, itv_none], HW.out⟩

set_option maxRecDepth 100000 in
set_option maxHeartbeats 1000000 in
theorem behind_bad3 (p : ByteArray) (k : Nat) (w : World) (hp : p.size ≤ 200) (_hk : k < p.size) (h1 : k + 1 < p.size) (h2 : gb p (k + 1) = 120) (h3 : k + 3 < p.size) (c : Nat) (hc : gb p (k + 2) = c) (d : Int) (hd : dig16 c = d) (h4 : 0 ≤ d) (c' : Nat) (hc' : gb p (k + 3) = c') (d' : Int) (hd' : dig16 c' = d') (h5 : d' < 0) :
    Calls Tryz.prog 24 #[.string p, .int .i64 (k : Int)] w fun e w' => e = .returned (itv (behF p k) (behN p k) (behOk p k) false) ∧ Below w.heap.size w w' := by
  have t1 : decide ((p.size : Int) ≤ (k : Int) + 1) = false := decide_eq_false (by omega)
  have g1 := gb_in h1
  rw [h2] at g1
  have hn : ¬ p.size ≤ k + 1 := by omega
  have hx : ¬ gb p (k + 1) ≠ 120 := fun h => h h2
  have HF : Hid (behF p k = fun _ => false) := Lib.hid (by unfold behF; rw [if_neg hn, if_neg hx, if_pos (.inr (.inr (by rw [hc', hd']; exact h5)))])
  have HN : Hid (behN p k = 0) := Lib.hid (by unfold behN; rw [if_neg hn, if_neg hx, if_pos (.inr (.inr (by rw [hc', hd']; exact h5)))])
  have HO : Hid (behOk p k = false) := Lib.hid (by unfold behOk; rw [if_neg hn, if_neg hx, if_pos (.inr (.inr (by rw [hc', hd']; exact h5)))])
  have t3 : decide ((p.size : Int) ≤ (k : Int) + 3) = false := decide_eq_false (by omega)
  have H2 := Lib.hid h2
  have g2 := gb_in (show k + 2 < p.size by omega)
  have b2 := gb_lt (show k + 2 < p.size by omega)
  have g3 := gb_in (show k + 3 < p.size by omega)
  have b3 := gb_lt (show k + 3 < p.size by omega)
  rw [hc] at g2 b2
  rw [hc'] at g3 b3
  have t4 : decide (d < 0) = false := decide_eq_false (by omega)
  have t5 : decide (d' < 0) = true := decide_eq_true h5
  have HD := Lib.hid hd; have HC := Lib.hid hc; have HD' := Lib.hid hd'; have HC' := Lib.hid hc'
  clear hx hn h2 hd hc hd' hc'
  have E0 := Lib.hid (isIt.newNone w)
  have HW : Hid (Below w.heap.size w (w.alloc (.cells #[.int .u64 0, .int .u64 0, .int .u64 0, .int .u64 0, .int .i64 0, .bool false, .bool false] 61))) := Lib.hid ((Below.refl _ _).alloc (Nat.le_refl _) _)
  go_enter Tryz.func24, Tryz.ntmps24
  clear E0
  go_wp2_with (first | (go_at_call 42; (with_reducible refine (dig16_eq c _ b2 HD.out _).mono ?_); rintro e wc ⟨rfl, rfl⟩) | (go_at_call 42; (with_reducible refine (dig16_eq c' _ b3 HD'.out _).mono ?_); rintro e wc ⟨rfl, rfl⟩))
  refine bodyPost_ret (v := .agg #[.int .u64 0, .int .u64 0, .int .u64 0, .int .u64 0, .int .i64 0, .bool false, .bool false]) (by simp [results, Tryz.results24, go_sem]) rfl ⟨by rw [HF.out, HN.out, HO.out, itv_none], HW.out⟩

set_option maxRecDepth 100000 in
set_option maxHeartbeats 1000000 in
theorem behind_hex (p : ByteArray) (k : Nat) (w : World) (hp : p.size ≤ 200) (_hk : k < p.size) (h1 : k + 1 < p.size) (h2 : gb p (k + 1) = 120) (h3 : k + 3 < p.size) (c : Nat) (hc : gb p (k + 2) = c) (d : Int) (hd : dig16 c = d) (h4 : 0 ≤ d) (c' : Nat) (hc' : gb p (k + 3) = c') (d' : Int) (hd' : dig16 c' = d') (h5 : 0 ≤ d') :
    Calls Tryz.prog 24 #[.string p, .int .i64 (k : Int)] w fun e w' => e = .returned (itv (behF p k) (behN p k) (behOk p k) false) ∧ Below w.heap.size w w' := by
  have t1 : decide ((p.size : Int) ≤ (k : Int) + 1) = false := decide_eq_false (by omega)
  have g1 := gb_in h1
  rw [h2] at g1
  have hn : ¬ p.size ≤ k + 1 := by omega
  have hx : ¬ gb p (k + 1) ≠ 120 := fun h => h h2
  have t3 : decide ((p.size : Int) ≤ (k : Int) + 3) = false := decide_eq_false (by omega)
  have H2 := Lib.hid h2
  have g2 := gb_in (show k + 2 < p.size by omega)
  have b2 := gb_lt (show k + 2 < p.size by omega)
  have g3 := gb_in (show k + 3 < p.size by omega)
  have b3 := gb_lt (show k + 3 < p.size by omega)
  have hor : ¬ (p.size ≤ k + 3 ∨ dig16 (gb p (k + 2)) < 0 ∨ dig16 (gb p (k + 3)) < 0) := by rw [hc, hd, hc', hd']; omega
  have u1 := dig16_bd c
  have u2 := dig16_bd c'
  rw [hd] at u1; rw [hd'] at u2
  obtain ⟨z, hz⟩ : ∃ z : Nat, d * 16 + d' = (z : Int) := ⟨(d * 16 + d').toNat, by omega⟩
  have zl : z < 256 := by omega
  have HF : Hid (behF p k = oneR z) := Lib.hid (by unfold behF; rw [if_neg hn, if_neg hx, if_neg hor, hc, hd, hc', hd', hz, Int.toNat_natCast])
  have HN : Hid (behN p k = k + 4) := Lib.hid (by unfold behN; rw [if_neg hn, if_neg hx, if_neg hor])
  have HO : Hid (behOk p k = true) := Lib.hid (by unfold behOk; rw [if_neg hn, if_neg hx, if_neg hor])
  rw [hc] at g2 b2
  rw [hc'] at g3 b3
  have t4 : decide (d < 0) = false := decide_eq_false (by omega)
  have t5 : decide (d' < 0) = false := decide_eq_false (by omega)
  have HD := Lib.hid hd; have HC := Lib.hid hc; have HD' := Lib.hid hd'; have HC' := Lib.hid hc'
  have w1 : IntKind.i64.wrap (d * 16) = d * 16 := by rw [IntKind.wrap_i64]; omega
  have w2 : IntKind.i64.wrap (d * 16 + d') = (z : Int) := by rw [IntKind.wrap_i64]; omega
  have w3 : IntKind.i64.wrap ((k : Int) + 2) = (k : Int) + 2 := by rw [IntKind.wrap_i64]; omega
  have w4 : IntKind.i64.wrap ((k : Int) + 3) = (k : Int) + 3 := by rw [IntKind.wrap_i64]; omega
  have k2 : (0 : Int) ≤ (k : Int) + 2 := by omega
  have k3 : (0 : Int) ≤ (k : Int) + 3 := by omega
  have k4 : (k : Int) + 2 < (p.size : Int) := by omega
  have k5 : (k : Int) + 3 < (p.size : Int) := by omega
  have HZ := Lib.hid hz
  clear hx hn h2 hd hc hd' hc' hor hz u1 u2
  have E0 := Lib.hid (isIt.newNone w)
  have HW : Hid (Below w.heap.size w (w.alloc (.cells #[.int .u64 0, .int .u64 0, .int .u64 0, .int .u64 0, .int .i64 0, .bool false, .bool false] 61))) := Lib.hid ((Below.refl _ _).alloc (Nat.le_refl _) _)
  go_enter Tryz.func24, Tryz.ntmps24
  go_wp2_with (first | (go_at_call 42; (with_reducible refine (dig16_eq c _ b2 HD.out _).mono ?_); rintro e wc ⟨rfl, rfl⟩) | (go_at_call 42; (with_reducible refine (dig16_eq c' _ b3 HD'.out _).mono ?_); rintro e wc ⟨rfl, rfl⟩))
  generalize w.alloc (.cells #[.int .u64 0, .int .u64 0, .int .u64 0, .int .u64 0, .int .i64 0, .bool false, .bool false] 61) = W at *
  go_quiet ((first | (go_at_call 42; with_reducible exact Calls.quiet_of_same (dig16_sym c d b2 HD.out _)) | (go_at_call 42; with_reducible exact Calls.quiet_of_same (dig16_sym c' d' b3 HD'.out _))))
  go_wp2_with fail
  refine (rrange_any z z zl zl _).mono ?_
  rw [show (fun k => decide (z ≤ k) && decide (k ≤ z)) = oneR z from rfl]
  rintro e w5 ⟨rfl, hb⟩
  have e0 := (show isIt (W.drewN nq) w.heap.size (fun _ => false) 0 false false from E0.out).below hb E0.out.lt
  have hW := (below_drewN nq HW.out).trans (hb.mono HW.out.size)
  have HR := Lib.hid (below_set7 hW (Nat.le_refl _) (oneR z) ((k : Int) + 4) true false)
  have Z := Lib.hid (e0.stored (oneR z) ((k : Int) + 4) true false).cells
  obtain ⟨q0, q1, q2, q3, q4, q5, q6⟩ := e0.cells
  obtain ⟨r0, r1, r2, r3, r4, r5, r6⟩ := e0.free
  clear e0 hW hb E0 HW
  go_wp2_with (refine wpList_build_item rfl _ _ _ rfl (wd (oneR z) 0 : Int) (wd (oneR z) 1 : Int) (wd (oneR z) 2 : Int) (wd (oneR z) 3 : Int) ((k : Int) + 4) true rfl rfl rfl ?_)
  unfold set7 at Z HR
  refine bodyPost_ret (v := itv (oneR z) (k + 4) true false) (by simp [results, Tryz.results24, go_sem, Z.out]) rfl ⟨by rw [HF.out, HN.out, HO.out], HR.out⟩

theorem behind_any (p : ByteArray) (k : Nat) (w : World) (hp : p.size ≤ 200) (hk : k < p.size) :
    Calls Tryz.prog 24 #[.string p, .int .i64 (k : Int)] w fun e w' => e = .returned (itv (behF p k) (behN p k) (behOk p k) false) ∧ Below w.heap.size w w' := by
  rcases Nat.lt_or_ge (k + 1) p.size with h1 | h1
  · by_cases h2 : gb p (k + 1) = 120
    · rcases Nat.lt_or_ge (k + 3) p.size with h3 | h3
      · rcases Int.lt_or_le (dig16 (gb p (k + 2))) 0 with h4 | h4
        · exact behind_bad2 p k w hp hk h1 h2 h3 _ rfl _ rfl h4
        · rcases Int.lt_or_le (dig16 (gb p (k + 3))) 0 with h5 | h5
          · exact behind_bad3 p k w hp hk h1 h2 h3 _ rfl _ rfl h4 _ rfl _ rfl h5
          · exact behind_hex p k w hp hk h1 h2 h3 _ rfl _ rfl h4 _ rfl _ rfl h5
      · exact behind_short p k w hp hk h1 h2 h3
    · exact behind_esc p k w hp hk h1 h2
  · exact behind_end p k w hp hk h1
end Go.Proofs.YtiahgcgpakgeeaaGreatDoor

namespace Go.Proofs.YtiahgcgpakgeeaaGreatDoor
open Go.RowKit

theorem isL_lit (s : ByteArray) (l : List UInt8) (hl : s.toList = l) (k : Nat) (w : World) : Calls Tryz.prog 56 #[.string s, .int .i64 (k : Int)] w fun e w' => e = .returned (.tuple #[.bool (isB l k), .bool (isN l)]) ∧ w = w' := by
  subst hl
  exact (is_any _ k w).mono fun e w' h => ⟨h.1, h.2⟩
theorem isL_zero (s : ByteArray) (l : List UInt8) (hl : s.toList = l) (w : World) : Calls Tryz.prog 56 #[.string s, .int .i64 0] w fun e w' => e = .returned (.tuple #[.bool (isB l 0), .bool (isN l)]) ∧ w = w' := isL_lit s l hl 0 w

set_option maxRecDepth 100000 in
set_option maxHeartbeats 4000000 in
theorem rclass_any (s : ByteArray) (l : List UInt8) (hl0 : s.toList = l) (w : World) :
    Calls Tryz.prog 53 #[.string s] w fun e w' => e = .returned (.tuple #[sv (isB l), .bool (isN l)]) ∧ Below w.heap.size w w' := by
  have S0 := Lib.hid ((isSet.newNone w).alloc (.cells #[.int .u64 0, .int .u64 0, .int .u64 0, .int .u64 0] 36))
  have S1 := Lib.hid (isSet.newNone (w.alloc (.cells #[.int .u64 0, .int .u64 0, .int .u64 0, .int .u64 0] 36)))
  have HL := Lib.hid hl0
  clear hl0
  go_enter Tryz.func53, Tryz.ntmps53
  go_wp2_with fail
  refine (isL_zero s l HL.out _).mono ?_
  rintro e wz ⟨rfl, rfl⟩
  go_wp2
  go_loopw [7] (fun i wr => ∃ k : Nat, k ≤ 256 ∧ i = .int .i64 k ∧ isSet wr w.heap.size (fun _ => false) ∧ isSet wr (w.heap.size + 1) (upK (isB l) k) ∧ Below w.heap.size w wr) (fun i _ => 256 - (intOf i).toNat)
  case atStart => exact ⟨0, Nat.zero_le _, rfl, S0.out, by rw [upK_zero]; have := S1.out; rw [World.size_alloc] at this; exact this, ((Below.refl _ _).alloc (Nat.le_refl _) _).alloc (by simp) _⟩
  case round =>
    obtain ⟨k, hk, rfl, b0, b1, hBw⟩ := hrel
    clear S0 S1
    have l0 := b0.lt; have l1 := b1.lt
    by_cases hlt : k < 256
    · obtain ⟨p0, p1, p2, p3⟩ := b1.cells
      cases hF : isB l k
      · have HS := Lib.hid (upK_out (isB l) k hF)
        have HF := Lib.hid hF
        clear hF
        go_wp2_with (go_at_call 56; (with_reducible refine (isL_lit s l HL.out k _).mono ?_); rw [HF.out]; rintro e wc ⟨rfl, rfl⟩)
        go_roundw
        case rel => exact ⟨k + 1, by omega, by go_num, b0, by rw [HS.out]; exact b1, hBw⟩
        case measure => simp [intOf]; omega
      · have HS := Lib.hid (upK_in (isB l) k hF)
        have HF := Lib.hid hF
        clear hF
        go_wp2_with (first | (go_at_call 56; (with_reducible refine (isL_lit s l HL.out k _).mono ?_); rw [HF.out]; rintro e wc ⟨rfl, rfl⟩) | (go_at_call 36; (with_reducible refine (put_lit (upK (isB l) k) _ k rfl hlt _).mono ?_); rw [HS.out]; rintro e wd1 ⟨rfl, hb⟩; have d1 := b1.below hb l1; obtain ⟨r0, r1, r2, r3⟩ := d1.free; clear p0 p1 p2 p3; obtain ⟨p0, p1, p2, p3⟩ := d1.cells; have d0 := b0.below hb l0; have hBd := hBw.trans (hb.mono hBw.size); clear hb))
        have z0 := d0.other4 (c := w.heap.size + 1) (by omega) (.int .u64 (wd (upK (isB l) (k + 1)) 0 : Int)) (.int .u64 (wd (upK (isB l) (k + 1)) 1 : Int)) (.int .u64 (wd (upK (isB l) (k + 1)) 2 : Int)) (.int .u64 (wd (upK (isB l) (k + 1)) 3 : Int))
        have z1 := d1.stored (upK (isB l) (k + 1))
        have hR := below_set4 (c := w.heap.size + 1) hBd (by omega) (.int .u64 (wd (upK (isB l) (k + 1)) 0 : Int)) (.int .u64 (wd (upK (isB l) (k + 1)) 1 : Int)) (.int .u64 (wd (upK (isB l) (k + 1)) 2 : Int)) (.int .u64 (wd (upK (isB l) (k + 1)) 3 : Int))
        go_roundw
        case rel => exact ⟨k + 1, by omega, by go_num, z0, z1, hR⟩
        case measure => simp [intOf]; omega
    · obtain rfl : k = 256 := by omega
      have c1 := b1.all
      clear b1
      obtain ⟨q0, q1, q2, q3⟩ := c1.cells
      obtain ⟨q4, q5, q6, q7⟩ := b0.cells
      obtain ⟨r0, r1, r2, r3⟩ := b0.free
      have HR := Lib.hid (below_set4 (c := w.heap.size) hBw (Nat.le_refl _) (.int .u64 (wd (isB l) 0 : Int)) (.int .u64 (wd (isB l) 1 : Int)) (.int .u64 (wd (isB l) 2 : Int)) (.int .u64 (wd (isB l) 3 : Int)))
      have Z := Lib.hid (b0.stored (isB l)).cells
      clear b0 c1 hBw
      go_wp2
      refine bodyPost_ret (v := .tuple #[sv (isB l), .bool (isN l)]) (by simp [results, Tryz.results53, go_sem, Z.out]) rfl ⟨rfl, HR.out⟩
end Go.Proofs.YtiahgcgpakgeeaaGreatDoor
