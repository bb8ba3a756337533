/-
  The walk of the third reference's single.
-/
import Derived.Test.YtiahgcgpakgeeaaGreatDoorPk25
namespace Go.Proofs.YtiahgcgpakgeeaaGreatDoor
open Go.RowKit

/-- Where the name that begins at a place ends: the first place from it on with a colon and a bracket. -/
def nmEnd (p : ByteArray) (i : Nat) : Option Nat := (List.range p.size).find? fun j => decide (i ≤ j) && (gb p j == 58 && gb p (j + 1) == 93)
/-- An item of a bracket that is no range: the bytes, where it ends, whether it can be made, whether it is a name. -/
def sinF (p : ByteArray) (k : Nat) : Nat → Bool :=
  if gb p k = 92 then behF p k
  else if gb p k = 91 ∧ gb p (k + 1) = 58 then (match nmEnd p (k + 2) with | some j => isB (p.extract (k + 2) j).toList | none => fun _ => false)
  else oneR (gb p k)
def sinN (p : ByteArray) (k : Nat) : Nat :=
  if gb p k = 92 then behN p k
  else if gb p k = 91 ∧ gb p (k + 1) = 58 then (match nmEnd p (k + 2) with | some j => j + 2 | none => 0)
  else k + 1
def sinOk (p : ByteArray) (k : Nat) : Bool :=
  if gb p k = 92 then behOk p k
  else if gb p k = 91 ∧ gb p (k + 1) = 58 then (match nmEnd p (k + 2) with | some j => isN (p.extract (k + 2) j).toList | none => false)
  else true
def sinNm (p : ByteArray) (k : Nat) : Bool :=
  if gb p k = 92 then false
  else if gb p k = 91 ∧ gb p (k + 1) = 58 then (match nmEnd p (k + 2) with | some _ => true | none => false)
  else false

set_option maxRecDepth 100000 in
set_option maxHeartbeats 1000000 in
theorem single_back (p : ByteArray) (k : Nat) (w : World) (hp : p.size ≤ 200) (hk : k < p.size) (h0 : gb p k = 92) :
    Calls Tryz.prog 38 #[.string p, .int .i64 (k : Int)] w fun e w' => e = .returned (itv (sinF p k) (sinN p k) (sinOk p k) (sinNm p k)) ∧ Below w.heap.size w w' := by
  have g0 := gb_in hk
  rw [h0] at g0
  have HF0 : sinF p k = behF p k := by unfold sinF; rw [if_pos h0]
  have HN0 : sinN p k = behN p k := by unfold sinN; rw [if_pos h0]
  have HO0 : sinOk p k = behOk p k := by unfold sinOk; rw [if_pos h0]
  have HM0 : sinNm p k = false := by unfold sinNm; rw [if_pos h0]
  have hbe := behind_any p k
  obtain ⟨f, hf⟩ : ∃ f, behF p k = f := ⟨_, rfl⟩
  obtain ⟨n, hn⟩ : ∃ n, behN p k = n := ⟨_, rfl⟩
  obtain ⟨o, ho⟩ : ∃ o, behOk p k = o := ⟨_, rfl⟩
  rw [hf, hn, ho] at hbe
  rw [hf] at HF0; rw [hn] at HN0; rw [ho] at HO0
  have HF := Lib.hid HF0; have HN := Lib.hid HN0; have HO := Lib.hid HO0; have HM := Lib.hid HM0
  have HBE := Lib.hid hbe
  clear HF0 HN0 HO0 HM0 hf hn ho h0 hbe
  have E0 := Lib.hid (isIt.newNone w)
  have HW : Hid (Below w.heap.size w (w.alloc (.cells #[.int .u64 0, .int .u64 0, .int .u64 0, .int .u64 0, .int .i64 0, .bool false, .bool false] 61))) := Lib.hid ((Below.refl _ _).alloc (Nat.le_refl _) _)
  go_enter Tryz.func38, Tryz.ntmps38
  go_wp2_with fail
  generalize w.alloc (.cells #[.int .u64 0, .int .u64 0, .int .u64 0, .int .u64 0, .int .i64 0, .bool false, .bool false] 61) = W at *
  refine (HBE.out W hp hk).mono ?_
  rintro e w5 ⟨rfl, hb⟩
  have e0 := E0.out.below hb E0.out.lt
  have hW := HW.out.trans (hb.mono HW.out.size)
  have HR := Lib.hid (below_set7 hW (Nat.le_refl _) f (n : Int) o false)
  have Z := Lib.hid (e0.stored f (n : Int) o false).cells
  obtain ⟨q0, q1, q2, q3, q4, q5, q6⟩ := e0.cells
  obtain ⟨r0, r1, r2, r3, r4, r5, r6⟩ := e0.free
  clear e0 hW hb E0 HW
  go_wp2
  unfold set7 at Z HR
  refine bodyPost_ret (v := itv f n o false) (by simp [results, Tryz.results38, go_sem, Z.out]) rfl ⟨by rw [HF.out, HN.out, HO.out, HM.out], HR.out⟩

set_option maxRecDepth 100000 in
set_option maxHeartbeats 1000000 in
theorem single_plain (p : ByteArray) (k : Nat) (w : World) (hp : p.size ≤ 200) (hk : k < p.size) (h0 : gb p k ≠ 92) (h1 : ¬ (gb p k = 91 ∧ gb p (k + 1) = 58)) :
    Calls Tryz.prog 38 #[.string p, .int .i64 (k : Int)] w fun e w' => e = .returned (itv (sinF p k) (sinN p k) (sinOk p k) (sinNm p k)) ∧ Below w.heap.size w w' := by
  have g0 := gb_in hk
  have b0 := gb_lt hk
  have HF0 : sinF p k = oneR (gb p k) := by unfold sinF; rw [if_neg h0, if_neg h1]
  have HN : Hid (sinN p k = k + 1) := Lib.hid (by unfold sinN; rw [if_neg h0, if_neg h1])
  have HO : Hid (sinOk p k = true) := Lib.hid (by unfold sinOk; rw [if_neg h0, if_neg h1])
  have HM : Hid (sinNm p k = false) := Lib.hid (by unfold sinNm; rw [if_neg h0, if_neg h1])
  obtain ⟨z, hz⟩ : ∃ z, gb p k = z := ⟨_, rfl⟩
  rw [hz] at g0 b0 HF0 h0 h1
  have HF := Lib.hid HF0
  clear HF0 hz
  have t0 : ((z : Int) == 92) = false := beq_eq_false_iff_ne.2 (by omega)
  have hwr := conv_u8 z b0
  have hcase : (z ≠ 91) ∨ (z = 91 ∧ p.size ≤ k + 1) ∨ (z = 91 ∧ k + 1 < p.size ∧ gb p (k + 1) ≠ 58) := by
    rcases Nat.lt_or_ge (k + 1) p.size with h | h
    · by_cases e : z = 91
      · exact .inr (.inr ⟨e, h, fun h' => h1 ⟨e, h'⟩⟩)
      · exact .inl e
    · by_cases e : z = 91
      · exact .inr (.inl ⟨e, h⟩)
      · exact .inl e
  clear h1
  have hfacts : (((z : Int) == 91) = false) ∨ (((z : Int) == 91) = true ∧ p.size ≤ k + 1) ∨ (((z : Int) == 91) = true ∧ ∃ h : k + 1 < p.size, ∃ y : Nat, (p[k + 1]'h).toNat = y ∧ ((y : Int) == 58) = false) := by
    rcases hcase with e | ⟨e, h⟩ | ⟨e, h, hne⟩
    · exact .inl (beq_eq_false_iff_ne.2 (by omega))
    · exact .inr (.inl ⟨by simp [e], h⟩)
    · exact .inr (.inr ⟨by simp [e], h, _, gb_in h, beq_eq_false_iff_ne.2 (by omega)⟩)
  clear hcase h0
  rcases hfacts with t1 | ⟨t1, h⟩ | ⟨t1, h, y, gy, t2⟩
  · have E0 := Lib.hid (isIt.newNone w)
    have HW : Hid (Below w.heap.size w (w.alloc (.cells #[.int .u64 0, .int .u64 0, .int .u64 0, .int .u64 0, .int .i64 0, .bool false, .bool false] 61))) := Lib.hid ((Below.refl _ _).alloc (Nat.le_refl _) _)
    go_enter Tryz.func38, Tryz.ntmps38
    go_wp2_with fail
    generalize w.alloc (.cells #[.int .u64 0, .int .u64 0, .int .u64 0, .int .u64 0, .int .i64 0, .bool false, .bool false] 61) = W at *
    refine (rrange_any z z b0 b0 _).mono ?_
    rw [show (fun k => decide (z ≤ k) && decide (k ≤ z)) = oneR z from rfl]
    rintro e w5 ⟨rfl, hb⟩
    have e0 := E0.out.below hb E0.out.lt
    have hW := HW.out.trans (hb.mono HW.out.size)
    have HR := Lib.hid (below_set7 hW (Nat.le_refl _) (oneR z) ((k : Int) + 1) true false)
    have Z := Lib.hid (e0.stored (oneR z) ((k : Int) + 1) true false).cells
    obtain ⟨q0, q1, q2, q3, q4, q5, q6⟩ := e0.cells
    obtain ⟨r0, r1, r2, r3, r4, r5, r6⟩ := e0.free
    clear e0 hW hb E0 HW
    go_wp2_with (refine wpList_build_item rfl _ _ _ rfl (wd (oneR z) 0 : Int) (wd (oneR z) 1 : Int) (wd (oneR z) 2 : Int) (wd (oneR z) 3 : Int) ((k : Int) + 1) true rfl rfl rfl ?_)
    unfold set7 at Z HR
    refine bodyPost_ret (v := itv (oneR z) (k + 1) true false) (by simp [results, Tryz.results38, go_sem, Z.out]) rfl ⟨by rw [HF.out, HN.out, HO.out, HM.out], HR.out⟩
  · have E0 := Lib.hid (isIt.newNone w)
    have HW : Hid (Below w.heap.size w (w.alloc (.cells #[.int .u64 0, .int .u64 0, .int .u64 0, .int .u64 0, .int .i64 0, .bool false, .bool false] 61))) := Lib.hid ((Below.refl _ _).alloc (Nat.le_refl _) _)
    go_enter Tryz.func38, Tryz.ntmps38
    go_wp2_with fail
    generalize w.alloc (.cells #[.int .u64 0, .int .u64 0, .int .u64 0, .int .u64 0, .int .i64 0, .bool false, .bool false] 61) = W at *
    refine (rrange_any z z b0 b0 _).mono ?_
    rw [show (fun k => decide (z ≤ k) && decide (k ≤ z)) = oneR z from rfl]
    rintro e w5 ⟨rfl, hb⟩
    have e0 := E0.out.below hb E0.out.lt
    have hW := HW.out.trans (hb.mono HW.out.size)
    have HR := Lib.hid (below_set7 hW (Nat.le_refl _) (oneR z) ((k : Int) + 1) true false)
    have Z := Lib.hid (e0.stored (oneR z) ((k : Int) + 1) true false).cells
    obtain ⟨q0, q1, q2, q3, q4, q5, q6⟩ := e0.cells
    obtain ⟨r0, r1, r2, r3, r4, r5, r6⟩ := e0.free
    clear e0 hW hb E0 HW
    go_wp2_with (refine wpList_build_item rfl _ _ _ rfl (wd (oneR z) 0 : Int) (wd (oneR z) 1 : Int) (wd (oneR z) 2 : Int) (wd (oneR z) 3 : Int) ((k : Int) + 1) true rfl rfl rfl ?_)
    unfold set7 at Z HR
    refine bodyPost_ret (v := itv (oneR z) (k + 1) true false) (by simp [results, Tryz.results38, go_sem, Z.out]) rfl ⟨by rw [HF.out, HN.out, HO.out, HM.out], HR.out⟩
  · have E0 := Lib.hid (isIt.newNone w)
    have HW : Hid (Below w.heap.size w (w.alloc (.cells #[.int .u64 0, .int .u64 0, .int .u64 0, .int .u64 0, .int .i64 0, .bool false, .bool false] 61))) := Lib.hid ((Below.refl _ _).alloc (Nat.le_refl _) _)
    go_enter Tryz.func38, Tryz.ntmps38
    go_wp2_with fail
    generalize w.alloc (.cells #[.int .u64 0, .int .u64 0, .int .u64 0, .int .u64 0, .int .i64 0, .bool false, .bool false] 61) = W at *
    refine (rrange_any z z b0 b0 _).mono ?_
    rw [show (fun k => decide (z ≤ k) && decide (k ≤ z)) = oneR z from rfl]
    rintro e w5 ⟨rfl, hb⟩
    have e0 := E0.out.below hb E0.out.lt
    have hW := HW.out.trans (hb.mono HW.out.size)
    have HR := Lib.hid (below_set7 hW (Nat.le_refl _) (oneR z) ((k : Int) + 1) true false)
    have Z := Lib.hid (e0.stored (oneR z) ((k : Int) + 1) true false).cells
    obtain ⟨q0, q1, q2, q3, q4, q5, q6⟩ := e0.cells
    obtain ⟨r0, r1, r2, r3, r4, r5, r6⟩ := e0.free
    clear e0 hW hb E0 HW
    go_wp2_with (refine wpList_build_item rfl _ _ _ rfl (wd (oneR z) 0 : Int) (wd (oneR z) 1 : Int) (wd (oneR z) 2 : Int) (wd (oneR z) 3 : Int) ((k : Int) + 1) true rfl rfl rfl ?_)
    unfold set7 at Z HR
    refine bodyPost_ret (v := itv (oneR z) (k + 1) true false) (by simp [results, Tryz.results38, go_sem, Z.out]) rfl ⟨by rw [HF.out, HN.out, HO.out, HM.out], HR.out⟩

def hitB (p : ByteArray) (j : Nat) : Bool := gb p j == 58 && gb p (j + 1) == 93
theorem hitB_in {p : ByteArray} {j : Nat} (h : hitB p j = true) : j + 1 < p.size := by
  unfold hitB at h
  rcases Nat.lt_or_ge (j + 1) p.size with h1 | h1
  · exact h1
  · rw [gb_out h1] at h; simp at h
theorem nmEnd_some {p : ByteArray} {i j : Nat} (hij : i ≤ j) (h : hitB p j = true) (hno : ∀ x, i ≤ x → x < j → hitB p x = false) : nmEnd p i = some j := by
  have hj := hitB_in h
  unfold nmEnd
  rw [List.find?_range_eq_some]
  refine ⟨?_, by rw [List.mem_range]; omega, fun x hx => ?_⟩
  · rw [decide_eq_true hij]; exact h
  · by_cases hix : i ≤ x
    · have := hno x hix hx
      unfold hitB at this
      rw [this]; simp
    · simp [hix]
theorem nmEnd_none {p : ByteArray} {i j : Nat} (hj : p.size ≤ j + 1) (hno : ∀ x, i ≤ x → x < j → hitB p x = false) : nmEnd p i = none := by
  unfold nmEnd
  rw [List.find?_range_eq_none]
  intro x _
  by_cases hix : i ≤ x
  · have : hitB p x = false := by
      rcases Nat.lt_or_ge x j with h1 | h1
      · exact hno x hix h1
      · cases hh : hitB p x
        · rfl
        · have := hitB_in hh; omega
    unfold hitB at this
    rw [this]; simp
  · simp [hix]
theorem build_item4 (x0 x1 x2 x3 n : Int) (o m : Bool) (w : World) : (Instr.build 61 #[(0, .agg #[.int .u64 x0, .int .u64 x1, .int .u64 x2, .int .u64 x3]), (1, .int .i64 n), (2, .bool o), (3, .bool m)]).run Tryz.prog w = .ok (.agg #[.int .u64 x0, .int .u64 x1, .int .u64 x2, .int .u64 x3, .int .i64 n, .bool o, .bool m]) w := by kernel_rfl
theorem wpList_build_item4 {ops : Array Oper} {rest : List Oper} {o : Oper} {a : Act} {w : World} {Q : Exit → Act → World → Prop} (hgd : o.guard = none) (x y z u : Operand) (ho : o.op = .build 61 #[(0, x), (1, y), (2, z), (3, u)])
    (x0 x1 x2 x3 n : Int) (b m : Bool) (hx : a.eval x = .agg #[.int .u64 x0, .int .u64 x1, .int .u64 x2, .int .u64 x3]) (hy : a.eval y = .int .i64 n) (hz : a.eval z = .bool b) (hu : a.eval u = .bool m)
    (h : wpList Tryz.prog ops Q rest (a.put o.dst (.agg #[.int .u64 x0, .int .u64 x1, .int .u64 x2, .int .u64 x3, .int .i64 n, .bool b, .bool m])) w) : wpList Tryz.prog ops Q (o :: rest) a w :=
  wpList_plain hgd fun K hK => by
    have hb := build_item4 x0 x1 x2 x3 n b m w
    have hm : (#[(0, x), (1, y), (2, z), (3, u)] : Array (Nat × Operand)).map (fun (i, v) => (i, a.eval v)) = #[(0, a.eval x), (1, a.eval y), (2, a.eval z), (3, a.eval u)] := by simp
    unfold Oper.wp execOp
    simp only [ho]
    rw [hm, hx, hy, hz, hu]
    simp only [Sem.run_bind, hb, Result.andThen_ok]
    exact hK _ _ h

set_option maxRecDepth 100000 in
set_option maxHeartbeats 1000000 in
theorem single_name (p : ByteArray) (k : Nat) (w : World) (hp : p.size ≤ 200) (hk : k < p.size) (h0 : gb p k = 91) (h1 : gb p (k + 1) = 58) :
    Calls Tryz.prog 38 #[.string p, .int .i64 (k : Int)] w fun e w' => e = .returned (itv (sinF p k) (sinN p k) (sinOk p k) (sinNm p k)) ∧ Below w.heap.size w w' := by
  have hk1 : k + 1 < p.size := by
    rcases Nat.lt_or_ge (k + 1) p.size with h | h
    · exact h
    · rw [gb_out h] at h1; cases h1
  have g0 := gb_in hk
  have g1 := gb_in hk1
  rw [h0] at g0; rw [h1] at g1
  have n92 : gb p k ≠ 92 := by omega
  have hand : gb p k = 91 ∧ gb p (k + 1) = 58 := ⟨h0, h1⟩
  have hf0 : ∀ x, nmEnd p (k + 2) = x → sinF p k = (match x with | some j => isB (p.extract (k + 2) j).toList | none => fun _ => false) := fun x hx => by unfold sinF; rw [if_neg n92, if_pos hand, hx]
  have hn0 : ∀ x, nmEnd p (k + 2) = x → sinN p k = (match x with | some j => j + 2 | none => 0) := fun x hx => by unfold sinN; rw [if_neg n92, if_pos hand, hx]
  have ho0 : ∀ x, nmEnd p (k + 2) = x → sinOk p k = (match x with | some j => isN (p.extract (k + 2) j).toList | none => false) := fun x hx => by unfold sinOk; rw [if_neg n92, if_pos hand, hx]
  have hm0 : ∀ x, nmEnd p (k + 2) = x → sinNm p k = (match x with | some _ => true | none => false) := fun x hx => by unfold sinNm; rw [if_neg n92, if_pos hand, hx]
  have HF := Lib.hid hf0; have HN := Lib.hid hn0; have HO := Lib.hid ho0; have HM := Lib.hid hm0
  clear n92 hand h0 h1 hf0 hn0 ho0 hm0
  have E0 := Lib.hid (isIt.newNone w)
  have HW : Hid (Below w.heap.size w (w.alloc (.cells #[.int .u64 0, .int .u64 0, .int .u64 0, .int .u64 0, .int .i64 0, .bool false, .bool false] 61))) := Lib.hid ((Below.refl _ _).alloc (Nat.le_refl _) _)
  go_enter Tryz.func38, Tryz.ntmps38
  go_wp2
  generalize w.alloc (.cells #[.int .u64 0, .int .u64 0, .int .u64 0, .int .u64 0, .int .i64 0, .bool false, .bool false] 61) = W at *
  go_loop [5] (fun i => ∃ j : Nat, k + 2 ≤ j ∧ j ≤ p.size ∧ i = .int .i64 j ∧ Hid (∀ x, k + 2 ≤ x → x < j → hitB p x = false)) (fun i => p.size - (intOf i).toNat)
  case atStart => exact ⟨k + 2, Nat.le_refl _, by omega, by go_num, Lib.hid (fun x h1 h2 => absurd h1 (by omega))⟩
  case round =>
    obtain ⟨j, hj, hjs, rfl, hno⟩ := hrel
    by_cases hlt : j + 1 < p.size
    · have gj := gb_in (show j < p.size by omega)
      have gj1 := gb_in hlt
      have bj := gb_lt (show j < p.size by omega)
      have bj1 := gb_lt hlt
      obtain ⟨c, hc⟩ : ∃ c, gb p j = c := ⟨_, rfl⟩
      obtain ⟨d, hd⟩ : ∃ d, gb p (j + 1) = d := ⟨_, rfl⟩
      have hhit : hitB p j = (c == 58 && d == 93) := by unfold hitB; rw [hc, hd]
      rw [hc] at gj bj; rw [hd] at gj1 bj1
      clear hc hd
      have i1 : decide ((j : Int) + 1 < (p.size : Int)) = true := decide_eq_true (by omega)
      by_cases c1 : c = 58
      · by_cases d1 : d = 93
        · have hh : hitB p j = true := by rw [hhit, c1, d1]; rfl
          have he := nmEnd_some (show k + 2 ≤ j from hj) hh hno.out
          obtain ⟨l, hl⟩ : ∃ l, (p.extract (k + 2) j).toList = l := ⟨_, rfl⟩
          have hF := HF.out _ he; have hN := HN.out _ he; have hO := HO.out _ he; have hM := HM.out _ he
          simp only [hl] at hF hN hO hM
          have HF2 := Lib.hid hF; have HN2 := Lib.hid hN; have HO2 := Lib.hid hO; have HM2 := Lib.hid hM
          have HL := Lib.hid hl
          subst c1 d1
          clear hh he hF hN hO hM hl hhit HF HN HO HM hno
          go_wp2_with fail
          refine (rclass_any _ l HL.out _).mono ?_
          rintro e w1 ⟨rfl, hb⟩
          have e0 := (E0.out.below hb E0.out.lt).alloc (.cells #[.int .u64 (wd (isB l) 0 : Int), .int .u64 (wd (isB l) 1 : Int), .int .u64 (wd (isB l) 2 : Int), .int .u64 (wd (isB l) 3 : Int)] 36)
          have hW := (HW.out.trans (hb.mono HW.out.size)).alloc (Nat.le_trans HW.out.size hb.size) (.cells #[.int .u64 (wd (isB l) 0 : Int), .int .u64 (wd (isB l) 1 : Int), .int .u64 (wd (isB l) 2 : Int), .int .u64 (wd (isB l) 3 : Int)] 36)
          have s0 := isSet.new w1 (isB l)
          clear hb E0 HW
          go_upto_region 9 with (fail)
          generalize hg : w1.heap.size = B at *
          generalize w1.alloc (.cells #[.int .u64 (wd (isB l) 0 : Int), .int .u64 (wd (isB l) 1 : Int), .int .u64 (wd (isB l) 2 : Int), .int .u64 (wd (isB l) 3 : Int)] 36) = W2 at *
          have HR := Lib.hid (below_set7 hW (Nat.le_refl _) (isB l) ((j : Int) + 2) (isN l) true)
          have Z := Lib.hid (e0.stored (isB l) ((j : Int) + 2) (isN l) true).cells
          obtain ⟨q0, q1, q2, q3, q4, q5, q6⟩ := e0.cells
          obtain ⟨r0, r1, r2, r3, r4, r5, r6⟩ := e0.free
          obtain ⟨s0, s1, s2, s3⟩ := s0.cells
          clear e0 hW hg
          go_wp2_with (refine wpList_build_item4 rfl _ _ _ _ rfl (wd (isB l) 0 : Int) (wd (isB l) 1 : Int) (wd (isB l) 2 : Int) (wd (isB l) 3 : Int) ((j : Int) + 2) (isN l) true rfl rfl rfl rfl ?_)
          unfold set7 at Z HR
          refine bodyPost_ret (v := itv (isB l) (j + 2) (isN l) true) (by simp [results, Tryz.results38, go_sem, Z.out]) rfl ⟨by rw [HF2.out, HN2.out, HO2.out, HM2.out], HR.out⟩
        · have hh : hitB p j = false := by rw [hhit]; simp [d1]
          have t1 : ((c : Int) == 58) = true := by simp [c1]
          have t2 : ((d : Int) == 93) = false := beq_eq_false_iff_ne.2 (by omega)
          have HNO : Hid (∀ x, k + 2 ≤ x → x < j + 1 → hitB p x = false) := Lib.hid (fun x h1 h2 => by
            rcases Nat.lt_or_ge x j with h | h
            · exact hno.out x h1 h
            · rw [show x = j by omega]; exact hh)
          clear hh hhit c1 d1 hno
          go_wp2
          go_round
          case rel => exact ⟨j + 1, by omega, by omega, by go_num, HNO⟩
          case measure => simp [intOf]; omega
      · have hh : hitB p j = false := by rw [hhit]; simp [c1]
        have t1 : ((c : Int) == 58) = false := beq_eq_false_iff_ne.2 (by omega)
        have HNO : Hid (∀ x, k + 2 ≤ x → x < j + 1 → hitB p x = false) := Lib.hid (fun x h1 h2 => by
          rcases Nat.lt_or_ge x j with h | h
          · exact hno.out x h1 h
          · rw [show x = j by omega]; exact hh)
        clear hh hhit c1 hno
        go_wp2
        go_round
        case rel => exact ⟨j + 1, by omega, by omega, by go_num, HNO⟩
        case measure => simp [intOf]; omega
    · have i1 : decide ((j : Int) + 1 < (p.size : Int)) = false := decide_eq_false (by omega)
      have he := nmEnd_none (show p.size ≤ j + 1 by omega) hno.out
      have hF := HF.out _ he; have hN := HN.out _ he; have hO := HO.out _ he; have hM := HM.out _ he
      simp only at hF hN hO hM
      have HF2 := Lib.hid hF; have HN2 := Lib.hid hN; have HO2 := Lib.hid hO; have HM2 := Lib.hid hM
      clear he hF hN hO hM HF HN HO HM hno
      have e0 := E0.out
      have hW := HW.out
      have HR := Lib.hid (below_set7z hW (Nat.le_refl _))
      have q := e0.cells
      simp only [none_wd] at q
      obtain ⟨q0, q1, q2, q3, q4, q5, q6⟩ := q
      obtain ⟨r0, r1, r2, r3, r4, r5, r6⟩ := e0.free
      clear e0 hW E0 HW
      go_wp2
      refine bodyPost_ret (v := .agg #[.int .u64 0, .int .u64 0, .int .u64 0, .int .u64 0, .int .i64 0, .bool false, .bool false]) (by simp [results, Tryz.results38, go_sem, q0, q1, q2, q3, q4, q5, q6]) rfl ⟨by rw [HF2.out, HN2.out, HO2.out, HM2.out, itv_none], HR.out⟩

theorem single_any (p : ByteArray) (k : Nat) (w : World) (hp : p.size ≤ 200) (hk : k < p.size) :
    Calls Tryz.prog 38 #[.string p, .int .i64 (k : Int)] w fun e w' => e = .returned (itv (sinF p k) (sinN p k) (sinOk p k) (sinNm p k)) ∧ Below w.heap.size w w' := by
  by_cases h0 : gb p k = 92
  · exact single_back p k w hp hk h0
  · by_cases h1 : gb p k = 91 ∧ gb p (k + 1) = 58
    · exact single_name p k w hp hk h1.1 h1.2
    · exact single_plain p k w hp hk h0 h1
end Go.Proofs.YtiahgcgpakgeeaaGreatDoor
