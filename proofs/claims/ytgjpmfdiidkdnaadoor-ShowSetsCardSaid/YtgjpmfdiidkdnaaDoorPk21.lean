/-
  The walk of lex's set. The walk of lex's token.
-/
import Derived.Test.YtgjpmfdiidkdnaaDoorPk18
import Derived.Test.YtgjpmfdiidkdnaaDoorPk19
import Derived.Test.YtgjpmfdiidkdnaaDoorPk20
namespace Go.Proofs.YtgjpmfdiidkdnaaDoor
open Go.RowKit

/-- The set that a text begins with, of no other kind. -/
def stF (p : ByteArray) : Nat → Bool := if gb p 0 = 46 then dotF else if gb p 0 = 92 then esF p else if gb p 0 = 91 then brF p else oneR (gb p 0)
def stN (p : ByteArray) : Nat := if gb p 0 = 46 then 1 else if gb p 0 = 92 then esN p else if gb p 0 = 91 then brN p else 1

set_option maxRecDepth 100000 in
set_option maxHeartbeats 1000000 in
theorem lset_dot (p : ByteArray) (h1 : 1 ≤ p.size) (h : gb p 0 = 46) (w : World) :
    Calls Tryd.prog 51 #[.string p] w fun e w' => e = .returned (.tuple #[sv (stF p), .int .i64 (stN p : Nat)]) ∧ Below w.heap.size w w' := by
  have HF : Hid (stF p = dotF) := Lib.hid (by unfold stF; rw [if_pos h])
  have HN : Hid (stN p = 1) := Lib.hid (by unfold stN; rw [if_pos h])
  have g0 := gb_data1 (show 0 < p.size by omega) h
  clear h
  have E0 := Lib.hid (isSet.newNone w)
  have HW : Hid (Below w.heap.size w (w.alloc (.cells #[.int .u64 0, .int .u64 0, .int .u64 0, .int .u64 0] 32))) := Lib.hid ((Below.refl _ _).alloc (Nat.le_refl _) _)
  go_enter Tryd.func51, Tryd.ntmps51
  go_wp2_with fail
  refine (dot_any _).mono ?_
  rintro e w1 ⟨rfl, hb⟩
  have hW := HW.out.trans (hb.mono HW.out.size)
  have e0 := E0.out.below hb E0.out.lt
  clear hb HW E0
  have l9 : w.heap.size < w1.heap.size := e0.lt
  obtain ⟨r0, r1, r2, r3⟩ := e0.free
  obtain ⟨q0, q1, q2, q3⟩ := e0.cells
  have HR := Lib.hid (below_set4 (c := w.heap.size) hW (Nat.le_refl _) (.int .u64 (wd (dotF) 0 : Int)) (.int .u64 (wd (dotF) 1 : Int)) (.int .u64 (wd (dotF) 2 : Int)) (.int .u64 (wd (dotF) 3 : Int)))
  have Z := Lib.hid (e0.stored (dotF)).cells
  clear e0 hW
  go_wp2
  refine bodyPost_ret (v := .tuple #[sv (dotF), .int .i64 (1)]) (by simp [results, Tryd.results51, go_sem, Z.out]) rfl ⟨by rw [HF.out, HN.out]; rfl, HR.out⟩

set_option maxRecDepth 100000 in
set_option maxHeartbeats 1000000 in
theorem lset_back (p : ByteArray) (_hp : p.size ≤ 200) (h1 : 1 ≤ p.size) (h : gb p 0 = 92) (w : World) (hT : Okw w) :
    Calls Tryd.prog 51 #[.string p] w fun e w' => e = .returned (.tuple #[sv (stF p), .int .i64 (stN p : Nat)]) ∧ Below w.heap.size w w' := by
  have hF : stF p = esF p := by unfold stF; rw [if_neg (by omega), if_pos h]
  have hN : stN p = esN p := by unfold stN; rw [if_neg (by omega), if_pos h]
  have hq := lesc_any p
  obtain ⟨F, eF⟩ : ∃ F, esF p = F := ⟨_, rfl⟩
  obtain ⟨n, eN⟩ : ∃ n, esN p = n := ⟨_, rfl⟩
  rw [eF, eN] at hq
  rw [eF] at hF
  rw [eN] at hN
  have HF := Lib.hid hF; have HN := Lib.hid hN; have HQ := Lib.hid hq
  have g0 := gb_data1 (show 0 < p.size by omega) h
  clear hF hN hq eF eN h
  have E0 := Lib.hid (isSet.newNone w)
  have HW : Hid (Below w.heap.size w (w.alloc (.cells #[.int .u64 0, .int .u64 0, .int .u64 0, .int .u64 0] 32))) := Lib.hid ((Below.refl _ _).alloc (Nat.le_refl _) _)
  have HT := Lib.hid (hT.alloc (.cells #[.int .u64 0, .int .u64 0, .int .u64 0, .int .u64 0] 32))
  clear hT
  go_enter Tryd.func51, Tryd.ntmps51
  go_wp2_with fail
  refine (HQ.out _ HT.out).mono ?_
  rintro e w1 ⟨rfl, hb⟩
  have hW := HW.out.trans (hb.mono HW.out.size)
  have e0 := E0.out.below hb E0.out.lt
  have hT := HT.out.to hb
  clear hb HW E0 HT
  have l9 : w.heap.size < w1.heap.size := e0.lt
  clear hT HQ
  obtain ⟨r0, r1, r2, r3⟩ := e0.free
  obtain ⟨q0, q1, q2, q3⟩ := e0.cells
  have HR := Lib.hid (below_set4 (c := w.heap.size) hW (Nat.le_refl _) (.int .u64 (wd (F) 0 : Int)) (.int .u64 (wd (F) 1 : Int)) (.int .u64 (wd (F) 2 : Int)) (.int .u64 (wd (F) 3 : Int)))
  have Z := Lib.hid (e0.stored (F)).cells
  clear e0 hW
  go_wp2
  refine bodyPost_ret (v := .tuple #[sv (F), .int .i64 (n)]) (by simp [results, Tryd.results51, go_sem, Z.out]) rfl ⟨by rw [HF.out, HN.out], HR.out⟩

set_option maxRecDepth 100000 in
set_option maxHeartbeats 1000000 in
theorem lset_brk (p : ByteArray) (hp : p.size ≤ 200) (h1 : 1 ≤ p.size) (h : gb p 0 = 91) (w : World) (hT : Okw w) :
    Calls Tryd.prog 51 #[.string p] w fun e w' => e = .returned (.tuple #[sv (stF p), .int .i64 (stN p : Nat)]) ∧ Below w.heap.size w w' := by
  have hF : stF p = brF p := by unfold stF; rw [if_neg (by omega), if_neg (by omega), if_pos h]
  have hN : stN p = brN p := by unfold stN; rw [if_neg (by omega), if_neg (by omega), if_pos h]
  have hq := lbrk_any p hp h1
  obtain ⟨F, eF⟩ : ∃ F, brF p = F := ⟨_, rfl⟩
  obtain ⟨n, eN⟩ : ∃ n, brN p = n := ⟨_, rfl⟩
  rw [eF, eN] at hq
  rw [eF] at hF
  rw [eN] at hN
  have HF := Lib.hid hF; have HN := Lib.hid hN; have HQ := Lib.hid hq
  have g0 := gb_data1 (show 0 < p.size by omega) h
  clear hF hN hq eF eN h
  have E0 := Lib.hid (isSet.newNone w)
  have HW : Hid (Below w.heap.size w (w.alloc (.cells #[.int .u64 0, .int .u64 0, .int .u64 0, .int .u64 0] 32))) := Lib.hid ((Below.refl _ _).alloc (Nat.le_refl _) _)
  have HT := Lib.hid (hT.alloc (.cells #[.int .u64 0, .int .u64 0, .int .u64 0, .int .u64 0] 32))
  clear hT
  go_enter Tryd.func51, Tryd.ntmps51
  go_wp2_with fail
  refine (HQ.out _ HT.out).mono ?_
  rintro e w1 ⟨rfl, hb⟩
  have hW := HW.out.trans (hb.mono HW.out.size)
  have e0 := E0.out.below hb E0.out.lt
  have hT := HT.out.to hb
  clear hb HW E0 HT
  have l9 : w.heap.size < w1.heap.size := e0.lt
  clear hT HQ
  obtain ⟨r0, r1, r2, r3⟩ := e0.free
  obtain ⟨q0, q1, q2, q3⟩ := e0.cells
  have HR := Lib.hid (below_set4 (c := w.heap.size) hW (Nat.le_refl _) (.int .u64 (wd (F) 0 : Int)) (.int .u64 (wd (F) 1 : Int)) (.int .u64 (wd (F) 2 : Int)) (.int .u64 (wd (F) 3 : Int)))
  have Z := Lib.hid (e0.stored (F)).cells
  clear e0 hW
  go_wp2
  refine bodyPost_ret (v := .tuple #[sv (F), .int .i64 (n)]) (by simp [results, Tryd.results51, go_sem, Z.out]) rfl ⟨by rw [HF.out, HN.out], HR.out⟩

set_option maxRecDepth 100000 in
set_option maxHeartbeats 1000000 in
theorem lset_plain (p : ByteArray) (h1 : 1 ≤ p.size) (h46 : gb p 0 ≠ 46) (h92 : gb p 0 ≠ 92) (h91 : gb p 0 ≠ 91) (w : World) :
    Calls Tryd.prog 51 #[.string p] w fun e w' => e = .returned (.tuple #[sv (stF p), .int .i64 (stN p : Nat)]) ∧ Below w.heap.size w w' := by
  have hF : stF p = oneR (gb p 0) := by unfold stF; rw [if_neg h46, if_neg h92, if_neg h91]
  have hN : stN p = 1 := by unfold stN; rw [if_neg h46, if_neg h92, if_neg h91]
  have g0 := gb_in (show 0 < p.size by omega)
  have bz := gb_lt (show 0 < p.size by omega)
  obtain ⟨z, hz⟩ : ∃ z, gb p 0 = z := ⟨_, rfl⟩
  rw [hz] at hF g0 bz h46 h92 h91
  have HF := Lib.hid hF; have HN := Lib.hid hN
  have t0 : ((z : Int) == 46) = false := beq_eq_false_iff_ne.2 (by omega)
  have t1 : ((z : Int) == 92) = false := beq_eq_false_iff_ne.2 (by omega)
  have t2 : ((z : Int) == 91) = false := beq_eq_false_iff_ne.2 (by omega)
  clear hF hN hz h46 h92 h91
  have E0 := Lib.hid (isSet.newNone w)
  have HW : Hid (Below w.heap.size w (w.alloc (.cells #[.int .u64 0, .int .u64 0, .int .u64 0, .int .u64 0] 32))) := Lib.hid ((Below.refl _ _).alloc (Nat.le_refl _) _)
  go_enter Tryd.func51, Tryd.ntmps51
  go_wp2_with fail
  refine (of_oneR z bz _ _ (by simp) (by simp [go_sem])).mono ?_
  rintro e w2 ⟨rfl, hb⟩
  have hW := (HW.out.alloc HW.out.size (.cells #[.int .u8 (z : Int)] 5)).trans (hb.mono (by simp; omega))
  have e0 := (E0.out.alloc (.cells #[.int .u8 (z : Int)] 5)).below hb (by simp; omega)
  have l8 : w.heap.size < w2.heap.size := e0.lt
  clear hb HW E0
  obtain ⟨r0, r1, r2, r3⟩ := e0.free
  obtain ⟨q0, q1, q2, q3⟩ := e0.cells
  have HR := Lib.hid (below_set4 (c := w.heap.size) hW (Nat.le_refl _) (.int .u64 (wd (oneR z) 0 : Int)) (.int .u64 (wd (oneR z) 1 : Int)) (.int .u64 (wd (oneR z) 2 : Int)) (.int .u64 (wd (oneR z) 3 : Int)))
  have Z := Lib.hid (e0.stored (oneR z)).cells
  clear e0 hW
  go_wp2
  refine bodyPost_ret (v := .tuple #[sv (oneR z), .int .i64 (1)]) (by simp [results, Tryd.results51, go_sem, Z.out]) rfl ⟨by rw [HF.out, HN.out]; rfl, HR.out⟩

theorem lset_any (p : ByteArray) (hp : p.size ≤ 200) (h1 : 1 ≤ p.size) (w : World) (hT : Okw w) :
    Calls Tryd.prog 51 #[.string p] w fun e w' => e = .returned (.tuple #[sv (stF p), .int .i64 (stN p : Nat)]) ∧ Below w.heap.size w w' := by
  by_cases h46 : gb p 0 = 46
  · exact lset_dot p h1 h46 w
  · by_cases h92 : gb p 0 = 92
    · exact lset_back p hp h1 h92 w hT
    · by_cases h91 : gb p 0 = 91
      · exact lset_brk p hp h1 h91 w hT
      · exact lset_plain p h1 h46 h92 h91 w
end Go.Proofs.YtgjpmfdiidkdnaaDoor

namespace Go.Proofs.YtgjpmfdiidkdnaaDoor
open Go.RowKit

/-- The bytes that are tokens by themselves: kind, and how often. -/
def tkSign (c : Nat) : Option (Int × Int × Int) :=
  if c = 124 then some (2, 0, 0) else if c = 40 then some (3, 0, 0) else if c = 41 then some (4, 0, 0) else if c = 94 then some (6, 0, 0) else if c = 36 then some (7, 0, 0)
  else if c = 42 then some (5, 0, -1) else if c = 43 then some (5, 1, -1) else if c = 63 then some (5, 0, 1) else none
/-- What the code answers of a text that is not empty. -/
def ct (p : ByteArray) : (Int × (Nat → Bool) × Int × Int) × Nat := match tkSign (gb p 0) with
  | some (a, lo, hi) => ((a, (fun _ => false), lo, hi), 1)
  | none => if gb p 0 = 123 then ((if (oftF p 0).2.2 = 0 then 0 else 5, (fun _ => false), (oftF p 0).1, (oftF p 0).2.1), (oftF p 0).2.2) else ((1, stF p, 0, 0), stN p)
def tokPost (r : (Int × (Nat → Bool) × Int × Int) × Nat) (w : World) (e : Ending) (w' : World) : Prop :=
  e = .returned (.tuple #[tkv r.1.1 0 r.1.2.1 r.1.2.2.1 r.1.2.2.2, .int .i64 (r.2 : Nat)]) ∧ Below w.heap.size w w'
theorem build_tk1 (k : Int) (w : World) : (Instr.build 38 #[(0, .int .i64 k)]).run Tryd.prog w = .ok (.agg #[.int .i64 k, .int .i64 0, .int .u64 0, .int .u64 0, .int .u64 0, .int .u64 0, .int .i64 0, .int .i64 0]) w := by kernel_rfl
theorem wpList_build_tk1 {ops : Array Oper} {rest : List Oper} {o : Oper} {a : Act} {w : World} {Q : Exit → Act → World → Prop} (hgd : o.guard = none) (x : Operand) (ho : o.op = .build 38 #[(0, x)])
    (k : Int) (hx : a.eval x = .int .i64 k)
    (h : wpList Tryd.prog ops Q rest (a.put o.dst (.agg #[.int .i64 k, .int .i64 0, .int .u64 0, .int .u64 0, .int .u64 0, .int .u64 0, .int .i64 0, .int .i64 0])) w) : wpList Tryd.prog ops Q (o :: rest) a w :=
  wpList_plain hgd fun K hK => by
    have hb := build_tk1 k w
    have hm : (#[(0, x)] : Array (Nat × Operand)).map (fun (i, v) => (i, a.eval v)) = #[(0, a.eval x)] := by simp
    unfold Oper.wp execOp
    simp only [ho]
    rw [hm, hx]
    simp only [Sem.run_bind, hb, Result.andThen_ok]
    exact hK _ _ h
theorem tokPost.sign {p : ByteArray} {w w' : World} {a lo hi : Int} (h : tkSign (gb p 0) = some (a, lo, hi)) (hb : Below w.heap.size w w') : tokPost (ct p) w (.returned (.tuple #[.agg #[.int .i64 a, .int .i64 0, .int .u64 0, .int .u64 0, .int .u64 0, .int .u64 0, .int .i64 lo, .int .i64 hi], .int .i64 1])) w' := by
  unfold tokPost ct
  rw [h]
  exact ⟨by rw [tkv_none]; rfl, hb⟩

set_option maxRecDepth 100000 in
set_option maxHeartbeats 1000000 in
theorem ltok_124 (p : ByteArray) (h1 : 1 ≤ p.size) (h : gb p 0 = 124) (w : World) :
    Calls Tryd.prog 32 #[.string p] w (tokPost (ct p) w) := by
  have HS : Hid (tkSign (gb p 0) = some (2, 0, 0)) := Lib.hid (by rw [h]; rfl)
  have g0 := gb_data1 (show 0 < p.size by omega) h
  clear h
  have E0 := Lib.hid (isTk.newNone w)
  have HW : Hid (Below w.heap.size w (w.alloc (.cells #[.int .i64 0, .int .i64 0, .int .u64 0, .int .u64 0, .int .u64 0, .int .u64 0, .int .i64 0, .int .i64 0] 38))) := Lib.hid ((Below.refl _ _).alloc (Nat.le_refl _) _)
  go_enter Tryd.func32, Tryd.ntmps32
  go_upto_region 3 with (fail)
  generalize w.alloc (.cells #[.int .i64 0, .int .i64 0, .int .u64 0, .int .u64 0, .int .u64 0, .int .u64 0, .int .i64 0, .int .i64 0] 38) = W at *
  have e0 := E0.out; have hW := HW.out
  clear E0 HW
  have HR := Lib.hid (below_set8 hW (Nat.le_refl _) 2 0 (fun _ => false) (0) (0))
  unfold set8 at HR
  simp only [none_wd, Int.ofNat_zero] at HR
  have q := e0.cells
  simp only [none_wd] at q
  obtain ⟨q0, q1, q2, q3, q4, q5, q6, q7⟩ := q
  obtain ⟨r0, r1, r2, r3, r4, r5, r6, r7⟩ := e0.free
  clear e0 hW
  go_wp2_with (refine wpList_build_tk1 rfl _ rfl 2 rfl ?_)
  refine bodyPost_ret (v := .tuple #[.agg #[.int .i64 2, .int .i64 0, .int .u64 0, .int .u64 0, .int .u64 0, .int .u64 0, .int .i64 ((0)), .int .i64 ((0))], .int .i64 (1)]) (by simp [results, Tryd.results32, go_sem, q0, q1, q2, q3, q4, q5, q6, q7]) rfl (tokPost.sign HS.out HR.out)

set_option maxRecDepth 100000 in
set_option maxHeartbeats 1000000 in
theorem ltok_40 (p : ByteArray) (h1 : 1 ≤ p.size) (h : gb p 0 = 40) (w : World) :
    Calls Tryd.prog 32 #[.string p] w (tokPost (ct p) w) := by
  have HS : Hid (tkSign (gb p 0) = some (3, 0, 0)) := Lib.hid (by rw [h]; rfl)
  have g0 := gb_data1 (show 0 < p.size by omega) h
  clear h
  have E0 := Lib.hid (isTk.newNone w)
  have HW : Hid (Below w.heap.size w (w.alloc (.cells #[.int .i64 0, .int .i64 0, .int .u64 0, .int .u64 0, .int .u64 0, .int .u64 0, .int .i64 0, .int .i64 0] 38))) := Lib.hid ((Below.refl _ _).alloc (Nat.le_refl _) _)
  go_enter Tryd.func32, Tryd.ntmps32
  go_upto_region 5 with (fail)
  generalize w.alloc (.cells #[.int .i64 0, .int .i64 0, .int .u64 0, .int .u64 0, .int .u64 0, .int .u64 0, .int .i64 0, .int .i64 0] 38) = W at *
  have e0 := E0.out; have hW := HW.out
  clear E0 HW
  have HR := Lib.hid (below_set8 hW (Nat.le_refl _) 3 0 (fun _ => false) (0) (0))
  unfold set8 at HR
  simp only [none_wd, Int.ofNat_zero] at HR
  have q := e0.cells
  simp only [none_wd] at q
  obtain ⟨q0, q1, q2, q3, q4, q5, q6, q7⟩ := q
  obtain ⟨r0, r1, r2, r3, r4, r5, r6, r7⟩ := e0.free
  clear e0 hW
  go_wp2_with (refine wpList_build_tk1 rfl _ rfl 3 rfl ?_)
  refine bodyPost_ret (v := .tuple #[.agg #[.int .i64 3, .int .i64 0, .int .u64 0, .int .u64 0, .int .u64 0, .int .u64 0, .int .i64 ((0)), .int .i64 ((0))], .int .i64 (1)]) (by simp [results, Tryd.results32, go_sem, q0, q1, q2, q3, q4, q5, q6, q7]) rfl (tokPost.sign HS.out HR.out)

set_option maxRecDepth 100000 in
set_option maxHeartbeats 1000000 in
theorem ltok_41 (p : ByteArray) (h1 : 1 ≤ p.size) (h : gb p 0 = 41) (w : World) :
    Calls Tryd.prog 32 #[.string p] w (tokPost (ct p) w) := by
  have HS : Hid (tkSign (gb p 0) = some (4, 0, 0)) := Lib.hid (by rw [h]; rfl)
  have g0 := gb_data1 (show 0 < p.size by omega) h
  clear h
  have E0 := Lib.hid (isTk.newNone w)
  have HW : Hid (Below w.heap.size w (w.alloc (.cells #[.int .i64 0, .int .i64 0, .int .u64 0, .int .u64 0, .int .u64 0, .int .u64 0, .int .i64 0, .int .i64 0] 38))) := Lib.hid ((Below.refl _ _).alloc (Nat.le_refl _) _)
  go_enter Tryd.func32, Tryd.ntmps32
  go_upto_region 7 with (fail)
  generalize w.alloc (.cells #[.int .i64 0, .int .i64 0, .int .u64 0, .int .u64 0, .int .u64 0, .int .u64 0, .int .i64 0, .int .i64 0] 38) = W at *
  have e0 := E0.out; have hW := HW.out
  clear E0 HW
  have HR := Lib.hid (below_set8 hW (Nat.le_refl _) 4 0 (fun _ => false) (0) (0))
  unfold set8 at HR
  simp only [none_wd, Int.ofNat_zero] at HR
  have q := e0.cells
  simp only [none_wd] at q
  obtain ⟨q0, q1, q2, q3, q4, q5, q6, q7⟩ := q
  obtain ⟨r0, r1, r2, r3, r4, r5, r6, r7⟩ := e0.free
  clear e0 hW
  go_wp2_with (refine wpList_build_tk1 rfl _ rfl 4 rfl ?_)
  refine bodyPost_ret (v := .tuple #[.agg #[.int .i64 4, .int .i64 0, .int .u64 0, .int .u64 0, .int .u64 0, .int .u64 0, .int .i64 ((0)), .int .i64 ((0))], .int .i64 (1)]) (by simp [results, Tryd.results32, go_sem, q0, q1, q2, q3, q4, q5, q6, q7]) rfl (tokPost.sign HS.out HR.out)

set_option maxRecDepth 100000 in
set_option maxHeartbeats 1000000 in
theorem ltok_94 (p : ByteArray) (h1 : 1 ≤ p.size) (h : gb p 0 = 94) (w : World) :
    Calls Tryd.prog 32 #[.string p] w (tokPost (ct p) w) := by
  have HS : Hid (tkSign (gb p 0) = some (6, 0, 0)) := Lib.hid (by rw [h]; rfl)
  have g0 := gb_data1 (show 0 < p.size by omega) h
  clear h
  have E0 := Lib.hid (isTk.newNone w)
  have HW : Hid (Below w.heap.size w (w.alloc (.cells #[.int .i64 0, .int .i64 0, .int .u64 0, .int .u64 0, .int .u64 0, .int .u64 0, .int .i64 0, .int .i64 0] 38))) := Lib.hid ((Below.refl _ _).alloc (Nat.le_refl _) _)
  go_enter Tryd.func32, Tryd.ntmps32
  go_upto_region 9 with (fail)
  generalize w.alloc (.cells #[.int .i64 0, .int .i64 0, .int .u64 0, .int .u64 0, .int .u64 0, .int .u64 0, .int .i64 0, .int .i64 0] 38) = W at *
  have e0 := E0.out; have hW := HW.out
  clear E0 HW
  have HR := Lib.hid (below_set8 hW (Nat.le_refl _) 6 0 (fun _ => false) (0) (0))
  unfold set8 at HR
  simp only [none_wd, Int.ofNat_zero] at HR
  have q := e0.cells
  simp only [none_wd] at q
  obtain ⟨q0, q1, q2, q3, q4, q5, q6, q7⟩ := q
  obtain ⟨r0, r1, r2, r3, r4, r5, r6, r7⟩ := e0.free
  clear e0 hW
  go_wp2_with (refine wpList_build_tk1 rfl _ rfl 6 rfl ?_)
  refine bodyPost_ret (v := .tuple #[.agg #[.int .i64 6, .int .i64 0, .int .u64 0, .int .u64 0, .int .u64 0, .int .u64 0, .int .i64 ((0)), .int .i64 ((0))], .int .i64 (1)]) (by simp [results, Tryd.results32, go_sem, q0, q1, q2, q3, q4, q5, q6, q7]) rfl (tokPost.sign HS.out HR.out)

set_option maxRecDepth 100000 in
set_option maxHeartbeats 1000000 in
theorem ltok_36 (p : ByteArray) (h1 : 1 ≤ p.size) (h : gb p 0 = 36) (w : World) :
    Calls Tryd.prog 32 #[.string p] w (tokPost (ct p) w) := by
  have HS : Hid (tkSign (gb p 0) = some (7, 0, 0)) := Lib.hid (by rw [h]; rfl)
  have g0 := gb_data1 (show 0 < p.size by omega) h
  clear h
  have E0 := Lib.hid (isTk.newNone w)
  have HW : Hid (Below w.heap.size w (w.alloc (.cells #[.int .i64 0, .int .i64 0, .int .u64 0, .int .u64 0, .int .u64 0, .int .u64 0, .int .i64 0, .int .i64 0] 38))) := Lib.hid ((Below.refl _ _).alloc (Nat.le_refl _) _)
  go_enter Tryd.func32, Tryd.ntmps32
  go_upto_region 11 with (fail)
  generalize w.alloc (.cells #[.int .i64 0, .int .i64 0, .int .u64 0, .int .u64 0, .int .u64 0, .int .u64 0, .int .i64 0, .int .i64 0] 38) = W at *
  have e0 := E0.out; have hW := HW.out
  clear E0 HW
  have HR := Lib.hid (below_set8 hW (Nat.le_refl _) 7 0 (fun _ => false) (0) (0))
  unfold set8 at HR
  simp only [none_wd, Int.ofNat_zero] at HR
  have q := e0.cells
  simp only [none_wd] at q
  obtain ⟨q0, q1, q2, q3, q4, q5, q6, q7⟩ := q
  obtain ⟨r0, r1, r2, r3, r4, r5, r6, r7⟩ := e0.free
  clear e0 hW
  go_wp2_with (refine wpList_build_tk1 rfl _ rfl 7 rfl ?_)
  refine bodyPost_ret (v := .tuple #[.agg #[.int .i64 7, .int .i64 0, .int .u64 0, .int .u64 0, .int .u64 0, .int .u64 0, .int .i64 ((0)), .int .i64 ((0))], .int .i64 (1)]) (by simp [results, Tryd.results32, go_sem, q0, q1, q2, q3, q4, q5, q6, q7]) rfl (tokPost.sign HS.out HR.out)

set_option maxRecDepth 100000 in
set_option maxHeartbeats 1000000 in
theorem ltok_42 (p : ByteArray) (h1 : 1 ≤ p.size) (h : gb p 0 = 42) (w : World) :
    Calls Tryd.prog 32 #[.string p] w (tokPost (ct p) w) := by
  have HS : Hid (tkSign (gb p 0) = some (5, 0, -1)) := Lib.hid (by rw [h]; rfl)
  have g0 := gb_data1 (show 0 < p.size by omega) h
  clear h
  have E0 := Lib.hid (isTk.newNone w)
  have HW : Hid (Below w.heap.size w (w.alloc (.cells #[.int .i64 0, .int .i64 0, .int .u64 0, .int .u64 0, .int .u64 0, .int .u64 0, .int .i64 0, .int .i64 0] 38))) := Lib.hid ((Below.refl _ _).alloc (Nat.le_refl _) _)
  go_enter Tryd.func32, Tryd.ntmps32
  go_wp2_with fail
  refine (repeat_lit (0) (-1) _).mono ?_
  rintro e w1 ⟨rfl, hb⟩
  have hW := HW.out.trans (hb.mono HW.out.size)
  have e0 := E0.out.below hb E0.out.lt
  clear hb HW E0
  have l9 : w.heap.size < w1.heap.size := e0.lt
  have HR := Lib.hid (below_set8 hW (Nat.le_refl _) 5 0 (fun _ => false) (0) (-1))
  unfold set8 at HR
  simp only [none_wd, Int.ofNat_zero] at HR
  have q := e0.cells
  simp only [none_wd] at q
  obtain ⟨q0, q1, q2, q3, q4, q5, q6, q7⟩ := q
  obtain ⟨r0, r1, r2, r3, r4, r5, r6, r7⟩ := e0.free
  clear e0 hW
  go_wp2
  refine bodyPost_ret (v := .tuple #[.agg #[.int .i64 5, .int .i64 0, .int .u64 0, .int .u64 0, .int .u64 0, .int .u64 0, .int .i64 ((0)), .int .i64 ((-1))], .int .i64 (1)]) (by simp [results, Tryd.results32, go_sem, q0, q1, q2, q3, q4, q5, q6, q7]) rfl (tokPost.sign HS.out HR.out)

set_option maxRecDepth 100000 in
set_option maxHeartbeats 1000000 in
theorem ltok_43 (p : ByteArray) (h1 : 1 ≤ p.size) (h : gb p 0 = 43) (w : World) :
    Calls Tryd.prog 32 #[.string p] w (tokPost (ct p) w) := by
  have HS : Hid (tkSign (gb p 0) = some (5, 1, -1)) := Lib.hid (by rw [h]; rfl)
  have g0 := gb_data1 (show 0 < p.size by omega) h
  clear h
  have E0 := Lib.hid (isTk.newNone w)
  have HW : Hid (Below w.heap.size w (w.alloc (.cells #[.int .i64 0, .int .i64 0, .int .u64 0, .int .u64 0, .int .u64 0, .int .u64 0, .int .i64 0, .int .i64 0] 38))) := Lib.hid ((Below.refl _ _).alloc (Nat.le_refl _) _)
  go_enter Tryd.func32, Tryd.ntmps32
  go_wp2_with fail
  refine (repeat_lit (1) (-1) _).mono ?_
  rintro e w1 ⟨rfl, hb⟩
  have hW := HW.out.trans (hb.mono HW.out.size)
  have e0 := E0.out.below hb E0.out.lt
  clear hb HW E0
  have l9 : w.heap.size < w1.heap.size := e0.lt
  have HR := Lib.hid (below_set8 hW (Nat.le_refl _) 5 0 (fun _ => false) (1) (-1))
  unfold set8 at HR
  simp only [none_wd, Int.ofNat_zero] at HR
  have q := e0.cells
  simp only [none_wd] at q
  obtain ⟨q0, q1, q2, q3, q4, q5, q6, q7⟩ := q
  obtain ⟨r0, r1, r2, r3, r4, r5, r6, r7⟩ := e0.free
  clear e0 hW
  go_wp2
  refine bodyPost_ret (v := .tuple #[.agg #[.int .i64 5, .int .i64 0, .int .u64 0, .int .u64 0, .int .u64 0, .int .u64 0, .int .i64 ((1)), .int .i64 ((-1))], .int .i64 (1)]) (by simp [results, Tryd.results32, go_sem, q0, q1, q2, q3, q4, q5, q6, q7]) rfl (tokPost.sign HS.out HR.out)

set_option maxRecDepth 100000 in
set_option maxHeartbeats 1000000 in
theorem ltok_63 (p : ByteArray) (h1 : 1 ≤ p.size) (h : gb p 0 = 63) (w : World) :
    Calls Tryd.prog 32 #[.string p] w (tokPost (ct p) w) := by
  have HS : Hid (tkSign (gb p 0) = some (5, 0, 1)) := Lib.hid (by rw [h]; rfl)
  have g0 := gb_data1 (show 0 < p.size by omega) h
  clear h
  have E0 := Lib.hid (isTk.newNone w)
  have HW : Hid (Below w.heap.size w (w.alloc (.cells #[.int .i64 0, .int .i64 0, .int .u64 0, .int .u64 0, .int .u64 0, .int .u64 0, .int .i64 0, .int .i64 0] 38))) := Lib.hid ((Below.refl _ _).alloc (Nat.le_refl _) _)
  go_enter Tryd.func32, Tryd.ntmps32
  go_wp2_with fail
  refine (repeat_lit (0) (1) _).mono ?_
  rintro e w1 ⟨rfl, hb⟩
  have hW := HW.out.trans (hb.mono HW.out.size)
  have e0 := E0.out.below hb E0.out.lt
  clear hb HW E0
  have l9 : w.heap.size < w1.heap.size := e0.lt
  have HR := Lib.hid (below_set8 hW (Nat.le_refl _) 5 0 (fun _ => false) (0) (1))
  unfold set8 at HR
  simp only [none_wd, Int.ofNat_zero] at HR
  have q := e0.cells
  simp only [none_wd] at q
  obtain ⟨q0, q1, q2, q3, q4, q5, q6, q7⟩ := q
  obtain ⟨r0, r1, r2, r3, r4, r5, r6, r7⟩ := e0.free
  clear e0 hW
  go_wp2
  refine bodyPost_ret (v := .tuple #[.agg #[.int .i64 5, .int .i64 0, .int .u64 0, .int .u64 0, .int .u64 0, .int .u64 0, .int .i64 ((0)), .int .i64 ((1))], .int .i64 (1)]) (by simp [results, Tryd.results32, go_sem, q0, q1, q2, q3, q4, q5, q6, q7]) rfl (tokPost.sign HS.out HR.out)

set_option maxRecDepth 100000 in
set_option maxHeartbeats 1000000 in
theorem ltok_123 (p : ByteArray) (hp : p.size ≤ 200) (h1 : 1 ≤ p.size) (h : gb p 0 = 123) (w : World) (hT : Okw w) :
    Calls Tryd.prog 32 #[.string p] w (tokPost (ct p) w) := by
  have hq := lbnd_any p hp h1
  unfold bdPost at hq
  have hc : ct p = ((if (oftF p 0).2.2 = 0 then 0 else 5, (fun _ => false), (oftF p 0).1, (oftF p 0).2.1), (oftF p 0).2.2) := by
    unfold ct
    rw [show tkSign (gb p 0) = none by rw [h]; rfl]
    exact if_pos h
  rw [hc]
  unfold tokPost
  obtain ⟨K, hK⟩ : ∃ K : Int, (if (oftF p 0).2.2 = 0 then 0 else 5) = K := ⟨_, rfl⟩
  obtain ⟨lo, hlo⟩ : ∃ x, (oftF p 0).1 = x := ⟨_, rfl⟩
  obtain ⟨hi, hhi⟩ : ∃ x, (oftF p 0).2.1 = x := ⟨_, rfl⟩
  obtain ⟨n, hn⟩ : ∃ x, (oftF p 0).2.2 = x := ⟨_, rfl⟩
  rw [hK, hlo, hhi, hn, tkv_none] at hq
  simp only [hK]
  simp only [hlo, hhi, hn]
  have HQ := Lib.hid hq
  have g0 := gb_data1 (show 0 < p.size by omega) h
  clear h hq hc hK hlo hhi hn
  have E0 := Lib.hid (isTk.newNone w)
  have HW : Hid (Below w.heap.size w (w.alloc (.cells #[.int .i64 0, .int .i64 0, .int .u64 0, .int .u64 0, .int .u64 0, .int .u64 0, .int .i64 0, .int .i64 0] 38))) := Lib.hid ((Below.refl _ _).alloc (Nat.le_refl _) _)
  have HT := Lib.hid (hT.alloc (.cells #[.int .i64 0, .int .i64 0, .int .u64 0, .int .u64 0, .int .u64 0, .int .u64 0, .int .i64 0, .int .i64 0] 38))
  clear hT
  go_enter Tryd.func32, Tryd.ntmps32
  go_wp2_with fail
  refine (HQ.out _ HT.out).mono ?_
  rintro e w1 ⟨rfl, hb⟩
  have hW := HW.out.trans (hb.mono HW.out.size)
  have e0 := E0.out.below hb E0.out.lt
  clear hb HW E0
  have l9 : w.heap.size < w1.heap.size := e0.lt
  clear HT HQ
  have HR := Lib.hid (below_set8 hW (Nat.le_refl _) K 0 (fun _ => false) lo hi)
  unfold set8 at HR
  simp only [none_wd, Int.ofNat_zero] at HR
  have HV := Lib.hid (tkv_none K 0 lo hi)
  have q := e0.cells
  simp only [none_wd] at q
  obtain ⟨q0, q1, q2, q3, q4, q5, q6, q7⟩ := q
  obtain ⟨r0, r1, r2, r3, r4, r5, r6, r7⟩ := e0.free
  clear e0 hW
  go_wp2
  refine bodyPost_ret (v := .tuple #[.agg #[.int .i64 K, .int .i64 0, .int .u64 0, .int .u64 0, .int .u64 0, .int .u64 0, .int .i64 (lo), .int .i64 (hi)], .int .i64 (n)]) (by simp [results, Tryd.results32, go_sem, q0, q1, q2, q3, q4, q5, q6, q7]) rfl ⟨by rw [HV.out], HR.out⟩

set_option maxRecDepth 100000 in
set_option maxHeartbeats 1000000 in
theorem ltok_set (p : ByteArray) (hp : p.size ≤ 200) (h1 : 1 ≤ p.size) (h : tkSign (gb p 0) = none) (h' : gb p 0 ≠ 123) (w : World) (hT : Okw w) :
    Calls Tryd.prog 32 #[.string p] w (tokPost (ct p) w) := by
  have hq := lset_any p hp h1
  have hc : ct p = ((1, stF p, 0, 0), stN p) := by
    unfold ct
    rw [h]
    exact if_neg h'
  rw [hc]
  unfold tokPost
  obtain ⟨F, eF⟩ : ∃ F, stF p = F := ⟨_, rfl⟩
  obtain ⟨n, eN⟩ : ∃ n, stN p = n := ⟨_, rfl⟩
  rw [eF, eN] at hq
  simp only [eF, eN]
  have HQ := Lib.hid hq
  have g0 := gb_in (show 0 < p.size by omega)
  obtain ⟨z, hz⟩ : ∃ z, gb p 0 = z := ⟨_, rfl⟩
  rw [hz] at g0 h h'
  have n124 : z ≠ 124 := fun e => by rw [e] at h; exact absurd h (by decide)
  have t124 : ((z : Int) == 124) = false := beq_eq_false_iff_ne.2 (by omega)
  have n40 : z ≠ 40 := fun e => by rw [e] at h; exact absurd h (by decide)
  have t40 : ((z : Int) == 40) = false := beq_eq_false_iff_ne.2 (by omega)
  have n41 : z ≠ 41 := fun e => by rw [e] at h; exact absurd h (by decide)
  have t41 : ((z : Int) == 41) = false := beq_eq_false_iff_ne.2 (by omega)
  have n94 : z ≠ 94 := fun e => by rw [e] at h; exact absurd h (by decide)
  have t94 : ((z : Int) == 94) = false := beq_eq_false_iff_ne.2 (by omega)
  have n36 : z ≠ 36 := fun e => by rw [e] at h; exact absurd h (by decide)
  have t36 : ((z : Int) == 36) = false := beq_eq_false_iff_ne.2 (by omega)
  have n42 : z ≠ 42 := fun e => by rw [e] at h; exact absurd h (by decide)
  have t42 : ((z : Int) == 42) = false := beq_eq_false_iff_ne.2 (by omega)
  have n43 : z ≠ 43 := fun e => by rw [e] at h; exact absurd h (by decide)
  have t43 : ((z : Int) == 43) = false := beq_eq_false_iff_ne.2 (by omega)
  have n63 : z ≠ 63 := fun e => by rw [e] at h; exact absurd h (by decide)
  have t63 : ((z : Int) == 63) = false := beq_eq_false_iff_ne.2 (by omega)
  have t123 : ((z : Int) == 123) = false := beq_eq_false_iff_ne.2 (by omega)
  clear h h' hq hc eF eN hz n124 n40 n41 n94 n36 n42 n43 n63
  have E0 := Lib.hid (isTk.newNone w)
  have HW : Hid (Below w.heap.size w (w.alloc (.cells #[.int .i64 0, .int .i64 0, .int .u64 0, .int .u64 0, .int .u64 0, .int .u64 0, .int .i64 0, .int .i64 0] 38))) := Lib.hid ((Below.refl _ _).alloc (Nat.le_refl _) _)
  have HT := Lib.hid (hT.alloc (.cells #[.int .i64 0, .int .i64 0, .int .u64 0, .int .u64 0, .int .u64 0, .int .u64 0, .int .i64 0, .int .i64 0] 38))
  clear hT
  go_enter Tryd.func32, Tryd.ntmps32
  go_wp2_with fail
  refine (HQ.out _ HT.out).mono ?_
  rintro e w1 ⟨rfl, hb⟩
  have l9 : w.heap.size < w1.heap.size := Nat.lt_of_lt_of_le E0.out.lt hb.size
  have e0 := (E0.out.below hb E0.out.lt).alloc (.cells #[.int .u64 (wd (F) 0 : Int), .int .u64 (wd (F) 1 : Int), .int .u64 (wd (F) 2 : Int), .int .u64 (wd (F) 3 : Int)] 32)
  have hW := (HW.out.trans (hb.mono HW.out.size)).alloc (Nat.le_trans HW.out.size hb.size) (.cells #[.int .u64 (wd (F) 0 : Int), .int .u64 (wd (F) 1 : Int), .int .u64 (wd (F) 2 : Int), .int .u64 (wd (F) 3 : Int)] 32)
  have s0 := isSet.new w1 F
  clear hb E0 HW HT HQ
  go_upto_region 21 with (fail)
  generalize w1.heap.size = B0 at *
  generalize w1.alloc (.cells #[.int .u64 (wd (F) 0 : Int), .int .u64 (wd (F) 1 : Int), .int .u64 (wd (F) 2 : Int), .int .u64 (wd (F) 3 : Int)] 32) = W at *
  obtain ⟨s0, s1, s2, s3⟩ := s0.cells
  have HR := Lib.hid (below_set8 hW (Nat.le_refl _) 1 0 F 0 0)
  have Z := Lib.hid (e0.stored 1 0 F 0 0).cells
  unfold set8 at Z HR
  obtain ⟨q0, q1, q2, q3, q4, q5, q6, q7⟩ := e0.cells
  obtain ⟨r0, r1, r2, r3, r4, r5, r6, r7⟩ := e0.free
  clear e0 hW
  go_wp2_with (refine wpList_build_tkS rfl _ _ rfl 1 (wd F 0 : Int) (wd F 1 : Int) (wd F 2 : Int) (wd F 3 : Int) rfl rfl ?_)
  refine bodyPost_ret (v := .tuple #[tkv 1 0 F 0 0, .int .i64 n]) (by simp [results, Tryd.results32, go_sem, Z.out]) rfl ⟨rfl, HR.out⟩

theorem ltok_any (p : ByteArray) (hp : p.size ≤ 200) (h1 : 1 ≤ p.size) (w : World) (hT : Okw w) : Calls Tryd.prog 32 #[.string p] w (tokPost (ct p) w) := by
  by_cases h124 : gb p 0 = 124
  · exact ltok_124 p h1 h124 w
  by_cases h40 : gb p 0 = 40
  · exact ltok_40 p h1 h40 w
  by_cases h41 : gb p 0 = 41
  · exact ltok_41 p h1 h41 w
  by_cases h94 : gb p 0 = 94
  · exact ltok_94 p h1 h94 w
  by_cases h36 : gb p 0 = 36
  · exact ltok_36 p h1 h36 w
  by_cases h42 : gb p 0 = 42
  · exact ltok_42 p h1 h42 w
  by_cases h43 : gb p 0 = 43
  · exact ltok_43 p h1 h43 w
  by_cases h63 : gb p 0 = 63
  · exact ltok_63 p h1 h63 w
  by_cases h123 : gb p 0 = 123
  · exact ltok_123 p hp h1 h123 w hT
  refine ltok_set p hp h1 ?_ h123 w hT
  unfold tkSign
  rw [if_neg h124, if_neg h40, if_neg h41, if_neg h94, if_neg h36, if_neg h42, if_neg h43, if_neg h63]
end Go.Proofs.YtgjpmfdiidkdnaaDoor
