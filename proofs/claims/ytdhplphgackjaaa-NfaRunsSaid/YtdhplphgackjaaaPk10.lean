/-
  The walks of the reference's Firsts at no node, and of its Kids.
  A part in memory: its states, its first and its last one; what Make is asked.
-/
import Derived.Test.YtdhplphgackjaaaPk9
import Derived.Laws.AppendOwnNone
import Derived.Test.YtdhplphgackjaaaPk6
import Derived.Deep.Cut
namespace Go.Proofs.Ytdhplphgackjaaa
open Go.RowKit

theorem firsts_zero (p : Option Addr) (cap : Nat) (w : World) :
    Calls Try.prog 26 #[.slice p 0 cap] w fun e w' => e = .returned (.slice none 0 0) ∧ w = w' := by
  go_enter Try.func26, Try.ntmps26
  go_wp2
  refine wp_loop_rounds 1 ?_
  rw [rounds_succ]; go_wp2
  go_ret
  exact ⟨rfl, rfl⟩

set_option maxHeartbeats 2000000 in
theorem rkids_is (b off n cap i : Nat) (N : Nat → Nd) (hn : n ≤ 1000) (hi : i < n) (hf : 0 ≤ fst N i) (w : World) (hr : rdN w b off n N) :
    Calls Try.prog 27 #[.slice (some ⟨b, off, none⟩) n cap, .int .i64 (i : Int)] w fun e w' => ∃ v, e = .returned v ∧ rdI w' v (kids N i) ∧ Below w.heap.size w w' := by
  obtain ⟨i0, hinf, hz0, hz1, hz2⟩ := info_parts infoInt
  have hbl := (hr i hi).1
  have hc0 := (hr i hi).2.1
  have h0 : (0 : Int) ≤ (i : Int) := by omega
  have h1 : (i : Int) < (n : Int) := by omega
  have hib : (i : Int) < 1000 := by omega
  have HR := Lib.hid hr
  clear hr
  have HK := Lib.hid (kids_back hf)
  go_enter Try.func27, Try.ntmps27
  go_wp2_with fail
  refine (firsts_some _ _ _ _ _ hn _ HR.out).mono ?_
  rintro e w1 ⟨v, rfl, hown, hb1⟩
  have hc1 : w1.cell? ⟨b, off + i * 7, none⟩ = some (.int .i64 (N i).k) := by rw [hb1.cell (p := ⟨b, off + i * 7, none⟩) hbl]; exact hc0
  clear hc0
  rcases id hown.2 with ⟨rfl, hz⟩ | ⟨g, cp, cur, rfl, -⟩
  · exfalso; omega
  have HG : Hid (∀ q, q < n → w1.cell? ⟨g, q, none⟩ = some (.int .i64 (fst N q))) := Lib.hid fun q hq => by rw [hown.cellAt q (by omega), fsts_get N n q hq]
  have hgl : w.heap.size ≤ g ∧ g < w1.heap.size := hown.lt g rfl
  have hsz1 := hb1.size
  have HB1 := Lib.hid hb1
  clear hown hb1
  go_wp2_with fail
  refine (rargs_any _ _).mono ?_; rintro e w2 ⟨rfl, hb2⟩
  have HG2 : Hid (∀ q, q < n → w2.cell? ⟨g, q, none⟩ = some (.int .i64 (fst N q))) := Lib.hid fun q hq => by rw [hb2.cell (p := ⟨g, q, none⟩) hgl.2]; exact HG.out q hq
  have HB2 := Lib.hid (HB1.out.trans (hb2.mono hsz1))
  have hsz2 := HB2.out.size
  have hgl2 : g < w2.heap.size := by have := hb2.size; omega
  clear hb2 HG HB1 hc1 hsz1
  rcases HK.out with ⟨ha, hk, -⟩ | ⟨ha, hi0, hk, -, hg⟩ | ⟨ha, f, hf0, hfi, hff, hk, -, hg⟩
  · have HA := Lib.hid ha; have HK := Lib.hid hk
    clear ha hk
    rw [HA.out]
    go_wp2_with fail
    refine wp_loop_rounds 1 ?_
    rw [rounds_succ]; go_wp2
    go_ret
    exact ⟨_, rfl, by rw [HK.out]; exact .inl ⟨_, _, rfl, rfl⟩, HB2.out⟩
  · have HA := Lib.hid ha; have HK := Lib.hid hk
    clear ha hk
    obtain ⟨j, rfl⟩ : ∃ j, i = j + 1 := ⟨i - 1, by omega⟩
    have hcj := HG2.out j (by omega)
    rw [HA.out]
    go_wp2_with fail
    refine wp_loop_rounds 2 ?_
    rw [rounds_succ]; go_wp2_with fail
    rw [rounds_succ]; go_wp2
    go_ret
    refine ⟨_, rfl, ?_, ?_⟩
    · rw [HK.out]
      refine .inr ⟨_, _, rfl, by simp, fun j' hj => ?_⟩
      obtain rfl : j' = 0 := by simpa using hj
      simp [go_sem]
    · exact HB2.out.alloc hsz2 _
  · have HA := Lib.hid ha; have HK := Lib.hid hk
    obtain ⟨j, rfl⟩ : ∃ j, i = j + 1 := ⟨i - 1, by omega⟩
    obtain ⟨q, rfl⟩ : ∃ q, f = q + 1 := ⟨f - 1, by omega⟩
    have hcj := HG2.out j (by omega)
    rw [show fst N j = ((q + 1 : Nat) : Int) from hff] at hcj
    have hcq := HG2.out q (by omega)
    clear ha hk hff
    rw [HA.out]
    go_wp2_with fail
    refine wp_loop_rounds 3 ?_
    rw [rounds_succ]; go_wp2_with fail
    have hlit := World.ownsRow_lit (e := 3) (size := 1) (base := w.heap.size) (w2.alloc (.cells #[.int .i64 (j : Int)] 3)) #[.int .i64 (q : Int)] 1 (by simp; omega) (by unfold maxLen; omega) rfl
    simp only [World.size_alloc] at hlit
    have HL := Lib.hid hlit
    clear hlit
    rw [rounds_succ]
    go_wp2_with (at_builtin; refine wpList_append_own _ rfl _ _ 43 rfl w.heap.size 3 i0 (.int .i64 0) 1 8 Try.underlying43 hinf hz0 hz1 hz2 rfl (by decide) _ _ _ rfl HL.out ⟨w2.heap.size, 0, none⟩ 1 1 [.int .i64 (j : Int)] rfl rfl ?u1 ?u2 ?u3 ?u4 ?u5 ?_)
    case u1 =>
      intro x u hx
      match x, hx with
      | 0, hx => simp at hx; subst hx; simp [Addr.add]
    case u2 => intro u hu; simp at hu; subst hu; rfl
    case u3 => unfold maxLen; omega
    case u4 => omega
    case u5 => simp; omega
    intro v' w3 hown3 hgrow _
    have HW3 : Hid (Below w.heap.size w w3) := Lib.hid (((HB2.out.alloc hsz2 _).alloc (by simp; omega) _).grown hgrow (by simp; omega) fun r hr => by cases hr; simp; omega)
    have HO : Hid (rdI w3 v' (kids N (j + 1))) := Lib.hid (by
      rw [HK.out]
      refine rdI_of_owns (base := w.heap.size) (e := 3) ?_
      have e1 : ((q + 1 : Nat) : Int) - 1 = q := by omega
      have e2 : ((j + 1 : Nat) : Int) - 1 = j := by omega
      rw [e1, e2]
      exact hown3)
    have hcq3 : w3.cell? ⟨g, q, none⟩ = some (.int .i64 (fst N q)) :=
      hgrow.cell (by rw [(((Below.refl w2.heap.size w2).alloc (Nat.le_refl _) _).alloc (by simp) _).cell (p := ⟨g, q, none⟩) hgl2]; exact hcq) (by simp [Value.ownBlock]; omega)
    clear hown3 hgrow HB2 HK hcq hcj
    go_wp2
    rw [rounds_succ]; go_wp2
    go_ret
    exact ⟨_, rfl, HO.out, HW3.out⟩
end Go.Proofs.Ytdhplphgackjaaa

namespace Go.Proofs.Ytdhplphgackjaaa
open Go.RowKit

def isPt (w : World) (b : Nat) (v : Value) (f l : Int) : Prop := w.heap[b]? = some (.cells #[v, .int .i64 f, .int .i64 l] 67 (0, 0))
theorem isPt.lt {w : World} {b : Nat} {v : Value} {f l : Int} (h : isPt w b v f l) : b < w.heap.size := lt_of_block h
theorem isPt.cells {w : World} {b : Nat} {v : Value} {f l : Int} (h : isPt w b v f l) : w.cell? ⟨b, 0, none⟩ = some v ∧ w.cell? ⟨b, 1, none⟩ = some (.int .i64 f) ∧ w.cell? ⟨b, 2, none⟩ = some (.int .i64 l) := by
  unfold isPt at h
  refine ⟨?_, ?_, ?_⟩ <;> simp [World.cell?, h]
theorem isPt.free {w : World} {b : Nat} {v : Value} {f l : Int} (h : isPt w b v f l) : w.frozen? ⟨b, 0, none⟩ = false ∧ w.frozen? ⟨b, 1, none⟩ = false ∧ w.frozen? ⟨b, 2, none⟩ = false := by
  unfold isPt at h
  refine ⟨?_, ?_, ?_⟩ <;> simp [World.frozen?, h]
theorem isPt.below {w w' : World} {b B : Nat} {v : Value} {f l : Int} (h : isPt w b v f l) (hB : Below B w w') (hb : b < B) : isPt w' b v f l := (hB.block b hb).trans h
theorem isPt.new (w : World) (v : Value) (f l : Int) : isPt (w.alloc (.cells #[v, .int .i64 f, .int .i64 l] 67)) w.heap.size v f l := heap_alloc_new w _
theorem isPt.stored {w : World} {b : Nat} {v : Value} {f l : Int} (h : isPt w b v f l) (v' : Value) (f' l' : Int) : isPt (((w.setCell ⟨b, 0, none⟩ v').setCell ⟨b, 1, none⟩ (.int .i64 f')).setCell ⟨b, 2, none⟩ (.int .i64 l')) b v' f' l' := by
  have h1 := heap_setCell_same w b 0 _ _ v' h
  have h2 := heap_setCell_same _ b 1 _ _ (.int .i64 f') h1
  have h3 := heap_setCell_same _ b 2 _ _ (.int .i64 l') h2
  unfold isPt
  rw [h3]
  simp
theorem grown_setCell (w : World) (b j : Nat) (v : Value) : w.grownBy (w.setCell ⟨b, j, none⟩ v) (some b) := by
  have h := (Below.refl b w).setCell (p := ⟨b, j, none⟩) (Nat.le_refl _) v
  refine ⟨h.os, h.tape, h.output, h.size, fun k _ hk => ?_⟩
  have : k ≠ b := fun e => hk (by rw [e])
  show (w.heap.modify b _)[k]? = _
  rw [Array.getElem?_modify, if_neg (Ne.symm this)]
theorem isPt.other {w : World} {b b' j : Nat} {v : Value} {f l : Int} (h : isPt w b v f l) (hb : b ≠ b') (u : Value) : isPt (w.setCell ⟨b', j, none⟩ u) b v f l :=
  ((grown_setCell w b' j u).block b h.lt (fun e => hb (by simpa using e))).trans h
theorem stO.other {w : World} {base g c b j : Nat} {L : List Sd} (h : stO w base g c L) (hb : b ≠ g) (u : Value) : stO (w.setCell ⟨b, j, none⟩ u) base g c L :=
  World.ownsRow.kept h (grown_setCell w b j u) (.inr (by simp [Value.ownBlock]; omega))
theorem below_pt3 {B : Nat} {a w : World} {c : Nat} (h : Below B a w) (hc : B ≤ c) (v' : Value) (f' l' : Int) : Below B a (((w.setCell ⟨c, 0, none⟩ v').setCell ⟨c, 1, none⟩ (.int .i64 f')).setCell ⟨c, 2, none⟩ (.int .i64 l')) :=
  ((h.setCell hc _).setCell hc _).setCell hc _
theorem stO.pt3 {w : World} {base g c b : Nat} {L : List Sd} (h : stO w base g c L) (hb : b ≠ g) (v' : Value) (f' l' : Int) : stO (((w.setCell ⟨b, 0, none⟩ v').setCell ⟨b, 1, none⟩ (.int .i64 f')).setCell ⟨b, 2, none⟩ (.int .i64 l')) base g c L :=
  ((h.other hb _).other hb _).other hb _

theorem stO.cellA {w : World} {base g c j : Nat} {L : List Sd} (h : stO w base g c L) (hj : j < L.length) : w.cell? ⟨g, j * 7 + 1, none⟩ = some (.int .i64 (sfn L j).A) :=
  h.cell _ _ (by rw [sds_get L j hj 1 (by decide), sfn_lt hj]; rfl)
theorem stO.cellB {w : World} {base g c j : Nat} {L : List Sd} (h : stO w base g c L) (hj : j < L.length) : w.cell? ⟨g, j * 7 + 2, none⟩ = some (.int .i64 (sfn L j).B) :=
  h.cell _ _ (by rw [sds_get L j hj 2 (by decide), sfn_lt hj]; rfl)
theorem stO.putI {w : World} {base g c : Nat} {L : List Sd} (h : stO w base g c L) (j : Nat) (a : Int) (A : Nat) (ha : a = A) : stO (w.setCell ⟨g, j * 7 + 1, none⟩ (.int .i64 a)) base g c (setA L j A) := by
  subst ha; exact h.putA j A
theorem stO.putJ {w : World} {base g c : Nat} {L : List Sd} (h : stO w base g c L) (j : Nat) (a : Int) (A : Nat) (ha : a = A) : stO (w.setCell ⟨g, j * 7 + 2, none⟩ (.int .i64 a)) base g c (setB L j A) := by
  subst ha; exact h.putB j A
/-- What Make does, at a node: its part's states, made behind some. -/
def mkPost (R : List Sd × Nat × Nat) (w : World) (e : Ending) (w' : World) : Prop :=
  ∃ g c, e = .returned (.agg #[.slice (some ⟨g, 0, none⟩) R.1.length c, .int .i64 (R.2.1 : Int), .int .i64 (R.2.2 : Int)]) ∧ stO w' w.heap.size g c R.1 ∧ Below w.heap.size w w'
def MkC (N : Nat → Nd) (n b off cap j : Nat) : Prop := ∀ (p : Option Addr) (c : Nat) (L : List Sd) (w : World), L.length + nst (trT N j) ≤ 1000 → srd w (.slice p L.length c) L → rdN w b off n N →
  Calls Try.prog 29 #[.slice (some ⟨b, off, none⟩) n cap, .int .i64 (j : Int), .slice p L.length c] w (mkPost (mkF (trT N j) L) w)
theorem build_st0 (k : Int) (w : World) : (Instr.build 58 #[(0, .int .i64 k)]).run Try.prog w = .ok (.agg #[.int .i64 k, .int .i64 0, .int .i64 0, .int .u64 0, .int .u64 0, .int .u64 0, .int .u64 0]) w := by kernel_rfl
theorem build_stA (k A : Int) (w : World) : (Instr.build 58 #[(0, .int .i64 k), (1, .int .i64 A)]).run Try.prog w = .ok (.agg #[.int .i64 k, .int .i64 A, .int .i64 0, .int .u64 0, .int .u64 0, .int .u64 0, .int .u64 0]) w := by kernel_rfl
theorem build_stAB (k A B : Int) (w : World) : (Instr.build 58 #[(0, .int .i64 k), (1, .int .i64 A), (2, .int .i64 B)]).run Try.prog w = .ok (.agg #[.int .i64 k, .int .i64 A, .int .i64 B, .int .u64 0, .int .u64 0, .int .u64 0, .int .u64 0]) w := by kernel_rfl
theorem build_stS (k a b c d A : Int) (w : World) : (Instr.build 58 #[(0, .int .i64 k), (3, .agg #[.int .u64 a, .int .u64 b, .int .u64 c, .int .u64 d]), (1, .int .i64 A)]).run Try.prog w = .ok (.agg #[.int .i64 k, .int .i64 A, .int .i64 0, .int .u64 a, .int .u64 b, .int .u64 c, .int .u64 d]) w := by kernel_rfl
theorem build_pt (p : Option Addr) (n c : Nat) (f l : Int) (w : World) : (Instr.build 67 #[(0, .slice p n c), (1, .int .i64 f), (2, .int .i64 l)]).run Try.prog w = .ok (.agg #[.slice p n c, .int .i64 f, .int .i64 l]) w := by kernel_rfl
theorem wpList_build_st0 {ops : Array Oper} {rest : List Oper} {o : Oper} {a : Act} {w : World} {Q : Exit → Act → World → Prop} (hgd : o.guard = none) (x : Operand) (ho : o.op = .build 58 #[(0, x)])
    (k : Int) (hx : a.eval x = .int .i64 k)
    (h : wpList Try.prog ops Q rest (a.put o.dst (.agg #[.int .i64 k, .int .i64 0, .int .i64 0, .int .u64 0, .int .u64 0, .int .u64 0, .int .u64 0])) w) : wpList Try.prog ops Q (o :: rest) a w :=
  wpList_plain hgd fun K hK => by
    have hb := build_st0 k w
    have hm : (#[(0, x)] : Array (Nat × Operand)).map (fun (i, v) => (i, a.eval v)) = #[(0, a.eval x)] := by simp
    unfold Oper.wp execOp
    simp only [ho]
    rw [hm, hx]
    simp only [Sem.run_bind, hb, Result.andThen_ok]
    exact hK _ _ h
theorem wpList_build_stA {ops : Array Oper} {rest : List Oper} {o : Oper} {a : Act} {w : World} {Q : Exit → Act → World → Prop} (hgd : o.guard = none) (x y : Operand) (ho : o.op = .build 58 #[(0, x), (1, y)])
    (k A : Int) (hx : a.eval x = .int .i64 k) (hy : a.eval y = .int .i64 A)
    (h : wpList Try.prog ops Q rest (a.put o.dst (.agg #[.int .i64 k, .int .i64 A, .int .i64 0, .int .u64 0, .int .u64 0, .int .u64 0, .int .u64 0])) w) : wpList Try.prog ops Q (o :: rest) a w :=
  wpList_plain hgd fun K hK => by
    have hb := build_stA k A w
    have hm : (#[(0, x), (1, y)] : Array (Nat × Operand)).map (fun (i, v) => (i, a.eval v)) = #[(0, a.eval x), (1, a.eval y)] := by simp
    unfold Oper.wp execOp
    simp only [ho]
    rw [hm, hx, hy]
    simp only [Sem.run_bind, hb, Result.andThen_ok]
    exact hK _ _ h
theorem wpList_build_stAB {ops : Array Oper} {rest : List Oper} {o : Oper} {a : Act} {w : World} {Q : Exit → Act → World → Prop} (hgd : o.guard = none) (x y z : Operand) (ho : o.op = .build 58 #[(0, x), (1, y), (2, z)])
    (k A B : Int) (hx : a.eval x = .int .i64 k) (hy : a.eval y = .int .i64 A) (hz : a.eval z = .int .i64 B)
    (h : wpList Try.prog ops Q rest (a.put o.dst (.agg #[.int .i64 k, .int .i64 A, .int .i64 B, .int .u64 0, .int .u64 0, .int .u64 0, .int .u64 0])) w) : wpList Try.prog ops Q (o :: rest) a w :=
  wpList_plain hgd fun K hK => by
    have hb := build_stAB k A B w
    have hm : (#[(0, x), (1, y), (2, z)] : Array (Nat × Operand)).map (fun (i, v) => (i, a.eval v)) = #[(0, a.eval x), (1, a.eval y), (2, a.eval z)] := by simp
    unfold Oper.wp execOp
    simp only [ho]
    rw [hm, hx, hy, hz]
    simp only [Sem.run_bind, hb, Result.andThen_ok]
    exact hK _ _ h
end Go.Proofs.Ytdhplphgackjaaa
