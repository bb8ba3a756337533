/-
  An append of a row of nodes to another one.
  The walk of the fifth reference's either, given behind.
-/
import Derived.Test.YtiahgcgpakgeeaaDoorPk4
import Derived.Test.YtiahgcgpakgeeaaDoorPk5
namespace Go.Proofs.YtiahgcgpakgeeaaDoor
open Go.RowKit

theorem append_nds {w : World} {ops : Array Oper} {rest : List Oper} {o : Oper} {a : Act} {Q : Exit → Act → World → Prop} (hgd : o.guard = none) (s x : Operand)
    (ho : o.op = .call { callee := .builtin .append, args := #[s, x], argTypes := #[24, 24] }) (base : Nat) (v : Value) (l : List Nd) (hs : a.eval s = v)
    (hown : w.ownsRow base 37 7 v l.length (nds l)) (g c : Nat) (m : List Nd) (k : Nat) (hk : k = m.length) (hx : a.eval x = .slice (some ⟨g, 0, none⟩) k c)
    (hcell : ∀ j u, (nds m)[j]? = some u → w.cell? ((⟨g, 0, none⟩ : Addr).add j) = some u) (hlen : l.length + m.length ≤ 100000) (hbase : base ≤ w.heap.size)
    (h : ∀ v' w', w'.ownsRow base 37 7 v' (l ++ m).length (nds (l ++ m)) → Below base w w' → wpList Tryd.prog ops Q rest (a.put o.dst v') w') : wpList Tryd.prog ops Q (o :: rest) a w := by
  subst hk
  obtain ⟨i0, hi, hz0, hz1, hz2⟩ := info_parts infoNode
  refine wpList_append_own w hgd s x 24 ho base 37 i0 (.agg #[.int .i64 0, .int .u64 0, .int .u64 0, .int .u64 0, .int .u64 0, .int .i64 0, .int .i64 0]) 7 56 Tryd.underlying24 hi hz0 hz1 hz2 rfl (by decide) v l.length (nds l) hs hown ⟨g, 0, none⟩ m.length c (nds m) hx (nds_len m) hcell (nds_cell m) (by unfold maxLen; omega) (by omega) hbase ?_
  intro v' w' h1 h2 _
  refine h v' w' ?_ ?_
  · rw [nds_append, List.length_append]; exact h1
  · refine ⟨h2.os, h2.tape, h2.output, h2.size, fun k hk => ?_⟩
    refine h2.block k (by omega) fun e => ?_
    have := (hown.lt k e.symm).1
    omega

theorem wp_append_nds {w : World} {o : Oper} {a : Act} {K : Act → World → Prop} {Q : Exit → Act → World → Prop} (s x : Operand)
    (ho : o.op = .call { callee := .builtin .append, args := #[s, x], argTypes := #[24, 24] }) (base : Nat) (v : Value) (l : List Nd) (hs : a.eval s = v)
    (hown : w.ownsRow base 37 7 v l.length (nds l)) (g c : Nat) (m : List Nd) (k : Nat) (hk : k = m.length) (hx : a.eval x = .slice (some ⟨g, 0, none⟩) k c)
    (hcell : ∀ j u, (nds m)[j]? = some u → w.cell? ((⟨g, 0, none⟩ : Addr).add j) = some u) (hlen : l.length + m.length ≤ 100000) (hbase : base ≤ w.heap.size)
    (h : ∀ v' w', w'.ownsRow base 37 7 v' (l ++ m).length (nds (l ++ m)) → Below base w w' → K (a.put o.dst v') w') : o.wp Tryd.prog a w K Q := by
  subst hk
  obtain ⟨i0, hi, hz0, hz1, hz2⟩ := info_parts infoNode
  refine wp_append_own w s x 24 ho base 37 i0 (.agg #[.int .i64 0, .int .u64 0, .int .u64 0, .int .u64 0, .int .u64 0, .int .i64 0, .int .i64 0]) 7 56 Tryd.underlying24 hi hz0 hz1 hz2 rfl (by decide) v l.length (nds l) hs hown ⟨g, 0, none⟩ m.length c (nds m) hx (nds_len m) hcell (nds_cell m) (by unfold maxLen; omega) (by omega) hbase ?_
  intro v' w' h1 h2 _
  refine h v' w' ?_ ?_
  · rw [nds_append, List.length_append]; exact h1
  · refine ⟨h2.os, h2.tape, h2.output, h2.size, fun k hk => ?_⟩
    refine h2.block k (by omega) fun e => ?_
    have := (hown.lt k e.symm).1
    omega
theorem lit_nd (w : World) (x : Nd) : ∀ j u, (nds [x])[j]? = some u → (w.alloc (.cells #[.int .i64 x.k, .int .u64 x.a, .int .u64 x.b, .int .u64 x.c, .int .u64 x.d, .int .i64 x.lo, .int .i64 x.hi] 37)).cell? ((⟨w.heap.size, 0, none⟩ : Addr).add j) = some u := by
  intro j u hu
  rw [nds_one] at hu
  unfold ncs at hu
  match j, hu with
  | 0, hu => simp at hu; subst hu; simp [Addr.add]
  | 1, hu => simp at hu; subst hu; simp [Addr.add]
  | 2, hu => simp at hu; subst hu; simp [Addr.add]
  | 3, hu => simp at hu; subst hu; simp [Addr.add]
  | 4, hu => simp at hu; subst hu; simp [Addr.add]
  | 5, hu => simp at hu; subst hu; simp [Addr.add]
  | 6, hu => simp at hu; subst hu; simp [Addr.add]

theorem lit_owns (w : World) (base : Nat) (hb : base ≤ w.heap.size) (x : Nd) : (w.alloc (.cells #[.int .i64 x.k, .int .u64 x.a, .int .u64 x.b, .int .u64 x.c, .int .u64 x.d, .int .i64 x.lo, .int .i64 x.hi] 37)).ownsRow base 37 7 (.slice (some ⟨w.heap.size, 0, none⟩) 1 1) [x].length (nds [x]) := by
  have := World.ownsRow_lit (e := 37) (size := 7) w #[.int .i64 x.k, .int .u64 x.a, .int .u64 x.b, .int .u64 x.c, .int .u64 x.d, .int .i64 x.lo, .int .i64 x.hi] 1 hb (by unfold maxLen; omega) rfl
  rw [nds_one]; exact this

/-- What is told: a row of nodes, and a place. -/
def ndPost (r : List Nd × Nat) (w : World) (e : Ending) (w' : World) : Prop :=
  ∃ v, e = .returned (.tuple #[v, .int .i64 (r.2 : Int)]) ∧ w'.ownsRow w.heap.size 37 7 v r.1.length (nds r.1) ∧ Below w.heap.size w w'
theorem ndPost.mk {r : List Nd × Nat} {w w' : World} {v : Value} {x : Int} (l : List Nd) (i : Nat) (hr : r = (l, i)) (hx : x = i) (ho : w'.ownsRow w.heap.size 37 7 v l.length (nds l)) (hb : Below w.heap.size w w') : ndPost r w (.returned (.tuple #[v, .int .i64 x])) w' := by
  subst hr hx; exact ⟨v, rfl, ho, hb⟩
end Go.Proofs.YtiahgcgpakgeeaaDoor

namespace Go.Proofs.YtiahgcgpakgeeaaDoor
open Go.RowKit

set_option maxRecDepth 100000 in
set_option maxHeartbeats 4000000 in
theorem either_of (T : Nat → Tn) (n m b off cap : Nat) (e : Nat → List Nd × Nat) (hn : n ≤ 1000) (hk : eOk n m e)
    (hB : ∀ a, m ≤ a + 1 → a ≤ n → ∀ w, rdTn w b off n T → Calls Tryd.prog 19 #[.slice (some ⟨b, off, none⟩) n cap, .int .i64 (a : Int)] w (ndPost (bhF T n e a) w))
    (a : Nat) (h1 : m ≤ a + 1) (h2 : a ≤ n) (w : World) (hr : rdTn w b off n T) :
    Calls Tryd.prog 12 #[.slice (some ⟨b, off, none⟩) n cap, .int .i64 (a : Int)] w (ndPost (eiF T n e a) w) := by
  obtain ⟨R, hR⟩ : ∃ R, eiF T n e a = R := ⟨_, rfl⟩
  rw [hR]
  have HBB := Lib.hid hB
  have HQ0 := Lib.hid (hB a h1 h2)
  have hbd := bhF_bd (T := T) hk a h1 h2
  obtain ⟨⟨l0, j0⟩, hl0⟩ : ∃ r, bhF T n e a = r := ⟨_, rfl⟩
  have HR : Hid (eiL T n e (n + 2) j0 l0 = R) := Lib.hid (by rw [← hR]; unfold eiF; rw [hl0])
  rw [hl0] at hbd
  simp only at hbd
  have HL0 := Lib.hid hl0
  have HRD := Lib.hid hr
  have HKK := Lib.hid hk
  clear hR hB hl0 hr hk
  go_enter Tryd.func12, Tryd.ntmps12
  go_wp2_with fail
  refine (HQ0.out _ HRD.out).mono ?_
  rw [HL0.out]
  rintro e1 w1 ⟨v, rfl, hown, hb⟩
  have HO1 := Lib.hid hown
  have HB1 := Lib.hid hb
  clear hown hb HQ0 HL0
  go_wp2_with fail
  go_loopw [6, 7] (fun v i wr => ∃ (i0 u : Nat) (acc : List Nd), i = .int .i64 (i0 : Int) ∧ a ≤ i0 ∧ i0 + a ≤ 2 * n + 1 ∧ 1 ≤ acc.length ∧ acc.length + 2 * a ≤ 2 * i0 + 1 ∧ wr.ownsRow w.heap.size 37 7 v acc.length (nds acc) ∧ Below w.heap.size w wr ∧ Hid (eiL T n e u i0 acc = R ∧ n + 1 ≤ u + i0)) (fun _ i _ => 3000 - (intOf i).toNat)
  case atStart => exact ⟨j0, n + 2, l0, rfl, by omega, by omega, by omega, by omega, HO1.out, HB1.out, Lib.hid ⟨HR.out, by omega⟩⟩
  case round =>
    obtain ⟨i, u, acc, rfl, q1, q2, q3, q4, hown, hW, hh⟩ := hrel
    clear HO1 HB1 HR hbd
    have hsz := hW.size
    have i0 : (0 : Int) ≤ (i : Int) := by omega
    have ib : (i : Int) ≤ 2001 := by omega
    by_cases hlt : i < n
    · have d0 : decide ((i : Int) < (n : Int)) = true := decide_eq_true (by omega)
      have ilt : (i : Int) < (n : Int) := by omega
      have hc := ((HRD.out.below hW) i hlt).2.1
      obtain ⟨kk, hkk⟩ : ∃ kk, (T i).k = kk := ⟨_, rfl⟩
      rw [hkk] at hc
      by_cases h5 : kk = 2
      · subst h5
        have hbf := bhF_bd (T := T) HKK.out (i + 1) (by omega) (by omega)
        have HQ := Lib.hid (HBB.out (i + 1) (by omega) (by omega))
        obtain ⟨⟨l1, j1⟩, hl1⟩ : ∃ r, bhF T n e (i + 1) = r := ⟨_, rfl⟩
        have HE : Hid (∃ u', eiL T n e u' j1 (acc ++ l1 ++ [nd0 6]) = R ∧ n + 1 ≤ u' + j1) := Lib.hid (by
          obtain ⟨x1, x2⟩ := hh.out
          obtain ⟨u', rfl⟩ : ∃ u', u = u' + 1 := ⟨u - 1, by omega⟩
          rw [hl1] at hbf
          simp only at hbf
          refine ⟨u', ?_, by omega⟩
          rw [← x1]
          conv => rhs; unfold eiL
          rw [if_pos ⟨hlt, hkk⟩, hl1])
        rw [hl1] at hbf HQ
        simp only at hbf
        have HW := Lib.hid hW
        have HO := Lib.hid hown
        have hcast : ((i + 1 : Nat) : Int) = (i : Int) + 1 := by omega
        rw [hcast] at HQ
        clear hh hkk hl1 hW hown hcast
        go_wp2_with fail
        refine (HQ.out _ (HRD.out.below HW.out)).mono ?_
        rintro e2 w2 ⟨v2, rfl, ho2, hb⟩
        obtain ⟨g2, c2, rfl, _, hg2, hcell⟩ := owns_block ho2 (by simp only; omega)
        have HO2 := Lib.hid (owns_below HO.out hb)
        have HW2 := Lib.hid (HW.out.trans (hb.mono hsz))
        have HC := Lib.hid hcell
        clear ho2 hb hcell HO HW HQ hc
        simp only
        go_wp2_with (at_builtin; refine append_nds rfl _ _ rfl w.heap.size _ acc rfl HO2.out g2 c2 l1 _ rfl rfl HC.out (by omega) HW2.out.size ?_; intro v3 w3 h3 hb3; refine Hid.out ?_)
        have HO3 := Lib.hid h3
        have HW3 := Lib.hid (HW2.out.trans hb3)
        clear h3 hb3 HO2 HW2 HC
        refine Lib.hid ?_
        go_wp2_with (at_builtin; refine append_nds rfl _ _ rfl w.heap.size _ (acc ++ l1) rfl (HO3.out.alloc _) w3.heap.size 1 [nd0 6] 1 rfl rfl (lit_nd w3 (nd0 6)) (by simp; omega) (by have := HW3.out.size; simp; omega) ?_; intro v4 w4 h4 hb4; refine Hid.out ?_)
        have HO4 := Lib.hid h4
        have HW4 := Lib.hid ((HW3.out.alloc HW3.out.size _).trans hb4)
        clear h4 hb4 HO3 HW3
        refine Lib.hid ?_
        go_wp2
        go_roundw
        case rel =>
          obtain ⟨u', y1, y2⟩ := HE.out
          exact ⟨j1, u', acc ++ l1 ++ [nd0 6], rfl, by omega, by omega, by simp; omega, by simp; omega, HO4.out, HW4.out, Lib.hid ⟨y1, y2⟩⟩
        case measure => simp [intOf]; omega
      · have d1 : (kk == 2) = false := beq_eq_false_iff_ne.2 h5
        have HE : Hid (R = (acc, i)) := Lib.hid (by
          obtain ⟨x1, x2⟩ := hh.out
          rw [← x1]
          cases u with
          | zero => rfl
          | succ u => unfold eiL; rw [if_neg (fun hc => h5 (by rw [← hkk]; exact hc.2))])
        have HW := Lib.hid hW
        have HO := Lib.hid hown
        clear hh hkk hW hown h5
        go_wp2
        go_ret2
        exact ndPost.mk acc i HE.out rfl HO.out HW.out
    · have d0 : decide ((i : Int) < (n : Int)) = false := decide_eq_false (by omega)
      have HE : Hid (R = (acc, i)) := Lib.hid (by
        obtain ⟨x1, x2⟩ := hh.out
        rw [← x1]
        cases u with
        | zero => rfl
        | succ u => unfold eiL; rw [if_neg (fun hc => hlt hc.1)])
      have HW := Lib.hid hW
      have HO := Lib.hid hown
      clear hh hW hown
      go_wp2
      go_ret2
      exact ndPost.mk acc i HE.out rfl HO.out HW.out
end Go.Proofs.YtiahgcgpakgeeaaDoor
