/-
  What Kids tells of a node of a tree lies in a block of its own.
  The walk of turn.put, a kind of node at a time, and by recursion.
  The code's Of and Text do as the page says.
  A slice of nodes that comes in as an argument, opened: the nodes that its cells are, their words such as words may be.
  The door's own heap meets the conditions on the four package-level variables of ShowTexts' row.
-/
import Derived.Test.YtjbmkbgoahppfaaDoorPk20
import Derived.Test.YtjbmkbgoahppfaaDoorPk28
import Derived.Test.YtjbmkbgoahppfaaDoorPk3
import Derived.Test.YtjbmkbgoahppfaaDoorPk18
import Derived.Laws.IdiomStrings
import Derived.Test.YtjbmkbgoahppfaaDoorRows
import Derived.ProofKit
import Derived.OpenShut
import Derived.Below
import Derived.Laws.IdiomArrays
import Derived.Lib.SmallJoins
import Derived.Deep.Slices
import Derived.ChangeSame
import Derived.Test.YtjbmkbgoahppfaaDoorPk16
namespace Go.Proofs.YtjbmkbgoahppfaaDoor
open Go.RowKit

set_option maxHeartbeats 1000000 in
theorem kids_none8 (b off n cap i : Nat) (N : Nat → Nd) (hn : n ≤ 1000) (hi : i < n) (hf : 0 ≤ fst N i) (ha : ar (N i).k = 0) (w : World) (hr : rdN w b off n N) :
    Calls Tryd.prog 30 #[.slice (some ⟨b, off, none⟩) n cap, .int .i64 (i : Int)] w fun e w' => ∃ p, e = .returned (.slice p 0 0) ∧ Below w.heap.size w w' := by
  have hc := (hr i hi).2.1
  have hb := (hr i hi).1
  have h0 : (0 : Int) ≤ (i : Int) := by omega
  have h1 : (i : Int) < (n : Int) := by omega
  have t0 : decide (fst N i < 0) = false := decide_eq_false (by omega)
  have HR := Lib.hid hr
  clear hr
  have hib : (i : Int) < 1000 := by omega
  have HA := Lib.hid ha
  have hmk := mk0
  clear ha
  go_enter Tryd.func30, Tryd.ntmps30
  go_wp2_with fail
  refine (first_in _ _ _ _ _ _ hn hi _ HR.out).mono ?_; rintro e w' ⟨rfl, rfl⟩
  go_wp2_with fail
  refine (args_any _ _).mono ?_; rintro e w' ⟨rfl, rfl⟩; rw [HA.out]
  go_wp2_with fail
  refine wp_loop_rounds 1 ?_
  rw [rounds_succ]; go_wp2
  go_ret
  exact ⟨_, rfl, (Below.refl _ _).alloc (Nat.le_refl _) _⟩
set_option maxHeartbeats 1000000 in
theorem kids_one8 (b off n cap j : Nat) (N : Nat → Nd) (hn : n ≤ 1000) (hi : j + 1 < n) (hf : 0 ≤ fst N (j + 1)) (ha : ar (N (j + 1)).k = 1) (w : World) (hr : rdN w b off n N) :
    Calls Tryd.prog 30 #[.slice (some ⟨b, off, none⟩) n cap, .int .i64 ((j + 1 : Nat) : Int)] w fun e w' =>
      e = .returned (.slice (some ⟨w.heap.size, 0, none⟩) 1 1) ∧ w'.heap[w.heap.size]? = some (.cells #[.int .i64 (j : Int)] 3 (0, 0)) ∧ Below w.heap.size w w' := by
  have hc := (hr _ hi).2.1
  have hb := (hr _ hi).1
  have h0 : (0 : Int) ≤ ((j + 1 : Nat) : Int) := by omega
  have h1 : ((j + 1 : Nat) : Int) < (n : Int) := by omega
  have t0 : decide (fst N (j + 1) < 0) = false := decide_eq_false (by omega)
  have HR := Lib.hid hr
  clear hr
  have hib : ((j + 1 : Nat) : Int) < 1000 := by omega
  have HA := Lib.hid ha
  have hmk := mk1
  clear ha
  go_enter Tryd.func30, Tryd.ntmps30
  go_wp2_with fail
  refine (first_in _ _ _ _ _ _ hn hi _ HR.out).mono ?_; rintro e w' ⟨rfl, rfl⟩
  go_wp2_with fail
  refine (args_any _ _).mono ?_; rintro e w' ⟨rfl, rfl⟩; rw [HA.out]
  go_wp2_with fail
  refine wp_loop_rounds 2 ?_
  rw [rounds_succ]; go_wp2_with fail
  refine (first_in b off n cap j N hn (by omega) _ ?hx).mono ?_
  case hx => exact HR.out.below (by go_grown)
  rintro e w' ⟨rfl, rfl⟩
  go_wp2
  rw [rounds_succ]; go_wp2
  go_ret
  refine ⟨rfl, ?_, by go_grown⟩
  exact heap_alloc_new w _
set_option maxHeartbeats 1000000 in
theorem kids_two8 (b off n cap j q : Nat) (N : Nat → Nd) (hn : n ≤ 1000) (hi : j + 1 < n) (hf : 0 ≤ fst N (j + 1)) (ha : ar (N (j + 1)).k = 2) (hff : fst N j = ((q + 1 : Nat) : Int)) (hq : q + 1 ≤ j) (w : World) (hr : rdN w b off n N) :
    Calls Tryd.prog 30 #[.slice (some ⟨b, off, none⟩) n cap, .int .i64 ((j + 1 : Nat) : Int)] w fun e w' =>
      e = .returned (.slice (some ⟨w.heap.size, 0, none⟩) 2 2) ∧ w'.heap[w.heap.size]? = some (.cells #[.int .i64 (q : Int), .int .i64 (j : Int)] 3 (0, 0)) ∧ Below w.heap.size w w' := by
  have hc := (hr _ hi).2.1
  have hb := (hr _ hi).1
  have h0 : (0 : Int) ≤ ((j + 1 : Nat) : Int) := by omega
  have h1 : ((j + 1 : Nat) : Int) < (n : Int) := by omega
  have t0 : decide (fst N (j + 1) < 0) = false := decide_eq_false (by omega)
  have HR := Lib.hid hr
  clear hr
  have hib : ((j + 1 : Nat) : Int) < 1000 := by omega
  have HA := Lib.hid ha; have HF := Lib.hid hff
  have hmk := mk2
  clear ha hff
  go_enter Tryd.func30, Tryd.ntmps30
  go_wp2_with fail
  refine (first_in _ _ _ _ _ _ hn hi _ HR.out).mono ?_; rintro e w' ⟨rfl, rfl⟩
  go_wp2_with fail
  refine (args_any _ _).mono ?_; rintro e w' ⟨rfl, rfl⟩; rw [HA.out]
  go_wp2_with fail
  refine wp_loop_rounds 3 ?_
  rw [rounds_succ]; go_wp2_with fail
  refine (first_in b off n cap j N hn (by omega) _ ?hx).mono ?_
  case hx => exact HR.out.below (by go_grown)
  rintro e w' ⟨rfl, rfl⟩
  rw [HF.out]
  go_wp2_with fail
  rw [rounds_succ]; go_wp2_with fail
  refine (first_in b off n cap q N hn (by omega) _ ?hy).mono ?_
  case hy => exact HR.out.below (by go_grown)
  rintro e w' ⟨rfl, rfl⟩
  go_wp2
  rw [rounds_succ]; go_wp2
  go_ret
  refine ⟨rfl, ?_, by go_grown⟩
  exact heap_alloc_new w _
end Go.Proofs.YtjbmkbgoahppfaaDoor

namespace Go.Proofs.YtjbmkbgoahppfaaDoor
open Go.RowKit

/-- What put does, at a node: it puts its part, turned, behind the nodes that it gets. -/
def PutC (N : Nat → Nd) (n b off cap j : Nat) : Prop := ∀ (B : Nat) (L : List Nd) (v : Value) (w : World), b < B → B ≤ w.heap.size → w.ownsRow B 45 7 v L.length (nds L) → L.length + (ptL N j).length ≤ 2000 → rdN w b off n N →
  Calls Tryd.prog 18 #[v, .slice (some ⟨b, off, none⟩) n cap, .int .i64 (j : Int)] w fun e w' => ∃ v', e = .returned v' ∧ w'.ownsRow B 45 7 v' (L ++ ptL N j).length (nds (L ++ ptL N j)) ∧ kpt B w w'
theorem nd_zero8 {x : Nd} (h : okN x = true) (hk : x.k ≠ 1) (h7 : x.k ≠ 7) : x = nd0 x.k := by
  obtain ⟨z1, z2, z3, z4⟩ := okN_zero h hk
  obtain ⟨y1, y2⟩ := okN_lohi h h7
  obtain ⟨k, a, b, c, d, lo, hi⟩ := x
  simp only at z1 z2 z3 z4 y1 y2
  subst z1 z2 z3 z4 y1 y2
  rfl
theorem trnN_k8 (x : Nd) : (trnN x).k = if x.k = 3 then 4 else if x.k = 4 then 3 else x.k := by
  unfold trnN
  split
  · rfl
  · split <;> rfl
theorem trnN_eta8 (x : Nd) : trnN x = ⟨(trnN x).k, x.a, x.b, x.c, x.d, x.lo, x.hi⟩ := by
  unfold trnN
  split
  · rfl
  · split <;> rfl
theorem kpt.ints {B g : Nat} {w w' : World} {c : Array Value} (h : kpt B w w') (hk : w.heap[g]? = some (.cells c 3 (0, 0))) : w'.heap[g]? = some (.cells c 3 (0, 0)) := h.2 g c 3 (0, 0) hk (by decide)
theorem below_ints {g : Nat} {w0 w w' : World} (h : w.grownBy w' (some g)) (h0 : Below w0.heap.size w0 w) (hw0 : w0.heap.size ≤ g) : Below w0.heap.size w0 w' :=
  ⟨h.os.trans h0.os, h.tape.trans h0.tape, h.output.trans h0.output, Nat.le_trans h0.size h.size, fun k hk => by
    rw [h.block k (by have := h0.size; omega) (fun e => by have : k = g := by simpa using e
                                                           omega)]
    exact h0.block k hk⟩

set_option maxRecDepth 100000 in
set_option maxHeartbeats 2000000 in
theorem put_leaf (N : Nat → Nd) (n b off cap : Nat) (hn : n ≤ 512) (i : Nat) (hi : i < n) (hf : 0 ≤ fst N i) (hk : (N i).k = 1 ∨ (N i).k = 2 ∨ (N i).k = 3 ∨ (N i).k = 4) : PutC N n b off cap (i) := by
  intro B L v w hbB hBw ho hlen hr
  have HRW := Lib.hid hr
  have HOW := Lib.hid ho
  have HBB := Lib.hid hBw
  have HPT : Hid (ptL N i = [trnN (N i)]) := Lib.hid (ptL_leaf hk)
  have HAR : ar (N i).k = 0 := by rcases hk with h | h | h | h <;> (rw [h]; rfl)
  have e5 : ((N i).k == 5) = false := beq_eq_false_iff_ne.2 (by omega)
  have HKI := Lib.hid (kids_none8 b off n cap i N (by omega) hi hf HAR w hr)
  have HTN : Hid (trnN (N i) = ⟨(trnN (N i)).k, (N i).a, (N i).b, (N i).c, (N i).d, (N i).lo, (N i).hi⟩) := Lib.hid (trnN_eta8 _)
  have HM : Hid ((trnN (N i)).k = if (N i).k = 3 then 4 else if (N i).k = 4 then 3 else (N i).k) := Lib.hid (trnN_k8 _)
  have HLN : Hid (L.length + (ptL N (i)).length ≤ 2000) := Lib.hid hlen
  have i0 : (0 : Int) ≤ ((i : Nat) : Int) := by omega
  have i1 : ((i : Nat) : Int) < (n : Int) := by omega
  clear hlen hr ho HAR hBw hf hk
  go_enter Tryd.func18, Tryd.ntmps18
  go_wp2_with fail
  refine HKI.out.mono ?_
  rintro e w1 ⟨kp, rfl, hb⟩
  have HRD1 := Lib.hid (HRW.out.below hb)
  have HO1 := Lib.hid (owns_below HOW.out hb)
  have HK1 := Lib.hid (kpt.of_below HBB.out hb)
  have HS1 := Lib.hid (Nat.le_trans HBB.out hb.size)
  have hgB : B ≤ w.heap.size := HBB.out
  
  obtain ⟨hbl, p0, -⟩ := HRD1.out (i) hi
  clear hb HKI
  go_wp2_with fail
  refine wp_loop_rounds 1 ?_
  rw [rounds_succ]
  obtain ⟨hbl, p0, p1, p2, p3, p4, p5, p6⟩ := HRD1.out (i) hi
  have HE : Hid ((L) ++ [(⟨(trnN (N (i))).k, (N (i)).a, (N (i)).b, (N (i)).c, (N (i)).d, (N (i)).lo, (N (i)).hi⟩ : Nd)] = L ++ ptL N (i)) := Lib.hid (by rw [HPT.out, ← HTN.out])
  have HL2 : Hid ((L).length + [(⟨(trnN (N (i))).k, (N (i)).a, (N (i)).b, (N (i)).c, (N (i)).d, (N (i)).lo, (N (i)).hi⟩ : Nd)].length ≤ 100000) := Lib.hid (by have := HLN.out; rw [HPT.out] at this; simp only [List.length_cons, List.length_nil] at this ⊢; omega)
  generalize (trnN (N (i))).k = m at *
  generalize N (i) = x at *
  clear HTN HPT
  go_wp2_with fail
  refine (alone_is x.k x.a x.b x.c x.d x.lo x.hi m HM.out _).mono ?_
  rintro e w8 ⟨rfl, hb8⟩
  have HO8 := Lib.hid (owns_below HO1.out hb8)
  have HK8 := Lib.hid (HK1.out.trans (kpt.of_below HS1.out hb8))
  have HS8 := Lib.hid (Nat.le_trans HS1.out hb8.size)
  clear hb8
  go_wp2_with (at_builtin; refine append_put rfl _ _ rfl B _ (L) rfl (HO8.out.alloc _) w8.heap.size 1 [(⟨m, x.a, x.b, x.c, x.d, x.lo, x.hi⟩ : Nd)] 1 rfl rfl (lit_nd w8 (⟨m, x.a, x.b, x.c, x.d, x.lo, x.hi⟩ : Nd)) HL2.out (by have := HS8.out; rw [World.size_alloc]; omega) ?_; intro v9 w9 h9 hk9; refine Hid.out ?_)
  have HK9 := Lib.hid ((HK8.out.trans (kpt.of_below HS8.out ((Below.refl _ _).alloc (Nat.le_refl _) _))).trans hk9)
  rw [HE.out] at h9
  have HO9 := Lib.hid h9
  clear h9 hk9
  refine Lib.hid ?_
  go_wp2_with fail
  go_ret
  exact ⟨_, rfl, HO9.out, HK9.out⟩

set_option maxRecDepth 100000 in
set_option maxHeartbeats 2000000 in
theorem put_rep (N : Nat → Nd) (n b off cap : Nat) (hn : n ≤ 512) (p : Nat) (hi : p + 1 < n) (hok : okN (N (p + 1)) = true) (hf : 0 ≤ fst N (p + 1)) (hk : (N (p + 1)).k = 7) (HP1 : PutC N n b off cap p) : PutC N n b off cap (p + 1) := by
  intro B L v w hbB hBw ho hlen hr
  have HRW := Lib.hid hr
  have HOW := Lib.hid ho
  have HBB := Lib.hid hBw
  have HPT : Hid (ptL N (p + 1) = ptL N p ++ [trnN (N (p + 1))]) := Lib.hid (by rw [ptL_one hok hk]; unfold trnN; rw [if_neg (by omega), if_neg (by omega)])
  have HAR : ar (N (p + 1)).k = 1 := by rw [hk]; rfl
  have HKI := Lib.hid (kids_one8 b off n cap p N (by omega) hi hf HAR w hr)
  have e5 : ((N (p + 1)).k == 5) = false := beq_eq_false_iff_ne.2 (by omega)
  have HTN : Hid (trnN (N (p + 1)) = ⟨(trnN (N (p + 1))).k, (N (p + 1)).a, (N (p + 1)).b, (N (p + 1)).c, (N (p + 1)).d, (N (p + 1)).lo, (N (p + 1)).hi⟩) := Lib.hid (trnN_eta8 _)
  have HM : Hid ((trnN (N (p + 1))).k = if (N (p + 1)).k = 3 then 4 else if (N (p + 1)).k = 4 then 3 else (N (p + 1)).k) := Lib.hid (trnN_k8 _)
  have HPC1 := Lib.hid HP1
  have HLN : Hid (L.length + (ptL N (p + 1)).length ≤ 2000) := Lib.hid hlen
  have i0 : (0 : Int) ≤ ((p + 1 : Nat) : Int) := by omega
  have i1 : ((p + 1 : Nat) : Int) < (n : Int) := by omega
  clear hlen hr ho HAR hBw hf hk hok HP1
  go_enter Tryd.func18, Tryd.ntmps18
  go_wp2_with fail
  refine HKI.out.mono ?_
  rintro e w1 ⟨rfl, hg, hb⟩
  have HG1 := Lib.hid hg
  clear hg
  have HRD1 := Lib.hid (HRW.out.below hb)
  have HO1 := Lib.hid (owns_below HOW.out hb)
  have HK1 := Lib.hid (kpt.of_below HBB.out hb)
  have HS1 := Lib.hid (Nat.le_trans HBB.out hb.size)
  have hgB : B ≤ w.heap.size := HBB.out
  obtain ⟨g, hgg⟩ : ∃ g, w.heap.size = g := ⟨_, rfl⟩
  rw [hgg] at hgB ⊢
  have HG1 : Hid (w1.heap[g]? = _) := Lib.hid (hgg ▸ HG1.out)
  have HB1 : Hid (Below w.heap.size w w1) := Lib.hid hb
  obtain ⟨hbl, p0, -⟩ := HRD1.out (p + 1) hi
  clear hb HKI
  clear hgg HB1
  have g0 : w1.cell? ⟨g, 0, none⟩ = some (.int .i64 (p : Int)) := by simp [World.cell?, HG1.out]
  have gl0 : g < w1.heap.size := lt_of_block HG1.out
  go_wp2_with fail
  refine wp_loop_rounds 2 ?_
  rw [rounds_succ]
  go_wp2_with fail
  refine (HPC1.out B (L) _ w1 hbB HS1.out HO1.out (by have := HLN.out; rw [HPT.out] at this; simp only [List.length_append] at this ⊢; omega) HRD1.out).mono ?_
  rintro e w2 ⟨v2, rfl, ho, hk⟩
  have HO2 := Lib.hid ho
  have HK2 := Lib.hid (HK1.out.trans hk)
  have HRD2 := Lib.hid (HRD1.out.belowB hk.1 hbB)
  have HS2 := Lib.hid (Nat.le_trans HS1.out hk.1.size)
  have HG2 := Lib.hid (hk.ints HG1.out)
  clear ho hk HO1 HK1 HRD1 HS1 HG1 g0 gl0 p0 hbl
  go_wp2_with fail
  rw [rounds_succ]
  obtain ⟨hbl, p0, p1, p2, p3, p4, p5, p6⟩ := HRD2.out (p + 1) hi
  have HE : Hid ((L ++ ptL N p) ++ [(⟨(trnN (N (p + 1))).k, (N (p + 1)).a, (N (p + 1)).b, (N (p + 1)).c, (N (p + 1)).d, (N (p + 1)).lo, (N (p + 1)).hi⟩ : Nd)] = L ++ ptL N (p + 1)) := Lib.hid (by rw [HPT.out, ← HTN.out]; simp only [List.append_assoc])
  have HL2 : Hid ((L ++ ptL N p).length + [(⟨(trnN (N (p + 1))).k, (N (p + 1)).a, (N (p + 1)).b, (N (p + 1)).c, (N (p + 1)).d, (N (p + 1)).lo, (N (p + 1)).hi⟩ : Nd)].length ≤ 100000) := Lib.hid (by have := HLN.out; rw [HPT.out] at this; simp only [List.length_append, List.length_cons, List.length_nil] at this ⊢; omega)
  generalize (trnN (N (p + 1))).k = m at *
  generalize N (p + 1) = x at *
  clear HTN HPT
  go_wp2_with fail
  refine (alone_is x.k x.a x.b x.c x.d x.lo x.hi m HM.out _).mono ?_
  rintro e w8 ⟨rfl, hb8⟩
  have HO8 := Lib.hid (owns_below HO2.out hb8)
  have HK8 := Lib.hid (HK2.out.trans (kpt.of_below HS2.out hb8))
  have HS8 := Lib.hid (Nat.le_trans HS2.out hb8.size)
  clear hb8
  go_wp2_with (at_builtin; refine append_put rfl _ _ rfl B _ (L ++ ptL N p) rfl (HO8.out.alloc _) w8.heap.size 1 [(⟨m, x.a, x.b, x.c, x.d, x.lo, x.hi⟩ : Nd)] 1 rfl rfl (lit_nd w8 (⟨m, x.a, x.b, x.c, x.d, x.lo, x.hi⟩ : Nd)) HL2.out (by have := HS8.out; rw [World.size_alloc]; omega) ?_; intro v9 w9 h9 hk9; refine Hid.out ?_)
  have HK9 := Lib.hid ((HK8.out.trans (kpt.of_below HS8.out ((Below.refl _ _).alloc (Nat.le_refl _) _))).trans hk9)
  rw [HE.out] at h9
  have HO9 := Lib.hid h9
  clear h9 hk9
  refine Lib.hid ?_
  go_wp2_with fail
  go_ret
  exact ⟨_, rfl, HO9.out, HK9.out⟩

set_option maxRecDepth 100000 in
set_option maxHeartbeats 2000000 in
theorem put_or (N : Nat → Nd) (n b off cap : Nat) (hn : n ≤ 512) (p q : Nat) (hi : p + 1 < n) (ht : tree N n) (hok : okN (N (p + 1)) = true) (hf : 0 ≤ fst N (p + 1)) (hk : (N (p + 1)).k = 6) (h1 : fst N p = ((q + 1 : Nat) : Int)) (h2 : q + 1 ≤ p) (HP1 : PutC N n b off cap q) (HP2 : PutC N n b off cap p) : PutC N n b off cap (p + 1) := by
  intro B L v w hbB hBw ho hlen hr
  have HRW := Lib.hid hr
  have HOW := Lib.hid ho
  have HBB := Lib.hid hBw
  have HPT : Hid (ptL N (p + 1) = ptL N q ++ ptL N p ++ [trnN (N (p + 1))]) := Lib.hid (by
    rw [ptL_or ht hi hk h1 h2]
    unfold trnN
    rw [if_neg (by omega), if_neg (by omega), nd_zero8 hok (by omega) (by omega), hk])
  have HAR : ar (N (p + 1)).k = 2 := by rw [hk]; rfl
  have HKI := Lib.hid (kids_two8 b off n cap p q N (by omega) hi hf HAR h1 h2 w hr)
  have e5 : ((N (p + 1)).k == 5) = false := beq_eq_false_iff_ne.2 (by omega)
  have HTN : Hid (trnN (N (p + 1)) = ⟨(trnN (N (p + 1))).k, (N (p + 1)).a, (N (p + 1)).b, (N (p + 1)).c, (N (p + 1)).d, (N (p + 1)).lo, (N (p + 1)).hi⟩) := Lib.hid (trnN_eta8 _)
  have HM : Hid ((trnN (N (p + 1))).k = if (N (p + 1)).k = 3 then 4 else if (N (p + 1)).k = 4 then 3 else (N (p + 1)).k) := Lib.hid (trnN_k8 _)
  have HPC1 := Lib.hid HP1
  have HPC2 := Lib.hid HP2
  have HLN : Hid (L.length + (ptL N (p + 1)).length ≤ 2000) := Lib.hid hlen
  have i0 : (0 : Int) ≤ ((p + 1 : Nat) : Int) := by omega
  have i1 : ((p + 1 : Nat) : Int) < (n : Int) := by omega
  clear hlen hr ho HAR hBw hf hk hok HP1 HP2 ht h1
  go_enter Tryd.func18, Tryd.ntmps18
  go_wp2_with fail
  refine HKI.out.mono ?_
  rintro e w1 ⟨rfl, hg, hb⟩
  have HG1 := Lib.hid hg
  clear hg
  have HRD1 := Lib.hid (HRW.out.below hb)
  have HO1 := Lib.hid (owns_below HOW.out hb)
  have HK1 := Lib.hid (kpt.of_below HBB.out hb)
  have HS1 := Lib.hid (Nat.le_trans HBB.out hb.size)
  have hgB : B ≤ w.heap.size := HBB.out
  obtain ⟨g, hgg⟩ : ∃ g, w.heap.size = g := ⟨_, rfl⟩
  rw [hgg] at hgB ⊢
  have HG1 : Hid (w1.heap[g]? = _) := Lib.hid (hgg ▸ HG1.out)
  have HB1 : Hid (Below w.heap.size w w1) := Lib.hid hb
  obtain ⟨hbl, p0, -⟩ := HRD1.out (p + 1) hi
  clear hb HKI
  clear hgg HB1
  have g0 : w1.cell? ⟨g, 0, none⟩ = some (.int .i64 (q : Int)) := by simp [World.cell?, HG1.out]
  have gl0 : g < w1.heap.size := lt_of_block HG1.out
  go_wp2_with fail
  refine wp_loop_rounds 3 ?_
  rw [rounds_succ]
  go_wp2_with fail
  refine (HPC1.out B (L) _ w1 hbB HS1.out HO1.out (by have := HLN.out; rw [HPT.out] at this; simp only [List.length_append] at this ⊢; omega) HRD1.out).mono ?_
  rintro e w2 ⟨v2, rfl, ho, hk⟩
  have HO2 := Lib.hid ho
  have HK2 := Lib.hid (HK1.out.trans hk)
  have HRD2 := Lib.hid (HRD1.out.belowB hk.1 hbB)
  have HS2 := Lib.hid (Nat.le_trans HS1.out hk.1.size)
  have HG2 := Lib.hid (hk.ints HG1.out)
  clear ho hk HO1 HK1 HRD1 HS1 HG1 g0 gl0 p0 hbl
  have g1 : w2.cell? ⟨g, 1, none⟩ = some (.int .i64 (p : Int)) := by simp [World.cell?, HG2.out]
  have gl1 : g < w2.heap.size := lt_of_block HG2.out
  go_wp2_with fail
  rw [rounds_succ]
  go_wp2_with fail
  refine (HPC2.out B (L ++ ptL N q) _ w2 hbB HS2.out HO2.out (by have := HLN.out; rw [HPT.out] at this; simp only [List.length_append] at this ⊢; omega) HRD2.out).mono ?_
  rintro e w3 ⟨v3, rfl, ho, hk⟩
  have HO3 := Lib.hid ho
  have HK3 := Lib.hid (HK2.out.trans hk)
  have HRD3 := Lib.hid (HRD2.out.belowB hk.1 hbB)
  have HS3 := Lib.hid (Nat.le_trans HS2.out hk.1.size)
  have HG3 := Lib.hid (hk.ints HG2.out)
  clear ho hk HO2 HK2 HRD2 HS2 HG2 g1 gl1
  go_wp2_with fail
  rw [rounds_succ]
  obtain ⟨hbl, p0, p1, p2, p3, p4, p5, p6⟩ := HRD3.out (p + 1) hi
  have HE : Hid ((L ++ ptL N q ++ ptL N p) ++ [(⟨(trnN (N (p + 1))).k, (N (p + 1)).a, (N (p + 1)).b, (N (p + 1)).c, (N (p + 1)).d, (N (p + 1)).lo, (N (p + 1)).hi⟩ : Nd)] = L ++ ptL N (p + 1)) := Lib.hid (by rw [HPT.out, ← HTN.out]; simp only [List.append_assoc])
  have HL2 : Hid ((L ++ ptL N q ++ ptL N p).length + [(⟨(trnN (N (p + 1))).k, (N (p + 1)).a, (N (p + 1)).b, (N (p + 1)).c, (N (p + 1)).d, (N (p + 1)).lo, (N (p + 1)).hi⟩ : Nd)].length ≤ 100000) := Lib.hid (by have := HLN.out; rw [HPT.out] at this; simp only [List.length_append, List.length_cons, List.length_nil] at this ⊢; omega)
  generalize (trnN (N (p + 1))).k = m at *
  generalize N (p + 1) = x at *
  clear HTN HPT
  go_wp2_with fail
  refine (alone_is x.k x.a x.b x.c x.d x.lo x.hi m HM.out _).mono ?_
  rintro e w8 ⟨rfl, hb8⟩
  have HO8 := Lib.hid (owns_below HO3.out hb8)
  have HK8 := Lib.hid (HK3.out.trans (kpt.of_below HS3.out hb8))
  have HS8 := Lib.hid (Nat.le_trans HS3.out hb8.size)
  clear hb8
  go_wp2_with (at_builtin; refine append_put rfl _ _ rfl B _ (L ++ ptL N q ++ ptL N p) rfl (HO8.out.alloc _) w8.heap.size 1 [(⟨m, x.a, x.b, x.c, x.d, x.lo, x.hi⟩ : Nd)] 1 rfl rfl (lit_nd w8 (⟨m, x.a, x.b, x.c, x.d, x.lo, x.hi⟩ : Nd)) HL2.out (by have := HS8.out; rw [World.size_alloc]; omega) ?_; intro v9 w9 h9 hk9; refine Hid.out ?_)
  have HK9 := Lib.hid ((HK8.out.trans (kpt.of_below HS8.out ((Below.refl _ _).alloc (Nat.le_refl _) _))).trans hk9)
  rw [HE.out] at h9
  have HO9 := Lib.hid h9
  clear h9 hk9
  refine Lib.hid ?_
  go_wp2_with fail
  go_ret
  exact ⟨_, rfl, HO9.out, HK9.out⟩

set_option maxRecDepth 100000 in
set_option maxHeartbeats 2000000 in
theorem put_cat (N : Nat → Nd) (n b off cap : Nat) (hn : n ≤ 512) (p q : Nat) (hi : p + 1 < n) (ht : tree N n) (hok : okN (N (p + 1)) = true) (hf : 0 ≤ fst N (p + 1)) (hk : (N (p + 1)).k = 5) (h1 : fst N p = ((q + 1 : Nat) : Int)) (h2 : q + 1 ≤ p) (HP1 : PutC N n b off cap p) (HP2 : PutC N n b off cap q) : PutC N n b off cap (p + 1) := by
  intro B L v w hbB hBw ho hlen hr
  have HRW := Lib.hid hr
  have HOW := Lib.hid ho
  have HBB := Lib.hid hBw
  have HPT : Hid (ptL N (p + 1) = ptL N p ++ ptL N q ++ [trnN (N (p + 1))]) := Lib.hid (by
    rw [ptL_cat ht hi hk h1 h2]
    unfold trnN
    rw [if_neg (by omega), if_neg (by omega), nd_zero8 hok (by omega) (by omega), hk])
  have HAR : ar (N (p + 1)).k = 2 := by rw [hk]; rfl
  have HKI := Lib.hid (kids_two8 b off n cap p q N (by omega) hi hf HAR h1 h2 w hr)
  have e5 : ((N (p + 1)).k == 5) = true := by rw [hk]; rfl
  have HTN : Hid (trnN (N (p + 1)) = ⟨(trnN (N (p + 1))).k, (N (p + 1)).a, (N (p + 1)).b, (N (p + 1)).c, (N (p + 1)).d, (N (p + 1)).lo, (N (p + 1)).hi⟩) := Lib.hid (trnN_eta8 _)
  have HM : Hid ((trnN (N (p + 1))).k = if (N (p + 1)).k = 3 then 4 else if (N (p + 1)).k = 4 then 3 else (N (p + 1)).k) := Lib.hid (trnN_k8 _)
  have HPC1 := Lib.hid HP1
  have HPC2 := Lib.hid HP2
  have HLN : Hid (L.length + (ptL N (p + 1)).length ≤ 2000) := Lib.hid hlen
  have i0 : (0 : Int) ≤ ((p + 1 : Nat) : Int) := by omega
  have i1 : ((p + 1 : Nat) : Int) < (n : Int) := by omega
  clear hlen hr ho HAR hBw hf hk hok HP1 HP2 ht h1
  go_enter Tryd.func18, Tryd.ntmps18
  go_wp2_with fail
  refine HKI.out.mono ?_
  rintro e w1 ⟨rfl, hg, hb⟩
  have HG1 := Lib.hid hg
  clear hg
  have HRD1 := Lib.hid (HRW.out.below hb)
  have HO1 := Lib.hid (owns_below HOW.out hb)
  have HK1 := Lib.hid (kpt.of_below HBB.out hb)
  have HS1 := Lib.hid (Nat.le_trans HBB.out hb.size)
  have hgB : B ≤ w.heap.size := HBB.out
  obtain ⟨g, hgg⟩ : ∃ g, w.heap.size = g := ⟨_, rfl⟩
  rw [hgg] at hgB ⊢
  have HG1 : Hid (w1.heap[g]? = _) := Lib.hid (hgg ▸ HG1.out)
  have HB1 : Hid (Below w.heap.size w w1) := Lib.hid hb
  obtain ⟨hbl, p0, -⟩ := HRD1.out (p + 1) hi
  clear hb HKI
  go_wp2_with fail
  refine (rev_two g 2 (q : Int) (p : Int) w1 HG1.out).mono ?_
  rintro e w2 ⟨rfl, hg, hb⟩
  have HB2 : Hid (Below w.heap.size w w2) := Lib.hid (below_ints hb HB1.out (by omega))
  have HRD2 := Lib.hid (HRW.out.below HB2.out)
  have HO2 := Lib.hid (owns_below HOW.out HB2.out)
  have HK2 := Lib.hid (kpt.of_below HBB.out HB2.out)
  have HS2 := Lib.hid (Nat.le_trans HBB.out HB2.out.size)
  have HG2 := Lib.hid hg
  clear hg hb p0 hbl HRD1 HO1 HK1 HS1 HG1 HB1 hgg
  have g0 : w2.cell? ⟨g, 0, none⟩ = some (.int .i64 (p : Int)) := by simp [World.cell?, HG2.out]
  have gl0 : g < w2.heap.size := lt_of_block HG2.out
  go_wp2_with fail
  refine wp_loop_rounds 3 ?_
  rw [rounds_succ]
  go_wp2_with fail
  refine (HPC1.out B (L) _ w2 hbB HS2.out HO2.out (by have := HLN.out; rw [HPT.out] at this; simp only [List.length_append] at this ⊢; omega) HRD2.out).mono ?_
  rintro e w3 ⟨v3, rfl, ho, hk⟩
  have HO3 := Lib.hid ho
  have HK3 := Lib.hid (HK2.out.trans hk)
  have HRD3 := Lib.hid (HRD2.out.belowB hk.1 hbB)
  have HS3 := Lib.hid (Nat.le_trans HS2.out hk.1.size)
  have HG3 := Lib.hid (hk.ints HG2.out)
  clear ho hk HO2 HK2 HRD2 HS2 HG2 g0 gl0
  have g1 : w3.cell? ⟨g, 1, none⟩ = some (.int .i64 (q : Int)) := by simp [World.cell?, HG3.out]
  have gl1 : g < w3.heap.size := lt_of_block HG3.out
  go_wp2_with fail
  rw [rounds_succ]
  go_wp2_with fail
  refine (HPC2.out B (L ++ ptL N p) _ w3 hbB HS3.out HO3.out (by have := HLN.out; rw [HPT.out] at this; simp only [List.length_append] at this ⊢; omega) HRD3.out).mono ?_
  rintro e w4 ⟨v4, rfl, ho, hk⟩
  have HO4 := Lib.hid ho
  have HK4 := Lib.hid (HK3.out.trans hk)
  have HRD4 := Lib.hid (HRD3.out.belowB hk.1 hbB)
  have HS4 := Lib.hid (Nat.le_trans HS3.out hk.1.size)
  have HG4 := Lib.hid (hk.ints HG3.out)
  clear ho hk HO3 HK3 HRD3 HS3 HG3 g1 gl1
  go_wp2_with fail
  rw [rounds_succ]
  obtain ⟨hbl, p0, p1, p2, p3, p4, p5, p6⟩ := HRD4.out (p + 1) hi
  have HE : Hid ((L ++ ptL N p ++ ptL N q) ++ [(⟨(trnN (N (p + 1))).k, (N (p + 1)).a, (N (p + 1)).b, (N (p + 1)).c, (N (p + 1)).d, (N (p + 1)).lo, (N (p + 1)).hi⟩ : Nd)] = L ++ ptL N (p + 1)) := Lib.hid (by rw [HPT.out, ← HTN.out]; simp only [List.append_assoc])
  have HL2 : Hid ((L ++ ptL N p ++ ptL N q).length + [(⟨(trnN (N (p + 1))).k, (N (p + 1)).a, (N (p + 1)).b, (N (p + 1)).c, (N (p + 1)).d, (N (p + 1)).lo, (N (p + 1)).hi⟩ : Nd)].length ≤ 100000) := Lib.hid (by have := HLN.out; rw [HPT.out] at this; simp only [List.length_append, List.length_cons, List.length_nil] at this ⊢; omega)
  generalize (trnN (N (p + 1))).k = m at *
  generalize N (p + 1) = x at *
  clear HTN HPT
  go_wp2_with fail
  refine (alone_is x.k x.a x.b x.c x.d x.lo x.hi m HM.out _).mono ?_
  rintro e w8 ⟨rfl, hb8⟩
  have HO8 := Lib.hid (owns_below HO4.out hb8)
  have HK8 := Lib.hid (HK4.out.trans (kpt.of_below HS4.out hb8))
  have HS8 := Lib.hid (Nat.le_trans HS4.out hb8.size)
  clear hb8
  go_wp2_with (at_builtin; refine append_put rfl _ _ rfl B _ (L ++ ptL N p ++ ptL N q) rfl (HO8.out.alloc _) w8.heap.size 1 [(⟨m, x.a, x.b, x.c, x.d, x.lo, x.hi⟩ : Nd)] 1 rfl rfl (lit_nd w8 (⟨m, x.a, x.b, x.c, x.d, x.lo, x.hi⟩ : Nd)) HL2.out (by have := HS8.out; rw [World.size_alloc]; omega) ?_; intro v9 w9 h9 hk9; refine Hid.out ?_)
  have HK9 := Lib.hid ((HK8.out.trans (kpt.of_below HS8.out ((Below.refl _ _).alloc (Nat.le_refl _) _))).trans hk9)
  rw [HE.out] at h9
  have HO9 := Lib.hid h9
  clear h9 hk9
  refine Lib.hid ?_
  go_wp2_with fail
  go_ret
  exact ⟨_, rfl, HO9.out, HK9.out⟩

theorem put_any (N : Nat → Nd) (n b off cap : Nat) (ht : tree N n) : ∀ u j, j < u → j < n → PutC N n b off cap j := by
  intro u
  induction u with
  | zero => intro j h; omega
  | succ u ih =>
    intro j hju hj
    have hn := ht.1
    have hok := ((tree_iff.1 ht).2.2.1 j hj)
    obtain ⟨f, hf, hc⟩ := nd_is ht hj
    cases hc with
    | leaf _ hk _ => exact put_leaf N n b off cap hn j hj hok.1 hk
    | @one p _ hi hk h1 h2 _ => exact put_rep N n b off cap hn p hi hok.2 hok.1 hk (ih p (by omega) (by omega))
    | @two p q _ hi hk h1 h2 h3 h4 _ =>
      rcases hk with hk | hk
      · exact put_cat N n b off cap hn p q hi ht hok.2 hok.1 hk h1 h2 (ih p (by omega) (by omega)) (ih q (by omega) (by omega))
      · exact put_or N n b off cap hn p q hi ht hok.2 hok.1 hk h1 h2 (ih q (by omega) (by omega)) (ih p (by omega) (by omega))
end Go.Proofs.YtjbmkbgoahppfaaDoor

namespace Go.Proofs.YtjbmkbgoahppfaaDoor
open Go.RowKit

set_option maxHeartbeats 2000000 in
theorem tof_not (p : Option Addr) (n cap : Nat) (N : Nat → Nd) (ht : ¬ tree N n) (w : World) (hR : Calls Tryd.prog 17 #[.slice p n cap] w fun e w' => e = .returned (.bool (decide (tree N n))) ∧ Below w.heap.size w w') :
    Calls Tryd.prog 7 #[.slice p n cap] w (tofPost N n w) := by
  rw [decide_eq_false ht] at hR
  have HR := Lib.hid hR
  have HT := Lib.hid ht
  clear hR ht
  unfold tofPost
  go_enter Tryd.func7, Tryd.ntmps7
  go_wp2_with fail
  refine HR.out.mono ?_
  rintro e w1 ⟨rfl, hb⟩
  have HB := Lib.hid hb
  clear hb
  go_wp2_with fail
  go_ret2
  exact ⟨fun h => absurd h HT.out, fun _ => ⟨none, 0, rfl, HB.out⟩⟩
set_option maxHeartbeats 2000000 in
theorem tof_tree (b off n cap : Nat) (N : Nat → Nd) (ht : tree N n) (w : World) (hr : rdN w b off n N) :
    Calls Tryd.prog 7 #[.slice (some ⟨b, off, none⟩) n cap] w (tofPost N n w) := by
  have hR := right_some b off n cap N ht.1 w hr
  rw [decide_eq_true ht] at hR
  have hpos := (tree_iff.1 ht).1
  obtain ⟨m, rfl⟩ : ∃ m, n = m + 1 := ⟨n - 1, by omega⟩
  have hn := ht.1
  have hlt : b < w.heap.size := (hr 0 (by omega)).1
  have HR := Lib.hid hR
  have HT := Lib.hid ht
  have HO : Hid (PutC N (m + 1) b off cap m) := Lib.hid (put_any N (m + 1) b off cap ht (m + 1) m (by omega) (by omega))
  have HL : Hid ((ptL N m).length ≤ m + 1) := Lib.hid (ptL_len ht (by omega))
  have HRD := Lib.hid hr
  clear hR ht hr
  unfold tofPost
  go_enter Tryd.func7, Tryd.ntmps7
  go_wp2_with fail
  refine HR.out.mono ?_
  rintro e w1 ⟨rfl, hb⟩
  have HB := Lib.hid hb
  have HRD1 := Lib.hid (HRD.out.below hb)
  clear hb
  go_wp2_with fail
  refine (HO.out w1.heap.size [] _ w1 (by have := HB.out.size; omega) (Nat.le_refl _) (World.ownsRow_nil _ _ _ _) (by have := HL.out; simp only [List.length_nil]; omega) HRD1.out).mono ?_
  rintro e w2 ⟨v, rfl, ho, hk⟩
  rw [List.nil_append] at ho
  have HOW := Lib.hid (owns_mono ho HB.out.size)
  have HB2 := Lib.hid (HB.out.trans (hk.1.mono HB.out.size))
  clear ho hk
  go_wp2_with fail
  go_ret2
  exact ⟨fun _ => ⟨_, rfl, HOW.out, HB2.out⟩, fun h => absurd HT.out h⟩
theorem tof_any : TofC := fun p n cap N w h hr => by
  by_cases ht : tree N n
  · rcases h with rfl | ⟨b, off, rfl, hw⟩
    · have := (tree_iff.1 ht).1; omega
    · exact tof_tree b off n cap N ht w (hr b off rfl)
  · refine tof_not p n cap N ht w ?_
    rcases Nat.lt_or_ge 512 n with hn | hn
    · exact right_long p n cap N hn w
    · rcases h with rfl | ⟨b, off, rfl, -⟩
      · exact right_zero p cap N w
      · exact right_some b off n cap N hn w (hr b off rfl)
def encB (x : UInt8) : Value := .int .u8 (x.toNat : Int)
theorem len_data8 (s : ByteArray) : s.data.toList.length = s.size := by rw [Array.length_toList]; rfl
theorem rowB_size (s : ByteArray) (c : Nat) : s.size ≤ (bytesRow s c).size := by
  show s.data.size ≤ _
  simp [bytesRow]
theorem rowB_at (s : ByteArray) (c j : Nat) (hj : j < s.data.toList.length) : (bytesRow s c)[j]? = some (encB (s.data.toList.toArray)[j]!) := by
  have h : j < s.data.size := by simpa using hj
  unfold bytesRow encB
  rw [Array.getElem?_append_left (by simpa using h)]
  simp
  exact ⟨s.data[j], Array.getElem?_eq_getElem h, by rw [getElem!_pos s.data j h]⟩
/-- Bytes of a text of its own, the last one first. -/
theorem revB_call (s : ByteArray) (w : World) (t : TypeId) (c cap : Nat) (h63 : s.size ≤ 1000) :
    Calls Tryd.prog 19 #[.slice (some ⟨w.heap.size, 0, none⟩) s.size cap] (w.drew.alloc (.cells (bytesRow s c) t ((bytesRow s c).size, (bytesRow s c).size + 1))) fun e w' =>
      e = .returned (.tuple #[]) ∧ (∀ j (hj : j < s.data.toList.reverse.length), w'.cell? ((⟨w.heap.size, 0, none⟩ : Addr).add j) = some (.int .u8 (s.data.toList.reverse[j].toNat : Int))) ∧ Below w.heap.size w w' := by
  have hb : (w.drew.alloc (.cells (bytesRow s c) t ((bytesRow s c).size, (bytesRow s c).size + 1))).heap[w.heap.size]? = some (.cells (bytesRow s c) t ((bytesRow s c).size, (bytesRow s c).size + 1)) := by
    show (w.heap.push _)[w.heap.size]? = _
    simp
  have hB : Below w.heap.size w (w.drew.alloc (.cells (bytesRow s c) t ((bytesRow s c).size, (bytesRow s c).size + 1))) := (Below.refl _ _).drew.alloc (Nat.le_refl _) _
  generalize (w.drew.alloc (.cells (bytesRow s c) t ((bytesRow s c).size, (bytesRow s c).size + 1))) = W at *
  have hH : Sort.Holds encB W w.heap.size 0 s.data.toList.toArray := fun j hj => by
    have hj' : j < s.data.toList.length := by simpa using hj
    have hl := rowB_size s c
    have hjs : j < s.size := by have : j < s.data.size := by simpa using hj
                                exact this
    refine ⟨?_, ?_⟩
    · unfold World.cell?
      simp only [hb, Nat.zero_add]
      exact rowB_at s c j hj'
    · unfold World.frozen?
      simp only [hb, Nat.zero_add]
      simp; omega
  have h := AnyE.slices_Reverse lays8B encB (fun _ => rfl) w.heap.size 0 cap s.data.toList W hH (by rw [len_data8]; omega)
  rw [len_data8] at h
  refine h.mono ?_
  rintro e w' ⟨rfl, n, rfl⟩
  refine ⟨rfl, fun j hj => ?_, hB.trans (putRow_below _ _ _ _ _ _ _ (Nat.le_refl _))⟩
  have hj2 : j < s.data.toList.reverse.toArray.size := by simpa using hj
  have := Sort.cell?_putRow encB (Sort.ahead W n) w.heap.size 0 s.data.toList.toArray s.data.toList.reverse.toArray (Sort.holds_ahead encB W n _ _ _ hH) (by simp) j hj2
  rw [at_add8, this]
  have e : s.data.toList.reverse.toArray[j]! = s.data.toList.reverse[j] := by rw [getElem!_pos s.data.toList.reverse.toArray j hj2]; simp
  rw [e]; rfl
set_option maxRecDepth 100000 in
set_option maxHeartbeats 2000000 in
theorem ttx_any : TtxC := fun s w hs => by
  have HCV := Lib.hid (run_bytes_of_string (P := Tryd.prog) w 9 49 5 s Tryd.underlying9 Tryd.underlying49 Tryd.underlying5)
  have HRV := Lib.hid (revB_call s w 5 (grownCap w s.size 0 5) (grownCap w s.size 0 5) hs)
  go_enter Tryd.func8, Tryd.ntmps8
  go_wp2_with fail
  rw [HCV.out]
  go_wp2_with fail
  refine HRV.out.mono ?_
  rintro e w1 ⟨rfl, hc, hb⟩
  have HB := Lib.hid hb
  have hcv := run_convert_bytes_back (P := Tryd.prog) w1 49 9 5 ⟨w.heap.size, 0, none⟩ (grownCap w s.size 0 5) s.data.toList.reverse Tryd.underlying49 Tryd.underlying5 Tryd.underlying9 hc
  rw [List.length_reverse, len_data8] at hcv
  have HCB := Lib.hid hcv
  have HE : Hid ((⟨s.data.toList.reverse.toArray⟩ : ByteArray) = revB s) := Lib.hid (by apply ByteArray.ext; show _ = s.data.reverse; apply Array.ext'; simp)
  clear hc hb hcv
  go_wp2_with fail
  rw [HCB.out]
  rw [HE.out]
  go_wp2_with fail
  go_returns
  exact ⟨rfl, HB.out⟩
end Go.Proofs.YtjbmkbgoahppfaaDoor

namespace Go.Proofs.YtjbmkbgoahppfaaDoor
open Go.ChangeShapes Go.WideShapes Go.ChangeAt Go.RowKit Go.Joins Go.Deep

theorem laidOut : laidOutB Tryd.prog = true := by kernel_rfl
theorem cellsU64 : Tryd.prog.cellsOf 36 = 1 := by kernel_rfl
theorem cellsInt : Tryd.prog.cellsOf 3 = 1 := by kernel_rfl
theorem cellsSet : Tryd.prog.cellsOf 38 = 4 := by kernel_rfl
theorem cellsNode : Tryd.prog.cellsOf 45 = 7 := by kernel_rfl

set_option maxRecDepth 100000 in
theorem open_node {H : Type} {enc : TypeId × Value → H} {W : World} {b0 n : Nat} {sp : Nat → Bool} {hd : Bool} {cs : List Value} {x : DataW H × List MemPlace} (hl : cs.length = 7)
    (h : DataW.trod enc Tryd.prog W b0 sp hd n 45 cs = some x) : ∃ y : Nd, okW y ∧ cs = [.int .i64 y.k, .int .u64 y.a, .int .u64 y.b, .int .u64 y.c, .int .u64 y.d, .int .i64 y.lo, .int .i64 y.hi] := by
  obtain ⟨xs, k, hk, hxy, _, hxl, hf⟩ := DataW.trod_struct Tryd.underlying45 h
  match xs, hxl, cs, hl with
  | [y0, y1, y2, y3], _, [v0, v1, v2, v3, v4, v5, v6], _ =>
    have g0 := hf 0 _ rfl
    have g1 := hf 1 _ rfl
    have g2 := hf 2 _ rfl
    have g3 := hf 3 _ rfl
    simp [cellsInt, cellsSet] at g0 g1 g2 g3
    obtain ⟨x0, e0, _, _⟩ := DataW.trod_int Tryd.underlying3 g0
    obtain ⟨x2, e2, _, _⟩ := DataW.trod_int Tryd.underlying3 g2
    obtain ⟨x3, e3, _, _⟩ := DataW.trod_int Tryd.underlying3 g3
    obtain ⟨z0, z1, z2, z3, m, _, hy0, hy1, hy2, hy3⟩ := trod_array4 Tryd.underlying38 cellsU64 g1
    obtain ⟨s0, f0, _, w0⟩ := DataW.trod_int Tryd.underlying36 hy0
    obtain ⟨s1, f1, _, w1⟩ := DataW.trod_int Tryd.underlying36 hy1
    obtain ⟨s2, f2, _, w2⟩ := DataW.trod_int Tryd.underlying36 hy2
    obtain ⟨s3, f3, _, w3⟩ := DataW.trod_int Tryd.underlying36 hy3
    simp at e0 e2 e3 f0 f1 f2 f3
    subst e0 e2 e3 f0 f1 f2 f3
    have bd : ∀ x : Int, (Lit.int .u64 x).wf = true → 0 ≤ x ∧ x < 18446744073709551616 := by
      intro x hx
      have hw : IntKind.u64.min ≤ x ∧ x ≤ IntKind.u64.max := by simpa [Lit.wf] using hx
      simp [IntKind.min, IntKind.max, IntKind.bits, IntKind.signed] at hw
      exact ⟨by omega, by omega⟩
    exact ⟨⟨x0, s0, s1, s2, s3, x2, x3⟩, ⟨bd _ w0, bd _ w1, bd _ w2, bd _ w3⟩, rfl⟩

theorem add_at {b o j : Nat} : ((⟨b, o, none⟩ : Addr).add j) = ⟨b, o + j, none⟩ := by unfold Addr.add; split <;> simp_all

set_option maxRecDepth 100000 in
/-- A slice of nodes: no node, at any address; or the nodes that its cells are. -/
theorem open_nodes {H : Type} {enc : TypeId × Value → H} {W : World} {b0 n : Nat} {sp : Nat → Bool} {hd : Bool} {a0 : Option Addr} {len0 cap0 : Nat} {x : DataW H × List MemPlace}
    (h : DataW.trod enc Tryd.prog W b0 sp hd n 22 [.slice a0 len0 cap0] = some x) : len0 = 0 ∨ ∃ b off N, a0 = some ⟨b, off, none⟩ ∧ 0 < len0 ∧ len0 ≤ cap0 ∧ rdN W b off len0 N ∧ ∀ j, j < len0 → okW (N j) := by
  rcases open_slice Tryd.underlying22 h with ⟨hcs, _⟩ | ⟨a, len, cap, m, n', D, Pl, hcs, _, hl, _, hmm, _, hi⟩
  · simp at hcs
    exact .inl hcs.2.1
  · simp at hcs
    obtain ⟨rfl, rfl, rfl⟩ := hcs
    have hlm : len0 ≤ m := by rw [hmm]; split <;> omega
    rcases Nat.eq_zero_or_pos len0 with h0 | hpos
    · exact .inl h0
    right
    have hall : ∀ i, i < len0 → ∃ y : Nd, okW y ∧ W.cell? (a.add (i * 7)) = some (.int .i64 y.k) ∧ ∀ j, j < 7 → W.cell? ((a.add (i * 7)).add j) = [Value.int .i64 y.k, .int .u64 y.a, .int .u64 y.b, .int .u64 y.c, .int .u64 y.d, .int .i64 y.lo, .int .i64 y.hi][j]? := fun i him => by
      obtain ⟨cs, hc, ht⟩ := hi i (by omega)
      rw [cellsNode] at hc
      obtain ⟨_, hcl, hat⟩ := World.cells?_some hc
      obtain ⟨y, hw, rfl⟩ := open_node hcl ht
      exact ⟨y, hw, by simpa [Addr.add] using hat 0 (by decide), hat⟩
    obtain ⟨b, off, spot⟩ := a
    obtain ⟨_, _, z0, _⟩ := hall 0 hpos
    have hspot : spot = none := by simpa [Addr.add] using World.cell?_spot z0
    subst hspot
    have hb : b < W.heap.size := by have := World.block_lt_of_cell? W _ z0; simpa [Addr.add] using this
    refine ⟨b, off, fun i => if h : i < len0 then (hall i h).choose else ⟨0, 0, 0, 0, 0, 0, 0⟩, rfl, hpos, hl, fun j hj => ⟨hb, ?_⟩, fun j hj => by simp only [dif_pos hj]; exact (hall j hj).choose_spec.1⟩
    simp only [dif_pos hj]
    have hs := (hall j hj).choose_spec.2.2
    generalize (hall j hj).choose = y at hs
    have hs' : ∀ t, t < 7 → W.cell? ⟨b, off + j * 7 + t, none⟩ = [Value.int .i64 y.k, .int .u64 y.a, .int .u64 y.b, .int .u64 y.c, .int .u64 y.d, .int .i64 y.lo, .int .i64 y.hi][t]? := fun t ht => by
      have := hs t ht
      rwa [add_at, add_at] at this
    exact ⟨hs' 0 (by decide), hs' 1 (by decide), hs' 2 (by decide), hs' 3 (by decide), hs' 4 (by decide), hs' 5 (by decide), hs' 6 (by decide)⟩
end Go.Proofs.YtjbmkbgoahppfaaDoor

namespace Go.Proofs.YtjbmkbgoahppfaaDoor
open Go.ChangeShapes Go.WideShapes Go.ChangeAt Go.RowKit

theorem door_met4 (os : Os) (args : Array Value) : laidMetH Tryd.prog [("math/bits.deBruijn32tab", Rows.laid_math_bits_deBruijn32tab), ("math/bits.deBruijn64tab", Rows.laid_math_bits_deBruijn64tab), ("internal/strconv.uint64pow10", Rows.laid_internal_strconv_uint64pow10), ("tatting/named.table", Rows.laid_tatting_named_table)] ((World.doorLaid Tryd.prog 400 os).forCall (fun _ _ => 0) ⟨#[], args, []⟩).memory :=
  laidMetH_of_parts3 (fuel := 8) (laidMet_of_run' 8 (by kernel_rfl) (by kernel_rfl)) (by kernel_rfl) (by kernel_rfl)
theorem tab4_of_laid {W : World} (h : laidMetH Tryd.prog [("math/bits.deBruijn32tab", Rows.laid_math_bits_deBruijn32tab), ("math/bits.deBruijn64tab", Rows.laid_math_bits_deBruijn64tab), ("internal/strconv.uint64pow10", Rows.laid_internal_strconv_uint64pow10), ("tatting/named.table", Rows.laid_tatting_named_table)] W) : Tabbed W := by
  rw [MakeChecks.laidMetH_plain _ _ _ (by kernel_rfl)] at h
  have h1 := h.filter fun x => x.1 == "tatting/named.table"
  exact tabbed_of_met h1
end Go.Proofs.YtjbmkbgoahppfaaDoor
