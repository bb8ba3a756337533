/-
  What the ninth laws ask of the code: Build, Right, Close, Step and Fits, as contracts.
  The walk of the ninth reference's Build.
  What Kids tells of a node of a tree lies in a block of its own.
  The maker in memory; the walk of its put.
-/
import Derived.Test.YtdhplphgackjaaaPk21
import Derived.Test.YtdhplphgackjaaaPk26
import Derived.Test.YtdhplphgackjaaaPk6
import Derived.Test.YtdhplphgackjaaaPk14
import Derived.Test.YtdhplphgackjaaaPk17
import Derived.Test.YtdhplphgackjaaaPk18
import Derived.Test.YtdhplphgackjaaaPk8
import Derived.Deep.RegionLaw
import Derived.BigRegion
namespace Go.Proofs.Ytdhplphgackjaaa
open Go.RowKit

@[reducible] def nfV (p : Option Addr) (m cap : Nat) (st fin : Int) : Value := .agg #[.slice p m cap, .int .i64 st, .int .i64 fin]
def fin9 : Sd := ⟨6, 0, 0, 0, 0, 0, 0⟩
/-- The states that a slice holds. -/
def stsAt (w : World) (p : Option Addr) (m : Nat) (S : Nat → Sd) : Prop := (m = 0 ∨ ∃ b off, p = some ⟨b, off, none⟩) ∧ ∀ b off, p = some ⟨b, off, none⟩ → rdS w b off m S
def bldPost (N : Nat → Nd) (n : Nat) (w : World) (e : Ending) (w' : World) : Prop :=
  (¬ tree N n → ∃ p c, e = .returned (.tuple #[nfV p 0 c 0 0, .int .i64 3]) ∧ Below w.heap.size w w') ∧
  (tree N n → 600 < nst (trT N (n - 1)) → ∃ p c st fin, e = .returned (.tuple #[nfV p 0 c st fin, .int .i64 4]) ∧ Below w.heap.size w w') ∧
  (tree N n → nst (trT N (n - 1)) ≤ 600 → ∃ g o c S, ∃ f l : Nat, e = .returned (.tuple #[nfV (some ⟨g, o, none⟩) (nst (trT N (n - 1))) c f l, .int .i64 0]) ∧ rdS w' g o (nst (trT N (n - 1))) S ∧ nst (trT N (n - 1)) ≤ c ∧
    isFr S (trT N (n - 1)) 0 f l ∧ S l = fin9 ∧ Below w.heap.size w w')
def BldC : Prop := ∀ (p : Option Addr) (n cap : Nat) (N : Nat → Nd) (w : World), (n = 0 ∨ ∃ b off, p = some ⟨b, off, none⟩ ∧ ∀ j, j < n → okW (N j)) → (∀ b off, p = some ⟨b, off, none⟩ → rdN w b off n N) →
  Calls Try.prog 8 #[.slice p n cap] w (bldPost N n w)
def RgtC : Prop := ∀ (p : Option Addr) (m cap : Nat) (S : Nat → Sd) (st fin : Int) (w : World), m ≤ 600 → stsAt w p m S →
  Calls Try.prog 13 #[nfV p m cap st fin] w fun e w' => e = .returned (.bool (decide (rightP S m st fin))) ∧ Below w.heap.size w w'
/-- A rising list of what is so; of none, where an automaton may not be. -/
def tldPost (R : Prop) (m : Nat) (P : Nat → Prop) (w : World) (e : Ending) (w' : World) : Prop :=
  ∃ q k c l, e = .returned (.slice q k c) ∧ rdL w' q k l ∧ Below w.heap.size w w' ∧ (¬ R → k = 0) ∧ (R → ∀ T : Nat → Bool, (∀ x, x < m → (T x = true ↔ P x)) → k = cntT T m ∧ ∀ i, i < m → T i = true → l (cntT T i) = i)
/-- What a list names. -/
def nmd (m n : Nat) (l : Nat → Int) (q : Nat) : Prop := q < m ∧ ∃ i, i < n ∧ l i = (q : Int)
def CloC : Prop := ∀ (p : Option Addr) (m cap : Nat) (S : Nat → Sd) (st fin sym : Int) (q : Option Addr) (n c : Nat) (l : Nat → Int) (w : World), m ≤ 600 → n ≤ 1000 → stsAt w p m S → (∀ j, j < m → okWs (S j)) → rdL w q n l →
  Calls Try.prog 17 #[nfV p m cap st fin, .slice q n c, .int .i64 sym] w (tldPost (rightP S m st fin) m (Cl S sym (nmd m n l)) w)
def StpC : Prop := ∀ (p : Option Addr) (m cap : Nat) (S : Nat → Sd) (st fin : Int) (y : Nat) (q : Option Addr) (n c : Nat) (l : Nat → Int) (w : World), m ≤ 600 → n ≤ 1000 → y < 256 → stsAt w p m S → (∀ j, j < m → okWs (S j)) → rdL w q n l →
  Calls Try.prog 18 #[nfV p m cap st fin, .slice q n c, .int .u8 (y : Int)] w (tldPost (rightP S m st fin) m (Cl S 0 (By S y (nmd m n l))) w)
def fitC (S : Nat → Sd) (m : Nat) (st fin : Int) (s : ByteArray) (i j : Int) : Prop := rightP S m st fin ∧ 0 ≤ i ∧ i ≤ j ∧ j ≤ s.size ∧ fitsP S s.size (tx7 s) st.toNat fin.toNat i.toNat j.toNat
def FitC : Prop := ∀ (p : Option Addr) (m cap : Nat) (S : Nat → Sd) (st fin : Int) (s : ByteArray) (i j : Int) (w : World), m ≤ 600 → s.size ≤ 1000 → stsAt w p m S → (∀ j, j < m → okWs (S j)) →
  Calls Try.prog 14 #[nfV p m cap st fin, .string s, .int .i64 i, .int .i64 j] w fun e w' => ∃ r, e = .returned (.bool r) ∧ (r = true ↔ fitC S m st fin s i j) ∧ Below w.heap.size w w'
end Go.Proofs.Ytdhplphgackjaaa

namespace Go.Proofs.Ytdhplphgackjaaa
open Go.RowKit

theorem sds_put (l : List Sd) (j : Nat) (x : Sd) (h : j < l.length) : (((((((sds l).set (j * 7) (.int .i64 x.k)).set (j * 7 + 1) (.int .i64 x.A)).set (j * 7 + 2) (.int .i64 x.B)).set (j * 7 + 3) (.int .u64 x.a)).set (j * 7 + 4) (.int .u64 x.b)).set (j * 7 + 5) (.int .u64 x.c)).set (j * 7 + 6) (.int .u64 x.d) = sds (l.set j x) := by
  induction l generalizing j with
  | nil => simp at h
  | cons r l ih =>
    cases j with
    | zero => rfl
    | succ j =>
      have e : (r :: l).set (j + 1) x = r :: l.set j x := rfl
      rw [sds_cons, e, sds_cons, ← ih j (by simpa using h), show (j + 1) * 7 = j * 7 + 7 by omega, show j * 7 + 7 + 1 = (j * 7 + 1) + 7 by omega, show j * 7 + 7 + 2 = (j * 7 + 2) + 7 by omega, show j * 7 + 7 + 3 = (j * 7 + 3) + 7 by omega, show j * 7 + 7 + 4 = (j * 7 + 4) + 7 by omega, show j * 7 + 7 + 5 = (j * 7 + 5) + 7 by omega, show j * 7 + 7 + 6 = (j * 7 + 6) + 7 by omega]
      rfl
theorem stO.putS {w : World} {base g c : Nat} {L : List Sd} (h : stO w base g c L) (j : Nat) (hj : j < L.length) (x : Sd) : stO (((((((w.setCell ⟨g, j * 7, none⟩ (.int .i64 x.k)).setCell ⟨g, j * 7 + 1, none⟩ (.int .i64 x.A)).setCell ⟨g, j * 7 + 2, none⟩ (.int .i64 x.B)).setCell ⟨g, j * 7 + 3, none⟩ (.int .u64 x.a)).setCell ⟨g, j * 7 + 4, none⟩ (.int .u64 x.b)).setCell ⟨g, j * 7 + 5, none⟩ (.int .u64 x.c)).setCell ⟨g, j * 7 + 6, none⟩ (.int .u64 x.d)) base g c (L.set j x) := by
  have h1 := (World.ownsRow.stored h (j * 7) (.int .i64 x.k)).1
  have h2 := (World.ownsRow.stored h1 (j * 7 + 1) (.int .i64 x.A)).1
  have h3 := (World.ownsRow.stored h2 (j * 7 + 2) (.int .i64 x.B)).1
  have h4 := (World.ownsRow.stored h3 (j * 7 + 3) (.int .u64 x.a)).1
  have h5 := (World.ownsRow.stored h4 (j * 7 + 4) (.int .u64 x.b)).1
  have h6 := (World.ownsRow.stored h5 (j * 7 + 5) (.int .u64 x.c)).1
  have h7 := (World.ownsRow.stored h6 (j * 7 + 6) (.int .u64 x.d)).1
  rw [sds_put L j x hj] at h7
  unfold stO
  rw [List.length_set]; exact h7
def is3 (t : TypeId) (w : World) (b : Nat) (v : Value) (f l : Int) : Prop := w.heap[b]? = some (.cells #[v, .int .i64 f, .int .i64 l] t (0, 0))
theorem is3.lt {t : TypeId} {w : World} {b : Nat} {v : Value} {f l : Int} (h : is3 t w b v f l) : b < w.heap.size := lt_of_block h
theorem is3.cells {t : TypeId} {w : World} {b : Nat} {v : Value} {f l : Int} (h : is3 t w b v f l) : w.cell? ⟨b, 0, none⟩ = some v ∧ w.cell? ⟨b, 1, none⟩ = some (.int .i64 f) ∧ w.cell? ⟨b, 2, none⟩ = some (.int .i64 l) := by
  unfold is3 at h
  refine ⟨?_, ?_, ?_⟩ <;> simp [World.cell?, h]
theorem is3.free {t : TypeId} {w : World} {b : Nat} {v : Value} {f l : Int} (h : is3 t w b v f l) : w.frozen? ⟨b, 0, none⟩ = false ∧ w.frozen? ⟨b, 1, none⟩ = false ∧ w.frozen? ⟨b, 2, none⟩ = false := by
  unfold is3 at h
  refine ⟨?_, ?_, ?_⟩ <;> simp [World.frozen?, h]
theorem is3.below {t : TypeId} {w w' : World} {b B : Nat} {v : Value} {f l : Int} (h : is3 t w b v f l) (hB : Below B w w') (hb : b < B) : is3 t w' b v f l := (hB.block b hb).trans h
theorem is3.stored {t : TypeId} {w : World} {b : Nat} {v : Value} {f l : Int} (h : is3 t w b v f l) (v' : Value) (f' l' : Int) : is3 t (((w.setCell ⟨b, 0, none⟩ v').setCell ⟨b, 1, none⟩ (.int .i64 f')).setCell ⟨b, 2, none⟩ (.int .i64 l')) b v' f' l' := by
  have h1 := heap_setCell_same w b 0 _ _ v' h
  have h2 := heap_setCell_same _ b 1 _ _ (.int .i64 f') h1
  have h3 := heap_setCell_same _ b 2 _ _ (.int .i64 l') h2
  unfold is3
  rw [h3]
  simp
theorem is3.new (t : TypeId) (w : World) (v : Value) (f l : Int) : is3 t (w.alloc (.cells #[v, .int .i64 f, .int .i64 l] t)) w.heap.size v f l := heap_alloc_new w _

theorem st7_grown (w : World) (g o0 o1 o2 o3 o4 o5 o6 : Nat) (v0 v1 v2 v3 v4 v5 v6 : Value) : w.grownBy (((((((w.setCell ⟨g, o0, none⟩ v0).setCell ⟨g, o1, none⟩ v1).setCell ⟨g, o2, none⟩ v2).setCell ⟨g, o3, none⟩ v3).setCell ⟨g, o4, none⟩ v4).setCell ⟨g, o5, none⟩ v5).setCell ⟨g, o6, none⟩ v6) (some g) :=
  ((((((grown_setCell w g o0 v0).trans (grown_setCell _ g o1 v1)).trans (grown_setCell _ g o2 v2)).trans (grown_setCell _ g o3 v3)).trans (grown_setCell _ g o4 v4)).trans (grown_setCell _ g o5 v5)).trans (grown_setCell _ g o6 v6)
theorem stO.cellX {w : World} {base g c : Nat} {L : List Sd} (h : stO w base g c L) {j : Nat} (hj : j < L.length) (x : Nat) (hx : x < 7) (u : Value) (hu : (scs (sfn L j))[x]? = some u) : w.cell? ⟨g, j * 7 + x, none⟩ = some u :=
  h.cell _ _ (by rw [sds_get L j hj x hx, ← sfn_lt hj]; exact hu)
set_option maxRecDepth 100000 in
set_option maxHeartbeats 4000000 in
theorem rbuild_not (p : Option Addr) (n cap : Nat) (N : Nat → Nd) (ht : ¬ tree N n) (w : World) (hR : ∀ w', Below w.heap.size w w' → Calls Try.prog 9 #[.slice p n cap] w' fun e w'' => e = .returned (.bool (decide (tree N n))) ∧ Below w'.heap.size w' w'') :
    Calls Try.prog 11 #[.slice p n cap] w fun e w' => e = .returned (.tuple #[nfV none 0 0 0 0, .int .i64 3]) ∧ Below w.heap.size w w' := by
  have HA := Lib.hid ((Below.refl w.heap.size w).alloc (Nat.le_refl _) (.cells #[.slice none 0 0, .int .i64 0, .int .i64 0] 26))
  have H0 := Lib.hid (is3.new 26 w (.slice none 0 0) 0 0)
  have hr := hR _ HA.out
  rw [decide_eq_false ht] at hr
  have HR := Lib.hid hr
  clear hR ht hr
  go_enter Try.func11, Try.ntmps11
  go_wp2_with fail
  refine HR.out.mono ?_
  rintro e w1 ⟨rfl, hb⟩
  have H1 := Lib.hid (H0.out.below hb H0.out.lt)
  have HB := Lib.hid (below_two HA.out (hb.mono (by have := HA.out.size; omega)))
  obtain ⟨z0, z1, z2⟩ := H1.out.cells
  obtain ⟨f0, f1, f2⟩ := H1.out.free
  have HBe := Lib.hid (below_pt3 HB.out (Nat.le_refl _) (.slice none 0 0) 0 0)
  have Z := Lib.hid (H1.out.stored (.slice none 0 0) 0 0).cells
  clear hb HR HA H0 H1 HB
  go_wp2_with fail
  refine bodyPost_ret (v := .tuple #[.agg #[.slice none 0 0, .int .i64 0, .int .i64 0], .int .i64 3]) (by simp [results, Try.results11, go_sem, Z.out]) rfl ⟨rfl, HBe.out⟩

set_option maxRecDepth 100000 in
set_option maxHeartbeats 8000000 in
theorem rbuild_tree (b off n cap : Nat) (N : Nat → Nd) (ht : tree N n) (h600 : nst (trT N (n - 1)) ≤ 600) (w : World) (hr : rdN w b off n N) :
    Calls Try.prog 11 #[.slice (some ⟨b, off, none⟩) n cap] w fun e w' => ∃ g c, e = .returned (.tuple #[nfV (some ⟨g, 0, none⟩) (mkF (trT N (n - 1)) []).1.length c ((mkF (trT N (n - 1)) []).2.1 : Nat) ((mkF (trT N (n - 1)) []).2.2 : Nat), .int .i64 0]) ∧
      stO w' w.heap.size g c ((mkF (trT N (n - 1)) []).1.set (mkF (trT N (n - 1)) []).2.2 fin9) ∧ Below w.heap.size w w' := by
  have hpos := (tree_iff.1 ht).1
  have hn := ht.1
  have HA := Lib.hid ((Below.refl w.heap.size w).alloc (Nat.le_refl _) (.cells #[.slice none 0 0, .int .i64 0, .int .i64 0] 26))
  have H0 := Lib.hid (is3.new 26 w (.slice none 0 0) 0 0)
  have HRW := Lib.hid hr
  have hR := rright_some b off n cap N hpos hn _ (hr.below HA.out)
  rw [decide_eq_true ht] at hR
  have HR := Lib.hid hR
  obtain ⟨m, rfl⟩ : ∃ m, n = m + 1 := ⟨n - 1, by omega⟩
  rw [show m + 1 - 1 = m by omega] at h600 ⊢
  have hsz : szF (trT N m) = (nst (trT N m) : Nat) := by
    have hok : okT (trT N m) := by
      have := (trT_root ht).2.1
      rwa [show m + 1 - 1 = m by omega] at this
    rw [sz_nst _ hok]
    unfold cap20; omega
  have HSZ : Hid (∀ w', rdN w' b off (m + 1) N → Calls Try.prog 10 #[.slice (some ⟨b, off, none⟩) (m + 1) cap, .int .i64 (m : Int)] w' fun e w'' => e = .returned (.int .i64 ((nst (trT N m) : Nat) : Int)) ∧ Below w'.heap.size w' w'') := Lib.hid fun w' h => rsize_is b off (m + 1) cap N ht m (by omega) _ hsz w' h
  have HM := Lib.hid (make_any b off (m + 1) cap N ht (m + 1) m (by omega) (by omega))
  have HL6 := Lib.hid h600
  have h6 : decide ((600 : Int) < ((nst (trT N m) : Nat) : Int)) = false := decide_eq_false (by omega)
  clear hR hr hsz ht
  go_enter Try.func11, Try.ntmps11
  go_wp2_with fail
  refine HR.out.mono ?_
  rintro e w1 ⟨rfl, hb⟩
  have H1 := Lib.hid (H0.out.below hb H0.out.lt)
  have HB1 := Lib.hid (below_two HA.out (hb.mono (by have := HA.out.size; omega)))
  have HS1 := Lib.hid (HSZ.out w1 (HRW.out.below HB1.out))
  clear hb HR HA H0
  go_wp2_with fail
  refine HS1.out.mono ?_
  rintro e w2 ⟨rfl, hb⟩
  have H2 := Lib.hid (H1.out.below hb H1.out.lt)
  have HB2 := Lib.hid (HB1.out.trans (hb.mono HB1.out.size))
  have HM2 := Lib.hid (HM.out none 0 [] w2 (by have := HL6.out; simp; omega) (.inl ⟨rfl, rfl⟩) (HRW.out.below HB2.out))
  clear hb HS1 HSZ H1 HB1 HM
  go_wp2_with fail
  refine HM2.out.mono ?_
  rintro e w3 ⟨g, c, rfl, ho, hb⟩
  have hbd := mk_bd (trT N m) []
  obtain ⟨X, hX⟩ : ∃ X, mkF (trT N m) [] = X := ⟨_, rfl⟩
  rw [hX] at ho hbd ⊢
  have HXX := Lib.hid hX
  have HB3 := Lib.hid (HB2.out.trans (hb.mono HB2.out.size))
  have H3 := Lib.hid (H2.out.below hb H2.out.lt)
  have HO3 := Lib.hid (ho.mono HB2.out.size)
  have hne1 : w.heap.size ≠ g := by have := ho.lt.1; have := H2.out.lt; omega
  have hne2 : w3.heap.size ≠ g := by have := ho.lt.2; omega
  obtain ⟨w4, hw4⟩ : ∃ w4, w3.alloc (.cells #[.slice (some ⟨g, 0, none⟩) X.1.length c, .int .i64 (X.2.1 : Int), .int .i64 (X.2.2 : Int)] 67) = w4 := ⟨_, rfl⟩
  have HPA : Hid (isPt w4 w3.heap.size (.slice (some ⟨g, 0, none⟩) X.1.length c) X.2.1 X.2.2) := Lib.hid (hw4 ▸ isPt.new _ _ _ _)
  have hb4 : Below w3.heap.size w3 w4 := hw4 ▸ (Below.refl _ _).alloc (Nat.le_refl _) _
  have HB4 := Lib.hid (HB3.out.trans (hb4.mono HB3.out.size))
  have H4 := Lib.hid (H3.out.below hb4 H3.out.lt)
  have HO4 := Lib.hid (HO3.out.below hb4)
  have HW4 := Lib.hid hw4
  have hlt : X.2.2 < X.1.length := hbd.2.2.2
  have HBD := Lib.hid hbd
  clear hX ho hb hb4 hw4 HM2 H2 HB2 HO3 HB3 H3 hbd HRW
  go_upto_region 6 with (fail)
  rw [HW4.out]
  obtain ⟨a0, a1, a2⟩ := HPA.out.cells
  have d0 : (0 : Int) ≤ (X.2.2 : Int) := by omega
  have d1 : (X.2.2 : Int) < (X.1.length : Int) := by omega
  have hgl : g < w4.heap.size := HO4.out.lt.2
  have c0 : w4.cell? ⟨g, X.2.2 * 7, none⟩ = some (.int .i64 (sfn X.1 X.2.2).k) := HO4.out.cellX hlt 0 (by decide) _ rfl
  have c1 := HO4.out.cellX hlt 1 (by decide) _ rfl
  have c2 := HO4.out.cellX hlt 2 (by decide) _ rfl
  have c3 := HO4.out.cellX hlt 3 (by decide) _ rfl
  have c4 := HO4.out.cellX hlt 4 (by decide) _ rfl
  have c5 := HO4.out.cellX hlt 5 (by decide) _ rfl
  have c6 := HO4.out.cellX hlt 6 (by decide) _ rfl
  have f0 := HO4.out.free (X.2.2 * 7)
  have f1 := HO4.out.free (X.2.2 * 7 + 1)
  have f2 := HO4.out.free (X.2.2 * 7 + 2)
  have f3 := HO4.out.free (X.2.2 * 7 + 3)
  have f4 := HO4.out.free (X.2.2 * 7 + 4)
  have f5 := HO4.out.free (X.2.2 * 7 + 5)
  have f6 := HO4.out.free (X.2.2 * 7 + 6)
  go_upto_region 7 with (refine wpList_build_st0 rfl _ rfl 6 rfl ?_)
  obtain ⟨W, hW⟩ : ∃ W, (((((((w4.setCell ⟨g, X.2.2 * 7, none⟩ (.int .i64 6)).setCell ⟨g, X.2.2 * 7 + 1, none⟩ (.int .i64 0)).setCell ⟨g, X.2.2 * 7 + 2, none⟩ (.int .i64 0)).setCell ⟨g, X.2.2 * 7 + 3, none⟩ (.int .u64 0)).setCell ⟨g, X.2.2 * 7 + 4, none⟩ (.int .u64 0)).setCell ⟨g, X.2.2 * 7 + 5, none⟩ (.int .u64 0)).setCell ⟨g, X.2.2 * 7 + 6, none⟩ (.int .u64 0)) = W := ⟨_, rfl⟩
  have hg : w4.grownBy W (some g) := hW ▸ st7_grown w4 g _ _ _ _ _ _ _ _ _ _ _ _ _ _
  have HO5 : Hid (stO W w.heap.size g c (X.1.set X.2.2 fin9)) := Lib.hid (hW ▸ HO4.out.putS X.2.2 hlt fin9)
  have HPA5 : Hid (isPt W w3.heap.size (.slice (some ⟨g, 0, none⟩) X.1.length c) X.2.1 X.2.2) := Lib.hid ((hg.block _ HPA.out.lt (by simpa using hne2)).trans HPA.out)
  have H5 : Hid (is3 26 W w.heap.size (.slice none 0 0) 0 0) := Lib.hid ((hg.block _ H4.out.lt (by simpa using hne1)).trans H4.out)
  have HB5 := Lib.hid (HB4.out.grown hg HB4.out.size (fun r hr => by have := HO4.out.lt.1; simp at hr; omega))
  rw [hW]
  clear a0 a1 a2 c0 c1 c2 c3 c4 c5 c6 f0 f1 f2 f3 f4 f5 f6 hgl hW hg HO4 HPA H4 HB4 HW4
  obtain ⟨a0, a1, a2⟩ := HPA5.out.cells
  obtain ⟨z0, z1, z2⟩ := H5.out.cells
  obtain ⟨f0, f1, f2⟩ := H5.out.free
  have HO6 : Hid (stO (((W.setCell ⟨w.heap.size, 0, none⟩ (.slice (some ⟨g, 0, none⟩) X.1.length c)).setCell ⟨w.heap.size, 1, none⟩ (.int .i64 (X.2.1 : Int))).setCell ⟨w.heap.size, 2, none⟩ (.int .i64 (X.2.2 : Int))) w.heap.size g c (X.1.set X.2.2 fin9)) := Lib.hid (HO5.out.pt3 hne1 _ _ _)
  have HB6 := Lib.hid (below_pt3 HB5.out (Nat.le_refl _) (.slice (some ⟨g, 0, none⟩) X.1.length c) (X.2.1 : Int) (X.2.2 : Int))
  have Z := Lib.hid (H5.out.stored (.slice (some ⟨g, 0, none⟩) X.1.length c) (X.2.1 : Int) (X.2.2 : Int)).cells
  clear HO5 HPA5 H5 HB5
  go_wp2_with fail
  refine bodyPost_ret (v := .tuple #[.agg #[.slice (some ⟨g, 0, none⟩) X.1.length c, .int .i64 (X.2.1 : Int), .int .i64 (X.2.2 : Int)], .int .i64 0]) (by simp [results, Try.results11, go_sem, Z.out]) rfl ?_
  rw [HXX.out]
  exact ⟨g, c, rfl, HO6.out, HB6.out⟩

theorem sfn_set {L : List Sd} {j q : Nat} {x : Sd} (h : q ≠ j) : sfn (L.set j x) q = sfn L q := by
  unfold sfn
  rw [List.getD_eq_getElem?_getD, List.getD_eq_getElem?_getD, List.getElem?_set_ne (Ne.symm h)]
theorem sfn_set_at {L : List Sd} {j : Nat} {x : Sd} (h : j < L.length) : sfn (L.set j x) j = x := by
  unfold sfn
  rw [List.getD_eq_getElem?_getD, List.getElem?_set_self h]; rfl
/-- The reference's automaton of a tree. -/
theorem rbuild9_is (b off n cap : Nat) (N : Nat → Nd) (ht : tree N n) (h600 : nst (trT N (n - 1)) ≤ 600) (w : World) (hr : rdN w b off n N) :
    Calls Try.prog 11 #[.slice (some ⟨b, off, none⟩) n cap] w fun e w' => ∃ g c S, ∃ f l : Nat, e = .returned (.tuple #[nfV (some ⟨g, 0, none⟩) (nst (trT N (n - 1))) c f l, .int .i64 0]) ∧
      rdS w' g 0 (nst (trT N (n - 1))) S ∧ isFr S (trT N (n - 1)) 0 f l ∧ S l = fin9 ∧ Below w.heap.size w w' := by
  refine (rbuild_tree b off n cap N ht h600 w hr).mono ?_
  rintro e w' ⟨g, c, rfl, ho, hb⟩
  obtain ⟨e1, e2, e3, e4⟩ := mk_ok (trT N (n - 1)) []
  have hbd := mk_bd (trT N (n - 1)) []
  have hl : (mkF (trT N (n - 1)) []).1.length = nst (trT N (n - 1)) := by rw [e1]; simp
  refine ⟨g, c, sfn ((mkF (trT N (n - 1)) []).1.set (mkF (trT N (n - 1)) []).2.2 fin9), (mkF (trT N (n - 1)) []).2.1, (mkF (trT N (n - 1)) []).2.2, by rw [hl], ?_, ?_, sfn_set_at hbd.2.2.2, hb⟩
  · have := ho.reads
    rwa [List.length_set, hl] at this
  · exact fr_same _ _ _ _ (fun q _ _ q3 => (sfn_set q3).symm) e3
end Go.Proofs.Ytdhplphgackjaaa

namespace Go.Proofs.Ytdhplphgackjaaa
open Go.RowKit

set_option maxHeartbeats 1000000 in
theorem kids_none8 (b off n cap i : Nat) (N : Nat → Nd) (hn : n ≤ 1000) (hi : i < n) (hf : 0 ≤ fst N i) (ha : ar (N i).k = 0) (w : World) (hr : rdN w b off n N) :
    Calls Try.prog 40 #[.slice (some ⟨b, off, none⟩) n cap, .int .i64 (i : Int)] w fun e w' => ∃ p, e = .returned (.slice p 0 0) ∧ Below w.heap.size w w' := by
  have hc := (hr i hi).2.1
  have hb := (hr i hi).1
  have h0 : (0 : Int) ≤ (i : Int) := by omega
  have h1 : (i : Int) < (n : Int) := by omega
  have t0 : decide (fst N i < 0) = false := decide_eq_false (by omega)
  have HR := Lib.hid hr
  clear hr
  have hib : (i : Int) < 1000 := by omega
  have HA := Lib.hid ha
  have hmk := mk0
  clear ha
  go_enter Try.func40, Try.ntmps40
  go_wp2_with fail
  refine (first_in _ _ _ _ _ _ hn hi _ HR.out).mono ?_; rintro e w' ⟨rfl, rfl⟩
  go_wp2_with fail
  refine (args_any _ _).mono ?_; rintro e w' ⟨rfl, rfl⟩; rw [HA.out]
  go_wp2_with fail
  refine wp_loop_rounds 1 ?_
  rw [rounds_succ]; go_wp2
  go_ret
  exact ⟨_, rfl, (Below.refl _ _).alloc (Nat.le_refl _) _⟩
set_option maxHeartbeats 1000000 in
theorem kids_one8 (b off n cap j : Nat) (N : Nat → Nd) (hn : n ≤ 1000) (hi : j + 1 < n) (hf : 0 ≤ fst N (j + 1)) (ha : ar (N (j + 1)).k = 1) (w : World) (hr : rdN w b off n N) :
    Calls Try.prog 40 #[.slice (some ⟨b, off, none⟩) n cap, .int .i64 ((j + 1 : Nat) : Int)] w fun e w' =>
      e = .returned (.slice (some ⟨w.heap.size, 0, none⟩) 1 1) ∧ w'.heap[w.heap.size]? = some (.cells #[.int .i64 (j : Int)] 3 (0, 0)) ∧ Below w.heap.size w w' := by
  have hc := (hr _ hi).2.1
  have hb := (hr _ hi).1
  have h0 : (0 : Int) ≤ ((j + 1 : Nat) : Int) := by omega
  have h1 : ((j + 1 : Nat) : Int) < (n : Int) := by omega
  have t0 : decide (fst N (j + 1) < 0) = false := decide_eq_false (by omega)
  have HR := Lib.hid hr
  clear hr
  have hib : ((j + 1 : Nat) : Int) < 1000 := by omega
  have HA := Lib.hid ha
  have hmk := mk1
  clear ha
  go_enter Try.func40, Try.ntmps40
  go_wp2_with fail
  refine (first_in _ _ _ _ _ _ hn hi _ HR.out).mono ?_; rintro e w' ⟨rfl, rfl⟩
  go_wp2_with fail
  refine (args_any _ _).mono ?_; rintro e w' ⟨rfl, rfl⟩; rw [HA.out]
  go_wp2_with fail
  refine wp_loop_rounds 2 ?_
  rw [rounds_succ]; go_wp2_with fail
  refine (first_in b off n cap j N hn (by omega) _ ?hx).mono ?_
  case hx => exact HR.out.below (by go_grown)
  rintro e w' ⟨rfl, rfl⟩
  go_wp2
  rw [rounds_succ]; go_wp2
  go_ret
  refine ⟨rfl, ?_, by go_grown⟩
  exact heap_alloc_new w _
set_option maxHeartbeats 1000000 in
theorem kids_two8 (b off n cap j q : Nat) (N : Nat → Nd) (hn : n ≤ 1000) (hi : j + 1 < n) (hf : 0 ≤ fst N (j + 1)) (ha : ar (N (j + 1)).k = 2) (hff : fst N j = ((q + 1 : Nat) : Int)) (hq : q + 1 ≤ j) (w : World) (hr : rdN w b off n N) :
    Calls Try.prog 40 #[.slice (some ⟨b, off, none⟩) n cap, .int .i64 ((j + 1 : Nat) : Int)] w fun e w' =>
      e = .returned (.slice (some ⟨w.heap.size, 0, none⟩) 2 2) ∧ w'.heap[w.heap.size]? = some (.cells #[.int .i64 (q : Int), .int .i64 (j : Int)] 3 (0, 0)) ∧ Below w.heap.size w w' := by
  have hc := (hr _ hi).2.1
  have hb := (hr _ hi).1
  have h0 : (0 : Int) ≤ ((j + 1 : Nat) : Int) := by omega
  have h1 : ((j + 1 : Nat) : Int) < (n : Int) := by omega
  have t0 : decide (fst N (j + 1) < 0) = false := decide_eq_false (by omega)
  have HR := Lib.hid hr
  clear hr
  have hib : ((j + 1 : Nat) : Int) < 1000 := by omega
  have HA := Lib.hid ha; have HF := Lib.hid hff
  have hmk := mk2
  clear ha hff
  go_enter Try.func40, Try.ntmps40
  go_wp2_with fail
  refine (first_in _ _ _ _ _ _ hn hi _ HR.out).mono ?_; rintro e w' ⟨rfl, rfl⟩
  go_wp2_with fail
  refine (args_any _ _).mono ?_; rintro e w' ⟨rfl, rfl⟩; rw [HA.out]
  go_wp2_with fail
  refine wp_loop_rounds 3 ?_
  rw [rounds_succ]; go_wp2_with fail
  refine (first_in b off n cap j N hn (by omega) _ ?hx).mono ?_
  case hx => exact HR.out.below (by go_grown)
  rintro e w' ⟨rfl, rfl⟩
  rw [HF.out]
  go_wp2_with fail
  rw [rounds_succ]; go_wp2_with fail
  refine (first_in b off n cap q N hn (by omega) _ ?hy).mono ?_
  case hy => exact HR.out.below (by go_grown)
  rintro e w' ⟨rfl, rfl⟩
  go_wp2
  rw [rounds_succ]; go_wp2
  go_ret
  refine ⟨rfl, ?_, by go_grown⟩
  exact heap_alloc_new w _
end Go.Proofs.Ytdhplphgackjaaa

namespace Go.Proofs.Ytdhplphgackjaaa
open Go.RowKit

/-- Block M holds the maker: its tree and its states. -/
def isMk (w : World) (M : Nat) (t v : Value) : Prop := w.heap[M]? = some (.cells #[t, v] 60 (0, 0))
theorem isMk.cells {w : World} {M : Nat} {t v : Value} (h : isMk w M t v) : w.cell? ⟨M, 0, none⟩ = some t ∧ w.cell? ⟨M, 1, none⟩ = some v ∧ w.frozen? ⟨M, 1, none⟩ = false ∧ M < w.heap.size := by
  unfold isMk at h
  refine ⟨?_, ?_, ?_, lt_of_block h⟩ <;> simp [World.cell?, World.frozen?, h]
/-- Its states lie behind it. -/
def mkW (w : World) (t : Value) (M : Nat) (L : List Sd) : Prop := ∃ v, isMk w M t v ∧ w.ownsRow (M + 1) 58 7 v L.length (sds L)
theorem mkW.below {w w' : World} {t : Value} {M : Nat} {L : List Sd} (h : mkW w t M L) (hb : Below w.heap.size w w') : mkW w' t M L := by
  obtain ⟨v, h1, h2⟩ := h
  exact ⟨v, (hb.block M (lt_of_block h1)).trans h1, owns_below h2 hb⟩
theorem mkW.drew {w : World} {t : Value} {M : Nat} {L : List Sd} (h : mkW w t M L) : mkW w.drew t M L := h
theorem mkW.lt {w : World} {t : Value} {M : Nat} {L : List Sd} (h : mkW w t M L) : M < w.heap.size := by
  obtain ⟨v, h1, _⟩ := h
  exact lt_of_block h1
theorem mkW.op {w : World} {t : Value} {M : Nat} {L : List Sd} (h : mkW w t M L) (hl : 1 ≤ L.length) : ∃ g c, isMk w M t (.slice (some ⟨g, 0, none⟩) L.length c) ∧ stO w (M + 1) g c L := by
  obtain ⟨v, h1, h2⟩ := h
  obtain ⟨g, c, rfl, h3⟩ := stO_of h2 hl
  exact ⟨g, c, h1, h3⟩
/-- Blocks below M are kept, and all but M that hold no states. -/
def kpM (M : Nat) (w w' : World) : Prop := Below M w w' ∧ ∀ (k : Nat) (c : Array Value) (t : TypeId) (fr : Nat × Nat), w.heap[k]? = some (.cells c t fr) → t ≠ 58 → k ≠ M → w'.heap[k]? = some (.cells c t fr)
theorem kpM.refl (M : Nat) (w : World) : kpM M w w := ⟨Below.refl _ _, fun _ _ _ _ h _ _ => h⟩
theorem kpM.trans {M : Nat} {w w1 w2 : World} (h1 : kpM M w w1) (h2 : kpM M w1 w2) : kpM M w w2 := ⟨h1.1.trans h2.1, fun k c t fr h ht hk => h2.2 k c t fr (h1.2 k c t fr h ht hk) ht hk⟩
theorem kpM.of_below {M : Nat} {w w' : World} (hM : M ≤ w.heap.size) (h : Below w.heap.size w w') : kpM M w w' := ⟨h.mono hM, fun k c t fr hk _ _ => by rw [h.block k (lt_of_block hk)]; exact hk⟩
theorem kpM.of_grown {M : Nat} {w w' : World} {v : Value} {n : Nat} {xs : List Value} (hM : M + 1 ≤ w.heap.size) (ho : w.ownsRow (M + 1) 58 7 v n xs) (h : w.grownBy w' v.ownBlock) : kpM M w w' := by
  refine ⟨⟨h.os, h.tape, h.output, h.size, fun k hk => h.block k (by omega) fun e => ?_⟩, fun k c t fr hk ht _ => ?_⟩
  · have := (ho.lt k e.symm).1; omega
  · rw [h.block k (lt_of_block hk) fun e => ?_]
    · exact hk
    · rcases ho.2 with ⟨rfl, _⟩ | ⟨g, cp, cur, rfl, _, p1, _⟩
      · simp [Value.ownBlock] at e
      · have hg : k = g := by simpa [Value.ownBlock] using e
        subst hg
        rw [p1] at hk
        simp at hk
        exact ht hk.2.1.symm
theorem kpM.set (M j : Nat) (w : World) (v : Value) : kpM M w (w.setCell ⟨M, j, none⟩ v) := by
  have hg := grown_setCell w M j v
  exact ⟨(Below.refl M w).setCell (Nat.le_refl _) v, fun k c t fr h _ hk => (hg.block k (lt_of_block h) (by simpa using hk)).trans h⟩
theorem kpM.ints {M g : Nat} {w w' : World} {c : Array Value} (h : kpM M w w') (hk : w.heap[g]? = some (.cells c 3 (0, 0))) (hg : M < g) : w'.heap[g]? = some (.cells c 3 (0, 0)) := h.2 g c 3 (0, 0) hk (by decide) (by omega)
theorem kpM.row {M base : Nat} {w w' : World} {v : Value} {l : List Nat} (h : kpM M w w') (ho : spO w base v l) (hb : M < base) : spO w' base v l := by
  obtain ⟨h1, h2⟩ := ho
  refine ⟨h1, ?_⟩
  rcases h2 with h2 | ⟨g, cp, cur, rfl, h3, h4, h5⟩
  · exact .inl h2
  · exact .inr ⟨g, cp, cur, rfl, h3, h.ints h4 (by omega), h5⟩
theorem rdN.kept {M b off n : Nat} {N : Nat → Nd} {w w' : World} (h : rdN w b off n N) (hk : kpM M w w') (hb : b < M) : rdN w' b off n N := h.belowB hk.1 hb
/-- A store into a state. -/
theorem mkW.putA {w : World} {t : Value} {M g c : Nat} {L : List Sd} (h1 : isMk w M t (.slice (some ⟨g, 0, none⟩) L.length c)) (h2 : stO w (M + 1) g c L) (j : Nat) (a : Int) (A : Nat) (ha : a = A) :
    mkW (w.setCell ⟨g, j * 7 + 1, none⟩ (.int .i64 a)) t M (setA L j A) ∧ kpM M w (w.setCell ⟨g, j * 7 + 1, none⟩ (.int .i64 a)) := by
  have hg := grown_setCell w g (j * 7 + 1) (.int .i64 a)
  have hM : M ≠ g := by have := h2.lt.1; omega
  refine ⟨⟨.slice (some ⟨g, 0, none⟩) L.length c, ?_, ?_⟩, kpM.of_grown (lt_of_block h1) h2 hg⟩
  · exact (hg.block M (lt_of_block h1) (by simpa using hM)).trans h1
  · have := h2.putI j a A ha
    unfold stO at this
    rw [setA_len] at this ⊢
    exact this
theorem mkW.putB {w : World} {t : Value} {M g c : Nat} {L : List Sd} (h1 : isMk w M t (.slice (some ⟨g, 0, none⟩) L.length c)) (h2 : stO w (M + 1) g c L) (j : Nat) (a : Int) (A : Nat) (ha : a = A) :
    mkW (w.setCell ⟨g, j * 7 + 2, none⟩ (.int .i64 a)) t M (setB L j A) ∧ kpM M w (w.setCell ⟨g, j * 7 + 2, none⟩ (.int .i64 a)) := by
  have hg := grown_setCell w g (j * 7 + 2) (.int .i64 a)
  have hM : M ≠ g := by have := h2.lt.1; omega
  refine ⟨⟨.slice (some ⟨g, 0, none⟩) L.length c, ?_, ?_⟩, kpM.of_grown (lt_of_block h1) h2 hg⟩
  · exact (hg.block M (lt_of_block h1) (by simpa using hM)).trans h1
  · have := h2.putJ j a A ha
    unfold stO at this
    rw [setB_len] at this ⊢
    exact this

/-- An append of states as a step of a region that draws its order. -/
theorem step_append_sds {w : World} {ops : Array Oper} {o : Oper} {a : Act} {K : Act → World → Prop} {Q : Exit → Act → World → Prop} {E : Prop} (hgd : o.guard = none) (s x : Operand)
    (ho : o.op = .call { callee := .builtin .append, args := #[s, x], argTypes := #[24, 24] }) (base : Nat) (v : Value) (l : List Sd) (hs : a.eval s = v)
    (hown : w.ownsRow base 58 7 v l.length (sds l)) (v2 : Value) (m : List Sd) (hx : a.eval x = v2) (hrd : srd w v2 m) (hlen : l.length + m.length ≤ 100000) (hbase : base ≤ w.heap.size)
    (h : ∀ q' n' cap' w', n' = (l ++ m).length → w'.ownsRow base 58 7 (.slice q' n' cap') (l ++ m).length (sds (l ++ m)) → w.grownBy w' v.ownBlock → K (a.put o.dst (.slice q' n' cap')) w') :
    if Region.wanted o (yielded ops a.tmps) = true then Oper.wp Try.prog o a w K Q else E := by
  have hw : Region.wanted o (yielded ops a.tmps) = true := by simp [Region.wanted, hgd]
  rw [if_pos hw]
  refine wp_append_sds s x ho base v l hs hown v2 m hx hrd hlen hbase fun v' w' h1 h2 => ?_
  obtain ⟨q', cap', rfl⟩ : ∃ q cap, v' = .slice q (l ++ m).length cap := by
    rcases id h1.2 with ⟨rfl, h0⟩ | ⟨g, cap, cur, rfl, _⟩
    · exact ⟨none, 0, by rw [h0]⟩
    · exact ⟨_, cap, rfl⟩
  exact h q' _ cap' w' rfl h1 h2
def putMk (t : Value) (M : Nat) (L : List Sd) (x : Sd) (w : World) (e : Ending) (w' : World) : Prop := e = .returned (.int .i64 (L.length : Int)) ∧ mkW w' t M (L ++ [x]) ∧ kpM M w w'
set_option maxRecDepth 100000 in
set_option maxHeartbeats 4000000 in
theorem mput_is (t : Value) (M : Nat) (L : List Sd) (k A B a b c d : Int) (w : World) (hL : L.length ≤ 10000) (h : mkW w t M L) :
    Calls Try.prog 44 #[.pointer (some ⟨M, 0, none⟩), .agg #[.int .i64 k, .int .i64 A, .int .i64 B, .int .u64 a, .int .u64 b, .int .u64 c, .int .u64 d]] w (putMk t M L ⟨k, a, b, c, d, A, B⟩ w) := by
  obtain ⟨x, hx⟩ : ∃ x : Sd, x = ⟨k, a, b, c, d, A, B⟩ := ⟨_, rfl⟩
  rw [← hx]
  have hv : (Value.agg #[.int .i64 k, .int .i64 A, .int .i64 B, .int .u64 a, .int .u64 b, .int .u64 c, .int .u64 d]) = .agg #[.int .i64 x.k, .int .i64 x.A, .int .i64 x.B, .int .u64 x.a, .int .u64 x.b, .int .u64 x.c, .int .u64 x.d] := by rw [hx]
  rw [hv]
  clear hv hx
  obtain ⟨v, h1, h2⟩ := h
  obtain ⟨q, cap, rfl⟩ : ∃ q cap, v = .slice q L.length cap := by
    rcases id h2.2 with ⟨rfl, h0⟩ | ⟨g, cap, cur, rfl, _⟩
    · exact ⟨none, 0, by rw [h0]⟩
    · exact ⟨_, cap, rfl⟩
  obtain ⟨len, hlen⟩ : ∃ len, L.length = len := ⟨_, rfl⟩
  have Hm := Lib.hid hlen
  obtain ⟨c0, c1, f1, hM⟩ := h1.cells
  have hb2 : Below w.heap.size w (((w.alloc (.cells #[.int .i64 x.k, .int .i64 x.A, .int .i64 x.B, .int .u64 x.a, .int .u64 x.b, .int .u64 x.c, .int .u64 x.d] 58)).alloc (.cells #[.int .i64 x.k, .int .i64 x.A, .int .i64 x.B, .int .u64 x.a, .int .u64 x.b, .int .u64 x.c, .int .u64 x.d] 58)).drew) := (((Below.refl _ w).alloc (Nat.le_refl _) _).alloc (by simp) _).drew
  have HO := Lib.hid (show (((w.alloc (.cells #[.int .i64 x.k, .int .i64 x.A, .int .i64 x.B, .int .u64 x.a, .int .u64 x.b, .int .u64 x.c, .int .u64 x.d] 58)).alloc (.cells #[.int .i64 x.k, .int .i64 x.A, .int .i64 x.B, .int .u64 x.a, .int .u64 x.b, .int .u64 x.c, .int .u64 x.d] 58)).drew).ownsRow (M + 1) 58 7 (.slice q len cap) L.length (sds L) from by have := owns_below h2 hb2; rw [Hm.out] at this ⊢; exact this)
  have hc := lit_rd9 (w.alloc (.cells #[.int .i64 x.k, .int .i64 x.A, .int .i64 x.B, .int .u64 x.a, .int .u64 x.b, .int .u64 x.c, .int .u64 x.d] 58)) x
  rw [World.size_alloc] at hc
  have HC := Lib.hid (show srd (((w.alloc (.cells #[.int .i64 x.k, .int .i64 x.A, .int .i64 x.B, .int .u64 x.a, .int .u64 x.b, .int .u64 x.c, .int .u64 x.d] 58)).alloc (.cells #[.int .i64 x.k, .int .i64 x.A, .int .i64 x.B, .int .u64 x.a, .int .u64 x.b, .int .u64 x.c, .int .u64 x.d] 58)).drew) (.slice (some ⟨w.heap.size + 1, 0, none⟩) 1 1) [x] from hc)
  have HB2 := Lib.hid hb2
  have HMK : Hid (isMk (((w.alloc (.cells #[.int .i64 x.k, .int .i64 x.A, .int .i64 x.B, .int .u64 x.a, .int .u64 x.b, .int .u64 x.c, .int .u64 x.d] 58)).alloc (.cells #[.int .i64 x.k, .int .i64 x.A, .int .i64 x.B, .int .u64 x.a, .int .u64 x.b, .int .u64 x.c, .int .u64 x.d] 58)).drew) M t (.slice q L.length cap)) := Lib.hid ((hb2.block M hM).trans h1)
  have HSM : Hid (M + 1 ≤ (((w.alloc (.cells #[.int .i64 x.k, .int .i64 x.A, .int .i64 x.B, .int .u64 x.a, .int .u64 x.b, .int .u64 x.c, .int .u64 x.d] 58)).alloc (.cells #[.int .i64 x.k, .int .i64 x.A, .int .i64 x.B, .int .u64 x.a, .int .u64 x.b, .int .u64 x.c, .int .u64 x.d] 58)).drew).heap.size) := Lib.hid (Nat.le_trans (show M + 1 ≤ w.heap.size from hM) hb2.size)
  have HKM := Lib.hid (kpM.of_below (M := M) (Nat.le_of_lt hM) hb2)
  have HLL : Hid (L.length + [x].length ≤ 100000) := Lib.hid (by simp; omega)
  rw [hlen] at c1
  have l0 : (0 : Int) ≤ (len : Int) := by omega
  have l1 : (len : Int) ≤ 10000 := by omega
  clear hc hb2 h1 h2 hlen hL
  go_enter Try.func44, Try.ntmps44
  go_wp2_with fail
  go_region_law ((refine step_append_sds rfl (.tmp 9) (.tmp 11) rfl (M + 1) (.slice q len cap) L rfl HO.out (.slice (some ⟨w.heap.size + 1, 0, none⟩) 1 1) [x] rfl HC.out HLL.out HSM.out ?_; intro q' n' cap' w' hn' ho' hg'; have HN := Lib.hid hn'; have HO' := Lib.hid ho'; have HG' := Lib.hid hg'; have hm3 : isMk w' M t (.slice q L.length cap) := (hg'.block M (HMK.out.cells).2.2.2 (fun e => by have := (HO.out.lt M e.symm).1; omega)).trans HMK.out; obtain ⟨-, c1', f1', hBw⟩ := hm3.cells; have HM3 := Lib.hid hm3; clear hn' ho' hg' hm3))
  all_goals
    obtain rfl : n' = len + 1 := by rw [HN.out, List.length_append, Hm.out]; rfl
    have hset := heap_setCell_same w' M 1 _ _ (.slice q' (len + 1) cap') HM3.out
    have hm4 : isMk (w'.setCell ⟨M, 1, none⟩ (.slice q' (len + 1) cap')) M t (.slice q' (len + 1) cap') := by
      unfold isMk; rw [hset]; simp
    obtain ⟨-, d1, -, dM⟩ := hm4.cells
    have HE : Hid (mkW (w'.setCell ⟨M, 1, none⟩ (.slice q' (len + 1) cap')) t M (L ++ [x])) := Lib.hid ⟨_, hm4, ownsRow_setCell_below HO'.out (Nat.lt_succ_self M) _⟩
    have HK := Lib.hid ((HKM.out.trans (kpM.of_grown HSM.out HO.out HG'.out)).trans (kpM.set M 1 w' (.slice q' (len + 1) cap')))
    clear hset hm4 HO HC HB2 HMK HSM HKM HLL HO' HG' HM3 HN c1' f1'
    go_wp2_with fail
    go_returns
    exact ⟨by rw [Hm.out] <;> rfl, HE.out, HK.out⟩
theorem mputE (t : Value) (M : Nat) (L L' : List Sd) (len : Nat) (w : World) (hl : L.length = len) (h5 : len ≤ 10000) (hL : L ++ [sE 0] = L') (h : mkW w t M L) :
    Calls Try.prog 44 #[.pointer (some ⟨M, 0, none⟩), .agg #[.int .i64 2, .int .i64 0, .int .i64 0, .int .u64 0, .int .u64 0, .int .u64 0, .int .u64 0]] w fun e w' => e = .returned (.int .i64 (len : Int)) ∧ mkW w' t M L' ∧ kpM M w w' := by
  subst hl; subst hL
  exact mput_is t M L 2 0 0 0 0 0 0 w h5 h
theorem mputS (t : Value) (M : Nat) (L L' : List Sd) (len : Nat) (A B : Int) (w : World) (hl : L.length = len) (h5 : len ≤ 10000) (hL : L ++ [sS A B] = L') (h : mkW w t M L) :
    Calls Try.prog 44 #[.pointer (some ⟨M, 0, none⟩), .agg #[.int .i64 3, .int .i64 A, .int .i64 B, .int .u64 0, .int .u64 0, .int .u64 0, .int .u64 0]] w fun e w' => e = .returned (.int .i64 (len : Int)) ∧ mkW w' t M L' ∧ kpM M w w' := by
  subst hl; subst hL
  exact mput_is t M L 3 A B 0 0 0 0 w h5 h
/-- A maker's states as a field's store wants them. -/
theorem mkW.opn {w : World} {t : Value} {M : Nat} {L : List Sd} {len j : Nat} (h : mkW w t M L) (hl : L.length = len) (hj : j < len) : ∃ g c, w.cell? ⟨M, 1, none⟩ = some (.slice (some ⟨g, 0, none⟩) len c) ∧ M < w.heap.size ∧ g < w.heap.size ∧
    (∃ u, w.cell? ⟨g, j * 7 + 1, none⟩ = some (.int .i64 u)) ∧ w.frozen? ⟨g, j * 7 + 1, none⟩ = false ∧ (∃ u, w.cell? ⟨g, j * 7 + 2, none⟩ = some (.int .i64 u)) ∧ w.frozen? ⟨g, j * 7 + 2, none⟩ = false ∧
    (∀ (a : Int) (A : Nat), a = A → mkW (w.setCell ⟨g, j * 7 + 1, none⟩ (.int .i64 a)) t M (setA L j A) ∧ kpM M w (w.setCell ⟨g, j * 7 + 1, none⟩ (.int .i64 a))) ∧
    (∀ (a : Int) (A : Nat), a = A → mkW (w.setCell ⟨g, j * 7 + 2, none⟩ (.int .i64 a)) t M (setB L j A) ∧ kpM M w (w.setCell ⟨g, j * 7 + 2, none⟩ (.int .i64 a))) := by
  subst hl
  obtain ⟨g, c, m1, o1⟩ := h.op (by omega)
  obtain ⟨-, mc, -, ml⟩ := m1.cells
  exact ⟨g, c, mc, ml, o1.lt.2, ⟨_, o1.cellA hj⟩, o1.free _, ⟨_, o1.cellB hj⟩, o1.free _, fun a A ha => mkW.putA m1 o1 j a A ha, fun a A ha => mkW.putB m1 o1 j a A ha⟩
end Go.Proofs.Ytdhplphgackjaaa
