/-
  The walk of facts' fold over facts.
  The walks of facts' Size and Of.
  The walk of nfa.Build.
-/
import Derived.Test.YtepegohopgnmnaaPk40
import Derived.Test.YtepegohopgnmnaaPk9
import Derived.Test.YtepegohopgnmnaaPk18
import Derived.Deep.RegionHeldLaw
import Derived.Test.YtepegohopgnmnaaPk41
import Derived.Test.YtepegohopgnmnaaPk38
namespace Go.Proofs.Ytepegohopgnmnaa
open Go.RowKit

/-- The stack of facts, as cells. -/
def fcs (a : Fx) (e : Bool) : List Value := [.bool a.nv, .int .i64 a.ls, .int .i64 a.ms, .int .u64 (wd a.fi 0 : Int), .int .u64 (wd a.fi 1 : Int), .int .u64 (wd a.fi 2 : Int), .int .u64 (wd a.fi 3 : Int), .bool e]
def fvs7 (N : Nat → Nd) (L : List Nat) : List Value := L.flatMap fun j => fcs (fxT (trT N j)) (enT (trT N j))
theorem fvs7_length (N : Nat → Nd) (L : List Nat) : (fvs7 N L).length = L.length * 8 := by
  induction L with
  | nil => rfl
  | cons r l ih => simp only [fvs7, List.flatMap_cons, List.length_append] at *; rw [ih]; simp [fcs]; omega
theorem fvs7_append (N : Nat → Nd) (a b : List Nat) : fvs7 N (a ++ b) = fvs7 N a ++ fvs7 N b := by simp [fvs7]
theorem fvs7_at (N : Nat → Nd) (L : List Nat) (j : Nat) (h : j < L.length) (t : Nat) (ht : t < 8) : (fvs7 N L)[j * 8 + t]? = (fcs (fxT (trT N L[j])) (enT (trT N L[j])))[t]? := by
  induction L generalizing j with
  | nil => simp at h
  | cons r L ih =>
    have hl : (fcs (fxT (trT N r)) (enT (trT N r))).length = 8 := rfl
    cases j with
    | zero =>
      simp only [fvs7, List.flatMap_cons]
      rw [List.getElem?_append_left (by omega), Nat.zero_mul, Nat.zero_add]
      rfl
    | succ j =>
      have := ih j (by simpa using h)
      simp only [fvs7, List.flatMap_cons]
      rw [List.getElem?_append_right (by omega), hl, show (j + 1) * 8 + t - 8 = j * 8 + t by omega]
      simpa [fvs7] using this
theorem fvs7_take (N : Nat → Nd) (L : List Nat) (r : Nat) (h : r ≤ L.length) : (fvs7 N L).take (r * 8) = fvs7 N (L.take r) := by
  have h1 : fvs7 N L = fvs7 N (L.take r) ++ fvs7 N (L.drop r) := by rw [← fvs7_append, List.take_append_drop]
  rw [h1, show r * 8 = (fvs7 N (L.take r)).length by rw [fvs7_length, List.length_take]; congr 1; omega, List.take_left]
end Go.Proofs.Ytepegohopgnmnaa

namespace Go.Proofs.Ytepegohopgnmnaa
open Go.RowKit

theorem csize_not (p : Option Addr) (n cap : Nat) (N : Nat → Nd) (ht : ¬ tree N n) (w : World) (hR : Calls Try.prog 52 #[.slice p n cap] w fun e w' => e = .returned (.bool (decide (tree N n))) ∧ Below w.heap.size w w') :
    Calls Try.prog 35 #[.slice p n cap] w (szPost (-1) w) := by
  rw [decide_eq_false ht] at hR
  have HR := Lib.hid hR
  clear hR ht
  unfold szPost
  go_enter Try.func35, Try.ntmps35
  go_wp2_with fail
  refine HR.out.mono ?_
  rintro e w1 ⟨rfl, hb⟩
  have HB := Lib.hid hb
  clear hb
  go_wp2_with fail
  go_returns
  exact ⟨rfl, HB.out⟩
theorem csize_tree (b off n cap : Nat) (N : Nat → Nd) (ht : tree N n) (w : World) (hr : rdN w b off n N) :
    Calls Try.prog 35 #[.slice (some ⟨b, off, none⟩) n cap] w (szPost (szF (trT N (n - 1))) w) := by
  have hR := right_some b off n cap N ht.1 w hr
  rw [decide_eq_true ht] at hR
  have HR := Lib.hid hR
  have HF := Lib.hid (fun w hr => fold_i b off n cap N ht w hr)
  have HRD := Lib.hid hr
  clear hR hr ht
  unfold szPost at HF ⊢
  go_enter Try.func35, Try.ntmps35
  go_wp2_with fail
  refine HR.out.mono ?_
  rintro e w1 ⟨rfl, hb⟩
  have HB := Lib.hid hb
  have HRD1 := Lib.hid (HRD.out.below hb)
  clear hb HR HRD
  go_wp2_with fail
  refine (HF.out _ HRD1.out).mono ?_
  rintro e w2 ⟨rfl, hb⟩
  have HB2 := Lib.hid (HB.out.trans (hb.mono HB.out.size))
  clear hb
  go_wp2_with fail
  go_returns
  exact ⟨rfl, HB2.out⟩
/-- What Size tells. -/
def sizeF (N : Nat → Nd) (n : Nat) : Int := if tree N n then szF (trT N (n - 1)) else -1
theorem csize_any (p : Option Addr) (n cap : Nat) (N : Nat → Nd) (h : n = 0 ∨ ∃ b off, p = some ⟨b, off, none⟩) (w : World) (hr : ∀ b off, p = some ⟨b, off, none⟩ → rdN w b off n N) :
    Calls Try.prog 35 #[.slice p n cap] w (szPost (sizeF N n) w) := by
  by_cases ht : tree N n
  · rw [show sizeF N n = szF (trT N (n - 1)) from if_pos ht]
    rcases h with rfl | ⟨b, off, rfl⟩
    · have := ht.2.2; simp [dep] at this
    · exact csize_tree b off n cap N ht w (hr b off rfl)
  · rw [show sizeF N n = -1 from if_neg ht]
    refine csize_not p n cap N ht w ?_
    rcases Nat.lt_or_ge 512 n with hn | hn
    · exact right_long p n cap N hn w
    · rcases h with rfl | ⟨b, off, rfl⟩
      · exact right_zero p cap N w
      · exact right_some b off n cap N hn w (hr b off rfl)

/-- What Of tells. -/
def ofPost7 (a : Fx) (e : Bool) (c : Int) (w : World) (x : Ending) (w' : World) : Prop := x = .returned (.tuple #[fxv a e, .int .i64 c]) ∧ Below w.heap.size w w'
end Go.Proofs.Ytepegohopgnmnaa

namespace Go.Proofs.Ytepegohopgnmnaa
open Go.RowKit

def setK (L : List Sd) (j : Nat) (k : Int) : List Sd := L.modify j fun s => { s with k := k }
theorem setK_len (L : List Sd) (j : Nat) (k : Int) : (setK L j k).length = L.length := List.length_modify ..
theorem setK_at {L : List Sd} {j : Nat} {k : Int} (h : j < L.length) : sfn (setK L j k) j = { sfn L j with k := k } := by
  unfold sfn setK
  rw [List.getD_eq_getElem?_getD, List.getElem?_modify, List.getD_eq_getElem?_getD, List.getElem?_eq_getElem h]
  simp
theorem setK_ne {L : List Sd} {j q : Nat} {k : Int} (h : q ≠ j) : sfn (setK L j k) q = sfn L q := by
  unfold sfn setK
  rw [List.getD_eq_getElem?_getD, List.getElem?_modify, List.getD_eq_getElem?_getD]
  simp [Ne.symm h]
theorem sds_setK (l : List Sd) (j : Nat) (k : Int) : (sds l).set (j * 7) (.int .i64 k) = sds (setK l j k) := by
  induction l generalizing j with
  | nil => simp [sds, setK]
  | cons r l ih =>
    cases j with
    | zero => rfl
    | succ j =>
      have e : setK (r :: l) (j + 1) k = r :: setK l j k := rfl
      rw [sds_cons, e, sds_cons, ← ih j, show (j + 1) * 7 = j * 7 + 7 by omega]
      rfl
theorem stO.putK {w : World} {base g c : Nat} {L : List Sd} (h : stO w base g c L) (j : Nat) (k : Int) : stO (w.setCell ⟨g, j * 7, none⟩ (.int .i64 k)) base g c (setK L j k) := by
  have := (World.ownsRow.stored h (j * 7) (.int .i64 k)).1
  rw [sds_setK] at this
  unfold stO
  rw [setK_len]; exact this
theorem stO.cap9 {w : World} {base g c : Nat} {L : List Sd} (h : stO w base g c L) : L.length ≤ c := by
  rcases h.2 with ⟨e, _⟩ | ⟨g', cp, cur, e, _, _, hc, _⟩
  · cases e
  · cases e; exact hc
theorem build_mk9 (p : Option Addr) (n c : Nat) (w : World) : (Instr.build 76 #[(0, .slice p n c)]).run Try.prog w = .ok (.agg #[.slice p n c, .slice none 0 0]) w := by kernel_rfl
theorem wpList_build_mk9 {ops : Array Oper} {rest : List Oper} {o : Oper} {a : Act} {w : World} {Q : Exit → Act → World → Prop} (hgd : o.guard = none) (x : Operand) (ho : o.op = .build 76 #[(0, x)])
    (p : Option Addr) (n c : Nat) (hx : a.eval x = .slice p n c)
    (h : wpList Try.prog ops Q rest (a.put o.dst (.agg #[.slice p n c, .slice none 0 0])) w) : wpList Try.prog ops Q (o :: rest) a w :=
  wpList_plain hgd fun K hK => by
    have hb := build_mk9 p n c w
    have hm : (#[(0, x)] : Array (Nat × Operand)).map (fun (i, v) => (i, a.eval v)) = #[(0, a.eval x)] := by simp
    unfold Oper.wp execOp
    simp only [ho]
    rw [hm, hx]
    simp only [Sem.run_bind, hb, Result.andThen_ok]
    exact hK _ _ h

set_option maxRecDepth 100000 in
set_option maxHeartbeats 8000000 in
theorem cbuild_bad (p : Option Addr) (n cap : Nat) (z : Int) (er : Int) (hz : (z < 0 ∧ er = 3) ∨ (0 ≤ z ∧ 600 < z ∧ er = 4)) (w : World) (hS : ∀ w', Below w.heap.size w w' → Calls Try.prog 35 #[.slice p n cap] w' fun e w'' => e = .returned (.int .i64 z) ∧ Below w'.heap.size w' w'') :
    Calls Try.prog 15 #[.slice p n cap] w fun e w' => e = .returned (.tuple #[nfV none 0 0 0 0, .int .i64 er]) ∧ Below w.heap.size w w' := by
  have HA := Lib.hid ((Below.refl w.heap.size w).alloc (Nat.le_refl _) (.cells #[.slice none 0 0, .int .i64 0, .int .i64 0] 24))
  have H0 := Lib.hid (is3.new 24 w (.slice none 0 0) 0 0)
  have HR := Lib.hid (hS _ HA.out)
  clear hS
  rcases hz with ⟨h1, rfl⟩ | ⟨h0, h1, rfl⟩
  · have d1 : decide (z < 0) = true := decide_eq_true h1
    clear h1
    go_enter Try.func15, Try.ntmps15
    go_wp2_with fail
    refine HR.out.mono ?_
    rintro e w1 ⟨rfl, hb⟩
    have H1 := Lib.hid (H0.out.below hb H0.out.lt)
    have HB := Lib.hid (below_two HA.out (hb.mono (by have := HA.out.size; omega)))
    obtain ⟨z0, z1, z2⟩ := H1.out.cells
    obtain ⟨f0, f1, f2⟩ := H1.out.free
    have HBe := Lib.hid (below_pt3 HB.out (Nat.le_refl _) (.slice none 0 0) 0 0)
    have Z := Lib.hid (H1.out.stored (.slice none 0 0) 0 0).cells
    clear hb HR HA H0 H1 HB
    go_wp2_with fail
    refine bodyPost_ret (v := .tuple #[.agg #[.slice none 0 0, .int .i64 0, .int .i64 0], .int .i64 3]) (by simp [results, Try.results15, go_sem, Z.out]) rfl ⟨rfl, HBe.out⟩
  · have d0 : decide (z < 0) = false := decide_eq_false (by omega)
    have d1 : decide (600 < z) = true := decide_eq_true h1
    clear h1 h0
    go_enter Try.func15, Try.ntmps15
    go_wp2_with fail
    refine HR.out.mono ?_
    rintro e w1 ⟨rfl, hb⟩
    have H1 := Lib.hid (H0.out.below hb H0.out.lt)
    have HB := Lib.hid (below_two HA.out (hb.mono (by have := HA.out.size; omega)))
    obtain ⟨z0, z1, z2⟩ := H1.out.cells
    obtain ⟨f0, f1, f2⟩ := H1.out.free
    have HBe := Lib.hid (below_pt3 HB.out (Nat.le_refl _) (.slice none 0 0) 0 0)
    have Z := Lib.hid (H1.out.stored (.slice none 0 0) 0 0).cells
    clear hb HR HA H0 H1 HB
    go_wp2_with fail
    refine bodyPost_ret (v := .tuple #[.agg #[.slice none 0 0, .int .i64 0, .int .i64 0], .int .i64 4]) (by simp [results, Try.results15, go_sem, Z.out]) rfl ⟨rfl, HBe.out⟩

set_option maxRecDepth 100000 in
set_option maxHeartbeats 8000000 in
theorem cbuild_tree (b off m cap : Nat) (N : Nat → Nd) (ht : tree N (m + 1)) (h600 : nst (trT N m) ≤ 600) (w : World) (hr : rdN w b off (m + 1) N)
    (hS : ∀ w', Below w.heap.size w w' → Calls Try.prog 35 #[.slice (some ⟨b, off, none⟩) (m + 1) cap] w' fun e w'' => e = .returned (.int .i64 ((nst (trT N m) : Nat) : Int)) ∧ Below w'.heap.size w' w'') :
    Calls Try.prog 15 #[.slice (some ⟨b, off, none⟩) (m + 1) cap] w fun e w' => ∃ g c, e = .returned (.tuple #[nfV (some ⟨g, 0, none⟩) (mkF (trT N m) []).1.length c ((mkF (trT N m) []).2.1 : Nat) ((mkF (trT N m) []).2.2 : Nat), .int .i64 0]) ∧
      stO w' w.heap.size g c (setK (mkF (trT N m) []).1 (mkF (trT N m) []).2.2 6) ∧ Below w.heap.size w w' := by
  have HA := Lib.hid ((Below.refl w.heap.size w).alloc (Nat.le_refl _) (.cells #[.slice none 0 0, .int .i64 0, .int .i64 0] 24))
  have H0 := Lib.hid (is3.new 24 w (.slice none 0 0) 0 0)
  have HR := Lib.hid (hS _ HA.out)
  have HRW := Lib.hid hr
  have hbb : b < w.heap.size := (hr 0 (by omega)).1
  have HPT := Lib.hid (part_any b off (m + 1) cap N ht (m + 1) m (by omega) (by omega))
  obtain ⟨sz, hsz⟩ : ∃ sz, nst (trT N m) = sz := ⟨_, rfl⟩
  have HSZ := Lib.hid hsz
  rw [hsz] at HR h600
  have d0 : decide ((sz : Int) < 0) = false := decide_eq_false (by omega)
  have d1 : decide ((600 : Int) < (sz : Int)) = false := decide_eq_false (by omega)
  have d2 : decide (600 < sz) = false := decide_eq_false (by omega)
  have H6 := Lib.hid h600
  have hm0 : (0 : Int) ≤ (m : Int) := by omega
  have hm9 : (m : Int) ≤ 512 := by have := ht.1; omega
  clear hS hr hsz ht h600
  go_enter Try.func15, Try.ntmps15
  go_wp2_with fail
  refine HR.out.mono ?_
  rintro e w1 ⟨rfl, hb⟩
  have H1 := Lib.hid (H0.out.below hb H0.out.lt)
  have HB1 := Lib.hid (below_two HA.out (hb.mono (by have := HA.out.size; omega)))
  clear hb HR HA H0
  obtain ⟨W2, hW2⟩ : ∃ W2, w1.alloc (.cells #[.slice (some ⟨b, off, none⟩) (m + 1) cap, .slice none 0 0] 76) = W2 := ⟨_, rfl⟩
  obtain ⟨M, hM⟩ : ∃ M, w1.heap.size = M := ⟨_, rfl⟩
  have hmk : mkW W2 (.slice (some ⟨b, off, none⟩) (m + 1) cap) M [] := by
    refine ⟨.slice none 0 0, ?_, ⟨rfl, .inl ⟨rfl, rfl⟩⟩⟩
    rw [← hW2, ← hM]
    exact heap_alloc_new w1 _
  have hwM : w.heap.size < M := by have := H1.out.lt; omega
  have hb2 : Below w.heap.size w W2 := hW2 ▸ HB1.out.alloc HB1.out.size _
  have HB2 := Lib.hid hb2
  have H2 : Hid (is3 24 W2 w.heap.size (.slice none 0 0) 0 0) := Lib.hid (hW2 ▸ (Below.heap_alloc w1 _ _ H1.out.lt).trans H1.out)
  have HC := Lib.hid (HPT.out M [] W2 (by omega) (by have := HSZ.out; have := H6.out; simp; omega) hmk (HRW.out.below hb2))
  have HWM := Lib.hid hwM
  have HW2 := Lib.hid hW2
  clear hmk hb2 hW2 H1 HB1 HPT
  go_upto_region 7 with (refine wpList_build_mk9 rfl _ rfl _ _ _ rfl ?_)
  rw [HW2.out]
  clear HW2 hM
  have hbd := mk_bd (trT N m) []
  obtain ⟨X, hX⟩ : ∃ X, mkF (trT N m) [] = X := ⟨_, rfl⟩
  obtain ⟨LX, f, l⟩ := X
  rw [hX] at HC hbd
  have HXX := Lib.hid hX
  simp only at hbd
  go_wp2_with fail
  refine HC.out.mono ?_
  rintro e w3 ⟨rfl, hm3, hk3⟩
  simp only at hm3
  obtain ⟨g, c, m1, o1⟩ := hm3.op (by have := hbd; omega)
  have H3 := Lib.hid (H2.out.below hk3.1 HWM.out)
  have HB3 := Lib.hid (HB2.out.trans (hk3.1.mono (Nat.le_of_lt HWM.out)))
  obtain ⟨len, hln⟩ : ∃ len, LX.length = len := ⟨_, rfl⟩
  have HLN := Lib.hid hln
  obtain ⟨-, mc, -, ml⟩ := m1.cells
  rw [hln] at mc
  have hlt : l < len := by omega
  have l0 : (0 : Int) ≤ (l : Int) := by omega
  have l1 : (l : Int) < (len : Int) := by omega
  have c0 : w3.cell? ⟨g, l * 7, none⟩ = some (.int .i64 (sfn LX l).k) := o1.cellX (by omega) 0 (by decide) _ rfl
  have f0 := o1.free (l * 7)
  have gl := o1.lt.2
  have hgM : M + 1 ≤ g := o1.lt.1
  obtain ⟨W4, hW4⟩ : ∃ W4, w3.setCell ⟨g, l * 7, none⟩ (.int .i64 6) = W4 := ⟨_, rfl⟩
  have hg : w3.grownBy W4 (some g) := hW4 ▸ grown_setCell w3 g (l * 7) _
  have HO4 : Hid (stO W4 (M + 1) g c (setK LX l 6)) := Lib.hid (hW4 ▸ o1.putK l 6)
  have HM4 : Hid (isMk W4 M (.slice (some ⟨b, off, none⟩) (m + 1) cap) (.slice (some ⟨g, 0, none⟩) LX.length c)) := Lib.hid ((hg.block M ml (by simp; omega)).trans m1)
  have H4 : Hid (is3 24 W4 w.heap.size (.slice none 0 0) 0 0) := Lib.hid ((hg.block _ H3.out.lt (by have := HWM.out; simp; omega)).trans H3.out)
  have HB4 := Lib.hid (HB3.out.grown hg HB3.out.size (fun r hr => by have := HWM.out; simp at hr; omega))
  have HGM := Lib.hid hgM
  have HW4 := Lib.hid hW4
  clear hX hbd hm3 hk3 m1 o1 hW4 hg HC H2 HB2 HB3 H3 hln hgM
  simp only
  go_upto_region 9 with (fail)
  rw [HW4.out]
  clear mc ml c0 f0 gl HW4
  obtain ⟨-, mc, -, ml⟩ := HM4.out.cells
  rw [HLN.out] at mc
  obtain ⟨z0, z1, z2⟩ := H4.out.cells
  obtain ⟨y0, y1, y2⟩ := H4.out.free
  have hne1 : w.heap.size ≠ g := by have := HGM.out; have := HWM.out; omega
  have HO6 : Hid (stO (((W4.setCell ⟨w.heap.size, 0, none⟩ (.slice (some ⟨g, 0, none⟩) len c)).setCell ⟨w.heap.size, 1, none⟩ (.int .i64 (f : Int))).setCell ⟨w.heap.size, 2, none⟩ (.int .i64 (l : Int))) w.heap.size g c (setK LX l 6)) := Lib.hid ((HO4.out.mono (by have := HWM.out; omega)).pt3 hne1 _ _ _)
  have HB6 := Lib.hid (below_pt3 HB4.out (Nat.le_refl _) (.slice (some ⟨g, 0, none⟩) len c) (f : Int) (l : Int))
  have Z := Lib.hid (H4.out.stored (.slice (some ⟨g, 0, none⟩) len c) (f : Int) (l : Int)).cells
  clear HO4 HM4 H4 HB4 hne1
  go_wp2_with fail
  refine bodyPost_ret (v := .tuple #[.agg #[.slice (some ⟨g, 0, none⟩) len c, .int .i64 (f : Int), .int .i64 (l : Int)], .int .i64 0]) (by simp [results, Try.results15, go_sem, Z.out]) rfl ?_
  rw [HXX.out]
  exact ⟨g, c, by rw [HLN.out], HO6.out, HB6.out⟩

theorem bld_any : BldC := by
  intro p n cap N w h hr
  have h' : n = 0 ∨ ∃ b off, p = some ⟨b, off, none⟩ := by
    rcases h with h | ⟨b, off, e, _⟩
    · exact .inl h
    · exact .inr ⟨b, off, e⟩
  have hS : ∀ w', Below w.heap.size w w' → Calls Try.prog 35 #[.slice p n cap] w' fun e w'' => e = .returned (.int .i64 (sizeF N n)) ∧ Below w'.heap.size w' w'' := fun w' hb => csize_any p n cap N h' w' (fun b off e => (hr b off e).below hb)
  by_cases ht : tree N n
  · have hok := (trT_root ht).2.1
    have hszF : sizeF N n = cap20 (nst (trT N (n - 1)) : Nat) := by unfold sizeF; rw [if_pos ht, sz_nst _ hok]
    by_cases h6 : nst (trT N (n - 1)) ≤ 600
    · obtain ⟨b, off, rfl⟩ : ∃ b off, p = some ⟨b, off, none⟩ := by
        rcases h' with h | h
        · have := (tree_iff.1 ht).1; omega
        · exact h
      obtain ⟨m, rfl⟩ : ∃ m, n = m + 1 := ⟨n - 1, by have := (tree_iff.1 ht).1; omega⟩
      rw [show m + 1 - 1 = m by omega] at hszF h6
      have e : sizeF N (m + 1) = ((nst (trT N m) : Nat) : Int) := by rw [hszF]; unfold cap20; omega
      rw [e] at hS
      refine (cbuild_tree b off m cap N ht h6 w (hr b off rfl) hS).mono ?_
      rintro e w' ⟨g, c, rfl, ho, hb⟩
      obtain ⟨e1, e2, e3, e4⟩ := mk_ok (trT N m) []
      have hbd := mk_bd (trT N m) []
      have hl : (mkF (trT N m) []).1.length = nst (trT N m) := by rw [e1]; simp
      unfold bldPost
      rw [show m + 1 - 1 = m by omega]
      refine ⟨fun hn => absurd ht hn, fun _ h => by omega, fun _ _ => ⟨g, 0, c, sfn (setK (mkF (trT N m) []).1 (mkF (trT N m) []).2.2 6), (mkF (trT N m) []).2.1, (mkF (trT N m) []).2.2, by rw [hl], ?_, ?_, ?_, ?_, hb⟩⟩
      · have := ho.reads
        rwa [setK_len, hl] at this
      · have := ho.cap9
        rwa [setK_len, hl] at this
      · exact fr_same _ _ _ _ (fun q _ _ q3 => (setK_ne q3).symm) e3
      · rw [setK_at hbd.2.2.2, e4]; rfl
    · refine (cbuild_bad p n cap (sizeF N n) 4 (.inr ⟨?_, ?_, rfl⟩) w hS).mono ?_
      · rw [hszF]; unfold cap20; omega
      · rw [hszF]; unfold cap20; omega
      · rintro e w' ⟨rfl, hb⟩
        exact ⟨fun hn => absurd ht hn, fun _ _ => ⟨none, 0, 0, 0, rfl, hb⟩, fun _ h => absurd h h6⟩
  · have e : sizeF N n = -1 := if_neg ht
    rw [e] at hS
    refine (cbuild_bad p n cap (-1) 3 (.inl ⟨by decide, rfl⟩) w hS).mono ?_
    rintro e w' ⟨rfl, hb⟩
    exact ⟨fun _ => ⟨none, 0, rfl, hb⟩, fun h => absurd h ht, fun h => absurd h ht⟩
end Go.Proofs.Ytepegohopgnmnaa
