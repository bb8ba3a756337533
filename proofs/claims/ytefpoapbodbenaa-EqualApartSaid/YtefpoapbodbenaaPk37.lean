/-
  What the fourteenth laws ask beside the walks: emptiness, sameness of the least automata, acceptance of a row's beginnings. Plain.
  The walks of equal.alone, equal.Empty and equal.Apart: the code's contracts.
-/
import Derived.Test.YtefpoapbodbenaaPk24
import Derived.Test.YtefpoapbodbenaaPk36
import Derived.Test.YtefpoapbodbenaaPk30
import Derived.Test.YtefpoapbodbenaaPk22
import Derived.Test.YtefpoapbodbenaaPk23
import Derived.Laws.IdiomStrings
namespace Go.Proofs.Ytefpoapbodbenaa

/-- Nothing is accepted. -/
def emW (x : Da) : Prop := ∀ w, ¬ lnW x x.st.toNat w
noncomputable def emB (x : Da) : Bool := @decide (emW x) (Classical.propDecidable _)
theorem emB_iff {x : Da} : emB x = true ↔ emW x := by unfold emB; simp
/-- Nothing is accepted just if the least automaton has no state that accepts. -/
theorem emW_mn {x : Da} (hx : rgD x) : emW x ↔ ∀ i, i < (mnD x).n2 → (mnD x).T i = false := by
  have hm := mnD_rg hx
  constructor
  · intro h i hi
    cases e : (mnD x).T i with
    | false => rfl
    | true =>
      exfalso
      obtain ⟨w, hw, hr⟩ := rt_word (mnD_reach hx hi)
      refine h w ?_
      rw [← mnD_ln hx]
      exact ⟨hw, by rw [hr]; exact e⟩
  · intro h w hw
    rw [← mnD_ln hx] at hw
    have h0 : (0 : Nat) < (mnD x).n2 := hm.2.2.2.1
    have := h _ (runW_lt hm w 0 h0 hw.1)
    rw [hw.2] at this
    cases this
/-- Nothing is accepted just if no state that is reached accepts. -/
theorem emW_reach {x : Da} : emW x ↔ ∀ i, rtE (edD x) x.st.toNat i → x.T i = false := by
  constructor
  · intro h i hi
    cases e : x.T i with
    | false => rfl
    | true =>
      obtain ⟨w, hw, hr⟩ := rt_word hi
      exact absurd ⟨hw, by rw [hr]; exact e⟩ (h w)
  · intro h w hw
    have := h _ (rt_run x w x.st.toNat hw.1)
    rw [hw.2] at this
    cases this

/-- Automata that are the same lead to the same. -/
theorem saP_go {x y : Da} (hx : rgD x) (h : saP x y) {s c : Nat} (hs : s < x.n2) (hc : c < 259) : goD x s c = goD y s c := by
  obtain ⟨⟨h1, h2⟩, ⟨h3, h4⟩, h5, -, -, -⟩ := h
  obtain ⟨g0, g1, g2, g3, g4, g5, g6, g7, g8, g9⟩ := hx
  have a1 := h2 c (by omega)
  have a2 := g8 c hc
  have hlt : s * x.wd.toNat + (x.l0 c).toNat < x.n1 := by
    obtain ⟨W, hW⟩ : ∃ W : Nat, x.wd = W := ⟨x.wd.toNat, by omega⟩
    rw [hW] at g5 a2 ⊢
    have e5 : x.n1 = x.n2 * W := by exact_mod_cast g5
    rw [e5, Int.toNat_natCast]
    have := Nat.mul_le_mul_right W (show s + 1 ≤ x.n2 from hs)
    rw [Nat.succ_mul] at this
    omega
  unfold goD
  rw [← h5, ← a1, h4 _ hlt]
theorem saP_run {x y : Da} (hx : rgD x) (h : saP x y) : ∀ (w : List Nat) (s : Nat), s < x.n2 → okw w → runW x s w = runW y s w
  | [], _, _, _ => rfl
  | c :: w, s, hs, hw => by
    obtain ⟨h1, h2⟩ := okw_cons.1 hw
    rw [runW_cons, runW_cons, ← saP_go hx h hs h1]
    exact saP_run hx h w _ (runW_lt hx [c] s hs (okw_cons.2 ⟨h1, okw_nil⟩)) h2
theorem saP_ln {x y : Da} (hx : rgD x) (h : saP x y) {s : Nat} (hs : s < x.n2) : lnW x s = lnW y s := by
  funext w
  refine propext ⟨fun g => ⟨g.1, ?_⟩, fun g => ⟨g.1, ?_⟩⟩
  · rw [← saP_run hx h w s hs g.1, ← h.2.2.2.2.2 _ (runW_lt hx w s hs g.1)]; exact g.2
  · rw [h.2.2.2.2.2 _ (runW_lt hx w s hs g.1), saP_run hx h w s hs g.1]; exact g.2
/-- The least ones are the same just if nothing tells the two apart. -/
theorem mnD_saP {x y : Da} (hx : rgD x) (hy : rgD y) : saP (mnD x) (mnD y) ↔ ∀ w, ¬ dfW x y w := by
  rw [dfW_none]
  constructor
  · intro h
    have h0 : (0 : Nat) < (mnD x).n2 := (mnD_rg hx).2.2.2.1
    rw [← mnD_ln hx, ← mnD_ln hy]
    exact saP_ln (mnD_rg hx) h h0
  · intro h
    rw [mnD_same hx hy h]
    exact saP_refl _
theorem saB_mn {x y : Da} (hx : rgD x) (hy : rgD y) (is : Bool) (h : is = true ↔ ∃ w, dfW x y w) : saB (mnD x) (mnD y) = !is := by
  cases is with
  | true =>
    obtain ⟨w, hw⟩ := h.1 rfl
    exact saB_no fun g => (mnD_saP hx hy).1 g w hw
  | false =>
    exact saB_iff.2 ((mnD_saP hx hy).2 fun w hw => by have := h.2 ⟨w, hw⟩; cases this)
/-- Where nothing tells them apart, any row is accepted by both or by none. -/
theorem acD_same {x y : Da} (hx : rgD x) (hy : rgD y) (h : ∀ w, ¬ dfW x y w) (l : Nat → Int) (k : Nat) : acD x l k = acD y l k := by
  rw [Bool.eq_iff_iff, acD_ln hx, acD_ln hy, dfW_none.1 h]
/-- A row's beginning, where the row is a word. -/
theorem row_take {w : List Nat} {l : Nat → Int} (hl : ∀ j, j < w.length → l j = (w.getD j 0 : Nat)) {k : Nat} (hk : k ≤ w.length) : ((List.range k).map fun j => (l j).toNat) = w.take k := by
  apply List.ext_getElem
  · simp; omega
  · intro i h1 h2
    have hi : i < k := by simpa using h1
    have hw : i < w.length := by omega
    simp only [List.getElem_map, List.getElem_range, List.getElem_take]
    rw [hl i hw, List.getD_eq_getElem?_getD, List.getElem?_eq_getElem hw]
    rfl
theorem okw_take {w : List Nat} (h : okw w) (k : Nat) : okw (w.take k) := fun y hy => h y (List.mem_of_mem_take hy)
theorem acD_take {x : Da} (hx : rgD x) {w : List Nat} (hw : okw w) {l : Nat → Int} (hl : ∀ j, j < w.length → l j = (w.getD j 0 : Nat)) {k : Nat} (hk : k ≤ w.length) : acD x l k = x.T (runW x x.st.toNat (w.take k)) := by
  rw [Bool.eq_iff_iff, acD_ln hx, row_take hl hk]
  refine ⟨fun h => h.2.2, fun h => ⟨fun j hj => ?_, okw_take hw k, h⟩⟩
  have hj2 : j < w.length := by omega
  rw [hl j hj2, List.getD_eq_getElem?_getD, List.getElem?_eq_getElem hj2]
  have := hw _ (List.getElem_mem hj2)
  simp only [Option.getD_some]
  omega
/-- What tells them apart is accepted by just one, and no beginning of it is. -/
theorem ap_whole {x y : Da} (hx : rgD x) (hy : rgD y) {w : List Nat} (h : apW x y w) {l : Nat → Int} (hl : ∀ j, j < w.length → l j = (w.getD j 0 : Nat)) : acD x l w.length ≠ acD y l w.length := by
  rw [acD_take hx h.1.1 hl (Nat.le_refl _), acD_take hy h.1.1 hl (Nat.le_refl _), List.take_length]
  exact h.1.2
theorem ap_begin {x y : Da} (hx : rgD x) (hy : rgD y) {w : List Nat} (h : apW x y w) {l : Nat → Int} (hl : ∀ j, j < w.length → l j = (w.getD j 0 : Nat)) {k : Nat} (hk : k < w.length) : acD x l k = acD y l k := by
  rw [acD_take hx h.1.1 hl (Nat.le_of_lt hk), acD_take hy h.1.1 hl (Nat.le_of_lt hk)]
  exact Classical.byContradiction fun g => apW_take h hk ⟨okw_take h.1.1 k, g⟩
end Go.Proofs.Ytefpoapbodbenaa

namespace Go.Proofs.Ytefpoapbodbenaa
open Go.RowKit

theorem append_kin {w : World} {ops : Array Oper} {rest : List Oper} {o : Oper} {a : Act} {Q : Exit → Act → World → Prop} (hgd : o.guard = none) (s x : Operand)
    (ho : o.op = .call { callee := .builtin .append, args := #[s, x], argTypes := #[43, 43] }) (base : Nat) (v : Value) (f : Nat → Int) (n : Nat) (hs : a.eval s = v)
    (hown : spF w base v f n) (g : Nat) (x0 : Int) (hf : f n = x0) (hx : a.eval x = .slice (some ⟨g, 0, none⟩) 1 1)
    (hcell : w.cell? ⟨g, 0, none⟩ = some (.int .i64 x0)) (hlen : n ≤ 10000) (hbase : base ≤ w.heap.size)
    (h : ∀ v' w', spF w' base v' f (n + 1) → w.grownBy w' v.ownBlock → wpList Try.prog ops Q rest (a.put o.dst v') w') : wpList Try.prog ops Q (o :: rest) a w := by
  obtain ⟨i0, hi, hz0, hz1, hz2⟩ := info_parts infoInt9w
  refine wpList_append_own w hgd s x 43 ho base 3 i0 (.int .i64 0) 1 8 Try.underlying43 hi hz0 hz1 hz2 rfl (by decide) v n (fnv f n) hs hown ⟨g, 0, none⟩ 1 1 [.int .i64 x0] hx rfl ?_ ?_ (by unfold maxLen; omega) (by omega) hbase ?_
  · intro j u hu
    match j, hu with
    | 0, hu => simp at hu; subst hu; simpa [Addr.add] using hcell
  · intro u hu
    have : u = .int .i64 x0 := by simpa using hu
    subst this; rfl
  · intro v' w' h1 h2 _
    refine h v' w' ?_ h2
    have e : fnv f n ++ [.int .i64 x0] = fnv f (n + 1) := by
      unfold fnv
      rw [List.range_succ, List.map_append, List.map_singleton, hf]
    rw [e] at h1
    exact h1
set_option maxRecDepth 100000 in
set_option maxHeartbeats 4000000 in
theorem alone14 (n : Nat) (hn0 : 0 < n) (hn : n ≤ 10000) (w : World) :
    Calls Try.prog 19 #[.int .i64 (n : Int)] w fun e w' => ∃ g c, e = .returned (.slice (some ⟨g, 0, none⟩) n c) ∧ icR w' w.heap.size g n c (fun z => z) ∧ Below w.heap.size w w' := by
  obtain ⟨E, hE⟩ : ∃ E, w.heap.size = E := ⟨_, rfl⟩
  have HE := Lib.hid hE
  have n0 : (0 : Int) < (n : Int) := by omega
  have n1 : (n : Int) ≤ 10000 := by omega
  have HO0 : Hid (spF w E (.slice none 0 0) (fun z => (z : Int)) 0) := Lib.hid ⟨rfl, .inl ⟨rfl, rfl⟩⟩
  rw [hE]
  clear hE
  go_enter Try.func19, Try.ntmps19
  go_wp2_with fail
  go_loopw [3, 6] (fun av iv wr => ∃ (i : Nat) (p : Option Addr) (c : Nat), i ≤ n ∧ iv = .int .i64 i ∧ av = .slice p i c ∧ Hid (spF wr E (.slice p i c) (fun z => (z : Int)) i) ∧ Hid (Below E w wr)) (fun _ iv _ => n - (intOf iv).toNat)
  case atStart => exact ⟨0, none, 0, Nat.zero_le _, rfl, rfl, HO0, Lib.hid (Below.refl _ _)⟩
  case round =>
    clear HO0
    obtain ⟨i, p, c, hi, rfl, rfl, HO, HB⟩ := hrel
    by_cases hlt : i < n
    · have i0 : (0 : Int) ≤ (i : Int) := by omega
      have i1 : (i : Int) < (n : Int) := by omega
      have hs : E ≤ wr.heap.size := by have := HB.out.size; have := HE.out; omega
      have hal : Below wr.heap.size wr (wr.alloc (.cells #[.int .i64 (i : Int)] 3)) := (Below.refl _ _).alloc (Nat.le_refl _) _
      have HOA : Hid (spF (wr.alloc (.cells #[.int .i64 (i : Int)] 3)) E (.slice p i c) (fun z => (z : Int)) i) := Lib.hid (owns_below HO.out hal)
      have HBA : Hid (Below E w (wr.alloc (.cells #[.int .i64 (i : Int)] 3))) := Lib.hid (HB.out.trans (hal.mono hs))
      have HSZ : Hid (E ≤ (wr.alloc (.cells #[.int .i64 (i : Int)] 3)).heap.size) := Lib.hid (by rw [World.size_alloc]; omega)
      have HLE : Hid (i ≤ 10000) := Lib.hid (by omega)
      clear HO HB hs hal
      go_wp2_with (at_builtin; refine append_kin rfl _ _ rfl E (.slice p i c) (fun z => (z : Int)) i rfl HOA.out wr.heap.size (i : Int) rfl rfl (by simp) HLE.out HSZ.out ?_; intro v' w3 hown hgrow; have HO := Lib.hid hown; have HG := Lib.hid hgrow; clear hown hgrow; refine Hid.out ?_)
      obtain ⟨p', c', hv'⟩ := spF_of HO.out
      subst hv'
      have HB3 : Hid (Below E w w3) := Lib.hid (HBA.out.grown HG.out HSZ.out fun r hr => (World.ownsRow.lt HOA.out r hr).1)
      clear HOA HBA HG
      refine Lib.hid ?_
      go_wp2_with fail
      go_roundw
      case rel => exact ⟨i + 1, p', c', by omega, by go_num, by go_num, HO, HB3⟩
      case measure => simp [intOf]; omega
    · obtain rfl : i = n := by omega
      rcases id HO.out.2 with ⟨h1, h2⟩ | ⟨g, cap, cur, h1, hb, hg, -⟩
      · omega
      · obtain ⟨e1, -, e3⟩ := Value.slice.inj h1
        subst e1 e3
        have HR : Hid (icR wr E g i c (fun z => z)) := Lib.hid HO.out
        clear HO hg h1
        go_wp2_with fail
        go_returns
        exact ⟨g, c, rfl, HR.out, HB.out⟩

def EmpD : Prop := ∀ (v : Value) (x : Da) (w : World), smD x → daAt w v x → Calls Try.prog 9 #[v] w fun e w' => (rgD x → e = .returned (.tuple #[.bool (emB x), .int .i64 0])) ∧ (¬ rgD x → e = .returned (.tuple #[.bool false, .int .i64 3])) ∧ Below w.heap.size w w'
theorem emB_live {x : Da} (hx : rgD x) {t : Bool} (h : t = true ↔ ∃ k, k < x.n2 ∧ rtE (edD x) x.st.toNat k ∧ x.T k = true) : (!t) = emB x := by
  rw [Bool.eq_iff_iff, emB_iff, emW_reach]
  constructor
  · intro ht i hi
    cases e : x.T i with
    | false => rfl
    | true =>
      obtain ⟨w, hw, hr⟩ := rt_word hi
      have hlt := runW_lt hx w _ (st_lt hx) hw
      rw [hr] at hlt
      have := h.2 ⟨i, hlt, hi, e⟩
      rw [this] at ht; cases ht
  · intro ha
    cases e : t with
    | false => rfl
    | true =>
      obtain ⟨k, _, k2, k3⟩ := h.1 e
      rw [ha k k2] at k3; cases k3
set_option maxRecDepth 100000 in
set_option maxHeartbeats 4000000 in
theorem emp_any : EmpD := by
  intro v x w hs hd
  obtain ⟨D, hD⟩ : ∃ D, w.heap.size = D := ⟨_, rfl⟩
  have hd' := hd
  obtain ⟨q0, c0, q1, c1, q2, c2, rfl, -, -, -⟩ := hd'
  obtain ⟨w1, hw1⟩ : ∃ w1, w.alloc (.cells #[.slice q0 x.n0 c0, .int .i64 x.wd, .int .i64 x.st, .slice q1 x.n1 c1, .slice q2 x.n2 c2] 25) = w1 := ⟨_, rfl⟩
  have hb1 : Below D w w1 := hw1 ▸ hD ▸ (Below.refl _ _).alloc (Nat.le_refl _) _
  have hk1 : isDf w1 D q0 x.n0 c0 x.wd x.st q1 x.n1 c1 q2 x.n2 c2 := hw1 ▸ hD ▸ heap_alloc_new w _
  have hz1 : w1.heap.size = D + 1 := by rw [← hw1, World.size_alloc, hD]
  have HRI := Lib.hid (rig_any _ x w1 hs (hd.below (hD.symm ▸ hb1)))
  obtain ⟨z0, z1, z2, z3, z4⟩ := hk1.cells
  have HDA := Lib.hid (fun w' (h : Below D w w') => hd.below (hD.symm ▸ h))
  have HB1 := Lib.hid hb1; have HW1 := Lib.hid hw1; have HK1 := Lib.hid hk1; have HD := Lib.hid hD; have HSM := Lib.hid hs
  have HZ1 := Lib.hid hz1
  by_cases hx : rgD x
  · have HX := Lib.hid hx
    rw [rgB_yes hx] at HRI
    clear hw1 hb1 hk1 hd hs hx hz1
    go_enter Try.func9, Try.ntmps9
    go_upto_region 1 with (fail)
    rw [HW1.out]
    clear hD
    go_wp2_with fail
    refine HRI.out.mono ?_
    rintro e w2 ⟨rfl, hb2⟩
    have HB2 : Hid (Below D w w2) := Lib.hid (HB1.out.trans (hb2.mono (by have := HZ1.out; omega)))
    have HK2 := Lib.hid (HK1.out.below hb2 HK1.out.lt)
    obtain ⟨s, hs⟩ : ∃ s : Nat, x.st = (s : Int) := ⟨x.st.toNat, by have := HX.out.2.2.2.2.2.2.1; omega⟩
    have hsl : s < x.n2 := by have := HX.out.2.2.2.2.2.2.2.1; omega
    rw [hs] at HK2
    have HS := Lib.hid hs
    have HLV : Hid (Calls Try.prog 22 #[.agg #[.slice q0 x.n0 c0, .int .i64 x.wd, .int .i64 (s : Int), .slice q1 x.n1 c1, .slice q2 x.n2 c2]] w2.drew fun e w' => ∃ bl ol cl t, e = .returned (.slice (some ⟨bl, ol, none⟩) x.n2 cl) ∧ w'.cell? ⟨bl, ol + s, none⟩ = some (.bool t) ∧ (!t) = emB x ∧ Below w2.drew.heap.size w2.drew w') := Lib.hid (by
      have h := liv_any _ x w2.drew HSM.out (HDA.out _ HB2.out.drew)
      rw [hs] at h
      refine h.mono ?_
      rintro e w3 ⟨pl, nl, cl, T, rfl, hrd, -, hy, hb3⟩
      obtain ⟨hn, hT⟩ := hy HX.out
      subst hn
      obtain ⟨bl, ol, rfl, hbl, hcl⟩ := hrd s hsl
      refine ⟨bl, ol, cl, T s, rfl, hcl, emB_live HX.out ?_, hb3⟩
      have := hT s hsl
      rw [hs, Int.toNat_natCast]
      simpa using this)
    have hD2 : D ≤ w2.heap.size := by have := HB2.out.size; have := HD.out; omega
    have HD2 := Lib.hid hD2
    have s0 : (0 : Int) ≤ (s : Int) := by omega
    have s1 : (s : Int) < (x.n2 : Int) := by omega
    clear z0 z1 z2 z3 z4 hb2 HRI hs hD2
    obtain ⟨z0, z1, z2, z3, z4⟩ := HK2.out.cells
    have HSL := Lib.hid hsl
    clear hsl
    go_upto_region 3 with (fail)
    have HKY : Hid (∀ w', Below w2.drew.heap.size w2.drew w' → w'.cell? ⟨D, 2, none⟩ = some (.int .i64 (s : Int))) := Lib.hid fun w' h => ((show isDf w2.drew D q0 x.n0 c0 x.wd s q1 x.n1 c1 q2 x.n2 c2 from HK2.out).below h HK2.out.lt).cells.2.2.1
    go_region_with (first | (go_at_call 22; refine HLV.out.mono ?_; rintro e w3 ⟨bl, ol, cl, t, rfl, hcl, ht, hb3⟩; have hy2 := HKY.out _ hb3; have HT := Lib.hid ht; have HB3 := Lib.hid (HB2.out.drew.trans (hb3.mono HD2.out)); clear hb3 ht))
    all_goals
      have HF : Hid (∀ n, Below w.heap.size w (w3.drewN n)) := Lib.hid fun n => HD.out.symm ▸ below_drewN n HB3.out
      clear hcl hy2 HKY HLV z0 z1 z2 z3 z4
      go_wp2_with fail
      go_returns
      exact ⟨fun _ => by rw [← HT.out] <;> rfl, fun h => absurd HX.out h, HF.out 0⟩
  · rw [rgB_no hx] at HRI
    have HX := Lib.hid hx
    clear hw1 hb1 hk1 hd hs hx hz1
    go_enter Try.func9, Try.ntmps9
    go_upto_region 1 with (fail)
    rw [HW1.out]
    clear hD
    go_wp2_with fail
    refine HRI.out.mono ?_
    rintro e w2 ⟨rfl, hb2⟩
    have HB2 : Hid (Below w.heap.size w w2) := Lib.hid (HD.out.symm ▸ HB1.out.trans (hb2.mono (by have := HZ1.out; omega)))
    clear z0 z1 z2 z3 z4 hb2 HRI
    go_wp2_with fail
    go_returns
    exact ⟨fun h => absurd h HX.out, fun _ => rfl, HB2.out⟩
end Go.Proofs.Ytefpoapbodbenaa
