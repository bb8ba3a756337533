/-
  The walk of the seventh reference's Fit, where a node is empty, a beginning or an end.
  What the seventh reference's Fit and All tell of a tree: which parts fit.
  The sets of the states that are made of a tree are sets; the law NfaFits over whatever list and text come in.
  The walk of the law SubsetFits, over whatever Build and Count are that do as the page says.
-/
import Derived.Test.YtepegohopgnmnaaPk12
import Derived.Test.YtepegohopgnmnaaPk50
import Derived.Test.YtepegohopgnmnaaPk13
import Derived.Test.YtepegohopgnmnaaPk42
import Derived.Test.YtepegohopgnmnaaPk4
import Derived.Test.YtepegohopgnmnaaPk16
import Derived.Test.YtepegohopgnmnaaPk44
import Derived.Test.YtepegohopgnmnaaPk49
import Derived.Test.YtepegohopgnmnaaPk19
import Derived.Test.YtepegohopgnmnaaPk20
import Derived.Test.YtepegohopgnmnaaPk32
import Derived.Deep.RegionHeldLaw
namespace Go.Proofs.Ytepegohopgnmnaa
open Go.RowKit

set_option maxRecDepth 100000 in
set_option maxHeartbeats 4000000 in
theorem fit_empty (b off n cap : Nat) (N : Nat → Nd) (hn : n ≤ 512) (i : Nat) (hi : i < n) (hfst : 0 ≤ fst N i) (hkids : kids N i = []) (hk0 : (N i).k = 2) (s : ByteArray) (m : Nat) (hm : s.size = m) (hm10 : m ≤ 1000) (w : World) (hr : rdN w b off n N) :
    Calls Try.prog 37 #[.slice (some ⟨b, off, none⟩) n cap, .int .i64 (i : Int), .string s] w (fitPost m (evenB m) w) := by
  have hKd := rkids_is b off n cap i N (by omega) hi hfst w hr
  rw [hkids] at hKd
  have HKd := Lib.hid hKd; have HRD := Lib.hid hr; have HK0 := Lib.hid hk0
  have i0 : (0 : Int) ≤ (i : Int) := by omega
  have i1 : (i : Int) < (n : Int) := by omega
  have HGrid := Lib.hid (grid_any m hm10)
  clear hKd hr hk0 hkids hfst
  go_enter Try.func37, Try.ntmps37
  go_wp2_with fail
  refine HKd.out.mono ?_
  rintro e w2 ⟨kv, rfl, -, hb⟩
  have HB2 := Lib.hid hb
  clear hb HKd
  go_wp2_with fail
  refine (HGrid.out _).mono ?_
  rintro e w3 ⟨vg, rfl, ⟨r, hg⟩, hb⟩
  have HB3 := Lib.hid (HB2.out.trans (hb.mono HB2.out.size))
  have p0 := ((HRD.out.below HB3.out) i hi).2.1
  rw [HK0.out] at p0
  have HG := Lib.hid (hg.mono HB2.out.size)
  clear hb HB2 HGrid hg HRD
  have HE := Lib.hid (even_any m hm10)
  go_wp2_with fail
  refine (HE.out _).mono ?_
  rintro e w4 ⟨v4, rfl, ⟨r4, hg4⟩, hb⟩
  have HB4 := Lib.hid (HB3.out.trans (hb.mono HB3.out.size))
  have HG4 := Lib.hid (hg4.mono HB3.out.size)
  clear hb hg4
  go_wp2_with fail
  go_returns
  exact ⟨_, rfl, ⟨r4, HG4.out⟩, HB4.out⟩

set_option maxRecDepth 100000 in
set_option maxHeartbeats 4000000 in
theorem fit_begin (b off n cap : Nat) (N : Nat → Nd) (hn : n ≤ 512) (i : Nat) (hi : i < n) (hfst : 0 ≤ fst N i) (hkids : kids N i = []) (hk0 : (N i).k = 3) (s : ByteArray) (m : Nat) (hm : s.size = m) (hm10 : m ≤ 1000) (w : World) (hr : rdN w b off n N) :
    Calls Try.prog 37 #[.slice (some ⟨b, off, none⟩) n cap, .int .i64 (i : Int), .string s] w (fitPost m (fun x y => decide (x = 0) && decide (y = 0)) w) := by
  have hKd := rkids_is b off n cap i N (by omega) hi hfst w hr
  rw [hkids] at hKd
  have HKd := Lib.hid hKd; have HRD := Lib.hid hr; have HK0 := Lib.hid hk0
  have i0 : (0 : Int) ≤ (i : Int) := by omega
  have i1 : (i : Int) < (n : Int) := by omega
  have HGrid := Lib.hid (grid_any m hm10)
  clear hKd hr hk0 hkids hfst
  go_enter Try.func37, Try.ntmps37
  go_wp2_with fail
  refine HKd.out.mono ?_
  rintro e w2 ⟨kv, rfl, -, hb⟩
  have HB2 := Lib.hid hb
  clear hb HKd
  go_wp2_with fail
  refine (HGrid.out _).mono ?_
  rintro e w3 ⟨vg, rfl, ⟨r, hg⟩, hb⟩
  have HB3 := Lib.hid (HB2.out.trans (hb.mono HB2.out.size))
  have p0 := ((HRD.out.below HB3.out) i hi).2.1
  rw [HK0.out] at p0
  have HG := Lib.hid (hg.mono HB2.out.size)
  clear hb HB2 HGrid hg HRD
  obtain ⟨go, gc, rfl, -, -, hco⟩ := HG.out.outer
  have q0 := hco 0 (by omega)
  obtain ⟨q1, q2, q3, -⟩ := HG.out.at (i := 0) (j := 0) (by omega) (by omega)
  have HG2 : Hid (grK (w3.setCell ⟨r 0, 0, none⟩ (.bool true)) w.heap.size (.slice (some ⟨go, 0, none⟩) (m + 1) gc) m (m + 1) r (fun x y => decide (x = 0) && decide (y = 0))) := Lib.hid ((HG.out.put (i := 0) (j := 0) (by omega) true).same fun x y _ _ => by
    unfold putG
    by_cases h1 : x = 0
    · by_cases h2 : y = 0
      · simp [h1, h2]
      · simp [h1, h2]
    · simp [h1])
  have HB4 : Hid (Below w.heap.size w (w3.setCell ⟨r 0, 0, none⟩ (.bool true))) := Lib.hid (HB3.out.setCell (p := ⟨r 0, 0, none⟩) q3 (.bool true))
  have m0 : (0 : Int) ≤ (m : Int) := by omega
  have m1 : (m : Int) < (m : Int) + 1 := by omega
  have m2 : (0 : Int) < (m : Int) + 1 := by omega
  clear hco q3 HG HB3
  go_wp2_with fail
  go_returns
  exact ⟨_, rfl, ⟨r, HG2.out⟩, HB4.out⟩

set_option maxRecDepth 100000 in
set_option maxHeartbeats 4000000 in
theorem fit_end (b off n cap : Nat) (N : Nat → Nd) (hn : n ≤ 512) (i : Nat) (hi : i < n) (hfst : 0 ≤ fst N i) (hkids : kids N i = []) (hk0 : (N i).k = 4) (s : ByteArray) (m : Nat) (hm : s.size = m) (hm10 : m ≤ 1000) (w : World) (hr : rdN w b off n N) :
    Calls Try.prog 37 #[.slice (some ⟨b, off, none⟩) n cap, .int .i64 (i : Int), .string s] w (fitPost m (fun x y => decide (x = m) && decide (y = m)) w) := by
  have hKd := rkids_is b off n cap i N (by omega) hi hfst w hr
  rw [hkids] at hKd
  have HKd := Lib.hid hKd; have HRD := Lib.hid hr; have HK0 := Lib.hid hk0
  have i0 : (0 : Int) ≤ (i : Int) := by omega
  have i1 : (i : Int) < (n : Int) := by omega
  have HGrid := Lib.hid (grid_any m hm10)
  clear hKd hr hk0 hkids hfst
  go_enter Try.func37, Try.ntmps37
  go_wp2_with fail
  refine HKd.out.mono ?_
  rintro e w2 ⟨kv, rfl, -, hb⟩
  have HB2 := Lib.hid hb
  clear hb HKd
  go_wp2_with fail
  refine (HGrid.out _).mono ?_
  rintro e w3 ⟨vg, rfl, ⟨r, hg⟩, hb⟩
  have HB3 := Lib.hid (HB2.out.trans (hb.mono HB2.out.size))
  have p0 := ((HRD.out.below HB3.out) i hi).2.1
  rw [HK0.out] at p0
  have HG := Lib.hid (hg.mono HB2.out.size)
  clear hb HB2 HGrid hg HRD
  obtain ⟨go, gc, rfl, -, -, hco⟩ := HG.out.outer
  have q0 := hco m (by omega)
  obtain ⟨q1, q2, q3, -⟩ := HG.out.at (i := m) (j := m) (by omega) (by omega)
  have HG2 : Hid (grK (w3.setCell ⟨r m, m, none⟩ (.bool true)) w.heap.size (.slice (some ⟨go, 0, none⟩) (m + 1) gc) m (m + 1) r (fun x y => decide (x = m) && decide (y = m))) := Lib.hid ((HG.out.put (i := m) (j := m) (by omega) true).same fun x y _ _ => by
    unfold putG
    by_cases h1 : x = m
    · by_cases h2 : y = m
      · simp [h1, h2]
      · simp [h1, h2]
    · simp [h1])
  have HB4 : Hid (Below w.heap.size w (w3.setCell ⟨r m, m, none⟩ (.bool true))) := Lib.hid (HB3.out.setCell (p := ⟨r m, m, none⟩) q3 (.bool true))
  have m0 : (0 : Int) ≤ (m : Int) := by omega
  have m1 : (m : Int) < (m : Int) + 1 := by omega
  have m2 : (0 : Int) < (m : Int) + 1 := by omega
  clear hco q3 HG HB3
  go_wp2_with fail
  go_returns
  exact ⟨_, rfl, ⟨r, HG2.out⟩, HB4.out⟩
end Go.Proofs.Ytepegohopgnmnaa

namespace Go.Proofs.Ytepegohopgnmnaa
open Go.RowKit

/-- Two grids agree where a part may be. -/
def agr (n : Nat) (A B : Gr) : Prop := ∀ i j, i ≤ j → j ≤ n → A i j = B i j
theorem agr_beh {n : Nat} {A A' B B' : Gr} (hA : agr n A A') (hB : agr n B B') : agr n (behB n A B) (behB n A' B') := fun i j hij hj => by
  rw [Bool.eq_iff_iff, beh_iff, beh_iff]
  constructor
  · rintro ⟨m, h1, h2, h3, h4, h5⟩
    exact ⟨m, h1, h2, h3, by rw [← hA i m h2 h1]; exact h4, by rw [← hB m j h3 hj]; exact h5⟩
  · rintro ⟨m, h1, h2, h3, h4, h5⟩
    exact ⟨m, h1, h2, h3, by rw [hA i m h2 h1]; exact h4, by rw [hB m j h3 hj]; exact h5⟩
theorem agr_eit {n : Nat} {A A' B B' : Gr} (hA : agr n A A') (hB : agr n B B') : agr n (eitB A B) (fun i j => A' i j || B' i j) := fun i j hij hj => by
  unfold eitB
  rw [decide_eq_true hij, Bool.true_and, hA i j hij hj, hB i j hij hj]
theorem agr_pow {n : Nat} {A A' : Gr} (hA : agr n A A') : ∀ k, agr n (powB n A k) (powB n A' k)
  | 0 => fun _ _ _ _ => rfl
  | k + 1 => agr_beh (agr_pow hA k) hA
theorem agr_acc {n : Nat} {A A' : Gr} (hA : agr n A A') (lo : Nat) : ∀ j, agr n (accB n A lo j) (repB n A' lo j)
  | 0 => fun i c hi hc => by
    have h := agr_pow hA lo i c hi hc
    show powB n A lo i c = (List.range 1).any fun k => powB n A' (lo + k) i c
    rw [h]
    simp [List.range_succ]
  | j + 1 => fun i c hi hc => by
    have h1 := agr_acc hA lo j i c hi hc
    have h2 := agr_pow hA (lo + j + 1) i c hi hc
    show eitB (accB n A lo j) (powB n A (lo + j + 1)) i c = (List.range (j + 1 + 1)).any fun k => powB n A' (lo + k) i c
    unfold eitB
    rw [decide_eq_true hi, Bool.true_and, h1, h2, List.range_succ, List.any_append]
    simp [repB, Nat.add_assoc]

/-- Fit, over a tree. -/
theorem fit_is (b off n cap : Nat) (N : Nat → Nd) (ht : tree N n) (hw : ∀ j, j < n → okW (N j)) (s : ByteArray) (m : Nat) (hm : s.size = m) (hm10 : m ≤ 1000) : ∀ i, i < n → ∃ F, agr m F (fitT m (tx7 s) (trT N i)) ∧ ∀ w, rdN w b off n N →
    Calls Try.prog 37 #[.slice (some ⟨b, off, none⟩) n cap, .int .i64 (i : Int), .string s] w (fitPost m F w) := by
  intro i
  induction i using Nat.strongRecOn with
  | ind i ih =>
  intro hi
  have hn := ht.1
  obtain ⟨hf0, hok⟩ := (tree_iff.1 ht).2.2.1 i hi
  obtain ⟨f, hf, hc⟩ := nd_is ht hi
  cases hc with
  | leaf _ hk0 _ =>
    have hkids : kids N i = [] := by unfold kids; rcases hk0 with h | h | h | h <;> (rw [h]; rfl)
    rw [trT_leaf hk0]
    rcases hk0 with hk | hk | hk | hk
    · refine ⟨setC (fOf (N i)) (tx7 s) m, fun a c hac hc => ?_, fun w hr => fit_set b off n cap N hn i hi hf0 hkids hk (hw i hi) s m hm hm10 w hr⟩
      show _ = leafB7 m (tx7 s) (N i) a c
      unfold setC leafB7
      rw [if_pos hk, Bool.and_assoc]
    · refine ⟨evenB m, fun a c hac hc => ?_, fun w hr => fit_empty b off n cap N hn i hi hf0 hkids hk s m hm hm10 w hr⟩
      show _ = leafB7 m (tx7 s) (N i) a c
      unfold leafB7
      rw [if_neg (by omega), if_pos hk]
    · refine ⟨fun x y => decide (x = 0) && decide (y = 0), fun a c hac hc => ?_, fun w hr => fit_begin b off n cap N hn i hi hf0 hkids hk s m hm hm10 w hr⟩
      show _ = leafB7 m (tx7 s) (N i) a c
      unfold leafB7
      rw [if_neg (by omega), if_neg (by omega), if_pos hk]
    · refine ⟨fun x y => decide (x = m) && decide (y = m), fun a c hac hc => ?_, fun w hr => fit_end b off n cap N hn i hi hf0 hkids hk s m hm hm10 w hr⟩
      show _ = leafB7 m (tx7 s) (N i) a c
      unfold leafB7
      rw [if_neg (by omega), if_neg (by omega), if_neg (by omega)]
  | @one p _ _ hk0 h1 h2 _ =>
    have hkids : kids N (p + 1) = [(p : Int)] := by unfold kids; rw [hk0, if_pos (show ar 7 = 1 from rfl)]; congr 1; omega
    obtain ⟨F, hF, hc⟩ := ih p (by omega) (by omega)
    have hrep := okN_rep hok hk0
    obtain ⟨l, hl⟩ := Int.eq_ofNat_of_zero_le hrep.1
    rw [trT_one hk0]
    refine ⟨accB m F l (moreN m l (N (p + 1)).hi), ?_, fun w hr => fit_rep b off n cap N hn (p + 1) p hi hf0 hkids hk0 l hl (by omega) (by omega) s m hm hm10 F w hr (fun w' hB => hc w' (hr.below hB))⟩
    have := agr_acc hF l (moreN m l (N (p + 1)).hi)
    show agr m _ (repB m (fitT m (tx7 s) (trT N p)) (N (p + 1)).lo.toNat (moreN m (N (p + 1)).lo (N (p + 1)).hi))
    rw [hl]
    exact this
  | @two p q _ _ hk0 h1 h2 h3 h4 _ =>
    have hkids : kids N (p + 1) = [(q : Int), (p : Int)] := by
      unfold kids
      rw [if_neg (by rcases hk0 with h | h <;> rw [h] <;> decide), if_pos (by rcases hk0 with h | h <;> rw [h] <;> rfl), Nat.add_sub_cancel, h1]
      congr 1
      · omega
      · congr 1; omega
    obtain ⟨Fp, hFp, hcp⟩ := ih p (by omega) (by omega)
    obtain ⟨Fq, hFq, hcq⟩ := ih q (by omega) (by omega)
    rcases hk0 with hk0 | hk0
    · rw [trT_cat ht hi hk0 h1 h2]
      exact ⟨behB m Fq Fp, agr_beh hFq hFp, fun w hr => fit_cat b off n cap N hn (p + 1) p q hi hf0 hkids hk0 s m hm hm10 Fq Fp w hr (fun w' hB => hcq w' (hr.below hB)) (fun w' hB => hcp w' (hr.below hB))⟩
    · rw [trT_or ht hi hk0 h1 h2]
      exact ⟨eitB Fq Fp, agr_eit hFq hFp, fun w hr => fit_or b off n cap N hn (p + 1) p q hi hf0 hkids hk0 s m hm hm10 Fq Fp w hr (fun w' hB => hcq w' (hr.below hB)) (fun w' hB => hcp w' (hr.below hB))⟩

/-- All, over a tree. -/
theorem all_is (b off n cap : Nat) (N : Nat → Nd) (ht : tree N n) (hw : ∀ j, j < n → okW (N j)) (s : ByteArray) (m : Nat) (hm : s.size = m) (hm10 : m ≤ 1000) : ∃ F, agr m F (fitT m (tx7 s) (trT N (n - 1))) ∧ ∀ w, rdN w b off n N →
    Calls Try.prog 16 #[.slice (some ⟨b, off, none⟩) n cap, .string s] w (fitPost m F w) := by
  have hpos : 0 < n := (tree_iff.1 ht).1
  have hn := ht.1
  obtain ⟨F, hF, hc⟩ := fit_is b off n cap N ht hw s m hm hm10 (n - 1) (by omega)
  refine ⟨F, hF, fun w hr => ?_⟩
  have hc1 := hc w hr
  rw [show ((n - 1 : Nat) : Int) = (n : Int) - 1 by omega] at hc1
  have HC := Lib.hid hc1
  have hwr : IntKind.i64.wrap ((n : Int) - 1) = (n : Int) - 1 := by rw [IntKind.wrap_i64]; omega
  clear hc1 hc hF ht hw hr hm
  go_enter Try.func16, Try.ntmps16
  go_wp2_with fail
  refine HC.out.mono ?_
  rintro e w2 ⟨v, rfl, hg, hb⟩
  have HG := Lib.hid hg; have HB := Lib.hid hb
  clear hg hb
  go_wp2_with fail
  go_returns
  exact ⟨_, rfl, HG.out, HB.out⟩
end Go.Proofs.Ytepegohopgnmnaa

namespace Go.Proofs.Ytepegohopgnmnaa
open Go.RowKit

def okA (L : List Sd) : Prop := ∀ q, okWs (sfn L q)
theorem okWs_E (A : Nat) : okWs (sE A) := ⟨⟨by show (0 : Int) ≤ 0; decide, by show (0 : Int) < 18446744073709551616; decide⟩, ⟨by show (0 : Int) ≤ 0; decide, by show (0 : Int) < 18446744073709551616; decide⟩, ⟨by show (0 : Int) ≤ 0; decide, by show (0 : Int) < 18446744073709551616; decide⟩, ⟨by show (0 : Int) ≤ 0; decide, by show (0 : Int) < 18446744073709551616; decide⟩⟩
theorem okWs_S (A B : Nat) : okWs (sS A B) := ⟨⟨by show (0 : Int) ≤ 0; decide, by show (0 : Int) < 18446744073709551616; decide⟩, ⟨by show (0 : Int) ≤ 0; decide, by show (0 : Int) < 18446744073709551616; decide⟩, ⟨by show (0 : Int) ≤ 0; decide, by show (0 : Int) < 18446744073709551616; decide⟩, ⟨by show (0 : Int) ≤ 0; decide, by show (0 : Int) < 18446744073709551616; decide⟩⟩
theorem okWs_fin : okWs fin9 := ⟨by decide, by decide, by decide, by decide⟩
theorem sfn_out {L : List Sd} {q : Nat} (h : L.length ≤ q) : sfn L q = sE 0 := by
  unfold sfn
  rw [List.getD_eq_getElem?_getD, List.getElem?_eq_none h]; rfl
theorem okA.setA {L : List Sd} (h : okA L) (j A : Nat) : okA (setA L j A) := fun q => by
  by_cases e : q = j
  · subst e
    rcases Nat.lt_or_ge q L.length with hl | hl
    · rw [setA_at hl]; exact h q
    · rw [sfn_out (by rw [setA_len]; exact hl)]; exact okWs_E 0
  · rw [setA_ne e]; exact h q
theorem okA.setB {L : List Sd} (h : okA L) (j A : Nat) : okA (setB L j A) := fun q => by
  by_cases e : q = j
  · subst e
    rcases Nat.lt_or_ge q L.length with hl | hl
    · rw [setB_at hl]; exact h q
    · rw [sfn_out (by rw [setB_len]; exact hl)]; exact okWs_E 0
  · rw [setB_ne e]; exact h q
theorem okA.more {L : List Sd} (h : okA L) {x : Sd} (hx : okWs x) : okA (L ++ [x]) := fun q => by
  rcases Nat.lt_trichotomy q L.length with hl | hl | hl
  · rw [sfn_old hl]; exact h q
  · rw [sfn_new hl]; exact hx
  · rw [sfn_out (by simp; omega)]; exact okWs_E 0
theorem okA_cp {mk : List Sd → List Sd × Nat × Nat} (hm : ∀ L, okA L → okA (mk L).1) : ∀ m L ah, okA L → okA (cpL mk m L ah).1
  | 0, _, _, h => h
  | m + 1, L, _, h => okA_cp hm m _ _ ((hm L h).setA _ _)
theorem okA_op {mk : List Sd → List Sd × Nat × Nat} (hm : ∀ L, okA L → okA (mk L).1) : ∀ m L ah, okA L → okA (opL mk m L ah).1
  | 0, _, _, h => h
  | m + 1, L, _, h => okA_op hm m _ _ (((hm L h).more (okWs_S _ 0)).setA _ _)
theorem okA_bs (last : Nat) : ∀ (sp : List Nat) (L : List Sd), okA L → okA (bsL last L sp)
  | [], _, h => h
  | s :: sp, _, h => okA_bs last sp _ (h.setB s last)
theorem okA_ed (inf : Bool) (r : List Sd × Nat × List Nat) (h : okA r.1) : okA (edL9 inf r).1 := by
  unfold edL9
  refine okA_bs _ _ _ ?_
  have h1 := (h.more (okWs_E 0)).setA r.2.1 r.1.length
  cases inf with
  | true => exact h1.setA _ _
  | false => exact h1
theorem okA_mk : ∀ t, (∀ x, x ∈ post t → okW x) → ∀ L, okA L → okA (mkF t L).1
  | .leaf x, h, L, hL => (hL.more (show okWs (leafS x (L.length + 1)) from h x (List.mem_singleton.2 rfl))).more (okWs_E 0)
  | .cat a b, h, L, hL => by
    have h : ∀ x, x ∈ post a ++ post b ++ [nd0 5] → okW x := h
    exact (okA_mk b (fun x hx => h x (by simp [hx])) _ (okA_mk a (fun x hx => h x (by simp [hx])) L hL)).setA _ _
  | .or a b, h, L, hL => by
    have h : ∀ x, x ∈ post a ++ post b ++ [nd0 6] → okW x := h
    exact ((((okA_mk b (fun x hx => h x (by simp [hx])) _ (okA_mk a (fun x hx => h x (by simp [hx])) L hL)).more (okWs_S _ _)).more (okWs_E 0)).setA _ _).setA _ _
  | .rep a lo hi, h, L, hL => by
    have h : ∀ x, x ∈ post a ++ [ndR lo hi] → okW x := h
    have ha := okA_mk a (fun x hx => h x (by simp [hx]))
    exact okA_ed _ _ (okA_op ha _ _ _ (okA_cp ha _ _ _ (hL.more (okWs_E 0))))
/-- The states of a tree's automaton have sets. -/
theorem fr_okWs {S : Nat → Sd} {N : Nat → Nd} {n : Nat} (ht : tree N n) (hw : ∀ j, j < n → okW (N j)) {f l : Nat} (h : isFr S (trT N (n - 1)) 0 f l) (hl : S l = fin9) : ∀ q, q < nst (trT N (n - 1)) → okWs (S q) := fun q hq => by
  by_cases e : q = l
  · rw [e, hl]; exact okWs_fin
  · obtain ⟨-, -, h3⟩ := fr_un _ _ _ _ _ _ h (mk_ok (trT N (n - 1)) []).2.2.1
    rw [h3 q (Nat.zero_le _) (by simpa using hq) e]
    refine okA_mk _ (fun x hx => ?_) [] (fun q => okWs_E 0) q
    rw [(trT_root ht).1] at hx
    unfold seg at hx
    obtain ⟨i, hi, rfl⟩ := List.mem_map.1 hx
    have := List.mem_range'.1 hi
    exact hw i (by omega)

theorem no_right (hR : RgtC) (p : Option Addr) (c : Nat) (st fin : Int) (w : World) : Calls Try.prog 20 #[nfV p 0 c st fin] w fun e w' => e = .returned (.bool false) ∧ Below w.heap.size w w' := by
  have h := hR p 0 c (fun _ => fin9) st fin w (by decide) ⟨.inl rfl, fun b off e j hj => absurd hj (Nat.not_lt_zero _)⟩
  rwa [decide_eq_false (fun h : rightP (fun _ => fin9) 0 st fin => by have := h.1.1; omega)] at h
end Go.Proofs.Ytepegohopgnmnaa

namespace Go.Proofs.Ytepegohopgnmnaa
open Go.RowKit

set_option maxRecDepth 100000 in
set_option maxHeartbeats 8000000 in
/-- The law, where there is no tree, or one that is too great. -/
theorem sfits_out (hA : ∀ w, Calls Try.prog 6 #[] w fun e w' => e = .returned (.bool true) ∧ Below w.heap.size w w')
    (p : Option Addr) (n cap k : Nat) (hk : k = min n 30) (hcap : n ≤ cap) (t : ByteArray) (w : World) (rt : Bool) (D : Int) (hD : 60 < D)
    (hR : ∀ w', Below w.heap.size w w' → Calls Try.prog 13 #[.slice p k cap] w' fun e w'' => e = .returned (.bool rt) ∧ Below w'.heap.size w' w'')
    (hS : rt = true → 1 ≤ k ∧ ∀ w', Below w.heap.size w w' → Calls Try.prog 14 #[.slice p k cap, .int .i64 ((k : Int) - 1)] w' fun e w'' => e = .returned (.int .i64 D) ∧ Below w'.heap.size w' w'') :
    Calls Try.prog 5 #[.slice p n cap, .string t] w fun e w' => e = .returned (.bool true) ∧ Below w.heap.size w w' := by
  obtain ⟨m, hm⟩ : ∃ m, m = min t.size 8 := ⟨_, rfl⟩
  have HA := Lib.hid hA; have HR := Lib.hid hR
  have h1 : (if (30 : Int) < (n : Int) then (30 : Int) else (n : Int)) = (k : Int) := by split <;> omega
  have h2 : (if (8 : Int) < (t.size : Int) then (8 : Int) else (t.size : Int)) = (m : Int) := by split <;> omega
  have e1 : min (n : Int) 30 = (k : Int) := by omega
  have e2 : min (t.size : Int) 8 = (m : Int) := by omega
  have H1 := Lib.hid h1
  have H2 := Lib.hid h2
  have k0 : (0 : Int) ≤ (k : Int) := by omega
  have k1 : (k : Int) ≤ (cap : Int) := by omega
  have k2 : (k : Int) ≤ 30 := by omega
  have m0 : (0 : Int) ≤ (m : Int) := by omega
  have m1 : (m : Int) ≤ (t.size : Int) := by omega
  have dD : decide (60 < D) = true := decide_eq_true hD
  cases rt with
  | false =>
    clear hA hR hS h1 h2 hk hm
    go_enter Try.func5, Try.ntmps5
    go_wp2_with fail
    refine (HA.out _).mono ?_
    rintro e w1 ⟨rfl, hb⟩
    have HB1 := Lib.hid hb
    clear hb HA
    go_wp2_with fail
    go_region_held_law (fun _ => True) (exact trivial) (first | (refine wp_min9 _ _ rfl (n : Int) 30 (k : Int) rfl rfl H1.out ?_) | (refine wp_min9 _ _ rfl (t.size : Int) 8 (m : Int) rfl rfl H2.out ?_))
    all_goals
      have HB2 := Lib.hid HB1.out.drew
      clear HB1
      generalize w1.drew = w2 at *
      go_wp2_with fail
      refine (HR.out _ HB2.out).mono ?_
      rintro e w3 ⟨rfl, hb⟩
      have HB3 := Lib.hid (HB2.out.trans (hb.mono HB2.out.size))
      clear hb HR HB2
      go_wp2_with fail
      go_returns
      exact ⟨rfl, HB3.out⟩
  | true =>
    obtain ⟨k3, hS⟩ := hS rfl
    have HS := Lib.hid hS
    have k4 : (1 : Int) ≤ (k : Int) := by omega
    clear hA hR hS h1 h2 hk hm
    go_enter Try.func5, Try.ntmps5
    go_wp2_with fail
    refine (HA.out _).mono ?_
    rintro e w1 ⟨rfl, hb⟩
    have HB1 := Lib.hid hb
    clear hb HA
    go_wp2_with fail
    go_region_held_law (fun _ => True) (exact trivial) (first | (refine wp_min9 _ _ rfl (n : Int) 30 (k : Int) rfl rfl H1.out ?_) | (refine wp_min9 _ _ rfl (t.size : Int) 8 (m : Int) rfl rfl H2.out ?_))
    all_goals
      have HB2 := Lib.hid HB1.out.drew
      clear HB1
      generalize w1.drew = w2 at *
      go_wp2_with fail
      refine (HR.out _ HB2.out).mono ?_
      rintro e w3 ⟨rfl, hb⟩
      have HB3 := Lib.hid (HB2.out.trans (hb.mono HB2.out.size))
      clear hb HR HB2
      go_wp2_with fail
      refine (HS.out _ HB3.out).mono ?_
      rintro e w4 ⟨rfl, hb⟩
      have HB4 := Lib.hid (HB3.out.trans (hb.mono HB3.out.size))
      clear hb HB3
      go_wp2_with fail
      go_returns
      exact ⟨rfl, HB4.out⟩
end Go.Proofs.Ytepegohopgnmnaa
