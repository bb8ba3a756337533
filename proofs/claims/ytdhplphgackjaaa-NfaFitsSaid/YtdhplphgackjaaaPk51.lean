/-
  The walk of the seventh reference's Fit, where a node is empty, a beginning or an end.
  What the seventh reference's Fit and All tell of a tree: which parts fit.
-/
import Derived.Test.YtdhplphgackjaaaPk24
import Derived.Test.YtdhplphgackjaaaPk50
import Derived.Test.YtdhplphgackjaaaPk25
namespace Go.Proofs.Ytdhplphgackjaaa
open Go.RowKit

set_option maxRecDepth 100000 in
set_option maxHeartbeats 4000000 in
theorem fit_empty (b off n cap : Nat) (N : Nat → Nd) (hn : n ≤ 512) (i : Nat) (hi : i < n) (hfst : 0 ≤ fst N i) (hkids : kids N i = []) (hk0 : (N i).k = 2) (s : ByteArray) (m : Nat) (hm : s.size = m) (hm10 : m ≤ 1000) (w : World) (hr : rdN w b off n N) :
    Calls Try.prog 35 #[.slice (some ⟨b, off, none⟩) n cap, .int .i64 (i : Int), .string s] w (fitPost m (evenB m) w) := by
  have hKd := rkids_is b off n cap i N (by omega) hi hfst w hr
  rw [hkids] at hKd
  have HKd := Lib.hid hKd; have HRD := Lib.hid hr; have HK0 := Lib.hid hk0
  have i0 : (0 : Int) ≤ (i : Int) := by omega
  have i1 : (i : Int) < (n : Int) := by omega
  have HGrid := Lib.hid (grid_any m hm10)
  clear hKd hr hk0 hkids hfst
  go_enter Try.func35, Try.ntmps35
  go_wp2_with fail
  refine HKd.out.mono ?_
  rintro e w2 ⟨kv, rfl, -, hb⟩
  have HB2 := Lib.hid hb
  clear hb HKd
  go_wp2_with fail
  refine (HGrid.out _).mono ?_
  rintro e w3 ⟨vg, rfl, ⟨r, hg⟩, hb⟩
  have HB3 := Lib.hid (HB2.out.trans (hb.mono HB2.out.size))
  have p0 := ((HRD.out.below HB3.out) i hi).2.1
  rw [HK0.out] at p0
  have HG := Lib.hid (hg.mono HB2.out.size)
  clear hb HB2 HGrid hg HRD
  have HE := Lib.hid (even_any m hm10)
  go_wp2_with fail
  refine (HE.out _).mono ?_
  rintro e w4 ⟨v4, rfl, ⟨r4, hg4⟩, hb⟩
  have HB4 := Lib.hid (HB3.out.trans (hb.mono HB3.out.size))
  have HG4 := Lib.hid (hg4.mono HB3.out.size)
  clear hb hg4
  go_wp2_with fail
  go_returns
  exact ⟨_, rfl, ⟨r4, HG4.out⟩, HB4.out⟩

set_option maxRecDepth 100000 in
set_option maxHeartbeats 4000000 in
theorem fit_begin (b off n cap : Nat) (N : Nat → Nd) (hn : n ≤ 512) (i : Nat) (hi : i < n) (hfst : 0 ≤ fst N i) (hkids : kids N i = []) (hk0 : (N i).k = 3) (s : ByteArray) (m : Nat) (hm : s.size = m) (hm10 : m ≤ 1000) (w : World) (hr : rdN w b off n N) :
    Calls Try.prog 35 #[.slice (some ⟨b, off, none⟩) n cap, .int .i64 (i : Int), .string s] w (fitPost m (fun x y => decide (x = 0) && decide (y = 0)) w) := by
  have hKd := rkids_is b off n cap i N (by omega) hi hfst w hr
  rw [hkids] at hKd
  have HKd := Lib.hid hKd; have HRD := Lib.hid hr; have HK0 := Lib.hid hk0
  have i0 : (0 : Int) ≤ (i : Int) := by omega
  have i1 : (i : Int) < (n : Int) := by omega
  have HGrid := Lib.hid (grid_any m hm10)
  clear hKd hr hk0 hkids hfst
  go_enter Try.func35, Try.ntmps35
  go_wp2_with fail
  refine HKd.out.mono ?_
  rintro e w2 ⟨kv, rfl, -, hb⟩
  have HB2 := Lib.hid hb
  clear hb HKd
  go_wp2_with fail
  refine (HGrid.out _).mono ?_
  rintro e w3 ⟨vg, rfl, ⟨r, hg⟩, hb⟩
  have HB3 := Lib.hid (HB2.out.trans (hb.mono HB2.out.size))
  have p0 := ((HRD.out.below HB3.out) i hi).2.1
  rw [HK0.out] at p0
  have HG := Lib.hid (hg.mono HB2.out.size)
  clear hb HB2 HGrid hg HRD
  obtain ⟨go, gc, rfl, -, -, hco⟩ := HG.out.outer
  have q0 := hco 0 (by omega)
  obtain ⟨q1, q2, q3, -⟩ := HG.out.at (i := 0) (j := 0) (by omega) (by omega)
  have HG2 : Hid (grK (w3.setCell ⟨r 0, 0, none⟩ (.bool true)) w.heap.size (.slice (some ⟨go, 0, none⟩) (m + 1) gc) m (m + 1) r (fun x y => decide (x = 0) && decide (y = 0))) := Lib.hid ((HG.out.put (i := 0) (j := 0) (by omega) true).same fun x y _ _ => by
    unfold putG
    by_cases h1 : x = 0
    · by_cases h2 : y = 0
      · simp [h1, h2]
      · simp [h1, h2]
    · simp [h1])
  have HB4 : Hid (Below w.heap.size w (w3.setCell ⟨r 0, 0, none⟩ (.bool true))) := Lib.hid (HB3.out.setCell (p := ⟨r 0, 0, none⟩) q3 (.bool true))
  have m0 : (0 : Int) ≤ (m : Int) := by omega
  have m1 : (m : Int) < (m : Int) + 1 := by omega
  have m2 : (0 : Int) < (m : Int) + 1 := by omega
  clear hco q3 HG HB3
  go_wp2_with fail
  go_returns
  exact ⟨_, rfl, ⟨r, HG2.out⟩, HB4.out⟩

set_option maxRecDepth 100000 in
set_option maxHeartbeats 4000000 in
theorem fit_end (b off n cap : Nat) (N : Nat → Nd) (hn : n ≤ 512) (i : Nat) (hi : i < n) (hfst : 0 ≤ fst N i) (hkids : kids N i = []) (hk0 : (N i).k = 4) (s : ByteArray) (m : Nat) (hm : s.size = m) (hm10 : m ≤ 1000) (w : World) (hr : rdN w b off n N) :
    Calls Try.prog 35 #[.slice (some ⟨b, off, none⟩) n cap, .int .i64 (i : Int), .string s] w (fitPost m (fun x y => decide (x = m) && decide (y = m)) w) := by
  have hKd := rkids_is b off n cap i N (by omega) hi hfst w hr
  rw [hkids] at hKd
  have HKd := Lib.hid hKd; have HRD := Lib.hid hr; have HK0 := Lib.hid hk0
  have i0 : (0 : Int) ≤ (i : Int) := by omega
  have i1 : (i : Int) < (n : Int) := by omega
  have HGrid := Lib.hid (grid_any m hm10)
  clear hKd hr hk0 hkids hfst
  go_enter Try.func35, Try.ntmps35
  go_wp2_with fail
  refine HKd.out.mono ?_
  rintro e w2 ⟨kv, rfl, -, hb⟩
  have HB2 := Lib.hid hb
  clear hb HKd
  go_wp2_with fail
  refine (HGrid.out _).mono ?_
  rintro e w3 ⟨vg, rfl, ⟨r, hg⟩, hb⟩
  have HB3 := Lib.hid (HB2.out.trans (hb.mono HB2.out.size))
  have p0 := ((HRD.out.below HB3.out) i hi).2.1
  rw [HK0.out] at p0
  have HG := Lib.hid (hg.mono HB2.out.size)
  clear hb HB2 HGrid hg HRD
  obtain ⟨go, gc, rfl, -, -, hco⟩ := HG.out.outer
  have q0 := hco m (by omega)
  obtain ⟨q1, q2, q3, -⟩ := HG.out.at (i := m) (j := m) (by omega) (by omega)
  have HG2 : Hid (grK (w3.setCell ⟨r m, m, none⟩ (.bool true)) w.heap.size (.slice (some ⟨go, 0, none⟩) (m + 1) gc) m (m + 1) r (fun x y => decide (x = m) && decide (y = m))) := Lib.hid ((HG.out.put (i := m) (j := m) (by omega) true).same fun x y _ _ => by
    unfold putG
    by_cases h1 : x = m
    · by_cases h2 : y = m
      · simp [h1, h2]
      · simp [h1, h2]
    · simp [h1])
  have HB4 : Hid (Below w.heap.size w (w3.setCell ⟨r m, m, none⟩ (.bool true))) := Lib.hid (HB3.out.setCell (p := ⟨r m, m, none⟩) q3 (.bool true))
  have m0 : (0 : Int) ≤ (m : Int) := by omega
  have m1 : (m : Int) < (m : Int) + 1 := by omega
  have m2 : (0 : Int) < (m : Int) + 1 := by omega
  clear hco q3 HG HB3
  go_wp2_with fail
  go_returns
  exact ⟨_, rfl, ⟨r, HG2.out⟩, HB4.out⟩
end Go.Proofs.Ytdhplphgackjaaa

namespace Go.Proofs.Ytdhplphgackjaaa
open Go.RowKit

/-- Two grids agree where a part may be. -/
def agr (n : Nat) (A B : Gr) : Prop := ∀ i j, i ≤ j → j ≤ n → A i j = B i j
theorem agr_beh {n : Nat} {A A' B B' : Gr} (hA : agr n A A') (hB : agr n B B') : agr n (behB n A B) (behB n A' B') := fun i j hij hj => by
  rw [Bool.eq_iff_iff, beh_iff, beh_iff]
  constructor
  · rintro ⟨m, h1, h2, h3, h4, h5⟩
    exact ⟨m, h1, h2, h3, by rw [← hA i m h2 h1]; exact h4, by rw [← hB m j h3 hj]; exact h5⟩
  · rintro ⟨m, h1, h2, h3, h4, h5⟩
    exact ⟨m, h1, h2, h3, by rw [hA i m h2 h1]; exact h4, by rw [hB m j h3 hj]; exact h5⟩
theorem agr_eit {n : Nat} {A A' B B' : Gr} (hA : agr n A A') (hB : agr n B B') : agr n (eitB A B) (fun i j => A' i j || B' i j) := fun i j hij hj => by
  unfold eitB
  rw [decide_eq_true hij, Bool.true_and, hA i j hij hj, hB i j hij hj]
theorem agr_pow {n : Nat} {A A' : Gr} (hA : agr n A A') : ∀ k, agr n (powB n A k) (powB n A' k)
  | 0 => fun _ _ _ _ => rfl
  | k + 1 => agr_beh (agr_pow hA k) hA
theorem agr_acc {n : Nat} {A A' : Gr} (hA : agr n A A') (lo : Nat) : ∀ j, agr n (accB n A lo j) (repB n A' lo j)
  | 0 => fun i c hi hc => by
    have h := agr_pow hA lo i c hi hc
    show powB n A lo i c = (List.range 1).any fun k => powB n A' (lo + k) i c
    rw [h]
    simp [List.range_succ]
  | j + 1 => fun i c hi hc => by
    have h1 := agr_acc hA lo j i c hi hc
    have h2 := agr_pow hA (lo + j + 1) i c hi hc
    show eitB (accB n A lo j) (powB n A (lo + j + 1)) i c = (List.range (j + 1 + 1)).any fun k => powB n A' (lo + k) i c
    unfold eitB
    rw [decide_eq_true hi, Bool.true_and, h1, h2, List.range_succ, List.any_append]
    simp [repB, Nat.add_assoc]

/-- Fit, over a tree. -/
theorem fit_is (b off n cap : Nat) (N : Nat → Nd) (ht : tree N n) (hw : ∀ j, j < n → okW (N j)) (s : ByteArray) (m : Nat) (hm : s.size = m) (hm10 : m ≤ 1000) : ∀ i, i < n → ∃ F, agr m F (fitT m (tx7 s) (trT N i)) ∧ ∀ w, rdN w b off n N →
    Calls Try.prog 35 #[.slice (some ⟨b, off, none⟩) n cap, .int .i64 (i : Int), .string s] w (fitPost m F w) := by
  intro i
  induction i using Nat.strongRecOn with
  | ind i ih =>
  intro hi
  have hn := ht.1
  obtain ⟨hf0, hok⟩ := (tree_iff.1 ht).2.2.1 i hi
  obtain ⟨f, hf, hc⟩ := nd_is ht hi
  cases hc with
  | leaf _ hk0 _ =>
    have hkids : kids N i = [] := by unfold kids; rcases hk0 with h | h | h | h <;> (rw [h]; rfl)
    rw [trT_leaf hk0]
    rcases hk0 with hk | hk | hk | hk
    · refine ⟨setC (fOf (N i)) (tx7 s) m, fun a c hac hc => ?_, fun w hr => fit_set b off n cap N hn i hi hf0 hkids hk (hw i hi) s m hm hm10 w hr⟩
      show _ = leafB7 m (tx7 s) (N i) a c
      unfold setC leafB7
      rw [if_pos hk, Bool.and_assoc]
    · refine ⟨evenB m, fun a c hac hc => ?_, fun w hr => fit_empty b off n cap N hn i hi hf0 hkids hk s m hm hm10 w hr⟩
      show _ = leafB7 m (tx7 s) (N i) a c
      unfold leafB7
      rw [if_neg (by omega), if_pos hk]
    · refine ⟨fun x y => decide (x = 0) && decide (y = 0), fun a c hac hc => ?_, fun w hr => fit_begin b off n cap N hn i hi hf0 hkids hk s m hm hm10 w hr⟩
      show _ = leafB7 m (tx7 s) (N i) a c
      unfold leafB7
      rw [if_neg (by omega), if_neg (by omega), if_pos hk]
    · refine ⟨fun x y => decide (x = m) && decide (y = m), fun a c hac hc => ?_, fun w hr => fit_end b off n cap N hn i hi hf0 hkids hk s m hm hm10 w hr⟩
      show _ = leafB7 m (tx7 s) (N i) a c
      unfold leafB7
      rw [if_neg (by omega), if_neg (by omega), if_neg (by omega)]
  | @one p _ _ hk0 h1 h2 _ =>
    have hkids : kids N (p + 1) = [(p : Int)] := by unfold kids; rw [hk0, if_pos (show ar 7 = 1 from rfl)]; congr 1; omega
    obtain ⟨F, hF, hc⟩ := ih p (by omega) (by omega)
    have hrep := okN_rep hok hk0
    obtain ⟨l, hl⟩ := Int.eq_ofNat_of_zero_le hrep.1
    rw [trT_one hk0]
    refine ⟨accB m F l (moreN m l (N (p + 1)).hi), ?_, fun w hr => fit_rep b off n cap N hn (p + 1) p hi hf0 hkids hk0 l hl (by omega) (by omega) s m hm hm10 F w hr (fun w' hB => hc w' (hr.below hB))⟩
    have := agr_acc hF l (moreN m l (N (p + 1)).hi)
    show agr m _ (repB m (fitT m (tx7 s) (trT N p)) (N (p + 1)).lo.toNat (moreN m (N (p + 1)).lo (N (p + 1)).hi))
    rw [hl]
    exact this
  | @two p q _ _ hk0 h1 h2 h3 h4 _ =>
    have hkids : kids N (p + 1) = [(q : Int), (p : Int)] := by
      unfold kids
      rw [if_neg (by rcases hk0 with h | h <;> rw [h] <;> decide), if_pos (by rcases hk0 with h | h <;> rw [h] <;> rfl), Nat.add_sub_cancel, h1]
      congr 1
      · omega
      · congr 1; omega
    obtain ⟨Fp, hFp, hcp⟩ := ih p (by omega) (by omega)
    obtain ⟨Fq, hFq, hcq⟩ := ih q (by omega) (by omega)
    rcases hk0 with hk0 | hk0
    · rw [trT_cat ht hi hk0 h1 h2]
      exact ⟨behB m Fq Fp, agr_beh hFq hFp, fun w hr => fit_cat b off n cap N hn (p + 1) p q hi hf0 hkids hk0 s m hm hm10 Fq Fp w hr (fun w' hB => hcq w' (hr.below hB)) (fun w' hB => hcp w' (hr.below hB))⟩
    · rw [trT_or ht hi hk0 h1 h2]
      exact ⟨eitB Fq Fp, agr_eit hFq hFp, fun w hr => fit_or b off n cap N hn (p + 1) p q hi hf0 hkids hk0 s m hm hm10 Fq Fp w hr (fun w' hB => hcq w' (hr.below hB)) (fun w' hB => hcp w' (hr.below hB))⟩

/-- All, over a tree. -/
theorem all_is (b off n cap : Nat) (N : Nat → Nd) (ht : tree N n) (hw : ∀ j, j < n → okW (N j)) (s : ByteArray) (m : Nat) (hm : s.size = m) (hm10 : m ≤ 1000) : ∃ F, agr m F (fitT m (tx7 s) (trT N (n - 1))) ∧ ∀ w, rdN w b off n N →
    Calls Try.prog 15 #[.slice (some ⟨b, off, none⟩) n cap, .string s] w (fitPost m F w) := by
  have hpos : 0 < n := (tree_iff.1 ht).1
  have hn := ht.1
  obtain ⟨F, hF, hc⟩ := fit_is b off n cap N ht hw s m hm hm10 (n - 1) (by omega)
  refine ⟨F, hF, fun w hr => ?_⟩
  have hc1 := hc w hr
  rw [show ((n - 1 : Nat) : Int) = (n : Int) - 1 by omega] at hc1
  have HC := Lib.hid hc1
  have hwr : IntKind.i64.wrap ((n : Int) - 1) = (n : Int) - 1 := by rw [IntKind.wrap_i64]; omega
  clear hc1 hc hF ht hw hr hm
  go_enter Try.func15, Try.ntmps15
  go_wp2_with fail
  refine HC.out.mono ?_
  rintro e w2 ⟨v, rfl, hg, hb⟩
  have HG := Lib.hid hg; have HB := Lib.hid hb
  clear hg hb
  go_wp2_with fail
  go_returns
  exact ⟨_, rfl, HG.out, HB.out⟩
end Go.Proofs.Ytdhplphgackjaaa
