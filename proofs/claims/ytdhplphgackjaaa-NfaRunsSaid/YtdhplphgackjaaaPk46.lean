/-
  Fits, whatever comes in.
  The five calls of nfa, as the laws ask them.
  What the ninth reference counts is what the page says, and what there are steps for. Plain facts.
  The walk of the ninth laws' awake: the page's first example holds, whatever Build, Right and Fits are that do as the page says.
-/
import Derived.Test.YtdhplphgackjaaaPk45
import Derived.Test.YtdhplphgackjaaaPk42
import Derived.Test.YtdhplphgackjaaaPk26
import Derived.Test.YtdhplphgackjaaaPk21
import Derived.Test.YtdhplphgackjaaaPk27
namespace Go.Proofs.Ytdhplphgackjaaa
open Go.RowKit

set_option maxRecDepth 100000 in
set_option maxHeartbeats 8000000 in
theorem fit_any : FitC := by
  intro p m cap S st fin s i j w hm hs hS hw
  by_cases hall : rightP S m st fin ∧ 0 ≤ i ∧ i ≤ j ∧ j ≤ s.size
  · obtain ⟨hr, h0, h1, h2⟩ := hall
    obtain ⟨b, off, rfl⟩ : ∃ b off, p = some ⟨b, off, none⟩ := by
      rcases hS.1 with h | h
      · have := hr.1; omega
      · exact h
    obtain ⟨a, rfl⟩ : ∃ a : Nat, st = a := ⟨st.toNat, by have := hr.1; omega⟩
    obtain ⟨F, rfl⟩ : ∃ F : Nat, fin = F := ⟨fin.toNat, by have := hr.1; omega⟩
    obtain ⟨x, rfl⟩ : ∃ x : Nat, i = x := ⟨i.toNat, by omega⟩
    obtain ⟨y, rfl⟩ : ∃ y : Nat, j = y := ⟨j.toNat, by omega⟩
    refine (fitq9 b off m cap S a F hr hw s hs x y (by omega) (by omega) w (hS.2 b off rfl)).mono ?_
    rintro e w' ⟨r, rfl, h3, h4⟩
    refine ⟨r, rfl, ?_, h4⟩
    rw [h3]
    unfold fitC
    simp only [Int.toNat_natCast]
    exact ⟨fun h => ⟨hr, h0, h1, h2, h⟩, fun h => h.2.2.2.2⟩
  · have HNO : Hid (¬ fitC S m st fin s i j) := Lib.hid fun h => hall ⟨h.1, h.2.1, h.2.2.1, h.2.2.2.1⟩
    obtain ⟨w1, hw1⟩ : ∃ w1, w.alloc (.cells #[.slice p m cap, .int .i64 st, .int .i64 fin] 26) = w1 := ⟨_, rfl⟩
    have hb1 : Below w.heap.size w w1 := hw1 ▸ (Below.refl _ _).alloc (Nat.le_refl _) _
    have hn1 : is3 26 w1 w.heap.size (.slice p m cap) st fin := hw1 ▸ is3.new 26 w (.slice p m cap) st fin
    have hrr := rgt9_is p m cap S st fin w1 hm ⟨hS.1, fun b off h => (hS.2 b off h).below hb1⟩
    have HB1 := Lib.hid hb1
    have HW1 := Lib.hid hw1
    obtain ⟨z0, z1, z2⟩ := hn1.cells
    have zl := hn1.lt
    rw [show (nfV p m cap st fin) = .agg #[.slice p m cap, .int .i64 st, .int .i64 fin] from rfl]
    clear hw1 hb1 hn1 hS hw
    by_cases hr : rightP S m st fin
    · rw [decide_eq_true hr] at hrr
      have HR := Lib.hid hrr
      clear hrr
      by_cases h0 : i < 0
      · have d0 : decide (i < 0) = true := decide_eq_true h0
        clear hall hr h0
        go_enter Try.func14, Try.ntmps14
        go_upto_region 1 with (fail)
        rw [HW1.out]
        go_wp2_with fail
        refine HR.out.mono ?_
        rintro e w2 ⟨rfl, hb⟩
        have HB2 := Lib.hid (HB1.out.trans (hb.mono HB1.out.size))
        clear hb z0 z1 z2 zl
        go_wp2_with fail
        go_returns
        exact ⟨false, rfl, Iff.intro (fun h => by cases h) (fun h => absurd h HNO.out), HB2.out⟩
      have d0 : decide (i < 0) = false := decide_eq_false h0
      by_cases h1 : j < i
      · have d1 : decide (j < i) = true := decide_eq_true h1
        clear hall hr h0
        go_enter Try.func14, Try.ntmps14
        go_upto_region 1 with (fail)
        rw [HW1.out]
        go_wp2_with fail
        refine HR.out.mono ?_
        rintro e w2 ⟨rfl, hb⟩
        have HB2 := Lib.hid (HB1.out.trans (hb.mono HB1.out.size))
        clear hb z0 z1 z2 zl
        go_wp2_with fail
        go_returns
        exact ⟨false, rfl, Iff.intro (fun h => by cases h) (fun h => absurd h HNO.out), HB2.out⟩
      have d1 : decide (j < i) = false := decide_eq_false h1
      have h2 : (s.size : Int) < j := by
        by_cases h : (s.size : Int) < j
        · exact h
        · exact absurd ⟨hr, by omega, by omega, by omega⟩ hall
      have d2 : decide ((s.size : Int) < j) = true := decide_eq_true h2
      clear hall hr h0 h1
      go_enter Try.func14, Try.ntmps14
      go_upto_region 1 with (fail)
      rw [HW1.out]
      go_wp2_with fail
      refine HR.out.mono ?_
      rintro e w2 ⟨rfl, hb⟩
      have HB2 := Lib.hid (HB1.out.trans (hb.mono HB1.out.size))
      clear hb z0 z1 z2 zl
      go_wp2_with fail
      go_returns
      exact ⟨false, rfl, Iff.intro (fun h => by cases h) (fun h => absurd h HNO.out), HB2.out⟩
    · rw [decide_eq_false hr] at hrr
      have HR := Lib.hid hrr
      clear hrr hall hr
      go_enter Try.func14, Try.ntmps14
      go_upto_region 1 with (fail)
      rw [HW1.out]
      go_wp2_with fail
      refine HR.out.mono ?_
      rintro e w2 ⟨rfl, hb⟩
      have HB2 := Lib.hid (HB1.out.trans (hb.mono HB1.out.size))
      clear hb z0 z1 z2 zl
      go_wp2_with fail
      go_returns
      exact ⟨false, rfl, Iff.intro (fun h => by cases h) (fun h => absurd h HNO.out), HB2.out⟩
end Go.Proofs.Ytdhplphgackjaaa

namespace Go.Proofs.Ytdhplphgackjaaa
theorem nfa9_all : (BldC ∧ RgtC) ∧ CloC ∧ StpC ∧ FitC := ⟨⟨bld_any, rgt_any⟩, clo_any, stp_any, fit_any⟩
end Go.Proofs.Ytdhplphgackjaaa

namespace Go.Proofs.Ytdhplphgackjaaa

section
variable {S : Nat → Sd} {m : Nat}
/-- What is true, as a set of states. -/
def pT (m : Nat) (T : Nat → Bool) (q : Nat) : Prop := q < m ∧ T q = true
theorem rt_lt {sym : Int} (hr : rng S m) {a q : Nat} (ha : a < m) (h : rt S sym a q) : q < m := by
  induction h with
  | refl => exact ha
  | @tail q' q'' _ he ih =>
    obtain ⟨_, _, a1, a2, b1, b2⟩ := hr q' ih
    rcases he with ⟨_, h⟩ | ⟨_, h⟩ <;> omega
theorem pT_up {sym : Int} {T : Nat → Bool} (hr : rng S m) : pT m (upN S sym m T m) = Cl S sym (pT m T) := by
  funext q
  apply propext
  constructor
  · rintro ⟨h1, h2⟩; exact (upN_iff hr h1).1 h2
  · intro h
    obtain ⟨q0, h1, h2⟩ := h
    have hq := rt_lt hr h1.1 h2
    exact ⟨hq, (upN_iff hr hq).2 ⟨q0, h1, h2⟩⟩
theorem pT_st {y : Nat} {T : Nat → Bool} (hr : rng S m) : pT m (stR S y T m) = By S y (pT m T) := by
  funext q
  apply propext
  constructor
  · rintro ⟨h1, h2⟩
    obtain ⟨q0, k1, k2, k3, k4, k5⟩ := (stR_iff hr (Nat.le_refl _)).1 h2
    exact ⟨q0, ⟨k1, k2⟩, k3, k4, k5⟩
  · rintro ⟨q0, ⟨k1, k2⟩, k3, k4, k5⟩
    obtain ⟨_, _, a1, a2, _, _⟩ := hr q0 k1
    exact ⟨by omega, (stR_iff hr (Nat.le_refl _)).2 ⟨q0, k1, k2, k3, k4, k5⟩⟩
theorem pT_in {s : Nat} (hs : s < m) : pT m (inL m (fun _ => (s : Int)) 1) = fun q => q = s := by
  funext q
  apply propext
  constructor
  · rintro ⟨h1, h2⟩
    obtain ⟨_, _, h⟩ := (inL_iff h1).1 h2
    omega
  · rintro rfl
    exact ⟨hs, (inL_iff hs).2 ⟨0, by omega, rfl⟩⟩
theorem pT_rF {tx : Nat → Nat} (hr : rng S m) : ∀ {k i T}, pT m (rF S m tx i k T) = runF S tx i k (pT m T)
  | 0, _, _ => rfl
  | k + 1, i, T => by
    show pT m (rF S m tx (i + 1) k (upN S 0 m (stR S (tx i) T m) m)) = runF S tx (i + 1) k (Cl S 0 (By S (tx i) (pT m T)))
    rw [pT_rF hr, pT_up hr, pT_st hr]
theorem fF_iff {n : Nat} {tx : Nat → Nat} {s fin i j : Nat} (hr : rng S m) (hs : s < m) (hf : fin < m) : fF S m n tx (s : Int) fin i j = true ↔ fitsP S n tx s fin i j := by
  have h0 : pT m (aF S m (s : Int)) = Cl S 0 fun q => q = s := by unfold aF; rw [pT_up hr, pT_in hs]
  have h1 : pT m (if i = 0 then upN S 256 m (aF S m (s : Int)) m else aF S m (s : Int)) = if i = 0 then Cl S 256 (Cl S 0 fun q => q = s) else Cl S 0 fun q => q = s := by
    by_cases hi : i = 0
    · rw [if_pos hi, if_pos hi, pT_up hr, h0]
    · rw [if_neg hi, if_neg hi, h0]
  have key : ∀ T : Nat → Bool, T fin = true ↔ pT m T fin := fun T => ⟨fun h => ⟨hf, h⟩, fun h => h.2⟩
  unfold fF fitsP
  by_cases hn : n = 0
  · rw [if_pos hn, if_pos hn, key, pT_up hr, h0]
  · rw [if_neg hn, if_neg hn]
    by_cases hj : j = n
    · rw [if_pos hj, if_pos hj, key, pT_up hr, pT_rF hr, h1]
    · rw [if_neg hj, if_neg hj, key, pT_rF hr, h1]
/-- An automaton of a tree, its last state the final one, may be. -/
theorem fr_right {t : Tr} (h : okT t) {f l : Nat} (hS : isFr S t 0 f l) (hl : S l = ⟨6, 0, 0, 0, 0, 0, 0⟩) (hn : nst t ≤ 600) : rightP S (nst t) f l := by
  have hb := fr_bd S t 0 f l hS
  have h2 := nst_two t
  have hk : ∀ q, q < nst t → q ≠ l → okS 0 (0 + nst t) (S q) := fun q hq hn' => fr_ok t h 0 f l hS q (Nat.zero_le _) (by omega) hn'
  have h6 : ∀ q, q < nst t → (six S q = true ↔ q = l) := fun q hq => by
    unfold six
    by_cases e : q = l
    · subst e; rw [hl]; simp
    · obtain ⟨k1, k2, _⟩ := hk q hq e
      constructor
      · intro g; rw [beq_iff_eq] at g; omega
      · intro g; exact absurd g e
  refine ⟨by omega, fun q hq => ?_, ?_, by rw [Int.toNat_natCast, hl]⟩
  · by_cases e : q = l
    · subst e
      unfold okQ
      rw [hl]
      exact ⟨⟨by show (1 : Int) ≤ 6; decide, by show (6 : Int) ≤ 6; decide, by show (0 : Int) ≤ 0; decide, by show (0 : Int) < _; omega, by show (0 : Int) ≤ 0; decide, by show (0 : Int) < _; omega⟩, .inr ⟨rfl, rfl, rfl, rfl⟩, .inr rfl, fun _ => rfl⟩
    · obtain ⟨k1, k2, k3, k4, k5, k6, k7⟩ := hk q hq e
      rw [Nat.zero_add] at k4 k5
      have hB : 0 ≤ (S q).B ∧ (S q).B < (nst t : Nat) := by
        by_cases e3 : (S q).k = 3
        · have := k5 e3; omega
        · have := k6 e3; omega
      refine ⟨⟨k1, by omega, by omega, k4, hB.1, hB.2⟩, ?_, ?_, fun g => by omega⟩
      · by_cases e1 : (S q).k = 1
        · exact .inl e1
        · exact .inr (k7 e1)
      · by_cases e3 : (S q).k = 3
        · exact .inl e3
        · exact .inr (k6 e3)
  · have main : ∀ M, M ≤ nst t → cntT (six S) M = if l < M then 1 else 0 := by
      intro M
      induction M with
      | zero => intro _; rfl
      | succ M ih =>
        intro hM
        rw [cntT_succ, ih (by omega)]
        have := h6 M (by omega)
        by_cases e : M = l
        · rw [if_pos (this.2 e), if_neg (by omega), if_pos (by omega)]
        · rw [if_neg (fun g => e (this.1 g))]
          by_cases g : l < M
          · rw [if_pos g, if_pos (by omega)]
          · rw [if_neg g, if_neg (by omega)]
    rw [main _ (Nat.le_refl _), if_pos (by omega)]
end
end Go.Proofs.Ytdhplphgackjaaa

namespace Go.Proofs.Ytdhplphgackjaaa
open Go.RowKit

def N9 (_ : Nat) : Nd := ⟨1, 0, 8589934592, 0, 0, 0, 0⟩
theorem N9_tree : tree N9 1 := by decide
theorem N9_trT : trT N9 (1 - 1) = .leaf ⟨1, 0, 8589934592, 0, 0, 0, 0⟩ := trT_leaf (N := N9) (i := 0) (.inl rfl)
theorem N9_ok : ∀ j, j < 1 → okW (N9 j) := fun j _ => by show okW ⟨1, 0, 8589934592, 0, 0, 0, 0⟩; exact ⟨by decide, by decide, by decide, by decide⟩
theorem N9_rd (w : World) : rdN (w.alloc (.cells #[.int .i64 1, .int .u64 0, .int .u64 8589934592, .int .u64 0, .int .u64 0, .int .i64 0, .int .i64 0] 56)) w.heap.size 0 1 N9 := fun j hj => by
  obtain rfl : j = 0 := by omega
  refine ⟨by simp, ?_⟩
  refine ⟨?_, ?_, ?_, ?_, ?_, ?_, ?_⟩ <;> simp [N9]
/-- What the example's automaton is. -/
theorem N9_fr {S : Nat → Sd} {f l : Nat} (h : isFr S (trT N9 (1 - 1)) 0 f l) (hl : S l = fin9) : f = 0 ∧ l = 1 ∧ S 0 = ⟨1, 0, 8589934592, 0, 0, 1, 0⟩ ∧ S 1 = fin9 := by
  rw [N9_trT] at h
  obtain ⟨h1, h2, h3⟩ := h
  subst h1 h2
  exact ⟨rfl, rfl, h3, hl⟩
theorem N9_okT : okT (.leaf ⟨1, 0, 8589934592, 0, 0, 0, 0⟩) := .inl ⟨rfl, rfl, rfl⟩
theorem N9_right {S : Nat → Sd} {f l : Nat} (h : isFr S (trT N9 (1 - 1)) 0 f l) (hl : S l = fin9) : rightP S 2 0 1 := by
  obtain ⟨rfl, rfl, _⟩ := N9_fr h hl
  rw [N9_trT] at h
  exact fr_right N9_okT h hl (by decide)
theorem N9_fits {S : Nat → Sd} {f l : Nat} (h : isFr S (trT N9 (1 - 1)) 0 f l) (hl : S l = fin9) : fitC S 2 0 1 ⟨#[97]⟩ 0 1 := by
  refine ⟨N9_right h hl, by decide, by decide, by decide, ?_⟩
  obtain ⟨rfl, rfl, h0, _⟩ := N9_fr h hl
  refine (fits_iff (by decide) (by decide)).2 ⟨1, 1, 1, .inl ⟨by rw [show Int.toNat 0 = 0 from rfl, h0], by decide, ?_, by rw [show Int.toNat 0 = 0 from rfl, h0]; rfl, rfl⟩, rfl, rfl⟩
  rw [show Int.toNat 0 = 0 from rfl, h0]
  decide +kernel
theorem N9_okWs {S : Nat → Sd} {f l : Nat} (h : isFr S (trT N9 (1 - 1)) 0 f l) (hl : S l = fin9) : ∀ j, j < 2 → okWs (S j) := by
  obtain ⟨rfl, rfl, h0, h1⟩ := N9_fr h hl
  intro j hj
  have : j = 0 ∨ j = 1 := by omega
  rcases this with rfl | rfl
  · rw [h0]; exact ⟨by decide, by decide, by decide, by decide⟩
  · rw [h1]; exact ⟨by decide, by decide, by decide, by decide⟩

set_option maxRecDepth 100000 in
set_option maxHeartbeats 4000000 in
theorem awake9_any (hB : BldC) (hR : RgtC) (hF : FitC) (w : World) :
    Calls Try.prog 7 #[] w fun e w' => e = .returned (.bool true) ∧ Below w.heap.size w w' := by
  have HBd := Lib.hid hB; have HRt := Lib.hid hR; have HFt := Lib.hid hF
  clear hB hR hF
  have HB1 := Lib.hid ((Below.refl w.heap.size w).alloc (Nat.le_refl _) (.cells #[.int .i64 1, .int .u64 0, .int .u64 8589934592, .int .u64 0, .int .u64 0, .int .i64 0, .int .i64 0] 56))
  have HR1 := Lib.hid (N9_rd w)
  go_enter Try.func7, Try.ntmps7
  go_wp2_with (refine wpList_build_set rfl _ _ rfl 0 8589934592 0 0 rfl rfl ?_)
  refine (HBd.out _ 1 1 N9 _ (.inr ⟨_, _, rfl, N9_ok⟩) (fun b off h => by cases h; exact HR1.out)).mono ?_
  rintro e w1 ⟨-, -, h3⟩
  obtain ⟨g, o, c, S, f, l, rfl, hrd, hc, hfr, hfin, hb⟩ := h3 N9_tree (by rw [N9_trT]; decide)
  obtain ⟨rfl, rfl, h0, h1⟩ := N9_fr hfr hfin
  have HRT := Lib.hid (N9_right hfr hfin); have HFI := Lib.hid (N9_fits hfr hfin); have HOK := Lib.hid (N9_okWs hfr hfin)
  rw [show nst (trT N9 (1 - 1)) = 2 by rw [N9_trT]; rfl] at hrd ⊢
  have HB2 := Lib.hid (HB1.out.trans (hb.mono HB1.out.size))
  obtain ⟨w2, hw2⟩ : ∃ w2, w1.alloc (.cells #[.slice (some ⟨g, o, none⟩) 2 c, .int .i64 0, .int .i64 1] 26) = w2 := ⟨_, rfl⟩
  have hb2 : Below w1.heap.size w1 w2 := hw2 ▸ (Below.refl _ _).alloc (Nat.le_refl _) _
  have HN2 : Hid (is3 26 w2 w1.heap.size (.slice (some ⟨g, o, none⟩) 2 c) 0 1) := Lib.hid (hw2 ▸ is3.new _ _ _ _ _)
  have HB3 := Lib.hid (HB2.out.trans (hb2.mono HB2.out.size))
  have HRD2 := Lib.hid (hrd.below hb2)
  have HW2 := Lib.hid hw2
  have HH0 := Lib.hid h0
  clear hb hb2 hw2 hrd h3 hfr hfin h0 h1 HBd HR1 HB1 HB2 hc
  obtain ⟨hgl, -, c1, -⟩ := HRD2.out 0 (by decide)
  rw [HH0.out] at c1
  obtain ⟨n0, n1, n2⟩ := HN2.out.cells
  go_upto_region 2 with (fail)
  rw [HW2.out]
  have c1 : w2.cell? ⟨g, o + 1, none⟩ = some (.int .i64 1) := by rw [← c1]
  have HRc := Lib.hid (HRt.out (some ⟨g, o, none⟩) 2 c S 0 1 w2 (by decide) ⟨.inr ⟨g, o, rfl⟩, fun b off h => by cases h; exact HRD2.out⟩)
  clear HRt
  go_wp2_with fail
  refine HRc.out.mono ?_
  rintro e w3 ⟨rfl, hb⟩
  have HB4 := Lib.hid (HB3.out.trans (hb.mono HB3.out.size))
  have HN3 := Lib.hid (HN2.out.below hb HN2.out.lt)
  have HFc := Lib.hid (HFt.out (some ⟨g, o, none⟩) 2 c S 0 1 ⟨#[97]⟩ 0 1 w3 (by decide) (by decide) ⟨.inr ⟨g, o, rfl⟩, fun b off h => by cases h; exact HRD2.out.below hb⟩ HOK.out)
  have HD : Hid (decide (rightP S 2 0 1) = true) := Lib.hid (decide_eq_true HRT.out)
  rw [HD.out]
  clear hb HRc HFt HN2 HB3 HRD2 HW2 n0 n1 n2 c1 hgl
  obtain ⟨n0, n1, n2⟩ := HN3.out.cells
  go_wp2_with fail
  refine HFc.out.mono ?_
  rintro e w4 ⟨r, rfl, hr, hb⟩
  obtain rfl : r = true := hr.2 HFI.out
  have HB5 := Lib.hid (HB4.out.trans (hb.mono HB4.out.size))
  clear hb hr
  go_wp2_with fail
  go_returns
  exact ⟨rfl, HB5.out⟩
end Go.Proofs.Ytdhplphgackjaaa
