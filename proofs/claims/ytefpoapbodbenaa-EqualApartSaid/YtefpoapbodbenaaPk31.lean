/-
  The walk of the thirteenth reference's Heads.
  Rounds in place over a grid: which states words of so many symbols tell apart. Plain.
  Where a state goes by a symbol: the eleventh reference's Go at any automaton that may be.
-/
import Derived.Test.YtefpoapbodbenaaPk13
import Derived.Test.YtefpoapbodbenaaPk9
import Derived.BigRegion
import Derived.RegionTactic
import Derived.OwnWalk
import Derived.Test.YtefpoapbodbenaaPk24
import Derived.Test.YtefpoapbodbenaaPk12
import Derived.Test.YtefpoapbodbenaaPk10
namespace Go.Proofs.Ytefpoapbodbenaa
open Go.RowKit

theorem spF.same {w : World} {base : Nat} {v : Value} {f g : Nat → Int} {n : Nat} (h : spF w base v f n) (hf : ∀ j, j < n → f j = g j) : spF w base v g n := by
  have e : fnv f n = fnv g n := List.map_congr_left fun i hi => by rw [hf i (List.mem_range.1 hi)]
  unfold spF at h ⊢
  rw [← e]; exact h
def hdI (x : Da) (H : Nat → Nat) (k s : Nat) : Prop := k ≤ s ∧ (∀ j, j < k → H j < 259) ∧ ∀ y, y < s → ∃ j, j < k ∧ x.l0 (H j) = x.l0 y
def hdX (x : Da) (H : Nat → Nat) (k s : Nat) (b : Bool) (j : Nat) : Prop := (b = true → ∀ i, i < j → x.l0 (H i) ≠ x.l0 s) ∧ (b = false → ∃ i, i < k ∧ x.l0 (H i) = x.l0 s)
theorem hdI_skip {x : Da} {H : Nat → Nat} {k s : Nat} (h : hdI x H k s) (hs : ∃ j, j < k ∧ x.l0 (H j) = x.l0 s) : hdI x H k (s + 1) :=
  ⟨by have := h.1; omega, h.2.1, fun y hy => by
    by_cases e : y = s
    · subst e; exact hs
    · exact h.2.2 y (by omega)⟩
theorem hdI_new {x : Da} {H : Nat → Nat} {k s : Nat} (h : hdI x H k s) (hs : s < 259) : hdI x (fun j => if j = k then s else H j) (k + 1) (s + 1) :=
  ⟨by have := h.1; omega, fun j hj => by
    show (if j = k then s else H j) < 259
    split
    · exact hs
    · exact h.2.1 j (by omega), fun y hy => by
    by_cases e : y = s
    · subst e; exact ⟨k, Nat.lt_succ_self k, by simp⟩
    · obtain ⟨j, h1, h2⟩ := h.2.2 y (by omega)
      exact ⟨j, by omega, by simp only; rw [if_neg (by omega)]; exact h2⟩⟩

set_option maxRecDepth 100000 in
set_option maxHeartbeats 20000000 in
theorem heads13 (v : Value) (x : Da) (hx : rgD x) (w : World) (hd : daAt w v x) :
    Calls Try.prog 71 #[v] w fun e w' => ∃ v' k H, e = .returned v' ∧ spF w' (w.heap.size + 1) v' (fun j => (H j : Nat)) k ∧ hdI x H k 259 ∧ Below w.heap.size w w' := by
  obtain ⟨D, hD⟩ : ∃ D, w.heap.size = D := ⟨_, rfl⟩
  obtain ⟨q0, c0, q1, c1, q2, c2, rfl, hr0, hr1, -⟩ := hd
  obtain ⟨w1, hw1⟩ : ∃ w1, w.alloc (.cells #[.slice q0 x.n0 c0, .int .i64 x.wd, .int .i64 x.st, .slice q1 x.n1 c1, .slice q2 x.n2 c2] 25) = w1 := ⟨_, rfl⟩
  have hz1 : w1.heap.size = D + 1 := by rw [← hw1, World.size_alloc, hD]
  have hb1 : Below D w w1 := hw1 ▸ (Below.refl _ _).alloc (by omega) _
  have hk1 : isDf w1 D q0 x.n0 c0 x.wd x.st q1 x.n1 c1 q2 x.n2 c2 := hw1 ▸ hD ▸ heap_alloc_new w _
  have HK := Lib.hid (fun w' (h : Below (D + 1) w1 w') => (hk1.below h (Nat.lt_succ_self D)).cells)
  have HR0 := Lib.hid (fun w' (h : Below (D + 1) w1 w') => hr0.below (hD.symm ▸ hb1.trans (h.mono (Nat.le_succ D))))
  have HW1 := Lib.hid hw1; have HG := Lib.hid hD; have HB1 := Lib.hid hb1; have HZ := Lib.hid hz1
  have hn0 : x.n0 = 259 := hx.1
  rw [hn0] at HK HR0 ⊢
  rw [hn0] at HW1
  have HBs : Hid (Below (D + 1) w1 w1) := Lib.hid (Below.refl _ _)
  have HO0 : Hid (spF w1 (D + 1) (.slice none 0 0) (fun j => ((fun _ => 0 : Nat → Nat) j : Nat)) 0) := Lib.hid (spF_zero _ _ _)
  have HI0 : Hid (hdI x (fun _ => 0) 0 0) := Lib.hid ⟨Nat.le_refl _, fun j h => by omega, fun j h => by omega⟩
  clear hw1 hk1 hr0 hr1 hb1 hx hn0
  go_enter Try.func71, Try.ntmps71
  go_upto_region 1 with (fail)
  rw [HW1.out]
  clear hD hz1
  go_wp2_with fail
  go_loopw [3, 4] (fun ov sv wr => ∃ (s k : Nat) (H : Nat → Nat) (vn : Value), s ≤ 259 ∧ sv = .int .i64 s ∧ vn = ov ∧ Hid (spF wr (D + 1) vn (fun j => (H j : Nat)) k) ∧ Hid (hdI x H k s) ∧ Hid (Below (D + 1) w1 wr)) (fun _ sv _ => 259 - (intOf sv).toNat)
  case atStart => exact ⟨0, 0, _, _, Nat.zero_le _, rfl, rfl, HO0, HI0, HBs⟩
  case round =>
    clear HO0 HI0 HBs
    obtain ⟨s, k, H, vn, hs, rfl, rfl, HO, HI, HB⟩ := hrel
    by_cases hlt : s < 259
    · have i0 : (0 : Int) ≤ (s : Int) := by omega
      have i1 : (s : Int) < 259 := by omega
      obtain ⟨p, c, rfl⟩ := spF_of HO.out
      have HB0 : Hid (Below wr.heap.size wr wr) := Lib.hid (Below.refl _ _)
      have HX0 : Hid (hdX x H k s true 0) := Lib.hid ⟨fun _ j h => by omega, fun h => by cases h⟩
      have HWB := HB
      clear HB
      go_wp2_with fail
      go_loopw [5, 6] (fun bv jv wx => ∃ (b : Bool) (j : Nat), j ≤ k ∧ bv = .bool b ∧ jv = .int .i64 j ∧ Hid (hdX x H k s b j) ∧ Hid (Below wr.heap.size wr wx)) (fun _ jv _ => k - (intOf jv).toNat)
      case atStart => exact ⟨true, 0, Nat.zero_le _, rfl, rfl, HX0, HB0⟩
      case round =>
        clear HX0 HB0
        obtain ⟨b, j, hj, rfl, rfl, HX, HB⟩ := hrel
        have HB9 : Hid (Below (D + 1) w1 wr) := Lib.hid (HWB.out.trans (HB.out.mono (by have := HWB.out.size; have := HZ.out; omega)))
        have HO9 := Lib.hid (HO.out.below HB.out)
        have kb := HI.out.1
        by_cases hltj : j < k
        · have j0 : (0 : Int) ≤ (j : Int) := by omega
          have j1 : (j : Int) < (k : Int) := by omega
          have dk : decide ((j : Int) < (k : Int)) = true := decide_eq_true j1
          obtain ⟨y0, -, -, -, -⟩ := HK.out _ HB9.out
          obtain ⟨ob, oo, rfl, -, k0⟩ := HO9.out.rd j hltj
          have hH := HI.out.2.1 j hltj
          obtain ⟨b0, o0, rfl, -, k1⟩ := HR0.out _ HB9.out (H j) hH
          obtain ⟨b0', o0', e0, -, k2⟩ := HR0.out _ HB9.out s hlt
          cases e0
          obtain ⟨h, hh⟩ : ∃ h, H j = h := ⟨_, rfl⟩
          simp only at k0
          rw [hh] at hH k0 k1
          obtain ⟨u, hu⟩ : ∃ u, x.l0 h = u := ⟨_, rfl⟩
          obtain ⟨u', hu'⟩ : ∃ u', x.l0 s = u' := ⟨_, rfl⟩
          rw [hu] at k1
          rw [hu'] at k2
          have h0 : (0 : Int) ≤ (h : Int) := by omega
          have h1 : (h : Int) < 259 := by omega
          have HX2 : Hid (hdX x H k s (b && (u != u')) (j + 1)) := Lib.hid (by
            constructor
            · intro e
              rw [Bool.and_eq_true] at e
              intro i hi
              by_cases g : i = j
              · subst g
                rw [hh, hu, hu']
                simpa using e.2
              · exact HX.out.1 e.1 i (by omega)
            · intro e
              rw [Bool.and_eq_false_iff] at e
              rcases e with e | e
              · exact HX.out.2 e
              · exact ⟨j, hltj, by rw [hh, hu, hu']; simpa using e⟩)
          clear hh hu hu' HX
          cases b with
          | false =>
            rw [Bool.false_and] at HX2
            go_wp2_with fail
            go_quiet (fail)
            have HBd := Lib.hid (below_drewN nq HB.out)
            go_wp2_with fail
            go_roundw
            case rel => exact ⟨_, j + 1, by omega, rfl, by go_num, HX2, HBd⟩
            case measure => simp [intOf]; omega
          | true =>
            rw [Bool.true_and] at HX2
            go_wp2_with fail
            go_quiet (fail)
            have HBd := Lib.hid (below_drewN nq HB.out)
            go_wp2_with fail
            go_roundw
            case rel => exact ⟨_, j + 1, by omega, rfl, by go_num, HX2, HBd⟩
            case measure => simp [intOf]; omega
        · obtain hjk : j = k := by omega
          have dk : decide ((j : Int) < (k : Int)) = false := decide_eq_false (by omega)
          cases b with
          | false =>
            have HI2 := Lib.hid (hdI_skip HI.out (HX.out.2 rfl))
            clear HX hjk
            go_wp2_with fail
            go_roundw
            case rel => exact ⟨s + 1, k, H, _, by omega, by go_num, rfl, HO9, HI2, HB9⟩
            case measure => simp [intOf]; omega
          | true =>
            have HI2 := Lib.hid (hdI_new HI.out hlt)
            have hk9 : k ≤ 10000 := by have := HI.out.1; omega
            have hbs : D + 1 ≤ wr.heap.size := by have := HB9.out.size; have := HZ.out; omega
            have HAL : Hid (Below wr.heap.size wr (wr.alloc (.cells #[.int .i64 s] 3))) := Lib.hid ((Below.refl _ _).alloc (Nat.le_refl _) _)
            have HO2 : Hid (spF (wr.alloc (.cells #[.int .i64 s] 3)) (D + 1) (.slice p k c) (fun i => ((if i = k then s else H i : Nat) : Int)) k) := Lib.hid ((HO9.out.below HAL.out).same fun i hi => by rw [if_neg (by omega)])
            clear HX hjk HO HO9 HI
            go_wp2_with (at_builtin; refine append_fn rfl _ _ rfl (D + 1) (.slice p k c) (fun i => ((if i = k then s else H i : Nat) : Int)) k rfl HO2.out wr.heap.size (s : Int) (by exact congrArg Nat.cast (if_pos rfl)) rfl (by simp) hk9 (by simp; omega) ?_)
            intro v' w5 hown5 hgrow
            have HO5 := Lib.hid hown5
            have HB5 : Hid (Below (D + 1) w1 w5) := Lib.hid ((HB9.out.trans (HAL.out.mono hbs)).grown hgrow (by simp; omega) fun r hr => (HO2.out.lt r hr).1)
            clear hown5 hgrow HO2 HAL
            go_wp2_with fail
            go_roundw
            case rel => exact ⟨s + 1, k + 1, _, v', by omega, by go_num, rfl, HO5, HI2, HB5⟩
            case measure => simp [intOf]; omega
    · obtain rfl : s = 259 := by omega
      have HE : Hid (∃ v' k H, Ending.returned vn = Ending.returned v' ∧ spF wr (w.heap.size + 1) v' (fun j => (H j : Nat)) k ∧ hdI x H k 259 ∧ Below w.heap.size w wr) := Lib.hid (by
        refine ⟨vn, k, H, rfl, ?_, HI.out, ?_⟩
        · rw [HG.out]; exact HO.out
        · rw [HG.out]; exact HB1.out.trans (HB.out.mono (Nat.le_succ D)))
      go_wp2_with fail
      go_returns
      exact HE.out
end Go.Proofs.Ytefpoapbodbenaa

namespace Go.Proofs.Ytefpoapbodbenaa

/-- Within a turn: nothing is told apart that is alike; what words of t symbols tell apart is; what those of t + 1 symbols do, ahead of a place. -/
def unI (x : Da) (t i k : Nat) (M : Gr) : Prop :=
  (∀ a b, a < x.n2 → b < x.n2 → M a b = true → lnW x a ≠ lnW x b) ∧ (∀ a b, a < x.n2 → b < x.n2 → ¬ apR x t a b → M a b = true) ∧
  (∀ a b, a < x.n2 → b < x.n2 → (a < i ∨ (a = i ∧ b < k)) → ¬ apR x (t + 1) a b → M a b = true)
theorem apR_zero {x : Da} {i k : Nat} : apR x 0 i k ↔ x.T i = x.T k := by
  constructor
  · intro h; exact h [] okw_nil (Nat.le_refl _)
  · intro h w hw hl
    have : w = [] := List.length_eq_zero_iff.1 (by omega)
    subst this; exact h
theorem unI_zero (x : Da) {M : Gr} (h : ∀ a b, a < x.n2 → b < x.n2 → M a b = (x.T a != x.T b)) : unI x 0 0 0 M := by
  refine ⟨fun a b ha hb e g => ?_, fun a b ha hb g => ?_, fun a b _ _ g _ => by omega⟩
  · rw [h a b ha hb] at e
    have := lnW_T g
    rw [this] at e
    simp at e
  · rw [apR_zero] at g
    rw [h a b ha hb]
    simpa using g
theorem unI_row {x : Da} {t i : Nat} {M : Gr} (h : unI x t i x.n2 M) : unI x t (i + 1) 0 M :=
  ⟨h.1, h.2.1, fun a b ha hb g => h.2.2 a b ha hb (by omega)⟩
theorem unI_turn {x : Da} {t : Nat} {M : Gr} (h : unI x t x.n2 0 M) : unI x (t + 1) 0 0 M :=
  ⟨h.1, fun a b ha hb g => h.2.2 a b ha hb (.inl ha) g, fun a b _ _ g => by omega⟩
theorem unI_put {x : Da} {t i k y : Nat} {M : Gr} (hx : rgD x) (h : unI x t i k M) (hi : i < x.n2) (hk : k < x.n2) (hy : y < 259) (hn : M i k = false) : unI x t i k (putG M i k (M (goD x i y) (goD x k y))) := by
  have key : ∀ a b, putG M i k (M (goD x i y) (goD x k y)) a b = if a = i ∧ b = k then M (goD x i y) (goD x k y) else M a b := by
    intro a b
    unfold putG
    by_cases h1 : a = i
    · by_cases h2 : b = k
      · rw [if_pos h1, if_pos h2, if_pos ⟨h1, h2⟩]
      · rw [if_pos h1, if_neg h2, if_neg (fun e => h2 e.2)]
    · rw [if_neg h1, if_neg (fun e => h1 e.1)]
  refine ⟨fun a b ha hb e => ?_, fun a b ha hb g => ?_, fun a b ha hb hd g => ?_⟩
  · rw [key] at e
    by_cases he : a = i ∧ b = k
    · rw [if_pos he] at e
      obtain ⟨rfl, rfl⟩ := he
      intro g
      exact h.1 _ _ (goD_at hx ha hy).2.2 (goD_at hx hb hy).2.2 e (lnW_same g hy)
    · rw [if_neg he] at e
      exact h.1 a b ha hb e
  · rw [key]
    by_cases he : a = i ∧ b = k
    · obtain ⟨rfl, rfl⟩ := he
      rw [h.2.1 a b ha hb g] at hn
      cases hn
    · rw [if_neg he]
      exact h.2.1 a b ha hb g
  · rw [key, if_neg (by omega)]
    exact h.2.2 a b ha hb hd g
theorem unI_next {x : Da} {t i k : Nat} {M : Gr} (h : unI x t i k M) (hi : i < x.n2) (hk : k < x.n2) (hs : M i k = false → ∀ y, y < 259 → apR x t (goD x i y) (goD x k y)) : unI x t i (k + 1) M := by
  refine ⟨h.1, h.2.1, fun a b ha hb hd g => ?_⟩
  by_cases he : a = i ∧ b = k
  · obtain ⟨rfl, rfl⟩ := he
    cases e : M a b with
    | true => rfl
    | false =>
      exfalso
      refine g (apR_succ.2 ⟨?_, hs e⟩)
      have h2 : apR x t a b := Classical.byContradiction fun n => by
        rw [h.2.1 a b ha hb n] at e; cases e
      exact apR_zero.1 (apR_le h2 (Nat.zero_le t))
  · exact h.2.2 a b ha hb (by omega) g
/-- At a pair: none of the first c symbols tells it apart. -/
def unC (x : Da) (t i k : Nat) (H : Nat → Nat) (c : Nat) (M : Gr) : Prop := M i k = false → ∀ j, j < c → apR x t (goD x i (H j)) (goD x k (H j))
theorem unC_zero (x : Da) (t i k : Nat) (H : Nat → Nat) (M : Gr) : unC x t i k H 0 M := fun _ j hj => absurd hj (Nat.not_lt_zero j)
theorem unC_put {x : Da} {t i k c : Nat} {H : Nat → Nat} {M : Gr} (hx : rgD x) (h : unI x t i k M) (hc : unC x t i k H c M) (hi : i < x.n2) (hk : k < x.n2) (hy : H c < 259) (hn : M i k = false) : unC x t i k H (c + 1) (putG M i k (M (goD x i (H c)) (goD x k (H c)))) := by
  intro e j hj
  have e2 : M (goD x i (H c)) (goD x k (H c)) = false := by
    unfold putG at e
    rwa [if_pos rfl, if_pos rfl] at e
  by_cases hjc : j = c
  · subst hjc
    exact Classical.byContradiction fun n => by
      rw [h.2.1 _ _ (goD_at hx hi hy).2.2 (goD_at hx hk hy).2.2 n] at e2; cases e2
  · exact hc hn j (by omega)
theorem goD_class {x : Da} {s y z : Nat} (h : x.l0 y = x.l0 z) : goD x s y = goD x s z := by unfold goD; rw [h]
theorem unC_all {x : Da} {t i k kk : Nat} {H : Nat → Nat} {M : Gr} (hH : hdI x H kk 259) (h : unC x t i k H kk M) : M i k = false → ∀ y, y < 259 → apR x t (goD x i y) (goD x k y) := fun e y hy => by
  obtain ⟨j, h1, h2⟩ := hH.2.2 y hy
  rw [← goD_class h2, ← goD_class h2]
  exact h e j h1
theorem unI_end {x : Da} {M : Gr} (hx : rgD x) (h : unI x x.n2 0 0 M) {i k : Nat} (hi : i < x.n2) (hk : k < x.n2) : M i k = true ↔ lnW x i ≠ lnW x k := by
  refine ⟨h.1 i k hi hk, fun g => ?_⟩
  exact h.2.1 i k hi hk fun n => g (apR_deep hx hi hk n)
end Go.Proofs.Ytefpoapbodbenaa

namespace Go.Proofs.Ytefpoapbodbenaa
open Go.RowKit

theorem goC13 {x : Da} (hx : rgD x) (h1 : x.n1 ≤ 100000) {W : Nat} (hW : x.wd = W) (q0 : Option Addr) (c0 : Nat) (q1 : Option Addr) (c1 : Nat) (q2 : Option Addr) (n2 c2 i y : Nat) (hi : i < x.n2) (hy : y < 259) (w : World) (h0 : rdL w q0 259 x.l0) (hr1 : rdL w q1 x.n1 x.l1) :
    Calls Try.prog 24 #[dfV q0 259 c0 (W : Int) x.st q1 x.n1 c1 q2 n2 c2, .int .i64 (i : Int), .int .i64 (y : Int)] w fun e w' => e = .returned (.int .i64 (goD x i y : Nat)) ∧ Below w.heap.size w w' := by
  obtain ⟨g1, g2, g3⟩ := goD_at hx hi hy
  have hcc := (hx.2.2.2.2.2.2.2.2.1 y hy).1
  have hgd : x.l1 (i * x.wd.toNat + (x.l0 y).toNat) = (goD x i y : Nat) := by
    unfold goD
    rw [Int.toNat_of_nonneg g2]
  rw [hW, Int.toNat_natCast] at g1 hgd
  rw [← hgd]
  exact go11 q0 c0 W x.st q1 x.n1 c1 q2 n2 c2 x.l0 x.l1 i y (x.l0 y).toNat (i * W) hy (Int.toNat_of_nonneg hcc).symm rfl g1 (Nat.le_trans h1 (by decide)) w h0 hr1
end Go.Proofs.Ytefpoapbodbenaa
