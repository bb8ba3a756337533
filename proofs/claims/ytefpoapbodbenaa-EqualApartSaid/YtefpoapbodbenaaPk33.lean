/-
  The walks of the tenth reference's Join and Firsts.
  The walk of the thirteenth reference's Blocks.
  What the thirteenth reference's Of reckons, put against the least automaton by what is left of words. Plain.
  The walk of the thirteenth reference's find.
  Three rows of numbers and one of bools that grow side by side, two of them named by a decided automaton's block.
  A bool more in a list, as a step of a region that draws its order.
-/
import Derived.Test.YtefpoapbodbenaaPk9
import Derived.Test.YtefpoapbodbenaaPk32
import Derived.Test.YtefpoapbodbenaaPk24
import Derived.Test.YtefpoapbodbenaaPk16
import Derived.Test.YtefpoapbodbenaaPk10
import Derived.Test.YtefpoapbodbenaaPk4
import Derived.Test.YtefpoapbodbenaaPk5
namespace Go.Proofs.Ytefpoapbodbenaa
open Go.RowKit

/-- The least place from x on (of those behind x) that is like i; i, if there is none. -/
def lsA (R : Nat → Nat → Bool) (i : Nat) (x : Int) (at' : Nat) : Prop := at' ≤ i ∧ (at' < i → x < at' ∧ R at' i = true) ∧ ∀ j : Nat, x < j → j < at' → R j i = false
theorem lsA_end {R : Nat → Nat → Bool} {i at' : Nat} (h : lsA R i (-1) at') : hdA R i = at' := by
  obtain ⟨h1, h2, h3⟩ := h
  rcases Nat.lt_or_ge at' i with g | g
  · exact hdA_is g (h2 g).2 fun j hj => h3 j (by omega) hj
  · have e : at' = i := by omega
    subst e
    exact hdA_self fun j hj => h3 j (by omega) hj
theorem lsA_start (R : Nat → Nat → Bool) (i : Nat) : lsA R i ((i : Int) - 1) i := ⟨Nat.le_refl _, fun h => absurd h (Nat.lt_irrefl _), fun _ _ _ => by omega⟩
theorem lsA_in {R : Nat → Nat → Bool} {i k at' : Nat} (_h : lsA R i k at') (hk : k < i) (hR : R k i = true) : lsA R i ((k : Int) - 1) k := ⟨by omega, fun _ => ⟨by omega, hR⟩, fun j h1 h2 => by omega⟩
theorem lsA_out {R : Nat → Nat → Bool} {i k at' : Nat} (h : lsA R i k at') (hR : R k i = false) : lsA R i ((k : Int) - 1) at' := by
  obtain ⟨h1, h2, h3⟩ := h
  refine ⟨h1, fun g => ⟨by have := (h2 g).1; omega, (h2 g).2⟩, fun j g1 g2 => ?_⟩
  by_cases e : j = k
  · subst e; exact hR
  · exact h3 j (by omega) g2
theorem rdL.two {w : World} {p : Option Addr} {n : Nat} {l : Nat → Int} (h : rdL w p n l) {i k : Nat} (hi : i < n) (hk : k < n) : ∃ b o, p = some ⟨b, o, none⟩ ∧ b < w.heap.size ∧ w.cell? ⟨b, o + i, none⟩ = some (.int .i64 (l i)) ∧ w.cell? ⟨b, o + k, none⟩ = some (.int .i64 (l k)) := by
  obtain ⟨b, o, rfl, h1, h2⟩ := h i hi
  obtain ⟨b', o', e, _, h3⟩ := h k hk
  cases e
  exact ⟨b, o, rfl, h1, h2, h3⟩
/-- The least place behind x that has c; -1, if there is none. -/
def lsF (l : Nat → Int) (n : Nat) (c : Int) (x : Int) (a : Int) : Prop := (a = -1 ∧ ∀ j : Nat, x < j → j < n → l j ≠ c) ∨ ∃ k : Nat, a = (k : Int) ∧ x < k ∧ k < n ∧ l k = c ∧ ∀ j : Nat, x < j → j < k → l j ≠ c
theorem lsF_start (l : Nat → Int) (n : Nat) (c : Int) : lsF l n c ((n : Int) - 1) (-1) := .inl ⟨rfl, fun j h1 h2 => by omega⟩
theorem lsF_in {l : Nat → Int} {n k : Nat} {c : Int} (hk : k < n) (h : l k = c) : lsF l n c ((k : Int) - 1) (k : Int) := .inr ⟨k, rfl, by omega, hk, h, fun j h1 h2 => by omega⟩
theorem lsF_out {l : Nat → Int} {n k : Nat} {c a : Int} (h : lsF l n c (k : Int) a) (hn : l k ≠ c) : lsF l n c ((k : Int) - 1) a := by
  rcases h with ⟨h1, h2⟩ | ⟨k', h1, h2, h3, h4, h5⟩
  · refine .inl ⟨h1, fun j g1 g2 => ?_⟩
    by_cases e : j = k
    · subst e; exact hn
    · exact h2 j (by omega) g2
  · refine .inr ⟨k', h1, by omega, h3, h4, fun j g1 g2 => ?_⟩
    by_cases e : j = k
    · subst e; exact hn
    · exact h5 j (by omega) g2
theorem lsF_end {l : Nat → Int} {n : Nat} {c a : Int} (h : lsF l n c (-1) a) : fsA l n c = a := by
  unfold fsA
  rcases h with ⟨rfl, h2⟩ | ⟨k, rfl, _, h3, h4, h5⟩
  · rw [find_range_none fun j hj => by simpa using h2 j (by omega) hj]; rfl
  · rw [find_range h3 (by simpa using h4) fun j hj => by simpa using h5 j (by omega) hj]; rfl
set_option maxRecDepth 100000 in
set_option maxHeartbeats 8000000 in
theorem firsts10b (q : Option Addr) (n c : Nat) (l : Nat → Int) (width : Int) (hn : n ≤ 1000) (w : World) (hl : rdL w q n l) :
    Calls Try.prog 46 #[.slice q n c, .int .i64 width] w fun e w' => ∃ q2 c2, e = .returned (.slice q2 (min width 259).toNat c2) ∧ rdL w' q2 (min width 259).toNat (fun j => fsA l n (j : Nat)) ∧ Below w.heap.size w w' ∧ ∀ b o, q2 = some ⟨b, o, none⟩ → w.heap.size ≤ b := by
  obtain ⟨W, hW⟩ : ∃ W, (min width 259).toNat = W := ⟨_, rfl⟩
  rw [hW]
  have hW1 : W ≤ 259 := by omega
  have hW2 : ∀ k : Nat, k < W → (k : Int) < width ∧ (k : Int) < 259 := fun k hk => by omega
  have hW3 : (decide ((W : Int) < width) && decide ((W : Int) < 259)) = false := by
    rw [← Bool.decide_and]
    exact decide_eq_false (by omega)
  have HW2 := Lib.hid hW2; have HW3 := Lib.hid hW3
  have HL := Lib.hid hl
  have n0 : (0 : Int) ≤ (n : Int) := by omega
  have n1 : (n : Int) ≤ 1000 := by omega
  have HO0 := Lib.hid (spF_zero w w.heap.size (fun j => fsA l n (j : Nat)))
  clear hl hW hW2 hW3
  go_enter Try.func46, Try.ntmps46
  go_wp2_with fail
  go_loopw [5, 6] (fun tv iv wr => ∃ i : Nat, i ≤ W ∧ iv = .int .i64 i ∧ Hid (spF wr w.heap.size tv (fun j => fsA l n (j : Nat)) i) ∧ Hid (Below w.heap.size w wr)) (fun _ iv _ => W - (intOf iv).toNat)
  case atStart => exact ⟨0, Nat.zero_le _, rfl, HO0, Lib.hid (Below.refl _ _)⟩
  case round =>
    clear HO0
    obtain ⟨i, hi, rfl, HO, HB⟩ := hrel
    by_cases hlti : i < W
    · have i0 : (0 : Int) ≤ (i : Int) := by omega
      obtain ⟨i1, i2⟩ := HW2.out i hlti
      have HLS0 := Lib.hid (lsF_start l n (i : Int))
      go_wp2_with fail
      go_loopw [7, 8] (fun av kv wx => ∃ (x a : Int), kv = .int .i64 x ∧ -1 ≤ x ∧ x < n ∧ av = .int .i64 a ∧ Hid (lsF l n (i : Int) x a) ∧ Hid (Below w.heap.size w wx) ∧ Hid (spF wx w.heap.size u5 (fun j => fsA l n (j : Nat)) i)) (fun _ kv _ => (intOf kv + 1).toNat)
      case atStart => exact ⟨_, _, rfl, by omega, by omega, rfl, HLS0, HB, HO⟩
      case round =>
        clear HLS0 HO HB
        obtain ⟨x, a, rfl, hx1, hx2, rfl, HLS, HBx, HOx⟩ := hrel
        by_cases hx0 : 0 ≤ x
        · obtain ⟨k, rfl⟩ : ∃ k : Nat, x = k := ⟨x.toNat, by omega⟩
          have hkn : k < n := by omega
          obtain ⟨lb, lo, rfl, hlb, hlc⟩ := (HL.out.below HBx.out) k hkn
          obtain ⟨u, hu⟩ : ∃ u, l k = u := ⟨_, rfl⟩
          have HU := Lib.hid hu
          rw [hu] at hlc
          clear hu
          cases e1 : (u == (i : Int))
          · have HS := Lib.hid (lsF_out HLS.out (by rw [HU.out]; simpa using e1))
            go_wp2_with fail
            go_roundw
            case rel => exact ⟨_, _, by go_num, by omega, by omega, rfl, HS, HBx, HOx⟩
            case measure => first | (simp [intOf]; done) | (simp [intOf]; omega)
          · have HS := Lib.hid (lsF_in hkn (show l k = (i : Int) by rw [HU.out]; simpa using e1))
            go_wp2_with fail
            go_roundw
            case rel => exact ⟨_, _, by go_num, by omega, by omega, rfl, HS, HBx, HOx⟩
            case measure => first | (simp [intOf]; done) | (simp [intOf]; omega)
        · obtain rfl : x = -1 := by omega
          have HCL := Lib.hid (lsF_end HLS.out)
          have HS := HBx.out.size
          have HLC : Hid ((wr.alloc (.cells #[.int .i64 a] 3)).cell? ⟨wr.heap.size, 0, none⟩ = some (.int .i64 a)) := Lib.hid (by simp)
          have HLZ : Hid (w.heap.size ≤ (wr.alloc (.cells #[.int .i64 a] 3)).heap.size) := Lib.hid (by rw [World.size_alloc]; omega)
          have HO6 := Lib.hid (HOx.out.alloc (.cells #[.int .i64 a] 3))
          have HW6 := Lib.hid (HBx.out.alloc HS (.cells #[.int .i64 a] 3))
          clear HOx HBx HS HLS
          go_wp2_with (at_builtin; refine append_fn rfl _ _ rfl w.heap.size _ (fun j => fsA l n (j : Nat)) i rfl HO6.out wr.heap.size a HCL.out rfl HLC.out (by omega) HLZ.out ?_; intro v9 w9 h9 hg9; have HO9 := Lib.hid h9; have HW9 := Lib.hid (HW6.out.trans (spF.grow (Nat.le_refl _) HLZ.out HO6.out hg9)); clear h9 hg9)
          go_roundw
          case rel => exact ⟨i + 1, by omega, by go_num, HO9, HW9⟩
          case measure => simp [intOf]; omega
    · obtain rfl : i = W := by omega
      obtain ⟨tp, tc, rfl⟩ := spF_of HO.out
      have HF := Lib.hid HO.out.rd
      have HFr : Hid (∀ b o, tp = some ⟨b, o, none⟩ → w.heap.size ≤ b) := Lib.hid fun b o e => (World.ownsRow.lt HO.out b (by rw [e]; rfl)).1
      clear HO
      cases d1 : decide ((i : Int) < width)
      · go_wp2_with fail
        go_returns
        exact ⟨_, _, rfl, HF.out, HB.out, HFr.out⟩
      · have d2 : decide ((i : Int) < 259) = false := by have := HW3.out; rw [d1] at this; simpa using this
        go_wp2_with fail
        go_returns
        exact ⟨_, _, rfl, HF.out, HB.out, HFr.out⟩
end Go.Proofs.Ytefpoapbodbenaa

namespace Go.Proofs.Ytefpoapbodbenaa
open Go.RowKit

/-- Two states are alike. -/
noncomputable def lnB (x : Da) (i k : Nat) : Bool := @decide (lnW x i = lnW x k) (Classical.propDecidable _)
theorem lnB_iff {x : Da} {i k : Nat} : lnB x i k = true ↔ lnW x i = lnW x k := by unfold lnB; simp
theorem lnB_eq (x : Da) : eqR (lnB x) where
  re _ := lnB_iff.2 rfl
  sy _ _ h := lnB_iff.2 (lnB_iff.1 h).symm
  tr _ _ _ h g := lnB_iff.2 ((lnB_iff.1 h).trans (lnB_iff.1 g))

set_option maxRecDepth 100000 in
set_option maxHeartbeats 20000000 in
theorem blocks13 (v : Value) (x : Da) (hx : rgD x) (h1 : x.n1 ≤ 100000) (h2 : x.n2 ≤ 1000) (w : World) (hd : daAt w v x) :
    Calls Try.prog 43 #[v] w fun e w' => ∃ q2 c2, e = .returned (.tuple #[.slice q2 x.n2 c2, .int .i64 (cntT (isH (lnB x)) x.n2 : Nat)]) ∧ rdL w' q2 x.n2 (fun i => (clA (lnB x) i : Nat)) ∧ Below w.heap.size w w' := by
  obtain ⟨N, hN⟩ : ∃ N, x.n2 = N + 1 := ⟨x.n2 - 1, by have := hx.2.2.2.1; omega⟩
  obtain ⟨D, hD⟩ : ∃ D, w.heap.size = D := ⟨_, rfl⟩
  have HDa := Lib.hid (fun w' (h : Below w.heap.size w w') => hd.below h)
  obtain ⟨q0, c0, q1, c1, q2, c2, rfl, -, -, -⟩ := hd
  obtain ⟨w1, hw1⟩ : ∃ w1, w.alloc (.cells #[.slice q0 x.n0 c0, .int .i64 x.wd, .int .i64 x.st, .slice q1 x.n1 c1, .slice q2 x.n2 c2] 25) = w1 := ⟨_, rfl⟩
  have hz1 : w1.heap.size = D + 1 := by rw [← hw1, World.size_alloc, hD]
  have hb1 : Below D w w1 := hw1 ▸ (Below.refl _ _).alloc (by omega) _
  have hk1 : isDf w1 D q0 x.n0 c0 x.wd x.st q1 x.n1 c1 q2 x.n2 c2 := hw1 ▸ hD ▸ heap_alloc_new w _
  obtain ⟨y0, y1, y2, y3, y4⟩ := hk1.cells
  have HU := Lib.hid (unlike13 _ x hx h1 h2 N hN w1 (HDa.out _ (hD.symm ▸ hb1)))
  have HW1 := Lib.hid hw1; have HG := Lib.hid hD; have HB1 := Lib.hid hb1
  obtain ⟨n, hn⟩ : ∃ n, x.n2 = n := ⟨_, rfl⟩
  rw [hn] at HU HW1 y4 h2 ⊢
  have HNn : Hid (N + 1 = n) := Lib.hid (by omega)
  have n0 : (0 : Int) ≤ (n : Int) := by omega
  have n1 : (n : Int) ≤ 1000 := by omega
  have HZ1 := Lib.hid hz1
  clear hw1 hk1 hb1 hx hn hN HDa
  go_enter Try.func43, Try.ntmps43
  go_upto_region 1 with (fail)
  rw [HW1.out]
  clear hD hz1
  go_wp2_with fail
  refine HU.out.mono ?_
  rintro e w8 ⟨v8, M, rfl, ⟨r, hgr⟩, hM, hb8⟩
  obtain ⟨go, cap, rfl, -, hgl, hco⟩ := hgr.outer
  have HC : Hid (∀ w', Below w8.heap.size w8 w' → ∀ i, i < n → w'.cell? ⟨go, i, none⟩ = some (.slice (some ⟨r i, 0, none⟩) n n) ∧ ∀ j, j < n → w'.cell? ⟨r i, j, none⟩ = some (.bool (M i j))) := Lib.hid fun w' hb i hi => by
    have e := HNn.out
    subst e
    refine ⟨(hb.cell (p := ⟨go, i, none⟩) hgl).trans (hco i hi), fun j hj => ?_⟩
    exact ((hgr.below hb).at (i := i) (j := j) hi (by omega)).1
  have HM := Lib.hid hM
  have HB8 := Lib.hid hb8
  obtain ⟨B, hB⟩ : ∃ B, w8.heap.size = B := ⟨_, rfl⟩
  have HO0 := Lib.hid (spF_zero w8 B (fun i => (hdA (lnB x) i : Nat)))
  have HBs : Hid (Below B w8 w8) := Lib.hid (Below.refl _ _)
  rw [HNn.out]
  rw [hB] at HC
  have HZ := Lib.hid hB
  clear hgr hM hb8 hgl hco hB HU y0 y1 y2 y3 y4
  go_wp2_with fail
  go_loopw [5, 6] (fun tv iv wr => ∃ i : Nat, i ≤ n ∧ iv = .int .i64 i ∧ Hid (spF wr B tv (fun i => (hdA (lnB x) i : Nat)) i) ∧ Hid (Below B w8 wr)) (fun _ iv _ => n - (intOf iv).toNat)
  case atStart => exact ⟨0, Nat.zero_le _, rfl, HO0, HBs⟩
  case round =>
    clear HO0 HBs
    obtain ⟨i, hi, rfl, HO, HB⟩ := hrel
    by_cases hlti : i < n
    · have i0 : (0 : Int) ≤ (i : Int) := by omega
      have i1 : (i : Int) < (n : Int) := by omega
      have HLS0 := Lib.hid (lsA_start (lnB x) i)
      go_wp2_with fail
      go_loopw [7, 8] (fun av kv wx => ∃ (z : Int) (m : Nat), kv = .int .i64 z ∧ -1 ≤ z ∧ z < i ∧ av = .int .i64 (m : Int) ∧ Hid (lsA (lnB x) i z m) ∧ Hid (Below B w8 wx) ∧ Hid (spF wx B u5 (fun i => (hdA (lnB x) i : Nat)) i)) (fun _ kv _ => (intOf kv + 1).toNat)
      case atStart => exact ⟨_, i, rfl, by omega, by omega, rfl, HLS0, HB, HO⟩
      case round =>
        clear HLS0 HO HB
        obtain ⟨z, m, rfl, hx1, hx2, rfl, HLS, HBx, HOx⟩ := hrel
        by_cases hx0 : 0 ≤ z
        · obtain ⟨k, rfl⟩ : ∃ k : Nat, z = k := ⟨z.toNat, by omega⟩
          have hki : k < i := by omega
          have k1 : (k : Int) < (n : Int) := by omega
          obtain ⟨a1, a2⟩ := HC.out _ HBx.out i hlti
          have a3 := a2 k (by omega)
          have hml := HM.out i k hlti (by omega)
          obtain ⟨u, hu⟩ : ∃ u, M i k = u := ⟨_, rfl⟩
          rw [hu] at a3 hml
          have HML := Lib.hid hml
          clear a2 hu hml
          cases u with
          | true =>
            have HS := Lib.hid (lsA_out HLS.out (by
              cases e : lnB x k i with
              | false => rfl
              | true => exact absurd (lnB_iff.1 e).symm (HML.out.1 rfl)))
            go_wp2_with fail
            go_roundw
            case rel => exact ⟨_, _, by go_num, by omega, by omega, rfl, HS, HBx, HOx⟩
            case measure => first | (simp [intOf]; done) | (simp [intOf]; omega)
          | false =>
            have HS := Lib.hid (lsA_in HLS.out hki (lnB_iff.2 (by
              apply Classical.byContradiction
              intro g
              have := HML.out.2 (fun e => g e.symm)
              cases this)))
            go_wp2_with fail
            go_roundw
            case rel => exact ⟨_, _, by go_num, by omega, by omega, rfl, HS, HBx, HOx⟩
            case measure => first | (simp [intOf]; done) | (simp [intOf]; omega)
        · obtain rfl : z = -1 := by omega
          have HE := Lib.hid (lsA_end HLS.out)
          have hmi := HLS.out.1
          have m0 : (0 : Int) ≤ (m : Int) := by omega
          have HCL : Hid (((hdA (lnB x) i : Nat) : Int) = (m : Int)) := Lib.hid (by rw [HE.out])
          have HS : B ≤ wr.heap.size := by have := HBx.out.size; have := HZ.out; omega
          have HLC : Hid ((wr.alloc (.cells #[.int .i64 (m : Int)] 3)).cell? ⟨wr.heap.size, 0, none⟩ = some (.int .i64 (m : Int))) := Lib.hid (by simp)
          have HLZ : Hid (B ≤ (wr.alloc (.cells #[.int .i64 (m : Int)] 3)).heap.size) := Lib.hid (by rw [World.size_alloc]; omega)
          have HO6 := Lib.hid (HOx.out.alloc (.cells #[.int .i64 (m : Int)] 3))
          have HW6 := Lib.hid (HBx.out.alloc HS (.cells #[.int .i64 (m : Int)] 3))
          clear HOx HBx HS HLS HE
          go_wp2_with (at_builtin; refine append_fn rfl _ _ rfl B _ (fun i => (hdA (lnB x) i : Nat)) i rfl HO6.out wr.heap.size (m : Int) HCL.out rfl HLC.out (by omega) HLZ.out ?_; intro v9 w9 h9 hg9; have HO9 := Lib.hid h9; have HW9 := Lib.hid (HW6.out.trans (spF.grow (Nat.le_refl _) HLZ.out HO6.out hg9)); clear h9 hg9)
          go_roundw
          case rel => exact ⟨i + 1, by omega, by go_num, HO9, HW9⟩
          case measure => simp [intOf]; omega
    · obtain rfl : i = n := by omega
      obtain ⟨tp, tc, rfl⟩ := spF_of HO.out
      have HN := Lib.hid (num10 (lnB x) (lnB_eq x) tp i tc h2 _ HO.out.rd)
      clear HO
      go_wp2_with fail
      refine HN.out.mono ?_
      rintro e w5 ⟨q2', c2', rfl, h1', h2'⟩
      have HF := Lib.hid h1'
      have HB5 : Hid (Below w.heap.size w w5) := Lib.hid (by
        have z1 := HZ1.out; have z2 := HG.out; have z3 := HZ.out
        have b1 := HB1.out; have b2 := HB8.out; have b3 := HB.out
        have s1 := b1.size; have s2 := b2.size; have s3 := b3.size
        rw [z2]
        exact (b1.trans (b2.mono (by omega))).trans ((b3.trans (h2'.mono (by omega))).mono (by omega)))
      clear h1' h2' HN
      go_wp2_with fail
      go_returns
      exact ⟨_, _, rfl, HF.out, HB5.out⟩
end Go.Proofs.Ytefpoapbodbenaa

namespace Go.Proofs.Ytefpoapbodbenaa

theorem rt_word {x : Da} {s t : Nat} (h : rtE (edD x) s t) : ∃ v, okw v ∧ runW x s v = t := by
  induction h with
  | refl => exact ⟨[], okw_nil, rfl⟩
  | tail _ e ih =>
    obtain ⟨v, hv, e2⟩ := ih
    rcases edD_iff.1 e with g | ⟨y, hy, g⟩
    · exact ⟨v, hv, e2.trans g⟩
    · exact ⟨v ++ [y], okw_append.2 ⟨hv, okw_cons.2 ⟨hy, okw_nil⟩⟩, by rw [runW_append, e2]; exact g⟩
/-- Two symbols lead alike behind all words just if they do from all states that are reached. -/
theorem syB_reach {x : Da} (hx : rgD x) {y z : Nat} (hy : y < 259) (hz : z < 259) :
    syB (lnW x x.st.toNat) y z = true ↔ ∀ s, s < x.n2 → wsh (edD x) x.n2 x.st.toNat s = true → clA (lnB x) (goD x s y) = clA (lnB x) (goD x s z) := by
  rw [syB_iff]
  constructor
  · intro h s _ hr
    rw [comes_iff hx (st_lt hx)] at hr
    obtain ⟨v, hv, rfl⟩ := rt_word hr
    rw [clA_iff (lnB_eq x), lnB_iff, lnW_go x _ hy, lnW_go x _ hz, lnW_run x v _ hv]
    exact h v hv
  · intro h v hv
    have hr := rt_run x v x.st.toNat hv
    have := h _ (runW_lt hx v _ (st_lt hx) hv) ((comes_iff hx (st_lt hx) _).2 hr)
    rw [clA_iff (lnB_eq x), lnB_iff, lnW_go x _ hy, lnW_go x _ hz, lnW_run x v _ hv] at this
    exact this
/-- To seek among heads alone is to seek among all. -/
theorem hdA_heads {R : Nat → Nat → Bool} (hR : eqR R) (i : Nat) : hdA (fun k i => isH R k && R k i) i = hdA R i := by
  rcases Nat.lt_or_ge (hdA R i) i with g | g
  · refine hdA_is g ?_ fun j hj => ?_
    · show (isH R (hdA R i) && R (hdA R i) i) = true
      rw [hdA_head hR, hdA_like hR.re]
      rfl
    · show (isH R j && R j i) = false
      rw [hdA_least hj, Bool.and_false]
  · have e : hdA R i = i := by have := hdA_le R i; omega
    rw [e]
    refine hdA_self fun j hj => ?_
    show (isH R j && R j i) = false
    rw [hdA_least (show j < hdA R i by omega), Bool.and_false]
/-- States that stand for what is met. -/
def stI (x : Da) (st : List Nat) (L : List Lng) : Prop := st.map (lnW x) = L ∧ ∀ t, t ∈ st → t < x.n2
noncomputable def stA (x : Da) (st : List Nat) (u : Nat) : List Nat := if ixG (st.map (lnW x)) (lnW x u) < st.length then st else st ++ [u]
theorem stI_add {x : Da} {st : List Nat} {L : List Lng} (h : stI x st L) {u : Nat} (ht : u < x.n2) : stI x (stA x st u) (adG L (lnW x u)) := by
  obtain ⟨rfl, h2⟩ := h
  unfold stA adG
  rw [List.length_map]
  split
  · exact ⟨rfl, h2⟩
  · refine ⟨by rw [List.map_append]; rfl, fun t g => ?_⟩
    rcases List.mem_append.1 g with g | g
    · exact h2 t g
    · have : t = u := by simpa using g
      subst this; exact ht
/-- The place of a block's number among those of the states. -/
theorem fsA_st {x : Da} {st : List Nat} {L : List Lng} (h : stI x st L) (u : Nat) :
    fsA (fun j => (clA (lnB x) (st.getD j 0) : Nat)) st.length (clA (lnB x) u : Nat) = if ixG L (lnW x u) < L.length then ((ixG L (lnW x u) : Nat) : Int) else -1 := by
  obtain ⟨rfl, -⟩ := h
  have hp : ∀ j, j < st.length → (((clA (lnB x) (st.getD j 0) : Nat) : Int) == ((clA (lnB x) u : Nat) : Int)) = @decide ((st.map (lnW x))[j]? = some (lnW x u)) (Classical.propDecidable _) := fun j hj => by
    rw [Bool.eq_iff_iff, beq_iff_eq]
    rw [@decide_eq_true_iff _ (Classical.propDecidable _)]
    have e1 : st.getD j 0 = st[j] := by rw [List.getD_eq_getElem?_getD, List.getElem?_eq_getElem hj]; rfl
    rw [List.getElem?_map, List.getElem?_eq_getElem hj, e1]
    show _ ↔ some (lnW x st[j]) = some (lnW x u)
    rw [Option.some_inj, ← lnB_iff, ← clA_iff (lnB_eq x)]
    omega
  unfold fsA
  by_cases g : ixG (st.map (lnW x)) (lnW x u) < (st.map (lnW x)).length
  · rw [if_pos g]
    have gl : ixG (st.map (lnW x)) (lnW x u) < st.length := by rwa [List.length_map] at g
    rw [find_range gl (by rw [hp _ gl]; simp [ixG_at g]) (fun j hj => by
      rw [hp j (by omega)]
      rw [@decide_eq_false_iff_not _ (Classical.propDecidable _)]
      intro e
      have hjl : j < (st.map (lnW x)).length := by rw [List.length_map]; omega
      have hno := List.not_of_lt_findIdx (p := fun y => @decide (y = lnW x u) (Classical.propDecidable _)) (xs := st.map (lnW x)) hj
      rw [List.getElem?_eq_getElem hjl] at e
      exact @of_decide_eq_false _ (Classical.propDecidable _) hno (Option.some.inj e))]
    rfl
  · rw [if_neg g]
    have : (List.range st.length).find? (fun j => (((clA (lnB x) (st.getD j 0) : Nat) : Int) == ((clA (lnB x) u : Nat) : Int))) = none := by
      rw [List.find?_eq_none]
      intro j hj
      rw [List.mem_range] at hj
      rw [hp j hj]
      intro e
      rw [@decide_eq_true_iff _ (Classical.propDecidable _)] at e
      exact g (ixG_mem.2 (List.mem_of_getElem? e))
    rw [this]
    rfl
end Go.Proofs.Ytefpoapbodbenaa

namespace Go.Proofs.Ytefpoapbodbenaa
open Go.RowKit

theorem fsA_at {l : Nat → Int} {n i : Nat} {c : Int} (hi : i < n) (h : l i = c) (hn : ∀ j, j < i → l j ≠ c) : fsA l n c = (i : Nat) := by
  unfold fsA
  rw [find_range hi (by simpa using h) fun j hj => by simpa using hn j hj]
  rfl
theorem fsA_no {l : Nat → Int} {n : Nat} {c : Int} (hn : ∀ j, j < n → l j ≠ c) : fsA l n c = -1 := by
  unfold fsA
  have : (List.range n).find? (fun i => l i == c) = none := by
    rw [List.find?_eq_none]
    intro j hj
    rw [List.mem_range] at hj
    simpa using hn j hj
  rw [this]
  rfl

set_option maxRecDepth 100000 in
set_option maxHeartbeats 8000000 in
theorem find13 (q : Option Addr) (n c : Nat) (l : Nat → Int) (z : Int) (hn : n ≤ 10000) (w : World) (hl : rdL w q n l) :
    Calls Try.prog 47 #[.slice q n c, .int .i64 z] w fun e w' => e = .returned (.int .i64 (fsA l n z)) ∧ Below w.heap.size w w' := by
  have HL := Lib.hid hl
  have n0 : (0 : Int) ≤ (n : Int) := by omega
  clear hl
  go_enter Try.func47, Try.ntmps47
  go_wp2_with fail
  go_loopw [5] (fun iv wr => ∃ i : Nat, i ≤ n ∧ iv = .int .i64 i ∧ Hid (∀ j, j < i → l j ≠ z) ∧ Hid (Below w.heap.size w wr)) (fun iv _ => n - (intOf iv).toNat)
  case atStart => exact ⟨0, Nat.zero_le _, rfl, Lib.hid (fun _ h => absurd h (Nat.not_lt_zero _)), Lib.hid (Below.refl _ _)⟩
  case round =>
    obtain ⟨i, hi, rfl, HQ, HB⟩ := hrel
    by_cases hlti : i < n
    · have i0 : (0 : Int) ≤ (i : Int) := by omega
      have i1 : (i : Int) < (n : Int) := by omega
      obtain ⟨lb, lo, rfl, hlb, hlc⟩ := (HL.out.below HB.out) i hlti
      obtain ⟨u, hu⟩ : ∃ u, l i = u := ⟨_, rfl⟩
      have HU := Lib.hid hu
      rw [hu] at hlc
      clear hu
      cases hx : (u == z)
      · have HQ2 : Hid (∀ j, j < i + 1 → l j ≠ z) := Lib.hid fun j hj => by
          by_cases e : j = i
          · subst e; rw [HU.out]; simpa using hx
          · exact HQ.out j (by omega)
        go_wp2_with fail
        go_roundw
        case rel => exact ⟨i + 1, by omega, by go_num, HQ2, HB⟩
        case measure => simp [intOf]; omega
      · have HE : Hid (fsA l n z = (i : Nat)) := Lib.hid (fsA_at hlti (by rw [HU.out]; simpa using hx) HQ.out)
        go_wp2_with fail
        go_returns
        exact ⟨by rw [HE.out] <;> rfl, HB.out⟩
    · obtain rfl : i = n := by omega
      have HE : Hid (fsA l i z = -1) := Lib.hid (fsA_no HQ.out)
      go_wp2_with fail
      go_returns
      exact ⟨by rw [HE.out] <;> rfl, HB.out⟩
end Go.Proofs.Ytefpoapbodbenaa

namespace Go.Proofs.Ytefpoapbodbenaa
open Go.RowKit

theorem rdL.eqv13 {w : World} {p : Option Addr} {n : Nat} {l l' : Nat → Int} (h : rdL w p n l) (hl : ∀ j, j < n → l j = l' j) : rdL w p n l' := fun j hj => by
  obtain ⟨b, o, h1, h2, h3⟩ := h j hj
  exact ⟨b, o, h1, h2, by rw [← hl j hj]; exact h3⟩
def ap13 (u v : Value) : Prop := u.ownBlock = none ∨ v.ownBlock = none ∨ u.ownBlock ≠ v.ownBlock
theorem ap13.symm {u v : Value} (h : ap13 u v) : ap13 v u := h.elim (fun h => .inr (.inl h)) fun h => h.elim .inl fun h => .inr (.inr fun e => h e.symm)
/-- A row is kept where another one grows, and lies apart from it still. -/
theorem ap13.grow {w w' : World} {B e n : Nat} {u v v' : Value} {xs : List Value} (hr : w.ownsRow B e 1 u n xs) (h : ap13 u v) (hg : w.grownBy w' v.ownBlock) (hv : v'.ownBlock = v.ownBlock ∨ v'.ownBlock = some w.heap.size) : w'.ownsRow B e 1 u n xs ∧ ap13 u v' := by
  refine ⟨World.ownsRow.kept hr hg ?_, ?_⟩
  · rcases h with h | h | h
    · exact .inl h
    · cases hu : u.ownBlock with
      | none => exact .inl rfl
      | some r => right; rw [h]; simp
    · exact .inr h
  · rcases hv with e | e
    · unfold ap13
      rw [e]; exact h
    · cases hu : u.ownBlock with
      | none => exact .inl hu
      | some r =>
        right; right
        rw [hu, e]
        have := (World.ownsRow.lt hr r hu).2
        intro e2
        have : r = w.heap.size := by simpa using e2
        omega
theorem ap13.types {w : World} {b1 b2 e1 e2 s1 s2 n1 n2 : Nat} {v1 v2 : Value} {x1 x2 : List Value} (h1 : w.ownsRow b1 e1 s1 v1 n1 x1) (h2 : w.ownsRow b2 e2 s2 v2 n2 x2) (hne : e1 ≠ e2) : ap13 v1 v2 :=
  (rows_apart9 h1 h2 hne).elim .inl fun h => .inr (.inr h)

/-- Block O holds what is made, from G on lie its rows, and those of what is met and of its states. -/
structure om13 (w : World) (O G : Nat) (q : Option Addr) (c : Nat) (Wd : Int) (vm vs : Value) (lm ls ln : List Nat) (T : Nat → Bool) (a : Nat) (pn : Option Addr) (cn : Nat) (pa : Option Addr) (ca : Nat) : Prop where
  df : isDf w O q 259 c Wd 0 pn ln.length cn pa a ca
  m : spO w G vm lm
  s : spO w G vs ls
  n : spO w G (.slice pn ln.length cn) ln
  ac : w.ownsRow G 4 1 (.slice pa a ca) a (bls T a)
  ms : ap13 vm vs
  mn : ap13 vm (.slice pn ln.length cn)
  sn : ap13 vs (.slice pn ln.length cn)
  le : O < G
variable {w w' : World} {O G : Nat} {q : Option Addr} {c : Nat} {Wd : Int} {vm vs : Value} {lm ls ln : List Nat} {T : Nat → Bool} {a : Nat} {pn : Option Addr} {cn : Nat} {pa : Option Addr} {ca : Nat}
theorem om13.below (h : om13 w O G q c Wd vm vs lm ls ln T a pn cn pa ca) (hb : Below w.heap.size w w') : om13 w' O G q c Wd vm vs lm ls ln T a pn cn pa ca :=
  ⟨h.df.below hb h.df.lt, owns_below h.m hb, owns_below h.s hb, owns_below h.n hb, owns_below h.ac hb, h.ms, h.mn, h.sn, h.le⟩
/-- What the struct's block holds is kept where a row grows. -/
theorem om13.dfk {v : Value} {B e n : Nat} {xs : List Value} (h : om13 w O G q c Wd vm vs lm ls ln T a pn cn pa ca) (hr : w.ownsRow B e 1 v n xs) (hB : O < B) (hg : w.grownBy w' v.ownBlock) : isDf w' O q 259 c Wd 0 pn ln.length cn pa a ca :=
  (hg.block O h.df.lt fun e => by have := (World.ownsRow.lt hr O e.symm).1; omega).trans h.df
theorem om13.growM {v' : Value} {lm' : List Nat} (h : om13 w O G q c Wd vm vs lm ls ln T a pn cn pa ca) (hr : spO w' G v' lm') (hg : w.grownBy w' vm.ownBlock) (hv : v'.ownBlock = vm.ownBlock ∨ v'.ownBlock = some w.heap.size) : om13 w' O G q c Wd v' vs lm' ls ln T a pn cn pa ca := by
  obtain ⟨s1, s2⟩ := ap13.grow h.s h.ms.symm hg hv
  obtain ⟨n1, n2⟩ := ap13.grow h.n h.mn.symm hg hv
  exact ⟨h.dfk h.m h.le hg, hr, s1, n1, (ap13.grow h.ac (ap13.types h.ac h.m (by decide)) hg hv).1, s2.symm, n2.symm, h.sn, h.le⟩
theorem om13.growS {v' : Value} {ls' : List Nat} (h : om13 w O G q c Wd vm vs lm ls ln T a pn cn pa ca) (hr : spO w' G v' ls') (hg : w.grownBy w' vs.ownBlock) (hv : v'.ownBlock = vs.ownBlock ∨ v'.ownBlock = some w.heap.size) : om13 w' O G q c Wd vm v' lm ls' ln T a pn cn pa ca := by
  obtain ⟨s1, s2⟩ := ap13.grow h.m h.ms hg hv
  obtain ⟨n1, n2⟩ := ap13.grow h.n h.sn.symm hg hv
  exact ⟨h.dfk h.s h.le hg, s1, hr, n1, (ap13.grow h.ac (ap13.types h.ac h.s (by decide)) hg hv).1, s2, h.mn, n2.symm, h.le⟩
theorem row_far13 {w : World} {O G e n : Nat} {v : Value} {xs : List Value} (hr : w.ownsRow G e 1 v n xs) (hO : O < G) : v.ownBlock = none ∨ v.ownBlock ≠ some O := by
  cases hu : v.ownBlock with
  | none => exact .inl rfl
  | some r =>
    right
    have := (World.ownsRow.lt hr r hu).1
    intro e
    have : r = O := by simpa using e
    omega
theorem om13.growN {p' : Option Addr} {c' : Nat} {ln' : List Nat} (h : om13 w O G q c Wd vm vs lm ls ln T a pn cn pa ca) (hr : spO w' G (.slice p' ln'.length c') ln') (hg : w.grownBy w' (Value.slice pn ln.length cn).ownBlock) (hv : (Value.slice p' ln'.length c').ownBlock = (Value.slice pn ln.length cn).ownBlock ∨ (Value.slice p' ln'.length c').ownBlock = some w.heap.size) :
    isDf w' O q 259 c Wd 0 pn ln.length cn pa a ca ∧ om13 (w'.setCell ⟨O, 3, none⟩ (.slice p' ln'.length c')) O G q c Wd vm vs lm ls ln' T a p' c' pa ca := by
  obtain ⟨s1, s2⟩ := ap13.grow h.m h.mn hg hv
  obtain ⟨n1, n2⟩ := ap13.grow h.s h.sn hg hv
  have a1 := (ap13.grow h.ac (ap13.types h.ac h.n (by decide)) hg hv).1
  have d1 := h.dfk h.n h.le hg
  have gs := grown_setCell w' O 3 (.slice p' ln'.length c')
  refine ⟨d1, ?_, World.ownsRow.kept s1 gs (row_far13 s1 h.le), World.ownsRow.kept n1 gs (row_far13 n1 h.le), World.ownsRow.kept hr gs (row_far13 hr h.le), World.ownsRow.kept a1 gs (row_far13 a1 h.le), h.ms, s2, n2, h.le⟩
  have h1 := heap_setCell_same w' O 3 _ _ (.slice p' ln'.length c') d1
  unfold isDf
  rw [h1]; simp
theorem om13.growA {p' : Option Addr} {c' : Nat} {T' : Nat → Bool} (h : om13 w O G q c Wd vm vs lm ls ln T a pn cn pa ca) (hr : w'.ownsRow G 4 1 (.slice p' (a + 1) c') (a + 1) (bls T' (a + 1))) (hg : w.grownBy w' (Value.slice pa a ca).ownBlock) :
    isDf w' O q 259 c Wd 0 pn ln.length cn pa a ca ∧ om13 (w'.setCell ⟨O, 4, none⟩ (.slice p' (a + 1) c')) O G q c Wd vm vs lm ls ln T' (a + 1) pn cn p' c' := by
  have k : ∀ {v : Value} {l : List Nat}, spO w G v l → spO w' G v l := fun {v l} hs => World.ownsRow.kept hs hg (rows_apart9 hs h.ac (by decide))
  have d1 := h.dfk h.ac h.le hg
  have gs := grown_setCell w' O 4 (.slice p' (a + 1) c')
  refine ⟨d1, d1.put4 p' (a + 1) c', World.ownsRow.kept (k h.m) gs (row_far13 (k h.m) h.le), World.ownsRow.kept (k h.s) gs (row_far13 (k h.s) h.le), World.ownsRow.kept (k h.n) gs (row_far13 (k h.n) h.le), World.ownsRow.kept hr gs (row_far13 hr h.le), h.ms, h.mn, h.sn, h.le⟩
theorem om13.congr {T' : Nat → Bool} (h : om13 w O G q c Wd vm vs lm ls ln T a pn cn pa ca) (hT : ∀ j, j < a → T j = T' j) : om13 w O G q c Wd vm vs lm ls ln T' a pn cn pa ca := by
  refine ⟨h.df, h.m, h.s, h.n, ?_, h.ms, h.mn, h.sn, h.le⟩
  have e : bls T a = bls T' a := by
    unfold bls
    exact List.map_congr_left fun i hi => by rw [hT i (List.mem_range.1 hi)]
  rw [← e]; exact h.ac
theorem own_far13 {X : Nat → Prop} {w : World} {O G e n : Nat} {v : Value} {xs : List Value} (hr : w.ownsRow G e 1 v n xs) (hX : ∀ k, X k → k < G ∧ k ≠ O) (r : Nat) (h : v.ownBlock = some r) : ¬ X r := fun hx => by
  have h1 := (World.ownsRow.lt hr r h).1
  have h2 := (hX r hx).1
  omega
theorem one_far13 {X : Nat → Prop} {O G : Nat} (hX : ∀ k, X k → k < G ∧ k ≠ O) (r : Nat) (h : some O = some r) : ¬ X r := fun hx => by
  have : r = O := by simpa using h.symm
  exact (hX r hx).2 this
end Go.Proofs.Ytefpoapbodbenaa

namespace Go.Proofs.Ytefpoapbodbenaa
open Go.RowKit

theorem bls_succ (T : Nat → Bool) (n : Nat) : bls T (n + 1) = bls T n ++ [.bool (T n)] := by simp [bls, List.range_succ]
theorem step_append_bl {w : World} {ops : Array Oper} {o : Oper} {a : Act} {K : Act → World → Prop} {Q : Exit → Act → World → Prop} {E : Prop} (hgd : o.guard = none) (s x : Operand)
    (ho : o.op = .call { callee := .builtin .append, args := #[s, x], argTypes := #[23, 23] }) (base : Nat) (v : Value) (T : Nat → Bool) (n : Nat) (hs : a.eval s = v)
    (hown : w.ownsRow base 4 1 v n (bls T n)) (g : Nat) (u : Bool) (hT : T n = u) (hx : a.eval x = .slice (some ⟨g, 0, none⟩) 1 1) (hcell : w.cell? ⟨g, 0, none⟩ = some (.bool u)) (hlen : n ≤ 100000) (hbase : base ≤ w.heap.size)
    (h : ∀ q' n' cap' w', n' = n + 1 → w'.ownsRow base 4 1 (.slice q' n' cap') (n + 1) (bls T (n + 1)) → w.grownBy w' v.ownBlock → K (a.put o.dst (.slice q' n' cap')) w') :
    if Region.wanted o (yielded ops a.tmps) = true then Oper.wp Try.prog o a w K Q else E := by
  have hw : Region.wanted o (yielded ops a.tmps) = true := by simp [Region.wanted, hgd]
  rw [if_pos hw]
  obtain ⟨i0, hi, hz0, hz1, hz2⟩ := info_parts infoBool9
  refine wp_append_own w s x 23 ho base 4 i0 (.bool false) 1 1 Try.underlying23 hi hz0 hz1 hz2 rfl (by decide) v n (bls T n) hs hown ⟨g, 0, none⟩ 1 1 [.bool u] hx rfl ?_ ?_ (by unfold maxLen; omega) (by omega) hbase ?_
  · intro j y hy
    match j, hy with
    | 0, hy => simp at hy; subst hy; simpa [Addr.add] using hcell
  · intro y hy
    have : y = .bool u := by simpa using hy
    subst this; rfl
  · intro v' w' h1 h2 _
    have h3 : w'.ownsRow base 4 1 v' (n + 1) (bls T (n + 1)) := by rw [bls_succ, hT]; exact h1
    obtain ⟨q', cap', rfl⟩ : ∃ q cap, v' = .slice q (n + 1) cap := by
      rcases id h3.2 with ⟨rfl, h0⟩ | ⟨g, cap, cur, rfl, _⟩
      · exact ⟨none, 0, by rw [h0]⟩
      · exact ⟨_, cap, rfl⟩
    exact h q' _ cap' w' rfl h3 h2
end Go.Proofs.Ytefpoapbodbenaa
