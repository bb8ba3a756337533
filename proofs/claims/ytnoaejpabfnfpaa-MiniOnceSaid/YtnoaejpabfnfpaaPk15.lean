/-
  The walks of the tenth reference's Join and Firsts.
  The walk of the thirteenth reference's Blocks.
  States in blocks that are divided till the states of each are alike (J. Hopcroft's way). Plain.
-/
import Derived.Test.YtnoaejpabfnfpaaPk10
import Derived.Test.YtnoaejpabfnfpaaPk14
namespace Go.Proofs.Ytnoaejpabfnfpaa
open Go.RowKit

/-- The least place from x on (of those behind x) that is like i; i, if there is none. -/
def lsA (R : Nat → Nat → Bool) (i : Nat) (x : Int) (at' : Nat) : Prop := at' ≤ i ∧ (at' < i → x < at' ∧ R at' i = true) ∧ ∀ j : Nat, x < j → j < at' → R j i = false
theorem lsA_end {R : Nat → Nat → Bool} {i at' : Nat} (h : lsA R i (-1) at') : hdA R i = at' := by
  obtain ⟨h1, h2, h3⟩ := h
  rcases Nat.lt_or_ge at' i with g | g
  · exact hdA_is g (h2 g).2 fun j hj => h3 j (by omega) hj
  · have e : at' = i := by omega
    subst e
    exact hdA_self fun j hj => h3 j (by omega) hj
theorem lsA_start (R : Nat → Nat → Bool) (i : Nat) : lsA R i ((i : Int) - 1) i := ⟨Nat.le_refl _, fun h => absurd h (Nat.lt_irrefl _), fun _ _ _ => by omega⟩
theorem lsA_in {R : Nat → Nat → Bool} {i k at' : Nat} (_h : lsA R i k at') (hk : k < i) (hR : R k i = true) : lsA R i ((k : Int) - 1) k := ⟨by omega, fun _ => ⟨by omega, hR⟩, fun j h1 h2 => by omega⟩
theorem lsA_out {R : Nat → Nat → Bool} {i k at' : Nat} (h : lsA R i k at') (hR : R k i = false) : lsA R i ((k : Int) - 1) at' := by
  obtain ⟨h1, h2, h3⟩ := h
  refine ⟨h1, fun g => ⟨by have := (h2 g).1; omega, (h2 g).2⟩, fun j g1 g2 => ?_⟩
  by_cases e : j = k
  · subst e; exact hR
  · exact h3 j (by omega) g2
theorem rdL.two {w : World} {p : Option Addr} {n : Nat} {l : Nat → Int} (h : rdL w p n l) {i k : Nat} (hi : i < n) (hk : k < n) : ∃ b o, p = some ⟨b, o, none⟩ ∧ b < w.heap.size ∧ w.cell? ⟨b, o + i, none⟩ = some (.int .i64 (l i)) ∧ w.cell? ⟨b, o + k, none⟩ = some (.int .i64 (l k)) := by
  obtain ⟨b, o, rfl, h1, h2⟩ := h i hi
  obtain ⟨b', o', e, _, h3⟩ := h k hk
  cases e
  exact ⟨b, o, rfl, h1, h2, h3⟩
/-- The least place behind x that has c; -1, if there is none. -/
def lsF (l : Nat → Int) (n : Nat) (c : Int) (x : Int) (a : Int) : Prop := (a = -1 ∧ ∀ j : Nat, x < j → j < n → l j ≠ c) ∨ ∃ k : Nat, a = (k : Int) ∧ x < k ∧ k < n ∧ l k = c ∧ ∀ j : Nat, x < j → j < k → l j ≠ c
theorem lsF_start (l : Nat → Int) (n : Nat) (c : Int) : lsF l n c ((n : Int) - 1) (-1) := .inl ⟨rfl, fun j h1 h2 => by omega⟩
theorem lsF_in {l : Nat → Int} {n k : Nat} {c : Int} (hk : k < n) (h : l k = c) : lsF l n c ((k : Int) - 1) (k : Int) := .inr ⟨k, rfl, by omega, hk, h, fun j h1 h2 => by omega⟩
theorem lsF_out {l : Nat → Int} {n k : Nat} {c a : Int} (h : lsF l n c (k : Int) a) (hn : l k ≠ c) : lsF l n c ((k : Int) - 1) a := by
  rcases h with ⟨h1, h2⟩ | ⟨k', h1, h2, h3, h4, h5⟩
  · refine .inl ⟨h1, fun j g1 g2 => ?_⟩
    by_cases e : j = k
    · subst e; exact hn
    · exact h2 j (by omega) g2
  · refine .inr ⟨k', h1, by omega, h3, h4, fun j g1 g2 => ?_⟩
    by_cases e : j = k
    · subst e; exact hn
    · exact h5 j (by omega) g2
theorem lsF_end {l : Nat → Int} {n : Nat} {c a : Int} (h : lsF l n c (-1) a) : fsA l n c = a := by
  unfold fsA
  rcases h with ⟨rfl, h2⟩ | ⟨k, rfl, _, h3, h4, h5⟩
  · rw [find_range_none fun j hj => by simpa using h2 j (by omega) hj]; rfl
  · rw [find_range h3 (by simpa using h4) fun j hj => by simpa using h5 j (by omega) hj]; rfl
set_option maxRecDepth 100000 in
set_option maxHeartbeats 8000000 in
theorem firsts10b (q : Option Addr) (n c : Nat) (l : Nat → Int) (width : Int) (hn : n ≤ 1000) (w : World) (hl : rdL w q n l) :
    Calls Try.prog 35 #[.slice q n c, .int .i64 width] w fun e w' => ∃ q2 c2, e = .returned (.slice q2 (min width 259).toNat c2) ∧ rdL w' q2 (min width 259).toNat (fun j => fsA l n (j : Nat)) ∧ Below w.heap.size w w' ∧ ∀ b o, q2 = some ⟨b, o, none⟩ → w.heap.size ≤ b := by
  obtain ⟨W, hW⟩ : ∃ W, (min width 259).toNat = W := ⟨_, rfl⟩
  rw [hW]
  have hW1 : W ≤ 259 := by omega
  have hW2 : ∀ k : Nat, k < W → (k : Int) < width ∧ (k : Int) < 259 := fun k hk => by omega
  have hW3 : (decide ((W : Int) < width) && decide ((W : Int) < 259)) = false := by
    rw [← Bool.decide_and]
    exact decide_eq_false (by omega)
  have HW2 := Lib.hid hW2; have HW3 := Lib.hid hW3
  have HL := Lib.hid hl
  have n0 : (0 : Int) ≤ (n : Int) := by omega
  have n1 : (n : Int) ≤ 1000 := by omega
  have HO0 := Lib.hid (spF_zero w w.heap.size (fun j => fsA l n (j : Nat)))
  clear hl hW hW2 hW3
  go_enter Try.func35, Try.ntmps35
  go_wp2_with fail
  go_loopw [5, 6] (fun tv iv wr => ∃ i : Nat, i ≤ W ∧ iv = .int .i64 i ∧ Hid (spF wr w.heap.size tv (fun j => fsA l n (j : Nat)) i) ∧ Hid (Below w.heap.size w wr)) (fun _ iv _ => W - (intOf iv).toNat)
  case atStart => exact ⟨0, Nat.zero_le _, rfl, HO0, Lib.hid (Below.refl _ _)⟩
  case round =>
    clear HO0
    obtain ⟨i, hi, rfl, HO, HB⟩ := hrel
    by_cases hlti : i < W
    · have i0 : (0 : Int) ≤ (i : Int) := by omega
      obtain ⟨i1, i2⟩ := HW2.out i hlti
      have HLS0 := Lib.hid (lsF_start l n (i : Int))
      go_wp2_with fail
      go_loopw [7, 8] (fun av kv wx => ∃ (x a : Int), kv = .int .i64 x ∧ -1 ≤ x ∧ x < n ∧ av = .int .i64 a ∧ Hid (lsF l n (i : Int) x a) ∧ Hid (Below w.heap.size w wx) ∧ Hid (spF wx w.heap.size u5 (fun j => fsA l n (j : Nat)) i)) (fun _ kv _ => (intOf kv + 1).toNat)
      case atStart => exact ⟨_, _, rfl, by omega, by omega, rfl, HLS0, HB, HO⟩
      case round =>
        clear HLS0 HO HB
        obtain ⟨x, a, rfl, hx1, hx2, rfl, HLS, HBx, HOx⟩ := hrel
        by_cases hx0 : 0 ≤ x
        · obtain ⟨k, rfl⟩ : ∃ k : Nat, x = k := ⟨x.toNat, by omega⟩
          have hkn : k < n := by omega
          obtain ⟨lb, lo, rfl, hlb, hlc⟩ := (HL.out.below HBx.out) k hkn
          obtain ⟨u, hu⟩ : ∃ u, l k = u := ⟨_, rfl⟩
          have HU := Lib.hid hu
          rw [hu] at hlc
          clear hu
          cases e1 : (u == (i : Int))
          · have HS := Lib.hid (lsF_out HLS.out (by rw [HU.out]; simpa using e1))
            go_wp2_with fail
            go_roundw
            case rel => exact ⟨_, _, by go_num, by omega, by omega, rfl, HS, HBx, HOx⟩
            case measure => first | (simp [intOf]; done) | (simp [intOf]; omega)
          · have HS := Lib.hid (lsF_in hkn (show l k = (i : Int) by rw [HU.out]; simpa using e1))
            go_wp2_with fail
            go_roundw
            case rel => exact ⟨_, _, by go_num, by omega, by omega, rfl, HS, HBx, HOx⟩
            case measure => first | (simp [intOf]; done) | (simp [intOf]; omega)
        · obtain rfl : x = -1 := by omega
          have HCL := Lib.hid (lsF_end HLS.out)
          have HS := HBx.out.size
          have HLC : Hid ((wr.alloc (.cells #[.int .i64 a] 3)).cell? ⟨wr.heap.size, 0, none⟩ = some (.int .i64 a)) := Lib.hid (by simp)
          have HLZ : Hid (w.heap.size ≤ (wr.alloc (.cells #[.int .i64 a] 3)).heap.size) := Lib.hid (by rw [World.size_alloc]; omega)
          have HO6 := Lib.hid (HOx.out.alloc (.cells #[.int .i64 a] 3))
          have HW6 := Lib.hid (HBx.out.alloc HS (.cells #[.int .i64 a] 3))
          clear HOx HBx HS HLS
          go_wp2_with (at_builtin; refine append_fn rfl _ _ rfl w.heap.size _ (fun j => fsA l n (j : Nat)) i rfl HO6.out wr.heap.size a HCL.out rfl HLC.out (by omega) HLZ.out ?_; intro v9 w9 h9 hg9; have HO9 := Lib.hid h9; have HW9 := Lib.hid (HW6.out.trans (spF.grow (Nat.le_refl _) HLZ.out HO6.out hg9)); clear h9 hg9)
          go_roundw
          case rel => exact ⟨i + 1, by omega, by go_num, HO9, HW9⟩
          case measure => simp [intOf]; omega
    · obtain rfl : i = W := by omega
      obtain ⟨tp, tc, rfl⟩ := spF_of HO.out
      have HF := Lib.hid HO.out.rd
      have HFr : Hid (∀ b o, tp = some ⟨b, o, none⟩ → w.heap.size ≤ b) := Lib.hid fun b o e => (World.ownsRow.lt HO.out b (by rw [e]; rfl)).1
      clear HO
      cases d1 : decide ((i : Int) < width)
      · go_wp2_with fail
        go_returns
        exact ⟨_, _, rfl, HF.out, HB.out, HFr.out⟩
      · have d2 : decide ((i : Int) < 259) = false := by have := HW3.out; rw [d1] at this; simpa using this
        go_wp2_with fail
        go_returns
        exact ⟨_, _, rfl, HF.out, HB.out, HFr.out⟩
theorem firsts10 (q : Option Addr) (n c : Nat) (l : Nat → Int) (width : Int) (hn : n ≤ 1000) (w : World) (hl : rdL w q n l) :
    Calls Try.prog 35 #[.slice q n c, .int .i64 width] w fun e w' => ∃ q2 c2, e = .returned (.slice q2 (min width 259).toNat c2) ∧ rdL w' q2 (min width 259).toNat (fun j => fsA l n (j : Nat)) ∧ Below w.heap.size w w' :=
  (firsts10b q n c l width hn w hl).mono fun _ _ ⟨q2, c2, h1, h2, h3, _⟩ => ⟨q2, c2, h1, h2, h3⟩
end Go.Proofs.Ytnoaejpabfnfpaa

namespace Go.Proofs.Ytnoaejpabfnfpaa
open Go.RowKit

/-- Two states are alike. -/
noncomputable def lnB (x : Da) (i k : Nat) : Bool := @decide (lnW x i = lnW x k) (Classical.propDecidable _)
theorem lnB_iff {x : Da} {i k : Nat} : lnB x i k = true ↔ lnW x i = lnW x k := by unfold lnB; simp
theorem lnB_eq (x : Da) : eqR (lnB x) where
  re _ := lnB_iff.2 rfl
  sy _ _ h := lnB_iff.2 (lnB_iff.1 h).symm
  tr _ _ _ h g := lnB_iff.2 ((lnB_iff.1 h).trans (lnB_iff.1 g))

set_option maxRecDepth 100000 in
set_option maxHeartbeats 20000000 in
theorem blocks13 (v : Value) (x : Da) (hx : rgD x) (h1 : x.n1 ≤ 100000) (h2 : x.n2 ≤ 1000) (w : World) (hd : daAt w v x) :
    Calls Try.prog 11 #[v] w fun e w' => ∃ q2 c2, e = .returned (.tuple #[.slice q2 x.n2 c2, .int .i64 (cntT (isH (lnB x)) x.n2 : Nat)]) ∧ rdL w' q2 x.n2 (fun i => (clA (lnB x) i : Nat)) ∧ Below w.heap.size w w' := by
  obtain ⟨N, hN⟩ : ∃ N, x.n2 = N + 1 := ⟨x.n2 - 1, by have := hx.2.2.2.1; omega⟩
  obtain ⟨D, hD⟩ : ∃ D, w.heap.size = D := ⟨_, rfl⟩
  have HDa := Lib.hid (fun w' (h : Below w.heap.size w w') => hd.below h)
  obtain ⟨q0, c0, q1, c1, q2, c2, rfl, -, -, -⟩ := hd
  obtain ⟨w1, hw1⟩ : ∃ w1, w.alloc (.cells #[.slice q0 x.n0 c0, .int .i64 x.wd, .int .i64 x.st, .slice q1 x.n1 c1, .slice q2 x.n2 c2] 25) = w1 := ⟨_, rfl⟩
  have hz1 : w1.heap.size = D + 1 := by rw [← hw1, World.size_alloc, hD]
  have hb1 : Below D w w1 := hw1 ▸ (Below.refl _ _).alloc (by omega) _
  have hk1 : isDf w1 D q0 x.n0 c0 x.wd x.st q1 x.n1 c1 q2 x.n2 c2 := hw1 ▸ hD ▸ heap_alloc_new w _
  obtain ⟨y0, y1, y2, y3, y4⟩ := hk1.cells
  have HU := Lib.hid (unlike13 _ x hx h1 h2 N hN w1 (HDa.out _ (hD.symm ▸ hb1)))
  have HW1 := Lib.hid hw1; have HG := Lib.hid hD; have HB1 := Lib.hid hb1
  obtain ⟨n, hn⟩ : ∃ n, x.n2 = n := ⟨_, rfl⟩
  rw [hn] at HU HW1 y4 h2 ⊢
  have HNn : Hid (N + 1 = n) := Lib.hid (by omega)
  have n0 : (0 : Int) ≤ (n : Int) := by omega
  have n1 : (n : Int) ≤ 1000 := by omega
  have HZ1 := Lib.hid hz1
  clear hw1 hk1 hb1 hx hn hN HDa
  go_enter Try.func11, Try.ntmps11
  go_upto_region 1 with (fail)
  rw [HW1.out]
  clear hD hz1
  go_wp2_with fail
  refine HU.out.mono ?_
  rintro e w8 ⟨v8, M, rfl, ⟨r, hgr⟩, hM, hb8⟩
  obtain ⟨go, cap, rfl, -, hgl, hco⟩ := hgr.outer
  have HC : Hid (∀ w', Below w8.heap.size w8 w' → ∀ i, i < n → w'.cell? ⟨go, i, none⟩ = some (.slice (some ⟨r i, 0, none⟩) n n) ∧ ∀ j, j < n → w'.cell? ⟨r i, j, none⟩ = some (.bool (M i j))) := Lib.hid fun w' hb i hi => by
    have e := HNn.out
    subst e
    refine ⟨(hb.cell (p := ⟨go, i, none⟩) hgl).trans (hco i hi), fun j hj => ?_⟩
    exact ((hgr.below hb).at (i := i) (j := j) hi (by omega)).1
  have HM := Lib.hid hM
  have HB8 := Lib.hid hb8
  obtain ⟨B, hB⟩ : ∃ B, w8.heap.size = B := ⟨_, rfl⟩
  have HO0 := Lib.hid (spF_zero w8 B (fun i => (hdA (lnB x) i : Nat)))
  have HBs : Hid (Below B w8 w8) := Lib.hid (Below.refl _ _)
  rw [HNn.out]
  rw [hB] at HC
  have HZ := Lib.hid hB
  clear hgr hM hb8 hgl hco hB HU y0 y1 y2 y3 y4
  go_wp2_with fail
  go_loopw [5, 6] (fun tv iv wr => ∃ i : Nat, i ≤ n ∧ iv = .int .i64 i ∧ Hid (spF wr B tv (fun i => (hdA (lnB x) i : Nat)) i) ∧ Hid (Below B w8 wr)) (fun _ iv _ => n - (intOf iv).toNat)
  case atStart => exact ⟨0, Nat.zero_le _, rfl, HO0, HBs⟩
  case round =>
    clear HO0 HBs
    obtain ⟨i, hi, rfl, HO, HB⟩ := hrel
    by_cases hlti : i < n
    · have i0 : (0 : Int) ≤ (i : Int) := by omega
      have i1 : (i : Int) < (n : Int) := by omega
      have HLS0 := Lib.hid (lsA_start (lnB x) i)
      go_wp2_with fail
      go_loopw [7, 8] (fun av kv wx => ∃ (z : Int) (m : Nat), kv = .int .i64 z ∧ -1 ≤ z ∧ z < i ∧ av = .int .i64 (m : Int) ∧ Hid (lsA (lnB x) i z m) ∧ Hid (Below B w8 wx) ∧ Hid (spF wx B u5 (fun i => (hdA (lnB x) i : Nat)) i)) (fun _ kv _ => (intOf kv + 1).toNat)
      case atStart => exact ⟨_, i, rfl, by omega, by omega, rfl, HLS0, HB, HO⟩
      case round =>
        clear HLS0 HO HB
        obtain ⟨z, m, rfl, hx1, hx2, rfl, HLS, HBx, HOx⟩ := hrel
        by_cases hx0 : 0 ≤ z
        · obtain ⟨k, rfl⟩ : ∃ k : Nat, z = k := ⟨z.toNat, by omega⟩
          have hki : k < i := by omega
          have k1 : (k : Int) < (n : Int) := by omega
          obtain ⟨a1, a2⟩ := HC.out _ HBx.out i hlti
          have a3 := a2 k (by omega)
          have hml := HM.out i k hlti (by omega)
          obtain ⟨u, hu⟩ : ∃ u, M i k = u := ⟨_, rfl⟩
          rw [hu] at a3 hml
          have HML := Lib.hid hml
          clear a2 hu hml
          cases u with
          | true =>
            have HS := Lib.hid (lsA_out HLS.out (by
              cases e : lnB x k i with
              | false => rfl
              | true => exact absurd (lnB_iff.1 e).symm (HML.out.1 rfl)))
            go_wp2_with fail
            go_roundw
            case rel => exact ⟨_, _, by go_num, by omega, by omega, rfl, HS, HBx, HOx⟩
            case measure => first | (simp [intOf]; done) | (simp [intOf]; omega)
          | false =>
            have HS := Lib.hid (lsA_in HLS.out hki (lnB_iff.2 (by
              apply Classical.byContradiction
              intro g
              have := HML.out.2 (fun e => g e.symm)
              cases this)))
            go_wp2_with fail
            go_roundw
            case rel => exact ⟨_, _, by go_num, by omega, by omega, rfl, HS, HBx, HOx⟩
            case measure => first | (simp [intOf]; done) | (simp [intOf]; omega)
        · obtain rfl : z = -1 := by omega
          have HE := Lib.hid (lsA_end HLS.out)
          have hmi := HLS.out.1
          have m0 : (0 : Int) ≤ (m : Int) := by omega
          have HCL : Hid (((hdA (lnB x) i : Nat) : Int) = (m : Int)) := Lib.hid (by rw [HE.out])
          have HS : B ≤ wr.heap.size := by have := HBx.out.size; have := HZ.out; omega
          have HLC : Hid ((wr.alloc (.cells #[.int .i64 (m : Int)] 3)).cell? ⟨wr.heap.size, 0, none⟩ = some (.int .i64 (m : Int))) := Lib.hid (by simp)
          have HLZ : Hid (B ≤ (wr.alloc (.cells #[.int .i64 (m : Int)] 3)).heap.size) := Lib.hid (by rw [World.size_alloc]; omega)
          have HO6 := Lib.hid (HOx.out.alloc (.cells #[.int .i64 (m : Int)] 3))
          have HW6 := Lib.hid (HBx.out.alloc HS (.cells #[.int .i64 (m : Int)] 3))
          clear HOx HBx HS HLS HE
          go_wp2_with (at_builtin; refine append_fn rfl _ _ rfl B _ (fun i => (hdA (lnB x) i : Nat)) i rfl HO6.out wr.heap.size (m : Int) HCL.out rfl HLC.out (by omega) HLZ.out ?_; intro v9 w9 h9 hg9; have HO9 := Lib.hid h9; have HW9 := Lib.hid (HW6.out.trans (spF.grow (Nat.le_refl _) HLZ.out HO6.out hg9)); clear h9 hg9)
          go_roundw
          case rel => exact ⟨i + 1, by omega, by go_num, HO9, HW9⟩
          case measure => simp [intOf]; omega
    · obtain rfl : i = n := by omega
      obtain ⟨tp, tc, rfl⟩ := spF_of HO.out
      have HN := Lib.hid (num10 (lnB x) (lnB_eq x) tp i tc h2 _ HO.out.rd)
      clear HO
      go_wp2_with fail
      refine HN.out.mono ?_
      rintro e w5 ⟨q2', c2', rfl, h1', h2'⟩
      have HF := Lib.hid h1'
      have HB5 : Hid (Below w.heap.size w w5) := Lib.hid (by
        have z1 := HZ1.out; have z2 := HG.out; have z3 := HZ.out
        have b1 := HB1.out; have b2 := HB8.out; have b3 := HB.out
        have s1 := b1.size; have s2 := b2.size; have s3 := b3.size
        rw [z2]
        exact (b1.trans (b2.mono (by omega))).trans ((b3.trans (h2'.mono (by omega))).mono (by omega)))
      clear h1' h2' HN
      go_wp2_with fail
      go_returns
      exact ⟨_, _, rfl, HF.out, HB5.out⟩
end Go.Proofs.Ytnoaejpabfnfpaa

namespace Go.Proofs.Ytnoaejpabfnfpaa

theorem nd_le : ∀ {A B : List Nat}, A.Nodup → (∀ x, x ∈ A → x ∈ B) → A.length ≤ B.length
  | [], _, _, _ => Nat.zero_le _
  | a :: A, B, h, hs => by
    rw [List.nodup_cons] at h
    have ha : a ∈ B := hs a (List.mem_cons_self ..)
    have h1 := nd_le (B := B.erase a) h.2 fun x hx => (List.mem_erase_of_ne (fun e => h.1 (by rw [← e]; exact hx))).2 (hs x (List.mem_cons_of_mem _ hx))
    rw [List.length_erase_of_mem ha] at h1
    have := List.length_pos_of_mem ha
    simp only [List.length_cons]; omega
theorem nd_all {A B : List Nat} (hA : A.Nodup) (hs : ∀ x, x ∈ A → x ∈ B) (hl : B.length ≤ A.length) {x : Nat} (hx : x ∈ B) : x ∈ A := by
  apply Classical.byContradiction
  intro h
  have := nd_le (A := x :: A) (B := B) (List.nodup_cons.2 ⟨h, hA⟩) fun y hy => by
    rcases List.mem_cons.1 hy with rfl | g
    · exact hx
    · exact hs y g
  simp only [List.length_cons] at this
  omega
def upd {α : Type} (f : Nat → α) (j : Nat) (u : α) : Nat → α := fun y => if y = j then u else f y
theorem upd_at {α : Type} (f : Nat → α) (j : Nat) (u : α) : upd f j u j = u := if_pos rfl
theorem upd_ne {α : Type} (f : Nat → α) {j y : Nat} (u : α) (h : y ≠ j) : upd f j u y = f y := if_neg h
theorem upd_eq {α : Type} (f : Nat → α) {j y : Nat} (u : α) (h : y = j) : upd f j u y = u := if_pos h

/-- The parts: how many blocks there are; the block of each state; each block's states; those of them that were told; which blocks wait. -/
structure Ps where
  nb : Nat
  blk : Nat → Nat
  S : Nat → List Nat
  T : Nat → List Nat
  W : Nat → Bool
  Q : List Nat
def addP (s : Ps) (l : List Nat) : Ps := { s with nb := s.nb + 1, S := upd s.S s.nb l, T := upd s.T s.nb [], W := upd s.W s.nb false }
def waitP (s : Ps) (b : Nat) : Ps := { s with W := upd s.W b true, Q := s.Q ++ [b] }
def setP (s : Ps) (l : List Nat) (k : Nat) : Ps := { s with blk := fun i => if i ∈ l then k else s.blk i }
def cutP (s : Ps) (b k : Nat) : Ps := { s with S := upd s.S b ((s.S b).filter fun i => !decide (s.blk i = k)) }
def midP (s : Ps) (b : Nat) (l : List Nat) : Ps := cutP (setP (addP s l) l s.nb) b s.nb
def whoP (s : Ps) (b k : Nat) (l : List Nat) : Nat := if (s.W b || decide (l.length < (s.S b).length)) = true then k else b
def partP (s : Ps) (b : Nat) (l : List Nat) : Ps := waitP (midP s b l) (whoP (midP s b l) b s.nb l)
def zerP (s : Ps) (b : Nat) : Ps := { s with T := upd s.T b [] }
/-- They are parts of n states. -/
structure okH (n : Nat) (s : Ps) : Prop where
  bl : ∀ i, i < n → s.blk i < s.nb
  sn : ∀ k, k < s.nb → (s.S k).Nodup
  sm : ∀ k, k < s.nb → ∀ i, i ∈ s.S k ↔ i < n ∧ s.blk i = k
  ne : ∀ k, k < s.nb → s.S k ≠ []
  qn : s.Q.Nodup
  qm : ∀ k, k ∈ s.Q ↔ k < s.nb ∧ s.W k = true
theorem okH.le {n : Nat} {s : Ps} (h : okH n s) : s.nb ≤ n := by
  have hm : ∀ k, k < s.nb → (s.S k).headD 0 ∈ s.S k := fun k hk => by
    cases e : s.S k with
    | nil => exact absurd e (h.ne k hk)
    | cons a A => exact List.mem_cons_self ..
  have h1 : ((List.range s.nb).map fun k => (s.S k).headD 0).Nodup := by
    unfold List.Nodup
    rw [List.pairwise_map]
    refine List.Pairwise.imp_of_mem (R := fun a b => a ≠ b) (fun {a b} ha hb hne e => hne ?_) List.nodup_range
    have ha' := List.mem_range.1 ha
    have hb' := List.mem_range.1 hb
    have e1 := ((h.sm a ha' _).1 (hm a ha')).2
    have e2 := ((h.sm b hb' _).1 (hm b hb')).2
    rw [e] at e1
    omega
  have h2 := nd_le (B := List.range n) h1 fun x hx => by
    obtain ⟨k, hk, rfl⟩ := List.mem_map.1 hx
    have hk' := List.mem_range.1 hk
    exact List.mem_range.2 ((h.sm k hk' _).1 (hm k hk')).1
  simpa using h2
theorem okH.len {n : Nat} {s : Ps} (h : okH n s) {k : Nat} (hk : k < s.nb) : (s.S k).length ≤ n := by
  have := nd_le (B := List.range n) (h.sn k hk) fun x hx => List.mem_range.2 ((h.sm k hk x).1 hx).1
  simpa using this
theorem okH.ql {n : Nat} {s : Ps} (h : okH n s) : s.Q.length ≤ n := by
  have := nd_le (B := List.range s.nb) h.qn fun x hx => List.mem_range.2 ((h.qm x).1 hx).1
  have h2 := h.le
  simp at this
  omega
theorem midP_S {s : Ps} {b : Nat} {l : List Nat} (hb : b < s.nb) (k : Nat) : (midP s b l).S k = if k = b then (s.S b).filter (fun i => !decide ((if i ∈ l then s.nb else s.blk i) = s.nb)) else if k = s.nb then l else s.S k := by
  show upd (upd s.S s.nb l) b ((upd s.S s.nb l b).filter fun i => !decide ((if i ∈ l then s.nb else s.blk i) = s.nb)) k = _
  rw [upd_ne s.S l (show b ≠ s.nb by omega)]
  rfl
theorem whoP_or (s : Ps) (b k : Nat) (l : List Nat) : whoP s b k l = k ∨ (whoP s b k l = b ∧ s.W b = false) := by
  unfold whoP
  split
  · exact .inl rfl
  · rename_i h
    refine .inr ⟨rfl, ?_⟩
    cases e : s.W b with
    | false => rfl
    | true => exact absurd (by rw [e]; rfl) h

section
variable {n : Nat} {s : Ps} {b : Nat} {l : List Nat}
theorem partP_ok (h : okH n s) (hb : b < s.nb) (hl : l.Nodup) (h0 : l ≠ []) (hlb : ∀ i, i ∈ l → i < n ∧ s.blk i = b) (hlt : l.length < (s.S b).length) : okH n (partP s b l) := by
  have hW : (midP s b l).W b = s.W b := upd_ne s.W false (show b ≠ s.nb by omega)
  have hwc := whoP_or (midP s b l) b s.nb l
  rw [hW] at hwc
  generalize hc : whoP (midP s b l) b s.nb l = c at hwc
  have hcq : c ∉ s.Q := fun g => by
    have := (h.qm c).1 g
    rcases hwc with rfl | ⟨rfl, e⟩
    · omega
    · rw [e] at this; cases this.2
  have hcn : c < s.nb + 1 := by rcases hwc with rfl | ⟨rfl, _⟩ <;> omega
  have eW : ∀ k, (partP s b l).W k = if k = c then true else if k = s.nb then false else s.W k := fun k => by
    show (waitP (midP s b l) (whoP (midP s b l) b s.nb l)).W k = _
    rw [hc]; rfl
  have eQ : (partP s b l).Q = s.Q ++ [c] := by
    show (waitP (midP s b l) (whoP (midP s b l) b s.nb l)).Q = _
    rw [hc]; rfl
  have eS : ∀ k, (partP s b l).S k = _ := fun k => midP_S (l := l) hb k
  have eB : ∀ i, (partP s b l).blk i = if i ∈ l then s.nb else s.blk i := fun i => rfl
  have eN : (partP s b l).nb = s.nb + 1 := rfl
  refine ⟨fun i hi => ?_, fun k hk => ?_, fun k hk i => ?_, fun k hk => ?_, ?_, fun k => ?_⟩
  · rw [eB, eN]
    have := h.bl i hi
    split <;> omega
  · rw [eS]
    split
    · exact List.Pairwise.filter _ (h.sn b hb)
    · split
      · exact hl
      · exact h.sn k (by rw [eN] at hk; omega)
  · rw [eS, eB]
    rw [eN] at hk
    by_cases e1 : k = b
    · subst e1
      rw [if_pos rfl, List.mem_filter, h.sm k hb]
      by_cases hi : i ∈ l
      · simp only [if_pos hi]
        simp
        omega
      · simp only [if_neg hi]
        constructor
        · rintro ⟨g, -⟩; exact g
        · intro g; exact ⟨g, by simp; omega⟩
    · rw [if_neg e1]
      by_cases e2 : k = s.nb
      · rw [if_pos e2]
        subst e2
        by_cases hi : i ∈ l
        · rw [if_pos hi]; exact ⟨fun _ => ⟨(hlb i hi).1, rfl⟩, fun _ => hi⟩
        · rw [if_neg hi]; exact ⟨fun g => absurd g hi, fun g => by have := h.bl i g.1; omega⟩
      · rw [if_neg e2, h.sm k (by omega)]
        by_cases hi : i ∈ l
        · rw [if_pos hi]
          have := (hlb i hi).2
          constructor
          · rintro ⟨_, g⟩; omega
          · rintro ⟨_, g⟩; omega
        · rw [if_neg hi]
  · rw [eS]
    rw [eN] at hk
    split
    · have hex : ∃ i, i ∈ s.S b ∧ i ∉ l := by
        apply Classical.byContradiction
        intro hno
        have := nd_le (B := l) (h.sn b hb) fun x hx => Classical.byContradiction fun g => hno ⟨x, hx, g⟩
        omega
      obtain ⟨i, g1, g2⟩ := hex
      intro e
      have : i ∈ (s.S b).filter (fun i => !decide ((if i ∈ l then s.nb else s.blk i) = s.nb)) := by
        rw [List.mem_filter]
        refine ⟨g1, ?_⟩
        rw [if_neg g2]
        have := ((h.sm b hb i).1 g1).2
        simp; omega
      rw [e] at this
      cases this
    · split
      · exact h0
      · exact h.ne k (by omega)
  · rw [eQ, List.nodup_append]
    refine ⟨h.qn, by simp, fun a ha d hd e => ?_⟩
    have : d = c := by simpa using hd
    subst this
    exact hcq (e ▸ ha)
  · rw [eQ, eW, eN, List.mem_append]
    by_cases e1 : k = c
    · rw [if_pos e1]
      exact ⟨fun _ => ⟨by omega, rfl⟩, fun _ => .inr (by simp [e1])⟩
    · rw [if_neg e1]
      have e3 : k ∈ [c] ↔ False := by simp [e1]
      rw [e3, or_false, h.qm k]
      by_cases e2 : k = s.nb
      · rw [if_pos e2]
        constructor
        · rintro ⟨g, _⟩; omega
        · rintro ⟨_, g⟩; cases g
      · rw [if_neg e2]
        constructor
        · rintro ⟨g1, g2⟩; exact ⟨by omega, g2⟩
        · rintro ⟨g1, g2⟩; exact ⟨by omega, g2⟩
theorem partP_W (hb : b < s.nb) : ((partP s b l).W b = true ∨ (partP s b l).W s.nb = true) ∧ (s.W b = true → (partP s b l).W s.nb = true) ∧ ∀ k, k < s.nb → s.W k = true → (partP s b l).W k = true := by
  have hW : (midP s b l).W b = s.W b := upd_ne s.W false (show b ≠ s.nb by omega)
  have hwc := whoP_or (midP s b l) b s.nb l
  rw [hW] at hwc
  generalize hc : whoP (midP s b l) b s.nb l = c at hwc
  have eW : ∀ k, (partP s b l).W k = if k = c then true else if k = s.nb then false else s.W k := fun k => by
    show (waitP (midP s b l) (whoP (midP s b l) b s.nb l)).W k = _
    rw [hc]; rfl
  refine ⟨?_, fun g => ?_, fun k hk g => ?_⟩
  · rcases hwc with rfl | ⟨rfl, _⟩
    · right; rw [eW, if_pos rfl]
    · left; rw [eW, if_pos rfl]
  · rcases hwc with rfl | ⟨rfl, e⟩
    · rw [eW, if_pos rfl]
    · rw [e] at g; cases g
  · rw [eW]
    split
    · rfl
    · rw [if_neg (by omega)]; exact g
end

/-- Behind the blocks D of those that some states are parted from. -/
structure dvI (n : Nat) (s : Ps) (so D : List Nat) (t : Ps) : Prop where
  ok : okH n t
  tl : ∀ k, t.T k = if k ∈ D then [] else so.filter (fun i => s.blk i == k)
  rf : ∀ i j, i < n → j < n → (t.blk i = t.blk j ↔ s.blk i = s.blk j ∧ (s.blk i ∈ D → (i ∈ so ↔ j ∈ so)))
  st : ∀ i, i < n → s.blk i ∉ D → t.blk i = s.blk i
  w1 : ∀ i j, i < n → j < n → s.blk i = s.blk j → t.blk i = t.blk j ∨ t.W (t.blk i) = true ∨ t.W (t.blk j) = true
  w2 : ∀ i, i < n → s.W (s.blk i) = true → t.W (t.blk i) = true
  nb : s.nb ≤ t.nb
  ms : 2 * (n - t.nb) + t.Q.length ≤ 2 * (n - s.nb) + s.Q.length
/-- Some states were told, each to its block. -/
def tolP (s : Ps) (so : List Nat) (j : Nat) : Ps := { s with T := fun k => (so.take j).filter fun i => s.blk i == k }
theorem tolP_zero {s : Ps} (so : List Nat) (h : ∀ k, s.T k = []) : tolP s so 0 = s := by
  have : s.T = fun k => (so.take 0).filter fun i => s.blk i == k := funext fun k => by rw [h k]; rfl
  unfold tolP
  rw [← this]
theorem tolP_next {s : Ps} {so : List Nat} {j x : Nat} (hx : so[j]? = some x) : tolP s so (j + 1) = { tolP s so j with T := upd (tolP s so j).T (s.blk x) ((tolP s so j).T (s.blk x) ++ [x]) } := by
  have ht : so.take (j + 1) = so.take j ++ [x] := by rw [List.take_add_one, hx]; rfl
  unfold tolP
  simp only
  congr 1
  funext k
  rw [ht, List.filter_append]
  unfold upd
  by_cases e : k = s.blk x
  · subst e
    rw [if_pos rfl]
    simp
  · rw [if_neg e]
    have : (s.blk x == k) = false := by simp; omega
    simp [this]
/-- The blocks of the first of some states. -/
def bkI (s : Ps) (so : List Nat) (j : Nat) (B : List Nat) : Prop := B.Nodup ∧ ∀ k, k ∈ B ↔ ∃ i, i ∈ so.take j ∧ s.blk i = k
theorem bkI_zero (s : Ps) (so : List Nat) : bkI s so 0 [] := ⟨List.nodup_nil, fun _ => ⟨fun h => (nomatch h), fun ⟨_, h, _⟩ => (nomatch h)⟩⟩
theorem bkI_test {s : Ps} {so : List Nat} {j : Nat} {B : List Nat} (h : bkI s so j B) (k : Nat) : (tolP s so j).T k = [] ↔ k ∉ B := by
  show (so.take j).filter (fun i => s.blk i == k) = [] ↔ _
  rw [h.2 k, List.filter_eq_nil_iff]
  constructor
  · rintro g ⟨i, hi, e⟩; exact g i hi (by simp [e])
  · intro g i hi e; exact g ⟨i, hi, by simpa using e⟩
theorem bkI_in {s : Ps} {so : List Nat} {j x : Nat} {B : List Nat} (h : bkI s so j B) (hx : so[j]? = some x) (hb : s.blk x ∈ B) : bkI s so (j + 1) B := by
  have ht : so.take (j + 1) = so.take j ++ [x] := by rw [List.take_add_one, hx]; rfl
  refine ⟨h.1, fun k => ?_⟩
  rw [ht]
  constructor
  · intro g
    obtain ⟨i, h1, h2⟩ := (h.2 k).1 g
    exact ⟨i, List.mem_append_left _ h1, h2⟩
  · rintro ⟨i, h1, h2⟩
    rcases List.mem_append.1 h1 with g | g
    · exact (h.2 k).2 ⟨i, g, h2⟩
    · have : i = x := by simpa using g
      subst this; exact h2 ▸ hb
theorem bkI_put {s : Ps} {so : List Nat} {j x : Nat} {B : List Nat} (h : bkI s so j B) (hx : so[j]? = some x) (hb : s.blk x ∉ B) : bkI s so (j + 1) (B ++ [s.blk x]) := by
  have ht : so.take (j + 1) = so.take j ++ [x] := by rw [List.take_add_one, hx]; rfl
  refine ⟨?_, fun k => ?_⟩
  · rw [List.nodup_append]
    refine ⟨h.1, by simp, fun a ha d hd e => ?_⟩
    have : d = s.blk x := by simpa using hd
    subst this
    exact hb (e ▸ ha)
  · rw [ht, List.mem_append, h.2 k]
    constructor
    · rintro (⟨i, h1, h2⟩ | g)
      · exact ⟨i, List.mem_append_left _ h1, h2⟩
      · have : k = s.blk x := by simpa using g
        exact ⟨x, by simp, this.symm⟩
    · rintro ⟨i, h1, h2⟩
      rcases List.mem_append.1 h1 with g | g
      · exact .inl ⟨i, g, h2⟩
      · have : i = x := by simpa using g
        subst this; exact .inr (by simp [h2])

section
variable {n : Nat} {s t : Ps} {so D : List Nat} {b : Nat}
theorem dvI_zero (h : okH n s) : dvI n s so [] (tolP s so so.length) where
  ok := ⟨h.bl, h.sn, h.sm, h.ne, h.qn, h.qm⟩
  tl k := by show (so.take so.length).filter _ = _; rw [List.take_length]; simp
  rf i j _ _ := ⟨fun e => ⟨e, fun g => (nomatch g)⟩, fun e => e.1⟩
  st _ _ _ := rfl
  w1 _ _ _ _ e := .inl e
  w2 _ _ e := e
  nb := Nat.le_refl _
  ms := Nat.le_refl _
theorem dvI.mem (h : dvI n s so D t) (hbD : b ∉ D) (i : Nat) : i ∈ t.T b ↔ i ∈ so ∧ s.blk i = b := by
  rw [h.tl b, if_neg hbD, List.mem_filter]
  simp
theorem dvI.keep (h : dvI n s so D t) (hbD : b ∉ D) (hb : b < s.nb) (hso : so.Nodup) (hsn : ∀ i, i ∈ so → i < n) (hge : ¬ (t.T b).length < (t.S b).length) : dvI n s so (D ++ [b]) (zerP t b) := by
  have hall : ∀ i, i < n → s.blk i = b → i ∈ so := fun i hi e => by
    have h1 : i ∈ t.S b := (h.ok.sm b (Nat.lt_of_lt_of_le hb h.nb) i).2 ⟨hi, (h.st i hi (e.symm ▸ hbD)).trans e⟩
    have h2 : i ∈ t.T b := nd_all (A := t.T b) (B := t.S b) (by rw [h.tl b, if_neg hbD]; exact List.Pairwise.filter _ hso) (fun x hx => by
      obtain ⟨g1, g2⟩ := (h.mem hbD x).1 hx
      exact (h.ok.sm b (Nat.lt_of_lt_of_le hb h.nb) x).2 ⟨hsn x g1, (h.st x (hsn x g1) (g2.symm ▸ hbD)).trans g2⟩) (by omega) h1
    exact ((h.mem hbD i).1 h2).1
  refine ⟨⟨h.ok.bl, h.ok.sn, h.ok.sm, h.ok.ne, h.ok.qn, h.ok.qm⟩, fun k => ?_, fun i j hi hj => ?_, fun i hi g => h.st i hi fun g2 => g (List.mem_append_left _ g2), h.w1, h.w2, h.nb, h.ms⟩
  · show upd t.T b [] k = _
    by_cases e : k = b
    · subst e; rw [upd_at, if_pos (by simp)]
    · rw [upd_ne _ _ e, h.tl k]
      have : k ∈ D ++ [b] ↔ k ∈ D := by simp [e]
      simp only [this]
  · show t.blk i = t.blk j ↔ _
    rw [h.rf i j hi hj]
    constructor
    · rintro ⟨g1, g2⟩
      refine ⟨g1, fun g => ?_⟩
      rcases List.mem_append.1 g with g | g
      · exact g2 g
      · have e : s.blk i = b := by simpa using g
        exact ⟨fun _ => hall j hj (g1 ▸ e), fun _ => hall i hi e⟩
    · rintro ⟨g1, g2⟩
      exact ⟨g1, fun g => g2 (List.mem_append_left _ g)⟩
theorem dvI.part (hs : okH n s) (h : dvI n s so D t) (hbD : b ∉ D) (hb : b < s.nb) (hso : so.Nodup) (hsn : ∀ i, i ∈ so → i < n) (h0 : t.T b ≠ []) (hlt : (t.T b).length < (t.S b).length) : dvI n s so (D ++ [b]) (zerP (partP t b (t.T b)) b) := by
  have hbt : b < t.nb := Nat.lt_of_lt_of_le hb h.nb
  have hm := h.mem hbD
  have hn : (t.T b).Nodup := by rw [h.tl b, if_neg hbD]; exact List.Pairwise.filter _ hso
  have htl : ∀ i, i ∈ t.T b → i < n ∧ t.blk i = b := fun i hi => by
    obtain ⟨g1, g2⟩ := (hm i).1 hi
    exact ⟨hsn i g1, (h.st i (hsn i g1) (g2.symm ▸ hbD)).trans g2⟩
  have hok := partP_ok h.ok hbt hn h0 htl hlt
  obtain ⟨q1, q2, q3⟩ := partP_W (s := t) (b := b) (l := t.T b) hbt
  have hlen : (partP t b (t.T b)).Q.length = t.Q.length + 1 := by
    show (t.Q ++ [_]).length = _
    simp
  have htz : ∀ k, (partP t b (t.T b)).T k = upd t.T t.nb [] k := fun _ => rfl
  have hbl : ∀ i, (partP t b (t.T b)).blk i = if i ∈ t.T b then t.nb else t.blk i := fun _ => rfl
  have hnb : (partP t b (t.T b)).nb = t.nb + 1 := rfl
  generalize partP t b (t.T b) = u at hok q1 q2 q3 hlen htz hbl hnb
  generalize hl : t.T b = l at hm hn htl hbl h0 hlt
  refine ⟨⟨hok.bl, hok.sn, hok.sm, hok.ne, hok.qn, hok.qm⟩, fun k => ?_, fun i j hi hj => ?_, fun i hi g => ?_, fun i j hi hj e => ?_, fun i hi g => ?_, ?_, ?_⟩
  · show upd u.T b [] k = _
    by_cases e : k = b
    · subst e; rw [upd_at, if_pos (by simp)]
    · rw [upd_ne _ _ e, htz]
      have hkD : k ∈ D ++ [b] ↔ k ∈ D := by simp [e]
      simp only [hkD]
      by_cases e2 : k = t.nb
      · rw [upd_eq _ _ e2]
        split
        · rfl
        · symm
          rw [List.filter_eq_nil_iff]
          intro i hi g
          have := hs.bl i (hsn i hi)
          have := h.nb
          have : s.blk i = k := by simpa using g
          omega
      · rw [upd_ne _ _ e2]; exact h.tl k
  · show u.blk i = u.blk j ↔ _
    rw [hbl, hbl]
    have b1 := h.ok.bl i hi
    have b2 := h.ok.bl j hj
    by_cases e1 : i ∈ l <;> by_cases e2 : j ∈ l
    · rw [if_pos e1, if_pos e2]
      obtain ⟨g1, g2⟩ := (hm i).1 e1
      obtain ⟨g3, g4⟩ := (hm j).1 e2
      exact ⟨fun _ => ⟨g2.trans g4.symm, fun _ => ⟨fun _ => g3, fun _ => g1⟩⟩, fun _ => rfl⟩
    · rw [if_pos e1, if_neg e2]
      obtain ⟨g1, g2⟩ := (hm i).1 e1
      refine ⟨fun g => by omega, fun ⟨g3, g4⟩ => absurd ((hm j).2 ⟨(g4 (by simp [g2])).1 g1, g3 ▸ g2⟩) e2⟩
    · rw [if_neg e1, if_pos e2]
      obtain ⟨g1, g2⟩ := (hm j).1 e2
      refine ⟨fun g => by omega, fun ⟨g3, g4⟩ => absurd ((hm i).2 ⟨(g4 (by simp [g3, g2])).2 g1, g3.trans g2⟩) e1⟩
    · rw [if_neg e1, if_neg e2, h.rf i j hi hj]
      constructor
      · rintro ⟨g1, g2⟩
        refine ⟨g1, fun g => ?_⟩
        rcases List.mem_append.1 g with g | g
        · exact g2 g
        · have e : s.blk i = b := by simpa using g
          exact ⟨fun k => absurd ((hm i).2 ⟨k, e⟩) e1, fun k => absurd ((hm j).2 ⟨k, g1 ▸ e⟩) e2⟩
      · rintro ⟨g1, g2⟩
        exact ⟨g1, fun g => g2 (List.mem_append_left _ g)⟩
  · show u.blk i = _
    have hni : i ∉ l := fun e => g (by rw [((hm i).1 e).2]; simp)
    rw [hbl, if_neg hni]
    exact h.st i hi fun g2 => g (List.mem_append_left _ g2)
  · show u.blk i = u.blk j ∨ u.W (u.blk i) = true ∨ u.W (u.blk j) = true
    rw [hbl, hbl]
    by_cases e1 : i ∈ l <;> by_cases e2 : j ∈ l
    · rw [if_pos e1, if_pos e2]; exact .inl rfl
    · rw [if_pos e1, if_neg e2]
      have g2 := ((hm i).1 e1).2
      have g3 : t.blk j = b := (h.st j hj (by rw [← e, g2]; exact hbD)).trans (e ▸ g2)
      rw [g3]
      exact q1.elim (fun g => .inr (.inr g)) fun g => .inr (.inl g)
    · rw [if_neg e1, if_pos e2]
      have g2 := ((hm j).1 e2).2
      have g3 : t.blk i = b := (h.st i hi (by rw [e, g2]; exact hbD)).trans (e ▸ g2)
      rw [g3]
      exact q1.elim (fun g => .inr (.inl g)) fun g => .inr (.inr g)
    · rw [if_neg e1, if_neg e2]
      exact (h.w1 i j hi hj e).imp id fun g => g.imp (q3 _ (h.ok.bl i hi)) (q3 _ (h.ok.bl j hj))
  · show u.W (u.blk i) = true
    have h1 := h.w2 i hi g
    rw [hbl]
    by_cases e1 : i ∈ l
    · rw [if_pos e1]
      rw [(htl i e1).2] at h1
      exact q2 h1
    · rw [if_neg e1]
      exact q3 _ (h.ok.bl i hi) h1
  · show s.nb ≤ u.nb
    have := h.nb; omega
  · show 2 * (n - u.nb) + u.Q.length ≤ _
    have h1 := h.ms
    have h2 := hok.le
    omega
/-- Some states are parted from all others. -/
structure dvE (n : Nat) (s : Ps) (so : List Nat) (t : Ps) : Prop where
  ok : okH n t
  tz : ∀ k, t.T k = []
  rf : ∀ i j, i < n → j < n → (t.blk i = t.blk j ↔ s.blk i = s.blk j ∧ (i ∈ so ↔ j ∈ so))
  w1 : ∀ i j, i < n → j < n → s.blk i = s.blk j → t.blk i = t.blk j ∨ t.W (t.blk i) = true ∨ t.W (t.blk j) = true
  w2 : ∀ i, i < n → s.W (s.blk i) = true → t.W (t.blk i) = true
  ms : 2 * (n - t.nb) + t.Q.length ≤ 2 * (n - s.nb) + s.Q.length
theorem dvI.end (h : dvI n s so D t) (hD : bkI s so so.length D) : dvE n s so t := by
  have hD2 : ∀ i, i ∈ so → s.blk i ∈ D := fun i hi => (hD.2 _).2 ⟨i, by rw [List.take_length]; exact hi, rfl⟩
  refine ⟨h.ok, fun k => ?_, fun i j hi hj => ?_, h.w1, h.w2, h.ms⟩
  · rw [h.tl k]
    split
    · rfl
    · rename_i g
      rw [List.filter_eq_nil_iff]
      intro i hi e
      have : s.blk i = k := by simpa using e
      exact g (this ▸ hD2 i hi)
  · rw [h.rf i j hi hj]
    constructor
    · rintro ⟨g1, g2⟩
      refine ⟨g1, ⟨fun g => (g2 (hD2 i g)).1 g, fun g => (g2 (g1 ▸ hD2 j g)).2 g⟩⟩
    · rintro ⟨g1, g2⟩; exact ⟨g1, fun _ => g2⟩
end

/-- Where the dividing stands: R has the symbols by which what goes to A is yet to be parted. -/
structure hpI (x : Da) (s : Ps) (R : Nat → Prop) (A : List Nat) : Prop where
  ok : okH x.n2 s
  tz : ∀ k, s.T k = []
  fi : ∀ i j, i < x.n2 → j < x.n2 → s.blk i = s.blk j → x.T i = x.T j
  co : ∀ i j, i < x.n2 → j < x.n2 → lnW x i = lnW x j → s.blk i = s.blk j
  hp : ∀ i j y, i < x.n2 → j < x.n2 → y < 259 → s.blk i = s.blk j → s.blk (goD x i y) = s.blk (goD x j y) ∨ s.W (s.blk (goD x i y)) = true ∨ s.W (s.blk (goD x j y)) = true ∨ (R y ∧ ¬ (goD x i y ∈ A ↔ goD x j y ∈ A))
  ca : ∀ i j, i < x.n2 → j < x.n2 → lnW x i = lnW x j → (i ∈ A ↔ j ∈ A)
/-- All states in one block. -/
def oneP (n : Nat) : Ps := ⟨1, fun _ => 0, upd (fun _ => []) 0 (List.range n), fun _ => [], fun _ => false, []⟩
theorem oneP_ok {n : Nat} (h : 1 ≤ n) : okH n (oneP n) where
  bl _ _ := Nat.zero_lt_one
  sn k hk := by
    have : k = 0 := by have : k < 1 := hk; omega
    subst this
    exact List.nodup_range
  sm k hk i := by
    have : k = 0 := by have : k < 1 := hk; omega
    subst this
    show i ∈ List.range n ↔ _
    rw [List.mem_range]
    exact ⟨fun h => ⟨h, rfl⟩, fun h => h.1⟩
  ne k hk := by
    have : k = 0 := by have : k < 1 := hk; omega
    subst this
    show List.range n ≠ []
    intro e
    have := congrArg List.length e
    simp at this
    omega
  qn := List.nodup_nil
  qm k := ⟨fun h => (nomatch h), fun h => (nomatch h.2)⟩
section
variable {x : Da} {s t : Ps} {R : Nat → Prop} {A so : List Nat}
theorem hpI_start (hx : rgD x) (h : dvE x.n2 (oneP x.n2) so t) (hso : ∀ i, i ∈ so ↔ i < x.n2 ∧ x.T i = true) : hpI x t (fun _ => False) [] where
  ok := h.ok
  tz := h.tz
  fi i j hi hj e := by
    have := ((h.rf i j hi hj).1 e).2
    rw [hso, hso] at this
    rw [Bool.eq_iff_iff]
    exact ⟨fun g => (this.1 ⟨hi, g⟩).2, fun g => (this.2 ⟨hj, g⟩).2⟩
  co i j hi hj e := by
    have := lnW_T e
    rw [h.rf i j hi hj, hso, hso, this]
    exact ⟨rfl, ⟨fun g => ⟨hj, g.2⟩, fun g => ⟨hi, g.2⟩⟩⟩
  hp i j y hi hj hy _ := (h.w1 _ _ (goD_at hx hi hy).2.2 (goD_at hx hj hy).2.2 rfl).imp id fun g => g.imp id .inl
  ca _ _ _ _ _ := ⟨fun h => (nomatch h), fun h => (nomatch h)⟩
/-- A block that waits is taken. -/
def tkP (s : Ps) (b : Nat) (Q : List Nat) : Ps := { s with W := upd s.W b false, Q := Q }
theorem hpI_take {b : Nat} {Q : List Nat} (h : hpI x s (fun _ => False) A) (hx : rgD x) (hQ : s.Q = Q ++ [b]) : hpI x (tkP s b Q) (fun _ => True) (s.S b) := by
  have hqn := h.ok.qn
  rw [hQ, List.nodup_append] at hqn
  have hbQ : b ∉ Q := fun g => hqn.2.2 b g b (by simp) rfl
  have hb : b < s.nb ∧ s.W b = true := (h.ok.qm b).1 (by rw [hQ]; simp)
  have hS := h.ok.sm b hb.1
  refine ⟨⟨h.ok.bl, h.ok.sn, h.ok.sm, h.ok.ne, hqn.1, fun k => ?_⟩, h.tz, h.fi, h.co, fun i j y hi hj hy e => ?_, fun i j hi hj e => ?_⟩
  · show k ∈ Q ↔ k < s.nb ∧ upd s.W b false k = true
    by_cases e : k = b
    · subst e
      rw [upd_at]
      exact ⟨fun g => absurd g hbQ, fun g => (nomatch g.2)⟩
    · rw [upd_ne _ _ e, ← h.ok.qm k, hQ]
      simp [e]
  · show s.blk (goD x i y) = s.blk (goD x j y) ∨ upd s.W b false (s.blk (goD x i y)) = true ∨ upd s.W b false (s.blk (goD x j y)) = true ∨ (True ∧ ¬ (goD x i y ∈ s.S b ↔ goD x j y ∈ s.S b))
    have li := (goD_at hx hi hy).2.2
    have lj := (goD_at hx hj hy).2.2
    rw [hS, hS]
    by_cases e1 : s.blk (goD x i y) = b <;> by_cases e2 : s.blk (goD x j y) = b
    · exact .inl (e1.trans e2.symm)
    · exact .inr (.inr (.inr ⟨trivial, fun g => e2 (g.1 ⟨li, e1⟩).2⟩))
    · exact .inr (.inr (.inr ⟨trivial, fun g => e1 (g.2 ⟨lj, e2⟩).2⟩))
    · rw [upd_ne _ _ e1, upd_ne _ _ e2]
      rcases h.hp i j y hi hj hy e with g | g | g | g
      · exact .inl g
      · exact .inr (.inl g)
      · exact .inr (.inr (.inl g))
      · exact absurd g.1 id
  · rw [hS, hS, h.co i j hi hj e]
    exact ⟨fun g => ⟨hj, g.2⟩, fun g => ⟨hi, g.2⟩⟩
theorem hpI_div {c : Nat} (h : hpI x s R A) (hx : rgD x) (hc : c < 259) (hso : ∀ i, i ∈ so ↔ i < x.n2 ∧ goD x i c ∈ A) (hd : dvE x.n2 s so t) : hpI x t (fun y => R y ∧ x.l0 y ≠ x.l0 c) A := by
  refine ⟨hd.ok, hd.tz, fun i j hi hj e => h.fi i j hi hj ((hd.rf i j hi hj).1 e).1, fun i j hi hj e => ?_, fun i j y hi hj hy e => ?_, h.ca⟩
  · rw [hd.rf i j hi hj]
    refine ⟨h.co i j hi hj e, ?_⟩
    rw [hso, hso, h.ca _ _ (goD_at hx hi hc).2.2 (goD_at hx hj hc).2.2 (lnW_same e hc)]
    exact ⟨fun g => ⟨hj, g.2⟩, fun g => ⟨hi, g.2⟩⟩
  · obtain ⟨g1, g2⟩ := (hd.rf i j hi hj).1 e
    have li := (goD_at hx hi hy).2.2
    have lj := (goD_at hx hj hy).2.2
    rcases h.hp i j y hi hj hy g1 with g | g | g | ⟨g3, g4⟩
    · exact (hd.w1 _ _ li lj g).imp id fun k => k.imp id .inl
    · exact .inr (.inl (hd.w2 _ li g))
    · exact .inr (.inr (.inl (hd.w2 _ lj g)))
    · refine .inr (.inr (.inr ⟨⟨g3, fun k => ?_⟩, g4⟩))
      have e1 : goD x i y = goD x i c := by unfold goD; rw [k]
      have e2 : goD x j y = goD x j c := by unfold goD; rw [k]
      rw [hso, hso] at g2
      rw [e1, e2] at g4
      exact g4 ⟨fun k => (g2.1 ⟨hi, k⟩).2, fun k => (g2.2 ⟨hj, k⟩).2⟩
theorem hpI_round (h : hpI x s R A) (hR : ∀ y, y < 259 → ¬ R y) : hpI x s (fun _ => False) A :=
  ⟨h.ok, h.tz, h.fi, h.co, fun i j y hi hj hy e => (h.hp i j y hi hj hy e).imp id fun g => g.imp id fun g => g.imp id fun g => absurd g.1 (hR y hy), h.ca⟩
theorem hpI_run (h : hpI x s (fun _ => False) A) (hx : rgD x) (hQ : s.Q = []) : ∀ (w : List Nat) (i j : Nat), okw w → i < x.n2 → j < x.n2 → s.blk i = s.blk j → x.T (runW x i w) = x.T (runW x j w)
  | [], i, j, _, hi, hj, e => h.fi i j hi hj e
  | y :: w, i, j, hw, hi, hj, e => by
    rw [okw_cons] at hw
    rw [runW_cons, runW_cons]
    have li := (goD_at hx hi hw.1).2.2
    have lj := (goD_at hx hj hw.1).2.2
    have hno : ∀ k, k < s.nb → s.W k = true → False := fun k hk g => by
      have := (h.ok.qm k).2 ⟨hk, g⟩
      rw [hQ] at this; cases this
    refine hpI_run h hx hQ w _ _ hw.2 li lj ?_
    rcases h.hp i j y hi hj hw.1 e with g | g | g | g
    · exact g
    · exact absurd g (hno _ (h.ok.bl _ li))
    · exact absurd g (hno _ (h.ok.bl _ lj))
    · exact absurd g.1 id
/-- Where none waits, the blocks' states are alike, and no others. -/
theorem hpI_end (h : hpI x s (fun _ => False) A) (hx : rgD x) (hQ : s.Q = []) {i j : Nat} (hi : i < x.n2) (hj : j < x.n2) : s.blk i = s.blk j ↔ lnW x i = lnW x j := by
  refine ⟨fun e => ?_, h.co i j hi hj⟩
  funext w
  apply propext
  unfold lnW
  constructor
  · rintro ⟨h1, h2⟩; exact ⟨h1, (hpI_run h hx hQ w i j h1 hi hj e) ▸ h2⟩
  · rintro ⟨h1, h2⟩; exact ⟨h1, (hpI_run h hx hQ w i j h1 hi hj e).symm ▸ h2⟩
end
theorem hdA_on {R R' : Nat → Nat → Bool} {x : Nat} (h : ∀ k, k < x → R k x = R' k x) : hdA R x = hdA R' x := by
  unfold hdA
  have : ∀ m, m ≤ x → (List.range m).find? (fun k => R k x) = (List.range m).find? (fun k => R' k x) := by
    intro m
    induction m with
    | zero => intro _; rfl
    | succ m ih =>
      intro hm
      rw [List.range_succ, List.find?_append, List.find?_append, ih (by omega)]
      congr 1
      simp only [List.find?_cons, List.find?_nil]
      rw [h m (by omega)]
  rw [this x (Nat.le_refl _)]
theorem cntT_on {T T' : Nat → Bool} {m : Nat} (h : ∀ q, q < m → T q = T' q) : cntT T m = cntT T' m := by
  unfold cntT
  congr 1
  exact List.filter_congr fun q hq => h q (List.mem_range.1 hq)
theorem cla_on {R R' : Nat → Nat → Bool} {n : Nat} (h : ∀ i k, i < n → k < n → R i k = R' i k) : (∀ j, j < n → clA R j = clA R' j) ∧ cntT (isH R) n = cntT (isH R') n := by
  have h1 : ∀ j, j < n → hdA R j = hdA R' j := fun j hj => hdA_on fun k hk => h k j (by omega) hj
  have h2 : ∀ j, j < n → isH R j = isH R' j := fun j hj => by unfold isH; rw [h1 j hj]
  refine ⟨fun j hj => ?_, cntT_on h2⟩
  unfold clA
  rw [h1 j hj]
  have := hdA_le R' j
  exact cntT_on fun q hq => h2 q (by omega)
end Go.Proofs.Ytnoaejpabfnfpaa
