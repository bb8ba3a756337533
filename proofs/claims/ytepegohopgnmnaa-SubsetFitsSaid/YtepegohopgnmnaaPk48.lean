/-
  The walks of the laws SubsetBuilds and SubsetCounts, over whatever Build and Count are that do as the page says.
  A slice of nodes that comes in as an argument, opened: the nodes that its cells are, their words such as words may be.
  An automaton that comes in as an argument, opened: its states are such as its cells are.
  The walk of the law SubsetCounts, over whatever Build and Count are that do as the page says.
-/
import Derived.Test.YtepegohopgnmnaaPk44
import Derived.Test.YtepegohopgnmnaaPk47
import Derived.Test.YtepegohopgnmnaaPk17
import Derived.Test.YtepegohopgnmnaaPk7
import Derived.Test.YtepegohopgnmnaaRows
import Derived.Test.YtepegohopgnmnaaPk4
import Derived.Test.YtepegohopgnmnaaPk3
import Derived.ProofKit
import Derived.OpenShut
import Derived.Below
import Derived.Laws.IdiomArrays
import Derived.Lib.SmallJoins
import Derived.Deep.Slices
import Derived.ChangeSame
import Derived.Test.YtepegohopgnmnaaPk6
namespace Go.Proofs.Ytepegohopgnmnaa
open Go.RowKit

set_option maxRecDepth 100000 in
set_option maxHeartbeats 4000000 in
theorem small11 (p : Option Addr) (n cap : Nat) (st fin : Int) (r : Bool) (hr : r = decide ((n : Int) ≤ 40)) (w : World) : Calls Try.prog 7 #[nfV p n cap st fin] w fun e w' => e = .returned (.bool r) ∧ Below w.heap.size w w' := by
  have HB : Hid (Below w.heap.size w (w.alloc (.cells #[.slice p n cap, .int .i64 st, .int .i64 fin] 24))) := Lib.hid ((Below.refl _ _).alloc (Nat.le_refl _) _)
  have h0 : (0 : Int) ≤ (n : Int) := by omega
  cases r
  · have h1 := hr.symm
    clear hr
    go_enter Try.func7, Try.ntmps7
    go_wp2_with fail
    go_returns
    exact ⟨rfl, HB.out⟩
  · have h1 := hr.symm
    clear hr
    go_enter Try.func7, Try.ntmps7
    go_wp2_with fail
    go_returns
    exact ⟨rfl, HB.out⟩

set_option maxRecDepth 100000 in
set_option maxHeartbeats 8000000 in
theorem builds_any (hB : SubC) (hC : CntC) (p : Option Addr) (n cap : Nat) (S : Nat → Sd) (st fin most : Int) (w : World) (hS : n ≤ 40 → stsAt w p n S) (hw : n ≤ 40 → ∀ q, q < n → okWs (S q)) :
    Calls Try.prog 3 #[nfV p n cap st fin, .int .i64 most] w fun e w' => e = .returned (.bool true) ∧ Below w.heap.size w w' := by
  obtain ⟨D, hD⟩ : ∃ D, w.heap.size = D := ⟨_, rfl⟩
  obtain ⟨w1, hw1⟩ : ∃ w1, w.alloc (.cells #[.slice p n cap, .int .i64 st, .int .i64 fin] 24) = w1 := ⟨_, rfl⟩
  have hz1 : w1.heap.size = D + 1 := by rw [← hw1, World.size_alloc, hD]
  have hb1 : Below D w w1 := hw1 ▸ (Below.refl _ _).alloc (by omega) _
  have hn1 : is3 24 w1 D (.slice p n cap) st fin := hw1 ▸ hD ▸ is3.new 24 w (.slice p n cap) st fin
  have HN := Lib.hid (fun w' (h : Below (D + 1) w1 w') => hn1.below h (Nat.lt_succ_self D))
  have HAw := Lib.hid (awake11 hB hC)
  have HW1 := Lib.hid hw1; have HB1 := Lib.hid hb1; have HG := Lib.hid hD; have HZ := Lib.hid hz1
  have HSm := Lib.hid (fun r hr w => small11 p n cap st fin r hr w)
  by_cases hgo : n ≤ 40 ∧ most ≤ 40
  · have hst := hS hgo.1
    have HS := Lib.hid (fun w' (h : Below (D + 1) w1 w') => show stsAt w' p n S from ⟨hst.1, fun b off e => (hst.2 b off e).below (hD.symm ▸ hb1.trans (h.mono (Nat.le_succ D)))⟩)
    have HOK := Lib.hid (hw hgo.1)
    have d1 : decide ((n : Int) ≤ 40) = true := decide_eq_true (by omega)
    have d2 : decide ((40 : Int) < most) = false := decide_eq_false (by omega)
    have HSm1 := Lib.hid (HSm.out true d1.symm)
    have HBd := Lib.hid (fun w' (h : Below (D + 1) w1 w') => hB p n cap S st fin most w' (by omega) (by omega) (HS.out w' h) HOK.out)
    have HRt := Lib.hid (fun w' (h : Below (D + 1) w1 w') => rright9_is p n cap S st fin (by omega) w' (HS.out w' h).1 (HS.out w' h).2)
    clear hw1 hb1 hn1 hB hC hS hw hst HSm hz1 d1
    go_enter Try.func3, Try.ntmps3
    go_upto_region 1 with (fail)
    rw [HW1.out]
    go_wp2_with fail
    refine (HAw.out _).mono ?_
    rintro e w2 ⟨rfl, hb2⟩
    have HB2 : Hid (Below (D + 1) w1 w2) := Lib.hid (HZ.out ▸ hb2)
    obtain ⟨z0, z1, z2⟩ := (HN.out _ HB2.out).cells
    clear hb2 HAw hD
    go_wp2_with fail
    refine (HSm1.out _).mono ?_
    rintro e w3 ⟨rfl, hb3⟩
    have HB3 : Hid (Below (D + 1) w1 w3) := Lib.hid (HB2.out.trans (hb3.mono (by have := HB2.out.size; have := HZ.out; omega)))
    clear hb3 z0 z1 z2 HSm1 HB2
    obtain ⟨z0, z1, z2⟩ := (HN.out _ HB3.out).cells
    go_wp2_with fail
    refine (HBd.out _ HB3.out).mono ?_
    rintro e w4 ⟨hno, hmany, hyes⟩
    by_cases hr : rightP S n st fin
    · skip
      obtain ⟨b, off, rfl⟩ : ∃ b off, p = some ⟨b, off, none⟩ := by
        rcases (HS.out _ (Below.refl _ _)).1 with h | h
        · have := hr.1; omega
        · exact h
      obtain ⟨F, rfl⟩ : ∃ F : Nat, fin = F := ⟨fin.toNat, by have := hr.1; omega⟩
      have HRB := Lib.hid (fun w' (h : Below (D + 1) w1 w') => rbuild11 b off n cap S st F most (by omega) (by have := hr.1; omega) (by have := hr.1; omega) (right_rng hr) HOK.out (by omega) w' ((HS.out w' h).2 b off rfl))
      have hdr : decide (rightP S n st F) = true := decide_eq_true hr
      by_cases hmm : most < ((subM S n st most).1.length : Int)
      · obtain ⟨q0, c0, s0, q1, c1, q2, c2, rfl, hb4⟩ := hmany hr hmm
        obtain ⟨w5, hw5⟩ : ∃ w5, w4.alloc (.cells #[.slice q0 0 c0, .int .i64 0, .int .i64 s0, .slice q1 0 c1, .slice q2 0 c2] 30) = w5 := ⟨_, rfl⟩
        have hb5 : Below w4.heap.size w4 w5 := hw5 ▸ (Below.refl _ _).alloc (Nat.le_refl _) _
        have HD5 : Hid (isDf w5 w4.heap.size q0 0 c0 0 s0 q1 0 c1 q2 0 c2) := Lib.hid (hw5 ▸ heap_alloc_new w4 _)
        have HB4 : Hid (Below (D + 1) w1 w4) := Lib.hid (HB3.out.trans (hb4.mono (by have := HB3.out.size; have := HZ.out; omega)))
        have HB5 : Hid (Below (D + 1) w1 w5) := Lib.hid (HB4.out.trans (hb5.mono (by have := HB4.out.size; have := HZ.out; omega)))
        have HW5 := Lib.hid hw5
        clear hno hmany hyes hb4 hb5 hw5 z0 z1 z2 HBd
        go_upto_region 6 with (fail)
        rw [HW5.out]
        obtain ⟨z0, z1, z2⟩ := (HN.out _ HB5.out).cells
        go_wp2_with fail
        have HR5 := Lib.hid (HRt.out _ HB5.out)
        rw [hdr] at HR5
        refine HR5.out.mono ?_
        rintro e w6 ⟨rfl, hb6⟩
        have HB6 : Hid (Below (D + 1) w1 w6) := Lib.hid (HB5.out.trans (hb6.mono (by have := HB5.out.size; have := HZ.out; omega)))
        have hd6 := HD5.out.below hb6 HD5.out.lt
        have HD6 := Lib.hid hd6
        obtain ⟨y0, y1, y2⟩ := (HN.out _ HB6.out).cells
        clear z0 z1 z2 hd6 hdr HR5
        go_wp2_with fail
        refine (HRB.out _ HB6.out).mono ?_
        rintro e w7 ⟨hr1, hr2⟩
        obtain ⟨rfl, hb7⟩ := hr1 hmm
        clear hr1 hr2 y0 y1 y2
        have HD7 := Lib.hid (HD6.out.below hb7 HD6.out.lt)
        obtain ⟨w8, hw8⟩ : ∃ w8, w7.alloc (.cells #[.slice none 0 0, .int .i64 0, .int .i64 0, .slice none 0 0, .slice none 0 0] 30) = w8 := ⟨_, rfl⟩
        have hb8 : Below w7.heap.size w7 w8 := hw8 ▸ (Below.refl _ _).alloc (Nat.le_refl _) _
        have hd8 := HD7.out.below hb8 HD7.out.lt
        obtain ⟨k0, k1, k2, k3, k4⟩ := hd8.cells
        have HF : Hid (Below w.heap.size w w8) := Lib.hid (HG.out.symm ▸ HB1.out.trans ((HB6.out.trans ((hb7.trans (hb8.mono hb7.size)).mono (by have := HB6.out.size; have := HZ.out; omega))).mono (Nat.le_succ D)))
        have HW8 := Lib.hid hw8
        clear hb7 hb8 hd8 hw8 HD6 HD7 HB6 HRB
        go_upto_region 9 with (fail)
        rw [HW8.out]
        go_wp2_with fail
        go_returns
        exact ⟨rfl, HF.out⟩
      · obtain ⟨d, rfl, q0, c0, q1, n1, c1, q2, n2, c2, l0, l1, T, rfl, h0, e0, hn1, h1, e1, hn2, h2, eT, hb4⟩ := hyes hr (by omega)
        obtain ⟨Wd, hWd⟩ : ∃ Wd, wdY S n = Wd := ⟨_, rfl⟩
        have HWd := Lib.hid hWd
        rw [hWd]
        obtain ⟨w5, hw5⟩ : ∃ w5, w4.alloc (.cells #[.slice q0 259 c0, .int .i64 (Wd : Int), .int .i64 0, .slice q1 n1 c1, .slice q2 n2 c2] 30) = w5 := ⟨_, rfl⟩
        have hb5 : Below w4.heap.size w4 w5 := hw5 ▸ (Below.refl _ _).alloc (Nat.le_refl _) _
        have HD5 : Hid (isDf w5 w4.heap.size q0 259 c0 (Wd : Int) 0 q1 n1 c1 q2 n2 c2) := Lib.hid (hw5 ▸ heap_alloc_new w4 _)
        have HB4 : Hid (Below (D + 1) w1 w4) := Lib.hid (HB3.out.trans (hb4.mono (by have := HB3.out.size; have := HZ.out; omega)))
        have HB5 : Hid (Below (D + 1) w1 w5) := Lib.hid (HB4.out.trans (hb5.mono (by have := HB4.out.size; have := HZ.out; omega)))
        have HW5 := Lib.hid hw5
        have H0 := Lib.hid (h0.below hb5); have H1 := Lib.hid (h1.below hb5); have H2 := Lib.hid (h2.below hb5)
        have E0 := Lib.hid e0; have E1 := Lib.hid e1; have ET := Lib.hid eT; have HN1 := Lib.hid hn1; have HN2 := Lib.hid hn2
        clear hno hmany hyes hb4 hb5 hw5 z0 z1 z2 HBd h0 h1 h2 e0 e1 eT hn1 hn2 hWd
        go_upto_region 6 with (fail)
        rw [HW5.out]
        obtain ⟨z0, z1, z2⟩ := (HN.out _ HB5.out).cells
        go_wp2_with fail
        have HR5 := Lib.hid (HRt.out _ HB5.out)
        rw [hdr] at HR5
        refine HR5.out.mono ?_
        rintro e w6 ⟨rfl, hb6⟩
        have HB56 := Lib.hid hb6
        have HB6 : Hid (Below (D + 1) w1 w6) := Lib.hid (HB5.out.trans (hb6.mono (by have := HB5.out.size; have := HZ.out; omega)))
        have hd6 := HD5.out.below hb6 HD5.out.lt
        have HD6 := Lib.hid hd6
        obtain ⟨y0, y1, y2⟩ := (HN.out _ HB6.out).cells
        clear z0 z1 z2 hd6 hdr HR5
        go_wp2_with fail
        refine (HRB.out _ HB6.out).mono ?_
        rintro e w7 ⟨hr1, hr2⟩
        obtain ⟨d, rfl, p0, d0, p1, n1', d1, p2, n2', d2, l0', l1', T', rfl, k0, f0, hn1', k1, f1, hn2', k2, fT, hb7⟩ := hr2 (by omega)
        obtain rfl : n1' = n1 := hn1'.trans HN1.out.symm
        obtain rfl : n2' = n2 := hn2'.trans HN2.out.symm
        rw [HWd.out]
        clear hr1 hr2 y0 y1 y2
        have HD7 := Lib.hid (HD6.out.below hb7 HD6.out.lt)
        obtain ⟨w8, hw8⟩ : ∃ w8, w7.alloc (.cells #[.slice p0 259 d0, .int .i64 (Wd : Int), .int .i64 0, .slice p1 n1' d1, .slice p2 n2' d2] 30) = w8 := ⟨_, rfl⟩
        have hb8 : Below w7.heap.size w7 w8 := hw8 ▸ (Below.refl _ _).alloc (Nat.le_refl _) _
        have hd8 := HD7.out.below hb8 HD7.out.lt
        have hx8 : isDf w8 w7.heap.size p0 259 d0 (Wd : Int) 0 p1 n1' d1 p2 n2' d2 := hw8 ▸ heap_alloc_new w7 _
        have hb58 : Below w5.heap.size w5 w8 := HB56.out.trans ((hb7.trans (hb8.mono hb7.size)).mono HB56.out.size)
        have hnn2 : (n2' : Int) ≤ 40 := by have := HN2.out; omega
        have hnb : n1' ≤ 100000 := by
          have h5 := (full_nx (go := goC S n) (m := n) (width := wdY S n) (T0 := T0Y S n st) (most := most) (show ((subM S n st most).1.length : Int) ≤ most by omega)).1
          have h6 : n1' = n2' * wdY S n := HN1.out.trans (h5.trans (by rw [HN2.out]; rfl))
          have h7 := Nat.mul_le_mul (show n2' ≤ 40 by omega) (wdY_le S n)
          omega
        have HSa := Lib.hid (same11 q0 c0 Wd q1 n1' c1 q2 n2' c2 p0 d0 p1 d1 p2 d2 l0 l1 l0' l1' T T' hnb (by omega) (fun j hj => (E0.out j hj).trans (f0 j hj).symm) (fun j hj => (E1.out j hj).trans (f1 j hj).symm) (fun j hj => (ET.out j hj).trans (by rw [fT j hj]; simp)) w8 (H0.out.below hb58) (H1.out.below hb58) (H2.out.below hb58) (k0.below hb8) (k1.below hb8) (k2.below hb8))
        obtain ⟨a0, a1, a2, a3, a4⟩ := hd8.cells
        obtain ⟨x0, x1, x2, x3, x4⟩ := hx8.cells
        have HF : Hid (Below w.heap.size w w8) := Lib.hid (HG.out.symm ▸ HB1.out.trans ((HB5.out.trans (hb58.mono (by have := HB5.out.size; have := HZ.out; omega))).mono (Nat.le_succ D)))
        have HW8 := Lib.hid hw8
        clear hb7 hb8 hd8 hx8 hb58 hw8 HD6 HD7 HB6 HRB k0 k1 k2 f0 f1 fT hn1' hn2' hb6
        go_upto_region 9 with (fail)
        rw [HW8.out]
        go_wp2_with fail
        refine HSa.out.mono ?_
        rintro e w9 ⟨rfl, hb9⟩
        have HF9 := Lib.hid (HF.out.trans (hb9.mono HF.out.size))
        go_wp2_with fail
        go_returns
        exact ⟨rfl, HF9.out⟩
    · have hdr : decide (rightP S n st fin) = false := decide_eq_false hr
      obtain ⟨q0, n0, c0, wd, s0, q1, c1, q2, n2, c2, rfl, hb4⟩ := hno hr
      obtain ⟨w5, hw5⟩ : ∃ w5, w4.alloc (.cells #[.slice q0 n0 c0, .int .i64 wd, .int .i64 s0, .slice q1 0 c1, .slice q2 n2 c2] 30) = w5 := ⟨_, rfl⟩
      have hb5 : Below w4.heap.size w4 w5 := hw5 ▸ (Below.refl _ _).alloc (Nat.le_refl _) _
      have HD5 : Hid (isDf w5 w4.heap.size q0 n0 c0 wd s0 q1 0 c1 q2 n2 c2) := Lib.hid (hw5 ▸ heap_alloc_new w4 _)
      have HB4 : Hid (Below (D + 1) w1 w4) := Lib.hid (HB3.out.trans (hb4.mono (by have := HB3.out.size; have := HZ.out; omega)))
      have HB5 : Hid (Below (D + 1) w1 w5) := Lib.hid (HB4.out.trans (hb5.mono (by have := HB4.out.size; have := HZ.out; omega)))
      have HW5 := Lib.hid hw5
      clear hno hmany hyes hb4 hb5 hw5 z0 z1 z2 HBd
      go_upto_region 6 with (fail)
      rw [HW5.out]
      obtain ⟨z0, z1, z2⟩ := (HN.out _ HB5.out).cells
      go_wp2_with fail
      have HR5 := Lib.hid (HRt.out _ HB5.out)
      rw [hdr] at HR5
      refine HR5.out.mono ?_
      rintro e w6 ⟨rfl, hb6⟩
      have hd6 := HD5.out.below hb6 HD5.out.lt
      obtain ⟨k0, k1, k2, k3, k4⟩ := hd6.cells
      have HF : Hid (Below w.heap.size w w6) := Lib.hid (HG.out.symm ▸ HB1.out.trans ((HB5.out.trans (hb6.mono (by have := HB5.out.size; have := HZ.out; omega))).mono (Nat.le_succ D)))
      clear hb6 hd6 HR5 z0 z1 z2 hdr
      go_wp2_with fail
      go_returns
      exact ⟨rfl, HF.out⟩
  · have HB1' := HB1
    by_cases hn : n ≤ 40
    · have hm : ¬ most ≤ 40 := fun h => hgo ⟨hn, h⟩
      have d1 : decide ((n : Int) ≤ 40) = true := decide_eq_true (by omega)
      have d2 : decide ((40 : Int) < most) = true := decide_eq_true (by omega)
      have HSm1 := Lib.hid (HSm.out true d1.symm)
      clear hw1 hb1 hn1 hB hC hS hw HSm hz1 d1 hgo
      go_enter Try.func3, Try.ntmps3
      go_upto_region 1 with (fail)
      rw [HW1.out]
      go_wp2_with fail
      refine (HAw.out _).mono ?_
      rintro e w2 ⟨rfl, hb2⟩
      have HB2 : Hid (Below (D + 1) w1 w2) := Lib.hid (HZ.out ▸ hb2)
      obtain ⟨z0, z1, z2⟩ := (HN.out _ HB2.out).cells
      clear hb2 HAw hD
      go_wp2_with fail
      refine (HSm1.out _).mono ?_
      rintro e w3 ⟨rfl, hb3⟩
      have HB3 : Hid (Below w.heap.size w w3) := Lib.hid (HG.out.symm ▸ HB1.out.trans ((HB2.out.trans (hb3.mono (by have := HB2.out.size; have := HZ.out; omega))).mono (Nat.le_succ D)))
      clear hb3 z0 z1 z2
      go_wp2_with fail
      go_returns
      exact ⟨rfl, HB3.out⟩
    · have d1 : decide ((n : Int) ≤ 40) = false := decide_eq_false (by omega)
      have HSm1 := Lib.hid (HSm.out false d1.symm)
      clear hw1 hb1 hn1 hB hC hS hw HSm hz1 d1 hgo
      go_enter Try.func3, Try.ntmps3
      go_upto_region 1 with (fail)
      rw [HW1.out]
      go_wp2_with fail
      refine (HAw.out _).mono ?_
      rintro e w2 ⟨rfl, hb2⟩
      have HB2 : Hid (Below (D + 1) w1 w2) := Lib.hid (HZ.out ▸ hb2)
      obtain ⟨z0, z1, z2⟩ := (HN.out _ HB2.out).cells
      clear hb2 HAw hD
      go_wp2_with fail
      refine (HSm1.out _).mono ?_
      rintro e w3 ⟨rfl, hb3⟩
      have HB3 : Hid (Below w.heap.size w w3) := Lib.hid (HG.out.symm ▸ HB1.out.trans ((HB2.out.trans (hb3.mono (by have := HB2.out.size; have := HZ.out; omega))).mono (Nat.le_succ D)))
      clear hb3 z0 z1 z2
      go_wp2_with fail
      go_returns
      exact ⟨rfl, HB3.out⟩
end Go.Proofs.Ytepegohopgnmnaa

namespace Go.Proofs.Ytepegohopgnmnaa
open Go.ChangeShapes Go.WideShapes Go.ChangeAt Go.RowKit Go.Joins Go.Deep

theorem laidOut : laidOutB Try.prog = true := by kernel_rfl
theorem cellsU64 : Try.prog.cellsOf 60 = 1 := by kernel_rfl
theorem cellsInt : Try.prog.cellsOf 3 = 1 := by kernel_rfl
theorem cellsSet : Try.prog.cellsOf 62 = 4 := by kernel_rfl
theorem cellsNode : Try.prog.cellsOf 71 = 7 := by kernel_rfl

set_option maxRecDepth 100000 in
theorem open_node {H : Type} {enc : TypeId × Value → H} {W : World} {b0 n : Nat} {sp : Nat → Bool} {hd : Bool} {cs : List Value} {x : DataW H × List MemPlace} (hl : cs.length = 7)
    (h : DataW.trod enc Try.prog W b0 sp hd n 71 cs = some x) : ∃ y : Nd, okW y ∧ cs = [.int .i64 y.k, .int .u64 y.a, .int .u64 y.b, .int .u64 y.c, .int .u64 y.d, .int .i64 y.lo, .int .i64 y.hi] := by
  obtain ⟨xs, k, hk, hxy, _, hxl, hf⟩ := DataW.trod_struct Try.underlying71 h
  match xs, hxl, cs, hl with
  | [y0, y1, y2, y3], _, [v0, v1, v2, v3, v4, v5, v6], _ =>
    have g0 := hf 0 _ rfl
    have g1 := hf 1 _ rfl
    have g2 := hf 2 _ rfl
    have g3 := hf 3 _ rfl
    simp [cellsInt, cellsSet] at g0 g1 g2 g3
    obtain ⟨x0, e0, _, _⟩ := DataW.trod_int Try.underlying3 g0
    obtain ⟨x2, e2, _, _⟩ := DataW.trod_int Try.underlying3 g2
    obtain ⟨x3, e3, _, _⟩ := DataW.trod_int Try.underlying3 g3
    obtain ⟨z0, z1, z2, z3, m, _, hy0, hy1, hy2, hy3⟩ := trod_array4 Try.underlying62 cellsU64 g1
    obtain ⟨s0, f0, _, w0⟩ := DataW.trod_int Try.underlying60 hy0
    obtain ⟨s1, f1, _, w1⟩ := DataW.trod_int Try.underlying60 hy1
    obtain ⟨s2, f2, _, w2⟩ := DataW.trod_int Try.underlying60 hy2
    obtain ⟨s3, f3, _, w3⟩ := DataW.trod_int Try.underlying60 hy3
    simp at e0 e2 e3 f0 f1 f2 f3
    subst e0 e2 e3 f0 f1 f2 f3
    have bd : ∀ x : Int, (Lit.int .u64 x).wf = true → 0 ≤ x ∧ x < 18446744073709551616 := by
      intro x hx
      have hw : IntKind.u64.min ≤ x ∧ x ≤ IntKind.u64.max := by simpa [Lit.wf] using hx
      simp [IntKind.min, IntKind.max, IntKind.bits, IntKind.signed] at hw
      exact ⟨by omega, by omega⟩
    exact ⟨⟨x0, s0, s1, s2, s3, x2, x3⟩, ⟨bd _ w0, bd _ w1, bd _ w2, bd _ w3⟩, rfl⟩

theorem add_at {b o j : Nat} : ((⟨b, o, none⟩ : Addr).add j) = ⟨b, o + j, none⟩ := by unfold Addr.add; split <;> simp_all

set_option maxRecDepth 100000 in
/-- A slice of nodes: no node, at any address; or the nodes that its cells are. -/
theorem open_nodes {H : Type} {enc : TypeId × Value → H} {W : World} {b0 n : Nat} {sp : Nat → Bool} {hd : Bool} {a0 : Option Addr} {len0 cap0 : Nat} {x : DataW H × List MemPlace}
    (h : DataW.trod enc Try.prog W b0 sp hd n 39 [.slice a0 len0 cap0] = some x) : len0 = 0 ∨ ∃ b off N, a0 = some ⟨b, off, none⟩ ∧ 0 < len0 ∧ len0 ≤ cap0 ∧ rdN W b off len0 N ∧ ∀ j, j < len0 → okW (N j) := by
  rcases open_slice Try.underlying39 h with ⟨hcs, _⟩ | ⟨a, len, cap, m, n', D, Pl, hcs, _, hl, _, hmm, _, hi⟩
  · simp at hcs
    exact .inl hcs.2.1
  · simp at hcs
    obtain ⟨rfl, rfl, rfl⟩ := hcs
    have hlm : len0 ≤ m := by rw [hmm]; split <;> omega
    rcases Nat.eq_zero_or_pos len0 with h0 | hpos
    · exact .inl h0
    right
    have hall : ∀ i, i < len0 → ∃ y : Nd, okW y ∧ W.cell? (a.add (i * 7)) = some (.int .i64 y.k) ∧ ∀ j, j < 7 → W.cell? ((a.add (i * 7)).add j) = [Value.int .i64 y.k, .int .u64 y.a, .int .u64 y.b, .int .u64 y.c, .int .u64 y.d, .int .i64 y.lo, .int .i64 y.hi][j]? := fun i him => by
      obtain ⟨cs, hc, ht⟩ := hi i (by omega)
      rw [cellsNode] at hc
      obtain ⟨_, hcl, hat⟩ := World.cells?_some hc
      obtain ⟨y, hw, rfl⟩ := open_node hcl ht
      exact ⟨y, hw, by simpa [Addr.add] using hat 0 (by decide), hat⟩
    obtain ⟨b, off, spot⟩ := a
    obtain ⟨_, _, z0, _⟩ := hall 0 hpos
    have hspot : spot = none := by simpa [Addr.add] using World.cell?_spot z0
    subst hspot
    have hb : b < W.heap.size := by have := World.block_lt_of_cell? W _ z0; simpa [Addr.add] using this
    refine ⟨b, off, fun i => if h : i < len0 then (hall i h).choose else ⟨0, 0, 0, 0, 0, 0, 0⟩, rfl, hpos, hl, fun j hj => ⟨hb, ?_⟩, fun j hj => by simp only [dif_pos hj]; exact (hall j hj).choose_spec.1⟩
    simp only [dif_pos hj]
    have hs := (hall j hj).choose_spec.2.2
    generalize (hall j hj).choose = y at hs
    have hs' : ∀ t, t < 7 → W.cell? ⟨b, off + j * 7 + t, none⟩ = [Value.int .i64 y.k, .int .u64 y.a, .int .u64 y.b, .int .u64 y.c, .int .u64 y.d, .int .i64 y.lo, .int .i64 y.hi][t]? := fun t ht => by
      have := hs t ht
      rwa [add_at, add_at] at this
    exact ⟨hs' 0 (by decide), hs' 1 (by decide), hs' 2 (by decide), hs' 3 (by decide), hs' 4 (by decide), hs' 5 (by decide), hs' 6 (by decide)⟩
end Go.Proofs.Ytepegohopgnmnaa

namespace Go.Proofs.Ytepegohopgnmnaa
open Go.ChangeShapes Go.WideShapes Go.ChangeAt Go.RowKit Go.Joins Go.Deep

theorem cellsState : Try.prog.cellsOf 64 = 7 := by kernel_rfl
theorem cellsNfa : Try.prog.cellsOf 24 = 3 := by kernel_rfl
theorem cellsStates : Try.prog.cellsOf 22 = 1 := by kernel_rfl

set_option maxRecDepth 100000 in
theorem open_state {H : Type} {enc : TypeId × Value → H} {W : World} {b0 n : Nat} {sp : Nat → Bool} {hd : Bool} {cs : List Value} {x : DataW H × List MemPlace} (hl : cs.length = 7)
    (h : DataW.trod enc Try.prog W b0 sp hd n 64 cs = some x) : ∃ y : Sd, okWs y ∧ cs = [.int .i64 y.k, .int .i64 y.A, .int .i64 y.B, .int .u64 y.a, .int .u64 y.b, .int .u64 y.c, .int .u64 y.d] := by
  obtain ⟨xs, k, hk, hxy, _, hxl, hf⟩ := DataW.trod_struct Try.underlying64 h
  match xs, hxl, cs, hl with
  | [y0, y1, y2, y3], _, [v0, v1, v2, v3, v4, v5, v6], _ =>
    have g0 := hf 0 _ rfl
    have g1 := hf 1 _ rfl
    have g2 := hf 2 _ rfl
    have g3 := hf 3 _ rfl
    simp [cellsInt, cellsSet] at g0 g1 g2 g3
    obtain ⟨x0, e0, _, _⟩ := DataW.trod_int Try.underlying3 g0
    obtain ⟨x1, e1, _, _⟩ := DataW.trod_int Try.underlying3 g1
    obtain ⟨x2, e2, _, _⟩ := DataW.trod_int Try.underlying3 g2
    obtain ⟨z0, z1, z2, z3, m, _, hy0, hy1, hy2, hy3⟩ := trod_array4 Try.underlying62 cellsU64 g3
    obtain ⟨s0, f0, _, w0⟩ := DataW.trod_int Try.underlying60 hy0
    obtain ⟨s1, f1, _, w1⟩ := DataW.trod_int Try.underlying60 hy1
    obtain ⟨s2, f2, _, w2⟩ := DataW.trod_int Try.underlying60 hy2
    obtain ⟨s3, f3, _, w3⟩ := DataW.trod_int Try.underlying60 hy3
    simp at e0 e1 e2 f0 f1 f2 f3
    subst e0 e1 e2 f0 f1 f2 f3
    have bd : ∀ x : Int, (Lit.int .u64 x).wf = true → 0 ≤ x ∧ x < 18446744073709551616 := by
      intro x hx
      have hw : IntKind.u64.min ≤ x ∧ x ≤ IntKind.u64.max := by simpa [Lit.wf] using hx
      simp [IntKind.min, IntKind.max, IntKind.bits, IntKind.signed] at hw
      exact ⟨by omega, by omega⟩
    exact ⟨⟨x0, s0, s1, s2, s3, x1, x2⟩, ⟨bd _ w0, bd _ w1, bd _ w2, bd _ w3⟩, rfl⟩

set_option maxRecDepth 100000 in
/-- A slice of states: none, at any address; or the states that its cells are. -/
theorem open_states {H : Type} {enc : TypeId × Value → H} {W : World} {b0 n : Nat} {sp : Nat → Bool} {hd : Bool} {a0 : Option Addr} {len0 cap0 : Nat} {x : DataW H × List MemPlace}
    (h : DataW.trod enc Try.prog W b0 sp hd n 22 [.slice a0 len0 cap0] = some x) : len0 = 0 ∨ ∃ b off S, a0 = some ⟨b, off, none⟩ ∧ 0 < len0 ∧ len0 ≤ cap0 ∧ rdS W b off len0 S ∧ ∀ j, j < len0 → okWs (S j) := by
  rcases open_slice Try.underlying22 h with ⟨hcs, _⟩ | ⟨a, len, cap, m, n', D, Pl, hcs, _, hl, _, hmm, _, hi⟩
  · simp at hcs
    exact .inl hcs.2.1
  · simp at hcs
    obtain ⟨rfl, rfl, rfl⟩ := hcs
    have hlm : len0 ≤ m := by rw [hmm]; split <;> omega
    rcases Nat.eq_zero_or_pos len0 with h0 | hpos
    · exact .inl h0
    right
    have hall : ∀ i, i < len0 → ∃ y : Sd, okWs y ∧ W.cell? (a.add (i * 7)) = some (.int .i64 y.k) ∧ ∀ j, j < 7 → W.cell? ((a.add (i * 7)).add j) = [Value.int .i64 y.k, .int .i64 y.A, .int .i64 y.B, .int .u64 y.a, .int .u64 y.b, .int .u64 y.c, .int .u64 y.d][j]? := fun i him => by
      obtain ⟨cs, hc, ht⟩ := hi i (by omega)
      rw [cellsState] at hc
      obtain ⟨_, hcl, hat⟩ := World.cells?_some hc
      obtain ⟨y, hw, rfl⟩ := open_state hcl ht
      exact ⟨y, hw, by simpa [Addr.add] using hat 0 (by decide), hat⟩
    obtain ⟨b, off, spot⟩ := a
    obtain ⟨_, _, z0, _⟩ := hall 0 hpos
    have hspot : spot = none := by simpa [Addr.add] using World.cell?_spot z0
    subst hspot
    have hb : b < W.heap.size := by have := World.block_lt_of_cell? W _ z0; simpa [Addr.add] using this
    refine ⟨b, off, fun i => if h : i < len0 then (hall i h).choose else ⟨0, 0, 0, 0, 0, 0, 0⟩, rfl, hpos, hl, fun j hj => ⟨hb, ?_⟩, fun j hj => by simp only [dif_pos hj]; exact (hall j hj).choose_spec.1⟩
    simp only [dif_pos hj]
    have hs := (hall j hj).choose_spec.2.2
    generalize (hall j hj).choose = y at hs
    have hs' : ∀ t, t < 7 → W.cell? ⟨b, off + j * 7 + t, none⟩ = [Value.int .i64 y.k, .int .i64 y.A, .int .i64 y.B, .int .u64 y.a, .int .u64 y.b, .int .u64 y.c, .int .u64 y.d][t]? := fun t ht => by
      have := hs t ht
      rwa [add_at, add_at] at this
    exact ⟨hs' 0 (by decide), hs' 1 (by decide), hs' 2 (by decide), hs' 3 (by decide), hs' 4 (by decide), hs' 5 (by decide), hs' 6 (by decide)⟩

set_option maxRecDepth 100000 in
/-- An automaton, whatever it is. -/
theorem open_nfa {H : Type} {enc : TypeId × Value → H} {W : World} {base b0 : Nat} {sp : Nat → Bool} {hd : Bool} {v : Value} {d : DataW H} {ps : List MemPlace}
    (hok : Value.okWide Try.prog W .any base 24 v) (h : DataW.Trod enc Try.prog W b0 sp hd 24 v d ps) :
    ∃ p n cap st fin, v = .agg #[.slice p n cap, .int .i64 st, .int .i64 fin] ∧ (n = 0 ∨ ∃ b off S, p = some ⟨b, off, none⟩ ∧ 0 < n ∧ n ≤ cap ∧ rdS W b off n S ∧ ∀ j, j < n → okWs (S j)) := by
  obtain ⟨cs, rfl, hsz⟩ := okWide_struct Try.underlying24 hok
  rw [cellsNfa] at hsz
  obtain ⟨c0, c1, c2, rfl⟩ : ∃ c0 c1 c2, cs = #[c0, c1, c2] := by
    obtain ⟨l⟩ := cs
    match l, hsz with
    | [a, b, c], _ => exact ⟨a, b, c, rfl⟩
  obtain ⟨fuel, hf⟩ := h
  change DataW.trod enc Try.prog W b0 sp hd fuel 24 [c0, c1, c2] = some (d, ps) at hf
  obtain ⟨xs, k, hk, hxy, _, hxl, hg⟩ := DataW.trod_struct Try.underlying24 hf
  match xs, hxl with
  | [y0, y1, y2], _ =>
    have g0 := hg 0 _ rfl
    have g1 := hg 1 _ rfl
    have g2 := hg 2 _ rfl
    simp [cellsInt, cellsStates] at g0 g1 g2
    obtain ⟨x1, e1, _, _⟩ := DataW.trod_int Try.underlying3 g1
    obtain ⟨x2, e2, _, _⟩ := DataW.trod_int Try.underlying3 g2
    have e1' : c1 = .int .i64 x1 := by first | exact e1 | simpa using e1
    have e2' : c2 = .int .i64 x2 := by first | exact e2 | simpa using e2
    clear e1 e2
    subst e1' e2'
    obtain ⟨p, n, cap, rfl⟩ : ∃ p n cap, c0 = .slice p n cap := by
      rcases open_slice Try.underlying22 g0 with ⟨hcs, _⟩ | ⟨a, len, cap, m, n', D, Pl, hcs, _⟩
      · simp at hcs; exact ⟨_, _, _, hcs⟩
      · simp at hcs; exact ⟨_, _, _, hcs⟩
    exact ⟨p, n, cap, x1, x2, rfl, open_states g0⟩
end Go.Proofs.Ytepegohopgnmnaa

namespace Go.Proofs.Ytepegohopgnmnaa
open Go.RowKit

set_option maxRecDepth 100000 in
set_option maxHeartbeats 8000000 in
theorem counts_any (hB : SubC) (hC : CntC) (p : Option Addr) (n cap : Nat) (S : Nat → Sd) (st fin most : Int) (w : World) (hS : n ≤ 40 → stsAt w p n S) (hw : n ≤ 40 → ∀ q, q < n → okWs (S q)) :
    Calls Try.prog 4 #[nfV p n cap st fin, .int .i64 most] w fun e w' => e = .returned (.bool true) ∧ Below w.heap.size w w' := by
  obtain ⟨D, hD⟩ : ∃ D, w.heap.size = D := ⟨_, rfl⟩
  obtain ⟨w1, hw1⟩ : ∃ w1, w.alloc (.cells #[.slice p n cap, .int .i64 st, .int .i64 fin] 24) = w1 := ⟨_, rfl⟩
  have hz1 : w1.heap.size = D + 1 := by rw [← hw1, World.size_alloc, hD]
  have hb1 : Below D w w1 := hw1 ▸ (Below.refl _ _).alloc (by omega) _
  have hn1 : is3 24 w1 D (.slice p n cap) st fin := hw1 ▸ hD ▸ is3.new 24 w (.slice p n cap) st fin
  have HN := Lib.hid (fun w' (h : Below (D + 1) w1 w') => hn1.below h (Nat.lt_succ_self D))
  have HAw := Lib.hid (awake11 hB hC)
  have HW1 := Lib.hid hw1; have HB1 := Lib.hid hb1; have HG := Lib.hid hD; have HZ := Lib.hid hz1
  have HSm := Lib.hid (fun r hr w => small11 p n cap st fin r hr w)
  by_cases hgo : n ≤ 40 ∧ most ≤ 40
  · have hst := hS hgo.1
    have HS := Lib.hid (fun w' (h : Below (D + 1) w1 w') => show stsAt w' p n S from ⟨hst.1, fun b off e => (hst.2 b off e).below (hD.symm ▸ hb1.trans (h.mono (Nat.le_succ D)))⟩)
    have HOK := Lib.hid (hw hgo.1)
    have d1 : decide ((n : Int) ≤ 40) = true := decide_eq_true (by omega)
    have d2 : decide ((40 : Int) < most) = false := decide_eq_false (by omega)
    have HSm1 := Lib.hid (HSm.out true d1.symm)
    have HBd := Lib.hid (fun w' (h : Below (D + 1) w1 w') => hC p n cap S st fin most w' (by omega) (by omega) (HS.out w' h) HOK.out)
    have HRt := Lib.hid (fun w' (h : Below (D + 1) w1 w') => rright9_is p n cap S st fin (by omega) w' (HS.out w' h).1 (HS.out w' h).2)
    clear hw1 hb1 hn1 hB hC hS hw hst HSm hz1 d1
    go_enter Try.func4, Try.ntmps4
    go_upto_region 1 with (fail)
    rw [HW1.out]
    go_wp2_with fail
    refine (HAw.out _).mono ?_
    rintro e w2 ⟨rfl, hb2⟩
    have HB2 : Hid (Below (D + 1) w1 w2) := Lib.hid (HZ.out ▸ hb2)
    obtain ⟨z0, z1, z2⟩ := (HN.out _ HB2.out).cells
    clear hb2 HAw hD
    go_wp2_with fail
    refine (HSm1.out _).mono ?_
    rintro e w3 ⟨rfl, hb3⟩
    have HB3 : Hid (Below (D + 1) w1 w3) := Lib.hid (HB2.out.trans (hb3.mono (by have := HB2.out.size; have := HZ.out; omega)))
    clear hb3 z0 z1 z2 HSm1 HB2
    obtain ⟨z0, z1, z2⟩ := (HN.out _ HB3.out).cells
    go_wp2_with fail
    refine (HBd.out _ HB3.out).mono ?_
    rintro e w4 ⟨k, rfl, hno, hneg, hmany, hyes, hb4⟩
    have HB4 : Hid (Below (D + 1) w1 w4) := Lib.hid (HB3.out.trans (hb4.mono (by have := HB3.out.size; have := HZ.out; omega)))
    clear hb4 z0 z1 z2 HBd
    by_cases hlt : most < 0
    · have dl : decide (most < 0) = true := decide_eq_true hlt
      obtain rfl : k = 0 := hneg hlt
      have HF : Hid (Below w.heap.size w w4) := Lib.hid (HG.out.symm ▸ HB1.out.trans (HB4.out.mono (Nat.le_succ D)))
      go_wp2_with fail
      go_returns
      exact ⟨rfl, HF.out⟩
    have dl : decide (most < 0) = false := decide_eq_false hlt
    obtain ⟨z0, z1, z2⟩ := (HN.out _ HB4.out).cells
    by_cases hr : rightP S n st fin
    · skip
      obtain ⟨b, off, rfl⟩ : ∃ b off, p = some ⟨b, off, none⟩ := by
        rcases (HS.out _ (Below.refl _ _)).1 with h | h
        · have := hr.1; omega
        · exact h
      obtain ⟨F, rfl⟩ : ∃ F : Nat, fin = F := ⟨fin.toNat, by have := hr.1; omega⟩
      have HRB := Lib.hid (fun w' (h : Below (D + 1) w1 w') => rbuild11 b off n cap S st F most (by omega) (by have := hr.1; omega) (by have := hr.1; omega) (right_rng hr) HOK.out (by omega) w' ((HS.out w' h).2 b off rfl))
      have hdr : decide (rightP S n st F) = true := decide_eq_true hr
      go_wp2_with fail
      have HR5 := Lib.hid (HRt.out _ HB4.out)
      rw [hdr] at HR5
      refine HR5.out.mono ?_
      rintro e w6 ⟨rfl, hb6⟩
      have HB6 : Hid (Below (D + 1) w1 w6) := Lib.hid (HB4.out.trans (hb6.mono (by have := HB4.out.size; have := HZ.out; omega)))
      clear z0 z1 z2 hdr HR5 hb6
      obtain ⟨y0, y1, y2⟩ := (HN.out _ HB6.out).cells
      go_wp2_with fail
      refine (HRB.out _ HB6.out).mono ?_
      rintro e w7 ⟨hr1, hr2⟩
      by_cases hmm : most < ((subM S n st most).1.length : Int)
      · obtain ⟨rfl, hb7⟩ := hr1 hmm
        obtain rfl : k = most + 1 := hmany hr (by omega) hmm
        obtain ⟨w8, hw8⟩ : ∃ w8, w7.alloc (.cells #[.slice none 0 0, .int .i64 0, .int .i64 0, .slice none 0 0, .slice none 0 0] 30) = w8 := ⟨_, rfl⟩
        have hb8 : Below w7.heap.size w7 w8 := hw8 ▸ (Below.refl _ _).alloc (Nat.le_refl _) _
        have HF : Hid (Below w.heap.size w w8) := Lib.hid (HG.out.symm ▸ HB1.out.trans ((HB6.out.trans ((hb7.trans (hb8.mono hb7.size)).mono (by have := HB6.out.size; have := HZ.out; omega))).mono (Nat.le_succ D)))
        have HW8 := Lib.hid hw8
        have hm0 : (0 : Int) ≤ most := by omega
        have hm4 : most ≤ 40 := hgo.2
        have hwr : IntKind.i64.wrap (most + 1) = most + 1 := by rw [IntKind.wrap_i64]; omega
        have hee : ((most + 1) == (most + 1)) = true := by simp
        clear hr1 hr2 y0 y1 y2 hb7 hb8 hw8 HB6 HRB
        go_upto_region 9 with (fail)
        rw [HW8.out]
        go_wp2_with fail
        go_returns
        exact ⟨by simp, HF.out⟩
      · obtain ⟨d, rfl, p0, d0, p1, n1', d1, p2, n2', d2, l0', l1', T', rfl, -, -, -, -, -, hn2', -, -, hb7⟩ := hr2 (by omega)
        have hkk := hyes hr (by omega) (by omega)
        rw [← hn2'] at hkk
        subst hkk
        obtain ⟨Wd, hWd⟩ : ∃ Wd : Int, ((wdY S n : Nat) : Int) = Wd := ⟨_, rfl⟩
        rw [hWd]
        obtain ⟨w8, hw8⟩ : ∃ w8, w7.alloc (.cells #[.slice p0 259 d0, .int .i64 Wd, .int .i64 0, .slice p1 n1' d1, .slice p2 n2' d2] 30) = w8 := ⟨_, rfl⟩
        have hb8 : Below w7.heap.size w7 w8 := hw8 ▸ (Below.refl _ _).alloc (Nat.le_refl _) _
        have hx8 : isDf w8 w7.heap.size p0 259 d0 Wd 0 p1 n1' d1 p2 n2' d2 := hw8 ▸ heap_alloc_new w7 _
        obtain ⟨x0, x1, x2, x3, x4⟩ := hx8.cells
        have HF : Hid (Below w.heap.size w w8) := Lib.hid (HG.out.symm ▸ HB1.out.trans ((HB6.out.trans ((hb7.trans (hb8.mono hb7.size)).mono (by have := HB6.out.size; have := HZ.out; omega))).mono (Nat.le_succ D)))
        have HW8 := Lib.hid hw8
        have hee : ((n2' : Int) == (n2' : Int)) = true := by simp
        clear hr1 hr2 y0 y1 y2 hb7 hb8 hw8 HB6 HRB hx8 hn2' hWd
        go_upto_region 9 with (fail)
        rw [HW8.out]
        go_wp2_with fail
        go_returns
        exact ⟨by simp, HF.out⟩
    · have hdr : decide (rightP S n st fin) = false := decide_eq_false hr
      obtain rfl : k = 0 := hno hr
      go_wp2_with fail
      have HR5 := Lib.hid (HRt.out _ HB4.out)
      rw [hdr] at HR5
      refine HR5.out.mono ?_
      rintro e w6 ⟨rfl, hb6⟩
      have HF : Hid (Below w.heap.size w w6) := Lib.hid (HG.out.symm ▸ HB1.out.trans ((HB4.out.trans (hb6.mono (by have := HB4.out.size; have := HZ.out; omega))).mono (Nat.le_succ D)))
      clear hb6 HR5 hdr z0 z1 z2
      go_wp2_with fail
      go_returns
      exact ⟨rfl, HF.out⟩
  · have HB1' := HB1
    by_cases hn : n ≤ 40
    · have hm : ¬ most ≤ 40 := fun h => hgo ⟨hn, h⟩
      have d1 : decide ((n : Int) ≤ 40) = true := decide_eq_true (by omega)
      have d2 : decide ((40 : Int) < most) = true := decide_eq_true (by omega)
      have HSm1 := Lib.hid (HSm.out true d1.symm)
      clear hw1 hb1 hn1 hB hC hS hw HSm hz1 d1 hgo
      go_enter Try.func4, Try.ntmps4
      go_upto_region 1 with (fail)
      rw [HW1.out]
      go_wp2_with fail
      refine (HAw.out _).mono ?_
      rintro e w2 ⟨rfl, hb2⟩
      have HB2 : Hid (Below (D + 1) w1 w2) := Lib.hid (HZ.out ▸ hb2)
      obtain ⟨z0, z1, z2⟩ := (HN.out _ HB2.out).cells
      clear hb2 HAw hD
      go_wp2_with fail
      refine (HSm1.out _).mono ?_
      rintro e w3 ⟨rfl, hb3⟩
      have HB3 : Hid (Below w.heap.size w w3) := Lib.hid (HG.out.symm ▸ HB1.out.trans ((HB2.out.trans (hb3.mono (by have := HB2.out.size; have := HZ.out; omega))).mono (Nat.le_succ D)))
      clear hb3 z0 z1 z2
      go_wp2_with fail
      go_returns
      exact ⟨rfl, HB3.out⟩
    · have d1 : decide ((n : Int) ≤ 40) = false := decide_eq_false (by omega)
      have HSm1 := Lib.hid (HSm.out false d1.symm)
      clear hw1 hb1 hn1 hB hC hS hw HSm hz1 d1 hgo
      go_enter Try.func4, Try.ntmps4
      go_upto_region 1 with (fail)
      rw [HW1.out]
      go_wp2_with fail
      refine (HAw.out _).mono ?_
      rintro e w2 ⟨rfl, hb2⟩
      have HB2 : Hid (Below (D + 1) w1 w2) := Lib.hid (HZ.out ▸ hb2)
      obtain ⟨z0, z1, z2⟩ := (HN.out _ HB2.out).cells
      clear hb2 HAw hD
      go_wp2_with fail
      refine (HSm1.out _).mono ?_
      rintro e w3 ⟨rfl, hb3⟩
      have HB3 : Hid (Below w.heap.size w w3) := Lib.hid (HG.out.symm ▸ HB1.out.trans ((HB2.out.trans (hb3.mono (by have := HB2.out.size; have := HZ.out; omega))).mono (Nat.le_succ D)))
      clear hb3 z0 z1 z2
      go_wp2_with fail
      go_returns
      exact ⟨rfl, HB3.out⟩
end Go.Proofs.Ytepegohopgnmnaa
