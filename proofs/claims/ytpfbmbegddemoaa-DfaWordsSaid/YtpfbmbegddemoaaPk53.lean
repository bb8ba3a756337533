/-
  The walk of the law DfaWords, over whatever Word and Same are that do as the page says.
-/
import Derived.Test.YtpfbmbegddemoaaPk47
namespace Go.Proofs.Ytpfbmbegddemoaa
open Go.RowKit

set_option maxRecDepth 100000 in
set_option maxHeartbeats 20000000 in
theorem words_any (hA : ∀ w, Calls Try.prog 6 #[] w fun e w' => e = .returned (.bool true) ∧ Below w.heap.size w w') (hW : WrdD) (hS : SamD)
    (t : ByteArray) (i j : Int) (x y : Da) (q0 : Option Addr) (c0 : Nat) (q1 : Option Addr) (c1 : Nat) (q2 : Option Addr) (c2 : Nat) (p0 : Option Addr) (d0 : Nat) (p1 : Option Addr) (d1 : Nat) (p2 : Option Addr) (d2 : Nat)
    (hx0 : x.n0 ≤ maxLen) (hx1 : x.n1 ≤ maxLen) (hx2 : x.n2 ≤ maxLen) (hy0 : y.n0 ≤ maxLen) (hy1 : y.n1 ≤ maxLen) (hy2 : y.n2 ≤ maxLen) (w : World) (hx : daAt w (dfV q0 x.n0 c0 x.wd x.st q1 x.n1 c1 q2 x.n2 c2) x) (hy : daAt w (dfV p0 y.n0 d0 y.wd y.st p1 y.n1 d1 p2 y.n2 d2) y) :
    Calls Try.prog 5 #[.string t, .agg #[.int .i64 i, .int .i64 j], .agg #[.slice q0 x.n0 c0, .int .i64 x.wd, .int .i64 x.st, .slice q1 x.n1 c1, .slice q2 x.n2 c2, .slice p0 y.n0 d0, .int .i64 y.wd, .int .i64 y.st, .slice p1 y.n1 d1, .slice p2 y.n2 d2]] w fun e w' => e = .returned (.bool true) ∧ Below w.heap.size w w' := by
  obtain ⟨m, hm⟩ : ∃ m, m = min t.size 40 := ⟨_, rfl⟩
  obtain ⟨s, hs⟩ : ∃ s, t.extract 0 m = s := ⟨_, rfl⟩
  have hsz : s.size = m := by rw [← hs, ByteArray.size_extract]; omega
  obtain ⟨r, hr⟩ : ∃ r, saB x y = r := ⟨_, rfl⟩
  have HSm : Hid (∀ w', Below w.heap.size w w' → Calls Try.prog 18 #[dfV q0 x.n0 c0 x.wd x.st q1 x.n1 c1 q2 x.n2 c2, dfV p0 y.n0 d0 y.wd y.st p1 y.n1 d1 p2 y.n2 d2] w' fun e w'' => e = .returned (.bool r) ∧ Below w'.heap.size w' w'') := Lib.hid fun w' hb => hr ▸ hS _ _ x y w' hx0 hx1 hx2 hy0 hy1 hy2 (hx.below hb) (hy.below hb)
  have HSr : Hid (∀ w', Below w.heap.size w w' → Calls Try.prog 19 #[dfV q0 x.n0 c0 x.wd x.st q1 x.n1 c1 q2 x.n2 c2, dfV p0 y.n0 d0 y.wd y.st p1 y.n1 d1 p2 y.n2 d2] w' fun e w'' => e = .returned (.bool r) ∧ Below w'.heap.size w' w'') := Lib.hid fun w' hb => hr ▸ rsame12 _ _ x y hx0 hx1 hx2 hy2 w' (hx.below hb) (hy.below hb)
  have HSs : Hid (∀ w', Below w.heap.size w w' → Calls Try.prog 18 #[dfV q0 x.n0 c0 x.wd x.st q1 x.n1 c1 q2 x.n2 c2, dfV q0 x.n0 c0 x.wd x.st q1 x.n1 c1 q2 x.n2 c2] w' fun e w'' => e = .returned (.bool true) ∧ Below w'.heap.size w' w'') := Lib.hid fun w' hb => by
    have := hS _ _ x x w' hx0 hx1 hx2 hx0 hx1 hx2 (hx.below hb) (hx.below hb)
    rw [saB_iff.2 (saP_refl x)] at this
    exact this
  obtain ⟨nx0, e0⟩ : ∃ k, x.n0 = k := ⟨_, rfl⟩
  obtain ⟨nx1, e1⟩ : ∃ k, x.n1 = k := ⟨_, rfl⟩
  obtain ⟨nx2, e2⟩ : ∃ k, x.n2 = k := ⟨_, rfl⟩
  obtain ⟨xw, e3⟩ : ∃ k, x.wd = k := ⟨_, rfl⟩
  obtain ⟨xs, e4⟩ : ∃ k, x.st = k := ⟨_, rfl⟩
  obtain ⟨ny0, e5⟩ : ∃ k, y.n0 = k := ⟨_, rfl⟩
  obtain ⟨ny1, e6⟩ : ∃ k, y.n1 = k := ⟨_, rfl⟩
  obtain ⟨ny2, e7⟩ : ∃ k, y.n2 = k := ⟨_, rfl⟩
  obtain ⟨yw, e8⟩ : ∃ k, y.wd = k := ⟨_, rfl⟩
  obtain ⟨ys, e9⟩ : ∃ k, y.st = k := ⟨_, rfl⟩
  rw [e0, e1, e2, e3, e4] at HSm HSr HSs
  rw [e5, e6, e7, e8, e9] at HSm HSr
  rw [e0, e1, e2, e3, e4, e5, e6, e7, e8, e9]
  have HWd := Lib.hid (fun w' => hW s i j w' (by rw [hsz]; omega))
  rw [hsz] at HWd
  have HAw := Lib.hid hA
  have HWr := Lib.hid (fun (a b : Nat) (h1 : a ≤ b) (h2 : b ≤ m) w' => word11 s m hsz (by omega) a b h1 h2 w')
  have h1 : (if (40 : Int) < (t.size : Int) then (40 : Int) else (t.size : Int)) = (m : Int) := by split <;> omega
  have ee1 : min (t.size : Int) 40 = (m : Int) := by omega
  have H1 := Lib.hid h1
  have m0 : (0 : Int) ≤ (m : Int) := by omega
  have m1 : (m : Int) ≤ (t.size : Int) := by omega
  have m2 : (m : Int) ≤ 40 := by omega
  have hlen : (s.size : Int) = (m : Int) := by rw [hsz]
  have HSX := Lib.hid hs
  obtain ⟨D, hD⟩ : ∃ D, w.heap.size = D := ⟨_, rfl⟩
  obtain ⟨W0, hW0⟩ : ∃ W0, (w.alloc (.cells #[.int .i64 i, .int .i64 j] 35)).alloc (.cells #[.slice q0 nx0 c0, .int .i64 xw, .int .i64 xs, .slice q1 nx1 c1, .slice q2 nx2 c2, .slice p0 ny0 d0, .int .i64 yw, .int .i64 ys, .slice p1 ny1 d1, .slice p2 ny2 d2] 36) = W0 := ⟨_, rfl⟩
  have hs1 : (w.alloc (.cells #[.int .i64 i, .int .i64 j] 35)).heap.size = D + 1 := by rw [World.size_alloc, hD]
  have hz : W0.heap.size = D + 2 := by rw [← hW0, World.size_alloc, hs1]
  have hb0 : Below D w W0 := hW0 ▸ ((Below.refl _ _).alloc (by omega) _).alloc (by omega) _
  have hk2 : W0.heap[D]? = some (.cells #[.int .i64 i, .int .i64 j] 35 (0, 0)) := by
    rw [← hW0]
    exact (Below.heap_alloc _ _ D (by omega)).trans (hD ▸ heap_alloc_new w _)
  have hk10 : W0.heap[D + 1]? = some (.cells #[.slice q0 nx0 c0, .int .i64 xw, .int .i64 xs, .slice q1 nx1 c1, .slice q2 nx2 c2, .slice p0 ny0 d0, .int .i64 yw, .int .i64 ys, .slice p1 ny1 d1, .slice p2 ny2 d2] 36 (0, 0)) := by
    have := heap_alloc_new (w.alloc (.cells #[.int .i64 i, .int .i64 j] 35)) (.cells #[.slice q0 nx0 c0, .int .i64 xw, .int .i64 xs, .slice q1 nx1 c1, .slice q2 nx2 c2, .slice p0 ny0 d0, .int .i64 yw, .int .i64 ys, .slice p1 ny1 d1, .slice p2 ny2 d2] 36)
    rw [hW0, hs1] at this
    exact this
  have HT : Hid (∀ w', Below (D + 2) W0 w' → w'.cell? ⟨D, 0, none⟩ = some (.int .i64 i) ∧ w'.cell? ⟨D, 1, none⟩ = some (.int .i64 j)) := Lib.hid fun w' h => by
    have := (h.block D (by omega)).trans hk2
    constructor <;> simp [World.cell?, this]
  have HB10 : Hid (∀ w', Below (D + 2) W0 w' → w'.cell? ⟨D + 1, 0, none⟩ = some (.slice q0 nx0 c0) ∧ w'.cell? ⟨D + 1, 1, none⟩ = some (.int .i64 xw) ∧ w'.cell? ⟨D + 1, 2, none⟩ = some (.int .i64 xs) ∧ w'.cell? ⟨D + 1, 3, none⟩ = some (.slice q1 nx1 c1) ∧ w'.cell? ⟨D + 1, 4, none⟩ = some (.slice q2 nx2 c2) ∧ w'.cell? ⟨D + 1, 5, none⟩ = some (.slice p0 ny0 d0) ∧ w'.cell? ⟨D + 1, 6, none⟩ = some (.int .i64 yw) ∧ w'.cell? ⟨D + 1, 7, none⟩ = some (.int .i64 ys) ∧ w'.cell? ⟨D + 1, 8, none⟩ = some (.slice p1 ny1 d1) ∧ w'.cell? ⟨D + 1, 9, none⟩ = some (.slice p2 ny2 d2)) := Lib.hid fun w' h => by
    have := (h.block (D + 1) (by omega)).trans hk10
    refine ⟨?_, ?_, ?_, ?_, ?_, ?_, ?_, ?_, ?_, ?_⟩ <;> simp [World.cell?, this]
  have HF : Hid (∀ w', Below (D + 2) W0 w' → Below w.heap.size w w') := Lib.hid fun w' h => by rw [hD]; exact hb0.trans (h.mono (by omega))
  have HZ := Lib.hid hz; have HW0 := Lib.hid hW0
  clear hA hW hS hx hy hx0 hx1 hx2 hy0 hy1 hy2 e0 e1 e2 e3 e4 e5 e6 e7 e8 e9 hr h1 hm hs hs1 hz hb0 hk2 hk10 hW0
  go_enter Try.func5, Try.ntmps5
  go_upto_region 1 with (fail)
  rw [HW0.out]
  clear hD
  go_wp2_with fail
  refine (HAw.out _).mono ?_
  rintro e w1 ⟨rfl, hb⟩
  have HB1 : Hid (Below (D + 2) W0 w1) := Lib.hid (HZ.out ▸ hb)
  clear hb HAw
  go_wp2_with (refine wpList_plain rfl fun _ hK => wp_min9 _ _ rfl (t.size : Int) 40 (m : Int) rfl rfl H1.out (hK _ _ ?_))
  rw [HSX.out]
  clear ee1 m1
  go_region_held_law (fun w' => w'.cell? ⟨D, 0, none⟩ = some (.int .i64 i) ∧ w'.cell? ⟨D, 1, none⟩ = some (.int .i64 j)) (first | exact HT.out _ HB1.out.drew) (fail)
  have HB2 : Hid (Below (D + 2) W0 w1.drew) := Lib.hid HB1.out.drew
  have HSZ : Hid (D + 2 ≤ w1.drew.heap.size) := Lib.hid (by have := HB1.out.size; have := HZ.out; simp; omega)
  have HSZ2 : Hid (∀ o, D + 2 ≤ (w1.drew.alloc o).heap.size) := Lib.hid fun o => by rw [World.size_alloc]; have := HSZ.out; omega
  obtain ⟨g, hg⟩ : ∃ g, w1.heap.size = g := ⟨_, rfl⟩
  have HG1 := Lib.hid hg
  go_wp2_with fail
  go_region_held_law (fun w' => w'.cell? ⟨D + 1, 0, none⟩ = some (.slice q0 nx0 c0) ∧ w'.cell? ⟨D + 1, 1, none⟩ = some (.int .i64 xw) ∧ w'.cell? ⟨D + 1, 2, none⟩ = some (.int .i64 xs) ∧ w'.cell? ⟨D + 1, 3, none⟩ = some (.slice q1 nx1 c1) ∧ w'.cell? ⟨D + 1, 4, none⟩ = some (.slice q2 nx2 c2) ∧ w'.cell? ⟨D + 1, 5, none⟩ = some (.slice p0 ny0 d0) ∧ w'.cell? ⟨D + 1, 6, none⟩ = some (.int .i64 yw) ∧ w'.cell? ⟨D + 1, 7, none⟩ = some (.int .i64 ys) ∧ w'.cell? ⟨D + 1, 8, none⟩ = some (.slice p1 ny1 d1) ∧ w'.cell? ⟨D + 1, 9, none⟩ = some (.slice p2 ny2 d2)) (first | exact HB10.out _ HB2.out.drew | exact HB10.out _ (HB2.out.alloc HSZ.out _).drew | exact HB10.out _ ((HB2.out.alloc HSZ.out _).alloc (HSZ2.out _) _).drew) (fail)
  all_goals
      first
      | (obtain ⟨W2, hW2⟩ : ∃ W2, ((w1.alloc (.cells #[.slice q0 nx0 c0, .int .i64 xw, .int .i64 xs, .slice q1 nx1 c1, .slice q2 nx2 c2] 25)).alloc (.cells #[.slice p0 ny0 d0, .int .i64 yw, .int .i64 ys, .slice p1 ny1 d1, .slice p2 ny2 d2] 25)).drew.drew = W2 := ⟨_, rfl⟩
         rw [hW2]
         have HKA : Hid (isDf W2 (g) q0 nx0 c0 xw xs q1 nx1 c1 q2 nx2 c2) := Lib.hid (by
           rw [← hW2]
           exact (Below.heap_alloc _ _ g (by rw [World.size_alloc, HG1.out]; omega)).trans (HG1.out ▸ heap_alloc_new w1 _))
         have HKB : Hid (isDf W2 (g + 1) p0 ny0 d0 yw ys p1 ny1 d1 p2 ny2 d2) := Lib.hid (by
           rw [← hW2]
           have h1 := heap_alloc_new (w1.alloc (.cells #[.slice q0 nx0 c0, .int .i64 xw, .int .i64 xs, .slice q1 nx1 c1, .slice q2 nx2 c2] 25)) (.cells #[.slice p0 ny0 d0, .int .i64 yw, .int .i64 ys, .slice p1 ny1 d1, .slice p2 ny2 d2] 25)
           rw [World.size_alloc, HG1.out] at h1
           exact h1)
         have HBW : Hid (Below (D + 2) W0 W2) := Lib.hid (hW2 ▸ ((HB1.out.alloc HSZ.out _).alloc (HSZ2.out _) _).drew.drew)
         obtain ⟨ga, hga⟩ : ∃ ga, g = ga := ⟨_, rfl⟩
         obtain ⟨gb, hgb⟩ : ∃ gb, g + 1 = gb := ⟨_, rfl⟩
         rw [hga] at HKA; rw [hgb] at HKB
         rw [hgb, hga]
         clear hga hgb hW2)
      | (obtain ⟨W2, hW2⟩ : ∃ W2, ((w1.alloc (.cells #[.slice p0 ny0 d0, .int .i64 yw, .int .i64 ys, .slice p1 ny1 d1, .slice p2 ny2 d2] 25)).alloc (.cells #[.slice q0 nx0 c0, .int .i64 xw, .int .i64 xs, .slice q1 nx1 c1, .slice q2 nx2 c2] 25)).drew.drew = W2 := ⟨_, rfl⟩
         rw [hW2]
         have HKA : Hid (isDf W2 (g + 1) q0 nx0 c0 xw xs q1 nx1 c1 q2 nx2 c2) := Lib.hid (by
           rw [← hW2]
           have h1 := heap_alloc_new (w1.alloc (.cells #[.slice p0 ny0 d0, .int .i64 yw, .int .i64 ys, .slice p1 ny1 d1, .slice p2 ny2 d2] 25)) (.cells #[.slice q0 nx0 c0, .int .i64 xw, .int .i64 xs, .slice q1 nx1 c1, .slice q2 nx2 c2] 25)
           rw [World.size_alloc, HG1.out] at h1
           exact h1)
         have HKB : Hid (isDf W2 (g) p0 ny0 d0 yw ys p1 ny1 d1 p2 ny2 d2) := Lib.hid (by
           rw [← hW2]
           exact (Below.heap_alloc _ _ g (by rw [World.size_alloc, HG1.out]; omega)).trans (HG1.out ▸ heap_alloc_new w1 _))
         have HBW : Hid (Below (D + 2) W0 W2) := Lib.hid (hW2 ▸ ((HB1.out.alloc HSZ.out _).alloc (HSZ2.out _) _).drew.drew)
         obtain ⟨ga, hga⟩ : ∃ ga, g + 1 = ga := ⟨_, rfl⟩
         obtain ⟨gb, hgb⟩ : ∃ gb, g = gb := ⟨_, rfl⟩
         rw [hga] at HKA; rw [hgb] at HKB
         rw [hga, hgb]
         clear hga hgb hW2)
  all_goals
    clear hg HG1 HSZ HSZ2 HB2 HB1 HT HB10
    have HSZ : Hid (D + 2 ≤ W2.heap.size) := Lib.hid (by have := HBW.out.size; have := HZ.out; omega)
    have HK : Hid (∀ w', Below W2.heap.size W2 w' → w'.cell? ⟨ga, 0, none⟩ = some (.slice q0 nx0 c0) ∧ w'.cell? ⟨ga, 1, none⟩ = some (.int .i64 xw) ∧ w'.cell? ⟨ga, 2, none⟩ = some (.int .i64 xs) ∧ w'.cell? ⟨ga, 3, none⟩ = some (.slice q1 nx1 c1) ∧ w'.cell? ⟨ga, 4, none⟩ = some (.slice q2 nx2 c2) ∧ w'.cell? ⟨gb, 0, none⟩ = some (.slice p0 ny0 d0) ∧ w'.cell? ⟨gb, 1, none⟩ = some (.int .i64 yw) ∧ w'.cell? ⟨gb, 2, none⟩ = some (.int .i64 ys) ∧ w'.cell? ⟨gb, 3, none⟩ = some (.slice p1 ny1 d1) ∧ w'.cell? ⟨gb, 4, none⟩ = some (.slice p2 ny2 d2)) := Lib.hid fun w' hb => by
      obtain ⟨a0, a1, a2, a3, a4⟩ := (HKA.out.below hb HKA.out.lt).cells
      obtain ⟨b0, b1, b2, b3, b4⟩ := (HKB.out.below hb HKB.out.lt).cells
      exact ⟨a0, a1, a2, a3, a4, b0, b1, b2, b3, b4⟩
    clear HKA HKB
    go_wp2_with fail
    refine (HWd.out _).mono ?_
    rintro e w4 ⟨hyes, hno, hb4⟩
    have HB4 := Lib.hid hb4
    by_cases hin : 0 ≤ i ∧ i ≤ j ∧ j ≤ (m : Int)
    · obtain ⟨v, rfl, hv⟩ := hyes hin
      obtain ⟨p, c, rfl, hrd⟩ := hv
      clear hyes hno hb4
      obtain ⟨a, rfl⟩ : ∃ a : Nat, i = (a : Int) := ⟨i.toNat, by omega⟩
      obtain ⟨b, rfl⟩ : ∃ b : Nat, j = (b : Int) := ⟨j.toNat, by omega⟩
      rw [Int.toNat_natCast, Int.toNat_natCast] at hrd
      rw [Int.toNat_natCast, Int.toNat_natCast]
      obtain ⟨Y, hY⟩ : ∃ Y, wrY m (tx7 s) a b = Y := ⟨_, rfl⟩
      have HW2 : Hid (∀ w', Calls Try.prog 21 #[.string s, .int .i64 (a : Int), .int .i64 (b : Int)] w' fun e w'' => ∃ v, e = .returned v ∧ rdW w'' v Y ∧ Below w'.heap.size w' w'') := Lib.hid fun w' => hY ▸ HWr.out a b (by omega) (by omega) w'
      have HYL : Hid (Y.length ≤ maxLen) := Lib.hid (by have := wrY_len (tx := tx7 s) (i := a) (j := b) (n := m) (by omega); rw [hY] at this; unfold maxLen; omega)
      rw [hY] at hrd
      rw [hY]
      have HRD : Hid (∀ w', Below w4.heap.size w4 w' → rdL w' p Y.length (fun q => (Y.getD q 0 : Nat))) := Lib.hid fun w' hb => hrd.below hb
      have t1 : decide ((a : Int) < 0) = false := decide_eq_false (by omega)
      have t2 : decide ((b : Int) < (a : Int)) = false := decide_eq_false (by omega)
      have t2' : decide (b < a) = false := decide_eq_false (by omega)
      have t3 : decide ((s.size : Int) < (b : Int)) = false := decide_eq_false (by rw [hlen]; omega)
      have t3' : decide (s.size < b) = false := decide_eq_false (by omega)
      have t4 : decide ((m : Int) < (b : Int)) = false := decide_eq_false (by omega)
      have t4' : decide (m < b) = false := decide_eq_false (by omega)
      clear hin hY hrd HWd HWr
      obtain ⟨k, hk⟩ : ∃ k, Y.length = k := ⟨_, rfl⟩
      rw [hk]
      have HKL := Lib.hid hk
      clear hk
      cases r
      all_goals
        obtain ⟨z0, z1, z2, z3, z4, z5, z6, z7, z8, z9⟩ := HK.out w4 HB4.out
        have hB : Below W2.heap.size W2 w4 := HB4.out
        have HC5 := Lib.hid (HSm.out w4.drew (HF.out _ (HBW.out.trans (HB4.out.drew.mono HSZ.out))))
        go_wp2_with fail
        go_region_held_law (fun w' => w'.cell? ⟨ga, 0, none⟩ = some (.slice q0 nx0 c0) ∧ w'.cell? ⟨ga, 1, none⟩ = some (.int .i64 xw) ∧ w'.cell? ⟨ga, 2, none⟩ = some (.int .i64 xs) ∧ w'.cell? ⟨ga, 3, none⟩ = some (.slice q1 nx1 c1) ∧ w'.cell? ⟨ga, 4, none⟩ = some (.slice q2 nx2 c2) ∧ w'.cell? ⟨gb, 0, none⟩ = some (.slice p0 ny0 d0) ∧ w'.cell? ⟨gb, 1, none⟩ = some (.int .i64 yw) ∧ w'.cell? ⟨gb, 2, none⟩ = some (.int .i64 ys) ∧ w'.cell? ⟨gb, 3, none⟩ = some (.slice p1 ny1 d1) ∧ w'.cell? ⟨gb, 4, none⟩ = some (.slice p2 ny2 d2))
          (first | with_reducible exact HK.out _ hB.drew | with_reducible exact HK.out _ hB)
          (first
            | (go_at_call 18; (with_reducible refine HC5.out.mono ?_); rintro e w5 ⟨rfl, h5⟩; have hB5 : Below W2.heap.size W2 w5 := Below.trans hB.drew (h5.mono hB.size); (replace hB := hB5); have HB5 := Lib.hid hB5; have HD5 : Hid (Below w4.heap.size w4 w5) := Lib.hid ((Below.refl _ _).drew.trans h5); have HC6 := Lib.hid (HSr.out w5 (HF.out _ (HBW.out.trans (hB5.mono HSZ.out)))); clear h5 hB5)
            | (go_at_call 19; (with_reducible refine HC6.out.mono ?_); rintro e w6 ⟨rfl, h6⟩; have hB6 : Below W2.heap.size W2 w6 := HB5.out.trans (h6.mono HB5.out.size); (replace hB := hB6); have HB6 := Lib.hid hB6; have HD6 : Hid (Below w4.heap.size w4 w6) := Lib.hid (HD5.out.trans (h6.mono HD5.out.size)); have HC7 := Lib.hid (HSs.out w6 (HF.out _ (HBW.out.trans (hB6.mono HSZ.out)))); clear h6 hB6)
            | (go_at_call 18; (with_reducible refine HC7.out.mono ?_); rintro e w7 ⟨rfl, h7⟩; have hB7 : Below W2.heap.size W2 w7 := HB6.out.trans (h7.mono HB6.out.size); (replace hB := hB7); have HB7 := Lib.hid hB7; have HD7 : Hid (Below w4.heap.size w4 w7) := Lib.hid (HD6.out.trans (h7.mono HD6.out.size)); clear h7 hB7))
        all_goals
          clear hB
          clear HC5 HC6 HC7 HSm HSr HSs HD5 HD6 HB5 HB6 z0 z1 z2 z3 z4 z5 z6 z7 z8 z9
          go_wp2_with fail
          refine (HW2.out w7).mono ?_
          rintro e w8 ⟨v8, rfl, ⟨p8, c8, rfl, hr8⟩, hb8⟩
          have HSM := Lib.hid (same10n p k c (fun q => (Y.getD q 0 : Nat)) p8 Y.length c8 (fun q => (Y.getD q 0 : Nat)) true ⟨fun _ => ⟨HKL.out.symm, fun _ _ => rfl⟩, fun _ => rfl⟩ (HKL.out ▸ HYL.out) w8 (HKL.out ▸ HRD.out w8 (HD7.out.trans (hb8.mono HD7.out.size))) hr8)
          have HB8 := Lib.hid (HB7.out.trans (hb8.mono HB7.out.size))
          clear hr8 hb8
          go_wp2_with fail
          refine HSM.out.mono ?_
          rintro e w9 ⟨rfl, hb9⟩
          have HFI := Lib.hid (HF.out _ (HBW.out.trans ((HB8.out.trans (hb9.mono HB8.out.size)).mono HSZ.out)))
          clear hb9
          go_wp2_with fail
          go_returns
          exact ⟨rfl, HFI.out⟩
    · obtain ⟨p, c, rfl⟩ := hno hin
      clear hyes hno hb4 HWd HWr
      by_cases g1 : i < 0
      · have t1 : decide (i < 0) = true := decide_eq_true g1
        clear hin g1
        cases r
        all_goals
          obtain ⟨z0, z1, z2, z3, z4, z5, z6, z7, z8, z9⟩ := HK.out w4 HB4.out
          have hB : Below W2.heap.size W2 w4 := HB4.out
          have HC5 := Lib.hid (HSm.out w4.drew (HF.out _ (HBW.out.trans (HB4.out.drew.mono HSZ.out))))
          go_wp2_with fail
          go_region_held_law (fun w' => w'.cell? ⟨ga, 0, none⟩ = some (.slice q0 nx0 c0) ∧ w'.cell? ⟨ga, 1, none⟩ = some (.int .i64 xw) ∧ w'.cell? ⟨ga, 2, none⟩ = some (.int .i64 xs) ∧ w'.cell? ⟨ga, 3, none⟩ = some (.slice q1 nx1 c1) ∧ w'.cell? ⟨ga, 4, none⟩ = some (.slice q2 nx2 c2) ∧ w'.cell? ⟨gb, 0, none⟩ = some (.slice p0 ny0 d0) ∧ w'.cell? ⟨gb, 1, none⟩ = some (.int .i64 yw) ∧ w'.cell? ⟨gb, 2, none⟩ = some (.int .i64 ys) ∧ w'.cell? ⟨gb, 3, none⟩ = some (.slice p1 ny1 d1) ∧ w'.cell? ⟨gb, 4, none⟩ = some (.slice p2 ny2 d2))
            (first | with_reducible exact HK.out _ hB.drew | with_reducible exact HK.out _ hB)
            (first
              | (go_at_call 18; (with_reducible refine HC5.out.mono ?_); rintro e w5 ⟨rfl, h5⟩; have hB5 : Below W2.heap.size W2 w5 := Below.trans hB.drew (h5.mono hB.size); (replace hB := hB5); have HB5 := Lib.hid hB5; have HD5 : Hid (Below w4.heap.size w4 w5) := Lib.hid ((Below.refl _ _).drew.trans h5); have HC6 := Lib.hid (HSr.out w5 (HF.out _ (HBW.out.trans (hB5.mono HSZ.out)))); clear h5 hB5)
              | (go_at_call 19; (with_reducible refine HC6.out.mono ?_); rintro e w6 ⟨rfl, h6⟩; have hB6 : Below W2.heap.size W2 w6 := HB5.out.trans (h6.mono HB5.out.size); (replace hB := hB6); have HB6 := Lib.hid hB6; have HD6 : Hid (Below w4.heap.size w4 w6) := Lib.hid (HD5.out.trans (h6.mono HD5.out.size)); have HC7 := Lib.hid (HSs.out w6 (HF.out _ (HBW.out.trans (hB6.mono HSZ.out)))); clear h6 hB6)
              | (go_at_call 18; (with_reducible refine HC7.out.mono ?_); rintro e w7 ⟨rfl, h7⟩; have hB7 : Below W2.heap.size W2 w7 := HB6.out.trans (h7.mono HB6.out.size); (replace hB := hB7); have HB7 := Lib.hid hB7; have HD7 : Hid (Below w4.heap.size w4 w7) := Lib.hid (HD6.out.trans (h7.mono HD6.out.size)); clear h7 hB7))
          all_goals
            clear hB
            have HFI := Lib.hid (HF.out _ (HBW.out.trans (HB7.out.mono HSZ.out)))
            go_wp2_with fail
            go_returns
            exact ⟨rfl, HFI.out⟩
      by_cases g2 : j < i
      · have t1 : decide (i < 0) = false := decide_eq_false g1
        have t2 : decide (j < i) = true := decide_eq_true g2
        clear hin g1 g2
        cases r
        all_goals
          obtain ⟨z0, z1, z2, z3, z4, z5, z6, z7, z8, z9⟩ := HK.out w4 HB4.out
          have hB : Below W2.heap.size W2 w4 := HB4.out
          have HC5 := Lib.hid (HSm.out w4.drew (HF.out _ (HBW.out.trans (HB4.out.drew.mono HSZ.out))))
          go_wp2_with fail
          go_region_held_law (fun w' => w'.cell? ⟨ga, 0, none⟩ = some (.slice q0 nx0 c0) ∧ w'.cell? ⟨ga, 1, none⟩ = some (.int .i64 xw) ∧ w'.cell? ⟨ga, 2, none⟩ = some (.int .i64 xs) ∧ w'.cell? ⟨ga, 3, none⟩ = some (.slice q1 nx1 c1) ∧ w'.cell? ⟨ga, 4, none⟩ = some (.slice q2 nx2 c2) ∧ w'.cell? ⟨gb, 0, none⟩ = some (.slice p0 ny0 d0) ∧ w'.cell? ⟨gb, 1, none⟩ = some (.int .i64 yw) ∧ w'.cell? ⟨gb, 2, none⟩ = some (.int .i64 ys) ∧ w'.cell? ⟨gb, 3, none⟩ = some (.slice p1 ny1 d1) ∧ w'.cell? ⟨gb, 4, none⟩ = some (.slice p2 ny2 d2))
            (first | with_reducible exact HK.out _ hB.drew | with_reducible exact HK.out _ hB)
            (first
              | (go_at_call 18; (with_reducible refine HC5.out.mono ?_); rintro e w5 ⟨rfl, h5⟩; have hB5 : Below W2.heap.size W2 w5 := Below.trans hB.drew (h5.mono hB.size); (replace hB := hB5); have HB5 := Lib.hid hB5; have HD5 : Hid (Below w4.heap.size w4 w5) := Lib.hid ((Below.refl _ _).drew.trans h5); have HC6 := Lib.hid (HSr.out w5 (HF.out _ (HBW.out.trans (hB5.mono HSZ.out)))); clear h5 hB5)
              | (go_at_call 19; (with_reducible refine HC6.out.mono ?_); rintro e w6 ⟨rfl, h6⟩; have hB6 : Below W2.heap.size W2 w6 := HB5.out.trans (h6.mono HB5.out.size); (replace hB := hB6); have HB6 := Lib.hid hB6; have HD6 : Hid (Below w4.heap.size w4 w6) := Lib.hid (HD5.out.trans (h6.mono HD5.out.size)); have HC7 := Lib.hid (HSs.out w6 (HF.out _ (HBW.out.trans (hB6.mono HSZ.out)))); clear h6 hB6)
              | (go_at_call 18; (with_reducible refine HC7.out.mono ?_); rintro e w7 ⟨rfl, h7⟩; have hB7 : Below W2.heap.size W2 w7 := HB6.out.trans (h7.mono HB6.out.size); (replace hB := hB7); have HB7 := Lib.hid hB7; have HD7 : Hid (Below w4.heap.size w4 w7) := Lib.hid (HD6.out.trans (h7.mono HD6.out.size)); clear h7 hB7))
          all_goals
            clear hB
            have HFI := Lib.hid (HF.out _ (HBW.out.trans (HB7.out.mono HSZ.out)))
            go_wp2_with fail
            go_returns
            exact ⟨rfl, HFI.out⟩
      have t1 : decide (i < 0) = false := decide_eq_false g1
      have t2 : decide (j < i) = false := decide_eq_false g2
      have t3 : decide ((s.size : Int) < j) = true := decide_eq_true (by rw [hlen]; omega)
      have t4 : decide ((m : Int) < j) = true := decide_eq_true (by omega)
      clear hin g1 g2
      cases r
      all_goals
        obtain ⟨z0, z1, z2, z3, z4, z5, z6, z7, z8, z9⟩ := HK.out w4 HB4.out
        have hB : Below W2.heap.size W2 w4 := HB4.out
        have HC5 := Lib.hid (HSm.out w4.drew (HF.out _ (HBW.out.trans (HB4.out.drew.mono HSZ.out))))
        go_wp2_with fail
        go_region_held_law (fun w' => w'.cell? ⟨ga, 0, none⟩ = some (.slice q0 nx0 c0) ∧ w'.cell? ⟨ga, 1, none⟩ = some (.int .i64 xw) ∧ w'.cell? ⟨ga, 2, none⟩ = some (.int .i64 xs) ∧ w'.cell? ⟨ga, 3, none⟩ = some (.slice q1 nx1 c1) ∧ w'.cell? ⟨ga, 4, none⟩ = some (.slice q2 nx2 c2) ∧ w'.cell? ⟨gb, 0, none⟩ = some (.slice p0 ny0 d0) ∧ w'.cell? ⟨gb, 1, none⟩ = some (.int .i64 yw) ∧ w'.cell? ⟨gb, 2, none⟩ = some (.int .i64 ys) ∧ w'.cell? ⟨gb, 3, none⟩ = some (.slice p1 ny1 d1) ∧ w'.cell? ⟨gb, 4, none⟩ = some (.slice p2 ny2 d2))
          (first | with_reducible exact HK.out _ hB.drew | with_reducible exact HK.out _ hB)
          (first
            | (go_at_call 18; (with_reducible refine HC5.out.mono ?_); rintro e w5 ⟨rfl, h5⟩; have hB5 : Below W2.heap.size W2 w5 := Below.trans hB.drew (h5.mono hB.size); (replace hB := hB5); have HB5 := Lib.hid hB5; have HD5 : Hid (Below w4.heap.size w4 w5) := Lib.hid ((Below.refl _ _).drew.trans h5); have HC6 := Lib.hid (HSr.out w5 (HF.out _ (HBW.out.trans (hB5.mono HSZ.out)))); clear h5 hB5)
            | (go_at_call 19; (with_reducible refine HC6.out.mono ?_); rintro e w6 ⟨rfl, h6⟩; have hB6 : Below W2.heap.size W2 w6 := HB5.out.trans (h6.mono HB5.out.size); (replace hB := hB6); have HB6 := Lib.hid hB6; have HD6 : Hid (Below w4.heap.size w4 w6) := Lib.hid (HD5.out.trans (h6.mono HD5.out.size)); have HC7 := Lib.hid (HSs.out w6 (HF.out _ (HBW.out.trans (hB6.mono HSZ.out)))); clear h6 hB6)
            | (go_at_call 18; (with_reducible refine HC7.out.mono ?_); rintro e w7 ⟨rfl, h7⟩; have hB7 : Below W2.heap.size W2 w7 := HB6.out.trans (h7.mono HB6.out.size); (replace hB := hB7); have HB7 := Lib.hid hB7; have HD7 : Hid (Below w4.heap.size w4 w7) := Lib.hid (HD6.out.trans (h7.mono HD6.out.size)); clear h7 hB7))
        all_goals
          clear hB
          have HFI := Lib.hid (HF.out _ (HBW.out.trans (HB7.out.mono HSZ.out)))
          go_wp2_with fail
          go_returns
          exact ⟨rfl, HFI.out⟩
end Go.Proofs.Ytpfbmbegddemoaa
