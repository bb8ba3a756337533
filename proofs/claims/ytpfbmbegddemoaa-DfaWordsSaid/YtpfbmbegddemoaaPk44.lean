/-
  The walk of the law DfaRuns, over whatever Right, Go, Run and Accepts are that do as the page says.
-/
import Derived.Test.YtpfbmbegddemoaaPk32
import Derived.Test.YtpfbmbegddemoaaPk43
namespace Go.Proofs.Ytpfbmbegddemoaa
open Go.RowKit

theorem rnD_lt (x : Da) (s : Int) (l : Nat → Int) (k : Nat) : 0 ≤ rnD x s l k → rnD x s l k < x.n2 := by
  unfold rnD
  split
  · rename_i h
    have key : ∀ k t, rwD x s.toNat l k = some t → t < x.n2 := by
      intro k
      induction k with
      | zero => intro t e; cases e; omega
      | succ k ih =>
        intro t e
        cases e2 : rwD x s.toNat l k with
        | none => rw [rwD_none e2 (k + 1) (Nat.le_succ k)] at e; cases e
        | some u =>
          by_cases hl : 0 ≤ l k ∧ l k ≤ 258
          · rw [rwD_go e2 hl] at e
            cases e
            exact (goD_at (rgB_iff.1 h.1) (ih u e2) (by omega)).2.2
          · rw [rwD_stop e2 hl (Nat.lt_succ_self k)] at e; cases e
    cases e : rwD x s.toNat l k with
    | none => intro h; simp at h
    | some t => intro _; have := key k t e; simp only; omega
  · intro h; omega
theorem acD_is (x : Da) (l : Nat → Int) (k : Nat) : (rnD x x.st l k < 0 → acD x l k = false) ∧ (0 ≤ rnD x x.st l k → acD x l k = x.T (rnD x x.st l k).toNat) := by
  unfold acD
  constructor
  · intro h
    simp
    omega
  · intro h
    cases e : x.T (rnD x x.st l k).toNat <;> simp [h]
theorem rnD_one (x : Da) (s : Int) (l : Nat → Int) : rnD x s (fun _ => l 0) 1 = rnD x s l 1 := rfl

set_option maxRecDepth 100000 in
set_option maxHeartbeats 20000000 in
theorem runs_any12 (hA : ∀ w, Calls Try.prog 6 #[] w fun e w' => e = .returned (.bool true) ∧ Below w.heap.size w w') (hG : RigD) (hGo : GooD) (hRu : RunD) (hAc : AccD)
    (q0 : Option Addr) (n0 c0 : Nat) (wd st : Int) (q1 : Option Addr) (n1 c1 : Nat) (q2 : Option Addr) (n2 c2 : Nat) (l0 l1 : Nat → Int) (T : Nat → Bool) (s : Int) (q : Option Addr) (n cap k : Nat) (hk : k = min n 20) (hcap : n ≤ cap) (l : Nat → Int) (w : World) (hl : rdL w q k l) (hr0 : n0 ≤ 300 → rdL w q0 n0 l0) (hr1 : n1 ≤ 4000 → rdL w q1 n1 l1) (hr2 : n2 ≤ 12 → rdBs w q2 n2 T) :
    Calls Try.prog 3 #[dfV q0 n0 c0 wd st q1 n1 c1 q2 n2 c2, .int .i64 s, .slice q n cap] w fun e w' => e = .returned (.bool true) ∧ Below w.heap.size w w' := by
  have h1 : (if (20 : Int) < (n : Int) then (20 : Int) else (n : Int)) = (k : Int) := by split <;> omega
  have e1 : min (n : Int) 20 = (k : Int) := by omega
  have H1 := Lib.hid h1
  have k0 : (0 : Int) ≤ (k : Int) := by omega
  have k1 : (k : Int) ≤ (cap : Int) := by omega
  have k2 : k ≤ 20 := by omega
  clear h1 hk
  obtain ⟨D, hD⟩ : ∃ D, w.heap.size = D := ⟨_, rfl⟩
  obtain ⟨w1, hw1⟩ : ∃ w1, w.alloc (.cells #[.slice q0 n0 c0, .int .i64 wd, .int .i64 st, .slice q1 n1 c1, .slice q2 n2 c2] 25) = w1 := ⟨_, rfl⟩
  have hz1 : w1.heap.size = D + 1 := by rw [← hw1, World.size_alloc, hD]
  have hb1 : Below D w w1 := hw1 ▸ (Below.refl _ _).alloc (by omega) _
  have hk1 : isDf w1 D q0 n0 c0 wd st q1 n1 c1 q2 n2 c2 := hw1 ▸ hD ▸ heap_alloc_new w _
  have HK := Lib.hid (fun w' (h : Below (D + 1) w1 w') => (hk1.below h (Nat.lt_succ_self D)).cells)
  have HAw := Lib.hid hA
  have HSm := Lib.hid (fun w => small12 q0 n0 c0 wd st q1 n1 c1 q2 n2 c2 w)
  have HW1 := Lib.hid hw1; have HG := Lib.hid hD; have HB1 := Lib.hid hb1; have HZ := Lib.hid hz1
  cases hsm : (decide ((n2 : Int) ≤ 12) && decide ((n1 : Int) ≤ 4000) && decide ((n0 : Int) ≤ 300))
  · rw [hsm] at HSm
    clear hw1 hk1 hb1 hz1 hA hG hGo hRu hAc hr0 hr1 hr2 hsm hl
    go_enter Try.func3, Try.ntmps3
    go_upto_region 1 with (fail)
    rw [HW1.out]
    clear hD
    go_wp2_with fail
    refine (HAw.out _).mono ?_
    rintro e w2 ⟨rfl, hb2⟩
    have HB2 : Hid (Below (D + 1) w1 w2) := Lib.hid (HZ.out ▸ hb2)
    obtain ⟨z0, z1, z2, z3, z4⟩ := HK.out _ HB2.out
    clear hb2
    go_wp2_with (refine wpList_plain rfl fun _ hK => wp_min9 _ _ rfl (n : Int) 20 (k : Int) rfl rfl H1.out (hK _ _ ?_))
    refine (HSm.out _).mono ?_
    rintro e w3 ⟨rfl, hb3⟩
    have HF : Hid (Below w.heap.size w w3) := Lib.hid (HG.out.symm ▸ HB1.out.trans ((HB2.out.trans (hb3.mono (by have := HB2.out.size; have := HZ.out; omega))).mono (Nat.le_succ D)))
    clear hb3 z0 z1 z2 z3 z4
    go_wp2_with fail
    go_returns
    exact ⟨rfl, HF.out⟩
  rw [hsm] at HSm
  have hs3 : n2 ≤ 12 ∧ n1 ≤ 4000 ∧ n0 ≤ 300 := by
    simp only [Bool.and_eq_true, decide_eq_true_eq] at hsm
    omega
  have hd1 : daAt w (dfV q0 n0 c0 wd st q1 n1 c1 q2 n2 c2) ⟨n0, l0, wd, st, n1, l1, n2, T⟩ := ⟨q0, c0, q1, c1, q2, c2, rfl, hr0 hs3.2.2, hr1 hs3.2.1, hr2 hs3.1⟩
  obtain ⟨x, hx⟩ : ∃ x : Da, ⟨n0, l0, wd, st, n1, l1, n2, T⟩ = x := ⟨_, rfl⟩
  rw [hx] at hd1
  have hxn : x.n2 = n2 ∧ x.st = st ∧ x.T = T := by rw [← hx]; exact ⟨rfl, rfl, rfl⟩
  have hsd : smD x := by rw [← hx]; exact ⟨show n0 ≤ 10000 by omega, show n1 ≤ 100000 by omega, show n2 ≤ 1000 by omega⟩
  have HDA := Lib.hid (fun w' (h : Below (D + 1) w1 w') => hd1.below (hD.symm ▸ hb1.trans (h.mono (Nat.le_succ D))))
  have HL := Lib.hid (fun w' (h : Below (D + 1) w1 w') => hl.below (hD.symm ▸ hb1.trans (h.mono (Nat.le_succ D))))
  have HGc := Lib.hid (fun w' (h : Below (D + 1) w1 w') => hG _ x w' hsd (HDA.out w' h))
  have HGoc := Lib.hid (fun y w' (h : Below (D + 1) w1 w') => hGo _ x s y w' hsd (HDA.out w' h))
  have HRuc := Lib.hid (fun w' (h : Below (D + 1) w1 w') => hRu _ x s q k cap l w' hsd (by omega) (HDA.out w' h) (HL.out w' h))
  have HAcc := Lib.hid (fun w' (h : Below (D + 1) w1 w') => hAc _ x q k cap l w' hsd (by omega) (HDA.out w' h) (HL.out w' h))
  have HRr := Lib.hid (fun s j (hj : j ≤ k) w' (h : Below (D + 1) w1 w') => rrun12 _ x hsd.1 hsd.2.1 hsd.2.2 s q j cap (by omega) l w' (HDA.out w' h) (fun i hi => (HL.out w' h) i (by omega)))
  have HRt := Lib.hid (fun w' (h : Below (D + 1) w1 w') => rright12 _ x hsd.1 hsd.2.1 hsd.2.2 w' (HDA.out w' h))
  have HXN := Lib.hid hxn
  have HSD := Lib.hid hsd
  have hn12 : n2 ≤ 12 := hs3.1
  clear hw1 hk1 hb1 hz1 hA hG hGo hRu hAc hr0 hr1 hr2 hsm hs3 hd1 hx hxn hsd hl
  go_enter Try.func3, Try.ntmps3
  go_upto_region 1 with (fail)
  rw [HW1.out]
  clear hD
  go_wp2_with fail
  refine (HAw.out _).mono ?_
  rintro e w2 ⟨rfl, hb2⟩
  have HB2 : Hid (Below (D + 1) w1 w2) := Lib.hid (HZ.out ▸ hb2)
  obtain ⟨z0, z1, z2, z3, z4⟩ := HK.out _ HB2.out
  clear hb2 HAw
  go_wp2_with (refine wpList_plain rfl fun _ hK => wp_min9 _ _ rfl (n : Int) 20 (k : Int) rfl rfl H1.out (hK _ _ ?_))
  refine (HSm.out _).mono ?_
  rintro e w3 ⟨rfl, hb3⟩
  have HB3 : Hid (Below (D + 1) w1 w3) := Lib.hid (HB2.out.trans (hb3.mono (by have := HB2.out.size; have := HZ.out; omega)))
  clear hb3 z0 z1 z2 z3 z4 HSm HB2
  obtain ⟨z0, z1, z2, z3, z4⟩ := HK.out _ HB3.out
  go_wp2_with fail
  refine (HRr.out st k (Nat.le_refl k) _ HB3.out).mono ?_
  rintro e w4 ⟨rfl, hb4⟩
  have HB4 : Hid (Below (D + 1) w1 w4) := Lib.hid (HB3.out.trans (hb4.mono (by have := HB3.out.size; have := HZ.out; omega)))
  have hwl := rnD_lt x st l k
  have hac := acD_is x l k
  rw [HXN.out.2.1] at hac
  obtain ⟨wt, hwt⟩ : ∃ wt, rnD x st l k = wt := ⟨_, rfl⟩
  rw [hwt] at hwl hac ⊢
  clear hb4 z0 z1 z2 z3 z4 hwt
  have HT2 : Hid (∀ w', Below (D + 1) w1 w' → ∀ j, j < n2 → ∃ b o, q2 = some ⟨b, o, none⟩ ∧ w'.cell? ⟨b, o + j, none⟩ = some (.bool (x.T j))) := Lib.hid fun w' h j hj => by
    obtain ⟨p0, p1, p2, p3, p4, p5, hv, -, -, h5⟩ := HDA.out w' h
    have e5 : p4 = q2 ∧ x.n2 = n2 := by
      simp only [dfV, Value.agg.injEq] at hv
      have h9 := congrArg (fun a => a[4]?) hv
      simp at h9
      exact ⟨h9.1.symm, h9.2.1.symm⟩
    obtain ⟨b, o, e, -, hc⟩ := h5 j (by omega)
    exact ⟨b, o, e5.1 ▸ e, hc⟩
  have HRk := Lib.hid (HRr.out s k (Nat.le_refl k))
  obtain ⟨ru, hru⟩ : ∃ ru, rnD x s l k = ru := ⟨_, rfl⟩
  obtain ⟨rb, hrb⟩ : ∃ rb, rgB x = rb := ⟨_, rfl⟩
  have hrr : (ru == ru) = true := by simp
  have hbr : (rb == rb) = true := by simp
  by_cases hk0 : 0 < k
  · have dk : decide ((0 : Int) < (k : Int)) = true := decide_eq_true (by omega)
    have kc : (1 : Int) ≤ (cap : Int) := by omega
    have k3 : (0 : Int) < (k : Int) := by omega
    obtain ⟨b, o, rfl, -, -⟩ := (HL.out _ HB4.out) 0 hk0
    obtain ⟨g1, hg1⟩ : ∃ g1, rnD x s l 1 = g1 := ⟨_, rfl⟩
    have HR1 := Lib.hid (HRr.out s 1 hk0)
    have HGo1 := Lib.hid (HGoc.out (l 0))
    obtain ⟨y, hy⟩ : ∃ y, l 0 = y := ⟨_, rfl⟩
    have hgy : rnD x s (fun _ => l 0) 1 = rnD x s l 1 := rfl
    rw [hy] at HGo1 hgy
    rw [hgy, hg1] at HGo1
    rw [hg1] at HR1
    have HKL : Hid (∀ w', Below (D + 1) w1 w' → (w'.cell? ⟨D, 0, none⟩ = some (.slice q0 n0 c0) ∧ w'.cell? ⟨D, 1, none⟩ = some (.int .i64 wd) ∧ w'.cell? ⟨D, 2, none⟩ = some (.int .i64 st) ∧ w'.cell? ⟨D, 3, none⟩ = some (.slice q1 n1 c1) ∧ w'.cell? ⟨D, 4, none⟩ = some (.slice q2 n2 c2)) ∧ w'.cell? ⟨b, o, none⟩ = some (.int .i64 y)) := Lib.hid fun w' h => ⟨HK.out w' h, by
      obtain ⟨b', o', e', -, hc⟩ := (HL.out w' h) 0 hk0
      cases e'
      rw [hy, Nat.add_zero] at hc; exact hc⟩
    rw [hru] at HRk HRuc
    rw [hrb] at HGc HRt
    have hgg : (g1 != g1) = false := by simp
    clear hy hgy hg1 hru hrb HGoc HRr
    have hB := HB4.out.drew
    go_wp2_with fail
    go_region_held_law (fun w' => w'.cell? ⟨D, 0, none⟩ = some (.slice q0 n0 c0) ∧ w'.cell? ⟨D, 1, none⟩ = some (.int .i64 wd) ∧ w'.cell? ⟨D, 2, none⟩ = some (.int .i64 st) ∧ w'.cell? ⟨D, 3, none⟩ = some (.slice q1 n1 c1) ∧ w'.cell? ⟨D, 4, none⟩ = some (.slice q2 n2 c2))
      (exact HK.out _ hB)
      (first
        | (go_at_call 8; (with_reducible refine (HR1.out _ hB).mono ?_); rintro e wk ⟨rfl, hbk⟩; (replace hB := hB.trans (hbk.mono (Nat.le_trans (Nat.le_of_eq HZ.out.symm) hB.size))); clear hbk))
    have HB5 := Lib.hid hB
    have hB := HB5.out.drew
    go_wp2_with fail
    go_region_held_law (fun w' => (w'.cell? ⟨D, 0, none⟩ = some (.slice q0 n0 c0) ∧ w'.cell? ⟨D, 1, none⟩ = some (.int .i64 wd) ∧ w'.cell? ⟨D, 2, none⟩ = some (.int .i64 st) ∧ w'.cell? ⟨D, 3, none⟩ = some (.slice q1 n1 c1) ∧ w'.cell? ⟨D, 4, none⟩ = some (.slice q2 n2 c2)) ∧ w'.cell? ⟨b, o, none⟩ = some (.int .i64 y))
      (exact HKL.out _ hB)
      (first
        | (go_at_call 9; (with_reducible refine (HGo1.out _ hB).mono ?_); rintro e wk ⟨rfl, hbk⟩; (replace hB := hB.trans (hbk.mono (Nat.le_trans (Nat.le_of_eq HZ.out.symm) hB.size))); clear hbk))
    have HBz := Lib.hid hB
    clear hB
    go_wp2_with fail
    have hB := HBz.out.drew
    by_cases hw0 : wt < 0
    · have dw : decide (wt < 0) = true := decide_eq_true hw0
      have dw' : decide ((0 : Int) ≤ wt) = false := decide_eq_false (by omega)
      rw [hac.1 hw0] at HAcc
      clear hac hwl
      refine wp_region_held_drew (S := (fun w' => w'.cell? ⟨D, 0, none⟩ = some (.slice q0 n0 c0) ∧ w'.cell? ⟨D, 1, none⟩ = some (.int .i64 wd) ∧ w'.cell? ⟨D, 2, none⟩ = some (.int .i64 st) ∧ w'.cell? ⟨D, 3, none⟩ = some (.slice q1 n1 c1) ∧ w'.cell? ⟨D, 4, none⟩ = some (.slice q2 n2 c2))) (by kernel_rfl) (HK.out _ hB) (fun hHeld => ?_)
      refine wpAnyH_take (i := 0) (oi := { dst := some 40, op := Op.load 25 (Operand.tmp 3), type := 25, pos := "law.go:40", after := #[], guard := none }) (v := .agg #[.slice q0 n0 c0, .int .i64 wd, .int .i64 st, .slice q1 n1 c1, .slice q2 n2 c2]) rfl (by kernel_rfl) (by kernel_rfl) (by kernel_rfl) (fun _ _ _ h => h) (Or.inl ⟨by rfl, ?_⟩) (by assumption) ?_
      · intro w hSw; (try dsimp only at hSw); go_simp
      try simp only [Act.put, List.setIfInBounds_toArray, List.set_cons_zero, List.set_cons_succ]
      refine wpAnyH_take (i := 2) (oi := { dst := some 42, op := Op.load 25 (Operand.tmp 3), type := 25, pos := "law.go:40", after := #[], guard := none }) (v := .agg #[.slice q0 n0 c0, .int .i64 wd, .int .i64 st, .slice q1 n1 c1, .slice q2 n2 c2]) rfl (by kernel_rfl) (by kernel_rfl) (by kernel_rfl) (fun _ _ _ h => h) (Or.inl ⟨by rfl, ?_⟩) (by assumption) ?_
      · intro w hSw; (try dsimp only at hSw); go_simp
      try simp only [Act.put, List.setIfInBounds_toArray, List.set_cons_zero, List.set_cons_succ]
      refine wpAnyH_ready (rs := [1]) (by kernel_rfl) (by simp) ?_
      refine AllReadyH.cons rfl (fun K' hK' => ?_) AllReadyH.nil
      go_simp
      (with_reducible refine (HGc.out _ hB).mono ?_)
      rintro e wk ⟨rfl, hbk⟩
      replace hB := hB.trans (hbk.mono (Nat.le_trans (Nat.le_of_eq HZ.out.symm) hB.size))
      clear hbk
      refine hK'.out _ _ ?_ (fun hHeld => ?_)
      · (try dsimp only)
        exact HK.out _ hB
      clear hK' K'
      try simp only [Act.put, List.setIfInBounds_toArray, List.set_cons_zero, List.set_cons_succ]
      refine wpAnyH_ready (rs := [3]) (by kernel_rfl) (by simp) ?_
      refine AllReadyH.cons rfl (fun K' hK' => ?_) AllReadyH.nil
      go_simp
      (with_reducible refine (HRt.out _ hB).mono ?_)
      rintro e wk ⟨rfl, hbk⟩
      replace hB := hB.trans (hbk.mono (Nat.le_trans (Nat.le_of_eq HZ.out.symm) hB.size))
      clear hbk
      refine hK'.out _ _ ?_ (fun hHeld => ?_)
      · (try dsimp only)
        exact HK.out _ hB
      clear hK' K'
      try simp only [Act.put, List.setIfInBounds_toArray, List.set_cons_zero, List.set_cons_succ]
      refine wpAnyH_take (i := 4) (oi := { dst := some 44, op := Op.binOp BinOp.eql 4 (Operand.tmp 41) (Operand.tmp 43) 4, type := 4, pos := "law.go:40", after := #[{ on := 1, ground := Ground.data }, { on := 3, ground := Ground.data }], guard := none }) (v := .bool true) rfl (by kernel_rfl) (by kernel_rfl) (by kernel_rfl) (fun _ _ _ h => h) (Or.inl ⟨by rfl, ?_⟩) (by assumption) ?_
      · intro w hSw; (try dsimp only at hSw); go_simp
      try simp only [Act.put, List.setIfInBounds_toArray, List.set_cons_zero, List.set_cons_succ]
      refine wpAnyH_take (i := 5) (oi := { dst := some 45, op := Op.move (Operand.tmp 44), type := 4, pos := "law.go:40", after := #[{ on := 4, ground := Ground.data }, { on := 3, ground := Ground.chain }], guard := none }) (v := .bool true) rfl (by kernel_rfl) (by kernel_rfl) (by kernel_rfl) (fun _ _ _ h => h) (Or.inl ⟨by rfl, ?_⟩) (by assumption) ?_
      · intro w hSw; (try dsimp only at hSw); go_simp
      try simp only [Act.put, List.setIfInBounds_toArray, List.set_cons_zero, List.set_cons_succ]
      refine wpAnyH_take (i := 6) (oi := { dst := some 46, op := Op.load 25 (Operand.tmp 3), type := 25, pos := "law.go:40", after := #[{ on := 5, ground := Ground.guard }], guard := some (5, true) }) (v := .agg #[.slice q0 n0 c0, .int .i64 wd, .int .i64 st, .slice q1 n1 c1, .slice q2 n2 c2]) rfl (by kernel_rfl) (by kernel_rfl) (by kernel_rfl) (fun _ _ _ h => h) (Or.inl ⟨by rfl, ?_⟩) (by assumption) ?_
      · intro w hSw; (try dsimp only at hSw); go_simp
      try simp only [Act.put, List.setIfInBounds_toArray, List.set_cons_zero, List.set_cons_succ]
      refine wpAnyH_take (i := 7) (oi := { dst := some 47, op := Op.move (Operand.tmp 1), type := 3, pos := "law.go:40", after := #[{ on := 5, ground := Ground.guard }], guard := some (5, true) }) (v := .int .i64 s) rfl (by kernel_rfl) (by kernel_rfl) (by kernel_rfl) (fun _ _ _ h => h) (Or.inl ⟨by rfl, ?_⟩) (by assumption) ?_
      · intro w hSw; (try dsimp only at hSw); go_simp
      try simp only [Act.put, List.setIfInBounds_toArray, List.set_cons_zero, List.set_cons_succ]
      refine wpAnyH_take (i := 8) (oi := { dst := some 48, op := Op.move (Operand.tmp 2), type := 22, pos := "law.go:40", after := #[{ on := 5, ground := Ground.guard }], guard := some (5, true) }) (v := .slice (some ⟨b, o, none⟩) k cap) rfl (by kernel_rfl) (by kernel_rfl) (by kernel_rfl) (fun _ _ _ h => h) (Or.inl ⟨by rfl, ?_⟩) (by assumption) ?_
      · intro w hSw; (try dsimp only at hSw); go_simp
      try simp only [Act.put, List.setIfInBounds_toArray, List.set_cons_zero, List.set_cons_succ]
      refine wpAnyH_take (i := 10) (oi := { dst := some 50, op := Op.load 25 (Operand.tmp 3), type := 25, pos := "law.go:40", after := #[{ on := 5, ground := Ground.guard }], guard := some (5, true) }) (v := .agg #[.slice q0 n0 c0, .int .i64 wd, .int .i64 st, .slice q1 n1 c1, .slice q2 n2 c2]) rfl (by kernel_rfl) (by kernel_rfl) (by kernel_rfl) (fun _ _ _ h => h) (Or.inl ⟨by rfl, ?_⟩) (by assumption) ?_
      · intro w hSw; (try dsimp only at hSw); go_simp
      try simp only [Act.put, List.setIfInBounds_toArray, List.set_cons_zero, List.set_cons_succ]
      refine wpAnyH_take (i := 11) (oi := { dst := some 51, op := Op.move (Operand.tmp 1), type := 3, pos := "law.go:40", after := #[{ on := 5, ground := Ground.guard }], guard := some (5, true) }) (v := .int .i64 s) rfl (by kernel_rfl) (by kernel_rfl) (by kernel_rfl) (fun _ _ _ h => h) (Or.inl ⟨by rfl, ?_⟩) (by assumption) ?_
      · intro w hSw; (try dsimp only at hSw); go_simp
      try simp only [Act.put, List.setIfInBounds_toArray, List.set_cons_zero, List.set_cons_succ]
      refine wpAnyH_take (i := 12) (oi := { dst := some 52, op := Op.move (Operand.tmp 2), type := 22, pos := "law.go:40", after := #[{ on := 5, ground := Ground.guard }], guard := some (5, true) }) (v := .slice (some ⟨b, o, none⟩) k cap) rfl (by kernel_rfl) (by kernel_rfl) (by kernel_rfl) (fun _ _ _ h => h) (Or.inl ⟨by rfl, ?_⟩) (by assumption) ?_
      · intro w hSw; (try dsimp only at hSw); go_simp
      try simp only [Act.put, List.setIfInBounds_toArray, List.set_cons_zero, List.set_cons_succ]
      refine wpAnyH_ready (rs := [9]) (by kernel_rfl) (by simp) ?_
      refine AllReadyH.cons rfl (fun K' hK' => ?_) AllReadyH.nil
      go_simp
      (with_reducible refine (HRuc.out _ hB).mono ?_)
      rintro e wk ⟨rfl, hbk⟩
      replace hB := hB.trans (hbk.mono (Nat.le_trans (Nat.le_of_eq HZ.out.symm) hB.size))
      clear hbk
      refine hK'.out _ _ ?_ (fun hHeld => ?_)
      · (try dsimp only)
        exact HK.out _ hB
      clear hK' K'
      try simp only [Act.put, List.setIfInBounds_toArray, List.set_cons_zero, List.set_cons_succ]
      refine wpAnyH_ready (rs := [13]) (by kernel_rfl) (by simp) ?_
      refine AllReadyH.cons rfl (fun K' hK' => ?_) AllReadyH.nil
      go_simp
      (with_reducible refine (HRk.out _ hB).mono ?_)
      rintro e wk ⟨rfl, hbk⟩
      replace hB := hB.trans (hbk.mono (Nat.le_trans (Nat.le_of_eq HZ.out.symm) hB.size))
      clear hbk
      refine hK'.out _ _ ?_ (fun hHeld => ?_)
      · (try dsimp only)
        exact HK.out _ hB
      clear hK' K'
      try simp only [Act.put, List.setIfInBounds_toArray, List.set_cons_zero, List.set_cons_succ]
      refine wpAnyH_take (i := 14) (oi := { dst := some 54, op := Op.binOp BinOp.eql 3 (Operand.tmp 49) (Operand.tmp 53) 3, type := 4, pos := "law.go:40", after := #[{ on := 9, ground := Ground.data }, { on := 13, ground := Ground.data }, { on := 5, ground := Ground.guard }], guard := some (5, true) }) (v := .bool true) rfl (by kernel_rfl) (by kernel_rfl) (by kernel_rfl) (fun _ _ _ h => h) (Or.inl ⟨by rfl, ?_⟩) (by assumption) ?_
      · intro w hSw; (try dsimp only at hSw); go_simp
      try simp only [Act.put, List.setIfInBounds_toArray, List.set_cons_zero, List.set_cons_succ]
      refine wpAnyH_take (i := 15) (oi := { dst := some 55, op := Op.pick (Operand.tmp 45) (Operand.tmp 54) (Operand.const (Value.bool false)), type := 4, pos := "law.go:40", after := #[{ on := 5, ground := Ground.data }, { on := 14, ground := Ground.data }], guard := none }) (v := .bool true) rfl (by kernel_rfl) (by kernel_rfl) (by kernel_rfl) (fun _ _ _ h => h) (Or.inl ⟨by rfl, ?_⟩) (by assumption) ?_
      · intro w hSw; (try dsimp only at hSw); go_simp
      try simp only [Act.put, List.setIfInBounds_toArray, List.set_cons_zero, List.set_cons_succ]
      refine wpAnyH_take (i := 16) (oi := { dst := some 56, op := Op.move (Operand.tmp 55), type := 4, pos := "law.go:40", after := #[{ on := 15, ground := Ground.data }, { on := 13, ground := Ground.chain }], guard := none }) (v := .bool true) rfl (by kernel_rfl) (by kernel_rfl) (by kernel_rfl) (fun _ _ _ h => h) (Or.inl ⟨by rfl, ?_⟩) (by assumption) ?_
      · intro w hSw; (try dsimp only at hSw); go_simp
      try simp only [Act.put, List.setIfInBounds_toArray, List.set_cons_zero, List.set_cons_succ]
      refine wpAnyH_take (i := 17) (oi := { dst := some 57, op := Op.load 25 (Operand.tmp 3), type := 25, pos := "law.go:40", after := #[{ on := 16, ground := Ground.guard }], guard := some (16, true) }) (v := .agg #[.slice q0 n0 c0, .int .i64 wd, .int .i64 st, .slice q1 n1 c1, .slice q2 n2 c2]) rfl (by kernel_rfl) (by kernel_rfl) (by kernel_rfl) (fun _ _ _ h => h) (Or.inl ⟨by rfl, ?_⟩) (by assumption) ?_
      · intro w hSw; (try dsimp only at hSw); go_simp
      try simp only [Act.put, List.setIfInBounds_toArray, List.set_cons_zero, List.set_cons_succ]
      refine wpAnyH_take (i := 18) (oi := { dst := some 58, op := Op.move (Operand.tmp 2), type := 22, pos := "law.go:40", after := #[{ on := 16, ground := Ground.guard }], guard := some (16, true) }) (v := .slice (some ⟨b, o, none⟩) k cap) rfl (by kernel_rfl) (by kernel_rfl) (by kernel_rfl) (fun _ _ _ h => h) (Or.inl ⟨by rfl, ?_⟩) (by assumption) ?_
      · intro w hSw; (try dsimp only at hSw); go_simp
      try simp only [Act.put, List.setIfInBounds_toArray, List.set_cons_zero, List.set_cons_succ]
      refine wpAnyH_take (i := 20) (oi := { dst := some 60, op := Op.move (Operand.tmp 7), type := 3, pos := "law.go:40", after := #[{ on := 16, ground := Ground.guard }], guard := some (16, true) }) (v := .int .i64 wt) rfl (by kernel_rfl) (by kernel_rfl) (by kernel_rfl) (fun _ _ _ h => h) (Or.inl ⟨by rfl, ?_⟩) (by assumption) ?_
      · intro w hSw; (try dsimp only at hSw); go_simp
      try simp only [Act.put, List.setIfInBounds_toArray, List.set_cons_zero, List.set_cons_succ]
      refine wpAnyH_take (i := 21) (oi := { dst := some 61, op := Op.binOp BinOp.geq 3 (Operand.tmp 60) (Operand.const (Value.int IntKind.i64 0)) 3, type := 4, pos := "law.go:40", after := #[{ on := 20, ground := Ground.data }, { on := 16, ground := Ground.guard }], guard := some (16, true) }) (v := .bool false) rfl (by kernel_rfl) (by kernel_rfl) (by kernel_rfl) (fun _ _ _ h => h) (Or.inl ⟨by rfl, ?_⟩) (by assumption) ?_
      · intro w hSw; (try dsimp only at hSw); go_simp
      try simp only [Act.put, List.setIfInBounds_toArray, List.set_cons_zero, List.set_cons_succ]
      refine wpAnyH_ready (rs := [19]) (by kernel_rfl) (by simp) ?_
      refine AllReadyH.cons rfl (fun K' hK' => ?_) AllReadyH.nil
      go_simp
      (with_reducible refine (HAcc.out _ hB).mono ?_)
      rintro e wk ⟨rfl, hbk⟩
      replace hB := hB.trans (hbk.mono (Nat.le_trans (Nat.le_of_eq HZ.out.symm) hB.size))
      clear hbk
      refine hK'.out _ _ ?_ (fun hHeld => ?_)
      · (try dsimp only)
        exact HK.out _ hB
      clear hK' K'
      try simp only [Act.put, List.setIfInBounds_toArray, List.set_cons_zero, List.set_cons_succ]
      refine wpAnyH_take (i := 22) (oi := { dst := some 62, op := Op.move (Operand.tmp 61), type := 4, pos := "law.go:40", after := #[{ on := 21, ground := Ground.data }, { on := 19, ground := Ground.chain }, { on := 16, ground := Ground.guard }], guard := some (16, true) }) (v := .bool false) rfl (by kernel_rfl) (by kernel_rfl) (by kernel_rfl) (fun _ _ _ h => h) (Or.inl ⟨by rfl, ?_⟩) (by assumption) ?_
      · intro w hSw; (try dsimp only at hSw); go_simp
      try simp only [Act.put, List.setIfInBounds_toArray, List.set_cons_zero, List.set_cons_succ]
      refine wpAnyH_take (i := 23) (oi := { dst := some 63, op := Op.fieldAddr 25 (Operand.tmp 3) 4, type := 0, pos := "law.go:40", after := #[{ on := 22, ground := Ground.guard }], guard := some (22, true) }) (v := undef) rfl (by kernel_rfl) (by kernel_rfl) (by kernel_rfl) (fun _ _ _ h => h) (Or.inr ⟨by rfl, rfl⟩) (by assumption) ?_
      try simp only [Act.put, List.setIfInBounds_toArray, List.set_cons_zero, List.set_cons_succ]
      refine wpAnyH_take (i := 25) (oi := { dst := some 65, op := Op.move (Operand.tmp 7), type := 3, pos := "law.go:40", after := #[{ on := 22, ground := Ground.guard }], guard := some (22, true) }) (v := undef) rfl (by kernel_rfl) (by kernel_rfl) (by kernel_rfl) (fun _ _ _ h => h) (Or.inr ⟨by rfl, rfl⟩) (by assumption) ?_
      try simp only [Act.put, List.setIfInBounds_toArray, List.set_cons_zero, List.set_cons_succ]
      refine wpAnyH_take (i := 24) (oi := { dst := some 64, op := Op.load 23 (Operand.tmp 63), type := 23, pos := "law.go:40", after := #[{ on := 23, ground := Ground.data }, { on := 22, ground := Ground.guard }], guard := some (22, true) }) (v := undef) rfl (by kernel_rfl) (by kernel_rfl) (by kernel_rfl) (fun _ _ _ h => h) (Or.inr ⟨by rfl, rfl⟩) (by assumption) ?_
      try simp only [Act.put, List.setIfInBounds_toArray, List.set_cons_zero, List.set_cons_succ]
      refine wpAnyH_take (i := 26) (oi := { dst := some 66, op := Op.indexAddr 23 (Operand.tmp 64) (Operand.tmp 65), type := 0, pos := "law.go:40", after := #[{ on := 24, ground := Ground.data }, { on := 25, ground := Ground.data }, { on := 22, ground := Ground.guard }], guard := some (22, true) }) (v := undef) rfl (by kernel_rfl) (by kernel_rfl) (by kernel_rfl) (fun _ _ _ h => h) (Or.inr ⟨by rfl, rfl⟩) (by assumption) ?_
      try simp only [Act.put, List.setIfInBounds_toArray, List.set_cons_zero, List.set_cons_succ]
      refine wpAnyH_take (i := 27) (oi := { dst := some 67, op := Op.load 4 (Operand.tmp 66), type := 4, pos := "law.go:40", after := #[{ on := 26, ground := Ground.data }, { on := 22, ground := Ground.guard }], guard := some (22, true) }) (v := undef) rfl (by kernel_rfl) (by kernel_rfl) (by kernel_rfl) (fun _ _ _ h => h) (Or.inr ⟨by rfl, rfl⟩) (by assumption) ?_
      try simp only [Act.put, List.setIfInBounds_toArray, List.set_cons_zero, List.set_cons_succ]
      refine wpAnyH_take (i := 28) (oi := { dst := some 68, op := Op.pick (Operand.tmp 62) (Operand.tmp 67) (Operand.const (Value.bool false)), type := 4, pos := "law.go:40", after := #[{ on := 22, ground := Ground.data }, { on := 27, ground := Ground.data }, { on := 16, ground := Ground.guard }], guard := some (16, true) }) (v := .bool false) rfl (by kernel_rfl) (by kernel_rfl) (by kernel_rfl) (fun _ _ _ h => h) (Or.inl ⟨by rfl, ?_⟩) (by assumption) ?_
      · intro w hSw; (try dsimp only at hSw); go_simp
      try simp only [Act.put, List.setIfInBounds_toArray, List.set_cons_zero, List.set_cons_succ]
      refine wpAnyH_take (i := 29) (oi := { dst := some 69, op := Op.binOp BinOp.eql 4 (Operand.tmp 59) (Operand.tmp 68) 4, type := 4, pos := "law.go:40", after := #[{ on := 19, ground := Ground.data }, { on := 28, ground := Ground.data }, { on := 16, ground := Ground.guard }], guard := some (16, true) }) (v := .bool true) rfl (by kernel_rfl) (by kernel_rfl) (by kernel_rfl) (fun _ _ _ h => h) (Or.inl ⟨by rfl, ?_⟩) (by assumption) ?_
      · intro w hSw; (try dsimp only at hSw); go_simp
      try simp only [Act.put, List.setIfInBounds_toArray, List.set_cons_zero, List.set_cons_succ]
      refine wpAnyH_take (i := 30) (oi := { dst := some 70, op := Op.pick (Operand.tmp 56) (Operand.tmp 69) (Operand.const (Value.bool false)), type := 4, pos := "law.go:40", after := #[{ on := 16, ground := Ground.data }, { on := 29, ground := Ground.data }], guard := none }) (v := .bool true) rfl (by kernel_rfl) (by kernel_rfl) (by kernel_rfl) (fun _ _ _ h => h) (Or.inl ⟨by rfl, ?_⟩) (by assumption) ?_
      · intro w hSw; (try dsimp only at hSw); go_simp
      try simp only [Act.put, List.setIfInBounds_toArray, List.set_cons_zero, List.set_cons_succ]
      refine wpAnyH_take (i := 31) (oi := { dst := some 6, op := Op.assign (Operand.tmp 70), type := 4, pos := "law.go:40", after := #[{ on := 30, ground := Ground.data }, { on := 22, ground := Ground.chain }, { on := 0, ground := Ground.phase }, { on := 1, ground := Ground.phase }, { on := 2, ground := Ground.phase }, { on := 3, ground := Ground.phase }, { on := 4, ground := Ground.phase }, { on := 5, ground := Ground.phase }, { on := 6, ground := Ground.phase }, { on := 7, ground := Ground.phase }, { on := 8, ground := Ground.phase }, { on := 9, ground := Ground.phase }, { on := 10, ground := Ground.phase }, { on := 11, ground := Ground.phase }, { on := 12, ground := Ground.phase }, { on := 13, ground := Ground.phase }, { on := 14, ground := Ground.phase }, { on := 15, ground := Ground.phase }, { on := 16, ground := Ground.phase }, { on := 17, ground := Ground.phase }, { on := 18, ground := Ground.phase }, { on := 19, ground := Ground.phase }, { on := 20, ground := Ground.phase }, { on := 21, ground := Ground.phase }, { on := 22, ground := Ground.phase }, { on := 23, ground := Ground.phase }, { on := 24, ground := Ground.phase }, { on := 25, ground := Ground.phase }, { on := 26, ground := Ground.phase }, { on := 27, ground := Ground.phase }, { on := 28, ground := Ground.phase }, { on := 29, ground := Ground.phase }, { on := 30, ground := Ground.phase }], guard := none }) (v := .bool true) rfl (by kernel_rfl) (by kernel_rfl) (by kernel_rfl) (fun _ _ _ h => h) (Or.inl ⟨by rfl, ?_⟩) (by assumption) ?_
      · intro w hSw; (try dsimp only at hSw); go_simp
      try simp only [Act.put, List.setIfInBounds_toArray, List.set_cons_zero, List.set_cons_succ]
      refine wpAnyH_done (by kernel_rfl) ?_ _
      go_wp2_with fail
      have HF := Lib.hid (HB1.out.trans (hB.mono (Nat.le_succ D)))
      go_returns
      exact ⟨by simp, HG.out.symm ▸ HF.out⟩
    · obtain ⟨W, rfl⟩ : ∃ W : Nat, wt = W := ⟨wt.toNat, by omega⟩
      have dw' : decide ((0 : Int) ≤ (W : Int)) = true := decide_eq_true (by omega)
      have hW2 := hwl (by omega)
      rw [HXN.out.1] at hW2
      have w0 : (0 : Int) ≤ (W : Int) := by omega
      have w2 : (W : Int) < (n2 : Int) := by omega
      have hac2 := hac.2 (by omega)
      rw [Int.toNat_natCast] at hac2
      obtain ⟨tb, htb⟩ : ∃ tb, x.T W = tb := ⟨_, rfl⟩
      rw [htb] at hac2
      rw [hac2] at HAcc
      obtain ⟨bt, ot, rfl, -⟩ := HT2.out _ HBz.out W (by omega)
      have HKT : Hid (∀ w', Below (D + 1) w1 w' → (w'.cell? ⟨D, 0, none⟩ = some (.slice q0 n0 c0) ∧ w'.cell? ⟨D, 1, none⟩ = some (.int .i64 wd) ∧ w'.cell? ⟨D, 2, none⟩ = some (.int .i64 st) ∧ w'.cell? ⟨D, 3, none⟩ = some (.slice q1 n1 c1) ∧ w'.cell? ⟨D, 4, none⟩ = some (.slice (some ⟨bt, ot, none⟩) n2 c2)) ∧ w'.cell? ⟨bt, ot + W, none⟩ = some (.bool tb)) := Lib.hid fun w' h => ⟨HK.out w' h, by
        obtain ⟨bt', ot', e', ct⟩ := HT2.out w' h W (by omega)
        cases e'
        rw [← htb]; exact ct⟩
      have hbb : (tb == tb) = true := by simp
      clear hac hac2 hwl htb hw0
      go_region_held_law (fun w' => (w'.cell? ⟨D, 0, none⟩ = some (.slice q0 n0 c0) ∧ w'.cell? ⟨D, 1, none⟩ = some (.int .i64 wd) ∧ w'.cell? ⟨D, 2, none⟩ = some (.int .i64 st) ∧ w'.cell? ⟨D, 3, none⟩ = some (.slice q1 n1 c1) ∧ w'.cell? ⟨D, 4, none⟩ = some (.slice (some ⟨bt, ot, none⟩) n2 c2)) ∧ w'.cell? ⟨bt, ot + W, none⟩ = some (.bool tb))
        (exact HKT.out _ hB)
        (first
          | (go_at_call 10; (with_reducible refine (HGc.out _ hB).mono ?_); rintro e wk ⟨rfl, hbk⟩; (replace hB := hB.trans (hbk.mono (Nat.le_trans (Nat.le_of_eq HZ.out.symm) hB.size))); clear hbk)
          | (go_at_call 11; (with_reducible refine (HRt.out _ hB).mono ?_); rintro e wk ⟨rfl, hbk⟩; (replace hB := hB.trans (hbk.mono (Nat.le_trans (Nat.le_of_eq HZ.out.symm) hB.size))); clear hbk)
          | (go_at_call 12; (with_reducible refine (HRuc.out _ hB).mono ?_); rintro e wk ⟨rfl, hbk⟩; (replace hB := hB.trans (hbk.mono (Nat.le_trans (Nat.le_of_eq HZ.out.symm) hB.size))); clear hbk)
          | (go_at_call 8; (with_reducible refine (HRk.out _ hB).mono ?_); rintro e wk ⟨rfl, hbk⟩; (replace hB := hB.trans (hbk.mono (Nat.le_trans (Nat.le_of_eq HZ.out.symm) hB.size))); clear hbk)
          | (go_at_call 13; (with_reducible refine (HAcc.out _ hB).mono ?_); rintro e wk ⟨rfl, hbk⟩; (replace hB := hB.trans (hbk.mono (Nat.le_trans (Nat.le_of_eq HZ.out.symm) hB.size))); clear hbk))
      all_goals
        have HF : Hid (Below w.heap.size w _) := Lib.hid (HG.out.symm ▸ HB1.out.trans (hB.mono (Nat.le_succ D)))
        go_wp2_with fail
        go_returns
        exact ⟨by simp, HF.out⟩
  · have dk : decide ((0 : Int) < (k : Int)) = false := decide_eq_false (by omega)
    have hk9 : k = 0 := by omega
    rw [hru] at HRk HRuc
    rw [hrb] at HGc HRt
    have HBz := HB4
    clear hru hrb HGoc HRr hk9
    go_wp2_with fail
    have hB := HBz.out.drew
    by_cases hw0 : wt < 0
    · have dw : decide (wt < 0) = true := decide_eq_true hw0
      have dw' : decide ((0 : Int) ≤ wt) = false := decide_eq_false (by omega)
      rw [hac.1 hw0] at HAcc
      clear hac hwl
      refine wp_region_held_drew (S := (fun w' => w'.cell? ⟨D, 0, none⟩ = some (.slice q0 n0 c0) ∧ w'.cell? ⟨D, 1, none⟩ = some (.int .i64 wd) ∧ w'.cell? ⟨D, 2, none⟩ = some (.int .i64 st) ∧ w'.cell? ⟨D, 3, none⟩ = some (.slice q1 n1 c1) ∧ w'.cell? ⟨D, 4, none⟩ = some (.slice q2 n2 c2))) (by kernel_rfl) (HK.out _ hB) (fun hHeld => ?_)
      refine wpAnyH_take (i := 0) (oi := { dst := some 40, op := Op.load 25 (Operand.tmp 3), type := 25, pos := "law.go:40", after := #[], guard := none }) (v := .agg #[.slice q0 n0 c0, .int .i64 wd, .int .i64 st, .slice q1 n1 c1, .slice q2 n2 c2]) rfl (by kernel_rfl) (by kernel_rfl) (by kernel_rfl) (fun _ _ _ h => h) (Or.inl ⟨by rfl, ?_⟩) (by assumption) ?_
      · intro w hSw; (try dsimp only at hSw); go_simp
      try simp only [Act.put, List.setIfInBounds_toArray, List.set_cons_zero, List.set_cons_succ]
      refine wpAnyH_take (i := 2) (oi := { dst := some 42, op := Op.load 25 (Operand.tmp 3), type := 25, pos := "law.go:40", after := #[], guard := none }) (v := .agg #[.slice q0 n0 c0, .int .i64 wd, .int .i64 st, .slice q1 n1 c1, .slice q2 n2 c2]) rfl (by kernel_rfl) (by kernel_rfl) (by kernel_rfl) (fun _ _ _ h => h) (Or.inl ⟨by rfl, ?_⟩) (by assumption) ?_
      · intro w hSw; (try dsimp only at hSw); go_simp
      try simp only [Act.put, List.setIfInBounds_toArray, List.set_cons_zero, List.set_cons_succ]
      refine wpAnyH_ready (rs := [1]) (by kernel_rfl) (by simp) ?_
      refine AllReadyH.cons rfl (fun K' hK' => ?_) AllReadyH.nil
      go_simp
      (with_reducible refine (HGc.out _ hB).mono ?_)
      rintro e wk ⟨rfl, hbk⟩
      replace hB := hB.trans (hbk.mono (Nat.le_trans (Nat.le_of_eq HZ.out.symm) hB.size))
      clear hbk
      refine hK'.out _ _ ?_ (fun hHeld => ?_)
      · (try dsimp only)
        exact HK.out _ hB
      clear hK' K'
      try simp only [Act.put, List.setIfInBounds_toArray, List.set_cons_zero, List.set_cons_succ]
      refine wpAnyH_ready (rs := [3]) (by kernel_rfl) (by simp) ?_
      refine AllReadyH.cons rfl (fun K' hK' => ?_) AllReadyH.nil
      go_simp
      (with_reducible refine (HRt.out _ hB).mono ?_)
      rintro e wk ⟨rfl, hbk⟩
      replace hB := hB.trans (hbk.mono (Nat.le_trans (Nat.le_of_eq HZ.out.symm) hB.size))
      clear hbk
      refine hK'.out _ _ ?_ (fun hHeld => ?_)
      · (try dsimp only)
        exact HK.out _ hB
      clear hK' K'
      try simp only [Act.put, List.setIfInBounds_toArray, List.set_cons_zero, List.set_cons_succ]
      refine wpAnyH_take (i := 4) (oi := { dst := some 44, op := Op.binOp BinOp.eql 4 (Operand.tmp 41) (Operand.tmp 43) 4, type := 4, pos := "law.go:40", after := #[{ on := 1, ground := Ground.data }, { on := 3, ground := Ground.data }], guard := none }) (v := .bool true) rfl (by kernel_rfl) (by kernel_rfl) (by kernel_rfl) (fun _ _ _ h => h) (Or.inl ⟨by rfl, ?_⟩) (by assumption) ?_
      · intro w hSw; (try dsimp only at hSw); go_simp
      try simp only [Act.put, List.setIfInBounds_toArray, List.set_cons_zero, List.set_cons_succ]
      refine wpAnyH_take (i := 5) (oi := { dst := some 45, op := Op.move (Operand.tmp 44), type := 4, pos := "law.go:40", after := #[{ on := 4, ground := Ground.data }, { on := 3, ground := Ground.chain }], guard := none }) (v := .bool true) rfl (by kernel_rfl) (by kernel_rfl) (by kernel_rfl) (fun _ _ _ h => h) (Or.inl ⟨by rfl, ?_⟩) (by assumption) ?_
      · intro w hSw; (try dsimp only at hSw); go_simp
      try simp only [Act.put, List.setIfInBounds_toArray, List.set_cons_zero, List.set_cons_succ]
      refine wpAnyH_take (i := 6) (oi := { dst := some 46, op := Op.load 25 (Operand.tmp 3), type := 25, pos := "law.go:40", after := #[{ on := 5, ground := Ground.guard }], guard := some (5, true) }) (v := .agg #[.slice q0 n0 c0, .int .i64 wd, .int .i64 st, .slice q1 n1 c1, .slice q2 n2 c2]) rfl (by kernel_rfl) (by kernel_rfl) (by kernel_rfl) (fun _ _ _ h => h) (Or.inl ⟨by rfl, ?_⟩) (by assumption) ?_
      · intro w hSw; (try dsimp only at hSw); go_simp
      try simp only [Act.put, List.setIfInBounds_toArray, List.set_cons_zero, List.set_cons_succ]
      refine wpAnyH_take (i := 7) (oi := { dst := some 47, op := Op.move (Operand.tmp 1), type := 3, pos := "law.go:40", after := #[{ on := 5, ground := Ground.guard }], guard := some (5, true) }) (v := .int .i64 s) rfl (by kernel_rfl) (by kernel_rfl) (by kernel_rfl) (fun _ _ _ h => h) (Or.inl ⟨by rfl, ?_⟩) (by assumption) ?_
      · intro w hSw; (try dsimp only at hSw); go_simp
      try simp only [Act.put, List.setIfInBounds_toArray, List.set_cons_zero, List.set_cons_succ]
      refine wpAnyH_take (i := 8) (oi := { dst := some 48, op := Op.move (Operand.tmp 2), type := 22, pos := "law.go:40", after := #[{ on := 5, ground := Ground.guard }], guard := some (5, true) }) (v := .slice q k cap) rfl (by kernel_rfl) (by kernel_rfl) (by kernel_rfl) (fun _ _ _ h => h) (Or.inl ⟨by rfl, ?_⟩) (by assumption) ?_
      · intro w hSw; (try dsimp only at hSw); go_simp
      try simp only [Act.put, List.setIfInBounds_toArray, List.set_cons_zero, List.set_cons_succ]
      refine wpAnyH_take (i := 10) (oi := { dst := some 50, op := Op.load 25 (Operand.tmp 3), type := 25, pos := "law.go:40", after := #[{ on := 5, ground := Ground.guard }], guard := some (5, true) }) (v := .agg #[.slice q0 n0 c0, .int .i64 wd, .int .i64 st, .slice q1 n1 c1, .slice q2 n2 c2]) rfl (by kernel_rfl) (by kernel_rfl) (by kernel_rfl) (fun _ _ _ h => h) (Or.inl ⟨by rfl, ?_⟩) (by assumption) ?_
      · intro w hSw; (try dsimp only at hSw); go_simp
      try simp only [Act.put, List.setIfInBounds_toArray, List.set_cons_zero, List.set_cons_succ]
      refine wpAnyH_take (i := 11) (oi := { dst := some 51, op := Op.move (Operand.tmp 1), type := 3, pos := "law.go:40", after := #[{ on := 5, ground := Ground.guard }], guard := some (5, true) }) (v := .int .i64 s) rfl (by kernel_rfl) (by kernel_rfl) (by kernel_rfl) (fun _ _ _ h => h) (Or.inl ⟨by rfl, ?_⟩) (by assumption) ?_
      · intro w hSw; (try dsimp only at hSw); go_simp
      try simp only [Act.put, List.setIfInBounds_toArray, List.set_cons_zero, List.set_cons_succ]
      refine wpAnyH_take (i := 12) (oi := { dst := some 52, op := Op.move (Operand.tmp 2), type := 22, pos := "law.go:40", after := #[{ on := 5, ground := Ground.guard }], guard := some (5, true) }) (v := .slice q k cap) rfl (by kernel_rfl) (by kernel_rfl) (by kernel_rfl) (fun _ _ _ h => h) (Or.inl ⟨by rfl, ?_⟩) (by assumption) ?_
      · intro w hSw; (try dsimp only at hSw); go_simp
      try simp only [Act.put, List.setIfInBounds_toArray, List.set_cons_zero, List.set_cons_succ]
      refine wpAnyH_ready (rs := [9]) (by kernel_rfl) (by simp) ?_
      refine AllReadyH.cons rfl (fun K' hK' => ?_) AllReadyH.nil
      go_simp
      (with_reducible refine (HRuc.out _ hB).mono ?_)
      rintro e wk ⟨rfl, hbk⟩
      replace hB := hB.trans (hbk.mono (Nat.le_trans (Nat.le_of_eq HZ.out.symm) hB.size))
      clear hbk
      refine hK'.out _ _ ?_ (fun hHeld => ?_)
      · (try dsimp only)
        exact HK.out _ hB
      clear hK' K'
      try simp only [Act.put, List.setIfInBounds_toArray, List.set_cons_zero, List.set_cons_succ]
      refine wpAnyH_ready (rs := [13]) (by kernel_rfl) (by simp) ?_
      refine AllReadyH.cons rfl (fun K' hK' => ?_) AllReadyH.nil
      go_simp
      (with_reducible refine (HRk.out _ hB).mono ?_)
      rintro e wk ⟨rfl, hbk⟩
      replace hB := hB.trans (hbk.mono (Nat.le_trans (Nat.le_of_eq HZ.out.symm) hB.size))
      clear hbk
      refine hK'.out _ _ ?_ (fun hHeld => ?_)
      · (try dsimp only)
        exact HK.out _ hB
      clear hK' K'
      try simp only [Act.put, List.setIfInBounds_toArray, List.set_cons_zero, List.set_cons_succ]
      refine wpAnyH_take (i := 14) (oi := { dst := some 54, op := Op.binOp BinOp.eql 3 (Operand.tmp 49) (Operand.tmp 53) 3, type := 4, pos := "law.go:40", after := #[{ on := 9, ground := Ground.data }, { on := 13, ground := Ground.data }, { on := 5, ground := Ground.guard }], guard := some (5, true) }) (v := .bool true) rfl (by kernel_rfl) (by kernel_rfl) (by kernel_rfl) (fun _ _ _ h => h) (Or.inl ⟨by rfl, ?_⟩) (by assumption) ?_
      · intro w hSw; (try dsimp only at hSw); go_simp
      try simp only [Act.put, List.setIfInBounds_toArray, List.set_cons_zero, List.set_cons_succ]
      refine wpAnyH_take (i := 15) (oi := { dst := some 55, op := Op.pick (Operand.tmp 45) (Operand.tmp 54) (Operand.const (Value.bool false)), type := 4, pos := "law.go:40", after := #[{ on := 5, ground := Ground.data }, { on := 14, ground := Ground.data }], guard := none }) (v := .bool true) rfl (by kernel_rfl) (by kernel_rfl) (by kernel_rfl) (fun _ _ _ h => h) (Or.inl ⟨by rfl, ?_⟩) (by assumption) ?_
      · intro w hSw; (try dsimp only at hSw); go_simp
      try simp only [Act.put, List.setIfInBounds_toArray, List.set_cons_zero, List.set_cons_succ]
      refine wpAnyH_take (i := 16) (oi := { dst := some 56, op := Op.move (Operand.tmp 55), type := 4, pos := "law.go:40", after := #[{ on := 15, ground := Ground.data }, { on := 13, ground := Ground.chain }], guard := none }) (v := .bool true) rfl (by kernel_rfl) (by kernel_rfl) (by kernel_rfl) (fun _ _ _ h => h) (Or.inl ⟨by rfl, ?_⟩) (by assumption) ?_
      · intro w hSw; (try dsimp only at hSw); go_simp
      try simp only [Act.put, List.setIfInBounds_toArray, List.set_cons_zero, List.set_cons_succ]
      refine wpAnyH_take (i := 17) (oi := { dst := some 57, op := Op.load 25 (Operand.tmp 3), type := 25, pos := "law.go:40", after := #[{ on := 16, ground := Ground.guard }], guard := some (16, true) }) (v := .agg #[.slice q0 n0 c0, .int .i64 wd, .int .i64 st, .slice q1 n1 c1, .slice q2 n2 c2]) rfl (by kernel_rfl) (by kernel_rfl) (by kernel_rfl) (fun _ _ _ h => h) (Or.inl ⟨by rfl, ?_⟩) (by assumption) ?_
      · intro w hSw; (try dsimp only at hSw); go_simp
      try simp only [Act.put, List.setIfInBounds_toArray, List.set_cons_zero, List.set_cons_succ]
      refine wpAnyH_take (i := 18) (oi := { dst := some 58, op := Op.move (Operand.tmp 2), type := 22, pos := "law.go:40", after := #[{ on := 16, ground := Ground.guard }], guard := some (16, true) }) (v := .slice q k cap) rfl (by kernel_rfl) (by kernel_rfl) (by kernel_rfl) (fun _ _ _ h => h) (Or.inl ⟨by rfl, ?_⟩) (by assumption) ?_
      · intro w hSw; (try dsimp only at hSw); go_simp
      try simp only [Act.put, List.setIfInBounds_toArray, List.set_cons_zero, List.set_cons_succ]
      refine wpAnyH_take (i := 20) (oi := { dst := some 60, op := Op.move (Operand.tmp 7), type := 3, pos := "law.go:40", after := #[{ on := 16, ground := Ground.guard }], guard := some (16, true) }) (v := .int .i64 wt) rfl (by kernel_rfl) (by kernel_rfl) (by kernel_rfl) (fun _ _ _ h => h) (Or.inl ⟨by rfl, ?_⟩) (by assumption) ?_
      · intro w hSw; (try dsimp only at hSw); go_simp
      try simp only [Act.put, List.setIfInBounds_toArray, List.set_cons_zero, List.set_cons_succ]
      refine wpAnyH_take (i := 21) (oi := { dst := some 61, op := Op.binOp BinOp.geq 3 (Operand.tmp 60) (Operand.const (Value.int IntKind.i64 0)) 3, type := 4, pos := "law.go:40", after := #[{ on := 20, ground := Ground.data }, { on := 16, ground := Ground.guard }], guard := some (16, true) }) (v := .bool false) rfl (by kernel_rfl) (by kernel_rfl) (by kernel_rfl) (fun _ _ _ h => h) (Or.inl ⟨by rfl, ?_⟩) (by assumption) ?_
      · intro w hSw; (try dsimp only at hSw); go_simp
      try simp only [Act.put, List.setIfInBounds_toArray, List.set_cons_zero, List.set_cons_succ]
      refine wpAnyH_ready (rs := [19]) (by kernel_rfl) (by simp) ?_
      refine AllReadyH.cons rfl (fun K' hK' => ?_) AllReadyH.nil
      go_simp
      (with_reducible refine (HAcc.out _ hB).mono ?_)
      rintro e wk ⟨rfl, hbk⟩
      replace hB := hB.trans (hbk.mono (Nat.le_trans (Nat.le_of_eq HZ.out.symm) hB.size))
      clear hbk
      refine hK'.out _ _ ?_ (fun hHeld => ?_)
      · (try dsimp only)
        exact HK.out _ hB
      clear hK' K'
      try simp only [Act.put, List.setIfInBounds_toArray, List.set_cons_zero, List.set_cons_succ]
      refine wpAnyH_take (i := 22) (oi := { dst := some 62, op := Op.move (Operand.tmp 61), type := 4, pos := "law.go:40", after := #[{ on := 21, ground := Ground.data }, { on := 19, ground := Ground.chain }, { on := 16, ground := Ground.guard }], guard := some (16, true) }) (v := .bool false) rfl (by kernel_rfl) (by kernel_rfl) (by kernel_rfl) (fun _ _ _ h => h) (Or.inl ⟨by rfl, ?_⟩) (by assumption) ?_
      · intro w hSw; (try dsimp only at hSw); go_simp
      try simp only [Act.put, List.setIfInBounds_toArray, List.set_cons_zero, List.set_cons_succ]
      refine wpAnyH_take (i := 23) (oi := { dst := some 63, op := Op.fieldAddr 25 (Operand.tmp 3) 4, type := 0, pos := "law.go:40", after := #[{ on := 22, ground := Ground.guard }], guard := some (22, true) }) (v := undef) rfl (by kernel_rfl) (by kernel_rfl) (by kernel_rfl) (fun _ _ _ h => h) (Or.inr ⟨by rfl, rfl⟩) (by assumption) ?_
      try simp only [Act.put, List.setIfInBounds_toArray, List.set_cons_zero, List.set_cons_succ]
      refine wpAnyH_take (i := 25) (oi := { dst := some 65, op := Op.move (Operand.tmp 7), type := 3, pos := "law.go:40", after := #[{ on := 22, ground := Ground.guard }], guard := some (22, true) }) (v := undef) rfl (by kernel_rfl) (by kernel_rfl) (by kernel_rfl) (fun _ _ _ h => h) (Or.inr ⟨by rfl, rfl⟩) (by assumption) ?_
      try simp only [Act.put, List.setIfInBounds_toArray, List.set_cons_zero, List.set_cons_succ]
      refine wpAnyH_take (i := 24) (oi := { dst := some 64, op := Op.load 23 (Operand.tmp 63), type := 23, pos := "law.go:40", after := #[{ on := 23, ground := Ground.data }, { on := 22, ground := Ground.guard }], guard := some (22, true) }) (v := undef) rfl (by kernel_rfl) (by kernel_rfl) (by kernel_rfl) (fun _ _ _ h => h) (Or.inr ⟨by rfl, rfl⟩) (by assumption) ?_
      try simp only [Act.put, List.setIfInBounds_toArray, List.set_cons_zero, List.set_cons_succ]
      refine wpAnyH_take (i := 26) (oi := { dst := some 66, op := Op.indexAddr 23 (Operand.tmp 64) (Operand.tmp 65), type := 0, pos := "law.go:40", after := #[{ on := 24, ground := Ground.data }, { on := 25, ground := Ground.data }, { on := 22, ground := Ground.guard }], guard := some (22, true) }) (v := undef) rfl (by kernel_rfl) (by kernel_rfl) (by kernel_rfl) (fun _ _ _ h => h) (Or.inr ⟨by rfl, rfl⟩) (by assumption) ?_
      try simp only [Act.put, List.setIfInBounds_toArray, List.set_cons_zero, List.set_cons_succ]
      refine wpAnyH_take (i := 27) (oi := { dst := some 67, op := Op.load 4 (Operand.tmp 66), type := 4, pos := "law.go:40", after := #[{ on := 26, ground := Ground.data }, { on := 22, ground := Ground.guard }], guard := some (22, true) }) (v := undef) rfl (by kernel_rfl) (by kernel_rfl) (by kernel_rfl) (fun _ _ _ h => h) (Or.inr ⟨by rfl, rfl⟩) (by assumption) ?_
      try simp only [Act.put, List.setIfInBounds_toArray, List.set_cons_zero, List.set_cons_succ]
      refine wpAnyH_take (i := 28) (oi := { dst := some 68, op := Op.pick (Operand.tmp 62) (Operand.tmp 67) (Operand.const (Value.bool false)), type := 4, pos := "law.go:40", after := #[{ on := 22, ground := Ground.data }, { on := 27, ground := Ground.data }, { on := 16, ground := Ground.guard }], guard := some (16, true) }) (v := .bool false) rfl (by kernel_rfl) (by kernel_rfl) (by kernel_rfl) (fun _ _ _ h => h) (Or.inl ⟨by rfl, ?_⟩) (by assumption) ?_
      · intro w hSw; (try dsimp only at hSw); go_simp
      try simp only [Act.put, List.setIfInBounds_toArray, List.set_cons_zero, List.set_cons_succ]
      refine wpAnyH_take (i := 29) (oi := { dst := some 69, op := Op.binOp BinOp.eql 4 (Operand.tmp 59) (Operand.tmp 68) 4, type := 4, pos := "law.go:40", after := #[{ on := 19, ground := Ground.data }, { on := 28, ground := Ground.data }, { on := 16, ground := Ground.guard }], guard := some (16, true) }) (v := .bool true) rfl (by kernel_rfl) (by kernel_rfl) (by kernel_rfl) (fun _ _ _ h => h) (Or.inl ⟨by rfl, ?_⟩) (by assumption) ?_
      · intro w hSw; (try dsimp only at hSw); go_simp
      try simp only [Act.put, List.setIfInBounds_toArray, List.set_cons_zero, List.set_cons_succ]
      refine wpAnyH_take (i := 30) (oi := { dst := some 70, op := Op.pick (Operand.tmp 56) (Operand.tmp 69) (Operand.const (Value.bool false)), type := 4, pos := "law.go:40", after := #[{ on := 16, ground := Ground.data }, { on := 29, ground := Ground.data }], guard := none }) (v := .bool true) rfl (by kernel_rfl) (by kernel_rfl) (by kernel_rfl) (fun _ _ _ h => h) (Or.inl ⟨by rfl, ?_⟩) (by assumption) ?_
      · intro w hSw; (try dsimp only at hSw); go_simp
      try simp only [Act.put, List.setIfInBounds_toArray, List.set_cons_zero, List.set_cons_succ]
      refine wpAnyH_take (i := 31) (oi := { dst := some 6, op := Op.assign (Operand.tmp 70), type := 4, pos := "law.go:40", after := #[{ on := 30, ground := Ground.data }, { on := 22, ground := Ground.chain }, { on := 0, ground := Ground.phase }, { on := 1, ground := Ground.phase }, { on := 2, ground := Ground.phase }, { on := 3, ground := Ground.phase }, { on := 4, ground := Ground.phase }, { on := 5, ground := Ground.phase }, { on := 6, ground := Ground.phase }, { on := 7, ground := Ground.phase }, { on := 8, ground := Ground.phase }, { on := 9, ground := Ground.phase }, { on := 10, ground := Ground.phase }, { on := 11, ground := Ground.phase }, { on := 12, ground := Ground.phase }, { on := 13, ground := Ground.phase }, { on := 14, ground := Ground.phase }, { on := 15, ground := Ground.phase }, { on := 16, ground := Ground.phase }, { on := 17, ground := Ground.phase }, { on := 18, ground := Ground.phase }, { on := 19, ground := Ground.phase }, { on := 20, ground := Ground.phase }, { on := 21, ground := Ground.phase }, { on := 22, ground := Ground.phase }, { on := 23, ground := Ground.phase }, { on := 24, ground := Ground.phase }, { on := 25, ground := Ground.phase }, { on := 26, ground := Ground.phase }, { on := 27, ground := Ground.phase }, { on := 28, ground := Ground.phase }, { on := 29, ground := Ground.phase }, { on := 30, ground := Ground.phase }], guard := none }) (v := .bool true) rfl (by kernel_rfl) (by kernel_rfl) (by kernel_rfl) (fun _ _ _ h => h) (Or.inl ⟨by rfl, ?_⟩) (by assumption) ?_
      · intro w hSw; (try dsimp only at hSw); go_simp
      try simp only [Act.put, List.setIfInBounds_toArray, List.set_cons_zero, List.set_cons_succ]
      refine wpAnyH_done (by kernel_rfl) ?_ _
      go_wp2_with fail
      have HF := Lib.hid (HB1.out.trans (hB.mono (Nat.le_succ D)))
      go_returns
      exact ⟨by simp, HG.out.symm ▸ HF.out⟩
    · obtain ⟨W, rfl⟩ : ∃ W : Nat, wt = W := ⟨wt.toNat, by omega⟩
      have dw' : decide ((0 : Int) ≤ (W : Int)) = true := decide_eq_true (by omega)
      have hW2 := hwl (by omega)
      rw [HXN.out.1] at hW2
      have w0 : (0 : Int) ≤ (W : Int) := by omega
      have w2 : (W : Int) < (n2 : Int) := by omega
      have hac2 := hac.2 (by omega)
      rw [Int.toNat_natCast] at hac2
      obtain ⟨tb, htb⟩ : ∃ tb, x.T W = tb := ⟨_, rfl⟩
      rw [htb] at hac2
      rw [hac2] at HAcc
      obtain ⟨bt, ot, rfl, -⟩ := HT2.out _ HBz.out W (by omega)
      have HKT : Hid (∀ w', Below (D + 1) w1 w' → (w'.cell? ⟨D, 0, none⟩ = some (.slice q0 n0 c0) ∧ w'.cell? ⟨D, 1, none⟩ = some (.int .i64 wd) ∧ w'.cell? ⟨D, 2, none⟩ = some (.int .i64 st) ∧ w'.cell? ⟨D, 3, none⟩ = some (.slice q1 n1 c1) ∧ w'.cell? ⟨D, 4, none⟩ = some (.slice (some ⟨bt, ot, none⟩) n2 c2)) ∧ w'.cell? ⟨bt, ot + W, none⟩ = some (.bool tb)) := Lib.hid fun w' h => ⟨HK.out w' h, by
        obtain ⟨bt', ot', e', ct⟩ := HT2.out w' h W (by omega)
        cases e'
        rw [← htb]; exact ct⟩
      have hbb : (tb == tb) = true := by simp
      clear hac hac2 hwl htb hw0
      go_region_held_law (fun w' => (w'.cell? ⟨D, 0, none⟩ = some (.slice q0 n0 c0) ∧ w'.cell? ⟨D, 1, none⟩ = some (.int .i64 wd) ∧ w'.cell? ⟨D, 2, none⟩ = some (.int .i64 st) ∧ w'.cell? ⟨D, 3, none⟩ = some (.slice q1 n1 c1) ∧ w'.cell? ⟨D, 4, none⟩ = some (.slice (some ⟨bt, ot, none⟩) n2 c2)) ∧ w'.cell? ⟨bt, ot + W, none⟩ = some (.bool tb))
        (exact HKT.out _ hB)
        (first
          | (go_at_call 10; (with_reducible refine (HGc.out _ hB).mono ?_); rintro e wk ⟨rfl, hbk⟩; (replace hB := hB.trans (hbk.mono (Nat.le_trans (Nat.le_of_eq HZ.out.symm) hB.size))); clear hbk)
          | (go_at_call 11; (with_reducible refine (HRt.out _ hB).mono ?_); rintro e wk ⟨rfl, hbk⟩; (replace hB := hB.trans (hbk.mono (Nat.le_trans (Nat.le_of_eq HZ.out.symm) hB.size))); clear hbk)
          | (go_at_call 12; (with_reducible refine (HRuc.out _ hB).mono ?_); rintro e wk ⟨rfl, hbk⟩; (replace hB := hB.trans (hbk.mono (Nat.le_trans (Nat.le_of_eq HZ.out.symm) hB.size))); clear hbk)
          | (go_at_call 8; (with_reducible refine (HRk.out _ hB).mono ?_); rintro e wk ⟨rfl, hbk⟩; (replace hB := hB.trans (hbk.mono (Nat.le_trans (Nat.le_of_eq HZ.out.symm) hB.size))); clear hbk)
          | (go_at_call 13; (with_reducible refine (HAcc.out _ hB).mono ?_); rintro e wk ⟨rfl, hbk⟩; (replace hB := hB.trans (hbk.mono (Nat.le_trans (Nat.le_of_eq HZ.out.symm) hB.size))); clear hbk))
      all_goals
        have HF : Hid (Below w.heap.size w _) := Lib.hid (HG.out.symm ▸ HB1.out.trans (hB.mono (Nat.le_succ D)))
        go_wp2_with fail
        go_returns
        exact ⟨by simp, HF.out⟩
end Go.Proofs.Ytpfbmbegddemoaa
