/-
  The walks of the seventh reference's cap20 and Size.
-/
import Derived.Test.YtepegohopgnmnaaPk3
import Derived.Test.YtepegohopgnmnaaPk11
import Derived.Deep.RegionHeldLaw
namespace Go.Proofs.Ytepegohopgnmnaa
open Go.RowKit

theorem rcap_any (n : Int) (w : World) : Calls Try.prog 34 #[.int .i64 n] w fun e w' => e = .returned (.int .i64 (cap20 n)) ∧ w' = w := by
  rcases Int.lt_or_le 1048576 n with h | h
  · have HM : Hid (cap20 n = 1048576) := Lib.hid (by unfold cap20; omega)
    have x1 : min n 1048576 = 1048576 := by omega
    have x2 : ¬ (n ≤ 1048576) := by omega
    go_enter Try.func34, Try.ntmps34
    go_wp2
    go_returns
    exact ⟨by rw [HM.out] <;> rfl, rfl⟩
  · have HM : Hid (cap20 n = n) := Lib.hid (by unfold cap20; omega)
    have x1 : min n 1048576 = n := by omega
    go_enter Try.func34, Try.ntmps34
    go_wp2
    go_returns
    exact ⟨by rw [HM.out] <;> rfl, rfl⟩

set_option maxRecDepth 100000 in
set_option maxHeartbeats 8000000 in
theorem rsize_is (b off n cap : Nat) (N : Nat → Nd) (ht : tree N n) : ∀ i, i < n → ∀ (D : Int), szF (trT N i) = D → ∀ (w : World), rdN w b off n N →
    Calls Try.prog 14 #[.slice (some ⟨b, off, none⟩) n cap, .int .i64 (i : Int)] w fun e w' => e = .returned (.int .i64 D) ∧ Below w.heap.size w w' := by
  intro i
  induction i using Nat.strongRecOn with
  | ind i ih =>
  intro hi D hD w hr
  have hn := ht.1
  have hok := ((tree_iff.1 ht).2.2.1 i hi).2
  have HKd := Lib.hid (rkids_is b off n cap i N (by omega) hi ((tree_iff.1 ht).2.2.1 i hi).1 w hr)
  have HTR := Lib.hid ht
  have HRD := Lib.hid hr
  obtain ⟨f, hf, hc⟩ := nd_is ht hi
  have i0' : (0 : Int) ≤ (i : Int) := by omega
  have i1 : (i : Int) < (n : Int) := by omega
  cases hc with
  | leaf _ hk0 _ =>
    have HD : Hid (D = 2) := Lib.hid (by rw [← hD, sz_leaf hk0])
    rw [show kids N i = [] by unfold kids; rcases hk0 with h | h | h | h <;> (rw [h]; rfl)] at HKd
    obtain ⟨kd, hkd⟩ : ∃ k, (N i).k = k := ⟨_, rfl⟩
    rw [hkd] at hk0
    have e5 : (kd == 5) = false := beq_eq_false_iff_ne.2 (by omega)
    have e6 : (kd == 6) = false := beq_eq_false_iff_ne.2 (by omega)
    have e7 : (kd == 7) = false := beq_eq_false_iff_ne.2 (by omega)
    have HKD := Lib.hid hkd
    clear hD ih ht hr hok hf hkd hk0
    go_enter Try.func14, Try.ntmps14
    go_wp2_with fail
    refine HKd.out.mono ?_
    rintro e w2 ⟨kv, rfl, -, hb⟩
    have p0 := ((HRD.out.below hb) i hi).2.1
    rw [HKD.out] at p0
    have HB2 := Lib.hid hb
    clear hb HKd HRD
    go_wp2_with fail
    go_returns
    exact ⟨by rw [HD.out] <;> rfl, HB2.out⟩
  | @one p _ _ hk0 h1 h2 _ =>
    have hkids : kids N (p + 1) = [(p : Int)] := by unfold kids; rw [hk0, if_pos (show ar 7 = 1 from rfl)]; congr 1; omega
    rw [hkids] at HKd
    have hrep := okN_rep hok hk0
    have hsz := sz_one hk0
    obtain ⟨x, hx⟩ : ∃ x, szF (trT N p) = x := ⟨_, rfl⟩
    have hbd := sz_bd (trT N p) (trT_is ht p p (Nat.le_refl _) (by omega) _ h1).2.1
    rw [hx] at hsz hbd
    have HP := Lib.hid (ih p (by omega) (by omega) x hx)
    rw [hD] at hsz
    obtain ⟨l, hl⟩ := Int.eq_ofNat_of_zero_le hrep.1
    obtain ⟨y, hy⟩ : ∃ y, N (p + 1) = y := ⟨_, rfl⟩
    have HY := Lib.hid hy
    rw [hy] at hsz hrep hl hk0
    obtain ⟨yk, ya, yb, yc, yd, ylo, yhi⟩ := y
    simp only at hsz hrep hl hk0
    subst hk0 hl
    have HD := Lib.hid hsz
    have hl32 : l ≤ 32 := by omega
    have hh := hrep.2.2
    clear hD ih ht hr hok hf h1 h2 hkids hx hsz hrep hy
    go_enter Try.func14, Try.ntmps14
    go_wp2_with fail
    refine HKd.out.mono ?_
    rintro e w2 ⟨kv, rfl, hkv, hb⟩
    have HRD2 := Lib.hid (HRD.out.below hb)
    have p0 := (HRD2.out (p + 1) hi).2.1
    rw [HY.out] at p0
    have HB2 := Lib.hid hb
    obtain ⟨gk, ck, rfl, hgk, q0⟩ : ∃ gk ck, kv = .slice (some ⟨gk, 0, none⟩) 1 ck ∧ gk < w2.heap.size ∧ w2.cell? ⟨gk, 0, none⟩ = some (.int .i64 (p : Int)) := by
      rcases hkv with ⟨_, _, _, h⟩ | ⟨g, c, rfl, hg, hc⟩
      · cases h
      · exact ⟨g, c, rfl, hg, hc 0 (by simp)⟩
    clear hb hkv HKd HRD
    go_wp2_with fail
    refine (HP.out _ HRD2.out).mono ?_
    rintro e w3 ⟨rfl, hb⟩
    have HB3 := Lib.hid (HB2.out.trans (hb.mono HB2.out.size))
    obtain ⟨p0', -, -, -, -, p5, p6⟩ := ((HRD2.out.below hb) (p + 1) hi).2
    rw [HY.out] at p5 p6
    simp only at p5 p6
    clear hb HP HB2 HRD2 p0 p0' q0 hgk
    go_wp2_with fail
    go_loopw [7, 8] (fun zv jv wr => ∃ (k : Nat) (z : Int), k ≤ l ∧ jv = .int .i64 k ∧ zv = .int .i64 z ∧ 0 ≤ z ∧ z ≤ 2 + k * 1048577 ∧ Hid (z = 2 + k * x) ∧ wr = w3) (fun _ jv _ => l - (intOf jv).toNat)
    case atStart => exact ⟨0, 2, Nat.zero_le _, rfl, rfl, by decide, by decide, Lib.hid (by simp), rfl⟩
    case round =>
      obtain ⟨k, z, hk, rfl, rfl, hz0, hz1, HZ, hwr⟩ := hrel
      have hwr' := hwr.symm
      subst hwr'
      by_cases hlt : k < l
      · have d1 : decide ((k : Int) < (l : Int)) = true := decide_eq_true (by omega)
        have HZ2 : Hid (z + x = 2 + ((k + 1 : Nat) : Int) * x) := Lib.hid (by rw [HZ.out, Int.natCast_add, Int.add_mul]; simp; omega)
        go_wp2_with fail
        go_roundw
        case rel => exact ⟨k + 1, z + x, by omega, by go_num, by go_num, by omega, by omega, HZ2, trivial⟩
        case measure => simp [intOf]; omega
      · have hkl : k = l := by omega
        subst hkl
        have d1 : decide ((k : Int) < (k : Int)) = false := decide_eq_false (by omega)
        rcases hh with rfl | ⟨hh1, hh2⟩
        · have HC := Lib.hid (rcap_any (z + x + 1))
          have HD2 : Hid (D = cap20 (z + x + 1)) := Lib.hid (by rw [HD.out, if_pos rfl, HZ.out]; congr 1; omega)
          have d3 : ((k : Int) == -1) = false := beq_eq_false_iff_ne.2 (by omega)
          generalize cap20 (z + x + 1) = dd at *
          have d4 : decide ((k : Int) < -1) = false := decide_eq_false (by omega)
          go_wp2_with fail
          refine wp_loop_rounds 1 ?_
          rw [rounds_succ]; go_wp2_with fail
          refine (HC.out _).mono ?_
          rintro e w4 ⟨rfl, rfl⟩
          go_wp2_with fail
          go_returns
          exact ⟨by rw [HD2.out] <;> rfl, HB3.out⟩
        · obtain ⟨h, rfl⟩ := Int.eq_ofNat_of_zero_le (show 0 ≤ yhi by omega)
          have e1 : ((h : Int) == -1) = false := beq_eq_false_iff_ne.2 (by omega)
          have hkh : k ≤ h := by omega
          have HD2 : Hid (D = cap20 (2 + (k : Int) * x + ((h : Int) - k) * (x + 1))) := Lib.hid (by rw [HD.out, if_neg (by omega)])
          go_wp2_with fail
          go_loopw [7, 9] (fun zv jv wr => ∃ (m : Nat) (y : Int), k ≤ m ∧ m ≤ h ∧ jv = .int .i64 m ∧ zv = .int .i64 y ∧ 0 ≤ y ∧ y ≤ 2 + m * 1048577 ∧ Hid (y = 2 + (k : Int) * x + ((m : Int) - k) * (x + 1)) ∧ wr = w3) (fun _ jv _ => h - (intOf jv).toNat)
          case atStart => exact ⟨k, z, Nat.le_refl _, hkh, rfl, rfl, hz0, hz1, Lib.hid (by rw [HZ.out]; simp), rfl⟩
          case round =>
            obtain ⟨m, y, hm1, hm2, rfl, rfl, hy0, hy1, HY2, hwr⟩ := hrel
            have hwr' := hwr.symm
            subst hwr'
            by_cases hlt : m < h
            · have d1 : decide ((m : Int) < (h : Int)) = true := decide_eq_true (by omega)
              have HY3 : Hid (y + x + 1 = 2 + (k : Int) * x + (((m + 1 : Nat) : Int) - k) * (x + 1)) := Lib.hid (by
                have e2 : (((m + 1 : Nat) : Int) - k) * (x + 1) = ((m : Int) - k) * (x + 1) + (x + 1) := by
                  rw [show ((m + 1 : Nat) : Int) - k = ((m : Int) - k) + 1 by omega, Int.add_mul]; simp
                rw [e2, HY2.out]; omega)
              go_wp2_with fail
              go_roundw
              case rel => exact ⟨m + 1, y + x + 1, by omega, by omega, by go_num, by go_num, by omega, by omega, HY3, trivial⟩
              case measure => simp [intOf]; omega
            · have hmh : m = h := by omega
              subst hmh
              have d1 : decide ((m : Int) < (m : Int)) = false := decide_eq_false (by omega)
              have HC := Lib.hid (rcap_any y)
              have HD3 : Hid (D = cap20 y) := Lib.hid (by rw [HD2.out, HY2.out])
              generalize cap20 y = dd at *
              go_wp2_with fail
              refine (HC.out _).mono ?_
              rintro e w4 ⟨rfl, rfl⟩
              go_wp2_with fail
              go_returns
              exact ⟨by rw [HD3.out] <;> rfl, HB3.out⟩
  | @two p q _ _ hk0 h1 h2 h3 h4 _ =>
    have hkids : kids N (p + 1) = [(q : Int), (p : Int)] := by
      unfold kids
      rw [if_neg (by rcases hk0 with h | h <;> rw [h] <;> decide), if_pos (by rcases hk0 with h | h <;> rw [h] <;> rfl), Nat.add_sub_cancel, h1]
      congr 1
      · omega
      · congr 1; omega
    rw [hkids] at HKd
    obtain ⟨x, hx⟩ : ∃ x, szF (trT N p) = x := ⟨_, rfl⟩
    obtain ⟨y, hy⟩ : ∃ x, szF (trT N q) = x := ⟨_, rfl⟩
    have hbx := sz_bd (trT N p) (trT_is ht p p (Nat.le_refl _) (by omega) _ h1).2.1
    have hby := sz_bd (trT N q) (trT_is ht q q (Nat.le_refl _) (by omega) _ h3).2.1
    rw [hx] at hbx
    rw [hy] at hby
    have HP := Lib.hid (ih p (by omega) (by omega) x hx)
    have HQ := Lib.hid (ih q (by omega) (by omega) y hy)
    rcases hk0 with hk0 | hk0
    · have HD : Hid (D = cap20 (y + x)) := Lib.hid (by rw [← hD, sz_cat HTR.out hi hk0 h1 h2, hx, hy])
      have HCap := Lib.hid (rcap_any (y + x))
      have hwr : IntKind.i64.wrap (y + x) = y + x := by rw [IntKind.wrap_i64]; omega
      generalize cap20 (y + x) = z at *
      have HK0 := Lib.hid hk0
      clear hD ih ht hr hok hf hk0 h1 h2 h3 h4 hkids hx hy
      go_enter Try.func14, Try.ntmps14
      go_wp2_with fail
      refine HKd.out.mono ?_
      rintro e w2 ⟨kv, rfl, hkv, hb⟩
      have HRD2 := Lib.hid (HRD.out.below hb)
      have p0 := (HRD2.out (p + 1) hi).2.1
      rw [HK0.out] at p0
      have HB2 := Lib.hid hb
      obtain ⟨gk, ck, rfl, hgk, q0, q1⟩ : ∃ gk ck, kv = .slice (some ⟨gk, 0, none⟩) 2 ck ∧ gk < w2.heap.size ∧ w2.cell? ⟨gk, 0, none⟩ = some (.int .i64 (q : Int)) ∧ w2.cell? ⟨gk, 1, none⟩ = some (.int .i64 (p : Int)) := by
        rcases hkv with ⟨_, _, _, h⟩ | ⟨g, c, rfl, hg, hc⟩
        · cases h
        · exact ⟨g, c, rfl, hg, hc 0 (by simp), hc 1 (by simp)⟩
      have hB := Below.refl w2.heap.size w2
      have HKp : Hid (∀ w', Below w2.heap.size w2 w' → w'.cell? ⟨gk, 0, none⟩ = some (.int .i64 (q : Int)) ∧ w'.cell? ⟨gk, 1, none⟩ = some (.int .i64 (p : Int))) := Lib.hid fun w' hb' =>
        ⟨by rw [hb'.cell (p := ⟨gk, 0, none⟩) hgk]; exact q0, by rw [hb'.cell (p := ⟨gk, 1, none⟩) hgk]; exact q1⟩
      clear hb hkv HKd HRD
      go_wp2_with fail
      go_region_held_law (fun w' => w'.cell? ⟨gk, 0, none⟩ = some (.int .i64 (q : Int)) ∧ w'.cell? ⟨gk, 1, none⟩ = some (.int .i64 (p : Int)))
        (first | exact HKp.out _ hB | exact HKp.out _ hB.drew)
        (first
          | (go_at_call 14; (with_reducible refine (HQ.out _ ?t1).mono ?_); (case t1 => exact HRD2.out.below hB.drew); rintro e wk ⟨rfl, hb⟩; (replace hB : Below w2.heap.size w2 wk := hB.drew.trans (hb.mono (by exact hB.size))); clear hb)
          | (go_at_call 14; (with_reducible refine (HP.out _ ?t2).mono ?_); (case t2 => exact HRD2.out.below hB); rintro e wk ⟨rfl, hb⟩; (replace hB : Below w2.heap.size w2 wk := hB.trans (hb.mono (by exact hB.size))); clear hb)
          | (go_at_call 34; (with_reducible refine (HCap.out _).mono ?_); rintro e wk ⟨rfl, rfl⟩))
      have HB3 := Lib.hid (HB2.out.trans (hB.mono HB2.out.size))
      clear hB
      go_wp2_with fail
      go_returns
      exact ⟨by rw [HD.out] <;> rfl, HB3.out⟩
    · have HD : Hid (D = cap20 (y + x + 2)) := Lib.hid (by rw [← hD, sz_or HTR.out hi hk0 h1 h2, hx, hy])
      have HCap := Lib.hid (rcap_any (y + x + 2))
      have hwr : IntKind.i64.wrap (y + x) = y + x := by rw [IntKind.wrap_i64]; omega
      have hwr2 : IntKind.i64.wrap (y + x + 2) = y + x + 2 := by rw [IntKind.wrap_i64]; omega
      generalize cap20 (y + x + 2) = z at *
      have HK0 := Lib.hid hk0
      clear hD ih ht hr hok hf hk0 h1 h2 h3 h4 hkids hx hy
      go_enter Try.func14, Try.ntmps14
      go_wp2_with fail
      refine HKd.out.mono ?_
      rintro e w2 ⟨kv, rfl, hkv, hb⟩
      have HRD2 := Lib.hid (HRD.out.below hb)
      have p0 := (HRD2.out (p + 1) hi).2.1
      rw [HK0.out] at p0
      have HB2 := Lib.hid hb
      obtain ⟨gk, ck, rfl, hgk, q0, q1⟩ : ∃ gk ck, kv = .slice (some ⟨gk, 0, none⟩) 2 ck ∧ gk < w2.heap.size ∧ w2.cell? ⟨gk, 0, none⟩ = some (.int .i64 (q : Int)) ∧ w2.cell? ⟨gk, 1, none⟩ = some (.int .i64 (p : Int)) := by
        rcases hkv with ⟨_, _, _, h⟩ | ⟨g, c, rfl, hg, hc⟩
        · cases h
        · exact ⟨g, c, rfl, hg, hc 0 (by simp), hc 1 (by simp)⟩
      have hB := Below.refl w2.heap.size w2
      have HKp : Hid (∀ w', Below w2.heap.size w2 w' → w'.cell? ⟨gk, 0, none⟩ = some (.int .i64 (q : Int)) ∧ w'.cell? ⟨gk, 1, none⟩ = some (.int .i64 (p : Int))) := Lib.hid fun w' hb' =>
        ⟨by rw [hb'.cell (p := ⟨gk, 0, none⟩) hgk]; exact q0, by rw [hb'.cell (p := ⟨gk, 1, none⟩) hgk]; exact q1⟩
      clear hb hkv HKd HRD
      go_wp2_with fail
      go_region_held_law (fun w' => w'.cell? ⟨gk, 0, none⟩ = some (.int .i64 (q : Int)) ∧ w'.cell? ⟨gk, 1, none⟩ = some (.int .i64 (p : Int)))
        (first | exact HKp.out _ hB | exact HKp.out _ hB.drew)
        (first
          | (go_at_call 14; (with_reducible refine (HQ.out _ ?t1).mono ?_); (case t1 => exact HRD2.out.below hB.drew); rintro e wk ⟨rfl, hb⟩; (replace hB : Below w2.heap.size w2 wk := hB.drew.trans (hb.mono (by exact hB.size))); clear hb)
          | (go_at_call 14; (with_reducible refine (HP.out _ ?t2).mono ?_); (case t2 => exact HRD2.out.below hB); rintro e wk ⟨rfl, hb⟩; (replace hB : Below w2.heap.size w2 wk := hB.trans (hb.mono (by exact hB.size))); clear hb)
          | (go_at_call 34; (with_reducible refine (HCap.out _).mono ?_); rintro e wk ⟨rfl, rfl⟩))
      have HB3 := Lib.hid (HB2.out.trans (hB.mono HB2.out.size))
      clear hB
      go_wp2_with fail
      go_returns
      exact ⟨by rw [HD.out] <;> rfl, HB3.out⟩
end Go.Proofs.Ytepegohopgnmnaa
