/-
  The walk of the reference's Firsts: where each node's part begins.
-/
import Derived.Test.YtdhplphgackjaaaPk8
namespace Go.Proofs.Ytdhplphgackjaaa
open Go.RowKit

theorem infoInt : (Try.prog.info? 3).map (fun i => (i.zero, i.size, i.bytes)) = some (some (.int .i64 0), 1, 8) := by kernel_rfl
def fsts (N : Nat → Nd) (k : Nat) : List Int := (List.range k).map (fst N)
theorem fsts_succ (N : Nat → Nd) (k : Nat) : fsts N (k + 1) = fsts N k ++ [fst N k] := by unfold fsts; rw [List.range_succ, List.map_append]; rfl
theorem fsts_len (N : Nat → Nd) (k : Nat) : (fsts N k).length = k := by simp [fsts]
theorem fsts_get (N : Nat → Nd) (k j : Nat) (h : j < k) : (ivs (fsts N k))[j]? = some (.int .i64 (fst N j)) := by simp [ivs, fsts, h]

/-- What holds at the head of the inner loop. -/
def fsRel (N : Nat → Nd) (k : Nat) (x y : Value) : Prop := ∃ (fr : Int) (m : Nat), x = .int .i64 fr ∧ y = .int .i64 (m : Int) ∧ m ≤ 2 ∧ -1 ≤ fr ∧ fr ≤ k ∧ Hid (fst N k = if fr < 0 then -1 else back N fr.toNat m)
theorem fsRel_none {N : Nat → Nd} {k m : Nat} (hm : m ≤ 1) (h : fst N k = back N 0 (m + 1)) (y : Int) (hy : y = m) : fsRel N k (.int .i64 (-1)) (.int .i64 y) :=
  ⟨-1, m, rfl, by rw [hy], by omega, by omega, by omega, Lib.hid (by rw [h, back_none]; rfl)⟩
theorem fsRel_step {N : Nat → Nd} {k q m : Nat} (hm : m ≤ 1) (hq : q + 1 ≤ k) (h : fst N k = back N (q + 1) (m + 1)) (y : Int) (hy : y = m) : fsRel N k (.int .i64 (fst N q)) (.int .i64 y) := by
  have hb := fst_bd N q
  refine ⟨fst N q, m, rfl, by rw [hy], by omega, by omega, by omega, Lib.hid ?_⟩
  rw [h, back_step]

theorem fs_end {N : Nat → Nd} {k : Nat} {fr : Int} (h : fst N k = if fr < 0 then -1 else back N fr.toNat 0) (h0 : -1 ≤ fr) : fst N k = fr := by
  rw [h]
  split
  · omega
  · rw [back_zero]; omega

set_option maxRecDepth 100000 in
set_option maxHeartbeats 4000000 in
theorem firsts_some (b off n cap : Nat) (N : Nat → Nd) (hn : n ≤ 1000) (w : World) (hr : rdN w b off n N) :
    Calls Try.prog 26 #[.slice (some ⟨b, off, none⟩) n cap] w fun e w' => ∃ v, e = .returned v ∧ w'.ownsRow w.heap.size 3 1 v n (ivs (fsts N n)) ∧ Below w.heap.size w w' := by
  obtain ⟨i0, hi, hz0, hz1, hz2⟩ := info_parts infoInt
  have HR := Lib.hid hr
  clear hr
  go_enter Try.func26, Try.ntmps26
  go_wp2
  go_loopw [3, 4] (fun v i wr => ∃ k : Nat, k ≤ n ∧ i = .int .i64 k ∧ wr.ownsRow w.heap.size 3 1 v k (ivs (fsts N k)) ∧ Below w.heap.size w wr) (fun _ i _ => n - (intOf i).toNat)
  case atStart => exact ⟨0, Nat.zero_le _, rfl, World.ownsRow_nil _ _ _ _, Below.refl _ _⟩
  case round =>
    obtain ⟨k, hk, rfl, hown, hB⟩ := hrel
    obtain ⟨wo, rfl⟩ : ∃ wo : World, wo = wr := ⟨_, rfl⟩
    by_cases hlt : k < n
    · have hc := ((HR.out.below hB) k hlt).2.1
      have hsz := hB.size
      have h0 : (0 : Int) ≤ (k : Int) := by omega
      have h1 : (k : Int) < (n : Int) := by omega
      have e0 := fst_eq N k
      have hab := ar_bd (N k).k
      obtain ⟨A, HA⟩ : ∃ A, Hid (ar (N k).k = A) := ⟨_, Lib.hid rfl⟩
      rw [HA.out] at e0 hab
      have E0 := Lib.hid e0
      clear e0
      rcases id hown.2 with ⟨rfl, hz⟩ | ⟨g, cp, cur, rfl, -⟩
      · have hkz : k ≤ 0 := by omega
        clear hz
        go_wp2_with fail
        refine (rargs_any _ _).mono ?_; rintro e w1 ⟨rfl, hb1⟩; rw [HA.out]
        have hc1 : w1.cell? ⟨b, off + k * 7, none⟩ = some (.int .i64 (N k).k) := by rw [hb1.cell (p := ⟨b, off + k * 7, none⟩) (HR.out.below hB k hlt).1]; exact hc
        clear hc
        rcases Int.lt_or_le A 0 with hneg | hpos
        · obtain rfl : A = -1 := by omega
          go_wp2_with fail
          refine wp_loop_rounds 1 ?_
          rw [rounds_succ]
          obtain ⟨fr, hfr⟩ : ∃ fr : Int, fr = -1 := ⟨_, rfl⟩
          have HF : Hid (fst N k = fr) := Lib.hid (by rw [E0.out, if_pos (by omega), hfr])
          subst hfr
          have HE : Hid (fst N k = -1) := Lib.hid (HF.out)
          clear HF
          go_wp2_with fail
          refine (rargs_any _ _).mono ?_; rintro e w2 ⟨rfl, hb2⟩; rw [HA.out]
          have hown2 := owns_below (owns_below hown hb1) hb2
          have HB2 := Lib.hid ((hB.trans (hb1.mono hsz)).trans (hb2.mono (Nat.le_trans hsz hb1.size)))
          have hsz2 := HB2.out.size
          clear hown hb1 hb2 hB hsz
          go_wp2_with (at_builtin; refine wpList_append_own _ rfl _ _ 43 rfl w.heap.size 3 i0 (.int .i64 0) 1 8 Try.underlying43 hi hz0 hz1 hz2 rfl (by decide) _ _ _ rfl (hown2.alloc _) ⟨w2.heap.size, 0, none⟩ 1 1 [.int .i64 (-1)] rfl rfl ?u1 ?u2 ?u3 ?u4 ?u5 ?_)
          case u1 =>
            intro x u hx
            match x, hx with
            | 0, hx => simp at hx; subst hx; simp [Addr.add]
          case u2 => intro u hu; simp at hu; subst hu; rfl
          case u3 => unfold maxLen; omega
          case u4 => omega
          case u5 => simp; omega
          intro v' w3 hown3 hgrow _
          have HW3 : Hid (Below w.heap.size w w3) := Lib.hid ((HB2.out.alloc hsz2 _).grown hgrow (by simp; omega) fun r hr => (hown2.lt r hr).1)
          have HO : Hid (w3.ownsRow w.heap.size 3 1 v' (k + 1) (ivs (fsts N (k + 1)))) := Lib.hid (by rw [fsts_succ, HE.out]; simpa [ivs] using hown3)
          clear hown3 hgrow hown2 HB2 hsz2
          go_wp2
          go_roundw
          case rel => exact ⟨k + 1, by omega, by go_num, HO.out, HW3.out⟩
          case measure => simp [intOf]; omega
        · obtain ⟨a, rfl⟩ := Int.eq_ofNat_of_zero_le hpos
          have ha2 : a ≤ 2 := by omega
          go_wp2_with fail
          go_loop [5, 6] (fun x y => fsRel N k x y) (fun _ y => (intOf y).toNat)
          case atStart => exact ⟨(k : Int), a, rfl, rfl, ha2, by omega, by omega, Lib.hid (by rw [E0.out, if_neg (by omega), if_neg (by omega)]; simp)⟩
          case round =>
            obtain ⟨fr, m, rfl, rfl, hm, hfr0, hfr1, HF⟩ := hrel
            have d2 : decide ((a : Int) < 0) = false := decide_eq_false (by omega)
            rcases m with _ | m
            · have d0 : decide ((0 : Nat) < 0) = false := by decide
              have HE : Hid (fst N k = fr) := Lib.hid (fs_end HF.out hfr0)
              clear HF
              go_wp2_with fail
              refine (rargs_any _ _).mono ?_; rintro e w2 ⟨rfl, hb2⟩; rw [HA.out]
              have hown2 := owns_below (owns_below hown hb1) hb2
              have HB2 := Lib.hid ((hB.trans (hb1.mono hsz)).trans (hb2.mono (Nat.le_trans hsz hb1.size)))
              have hsz2 := HB2.out.size
              clear hown hb1 hb2 hB hsz
              go_wp2_with (at_builtin; refine wpList_append_own _ rfl _ _ 43 rfl w.heap.size 3 i0 (.int .i64 0) 1 8 Try.underlying43 hi hz0 hz1 hz2 rfl (by decide) _ _ _ rfl (hown2.alloc _) ⟨w2.heap.size, 0, none⟩ 1 1 [.int .i64 fr] rfl rfl ?u1 ?u2 ?u3 ?u4 ?u5 ?_)
              case u1 =>
                intro x u hx
                match x, hx with
                | 0, hx => simp at hx; subst hx; simp [Addr.add]
              case u2 => intro u hu; simp at hu; subst hu; rfl
              case u3 => unfold maxLen; omega
              case u4 => omega
              case u5 => simp; omega
              intro v' w3 hown3 hgrow _
              have HW3 : Hid (Below w.heap.size w w3) := Lib.hid ((HB2.out.alloc hsz2 _).grown hgrow (by simp; omega) fun r hr => (hown2.lt r hr).1)
              have HO : Hid (w3.ownsRow w.heap.size 3 1 v' (k + 1) (ivs (fsts N (k + 1)))) := Lib.hid (by rw [fsts_succ, HE.out]; simpa [ivs] using hown3)
              clear hown3 hgrow hown2 HB2 hsz2
              go_wp2
              go_roundw
              case rel => exact ⟨k + 1, by omega, by go_num, HO.out, HW3.out⟩
              case measure => simp [intOf]; omega
            · rcases Int.lt_or_le fr 0 with hn0 | hp0
              · have d0 : decide ((0 : Int) ≤ fr) = false := decide_eq_false (by omega)
                have d1 : decide ((0 : Int) < (m : Int) + 1) = true := decide_eq_true (by omega)
                have HE : Hid (fst N k = fr) := Lib.hid (by have := HF.out; rw [if_pos hn0] at this; omega)
                clear HF
                go_wp2_with fail
                refine (rargs_any _ _).mono ?_; rintro e w2 ⟨rfl, hb2⟩; rw [HA.out]
                have hown2 := owns_below (owns_below hown hb1) hb2
                have HB2 := Lib.hid ((hB.trans (hb1.mono hsz)).trans (hb2.mono (Nat.le_trans hsz hb1.size)))
                have hsz2 := HB2.out.size
                clear hown hb1 hb2 hB hsz
                go_wp2_with (at_builtin; refine wpList_append_own _ rfl _ _ 43 rfl w.heap.size 3 i0 (.int .i64 0) 1 8 Try.underlying43 hi hz0 hz1 hz2 rfl (by decide) _ _ _ rfl (hown2.alloc _) ⟨w2.heap.size, 0, none⟩ 1 1 [.int .i64 fr] rfl rfl ?u1 ?u2 ?u3 ?u4 ?u5 ?_)
                case u1 =>
                  intro x u hx
                  match x, hx with
                  | 0, hx => simp at hx; subst hx; simp [Addr.add]
                case u2 => intro u hu; simp at hu; subst hu; rfl
                case u3 => unfold maxLen; omega
                case u4 => omega
                case u5 => simp; omega
                intro v' w3 hown3 hgrow _
                have HW3 : Hid (Below w.heap.size w w3) := Lib.hid ((HB2.out.alloc hsz2 _).grown hgrow (by simp; omega) fun r hr => (hown2.lt r hr).1)
                have HO : Hid (w3.ownsRow w.heap.size 3 1 v' (k + 1) (ivs (fsts N (k + 1)))) := Lib.hid (by rw [fsts_succ, HE.out]; simpa [ivs] using hown3)
                clear hown3 hgrow hown2 HB2 hsz2
                go_wp2
                go_roundw
                case rel => exact ⟨k + 1, by omega, by go_num, HO.out, HW3.out⟩
                case measure => simp [intOf]; omega
              · obtain ⟨p, rfl⟩ := Int.eq_ofNat_of_zero_le hp0
                have HF2 : Hid (fst N k = back N p (m + 1)) := Lib.hid (by have := HF.out; rw [if_neg (by omega)] at this; simpa using this)
                clear HF
                rcases p with _ | q
                · go_wp2
                  go_round
                  case rel => exact fsRel_none (by omega) HF2.out _ (by omega)
                  case measure => simp [intOf]
                · exfalso; omega
      · have HG : Hid (∀ q, q < k → wo.cell? ⟨g, q, none⟩ = some (.int .i64 (fst N q))) := Lib.hid fun q hq => by rw [hown.cellAt q (by omega), fsts_get N k q hq]
        have hgl : g < wo.heap.size := (hown.lt g rfl).2
        go_wp2_with fail
        refine (rargs_any _ _).mono ?_; rintro e w1 ⟨rfl, hb1⟩; rw [HA.out]
        have HG1 : Hid (∀ q, q < k → w1.cell? ⟨g, q, none⟩ = some (.int .i64 (fst N q))) := Lib.hid fun q hq => by rw [hb1.cell (p := ⟨g, q, none⟩) hgl]; exact HG.out q hq
        clear HG
        have hc1 : w1.cell? ⟨b, off + k * 7, none⟩ = some (.int .i64 (N k).k) := by rw [hb1.cell (p := ⟨b, off + k * 7, none⟩) (HR.out.below hB k hlt).1]; exact hc
        clear hc
        rcases Int.lt_or_le A 0 with hneg | hpos
        · obtain rfl : A = -1 := by omega
          go_wp2_with fail
          refine wp_loop_rounds 1 ?_
          rw [rounds_succ]
          obtain ⟨fr, hfr⟩ : ∃ fr : Int, fr = -1 := ⟨_, rfl⟩
          have HF : Hid (fst N k = fr) := Lib.hid (by rw [E0.out, if_pos (by omega), hfr])
          subst hfr
          have HE : Hid (fst N k = -1) := Lib.hid (HF.out)
          clear HF
          go_wp2_with fail
          refine (rargs_any _ _).mono ?_; rintro e w2 ⟨rfl, hb2⟩; rw [HA.out]
          have hown2 := owns_below (owns_below hown hb1) hb2
          have HB2 := Lib.hid ((hB.trans (hb1.mono hsz)).trans (hb2.mono (Nat.le_trans hsz hb1.size)))
          have hsz2 := HB2.out.size
          clear hown hb1 hb2 hB hsz
          go_wp2_with (at_builtin; refine wpList_append_own _ rfl _ _ 43 rfl w.heap.size 3 i0 (.int .i64 0) 1 8 Try.underlying43 hi hz0 hz1 hz2 rfl (by decide) _ _ _ rfl (hown2.alloc _) ⟨w2.heap.size, 0, none⟩ 1 1 [.int .i64 (-1)] rfl rfl ?u1 ?u2 ?u3 ?u4 ?u5 ?_)
          case u1 =>
            intro x u hx
            match x, hx with
            | 0, hx => simp at hx; subst hx; simp [Addr.add]
          case u2 => intro u hu; simp at hu; subst hu; rfl
          case u3 => unfold maxLen; omega
          case u4 => omega
          case u5 => simp; omega
          intro v' w3 hown3 hgrow _
          have HW3 : Hid (Below w.heap.size w w3) := Lib.hid ((HB2.out.alloc hsz2 _).grown hgrow (by simp; omega) fun r hr => (hown2.lt r hr).1)
          have HO : Hid (w3.ownsRow w.heap.size 3 1 v' (k + 1) (ivs (fsts N (k + 1)))) := Lib.hid (by rw [fsts_succ, HE.out]; simpa [ivs] using hown3)
          clear hown3 hgrow hown2 HB2 hsz2
          go_wp2
          go_roundw
          case rel => exact ⟨k + 1, by omega, by go_num, HO.out, HW3.out⟩
          case measure => simp [intOf]; omega
        · obtain ⟨a, rfl⟩ := Int.eq_ofNat_of_zero_le hpos
          have ha2 : a ≤ 2 := by omega
          go_wp2_with fail
          go_loop [5, 6] (fun x y => fsRel N k x y) (fun _ y => (intOf y).toNat)
          case atStart => exact ⟨(k : Int), a, rfl, rfl, ha2, by omega, by omega, Lib.hid (by rw [E0.out, if_neg (by omega), if_neg (by omega)]; simp)⟩
          case round =>
            obtain ⟨fr, m, rfl, rfl, hm, hfr0, hfr1, HF⟩ := hrel
            have d2 : decide ((a : Int) < 0) = false := decide_eq_false (by omega)
            rcases m with _ | m
            · have d0 : decide ((0 : Nat) < 0) = false := by decide
              have HE : Hid (fst N k = fr) := Lib.hid (fs_end HF.out hfr0)
              clear HF
              go_wp2_with fail
              refine (rargs_any _ _).mono ?_; rintro e w2 ⟨rfl, hb2⟩; rw [HA.out]
              have hown2 := owns_below (owns_below hown hb1) hb2
              have HB2 := Lib.hid ((hB.trans (hb1.mono hsz)).trans (hb2.mono (Nat.le_trans hsz hb1.size)))
              have hsz2 := HB2.out.size
              clear hown hb1 hb2 hB hsz
              go_wp2_with (at_builtin; refine wpList_append_own _ rfl _ _ 43 rfl w.heap.size 3 i0 (.int .i64 0) 1 8 Try.underlying43 hi hz0 hz1 hz2 rfl (by decide) _ _ _ rfl (hown2.alloc _) ⟨w2.heap.size, 0, none⟩ 1 1 [.int .i64 fr] rfl rfl ?u1 ?u2 ?u3 ?u4 ?u5 ?_)
              case u1 =>
                intro x u hx
                match x, hx with
                | 0, hx => simp at hx; subst hx; simp [Addr.add]
              case u2 => intro u hu; simp at hu; subst hu; rfl
              case u3 => unfold maxLen; omega
              case u4 => omega
              case u5 => simp; omega
              intro v' w3 hown3 hgrow _
              have HW3 : Hid (Below w.heap.size w w3) := Lib.hid ((HB2.out.alloc hsz2 _).grown hgrow (by simp; omega) fun r hr => (hown2.lt r hr).1)
              have HO : Hid (w3.ownsRow w.heap.size 3 1 v' (k + 1) (ivs (fsts N (k + 1)))) := Lib.hid (by rw [fsts_succ, HE.out]; simpa [ivs] using hown3)
              clear hown3 hgrow hown2 HB2 hsz2
              go_wp2
              go_roundw
              case rel => exact ⟨k + 1, by omega, by go_num, HO.out, HW3.out⟩
              case measure => simp [intOf]; omega
            · rcases Int.lt_or_le fr 0 with hn0 | hp0
              · have d0 : decide ((0 : Int) ≤ fr) = false := decide_eq_false (by omega)
                have d1 : decide ((0 : Int) < (m : Int) + 1) = true := decide_eq_true (by omega)
                have HE : Hid (fst N k = fr) := Lib.hid (by have := HF.out; rw [if_pos hn0] at this; omega)
                clear HF
                go_wp2_with fail
                refine (rargs_any _ _).mono ?_; rintro e w2 ⟨rfl, hb2⟩; rw [HA.out]
                have hown2 := owns_below (owns_below hown hb1) hb2
                have HB2 := Lib.hid ((hB.trans (hb1.mono hsz)).trans (hb2.mono (Nat.le_trans hsz hb1.size)))
                have hsz2 := HB2.out.size
                clear hown hb1 hb2 hB hsz
                go_wp2_with (at_builtin; refine wpList_append_own _ rfl _ _ 43 rfl w.heap.size 3 i0 (.int .i64 0) 1 8 Try.underlying43 hi hz0 hz1 hz2 rfl (by decide) _ _ _ rfl (hown2.alloc _) ⟨w2.heap.size, 0, none⟩ 1 1 [.int .i64 fr] rfl rfl ?u1 ?u2 ?u3 ?u4 ?u5 ?_)
                case u1 =>
                  intro x u hx
                  match x, hx with
                  | 0, hx => simp at hx; subst hx; simp [Addr.add]
                case u2 => intro u hu; simp at hu; subst hu; rfl
                case u3 => unfold maxLen; omega
                case u4 => omega
                case u5 => simp; omega
                intro v' w3 hown3 hgrow _
                have HW3 : Hid (Below w.heap.size w w3) := Lib.hid ((HB2.out.alloc hsz2 _).grown hgrow (by simp; omega) fun r hr => (hown2.lt r hr).1)
                have HO : Hid (w3.ownsRow w.heap.size 3 1 v' (k + 1) (ivs (fsts N (k + 1)))) := Lib.hid (by rw [fsts_succ, HE.out]; simpa [ivs] using hown3)
                clear hown3 hgrow hown2 HB2 hsz2
                go_wp2
                go_roundw
                case rel => exact ⟨k + 1, by omega, by go_num, HO.out, HW3.out⟩
                case measure => simp [intOf]; omega
              · obtain ⟨p, rfl⟩ := Int.eq_ofNat_of_zero_le hp0
                have HF2 : Hid (fst N k = back N p (m + 1)) := Lib.hid (by have := HF.out; rw [if_neg (by omega)] at this; simpa using this)
                clear HF
                rcases p with _ | q
                · go_wp2
                  go_round
                  case rel => exact fsRel_none (by omega) HF2.out _ (by omega)
                  case measure => simp [intOf]
                · have hcq := HG1.out q (by omega)
                  have q0 : (0 : Int) ≤ (q : Int) := by omega
                  have q1 : (q : Int) < (k : Int) := by omega
                  go_wp2
                  go_round
                  case rel => exact fsRel_step (by omega) (by omega) HF2.out _ (by omega)
                  case measure => simp [intOf]
    · obtain rfl : k = n := by omega
      go_wp2
      go_ret
      exact ⟨_, rfl, hown, hB⟩
end Go.Proofs.Ytdhplphgackjaaa
