/-
  The walk of the reference's Firsts: where each node's part begins.
  The walks of the reference's Firsts at no node, and of its Kids.
-/
import Derived.Test.YtepegohopgnmnaaPk10
import Derived.Laws.AppendOwnNone
namespace Go.Proofs.Ytepegohopgnmnaa
open Go.RowKit

theorem infoInt : (Try.prog.info? 3).map (fun i => (i.zero, i.size, i.bytes)) = some (some (.int .i64 0), 1, 8) := by kernel_rfl
def fsts (N : Nat → Nd) (k : Nat) : List Int := (List.range k).map (fst N)
theorem fsts_succ (N : Nat → Nd) (k : Nat) : fsts N (k + 1) = fsts N k ++ [fst N k] := by unfold fsts; rw [List.range_succ, List.map_append]; rfl
theorem fsts_len (N : Nat → Nd) (k : Nat) : (fsts N k).length = k := by simp [fsts]
theorem fsts_get (N : Nat → Nd) (k j : Nat) (h : j < k) : (ivs (fsts N k))[j]? = some (.int .i64 (fst N j)) := by simp [ivs, fsts, h]

/-- What holds at the head of the inner loop. -/
def fsRel (N : Nat → Nd) (k : Nat) (x y : Value) : Prop := ∃ (fr : Int) (m : Nat), x = .int .i64 fr ∧ y = .int .i64 (m : Int) ∧ m ≤ 2 ∧ -1 ≤ fr ∧ fr ≤ k ∧ Hid (fst N k = if fr < 0 then -1 else back N fr.toNat m)
theorem fsRel_none {N : Nat → Nd} {k m : Nat} (hm : m ≤ 1) (h : fst N k = back N 0 (m + 1)) (y : Int) (hy : y = m) : fsRel N k (.int .i64 (-1)) (.int .i64 y) :=
  ⟨-1, m, rfl, by rw [hy], by omega, by omega, by omega, Lib.hid (by rw [h, back_none]; rfl)⟩
theorem fsRel_step {N : Nat → Nd} {k q m : Nat} (hm : m ≤ 1) (hq : q + 1 ≤ k) (h : fst N k = back N (q + 1) (m + 1)) (y : Int) (hy : y = m) : fsRel N k (.int .i64 (fst N q)) (.int .i64 y) := by
  have hb := fst_bd N q
  refine ⟨fst N q, m, rfl, by rw [hy], by omega, by omega, by omega, Lib.hid ?_⟩
  rw [h, back_step]

theorem fs_end {N : Nat → Nd} {k : Nat} {fr : Int} (h : fst N k = if fr < 0 then -1 else back N fr.toNat 0) (h0 : -1 ≤ fr) : fst N k = fr := by
  rw [h]
  split
  · omega
  · rw [back_zero]; omega

set_option maxRecDepth 100000 in
set_option maxHeartbeats 4000000 in
theorem firsts_some (b off n cap : Nat) (N : Nat → Nd) (hn : n ≤ 1000) (w : World) (hr : rdN w b off n N) :
    Calls Try.prog 32 #[.slice (some ⟨b, off, none⟩) n cap] w fun e w' => ∃ v, e = .returned v ∧ w'.ownsRow w.heap.size 3 1 v n (ivs (fsts N n)) ∧ Below w.heap.size w w' := by
  obtain ⟨i0, hi, hz0, hz1, hz2⟩ := info_parts infoInt
  have HR := Lib.hid hr
  clear hr
  go_enter Try.func32, Try.ntmps32
  go_wp2
  go_loopw [3, 4] (fun v i wr => ∃ k : Nat, k ≤ n ∧ i = .int .i64 k ∧ wr.ownsRow w.heap.size 3 1 v k (ivs (fsts N k)) ∧ Below w.heap.size w wr) (fun _ i _ => n - (intOf i).toNat)
  case atStart => exact ⟨0, Nat.zero_le _, rfl, World.ownsRow_nil _ _ _ _, Below.refl _ _⟩
  case round =>
    obtain ⟨k, hk, rfl, hown, hB⟩ := hrel
    obtain ⟨wo, rfl⟩ : ∃ wo : World, wo = wr := ⟨_, rfl⟩
    by_cases hlt : k < n
    · have hc := ((HR.out.below hB) k hlt).2.1
      have hsz := hB.size
      have h0 : (0 : Int) ≤ (k : Int) := by omega
      have h1 : (k : Int) < (n : Int) := by omega
      have e0 := fst_eq N k
      have hab := ar_bd (N k).k
      obtain ⟨A, HA⟩ : ∃ A, Hid (ar (N k).k = A) := ⟨_, Lib.hid rfl⟩
      rw [HA.out] at e0 hab
      have E0 := Lib.hid e0
      clear e0
      rcases id hown.2 with ⟨rfl, hz⟩ | ⟨g, cp, cur, rfl, -⟩
      · have hkz : k ≤ 0 := by omega
        clear hz
        go_wp2_with fail
        refine (rargs_any _ _).mono ?_; rintro e w1 ⟨rfl, hb1⟩; rw [HA.out]
        have hc1 : w1.cell? ⟨b, off + k * 7, none⟩ = some (.int .i64 (N k).k) := by rw [hb1.cell (p := ⟨b, off + k * 7, none⟩) (HR.out.below hB k hlt).1]; exact hc
        clear hc
        rcases Int.lt_or_le A 0 with hneg | hpos
        · obtain rfl : A = -1 := by omega
          go_wp2_with fail
          refine wp_loop_rounds 1 ?_
          rw [rounds_succ]
          obtain ⟨fr, hfr⟩ : ∃ fr : Int, fr = -1 := ⟨_, rfl⟩
          have HF : Hid (fst N k = fr) := Lib.hid (by rw [E0.out, if_pos (by omega), hfr])
          subst hfr
          have HE : Hid (fst N k = -1) := Lib.hid (HF.out)
          clear HF
          go_wp2_with fail
          refine (rargs_any _ _).mono ?_; rintro e w2 ⟨rfl, hb2⟩; rw [HA.out]
          have hown2 := owns_below (owns_below hown hb1) hb2
          have HB2 := Lib.hid ((hB.trans (hb1.mono hsz)).trans (hb2.mono (Nat.le_trans hsz hb1.size)))
          have hsz2 := HB2.out.size
          clear hown hb1 hb2 hB hsz
          go_wp2_with (at_builtin; refine wpList_append_own _ rfl _ _ 27 rfl w.heap.size 3 i0 (.int .i64 0) 1 8 Try.underlying27 hi hz0 hz1 hz2 rfl (by decide) _ _ _ rfl (hown2.alloc _) ⟨w2.heap.size, 0, none⟩ 1 1 [.int .i64 (-1)] rfl rfl ?u1 ?u2 ?u3 ?u4 ?u5 ?_)
          case u1 =>
            intro x u hx
            match x, hx with
            | 0, hx => simp at hx; subst hx; simp [Addr.add]
          case u2 => intro u hu; simp at hu; subst hu; rfl
          case u3 => unfold maxLen; omega
          case u4 => omega
          case u5 => simp; omega
          intro v' w3 hown3 hgrow _
          have HW3 : Hid (Below w.heap.size w w3) := Lib.hid ((HB2.out.alloc hsz2 _).grown hgrow (by simp; omega) fun r hr => (hown2.lt r hr).1)
          have HO : Hid (w3.ownsRow w.heap.size 3 1 v' (k + 1) (ivs (fsts N (k + 1)))) := Lib.hid (by rw [fsts_succ, HE.out]; simpa [ivs] using hown3)
          clear hown3 hgrow hown2 HB2 hsz2
          go_wp2
          go_roundw
          case rel => exact ⟨k + 1, by omega, by go_num, HO.out, HW3.out⟩
          case measure => simp [intOf]; omega
        · obtain ⟨a, rfl⟩ := Int.eq_ofNat_of_zero_le hpos
          have ha2 : a ≤ 2 := by omega
          go_wp2_with fail
          go_loop [5, 6] (fun x y => fsRel N k x y) (fun _ y => (intOf y).toNat)
          case atStart => exact ⟨(k : Int), a, rfl, rfl, ha2, by omega, by omega, Lib.hid (by rw [E0.out, if_neg (by omega), if_neg (by omega)]; simp)⟩
          case round =>
            obtain ⟨fr, m, rfl, rfl, hm, hfr0, hfr1, HF⟩ := hrel
            have d2 : decide ((a : Int) < 0) = false := decide_eq_false (by omega)
            rcases m with _ | m
            · have d0 : decide ((0 : Nat) < 0) = false := by decide
              have HE : Hid (fst N k = fr) := Lib.hid (fs_end HF.out hfr0)
              clear HF
              go_wp2_with fail
              refine (rargs_any _ _).mono ?_; rintro e w2 ⟨rfl, hb2⟩; rw [HA.out]
              have hown2 := owns_below (owns_below hown hb1) hb2
              have HB2 := Lib.hid ((hB.trans (hb1.mono hsz)).trans (hb2.mono (Nat.le_trans hsz hb1.size)))
              have hsz2 := HB2.out.size
              clear hown hb1 hb2 hB hsz
              go_wp2_with (at_builtin; refine wpList_append_own _ rfl _ _ 27 rfl w.heap.size 3 i0 (.int .i64 0) 1 8 Try.underlying27 hi hz0 hz1 hz2 rfl (by decide) _ _ _ rfl (hown2.alloc _) ⟨w2.heap.size, 0, none⟩ 1 1 [.int .i64 fr] rfl rfl ?u1 ?u2 ?u3 ?u4 ?u5 ?_)
              case u1 =>
                intro x u hx
                match x, hx with
                | 0, hx => simp at hx; subst hx; simp [Addr.add]
              case u2 => intro u hu; simp at hu; subst hu; rfl
              case u3 => unfold maxLen; omega
              case u4 => omega
              case u5 => simp; omega
              intro v' w3 hown3 hgrow _
              have HW3 : Hid (Below w.heap.size w w3) := Lib.hid ((HB2.out.alloc hsz2 _).grown hgrow (by simp; omega) fun r hr => (hown2.lt r hr).1)
              have HO : Hid (w3.ownsRow w.heap.size 3 1 v' (k + 1) (ivs (fsts N (k + 1)))) := Lib.hid (by rw [fsts_succ, HE.out]; simpa [ivs] using hown3)
              clear hown3 hgrow hown2 HB2 hsz2
              go_wp2
              go_roundw
              case rel => exact ⟨k + 1, by omega, by go_num, HO.out, HW3.out⟩
              case measure => simp [intOf]; omega
            · rcases Int.lt_or_le fr 0 with hn0 | hp0
              · have d0 : decide ((0 : Int) ≤ fr) = false := decide_eq_false (by omega)
                have d1 : decide ((0 : Int) < (m : Int) + 1) = true := decide_eq_true (by omega)
                have HE : Hid (fst N k = fr) := Lib.hid (by have := HF.out; rw [if_pos hn0] at this; omega)
                clear HF
                go_wp2_with fail
                refine (rargs_any _ _).mono ?_; rintro e w2 ⟨rfl, hb2⟩; rw [HA.out]
                have hown2 := owns_below (owns_below hown hb1) hb2
                have HB2 := Lib.hid ((hB.trans (hb1.mono hsz)).trans (hb2.mono (Nat.le_trans hsz hb1.size)))
                have hsz2 := HB2.out.size
                clear hown hb1 hb2 hB hsz
                go_wp2_with (at_builtin; refine wpList_append_own _ rfl _ _ 27 rfl w.heap.size 3 i0 (.int .i64 0) 1 8 Try.underlying27 hi hz0 hz1 hz2 rfl (by decide) _ _ _ rfl (hown2.alloc _) ⟨w2.heap.size, 0, none⟩ 1 1 [.int .i64 fr] rfl rfl ?u1 ?u2 ?u3 ?u4 ?u5 ?_)
                case u1 =>
                  intro x u hx
                  match x, hx with
                  | 0, hx => simp at hx; subst hx; simp [Addr.add]
                case u2 => intro u hu; simp at hu; subst hu; rfl
                case u3 => unfold maxLen; omega
                case u4 => omega
                case u5 => simp; omega
                intro v' w3 hown3 hgrow _
                have HW3 : Hid (Below w.heap.size w w3) := Lib.hid ((HB2.out.alloc hsz2 _).grown hgrow (by simp; omega) fun r hr => (hown2.lt r hr).1)
                have HO : Hid (w3.ownsRow w.heap.size 3 1 v' (k + 1) (ivs (fsts N (k + 1)))) := Lib.hid (by rw [fsts_succ, HE.out]; simpa [ivs] using hown3)
                clear hown3 hgrow hown2 HB2 hsz2
                go_wp2
                go_roundw
                case rel => exact ⟨k + 1, by omega, by go_num, HO.out, HW3.out⟩
                case measure => simp [intOf]; omega
              · obtain ⟨p, rfl⟩ := Int.eq_ofNat_of_zero_le hp0
                have HF2 : Hid (fst N k = back N p (m + 1)) := Lib.hid (by have := HF.out; rw [if_neg (by omega)] at this; simpa using this)
                clear HF
                rcases p with _ | q
                · go_wp2
                  go_round
                  case rel => exact fsRel_none (by omega) HF2.out _ (by omega)
                  case measure => simp [intOf]
                · exfalso; omega
      · have HG : Hid (∀ q, q < k → wo.cell? ⟨g, q, none⟩ = some (.int .i64 (fst N q))) := Lib.hid fun q hq => by rw [hown.cellAt q (by omega), fsts_get N k q hq]
        have hgl : g < wo.heap.size := (hown.lt g rfl).2
        go_wp2_with fail
        refine (rargs_any _ _).mono ?_; rintro e w1 ⟨rfl, hb1⟩; rw [HA.out]
        have HG1 : Hid (∀ q, q < k → w1.cell? ⟨g, q, none⟩ = some (.int .i64 (fst N q))) := Lib.hid fun q hq => by rw [hb1.cell (p := ⟨g, q, none⟩) hgl]; exact HG.out q hq
        clear HG
        have hc1 : w1.cell? ⟨b, off + k * 7, none⟩ = some (.int .i64 (N k).k) := by rw [hb1.cell (p := ⟨b, off + k * 7, none⟩) (HR.out.below hB k hlt).1]; exact hc
        clear hc
        rcases Int.lt_or_le A 0 with hneg | hpos
        · obtain rfl : A = -1 := by omega
          go_wp2_with fail
          refine wp_loop_rounds 1 ?_
          rw [rounds_succ]
          obtain ⟨fr, hfr⟩ : ∃ fr : Int, fr = -1 := ⟨_, rfl⟩
          have HF : Hid (fst N k = fr) := Lib.hid (by rw [E0.out, if_pos (by omega), hfr])
          subst hfr
          have HE : Hid (fst N k = -1) := Lib.hid (HF.out)
          clear HF
          go_wp2_with fail
          refine (rargs_any _ _).mono ?_; rintro e w2 ⟨rfl, hb2⟩; rw [HA.out]
          have hown2 := owns_below (owns_below hown hb1) hb2
          have HB2 := Lib.hid ((hB.trans (hb1.mono hsz)).trans (hb2.mono (Nat.le_trans hsz hb1.size)))
          have hsz2 := HB2.out.size
          clear hown hb1 hb2 hB hsz
          go_wp2_with (at_builtin; refine wpList_append_own _ rfl _ _ 27 rfl w.heap.size 3 i0 (.int .i64 0) 1 8 Try.underlying27 hi hz0 hz1 hz2 rfl (by decide) _ _ _ rfl (hown2.alloc _) ⟨w2.heap.size, 0, none⟩ 1 1 [.int .i64 (-1)] rfl rfl ?u1 ?u2 ?u3 ?u4 ?u5 ?_)
          case u1 =>
            intro x u hx
            match x, hx with
            | 0, hx => simp at hx; subst hx; simp [Addr.add]
          case u2 => intro u hu; simp at hu; subst hu; rfl
          case u3 => unfold maxLen; omega
          case u4 => omega
          case u5 => simp; omega
          intro v' w3 hown3 hgrow _
          have HW3 : Hid (Below w.heap.size w w3) := Lib.hid ((HB2.out.alloc hsz2 _).grown hgrow (by simp; omega) fun r hr => (hown2.lt r hr).1)
          have HO : Hid (w3.ownsRow w.heap.size 3 1 v' (k + 1) (ivs (fsts N (k + 1)))) := Lib.hid (by rw [fsts_succ, HE.out]; simpa [ivs] using hown3)
          clear hown3 hgrow hown2 HB2 hsz2
          go_wp2
          go_roundw
          case rel => exact ⟨k + 1, by omega, by go_num, HO.out, HW3.out⟩
          case measure => simp [intOf]; omega
        · obtain ⟨a, rfl⟩ := Int.eq_ofNat_of_zero_le hpos
          have ha2 : a ≤ 2 := by omega
          go_wp2_with fail
          go_loop [5, 6] (fun x y => fsRel N k x y) (fun _ y => (intOf y).toNat)
          case atStart => exact ⟨(k : Int), a, rfl, rfl, ha2, by omega, by omega, Lib.hid (by rw [E0.out, if_neg (by omega), if_neg (by omega)]; simp)⟩
          case round =>
            obtain ⟨fr, m, rfl, rfl, hm, hfr0, hfr1, HF⟩ := hrel
            have d2 : decide ((a : Int) < 0) = false := decide_eq_false (by omega)
            rcases m with _ | m
            · have d0 : decide ((0 : Nat) < 0) = false := by decide
              have HE : Hid (fst N k = fr) := Lib.hid (fs_end HF.out hfr0)
              clear HF
              go_wp2_with fail
              refine (rargs_any _ _).mono ?_; rintro e w2 ⟨rfl, hb2⟩; rw [HA.out]
              have hown2 := owns_below (owns_below hown hb1) hb2
              have HB2 := Lib.hid ((hB.trans (hb1.mono hsz)).trans (hb2.mono (Nat.le_trans hsz hb1.size)))
              have hsz2 := HB2.out.size
              clear hown hb1 hb2 hB hsz
              go_wp2_with (at_builtin; refine wpList_append_own _ rfl _ _ 27 rfl w.heap.size 3 i0 (.int .i64 0) 1 8 Try.underlying27 hi hz0 hz1 hz2 rfl (by decide) _ _ _ rfl (hown2.alloc _) ⟨w2.heap.size, 0, none⟩ 1 1 [.int .i64 fr] rfl rfl ?u1 ?u2 ?u3 ?u4 ?u5 ?_)
              case u1 =>
                intro x u hx
                match x, hx with
                | 0, hx => simp at hx; subst hx; simp [Addr.add]
              case u2 => intro u hu; simp at hu; subst hu; rfl
              case u3 => unfold maxLen; omega
              case u4 => omega
              case u5 => simp; omega
              intro v' w3 hown3 hgrow _
              have HW3 : Hid (Below w.heap.size w w3) := Lib.hid ((HB2.out.alloc hsz2 _).grown hgrow (by simp; omega) fun r hr => (hown2.lt r hr).1)
              have HO : Hid (w3.ownsRow w.heap.size 3 1 v' (k + 1) (ivs (fsts N (k + 1)))) := Lib.hid (by rw [fsts_succ, HE.out]; simpa [ivs] using hown3)
              clear hown3 hgrow hown2 HB2 hsz2
              go_wp2
              go_roundw
              case rel => exact ⟨k + 1, by omega, by go_num, HO.out, HW3.out⟩
              case measure => simp [intOf]; omega
            · rcases Int.lt_or_le fr 0 with hn0 | hp0
              · have d0 : decide ((0 : Int) ≤ fr) = false := decide_eq_false (by omega)
                have d1 : decide ((0 : Int) < (m : Int) + 1) = true := decide_eq_true (by omega)
                have HE : Hid (fst N k = fr) := Lib.hid (by have := HF.out; rw [if_pos hn0] at this; omega)
                clear HF
                go_wp2_with fail
                refine (rargs_any _ _).mono ?_; rintro e w2 ⟨rfl, hb2⟩; rw [HA.out]
                have hown2 := owns_below (owns_below hown hb1) hb2
                have HB2 := Lib.hid ((hB.trans (hb1.mono hsz)).trans (hb2.mono (Nat.le_trans hsz hb1.size)))
                have hsz2 := HB2.out.size
                clear hown hb1 hb2 hB hsz
                go_wp2_with (at_builtin; refine wpList_append_own _ rfl _ _ 27 rfl w.heap.size 3 i0 (.int .i64 0) 1 8 Try.underlying27 hi hz0 hz1 hz2 rfl (by decide) _ _ _ rfl (hown2.alloc _) ⟨w2.heap.size, 0, none⟩ 1 1 [.int .i64 fr] rfl rfl ?u1 ?u2 ?u3 ?u4 ?u5 ?_)
                case u1 =>
                  intro x u hx
                  match x, hx with
                  | 0, hx => simp at hx; subst hx; simp [Addr.add]
                case u2 => intro u hu; simp at hu; subst hu; rfl
                case u3 => unfold maxLen; omega
                case u4 => omega
                case u5 => simp; omega
                intro v' w3 hown3 hgrow _
                have HW3 : Hid (Below w.heap.size w w3) := Lib.hid ((HB2.out.alloc hsz2 _).grown hgrow (by simp; omega) fun r hr => (hown2.lt r hr).1)
                have HO : Hid (w3.ownsRow w.heap.size 3 1 v' (k + 1) (ivs (fsts N (k + 1)))) := Lib.hid (by rw [fsts_succ, HE.out]; simpa [ivs] using hown3)
                clear hown3 hgrow hown2 HB2 hsz2
                go_wp2
                go_roundw
                case rel => exact ⟨k + 1, by omega, by go_num, HO.out, HW3.out⟩
                case measure => simp [intOf]; omega
              · obtain ⟨p, rfl⟩ := Int.eq_ofNat_of_zero_le hp0
                have HF2 : Hid (fst N k = back N p (m + 1)) := Lib.hid (by have := HF.out; rw [if_neg (by omega)] at this; simpa using this)
                clear HF
                rcases p with _ | q
                · go_wp2
                  go_round
                  case rel => exact fsRel_none (by omega) HF2.out _ (by omega)
                  case measure => simp [intOf]
                · have hcq := HG1.out q (by omega)
                  have q0 : (0 : Int) ≤ (q : Int) := by omega
                  have q1 : (q : Int) < (k : Int) := by omega
                  go_wp2
                  go_round
                  case rel => exact fsRel_step (by omega) (by omega) HF2.out _ (by omega)
                  case measure => simp [intOf]
    · obtain rfl : k = n := by omega
      go_wp2
      go_ret
      exact ⟨_, rfl, hown, hB⟩
end Go.Proofs.Ytepegohopgnmnaa

namespace Go.Proofs.Ytepegohopgnmnaa
open Go.RowKit

theorem firsts_zero (p : Option Addr) (cap : Nat) (w : World) :
    Calls Try.prog 32 #[.slice p 0 cap] w fun e w' => e = .returned (.slice none 0 0) ∧ w = w' := by
  go_enter Try.func32, Try.ntmps32
  go_wp2
  refine wp_loop_rounds 1 ?_
  rw [rounds_succ]; go_wp2
  go_ret
  exact ⟨rfl, rfl⟩

set_option maxHeartbeats 2000000 in
theorem rkids_is (b off n cap i : Nat) (N : Nat → Nd) (hn : n ≤ 1000) (hi : i < n) (hf : 0 ≤ fst N i) (w : World) (hr : rdN w b off n N) :
    Calls Try.prog 33 #[.slice (some ⟨b, off, none⟩) n cap, .int .i64 (i : Int)] w fun e w' => ∃ v, e = .returned v ∧ rdI w' v (kids N i) ∧ Below w.heap.size w w' := by
  obtain ⟨i0, hinf, hz0, hz1, hz2⟩ := info_parts infoInt
  have hbl := (hr i hi).1
  have hc0 := (hr i hi).2.1
  have h0 : (0 : Int) ≤ (i : Int) := by omega
  have h1 : (i : Int) < (n : Int) := by omega
  have hib : (i : Int) < 1000 := by omega
  have HR := Lib.hid hr
  clear hr
  have HK := Lib.hid (kids_back hf)
  go_enter Try.func33, Try.ntmps33
  go_wp2_with fail
  refine (firsts_some _ _ _ _ _ hn _ HR.out).mono ?_
  rintro e w1 ⟨v, rfl, hown, hb1⟩
  have hc1 : w1.cell? ⟨b, off + i * 7, none⟩ = some (.int .i64 (N i).k) := by rw [hb1.cell (p := ⟨b, off + i * 7, none⟩) hbl]; exact hc0
  clear hc0
  rcases id hown.2 with ⟨rfl, hz⟩ | ⟨g, cp, cur, rfl, -⟩
  · exfalso; omega
  have HG : Hid (∀ q, q < n → w1.cell? ⟨g, q, none⟩ = some (.int .i64 (fst N q))) := Lib.hid fun q hq => by rw [hown.cellAt q (by omega), fsts_get N n q hq]
  have hgl : w.heap.size ≤ g ∧ g < w1.heap.size := hown.lt g rfl
  have hsz1 := hb1.size
  have HB1 := Lib.hid hb1
  clear hown hb1
  go_wp2_with fail
  refine (rargs_any _ _).mono ?_; rintro e w2 ⟨rfl, hb2⟩
  have HG2 : Hid (∀ q, q < n → w2.cell? ⟨g, q, none⟩ = some (.int .i64 (fst N q))) := Lib.hid fun q hq => by rw [hb2.cell (p := ⟨g, q, none⟩) hgl.2]; exact HG.out q hq
  have HB2 := Lib.hid (HB1.out.trans (hb2.mono hsz1))
  have hsz2 := HB2.out.size
  have hgl2 : g < w2.heap.size := by have := hb2.size; omega
  clear hb2 HG HB1 hc1 hsz1
  rcases HK.out with ⟨ha, hk, -⟩ | ⟨ha, hi0, hk, -, hg⟩ | ⟨ha, f, hf0, hfi, hff, hk, -, hg⟩
  · have HA := Lib.hid ha; have HK := Lib.hid hk
    clear ha hk
    rw [HA.out]
    go_wp2_with fail
    refine wp_loop_rounds 1 ?_
    rw [rounds_succ]; go_wp2
    go_ret
    exact ⟨_, rfl, by rw [HK.out]; exact .inl ⟨_, _, rfl, rfl⟩, HB2.out⟩
  · have HA := Lib.hid ha; have HK := Lib.hid hk
    clear ha hk
    obtain ⟨j, rfl⟩ : ∃ j, i = j + 1 := ⟨i - 1, by omega⟩
    have hcj := HG2.out j (by omega)
    rw [HA.out]
    go_wp2_with fail
    refine wp_loop_rounds 2 ?_
    rw [rounds_succ]; go_wp2_with fail
    rw [rounds_succ]; go_wp2
    go_ret
    refine ⟨_, rfl, ?_, ?_⟩
    · rw [HK.out]
      refine .inr ⟨_, _, rfl, by simp, fun j' hj => ?_⟩
      obtain rfl : j' = 0 := by simpa using hj
      simp [go_sem]
    · exact HB2.out.alloc hsz2 _
  · have HA := Lib.hid ha; have HK := Lib.hid hk
    obtain ⟨j, rfl⟩ : ∃ j, i = j + 1 := ⟨i - 1, by omega⟩
    obtain ⟨q, rfl⟩ : ∃ q, f = q + 1 := ⟨f - 1, by omega⟩
    have hcj := HG2.out j (by omega)
    rw [show fst N j = ((q + 1 : Nat) : Int) from hff] at hcj
    have hcq := HG2.out q (by omega)
    clear ha hk hff
    rw [HA.out]
    go_wp2_with fail
    refine wp_loop_rounds 3 ?_
    rw [rounds_succ]; go_wp2_with fail
    have hlit := World.ownsRow_lit (e := 3) (size := 1) (base := w.heap.size) (w2.alloc (.cells #[.int .i64 (j : Int)] 3)) #[.int .i64 (q : Int)] 1 (by simp; omega) (by unfold maxLen; omega) rfl
    simp only [World.size_alloc] at hlit
    have HL := Lib.hid hlit
    clear hlit
    rw [rounds_succ]
    go_wp2_with (at_builtin; refine wpList_append_own _ rfl _ _ 27 rfl w.heap.size 3 i0 (.int .i64 0) 1 8 Try.underlying27 hinf hz0 hz1 hz2 rfl (by decide) _ _ _ rfl HL.out ⟨w2.heap.size, 0, none⟩ 1 1 [.int .i64 (j : Int)] rfl rfl ?u1 ?u2 ?u3 ?u4 ?u5 ?_)
    case u1 =>
      intro x u hx
      match x, hx with
      | 0, hx => simp at hx; subst hx; simp [Addr.add]
    case u2 => intro u hu; simp at hu; subst hu; rfl
    case u3 => unfold maxLen; omega
    case u4 => omega
    case u5 => simp; omega
    intro v' w3 hown3 hgrow _
    have HW3 : Hid (Below w.heap.size w w3) := Lib.hid (((HB2.out.alloc hsz2 _).alloc (by simp; omega) _).grown hgrow (by simp; omega) fun r hr => by cases hr; simp; omega)
    have HO : Hid (rdI w3 v' (kids N (j + 1))) := Lib.hid (by
      rw [HK.out]
      refine rdI_of_owns (base := w.heap.size) (e := 3) ?_
      have e1 : ((q + 1 : Nat) : Int) - 1 = q := by omega
      have e2 : ((j + 1 : Nat) : Int) - 1 = j := by omega
      rw [e1, e2]
      exact hown3)
    have hcq3 : w3.cell? ⟨g, q, none⟩ = some (.int .i64 (fst N q)) :=
      hgrow.cell (by rw [(((Below.refl w2.heap.size w2).alloc (Nat.le_refl _) _).alloc (by simp) _).cell (p := ⟨g, q, none⟩) hgl2]; exact hcq) (by simp [Value.ownBlock]; omega)
    clear hown3 hgrow HB2 HK hcq hcj
    go_wp2
    rw [rounds_succ]; go_wp2
    go_ret
    exact ⟨_, rfl, HO.out, HW3.out⟩
end Go.Proofs.Ytepegohopgnmnaa
