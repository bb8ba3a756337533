/-
  The walk of the law LexPieces: it answers true, at any text.
-/
import Derived.Test.YtpacmlcfjibgdaaDoorMtks
import Derived.Test.YtpacmlcfjibgdaaDoorMtoks
namespace Go.Proofs.YtpacmlcfjibgdaaDoor
open Go.RowKit

/-- Tokens' answer to a text that is too long, or has a token that cannot be made. -/
theorem ltoks_not (p : ByteArray) (h : 200 < p.size ∨ (p.size ≤ 200 ∧ (toks p).1 = none)) (w : World) (hT : Okw w) :
    Calls Tryd.prog 7 #[.string p] w fun e w' => (∃ (a x : Int), x ≠ 0 ∧ e = .returned (.tuple #[.slice none 0 0, .int .i64 a, .int .i64 x])) ∧ Below w.heap.size w w' := by
  rcases h with h | ⟨h, h'⟩
  · exact (ltoks_long p h w).mono fun e w' ⟨h1, h2⟩ => ⟨⟨0, 4, by decide, h1⟩, by rw [h2]; exact Below.refl _ _⟩
  · refine (ltoks_any p h w hT).mono fun e w' ⟨_, h2, h3⟩ => ⟨⟨((toks p).2 : Nat), 3, by decide, h2 _ ?_⟩, h3⟩
    rw [← h']
/-- .. to a text that is tokens. -/
theorem ltoks_is (p : ByteArray) (l : List Tka) (hp : p.size ≤ 200) (h : toks p = (some l, 0)) (w : World) (hT : Okw w) :
    Calls Tryd.prog 7 #[.string p] w fun e w' => ∃ v, e = .returned (.tuple #[v, .int .i64 0, .int .i64 0]) ∧ w'.ownsRow w.heap.size 35 8 v l.length (tvs l) ∧ Below w.heap.size w w' :=
  (ltoks_any p hp w hT).mono fun e w' ⟨h1, _, h3⟩ => by
    obtain ⟨v, e1, e2⟩ := h1 l 0 h
    exact ⟨v, e1, e2, h3⟩

set_option maxRecDepth 100000 in
set_option maxHeartbeats 1000000 in
theorem pieces_not (p : ByteArray) (h : 200 < p.size ∨ (p.size ≤ 200 ∧ (toks p).1 = none)) (w : World) (hT : Okw w) :
    Calls Tryd.prog 4 #[.string p] w fun e w' => e = .returned (.bool true) ∧ Below w.heap.size w w' := by
  have HQ := Lib.hid (ltoks_not p h)
  clear h
  go_enter Tryd.func4, Tryd.ntmps4
  go_wp2_with fail
  refine (awake3_any _ hT).mono ?_
  rintro e w0 ⟨rfl, hb0⟩
  have HT := Lib.hid (hT.to hb0)
  have HW := Lib.hid hb0
  clear hb0 hT
  go_wp2_with fail
  refine (HQ.out _ HT.out).mono ?_
  rintro e w1 ⟨⟨a, x, hx, rfl⟩, hb⟩
  have HW1 := Lib.hid (HW.out.trans (hb.mono HW.out.size))
  have t0 : (x != 0) = true := by simp; exact hx
  clear hb HW HT HQ hx
  go_wp2
  go_ret
  exact ⟨rfl, HW1.out⟩

set_option maxRecDepth 100000 in
set_option maxHeartbeats 4000000 in
theorem pieces_is (p : ByteArray) (hp : p.size ≤ 200) (l : List Tka) (h : toks p = (some l, 0)) (w : World) (hT : Okw w) :
    Calls Tryd.prog 4 #[.string p] w fun e w' => e = .returned (.bool true) ∧ Below w.heap.size w w' := by
  have hq : ∀ (k a x0 x1 x2 x3 l h : Int) (w : World), (Op.equalIn 10000 35 (.agg #[.int .i64 k, .int .i64 a, .int .u64 x0, .int .u64 x1, .int .u64 x2, .int .u64 x3, .int .i64 l, .int .i64 h]) (.agg #[.int .i64 k, .int .i64 a, .int .u64 x0, .int .u64 x1, .int .u64 x2, .int .u64 x3, .int .i64 l, .int .i64 h])).run Tryd.prog w = .ok true w := fun k a x0 x1 x2 x3 l h w => by
    rw [eq_tok]; simp
  have HQ := Lib.hid (ltoks_is p l hp h)
  have HP := Lib.hid (pieces h)
  have hem := toks_empty h
  have hl200 : l.length ≤ 200 := Nat.le_trans (toks_length h) hp
  clear h
  go_enter Tryd.func4, Tryd.ntmps4
  go_wp2_with fail
  refine (awake3_any _ hT).mono ?_
  rintro e w0 ⟨rfl, hb0⟩
  have HT := Lib.hid (hT.to hb0)
  have HW := Lib.hid hb0
  clear hb0 hT
  go_wp2_with fail
  refine (HQ.out _ HT.out).mono ?_
  rintro e w1 ⟨v, rfl, hown, hb⟩
  have hr := rdT_of_owns hown
  have HT1 := Lib.hid (HT.out.to hb)
  have HW1 := Lib.hid (HW.out.trans (hb.mono HW.out.size))
  clear hown hb HW HT HQ
  rcases hr with ⟨rfl, rfl⟩ | ⟨b, off, cap, rfl, hbl, hc⟩
  · have hemp : p.toList.isEmpty = true := emp_of (hem.1 rfl)
    clear hem
    go_wp2
    refine wp_loop_rounds 1 ?_
    rw [rounds_succ]; go_wp2
    go_ret
    exact ⟨rfl, HW1.out⟩
  · by_cases hz : l.length = 0
    · have hemp : p.toList.isEmpty = true := emp_of (hem.1 hz)
      have t0 : ((l.length : Int) == 0) = true := beq_iff_eq.2 (by omega)
      have t1 : decide ((0 : Int) < (l.length : Int)) = false := decide_eq_false (by omega)
      clear hem
      go_wp2
      refine wp_loop_rounds 1 ?_
      rw [rounds_succ]; go_wp2
      go_ret
      exact ⟨rfl, HW1.out⟩
    · have hemp : p.toList.isEmpty = false := emp_not (fun h => hz (hem.2 h))
      have t0 : ((l.length : Int) == 0) = false := beq_eq_false_iff_ne.2 (by omega)
      have t1 : decide ((0 : Int) < (l.length : Int)) = true := decide_eq_true (by omega)
      have zz : w1.cell? ⟨b, off + 1, none⟩ = some (.int .i64 0) := by
        have hz0 : 0 < l.length := by omega
        obtain ⟨k, n, r, e1, e2, e3, e4, _⟩ := HP.out 0 hz0
        have := (hc 0 hz0).2.1
        rw [e1, e4 rfl, Nat.zero_mul, Nat.add_zero] at this
        exact this
      have HC := Lib.hid hc
      clear hem hc
      go_wp2_with fail
      go_loopw [6] (fun i wr => ∃ k : Nat, k ≤ l.length ∧ i = .int .i64 k ∧ Below w1.heap.size w1 wr ∧ Okw wr) (fun i _ => l.length - (intOf i).toNat)
      case atStart => exact ⟨0, Nat.zero_le _, rfl, Below.refl _ _, HT1.out⟩
      case round =>
        obtain ⟨k, hk, rfl, hB, hT⟩ := hrel
        clear zz hemp t0 t1 HT1
        by_cases hlt : k < l.length
        · have t0 : decide ((k : Int) < (l.length : Int)) = true := decide_eq_true (by omega)
          obtain ⟨kk, n, r, e1, e2, e3, e4, e5, e6, e7⟩ := HP.out k hlt
          obtain ⟨K, F, lo, hi⟩ := r
          have hbw : b < wr.heap.size := Nat.lt_of_lt_of_le hbl hB.size
          have ck := (HC.out k hlt).below hB hbl
          rw [e1] at ck
          unfold tka tokAt at ck
          simp only at ck
          have hend : (decide ((k : Int) + 1 < (l.length : Int)) = true ∧ k + 1 < l.length ∧ wr.cell? ⟨b, off + (k + 1) * 8 + 1, none⟩ = some (.int .i64 (n : Int))) ∨ (decide ((k : Int) + 1 < (l.length : Int)) = false ∧ n = p.size) := by
            by_cases h1 : k + 1 < l.length
            · have := ((HC.out (k + 1) h1).below hB hbl).2.1
              rw [e5 h1] at this
              exact .inl ⟨decide_eq_true (by omega), h1, this⟩
            · exact .inr ⟨decide_eq_false (by omega), e6 (by omega)⟩
          have t2 : decide ((n : Int) ≤ (kk : Int)) = false := decide_eq_false (by omega)
          have hQ2 := ltoks_is (p.extract kk n) [tka 0 (K, F, lo, hi)] (by simp; omega) e7
          have HQ2 := Lib.hid hQ2
          have HT := Lib.hid hT
          have HB := Lib.hid hB
          have HCK := Lib.hid ck
          have i0 : (0 : Int) ≤ (kk : Int) := by omega
          have i1 : (kk : Int) ≤ (n : Int) := by omega
          have i2 : (n : Int) ≤ (p.size : Int) := by omega
          clear hQ2 hT hB e1 e4 e5 e6 e7
          obtain ⟨c0, c1, c2, c3, c4, c5, c6, c7⟩ := ck
          rcases hend with ⟨t3, t4, cn⟩ | ⟨t3, t4⟩
          · go_wp2_with fail
            refine (HQ2.out _ HT.out).mono ?_
            rintro e w2 ⟨v2, rfl, hown2, hb⟩
            have hr2 := rdT_of_owns hown2
            have hB2 := HB.out.trans (hb.mono HB.out.size)
            have hT2 := HT.out.to hb
            have ck2 : tokAt w2 b (off + k * 8) (K, (kk : Int), F, lo, hi) := (show tokAt wr b (off + k * 8) (K, (kk : Int), F, lo, hi) from HCK.out).below hb hbw
            have hbw2 : b < w2.heap.size := Nat.lt_of_lt_of_le hbw hb.size
            clear c0 c1 c2 c3 c4 c5 c6 c7 cn hown2 hb HQ2 HT HB HCK
            rcases hr2 with ⟨_, h0⟩ | ⟨b2, off2, cap2, rfl, hbl2, hc2⟩
            · cases h0
            have d0 := hc2 0 (by simp)
            have HB3 := Lib.hid (hB2.alloc hB2.size (.cells #[.int .i64 (K), .int .i64 (0), .int .u64 (wd (F) 0 : Int), .int .u64 (wd (F) 1 : Int), .int .u64 (wd (F) 2 : Int), .int .u64 (wd (F) 3 : Int), .int .i64 (lo), .int .i64 (hi)] 35))
            have HT3 := Lib.hid (hT2.alloc (.cells #[.int .i64 (K), .int .i64 (0), .int .u64 (wd (F) 0 : Int), .int .u64 (wd (F) 1 : Int), .int .u64 (wd (F) 2 : Int), .int .u64 (wd (F) 3 : Int), .int .i64 (lo), .int .i64 (hi)] 35))
            have D3 := Lib.hid (d0.below ((Below.refl w2.heap.size w2).alloc (Nat.le_refl _) (.cells #[.int .i64 (K), .int .i64 (0), .int .u64 (wd (F) 0 : Int), .int .u64 (wd (F) 1 : Int), .int .u64 (wd (F) 2 : Int), .int .u64 (wd (F) 3 : Int), .int .i64 (lo), .int .i64 (hi)] 35)) hbl2)
            have s1 := isTk.new w2 K 0 F lo hi
            clear hB2 hT2 d0 hc2
            unfold tokAt at ck2
            simp only at ck2
            obtain ⟨c0, c1, c2, c3, c4, c5, c6, c7⟩ := ck2
            go_upto_region 19 with (fail)
            generalize w2.heap.size = A at *
            generalize w2.alloc (.cells #[.int .i64 (K), .int .i64 (0), .int .u64 (wd (F) 0 : Int), .int .u64 (wd (F) 1 : Int), .int .u64 (wd (F) 2 : Int), .int .u64 (wd (F) 3 : Int), .int .i64 (lo), .int .i64 (hi)] 35) = W at *
            clear c0 c1 c2 c3 c4 c5 c6 c7
            have d0 := D3.out
            unfold tka tokAt at d0
            simp only [List.getElem_cons_zero, Nat.zero_mul, Nat.add_zero] at d0
            obtain ⟨d0, d1, d2, d3, d4, d5, d6, d7⟩ := d0
            obtain ⟨s0, s1, s2, s3, s4, s5, s6, s7⟩ := s1.cells
            go_quiet (fail)
            go_wp2
            go_roundw
            case rel => exact ⟨k + 1, by omega, by go_num, below_drewN _ HB3.out, HT3.out.drewN _⟩
            case measure => simp [intOf]; omega
          · subst t4
            go_wp2_with fail
            refine (HQ2.out _ HT.out).mono ?_
            rintro e w2 ⟨v2, rfl, hown2, hb⟩
            have hr2 := rdT_of_owns hown2
            have hB2 := HB.out.trans (hb.mono HB.out.size)
            have hT2 := HT.out.to hb
            have ck2 : tokAt w2 b (off + k * 8) (K, (kk : Int), F, lo, hi) := (show tokAt wr b (off + k * 8) (K, (kk : Int), F, lo, hi) from HCK.out).below hb hbw
            have hbw2 : b < w2.heap.size := Nat.lt_of_lt_of_le hbw hb.size
            clear c0 c1 c2 c3 c4 c5 c6 c7 hown2 hb HQ2 HT HB HCK
            rcases hr2 with ⟨_, h0⟩ | ⟨b2, off2, cap2, rfl, hbl2, hc2⟩
            · cases h0
            have d0 := hc2 0 (by simp)
            have HB3 := Lib.hid (hB2.alloc hB2.size (.cells #[.int .i64 (K), .int .i64 (0), .int .u64 (wd (F) 0 : Int), .int .u64 (wd (F) 1 : Int), .int .u64 (wd (F) 2 : Int), .int .u64 (wd (F) 3 : Int), .int .i64 (lo), .int .i64 (hi)] 35))
            have HT3 := Lib.hid (hT2.alloc (.cells #[.int .i64 (K), .int .i64 (0), .int .u64 (wd (F) 0 : Int), .int .u64 (wd (F) 1 : Int), .int .u64 (wd (F) 2 : Int), .int .u64 (wd (F) 3 : Int), .int .i64 (lo), .int .i64 (hi)] 35))
            have D3 := Lib.hid (d0.below ((Below.refl w2.heap.size w2).alloc (Nat.le_refl _) (.cells #[.int .i64 (K), .int .i64 (0), .int .u64 (wd (F) 0 : Int), .int .u64 (wd (F) 1 : Int), .int .u64 (wd (F) 2 : Int), .int .u64 (wd (F) 3 : Int), .int .i64 (lo), .int .i64 (hi)] 35)) hbl2)
            have s1 := isTk.new w2 K 0 F lo hi
            clear hB2 hT2 d0 hc2
            unfold tokAt at ck2
            simp only at ck2
            obtain ⟨c0, c1, c2, c3, c4, c5, c6, c7⟩ := ck2
            go_upto_region 19 with (fail)
            generalize w2.heap.size = A at *
            generalize w2.alloc (.cells #[.int .i64 (K), .int .i64 (0), .int .u64 (wd (F) 0 : Int), .int .u64 (wd (F) 1 : Int), .int .u64 (wd (F) 2 : Int), .int .u64 (wd (F) 3 : Int), .int .i64 (lo), .int .i64 (hi)] 35) = W at *
            clear c0 c1 c2 c3 c4 c5 c6 c7
            have d0 := D3.out
            unfold tka tokAt at d0
            simp only [List.getElem_cons_zero, Nat.zero_mul, Nat.add_zero] at d0
            obtain ⟨d0, d1, d2, d3, d4, d5, d6, d7⟩ := d0
            obtain ⟨s0, s1, s2, s3, s4, s5, s6, s7⟩ := s1.cells
            go_quiet (fail)
            go_wp2
            go_roundw
            case rel => exact ⟨k + 1, by omega, by go_num, below_drewN _ HB3.out, HT3.out.drewN _⟩
            case measure => simp [intOf]; omega
        · have t0 : decide ((k : Int) < (l.length : Int)) = false := decide_eq_false (by omega)
          have HW2 := Lib.hid (HW1.out.trans (hB.mono HW1.out.size))
          clear hB hT
          go_wp2
          go_ret
          exact ⟨rfl, HW2.out⟩

theorem pieces_walk (p : ByteArray) (w : World) (hT : Okw w) :
    Calls Tryd.prog 4 #[.string p] w fun e w' => e = .returned (.bool true) ∧ Below w.heap.size w w' := by
  rcases Nat.lt_or_ge 200 p.size with h | h
  · exact pieces_not p (.inl h) w hT
  · cases hr : toks p with
    | mk o n =>
      cases o with
      | none => exact pieces_not p (.inr ⟨h, by rw [hr]⟩) w hT
      | some l => exact pieces_is p h l (by rw [hr, (toks_chain hr).2]) w hT
end Go.Proofs.YtpacmlcfjibgdaaDoor
