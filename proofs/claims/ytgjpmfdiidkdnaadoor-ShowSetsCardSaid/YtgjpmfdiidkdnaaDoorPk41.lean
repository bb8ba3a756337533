/-
  The walk of the reference's Runs.
-/
import Derived.Test.YtgjpmfdiidkdnaaDoorPk24
import Derived.Test.YtgjpmfdiidkdnaaDoorPk4
namespace Go.Proofs.YtgjpmfdiidkdnaaDoor
open Go.RowKit

/-- All from behind lo up to h are in the set. -/
def allIn (f : Nat → Bool) (lo h : Nat) : Prop := ∀ x, lo < x → x ≤ h → f x = true
theorem allIn_more {f : Nat → Bool} {lo h : Nat} (ha : allIn f lo h) (hf : f (h + 1) = true) : allIn f lo (h + 1) := fun x h1 h2 => by
  by_cases hx : x = h + 1
  · rw [hx]; exact hf
  · exact ha x h1 (by omega)
theorem isSet.trans' {w w' : World} {b base : Nat} {f : Nat → Bool} {v : Value} {n : Nat} {xs : List Value} {w0 : World} {e size : Nat} (h : isSet w b f) (hg : w.grownBy w' v.ownBlock) (hv : w0.ownsRow base e size v n xs) (hb : b < base) : isSet w' b f :=
  (hg.block b h.lt fun he => by have := (hv.lt b he.symm).1; omega).trans h
theorem segs_miss (f : Nat → Bool) (k m : Nat) (h : st f k = false) : segs f (k + 1) m = segs f k m := by unfold segs; rw [starts_miss f k h]
theorem segs_hit (f : Nat → Bool) (k m : Nat) (h : st f k = true) : segs f (k + 1) m = segs f k m ++ [(k, upTo f k m)] := by unfold segs; rw [starts_hit f k h, List.map_append]; rfl
theorem segs_length (f : Nat → Bool) (k m : Nat) : (segs f k m).length ≤ k := by
  unfold segs starts
  rw [List.length_map]
  have := List.length_filter_le (st f) (List.range k)
  rw [List.length_range] at this
  exact this

set_option maxRecDepth 100000 in
set_option maxHeartbeats 4000000 in
theorem rruns_any (f : Nat → Bool) (w : World) :
    Calls Tryd.prog 31 #[sv f] w fun e w' => ∃ v, e = .returned v ∧ w'.ownsRow (w.heap.size + 1) 64 2 v (segs f 256 256).length (rvs (segs f 256 256)) ∧ Below w.heap.size w w' := by
  obtain ⟨i0, hi, hz0, hz1, hz2⟩ := info_parts Tryd.infoRun
  have S0 := Lib.hid (isSet.new w f)
  unfold sv
  go_enter Tryd.func31, Tryd.ntmps31
  go_wp2
  go_loopw [3, 4] (fun v i wr => ∃ k : Nat, k ≤ 256 ∧ i = .int .i64 k ∧ wr.ownsRow (w.heap.size + 1) 64 2 v (segs f k 256).length (rvs (segs f k 256)) ∧ isSet wr w.heap.size f ∧ Below w.heap.size w wr) (fun _ i _ => 256 - (intOf i).toNat)
  case atStart => exact ⟨0, Nat.zero_le _, rfl, World.ownsRow_nil _ _ _ _, S0.out, (Below.refl _ _).alloc (Nat.le_refl _) _⟩
  case round =>
    obtain ⟨k, hk, rfl, hown, b0, hBw⟩ := hrel
    clear S0
    have l0 := b0.lt
    obtain ⟨q0, q1, q2, q3⟩ := b0.cells
    have hsl := segs_length f k 256
    have hB := Below.refl wr.heap.size wr
    by_cases hlt : k < 256
    · cases hf : f k
      · have hst : st f k = false := by simp [st, hf]
        have Hf : Hid (f ((k : Int).toNat) = false) := by rw [Int.toNat_natCast]; exact hf
        have Hp := Hf
        clear hf
        go_wp2_with (first | (go_at_call 28; refine (rhas_any f _ (by omega) (by omega) _).mono ?_; rintro e wk ⟨rfl, hb⟩; (first | rw [Hf.out] | rw [Hp.out]); replace hB := hB.trans (hb.mono hB.size); have b1 := b0.below hB l0; obtain ⟨q0, q1, q2, q3⟩ := b1.cells; clear hb b1))
        go_roundw
        case rel => exact ⟨k + 1, by omega, by go_num, by rw [segs_miss f k 256 hst]; exact owns_below hown hB, b0.below hB l0, hBw.trans (hB.mono hBw.size)⟩
        case measure => simp [intOf]; omega
      · have Hf : Hid (f ((k : Int).toNat) = true) := by rw [Int.toNat_natCast]; exact hf
        have HF := Lib.hid hf
        by_cases hk0 : k = 0
        · have hst0 : st f k = true := by subst hk0; simp [st, hf]
          have hst := Lib.hid hst0
          have Hp := Hf
          have hk1 : k ≤ 0 := by omega
          clear hf hst0 hk0
          go_wp2_with (first | (go_at_call 28; refine (rhas_any f _ (by omega) (by omega) _).mono ?_; rintro e wk ⟨rfl, hb⟩; (first | rw [Hf.out] | rw [Hp.out]); replace hB := hB.trans (hb.mono hB.size); have b1 := b0.below hB l0; obtain ⟨q0, q1, q2, q3⟩ := b1.cells; clear hb b1))
          have b1 := b0.below hB l0
          have hown1 := owns_below hown hB
          have hBw1 := hBw.trans (hB.mono hBw.size)
          clear b0 hown hBw hB q0 q1 q2 q3 l0 HF
          go_loopw [5] (fun h w2 => ∃ j : Nat, k ≤ j ∧ j ≤ 255 ∧ h = .int .i64 j ∧ allIn f k j ∧ isSet w2 w.heap.size f ∧ w2.ownsRow (w.heap.size + 1) 64 2 u3 (segs f k 256).length (rvs (segs f k 256)) ∧ Below w.heap.size w w2) (fun h _ => 255 - (intOf h).toNat)
          case atStart => exact ⟨k, Nat.le_refl _, by omega, rfl, fun x h1 h2 => absurd h1 (by omega), b1, hown1, hBw1⟩
          case round =>
            obtain ⟨j, hj0, hj1, rfl, hal, b0, hown, hBw⟩ := hrel
            clear b1 hown1 hBw1
            have l0 := b0.lt
            obtain ⟨q0, q1, q2, q3⟩ := b0.cells
            have hB := Below.refl wr.heap.size wr
            have hBs := hBw.size
            have hbz := l0
            by_cases hj2 : j < 255
            · cases hfj : f (j + 1)
              · have hj := Lib.hid (upTo_only f k 256 j hlt hj0 (by omega) hal fun _ => hfj)
                have Hj : Hid (f (((j : Int) + 1).toNat) = false) := by rw [show ((j : Int) + 1).toNat = j + 1 from by omega]; exact hfj
                clear hfj
                go_wp2_with (first | (go_at_call 28; refine (rhas_any f _ (by omega) (by omega) _).mono ?_; rintro e wk ⟨rfl, hb⟩; rw [Hj.out]; replace hB := hB.trans (hb.mono hB.size); have b1 := b0.below hB l0; have hown1 := owns_below hown hB; obtain ⟨q0, q1, q2, q3⟩ := b1.cells; have hbk := hB.size; clear hb) | (at_builtin; refine wpList_append_own _ rfl _ _ 61 rfl (w.heap.size + 1) 64 i0 (.agg #[.int .u8 0, .int .u8 0]) 2 2 Tryd.underlying61 hi hz0 hz1 hz2 rfl (by decide) _ _ _ rfl (hown1.alloc _) ⟨wk.heap.size, 0, none⟩ 1 1 [.int .u8 (k : Int), .int .u8 (j : Int)] rfl rfl ?u1a ?u2a ?u3a ?u4a ?u5a ?_))
                try case u1a =>
                  intro x u hx
                  match x, hx with
                  | 0, hx => simp at hx; subst hx; simp [Addr.add]
                  | 1, hx => simp at hx; subst hx; simp [Addr.add]
                try case u2a => first | exact ⟨rfl, rfl⟩ | (intro u hu; simp at hu; rcases hu with rfl | rfl <;> rfl)
                try case u3a => unfold maxLen; omega
                try case u4a => omega
                try case u5a => simp; omega
                intro v' w3 hown3 hgrow _
                have hR3 : Below w.heap.size w w3 := ((hBw.trans (hB.mono hBw.size)).alloc (hBw.trans (hB.mono hBw.size)).size _).grown hgrow (by simp; omega) fun r hr => Nat.le_trans (Nat.le_succ _) (hown1.lt r hr).1
                have c0 : isSet w3 w.heap.size f := ((b0.below hB l0).alloc _).trans' hgrow hown1 (by omega)
                have hown4 : w3.ownsRow (w.heap.size + 1) 64 2 v' (segs f (k + 1) 256).length (rvs (segs f (k + 1) 256)) := by
                  rw [segs_hit f k 256 hst.out, ← hj.out, rvs_append]
                  simpa [rvs] using hown3
                clear hown3 hgrow hown hB
                go_wp2
                go_roundw
                case rel => exact ⟨k + 1, by omega, by go_num, hown4, c0, hR3⟩
                case measure => simp [intOf]; omega
              · have Hj : Hid (f (((j : Int) + 1).toNat) = true) := by rw [show ((j : Int) + 1).toNat = j + 1 from by omega]; exact hfj
                have HJ := Lib.hid hfj
                have HAL := Lib.hid hal
                clear hfj hal
                go_wp2_with (first | (go_at_call 28; refine (rhas_any f _ (by omega) (by omega) _).mono ?_; rintro e wk ⟨rfl, hb⟩; rw [Hj.out]; replace hB := hB.trans (hb.mono hB.size); have b1 := b0.below hB l0; have hown1 := owns_below hown hB; obtain ⟨q0, q1, q2, q3⟩ := b1.cells; have hbk := hB.size; clear hb))
                go_roundw
                case rel => exact ⟨j + 1, by omega, by omega, by go_num, allIn_more HAL.out HJ.out, b1, hown1, hBw.trans (hB.mono hBw.size)⟩
                case measure => simp [intOf]; omega
            · have hj := Lib.hid (upTo_only f k 256 j hlt hj0 (by omega) hal fun h => absurd h (by omega))
              go_wp2_with (at_builtin; refine wpList_append_own _ rfl _ _ 61 rfl (w.heap.size + 1) 64 i0 (.agg #[.int .u8 0, .int .u8 0]) 2 2 Tryd.underlying61 hi hz0 hz1 hz2 rfl (by decide) _ _ _ rfl (hown.alloc _) ⟨wr.heap.size, 0, none⟩ 1 1 [.int .u8 (k : Int), .int .u8 (j : Int)] rfl rfl ?u1b ?u2b ?u3b ?u4b ?u5b ?_)
              try case u1b =>
                intro x u hx
                match x, hx with
                | 0, hx => simp at hx; subst hx; simp [Addr.add]
                | 1, hx => simp at hx; subst hx; simp [Addr.add]
              try case u2b => first | exact ⟨rfl, rfl⟩ | (intro u hu; simp at hu; rcases hu with rfl | rfl <;> rfl)
              try case u3b => unfold maxLen; omega
              try case u4b => omega
              try case u5b => simp; omega
              intro v' w3 hown3 hgrow _
              have hR3 : Below w.heap.size w w3 := ((hBw.trans (hB.mono hBw.size)).alloc (hBw.trans (hB.mono hBw.size)).size _).grown hgrow (by simp; omega) fun r hr => Nat.le_trans (Nat.le_succ _) (hown.lt r hr).1
              have c0 : isSet w3 w.heap.size f := ((b0.below hB l0).alloc _).trans' hgrow hown (by omega)
              have hown4 : w3.ownsRow (w.heap.size + 1) 64 2 v' (segs f (k + 1) 256).length (rvs (segs f (k + 1) 256)) := by
                rw [segs_hit f k 256 hst.out, ← hj.out, rvs_append]
                simpa [rvs] using hown3
              clear hown3 hgrow hown hB
              go_wp2
              go_roundw
              case rel => exact ⟨k + 1, by omega, by go_num, hown4, c0, hR3⟩
              case measure => simp [intOf]; omega
        · cases hp : f (k - 1)
          · have hst0 : st f k = true := by simp [st, hf, hp]
            have hst := Lib.hid hst0
            have Hp : Hid (f (((k : Int) - 1).toNat) = false) := by rw [show ((k : Int) - 1).toNat = k - 1 from by omega]; exact hp
            have hk1 : 0 < k := by omega
            clear hf hst0 hk0 hp
            go_wp2_with (first | (go_at_call 28; refine (rhas_any f _ (by omega) (by omega) _).mono ?_; rintro e wk ⟨rfl, hb⟩; (first | rw [Hf.out] | rw [Hp.out]); replace hB := hB.trans (hb.mono hB.size); have b1 := b0.below hB l0; obtain ⟨q0, q1, q2, q3⟩ := b1.cells; clear hb b1))
            have b1 := b0.below hB l0
            have hown1 := owns_below hown hB
            have hBw1 := hBw.trans (hB.mono hBw.size)
            clear b0 hown hBw hB q0 q1 q2 q3 l0 HF
            go_loopw [5] (fun h w2 => ∃ j : Nat, k ≤ j ∧ j ≤ 255 ∧ h = .int .i64 j ∧ allIn f k j ∧ isSet w2 w.heap.size f ∧ w2.ownsRow (w.heap.size + 1) 64 2 u3 (segs f k 256).length (rvs (segs f k 256)) ∧ Below w.heap.size w w2) (fun h _ => 255 - (intOf h).toNat)
            case atStart => exact ⟨k, Nat.le_refl _, by omega, rfl, fun x h1 h2 => absurd h1 (by omega), b1, hown1, hBw1⟩
            case round =>
              obtain ⟨j, hj0, hj1, rfl, hal, b0, hown, hBw⟩ := hrel
              clear b1 hown1 hBw1
              have l0 := b0.lt
              obtain ⟨q0, q1, q2, q3⟩ := b0.cells
              have hB := Below.refl wr.heap.size wr
              have hBs := hBw.size
              have hbz := l0
              by_cases hj2 : j < 255
              · cases hfj : f (j + 1)
                · have hj := Lib.hid (upTo_only f k 256 j hlt hj0 (by omega) hal fun _ => hfj)
                  have Hj : Hid (f (((j : Int) + 1).toNat) = false) := by rw [show ((j : Int) + 1).toNat = j + 1 from by omega]; exact hfj
                  clear hfj
                  go_wp2_with (first | (go_at_call 28; refine (rhas_any f _ (by omega) (by omega) _).mono ?_; rintro e wk ⟨rfl, hb⟩; rw [Hj.out]; replace hB := hB.trans (hb.mono hB.size); have b1 := b0.below hB l0; have hown1 := owns_below hown hB; obtain ⟨q0, q1, q2, q3⟩ := b1.cells; have hbk := hB.size; clear hb) | (at_builtin; refine wpList_append_own _ rfl _ _ 61 rfl (w.heap.size + 1) 64 i0 (.agg #[.int .u8 0, .int .u8 0]) 2 2 Tryd.underlying61 hi hz0 hz1 hz2 rfl (by decide) _ _ _ rfl (hown1.alloc _) ⟨wk.heap.size, 0, none⟩ 1 1 [.int .u8 (k : Int), .int .u8 (j : Int)] rfl rfl ?v1a ?v2a ?v3a ?v4a ?v5a ?_))
                  try case v1a =>
                    intro x u hx
                    match x, hx with
                    | 0, hx => simp at hx; subst hx; simp [Addr.add]
                    | 1, hx => simp at hx; subst hx; simp [Addr.add]
                  try case v2a => first | exact ⟨rfl, rfl⟩ | (intro u hu; simp at hu; rcases hu with rfl | rfl <;> rfl)
                  try case v3a => unfold maxLen; omega
                  try case v4a => omega
                  try case v5a => simp; omega
                  intro v' w3 hown3 hgrow _
                  have hR3 : Below w.heap.size w w3 := ((hBw.trans (hB.mono hBw.size)).alloc (hBw.trans (hB.mono hBw.size)).size _).grown hgrow (by simp; omega) fun r hr => Nat.le_trans (Nat.le_succ _) (hown1.lt r hr).1
                  have c0 : isSet w3 w.heap.size f := ((b0.below hB l0).alloc _).trans' hgrow hown1 (by omega)
                  have hown4 : w3.ownsRow (w.heap.size + 1) 64 2 v' (segs f (k + 1) 256).length (rvs (segs f (k + 1) 256)) := by
                    rw [segs_hit f k 256 hst.out, ← hj.out, rvs_append]
                    simpa [rvs] using hown3
                  clear hown3 hgrow hown hB
                  go_wp2
                  go_roundw
                  case rel => exact ⟨k + 1, by omega, by go_num, hown4, c0, hR3⟩
                  case measure => simp [intOf]; omega
                · have Hj : Hid (f (((j : Int) + 1).toNat) = true) := by rw [show ((j : Int) + 1).toNat = j + 1 from by omega]; exact hfj
                  have HJ := Lib.hid hfj
                  have HAL := Lib.hid hal
                  clear hfj hal
                  go_wp2_with (first | (go_at_call 28; refine (rhas_any f _ (by omega) (by omega) _).mono ?_; rintro e wk ⟨rfl, hb⟩; rw [Hj.out]; replace hB := hB.trans (hb.mono hB.size); have b1 := b0.below hB l0; have hown1 := owns_below hown hB; obtain ⟨q0, q1, q2, q3⟩ := b1.cells; have hbk := hB.size; clear hb))
                  go_roundw
                  case rel => exact ⟨j + 1, by omega, by omega, by go_num, allIn_more HAL.out HJ.out, b1, hown1, hBw.trans (hB.mono hBw.size)⟩
                  case measure => simp [intOf]; omega
              · have hj := Lib.hid (upTo_only f k 256 j hlt hj0 (by omega) hal fun h => absurd h (by omega))
                go_wp2_with (at_builtin; refine wpList_append_own _ rfl _ _ 61 rfl (w.heap.size + 1) 64 i0 (.agg #[.int .u8 0, .int .u8 0]) 2 2 Tryd.underlying61 hi hz0 hz1 hz2 rfl (by decide) _ _ _ rfl (hown.alloc _) ⟨wr.heap.size, 0, none⟩ 1 1 [.int .u8 (k : Int), .int .u8 (j : Int)] rfl rfl ?v1b ?v2b ?v3b ?v4b ?v5b ?_)
                try case v1b =>
                  intro x u hx
                  match x, hx with
                  | 0, hx => simp at hx; subst hx; simp [Addr.add]
                  | 1, hx => simp at hx; subst hx; simp [Addr.add]
                try case v2b => first | exact ⟨rfl, rfl⟩ | (intro u hu; simp at hu; rcases hu with rfl | rfl <;> rfl)
                try case v3b => unfold maxLen; omega
                try case v4b => omega
                try case v5b => simp; omega
                intro v' w3 hown3 hgrow _
                have hR3 : Below w.heap.size w w3 := ((hBw.trans (hB.mono hBw.size)).alloc (hBw.trans (hB.mono hBw.size)).size _).grown hgrow (by simp; omega) fun r hr => Nat.le_trans (Nat.le_succ _) (hown.lt r hr).1
                have c0 : isSet w3 w.heap.size f := ((b0.below hB l0).alloc _).trans' hgrow hown (by omega)
                have hown4 : w3.ownsRow (w.heap.size + 1) 64 2 v' (segs f (k + 1) 256).length (rvs (segs f (k + 1) 256)) := by
                  rw [segs_hit f k 256 hst.out, ← hj.out, rvs_append]
                  simpa [rvs] using hown3
                clear hown3 hgrow hown hB
                go_wp2
                go_roundw
                case rel => exact ⟨k + 1, by omega, by go_num, hown4, c0, hR3⟩
                case measure => simp [intOf]; omega
          · have hst : st f k = false := by simp [st, hf, hp, hk0]
            have Hst := Lib.hid hst
            have Hp : Hid (f (((k : Int) - 1).toNat) = true) := by rw [show ((k : Int) - 1).toNat = k - 1 from by omega]; exact hp
            have hk1 : 0 < k := by omega
            clear hf hst hk0 hp
            go_wp2_with (first | (go_at_call 28; refine (rhas_any f _ (by omega) (by omega) _).mono ?_; rintro e wk ⟨rfl, hb⟩; (first | rw [Hf.out] | rw [Hp.out]); replace hB := hB.trans (hb.mono hB.size); have b1 := b0.below hB l0; obtain ⟨q0, q1, q2, q3⟩ := b1.cells; clear hb b1))
            go_roundw
            case rel => exact ⟨k + 1, by omega, by go_num, by rw [segs_miss f k 256 Hst.out]; exact owns_below hown hB, b0.below hB l0, hBw.trans (hB.mono hBw.size)⟩
            case measure => simp [intOf]; omega
    · have hkl : k = 256 := by omega
      have hown' : wr.ownsRow (w.heap.size + 1) 64 2 u3 (segs f 256 256).length (rvs (segs f 256 256)) := by rw [hkl] at hown; exact hown
      have Ho := Lib.hid hown'
      clear hown hown' hkl hB b0
      go_wp2
      go_ret
      exact ⟨_, rfl, Ho.out, hBw⟩
end Go.Proofs.YtgjpmfdiidkdnaaDoor
