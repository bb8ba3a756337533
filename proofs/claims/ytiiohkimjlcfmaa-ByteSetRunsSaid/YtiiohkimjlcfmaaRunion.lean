/-
  The walk of the reference's Union.
-/
import Derived.Test.YtiiohkimjlcfmaaUnion
namespace Go.Proofs.Ytiiohkimjlcfmaa
open Go.RowKit

set_option maxRecDepth 100000 in
set_option maxHeartbeats 8000000 in
theorem runion_some (l : List (Nat × Nat)) (hl : ∀ r, r ∈ l → r.1 < 256 ∧ r.2 < 256) (hm : l.length ≤ 1000) (b off cap : Nat) (w : World) (hb : b < w.heap.size)
    (hc : ∀ j (h : j < l.length), w.cell? ⟨b, off + j * 2, none⟩ = some (.int .u8 (l[j].1 : Nat)) ∧ w.cell? ⟨b, off + j * 2 + 1, none⟩ = some (.int .u8 (l[j].2 : Nat))) :
    Calls Try.prog 26 #[.slice (some ⟨b, off, none⟩) l.length cap] w fun e w' => e = .returned (sv (inU l)) ∧ Below w.heap.size w w' := by
  have S0 := Lib.hid ((isSet.newNone w).alloc (.cells #[.int .u64 0, .int .u64 0, .int .u64 0, .int .u64 0] 24))
  have S1 := Lib.hid (isSet.newNone (w.alloc (.cells #[.int .u64 0, .int .u64 0, .int .u64 0, .int .u64 0] 24)))
  go_enter Try.func26, Try.ntmps26
  go_wp2
  go_loopw [4] (fun i wr => ∃ k : Nat, k ≤ l.length ∧ i = .int .i64 k ∧ isSet wr w.heap.size (fun _ => false) ∧ isSet wr (w.heap.size + 1) (inU (l.take k)) ∧ Below w.heap.size w wr) (fun i _ => l.length - (intOf i).toNat)
  case atStart => exact ⟨0, Nat.zero_le _, rfl, S0.out, by rw [inU_none]; have := S1.out; rw [World.size_alloc] at this; exact this, ((Below.refl _ _).alloc (Nat.le_refl _) _).alloc (by simp) _⟩
  case round =>
    obtain ⟨k, hk, rfl, b0, b1, hBw⟩ := hrel
    clear S0 S1
    have l0 := b0.lt; have l1 := b1.lt
    by_cases hlt : k < l.length
    · have q0 := (hBw.cell (p := ⟨b, off + k * 2, none⟩) hb).trans (hc k hlt).1
      have q1 := (hBw.cell (p := ⟨b, off + k * 2 + 1, none⟩) hb).trans (hc k hlt).2
      have hx := hl _ (List.getElem_mem hlt)
      have hstep := Lib.hid (inU_take l k hlt)
      obtain ⟨x, hx1⟩ : ∃ x, x = l[k].1 := ⟨_, rfl⟩
      obtain ⟨y, hy1⟩ : ∃ y, y = l[k].2 := ⟨_, rfl⟩
      rw [← hx1, ← hy1] at hx
      rw [← hx1] at q0
      rw [← hy1] at q1
      rw [← hx1, ← hy1] at hstep
      obtain ⟨hx2, hy2⟩ := hx
      clear hc hl hx1 hy1
      have hwx : IntKind.i64.wrap (x : Int) = (x : Int) := by rw [IntKind.wrap_i64]; omega
      have hwy : IntKind.i64.wrap (y : Int) = (y : Int) := by rw [IntKind.wrap_i64]; omega
      have hi0 : (0 : Int) ≤ (k : Int) := by omega
      have hi1 : (k : Int) < (l.length : Int) := by omega
      have hbs := hBw.size
      have hB := (Below.refl wr.heap.size wr).drew
      obtain ⟨p0, p1, p2, p3⟩ := b1.cells
      go_wp2_with fail
      go_region_with
        (first
          | (go_at_call 23; (with_reducible refine (rrange_any x y hx2 hy2 _).mono ?_); rintro e wk ⟨rfl, hb⟩; replace hB := hB.trans (hb.mono hB.size); clear hb; have d1 := b1.below hB l1; obtain ⟨p0, p1, p2, p3⟩ := d1.cells)
          | (go_at_call 9; (with_reducible refine (rjoin0_lit _ _ _).mono ?_); rw [hstep.out]; rintro e wk ⟨rfl, hb⟩; replace hB := hB.trans (hb.mono hB.size); clear hb; have d1 := b1.below hB l1; obtain ⟨r0, r1, r2, r3⟩ := d1.free; obtain ⟨p0, p1, p2, p3⟩ := d1.cells))
      all_goals
        have d0 := b0.below hB l0
        have z0 := d0.other4 (c := w.heap.size + 1) (by omega) (.int .u64 (wd (inU (l.take (k + 1))) 0 : Int)) (.int .u64 (wd (inU (l.take (k + 1))) 1 : Int)) (.int .u64 (wd (inU (l.take (k + 1))) 2 : Int)) (.int .u64 (wd (inU (l.take (k + 1))) 3 : Int))
        have z1 := d1.stored (inU (l.take (k + 1)))
        have hR3 := below_set4 (c := w.heap.size + 1) (hBw.trans (hB.mono hBw.size)) (by omega) (.int .u64 (wd (inU (l.take (k + 1))) 0 : Int)) (.int .u64 (wd (inU (l.take (k + 1))) 1 : Int)) (.int .u64 (wd (inU (l.take (k + 1))) 2 : Int)) (.int .u64 (wd (inU (l.take (k + 1))) 3 : Int))
        clear d0 d1 b0 b1 hBw hB p0 p1 p2 p3 q0 q1 r0 r1 r2 r3 hstep
        go_wp2
        go_roundw
        case rel => exact ⟨k + 1, by omega, by go_num, z0, z1, hR3⟩
        case measure => simp [intOf]; omega
    · have hkl : k = l.length := by omega
      rw [hkl, List.take_length] at b1
      have hlt2 : ¬ k < l.length := hlt
      obtain ⟨q0, q1, q2, q3⟩ := b1.cells
      obtain ⟨q4, q5, q6, q7⟩ := b0.cells
      obtain ⟨r0, r1, r2, r3⟩ := b0.free
      have hR3 := below_set4 (c := w.heap.size) hBw (Nat.le_refl _) (.int .u64 (wd (inU l) 0 : Int)) (.int .u64 (wd (inU l) 1 : Int)) (.int .u64 (wd (inU l) 2 : Int)) (.int .u64 (wd (inU l) 3 : Int))
      have z2 := (b0.stored (inU l)).cells
      clear hBw b0 b1 hkl hc hl
      go_wp2
      refine bodyPost_ret (v := sv (inU l)) (by simp [results, Try.results26, go_sem, z2]) rfl ⟨rfl, hR3⟩

set_option maxHeartbeats 1000000 in
theorem runion_nil (w : World) :
    Calls Try.prog 26 #[.slice none 0 0] w fun e w' => e = .returned (sv (inU [])) ∧ Below w.heap.size w w' := by
  have hz : Hid (sv (inU []) = .agg #[.int .u64 0, .int .u64 0, .int .u64 0, .int .u64 0]) := by
    unfold sv; rw [inU_nil, none_wd, none_wd, none_wd, none_wd] <;> rfl
  go_enter Try.func26, Try.ntmps26
  go_wp2
  refine wp_loop_rounds 1 ?_
  rw [rounds_succ]; go_wp2
  go_returns
  exact ⟨by rw [hz.out], by go_grown⟩
theorem runion_any (l : List (Nat × Nat)) (hl : ∀ r, r ∈ l → r.1 < 256 ∧ r.2 < 256) (hm : l.length ≤ 1000) (v : Value) (w : World) (h : rdR w v l) :
    Calls Try.prog 26 #[v] w fun e w' => e = .returned (sv (inU l)) ∧ Below w.heap.size w w' := by
  rcases h with ⟨rfl, rfl⟩ | ⟨b, off, cap, rfl, hb, hc⟩
  · exact runion_nil w
  · exact runion_some l hl hm b off cap w hb hc
end Go.Proofs.Ytiiohkimjlcfmaa
