/-
  The walk of byteset's Runs: the runs of a set, as a slice of the call's own (stage 1's, over the plain facts of Segp).
-/
import Derived.Test.YtgjpmfdiidkdnaaGreatDoorPk1
import Derived.Test.YtgjpmfdiidkdnaaGreatDoorPk16
namespace Go.Proofs.YtgjpmfdiidkdnaaGreatDoor
open Go.RowKit

theorem Tryz.infoRun : (Tryz.prog.info? 63).map (fun i => (i.zero, i.size, i.bytes)) = some (some (.agg #[.int .u8 0, .int .u8 0]), 2, 2) := by kernel_rfl

/-- Runs as cells. -/
def rvs (l : List (Nat × Nat)) : List Value := l.flatMap fun r => [.int .u8 (r.1 : Int), .int .u8 (r.2 : Int)]
theorem rvs_append (a b : List (Nat × Nat)) : rvs (a ++ b) = rvs a ++ rvs b := by simp [rvs]
theorem rvs_length (l : List (Nat × Nat)) : (rvs l).length = l.length * 2 := by
  induction l with
  | nil => rfl
  | cons r l ih => simp only [rvs, List.flatMap_cons, List.length_append] at *; rw [ih]; simp; omega
theorem rvs_last (init : List (Nat × Nat)) (lo hi : Nat) : (rvs (init ++ [(lo, hi)]))[init.length * 2 + 1]? = some (.int .u8 (hi : Int)) := by
  rw [rvs_append, List.getElem?_append_right (by rw [rvs_length]; omega), rvs_length]
  simp [rvs]
theorem rvs_set (init : List (Nat × Nat)) (lo hi b : Nat) : (rvs (init ++ [(lo, hi)])).set (init.length * 2 + 1) (.int .u8 (b : Int)) = rvs (init ++ [(lo, b)]) := by
  rw [rvs_append, rvs_append, List.set_append_right _ _ (by rw [rvs_length]; omega), rvs_length]
  simp [rvs]

/-- The state of the loop of Runs, k bytes on. -/
def runsR (l : List Nat) (w1 : World) (k : Nat) (v : Value) (wr : World) : Prop :=
  wr.ownsRow w1.heap.size 63 2 v (runsOf (l.take k)).length (rvs (runsOf (l.take k))) ∧ Below w1.heap.size w1 wr

set_option maxRecDepth 100000 in
set_option maxHeartbeats 2000000 in
theorem runs_any (f : Nat → Bool) (w : World) :
    Calls Tryz.prog 26 #[sv f] w fun e w' => ∃ v, e = .returned v ∧ w'.ownsRow w.heap.size 63 2 v (runsOf (bl f 256)).length (rvs (runsOf (bl f 256))) ∧ Below w.heap.size w w' := by
  obtain ⟨i0, hi, hz0, hz1, hz2⟩ := info_parts Tryz.infoRun
  have hlen := bl_le f 256
  have hby := bl_bytes f 256
  unfold sv
  go_enter Tryz.func26, Tryz.ntmps26
  go_wp2_with fail
  refine (bytes_any f _).mono ?_
  rintro e w1 ⟨v8, rfl, hown8, hB1⟩
  have hr8 := rd8_of_owns hown8
  have hz1' := hB1.size
  simp only [World.size_alloc] at hz1'
  obtain ⟨l, hl0⟩ : ∃ l, l = bl f 256 := ⟨_, rfl⟩
  rw [← hl0] at hr8 hlen hby
  have HL := Lib.hid hl0
  clear hown8 hl0
  rcases hr8 with ⟨rfl, rfl⟩ | ⟨b, off, cap, rfl, hb, hc⟩
  · go_wp2
    refine wp_loop_rounds 1 ?_
    rw [rounds_succ]; go_wp2
    go_ret
    exact ⟨.slice none 0 0, rfl, by rw [← HL.out]; exact World.ownsRow_nil _ _ _ _, ((Below.refl _ _).alloc (Nat.le_refl _) _).trans (hB1.mono (by simp))⟩
  · go_wp2
    go_loopw [3, 10] (fun v i wr => ∃ k : Nat, k ≤ l.length ∧ i = .int .i64 k ∧ runsR l w1 k v wr) (fun _ i _ => l.length - (intOf i).toNat)
    case atStart => exact ⟨0, Nat.zero_le _, rfl, World.ownsRow_nil _ _ _ _, Below.refl _ _⟩
    case round =>
      obtain ⟨k, hk, rfl, hown, hB⟩ := hrel
      have hz := hB.size
      by_cases hlt : k < l.length
      · have hcell := (hB.cell (p := ⟨b, off + k, none⟩) hb).trans (hc k hlt)
        have hx : l[k] < 256 := hby _ (List.getElem_mem hlt)
        have hstep := Lib.hid (runsOf_take l k hlt)
        have hal := runsOf_length l k hk
        have hab := Lib.hid (runsOf_bytes l hby k hk)
        obtain ⟨c, hcc⟩ : ∃ c, c = l[k] := ⟨_, rfl⟩
        rw [← hcc] at hcell hx
        rw [← hcc] at hstep
        clear hcc hc hby
        obtain ⟨acc, hacc⟩ : ∃ acc, acc = runsOf (l.take k) := ⟨_, rfl⟩
        rw [← hacc] at hown hal hstep hab
        clear hacc
        rcases List.eq_nil_or_concat acc with rfl | ⟨init, ⟨lo, hi'⟩, rfl⟩
        · rcases hown.2 with ⟨rfl, _⟩ | ⟨g, cap2, cur, rfl, _⟩
          all_goals
            go_wp2_with (at_builtin; refine wpList_append_own _ rfl _ _ 60 rfl w1.heap.size 63 i0 (.agg #[.int .u8 0, .int .u8 0]) 2 2 Tryz.underlying60 hi hz0 hz1 hz2 rfl (by decide) _ _ _ rfl (hown.alloc _) ⟨wr.heap.size, 0, none⟩ 1 1 [.int .u8 (c : Int), .int .u8 (c : Int)] rfl rfl ?_ ?_ ?_ ?_ ?_ ?_)
            · intro j u hj
              match j, hj with
              | 0, hj => simp at hj; subst hj; simp [Addr.add]
              | 1, hj => simp at hj; subst hj; simp [Addr.add]
            · intro u hu; simp at hu; subst hu; rfl
            · unfold maxLen; simp
            · simp
            · simp; omega
            intro v' w2 hown2 hgrow _
            have hB2 : Below w1.heap.size w1 w2 := (hB.alloc hz _).grown hgrow (by simp; omega) fun r hr => (hown.lt r hr).1
            have hown3 : w2.ownsRow w1.heap.size 63 2 v' (runsOf (l.take (k + 1))).length (rvs (runsOf (l.take (k + 1)))) := by
              rw [hstep.out, step_nil]
              simpa [rvs] using hown2
            clear hown2 hgrow hown hB
            go_wp2
            go_roundw
            case rel => exact ⟨k + 1, by omega, by go_num, hown3, hB2⟩
            case measure => simp [intOf]; omega
        · rw [List.concat_eq_append] at *
          have hmlen : (init ++ [(lo, hi')]).length = init.length + 1 := by simp
          rw [hmlen] at hown hal
          rcases hown.2 with ⟨_, h0⟩ | ⟨g, cap2, cur, rfl, hg⟩
          · omega
          · have hq := hown.cellAt (init.length * 2 + 1) (by omega)
            rw [rvs_last] at hq
            have hfr := hown.frozenAt (init.length * 2 + 1)
            have hge := hg.1
            clear hmlen hg
            by_cases hcond : (hi' + 1) % 256 = c
            · have ht : (((hi' : Int) + 1) % 256 == (c : Int)) = true := beq_iff_eq.2 (by omega)
              have st := hown.stored (init.length * 2 + 1) (.int .u8 (c : Int))
              have hown3 : (wr.setCell ⟨g, init.length * 2 + 1, none⟩ (.int .u8 (c : Int))).ownsRow w1.heap.size 63 2 (.slice (some ⟨g, 0, none⟩) (init.length + 1) cap2) (runsOf (l.take (k + 1))).length (rvs (runsOf (l.take (k + 1)))) := by
                rw [hstep.out, step_hit init lo hi' c hcond]
                have := st.1
                rw [rvs_set] at this
                simpa using this
              have hB2 := hB.setCell (p := ⟨g, init.length * 2 + 1, none⟩) hge (.int .u8 (c : Int))
              have Ho := Lib.hid hown3
              clear hcond hown hown3 st hstep
              go_wp2
              go_roundw
              case rel => exact ⟨k + 1, by omega, by go_num, Ho.out, hB2⟩
              case measure => simp [intOf]; omega
            · have ht : (((hi' : Int) + 1) % 256 == (c : Int)) = false := beq_eq_false_iff_ne.2 (by omega)
              go_wp2_with (at_builtin; refine wpList_append_own _ rfl _ _ 60 rfl w1.heap.size 63 i0 (.agg #[.int .u8 0, .int .u8 0]) 2 2 Tryz.underlying60 hi hz0 hz1 hz2 rfl (by decide) _ _ _ rfl (hown.alloc _) ⟨wr.heap.size, 0, none⟩ 1 1 [.int .u8 (c : Int), .int .u8 (c : Int)] rfl rfl ?c1 ?c2 ?c3 ?c4 ?c5 ?_)
              case c1 =>
                intro j u hj
                match j, hj with
                | 0, hj => simp at hj; subst hj; simp [Addr.add]
                | 1, hj => simp at hj; subst hj; simp [Addr.add]
              case c2 => intro u hu; simp at hu; subst hu; rfl
              case c3 => unfold maxLen; omega
              case c4 => omega
              case c5 => simp; omega
              intro v' w2 hown2 hgrow _
              have hB2 : Below w1.heap.size w1 w2 := (hB.alloc hz _).grown hgrow (by simp; omega) fun r hr => (hown.lt r hr).1
              have hown3 : w2.ownsRow w1.heap.size 63 2 v' (runsOf (l.take (k + 1))).length (rvs (runsOf (l.take (k + 1)))) := by
                rw [hstep.out, step_new init lo hi' c hcond, rvs_append (init ++ [(lo, hi')])]
                simpa [rvs] using hown2
              clear hown2 hgrow hown hB hq hfr
              go_wp2
              go_roundw
              case rel => exact ⟨k + 1, by omega, by go_num, hown3, hB2⟩
              case measure => simp [intOf]; omega
      · have hkl : k = l.length := by omega
        have hown' : wr.ownsRow w1.heap.size 63 2 u3 (runsOf (bl f 256)).length (rvs (runsOf (bl f 256))) := by
          rw [← HL.out]
          rw [hkl, List.take_length] at hown
          exact hown
        have Ho := Lib.hid hown'
        clear hown' hown hc hby hkl
        go_wp2
        go_ret
        exact ⟨_, rfl, owns_mono Ho.out (by omega), (((Below.refl _ _).alloc (Nat.le_refl _) _).trans (hB1.mono (by simp))).trans (hB.mono (by omega))⟩

/-- The runs that a slice's cells are. -/
def rdR (w : World) (tp : Option Addr) (L : List (Nat × Nat)) : Prop :=
  ∀ j (h : j < L.length), ∃ b, tp = some ⟨b, 0, none⟩ ∧ b < w.heap.size ∧ w.cell? ⟨b, j * 2, none⟩ = some (.int .u8 (L[j].1 : Int)) ∧ w.cell? ⟨b, j * 2 + 1, none⟩ = some (.int .u8 (L[j].2 : Int))
theorem rvs_at (L : List (Nat × Nat)) (j : Nat) (h : j < L.length) : (rvs L)[j * 2]? = some (.int .u8 (L[j].1 : Int)) ∧ (rvs L)[j * 2 + 1]? = some (.int .u8 (L[j].2 : Int)) := by
  induction L generalizing j with
  | nil => simp at h
  | cons r L ih =>
    cases j with
    | zero => exact ⟨rfl, rfl⟩
    | succ j =>
      have := ih j (by simpa using h)
      rw [show (j + 1) * 2 = j * 2 + 1 + 1 by omega]
      simpa [rvs] using this
theorem rdR_of_owns {w : World} {base : Nat} {v : Value} {L : List (Nat × Nat)} (h : w.ownsRow base 63 2 v L.length (rvs L)) : ∃ tp cap, v = .slice tp L.length cap ∧ rdR w tp L := by
  have hlt := h.lt
  rcases h.2 with ⟨rfl, h0⟩ | ⟨g, cap, cur, rfl, -⟩
  · exact ⟨none, 0, by rw [h0], fun j hj => by omega⟩
  · refine ⟨some ⟨g, 0, none⟩, cap, rfl, fun j hj => ⟨g, rfl, (hlt g rfl).2, ?_, ?_⟩⟩
    · rw [h.cellAt (j * 2) (by omega)]; exact (rvs_at L j hj).1
    · rw [h.cellAt (j * 2 + 1) (by omega)]; exact (rvs_at L j hj).2
theorem rdR.below {w w' : World} {tp : Option Addr} {L : List (Nat × Nat)} {B : Nat} (h : rdR w tp L) (hb : Below B w w') (hB : w.heap.size ≤ B) : rdR w' tp L := fun j hj => by
  obtain ⟨b, h1, h2, h3, h4⟩ := h j hj
  exact ⟨b, h1, by have := hb.size; omega, by rw [hb.cell (p := ⟨b, j * 2, none⟩) (by show b < B; omega)]; exact h3, by rw [hb.cell (p := ⟨b, j * 2 + 1, none⟩) (by show b < B; omega)]; exact h4⟩
end Go.Proofs.YtgjpmfdiidkdnaaGreatDoor
