/-
  The walk of named's Fold.
-/
import Derived.Test.YtpgikkmpnbcljaaDoorFoldm
namespace Go.Proofs.YtpgikkmpnbcljaaDoor
open Go.RowKit

theorem rd8_of_owns {w : World} {base : Nat} {e : TypeId} {v : Value} {l : List Nat} (h : w.ownsRow base e 1 v l.length (u8s l)) : rd8 w v l := by
  have hlt := h.lt
  rcases h.2 with ⟨rfl, h0⟩ | ⟨g, cap, cur, rfl, _, _, _, _, _, _⟩
  · exact .inl ⟨rfl, List.length_eq_zero_iff.1 h0⟩
  · refine .inr ⟨g, 0, cap, rfl, (hlt g rfl).2, fun j hj => ?_⟩
    have := h.cells (g := g) rfl j (.int .u8 (l[j] : Nat)) (by simp [u8s, List.getElem?_map, List.getElem?_eq_getElem hj])
    rw [Nat.zero_add]
    by_cases h0 : j = 0
    · subst h0; simpa [Addr.add] using this
    · simpa [Addr.add, h0] using this
theorem rd8_below {w w' : World} {v : Value} {l : List Nat} (h : rd8 w v l) (hb : Below w.heap.size w w') : rd8 w' v l := by
  rcases h with h | ⟨b, off, cap, rfl, hl, hc⟩
  · exact .inl h
  · refine .inr ⟨b, off, cap, rfl, Nat.lt_of_lt_of_le hl hb.size, fun j hj => ?_⟩
    rw [hb.cell (p := ⟨b, off + j, none⟩) hl]; exact hc j hj
/-- The bytes of a set whose bytes are known. -/
theorem bytes_lit (f : Nat → Bool) (l : List Nat) (n : Nat) (hl : bl f 256 = l) (hn : l.length = n) (w : World) : Calls Tryd.prog 29 #[svr f] w fun e w' => ∃ a c, e = .returned (.slice a n c) ∧ rd8 w' (.slice a n c) l ∧ (∀ p, a = some p → w.heap.size ≤ p.block) ∧ Below w.heap.size w w' :=
  (bytes_any f w).mono fun e w' ⟨v, h1, h2, h3⟩ => by
    have hr := rd8_of_owns h2
    rw [hl] at hr
    have hv : ∃ a c, v = .slice a n c := by
      rcases hr with ⟨g1, g2⟩ | ⟨b, off, cap, g1, _⟩
      · exact ⟨none, 0, by rw [g1, ← hn, g2]; rfl⟩
      · exact ⟨_, _, by rw [g1, hn]⟩
    obtain ⟨a, c, rfl⟩ := hv
    refine ⟨a, c, h1, hr, fun p hp => ?_, h3⟩
    rcases h2.2 with ⟨g1, _⟩ | ⟨g, cap, cur, g1, g2, _⟩
    · simp [hp] at g1
    · simp only [Value.slice.injEq, hp, Option.some.injEq] at g1
      rw [g1.1]
      exact Nat.le_of_succ_le g2
theorem cell_far4 (w : World) (b o c : Nat) (h : c ≠ b) (v0 v1 v2 v3 : Value) :
    ((((w.setCell ⟨c, 0, none⟩ v0).setCell ⟨c, 1, none⟩ v1).setCell ⟨c, 2, none⟩ v2).setCell ⟨c, 3, none⟩ v3).cell? ⟨b, o, none⟩ = w.cell? ⟨b, o, none⟩ := by
  rw [World.cell?_setCell_far _ _ _ _ h, World.cell?_setCell_far _ _ _ _ h, World.cell?_setCell_far _ _ _ _ h, World.cell?_setCell_far _ _ _ _ h]

set_option maxRecDepth 100000 in
set_option maxHeartbeats 8000000 in
theorem fold_any (f : Nat → Bool) (w : World) (hT : Tabbed w) :
    Calls Tryd.prog 15 #[sv f] w fun e w' => e = .returned (sv (foldF f)) ∧ Below w.heap.size w w' := by
  have hW1 : Below w.heap.size w (w.alloc (.cells #[.int .u64 (wd f 0 : Int), .int .u64 (wd f 1 : Int), .int .u64 (wd f 2 : Int), .int .u64 (wd f 3 : Int)] 25)) := (Below.refl _ _).alloc (Nat.le_refl _) _
  have e0 := isSet.new w f
  have e1 := isSet.newNone (w.alloc (.cells #[.int .u64 (wd f 0 : Int), .int .u64 (wd f 1 : Int), .int .u64 (wd f 2 : Int), .int .u64 (wd f 3 : Int)] 25))
  have hW2 := hW1.alloc hW1.size (.cells #[.int .u64 0, .int .u64 0, .int .u64 0, .int .u64 0] 25)
  have e2 := isSet.new ((w.alloc (.cells #[.int .u64 (wd f 0 : Int), .int .u64 (wd f 1 : Int), .int .u64 (wd f 2 : Int), .int .u64 (wd f 3 : Int)] 25)).alloc (.cells #[.int .u64 0, .int .u64 0, .int .u64 0, .int .u64 0] 25)) f
  have hW3 := hW2.alloc hW2.size (.cells #[.int .u64 (wd f 0 : Int), .int .u64 (wd f 1 : Int), .int .u64 (wd f 2 : Int), .int .u64 (wd f 3 : Int)] 25)
  have c0 := (e0.alloc (.cells #[.int .u64 0, .int .u64 0, .int .u64 0, .int .u64 0] 25)).alloc (.cells #[.int .u64 (wd f 0 : Int), .int .u64 (wd f 1 : Int), .int .u64 (wd f 2 : Int), .int .u64 (wd f 3 : Int)] 25)
  have c1 := e1.alloc (.cells #[.int .u64 (wd f 0 : Int), .int .u64 (wd f 1 : Int), .int .u64 (wd f 2 : Int), .int .u64 (wd f 3 : Int)] 25)
  have hT3 := ((hT.alloc (.cells #[.int .u64 (wd f 0 : Int), .int .u64 (wd f 1 : Int), .int .u64 (wd f 2 : Int), .int .u64 (wd f 3 : Int)] 25)).alloc (.cells #[.int .u64 0, .int .u64 0, .int .u64 0, .int .u64 0] 25)).alloc (.cells #[.int .u64 (wd f 0 : Int), .int .u64 (wd f 1 : Int), .int .u64 (wd f 2 : Int), .int .u64 (wd f 3 : Int)] 25)
  simp only [World.size_alloc] at e2 c1
  have HW := Lib.hid hW3; have C0 := Lib.hid c0; have C1 := Lib.hid c1; have C2 := Lib.hid e2; have HT := Lib.hid hT3
  clear hW1 hW2 hW3 e0 e1 e2 c0 c1 hT3
  obtain ⟨l, hl⟩ : ∃ l, l = alphs f := ⟨_, rfl⟩
  obtain ⟨n, hn⟩ : ∃ n, n = l.length := ⟨_, rfl⟩
  have HL := Lib.hid hl; have HN := Lib.hid hn
  have HL2 : Hid (bl (fun b => f b && clsK { data := #[97, 108, 112, 104, 97] } 23 b) 256 = l) := Lib.hid hl.symm
  clear hl hn
  unfold sv
  go_enter Tryd.func15, Tryd.ntmps15
  go_wp2_with fail
  generalize ((w.alloc (.cells #[.int .u64 (wd f 0 : Int), .int .u64 (wd f 1 : Int), .int .u64 (wd f 2 : Int), .int .u64 (wd f 3 : Int)] 25)).alloc (.cells #[.int .u64 0, .int .u64 0, .int .u64 0, .int .u64 0] 25)).alloc (.cells #[.int .u64 (wd f 0 : Int), .int .u64 (wd f 1 : Int), .int .u64 (wd f 2 : Int), .int .u64 (wd f 3 : Int)] 25) = W at *
  have hB := (Below.refl W.heap.size W).drew
  have hS := C0.out.cells
  have lt0 := C0.out.lt
  go_region_held_law (fun w' => w'.cell? ⟨w.heap.size, 0, none⟩ = some (.int .u64 (wd f 0 : Int)) ∧ w'.cell? ⟨w.heap.size, 1, none⟩ = some (.int .u64 (wd f 1 : Int)) ∧ w'.cell? ⟨w.heap.size, 2, none⟩ = some (.int .u64 (wd f 2 : Int)) ∧ w'.cell? ⟨w.heap.size, 3, none⟩ = some (.int .u64 (wd f 3 : Int)))
    (first | exact (C0.out.below hB lt0).cells | go_keep)
    (first | (go_at_call 24; (with_reducible refine (cl_any _ _ (HT.out.to hB)).mono ?_); rintro e wk ⟨rfl, hb⟩; replace hB := hB.trans (hb.mono hB.size); clear hb)
           | (go_at_call 17; (with_reducible refine (and_lit f _ _).mono ?_); rintro e wk ⟨rfl, hb⟩; replace hB := hB.trans (hb.mono hB.size); clear hb)
           | (go_at_call 29; (with_reducible refine (bytes_lit _ l n HL2.out HN.out.symm _).mono ?_); rintro e wk ⟨a, c, rfl, hr, hfr, hb⟩; replace hfr := fun p hp => Nat.le_trans hB.size (hfr p hp); replace hB := hB.trans (hb.mono hB.size); clear hb))
  rename_i hHeld
  clear hHeld hS
  have g1 := C1.out.below hB C1.out.lt
  have g2 := C2.out.below hB C2.out.lt
  have hw := HW.out.trans (hB.mono HW.out.size)
  have hz2 := C2.out.lt
  clear C0 C1 C2 HW HT hB lt0 HL2
  rename_i wk
  have hAl : Hid (alphs f = l) := Lib.hid HL.out.symm
  rcases hr with ⟨ha, h0⟩ | ⟨b, off, cap, ha, hb, hc⟩
  · obtain ⟨rfl, rfl, rfl⟩ : a = none ∧ n = 0 ∧ c = 0 := by simpa using ha
    clear ha
    have hz : foldF f = f := by
      rw [← foldK_all, hAl.out, h0]; exact foldK_zero f
    have HZ := Lib.hid hz
    clear hz h0
    have lt2 := g1.lt
    obtain ⟨q0, q1, q2, q3⟩ := g2.cells
    obtain ⟨q4, q5, q6, q7⟩ := g1.cells
    obtain ⟨r0, r1, r2, r3⟩ := g1.free
    have HR := Lib.hid (below_set4 (c := w.heap.size + 1) hw (by omega) (.int .u64 (wd f 0 : Int)) (.int .u64 (wd f 1 : Int)) (.int .u64 (wd f 2 : Int)) (.int .u64 (wd f 3 : Int)))
    have Z := Lib.hid (g1.stored f).cells
    clear g1 g2 hw
    go_wp2
    refine wp_loop_rounds 1 ?_
    rw [rounds_succ]; go_wp2
    refine bodyPost_ret (v := sv f) (by simp [results, Tryd.results15, go_sem, Z.out]) rfl ⟨by rw [HZ.out]; rfl, HR.out⟩
  · obtain ⟨rfl, hnl, rfl⟩ : a = some ⟨b, off, none⟩ ∧ n = l.length ∧ c = cap := by simpa using ha
    have hfb := hfr _ rfl
    simp only at hfb
    have hle : n ≤ 256 := by rw [HN.out, HL.out]; exact alphs_le f
    clear ha hnl hfr
    have HC := Lib.hid hc
    clear hc
    go_wp2
    go_loopw [12] (fun i wr => ∃ j : Nat, j ≤ n ∧ i = .int .i64 j ∧ isSet wr (w.heap.size + 1) (fun _ => false) ∧ isSet wr (w.heap.size + 1 + 1) (foldK f j) ∧ (b < wr.heap.size ∧ ∀ i (h : i < l.length), wr.cell? ⟨b, off + i, none⟩ = some (.int .u8 (l[i] : Nat))) ∧ Below w.heap.size w wr) (fun i _ => n - (intOf i).toNat)
    case atStart => exact ⟨0, Nat.zero_le _, rfl, g1, by rw [foldK_zero]; exact g2, ⟨hb, HC.out⟩, hw⟩
    case round =>
      obtain ⟨j, hj, rfl, b1, b2, ⟨hbl, hcl0⟩, hBw⟩ := hrel
      have hcl := Lib.hid hcl0
      clear hcl0 HC
      clear g1 g2 hw
      have l1 := b1.lt; have l2 := b2.lt
      by_cases hlt : j < n
      · have hjl : j < l.length := by have := HN.out; omega
        obtain ⟨x, hx⟩ : ∃ x, x = l[j] := ⟨_, rfl⟩
        have qx := hcl.out j hjl
        rw [← hx] at qx
        have hx2 : x < 256 := by
          rw [hx]
          have hm := List.getElem_mem hjl
          exact alphs_lt f _ (by rw [hAl.out]; exact hm)
        obtain ⟨y, hy⟩ : ∃ y, y = x ^^^ 32 := ⟨_, rfl⟩
        have hxor := xor_bits x hx2
        have hy2 := xor_small x hx2
        rw [← hy] at hxor hy2
        have hstep : Hid ((fun b => foldK f j b || decide (b = y)) = foldK f (j + 1)) := by
          have := foldK_succ f j (by rw [hAl.out]; exact hjl)
          refine Lib.hid (Eq.trans ?_ this)
          funext b
          congr 2
          rw [hy, hx]
          simp only [hAl.out]
        clear hx hy hjl
        have hB := ((Below.refl wr.heap.size wr).alloc (Nat.le_refl _) (.cells #[.int .u8 (y : Int)] 5)).drew
        have hbs := hBw.size
        obtain ⟨p0, p1, p2, p3⟩ := b2.cells
        go_wp2_with fail
        go_region_with
          (first
            | (go_at_call 18; (with_reducible refine (of_one y hy2 _ _ (by simp) (by simp [go_sem])).mono ?_); rintro e wm ⟨rfl, hb9⟩; replace hB := hB.trans (hb9.mono hB.size); clear hb9; have d2 := b2.below hB l2; obtain ⟨p0, p1, p2, p3⟩ := d2.cells)
            | (go_at_call 19; (with_reducible refine (or_lit _ _ _).mono ?_); rw [hstep.out]; rintro e wm ⟨rfl, hb9⟩; replace hB := hB.trans (hb9.mono hB.size); clear hb9; have d2 := b2.below hB l2; obtain ⟨r0, r1, r2, r3⟩ := d2.free; obtain ⟨p0, p1, p2, p3⟩ := d2.cells))
        all_goals
          have d1 := b1.below hB l1
          have z1 := d1.other4 (c := w.heap.size + 1 + 1) (by omega) (.int .u64 (wd (foldK f (j + 1)) 0 : Int)) (.int .u64 (wd (foldK f (j + 1)) 1 : Int)) (.int .u64 (wd (foldK f (j + 1)) 2 : Int)) (.int .u64 (wd (foldK f (j + 1)) 3 : Int))
          have z2 := d2.stored (foldK f (j + 1))
          have hR3 := below_set4 (c := w.heap.size + 1 + 1) (hBw.trans (hB.mono hBw.size)) (by omega) (.int .u64 (wd (foldK f (j + 1)) 0 : Int)) (.int .u64 (wd (foldK f (j + 1)) 1 : Int)) (.int .u64 (wd (foldK f (j + 1)) 2 : Int)) (.int .u64 (wd (foldK f (j + 1)) 3 : Int))
          have hRk := Lib.hid (fun i (h : i < l.length) => (cell_far4 _ b (off + i) (w.heap.size + 1 + 1) (by omega) (.int .u64 (wd (foldK f (j + 1)) 0 : Int)) (.int .u64 (wd (foldK f (j + 1)) 1 : Int)) (.int .u64 (wd (foldK f (j + 1)) 2 : Int)) (.int .u64 (wd (foldK f (j + 1)) 3 : Int))).trans ((hB.cell (p := ⟨b, off + i, none⟩) hbl).trans (hcl.out i h)))
          have hbl2 := Nat.lt_of_lt_of_le hbl hB.size
          clear d1 d2 b1 b2 hB hBw hcl hbl p0 p1 p2 p3 r0 r1 r2 r3 hstep qx hxor
          go_wp2
          go_roundw
          case rel => exact ⟨j + 1, by omega, by go_num, z1, z2, ⟨by simpa using hbl2, hRk.out⟩, hR3⟩
          case measure => simp [intOf]; omega
      · obtain rfl : j = n := by omega
        have hz : foldK f j = foldF f := by rw [HN.out, ← hAl.out]; exact foldK_all f
        rw [hz] at b2
        clear hz hcl
        obtain ⟨q0, q1, q2, q3⟩ := b2.cells
        obtain ⟨q4, q5, q6, q7⟩ := b1.cells
        obtain ⟨r0, r1, r2, r3⟩ := b1.free
        have HR := Lib.hid (below_set4 (c := w.heap.size + 1) hBw (by omega) (.int .u64 (wd (foldF f) 0 : Int)) (.int .u64 (wd (foldF f) 1 : Int)) (.int .u64 (wd (foldF f) 2 : Int)) (.int .u64 (wd (foldF f) 3 : Int)))
        have Z := Lib.hid (b1.stored (foldF f)).cells
        clear b1 b2 hBw
        go_wp2
        refine bodyPost_ret (v := sv (foldF f)) (by simp [results, Tryd.results15, go_sem, Z.out]) rfl ⟨rfl, HR.out⟩
end Go.Proofs.YtpgikkmpnbcljaaDoor
