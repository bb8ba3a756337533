/-
  The walk of the ninth reference's Close.
-/
import Derived.Test.YtepegohopgnmnaaPk4
namespace Go.Proofs.Ytepegohopgnmnaa
open Go.RowKit

section
variable {S : Nat → Sd} {sym : Int} {T : Nat → Bool} {i : Nat}
theorem up1_off (hT : T i = false) : up1 S sym T i = T := by unfold up1; rw [if_neg (by rw [hT]; decide)]
theorem up1_none (hT : T i = true) (h3 : (S i).k ≠ 3) (hA : eA S sym i = false) : up1 S sym T i = T := by unfold up1; rw [if_pos hT, if_neg h3, if_neg (by rw [hA]; decide)]
theorem up1_A (hT : T i = true) (h3 : (S i).k ≠ 3) (hA : eA S sym i = true) : up1 S sym T i = putT T (S i).A.toNat true := by unfold up1; rw [if_pos hT, if_neg h3, if_pos hA]
theorem up1_AB (hT : T i = true) (h3 : (S i).k = 3) : up1 S sym T i = putT (putT T (S i).A.toNat true) (S i).B.toNat true := by unfold up1; rw [if_pos hT, if_pos h3]
end

set_option maxRecDepth 100000 in
set_option maxHeartbeats 20000000 in
theorem rcl_is (b off m cap g c : Nat) (S : Nat → Sd) (T : Nat → Bool) (st fin sym : Int) (hm : m ≤ 1000) (hpos : 0 < m) (hR : rng S m) (w : World) (hS : rdS w b off m S) (hT : rdB w g m T) :
    Calls Try.prog 27 #[.agg #[.slice (some ⟨b, off, none⟩) m cap, .int .i64 st, .int .i64 fin], .slice (some ⟨g, 0, none⟩) m c, .int .i64 sym] w fun e w' => ∃ G C, e = .returned (.slice (some ⟨G, 0, none⟩) m C) ∧ blR w' w.heap.size G C m (upN S sym m T m) ∧ Below w.heap.size w w' := by
  obtain ⟨i0, hi, hz0, hz1, hz2⟩ := info_parts infoBool9
  obtain ⟨w1, hw1⟩ : ∃ w1, w.alloc (.cells #[.slice (some ⟨b, off, none⟩) m cap, .int .i64 st, .int .i64 fin] 24) = w1 := ⟨_, rfl⟩
  have hz : w1.heap.size = w.heap.size + 1 := by rw [← hw1]; simp
  have hal : Below w.heap.size w w1 := hw1 ▸ (Below.refl _ _).alloc (Nat.le_refl _) _
  have HB1 := Lib.hid hal
  have HS1 := Lib.hid (hS.below hal)
  have hn0 : w1.cell? ⟨w.heap.size, 0, none⟩ = some (.slice (some ⟨b, off, none⟩) m cap) := by rw [← hw1]; simp
  have HN : Hid (∀ w', Below (w.heap.size + 1) w1 w' → w'.cell? ⟨w.heap.size, 0, none⟩ = some (.slice (some ⟨b, off, none⟩) m cap)) := Lib.hid fun w' h => (h.cell (p := ⟨w.heap.size, 0, none⟩) (by show w.heap.size < w.heap.size + 1; omega)).trans hn0
  have hlit := World.ownsRow_lit (e := 4) (size := 1) w1 #[] 0 (Nat.le_refl _) (by decide) rfl
  rw [hz] at hlit
  have HL := Lib.hid hlit
  have hB2 : Below (w.heap.size + 1) w1 (w1.alloc (.cells #[] 4)) := hz ▸ (Below.refl w1.heap.size w1).alloc (Nat.le_refl _) _
  have HT2 := Lib.hid ((hT.below hal).below (hz.symm ▸ hB2))
  have HB2 := Lib.hid hB2
  have HW1 := Lib.hid hw1
  have HM : Hid (0 + m ≤ maxLen) := Lib.hid (by unfold maxLen; omega)
  have H48 : Hid ((0 + m) * 1 ≤ 140737488355328) := Lib.hid (by omega)
  have HZ := Lib.hid hz
  clear hlit hB2 hw1 hal hS hT hn0 hz
  go_enter Try.func27, Try.ntmps27
  go_wp2_with (at_builtin; rw [HW1.out]; refine wpList_append_own _ rfl _ _ 28 rfl (w.heap.size + 1) 4 i0 (.bool false) 1 1 Try.underlying28 hi hz0 hz1 hz2 rfl (by decide) _ 0 [] rfl HL.out ⟨g, 0, none⟩ m c (bls T m) rfl (by rw [bls_len]; omega) ?c2 ?c3 HM.out H48.out ?c5 ?_)
  case c2 =>
    intro j u hj
    have hjm : j < m := by
      rcases Nat.lt_or_ge j m with h | h
      · exact h
      · rw [List.getElem?_eq_none (by rw [bls_len]; exact h)] at hj; cases hj
    rw [bls_at T m j hjm] at hj
    cases hj
    have := HT2.out.2 j hjm
    exact this
  case c3 =>
    intro u hu
    unfold bls at hu
    obtain ⟨j, _, rfl⟩ := List.mem_map.1 hu
    rfl
  case c5 => have := HZ.out; simp; omega
  intro v' w3 hown hgrow _
  try simp only [List.nil_append, Nat.zero_add] at hown
  have hB3 := HB2.out.grown hgrow (by have := HZ.out; simp; omega) (fun r hr => (HL.out.lt r hr).1)
  obtain ⟨G, C, rfl⟩ : ∃ G C, v' = .slice (some ⟨G, 0, none⟩) m C := by
    rcases hown.2 with ⟨_, h⟩ | ⟨G, C, _, h, _⟩
    · omega
    · exact ⟨G, C, h⟩
  have HB3 := Lib.hid hB3
  have HO3 : Hid (blR w3 (w.heap.size + 1) G C m T) := Lib.hid hown
  have HG : Hid (w.heap.size + 1 ≤ G) := Lib.hid (blR.lt (T := T) hown).1
  have HR := Lib.hid hR
  clear hown hgrow hB3 HL HT2 HB2 HM H48 hR hi hz0 hz1 hz2
  have m0 : (0 : Int) ≤ (m : Int) := by omega
  go_wp2_with fail
  go_loopw [8] (fun tv wr => ∃ t : Nat, t ≤ m ∧ tv = .int .i64 t ∧ Hid (blR wr (w.heap.size + 1) G C m (upN S sym m T t)) ∧ Below (w.heap.size + 1) w1 wr) (fun tv _ => m - (intOf tv).toNat)
  case atStart => exact ⟨0, Nat.zero_le _, rfl, HO3, HB3.out⟩
  case round =>
    obtain ⟨t, ht, rfl, HV, hB⟩ := hrel
    have HB := Lib.hid hB
    clear hB
    have n0 := HN.out _ HB.out
    by_cases hlt : t < m
    · have t0 : (0 : Int) ≤ (t : Int) := by omega
      have t1 : (t : Int) < (m : Int) := by omega
      have HU : Hid (upR S sym (upN S sym m T t) m = upN S sym m T (t + 1)) := Lib.hid rfl
      generalize upN S sym m T t = U at *
      go_wp2_with fail
      clear n0
      go_loopw [9] (fun iv wx => ∃ i : Nat, i ≤ m ∧ iv = .int .i64 i ∧ Hid (blR wx (w.heap.size + 1) G C m (upR S sym U i)) ∧ Below (w.heap.size + 1) w1 wx) (fun iv _ => m - (intOf iv).toNat)
      case atStart => exact ⟨0, Nat.zero_le _, rfl, HV, HB.out⟩
      case round =>
        obtain ⟨i, hi, rfl, HX, hB⟩ := hrel
        have HBx := Lib.hid hB
        clear hB
        have n0 := HN.out _ HBx.out
        by_cases hlti : i < m
        · have i0 : (0 : Int) ≤ (i : Int) := by omega
          have i1 : (i : Int) < (m : Int) := by omega
          obtain ⟨hbl, p0, p1, p2, p3, p4, p5, p6⟩ := (HS1.out.below (HZ.out ▸ HBx.out)) i hlti
          have HSTEP : Hid (up1 S sym (upR S sym U i) i = upR S sym U (i + 1)) := Lib.hid rfl
          obtain ⟨r1, r2, r3, r4, r5, r6⟩ := HR.out i hlti
          generalize upR S sym U i = V at *
          have hv := HX.out.cell i hlti
          obtain ⟨x, hx⟩ : ∃ x, S i = x := ⟨_, rfl⟩
          have HSX := Lib.hid hx
          rw [hx] at p0 p1 p2 p3 p4 p5 p6 r1 r2 r3 r4 r5 r6
          obtain ⟨xk, xa, xb, xc, xd, xA, xB⟩ := x
          simp only at p0 p1 p2 p3 p4 p5 p6 r1 r2 r3 r4 r5 r6
          obtain ⟨A', rfl⟩ : ∃ A' : Nat, xA = A' := ⟨xA.toNat, by omega⟩
          obtain ⟨B', rfl⟩ : ∃ B' : Nat, xB = B' := ⟨xB.toNat, by omega⟩
          clear hx
          have hal : Below (w.heap.size + 1) w1 (wr.alloc (.cells #[.int .i64 xk, .int .i64 (A' : Int), .int .i64 (B' : Int), .int .u64 xa, .int .u64 xb, .int .u64 xc, .int .u64 xd] 64)) := HBx.out.alloc (by have := HBx.out.size; have := HZ.out; omega) _
          have hoa : blR (wr.alloc (.cells #[.int .i64 xk, .int .i64 (A' : Int), .int .i64 (B' : Int), .int .u64 xa, .int .u64 xb, .int .u64 xc, .int .u64 xd] 64)) (w.heap.size + 1) G C m V := HX.out.below ((Below.refl _ _).alloc (Nat.le_refl _) _)
          have HBA := Lib.hid hal
          have HOA := Lib.hid hoa
          have hgl := HX.out.lt.2
          have hne1 : ¬ (wr.heap.size = G) := by omega
          have hne2 : ¬ (G = wr.heap.size) := by omega
          clear hal hoa
          cases hT : V i with
          | false =>
            rw [hT] at hv
            have hv2 := HOA.out.cell i hlti
            rw [hT] at hv2
            have HE := Lib.hid (up1_off (S := S) (sym := sym) hT)
            clear hv r1 r2 hbl
            go_wp2_with fail
            go_roundw
            case rel => exact ⟨i + 1, by omega, by go_num, Lib.hid (HSTEP.out ▸ HE.out.symm ▸ HOA.out), HBA.out⟩
            case measure => simp [intOf]; omega
          | true =>
            have hv2 := HOA.out.cell i hlti
            rw [hT] at hv2
            clear hv hbl
            have HTi := Lib.hid hT
            clear hT
            have hkk : xk = 1 ∨ xk = 2 ∨ xk = 3 ∨ xk = 4 ∨ xk = 5 ∨ xk = 6 := by omega
            clear r1 r2
            rcases hkk with rfl | rfl | rfl | rfl | rfl | rfl
            · skip
              have hea : eA S sym i = false := by unfold eA; rw [HSX.out]; simp [*]
              have HE := Lib.hid (up1_none (S := S) (sym := sym) (T := V) (i := i) HTi.out (by rw [HSX.out]; simp) hea)
              have HP := HOA
              have HBP := HBA
              clear hea
              go_wp2_with fail
              go_roundw
              case rel => exact ⟨i + 1, by omega, by go_num, Lib.hid (HSTEP.out ▸ HE.out.symm ▸ HP.out), HBP.out⟩
              case measure => simp [intOf]; omega
            · skip
              have hea : eA S sym i = true := by unfold eA; rw [HSX.out]; simp
              have HE := Lib.hid (up1_A (S := S) (sym := sym) (T := V) (i := i) HTi.out (by rw [HSX.out]; simp) hea)
              rw [show (S i).A.toNat = A' by rw [HSX.out]; exact Int.toNat_natCast _] at HE
              have f0 := HOA.out.free A'
              have f0' := HX.out.free A'
              have g0 := HX.out.cell A' (by omega)
              have HP := Lib.hid ((HX.out.put A' true).below ((Below.refl _ _).alloc (Nat.le_refl _) (.cells #[.int .i64 2, .int .i64 (A' : Int), .int .i64 (B' : Int), .int .u64 xa, .int .u64 xb, .int .u64 xc, .int .u64 xd] 64)))
              have HBP := Lib.hid ((HBx.out.setCell (p := ⟨G, A', none⟩) HG.out (.bool true)).alloc (by have := (HBx.out.setCell (p := ⟨G, A', none⟩) HG.out (.bool true)).size; have := HZ.out; omega) (.cells #[.int .i64 2, .int .i64 (A' : Int), .int .i64 (B' : Int), .int .u64 xa, .int .u64 xb, .int .u64 xc, .int .u64 xd] 64))
              clear hea
              go_wp2_with fail
              go_roundw
              case rel => exact ⟨i + 1, by omega, by go_num, Lib.hid (HSTEP.out ▸ HE.out.symm ▸ HP.out), HBP.out⟩
              case measure => simp [intOf]; omega
            · skip
              have HE := Lib.hid (up1_AB (S := S) (sym := sym) (T := V) (i := i) HTi.out (by rw [HSX.out]))
              rw [show (S i).A.toNat = A' by rw [HSX.out]; exact Int.toNat_natCast _, show (S i).B.toNat = B' by rw [HSX.out]; exact Int.toNat_natCast _] at HE
              have f0 := HOA.out.free A'
              have f0' := HX.out.free A'
              have g0 := HX.out.cell A' (by omega)
              have f1 := ((HX.out.put A' true).below ((Below.refl _ _).alloc (Nat.le_refl _) (.cells #[.int .i64 3, .int .i64 (A' : Int), .int .i64 (B' : Int), .int .u64 xa, .int .u64 xb, .int .u64 xc, .int .u64 xd] 64))).free B'
              have f1' := (HX.out.put A' true).free B'
              have g1 := (HX.out.put A' true).cell B' (by omega)
              have HP := Lib.hid (((HX.out.put A' true).put B' true).below ((Below.refl _ _).alloc (Nat.le_refl _) (.cells #[.int .i64 3, .int .i64 (A' : Int), .int .i64 (B' : Int), .int .u64 xa, .int .u64 xb, .int .u64 xc, .int .u64 xd] 64)))
              have HBP := Lib.hid (((HBx.out.setCell (p := ⟨G, A', none⟩) HG.out (.bool true)).setCell (p := ⟨G, B', none⟩) HG.out (.bool true)).alloc (by have := ((HBx.out.setCell (p := ⟨G, A', none⟩) HG.out (.bool true)).setCell (p := ⟨G, B', none⟩) HG.out (.bool true)).size; have := HZ.out; omega) (.cells #[.int .i64 3, .int .i64 (A' : Int), .int .i64 (B' : Int), .int .u64 xa, .int .u64 xb, .int .u64 xc, .int .u64 xd] 64))
              go_wp2_with fail
              go_roundw
              case rel => exact ⟨i + 1, by omega, by go_num, Lib.hid (HSTEP.out ▸ HE.out.symm ▸ HP.out), HBP.out⟩
              case measure => simp [intOf]; omega
            · by_cases s1 : sym = 256
              · have d1 : (sym == 256) = true := by simp [s1]
                have hea : eA S sym i = true := by unfold eA; rw [HSX.out]; simp [*]
                have HE := Lib.hid (up1_A (S := S) (sym := sym) (T := V) (i := i) HTi.out (by rw [HSX.out]; simp) hea)
                rw [show (S i).A.toNat = A' by rw [HSX.out]; exact Int.toNat_natCast _] at HE
                have f0 := HOA.out.free A'
                have f0' := HX.out.free A'
                have g0 := HX.out.cell A' (by omega)
                have HP := Lib.hid ((HX.out.put A' true).below ((Below.refl _ _).alloc (Nat.le_refl _) (.cells #[.int .i64 4, .int .i64 (A' : Int), .int .i64 (B' : Int), .int .u64 xa, .int .u64 xb, .int .u64 xc, .int .u64 xd] 64)))
                have HBP := Lib.hid ((HBx.out.setCell (p := ⟨G, A', none⟩) HG.out (.bool true)).alloc (by have := (HBx.out.setCell (p := ⟨G, A', none⟩) HG.out (.bool true)).size; have := HZ.out; omega) (.cells #[.int .i64 4, .int .i64 (A' : Int), .int .i64 (B' : Int), .int .u64 xa, .int .u64 xb, .int .u64 xc, .int .u64 xd] 64))
                clear hea
                go_wp2_with fail
                go_roundw
                case rel => exact ⟨i + 1, by omega, by go_num, Lib.hid (HSTEP.out ▸ HE.out.symm ▸ HP.out), HBP.out⟩
                case measure => simp [intOf]; omega
              · have d1 : (sym == 256) = false := by simp [s1]
                by_cases s2 : sym = 258
                · have d2 : (sym == 258) = true := by simp [s2]
                  have hea : eA S sym i = true := by unfold eA; rw [HSX.out]; simp [*]
                  have HE := Lib.hid (up1_A (S := S) (sym := sym) (T := V) (i := i) HTi.out (by rw [HSX.out]; simp) hea)
                  rw [show (S i).A.toNat = A' by rw [HSX.out]; exact Int.toNat_natCast _] at HE
                  have f0 := HOA.out.free A'
                  have f0' := HX.out.free A'
                  have g0 := HX.out.cell A' (by omega)
                  have HP := Lib.hid ((HX.out.put A' true).below ((Below.refl _ _).alloc (Nat.le_refl _) (.cells #[.int .i64 4, .int .i64 (A' : Int), .int .i64 (B' : Int), .int .u64 xa, .int .u64 xb, .int .u64 xc, .int .u64 xd] 64)))
                  have HBP := Lib.hid ((HBx.out.setCell (p := ⟨G, A', none⟩) HG.out (.bool true)).alloc (by have := (HBx.out.setCell (p := ⟨G, A', none⟩) HG.out (.bool true)).size; have := HZ.out; omega) (.cells #[.int .i64 4, .int .i64 (A' : Int), .int .i64 (B' : Int), .int .u64 xa, .int .u64 xb, .int .u64 xc, .int .u64 xd] 64))
                  clear hea
                  go_wp2_with fail
                  go_roundw
                  case rel => exact ⟨i + 1, by omega, by go_num, Lib.hid (HSTEP.out ▸ HE.out.symm ▸ HP.out), HBP.out⟩
                  case measure => simp [intOf]; omega
                · have d2 : (sym == 258) = false := by simp [s2]
                  have hea : eA S sym i = false := by unfold eA; rw [HSX.out]; simp [*]
                  have HE := Lib.hid (up1_none (S := S) (sym := sym) (T := V) (i := i) HTi.out (by rw [HSX.out]; simp) hea)
                  have HP := HOA
                  have HBP := HBA
                  clear hea
                  go_wp2_with fail
                  go_roundw
                  case rel => exact ⟨i + 1, by omega, by go_num, Lib.hid (HSTEP.out ▸ HE.out.symm ▸ HP.out), HBP.out⟩
                  case measure => simp [intOf]; omega
            · by_cases s1 : sym = 257
              · have d1 : (sym == 257) = true := by simp [s1]
                have hea : eA S sym i = true := by unfold eA; rw [HSX.out]; simp [*]
                have HE := Lib.hid (up1_A (S := S) (sym := sym) (T := V) (i := i) HTi.out (by rw [HSX.out]; simp) hea)
                rw [show (S i).A.toNat = A' by rw [HSX.out]; exact Int.toNat_natCast _] at HE
                have f0 := HOA.out.free A'
                have f0' := HX.out.free A'
                have g0 := HX.out.cell A' (by omega)
                have HP := Lib.hid ((HX.out.put A' true).below ((Below.refl _ _).alloc (Nat.le_refl _) (.cells #[.int .i64 5, .int .i64 (A' : Int), .int .i64 (B' : Int), .int .u64 xa, .int .u64 xb, .int .u64 xc, .int .u64 xd] 64)))
                have HBP := Lib.hid ((HBx.out.setCell (p := ⟨G, A', none⟩) HG.out (.bool true)).alloc (by have := (HBx.out.setCell (p := ⟨G, A', none⟩) HG.out (.bool true)).size; have := HZ.out; omega) (.cells #[.int .i64 5, .int .i64 (A' : Int), .int .i64 (B' : Int), .int .u64 xa, .int .u64 xb, .int .u64 xc, .int .u64 xd] 64))
                clear hea
                go_wp2_with fail
                go_roundw
                case rel => exact ⟨i + 1, by omega, by go_num, Lib.hid (HSTEP.out ▸ HE.out.symm ▸ HP.out), HBP.out⟩
                case measure => simp [intOf]; omega
              · have d1 : (sym == 257) = false := by simp [s1]
                by_cases s2 : sym = 258
                · have d2 : (sym == 258) = true := by simp [s2]
                  have hea : eA S sym i = true := by unfold eA; rw [HSX.out]; simp [*]
                  have HE := Lib.hid (up1_A (S := S) (sym := sym) (T := V) (i := i) HTi.out (by rw [HSX.out]; simp) hea)
                  rw [show (S i).A.toNat = A' by rw [HSX.out]; exact Int.toNat_natCast _] at HE
                  have f0 := HOA.out.free A'
                  have f0' := HX.out.free A'
                  have g0 := HX.out.cell A' (by omega)
                  have HP := Lib.hid ((HX.out.put A' true).below ((Below.refl _ _).alloc (Nat.le_refl _) (.cells #[.int .i64 5, .int .i64 (A' : Int), .int .i64 (B' : Int), .int .u64 xa, .int .u64 xb, .int .u64 xc, .int .u64 xd] 64)))
                  have HBP := Lib.hid ((HBx.out.setCell (p := ⟨G, A', none⟩) HG.out (.bool true)).alloc (by have := (HBx.out.setCell (p := ⟨G, A', none⟩) HG.out (.bool true)).size; have := HZ.out; omega) (.cells #[.int .i64 5, .int .i64 (A' : Int), .int .i64 (B' : Int), .int .u64 xa, .int .u64 xb, .int .u64 xc, .int .u64 xd] 64))
                  clear hea
                  go_wp2_with fail
                  go_roundw
                  case rel => exact ⟨i + 1, by omega, by go_num, Lib.hid (HSTEP.out ▸ HE.out.symm ▸ HP.out), HBP.out⟩
                  case measure => simp [intOf]; omega
                · have d2 : (sym == 258) = false := by simp [s2]
                  have hea : eA S sym i = false := by unfold eA; rw [HSX.out]; simp [*]
                  have HE := Lib.hid (up1_none (S := S) (sym := sym) (T := V) (i := i) HTi.out (by rw [HSX.out]; simp) hea)
                  have HP := HOA
                  have HBP := HBA
                  clear hea
                  go_wp2_with fail
                  go_roundw
                  case rel => exact ⟨i + 1, by omega, by go_num, Lib.hid (HSTEP.out ▸ HE.out.symm ▸ HP.out), HBP.out⟩
                  case measure => simp [intOf]; omega
            · skip
              have hea : eA S sym i = false := by unfold eA; rw [HSX.out]; simp [*]
              have HE := Lib.hid (up1_none (S := S) (sym := sym) (T := V) (i := i) HTi.out (by rw [HSX.out]; simp) hea)
              have HP := HOA
              have HBP := HBA
              clear hea
              go_wp2_with fail
              go_roundw
              case rel => exact ⟨i + 1, by omega, by go_num, Lib.hid (HSTEP.out ▸ HE.out.symm ▸ HP.out), HBP.out⟩
              case measure => simp [intOf]; omega
        · obtain rfl : i = m := by omega
          have HF := Lib.hid (HU.out ▸ HX.out)
          go_wp2_with fail
          go_roundw
          case rel => exact ⟨t + 1, by omega, by go_num, HF, HBx.out⟩
          case measure => simp [intOf]; omega
    · obtain rfl : t = m := by omega
      have HF := Lib.hid (HB1.out.trans (HB.out.mono (Nat.le_succ _)))
      have HO := Lib.hid (owns_mono HV.out (Nat.le_succ w.heap.size))
      go_wp2_with fail
      go_returns
      exact ⟨_, _, rfl, HO.out, HF.out⟩
end Go.Proofs.Ytepegohopgnmnaa
