/-
  The walk of dfa.goingTo: where a state goes by some classes.
  Sets that are put to a slice of sets; numbers that are put to a list beside it.
-/
import Derived.Test.YtefpoapbodbenaaPk14
import Derived.Test.YtefpoapbodbenaaPk10
import Derived.Test.YtefpoapbodbenaaPk9
import Derived.Test.YtefpoapbodbenaaPk5
namespace Go.Proofs.Ytefpoapbodbenaa
open Go.RowKit

/-- Where a state goes by a class. -/
def gtF (x : Da) (s C : Nat) : Nat := (x.l1 (s * x.wd.toNat + C)).toNat
theorem goD_gt (x : Da) (s y : Nat) : goD x s y = gtF x s (x.l0 y).toNat := rfl
theorem gtF_at {x : Da} (h : rgD x) {s C : Nat} (hs : s < x.n2) (hC : (C : Int) < x.wd) : s * x.wd.toNat + C < x.n1 ∧ x.l1 (s * x.wd.toNat + C) = (gtF x s C : Nat) ∧ gtF x s C < x.n2 := by
  obtain ⟨-, h1, h2, h3, h4, h5, -, -, h6, h7⟩ := h
  unfold gtF
  obtain ⟨W, hW⟩ : ∃ W : Nat, x.wd = W := ⟨x.wd.toNat, by omega⟩
  rw [hW] at hC h5 ⊢
  rw [Int.toNat_natCast]
  have e : C < W := by omega
  have h8 : x.n1 = x.n2 * W := by exact_mod_cast h5
  have h9 : (s + 1) * W ≤ x.n2 * W := Nat.mul_le_mul_right W hs
  rw [Nat.succ_mul] at h9
  have h10 : s * W + C < x.n1 := by omega
  have h11 := h7 _ h10
  exact ⟨h10, by omega, by omega⟩

set_option maxRecDepth 100000 in
set_option maxHeartbeats 8000000 in
theorem going12 (v : Value) (x : Da) (s : Nat) (q : Option Addr) (n c : Nat) (f : Nat → Int) (w : World) (hs : smD x) (hx : rgD x) (hst : s < x.n2) (hn : n ≤ 259) (hf : ∀ i, i < n → 0 ≤ f i ∧ f i < x.wd) (hd : daAt w v x) (hl : rdL w q n f) :
    Calls Try.prog 61 #[v, .int .i64 (s : Int), .slice q n c] w fun e w' => ∃ p c', e = .returned (.slice p n c') ∧ spF w' w.heap.size (.slice p n c') (fun i => (gtF x s (f i).toNat : Nat)) n ∧ Below w.heap.size w w' := by
  obtain ⟨D, hD⟩ : ∃ D, w.heap.size = D := ⟨_, rfl⟩
  obtain ⟨q0, c0, q1, c1, q2, c2, rfl, hr0, hr1, -⟩ := hd
  obtain ⟨w1, hw1⟩ : ∃ w1, w.alloc (.cells #[.slice q0 x.n0 c0, .int .i64 x.wd, .int .i64 x.st, .slice q1 x.n1 c1, .slice q2 x.n2 c2] 25) = w1 := ⟨_, rfl⟩
  have hz1 : w1.heap.size = D + 1 := by rw [← hw1, World.size_alloc, hD]
  have hb1 : Below D w w1 := hw1 ▸ (Below.refl _ _).alloc (by omega) _
  have hk1 : isDf w1 D q0 x.n0 c0 x.wd x.st q1 x.n1 c1 q2 x.n2 c2 := hw1 ▸ hD ▸ heap_alloc_new w _
  obtain ⟨W, hW⟩ : ∃ W : Nat, x.wd = W := ⟨x.wd.toNat, by have := hx.2.1; omega⟩
  have hWl : W ≤ 259 := by have := hx.2.2.1; omega
  have HAT : Hid (∀ C : Nat, C < W → s * W + C < x.n1 ∧ x.l1 (s * W + C) = (gtF x s C : Nat) ∧ gtF x s C < x.n2) := Lib.hid fun C hC => by
    have h := gtF_at (s := s) (C := C) hx hst (by rw [hW]; omega)
    rw [hW, Int.toNat_natCast] at h
    exact h
  have HFI : Hid (∀ i, i < n → ∃ C : Nat, f i = C ∧ C < W) := Lib.hid fun i hi => by
    obtain ⟨h1, h2⟩ := hf i hi
    exact ⟨(f i).toNat, by omega, by omega⟩
  rw [hW] at hk1 hw1 ⊢
  have HK := Lib.hid (fun w' (h : Below (D + 1) w1 w') => (hk1.below h (Nat.lt_succ_self D)).cells)
  have HR1 := Lib.hid (fun w' (h : Below (D + 1) w1 w') => hr1.below (hD.symm ▸ hb1.trans (h.mono (Nat.le_succ D))))
  have HL := Lib.hid (fun w' (h : Below (D + 1) w1 w') => hl.below (hD.symm ▸ hb1.trans (h.mono (Nat.le_succ D))))
  have HW1 := Lib.hid hw1; have HZ := Lib.hid hz1; have HG := Lib.hid hD
  have HF : Hid (∀ w', Below (D + 1) w1 w' → Below w.heap.size w w') := Lib.hid fun w' h => by rw [hD]; exact hb1.trans (h.mono (by omega))
  have HP0 : Hid (spF w1 (D + 1) (.slice none 0 0) (fun i => ((gtF x s (f i).toNat : Nat) : Int)) 0) := Lib.hid (spF_zero _ _ _)
  have hn1 : (x.n1 : Int) ≤ 100000 := by have := hs.2.1; omega
  obtain ⟨p, hp⟩ : ∃ p, s * W = p := ⟨_, rfl⟩
  have hmul : (s : Int) * (W : Int) = (p : Int) := by rw [← hp]; simp
  rw [hp] at HAT
  have p0 : (0 : Int) ≤ (p : Int) := by omega
  have n0 : (0 : Int) ≤ (n : Int) := by omega
  clear hw1 hb1 hk1 hr0 hr1 hl hx hs hf hW hp hz1
  go_enter Try.func61, Try.ntmps61
  go_upto_region 1 with (fail)
  rw [HW1.out]
  clear hD
  go_wp2_with fail
  go_loopw [7, 12] (fun av iv wr => ∃ (i : Nat) (vn : Value), i ≤ n ∧ iv = .int .i64 i ∧ vn = av ∧ Hid (spF wr (D + 1) vn (fun i => ((gtF x s (f i).toNat : Nat) : Int)) i) ∧ Hid (Below (D + 1) w1 wr)) (fun _ iv _ => n - (intOf iv).toNat)
  case atStart => exact ⟨0, _, Nat.zero_le _, rfl, rfl, HP0, Lib.hid (Below.refl _ _)⟩
  case round =>
    clear HP0
    obtain ⟨i, vn, hi, rfl, rfl, HX, HB⟩ := hrel
    by_cases hlt : i < n
    · have i0 : (0 : Int) ≤ (i : Int) := by omega
      have i1 : (i : Int) < (n : Int) := by omega
      obtain ⟨b, o, rfl, hb, hc⟩ := HL.out _ HB.out i hlt
      obtain ⟨C, hC, hCW⟩ := HFI.out i hlt
      rw [hC] at hc
      have HFC : Hid (((gtF x s (f i).toNat : Nat) : Int) = (gtF x s C : Nat)) := Lib.hid (by rw [hC, Int.toNat_natCast])
      obtain ⟨y0, y1, y2, y3, y4⟩ := HK.out _ HB.out
      obtain ⟨g1, g2, g3⟩ := HAT.out C hCW
      obtain ⟨b1, o1, rfl, -, k1⟩ := HR1.out _ HB.out _ g1
      rw [g2] at k1
      obtain ⟨t, ht⟩ : ∃ t, gtF x s C = t := ⟨_, rfl⟩
      rw [ht] at k1 HFC
      have p1 : (p : Int) + (C : Int) < (x.n1 : Int) := by omega
      have p2 : (0 : Int) ≤ (p : Int) + (C : Int) := by omega
      have p4 : ((p : Int) + (C : Int)).toNat = p + C := by omega
      have HAL : Hid (Below wr.heap.size wr (wr.alloc (.cells #[.int .i64 (t : Int)] 3))) := Lib.hid ((Below.refl _ _).alloc (Nat.le_refl _) _)
      have hBr : D + 1 ≤ wr.heap.size := by have := HB.out.size; have := HZ.out; omega
      have HXA := Lib.hid (HX.out.below HAL.out)
      have HBA : Hid (Below (D + 1) w1 (wr.alloc (.cells #[.int .i64 (t : Int)] 3))) := Lib.hid (HB.out.trans (HAL.out.mono hBr))
      have hni : i ≤ 10000 := by omega
      clear hb hC g1 g2 g3 ht HX HB HAL
      go_wp2_with (at_builtin; refine append_fn rfl _ _ rfl (D + 1) vn _ i rfl HXA.out wr.heap.size (t : Int) HFC.out rfl (by simp) hni (by rw [World.size_alloc]; omega) ?_)
      intro v7 w7 hn7 hg7
      have HX7 := Lib.hid hn7
      have HB7 : Hid (Below (D + 1) w1 w7) := Lib.hid (HBA.out.grown hg7 (by rw [World.size_alloc]; omega) (fun r hr => (World.ownsRow.lt HXA.out r hr).1))
      clear hn7 hg7 HXA HBA
      go_wp2_with fail
      go_roundw
      case rel => exact ⟨i + 1, _, by omega, by go_num, rfl, HX7, HB7⟩
      case measure => simp [intOf]; omega
    · obtain rfl : i = n := by omega
      obtain ⟨pp, cc, rfl⟩ := spF_of HX.out
      have HE := Lib.hid (show spF wr w.heap.size (.slice pp i cc) (fun i => ((gtF x s (f i).toNat : Nat) : Int)) i from by
        have h := HX.out
        have hg := HG.out
        unfold spF at h ⊢
        refine ⟨h.1, ?_⟩
        rcases h.2 with h2 | ⟨g, cap, cur, e, hgl, h3⟩
        · exact .inl h2
        · exact .inr ⟨g, cap, cur, e, by omega, h3⟩)
      have HBF := Lib.hid (HF.out _ HB.out)
      clear HX HB
      go_wp2_with fail
      go_returns
      exact ⟨pp, cc, rfl, HE.out, HBF.out⟩
end Go.Proofs.Ytefpoapbodbenaa

namespace Go.Proofs.Ytefpoapbodbenaa
open Go.RowKit

theorem spO.rd11 {w : World} {base : Nat} {p : Option Addr} {c : Nat} {B : List Nat} (h : spO w base (.slice p B.length c) B) : rdL w p B.length (fun j => ((B.getD j 0 : Nat) : Int)) := fun j hj => by
  rcases id h.2 with ⟨_, e⟩ | ⟨g, cp, cur, e, _⟩
  · omega
  · cases e
    refine ⟨g, 0, rfl, (World.ownsRow.lt h g rfl).2, ?_⟩
    rw [Nat.zero_add, World.ownsRow.cellAt h j (by omega)]
    simp [spl9, List.getD_eq_getElem?_getD, hj]
end Go.Proofs.Ytefpoapbodbenaa
