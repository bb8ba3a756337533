/-
  The walks of show's node: a repeat, and nodes without arguments.
-/
import Derived.Test.YtgjpmfdiidkdnaaDoorPk27
import Derived.Test.YtgjpmfdiidkdnaaDoorPk33
namespace Go.Proofs.YtgjpmfdiidkdnaaDoor
open Go.RowKit

set_option maxRecDepth 100000 in
set_option maxHeartbeats 4000000 in
theorem node_rep (a b' c d lo hi : Int) (q1 : 0 ≤ lo) (q2 : lo ≤ 32) (q3 : hi = -1 ∨ (lo ≤ hi ∧ hi ≤ 32)) (b o cap : Nat) (k0 : Int) (s0 : ByteArray) (z0 : s0.size ≤ 200) (w : World) (hb : b < w.heap.size) (h0 : prAt w b o k0 s0) :
    Calls Tryd.prog 16 #[.agg #[.int .i64 7, .int .u64 a, .int .u64 b', .int .u64 c, .int .u64 d, .int .i64 lo, .int .i64 hi], .slice (some ⟨b, o, none⟩) 1 cap] w (strPost (parB (k0 == 6 || k0 == 5) s0 ++ bs (oftL lo hi)) w) := by
  obtain ⟨W, hW⟩ : ∃ W, w.alloc (.cells #[.int .i64 7, .int .u64 a, .int .u64 b', .int .u64 c, .int .u64 d, .int .i64 lo, .int .i64 hi] 45) = W := ⟨_, rfl⟩
  have hBW : Below w.heap.size w W := hW ▸ (Below.refl _ _).alloc (Nat.le_refl _) _
  have pk : W.cell? ⟨w.heap.size, 0, none⟩ = some (.int .i64 7) := by rw [← hW]; simp
  have p2 : W.cell? ⟨w.heap.size, 5, none⟩ = some (.int .i64 lo) := by rw [← hW]; simp
  have p3 : W.cell? ⟨w.heap.size, 6, none⟩ = some (.int .i64 hi) := by rw [← hW]; simp
  have hwW : w.heap.size < W.heap.size := by rw [← hW]; simp
  obtain ⟨p0, p1⟩ := h0.below hBW hb
  have hbW : b < W.heap.size := by have := hBW.size; omega
  have HBW := Lib.hid hBW
  have hB := Below.refl W.heap.size W
  have hz : (parB (k0 == 6 || k0 == 5) s0).size ≤ 202 := by have := parB_len (k0 == 6 || k0 == 5) s0; omega
  have hz1 : (bs (oftL lo hi)).size ≤ 9 := by rw [bs_size]; exact oftL_le lo hi
  have HG0 := Lib.hid (fun bb w (hbb : bb < w.heap.size) h0 h1 => grp_two k0 s0 (by omega) bb w hbb h0 h1)
  have HR := Lib.hid (rpt6_any lo hi q1 q2 q3)
  unfold grpPost at HG0
  generalize parB (k0 == 6 || k0 == 5) s0 = t0 at *
  generalize bs (oftL lo hi) = t1 at *
  have g1 : ¬ (9223372036854775807 < t0.size + t1.size) := by omega
  have HK : Hid (∀ w', Below W.heap.size W w' → w'.cell? ⟨b, o, none⟩ = some (.int .i64 k0) ∧ w'.cell? ⟨b, o + 1, none⟩ = some (.string s0) ∧ w'.cell? ⟨w.heap.size, 5, none⟩ = some (.int .i64 lo) ∧ w'.cell? ⟨w.heap.size, 6, none⟩ = some (.int .i64 hi)) :=
    Lib.hid fun w' hb' => ⟨cell_far hb' hbW p0, cell_far hb' hbW p1, cell_far hb' hwW p2, cell_far hb' hwW p3⟩
  clear hBW hz hz1 z0 h0 q1 q2 q3
  go_enter Tryd.func16, Tryd.ntmps16
  go_wp2_with fail
  clear hW
  go_region_held_law (fun w' => w'.cell? ⟨b, o, none⟩ = some (.int .i64 k0) ∧ w'.cell? ⟨b, o + 1, none⟩ = some (.string s0) ∧ w'.cell? ⟨w.heap.size, 5, none⟩ = some (.int .i64 lo) ∧ w'.cell? ⟨w.heap.size, 6, none⟩ = some (.int .i64 hi))
    (first | with_reducible exact HK.out _ hB | with_reducible exact HK.out _ hB.drew | exact HK.out _ (hB.alloc (by exact hB.size) _) | exact HK.out _ (hB.alloc (by exact hB.size) _).drew | exact HK.out _ ((hB.alloc (by exact hB.size) _).alloc (by have := hB.size; first | omega | (simp <;> omega)) _).drew)
    (first
      | (go_at_call 38; (with_reducible refine (HG0.out _ _ ?ta ?tb ?tc).mono ?_); (case ta => first | (simp; done) | (simp <;> omega) | (rw [hb'.cell (by first | omega | (simp <;> omega))]; simp; done) | (have := hb'.size; simp at this; first | omega | (simp <;> omega))); (case tb => first | (simp; done) | (simp <;> omega) | (rw [hb'.cell (by first | omega | (simp <;> omega))]; simp; done) | (have := hb'.size; simp at this; first | omega | (simp <;> omega))); (case tc => first | (simp; done) | (simp <;> omega) | (rw [hb'.cell (by first | omega | (simp <;> omega))]; simp; done) | (have := hb'.size; simp at this; first | omega | (simp <;> omega))); rintro e wk ⟨rfl, hb'⟩; (replace hB : Below W.heap.size W wk := by first | exact (hB.alloc (by exact hB.size) _).drew.trans (hb'.mono (by have := hB.size; first | omega | (simp <;> omega))) | exact ((hB.alloc (by exact hB.size) _).alloc (by have := hB.size; first | omega | (simp <;> omega)) _).drew.trans (hb'.mono (by have := hB.size; first | omega | (simp <;> omega))) | exact (hB.alloc (by exact hB.size) _).trans (hb'.mono (by have := hB.size; first | omega | (simp <;> omega))) | exact hB.trans (hb'.mono (by exact hB.size))))
      | (go_at_call 39; (with_reducible refine (HR.out _).mono ?_); rintro e wk ⟨rfl, rfl⟩))
  all_goals
    have HF := Lib.hid (HBW.out.trans (hB.mono HBW.out.size))
    clear hB
    go_wp2_with fail
    go_returns
    exact ⟨rfl, HF.out⟩

/-- A node without arguments, as a text. -/
def leafB (x : Nd) : ByteArray := bs (txt (.leaf x))
theorem sv_fOf {x : Nd} (h : okW x) : Value.agg #[.int .u64 x.a, .int .u64 x.b, .int .u64 x.c, .int .u64 x.d] = sv (fOf x) := by
  obtain ⟨e1, e2, e3, e4⟩ := fOf_wd h
  unfold sv
  rw [← e1, ← e2, ← e3, ← e4]
set_option maxRecDepth 100000 in
set_option maxHeartbeats 4000000 in
theorem node_leaf (x : Nd) (hx : okW x) (hk : x.k = 1 ∨ x.k = 2 ∨ x.k = 3 ∨ x.k = 4) (v : Value) (w : World) (hT : Tabbed w) : Calls Tryd.prog 16 #[ndr x, v] w (strPost (leafB x) w) := by
  have HT := Lib.hid hT
  rcases hk with hk | hk | hk | hk
  · have HL : Hid (leafB x = bs (setL (fOf x))) := Lib.hid (by unfold leafB txt; rw [if_pos hk])
    have HS := Lib.hid (fun w hT => cset_any (fOf x) w hT)
    have hsv := sv_fOf hx
    obtain ⟨k, a, b, c, d, lo, hi⟩ := x
    simp only at hk hsv
    subst hk
    rw [← hsv] at HS
    clear hT hsv hx
    go_enter Tryd.func16, Tryd.ntmps16
    go_wp2_with fail
    refine (HS.out _ (HT.out.alloc _)).mono ?_
    rintro e w1 ⟨rfl, hb⟩
    have HB : Hid (Below w.heap.size w w1) := Lib.hid (((Below.refl _ _).alloc (Nat.le_refl _) _).trans (hb.mono (by simp)))
    clear hb
    go_wp2_with fail
    go_returns
    exact ⟨by rw [HL.out] <;> rfl, HB.out⟩
  · have HL : Hid (leafB x = ⟨#[40, 41]⟩) := Lib.hid (by unfold leafB txt; rw [if_neg (by omega), if_pos hk]; rfl)
    obtain ⟨k, a, b, c, d, lo, hi⟩ := x
    simp only at hk
    subst hk
    clear hT hx
    go_enter Tryd.func16, Tryd.ntmps16
    go_wp2_with fail
    go_returns
    exact ⟨by rw [HL.out] <;> rfl, (Below.refl _ _).alloc (Nat.le_refl _) _⟩
  · have HL : Hid (leafB x = ⟨#[94]⟩) := Lib.hid (by unfold leafB txt; rw [if_neg (by omega), if_neg (by omega), if_pos hk]; rfl)
    obtain ⟨k, a, b, c, d, lo, hi⟩ := x
    simp only at hk
    subst hk
    clear hT hx
    go_enter Tryd.func16, Tryd.ntmps16
    go_wp2_with fail
    go_returns
    exact ⟨by rw [HL.out] <;> rfl, (Below.refl _ _).alloc (Nat.le_refl _) _⟩
  · have HL : Hid (leafB x = ⟨#[36]⟩) := Lib.hid (by unfold leafB txt; rw [if_neg (by omega), if_neg (by omega), if_neg (by omega)]; rfl)
    obtain ⟨k, a, b, c, d, lo, hi⟩ := x
    simp only at hk
    subst hk
    clear hT hx
    go_enter Tryd.func16, Tryd.ntmps16
    go_wp2_with fail
    go_returns
    exact ⟨by rw [HL.out] <;> rfl, (Below.refl _ _).alloc (Nat.le_refl _) _⟩
end Go.Proofs.YtgjpmfdiidkdnaaDoor
