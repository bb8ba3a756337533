/-
  The walks of show's node.
-/
import Derived.Test.YtjbmkbgoahppfaaDoorPk6
import Derived.Test.YtjbmkbgoahppfaaDoorPk14
import Derived.Deep.RegionHeldLaw
namespace Go.Proofs.YtjbmkbgoahppfaaDoor
open Go.RowKit

/-- A part's cells at a place. -/
def prAt (w : World) (b o : Nat) (k : Int) (s : ByteArray) : Prop := w.cell? ⟨b, o, none⟩ = some (.int .i64 k) ∧ w.cell? ⟨b, o + 1, none⟩ = some (.string s)
theorem prAt.below {w w' : World} {b o B : Nat} {k : Int} {s : ByteArray} (h : prAt w b o k s) (hb : Below B w w') (hB : b < B) : prAt w' b o k s :=
  ⟨by rw [hb.cell (p := ⟨b, o, none⟩) hB]; exact h.1, by rw [hb.cell (p := ⟨b, o + 1, none⟩) hB]; exact h.2⟩
/-- What node tells: a text, and memory of its own. -/
def strPost (s : ByteArray) (w : World) (e : Ending) (w' : World) : Prop := e = .returned (.string s) ∧ Below w.heap.size w w'
@[reducible] def ndr (x : Nd) : Value := .agg #[.int .i64 x.k, .int .u64 x.a, .int .u64 x.b, .int .u64 x.c, .int .u64 x.d, .int .i64 x.lo, .int .i64 x.hi]

/-- A block's cells behind what only adds. -/
theorem cell_far {B : Nat} {w w' : World} (hb : Below B w w') {b o : Nat} {v : Value} (hB : b < B) (h : w.cell? ⟨b, o, none⟩ = some v) : w'.cell? ⟨b, o, none⟩ = some v := by
  rw [hb.cell (p := ⟨b, o, none⟩) hB]; exact h

set_option maxRecDepth 100000 in
set_option maxHeartbeats 4000000 in
theorem node_cat (a b' c d lo hi : Int) (b o cap : Nat) (k0 k1 : Int) (s0 s1 : ByteArray) (z0 : s0.size ≤ 200) (z1 : s1.size ≤ 200) (w : World) (hb : b < w.heap.size) (h0 : prAt w b o k0 s0) (h1 : prAt w b (o + 2) k1 s1) :
    Calls Tryd.prog 28 #[.agg #[.int .i64 5, .int .u64 a, .int .u64 b', .int .u64 c, .int .u64 d, .int .i64 lo, .int .i64 hi], .slice (some ⟨b, o, none⟩) 2 cap] w (strPost (parB (k0 == 6) s0 ++ parB (k1 == 6 || k1 == 5) s1) w) := by
  obtain ⟨W, hW⟩ : ∃ W, w.alloc (.cells #[.int .i64 5, .int .u64 a, .int .u64 b', .int .u64 c, .int .u64 d, .int .i64 lo, .int .i64 hi] 45) = W := ⟨_, rfl⟩
  have hBW : Below w.heap.size w W := hW ▸ (Below.refl _ _).alloc (Nat.le_refl _) _
  have pk : W.cell? ⟨w.heap.size, 0, none⟩ = some (.int .i64 5) := by rw [← hW]; simp
  obtain ⟨p0, p1⟩ := h0.below hBW hb
  obtain ⟨p2, p3⟩ := h1.below hBW hb
  have hbW : b < W.heap.size := by have := hBW.size; omega
  have HBW := Lib.hid hBW
  have hB := Below.refl W.heap.size W
  have hz : (parB (k0 == 6) s0).size ≤ 202 := by have := parB_len (k0 == 6) s0; omega
  have hz1 : (parB (k1 == 6 || k1 == 5) s1).size ≤ 202 := by have := parB_len (k1 == 6 || k1 == 5) s1; omega
  have HG0 := Lib.hid (fun bb w (hbb : bb < w.heap.size) h0 => grp_one k0 s0 (by omega) bb w hbb h0)
  have HG1 := Lib.hid (fun bb w (hbb : bb < w.heap.size) h0 h1 => grp_two k1 s1 (by omega) bb w hbb h0 h1)
  unfold grpPost at HG0 HG1
  generalize parB (k0 == 6) s0 = t0 at *
  generalize parB (k1 == 6 || k1 == 5) s1 = t1 at *
  have g1 : ¬ (9223372036854775807 < t0.size + t1.size) := by omega
  have HK : Hid (∀ w', Below W.heap.size W w' → w'.cell? ⟨b, o, none⟩ = some (.int .i64 k0) ∧ w'.cell? ⟨b, o + 1, none⟩ = some (.string s0) ∧ w'.cell? ⟨b, o + 2, none⟩ = some (.int .i64 k1) ∧ w'.cell? ⟨b, o + 2 + 1, none⟩ = some (.string s1)) :=
    Lib.hid fun w' hb' => ⟨cell_far hb' hbW p0, cell_far hb' hbW p1, cell_far hb' hbW p2, cell_far hb' hbW p3⟩
  clear hBW hz hz1 z0 z1 h0 h1
  go_enter Tryd.func28, Tryd.ntmps28
  go_wp2_with fail
  clear hW
  go_region_held_law (fun w' => w'.cell? ⟨b, o, none⟩ = some (.int .i64 k0) ∧ w'.cell? ⟨b, o + 1, none⟩ = some (.string s0) ∧ w'.cell? ⟨b, o + 2, none⟩ = some (.int .i64 k1) ∧ w'.cell? ⟨b, o + 2 + 1, none⟩ = some (.string s1))
    (first | with_reducible exact HK.out _ hB | with_reducible exact HK.out _ hB.drew | exact HK.out _ (hB.alloc (by exact hB.size) _) | exact HK.out _ (hB.alloc (by exact hB.size) _).drew | exact HK.out _ ((hB.alloc (by exact hB.size) _).alloc (by have := hB.size; first | omega | (simp <;> omega)) _).drew)
    (first
      | (go_at_call 42; (with_reducible refine (HG0.out _ _ ?ta ?tb).mono ?_); (case ta => first | (simp; done) | (simp <;> omega) | (rw [hb'.cell (by first | omega | (simp <;> omega))]; simp; done) | (have := hb'.size; simp at this; first | omega | (simp <;> omega))); (case tb => first | (simp; done) | (simp <;> omega) | (rw [hb'.cell (by first | omega | (simp <;> omega))]; simp; done) | (have := hb'.size; simp at this; first | omega | (simp <;> omega))); rintro e wk ⟨rfl, hb'⟩; (replace hB : Below W.heap.size W wk := by first | exact (hB.alloc (by exact hB.size) _).drew.trans (hb'.mono (by have := hB.size; first | omega | (simp <;> omega))) | exact ((hB.alloc (by exact hB.size) _).alloc (by have := hB.size; first | omega | (simp <;> omega)) _).drew.trans (hb'.mono (by have := hB.size; first | omega | (simp <;> omega))) | exact (hB.alloc (by exact hB.size) _).trans (hb'.mono (by have := hB.size; first | omega | (simp <;> omega))) | exact hB.trans (hb'.mono (by exact hB.size))))
      | (go_at_call 42; (with_reducible refine (HG1.out _ _ ?ta ?tb ?tc).mono ?_); (case ta => first | (simp; done) | (simp <;> omega) | (rw [hb'.cell (by first | omega | (simp <;> omega))]; simp; done) | (have := hb'.size; simp at this; first | omega | (simp <;> omega))); (case tb => first | (simp; done) | (simp <;> omega) | (rw [hb'.cell (by first | omega | (simp <;> omega))]; simp; done) | (have := hb'.size; simp at this; first | omega | (simp <;> omega))); (case tc => first | (simp; done) | (simp <;> omega) | (rw [hb'.cell (by first | omega | (simp <;> omega))]; simp; done) | (have := hb'.size; simp at this; first | omega | (simp <;> omega))); rintro e wk ⟨rfl, hb''⟩; (replace hB : Below W.heap.size W wk := by first | exact (hB.alloc (by exact hB.size) _).drew.trans (hb''.mono (by have := hB.size; first | omega | (simp <;> omega))) | exact ((hB.alloc (by exact hB.size) _).alloc (by have := hB.size; first | omega | (simp <;> omega)) _).drew.trans (hb''.mono (by have := hB.size; first | omega | (simp <;> omega))) | exact (hB.alloc (by exact hB.size) _).trans (hb''.mono (by have := hB.size; first | omega | (simp <;> omega))) | exact hB.trans (hb''.mono (by exact hB.size)))))
  all_goals
    have HF := Lib.hid (HBW.out.trans (hB.mono HBW.out.size))
    clear hB
    go_wp2_with fail
    go_returns
    exact ⟨rfl, HF.out⟩

set_option maxRecDepth 100000 in
set_option maxHeartbeats 4000000 in
theorem node_or (a b' c d lo hi : Int) (b o cap : Nat) (k0 k1 : Int) (s0 s1 : ByteArray) (z0 : s0.size ≤ 200) (z1 : s1.size ≤ 200) (w : World) (hb : b < w.heap.size) (h0 : prAt w b o k0 s0) (h1 : prAt w b (o + 2) k1 s1) :
    Calls Tryd.prog 28 #[.agg #[.int .i64 6, .int .u64 a, .int .u64 b', .int .u64 c, .int .u64 d, .int .i64 lo, .int .i64 hi], .slice (some ⟨b, o, none⟩) 2 cap] w (strPost (s0 ++ ⟨#[124]⟩ ++ parB (k1 == 6) s1) w) := by
  obtain ⟨W, hW⟩ : ∃ W, w.alloc (.cells #[.int .i64 6, .int .u64 a, .int .u64 b', .int .u64 c, .int .u64 d, .int .i64 lo, .int .i64 hi] 45) = W := ⟨_, rfl⟩
  have hBW : Below w.heap.size w W := hW ▸ (Below.refl _ _).alloc (Nat.le_refl _) _
  have pk : W.cell? ⟨w.heap.size, 0, none⟩ = some (.int .i64 6) := by rw [← hW]; simp
  obtain ⟨p0, p1⟩ := h0.below hBW hb
  obtain ⟨p2, p3⟩ := h1.below hBW hb
  have hbW : b < W.heap.size := by have := hBW.size; omega
  have HBW := Lib.hid hBW
  have hB := Below.refl W.heap.size W
  have hz1 : (parB (k1 == 6) s1).size ≤ 202 := by have := parB_len (k1 == 6) s1; omega
  have HG0 := Lib.hid (fun w => grp_none k0 s0 (by omega) w)
  have HG1 := Lib.hid (fun bb w (hbb : bb < w.heap.size) h0 => grp_one k1 s1 (by omega) bb w hbb h0)
  unfold grpPost at HG0 HG1
  change Hid (∀ w, Calls Tryd.prog 42 #[.agg #[.int .i64 k0, .string s0], .slice none 0 0] w fun e w' => e = .returned (.string s0) ∧ Below w.heap.size w w') at HG0
  generalize parB (k1 == 6) s1 = t1 at *
  have g1 : ¬ (9223372036854775807 < s0.size + 1) := by omega
  have g2 : ¬ (9223372036854775807 < s0.size + 1 + t1.size) := by omega
  have HK : Hid (∀ w', Below W.heap.size W w' → w'.cell? ⟨b, o, none⟩ = some (.int .i64 k0) ∧ w'.cell? ⟨b, o + 1, none⟩ = some (.string s0) ∧ w'.cell? ⟨b, o + 2, none⟩ = some (.int .i64 k1) ∧ w'.cell? ⟨b, o + 2 + 1, none⟩ = some (.string s1)) :=
    Lib.hid fun w' hb' => ⟨cell_far hb' hbW p0, cell_far hb' hbW p1, cell_far hb' hbW p2, cell_far hb' hbW p3⟩
  clear hBW hz1 z0 z1 h0 h1
  go_enter Tryd.func28, Tryd.ntmps28
  go_wp2_with fail
  clear hW
  go_region_held_law (fun w' => w'.cell? ⟨b, o, none⟩ = some (.int .i64 k0) ∧ w'.cell? ⟨b, o + 1, none⟩ = some (.string s0) ∧ w'.cell? ⟨b, o + 2, none⟩ = some (.int .i64 k1) ∧ w'.cell? ⟨b, o + 2 + 1, none⟩ = some (.string s1))
    (first | with_reducible exact HK.out _ hB | with_reducible exact HK.out _ hB.drew | exact HK.out _ (hB.alloc (by exact hB.size) _) | exact HK.out _ (hB.alloc (by exact hB.size) _).drew | exact HK.out _ ((hB.alloc (by exact hB.size) _).alloc (by have := hB.size; first | omega | (simp <;> omega)) _).drew)
    (first
      | (go_at_call 42; (with_reducible refine (HG0.out _).mono ?_); rintro e wk ⟨rfl, hb'⟩; (replace hB : Below W.heap.size W wk := by first | exact (hB.alloc (by exact hB.size) _).drew.trans (hb'.mono (by have := hB.size; first | omega | (simp <;> omega))) | exact ((hB.alloc (by exact hB.size) _).alloc (by have := hB.size; first | omega | (simp <;> omega)) _).drew.trans (hb'.mono (by have := hB.size; first | omega | (simp <;> omega))) | exact (hB.alloc (by exact hB.size) _).trans (hb'.mono (by have := hB.size; first | omega | (simp <;> omega))) | exact hB.drew.trans (hb'.mono (by exact hB.size)) | exact hB.trans (hb'.mono (by exact hB.size))))
      | (go_at_call 42; (with_reducible refine (HG1.out _ _ ?ta ?tb).mono ?_); (case ta => first | (simp; done) | (simp <;> omega) | (rw [hb'.cell (by first | omega | (simp <;> omega))]; simp; done) | (have := hb'.size; simp at this; first | omega | (simp <;> omega))); (case tb => first | (simp; done) | (simp <;> omega) | (rw [hb'.cell (by first | omega | (simp <;> omega))]; simp; done) | (have := hb'.size; simp at this; first | omega | (simp <;> omega))); rintro e wk ⟨rfl, hb''⟩; (replace hB : Below W.heap.size W wk := by first | exact (hB.alloc (by exact hB.size) _).drew.trans (hb''.mono (by have := hB.size; first | omega | (simp <;> omega))) | exact ((hB.alloc (by exact hB.size) _).alloc (by have := hB.size; first | omega | (simp <;> omega)) _).drew.trans (hb''.mono (by have := hB.size; first | omega | (simp <;> omega))) | exact (hB.alloc (by exact hB.size) _).trans (hb''.mono (by have := hB.size; first | omega | (simp <;> omega))) | exact hB.drew.trans (hb''.mono (by exact hB.size)) | exact hB.trans (hb''.mono (by exact hB.size)))))
  all_goals
    have HF := Lib.hid (HBW.out.trans (hB.mono HBW.out.size))
    clear hB
    go_wp2_with fail
    go_returns
    exact ⟨rfl, HF.out⟩
end Go.Proofs.YtjbmkbgoahppfaaDoor
