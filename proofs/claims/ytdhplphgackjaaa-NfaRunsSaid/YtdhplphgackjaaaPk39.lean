/-
  The walks of facts' states.
-/
import Derived.Test.YtdhplphgackjaaaPk38
import Derived.Deep.RegionHeldLaw
namespace Go.Proofs.Ytdhplphgackjaaa
open Go.RowKit

@[reducible] def ndr7 (x : Nd) : Value := .agg #[.int .i64 x.k, .int .u64 x.a, .int .u64 x.b, .int .u64 x.c, .int .u64 x.d, .int .i64 x.lo, .int .i64 x.hi]
/-- A block's cells behind what only adds. -/
theorem cell_far7 {B : Nat} {w w' : World} (hb : Below B w w') {b o : Nat} {v : Value} (hB : b < B) (h : w.cell? ⟨b, o, none⟩ = some v) : w'.cell? ⟨b, o, none⟩ = some v := by
  rw [hb.cell (p := ⟨b, o, none⟩) hB]; exact h

theorem states_leaf (k : Int) (hk : k = 1 ∨ k = 2 ∨ k = 3 ∨ k = 4) (a b c d lo hi : Int) (v : Value) (w : World) :
    Calls Try.prog 38 #[.agg #[.int .i64 k, .int .u64 a, .int .u64 b, .int .u64 c, .int .u64 d, .int .i64 lo, .int .i64 hi], v] w fun e w' => e = .returned (.int .i64 2) ∧ Below w.heap.size w w' := by
  have HW := Lib.hid ((Below.refl w.heap.size w).alloc (Nat.le_refl _) (.cells #[.int .i64 k, .int .u64 a, .int .u64 b, .int .u64 c, .int .u64 d, .int .i64 lo, .int .i64 hi] 56))
  have e5 : (k == 5) = false := beq_eq_false_iff_ne.2 (by omega)
  have e6 : (k == 6) = false := beq_eq_false_iff_ne.2 (by omega)
  have e7 : (k == 7) = false := beq_eq_false_iff_ne.2 (by omega)
  clear hk
  go_enter Try.func38, Try.ntmps38
  go_wp2_with fail
  go_returns
  exact ⟨rfl, HW.out⟩

set_option maxRecDepth 100000 in
set_option maxHeartbeats 2000000 in
theorem states_cat (a b' c d lo hi : Int) (b o cap : Nat) (p q D : Int) (w : World) (hb : b < w.heap.size) (h0 : w.cell? ⟨b, o, none⟩ = some (.int .i64 p)) (h1 : w.cell? ⟨b, o + 1, none⟩ = some (.int .i64 q))
    (_g : IntKind.i64.wrap (p + q) = p + q) (HC : ∀ w, Calls Try.prog 60 #[.int .i64 (p + q)] w fun e w' => e = .returned (.int .i64 D) ∧ w' = w) :
    Calls Try.prog 38 #[.agg #[.int .i64 5, .int .u64 a, .int .u64 b', .int .u64 c, .int .u64 d, .int .i64 lo, .int .i64 hi], .slice (some ⟨b, o, none⟩) 2 cap] w fun e w' => e = .returned (.int .i64 D) ∧ Below w.heap.size w w' := by
  obtain ⟨W, hW⟩ : ∃ W, w.alloc (.cells #[.int .i64 5, .int .u64 a, .int .u64 b', .int .u64 c, .int .u64 d, .int .i64 lo, .int .i64 hi] 56) = W := ⟨_, rfl⟩
  have hBW : Below w.heap.size w W := hW ▸ (Below.refl _ _).alloc (Nat.le_refl _) _
  have pk : W.cell? ⟨w.heap.size, 0, none⟩ = some (.int .i64 5) := by rw [← hW]; simp
  have p0 := cell_far7 hBW hb h0
  have p1 := cell_far7 hBW hb h1
  have HBW := Lib.hid hBW
  have HCh := Lib.hid HC
  clear hBW h0 h1 HC
  go_enter Try.func38, Try.ntmps38
  go_wp2_with fail
  clear hW
  go_region_held_law (fun w' => w'.cell? ⟨b, o, none⟩ = some (.int .i64 p) ∧ w'.cell? ⟨b, o + 1, none⟩ = some (.int .i64 q)) (exact ⟨p0, p1⟩)
    (first | (go_at_call 60; (with_reducible refine (HCh.out _).mono ?_); rintro e wk ⟨rfl, rfl⟩))
  all_goals
    go_wp2_with fail
    go_returns
    exact ⟨rfl, HBW.out.drew⟩

set_option maxRecDepth 100000 in
set_option maxHeartbeats 2000000 in
theorem states_or (a b' c d lo hi : Int) (b o cap : Nat) (p q D : Int) (w : World) (hb : b < w.heap.size) (h0 : w.cell? ⟨b, o, none⟩ = some (.int .i64 p)) (h1 : w.cell? ⟨b, o + 1, none⟩ = some (.int .i64 q))
    (_g : IntKind.i64.wrap (p + q) = p + q) (_g2 : IntKind.i64.wrap (p + q + 2) = p + q + 2) (HC : ∀ w, Calls Try.prog 60 #[.int .i64 (p + q + 2)] w fun e w' => e = .returned (.int .i64 D) ∧ w' = w) :
    Calls Try.prog 38 #[.agg #[.int .i64 6, .int .u64 a, .int .u64 b', .int .u64 c, .int .u64 d, .int .i64 lo, .int .i64 hi], .slice (some ⟨b, o, none⟩) 2 cap] w fun e w' => e = .returned (.int .i64 D) ∧ Below w.heap.size w w' := by
  obtain ⟨W, hW⟩ : ∃ W, w.alloc (.cells #[.int .i64 6, .int .u64 a, .int .u64 b', .int .u64 c, .int .u64 d, .int .i64 lo, .int .i64 hi] 56) = W := ⟨_, rfl⟩
  have hBW : Below w.heap.size w W := hW ▸ (Below.refl _ _).alloc (Nat.le_refl _) _
  have pk : W.cell? ⟨w.heap.size, 0, none⟩ = some (.int .i64 6) := by rw [← hW]; simp
  have p0 := cell_far7 hBW hb h0
  have p1 := cell_far7 hBW hb h1
  have HBW := Lib.hid hBW
  have HCh := Lib.hid HC
  clear hBW h0 h1 HC
  go_enter Try.func38, Try.ntmps38
  go_wp2_with fail
  clear hW
  go_region_held_law (fun w' => w'.cell? ⟨b, o, none⟩ = some (.int .i64 p) ∧ w'.cell? ⟨b, o + 1, none⟩ = some (.int .i64 q)) (exact ⟨p0, p1⟩)
    (first | (go_at_call 60; (with_reducible refine (HCh.out _).mono ?_); rintro e wk ⟨rfl, rfl⟩))
  all_goals
    go_wp2_with fail
    go_returns
    exact ⟨rfl, HBW.out.drew⟩

set_option maxRecDepth 100000 in
set_option maxHeartbeats 2000000 in
theorem states_inf (a b' c d lo : Int) (b o cap : Nat) (p D : Int) (w : World) (hb : b < w.heap.size) (h0 : w.cell? ⟨b, o, none⟩ = some (.int .i64 p))
    (_g : IntKind.i64.wrap (lo * p) = lo * p) (_g2 : IntKind.i64.wrap (2 + lo * p) = 2 + lo * p) (_g3 : IntKind.i64.wrap (2 + lo * p + p) = 2 + lo * p + p) (_g4 : IntKind.i64.wrap (2 + lo * p + p + 1) = 2 + lo * p + p + 1)
    (HC : ∀ w, Calls Try.prog 60 #[.int .i64 (2 + lo * p + p + 1)] w fun e w' => e = .returned (.int .i64 D) ∧ w' = w) :
    Calls Try.prog 38 #[.agg #[.int .i64 7, .int .u64 a, .int .u64 b', .int .u64 c, .int .u64 d, .int .i64 lo, .int .i64 (-1)], .slice (some ⟨b, o, none⟩) 1 cap] w fun e w' => e = .returned (.int .i64 D) ∧ Below w.heap.size w w' := by
  obtain ⟨W, hW⟩ : ∃ W, w.alloc (.cells #[.int .i64 7, .int .u64 a, .int .u64 b', .int .u64 c, .int .u64 d, .int .i64 lo, .int .i64 (-1)] 56) = W := ⟨_, rfl⟩
  have hBW : Below w.heap.size w W := hW ▸ (Below.refl _ _).alloc (Nat.le_refl _) _
  have pk : W.cell? ⟨w.heap.size, 0, none⟩ = some (.int .i64 7) := by rw [← hW]; simp
  have p5 : W.cell? ⟨w.heap.size, 5, none⟩ = some (.int .i64 lo) := by rw [← hW]; simp
  have p6 : W.cell? ⟨w.heap.size, 6, none⟩ = some (.int .i64 (-1)) := by rw [← hW]; simp
  have p0 := cell_far7 hBW hb h0
  have HBW := Lib.hid hBW
  have HCh := Lib.hid HC
  clear hBW h0 HC
  go_enter Try.func38, Try.ntmps38
  go_wp2_with fail
  clear hW
  go_region_held_law (fun w' => w'.cell? ⟨b, o, none⟩ = some (.int .i64 p) ∧ w'.cell? ⟨w.heap.size, 5, none⟩ = some (.int .i64 lo)) (exact ⟨p0, p5⟩) (fail)
  all_goals
    have P0 : W.drew.cell? ⟨b, o, none⟩ = some (.int .i64 p) := p0
    have P6 : W.drew.cell? ⟨w.heap.size, 6, none⟩ = some (.int .i64 (-1)) := p6
    go_wp2_with ((go_at_call 60; (with_reducible refine (HCh.out _).mono ?_); rintro e wk ⟨rfl, rfl⟩))
    go_returns
    exact ⟨rfl, HBW.out.drew⟩

set_option maxRecDepth 100000 in
set_option maxHeartbeats 2000000 in
theorem states_rep (a b' c d lo hi : Int) (b o cap : Nat) (p D : Int) (w : World) (hb : b < w.heap.size) (h0 : w.cell? ⟨b, o, none⟩ = some (.int .i64 p)) (_e : (hi == -1) = false)
    (_g : IntKind.i64.wrap (lo * p) = lo * p) (_g2 : IntKind.i64.wrap (2 + lo * p) = 2 + lo * p) (_g3 : IntKind.i64.wrap (hi - lo) = hi - lo) (_g4 : IntKind.i64.wrap (p + 1) = p + 1) (_g5 : IntKind.i64.wrap ((hi - lo) * (p + 1)) = (hi - lo) * (p + 1)) (_g6 : IntKind.i64.wrap (2 + lo * p + (hi - lo) * (p + 1)) = 2 + lo * p + (hi - lo) * (p + 1))
    (HC : ∀ w, Calls Try.prog 60 #[.int .i64 (2 + lo * p + (hi - lo) * (p + 1))] w fun e w' => e = .returned (.int .i64 D) ∧ w' = w) :
    Calls Try.prog 38 #[.agg #[.int .i64 7, .int .u64 a, .int .u64 b', .int .u64 c, .int .u64 d, .int .i64 lo, .int .i64 hi], .slice (some ⟨b, o, none⟩) 1 cap] w fun e w' => e = .returned (.int .i64 D) ∧ Below w.heap.size w w' := by
  obtain ⟨W, hW⟩ : ∃ W, w.alloc (.cells #[.int .i64 7, .int .u64 a, .int .u64 b', .int .u64 c, .int .u64 d, .int .i64 lo, .int .i64 hi] 56) = W := ⟨_, rfl⟩
  have hBW : Below w.heap.size w W := hW ▸ (Below.refl _ _).alloc (Nat.le_refl _) _
  have pk : W.cell? ⟨w.heap.size, 0, none⟩ = some (.int .i64 7) := by rw [← hW]; simp
  have p5 : W.cell? ⟨w.heap.size, 5, none⟩ = some (.int .i64 lo) := by rw [← hW]; simp
  have p6 : W.cell? ⟨w.heap.size, 6, none⟩ = some (.int .i64 hi) := by rw [← hW]; simp
  have p0 := cell_far7 hBW hb h0
  have HBW := Lib.hid hBW
  have HCh := Lib.hid HC
  clear hBW h0 HC
  go_enter Try.func38, Try.ntmps38
  go_wp2_with fail
  clear hW
  go_region_held_law (fun w' => w'.cell? ⟨b, o, none⟩ = some (.int .i64 p) ∧ w'.cell? ⟨w.heap.size, 5, none⟩ = some (.int .i64 lo)) (exact ⟨p0, p5⟩) (fail)
  all_goals
    have P0 : W.drew.cell? ⟨b, o, none⟩ = some (.int .i64 p) := p0
    have P5 : W.drew.cell? ⟨w.heap.size, 5, none⟩ = some (.int .i64 lo) := p5
    have P6 : W.drew.cell? ⟨w.heap.size, 6, none⟩ = some (.int .i64 hi) := p6
    have HB2 := Lib.hid HBW.out.drew
    clear p0 p5 p6 pk
    generalize W.drew = W2 at *
    go_wp2_with fail
    go_region_held_law (fun w' => w'.cell? ⟨b, o, none⟩ = some (.int .i64 p) ∧ w'.cell? ⟨w.heap.size, 5, none⟩ = some (.int .i64 lo) ∧ w'.cell? ⟨w.heap.size, 6, none⟩ = some (.int .i64 hi)) (exact ⟨P0, P5, P6⟩)
      (first | (go_at_call 60; (with_reducible refine (HCh.out _).mono ?_); rintro e wk ⟨rfl, rfl⟩))
    all_goals
      go_wp2_with fail
      go_returns
      exact ⟨rfl, HB2.out.drew⟩
end Go.Proofs.Ytdhplphgackjaaa
