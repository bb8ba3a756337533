/-
  The walks of facts' states.
  The parts that are nobody's argument yet (a stack, as the code has it). Plain facts; a row cut short.
  What facts' told and states tell at a node of a tree, where what its arguments told lies in memory.
-/
import Derived.Test.YtepegohopgnmnaaPk39
import Derived.Deep.RegionHeldLaw
import Derived.Test.YtepegohopgnmnaaPk3
import Derived.Test.YtepegohopgnmnaaPk4
namespace Go.Proofs.Ytepegohopgnmnaa
open Go.RowKit

@[reducible] def ndr7 (x : Nd) : Value := .agg #[.int .i64 x.k, .int .u64 x.a, .int .u64 x.b, .int .u64 x.c, .int .u64 x.d, .int .i64 x.lo, .int .i64 x.hi]
/-- A block's cells behind what only adds. -/
theorem cell_far7 {B : Nat} {w w' : World} (hb : Below B w w') {b o : Nat} {v : Value} (hB : b < B) (h : w.cell? ⟨b, o, none⟩ = some v) : w'.cell? ⟨b, o, none⟩ = some v := by
  rw [hb.cell (p := ⟨b, o, none⟩) hB]; exact h

theorem states_leaf (k : Int) (hk : k = 1 ∨ k = 2 ∨ k = 3 ∨ k = 4) (a b c d lo hi : Int) (v : Value) (w : World) :
    Calls Try.prog 54 #[.agg #[.int .i64 k, .int .u64 a, .int .u64 b, .int .u64 c, .int .u64 d, .int .i64 lo, .int .i64 hi], v] w fun e w' => e = .returned (.int .i64 2) ∧ Below w.heap.size w w' := by
  have HW := Lib.hid ((Below.refl w.heap.size w).alloc (Nat.le_refl _) (.cells #[.int .i64 k, .int .u64 a, .int .u64 b, .int .u64 c, .int .u64 d, .int .i64 lo, .int .i64 hi] 71))
  have e5 : (k == 5) = false := beq_eq_false_iff_ne.2 (by omega)
  have e6 : (k == 6) = false := beq_eq_false_iff_ne.2 (by omega)
  have e7 : (k == 7) = false := beq_eq_false_iff_ne.2 (by omega)
  clear hk
  go_enter Try.func54, Try.ntmps54
  go_wp2_with fail
  go_returns
  exact ⟨rfl, HW.out⟩

set_option maxRecDepth 100000 in
set_option maxHeartbeats 2000000 in
theorem states_cat (a b' c d lo hi : Int) (b o cap : Nat) (p q D : Int) (w : World) (hb : b < w.heap.size) (h0 : w.cell? ⟨b, o, none⟩ = some (.int .i64 p)) (h1 : w.cell? ⟨b, o + 1, none⟩ = some (.int .i64 q))
    (_g : IntKind.i64.wrap (p + q) = p + q) (HC : ∀ w, Calls Try.prog 73 #[.int .i64 (p + q)] w fun e w' => e = .returned (.int .i64 D) ∧ w' = w) :
    Calls Try.prog 54 #[.agg #[.int .i64 5, .int .u64 a, .int .u64 b', .int .u64 c, .int .u64 d, .int .i64 lo, .int .i64 hi], .slice (some ⟨b, o, none⟩) 2 cap] w fun e w' => e = .returned (.int .i64 D) ∧ Below w.heap.size w w' := by
  obtain ⟨W, hW⟩ : ∃ W, w.alloc (.cells #[.int .i64 5, .int .u64 a, .int .u64 b', .int .u64 c, .int .u64 d, .int .i64 lo, .int .i64 hi] 71) = W := ⟨_, rfl⟩
  have hBW : Below w.heap.size w W := hW ▸ (Below.refl _ _).alloc (Nat.le_refl _) _
  have pk : W.cell? ⟨w.heap.size, 0, none⟩ = some (.int .i64 5) := by rw [← hW]; simp
  have p0 := cell_far7 hBW hb h0
  have p1 := cell_far7 hBW hb h1
  have HBW := Lib.hid hBW
  have HCh := Lib.hid HC
  clear hBW h0 h1 HC
  go_enter Try.func54, Try.ntmps54
  go_wp2_with fail
  clear hW
  go_region_held_law (fun w' => w'.cell? ⟨b, o, none⟩ = some (.int .i64 p) ∧ w'.cell? ⟨b, o + 1, none⟩ = some (.int .i64 q)) (exact ⟨p0, p1⟩)
    (first | (go_at_call 73; (with_reducible refine (HCh.out _).mono ?_); rintro e wk ⟨rfl, rfl⟩))
  all_goals
    go_wp2_with fail
    go_returns
    exact ⟨rfl, HBW.out.drew⟩

set_option maxRecDepth 100000 in
set_option maxHeartbeats 2000000 in
theorem states_or (a b' c d lo hi : Int) (b o cap : Nat) (p q D : Int) (w : World) (hb : b < w.heap.size) (h0 : w.cell? ⟨b, o, none⟩ = some (.int .i64 p)) (h1 : w.cell? ⟨b, o + 1, none⟩ = some (.int .i64 q))
    (_g : IntKind.i64.wrap (p + q) = p + q) (_g2 : IntKind.i64.wrap (p + q + 2) = p + q + 2) (HC : ∀ w, Calls Try.prog 73 #[.int .i64 (p + q + 2)] w fun e w' => e = .returned (.int .i64 D) ∧ w' = w) :
    Calls Try.prog 54 #[.agg #[.int .i64 6, .int .u64 a, .int .u64 b', .int .u64 c, .int .u64 d, .int .i64 lo, .int .i64 hi], .slice (some ⟨b, o, none⟩) 2 cap] w fun e w' => e = .returned (.int .i64 D) ∧ Below w.heap.size w w' := by
  obtain ⟨W, hW⟩ : ∃ W, w.alloc (.cells #[.int .i64 6, .int .u64 a, .int .u64 b', .int .u64 c, .int .u64 d, .int .i64 lo, .int .i64 hi] 71) = W := ⟨_, rfl⟩
  have hBW : Below w.heap.size w W := hW ▸ (Below.refl _ _).alloc (Nat.le_refl _) _
  have pk : W.cell? ⟨w.heap.size, 0, none⟩ = some (.int .i64 6) := by rw [← hW]; simp
  have p0 := cell_far7 hBW hb h0
  have p1 := cell_far7 hBW hb h1
  have HBW := Lib.hid hBW
  have HCh := Lib.hid HC
  clear hBW h0 h1 HC
  go_enter Try.func54, Try.ntmps54
  go_wp2_with fail
  clear hW
  go_region_held_law (fun w' => w'.cell? ⟨b, o, none⟩ = some (.int .i64 p) ∧ w'.cell? ⟨b, o + 1, none⟩ = some (.int .i64 q)) (exact ⟨p0, p1⟩)
    (first | (go_at_call 73; (with_reducible refine (HCh.out _).mono ?_); rintro e wk ⟨rfl, rfl⟩))
  all_goals
    go_wp2_with fail
    go_returns
    exact ⟨rfl, HBW.out.drew⟩

set_option maxRecDepth 100000 in
set_option maxHeartbeats 2000000 in
theorem states_inf (a b' c d lo : Int) (b o cap : Nat) (p D : Int) (w : World) (hb : b < w.heap.size) (h0 : w.cell? ⟨b, o, none⟩ = some (.int .i64 p))
    (_g : IntKind.i64.wrap (lo * p) = lo * p) (_g2 : IntKind.i64.wrap (2 + lo * p) = 2 + lo * p) (_g3 : IntKind.i64.wrap (2 + lo * p + p) = 2 + lo * p + p) (_g4 : IntKind.i64.wrap (2 + lo * p + p + 1) = 2 + lo * p + p + 1)
    (HC : ∀ w, Calls Try.prog 73 #[.int .i64 (2 + lo * p + p + 1)] w fun e w' => e = .returned (.int .i64 D) ∧ w' = w) :
    Calls Try.prog 54 #[.agg #[.int .i64 7, .int .u64 a, .int .u64 b', .int .u64 c, .int .u64 d, .int .i64 lo, .int .i64 (-1)], .slice (some ⟨b, o, none⟩) 1 cap] w fun e w' => e = .returned (.int .i64 D) ∧ Below w.heap.size w w' := by
  obtain ⟨W, hW⟩ : ∃ W, w.alloc (.cells #[.int .i64 7, .int .u64 a, .int .u64 b', .int .u64 c, .int .u64 d, .int .i64 lo, .int .i64 (-1)] 71) = W := ⟨_, rfl⟩
  have hBW : Below w.heap.size w W := hW ▸ (Below.refl _ _).alloc (Nat.le_refl _) _
  have pk : W.cell? ⟨w.heap.size, 0, none⟩ = some (.int .i64 7) := by rw [← hW]; simp
  have p5 : W.cell? ⟨w.heap.size, 5, none⟩ = some (.int .i64 lo) := by rw [← hW]; simp
  have p6 : W.cell? ⟨w.heap.size, 6, none⟩ = some (.int .i64 (-1)) := by rw [← hW]; simp
  have p0 := cell_far7 hBW hb h0
  have HBW := Lib.hid hBW
  have HCh := Lib.hid HC
  clear hBW h0 HC
  go_enter Try.func54, Try.ntmps54
  go_wp2_with fail
  clear hW
  go_region_held_law (fun w' => w'.cell? ⟨b, o, none⟩ = some (.int .i64 p) ∧ w'.cell? ⟨w.heap.size, 5, none⟩ = some (.int .i64 lo)) (exact ⟨p0, p5⟩) (fail)
  all_goals
    have P0 : W.drew.cell? ⟨b, o, none⟩ = some (.int .i64 p) := p0
    have P6 : W.drew.cell? ⟨w.heap.size, 6, none⟩ = some (.int .i64 (-1)) := p6
    go_wp2_with ((go_at_call 73; (with_reducible refine (HCh.out _).mono ?_); rintro e wk ⟨rfl, rfl⟩))
    go_returns
    exact ⟨rfl, HBW.out.drew⟩

set_option maxRecDepth 100000 in
set_option maxHeartbeats 2000000 in
theorem states_rep (a b' c d lo hi : Int) (b o cap : Nat) (p D : Int) (w : World) (hb : b < w.heap.size) (h0 : w.cell? ⟨b, o, none⟩ = some (.int .i64 p)) (_e : (hi == -1) = false)
    (_g : IntKind.i64.wrap (lo * p) = lo * p) (_g2 : IntKind.i64.wrap (2 + lo * p) = 2 + lo * p) (_g3 : IntKind.i64.wrap (hi - lo) = hi - lo) (_g4 : IntKind.i64.wrap (p + 1) = p + 1) (_g5 : IntKind.i64.wrap ((hi - lo) * (p + 1)) = (hi - lo) * (p + 1)) (_g6 : IntKind.i64.wrap (2 + lo * p + (hi - lo) * (p + 1)) = 2 + lo * p + (hi - lo) * (p + 1))
    (HC : ∀ w, Calls Try.prog 73 #[.int .i64 (2 + lo * p + (hi - lo) * (p + 1))] w fun e w' => e = .returned (.int .i64 D) ∧ w' = w) :
    Calls Try.prog 54 #[.agg #[.int .i64 7, .int .u64 a, .int .u64 b', .int .u64 c, .int .u64 d, .int .i64 lo, .int .i64 hi], .slice (some ⟨b, o, none⟩) 1 cap] w fun e w' => e = .returned (.int .i64 D) ∧ Below w.heap.size w w' := by
  obtain ⟨W, hW⟩ : ∃ W, w.alloc (.cells #[.int .i64 7, .int .u64 a, .int .u64 b', .int .u64 c, .int .u64 d, .int .i64 lo, .int .i64 hi] 71) = W := ⟨_, rfl⟩
  have hBW : Below w.heap.size w W := hW ▸ (Below.refl _ _).alloc (Nat.le_refl _) _
  have pk : W.cell? ⟨w.heap.size, 0, none⟩ = some (.int .i64 7) := by rw [← hW]; simp
  have p5 : W.cell? ⟨w.heap.size, 5, none⟩ = some (.int .i64 lo) := by rw [← hW]; simp
  have p6 : W.cell? ⟨w.heap.size, 6, none⟩ = some (.int .i64 hi) := by rw [← hW]; simp
  have p0 := cell_far7 hBW hb h0
  have HBW := Lib.hid hBW
  have HCh := Lib.hid HC
  clear hBW h0 HC
  go_enter Try.func54, Try.ntmps54
  go_wp2_with fail
  clear hW
  go_region_held_law (fun w' => w'.cell? ⟨b, o, none⟩ = some (.int .i64 p) ∧ w'.cell? ⟨w.heap.size, 5, none⟩ = some (.int .i64 lo)) (exact ⟨p0, p5⟩) (fail)
  all_goals
    have P0 : W.drew.cell? ⟨b, o, none⟩ = some (.int .i64 p) := p0
    have P5 : W.drew.cell? ⟨w.heap.size, 5, none⟩ = some (.int .i64 lo) := p5
    have P6 : W.drew.cell? ⟨w.heap.size, 6, none⟩ = some (.int .i64 hi) := p6
    have HB2 := Lib.hid HBW.out.drew
    clear p0 p5 p6 pk
    generalize W.drew = W2 at *
    go_wp2_with fail
    go_region_held_law (fun w' => w'.cell? ⟨b, o, none⟩ = some (.int .i64 p) ∧ w'.cell? ⟨w.heap.size, 5, none⟩ = some (.int .i64 lo) ∧ w'.cell? ⟨w.heap.size, 6, none⟩ = some (.int .i64 hi)) (exact ⟨P0, P5, P6⟩)
      (first | (go_at_call 73; (with_reducible refine (HCh.out _).mono ?_); rintro e wk ⟨rfl, rfl⟩))
    all_goals
      go_wp2_with fail
      go_returns
      exact ⟨rfl, HB2.out.drew⟩
end Go.Proofs.Ytepegohopgnmnaa

namespace Go.Proofs.Ytepegohopgnmnaa
open Go.RowKit

/-- The parts that are nobody's argument yet, by their last nodes. -/
def roots7 (N : Nat → Nd) : Nat → List Nat
  | 0 => []
  | k + 1 => (roots7 N k).take ((roots7 N k).length - (ar (N k).k).toNat) ++ [k]
theorem roots_succ7 (N : Nat → Nd) (k : Nat) : roots7 N (k + 1) = (roots7 N k).take ((roots7 N k).length - (ar (N k).k).toNat) ++ [k] := rfl
theorem roots_len7 (N : Nat → Nd) : ∀ k, (roots7 N k).length ≤ k
  | 0 => Nat.le_refl _
  | k + 1 => by
    have := roots_len7 N k
    rw [roots_succ7, List.length_append, List.length_take, List.length_cons, List.length_nil]
    omega
theorem roots_at7 {N : Nat → Nd} {n : Nat} (ht : tree N n) : ∀ m i, i ≤ m → i < n → ∀ f : Nat, fst N i = f → roots7 N (i + 1) = roots7 N f ++ [i] := by
  have leaf : ∀ i, ((N i).k = 1 ∨ (N i).k = 2 ∨ (N i).k = 3 ∨ (N i).k = 4) → roots7 N (i + 1) = roots7 N i ++ [i] := fun i hk => by
    rw [roots_succ7, show ar (N i).k = 0 by rcases hk with h | h | h | h <;> rw [h] <;> rfl]
    rw [show (roots7 N i).length - ((0 : Int)).toNat = (roots7 N i).length from rfl, List.take_length]
  intro m
  induction m with
  | zero =>
    intro i h0 hi f hf
    obtain ⟨f', hf', hc⟩ := nd_is ht hi
    obtain rfl : f' = f := by omega
    cases hc with
    | leaf _ hk _ => exact leaf _ hk
    | one => omega
    | two => omega
  | succ m ih =>
    intro i h0 hi f hf
    obtain ⟨f', hf', hc⟩ := nd_is ht hi
    obtain rfl : f' = f := by omega
    cases hc with
    | leaf _ hk _ => exact leaf _ hk
    | @one p _ _ hk h1 h2 _ =>
      rw [roots_succ7 (k := p + 1), ih p (by omega) (by omega) f' h1, hk, show (ar 7).toNat = 1 from rfl, List.length_append, show [p].length = 1 from rfl, Nat.add_sub_cancel, List.take_left]
    | @two p q _ _ hk h1 h2 h3 h4 _ =>
      rw [roots_succ7 (k := p + 1), ih p (by omega) (by omega) (q + 1) h1, ih q (by omega) (by omega) f' h3, show (ar (N (p + 1)).k).toNat = 2 by rcases hk with h | h <;> rw [h] <;> rfl, List.append_assoc, List.length_append, show ([q] ++ [p]).length = 2 from rfl, Nat.add_sub_cancel, List.take_left]
theorem roots_fst7 {N : Nat → Nd} {n i f : Nat} (ht : tree N n) (hi : i < n) (hf : fst N i = f) : roots7 N (i + 1) = roots7 N f ++ [i] := roots_at7 ht i i (Nat.le_refl _) hi f hf
theorem roots_all7 {N : Nat → Nd} {n : Nat} (ht : tree N n) (hn : 0 < n) : roots7 N n = [n - 1] := by
  have h := tree_iff.1 ht
  have := roots_fst7 ht (show n - 1 < n by omega) (show fst N (n - 1) = ((0 : Nat) : Int) from h.2.2.2)
  rwa [show n - 1 + 1 = n by omega] at this
theorem roots_lt7 {N : Nat → Nd} : ∀ {k j}, j ∈ roots7 N k → j < k
  | 0, _, h => by cases h
  | k + 1, j, h => by
    rw [roots_succ7] at h
    rcases List.mem_append.1 h with h | h
    · have := roots_lt7 (List.mem_of_mem_take h); omega
    · rw [List.mem_singleton.1 h]; exact Nat.lt_succ_self k

theorem roots_dep7 {N : Nat → Nd} {n : Nat} (ht : tree N n) : ∀ k, k ≤ n → ((roots7 N k).length : Int) = dep N k := by
  intro k
  induction k with
  | zero => intro _; rfl
  | succ k ih =>
    intro hk
    have h1 := ih (by omega)
    obtain ⟨g1, g2, -⟩ := ht.2.1 k (by omega)
    rw [roots_succ7, List.length_append, List.length_take, List.length_singleton, show dep N (k + 1) = dep N k + 1 - ar (N k).k from rfl]
    omega
theorem own_take7 {w : World} {base e size n cap r : Nat} {p : Option Addr} {xs : List Value} (h : w.ownsRow base e size (.slice p n cap) n xs) (hr : r ≤ n) : w.ownsRow base e size (.slice p r cap) r (xs.take (r * size)) := by
  obtain ⟨h1, h2⟩ := h
  have hm : r * size ≤ n * size := Nat.mul_le_mul_right _ hr
  refine ⟨by rw [List.length_take, h1]; omega, ?_⟩
  rcases h2 with ⟨h2, h3⟩ | ⟨g, c, cur, h2, h3, h4, h5, h6, h7, h8⟩
  · obtain rfl : r = 0 := by omega
    simp only [Value.slice.injEq] at h2
    exact .inl ⟨by rw [h2.1, h2.2.2], rfl⟩
  · simp only [Value.slice.injEq] at h2
    obtain ⟨rfl, -, rfl⟩ := h2
    refine .inr ⟨g, cap, cur, rfl, h3, h4, by omega, h6, h7, ?_⟩
    rw [← h8, List.take_take, Nat.min_eq_left hm]
theorem ar_two7 {N : Nat → Nd} {n k : Nat} (ht : tree N n) (hk : k < n) : ar (N k).k = ((ar (N k).k).toNat : Int) ∧ (ar (N k).k).toNat ≤ (roots7 N k).length ∧ (ar (N k).k).toNat ≤ 2 := by
  obtain ⟨g1, g2, -⟩ := ht.2.1 k hk
  have h := roots_dep7 ht k (by omega)
  rcases ar_cases (N k).k with ⟨h0, _⟩ | ⟨h0, _⟩ | ⟨h0, _⟩ | ⟨h0, _⟩ <;> (rw [h0] at g1 g2 ⊢; refine ⟨?_, ?_, ?_⟩ <;> omega)

end Go.Proofs.Ytepegohopgnmnaa

namespace Go.Proofs.Ytepegohopgnmnaa
open Go.RowKit

/-- Whether an end is in a tree. -/
def enT : Tr → Bool
  | .leaf x => x.k == 3 || x.k == 4
  | .cat a b => enT a || enT b
  | .or a b => enT a || enT b
  | .rep a _ _ => enT a
/-- Facts at a place. -/
def fxAt (w : World) (b o : Nat) (a : Fx) (e : Bool) : Prop :=
  w.cell? ⟨b, o, none⟩ = some (.bool a.nv) ∧ w.cell? ⟨b, o + 1, none⟩ = some (.int .i64 a.ls) ∧ w.cell? ⟨b, o + 2, none⟩ = some (.int .i64 a.ms) ∧ w.cell? ⟨b, o + 3, none⟩ = some (.int .u64 (wd a.fi 0 : Int)) ∧
  w.cell? ⟨b, o + 4, none⟩ = some (.int .u64 (wd a.fi 1 : Int)) ∧ w.cell? ⟨b, o + 5, none⟩ = some (.int .u64 (wd a.fi 2 : Int)) ∧ w.cell? ⟨b, o + 6, none⟩ = some (.int .u64 (wd a.fi 3 : Int)) ∧ w.cell? ⟨b, o + 7, none⟩ = some (.bool e)
theorem fxAt.below {w w' : World} {B b o : Nat} {a : Fx} {e : Bool} (h : fxAt w b o a e) (hB : Below B w w') (hb : b < B) : fxAt w' b o a e := by
  obtain ⟨h0, h1, h2, h3, h4, h5, h6, h7⟩ := h
  exact ⟨cell_far7 hB hb h0, cell_far7 hB hb h1, cell_far7 hB hb h2, cell_far7 hB hb h3, cell_far7 hB hb h4, cell_far7 hB hb h5, cell_far7 hB hb h6, cell_far7 hB hb h7⟩
/-- What told tells: facts, and memory of its own. -/
def fxPost (a : Fx) (e : Bool) (w : World) (x : Ending) (w' : World) : Prop := x = .returned (fxv a e) ∧ Below w.heap.size w w'

/-- What was told of the parts of a list, in a block. -/
def fxsAt (N : Nat → Nd) (L : List Nat) (w : World) (g : Nat) : Prop := ∀ j (h : j < L.length), fxAt w g (j * 8) (fxT (trT N L[j])) (enT (trT N L[j]))
/-- How many states the parts of a list have, in a block. -/
def szsAt (N : Nat → Nd) (L : List Nat) (w : World) (g : Nat) : Prop := ∀ j (h : j < L.length), w.cell? ⟨g, j, none⟩ = some (.int .i64 (szF (trT N L[j])))
def szPost (D : Int) (w : World) (x : Ending) (w' : World) : Prop := x = .returned (.int .i64 D) ∧ Below w.heap.size w w'
theorem states_lf (x : Nd) (hk : x.k = 1 ∨ x.k = 2 ∨ x.k = 3 ∨ x.k = 4) (v : Value) (w : World) : Calls Try.prog 54 #[ndr7 x, v] w (szPost 2 w) := states_leaf x.k hk _ _ _ _ _ _ v w
theorem states_at {N : Nat → Nd} {n k : Nat} (ht : tree N n) (hk : k < n) (w : World) (g cap : Nat) (hg : g < w.heap.size) (hp : szsAt N (roots7 N k) w g) :
    Calls Try.prog 54 #[ndr7 (N k), .slice (some ⟨g, (roots7 N k).length - (ar (N k).k).toNat, none⟩) (ar (N k).k).toNat cap] w (szPost (szF (trT N k)) w) := by
  obtain ⟨f, hf, hc⟩ := nd_is ht hk
  have hok := ((tree_iff.1 ht).2.2.1 k hk).2
  have bd : ∀ j, j < n → 2 ≤ szF (trT N j) ∧ szF (trT N j) ≤ 1048576 := fun j hj => by
    obtain ⟨f, hf, _⟩ := fst_nat ht hj
    exact sz_bd _ (trT_is ht j j (Nat.le_refl _) hj f hf).2.1
  cases hc with
  | leaf _ hkk _ =>
    rw [sz_leaf hkk]
    exact states_lf (N k) hkk _ w
  | @one p _ _ hkk h1 h2 _ =>
    have hr := roots_fst7 ht (show p < n by omega) h1
    have ha : (ar (N (p + 1)).k).toNat = 1 := by rw [hkk]; rfl
    have hlen : (roots7 N (p + 1)).length = (roots7 N f).length + 1 := by rw [hr]; simp
    have h0 := hp (roots7 N f).length (by omega)
    have hget : (roots7 N (p + 1))[(roots7 N f).length]'(by omega) = p := by simp [hr]
    rw [hget] at h0
    have hsz := sz_one (N := N) hkk
    rw [ha, hlen, Nat.add_sub_cancel, hsz]
    obtain ⟨r1, r2, r3⟩ := okN_rep hok hkk
    obtain ⟨b1, b2⟩ := bd p (by omega)
    generalize szF (trT N p) = x at *
    obtain ⟨y, hy⟩ : ∃ y, N (p + 1) = y := ⟨_, rfl⟩
    rw [hy] at hkk r1 r2 r3 ⊢
    clear hsz hy hok ha
    obtain ⟨kk, ya, yb, yc, yd, lo, hi⟩ := y
    simp only at hkk r1 r2 r3 ⊢
    subst hkk
    have m1 := mul_bd (x := lo) (y := x) r1 r2 (by omega) (by omega)
    have w1 : IntKind.i64.wrap (lo * x) = lo * x := by rw [IntKind.wrap_i64]; omega
    have w2 : IntKind.i64.wrap (2 + lo * x) = 2 + lo * x := by rw [IntKind.wrap_i64]; omega
    by_cases hh : hi = -1
    · subst hh
      have e1 : 2 + lo * x + (if (-1 : Int) = -1 then x + 1 else (-1 - lo) * (x + 1)) = 2 + lo * x + x + 1 := by rw [if_pos rfl]; omega
      rw [e1]
      exact states_inf _ _ _ _ lo g _ cap x _ w hg h0 w1 w2 (by rw [IntKind.wrap_i64]; omega) (by rw [IntKind.wrap_i64]; omega) (fun w => catmost_any _ w)
    · rw [if_neg hh]
      have m2 := mul_bd (x := hi - lo) (y := x + 1) (by omega) (by omega) (by omega) (by omega)
      exact states_rep _ _ _ _ lo hi g _ cap x _ w hg h0 (beq_eq_false_iff_ne.2 hh) w1 w2 (by rw [IntKind.wrap_i64]; omega) (by rw [IntKind.wrap_i64]; omega) (by rw [IntKind.wrap_i64]; omega) (by rw [IntKind.wrap_i64]; omega) (fun w => catmost_any _ w)
  | @two p q _ _ hkk h1 h2 h3 h4 _ =>
    have hr1 := roots_fst7 ht (show p < n by omega) h1
    have hr := roots_fst7 ht (show q < n by omega) h3
    rw [hr] at hr1
    have ha : (ar (N (p + 1)).k).toNat = 2 := by rcases hkk with h | h <;> rw [h] <;> rfl
    have hlen : (roots7 N (p + 1)).length = (roots7 N f).length + 2 := by rw [hr1]; simp
    have h0 := hp (roots7 N f).length (by omega)
    have hget : (roots7 N (p + 1))[(roots7 N f).length]'(by omega) = q := by simp [hr1]
    rw [hget] at h0
    have h1' := hp ((roots7 N f).length + 1) (by omega)
    have hget1 : (roots7 N (p + 1))[(roots7 N f).length + 1]'(by omega) = p := by simp [hr1]
    rw [hget1] at h1'
    rw [ha, hlen, Nat.add_sub_cancel]
    obtain ⟨b1, b2⟩ := bd p (by omega)
    obtain ⟨b3, b4⟩ := bd q (by omega)
    rcases hkk with hkk | hkk
    · rw [sz_cat ht hk hkk h1 h2]
      unfold ndr7
      rw [hkk]
      exact states_cat _ _ _ _ _ _ g _ cap _ _ _ w hg h0 h1' (by rw [IntKind.wrap_i64]; omega) (fun w => catmost_any _ w)
    · rw [sz_or ht hk hkk h1 h2]
      unfold ndr7
      rw [hkk]
      exact states_or _ _ _ _ _ _ g _ cap _ _ _ w hg h0 h1' (by rw [IntKind.wrap_i64]; omega) (by rw [IntKind.wrap_i64]; omega) (fun w => catmost_any _ w)
end Go.Proofs.Ytepegohopgnmnaa
