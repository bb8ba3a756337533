/-
  The walk of the reference's often.
  The walk of First: where a part begins.
  The walk of Kids: the last nodes of a node's arguments.
  The walks of Clone and Part: the nodes of a part.
-/
import Derived.Test.YtgjpmfdiidkdnaaDoorPk43
import Derived.Test.YtgjpmfdiidkdnaaDoorPk37
import Derived.OwnWalk
namespace Go.Proofs.YtgjpmfdiidkdnaaDoor
open Go.RowKit

theorem oft_some (l : Nat) (h : 2 ≤ l) : bs (oftL (l : Int) (-1)) = ⟨#[123]⟩ ++ bs (numL l) ++ ⟨#[44, 125]⟩ := by
  unfold oftL
  rw [if_neg (by omega), if_neg (by omega), if_neg (by omega), if_pos rfl, Int.toNat_natCast, show 123 :: (numL l ++ [44, 125]) = [123] ++ numL l ++ [44, 125] from rfl, bs_append, bs_append]
  rfl
theorem oft_same (l : Nat) : bs (oftL (l : Int) (l : Int)) = ⟨#[123]⟩ ++ bs (numL l) ++ ⟨#[125]⟩ := by
  unfold oftL
  rw [if_neg (by omega), if_neg (by omega), if_neg (by omega), if_neg (by omega), if_pos rfl, Int.toNat_natCast, show 123 :: (numL l ++ [125]) = [123] ++ numL l ++ [125] from rfl, bs_append, bs_append]
  rfl
theorem oft_two (l m : Nat) (h : l < m) (h2 : ¬ (l = 0 ∧ m = 1)) : bs (oftL (l : Int) (m : Int)) = ⟨#[123]⟩ ++ bs (numL l) ++ ⟨#[44]⟩ ++ bs (numL m) ++ ⟨#[125]⟩ := by
  unfold oftL
  rw [if_neg (by omega), if_neg (by omega), if_neg (by omega), if_neg (by omega), if_neg (by omega), Int.toNat_natCast, Int.toNat_natCast,
    show 123 :: (numL l ++ 44 :: (numL m ++ [125])) = [123] ++ numL l ++ [44] ++ numL m ++ [125] by simp, bs_append, bs_append, bs_append, bs_append]
  rfl
theorem num_len (n : Nat) : (bs (numL n)).size ≤ 2 := by rw [bs_size]; unfold numL; split <;> simp

set_option maxRecDepth 100000 in
set_option maxHeartbeats 4000000 in
theorem oft6_any (k a b c d lo hi : Int) (h1 : 0 ≤ lo) (h2 : lo ≤ 32) (h3 : hi = -1 ∨ (lo ≤ hi ∧ hi ≤ 32)) (w : World) :
    Calls Tryd.prog 20 #[.agg #[.int .i64 k, .int .u64 a, .int .u64 b, .int .u64 c, .int .u64 d, .int .i64 lo, .int .i64 hi]] w fun e w' => e = .returned (.string (bs (oftL lo hi))) ∧ Below w.heap.size w w' := by
  obtain ⟨l, rfl⟩ := Int.eq_ofNat_of_zero_le h1
  rcases h3 with rfl | ⟨h3, h4⟩
  · rcases Nat.lt_or_ge l 2 with hl | hl
    · match l, hl with
      | 0, _ =>
        clear h1 h2
        go_enter Tryd.func20, Tryd.ntmps20
        go_wp2
        go_returns
        exact ⟨rfl, by go_grown⟩
      | 1, _ =>
        clear h1 h2
        go_enter Tryd.func20, Tryd.ntmps20
        go_wp2
        go_returns
        exact ⟨rfl, by go_grown⟩
    · have HE := Lib.hid (oft_some l hl)
      have HC := Lib.hid (num_any l (by omega))
      have hsz := num_len l
      generalize bs (numL l) = s at *
      have e1 : ((l : Int) == 0) = false := beq_eq_false_iff_ne.2 (by omega)
      have e2 : ((l : Int) == 1) = false := beq_eq_false_iff_ne.2 (by omega)
      have g1 : ¬ (9223372036854775807 < 1 + s.size) := by omega
      have g2 : ¬ (9223372036854775807 < 1 + s.size + 2) := by omega
      clear h1 h2 hl hsz
      go_enter Tryd.func20, Tryd.ntmps20
      go_wp2_with fail
      refine (HC.out _).mono ?_
      rintro e w1 ⟨rfl, hb⟩
      have hbs := hb.size
      have p6 := hb.cell (p := ⟨w.heap.size, 6, none⟩) (by simp)
      simp only [World.cell?_alloc_new] at p6
      go_wp2
      go_returns
      exact ⟨by rw [HE.out] <;> rfl, ((Below.refl _ _).alloc (Nat.le_refl _) _).trans (hb.mono (by simp))⟩
  · obtain ⟨m, rfl⟩ := Int.eq_ofNat_of_zero_le (show 0 ≤ hi by omega)
    by_cases h01 : l = 0 ∧ m = 1
    · obtain ⟨rfl, rfl⟩ := h01
      clear h1 h2 h3 h4
      go_enter Tryd.func20, Tryd.ntmps20
      go_wp2
      go_returns
      exact ⟨rfl, by go_grown⟩
    · have e0 : ((m : Int) == -1) = false := beq_eq_false_iff_ne.2 (by omega)
      have hc : ((l : Int) == 0) = false ∨ (((l : Int) == 0) = true ∧ ((m : Int) == 1) = false) := by
        by_cases hl : l = 0
        · exact .inr ⟨beq_iff_eq.2 (by omega), beq_eq_false_iff_ne.2 (by omega)⟩
        · exact .inl (beq_eq_false_iff_ne.2 (by omega))
      have HC := Lib.hid (num_any l (by omega))
      have HD := Lib.hid (num_any m (by omega))
      have hsz := num_len l
      have hsz2 := num_len m
      by_cases hlm : l = m
      · subst hlm
        have HE := Lib.hid (oft_same l)
        generalize bs (numL l) = s at *
        have g1 : ¬ (9223372036854775807 < 1 + s.size) := by omega
        have g2 : ¬ (9223372036854775807 < 1 + s.size + 1) := by omega
        clear h1 h2 h3 h4 hsz hsz2 h01 HD
        rcases hc with e1 | ⟨e1, e2⟩
        all_goals
          go_enter Tryd.func20, Tryd.ntmps20
          go_wp2_with fail
          refine (HC.out _).mono ?_
          rintro e w1 ⟨rfl, hb⟩
          have hbs := hb.size
          have p5 := hb.cell (p := ⟨w.heap.size, 5, none⟩) (by simp)
          have p6 := hb.cell (p := ⟨w.heap.size, 6, none⟩) (by simp)
          simp only [World.cell?_alloc_new] at p5 p6
          go_wp2
          go_returns
          exact ⟨by rw [HE.out] <;> rfl, ((Below.refl _ _).alloc (Nat.le_refl _) _).trans (hb.mono (by simp))⟩
      · have e3 : ((m : Int) == (l : Int)) = false := beq_eq_false_iff_ne.2 (by omega)
        have HE := Lib.hid (oft_two l m (by omega) h01)
        generalize bs (numL l) = s at *
        generalize bs (numL m) = t at *
        have g1 : ¬ (9223372036854775807 < 1 + s.size) := by omega
        have g2 : ¬ (9223372036854775807 < 1 + s.size + 1) := by omega
        have g3 : ¬ (9223372036854775807 < 1 + s.size + 1 + t.size) := by omega
        have g4 : ¬ (9223372036854775807 < 1 + s.size + 1 + t.size + 1) := by omega
        clear h1 h2 h3 h4 hsz hsz2 h01 hlm
        rcases hc with e1 | ⟨e1, e2⟩
        all_goals
          go_enter Tryd.func20, Tryd.ntmps20
          go_wp2_with fail
          refine (HC.out _).mono ?_
          rintro e w1 ⟨rfl, hb⟩
          have hbs := hb.size
          have p5 := hb.cell (p := ⟨w.heap.size, 5, none⟩) (by simp)
          have p6 := hb.cell (p := ⟨w.heap.size, 6, none⟩) (by simp)
          simp only [World.cell?_alloc_new] at p5 p6
          have HB := Lib.hid (((Below.refl _ _).alloc (Nat.le_refl _) _).trans (hb.mono (by simp)) : Below w.heap.size w w1)
          clear hb hbs
          go_wp2_with fail
          refine (HD.out _).mono ?_
          rintro e w2 ⟨rfl, hb⟩
          have HB2 := Lib.hid (HB.out.trans (hb.mono HB.out.size))
          clear hb HB
          go_wp2
          go_returns
          exact ⟨by rw [HE.out] <;> rfl, HB2.out⟩
end Go.Proofs.YtgjpmfdiidkdnaaDoor

namespace Go.Proofs.YtgjpmfdiidkdnaaDoor
open Go.RowKit

/-- What holds at the loop's head. -/
def fstRel (N : Nat → Nd) (i : Nat) (mi at_ : Value) : Prop :=
  (∃ p m : Nat, p ≤ i ∧ m ≤ 2 * (i - p) ∧ mi = .int .i64 ((m : Int) + 1) ∧ at_ = .int .i64 (p : Int) ∧ Hid (fst N i = back N (p + 1) (m + 1))) ∨ (at_ = .int .i64 (-1) ∧ Hid (fst N i = -1))
theorem fst_rel {N : Nat → Nd} {i p m : Nat} {x y : Int} (hp : p ≤ i) (hm : m + 1 ≤ 2 * (i - p) + 2) (hx : x = (m : Int) + 1) (hy : y = (p : Int) - 1) (h : fst N i = back N p (m + 1)) : fstRel N i (.int .i64 x) (.int .i64 y) := by
  subst hx hy
  cases p with
  | zero => exact .inr ⟨rfl, Lib.hid (by rw [h, back_none])⟩
  | succ p => exact .inl ⟨p, m, by omega, by omega, rfl, by rw [show ((p + 1 : Nat) : Int) - 1 = p by omega], Lib.hid h⟩

end Go.Proofs.YtgjpmfdiidkdnaaDoor

namespace Go.Proofs.YtgjpmfdiidkdnaaDoor
open Go.RowKit

/-- A node whose part begins somewhere: what its arguments are. -/
theorem kids_back {N : Nat → Nd} {i : Nat} (h : 0 ≤ fst N i) : (ar (N i).k = 0 ∧ kids N i = [] ∧ fst N i = i) ∨
    (ar (N i).k = 1 ∧ 0 < i ∧ kids N i = [(i : Int) - 1] ∧ fst N i = fst N (i - 1) ∧ 0 ≤ fst N (i - 1)) ∨
    (ar (N i).k = 2 ∧ ∃ f : Nat, 0 < f ∧ f + 1 ≤ i ∧ fst N (i - 1) = f ∧ kids N i = [(f : Int) - 1, (i : Int) - 1] ∧ fst N i = fst N (f - 1) ∧ 0 ≤ fst N (f - 1)) := by
  rw [fst_eq] at h
  have e := fst_eq N i
  rcases ar_cases (N i).k with ⟨ha, -⟩ | ⟨ha, -⟩ | ⟨ha, -⟩ | ⟨ha, -⟩
  · rw [ha] at h e; simp [back_zero] at e
    exact .inl ⟨ha, by simp [kids, ha], e⟩
  · rw [ha] at h e
    rw [if_neg (by omega)] at h e
    have hi : 0 < i := by
      rcases Nat.eq_zero_or_pos i with rfl | h0
      · rw [show ((1 : Int).toNat) = 0 + 1 from rfl, back_none] at h; omega
      · exact h0
    have e1 : fst N (i - 1) = back N i 1 := by unfold fst; rw [show i - 1 + 1 = i by omega]
    refine .inr (.inl ⟨ha, hi, by simp [kids, ha], ?_, ?_⟩)
    · rw [e, e1]; rfl
    · rw [e1]; exact h
  · rw [ha] at h e
    rw [if_neg (by omega)] at h e
    have hi : 0 < i := by
      rcases Nat.eq_zero_or_pos i with rfl | h0
      · rw [show ((2 : Int).toNat) = 1 + 1 from rfl, back_none] at h; omega
      · exact h0
    have hs : back N i (Int.toNat 2) = if fst N (i - 1) < 0 then -1 else back N (fst N (i - 1)).toNat 1 := by
      have := back_step N (i - 1) 1
      rwa [show i - 1 + 1 = i by omega] at this
    rw [hs] at h e
    have hb := fst_bd N (i - 1)
    by_cases h0 : fst N (i - 1) < 0
    · rw [if_pos h0] at h; omega
    · rw [if_neg h0] at h e
      obtain ⟨f, hf⟩ : ∃ f : Nat, fst N (i - 1) = f := ⟨(fst N (i - 1)).toNat, by omega⟩
      rw [hf] at h e
      simp only [Int.toNat_natCast] at h e
      have hf0 : 0 < f := by
        rcases Nat.eq_zero_or_pos f with rfl | h0
        · rw [back_none] at h; omega
        · exact h0
      have e1 : fst N (f - 1) = back N f 1 := by unfold fst; rw [show f - 1 + 1 = f by omega]
      exact .inr (.inr ⟨ha, f, hf0, by omega, hf, by simp [kids, ha, hf], by rw [e, e1], by rw [e1]; exact h⟩)
  · rw [ha] at h; simp at h

theorem mk0 : ∀ w, (Instr.makeSlice 51 (.int .i64 0) (.int .i64 0)).run Tryd.prog w = .ok (.slice (some ⟨w.heap.size, 0, none⟩) 0 0) (w.alloc (.cells #[] 3)) := fun _ => by kernel_rfl
theorem mk1 : ∀ w, (Instr.makeSlice 51 (.int .i64 1) (.int .i64 1)).run Tryd.prog w = .ok (.slice (some ⟨w.heap.size, 0, none⟩) 1 1) (w.alloc (.cells #[.int .i64 0] 3)) := fun _ => by kernel_rfl
theorem mk2 : ∀ w, (Instr.makeSlice 51 (.int .i64 2) (.int .i64 2)).run Tryd.prog w = .ok (.slice (some ⟨w.heap.size, 0, none⟩) 2 2) (w.alloc (.cells #[.int .i64 0, .int .i64 0] 3)) := fun _ => by kernel_rfl

end Go.Proofs.YtgjpmfdiidkdnaaDoor

namespace Go.Proofs.YtgjpmfdiidkdnaaDoor
open Go.RowKit

/-- A node's cells. -/
def nval (x : Nd) : Nat → Value
  | 0 => .int .i64 x.k
  | 1 => .int .u64 x.a
  | 2 => .int .u64 x.b
  | 3 => .int .u64 x.c
  | 4 => .int .u64 x.d
  | 5 => .int .i64 x.lo
  | _ => .int .i64 x.hi
def nvs (N : Nat → Nd) (m : Nat) : List Value := (List.range (m * 7)).map fun t => nval (N (t / 7)) (t % 7)
theorem nvs_len (N : Nat → Nd) (m : Nat) : (nvs N m).length = m * 7 := by simp [nvs]
theorem nvs_get (N : Nat → Nd) (m t : Nat) (h : t < m * 7) : (nvs N m)[t]? = some (nval (N (t / 7)) (t % 7)) := by
  unfold nvs; rw [List.getElem?_map, List.getElem?_range h]; rfl
theorem nvs_one (N : Nat → Nd) (m : Nat) : ∀ u ∈ nvs N m, u.oneCell' = true := by
  intro u hu
  unfold nvs at hu
  obtain ⟨t, _, rfl⟩ := List.mem_map.1 hu
  unfold nval
  split <;> rfl
theorem ndAt_val {w : World} {b o : Nat} {x : Nd} (h : ndAt w b o x) (r : Nat) (hr : r < 7) : w.cell? ⟨b, o + r, none⟩ = some (nval x r) := by
  unfold ndAt at h
  obtain ⟨h0, h1, h2, h3, h4, h5, h6⟩ := h
  match r, hr with
  | 0, _ => exact h0
  | 1, _ => exact h1
  | 2, _ => exact h2
  | 3, _ => exact h3
  | 4, _ => exact h4
  | 5, _ => exact h5
  | 6, _ => exact h6
theorem rdN_cells {w : World} {b off m : Nat} {N : Nat → Nd} (h : rdN w b off m N) : ∀ j u, (nvs N m)[j]? = some u → w.cell? ((⟨b, off, none⟩ : Addr).add j) = some u := by
  intro j u hu
  have hj : j < m * 7 := by
    have := (List.getElem?_eq_some_iff.1 hu).1
    rwa [nvs_len] at this
  rw [nvs_get N m j hj] at hu
  have hv := ndAt_val (h (j / 7) (by omega)).2 (j % 7) (by omega)
  rw [show off + j / 7 * 7 + j % 7 = off + j by omega] at hv
  have ha : (⟨b, off, none⟩ : Addr).add j = ⟨b, off + j, none⟩ := by unfold Addr.add; split <;> simp_all
  rw [ha, hv, ← hu]
theorem rdN_of_owns {w : World} {base : Nat} {e : TypeId} {g n cap : Nat} {N : Nat → Nd} (h : w.ownsRow base e 7 (.slice (some ⟨g, 0, none⟩) n cap) n (nvs N n)) : rdN w g 0 n N := by
  intro j hj
  refine ⟨(h.lt g rfl).2, ?_⟩
  have c : ∀ r, r < 7 → w.cell? ⟨g, 0 + j * 7 + r, none⟩ = some (nval (N j) r) := fun r hr => by
    rw [h.cellAt _ (by omega), nvs_get _ _ _ (by omega), show (0 + j * 7 + r) / 7 = j by omega, show (0 + j * 7 + r) % 7 = r by omega]
  exact ⟨c 0 (by decide), c 1 (by decide), c 2 (by decide), c 3 (by decide), c 4 (by decide), c 5 (by decide), c 6 (by decide)⟩

end Go.Proofs.YtgjpmfdiidkdnaaDoor
