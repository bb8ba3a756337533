/-
  The walk of First: where a part begins.
  The walk of Kids: the last nodes of a node's arguments.
  The walks of Clone and Part: the nodes of a part.
-/
import Derived.Test.YtepegohopgnmnaaPk9
import Derived.OwnWalk
namespace Go.Proofs.Ytepegohopgnmnaa
open Go.RowKit

theorem first_out (p : Option Addr) (n cap : Nat) (i : Int) (h : i < 0 ∨ (n : Int) ≤ i) (w : World) :
    Calls Try.prog 74 #[.slice p n cap, .int .i64 i] w fun e w' => e = .returned (.int .i64 (-1)) ∧ w = w' := by
  by_cases h1 : (n : Int) ≤ i
  · clear h
    go_enter Try.func74, Try.ntmps74
    go_wp2
    go_ret
    exact ⟨rfl, rfl⟩
  · have h0 : ¬ (0 ≤ i) := by omega
    clear h
    go_enter Try.func74, Try.ntmps74
    go_wp2
    refine wp_loop_rounds 1 ?_
    rw [rounds_succ]; go_wp2
    go_ret
    exact ⟨rfl, rfl⟩

/-- What holds at the loop's head. -/
def fstRel (N : Nat → Nd) (i : Nat) (mi at_ : Value) : Prop :=
  (∃ p m : Nat, p ≤ i ∧ m ≤ 2 * (i - p) ∧ mi = .int .i64 ((m : Int) + 1) ∧ at_ = .int .i64 (p : Int) ∧ Hid (fst N i = back N (p + 1) (m + 1))) ∨ (at_ = .int .i64 (-1) ∧ Hid (fst N i = -1))
theorem fst_rel {N : Nat → Nd} {i p m : Nat} {x y : Int} (hp : p ≤ i) (hm : m + 1 ≤ 2 * (i - p) + 2) (hx : x = (m : Int) + 1) (hy : y = (p : Int) - 1) (h : fst N i = back N p (m + 1)) : fstRel N i (.int .i64 x) (.int .i64 y) := by
  subst hx hy
  cases p with
  | zero => exact .inr ⟨rfl, Lib.hid (by rw [h, back_none])⟩
  | succ p => exact .inl ⟨p, m, by omega, by omega, rfl, by rw [show ((p + 1 : Nat) : Int) - 1 = p by omega], Lib.hid h⟩

set_option maxHeartbeats 1000000 in
theorem first_in (b off n cap i : Nat) (N : Nat → Nd) (hn : n ≤ 1000) (hi : i < n) (w : World) (hr : rdN w b off n N) :
    Calls Try.prog 74 #[.slice (some ⟨b, off, none⟩) n cap, .int .i64 (i : Int)] w fun e w' => e = .returned (.int .i64 (fst N i)) ∧ w = w' := by
  have HR := Lib.hid hr
  have d0 : decide (n ≤ i) = false := decide_eq_false (by omega)
  clear hr
  go_enter Try.func74, Try.ntmps74
  go_wp2
  go_loop [5, 6] (fun mi at_ => fstRel N i mi at_) (fun _ at_ => (intOf at_ + 1).toNat)
  case atStart => exact .inl ⟨i, 0, Nat.le_refl _, Nat.zero_le _, rfl, rfl, Lib.hid rfl⟩
  case round =>
    rcases hrel with ⟨p, m, hp, hm, rfl, rfl, HF⟩ | ⟨rfl, HF⟩
    · have hc := (HR.out p (by omega)).2.1
      have h0 : (0 : Int) ≤ (p : Int) := by omega
      have h1 : (p : Int) < (n : Int) := by omega
      rcases ar_cases (N p).k with ⟨ha, -⟩ | ⟨ha, -⟩ | ⟨ha, -⟩ | ⟨ha, -⟩
      · have HA := Lib.hid ha
        have HB : Hid (fst N i = back N p (m + 0)) := Lib.hid (by rw [HF.out, back_succ, if_neg (by omega), ha]; rfl)
        clear ha HF
        rcases m with _ | m
        · go_wp2_with (go_at_call 71; refine (args_any _ _).mono ?_; rintro e w' ⟨rfl, rfl⟩; rw [HA.out])
          go_ret
          exact ⟨arI (by rw [HB.out, back_zero]), rfl⟩
        · go_wp2_with (go_at_call 71; refine (args_any _ _).mono ?_; rintro e w' ⟨rfl, rfl⟩; rw [HA.out])
          go_round
          case rel => exact fst_rel hp (by omega) (by first | rfl | omega) (by first | rfl | omega) HB.out
          case measure => simp [intOf]
      · have HA := Lib.hid ha
        have HB : Hid (fst N i = back N p (m + 1)) := Lib.hid (by rw [HF.out, back_succ, if_neg (by omega), ha]; rfl)
        clear ha HF
        have t0 : ((m : Int) + 1 == 0) = false := beq_eq_false_iff_ne.2 (by omega)
        go_wp2_with (go_at_call 71; refine (args_any _ _).mono ?_; rintro e w' ⟨rfl, rfl⟩; rw [HA.out])
        go_round
        case rel => exact fst_rel hp (by omega) (by first | rfl | omega) (by first | rfl | omega) HB.out
        case measure => simp [intOf]
      · have HA := Lib.hid ha
        have HB : Hid (fst N i = back N p (m + 2)) := Lib.hid (by rw [HF.out, back_succ, if_neg (by omega), ha]; rfl)
        clear ha HF
        have t0 : ((m : Int) + 1 + 1 == 0) = false := beq_eq_false_iff_ne.2 (by omega)
        go_wp2_with (go_at_call 71; refine (args_any _ _).mono ?_; rintro e w' ⟨rfl, rfl⟩; rw [HA.out])
        go_round
        case rel => exact fst_rel hp (by omega) (by first | rfl | omega) (by first | rfl | omega) HB.out
        case measure => simp [intOf]
      · have HA := Lib.hid ha
        clear ha
        go_wp2_with (go_at_call 71; refine (args_any _ _).mono ?_; rintro e w' ⟨rfl, rfl⟩; rw [HA.out])
        go_ret
        exact ⟨arI (by rw [HF.out, back_succ, if_pos (by rw [HA.out]; decide)]), rfl⟩
    · go_wp2
      go_ret
      exact ⟨arI (by rw [HF.out]), rfl⟩
end Go.Proofs.Ytepegohopgnmnaa

namespace Go.Proofs.Ytepegohopgnmnaa
open Go.RowKit

/-- A node whose part begins somewhere: what its arguments are. -/
theorem kids_back {N : Nat → Nd} {i : Nat} (h : 0 ≤ fst N i) : (ar (N i).k = 0 ∧ kids N i = [] ∧ fst N i = i) ∨
    (ar (N i).k = 1 ∧ 0 < i ∧ kids N i = [(i : Int) - 1] ∧ fst N i = fst N (i - 1) ∧ 0 ≤ fst N (i - 1)) ∨
    (ar (N i).k = 2 ∧ ∃ f : Nat, 0 < f ∧ f + 1 ≤ i ∧ fst N (i - 1) = f ∧ kids N i = [(f : Int) - 1, (i : Int) - 1] ∧ fst N i = fst N (f - 1) ∧ 0 ≤ fst N (f - 1)) := by
  rw [fst_eq] at h
  have e := fst_eq N i
  rcases ar_cases (N i).k with ⟨ha, -⟩ | ⟨ha, -⟩ | ⟨ha, -⟩ | ⟨ha, -⟩
  · rw [ha] at h e; simp [back_zero] at e
    exact .inl ⟨ha, by simp [kids, ha], e⟩
  · rw [ha] at h e
    rw [if_neg (by omega)] at h e
    have hi : 0 < i := by
      rcases Nat.eq_zero_or_pos i with rfl | h0
      · rw [show ((1 : Int).toNat) = 0 + 1 from rfl, back_none] at h; omega
      · exact h0
    have e1 : fst N (i - 1) = back N i 1 := by unfold fst; rw [show i - 1 + 1 = i by omega]
    refine .inr (.inl ⟨ha, hi, by simp [kids, ha], ?_, ?_⟩)
    · rw [e, e1]; rfl
    · rw [e1]; exact h
  · rw [ha] at h e
    rw [if_neg (by omega)] at h e
    have hi : 0 < i := by
      rcases Nat.eq_zero_or_pos i with rfl | h0
      · rw [show ((2 : Int).toNat) = 1 + 1 from rfl, back_none] at h; omega
      · exact h0
    have hs : back N i (Int.toNat 2) = if fst N (i - 1) < 0 then -1 else back N (fst N (i - 1)).toNat 1 := by
      have := back_step N (i - 1) 1
      rwa [show i - 1 + 1 = i by omega] at this
    rw [hs] at h e
    have hb := fst_bd N (i - 1)
    by_cases h0 : fst N (i - 1) < 0
    · rw [if_pos h0] at h; omega
    · rw [if_neg h0] at h e
      obtain ⟨f, hf⟩ : ∃ f : Nat, fst N (i - 1) = f := ⟨(fst N (i - 1)).toNat, by omega⟩
      rw [hf] at h e
      simp only [Int.toNat_natCast] at h e
      have hf0 : 0 < f := by
        rcases Nat.eq_zero_or_pos f with rfl | h0
        · rw [back_none] at h; omega
        · exact h0
      have e1 : fst N (f - 1) = back N f 1 := by unfold fst; rw [show f - 1 + 1 = f by omega]
      exact .inr (.inr ⟨ha, f, hf0, by omega, hf, by simp [kids, ha, hf], by rw [e, e1], by rw [e1]; exact h⟩)
  · rw [ha] at h; simp at h

theorem mk0 : ∀ w, (Instr.makeSlice 27 (.int .i64 0) (.int .i64 0)).run Try.prog w = .ok (.slice (some ⟨w.heap.size, 0, none⟩) 0 0) (w.alloc (.cells #[] 3)) := fun _ => by kernel_rfl
theorem mk1 : ∀ w, (Instr.makeSlice 27 (.int .i64 1) (.int .i64 1)).run Try.prog w = .ok (.slice (some ⟨w.heap.size, 0, none⟩) 1 1) (w.alloc (.cells #[.int .i64 0] 3)) := fun _ => by kernel_rfl
theorem mk2 : ∀ w, (Instr.makeSlice 27 (.int .i64 2) (.int .i64 2)).run Try.prog w = .ok (.slice (some ⟨w.heap.size, 0, none⟩) 2 2) (w.alloc (.cells #[.int .i64 0, .int .i64 0] 3)) := fun _ => by kernel_rfl

theorem kids_out (p : Option Addr) (n cap : Nat) (i : Int) (h : i < 0 ∨ (n : Int) ≤ i) (w : World) :
    Calls Try.prog 55 #[.slice p n cap, .int .i64 i] w fun e w' => e = .returned (.slice none 0 0) ∧ w = w' := by
  go_enter Try.func55, Try.ntmps55
  go_wp2_with (go_at_call 74; refine (first_out _ _ _ _ h _).mono ?_; rintro e w' ⟨rfl, rfl⟩)
  go_ret
  exact ⟨rfl, rfl⟩
theorem kids_not (b off n cap i : Nat) (N : Nat → Nd) (hn : n ≤ 1000) (hi : i < n) (hf : fst N i < 0) (w : World) (hr : rdN w b off n N) :
    Calls Try.prog 55 #[.slice (some ⟨b, off, none⟩) n cap, .int .i64 (i : Int)] w fun e w' => e = .returned (.slice none 0 0) ∧ w = w' := by
  go_enter Try.func55, Try.ntmps55
  go_wp2_with (go_at_call 74; refine (first_in _ _ _ _ _ _ hn hi _ hr).mono ?_; rintro e w' ⟨rfl, rfl⟩)
  go_ret
  exact ⟨rfl, rfl⟩

set_option maxHeartbeats 1000000 in
theorem kids_is (b off n cap i : Nat) (N : Nat → Nd) (hn : n ≤ 1000) (hi : i < n) (hf : 0 ≤ fst N i) (w : World) (hr : rdN w b off n N) :
    Calls Try.prog 55 #[.slice (some ⟨b, off, none⟩) n cap, .int .i64 (i : Int)] w fun e w' => ∃ v, e = .returned v ∧ rdI w' v (kids N i) ∧ Below w.heap.size w w' := by
  have hc := (hr i hi).2.1
  have hb := (hr i hi).1
  have h0 : (0 : Int) ≤ (i : Int) := by omega
  have h1 : (i : Int) < (n : Int) := by omega
  have t0 : decide (fst N i < 0) = false := decide_eq_false (by omega)
  have HR := Lib.hid hr
  clear hr
  have hib : (i : Int) < 1000 := by omega
  rcases kids_back hf with ⟨ha, hk, -⟩ | ⟨ha, hi0, hk, -, hg⟩ | ⟨ha, f, hf0, hfi, hff, hk, -, hg⟩
  · have HA := Lib.hid ha; have HK := Lib.hid hk
    have hmk := mk0
    clear ha hk
    go_enter Try.func55, Try.ntmps55
    go_wp2_with fail
    refine (first_in _ _ _ _ _ _ hn hi _ HR.out).mono ?_; rintro e w' ⟨rfl, rfl⟩
    go_wp2_with fail
    refine (args_any _ _).mono ?_; rintro e w' ⟨rfl, rfl⟩; rw [HA.out]
    go_wp2_with fail
    refine wp_loop_rounds 1 ?_
    rw [rounds_succ]; go_wp2
    go_ret
    exact ⟨_, rfl, by rw [HK.out]; exact .inl ⟨_, _, rfl, rfl⟩, (Below.refl _ _).alloc (Nat.le_refl _) _⟩
  · have HA := Lib.hid ha; have HK := Lib.hid hk
    have hmk := mk1
    clear ha hk
    obtain ⟨j, rfl⟩ : ∃ j, i = j + 1 := ⟨i - 1, by omega⟩
    go_enter Try.func55, Try.ntmps55
    go_wp2_with fail
    refine (first_in _ _ _ _ _ _ hn hi _ HR.out).mono ?_; rintro e w' ⟨rfl, rfl⟩
    go_wp2_with fail
    refine (args_any _ _).mono ?_; rintro e w' ⟨rfl, rfl⟩; rw [HA.out]
    go_wp2_with fail
    refine wp_loop_rounds 2 ?_
    rw [rounds_succ]; go_wp2_with fail
    refine (first_in b off n cap j N hn (by omega) _ ?hx).mono ?_
    case hx => exact HR.out.below (by go_grown)
    rintro e w' ⟨rfl, rfl⟩
    go_wp2
    rw [rounds_succ]; go_wp2
    go_ret
    refine ⟨_, rfl, ?_, by go_grown⟩
    rw [HK.out]
    refine .inr ⟨_, _, rfl, by simp, fun j' hj => ?_⟩
    obtain rfl : j' = 0 := by simpa using hj
    simp [go_sem]
  · have HA := Lib.hid ha; have HK := Lib.hid hk; have HF := Lib.hid hff
    have hmk := mk2
    clear ha hk hff
    obtain ⟨j, rfl⟩ : ∃ j, i = j + 1 := ⟨i - 1, by omega⟩
    obtain ⟨q, rfl⟩ : ∃ q, f = q + 1 := ⟨f - 1, by omega⟩
    go_enter Try.func55, Try.ntmps55
    go_wp2_with fail
    refine (first_in _ _ _ _ _ _ hn hi _ HR.out).mono ?_; rintro e w' ⟨rfl, rfl⟩
    go_wp2_with fail
    refine (args_any _ _).mono ?_; rintro e w' ⟨rfl, rfl⟩; rw [HA.out]
    go_wp2_with fail
    refine wp_loop_rounds 3 ?_
    rw [rounds_succ]; go_wp2_with fail
    refine (first_in b off n cap j N hn (by omega) _ ?hx).mono ?_
    case hx => exact HR.out.below (by go_grown)
    rintro e w' ⟨rfl, rfl⟩
    rw [show fst N j = ((q + 1 : Nat) : Int) from HF.out]
    go_wp2_with fail
    rw [rounds_succ]; go_wp2_with fail
    refine (first_in b off n cap q N hn (by omega) _ ?hy).mono ?_
    case hy => exact HR.out.below (by go_grown)
    rintro e w' ⟨rfl, rfl⟩
    go_wp2
    rw [rounds_succ]; go_wp2
    go_ret
    refine ⟨_, rfl, ?_, by go_grown⟩
    rw [HK.out]
    refine .inr ⟨_, _, rfl, by simp, fun j' hj => ?_⟩
    have hj' : j' = 0 ∨ j' = 1 := by simp at hj; omega
    rcases hj' with rfl | rfl <;> simp [go_sem]
end Go.Proofs.Ytepegohopgnmnaa

namespace Go.Proofs.Ytepegohopgnmnaa
open Go.RowKit

/-- A node's cells. -/
def nval (x : Nd) : Nat → Value
  | 0 => .int .i64 x.k
  | 1 => .int .u64 x.a
  | 2 => .int .u64 x.b
  | 3 => .int .u64 x.c
  | 4 => .int .u64 x.d
  | 5 => .int .i64 x.lo
  | _ => .int .i64 x.hi
def nvs (N : Nat → Nd) (m : Nat) : List Value := (List.range (m * 7)).map fun t => nval (N (t / 7)) (t % 7)
theorem nvs_len (N : Nat → Nd) (m : Nat) : (nvs N m).length = m * 7 := by simp [nvs]
theorem nvs_get (N : Nat → Nd) (m t : Nat) (h : t < m * 7) : (nvs N m)[t]? = some (nval (N (t / 7)) (t % 7)) := by
  unfold nvs; rw [List.getElem?_map, List.getElem?_range h]; rfl
theorem nvs_one (N : Nat → Nd) (m : Nat) : ∀ u ∈ nvs N m, u.oneCell' = true := by
  intro u hu
  unfold nvs at hu
  obtain ⟨t, _, rfl⟩ := List.mem_map.1 hu
  unfold nval
  split <;> rfl
theorem ndAt_val {w : World} {b o : Nat} {x : Nd} (h : ndAt w b o x) (r : Nat) (hr : r < 7) : w.cell? ⟨b, o + r, none⟩ = some (nval x r) := by
  unfold ndAt at h
  obtain ⟨h0, h1, h2, h3, h4, h5, h6⟩ := h
  match r, hr with
  | 0, _ => exact h0
  | 1, _ => exact h1
  | 2, _ => exact h2
  | 3, _ => exact h3
  | 4, _ => exact h4
  | 5, _ => exact h5
  | 6, _ => exact h6
theorem rdN_cells {w : World} {b off m : Nat} {N : Nat → Nd} (h : rdN w b off m N) : ∀ j u, (nvs N m)[j]? = some u → w.cell? ((⟨b, off, none⟩ : Addr).add j) = some u := by
  intro j u hu
  have hj : j < m * 7 := by
    have := (List.getElem?_eq_some_iff.1 hu).1
    rwa [nvs_len] at this
  rw [nvs_get N m j hj] at hu
  have hv := ndAt_val (h (j / 7) (by omega)).2 (j % 7) (by omega)
  rw [show off + j / 7 * 7 + j % 7 = off + j by omega] at hv
  have ha : (⟨b, off, none⟩ : Addr).add j = ⟨b, off + j, none⟩ := by unfold Addr.add; split <;> simp_all
  rw [ha, hv, ← hu]
theorem rdN_of_owns {w : World} {base : Nat} {e : TypeId} {g n cap : Nat} {N : Nat → Nd} (h : w.ownsRow base e 7 (.slice (some ⟨g, 0, none⟩) n cap) n (nvs N n)) : rdN w g 0 n N := by
  intro j hj
  refine ⟨(h.lt g rfl).2, ?_⟩
  have c : ∀ r, r < 7 → w.cell? ⟨g, 0 + j * 7 + r, none⟩ = some (nval (N j) r) := fun r hr => by
    rw [h.cellAt _ (by omega), nvs_get _ _ _ (by omega), show (0 + j * 7 + r) / 7 = j by omega, show (0 + j * 7 + r) % 7 = r by omega]
  exact ⟨c 0 (by decide), c 1 (by decide), c 2 (by decide), c 3 (by decide), c 4 (by decide), c 5 (by decide), c 6 (by decide)⟩

end Go.Proofs.Ytepegohopgnmnaa
