/-
  The walk of the eighth laws' awake: the page's example holds, whatever Of and Text are that do as the page says.
  The walk of First: where a part begins.
  The walk of Kids: the last nodes of a node's arguments.
  The walks of Clone and Part: the nodes of a part.
  The walk of the reference's Firsts: where each node's part begins.
  The walks of the reference's Firsts at no node, and of its Kids.
-/
import Derived.Test.YtjbmkbgoahppfaaDoorPk3
import Derived.Test.YtjbmkbgoahppfaaDoorPk19
import Derived.Test.YtjbmkbgoahppfaaDoorPk18
import Derived.OwnWalk
import Derived.Laws.AppendOwnNone
namespace Go.Proofs.YtjbmkbgoahppfaaDoor
open Go.RowKit

def N8 (i : Nat) : Nd := if i = 0 then ⟨3, 0, 0, 0, 0, 0, 0⟩ else if i = 1 then ⟨1, 0, 8589934592, 0, 0, 0, 0⟩ else if i = 2 then ⟨5, 0, 0, 0, 0, 0, 0⟩ else if i = 3 then ⟨1, 0, 17179869184, 0, 0, 0, 0⟩ else if i = 4 then ⟨7, 0, 0, 0, 0, 0, -1⟩ else ⟨5, 0, 0, 0, 0, 0, 0⟩
theorem N8_tree : tree N8 6 := by decide
theorem N8_ok : ∀ j, j < 6 → okW (N8 j) := by
  intro j hj
  match j, hj with
  | 0, _ => (refine ⟨?_, ?_, ?_, ?_⟩ <;> decide)
  | 1, _ => (refine ⟨?_, ?_, ?_, ?_⟩ <;> decide)
  | 2, _ => (refine ⟨?_, ?_, ?_, ?_⟩ <;> decide)
  | 3, _ => (refine ⟨?_, ?_, ?_, ?_⟩ <;> decide)
  | 4, _ => (refine ⟨?_, ?_, ?_, ?_⟩ <;> decide)
  | 5, _ => (refine ⟨?_, ?_, ?_, ?_⟩ <;> decide)
theorem N8_show : showF (nfn (trnL N8 6)) 6 = (⟨#[98, 42, 40, 97, 36, 41]⟩, 0) := by decide +kernel
theorem abc_rev : revB ⟨#[97, 98, 99]⟩ = ⟨#[99, 98, 97]⟩ := by decide +kernel
theorem N8_rd (w : World) : rdN (w.alloc (.cells #[.int .i64 3, .int .u64 0, .int .u64 0, .int .u64 0, .int .u64 0, .int .i64 0, .int .i64 0, .int .i64 1, .int .u64 0, .int .u64 8589934592, .int .u64 0, .int .u64 0, .int .i64 0, .int .i64 0, .int .i64 5, .int .u64 0, .int .u64 0, .int .u64 0, .int .u64 0, .int .i64 0, .int .i64 0, .int .i64 1, .int .u64 0, .int .u64 17179869184, .int .u64 0, .int .u64 0, .int .i64 0, .int .i64 0, .int .i64 7, .int .u64 0, .int .u64 0, .int .u64 0, .int .u64 0, .int .i64 0, .int .i64 (-1), .int .i64 5, .int .u64 0, .int .u64 0, .int .u64 0, .int .u64 0, .int .i64 0, .int .i64 0] 45)) w.heap.size 0 6 N8 := fun j hj => by
  refine ⟨by simp, ?_⟩
  match j, hj with
  | 0, _ => (refine ⟨?_, ?_, ?_, ?_, ?_, ?_, ?_⟩ <;> simp [N8])
  | 1, _ => (refine ⟨?_, ?_, ?_, ?_, ?_, ?_, ?_⟩ <;> simp [N8])
  | 2, _ => (refine ⟨?_, ?_, ?_, ?_, ?_, ?_, ?_⟩ <;> simp [N8])
  | 3, _ => (refine ⟨?_, ?_, ?_, ?_, ?_, ?_, ?_⟩ <;> simp [N8])
  | 4, _ => (refine ⟨?_, ?_, ?_, ?_, ?_, ?_, ?_⟩ <;> simp [N8])
  | 5, _ => (refine ⟨?_, ?_, ?_, ?_, ?_, ?_, ?_⟩ <;> simp [N8])
theorem show_N8 (g c : Nat) (w : World) (hT : Tabbed w) (hr : rdN w g 0 6 (nfn (trnL N8 6))) :
    Calls Tryd.prog 16 #[.slice (some ⟨g, 0, none⟩) 6 c] w fun e w' => e = .returned (.tuple #[.string ⟨#[98, 42, 40, 97, 36, 41]⟩, .int .i64 0]) ∧ Below w.heap.size w w' := by
  refine (ctext_any (some ⟨g, 0, none⟩) 6 c (nfn (trnL N8 6)) (.inr ⟨g, 0, rfl, fun j hj => okW_trnL N8_tree N8_ok j hj⟩) w hT (fun b off h => by cases h; exact hr)).mono ?_
  unfold textPost
  rw [N8_show]
  exact fun _ _ h => h

set_option maxRecDepth 100000 in
set_option maxHeartbeats 4000000 in
theorem awake8_any (hTof : TofC) (hTtx : TtxC) (w : World) (hT : Tabbed w) :
    Calls Tryd.prog 6 #[] w fun e w' => e = .returned (.bool true) ∧ Below w.heap.size w w' := by
  have HF := Lib.hid hTof; have HX := Lib.hid hTtx; have HT := Lib.hid hT
  clear hTof hTtx hT
  obtain ⟨W3, hW3⟩ : ∃ W3, (((w.alloc (.cells #[.int .i64 1, .int .u64 0, .int .u64 8589934592, .int .u64 0, .int .u64 0, .int .i64 0, .int .i64 0] 45)).alloc (.cells #[.int .i64 1, .int .u64 0, .int .u64 17179869184, .int .u64 0, .int .u64 0, .int .i64 0, .int .i64 0] 45)).alloc (.cells #[.int .i64 5, .int .u64 0, .int .u64 0, .int .u64 0, .int .u64 0, .int .i64 0, .int .i64 0] 45)) = W3 := ⟨_, rfl⟩
  have HB3 : Hid (Below w.heap.size w W3) := Lib.hid (hW3 ▸ (((Below.refl _ _).alloc (Nat.le_refl _) _).alloc (by simp) _).alloc (by simp; omega) _)
  have hz : W3.heap.size = w.heap.size + 1 + 1 + 1 := by rw [← hW3]; simp
  have hr := N8_rd W3
  rw [hz] at hr
  have HR := Lib.hid hr
  have HB4 := Lib.hid (HB3.out.alloc HB3.out.size (.cells #[.int .i64 3, .int .u64 0, .int .u64 0, .int .u64 0, .int .u64 0, .int .i64 0, .int .i64 0, .int .i64 1, .int .u64 0, .int .u64 8589934592, .int .u64 0, .int .u64 0, .int .i64 0, .int .i64 0, .int .i64 5, .int .u64 0, .int .u64 0, .int .u64 0, .int .u64 0, .int .i64 0, .int .i64 0, .int .i64 1, .int .u64 0, .int .u64 17179869184, .int .u64 0, .int .u64 0, .int .i64 0, .int .i64 0, .int .i64 7, .int .u64 0, .int .u64 0, .int .u64 0, .int .u64 0, .int .i64 0, .int .i64 (-1), .int .i64 5, .int .u64 0, .int .u64 0, .int .u64 0, .int .u64 0, .int .i64 0, .int .i64 0] 45))
  have HW3 := Lib.hid hW3
  clear hr hz hW3
  go_enter Tryd.func6, Tryd.ntmps6
  go_wp2_with fail
  rw [HW3.out]
  refine (HF.out _ 6 6 N8 _ (.inr ⟨_, _, rfl, N8_ok⟩) (fun b off h => by cases h; exact HR.out)).mono ?_
  rintro e w1 ⟨h1, -⟩
  obtain ⟨v, rfl, ho, hb⟩ := h1 N8_tree
  have hl : (trnL N8 6).length = 6 := trnL_len N8_tree
  obtain ⟨g, c, hv, hrd, -⟩ := nds_own8 ho (by omega)
  rw [hl] at hv hrd
  subst hv
  have HB5 := Lib.hid (HB4.out.trans (hb.mono HB4.out.size))
  have HS := Lib.hid (show_N8 g c w1 (HT.out.to HB5.out) hrd)
  clear hb ho hrd hl HB3 HB4 HR h1 HF
  go_wp2_with fail
  refine HS.out.mono ?_
  rintro e w2 ⟨rfl, hb⟩
  have HB6 := Lib.hid (HB5.out.trans (hb.mono HB5.out.size))
  have hx := HX.out ⟨#[97, 98, 99]⟩ w2 (by decide)
  rw [abc_rev] at hx
  have HX2 := Lib.hid hx
  clear hb hx HX HS HB5
  go_wp2_with fail
  refine HX2.out.mono ?_
  rintro e w3 ⟨rfl, hb⟩
  have HB7 := Lib.hid (HB6.out.trans (hb.mono HB6.out.size))
  clear hb
  go_wp2_with fail
  go_returns
  exact ⟨rfl, HB7.out⟩
end Go.Proofs.YtjbmkbgoahppfaaDoor

namespace Go.Proofs.YtjbmkbgoahppfaaDoor
open Go.RowKit

theorem first_out (p : Option Addr) (n cap : Nat) (i : Int) (h : i < 0 ∨ (n : Int) ≤ i) (w : World) :
    Calls Tryd.prog 45 #[.slice p n cap, .int .i64 i] w fun e w' => e = .returned (.int .i64 (-1)) ∧ w = w' := by
  by_cases h1 : (n : Int) ≤ i
  · clear h
    go_enter Tryd.func45, Tryd.ntmps45
    go_wp2
    go_ret
    exact ⟨rfl, rfl⟩
  · have h0 : ¬ (0 ≤ i) := by omega
    clear h
    go_enter Tryd.func45, Tryd.ntmps45
    go_wp2
    refine wp_loop_rounds 1 ?_
    rw [rounds_succ]; go_wp2
    go_ret
    exact ⟨rfl, rfl⟩

/-- What holds at the loop's head. -/
def fstRel (N : Nat → Nd) (i : Nat) (mi at_ : Value) : Prop :=
  (∃ p m : Nat, p ≤ i ∧ m ≤ 2 * (i - p) ∧ mi = .int .i64 ((m : Int) + 1) ∧ at_ = .int .i64 (p : Int) ∧ Hid (fst N i = back N (p + 1) (m + 1))) ∨ (at_ = .int .i64 (-1) ∧ Hid (fst N i = -1))
theorem fst_rel {N : Nat → Nd} {i p m : Nat} {x y : Int} (hp : p ≤ i) (hm : m + 1 ≤ 2 * (i - p) + 2) (hx : x = (m : Int) + 1) (hy : y = (p : Int) - 1) (h : fst N i = back N p (m + 1)) : fstRel N i (.int .i64 x) (.int .i64 y) := by
  subst hx hy
  cases p with
  | zero => exact .inr ⟨rfl, Lib.hid (by rw [h, back_none])⟩
  | succ p => exact .inl ⟨p, m, by omega, by omega, rfl, by rw [show ((p + 1 : Nat) : Int) - 1 = p by omega], Lib.hid h⟩

set_option maxHeartbeats 1000000 in
theorem first_in (b off n cap i : Nat) (N : Nat → Nd) (hn : n ≤ 1000) (hi : i < n) (w : World) (hr : rdN w b off n N) :
    Calls Tryd.prog 45 #[.slice (some ⟨b, off, none⟩) n cap, .int .i64 (i : Int)] w fun e w' => e = .returned (.int .i64 (fst N i)) ∧ w = w' := by
  have HR := Lib.hid hr
  have d0 : decide (n ≤ i) = false := decide_eq_false (by omega)
  clear hr
  go_enter Tryd.func45, Tryd.ntmps45
  go_wp2
  go_loop [5, 6] (fun mi at_ => fstRel N i mi at_) (fun _ at_ => (intOf at_ + 1).toNat)
  case atStart => exact .inl ⟨i, 0, Nat.le_refl _, Nat.zero_le _, rfl, rfl, Lib.hid rfl⟩
  case round =>
    rcases hrel with ⟨p, m, hp, hm, rfl, rfl, HF⟩ | ⟨rfl, HF⟩
    · have hc := (HR.out p (by omega)).2.1
      have h0 : (0 : Int) ≤ (p : Int) := by omega
      have h1 : (p : Int) < (n : Int) := by omega
      rcases ar_cases (N p).k with ⟨ha, -⟩ | ⟨ha, -⟩ | ⟨ha, -⟩ | ⟨ha, -⟩
      · have HA := Lib.hid ha
        have HB : Hid (fst N i = back N p (m + 0)) := Lib.hid (by rw [HF.out, back_succ, if_neg (by omega), ha]; rfl)
        clear ha HF
        rcases m with _ | m
        · go_wp2_with (go_at_call 27; refine (args_any _ _).mono ?_; rintro e w' ⟨rfl, rfl⟩; rw [HA.out])
          go_ret
          exact ⟨arI (by rw [HB.out, back_zero]), rfl⟩
        · go_wp2_with (go_at_call 27; refine (args_any _ _).mono ?_; rintro e w' ⟨rfl, rfl⟩; rw [HA.out])
          go_round
          case rel => exact fst_rel hp (by omega) (by first | rfl | omega) (by first | rfl | omega) HB.out
          case measure => simp [intOf]
      · have HA := Lib.hid ha
        have HB : Hid (fst N i = back N p (m + 1)) := Lib.hid (by rw [HF.out, back_succ, if_neg (by omega), ha]; rfl)
        clear ha HF
        have t0 : ((m : Int) + 1 == 0) = false := beq_eq_false_iff_ne.2 (by omega)
        go_wp2_with (go_at_call 27; refine (args_any _ _).mono ?_; rintro e w' ⟨rfl, rfl⟩; rw [HA.out])
        go_round
        case rel => exact fst_rel hp (by omega) (by first | rfl | omega) (by first | rfl | omega) HB.out
        case measure => simp [intOf]
      · have HA := Lib.hid ha
        have HB : Hid (fst N i = back N p (m + 2)) := Lib.hid (by rw [HF.out, back_succ, if_neg (by omega), ha]; rfl)
        clear ha HF
        have t0 : ((m : Int) + 1 + 1 == 0) = false := beq_eq_false_iff_ne.2 (by omega)
        go_wp2_with (go_at_call 27; refine (args_any _ _).mono ?_; rintro e w' ⟨rfl, rfl⟩; rw [HA.out])
        go_round
        case rel => exact fst_rel hp (by omega) (by first | rfl | omega) (by first | rfl | omega) HB.out
        case measure => simp [intOf]
      · have HA := Lib.hid ha
        clear ha
        go_wp2_with (go_at_call 27; refine (args_any _ _).mono ?_; rintro e w' ⟨rfl, rfl⟩; rw [HA.out])
        go_ret
        exact ⟨arI (by rw [HF.out, back_succ, if_pos (by rw [HA.out]; decide)]), rfl⟩
    · go_wp2
      go_ret
      exact ⟨arI (by rw [HF.out]), rfl⟩
end Go.Proofs.YtjbmkbgoahppfaaDoor

namespace Go.Proofs.YtjbmkbgoahppfaaDoor
open Go.RowKit

/-- A node whose part begins somewhere: what its arguments are. -/
theorem kids_back {N : Nat → Nd} {i : Nat} (h : 0 ≤ fst N i) : (ar (N i).k = 0 ∧ kids N i = [] ∧ fst N i = i) ∨
    (ar (N i).k = 1 ∧ 0 < i ∧ kids N i = [(i : Int) - 1] ∧ fst N i = fst N (i - 1) ∧ 0 ≤ fst N (i - 1)) ∨
    (ar (N i).k = 2 ∧ ∃ f : Nat, 0 < f ∧ f + 1 ≤ i ∧ fst N (i - 1) = f ∧ kids N i = [(f : Int) - 1, (i : Int) - 1] ∧ fst N i = fst N (f - 1) ∧ 0 ≤ fst N (f - 1)) := by
  rw [fst_eq] at h
  have e := fst_eq N i
  rcases ar_cases (N i).k with ⟨ha, -⟩ | ⟨ha, -⟩ | ⟨ha, -⟩ | ⟨ha, -⟩
  · rw [ha] at h e; simp [back_zero] at e
    exact .inl ⟨ha, by simp [kids, ha], e⟩
  · rw [ha] at h e
    rw [if_neg (by omega)] at h e
    have hi : 0 < i := by
      rcases Nat.eq_zero_or_pos i with rfl | h0
      · rw [show ((1 : Int).toNat) = 0 + 1 from rfl, back_none] at h; omega
      · exact h0
    have e1 : fst N (i - 1) = back N i 1 := by unfold fst; rw [show i - 1 + 1 = i by omega]
    refine .inr (.inl ⟨ha, hi, by simp [kids, ha], ?_, ?_⟩)
    · rw [e, e1]; rfl
    · rw [e1]; exact h
  · rw [ha] at h e
    rw [if_neg (by omega)] at h e
    have hi : 0 < i := by
      rcases Nat.eq_zero_or_pos i with rfl | h0
      · rw [show ((2 : Int).toNat) = 1 + 1 from rfl, back_none] at h; omega
      · exact h0
    have hs : back N i (Int.toNat 2) = if fst N (i - 1) < 0 then -1 else back N (fst N (i - 1)).toNat 1 := by
      have := back_step N (i - 1) 1
      rwa [show i - 1 + 1 = i by omega] at this
    rw [hs] at h e
    have hb := fst_bd N (i - 1)
    by_cases h0 : fst N (i - 1) < 0
    · rw [if_pos h0] at h; omega
    · rw [if_neg h0] at h e
      obtain ⟨f, hf⟩ : ∃ f : Nat, fst N (i - 1) = f := ⟨(fst N (i - 1)).toNat, by omega⟩
      rw [hf] at h e
      simp only [Int.toNat_natCast] at h e
      have hf0 : 0 < f := by
        rcases Nat.eq_zero_or_pos f with rfl | h0
        · rw [back_none] at h; omega
        · exact h0
      have e1 : fst N (f - 1) = back N f 1 := by unfold fst; rw [show f - 1 + 1 = f by omega]
      exact .inr (.inr ⟨ha, f, hf0, by omega, hf, by simp [kids, ha, hf], by rw [e, e1], by rw [e1]; exact h⟩)
  · rw [ha] at h; simp at h

theorem mk0 : ∀ w, (Instr.makeSlice 51 (.int .i64 0) (.int .i64 0)).run Tryd.prog w = .ok (.slice (some ⟨w.heap.size, 0, none⟩) 0 0) (w.alloc (.cells #[] 3)) := fun _ => by kernel_rfl
theorem mk1 : ∀ w, (Instr.makeSlice 51 (.int .i64 1) (.int .i64 1)).run Tryd.prog w = .ok (.slice (some ⟨w.heap.size, 0, none⟩) 1 1) (w.alloc (.cells #[.int .i64 0] 3)) := fun _ => by kernel_rfl
theorem mk2 : ∀ w, (Instr.makeSlice 51 (.int .i64 2) (.int .i64 2)).run Tryd.prog w = .ok (.slice (some ⟨w.heap.size, 0, none⟩) 2 2) (w.alloc (.cells #[.int .i64 0, .int .i64 0] 3)) := fun _ => by kernel_rfl

theorem kids_out (p : Option Addr) (n cap : Nat) (i : Int) (h : i < 0 ∨ (n : Int) ≤ i) (w : World) :
    Calls Tryd.prog 30 #[.slice p n cap, .int .i64 i] w fun e w' => e = .returned (.slice none 0 0) ∧ w = w' := by
  go_enter Tryd.func30, Tryd.ntmps30
  go_wp2_with (go_at_call 45; refine (first_out _ _ _ _ h _).mono ?_; rintro e w' ⟨rfl, rfl⟩)
  go_ret
  exact ⟨rfl, rfl⟩
theorem kids_not (b off n cap i : Nat) (N : Nat → Nd) (hn : n ≤ 1000) (hi : i < n) (hf : fst N i < 0) (w : World) (hr : rdN w b off n N) :
    Calls Tryd.prog 30 #[.slice (some ⟨b, off, none⟩) n cap, .int .i64 (i : Int)] w fun e w' => e = .returned (.slice none 0 0) ∧ w = w' := by
  go_enter Tryd.func30, Tryd.ntmps30
  go_wp2_with (go_at_call 45; refine (first_in _ _ _ _ _ _ hn hi _ hr).mono ?_; rintro e w' ⟨rfl, rfl⟩)
  go_ret
  exact ⟨rfl, rfl⟩

set_option maxHeartbeats 1000000 in
theorem kids_is (b off n cap i : Nat) (N : Nat → Nd) (hn : n ≤ 1000) (hi : i < n) (hf : 0 ≤ fst N i) (w : World) (hr : rdN w b off n N) :
    Calls Tryd.prog 30 #[.slice (some ⟨b, off, none⟩) n cap, .int .i64 (i : Int)] w fun e w' => ∃ v, e = .returned v ∧ rdI w' v (kids N i) ∧ Below w.heap.size w w' := by
  have hc := (hr i hi).2.1
  have hb := (hr i hi).1
  have h0 : (0 : Int) ≤ (i : Int) := by omega
  have h1 : (i : Int) < (n : Int) := by omega
  have t0 : decide (fst N i < 0) = false := decide_eq_false (by omega)
  have HR := Lib.hid hr
  clear hr
  have hib : (i : Int) < 1000 := by omega
  rcases kids_back hf with ⟨ha, hk, -⟩ | ⟨ha, hi0, hk, -, hg⟩ | ⟨ha, f, hf0, hfi, hff, hk, -, hg⟩
  · have HA := Lib.hid ha; have HK := Lib.hid hk
    have hmk := mk0
    clear ha hk
    go_enter Tryd.func30, Tryd.ntmps30
    go_wp2_with fail
    refine (first_in _ _ _ _ _ _ hn hi _ HR.out).mono ?_; rintro e w' ⟨rfl, rfl⟩
    go_wp2_with fail
    refine (args_any _ _).mono ?_; rintro e w' ⟨rfl, rfl⟩; rw [HA.out]
    go_wp2_with fail
    refine wp_loop_rounds 1 ?_
    rw [rounds_succ]; go_wp2
    go_ret
    exact ⟨_, rfl, by rw [HK.out]; exact .inl ⟨_, _, rfl, rfl⟩, (Below.refl _ _).alloc (Nat.le_refl _) _⟩
  · have HA := Lib.hid ha; have HK := Lib.hid hk
    have hmk := mk1
    clear ha hk
    obtain ⟨j, rfl⟩ : ∃ j, i = j + 1 := ⟨i - 1, by omega⟩
    go_enter Tryd.func30, Tryd.ntmps30
    go_wp2_with fail
    refine (first_in _ _ _ _ _ _ hn hi _ HR.out).mono ?_; rintro e w' ⟨rfl, rfl⟩
    go_wp2_with fail
    refine (args_any _ _).mono ?_; rintro e w' ⟨rfl, rfl⟩; rw [HA.out]
    go_wp2_with fail
    refine wp_loop_rounds 2 ?_
    rw [rounds_succ]; go_wp2_with fail
    refine (first_in b off n cap j N hn (by omega) _ ?hx).mono ?_
    case hx => exact HR.out.below (by go_grown)
    rintro e w' ⟨rfl, rfl⟩
    go_wp2
    rw [rounds_succ]; go_wp2
    go_ret
    refine ⟨_, rfl, ?_, by go_grown⟩
    rw [HK.out]
    refine .inr ⟨_, _, rfl, by simp, fun j' hj => ?_⟩
    obtain rfl : j' = 0 := by simpa using hj
    simp [go_sem]
  · have HA := Lib.hid ha; have HK := Lib.hid hk; have HF := Lib.hid hff
    have hmk := mk2
    clear ha hk hff
    obtain ⟨j, rfl⟩ : ∃ j, i = j + 1 := ⟨i - 1, by omega⟩
    obtain ⟨q, rfl⟩ : ∃ q, f = q + 1 := ⟨f - 1, by omega⟩
    go_enter Tryd.func30, Tryd.ntmps30
    go_wp2_with fail
    refine (first_in _ _ _ _ _ _ hn hi _ HR.out).mono ?_; rintro e w' ⟨rfl, rfl⟩
    go_wp2_with fail
    refine (args_any _ _).mono ?_; rintro e w' ⟨rfl, rfl⟩; rw [HA.out]
    go_wp2_with fail
    refine wp_loop_rounds 3 ?_
    rw [rounds_succ]; go_wp2_with fail
    refine (first_in b off n cap j N hn (by omega) _ ?hx).mono ?_
    case hx => exact HR.out.below (by go_grown)
    rintro e w' ⟨rfl, rfl⟩
    rw [show fst N j = ((q + 1 : Nat) : Int) from HF.out]
    go_wp2_with fail
    rw [rounds_succ]; go_wp2_with fail
    refine (first_in b off n cap q N hn (by omega) _ ?hy).mono ?_
    case hy => exact HR.out.below (by go_grown)
    rintro e w' ⟨rfl, rfl⟩
    go_wp2
    rw [rounds_succ]; go_wp2
    go_ret
    refine ⟨_, rfl, ?_, by go_grown⟩
    rw [HK.out]
    refine .inr ⟨_, _, rfl, by simp, fun j' hj => ?_⟩
    have hj' : j' = 0 ∨ j' = 1 := by simp at hj; omega
    rcases hj' with rfl | rfl <;> simp [go_sem]
end Go.Proofs.YtjbmkbgoahppfaaDoor

namespace Go.Proofs.YtjbmkbgoahppfaaDoor
open Go.RowKit

/-- A node's cells. -/
def nval (x : Nd) : Nat → Value
  | 0 => .int .i64 x.k
  | 1 => .int .u64 x.a
  | 2 => .int .u64 x.b
  | 3 => .int .u64 x.c
  | 4 => .int .u64 x.d
  | 5 => .int .i64 x.lo
  | _ => .int .i64 x.hi
def nvs (N : Nat → Nd) (m : Nat) : List Value := (List.range (m * 7)).map fun t => nval (N (t / 7)) (t % 7)
theorem nvs_len (N : Nat → Nd) (m : Nat) : (nvs N m).length = m * 7 := by simp [nvs]
theorem nvs_get (N : Nat → Nd) (m t : Nat) (h : t < m * 7) : (nvs N m)[t]? = some (nval (N (t / 7)) (t % 7)) := by
  unfold nvs; rw [List.getElem?_map, List.getElem?_range h]; rfl
theorem nvs_one (N : Nat → Nd) (m : Nat) : ∀ u ∈ nvs N m, u.oneCell' = true := by
  intro u hu
  unfold nvs at hu
  obtain ⟨t, _, rfl⟩ := List.mem_map.1 hu
  unfold nval
  split <;> rfl
theorem ndAt_val {w : World} {b o : Nat} {x : Nd} (h : ndAt w b o x) (r : Nat) (hr : r < 7) : w.cell? ⟨b, o + r, none⟩ = some (nval x r) := by
  unfold ndAt at h
  obtain ⟨h0, h1, h2, h3, h4, h5, h6⟩ := h
  match r, hr with
  | 0, _ => exact h0
  | 1, _ => exact h1
  | 2, _ => exact h2
  | 3, _ => exact h3
  | 4, _ => exact h4
  | 5, _ => exact h5
  | 6, _ => exact h6
theorem rdN_cells {w : World} {b off m : Nat} {N : Nat → Nd} (h : rdN w b off m N) : ∀ j u, (nvs N m)[j]? = some u → w.cell? ((⟨b, off, none⟩ : Addr).add j) = some u := by
  intro j u hu
  have hj : j < m * 7 := by
    have := (List.getElem?_eq_some_iff.1 hu).1
    rwa [nvs_len] at this
  rw [nvs_get N m j hj] at hu
  have hv := ndAt_val (h (j / 7) (by omega)).2 (j % 7) (by omega)
  rw [show off + j / 7 * 7 + j % 7 = off + j by omega] at hv
  have ha : (⟨b, off, none⟩ : Addr).add j = ⟨b, off + j, none⟩ := by unfold Addr.add; split <;> simp_all
  rw [ha, hv, ← hu]
theorem rdN_of_owns {w : World} {base : Nat} {e : TypeId} {g n cap : Nat} {N : Nat → Nd} (h : w.ownsRow base e 7 (.slice (some ⟨g, 0, none⟩) n cap) n (nvs N n)) : rdN w g 0 n N := by
  intro j hj
  refine ⟨(h.lt g rfl).2, ?_⟩
  have c : ∀ r, r < 7 → w.cell? ⟨g, 0 + j * 7 + r, none⟩ = some (nval (N j) r) := fun r hr => by
    rw [h.cellAt _ (by omega), nvs_get _ _ _ (by omega), show (0 + j * 7 + r) / 7 = j by omega, show (0 + j * 7 + r) % 7 = r by omega]
  exact ⟨c 0 (by decide), c 1 (by decide), c 2 (by decide), c 3 (by decide), c 4 (by decide), c 5 (by decide), c 6 (by decide)⟩

end Go.Proofs.YtjbmkbgoahppfaaDoor

namespace Go.Proofs.YtjbmkbgoahppfaaDoor
open Go.RowKit

theorem infoInt : (Tryd.prog.info? 3).map (fun i => (i.zero, i.size, i.bytes)) = some (some (.int .i64 0), 1, 8) := by kernel_rfl
def fsts (N : Nat → Nd) (k : Nat) : List Int := (List.range k).map (fst N)
theorem fsts_succ (N : Nat → Nd) (k : Nat) : fsts N (k + 1) = fsts N k ++ [fst N k] := by unfold fsts; rw [List.range_succ, List.map_append]; rfl
theorem fsts_len (N : Nat → Nd) (k : Nat) : (fsts N k).length = k := by simp [fsts]
theorem fsts_get (N : Nat → Nd) (k j : Nat) (h : j < k) : (ivs (fsts N k))[j]? = some (.int .i64 (fst N j)) := by simp [ivs, fsts, h]

/-- What holds at the head of the inner loop. -/
def fsRel (N : Nat → Nd) (k : Nat) (x y : Value) : Prop := ∃ (fr : Int) (m : Nat), x = .int .i64 fr ∧ y = .int .i64 (m : Int) ∧ m ≤ 2 ∧ -1 ≤ fr ∧ fr ≤ k ∧ Hid (fst N k = if fr < 0 then -1 else back N fr.toNat m)
theorem fsRel_none {N : Nat → Nd} {k m : Nat} (hm : m ≤ 1) (h : fst N k = back N 0 (m + 1)) (y : Int) (hy : y = m) : fsRel N k (.int .i64 (-1)) (.int .i64 y) :=
  ⟨-1, m, rfl, by rw [hy], by omega, by omega, by omega, Lib.hid (by rw [h, back_none]; rfl)⟩
theorem fsRel_step {N : Nat → Nd} {k q m : Nat} (hm : m ≤ 1) (hq : q + 1 ≤ k) (h : fst N k = back N (q + 1) (m + 1)) (y : Int) (hy : y = m) : fsRel N k (.int .i64 (fst N q)) (.int .i64 y) := by
  have hb := fst_bd N q
  refine ⟨fst N q, m, rfl, by rw [hy], by omega, by omega, by omega, Lib.hid ?_⟩
  rw [h, back_step]

theorem fs_end {N : Nat → Nd} {k : Nat} {fr : Int} (h : fst N k = if fr < 0 then -1 else back N fr.toNat 0) (h0 : -1 ≤ fr) : fst N k = fr := by
  rw [h]
  split
  · omega
  · rw [back_zero]; omega

set_option maxRecDepth 100000 in
set_option maxHeartbeats 4000000 in
theorem firsts_some (b off n cap : Nat) (N : Nat → Nd) (hn : n ≤ 1000) (w : World) (hr : rdN w b off n N) :
    Calls Tryd.prog 20 #[.slice (some ⟨b, off, none⟩) n cap] w fun e w' => ∃ v, e = .returned v ∧ w'.ownsRow w.heap.size 3 1 v n (ivs (fsts N n)) ∧ Below w.heap.size w w' := by
  obtain ⟨i0, hi, hz0, hz1, hz2⟩ := info_parts infoInt
  have HR := Lib.hid hr
  clear hr
  go_enter Tryd.func20, Tryd.ntmps20
  go_wp2
  go_loopw [3, 4] (fun v i wr => ∃ k : Nat, k ≤ n ∧ i = .int .i64 k ∧ wr.ownsRow w.heap.size 3 1 v k (ivs (fsts N k)) ∧ Below w.heap.size w wr) (fun _ i _ => n - (intOf i).toNat)
  case atStart => exact ⟨0, Nat.zero_le _, rfl, World.ownsRow_nil _ _ _ _, Below.refl _ _⟩
  case round =>
    obtain ⟨k, hk, rfl, hown, hB⟩ := hrel
    obtain ⟨wo, rfl⟩ : ∃ wo : World, wo = wr := ⟨_, rfl⟩
    by_cases hlt : k < n
    · have hc := ((HR.out.below hB) k hlt).2.1
      have hsz := hB.size
      have h0 : (0 : Int) ≤ (k : Int) := by omega
      have h1 : (k : Int) < (n : Int) := by omega
      have e0 := fst_eq N k
      have hab := ar_bd (N k).k
      obtain ⟨A, HA⟩ : ∃ A, Hid (ar (N k).k = A) := ⟨_, Lib.hid rfl⟩
      rw [HA.out] at e0 hab
      have E0 := Lib.hid e0
      clear e0
      rcases id hown.2 with ⟨rfl, hz⟩ | ⟨g, cp, cur, rfl, -⟩
      · have hkz : k ≤ 0 := by omega
        clear hz
        go_wp2_with fail
        refine (rargs_any _ _).mono ?_; rintro e w1 ⟨rfl, hb1⟩; rw [HA.out]
        have hc1 : w1.cell? ⟨b, off + k * 7, none⟩ = some (.int .i64 (N k).k) := by rw [hb1.cell (p := ⟨b, off + k * 7, none⟩) (HR.out.below hB k hlt).1]; exact hc
        clear hc
        rcases Int.lt_or_le A 0 with hneg | hpos
        · obtain rfl : A = -1 := by omega
          go_wp2_with fail
          refine wp_loop_rounds 1 ?_
          rw [rounds_succ]
          obtain ⟨fr, hfr⟩ : ∃ fr : Int, fr = -1 := ⟨_, rfl⟩
          have HF : Hid (fst N k = fr) := Lib.hid (by rw [E0.out, if_pos (by omega), hfr])
          subst hfr
          have HE : Hid (fst N k = -1) := Lib.hid (HF.out)
          clear HF
          go_wp2_with fail
          refine (rargs_any _ _).mono ?_; rintro e w2 ⟨rfl, hb2⟩; rw [HA.out]
          have hown2 := owns_below (owns_below hown hb1) hb2
          have HB2 := Lib.hid ((hB.trans (hb1.mono hsz)).trans (hb2.mono (Nat.le_trans hsz hb1.size)))
          have hsz2 := HB2.out.size
          clear hown hb1 hb2 hB hsz
          go_wp2_with (at_builtin; refine wpList_append_own _ rfl _ _ 51 rfl w.heap.size 3 i0 (.int .i64 0) 1 8 Tryd.underlying51 hi hz0 hz1 hz2 rfl (by decide) _ _ _ rfl (hown2.alloc _) ⟨w2.heap.size, 0, none⟩ 1 1 [.int .i64 (-1)] rfl rfl ?u1 ?u2 ?u3 ?u4 ?u5 ?_)
          case u1 =>
            intro x u hx
            match x, hx with
            | 0, hx => simp at hx; subst hx; simp [Addr.add]
          case u2 => intro u hu; simp at hu; subst hu; rfl
          case u3 => unfold maxLen; omega
          case u4 => omega
          case u5 => simp; omega
          intro v' w3 hown3 hgrow _
          have HW3 : Hid (Below w.heap.size w w3) := Lib.hid ((HB2.out.alloc hsz2 _).grown hgrow (by simp; omega) fun r hr => (hown2.lt r hr).1)
          have HO : Hid (w3.ownsRow w.heap.size 3 1 v' (k + 1) (ivs (fsts N (k + 1)))) := Lib.hid (by rw [fsts_succ, HE.out]; simpa [ivs] using hown3)
          clear hown3 hgrow hown2 HB2 hsz2
          go_wp2
          go_roundw
          case rel => exact ⟨k + 1, by omega, by go_num, HO.out, HW3.out⟩
          case measure => simp [intOf]; omega
        · obtain ⟨a, rfl⟩ := Int.eq_ofNat_of_zero_le hpos
          have ha2 : a ≤ 2 := by omega
          go_wp2_with fail
          go_loop [5, 6] (fun x y => fsRel N k x y) (fun _ y => (intOf y).toNat)
          case atStart => exact ⟨(k : Int), a, rfl, rfl, ha2, by omega, by omega, Lib.hid (by rw [E0.out, if_neg (by omega), if_neg (by omega)]; simp)⟩
          case round =>
            obtain ⟨fr, m, rfl, rfl, hm, hfr0, hfr1, HF⟩ := hrel
            have d2 : decide ((a : Int) < 0) = false := decide_eq_false (by omega)
            rcases m with _ | m
            · have d0 : decide ((0 : Nat) < 0) = false := by decide
              have HE : Hid (fst N k = fr) := Lib.hid (fs_end HF.out hfr0)
              clear HF
              go_wp2_with fail
              refine (rargs_any _ _).mono ?_; rintro e w2 ⟨rfl, hb2⟩; rw [HA.out]
              have hown2 := owns_below (owns_below hown hb1) hb2
              have HB2 := Lib.hid ((hB.trans (hb1.mono hsz)).trans (hb2.mono (Nat.le_trans hsz hb1.size)))
              have hsz2 := HB2.out.size
              clear hown hb1 hb2 hB hsz
              go_wp2_with (at_builtin; refine wpList_append_own _ rfl _ _ 51 rfl w.heap.size 3 i0 (.int .i64 0) 1 8 Tryd.underlying51 hi hz0 hz1 hz2 rfl (by decide) _ _ _ rfl (hown2.alloc _) ⟨w2.heap.size, 0, none⟩ 1 1 [.int .i64 fr] rfl rfl ?u1 ?u2 ?u3 ?u4 ?u5 ?_)
              case u1 =>
                intro x u hx
                match x, hx with
                | 0, hx => simp at hx; subst hx; simp [Addr.add]
              case u2 => intro u hu; simp at hu; subst hu; rfl
              case u3 => unfold maxLen; omega
              case u4 => omega
              case u5 => simp; omega
              intro v' w3 hown3 hgrow _
              have HW3 : Hid (Below w.heap.size w w3) := Lib.hid ((HB2.out.alloc hsz2 _).grown hgrow (by simp; omega) fun r hr => (hown2.lt r hr).1)
              have HO : Hid (w3.ownsRow w.heap.size 3 1 v' (k + 1) (ivs (fsts N (k + 1)))) := Lib.hid (by rw [fsts_succ, HE.out]; simpa [ivs] using hown3)
              clear hown3 hgrow hown2 HB2 hsz2
              go_wp2
              go_roundw
              case rel => exact ⟨k + 1, by omega, by go_num, HO.out, HW3.out⟩
              case measure => simp [intOf]; omega
            · rcases Int.lt_or_le fr 0 with hn0 | hp0
              · have d0 : decide ((0 : Int) ≤ fr) = false := decide_eq_false (by omega)
                have d1 : decide ((0 : Int) < (m : Int) + 1) = true := decide_eq_true (by omega)
                have HE : Hid (fst N k = fr) := Lib.hid (by have := HF.out; rw [if_pos hn0] at this; omega)
                clear HF
                go_wp2_with fail
                refine (rargs_any _ _).mono ?_; rintro e w2 ⟨rfl, hb2⟩; rw [HA.out]
                have hown2 := owns_below (owns_below hown hb1) hb2
                have HB2 := Lib.hid ((hB.trans (hb1.mono hsz)).trans (hb2.mono (Nat.le_trans hsz hb1.size)))
                have hsz2 := HB2.out.size
                clear hown hb1 hb2 hB hsz
                go_wp2_with (at_builtin; refine wpList_append_own _ rfl _ _ 51 rfl w.heap.size 3 i0 (.int .i64 0) 1 8 Tryd.underlying51 hi hz0 hz1 hz2 rfl (by decide) _ _ _ rfl (hown2.alloc _) ⟨w2.heap.size, 0, none⟩ 1 1 [.int .i64 fr] rfl rfl ?u1 ?u2 ?u3 ?u4 ?u5 ?_)
                case u1 =>
                  intro x u hx
                  match x, hx with
                  | 0, hx => simp at hx; subst hx; simp [Addr.add]
                case u2 => intro u hu; simp at hu; subst hu; rfl
                case u3 => unfold maxLen; omega
                case u4 => omega
                case u5 => simp; omega
                intro v' w3 hown3 hgrow _
                have HW3 : Hid (Below w.heap.size w w3) := Lib.hid ((HB2.out.alloc hsz2 _).grown hgrow (by simp; omega) fun r hr => (hown2.lt r hr).1)
                have HO : Hid (w3.ownsRow w.heap.size 3 1 v' (k + 1) (ivs (fsts N (k + 1)))) := Lib.hid (by rw [fsts_succ, HE.out]; simpa [ivs] using hown3)
                clear hown3 hgrow hown2 HB2 hsz2
                go_wp2
                go_roundw
                case rel => exact ⟨k + 1, by omega, by go_num, HO.out, HW3.out⟩
                case measure => simp [intOf]; omega
              · obtain ⟨p, rfl⟩ := Int.eq_ofNat_of_zero_le hp0
                have HF2 : Hid (fst N k = back N p (m + 1)) := Lib.hid (by have := HF.out; rw [if_neg (by omega)] at this; simpa using this)
                clear HF
                rcases p with _ | q
                · go_wp2
                  go_round
                  case rel => exact fsRel_none (by omega) HF2.out _ (by omega)
                  case measure => simp [intOf]
                · exfalso; omega
      · have HG : Hid (∀ q, q < k → wo.cell? ⟨g, q, none⟩ = some (.int .i64 (fst N q))) := Lib.hid fun q hq => by rw [hown.cellAt q (by omega), fsts_get N k q hq]
        have hgl : g < wo.heap.size := (hown.lt g rfl).2
        go_wp2_with fail
        refine (rargs_any _ _).mono ?_; rintro e w1 ⟨rfl, hb1⟩; rw [HA.out]
        have HG1 : Hid (∀ q, q < k → w1.cell? ⟨g, q, none⟩ = some (.int .i64 (fst N q))) := Lib.hid fun q hq => by rw [hb1.cell (p := ⟨g, q, none⟩) hgl]; exact HG.out q hq
        clear HG
        have hc1 : w1.cell? ⟨b, off + k * 7, none⟩ = some (.int .i64 (N k).k) := by rw [hb1.cell (p := ⟨b, off + k * 7, none⟩) (HR.out.below hB k hlt).1]; exact hc
        clear hc
        rcases Int.lt_or_le A 0 with hneg | hpos
        · obtain rfl : A = -1 := by omega
          go_wp2_with fail
          refine wp_loop_rounds 1 ?_
          rw [rounds_succ]
          obtain ⟨fr, hfr⟩ : ∃ fr : Int, fr = -1 := ⟨_, rfl⟩
          have HF : Hid (fst N k = fr) := Lib.hid (by rw [E0.out, if_pos (by omega), hfr])
          subst hfr
          have HE : Hid (fst N k = -1) := Lib.hid (HF.out)
          clear HF
          go_wp2_with fail
          refine (rargs_any _ _).mono ?_; rintro e w2 ⟨rfl, hb2⟩; rw [HA.out]
          have hown2 := owns_below (owns_below hown hb1) hb2
          have HB2 := Lib.hid ((hB.trans (hb1.mono hsz)).trans (hb2.mono (Nat.le_trans hsz hb1.size)))
          have hsz2 := HB2.out.size
          clear hown hb1 hb2 hB hsz
          go_wp2_with (at_builtin; refine wpList_append_own _ rfl _ _ 51 rfl w.heap.size 3 i0 (.int .i64 0) 1 8 Tryd.underlying51 hi hz0 hz1 hz2 rfl (by decide) _ _ _ rfl (hown2.alloc _) ⟨w2.heap.size, 0, none⟩ 1 1 [.int .i64 (-1)] rfl rfl ?u1 ?u2 ?u3 ?u4 ?u5 ?_)
          case u1 =>
            intro x u hx
            match x, hx with
            | 0, hx => simp at hx; subst hx; simp [Addr.add]
          case u2 => intro u hu; simp at hu; subst hu; rfl
          case u3 => unfold maxLen; omega
          case u4 => omega
          case u5 => simp; omega
          intro v' w3 hown3 hgrow _
          have HW3 : Hid (Below w.heap.size w w3) := Lib.hid ((HB2.out.alloc hsz2 _).grown hgrow (by simp; omega) fun r hr => (hown2.lt r hr).1)
          have HO : Hid (w3.ownsRow w.heap.size 3 1 v' (k + 1) (ivs (fsts N (k + 1)))) := Lib.hid (by rw [fsts_succ, HE.out]; simpa [ivs] using hown3)
          clear hown3 hgrow hown2 HB2 hsz2
          go_wp2
          go_roundw
          case rel => exact ⟨k + 1, by omega, by go_num, HO.out, HW3.out⟩
          case measure => simp [intOf]; omega
        · obtain ⟨a, rfl⟩ := Int.eq_ofNat_of_zero_le hpos
          have ha2 : a ≤ 2 := by omega
          go_wp2_with fail
          go_loop [5, 6] (fun x y => fsRel N k x y) (fun _ y => (intOf y).toNat)
          case atStart => exact ⟨(k : Int), a, rfl, rfl, ha2, by omega, by omega, Lib.hid (by rw [E0.out, if_neg (by omega), if_neg (by omega)]; simp)⟩
          case round =>
            obtain ⟨fr, m, rfl, rfl, hm, hfr0, hfr1, HF⟩ := hrel
            have d2 : decide ((a : Int) < 0) = false := decide_eq_false (by omega)
            rcases m with _ | m
            · have d0 : decide ((0 : Nat) < 0) = false := by decide
              have HE : Hid (fst N k = fr) := Lib.hid (fs_end HF.out hfr0)
              clear HF
              go_wp2_with fail
              refine (rargs_any _ _).mono ?_; rintro e w2 ⟨rfl, hb2⟩; rw [HA.out]
              have hown2 := owns_below (owns_below hown hb1) hb2
              have HB2 := Lib.hid ((hB.trans (hb1.mono hsz)).trans (hb2.mono (Nat.le_trans hsz hb1.size)))
              have hsz2 := HB2.out.size
              clear hown hb1 hb2 hB hsz
              go_wp2_with (at_builtin; refine wpList_append_own _ rfl _ _ 51 rfl w.heap.size 3 i0 (.int .i64 0) 1 8 Tryd.underlying51 hi hz0 hz1 hz2 rfl (by decide) _ _ _ rfl (hown2.alloc _) ⟨w2.heap.size, 0, none⟩ 1 1 [.int .i64 fr] rfl rfl ?u1 ?u2 ?u3 ?u4 ?u5 ?_)
              case u1 =>
                intro x u hx
                match x, hx with
                | 0, hx => simp at hx; subst hx; simp [Addr.add]
              case u2 => intro u hu; simp at hu; subst hu; rfl
              case u3 => unfold maxLen; omega
              case u4 => omega
              case u5 => simp; omega
              intro v' w3 hown3 hgrow _
              have HW3 : Hid (Below w.heap.size w w3) := Lib.hid ((HB2.out.alloc hsz2 _).grown hgrow (by simp; omega) fun r hr => (hown2.lt r hr).1)
              have HO : Hid (w3.ownsRow w.heap.size 3 1 v' (k + 1) (ivs (fsts N (k + 1)))) := Lib.hid (by rw [fsts_succ, HE.out]; simpa [ivs] using hown3)
              clear hown3 hgrow hown2 HB2 hsz2
              go_wp2
              go_roundw
              case rel => exact ⟨k + 1, by omega, by go_num, HO.out, HW3.out⟩
              case measure => simp [intOf]; omega
            · rcases Int.lt_or_le fr 0 with hn0 | hp0
              · have d0 : decide ((0 : Int) ≤ fr) = false := decide_eq_false (by omega)
                have d1 : decide ((0 : Int) < (m : Int) + 1) = true := decide_eq_true (by omega)
                have HE : Hid (fst N k = fr) := Lib.hid (by have := HF.out; rw [if_pos hn0] at this; omega)
                clear HF
                go_wp2_with fail
                refine (rargs_any _ _).mono ?_; rintro e w2 ⟨rfl, hb2⟩; rw [HA.out]
                have hown2 := owns_below (owns_below hown hb1) hb2
                have HB2 := Lib.hid ((hB.trans (hb1.mono hsz)).trans (hb2.mono (Nat.le_trans hsz hb1.size)))
                have hsz2 := HB2.out.size
                clear hown hb1 hb2 hB hsz
                go_wp2_with (at_builtin; refine wpList_append_own _ rfl _ _ 51 rfl w.heap.size 3 i0 (.int .i64 0) 1 8 Tryd.underlying51 hi hz0 hz1 hz2 rfl (by decide) _ _ _ rfl (hown2.alloc _) ⟨w2.heap.size, 0, none⟩ 1 1 [.int .i64 fr] rfl rfl ?u1 ?u2 ?u3 ?u4 ?u5 ?_)
                case u1 =>
                  intro x u hx
                  match x, hx with
                  | 0, hx => simp at hx; subst hx; simp [Addr.add]
                case u2 => intro u hu; simp at hu; subst hu; rfl
                case u3 => unfold maxLen; omega
                case u4 => omega
                case u5 => simp; omega
                intro v' w3 hown3 hgrow _
                have HW3 : Hid (Below w.heap.size w w3) := Lib.hid ((HB2.out.alloc hsz2 _).grown hgrow (by simp; omega) fun r hr => (hown2.lt r hr).1)
                have HO : Hid (w3.ownsRow w.heap.size 3 1 v' (k + 1) (ivs (fsts N (k + 1)))) := Lib.hid (by rw [fsts_succ, HE.out]; simpa [ivs] using hown3)
                clear hown3 hgrow hown2 HB2 hsz2
                go_wp2
                go_roundw
                case rel => exact ⟨k + 1, by omega, by go_num, HO.out, HW3.out⟩
                case measure => simp [intOf]; omega
              · obtain ⟨p, rfl⟩ := Int.eq_ofNat_of_zero_le hp0
                have HF2 : Hid (fst N k = back N p (m + 1)) := Lib.hid (by have := HF.out; rw [if_neg (by omega)] at this; simpa using this)
                clear HF
                rcases p with _ | q
                · go_wp2
                  go_round
                  case rel => exact fsRel_none (by omega) HF2.out _ (by omega)
                  case measure => simp [intOf]
                · have hcq := HG1.out q (by omega)
                  have q0 : (0 : Int) ≤ (q : Int) := by omega
                  have q1 : (q : Int) < (k : Int) := by omega
                  go_wp2
                  go_round
                  case rel => exact fsRel_step (by omega) (by omega) HF2.out _ (by omega)
                  case measure => simp [intOf]
    · obtain rfl : k = n := by omega
      go_wp2
      go_ret
      exact ⟨_, rfl, hown, hB⟩
end Go.Proofs.YtjbmkbgoahppfaaDoor

namespace Go.Proofs.YtjbmkbgoahppfaaDoor
open Go.RowKit

theorem firsts_zero (p : Option Addr) (cap : Nat) (w : World) :
    Calls Tryd.prog 20 #[.slice p 0 cap] w fun e w' => e = .returned (.slice none 0 0) ∧ w = w' := by
  go_enter Tryd.func20, Tryd.ntmps20
  go_wp2
  refine wp_loop_rounds 1 ?_
  rw [rounds_succ]; go_wp2
  go_ret
  exact ⟨rfl, rfl⟩

set_option maxHeartbeats 2000000 in
theorem rkids_is (b off n cap i : Nat) (N : Nat → Nd) (hn : n ≤ 1000) (hi : i < n) (hf : 0 ≤ fst N i) (w : World) (hr : rdN w b off n N) :
    Calls Tryd.prog 21 #[.slice (some ⟨b, off, none⟩) n cap, .int .i64 (i : Int)] w fun e w' => ∃ v, e = .returned v ∧ rdI w' v (kids N i) ∧ Below w.heap.size w w' := by
  obtain ⟨i0, hinf, hz0, hz1, hz2⟩ := info_parts infoInt
  have hbl := (hr i hi).1
  have hc0 := (hr i hi).2.1
  have h0 : (0 : Int) ≤ (i : Int) := by omega
  have h1 : (i : Int) < (n : Int) := by omega
  have hib : (i : Int) < 1000 := by omega
  have HR := Lib.hid hr
  clear hr
  have HK := Lib.hid (kids_back hf)
  go_enter Tryd.func21, Tryd.ntmps21
  go_wp2_with fail
  refine (firsts_some _ _ _ _ _ hn _ HR.out).mono ?_
  rintro e w1 ⟨v, rfl, hown, hb1⟩
  have hc1 : w1.cell? ⟨b, off + i * 7, none⟩ = some (.int .i64 (N i).k) := by rw [hb1.cell (p := ⟨b, off + i * 7, none⟩) hbl]; exact hc0
  clear hc0
  rcases id hown.2 with ⟨rfl, hz⟩ | ⟨g, cp, cur, rfl, -⟩
  · exfalso; omega
  have HG : Hid (∀ q, q < n → w1.cell? ⟨g, q, none⟩ = some (.int .i64 (fst N q))) := Lib.hid fun q hq => by rw [hown.cellAt q (by omega), fsts_get N n q hq]
  have hgl : w.heap.size ≤ g ∧ g < w1.heap.size := hown.lt g rfl
  have hsz1 := hb1.size
  have HB1 := Lib.hid hb1
  clear hown hb1
  go_wp2_with fail
  refine (rargs_any _ _).mono ?_; rintro e w2 ⟨rfl, hb2⟩
  have HG2 : Hid (∀ q, q < n → w2.cell? ⟨g, q, none⟩ = some (.int .i64 (fst N q))) := Lib.hid fun q hq => by rw [hb2.cell (p := ⟨g, q, none⟩) hgl.2]; exact HG.out q hq
  have HB2 := Lib.hid (HB1.out.trans (hb2.mono hsz1))
  have hsz2 := HB2.out.size
  have hgl2 : g < w2.heap.size := by have := hb2.size; omega
  clear hb2 HG HB1 hc1 hsz1
  rcases HK.out with ⟨ha, hk, -⟩ | ⟨ha, hi0, hk, -, hg⟩ | ⟨ha, f, hf0, hfi, hff, hk, -, hg⟩
  · have HA := Lib.hid ha; have HK := Lib.hid hk
    clear ha hk
    rw [HA.out]
    go_wp2_with fail
    refine wp_loop_rounds 1 ?_
    rw [rounds_succ]; go_wp2
    go_ret
    exact ⟨_, rfl, by rw [HK.out]; exact .inl ⟨_, _, rfl, rfl⟩, HB2.out⟩
  · have HA := Lib.hid ha; have HK := Lib.hid hk
    clear ha hk
    obtain ⟨j, rfl⟩ : ∃ j, i = j + 1 := ⟨i - 1, by omega⟩
    have hcj := HG2.out j (by omega)
    rw [HA.out]
    go_wp2_with fail
    refine wp_loop_rounds 2 ?_
    rw [rounds_succ]; go_wp2_with fail
    rw [rounds_succ]; go_wp2
    go_ret
    refine ⟨_, rfl, ?_, ?_⟩
    · rw [HK.out]
      refine .inr ⟨_, _, rfl, by simp, fun j' hj => ?_⟩
      obtain rfl : j' = 0 := by simpa using hj
      simp [go_sem]
    · exact HB2.out.alloc hsz2 _
  · have HA := Lib.hid ha; have HK := Lib.hid hk
    obtain ⟨j, rfl⟩ : ∃ j, i = j + 1 := ⟨i - 1, by omega⟩
    obtain ⟨q, rfl⟩ : ∃ q, f = q + 1 := ⟨f - 1, by omega⟩
    have hcj := HG2.out j (by omega)
    rw [show fst N j = ((q + 1 : Nat) : Int) from hff] at hcj
    have hcq := HG2.out q (by omega)
    clear ha hk hff
    rw [HA.out]
    go_wp2_with fail
    refine wp_loop_rounds 3 ?_
    rw [rounds_succ]; go_wp2_with fail
    have hlit := World.ownsRow_lit (e := 3) (size := 1) (base := w.heap.size) (w2.alloc (.cells #[.int .i64 (j : Int)] 3)) #[.int .i64 (q : Int)] 1 (by simp; omega) (by unfold maxLen; omega) rfl
    simp only [World.size_alloc] at hlit
    have HL := Lib.hid hlit
    clear hlit
    rw [rounds_succ]
    go_wp2_with (at_builtin; refine wpList_append_own _ rfl _ _ 51 rfl w.heap.size 3 i0 (.int .i64 0) 1 8 Tryd.underlying51 hinf hz0 hz1 hz2 rfl (by decide) _ _ _ rfl HL.out ⟨w2.heap.size, 0, none⟩ 1 1 [.int .i64 (j : Int)] rfl rfl ?u1 ?u2 ?u3 ?u4 ?u5 ?_)
    case u1 =>
      intro x u hx
      match x, hx with
      | 0, hx => simp at hx; subst hx; simp [Addr.add]
    case u2 => intro u hu; simp at hu; subst hu; rfl
    case u3 => unfold maxLen; omega
    case u4 => omega
    case u5 => simp; omega
    intro v' w3 hown3 hgrow _
    have HW3 : Hid (Below w.heap.size w w3) := Lib.hid (((HB2.out.alloc hsz2 _).alloc (by simp; omega) _).grown hgrow (by simp; omega) fun r hr => by cases hr; simp; omega)
    have HO : Hid (rdI w3 v' (kids N (j + 1))) := Lib.hid (by
      rw [HK.out]
      refine rdI_of_owns (base := w.heap.size) (e := 3) ?_
      have e1 : ((q + 1 : Nat) : Int) - 1 = q := by omega
      have e2 : ((j + 1 : Nat) : Int) - 1 = j := by omega
      rw [e1, e2]
      exact hown3)
    have hcq3 : w3.cell? ⟨g, q, none⟩ = some (.int .i64 (fst N q)) :=
      hgrow.cell (by rw [(((Below.refl w2.heap.size w2).alloc (Nat.le_refl _) _).alloc (by simp) _).cell (p := ⟨g, q, none⟩) hgl2]; exact hcq) (by simp [Value.ownBlock]; omega)
    clear hown3 hgrow HB2 HK hcq hcj
    go_wp2
    rw [rounds_succ]; go_wp2
    go_ret
    exact ⟨_, rfl, HO.out, HW3.out⟩
end Go.Proofs.YtjbmkbgoahppfaaDoor
