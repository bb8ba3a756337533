/-
  The walk of the laws' awake: the page's example holds.
  The walks of slices.Contains (over none, one or two kinds), of show's grouped and repeat.
-/
import Derived.Test.YtgjpmfdiidkdnaaDoorPk25
import Derived.Test.YtgjpmfdiidkdnaaDoorPk7
import Derived.Test.YtgjpmfdiidkdnaaDoorPk10
import Derived.Test.YtgjpmfdiidkdnaaDoorPk1
import Derived.Test.YtgjpmfdiidkdnaaDoorPk19
namespace Go.Proofs.YtgjpmfdiidkdnaaDoor
open Go.RowKit

def exF (k : Nat) : Bool := inl [97, 98] k || (decide (100 ≤ k) && decide (k ≤ 102))
def exG (k : Nat) : Bool := decide (k = 46)
theorem ex_text : bs (setL exF) = ⟨#[91, 97, 98, 100, 45, 102, 93]⟩ := by decide +kernel
theorem ex_dot : bs (setL exG) = ⟨#[92, 46]⟩ := by decide +kernel
set_option maxRecDepth 100000 in
set_option maxHeartbeats 2000000 in
theorem awake6_any (w : World) (hT : Tabbed w) :
    Calls Tryd.prog 5 #[] w fun e w' => e = .returned (.bool true) ∧ Below w.heap.size w w' := by
  have HT := Lib.hid hT
  have HW := Lib.hid ((Below.refl w.heap.size w).alloc (Nat.le_refl _) (.cells #[.int .u8 97, .int .u8 98] 5))
  have HO := Lib.hid (of_some [97, 98] (by simp) w.heap.size 0 2 (w.alloc (.cells #[.int .u8 97, .int .u8 98] 5)) (by decide) (by simp) (fun j hj => by
    match j, hj with
    | 0, _ => simp
    | 1, _ => simp))
  have hlen : ([97, 98] : List Nat).length = 2 := rfl
  rw [hlen] at HO
  clear hT hlen
  go_enter Tryd.func5, Tryd.ntmps5
  go_wp2_with fail
  refine HO.out.mono ?_
  rintro e w1 ⟨rfl, hb⟩
  have HB1 := Lib.hid (HW.out.trans (hb.mono HW.out.size))
  clear hb HO HW
  go_wp2_with fail
  refine (range_any 100 102 (by decide) (by decide) _).mono ?_
  rintro e w2 ⟨rfl, hb⟩
  have HB2 := Lib.hid (HB1.out.trans (hb.mono HB1.out.size))
  clear hb HB1
  go_wp2_with fail
  refine (or_lit (inl [97, 98]) (fun k => decide (100 ≤ k) && decide (k ≤ 102)) _).mono ?_
  rw [show (fun k => inl [97, 98] k || (decide (100 ≤ k) && decide (k ≤ 102))) = exF from rfl]
  rintro e w3 ⟨rfl, hb⟩
  have HB3 := Lib.hid (HB2.out.trans (hb.mono HB2.out.size))
  clear hb HB2
  go_wp2_with fail
  refine (cset_any exF _ (HT.out.to HB3.out)).mono ?_
  rw [ex_text]
  rintro e w4 ⟨rfl, hb⟩
  have HB4 := Lib.hid (HB3.out.trans (hb.mono HB3.out.size))
  have HB5 := Lib.hid (HB4.out.alloc HB4.out.size (.cells #[.int .u8 46] 5))
  clear hb HB3
  go_wp2_with fail
  refine (of_one 46 (by decide) _ _ (by simp) (by simp)).mono ?_
  rw [show (fun k => decide (k = 46)) = exG from rfl]
  rintro e w5 ⟨rfl, hb⟩
  have HB6 := Lib.hid (HB5.out.trans (hb.mono HB5.out.size))
  clear hb HB5 HB4
  go_wp2_with fail
  refine (cset_any exG _ (HT.out.to HB6.out)).mono ?_
  rw [ex_dot]
  rintro e w6 ⟨rfl, hb⟩
  have HB7 := Lib.hid (HB6.out.trans (hb.mono HB6.out.size))
  clear hb HB6
  go_wp2_with fail
  go_returns
  exact ⟨rfl, HB7.out⟩
end Go.Proofs.YtgjpmfdiidkdnaaDoor

namespace Go.Proofs.YtgjpmfdiidkdnaaDoor
open Go.RowKit

set_option maxRecDepth 100000 in
set_option maxHeartbeats 1000000 in
theorem con_none (v : Int) (w : World) : Calls Tryd.prog 54 #[.slice none 0 0, .int .i64 v] w fun e w' => e = .returned (.bool false) ∧ w' = w := by
  go_enter Tryd.func54, Tryd.ntmps54
  go_wp2
  refine wp_loop_rounds 1 ?_
  rw [rounds_succ]; go_wp2
  go_returns
  exact ⟨rfl, rfl⟩
set_option maxRecDepth 100000 in
set_option maxHeartbeats 1000000 in
theorem con_one (v : Int) (b : Nat) (w : World) (h0 : w.cell? ⟨b, 0, none⟩ = some (.int .i64 6)) : Calls Tryd.prog 54 #[.slice (some ⟨b, 0, none⟩) 1 1, .int .i64 v] w fun e w' => e = .returned (.bool (v == 6)) ∧ w' = w := by
  cases hv : (v == 6)
  · go_enter Tryd.func54, Tryd.ntmps54
    go_wp2
    refine wp_loop_rounds 2 ?_
    rw [rounds_succ]; go_wp2
    rw [rounds_succ]; go_wp2
    go_returns
    exact ⟨rfl, rfl⟩
  · go_enter Tryd.func54, Tryd.ntmps54
    go_wp2
    refine wp_loop_rounds 2 ?_
    rw [rounds_succ]; go_wp2
    go_returns
    exact ⟨rfl, rfl⟩
set_option maxRecDepth 100000 in
set_option maxHeartbeats 1000000 in
theorem con_two (v : Int) (b : Nat) (w : World) (h0 : w.cell? ⟨b, 0, none⟩ = some (.int .i64 6)) (h1 : w.cell? ⟨b, 1, none⟩ = some (.int .i64 5)) : Calls Tryd.prog 54 #[.slice (some ⟨b, 0, none⟩) 2 2, .int .i64 v] w fun e w' => e = .returned (.bool (v == 6 || v == 5)) ∧ w' = w := by
  cases hv : (v == 6)
  · cases hv5 : (v == 5)
    · go_enter Tryd.func54, Tryd.ntmps54
      go_wp2
      refine wp_loop_rounds 3 ?_
      rw [rounds_succ]; go_wp2
      rw [rounds_succ]; go_wp2
      rw [rounds_succ]; go_wp2
      go_returns
      exact ⟨rfl, rfl⟩
    · go_enter Tryd.func54, Tryd.ntmps54
      go_wp2
      refine wp_loop_rounds 3 ?_
      rw [rounds_succ]; go_wp2
      rw [rounds_succ]; go_wp2
      go_returns
      exact ⟨rfl, rfl⟩
  · go_enter Tryd.func54, Tryd.ntmps54
    go_wp2
    refine wp_loop_rounds 3 ?_
    rw [rounds_succ]; go_wp2
    go_returns
    exact ⟨rfl, rfl⟩

/-- What grouped tells: a text, and memory of its own. -/
def grpPost (b : Bool) (s : ByteArray) (w : World) (e : Ending) (w' : World) : Prop := e = .returned (.string (parB b s)) ∧ Below w.heap.size w w'
set_option maxRecDepth 100000 in
set_option maxHeartbeats 1000000 in
theorem grp_of (k : Int) (s : ByteArray) (hs : s.size ≤ 1000000) (v : Value) (r : Bool) (w : World) (hv : ∀ w', Below w.heap.size w w' → Calls Tryd.prog 54 #[v, .int .i64 k] w' fun e w'' => e = .returned (.bool r) ∧ w'' = w') :
    Calls Tryd.prog 38 #[.agg #[.int .i64 k, .string s], v] w (grpPost r s w) := by
  have g1 : ¬ (9223372036854775807 < 1 + s.size) := by omega
  have g2 : ¬ (9223372036854775807 < 1 + s.size + 1) := by omega
  have HV := Lib.hid (hv _ ((Below.refl w.heap.size w).alloc (Nat.le_refl _) (.cells #[.int .i64 k, .string s] 49)))
  clear hs hv
  cases r
  · go_enter Tryd.func38, Tryd.ntmps38
    go_wp2_with fail
    refine HV.out.mono ?_
    rintro e wk ⟨rfl, rfl⟩
    go_wp2
    go_returns
    exact ⟨rfl, (Below.refl _ _).alloc (Nat.le_refl _) _⟩
  · go_enter Tryd.func38, Tryd.ntmps38
    go_wp2_with fail
    refine HV.out.mono ?_
    rintro e wk ⟨rfl, rfl⟩
    go_wp2
    go_returns
    exact ⟨rfl, (Below.refl _ _).alloc (Nat.le_refl _) _⟩
theorem grp_none (k : Int) (s : ByteArray) (hs : s.size ≤ 1000000) (w : World) : Calls Tryd.prog 38 #[.agg #[.int .i64 k, .string s], .slice none 0 0] w (grpPost false s w) :=
  grp_of k s hs _ false w fun w' _ => con_none k w'
theorem grp_one (k : Int) (s : ByteArray) (hs : s.size ≤ 1000000) (b : Nat) (w : World) (hb : b < w.heap.size) (h0 : w.cell? ⟨b, 0, none⟩ = some (.int .i64 6)) : Calls Tryd.prog 38 #[.agg #[.int .i64 k, .string s], .slice (some ⟨b, 0, none⟩) 1 1] w (grpPost (k == 6) s w) :=
  grp_of k s hs _ _ w fun w' hB => con_one k b w' (by rw [hB.cell (p := ⟨b, 0, none⟩) hb]; exact h0)
theorem grp_two (k : Int) (s : ByteArray) (hs : s.size ≤ 1000000) (b : Nat) (w : World) (hb : b < w.heap.size) (h0 : w.cell? ⟨b, 0, none⟩ = some (.int .i64 6)) (h1 : w.cell? ⟨b, 1, none⟩ = some (.int .i64 5)) : Calls Tryd.prog 38 #[.agg #[.int .i64 k, .string s], .slice (some ⟨b, 0, none⟩) 2 2] w (grpPost (k == 6 || k == 5) s w) :=
  grp_of k s hs _ _ w fun w' hB => con_two k b w' (by rw [hB.cell (p := ⟨b, 0, none⟩) hb]; exact h0) (by rw [hB.cell (p := ⟨b, 1, none⟩) hb]; exact h1)

theorem it6_tab : ∀ k : Nat, k < 33 → (itB k).data.toList = (bs (numL k)).data.toList := by decide +kernel
theorem it_bs (k : Nat) (h : k < 33) : itB k = bs (numL k) := by
  have := it6_tab k h
  apply ByteArray.ext
  rw [← Array.toList_inj]
  exact this
theorem itoa_bs (k : Nat) (hk : k < 33) (w : World) : Calls Tryd.prog 55 #[.int .i64 (k : Int)] w fun e w' => e = .returned (.string (bs (numL k))) ∧ w' = w := it_bs k hk ▸ itoa_sym k (by omega) w
theorem oft_some' (l : Nat) (h : 2 ≤ l) : bs (oftL (l : Int) (-1)) = ⟨#[123]⟩ ++ bs (numL l) ++ ⟨#[44, 125]⟩ := by
  unfold oftL
  rw [if_neg (by omega), if_neg (by omega), if_neg (by omega), if_pos rfl, Int.toNat_natCast, show 123 :: (numL l ++ [44, 125]) = [123] ++ numL l ++ [44, 125] from rfl, bs_append, bs_append]
  rfl
theorem oft_same' (l : Nat) : bs (oftL (l : Int) (l : Int)) = ⟨#[123]⟩ ++ bs (numL l) ++ ⟨#[125]⟩ := by
  unfold oftL
  rw [if_neg (by omega), if_neg (by omega), if_neg (by omega), if_neg (by omega), if_pos rfl, Int.toNat_natCast, show 123 :: (numL l ++ [125]) = [123] ++ numL l ++ [125] from rfl, bs_append, bs_append]
  rfl
theorem oft_two' (l m : Nat) (h : l < m) (h2 : ¬ (l = 0 ∧ m = 1)) : bs (oftL (l : Int) (m : Int)) = ⟨#[123]⟩ ++ bs (numL l) ++ ⟨#[44]⟩ ++ bs (numL m) ++ ⟨#[125]⟩ := by
  unfold oftL
  rw [if_neg (by omega), if_neg (by omega), if_neg (by omega), if_neg (by omega), if_neg (by omega), Int.toNat_natCast, Int.toNat_natCast,
    show 123 :: (numL l ++ 44 :: (numL m ++ [125])) = [123] ++ numL l ++ [44] ++ numL m ++ [125] by simp, bs_append, bs_append, bs_append, bs_append]
  rfl
theorem num_len' (n : Nat) : (bs (numL n)).size ≤ 2 := by rw [bs_size]; unfold numL; split <;> simp

set_option maxRecDepth 100000 in
set_option maxHeartbeats 4000000 in
theorem rpt6_any (lo hi : Int) (h1 : 0 ≤ lo) (h2 : lo ≤ 32) (h3 : hi = -1 ∨ (lo ≤ hi ∧ hi ≤ 32)) (w : World) :
    Calls Tryd.prog 39 #[.int .i64 lo, .int .i64 hi] w fun e w' => e = .returned (.string (bs (oftL lo hi))) ∧ w' = w := by
  obtain ⟨l, rfl⟩ := Int.eq_ofNat_of_zero_le h1
  rcases h3 with rfl | ⟨h3, h4⟩
  · rcases Nat.lt_or_ge l 2 with hl | hl
    · match l, hl with
      | 0, _ =>
        clear h1 h2
        go_enter Tryd.func39, Tryd.ntmps39
        go_wp2
        go_returns
        exact ⟨rfl, rfl⟩
      | 1, _ =>
        clear h1 h2
        go_enter Tryd.func39, Tryd.ntmps39
        go_wp2
        go_returns
        exact ⟨rfl, rfl⟩
    · have HE := Lib.hid (oft_some' l hl)
      have HC := Lib.hid (itoa_bs l (by omega))
      have hsz := num_len' l
      generalize bs (numL l) = s at *
      have e1 : ((l : Int) == 0) = false := beq_eq_false_iff_ne.2 (by omega)
      have e2 : ((l : Int) == 1) = false := beq_eq_false_iff_ne.2 (by omega)
      have e3 : ((l : Int) == -1) = false := beq_eq_false_iff_ne.2 (by omega)
      have g1 : ¬ (9223372036854775807 < 1 + s.size) := by omega
      have g2 : ¬ (9223372036854775807 < 1 + s.size + 2) := by omega
      clear h1 h2 hl hsz
      go_enter Tryd.func39, Tryd.ntmps39
      go_wp2_with fail
      refine (HC.out _).mono ?_
      rintro e w1 ⟨rfl, rfl⟩
      go_wp2
      go_returns
      exact ⟨by rw [HE.out] <;> rfl, rfl⟩
  · obtain ⟨m, rfl⟩ := Int.eq_ofNat_of_zero_le (show 0 ≤ hi by omega)
    by_cases h01 : l = 0 ∧ m = 1
    · obtain ⟨rfl, rfl⟩ := h01
      clear h1 h2 h3 h4
      go_enter Tryd.func39, Tryd.ntmps39
      go_wp2
      go_returns
      exact ⟨rfl, rfl⟩
    · have e0 : ((m : Int) == -1) = false := beq_eq_false_iff_ne.2 (by omega)
      have hc : (((l : Int) == 0) = false ∧ (((l : Int) == 1) = false)) ∨ ((((l : Int) == 0) = true ∧ ((m : Int) == 1) = false) ∧ ((l : Int) == 1) = false) ∨ (((l : Int) == 0) = false ∧ ((l : Int) == 1) = true) := by
        by_cases hl : l = 0
        · exact .inr (.inl ⟨⟨beq_iff_eq.2 (by omega), beq_eq_false_iff_ne.2 (by omega)⟩, beq_eq_false_iff_ne.2 (by omega)⟩)
        · by_cases hl1 : l = 1
          · exact .inr (.inr ⟨beq_eq_false_iff_ne.2 (by omega), beq_iff_eq.2 (by omega)⟩)
          · exact .inl ⟨beq_eq_false_iff_ne.2 (by omega), beq_eq_false_iff_ne.2 (by omega)⟩
      have HC := Lib.hid (itoa_bs l (by omega))
      have HD := Lib.hid (itoa_bs m (by omega))
      have hsz := num_len' l
      have hsz2 := num_len' m
      by_cases hlm : l = m
      · subst hlm
        have HE := Lib.hid (oft_same' l)
        generalize bs (numL l) = s at *
        have g1 : ¬ (9223372036854775807 < 1 + s.size) := by omega
        have g2 : ¬ (9223372036854775807 < 1 + s.size + 1) := by omega
        clear h1 h2 h3 h4 hsz hsz2 h01 HD
        rcases hc with ⟨e1, e2⟩ | ⟨⟨e1, e2⟩, e3⟩ | ⟨e1, e2⟩
        all_goals
          go_enter Tryd.func39, Tryd.ntmps39
          go_wp2_with fail
          refine (HC.out _).mono ?_
          rintro e w1 ⟨rfl, rfl⟩
          go_wp2
          go_returns
          exact ⟨by rw [HE.out] <;> rfl, rfl⟩
      · have e5 : ((l : Int) == (m : Int)) = false := beq_eq_false_iff_ne.2 (by omega)
        have HE := Lib.hid (oft_two' l m (by omega) h01)
        generalize bs (numL l) = s at *
        generalize bs (numL m) = t at *
        have g1 : ¬ (9223372036854775807 < 1 + s.size) := by omega
        have g2 : ¬ (9223372036854775807 < 1 + s.size + 1) := by omega
        have g3 : ¬ (9223372036854775807 < 1 + s.size + 1 + t.size) := by omega
        have g4 : ¬ (9223372036854775807 < 1 + s.size + 1 + t.size + 1) := by omega
        clear h1 h2 h3 h4 hsz hsz2 h01 hlm
        rcases hc with ⟨e1, e2⟩ | ⟨⟨e1, e2⟩, e3⟩ | ⟨e1, e2⟩
        all_goals
          go_enter Tryd.func39, Tryd.ntmps39
          go_wp2_with fail
          refine (HC.out _).mono ?_
          rintro e w1 ⟨rfl, rfl⟩
          go_wp2_with fail
          refine (HD.out _).mono ?_
          rintro e w2 ⟨rfl, rfl⟩
          go_wp2
          go_returns
          exact ⟨by rw [HE.out] <;> rfl, rfl⟩
end Go.Proofs.YtgjpmfdiidkdnaaDoor
