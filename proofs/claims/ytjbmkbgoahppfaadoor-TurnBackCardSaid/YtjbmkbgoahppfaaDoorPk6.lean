/-
  What the program's text and the world's shape say of the package-level variables: the table of named, the error of strconv, the number of bytealg.
  The walk of lex's number: which of the numbers 0 to 32 is written so.
  The walks of slices.Contains (over none, one or two kinds), of show's grouped and repeat.
  The row of the type of a byte; what a list of bytes grows in.
  The walk of the reference's Has.
  A block of memory that holds a set.
  The walk of the third reference's one.
  The walk of the third reference's digit.
  The walk of the third reference's number.
  The walks of the second reference's upper, lower and digit.
  The walk of the second reference's is: any name, any byte.
  A set is the same as itself.
  Two sets are the same just if their words are.
  A set with one byte more.
  The walks of the second reference's Escape, a theorem a branch.
  The walk of the reference's Range.
  Items of a bracket: as values, and as blocks of memory.
-/
import Derived.Test.YtjbmkbgoahppfaaDoorPk4
import Derived.Test.YtjbmkbgoahppfaaDoorPk1
import Derived.Test.YtjbmkbgoahppfaaDoorPk5
import Derived.LaidSub
import Derived.Stop.LaidErr
import Derived.HandedShaped
import Derived.Test.YtjbmkbgoahppfaaDoorPk3
import Derived.Test.YtjbmkbgoahppfaaDoorProg
import Derived.Laws.StructEq
import Derived.KernelRfl
namespace Go.Proofs.YtjbmkbgoahppfaaDoor
open Go.RowKit Go.ChangeShapes Go.ChangeAt

theorem starE : "*" ++ "errors.errorString" = "*errors.errorString" := by decide
end Go.Proofs.YtjbmkbgoahppfaaDoor

namespace Go.Proofs.YtjbmkbgoahppfaaDoor
open Go.RowKit

/-- A number as it is written. -/
def itB (k : Nat) : ByteArray := ⟨(Lib.decDigits k).toArray⟩
/-- The number that a text is, and whether it is one. -/
def numS (s : ByteArray) : Option Nat := (List.range 33).find? fun n => (s.toList == (itB n).toList)
def nmV (s : ByteArray) : Nat := (numS s).getD 0
def nmO (s : ByteArray) : Bool := (numS s).isSome
theorem itoa_sym (k : Nat) (hk : k < 100) (w : World) : Calls Tryd.prog 57 #[.int .i64 (k : Int)] w fun e w' => e = .returned (.string (itB k)) ∧ w' = w := Sh.strconv_Itoa_small k hk w
theorem numS_some {s : ByteArray} {k : Nat} (hk : k < 33) (h : (s.toList == (itB k).toList) = true) (hno : ∀ j, j < k → (s.toList == (itB j).toList) = false) : numS s = some k := by
  unfold numS
  rw [List.find?_range_eq_some]
  exact ⟨h, by rw [List.mem_range]; exact hk, fun j hj => by rw [hno j hj]; rfl⟩
theorem numS_none {s : ByteArray} (hno : ∀ j, j < 33 → (s.toList == (itB j).toList) = false) : numS s = none := by
  unfold numS
  rw [List.find?_range_eq_none]
  intro j hj
  rw [hno j hj]; rfl

end Go.Proofs.YtjbmkbgoahppfaaDoor

namespace Go.Proofs.YtjbmkbgoahppfaaDoor
open Go.RowKit

set_option maxRecDepth 100000 in
set_option maxHeartbeats 1000000 in
theorem con_none (v : Int) (w : World) : Calls Tryd.prog 56 #[.slice none 0 0, .int .i64 v] w fun e w' => e = .returned (.bool false) ∧ w' = w := by
  go_enter Tryd.func56, Tryd.ntmps56
  go_wp2
  refine wp_loop_rounds 1 ?_
  rw [rounds_succ]; go_wp2
  go_returns
  exact ⟨rfl, rfl⟩
set_option maxRecDepth 100000 in
set_option maxHeartbeats 1000000 in
theorem con_one (v : Int) (b : Nat) (w : World) (h0 : w.cell? ⟨b, 0, none⟩ = some (.int .i64 6)) : Calls Tryd.prog 56 #[.slice (some ⟨b, 0, none⟩) 1 1, .int .i64 v] w fun e w' => e = .returned (.bool (v == 6)) ∧ w' = w := by
  cases hv : (v == 6)
  · go_enter Tryd.func56, Tryd.ntmps56
    go_wp2
    refine wp_loop_rounds 2 ?_
    rw [rounds_succ]; go_wp2
    rw [rounds_succ]; go_wp2
    go_returns
    exact ⟨rfl, rfl⟩
  · go_enter Tryd.func56, Tryd.ntmps56
    go_wp2
    refine wp_loop_rounds 2 ?_
    rw [rounds_succ]; go_wp2
    go_returns
    exact ⟨rfl, rfl⟩
set_option maxRecDepth 100000 in
set_option maxHeartbeats 1000000 in
theorem con_two (v : Int) (b : Nat) (w : World) (h0 : w.cell? ⟨b, 0, none⟩ = some (.int .i64 6)) (h1 : w.cell? ⟨b, 1, none⟩ = some (.int .i64 5)) : Calls Tryd.prog 56 #[.slice (some ⟨b, 0, none⟩) 2 2, .int .i64 v] w fun e w' => e = .returned (.bool (v == 6 || v == 5)) ∧ w' = w := by
  cases hv : (v == 6)
  · cases hv5 : (v == 5)
    · go_enter Tryd.func56, Tryd.ntmps56
      go_wp2
      refine wp_loop_rounds 3 ?_
      rw [rounds_succ]; go_wp2
      rw [rounds_succ]; go_wp2
      rw [rounds_succ]; go_wp2
      go_returns
      exact ⟨rfl, rfl⟩
    · go_enter Tryd.func56, Tryd.ntmps56
      go_wp2
      refine wp_loop_rounds 3 ?_
      rw [rounds_succ]; go_wp2
      rw [rounds_succ]; go_wp2
      go_returns
      exact ⟨rfl, rfl⟩
  · go_enter Tryd.func56, Tryd.ntmps56
    go_wp2
    refine wp_loop_rounds 3 ?_
    rw [rounds_succ]; go_wp2
    go_returns
    exact ⟨rfl, rfl⟩

/-- What grouped tells: a text, and memory of its own. -/
def grpPost (b : Bool) (s : ByteArray) (w : World) (e : Ending) (w' : World) : Prop := e = .returned (.string (parB b s)) ∧ Below w.heap.size w w'
set_option maxRecDepth 100000 in
set_option maxHeartbeats 1000000 in
theorem grp_of (k : Int) (s : ByteArray) (hs : s.size ≤ 1000000) (v : Value) (r : Bool) (w : World) (hv : ∀ w', Below w.heap.size w w' → Calls Tryd.prog 56 #[v, .int .i64 k] w' fun e w'' => e = .returned (.bool r) ∧ w'' = w') :
    Calls Tryd.prog 42 #[.agg #[.int .i64 k, .string s], v] w (grpPost r s w) := by
  have g1 : ¬ (9223372036854775807 < 1 + s.size) := by omega
  have g2 : ¬ (9223372036854775807 < 1 + s.size + 1) := by omega
  have HV := Lib.hid (hv _ ((Below.refl w.heap.size w).alloc (Nat.le_refl _) (.cells #[.int .i64 k, .string s] 64)))
  clear hs hv
  cases r
  · go_enter Tryd.func42, Tryd.ntmps42
    go_wp2_with fail
    refine HV.out.mono ?_
    rintro e wk ⟨rfl, rfl⟩
    go_wp2
    go_returns
    exact ⟨rfl, (Below.refl _ _).alloc (Nat.le_refl _) _⟩
  · go_enter Tryd.func42, Tryd.ntmps42
    go_wp2_with fail
    refine HV.out.mono ?_
    rintro e wk ⟨rfl, rfl⟩
    go_wp2
    go_returns
    exact ⟨rfl, (Below.refl _ _).alloc (Nat.le_refl _) _⟩
theorem grp_none (k : Int) (s : ByteArray) (hs : s.size ≤ 1000000) (w : World) : Calls Tryd.prog 42 #[.agg #[.int .i64 k, .string s], .slice none 0 0] w (grpPost false s w) :=
  grp_of k s hs _ false w fun w' _ => con_none k w'
theorem grp_one (k : Int) (s : ByteArray) (hs : s.size ≤ 1000000) (b : Nat) (w : World) (hb : b < w.heap.size) (h0 : w.cell? ⟨b, 0, none⟩ = some (.int .i64 6)) : Calls Tryd.prog 42 #[.agg #[.int .i64 k, .string s], .slice (some ⟨b, 0, none⟩) 1 1] w (grpPost (k == 6) s w) :=
  grp_of k s hs _ _ w fun w' hB => con_one k b w' (by rw [hB.cell (p := ⟨b, 0, none⟩) hb]; exact h0)
theorem grp_two (k : Int) (s : ByteArray) (hs : s.size ≤ 1000000) (b : Nat) (w : World) (hb : b < w.heap.size) (h0 : w.cell? ⟨b, 0, none⟩ = some (.int .i64 6)) (h1 : w.cell? ⟨b, 1, none⟩ = some (.int .i64 5)) : Calls Tryd.prog 42 #[.agg #[.int .i64 k, .string s], .slice (some ⟨b, 0, none⟩) 2 2] w (grpPost (k == 6 || k == 5) s w) :=
  grp_of k s hs _ _ w fun w' hB => con_two k b w' (by rw [hB.cell (p := ⟨b, 0, none⟩) hb]; exact h0) (by rw [hB.cell (p := ⟨b, 1, none⟩) hb]; exact h1)

theorem it6_tab : ∀ k : Nat, k < 33 → (itB k).data.toList = (bs (numL k)).data.toList := by decide +kernel
theorem it_bs (k : Nat) (h : k < 33) : itB k = bs (numL k) := by
  have := it6_tab k h
  apply ByteArray.ext
  rw [← Array.toList_inj]
  exact this
theorem itoa_bs (k : Nat) (hk : k < 33) (w : World) : Calls Tryd.prog 57 #[.int .i64 (k : Int)] w fun e w' => e = .returned (.string (bs (numL k))) ∧ w' = w := it_bs k hk ▸ itoa_sym k (by omega) w
theorem oft_some' (l : Nat) (h : 2 ≤ l) : bs (oftL (l : Int) (-1)) = ⟨#[123]⟩ ++ bs (numL l) ++ ⟨#[44, 125]⟩ := by
  unfold oftL
  rw [if_neg (by omega), if_neg (by omega), if_neg (by omega), if_pos rfl, Int.toNat_natCast, show 123 :: (numL l ++ [44, 125]) = [123] ++ numL l ++ [44, 125] from rfl, bs_append, bs_append]
  rfl
theorem oft_same' (l : Nat) : bs (oftL (l : Int) (l : Int)) = ⟨#[123]⟩ ++ bs (numL l) ++ ⟨#[125]⟩ := by
  unfold oftL
  rw [if_neg (by omega), if_neg (by omega), if_neg (by omega), if_neg (by omega), if_pos rfl, Int.toNat_natCast, show 123 :: (numL l ++ [125]) = [123] ++ numL l ++ [125] from rfl, bs_append, bs_append]
  rfl
theorem oft_two' (l m : Nat) (h : l < m) (h2 : ¬ (l = 0 ∧ m = 1)) : bs (oftL (l : Int) (m : Int)) = ⟨#[123]⟩ ++ bs (numL l) ++ ⟨#[44]⟩ ++ bs (numL m) ++ ⟨#[125]⟩ := by
  unfold oftL
  rw [if_neg (by omega), if_neg (by omega), if_neg (by omega), if_neg (by omega), if_neg (by omega), Int.toNat_natCast, Int.toNat_natCast,
    show 123 :: (numL l ++ 44 :: (numL m ++ [125])) = [123] ++ numL l ++ [44] ++ numL m ++ [125] by simp, bs_append, bs_append, bs_append, bs_append]
  rfl
theorem num_len' (n : Nat) : (bs (numL n)).size ≤ 2 := by rw [bs_size]; unfold numL; split <;> simp

set_option maxRecDepth 100000 in
set_option maxHeartbeats 4000000 in
theorem rpt6_any (lo hi : Int) (h1 : 0 ≤ lo) (h2 : lo ≤ 32) (h3 : hi = -1 ∨ (lo ≤ hi ∧ hi ≤ 32)) (w : World) :
    Calls Tryd.prog 43 #[.int .i64 lo, .int .i64 hi] w fun e w' => e = .returned (.string (bs (oftL lo hi))) ∧ w' = w := by
  obtain ⟨l, rfl⟩ := Int.eq_ofNat_of_zero_le h1
  rcases h3 with rfl | ⟨h3, h4⟩
  · rcases Nat.lt_or_ge l 2 with hl | hl
    · match l, hl with
      | 0, _ =>
        clear h1 h2
        go_enter Tryd.func43, Tryd.ntmps43
        go_wp2
        go_returns
        exact ⟨rfl, rfl⟩
      | 1, _ =>
        clear h1 h2
        go_enter Tryd.func43, Tryd.ntmps43
        go_wp2
        go_returns
        exact ⟨rfl, rfl⟩
    · have HE := Lib.hid (oft_some' l hl)
      have HC := Lib.hid (itoa_bs l (by omega))
      have hsz := num_len' l
      generalize bs (numL l) = s at *
      have e1 : ((l : Int) == 0) = false := beq_eq_false_iff_ne.2 (by omega)
      have e2 : ((l : Int) == 1) = false := beq_eq_false_iff_ne.2 (by omega)
      have e3 : ((l : Int) == -1) = false := beq_eq_false_iff_ne.2 (by omega)
      have g1 : ¬ (9223372036854775807 < 1 + s.size) := by omega
      have g2 : ¬ (9223372036854775807 < 1 + s.size + 2) := by omega
      clear h1 h2 hl hsz
      go_enter Tryd.func43, Tryd.ntmps43
      go_wp2_with fail
      refine (HC.out _).mono ?_
      rintro e w1 ⟨rfl, rfl⟩
      go_wp2
      go_returns
      exact ⟨by rw [HE.out] <;> rfl, rfl⟩
  · obtain ⟨m, rfl⟩ := Int.eq_ofNat_of_zero_le (show 0 ≤ hi by omega)
    by_cases h01 : l = 0 ∧ m = 1
    · obtain ⟨rfl, rfl⟩ := h01
      clear h1 h2 h3 h4
      go_enter Tryd.func43, Tryd.ntmps43
      go_wp2
      go_returns
      exact ⟨rfl, rfl⟩
    · have e0 : ((m : Int) == -1) = false := beq_eq_false_iff_ne.2 (by omega)
      have hc : (((l : Int) == 0) = false ∧ (((l : Int) == 1) = false)) ∨ ((((l : Int) == 0) = true ∧ ((m : Int) == 1) = false) ∧ ((l : Int) == 1) = false) ∨ (((l : Int) == 0) = false ∧ ((l : Int) == 1) = true) := by
        by_cases hl : l = 0
        · exact .inr (.inl ⟨⟨beq_iff_eq.2 (by omega), beq_eq_false_iff_ne.2 (by omega)⟩, beq_eq_false_iff_ne.2 (by omega)⟩)
        · by_cases hl1 : l = 1
          · exact .inr (.inr ⟨beq_eq_false_iff_ne.2 (by omega), beq_iff_eq.2 (by omega)⟩)
          · exact .inl ⟨beq_eq_false_iff_ne.2 (by omega), beq_eq_false_iff_ne.2 (by omega)⟩
      have HC := Lib.hid (itoa_bs l (by omega))
      have HD := Lib.hid (itoa_bs m (by omega))
      have hsz := num_len' l
      have hsz2 := num_len' m
      by_cases hlm : l = m
      · subst hlm
        have HE := Lib.hid (oft_same' l)
        generalize bs (numL l) = s at *
        have g1 : ¬ (9223372036854775807 < 1 + s.size) := by omega
        have g2 : ¬ (9223372036854775807 < 1 + s.size + 1) := by omega
        clear h1 h2 h3 h4 hsz hsz2 h01 HD
        rcases hc with ⟨e1, e2⟩ | ⟨⟨e1, e2⟩, e3⟩ | ⟨e1, e2⟩
        all_goals
          go_enter Tryd.func43, Tryd.ntmps43
          go_wp2_with fail
          refine (HC.out _).mono ?_
          rintro e w1 ⟨rfl, rfl⟩
          go_wp2
          go_returns
          exact ⟨by rw [HE.out] <;> rfl, rfl⟩
      · have e5 : ((l : Int) == (m : Int)) = false := beq_eq_false_iff_ne.2 (by omega)
        have HE := Lib.hid (oft_two' l m (by omega) h01)
        generalize bs (numL l) = s at *
        generalize bs (numL m) = t at *
        have g1 : ¬ (9223372036854775807 < 1 + s.size) := by omega
        have g2 : ¬ (9223372036854775807 < 1 + s.size + 1) := by omega
        have g3 : ¬ (9223372036854775807 < 1 + s.size + 1 + t.size) := by omega
        have g4 : ¬ (9223372036854775807 < 1 + s.size + 1 + t.size + 1) := by omega
        clear h1 h2 h3 h4 hsz hsz2 h01 hlm
        rcases hc with ⟨e1, e2⟩ | ⟨⟨e1, e2⟩, e3⟩ | ⟨e1, e2⟩
        all_goals
          go_enter Tryd.func43, Tryd.ntmps43
          go_wp2_with fail
          refine (HC.out _).mono ?_
          rintro e w1 ⟨rfl, rfl⟩
          go_wp2_with fail
          refine (HD.out _).mono ?_
          rintro e w2 ⟨rfl, rfl⟩
          go_wp2
          go_returns
          exact ⟨by rw [HE.out] <;> rfl, rfl⟩
end Go.Proofs.YtjbmkbgoahppfaaDoor

namespace Go.Proofs.YtjbmkbgoahppfaaDoor
open Go.RowKit

theorem Tryd.info8 : (Tryd.prog.info? 5).map (fun i => (i.zero, i.size, i.bytes)) = some (some (.int .u8 0), 1, 1) := by kernel_rfl

/-- The world within Bytes, k numbers on. -/
def bytesR (f : Nat → Bool) (w : World) (k : Nat) (v : Value) (wr : World) : Prop :=
  wr.ownsRow (w.heap.size + 1) 5 1 v (bl f k).length (u8s (bl f k)) ∧
  Below (w.heap.size + 1) (w.alloc (.cells #[.int .u64 (wd f 0 : Int), .int .u64 (wd f 1 : Int), .int .u64 (wd f 2 : Int), .int .u64 (wd f 3 : Int)] 38)) wr
end Go.Proofs.YtjbmkbgoahppfaaDoor

namespace Go.Proofs.YtjbmkbgoahppfaaDoor
open Go.RowKit

set_option maxHeartbeats 1000000 in
theorem rhas_any (f : Nat → Bool) (b : Int) (h0 : 0 ≤ b) (hn : b < 256) (w : World) :
    Calls Tryd.prog 35 #[sv f, .int .i64 b] w fun e w' => e = .returned (.bool (f b.toNat)) ∧ Below w.heap.size w w' := by
  obtain ⟨m, rfl⟩ := Int.eq_ofNat_of_zero_le h0
  rw [Int.toNat_natCast]
  have W := word_has f
  have q : m / 64 = 0 ∨ m / 64 = 1 ∨ m / 64 = 2 ∨ m / 64 = 3 := by omega
  have key : ∀ i, m / 64 = i → Hid ((bits .and .u64 ((wd f i : Int) / 2 ^ (m % 64)) 1 == 1) = f m) := fun i hi => by
    have := W i (m % 64) (by omega)
    rw [show 64 * i + m % 64 = m from by omega] at this
    exact this
  clear W
  unfold sv
  rcases q with q | q | q | q
  · have key' := key _ q
    clear key
    have q' : (m : Int) / 64 = 0 := by omega
    clear q
    go_enter Tryd.func35, Tryd.ntmps35
    go_wp2
    go_ret
    exact ⟨by rw [← key'.out] <;> rfl, by go_grown⟩
  · have key' := key _ q
    clear key
    have q' : (m : Int) / 64 = 1 := by omega
    clear q
    go_enter Tryd.func35, Tryd.ntmps35
    go_wp2
    go_ret
    exact ⟨by rw [← key'.out] <;> rfl, by go_grown⟩
  · have key' := key _ q
    clear key
    have q' : (m : Int) / 64 = 2 := by omega
    clear q
    go_enter Tryd.func35, Tryd.ntmps35
    go_wp2
    go_ret
    exact ⟨by rw [← key'.out] <;> rfl, by go_grown⟩
  · have key' := key _ q
    clear key
    have q' : (m : Int) / 64 = 3 := by omega
    clear q
    go_enter Tryd.func35, Tryd.ntmps35
    go_wp2
    go_ret
    exact ⟨by rw [← key'.out] <;> rfl, by go_grown⟩

theorem rhas_lit (f : Nat → Bool) (b : Nat) (hn : b < 256) (w : World) : Calls Tryd.prog 35 #[svr f, .int .i64 (b : Int)] w fun e w' => e = .returned (.bool (f b)) ∧ Below w.heap.size w w' := rhas_any f b (by omega) (by omega) w
end Go.Proofs.YtjbmkbgoahppfaaDoor

namespace Go.Proofs.YtjbmkbgoahppfaaDoor
open Go.RowKit

/-- Block b holds the set f. -/
def isSet (w : World) (b : Nat) (f : Nat → Bool) : Prop :=
  w.heap[b]? = some (.cells #[.int .u64 (wd f 0 : Int), .int .u64 (wd f 1 : Int), .int .u64 (wd f 2 : Int), .int .u64 (wd f 3 : Int)] 38 (0, 0))
theorem isSet.lt {w : World} {b : Nat} {f : Nat → Bool} (h : isSet w b f) : b < w.heap.size := lt_of_block h
theorem isSet.cells {w : World} {b : Nat} {f : Nat → Bool} (h : isSet w b f) :
    w.cell? ⟨b, 0, none⟩ = some (.int .u64 (wd f 0 : Int)) ∧ w.cell? ⟨b, 1, none⟩ = some (.int .u64 (wd f 1 : Int)) ∧ w.cell? ⟨b, 2, none⟩ = some (.int .u64 (wd f 2 : Int)) ∧ w.cell? ⟨b, 3, none⟩ = some (.int .u64 (wd f 3 : Int)) := by
  unfold isSet at h
  refine ⟨?_, ?_, ?_, ?_⟩ <;> simp [World.cell?, h]
theorem isSet.free {w : World} {b : Nat} {f : Nat → Bool} (h : isSet w b f) :
    w.frozen? ⟨b, 0, none⟩ = false ∧ w.frozen? ⟨b, 1, none⟩ = false ∧ w.frozen? ⟨b, 2, none⟩ = false ∧ w.frozen? ⟨b, 3, none⟩ = false := by
  unfold isSet at h
  refine ⟨?_, ?_, ?_, ?_⟩ <;> simp [World.frozen?, h]
theorem isSet.below {w w' : World} {b B : Nat} {f : Nat → Bool} (h : isSet w b f) (hB : Below B w w') (hb : b < B) : isSet w' b f := (hB.block b hb).trans h
theorem isSet.stored {w : World} {b : Nat} {f : Nat → Bool} (h : isSet w b f) (g : Nat → Bool) :
    isSet ((((w.setCell ⟨b, 0, none⟩ (.int .u64 (wd g 0 : Int))).setCell ⟨b, 1, none⟩ (.int .u64 (wd g 1 : Int))).setCell ⟨b, 2, none⟩ (.int .u64 (wd g 2 : Int))).setCell ⟨b, 3, none⟩ (.int .u64 (wd g 3 : Int))) b g := by
  have h1 := heap_setCell_same w b 0 _ _ (.int .u64 (wd g 0 : Int)) h
  have h2 := heap_setCell_same _ b 1 _ _ (.int .u64 (wd g 1 : Int)) h1
  have h3 := heap_setCell_same _ b 2 _ _ (.int .u64 (wd g 2 : Int)) h2
  have h4 := heap_setCell_same _ b 3 _ _ (.int .u64 (wd g 3 : Int)) h3
  unfold isSet
  rw [h4]
  simp
theorem isSet.other {w : World} {b : Nat} {f : Nat → Bool} (h : isSet w b f) {a : Addr} (ha : b ≠ a.block) (v : Value) : isSet (w.setCell a v) b f := (heap_setCell_other w a b v ha).trans h
theorem isSet.other4 {w : World} {b c : Nat} {f : Nat → Bool} (h : isSet w b f) (ha : b ≠ c) (v0 v1 v2 v3 : Value) :
    isSet ((((w.setCell ⟨c, 0, none⟩ v0).setCell ⟨c, 1, none⟩ v1).setCell ⟨c, 2, none⟩ v2).setCell ⟨c, 3, none⟩ v3) b f := (((h.other ha _).other ha _).other ha _).other ha _
theorem isSet.new (w : World) (f : Nat → Bool) : isSet (w.alloc (.cells #[.int .u64 (wd f 0 : Int), .int .u64 (wd f 1 : Int), .int .u64 (wd f 2 : Int), .int .u64 (wd f 3 : Int)] 38)) w.heap.size f := heap_alloc_new w _
theorem isSet.alloc {w : World} {b : Nat} {f : Nat → Bool} (h : isSet w b f) (o : Obj) : isSet (w.alloc o) b f := (Below.heap_alloc w o b h.lt).trans h
/-- The set without bytes. -/
theorem none_wd (i : Nat) : wd (fun _ => false) i = 0 := word_none _ _ fun _ _ => rfl
theorem isSet.newNone (w : World) : isSet (w.alloc (.cells #[.int .u64 0, .int .u64 0, .int .u64 0, .int .u64 0] 38)) w.heap.size (fun _ => false) := by
  have := isSet.new w (fun _ => false)
  rw [none_wd, none_wd, none_wd, none_wd] at this
  exact this
theorem below_set4 {B : Nat} {a w : World} {c : Nat} (h : Below B a w) (hc : B ≤ c) (v0 v1 v2 v3 : Value) :
    Below B a ((((w.setCell ⟨c, 0, none⟩ v0).setCell ⟨c, 1, none⟩ v1).setCell ⟨c, 2, none⟩ v2).setCell ⟨c, 3, none⟩ v3) := (((h.setCell hc _).setCell hc _).setCell hc _).setCell hc _
theorem isSet.congr {w : World} {b : Nat} {f g : Nat → Bool} (h : isSet w b f) (hfg : ∀ k, k < 256 → f k = g k) : isSet w b g := by
  unfold isSet at h ⊢
  rw [h, wd_congr fun j _ => hfg _ (by omega), wd_congr (i := 1) fun j _ => hfg _ (by omega), wd_congr (i := 2) fun j _ => hfg _ (by omega), wd_congr (i := 3) fun j _ => hfg _ (by omega)]
end Go.Proofs.YtjbmkbgoahppfaaDoor

namespace Go.Proofs.YtjbmkbgoahppfaaDoor
open Go.RowKit

/-- The only byte of a set; -1: it has not just one, or it is a name's. -/
def oneF (f : Nat → Bool) (nm : Bool) : Int := if nm = true then -1 else if (bl f 256).length = 1 then ((bl f 256).headD 0 : Nat) else -1
/-- An item as a value. -/
@[reducible] def itv (f : Nat → Bool) (n : Nat) (ok nm : Bool) : Value := .agg #[.int .u64 (wd f 0 : Int), .int .u64 (wd f 1 : Int), .int .u64 (wd f 2 : Int), .int .u64 (wd f 3 : Int), .int .i64 (n : Int), .bool ok, .bool nm]

end Go.Proofs.YtjbmkbgoahppfaaDoor

namespace Go.Proofs.YtjbmkbgoahppfaaDoor
open Go.RowKit

/-- What a digit of sixteen is worth; -1: it is none. -/
def dig16 (c : Nat) : Int := if 48 ≤ c ∧ c ≤ 57 then (c : Int) - 48 else if 97 ≤ c ∧ c ≤ 102 then (c : Int) - 87 else if 65 ≤ c ∧ c ≤ 70 then (c : Int) - 55 else -1
def dig16Post (c : Nat) (w : World) (e : Ending) (w' : World) : Prop := e = .returned (.int .i64 (dig16 c)) ∧ w = w'
theorem dig16Post.mk {c : Nat} {w : World} {x : Int} (h : x = dig16 c) : dig16Post c w (.returned (.int .i64 x)) w := ⟨by rw [h], rfl⟩
end Go.Proofs.YtjbmkbgoahppfaaDoor

namespace Go.Proofs.YtjbmkbgoahppfaaDoor
open Go.RowKit

/-- The byte at a place; 256: none is there. -/
def gb (p : ByteArray) (i : Nat) : Nat := if h : i < p.size then (p[i]'h).toNat else 256
theorem gb_in {p : ByteArray} {i : Nat} (h : i < p.size) : (p[i]'h).toNat = gb p i := by unfold gb; rw [dif_pos h]
theorem gb_lt {p : ByteArray} {i : Nat} (h : i < p.size) : gb p i < 256 := by rw [← gb_in h]; exact UInt8.toNat_lt _
theorem gb_out {p : ByteArray} {i : Nat} (h : p.size ≤ i) : gb p i = 256 := by unfold gb; rw [dif_neg (by omega)]
def isD (p : ByteArray) (j : Nat) : Bool := decide (48 ≤ gb p j) && decide (gb p j ≤ 57)
theorem isD_true {p : ByteArray} {j : Nat} (h : isD p j = true) : ∃ a d, Hid (gb p j = d + 48) ∧ Hid (a = d + 48) ∧ d ≤ 9 ∧ ∃ hj : j < p.size, (p[j]'hj).toNat = a := by
  have h' : 48 ≤ gb p j ∧ gb p j ≤ 57 := by simpa [isD] using h
  have hj : j < p.size := by
    rcases Nat.lt_or_ge j p.size with h1 | h1
    · exact h1
    · have := gb_out h1; omega
  exact ⟨gb p j, gb p j - 48, Lib.hid (by omega), Lib.hid (by omega), by omega, hj, gb_in hj⟩
theorem isD_false {p : ByteArray} {j : Nat} (h : isD p j = false) : p.size ≤ j ∨ (∃ a, a < 48 ∧ ∃ hj : j < p.size, (p[j]'hj).toNat = a) ∨ ∃ a, 57 < a ∧ a < 256 ∧ ∃ hj : j < p.size, (p[j]'hj).toNat = a := by
  have h' : 48 ≤ gb p j → 57 < gb p j := by simpa [isD] using h
  rcases Nat.lt_or_ge j p.size with hj | hj
  · rcases Nat.lt_or_ge (gb p j) 48 with h1 | h1
    · exact .inr (.inl ⟨gb p j, h1, hj, gb_in hj⟩)
    · exact .inr (.inr ⟨gb p j, h' h1, gb_lt hj, hj, gb_in hj⟩)
  · exact .inl hj

/-- What a digit is worth. -/
def dv (p : ByteArray) (k : Nat) : Nat := gb p k - 48
/-- A number of one or two digits, 0 to 32, without a nought ahead of another digit, and where it ends; -1: there is none. -/
def numF (p : ByteArray) (k : Nat) : Int :=
  if isD p k = true then
    if isD p (k + 1) = true then
      if isD p (k + 2) = true then -1
      else if dv p k = 0 ∨ 32 < dv p k * 10 + dv p (k + 1) then -1 else ((dv p k * 10 + dv p (k + 1) : Nat) : Int)
    else (dv p k : Nat)
  else -1
def numN (p : ByteArray) (k : Nat) : Nat :=
  if isD p k = true then if isD p (k + 1) = true then if isD p (k + 2) = true then k + 3 else k + 2 else k + 1 else k
def numPost (p : ByteArray) (k : Nat) (w : World) (e : Ending) (w' : World) : Prop := e = .returned (.tuple #[.int .i64 (numF p k), .int .i64 (numN p k : Nat)]) ∧ w = w'
theorem numPost.mk {p : ByteArray} {k : Nat} {w : World} {x y : Int} (h1 : x = numF p k) (h2 : y = (numN p k : Nat)) : numPost p k w (.returned (.tuple #[.int .i64 x, .int .i64 y])) w := ⟨by rw [h1, h2], rfl⟩
end Go.Proofs.YtjbmkbgoahppfaaDoor

namespace Go.Proofs.YtjbmkbgoahppfaaDoor
open Go.RowKit

def upB (x : Nat) : Bool := decide (65 ≤ x) && decide (x ≤ 90)
def loB (x : Nat) : Bool := decide (97 ≤ x) && decide (x ≤ 122)
def diB (x : Nat) : Bool := decide (48 ≤ x) && decide (x ≤ 57)
end Go.Proofs.YtjbmkbgoahppfaaDoor

namespace Go.Proofs.YtjbmkbgoahppfaaDoor
open Go.RowKit

/-- Is a byte one of a name's? Is there such a name? -/
def isB (l : List UInt8) (k : Nat) : Bool :=
  if (l == [97, 108, 112, 104, 97]) = true then upB k || loB k
  else if (l == [100, 105, 103, 105, 116]) = true then diB k
  else if (l == [97, 108, 110, 117, 109]) = true then upB k || loB k || diB k
  else if (l == [117, 112, 112, 101, 114]) = true then upB k
  else if (l == [108, 111, 119, 101, 114]) = true then loB k
  else if (l == [115, 112, 97, 99, 101]) = true then decide (9 ≤ k) && decide (k ≤ 13) || decide (k = 32)
  else if (l == [98, 108, 97, 110, 107]) = true then decide (k = 9) || decide (k = 32)
  else if (l == [112, 117, 110, 99, 116]) = true then decide (33 ≤ k) && decide (k ≤ 126) && !upB k && !loB k && !diB k
  else if (l == [103, 114, 97, 112, 104]) = true then decide (33 ≤ k) && decide (k ≤ 126)
  else if (l == [112, 114, 105, 110, 116]) = true then decide (32 ≤ k) && decide (k ≤ 126)
  else if (l == [99, 110, 116, 114, 108]) = true then decide (k < 32) || decide (k = 127)
  else if (l == [120, 100, 105, 103, 105, 116]) = true then diB k || (decide (65 ≤ k) && decide (k ≤ 70)) || (decide (97 ≤ k) && decide (k ≤ 102))
  else false
def isN (l : List UInt8) : Bool :=
  (l == [97, 108, 112, 104, 97]) || (l == [100, 105, 103, 105, 116]) || (l == [97, 108, 110, 117, 109]) || (l == [117, 112, 112, 101, 114]) || (l == [108, 111, 119, 101, 114]) || (l == [115, 112, 97, 99, 101]) ||
  (l == [98, 108, 97, 110, 107]) || (l == [112, 117, 110, 99, 116]) || (l == [103, 114, 97, 112, 104]) || (l == [112, 114, 105, 110, 116]) || (l == [99, 110, 116, 114, 108]) || (l == [120, 100, 105, 103, 105, 116])

/-- What is answers. -/
def isPost (s : ByteArray) (k : Nat) (w : World) (e : Ending) (w' : World) : Prop := e = .returned (.tuple #[.bool (isB s.toList k), .bool (isN s.toList)]) ∧ w = w'
theorem isPost.mk {s : ByteArray} {k : Nat} {w : World} {x y : Bool} (hx : x = isB s.toList k) (hy : y = isN s.toList) : isPost s k w (.returned (.tuple #[.bool x, .bool y])) w := ⟨by rw [hx, hy], rfl⟩

end Go.Proofs.YtjbmkbgoahppfaaDoor

namespace Go.Proofs.YtjbmkbgoahppfaaDoor
open Go.RowKit
/-- A set is the same as itself. -/
theorem eq_set' (d : Nat) (x0 x1 x2 x3 : Int) (w : World) :
    (Op.equalIn (d + 2) 38 (.agg #[.int .u64 x0, .int .u64 x1, .int .u64 x2, .int .u64 x3]) (.agg #[.int .u64 x0, .int .u64 x1, .int .u64 x2, .int .u64 x3])).run Tryd.prog w = .ok true w := by
  have hs : ∀ w, (sizeOf 36).run Tryd.prog w = .ok 1 w := fun _ => by kernel_rfl
  have hp : ∀ (xs : Array Value) (i : Nat) (v : Value) (w : World), xs[i]? = some v → (part 36 xs i).run Tryd.prog w = .ok v w := by
    intro xs i v w hv
    simp [part, go_sem, hv, isAgg, run_underlying Tryd.underlying36]
  have e : ∀ (x : Int) (w : World), (Op.equalIn (d + 1) 36 (.int .u64 x) (.int .u64 x)).run Tryd.prog w = .ok true w := fun x w => by
    rw [run_equalIn_int w d 36 .u64 .u64 x x Tryd.underlying36]; simp
  rw [show d + 2 = (d + 1) + 1 from rfl, Op.equalIn]
  simp only [Sem.run_bind, run_underlying Tryd.underlying38, Result.andThen_ok, hs, Std.Legacy.Range.forIn_eq_forIn_range', Std.Legacy.Range.size]
  simp [List.range', hp, e]
theorem eq_set (x0 x1 x2 x3 : Int) (w : World) :
    (Op.equalIn 10000 38 (.agg #[.int .u64 x0, .int .u64 x1, .int .u64 x2, .int .u64 x3]) (.agg #[.int .u64 x0, .int .u64 x1, .int .u64 x2, .int .u64 x3])).run Tryd.prog w = .ok true w := eq_set' 9998 x0 x1 x2 x3 w

end Go.Proofs.YtjbmkbgoahppfaaDoor

namespace Go.Proofs.YtjbmkbgoahppfaaDoor
open Go.RowKit

theorem eq_any' (d : Nat) (x0 x1 x2 x3 y0 y1 y2 y3 : Int) (w : World) :
    (Op.equalIn (d + 2) 38 (.agg #[.int .u64 x0, .int .u64 x1, .int .u64 x2, .int .u64 x3]) (.agg #[.int .u64 y0, .int .u64 y1, .int .u64 y2, .int .u64 y3])).run Tryd.prog w = .ok (x0 == y0 && x1 == y1 && x2 == y2 && x3 == y3) w := by
  have hs : ∀ w, (sizeOf 36).run Tryd.prog w = .ok 1 w := fun _ => by kernel_rfl
  have hp : ∀ (xs : Array Value) (i : Nat) (v : Value) (w : World), xs[i]? = some v → (part 36 xs i).run Tryd.prog w = .ok v w := by
    intro xs i v w hv
    simp [part, go_sem, hv, isAgg, run_underlying Tryd.underlying36]
  have e : ∀ (x y : Int) (w : World), (Op.equalIn (d + 1) 36 (.int .u64 x) (.int .u64 y)).run Tryd.prog w = .ok (x == y) w := fun x y w => by
    rw [run_equalIn_int w d 36 .u64 .u64 x y Tryd.underlying36]
  rw [show d + 2 = (d + 1) + 1 from rfl, Op.equalIn]
  simp only [Sem.run_bind, run_underlying Tryd.underlying38, Result.andThen_ok, hs, Std.Legacy.Range.forIn_eq_forIn_range', Std.Legacy.Range.size]
  by_cases h0 : x0 = y0 <;> by_cases h1 : x1 = y1 <;> by_cases h2 : x2 = y2 <;> by_cases h3 : x3 = y3 <;> simp [List.range', hp, e, h0, h1, h2, h3]
theorem eq_any (x0 x1 x2 x3 y0 y1 y2 y3 : Int) (w : World) :
    (Op.equalIn 10000 38 (.agg #[.int .u64 x0, .int .u64 x1, .int .u64 x2, .int .u64 x3]) (.agg #[.int .u64 y0, .int .u64 y1, .int .u64 y2, .int .u64 y3])).run Tryd.prog w = .ok (x0 == y0 && x1 == y1 && x2 == y2 && x3 == y3) w := eq_any' 9998 x0 x1 x2 x3 y0 y1 y2 y3 w
end Go.Proofs.YtjbmkbgoahppfaaDoor

namespace Go.Proofs.YtjbmkbgoahppfaaDoor
open Go.RowKit

/-- A set with one number more. -/
def put (f : Nat → Bool) (c : Nat) (x : Nat) : Bool := f x || decide (x = c)
theorem put_hit (f : Nat → Bool) (c i : Nat) (hi : c / 64 = i) : bits .or .u64 (wd f i : Int) (IntKind.u64.wrap (2 ^ (c % 64))) = (wd (put f c) i : Nat) := by
  rw [word_put _ _ _ (Nat.mod_lt _ (by decide)), show 64 * i + c % 64 = c from by omega]
  rfl
theorem put_miss (f : Nat → Bool) (c i : Nat) (hi : c / 64 ≠ i) : wd f i = wd (put f c) i := (word_put_other f i c hi).symm
end Go.Proofs.YtjbmkbgoahppfaaDoor

namespace Go.Proofs.YtjbmkbgoahppfaaDoor
open Go.RowKit

def isA (k : Nat) : Bool := isB [97, 108, 110, 117, 109] k
def isS (k : Nat) : Bool := isB [115, 112, 97, 99, 101] k
/-- The bytes of a word. -/
def wordR (k : Nat) : Bool := isA k || decide (k = 95)

/-- What has been put behind k rounds. -/
def upK (f : Nat → Bool) (k x : Nat) : Bool := decide (x < k) && f x
theorem upK_zero (f : Nat → Bool) : upK f 0 = fun _ => false := by funext x; simp [upK]
theorem upK_out (f : Nat → Bool) (k : Nat) (h : f k = false) : upK f (k + 1) = upK f k := by
  funext x
  unfold upK
  by_cases e : x = k
  · subst e; simp [h]
  · by_cases h1 : x < k
    · have : x < k + 1 := by omega
      simp [h1, this]
    · have : ¬ x < k + 1 := by omega
      simp [h1, this]
theorem upK_in (f : Nat → Bool) (k : Nat) (h : f k = true) : put (upK f k) k = upK f (k + 1) := by
  funext x
  unfold put upK
  by_cases e : x = k
  · subst e; simp [h]
  · by_cases h1 : x < k
    · have : x < k + 1 := by omega
      simp [h1, this, e]
    · have : ¬ x < k + 1 := by omega
      simp [h1, this, e]
theorem isSet.all {w : World} {b : Nat} {f : Nat → Bool} (h : isSet w b (upK f 256)) : isSet w b f := h.congr fun k hk => by simp [upK, hk]
theorem wd_zero (f : Nat → Bool) (i j : Nat) (hj : j < 64) (h : wd f i = 0) : f (64 * i + j) = false := by
  have := wd_testBit f i j
  rw [h, Nat.zero_testBit] at this
  simpa [hj] using this.symm
theorem not_all_zero (f : Nat → Bool) (x : Nat) (hx : x < 256) (h : f x = true) : (((wd f 0 : Nat) : Int) == 0 && ((wd f 1 : Nat) : Int) == 0 && ((wd f 2 : Nat) : Int) == 0 && ((wd f 3 : Nat) : Int) == 0) = false := by
  rw [Bool.eq_false_iff]
  intro hz
  simp only [Bool.and_eq_true, beq_iff_eq, Int.natCast_eq_zero] at hz
  obtain ⟨⟨⟨h0, h1⟩, h2⟩, h3⟩ := hz
  have hd : x = 64 * (x / 64) + x % 64 := by omega
  have hm : x % 64 < 64 := Nat.mod_lt _ (by decide)
  have hi : x / 64 = 0 ∨ x / 64 = 1 ∨ x / 64 = 2 ∨ x / 64 = 3 := by omega
  have hf : f (64 * (x / 64) + x % 64) = false := by
    rcases hi with e | e | e | e <;> rw [e] <;> exact wd_zero f _ _ hm ‹_›
  rw [← hd, h] at hf
  cases hf

/-- What a byte behind a backslash stands for; does it stand for anything? -/
def escF (c : Nat) : Nat → Bool :=
  if c = 110 then fun k => decide (k = 10) else if c = 116 then fun k => decide (k = 9) else if c = 114 then fun k => decide (k = 13)
  else if c = 100 then diB else if c = 115 then isS else if c = 119 then wordR
  else if c = 68 then fun k => !diB k else if c = 83 then fun k => !isS k else if c = 87 then fun k => !wordR k
  else if isA c = true then fun _ => false else fun k => decide (k = c)
def escOk (c : Nat) : Bool :=
  decide (c = 110) || decide (c = 116) || decide (c = 114) || decide (c = 100) || decide (c = 115) || decide (c = 119) || decide (c = 68) || decide (c = 83) || decide (c = 87) || !isA c
end Go.Proofs.YtjbmkbgoahppfaaDoor

namespace Go.Proofs.YtjbmkbgoahppfaaDoor
open Go.RowKit

/-- The numbers from lo on, below k. -/
def rg (lo k x : Nat) : Bool := decide (lo ≤ x) && decide (x < k)
theorem rg_put (lo k : Nat) (h : lo ≤ k) : put (rg lo k) k = rg lo (k + 1) := by
  funext x
  unfold put rg
  by_cases hx : x = k
  · subst hx; simp [h]
  · by_cases h1 : x < k
    · have : x < k + 1 := by omega
      simp [h1, this, hx]
    · have : ¬ x < k + 1 := by omega
      simp [h1, this, hx]
theorem rg_none (lo : Nat) : rg lo lo = fun _ => false := by
  funext x
  unfold rg
  by_cases h : lo ≤ x
  · have : ¬ x < lo := by omega
    simp [this]
  · simp [h]

end Go.Proofs.YtjbmkbgoahppfaaDoor

namespace Go.Proofs.YtjbmkbgoahppfaaDoor
open Go.RowKit

/-- Seven cells stored. -/
def set7 (w : World) (c : Nat) (f : Nat → Bool) (n : Int) (ok nm : Bool) : World :=
  ((((((w.setCell ⟨c, 0, none⟩ (.int .u64 (wd f 0 : Int))).setCell ⟨c, 1, none⟩ (.int .u64 (wd f 1 : Int))).setCell ⟨c, 2, none⟩ (.int .u64 (wd f 2 : Int))).setCell ⟨c, 3, none⟩ (.int .u64 (wd f 3 : Int))).setCell ⟨c, 4, none⟩ (.int .i64 n)).setCell ⟨c, 5, none⟩ (.bool ok)).setCell ⟨c, 6, none⟩ (.bool nm)
theorem below_set7 {B : Nat} {a w : World} {c : Nat} (h : Below B a w) (hc : B ≤ c) (g : Nat → Bool) (m : Int) (ok nm : Bool) : Below B a (set7 w c g m ok nm) :=
  ((((((h.setCell hc _).setCell hc _).setCell hc _).setCell hc _).setCell hc _).setCell hc _).setCell hc _

/-- The bytes from one to one. -/
def oneR (b x : Nat) : Bool := decide (b ≤ x) && decide (x ≤ b)
/-- What a backslash at a place stands for: the bytes, where it ends, whether it can be made. -/
def behF (p : ByteArray) (k : Nat) : Nat → Bool :=
  if p.size ≤ k + 1 then fun _ => false
  else if gb p (k + 1) ≠ 120 then escF (gb p (k + 1))
  else if p.size ≤ k + 3 ∨ dig16 (gb p (k + 2)) < 0 ∨ dig16 (gb p (k + 3)) < 0 then fun _ => false
  else oneR (dig16 (gb p (k + 2)) * 16 + dig16 (gb p (k + 3))).toNat
def behN (p : ByteArray) (k : Nat) : Nat :=
  if p.size ≤ k + 1 then 0
  else if gb p (k + 1) ≠ 120 then k + 2
  else if p.size ≤ k + 3 ∨ dig16 (gb p (k + 2)) < 0 ∨ dig16 (gb p (k + 3)) < 0 then 0
  else k + 4
def behOk (p : ByteArray) (k : Nat) : Bool :=
  if p.size ≤ k + 1 then false
  else if gb p (k + 1) ≠ 120 then escOk (gb p (k + 1))
  else if p.size ≤ k + 3 ∨ dig16 (gb p (k + 2)) < 0 ∨ dig16 (gb p (k + 3)) < 0 then false
  else true
theorem dig16_bd (c : Nat) : -1 ≤ dig16 c ∧ dig16 c ≤ 15 := by unfold dig16; repeat' split <;> omega
end Go.Proofs.YtjbmkbgoahppfaaDoor
