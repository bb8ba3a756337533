/-
  The walk of the law FactsBound.
-/
import Derived.Test.YtpjmogcphgaimaaPk12
import Derived.Test.YtpjmogcphgaimaaPk49
import Derived.BigQuiet
import Derived.Deep.QuietTactic
import Derived.Deep.RegionHeldLaw
namespace Go.Proofs.Ytpjmogcphgaimaa
open Go.RowKit

theorem eq_z7 (w : World) : (Op.equalIn 10000 31 (.agg #[.bool false, .int .i64 0, .int .i64 0, .int .u64 0, .int .u64 0, .int .u64 0, .int .u64 0, .bool false]) (.agg #[.bool false, .int .i64 0, .int .i64 0, .int .u64 0, .int .u64 0, .int .u64 0, .int .u64 0, .bool false])).run Try.prog w = .ok true w := by kernel_rfl
/-- What is within what is told can be. -/
theorem can_in {n : Nat} {tx : Nat → Nat} {X : Fx} {i j : Nat} (h : inX n tx X i j) : canX X.nv X.ls X.ms ((j : Int) - i) = true := by
  obtain ⟨-, -, h1, h2, h3, -⟩ := h
  unfold canX
  rw [h1, decide_eq_true h2]
  rcases h3 with h3 | h3
  · rw [h3]; rfl
  · rw [decide_eq_true h3]; simp

set_option maxRecDepth 100000 in
set_option maxHeartbeats 4000000 in
/-- The law, where the list that counts is no tree. -/
theorem bound_not (p : Option Addr) (n cap k : Nat) (hk : k = min n 30) (hcap : n ≤ cap) (t : ByteArray) (m : Nat) (hm : m = min t.size 10) (w : World)
    (hO : ∀ w', Below w.heap.size w w' → Calls Try.prog 9 #[.slice p k cap] w' (ofPost7 fx0 false 3 w')) :
    Calls Try.prog 4 #[.slice p n cap, .string t] w fun e w' => e = .returned (.bool true) ∧ Below w.heap.size w w' := by
  unfold ofPost7 at hO
  rw [fxv_zero] at hO
  have HO := Lib.hid hO
  have h1 : (if (30 : Int) < (n : Int) then (30 : Int) else (n : Int)) = (k : Int) := by split <;> omega
  have h2 : (if (10 : Int) < (t.size : Int) then (10 : Int) else (t.size : Int)) = (m : Int) := by split <;> omega
  have H1 := Lib.hid h1
  have H2 := Lib.hid h2
  have k0 : (0 : Int) ≤ (k : Int) := by omega
  have k1 : (k : Int) ≤ (cap : Int) := by omega
  have m0 : (0 : Int) ≤ (m : Int) := by omega
  have m1 : (m : Int) ≤ (t.size : Int) := by omega
  have hq := eq_z7
  clear hO h1 h2 hk hm
  go_enter Try.func4, Try.ntmps4
  go_wp2_with fail
  refine (awake7_any _).mono ?_
  rintro e w1 ⟨rfl, hb⟩
  have HB1 := Lib.hid hb
  clear hb
  go_wp2_with fail
  go_region_held_law (fun _ => True) (exact trivial) (first | (refine wp_min7 _ _ rfl (n : Int) 30 (k : Int) rfl rfl H1.out ?_) | (refine wp_min7 _ _ rfl (t.size : Int) 10 (m : Int) rfl rfl H2.out ?_))
  all_goals
    have HB2 := Lib.hid HB1.out.drew
    clear HB1
    generalize w1.drew = w2 at *
    go_wp2_with fail
    refine (HO.out _ HB2.out).mono ?_
    rintro e w3 ⟨rfl, hb⟩
    have HB3 := Lib.hid (HB2.out.trans (hb.mono HB2.out.size))
    have HB4 := Lib.hid (HB3.out.alloc HB3.out.size (.cells #[.bool false, .int .i64 0, .int .i64 0, .int .u64 0, .int .u64 0, .int .u64 0, .int .u64 0, .bool false] 31))
    clear hb HO HB2
    go_wp2_with fail
    go_returns
    exact ⟨rfl, HB4.out⟩

set_option maxRecDepth 100000 in
set_option maxHeartbeats 8000000 in
/-- The law, where the list that counts is a tree. -/
theorem bound_tree (p : Option Addr) (n cap k : Nat) (hk : k = min n 30) (hcap : n ≤ cap) (t : ByteArray) (m : Nat) (hm : m = min t.size 10) (s : ByteArray) (hs : t.extract 0 m = s) (hsz : s.size = m) (w : World)
    (X : Fx) (E : Bool) (F : Gr) (hin : ∀ i j, i ≤ j → j ≤ m → F i j = true → inX m (tx7 s) X i j)
    (hO : ∀ w', Below w.heap.size w w' → Calls Try.prog 9 #[.slice p k cap] w' (ofPost7 X E 0 w'))
    (hA : ∀ w', Below w.heap.size w w' → Calls Try.prog 10 #[.slice p k cap, .string s] w' (fitPost m F w')) :
    Calls Try.prog 4 #[.slice p n cap, .string t] w fun e w' => e = .returned (.bool true) ∧ Below w.heap.size w w' := by
  have m10 : m ≤ 10 := by omega
  have HIN : Hid (∀ i j, i ≤ j → j ≤ m → F i j = true → X.nv = false ∧ canX X.nv X.ls X.ms ((j : Int) - i) = true ∧ (i < j → X.fi (tx7 s i) = true)) := Lib.hid fun i j h1 h2 h3 => by
    have h := hin i j h1 h2 h3
    exact ⟨h.2.2.1, can_in h, h.2.2.2.2.2⟩
  unfold ofPost7 fxv at hO
  obtain ⟨xn, xl, xm, f⟩ := X
  simp only at hO HIN
  have HO := Lib.hid hO
  have HAl := Lib.hid hA
  have h1 : (if (30 : Int) < (n : Int) then (30 : Int) else (n : Int)) = (k : Int) := by split <;> omega
  have h2 : (if (10 : Int) < (t.size : Int) then (10 : Int) else (t.size : Int)) = (m : Int) := by split <;> omega
  have H1 := Lib.hid h1
  have H2 := Lib.hid h2
  have k0 : (0 : Int) ≤ (k : Int) := by omega
  have k1 : (k : Int) ≤ (cap : Int) := by omega
  have m0 : (0 : Int) ≤ (m : Int) := by omega
  have m1 : (m : Int) ≤ (t.size : Int) := by omega
  clear hO h1 h2 hk hm hA hin
  go_enter Try.func4, Try.ntmps4
  go_wp2_with fail
  refine (awake7_any _).mono ?_
  rintro e w1 ⟨rfl, hb⟩
  have HB1 := Lib.hid hb
  clear hb
  go_wp2_with fail
  go_region_held_law (fun _ => True) (exact trivial) (first | (refine wp_min7 _ _ rfl (n : Int) 30 (k : Int) rfl rfl H1.out ?_) | (refine wp_min7 _ _ rfl (t.size : Int) 10 (m : Int) rfl rfl H2.out ?_))
  all_goals
    have HB2 := Lib.hid HB1.out.drew
    clear HB1
    generalize w1.drew = w2 at *
    go_wp2_with fail
    refine (HO.out _ HB2.out).mono ?_
    rintro e w3 ⟨rfl, hb⟩
    have HB3 := Lib.hid (HB2.out.trans (hb.mono HB2.out.size))
    have HB4 := Lib.hid (HB3.out.alloc HB3.out.size (.cells #[.bool xn, .int .i64 xl, .int .i64 xm, .int .u64 (wd f 0 : Int), .int .u64 (wd f 1 : Int), .int .u64 (wd f 2 : Int), .int .u64 (wd f 3 : Int), .bool E] 31))
    have E4 := isFx.new w3 xn xl xm (wd f 0 : Int) (wd f 1 : Int) (wd f 2 : Int) (wd f 3 : Int) E
    clear hb HO HB2
    go_wp2_with fail
    generalize w3.alloc (.cells #[.bool xn, .int .i64 xl, .int .i64 xm, .int .u64 (wd f 0 : Int), .int .u64 (wd f 1 : Int), .int .u64 (wd f 2 : Int), .int .u64 (wd f 3 : Int), .bool E] 31) = w4 at *
    generalize w3.heap.size = B at *
    refine (HAl.out _ HB4.out).mono ?_
    rintro e W ⟨v, rfl, hg, hb⟩
    have HW := Lib.hid (HB4.out.trans (hb.mono HB4.out.size))
    have EW := Lib.hid (E4.below hb E4.lt)
    obtain ⟨go, gc, r, rfl, hgo, hg1, hg2⟩ := rdG.of hg
    have HK : Hid (∀ w', Below W.heap.size W w' → (∀ i j, i ≤ m → j ≤ m → w'.cell? ⟨go, i, none⟩ = some (.slice (some ⟨r i, 0, none⟩) (m + 1) (m + 1)) ∧ w'.cell? ⟨r i, j, none⟩ = some (.bool (F i j))) ∧ isFx w' B xn xl xm (wd f 0 : Int) (wd f 1 : Int) (wd f 2 : Int) (wd f 3 : Int) E) := Lib.hid fun w' hB =>
      ⟨fun i j hi hj => ⟨by rw [hB.cell (p := ⟨go, i, none⟩) hgo]; exact hg1 i hi, by rw [hB.cell (p := ⟨r i, j, none⟩) (hg2 i hi).1]; exact (hg2 i hi).2 j hj⟩, EW.out.below hB EW.out.lt⟩
    clear hb HB3 HB4 E4 HAl hg hgo hg1 hg2 EW H1 H2
    go_wp2_with fail
    go_loopw [8] (fun iv wr => ∃ i : Nat, i ≤ m + 1 ∧ iv = .int .i64 i ∧ Below W.heap.size W wr) (fun iv _ => m + 1 - (intOf iv).toNat)
    case atStart => exact ⟨0, Nat.zero_le _, rfl, Below.refl _ _⟩
    case round =>
      obtain ⟨i, hi, rfl, hB⟩ := hrel
      have HB := Lib.hid hB
      clear hB
      by_cases hlt : i ≤ m
      · have d1 : decide ((i : Int) ≤ (m : Int)) = true := decide_eq_true (by omega)
        have i0 : (0 : Int) ≤ (i : Int) := by omega
        have i1 : (i : Int) < (m : Int) + 1 := by omega
        go_wp2_with fail
        go_loopw [9] (fun jv wx => ∃ j : Nat, i ≤ j ∧ j ≤ m + 1 ∧ jv = .int .i64 j ∧ Below W.heap.size W wx) (fun jv _ => m + 1 - (intOf jv).toNat)
        case atStart => exact ⟨i, Nat.le_refl _, hi, rfl, HB.out⟩
        case round =>
          obtain ⟨j, hij, hj, rfl, hB⟩ := hrel
          have HB' := Lib.hid hB
          clear hB
          by_cases hjm : j ≤ m
          · have d2 : decide ((j : Int) ≤ (m : Int)) = true := decide_eq_true (by omega)
            have j0 : (0 : Int) ≤ (j : Int) := by omega
            have j1 : (j : Int) < (m : Int) + 1 := by omega
            obtain ⟨hgr, hfx⟩ := HK.out _ HB'.out
            obtain ⟨g1, g2⟩ := hgr i j hlt hjm
            cases hF : F i j with
            | false =>
              rw [hF] at g2
              clear hgr hfx hF
              go_wp2_with fail
              go_quiet (fail)
              have HB9 := Lib.hid (below_drewN nq HB'.out)
              go_wp2_with fail
              go_roundw
              case rel => exact ⟨j + 1, by omega, by omega, by go_num, HB9.out⟩
              case measure => simp [intOf]; omega
            | true =>
              rw [hF] at g2
              obtain ⟨hxn, hcan, hfi⟩ := HIN.out i j hij hjm hF
              subst hxn
              have HCan := Lib.hid (fun w => hcan ▸ can_any false xl xm (wd f 0 : Int) (wd f 1 : Int) (wd f 2 : Int) (wd f 3 : Int) ((j : Int) - i) E w)
              have hwr : IntKind.i64.wrap ((j : Int) - (i : Int)) = (j : Int) - (i : Int) := by rw [IntKind.wrap_i64]; omega
              have HS : Hid (∀ w', Below wr.heap.size wr w' → w'.cell? ⟨go, i, none⟩ = some (.slice (some ⟨r i, 0, none⟩) (m + 1) (m + 1)) ∧ w'.cell? ⟨r i, j, none⟩ = some (.bool true) ∧ w'.cell? ⟨B, 0, none⟩ = some (.bool false) ∧ w'.cell? ⟨B, 1, none⟩ = some (.int .i64 xl) ∧ w'.cell? ⟨B, 2, none⟩ = some (.int .i64 xm) ∧ w'.cell? ⟨B, 3, none⟩ = some (.int .u64 (wd f 0 : Int)) ∧ w'.cell? ⟨B, 4, none⟩ = some (.int .u64 (wd f 1 : Int)) ∧ w'.cell? ⟨B, 5, none⟩ = some (.int .u64 (wd f 2 : Int)) ∧ w'.cell? ⟨B, 6, none⟩ = some (.int .u64 (wd f 3 : Int)) ∧ w'.cell? ⟨B, 7, none⟩ = some (.bool E)) := Lib.hid fun w' hB => by
                obtain ⟨hgr', hfx'⟩ := HK.out w' (HB'.out.trans (hB.mono HB'.out.size))
                obtain ⟨k1, k2⟩ := hgr' i j hlt hjm
                rw [hF] at k2
                obtain ⟨e0, e1, e2, e3, e4, e5, e6, e7⟩ := hfx'.cells
                exact ⟨k1, k2, e0, e1, e2, e3, e4, e5, e6, e7⟩
              have hB := Below.refl wr.heap.size wr
              have HIJ : Hid (i ≤ j ∧ j ≤ m) := Lib.hid ⟨hij, hjm⟩
              rcases Nat.lt_or_ge i j with hlt2 | hge2
              · have d3 : decide ((i : Int) < (j : Int)) = true := decide_eq_true (by omega)
                have d4 : decide (i < j) = true := decide_eq_true hlt2
                have HIx := Lib.hid (fun w => ix_str s i (by omega) (by omega) w)
                have hfc := hfi hlt2
                have hc := tx7_lt s i
                generalize tx7 s i = c at *
                have HHas := Lib.hid (fun w => hfc ▸ rhas_lit f c hc w)
                have hix := HIx.out
                have hwc : IntKind.i64.wrap (c : Int) = (c : Int) := by rw [IntKind.wrap_i64]; omega
                clear hgr hfx hF hcan hfi hfc g1 g2 hlt2 HIx hij hjm hlt hi hj
                go_wp2_with fail
                go_region_held_law (fun w' => w'.cell? ⟨go, i, none⟩ = some (.slice (some ⟨r i, 0, none⟩) (m + 1) (m + 1)) ∧ w'.cell? ⟨r i, j, none⟩ = some (.bool true) ∧ w'.cell? ⟨B, 0, none⟩ = some (.bool false) ∧ w'.cell? ⟨B, 1, none⟩ = some (.int .i64 xl) ∧ w'.cell? ⟨B, 2, none⟩ = some (.int .i64 xm) ∧ w'.cell? ⟨B, 3, none⟩ = some (.int .u64 (wd f 0 : Int)) ∧ w'.cell? ⟨B, 4, none⟩ = some (.int .u64 (wd f 1 : Int)) ∧ w'.cell? ⟨B, 5, none⟩ = some (.int .u64 (wd f 2 : Int)) ∧ w'.cell? ⟨B, 6, none⟩ = some (.int .u64 (wd f 3 : Int)) ∧ w'.cell? ⟨B, 7, none⟩ = some (.bool E))
                  (first | with_reducible exact HS.out _ hB | with_reducible exact HS.out _ hB.drew)
                  (first
                    | (go_at_call 11; (with_reducible refine (HCan.out _).mono ?_); rintro e wk ⟨rfl, hb⟩; (replace hB := hB.drew.trans (hb.mono (by exact hB.size))); clear hb)
                    | (go_at_call 12; (with_reducible refine (HHas.out _).mono ?_); rintro e wk ⟨rfl, hb⟩; (replace hB := hB.trans (hb.mono (by exact hB.size))); clear hb))
                all_goals
                  have HB9 := Lib.hid (HB'.out.trans (hB.mono HB'.out.size))
                  obtain ⟨hij, hjm⟩ := HIJ.out
                  clear hB
                  go_wp2_with fail
                  go_roundw
                  case rel => exact ⟨j + 1, by omega, by omega, by go_num, HB9.out⟩
                  case measure => simp [intOf]; omega
              · have d3 : decide ((i : Int) < (j : Int)) = false := decide_eq_false (by omega)
                have d4 : decide (i < j) = false := decide_eq_false (by omega)
                clear hgr hfx hF hcan hfi g1 g2 hge2 hij hjm hlt hi hj
                go_wp2_with fail
                refine wp_region_held_drew (S := (fun w' => w'.cell? ⟨go, i, none⟩ = some (.slice (some ⟨r i, 0, none⟩) (m + 1) (m + 1)) ∧ w'.cell? ⟨r i, j, none⟩ = some (.bool true) ∧ w'.cell? ⟨B, 0, none⟩ = some (.bool false) ∧ w'.cell? ⟨B, 1, none⟩ = some (.int .i64 xl) ∧ w'.cell? ⟨B, 2, none⟩ = some (.int .i64 xm) ∧ w'.cell? ⟨B, 3, none⟩ = some (.int .u64 (wd f 0 : Int)) ∧ w'.cell? ⟨B, 4, none⟩ = some (.int .u64 (wd f 1 : Int)) ∧ w'.cell? ⟨B, 5, none⟩ = some (.int .u64 (wd f 2 : Int)) ∧ w'.cell? ⟨B, 6, none⟩ = some (.int .u64 (wd f 3 : Int)) ∧ w'.cell? ⟨B, 7, none⟩ = some (.bool E))) (by kernel_rfl) (HS.out _ hB.drew) (fun hHeld => ?_)
                refine wpAnyH_take (i := 0) (oi := { dst := some 48, op := Op.move (Operand.tmp 7), type := 36, pos := "law.go:57", after := #[], guard := none }) (v := .slice (some ⟨go, 0, none⟩) (m + 1) gc) rfl (by kernel_rfl) (by kernel_rfl) (by kernel_rfl) (fun _ _ _ h => h) (Or.inl ⟨by rfl, ?_⟩) (by assumption) ?_
                · intro w hSw; (try dsimp only at hSw); go_simp
                try simp only [Act.put, List.setIfInBounds_toArray, List.set_cons_zero, List.set_cons_succ]
                refine wpAnyH_take (i := 1) (oi := { dst := some 49, op := Op.move (Operand.tmp 8), type := 3, pos := "law.go:57", after := #[], guard := none }) (v := .int .i64 (i : Int)) rfl (by kernel_rfl) (by kernel_rfl) (by kernel_rfl) (fun _ _ _ h => h) (Or.inl ⟨by rfl, ?_⟩) (by assumption) ?_
                · intro w hSw; (try dsimp only at hSw); go_simp
                try simp only [Act.put, List.setIfInBounds_toArray, List.set_cons_zero, List.set_cons_succ]
                refine wpAnyH_take (i := 2) (oi := { dst := some 50, op := Op.indexAddr 36 (Operand.tmp 48) (Operand.tmp 49), type := 0, pos := "law.go:57", after := #[{ on := 0, ground := Ground.data }, { on := 1, ground := Ground.data }], guard := none }) (v := .pointer (some ⟨go, i, none⟩)) rfl (by kernel_rfl) (by kernel_rfl) (by kernel_rfl) (fun _ _ _ h => h) (Or.inl ⟨by rfl, ?_⟩) (by assumption) ?_
                · intro w hSw; (try dsimp only at hSw); go_simp
                try simp only [Act.put, List.setIfInBounds_toArray, List.set_cons_zero, List.set_cons_succ]
                refine wpAnyH_take (i := 3) (oi := { dst := some 51, op := Op.load 38 (Operand.tmp 50), type := 38, pos := "law.go:57", after := #[{ on := 2, ground := Ground.data }], guard := none }) (v := .slice (some ⟨r i, 0, none⟩) (m + 1) (m + 1)) rfl (by kernel_rfl) (by kernel_rfl) (by kernel_rfl) (fun _ _ _ h => h) (Or.inl ⟨by rfl, ?_⟩) (by assumption) ?_
                · intro w hSw; (try dsimp only at hSw); go_simp
                try simp only [Act.put, List.setIfInBounds_toArray, List.set_cons_zero, List.set_cons_succ]
                refine wpAnyH_take (i := 4) (oi := { dst := some 52, op := Op.move (Operand.tmp 9), type := 3, pos := "law.go:57", after := #[], guard := none }) (v := .int .i64 (j : Int)) rfl (by kernel_rfl) (by kernel_rfl) (by kernel_rfl) (fun _ _ _ h => h) (Or.inl ⟨by rfl, ?_⟩) (by assumption) ?_
                · intro w hSw; (try dsimp only at hSw); go_simp
                try simp only [Act.put, List.setIfInBounds_toArray, List.set_cons_zero, List.set_cons_succ]
                refine wpAnyH_take (i := 5) (oi := { dst := some 53, op := Op.indexAddr 38 (Operand.tmp 51) (Operand.tmp 52), type := 0, pos := "law.go:57", after := #[{ on := 3, ground := Ground.data }, { on := 4, ground := Ground.data }], guard := none }) (v := .pointer (some ⟨r i, j, none⟩)) rfl (by kernel_rfl) (by kernel_rfl) (by kernel_rfl) (fun _ _ _ h => h) (Or.inl ⟨by rfl, ?_⟩) (by assumption) ?_
                · intro w hSw; (try dsimp only at hSw); go_simp
                try simp only [Act.put, List.setIfInBounds_toArray, List.set_cons_zero, List.set_cons_succ]
                refine wpAnyH_take (i := 6) (oi := { dst := some 54, op := Op.load 4 (Operand.tmp 53), type := 4, pos := "law.go:57", after := #[{ on := 5, ground := Ground.data }], guard := none }) (v := .bool true) rfl (by kernel_rfl) (by kernel_rfl) (by kernel_rfl) (fun _ _ _ h => h) (Or.inl ⟨by rfl, ?_⟩) (by assumption) ?_
                · intro w hSw; (try dsimp only at hSw); go_simp
                try simp only [Act.put, List.setIfInBounds_toArray, List.set_cons_zero, List.set_cons_succ]
                refine wpAnyH_take (i := 7) (oi := { dst := some 55, op := Op.move (Operand.tmp 54), type := 4, pos := "law.go:57", after := #[{ on := 6, ground := Ground.data }], guard := none }) (v := .bool true) rfl (by kernel_rfl) (by kernel_rfl) (by kernel_rfl) (fun _ _ _ h => h) (Or.inl ⟨by rfl, ?_⟩) (by assumption) ?_
                · intro w hSw; (try dsimp only at hSw); go_simp
                try simp only [Act.put, List.setIfInBounds_toArray, List.set_cons_zero, List.set_cons_succ]
                refine wpAnyH_take (i := 8) (oi := { dst := some 56, op := Op.load 31 (Operand.tmp 5), type := 31, pos := "law.go:57", after := #[{ on := 7, ground := Ground.guard }], guard := some (7, true) }) (v := .agg #[.bool false, .int .i64 xl, .int .i64 xm, .int .u64 (wd f 0 : Int), .int .u64 (wd f 1 : Int), .int .u64 (wd f 2 : Int), .int .u64 (wd f 3 : Int), .bool E]) rfl (by kernel_rfl) (by kernel_rfl) (by kernel_rfl) (fun _ _ _ h => h) (Or.inl ⟨by rfl, ?_⟩) (by assumption) ?_
                · intro w hSw; (try dsimp only at hSw); go_simp
                try simp only [Act.put, List.setIfInBounds_toArray, List.set_cons_zero, List.set_cons_succ]
                refine wpAnyH_take (i := 9) (oi := { dst := some 57, op := Op.move (Operand.tmp 9), type := 3, pos := "law.go:57", after := #[{ on := 7, ground := Ground.guard }], guard := some (7, true) }) (v := .int .i64 (j : Int)) rfl (by kernel_rfl) (by kernel_rfl) (by kernel_rfl) (fun _ _ _ h => h) (Or.inl ⟨by rfl, ?_⟩) (by assumption) ?_
                · intro w hSw; (try dsimp only at hSw); go_simp
                try simp only [Act.put, List.setIfInBounds_toArray, List.set_cons_zero, List.set_cons_succ]
                refine wpAnyH_take (i := 10) (oi := { dst := some 58, op := Op.move (Operand.tmp 8), type := 3, pos := "law.go:57", after := #[{ on := 7, ground := Ground.guard }], guard := some (7, true) }) (v := .int .i64 (i : Int)) rfl (by kernel_rfl) (by kernel_rfl) (by kernel_rfl) (fun _ _ _ h => h) (Or.inl ⟨by rfl, ?_⟩) (by assumption) ?_
                · intro w hSw; (try dsimp only at hSw); go_simp
                try simp only [Act.put, List.setIfInBounds_toArray, List.set_cons_zero, List.set_cons_succ]
                refine wpAnyH_take (i := 11) (oi := { dst := some 59, op := Op.binOp BinOp.sub 3 (Operand.tmp 57) (Operand.tmp 58) 3, type := 3, pos := "law.go:57", after := #[{ on := 9, ground := Ground.data }, { on := 10, ground := Ground.data }, { on := 7, ground := Ground.guard }], guard := some (7, true) }) (v := .int .i64 ((j : Int) - (i : Int))) rfl (by kernel_rfl) (by kernel_rfl) (by kernel_rfl) (fun _ _ _ h => h) (Or.inl ⟨by rfl, ?_⟩) (by assumption) ?_
                · intro w hSw; (try dsimp only at hSw); go_simp
                try simp only [Act.put, List.setIfInBounds_toArray, List.set_cons_zero, List.set_cons_succ]
                refine wpAnyH_ready (rs := [12]) (by kernel_rfl) (by simp) ?_
                refine AllReadyH.cons rfl (fun K' hK' => ?_) AllReadyH.nil
                go_simp
                (with_reducible refine (HCan.out _).mono ?_)
                rintro e wk ⟨rfl, hb⟩
                replace hB := hB.drew.trans (hb.mono (by exact hB.size))
                clear hb
                refine hK'.out _ _ ?_ (fun hHeld => ?_)
                · (try dsimp only)
                  exact HS.out _ hB
                clear hK' K'
                try simp only [Act.put, List.setIfInBounds_toArray, List.set_cons_zero, List.set_cons_succ]
                refine wpAnyH_take (i := 13) (oi := { dst := some 61, op := Op.unOp UnOp.not 4 (Operand.tmp 60), type := 4, pos := "law.go:57", after := #[{ on := 12, ground := Ground.data }, { on := 7, ground := Ground.guard }], guard := some (7, true) }) (v := .bool false) rfl (by kernel_rfl) (by kernel_rfl) (by kernel_rfl) (fun _ _ _ h => h) (Or.inl ⟨by rfl, ?_⟩) (by assumption) ?_
                · intro w hSw; (try dsimp only at hSw); go_simp
                try simp only [Act.put, List.setIfInBounds_toArray, List.set_cons_zero, List.set_cons_succ]
                refine wpAnyH_take (i := 14) (oi := { dst := some 62, op := Op.move (Operand.tmp 61), type := 4, pos := "law.go:57", after := #[{ on := 13, ground := Ground.data }, { on := 12, ground := Ground.chain }, { on := 7, ground := Ground.guard }], guard := some (7, true) }) (v := .bool false) rfl (by kernel_rfl) (by kernel_rfl) (by kernel_rfl) (fun _ _ _ h => h) (Or.inl ⟨by rfl, ?_⟩) (by assumption) ?_
                · intro w hSw; (try dsimp only at hSw); go_simp
                try simp only [Act.put, List.setIfInBounds_toArray, List.set_cons_zero, List.set_cons_succ]
                refine wpAnyH_take (i := 15) (oi := { dst := some 63, op := Op.move (Operand.tmp 9), type := 3, pos := "law.go:57", after := #[{ on := 14, ground := Ground.guard }], guard := some (14, false) }) (v := .int .i64 (j : Int)) rfl (by kernel_rfl) (by kernel_rfl) (by kernel_rfl) (fun _ _ _ h => h) (Or.inl ⟨by rfl, ?_⟩) (by assumption) ?_
                · intro w hSw; (try dsimp only at hSw); go_simp
                try simp only [Act.put, List.setIfInBounds_toArray, List.set_cons_zero, List.set_cons_succ]
                refine wpAnyH_take (i := 16) (oi := { dst := some 64, op := Op.move (Operand.tmp 8), type := 3, pos := "law.go:57", after := #[{ on := 14, ground := Ground.guard }], guard := some (14, false) }) (v := .int .i64 (i : Int)) rfl (by kernel_rfl) (by kernel_rfl) (by kernel_rfl) (fun _ _ _ h => h) (Or.inl ⟨by rfl, ?_⟩) (by assumption) ?_
                · intro w hSw; (try dsimp only at hSw); go_simp
                try simp only [Act.put, List.setIfInBounds_toArray, List.set_cons_zero, List.set_cons_succ]
                refine wpAnyH_take (i := 17) (oi := { dst := some 65, op := Op.binOp BinOp.gtr 3 (Operand.tmp 63) (Operand.tmp 64) 3, type := 4, pos := "law.go:57", after := #[{ on := 15, ground := Ground.data }, { on := 16, ground := Ground.data }, { on := 14, ground := Ground.guard }], guard := some (14, false) }) (v := .bool false) rfl (by kernel_rfl) (by kernel_rfl) (by kernel_rfl) (fun _ _ _ h => h) (Or.inl ⟨by rfl, ?_⟩) (by assumption) ?_
                · intro w hSw; (try dsimp only at hSw); go_simp
                try simp only [Act.put, List.setIfInBounds_toArray, List.set_cons_zero, List.set_cons_succ]
                refine wpAnyH_take (i := 18) (oi := { dst := some 66, op := Op.move (Operand.tmp 65), type := 4, pos := "law.go:57", after := #[{ on := 17, ground := Ground.data }, { on := 14, ground := Ground.chain }, { on := 14, ground := Ground.guard }], guard := some (14, false) }) (v := .bool false) rfl (by kernel_rfl) (by kernel_rfl) (by kernel_rfl) (fun _ _ _ h => h) (Or.inl ⟨by rfl, ?_⟩) (by assumption) ?_
                · intro w hSw; (try dsimp only at hSw); go_simp
                try simp only [Act.put, List.setIfInBounds_toArray, List.set_cons_zero, List.set_cons_succ]
                refine wpAnyH_take (i := 19) (oi := { dst := some 67, op := Op.fieldAddr 31 (Operand.tmp 5) 3, type := 0, pos := "law.go:57", after := #[{ on := 18, ground := Ground.guard }], guard := some (18, true) }) (v := undef) rfl (by kernel_rfl) (by kernel_rfl) (by kernel_rfl) (fun _ _ _ h => h) (Or.inr ⟨by rfl, rfl⟩) (by assumption) ?_
                try simp only [Act.put, List.setIfInBounds_toArray, List.set_cons_zero, List.set_cons_succ]
                refine wpAnyH_take (i := 20) (oi := { dst := some 68, op := Op.load 29 (Operand.tmp 67), type := 29, pos := "law.go:57", after := #[{ on := 19, ground := Ground.data }, { on := 18, ground := Ground.guard }], guard := some (18, true) }) (v := undef) rfl (by kernel_rfl) (by kernel_rfl) (by kernel_rfl) (fun _ _ _ h => h) (Or.inr ⟨by rfl, rfl⟩) (by assumption) ?_
                try simp only [Act.put, List.setIfInBounds_toArray, List.set_cons_zero, List.set_cons_succ]
                refine wpAnyH_take (i := 21) (oi := { dst := some 69, op := Op.move (Operand.tmp 1), type := 9, pos := "law.go:57", after := #[{ on := 18, ground := Ground.guard }], guard := some (18, true) }) (v := undef) rfl (by kernel_rfl) (by kernel_rfl) (by kernel_rfl) (fun _ _ _ h => h) (Or.inr ⟨by rfl, rfl⟩) (by assumption) ?_
                try simp only [Act.put, List.setIfInBounds_toArray, List.set_cons_zero, List.set_cons_succ]
                refine wpAnyH_take (i := 22) (oi := { dst := some 70, op := Op.move (Operand.tmp 8), type := 3, pos := "law.go:57", after := #[{ on := 18, ground := Ground.guard }], guard := some (18, true) }) (v := undef) rfl (by kernel_rfl) (by kernel_rfl) (by kernel_rfl) (fun _ _ _ h => h) (Or.inr ⟨by rfl, rfl⟩) (by assumption) ?_
                try simp only [Act.put, List.setIfInBounds_toArray, List.set_cons_zero, List.set_cons_succ]
                refine wpAnyH_take (i := 23) (oi := { dst := some 71, op := Op.index 9 (Operand.tmp 69) (Operand.tmp 70), type := 5, pos := "law.go:57", after := #[{ on := 21, ground := Ground.data }, { on := 22, ground := Ground.data }, { on := 18, ground := Ground.guard }], guard := some (18, true) }) (v := undef) rfl (by kernel_rfl) (by kernel_rfl) (by kernel_rfl) (fun _ _ _ h => h) (Or.inr ⟨by rfl, rfl⟩) (by assumption) ?_
                try simp only [Act.put, List.setIfInBounds_toArray, List.set_cons_zero, List.set_cons_succ]
                refine wpAnyH_take (i := 24) (oi := { dst := some 72, op := Op.convert 5 3 (Operand.tmp 71), type := 3, pos := "law.go:57", after := #[{ on := 23, ground := Ground.data }, { on := 18, ground := Ground.guard }], guard := some (18, true) }) (v := undef) rfl (by kernel_rfl) (by kernel_rfl) (by kernel_rfl) (fun _ _ _ h => h) (Or.inr ⟨by rfl, rfl⟩) (by assumption) ?_
                try simp only [Act.put, List.setIfInBounds_toArray, List.set_cons_zero, List.set_cons_succ]
                refine wpAnyH_take (i := 25) (oi := { dst := some 73, op := Op.call { callee := Callee.value (Operand.func 12), args := #[Operand.tmp 68, Operand.tmp 72], argTypes := #[29, 3] }, type := 4, pos := "law.go:57", after := #[{ on := 20, ground := Ground.data }, { on := 24, ground := Ground.data }, { on := 18, ground := Ground.chain }, { on := 18, ground := Ground.guard }], guard := some (18, true) }) (v := undef) rfl (by kernel_rfl) (by kernel_rfl) (by kernel_rfl) (fun _ _ _ h => h) (Or.inr ⟨by rfl, rfl⟩) (by assumption) ?_
                try simp only [Act.put, List.setIfInBounds_toArray, List.set_cons_zero, List.set_cons_succ]
                refine wpAnyH_take (i := 26) (oi := { dst := some 74, op := Op.unOp UnOp.not 4 (Operand.tmp 73), type := 4, pos := "law.go:57", after := #[{ on := 25, ground := Ground.data }, { on := 18, ground := Ground.guard }], guard := some (18, true) }) (v := undef) rfl (by kernel_rfl) (by kernel_rfl) (by kernel_rfl) (fun _ _ _ h => h) (Or.inr ⟨by rfl, rfl⟩) (by assumption) ?_
                try simp only [Act.put, List.setIfInBounds_toArray, List.set_cons_zero, List.set_cons_succ]
                refine wpAnyH_take (i := 27) (oi := { dst := some 75, op := Op.pick (Operand.tmp 66) (Operand.tmp 74) (Operand.const (Value.bool false)), type := 4, pos := "law.go:57", after := #[{ on := 18, ground := Ground.data }, { on := 26, ground := Ground.data }, { on := 14, ground := Ground.guard }], guard := some (14, false) }) (v := .bool false) rfl (by kernel_rfl) (by kernel_rfl) (by kernel_rfl) (fun _ _ _ h => h) (Or.inl ⟨by rfl, ?_⟩) (by assumption) ?_
                · intro w hSw; (try dsimp only at hSw); go_simp
                try simp only [Act.put, List.setIfInBounds_toArray, List.set_cons_zero, List.set_cons_succ]
                refine wpAnyH_take (i := 28) (oi := { dst := some 76, op := Op.pick (Operand.tmp 62) (Operand.const (Value.bool true)) (Operand.tmp 75), type := 4, pos := "law.go:57", after := #[{ on := 14, ground := Ground.data }, { on := 27, ground := Ground.data }, { on := 7, ground := Ground.guard }], guard := some (7, true) }) (v := .bool false) rfl (by kernel_rfl) (by kernel_rfl) (by kernel_rfl) (fun _ _ _ h => h) (Or.inl ⟨by rfl, ?_⟩) (by assumption) ?_
                · intro w hSw; (try dsimp only at hSw); go_simp
                try simp only [Act.put, List.setIfInBounds_toArray, List.set_cons_zero, List.set_cons_succ]
                refine wpAnyH_take (i := 29) (oi := { dst := some 77, op := Op.pick (Operand.tmp 55) (Operand.tmp 76) (Operand.const (Value.bool false)), type := 4, pos := "law.go:57", after := #[{ on := 7, ground := Ground.data }, { on := 28, ground := Ground.data }], guard := none }) (v := .bool false) rfl (by kernel_rfl) (by kernel_rfl) (by kernel_rfl) (fun _ _ _ h => h) (Or.inl ⟨by rfl, ?_⟩) (by assumption) ?_
                · intro w hSw; (try dsimp only at hSw); go_simp
                try simp only [Act.put, List.setIfInBounds_toArray, List.set_cons_zero, List.set_cons_succ]
                refine wpAnyH_done (by kernel_rfl) ?_ _
                have HB9 := Lib.hid (HB'.out.trans (hB.mono HB'.out.size))
                obtain ⟨hij, hjm⟩ := HIJ.out
                clear hB
                go_wp2_with fail
                go_roundw
                case rel => exact ⟨j + 1, by omega, by omega, by go_num, HB9.out⟩
                case measure => simp [intOf]; omega
          · have d2 : decide ((j : Int) ≤ (m : Int)) = false := decide_eq_false (by omega)
            go_wp2_with fail
            go_roundw
            case rel => exact ⟨i + 1, by omega, by go_num, HB'.out⟩
            case measure => simp [intOf]; omega
      · have d1 : decide ((i : Int) ≤ (m : Int)) = false := decide_eq_false (by omega)
        have HF := Lib.hid (HW.out.trans (HB.out.mono HW.out.size))
        go_wp2_with fail
        go_returns
        exact ⟨rfl, HF.out⟩
end Go.Proofs.Ytpjmogcphgaimaa
