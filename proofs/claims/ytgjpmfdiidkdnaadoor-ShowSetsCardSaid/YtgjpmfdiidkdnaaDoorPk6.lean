/-
  strconv.ParseUint at base 16, of a string of two bytes: their number, or an error that is not nil.
-/
import Derived.Test.YtgjpmfdiidkdnaaDoorPk4
import Derived.Test.YtgjpmfdiidkdnaaDoorPk5
import Derived.Lib.ConvBytes
import Derived.Laws.Strings3
import Derived.Laws.Closers25
import Derived.Laws.Closers25b
import Derived.BigCall
import Derived.BigGuard
import Derived.Lib.Walk
namespace Go.Proofs.YtgjpmfdiidkdnaaDoor
open Go.RowKit

/-- What ParseUint takes a byte for: below 36. -/
def low32 (c : Nat) : Nat := (bits .or .u8 (c : Int) 32).toNat
theorem low_tab : ∀ c : Nat, c < 256 → bits .or .u8 (c : Int) 32 = (low32 c : Int) ∧ low32 c < 256 ∧
    ((48 ≤ c ∧ c ≤ 57 ∧ dig16 c = (c : Int) - 48) ∨ (57 < c ∧ c ≠ 95 ∧ 97 ≤ low32 c ∧ low32 c ≤ 102 ∧ dig16 c = (low32 c : Int) - 87) ∨
     (57 < c ∧ c ≠ 95 ∧ 103 ≤ low32 c ∧ low32 c ≤ 122 ∧ dig16 c = -1) ∨ ((c < 48 ∨ 57 < c) ∧ (low32 c < 97 ∨ 122 < low32 c) ∧ dig16 c = -1)) := by decide +kernel
theorem lower_sym (c l : Nat) (h : bits .or .u8 (c : Int) 32 = (l : Int)) (w : World) :
    Calls Tryd.prog 96 #[.int .u8 (c : Int)] w fun e w' => e = .returned (.int .u8 (l : Int)) ∧ w' = w := by
  have := Sh.internal_strconv_lower (c : Int) w
  rw [h] at this
  exact this
/-- What it answers. -/
def puV (c c' : Nat) : Value := if dig16 c < 0 ∨ dig16 c' < 0 then .tuple #[.int .u64 0, .iface 125 (.int .i64 2)] else .tuple #[.int .u64 (dig16 c * 16 + dig16 c'), .nilIface]
def puPost (c c' : Nat) (W : World) (e : Ending) (w' : World) : Prop := e = .returned (puV c c') ∧ w' = W
theorem puPost.bad {c c' : Nat} {W : World} (h : dig16 c < 0 ∨ dig16 c' < 0) : puPost c c' W (.returned (.tuple #[.int .u64 0, .iface 125 (.int .i64 2)])) W := ⟨by unfold puV; rw [if_pos h], rfl⟩
theorem puPost.good {c c' : Nat} {W : World} {x : Int} (h : ¬ (dig16 c < 0 ∨ dig16 c' < 0)) (hx : x = dig16 c * 16 + dig16 c') : puPost c c' W (.returned (.tuple #[.int .u64 x, .nilIface])) W := ⟨by unfold puV; rw [if_neg h, hx], rfl⟩

theorem gb_data (t : ByteArray) (j : Nat) (h : j < t.size) : (t.data.toList.getD j 0).toNat = gb t j := by
  rw [← gb_in h]
  have h' : j < t.data.toList.length := by simpa using h
  rw [List.getD_eq_getElem?_getD, List.getElem?_eq_getElem h']
  simp [ByteArray.getElem_eq_getElem_data]

set_option maxRecDepth 100000 in
set_option maxHeartbeats 4000000 in
theorem pu_bad3 (t : ByteArray) (h2 : t.size = 2) (c c' l l' : Nat) (d _d' : Nat) (_hc : c < 256) (_hc' : c' < 256) (_hl : l < 256) (_hl' : l' < 256) (g0 : gb t 0 = c) (g1 : gb t 1 = c') (e0 : ((c : Int) == 95) = false) (e1 : decide ((48 : Int) ≤ (c : Int)) = true) (e2 : decide ((c : Int) ≤ 57) = false) (el : Hid (bits .or .u8 (c : Int) 32 = (l : Int))) (e3 : decide ((97 : Int) ≤ (l : Int)) = true) (e4 : decide ((l : Int) ≤ 122) = true) (e6 : IntKind.u8.wrap ((l : Int) - 97) = (l : Int) - 97) (e7 : IntKind.u8.wrap ((l : Int) - 97 + 10) = (d : Int)) (e5 : decide ((16 : Int) ≤ (d : Int)) = true) (hb : dig16 c < 0 ∨ dig16 c' < 0) (w : World) :
    Calls Tryd.prog 86 #[.string t, .int .i64 16, .int .i64 8] w (puPost c c' (Lib.bytesWorld w 5 t)) := by
  have hemp : t.toList.isEmpty = false := by
    rw [← decide_eq_emptyBytes]
    exact decide_eq_false (fun h => by rw [h] at h2; cases h2)
  have hcv := Lib.run_convert_string_bytes (P := Tryd.prog) w 9 59 5 t (u := .string) Tryd.underlying9 Tryd.underlying59 Tryd.underlying5
  have hB0 : (Lib.bytesWorld w 5 t).cell? ⟨w.heap.size, 0, none⟩ = some (.int .u8 (c : Int)) := by
    rw [Lib.bytesWorld_cell w 5 t 0 (by omega), ← g0]; exact congrArg (fun n : Nat => some (Value.int .u8 (n : Int))) (gb_data t 0 (by omega))
  have hB1 : (Lib.bytesWorld w 5 t).cell? ⟨w.heap.size, 1, none⟩ = some (.int .u8 (c' : Int)) := by
    rw [Lib.bytesWorld_cell w 5 t 1 (by omega), ← g1]; exact congrArg (fun n : Nat => some (Value.int .u8 (n : Int))) (gb_data t 1 (by omega))
  obtain ⟨W1, hW1⟩ : ∃ W1, W1 = Lib.bytesWorld w 5 t := ⟨_, rfl⟩
  rw [h2, ← hW1] at hcv
  rw [← hW1] at hB0 hB1 ⊢
  have hmv : IntKind.u64.wrap (IntKind.u64.wrap 256 - 1) = 255 := by
    rw [IntKind.wrap_u64, IntKind.wrap_u64]
    decide
  have hcu : decide ((1152921504606846976 : Int) ≤ 0) = false := rfl
  have hmz : IntKind.u64.wrap (0 * 16) = 0 := by rw [IntKind.wrap_u64]; decide
  have HB := Lib.hid hb
  clear hW1 g0 g1 hb
  go_enter Tryd.func86, Tryd.ntmps86
  go_wp2
  refine wp_loop_rounds 1 ?_
  (rw [rounds_succ]; go_wp2_with (go_at_call 96; (with_reducible refine (lower_sym c l el.out _).mono ?_); rintro e wq ⟨rfl, rfl⟩))
  all_goals go_ret2
  all_goals exact puPost.bad HB.out

set_option maxRecDepth 100000 in
set_option maxHeartbeats 4000000 in
theorem pu_bad4 (t : ByteArray) (h2 : t.size = 2) (c c' l l' : Nat) (_d _d' : Nat) (_hc : c < 256) (_hc' : c' < 256) (_hl : l < 256) (_hl' : l' < 256) (g0 : gb t 0 = c) (g1 : gb t 1 = c') (el : Hid (bits .or .u8 (c : Int) 32 = (l : Int))) (ec : (((c : Int) == 95) = false ∧ decide ((48 : Int) ≤ (c : Int)) = false) ∨ (((c : Int) == 95) = false ∧ decide ((48 : Int) ≤ (c : Int)) = true ∧ decide ((c : Int) ≤ 57) = false) ∨ (((c : Int) == 95) = true ∧ decide ((48 : Int) ≤ (c : Int)) = true ∧ decide ((c : Int) ≤ 57) = false)) (em : decide ((97 : Int) ≤ (l : Int)) = false ∨ (decide ((97 : Int) ≤ (l : Int)) = true ∧ decide ((l : Int) ≤ 122) = false)) (hb : dig16 c < 0 ∨ dig16 c' < 0) (w : World) :
    Calls Tryd.prog 86 #[.string t, .int .i64 16, .int .i64 8] w (puPost c c' (Lib.bytesWorld w 5 t)) := by
  have hemp : t.toList.isEmpty = false := by
    rw [← decide_eq_emptyBytes]
    exact decide_eq_false (fun h => by rw [h] at h2; cases h2)
  have hcv := Lib.run_convert_string_bytes (P := Tryd.prog) w 9 59 5 t (u := .string) Tryd.underlying9 Tryd.underlying59 Tryd.underlying5
  have hB0 : (Lib.bytesWorld w 5 t).cell? ⟨w.heap.size, 0, none⟩ = some (.int .u8 (c : Int)) := by
    rw [Lib.bytesWorld_cell w 5 t 0 (by omega), ← g0]; exact congrArg (fun n : Nat => some (Value.int .u8 (n : Int))) (gb_data t 0 (by omega))
  have hB1 : (Lib.bytesWorld w 5 t).cell? ⟨w.heap.size, 1, none⟩ = some (.int .u8 (c' : Int)) := by
    rw [Lib.bytesWorld_cell w 5 t 1 (by omega), ← g1]; exact congrArg (fun n : Nat => some (Value.int .u8 (n : Int))) (gb_data t 1 (by omega))
  obtain ⟨W1, hW1⟩ : ∃ W1, W1 = Lib.bytesWorld w 5 t := ⟨_, rfl⟩
  rw [h2, ← hW1] at hcv
  rw [← hW1] at hB0 hB1 ⊢
  have hmv : IntKind.u64.wrap (IntKind.u64.wrap 256 - 1) = 255 := by
    rw [IntKind.wrap_u64, IntKind.wrap_u64]
    decide
  have hcu : decide ((1152921504606846976 : Int) ≤ 0) = false := rfl
  have hmz : IntKind.u64.wrap (0 * 16) = 0 := by rw [IntKind.wrap_u64]; decide
  have HB := Lib.hid hb
  clear hW1 g0 g1 hb
  rcases ec with ⟨ec0, ec1⟩ | ⟨ec0, ec1, ec2⟩ | ⟨ec0, ec1, ec2⟩ <;> rcases em with em0 | ⟨em0, em1⟩
  all_goals go_enter Tryd.func86, Tryd.ntmps86
  all_goals go_wp2
  all_goals refine wp_loop_rounds 1 ?_
  all_goals (rw [rounds_succ]; go_wp2_with (go_at_call 96; (with_reducible refine (lower_sym c l el.out _).mono ?_); rintro e wq ⟨rfl, rfl⟩))
  all_goals go_ret2
  all_goals exact puPost.bad HB.out

set_option maxRecDepth 100000 in
set_option maxHeartbeats 4000000 in
theorem pu_ok1_ok1 (t : ByteArray) (h2 : t.size = 2) (c c' l l' : Nat) (d d' : Nat) (_hc : c < 256) (_hc' : c' < 256) (_hl : l < 256) (_hl' : l' < 256) (g0 : gb t 0 = c) (g1 : gb t 1 = c') (e0 : ((c : Int) == 95) = false) (e1 : decide ((48 : Int) ≤ (c : Int)) = true) (e2 : decide ((c : Int) ≤ 57) = true) (e3 : IntKind.u8.wrap ((c : Int) - 48) = (d : Int)) (e4 : decide ((16 : Int) ≤ (d : Int)) = false) (e5 : d < 16) (f0 : ((c' : Int) == 95) = false) (f1 : decide ((48 : Int) ≤ (c' : Int)) = true) (f2 : decide ((c' : Int) ≤ 57) = true) (f3 : IntKind.u8.wrap ((c' : Int) - 48) = (d' : Int)) (f4 : decide ((16 : Int) ≤ (d' : Int)) = false) (f5 : d' < 16) (hb : ¬ (dig16 c < 0 ∨ dig16 c' < 0)) (hx : (d : Int) * 16 + (d' : Int) = dig16 c * 16 + dig16 c') (w : World) :
    Calls Tryd.prog 86 #[.string t, .int .i64 16, .int .i64 8] w (puPost c c' (Lib.bytesWorld w 5 t)) := by
  have hemp : t.toList.isEmpty = false := by
    rw [← decide_eq_emptyBytes]
    exact decide_eq_false (fun h => by rw [h] at h2; cases h2)
  have hcv := Lib.run_convert_string_bytes (P := Tryd.prog) w 9 59 5 t (u := .string) Tryd.underlying9 Tryd.underlying59 Tryd.underlying5
  have hB0 : (Lib.bytesWorld w 5 t).cell? ⟨w.heap.size, 0, none⟩ = some (.int .u8 (c : Int)) := by
    rw [Lib.bytesWorld_cell w 5 t 0 (by omega), ← g0]; exact congrArg (fun n : Nat => some (Value.int .u8 (n : Int))) (gb_data t 0 (by omega))
  have hB1 : (Lib.bytesWorld w 5 t).cell? ⟨w.heap.size, 1, none⟩ = some (.int .u8 (c' : Int)) := by
    rw [Lib.bytesWorld_cell w 5 t 1 (by omega), ← g1]; exact congrArg (fun n : Nat => some (Value.int .u8 (n : Int))) (gb_data t 1 (by omega))
  obtain ⟨W1, hW1⟩ : ∃ W1, W1 = Lib.bytesWorld w 5 t := ⟨_, rfl⟩
  rw [h2, ← hW1] at hcv
  rw [← hW1] at hB0 hB1 ⊢
  have hmv : IntKind.u64.wrap (IntKind.u64.wrap 256 - 1) = 255 := by
    rw [IntKind.wrap_u64, IntKind.wrap_u64]
    decide
  have hcu : decide ((1152921504606846976 : Int) ≤ 0) = false := rfl
  have hmz : IntKind.u64.wrap (0 * 16) = 0 := by rw [IntKind.wrap_u64]; decide
  have HB := Lib.hid hb
  clear hW1 g0 g1 hb
  have HX := Lib.hid hx
  clear hx
  have x0 : (0 : Int) ≤ (d : Int) := by omega
  have x1 : (d : Int) < 16 := by omega
  have x9 : decide ((1152921504606846976 : Int) ≤ (d : Int)) = false := decide_eq_false (by omega)
  have x8 : decide ((255 : Int) < (d : Int)) = false := decide_eq_false (by omega)
  have y0 : IntKind.u64.wrap (0 + (d : Int)) = (d : Int) := by rw [IntKind.wrap_u64]; omega
  have y1 : IntKind.u64.wrap ((d : Int) * 16) = (d : Int) * 16 := by rw [IntKind.wrap_u64]; omega
  have x2 : (0 : Int) ≤ (d' : Int) := by omega
  have x3 : (d' : Int) < 16 := by omega
  have y2 : IntKind.u64.wrap ((d : Int) * 16 + (d' : Int)) = (d : Int) * 16 + (d' : Int) := by rw [IntKind.wrap_u64]; omega
  go_enter Tryd.func86, Tryd.ntmps86
  go_wp2
  refine wp_loop_rounds 3 ?_
  (rw [rounds_succ]; go_wp2)
  (rw [rounds_succ]; go_wp2)
  (rw [rounds_succ]; go_wp2)
  all_goals go_ret2
  all_goals exact puPost.good HB.out HX.out

set_option maxRecDepth 100000 in
set_option maxHeartbeats 4000000 in
theorem pu_ok1_ok2 (t : ByteArray) (h2 : t.size = 2) (c c' l l' : Nat) (d d' : Nat) (_hc : c < 256) (_hc' : c' < 256) (_hl : l < 256) (_hl' : l' < 256) (g0 : gb t 0 = c) (g1 : gb t 1 = c') (e0 : ((c : Int) == 95) = false) (e1 : decide ((48 : Int) ≤ (c : Int)) = true) (e2 : decide ((c : Int) ≤ 57) = true) (e3 : IntKind.u8.wrap ((c : Int) - 48) = (d : Int)) (e4 : decide ((16 : Int) ≤ (d : Int)) = false) (e5 : d < 16) (f0 : ((c' : Int) == 95) = false) (f1 : decide ((48 : Int) ≤ (c' : Int)) = true) (f2 : decide ((c' : Int) ≤ 57) = false) (fl : Hid (bits .or .u8 (c' : Int) 32 = (l' : Int))) (f3 : decide ((97 : Int) ≤ (l' : Int)) = true) (f4 : decide ((l' : Int) ≤ 122) = true) (f6 : IntKind.u8.wrap ((l' : Int) - 97) = (l' : Int) - 97) (f7 : IntKind.u8.wrap ((l' : Int) - 97 + 10) = (d' : Int)) (f5 : decide ((16 : Int) ≤ (d' : Int)) = false) (f8 : d' < 16) (hb : ¬ (dig16 c < 0 ∨ dig16 c' < 0)) (hx : (d : Int) * 16 + (d' : Int) = dig16 c * 16 + dig16 c') (w : World) :
    Calls Tryd.prog 86 #[.string t, .int .i64 16, .int .i64 8] w (puPost c c' (Lib.bytesWorld w 5 t)) := by
  have hemp : t.toList.isEmpty = false := by
    rw [← decide_eq_emptyBytes]
    exact decide_eq_false (fun h => by rw [h] at h2; cases h2)
  have hcv := Lib.run_convert_string_bytes (P := Tryd.prog) w 9 59 5 t (u := .string) Tryd.underlying9 Tryd.underlying59 Tryd.underlying5
  have hB0 : (Lib.bytesWorld w 5 t).cell? ⟨w.heap.size, 0, none⟩ = some (.int .u8 (c : Int)) := by
    rw [Lib.bytesWorld_cell w 5 t 0 (by omega), ← g0]; exact congrArg (fun n : Nat => some (Value.int .u8 (n : Int))) (gb_data t 0 (by omega))
  have hB1 : (Lib.bytesWorld w 5 t).cell? ⟨w.heap.size, 1, none⟩ = some (.int .u8 (c' : Int)) := by
    rw [Lib.bytesWorld_cell w 5 t 1 (by omega), ← g1]; exact congrArg (fun n : Nat => some (Value.int .u8 (n : Int))) (gb_data t 1 (by omega))
  obtain ⟨W1, hW1⟩ : ∃ W1, W1 = Lib.bytesWorld w 5 t := ⟨_, rfl⟩
  rw [h2, ← hW1] at hcv
  rw [← hW1] at hB0 hB1 ⊢
  have hmv : IntKind.u64.wrap (IntKind.u64.wrap 256 - 1) = 255 := by
    rw [IntKind.wrap_u64, IntKind.wrap_u64]
    decide
  have hcu : decide ((1152921504606846976 : Int) ≤ 0) = false := rfl
  have hmz : IntKind.u64.wrap (0 * 16) = 0 := by rw [IntKind.wrap_u64]; decide
  have HB := Lib.hid hb
  clear hW1 g0 g1 hb
  have HX := Lib.hid hx
  clear hx
  have x0 : (0 : Int) ≤ (d : Int) := by omega
  have x1 : (d : Int) < 16 := by omega
  have x9 : decide ((1152921504606846976 : Int) ≤ (d : Int)) = false := decide_eq_false (by omega)
  have x8 : decide ((255 : Int) < (d : Int)) = false := decide_eq_false (by omega)
  have y0 : IntKind.u64.wrap (0 + (d : Int)) = (d : Int) := by rw [IntKind.wrap_u64]; omega
  have y1 : IntKind.u64.wrap ((d : Int) * 16) = (d : Int) * 16 := by rw [IntKind.wrap_u64]; omega
  have x2 : (0 : Int) ≤ (d' : Int) := by omega
  have x3 : (d' : Int) < 16 := by omega
  have y2 : IntKind.u64.wrap ((d : Int) * 16 + (d' : Int)) = (d : Int) * 16 + (d' : Int) := by rw [IntKind.wrap_u64]; omega
  go_enter Tryd.func86, Tryd.ntmps86
  go_wp2
  refine wp_loop_rounds 3 ?_
  (rw [rounds_succ]; go_wp2)
  (rw [rounds_succ]; go_wp2_with (go_at_call 96; (with_reducible refine (lower_sym c' l' fl.out _).mono ?_); rintro e wq ⟨rfl, rfl⟩))
  (rw [rounds_succ]; go_wp2)
  all_goals go_ret2
  all_goals exact puPost.good HB.out HX.out

set_option maxRecDepth 100000 in
set_option maxHeartbeats 4000000 in
theorem pu_ok1_bad3 (t : ByteArray) (h2 : t.size = 2) (c c' l l' : Nat) (d d' : Nat) (_hc : c < 256) (_hc' : c' < 256) (_hl : l < 256) (_hl' : l' < 256) (g0 : gb t 0 = c) (g1 : gb t 1 = c') (e0 : ((c : Int) == 95) = false) (e1 : decide ((48 : Int) ≤ (c : Int)) = true) (e2 : decide ((c : Int) ≤ 57) = true) (e3 : IntKind.u8.wrap ((c : Int) - 48) = (d : Int)) (e4 : decide ((16 : Int) ≤ (d : Int)) = false) (e5 : d < 16) (f0 : ((c' : Int) == 95) = false) (f1 : decide ((48 : Int) ≤ (c' : Int)) = true) (f2 : decide ((c' : Int) ≤ 57) = false) (fl : Hid (bits .or .u8 (c' : Int) 32 = (l' : Int))) (f3 : decide ((97 : Int) ≤ (l' : Int)) = true) (f4 : decide ((l' : Int) ≤ 122) = true) (f6 : IntKind.u8.wrap ((l' : Int) - 97) = (l' : Int) - 97) (f7 : IntKind.u8.wrap ((l' : Int) - 97 + 10) = (d' : Int)) (f5 : decide ((16 : Int) ≤ (d' : Int)) = true) (hb : dig16 c < 0 ∨ dig16 c' < 0) (w : World) :
    Calls Tryd.prog 86 #[.string t, .int .i64 16, .int .i64 8] w (puPost c c' (Lib.bytesWorld w 5 t)) := by
  have hemp : t.toList.isEmpty = false := by
    rw [← decide_eq_emptyBytes]
    exact decide_eq_false (fun h => by rw [h] at h2; cases h2)
  have hcv := Lib.run_convert_string_bytes (P := Tryd.prog) w 9 59 5 t (u := .string) Tryd.underlying9 Tryd.underlying59 Tryd.underlying5
  have hB0 : (Lib.bytesWorld w 5 t).cell? ⟨w.heap.size, 0, none⟩ = some (.int .u8 (c : Int)) := by
    rw [Lib.bytesWorld_cell w 5 t 0 (by omega), ← g0]; exact congrArg (fun n : Nat => some (Value.int .u8 (n : Int))) (gb_data t 0 (by omega))
  have hB1 : (Lib.bytesWorld w 5 t).cell? ⟨w.heap.size, 1, none⟩ = some (.int .u8 (c' : Int)) := by
    rw [Lib.bytesWorld_cell w 5 t 1 (by omega), ← g1]; exact congrArg (fun n : Nat => some (Value.int .u8 (n : Int))) (gb_data t 1 (by omega))
  obtain ⟨W1, hW1⟩ : ∃ W1, W1 = Lib.bytesWorld w 5 t := ⟨_, rfl⟩
  rw [h2, ← hW1] at hcv
  rw [← hW1] at hB0 hB1 ⊢
  have hmv : IntKind.u64.wrap (IntKind.u64.wrap 256 - 1) = 255 := by
    rw [IntKind.wrap_u64, IntKind.wrap_u64]
    decide
  have hcu : decide ((1152921504606846976 : Int) ≤ 0) = false := rfl
  have hmz : IntKind.u64.wrap (0 * 16) = 0 := by rw [IntKind.wrap_u64]; decide
  have HB := Lib.hid hb
  clear hW1 g0 g1 hb
  have x0 : (0 : Int) ≤ (d : Int) := by omega
  have x1 : (d : Int) < 16 := by omega
  have x9 : decide ((1152921504606846976 : Int) ≤ (d : Int)) = false := decide_eq_false (by omega)
  have x8 : decide ((255 : Int) < (d : Int)) = false := decide_eq_false (by omega)
  have y0 : IntKind.u64.wrap (0 + (d : Int)) = (d : Int) := by rw [IntKind.wrap_u64]; omega
  have y1 : IntKind.u64.wrap ((d : Int) * 16) = (d : Int) * 16 := by rw [IntKind.wrap_u64]; omega
  go_enter Tryd.func86, Tryd.ntmps86
  go_wp2
  refine wp_loop_rounds 2 ?_
  (rw [rounds_succ]; go_wp2)
  (rw [rounds_succ]; go_wp2_with (go_at_call 96; (with_reducible refine (lower_sym c' l' fl.out _).mono ?_); rintro e wq ⟨rfl, rfl⟩))
  all_goals go_ret2
  all_goals exact puPost.bad HB.out

set_option maxRecDepth 100000 in
set_option maxHeartbeats 4000000 in
theorem pu_ok1_bad4 (t : ByteArray) (h2 : t.size = 2) (c c' l l' : Nat) (d _d' : Nat) (_hc : c < 256) (_hc' : c' < 256) (_hl : l < 256) (_hl' : l' < 256) (g0 : gb t 0 = c) (g1 : gb t 1 = c') (e0 : ((c : Int) == 95) = false) (e1 : decide ((48 : Int) ≤ (c : Int)) = true) (e2 : decide ((c : Int) ≤ 57) = true) (e3 : IntKind.u8.wrap ((c : Int) - 48) = (d : Int)) (e4 : decide ((16 : Int) ≤ (d : Int)) = false) (e5 : d < 16) (fl : Hid (bits .or .u8 (c' : Int) 32 = (l' : Int))) (fc : (((c' : Int) == 95) = false ∧ decide ((48 : Int) ≤ (c' : Int)) = false) ∨ (((c' : Int) == 95) = false ∧ decide ((48 : Int) ≤ (c' : Int)) = true ∧ decide ((c' : Int) ≤ 57) = false) ∨ (((c' : Int) == 95) = true ∧ decide ((48 : Int) ≤ (c' : Int)) = true ∧ decide ((c' : Int) ≤ 57) = false)) (fm : decide ((97 : Int) ≤ (l' : Int)) = false ∨ (decide ((97 : Int) ≤ (l' : Int)) = true ∧ decide ((l' : Int) ≤ 122) = false)) (hb : dig16 c < 0 ∨ dig16 c' < 0) (w : World) :
    Calls Tryd.prog 86 #[.string t, .int .i64 16, .int .i64 8] w (puPost c c' (Lib.bytesWorld w 5 t)) := by
  have hemp : t.toList.isEmpty = false := by
    rw [← decide_eq_emptyBytes]
    exact decide_eq_false (fun h => by rw [h] at h2; cases h2)
  have hcv := Lib.run_convert_string_bytes (P := Tryd.prog) w 9 59 5 t (u := .string) Tryd.underlying9 Tryd.underlying59 Tryd.underlying5
  have hB0 : (Lib.bytesWorld w 5 t).cell? ⟨w.heap.size, 0, none⟩ = some (.int .u8 (c : Int)) := by
    rw [Lib.bytesWorld_cell w 5 t 0 (by omega), ← g0]; exact congrArg (fun n : Nat => some (Value.int .u8 (n : Int))) (gb_data t 0 (by omega))
  have hB1 : (Lib.bytesWorld w 5 t).cell? ⟨w.heap.size, 1, none⟩ = some (.int .u8 (c' : Int)) := by
    rw [Lib.bytesWorld_cell w 5 t 1 (by omega), ← g1]; exact congrArg (fun n : Nat => some (Value.int .u8 (n : Int))) (gb_data t 1 (by omega))
  obtain ⟨W1, hW1⟩ : ∃ W1, W1 = Lib.bytesWorld w 5 t := ⟨_, rfl⟩
  rw [h2, ← hW1] at hcv
  rw [← hW1] at hB0 hB1 ⊢
  have hmv : IntKind.u64.wrap (IntKind.u64.wrap 256 - 1) = 255 := by
    rw [IntKind.wrap_u64, IntKind.wrap_u64]
    decide
  have hcu : decide ((1152921504606846976 : Int) ≤ 0) = false := rfl
  have hmz : IntKind.u64.wrap (0 * 16) = 0 := by rw [IntKind.wrap_u64]; decide
  have HB := Lib.hid hb
  clear hW1 g0 g1 hb
  have x0 : (0 : Int) ≤ (d : Int) := by omega
  have x1 : (d : Int) < 16 := by omega
  have x9 : decide ((1152921504606846976 : Int) ≤ (d : Int)) = false := decide_eq_false (by omega)
  have x8 : decide ((255 : Int) < (d : Int)) = false := decide_eq_false (by omega)
  have y0 : IntKind.u64.wrap (0 + (d : Int)) = (d : Int) := by rw [IntKind.wrap_u64]; omega
  have y1 : IntKind.u64.wrap ((d : Int) * 16) = (d : Int) * 16 := by rw [IntKind.wrap_u64]; omega
  rcases fc with ⟨fc0, fc1⟩ | ⟨fc0, fc1, fc2⟩ | ⟨fc0, fc1, fc2⟩ <;> rcases fm with fm0 | ⟨fm0, fm1⟩
  all_goals go_enter Tryd.func86, Tryd.ntmps86
  all_goals go_wp2
  all_goals refine wp_loop_rounds 2 ?_
  all_goals (rw [rounds_succ]; go_wp2)
  all_goals (rw [rounds_succ]; go_wp2_with (go_at_call 96; (with_reducible refine (lower_sym c' l' fl.out _).mono ?_); rintro e wq ⟨rfl, rfl⟩))
  all_goals go_ret2
  all_goals exact puPost.bad HB.out

set_option maxRecDepth 100000 in
set_option maxHeartbeats 4000000 in
theorem pu_ok2_ok1 (t : ByteArray) (h2 : t.size = 2) (c c' l l' : Nat) (d d' : Nat) (_hc : c < 256) (_hc' : c' < 256) (_hl : l < 256) (_hl' : l' < 256) (g0 : gb t 0 = c) (g1 : gb t 1 = c') (e0 : ((c : Int) == 95) = false) (e1 : decide ((48 : Int) ≤ (c : Int)) = true) (e2 : decide ((c : Int) ≤ 57) = false) (el : Hid (bits .or .u8 (c : Int) 32 = (l : Int))) (e3 : decide ((97 : Int) ≤ (l : Int)) = true) (e4 : decide ((l : Int) ≤ 122) = true) (e6 : IntKind.u8.wrap ((l : Int) - 97) = (l : Int) - 97) (e7 : IntKind.u8.wrap ((l : Int) - 97 + 10) = (d : Int)) (e5 : decide ((16 : Int) ≤ (d : Int)) = false) (e8 : d < 16) (f0 : ((c' : Int) == 95) = false) (f1 : decide ((48 : Int) ≤ (c' : Int)) = true) (f2 : decide ((c' : Int) ≤ 57) = true) (f3 : IntKind.u8.wrap ((c' : Int) - 48) = (d' : Int)) (f4 : decide ((16 : Int) ≤ (d' : Int)) = false) (f5 : d' < 16) (hb : ¬ (dig16 c < 0 ∨ dig16 c' < 0)) (hx : (d : Int) * 16 + (d' : Int) = dig16 c * 16 + dig16 c') (w : World) :
    Calls Tryd.prog 86 #[.string t, .int .i64 16, .int .i64 8] w (puPost c c' (Lib.bytesWorld w 5 t)) := by
  have hemp : t.toList.isEmpty = false := by
    rw [← decide_eq_emptyBytes]
    exact decide_eq_false (fun h => by rw [h] at h2; cases h2)
  have hcv := Lib.run_convert_string_bytes (P := Tryd.prog) w 9 59 5 t (u := .string) Tryd.underlying9 Tryd.underlying59 Tryd.underlying5
  have hB0 : (Lib.bytesWorld w 5 t).cell? ⟨w.heap.size, 0, none⟩ = some (.int .u8 (c : Int)) := by
    rw [Lib.bytesWorld_cell w 5 t 0 (by omega), ← g0]; exact congrArg (fun n : Nat => some (Value.int .u8 (n : Int))) (gb_data t 0 (by omega))
  have hB1 : (Lib.bytesWorld w 5 t).cell? ⟨w.heap.size, 1, none⟩ = some (.int .u8 (c' : Int)) := by
    rw [Lib.bytesWorld_cell w 5 t 1 (by omega), ← g1]; exact congrArg (fun n : Nat => some (Value.int .u8 (n : Int))) (gb_data t 1 (by omega))
  obtain ⟨W1, hW1⟩ : ∃ W1, W1 = Lib.bytesWorld w 5 t := ⟨_, rfl⟩
  rw [h2, ← hW1] at hcv
  rw [← hW1] at hB0 hB1 ⊢
  have hmv : IntKind.u64.wrap (IntKind.u64.wrap 256 - 1) = 255 := by
    rw [IntKind.wrap_u64, IntKind.wrap_u64]
    decide
  have hcu : decide ((1152921504606846976 : Int) ≤ 0) = false := rfl
  have hmz : IntKind.u64.wrap (0 * 16) = 0 := by rw [IntKind.wrap_u64]; decide
  have HB := Lib.hid hb
  clear hW1 g0 g1 hb
  have HX := Lib.hid hx
  clear hx
  have x0 : (0 : Int) ≤ (d : Int) := by omega
  have x1 : (d : Int) < 16 := by omega
  have x9 : decide ((1152921504606846976 : Int) ≤ (d : Int)) = false := decide_eq_false (by omega)
  have x8 : decide ((255 : Int) < (d : Int)) = false := decide_eq_false (by omega)
  have y0 : IntKind.u64.wrap (0 + (d : Int)) = (d : Int) := by rw [IntKind.wrap_u64]; omega
  have y1 : IntKind.u64.wrap ((d : Int) * 16) = (d : Int) * 16 := by rw [IntKind.wrap_u64]; omega
  have x2 : (0 : Int) ≤ (d' : Int) := by omega
  have x3 : (d' : Int) < 16 := by omega
  have y2 : IntKind.u64.wrap ((d : Int) * 16 + (d' : Int)) = (d : Int) * 16 + (d' : Int) := by rw [IntKind.wrap_u64]; omega
  go_enter Tryd.func86, Tryd.ntmps86
  go_wp2
  refine wp_loop_rounds 3 ?_
  (rw [rounds_succ]; go_wp2_with (go_at_call 96; (with_reducible refine (lower_sym c l el.out _).mono ?_); rintro e wq ⟨rfl, rfl⟩))
  (rw [rounds_succ]; go_wp2)
  (rw [rounds_succ]; go_wp2)
  all_goals go_ret2
  all_goals exact puPost.good HB.out HX.out

set_option maxRecDepth 100000 in
set_option maxHeartbeats 4000000 in
theorem pu_ok2_ok2 (t : ByteArray) (h2 : t.size = 2) (c c' l l' : Nat) (d d' : Nat) (_hc : c < 256) (_hc' : c' < 256) (_hl : l < 256) (_hl' : l' < 256) (g0 : gb t 0 = c) (g1 : gb t 1 = c') (e0 : ((c : Int) == 95) = false) (e1 : decide ((48 : Int) ≤ (c : Int)) = true) (e2 : decide ((c : Int) ≤ 57) = false) (el : Hid (bits .or .u8 (c : Int) 32 = (l : Int))) (e3 : decide ((97 : Int) ≤ (l : Int)) = true) (e4 : decide ((l : Int) ≤ 122) = true) (e6 : IntKind.u8.wrap ((l : Int) - 97) = (l : Int) - 97) (e7 : IntKind.u8.wrap ((l : Int) - 97 + 10) = (d : Int)) (e5 : decide ((16 : Int) ≤ (d : Int)) = false) (e8 : d < 16) (f0 : ((c' : Int) == 95) = false) (f1 : decide ((48 : Int) ≤ (c' : Int)) = true) (f2 : decide ((c' : Int) ≤ 57) = false) (fl : Hid (bits .or .u8 (c' : Int) 32 = (l' : Int))) (f3 : decide ((97 : Int) ≤ (l' : Int)) = true) (f4 : decide ((l' : Int) ≤ 122) = true) (f6 : IntKind.u8.wrap ((l' : Int) - 97) = (l' : Int) - 97) (f7 : IntKind.u8.wrap ((l' : Int) - 97 + 10) = (d' : Int)) (f5 : decide ((16 : Int) ≤ (d' : Int)) = false) (f8 : d' < 16) (hb : ¬ (dig16 c < 0 ∨ dig16 c' < 0)) (hx : (d : Int) * 16 + (d' : Int) = dig16 c * 16 + dig16 c') (w : World) :
    Calls Tryd.prog 86 #[.string t, .int .i64 16, .int .i64 8] w (puPost c c' (Lib.bytesWorld w 5 t)) := by
  have hemp : t.toList.isEmpty = false := by
    rw [← decide_eq_emptyBytes]
    exact decide_eq_false (fun h => by rw [h] at h2; cases h2)
  have hcv := Lib.run_convert_string_bytes (P := Tryd.prog) w 9 59 5 t (u := .string) Tryd.underlying9 Tryd.underlying59 Tryd.underlying5
  have hB0 : (Lib.bytesWorld w 5 t).cell? ⟨w.heap.size, 0, none⟩ = some (.int .u8 (c : Int)) := by
    rw [Lib.bytesWorld_cell w 5 t 0 (by omega), ← g0]; exact congrArg (fun n : Nat => some (Value.int .u8 (n : Int))) (gb_data t 0 (by omega))
  have hB1 : (Lib.bytesWorld w 5 t).cell? ⟨w.heap.size, 1, none⟩ = some (.int .u8 (c' : Int)) := by
    rw [Lib.bytesWorld_cell w 5 t 1 (by omega), ← g1]; exact congrArg (fun n : Nat => some (Value.int .u8 (n : Int))) (gb_data t 1 (by omega))
  obtain ⟨W1, hW1⟩ : ∃ W1, W1 = Lib.bytesWorld w 5 t := ⟨_, rfl⟩
  rw [h2, ← hW1] at hcv
  rw [← hW1] at hB0 hB1 ⊢
  have hmv : IntKind.u64.wrap (IntKind.u64.wrap 256 - 1) = 255 := by
    rw [IntKind.wrap_u64, IntKind.wrap_u64]
    decide
  have hcu : decide ((1152921504606846976 : Int) ≤ 0) = false := rfl
  have hmz : IntKind.u64.wrap (0 * 16) = 0 := by rw [IntKind.wrap_u64]; decide
  have HB := Lib.hid hb
  clear hW1 g0 g1 hb
  have HX := Lib.hid hx
  clear hx
  have x0 : (0 : Int) ≤ (d : Int) := by omega
  have x1 : (d : Int) < 16 := by omega
  have x9 : decide ((1152921504606846976 : Int) ≤ (d : Int)) = false := decide_eq_false (by omega)
  have x8 : decide ((255 : Int) < (d : Int)) = false := decide_eq_false (by omega)
  have y0 : IntKind.u64.wrap (0 + (d : Int)) = (d : Int) := by rw [IntKind.wrap_u64]; omega
  have y1 : IntKind.u64.wrap ((d : Int) * 16) = (d : Int) * 16 := by rw [IntKind.wrap_u64]; omega
  have x2 : (0 : Int) ≤ (d' : Int) := by omega
  have x3 : (d' : Int) < 16 := by omega
  have y2 : IntKind.u64.wrap ((d : Int) * 16 + (d' : Int)) = (d : Int) * 16 + (d' : Int) := by rw [IntKind.wrap_u64]; omega
  go_enter Tryd.func86, Tryd.ntmps86
  go_wp2
  refine wp_loop_rounds 3 ?_
  (rw [rounds_succ]; go_wp2_with (go_at_call 96; (with_reducible refine (lower_sym c l el.out _).mono ?_); rintro e wq ⟨rfl, rfl⟩))
  (rw [rounds_succ]; go_wp2_with (go_at_call 96; (with_reducible refine (lower_sym c' l' fl.out _).mono ?_); rintro e wq ⟨rfl, rfl⟩))
  (rw [rounds_succ]; go_wp2)
  all_goals go_ret2
  all_goals exact puPost.good HB.out HX.out

set_option maxRecDepth 100000 in
set_option maxHeartbeats 4000000 in
theorem pu_ok2_bad3 (t : ByteArray) (h2 : t.size = 2) (c c' l l' : Nat) (d d' : Nat) (_hc : c < 256) (_hc' : c' < 256) (_hl : l < 256) (_hl' : l' < 256) (g0 : gb t 0 = c) (g1 : gb t 1 = c') (e0 : ((c : Int) == 95) = false) (e1 : decide ((48 : Int) ≤ (c : Int)) = true) (e2 : decide ((c : Int) ≤ 57) = false) (el : Hid (bits .or .u8 (c : Int) 32 = (l : Int))) (e3 : decide ((97 : Int) ≤ (l : Int)) = true) (e4 : decide ((l : Int) ≤ 122) = true) (e6 : IntKind.u8.wrap ((l : Int) - 97) = (l : Int) - 97) (e7 : IntKind.u8.wrap ((l : Int) - 97 + 10) = (d : Int)) (e5 : decide ((16 : Int) ≤ (d : Int)) = false) (e8 : d < 16) (f0 : ((c' : Int) == 95) = false) (f1 : decide ((48 : Int) ≤ (c' : Int)) = true) (f2 : decide ((c' : Int) ≤ 57) = false) (fl : Hid (bits .or .u8 (c' : Int) 32 = (l' : Int))) (f3 : decide ((97 : Int) ≤ (l' : Int)) = true) (f4 : decide ((l' : Int) ≤ 122) = true) (f6 : IntKind.u8.wrap ((l' : Int) - 97) = (l' : Int) - 97) (f7 : IntKind.u8.wrap ((l' : Int) - 97 + 10) = (d' : Int)) (f5 : decide ((16 : Int) ≤ (d' : Int)) = true) (hb : dig16 c < 0 ∨ dig16 c' < 0) (w : World) :
    Calls Tryd.prog 86 #[.string t, .int .i64 16, .int .i64 8] w (puPost c c' (Lib.bytesWorld w 5 t)) := by
  have hemp : t.toList.isEmpty = false := by
    rw [← decide_eq_emptyBytes]
    exact decide_eq_false (fun h => by rw [h] at h2; cases h2)
  have hcv := Lib.run_convert_string_bytes (P := Tryd.prog) w 9 59 5 t (u := .string) Tryd.underlying9 Tryd.underlying59 Tryd.underlying5
  have hB0 : (Lib.bytesWorld w 5 t).cell? ⟨w.heap.size, 0, none⟩ = some (.int .u8 (c : Int)) := by
    rw [Lib.bytesWorld_cell w 5 t 0 (by omega), ← g0]; exact congrArg (fun n : Nat => some (Value.int .u8 (n : Int))) (gb_data t 0 (by omega))
  have hB1 : (Lib.bytesWorld w 5 t).cell? ⟨w.heap.size, 1, none⟩ = some (.int .u8 (c' : Int)) := by
    rw [Lib.bytesWorld_cell w 5 t 1 (by omega), ← g1]; exact congrArg (fun n : Nat => some (Value.int .u8 (n : Int))) (gb_data t 1 (by omega))
  obtain ⟨W1, hW1⟩ : ∃ W1, W1 = Lib.bytesWorld w 5 t := ⟨_, rfl⟩
  rw [h2, ← hW1] at hcv
  rw [← hW1] at hB0 hB1 ⊢
  have hmv : IntKind.u64.wrap (IntKind.u64.wrap 256 - 1) = 255 := by
    rw [IntKind.wrap_u64, IntKind.wrap_u64]
    decide
  have hcu : decide ((1152921504606846976 : Int) ≤ 0) = false := rfl
  have hmz : IntKind.u64.wrap (0 * 16) = 0 := by rw [IntKind.wrap_u64]; decide
  have HB := Lib.hid hb
  clear hW1 g0 g1 hb
  have x0 : (0 : Int) ≤ (d : Int) := by omega
  have x1 : (d : Int) < 16 := by omega
  have x9 : decide ((1152921504606846976 : Int) ≤ (d : Int)) = false := decide_eq_false (by omega)
  have x8 : decide ((255 : Int) < (d : Int)) = false := decide_eq_false (by omega)
  have y0 : IntKind.u64.wrap (0 + (d : Int)) = (d : Int) := by rw [IntKind.wrap_u64]; omega
  have y1 : IntKind.u64.wrap ((d : Int) * 16) = (d : Int) * 16 := by rw [IntKind.wrap_u64]; omega
  go_enter Tryd.func86, Tryd.ntmps86
  go_wp2
  refine wp_loop_rounds 2 ?_
  (rw [rounds_succ]; go_wp2_with (go_at_call 96; (with_reducible refine (lower_sym c l el.out _).mono ?_); rintro e wq ⟨rfl, rfl⟩))
  (rw [rounds_succ]; go_wp2_with (go_at_call 96; (with_reducible refine (lower_sym c' l' fl.out _).mono ?_); rintro e wq ⟨rfl, rfl⟩))
  all_goals go_ret2
  all_goals exact puPost.bad HB.out

set_option maxRecDepth 100000 in
set_option maxHeartbeats 4000000 in
theorem pu_ok2_bad4 (t : ByteArray) (h2 : t.size = 2) (c c' l l' : Nat) (d _d' : Nat) (_hc : c < 256) (_hc' : c' < 256) (_hl : l < 256) (_hl' : l' < 256) (g0 : gb t 0 = c) (g1 : gb t 1 = c') (e0 : ((c : Int) == 95) = false) (e1 : decide ((48 : Int) ≤ (c : Int)) = true) (e2 : decide ((c : Int) ≤ 57) = false) (el : Hid (bits .or .u8 (c : Int) 32 = (l : Int))) (e3 : decide ((97 : Int) ≤ (l : Int)) = true) (e4 : decide ((l : Int) ≤ 122) = true) (e6 : IntKind.u8.wrap ((l : Int) - 97) = (l : Int) - 97) (e7 : IntKind.u8.wrap ((l : Int) - 97 + 10) = (d : Int)) (e5 : decide ((16 : Int) ≤ (d : Int)) = false) (e8 : d < 16) (fl : Hid (bits .or .u8 (c' : Int) 32 = (l' : Int))) (fc : (((c' : Int) == 95) = false ∧ decide ((48 : Int) ≤ (c' : Int)) = false) ∨ (((c' : Int) == 95) = false ∧ decide ((48 : Int) ≤ (c' : Int)) = true ∧ decide ((c' : Int) ≤ 57) = false) ∨ (((c' : Int) == 95) = true ∧ decide ((48 : Int) ≤ (c' : Int)) = true ∧ decide ((c' : Int) ≤ 57) = false)) (fm : decide ((97 : Int) ≤ (l' : Int)) = false ∨ (decide ((97 : Int) ≤ (l' : Int)) = true ∧ decide ((l' : Int) ≤ 122) = false)) (hb : dig16 c < 0 ∨ dig16 c' < 0) (w : World) :
    Calls Tryd.prog 86 #[.string t, .int .i64 16, .int .i64 8] w (puPost c c' (Lib.bytesWorld w 5 t)) := by
  have hemp : t.toList.isEmpty = false := by
    rw [← decide_eq_emptyBytes]
    exact decide_eq_false (fun h => by rw [h] at h2; cases h2)
  have hcv := Lib.run_convert_string_bytes (P := Tryd.prog) w 9 59 5 t (u := .string) Tryd.underlying9 Tryd.underlying59 Tryd.underlying5
  have hB0 : (Lib.bytesWorld w 5 t).cell? ⟨w.heap.size, 0, none⟩ = some (.int .u8 (c : Int)) := by
    rw [Lib.bytesWorld_cell w 5 t 0 (by omega), ← g0]; exact congrArg (fun n : Nat => some (Value.int .u8 (n : Int))) (gb_data t 0 (by omega))
  have hB1 : (Lib.bytesWorld w 5 t).cell? ⟨w.heap.size, 1, none⟩ = some (.int .u8 (c' : Int)) := by
    rw [Lib.bytesWorld_cell w 5 t 1 (by omega), ← g1]; exact congrArg (fun n : Nat => some (Value.int .u8 (n : Int))) (gb_data t 1 (by omega))
  obtain ⟨W1, hW1⟩ : ∃ W1, W1 = Lib.bytesWorld w 5 t := ⟨_, rfl⟩
  rw [h2, ← hW1] at hcv
  rw [← hW1] at hB0 hB1 ⊢
  have hmv : IntKind.u64.wrap (IntKind.u64.wrap 256 - 1) = 255 := by
    rw [IntKind.wrap_u64, IntKind.wrap_u64]
    decide
  have hcu : decide ((1152921504606846976 : Int) ≤ 0) = false := rfl
  have hmz : IntKind.u64.wrap (0 * 16) = 0 := by rw [IntKind.wrap_u64]; decide
  have HB := Lib.hid hb
  clear hW1 g0 g1 hb
  have x0 : (0 : Int) ≤ (d : Int) := by omega
  have x1 : (d : Int) < 16 := by omega
  have x9 : decide ((1152921504606846976 : Int) ≤ (d : Int)) = false := decide_eq_false (by omega)
  have x8 : decide ((255 : Int) < (d : Int)) = false := decide_eq_false (by omega)
  have y0 : IntKind.u64.wrap (0 + (d : Int)) = (d : Int) := by rw [IntKind.wrap_u64]; omega
  have y1 : IntKind.u64.wrap ((d : Int) * 16) = (d : Int) * 16 := by rw [IntKind.wrap_u64]; omega
  rcases fc with ⟨fc0, fc1⟩ | ⟨fc0, fc1, fc2⟩ | ⟨fc0, fc1, fc2⟩ <;> rcases fm with fm0 | ⟨fm0, fm1⟩
  all_goals go_enter Tryd.func86, Tryd.ntmps86
  all_goals go_wp2
  all_goals refine wp_loop_rounds 2 ?_
  all_goals (rw [rounds_succ]; go_wp2_with (go_at_call 96; (with_reducible refine (lower_sym c l el.out _).mono ?_); rintro e wq ⟨rfl, rfl⟩))
  all_goals (rw [rounds_succ]; go_wp2_with (go_at_call 96; (with_reducible refine (lower_sym c' l' fl.out _).mono ?_); rintro e wq ⟨rfl, rfl⟩))
  all_goals go_ret2
  all_goals exact puPost.bad HB.out

theorem puint_any (t : ByteArray) (h2 : t.size = 2) (w : World) :
    Calls Tryd.prog 86 #[.string t, .int .i64 16, .int .i64 8] w (puPost (gb t 0) (gb t 1) (Lib.bytesWorld w 5 t)) := by
  have hc := gb_lt (p := t) (i := 0) (by omega)
  have hc' := gb_lt (p := t) (i := 1) (by omega)
  generalize g0 : gb t 0 = c at *
  generalize g1 : gb t 1 = c' at *
  obtain ⟨el, hl, hk⟩ := low_tab c hc
  obtain ⟨el', hl', hk'⟩ := low_tab c' hc'
  have w1 : ∀ x : Int, 0 ≤ x → x < 256 → IntKind.u8.wrap x = x := fun x h h' => by rw [IntKind.wrap_u8]; omega
  have nf : ∀ x : Int, (x == 95) = false ↔ x ≠ 95 := fun x => beq_eq_false_iff_ne
  rcases hk with ⟨a0, a1, a2⟩ | ⟨a0, a1, a2, a3, a4⟩ | ⟨a0, a1, a2, a3, a4⟩ | ⟨a0, a1, a2⟩
  · rcases hk' with ⟨b0, b1, b2⟩ | ⟨b0, b1, b2, b3, b4⟩ | ⟨b0, b1, b2, b3, b4⟩ | ⟨b0, b1, b2⟩
    · exact pu_ok1_ok1 t h2 c c' (low32 c) (low32 c') (c - 48) (c' - 48) hc hc' hl hl' g0 g1 ((nf _).2 (by omega)) (decide_eq_true (by omega)) (decide_eq_true (by omega)) (by rw [w1 _ (by omega) (by omega)]; omega) (decide_eq_false (by omega)) (by omega) ((nf _).2 (by omega)) (decide_eq_true (by omega)) (decide_eq_true (by omega)) (by rw [w1 _ (by omega) (by omega)]; omega) (decide_eq_false (by omega)) (by omega) (by omega) (by omega) w
    · exact pu_ok1_ok2 t h2 c c' (low32 c) (low32 c') (c - 48) ((low32 c') - 87) hc hc' hl hl' g0 g1 ((nf _).2 (by omega)) (decide_eq_true (by omega)) (decide_eq_true (by omega)) (by rw [w1 _ (by omega) (by omega)]; omega) (decide_eq_false (by omega)) (by omega) ((nf _).2 (by omega)) (decide_eq_true (by omega)) (decide_eq_false (by omega)) (Lib.hid el') (decide_eq_true (by omega)) (decide_eq_true (by omega)) (w1 _ (by omega) (by omega)) (by rw [w1 _ (by omega) (by omega)]; omega) (decide_eq_false (by omega)) (by omega) (by omega) (by omega) w
    · exact pu_ok1_bad3 t h2 c c' (low32 c) (low32 c') (c - 48) ((low32 c') - 87) hc hc' hl hl' g0 g1 ((nf _).2 (by omega)) (decide_eq_true (by omega)) (decide_eq_true (by omega)) (by rw [w1 _ (by omega) (by omega)]; omega) (decide_eq_false (by omega)) (by omega) ((nf _).2 (by omega)) (decide_eq_true (by omega)) (decide_eq_false (by omega)) (Lib.hid el') (decide_eq_true (by omega)) (decide_eq_true (by omega)) (w1 _ (by omega) (by omega)) (by rw [w1 _ (by omega) (by omega)]; omega) (decide_eq_true (by omega)) (.inr (by omega)) w
    · exact pu_ok1_bad4 t h2 c c' (low32 c) (low32 c') (c - 48) 0 hc hc' hl hl' g0 g1 ((nf _).2 (by omega)) (decide_eq_true (by omega)) (decide_eq_true (by omega)) (by rw [w1 _ (by omega) (by omega)]; omega) (decide_eq_false (by omega)) (by omega) (Lib.hid el') (by rcases b0 with h | h; exact .inl ⟨(nf _).2 (by omega), decide_eq_false (by omega)⟩; rcases Nat.lt_or_ge c' 95 with h3 | h3; exact .inr (.inl ⟨(nf _).2 (by omega), decide_eq_true (by omega), decide_eq_false (by omega)⟩); rcases Nat.lt_or_ge 95 c' with h4 | h4; exact .inr (.inl ⟨(nf _).2 (by omega), decide_eq_true (by omega), decide_eq_false (by omega)⟩); exact .inr (.inr ⟨beq_iff_eq.2 (by omega), decide_eq_true (by omega), decide_eq_false (by omega)⟩)) (by rcases b1 with h | h; exact .inl (decide_eq_false (by omega)); exact .inr ⟨decide_eq_true (by omega), decide_eq_false (by omega)⟩) (.inr (by omega)) w
  · rcases hk' with ⟨b0, b1, b2⟩ | ⟨b0, b1, b2, b3, b4⟩ | ⟨b0, b1, b2, b3, b4⟩ | ⟨b0, b1, b2⟩
    · exact pu_ok2_ok1 t h2 c c' (low32 c) (low32 c') ((low32 c) - 87) (c' - 48) hc hc' hl hl' g0 g1 ((nf _).2 (by omega)) (decide_eq_true (by omega)) (decide_eq_false (by omega)) (Lib.hid el) (decide_eq_true (by omega)) (decide_eq_true (by omega)) (w1 _ (by omega) (by omega)) (by rw [w1 _ (by omega) (by omega)]; omega) (decide_eq_false (by omega)) (by omega) ((nf _).2 (by omega)) (decide_eq_true (by omega)) (decide_eq_true (by omega)) (by rw [w1 _ (by omega) (by omega)]; omega) (decide_eq_false (by omega)) (by omega) (by omega) (by omega) w
    · exact pu_ok2_ok2 t h2 c c' (low32 c) (low32 c') ((low32 c) - 87) ((low32 c') - 87) hc hc' hl hl' g0 g1 ((nf _).2 (by omega)) (decide_eq_true (by omega)) (decide_eq_false (by omega)) (Lib.hid el) (decide_eq_true (by omega)) (decide_eq_true (by omega)) (w1 _ (by omega) (by omega)) (by rw [w1 _ (by omega) (by omega)]; omega) (decide_eq_false (by omega)) (by omega) ((nf _).2 (by omega)) (decide_eq_true (by omega)) (decide_eq_false (by omega)) (Lib.hid el') (decide_eq_true (by omega)) (decide_eq_true (by omega)) (w1 _ (by omega) (by omega)) (by rw [w1 _ (by omega) (by omega)]; omega) (decide_eq_false (by omega)) (by omega) (by omega) (by omega) w
    · exact pu_ok2_bad3 t h2 c c' (low32 c) (low32 c') ((low32 c) - 87) ((low32 c') - 87) hc hc' hl hl' g0 g1 ((nf _).2 (by omega)) (decide_eq_true (by omega)) (decide_eq_false (by omega)) (Lib.hid el) (decide_eq_true (by omega)) (decide_eq_true (by omega)) (w1 _ (by omega) (by omega)) (by rw [w1 _ (by omega) (by omega)]; omega) (decide_eq_false (by omega)) (by omega) ((nf _).2 (by omega)) (decide_eq_true (by omega)) (decide_eq_false (by omega)) (Lib.hid el') (decide_eq_true (by omega)) (decide_eq_true (by omega)) (w1 _ (by omega) (by omega)) (by rw [w1 _ (by omega) (by omega)]; omega) (decide_eq_true (by omega)) (.inr (by omega)) w
    · exact pu_ok2_bad4 t h2 c c' (low32 c) (low32 c') ((low32 c) - 87) 0 hc hc' hl hl' g0 g1 ((nf _).2 (by omega)) (decide_eq_true (by omega)) (decide_eq_false (by omega)) (Lib.hid el) (decide_eq_true (by omega)) (decide_eq_true (by omega)) (w1 _ (by omega) (by omega)) (by rw [w1 _ (by omega) (by omega)]; omega) (decide_eq_false (by omega)) (by omega) (Lib.hid el') (by rcases b0 with h | h; exact .inl ⟨(nf _).2 (by omega), decide_eq_false (by omega)⟩; rcases Nat.lt_or_ge c' 95 with h3 | h3; exact .inr (.inl ⟨(nf _).2 (by omega), decide_eq_true (by omega), decide_eq_false (by omega)⟩); rcases Nat.lt_or_ge 95 c' with h4 | h4; exact .inr (.inl ⟨(nf _).2 (by omega), decide_eq_true (by omega), decide_eq_false (by omega)⟩); exact .inr (.inr ⟨beq_iff_eq.2 (by omega), decide_eq_true (by omega), decide_eq_false (by omega)⟩)) (by rcases b1 with h | h; exact .inl (decide_eq_false (by omega)); exact .inr ⟨decide_eq_true (by omega), decide_eq_false (by omega)⟩) (.inr (by omega)) w
  · exact pu_bad3 t h2 c c' (low32 c) (low32 c') ((low32 c) - 87) 0 hc hc' hl hl' g0 g1 ((nf _).2 (by omega)) (decide_eq_true (by omega)) (decide_eq_false (by omega)) (Lib.hid el) (decide_eq_true (by omega)) (decide_eq_true (by omega)) (w1 _ (by omega) (by omega)) (by rw [w1 _ (by omega) (by omega)]; omega) (decide_eq_true (by omega)) (.inl (by omega)) w
  · exact pu_bad4 t h2 c c' (low32 c) (low32 c') 0 0 hc hc' hl hl' g0 g1 (Lib.hid el) (by rcases a0 with h | h; exact .inl ⟨(nf _).2 (by omega), decide_eq_false (by omega)⟩; rcases Nat.lt_or_ge c 95 with h3 | h3; exact .inr (.inl ⟨(nf _).2 (by omega), decide_eq_true (by omega), decide_eq_false (by omega)⟩); rcases Nat.lt_or_ge 95 c with h4 | h4; exact .inr (.inl ⟨(nf _).2 (by omega), decide_eq_true (by omega), decide_eq_false (by omega)⟩); exact .inr (.inr ⟨beq_iff_eq.2 (by omega), decide_eq_true (by omega), decide_eq_false (by omega)⟩)) (by rcases a1 with h | h; exact .inl (decide_eq_false (by omega)); exact .inr ⟨decide_eq_true (by omega), decide_eq_false (by omega)⟩) (.inl (by omega)) w
end Go.Proofs.YtgjpmfdiidkdnaaDoor
