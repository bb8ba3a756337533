/-
  The walk of the law ByteSetTurns: it answers true, at any two sets.
-/
import Derived.Test.YtiiohkimjlcfmaaAwake
import Derived.Laws.StructEq
namespace Go.Proofs.Ytiiohkimjlcfmaa
open Go.RowKit

theorem inl_bl (f : Nat → Bool) (n k : Nat) (h : k < n) : inl (bl f n) k = f k := by
  unfold inl bl
  cases hf : f k <;> simp [List.mem_filter, List.mem_range, h, hf]

theorem not_not_any (f : Nat → Bool) (w : World) : Calls Try.prog 12 #[sv fun k => !f k] w fun e w' => e = .returned (sv f) ∧ Below w.heap.size w w' :=
  (not_any (fun k => !f k) w).mono fun _ _ h => ⟨by rw [h.1]; congr 1; exact sv_congr fun k _ => by simp, h.2⟩
theorem and_nots_any (f g : Nat → Bool) (w : World) :
    Calls Try.prog 10 #[sv fun k => !f k, sv fun k => !g k] w fun e w' => e = .returned (sv fun k => !(f k || g k)) ∧ Below w.heap.size w w' :=
  (and_any (fun k => !f k) (fun k => !g k) w).mono fun _ _ h => ⟨by rw [h.1]; congr 1; exact sv_congr fun k _ => by simp, h.2⟩
theorem or_parts_any (f g : Nat → Bool) (w : World) :
    Calls Try.prog 8 #[sv fun k => f k && !g k, sv fun k => f k && g k] w fun e w' => e = .returned (sv f) ∧ Below w.heap.size w w' :=
  (or_any (fun k => f k && !g k) (fun k => f k && g k) w).mono fun _ _ h => ⟨by rw [h.1]; congr 1; exact sv_congr fun k _ => by cases f k <;> cases g k <;> rfl, h.2⟩
theorem of_bytes_any (f : Nat → Bool) (v : Value) (w : World) (base : Nat) (h : w.ownsRow base 5 1 v (bl f 256).length (u8s (bl f 256))) :
    Calls Try.prog 24 #[v] w fun e w' => e = .returned (sv f) ∧ Below w.heap.size w w' :=
  (of_any (bl f 256) (bl_bytes f 256) (by have := bl_le f 256; unfold maxLen; omega) v w (rd8_of_owns h)).mono fun _ _ h => ⟨by rw [h.1]; congr 1; exact sv_congr fun k hk => inl_bl f 256 k hk, h.2⟩

/-- A set is the same as itself. -/
theorem eq_set' (d : Nat) (x0 x1 x2 x3 : Int) (w : World) :
    (Op.equalIn (d + 2) 24 (.agg #[.int .u64 x0, .int .u64 x1, .int .u64 x2, .int .u64 x3]) (.agg #[.int .u64 x0, .int .u64 x1, .int .u64 x2, .int .u64 x3])).run Try.prog w = .ok true w := by
  have hs : ∀ w, (sizeOf 22).run Try.prog w = .ok 1 w := fun _ => by kernel_rfl
  have hp : ∀ (xs : Array Value) (i : Nat) (v : Value) (w : World), xs[i]? = some v → (part 22 xs i).run Try.prog w = .ok v w := by
    intro xs i v w hv
    simp [part, go_sem, hv, isAgg, run_underlying Try.underlying22]
  have e : ∀ (x : Int) (w : World), (Op.equalIn (d + 1) 22 (.int .u64 x) (.int .u64 x)).run Try.prog w = .ok true w := fun x w => by
    rw [run_equalIn_int w d 22 .u64 .u64 x x Try.underlying22]; simp
  rw [show d + 2 = (d + 1) + 1 from rfl, Op.equalIn]
  simp only [Sem.run_bind, run_underlying Try.underlying24, Result.andThen_ok, hs, Std.Legacy.Range.forIn_eq_forIn_range', Std.Legacy.Range.size]
  simp [List.range', hp, e]
theorem eq_set (x0 x1 x2 x3 : Int) (w : World) :
    (Op.equalIn 10000 24 (.agg #[.int .u64 x0, .int .u64 x1, .int .u64 x2, .int .u64 x3]) (.agg #[.int .u64 x0, .int .u64 x1, .int .u64 x2, .int .u64 x3])).run Try.prog w = .ok true w := eq_set' 9998 x0 x1 x2 x3 w

/-- Two sets in two blocks, whatever has been made behind them. -/
theorem keep8 {f g : Nat → Bool} {a b : Nat} {w1 w' : World} (hB : Below w1.heap.size w1 w') (ha : a < w1.heap.size) (hb : b < w1.heap.size)
    (h : (w1.cell? ⟨a, 0, none⟩ = some (.int .u64 (wd f 0 : Int)) ∧ w1.cell? ⟨a, 1, none⟩ = some (.int .u64 (wd f 1 : Int)) ∧ w1.cell? ⟨a, 2, none⟩ = some (.int .u64 (wd f 2 : Int)) ∧ w1.cell? ⟨a, 3, none⟩ = some (.int .u64 (wd f 3 : Int))) ∧
      (w1.cell? ⟨b, 0, none⟩ = some (.int .u64 (wd g 0 : Int)) ∧ w1.cell? ⟨b, 1, none⟩ = some (.int .u64 (wd g 1 : Int)) ∧ w1.cell? ⟨b, 2, none⟩ = some (.int .u64 (wd g 2 : Int)) ∧ w1.cell? ⟨b, 3, none⟩ = some (.int .u64 (wd g 3 : Int)))) :
    (w'.cell? ⟨a, 0, none⟩ = some (.int .u64 (wd f 0 : Int)) ∧ w'.cell? ⟨a, 1, none⟩ = some (.int .u64 (wd f 1 : Int)) ∧ w'.cell? ⟨a, 2, none⟩ = some (.int .u64 (wd f 2 : Int)) ∧ w'.cell? ⟨a, 3, none⟩ = some (.int .u64 (wd f 3 : Int))) ∧
      (w'.cell? ⟨b, 0, none⟩ = some (.int .u64 (wd g 0 : Int)) ∧ w'.cell? ⟨b, 1, none⟩ = some (.int .u64 (wd g 1 : Int)) ∧ w'.cell? ⟨b, 2, none⟩ = some (.int .u64 (wd g 2 : Int)) ∧ w'.cell? ⟨b, 3, none⟩ = some (.int .u64 (wd g 3 : Int))) := by
  have c : ∀ x o, x < w1.heap.size → w'.cell? ⟨x, o, none⟩ = w1.cell? ⟨x, o, none⟩ := fun x o hx => hB.cell (p := ⟨x, o, none⟩) hx
  rw [c a 0 ha, c a 1 ha, c a 2 ha, c a 3 ha, c b 0 hb, c b 1 hb, c b 2 hb, c b 3 hb]
  exact h

set_option maxRecDepth 100000 in
set_option maxHeartbeats 8000000 in
theorem turns_walk (f g : Nat → Bool) (w : World) :
    Calls Try.prog 6 #[sv f, sv g] w fun e w' => e = .returned (.bool true) ∧ Below w.heap.size w w' := by
  have pt : Hid ((IntKind.i64.wrap (((popTo f 0 256 : Nat) : Int) + (popTo g 0 256 : Nat)) == IntKind.i64.wrap (((popTo (fun k => f k || g k) 0 256 : Nat) : Int) + (popTo (fun k => f k && g k) 0 256 : Nat))) = true) := by
    have h := popTo_or_and f g 0 256
    have h' : (((popTo f 0 256 : Nat) : Int) + (popTo g 0 256 : Nat)) = ((popTo (fun k => f k || g k) 0 256 : Nat) : Int) + (popTo (fun k => f k && g k) 0 256 : Nat) := by omega
    rw [h']
    exact beq_self_eq_true _
  have heq := eq_set
  unfold sv
  go_enter Try.func6, Try.ntmps6
  go_wp2_with fail
  refine (awake_any _).mono ?_
  rintro e w1 ⟨rfl, hb1⟩
  go_wp2_with fail
  have hz := hb1.size
  simp only [World.size_alloc] at hz
  have hS : (w1.cell? ⟨w.heap.size, 0, none⟩ = some (.int .u64 (wd f 0 : Int)) ∧ w1.cell? ⟨w.heap.size, 1, none⟩ = some (.int .u64 (wd f 1 : Int)) ∧ w1.cell? ⟨w.heap.size, 2, none⟩ = some (.int .u64 (wd f 2 : Int)) ∧ w1.cell? ⟨w.heap.size, 3, none⟩ = some (.int .u64 (wd f 3 : Int))) ∧
      (w1.cell? ⟨w.heap.size + 1, 0, none⟩ = some (.int .u64 (wd g 0 : Int)) ∧ w1.cell? ⟨w.heap.size + 1, 1, none⟩ = some (.int .u64 (wd g 1 : Int)) ∧ w1.cell? ⟨w.heap.size + 1, 2, none⟩ = some (.int .u64 (wd g 2 : Int)) ∧ w1.cell? ⟨w.heap.size + 1, 3, none⟩ = some (.int .u64 (wd g 3 : Int))) := by
    obtain ⟨hc, _⟩ := w2of hb1
    simp [hc, go_sem]
  have hW : Below w.heap.size w w1 := (((Below.refl _ _).alloc (Nat.le_refl _) _).alloc (by simp) _).trans (hb1.mono (by go_size))
  clear hb1
  have hB := (Below.refl w1.heap.size w1).drew
  go_region_held3 (fun w' => (w'.cell? ⟨w.heap.size, 0, none⟩ = some (.int .u64 (wd f 0 : Int)) ∧ w'.cell? ⟨w.heap.size, 1, none⟩ = some (.int .u64 (wd f 1 : Int)) ∧ w'.cell? ⟨w.heap.size, 2, none⟩ = some (.int .u64 (wd f 2 : Int)) ∧ w'.cell? ⟨w.heap.size, 3, none⟩ = some (.int .u64 (wd f 3 : Int))) ∧
      (w'.cell? ⟨w.heap.size + 1, 0, none⟩ = some (.int .u64 (wd g 0 : Int)) ∧ w'.cell? ⟨w.heap.size + 1, 1, none⟩ = some (.int .u64 (wd g 1 : Int)) ∧ w'.cell? ⟨w.heap.size + 1, 2, none⟩ = some (.int .u64 (wd g 2 : Int)) ∧ w'.cell? ⟨w.heap.size + 1, 3, none⟩ = some (.int .u64 (wd g 3 : Int))))
    (first | exact keep8 hB (by omega) (by omega) hS | go_keep)
    (first | (go_at_call 8; refine (or_parts_any f g _).mono ?_; rintro e wk ⟨rfl, hb⟩; replace hB := hB.trans (hb.mono hB.size); clear hb)
           | (go_at_call 8; refine (or_any f g _).mono ?_; rintro e wk ⟨rfl, hb⟩; replace hB := hB.trans (hb.mono hB.size); clear hb)
           | (go_at_call 10; refine (and_nots_any f g _).mono ?_; rintro e wk ⟨rfl, hb⟩; replace hB := hB.trans (hb.mono hB.size); clear hb)
           | (go_at_call 10; refine (and_any f g _).mono ?_; rintro e wk ⟨rfl, hb⟩; replace hB := hB.trans (hb.mono hB.size); clear hb)
           | (go_at_call 11; refine (less_any f g _).mono ?_; rintro e wk ⟨rfl, hb⟩; replace hB := hB.trans (hb.mono hB.size); clear hb)
           | (go_at_call 12; refine (not_not_any f _).mono ?_; rintro e wk ⟨rfl, hb⟩; replace hB := hB.trans (hb.mono hB.size); clear hb)
           | (go_at_call 12; refine (not_any _ _).mono ?_; rintro e wk ⟨rfl, hb⟩; replace hB := hB.trans (hb.mono hB.size); clear hb)
           | (go_at_call 18; refine (count_any _ _).mono ?_; rintro e wk ⟨rfl, hb⟩; replace hB := hB.trans (hb.mono hB.size); clear hb)
           | (go_at_call 17; refine (bytes_any f _).mono ?_; rintro e wk ⟨v, rfl, hown, hb⟩; replace hB := hB.trans (hb.mono hB.size); clear hb)
           | (go_at_call 24; refine (of_bytes_any f _ _ _ hown).mono ?_; rintro e wk ⟨rfl, hb⟩; replace hB := hB.trans (hb.mono hB.size); clear hb))
  go_wp2
  go_ret
  exact ⟨congrArg (fun b => Ending.returned (.bool b)) pt.out, hW.trans (hB.mono (by omega))⟩
end Go.Proofs.Ytiiohkimjlcfmaa
