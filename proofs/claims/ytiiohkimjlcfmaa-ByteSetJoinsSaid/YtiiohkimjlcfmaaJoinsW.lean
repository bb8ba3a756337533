/-
  The walk of the law ByteSetJoins: it answers true, at any two sets and any byte.
-/
import Derived.Test.YtiiohkimjlcfmaaAwake
import Derived.Test.YtiiohkimjlcfmaaLit
import Derived.Test.YtiiohkimjlcfmaaEq
namespace Go.Proofs.Ytiiohkimjlcfmaa
open Go.RowKit


set_option maxRecDepth 100000 in
set_option maxHeartbeats 8000000 in
theorem joins_walk (f g : Nat → Bool) (c : Nat) (hc : c < 256) (w : World) :
    Calls Try.prog 3 #[sv f, sv g, .int .u8 (c : Int)] w fun e w' => e = .returned (.bool true) ∧ Below w.heap.size w w' := by
  have heq := eq_set
  have hwr : IntKind.i64.wrap (c : Int) = (c : Int) := by rw [IntKind.wrap_i64]; omega
  unfold sv
  go_enter Try.func3, Try.ntmps3
  go_wp2_with fail
  refine (awake_any _).mono ?_
  rintro e w1 ⟨rfl, hb1⟩
  go_wp2_with fail
  have b0 := (((isSet.new w f).alloc (.cells #[.int .u64 (wd g 0 : Int), .int .u64 (wd g 1 : Int), .int .u64 (wd g 2 : Int), .int .u64 (wd g 3 : Int)] 24))).below hb1 (by simp; omega)
  have b1 := (isSet.new (w.alloc (.cells #[.int .u64 (wd f 0 : Int), .int .u64 (wd f 1 : Int), .int .u64 (wd f 2 : Int), .int .u64 (wd f 3 : Int)] 24)) g).below hb1 (by simp)
  rw [World.size_alloc] at b1
  have hW : Below w.heap.size w w1 := (((Below.refl _ _).alloc (Nat.le_refl _) _).alloc (by simp) _).trans (hb1.mono (by go_size))
  clear hb1
  have hS := And.intro b0.cells b1.cells
  have l0 := b0.lt; have l1 := b1.lt
  have hB := (Below.refl w1.heap.size w1).drew
  go_region_held3 (fun w' => (w'.cell? ⟨w.heap.size, 0, none⟩ = some (.int .u64 (wd f 0 : Int)) ∧ w'.cell? ⟨w.heap.size, 1, none⟩ = some (.int .u64 (wd f 1 : Int)) ∧ w'.cell? ⟨w.heap.size, 2, none⟩ = some (.int .u64 (wd f 2 : Int)) ∧ w'.cell? ⟨w.heap.size, 3, none⟩ = some (.int .u64 (wd f 3 : Int))) ∧
      (w'.cell? ⟨w.heap.size + 1, 0, none⟩ = some (.int .u64 (wd g 0 : Int)) ∧ w'.cell? ⟨w.heap.size + 1, 1, none⟩ = some (.int .u64 (wd g 1 : Int)) ∧ w'.cell? ⟨w.heap.size + 1, 2, none⟩ = some (.int .u64 (wd g 2 : Int)) ∧ w'.cell? ⟨w.heap.size + 1, 3, none⟩ = some (.int .u64 (wd g 3 : Int))))
    (first | exact ⟨(b0.below hB l0).cells, (b1.below hB l1).cells⟩ | go_keep)
    (first | (go_at_call 8; (with_reducible refine (or_lit f g _).mono ?_); rintro e wk ⟨rfl, hb⟩; replace hB := hB.trans (hb.mono hB.size); clear hb)
           | (go_at_call 9; (with_reducible refine (rjoin0_lit f g _).mono ?_); rintro e wk ⟨rfl, hb⟩; replace hB := hB.trans (hb.mono hB.size); clear hb)
           | (go_at_call 9; (with_reducible refine (rjoin1_lit f g _).mono ?_); rintro e wk ⟨rfl, hb⟩; replace hB := hB.trans (hb.mono hB.size); clear hb)
           | (go_at_call 9; (with_reducible refine (rjoin2_lit f g _).mono ?_); rintro e wk ⟨rfl, hb⟩; replace hB := hB.trans (hb.mono hB.size); clear hb)
           | (go_at_call 10; (with_reducible refine (and_lit f g _).mono ?_); rintro e wk ⟨rfl, hb⟩; replace hB := hB.trans (hb.mono hB.size); clear hb)
           | (go_at_call 11; (with_reducible refine (less_lit f g _).mono ?_); rintro e wk ⟨rfl, hb⟩; replace hB := hB.trans (hb.mono hB.size); clear hb)
           | (go_at_call 12; (with_reducible refine (not_lit f _).mono ?_); rintro e wk ⟨rfl, hb⟩; replace hB := hB.trans (hb.mono hB.size); clear hb)
           | (go_at_call 13; (with_reducible refine (rnot_lit f _).mono ?_); rintro e wk ⟨rfl, hb⟩; replace hB := hB.trans (hb.mono hB.size); clear hb)
           | (go_at_call 14; (with_reducible refine (has_lit f c hc _).mono ?_); rintro e wk ⟨rfl, hb⟩; replace hB := hB.trans (hb.mono hB.size); clear hb)
           | (go_at_call 15; (with_reducible refine (rhas_lit f c hc _).mono ?_); rintro e wk ⟨rfl, hb⟩; replace hB := hB.trans (hb.mono hB.size); clear hb))
  rename_i hHeld
  clear hHeld
  go_wp2
  go_ret
  exact ⟨rfl, hW.trans (hB.mono (by omega))⟩
end Go.Proofs.Ytiiohkimjlcfmaa
