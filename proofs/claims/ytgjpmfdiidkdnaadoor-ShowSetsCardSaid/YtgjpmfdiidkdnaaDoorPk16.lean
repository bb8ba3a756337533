/-
  The walk of the third reference's Behind.
  The walk of the third reference's single.
  The walk of byteset's Bytes.
-/
import Derived.Test.YtgjpmfdiidkdnaaDoorPk5
import Derived.Deep.Cut
import Derived.Test.YtgjpmfdiidkdnaaDoorPk4
import Derived.Test.YtgjpmfdiidkdnaaDoorPk12
namespace Go.Proofs.YtgjpmfdiidkdnaaDoor
open Go.RowKit

/-- The item that cannot be made, as it lies. -/
theorem itv_none : itv (fun _ => false) 0 false false = .agg #[.int .u64 0, .int .u64 0, .int .u64 0, .int .u64 0, .int .i64 0, .bool false, .bool false] := by
  simp only [itv, none_wd]; rfl
theorem conv_u8 (c : Nat) (h : c < 256) : IntKind.i64.wrap (c : Int) = (c : Int) := by rw [IntKind.wrap_i64]; omega
theorem below_set7z {B : Nat} {a w : World} {c : Nat} (h : Below B a w) (hc : B ≤ c) : Below B a
    (((((((w.setCell ⟨c, 0, none⟩ (.int .u64 0)).setCell ⟨c, 1, none⟩ (.int .u64 0)).setCell ⟨c, 2, none⟩ (.int .u64 0)).setCell ⟨c, 3, none⟩ (.int .u64 0)).setCell ⟨c, 4, none⟩ (.int .i64 0)).setCell ⟨c, 5, none⟩ (.bool false)).setCell ⟨c, 6, none⟩ (.bool false)) :=
  ((((((h.setCell hc _).setCell hc _).setCell hc _).setCell hc _).setCell hc _).setCell hc _).setCell hc _

end Go.Proofs.YtgjpmfdiidkdnaaDoor

namespace Go.Proofs.YtgjpmfdiidkdnaaDoor
open Go.RowKit

/-- Where the name that begins at a place ends: the first place from it on with a colon and a bracket. -/
def nmEnd (p : ByteArray) (i : Nat) : Option Nat := (List.range p.size).find? fun j => decide (i ≤ j) && (gb p j == 58 && gb p (j + 1) == 93)
/-- An item of a bracket that is no range: the bytes, where it ends, whether it can be made, whether it is a name. -/
def sinF (p : ByteArray) (k : Nat) : Nat → Bool :=
  if gb p k = 92 then behF p k
  else if gb p k = 91 ∧ gb p (k + 1) = 58 then (match nmEnd p (k + 2) with | some j => isB (p.extract (k + 2) j).toList | none => fun _ => false)
  else oneR (gb p k)
def sinN (p : ByteArray) (k : Nat) : Nat :=
  if gb p k = 92 then behN p k
  else if gb p k = 91 ∧ gb p (k + 1) = 58 then (match nmEnd p (k + 2) with | some j => j + 2 | none => 0)
  else k + 1
def sinOk (p : ByteArray) (k : Nat) : Bool :=
  if gb p k = 92 then behOk p k
  else if gb p k = 91 ∧ gb p (k + 1) = 58 then (match nmEnd p (k + 2) with | some j => isN (p.extract (k + 2) j).toList | none => false)
  else true
def sinNm (p : ByteArray) (k : Nat) : Bool :=
  if gb p k = 92 then false
  else if gb p k = 91 ∧ gb p (k + 1) = 58 then (match nmEnd p (k + 2) with | some _ => true | none => false)
  else false

def hitB (p : ByteArray) (j : Nat) : Bool := gb p j == 58 && gb p (j + 1) == 93
theorem hitB_in {p : ByteArray} {j : Nat} (h : hitB p j = true) : j + 1 < p.size := by
  unfold hitB at h
  rcases Nat.lt_or_ge (j + 1) p.size with h1 | h1
  · exact h1
  · rw [gb_out h1] at h; simp at h
theorem nmEnd_some {p : ByteArray} {i j : Nat} (hij : i ≤ j) (h : hitB p j = true) (hno : ∀ x, i ≤ x → x < j → hitB p x = false) : nmEnd p i = some j := by
  have hj := hitB_in h
  unfold nmEnd
  rw [List.find?_range_eq_some]
  refine ⟨?_, by rw [List.mem_range]; omega, fun x hx => ?_⟩
  · rw [decide_eq_true hij]; exact h
  · by_cases hix : i ≤ x
    · have := hno x hix hx
      unfold hitB at this
      rw [this]; simp
    · simp [hix]
theorem nmEnd_none {p : ByteArray} {i j : Nat} (hj : p.size ≤ j + 1) (hno : ∀ x, i ≤ x → x < j → hitB p x = false) : nmEnd p i = none := by
  unfold nmEnd
  rw [List.find?_range_eq_none]
  intro x _
  by_cases hix : i ≤ x
  · have : hitB p x = false := by
      rcases Nat.lt_or_ge x j with h1 | h1
      · exact hno x hix h1
      · cases hh : hitB p x
        · rfl
        · have := hitB_in hh; omega
    unfold hitB at this
    rw [this]; simp
  · simp [hix]
end Go.Proofs.YtgjpmfdiidkdnaaDoor

namespace Go.Proofs.YtgjpmfdiidkdnaaDoor
open Go.RowKit

set_option maxRecDepth 100000 in
set_option maxHeartbeats 2000000 in
theorem bytes_any (f : Nat → Bool) (w : World) :
    Calls Tryd.prog 24 #[sv f] w fun e w' => ∃ v, e = .returned v ∧ w'.ownsRow (w.heap.size + 1) 5 1 v (bl f 256).length (u8s (bl f 256)) ∧ Below w.heap.size w w' := by
  obtain ⟨i0, hi, hz0, hz1, hz2⟩ := info_parts Tryd.info8
  unfold sv
  go_enter Tryd.func24, Tryd.ntmps24
  go_wp2
  go_loopw [3, 5] (fun v i wr => ∃ k : Nat, k ≤ 256 ∧ i = .int .i64 k ∧ bytesR f w k v wr) (fun _ i _ => 256 - (intOf i).toNat)
  case atStart => exact ⟨0, Nat.zero_le _, rfl, World.ownsRow_nil _ _ _ _, Below.refl _ _⟩
  case round =>
    obtain ⟨k, hk, rfl, hown, hB⟩ := hrel
    obtain ⟨hc, hf⟩ := w2of hB
    have hz := hB.size
    simp only [World.size_alloc] at hz
    have hle := bl_le f k
    by_cases hlt : k < 256
    · cases hfk : f k
      · have Hf := Lib.hid hfk
        clear hfk
        go_wp2_with (go_at_call 47; refine (has_any f k hlt _).mono ?_; rintro e w1 ⟨rfl, hb1⟩; rw [Hf.out])
        go_roundw
        case rel => exact ⟨k + 1, by omega, by go_num, by rw [bl_miss f k Hf.out]; exact owns_below hown hb1, hB.trans (hb1.mono hz)⟩
        case measure => simp [intOf]; omega
      · have Hf := Lib.hid hfk
        clear hfk
        go_wp2_with (first | (go_at_call 47; refine (has_any f k hlt _).mono ?_; rintro e w1 ⟨rfl, hb1⟩; rw [Hf.out]; have hown1 := owns_below hown hb1) | (at_builtin; refine wpList_append_own _ rfl _ _ 59 rfl (w.heap.size + 1) 5 i0 (.int .u8 0) 1 1 Tryd.underlying59 hi hz0 hz1 hz2 rfl (by decide) _ _ _ rfl (hown1.alloc _) ⟨w1.heap.size, 0, none⟩ 1 1 [.int .u8 (k : Int)] rfl rfl ?c1 ?c2 ?c3 ?c4 ?c5 ?_))
        case c1 =>
          intro j u hj
          match j, hj with
          | 0, hj => simp at hj; subst hj; simp [Addr.add]
        case c2 => intro u hu; simp at hu; subst hu; rfl
        case c3 => unfold maxLen; omega
        case c4 => omega
        case c5 => have := hb1.size; simp; omega
        have hz1 := hb1.size
        intro v' w2 hown2 hgrow _
        have hB2 : Below (w.heap.size + 1) (w.alloc (.cells #[.int .u64 (wd f 0 : Int), .int .u64 (wd f 1 : Int), .int .u64 (wd f 2 : Int), .int .u64 (wd f 3 : Int)] 32)) w2 :=
          ((hB.trans (hb1.mono hz)).alloc (by omega) _).grown hgrow (by simp; omega) fun r hr => (hown1.lt r hr).1
        have hown3 : w2.ownsRow (w.heap.size + 1) 5 1 v' (bl f (k + 1)).length (u8s (bl f (k + 1))) := by
          rw [bl_hit f k Hf.out]
          simpa [u8s] using hown2
        clear hown2 hgrow hown hown1 hB hc hf hb1
        go_wp2
        go_roundw
        case rel => exact ⟨k + 1, by omega, by go_num, hown3, hB2⟩
        case measure => simp [intOf]; omega
    · obtain rfl : k = 256 := by omega
      clear hc hf
      go_wp2
      go_ret
      exact ⟨_, rfl, hown, ((Below.refl _ _).alloc (Nat.le_refl _) _).trans (hB.mono (by omega))⟩
end Go.Proofs.YtgjpmfdiidkdnaaDoor
