/-
  The walk of the third reference's one.
-/
import Derived.Test.YtligbocnakbabaaDoorRbytes
import Derived.Test.YtligbocnakbabaaDoorBlk
namespace Go.Proofs.YtligbocnakbabaaDoor
open Go.RowKit

/-- The only byte of a set; -1: it has not just one, or it is a name's. -/
def oneF (f : Nat → Bool) (nm : Bool) : Int := if nm = true then -1 else if (bl f 256).length = 1 then ((bl f 256).headD 0 : Nat) else -1
/-- An item as a value. -/
@[reducible] def itv (f : Nat → Bool) (n : Nat) (ok nm : Bool) : Value := .agg #[.int .u64 (wd f 0 : Int), .int .u64 (wd f 1 : Int), .int .u64 (wd f 2 : Int), .int .u64 (wd f 3 : Int), .int .i64 (n : Int), .bool ok, .bool nm]

set_option maxRecDepth 100000 in
set_option maxHeartbeats 2000000 in
theorem one_any (f : Nat → Bool) (n : Nat) (ok nm : Bool) (w : World) :
    Calls Tryd.prog 32 #[itv f n ok nm] w fun e w' => e = .returned (.int .i64 (oneF f nm)) ∧ Below w.heap.size w w' := by
  have c6 : (w.alloc (.cells #[.int .u64 (wd f 0 : Int), .int .u64 (wd f 1 : Int), .int .u64 (wd f 2 : Int), .int .u64 (wd f 3 : Int), .int .i64 (n : Int), .bool ok, .bool nm] 48)).cell? ⟨w.heap.size, 6, none⟩ = some (.bool nm) := by simp [go_sem]
  have hW : Below w.heap.size w (w.alloc (.cells #[.int .u64 (wd f 0 : Int), .int .u64 (wd f 1 : Int), .int .u64 (wd f 2 : Int), .int .u64 (wd f 3 : Int), .int .i64 (n : Int), .bool ok, .bool nm] 48)) := (Below.refl _ _).alloc (Nat.le_refl _) _
  have C6 := Lib.hid c6; have HW := Lib.hid hW
  clear c6 hW
  obtain ⟨l, hl⟩ : ∃ l, bl f 256 = l := ⟨_, rfl⟩
  have hsm := bl_bytes f 256
  rw [hl] at hsm
  have HL := Lib.hid hl
  clear hl
  cases nm
  · by_cases h1 : l.length = 1
    · obtain ⟨x, rfl⟩ := List.length_eq_one_iff.1 h1
      clear h1
      have hx : x < 256 := hsm x (by simp)
      have HF : Hid (oneF f false = (x : Int)) := Lib.hid (by unfold oneF; rw [HL.out]; rfl)
      have hwr : IntKind.i64.wrap (x : Int) = (x : Int) := by rw [IntKind.wrap_i64]; omega
      clear hsm
      go_enter Tryd.func32, Tryd.ntmps32
      go_wp2_with fail
      refine (rbytes_any f _).mono ?_
      rintro e w1 ⟨v, rfl, hown, hb⟩
      have hr := rd8_of_owns hown
      rw [HL.out] at hr
      have c6 := (hb.cell (p := ⟨w.heap.size, 6, none⟩) (by simp)).trans C6.out
      have hB := Lib.hid (HW.out.trans (hb.mono HW.out.size))
      clear hown hb
      rcases hr with ⟨_, h0⟩ | ⟨b, off, cap, rfl, hbl, hc⟩
      · cases h0
      · have q0 : w1.cell? ⟨b, off, none⟩ = some (.int .u8 (x : Int)) := hc 0 (by simp)
        clear hc
        go_wp2
        go_ret
        exact ⟨by rw [HF.out]; rfl, hB.out⟩
    · have HF : Hid (oneF f false = -1) := Lib.hid (by unfold oneF; rw [HL.out, if_neg (by decide), if_neg h1])
      have t1 : ((l.length : Int) != 1) = true := by simp; omega
      have t2 : (l.length != 1) = true := by simp; omega
      clear hsm
      go_enter Tryd.func32, Tryd.ntmps32
      go_wp2_with fail
      refine (rbytes_any f _).mono ?_
      rintro e w1 ⟨v, rfl, hown, hb⟩
      have hr := rd8_of_owns hown
      rw [HL.out] at hr
      have c6 := (hb.cell (p := ⟨w.heap.size, 6, none⟩) (by simp)).trans C6.out
      have hB := Lib.hid (HW.out.trans (hb.mono HW.out.size))
      clear hown hb
      have hv : ∃ a c, v = .slice a l.length c := by
        rcases hr with ⟨g1, g2⟩ | ⟨b, off, cap, g1, _⟩
        · exact ⟨none, 0, by rw [g1, g2]; rfl⟩
        · exact ⟨_, _, g1⟩
      obtain ⟨a, c, rfl⟩ := hv
      clear hr h1
      go_wp2
      all_goals go_ret
      all_goals exact ⟨by rw [HF.out]; rfl, hB.out⟩
  · have HF : Hid (oneF f true = -1) := Lib.hid (by unfold oneF; rw [if_pos rfl])
    clear hsm
    go_enter Tryd.func32, Tryd.ntmps32
    go_wp2_with fail
    refine (rbytes_any f _).mono ?_
    rintro e w1 ⟨v, rfl, hown, hb⟩
    have c6 := (hb.cell (p := ⟨w.heap.size, 6, none⟩) (by simp)).trans C6.out
    have hB := Lib.hid (HW.out.trans (hb.mono HW.out.size))
    clear hown hb
    go_wp2
    go_ret
    exact ⟨by rw [HF.out]; rfl, hB.out⟩
end Go.Proofs.YtligbocnakbabaaDoor
