/-
  The walks of named's class and word.
  The walk of byteset's Not.
  The walk of byteset's Has.
-/
import Derived.Test.YtgjpmfdiidkdnaaDoorPk11
import Derived.Test.YtgjpmfdiidkdnaaDoorPk7
import Derived.Test.YtgjpmfdiidkdnaaDoorPk8
import Derived.Test.YtgjpmfdiidkdnaaDoorPk9
import Derived.Test.YtgjpmfdiidkdnaaDoorPk1
namespace Go.Proofs.YtgjpmfdiidkdnaaDoor
open Go.RowKit

set_option maxRecDepth 100000 in
set_option maxHeartbeats 1000000 in
theorem cl_any (s : ByteArray) (w : World) (hT : Tabbed w) :
    Calls Tryd.prog 73 #[.string s] w fun e w' => e = .returned (sv (clsK s 23)) ∧ Below w.heap.size w w' := by
  have b0 := isSet.newNone w
  have hT1 := Lib.hid (hT.alloc (.cells #[.int .u64 0, .int .u64 0, .int .u64 0, .int .u64 0] 32))
  go_enter Tryd.func73, Tryd.ntmps73
  go_wp2_with fail
  refine (class_any s _ hT1.out).mono ?_
  rintro e w1 ⟨rfl, hb1⟩
  have hW : Below w.heap.size w w1 := ((Below.refl _ _).alloc (Nat.le_refl _) _).trans (hb1.mono (by simp))
  have c0 := b0.below hb1 (by simp)
  have hR1 := below_set4 (c := w.heap.size) hW (Nat.le_refl _) (.int .u64 (wd (clsK s 23) 0 : Int)) (.int .u64 (wd (clsK s 23) 1 : Int)) (.int .u64 (wd (clsK s 23) 2 : Int)) (.int .u64 (wd (clsK s 23) 3 : Int))
  have hR := hR1.alloc hR1.size (.cells #[.int .u64 (wd (clsK s 23) 0 : Int), .int .u64 (wd (clsK s 23) 1 : Int), .int .u64 (wd (clsK s 23) 2 : Int), .int .u64 (wd (clsK s 23) 3 : Int)] 32)
  have z := ((c0.stored (clsK s 23)).alloc (.cells #[.int .u64 (wd (clsK s 23) 0 : Int), .int .u64 (wd (clsK s 23) 1 : Int), .int .u64 (wd (clsK s 23) 2 : Int), .int .u64 (wd (clsK s 23) 3 : Int)] 32)).cells
  have HR := Lib.hid hR
  have l1 := hW.size
  have l2 : w.heap.size < w1.heap.size := c0.lt
  obtain ⟨r0, r1, r2, r3⟩ := c0.free
  obtain ⟨q0, q1, q2, q3⟩ := c0.cells
  have Z := Lib.hid z
  clear z hR hR1 c0 b0 hT1 hW hb1
  go_wp2
  refine bodyPost_ret (v := sv (clsK s 23)) (by simp [results, Tryd.results73, go_sem, Z.out]) rfl ⟨rfl, HR.out⟩

def alnumS : ByteArray := { data := #[97, 108, 110, 117, 109] }
/-- The bytes of a word. -/
def wordF (b : Nat) : Bool := clsK alnumS 23 b || decide (b = 95)
set_option maxRecDepth 100000 in
set_option maxHeartbeats 1000000 in
theorem word_any (w : World) (hT : Tabbed w) :
    Calls Tryd.prog 74 #[] w fun e w' => e = .returned (sv wordF) ∧ Below w.heap.size w w' := by
  have b0 := isSet.newNone w
  have hT1 := Lib.hid (hT.alloc (.cells #[.int .u64 0, .int .u64 0, .int .u64 0, .int .u64 0] 32))
  go_enter Tryd.func74, Tryd.ntmps74
  go_wp2_with fail
  refine (cl_any _ _ hT1.out).mono ?_
  rintro e w1 ⟨rfl, hb1⟩
  have hW : Below w.heap.size w w1 := ((Below.refl _ _).alloc (Nat.le_refl _) _).trans (hb1.mono (by simp))
  have c0 := b0.below hb1 (by simp)
  have l1 : w.heap.size < w1.heap.size := c0.lt
  clear hb1 hT1 b0
  go_wp2_with fail
  refine (of_one 95 (by decide) _ _ (by simp) (by simp [go_sem])).mono ?_
  rintro e w2 ⟨rfl, hb2⟩
  have hW2 := (hW.alloc hW.size (.cells #[.int .u8 95] 5)).trans (hb2.mono (by simp; omega))
  have d0 := (c0.alloc (.cells #[.int .u8 95] 5)).below hb2 (by simp; omega)
  have l2 : w.heap.size < w2.heap.size := d0.lt
  clear hb2 hW c0
  go_wp2_with fail
  refine (or_lit _ _ _).mono ?_
  rw [show (fun k => clsK { data := #[97, 108, 110, 117, 109] } 23 k || decide (k = 95)) = wordF from rfl]
  rintro e w3 ⟨rfl, hb3⟩
  have hW3 := hW2.trans (hb3.mono hW2.size)
  have e0 := d0.below hb3 (by omega)
  have l3 : w.heap.size < w3.heap.size := e0.lt
  obtain ⟨r0, r1, r2, r3⟩ := e0.free
  obtain ⟨q0, q1, q2, q3⟩ := e0.cells
  have HR := Lib.hid (below_set4 (c := w.heap.size) hW3 (Nat.le_refl _) (.int .u64 (wd wordF 0 : Int)) (.int .u64 (wd wordF 1 : Int)) (.int .u64 (wd wordF 2 : Int)) (.int .u64 (wd wordF 3 : Int)))
  have Z := Lib.hid (e0.stored wordF).cells
  clear e0 hW3 hW2 d0 hb3
  go_wp2
  refine bodyPost_ret (v := sv wordF) (by simp [results, Tryd.results74, go_sem, Z.out]) rfl ⟨rfl, HR.out⟩
end Go.Proofs.YtgjpmfdiidkdnaaDoor

namespace Go.Proofs.YtgjpmfdiidkdnaaDoor
open Go.RowKit

set_option maxHeartbeats 1000000 in
theorem not_any (f : Nat → Bool) (w : World) :
    Calls Tryd.prog 43 #[sv f] w fun e w' => e = .returned (sv fun k => !f k) ∧ Below w.heap.size w w' := by
  have hs : Hid (sv (fun k => decide ((k : Int) < 256) && !f k) = sv (fun k => !f k)) := by
    apply sv_congr
    intro k hk
    have : (k : Int) < 256 := by omega
    simp [this]
  unfold sv
  go_enter Tryd.func43, Tryd.ntmps43
  go_wp2_with fail
  have hB := (Below.refl (w.heap.size + 1 + 1) ((w.alloc (.cells #[.int .u64 (wd f 0 : Int), .int .u64 (wd f 1 : Int), .int .u64 (wd f 2 : Int), .int .u64 (wd f 3 : Int)] 32)).alloc (.cells #[.int .u64 0, .int .u64 0, .int .u64 0, .int .u64 0] 32))).drew
  go_region_held3 (fun w' => w'.cell? ⟨w.heap.size, 0, none⟩ = some (.int .u64 (wd f 0 : Int)) ∧ w'.cell? ⟨w.heap.size, 1, none⟩ = some (.int .u64 (wd f 1 : Int)) ∧ w'.cell? ⟨w.heap.size, 2, none⟩ = some (.int .u64 (wd f 2 : Int)) ∧ w'.cell? ⟨w.heap.size, 3, none⟩ = some (.int .u64 (wd f 3 : Int)))
    (first | go_keep | (refine ⟨?_, ?_, ?_, ?_⟩ <;> (refine (hB.cell (p := ⟨_, _, none⟩) (by go_size)).trans ?_; simp [go_sem])))
    (first | (go_at_call 36; refine (below_any _ (by omega) (by omega) _).mono ?_; rintro e w1 ⟨rfl, hb⟩; replace hB := hB.trans (hb.mono (by go_size)); clear hb)
           | (go_at_call 35; refine (less_any _ _ _).mono ?_; rintro e w2 ⟨rfl, hb⟩; have hz1 := hB.size; simp only [World.size_alloc] at hz1; replace hB := hB.trans (hb.mono (by go_size)); clear hb; obtain ⟨hc, hf⟩ := w2of hB; have hz := hB.size; simp only [World.size_alloc] at hz))
  go_wp2
  refine bodyPost_ret (v := sv (fun k => decide ((k : Int) < 256) && !f k)) (by simp [results, Tryd.results43, go_sem, hc]) rfl ⟨by rw [hs.out] <;> rfl, ?_⟩
  iterate 4 refine Below.setCell ?_ (by go_size) _
  refine Below.trans ?_ (hB.mono (by go_size))
  go_grown
theorem not_lit (f : Nat → Bool) (w : World) : Calls Tryd.prog 43 #[svr f] w fun e w' => e = .returned (sv fun k => !f k) ∧ Below w.heap.size w w' := not_any f w
end Go.Proofs.YtgjpmfdiidkdnaaDoor

namespace Go.Proofs.YtgjpmfdiidkdnaaDoor
open Go.RowKit

set_option maxHeartbeats 1000000 in
theorem has_any (f : Nat → Bool) (b : Nat) (hn : b < 256) (w : World) :
    Calls Tryd.prog 47 #[sv f, .int .u8 (b : Int)] w fun e w' => e = .returned (.bool (f b)) ∧ Below w.heap.size w w' := by
  have W := word_has f
  have q : b / 64 = 0 ∨ b / 64 = 1 ∨ b / 64 = 2 ∨ b / 64 = 3 := by omega
  have key : ∀ i, b / 64 = i → Hid ((bits .and .u64 ((wd f i : Int) / 2 ^ (b % 64)) 1 == 1) = f b) := fun i hi => by
    have := W i (b % 64) (by omega)
    rw [show 64 * i + b % 64 = b from by omega] at this
    exact this
  clear W
  unfold sv
  rcases q with q | q | q | q
  · have key' := key _ q
    clear key
    have q' : (b : Int) / 64 = 0 := by omega
    clear q
    go_enter Tryd.func47, Tryd.ntmps47
    go_wp2
    go_ret
    exact ⟨by rw [← key'.out] <;> rfl, by go_grown⟩
  · have key' := key _ q
    clear key
    have q' : (b : Int) / 64 = 1 := by omega
    clear q
    go_enter Tryd.func47, Tryd.ntmps47
    go_wp2
    go_ret
    exact ⟨by rw [← key'.out] <;> rfl, by go_grown⟩
  · have key' := key _ q
    clear key
    have q' : (b : Int) / 64 = 2 := by omega
    clear q
    go_enter Tryd.func47, Tryd.ntmps47
    go_wp2
    go_ret
    exact ⟨by rw [← key'.out] <;> rfl, by go_grown⟩
  · have key' := key _ q
    clear key
    have q' : (b : Int) / 64 = 3 := by omega
    clear q
    go_enter Tryd.func47, Tryd.ntmps47
    go_wp2
    go_ret
    exact ⟨by rw [← key'.out] <;> rfl, by go_grown⟩
theorem has_lit (f : Nat → Bool) (b : Nat) (hn : b < 256) (w : World) : Calls Tryd.prog 47 #[svr f, .int .u8 (b : Int)] w fun e w' => e = .returned (.bool (f b)) ∧ Below w.heap.size w w' := has_any f b hn w
end Go.Proofs.YtgjpmfdiidkdnaaDoor
