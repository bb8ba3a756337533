/-
  The walks of named's class, word and Dot.
-/
import Derived.Test.YtpgikkmpnbcljaaDoorClass
import Derived.Test.YtpgikkmpnbcljaaDoorBytes
namespace Go.Proofs.YtpgikkmpnbcljaaDoor
open Go.RowKit

theorem and_lit (f g : Nat → Bool) (w : World) : Calls Tryd.prog 17 #[svr f, svr g] w fun e w' => e = .returned (sv fun k => f k && g k) ∧ Below w.heap.size w w' := and_any f g w
theorem not_lit (f : Nat → Bool) (w : World) : Calls Tryd.prog 26 #[svr f] w fun e w' => e = .returned (sv fun k => !f k) ∧ Below w.heap.size w w' := not_any f w
theorem has_lit (f : Nat → Bool) (b : Nat) (hn : b < 256) (w : World) : Calls Tryd.prog 12 #[svr f, .int .u8 (b : Int)] w fun e w' => e = .returned (.bool (f b)) ∧ Below w.heap.size w w' := has_any f b hn w
theorem count_lit (f : Nat → Bool) (w : World) : Calls Tryd.prog 14 #[svr f] w fun e w' => e = .returned (.int .i64 (popTo f 0 256 : Nat)) ∧ Below w.heap.size w w' := count_any f w
/-- Of, at a slice of one byte that has just been made. -/
theorem of_one (c : Nat) (hc : c < 256) (b : Nat) (w : World) (hb : b < w.heap.size) (h : w.cell? ⟨b, 0, none⟩ = some (.int .u8 (c : Int))) :
    Calls Tryd.prog 18 #[.slice (some ⟨b, 0, none⟩) 1 1] w fun e w' => e = .returned (sv fun k => decide (k = c)) ∧ Below w.heap.size w w' := by
  refine (of_any [c] (by simpa using hc) (by unfold maxLen; simp) _ _ (.inr ⟨b, 0, 1, rfl, hb, ?_⟩)).mono ?_
  · intro j hj
    match j, hj with
    | 0, _ => simpa using h
  · rintro e w1 ⟨rfl, hb⟩
    exact ⟨by congr 1; exact sv_congr fun k _ => by simp [inl], hb⟩

set_option maxRecDepth 100000 in
set_option maxHeartbeats 1000000 in
theorem cl_any (s : ByteArray) (w : World) (hT : Tabbed w) :
    Calls Tryd.prog 24 #[.string s] w fun e w' => e = .returned (sv (clsK s 23)) ∧ Below w.heap.size w w' := by
  have b0 := isSet.newNone w
  have hT1 := Lib.hid (hT.alloc (.cells #[.int .u64 0, .int .u64 0, .int .u64 0, .int .u64 0] 25))
  go_enter Tryd.func24, Tryd.ntmps24
  go_wp2_with fail
  refine (class_any s _ hT1.out).mono ?_
  rintro e w1 ⟨rfl, hb1⟩
  have hW : Below w.heap.size w w1 := ((Below.refl _ _).alloc (Nat.le_refl _) _).trans (hb1.mono (by simp))
  have c0 := b0.below hb1 (by simp)
  have hR1 := below_set4 (c := w.heap.size) hW (Nat.le_refl _) (.int .u64 (wd (clsK s 23) 0 : Int)) (.int .u64 (wd (clsK s 23) 1 : Int)) (.int .u64 (wd (clsK s 23) 2 : Int)) (.int .u64 (wd (clsK s 23) 3 : Int))
  have hR := hR1.alloc hR1.size (.cells #[.int .u64 (wd (clsK s 23) 0 : Int), .int .u64 (wd (clsK s 23) 1 : Int), .int .u64 (wd (clsK s 23) 2 : Int), .int .u64 (wd (clsK s 23) 3 : Int)] 25)
  have z := ((c0.stored (clsK s 23)).alloc (.cells #[.int .u64 (wd (clsK s 23) 0 : Int), .int .u64 (wd (clsK s 23) 1 : Int), .int .u64 (wd (clsK s 23) 2 : Int), .int .u64 (wd (clsK s 23) 3 : Int)] 25)).cells
  have HR := Lib.hid hR
  have l1 := hW.size
  have l2 : w.heap.size < w1.heap.size := c0.lt
  obtain ⟨r0, r1, r2, r3⟩ := c0.free
  obtain ⟨q0, q1, q2, q3⟩ := c0.cells
  have Z := Lib.hid z
  clear z hR hR1 c0 b0 hT1 hW hb1
  go_wp2
  refine bodyPost_ret (v := sv (clsK s 23)) (by simp [results, Tryd.results24, go_sem, Z.out]) rfl ⟨rfl, HR.out⟩

def alnumS : ByteArray := { data := #[97, 108, 110, 117, 109] }
/-- The bytes of a word. -/
def wordF (b : Nat) : Bool := clsK alnumS 23 b || decide (b = 95)
set_option maxRecDepth 100000 in
set_option maxHeartbeats 1000000 in
theorem word_any (w : World) (hT : Tabbed w) :
    Calls Tryd.prog 25 #[] w fun e w' => e = .returned (sv wordF) ∧ Below w.heap.size w w' := by
  have b0 := isSet.newNone w
  have hT1 := Lib.hid (hT.alloc (.cells #[.int .u64 0, .int .u64 0, .int .u64 0, .int .u64 0] 25))
  go_enter Tryd.func25, Tryd.ntmps25
  go_wp2_with fail
  refine (cl_any _ _ hT1.out).mono ?_
  rintro e w1 ⟨rfl, hb1⟩
  have hW : Below w.heap.size w w1 := ((Below.refl _ _).alloc (Nat.le_refl _) _).trans (hb1.mono (by simp))
  have c0 := b0.below hb1 (by simp)
  have l1 : w.heap.size < w1.heap.size := c0.lt
  clear hb1 hT1 b0
  go_wp2_with fail
  refine (of_one 95 (by decide) _ _ (by simp) (by simp [go_sem])).mono ?_
  rintro e w2 ⟨rfl, hb2⟩
  have hW2 := (hW.alloc hW.size (.cells #[.int .u8 95] 5)).trans (hb2.mono (by simp; omega))
  have d0 := (c0.alloc (.cells #[.int .u8 95] 5)).below hb2 (by simp; omega)
  have l2 : w.heap.size < w2.heap.size := d0.lt
  clear hb2 hW c0
  go_wp2_with fail
  refine (or_lit _ _ _).mono ?_
  rw [show (fun k => clsK { data := #[97, 108, 110, 117, 109] } 23 k || decide (k = 95)) = wordF from rfl]
  rintro e w3 ⟨rfl, hb3⟩
  have hW3 := hW2.trans (hb3.mono hW2.size)
  have e0 := d0.below hb3 (by omega)
  have l3 : w.heap.size < w3.heap.size := e0.lt
  obtain ⟨r0, r1, r2, r3⟩ := e0.free
  obtain ⟨q0, q1, q2, q3⟩ := e0.cells
  have HR := Lib.hid (below_set4 (c := w.heap.size) hW3 (Nat.le_refl _) (.int .u64 (wd wordF 0 : Int)) (.int .u64 (wd wordF 1 : Int)) (.int .u64 (wd wordF 2 : Int)) (.int .u64 (wd wordF 3 : Int)))
  have Z := Lib.hid (e0.stored wordF).cells
  clear e0 hW3 hW2 d0 hb3
  go_wp2
  refine bodyPost_ret (v := sv wordF) (by simp [results, Tryd.results25, go_sem, Z.out]) rfl ⟨rfl, HR.out⟩
end Go.Proofs.YtpgikkmpnbcljaaDoor
