/-
  The walk of the reference's Join.
-/
import Derived.Test.YtiahgcgpakgeeaaGreatDoorPk11
import Derived.Test.YtiahgcgpakgeeaaGreatDoorPk8
namespace Go.Proofs.YtiahgcgpakgeeaaGreatDoor
open Go.RowKit

/-- What Join puts: kind 0: in either; 1: in both; 2: in the first one alone. -/
def sel (kind : Nat) (x y : Bool) : Bool := match kind with
  | 0 => x || y
  | 1 => x && y
  | _ => x && !y
/-- .. of the numbers below k. -/
def joinTo (kind : Nat) (f g : Nat → Bool) (k x : Nat) : Bool := decide (x < k) && sel kind (f x) (g x)
theorem joinTo_hit (kind : Nat) (f g : Nat → Bool) (k : Nat) (h : sel kind (f k) (g k) = true) : put (joinTo kind f g k) k = joinTo kind f g (k + 1) := by
  funext x
  unfold put joinTo
  by_cases hx : x = k
  · subst hx; simp [h]
  · by_cases h1 : x < k
    · have : x < k + 1 := by omega
      simp [h1, this, hx]
    · have : ¬ x < k + 1 := by omega
      simp [h1, this, hx]
theorem joinTo_miss (kind : Nat) (f g : Nat → Bool) (k : Nat) (h : sel kind (f k) (g k) = false) : joinTo kind f g k = joinTo kind f g (k + 1) := by
  funext x
  unfold joinTo
  by_cases hx : x = k
  · subst hx; simp [h]
  · by_cases h1 : x < k
    · have : x < k + 1 := by omega
      simp [h1, this]
    · have : ¬ x < k + 1 := by omega
      simp [h1, this]

/-- The state of Join's loop, k numbers on. -/
def joinR (kind : Nat) (f g : Nat → Bool) (w : World) (k : Nat) (wr : World) : Prop :=
  isSet wr w.heap.size f ∧ isSet wr (w.heap.size + 1) g ∧ isSet wr (w.heap.size + 1 + 1) (fun _ => false) ∧ isSet wr (w.heap.size + 1 + 1 + 1) (joinTo kind f g k) ∧ Below w.heap.size w wr
theorem joinR_start (kind : Nat) (f g : Nat → Bool) (w : World) : joinR kind f g w 0 ((((w.alloc (.cells #[.int .u64 (wd f 0 : Int), .int .u64 (wd f 1 : Int), .int .u64 (wd f 2 : Int), .int .u64 (wd f 3 : Int)] 36)).alloc (.cells #[.int .u64 (wd g 0 : Int), .int .u64 (wd g 1 : Int), .int .u64 (wd g 2 : Int), .int .u64 (wd g 3 : Int)] 36)).alloc
    (.cells #[.int .u64 0, .int .u64 0, .int .u64 0, .int .u64 0] 36)).alloc (.cells #[.int .u64 0, .int .u64 0, .int .u64 0, .int .u64 0] 36)) := by
  have h0 : joinTo kind f g 0 = fun _ => false := by funext x; simp [joinTo]
  refine ⟨(((isSet.new w f).alloc _).alloc _).alloc _, ?_, ?_, ?_, ((((Below.refl _ _).alloc (Nat.le_refl _) _).alloc (by simp) _).alloc (by simp; omega) _).alloc (by simp; omega) _⟩
  · have := ((isSet.new (w.alloc (.cells #[.int .u64 (wd f 0 : Int), .int .u64 (wd f 1 : Int), .int .u64 (wd f 2 : Int), .int .u64 (wd f 3 : Int)] 36)) g).alloc (.cells #[.int .u64 0, .int .u64 0, .int .u64 0, .int .u64 0] 36)).alloc (.cells #[.int .u64 0, .int .u64 0, .int .u64 0, .int .u64 0] 36)
    simpa only [World.size_alloc] using this
  · have := (isSet.newNone ((w.alloc (.cells #[.int .u64 (wd f 0 : Int), .int .u64 (wd f 1 : Int), .int .u64 (wd f 2 : Int), .int .u64 (wd f 3 : Int)] 36)).alloc (.cells #[.int .u64 (wd g 0 : Int), .int .u64 (wd g 1 : Int), .int .u64 (wd g 2 : Int), .int .u64 (wd g 3 : Int)] 36))).alloc (.cells #[.int .u64 0, .int .u64 0, .int .u64 0, .int .u64 0] 36)
    simpa only [World.size_alloc] using this
  · rw [h0]
    have := isSet.newNone (((w.alloc (.cells #[.int .u64 (wd f 0 : Int), .int .u64 (wd f 1 : Int), .int .u64 (wd f 2 : Int), .int .u64 (wd f 3 : Int)] 36)).alloc (.cells #[.int .u64 (wd g 0 : Int), .int .u64 (wd g 1 : Int), .int .u64 (wd g 2 : Int), .int .u64 (wd g 3 : Int)] 36)).alloc (.cells #[.int .u64 0, .int .u64 0, .int .u64 0, .int .u64 0] 36))
    simpa only [World.size_alloc] using this

set_option maxRecDepth 100000 in
set_option maxHeartbeats 4000000 in
theorem rjoin0_any (f g : Nat → Bool) (w : World) :
    Calls Tryz.prog 40 #[sv f, sv g, .int .i64 0] w fun e w' => e = .returned (sv fun k => f k || g k) ∧ Below w.heap.size w w' := by
  have hst := joinR_start 0 f g w
  have hsv : Hid (sv (joinTo 0 f g 256) = sv (fun k => f k || g k)) := sv_congr fun k hk => by simp [joinTo, sel, hk]
  unfold sv
  go_enter Tryz.func40, Tryz.ntmps40
  go_wp2
  go_loopw [8] (fun i wr => ∃ k : Nat, k ≤ 256 ∧ i = .int .i64 k ∧ joinR 0 f g w k wr) (fun i _ => 256 - (intOf i).toNat)
  case atStart => exact ⟨0, Nat.zero_le _, rfl, hst⟩
  case round =>
    obtain ⟨k, hk, rfl, b0, b1, b2, b3, hB0⟩ := hrel
    clear hst
    have hS := And.intro b0.cells b1.cells
    have l0 := b0.lt; have l1 := b1.lt; have l2 := b2.lt; have l3 := b3.lt
    by_cases hlt : k < 256
    · have hB := (Below.refl wr.heap.size wr).drew
      cases hf : f k
      · cases hg : g k
        · have Hf := Lib.hid hf; have Hg := Lib.hid hg
          clear hf hg
          go_wp2_with fail
          go_region_held3 (fun w' => (w'.cell? ⟨w.heap.size, 0, none⟩ = some (.int .u64 (wd f 0 : Int)) ∧ w'.cell? ⟨w.heap.size, 1, none⟩ = some (.int .u64 (wd f 1 : Int)) ∧ w'.cell? ⟨w.heap.size, 2, none⟩ = some (.int .u64 (wd f 2 : Int)) ∧ w'.cell? ⟨w.heap.size, 3, none⟩ = some (.int .u64 (wd f 3 : Int))) ∧
              (w'.cell? ⟨w.heap.size + 1, 0, none⟩ = some (.int .u64 (wd g 0 : Int)) ∧ w'.cell? ⟨w.heap.size + 1, 1, none⟩ = some (.int .u64 (wd g 1 : Int)) ∧ w'.cell? ⟨w.heap.size + 1, 2, none⟩ = some (.int .u64 (wd g 2 : Int)) ∧ w'.cell? ⟨w.heap.size + 1, 3, none⟩ = some (.int .u64 (wd g 3 : Int))))
            (first | exact ⟨(b0.below hB l0).cells, (b1.below hB l1).cells⟩ | go_keep)
            (first | (go_at_call 55; refine (rhas_any _ k (by omega) (by omega) _).mono ?_; rw [Int.toNat_natCast]; rintro e wk ⟨rfl, hb⟩; (first | rw [Hf.out] | rw [Hg.out]); replace hB := hB.trans (hb.mono hB.size); clear hb))
          rename_i hHeld
          clear hHeld
          have c0 := b0.below hB l0; have c1 := b1.below hB l1; have c2 := b2.below hB l2; have c3 := b3.below hB l3
          rw [joinTo_miss 0 f g k (by rw [Hf.out, Hg.out]; rfl)] at c3
          have hR : Below w.heap.size w wk := hB0.trans (hB.mono hB0.size)
          clear b0 b1 b2 b3 hB hB0 hS
          go_wp2
          go_roundw
          case rel => exact ⟨k + 1, by omega, by go_num, c0, c1, c2, c3, hR⟩
          case measure => simp [intOf]; omega
        · have Hf := Lib.hid hf; have Hg := Lib.hid hg
          clear hf hg
          go_wp2_with fail
          go_region_held3 (fun w' => (w'.cell? ⟨w.heap.size, 0, none⟩ = some (.int .u64 (wd f 0 : Int)) ∧ w'.cell? ⟨w.heap.size, 1, none⟩ = some (.int .u64 (wd f 1 : Int)) ∧ w'.cell? ⟨w.heap.size, 2, none⟩ = some (.int .u64 (wd f 2 : Int)) ∧ w'.cell? ⟨w.heap.size, 3, none⟩ = some (.int .u64 (wd f 3 : Int))) ∧
              (w'.cell? ⟨w.heap.size + 1, 0, none⟩ = some (.int .u64 (wd g 0 : Int)) ∧ w'.cell? ⟨w.heap.size + 1, 1, none⟩ = some (.int .u64 (wd g 1 : Int)) ∧ w'.cell? ⟨w.heap.size + 1, 2, none⟩ = some (.int .u64 (wd g 2 : Int)) ∧ w'.cell? ⟨w.heap.size + 1, 3, none⟩ = some (.int .u64 (wd g 3 : Int))))
            (first | exact ⟨(b0.below hB l0).cells, (b1.below hB l1).cells⟩ | go_keep)
            (first | (go_at_call 55; refine (rhas_any _ k (by omega) (by omega) _).mono ?_; rw [Int.toNat_natCast]; rintro e wk ⟨rfl, hb⟩; (first | rw [Hf.out] | rw [Hg.out]); replace hB := hB.trans (hb.mono hB.size); clear hb))
          rename_i hHeld
          clear hHeld
          have c0 := b0.below hB l0; have c1 := b1.below hB l1; have c2 := b2.below hB l2; have c3 := b3.below hB l3
          have hR : Below w.heap.size w wk := hB0.trans (hB.mono hB0.size)
          clear b0 b1 b2 b3 hB hB0 hS l0 l1 l2 l3
          have l0 := c0.lt; have l1 := c1.lt; have l2 := c2.lt; have l3 := c3.lt
          obtain ⟨q0, q1, q2, q3⟩ := c3.cells
          go_wp2_with fail
          refine (rput_any (joinTo 0 f g k) k (by omega) (by omega) _).mono ?_
          rw [Int.toNat_natCast]
          rintro e wp ⟨rfl, hb⟩
          rw [joinTo_hit 0 f g k (by rw [Hf.out, Hg.out]; rfl)]
          have d0 := c0.below hb l0; have d1 := c1.below hb l1; have d2 := c2.below hb l2; have d3 := c3.below hb l3
          have hR2 : Below w.heap.size w wp := hR.trans (hb.mono hR.size)
          clear c0 c1 c2 c3 hR hb q0 q1 q2 q3 l0 l1 l2 l3
          obtain ⟨q0, q1, q2, q3⟩ := d3.cells
          obtain ⟨r0, r1, r2, r3⟩ := d3.free
          have z0 := d0.other4 (c := w.heap.size + 1 + 1 + 1) (by omega) (.int .u64 (wd (joinTo 0 f g (k + 1)) 0 : Int)) (.int .u64 (wd (joinTo 0 f g (k + 1)) 1 : Int)) (.int .u64 (wd (joinTo 0 f g (k + 1)) 2 : Int)) (.int .u64 (wd (joinTo 0 f g (k + 1)) 3 : Int))
          have z1 := d1.other4 (c := w.heap.size + 1 + 1 + 1) (by omega) (.int .u64 (wd (joinTo 0 f g (k + 1)) 0 : Int)) (.int .u64 (wd (joinTo 0 f g (k + 1)) 1 : Int)) (.int .u64 (wd (joinTo 0 f g (k + 1)) 2 : Int)) (.int .u64 (wd (joinTo 0 f g (k + 1)) 3 : Int))
          have z2 := d2.other4 (c := w.heap.size + 1 + 1 + 1) (by omega) (.int .u64 (wd (joinTo 0 f g (k + 1)) 0 : Int)) (.int .u64 (wd (joinTo 0 f g (k + 1)) 1 : Int)) (.int .u64 (wd (joinTo 0 f g (k + 1)) 2 : Int)) (.int .u64 (wd (joinTo 0 f g (k + 1)) 3 : Int))
          have z3 := d3.stored (joinTo 0 f g (k + 1))
          have hR3 := below_set4 (c := w.heap.size + 1 + 1 + 1) hR2 (by omega) (.int .u64 (wd (joinTo 0 f g (k + 1)) 0 : Int)) (.int .u64 (wd (joinTo 0 f g (k + 1)) 1 : Int)) (.int .u64 (wd (joinTo 0 f g (k + 1)) 2 : Int)) (.int .u64 (wd (joinTo 0 f g (k + 1)) 3 : Int))
          clear d0 d1 d2 d3 hR2
          go_wp2
          go_roundw
          case rel => exact ⟨k + 1, by omega, by go_num, z0, z1, z2, z3, hR3⟩
          case measure => simp [intOf]; omega
      · cases hg : g k
        · have Hf := Lib.hid hf; have Hg := Lib.hid hg
          clear hf hg
          go_wp2_with fail
          go_region_held3 (fun w' => (w'.cell? ⟨w.heap.size, 0, none⟩ = some (.int .u64 (wd f 0 : Int)) ∧ w'.cell? ⟨w.heap.size, 1, none⟩ = some (.int .u64 (wd f 1 : Int)) ∧ w'.cell? ⟨w.heap.size, 2, none⟩ = some (.int .u64 (wd f 2 : Int)) ∧ w'.cell? ⟨w.heap.size, 3, none⟩ = some (.int .u64 (wd f 3 : Int))) ∧
              (w'.cell? ⟨w.heap.size + 1, 0, none⟩ = some (.int .u64 (wd g 0 : Int)) ∧ w'.cell? ⟨w.heap.size + 1, 1, none⟩ = some (.int .u64 (wd g 1 : Int)) ∧ w'.cell? ⟨w.heap.size + 1, 2, none⟩ = some (.int .u64 (wd g 2 : Int)) ∧ w'.cell? ⟨w.heap.size + 1, 3, none⟩ = some (.int .u64 (wd g 3 : Int))))
            (first | exact ⟨(b0.below hB l0).cells, (b1.below hB l1).cells⟩ | go_keep)
            (first | (go_at_call 55; refine (rhas_any _ k (by omega) (by omega) _).mono ?_; rw [Int.toNat_natCast]; rintro e wk ⟨rfl, hb⟩; (first | rw [Hf.out] | rw [Hg.out]); replace hB := hB.trans (hb.mono hB.size); clear hb))
          rename_i hHeld
          clear hHeld
          have c0 := b0.below hB l0; have c1 := b1.below hB l1; have c2 := b2.below hB l2; have c3 := b3.below hB l3
          have hR : Below w.heap.size w wk := hB0.trans (hB.mono hB0.size)
          clear b0 b1 b2 b3 hB hB0 hS l0 l1 l2 l3
          have l0 := c0.lt; have l1 := c1.lt; have l2 := c2.lt; have l3 := c3.lt
          obtain ⟨q0, q1, q2, q3⟩ := c3.cells
          go_wp2_with fail
          refine (rput_any (joinTo 0 f g k) k (by omega) (by omega) _).mono ?_
          rw [Int.toNat_natCast]
          rintro e wp ⟨rfl, hb⟩
          rw [joinTo_hit 0 f g k (by rw [Hf.out, Hg.out]; rfl)]
          have d0 := c0.below hb l0; have d1 := c1.below hb l1; have d2 := c2.below hb l2; have d3 := c3.below hb l3
          have hR2 : Below w.heap.size w wp := hR.trans (hb.mono hR.size)
          clear c0 c1 c2 c3 hR hb q0 q1 q2 q3 l0 l1 l2 l3
          obtain ⟨q0, q1, q2, q3⟩ := d3.cells
          obtain ⟨r0, r1, r2, r3⟩ := d3.free
          have z0 := d0.other4 (c := w.heap.size + 1 + 1 + 1) (by omega) (.int .u64 (wd (joinTo 0 f g (k + 1)) 0 : Int)) (.int .u64 (wd (joinTo 0 f g (k + 1)) 1 : Int)) (.int .u64 (wd (joinTo 0 f g (k + 1)) 2 : Int)) (.int .u64 (wd (joinTo 0 f g (k + 1)) 3 : Int))
          have z1 := d1.other4 (c := w.heap.size + 1 + 1 + 1) (by omega) (.int .u64 (wd (joinTo 0 f g (k + 1)) 0 : Int)) (.int .u64 (wd (joinTo 0 f g (k + 1)) 1 : Int)) (.int .u64 (wd (joinTo 0 f g (k + 1)) 2 : Int)) (.int .u64 (wd (joinTo 0 f g (k + 1)) 3 : Int))
          have z2 := d2.other4 (c := w.heap.size + 1 + 1 + 1) (by omega) (.int .u64 (wd (joinTo 0 f g (k + 1)) 0 : Int)) (.int .u64 (wd (joinTo 0 f g (k + 1)) 1 : Int)) (.int .u64 (wd (joinTo 0 f g (k + 1)) 2 : Int)) (.int .u64 (wd (joinTo 0 f g (k + 1)) 3 : Int))
          have z3 := d3.stored (joinTo 0 f g (k + 1))
          have hR3 := below_set4 (c := w.heap.size + 1 + 1 + 1) hR2 (by omega) (.int .u64 (wd (joinTo 0 f g (k + 1)) 0 : Int)) (.int .u64 (wd (joinTo 0 f g (k + 1)) 1 : Int)) (.int .u64 (wd (joinTo 0 f g (k + 1)) 2 : Int)) (.int .u64 (wd (joinTo 0 f g (k + 1)) 3 : Int))
          clear d0 d1 d2 d3 hR2
          go_wp2
          go_roundw
          case rel => exact ⟨k + 1, by omega, by go_num, z0, z1, z2, z3, hR3⟩
          case measure => simp [intOf]; omega
        · have Hf := Lib.hid hf; have Hg := Lib.hid hg
          clear hf hg
          go_wp2_with fail
          go_region_held3 (fun w' => (w'.cell? ⟨w.heap.size, 0, none⟩ = some (.int .u64 (wd f 0 : Int)) ∧ w'.cell? ⟨w.heap.size, 1, none⟩ = some (.int .u64 (wd f 1 : Int)) ∧ w'.cell? ⟨w.heap.size, 2, none⟩ = some (.int .u64 (wd f 2 : Int)) ∧ w'.cell? ⟨w.heap.size, 3, none⟩ = some (.int .u64 (wd f 3 : Int))) ∧
              (w'.cell? ⟨w.heap.size + 1, 0, none⟩ = some (.int .u64 (wd g 0 : Int)) ∧ w'.cell? ⟨w.heap.size + 1, 1, none⟩ = some (.int .u64 (wd g 1 : Int)) ∧ w'.cell? ⟨w.heap.size + 1, 2, none⟩ = some (.int .u64 (wd g 2 : Int)) ∧ w'.cell? ⟨w.heap.size + 1, 3, none⟩ = some (.int .u64 (wd g 3 : Int))))
            (first | exact ⟨(b0.below hB l0).cells, (b1.below hB l1).cells⟩ | go_keep)
            (first | (go_at_call 55; refine (rhas_any _ k (by omega) (by omega) _).mono ?_; rw [Int.toNat_natCast]; rintro e wk ⟨rfl, hb⟩; (first | rw [Hf.out] | rw [Hg.out]); replace hB := hB.trans (hb.mono hB.size); clear hb))
          rename_i hHeld
          clear hHeld
          have c0 := b0.below hB l0; have c1 := b1.below hB l1; have c2 := b2.below hB l2; have c3 := b3.below hB l3
          have hR : Below w.heap.size w wk := hB0.trans (hB.mono hB0.size)
          clear b0 b1 b2 b3 hB hB0 hS l0 l1 l2 l3
          have l0 := c0.lt; have l1 := c1.lt; have l2 := c2.lt; have l3 := c3.lt
          obtain ⟨q0, q1, q2, q3⟩ := c3.cells
          go_wp2_with fail
          refine (rput_any (joinTo 0 f g k) k (by omega) (by omega) _).mono ?_
          rw [Int.toNat_natCast]
          rintro e wp ⟨rfl, hb⟩
          rw [joinTo_hit 0 f g k (by rw [Hf.out, Hg.out]; rfl)]
          have d0 := c0.below hb l0; have d1 := c1.below hb l1; have d2 := c2.below hb l2; have d3 := c3.below hb l3
          have hR2 : Below w.heap.size w wp := hR.trans (hb.mono hR.size)
          clear c0 c1 c2 c3 hR hb q0 q1 q2 q3 l0 l1 l2 l3
          obtain ⟨q0, q1, q2, q3⟩ := d3.cells
          obtain ⟨r0, r1, r2, r3⟩ := d3.free
          have z0 := d0.other4 (c := w.heap.size + 1 + 1 + 1) (by omega) (.int .u64 (wd (joinTo 0 f g (k + 1)) 0 : Int)) (.int .u64 (wd (joinTo 0 f g (k + 1)) 1 : Int)) (.int .u64 (wd (joinTo 0 f g (k + 1)) 2 : Int)) (.int .u64 (wd (joinTo 0 f g (k + 1)) 3 : Int))
          have z1 := d1.other4 (c := w.heap.size + 1 + 1 + 1) (by omega) (.int .u64 (wd (joinTo 0 f g (k + 1)) 0 : Int)) (.int .u64 (wd (joinTo 0 f g (k + 1)) 1 : Int)) (.int .u64 (wd (joinTo 0 f g (k + 1)) 2 : Int)) (.int .u64 (wd (joinTo 0 f g (k + 1)) 3 : Int))
          have z2 := d2.other4 (c := w.heap.size + 1 + 1 + 1) (by omega) (.int .u64 (wd (joinTo 0 f g (k + 1)) 0 : Int)) (.int .u64 (wd (joinTo 0 f g (k + 1)) 1 : Int)) (.int .u64 (wd (joinTo 0 f g (k + 1)) 2 : Int)) (.int .u64 (wd (joinTo 0 f g (k + 1)) 3 : Int))
          have z3 := d3.stored (joinTo 0 f g (k + 1))
          have hR3 := below_set4 (c := w.heap.size + 1 + 1 + 1) hR2 (by omega) (.int .u64 (wd (joinTo 0 f g (k + 1)) 0 : Int)) (.int .u64 (wd (joinTo 0 f g (k + 1)) 1 : Int)) (.int .u64 (wd (joinTo 0 f g (k + 1)) 2 : Int)) (.int .u64 (wd (joinTo 0 f g (k + 1)) 3 : Int))
          clear d0 d1 d2 d3 hR2
          go_wp2
          go_roundw
          case rel => exact ⟨k + 1, by omega, by go_num, z0, z1, z2, z3, hR3⟩
          case measure => simp [intOf]; omega
    · obtain rfl : k = 256 := by omega
      obtain ⟨q0, q1, q2, q3⟩ := b3.cells
      obtain ⟨q4, q5, q6, q7⟩ := b2.cells
      obtain ⟨r0, r1, r2, r3⟩ := b2.free
      have hR3 := below_set4 (c := w.heap.size + 1 + 1) hB0 (by omega) (.int .u64 (wd (joinTo 0 f g 256) 0 : Int)) (.int .u64 (wd (joinTo 0 f g 256) 1 : Int)) (.int .u64 (wd (joinTo 0 f g 256) 2 : Int)) (.int .u64 (wd (joinTo 0 f g 256) 3 : Int))
      have z2 := (b2.stored (joinTo 0 f g 256)).cells
      clear hS hB0 b0 b1 b2 b3
      go_wp2
      refine bodyPost_ret (v := sv (joinTo 0 f g 256)) (by simp [results, Tryz.results40, go_sem, z2]) rfl ⟨by rw [hsv.out] <;> rfl, hR3⟩

set_option maxRecDepth 100000 in
set_option maxHeartbeats 4000000 in
theorem rjoin1_any (f g : Nat → Bool) (w : World) :
    Calls Tryz.prog 40 #[sv f, sv g, .int .i64 1] w fun e w' => e = .returned (sv fun k => f k && g k) ∧ Below w.heap.size w w' := by
  have hst := joinR_start 1 f g w
  have hsv : Hid (sv (joinTo 1 f g 256) = sv (fun k => f k && g k)) := sv_congr fun k hk => by simp [joinTo, sel, hk]
  unfold sv
  go_enter Tryz.func40, Tryz.ntmps40
  go_wp2
  go_loopw [8] (fun i wr => ∃ k : Nat, k ≤ 256 ∧ i = .int .i64 k ∧ joinR 1 f g w k wr) (fun i _ => 256 - (intOf i).toNat)
  case atStart => exact ⟨0, Nat.zero_le _, rfl, hst⟩
  case round =>
    obtain ⟨k, hk, rfl, b0, b1, b2, b3, hB0⟩ := hrel
    clear hst
    have hS := And.intro b0.cells b1.cells
    have l0 := b0.lt; have l1 := b1.lt; have l2 := b2.lt; have l3 := b3.lt
    by_cases hlt : k < 256
    · have hB := (Below.refl wr.heap.size wr).drew
      cases hf : f k
      · cases hg : g k
        · have Hf := Lib.hid hf; have Hg := Lib.hid hg
          clear hf hg
          go_wp2_with fail
          go_region_held3 (fun w' => (w'.cell? ⟨w.heap.size, 0, none⟩ = some (.int .u64 (wd f 0 : Int)) ∧ w'.cell? ⟨w.heap.size, 1, none⟩ = some (.int .u64 (wd f 1 : Int)) ∧ w'.cell? ⟨w.heap.size, 2, none⟩ = some (.int .u64 (wd f 2 : Int)) ∧ w'.cell? ⟨w.heap.size, 3, none⟩ = some (.int .u64 (wd f 3 : Int))) ∧
              (w'.cell? ⟨w.heap.size + 1, 0, none⟩ = some (.int .u64 (wd g 0 : Int)) ∧ w'.cell? ⟨w.heap.size + 1, 1, none⟩ = some (.int .u64 (wd g 1 : Int)) ∧ w'.cell? ⟨w.heap.size + 1, 2, none⟩ = some (.int .u64 (wd g 2 : Int)) ∧ w'.cell? ⟨w.heap.size + 1, 3, none⟩ = some (.int .u64 (wd g 3 : Int))))
            (first | exact ⟨(b0.below hB l0).cells, (b1.below hB l1).cells⟩ | go_keep)
            (first | (go_at_call 55; refine (rhas_any _ k (by omega) (by omega) _).mono ?_; rw [Int.toNat_natCast]; rintro e wk ⟨rfl, hb⟩; (first | rw [Hf.out] | rw [Hg.out]); replace hB := hB.trans (hb.mono hB.size); clear hb))
          rename_i hHeld
          clear hHeld
          have c0 := b0.below hB l0; have c1 := b1.below hB l1; have c2 := b2.below hB l2; have c3 := b3.below hB l3
          rw [joinTo_miss 1 f g k (by rw [Hf.out, Hg.out]; rfl)] at c3
          have hR : Below w.heap.size w wk := hB0.trans (hB.mono hB0.size)
          clear b0 b1 b2 b3 hB hB0 hS
          go_wp2
          go_roundw
          case rel => exact ⟨k + 1, by omega, by go_num, c0, c1, c2, c3, hR⟩
          case measure => simp [intOf]; omega
        · have Hf := Lib.hid hf; have Hg := Lib.hid hg
          clear hf hg
          go_wp2_with fail
          go_region_held3 (fun w' => (w'.cell? ⟨w.heap.size, 0, none⟩ = some (.int .u64 (wd f 0 : Int)) ∧ w'.cell? ⟨w.heap.size, 1, none⟩ = some (.int .u64 (wd f 1 : Int)) ∧ w'.cell? ⟨w.heap.size, 2, none⟩ = some (.int .u64 (wd f 2 : Int)) ∧ w'.cell? ⟨w.heap.size, 3, none⟩ = some (.int .u64 (wd f 3 : Int))) ∧
              (w'.cell? ⟨w.heap.size + 1, 0, none⟩ = some (.int .u64 (wd g 0 : Int)) ∧ w'.cell? ⟨w.heap.size + 1, 1, none⟩ = some (.int .u64 (wd g 1 : Int)) ∧ w'.cell? ⟨w.heap.size + 1, 2, none⟩ = some (.int .u64 (wd g 2 : Int)) ∧ w'.cell? ⟨w.heap.size + 1, 3, none⟩ = some (.int .u64 (wd g 3 : Int))))
            (first | exact ⟨(b0.below hB l0).cells, (b1.below hB l1).cells⟩ | go_keep)
            (first | (go_at_call 55; refine (rhas_any _ k (by omega) (by omega) _).mono ?_; rw [Int.toNat_natCast]; rintro e wk ⟨rfl, hb⟩; (first | rw [Hf.out] | rw [Hg.out]); replace hB := hB.trans (hb.mono hB.size); clear hb))
          rename_i hHeld
          clear hHeld
          have c0 := b0.below hB l0; have c1 := b1.below hB l1; have c2 := b2.below hB l2; have c3 := b3.below hB l3
          rw [joinTo_miss 1 f g k (by rw [Hf.out, Hg.out]; rfl)] at c3
          have hR : Below w.heap.size w wk := hB0.trans (hB.mono hB0.size)
          clear b0 b1 b2 b3 hB hB0 hS
          go_wp2
          go_roundw
          case rel => exact ⟨k + 1, by omega, by go_num, c0, c1, c2, c3, hR⟩
          case measure => simp [intOf]; omega
      · cases hg : g k
        · have Hf := Lib.hid hf; have Hg := Lib.hid hg
          clear hf hg
          go_wp2_with fail
          go_region_held3 (fun w' => (w'.cell? ⟨w.heap.size, 0, none⟩ = some (.int .u64 (wd f 0 : Int)) ∧ w'.cell? ⟨w.heap.size, 1, none⟩ = some (.int .u64 (wd f 1 : Int)) ∧ w'.cell? ⟨w.heap.size, 2, none⟩ = some (.int .u64 (wd f 2 : Int)) ∧ w'.cell? ⟨w.heap.size, 3, none⟩ = some (.int .u64 (wd f 3 : Int))) ∧
              (w'.cell? ⟨w.heap.size + 1, 0, none⟩ = some (.int .u64 (wd g 0 : Int)) ∧ w'.cell? ⟨w.heap.size + 1, 1, none⟩ = some (.int .u64 (wd g 1 : Int)) ∧ w'.cell? ⟨w.heap.size + 1, 2, none⟩ = some (.int .u64 (wd g 2 : Int)) ∧ w'.cell? ⟨w.heap.size + 1, 3, none⟩ = some (.int .u64 (wd g 3 : Int))))
            (first | exact ⟨(b0.below hB l0).cells, (b1.below hB l1).cells⟩ | go_keep)
            (first | (go_at_call 55; refine (rhas_any _ k (by omega) (by omega) _).mono ?_; rw [Int.toNat_natCast]; rintro e wk ⟨rfl, hb⟩; (first | rw [Hf.out] | rw [Hg.out]); replace hB := hB.trans (hb.mono hB.size); clear hb))
          rename_i hHeld
          clear hHeld
          have c0 := b0.below hB l0; have c1 := b1.below hB l1; have c2 := b2.below hB l2; have c3 := b3.below hB l3
          rw [joinTo_miss 1 f g k (by rw [Hf.out, Hg.out]; rfl)] at c3
          have hR : Below w.heap.size w wk := hB0.trans (hB.mono hB0.size)
          clear b0 b1 b2 b3 hB hB0 hS
          go_wp2
          go_roundw
          case rel => exact ⟨k + 1, by omega, by go_num, c0, c1, c2, c3, hR⟩
          case measure => simp [intOf]; omega
        · have Hf := Lib.hid hf; have Hg := Lib.hid hg
          clear hf hg
          go_wp2_with fail
          go_region_held3 (fun w' => (w'.cell? ⟨w.heap.size, 0, none⟩ = some (.int .u64 (wd f 0 : Int)) ∧ w'.cell? ⟨w.heap.size, 1, none⟩ = some (.int .u64 (wd f 1 : Int)) ∧ w'.cell? ⟨w.heap.size, 2, none⟩ = some (.int .u64 (wd f 2 : Int)) ∧ w'.cell? ⟨w.heap.size, 3, none⟩ = some (.int .u64 (wd f 3 : Int))) ∧
              (w'.cell? ⟨w.heap.size + 1, 0, none⟩ = some (.int .u64 (wd g 0 : Int)) ∧ w'.cell? ⟨w.heap.size + 1, 1, none⟩ = some (.int .u64 (wd g 1 : Int)) ∧ w'.cell? ⟨w.heap.size + 1, 2, none⟩ = some (.int .u64 (wd g 2 : Int)) ∧ w'.cell? ⟨w.heap.size + 1, 3, none⟩ = some (.int .u64 (wd g 3 : Int))))
            (first | exact ⟨(b0.below hB l0).cells, (b1.below hB l1).cells⟩ | go_keep)
            (first | (go_at_call 55; refine (rhas_any _ k (by omega) (by omega) _).mono ?_; rw [Int.toNat_natCast]; rintro e wk ⟨rfl, hb⟩; (first | rw [Hf.out] | rw [Hg.out]); replace hB := hB.trans (hb.mono hB.size); clear hb))
          rename_i hHeld
          clear hHeld
          have c0 := b0.below hB l0; have c1 := b1.below hB l1; have c2 := b2.below hB l2; have c3 := b3.below hB l3
          have hR : Below w.heap.size w wk := hB0.trans (hB.mono hB0.size)
          clear b0 b1 b2 b3 hB hB0 hS l0 l1 l2 l3
          have l0 := c0.lt; have l1 := c1.lt; have l2 := c2.lt; have l3 := c3.lt
          obtain ⟨q0, q1, q2, q3⟩ := c3.cells
          go_wp2_with fail
          refine (rput_any (joinTo 1 f g k) k (by omega) (by omega) _).mono ?_
          rw [Int.toNat_natCast]
          rintro e wp ⟨rfl, hb⟩
          rw [joinTo_hit 1 f g k (by rw [Hf.out, Hg.out]; rfl)]
          have d0 := c0.below hb l0; have d1 := c1.below hb l1; have d2 := c2.below hb l2; have d3 := c3.below hb l3
          have hR2 : Below w.heap.size w wp := hR.trans (hb.mono hR.size)
          clear c0 c1 c2 c3 hR hb q0 q1 q2 q3 l0 l1 l2 l3
          obtain ⟨q0, q1, q2, q3⟩ := d3.cells
          obtain ⟨r0, r1, r2, r3⟩ := d3.free
          have z0 := d0.other4 (c := w.heap.size + 1 + 1 + 1) (by omega) (.int .u64 (wd (joinTo 1 f g (k + 1)) 0 : Int)) (.int .u64 (wd (joinTo 1 f g (k + 1)) 1 : Int)) (.int .u64 (wd (joinTo 1 f g (k + 1)) 2 : Int)) (.int .u64 (wd (joinTo 1 f g (k + 1)) 3 : Int))
          have z1 := d1.other4 (c := w.heap.size + 1 + 1 + 1) (by omega) (.int .u64 (wd (joinTo 1 f g (k + 1)) 0 : Int)) (.int .u64 (wd (joinTo 1 f g (k + 1)) 1 : Int)) (.int .u64 (wd (joinTo 1 f g (k + 1)) 2 : Int)) (.int .u64 (wd (joinTo 1 f g (k + 1)) 3 : Int))
          have z2 := d2.other4 (c := w.heap.size + 1 + 1 + 1) (by omega) (.int .u64 (wd (joinTo 1 f g (k + 1)) 0 : Int)) (.int .u64 (wd (joinTo 1 f g (k + 1)) 1 : Int)) (.int .u64 (wd (joinTo 1 f g (k + 1)) 2 : Int)) (.int .u64 (wd (joinTo 1 f g (k + 1)) 3 : Int))
          have z3 := d3.stored (joinTo 1 f g (k + 1))
          have hR3 := below_set4 (c := w.heap.size + 1 + 1 + 1) hR2 (by omega) (.int .u64 (wd (joinTo 1 f g (k + 1)) 0 : Int)) (.int .u64 (wd (joinTo 1 f g (k + 1)) 1 : Int)) (.int .u64 (wd (joinTo 1 f g (k + 1)) 2 : Int)) (.int .u64 (wd (joinTo 1 f g (k + 1)) 3 : Int))
          clear d0 d1 d2 d3 hR2
          go_wp2
          go_roundw
          case rel => exact ⟨k + 1, by omega, by go_num, z0, z1, z2, z3, hR3⟩
          case measure => simp [intOf]; omega
    · obtain rfl : k = 256 := by omega
      obtain ⟨q0, q1, q2, q3⟩ := b3.cells
      obtain ⟨q4, q5, q6, q7⟩ := b2.cells
      obtain ⟨r0, r1, r2, r3⟩ := b2.free
      have hR3 := below_set4 (c := w.heap.size + 1 + 1) hB0 (by omega) (.int .u64 (wd (joinTo 1 f g 256) 0 : Int)) (.int .u64 (wd (joinTo 1 f g 256) 1 : Int)) (.int .u64 (wd (joinTo 1 f g 256) 2 : Int)) (.int .u64 (wd (joinTo 1 f g 256) 3 : Int))
      have z2 := (b2.stored (joinTo 1 f g 256)).cells
      clear hS hB0 b0 b1 b2 b3
      go_wp2
      refine bodyPost_ret (v := sv (joinTo 1 f g 256)) (by simp [results, Tryz.results40, go_sem, z2]) rfl ⟨by rw [hsv.out] <;> rfl, hR3⟩

set_option maxRecDepth 100000 in
set_option maxHeartbeats 4000000 in
theorem rjoin2_any (f g : Nat → Bool) (w : World) :
    Calls Tryz.prog 40 #[sv f, sv g, .int .i64 2] w fun e w' => e = .returned (sv fun k => f k && !g k) ∧ Below w.heap.size w w' := by
  have hst := joinR_start 2 f g w
  have hsv : Hid (sv (joinTo 2 f g 256) = sv (fun k => f k && !g k)) := sv_congr fun k hk => by simp [joinTo, sel, hk]
  unfold sv
  go_enter Tryz.func40, Tryz.ntmps40
  go_wp2
  go_loopw [8] (fun i wr => ∃ k : Nat, k ≤ 256 ∧ i = .int .i64 k ∧ joinR 2 f g w k wr) (fun i _ => 256 - (intOf i).toNat)
  case atStart => exact ⟨0, Nat.zero_le _, rfl, hst⟩
  case round =>
    obtain ⟨k, hk, rfl, b0, b1, b2, b3, hB0⟩ := hrel
    clear hst
    have hS := And.intro b0.cells b1.cells
    have l0 := b0.lt; have l1 := b1.lt; have l2 := b2.lt; have l3 := b3.lt
    by_cases hlt : k < 256
    · have hB := (Below.refl wr.heap.size wr).drew
      cases hf : f k
      · cases hg : g k
        · have Hf := Lib.hid hf; have Hg := Lib.hid hg
          clear hf hg
          go_wp2_with fail
          go_region_held3 (fun w' => (w'.cell? ⟨w.heap.size, 0, none⟩ = some (.int .u64 (wd f 0 : Int)) ∧ w'.cell? ⟨w.heap.size, 1, none⟩ = some (.int .u64 (wd f 1 : Int)) ∧ w'.cell? ⟨w.heap.size, 2, none⟩ = some (.int .u64 (wd f 2 : Int)) ∧ w'.cell? ⟨w.heap.size, 3, none⟩ = some (.int .u64 (wd f 3 : Int))) ∧
              (w'.cell? ⟨w.heap.size + 1, 0, none⟩ = some (.int .u64 (wd g 0 : Int)) ∧ w'.cell? ⟨w.heap.size + 1, 1, none⟩ = some (.int .u64 (wd g 1 : Int)) ∧ w'.cell? ⟨w.heap.size + 1, 2, none⟩ = some (.int .u64 (wd g 2 : Int)) ∧ w'.cell? ⟨w.heap.size + 1, 3, none⟩ = some (.int .u64 (wd g 3 : Int))))
            (first | exact ⟨(b0.below hB l0).cells, (b1.below hB l1).cells⟩ | go_keep)
            (first | (go_at_call 55; refine (rhas_any _ k (by omega) (by omega) _).mono ?_; rw [Int.toNat_natCast]; rintro e wk ⟨rfl, hb⟩; (first | rw [Hf.out] | rw [Hg.out]); replace hB := hB.trans (hb.mono hB.size); clear hb))
          rename_i hHeld
          clear hHeld
          have c0 := b0.below hB l0; have c1 := b1.below hB l1; have c2 := b2.below hB l2; have c3 := b3.below hB l3
          rw [joinTo_miss 2 f g k (by rw [Hf.out, Hg.out]; rfl)] at c3
          have hR : Below w.heap.size w wk := hB0.trans (hB.mono hB0.size)
          clear b0 b1 b2 b3 hB hB0 hS
          go_wp2
          go_roundw
          case rel => exact ⟨k + 1, by omega, by go_num, c0, c1, c2, c3, hR⟩
          case measure => simp [intOf]; omega
        · have Hf := Lib.hid hf; have Hg := Lib.hid hg
          clear hf hg
          go_wp2_with fail
          go_region_held3 (fun w' => (w'.cell? ⟨w.heap.size, 0, none⟩ = some (.int .u64 (wd f 0 : Int)) ∧ w'.cell? ⟨w.heap.size, 1, none⟩ = some (.int .u64 (wd f 1 : Int)) ∧ w'.cell? ⟨w.heap.size, 2, none⟩ = some (.int .u64 (wd f 2 : Int)) ∧ w'.cell? ⟨w.heap.size, 3, none⟩ = some (.int .u64 (wd f 3 : Int))) ∧
              (w'.cell? ⟨w.heap.size + 1, 0, none⟩ = some (.int .u64 (wd g 0 : Int)) ∧ w'.cell? ⟨w.heap.size + 1, 1, none⟩ = some (.int .u64 (wd g 1 : Int)) ∧ w'.cell? ⟨w.heap.size + 1, 2, none⟩ = some (.int .u64 (wd g 2 : Int)) ∧ w'.cell? ⟨w.heap.size + 1, 3, none⟩ = some (.int .u64 (wd g 3 : Int))))
            (first | exact ⟨(b0.below hB l0).cells, (b1.below hB l1).cells⟩ | go_keep)
            (first | (go_at_call 55; refine (rhas_any _ k (by omega) (by omega) _).mono ?_; rw [Int.toNat_natCast]; rintro e wk ⟨rfl, hb⟩; (first | rw [Hf.out] | rw [Hg.out]); replace hB := hB.trans (hb.mono hB.size); clear hb))
          rename_i hHeld
          clear hHeld
          have c0 := b0.below hB l0; have c1 := b1.below hB l1; have c2 := b2.below hB l2; have c3 := b3.below hB l3
          rw [joinTo_miss 2 f g k (by rw [Hf.out, Hg.out]; rfl)] at c3
          have hR : Below w.heap.size w wk := hB0.trans (hB.mono hB0.size)
          clear b0 b1 b2 b3 hB hB0 hS
          go_wp2
          go_roundw
          case rel => exact ⟨k + 1, by omega, by go_num, c0, c1, c2, c3, hR⟩
          case measure => simp [intOf]; omega
      · cases hg : g k
        · have Hf := Lib.hid hf; have Hg := Lib.hid hg
          clear hf hg
          go_wp2_with fail
          go_region_held3 (fun w' => (w'.cell? ⟨w.heap.size, 0, none⟩ = some (.int .u64 (wd f 0 : Int)) ∧ w'.cell? ⟨w.heap.size, 1, none⟩ = some (.int .u64 (wd f 1 : Int)) ∧ w'.cell? ⟨w.heap.size, 2, none⟩ = some (.int .u64 (wd f 2 : Int)) ∧ w'.cell? ⟨w.heap.size, 3, none⟩ = some (.int .u64 (wd f 3 : Int))) ∧
              (w'.cell? ⟨w.heap.size + 1, 0, none⟩ = some (.int .u64 (wd g 0 : Int)) ∧ w'.cell? ⟨w.heap.size + 1, 1, none⟩ = some (.int .u64 (wd g 1 : Int)) ∧ w'.cell? ⟨w.heap.size + 1, 2, none⟩ = some (.int .u64 (wd g 2 : Int)) ∧ w'.cell? ⟨w.heap.size + 1, 3, none⟩ = some (.int .u64 (wd g 3 : Int))))
            (first | exact ⟨(b0.below hB l0).cells, (b1.below hB l1).cells⟩ | go_keep)
            (first | (go_at_call 55; refine (rhas_any _ k (by omega) (by omega) _).mono ?_; rw [Int.toNat_natCast]; rintro e wk ⟨rfl, hb⟩; (first | rw [Hf.out] | rw [Hg.out]); replace hB := hB.trans (hb.mono hB.size); clear hb))
          rename_i hHeld
          clear hHeld
          have c0 := b0.below hB l0; have c1 := b1.below hB l1; have c2 := b2.below hB l2; have c3 := b3.below hB l3
          have hR : Below w.heap.size w wk := hB0.trans (hB.mono hB0.size)
          clear b0 b1 b2 b3 hB hB0 hS l0 l1 l2 l3
          have l0 := c0.lt; have l1 := c1.lt; have l2 := c2.lt; have l3 := c3.lt
          obtain ⟨q0, q1, q2, q3⟩ := c3.cells
          go_wp2_with fail
          refine (rput_any (joinTo 2 f g k) k (by omega) (by omega) _).mono ?_
          rw [Int.toNat_natCast]
          rintro e wp ⟨rfl, hb⟩
          rw [joinTo_hit 2 f g k (by rw [Hf.out, Hg.out]; rfl)]
          have d0 := c0.below hb l0; have d1 := c1.below hb l1; have d2 := c2.below hb l2; have d3 := c3.below hb l3
          have hR2 : Below w.heap.size w wp := hR.trans (hb.mono hR.size)
          clear c0 c1 c2 c3 hR hb q0 q1 q2 q3 l0 l1 l2 l3
          obtain ⟨q0, q1, q2, q3⟩ := d3.cells
          obtain ⟨r0, r1, r2, r3⟩ := d3.free
          have z0 := d0.other4 (c := w.heap.size + 1 + 1 + 1) (by omega) (.int .u64 (wd (joinTo 2 f g (k + 1)) 0 : Int)) (.int .u64 (wd (joinTo 2 f g (k + 1)) 1 : Int)) (.int .u64 (wd (joinTo 2 f g (k + 1)) 2 : Int)) (.int .u64 (wd (joinTo 2 f g (k + 1)) 3 : Int))
          have z1 := d1.other4 (c := w.heap.size + 1 + 1 + 1) (by omega) (.int .u64 (wd (joinTo 2 f g (k + 1)) 0 : Int)) (.int .u64 (wd (joinTo 2 f g (k + 1)) 1 : Int)) (.int .u64 (wd (joinTo 2 f g (k + 1)) 2 : Int)) (.int .u64 (wd (joinTo 2 f g (k + 1)) 3 : Int))
          have z2 := d2.other4 (c := w.heap.size + 1 + 1 + 1) (by omega) (.int .u64 (wd (joinTo 2 f g (k + 1)) 0 : Int)) (.int .u64 (wd (joinTo 2 f g (k + 1)) 1 : Int)) (.int .u64 (wd (joinTo 2 f g (k + 1)) 2 : Int)) (.int .u64 (wd (joinTo 2 f g (k + 1)) 3 : Int))
          have z3 := d3.stored (joinTo 2 f g (k + 1))
          have hR3 := below_set4 (c := w.heap.size + 1 + 1 + 1) hR2 (by omega) (.int .u64 (wd (joinTo 2 f g (k + 1)) 0 : Int)) (.int .u64 (wd (joinTo 2 f g (k + 1)) 1 : Int)) (.int .u64 (wd (joinTo 2 f g (k + 1)) 2 : Int)) (.int .u64 (wd (joinTo 2 f g (k + 1)) 3 : Int))
          clear d0 d1 d2 d3 hR2
          go_wp2
          go_roundw
          case rel => exact ⟨k + 1, by omega, by go_num, z0, z1, z2, z3, hR3⟩
          case measure => simp [intOf]; omega
        · have Hf := Lib.hid hf; have Hg := Lib.hid hg
          clear hf hg
          go_wp2_with fail
          go_region_held3 (fun w' => (w'.cell? ⟨w.heap.size, 0, none⟩ = some (.int .u64 (wd f 0 : Int)) ∧ w'.cell? ⟨w.heap.size, 1, none⟩ = some (.int .u64 (wd f 1 : Int)) ∧ w'.cell? ⟨w.heap.size, 2, none⟩ = some (.int .u64 (wd f 2 : Int)) ∧ w'.cell? ⟨w.heap.size, 3, none⟩ = some (.int .u64 (wd f 3 : Int))) ∧
              (w'.cell? ⟨w.heap.size + 1, 0, none⟩ = some (.int .u64 (wd g 0 : Int)) ∧ w'.cell? ⟨w.heap.size + 1, 1, none⟩ = some (.int .u64 (wd g 1 : Int)) ∧ w'.cell? ⟨w.heap.size + 1, 2, none⟩ = some (.int .u64 (wd g 2 : Int)) ∧ w'.cell? ⟨w.heap.size + 1, 3, none⟩ = some (.int .u64 (wd g 3 : Int))))
            (first | exact ⟨(b0.below hB l0).cells, (b1.below hB l1).cells⟩ | go_keep)
            (first | (go_at_call 55; refine (rhas_any _ k (by omega) (by omega) _).mono ?_; rw [Int.toNat_natCast]; rintro e wk ⟨rfl, hb⟩; (first | rw [Hf.out] | rw [Hg.out]); replace hB := hB.trans (hb.mono hB.size); clear hb))
          rename_i hHeld
          clear hHeld
          have c0 := b0.below hB l0; have c1 := b1.below hB l1; have c2 := b2.below hB l2; have c3 := b3.below hB l3
          rw [joinTo_miss 2 f g k (by rw [Hf.out, Hg.out]; rfl)] at c3
          have hR : Below w.heap.size w wk := hB0.trans (hB.mono hB0.size)
          clear b0 b1 b2 b3 hB hB0 hS
          go_wp2
          go_roundw
          case rel => exact ⟨k + 1, by omega, by go_num, c0, c1, c2, c3, hR⟩
          case measure => simp [intOf]; omega
    · obtain rfl : k = 256 := by omega
      obtain ⟨q0, q1, q2, q3⟩ := b3.cells
      obtain ⟨q4, q5, q6, q7⟩ := b2.cells
      obtain ⟨r0, r1, r2, r3⟩ := b2.free
      have hR3 := below_set4 (c := w.heap.size + 1 + 1) hB0 (by omega) (.int .u64 (wd (joinTo 2 f g 256) 0 : Int)) (.int .u64 (wd (joinTo 2 f g 256) 1 : Int)) (.int .u64 (wd (joinTo 2 f g 256) 2 : Int)) (.int .u64 (wd (joinTo 2 f g 256) 3 : Int))
      have z2 := (b2.stored (joinTo 2 f g 256)).cells
      clear hS hB0 b0 b1 b2 b3
      go_wp2
      refine bodyPost_ret (v := sv (joinTo 2 f g 256)) (by simp [results, Tryz.results40, go_sem, z2]) rfl ⟨by rw [hsv.out] <;> rfl, hR3⟩

end Go.Proofs.YtiahgcgpakgeeaaGreatDoor
