/-
  The walks of the second reference's upper, lower and digit.
  The walk of the second reference's is: any name, any byte.
  A set is the same as itself.
  Two sets are the same just if their words are.
  A set with one byte more.
  The walks of the second reference's Escape, a theorem a branch.
  The walk of the reference's Range.
  Items of a bracket: as values, and as blocks of memory.
-/
import Derived.Test.YtgjpmfdiidkdnaaDoorPk1
import Derived.Test.YtgjpmfdiidkdnaaDoorProg
import Derived.Laws.StructEq
import Derived.KernelRfl
import Derived.Test.YtgjpmfdiidkdnaaDoorPk4
namespace Go.Proofs.YtgjpmfdiidkdnaaDoor
open Go.RowKit

def upB (x : Nat) : Bool := decide (65 ≤ x) && decide (x ≤ 90)
def loB (x : Nat) : Bool := decide (97 ≤ x) && decide (x ≤ 122)
def diB (x : Nat) : Bool := decide (48 ≤ x) && decide (x ≤ 57)
end Go.Proofs.YtgjpmfdiidkdnaaDoor

namespace Go.Proofs.YtgjpmfdiidkdnaaDoor
open Go.RowKit

/-- Is a byte one of a name's? Is there such a name? -/
def isB (l : List UInt8) (k : Nat) : Bool :=
  if (l == [97, 108, 112, 104, 97]) = true then upB k || loB k
  else if (l == [100, 105, 103, 105, 116]) = true then diB k
  else if (l == [97, 108, 110, 117, 109]) = true then upB k || loB k || diB k
  else if (l == [117, 112, 112, 101, 114]) = true then upB k
  else if (l == [108, 111, 119, 101, 114]) = true then loB k
  else if (l == [115, 112, 97, 99, 101]) = true then decide (9 ≤ k) && decide (k ≤ 13) || decide (k = 32)
  else if (l == [98, 108, 97, 110, 107]) = true then decide (k = 9) || decide (k = 32)
  else if (l == [112, 117, 110, 99, 116]) = true then decide (33 ≤ k) && decide (k ≤ 126) && !upB k && !loB k && !diB k
  else if (l == [103, 114, 97, 112, 104]) = true then decide (33 ≤ k) && decide (k ≤ 126)
  else if (l == [112, 114, 105, 110, 116]) = true then decide (32 ≤ k) && decide (k ≤ 126)
  else if (l == [99, 110, 116, 114, 108]) = true then decide (k < 32) || decide (k = 127)
  else if (l == [120, 100, 105, 103, 105, 116]) = true then diB k || (decide (65 ≤ k) && decide (k ≤ 70)) || (decide (97 ≤ k) && decide (k ≤ 102))
  else false
def isN (l : List UInt8) : Bool :=
  (l == [97, 108, 112, 104, 97]) || (l == [100, 105, 103, 105, 116]) || (l == [97, 108, 110, 117, 109]) || (l == [117, 112, 112, 101, 114]) || (l == [108, 111, 119, 101, 114]) || (l == [115, 112, 97, 99, 101]) ||
  (l == [98, 108, 97, 110, 107]) || (l == [112, 117, 110, 99, 116]) || (l == [103, 114, 97, 112, 104]) || (l == [112, 114, 105, 110, 116]) || (l == [99, 110, 116, 114, 108]) || (l == [120, 100, 105, 103, 105, 116])

/-- What is answers. -/
def isPost (s : ByteArray) (k : Nat) (w : World) (e : Ending) (w' : World) : Prop := e = .returned (.tuple #[.bool (isB s.toList k), .bool (isN s.toList)]) ∧ w = w'
theorem isPost.mk {s : ByteArray} {k : Nat} {w : World} {x y : Bool} (hx : x = isB s.toList k) (hy : y = isN s.toList) : isPost s k w (.returned (.tuple #[.bool x, .bool y])) w := ⟨by rw [hx, hy], rfl⟩

end Go.Proofs.YtgjpmfdiidkdnaaDoor

namespace Go.Proofs.YtgjpmfdiidkdnaaDoor
open Go.RowKit
/-- A set is the same as itself. -/
theorem eq_set' (d : Nat) (x0 x1 x2 x3 : Int) (w : World) :
    (Op.equalIn (d + 2) 32 (.agg #[.int .u64 x0, .int .u64 x1, .int .u64 x2, .int .u64 x3]) (.agg #[.int .u64 x0, .int .u64 x1, .int .u64 x2, .int .u64 x3])).run Tryd.prog w = .ok true w := by
  have hs : ∀ w, (sizeOf 30).run Tryd.prog w = .ok 1 w := fun _ => by kernel_rfl
  have hp : ∀ (xs : Array Value) (i : Nat) (v : Value) (w : World), xs[i]? = some v → (part 30 xs i).run Tryd.prog w = .ok v w := by
    intro xs i v w hv
    simp [part, go_sem, hv, isAgg, run_underlying Tryd.underlying30]
  have e : ∀ (x : Int) (w : World), (Op.equalIn (d + 1) 30 (.int .u64 x) (.int .u64 x)).run Tryd.prog w = .ok true w := fun x w => by
    rw [run_equalIn_int w d 30 .u64 .u64 x x Tryd.underlying30]; simp
  rw [show d + 2 = (d + 1) + 1 from rfl, Op.equalIn]
  simp only [Sem.run_bind, run_underlying Tryd.underlying32, Result.andThen_ok, hs, Std.Legacy.Range.forIn_eq_forIn_range', Std.Legacy.Range.size]
  simp [List.range', hp, e]
theorem eq_set (x0 x1 x2 x3 : Int) (w : World) :
    (Op.equalIn 10000 32 (.agg #[.int .u64 x0, .int .u64 x1, .int .u64 x2, .int .u64 x3]) (.agg #[.int .u64 x0, .int .u64 x1, .int .u64 x2, .int .u64 x3])).run Tryd.prog w = .ok true w := eq_set' 9998 x0 x1 x2 x3 w

end Go.Proofs.YtgjpmfdiidkdnaaDoor

namespace Go.Proofs.YtgjpmfdiidkdnaaDoor
open Go.RowKit

theorem eq_any' (d : Nat) (x0 x1 x2 x3 y0 y1 y2 y3 : Int) (w : World) :
    (Op.equalIn (d + 2) 32 (.agg #[.int .u64 x0, .int .u64 x1, .int .u64 x2, .int .u64 x3]) (.agg #[.int .u64 y0, .int .u64 y1, .int .u64 y2, .int .u64 y3])).run Tryd.prog w = .ok (x0 == y0 && x1 == y1 && x2 == y2 && x3 == y3) w := by
  have hs : ∀ w, (sizeOf 30).run Tryd.prog w = .ok 1 w := fun _ => by kernel_rfl
  have hp : ∀ (xs : Array Value) (i : Nat) (v : Value) (w : World), xs[i]? = some v → (part 30 xs i).run Tryd.prog w = .ok v w := by
    intro xs i v w hv
    simp [part, go_sem, hv, isAgg, run_underlying Tryd.underlying30]
  have e : ∀ (x y : Int) (w : World), (Op.equalIn (d + 1) 30 (.int .u64 x) (.int .u64 y)).run Tryd.prog w = .ok (x == y) w := fun x y w => by
    rw [run_equalIn_int w d 30 .u64 .u64 x y Tryd.underlying30]
  rw [show d + 2 = (d + 1) + 1 from rfl, Op.equalIn]
  simp only [Sem.run_bind, run_underlying Tryd.underlying32, Result.andThen_ok, hs, Std.Legacy.Range.forIn_eq_forIn_range', Std.Legacy.Range.size]
  by_cases h0 : x0 = y0 <;> by_cases h1 : x1 = y1 <;> by_cases h2 : x2 = y2 <;> by_cases h3 : x3 = y3 <;> simp [List.range', hp, e, h0, h1, h2, h3]
theorem eq_any (x0 x1 x2 x3 y0 y1 y2 y3 : Int) (w : World) :
    (Op.equalIn 10000 32 (.agg #[.int .u64 x0, .int .u64 x1, .int .u64 x2, .int .u64 x3]) (.agg #[.int .u64 y0, .int .u64 y1, .int .u64 y2, .int .u64 y3])).run Tryd.prog w = .ok (x0 == y0 && x1 == y1 && x2 == y2 && x3 == y3) w := eq_any' 9998 x0 x1 x2 x3 y0 y1 y2 y3 w
end Go.Proofs.YtgjpmfdiidkdnaaDoor

namespace Go.Proofs.YtgjpmfdiidkdnaaDoor
open Go.RowKit

/-- A set with one number more. -/
def put (f : Nat → Bool) (c : Nat) (x : Nat) : Bool := f x || decide (x = c)
theorem put_hit (f : Nat → Bool) (c i : Nat) (hi : c / 64 = i) : bits .or .u64 (wd f i : Int) (IntKind.u64.wrap (2 ^ (c % 64))) = (wd (put f c) i : Nat) := by
  rw [word_put _ _ _ (Nat.mod_lt _ (by decide)), show 64 * i + c % 64 = c from by omega]
  rfl
theorem put_miss (f : Nat → Bool) (c i : Nat) (hi : c / 64 ≠ i) : wd f i = wd (put f c) i := (word_put_other f i c hi).symm
end Go.Proofs.YtgjpmfdiidkdnaaDoor

namespace Go.Proofs.YtgjpmfdiidkdnaaDoor
open Go.RowKit

def isA (k : Nat) : Bool := isB [97, 108, 110, 117, 109] k
def isS (k : Nat) : Bool := isB [115, 112, 97, 99, 101] k
/-- The bytes of a word. -/
def wordR (k : Nat) : Bool := isA k || decide (k = 95)

/-- What has been put behind k rounds. -/
def upK (f : Nat → Bool) (k x : Nat) : Bool := decide (x < k) && f x
theorem upK_zero (f : Nat → Bool) : upK f 0 = fun _ => false := by funext x; simp [upK]
theorem upK_out (f : Nat → Bool) (k : Nat) (h : f k = false) : upK f (k + 1) = upK f k := by
  funext x
  unfold upK
  by_cases e : x = k
  · subst e; simp [h]
  · by_cases h1 : x < k
    · have : x < k + 1 := by omega
      simp [h1, this]
    · have : ¬ x < k + 1 := by omega
      simp [h1, this]
theorem upK_in (f : Nat → Bool) (k : Nat) (h : f k = true) : put (upK f k) k = upK f (k + 1) := by
  funext x
  unfold put upK
  by_cases e : x = k
  · subst e; simp [h]
  · by_cases h1 : x < k
    · have : x < k + 1 := by omega
      simp [h1, this, e]
    · have : ¬ x < k + 1 := by omega
      simp [h1, this, e]
theorem isSet.all {w : World} {b : Nat} {f : Nat → Bool} (h : isSet w b (upK f 256)) : isSet w b f := h.congr fun k hk => by simp [upK, hk]
theorem wd_zero (f : Nat → Bool) (i j : Nat) (hj : j < 64) (h : wd f i = 0) : f (64 * i + j) = false := by
  have := wd_testBit f i j
  rw [h, Nat.zero_testBit] at this
  simpa [hj] using this.symm
theorem not_all_zero (f : Nat → Bool) (x : Nat) (hx : x < 256) (h : f x = true) : (((wd f 0 : Nat) : Int) == 0 && ((wd f 1 : Nat) : Int) == 0 && ((wd f 2 : Nat) : Int) == 0 && ((wd f 3 : Nat) : Int) == 0) = false := by
  rw [Bool.eq_false_iff]
  intro hz
  simp only [Bool.and_eq_true, beq_iff_eq, Int.natCast_eq_zero] at hz
  obtain ⟨⟨⟨h0, h1⟩, h2⟩, h3⟩ := hz
  have hd : x = 64 * (x / 64) + x % 64 := by omega
  have hm : x % 64 < 64 := Nat.mod_lt _ (by decide)
  have hi : x / 64 = 0 ∨ x / 64 = 1 ∨ x / 64 = 2 ∨ x / 64 = 3 := by omega
  have hf : f (64 * (x / 64) + x % 64) = false := by
    rcases hi with e | e | e | e <;> rw [e] <;> exact wd_zero f _ _ hm ‹_›
  rw [← hd, h] at hf
  cases hf

/-- What a byte behind a backslash stands for; does it stand for anything? -/
def escF (c : Nat) : Nat → Bool :=
  if c = 110 then fun k => decide (k = 10) else if c = 116 then fun k => decide (k = 9) else if c = 114 then fun k => decide (k = 13)
  else if c = 100 then diB else if c = 115 then isS else if c = 119 then wordR
  else if c = 68 then fun k => !diB k else if c = 83 then fun k => !isS k else if c = 87 then fun k => !wordR k
  else if isA c = true then fun _ => false else fun k => decide (k = c)
def escOk (c : Nat) : Bool :=
  decide (c = 110) || decide (c = 116) || decide (c = 114) || decide (c = 100) || decide (c = 115) || decide (c = 119) || decide (c = 68) || decide (c = 83) || decide (c = 87) || !isA c
end Go.Proofs.YtgjpmfdiidkdnaaDoor

namespace Go.Proofs.YtgjpmfdiidkdnaaDoor
open Go.RowKit

/-- The numbers from lo on, below k. -/
def rg (lo k x : Nat) : Bool := decide (lo ≤ x) && decide (x < k)
theorem rg_put (lo k : Nat) (h : lo ≤ k) : put (rg lo k) k = rg lo (k + 1) := by
  funext x
  unfold put rg
  by_cases hx : x = k
  · subst hx; simp [h]
  · by_cases h1 : x < k
    · have : x < k + 1 := by omega
      simp [h1, this, hx]
    · have : ¬ x < k + 1 := by omega
      simp [h1, this, hx]
theorem rg_none (lo : Nat) : rg lo lo = fun _ => false := by
  funext x
  unfold rg
  by_cases h : lo ≤ x
  · have : ¬ x < lo := by omega
    simp [this]
  · simp [h]

end Go.Proofs.YtgjpmfdiidkdnaaDoor

namespace Go.Proofs.YtgjpmfdiidkdnaaDoor
open Go.RowKit

/-- Seven cells stored. -/
def set7 (w : World) (c : Nat) (f : Nat → Bool) (n : Int) (ok nm : Bool) : World :=
  ((((((w.setCell ⟨c, 0, none⟩ (.int .u64 (wd f 0 : Int))).setCell ⟨c, 1, none⟩ (.int .u64 (wd f 1 : Int))).setCell ⟨c, 2, none⟩ (.int .u64 (wd f 2 : Int))).setCell ⟨c, 3, none⟩ (.int .u64 (wd f 3 : Int))).setCell ⟨c, 4, none⟩ (.int .i64 n)).setCell ⟨c, 5, none⟩ (.bool ok)).setCell ⟨c, 6, none⟩ (.bool nm)
theorem below_set7 {B : Nat} {a w : World} {c : Nat} (h : Below B a w) (hc : B ≤ c) (g : Nat → Bool) (m : Int) (ok nm : Bool) : Below B a (set7 w c g m ok nm) :=
  ((((((h.setCell hc _).setCell hc _).setCell hc _).setCell hc _).setCell hc _).setCell hc _).setCell hc _

/-- The bytes from one to one. -/
def oneR (b x : Nat) : Bool := decide (b ≤ x) && decide (x ≤ b)
/-- What a backslash at a place stands for: the bytes, where it ends, whether it can be made. -/
def behF (p : ByteArray) (k : Nat) : Nat → Bool :=
  if p.size ≤ k + 1 then fun _ => false
  else if gb p (k + 1) ≠ 120 then escF (gb p (k + 1))
  else if p.size ≤ k + 3 ∨ dig16 (gb p (k + 2)) < 0 ∨ dig16 (gb p (k + 3)) < 0 then fun _ => false
  else oneR (dig16 (gb p (k + 2)) * 16 + dig16 (gb p (k + 3))).toNat
def behN (p : ByteArray) (k : Nat) : Nat :=
  if p.size ≤ k + 1 then 0
  else if gb p (k + 1) ≠ 120 then k + 2
  else if p.size ≤ k + 3 ∨ dig16 (gb p (k + 2)) < 0 ∨ dig16 (gb p (k + 3)) < 0 then 0
  else k + 4
def behOk (p : ByteArray) (k : Nat) : Bool :=
  if p.size ≤ k + 1 then false
  else if gb p (k + 1) ≠ 120 then escOk (gb p (k + 1))
  else if p.size ≤ k + 3 ∨ dig16 (gb p (k + 2)) < 0 ∨ dig16 (gb p (k + 3)) < 0 then false
  else true
theorem dig16_bd (c : Nat) : -1 ≤ dig16 c ∧ dig16 c ≤ 15 := by unfold dig16; repeat' split <;> omega
end Go.Proofs.YtgjpmfdiidkdnaaDoor
