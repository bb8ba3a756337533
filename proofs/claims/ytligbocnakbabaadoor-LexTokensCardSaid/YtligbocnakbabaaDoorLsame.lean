/-
  Lists of tokens; the walk of the third reference's Same at two that read alike.
-/
import Derived.Test.YtligbocnakbabaaDoorLeqt
import Derived.Test.YtligbocnakbabaaDoorBase
namespace Go.Proofs.YtligbocnakbabaaDoor
open Go.RowKit

/-- A token's cells at a place. -/
def tokAt (w : World) (b o : Nat) (r : Int × Int × (Nat → Bool) × Int × Int) : Prop := w.cell? ⟨b, o, none⟩ = some (.int .i64 r.1) ∧ w.cell? ⟨b, o + 1, none⟩ = some (.int .i64 r.2.1) ∧ w.cell? ⟨b, o + 2, none⟩ = some (.int .u64 (wd r.2.2.1 0 : Int)) ∧ w.cell? ⟨b, o + 3, none⟩ = some (.int .u64 (wd r.2.2.1 1 : Int)) ∧ w.cell? ⟨b, o + 4, none⟩ = some (.int .u64 (wd r.2.2.1 2 : Int)) ∧ w.cell? ⟨b, o + 5, none⟩ = some (.int .u64 (wd r.2.2.1 3 : Int)) ∧ w.cell? ⟨b, o + 6, none⟩ = some (.int .i64 r.2.2.2.1) ∧ w.cell? ⟨b, o + 7, none⟩ = some (.int .i64 r.2.2.2.2)
theorem tokAt.below {w w' : World} {b o B : Nat} {r : Int × Int × (Nat → Bool) × Int × Int} (h : tokAt w b o r) (hb : Below B w w') (hB : b < B) : tokAt w' b o r := by
  have c : ∀ x, w'.cell? ⟨b, x, none⟩ = w.cell? ⟨b, x, none⟩ := fun x => hb.cell (p := ⟨b, x, none⟩) hB
  unfold tokAt at h ⊢
  simp only [c]
  exact h
/-- A slice that reads as a list of tokens. -/
def rdT (w : World) (v : Value) (l : List (Int × Int × (Nat → Bool) × Int × Int)) : Prop :=
  (v = .slice none 0 0 ∧ l = []) ∨ ∃ b off cap, v = .slice (some ⟨b, off, none⟩) l.length cap ∧ b < w.heap.size ∧ ∀ j (h : j < l.length), tokAt w b (off + j * 8) l[j]
theorem rdT_below {w w' : World} {v : Value} {l : List (Int × Int × (Nat → Bool) × Int × Int)} {B : Nat} (h : rdT w v l) (hb : Below B w w') (hB : w.heap.size ≤ B) : rdT w' v l := by
  rcases h with h | ⟨b, off, cap, rfl, hl, hc⟩
  · exact .inl h
  · exact .inr ⟨b, off, cap, rfl, Nat.lt_of_lt_of_le hl hb.size, fun j hj => (hc j hj).below hb (by omega)⟩

set_option maxRecDepth 100000 in
set_option maxHeartbeats 4000000 in
theorem same_some (l : List (Int × Int × (Nat → Bool) × Int × Int)) (hm : l.length ≤ 1000) (b off cap b' off' cap' : Nat) (w : World)
    (hc : ∀ j (h : j < l.length), tokAt w b (off + j * 8) l[j]) (hc' : ∀ j (h : j < l.length), tokAt w b' (off' + j * 8) l[j]) :
    Calls Tryd.prog 7 #[.slice (some ⟨b, off, none⟩) l.length cap, .slice (some ⟨b', off', none⟩) l.length cap'] w fun e w' => e = .returned (.bool true) ∧ Below w.heap.size w w' := by
  have hq : ∀ (k a x0 x1 x2 x3 l h : Int) (w : World), (Op.equalIn 10000 35 (.agg #[.int .i64 k, .int .i64 a, .int .u64 x0, .int .u64 x1, .int .u64 x2, .int .u64 x3, .int .i64 l, .int .i64 h]) (.agg #[.int .i64 k, .int .i64 a, .int .u64 x0, .int .u64 x1, .int .u64 x2, .int .u64 x3, .int .i64 l, .int .i64 h])).run Tryd.prog w = .ok true w := fun k a x0 x1 x2 x3 l h w => by
    rw [eq_tok]; simp
  have HC := Lib.hid hc; have HC' := Lib.hid hc'
  clear hc hc'
  go_enter Tryd.func7, Tryd.ntmps7
  go_wp2
  go_loopw [5] (fun i wr => ∃ k n : Nat, k ≤ l.length ∧ i = .int .i64 k ∧ wr = w.drewN n) (fun i _ => l.length - (intOf i).toNat)
  case atStart => exact ⟨0, 0, Nat.zero_le _, rfl, rfl⟩
  case round =>
    obtain ⟨k, n, hk, rfl, rfl⟩ := hrel
    by_cases hlt : k < l.length
    · have h1 := HC.out k hlt
      have h2 := HC'.out k hlt
      obtain ⟨⟨x0, x1, f, x2, x3⟩, hxy⟩ : ∃ r, r = l[k] := ⟨_, rfl⟩
      rw [← hxy] at h1 h2
      clear hxy
      unfold tokAt at h1 h2
      simp only at h1 h2
      obtain ⟨p0, p1, p2, p3, p4, p5, p6, p7⟩ := h1
      obtain ⟨q0, q1, q2, q3, q4, q5, q6, q7⟩ := h2
      have hi0 : (0 : Int) ≤ (k : Int) := by omega
      have hi1 : (k : Int) < (l.length : Int) := by omega
      go_wp2_with fail
      go_quiet (fail)
      go_wp2
      go_roundw
      case rel => exact ⟨k + 1, n + nq, by omega, by go_num, rfl⟩
      case measure => simp [intOf]; omega
    · have hkl : ¬ k < l.length := hlt
      go_wp2
      go_ret
      exact ⟨rfl, below_drewN _ (Below.refl _ _)⟩

theorem same_any (l : List (Int × Int × (Nat → Bool) × Int × Int)) (hm : l.length ≤ 1000) (a b : Value) (w : World) (ha : rdT w a l) (hb : rdT w b l) :
    Calls Tryd.prog 7 #[a, b] w fun e w' => e = .returned (.bool true) ∧ Below w.heap.size w w' := by
  rcases ha with ⟨rfl, h0⟩ | ⟨b0, off, cap, rfl, _, hc⟩ <;> rcases hb with ⟨rfl, h1⟩ | ⟨b1, off1, cap1, rfl, _, hc1⟩
  · clear h0 hm
    go_enter Tryd.func7, Tryd.ntmps7
    go_wp2
    refine wp_loop_rounds 1 ?_
    rw [rounds_succ]; go_wp2
    go_ret
    exact ⟨rfl, Below.refl _ _⟩
  · subst h0
    go_enter Tryd.func7, Tryd.ntmps7
    go_wp2
    refine wp_loop_rounds 1 ?_
    rw [rounds_succ]; go_wp2
    go_ret
    exact ⟨rfl, Below.refl _ _⟩
  · subst h1
    go_enter Tryd.func7, Tryd.ntmps7
    go_wp2
    refine wp_loop_rounds 1 ?_
    rw [rounds_succ]; go_wp2
    go_ret
    exact ⟨rfl, Below.refl _ _⟩
  · exact same_some l hm b0 off cap b1 off1 cap1 w hc hc1
end Go.Proofs.YtligbocnakbabaaDoor
