/-
  The walk of the reference's Same, at two lists of runs that read alike.
-/
import Derived.Test.YtpgikkmpnbcljaaSegs
import Derived.Deep.QuietTactic
import Derived.BigQuiet
namespace Go.Proofs.Ytpgikkmpnbcljaa
open Go.RowKit

/-- A slice of runs that reads as a list of pairs. -/
def rdR (w : World) (v : Value) (l : List (Nat × Nat)) : Prop :=
  (v = .slice none 0 0 ∧ l = []) ∨ ∃ b off cap, v = .slice (some ⟨b, off, none⟩) l.length cap ∧ b < w.heap.size ∧ ∀ j (h : j < l.length), w.cell? ⟨b, off + j * 2, none⟩ = some (.int .u8 (l[j].1 : Nat)) ∧ w.cell? ⟨b, off + j * 2 + 1, none⟩ = some (.int .u8 (l[j].2 : Nat))
theorem rvs_get (l : List (Nat × Nat)) (j : Nat) (h : j < l.length) : (rvs l)[j * 2]? = some (.int .u8 (l[j].1 : Nat)) ∧ (rvs l)[j * 2 + 1]? = some (.int .u8 (l[j].2 : Nat)) := by
  induction l generalizing j with
  | nil => simp at h
  | cons r l ih =>
    have e : rvs (r :: l) = .int .u8 (r.1 : Int) :: .int .u8 (r.2 : Int) :: rvs l := rfl
    rw [e]
    cases j with
    | zero => simp
    | succ j =>
      have := ih j (by simpa using h)
      rw [show (j + 1) * 2 = j * 2 + 1 + 1 from by omega]
      simpa using this
theorem rdR_of_owns {w : World} {base : Nat} {e : TypeId} {v : Value} {l : List (Nat × Nat)} (h : w.ownsRow base e 2 v l.length (rvs l)) : rdR w v l := by
  have hlt := h.lt
  rcases h.2 with ⟨rfl, h0⟩ | ⟨g, cap, cur, rfl, _, _, _, _, _, _⟩
  · exact .inl ⟨rfl, List.length_eq_zero_iff.1 h0⟩
  · refine .inr ⟨g, 0, cap, rfl, (hlt g rfl).2, fun j hj => ?_⟩
    rw [Nat.zero_add, h.cellAt (j * 2) (by omega), h.cellAt (j * 2 + 1) (by omega)]
    exact rvs_get l j hj
theorem rdR_below {w w' : World} {v : Value} {l : List (Nat × Nat)} {B : Nat} (h : rdR w v l) (hb : Below B w w') (hB : w.heap.size ≤ B) : rdR w' v l := by
  rcases h with h | ⟨b, off, cap, rfl, hl, hc⟩
  · exact .inl h
  · refine .inr ⟨b, off, cap, rfl, Nat.lt_of_lt_of_le hl hb.size, fun j hj => ?_⟩
    rw [hb.cell (p := ⟨b, off + j * 2, none⟩) (by show b < B; omega), hb.cell (p := ⟨b, off + j * 2 + 1, none⟩) (by show b < B; omega)]; exact hc j hj

theorem below_drewN (B : Nat) (w : World) (n : Nat) : Below B w (w.drewN n) := ⟨rfl, rfl, rfl, Nat.le_refl _, fun _ _ => rfl⟩

set_option maxRecDepth 100000 in
set_option maxHeartbeats 4000000 in
theorem same_some (l : List (Nat × Nat)) (hm : l.length ≤ 1000) (b off cap b' off' cap' : Nat) (w : World)
    (hc : ∀ j (h : j < l.length), w.cell? ⟨b, off + j * 2, none⟩ = some (.int .u8 (l[j].1 : Nat)) ∧ w.cell? ⟨b, off + j * 2 + 1, none⟩ = some (.int .u8 (l[j].2 : Nat)))
    (hc' : ∀ j (h : j < l.length), w.cell? ⟨b', off' + j * 2, none⟩ = some (.int .u8 (l[j].1 : Nat)) ∧ w.cell? ⟨b', off' + j * 2 + 1, none⟩ = some (.int .u8 (l[j].2 : Nat))) :
    Calls Try.prog 19 #[.slice (some ⟨b, off, none⟩) l.length cap, .slice (some ⟨b', off', none⟩) l.length cap'] w fun e w' => e = .returned (.bool true) ∧ Below w.heap.size w w' := by
  go_enter Try.func19, Try.ntmps19
  go_wp2
  go_loopw [5] (fun i wr => ∃ k n : Nat, k ≤ l.length ∧ i = .int .i64 k ∧ wr = w.drewN n) (fun i _ => l.length - (intOf i).toNat)
  case atStart => exact ⟨0, 0, Nat.zero_le _, rfl, rfl⟩
  case round =>
    obtain ⟨k, n, hk, rfl, rfl⟩ := hrel
    by_cases hlt : k < l.length
    · obtain ⟨q0, q1⟩ := hc k hlt
      obtain ⟨q2, q3⟩ := hc' k hlt
      obtain ⟨⟨x, y⟩, hxy⟩ : ∃ r, r = l[k] := ⟨_, rfl⟩
      rw [← hxy] at q0 q1 q2 q3
      clear hxy hc hc'
      go_wp2_with fail
      go_quiet (fail)
      go_wp2
      go_roundw
      case rel => exact ⟨k + 1, n + nq, by omega, by go_num, rfl⟩
      case measure => simp [intOf]; omega
    · have hkl : ¬ k < l.length := hlt
      clear hc hc'
      go_wp2
      go_ret
      exact ⟨rfl, below_drewN _ _ _⟩

theorem same_any (l : List (Nat × Nat)) (hm : l.length ≤ 1000) (a b : Value) (w : World) (ha : rdR w a l) (hb : rdR w b l) :
    Calls Try.prog 19 #[a, b] w fun e w' => e = .returned (.bool true) ∧ Below w.heap.size w w' := by
  rcases ha with ⟨rfl, h0⟩ | ⟨b0, off, cap, rfl, _, hc⟩ <;> rcases hb with ⟨rfl, h1⟩ | ⟨b1, off1, cap1, rfl, _, hc1⟩
  · go_enter Try.func19, Try.ntmps19
    go_wp2
    refine wp_loop_rounds 1 ?_
    rw [rounds_succ]; go_wp2
    go_ret
    exact ⟨rfl, Below.refl _ _⟩
  · subst h0
    go_enter Try.func19, Try.ntmps19
    go_wp2
    refine wp_loop_rounds 1 ?_
    rw [rounds_succ]; go_wp2
    go_ret
    exact ⟨rfl, Below.refl _ _⟩
  · subst h1
    go_enter Try.func19, Try.ntmps19
    go_wp2
    refine wp_loop_rounds 1 ?_
    rw [rounds_succ]; go_wp2
    go_ret
    exact ⟨rfl, Below.refl _ _⟩
  · exact same_some l hm b0 off cap b1 off1 cap1 w hc hc1
end Go.Proofs.Ytpgikkmpnbcljaa
