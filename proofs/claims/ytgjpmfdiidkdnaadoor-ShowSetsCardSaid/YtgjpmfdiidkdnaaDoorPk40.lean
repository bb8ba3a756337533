/-
  The walks of the reference's plain, about and end: an end of a run.
  The walk of the reference's end: an end of a run.
-/
import Derived.Test.YtgjpmfdiidkdnaaDoorPk1
import Derived.Laws.BytesArg
namespace Go.Proofs.YtgjpmfdiidkdnaaDoor
open Go.RowKit

set_option maxRecDepth 100000 in
set_option maxHeartbeats 1000000 in
theorem plain_any (k : Nat) (w : World) : Calls Tryd.prog 29 #[.int .i64 (k : Int)] w fun e w' => e = .returned (.bool (plainB k)) ∧ w = w' := by
  obtain ⟨R, hR⟩ : ∃ R, plainB k = R := ⟨_, rfl⟩
  rw [hR]
  unfold plainB at hR
  rcases Nat.lt_or_ge k 48 with h | h
  · have h1 : decide ((48 : Int) ≤ (k : Int)) = false := decide_eq_false (by omega)
    have h2 : decide ((65 : Int) ≤ (k : Int)) = false := decide_eq_false (by omega)
    have h3 : decide ((97 : Int) ≤ (k : Int)) = false := decide_eq_false (by omega)
    rw [decide_eq_false (show ¬ 48 ≤ k by omega), decide_eq_false (show ¬ 65 ≤ k by omega), decide_eq_false (show ¬ 97 ≤ k by omega)] at hR
    have hR : R = false := by rw [← hR]; rfl
    subst hR
    clear h
    go_enter Tryd.func29, Tryd.ntmps29
    go_wp2
    go_returns
    exact ⟨rfl, rfl⟩
  · have h1 : decide ((48 : Int) ≤ (k : Int)) = true := decide_eq_true (by omega)
    rcases Nat.lt_or_ge 57 k with h' | h'
    · have h2 : decide ((k : Int) ≤ 57) = false := decide_eq_false (by omega)
      rcases Nat.lt_or_ge k 65 with g | g
      · have h3 : decide ((65 : Int) ≤ (k : Int)) = false := decide_eq_false (by omega)
        have h4 : decide ((97 : Int) ≤ (k : Int)) = false := decide_eq_false (by omega)
        rw [decide_eq_false (show ¬ k ≤ 57 by omega), decide_eq_false (show ¬ 65 ≤ k by omega), decide_eq_false (show ¬ 97 ≤ k by omega), Bool.and_false] at hR
        have hR : R = false := by rw [← hR]; rfl
        subst hR
        clear h h' g
        go_enter Tryd.func29, Tryd.ntmps29
        go_wp2
        go_returns
        exact ⟨rfl, rfl⟩
      · have h3 : decide ((65 : Int) ≤ (k : Int)) = true := decide_eq_true (by omega)
        rcases Nat.lt_or_ge 90 k with g' | g'
        · have h4 : decide ((k : Int) ≤ 90) = false := decide_eq_false (by omega)
          rcases Nat.lt_or_ge k 97 with f | f
          · have h5 : decide ((97 : Int) ≤ (k : Int)) = false := decide_eq_false (by omega)
            rw [decide_eq_false (show ¬ k ≤ 57 by omega), decide_eq_false (show ¬ k ≤ 90 by omega), decide_eq_false (show ¬ 97 ≤ k by omega), Bool.and_false, Bool.and_false] at hR
            have hR : R = false := by rw [← hR]; rfl
            subst hR
            clear h h' g g' f
            go_enter Tryd.func29, Tryd.ntmps29
            go_wp2
            go_returns
            exact ⟨rfl, rfl⟩
          · have h5 : decide ((97 : Int) ≤ (k : Int)) = true := decide_eq_true (by omega)
            rw [decide_eq_false (show ¬ k ≤ 57 by omega), decide_eq_false (show ¬ k ≤ 90 by omega), decide_eq_true (show 97 ≤ k by omega), Bool.and_false, Bool.and_false, Bool.true_and] at hR
            have hR : decide ((k : Int) ≤ 122) = R := by rw [← hR]; simp only [Bool.false_or]; exact decide_eq_decide.2 (by omega)
            cases R
            all_goals
              clear h h' g g' f
              go_enter Tryd.func29, Tryd.ntmps29
              go_wp2
              go_returns
              exact ⟨rfl, rfl⟩
        · have h4 : decide ((k : Int) ≤ 90) = true := decide_eq_true (by omega)
          rw [decide_eq_false (show ¬ k ≤ 57 by omega), decide_eq_true (show k ≤ 90 by omega), decide_eq_true (show 65 ≤ k by omega), Bool.and_false] at hR
          have hR : R = true := by rw [← hR]; rfl
          subst hR
          clear h h' g g'
          go_enter Tryd.func29, Tryd.ntmps29
          go_wp2
          go_returns
          exact ⟨rfl, rfl⟩
    · have h2 : decide ((k : Int) ≤ 57) = true := decide_eq_true (by omega)
      rw [decide_eq_true (show k ≤ 57 by omega), decide_eq_true (show 48 ≤ k by omega)] at hR
      have hR : R = true := by rw [← hR]; rfl
      subst hR
      clear h h'
      go_enter Tryd.func29, Tryd.ntmps29
      go_wp2
      go_returns
      exact ⟨rfl, rfl⟩

theorem about_any (s : ByteArray) (b : Bool) (hs : s.size ≤ 1000000000) (w : World) : Calls Tryd.prog 19 #[.string s, .bool b] w fun e w' => e = .returned (.string (if b = true then ⟨#[40]⟩ ++ s ++ ⟨#[41]⟩ else s)) ∧ w' = w := by
  have g1 : ¬ (9223372036854775807 < 1 + s.size) := by omega
  have g2 : ¬ (9223372036854775807 < 1 + s.size + 1) := by omega
  clear hs
  cases b
  · go_enter Tryd.func19, Tryd.ntmps19
    go_wp2
    go_returns
    exact ⟨rfl, rfl⟩
  · go_enter Tryd.func19, Tryd.ntmps19
    go_wp2
    go_returns
    exact ⟨rfl, rfl⟩
end Go.Proofs.YtgjpmfdiidkdnaaDoor

namespace Go.Proofs.YtgjpmfdiidkdnaaDoor
open Go.RowKit

theorem strNums_bs (l : List Nat) : strOfNums (l.map fun x : Nat => (x : Int)) = bs l := by
  unfold strOfNums bs
  simp
theorem conv1 (W : World) (b cap c : Nat) (h : W.cell? ⟨b, 0, none⟩ = some (.int .u8 (c : Int))) :
    (convert 59 9 (.slice (some ⟨b, 0, none⟩) 1 cap)).run Tryd.prog W = .ok (.string (bs [c])) W := by
  have := run_convert_bytes_arg (P := Tryd.prog) W 59 5 Tryd.underlying59 Tryd.underlying5 b 0 1 cap [(c : Int)] rfl (fun i hi => by
    obtain rfl : i = 0 := by omega
    simpa using h) 9 Tryd.underlying9
  rw [this, show [(c : Int)] = ([c] : List Nat).map (fun x : Nat => (x : Int)) from rfl, strNums_bs]
theorem conv2 (W : World) (b cap c d : Nat) (h : W.cell? ⟨b, 0, none⟩ = some (.int .u8 (c : Int))) (h1 : W.cell? ⟨b, 1, none⟩ = some (.int .u8 (d : Int))) :
    (convert 59 9 (.slice (some ⟨b, 0, none⟩) 2 cap)).run Tryd.prog W = .ok (.string (bs [c, d])) W := by
  have := run_convert_bytes_arg (P := Tryd.prog) W 59 5 Tryd.underlying59 Tryd.underlying5 b 0 2 cap [(c : Int), (d : Int)] rfl (fun i hi => by
    match i, hi with
    | 0, _ => simpa using h
    | 1, _ => simpa using h1) 9 Tryd.underlying9
  rw [this, show [(c : Int), (d : Int)] = ([c, d] : List Nat).map (fun x : Nat => (x : Int)) from rfl, strNums_bs]
theorem conv4 (W : World) (b cap c d e f : Nat) (h : W.cell? ⟨b, 0, none⟩ = some (.int .u8 (c : Int))) (h1 : W.cell? ⟨b, 1, none⟩ = some (.int .u8 (d : Int))) (h2 : W.cell? ⟨b, 2, none⟩ = some (.int .u8 (e : Int))) (h3 : W.cell? ⟨b, 3, none⟩ = some (.int .u8 (f : Int))) :
    (convert 59 9 (.slice (some ⟨b, 0, none⟩) 4 cap)).run Tryd.prog W = .ok (.string (bs [c, d, e, f])) W := by
  have := run_convert_bytes_arg (P := Tryd.prog) W 59 5 Tryd.underlying59 Tryd.underlying5 b 0 4 cap [(c : Int), (d : Int), (e : Int), (f : Int)] rfl (fun i hi => by
    match i, hi with
    | 0, _ => simpa using h
    | 1, _ => simpa using h1
    | 2, _ => simpa using h2
    | 3, _ => simpa using h3) 9 Tryd.underlying9
  rw [this, show [(c : Int), (d : Int), (e : Int), (f : Int)] = ([c, d, e, f] : List Nat).map (fun x : Nat => (x : Int)) from rfl, strNums_bs]

set_option maxRecDepth 100000 in
set_option maxHeartbeats 1000000 in
theorem end_plain (k : Nat) (hk : k < 256) (hp : plainB k = true) (w : World) : Calls Tryd.prog 30 #[.int .i64 (k : Int)] w fun e w' => e = .returned (.string (bs [k])) ∧ Below w.heap.size w w' := by
  have HP := Lib.hid hp
  have hc := conv1 (w.alloc (.cells #[.int .u8 (k : Int)] 5)) w.heap.size 1 k (by simp)
  have h0 : IntKind.u8.wrap (k : Int) = (k : Int) := by simp [IntKind.wrap, IntKind.signed, IntKind.bits]; omega
  clear hp
  go_enter Tryd.func30, Tryd.ntmps30
  go_wp2_with fail
  refine (plain_any k _).mono ?_
  rintro e w1 ⟨rfl, rfl⟩
  rw [HP.out]
  go_wp2
  go_returns
  exact ⟨rfl, (Below.refl _ _).alloc (Nat.le_refl _) _⟩

theorem ix_dg : ∀ (i : Nat), i < 16 → ∀ (w : World), (Instr.index 9 (.string { data := #[48, 49, 50, 51, 52, 53, 54, 55, 56, 57, 97, 98, 99, 100, 101, 102] }) (.int .i64 (i : Int))).run Tryd.prog w = .ok (.int .u8 (hxd i : Nat)) w
  | 0, _, _ => by kernel_rfl
  | 1, _, _ => by kernel_rfl
  | 2, _, _ => by kernel_rfl
  | 3, _, _ => by kernel_rfl
  | 4, _, _ => by kernel_rfl
  | 5, _, _ => by kernel_rfl
  | 6, _, _ => by kernel_rfl
  | 7, _, _ => by kernel_rfl
  | 8, _, _ => by kernel_rfl
  | 9, _, _ => by kernel_rfl
  | 10, _, _ => by kernel_rfl
  | 11, _, _ => by kernel_rfl
  | 12, _, _ => by kernel_rfl
  | 13, _, _ => by kernel_rfl
  | 14, _, _ => by kernel_rfl
  | 15, _, _ => by kernel_rfl
  | _ + 16, h, _ => absurd h (by omega)
set_option maxRecDepth 100000 in
set_option maxHeartbeats 1000000 in
theorem end_hex (k : Nat) (hk : k < 256) (hp : plainB k = false) (w : World) : Calls Tryd.prog 30 #[.int .i64 (k : Int)] w fun e w' => e = .returned (.string (bs [92, 120, hxd (k / 16), hxd (k % 16)])) ∧ Below w.heap.size w w' := by
  have HP := Lib.hid hp
  have hI := ix_dg (k / 16) (by omega)
  have hJ := ix_dg (k % 16) (by omega)
  have hq : (k : Int) / 16 = ((k / 16 : Nat) : Int) := by omega
  have hr : (k : Int) % 16 = ((k % 16 : Nat) : Int) := by omega
  have hc := conv4 ((w.alloc (.cells #[.int .u8 92, .int .u8 120, .int .u8 (hxd (k / 16) : Int), .int .u8 (hxd (k % 16) : Int)] 5)).drew) w.heap.size 4 92 120 (hxd (k / 16)) (hxd (k % 16)) (by simp) (by simp) (by simp) (by simp)
  generalize hxd (k / 16) = x at *
  generalize hxd (k % 16) = y at *
  generalize k / 16 = i at *
  generalize k % 16 = j at *
  clear hp
  go_enter Tryd.func30, Tryd.ntmps30
  go_wp2_with fail
  refine (plain_any k _).mono ?_
  rintro e w1 ⟨rfl, rfl⟩
  rw [HP.out]
  go_wp2
  go_region
  go_wp2
  go_returns
  exact ⟨rfl, by go_grown⟩
theorem end_any (k : Nat) (hk : k < 256) (w : World) : Calls Tryd.prog 30 #[.int .i64 (k : Int)] w fun e w' => e = .returned (.string (bs (endL k))) ∧ Below w.heap.size w w' := by
  unfold endL
  cases hp : plainB k
  · exact end_hex k hk hp w
  · exact end_plain k hk hp w
end Go.Proofs.YtgjpmfdiidkdnaaDoor
