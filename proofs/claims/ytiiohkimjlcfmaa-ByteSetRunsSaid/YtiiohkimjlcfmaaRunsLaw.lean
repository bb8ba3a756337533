/-
  ByteSetRuns, for every list of runs (its first forty count): what is in any of them is the set that the reference makes of them byte by byte; that set's own runs are whole, have a gap between each two, are no more than came, and are the set again. No condition.
-/
import Derived.Test.YtiiohkimjlcfmaaRunsW
import Derived.Test.YtiiohkimjlcfmaaRunsB
import Derived.Test.YtiiohkimjlcfmaaRunsN
import Derived.Test.YtiiohkimjlcfmaaRunsZ
import Derived.Test.YtiiohkimjlcfmaaOpen
import Derived.Deep.SlicePairs
import Derived.ChangeSame
namespace Go.Proofs.Ytiiohkimjlcfmaa
open Go.ChangeShapes Go.WideShapes Go.ChangeAt Go.RowKit Go.Deep

theorem u8_nat2 {x : Int} (h : (Lit.int .u8 x).wf = true) : ∃ n : Nat, x = n ∧ n < 256 := by
  have hw : IntKind.u8.min ≤ x ∧ x ≤ IntKind.u8.max := by simpa [Lit.wf] using h
  simp [IntKind.min, IntKind.max, IntKind.bits, IntKind.signed] at hw
  exact ⟨x.toNat, by omega, by omega⟩

theorem cellsRun : Try.prog.cellsOf 44 = 2 := by kernel_rfl
theorem cellsU8 : Try.prog.cellsOf 5 = 1 := by kernel_rfl

/-- The pairs of a list, as a function on numbers lays them. -/
def prs (X Y : Nat → Nat) (n : Nat) : List (Nat × Nat) := (List.range n).map fun i => (X i, Y i)

theorem prs_rd {W : World} {b off cap : Nat} {X Y : Nat → Nat} (n : Nat) (hb : b < W.heap.size) (h : ∀ i, i < n → W.cell? ⟨b, off + i * 2, none⟩ = some (.int .u8 (X i : Nat)) ∧ W.cell? ⟨b, off + i * 2 + 1, none⟩ = some (.int .u8 (Y i : Nat))) :
    rdR W (.slice (some ⟨b, off, none⟩) n cap) (prs X Y n) := by
  have hl : (prs X Y n).length = n := by simp [prs]
  refine .inr ⟨b, off, cap, by rw [hl], hb, fun j hj => ?_⟩
  have := h j (by omega)
  simpa [prs] using this
theorem prs_bytes (X Y : Nat → Nat) (n : Nat) (h : ∀ i, i < n → X i < 256 ∧ Y i < 256) : ∀ r, r ∈ prs X Y n → r.1 < 256 ∧ r.2 < 256 := by
  intro r hr
  unfold prs at hr
  obtain ⟨i, hi, rfl⟩ := List.mem_map.1 hr
  exact h i (List.mem_range.1 hi)

set_option maxRecDepth 100000 in
theorem runs_lifted (os : Os) (started : os.Started) (H : Type) (enc : TypeId × Value → H) :
    ReturnsInHanded {} Try.checked os 5 .any (Rows.byteSetRunsSpec.pre6 enc Try.prog Try.f5 Rows.byteSetRunsRow.domain false) (Rows.byteSetRunsSpec.post enc Try.prog Try.f5 false true false false) := by
  refine returnsInHanded_of_change (C := Try.checked) own started (by kernel_rfl) Try.func5
    (ChangeSpec.witness6 (enc := enc) (C := Try.checked) false ⟨#[], #[.slice none 0 0], []⟩ 8 (by kernel_rfl) (by kernel_rfl) (by kernel_rfl) (by kernel_rfl)) ?_
  intro W base args ds gs before hval0 hW _ _
  have hval : ∀ (j : Nat) t v, Try.f5.params[j]? = some t → args[j]? = some v → Value.okWide Try.prog W .any base t v := hval0
  have hW' := hW
  obtain ⟨p, q, hA0, hV, rfl, _, _⟩ := hW
  have hA : DataW.TrodAll enc Try.prog W 0 (fun _ => true) true Try.f5.params.toList args.toList ds p := hA0
  rw [Try.params5] at hA hval
  obtain ⟨v0, d0, rfl, rfl, h0⟩ := trodAll_one hA
  obtain ⟨rfl, rfl⟩ := trodVars_none hV
  have lt0 : ∀ x ∈ p, x.block < W.heap.size := by obtain ⟨m, hm⟩ := h0; exact DataW.trod_lt m _ _ _ hm
  have fin : ∀ (e : Ending) (W' : World), e = .returned (.bool true) → Below W.heap.size W W' → ∃ r, e = .returned r ∧ Rows.byteSetRunsSpec.post enc Try.prog Try.f5 false true false false W #[v0] r W' := fun e W' he bel =>
    ⟨_, he, _, _, _, [], _, [], hW', trodAll_mk1 (shut_bool Try.underlying4 _), trodAll_mk1 (Below.trod laidOut (by kernel_rfl) (of_decide_eq_true (by kernel_rfl)) h0 bel lt0), rfl, bel.frame _, fun h => by cases h⟩
  obtain ⟨fuel, hf⟩ := h0
  obtain ⟨a0, len0, cap0, rfl⟩ := okWide_slice Try.underlying36 (hval 0 36 v0 rfl rfl)
  clear hA0 hval0 hA
  rcases open_slice_pairs Try.underlying36 Try.underlying44 cellsRun rfl rfl cellsU8 cellsU8 hf with ⟨hcs, _⟩ | ⟨a, len, cap, m, n, V0, V1, D0, D1, P0, P1, hcs, _, hl, _, hmm, _, hi⟩
  · simp [Value.cells] at hcs
    obtain ⟨rfl, rfl, rfl⟩ := hcs
    exact (runslaw_nil W [] (by simp) (by simp) (segs_few [] 256 256) (.inl ⟨rfl, rfl⟩)).mono fun e W' ⟨he, bel⟩ => fin e W' he bel
  · simp [Value.cells] at hcs
    obtain ⟨rfl, rfl, rfl⟩ := hcs
    simp at hmm
    subst hmm
    have hall : ∀ i, i < m → ∃ x y : Nat, x < 256 ∧ y < 256 ∧ W.cell? (a.add (i * 2)) = some (.int .u8 (x : Nat)) ∧ W.cell? (a.add (i * 2 + 1)) = some (.int .u8 (y : Nat)) := fun i him => by
      obtain ⟨c0, c1, t0, t1⟩ := hi i him
      obtain ⟨x, e0, _, w0⟩ := DataW.trod_int Try.underlying5 t0
      obtain ⟨y, e1, _, w1⟩ := DataW.trod_int Try.underlying5 t1
      obtain ⟨nx, rfl, hx⟩ := u8_nat2 w0
      obtain ⟨ny, rfl, hy⟩ := u8_nat2 w1
      simp at e0 e1
      exact ⟨nx, ny, hx, hy, by rw [c0, e0], by rw [c1, e1]⟩
    rcases Nat.eq_zero_or_pos m with hm0 | hmp
    · subst hm0
      obtain rfl : len0 = 0 := by omega
      exact (runslaw_zero a W).mono fun e W' ⟨he, bel⟩ => fin e W' he bel
    · obtain ⟨b, off, spot⟩ := a
      obtain ⟨x0, y0, _, _, z0, _⟩ := hall 0 hmp
      have hspot : spot = none := by simpa [Addr.add] using World.cell?_spot z0
      subst hspot
      have hb : b < W.heap.size := by have := World.block_lt_of_cell? W _ z0; simpa [Addr.add] using this
      have hadd : ∀ k, (⟨b, off, none⟩ : Addr).add k = ⟨b, off + k, none⟩ := fun k => by unfold Addr.add; split <;> simp_all
      obtain ⟨X, Y, hXY0⟩ : ∃ X Y : Nat → Nat, ∀ i, i < m → X i < 256 ∧ Y i < 256 ∧ W.cell? ((⟨b, off, none⟩ : Addr).add (i * 2)) = some (.int .u8 (X i : Nat)) ∧ W.cell? ((⟨b, off, none⟩ : Addr).add (i * 2 + 1)) = some (.int .u8 (Y i : Nat)) :=
        ⟨fun i => if h : i < m then (hall i h).choose else 0, fun i => if h : i < m then (hall i h).choose_spec.choose else 0, fun i h => by
          simp only [dif_pos h]
          exact (hall i h).choose_spec.choose_spec⟩
      have hXY : ∀ i, i < m → X i < 256 ∧ Y i < 256 ∧ W.cell? ⟨b, off + i * 2, none⟩ = some (.int .u8 (X i : Nat)) ∧ W.cell? ⟨b, off + i * 2 + 1, none⟩ = some (.int .u8 (Y i : Nat)) := fun i h => by
        have := hXY0 i h
        rw [hadd, hadd] at this
        exact this
      have few : ∀ k, (segs (inU (prs X Y k)) 256 256).length ≤ k := fun k => by
        have := segs_few (prs X Y k) 256 256
        rwa [show (prs X Y k).length = k from by simp [prs]] at this
      by_cases h40 : len0 ≤ 40
      · exact (runslaw_small b off len0 m h40 hl W (prs X Y len0) (prs_bytes X Y len0 fun i h => ⟨(hXY i (by omega)).1, (hXY i (by omega)).2.1⟩) (by simp [prs]; omega) (few len0)
          (prs_rd len0 hb fun i h => (hXY i (by omega)).2.2)).mono fun e W' ⟨he, bel⟩ => fin e W' he bel
      · exact (runslaw_big b off len0 m (by omega) hl W (prs X Y 40) (prs_bytes X Y 40 fun i h => ⟨(hXY i (by omega)).1, (hXY i (by omega)).2.1⟩) (by simp [prs]) (few 40)
          (prs_rd 40 hb fun i h => (hXY i (by omega)).2.2)).mono fun e W' ⟨he, bel⟩ => fin e W' he bel

theorem runs_holds : Rows.ByteSetRunsSaid :=
  OpenClaim.holds_of_wide 5 Try.f5 rfl rfl rfl rfl rfl rfl rfl ⟨rfl, rfl, rfl, rfl, rfl⟩ rfl rfl rfl rfl rfl (by kernel_rfl) Try.func5 (by kernel_rfl)
    (of_decide_eq_true (by kernel_rfl)) (by unfold Func.isWrapper; first | (rw [if_pos (by decide +kernel)]; kernel_rfl) | (rw [if_neg (by decide +kernel)]; exact ⟨rfl, rfl⟩))
    (fun os started H enc _ => runs_lifted os started H enc)
end Go.Proofs.Ytiiohkimjlcfmaa
