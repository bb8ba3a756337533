/-
  The walk of the law ShowSets.
-/
import Derived.Test.YtgjpmfdiidkdnaaDoorPk26
import Derived.Test.YtgjpmfdiidkdnaaDoorPk42
import Derived.Test.YtgjpmfdiidkdnaaDoorPk35
import Derived.Test.YtgjpmfdiidkdnaaDoorPk22
import Derived.BigQuiet
import Derived.Deep.QuietTactic
namespace Go.Proofs.YtgjpmfdiidkdnaaDoor
open Go.RowKit

theorem build_tk02 (x0 x1 x2 x3 : Int) (w : World) : (Instr.build 38 #[(0, .int .i64 1), (2, .agg #[.int .u64 x0, .int .u64 x1, .int .u64 x2, .int .u64 x3])]).run Tryd.prog w = .ok (.agg #[.int .i64 1, .int .i64 0, .int .u64 x0, .int .u64 x1, .int .u64 x2, .int .u64 x3, .int .i64 0, .int .i64 0]) w := by kernel_rfl
theorem setL_small6 (f : Nat → Bool) : ∀ x, x ∈ setL f → x < 128 := by
  intro x hx
  unfold setL at hx
  split at hx
  · rw [List.mem_singleton.1 hx]; decide
  · split at hx
    · rename_i h1
      obtain ⟨c, hc⟩ := List.length_eq_one_iff.1 h1
      have hcb : c < 256 := bl_bytes f 256 c (by rw [hc]; simp)
      rw [hc, List.headD_cons] at hx
      exact (aloneL_ok c hcb).2 x hx
    · exact many_small f x hx
/-- A set's text, as tokens: that set alone. -/
theorem toks_set (f : Nat → Bool) : ∃ F, toks (bs (setL f)) = (some [tka 0 (1, F, 0, 0)], 0) ∧ ∀ i, i < 4 → wd F i = wd f i := by
  have hh : has (bs (setL f)) 0 (setL f) := has_bs fun x hx => by have := setL_small6 f x hx; omega
  obtain ⟨F, h1, h2⟩ := tk_set f hh
  refine ⟨F, chain_toks (lexTo_chain ⟨(1, F, 0, 0), _, h1, rfl, ?_, ?_⟩), fun i hi => wd_congr fun j hj => h2 _ (by omega)⟩
  · rw [bs_size]; exact setL_pos f
  · show 0 + (setL f).length = (bs (setL f)).size
    rw [bs_size, Nat.zero_add]

set_option maxRecDepth 100000 in
set_option maxHeartbeats 4000000 in
theorem sse_any (f : Nat → Bool) (w : World) (hT : Okw w) :
    Calls Tryd.prog 4 #[sv f] w fun e w' => e = .returned (.bool true) ∧ Below w.heap.size w w' := by
  obtain ⟨F, hF, hwd⟩ := toks_set f
  have HA := Lib.hid (cset_any f)
  have HR := Lib.hid (rset_any f)
  have HLong := Lib.hid (ltoks_long (bs (setL f)))
  have HLt := Lib.hid (ltoks_any (bs (setL f)))
  rw [hF] at HLt
  have HT := Lib.hid hT
  have HS0 := Lib.hid (isSet.new w f)
  have hW : Below w.heap.size w (w.alloc (.cells #[.int .u64 (wd f 0 : Int), .int .u64 (wd f 1 : Int), .int .u64 (wd f 2 : Int), .int .u64 (wd f 3 : Int)] 32)) := (Below.refl _ _).alloc (Nat.le_refl _) _
  have HBW := Lib.hid hW
  have hEQ : ∀ w, (Op.equalIn 10000 38 (.agg #[.int .i64 1, .int .i64 0, .int .u64 (wd f 0 : Int), .int .u64 (wd f 1 : Int), .int .u64 (wd f 2 : Int), .int .u64 (wd f 3 : Int), .int .i64 0, .int .i64 0]) (.agg #[.int .i64 1, .int .i64 0, .int .u64 (wd f 0 : Int), .int .u64 (wd f 1 : Int), .int .u64 (wd f 2 : Int), .int .u64 (wd f 3 : Int), .int .i64 0, .int .i64 0])).run Tryd.prog w = .ok true w := fun w => by
    rw [eq_tok]; simp
  have hBT := fun w => build_tk02 (wd f 0 : Int) (wd f 1 : Int) (wd f 2 : Int) (wd f 3 : Int) w
  obtain ⟨s, hs⟩ : ∃ s, bs (setL f) = s := ⟨_, rfl⟩
  rw [hs] at HA HR HLong HLt
  have HWD := Lib.hid hwd
  clear hT hW hF hs hwd
  unfold sv
  go_enter Tryd.func4, Tryd.ntmps4
  go_wp2_with fail
  refine (awake6_any _ (HT.out.1.to HBW.out)).mono ?_
  rintro e0 w0 ⟨rfl, hb⟩
  have HB0 := Lib.hid (HBW.out.trans (hb.mono HBW.out.size))
  have HS1 := Lib.hid (HS0.out.below hb HS0.out.lt)
  have l1 := HS1.out.lt
  clear hb HBW HS0
  obtain ⟨q0, q1, q2, q3⟩ := HS1.out.cells
  go_wp2_with fail
  refine (HA.out _ (HT.out.1.to HB0.out)).mono ?_
  rintro e1 w1 ⟨rfl, hb⟩
  have HB1 := Lib.hid (HB0.out.trans (hb.mono HB0.out.size))
  have HS2 := Lib.hid (HS1.out.below hb l1)
  have l2 := HS2.out.lt
  clear hb HB0 HS1 q0 q1 q2 q3 l1 HA
  obtain ⟨q0, q1, q2, q3⟩ := HS2.out.cells
  go_wp2_with fail
  refine (HR.out _).mono ?_
  rintro e2 w2 ⟨rfl, hb⟩
  have HB2 := Lib.hid (HB1.out.trans (hb.mono HB1.out.size))
  have HS3 := Lib.hid (HS2.out.below hb l2)
  have l3 := HS3.out.lt
  clear hb HB1 HS2 q0 q1 q2 q3 l2 HR
  rcases Nat.lt_or_ge 200 s.size with hl | hl
  · have HL := Lib.hid (HLong.out hl)
    clear HLt HLong hEQ hBT
    go_wp2_with fail
    refine (HL.out _).mono ?_
    rintro e3 w3 ⟨rfl, rfl⟩
    go_wp2_with fail
    go_returns
    exact ⟨rfl, HB2.out⟩
  · have d1 : ¬ (200 < s.size) := by omega
    have HL := Lib.hid (HLt.out hl)
    clear HLt HLong hl
    go_wp2_with fail
    refine (HL.out _ (HT.out.to HB2.out)).mono ?_
    intro e3 w3 h3
    obtain ⟨v, rfl, hown⟩ := h3.1 _ _ rfl
    have hb := h3.2.2
    have HB3 := Lib.hid (HB2.out.trans (hb.mono HB2.out.size))
    have HS4 := Lib.hid (HS3.out.below hb l3)
    obtain ⟨g, cp, rfl, -⟩ : ∃ g cp, v = .slice (some ⟨g, 0, none⟩) 1 cp ∧ True := by
      rcases id hown.2 with ⟨rfl, h0⟩ | ⟨g, cp, cur, rfl, -⟩
      · cases h0
      · exact ⟨g, cp, rfl, trivial⟩
    have c : ∀ j, j < 8 → w3.cell? ⟨g, j, none⟩ = (tcs (tka 0 (1, F, 0, 0)))[j]? := fun j hj => by
      rw [hown.cellAt j (by simp; omega), tvs_one]
    have c0 : w3.cell? ⟨g, 0, none⟩ = some (.int .i64 1) := c 0 (by decide)
    have c1 : w3.cell? ⟨g, 1, none⟩ = some (.int .i64 0) := c 1 (by decide)
    have c2 : w3.cell? ⟨g, 2, none⟩ = some (.int .u64 (wd f 0 : Int)) := by rw [← HWD.out 0 (by decide)]; exact c 2 (by decide)
    have c3 : w3.cell? ⟨g, 3, none⟩ = some (.int .u64 (wd f 1 : Int)) := by rw [← HWD.out 1 (by decide)]; exact c 3 (by decide)
    have c4 : w3.cell? ⟨g, 4, none⟩ = some (.int .u64 (wd f 2 : Int)) := by rw [← HWD.out 2 (by decide)]; exact c 4 (by decide)
    have c5 : w3.cell? ⟨g, 5, none⟩ = some (.int .u64 (wd f 3 : Int)) := by rw [← HWD.out 3 (by decide)]; exact c 5 (by decide)
    have c6 : w3.cell? ⟨g, 6, none⟩ = some (.int .i64 0) := c 6 (by decide)
    have c7 : w3.cell? ⟨g, 7, none⟩ = some (.int .i64 0) := c 7 (by decide)
    obtain ⟨q0, q1, q2, q3⟩ := HS4.out.cells
    clear c hown h3 hb HL HB2 HS3 HWD
    go_wp2_with fail
    go_quiet (fail)
    go_wp2_with fail
    go_returns
    exact ⟨rfl, below_drewN _ HB3.out⟩
end Go.Proofs.YtgjpmfdiidkdnaaDoor
