/-
  A slice of nodes that comes in as an argument, opened: the nodes that its cells are, their words such as words may be.
  The walk of the law ShowPatterns.
-/
import Derived.Test.YtgjpmfdiidkdnaaGreatDoorRows
import Derived.Test.YtgjpmfdiidkdnaaGreatDoorPk37
import Derived.Test.YtgjpmfdiidkdnaaGreatDoorPk1
import Derived.ProofKit
import Derived.OpenShut
import Derived.Below
import Derived.Laws.IdiomArrays
import Derived.Lib.SmallJoins
import Derived.Deep.Slices
import Derived.ChangeSame
import Derived.Test.YtgjpmfdiidkdnaaGreatDoorPk51
namespace Go.Proofs.YtgjpmfdiidkdnaaGreatDoor
open Go.ChangeShapes Go.WideShapes Go.ChangeAt Go.RowKit Go.Joins Go.Deep

theorem laidOut : laidOutB Tryz.prog = true := by kernel_rfl
theorem cellsU64 : Tryz.prog.cellsOf 34 = 1 := by kernel_rfl
theorem cellsInt : Tryz.prog.cellsOf 3 = 1 := by kernel_rfl
theorem cellsSet : Tryz.prog.cellsOf 36 = 4 := by kernel_rfl
theorem cellsNode : Tryz.prog.cellsOf 42 = 7 := by kernel_rfl

set_option maxRecDepth 100000 in
theorem open_node {H : Type} {enc : TypeId × Value → H} {W : World} {b0 n : Nat} {sp : Nat → Bool} {hd : Bool} {cs : List Value} {x : DataW H × List MemPlace} (hl : cs.length = 7)
    (h : DataW.trod enc Tryz.prog W b0 sp hd n 42 cs = some x) : ∃ y : Nd, okW y ∧ cs = [.int .i64 y.k, .int .u64 y.a, .int .u64 y.b, .int .u64 y.c, .int .u64 y.d, .int .i64 y.lo, .int .i64 y.hi] := by
  obtain ⟨xs, k, hk, hxy, _, hxl, hf⟩ := DataW.trod_struct Tryz.underlying42 h
  match xs, hxl, cs, hl with
  | [y0, y1, y2, y3], _, [v0, v1, v2, v3, v4, v5, v6], _ =>
    have g0 := hf 0 _ rfl
    have g1 := hf 1 _ rfl
    have g2 := hf 2 _ rfl
    have g3 := hf 3 _ rfl
    simp [cellsInt, cellsSet] at g0 g1 g2 g3
    obtain ⟨x0, e0, _, _⟩ := DataW.trod_int Tryz.underlying3 g0
    obtain ⟨x2, e2, _, _⟩ := DataW.trod_int Tryz.underlying3 g2
    obtain ⟨x3, e3, _, _⟩ := DataW.trod_int Tryz.underlying3 g3
    obtain ⟨z0, z1, z2, z3, m, _, hy0, hy1, hy2, hy3⟩ := trod_array4 Tryz.underlying36 cellsU64 g1
    obtain ⟨s0, f0, _, w0⟩ := DataW.trod_int Tryz.underlying34 hy0
    obtain ⟨s1, f1, _, w1⟩ := DataW.trod_int Tryz.underlying34 hy1
    obtain ⟨s2, f2, _, w2⟩ := DataW.trod_int Tryz.underlying34 hy2
    obtain ⟨s3, f3, _, w3⟩ := DataW.trod_int Tryz.underlying34 hy3
    simp at e0 e2 e3 f0 f1 f2 f3
    subst e0 e2 e3 f0 f1 f2 f3
    have bd : ∀ x : Int, (Lit.int .u64 x).wf = true → 0 ≤ x ∧ x < 18446744073709551616 := by
      intro x hx
      have hw : IntKind.u64.min ≤ x ∧ x ≤ IntKind.u64.max := by simpa [Lit.wf] using hx
      simp [IntKind.min, IntKind.max, IntKind.bits, IntKind.signed] at hw
      exact ⟨by omega, by omega⟩
    exact ⟨⟨x0, s0, s1, s2, s3, x2, x3⟩, ⟨bd _ w0, bd _ w1, bd _ w2, bd _ w3⟩, rfl⟩

theorem add_at {b o j : Nat} : ((⟨b, o, none⟩ : Addr).add j) = ⟨b, o + j, none⟩ := by unfold Addr.add; split <;> simp_all

set_option maxRecDepth 100000 in
/-- A slice of nodes: no node, at any address; or the nodes that its cells are. -/
theorem open_nodes {H : Type} {enc : TypeId × Value → H} {W : World} {b0 n : Nat} {sp : Nat → Bool} {hd : Bool} {a0 : Option Addr} {len0 cap0 : Nat} {x : DataW H × List MemPlace}
    (h : DataW.trod enc Tryz.prog W b0 sp hd n 22 [.slice a0 len0 cap0] = some x) : len0 = 0 ∨ ∃ b off N, a0 = some ⟨b, off, none⟩ ∧ 0 < len0 ∧ len0 ≤ cap0 ∧ rdN W b off len0 N ∧ ∀ j, j < len0 → okW (N j) := by
  rcases open_slice Tryz.underlying22 h with ⟨hcs, _⟩ | ⟨a, len, cap, m, n', D, Pl, hcs, _, hl, _, hmm, _, hi⟩
  · simp at hcs
    exact .inl hcs.2.1
  · simp at hcs
    obtain ⟨rfl, rfl, rfl⟩ := hcs
    have hlm : len0 ≤ m := by rw [hmm]; split <;> omega
    rcases Nat.eq_zero_or_pos len0 with h0 | hpos
    · exact .inl h0
    right
    have hall : ∀ i, i < len0 → ∃ y : Nd, okW y ∧ W.cell? (a.add (i * 7)) = some (.int .i64 y.k) ∧ ∀ j, j < 7 → W.cell? ((a.add (i * 7)).add j) = [Value.int .i64 y.k, .int .u64 y.a, .int .u64 y.b, .int .u64 y.c, .int .u64 y.d, .int .i64 y.lo, .int .i64 y.hi][j]? := fun i him => by
      obtain ⟨cs, hc, ht⟩ := hi i (by omega)
      rw [cellsNode] at hc
      obtain ⟨_, hcl, hat⟩ := World.cells?_some hc
      obtain ⟨y, hw, rfl⟩ := open_node hcl ht
      exact ⟨y, hw, by simpa [Addr.add] using hat 0 (by decide), hat⟩
    obtain ⟨b, off, spot⟩ := a
    obtain ⟨_, _, z0, _⟩ := hall 0 hpos
    have hspot : spot = none := by simpa [Addr.add] using World.cell?_spot z0
    subst hspot
    have hb : b < W.heap.size := by have := World.block_lt_of_cell? W _ z0; simpa [Addr.add] using this
    refine ⟨b, off, fun i => if h : i < len0 then (hall i h).choose else ⟨0, 0, 0, 0, 0, 0, 0⟩, rfl, hpos, hl, fun j hj => ⟨hb, ?_⟩, fun j hj => by simp only [dif_pos hj]; exact (hall j hj).choose_spec.1⟩
    simp only [dif_pos hj]
    have hs := (hall j hj).choose_spec.2.2
    generalize (hall j hj).choose = y at hs
    have hs' : ∀ t, t < 7 → W.cell? ⟨b, off + j * 7 + t, none⟩ = [Value.int .i64 y.k, .int .u64 y.a, .int .u64 y.b, .int .u64 y.c, .int .u64 y.d, .int .i64 y.lo, .int .i64 y.hi][t]? := fun t ht => by
      have := hs t ht
      rwa [add_at, add_at] at this
    exact ⟨hs' 0 (by decide), hs' 1 (by decide), hs' 2 (by decide), hs' 3 (by decide), hs' 4 (by decide), hs' 5 (by decide), hs' 6 (by decide)⟩
end Go.Proofs.YtgjpmfdiidkdnaaGreatDoor

namespace Go.Proofs.YtgjpmfdiidkdnaaGreatDoor
open Go.RowKit

theorem rdN_same {w : World} {b off n : Nat} {N M : Nat → Nd} (h : rdN w b off n N) (hNM : ∀ j, j < n → N j = M j) : rdN w b off n M := fun j hj => by rw [← hNM j hj]; exact h j hj

set_option maxRecDepth 100000 in
set_option maxHeartbeats 2000000 in
theorem spat_none (p : ByteArray) (w : World) (hT : Okw w) (h : (patF p).1 = none) :
    Calls Tryz.prog 4 #[.string p] w fun e w' => e = .returned (.bool true) ∧ Below w.heap.size w w' := by
  have HP := Lib.hid (cpat_any p)
  have h0 := pF_none h
  obtain ⟨⟨R0, ra, rb⟩, hRR⟩ : ∃ R, patF p = R := ⟨_, rfl⟩
  rw [hRR] at HP h h0
  simp only at h h0
  subst h
  have d1 : (rb == 0) = false := beq_eq_false_iff_ne.2 h0
  have HT := Lib.hid hT
  clear hRR hT h0
  go_enter Tryz.func4, Tryz.ntmps4
  go_wp2_with fail
  refine (awake6_any _ HT.out.1).mono ?_
  rintro e0 w0 ⟨rfl, hb0⟩
  have HB0 := Lib.hid hb0
  clear hb0
  go_wp2_with fail
  refine (HP.out _ (HT.out.to HB0.out)).mono ?_
  intro e1 w1 h1
  have HB1 := Lib.hid (HB0.out.trans (h1.2.2.mono HB0.out.size))
  obtain rfl := h1.2.1 rfl
  simp only
  clear h1 HP HB0 HT
  go_wp2_with fail
  go_returns
  exact ⟨rfl, HB1.out⟩

set_option maxRecDepth 100000 in
set_option maxHeartbeats 8000000 in
theorem spat_some (p : ByteArray) (w : World) (hT : Okw w) (l : List Nd) (h : (patF p).1 = some l) :
    Calls Tryz.prog 4 #[.string p] w fun e w' => e = .returned (.bool true) ∧ Below w.heap.size w w' := by
  have hP := cpat_any p
  have hw := pF_okW h
  obtain ⟨-, hl1, hl2, h2, ht, -⟩ := pF_some h
  obtain ⟨R, hRR⟩ : ∃ R, patF p = R := ⟨_, rfl⟩
  rw [hRR] at h h2 hP
  obtain ⟨R0, ra, rb⟩ := R
  simp only [Prod.mk.injEq] at h h2
  obtain ⟨rfl, rfl⟩ := h2
  subst h
  have HP := Lib.hid hP
  have HT := Lib.hid hT
  obtain ⟨n, hn⟩ : ∃ n, l.length = n := ⟨_, rfl⟩
  rw [hn] at hl1 hl2 ht hw
  have HN := Lib.hid hn
  have HTR := Lib.hid ht
  obtain ⟨N, hN⟩ : ∃ N, nfn l = N := ⟨_, rfl⟩
  rw [hN] at ht hw HTR
  have HNN := Lib.hid hN
  have HC := Lib.hid (fun (g cp : Nat) w' (hT : Tabbed w') (hr : rdN w' g 0 n N) => ctext_tree g 0 n cp N ht hw w' hT hr)
  unfold textPost at HC
  have hcast : ((n - 1 : Nat) : Int) = (n : Int) - 1 := by omega
  have hdp := fun (g cp : Nat) w' (hr : rdN w' g 0 n N) => rdepth_is g 0 n cp N ht (n - 1) (by omega) _ rfl w' hr
  rw [hcast] at hdp
  have HD := Lib.hid hdp
  have HSm := Lib.hid (fun (g cp g' cp' : Nat) w' (hc : rdN w' g 0 n N) (hc' : rdN w' g' 0 n N) => same_is N N n (fun _ _ => rfl) (by omega) g 0 cp g' 0 cp' w' hc hc')
  have hp0 : (0 : Int) ≤ (n : Int) - 1 := by omega
  rcases Nat.lt_or_ge 200 (txB N (n - 1)).size with hl | hl
  · rw [showF_long ht (show n - 1 < n by omega) hl] at HC
    simp only at HC
    clear hT hP hRR hw ht hn hN hcast hdp hl
    go_enter Tryz.func4, Tryz.ntmps4
    go_wp2_with fail
    refine (awake6_any _ HT.out.1).mono ?_
    rintro e0 w0 ⟨rfl, hb0⟩
    have HB0 := Lib.hid hb0
    clear hb0
    go_wp2_with fail
    refine (HP.out _ (HT.out.to HB0.out)).mono ?_
    intro e1 w1 h1
    have HB1 := Lib.hid (HB0.out.trans (h1.2.2.mono HB0.out.size))
    obtain ⟨v, rfl, hown⟩ := h1.1 _ rfl
    obtain ⟨g, c, rfl, -⟩ := owns_block hown (by rw [HN.out]; omega)
    have hrd := rdN_own hown
    rw [HN.out, HNN.out] at hrd
    have HRD := Lib.hid hrd
    simp only [HN.out]
    clear h1 hown hrd HP HB0
    go_wp2_with fail
    refine (HC.out _ _ _ (HT.out.1.to HB1.out) HRD.out).mono ?_
    rintro e2 w2 ⟨rfl, hb⟩
    have HB2 := Lib.hid (HB1.out.trans (hb.mono HB1.out.size))
    clear hb HB1
    go_wp2_with fail
    go_returns
    exact ⟨rfl, HB2.out⟩
  · rw [showF_ok ht hl] at HC
    simp only at HC
    have HP2 := Lib.hid (cpat_any (txB N (n - 1)))
    have hsl := seg_len N 0 n
    have hsg : ∀ j, j < n → nfn (seg N 0 n) j = N j := fun j hj => seg_get hj
    have HSG := Lib.hid hsg
    have hpt := pat_two ht hw hl
    generalize txB N (n - 1) = s at *
    clear hT hP hRR hw ht hn hN hcast hdp hl hsg
    go_enter Tryz.func4, Tryz.ntmps4
    go_wp2_with fail
    refine (awake6_any _ HT.out.1).mono ?_
    rintro e0 w0 ⟨rfl, hb0⟩
    have HB0 := Lib.hid hb0
    clear hb0
    go_wp2_with fail
    refine (HP.out _ (HT.out.to HB0.out)).mono ?_
    intro e1 w1 h1
    have HB1 := Lib.hid (HB0.out.trans (h1.2.2.mono HB0.out.size))
    obtain ⟨v, rfl, hown⟩ := h1.1 _ rfl
    obtain ⟨g, c, rfl, -⟩ := owns_block hown (by rw [HN.out]; omega)
    have hrd := rdN_own hown
    rw [HN.out, HNN.out] at hrd
    have HRD := Lib.hid hrd
    simp only [HN.out]
    clear h1 hown hrd HP HB0
    go_wp2_with fail
    refine (HC.out _ _ _ (HT.out.1.to HB1.out) HRD.out).mono ?_
    rintro e2 w2 ⟨rfl, hb⟩
    have HB2 := Lib.hid (HB1.out.trans (hb.mono HB1.out.size))
    have HRD2 := Lib.hid (HRD.out.below hb)
    clear hb HB1 HRD
    go_wp2_with fail
    refine (HP2.out _ (HT.out.to HB2.out)).mono ?_
    intro e3 w3 h3
    have HB3 := Lib.hid (HB2.out.trans (h3.2.2.mono HB2.out.size))
    have HRD3 := Lib.hid (HRD2.out.below h3.2.2)
    rcases hpt with hpt | ⟨⟨x, hpt⟩, hdeep⟩
    · rw [hpt] at h3
      obtain ⟨v, rfl, hown⟩ := h3.1 _ rfl
      obtain ⟨g', c', rfl, -⟩ := owns_block hown (by rw [hsl]; omega)
      have hrd := rdN_own hown
      rw [hsl] at hrd
      have HRO := Lib.hid (rdN_same hrd HSG.out)
      simp only [hsl]
      clear h3 hown hpt hrd HP2 HB2 HD hsl HRD2
      go_wp2_with fail
      refine (HC.out _ _ _ (HT.out.1.to HB3.out) HRO.out).mono ?_
      rintro e4 w4 ⟨rfl, hb⟩
      have HB4 := Lib.hid (HB3.out.trans (hb.mono HB3.out.size))
      have HRD4 := Lib.hid (HRD3.out.below hb)
      have HRO4 := Lib.hid (HRO.out.below hb)
      clear hb HB3 HRD3 HRO HC
      go_wp2_with fail
      refine (HSm.out _ _ _ _ _ HRD4.out HRO4.out).mono ?_
      rintro e5 w5 ⟨rfl, z, rfl⟩
      go_wp2_with fail
      go_returns
      exact ⟨rfl, below_drewN _ HB4.out⟩
    · rw [hpt] at h3
      obtain rfl := h3.2.1 rfl
      simp only
      have d1 : decide ((20 : Int) < dpt N (n - 1)) = true := decide_eq_true hdeep
      clear h3 hpt HP2 HB2 HSm hsl hdeep HC
      go_wp2_with fail
      refine (HD.out _ _ _ HRD3.out).mono ?_
      rintro e4 w4 ⟨rfl, hb⟩
      have HB4 := Lib.hid (HB3.out.trans (hb.mono HB3.out.size))
      clear hb HD HB3
      go_wp2_with fail
      go_returns
      exact ⟨rfl, HB4.out⟩
theorem spat_any (p : ByteArray) (w : World) (hT : Okw w) :
    Calls Tryz.prog 4 #[.string p] w fun e w' => e = .returned (.bool true) ∧ Below w.heap.size w w' := by
  cases h : (patF p).1 with
  | none => exact spat_none p w hT h
  | some l => exact spat_some p w hT l h
end Go.Proofs.YtgjpmfdiidkdnaaGreatDoor
