/-
  The walk of the law ParseTokens: it answers true, at any tokens.
  A slice of tokens that comes in as an argument, opened: the tokens that its cells are.
-/
import Derived.Test.YtiahgcgpakgeeaaDoorPk50
import Derived.Test.YtiahgcgpakgeeaaDoorRows
import Derived.Test.YtiahgcgpakgeeaaDoorPk4
import Derived.ProofKit
import Derived.OpenShut
import Derived.Below
import Derived.Laws.IdiomArrays
import Derived.Lib.SmallJoins
import Derived.Deep.Slices
import Derived.ChangeSame
namespace Go.Proofs.YtiahgcgpakgeeaaDoor
open Go.RowKit

set_option maxRecDepth 100000 in
set_option maxHeartbeats 400000 in
theorem ptok_of (T : Nat → Tn) (p : Option Addr) (n0 n cap : Nat) (end_ : Int) (hn0 : n = min n0 300) (hcap : n0 ≤ cap) (w : World) (hT : Okw w)
    (hC : ∀ w', Below w.heap.size w w' → Calls Tryd.prog 5 #[.slice p n cap, .int .i64 end_] w' (ofPost (ofF T n end_) w'))
    (hR : ∀ w', Below w.heap.size w w' → Calls Tryd.prog 6 #[.slice p n cap, .int .i64 end_] w' (ofPost (ofF T n end_) w')) :
    Calls Tryd.prog 3 #[.slice p n0 cap, .int .i64 end_] w fun e w' => e = .returned (.bool true) ∧ Below w.heap.size w w' := by
  subst hn0
  have HC := Lib.hid hC; have HR := Lib.hid hR
  have HLN := Lib.hid (fun l (h : (ofF T (min n0 300) end_).1 = some l) => (⟨(ofF_len h).1, (ofF_len h).2.1⟩ : 1 ≤ l.length ∧ l.length ≤ 512))
  obtain ⟨⟨R0, ra, rb⟩, hRR⟩ : ∃ R, ofF T (min n0 300) end_ = R := ⟨_, rfl⟩
  rw [hRR] at HLN
  replace HC := Lib.hid (fun w' h => by have := HC.out w' h; rw [hRR] at this; exact this)
  replace HR := Lib.hid (fun w' h => by have := HR.out w' h; rw [hRR] at this; exact this)
  have HT := Lib.hid hT
  clear hC hR hT hRR
  have m0 : min (n0 : Int) 300 = ((min n0 300 : Nat) : Int) := by omega
  have m1 : (0 : Int) ≤ ((min n0 300 : Nat) : Int) := by omega
  have m2 : ((min n0 300 : Nat) : Int) ≤ (cap : Int) := by omega
  have m3 : min n0 300 ≤ cap := by omega
  go_enter Tryd.func3, Tryd.ntmps3
  go_wp2_with fail
  refine (awake5_any _ HT.out).mono ?_
  rintro e0 w0 ⟨rfl, hb0⟩
  have HB0 := Lib.hid hb0
  clear hb0 HT
  go_wp2_with fail
  refine (HC.out _ HB0.out).mono ?_
  intro e1 w1 h1
  obtain ⟨v1, rfl⟩ := h1.form
  have HB1 := Lib.hid (HB0.out.trans (h1.2.2.mono HB0.out.size))
  have H1 := Lib.hid h1
  clear h1 HC HB0
  simp only
  go_wp2_with fail
  refine (HR.out _ HB1.out).mono ?_
  intro e2 w2 h2
  obtain ⟨v2, rfl⟩ := h2.form
  have HB2 := Lib.hid (HB1.out.trans (h2.2.2.mono HB1.out.size))
  obtain ⟨⟨q, n', c, q', n'', c', rfl, rfl⟩, hs⟩ := same_of HLN.out H1.out h2
  have HS := Lib.hid hs
  clear h2 hs HB1 HR H1
  simp only
  go_wp2_with fail
  refine HS.out.mono ?_
  rintro e3 w3 ⟨rfl, z, rfl⟩
  clear HS HLN
  go_wp2
  go_ret
  exact ⟨rfl, below_drewN _ HB2.out⟩

theorem ptok_some (T : Nat → Tn) (b off n0 cap : Nat) (end_ : Int) (hcap : n0 ≤ cap) (w : World) (hT : Okw w) (hr : rdTn w b off n0 T) :
    Calls Tryd.prog 3 #[.slice (some ⟨b, off, none⟩) n0 cap, .int .i64 end_] w fun e w' => e = .returned (.bool true) ∧ Below w.heap.size w w' := by
  have h3 : rdTn w b off (min n0 300) T := fun j hj => hr j (by omega)
  exact ptok_of T (some ⟨b, off, none⟩) n0 (min n0 300) cap end_ rfl hcap w hT (fun w' hb => cof_some T _ b off cap end_ (by omega) (by omega) w' (h3.below hb)) (fun w' hb => rof_some T _ b off cap end_ (by omega) w' (h3.below hb))
theorem ptok_zero (p : Option Addr) (cap : Nat) (end_ : Int) (w : World) (hT : Okw w) :
    Calls Tryd.prog 3 #[.slice p 0 cap, .int .i64 end_] w fun e w' => e = .returned (.bool true) ∧ Below w.heap.size w w' :=
  ptok_of (fun _ => ⟨0, 0, 0, 0, 0, 0, 0, 0⟩) p 0 0 cap end_ rfl (Nat.zero_le _) w hT (fun w' _ => cof_zero _ p cap end_ w') (fun w' _ => rof_zero _ p cap end_ w')
end Go.Proofs.YtiahgcgpakgeeaaDoor

namespace Go.Proofs.YtiahgcgpakgeeaaDoor
open Go.ChangeShapes Go.WideShapes Go.ChangeAt Go.RowKit Go.Joins Go.Deep

theorem laidOut : laidOutB Tryd.prog = true := by kernel_rfl
theorem cellsU64 : Tryd.prog.cellsOf 33 = 1 := by kernel_rfl
theorem cellsInt : Tryd.prog.cellsOf 3 = 1 := by kernel_rfl
theorem cellsSet : Tryd.prog.cellsOf 35 = 4 := by kernel_rfl
theorem cellsTok : Tryd.prog.cellsOf 45 = 8 := by kernel_rfl

set_option maxRecDepth 100000 in
theorem open_tok {H : Type} {enc : TypeId × Value → H} {W : World} {b0 n : Nat} {sp : Nat → Bool} {hd : Bool} {cs : List Value} {x : DataW H × List MemPlace} (hl : cs.length = 8)
    (h : DataW.trod enc Tryd.prog W b0 sp hd n 45 cs = some x) : ∃ y : Tn, cs = [.int .i64 y.k, .int .i64 y.p, .int .u64 y.a, .int .u64 y.b, .int .u64 y.c, .int .u64 y.d, .int .i64 y.lo, .int .i64 y.hi] := by
  obtain ⟨xs, k, hk, hxy, _, hxl, hf⟩ := DataW.trod_struct Tryd.underlying45 h
  match xs, hxl, cs, hl with
  | [y0, y1, y2, y3, y4], _, [v0, v1, v2, v3, v4, v5, v6, v7], _ =>
    have g0 := hf 0 _ rfl
    have g1 := hf 1 _ rfl
    have g2 := hf 2 _ rfl
    have g3 := hf 3 _ rfl
    have g4 := hf 4 _ rfl
    simp [cellsInt, cellsSet] at g0 g1 g2 g3 g4
    obtain ⟨x0, e0, _, _⟩ := DataW.trod_int Tryd.underlying3 g0
    obtain ⟨x1, e1, _, _⟩ := DataW.trod_int Tryd.underlying3 g1
    obtain ⟨x3, e3, _, _⟩ := DataW.trod_int Tryd.underlying3 g3
    obtain ⟨x4, e4, _, _⟩ := DataW.trod_int Tryd.underlying3 g4
    obtain ⟨z0, z1, z2, z3, m, _, hy0, hy1, hy2, hy3⟩ := trod_array4 Tryd.underlying35 cellsU64 g2
    obtain ⟨s0, f0, _, _⟩ := DataW.trod_int Tryd.underlying33 hy0
    obtain ⟨s1, f1, _, _⟩ := DataW.trod_int Tryd.underlying33 hy1
    obtain ⟨s2, f2, _, _⟩ := DataW.trod_int Tryd.underlying33 hy2
    obtain ⟨s3, f3, _, _⟩ := DataW.trod_int Tryd.underlying33 hy3
    simp at e0 e1 e3 e4 f0 f1 f2 f3
    subst e0 e1 e3 e4 f0 f1 f2 f3
    exact ⟨⟨x0, x1, s0, s1, s2, s3, x3, x4⟩, rfl⟩

/-- A slice of tokens: no token, at any address; or the tokens that its cells are. -/
theorem open_toks {H : Type} {enc : TypeId × Value → H} {W : World} {b0 n : Nat} {sp : Nat → Bool} {hd : Bool} {a0 : Option Addr} {len0 cap0 : Nat} {x : DataW H × List MemPlace}
    (h : DataW.trod enc Tryd.prog W b0 sp hd n 22 [.slice a0 len0 cap0] = some x) : len0 = 0 ∨ ∃ b off N, a0 = some ⟨b, off, none⟩ ∧ 0 < len0 ∧ len0 ≤ cap0 ∧ rdTn W b off len0 N := by
  rcases open_slice Tryd.underlying22 h with ⟨hcs, _⟩ | ⟨a, len, cap, m, n', D, Pl, hcs, _, hl, _, hmm, _, hi⟩
  · simp at hcs
    exact .inl hcs.2.1
  · simp at hcs
    obtain ⟨rfl, rfl, rfl⟩ := hcs
    have hlm : len0 ≤ m := by rw [hmm]; split <;> omega
    rcases Nat.eq_zero_or_pos len0 with h0 | hpos
    · exact .inl h0
    right
    have hall : ∀ i, i < len0 → ∃ y : Tn, W.cell? (a.add (i * 8)) = some (.int .i64 y.k) ∧ ∀ j, j < 8 → W.cell? ((a.add (i * 8)).add j) = [Value.int .i64 y.k, .int .i64 y.p, .int .u64 y.a, .int .u64 y.b, .int .u64 y.c, .int .u64 y.d, .int .i64 y.lo, .int .i64 y.hi][j]? := fun i him => by
      obtain ⟨cs, hc, ht⟩ := hi i (by omega)
      rw [cellsTok] at hc
      obtain ⟨_, hcl, hat⟩ := World.cells?_some hc
      obtain ⟨y, rfl⟩ := open_tok hcl ht
      exact ⟨y, by simpa [Addr.add] using hat 0 (by decide), hat⟩
    obtain ⟨b, off, spot⟩ := a
    obtain ⟨_, z0, _⟩ := hall 0 hpos
    have hspot : spot = none := by simpa [Addr.add] using World.cell?_spot z0
    subst hspot
    have hb : b < W.heap.size := by have := World.block_lt_of_cell? W _ z0; simpa [Addr.add] using this
    have e8 : ∀ j t, ((⟨b, off, none⟩ : Addr).add (j * 8)).add t = ⟨b, off + j * 8 + t, none⟩ := fun j t => by unfold Addr.add; split <;> split <;> simp_all
    refine ⟨b, off, fun i => if h : i < len0 then (hall i h).choose else ⟨0, 0, 0, 0, 0, 0, 0, 0⟩, rfl, hpos, hl, fun j hj => ⟨hb, ?_⟩⟩
    simp only [dif_pos hj]
    have hs := (hall j hj).choose_spec.2
    generalize (hall j hj).choose = y at hs
    have hs' : ∀ t, t < 8 → W.cell? ⟨b, off + j * 8 + t, none⟩ = [Value.int .i64 y.k, .int .i64 y.p, .int .u64 y.a, .int .u64 y.b, .int .u64 y.c, .int .u64 y.d, .int .i64 y.lo, .int .i64 y.hi][t]? := fun t ht => by
      have := hs t ht
      rwa [e8] at this
    exact ⟨hs' 0 (by decide), hs' 1 (by decide), hs' 2 (by decide), hs' 3 (by decide), hs' 4 (by decide), hs' 5 (by decide), hs' 6 (by decide), hs' 7 (by decide)⟩
end Go.Proofs.YtiahgcgpakgeeaaDoor
