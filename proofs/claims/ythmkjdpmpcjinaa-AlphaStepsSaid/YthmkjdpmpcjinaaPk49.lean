/-
  A slice of nodes that comes in as an argument, opened: the nodes that its cells are, their words such as words may be.
  An automaton that comes in as an argument, opened: its states are such as its cells are.
  The walks of the tenth reference's Join and Firsts.
-/
import Derived.Test.YthmkjdpmpcjinaaRows
import Derived.Test.YthmkjdpmpcjinaaPk12
import Derived.Test.YthmkjdpmpcjinaaPk9
import Derived.ProofKit
import Derived.OpenShut
import Derived.Below
import Derived.Laws.IdiomArrays
import Derived.Lib.SmallJoins
import Derived.Deep.Slices
import Derived.ChangeSame
import Derived.Test.YthmkjdpmpcjinaaPk15
import Derived.Test.YthmkjdpmpcjinaaPk22
namespace Go.Proofs.Ythmkjdpmpcjinaa
open Go.ChangeShapes Go.WideShapes Go.ChangeAt Go.RowKit Go.Joins Go.Deep

theorem laidOut : laidOutB Try.prog = true := by kernel_rfl
theorem cellsU64 : Try.prog.cellsOf 38 = 1 := by kernel_rfl
theorem cellsInt : Try.prog.cellsOf 3 = 1 := by kernel_rfl
theorem cellsSet : Try.prog.cellsOf 40 = 4 := by kernel_rfl
theorem add_at {b o j : Nat} : ((⟨b, o, none⟩ : Addr).add j) = ⟨b, o + j, none⟩ := by unfold Addr.add; split <;> simp_all

end Go.Proofs.Ythmkjdpmpcjinaa

namespace Go.Proofs.Ythmkjdpmpcjinaa
open Go.ChangeShapes Go.WideShapes Go.ChangeAt Go.RowKit Go.Joins Go.Deep

theorem cellsState : Try.prog.cellsOf 42 = 7 := by kernel_rfl
theorem cellsNfa : Try.prog.cellsOf 24 = 3 := by kernel_rfl
theorem cellsStates : Try.prog.cellsOf 22 = 1 := by kernel_rfl

set_option maxRecDepth 100000 in
theorem open_state {H : Type} {enc : TypeId × Value → H} {W : World} {b0 n : Nat} {sp : Nat → Bool} {hd : Bool} {cs : List Value} {x : DataW H × List MemPlace} (hl : cs.length = 7)
    (h : DataW.trod enc Try.prog W b0 sp hd n 42 cs = some x) : ∃ y : Sd, okWs y ∧ cs = [.int .i64 y.k, .int .i64 y.A, .int .i64 y.B, .int .u64 y.a, .int .u64 y.b, .int .u64 y.c, .int .u64 y.d] := by
  obtain ⟨xs, k, hk, hxy, _, hxl, hf⟩ := DataW.trod_struct Try.underlying42 h
  match xs, hxl, cs, hl with
  | [y0, y1, y2, y3], _, [v0, v1, v2, v3, v4, v5, v6], _ =>
    have g0 := hf 0 _ rfl
    have g1 := hf 1 _ rfl
    have g2 := hf 2 _ rfl
    have g3 := hf 3 _ rfl
    simp [cellsInt, cellsSet] at g0 g1 g2 g3
    obtain ⟨x0, e0, _, _⟩ := DataW.trod_int Try.underlying3 g0
    obtain ⟨x1, e1, _, _⟩ := DataW.trod_int Try.underlying3 g1
    obtain ⟨x2, e2, _, _⟩ := DataW.trod_int Try.underlying3 g2
    obtain ⟨z0, z1, z2, z3, m, _, hy0, hy1, hy2, hy3⟩ := trod_array4 Try.underlying40 cellsU64 g3
    obtain ⟨s0, f0, _, w0⟩ := DataW.trod_int Try.underlying38 hy0
    obtain ⟨s1, f1, _, w1⟩ := DataW.trod_int Try.underlying38 hy1
    obtain ⟨s2, f2, _, w2⟩ := DataW.trod_int Try.underlying38 hy2
    obtain ⟨s3, f3, _, w3⟩ := DataW.trod_int Try.underlying38 hy3
    simp at e0 e1 e2 f0 f1 f2 f3
    subst e0 e1 e2 f0 f1 f2 f3
    have bd : ∀ x : Int, (Lit.int .u64 x).wf = true → 0 ≤ x ∧ x < 18446744073709551616 := by
      intro x hx
      have hw : IntKind.u64.min ≤ x ∧ x ≤ IntKind.u64.max := by simpa [Lit.wf] using hx
      simp [IntKind.min, IntKind.max, IntKind.bits, IntKind.signed] at hw
      exact ⟨by omega, by omega⟩
    exact ⟨⟨x0, s0, s1, s2, s3, x1, x2⟩, ⟨bd _ w0, bd _ w1, bd _ w2, bd _ w3⟩, rfl⟩

set_option maxRecDepth 100000 in
/-- A slice of states: none, at any address; or the states that its cells are. -/
theorem open_states {H : Type} {enc : TypeId × Value → H} {W : World} {b0 n : Nat} {sp : Nat → Bool} {hd : Bool} {a0 : Option Addr} {len0 cap0 : Nat} {x : DataW H × List MemPlace}
    (h : DataW.trod enc Try.prog W b0 sp hd n 22 [.slice a0 len0 cap0] = some x) : len0 = 0 ∨ ∃ b off S, a0 = some ⟨b, off, none⟩ ∧ 0 < len0 ∧ len0 ≤ cap0 ∧ rdS W b off len0 S ∧ ∀ j, j < len0 → okWs (S j) := by
  rcases open_slice Try.underlying22 h with ⟨hcs, _⟩ | ⟨a, len, cap, m, n', D, Pl, hcs, _, hl, _, hmm, _, hi⟩
  · simp at hcs
    exact .inl hcs.2.1
  · simp at hcs
    obtain ⟨rfl, rfl, rfl⟩ := hcs
    have hlm : len0 ≤ m := by rw [hmm]; split <;> omega
    rcases Nat.eq_zero_or_pos len0 with h0 | hpos
    · exact .inl h0
    right
    have hall : ∀ i, i < len0 → ∃ y : Sd, okWs y ∧ W.cell? (a.add (i * 7)) = some (.int .i64 y.k) ∧ ∀ j, j < 7 → W.cell? ((a.add (i * 7)).add j) = [Value.int .i64 y.k, .int .i64 y.A, .int .i64 y.B, .int .u64 y.a, .int .u64 y.b, .int .u64 y.c, .int .u64 y.d][j]? := fun i him => by
      obtain ⟨cs, hc, ht⟩ := hi i (by omega)
      rw [cellsState] at hc
      obtain ⟨_, hcl, hat⟩ := World.cells?_some hc
      obtain ⟨y, hw, rfl⟩ := open_state hcl ht
      exact ⟨y, hw, by simpa [Addr.add] using hat 0 (by decide), hat⟩
    obtain ⟨b, off, spot⟩ := a
    obtain ⟨_, _, z0, _⟩ := hall 0 hpos
    have hspot : spot = none := by simpa [Addr.add] using World.cell?_spot z0
    subst hspot
    have hb : b < W.heap.size := by have := World.block_lt_of_cell? W _ z0; simpa [Addr.add] using this
    refine ⟨b, off, fun i => if h : i < len0 then (hall i h).choose else ⟨0, 0, 0, 0, 0, 0, 0⟩, rfl, hpos, hl, fun j hj => ⟨hb, ?_⟩, fun j hj => by simp only [dif_pos hj]; exact (hall j hj).choose_spec.1⟩
    simp only [dif_pos hj]
    have hs := (hall j hj).choose_spec.2.2
    generalize (hall j hj).choose = y at hs
    have hs' : ∀ t, t < 7 → W.cell? ⟨b, off + j * 7 + t, none⟩ = [Value.int .i64 y.k, .int .i64 y.A, .int .i64 y.B, .int .u64 y.a, .int .u64 y.b, .int .u64 y.c, .int .u64 y.d][t]? := fun t ht => by
      have := hs t ht
      rwa [add_at, add_at] at this
    exact ⟨hs' 0 (by decide), hs' 1 (by decide), hs' 2 (by decide), hs' 3 (by decide), hs' 4 (by decide), hs' 5 (by decide), hs' 6 (by decide)⟩

set_option maxRecDepth 100000 in
/-- An automaton, whatever it is. -/
theorem open_nfa {H : Type} {enc : TypeId × Value → H} {W : World} {base b0 : Nat} {sp : Nat → Bool} {hd : Bool} {v : Value} {d : DataW H} {ps : List MemPlace}
    (hok : Value.okWide Try.prog W .any base 24 v) (h : DataW.Trod enc Try.prog W b0 sp hd 24 v d ps) :
    ∃ p n cap st fin, v = .agg #[.slice p n cap, .int .i64 st, .int .i64 fin] ∧ (n = 0 ∨ ∃ b off S, p = some ⟨b, off, none⟩ ∧ 0 < n ∧ n ≤ cap ∧ rdS W b off n S ∧ ∀ j, j < n → okWs (S j)) := by
  obtain ⟨cs, rfl, hsz⟩ := okWide_struct Try.underlying24 hok
  rw [cellsNfa] at hsz
  obtain ⟨c0, c1, c2, rfl⟩ : ∃ c0 c1 c2, cs = #[c0, c1, c2] := by
    obtain ⟨l⟩ := cs
    match l, hsz with
    | [a, b, c], _ => exact ⟨a, b, c, rfl⟩
  obtain ⟨fuel, hf⟩ := h
  change DataW.trod enc Try.prog W b0 sp hd fuel 24 [c0, c1, c2] = some (d, ps) at hf
  obtain ⟨xs, k, hk, hxy, _, hxl, hg⟩ := DataW.trod_struct Try.underlying24 hf
  match xs, hxl with
  | [y0, y1, y2], _ =>
    have g0 := hg 0 _ rfl
    have g1 := hg 1 _ rfl
    have g2 := hg 2 _ rfl
    simp [cellsInt, cellsStates] at g0 g1 g2
    obtain ⟨x1, e1, _, _⟩ := DataW.trod_int Try.underlying3 g1
    obtain ⟨x2, e2, _, _⟩ := DataW.trod_int Try.underlying3 g2
    have e1' : c1 = .int .i64 x1 := by first | exact e1 | simpa using e1
    have e2' : c2 = .int .i64 x2 := by first | exact e2 | simpa using e2
    clear e1 e2
    subst e1' e2'
    obtain ⟨p, n, cap, rfl⟩ : ∃ p n cap, c0 = .slice p n cap := by
      rcases open_slice Try.underlying22 g0 with ⟨hcs, _⟩ | ⟨a, len, cap, m, n', D, Pl, hcs, _⟩
      · simp at hcs; exact ⟨_, _, _, hcs⟩
      · simp at hcs; exact ⟨_, _, _, hcs⟩
    exact ⟨p, n, cap, x1, x2, rfl, open_states g0⟩
end Go.Proofs.Ythmkjdpmpcjinaa

namespace Go.Proofs.Ythmkjdpmpcjinaa
open Go.RowKit

/-- The least place from x on (of those behind x) that is like i; i, if there is none. -/
def lsA (R : Nat → Nat → Bool) (i : Nat) (x : Int) (at' : Nat) : Prop := at' ≤ i ∧ (at' < i → x < at' ∧ R at' i = true) ∧ ∀ j : Nat, x < j → j < at' → R j i = false
theorem lsA_end {R : Nat → Nat → Bool} {i at' : Nat} (h : lsA R i (-1) at') : hdA R i = at' := by
  obtain ⟨h1, h2, h3⟩ := h
  rcases Nat.lt_or_ge at' i with g | g
  · exact hdA_is g (h2 g).2 fun j hj => h3 j (by omega) hj
  · have e : at' = i := by omega
    subst e
    exact hdA_self fun j hj => h3 j (by omega) hj
theorem lsA_start (R : Nat → Nat → Bool) (i : Nat) : lsA R i ((i : Int) - 1) i := ⟨Nat.le_refl _, fun h => absurd h (Nat.lt_irrefl _), fun _ _ _ => by omega⟩
theorem lsA_in {R : Nat → Nat → Bool} {i k at' : Nat} (_h : lsA R i k at') (hk : k < i) (hR : R k i = true) : lsA R i ((k : Int) - 1) k := ⟨by omega, fun _ => ⟨by omega, hR⟩, fun j h1 h2 => by omega⟩
theorem lsA_out {R : Nat → Nat → Bool} {i k at' : Nat} (h : lsA R i k at') (hR : R k i = false) : lsA R i ((k : Int) - 1) at' := by
  obtain ⟨h1, h2, h3⟩ := h
  refine ⟨h1, fun g => ⟨by have := (h2 g).1; omega, (h2 g).2⟩, fun j g1 g2 => ?_⟩
  by_cases e : j = k
  · subst e; exact hR
  · exact h3 j (by omega) g2
theorem rdL.two {w : World} {p : Option Addr} {n : Nat} {l : Nat → Int} (h : rdL w p n l) {i k : Nat} (hi : i < n) (hk : k < n) : ∃ b o, p = some ⟨b, o, none⟩ ∧ b < w.heap.size ∧ w.cell? ⟨b, o + i, none⟩ = some (.int .i64 (l i)) ∧ w.cell? ⟨b, o + k, none⟩ = some (.int .i64 (l k)) := by
  obtain ⟨b, o, rfl, h1, h2⟩ := h i hi
  obtain ⟨b', o', e, _, h3⟩ := h k hk
  cases e
  exact ⟨b, o, rfl, h1, h2, h3⟩
set_option maxRecDepth 100000 in
set_option maxHeartbeats 8000000 in
theorem join10 (q : Option Addr) (n c : Nat) (l : Nat → Int) (q' : Option Addr) (c' : Nat) (l' : Nat → Int) (hn : n ≤ 1000) (w : World) (hl : rdL w q n l) (hl' : rdL w q' n l') :
    Calls Try.prog 14 #[.slice q n c, .slice q' n c'] w fun e w' => ∃ q2 c2, e = .returned (.tuple #[.slice q2 n c2, .int .i64 (cntT (isH (joR l l')) n : Nat)]) ∧ rdL w' q2 n (fun x => (clA (joR l l') x : Nat)) ∧ Below w.heap.size w w' := by
  have HL := Lib.hid hl; have HL' := Lib.hid hl'
  have n0 : (0 : Int) ≤ (n : Int) := by omega
  have HO0 := Lib.hid (spF_zero w w.heap.size (fun x => (hdA (joR l l') x : Nat)))
  clear hl hl'
  go_enter Try.func14, Try.ntmps14
  go_wp2_with fail
  go_loopw [6, 7] (fun tv iv wr => ∃ i : Nat, i ≤ n ∧ iv = .int .i64 i ∧ Hid (spF wr w.heap.size tv (fun x => (hdA (joR l l') x : Nat)) i) ∧ Hid (Below w.heap.size w wr)) (fun _ iv _ => n - (intOf iv).toNat)
  case atStart => exact ⟨0, Nat.zero_le _, rfl, HO0, Lib.hid (Below.refl _ _)⟩
  case round =>
    clear HO0
    obtain ⟨i, hi, rfl, HO, HB⟩ := hrel
    by_cases hlti : i < n
    · have i0 : (0 : Int) ≤ (i : Int) := by omega
      have i1 : (i : Int) < (n : Int) := by omega
      have HLS0 := Lib.hid (lsA_start (joR l l') i)
      go_wp2_with fail
      go_loopw [8, 9] (fun av kv wx => ∃ (x : Int) (m : Nat), kv = .int .i64 x ∧ -1 ≤ x ∧ x < i ∧ av = .int .i64 (m : Int) ∧ Hid (lsA (joR l l') i x m) ∧ Hid (Below w.heap.size w wx) ∧ Hid (spF wx w.heap.size u6 (fun x => (hdA (joR l l') x : Nat)) i)) (fun _ kv _ => (intOf kv + 1).toNat)
      case atStart => exact ⟨_, i, rfl, by omega, by omega, rfl, HLS0, HB, HO⟩
      case round =>
        clear HLS0 HO HB
        obtain ⟨x, m, rfl, hx1, hx2, rfl, HLS, HBx, HOx⟩ := hrel
        by_cases hx0 : 0 ≤ x
        · obtain ⟨k, rfl⟩ : ∃ k : Nat, x = k := ⟨x.toNat, by omega⟩
          have hki : k < i := by omega
          have k1 : (k : Int) < (n : Int) := by omega
          obtain ⟨lb, lo, rfl, hlb, h1, h2⟩ := (HL.out.below HBx.out).two hlti (show k < n by omega)
          obtain ⟨lb', lo', rfl, hlb', h1', h2'⟩ := (HL'.out.below HBx.out).two hlti (show k < n by omega)
          have hj : joR l l' k i = (l k == l i && l' k == l' i) := rfl
          obtain ⟨u, hu⟩ : ∃ u, l i = u := ⟨_, rfl⟩
          obtain ⟨v, hv⟩ : ∃ v, l k = v := ⟨_, rfl⟩
          obtain ⟨u', hu'⟩ : ∃ u', l' i = u' := ⟨_, rfl⟩
          obtain ⟨v', hv'⟩ : ∃ v', l' k = v' := ⟨_, rfl⟩
          rw [hu] at h1; rw [hv] at h2; rw [hu'] at h1'; rw [hv'] at h2'
          rw [hu, hv, hu', hv'] at hj
          have HJ := Lib.hid hj
          clear hu hv hu' hv' hj
          cases e1 : (v == u)
          · have HS := Lib.hid (lsA_out HLS.out (by rw [HJ.out, e1]; rfl))
            go_wp2_with fail
            go_quiet (fail)
            have HBd := Lib.hid (below_drewN nq HBx.out)
            have HOd := Lib.hid (HOx.out.below (below_drewN nq (Below.refl _ _)))
            go_wp2_with fail
            go_roundw
            case rel => exact ⟨_, _, by go_num, by omega, by omega, rfl, HS, HBd, HOd⟩
            case measure => first | (simp [intOf]; done) | (simp [intOf]; omega)
          cases e2 : (v' == u')
          · have HS := Lib.hid (lsA_out HLS.out (by rw [HJ.out, e1, e2]; rfl))
            go_wp2_with fail
            go_quiet (fail)
            have HBd := Lib.hid (below_drewN nq HBx.out)
            have HOd := Lib.hid (HOx.out.below (below_drewN nq (Below.refl _ _)))
            go_wp2_with fail
            go_roundw
            case rel => exact ⟨_, _, by go_num, by omega, by omega, rfl, HS, HBd, HOd⟩
            case measure => first | (simp [intOf]; done) | (simp [intOf]; omega)
          · have HS := Lib.hid (lsA_in HLS.out hki (by rw [HJ.out, e1, e2]; rfl))
            go_wp2_with fail
            go_quiet (fail)
            have HBd := Lib.hid (below_drewN nq HBx.out)
            have HOd := Lib.hid (HOx.out.below (below_drewN nq (Below.refl _ _)))
            go_wp2_with fail
            go_roundw
            case rel => exact ⟨_, _, by go_num, by omega, by omega, rfl, HS, HBd, HOd⟩
            case measure => first | (simp [intOf]; done) | (simp [intOf]; omega)
        · obtain rfl : x = -1 := by omega
          have HE := Lib.hid (lsA_end HLS.out)
          have hmi := HLS.out.1
          have m0 : (0 : Int) ≤ (m : Int) := by omega
          have HCL : Hid (((hdA (joR l l') i : Nat) : Int) = (m : Int)) := Lib.hid (by rw [HE.out])
          have HS := HBx.out.size
          have HLC : Hid ((wr.alloc (.cells #[.int .i64 (m : Int)] 3)).cell? ⟨wr.heap.size, 0, none⟩ = some (.int .i64 (m : Int))) := Lib.hid (by simp)
          have HLZ : Hid (w.heap.size ≤ (wr.alloc (.cells #[.int .i64 (m : Int)] 3)).heap.size) := Lib.hid (by rw [World.size_alloc]; omega)
          have HO6 := Lib.hid (HOx.out.alloc (.cells #[.int .i64 (m : Int)] 3))
          have HW6 := Lib.hid (HBx.out.alloc HS (.cells #[.int .i64 (m : Int)] 3))
          clear HOx HBx HS HLS HE
          go_wp2_with (at_builtin; refine append_fn rfl _ _ rfl w.heap.size _ (fun x => (hdA (joR l l') x : Nat)) i rfl HO6.out wr.heap.size (m : Int) HCL.out rfl HLC.out (by omega) HLZ.out ?_; intro v9 w9 h9 hg9; have HO9 := Lib.hid h9; have HW9 := Lib.hid (HW6.out.trans (spF.grow (Nat.le_refl _) HLZ.out HO6.out hg9)); clear h9 hg9)
          go_roundw
          case rel => exact ⟨i + 1, by omega, by go_num, HO9, HW9⟩
          case measure => simp [intOf]; omega
    · obtain rfl : i = n := by omega
      obtain ⟨tp, tc, rfl⟩ := spF_of HO.out
      have HN := Lib.hid (num10 (joR l l') (joR_eq l l') tp i tc hn _ HO.out.rd)
      clear HO
      go_wp2_with fail
      refine HN.out.mono ?_
      rintro e w5 ⟨q2, c2, rfl, h1, h2⟩
      have HF := Lib.hid h1
      have HB5 := Lib.hid (HB.out.trans (h2.mono HB.out.size))
      clear h1 h2 HN
      go_wp2_with fail
      go_returns
      exact ⟨_, _, rfl, HF.out, HB5.out⟩

/-- The least place behind x that has c; -1, if there is none. -/
def lsF (l : Nat → Int) (n : Nat) (c : Int) (x : Int) (a : Int) : Prop := (a = -1 ∧ ∀ j : Nat, x < j → j < n → l j ≠ c) ∨ ∃ k : Nat, a = (k : Int) ∧ x < k ∧ k < n ∧ l k = c ∧ ∀ j : Nat, x < j → j < k → l j ≠ c
theorem lsF_start (l : Nat → Int) (n : Nat) (c : Int) : lsF l n c ((n : Int) - 1) (-1) := .inl ⟨rfl, fun j h1 h2 => by omega⟩
theorem lsF_in {l : Nat → Int} {n k : Nat} {c : Int} (hk : k < n) (h : l k = c) : lsF l n c ((k : Int) - 1) (k : Int) := .inr ⟨k, rfl, by omega, hk, h, fun j h1 h2 => by omega⟩
theorem lsF_out {l : Nat → Int} {n k : Nat} {c a : Int} (h : lsF l n c (k : Int) a) (hn : l k ≠ c) : lsF l n c ((k : Int) - 1) a := by
  rcases h with ⟨h1, h2⟩ | ⟨k', h1, h2, h3, h4, h5⟩
  · refine .inl ⟨h1, fun j g1 g2 => ?_⟩
    by_cases e : j = k
    · subst e; exact hn
    · exact h2 j (by omega) g2
  · refine .inr ⟨k', h1, by omega, h3, h4, fun j g1 g2 => ?_⟩
    by_cases e : j = k
    · subst e; exact hn
    · exact h5 j (by omega) g2
theorem lsF_end {l : Nat → Int} {n : Nat} {c a : Int} (h : lsF l n c (-1) a) : fsA l n c = a := by
  unfold fsA
  rcases h with ⟨rfl, h2⟩ | ⟨k, rfl, _, h3, h4, h5⟩
  · rw [find_range_none fun j hj => by simpa using h2 j (by omega) hj]; rfl
  · rw [find_range h3 (by simpa using h4) fun j hj => by simpa using h5 j (by omega) hj]; rfl
set_option maxRecDepth 100000 in
set_option maxHeartbeats 8000000 in
theorem firsts10 (q : Option Addr) (n c : Nat) (l : Nat → Int) (width : Int) (hn : n ≤ 1000) (w : World) (hl : rdL w q n l) :
    Calls Try.prog 13 #[.slice q n c, .int .i64 width] w fun e w' => ∃ q2 c2, e = .returned (.slice q2 (min width 259).toNat c2) ∧ rdL w' q2 (min width 259).toNat (fun j => fsA l n (j : Nat)) ∧ Below w.heap.size w w' := by
  obtain ⟨W, hW⟩ : ∃ W, (min width 259).toNat = W := ⟨_, rfl⟩
  rw [hW]
  have hW1 : W ≤ 259 := by omega
  have hW2 : ∀ k : Nat, k < W → (k : Int) < width ∧ (k : Int) < 259 := fun k hk => by omega
  have hW3 : (decide ((W : Int) < width) && decide ((W : Int) < 259)) = false := by
    rw [← Bool.decide_and]
    exact decide_eq_false (by omega)
  have HW2 := Lib.hid hW2; have HW3 := Lib.hid hW3
  have HL := Lib.hid hl
  have n0 : (0 : Int) ≤ (n : Int) := by omega
  have n1 : (n : Int) ≤ 1000 := by omega
  have HO0 := Lib.hid (spF_zero w w.heap.size (fun j => fsA l n (j : Nat)))
  clear hl hW hW2 hW3
  go_enter Try.func13, Try.ntmps13
  go_wp2_with fail
  go_loopw [5, 6] (fun tv iv wr => ∃ i : Nat, i ≤ W ∧ iv = .int .i64 i ∧ Hid (spF wr w.heap.size tv (fun j => fsA l n (j : Nat)) i) ∧ Hid (Below w.heap.size w wr)) (fun _ iv _ => W - (intOf iv).toNat)
  case atStart => exact ⟨0, Nat.zero_le _, rfl, HO0, Lib.hid (Below.refl _ _)⟩
  case round =>
    clear HO0
    obtain ⟨i, hi, rfl, HO, HB⟩ := hrel
    by_cases hlti : i < W
    · have i0 : (0 : Int) ≤ (i : Int) := by omega
      obtain ⟨i1, i2⟩ := HW2.out i hlti
      have HLS0 := Lib.hid (lsF_start l n (i : Int))
      go_wp2_with fail
      go_loopw [7, 8] (fun av kv wx => ∃ (x a : Int), kv = .int .i64 x ∧ -1 ≤ x ∧ x < n ∧ av = .int .i64 a ∧ Hid (lsF l n (i : Int) x a) ∧ Hid (Below w.heap.size w wx) ∧ Hid (spF wx w.heap.size u5 (fun j => fsA l n (j : Nat)) i)) (fun _ kv _ => (intOf kv + 1).toNat)
      case atStart => exact ⟨_, _, rfl, by omega, by omega, rfl, HLS0, HB, HO⟩
      case round =>
        clear HLS0 HO HB
        obtain ⟨x, a, rfl, hx1, hx2, rfl, HLS, HBx, HOx⟩ := hrel
        by_cases hx0 : 0 ≤ x
        · obtain ⟨k, rfl⟩ : ∃ k : Nat, x = k := ⟨x.toNat, by omega⟩
          have hkn : k < n := by omega
          obtain ⟨lb, lo, rfl, hlb, hlc⟩ := (HL.out.below HBx.out) k hkn
          obtain ⟨u, hu⟩ : ∃ u, l k = u := ⟨_, rfl⟩
          have HU := Lib.hid hu
          rw [hu] at hlc
          clear hu
          cases e1 : (u == (i : Int))
          · have HS := Lib.hid (lsF_out HLS.out (by rw [HU.out]; simpa using e1))
            go_wp2_with fail
            go_roundw
            case rel => exact ⟨_, _, by go_num, by omega, by omega, rfl, HS, HBx, HOx⟩
            case measure => first | (simp [intOf]; done) | (simp [intOf]; omega)
          · have HS := Lib.hid (lsF_in hkn (show l k = (i : Int) by rw [HU.out]; simpa using e1))
            go_wp2_with fail
            go_roundw
            case rel => exact ⟨_, _, by go_num, by omega, by omega, rfl, HS, HBx, HOx⟩
            case measure => first | (simp [intOf]; done) | (simp [intOf]; omega)
        · obtain rfl : x = -1 := by omega
          have HCL := Lib.hid (lsF_end HLS.out)
          have HS := HBx.out.size
          have HLC : Hid ((wr.alloc (.cells #[.int .i64 a] 3)).cell? ⟨wr.heap.size, 0, none⟩ = some (.int .i64 a)) := Lib.hid (by simp)
          have HLZ : Hid (w.heap.size ≤ (wr.alloc (.cells #[.int .i64 a] 3)).heap.size) := Lib.hid (by rw [World.size_alloc]; omega)
          have HO6 := Lib.hid (HOx.out.alloc (.cells #[.int .i64 a] 3))
          have HW6 := Lib.hid (HBx.out.alloc HS (.cells #[.int .i64 a] 3))
          clear HOx HBx HS HLS
          go_wp2_with (at_builtin; refine append_fn rfl _ _ rfl w.heap.size _ (fun j => fsA l n (j : Nat)) i rfl HO6.out wr.heap.size a HCL.out rfl HLC.out (by omega) HLZ.out ?_; intro v9 w9 h9 hg9; have HO9 := Lib.hid h9; have HW9 := Lib.hid (HW6.out.trans (spF.grow (Nat.le_refl _) HLZ.out HO6.out hg9)); clear h9 hg9)
          go_roundw
          case rel => exact ⟨i + 1, by omega, by go_num, HO9, HW9⟩
          case measure => simp [intOf]; omega
    · obtain rfl : i = W := by omega
      obtain ⟨tp, tc, rfl⟩ := spF_of HO.out
      have HF := Lib.hid HO.out.rd
      clear HO
      cases d1 : decide ((i : Int) < width)
      · go_wp2_with fail
        go_returns
        exact ⟨_, _, rfl, HF.out, HB.out⟩
      · have d2 : decide ((i : Int) < 259) = false := by have := HW3.out; rw [d1] at this; simpa using this
        go_wp2_with fail
        go_returns
        exact ⟨_, _, rfl, HF.out, HB.out⟩
end Go.Proofs.Ythmkjdpmpcjinaa
