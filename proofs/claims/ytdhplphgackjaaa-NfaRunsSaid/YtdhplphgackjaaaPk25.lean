/-
  The walk of the seventh reference's Fit, where a node is a set.
-/
import Derived.Test.YtdhplphgackjaaaPk24
import Derived.Test.YtdhplphgackjaaaPk20
namespace Go.Proofs.Ytdhplphgackjaaa
open Go.RowKit

/-- The bytes of a text. -/
def tx7 (s : ByteArray) (x : Nat) : Nat := if h : x < s.size then (s[x]'h).toNat else 0
theorem tx7_lt (s : ByteArray) (x : Nat) : tx7 s x < 256 := by
  unfold tx7
  split
  · exact UInt8.toNat_lt _
  · decide
theorem ix_str (s : ByteArray) (x : Nat) (h : x < s.size) (hs : s.size ≤ 1000) (w : World) : (Instr.index 9 (.string s) (.int .i64 (x : Int))).run Try.prog w = .ok (.int .u8 (tx7 s x : Nat)) w := by
  have h0 : (0 : Int) ≤ (x : Int) := by omega
  have h1 : (x : Int) < (s.size : Int) := by omega
  have hw : IntKind.i64.wrap (x : Int) = (x : Int) := by rw [IntKind.wrap_i64]; omega
  unfold tx7
  rw [dif_pos h]
  go_simp
/-- So far: the places ahead of x. -/
def setC (f : Nat → Bool) (tx : Nat → Nat) (x : Nat) : Gr := fun a c => decide (a < x) && (decide (c = a + 1) && f (tx a))
theorem setC_put (f : Nat → Bool) (tx : Nat → Nat) (x a c : Nat) : putG (setC f tx x) x (x + 1) (f (tx x)) a c = setC f tx (x + 1) a c := by
  unfold putG setC
  by_cases h1 : a = x
  · subst h1
    rw [if_pos rfl]
    by_cases h2 : c = a + 1
    · rw [if_pos h2, decide_eq_true h2, decide_eq_true (show a < a + 1 by omega)]; rfl
    · rw [if_neg h2, decide_eq_false h2]; simp
  · rw [if_neg h1]
    have hx : (a < x) ↔ (a < x + 1) := by omega
    simp only [hx]

set_option maxRecDepth 100000 in
set_option maxHeartbeats 8000000 in
theorem fit_set (b off n cap : Nat) (N : Nat → Nd) (hn : n ≤ 512) (i : Nat) (hi : i < n) (hfst : 0 ≤ fst N i) (hkids : kids N i = []) (hk0 : (N i).k = 1) (hw : okW (N i)) (s : ByteArray) (m : Nat) (hm : s.size = m) (hm10 : m ≤ 1000) (w : World) (hr : rdN w b off n N) :
    Calls Try.prog 35 #[.slice (some ⟨b, off, none⟩) n cap, .int .i64 (i : Int), .string s] w (fitPost m (setC (fOf (N i)) (tx7 s) m) w) := by
  have hwd := fOf_wd hw
  obtain ⟨f, hf⟩ : ∃ f, fOf (N i) = f := ⟨_, rfl⟩
  rw [hf] at hwd ⊢
  have hKd := rkids_is b off n cap i N (by omega) hi hfst w hr
  rw [hkids] at hKd
  have HKd := Lib.hid hKd; have HRD := Lib.hid hr; have HK0 := Lib.hid hk0
  have i0 : (0 : Int) ≤ (i : Int) := by omega
  have i1 : (i : Int) < (n : Int) := by omega
  have HGrid := Lib.hid (grid_any m hm10)
  clear hKd hr hk0 hkids hfst hf
  go_enter Try.func35, Try.ntmps35
  go_wp2_with fail
  refine HKd.out.mono ?_
  rintro e w2 ⟨kv, rfl, -, hb⟩
  have HB2 := Lib.hid hb
  clear hb HKd
  go_wp2_with fail
  refine (HGrid.out _).mono ?_
  rintro e w3 ⟨vg, rfl, ⟨r, hg⟩, hb⟩
  have HB3 := Lib.hid (HB2.out.trans (hb.mono HB2.out.size))
  have p0 := ((HRD.out.below HB3.out) i hi).2.1
  rw [HK0.out] at p0
  have HG := Lib.hid (hg.mono HB2.out.size)
  clear hb HB2 HGrid hg
  have hrow := (HRD.out i hi).2
  have hb0 : b < w.heap.size := (HRD.out i hi).1
  obtain ⟨-, s0, s1, s2, s3, -⟩ := hrow
  rw [hwd.1] at s0
  rw [hwd.2.1] at s1
  rw [hwd.2.2.1] at s2
  rw [hwd.2.2.2] at s3
  have HIx := Lib.hid (fun x (h : x < m) w => ix_str s x (by omega) (by omega) w)
  obtain ⟨go, gc, rfl, -⟩ := HG.out.outer
  have HSet : Hid (∀ w', Below w.heap.size w w' → w'.cell? ⟨b, off + i * 7 + 1, none⟩ = some (.int .u64 (wd f 0 : Int)) ∧ w'.cell? ⟨b, off + i * 7 + 2, none⟩ = some (.int .u64 (wd f 1 : Int)) ∧ w'.cell? ⟨b, off + i * 7 + 3, none⟩ = some (.int .u64 (wd f 2 : Int)) ∧ w'.cell? ⟨b, off + i * 7 + 4, none⟩ = some (.int .u64 (wd f 3 : Int))) := Lib.hid fun w' hb' => by
    refine ⟨?_, ?_, ?_, ?_⟩
    · rw [hb'.cell (p := ⟨b, off + i * 7 + 1, none⟩) hb0]; exact s0
    · rw [hb'.cell (p := ⟨b, off + i * 7 + 2, none⟩) hb0]; exact s1
    · rw [hb'.cell (p := ⟨b, off + i * 7 + 3, none⟩) hb0]; exact s2
    · rw [hb'.cell (p := ⟨b, off + i * 7 + 4, none⟩) hb0]; exact s3
  clear hwd s0 s1 s2 s3 HRD
  go_wp2_with fail
  go_loopw [10] (fun xv wr => ∃ x : Nat, x ≤ m ∧ xv = .int .i64 x ∧ Hid (grK wr w.heap.size (.slice (some ⟨go, 0, none⟩) (m + 1) gc) m (m + 1) r (setC f (tx7 s) x)) ∧ Below w.heap.size w wr) (fun xv _ => m - (intOf xv).toNat)
  case atStart => exact ⟨0, Nat.zero_le _, rfl, Lib.hid (HG.out.same fun a c _ _ => by simp [setC]), HB3.out⟩
  case round =>
    obtain ⟨x, hx, rfl, HGx, hBx⟩ := hrel
    by_cases hlt : x < m
    · have d1 : decide ((x : Int) < (m : Int)) = true := decide_eq_true (by omega)
      obtain ⟨go', gc', hv, -, hgo, hco⟩ := HGx.out.outer
      simp only [Value.slice.injEq, Option.some.injEq, Addr.mk.injEq, and_true, true_and] at hv
      obtain ⟨rfl, rfl⟩ := hv
      have q0 := hco x (by omega)
      obtain ⟨q1, q2, q3, q4⟩ := HGx.out.at (i := x) (j := x + 1) (by omega) (by omega)
      obtain ⟨e0, e1, e2, e3⟩ := HSet.out _ hBx
      have hIx := HIx.out x hlt
      have hc := tx7_lt s x
      have HHas := Lib.hid (rhas_lit f (tx7 s x) hc)
      have hput := (HGx.out.put (i := x) (j := x + 1) (by omega) (f (tx7 s x))).same fun a c _ _ => setC_put f (tx7 s) x a c
      have HBx := Lib.hid hBx
      have x0 : (0 : Int) ≤ (x : Int) := by omega
      have x1 : (x : Int) < (m : Int) + 1 := by omega
      have x2 : (0 : Int) ≤ (x : Int) + 1 := by omega
      have x3 : (x : Int) + 1 < (m : Int) + 1 := by omega
      have hbr : b ≠ r x := by omega
      have hgr : go ≠ r x := by
        have hne := rows_apt7 HGx.out.1 (HGx.out.2.1 x (by omega)) (by decide)
        rcases hne with h | h
        · cases h
        · intro e; exact h (by rw [e]; rfl)
      have hB := Below.refl wr.heap.size wr
      have HK : Hid (∀ w', Below wr.heap.size wr w' → (w'.cell? ⟨go, x, none⟩ = some (.slice (some ⟨r x, 0, none⟩) (m + 1) (m + 1)) ∧ w'.cell? ⟨b, off + i * 7 + 1, none⟩ = some (.int .u64 (wd f 0 : Int)) ∧ w'.cell? ⟨b, off + i * 7 + 2, none⟩ = some (.int .u64 (wd f 1 : Int)) ∧ w'.cell? ⟨b, off + i * 7 + 3, none⟩ = some (.int .u64 (wd f 2 : Int)) ∧ w'.cell? ⟨b, off + i * 7 + 4, none⟩ = some (.int .u64 (wd f 3 : Int)))) := Lib.hid fun w' hb' => by
        have hbz : b < wr.heap.size := World.block_lt_of_cell? wr _ e0
        exact ⟨by rw [hb'.cell (p := ⟨go, x, none⟩) hgo]; exact q0, by rw [hb'.cell (p := ⟨b, off + i * 7 + 1, none⟩) hbz]; exact e0, by rw [hb'.cell (p := ⟨b, off + i * 7 + 2, none⟩) hbz]; exact e1, by rw [hb'.cell (p := ⟨b, off + i * 7 + 3, none⟩) hbz]; exact e2, by rw [hb'.cell (p := ⟨b, off + i * 7 + 4, none⟩) hbz]; exact e3⟩
      have HK2 : Hid (∀ w' u, Below wr.heap.size wr w' → ((w'.setCell ⟨r x, x + 1, none⟩ u).cell? ⟨go, x, none⟩ = some (.slice (some ⟨r x, 0, none⟩) (m + 1) (m + 1)) ∧ (w'.setCell ⟨r x, x + 1, none⟩ u).cell? ⟨b, off + i * 7 + 1, none⟩ = some (.int .u64 (wd f 0 : Int)) ∧ (w'.setCell ⟨r x, x + 1, none⟩ u).cell? ⟨b, off + i * 7 + 2, none⟩ = some (.int .u64 (wd f 1 : Int)) ∧ (w'.setCell ⟨r x, x + 1, none⟩ u).cell? ⟨b, off + i * 7 + 3, none⟩ = some (.int .u64 (wd f 2 : Int)) ∧ (w'.setCell ⟨r x, x + 1, none⟩ u).cell? ⟨b, off + i * 7 + 4, none⟩ = some (.int .u64 (wd f 3 : Int)))) := Lib.hid fun w' u hb' => by
        obtain ⟨k0, k1, k2, k3, k4⟩ := HK.out w' hb'
        have ho : ∀ (bb o : Nat), bb ≠ r x → (w'.setCell ⟨r x, x + 1, none⟩ u).cell? ⟨bb, o, none⟩ = w'.cell? ⟨bb, o, none⟩ := fun bb o hne => World.cell?_of_block (heap_setCell_other w' ⟨r x, x + 1, none⟩ bb u hne)
        exact ⟨by rw [ho _ _ hgr]; exact k0, by rw [ho _ _ hbr]; exact k1, by rw [ho _ _ hbr]; exact k2, by rw [ho _ _ hbr]; exact k3, by rw [ho _ _ hbr]; exact k4⟩
      have HPl : Hid (∀ w', Below wr.heap.size wr w' → grK w' w.heap.size (.slice (some ⟨go, 0, none⟩) (m + 1) gc) m (m + 1) r (setC f (tx7 s) x)) := Lib.hid fun w' hb' => HGx.out.below hb'
      have HFin : Hid (∀ w', Below wr.heap.size wr w' → grK (w'.setCell ⟨r x, x + 1, none⟩ (.bool (f (tx7 s x)))) w.heap.size (.slice (some ⟨go, 0, none⟩) (m + 1) gc) m (m + 1) r (setC f (tx7 s) (x + 1))) := Lib.hid fun w' hb' => ((HGx.out.below hb').put (i := x) (j := x + 1) (by omega) (f (tx7 s x))).same fun a c _ _ => setC_put f (tx7 s) x a c
      have HBf : Hid (∀ w' u, Below wr.heap.size wr w' → Below w.heap.size w (w'.setCell ⟨r x, x + 1, none⟩ u)) := Lib.hid fun w' u hb' => (HBx.out.trans (hb'.mono HBx.out.size)).setCell (p := ⟨r x, x + 1, none⟩) q3 u
      generalize tx7 s x = c at *
      have hx64 : IntKind.i64.wrap ((x : Int) + 1) = (x : Int) + 1 := by rw [IntKind.wrap_i64]; omega
      have hw64 : IntKind.i64.wrap (c : Int) = (c : Int) := by rw [IntKind.wrap_i64]; omega
      clear hco hBx hput HGx e0 e1 e2 e3 q0 q1 q2
      go_wp2_with fail
      go_region_held_law (fun w' => w'.cell? ⟨go, x, none⟩ = some (.slice (some ⟨r x, 0, none⟩) (m + 1) (m + 1)) ∧ w'.cell? ⟨b, off + i * 7 + 1, none⟩ = some (.int .u64 (wd f 0 : Int)) ∧ w'.cell? ⟨b, off + i * 7 + 2, none⟩ = some (.int .u64 (wd f 1 : Int)) ∧ w'.cell? ⟨b, off + i * 7 + 3, none⟩ = some (.int .u64 (wd f 2 : Int)) ∧ w'.cell? ⟨b, off + i * 7 + 4, none⟩ = some (.int .u64 (wd f 3 : Int)))
        (first | with_reducible exact HK.out _ hB | with_reducible exact HK.out _ hB.drew | with_reducible exact HK2.out _ _ hB)
        (first | (go_at_call 39; (with_reducible refine (HHas.out _).mono ?_); rintro e wk ⟨rfl, hb⟩; (replace hB : Below wr.heap.size wr wk := hB.drew.trans (hb.mono (by exact hB.size))); clear hb; obtain ⟨t1, t2, t3, -⟩ := (HPl.out _ hB).at (i := x) (j := x + 1) (by omega) (by omega)))
      have HG9 := Lib.hid (HFin.out _ hB)
      have HB9 := Lib.hid (HBf.out _ (.bool (f c)) hB)
      clear hB HFin HBf HPl HK HK2
      go_wp2_with fail
      go_roundw
      case rel => exact ⟨x + 1, by omega, by go_num, HG9, HB9.out⟩
      case measure => simp [intOf]; omega
    · have hxm : x = m := by omega
      subst hxm
      have d1 : decide ((x : Int) < (x : Int)) = false := decide_eq_false (by omega)
      have HB := Lib.hid hBx
      have HE : Hid (grd wr w.heap.size (.slice (some ⟨go, 0, none⟩) (x + 1) gc) x (setC f (tx7 s) x)) := Lib.hid ⟨r, HGx.out⟩
      clear hBx
      go_wp2_with fail
      go_returns
      exact ⟨.slice (some ⟨go, 0, none⟩) (x + 1) gc, rfl, HE.out, HB.out⟩
end Go.Proofs.Ytdhplphgackjaaa
