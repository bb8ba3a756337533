/-
  The walk of the seventh reference's Fit, where a node has two arguments.
-/
import Derived.Test.YtepegohopgnmnaaPk9
import Derived.Test.YtepegohopgnmnaaPk11
import Derived.Deep.RegionHeldLaw
namespace Go.Proofs.Ytepegohopgnmnaa
open Go.RowKit

/-- What Fit tells: a grid of the call's own. -/
def fitPost (n : Nat) (F : Gr) (w : World) (e : Ending) (w' : World) : Prop := ∃ v, e = .returned v ∧ grd w' w.heap.size v n F ∧ Below w.heap.size w w'

set_option maxRecDepth 100000 in
set_option maxHeartbeats 8000000 in
theorem fit_cat (b off n cap : Nat) (N : Nat → Nd) (hn : n ≤ 512) (i p q : Nat) (hi : i < n) (hfst : 0 ≤ fst N i) (hkids : kids N i = [(q : Int), (p : Int)]) (hk0 : (N i).k = 5) (s : ByteArray) (m : Nat) (hm : s.size = m) (hm10 : m ≤ 1000) (Fq Fp : Gr) (w : World) (hr : rdN w b off n N)
    (hQ : ∀ w', Below w.heap.size w w' → Calls Try.prog 37 #[.slice (some ⟨b, off, none⟩) n cap, .int .i64 (q : Int), .string s] w' (fitPost m Fq w'))
    (hP : ∀ w', Below w.heap.size w w' → Calls Try.prog 37 #[.slice (some ⟨b, off, none⟩) n cap, .int .i64 (p : Int), .string s] w' (fitPost m Fp w')) :
    Calls Try.prog 37 #[.slice (some ⟨b, off, none⟩) n cap, .int .i64 (i : Int), .string s] w (fitPost m (behB m Fq Fp) w) := by
  have hKd := rkids_is b off n cap i N (by omega) hi hfst w hr
  rw [hkids] at hKd
  have HKd := Lib.hid hKd; have HQ := Lib.hid hQ; have HP := Lib.hid hP; have HRD := Lib.hid hr; have HK0 := Lib.hid hk0
  have i0 : (0 : Int) ≤ (i : Int) := by omega
  have i1 : (i : Int) < (n : Int) := by omega
  have HLaw := Lib.hid (fun va vb w' (h1 : rdG w' va m Fq) (h2 : rdG w' vb m Fp) => gbehind_any m hm10 Fq Fp va vb w' h1 h2)
  have HGrid := Lib.hid (grid_any m hm10)
  clear hKd hQ hP hr hk0 hkids hfst
  go_enter Try.func37, Try.ntmps37
  go_wp2_with fail
  refine HKd.out.mono ?_
  rintro e w2 ⟨kv, rfl, hkv, hb⟩
  obtain ⟨gk, ck, rfl, hgk, q0, q1⟩ : ∃ gk ck, kv = .slice (some ⟨gk, 0, none⟩) 2 ck ∧ gk < w2.heap.size ∧ w2.cell? ⟨gk, 0, none⟩ = some (.int .i64 (q : Int)) ∧ w2.cell? ⟨gk, 1, none⟩ = some (.int .i64 (p : Int)) := by
    rcases hkv with ⟨_, _, _, h⟩ | ⟨g, c, rfl, hg, hc⟩
    · cases h
    · exact ⟨g, c, rfl, hg, hc 0 (by simp), hc 1 (by simp)⟩
  have HB2 := Lib.hid hb
  clear hb hkv HKd
  go_wp2_with fail
  refine (HGrid.out _).mono ?_
  rintro e w3 ⟨vg, rfl, -, hb⟩
  have HB3 := Lib.hid (HB2.out.trans (hb.mono HB2.out.size))
  have p0 := ((HRD.out.below HB3.out) i hi).2.1
  rw [HK0.out] at p0
  have hgk3 : gk < w3.heap.size := by have := hb.size; omega
  have q0' : w3.cell? ⟨gk, 0, none⟩ = some (.int .i64 (q : Int)) := by rw [hb.cell (p := ⟨gk, 0, none⟩) hgk]; exact q0
  have q1' : w3.cell? ⟨gk, 1, none⟩ = some (.int .i64 (p : Int)) := by rw [hb.cell (p := ⟨gk, 1, none⟩) hgk]; exact q1
  clear hb HB2 q0 q1 hgk HGrid
  have hB := Below.refl w3.heap.size w3
  have HKp : Hid (∀ w', Below w3.heap.size w3 w' → w'.cell? ⟨gk, 0, none⟩ = some (.int .i64 (q : Int)) ∧ w'.cell? ⟨gk, 1, none⟩ = some (.int .i64 (p : Int))) := Lib.hid fun w' hb' =>
    ⟨by rw [hb'.cell (p := ⟨gk, 0, none⟩) hgk3]; exact q0', by rw [hb'.cell (p := ⟨gk, 1, none⟩) hgk3]; exact q1'⟩
  have HBW : Hid (∀ w', Below w3.heap.size w3 w' → Below w.heap.size w w') := Lib.hid fun w' hb' => HB3.out.trans (hb'.mono HB3.out.size)
  clear HRD
  go_wp2_with fail
  go_region_held_law (fun w' => w'.cell? ⟨gk, 0, none⟩ = some (.int .i64 (q : Int)) ∧ w'.cell? ⟨gk, 1, none⟩ = some (.int .i64 (p : Int)))
    (first | exact HKp.out _ hB | exact HKp.out _ hB.drew)
    (first
      | (go_at_call 37; (with_reducible refine (HQ.out _ ?t1).mono ?_); (case t1 => exact HBW.out _ hB.drew); rintro e wk ⟨v1, rfl, hg, hb⟩; have R1 := Lib.hid (rdG.of hg); (replace hB : Below w3.heap.size w3 wk := hB.drew.trans (hb.mono (by exact hB.size))); clear hb hg)
      | (go_at_call 37; (with_reducible refine (HP.out _ ?t2).mono ?_); (case t2 => exact HBW.out _ hB); rintro e wk ⟨v2, rfl, hg, hb⟩; have R2 := Lib.hid (rdG.of hg); have R1x := Lib.hid (R1.out.below hb (Nat.le_refl _)); clear R1; (replace hB : Below w3.heap.size w3 wk := hB.trans (hb.mono (by exact hB.size))); clear hb hg)
      | (go_at_call 63; (with_reducible refine (HLaw.out _ _ _ R1x.out R2.out).mono ?_); rintro e wk ⟨v3, rfl, hg, hb⟩; have HG3 := Lib.hid (hg : grd _ _ _ _ _); have HBs := Lib.hid hB.size; (replace hB : Below w3.heap.size w3 wk := hB.trans (hb.mono (by exact hB.size))); clear hb hg R1x R2))
  have HB4 := Lib.hid (HBW.out _ hB)
  clear hB
  go_wp2_with fail
  go_returns
  exact ⟨_, rfl, by obtain ⟨r, hg⟩ := HG3.out; exact ⟨r, hg.mono (by have := HBs.out; have := HB3.out.size; omega)⟩, HB4.out⟩

set_option maxRecDepth 100000 in
set_option maxHeartbeats 8000000 in
theorem fit_or (b off n cap : Nat) (N : Nat → Nd) (hn : n ≤ 512) (i p q : Nat) (hi : i < n) (hfst : 0 ≤ fst N i) (hkids : kids N i = [(q : Int), (p : Int)]) (hk0 : (N i).k = 6) (s : ByteArray) (m : Nat) (hm : s.size = m) (hm10 : m ≤ 1000) (Fq Fp : Gr) (w : World) (hr : rdN w b off n N)
    (hQ : ∀ w', Below w.heap.size w w' → Calls Try.prog 37 #[.slice (some ⟨b, off, none⟩) n cap, .int .i64 (q : Int), .string s] w' (fitPost m Fq w'))
    (hP : ∀ w', Below w.heap.size w w' → Calls Try.prog 37 #[.slice (some ⟨b, off, none⟩) n cap, .int .i64 (p : Int), .string s] w' (fitPost m Fp w')) :
    Calls Try.prog 37 #[.slice (some ⟨b, off, none⟩) n cap, .int .i64 (i : Int), .string s] w (fitPost m (eitB Fq Fp) w) := by
  have hKd := rkids_is b off n cap i N (by omega) hi hfst w hr
  rw [hkids] at hKd
  have HKd := Lib.hid hKd; have HQ := Lib.hid hQ; have HP := Lib.hid hP; have HRD := Lib.hid hr; have HK0 := Lib.hid hk0
  have i0 : (0 : Int) ≤ (i : Int) := by omega
  have i1 : (i : Int) < (n : Int) := by omega
  have HLaw := Lib.hid (fun va vb w' (h1 : rdG w' va m Fq) (h2 : rdG w' vb m Fp) => either_g m hm10 Fq Fp va vb w' h1 h2)
  have HGrid := Lib.hid (grid_any m hm10)
  clear hKd hQ hP hr hk0 hkids hfst
  go_enter Try.func37, Try.ntmps37
  go_wp2_with fail
  refine HKd.out.mono ?_
  rintro e w2 ⟨kv, rfl, hkv, hb⟩
  obtain ⟨gk, ck, rfl, hgk, q0, q1⟩ : ∃ gk ck, kv = .slice (some ⟨gk, 0, none⟩) 2 ck ∧ gk < w2.heap.size ∧ w2.cell? ⟨gk, 0, none⟩ = some (.int .i64 (q : Int)) ∧ w2.cell? ⟨gk, 1, none⟩ = some (.int .i64 (p : Int)) := by
    rcases hkv with ⟨_, _, _, h⟩ | ⟨g, c, rfl, hg, hc⟩
    · cases h
    · exact ⟨g, c, rfl, hg, hc 0 (by simp), hc 1 (by simp)⟩
  have HB2 := Lib.hid hb
  clear hb hkv HKd
  go_wp2_with fail
  refine (HGrid.out _).mono ?_
  rintro e w3 ⟨vg, rfl, -, hb⟩
  have HB3 := Lib.hid (HB2.out.trans (hb.mono HB2.out.size))
  have p0 := ((HRD.out.below HB3.out) i hi).2.1
  rw [HK0.out] at p0
  have hgk3 : gk < w3.heap.size := by have := hb.size; omega
  have q0' : w3.cell? ⟨gk, 0, none⟩ = some (.int .i64 (q : Int)) := by rw [hb.cell (p := ⟨gk, 0, none⟩) hgk]; exact q0
  have q1' : w3.cell? ⟨gk, 1, none⟩ = some (.int .i64 (p : Int)) := by rw [hb.cell (p := ⟨gk, 1, none⟩) hgk]; exact q1
  clear hb HB2 q0 q1 hgk HGrid
  have hB := Below.refl w3.heap.size w3
  have HKp : Hid (∀ w', Below w3.heap.size w3 w' → w'.cell? ⟨gk, 0, none⟩ = some (.int .i64 (q : Int)) ∧ w'.cell? ⟨gk, 1, none⟩ = some (.int .i64 (p : Int))) := Lib.hid fun w' hb' =>
    ⟨by rw [hb'.cell (p := ⟨gk, 0, none⟩) hgk3]; exact q0', by rw [hb'.cell (p := ⟨gk, 1, none⟩) hgk3]; exact q1'⟩
  have HBW : Hid (∀ w', Below w3.heap.size w3 w' → Below w.heap.size w w') := Lib.hid fun w' hb' => HB3.out.trans (hb'.mono HB3.out.size)
  clear HRD
  go_wp2_with fail
  go_region_held_law (fun w' => w'.cell? ⟨gk, 0, none⟩ = some (.int .i64 (q : Int)) ∧ w'.cell? ⟨gk, 1, none⟩ = some (.int .i64 (p : Int)))
    (first | exact HKp.out _ hB | exact HKp.out _ hB.drew)
    (first
      | (go_at_call 37; (with_reducible refine (HQ.out _ ?t1).mono ?_); (case t1 => exact HBW.out _ hB.drew); rintro e wk ⟨v1, rfl, hg, hb⟩; have R1 := Lib.hid (rdG.of hg); (replace hB : Below w3.heap.size w3 wk := hB.drew.trans (hb.mono (by exact hB.size))); clear hb hg)
      | (go_at_call 37; (with_reducible refine (HP.out _ ?t2).mono ?_); (case t2 => exact HBW.out _ hB); rintro e wk ⟨v2, rfl, hg, hb⟩; have R2 := Lib.hid (rdG.of hg); have R1x := Lib.hid (R1.out.below hb (Nat.le_refl _)); clear R1; (replace hB : Below w3.heap.size w3 wk := hB.trans (hb.mono (by exact hB.size))); clear hb hg)
      | (go_at_call 64; (with_reducible refine (HLaw.out _ _ _ R1x.out R2.out).mono ?_); rintro e wk ⟨v3, rfl, hg, hb⟩; have HG3 := Lib.hid (hg : grd _ _ _ _ _); have HBs := Lib.hid hB.size; (replace hB : Below w3.heap.size w3 wk := hB.trans (hb.mono (by exact hB.size))); clear hb hg R1x R2))
  have HB4 := Lib.hid (HBW.out _ hB)
  clear hB
  go_wp2_with fail
  go_returns
  exact ⟨_, rfl, by obtain ⟨r, hg⟩ := HG3.out; exact ⟨r, hg.mono (by have := HBs.out; have := HB3.out.size; omega)⟩, HB4.out⟩
end Go.Proofs.Ytepegohopgnmnaa
