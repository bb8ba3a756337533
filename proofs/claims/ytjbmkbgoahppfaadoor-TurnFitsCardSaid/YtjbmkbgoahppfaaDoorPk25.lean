/-
  The walk of the seventh reference's Fit, where a node is a repeat.
  The walk of the seventh reference's Fit, where a node is empty, a beginning or an end.
  The walk of the seventh reference's Fit, where a node is a set.
  What the seventh reference's Fit and All tell of a tree: which parts fit.
-/
import Derived.Test.YtjbmkbgoahppfaaDoorPk24
import Derived.Test.YtjbmkbgoahppfaaDoorPk6
namespace Go.Proofs.YtjbmkbgoahppfaaDoor
open Go.RowKit

/-- What a repeat's grid is behind some rounds. -/
def accB (n : Nat) (x : Gr) (lo : Nat) : Nat → Gr
  | 0 => powB n x lo
  | j + 1 => eitB (accB n x lo j) (powB n x (lo + j + 1))
theorem grd.below {w w' : World} {base n : Nat} {v : Value} {G : Gr} (h : grd w base v n G) (hb : Below w.heap.size w w') : grd w' base v n G := by
  obtain ⟨r, h⟩ := h
  exact ⟨r, h.below hb⟩
theorem grd.lift {w : World} {base base' n : Nat} {v : Value} {G : Gr} (h : grd w base v n G) (hb : base' ≤ base) : grd w base' v n G := by
  obtain ⟨r, h⟩ := h
  exact ⟨r, h.mono hb⟩

set_option maxRecDepth 100000 in
set_option maxHeartbeats 8000000 in
theorem fit_rep (b off n cap : Nat) (N : Nat → Nd) (hn : n ≤ 512) (i p : Nat) (hi : i < n) (hfst : 0 ≤ fst N i) (hkids : kids N i = [(p : Int)]) (hk0 : (N i).k = 7) (l : Nat) (hl : (N i).lo = (l : Int)) (hl32 : l ≤ 32) (hh : (N i).hi = -1 ∨ ((l : Int) ≤ (N i).hi ∧ (N i).hi ≤ 32))
    (s : ByteArray) (m : Nat) (hm : s.size = m) (hm10 : m ≤ 1000) (F : Gr) (w : World) (hr : rdN w b off n N)
    (hP : ∀ w', Below w.heap.size w w' → Calls Tryd.prog 22 #[.slice (some ⟨b, off, none⟩) n cap, .int .i64 (p : Int), .string s] w' (fitPost m F w')) :
    Calls Tryd.prog 22 #[.slice (some ⟨b, off, none⟩) n cap, .int .i64 (i : Int), .string s] w (fitPost m (accB m F l (moreN m l (N i).hi)) w) := by
  have hKd := rkids_is b off n cap i N (by omega) hi hfst w hr
  rw [hkids] at hKd
  have HKd := Lib.hid hKd; have HP := Lib.hid hP; have HRD := Lib.hid hr; have HK0 := Lib.hid hk0; have HL := Lib.hid hl
  obtain ⟨hv, hhv⟩ : ∃ x, (N i).hi = x := ⟨_, rfl⟩
  rw [hhv] at hh ⊢
  have HH := Lib.hid hhv
  obtain ⟨mo, hmo⟩ : ∃ x, moreN m l hv = x := ⟨_, rfl⟩
  have HMO : Hid ((hv = -1 → mo = m) ∧ (hv ≠ -1 → (mo : Int) = hv - l)) := Lib.hid (by
    unfold moreN at hmo
    refine ⟨fun h => by rw [if_pos h] at hmo; exact hmo.symm, fun h => ?_⟩
    rw [if_neg h] at hmo
    omega)
  have hmo1 : mo ≤ 1000 := by
    rcases hh with h | h
    · have := HMO.out.1 h; omega
    · have := HMO.out.2 (by omega); omega
  rw [hmo]
  have i0 : (0 : Int) ≤ (i : Int) := by omega
  have i1 : (i : Int) < (n : Int) := by omega
  have HBeh := Lib.hid (fun (A B : Gr) va vb w' (h1 : rdG w' va m A) (h2 : rdG w' vb m B) => gbehind_any m hm10 A B va vb w' h1 h2)
  have HEit := Lib.hid (fun (A B : Gr) va vb w' (h1 : rdG w' va m A) (h2 : rdG w' vb m B) => either_g m hm10 A B va vb w' h1 h2)
  have HEven := Lib.hid (even_any m hm10)
  have HGrid := Lib.hid (grid_any m hm10)
  clear hKd hP hr hk0 hkids hfst hl hhv hmo
  go_enter Tryd.func22, Tryd.ntmps22
  go_wp2_with fail
  refine HKd.out.mono ?_
  rintro e w2 ⟨kv, rfl, hkv, hb⟩
  obtain ⟨gk, ck, rfl, hgk, q0⟩ : ∃ gk ck, kv = .slice (some ⟨gk, 0, none⟩) 1 ck ∧ gk < w2.heap.size ∧ w2.cell? ⟨gk, 0, none⟩ = some (.int .i64 (p : Int)) := by
    rcases hkv with ⟨_, _, _, h⟩ | ⟨g, c, rfl, hg, hc⟩
    · cases h
    · exact ⟨g, c, rfl, hg, hc 0 (by simp)⟩
  have HB2 := Lib.hid hb
  clear hb hkv HKd
  go_wp2_with fail
  refine (HGrid.out _).mono ?_
  rintro e w3 ⟨vg, rfl, -, hb⟩
  have HB3 := Lib.hid (HB2.out.trans (hb.mono HB2.out.size))
  have p0 := ((HRD.out.below HB3.out) i hi).2.1
  rw [HK0.out] at p0
  have q0' : w3.cell? ⟨gk, 0, none⟩ = some (.int .i64 (p : Int)) := by rw [hb.cell (p := ⟨gk, 0, none⟩) hgk]; exact q0
  clear hb HB2 q0 hgk HGrid
  go_wp2_with fail
  refine (HP.out _ HB3.out).mono ?_
  rintro e w4 ⟨vx, rfl, hgx, hb⟩
  have HB4 := Lib.hid (HB3.out.trans (hb.mono HB3.out.size))
  have HX4 := Lib.hid (rdG.of hgx)
  clear hb HB3 hgx HP p0 q0'
  go_wp2_with fail
  refine (HEven.out _).mono ?_
  rintro e w5 ⟨vp, rfl, hgp, hb⟩
  have HB5 := Lib.hid (HB4.out.trans (hb.mono HB4.out.size))
  have HX5 := Lib.hid (HX4.out.below hb (Nat.le_refl _))
  have HG5 := Lib.hid (hgp.lift HB4.out.size)
  clear hb hgp HB4 HX4 HEven
  have HC : Hid (∀ w', Below w.heap.size w w' → w'.cell? ⟨b, off + i * 7 + 5, none⟩ = some (.int .i64 (l : Int)) ∧ w'.cell? ⟨b, off + i * 7 + 6, none⟩ = some (.int .i64 hv)) := Lib.hid fun w' hB => by
    obtain ⟨-, -, -, -, -, c5, c6⟩ := ((HRD.out.below hB) i hi).2
    rw [HL.out] at c5
    rw [HH.out] at c6
    exact ⟨c5, c6⟩
  clear HRD HK0 HL HH
  go_wp2_with fail
  go_loopw [12, 13] (fun pv jv wr => ∃ k : Nat, k ≤ l ∧ jv = .int .i64 k ∧ Hid (grd wr w.heap.size pv m (powB m F k)) ∧ Hid (rdG wr vx m F) ∧ Below w.heap.size w wr) (fun _ jv _ => l - (intOf jv).toNat)
  case atStart => exact ⟨0, Nat.zero_le _, rfl, HG5, HX5, HB5.out⟩
  case round =>
    obtain ⟨k, hk, rfl, HG, HX, hB⟩ := hrel
    have HB := Lib.hid hB
    clear hB
    obtain ⟨c5, c6⟩ := HC.out _ HB.out
    by_cases hlt : k < l
    · have d1 : decide ((k : Int) < (l : Int)) = true := decide_eq_true (by omega)
      go_wp2_with fail
      refine (HBeh.out _ _ _ _ _ (rdG.of HG.out) HX.out).mono ?_
      rintro e w6 ⟨v6, rfl, hg, hb⟩
      have HG6 : Hid (grd w6 w.heap.size v6 m (powB m F (k + 1))) := Lib.hid (hg.lift HB.out.size)
      have HX6 := Lib.hid (HX.out.below hb (Nat.le_refl _))
      have HB6 := Lib.hid (HB.out.trans (hb.mono HB.out.size))
      clear hg hb
      go_wp2_with fail
      go_roundw
      case rel => exact ⟨k + 1, by omega, by go_num, HG6, HX6, HB6.out⟩
      case measure => simp [intOf]; omega
    · have hkl : k = l := by omega
      subst hkl
      have d1 : decide ((k : Int) < (k : Int)) = false := decide_eq_false (by omega)
      go_wp2_with fail
      by_cases hm1 : hv = -1
      · obtain rfl : mo = m := HMO.out.1 hm1
        subst hm1
        have hw1 : IntKind.i64.wrap (-1 - (k : Int)) = -1 - (k : Int) := by rw [IntKind.wrap_i64]; omega
        clear HMO hh
        go_region_held_law (fun w' => w'.cell? ⟨b, off + i * 7 + 5, none⟩ = some (.int .i64 (k : Int)) ∧ w'.cell? ⟨b, off + i * 7 + 6, none⟩ = some (.int .i64 (-1))) (exact ⟨c5, c6⟩) (fail)
        all_goals
          have HG6 : Hid (grd wr.drew w.heap.size u12 mo (powB mo F k)) := Lib.hid (HG.out.below (Below.refl _ _).drew)
          have HX6 : Hid (rdG wr.drew vx mo F) := Lib.hid (HX.out.below (Below.refl wr.heap.size wr).drew (Nat.le_refl _))
          have HB6 := Lib.hid HB.out.drew
          have c6' := (HC.out _ HB6.out).2
          clear HG HX HB c5 c6 HG5 HX5 HB5
          generalize wr.drew = W at *
          go_wp2_with fail
          go_loopw [9, 12, 15] (fun gv pv jv wr => ∃ j : Nat, j ≤ mo ∧ jv = .int .i64 j ∧ Hid (grd wr w.heap.size gv mo (accB mo F k j)) ∧ Hid (rdG wr pv mo (powB mo F (k + j))) ∧ Hid (rdG wr vx mo F) ∧ Below w.heap.size w wr) (fun _ _ jv _ => mo - (intOf jv).toNat)
          case atStart => exact ⟨0, Nat.zero_le _, rfl, HG6, Lib.hid (rdG.of HG6.out), HX6, HB6.out⟩
          case round =>
            obtain ⟨j, hj, rfl, HG, HP, HX, hB⟩ := hrel
            have HB := Lib.hid hB
            clear hB
            by_cases hlt : j < mo
            · have d1 : decide ((j : Int) < (mo : Int)) = true := decide_eq_true (by omega)
              go_wp2_with fail
              refine (HBeh.out _ _ _ _ _ HP.out HX.out).mono ?_
              rintro e w6 ⟨v6, rfl, hg, hb⟩
              have HP6 : Hid (rdG w6 v6 mo (powB mo F (k + (j + 1)))) := Lib.hid (rdG.of hg)
              have HG6 := Lib.hid (HG.out.below hb)
              have HX6 := Lib.hid (HX.out.below hb (Nat.le_refl _))
              have HB6 := Lib.hid (HB.out.trans (hb.mono HB.out.size))
              clear hg hb HP HG HX HB
              go_wp2_with fail
              refine (HEit.out _ _ _ _ _ (rdG.of HG6.out) HP6.out).mono ?_
              rintro e w7 ⟨v7, rfl, hg, hb⟩
              have HG7 : Hid (grd w7 w.heap.size v7 mo (accB mo F k (j + 1))) := Lib.hid (hg.lift HB6.out.size)
              have HP7 := Lib.hid (HP6.out.below hb (Nat.le_refl _))
              have HX7 := Lib.hid (HX6.out.below hb (Nat.le_refl _))
              have HB7 := Lib.hid (HB6.out.trans (hb.mono HB6.out.size))
              clear hg hb HP6 HG6 HX6 HB6
              go_wp2_with fail
              go_roundw
              case rel => exact ⟨j + 1, by omega, by go_num, HG7, HP7, HX7, HB7.out⟩
              case measure => simp [intOf]; omega
            · have hjm : j = mo := by omega
              have d1 : decide ((j : Int) < (mo : Int)) = false := decide_eq_false (by omega)
              have HGE : Hid (grd wr w.heap.size u9 mo (accB mo F k mo)) := Lib.hid (hjm ▸ HG.out)
              clear hjm HG HP HX
              go_wp2_with fail
              go_returns
              exact ⟨_, rfl, HGE.out, HB.out⟩
      · have hmo2 := HMO.out.2 hm1
        have e1 : (hv == -1) = false := beq_eq_false_iff_ne.2 hm1
        have hw1 : IntKind.i64.wrap (hv - (k : Int)) = (mo : Int) := by rw [IntKind.wrap_i64]; omega
        clear HMO hh hm1 hmo2
        go_region_held_law (fun w' => w'.cell? ⟨b, off + i * 7 + 5, none⟩ = some (.int .i64 (k : Int)) ∧ w'.cell? ⟨b, off + i * 7 + 6, none⟩ = some (.int .i64 hv)) (exact ⟨c5, c6⟩) (fail)
        all_goals
          have HG6 : Hid (grd wr.drew w.heap.size u12 m (powB m F k)) := Lib.hid (HG.out.below (Below.refl _ _).drew)
          have HX6 : Hid (rdG wr.drew vx m F) := Lib.hid (HX.out.below (Below.refl wr.heap.size wr).drew (Nat.le_refl _))
          have HB6 := Lib.hid HB.out.drew
          have c6' := (HC.out _ HB6.out).2
          clear HG HX HB c5 c6 HG5 HX5 HB5
          generalize wr.drew = W at *
          go_wp2_with fail
          go_loopw [9, 12, 15] (fun gv pv jv wr => ∃ j : Nat, j ≤ mo ∧ jv = .int .i64 j ∧ Hid (grd wr w.heap.size gv m (accB m F k j)) ∧ Hid (rdG wr pv m (powB m F (k + j))) ∧ Hid (rdG wr vx m F) ∧ Below w.heap.size w wr) (fun _ _ jv _ => mo - (intOf jv).toNat)
          case atStart => exact ⟨0, Nat.zero_le _, rfl, HG6, Lib.hid (rdG.of HG6.out), HX6, HB6.out⟩
          case round =>
            obtain ⟨j, hj, rfl, HG, HP, HX, hB⟩ := hrel
            have HB := Lib.hid hB
            clear hB
            by_cases hlt : j < mo
            · have d1 : decide ((j : Int) < (mo : Int)) = true := decide_eq_true (by omega)
              go_wp2_with fail
              refine (HBeh.out _ _ _ _ _ HP.out HX.out).mono ?_
              rintro e w6 ⟨v6, rfl, hg, hb⟩
              have HP6 : Hid (rdG w6 v6 m (powB m F (k + (j + 1)))) := Lib.hid (rdG.of hg)
              have HG6 := Lib.hid (HG.out.below hb)
              have HX6 := Lib.hid (HX.out.below hb (Nat.le_refl _))
              have HB6 := Lib.hid (HB.out.trans (hb.mono HB.out.size))
              clear hg hb HP HG HX HB
              go_wp2_with fail
              refine (HEit.out _ _ _ _ _ (rdG.of HG6.out) HP6.out).mono ?_
              rintro e w7 ⟨v7, rfl, hg, hb⟩
              have HG7 : Hid (grd w7 w.heap.size v7 m (accB m F k (j + 1))) := Lib.hid (hg.lift HB6.out.size)
              have HP7 := Lib.hid (HP6.out.below hb (Nat.le_refl _))
              have HX7 := Lib.hid (HX6.out.below hb (Nat.le_refl _))
              have HB7 := Lib.hid (HB6.out.trans (hb.mono HB6.out.size))
              clear hg hb HP6 HG6 HX6 HB6
              go_wp2_with fail
              go_roundw
              case rel => exact ⟨j + 1, by omega, by go_num, HG7, HP7, HX7, HB7.out⟩
              case measure => simp [intOf]; omega
            · have hjm : j = mo := by omega
              have d1 : decide ((j : Int) < (mo : Int)) = false := decide_eq_false (by omega)
              have HGE : Hid (grd wr w.heap.size u9 m (accB m F k mo)) := Lib.hid (hjm ▸ HG.out)
              clear hjm HG HP HX
              go_wp2_with fail
              go_returns
              exact ⟨_, rfl, HGE.out, HB.out⟩
end Go.Proofs.YtjbmkbgoahppfaaDoor

namespace Go.Proofs.YtjbmkbgoahppfaaDoor
open Go.RowKit

set_option maxRecDepth 100000 in
set_option maxHeartbeats 4000000 in
theorem fit_empty (b off n cap : Nat) (N : Nat → Nd) (hn : n ≤ 512) (i : Nat) (hi : i < n) (hfst : 0 ≤ fst N i) (hkids : kids N i = []) (hk0 : (N i).k = 2) (s : ByteArray) (m : Nat) (hm : s.size = m) (hm10 : m ≤ 1000) (w : World) (hr : rdN w b off n N) :
    Calls Tryd.prog 22 #[.slice (some ⟨b, off, none⟩) n cap, .int .i64 (i : Int), .string s] w (fitPost m (evenB m) w) := by
  have hKd := rkids_is b off n cap i N (by omega) hi hfst w hr
  rw [hkids] at hKd
  have HKd := Lib.hid hKd; have HRD := Lib.hid hr; have HK0 := Lib.hid hk0
  have i0 : (0 : Int) ≤ (i : Int) := by omega
  have i1 : (i : Int) < (n : Int) := by omega
  have HGrid := Lib.hid (grid_any m hm10)
  clear hKd hr hk0 hkids hfst
  go_enter Tryd.func22, Tryd.ntmps22
  go_wp2_with fail
  refine HKd.out.mono ?_
  rintro e w2 ⟨kv, rfl, -, hb⟩
  have HB2 := Lib.hid hb
  clear hb HKd
  go_wp2_with fail
  refine (HGrid.out _).mono ?_
  rintro e w3 ⟨vg, rfl, ⟨r, hg⟩, hb⟩
  have HB3 := Lib.hid (HB2.out.trans (hb.mono HB2.out.size))
  have p0 := ((HRD.out.below HB3.out) i hi).2.1
  rw [HK0.out] at p0
  have HG := Lib.hid (hg.mono HB2.out.size)
  clear hb HB2 HGrid hg HRD
  have HE := Lib.hid (even_any m hm10)
  go_wp2_with fail
  refine (HE.out _).mono ?_
  rintro e w4 ⟨v4, rfl, ⟨r4, hg4⟩, hb⟩
  have HB4 := Lib.hid (HB3.out.trans (hb.mono HB3.out.size))
  have HG4 := Lib.hid (hg4.mono HB3.out.size)
  clear hb hg4
  go_wp2_with fail
  go_returns
  exact ⟨_, rfl, ⟨r4, HG4.out⟩, HB4.out⟩

set_option maxRecDepth 100000 in
set_option maxHeartbeats 4000000 in
theorem fit_begin (b off n cap : Nat) (N : Nat → Nd) (hn : n ≤ 512) (i : Nat) (hi : i < n) (hfst : 0 ≤ fst N i) (hkids : kids N i = []) (hk0 : (N i).k = 3) (s : ByteArray) (m : Nat) (hm : s.size = m) (hm10 : m ≤ 1000) (w : World) (hr : rdN w b off n N) :
    Calls Tryd.prog 22 #[.slice (some ⟨b, off, none⟩) n cap, .int .i64 (i : Int), .string s] w (fitPost m (fun x y => decide (x = 0) && decide (y = 0)) w) := by
  have hKd := rkids_is b off n cap i N (by omega) hi hfst w hr
  rw [hkids] at hKd
  have HKd := Lib.hid hKd; have HRD := Lib.hid hr; have HK0 := Lib.hid hk0
  have i0 : (0 : Int) ≤ (i : Int) := by omega
  have i1 : (i : Int) < (n : Int) := by omega
  have HGrid := Lib.hid (grid_any m hm10)
  clear hKd hr hk0 hkids hfst
  go_enter Tryd.func22, Tryd.ntmps22
  go_wp2_with fail
  refine HKd.out.mono ?_
  rintro e w2 ⟨kv, rfl, -, hb⟩
  have HB2 := Lib.hid hb
  clear hb HKd
  go_wp2_with fail
  refine (HGrid.out _).mono ?_
  rintro e w3 ⟨vg, rfl, ⟨r, hg⟩, hb⟩
  have HB3 := Lib.hid (HB2.out.trans (hb.mono HB2.out.size))
  have p0 := ((HRD.out.below HB3.out) i hi).2.1
  rw [HK0.out] at p0
  have HG := Lib.hid (hg.mono HB2.out.size)
  clear hb HB2 HGrid hg HRD
  obtain ⟨go, gc, rfl, -, -, hco⟩ := HG.out.outer
  have q0 := hco 0 (by omega)
  obtain ⟨q1, q2, q3, -⟩ := HG.out.at (i := 0) (j := 0) (by omega) (by omega)
  have HG2 : Hid (grK (w3.setCell ⟨r 0, 0, none⟩ (.bool true)) w.heap.size (.slice (some ⟨go, 0, none⟩) (m + 1) gc) m (m + 1) r (fun x y => decide (x = 0) && decide (y = 0))) := Lib.hid ((HG.out.put (i := 0) (j := 0) (by omega) true).same fun x y _ _ => by
    unfold putG
    by_cases h1 : x = 0
    · by_cases h2 : y = 0
      · simp [h1, h2]
      · simp [h1, h2]
    · simp [h1])
  have HB4 : Hid (Below w.heap.size w (w3.setCell ⟨r 0, 0, none⟩ (.bool true))) := Lib.hid (HB3.out.setCell (p := ⟨r 0, 0, none⟩) q3 (.bool true))
  have m0 : (0 : Int) ≤ (m : Int) := by omega
  have m1 : (m : Int) < (m : Int) + 1 := by omega
  have m2 : (0 : Int) < (m : Int) + 1 := by omega
  clear hco q3 HG HB3
  go_wp2_with fail
  go_returns
  exact ⟨_, rfl, ⟨r, HG2.out⟩, HB4.out⟩

set_option maxRecDepth 100000 in
set_option maxHeartbeats 4000000 in
theorem fit_end (b off n cap : Nat) (N : Nat → Nd) (hn : n ≤ 512) (i : Nat) (hi : i < n) (hfst : 0 ≤ fst N i) (hkids : kids N i = []) (hk0 : (N i).k = 4) (s : ByteArray) (m : Nat) (hm : s.size = m) (hm10 : m ≤ 1000) (w : World) (hr : rdN w b off n N) :
    Calls Tryd.prog 22 #[.slice (some ⟨b, off, none⟩) n cap, .int .i64 (i : Int), .string s] w (fitPost m (fun x y => decide (x = m) && decide (y = m)) w) := by
  have hKd := rkids_is b off n cap i N (by omega) hi hfst w hr
  rw [hkids] at hKd
  have HKd := Lib.hid hKd; have HRD := Lib.hid hr; have HK0 := Lib.hid hk0
  have i0 : (0 : Int) ≤ (i : Int) := by omega
  have i1 : (i : Int) < (n : Int) := by omega
  have HGrid := Lib.hid (grid_any m hm10)
  clear hKd hr hk0 hkids hfst
  go_enter Tryd.func22, Tryd.ntmps22
  go_wp2_with fail
  refine HKd.out.mono ?_
  rintro e w2 ⟨kv, rfl, -, hb⟩
  have HB2 := Lib.hid hb
  clear hb HKd
  go_wp2_with fail
  refine (HGrid.out _).mono ?_
  rintro e w3 ⟨vg, rfl, ⟨r, hg⟩, hb⟩
  have HB3 := Lib.hid (HB2.out.trans (hb.mono HB2.out.size))
  have p0 := ((HRD.out.below HB3.out) i hi).2.1
  rw [HK0.out] at p0
  have HG := Lib.hid (hg.mono HB2.out.size)
  clear hb HB2 HGrid hg HRD
  obtain ⟨go, gc, rfl, -, -, hco⟩ := HG.out.outer
  have q0 := hco m (by omega)
  obtain ⟨q1, q2, q3, -⟩ := HG.out.at (i := m) (j := m) (by omega) (by omega)
  have HG2 : Hid (grK (w3.setCell ⟨r m, m, none⟩ (.bool true)) w.heap.size (.slice (some ⟨go, 0, none⟩) (m + 1) gc) m (m + 1) r (fun x y => decide (x = m) && decide (y = m))) := Lib.hid ((HG.out.put (i := m) (j := m) (by omega) true).same fun x y _ _ => by
    unfold putG
    by_cases h1 : x = m
    · by_cases h2 : y = m
      · simp [h1, h2]
      · simp [h1, h2]
    · simp [h1])
  have HB4 : Hid (Below w.heap.size w (w3.setCell ⟨r m, m, none⟩ (.bool true))) := Lib.hid (HB3.out.setCell (p := ⟨r m, m, none⟩) q3 (.bool true))
  have m0 : (0 : Int) ≤ (m : Int) := by omega
  have m1 : (m : Int) < (m : Int) + 1 := by omega
  have m2 : (0 : Int) < (m : Int) + 1 := by omega
  clear hco q3 HG HB3
  go_wp2_with fail
  go_returns
  exact ⟨_, rfl, ⟨r, HG2.out⟩, HB4.out⟩
end Go.Proofs.YtjbmkbgoahppfaaDoor

namespace Go.Proofs.YtjbmkbgoahppfaaDoor
open Go.RowKit

/-- The bytes of a text. -/
def tx7 (s : ByteArray) (x : Nat) : Nat := if h : x < s.size then (s[x]'h).toNat else 0
theorem tx7_lt (s : ByteArray) (x : Nat) : tx7 s x < 256 := by
  unfold tx7
  split
  · exact UInt8.toNat_lt _
  · decide
theorem ix_str (s : ByteArray) (x : Nat) (h : x < s.size) (hs : s.size ≤ 1000) (w : World) : (Instr.index 9 (.string s) (.int .i64 (x : Int))).run Tryd.prog w = .ok (.int .u8 (tx7 s x : Nat)) w := by
  have h0 : (0 : Int) ≤ (x : Int) := by omega
  have h1 : (x : Int) < (s.size : Int) := by omega
  have hw : IntKind.i64.wrap (x : Int) = (x : Int) := by rw [IntKind.wrap_i64]; omega
  unfold tx7
  rw [dif_pos h]
  go_simp
/-- So far: the places ahead of x. -/
def setC (f : Nat → Bool) (tx : Nat → Nat) (x : Nat) : Gr := fun a c => decide (a < x) && (decide (c = a + 1) && f (tx a))
theorem setC_put (f : Nat → Bool) (tx : Nat → Nat) (x a c : Nat) : putG (setC f tx x) x (x + 1) (f (tx x)) a c = setC f tx (x + 1) a c := by
  unfold putG setC
  by_cases h1 : a = x
  · subst h1
    rw [if_pos rfl]
    by_cases h2 : c = a + 1
    · rw [if_pos h2, decide_eq_true h2, decide_eq_true (show a < a + 1 by omega)]; rfl
    · rw [if_neg h2, decide_eq_false h2]; simp
  · rw [if_neg h1]
    have hx : (a < x) ↔ (a < x + 1) := by omega
    simp only [hx]

set_option maxRecDepth 100000 in
set_option maxHeartbeats 8000000 in
theorem fit_set (b off n cap : Nat) (N : Nat → Nd) (hn : n ≤ 512) (i : Nat) (hi : i < n) (hfst : 0 ≤ fst N i) (hkids : kids N i = []) (hk0 : (N i).k = 1) (hw : okW (N i)) (s : ByteArray) (m : Nat) (hm : s.size = m) (hm10 : m ≤ 1000) (w : World) (hr : rdN w b off n N) :
    Calls Tryd.prog 22 #[.slice (some ⟨b, off, none⟩) n cap, .int .i64 (i : Int), .string s] w (fitPost m (setC (fOf (N i)) (tx7 s) m) w) := by
  have hwd := fOf_wd hw
  obtain ⟨f, hf⟩ : ∃ f, fOf (N i) = f := ⟨_, rfl⟩
  rw [hf] at hwd ⊢
  have hKd := rkids_is b off n cap i N (by omega) hi hfst w hr
  rw [hkids] at hKd
  have HKd := Lib.hid hKd; have HRD := Lib.hid hr; have HK0 := Lib.hid hk0
  have i0 : (0 : Int) ≤ (i : Int) := by omega
  have i1 : (i : Int) < (n : Int) := by omega
  have HGrid := Lib.hid (grid_any m hm10)
  clear hKd hr hk0 hkids hfst hf
  go_enter Tryd.func22, Tryd.ntmps22
  go_wp2_with fail
  refine HKd.out.mono ?_
  rintro e w2 ⟨kv, rfl, -, hb⟩
  have HB2 := Lib.hid hb
  clear hb HKd
  go_wp2_with fail
  refine (HGrid.out _).mono ?_
  rintro e w3 ⟨vg, rfl, ⟨r, hg⟩, hb⟩
  have HB3 := Lib.hid (HB2.out.trans (hb.mono HB2.out.size))
  have p0 := ((HRD.out.below HB3.out) i hi).2.1
  rw [HK0.out] at p0
  have HG := Lib.hid (hg.mono HB2.out.size)
  clear hb HB2 HGrid hg
  have hrow := (HRD.out i hi).2
  have hb0 : b < w.heap.size := (HRD.out i hi).1
  obtain ⟨-, s0, s1, s2, s3, -⟩ := hrow
  rw [hwd.1] at s0
  rw [hwd.2.1] at s1
  rw [hwd.2.2.1] at s2
  rw [hwd.2.2.2] at s3
  have HIx := Lib.hid (fun x (h : x < m) w => ix_str s x (by omega) (by omega) w)
  obtain ⟨go, gc, rfl, -⟩ := HG.out.outer
  have HSet : Hid (∀ w', Below w.heap.size w w' → w'.cell? ⟨b, off + i * 7 + 1, none⟩ = some (.int .u64 (wd f 0 : Int)) ∧ w'.cell? ⟨b, off + i * 7 + 2, none⟩ = some (.int .u64 (wd f 1 : Int)) ∧ w'.cell? ⟨b, off + i * 7 + 3, none⟩ = some (.int .u64 (wd f 2 : Int)) ∧ w'.cell? ⟨b, off + i * 7 + 4, none⟩ = some (.int .u64 (wd f 3 : Int))) := Lib.hid fun w' hb' => by
    refine ⟨?_, ?_, ?_, ?_⟩
    · rw [hb'.cell (p := ⟨b, off + i * 7 + 1, none⟩) hb0]; exact s0
    · rw [hb'.cell (p := ⟨b, off + i * 7 + 2, none⟩) hb0]; exact s1
    · rw [hb'.cell (p := ⟨b, off + i * 7 + 3, none⟩) hb0]; exact s2
    · rw [hb'.cell (p := ⟨b, off + i * 7 + 4, none⟩) hb0]; exact s3
  clear hwd s0 s1 s2 s3 HRD
  go_wp2_with fail
  go_loopw [10] (fun xv wr => ∃ x : Nat, x ≤ m ∧ xv = .int .i64 x ∧ Hid (grK wr w.heap.size (.slice (some ⟨go, 0, none⟩) (m + 1) gc) m (m + 1) r (setC f (tx7 s) x)) ∧ Below w.heap.size w wr) (fun xv _ => m - (intOf xv).toNat)
  case atStart => exact ⟨0, Nat.zero_le _, rfl, Lib.hid (HG.out.same fun a c _ _ => by simp [setC]), HB3.out⟩
  case round =>
    obtain ⟨x, hx, rfl, HGx, hBx⟩ := hrel
    by_cases hlt : x < m
    · have d1 : decide ((x : Int) < (m : Int)) = true := decide_eq_true (by omega)
      obtain ⟨go', gc', hv, -, hgo, hco⟩ := HGx.out.outer
      simp only [Value.slice.injEq, Option.some.injEq, Addr.mk.injEq, and_true, true_and] at hv
      obtain ⟨rfl, rfl⟩ := hv
      have q0 := hco x (by omega)
      obtain ⟨q1, q2, q3, q4⟩ := HGx.out.at (i := x) (j := x + 1) (by omega) (by omega)
      obtain ⟨e0, e1, e2, e3⟩ := HSet.out _ hBx
      have hIx := HIx.out x hlt
      have hc := tx7_lt s x
      have HHas := Lib.hid (rhas_lit f (tx7 s x) hc)
      have hput := (HGx.out.put (i := x) (j := x + 1) (by omega) (f (tx7 s x))).same fun a c _ _ => setC_put f (tx7 s) x a c
      have HBx := Lib.hid hBx
      have x0 : (0 : Int) ≤ (x : Int) := by omega
      have x1 : (x : Int) < (m : Int) + 1 := by omega
      have x2 : (0 : Int) ≤ (x : Int) + 1 := by omega
      have x3 : (x : Int) + 1 < (m : Int) + 1 := by omega
      have hbr : b ≠ r x := by omega
      have hgr : go ≠ r x := by
        have hne := rows_apt7 HGx.out.1 (HGx.out.2.1 x (by omega)) (by decide)
        rcases hne with h | h
        · cases h
        · intro e; exact h (by rw [e]; rfl)
      have hB := Below.refl wr.heap.size wr
      have HK : Hid (∀ w', Below wr.heap.size wr w' → (w'.cell? ⟨go, x, none⟩ = some (.slice (some ⟨r x, 0, none⟩) (m + 1) (m + 1)) ∧ w'.cell? ⟨b, off + i * 7 + 1, none⟩ = some (.int .u64 (wd f 0 : Int)) ∧ w'.cell? ⟨b, off + i * 7 + 2, none⟩ = some (.int .u64 (wd f 1 : Int)) ∧ w'.cell? ⟨b, off + i * 7 + 3, none⟩ = some (.int .u64 (wd f 2 : Int)) ∧ w'.cell? ⟨b, off + i * 7 + 4, none⟩ = some (.int .u64 (wd f 3 : Int)))) := Lib.hid fun w' hb' => by
        have hbz : b < wr.heap.size := World.block_lt_of_cell? wr _ e0
        exact ⟨by rw [hb'.cell (p := ⟨go, x, none⟩) hgo]; exact q0, by rw [hb'.cell (p := ⟨b, off + i * 7 + 1, none⟩) hbz]; exact e0, by rw [hb'.cell (p := ⟨b, off + i * 7 + 2, none⟩) hbz]; exact e1, by rw [hb'.cell (p := ⟨b, off + i * 7 + 3, none⟩) hbz]; exact e2, by rw [hb'.cell (p := ⟨b, off + i * 7 + 4, none⟩) hbz]; exact e3⟩
      have HK2 : Hid (∀ w' u, Below wr.heap.size wr w' → ((w'.setCell ⟨r x, x + 1, none⟩ u).cell? ⟨go, x, none⟩ = some (.slice (some ⟨r x, 0, none⟩) (m + 1) (m + 1)) ∧ (w'.setCell ⟨r x, x + 1, none⟩ u).cell? ⟨b, off + i * 7 + 1, none⟩ = some (.int .u64 (wd f 0 : Int)) ∧ (w'.setCell ⟨r x, x + 1, none⟩ u).cell? ⟨b, off + i * 7 + 2, none⟩ = some (.int .u64 (wd f 1 : Int)) ∧ (w'.setCell ⟨r x, x + 1, none⟩ u).cell? ⟨b, off + i * 7 + 3, none⟩ = some (.int .u64 (wd f 2 : Int)) ∧ (w'.setCell ⟨r x, x + 1, none⟩ u).cell? ⟨b, off + i * 7 + 4, none⟩ = some (.int .u64 (wd f 3 : Int)))) := Lib.hid fun w' u hb' => by
        obtain ⟨k0, k1, k2, k3, k4⟩ := HK.out w' hb'
        have ho : ∀ (bb o : Nat), bb ≠ r x → (w'.setCell ⟨r x, x + 1, none⟩ u).cell? ⟨bb, o, none⟩ = w'.cell? ⟨bb, o, none⟩ := fun bb o hne => World.cell?_of_block (heap_setCell_other w' ⟨r x, x + 1, none⟩ bb u hne)
        exact ⟨by rw [ho _ _ hgr]; exact k0, by rw [ho _ _ hbr]; exact k1, by rw [ho _ _ hbr]; exact k2, by rw [ho _ _ hbr]; exact k3, by rw [ho _ _ hbr]; exact k4⟩
      have HPl : Hid (∀ w', Below wr.heap.size wr w' → grK w' w.heap.size (.slice (some ⟨go, 0, none⟩) (m + 1) gc) m (m + 1) r (setC f (tx7 s) x)) := Lib.hid fun w' hb' => HGx.out.below hb'
      have HFin : Hid (∀ w', Below wr.heap.size wr w' → grK (w'.setCell ⟨r x, x + 1, none⟩ (.bool (f (tx7 s x)))) w.heap.size (.slice (some ⟨go, 0, none⟩) (m + 1) gc) m (m + 1) r (setC f (tx7 s) (x + 1))) := Lib.hid fun w' hb' => ((HGx.out.below hb').put (i := x) (j := x + 1) (by omega) (f (tx7 s x))).same fun a c _ _ => setC_put f (tx7 s) x a c
      have HBf : Hid (∀ w' u, Below wr.heap.size wr w' → Below w.heap.size w (w'.setCell ⟨r x, x + 1, none⟩ u)) := Lib.hid fun w' u hb' => (HBx.out.trans (hb'.mono HBx.out.size)).setCell (p := ⟨r x, x + 1, none⟩) q3 u
      generalize tx7 s x = c at *
      have hx64 : IntKind.i64.wrap ((x : Int) + 1) = (x : Int) + 1 := by rw [IntKind.wrap_i64]; omega
      have hw64 : IntKind.i64.wrap (c : Int) = (c : Int) := by rw [IntKind.wrap_i64]; omega
      clear hco hBx hput HGx e0 e1 e2 e3 q0 q1 q2
      go_wp2_with fail
      go_region_held_law (fun w' => w'.cell? ⟨go, x, none⟩ = some (.slice (some ⟨r x, 0, none⟩) (m + 1) (m + 1)) ∧ w'.cell? ⟨b, off + i * 7 + 1, none⟩ = some (.int .u64 (wd f 0 : Int)) ∧ w'.cell? ⟨b, off + i * 7 + 2, none⟩ = some (.int .u64 (wd f 1 : Int)) ∧ w'.cell? ⟨b, off + i * 7 + 3, none⟩ = some (.int .u64 (wd f 2 : Int)) ∧ w'.cell? ⟨b, off + i * 7 + 4, none⟩ = some (.int .u64 (wd f 3 : Int)))
        (first | with_reducible exact HK.out _ hB | with_reducible exact HK.out _ hB.drew | with_reducible exact HK2.out _ _ hB)
        (first | (go_at_call 35; (with_reducible refine (HHas.out _).mono ?_); rintro e wk ⟨rfl, hb⟩; (replace hB : Below wr.heap.size wr wk := hB.drew.trans (hb.mono (by exact hB.size))); clear hb; obtain ⟨t1, t2, t3, -⟩ := (HPl.out _ hB).at (i := x) (j := x + 1) (by omega) (by omega)))
      have HG9 := Lib.hid (HFin.out _ hB)
      have HB9 := Lib.hid (HBf.out _ (.bool (f c)) hB)
      clear hB HFin HBf HPl HK HK2
      go_wp2_with fail
      go_roundw
      case rel => exact ⟨x + 1, by omega, by go_num, HG9, HB9.out⟩
      case measure => simp [intOf]; omega
    · have hxm : x = m := by omega
      subst hxm
      have d1 : decide ((x : Int) < (x : Int)) = false := decide_eq_false (by omega)
      have HB := Lib.hid hBx
      have HE : Hid (grd wr w.heap.size (.slice (some ⟨go, 0, none⟩) (x + 1) gc) x (setC f (tx7 s) x)) := Lib.hid ⟨r, HGx.out⟩
      clear hBx
      go_wp2_with fail
      go_returns
      exact ⟨.slice (some ⟨go, 0, none⟩) (x + 1) gc, rfl, HE.out, HB.out⟩
end Go.Proofs.YtjbmkbgoahppfaaDoor

namespace Go.Proofs.YtjbmkbgoahppfaaDoor
open Go.RowKit

/-- Two grids agree where a part may be. -/
def agr (n : Nat) (A B : Gr) : Prop := ∀ i j, i ≤ j → j ≤ n → A i j = B i j
theorem agr_beh {n : Nat} {A A' B B' : Gr} (hA : agr n A A') (hB : agr n B B') : agr n (behB n A B) (behB n A' B') := fun i j hij hj => by
  rw [Bool.eq_iff_iff, beh_iff, beh_iff]
  constructor
  · rintro ⟨m, h1, h2, h3, h4, h5⟩
    exact ⟨m, h1, h2, h3, by rw [← hA i m h2 h1]; exact h4, by rw [← hB m j h3 hj]; exact h5⟩
  · rintro ⟨m, h1, h2, h3, h4, h5⟩
    exact ⟨m, h1, h2, h3, by rw [hA i m h2 h1]; exact h4, by rw [hB m j h3 hj]; exact h5⟩
theorem agr_eit {n : Nat} {A A' B B' : Gr} (hA : agr n A A') (hB : agr n B B') : agr n (eitB A B) (fun i j => A' i j || B' i j) := fun i j hij hj => by
  unfold eitB
  rw [decide_eq_true hij, Bool.true_and, hA i j hij hj, hB i j hij hj]
theorem agr_pow {n : Nat} {A A' : Gr} (hA : agr n A A') : ∀ k, agr n (powB n A k) (powB n A' k)
  | 0 => fun _ _ _ _ => rfl
  | k + 1 => agr_beh (agr_pow hA k) hA
theorem agr_acc {n : Nat} {A A' : Gr} (hA : agr n A A') (lo : Nat) : ∀ j, agr n (accB n A lo j) (repB n A' lo j)
  | 0 => fun i c hi hc => by
    have h := agr_pow hA lo i c hi hc
    show powB n A lo i c = (List.range 1).any fun k => powB n A' (lo + k) i c
    rw [h]
    simp [List.range_succ]
  | j + 1 => fun i c hi hc => by
    have h1 := agr_acc hA lo j i c hi hc
    have h2 := agr_pow hA (lo + j + 1) i c hi hc
    show eitB (accB n A lo j) (powB n A (lo + j + 1)) i c = (List.range (j + 1 + 1)).any fun k => powB n A' (lo + k) i c
    unfold eitB
    rw [decide_eq_true hi, Bool.true_and, h1, h2, List.range_succ, List.any_append]
    simp [repB, Nat.add_assoc]

/-- Fit, over a tree. -/
theorem fit_is (b off n cap : Nat) (N : Nat → Nd) (ht : tree N n) (hw : ∀ j, j < n → okW (N j)) (s : ByteArray) (m : Nat) (hm : s.size = m) (hm10 : m ≤ 1000) : ∀ i, i < n → ∃ F, agr m F (fitT m (tx7 s) (trT N i)) ∧ ∀ w, rdN w b off n N →
    Calls Tryd.prog 22 #[.slice (some ⟨b, off, none⟩) n cap, .int .i64 (i : Int), .string s] w (fitPost m F w) := by
  intro i
  induction i using Nat.strongRecOn with
  | ind i ih =>
  intro hi
  have hn := ht.1
  obtain ⟨hf0, hok⟩ := (tree_iff.1 ht).2.2.1 i hi
  obtain ⟨f, hf, hc⟩ := nd_is ht hi
  cases hc with
  | leaf _ hk0 _ =>
    have hkids : kids N i = [] := by unfold kids; rcases hk0 with h | h | h | h <;> (rw [h]; rfl)
    rw [trT_leaf hk0]
    rcases hk0 with hk | hk | hk | hk
    · refine ⟨setC (fOf (N i)) (tx7 s) m, fun a c hac hc => ?_, fun w hr => fit_set b off n cap N hn i hi hf0 hkids hk (hw i hi) s m hm hm10 w hr⟩
      show _ = leafB7 m (tx7 s) (N i) a c
      unfold setC leafB7
      rw [if_pos hk, Bool.and_assoc]
    · refine ⟨evenB m, fun a c hac hc => ?_, fun w hr => fit_empty b off n cap N hn i hi hf0 hkids hk s m hm hm10 w hr⟩
      show _ = leafB7 m (tx7 s) (N i) a c
      unfold leafB7
      rw [if_neg (by omega), if_pos hk]
    · refine ⟨fun x y => decide (x = 0) && decide (y = 0), fun a c hac hc => ?_, fun w hr => fit_begin b off n cap N hn i hi hf0 hkids hk s m hm hm10 w hr⟩
      show _ = leafB7 m (tx7 s) (N i) a c
      unfold leafB7
      rw [if_neg (by omega), if_neg (by omega), if_pos hk]
    · refine ⟨fun x y => decide (x = m) && decide (y = m), fun a c hac hc => ?_, fun w hr => fit_end b off n cap N hn i hi hf0 hkids hk s m hm hm10 w hr⟩
      show _ = leafB7 m (tx7 s) (N i) a c
      unfold leafB7
      rw [if_neg (by omega), if_neg (by omega), if_neg (by omega)]
  | @one p _ _ hk0 h1 h2 _ =>
    have hkids : kids N (p + 1) = [(p : Int)] := by unfold kids; rw [hk0, if_pos (show ar 7 = 1 from rfl)]; congr 1; omega
    obtain ⟨F, hF, hc⟩ := ih p (by omega) (by omega)
    have hrep := okN_rep hok hk0
    obtain ⟨l, hl⟩ := Int.eq_ofNat_of_zero_le hrep.1
    rw [trT_one hk0]
    refine ⟨accB m F l (moreN m l (N (p + 1)).hi), ?_, fun w hr => fit_rep b off n cap N hn (p + 1) p hi hf0 hkids hk0 l hl (by omega) (by omega) s m hm hm10 F w hr (fun w' hB => hc w' (hr.below hB))⟩
    have := agr_acc hF l (moreN m l (N (p + 1)).hi)
    show agr m _ (repB m (fitT m (tx7 s) (trT N p)) (N (p + 1)).lo.toNat (moreN m (N (p + 1)).lo (N (p + 1)).hi))
    rw [hl]
    exact this
  | @two p q _ _ hk0 h1 h2 h3 h4 _ =>
    have hkids : kids N (p + 1) = [(q : Int), (p : Int)] := by
      unfold kids
      rw [if_neg (by rcases hk0 with h | h <;> rw [h] <;> decide), if_pos (by rcases hk0 with h | h <;> rw [h] <;> rfl), Nat.add_sub_cancel, h1]
      congr 1
      · omega
      · congr 1; omega
    obtain ⟨Fp, hFp, hcp⟩ := ih p (by omega) (by omega)
    obtain ⟨Fq, hFq, hcq⟩ := ih q (by omega) (by omega)
    rcases hk0 with hk0 | hk0
    · rw [trT_cat ht hi hk0 h1 h2]
      exact ⟨behB m Fq Fp, agr_beh hFq hFp, fun w hr => fit_cat b off n cap N hn (p + 1) p q hi hf0 hkids hk0 s m hm hm10 Fq Fp w hr (fun w' hB => hcq w' (hr.below hB)) (fun w' hB => hcp w' (hr.below hB))⟩
    · rw [trT_or ht hi hk0 h1 h2]
      exact ⟨eitB Fq Fp, agr_eit hFq hFp, fun w hr => fit_or b off n cap N hn (p + 1) p q hi hf0 hkids hk0 s m hm hm10 Fq Fp w hr (fun w' hB => hcq w' (hr.below hB)) (fun w' hB => hcp w' (hr.below hB))⟩

/-- All, over a tree. -/
theorem all_is (b off n cap : Nat) (N : Nat → Nd) (ht : tree N n) (hw : ∀ j, j < n → okW (N j)) (s : ByteArray) (m : Nat) (hm : s.size = m) (hm10 : m ≤ 1000) : ∃ F, agr m F (fitT m (tx7 s) (trT N (n - 1))) ∧ ∀ w, rdN w b off n N →
    Calls Tryd.prog 13 #[.slice (some ⟨b, off, none⟩) n cap, .string s] w (fitPost m F w) := by
  have hpos : 0 < n := (tree_iff.1 ht).1
  have hn := ht.1
  obtain ⟨F, hF, hc⟩ := fit_is b off n cap N ht hw s m hm hm10 (n - 1) (by omega)
  refine ⟨F, hF, fun w hr => ?_⟩
  have hc1 := hc w hr
  rw [show ((n - 1 : Nat) : Int) = (n : Int) - 1 by omega] at hc1
  have HC := Lib.hid hc1
  have hwr : IntKind.i64.wrap ((n : Int) - 1) = (n : Int) - 1 := by rw [IntKind.wrap_i64]; omega
  clear hc1 hc hF ht hw hr hm
  go_enter Tryd.func13, Tryd.ntmps13
  go_wp2_with fail
  refine HC.out.mono ?_
  rintro e w2 ⟨v, rfl, hg, hb⟩
  have HG := Lib.hid hg; have HB := Lib.hid hb
  clear hg hb
  go_wp2_with fail
  go_returns
  exact ⟨_, rfl, HG.out, HB.out⟩
end Go.Proofs.YtjbmkbgoahppfaaDoor
