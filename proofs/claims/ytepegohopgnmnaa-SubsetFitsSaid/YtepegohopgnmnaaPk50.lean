/-
  The walk of the ninth laws' awake: the page's first example holds, whatever Build, Right and Fits are that do as the page says.
  The walk of the law NfaRuns, over whatever Build, Right and Fits are that do as the page says.
  The walk of the seventh reference's Fit, where a node is a repeat.
-/
import Derived.Test.YtepegohopgnmnaaPk13
import Derived.Test.YtepegohopgnmnaaPk21
import Derived.Test.YtepegohopgnmnaaPk16
import Derived.Test.YtepegohopgnmnaaPk32
import Derived.Test.YtepegohopgnmnaaPk48
import Derived.Deep.RegionHeldLaw
import Derived.Test.YtepegohopgnmnaaPk12
namespace Go.Proofs.Ytepegohopgnmnaa
open Go.RowKit

def N9 (_ : Nat) : Nd := ⟨1, 0, 8589934592, 0, 0, 0, 0⟩
theorem N9_tree : tree N9 1 := by decide
theorem N9_trT : trT N9 (1 - 1) = .leaf ⟨1, 0, 8589934592, 0, 0, 0, 0⟩ := trT_leaf (N := N9) (i := 0) (.inl rfl)
theorem N9_ok : ∀ j, j < 1 → okW (N9 j) := fun j _ => by show okW ⟨1, 0, 8589934592, 0, 0, 0, 0⟩; exact ⟨by decide, by decide, by decide, by decide⟩
theorem N9_rd (w : World) : rdN (w.alloc (.cells #[.int .i64 1, .int .u64 0, .int .u64 8589934592, .int .u64 0, .int .u64 0, .int .i64 0, .int .i64 0] 71)) w.heap.size 0 1 N9 := fun j hj => by
  obtain rfl : j = 0 := by omega
  refine ⟨by simp, ?_⟩
  refine ⟨?_, ?_, ?_, ?_, ?_, ?_, ?_⟩ <;> simp [N9]
/-- What the example's automaton is. -/
theorem N9_fr {S : Nat → Sd} {f l : Nat} (h : isFr S (trT N9 (1 - 1)) 0 f l) (hl : S l = fin9) : f = 0 ∧ l = 1 ∧ S 0 = ⟨1, 0, 8589934592, 0, 0, 1, 0⟩ ∧ S 1 = fin9 := by
  rw [N9_trT] at h
  obtain ⟨h1, h2, h3⟩ := h
  subst h1 h2
  exact ⟨rfl, rfl, h3, hl⟩
theorem N9_okT : okT (.leaf ⟨1, 0, 8589934592, 0, 0, 0, 0⟩) := .inl ⟨rfl, rfl, rfl⟩
theorem N9_right {S : Nat → Sd} {f l : Nat} (h : isFr S (trT N9 (1 - 1)) 0 f l) (hl : S l = fin9) : rightP S 2 0 1 := by
  obtain ⟨rfl, rfl, _⟩ := N9_fr h hl
  rw [N9_trT] at h
  exact fr_right N9_okT h hl (by decide)
theorem N9_fits {S : Nat → Sd} {f l : Nat} (h : isFr S (trT N9 (1 - 1)) 0 f l) (hl : S l = fin9) : fitC S 2 0 1 ⟨#[97]⟩ 0 1 := by
  refine ⟨N9_right h hl, by decide, by decide, by decide, ?_⟩
  obtain ⟨rfl, rfl, h0, _⟩ := N9_fr h hl
  refine (fits_iff (by decide) (by decide)).2 ⟨1, 1, 1, .inl ⟨by rw [show Int.toNat 0 = 0 from rfl, h0], by decide, ?_, by rw [show Int.toNat 0 = 0 from rfl, h0]; rfl, rfl⟩, rfl, rfl⟩
  rw [show Int.toNat 0 = 0 from rfl, h0]
  decide +kernel
theorem N9_okWs {S : Nat → Sd} {f l : Nat} (h : isFr S (trT N9 (1 - 1)) 0 f l) (hl : S l = fin9) : ∀ j, j < 2 → okWs (S j) := by
  obtain ⟨rfl, rfl, h0, h1⟩ := N9_fr h hl
  intro j hj
  have : j = 0 ∨ j = 1 := by omega
  rcases this with rfl | rfl
  · rw [h0]; exact ⟨by decide, by decide, by decide, by decide⟩
  · rw [h1]; exact ⟨by decide, by decide, by decide, by decide⟩

end Go.Proofs.Ytepegohopgnmnaa

namespace Go.Proofs.Ytepegohopgnmnaa
open Go.RowKit

theorem sts_take {w : World} {p : Option Addr} {n m : Nat} {S : Nat → Sd} (h : stsAt w p n S) (hm : m ≤ n) : stsAt w p m S :=
  ⟨by rcases h.1 with h1 | h1
      · exact .inl (by omega)
      · exact .inr h1, fun b off e j hj => h.2 b off e j (by omega)⟩
theorem sts_below {w w' : World} {p : Option Addr} {m : Nat} {S : Nat → Sd} (h : stsAt w p m S) (hb : Below w.heap.size w w') : stsAt w' p m S := ⟨h.1, fun b off e => (h.2 b off e).below hb⟩
theorem is3.put0 {t : TypeId} {w : World} {b : Nat} {v : Value} {f l : Int} (h : is3 t w b v f l) (v' : Value) : is3 t (w.setCell ⟨b, 0, none⟩ v') b v' f l := by
  have h1 := heap_setCell_same w b 0 _ _ v' h
  unfold is3
  rw [h1]
  simp
end Go.Proofs.Ytepegohopgnmnaa

namespace Go.Proofs.Ytepegohopgnmnaa
open Go.RowKit

/-- What a repeat's grid is behind some rounds. -/
def accB (n : Nat) (x : Gr) (lo : Nat) : Nat → Gr
  | 0 => powB n x lo
  | j + 1 => eitB (accB n x lo j) (powB n x (lo + j + 1))
theorem grd.below {w w' : World} {base n : Nat} {v : Value} {G : Gr} (h : grd w base v n G) (hb : Below w.heap.size w w') : grd w' base v n G := by
  obtain ⟨r, h⟩ := h
  exact ⟨r, h.below hb⟩
theorem grd.lift {w : World} {base base' n : Nat} {v : Value} {G : Gr} (h : grd w base v n G) (hb : base' ≤ base) : grd w base' v n G := by
  obtain ⟨r, h⟩ := h
  exact ⟨r, h.mono hb⟩

set_option maxRecDepth 100000 in
set_option maxHeartbeats 8000000 in
theorem fit_rep (b off n cap : Nat) (N : Nat → Nd) (hn : n ≤ 512) (i p : Nat) (hi : i < n) (hfst : 0 ≤ fst N i) (hkids : kids N i = [(p : Int)]) (hk0 : (N i).k = 7) (l : Nat) (hl : (N i).lo = (l : Int)) (hl32 : l ≤ 32) (hh : (N i).hi = -1 ∨ ((l : Int) ≤ (N i).hi ∧ (N i).hi ≤ 32))
    (s : ByteArray) (m : Nat) (hm : s.size = m) (hm10 : m ≤ 1000) (F : Gr) (w : World) (hr : rdN w b off n N)
    (hP : ∀ w', Below w.heap.size w w' → Calls Try.prog 37 #[.slice (some ⟨b, off, none⟩) n cap, .int .i64 (p : Int), .string s] w' (fitPost m F w')) :
    Calls Try.prog 37 #[.slice (some ⟨b, off, none⟩) n cap, .int .i64 (i : Int), .string s] w (fitPost m (accB m F l (moreN m l (N i).hi)) w) := by
  have hKd := rkids_is b off n cap i N (by omega) hi hfst w hr
  rw [hkids] at hKd
  have HKd := Lib.hid hKd; have HP := Lib.hid hP; have HRD := Lib.hid hr; have HK0 := Lib.hid hk0; have HL := Lib.hid hl
  obtain ⟨hv, hhv⟩ : ∃ x, (N i).hi = x := ⟨_, rfl⟩
  rw [hhv] at hh ⊢
  have HH := Lib.hid hhv
  obtain ⟨mo, hmo⟩ : ∃ x, moreN m l hv = x := ⟨_, rfl⟩
  have HMO : Hid ((hv = -1 → mo = m) ∧ (hv ≠ -1 → (mo : Int) = hv - l)) := Lib.hid (by
    unfold moreN at hmo
    refine ⟨fun h => by rw [if_pos h] at hmo; exact hmo.symm, fun h => ?_⟩
    rw [if_neg h] at hmo
    omega)
  have hmo1 : mo ≤ 1000 := by
    rcases hh with h | h
    · have := HMO.out.1 h; omega
    · have := HMO.out.2 (by omega); omega
  rw [hmo]
  have i0 : (0 : Int) ≤ (i : Int) := by omega
  have i1 : (i : Int) < (n : Int) := by omega
  have HBeh := Lib.hid (fun (A B : Gr) va vb w' (h1 : rdG w' va m A) (h2 : rdG w' vb m B) => gbehind_any m hm10 A B va vb w' h1 h2)
  have HEit := Lib.hid (fun (A B : Gr) va vb w' (h1 : rdG w' va m A) (h2 : rdG w' vb m B) => either_g m hm10 A B va vb w' h1 h2)
  have HEven := Lib.hid (even_any m hm10)
  have HGrid := Lib.hid (grid_any m hm10)
  clear hKd hP hr hk0 hkids hfst hl hhv hmo
  go_enter Try.func37, Try.ntmps37
  go_wp2_with fail
  refine HKd.out.mono ?_
  rintro e w2 ⟨kv, rfl, hkv, hb⟩
  obtain ⟨gk, ck, rfl, hgk, q0⟩ : ∃ gk ck, kv = .slice (some ⟨gk, 0, none⟩) 1 ck ∧ gk < w2.heap.size ∧ w2.cell? ⟨gk, 0, none⟩ = some (.int .i64 (p : Int)) := by
    rcases hkv with ⟨_, _, _, h⟩ | ⟨g, c, rfl, hg, hc⟩
    · cases h
    · exact ⟨g, c, rfl, hg, hc 0 (by simp)⟩
  have HB2 := Lib.hid hb
  clear hb hkv HKd
  go_wp2_with fail
  refine (HGrid.out _).mono ?_
  rintro e w3 ⟨vg, rfl, -, hb⟩
  have HB3 := Lib.hid (HB2.out.trans (hb.mono HB2.out.size))
  have p0 := ((HRD.out.below HB3.out) i hi).2.1
  rw [HK0.out] at p0
  have q0' : w3.cell? ⟨gk, 0, none⟩ = some (.int .i64 (p : Int)) := by rw [hb.cell (p := ⟨gk, 0, none⟩) hgk]; exact q0
  clear hb HB2 q0 hgk HGrid
  go_wp2_with fail
  refine (HP.out _ HB3.out).mono ?_
  rintro e w4 ⟨vx, rfl, hgx, hb⟩
  have HB4 := Lib.hid (HB3.out.trans (hb.mono HB3.out.size))
  have HX4 := Lib.hid (rdG.of hgx)
  clear hb HB3 hgx HP p0 q0'
  go_wp2_with fail
  refine (HEven.out _).mono ?_
  rintro e w5 ⟨vp, rfl, hgp, hb⟩
  have HB5 := Lib.hid (HB4.out.trans (hb.mono HB4.out.size))
  have HX5 := Lib.hid (HX4.out.below hb (Nat.le_refl _))
  have HG5 := Lib.hid (hgp.lift HB4.out.size)
  clear hb hgp HB4 HX4 HEven
  have HC : Hid (∀ w', Below w.heap.size w w' → w'.cell? ⟨b, off + i * 7 + 5, none⟩ = some (.int .i64 (l : Int)) ∧ w'.cell? ⟨b, off + i * 7 + 6, none⟩ = some (.int .i64 hv)) := Lib.hid fun w' hB => by
    obtain ⟨-, -, -, -, -, c5, c6⟩ := ((HRD.out.below hB) i hi).2
    rw [HL.out] at c5
    rw [HH.out] at c6
    exact ⟨c5, c6⟩
  clear HRD HK0 HL HH
  go_wp2_with fail
  go_loopw [12, 13] (fun pv jv wr => ∃ k : Nat, k ≤ l ∧ jv = .int .i64 k ∧ Hid (grd wr w.heap.size pv m (powB m F k)) ∧ Hid (rdG wr vx m F) ∧ Below w.heap.size w wr) (fun _ jv _ => l - (intOf jv).toNat)
  case atStart => exact ⟨0, Nat.zero_le _, rfl, HG5, HX5, HB5.out⟩
  case round =>
    obtain ⟨k, hk, rfl, HG, HX, hB⟩ := hrel
    have HB := Lib.hid hB
    clear hB
    obtain ⟨c5, c6⟩ := HC.out _ HB.out
    by_cases hlt : k < l
    · have d1 : decide ((k : Int) < (l : Int)) = true := decide_eq_true (by omega)
      go_wp2_with fail
      refine (HBeh.out _ _ _ _ _ (rdG.of HG.out) HX.out).mono ?_
      rintro e w6 ⟨v6, rfl, hg, hb⟩
      have HG6 : Hid (grd w6 w.heap.size v6 m (powB m F (k + 1))) := Lib.hid (hg.lift HB.out.size)
      have HX6 := Lib.hid (HX.out.below hb (Nat.le_refl _))
      have HB6 := Lib.hid (HB.out.trans (hb.mono HB.out.size))
      clear hg hb
      go_wp2_with fail
      go_roundw
      case rel => exact ⟨k + 1, by omega, by go_num, HG6, HX6, HB6.out⟩
      case measure => simp [intOf]; omega
    · have hkl : k = l := by omega
      subst hkl
      have d1 : decide ((k : Int) < (k : Int)) = false := decide_eq_false (by omega)
      go_wp2_with fail
      by_cases hm1 : hv = -1
      · obtain rfl : mo = m := HMO.out.1 hm1
        subst hm1
        have hw1 : IntKind.i64.wrap (-1 - (k : Int)) = -1 - (k : Int) := by rw [IntKind.wrap_i64]; omega
        clear HMO hh
        go_region_held_law (fun w' => w'.cell? ⟨b, off + i * 7 + 5, none⟩ = some (.int .i64 (k : Int)) ∧ w'.cell? ⟨b, off + i * 7 + 6, none⟩ = some (.int .i64 (-1))) (exact ⟨c5, c6⟩) (fail)
        all_goals
          have HG6 : Hid (grd wr.drew w.heap.size u12 mo (powB mo F k)) := Lib.hid (HG.out.below (Below.refl _ _).drew)
          have HX6 : Hid (rdG wr.drew vx mo F) := Lib.hid (HX.out.below (Below.refl wr.heap.size wr).drew (Nat.le_refl _))
          have HB6 := Lib.hid HB.out.drew
          have c6' := (HC.out _ HB6.out).2
          clear HG HX HB c5 c6 HG5 HX5 HB5
          generalize wr.drew = W at *
          go_wp2_with fail
          go_loopw [9, 12, 15] (fun gv pv jv wr => ∃ j : Nat, j ≤ mo ∧ jv = .int .i64 j ∧ Hid (grd wr w.heap.size gv mo (accB mo F k j)) ∧ Hid (rdG wr pv mo (powB mo F (k + j))) ∧ Hid (rdG wr vx mo F) ∧ Below w.heap.size w wr) (fun _ _ jv _ => mo - (intOf jv).toNat)
          case atStart => exact ⟨0, Nat.zero_le _, rfl, HG6, Lib.hid (rdG.of HG6.out), HX6, HB6.out⟩
          case round =>
            obtain ⟨j, hj, rfl, HG, HP, HX, hB⟩ := hrel
            have HB := Lib.hid hB
            clear hB
            by_cases hlt : j < mo
            · have d1 : decide ((j : Int) < (mo : Int)) = true := decide_eq_true (by omega)
              go_wp2_with fail
              refine (HBeh.out _ _ _ _ _ HP.out HX.out).mono ?_
              rintro e w6 ⟨v6, rfl, hg, hb⟩
              have HP6 : Hid (rdG w6 v6 mo (powB mo F (k + (j + 1)))) := Lib.hid (rdG.of hg)
              have HG6 := Lib.hid (HG.out.below hb)
              have HX6 := Lib.hid (HX.out.below hb (Nat.le_refl _))
              have HB6 := Lib.hid (HB.out.trans (hb.mono HB.out.size))
              clear hg hb HP HG HX HB
              go_wp2_with fail
              refine (HEit.out _ _ _ _ _ (rdG.of HG6.out) HP6.out).mono ?_
              rintro e w7 ⟨v7, rfl, hg, hb⟩
              have HG7 : Hid (grd w7 w.heap.size v7 mo (accB mo F k (j + 1))) := Lib.hid (hg.lift HB6.out.size)
              have HP7 := Lib.hid (HP6.out.below hb (Nat.le_refl _))
              have HX7 := Lib.hid (HX6.out.below hb (Nat.le_refl _))
              have HB7 := Lib.hid (HB6.out.trans (hb.mono HB6.out.size))
              clear hg hb HP6 HG6 HX6 HB6
              go_wp2_with fail
              go_roundw
              case rel => exact ⟨j + 1, by omega, by go_num, HG7, HP7, HX7, HB7.out⟩
              case measure => simp [intOf]; omega
            · have hjm : j = mo := by omega
              have d1 : decide ((j : Int) < (mo : Int)) = false := decide_eq_false (by omega)
              have HGE : Hid (grd wr w.heap.size u9 mo (accB mo F k mo)) := Lib.hid (hjm ▸ HG.out)
              clear hjm HG HP HX
              go_wp2_with fail
              go_returns
              exact ⟨_, rfl, HGE.out, HB.out⟩
      · have hmo2 := HMO.out.2 hm1
        have e1 : (hv == -1) = false := beq_eq_false_iff_ne.2 hm1
        have hw1 : IntKind.i64.wrap (hv - (k : Int)) = (mo : Int) := by rw [IntKind.wrap_i64]; omega
        clear HMO hh hm1 hmo2
        go_region_held_law (fun w' => w'.cell? ⟨b, off + i * 7 + 5, none⟩ = some (.int .i64 (k : Int)) ∧ w'.cell? ⟨b, off + i * 7 + 6, none⟩ = some (.int .i64 hv)) (exact ⟨c5, c6⟩) (fail)
        all_goals
          have HG6 : Hid (grd wr.drew w.heap.size u12 m (powB m F k)) := Lib.hid (HG.out.below (Below.refl _ _).drew)
          have HX6 : Hid (rdG wr.drew vx m F) := Lib.hid (HX.out.below (Below.refl wr.heap.size wr).drew (Nat.le_refl _))
          have HB6 := Lib.hid HB.out.drew
          have c6' := (HC.out _ HB6.out).2
          clear HG HX HB c5 c6 HG5 HX5 HB5
          generalize wr.drew = W at *
          go_wp2_with fail
          go_loopw [9, 12, 15] (fun gv pv jv wr => ∃ j : Nat, j ≤ mo ∧ jv = .int .i64 j ∧ Hid (grd wr w.heap.size gv m (accB m F k j)) ∧ Hid (rdG wr pv m (powB m F (k + j))) ∧ Hid (rdG wr vx m F) ∧ Below w.heap.size w wr) (fun _ _ jv _ => mo - (intOf jv).toNat)
          case atStart => exact ⟨0, Nat.zero_le _, rfl, HG6, Lib.hid (rdG.of HG6.out), HX6, HB6.out⟩
          case round =>
            obtain ⟨j, hj, rfl, HG, HP, HX, hB⟩ := hrel
            have HB := Lib.hid hB
            clear hB
            by_cases hlt : j < mo
            · have d1 : decide ((j : Int) < (mo : Int)) = true := decide_eq_true (by omega)
              go_wp2_with fail
              refine (HBeh.out _ _ _ _ _ HP.out HX.out).mono ?_
              rintro e w6 ⟨v6, rfl, hg, hb⟩
              have HP6 : Hid (rdG w6 v6 m (powB m F (k + (j + 1)))) := Lib.hid (rdG.of hg)
              have HG6 := Lib.hid (HG.out.below hb)
              have HX6 := Lib.hid (HX.out.below hb (Nat.le_refl _))
              have HB6 := Lib.hid (HB.out.trans (hb.mono HB.out.size))
              clear hg hb HP HG HX HB
              go_wp2_with fail
              refine (HEit.out _ _ _ _ _ (rdG.of HG6.out) HP6.out).mono ?_
              rintro e w7 ⟨v7, rfl, hg, hb⟩
              have HG7 : Hid (grd w7 w.heap.size v7 m (accB m F k (j + 1))) := Lib.hid (hg.lift HB6.out.size)
              have HP7 := Lib.hid (HP6.out.below hb (Nat.le_refl _))
              have HX7 := Lib.hid (HX6.out.below hb (Nat.le_refl _))
              have HB7 := Lib.hid (HB6.out.trans (hb.mono HB6.out.size))
              clear hg hb HP6 HG6 HX6 HB6
              go_wp2_with fail
              go_roundw
              case rel => exact ⟨j + 1, by omega, by go_num, HG7, HP7, HX7, HB7.out⟩
              case measure => simp [intOf]; omega
            · have hjm : j = mo := by omega
              have d1 : decide ((j : Int) < (mo : Int)) = false := decide_eq_false (by omega)
              have HGE : Hid (grd wr w.heap.size u9 m (accB m F k mo)) := Lib.hid (hjm ▸ HG.out)
              clear hjm HG HP HX
              go_wp2_with fail
              go_returns
              exact ⟨_, rfl, HGE.out, HB.out⟩
end Go.Proofs.Ytepegohopgnmnaa
