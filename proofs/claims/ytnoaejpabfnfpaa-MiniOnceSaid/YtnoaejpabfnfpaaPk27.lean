/-
  The walks of undivided, accepting and by.
  The walk of the thirteenth reference's find.
  The lesser one of two numbers, whatever numbers they are.
  The walk of alpha.Firsts.
-/
import Derived.Test.YtnoaejpabfnfpaaPk26
import Derived.Test.YtnoaejpabfnfpaaPk15
import Derived.Test.YtnoaejpabfnfpaaPk4
import Derived.Test.YtnoaejpabfnfpaaPk10
namespace Go.Proofs.Ytnoaejpabfnfpaa
open Go.RowKit

/-- No state is in a block yet. -/
def nonP : Ps := ⟨0, fun _ => 0, fun _ => [], fun _ => [], fun _ => false, []⟩
theorem nonP_add (n : Nat) : addP nonP (List.range n) = oneP n := by
  unfold addP nonP oneP
  simp only
  congr 1
  · funext k; unfold upd; split <;> rfl
  · funext k; unfold upd; split <;> rfl
theorem range_snoc (i : Nat) : List.range (i + 1) = List.range i ++ [i] := List.range_succ

set_option maxRecDepth 100000 in
set_option maxHeartbeats 4000000 in
theorem undivided13 (n : Nat) (hn : n ≤ 1000) (w : World) :
    Calls Try.prog 21 #[.int .i64 (n : Int)] w fun e w' => ∃ h V, e = .returned (.pointer (some ⟨h, 0, none⟩)) ∧ PtM (fun k => k < w.heap.size) w w' h n V (oneP n) := by
  have n0 : (0 : Int) ≤ (n : Int) := by omega
  have n1 : (n : Int) ≤ 1000 := by omega
  obtain ⟨D, hD⟩ : ∃ D, w.heap.size = D := ⟨_, rfl⟩
  have HD := Lib.hid hD
  go_enter Try.func21, Try.ntmps21
  go_wp2_with (refine make_ints rfl _ _ rfl w.heap.size n rfl rfl (by omega) (Nat.le_refl _) ?_)
  intro w1 hip hb1
  have hl1 := hip.lt
  have HI := Lib.hid hip
  have HB1 := Lib.hid hb1
  obtain ⟨h, hh⟩ : ∃ h, w1.heap.size = h := ⟨_, rfl⟩
  obtain ⟨W2, hW2⟩ : ∃ W2, w1.alloc (.cells #[.slice (some ⟨D, 0, none⟩) n n, .slice none 0 0, .slice none 0 0, .slice none 0 0, .slice none 0 0] 49) = W2 := ⟨_, rfl⟩
  obtain ⟨V, hV⟩ : ∃ V : Nat → Value, V = fun r => if r = 0 then .slice (some ⟨D, 0, none⟩) n n else .slice none 0 0 := ⟨_, rfl⟩
  have hb2 : Below w1.heap.size w1 W2 := hW2 ▸ (Below.refl _ _).alloc (Nat.le_refl _) _
  have hV0 : V 0 = .slice (some ⟨D, 0, none⟩) n n := by rw [hV]; rfl
  have hVn : ∀ r, r ≠ 0 → V r = .slice none 0 0 := fun r hr => by rw [hV]; exact if_neg hr
  have hst : isPs W2 h V := by
    unfold isPs
    rw [hV0, hVn 1 (by decide), hVn 2 (by decide), hVn 3 (by decide), hVn 4 (by decide)]
    exact hW2 ▸ hh ▸ heap_alloc_new w1 _
  have hL0 : ∀ r, r ≠ 0 → lP n V nonP r = [] := fun r hr => by
    rcases row_is r with rfl | rfl | rfl | rfl | rfl | ⟨k, rfl⟩ | ⟨k, rfl⟩
    · exact absurd rfl hr
    · rfl
    · rfl
    · rfl
    · rfl
    · rw [lPS]; rfl
    · rw [lPT]; rfl
  have hpt : PtM (fun k => k < D) w W2 h n V nonP := by
    refine ⟨hst, fun r => ?_, fun r r' hne => ?_, fun r e => ?_, fun r b e hb => ?_, by show ¬ h < D; omega, fun k hk => ?_, ?_⟩
    · by_cases e : r = 0
      · subst e
        rw [hV0, lP0, fnv_len13]
        exact owns_mono (owns_below hip hb2) (Nat.zero_le _)
      · rw [hVn r e, hL0 r e]
        exact ⟨rfl, .inl ⟨rfl, rfl⟩⟩
    · by_cases e : r = 0
      · right
        rw [e, hV0, hVn r' (by omega)]
        simp [Value.ownBlock]
      · left; rw [hVn r e]; rfl
    · by_cases e2 : r = 0
      · rw [e2, hV0] at e
        have : D = h := by simpa [Value.ownBlock] using e
        omega
      · rw [hVn r e2] at e; cases e
    · by_cases e2 : r = 0
      · rw [e2, hV0] at e
        have : D = b := by simpa [Value.ownBlock] using e
        show False
        have : b < D := hb
        omega
      · rw [hVn r e2] at e; cases e
    · have : k < D := hk
      have := hb1.size
      have := hb2.size
      omega
    · have hbb : Below D w W2 := hb1.trans (hb2.mono (by omega))
      exact ⟨hbb.os, hbb.tape, hbb.output, by rw [hD]; have := hb1.size; have := hb2.size; omega, fun k _ hk => hbb.block k hk⟩
  have HP := Lib.hid hpt
  have HW2 := Lib.hid hW2
  have HH := Lib.hid hh
  have HO0 : Hid (spO W2 W2.heap.size (.slice none 0 0) (List.range 0)) := Lib.hid ⟨rfl, .inl ⟨rfl, rfl⟩⟩
  have HB0 : Hid (Below W2.heap.size W2 W2) := Lib.hid (Below.refl _ _)
  clear hip hb1 hl1 hV hb2 hV0 hVn hst hL0 hpt hW2 HI HB1 hh
  go_upto_region 2 with (fail)
  rw [HW2.out, HH.out]
  go_wp2_with fail
  go_loopw [4, 11] (fun av iv wr => ∃ (i : Nat) (p : Option Addr) (c : Nat), i ≤ n ∧ iv = .int .i64 i ∧ av = .slice p i c ∧ Hid (spO wr W2.heap.size (.slice p i c) (List.range i)) ∧ Hid (Below W2.heap.size W2 wr)) (fun _ iv _ => n - (intOf iv).toNat)
  case atStart => exact ⟨0, none, 0, Nat.zero_le _, rfl, rfl, HO0, HB0⟩
  case round =>
    clear HO0 HB0
    obtain ⟨i, p, c, hi, rfl, rfl, HO, HB⟩ := hrel
    by_cases hlt : i < n
    · have i0 : (0 : Int) ≤ (i : Int) := by omega
      have i1 : (i : Int) < (n : Int) := by omega
      have HOA := Lib.hid (HO.out.alloc (.cells #[.int .i64 (i : Int)] 3))
      have hs : W2.heap.size ≤ wr.heap.size := HB.out.size
      have HBA : Hid (Below W2.heap.size W2 (wr.alloc (.cells #[.int .i64 (i : Int)] 3))) := Lib.hid (HB.out.alloc hs _)
      have HLE : Hid ((List.range i).length ≤ 1000000) := Lib.hid (by simp; omega)
      have HSZ : Hid (W2.heap.size ≤ (wr.alloc (.cells #[.int .i64 (i : Int)] 3)).heap.size) := Lib.hid (by rw [World.size_alloc]; omega)
      clear HO HB hs
      go_wp2_with (at_builtin; refine append_nx2 rfl _ _ rfl W2.heap.size (.slice p i c) (List.range i) rfl HOA.out wr.heap.size i rfl (by simp) HLE.out HSZ.out ?_; intro v' w3 hown hgrow hat; have HO := Lib.hid hown; have HG := Lib.hid hgrow; clear hown hgrow hat; refine Hid.out ?_)
      obtain ⟨p', c', hv'⟩ := spO_of HO.out
      have hl : (List.range i ++ [i]).length = i + 1 := by simp
      rw [hl] at hv'
      subst hv'
      have HO2 : Hid (spO w3 W2.heap.size (.slice p' (i + 1) c') (List.range (i + 1))) := Lib.hid (by rw [range_snoc]; exact HO.out)
      have HB2 : Hid (Below W2.heap.size W2 w3) := Lib.hid (HBA.out.grown HG.out HSZ.out fun r hr => (World.ownsRow.lt HOA.out r hr).1)
      clear HO HG HOA HBA HSZ hl
      refine Lib.hid ?_
      go_wp2_with fail
      go_roundw
      case rel => exact ⟨i + 1, _, _, by omega, by go_num, rfl, HO2, HB2⟩
      case measure => simp [intOf]; omega
    · obtain rfl : i = n := by omega
      have H2 : PtM (fun k => k < D) w wr h i (upd V (rS nonP.nb) (.slice p i c)) { nonP with S := upd nonP.S nonP.nb (List.range i) } := by
        have f1 := (Fm.new HP.out (rS 0) (v := .slice p i c) (l := spl9 (List.range i)) HB.out (by
          rw [eT13S, spl9_len]
          exact owns_mono HO.out (Nat.zero_le _)) fun b' e => by
            have h2 := (World.ownsRow.lt (show wr.ownsRow W2.heap.size 3 1 (.slice p i c) _ _ from HO.out) b' e).1
            exact h2).useU (U' := upd V (rS 0) (.slice p i c)) fun j hj => (upd_ne _ _ (Ne.symm (rS_ne 0 hj))).symm
        have e2 := lP_tmp i V nonP 0 (List.range i) (.slice p i c) (Nat.le_refl _)
        unfold PtM
        rw [show ({ nonP with S := upd nonP.S nonP.nb (List.range i) } : Ps) = tmpP nonP 0 (List.range i) from rfl]
        show Fm _ w wr h _ _ (lP i (upd V (rS 0) (.slice p i c)) (tmpP nonP 0 (List.range i)))
        rw [← e2]
        exact f1
      have HADD := Lib.hid (add13 _ h i (List.range i) p i c _ nonP w wr H2 (upd_at _ _ _) (by show 0 ≤ 2000; decide))
      clear H2 HO HB HP
      go_wp2_with fail
      refine HADD.out.mono ?_
      rintro e w5 ⟨rfl, V5, h5, -⟩
      rw [nonP_add] at h5
      have HE : Hid (PtM (fun k => k < w.heap.size) w w5 h i V5 (oneP i)) := Lib.hid (by rw [HD.out]; exact h5)
      clear h5 HADD hD
      go_wp2_with fail
      go_returns
      exact ⟨_, _, rfl, HE.out⟩

set_option maxRecDepth 100000 in
set_option maxHeartbeats 4000000 in
theorem by13 (v : Value) (x : Da) (s y : Nat) (w : World) (hs : smD x) (hx : rgD x) (hst : s < x.n2) (hy : y < 259) (hd : daAt w v x) :
    Calls Try.prog 32 #[v, .int .i64 (s : Int), .int .i64 (y : Int)] w fun e w' => e = .returned (.int .i64 (goD x s y : Nat)) ∧ Below w.heap.size w w' := by
  obtain ⟨g1, g2, g3⟩ := goD_at hx hst hy
  have hcc := (hx.2.2.2.2.2.2.2.2.1 y hy).1
  have hgd : x.l1 (s * x.wd.toNat + (x.l0 y).toNat) = (goD x s y : Nat) := by
    unfold goD
    rw [Int.toNat_of_nonneg g2]
  obtain ⟨W, hW⟩ : ∃ W : Nat, x.wd = W := ⟨x.wd.toNat, by have := hx.2.1; omega⟩
  rw [hW, Int.toNat_natCast] at g1 hgd
  obtain ⟨cc, hcc2⟩ : ∃ cc : Nat, x.l0 y = cc := ⟨(x.l0 y).toNat, by omega⟩
  rw [hcc2, Int.toNat_natCast] at g1 hgd
  obtain ⟨p, hp⟩ : ∃ p, s * W = p := ⟨_, rfl⟩
  rw [hp] at g1 hgd
  obtain ⟨q0, c0, q1, c1, q2, c2, rfl, h0, h1, -⟩ := hd
  obtain ⟨b0, o0, rfl, hb0, hc0⟩ := h0 y (by rw [hx.1]; exact hy)
  obtain ⟨b1, o1, rfl, hb1, hc1⟩ := h1 (p + cc) g1
  rw [hcc2] at hc0
  rw [hgd] at hc1
  rw [hx.1, hW]
  obtain ⟨z, hz⟩ : ∃ z, goD x s y = z := ⟨_, rfl⟩
  rw [hz] at hc1 ⊢
  obtain ⟨w1, hw1⟩ : ∃ w1, w.alloc (.cells #[.slice (some ⟨b0, o0, none⟩) 259 c0, .int .i64 (W : Int), .int .i64 x.st, .slice (some ⟨b1, o1, none⟩) x.n1 c1, .slice q2 x.n2 c2] 25) = w1 := ⟨_, rfl⟩
  have hbw : Below w.heap.size w w1 := hw1 ▸ (Below.refl _ _).alloc (Nat.le_refl _) _
  have hk : isDf w1 w.heap.size (some ⟨b0, o0, none⟩) 259 c0 W x.st (some ⟨b1, o1, none⟩) x.n1 c1 q2 x.n2 c2 := hw1 ▸ heap_alloc_new w _
  obtain ⟨k0, k1, -, k3, -⟩ := hk.cells
  have kc0 : w1.cell? ⟨b0, o0 + y, none⟩ = some (.int .i64 (cc : Int)) := (hbw.cell (p := ⟨b0, o0 + y, none⟩) hb0).trans hc0
  have kc1 : w1.cell? ⟨b1, o1 + (p + cc), none⟩ = some (.int .i64 (z : Int)) := (hbw.cell (p := ⟨b1, o1 + (p + cc), none⟩) hb1).trans hc1
  have hmul : (s : Int) * (W : Int) = (p : Int) := by rw [← hp]; simp
  have y0 : (0 : Int) ≤ (y : Int) := by omega
  have y1 : (y : Int) < 259 := by omega
  have p0 : (0 : Int) ≤ (p : Int) := by omega
  have p1 : (p : Int) + (cc : Int) < (x.n1 : Int) := by omega
  have p2 : (0 : Int) ≤ (p : Int) + (cc : Int) := by omega
  have p3 : (x.n1 : Int) ≤ 1000000 := by have := hs.2.1; omega
  have p4 : ((p : Int) + (cc : Int)).toNat = p + cc := by omega
  have HW1 := Lib.hid hw1
  have HB := Lib.hid hbw
  clear hw1 hbw hk hb0 hb1 hc0 hc1 hz hp hgd hcc2 hcc hW hx hs hst hy h0 h1 g1 g2 g3
  go_enter Try.func32, Try.ntmps32
  go_upto_region 1 with (fail)
  rw [HW1.out]
  go_quiet (fail)
  go_wp2_with fail
  go_returns
  exact ⟨rfl, below_drewN nq HB.out⟩

/-- The states that accept. -/
def accS (x : Da) (i : Nat) : List Nat := (List.range i).filter fun s => x.T s
theorem accS_succ (x : Da) (i : Nat) : accS x (i + 1) = if x.T i = true then accS x i ++ [i] else accS x i := by
  unfold accS
  rw [range_snoc, List.filter_append]
  by_cases e : x.T i = true
  · rw [if_pos e]; simp [e]
  · rw [if_neg e]; simp [e]
theorem accS_len (x : Da) (i : Nat) : (accS x i).length ≤ i := by
  have := List.length_filter_le (fun s => x.T s) (List.range i)
  simpa [accS] using this

set_option maxRecDepth 100000 in
set_option maxHeartbeats 4000000 in
theorem accepting13 (v : Value) (x : Da) (w : World) (hs : smD x) (hd : daAt w v x) :
    Calls Try.prog 23 #[v] w fun e w' => ∃ p c, e = .returned (.slice p (accS x x.n2).length c) ∧ spO w' w.heap.size (.slice p (accS x x.n2).length c) (accS x x.n2) ∧ Below w.heap.size w w' := by
  have hm : x.n2 ≤ 1000 := hs.2.2
  obtain ⟨D, hD⟩ : ∃ D, w.heap.size = D := ⟨_, rfl⟩
  have hd' := hd
  obtain ⟨q0, c0, q1, c1, q2, c2, rfl, -, -, h2⟩ := hd'
  obtain ⟨w1, hw1⟩ : ∃ w1, w.alloc (.cells #[.slice q0 x.n0 c0, .int .i64 x.wd, .int .i64 x.st, .slice q1 x.n1 c1, .slice q2 x.n2 c2] 25) = w1 := ⟨_, rfl⟩
  have hz1 : w1.heap.size = D + 1 := by rw [← hw1, World.size_alloc, hD]
  have hb1 : Below D w w1 := hw1 ▸ (Below.refl _ _).alloc (by omega) _
  have hk1 : isDf w1 D q0 x.n0 c0 x.wd x.st q1 x.n1 c1 q2 x.n2 c2 := hw1 ▸ hD ▸ heap_alloc_new w _
  obtain ⟨-, -, -, -, y4⟩ := hk1.cells
  have HR := Lib.hid (fun w' (h : Below D w w') => h2.below (hD.symm ▸ h))
  have HW1 := Lib.hid hw1; have HD := Lib.hid hD
  have HO0 : Hid (spO w1 D (.slice none 0 0) (accS x 0)) := Lib.hid ⟨rfl, .inl ⟨rfl, rfl⟩⟩
  have HB0 := Lib.hid hb1
  obtain ⟨n, hn⟩ : ∃ n, x.n2 = n := ⟨_, rfl⟩
  rw [hn] at HR y4 hm HW1 ⊢
  have n0 : (0 : Int) ≤ (n : Int) := by omega
  have n1 : (n : Int) ≤ 1000 := by omega
  clear hw1 hz1 hb1 hk1 hd h2 hs hn
  go_enter Try.func23, Try.ntmps23
  go_upto_region 1 with (fail)
  rw [HW1.out]
  clear hD
  go_wp2_with fail
  clear y4
  go_loopw [3, 9] (fun av iv wr => ∃ (i : Nat) (p : Option Addr) (k c : Nat), i ≤ n ∧ iv = .int .i64 i ∧ av = .slice p k c ∧ Hid ((accS x i).length = k) ∧ Hid (spO wr D (.slice p k c) (accS x i)) ∧ Hid (Below D w wr)) (fun _ iv _ => n - (intOf iv).toNat)
  case atStart => exact ⟨0, none, 0, 0, Nat.zero_le _, rfl, rfl, Lib.hid rfl, HO0, HB0⟩
  case round =>
    clear HO0 HB0
    obtain ⟨i, p, k, c, hi, rfl, rfl, HK, HO, HB⟩ := hrel
    by_cases hlt : i < n
    · have i0 : (0 : Int) ≤ (i : Int) := by omega
      have i1 : (i : Int) < (n : Int) := by omega
      obtain ⟨b, o, rfl, hbl, hc⟩ := HR.out _ HB.out i hlt
      have HS := Lib.hid (accS_succ x i)
      obtain ⟨u, hu⟩ : ∃ u, x.T i = u := ⟨_, rfl⟩
      rw [hu] at hc HS
      clear hu hbl
      cases u with
      | true =>
        have HOA := Lib.hid (HO.out.alloc (.cells #[.int .i64 (i : Int)] 3))
        have hs : D ≤ wr.heap.size := by have := HB.out.size; have := HD.out; omega
        have HBA : Hid (Below D w (wr.alloc (.cells #[.int .i64 (i : Int)] 3))) := Lib.hid (HB.out.alloc hs _)
        have HLE : Hid ((accS x i).length ≤ 1000000) := Lib.hid (by have := accS_len x i; omega)
        have HSZ : Hid (D ≤ (wr.alloc (.cells #[.int .i64 (i : Int)] 3)).heap.size) := Lib.hid (by rw [World.size_alloc]; omega)
        clear HO HB hs
        go_wp2_with (at_builtin; refine append_nx2 rfl _ _ rfl D (.slice p k c) (accS x i) rfl HOA.out wr.heap.size i rfl (by simp) HLE.out HSZ.out ?_; intro v' w3 hown hgrow hat; have HO := Lib.hid hown; have HG := Lib.hid hgrow; clear hown hgrow hat; refine Hid.out ?_)
        obtain ⟨p', c', hv'⟩ := spO_of HO.out
        have hl : (accS x i ++ [i]).length = k + 1 := by rw [List.length_append, HK.out]; rfl
        rw [hl] at hv'
        subst hv'
        have HO2 : Hid (spO w3 D (.slice p' (k + 1) c') (accS x (i + 1))) := Lib.hid (by rw [HS.out, if_pos trivial]; exact HO.out)
        have HK2 : Hid ((accS x (i + 1)).length = k + 1) := Lib.hid (by rw [HS.out, if_pos trivial]; exact hl)
        have HB2 : Hid (Below D w w3) := Lib.hid (HBA.out.grown HG.out HSZ.out fun r hr => (World.ownsRow.lt HOA.out r hr).1)
        clear HO HG HOA HBA HSZ hl hc
        refine Lib.hid ?_
        go_wp2_with fail
        go_roundw
        case rel => exact ⟨i + 1, _, _, _, by omega, by go_num, rfl, HK2, HO2, HB2⟩
        case measure => simp [intOf]; omega
      | false =>
        have HO2 : Hid (spO wr D (.slice p k c) (accS x (i + 1))) := Lib.hid (by rw [HS.out, if_neg (by simp)]; exact HO.out)
        have HK2 : Hid ((accS x (i + 1)).length = k) := Lib.hid (by rw [HS.out, if_neg (by simp)]; exact HK.out)
        clear HO HK HS
        go_wp2_with fail
        go_roundw
        case rel => exact ⟨i + 1, _, _, _, by omega, by go_num, rfl, HK2, HO2, HB⟩
        case measure => simp [intOf]; omega
    · obtain rfl : i = n := by omega
      have HE : Hid (spO wr w.heap.size (.slice p (accS x i).length c) (accS x i)) := Lib.hid (by have := HO.out; rw [← HD.out, ← HK.out] at this; exact this)
      have HF : Hid (Below w.heap.size w wr) := Lib.hid (by have := HB.out; rw [← HD.out] at this; exact this)
      clear HO HB
      go_wp2_with fail
      go_returns
      exact ⟨p, c, by rw [HK.out] <;> rfl, HE.out, HF.out⟩
end Go.Proofs.Ytnoaejpabfnfpaa

namespace Go.Proofs.Ytnoaejpabfnfpaa
open Go.RowKit

theorem fsA_at {l : Nat → Int} {n i : Nat} {c : Int} (hi : i < n) (h : l i = c) (hn : ∀ j, j < i → l j ≠ c) : fsA l n c = (i : Nat) := by
  unfold fsA
  rw [find_range hi (by simpa using h) fun j hj => by simpa using hn j hj]
  rfl
theorem fsA_no {l : Nat → Int} {n : Nat} {c : Int} (hn : ∀ j, j < n → l j ≠ c) : fsA l n c = -1 := by
  unfold fsA
  have : (List.range n).find? (fun i => l i == c) = none := by
    rw [List.find?_eq_none]
    intro j hj
    rw [List.mem_range] at hj
    simpa using hn j hj
  rw [this]
  rfl

set_option maxRecDepth 100000 in
set_option maxHeartbeats 8000000 in
theorem find13 (q : Option Addr) (n c : Nat) (l : Nat → Int) (z : Int) (hn : n ≤ 10000) (w : World) (hl : rdL w q n l) :
    Calls Try.prog 36 #[.slice q n c, .int .i64 z] w fun e w' => e = .returned (.int .i64 (fsA l n z)) ∧ Below w.heap.size w w' := by
  have HL := Lib.hid hl
  have n0 : (0 : Int) ≤ (n : Int) := by omega
  clear hl
  go_enter Try.func36, Try.ntmps36
  go_wp2_with fail
  go_loopw [5] (fun iv wr => ∃ i : Nat, i ≤ n ∧ iv = .int .i64 i ∧ Hid (∀ j, j < i → l j ≠ z) ∧ Hid (Below w.heap.size w wr)) (fun iv _ => n - (intOf iv).toNat)
  case atStart => exact ⟨0, Nat.zero_le _, rfl, Lib.hid (fun _ h => absurd h (Nat.not_lt_zero _)), Lib.hid (Below.refl _ _)⟩
  case round =>
    obtain ⟨i, hi, rfl, HQ, HB⟩ := hrel
    by_cases hlti : i < n
    · have i0 : (0 : Int) ≤ (i : Int) := by omega
      have i1 : (i : Int) < (n : Int) := by omega
      obtain ⟨lb, lo, rfl, hlb, hlc⟩ := (HL.out.below HB.out) i hlti
      obtain ⟨u, hu⟩ : ∃ u, l i = u := ⟨_, rfl⟩
      have HU := Lib.hid hu
      rw [hu] at hlc
      clear hu
      cases hx : (u == z)
      · have HQ2 : Hid (∀ j, j < i + 1 → l j ≠ z) := Lib.hid fun j hj => by
          by_cases e : j = i
          · subst e; rw [HU.out]; simpa using hx
          · exact HQ.out j (by omega)
        go_wp2_with fail
        go_roundw
        case rel => exact ⟨i + 1, by omega, by go_num, HQ2, HB⟩
        case measure => simp [intOf]; omega
      · have HE : Hid (fsA l n z = (i : Nat)) := Lib.hid (fsA_at hlti (by rw [HU.out]; simpa using hx) HQ.out)
        go_wp2_with fail
        go_returns
        exact ⟨by rw [HE.out] <;> rfl, HB.out⟩
    · obtain rfl : i = n := by omega
      have HE : Hid (fsA l i z = -1) := Lib.hid (fsA_no HQ.out)
      go_wp2_with fail
      go_returns
      exact ⟨by rw [HE.out] <;> rfl, HB.out⟩
end Go.Proofs.Ytnoaejpabfnfpaa

namespace Go.Proofs.Ytnoaejpabfnfpaa
open Go.RowKit

theorem min_run9 (p q : Int) (t : TypeId) (w : World) : (Builtin.min_ #[3, 3] t #[.int .i64 p, .int .i64 q]).run Try.prog w = .ok (.int .i64 (if q < p then q else p)) w := by
  unfold Builtin.min_
  simp [go_sem, Builtin.min2]
theorem wp_min9 {o : Oper} {a : Act} {w : World} {K : Act → World → Prop} {Q : Exit → Act → World → Prop} (x y : Operand) (ho : o.op = .call { callee := .builtin .min, args := #[x, y], argTypes := #[3, 3] })
    (p q L : Int) (hx : a.eval x = .int .i64 p) (hy : a.eval y = .int .i64 q) (hL : (if q < p then q else p) = L)
    (h : K (a.put o.dst (.int .i64 L)) w) : Oper.wp Try.prog o a w K Q := by
  have hr := min_run9 p q o.type w
  rw [hL] at hr
  unfold Oper.wp execOp
  simp only [ho]
  generalize a.eval = ev at *
  simp [go_sem, hx, hy, hr]
  exact h
end Go.Proofs.Ytnoaejpabfnfpaa

namespace Go.Proofs.Ytnoaejpabfnfpaa
open Go.RowKit

theorem max_run10 (p q : Int) (t : TypeId) (w : World) : (Builtin.max_ #[3, 3] t #[.int .i64 p, .int .i64 q]).run Try.prog w = .ok (.int .i64 (if p < q then q else p)) w := by
  unfold Builtin.max_
  simp [go_sem, Builtin.max2]
theorem wp_max10 {o : Oper} {a : Act} {w : World} {K : Act → World → Prop} {Q : Exit → Act → World → Prop} (x y : Operand) (ho : o.op = .call { callee := .builtin .max, args := #[x, y], argTypes := #[3, 3] })
    (p q L : Int) (hx : a.eval x = .int .i64 p) (hy : a.eval y = .int .i64 q) (hL : (if p < q then q else p) = L)
    (h : K (a.put o.dst (.int .i64 L)) w) : Oper.wp Try.prog o a w K Q := by
  have hr := max_run10 p q o.type w
  rw [hL] at hr
  unfold Oper.wp execOp
  simp only [ho]
  generalize a.eval = ev at *
  simp [go_sem, hx, hy, hr]
  exact h
theorem fsA_zero (l : Nat → Int) (c : Int) : fsA l 0 c = -1 := rfl
theorem fsA_one (l : Nat → Int) (i : Nat) (c : Int) : fsA l (i + 1) c = if fsA l i c = -1 then (if l i = c then (i : Int) else -1) else fsA l i c := by
  unfold fsA
  rw [List.range_succ, List.find?_append]
  cases h : (List.range i).find? fun i => l i == c with
  | none =>
    by_cases e : l i = c
    · simp [e]
    · simp [e]
  | some k =>
    simp only [Option.some_or, Option.map_some, Option.getD_some]
    rw [if_neg (by omega)]
theorem fsA_put {l : Nat → Int} {i a : Nat} (ha : l i = (a : Int)) (h : fsA l i (a : Int) = -1) : putF (fun c => fsA l i (c : Nat)) a (i : Int) = fun c => fsA l (i + 1) (c : Nat) := by
  funext c
  unfold putF
  show _ = fsA l (i + 1) (c : Int)
  rw [fsA_one]
  by_cases hc : c = a
  · subst hc; rw [if_pos rfl, if_pos h, if_pos ha]
  · rw [if_neg hc]
    have hne : ¬ l i = (c : Int) := by omega
    rw [if_neg hne]
    by_cases g : fsA l i (c : Int) = -1
    · rw [if_pos g]; exact g
    · rw [if_neg g]
theorem fsA_keep {l : Nat → Int} {i : Nat} {c : Nat} (h : ∀ a : Nat, l i = (a : Int) → a = c → fsA l i (a : Int) ≠ -1) : fsA l i (c : Nat) = fsA l (i + 1) (c : Nat) := by
  rw [fsA_one]
  by_cases g : fsA l i (c : Int) = -1
  · rw [if_pos g, g]
    by_cases e : l i = (c : Int)
    · exact absurd g (h c e rfl)
    · rw [if_neg e]
  · rw [if_neg g]
def m1F (k : Nat) (x : Nat) : Int := if x < k then -1 else 0
theorem m1F_succ (k : Nat) : putF (m1F k) k (-1) = m1F (k + 1) := by
  funext x
  unfold putF m1F
  by_cases h : x = k
  · subst h; simp
  · rw [if_neg h]
    by_cases g : x < k
    · rw [if_pos g, if_pos (by omega)]
    · rw [if_neg g, if_neg (by omega)]

set_option maxRecDepth 100000 in
set_option maxHeartbeats 8000000 in
theorem firsts_is (q : Option Addr) (n c : Nat) (l : Nat → Int) (width : Int) (hn : n ≤ 1000) (w : World) (hl : rdL w q n l) : Calls Try.prog 30 #[.slice q n c, .int .i64 width] w (frsPost n l width w) := by
  obtain ⟨K, hK⟩ : ∃ K : Nat, (min width 259).toNat = K := ⟨_, rfl⟩
  have hK1 : K ≤ 259 := by omega
  obtain ⟨mx, hmx⟩ : ∃ mx : Int, (if width < 0 then 0 else width) = mx := ⟨_, rfl⟩
  have hmK : (if (259 : Int) < mx then 259 else mx) = (K : Int) := by
    split at hmx <;> split <;> omega
  have HMx := Lib.hid hmx
  have HMK := Lib.hid hmK
  unfold frsPost
  rw [hK]
  have HL := Lib.hid hl
  have n0 : (0 : Int) ≤ (n : Int) := by omega
  have k0 : (0 : Int) ≤ (K : Int) := by omega
  have k1 : (K : Int) ≤ 259 := by omega
  clear hmx hmK hK hl
  go_enter Try.func30, Try.ntmps30
  go_wp2_with (first | (refine wpList_plain rfl fun _ hK => wp_max10 _ _ rfl width 0 mx rfl rfl HMx.out (hK _ _ ?_)) | (refine wpList_plain rfl fun _ hK => wp_min9 _ _ rfl mx 259 (K : Int) rfl rfl HMK.out (hK _ _ ?_)) | (refine make_ints rfl _ _ rfl w.heap.size K rfl rfl (by omega) (Nat.le_refl _) ?_))
  intro w1 ho hb
  obtain ⟨g, hg⟩ : ∃ g, w.heap.size = g := ⟨_, rfl⟩
  rw [hg] at ho hb ⊢
  have hgl := ho.lt
  have HO0 : Hid (ipR w1 g g K (m1F 0)) := Lib.hid (ho.same fun j _ => by simp [m1F])
  have HB0 := Lib.hid hb
  have HG := Lib.hid hg
  clear ho hb hg
  go_wp2_with fail
  go_loopw [15] (fun iv wr => ∃ i : Nat, i ≤ K ∧ iv = .int .i64 i ∧ Hid (ipR wr g g K (m1F i)) ∧ Hid (Below g w wr)) (fun iv _ => K - (intOf iv).toNat)
  case atStart => exact ⟨0, Nat.zero_le _, rfl, HO0, HB0⟩
  case round =>
    clear HO0 HB0
    obtain ⟨i, hi, rfl, HO, HB⟩ := hrel
    by_cases hlti : i < K
    · have i0 : (0 : Int) ≤ (i : Int) := by omega
      have i1 : (i : Int) < (K : Int) := by omega
      have f0 := HO.out.free i
      have c0 := HO.out.cell i hlti
      have HO2 : Hid (ipR (wr.setCell ⟨g, i, none⟩ (.int .i64 (-1))) g g K (m1F (i + 1))) := Lib.hid (by have := HO.out.put i (-1); rw [m1F_succ] at this; exact this)
      have HB2 : Hid (Below g w (wr.setCell ⟨g, i, none⟩ (.int .i64 (-1)))) := Lib.hid (HB.out.setCell (p := ⟨g, i, none⟩) (Nat.le_refl _) _)
      go_wp2_with fail
      go_roundw
      case rel => exact ⟨i + 1, by omega, by go_num, HO2, HB2⟩
      case measure => simp [intOf]; omega
    · obtain rfl : i = K := by omega
      have HO0 : Hid (ipR wr g g i (fun c => fsA l 0 (c : Nat))) := Lib.hid (HO.out.same fun j hj => by simp [m1F, hj, fsA_zero])
      have HB0 := HB
      clear HO HB
      go_wp2_with fail
      obtain ⟨w2, hw2⟩ : ∃ w2, wr = w2 := ⟨_, rfl⟩
      subst hw2
      go_loopw [24] (fun jv wr => ∃ j : Nat, j ≤ n ∧ jv = .int .i64 j ∧ Hid (ipR wr g g i (fun c => fsA l j (c : Nat))) ∧ Hid (Below g w wr)) (fun jv _ => n - (intOf jv).toNat)
      case atStart => exact ⟨0, Nat.zero_le _, rfl, HO0, HB0⟩
      case round =>
        clear HO0 HB0
        obtain ⟨j, hj, rfl, HO, HB⟩ := hrel
        by_cases hltj : j < n
        · have j0 : (0 : Int) ≤ (j : Int) := by omega
          have j1 : (j : Int) < (n : Int) := by omega
          obtain ⟨lb, lo, rfl, hlb, hlc⟩ := (HL.out.below (HG.out.symm ▸ HB.out)) j hltj
          obtain ⟨x, hx⟩ : ∃ x, l j = x := ⟨_, rfl⟩
          have HX := Lib.hid hx
          rw [hx] at hlc
          clear hx
          by_cases h0 : 0 ≤ x
          · obtain ⟨a, rfl⟩ : ∃ a : Nat, x = a := ⟨x.toNat, by omega⟩
            have d0 : decide ((0 : Int) ≤ (a : Int)) = true := decide_eq_true h0
            by_cases h1 : a < i
            · have d1 : decide ((a : Int) < (i : Int)) = true := decide_eq_true (by omega)
              have d1' : (a : Int) < (i : Int) := by omega
              have f0 := HO.out.free a
              have g0 := HO.out.cell a h1
              obtain ⟨u, hu⟩ : ∃ u, fsA l j (a : Int) = u := ⟨_, rfl⟩
              rw [hu] at g0
              cases hm : (u == (-1 : Int))
              · have hm' : ¬ u = (-1 : Int) := by simpa using hm
                have HO2 : Hid (ipR wr g g i (fun c => fsA l (j + 1) (c : Nat))) := Lib.hid (HO.out.same fun c _ => fsA_keep fun a' e1 e2 => by
                  subst e2
                  have : a' = a := by have := HX.out; omega
                  subst this
                  rw [hu]; exact hm')
                have HM := Lib.hid hm
                clear hu hm' HO
                go_wp2_with fail
                go_roundw
                case rel => exact ⟨j + 1, by omega, by go_num, HO2, HB⟩
                case measure => simp [intOf]; omega
              · have hm' : u = (-1 : Int) := by simpa using hm
                have HO2 : Hid (ipR (wr.setCell ⟨g, a, none⟩ (.int .i64 (j : Int))) g g i (fun c => fsA l (j + 1) (c : Nat))) := Lib.hid (by
                  have := HO.out.put a (j : Int)
                  rw [fsA_put HX.out (hu.trans hm')] at this; exact this)
                have HB2 : Hid (Below g w (wr.setCell ⟨g, a, none⟩ (.int .i64 (j : Int)))) := Lib.hid (HB.out.setCell (p := ⟨g, a, none⟩) (Nat.le_refl _) _)
                subst hm'
                clear hu HO
                go_wp2_with fail
                go_roundw
                case rel => exact ⟨j + 1, by omega, by go_num, HO2, HB2⟩
                case measure => simp [intOf]; omega
            · have d1 : decide ((a : Int) < (i : Int)) = false := decide_eq_false (by omega)
              have HO2 : Hid (ipR wr g g i (fun c => fsA l (j + 1) (c : Nat))) := Lib.hid (HO.out.same fun c hc => fsA_keep fun a' e1 e2 => by
                have := HX.out; omega)
              clear HO
              go_wp2_with fail
              go_roundw
              case rel => exact ⟨j + 1, by omega, by go_num, HO2, HB⟩
              case measure => simp [intOf]; omega
          · have d0 : decide ((0 : Int) ≤ x) = false := decide_eq_false h0
            have HO2 : Hid (ipR wr g g i (fun c => fsA l (j + 1) (c : Nat))) := Lib.hid (HO.out.same fun c hc => fsA_keep fun a' e1 e2 => by
              have := HX.out; omega)
            clear HO
            go_wp2_with fail
            go_roundw
            case rel => exact ⟨j + 1, by omega, by go_num, HO2, HB⟩
            case measure => simp [intOf]; omega
        · obtain rfl : j = n := by omega
          have HR := Lib.hid HO.out.rd
          go_wp2_with fail
          go_returns
          exact ⟨_, _, _, rfl, HR.out, fun _ _ => rfl, HG.out.symm ▸ HB.out⟩
theorem frs_any : FrsC := fun q n c l width w hn hl => firsts_is q n c l width hn w hl
end Go.Proofs.Ytnoaejpabfnfpaa
