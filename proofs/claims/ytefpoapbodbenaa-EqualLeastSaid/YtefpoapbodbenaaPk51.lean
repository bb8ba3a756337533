/-
  The walks of undivided, accepting and by.
  The walk of mini's comingTo: class by class, of each state those that go to it.
-/
import Derived.Test.YtefpoapbodbenaaPk50
import Derived.Test.YtefpoapbodbenaaPk33
import Derived.Test.YtefpoapbodbenaaPk27
namespace Go.Proofs.Ytefpoapbodbenaa
open Go.RowKit

/-- No state is in a block yet. -/
def nonP : Ps := ⟨0, fun _ => 0, fun _ => [], fun _ => [], fun _ => false, []⟩
theorem nonP_add (n : Nat) : addP nonP (List.range n) = oneP n := by
  unfold addP nonP oneP
  simp only
  congr 1
  · funext k; unfold upd; split <;> rfl
  · funext k; unfold upd; split <;> rfl
theorem range_snoc (i : Nat) : List.range (i + 1) = List.range i ++ [i] := List.range_succ

set_option maxRecDepth 100000 in
set_option maxHeartbeats 4000000 in
theorem undivided13 (n : Nat) (hn : n ≤ 1000) (w : World) :
    Calls Try.prog 48 #[.int .i64 (n : Int)] w fun e w' => ∃ h V, e = .returned (.pointer (some ⟨h, 0, none⟩)) ∧ PtM (fun k => k < w.heap.size) w w' h n V (oneP n) := by
  have n0 : (0 : Int) ≤ (n : Int) := by omega
  have n1 : (n : Int) ≤ 1000 := by omega
  obtain ⟨D, hD⟩ : ∃ D, w.heap.size = D := ⟨_, rfl⟩
  have HD := Lib.hid hD
  go_enter Try.func48, Try.ntmps48
  go_wp2_with (refine make_ints rfl _ _ rfl w.heap.size n rfl rfl (by omega) (Nat.le_refl _) ?_)
  intro w1 hip hb1
  have hl1 := hip.lt
  have HI := Lib.hid hip
  have HB1 := Lib.hid hb1
  obtain ⟨h, hh⟩ : ∃ h, w1.heap.size = h := ⟨_, rfl⟩
  obtain ⟨W2, hW2⟩ : ∃ W2, w1.alloc (.cells #[.slice (some ⟨D, 0, none⟩) n n, .slice none 0 0, .slice none 0 0, .slice none 0 0, .slice none 0 0] 92) = W2 := ⟨_, rfl⟩
  obtain ⟨V, hV⟩ : ∃ V : Nat → Value, V = fun r => if r = 0 then .slice (some ⟨D, 0, none⟩) n n else .slice none 0 0 := ⟨_, rfl⟩
  have hb2 : Below w1.heap.size w1 W2 := hW2 ▸ (Below.refl _ _).alloc (Nat.le_refl _) _
  have hV0 : V 0 = .slice (some ⟨D, 0, none⟩) n n := by rw [hV]; rfl
  have hVn : ∀ r, r ≠ 0 → V r = .slice none 0 0 := fun r hr => by rw [hV]; exact if_neg hr
  have hst : isPs W2 h V := by
    unfold isPs
    rw [hV0, hVn 1 (by decide), hVn 2 (by decide), hVn 3 (by decide), hVn 4 (by decide)]
    exact hW2 ▸ hh ▸ heap_alloc_new w1 _
  have hL0 : ∀ r, r ≠ 0 → lP n V nonP r = [] := fun r hr => by
    rcases row_is r with rfl | rfl | rfl | rfl | rfl | ⟨k, rfl⟩ | ⟨k, rfl⟩
    · exact absurd rfl hr
    · rfl
    · rfl
    · rfl
    · rfl
    · rw [lPS]; rfl
    · rw [lPT]; rfl
  have hpt : PtM (fun k => k < D) w W2 h n V nonP := by
    refine ⟨hst, fun r => ?_, fun r r' hne => ?_, fun r e => ?_, fun r b e hb => ?_, by show ¬ h < D; omega, fun k hk => ?_, ?_⟩
    · by_cases e : r = 0
      · subst e
        rw [hV0, lP0, fnv_len13]
        exact owns_mono (owns_below hip hb2) (Nat.zero_le _)
      · rw [hVn r e, hL0 r e]
        exact ⟨rfl, .inl ⟨rfl, rfl⟩⟩
    · by_cases e : r = 0
      · right
        rw [e, hV0, hVn r' (by omega)]
        simp [Value.ownBlock]
      · left; rw [hVn r e]; rfl
    · by_cases e2 : r = 0
      · rw [e2, hV0] at e
        have : D = h := by simpa [Value.ownBlock] using e
        omega
      · rw [hVn r e2] at e; cases e
    · by_cases e2 : r = 0
      · rw [e2, hV0] at e
        have : D = b := by simpa [Value.ownBlock] using e
        show False
        have : b < D := hb
        omega
      · rw [hVn r e2] at e; cases e
    · have : k < D := hk
      have := hb1.size
      have := hb2.size
      omega
    · have hbb : Below D w W2 := hb1.trans (hb2.mono (by omega))
      exact ⟨hbb.os, hbb.tape, hbb.output, by rw [hD]; have := hb1.size; have := hb2.size; omega, fun k _ hk => hbb.block k hk⟩
  have HP := Lib.hid hpt
  have HW2 := Lib.hid hW2
  have HH := Lib.hid hh
  have HO0 : Hid (spO W2 W2.heap.size (.slice none 0 0) (List.range 0)) := Lib.hid ⟨rfl, .inl ⟨rfl, rfl⟩⟩
  have HB0 : Hid (Below W2.heap.size W2 W2) := Lib.hid (Below.refl _ _)
  clear hip hb1 hl1 hV hb2 hV0 hVn hst hL0 hpt hW2 HI HB1 hh
  go_upto_region 2 with (fail)
  rw [HW2.out, HH.out]
  go_wp2_with fail
  go_loopw [4, 11] (fun av iv wr => ∃ (i : Nat) (p : Option Addr) (c : Nat), i ≤ n ∧ iv = .int .i64 i ∧ av = .slice p i c ∧ Hid (spO wr W2.heap.size (.slice p i c) (List.range i)) ∧ Hid (Below W2.heap.size W2 wr)) (fun _ iv _ => n - (intOf iv).toNat)
  case atStart => exact ⟨0, none, 0, Nat.zero_le _, rfl, rfl, HO0, HB0⟩
  case round =>
    clear HO0 HB0
    obtain ⟨i, p, c, hi, rfl, rfl, HO, HB⟩ := hrel
    by_cases hlt : i < n
    · have i0 : (0 : Int) ≤ (i : Int) := by omega
      have i1 : (i : Int) < (n : Int) := by omega
      have HOA := Lib.hid (HO.out.alloc (.cells #[.int .i64 (i : Int)] 3))
      have hs : W2.heap.size ≤ wr.heap.size := HB.out.size
      have HBA : Hid (Below W2.heap.size W2 (wr.alloc (.cells #[.int .i64 (i : Int)] 3))) := Lib.hid (HB.out.alloc hs _)
      have HLE : Hid ((List.range i).length ≤ 1000000) := Lib.hid (by simp; omega)
      have HSZ : Hid (W2.heap.size ≤ (wr.alloc (.cells #[.int .i64 (i : Int)] 3)).heap.size) := Lib.hid (by rw [World.size_alloc]; omega)
      clear HO HB hs
      go_wp2_with (at_builtin; refine append_nx2 rfl _ _ rfl W2.heap.size (.slice p i c) (List.range i) rfl HOA.out wr.heap.size i rfl (by simp) HLE.out HSZ.out ?_; intro v' w3 hown hgrow hat; have HO := Lib.hid hown; have HG := Lib.hid hgrow; clear hown hgrow hat; refine Hid.out ?_)
      obtain ⟨p', c', hv'⟩ := spO_of HO.out
      have hl : (List.range i ++ [i]).length = i + 1 := by simp
      rw [hl] at hv'
      subst hv'
      have HO2 : Hid (spO w3 W2.heap.size (.slice p' (i + 1) c') (List.range (i + 1))) := Lib.hid (by rw [range_snoc]; exact HO.out)
      have HB2 : Hid (Below W2.heap.size W2 w3) := Lib.hid (HBA.out.grown HG.out HSZ.out fun r hr => (World.ownsRow.lt HOA.out r hr).1)
      clear HO HG HOA HBA HSZ hl
      refine Lib.hid ?_
      go_wp2_with fail
      go_roundw
      case rel => exact ⟨i + 1, _, _, by omega, by go_num, rfl, HO2, HB2⟩
      case measure => simp [intOf]; omega
    · obtain rfl : i = n := by omega
      have H2 : PtM (fun k => k < D) w wr h i (upd V (rS nonP.nb) (.slice p i c)) { nonP with S := upd nonP.S nonP.nb (List.range i) } := by
        have f1 := (Fm.new HP.out (rS 0) (v := .slice p i c) (l := spl9 (List.range i)) HB.out (by
          rw [eT13S, spl9_len]
          exact owns_mono HO.out (Nat.zero_le _)) fun b' e => by
            have h2 := (World.ownsRow.lt (show wr.ownsRow W2.heap.size 3 1 (.slice p i c) _ _ from HO.out) b' e).1
            exact h2).useU (U' := upd V (rS 0) (.slice p i c)) fun j hj => (upd_ne _ _ (Ne.symm (rS_ne 0 hj))).symm
        have e2 := lP_tmp i V nonP 0 (List.range i) (.slice p i c) (Nat.le_refl _)
        unfold PtM
        rw [show ({ nonP with S := upd nonP.S nonP.nb (List.range i) } : Ps) = tmpP nonP 0 (List.range i) from rfl]
        show Fm _ w wr h _ _ (lP i (upd V (rS 0) (.slice p i c)) (tmpP nonP 0 (List.range i)))
        rw [← e2]
        exact f1
      have HADD := Lib.hid (add13 _ h i (List.range i) p i c _ nonP w wr H2 (upd_at _ _ _) (by show 0 ≤ 2000; decide))
      clear H2 HO HB HP
      go_wp2_with fail
      refine HADD.out.mono ?_
      rintro e w5 ⟨rfl, V5, h5, -⟩
      rw [nonP_add] at h5
      have HE : Hid (PtM (fun k => k < w.heap.size) w w5 h i V5 (oneP i)) := Lib.hid (by rw [HD.out]; exact h5)
      clear h5 HADD hD
      go_wp2_with fail
      go_returns
      exact ⟨_, _, rfl, HE.out⟩

set_option maxRecDepth 100000 in
set_option maxHeartbeats 4000000 in
theorem by13 (v : Value) (x : Da) (s y : Nat) (w : World) (hs : smD x) (hx : rgD x) (hst : s < x.n2) (hy : y < 259) (hd : daAt w v x) :
    Calls Try.prog 31 #[v, .int .i64 (s : Int), .int .i64 (y : Int)] w fun e w' => e = .returned (.int .i64 (goD x s y : Nat)) ∧ Below w.heap.size w w' := by
  obtain ⟨g1, g2, g3⟩ := goD_at hx hst hy
  have hcc := (hx.2.2.2.2.2.2.2.2.1 y hy).1
  have hgd : x.l1 (s * x.wd.toNat + (x.l0 y).toNat) = (goD x s y : Nat) := by
    unfold goD
    rw [Int.toNat_of_nonneg g2]
  obtain ⟨W, hW⟩ : ∃ W : Nat, x.wd = W := ⟨x.wd.toNat, by have := hx.2.1; omega⟩
  rw [hW, Int.toNat_natCast] at g1 hgd
  obtain ⟨cc, hcc2⟩ : ∃ cc : Nat, x.l0 y = cc := ⟨(x.l0 y).toNat, by omega⟩
  rw [hcc2, Int.toNat_natCast] at g1 hgd
  obtain ⟨p, hp⟩ : ∃ p, s * W = p := ⟨_, rfl⟩
  rw [hp] at g1 hgd
  obtain ⟨q0, c0, q1, c1, q2, c2, rfl, h0, h1, -⟩ := hd
  obtain ⟨b0, o0, rfl, hb0, hc0⟩ := h0 y (by rw [hx.1]; exact hy)
  obtain ⟨b1, o1, rfl, hb1, hc1⟩ := h1 (p + cc) g1
  rw [hcc2] at hc0
  rw [hgd] at hc1
  rw [hx.1, hW]
  obtain ⟨z, hz⟩ : ∃ z, goD x s y = z := ⟨_, rfl⟩
  rw [hz] at hc1 ⊢
  obtain ⟨w1, hw1⟩ : ∃ w1, w.alloc (.cells #[.slice (some ⟨b0, o0, none⟩) 259 c0, .int .i64 (W : Int), .int .i64 x.st, .slice (some ⟨b1, o1, none⟩) x.n1 c1, .slice q2 x.n2 c2] 25) = w1 := ⟨_, rfl⟩
  have hbw : Below w.heap.size w w1 := hw1 ▸ (Below.refl _ _).alloc (Nat.le_refl _) _
  have hk : isDf w1 w.heap.size (some ⟨b0, o0, none⟩) 259 c0 W x.st (some ⟨b1, o1, none⟩) x.n1 c1 q2 x.n2 c2 := hw1 ▸ heap_alloc_new w _
  obtain ⟨k0, k1, -, k3, -⟩ := hk.cells
  have kc0 : w1.cell? ⟨b0, o0 + y, none⟩ = some (.int .i64 (cc : Int)) := (hbw.cell (p := ⟨b0, o0 + y, none⟩) hb0).trans hc0
  have kc1 : w1.cell? ⟨b1, o1 + (p + cc), none⟩ = some (.int .i64 (z : Int)) := (hbw.cell (p := ⟨b1, o1 + (p + cc), none⟩) hb1).trans hc1
  have hmul : (s : Int) * (W : Int) = (p : Int) := by rw [← hp]; simp
  have y0 : (0 : Int) ≤ (y : Int) := by omega
  have y1 : (y : Int) < 259 := by omega
  have p0 : (0 : Int) ≤ (p : Int) := by omega
  have p1 : (p : Int) + (cc : Int) < (x.n1 : Int) := by omega
  have p2 : (0 : Int) ≤ (p : Int) + (cc : Int) := by omega
  have p3 : (x.n1 : Int) ≤ 1000000 := by have := hs.2.1; omega
  have p4 : ((p : Int) + (cc : Int)).toNat = p + cc := by omega
  have HW1 := Lib.hid hw1
  have HB := Lib.hid hbw
  clear hw1 hbw hk hb0 hb1 hc0 hc1 hz hp hgd hcc2 hcc hW hx hs hst hy h0 h1 g1 g2 g3
  go_enter Try.func31, Try.ntmps31
  go_upto_region 1 with (fail)
  rw [HW1.out]
  go_quiet (fail)
  go_wp2_with fail
  go_returns
  exact ⟨rfl, below_drewN nq HB.out⟩

/-- The states that accept. -/
def accS (x : Da) (i : Nat) : List Nat := (List.range i).filter fun s => x.T s
theorem accS_succ (x : Da) (i : Nat) : accS x (i + 1) = if x.T i = true then accS x i ++ [i] else accS x i := by
  unfold accS
  rw [range_snoc, List.filter_append]
  by_cases e : x.T i = true
  · rw [if_pos e]; simp [e]
  · rw [if_neg e]; simp [e]
theorem accS_len (x : Da) (i : Nat) : (accS x i).length ≤ i := by
  have := List.length_filter_le (fun s => x.T s) (List.range i)
  simpa [accS] using this

set_option maxRecDepth 100000 in
set_option maxHeartbeats 4000000 in
theorem accepting13 (v : Value) (x : Da) (w : World) (hs : smD x) (hd : daAt w v x) :
    Calls Try.prog 50 #[v] w fun e w' => ∃ p c, e = .returned (.slice p (accS x x.n2).length c) ∧ spO w' w.heap.size (.slice p (accS x x.n2).length c) (accS x x.n2) ∧ Below w.heap.size w w' := by
  have hm : x.n2 ≤ 1000 := hs.2.2
  obtain ⟨D, hD⟩ : ∃ D, w.heap.size = D := ⟨_, rfl⟩
  have hd' := hd
  obtain ⟨q0, c0, q1, c1, q2, c2, rfl, -, -, h2⟩ := hd'
  obtain ⟨w1, hw1⟩ : ∃ w1, w.alloc (.cells #[.slice q0 x.n0 c0, .int .i64 x.wd, .int .i64 x.st, .slice q1 x.n1 c1, .slice q2 x.n2 c2] 25) = w1 := ⟨_, rfl⟩
  have hz1 : w1.heap.size = D + 1 := by rw [← hw1, World.size_alloc, hD]
  have hb1 : Below D w w1 := hw1 ▸ (Below.refl _ _).alloc (by omega) _
  have hk1 : isDf w1 D q0 x.n0 c0 x.wd x.st q1 x.n1 c1 q2 x.n2 c2 := hw1 ▸ hD ▸ heap_alloc_new w _
  obtain ⟨-, -, -, -, y4⟩ := hk1.cells
  have HR := Lib.hid (fun w' (h : Below D w w') => h2.below (hD.symm ▸ h))
  have HW1 := Lib.hid hw1; have HD := Lib.hid hD
  have HO0 : Hid (spO w1 D (.slice none 0 0) (accS x 0)) := Lib.hid ⟨rfl, .inl ⟨rfl, rfl⟩⟩
  have HB0 := Lib.hid hb1
  obtain ⟨n, hn⟩ : ∃ n, x.n2 = n := ⟨_, rfl⟩
  rw [hn] at HR y4 hm HW1 ⊢
  have n0 : (0 : Int) ≤ (n : Int) := by omega
  have n1 : (n : Int) ≤ 1000 := by omega
  clear hw1 hz1 hb1 hk1 hd h2 hs hn
  go_enter Try.func50, Try.ntmps50
  go_upto_region 1 with (fail)
  rw [HW1.out]
  clear hD
  go_wp2_with fail
  clear y4
  go_loopw [3, 9] (fun av iv wr => ∃ (i : Nat) (p : Option Addr) (k c : Nat), i ≤ n ∧ iv = .int .i64 i ∧ av = .slice p k c ∧ Hid ((accS x i).length = k) ∧ Hid (spO wr D (.slice p k c) (accS x i)) ∧ Hid (Below D w wr)) (fun _ iv _ => n - (intOf iv).toNat)
  case atStart => exact ⟨0, none, 0, 0, Nat.zero_le _, rfl, rfl, Lib.hid rfl, HO0, HB0⟩
  case round =>
    clear HO0 HB0
    obtain ⟨i, p, k, c, hi, rfl, rfl, HK, HO, HB⟩ := hrel
    by_cases hlt : i < n
    · have i0 : (0 : Int) ≤ (i : Int) := by omega
      have i1 : (i : Int) < (n : Int) := by omega
      obtain ⟨b, o, rfl, hbl, hc⟩ := HR.out _ HB.out i hlt
      have HS := Lib.hid (accS_succ x i)
      obtain ⟨u, hu⟩ : ∃ u, x.T i = u := ⟨_, rfl⟩
      rw [hu] at hc HS
      clear hu hbl
      cases u with
      | true =>
        have HOA := Lib.hid (HO.out.alloc (.cells #[.int .i64 (i : Int)] 3))
        have hs : D ≤ wr.heap.size := by have := HB.out.size; have := HD.out; omega
        have HBA : Hid (Below D w (wr.alloc (.cells #[.int .i64 (i : Int)] 3))) := Lib.hid (HB.out.alloc hs _)
        have HLE : Hid ((accS x i).length ≤ 1000000) := Lib.hid (by have := accS_len x i; omega)
        have HSZ : Hid (D ≤ (wr.alloc (.cells #[.int .i64 (i : Int)] 3)).heap.size) := Lib.hid (by rw [World.size_alloc]; omega)
        clear HO HB hs
        go_wp2_with (at_builtin; refine append_nx2 rfl _ _ rfl D (.slice p k c) (accS x i) rfl HOA.out wr.heap.size i rfl (by simp) HLE.out HSZ.out ?_; intro v' w3 hown hgrow hat; have HO := Lib.hid hown; have HG := Lib.hid hgrow; clear hown hgrow hat; refine Hid.out ?_)
        obtain ⟨p', c', hv'⟩ := spO_of HO.out
        have hl : (accS x i ++ [i]).length = k + 1 := by rw [List.length_append, HK.out]; rfl
        rw [hl] at hv'
        subst hv'
        have HO2 : Hid (spO w3 D (.slice p' (k + 1) c') (accS x (i + 1))) := Lib.hid (by rw [HS.out, if_pos trivial]; exact HO.out)
        have HK2 : Hid ((accS x (i + 1)).length = k + 1) := Lib.hid (by rw [HS.out, if_pos trivial]; exact hl)
        have HB2 : Hid (Below D w w3) := Lib.hid (HBA.out.grown HG.out HSZ.out fun r hr => (World.ownsRow.lt HOA.out r hr).1)
        clear HO HG HOA HBA HSZ hl hc
        refine Lib.hid ?_
        go_wp2_with fail
        go_roundw
        case rel => exact ⟨i + 1, _, _, _, by omega, by go_num, rfl, HK2, HO2, HB2⟩
        case measure => simp [intOf]; omega
      | false =>
        have HO2 : Hid (spO wr D (.slice p k c) (accS x (i + 1))) := Lib.hid (by rw [HS.out, if_neg (by simp)]; exact HO.out)
        have HK2 : Hid ((accS x (i + 1)).length = k) := Lib.hid (by rw [HS.out, if_neg (by simp)]; exact HK.out)
        clear HO HK HS
        go_wp2_with fail
        go_roundw
        case rel => exact ⟨i + 1, _, _, _, by omega, by go_num, rfl, HK2, HO2, HB⟩
        case measure => simp [intOf]; omega
    · obtain rfl : i = n := by omega
      have HE : Hid (spO wr w.heap.size (.slice p (accS x i).length c) (accS x i)) := Lib.hid (by have := HO.out; rw [← HD.out, ← HK.out] at this; exact this)
      have HF : Hid (Below w.heap.size w wr) := Lib.hid (by have := HB.out; rw [← HD.out] at this; exact this)
      clear HO HB
      go_wp2_with fail
      go_returns
      exact ⟨p, c, by rw [HK.out] <;> rfl, HE.out, HF.out⟩
end Go.Proofs.Ytefpoapbodbenaa

namespace Go.Proofs.Ytefpoapbodbenaa
open Go.RowKit

theorem infoRows13 : (Try.prog.info? 78).map (fun i => (i.zero, i.size, i.bytes)) = some (some (.slice none 0 0), 1, 24) := by kernel_rfl
theorem append_sl3 {w : World} {ops : Array Oper} {rest : List Oper} {o : Oper} {a : Act} {Q : Exit → Act → World → Prop} (hgd : o.guard = none) (s x : Operand)
    (ho : o.op = .call { callee := .builtin .append, args := #[s, x], argTypes := #[89, 89] }) (base : Nat) (v : Value) (xs : List Value) (hs : a.eval s = v)
    (hown : w.ownsRow base 78 1 v xs.length xs) (g : Nat) (u : Value) (hu : u.oneCell' = true) (hx : a.eval x = .slice (some ⟨g, 0, none⟩) 1 1)
    (hcell : w.cell? ⟨g, 0, none⟩ = some u) (hlen : xs.length ≤ 10000) (hbase : base ≤ w.heap.size)
    (h : ∀ p' n' c' w', n' = xs.length + 1 → w'.ownsRow base 78 1 (.slice p' n' c') n' (xs ++ [u]) → w.grownBy w' v.ownBlock → wpList Try.prog ops Q rest (a.put o.dst (.slice p' n' c')) w') : wpList Try.prog ops Q (o :: rest) a w := by
  obtain ⟨i0, hi, hz0, hz1, hz2⟩ := info_parts infoRows13
  refine Go.wpList_append_own_at w hgd s x 89 ho base 78 i0 (.slice none 0 0) 1 24 Try.underlying89 hi hz0 hz1 hz2 rfl (by decide) v xs.length xs hs hown ⟨g, 0, none⟩ 1 1 [u] hx rfl ?_ ?_ (by unfold maxLen; omega) (by omega) hbase ?_
  · intro j y hy
    match j, hy with
    | 0, hy => simp at hy; subst hy; simpa [Addr.add] using hcell
  · intro y hy
    have : y = u := by simpa using hy
    subst this; exact hu
  · intro v' w' h1 h2 _ h3
    rcases id h1.2 with ⟨_, h0⟩ | ⟨g, cap, cur, rfl, _⟩
    · omega
    · exact h _ _ _ w' rfl h1 h2
/-- The states below i that go to t by a symbol. -/
def inB (x : Da) (y i t : Nat) : List Nat := (List.range i).filter fun q => decide (goD x q y = t)
theorem inB_succ (x : Da) (y i t : Nat) : inB x y (i + 1) t = if t = goD x i y then inB x y i t ++ [i] else inB x y i t := by
  unfold inB
  rw [range_snoc, List.filter_append]
  by_cases e : t = goD x i y
  · rw [if_pos e]; simp [e]
  · rw [if_neg e]
    have : ¬ goD x i y = t := fun h => e h.symm
    simp [this]
theorem inB_len (x : Da) (y i t : Nat) : (inB x y i t).length ≤ i := by
  have := List.length_filter_le (fun q => decide (goD x q y = t)) (List.range i)
  simpa [inB] using this
theorem inB_put (x : Da) (y i : Nat) : putL (inB x y i) (goD x i y) (inB x y i (goD x i y) ++ [i]) = inB x y (i + 1) := by
  funext t
  unfold putL
  rw [inB_succ]
  by_cases e : t = goD x i y
  · rw [if_pos e, if_pos e, e]
  · rw [if_neg e, if_neg e]
/-- Rows are kept where a row of rows of rows grows. -/
theorem rwX.far {X : Nat → Prop} {w w' : World} {G m b n : Nat} {V : Nat → Value} {L : Nat → List Nat} {v : Value} {xs : List Value} (h : rwX X w G m V L) (hr : w.ownsRow b 78 1 v n xs) (hg : w.grownBy w' v.ownBlock) : rwX X w' G m V L :=
  ⟨World.ownsRow.kept h.all hg (rows_apart9 h.all hr (by decide)), h.val, fun t ht => World.ownsRow.kept (h.row t ht) hg (rows_apart9 (h.row t ht) hr (by decide)), h.apart, h.nX, h.nG⟩
/-- A row of rows of rows: each names, for each state, those that go to it. -/
def frM (x : Da) (w : World) (D : Nat) (v : Value) (nf n : Nat) (g H : Nat → Nat) : Prop :=
  w.ownsRow D 78 1 v nf (vls (fun i => .slice (some ⟨g i, 0, none⟩) n n) nf) ∧ ∀ i, i < nf → D ≤ g i ∧ H i < 259 ∧ ∃ V, rwX (fun _ => False) w (g i) n V (inB x (H i) n)
theorem frM.below {x : Da} {w w' : World} {D : Nat} {v : Value} {nf n : Nat} {g H : Nat → Nat} (h : frM x w D v nf n g H) (hb : Below w.heap.size w w') : frM x w' D v nf n g H :=
  ⟨owns_below h.1 hb, fun i hi => by
    obtain ⟨h1, h2, V, h3⟩ := h.2 i hi
    exact ⟨h1, h2, V, h3.below hb⟩⟩
theorem frM.mono {x : Da} {w : World} {D D' : Nat} {v : Value} {nf n : Nat} {g H : Nat → Nat} (h : frM x w D v nf n g H) (hD : D' ≤ D) : frM x w D' v nf n g H :=
  ⟨owns_mono h.1 hD, fun i hi => ⟨Nat.le_trans hD (h.2 i hi).1, (h.2 i hi).2⟩⟩
theorem frM.put {x : Da} {w w' : World} {D : Nat} {v v' : Value} {nf n : Nat} {g H : Nat → Nat} (h : frM x w D v nf n g H) {G y : Nat} {V : Nat → Value} (hG : D ≤ G) (hy : y < 259) (hl : rwX (fun _ => False) w G n V (inB x y n))
    (hr : w'.ownsRow D 78 1 v' (nf + 1) (vls (fun i => .slice (some ⟨g i, 0, none⟩) n n) nf ++ [.slice (some ⟨G, 0, none⟩) n n])) (hg : w.grownBy w' v.ownBlock) : frM x w' D v' (nf + 1) n (upd g nf G) (upd H nf y) := by
  refine ⟨?_, fun i hi => ?_⟩
  · rw [vls_succ, upd_at]
    rw [vls_ext (V := fun i => .slice (some ⟨upd g nf G i, 0, none⟩) n n) (V' := fun i => .slice (some ⟨g i, 0, none⟩) n n) fun j hj => by show Value.slice (some ⟨upd g nf G j, 0, none⟩) n n = _; rw [upd_ne _ _ (by omega)]]
    exact hr
  · by_cases e : i = nf
    · subst e
      rw [upd_at, upd_at]
      exact ⟨hG, hy, V, hl.far h.1 hg⟩
    · rw [upd_ne _ _ e, upd_ne _ _ e]
      obtain ⟨h1, h2, V', h3⟩ := h.2 i (by omega)
      exact ⟨h1, h2, V', h3.far h.1 hg⟩
/-- The classes below a that have a symbol have one among the rows. -/
def covF (x : Da) (a nf : Nat) (H : Nat → Nat) : Prop := nf ≤ a ∧ ∀ y, y < 259 → x.l0 y < (a : Int) → ∃ i, i < nf ∧ x.l0 (H i) = x.l0 y
theorem covF_zero (x : Da) (hx : rgD x) (H : Nat → Nat) : covF x 0 0 H := ⟨Nat.le_refl _, fun y hy h => by have := (hx.2.2.2.2.2.2.2.2.1 y hy).1; omega⟩
theorem covF_skip {x : Da} {a nf : Nat} {H : Nat → Nat} (h : covF x a nf H) (hn : ∀ y, y < 259 → x.l0 y ≠ (a : Int)) : covF x (a + 1) nf H := ⟨by have := h.1; omega, fun y hy hlt => h.2 y hy (by have := hn y hy; omega)⟩
theorem covF_put {x : Da} {a nf z : Nat} {H : Nat → Nat} (h : covF x a nf H) (hz : x.l0 z = (a : Int)) : covF x (a + 1) (nf + 1) (upd H nf z) := by
  refine ⟨by have := h.1; omega, fun y hy hlt => ?_⟩
  by_cases e : x.l0 y = (a : Int)
  · exact ⟨nf, Nat.lt_succ_self _, by rw [upd_at, hz, e]⟩
  · obtain ⟨i, h1, h2⟩ := h.2 y hy (by omega)
    exact ⟨i, by omega, by rw [upd_ne _ _ (by omega)]; exact h2⟩
/-- The first place of a class: there is one, or the class has no symbol. -/
theorem fsA_or (l : Nat → Int) (n : Nat) (c : Int) : (fsA l n c = -1 ∧ ∀ j, j < n → l j ≠ c) ∨ ∃ i : Nat, i < n ∧ l i = c ∧ fsA l n c = (i : Int) := by
  unfold fsA
  cases h : (List.range n).find? fun i => l i == c with
  | none =>
    refine .inl ⟨rfl, fun j hj e => ?_⟩
    have := List.find?_eq_none.1 h j (List.mem_range.2 hj)
    exact this (by simp [e])
  | some i =>
    refine .inr ⟨i, List.mem_range.1 (List.mem_of_find?_eq_some h), ?_, rfl⟩
    have := List.find?_some h
    simpa using this

set_option maxRecDepth 100000 in
set_option maxHeartbeats 20000000 in
theorem coming13 (v : Value) (x : Da) (w : World) (hs : smD x) (hx : rgD x) (hd : daAt w v x) :
    Calls Try.prog 51 #[v] w fun e w' => ∃ q nf c g H, e = .returned (.slice q nf c) ∧ frM x w' w.heap.size (.slice q nf c) nf x.n2 g H ∧ nf ≤ 259 ∧ (∀ y, y < 259 → ∃ i, i < nf ∧ x.l0 (H i) = x.l0 y) ∧ Below w.heap.size w w' := by
  obtain ⟨D, hD⟩ : ∃ D, w.heap.size = D := ⟨_, rfl⟩
  have hd' := hd
  obtain ⟨q0, c0, q1, c1, q2, c2, rfl, h0, -, -⟩ := hd'
  obtain ⟨w1, hw1⟩ : ∃ w1, w.alloc (.cells #[.slice q0 x.n0 c0, .int .i64 x.wd, .int .i64 x.st, .slice q1 x.n1 c1, .slice q2 x.n2 c2] 25) = w1 := ⟨_, rfl⟩
  have hz1 : w1.heap.size = D + 1 := by rw [← hw1, World.size_alloc, hD]
  have hb1 : Below D w w1 := hw1 ▸ (Below.refl _ _).alloc (by omega) _
  have hk1 : isDf w1 D q0 x.n0 c0 x.wd x.st q1 x.n1 c1 q2 x.n2 c2 := hw1 ▸ hD ▸ heap_alloc_new w _
  have HK := Lib.hid (fun w' (h : Below (D + 1) w1 w') => (hk1.below h (Nat.lt_succ_self D)).cells)
  have HDA := Lib.hid (fun w' (h : Below (D + 1) w1 w') => hd.below (hD.symm ▸ hb1.trans (h.mono (Nat.le_succ D))))
  have HBY := Lib.hid (fun s y w' (hst : s < x.n2) (hy : y < 259) (h : Below (D + 1) w1 w') => by13 _ x s y w' hs hx hst hy (HDA.out w' h))
  have HGD := Lib.hid (fun s y (hst : s < x.n2) (hy : y < 259) => (goD_at hx hst hy).2.2)
  obtain ⟨W, hW⟩ : ∃ W : Nat, x.wd = W := ⟨x.wd.toNat, by have := hx.2.1; omega⟩
  have hWl : W ≤ 259 := by have := hx.2.2.1; omega
  have HFS := Lib.hid (frs_any q0 259 c0 x.l0 x.wd w1 (by decide) (by have := h0.below (hD.symm ▸ hb1); rw [hx.1] at this; exact this))
  have HCV0 := Lib.hid (covF_zero x hx fun _ => 0)
  have HRG : Hid (∀ y, y < 259 → x.l0 y < (W : Int)) := Lib.hid fun y hy => by have := (hx.2.2.2.2.2.2.2.2.1 y hy).2; omega
  have hmw : (min (W : Int) 259).toNat = W := by omega
  have HW1 := Lib.hid hw1; have HZ := Lib.hid hz1; have HDG := Lib.hid hD; have HB1 := Lib.hid hb1
  have hm : x.n2 ≤ 1000 := hs.2.2
  obtain ⟨m, hme⟩ : ∃ m, x.n2 = m := ⟨_, rfl⟩
  have HME := Lib.hid hme
  obtain ⟨y0, y1, y2, y3, y4⟩ := hk1.cells
  have hx0 := hx.1
  rw [hx0] at y0 HK HBY HW1
  rw [hW] at y1 HK HBY HW1
  rw [hme] at HBY HGD HK HW1 y4 hm ⊢
  unfold frsPost at HFS
  rw [hW, hmw] at HFS
  rw [hx0, hW]
  obtain ⟨ir, hir, hr0, hr1, hr2⟩ := info_parts infoRow12
  have m1 : Hid (24 * m ≤ 281474976710656) := Lib.hid (by omega)
  have m2 : Hid (m ≤ maxLen) := Lib.hid (by unfold maxLen; omega)
  have m0 : (0 : Int) ≤ (m : Int) := by omega
  have m3 : (m : Int) ≤ 1000 := by omega
  have W0 : (0 : Int) ≤ (W : Int) := by omega
  have W1 : (W : Int) ≤ 259 := by omega
  clear hw1 hb1 hk1 hd hx hs hz1 hme hW h0 HDA hmw hx0
  go_enter Try.func51, Try.ntmps51
  go_upto_region 1 with (fail)
  rw [HW1.out]
  clear hD
  go_wp2_with fail
  refine HFS.out.mono ?_
  rintro e w2 ⟨qf, cf, lf, rfl, hrf, hlf, hb2⟩
  have HB2 : Hid (Below (D + 1) w1 w2) := Lib.hid (HZ.out ▸ hb2)
  obtain ⟨E, hE⟩ : ∃ E, w2.heap.size = E := ⟨_, rfl⟩
  have HRF := Lib.hid (fun w' (h : Below E w2 w') => hrf.below (hE.symm ▸ h))
  have HE := Lib.hid hE
  have HLF := Lib.hid hlf
  have HDL : Hid (D + 1 ≤ E) := Lib.hid (by rw [← hE]; have := HB2.out.size; have := HZ.out; omega)
  have HM0 : Hid (frM x w2 E (.slice none 0 0) 0 m (fun _ => 0) (fun _ => 0)) := Lib.hid ⟨⟨rfl, .inl ⟨rfl, rfl⟩⟩, fun i hi => absurd hi (Nat.not_lt_zero _)⟩
  have HB0 : Hid (Below E w2 w2) := Lib.hid (Below.refl _ _)
  have HKE : Hid (∀ w', Below E w2 w' → Below (D + 1) w1 w') := Lib.hid fun w' h => HB2.out.trans (h.mono HDL.out)
  clear hE hb2 hrf hlf HFS y0 y1 y2 y3 y4
  go_wp2_with fail
  go_loopw [3, 15] (fun fv av wr => ∃ (a nf : Nat) (q : Option Addr) (c : Nat) (g H : Nat → Nat), a ≤ W ∧ av = .int .i64 a ∧ fv = .slice q nf c ∧ Hid (frM x wr E (.slice q nf c) nf m g H) ∧ Hid (covF x a nf H) ∧ Hid (Below E w2 wr)) (fun _ av _ => W - (intOf av).toNat)
  case atStart => exact ⟨0, 0, none, 0, _, _, Nat.zero_le _, rfl, rfl, HM0, HCV0, HB0⟩
  case round =>
    clear HM0 HCV0 HB0
    obtain ⟨a, nf, q, c, g, H, ha, rfl, rfl, HM, HCV, HB⟩ := hrel
    by_cases hlta : a < W
    · have a0 : (0 : Int) ≤ (a : Int) := by omega
      have a1 : (a : Int) < (W : Int) := by omega
      obtain ⟨fb, fo, rfl, hfb, hfc⟩ := HRF.out wr HB.out a hlta
      have hla := HLF.out a hlta
      rcases fsA_or x.l0 259 (a : Int) with ⟨hno, hall⟩ | ⟨z, hz, hza, hfz⟩
      · rw [hla, hno] at hfc
        have HCV2 := Lib.hid (covF_skip HCV.out hall)
        clear hfb hla hno hall
        go_wp2_with fail
        go_roundw
        case rel => exact ⟨a + 1, nf, q, c, g, H, by omega, by go_num, rfl, HM, HCV2, HB⟩
        case measure => simp [intOf]; omega
      · rw [hla, hfz] at hfc
        have HCV2 := Lib.hid (covF_put HCV.out hza)
        have HZA := Lib.hid hz
        obtain ⟨y0, y1, y2, y3, y4⟩ := HK.out _ (HKE.out _ HB.out)
        have z0 : (0 : Int) ≤ (z : Int) := by omega
        have z1 : (z : Int) < 259 := by omega
        obtain ⟨wo, hwo⟩ : ∃ wo, wo = wr := ⟨_, rfl⟩
        subst hwo
        clear hfb hla hfz hza
        go_wp2_with (refine wpList_make_full _ rfl _ _ 78 rfl wo.heap.size 22 ir (.slice none 0 0) 1 Try.underlying78 hir hr0 hr1 .i64 .i64 (m : Int) (m : Int) m rfl rfl (by omega) (by omega) (by rw [hr2]; exact m1.out) m2.out (Nat.le_refl _) ?_)
        intro w3 hmk hg3
        have hmk' : w3.ownsRow wo.heap.size 22 1 (.slice (some ⟨wo.heap.size, 0, none⟩) m m) m (vls (fun _ => .slice none 0 0) m) := by
          rw [made_vls] at hmk; exact hmk
        have hB3 : Below wo.heap.size wo w3 := (Below.refl _ _).grown hg3 (Nat.le_refl _) (fun r hr => by cases hr)
        obtain ⟨G, hG⟩ : ∃ G, wo.heap.size = G := ⟨_, rfl⟩
        rw [hG] at hmk' hB3 ⊢
        have HG := Lib.hid hG
        have HDG2 : Hid (E ≤ G) := Lib.hid (by have := HB.out.size; have := HE.out; omega)
        have HR0 : Hid (rwX (fun k => k < G) w3 G m (fun _ => .slice none 0 0) (inB x z 0)) := Lib.hid ⟨hmk', fun _ _ => ⟨none, 0, rfl⟩, fun _ _ => ⟨rfl, .inl ⟨rfl, rfl⟩⟩, fun _ _ _ _ _ => .inl rfl, fun _ _ _ e => (by cases e), Nat.lt_irrefl _⟩
        have HB3 : Hid (Below G wo w3) := Lib.hid hB3
        have HEW : Hid (∀ w', Below G wo w' → Below E w2 w') := Lib.hid fun w' h => HB.out.trans (h.mono HDG2.out)
        have HKW : Hid (∀ w', Below G wo w' → Below (D + 1) w1 w') := Lib.hid fun w' h => HKE.out _ (HEW.out _ h)
        have HMW : Hid (∀ w', Below G wo w' → frM x w' E (.slice q nf c) nf m g H) := Lib.hid fun w' h => HM.out.below (HG.out.symm ▸ h)
        clear hmk hmk' hg3 hB3 hG y0 y1 y2 y3 y4 HM HB hfc
        obtain ⟨y0, y1, y2, y3, y4⟩ := HK.out _ (HKW.out _ HB3.out)
        go_wp2_with fail
        clear y0 y1 y2 y3 y4
        go_loopw [28] (fun sv wr => ∃ s : Nat, s ≤ m ∧ sv = .int .i64 s ∧ ∃ V, Hid (rwX (fun k => k < G) wr G m V (inB x z s)) ∧ Hid (Below G wo wr)) (fun sv _ => m - (intOf sv).toNat)
        case atStart => exact ⟨0, Nat.zero_le _, rfl, _, HR0, HB3⟩
        case round =>
          clear HR0 HB3
          obtain ⟨s, hsm, rfl, V, HR, HB⟩ := hrel
          by_cases hlts : s < m
          · have s0 : (0 : Int) ≤ (s : Int) := by omega
            have s1 : (s : Int) < (m : Int) := by omega
            obtain ⟨y0, y1, y2, y3, y4⟩ := HK.out _ (HKW.out _ HB.out)
            have HCALL := Lib.hid (HBY.out s z _ hlts HZA.out (HKW.out _ HB.out))
            have htm := HGD.out s z hlts HZA.out
            obtain ⟨t, ht⟩ : ∃ t, goD x s z = t := ⟨_, rfl⟩
            rw [ht] at HCALL htm
            have HT := Lib.hid ht
            have HTM := Lib.hid htm
            have hgl := HR.out.lt
            have HGL : Hid (G ≤ wr.heap.size) := Lib.hid (Nat.le_of_lt hgl)
            clear ht hgl
            go_wp2_with fail
            refine HCALL.out.mono ?_
            rintro e w4 ⟨rfl, hb4⟩
            have HR4 := Lib.hid (HR.out.below hb4)
            have HB4 : Hid (Below G wo w4) := Lib.hid (HB.out.trans (hb4.mono HGL.out))
            have t0 : (0 : Int) ≤ (t : Int) := by omega
            have t1 : (t : Int) < (m : Int) := by omega
            obtain ⟨pt, ct, hV⟩ := HR4.out.val t HTM.out
            obtain ⟨ct1, ct2⟩ := HR4.out.cell HTM.out
            rw [hV] at ct1
            have hrow := HR4.out.row t HTM.out
            rw [hV] at hrow
            have hgr := HR4.out.lt
            have HAL : Hid (Below w4.heap.size w4 (w4.alloc (.cells #[.int .i64 (s : Int)] 3))) := Lib.hid ((Below.refl _ _).alloc (Nat.le_refl _) _)
            have HRA := Lib.hid (HR4.out.below HAL.out)
            have HXA := Lib.hid (owns_below hrow HAL.out)
            have HLL : Hid ((inB x z s t).length ≤ 1000000) := Lib.hid (by have := inB_len x z s t; omega)
            have HBA : Hid (Below G wo (w4.alloc (.cells #[.int .i64 (s : Int)] 3))) := Lib.hid (HB4.out.trans (HAL.out.mono (by omega)))
            have HXS : Hid (∀ k, k < G → k < (w4.alloc (.cells #[.int .i64 (s : Int)] 3)).heap.size) := Lib.hid fun k hk => by rw [World.size_alloc]; omega
            have HVT := Lib.hid hV
            have HG2 : Hid (G ≤ (w4.alloc (.cells #[.int .i64 (s : Int)] 3)).heap.size) := Lib.hid (by rw [World.size_alloc]; omega)
            clear hrow HR HB HAL hV hb4 htm HCALL y0 y1 y2 y3 y4 HR4 HB4
            obtain ⟨len, hlen⟩ : ∃ len, (inB x z s t).length = len := ⟨_, rfl⟩
            have HLEN := Lib.hid hlen
            have HXA2 : Hid (spO (w4.alloc (.cells #[.int .i64 (s : Int)] 3)) G (.slice pt len ct) (inB x z s t)) := Lib.hid (hlen ▸ HXA.out)
            rw [hlen] at ct1
            clear hlen HXA
            go_wp2_with (at_builtin; refine append_nx2 rfl _ _ rfl G _ (inB x z s t) rfl HXA2.out w4.heap.size s rfl (by simp) HLL.out HG2.out ?_; intro v' w5 hown hgrow hat; have HO := Lib.hid hown; have HGW : Hid ((w4.alloc (.cells #[.int .i64 (s : Int)] 3)).grownBy w5 (Value.slice pt len ct).ownBlock) := Lib.hid hgrow; have HAT5 : Hid (v'.ownBlock = (Value.slice pt len ct).ownBlock ∨ v'.ownBlock = some (w4.alloc (.cells #[.int .i64 (s : Int)] 3)).heap.size) := Lib.hid hat; clear hown hgrow hat; refine Hid.out ?_)
            obtain ⟨p', c', rfl⟩ := spO_of HO.out
            have e1 : (inB x z s t ++ [s]).length = len + 1 := by rw [List.length_append, HLEN.out]; rfl
            have hstep := HRA.out.step (s := s) (p := p') (c := c') HTM.out HXS.out (by have := HO.out; rw [e1, ← HLEN.out] at this; exact this) (by rw [HVT.out, HLEN.out]; exact HGW.out) (by rw [HVT.out, HLEN.out]; have := HAT5.out; rw [e1] at this; exact this)
            rw [HLEN.out] at hstep
            have HR6 : Hid (rwX (fun k => k < G) (w5.setCell ⟨G, t, none⟩ (.slice p' (len + 1) c')) G m (putV V t (.slice p' (len + 1) c')) (inB x z (s + 1))) := Lib.hid (by
              have h1 := hstep.1
              have h2 := inB_put x z s
              rw [HT.out] at h2
              rw [h2] at h1
              exact h1)
            have HB6 : Hid (Below G wo (w5.setCell ⟨G, t, none⟩ (.slice p' (len + 1) c'))) := Lib.hid (HBA.out.trans (hstep.2.below HG2.out fun k hk => hk))
            have hc5 : w5.cell? ⟨G, t, none⟩ = some (.slice pt len ct) ∧ w5.frozen? ⟨G, t, none⟩ = false := by
              have hall : w5.ownsRow G 22 1 (.slice (some ⟨G, 0, none⟩) m m) m (vls V m) := World.ownsRow.kept HRA.out.all HGW.out (by
                right
                rcases HRA.out.neG HTM.out with e | e
                · rw [HVT.out, HLEN.out] at e; rw [e]; simp [Value.ownBlock]
                · rw [HVT.out, HLEN.out] at e; exact fun e2 => e e2.symm)
              exact ⟨(World.ownsRow.cellAt hall t (by omega)).trans ((vls_at V m t HTM.out).trans (by rw [HVT.out, HLEN.out])), World.ownsRow.frozenAt hall t⟩
            obtain ⟨d1, d2⟩ := hc5
            have hg5 : G < w5.heap.size := Nat.lt_of_lt_of_le (by rw [World.size_alloc]; omega) HGW.out.size
            rw [e1]
            clear hstep ct1 ct2 HRA HXA2 HBA HO HGW HAT5 e1
            refine Lib.hid ?_
            go_wp2_with fail
            go_roundw
            case rel => exact ⟨s + 1, by omega, by go_num, _, HR6, HB6⟩
            case measure => simp [intOf]; omega
          · obtain rfl : s = m := by omega
            have HL5 : Hid (rwX (fun _ => False) wr G s V (inB x z s)) := Lib.hid ⟨HR.out.all, HR.out.val, HR.out.row, HR.out.apart, fun t b ht e hb => hb, fun h => h⟩
            have HAL : Hid (Below wr.heap.size wr (wr.alloc (.cells #[.slice (some ⟨G, 0, none⟩) s s] 78))) := Lib.hid ((Below.refl _ _).alloc (Nat.le_refl _) _)
            have HLA := Lib.hid (HL5.out.below HAL.out)
            have HMA := Lib.hid ((HMW.out _ HB.out).below HAL.out)
            have hgl : G ≤ wr.heap.size := Nat.le_of_lt HR.out.lt
            have HBA : Hid (Below G wo (wr.alloc (.cells #[.slice (some ⟨G, 0, none⟩) s s] 78))) := Lib.hid (HB.out.trans (HAL.out.mono hgl))
            have HVL : Hid ((vls (fun i => .slice (some ⟨g i, 0, none⟩) s s) nf).length = nf) := Lib.hid (vls_len _ _)
            have HNF : Hid ((vls (fun i => .slice (some ⟨g i, 0, none⟩) s s) nf).length ≤ 10000) := Lib.hid (by rw [vls_len]; have := HCV.out.1; omega)
            have HOWN : Hid ((wr.alloc (.cells #[.slice (some ⟨G, 0, none⟩) s s] 78)).ownsRow E 78 1 (.slice q nf c) (vls (fun i => .slice (some ⟨g i, 0, none⟩) s s) nf).length (vls (fun i => .slice (some ⟨g i, 0, none⟩) s s) nf)) := Lib.hid (by rw [vls_len]; exact HMA.out.1)
            have HSZ : Hid (E ≤ (wr.alloc (.cells #[.slice (some ⟨G, 0, none⟩) s s] 78)).heap.size) := Lib.hid (by rw [World.size_alloc]; have := HDG2.out; omega)
            clear HR HB HAL hgl HL5
            go_wp2_with (at_builtin; refine append_sl3 rfl _ _ rfl E _ _ rfl HOWN.out wr.heap.size (.slice (some ⟨G, 0, none⟩) s s) rfl rfl (by simp) HNF.out HSZ.out ?_; intro p' n' c' w5 hn' hown hgrow; have HN5 := Lib.hid hn'; have HO := Lib.hid hown; have HGW := Lib.hid hgrow; clear hn' hown hgrow)
            have hn5 : n' = nf + 1 := by rw [HN5.out, HVL.out]
            subst hn5
            have HM5 := Lib.hid (HMA.out.put HDG2.out HZA.out HLA.out HO.out HGW.out)
            have HB5 : Hid (Below E w2 w5) := Lib.hid ((HEW.out _ HBA.out).grown HGW.out HSZ.out fun r hr => (World.ownsRow.lt HOWN.out r hr).1)
            clear HO HGW HMA HLA HBA HOWN HSZ HN5
            go_wp2_with fail
            go_roundw
            case rel => exact ⟨a + 1, nf + 1, _, _, _, _, by omega, by go_num, rfl, HM5, HCV2, HB5⟩
            case measure => simp [intOf]; omega
    · obtain rfl : a = W := by omega
      have HMF : Hid (frM x wr w.heap.size (.slice q nf c) nf m g H) := Lib.hid (HM.out.mono (by have := HDL.out; have := HDG.out; omega))
      have HBF : Hid (Below w.heap.size w wr) := Lib.hid (by have h1 := HB1.out.trans ((HKE.out _ HB.out).mono (Nat.le_succ D)); rw [← HDG.out] at h1; exact h1)
      have HCF : Hid (nf ≤ 259 ∧ ∀ y, y < 259 → ∃ i, i < nf ∧ x.l0 (H i) = x.l0 y) := Lib.hid ⟨by have := HCV.out.1; omega, fun y hy => HCV.out.2 y hy (HRG.out y hy)⟩
      clear HM HB HCV
      go_wp2_with fail
      go_returns
      exact ⟨q, nf, c, g, H, rfl, HMF.out, HCF.out.1, HCF.out.2, HBF.out⟩
end Go.Proofs.Ytefpoapbodbenaa
