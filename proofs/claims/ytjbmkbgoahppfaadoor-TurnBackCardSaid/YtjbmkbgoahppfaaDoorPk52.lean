/-
  The walk of facts' fold over facts.
-/
import Derived.Test.YtjbmkbgoahppfaaDoorPk50
import Derived.Test.YtjbmkbgoahppfaaDoorPk18
import Derived.Deep.RegionHeldLaw
namespace Go.Proofs.YtjbmkbgoahppfaaDoor
open Go.RowKit

/-- The stack of facts, as cells. -/
def fcs (a : Fx) (e : Bool) : List Value := [.bool a.nv, .int .i64 a.ls, .int .i64 a.ms, .int .u64 (wd a.fi 0 : Int), .int .u64 (wd a.fi 1 : Int), .int .u64 (wd a.fi 2 : Int), .int .u64 (wd a.fi 3 : Int), .bool e]
def fvs7 (N : Nat → Nd) (L : List Nat) : List Value := L.flatMap fun j => fcs (fxT (trT N j)) (enT (trT N j))
theorem fvs7_length (N : Nat → Nd) (L : List Nat) : (fvs7 N L).length = L.length * 8 := by
  induction L with
  | nil => rfl
  | cons r l ih => simp only [fvs7, List.flatMap_cons, List.length_append] at *; rw [ih]; simp [fcs]; omega
theorem fvs7_append (N : Nat → Nd) (a b : List Nat) : fvs7 N (a ++ b) = fvs7 N a ++ fvs7 N b := by simp [fvs7]
theorem fvs7_at (N : Nat → Nd) (L : List Nat) (j : Nat) (h : j < L.length) (t : Nat) (ht : t < 8) : (fvs7 N L)[j * 8 + t]? = (fcs (fxT (trT N L[j])) (enT (trT N L[j])))[t]? := by
  induction L generalizing j with
  | nil => simp at h
  | cons r L ih =>
    have hl : (fcs (fxT (trT N r)) (enT (trT N r))).length = 8 := rfl
    cases j with
    | zero =>
      simp only [fvs7, List.flatMap_cons]
      rw [List.getElem?_append_left (by omega), Nat.zero_mul, Nat.zero_add]
      rfl
    | succ j =>
      have := ih j (by simpa using h)
      simp only [fvs7, List.flatMap_cons]
      rw [List.getElem?_append_right (by omega), hl, show (j + 1) * 8 + t - 8 = j * 8 + t by omega]
      simpa [fvs7] using this
theorem fvs7_take (N : Nat → Nd) (L : List Nat) (r : Nat) (h : r ≤ L.length) : (fvs7 N L).take (r * 8) = fvs7 N (L.take r) := by
  have h1 : fvs7 N L = fvs7 N (L.take r) ++ fvs7 N (L.drop r) := by rw [← fvs7_append, List.take_append_drop]
  rw [h1, show r * 8 = (fvs7 N (L.take r)).length by rw [fvs7_length, List.length_take]; congr 1; omega, List.take_left]
theorem fvsAt_of {N : Nat → Nd} {L : List Nat} {w : World} {base g cap n : Nat} (h : w.ownsRow base 40 8 (.slice (some ⟨g, 0, none⟩) n cap) n (fvs7 N L)) (hn : L.length = n) : fxsAt N L w g := fun j hj => by
  subst hn
  have hc : ∀ t, t < 8 → w.cell? ⟨g, j * 8 + t, none⟩ = (fcs (fxT (trT N L[j])) (enT (trT N L[j])))[t]? := fun t ht => by
    rw [h.cellAt (j * 8 + t) (by omega)]
    exact fvs7_at N L j hj t ht
  exact ⟨hc 0 (by decide), hc 1 (by decide), hc 2 (by decide), hc 3 (by decide), hc 4 (by decide), hc 5 (by decide), hc 6 (by decide), hc 7 (by decide)⟩
theorem infoF7 : (Tryd.prog.info? 40).map (fun i => (i.zero, i.size, i.bytes)) = some (some (.agg #[.bool false, .int .i64 0, .int .i64 0, .int .u64 0, .int .u64 0, .int .u64 0, .int .u64 0, .bool false]), 8, 64) := by kernel_rfl

set_option maxRecDepth 100000 in
set_option maxHeartbeats 8000000 in
theorem fold_f (b off n cap : Nat) (N : Nat → Nd) (ht : tree N n) (hw : ∀ j, j < n → okW (N j)) (w : World) (hr : rdN w b off n N) :
    Calls Tryd.prog 23 #[.slice (some ⟨b, off, none⟩) n cap, .func (.func 24) #[] #[]] w (fxPost (fxT (trT N (n - 1))) (enT (trT N (n - 1))) w) := by
  obtain ⟨i0, hi, hz0, hz1, hz2⟩ := info_parts infoF7
  have hn := ht.1
  have hpos : 0 < n := (tree_iff.1 ht).1
  have HRD := Lib.hid hr
  have HTR := Lib.hid ht
  have HW := Lib.hid hw
  clear hr ht hw
  obtain ⟨zn, y0⟩ : ∃ x, (fxT (trT N (n - 1))).nv = x := ⟨_, rfl⟩
  obtain ⟨zl, y1⟩ : ∃ x, (fxT (trT N (n - 1))).ls = x := ⟨_, rfl⟩
  obtain ⟨zm, y2⟩ : ∃ x, (fxT (trT N (n - 1))).ms = x := ⟨_, rfl⟩
  obtain ⟨z0, y3⟩ : ∃ x, (wd (fxT (trT N (n - 1))).fi 0 : Int) = x := ⟨_, rfl⟩
  obtain ⟨z1, y4⟩ : ∃ x, (wd (fxT (trT N (n - 1))).fi 1 : Int) = x := ⟨_, rfl⟩
  obtain ⟨z2, y5⟩ : ∃ x, (wd (fxT (trT N (n - 1))).fi 2 : Int) = x := ⟨_, rfl⟩
  obtain ⟨z3, y6⟩ : ∃ x, (wd (fxT (trT N (n - 1))).fi 3 : Int) = x := ⟨_, rfl⟩
  obtain ⟨ze, y7⟩ : ∃ x, enT (trT N (n - 1)) = x := ⟨_, rfl⟩
  have hpost : fxv (fxT (trT N (n - 1))) (enT (trT N (n - 1))) = fxr zn zl zm z0 z1 z2 z3 ze := by rw [← y0, ← y1, ← y2, ← y3, ← y4, ← y5, ← y6, ← y7]; rfl
  have HQ := Lib.hid (show (fxT (trT N (n - 1))).nv = zn ∧ (fxT (trT N (n - 1))).ls = zl ∧ (fxT (trT N (n - 1))).ms = zm ∧ (wd (fxT (trT N (n - 1))).fi 0 : Int) = z0 ∧ (wd (fxT (trT N (n - 1))).fi 1 : Int) = z1 ∧ (wd (fxT (trT N (n - 1))).fi 2 : Int) = z2 ∧ (wd (fxT (trT N (n - 1))).fi 3 : Int) = z3 ∧ enT (trT N (n - 1)) = ze from ⟨y0, y1, y2, y3, y4, y5, y6, y7⟩)
  unfold fxPost
  rw [hpost]
  clear hpost y0 y1 y2 y3 y4 y5 y6 y7
  go_enter Tryd.func23, Tryd.ntmps23
  go_wp2_with fail
  have HRD1 : Hid (rdN (w.alloc (.cells #[.bool false, .int .i64 0, .int .i64 0, .int .u64 0, .int .u64 0, .int .u64 0, .int .u64 0, .bool false] 40)) b off n N) := Lib.hid (HRD.out.below ((Below.refl _ _).alloc (Nat.le_refl _) _))
  have HBA : Hid (Below w.heap.size w (w.alloc (.cells #[.bool false, .int .i64 0, .int .i64 0, .int .u64 0, .int .u64 0, .int .u64 0, .int .u64 0, .bool false] 40))) := Lib.hid ((Below.refl _ _).alloc (Nat.le_refl _) _)
  have HEC : Hid (isFx (w.alloc (.cells #[.bool false, .int .i64 0, .int .i64 0, .int .u64 0, .int .u64 0, .int .u64 0, .int .u64 0, .bool false] 40)) w.heap.size false 0 0 0 0 0 0 false) := Lib.hid (isFx.new w false 0 0 0 0 0 0 false)
  have hCs : w.heap.size < (w.alloc (.cells #[.bool false, .int .i64 0, .int .i64 0, .int .u64 0, .int .u64 0, .int .u64 0, .int .u64 0, .bool false] 40)).heap.size := by simp
  generalize w.alloc (.cells #[.bool false, .int .i64 0, .int .i64 0, .int .u64 0, .int .u64 0, .int .u64 0, .int .u64 0, .bool false] 40) = w1 at *
  go_loopw [5, 11] (fun v i wr => ∃ k : Nat, k ≤ n ∧ i = .int .i64 k ∧ Hid (wr.ownsRow w1.heap.size 40 8 v (roots7 N k).length (fvs7 N (roots7 N k))) ∧ Below w1.heap.size w1 wr) (fun _ i _ => n - (intOf i).toNat)
  case atStart => exact ⟨0, Nat.zero_le _, rfl, Lib.hid (World.ownsRow_nil _ _ _ _), Below.refl _ _⟩
  case round =>
    obtain ⟨k, hk, rfl, HO, hB⟩ := hrel
    have HB := Lib.hid hB
    clear hB
    by_cases hlt : k < n
    · obtain ⟨hbl, p0, p1, p2, p3, p4, p5, p6⟩ := (HRD1.out.below HB.out) k hlt
      obtain ⟨a1, a2, a3⟩ := ar_two7 HTR.out hlt
      have HAR := Lib.hid (args_any (N k).k)
      rw [a1] at HAR
      have HRS := Lib.hid (roots_succ7 N k)
      have hrl := roots_len7 N k
      have HLF : Hid ((ar (N k).k).toNat = 0 → ∀ (p : Option Addr) (cap : Nat) w, Calls Tryd.prog 24 #[ndr7 (N k), .slice p 0 cap] w (fxPost (fxT (trT N k)) (enT (trT N k)) w)) := Lib.hid (by
        intro h0 p cap w
        have hkk : (N k).k = 1 ∨ (N k).k = 2 ∨ (N k).k = 3 ∨ (N k).k = 4 := by
          have hg := (HTR.out.2.1 k hlt).1
          rcases ar_cases (N k).k with ⟨_, h⟩ | ⟨h, _⟩ | ⟨h, _⟩ | ⟨h, _⟩
          · exact h
          all_goals (rw [h] at h0 hg; simp at h0 hg)
        rw [trT_leaf hkk]
        exact told_leaf (N k) hkk (HW.out k hlt) p cap w)
      have HNA : Hid (∀ w, ∀ g cap, g < w.heap.size → fxsAt N (roots7 N k) w g → Calls Tryd.prog 24 #[ndr7 (N k), .slice (some ⟨g, ((roots7 N k).length - (ar (N k).k).toNat) * 8, none⟩) (ar (N k).k).toNat cap] w (fxPost (fxT (trT N k)) (enT (trT N k)) w)) := Lib.hid (fun w g cap hg hp => told_at HTR.out hlt (HW.out k hlt) w g cap hg hp)
      obtain ⟨a, ha⟩ : ∃ a, (ar (N k).k).toNat = a := ⟨_, rfl⟩
      obtain ⟨L, hL⟩ : ∃ L, (roots7 N k).length = L := ⟨_, rfl⟩
      rw [ha] at HAR HRS HLF HNA a2 a3
      rw [hL] at HO HRS HNA a2 hrl
      obtain ⟨r, rfl⟩ : ∃ r, L = r + a := ⟨L - a, by omega⟩
      rw [Nat.add_sub_cancel] at HRS HNA
      unfold fxPost fxv at HNA HLF
      have hpv : fvs7 N [k] = fcs (fxT (trT N k)) (enT (trT N k)) := by simp [fvs7]
      unfold fcs at hpv
      generalize (fxT (trT N k)).nv = xn at *
      generalize (fxT (trT N k)).ls = xl at *
      generalize (fxT (trT N k)).ms = xm at *
      generalize (wd (fxT (trT N k)).fi 0 : Int) = x0 at *
      generalize (wd (fxT (trT N k)).fi 1 : Int) = x1 at *
      generalize (wd (fxT (trT N k)).fi 2 : Int) = x2 at *
      generalize (wd (fxT (trT N k)).fi 3 : Int) = x3 at *
      generalize enT (trT N k) = xe at *
      skip
      have HPV : Hid (fvs7 N [k] = [.bool xn, .int .i64 xl, .int .i64 xm, .int .u64 x0, .int .u64 x1, .int .u64 x2, .int .u64 x3, .bool xe]) := Lib.hid hpv
      obtain ⟨⟨kd, ya, yb, yc, yd, ylo, yhi⟩, hy⟩ : ∃ y, N k = y := ⟨_, rfl⟩
      rw [hy] at p0 p1 p2 p3 p4 p5 p6 HAR HNA HLF
      simp only at p0 p1 p2 p3 p4 p5 p6
      unfold ndr7 at HNA HLF
      have HLL := Lib.hid hL
      have i0' : (0 : Int) ≤ (k : Int) := by omega
      have i1 : (k : Int) < (n : Int) := by omega
      clear a1 hpv hy ha hL
      rcases id HO.out.2 with ⟨rfl, h0⟩ | ⟨g, cp, cur, rfl, hg1, hg2, -⟩
      · obtain ⟨rfl, rfl⟩ : r = 0 ∧ a = 0 := by omega
        have HL0 := Lib.hid (HLF.out rfl)
        clear HLF HNA
        go_wp2_with fail
        refine (HAR.out _).mono ?_
        rintro e wk ⟨rfl, hwk⟩
        subst hwk
        go_wp2_with fail
        obtain ⟨W, hW⟩ : ∃ W, wr.alloc (.cells #[.int .i64 kd, .int .u64 ya, .int .u64 yb, .int .u64 yc, .int .u64 yd, .int .i64 ylo, .int .i64 yhi] 45) = W := ⟨_, rfl⟩
        have c0 : W.cell? ⟨wr.heap.size, 0, none⟩ = some (.int .i64 kd) := by rw [← hW]; simp
        have c1 : W.cell? ⟨wr.heap.size, 1, none⟩ = some (.int .u64 ya) := by rw [← hW]; simp
        have c2 : W.cell? ⟨wr.heap.size, 2, none⟩ = some (.int .u64 yb) := by rw [← hW]; simp
        have c3 : W.cell? ⟨wr.heap.size, 3, none⟩ = some (.int .u64 yc) := by rw [← hW]; simp
        have c4 : W.cell? ⟨wr.heap.size, 4, none⟩ = some (.int .u64 yd) := by rw [← hW]; simp
        have c5 : W.cell? ⟨wr.heap.size, 5, none⟩ = some (.int .i64 ylo) := by rw [← hW]; simp
        have c6 : W.cell? ⟨wr.heap.size, 6, none⟩ = some (.int .i64 yhi) := by rw [← hW]; simp
        have hlW : wr.heap.size < W.heap.size := by rw [← hW]; simp
        have HBW : Hid (Below w1.heap.size w1 W) := Lib.hid (hW ▸ HB.out.alloc HB.out.size _)
        have HK : Hid (∀ w', Below W.heap.size W w' → w'.cell? ⟨wr.heap.size, 0, none⟩ = some (.int .i64 kd) ∧ w'.cell? ⟨wr.heap.size, 1, none⟩ = some (.int .u64 ya) ∧ w'.cell? ⟨wr.heap.size, 2, none⟩ = some (.int .u64 yb) ∧ w'.cell? ⟨wr.heap.size, 3, none⟩ = some (.int .u64 yc) ∧ w'.cell? ⟨wr.heap.size, 4, none⟩ = some (.int .u64 yd) ∧ w'.cell? ⟨wr.heap.size, 5, none⟩ = some (.int .i64 ylo) ∧ w'.cell? ⟨wr.heap.size, 6, none⟩ = some (.int .i64 yhi)) := Lib.hid (fun w' hB => ⟨cell_far7 hB hlW c0, cell_far7 hB hlW c1, cell_far7 hB hlW c2, cell_far7 hB hlW c3, cell_far7 hB hlW c4, cell_far7 hB hlW c5, cell_far7 hB hlW c6⟩)
        have HX : Hid (∀ wk, Below W.heap.size W wk → wk.ownsRow w1.heap.size 40 8 (.slice none 0 0) 0 (fvs7 N ((roots7 N k).take 0))) := Lib.hid (fun wk hB => by
          rw [List.take_zero]
          exact World.ownsRow_nil _ _ _ _)
        have hB := Below.refl W.heap.size W
        rw [hW]
        clear hW p0 p1 p2 p3 p4 p5 p6 h0 hbl HO HB c0 c1 c2 c3 c4 c5 c6 hlW
        go_region_held_law (fun w' => w'.cell? ⟨wr.heap.size, 0, none⟩ = some (.int .i64 kd) ∧ w'.cell? ⟨wr.heap.size, 1, none⟩ = some (.int .u64 ya) ∧ w'.cell? ⟨wr.heap.size, 2, none⟩ = some (.int .u64 yb) ∧ w'.cell? ⟨wr.heap.size, 3, none⟩ = some (.int .u64 yc) ∧ w'.cell? ⟨wr.heap.size, 4, none⟩ = some (.int .u64 yd) ∧ w'.cell? ⟨wr.heap.size, 5, none⟩ = some (.int .i64 ylo) ∧ w'.cell? ⟨wr.heap.size, 6, none⟩ = some (.int .i64 yhi))
          (first | with_reducible exact HK.out _ hB | with_reducible exact HK.out _ hB.drew | exact HKe.out | exact HK.out _ (hB.alloc (by exact hB.size) _))
          (first | (go_at_call 24; (with_reducible refine (HL0.out _ _ _).mono ?_); rintro e wk ⟨rfl, hb⟩; (replace hB := hB.drew.trans (hb.mono (by exact hB.size))); clear hb; have HOT := Lib.hid (HX.out wk hB)) | (refine wp_append_own _ _ _ 71 rfl w1.heap.size 40 i0 (.agg #[.bool false, .int .i64 0, .int .i64 0, .int .u64 0, .int .u64 0, .int .u64 0, .int .u64 0, .bool false]) 8 64 Tryd.underlying71 hi hz0 hz1 hz2 rfl (by decide) _ 0 (fvs7 N ((roots7 N k).take 0)) rfl (HOT.out.alloc _) ⟨wk.heap.size, 0, none⟩ 1 1 [.bool xn, .int .i64 xl, .int .i64 xm, .int .u64 x0, .int .u64 x1, .int .u64 x2, .int .u64 x3, .bool xe] rfl rfl (by intro j u hj; match j, hj with | 0, hj => (simp at hj; subst hj; simp [Addr.add]) | 1, hj => (simp at hj; subst hj; simp [Addr.add]) | 2, hj => (simp at hj; subst hj; simp [Addr.add]) | 3, hj => (simp at hj; subst hj; simp [Addr.add]) | 4, hj => (simp at hj; subst hj; simp [Addr.add]) | 5, hj => (simp at hj; subst hj; simp [Addr.add]) | 6, hj => (simp at hj; subst hj; simp [Addr.add]) | 7, hj => (simp at hj; subst hj; simp [Addr.add])) (by intro u hu; simp at hu; rcases hu with rfl | rfl | rfl | rfl | rfl | rfl | rfl | rfl <;> rfl) (by unfold maxLen; omega) (by omega) (by have := hB.size; have := HBW.out.size; simp; omega) ?_; intro v5 w5 h5 hg5 _; have HO5 := Lib.hid h5; have HG5 := Lib.hid hg5; have HKe : Hid (w5.cell? ⟨wr.heap.size, 0, none⟩ = some (.int .i64 kd) ∧ w5.cell? ⟨wr.heap.size, 1, none⟩ = some (.int .u64 ya) ∧ w5.cell? ⟨wr.heap.size, 2, none⟩ = some (.int .u64 yb) ∧ w5.cell? ⟨wr.heap.size, 3, none⟩ = some (.int .u64 yc) ∧ w5.cell? ⟨wr.heap.size, 4, none⟩ = some (.int .u64 yd) ∧ w5.cell? ⟨wr.heap.size, 5, none⟩ = some (.int .i64 ylo) ∧ w5.cell? ⟨wr.heap.size, 6, none⟩ = some (.int .i64 yhi)) := Lib.hid (by obtain ⟨k0, k1, k2, k3, k4, k5, k6⟩ := HK.out _ (hB.alloc (by exact hB.size) (.cells #[.bool xn, .int .i64 xl, .int .i64 xm, .int .u64 x0, .int .u64 x1, .int .u64 x2, .int .u64 x3, .bool xe] 40)); have hne := (show some wr.heap.size ≠ none from fun h => by cases h); exact ⟨hg5.cell k0 hne, hg5.cell k1 hne, hg5.cell k2 hne, hg5.cell k3 hne, hg5.cell k4 hne, hg5.cell k5 hne, hg5.cell k6 hne⟩); clear h5 hg5))
        all_goals
          have HB5 : Hid (Below w1.heap.size w1 w5) := Lib.hid (((HBW.out.trans (hB.mono HBW.out.size)).alloc (by have := HBW.out.size; have := hB.size; omega) _).grown HG5.out (by have := HBW.out.size; have := hB.size; simp; omega) fun r hr => (HOT.out.lt r hr).1)
          have HO6 : Hid (w5.ownsRow w1.heap.size 40 8 v5 (roots7 N (k + 1)).length (fvs7 N (roots7 N (k + 1)))) := Lib.hid (by
            rw [HRS.out, List.length_append, List.length_take, HLL.out, Nat.min_eq_left (by omega), fvs7_append, HPV.out]
            exact HO5.out)
          clear hB
          go_wp2_with fail
          go_roundw
          case rel => exact ⟨k + 1, by omega, by go_num, HO6, HB5.out⟩
          case measure => simp [intOf]; omega
      · go_wp2_with fail
        refine (HAR.out _).mono ?_
        rintro e wk ⟨rfl, hwk⟩
        subst hwk
        go_wp2_with fail
        obtain ⟨W, hW⟩ : ∃ W, wr.alloc (.cells #[.int .i64 kd, .int .u64 ya, .int .u64 yb, .int .u64 yc, .int .u64 yd, .int .i64 ylo, .int .i64 yhi] 45) = W := ⟨_, rfl⟩
        have c0 : W.cell? ⟨wr.heap.size, 0, none⟩ = some (.int .i64 kd) := by rw [← hW]; simp
        have c1 : W.cell? ⟨wr.heap.size, 1, none⟩ = some (.int .u64 ya) := by rw [← hW]; simp
        have c2 : W.cell? ⟨wr.heap.size, 2, none⟩ = some (.int .u64 yb) := by rw [← hW]; simp
        have c3 : W.cell? ⟨wr.heap.size, 3, none⟩ = some (.int .u64 yc) := by rw [← hW]; simp
        have c4 : W.cell? ⟨wr.heap.size, 4, none⟩ = some (.int .u64 yd) := by rw [← hW]; simp
        have c5 : W.cell? ⟨wr.heap.size, 5, none⟩ = some (.int .i64 ylo) := by rw [← hW]; simp
        have c6 : W.cell? ⟨wr.heap.size, 6, none⟩ = some (.int .i64 yhi) := by rw [← hW]; simp
        have hlW : wr.heap.size < W.heap.size := by rw [← hW]; simp
        have HBW : Hid (Below w1.heap.size w1 W) := Lib.hid (hW ▸ HB.out.alloc HB.out.size _)
        have HK : Hid (∀ w', Below W.heap.size W w' → w'.cell? ⟨wr.heap.size, 0, none⟩ = some (.int .i64 kd) ∧ w'.cell? ⟨wr.heap.size, 1, none⟩ = some (.int .u64 ya) ∧ w'.cell? ⟨wr.heap.size, 2, none⟩ = some (.int .u64 yb) ∧ w'.cell? ⟨wr.heap.size, 3, none⟩ = some (.int .u64 yc) ∧ w'.cell? ⟨wr.heap.size, 4, none⟩ = some (.int .u64 yd) ∧ w'.cell? ⟨wr.heap.size, 5, none⟩ = some (.int .i64 ylo) ∧ w'.cell? ⟨wr.heap.size, 6, none⟩ = some (.int .i64 yhi)) := Lib.hid (fun w' hB => ⟨cell_far7 hB hlW c0, cell_far7 hB hlW c1, cell_far7 hB hlW c2, cell_far7 hB hlW c3, cell_far7 hB hlW c4, cell_far7 hB hlW c5, cell_far7 hB hlW c6⟩)
        have HOW : Hid (W.ownsRow w1.heap.size 40 8 (.slice (some ⟨g, 0, none⟩) (r + a) cp) (r + a) (fvs7 N (roots7 N k))) := Lib.hid (hW ▸ HO.out.alloc _)
        have hcp : r + a ≤ cp := by
          rcases HOW.out.2 with ⟨hx, _⟩ | ⟨g', c', cur', hx, _, _, h5, _⟩
          · cases hx
          · simp only [Value.slice.injEq] at hx
            rw [hx.2.2]; exact h5
        have HX : Hid (∀ wk, Below W.heap.size W wk → wk.ownsRow w1.heap.size 40 8 (.slice (some ⟨g, 0, none⟩) r cp) r (fvs7 N ((roots7 N k).take r))) := Lib.hid (fun wk hB => by
          rw [← fvs7_take N _ r (by rw [HLL.out]; omega)]
          exact own_take7 (owns_below HOW.out hB) (by omega))
        have hB := Below.refl W.heap.size W
        have HROWS := Lib.hid (fvsAt_of HOW.out HLL.out)
        have HGW := Lib.hid (HOW.out.lt g rfl).2
        have HGr := Lib.hid (HO.out.lt g rfl).2
        have s1 : (0 : Int) ≤ (r : Int) := by omega
        have s2 : (r : Int) ≤ (r : Int) + (a : Int) := by omega
        have s3 : (r : Int) + (a : Int) ≤ (cp : Int) := by omega
        rw [hW]
        clear hW p0 p1 p2 p3 p4 p5 p6 hg1 hg2 hbl HO HB c0 c1 c2 c3 c4 c5 c6 hlW
        rcases Nat.eq_zero_or_pos a with h0 | h0
        · have HL0 := Lib.hid (HLF.out h0)
          subst h0
          rcases Nat.lt_or_ge r cp with s4 | s4
          · have s6 : ¬ (r = cp) := by omega
            have s7 : ¬ (cp - r = 0) := by omega
            go_region_held_law (fun w' => w'.cell? ⟨wr.heap.size, 0, none⟩ = some (.int .i64 kd) ∧ w'.cell? ⟨wr.heap.size, 1, none⟩ = some (.int .u64 ya) ∧ w'.cell? ⟨wr.heap.size, 2, none⟩ = some (.int .u64 yb) ∧ w'.cell? ⟨wr.heap.size, 3, none⟩ = some (.int .u64 yc) ∧ w'.cell? ⟨wr.heap.size, 4, none⟩ = some (.int .u64 yd) ∧ w'.cell? ⟨wr.heap.size, 5, none⟩ = some (.int .i64 ylo) ∧ w'.cell? ⟨wr.heap.size, 6, none⟩ = some (.int .i64 yhi))
              (first | with_reducible exact HK.out _ hB | with_reducible exact HK.out _ hB.drew | exact HKe.out | exact HK.out _ (hB.alloc (by exact hB.size) _))
              (first | (go_at_call 24; (with_reducible refine (HL0.out _ _ _).mono ?_); rintro e wk ⟨rfl, hb⟩; (replace hB := hB.drew.trans (hb.mono (by exact hB.size))); clear hb; have HOT := Lib.hid (HX.out wk hB)) | (refine wp_append_own _ _ _ 71 rfl w1.heap.size 40 i0 (.agg #[.bool false, .int .i64 0, .int .i64 0, .int .u64 0, .int .u64 0, .int .u64 0, .int .u64 0, .bool false]) 8 64 Tryd.underlying71 hi hz0 hz1 hz2 rfl (by decide) _ r (fvs7 N ((roots7 N k).take r)) rfl (HOT.out.alloc _) ⟨wk.heap.size, 0, none⟩ 1 1 [.bool xn, .int .i64 xl, .int .i64 xm, .int .u64 x0, .int .u64 x1, .int .u64 x2, .int .u64 x3, .bool xe] rfl rfl (by intro j u hj; match j, hj with | 0, hj => (simp at hj; subst hj; simp [Addr.add]) | 1, hj => (simp at hj; subst hj; simp [Addr.add]) | 2, hj => (simp at hj; subst hj; simp [Addr.add]) | 3, hj => (simp at hj; subst hj; simp [Addr.add]) | 4, hj => (simp at hj; subst hj; simp [Addr.add]) | 5, hj => (simp at hj; subst hj; simp [Addr.add]) | 6, hj => (simp at hj; subst hj; simp [Addr.add]) | 7, hj => (simp at hj; subst hj; simp [Addr.add])) (by intro u hu; simp at hu; rcases hu with rfl | rfl | rfl | rfl | rfl | rfl | rfl | rfl <;> rfl) (by unfold maxLen; omega) (by omega) (by have := hB.size; have := HBW.out.size; simp; omega) ?_; intro v5 w5 h5 hg5 _; have HO5 := Lib.hid h5; have HG5 := Lib.hid hg5; have HKe : Hid (w5.cell? ⟨wr.heap.size, 0, none⟩ = some (.int .i64 kd) ∧ w5.cell? ⟨wr.heap.size, 1, none⟩ = some (.int .u64 ya) ∧ w5.cell? ⟨wr.heap.size, 2, none⟩ = some (.int .u64 yb) ∧ w5.cell? ⟨wr.heap.size, 3, none⟩ = some (.int .u64 yc) ∧ w5.cell? ⟨wr.heap.size, 4, none⟩ = some (.int .u64 yd) ∧ w5.cell? ⟨wr.heap.size, 5, none⟩ = some (.int .i64 ylo) ∧ w5.cell? ⟨wr.heap.size, 6, none⟩ = some (.int .i64 yhi)) := Lib.hid (by obtain ⟨k0, k1, k2, k3, k4, k5, k6⟩ := HK.out _ (hB.alloc (by exact hB.size) (.cells #[.bool xn, .int .i64 xl, .int .i64 xm, .int .u64 x0, .int .u64 x1, .int .u64 x2, .int .u64 x3, .bool xe] 40)); have hne := (show some wr.heap.size ≠ some g from fun h => by have := HGr.out; injection h with h; omega); exact ⟨hg5.cell k0 hne, hg5.cell k1 hne, hg5.cell k2 hne, hg5.cell k3 hne, hg5.cell k4 hne, hg5.cell k5 hne, hg5.cell k6 hne⟩); clear h5 hg5))
            all_goals
              have HB5 : Hid (Below w1.heap.size w1 w5) := Lib.hid (((HBW.out.trans (hB.mono HBW.out.size)).alloc (by have := HBW.out.size; have := hB.size; omega) _).grown HG5.out (by have := HBW.out.size; have := hB.size; simp; omega) fun r hr => (HOT.out.lt r hr).1)
              have HO6 : Hid (w5.ownsRow w1.heap.size 40 8 v5 (roots7 N (k + 1)).length (fvs7 N (roots7 N (k + 1)))) := Lib.hid (by
                rw [HRS.out, List.length_append, List.length_take, HLL.out, Nat.min_eq_left (by omega), fvs7_append, HPV.out]
                exact HO5.out)
              clear hB
              go_wp2_with fail
              go_roundw
              case rel => exact ⟨k + 1, by omega, by go_num, HO6, HB5.out⟩
              case measure => simp [intOf]; omega
          · obtain rfl : r = cp := by omega
            have s7 : r - r = 0 := by omega
            go_region_held_law (fun w' => w'.cell? ⟨wr.heap.size, 0, none⟩ = some (.int .i64 kd) ∧ w'.cell? ⟨wr.heap.size, 1, none⟩ = some (.int .u64 ya) ∧ w'.cell? ⟨wr.heap.size, 2, none⟩ = some (.int .u64 yb) ∧ w'.cell? ⟨wr.heap.size, 3, none⟩ = some (.int .u64 yc) ∧ w'.cell? ⟨wr.heap.size, 4, none⟩ = some (.int .u64 yd) ∧ w'.cell? ⟨wr.heap.size, 5, none⟩ = some (.int .i64 ylo) ∧ w'.cell? ⟨wr.heap.size, 6, none⟩ = some (.int .i64 yhi))
              (first | with_reducible exact HK.out _ hB | with_reducible exact HK.out _ hB.drew | exact HKe.out | exact HK.out _ (hB.alloc (by exact hB.size) _))
              (first | (go_at_call 24; (with_reducible refine (HL0.out _ _ _).mono ?_); rintro e wk ⟨rfl, hb⟩; (replace hB := hB.drew.trans (hb.mono (by exact hB.size))); clear hb; have HOT := Lib.hid (HX.out wk hB)) | (refine wp_append_own _ _ _ 71 rfl w1.heap.size 40 i0 (.agg #[.bool false, .int .i64 0, .int .i64 0, .int .u64 0, .int .u64 0, .int .u64 0, .int .u64 0, .bool false]) 8 64 Tryd.underlying71 hi hz0 hz1 hz2 rfl (by decide) _ r (fvs7 N ((roots7 N k).take r)) rfl (HOT.out.alloc _) ⟨wk.heap.size, 0, none⟩ 1 1 [.bool xn, .int .i64 xl, .int .i64 xm, .int .u64 x0, .int .u64 x1, .int .u64 x2, .int .u64 x3, .bool xe] rfl rfl (by intro j u hj; match j, hj with | 0, hj => (simp at hj; subst hj; simp [Addr.add]) | 1, hj => (simp at hj; subst hj; simp [Addr.add]) | 2, hj => (simp at hj; subst hj; simp [Addr.add]) | 3, hj => (simp at hj; subst hj; simp [Addr.add]) | 4, hj => (simp at hj; subst hj; simp [Addr.add]) | 5, hj => (simp at hj; subst hj; simp [Addr.add]) | 6, hj => (simp at hj; subst hj; simp [Addr.add]) | 7, hj => (simp at hj; subst hj; simp [Addr.add])) (by intro u hu; simp at hu; rcases hu with rfl | rfl | rfl | rfl | rfl | rfl | rfl | rfl <;> rfl) (by unfold maxLen; omega) (by omega) (by have := hB.size; have := HBW.out.size; simp; omega) ?_; intro v5 w5 h5 hg5 _; have HO5 := Lib.hid h5; have HG5 := Lib.hid hg5; have HKe : Hid (w5.cell? ⟨wr.heap.size, 0, none⟩ = some (.int .i64 kd) ∧ w5.cell? ⟨wr.heap.size, 1, none⟩ = some (.int .u64 ya) ∧ w5.cell? ⟨wr.heap.size, 2, none⟩ = some (.int .u64 yb) ∧ w5.cell? ⟨wr.heap.size, 3, none⟩ = some (.int .u64 yc) ∧ w5.cell? ⟨wr.heap.size, 4, none⟩ = some (.int .u64 yd) ∧ w5.cell? ⟨wr.heap.size, 5, none⟩ = some (.int .i64 ylo) ∧ w5.cell? ⟨wr.heap.size, 6, none⟩ = some (.int .i64 yhi)) := Lib.hid (by obtain ⟨k0, k1, k2, k3, k4, k5, k6⟩ := HK.out _ (hB.alloc (by exact hB.size) (.cells #[.bool xn, .int .i64 xl, .int .i64 xm, .int .u64 x0, .int .u64 x1, .int .u64 x2, .int .u64 x3, .bool xe] 40)); have hne := (show some wr.heap.size ≠ some g from fun h => by have := HGr.out; injection h with h; omega); exact ⟨hg5.cell k0 hne, hg5.cell k1 hne, hg5.cell k2 hne, hg5.cell k3 hne, hg5.cell k4 hne, hg5.cell k5 hne, hg5.cell k6 hne⟩); clear h5 hg5))
            all_goals
              have HB5 : Hid (Below w1.heap.size w1 w5) := Lib.hid (((HBW.out.trans (hB.mono HBW.out.size)).alloc (by have := HBW.out.size; have := hB.size; omega) _).grown HG5.out (by have := HBW.out.size; have := hB.size; simp; omega) fun r hr => (HOT.out.lt r hr).1)
              have HO6 : Hid (w5.ownsRow w1.heap.size 40 8 v5 (roots7 N (k + 1)).length (fvs7 N (roots7 N (k + 1)))) := Lib.hid (by
                rw [HRS.out, List.length_append, List.length_take, HLL.out, Nat.min_eq_left (by omega), fvs7_append, HPV.out]
                exact HO5.out)
              clear hB
              go_wp2_with fail
              go_roundw
              case rel => exact ⟨k + 1, by omega, by go_num, HO6, HB5.out⟩
              case measure => simp [intOf]; omega
        · have s4 : r < cp := by omega
          have s5 : (r : Int) < (cp : Int) := by omega
          have s6 : ¬ (r = cp) := by omega
          have s7 : ¬ (cp - r = 0) := by omega
          have HC := Lib.hid (HNA.out W.drew g (cp - r) HGW.out HROWS.out)
          go_region_held_law (fun w' => w'.cell? ⟨wr.heap.size, 0, none⟩ = some (.int .i64 kd) ∧ w'.cell? ⟨wr.heap.size, 1, none⟩ = some (.int .u64 ya) ∧ w'.cell? ⟨wr.heap.size, 2, none⟩ = some (.int .u64 yb) ∧ w'.cell? ⟨wr.heap.size, 3, none⟩ = some (.int .u64 yc) ∧ w'.cell? ⟨wr.heap.size, 4, none⟩ = some (.int .u64 yd) ∧ w'.cell? ⟨wr.heap.size, 5, none⟩ = some (.int .i64 ylo) ∧ w'.cell? ⟨wr.heap.size, 6, none⟩ = some (.int .i64 yhi))
            (first | with_reducible exact HK.out _ hB | with_reducible exact HK.out _ hB.drew | exact HKe.out | exact HK.out _ (hB.alloc (by exact hB.size) _))
            (first | (go_at_call 24; (with_reducible refine (HC.out).mono ?_); rintro e wk ⟨rfl, hb⟩; (replace hB := hB.drew.trans (hb.mono (by exact hB.size))); clear hb; have HOT := Lib.hid (HX.out wk hB)) | (refine wp_append_own _ _ _ 71 rfl w1.heap.size 40 i0 (.agg #[.bool false, .int .i64 0, .int .i64 0, .int .u64 0, .int .u64 0, .int .u64 0, .int .u64 0, .bool false]) 8 64 Tryd.underlying71 hi hz0 hz1 hz2 rfl (by decide) _ r (fvs7 N ((roots7 N k).take r)) rfl (HOT.out.alloc _) ⟨wk.heap.size, 0, none⟩ 1 1 [.bool xn, .int .i64 xl, .int .i64 xm, .int .u64 x0, .int .u64 x1, .int .u64 x2, .int .u64 x3, .bool xe] rfl rfl (by intro j u hj; match j, hj with | 0, hj => (simp at hj; subst hj; simp [Addr.add]) | 1, hj => (simp at hj; subst hj; simp [Addr.add]) | 2, hj => (simp at hj; subst hj; simp [Addr.add]) | 3, hj => (simp at hj; subst hj; simp [Addr.add]) | 4, hj => (simp at hj; subst hj; simp [Addr.add]) | 5, hj => (simp at hj; subst hj; simp [Addr.add]) | 6, hj => (simp at hj; subst hj; simp [Addr.add]) | 7, hj => (simp at hj; subst hj; simp [Addr.add])) (by intro u hu; simp at hu; rcases hu with rfl | rfl | rfl | rfl | rfl | rfl | rfl | rfl <;> rfl) (by unfold maxLen; omega) (by omega) (by have := hB.size; have := HBW.out.size; simp; omega) ?_; intro v5 w5 h5 hg5 _; have HO5 := Lib.hid h5; have HG5 := Lib.hid hg5; have HKe : Hid (w5.cell? ⟨wr.heap.size, 0, none⟩ = some (.int .i64 kd) ∧ w5.cell? ⟨wr.heap.size, 1, none⟩ = some (.int .u64 ya) ∧ w5.cell? ⟨wr.heap.size, 2, none⟩ = some (.int .u64 yb) ∧ w5.cell? ⟨wr.heap.size, 3, none⟩ = some (.int .u64 yc) ∧ w5.cell? ⟨wr.heap.size, 4, none⟩ = some (.int .u64 yd) ∧ w5.cell? ⟨wr.heap.size, 5, none⟩ = some (.int .i64 ylo) ∧ w5.cell? ⟨wr.heap.size, 6, none⟩ = some (.int .i64 yhi)) := Lib.hid (by obtain ⟨k0, k1, k2, k3, k4, k5, k6⟩ := HK.out _ (hB.alloc (by exact hB.size) (.cells #[.bool xn, .int .i64 xl, .int .i64 xm, .int .u64 x0, .int .u64 x1, .int .u64 x2, .int .u64 x3, .bool xe] 40)); have hne := (show some wr.heap.size ≠ some g from fun h => by have := HGr.out; injection h with h; omega); exact ⟨hg5.cell k0 hne, hg5.cell k1 hne, hg5.cell k2 hne, hg5.cell k3 hne, hg5.cell k4 hne, hg5.cell k5 hne, hg5.cell k6 hne⟩); clear h5 hg5))
          all_goals
            have HB5 : Hid (Below w1.heap.size w1 w5) := Lib.hid (((HBW.out.trans (hB.mono HBW.out.size)).alloc (by have := HBW.out.size; have := hB.size; omega) _).grown HG5.out (by have := HBW.out.size; have := hB.size; simp; omega) fun r hr => (HOT.out.lt r hr).1)
            have HO6 : Hid (w5.ownsRow w1.heap.size 40 8 v5 (roots7 N (k + 1)).length (fvs7 N (roots7 N (k + 1)))) := Lib.hid (by
              rw [HRS.out, List.length_append, List.length_take, HLL.out, Nat.min_eq_left (by omega), fvs7_append, HPV.out]
              exact HO5.out)
            clear hB
            go_wp2_with fail
            go_roundw
            case rel => exact ⟨k + 1, by omega, by go_num, HO6, HB5.out⟩
            case measure => simp [intOf]; omega
    · have hkn : k = n := by omega
      subst hkn
      have hra := roots_all7 HTR.out hpos
      have hO := HO.out
      rw [hra] at hO
      obtain ⟨g, cp, rfl, -⟩ : ∃ g cp, u5 = .slice (some ⟨g, 0, none⟩) 1 cp ∧ True := by
        rcases id hO.2 with ⟨rfl, h0⟩ | ⟨g, cp, cur, rfl, -⟩
        · cases h0
        · exact ⟨g, cp, rfl, trivial⟩
      have q := fvsAt_of hO rfl 0 (by simp)
      clear hO hra HO HTR
      simp only [List.getElem_cons_zero, Nat.zero_mul] at q
      obtain ⟨q0, q1, q2, q3, q4, q5, q6, q7⟩ := q
      simp only [Nat.zero_add] at q1 q2 q3 q4 q5 q6 q7
      have e1 := HEC.out.below HB.out hCs
      obtain ⟨c0, c1, c2, c3, c4, c5, c6, c7⟩ := e1.cells
      obtain ⟨f0, f1, f2, f3, f4, f5, f6, f7⟩ := e1.free
      have HBB := Lib.hid (HBA.out.trans (HB.out.mono HBA.out.size))
      obtain ⟨y0, y1, y2, y3, y4, y5, y6, y7⟩ := HQ.out
      rw [y0] at q0; rw [y1] at q1; rw [y2] at q2; rw [y3] at q3; rw [y4] at q4; rw [y5] at q5; rw [y6] at q6; rw [y7] at q7
      have HS := Lib.hid (below_st8 HBB.out (Nat.le_refl _) zn zl zm z0 z1 z2 z3 ze)
      have Z := e1.stored zn zl zm z0 z1 z2 z3 ze
      unfold set87 at Z
      have Z := Lib.hid Z.cells
      clear y0 y1 y2 y3 y4 y5 y6 y7 HQ
      clear e1 HEC HB HBA HBB HRD1 hCs
      go_wp2_with fail
      refine bodyPost_ret (v := fxr zn zl zm z0 z1 z2 z3 ze) ?h rfl ⟨rfl, HS.out⟩
      case h =>
        have Z0 := Z.out
        generalize ((((((((wr.setCell ⟨w.heap.size, 0, none⟩ (.bool zn)).setCell ⟨w.heap.size, 1, none⟩ (.int .i64 zl)).setCell ⟨w.heap.size, 2, none⟩ (.int .i64 zm)).setCell ⟨w.heap.size, 3, none⟩ (.int .u64 z0)).setCell ⟨w.heap.size, 4, none⟩ (.int .u64 z1)).setCell ⟨w.heap.size, 5, none⟩ (.int .u64 z2)).setCell ⟨w.heap.size, 6, none⟩ (.int .u64 z3)).setCell ⟨w.heap.size, 7, none⟩ (.bool ze)) = W9 at Z0 ⊢
        obtain ⟨v0, v1, v2, v3, v4, v5, v6, v7⟩ := Z0
        simp [results, Tryd.results23, go_sem, v0, v1, v2, v3, v4, v5, v6, v7]
end Go.Proofs.YtjbmkbgoahppfaaDoor
