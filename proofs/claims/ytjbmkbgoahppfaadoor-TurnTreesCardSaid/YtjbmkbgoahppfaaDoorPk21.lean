/-
  The walk of the reference's turned tree.
-/
import Derived.Test.YtjbmkbgoahppfaaDoorPk3
import Derived.Test.YtjbmkbgoahppfaaDoorPk20
import Derived.Deep.Cut
namespace Go.Proofs.YtjbmkbgoahppfaaDoor
open Go.RowKit

set_option maxRecDepth 100000 in
set_option maxHeartbeats 40000000 in
theorem rof8_is (b off n cap : Nat) (N : Nat → Nd) (ht : tree N n) (w : World) (hr : rdN w b off n N) :
    Calls Tryd.prog 12 #[.slice (some ⟨b, off, none⟩) n cap] w (ndsPost (ptL N (n - 1)) w) := by
  obtain ⟨i0, hi, hz0, hz1, hz2⟩ := info_parts infoPts
  have hn := ht.1
  have hpos : 0 < n := (tree_iff.1 ht).1
  have HRD := Lib.hid hr
  have HTR := Lib.hid ht
  have HPL : Hid (∀ j, j < n → (ptL N j).length ≤ 512) := Lib.hid fun j hj => by have := ptL_len ht hj; omega
  clear hr ht
  unfold ndsPost
  go_enter Tryd.func12, Tryd.ntmps12
  go_wp2_with fail
  go_loopw [3, 4] (fun v i wr => ∃ k : Nat, k ≤ n ∧ i = .int .i64 k ∧ Hid (prts wr w.heap.size N k v) ∧ Below w.heap.size w wr) (fun _ i _ => n - (intOf i).toNat)
  case atStart => exact ⟨0, Nat.zero_le _, rfl, Lib.hid (prts.nil _ _ _), Below.refl _ _⟩
  case round =>
    obtain ⟨k, hk, rfl, HP, hB⟩ := hrel
    have HB := Lib.hid hB
    clear hB
    by_cases hlt : k < n
    · have HKd := Lib.hid (rkids_is b off n cap k N (by omega) hlt ((tree_iff.1 HTR.out).2.2.1 k hlt).1 wr (HRD.out.below HB.out))
      have hok := ((tree_iff.1 HTR.out).2.2.1 k hlt).2
      obtain ⟨f, hf, hc⟩ := nd_is HTR.out hlt
      have i0' : (0 : Int) ≤ (k : Int) := by omega
      have i1 : (k : Int) < (n : Int) := by omega
      go_wp2_with fail
      refine HKd.out.mono ?_
      rintro e w2 ⟨kv, rfl, hkv, hb⟩
      have HB2 := Lib.hid (HB.out.trans (hb.mono HB.out.size))
      have HP2 := Lib.hid (HP.out.below hb)
      obtain ⟨hbl, p0, p1, p2, p3, p4, p5, p6⟩ := (HRD.out.below HB2.out) k hlt
      clear HKd HP HB hb
      cases hc with
      | leaf _ hk0 _ =>
        rw [show kids N k = [] by unfold kids; rcases hk0 with h | h | h | h <;> (rw [h]; rfl)] at hkv
        obtain ⟨kp, kc, rfl⟩ : ∃ kp kc, kv = .slice kp 0 kc := by
          rcases hkv with ⟨p, c, rfl, -⟩ | ⟨g, c, rfl, -⟩
          · exact ⟨p, c, rfl⟩
          · exact ⟨_, c, rfl⟩
        have hpl := ptL_leaf (N := N) (i := k) hk0
        clear hkv hok hf
        obtain ⟨y, hy⟩ : ∃ y, N k = y := ⟨_, rfl⟩
        rw [hy] at hk0 p0 p1 p2 p3 p4 p5 p6 hpl
        obtain ⟨yk, ya, yb, yc, yd, ylo, yhi⟩ := y
        simp only at hk0 p0 p1 p2 p3 p4 p5 p6
        clear hy
        rcases hk0 with rfl | rfl | rfl | rfl
        · have HPT : Hid ([] ++ [(⟨1, ya, yb, yc, yd, ylo, yhi⟩ : Nd)] = ptL N k) := Lib.hid (by rw [hpl]; rfl)
          have HLEN : Hid ((([] : List Nd)).length + [(⟨1, ya, yb, yc, yd, ylo, yhi⟩ : Nd)].length ≤ 100000) := Lib.hid (by simp)
          clear hpl
          have EN := Lib.hid (isNd.new w2 1 ya yb yc yd ylo yhi)
          have HQ : Hid (Below w2.heap.size w2 (w2.alloc (.cells #[.int .i64 1, .int .u64 ya, .int .u64 yb, .int .u64 yc, .int .u64 yd, .int .i64 ylo, .int .i64 yhi] 45))) := Lib.hid ((Below.refl _ _).alloc (Nat.le_refl _) _)
          have hsz : (w2.alloc (.cells #[.int .i64 1, .int .u64 ya, .int .u64 yb, .int .u64 yc, .int .u64 yd, .int .i64 ylo, .int .i64 yhi] 45)).heap.size = w2.heap.size + 1 := by simp
          go_upto_region 8 with (fail)
          generalize w2.alloc (.cells #[.int .i64 1, .int .u64 ya, .int .u64 yb, .int .u64 yc, .int .u64 yd, .int .i64 ylo, .int .i64 yhi] 45) = W0 at *
          obtain ⟨B1, hB1⟩ : ∃ B1, W0.heap.size = B1 := ⟨_, rfl⟩
          have H1 : Hid (B1 = w2.heap.size + 1) := Lib.hid (by omega)
          generalize hxv : Value.slice none 0 0 = xv
          have HX0 : Hid (W0.ownsRow B1 45 7 xv (([] : List Nd)).length (nds [])) := Lib.hid (hxv ▸ World.ownsRow_nil _ _ _ _)
          have HS0 : Hid (B1 ≤ W0.heap.size) := Lib.hid (by omega)
          clear hsz hB1
          have HXV := Lib.hid hxv
          clear hxv
          obtain ⟨c0, c1, c2, c3, c4, c5, c6⟩ := EN.out.cells
          have f0 := EN.out.free
          go_wp2_with fail
          refine wp_loop_rounds 1 ?_
          rw [rounds_succ]
          go_wp2_with (at_builtin; refine append_nds rfl _ _ rfl B1 _ ([]) rfl (HX0.out.alloc _) W0.heap.size 1 [(⟨1, ya, yb, yc, yd, ylo, yhi⟩ : Nd)] 1 rfl rfl (lit_nd W0 (⟨1, ya, yb, yc, yd, ylo, yhi⟩ : Nd)) HLEN.out (by have := H1.out; have := HQ.out.size; rw [World.size_alloc]; omega) ?_; intro v7 w7 h7 hb7; refine Hid.out ?_)
          rw [HPT.out] at h7
          obtain ⟨G, C, rfl, -, -, -⟩ := owns_block h7 (ptL_pos N k)
          have HX7 := Lib.hid (owns_mono h7 (show w.heap.size ≤ B1 by have := H1.out; have := HB2.out.size; omega))
          have HQ7 := Lib.hid ((HQ.out.alloc HQ.out.size (.cells #[.int .i64 1, .int .u64 ya, .int .u64 yb, .int .u64 yc, .int .u64 yd, .int .i64 ylo, .int .i64 yhi] 45)).trans (hb7.mono (by have := H1.out; omega)))
          clear h7 hb7 HX0 EN
          obtain ⟨g8, k8, hrow, hparts⟩ := HP2.out.below (HQ7.out.alloc HQ7.out.size (.cells #[.slice (some ⟨G, 0, none⟩) (ptL N k).length C] 22))
          have HROW := Lib.hid hrow; have HPARTS := Lib.hid hparts
          clear hrow hparts
          refine Lib.hid ?_
          have H63 : Hid (k + 1 ≤ maxLen) := Lib.hid (by unfold maxLen; omega)
          have H48 : Hid ((k + 1) * 24 ≤ 140737488355328) := Lib.hid (by omega)
          have HB8 := Lib.hid ((HB2.out.trans (HQ7.out.mono HB2.out.size)).alloc (Nat.le_trans HB2.out.size HQ7.out.size) (.cells #[.slice (some ⟨G, 0, none⟩) (ptL N k).length C] 22))
          go_wp2_with (at_builtin; refine wpList_append_own _ rfl _ _ 53 rfl w.heap.size 22 i0 (.slice none 0 0) 1 24 Tryd.underlying53 hi hz0 hz1 hz2 rfl (by decide) _ _ _ rfl HROW.out ⟨w7.heap.size, 0, none⟩ 1 1 [.slice (some ⟨G, 0, none⟩) (ptL N k).length C] rfl rfl ?c2 ?c3 H63.out H48.out ?c5 ?_)
          case c2 =>
            intro j u hj
            match j, hj with
            | 0, hj => simp at hj; subst hj; simp [Addr.add]
          case c3 => intro u hu; simp at hu; subst hu; rfl
          case c5 => exact HB8.out.size
          intro v9 w9 hown9 hgrow _
          have HB9 : Hid (Below w.heap.size w w9) := Lib.hid (HB8.out.grown hgrow HB8.out.size fun r hr => (HROW.out.lt r hr).1)
          have HP9 : Hid (prts w9 w.heap.size N (k + 1) v9) := Lib.hid (prts.push HROW.out HPARTS.out (owns_below HX7.out ((Below.refl _ _).alloc (Nat.le_refl _) _)) hown9 hgrow)
          clear hown9 hgrow HROW HPARTS HB8 HX7 HQ7 HP2 HB2
          obtain rfl := HXV.out
          go_wp2_with fail
          go_roundw
          case rel => exact ⟨k + 1, by omega, by go_num, HP9, HB9.out⟩
          case measure => simp [intOf]; omega
        · have HPT : Hid ([] ++ [(⟨2, ya, yb, yc, yd, ylo, yhi⟩ : Nd)] = ptL N k) := Lib.hid (by rw [hpl]; rfl)
          have HLEN : Hid ((([] : List Nd)).length + [(⟨2, ya, yb, yc, yd, ylo, yhi⟩ : Nd)].length ≤ 100000) := Lib.hid (by simp)
          clear hpl
          have EN := Lib.hid (isNd.new w2 2 ya yb yc yd ylo yhi)
          have HQ : Hid (Below w2.heap.size w2 (w2.alloc (.cells #[.int .i64 2, .int .u64 ya, .int .u64 yb, .int .u64 yc, .int .u64 yd, .int .i64 ylo, .int .i64 yhi] 45))) := Lib.hid ((Below.refl _ _).alloc (Nat.le_refl _) _)
          have hsz : (w2.alloc (.cells #[.int .i64 2, .int .u64 ya, .int .u64 yb, .int .u64 yc, .int .u64 yd, .int .i64 ylo, .int .i64 yhi] 45)).heap.size = w2.heap.size + 1 := by simp
          go_upto_region 8 with (fail)
          generalize w2.alloc (.cells #[.int .i64 2, .int .u64 ya, .int .u64 yb, .int .u64 yc, .int .u64 yd, .int .i64 ylo, .int .i64 yhi] 45) = W0 at *
          obtain ⟨B1, hB1⟩ : ∃ B1, W0.heap.size = B1 := ⟨_, rfl⟩
          have H1 : Hid (B1 = w2.heap.size + 1) := Lib.hid (by omega)
          generalize hxv : Value.slice none 0 0 = xv
          have HX0 : Hid (W0.ownsRow B1 45 7 xv (([] : List Nd)).length (nds [])) := Lib.hid (hxv ▸ World.ownsRow_nil _ _ _ _)
          have HS0 : Hid (B1 ≤ W0.heap.size) := Lib.hid (by omega)
          clear hsz hB1
          have HXV := Lib.hid hxv
          clear hxv
          obtain ⟨c0, c1, c2, c3, c4, c5, c6⟩ := EN.out.cells
          have f0 := EN.out.free
          go_wp2_with fail
          refine wp_loop_rounds 1 ?_
          rw [rounds_succ]
          go_wp2_with (at_builtin; refine append_nds rfl _ _ rfl B1 _ ([]) rfl (HX0.out.alloc _) W0.heap.size 1 [(⟨2, ya, yb, yc, yd, ylo, yhi⟩ : Nd)] 1 rfl rfl (lit_nd W0 (⟨2, ya, yb, yc, yd, ylo, yhi⟩ : Nd)) HLEN.out (by have := H1.out; have := HQ.out.size; rw [World.size_alloc]; omega) ?_; intro v7 w7 h7 hb7; refine Hid.out ?_)
          rw [HPT.out] at h7
          obtain ⟨G, C, rfl, -, -, -⟩ := owns_block h7 (ptL_pos N k)
          have HX7 := Lib.hid (owns_mono h7 (show w.heap.size ≤ B1 by have := H1.out; have := HB2.out.size; omega))
          have HQ7 := Lib.hid ((HQ.out.alloc HQ.out.size (.cells #[.int .i64 2, .int .u64 ya, .int .u64 yb, .int .u64 yc, .int .u64 yd, .int .i64 ylo, .int .i64 yhi] 45)).trans (hb7.mono (by have := H1.out; omega)))
          clear h7 hb7 HX0 EN
          obtain ⟨g8, k8, hrow, hparts⟩ := HP2.out.below (HQ7.out.alloc HQ7.out.size (.cells #[.slice (some ⟨G, 0, none⟩) (ptL N k).length C] 22))
          have HROW := Lib.hid hrow; have HPARTS := Lib.hid hparts
          clear hrow hparts
          refine Lib.hid ?_
          have H63 : Hid (k + 1 ≤ maxLen) := Lib.hid (by unfold maxLen; omega)
          have H48 : Hid ((k + 1) * 24 ≤ 140737488355328) := Lib.hid (by omega)
          have HB8 := Lib.hid ((HB2.out.trans (HQ7.out.mono HB2.out.size)).alloc (Nat.le_trans HB2.out.size HQ7.out.size) (.cells #[.slice (some ⟨G, 0, none⟩) (ptL N k).length C] 22))
          go_wp2_with (at_builtin; refine wpList_append_own _ rfl _ _ 53 rfl w.heap.size 22 i0 (.slice none 0 0) 1 24 Tryd.underlying53 hi hz0 hz1 hz2 rfl (by decide) _ _ _ rfl HROW.out ⟨w7.heap.size, 0, none⟩ 1 1 [.slice (some ⟨G, 0, none⟩) (ptL N k).length C] rfl rfl ?c2 ?c3 H63.out H48.out ?c5 ?_)
          case c2 =>
            intro j u hj
            match j, hj with
            | 0, hj => simp at hj; subst hj; simp [Addr.add]
          case c3 => intro u hu; simp at hu; subst hu; rfl
          case c5 => exact HB8.out.size
          intro v9 w9 hown9 hgrow _
          have HB9 : Hid (Below w.heap.size w w9) := Lib.hid (HB8.out.grown hgrow HB8.out.size fun r hr => (HROW.out.lt r hr).1)
          have HP9 : Hid (prts w9 w.heap.size N (k + 1) v9) := Lib.hid (prts.push HROW.out HPARTS.out (owns_below HX7.out ((Below.refl _ _).alloc (Nat.le_refl _) _)) hown9 hgrow)
          clear hown9 hgrow HROW HPARTS HB8 HX7 HQ7 HP2 HB2
          obtain rfl := HXV.out
          go_wp2_with fail
          go_roundw
          case rel => exact ⟨k + 1, by omega, by go_num, HP9, HB9.out⟩
          case measure => simp [intOf]; omega
        · have HPT : Hid ([] ++ [(⟨4, ya, yb, yc, yd, ylo, yhi⟩ : Nd)] = ptL N k) := Lib.hid (by rw [hpl]; rfl)
          have HLEN : Hid ((([] : List Nd)).length + [(⟨4, ya, yb, yc, yd, ylo, yhi⟩ : Nd)].length ≤ 100000) := Lib.hid (by simp)
          clear hpl
          have EN := Lib.hid (isNd.new w2 3 ya yb yc yd ylo yhi)
          have HQ : Hid (Below w2.heap.size w2 (w2.alloc (.cells #[.int .i64 3, .int .u64 ya, .int .u64 yb, .int .u64 yc, .int .u64 yd, .int .i64 ylo, .int .i64 yhi] 45))) := Lib.hid ((Below.refl _ _).alloc (Nat.le_refl _) _)
          have hsz : (w2.alloc (.cells #[.int .i64 3, .int .u64 ya, .int .u64 yb, .int .u64 yc, .int .u64 yd, .int .i64 ylo, .int .i64 yhi] 45)).heap.size = w2.heap.size + 1 := by simp
          go_upto_region 8 with (fail)
          generalize w2.alloc (.cells #[.int .i64 3, .int .u64 ya, .int .u64 yb, .int .u64 yc, .int .u64 yd, .int .i64 ylo, .int .i64 yhi] 45) = W0 at *
          obtain ⟨B1, hB1⟩ : ∃ B1, W0.heap.size = B1 := ⟨_, rfl⟩
          have H1 : Hid (B1 = w2.heap.size + 1) := Lib.hid (by omega)
          generalize hxv : Value.slice none 0 0 = xv
          have HX0 : Hid (W0.ownsRow B1 45 7 xv (([] : List Nd)).length (nds [])) := Lib.hid (hxv ▸ World.ownsRow_nil _ _ _ _)
          have HS0 : Hid (B1 ≤ W0.heap.size) := Lib.hid (by omega)
          clear hsz hB1
          have HXV := Lib.hid hxv
          clear hxv
          obtain ⟨c0, c1, c2, c3, c4, c5, c6⟩ := EN.out.cells
          have f0 := EN.out.free
          go_wp2_with fail
          refine wp_loop_rounds 1 ?_
          rw [rounds_succ]
          have HQ1 : Hid (Below w2.heap.size w2 (W0.setCell ⟨w2.heap.size, 0, none⟩ (.int .i64 4))) := Lib.hid (HQ.out.setCell (Nat.le_refl _) _)
          have HX1 : Hid ((W0.setCell ⟨w2.heap.size, 0, none⟩ (.int .i64 4)).ownsRow B1 45 7 xv (([] : List Nd)).length (nds [])) := Lib.hid (HXV.out ▸ World.ownsRow_nil _ _ _ _)
          have hsz2 : (W0.setCell ⟨w2.heap.size, 0, none⟩ (.int .i64 4)).heap.size = W0.heap.size := by simp
          have hlit := lit_nd (W0.setCell ⟨w2.heap.size, 0, none⟩ (.int .i64 4)) (⟨4, ya, yb, yc, yd, ylo, yhi⟩ : Nd)
          rw [hsz2] at hlit
          have HLIT := Lib.hid hlit
          clear hlit hsz2
          go_wp2_with (at_builtin; refine append_nds rfl _ _ rfl B1 _ ([]) rfl (HX1.out.alloc _) W0.heap.size 1 [(⟨4, ya, yb, yc, yd, ylo, yhi⟩ : Nd)] 1 rfl rfl HLIT.out HLEN.out (by have := H1.out; have := HQ1.out.size; rw [World.size_alloc]; omega) ?_; intro v7 w7 h7 hb7; refine Hid.out ?_)
          rw [HPT.out] at h7
          obtain ⟨G, C, rfl, -, -, -⟩ := owns_block h7 (ptL_pos N k)
          have HX7 := Lib.hid (owns_mono h7 (show w.heap.size ≤ B1 by have := H1.out; have := HB2.out.size; omega))
          have HQ7 := Lib.hid ((HQ1.out.alloc HQ1.out.size (.cells #[.int .i64 4, .int .u64 ya, .int .u64 yb, .int .u64 yc, .int .u64 yd, .int .i64 ylo, .int .i64 yhi] 45)).trans (hb7.mono (by have := H1.out; omega)))
          clear h7 hb7 HX1 EN
          obtain ⟨g8, k8, hrow, hparts⟩ := HP2.out.below (HQ7.out.alloc HQ7.out.size (.cells #[.slice (some ⟨G, 0, none⟩) (ptL N k).length C] 22))
          have HROW := Lib.hid hrow; have HPARTS := Lib.hid hparts
          clear hrow hparts
          refine Lib.hid ?_
          have H63 : Hid (k + 1 ≤ maxLen) := Lib.hid (by unfold maxLen; omega)
          have H48 : Hid ((k + 1) * 24 ≤ 140737488355328) := Lib.hid (by omega)
          have HB8 := Lib.hid ((HB2.out.trans (HQ7.out.mono HB2.out.size)).alloc (Nat.le_trans HB2.out.size HQ7.out.size) (.cells #[.slice (some ⟨G, 0, none⟩) (ptL N k).length C] 22))
          go_wp2_with (at_builtin; refine wpList_append_own _ rfl _ _ 53 rfl w.heap.size 22 i0 (.slice none 0 0) 1 24 Tryd.underlying53 hi hz0 hz1 hz2 rfl (by decide) _ _ _ rfl HROW.out ⟨w7.heap.size, 0, none⟩ 1 1 [.slice (some ⟨G, 0, none⟩) (ptL N k).length C] rfl rfl ?c2 ?c3 H63.out H48.out ?c5 ?_)
          case c2 =>
            intro j u hj
            match j, hj with
            | 0, hj => simp at hj; subst hj; simp [Addr.add]
          case c3 => intro u hu; simp at hu; subst hu; rfl
          case c5 => exact HB8.out.size
          intro v9 w9 hown9 hgrow _
          have HB9 : Hid (Below w.heap.size w w9) := Lib.hid (HB8.out.grown hgrow HB8.out.size fun r hr => (HROW.out.lt r hr).1)
          have HP9 : Hid (prts w9 w.heap.size N (k + 1) v9) := Lib.hid (prts.push HROW.out HPARTS.out (owns_below HX7.out ((Below.refl _ _).alloc (Nat.le_refl _) _)) hown9 hgrow)
          clear hown9 hgrow HROW HPARTS HB8 HX7 HQ7 HP2 HB2
          obtain rfl := HXV.out
          go_wp2_with fail
          go_roundw
          case rel => exact ⟨k + 1, by omega, by go_num, HP9, HB9.out⟩
          case measure => simp [intOf]; omega
        · have HPT : Hid ([] ++ [(⟨3, ya, yb, yc, yd, ylo, yhi⟩ : Nd)] = ptL N k) := Lib.hid (by rw [hpl]; rfl)
          have HLEN : Hid ((([] : List Nd)).length + [(⟨3, ya, yb, yc, yd, ylo, yhi⟩ : Nd)].length ≤ 100000) := Lib.hid (by simp)
          clear hpl
          have EN := Lib.hid (isNd.new w2 4 ya yb yc yd ylo yhi)
          have HQ : Hid (Below w2.heap.size w2 (w2.alloc (.cells #[.int .i64 4, .int .u64 ya, .int .u64 yb, .int .u64 yc, .int .u64 yd, .int .i64 ylo, .int .i64 yhi] 45))) := Lib.hid ((Below.refl _ _).alloc (Nat.le_refl _) _)
          have hsz : (w2.alloc (.cells #[.int .i64 4, .int .u64 ya, .int .u64 yb, .int .u64 yc, .int .u64 yd, .int .i64 ylo, .int .i64 yhi] 45)).heap.size = w2.heap.size + 1 := by simp
          go_upto_region 8 with (fail)
          generalize w2.alloc (.cells #[.int .i64 4, .int .u64 ya, .int .u64 yb, .int .u64 yc, .int .u64 yd, .int .i64 ylo, .int .i64 yhi] 45) = W0 at *
          obtain ⟨B1, hB1⟩ : ∃ B1, W0.heap.size = B1 := ⟨_, rfl⟩
          have H1 : Hid (B1 = w2.heap.size + 1) := Lib.hid (by omega)
          generalize hxv : Value.slice none 0 0 = xv
          have HX0 : Hid (W0.ownsRow B1 45 7 xv (([] : List Nd)).length (nds [])) := Lib.hid (hxv ▸ World.ownsRow_nil _ _ _ _)
          have HS0 : Hid (B1 ≤ W0.heap.size) := Lib.hid (by omega)
          clear hsz hB1
          have HXV := Lib.hid hxv
          clear hxv
          obtain ⟨c0, c1, c2, c3, c4, c5, c6⟩ := EN.out.cells
          have f0 := EN.out.free
          go_wp2_with fail
          refine wp_loop_rounds 1 ?_
          rw [rounds_succ]
          have HQ1 : Hid (Below w2.heap.size w2 (W0.setCell ⟨w2.heap.size, 0, none⟩ (.int .i64 3))) := Lib.hid (HQ.out.setCell (Nat.le_refl _) _)
          have HX1 : Hid ((W0.setCell ⟨w2.heap.size, 0, none⟩ (.int .i64 3)).ownsRow B1 45 7 xv (([] : List Nd)).length (nds [])) := Lib.hid (HXV.out ▸ World.ownsRow_nil _ _ _ _)
          have hsz2 : (W0.setCell ⟨w2.heap.size, 0, none⟩ (.int .i64 3)).heap.size = W0.heap.size := by simp
          have hlit := lit_nd (W0.setCell ⟨w2.heap.size, 0, none⟩ (.int .i64 3)) (⟨3, ya, yb, yc, yd, ylo, yhi⟩ : Nd)
          rw [hsz2] at hlit
          have HLIT := Lib.hid hlit
          clear hlit hsz2
          go_wp2_with (at_builtin; refine append_nds rfl _ _ rfl B1 _ ([]) rfl (HX1.out.alloc _) W0.heap.size 1 [(⟨3, ya, yb, yc, yd, ylo, yhi⟩ : Nd)] 1 rfl rfl HLIT.out HLEN.out (by have := H1.out; have := HQ1.out.size; rw [World.size_alloc]; omega) ?_; intro v7 w7 h7 hb7; refine Hid.out ?_)
          rw [HPT.out] at h7
          obtain ⟨G, C, rfl, -, -, -⟩ := owns_block h7 (ptL_pos N k)
          have HX7 := Lib.hid (owns_mono h7 (show w.heap.size ≤ B1 by have := H1.out; have := HB2.out.size; omega))
          have HQ7 := Lib.hid ((HQ1.out.alloc HQ1.out.size (.cells #[.int .i64 3, .int .u64 ya, .int .u64 yb, .int .u64 yc, .int .u64 yd, .int .i64 ylo, .int .i64 yhi] 45)).trans (hb7.mono (by have := H1.out; omega)))
          clear h7 hb7 HX1 EN
          obtain ⟨g8, k8, hrow, hparts⟩ := HP2.out.below (HQ7.out.alloc HQ7.out.size (.cells #[.slice (some ⟨G, 0, none⟩) (ptL N k).length C] 22))
          have HROW := Lib.hid hrow; have HPARTS := Lib.hid hparts
          clear hrow hparts
          refine Lib.hid ?_
          have H63 : Hid (k + 1 ≤ maxLen) := Lib.hid (by unfold maxLen; omega)
          have H48 : Hid ((k + 1) * 24 ≤ 140737488355328) := Lib.hid (by omega)
          have HB8 := Lib.hid ((HB2.out.trans (HQ7.out.mono HB2.out.size)).alloc (Nat.le_trans HB2.out.size HQ7.out.size) (.cells #[.slice (some ⟨G, 0, none⟩) (ptL N k).length C] 22))
          go_wp2_with (at_builtin; refine wpList_append_own _ rfl _ _ 53 rfl w.heap.size 22 i0 (.slice none 0 0) 1 24 Tryd.underlying53 hi hz0 hz1 hz2 rfl (by decide) _ _ _ rfl HROW.out ⟨w7.heap.size, 0, none⟩ 1 1 [.slice (some ⟨G, 0, none⟩) (ptL N k).length C] rfl rfl ?c2 ?c3 H63.out H48.out ?c5 ?_)
          case c2 =>
            intro j u hj
            match j, hj with
            | 0, hj => simp at hj; subst hj; simp [Addr.add]
          case c3 => intro u hu; simp at hu; subst hu; rfl
          case c5 => exact HB8.out.size
          intro v9 w9 hown9 hgrow _
          have HB9 : Hid (Below w.heap.size w w9) := Lib.hid (HB8.out.grown hgrow HB8.out.size fun r hr => (HROW.out.lt r hr).1)
          have HP9 : Hid (prts w9 w.heap.size N (k + 1) v9) := Lib.hid (prts.push HROW.out HPARTS.out (owns_below HX7.out ((Below.refl _ _).alloc (Nat.le_refl _) _)) hown9 hgrow)
          clear hown9 hgrow HROW HPARTS HB8 HX7 HQ7 HP2 HB2
          obtain rfl := HXV.out
          go_wp2_with fail
          go_roundw
          case rel => exact ⟨k + 1, by omega, by go_num, HP9, HB9.out⟩
          case measure => simp [intOf]; omega
      | @one p _ _ hk0 h1 h2 _ =>
        rw [show kids N (p + 1) = [(p : Int)] by unfold kids; rw [hk0]; simp [ar]] at hkv
        obtain ⟨gk, ck, rfl, hgk, q0⟩ : ∃ gk ck, kv = .slice (some ⟨gk, 0, none⟩) 1 ck ∧ gk < w2.heap.size ∧ w2.cell? ⟨gk, 0, none⟩ = some (.int .i64 p) := by
          rcases hkv with ⟨_, _, _, h⟩ | ⟨g, c, h, hg, hq⟩
          · cases h
          · exact ⟨g, c, h, hg, hq 0 (by simp)⟩
        have hpl := ptL_one hok hk0
        obtain ⟨rlo, rhi, hN⟩ : ∃ a b, N (p + 1) = ⟨7, 0, 0, 0, 0, a, b⟩ := ⟨_, _, nd_rep hok hk0⟩
        rw [hN] at p0 p1 p2 p3 p4 p5 p6 hpl
        simp only at p0 p1 p2 p3 p4 p5 p6
        have hpp := HPL.out p (by omega)
        have HPT : Hid ([] ++ ptL N p ++ [(⟨7, 0, 0, 0, 0, rlo, rhi⟩ : Nd)] = ptL N (p + 1)) := Lib.hid (by rw [hpl]; rfl)
        have HLEN : Hid (([] ++ ptL N p).length + [(⟨7, 0, 0, 0, 0, rlo, rhi⟩ : Nd)].length ≤ 100000) := Lib.hid (by simp; omega)
        have HL3 : Hid ((([] : List Nd)).length + (ptL N p).length ≤ 100000) := Lib.hid (by simp; omega)
        obtain ⟨pg, pc, rfl, hpg, hpt⟩ := HP2.out.block (by omega)
        obtain ⟨gp, cp, a1, b1, b2, -⟩ := hpt p (by omega)
        have Hgp : Hid (gp < w2.heap.size ∧ ∀ t u, (nds (ptL N p))[t]? = some u → w2.cell? ((⟨gp, 0, none⟩ : Addr).add t) = some u) := Lib.hid ⟨b1, b2⟩
        have p0' : (0 : Int) ≤ (p : Int) := by omega
        have p1' : (p : Int) < (p : Int) + 1 := by omega
        clear hkv hok hf hpl hN hpt b1 b2 hpp h1 h2 hk0
        have EN := Lib.hid (isNd.new w2 7 0 0 0 0 rlo rhi)
        have HQ : Hid (Below w2.heap.size w2 (w2.alloc (.cells #[.int .i64 7, .int .u64 0, .int .u64 0, .int .u64 0, .int .u64 0, .int .i64 rlo, .int .i64 rhi] 45))) := Lib.hid ((Below.refl _ _).alloc (Nat.le_refl _) _)
        have hsz : (w2.alloc (.cells #[.int .i64 7, .int .u64 0, .int .u64 0, .int .u64 0, .int .u64 0, .int .i64 rlo, .int .i64 rhi] 45)).heap.size = w2.heap.size + 1 := by simp
        go_upto_region 8 with (fail)
        generalize w2.alloc (.cells #[.int .i64 7, .int .u64 0, .int .u64 0, .int .u64 0, .int .u64 0, .int .i64 rlo, .int .i64 rhi] 45) = W0 at *
        obtain ⟨B1, hB1⟩ : ∃ B1, W0.heap.size = B1 := ⟨_, rfl⟩
        have H1 : Hid (B1 = w2.heap.size + 1) := Lib.hid (by omega)
        generalize hxv : Value.slice none 0 0 = xv
        have HX0 : Hid (W0.ownsRow B1 45 7 xv (([] : List Nd)).length (nds [])) := Lib.hid (hxv ▸ World.ownsRow_nil _ _ _ _)
        have HS0 : Hid (B1 ≤ W0.heap.size) := Lib.hid (by omega)
        clear hsz hB1
        have HXV := Lib.hid hxv
        clear hxv
        have q1 := (HQ.out.cell (p := ⟨gk, 0, none⟩) hgk).trans q0
        have a2 := (HQ.out.cell (p := ⟨pg, p, none⟩) hpg).trans a1
        clear q0 a1 hgk hpg p0 p1 p2 p3 p4 p5 p6 hbl
        obtain ⟨c0, c1, c2, c3, c4, c5, c6⟩ := EN.out.cells
        go_wp2_with fail
        clear c0 c1 c2 c3 c4 c5 c6
        refine wp_loop_rounds 2 ?_
        rw [rounds_succ]
        have HC3 : Hid (∀ t u, (nds (ptL N p))[t]? = some u → W0.cell? ((⟨gp, 0, none⟩ : Addr).add t) = some u) := Lib.hid fun t u hu => (HQ.out.cell (p := (⟨gp, 0, none⟩ : Addr).add t) (by simp only [Addr.add]; split <;> exact Hgp.out.1)).trans (Hgp.out.2 t u hu)
        go_wp2_with (at_builtin; refine append_nds rfl _ _ rfl B1 _ ([]) rfl HX0.out gp cp (ptL N p) _ rfl rfl HC3.out HL3.out HS0.out ?_; intro v3 w3 h3 hb3; refine Hid.out ?_)
        have HX3 := Lib.hid h3
        have HQ3 := Lib.hid (HQ.out.trans (hb3.mono (by have := H1.out; omega)))
        have EN := Lib.hid (EN.out.below hb3 (by have := H1.out; omega))
        have HS3 := Lib.hid (Nat.le_trans HS0.out hb3.size)
        clear h3 hb3 HX0 HC3
        refine Lib.hid ?_
        obtain ⟨c0, c1, c2, c3, c4, c5, c6⟩ := EN.out.cells
        go_wp2_with fail
        rw [rounds_succ]
        go_wp2_with (at_builtin; refine append_nds rfl _ _ rfl B1 _ ([] ++ ptL N p) rfl (HX3.out.alloc _) w3.heap.size 1 [(⟨7, 0, 0, 0, 0, rlo, rhi⟩ : Nd)] 1 rfl rfl (lit_nd w3 (⟨7, 0, 0, 0, 0, rlo, rhi⟩ : Nd)) HLEN.out (by have := H1.out; have := HQ3.out.size; rw [World.size_alloc]; omega) ?_; intro v7 w7 h7 hb7; refine Hid.out ?_)
        rw [HPT.out] at h7
        obtain ⟨G, C, rfl, -, -, -⟩ := owns_block h7 (ptL_pos N (p + 1))
        have HX7 := Lib.hid (owns_mono h7 (show w.heap.size ≤ B1 by have := H1.out; have := HB2.out.size; omega))
        have HQ7 := Lib.hid ((HQ3.out.alloc HQ3.out.size (.cells #[.int .i64 7, .int .u64 0, .int .u64 0, .int .u64 0, .int .u64 0, .int .i64 rlo, .int .i64 rhi] 45)).trans (hb7.mono (by have := H1.out; omega)))
        clear h7 hb7 HX3 EN
        obtain ⟨g8, k8, hrow, hparts⟩ := HP2.out.below (HQ7.out.alloc HQ7.out.size (.cells #[.slice (some ⟨G, 0, none⟩) (ptL N (p + 1)).length C] 22))
        have HROW := Lib.hid hrow; have HPARTS := Lib.hid hparts
        clear hrow hparts
        refine Lib.hid ?_
        have H63 : Hid ((p + 1) + 1 ≤ maxLen) := Lib.hid (by unfold maxLen; omega)
        have H48 : Hid (((p + 1) + 1) * 24 ≤ 140737488355328) := Lib.hid (by omega)
        have HB8 := Lib.hid ((HB2.out.trans (HQ7.out.mono HB2.out.size)).alloc (Nat.le_trans HB2.out.size HQ7.out.size) (.cells #[.slice (some ⟨G, 0, none⟩) (ptL N (p + 1)).length C] 22))
        go_wp2_with (at_builtin; refine wpList_append_own _ rfl _ _ 53 rfl w.heap.size 22 i0 (.slice none 0 0) 1 24 Tryd.underlying53 hi hz0 hz1 hz2 rfl (by decide) _ _ _ rfl HROW.out ⟨w7.heap.size, 0, none⟩ 1 1 [.slice (some ⟨G, 0, none⟩) (ptL N (p + 1)).length C] rfl rfl ?c2 ?c3 H63.out H48.out ?c5 ?_)
        case c2 =>
          intro j u hj
          match j, hj with
          | 0, hj => simp at hj; subst hj; simp [Addr.add]
        case c3 => intro u hu; simp at hu; subst hu; rfl
        case c5 => exact HB8.out.size
        intro v9 w9 hown9 hgrow _
        have HB9 : Hid (Below w.heap.size w w9) := Lib.hid (HB8.out.grown hgrow HB8.out.size fun r hr => (HROW.out.lt r hr).1)
        have HP9 : Hid (prts w9 w.heap.size N ((p + 1) + 1) v9) := Lib.hid (prts.push HROW.out HPARTS.out (owns_below HX7.out ((Below.refl _ _).alloc (Nat.le_refl _) _)) hown9 hgrow)
        clear hown9 hgrow HROW HPARTS HB8 HX7 HQ7 HP2 HB2
        obtain rfl := HXV.out
        go_wp2_with fail
        go_roundw
        case rel => exact ⟨(p + 1) + 1, by omega, by go_num, HP9, HB9.out⟩
        case measure => simp [intOf]; omega
      | @two p q _ _ hk0 h1 h2 h3 h4 _ =>
        have hkids : kids N (p + 1) = [(q : Int), (p : Int)] := by
          unfold kids
          rw [if_neg (by rcases hk0 with h | h <;> rw [h] <;> decide), if_pos (by rcases hk0 with h | h <;> rw [h] <;> rfl), Nat.add_sub_cancel, h1]
          congr 1
          · omega
          · congr 1; omega
        rw [hkids] at hkv
        obtain ⟨gk, ck, rfl, hgk, q0, q1⟩ : ∃ gk ck, kv = .slice (some ⟨gk, 0, none⟩) 2 ck ∧ gk < w2.heap.size ∧ w2.cell? ⟨gk, 0, none⟩ = some (.int .i64 q) ∧ w2.cell? ⟨gk, 1, none⟩ = some (.int .i64 p) := by
          rcases hkv with ⟨_, _, _, h⟩ | ⟨g, c, h, hg, hq⟩
          · cases h
          · exact ⟨g, c, h, hg, hq 0 (by simp), hq 1 (by simp)⟩
        have hpp := HPL.out p (by omega)
        have hqq := HPL.out q (by omega)
        obtain ⟨pg, pc, rfl, hpg, hpt⟩ := HP2.out.block (by omega)
        obtain ⟨gp, cp, a1, b1, b2, -⟩ := hpt p (by omega)
        have Hgp : Hid (gp < w2.heap.size ∧ ∀ t u, (nds (ptL N p))[t]? = some u → w2.cell? ((⟨gp, 0, none⟩ : Addr).add t) = some u) := Lib.hid ⟨b1, b2⟩
        obtain ⟨gq, cq, d1, e1, e2, -⟩ := hpt q (by omega)
        have Hgq : Hid (gq < w2.heap.size ∧ ∀ t u, (nds (ptL N q))[t]? = some u → w2.cell? ((⟨gq, 0, none⟩ : Addr).add t) = some u) := Lib.hid ⟨e1, e2⟩
        have p0' : (0 : Int) ≤ (p : Int) := by omega
        have p1' : (p : Int) < (p : Int) + 1 := by omega
        have q0' : (0 : Int) ≤ (q : Int) := by omega
        have q1' : (q : Int) < (p : Int) + 1 := by omega
        clear hkv hkids hf hpt b1 b2 e1 e2
        rcases hk0 with hk0 | hk0
        · have hpl := ptL_cat HTR.out hlt hk0 h1 h2
          have hN : N (p + 1) = ⟨5, 0, 0, 0, 0, 0, 0⟩ := nd_zero hok hk0 (by decide) (by decide)
          rw [hN] at p0 p1 p2 p3 p4 p5 p6
          simp only at p0 p1 p2 p3 p4 p5 p6
          have HPT : Hid ([] ++ ptL N p ++ ptL N q ++ [(⟨5, 0, 0, 0, 0, 0, 0⟩ : Nd)] = ptL N (p + 1)) := Lib.hid (by rw [hpl]; rfl)
          have HLEN : Hid (([] ++ ptL N p ++ ptL N q).length + [(⟨5, 0, 0, 0, 0, 0, 0⟩ : Nd)].length ≤ 100000) := Lib.hid (by simp; omega)
          have HL3 : Hid ((([] : List Nd)).length + (ptL N p).length ≤ 100000) := Lib.hid (by simp; omega)
          have HL4 : Hid (([] ++ ptL N p).length + (ptL N q).length ≤ 100000) := Lib.hid (by simp; omega)
          clear hok hpl hN hpp hqq h1 h2 h3 h4 hk0
          have EN := Lib.hid (isNd.new w2 5 0 0 0 0 0 0)
          have HQ : Hid (Below w2.heap.size w2 (w2.alloc (.cells #[.int .i64 5, .int .u64 0, .int .u64 0, .int .u64 0, .int .u64 0, .int .i64 0, .int .i64 0] 45))) := Lib.hid ((Below.refl _ _).alloc (Nat.le_refl _) _)
          have hsz : (w2.alloc (.cells #[.int .i64 5, .int .u64 0, .int .u64 0, .int .u64 0, .int .u64 0, .int .i64 0, .int .i64 0] 45)).heap.size = w2.heap.size + 1 := by simp
          have hK : Hid (∀ W, Below w2.heap.size w2 W → W.cell? ⟨gk, 0, none⟩ = some (.int .i64 q) ∧ W.cell? ⟨gk, 1, none⟩ = some (.int .i64 p) ∧ W.cell? ⟨pg, p, none⟩ = some (.slice (some ⟨gp, 0, none⟩) (ptL N p).length cp) ∧ W.cell? ⟨pg, q, none⟩ = some (.slice (some ⟨gq, 0, none⟩) (ptL N q).length cq)) := Lib.hid fun W h =>
            ⟨(h.cell (p := ⟨gk, 0, none⟩) hgk).trans q0, (h.cell (p := ⟨gk, 1, none⟩) hgk).trans q1, (h.cell (p := ⟨pg, p, none⟩) hpg).trans a1, (h.cell (p := ⟨pg, q, none⟩) hpg).trans d1⟩
          clear q0 q1 a1 d1 hgk hpg
          go_upto_region 8 with (fail)
          generalize w2.alloc (.cells #[.int .i64 5, .int .u64 0, .int .u64 0, .int .u64 0, .int .u64 0, .int .i64 0, .int .i64 0] 45) = W0 at *
          obtain ⟨B1, hB1⟩ : ∃ B1, W0.heap.size = B1 := ⟨_, rfl⟩
          have H1 : Hid (B1 = w2.heap.size + 1) := Lib.hid (by omega)
          generalize hxv : Value.slice none 0 0 = xv
          have HX0 : Hid (W0.ownsRow B1 45 7 xv (([] : List Nd)).length (nds [])) := Lib.hid (hxv ▸ World.ownsRow_nil _ _ _ _)
          have HS0 : Hid (B1 ≤ W0.heap.size) := Lib.hid (by omega)
          clear hsz hB1
          have HXV := Lib.hid hxv
          clear hxv
          obtain ⟨c0, c1, c2, c3, c4, c5, c6⟩ := EN.out.cells
          obtain ⟨m0, m1, m2, m3⟩ := hK.out _ HQ.out
          clear p0 p1 p2 p3 p4 p5 p6 hbl
          have HC3 : Hid (∀ t u, (nds (ptL N p))[t]? = some u → W0.cell? ((⟨gp, 0, none⟩ : Addr).add t) = some u) := Lib.hid fun t u hu => (HQ.out.cell (p := (⟨gp, 0, none⟩ : Addr).add t) (by simp only [Addr.add]; split <;> exact Hgp.out.1)).trans (Hgp.out.2 t u hu)
          go_wp2_with (at_builtin; refine append_nds rfl _ _ rfl B1 _ ([]) rfl HX0.out gp cp (ptL N p) _ rfl rfl HC3.out HL3.out HS0.out ?_; intro v3 w3 h3 hb3; refine Hid.out ?_)
          have HX3 := Lib.hid h3
          have HQ3 := Lib.hid (HQ.out.trans (hb3.mono (by have := H1.out; omega)))
          have EN := Lib.hid (EN.out.below hb3 (by have := H1.out; omega))
          have HS3 := Lib.hid (Nat.le_trans HS0.out hb3.size)
          clear h3 hb3 HX0 HC3
          refine Lib.hid ?_
          clear m0 m1 m2 m3
          obtain ⟨m0, m1, m2, m3⟩ := hK.out _ HQ3.out
          clear c0 c1 c2 c3 c4 c5 c6
          have HC4 : Hid (∀ t u, (nds (ptL N q))[t]? = some u → w3.cell? ((⟨gq, 0, none⟩ : Addr).add t) = some u) := Lib.hid fun t u hu => (HQ3.out.cell (p := (⟨gq, 0, none⟩ : Addr).add t) (by simp only [Addr.add]; split <;> exact Hgq.out.1)).trans (Hgq.out.2 t u hu)
          go_wp2_with (at_builtin; refine append_nds rfl _ _ rfl B1 _ ([] ++ ptL N p) rfl HX3.out gq cq (ptL N q) _ rfl rfl HC4.out HL4.out HS3.out ?_; intro v4 w4 h4 hb4; refine Hid.out ?_)
          have HX4 := Lib.hid h4
          have HQ4 := Lib.hid (HQ3.out.trans (hb4.mono (by have := H1.out; omega)))
          have EN := Lib.hid (EN.out.below hb4 (by have := H1.out; omega))
          have HS4 := Lib.hid (Nat.le_trans HS3.out hb4.size)
          clear h4 hb4 HX3 HC4
          refine Lib.hid ?_
          clear m0 m1 m2 m3 hK
          obtain ⟨c0, c1, c2, c3, c4, c5, c6⟩ := EN.out.cells
          go_wp2_with (at_builtin; refine append_nds rfl _ _ rfl B1 _ ([] ++ ptL N p ++ ptL N q) rfl (HX4.out.alloc _) w4.heap.size 1 [(⟨5, 0, 0, 0, 0, 0, 0⟩ : Nd)] 1 rfl rfl (lit_nd w4 (⟨5, 0, 0, 0, 0, 0, 0⟩ : Nd)) HLEN.out (by have := H1.out; have := HQ4.out.size; rw [World.size_alloc]; omega) ?_; intro v7 w7 h7 hb7; refine Hid.out ?_)
          rw [HPT.out] at h7
          obtain ⟨G, C, rfl, -, -, -⟩ := owns_block h7 (ptL_pos N (p + 1))
          have HX7 := Lib.hid (owns_mono h7 (show w.heap.size ≤ B1 by have := H1.out; have := HB2.out.size; omega))
          have HQ7 := Lib.hid ((HQ4.out.alloc HQ4.out.size (.cells #[.int .i64 5, .int .u64 0, .int .u64 0, .int .u64 0, .int .u64 0, .int .i64 0, .int .i64 0] 45)).trans (hb7.mono (by have := H1.out; omega)))
          clear h7 hb7 HX4 EN
          obtain ⟨g8, k8, hrow, hparts⟩ := HP2.out.below (HQ7.out.alloc HQ7.out.size (.cells #[.slice (some ⟨G, 0, none⟩) (ptL N (p + 1)).length C] 22))
          have HROW := Lib.hid hrow; have HPARTS := Lib.hid hparts
          clear hrow hparts
          refine Lib.hid ?_
          have H63 : Hid ((p + 1) + 1 ≤ maxLen) := Lib.hid (by unfold maxLen; omega)
          have H48 : Hid (((p + 1) + 1) * 24 ≤ 140737488355328) := Lib.hid (by omega)
          have HB8 := Lib.hid ((HB2.out.trans (HQ7.out.mono HB2.out.size)).alloc (Nat.le_trans HB2.out.size HQ7.out.size) (.cells #[.slice (some ⟨G, 0, none⟩) (ptL N (p + 1)).length C] 22))
          go_wp2_with (at_builtin; refine wpList_append_own _ rfl _ _ 53 rfl w.heap.size 22 i0 (.slice none 0 0) 1 24 Tryd.underlying53 hi hz0 hz1 hz2 rfl (by decide) _ _ _ rfl HROW.out ⟨w7.heap.size, 0, none⟩ 1 1 [.slice (some ⟨G, 0, none⟩) (ptL N (p + 1)).length C] rfl rfl ?c2 ?c3 H63.out H48.out ?c5 ?_)
          case c2 =>
            intro j u hj
            match j, hj with
            | 0, hj => simp at hj; subst hj; simp [Addr.add]
          case c3 => intro u hu; simp at hu; subst hu; rfl
          case c5 => exact HB8.out.size
          intro v9 w9 hown9 hgrow _
          have HB9 : Hid (Below w.heap.size w w9) := Lib.hid (HB8.out.grown hgrow HB8.out.size fun r hr => (HROW.out.lt r hr).1)
          have HP9 : Hid (prts w9 w.heap.size N ((p + 1) + 1) v9) := Lib.hid (prts.push HROW.out HPARTS.out (owns_below HX7.out ((Below.refl _ _).alloc (Nat.le_refl _) _)) hown9 hgrow)
          clear hown9 hgrow HROW HPARTS HB8 HX7 HQ7 HP2 HB2
          obtain rfl := HXV.out
          go_wp2_with fail
          go_roundw
          case rel => exact ⟨(p + 1) + 1, by omega, by go_num, HP9, HB9.out⟩
          case measure => simp [intOf]; omega
        · have hpl := ptL_or HTR.out hlt hk0 h1 h2
          have hN : N (p + 1) = ⟨6, 0, 0, 0, 0, 0, 0⟩ := nd_zero hok hk0 (by decide) (by decide)
          rw [hN] at p0 p1 p2 p3 p4 p5 p6
          simp only at p0 p1 p2 p3 p4 p5 p6
          have HPT : Hid ([] ++ ptL N q ++ ptL N p ++ [(⟨6, 0, 0, 0, 0, 0, 0⟩ : Nd)] = ptL N (p + 1)) := Lib.hid (by rw [hpl]; rfl)
          have HLEN : Hid (([] ++ ptL N q ++ ptL N p).length + [(⟨6, 0, 0, 0, 0, 0, 0⟩ : Nd)].length ≤ 100000) := Lib.hid (by simp; omega)
          have HL3 : Hid ((([] : List Nd)).length + (ptL N q).length ≤ 100000) := Lib.hid (by simp; omega)
          have HL4 : Hid (([] ++ ptL N q).length + (ptL N p).length ≤ 100000) := Lib.hid (by simp; omega)
          clear hok hpl hN hpp hqq h1 h2 h3 h4 hk0
          have EN := Lib.hid (isNd.new w2 6 0 0 0 0 0 0)
          have HQ : Hid (Below w2.heap.size w2 (w2.alloc (.cells #[.int .i64 6, .int .u64 0, .int .u64 0, .int .u64 0, .int .u64 0, .int .i64 0, .int .i64 0] 45))) := Lib.hid ((Below.refl _ _).alloc (Nat.le_refl _) _)
          have hsz : (w2.alloc (.cells #[.int .i64 6, .int .u64 0, .int .u64 0, .int .u64 0, .int .u64 0, .int .i64 0, .int .i64 0] 45)).heap.size = w2.heap.size + 1 := by simp
          have hK : Hid (∀ W, Below w2.heap.size w2 W → W.cell? ⟨gk, 0, none⟩ = some (.int .i64 q) ∧ W.cell? ⟨gk, 1, none⟩ = some (.int .i64 p) ∧ W.cell? ⟨pg, p, none⟩ = some (.slice (some ⟨gp, 0, none⟩) (ptL N p).length cp) ∧ W.cell? ⟨pg, q, none⟩ = some (.slice (some ⟨gq, 0, none⟩) (ptL N q).length cq)) := Lib.hid fun W h =>
            ⟨(h.cell (p := ⟨gk, 0, none⟩) hgk).trans q0, (h.cell (p := ⟨gk, 1, none⟩) hgk).trans q1, (h.cell (p := ⟨pg, p, none⟩) hpg).trans a1, (h.cell (p := ⟨pg, q, none⟩) hpg).trans d1⟩
          clear q0 q1 a1 d1 hgk hpg
          go_upto_region 8 with (fail)
          generalize w2.alloc (.cells #[.int .i64 6, .int .u64 0, .int .u64 0, .int .u64 0, .int .u64 0, .int .i64 0, .int .i64 0] 45) = W0 at *
          obtain ⟨B1, hB1⟩ : ∃ B1, W0.heap.size = B1 := ⟨_, rfl⟩
          have H1 : Hid (B1 = w2.heap.size + 1) := Lib.hid (by omega)
          generalize hxv : Value.slice none 0 0 = xv
          have HX0 : Hid (W0.ownsRow B1 45 7 xv (([] : List Nd)).length (nds [])) := Lib.hid (hxv ▸ World.ownsRow_nil _ _ _ _)
          have HS0 : Hid (B1 ≤ W0.heap.size) := Lib.hid (by omega)
          clear hsz hB1
          have HXV := Lib.hid hxv
          clear hxv
          clear p0 p1 p2 p3 p4 p5 p6 hbl
          obtain ⟨m0, m1, m2, m3⟩ := hK.out _ HQ.out
          obtain ⟨c0, c1, c2, c3, c4, c5, c6⟩ := EN.out.cells
          go_wp2_with fail
          clear c0 c1 c2 c3 c4 c5 c6
          refine wp_loop_rounds 3 ?_
          rw [rounds_succ]
          have HC3 : Hid (∀ t u, (nds (ptL N q))[t]? = some u → W0.cell? ((⟨gq, 0, none⟩ : Addr).add t) = some u) := Lib.hid fun t u hu => (HQ.out.cell (p := (⟨gq, 0, none⟩ : Addr).add t) (by simp only [Addr.add]; split <;> exact Hgq.out.1)).trans (Hgq.out.2 t u hu)
          go_wp2_with (at_builtin; refine append_nds rfl _ _ rfl B1 _ ([]) rfl HX0.out gq cq (ptL N q) _ rfl rfl HC3.out HL3.out HS0.out ?_; intro v3 w3 h3 hb3; refine Hid.out ?_)
          have HX3 := Lib.hid h3
          have HQ3 := Lib.hid (HQ.out.trans (hb3.mono (by have := H1.out; omega)))
          have EN := Lib.hid (EN.out.below hb3 (by have := H1.out; omega))
          have HS3 := Lib.hid (Nat.le_trans HS0.out hb3.size)
          clear h3 hb3 HX0 HC3
          refine Lib.hid ?_
          clear m0 m1 m2 m3
          obtain ⟨m0, m1, m2, m3⟩ := hK.out _ HQ3.out
          go_wp2_with fail
          rw [rounds_succ]
          have HC4 : Hid (∀ t u, (nds (ptL N p))[t]? = some u → w3.cell? ((⟨gp, 0, none⟩ : Addr).add t) = some u) := Lib.hid fun t u hu => (HQ3.out.cell (p := (⟨gp, 0, none⟩ : Addr).add t) (by simp only [Addr.add]; split <;> exact Hgp.out.1)).trans (Hgp.out.2 t u hu)
          go_wp2_with (at_builtin; refine append_nds rfl _ _ rfl B1 _ ([] ++ ptL N q) rfl HX3.out gp cp (ptL N p) _ rfl rfl HC4.out HL4.out HS3.out ?_; intro v4 w4 h4 hb4; refine Hid.out ?_)
          have HX4 := Lib.hid h4
          have HQ4 := Lib.hid (HQ3.out.trans (hb4.mono (by have := H1.out; omega)))
          have EN := Lib.hid (EN.out.below hb4 (by have := H1.out; omega))
          have HS4 := Lib.hid (Nat.le_trans HS3.out hb4.size)
          clear h4 hb4 HX3 HC4
          refine Lib.hid ?_
          clear m0 m1 m2 m3 hK
          obtain ⟨c0, c1, c2, c3, c4, c5, c6⟩ := EN.out.cells
          go_wp2_with fail
          rw [rounds_succ]
          go_wp2_with (at_builtin; refine append_nds rfl _ _ rfl B1 _ ([] ++ ptL N q ++ ptL N p) rfl (HX4.out.alloc _) w4.heap.size 1 [(⟨6, 0, 0, 0, 0, 0, 0⟩ : Nd)] 1 rfl rfl (lit_nd w4 (⟨6, 0, 0, 0, 0, 0, 0⟩ : Nd)) HLEN.out (by have := H1.out; have := HQ4.out.size; rw [World.size_alloc]; omega) ?_; intro v7 w7 h7 hb7; refine Hid.out ?_)
          rw [HPT.out] at h7
          obtain ⟨G, C, rfl, -, -, -⟩ := owns_block h7 (ptL_pos N (p + 1))
          have HX7 := Lib.hid (owns_mono h7 (show w.heap.size ≤ B1 by have := H1.out; have := HB2.out.size; omega))
          have HQ7 := Lib.hid ((HQ4.out.alloc HQ4.out.size (.cells #[.int .i64 6, .int .u64 0, .int .u64 0, .int .u64 0, .int .u64 0, .int .i64 0, .int .i64 0] 45)).trans (hb7.mono (by have := H1.out; omega)))
          clear h7 hb7 HX4 EN
          obtain ⟨g8, k8, hrow, hparts⟩ := HP2.out.below (HQ7.out.alloc HQ7.out.size (.cells #[.slice (some ⟨G, 0, none⟩) (ptL N (p + 1)).length C] 22))
          have HROW := Lib.hid hrow; have HPARTS := Lib.hid hparts
          clear hrow hparts
          refine Lib.hid ?_
          have H63 : Hid ((p + 1) + 1 ≤ maxLen) := Lib.hid (by unfold maxLen; omega)
          have H48 : Hid (((p + 1) + 1) * 24 ≤ 140737488355328) := Lib.hid (by omega)
          have HB8 := Lib.hid ((HB2.out.trans (HQ7.out.mono HB2.out.size)).alloc (Nat.le_trans HB2.out.size HQ7.out.size) (.cells #[.slice (some ⟨G, 0, none⟩) (ptL N (p + 1)).length C] 22))
          go_wp2_with (at_builtin; refine wpList_append_own _ rfl _ _ 53 rfl w.heap.size 22 i0 (.slice none 0 0) 1 24 Tryd.underlying53 hi hz0 hz1 hz2 rfl (by decide) _ _ _ rfl HROW.out ⟨w7.heap.size, 0, none⟩ 1 1 [.slice (some ⟨G, 0, none⟩) (ptL N (p + 1)).length C] rfl rfl ?c2 ?c3 H63.out H48.out ?c5 ?_)
          case c2 =>
            intro j u hj
            match j, hj with
            | 0, hj => simp at hj; subst hj; simp [Addr.add]
          case c3 => intro u hu; simp at hu; subst hu; rfl
          case c5 => exact HB8.out.size
          intro v9 w9 hown9 hgrow _
          have HB9 : Hid (Below w.heap.size w w9) := Lib.hid (HB8.out.grown hgrow HB8.out.size fun r hr => (HROW.out.lt r hr).1)
          have HP9 : Hid (prts w9 w.heap.size N ((p + 1) + 1) v9) := Lib.hid (prts.push HROW.out HPARTS.out (owns_below HX7.out ((Below.refl _ _).alloc (Nat.le_refl _) _)) hown9 hgrow)
          clear hown9 hgrow HROW HPARTS HB8 HX7 HQ7 HP2 HB2
          obtain rfl := HXV.out
          go_wp2_with fail
          go_roundw
          case rel => exact ⟨(p + 1) + 1, by omega, by go_num, HP9, HB9.out⟩
          case measure => simp [intOf]; omega
    · obtain ⟨m, rfl⟩ : ∃ m, n = m + 1 := ⟨n - 1, by omega⟩
      obtain rfl : k = m + 1 := by omega
      obtain ⟨pg, pc, rfl, hpg, hpt⟩ := HP.out.block hpos
      obtain ⟨gq, cq, a1, -, -, hown⟩ := hpt m (by omega)
      have HOW := Lib.hid hown
      have hwr : IntKind.i64.wrap (((m + 1 : Nat) : Int) - 1) = (m : Int) := by rw [IntKind.wrap_i64]; omega
      have m0 : (0 : Int) ≤ (m : Int) := by omega
      have m1 : (m : Int) < ((m + 1 : Nat) : Int) := by omega
      clear hpt hown HP
      go_wp2_with fail
      go_returns
      exact ⟨_, rfl, HOW.out, HB.out⟩
end Go.Proofs.YtjbmkbgoahppfaaDoor
