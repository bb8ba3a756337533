/-
  The walk of the ninth reference's Make at a node without arguments.
-/
import Derived.Test.YtdhplphgackjaaaPk10
namespace Go.Proofs.Ytdhplphgackjaaa
open Go.RowKit

set_option maxRecDepth 100000 in
set_option maxHeartbeats 4000000 in
theorem make_leaf (b off n cap j : Nat) (N : Nat → Nd) (hn : n ≤ 512) (hj : j < n) (hf : 0 ≤ fst N j) (hk : (N j).k = 1 ∨ (N j).k = 2 ∨ (N j).k = 3 ∨ (N j).k = 4) : MkC N n b off cap j := by
  intro p c L w hlen hs hr
  rw [trT_leaf hk] at hlen ⊢
  obtain ⟨y, hy⟩ : ∃ y, N j = y := ⟨_, rfl⟩
  have HRW := Lib.hid hr
  have HSW := Lib.hid hs
  have hkid := rkids_is b off n cap j N (by omega) hj hf
  rw [show kids N j = [] by unfold kids; rcases hk with h | h | h | h <;> (rw [h]; rfl)] at hkid
  have HL : Hid (L.length + 2 ≤ 1000) := Lib.hid hlen
  have i0 : (0 : Int) ≤ (j : Int) := by omega
  have i1 : (j : Int) < (n : Int) := by omega
  have H0 := Lib.hid (isPt.new w (.slice none 0 0) 0 0)
  have HA := Lib.hid ((Below.refl w.heap.size w).alloc (Nat.le_refl _) (.cells #[.slice none 0 0, .int .i64 0, .int .i64 0] 67))
  have HKd := Lib.hid (hkid (w.alloc (.cells #[.slice none 0 0, .int .i64 0, .int .i64 0] 67)) (HRW.out.below HA.out))
  rw [hy] at hk
  clear hlen hs hr hkid hf
  go_enter Try.func29, Try.ntmps29
  go_wp2_with fail
  refine HKd.out.mono ?_
  rintro e w1 ⟨kv, rfl, hkv, hb⟩
  obtain ⟨kp, kc, rfl⟩ : ∃ kp kc, kv = .slice kp 0 kc := by
    rcases hkv with ⟨p, c, rfl, -⟩ | ⟨g, c, rfl, -⟩
    · exact ⟨p, c, rfl⟩
    · exact ⟨_, c, rfl⟩
  have HB1 : Hid (Below w.heap.size w w1) := Lib.hid (below_two HA.out (hb.mono (by have := HA.out.size; omega)))
  have H1 := Lib.hid (H0.out.below hb H0.out.lt)
  have HB2 := Lib.hid (HB1.out.alloc HB1.out.size (.cells #[.int .i64 0, .int .i64 1, .int .i64 2, .int .i64 4, .int .i64 5] 3))
  obtain ⟨w2, hw2⟩ : ∃ w2, w1.alloc (.cells #[.int .i64 0, .int .i64 1, .int .i64 2, .int .i64 4, .int .i64 5] 3) = w2 := ⟨_, rfl⟩
  have hq : w2.cell? ⟨w1.heap.size, 0, none⟩ = some (.int .i64 0) ∧ w2.cell? ⟨w1.heap.size, 1, none⟩ = some (.int .i64 1) ∧ w2.cell? ⟨w1.heap.size, 2, none⟩ = some (.int .i64 2) ∧ w2.cell? ⟨w1.heap.size, 3, none⟩ = some (.int .i64 4) ∧ w2.cell? ⟨w1.heap.size, 4, none⟩ = some (.int .i64 5) := by rw [← hw2]; simp
  have hb2 : Below w1.heap.size w1 w2 := hw2 ▸ (Below.refl _ _).alloc (Nat.le_refl _) _
  have H2 := Lib.hid (H1.out.below hb2 H1.out.lt)
  rw [hw2] at HB2
  have HSRC := Lib.hid (HSW.out.below HB2.out)
  obtain ⟨hbl, r0, r1, r2, r3, r4, -, -⟩ := (HRW.out.below HB2.out) j hj
  obtain ⟨q0, q1, q2, q3, q4⟩ := hq
  have HW2 := Lib.hid hw2
  clear HA HKd hkv hb HB1 H0 H1 hb2 HRW HSW hw2
  go_wp2_with fail
  rw [HW2.out]
  have HHY := Lib.hid hy
  rw [hy] at r0 r1 r2 r3 r4
  clear hy
  obtain ⟨yk, ya, yb, yc, yd, ylo, yhi⟩ := y
  simp only at hk r0 r1 r2 r3 r4
  have hwr : IntKind.i64.wrap ((L.length : Int) + 1) = (L.length : Int) + 1 := by rw [IntKind.wrap_i64]; have := HL.out; omega
  have hq1 : w1.heap.size < w2.heap.size := by rw [← HW2.out, World.size_alloc]; omega
  have HK : Hid (∀ w', Below w2.drew.heap.size w2.drew w' → (w'.cell? ⟨b, off + j * 7, none⟩ = some (.int .i64 yk) ∧ w'.cell? ⟨b, off + j * 7 + 1, none⟩ = some (.int .u64 ya) ∧ w'.cell? ⟨b, off + j * 7 + 2, none⟩ = some (.int .u64 yb) ∧ w'.cell? ⟨b, off + j * 7 + 3, none⟩ = some (.int .u64 yc) ∧ w'.cell? ⟨b, off + j * 7 + 4, none⟩ = some (.int .u64 yd) ∧
      w'.cell? ⟨w1.heap.size, 1, none⟩ = some (.int .i64 1) ∧ w'.cell? ⟨w1.heap.size, 2, none⟩ = some (.int .i64 2) ∧ w'.cell? ⟨w1.heap.size, 3, none⟩ = some (.int .i64 4) ∧ w'.cell? ⟨w1.heap.size, 4, none⟩ = some (.int .i64 5))) := Lib.hid fun w' h => by
    have e : ∀ B o, B < w2.heap.size → w'.cell? ⟨B, o, none⟩ = w2.cell? ⟨B, o, none⟩ := fun B o hB => h.cell (p := ⟨B, o, none⟩) (by show B < w2.heap.size; omega)
    rw [e _ _ hbl, e _ _ hbl, e _ _ hbl, e _ _ hbl, e _ _ hbl, e _ _ hq1, e _ _ hq1, e _ _ hq1, e _ _ hq1]
    exact ⟨r0, r1, r2, r3, r4, q1, q2, q3, q4⟩
  have HPU : Hid (∀ kk, Calls Try.prog 47 #[.slice p L.length c, .agg #[.int .i64 kk, .int .i64 ((L.length : Int) + 1), .int .i64 0, .int .u64 ya, .int .u64 yb, .int .u64 yc, .int .u64 yd]] w2.drew (putPost L ⟨kk, ya, yb, yc, yd, (L.length : Int) + 1, 0⟩ w2.drew)) :=
    Lib.hid fun kk => rput9_is _ p c L (by have := HL.out; omega) rfl kk _ 0 ya yb yc yd w2.drew (HSRC.out.below (Below.refl _ _).drew)
  have HBS := build_stS
  have HBP := build_pt
  rcases hk with rfl | rfl | rfl | rfl
  · have HK6 : Hid (∀ w', Below w2.drew.heap.size w2.drew w' → (w'.cell? ⟨b, off + j * 7, none⟩ = some (.int .i64 1) ∧ w'.cell? ⟨b, off + j * 7 + 1, none⟩ = some (.int .u64 ya) ∧ w'.cell? ⟨b, off + j * 7 + 2, none⟩ = some (.int .u64 yb) ∧ w'.cell? ⟨b, off + j * 7 + 3, none⟩ = some (.int .u64 yc) ∧ w'.cell? ⟨b, off + j * 7 + 4, none⟩ = some (.int .u64 yd) ∧ w'.cell? ⟨w1.heap.size, 1, none⟩ = some (.int .i64 1))) := Lib.hid fun w' h => by
      obtain ⟨a0, a1, a2, a3, a4, a5, a6, a7, a8⟩ := HK.out w' h
      exact ⟨a0, a1, a2, a3, a4, a5⟩
    go_region_held_law (fun w' => w'.cell? ⟨b, off + j * 7, none⟩ = some (.int .i64 1) ∧ w'.cell? ⟨b, off + j * 7 + 1, none⟩ = some (.int .u64 ya) ∧ w'.cell? ⟨b, off + j * 7 + 2, none⟩ = some (.int .u64 yb) ∧ w'.cell? ⟨b, off + j * 7 + 3, none⟩ = some (.int .u64 yc) ∧ w'.cell? ⟨b, off + j * 7 + 4, none⟩ = some (.int .u64 yd) ∧ w'.cell? ⟨w1.heap.size, 1, none⟩ = some (.int .i64 1))
      (first | exact HK6.out _ (Below.refl _ _) | exact HK6.out _ HK1.out)
      (first | (go_at_call 47; (with_reducible refine (HPU.out _).mono ?_); rintro e w3 ⟨g3, c3, rfl, ho3, hb3⟩; have HK1 := Lib.hid hb3; have HO3 := Lib.hid ho3; clear hb3 ho3))
    have HB3 := Lib.hid (HB2.out.drew.trans (HK1.out.mono (show w.heap.size ≤ w2.drew.heap.size from HB2.out.size)))
    have H3 := Lib.hid (H2.out.below (show Below w2.heap.size w2 w3 from ⟨HK1.out.os, HK1.out.tape, HK1.out.output, HK1.out.size, HK1.out.block⟩) H2.out.lt)
    have hE : (L ++ [(⟨1, ya, yb, yc, yd, (L.length : Int) + 1, 0⟩ : Sd)]).length = L.length + 1 := by simp
    have hp2 := rput9_is _ (some ⟨g3, 0, none⟩) c3 (L ++ [⟨1, ya, yb, yc, yd, (L.length : Int) + 1, 0⟩]) (by have := HL.out; simp; omega) rfl 2 0 0 0 0 0 0 w3 HO3.out.rd
    rw [hE] at hp2
    have HP2 := Lib.hid hp2
    clear hE hp2
    clear HPU HK HK6 HW2 HB2 H2 HSRC HK1 hbl q0 q1 q2 q3 q4 hq1 HO3
    go_wp2_with (refine wpList_build_st0 rfl _ rfl 2 rfl ?_)
    refine HP2.out.mono ?_
    rintro e w4 ⟨g4, c4, rfl, ho4, hb4⟩
    have HE : Hid ((L ++ [(⟨1, ya, yb, yc, yd, (L.length : Int) + 1, 0⟩ : Sd)]).length = L.length + 1) := Lib.hid (by simp)
    have HM : Hid (mkF (.leaf ⟨1, ya, yb, yc, yd, ylo, yhi⟩) L = (L ++ [⟨1, ya, yb, yc, yd, (L.length : Int) + 1, 0⟩] ++ [⟨2, 0, 0, 0, 0, 0, 0⟩], L.length, L.length + 1)) := Lib.hid rfl
    rw [HE.out]
    generalize (L ++ [(⟨1, ya, yb, yc, yd, (L.length : Int) + 1, 0⟩ : Sd)] ++ [⟨2, 0, 0, 0, 0, 0, 0⟩]) = R at *
    have HB4 := Lib.hid (HB3.out.trans (hb4.mono HB3.out.size))
    have H4 := Lib.hid (H3.out.below hb4 H3.out.lt)
    have hne : w.heap.size ≠ g4 := by have := ho4.lt.1; have := H3.out.lt; omega
    have HO4 := Lib.hid (ho4.mono HB3.out.size)
    clear hb4 HP2 HB3 H3 ho4
    have hgl : g4 < w4.heap.size := HO4.out.lt.2
    obtain ⟨p0, p1, p2⟩ := H4.out.cells
    obtain ⟨f0, f1, f2⟩ := H4.out.free
    have HO5 := Lib.hid (HO4.out.pt3 hne (.slice (some ⟨g4, 0, none⟩) R.length c4) (L.length : Int) ((L.length : Int) + 1))
    have HB5 := Lib.hid (below_pt3 HB4.out (Nat.le_refl _) (.slice (some ⟨g4, 0, none⟩) R.length c4) (L.length : Int) ((L.length : Int) + 1))
    have Z := Lib.hid (H4.out.stored (.slice (some ⟨g4, 0, none⟩) R.length c4) (L.length : Int) ((L.length : Int) + 1)).cells
    have HHY2 : Hid (N j = ⟨1, ya, yb, yc, yd, ylo, yhi⟩) := HHY
    clear HHY HO4 HB4 H4 HE hne
    go_wp2_with fail
    refine bodyPost_ret (v := .agg #[.slice (some ⟨g4, 0, none⟩) R.length c4, .int .i64 (L.length : Int), .int .i64 ((L.length : Int) + 1)]) (by simp [results, Try.results29, go_sem, Z.out]) rfl ?_
    rw [HHY2.out, HM.out]
    exact ⟨g4, c4, rfl, HO5.out, HB5.out⟩
  · have HK6 : Hid (∀ w', Below w2.drew.heap.size w2.drew w' → (w'.cell? ⟨b, off + j * 7, none⟩ = some (.int .i64 2) ∧ w'.cell? ⟨b, off + j * 7 + 1, none⟩ = some (.int .u64 ya) ∧ w'.cell? ⟨b, off + j * 7 + 2, none⟩ = some (.int .u64 yb) ∧ w'.cell? ⟨b, off + j * 7 + 3, none⟩ = some (.int .u64 yc) ∧ w'.cell? ⟨b, off + j * 7 + 4, none⟩ = some (.int .u64 yd) ∧ w'.cell? ⟨w1.heap.size, 2, none⟩ = some (.int .i64 2))) := Lib.hid fun w' h => by
      obtain ⟨a0, a1, a2, a3, a4, a5, a6, a7, a8⟩ := HK.out w' h
      exact ⟨a0, a1, a2, a3, a4, a6⟩
    go_region_held_law (fun w' => w'.cell? ⟨b, off + j * 7, none⟩ = some (.int .i64 2) ∧ w'.cell? ⟨b, off + j * 7 + 1, none⟩ = some (.int .u64 ya) ∧ w'.cell? ⟨b, off + j * 7 + 2, none⟩ = some (.int .u64 yb) ∧ w'.cell? ⟨b, off + j * 7 + 3, none⟩ = some (.int .u64 yc) ∧ w'.cell? ⟨b, off + j * 7 + 4, none⟩ = some (.int .u64 yd) ∧ w'.cell? ⟨w1.heap.size, 2, none⟩ = some (.int .i64 2))
      (first | exact HK6.out _ (Below.refl _ _) | exact HK6.out _ HK1.out)
      (first | (go_at_call 47; (with_reducible refine (HPU.out _).mono ?_); rintro e w3 ⟨g3, c3, rfl, ho3, hb3⟩; have HK1 := Lib.hid hb3; have HO3 := Lib.hid ho3; clear hb3 ho3))
    have HB3 := Lib.hid (HB2.out.drew.trans (HK1.out.mono (show w.heap.size ≤ w2.drew.heap.size from HB2.out.size)))
    have H3 := Lib.hid (H2.out.below (show Below w2.heap.size w2 w3 from ⟨HK1.out.os, HK1.out.tape, HK1.out.output, HK1.out.size, HK1.out.block⟩) H2.out.lt)
    have hE : (L ++ [(⟨2, ya, yb, yc, yd, (L.length : Int) + 1, 0⟩ : Sd)]).length = L.length + 1 := by simp
    have hp2 := rput9_is _ (some ⟨g3, 0, none⟩) c3 (L ++ [⟨2, ya, yb, yc, yd, (L.length : Int) + 1, 0⟩]) (by have := HL.out; simp; omega) rfl 2 0 0 0 0 0 0 w3 HO3.out.rd
    rw [hE] at hp2
    have HP2 := Lib.hid hp2
    clear hE hp2
    clear HPU HK HK6 HW2 HB2 H2 HSRC HK1 hbl q0 q1 q2 q3 q4 hq1 HO3
    go_wp2_with (refine wpList_build_st0 rfl _ rfl 2 rfl ?_)
    refine HP2.out.mono ?_
    rintro e w4 ⟨g4, c4, rfl, ho4, hb4⟩
    have HE : Hid ((L ++ [(⟨2, ya, yb, yc, yd, (L.length : Int) + 1, 0⟩ : Sd)]).length = L.length + 1) := Lib.hid (by simp)
    have HM : Hid (mkF (.leaf ⟨2, ya, yb, yc, yd, ylo, yhi⟩) L = (L ++ [⟨2, ya, yb, yc, yd, (L.length : Int) + 1, 0⟩] ++ [⟨2, 0, 0, 0, 0, 0, 0⟩], L.length, L.length + 1)) := Lib.hid rfl
    rw [HE.out]
    generalize (L ++ [(⟨2, ya, yb, yc, yd, (L.length : Int) + 1, 0⟩ : Sd)] ++ [⟨2, 0, 0, 0, 0, 0, 0⟩]) = R at *
    have HB4 := Lib.hid (HB3.out.trans (hb4.mono HB3.out.size))
    have H4 := Lib.hid (H3.out.below hb4 H3.out.lt)
    have hne : w.heap.size ≠ g4 := by have := ho4.lt.1; have := H3.out.lt; omega
    have HO4 := Lib.hid (ho4.mono HB3.out.size)
    clear hb4 HP2 HB3 H3 ho4
    have hgl : g4 < w4.heap.size := HO4.out.lt.2
    obtain ⟨p0, p1, p2⟩ := H4.out.cells
    obtain ⟨f0, f1, f2⟩ := H4.out.free
    have HO5 := Lib.hid (HO4.out.pt3 hne (.slice (some ⟨g4, 0, none⟩) R.length c4) (L.length : Int) ((L.length : Int) + 1))
    have HB5 := Lib.hid (below_pt3 HB4.out (Nat.le_refl _) (.slice (some ⟨g4, 0, none⟩) R.length c4) (L.length : Int) ((L.length : Int) + 1))
    have Z := Lib.hid (H4.out.stored (.slice (some ⟨g4, 0, none⟩) R.length c4) (L.length : Int) ((L.length : Int) + 1)).cells
    have HHY2 : Hid (N j = ⟨2, ya, yb, yc, yd, ylo, yhi⟩) := HHY
    clear HHY HO4 HB4 H4 HE hne
    go_wp2_with fail
    refine bodyPost_ret (v := .agg #[.slice (some ⟨g4, 0, none⟩) R.length c4, .int .i64 (L.length : Int), .int .i64 ((L.length : Int) + 1)]) (by simp [results, Try.results29, go_sem, Z.out]) rfl ?_
    rw [HHY2.out, HM.out]
    exact ⟨g4, c4, rfl, HO5.out, HB5.out⟩
  · have HK6 : Hid (∀ w', Below w2.drew.heap.size w2.drew w' → (w'.cell? ⟨b, off + j * 7, none⟩ = some (.int .i64 3) ∧ w'.cell? ⟨b, off + j * 7 + 1, none⟩ = some (.int .u64 ya) ∧ w'.cell? ⟨b, off + j * 7 + 2, none⟩ = some (.int .u64 yb) ∧ w'.cell? ⟨b, off + j * 7 + 3, none⟩ = some (.int .u64 yc) ∧ w'.cell? ⟨b, off + j * 7 + 4, none⟩ = some (.int .u64 yd) ∧ w'.cell? ⟨w1.heap.size, 3, none⟩ = some (.int .i64 4))) := Lib.hid fun w' h => by
      obtain ⟨a0, a1, a2, a3, a4, a5, a6, a7, a8⟩ := HK.out w' h
      exact ⟨a0, a1, a2, a3, a4, a7⟩
    go_region_held_law (fun w' => w'.cell? ⟨b, off + j * 7, none⟩ = some (.int .i64 3) ∧ w'.cell? ⟨b, off + j * 7 + 1, none⟩ = some (.int .u64 ya) ∧ w'.cell? ⟨b, off + j * 7 + 2, none⟩ = some (.int .u64 yb) ∧ w'.cell? ⟨b, off + j * 7 + 3, none⟩ = some (.int .u64 yc) ∧ w'.cell? ⟨b, off + j * 7 + 4, none⟩ = some (.int .u64 yd) ∧ w'.cell? ⟨w1.heap.size, 3, none⟩ = some (.int .i64 4))
      (first | exact HK6.out _ (Below.refl _ _) | exact HK6.out _ HK1.out)
      (first | (go_at_call 47; (with_reducible refine (HPU.out _).mono ?_); rintro e w3 ⟨g3, c3, rfl, ho3, hb3⟩; have HK1 := Lib.hid hb3; have HO3 := Lib.hid ho3; clear hb3 ho3))
    have HB3 := Lib.hid (HB2.out.drew.trans (HK1.out.mono (show w.heap.size ≤ w2.drew.heap.size from HB2.out.size)))
    have H3 := Lib.hid (H2.out.below (show Below w2.heap.size w2 w3 from ⟨HK1.out.os, HK1.out.tape, HK1.out.output, HK1.out.size, HK1.out.block⟩) H2.out.lt)
    have hE : (L ++ [(⟨4, ya, yb, yc, yd, (L.length : Int) + 1, 0⟩ : Sd)]).length = L.length + 1 := by simp
    have hp2 := rput9_is _ (some ⟨g3, 0, none⟩) c3 (L ++ [⟨4, ya, yb, yc, yd, (L.length : Int) + 1, 0⟩]) (by have := HL.out; simp; omega) rfl 2 0 0 0 0 0 0 w3 HO3.out.rd
    rw [hE] at hp2
    have HP2 := Lib.hid hp2
    clear hE hp2
    clear HPU HK HK6 HW2 HB2 H2 HSRC HK1 hbl q0 q1 q2 q3 q4 hq1 HO3
    go_wp2_with (refine wpList_build_st0 rfl _ rfl 2 rfl ?_)
    refine HP2.out.mono ?_
    rintro e w4 ⟨g4, c4, rfl, ho4, hb4⟩
    have HE : Hid ((L ++ [(⟨4, ya, yb, yc, yd, (L.length : Int) + 1, 0⟩ : Sd)]).length = L.length + 1) := Lib.hid (by simp)
    have HM : Hid (mkF (.leaf ⟨3, ya, yb, yc, yd, ylo, yhi⟩) L = (L ++ [⟨4, ya, yb, yc, yd, (L.length : Int) + 1, 0⟩] ++ [⟨2, 0, 0, 0, 0, 0, 0⟩], L.length, L.length + 1)) := Lib.hid rfl
    rw [HE.out]
    generalize (L ++ [(⟨4, ya, yb, yc, yd, (L.length : Int) + 1, 0⟩ : Sd)] ++ [⟨2, 0, 0, 0, 0, 0, 0⟩]) = R at *
    have HB4 := Lib.hid (HB3.out.trans (hb4.mono HB3.out.size))
    have H4 := Lib.hid (H3.out.below hb4 H3.out.lt)
    have hne : w.heap.size ≠ g4 := by have := ho4.lt.1; have := H3.out.lt; omega
    have HO4 := Lib.hid (ho4.mono HB3.out.size)
    clear hb4 HP2 HB3 H3 ho4
    have hgl : g4 < w4.heap.size := HO4.out.lt.2
    obtain ⟨p0, p1, p2⟩ := H4.out.cells
    obtain ⟨f0, f1, f2⟩ := H4.out.free
    have HO5 := Lib.hid (HO4.out.pt3 hne (.slice (some ⟨g4, 0, none⟩) R.length c4) (L.length : Int) ((L.length : Int) + 1))
    have HB5 := Lib.hid (below_pt3 HB4.out (Nat.le_refl _) (.slice (some ⟨g4, 0, none⟩) R.length c4) (L.length : Int) ((L.length : Int) + 1))
    have Z := Lib.hid (H4.out.stored (.slice (some ⟨g4, 0, none⟩) R.length c4) (L.length : Int) ((L.length : Int) + 1)).cells
    have HHY2 : Hid (N j = ⟨3, ya, yb, yc, yd, ylo, yhi⟩) := HHY
    clear HHY HO4 HB4 H4 HE hne
    go_wp2_with fail
    refine bodyPost_ret (v := .agg #[.slice (some ⟨g4, 0, none⟩) R.length c4, .int .i64 (L.length : Int), .int .i64 ((L.length : Int) + 1)]) (by simp [results, Try.results29, go_sem, Z.out]) rfl ?_
    rw [HHY2.out, HM.out]
    exact ⟨g4, c4, rfl, HO5.out, HB5.out⟩
  · have HK6 : Hid (∀ w', Below w2.drew.heap.size w2.drew w' → (w'.cell? ⟨b, off + j * 7, none⟩ = some (.int .i64 4) ∧ w'.cell? ⟨b, off + j * 7 + 1, none⟩ = some (.int .u64 ya) ∧ w'.cell? ⟨b, off + j * 7 + 2, none⟩ = some (.int .u64 yb) ∧ w'.cell? ⟨b, off + j * 7 + 3, none⟩ = some (.int .u64 yc) ∧ w'.cell? ⟨b, off + j * 7 + 4, none⟩ = some (.int .u64 yd) ∧ w'.cell? ⟨w1.heap.size, 4, none⟩ = some (.int .i64 5))) := Lib.hid fun w' h => by
      obtain ⟨a0, a1, a2, a3, a4, a5, a6, a7, a8⟩ := HK.out w' h
      exact ⟨a0, a1, a2, a3, a4, a8⟩
    go_region_held_law (fun w' => w'.cell? ⟨b, off + j * 7, none⟩ = some (.int .i64 4) ∧ w'.cell? ⟨b, off + j * 7 + 1, none⟩ = some (.int .u64 ya) ∧ w'.cell? ⟨b, off + j * 7 + 2, none⟩ = some (.int .u64 yb) ∧ w'.cell? ⟨b, off + j * 7 + 3, none⟩ = some (.int .u64 yc) ∧ w'.cell? ⟨b, off + j * 7 + 4, none⟩ = some (.int .u64 yd) ∧ w'.cell? ⟨w1.heap.size, 4, none⟩ = some (.int .i64 5))
      (first | exact HK6.out _ (Below.refl _ _) | exact HK6.out _ HK1.out)
      (first | (go_at_call 47; (with_reducible refine (HPU.out _).mono ?_); rintro e w3 ⟨g3, c3, rfl, ho3, hb3⟩; have HK1 := Lib.hid hb3; have HO3 := Lib.hid ho3; clear hb3 ho3))
    have HB3 := Lib.hid (HB2.out.drew.trans (HK1.out.mono (show w.heap.size ≤ w2.drew.heap.size from HB2.out.size)))
    have H3 := Lib.hid (H2.out.below (show Below w2.heap.size w2 w3 from ⟨HK1.out.os, HK1.out.tape, HK1.out.output, HK1.out.size, HK1.out.block⟩) H2.out.lt)
    have hE : (L ++ [(⟨5, ya, yb, yc, yd, (L.length : Int) + 1, 0⟩ : Sd)]).length = L.length + 1 := by simp
    have hp2 := rput9_is _ (some ⟨g3, 0, none⟩) c3 (L ++ [⟨5, ya, yb, yc, yd, (L.length : Int) + 1, 0⟩]) (by have := HL.out; simp; omega) rfl 2 0 0 0 0 0 0 w3 HO3.out.rd
    rw [hE] at hp2
    have HP2 := Lib.hid hp2
    clear hE hp2
    clear HPU HK HK6 HW2 HB2 H2 HSRC HK1 hbl q0 q1 q2 q3 q4 hq1 HO3
    go_wp2_with (refine wpList_build_st0 rfl _ rfl 2 rfl ?_)
    refine HP2.out.mono ?_
    rintro e w4 ⟨g4, c4, rfl, ho4, hb4⟩
    have HE : Hid ((L ++ [(⟨5, ya, yb, yc, yd, (L.length : Int) + 1, 0⟩ : Sd)]).length = L.length + 1) := Lib.hid (by simp)
    have HM : Hid (mkF (.leaf ⟨4, ya, yb, yc, yd, ylo, yhi⟩) L = (L ++ [⟨5, ya, yb, yc, yd, (L.length : Int) + 1, 0⟩] ++ [⟨2, 0, 0, 0, 0, 0, 0⟩], L.length, L.length + 1)) := Lib.hid rfl
    rw [HE.out]
    generalize (L ++ [(⟨5, ya, yb, yc, yd, (L.length : Int) + 1, 0⟩ : Sd)] ++ [⟨2, 0, 0, 0, 0, 0, 0⟩]) = R at *
    have HB4 := Lib.hid (HB3.out.trans (hb4.mono HB3.out.size))
    have H4 := Lib.hid (H3.out.below hb4 H3.out.lt)
    have hne : w.heap.size ≠ g4 := by have := ho4.lt.1; have := H3.out.lt; omega
    have HO4 := Lib.hid (ho4.mono HB3.out.size)
    clear hb4 HP2 HB3 H3 ho4
    have hgl : g4 < w4.heap.size := HO4.out.lt.2
    obtain ⟨p0, p1, p2⟩ := H4.out.cells
    obtain ⟨f0, f1, f2⟩ := H4.out.free
    have HO5 := Lib.hid (HO4.out.pt3 hne (.slice (some ⟨g4, 0, none⟩) R.length c4) (L.length : Int) ((L.length : Int) + 1))
    have HB5 := Lib.hid (below_pt3 HB4.out (Nat.le_refl _) (.slice (some ⟨g4, 0, none⟩) R.length c4) (L.length : Int) ((L.length : Int) + 1))
    have Z := Lib.hid (H4.out.stored (.slice (some ⟨g4, 0, none⟩) R.length c4) (L.length : Int) ((L.length : Int) + 1)).cells
    have HHY2 : Hid (N j = ⟨4, ya, yb, yc, yd, ylo, yhi⟩) := HHY
    clear HHY HO4 HB4 H4 HE hne
    go_wp2_with fail
    refine bodyPost_ret (v := .agg #[.slice (some ⟨g4, 0, none⟩) R.length c4, .int .i64 (L.length : Int), .int .i64 ((L.length : Int) + 1)]) (by simp [results, Try.results29, go_sem, Z.out]) rfl ?_
    rw [HHY2.out, HM.out]
    exact ⟨g4, c4, rfl, HO5.out, HB5.out⟩
end Go.Proofs.Ytdhplphgackjaaa
