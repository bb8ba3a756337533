/-
  The walk of the thirteenth reference's Of.
-/
import Derived.Test.YtefpoapbodbenaaPk33
import Derived.Test.YtefpoapbodbenaaPk19
import Derived.Deep.RegionLaw
namespace Go.Proofs.Ytefpoapbodbenaa
open Go.RowKit

/-- From a state, if it is reached, two symbols lead to one block. -/
def ofS (x : Da) (y z s : Nat) : Prop := wsh (edD x) x.n2 x.st.toNat s = true → clA (lnB x) (goD x s y) = clA (lnB x) (goD x s z)
def ofX (x : Da) (y z n : Nat) (b : Bool) (s : Nat) : Prop := (b = true → ∀ t, t < s → ofS x y z t) ∧ (b = false → ∃ t, t < n ∧ ¬ ofS x y z t)
theorem ofX_end {x : Da} (hx : rgD x) {y z : Nat} (hy : y < 259) (hz : z < 259) {b : Bool} (h : ofX x y z x.n2 b x.n2) : syB (lnW x x.st.toNat) y z = b := by
  rw [Bool.eq_iff_iff, syB_reach hx hy hz]
  constructor
  · intro g
    cases b with
    | true => rfl
    | false =>
      obtain ⟨t, h1, h2⟩ := h.2 rfl
      exact absurd (g t h1) h2
  · intro e
    exact h.1 e

theorem fsR_int {R : Nat → Nat → Bool} (hR : eqR R) {c : Nat} (h : c < cntT (isH R) 259) : fsA (fun y => (clA R y : Nat)) 259 (c : Nat) = (fsR R c : Nat) := by
  obtain ⟨h1, h2⟩ := fsR_of hR h
  unfold fsR
  by_cases e : 0 ≤ fsA (fun y => (clA R y : Nat)) 259 (c : Nat)
  · omega
  · exfalso
    have e0 : fsR R c = 0 := by unfold fsR; omega
    rw [e0] at h2
    have := fsA_at (l := fun y => ((clA R y : Nat) : Int)) (n := 259) (i := 0) (c := (c : Int)) (by decide) (by show ((clA R 0 : Nat) : Int) = c; rw [h2]) (fun j hj => absurd hj (Nat.not_lt_zero _))
    omega
/-- What is made, at the end. -/
theorem ofE13 {x : Da} {n a Wd : Nat} {L : Lng} {st nx : List Nat} (hn : x.n2 = n) (hL : lnW x x.st.toNat = L) (hW : wdL L = Wd) (hst : stI x st (atG (goL L) Wd L a).1) (hnx : nx = (atG (goL L) Wd L a).2) (ha : st.length = a) (han : a ≤ n) :
    saP ⟨259, fun y => ((clA (syB L) y : Nat) : Int), (Wd : Int), 0, nx.length, fun j => ((nx.getD j 0 : Nat) : Int), a, fun j => x.T (st.getD j 0)⟩ (mnD x) := by
  subst hW
  have e : leL L n = atG (goL L) (wdL L) L a := atG_end han (by rw [← hst.1, List.length_map]; omega)
  unfold mnD leD
  rw [hL, hn]
  refine ⟨⟨rfl, fun _ _ => rfl⟩, ⟨by show nx.length = (leL L n).2.length; rw [e, hnx], fun j _ => by show ((nx.getD j 0 : Nat) : Int) = _; rw [e, hnx]⟩, rfl, rfl, by show a = (leL L n).1.length; rw [e, ← hst.1, List.length_map]; exact ha.symm, fun j hj => ?_⟩
  have hj : j < a := hj
  show x.T (st.getD j 0) = leT L n j
  unfold leT
  rw [e, ← hst.1]
  have e2 : (st.map (lnW x)).getD j (fun _ => False) = lnW x (st.getD j 0) := by
    rw [List.getD_eq_getElem?_getD, List.getElem?_map, List.getD_eq_getElem?_getD, List.getElem?_eq_getElem (by omega)]
    rfl
  rw [e2]
  have e3 : lnW x (st.getD j 0) [] ↔ x.T (st.getD j 0) = true := ⟨fun h => h.2, fun h => ⟨okw_nil, h⟩⟩
  rw [Bool.eq_iff_iff, ← e3]
  simp

set_option maxRecDepth 100000 in
set_option maxHeartbeats 20000000 in
theorem rof13 (v : Value) (x : Da) (hx : rgD x) (h1 : x.n1 ≤ 100000) (h2 : x.n2 ≤ 1000) (w : World) (hd : daAt w v x) :
    Calls Try.prog 23 #[v] w fun e w' => ∃ v' x', e = .returned v' ∧ daAt w' v' x' ∧ saP x' (mnD x) ∧ Below w.heap.size w w' := by
  obtain ⟨N, hN⟩ : ∃ N, x.n2 = N + 1 := ⟨x.n2 - 1, by have := hx.2.2.2.1; omega⟩
  obtain ⟨D, hD⟩ : ∃ D, w.heap.size = D := ⟨_, rfl⟩
  have hd9 := hd
  obtain ⟨q0, c0, q1, c1, q2, c2, rfl, -, -, -⟩ := hd
  obtain ⟨w1, hw1⟩ : ∃ w1, w.alloc (.cells #[.slice q0 x.n0 c0, .int .i64 x.wd, .int .i64 x.st, .slice q1 x.n1 c1, .slice q2 x.n2 c2] 25) = w1 := ⟨_, rfl⟩
  have hz1 : w1.heap.size = D + 1 := by rw [← hw1, World.size_alloc, hD]
  have hb1 : Below D w w1 := hw1 ▸ (Below.refl _ _).alloc (by omega) _
  have hk1 : isDf w1 D q0 x.n0 c0 x.wd x.st q1 x.n1 c1 q2 x.n2 c2 := hw1 ▸ hD ▸ heap_alloc_new w _
  obtain ⟨w2, hw2⟩ : ∃ w2, w1.alloc (.cells #[.slice none 0 0, .int .i64 0, .int .i64 0, .slice none 0 0, .slice none 0 0] 25) = w2 := ⟨_, rfl⟩
  have hz2 : w2.heap.size = D + 2 := by rw [← hw2, World.size_alloc, hz1]
  have hb2 : Below (D + 1) w1 w2 := hw2 ▸ (Below.refl _ _).alloc (by omega) _
  have hb02 : Below D w w2 := hb1.trans (hb2.mono (by omega))
  have HRS : Hid (∀ w', Below (D + 2) w2 w' → isDf w' (D + 1) none 0 0 0 0 none 0 0 none 0 0) := Lib.hid fun w' h => (h.block (D + 1) (by omega)).trans (by rw [← hw2, ← hz1]; exact heap_alloc_new w1 _)
  have HK := Lib.hid (fun w' (h : Below (D + 2) w2 w') => ((hk1.below hb2 (Nat.lt_succ_self D)).below h (by omega)).cells)
  have HDa := Lib.hid (fun w' (h : Below (D + 2) w2 w') => hd9.below (hD ▸ hb02.trans (h.mono (by omega))))
  have HBk := Lib.hid (blocks13 _ x hx h1 h2 w2 (HDa.out _ (Below.refl _ _)))
  have HCm := Lib.hid (fun w' (h : Below (D + 2) w2 w') => comes12 _ x hx h1 h2 N hN w' (HDa.out w' h))
  obtain ⟨W, hW⟩ : ∃ W : Nat, x.wd = W := ⟨x.wd.toNat, by have := hx.2.1; omega⟩
  have HX := Lib.hid hx
  have HGo := Lib.hid (fun (s y : Nat) (hs : s < x.n2) (hy : y < 259) (w' : World) (hb : Below (D + 2) w2 w') => by
    obtain ⟨p0, k0, p1, k1, p2, k2, e, r0, r1, -⟩ := HDa.out w' hb
    simp only [Value.agg.injEq, Array.mk.injEq, List.cons.injEq, Value.slice.injEq, and_true, true_and] at e
    obtain ⟨⟨rfl, rfl⟩, ⟨rfl, rfl⟩, rfl, rfl⟩ := e
    rw [hx.1] at r0
    exact goC13 hx h1 hW q0 c0 q1 c1 q2 x.n2 c2 s y hs hy w' r0 r1)
  have HTb := Lib.hid (fun (w' : World) (hb : Below (D + 2) w2 w') => by
    obtain ⟨p0, k0, p1, k1, p2, k2, e, -, -, r2⟩ := HDa.out w' hb
    simp only [Value.agg.injEq, Array.mk.injEq, List.cons.injEq, Value.slice.injEq, and_true, true_and] at e
    obtain ⟨-, -, rfl, -⟩ := e
    exact r2)
  have HW1 := Lib.hid hw1; have HW2 := Lib.hid hw2; have HG := Lib.hid hD; have HZ2 := Lib.hid hz2; have HB02 := Lib.hid hb02
  have hn0 : x.n0 = 259 := hx.1
  obtain ⟨S0, hS0⟩ : ∃ S0 : Nat, x.st = S0 := ⟨x.st.toNat, by have := hx.2.2.2.2.2.2.1; omega⟩
  have hSl : S0 < x.n2 := by have := hx.2.2.2.2.2.2.2.1; omega
  obtain ⟨n, hn⟩ : ∃ n, x.n2 = n := ⟨_, rfl⟩
  have HNx := Lib.hid hn
  have HNn : Hid (N + 1 = n) := Lib.hid (by omega)
  have HS0 := Lib.hid hS0
  rw [hn0, hS0, hW, hn] at HK HBk HCm HW1
  rw [hS0, hn] at HGo
  rw [hn] at HTb
  rw [hn] at h2 hSl
  rw [hn0, hS0, hW, hn]
  have n0 : (0 : Int) ≤ (n : Int) := by omega
  have n1 : (n : Int) ≤ 1000 := by omega
  clear hw1 hw2 hk1 hb1 hb2 hb02 hz1 hx hN hd9 HDa hn hS0 hW hn0
  go_enter Try.func23, Try.ntmps23
  go_upto_region 1 with (fail)
  rw [HW1.out, HW2.out]
  obtain ⟨y0, y1, y2, y3, y4⟩ := HK.out _ (Below.refl _ _)
  go_wp2_with fail
  refine HBk.out.mono ?_
  rintro e w3 ⟨bq, bc, rfl, hbl, hb3⟩
  have HB3 : Hid (Below (D + 2) w2 w3) := Lib.hid (HZ2.out ▸ hb3)
  have HBl3 := Lib.hid hbl
  have hcm := HCm.out w3 HB3.out

  have HCM := Lib.hid hcm
  clear hbl hb3 hcm HCm HBk y0 y1 y2 y3 y4
  obtain ⟨y0, y1, y2, y3, y4⟩ := HK.out _ HB3.out

  go_wp2_with fail
  refine HCM.out.mono ?_
  rintro e w4 ⟨v4, rfl, ⟨r, hgr⟩, hb4⟩
  obtain ⟨go, cap, rfl, -, hgl, hco⟩ := hgr.outer
  have HB4 : Hid (Below (D + 2) w2 w4) := Lib.hid (HB3.out.trans (hb4.mono (by have := HB3.out.size; have := HZ2.out; omega)))
  have hb4l := HBl3.out

  have HBl : Hid (∀ w', Below w4.heap.size w4 w' → rdL w' bq n (fun i => (clA (lnB x) i : Nat))) := Lib.hid fun w' h => (hb4l.below hb4).below h
  have HC : Hid (∀ w', Below w4.heap.size w4 w' → w'.cell? ⟨go, S0, none⟩ = some (.slice (some ⟨r S0, 0, none⟩) n n) ∧ ∀ j, j < n → w'.cell? ⟨r S0, j, none⟩ = some (.bool (wsh (edD x) n S0 j))) := Lib.hid fun w' hb => by
    have e := HNn.out
    subst e
    refine ⟨(hb.cell (p := ⟨go, S0, none⟩) hgl).trans (hco S0 hSl), fun j hj => ?_⟩
    exact ((hgr.below hb).at (i := S0) (j := j) hSl (by omega)).1
  obtain ⟨B, hB⟩ : ∃ B, w4.heap.size = B := ⟨_, rfl⟩
  rw [hB] at HC HBl
  have HZ4 := Lib.hid hB
  have hDB : D + 2 ≤ B := by have := HB4.out.size; have := HZ2.out; omega
  obtain ⟨L, hL⟩ : ∃ L, lnW x x.st.toNat = L := ⟨_, rfl⟩
  have HO0 := Lib.hid (spF_zero w4 B (fun i => (hdA (syB L) i : Nat)))
  have HBs : Hid (Below B w4 w4) := Lib.hid (Below.refl _ _)
  have HSY : Hid (∀ y z b, y < 259 → z < 259 → ofX x y z n b n → syB L y z = b) := Lib.hid fun y z b hy hz h => by
    rw [← hL]
    exact ofX_end HX.out hy hz (by rw [HNx.out]; exact h)
  have HLL := Lib.hid hL
  rw [HNn.out]
  clear hgr hgl hco hb4 hb4l hB hL HBl3 HCM y0 y1 y2 y3 y4
  go_wp2_with fail
  go_loopw [6, 7] (fun tv iv wr => ∃ i : Nat, i ≤ 259 ∧ iv = .int .i64 i ∧ Hid (spF wr B tv (fun i => (hdA (syB L) i : Nat)) i) ∧ Hid (Below B w4 wr)) (fun _ iv _ => 259 - (intOf iv).toNat)
  case atStart => exact ⟨0, Nat.zero_le _, rfl, HO0, HBs⟩
  case round =>
    clear HO0 HBs
    obtain ⟨i, hi, rfl, HO, HB⟩ := hrel
    by_cases hlti : i < 259
    · have i0 : (0 : Int) ≤ (i : Int) := by omega
      have i1 : (i : Int) < 259 := by omega
      have HLS0 := Lib.hid (lsA_start (fun k i => isH (syB L) k && syB L k i) i)
      go_wp2_with fail
      go_loopw [8, 9] (fun av kv wx => ∃ (z : Int) (m : Nat), kv = .int .i64 z ∧ -1 ≤ z ∧ z < i ∧ av = .int .i64 (m : Int) ∧ Hid (lsA (fun k i => isH (syB L) k && syB L k i) i z m) ∧ Hid (Below B w4 wx) ∧ Hid (spF wx B u6 (fun i => (hdA (syB L) i : Nat)) i)) (fun _ kv _ => (intOf kv + 1).toNat)
      case atStart => exact ⟨_, i, rfl, by omega, by omega, rfl, HLS0, HB, HO⟩
      case round =>
        clear HLS0 HO HB
        obtain ⟨z, m, rfl, hx1, hx2, rfl, HLS, HBx, HOx⟩ := hrel
        by_cases hx0 : 0 ≤ z
        · obtain ⟨k, rfl⟩ : ∃ k : Nat, z = k := ⟨z.toNat, by omega⟩
          have hki : k < i := by omega
          have k1 : (k : Int) < (i : Int) := by omega
          obtain ⟨fp, fc, rfl⟩ := spF_of HOx.out
          obtain ⟨fb, fo, rfl, -, hfc⟩ := HOx.out.rd k hki
          obtain ⟨hk', hkk⟩ : ∃ h, hdA (syB L) k = h := ⟨_, rfl⟩
          simp only [hkk] at hfc
          have HKK := Lib.hid hkk
          clear hkk
          cases e1 : ((hk' : Int) != (k : Int)) with
          | true =>
            have HS := Lib.hid (lsA_out HLS.out (by
              have : isH (syB L) k = false := by
                unfold isH
                rw [HKK.out, beq_eq_false_iff_ne]
                intro e
                subst e
                simp at e1
              show (isH (syB L) k && _) = false
              rw [this]; rfl))
            go_wp2_with fail
            go_roundw
            case rel => exact ⟨_, _, by go_num, by omega, by omega, rfl, HS, HBx, HOx⟩
            case measure => first | (simp [intOf]; done) | (simp [intOf]; omega)
          | false =>
            have hkk2 : hk' = k := by
              have := e1
              rw [bne_eq_false_iff_eq] at this
              omega
            have HHk : Hid (isH (syB L) k = true) := Lib.hid (by unfold isH; rw [HKK.out, beq_iff_eq]; exact hkk2)
            have HF0 : Hid (ofX x k i n true 0) := Lib.hid ⟨fun _ t h => absurd h (Nat.not_lt_zero t), fun h => by cases h⟩
            have HB0 : Hid (Below wr.heap.size wr wr) := Lib.hid (Below.refl _ _)
            have hBr : B ≤ wr.heap.size := by have := HBx.out.size; have := HZ4.out; omega
            clear hkk2
            go_wp2_with fail
            go_loopw [10, 11] (fun bv sv wx => ∃ (b : Bool) (s : Nat), s ≤ n ∧ bv = .bool b ∧ sv = .int .i64 s ∧ Hid (ofX x k i n b s) ∧ Hid (Below wr.heap.size wr wx)) (fun _ sv _ => n - (intOf sv).toNat)
            case atStart => exact ⟨true, 0, Nat.zero_le _, rfl, rfl, HF0, HB0⟩
            case round =>
              clear HF0 HB0
              obtain ⟨b, s, hs, rfl, rfl, HF, HBy⟩ := hrel
              have HB9 : Hid (Below B w4 wr) := Lib.hid (HBx.out.trans (HBy.out.mono hBr))
              have HO9 := Lib.hid (HOx.out.below HBy.out)
              cases b with
              | false =>
                have HS := Lib.hid (lsA_out HLS.out (by
                  show (isH (syB L) k && syB L k i) = false
                  rw [HSY.out k i false (by omega) hlti ⟨fun h => (by cases h), HF.out.2⟩, Bool.and_false]))
                clear HF HBy
                by_cases hlts : s < n
                · have ds : decide ((s : Int) < (n : Int)) = true := decide_eq_true (by omega)
                  go_wp2_with fail
                  go_roundw
                  case rel => exact ⟨_, _, by go_num, by omega, by omega, rfl, HS, HB9, HO9⟩
                  case measure => first | (simp [intOf]; done) | (simp [intOf]; omega)
                · have ds : decide ((s : Int) < (n : Int)) = false := decide_eq_false (by omega)
                  go_wp2_with fail
                  go_roundw
                  case rel => exact ⟨_, _, by go_num, by omega, by omega, rfl, HS, HB9, HO9⟩
                  case measure => first | (simp [intOf]; done) | (simp [intOf]; omega)
              | true =>
                by_cases hlts : s < n
                · have ds : decide ((s : Int) < (n : Int)) = true := decide_eq_true (by omega)
                  have s0 : (0 : Int) ≤ (s : Int) := by omega
                  have s1 : (s : Int) < (n : Int) := by omega
                  have t0 : (0 : Int) ≤ (S0 : Int) := by omega
                  have t1 : (S0 : Int) < (n : Int) := by omega
                  obtain ⟨u, hu⟩ : ∃ u, wsh (edD x) n S0 s = u := ⟨_, rfl⟩
                  have HU : Hid (wsh (edD x) x.n2 x.st.toNat s = u) := Lib.hid (by rw [HNx.out, HS0.out, Int.toNat_natCast]; exact hu)
                  cases u with
                  | false =>
                    obtain ⟨a1, a2⟩ := HC.out _ HB9.out
                    have a3 := a2 s hlts
                    rw [hu] at a3
                    obtain ⟨y0, y1, y2, y3, y4⟩ := HK.out _ (HB4.out.trans (HB9.out.mono hDB))
                    have HF2 : Hid (ofX x k i n true (s + 1)) := Lib.hid ⟨fun _ t ht => by
                      by_cases e : t = s
                      · subst e
                        intro h
                        rw [HU.out] at h; cases h
                      · exact HF.out.1 rfl t (by omega), fun h => by cases h⟩
                    clear HF hu a2 HB9 HO9
                    go_wp2_with fail
                    go_quiet (fail)
                    have HBd := Lib.hid (below_drewN nq HBy.out)
                    go_wp2_with fail
                    go_roundw
                    case rel => exact ⟨true, s + 1, by omega, rfl, by go_num, HF2, HBd⟩
                    case measure => simp [intOf]; omega
                  | true =>
                    obtain ⟨gA, gB⟩ : goD x s k < n ∧ goD x s i < n := ⟨by rw [← HNx.out]; exact (goD_at HX.out (by rw [HNx.out]; exact hlts) (by omega)).2.2, by rw [← HNx.out]; exact (goD_at HX.out (by rw [HNx.out]; exact hlts) hlti).2.2⟩
                    have HCa := Lib.hid (fun w' (p : Below wr.heap.size wr w') => HGo.out s k hlts (by omega) w' (HB4.out.trans ((HB9.out.trans (p.mono (by have := HB9.out.size; have := HZ4.out; omega))).mono hDB)))
                    have HCb := Lib.hid (fun w' (p : Below wr.heap.size wr w') => HGo.out s i hlts hlti w' (HB4.out.trans ((HB9.out.trans (p.mono (by have := HB9.out.size; have := HZ4.out; omega))).mono hDB)))
                    have HF2 : Hid (ofX x k i n (((clA (lnB x) (goD x s k) : Nat) : Int) == ((clA (lnB x) (goD x s i) : Nat) : Int)) (s + 1)) := Lib.hid ⟨fun h t ht => by
                      by_cases e : t = s
                      · subst e
                        intro _
                        have := beq_iff_eq.1 h
                        omega
                      · exact HF.out.1 rfl t (by omega), fun h => ⟨s, hlts, fun g => by
                        have := g HU.out
                        rw [this] at h
                        simp at h⟩⟩
                    obtain ⟨ga, hga⟩ : ∃ ga, goD x s k = ga := ⟨_, rfl⟩
                    obtain ⟨gb, hgb⟩ : ∃ gb, goD x s i = gb := ⟨_, rfl⟩
                    rw [hga] at gA HCa HF2
                    rw [hgb] at gB HCb HF2
                    obtain ⟨bb, bo, rfl, -, -⟩ := HBl.out _ HB9.out ga gA
                    obtain ⟨ka, hka⟩ : ∃ ka, clA (lnB x) ga = ka := ⟨_, rfl⟩
                    obtain ⟨kb, hkb⟩ : ∃ kb, clA (lnB x) gb = kb := ⟨_, rfl⟩
                    rw [hka, hkb] at HF2
                    have HSc : Hid (∀ w', Below wr.heap.size wr w' → w'.cell? ⟨D, 0, none⟩ = some (.slice q0 259 c0) ∧ w'.cell? ⟨D, 1, none⟩ = some (.int .i64 (W : Int)) ∧ w'.cell? ⟨D, 2, none⟩ = some (.int .i64 (S0 : Int)) ∧ w'.cell? ⟨D, 3, none⟩ = some (.slice q1 x.n1 c1) ∧ w'.cell? ⟨D, 4, none⟩ = some (.slice q2 n c2) ∧ w'.cell? ⟨go, S0, none⟩ = some (.slice (some ⟨r S0, 0, none⟩) n n) ∧ w'.cell? ⟨r S0, s, none⟩ = some (.bool true) ∧ w'.cell? ⟨bb, bo + ga, none⟩ = some (.int .i64 (ka : Int)) ∧ w'.cell? ⟨bb, bo + gb, none⟩ = some (.int .i64 (kb : Int))) := Lib.hid fun w' p => by
                      have hB := HB9.out.trans (p.mono (by have := HB9.out.size; have := HZ4.out; omega))
                      obtain ⟨y0, y1, y2, y3, y4⟩ := HK.out _ (HB4.out.trans (hB.mono hDB))
                      obtain ⟨a1, a2⟩ := HC.out _ hB
                      have a3 := a2 s hlts
                      rw [hu] at a3
                      obtain ⟨b1, o1, e1, -, l1⟩ := HBl.out _ hB ga gA
                      obtain ⟨b2, o2, e2, -, l2⟩ := HBl.out _ hB gb gB
                      cases e1
                      cases e2
                      simp only [hka] at l1
                      simp only [hkb] at l2
                      exact ⟨y0, y1, y2, y3, y4, a1, a3, l1, l2⟩
                    have z0 : (0 : Int) ≤ (ga : Int) := by omega
                    have z1 : (ga : Int) < (n : Int) := by omega
                    have z2 : (0 : Int) ≤ (gb : Int) := by omega
                    have z3 : (gb : Int) < (n : Int) := by omega
                    have hB : Below wr.heap.size wr wr.drew := (Below.refl _ _).drew
                    clear hga hgb hka hkb hu HF HB9 HO9 HU gA gB
                    go_wp2_with fail
                    go_region_held_law (fun w' => w'.cell? ⟨D, 0, none⟩ = some (.slice q0 259 c0) ∧ w'.cell? ⟨D, 1, none⟩ = some (.int .i64 (W : Int)) ∧ w'.cell? ⟨D, 2, none⟩ = some (.int .i64 (S0 : Int)) ∧ w'.cell? ⟨D, 3, none⟩ = some (.slice q1 x.n1 c1) ∧ w'.cell? ⟨D, 4, none⟩ = some (.slice q2 n c2) ∧ w'.cell? ⟨go, S0, none⟩ = some (.slice (some ⟨r S0, 0, none⟩) n n) ∧ w'.cell? ⟨r S0, s, none⟩ = some (.bool true) ∧ w'.cell? ⟨bb, bo + ga, none⟩ = some (.int .i64 (ka : Int)) ∧ w'.cell? ⟨bb, bo + gb, none⟩ = some (.int .i64 (kb : Int)))
                      (exact HSc.out _ hB)
                      (first | (go_at_call 24; (with_reducible refine (HCa.out _ hB).mono ?_); rintro e wc ⟨rfl, hbc⟩; (replace hB := hB.trans (hbc.mono hB.size)); clear hbc) | (go_at_call 24; (with_reducible refine (HCb.out _ hB).mono ?_); rintro e wc ⟨rfl, hbc⟩; (replace hB := hB.trans (hbc.mono hB.size)); clear hbc))
                    all_goals
                      have HBn := Lib.hid (HBy.out.trans (hB.mono HBy.out.size))
                      clear hB
                      go_wp2_with fail
                      go_roundw
                      case rel => exact ⟨_, s + 1, by omega, rfl, by go_num, HF2, HBn⟩
                      case measure => simp [intOf]; omega
                · obtain hsn : s = n := by omega
                  have ds : decide ((s : Int) < (n : Int)) = false := decide_eq_false (by omega)
                  have HS := Lib.hid (lsA_in HLS.out hki (by
                    show (isH (syB L) k && syB L k i) = true
                    rw [HSY.out k i true (by omega) hlti ⟨by rw [← hsn]; exact HF.out.1, fun h => by cases h⟩, HHk.out]
                    rfl))
                  clear HF HBy hsn
                  go_wp2_with fail
                  go_roundw
                  case rel => exact ⟨_, _, by go_num, by omega, by omega, rfl, HS, HB9, HO9⟩
                  case measure => first | (simp [intOf]; done) | (simp [intOf]; omega)
        · obtain rfl : z = -1 := by omega
          have HE : Hid (hdA (syB L) i = m) := Lib.hid ((hdA_heads (syB_eq L) i).symm.trans (lsA_end HLS.out))
          have hmi := HLS.out.1
          have m0 : (0 : Int) ≤ (m : Int) := by omega
          have HCL : Hid (((hdA (syB L) i : Nat) : Int) = (m : Int)) := Lib.hid (by rw [HE.out])
          have HS : B ≤ wr.heap.size := by have := HBx.out.size; have := HZ4.out; omega
          have HLC : Hid ((wr.alloc (.cells #[.int .i64 (m : Int)] 3)).cell? ⟨wr.heap.size, 0, none⟩ = some (.int .i64 (m : Int))) := Lib.hid (by simp)
          have HLZ : Hid (B ≤ (wr.alloc (.cells #[.int .i64 (m : Int)] 3)).heap.size) := Lib.hid (by rw [World.size_alloc]; omega)
          have HO6 := Lib.hid (HOx.out.alloc (.cells #[.int .i64 (m : Int)] 3))
          have HW6 := Lib.hid (HBx.out.alloc HS (.cells #[.int .i64 (m : Int)] 3))
          clear HOx HBx HS HLS HE
          go_wp2_with (at_builtin; refine append_fn rfl _ _ rfl B _ (fun i => (hdA (syB L) i : Nat)) i rfl HO6.out wr.heap.size (m : Int) HCL.out rfl HLC.out (by omega) HLZ.out ?_; intro v9 w9 h9 hg9; have HO9 := Lib.hid h9; have HW9 := Lib.hid (HW6.out.trans (spF.grow (Nat.le_refl _) HLZ.out HO6.out hg9)); clear h9 hg9)
          go_roundw
          case rel => exact ⟨i + 1, by omega, by go_num, HO9, HW9⟩
          case measure => simp [intOf]; omega
    · obtain rfl : i = 259 := by omega
      obtain ⟨tp, tc, rfl⟩ := spF_of HO.out
      obtain ⟨O, hO⟩ : ∃ O, wr.heap.size = O := ⟨_, rfl⟩
      have hBO : B ≤ O := by have := HB.out.size; have := HZ4.out; omega
      have hb5 : Below O wr (wr.alloc (.cells #[.slice none 0 0, .int .i64 0, .int .i64 0, .slice none 0 0, .slice none 0 0] 25)) := (Below.refl _ _).alloc (by omega) _
      have hz5 : (wr.alloc (.cells #[.slice none 0 0, .int .i64 0, .int .i64 0, .slice none 0 0, .slice none 0 0] 25)).heap.size = O + 1 := by rw [World.size_alloc, hO]
      have hk5 : isDf (wr.alloc (.cells #[.slice none 0 0, .int .i64 0, .int .i64 0, .slice none 0 0, .slice none 0 0] 25)) O none 0 0 0 0 none 0 0 none 0 0 := hO ▸ heap_alloc_new wr _
      have HNu := Lib.hid (num10 (syB L) (syB_eq L) tp 259 tc (by decide) _ (HO.out.rd.below (hO.symm ▸ hb5)))
      have HK5 := Lib.hid hk5; have HZ5 := Lib.hid hz5; have HB5 := Lib.hid (HB.out.trans (hb5.mono hBO)); have HOO := Lib.hid hO
      clear hk5 hz5 hb5 HO HB
      go_wp2_with fail
      clear hO
      refine HNu.out.mono ?_
      rintro e w6 ⟨q6, c6, rfl, hq6, hb6⟩
      rw [HZ5.out] at hb6
      have HB6 : Hid (Below B w4 w6) := Lib.hid (HB5.out.trans (hb6.mono (by omega)))
      have HK6 := HK5.out.below hb6 (Nat.lt_succ_self O)
      obtain ⟨y0, y1, y2, y3, y4⟩ := HK6.cells
      have f0 := HK6.free 0
      have f1 := HK6.free 1
      have HQ6 := Lib.hid hq6
      have HK6' := Lib.hid HK6
      have hne := HK6.no_row hq6 (by decide)
      obtain ⟨Wd, hWd⟩ : ∃ Wd, cntT (isH (syB L)) 259 = Wd := ⟨_, rfl⟩
      have hWl : Wd ≤ 259 := hWd ▸ cntT_le _ _
      have hk7 : isDf ((w6.setCell ⟨O, 0, none⟩ (.slice q6 259 c6)).setCell ⟨O, 1, none⟩ (.int .i64 (Wd : Int))) O q6 259 c6 (Wd : Int) 0 none 0 0 none 0 0 := by
        have g1 := heap_setCell_same w6 O 0 _ _ (.slice q6 259 c6) HK6
        have g2 := heap_setCell_same _ O 1 _ _ (.int .i64 (Wd : Int)) g1
        unfold isDf
        rw [g2]; simp
      have hq7 : rdL ((w6.setCell ⟨O, 0, none⟩ (.slice q6 259 c6)).setCell ⟨O, 1, none⟩ (.int .i64 (Wd : Int))) q6 259 (fun y => (clA (syB L) y : Nat)) := (hq6.set11 hne 0 _).set11 hne 1 _
      have HB7 : Hid (Below B w4 ((w6.setCell ⟨O, 0, none⟩ (.slice q6 259 c6)).setCell ⟨O, 1, none⟩ (.int .i64 (Wd : Int)))) := Lib.hid ((HB6.out.setCell (p := ⟨O, 0, none⟩) hBO _).setCell (p := ⟨O, 1, none⟩) hBO _)
      have hfi := firsts10b q6 259 c6 _ (Wd : Int) (by decide) _ hq7
      have hmin : (min (Wd : Int) 259).toNat = Wd := by omega
      rw [hmin] at hfi
      have HFi := Lib.hid hfi
      have HK7 := Lib.hid hk7; have HQ7 := Lib.hid hq7; have HWD := Lib.hid hWd
      rw [hWd]
      clear hb6 hq6 HNu HK5 HB5 HK6 HK6' HQ6 hne hfi hmin hk7 hq7 hWd HB6
      go_wp2_with fail
      refine HFi.out.mono ?_
      rintro e w8 ⟨q8, c8, rfl, hq8, hb8, hf8⟩
      obtain ⟨G, hG⟩ : ∃ G, w8.heap.size = G := ⟨_, rfl⟩
      have hO7 := HK7.out.lt
      have hOG : O < G := by rw [← hG]; exact Nat.lt_of_lt_of_le hO7 hb8.size
      have HB8 : Hid (Below B w4 w8) := Lib.hid (HB7.out.trans (hb8.mono (by omega)))
      have hd8 : isDf w8 O q6 259 c6 (Wd : Int) 0 none 0 0 none 0 0 := HK7.out.below hb8 hO7
      have hn6 := HK7.out.no_row HQ7.out (by decide)
      have hq8' : rdL w8 q6 259 (fun y => (clA (syB L) y : Nat)) := HQ7.out.below hb8
      have hh8 : rdL w8 q8 Wd (fun j => (fsR (syB L) j : Nat)) := hq8.eqv13 fun j hj => fsR_int (syB_eq L) (by rw [HWD.out]; exact hj)
      have hWp : 0 < Wd := by rw [← HWD.out]; exact wdL_pos L
      obtain ⟨X, hX⟩ : ∃ X : Nat → Prop, X = fun k => k < G ∧ k ≠ O := ⟨_, rfl⟩
      have HXO : Hid (∀ k, k < O → X k) := Lib.hid fun k hk => by rw [hX]; exact ⟨by omega, by omega⟩
      have HXN : Hid (∀ k, X k → k < G ∧ k ≠ O) := Lib.hid fun k hk => by rw [hX] at hk; exact hk
      have HXB : Hid (∀ w', kpX X w8 w' → Below B w4 w') := Lib.hid fun w' h => HB8.out.trans ((h.below (B := O) (by omega) HXO.out).mono hBO)
      have HRQ : Hid (∀ w', kpX X w8 w' → rdL w' q6 259 (fun y => (clA (syB L) y : Nat)) ∧ rdL w' q8 Wd (fun j => (fsR (syB L) j : Nat))) := Lib.hid fun w' h => ⟨h.rd hq8' fun b o e => by
        rw [hX]
        obtain ⟨b', o', e', hb', -⟩ := hq8' 0 (by decide)
        rw [e] at e'; cases e'
        exact ⟨by omega, hn6 b o e⟩, h.rd hh8 fun b o e => by
        rw [hX]
        obtain ⟨b', o', e', hb', -⟩ := hh8 0 hWp
        rw [e] at e'; cases e'
        have := hf8 b o e
        exact ⟨by omega, by omega⟩⟩
      have HFB : Hid (∀ k, k < Wd → fsR (syB L) k < 259) := Lib.hid fun k hk => (fsR_of (syB_eq L) (by rw [HWD.out]; exact hk)).1
      have HBD : Hid (∀ a, (atG (goL L) Wd L a).1.length ≤ n) := Lib.hid fun a => by
        have := leL_bound HX.out (st_lt HX.out) HLL.out a
        rw [HNx.out] at this
        have e : leL L a = atG (goL L) Wd L a := by rw [← HWD.out]; rfl
        rw [e] at this; exact this
      obtain ⟨cS, hcS⟩ : ∃ cS, clA (lnB x) S0 = cS := ⟨_, rfl⟩
      obtain ⟨bb, bo, rfl, -, kS⟩ := HBl.out _ HB8.out S0 hSl
      simp only [hcS] at kS
      obtain ⟨W0, hW0⟩ : ∃ W0, (w8.alloc (.cells #[.int .i64 (cS : Int)] 3)).alloc (.cells #[.int .i64 (S0 : Int)] 3) = W0 := ⟨_, rfl⟩
      have hba : Below w8.heap.size w8 (w8.alloc (.cells #[.int .i64 (cS : Int)] 3)) := (Below.refl _ _).alloc (Nat.le_refl _) _
      have hbb : Below (w8.alloc (.cells #[.int .i64 (cS : Int)] 3)).heap.size (w8.alloc (.cells #[.int .i64 (cS : Int)] 3)) W0 := hW0 ▸ (Below.refl _ _).alloc (Nat.le_refl _) _
      have hb0 : Below w8.heap.size w8 W0 := hba.trans (hbb.mono (by simp))
      have r1 : spO W0 G (.slice (some ⟨G, 0, none⟩) 1 1) [cS] := by
        have h := World.ownsRow_lit (base := G) (e := 3) (size := 1) w8 #[.int .i64 (cS : Int)] 1 (by omega) (by decide) rfl
        rw [hG] at h
        exact owns_below h hbb
      have r2 : spO W0 G (.slice (some ⟨G + 1, 0, none⟩) 1 1) [S0] := by
        have h := World.ownsRow_lit (base := G) (e := 3) (size := 1) (w8.alloc (.cells #[.int .i64 (cS : Int)] 3)) #[.int .i64 (S0 : Int)] 1 (by rw [World.size_alloc]; omega) (by decide) rfl
        rw [World.size_alloc, hG, hW0] at h
        exact h
      have HOM0 : Hid (om13 W0 O G q6 c6 (Wd : Int) (.slice (some ⟨G, 0, none⟩) 1 1) (.slice (some ⟨G + 1, 0, none⟩) 1 1) ([S0].map (clA (lnB x))) [S0] [] (fun j => x.T ([S0].getD j 0)) 0 none 0 none 0) := Lib.hid
        ⟨hd8.below hb0 (by omega), by rw [List.map_singleton, hcS]; exact r1, r2, ⟨rfl, .inl ⟨rfl, rfl⟩⟩, ⟨rfl, .inl ⟨rfl, rfl⟩⟩, .inr (.inr (by simp [Value.ownBlock])), .inr (.inl rfl), .inr (.inl rfl), hOG⟩
      have HST0 : Hid (stI x [S0] (atG (goL L) Wd L 0).1) := Lib.hid ⟨by
        show [lnW x S0] = [L]
        rw [← HLL.out, HS0.out, Int.toNat_natCast], fun t ht => by
        have : t = S0 := by simpa using ht
        rw [this, HNx.out]; exact hSl⟩
      have HKX0 : Hid (kpX X w8 W0) := Lib.hid (kpX.of_below hb0)
      have HDX : Hid (∀ w', kpX X w8 w' → Below (D + 2) w2 w') := Lib.hid fun w' h => HB4.out.trans ((HXB.out w' h).mono hDB)
      have hk8 := HK.out _ (HDX.out _ (kpX.refl _ _))
      have hka := HK.out _ (HDX.out _ (kpX.of_below hba))
      obtain ⟨y0, y1, y2, y3, y4⟩ := hk8
      obtain ⟨z0, z1, z2, z3, z4⟩ := hka
      have HW0 := Lib.hid hW0
      have HGZ := Lib.hid hG
      have t0 : (0 : Int) ≤ (S0 : Int) := by omega
      have t1 : (S0 : Int) < (n : Int) := by omega
      clear hb8 hq8 hf8 hd8 hn6 hq8' hh8 hX hW0 hba hbb hb0 r1 r2 hO7 HFi HK7 HQ7 HB7 HSY
      go_upto_region 27 with (fail)
      rw [HW0.out]
      clear y0 y1 y2 y3 y4 z0 z1 z2 z3 z4 kS HW0 hG
      go_wp2_with fail
      go_loopw [16, 17, 18] (fun mv sv av wr => ∃ (a : Nat) (st nx : List Nat) (pn : Option Addr) (cn : Nat) (pa : Option Addr) (ca : Nat) (vm vs : Value), av = .int .i64 a ∧ vm = mv ∧ vs = sv ∧ a ≤ st.length ∧ Hid (stI x st (atG (goL L) Wd L a).1) ∧ Hid (nx = (atG (goL L) Wd L a).2 ∧ nx.length ≤ 259 * a) ∧ Hid (om13 wr O G q6 c6 (Wd : Int) vm vs (st.map (clA (lnB x))) st nx (fun j => x.T (st.getD j 0)) a pn cn pa ca) ∧ Hid (kpX X w8 wr)) (fun _ _ av _ => n - (intOf av).toNat)
      case atStart => exact ⟨0, [S0], [], none, 0, none, 0, _, _, rfl, rfl, rfl, Nat.zero_le _, HST0, Lib.hid ⟨rfl, Nat.zero_le _⟩, HOM0, HKX0⟩
      case round =>
        clear HOM0 HST0 HKX0
        obtain ⟨a, st, nx, pn, cn, pa, ca, vm, vs, rfl, rfl, rfl, hal, HST, HNX, HOM, HKX⟩ := hrel
        obtain ⟨pm, cm, rfl⟩ := spO_of HOM.out.m
        obtain ⟨ps, cs, rfl⟩ := spO_of HOM.out.s
        have hkl : st.length = (atG (goL L) Wd L a).1.length := by rw [← HST.out.1, List.length_map]
        have hkn : st.length ≤ n := by rw [hkl]; exact HBD.out a
        obtain ⟨k, hk⟩ : ∃ k, st.length = k := ⟨_, rfl⟩
        have hmk : (st.map (clA (lnB x))).length = k := by rw [List.length_map, hk]
        have HK9 := Lib.hid hk; have HMK := Lib.hid hmk
        rw [hmk] at HOM
        rw [hk] at HOM hkl hkn hal
        rw [hmk, hk]
        by_cases hlt : a < k
        · have a0 : (0 : Int) ≤ (a : Int) := by omega
          have a1 : (a : Int) < (k : Int) := by omega
          obtain ⟨sa, hsa⟩ : ∃ sa, st[a]? = some sa := ⟨st[a]'(by rw [hk]; exact hlt), List.getElem?_eq_getElem _⟩
          have hsn : sa < n := by rw [← HNx.out]; exact HST.out.2 sa (List.mem_of_getElem? hsa)
          have hsm := HOM.out.s
          rw [← hk] at hsm
          obtain ⟨bs, rfl, kcs⟩ := hsm.at12 hsa
          have hbsl : bs < wr.heap.size := (World.ownsRow.lt hsm bs rfl).2
          obtain ⟨u, hu⟩ : ∃ u, x.T sa = u := ⟨_, rfl⟩
          obtain ⟨b2, o2, rfl, hb2l, kt⟩ := HTb.out wr (HDX.out _ HKX.out) sa hsn
          rw [hu] at kt
          have HU : Hid ((fun j => x.T (st.getD j 0)) a = u) := Lib.hid (by
            show x.T (st.getD a 0) = u
            rw [List.getD_eq_getElem?_getD, hsa]; exact hu)
          obtain ⟨d0, d1, d2, d3, d4⟩ := HK.out _ (HDX.out _ HKX.out)
          have hDl : D < wr.heap.size := by have := (HDX.out _ HKX.out).size; have := HZ2.out; omega
          have hOl := HOM.out.df.lt
          have c4 := HOM.out.df.cells.2.2.2.2
          have f4 := HOM.out.df.free 4
          have sa0 : (0 : Int) ≤ (sa : Int) := by omega
          have sa1 : (sa : Int) < (n : Int) := by omega
          have HAL : Hid (Below wr.heap.size wr (wr.alloc (.cells #[.bool u] 4)).drew) := Lib.hid ((Below.refl _ _).alloc (Nat.le_refl _) _).drew
          have HOa := Lib.hid (HOM.out.below HAL.out)
          have HKa := Lib.hid (HKX.out.trans (kpX.of_below HAL.out))
          have HCE : Hid ((wr.alloc (.cells #[.bool u] 4)).drew.cell? ⟨wr.heap.size, 0, none⟩ = some (.bool u)) := Lib.hid (by simp)
          have HSZ : Hid (G ≤ (wr.alloc (.cells #[.bool u] 4)).drew.heap.size) := Lib.hid (by have := HKa.out.size; have := HGZ.out; omega)
          have HN1 : Hid (a ≤ 100000) := Lib.hid (by omega)
          have HSA := Lib.hid hsa
          have HX0 : Hid ((atG (goL L) Wd L a).1[a]? = some (lnW x sa)) := Lib.hid (by rw [← HST.out.1, List.getElem?_map, hsa]; rfl)
          obtain ⟨XL, hXL⟩ : ∃ XL, lnW x sa = XL := ⟨_, rfl⟩
          have HXL := Lib.hid hXL
          rw [hXL] at HX0
          have HLT := Lib.hid hlt
          have HKN := Lib.hid hkn
          clear hu HAL HOM hsm hsa hXL hkl HKX
          go_upto_region 30 with (fail)
          go_cut [] from 116 to 171 (fun wx => ∃ q' cap', Hid (om13 wx O G q6 c6 (Wd : Int) (.slice pm k cm) (.slice (some ⟨bs, 0, none⟩) k cs) (st.map (clA (lnB x))) st nx (fun j => x.T (st.getD j 0)) (a + 1) pn cn q' cap') ∧ Hid (kpX X w8 wx))
          case first =>
            go_region_law ((refine step_append_bl rfl (.tmp 117) (.tmp 126) rfl G (.slice pa a ca) (fun j => x.T (st.getD j 0)) a rfl HOa.out.ac wr.heap.size u HU.out rfl HCE.out HN1.out HSZ.out ?_; intro q' n' cap' w' hn' ho' hg'; have HN9 := Lib.hid hn'; have HO9 := Lib.hid ho'; have HG9 := Lib.hid hg'; have hd9 := HOa.out.dfk HOa.out.ac HOa.out.le hg'; have c49 := hd9.cells.2.2.2.2; have f49 := hd9.free 4; have hl9 := hd9.lt; clear hn' ho' hg' hd9))
            all_goals
              obtain rfl : n' = a + 1 := HN9.out
              have HOM2 := Lib.hid (HOa.out.growA HO9.out HG9.out).2
              have HKX2 : Hid (kpX X w8 (w'.setCell ⟨O, 4, none⟩ (.slice q' (a + 1) cap'))) := Lib.hid ((HKa.out.trans (kpX.of_grown HG9.out (own_far13 HOa.out.ac HXN.out))).trans (kpX.of_grown (grown_setCell w' O 4 _) (one_far13 HXN.out)))
              clear HO9 HG9 HN9
              go_wp2_with fail
              go_meet
              exact ⟨q', cap', HOM2, HKX2⟩
          case rest =>
            obtain ⟨q', cap', HOM2, HKX2⟩ := hcut
            clear HOa HKa HCE HSZ HN1 c4 f4 kt kcs d0 d1 d2 d3 d4 hDl hOl hbsl hb2l
            obtain ⟨s, hs⟩ : ∃ s, atG (goL L) Wd L a = s := ⟨_, rfl⟩
            have HSS := Lib.hid hs
            rw [hs] at HST HNX HX0
            clear hs
            have HST2 : Hid (stI x st (clG (goL L) XL 0 s).1) := HST
            have HNX2 : Hid (nx = (clG (goL L) XL 0 s).2 ∧ nx.length ≤ 259 * a + 0) := HNX
            have hWl0 : (0 : Int) ≤ (Wd : Int) := by omega
            go_wp2_with fail
            go_loopw [16, 17, 19] (fun mv sv iv wr => ∃ (kk : Nat) (st' nx' : List Nat) (pn' : Option Addr) (cn' : Nat) (vm vs : Value), iv = .int .i64 kk ∧ vm = mv ∧ vs = sv ∧ kk ≤ Wd ∧ k ≤ st'.length ∧ Hid (stI x st' (clG (goL L) XL kk s).1) ∧ Hid (nx' = (clG (goL L) XL kk s).2 ∧ nx'.length ≤ 259 * a + kk) ∧ Hid (∀ j, j < k → st'[j]? = st[j]?) ∧ Hid (om13 wr O G q6 c6 (Wd : Int) vm vs (st'.map (clA (lnB x))) st' nx' (fun j => x.T (st.getD j 0)) (a + 1) pn' cn' q' cap') ∧ Hid (kpX X w8 wr)) (fun _ _ iv _ => Wd - (intOf iv).toNat)
            case atStart => exact ⟨0, st, nx, pn, cn, _, _, rfl, rfl, rfl, Nat.zero_le _, Nat.le_of_eq HK9.out.symm, HST2, HNX2, Lib.hid (fun _ _ => rfl), HOM2, HKX2⟩
            case round =>
              clear HOM2 HST2 HNX2 HKX2 HST HNX
              obtain ⟨kk, st', nx', pn', cn', vm, vs, rfl, rfl, rfl, hkk, hks, HST, HNX, HPF, HOM, HKX⟩ := hrel
              obtain ⟨pm, cm, rfl⟩ := spO_of HOM.out.m
              obtain ⟨ps, cs, rfl⟩ := spO_of HOM.out.s
              by_cases hltk : kk < Wd
              · have k0 : (0 : Int) ≤ (kk : Int) := by omega
                have k1 : (kk : Int) < (Wd : Int) := by omega
                obtain ⟨y, hy⟩ : ∃ y, fsR (syB L) kk = y := ⟨_, rfl⟩
                have hyl : y < 259 := by rw [← hy]; exact HFB.out kk hltk
                obtain ⟨b8, o8, rfl, hb8l, ky⟩ := (HRQ.out wr HKX.out).2 kk hltk
                simp only [hy] at ky
                have hsa' : st'[a]? = some sa := (HPF.out a HLT.out).trans HSA.out
                have hkl : a < st'.length := by
                  rcases Nat.lt_or_ge a st'.length with g | g
                  · exact g
                  · rw [List.getElem?_eq_none g] at hsa'; cases hsa'
                obtain ⟨bs', rfl, kcs⟩ := HOM.out.s.at12 hsa'
                obtain ⟨len, hlen⟩ : ∃ len, st'.length = len := ⟨_, rfl⟩
                have hml : (st'.map (clA (lnB x))).length = len := by rw [List.length_map, hlen]
                have hlb : len ≤ 2000 := by
                  rw [← hlen]
                  have e1 : st'.length = (clG (goL L) XL kk s).1.length := by rw [← HST.out.1, List.length_map]
                  have e2 := (clG_len (go := goL L) (X := XL) (s := s) kk).2.1
                  have e3 := HBD.out a
                  rw [HSS.out] at e3
                  have e4 : Wd ≤ 259 := hWl
                  omega
                have l1 : (a : Int) < (len : Int) := by omega
                obtain ⟨d0, d1, d2, d3, d4⟩ := HK.out _ (HDX.out _ HKX.out)
                have htl : goD x sa y < n := by rw [← HNx.out]; exact (goD_at HX.out (by rw [HNx.out]; exact hsn) hyl).2.2
                have HCa := Lib.hid (fun w' (p : kpX X w8 w') => HGo.out sa y hsn hyl w' (HDX.out _ p))
                obtain ⟨tz, hto⟩ : ∃ tz, goD x sa y = tz := ⟨_, rfl⟩
                have HTO := Lib.hid hto
                rw [hto] at htl HCa
                have HY := Lib.hid hy
                have HLN := Lib.hid hlen; have HML := Lib.hid hml
                have HBS : Hid (bs' < wr.heap.size) := Lib.hid (World.ownsRow.lt HOM.out.s bs' rfl).2
                have HB8L := Lib.hid hb8l
                have HSc : Hid (∀ w', Below wr.heap.size wr w' → w'.cell? ⟨D, 0, none⟩ = some (.slice q0 259 c0) ∧ w'.cell? ⟨D, 1, none⟩ = some (.int .i64 (W : Int)) ∧ w'.cell? ⟨D, 2, none⟩ = some (.int .i64 (S0 : Int)) ∧ w'.cell? ⟨D, 3, none⟩ = some (.slice q1 x.n1 c1) ∧ w'.cell? ⟨D, 4, none⟩ = some (.slice (some ⟨b2, o2, none⟩) n c2) ∧ w'.cell? ⟨bs', a, none⟩ = some (.int .i64 (sa : Int)) ∧ w'.cell? ⟨b8, o8 + kk, none⟩ = some (.int .i64 (y : Int))) := Lib.hid fun w' p => by
                  obtain ⟨e0, e1, e2, e3, e4⟩ := HK.out _ (HDX.out _ (HKX.out.trans (kpX.of_below p)))
                  exact ⟨e0, e1, e2, e3, e4, (p.cell (p := ⟨bs', a, none⟩) HBS.out).trans kcs, (p.cell (p := ⟨b8, o8 + kk, none⟩) HB8L.out).trans ky⟩
                have hB : Below wr.heap.size wr wr.drew := (Below.refl _ _).drew
                rw [hlen] at HOM ⊢
                rw [hml] at HOM ⊢
                clear hy hto hlen hml hb8l
                go_wp2_with fail
                go_region_held_law (fun w' => w'.cell? ⟨D, 0, none⟩ = some (.slice q0 259 c0) ∧ w'.cell? ⟨D, 1, none⟩ = some (.int .i64 (W : Int)) ∧ w'.cell? ⟨D, 2, none⟩ = some (.int .i64 (S0 : Int)) ∧ w'.cell? ⟨D, 3, none⟩ = some (.slice q1 x.n1 c1) ∧ w'.cell? ⟨D, 4, none⟩ = some (.slice (some ⟨b2, o2, none⟩) n c2) ∧ w'.cell? ⟨bs', a, none⟩ = some (.int .i64 (sa : Int)) ∧ w'.cell? ⟨b8, o8 + kk, none⟩ = some (.int .i64 (y : Int)))
                  (exact HSc.out _ hB)
                  (first | (go_at_call 24; (with_reducible refine (HCa.out _ (HKX.out.trans (kpX.of_below hB))).mono ?_); rintro e wc ⟨rfl, hbc⟩; (replace hB := hB.trans (hbc.mono hB.size)); clear hbc))
                all_goals
                  have HOMc := Lib.hid (HOM.out.below hB)
                  have HKXc := Lib.hid (HKX.out.trans (kpX.of_below hB))
                  clear hB HOM HKX HSc HCa d0 d1 d2 d3 d4 kcs ky
                  have HLZ : Hid (lnW x tz = goL L kk XL) := Lib.hid (by
                    rw [← HTO.out, lnW_go x sa hyl, HXL.out]
                    show der y XL = der (fsR (syB L) kk) XL
                    rw [HY.out])
                  obtain ⟨P, hP⟩ : ∃ P, clG (goL L) XL kk s = P := ⟨_, rfl⟩
                  have HSTEP : Hid (clG (goL L) XL (kk + 1) s = (adG P.1 (lnW x tz), P.2 ++ [ixG P.1 (lnW x tz)])) := Lib.hid (by rw [HLZ.out, ← hP]; rfl)
                  rw [hP] at HST HNX
                  obtain ⟨cz, hcz⟩ : ∃ cz, clA (lnB x) tz = cz := ⟨_, rfl⟩
                  have HCZ := Lib.hid hcz
                  have HBZ : Hid (∀ w', kpX X w8 w' → w'.cell? ⟨bb, bo + tz, none⟩ = some (.int .i64 (cz : Int))) := Lib.hid fun w' p => by
                    obtain ⟨b1, o1, e1, -, l1⟩ := HBl.out _ (HXB.out _ p) tz htl
                    cases e1
                    simp only [hcz] at l1
                    exact l1
                  have hrd : rdL wc pm len (fun j => ((clA (lnB x) (st'.getD j 0) : Nat) : Int)) := by
                    have hm := HOMc.out.m
                    rw [← HML.out] at hm
                    have h2 := spO.rd11 hm
                    rw [HML.out] at h2
                    exact h2.eqv13 fun j hj => by
                      have hj2 : j < st'.length := by rw [HLN.out]; exact hj
                      rw [List.getD_eq_getElem?_getD, List.getElem?_map, List.getD_eq_getElem?_getD, List.getElem?_eq_getElem hj2]
                      rfl
                  have hfd := find13 pm len cm _ (cz : Int) (by omega) wc hrd
                  have hfs := fsA_st HST.out tz
                  rw [HLN.out, hcz] at hfs
                  rw [hfs] at hfd
                  have HPL : Hid (P.1.length = len) := Lib.hid (by rw [← HST.out.1, List.length_map, HLN.out])
                  have hbz := HBZ.out _ HKXc.out
                  have HNL : Hid (nx'.length ≤ 1000000) := Lib.hid (by have := HNX.out.2; have := HKN.out; omega)
                  have z0 : (0 : Int) ≤ (tz : Int) := by omega
                  have z1 : (tz : Int) < (n : Int) := by omega
                  clear hP hcz hrd hfs
                  by_cases hix : ixG P.1 (lnW x tz) < P.1.length
                  · rw [if_pos hix] at hfd
                    have HFD := Lib.hid hfd
                    have hlx : ixG P.1 (lnW x tz) ≤ 2000 := by rw [HPL.out] at hix; omega
                    have HST2 : Hid (stI x st' (clG (goL L) XL (kk + 1) s).1) := Lib.hid (by
                      rw [HSTEP.out]
                      show stI x st' (adG P.1 (lnW x tz))
                      unfold adG
                      rw [if_pos hix]; exact HST.out)
                    obtain ⟨fi, hfi⟩ : ∃ fi, ixG P.1 (lnW x tz) = fi := ⟨_, rfl⟩
                    rw [hfi] at HFD HSTEP hlx
                    have HNX2 : Hid (nx' ++ [fi] = (clG (goL L) XL (kk + 1) s).2 ∧ (nx' ++ [fi]).length ≤ 259 * a + (kk + 1)) := Lib.hid ⟨by rw [HSTEP.out, HNX.out.1], by rw [List.length_append]; have := HNX.out.2; simp; omega⟩
                    have d5 : decide ((fi : Int) < 0) = false := decide_eq_false (by omega)
                    clear hfd hix hfi HST HNX HSTEP
                    go_wp2_with fail
                    refine HFD.out.mono ?_
                    rintro e w6 ⟨rfl, hb6⟩
                    have HOM6 := Lib.hid (HOMc.out.below hb6)
                    have HKX6 := Lib.hid (HKXc.out.trans (kpX.of_below hb6))
                    clear hb6 HOMc HKXc HFD hbz
                    have c3 := HOM6.out.df.cells.2.2.2.1
                    have HALn : Hid (Below w6.heap.size w6 (w6.alloc (.cells #[.int .i64 (fi : Int)] 3))) := Lib.hid ((Below.refl _ _).alloc (Nat.le_refl _) _)
                    have HOn := Lib.hid (HOM6.out.below HALn.out)
                    have HKn := Lib.hid (HKX6.out.trans (kpX.of_below HALn.out))
                    have HGn : Hid (G ≤ (w6.alloc (.cells #[.int .i64 (fi : Int)] 3)).heap.size) := Lib.hid (by have := HKn.out.size; have := HGZ.out; omega)
                    have hOl := HOM6.out.df.lt
                    clear HOM6 HKX6 HALn
                    go_wp2_with (at_builtin; refine append_nx2 rfl _ _ rfl G (.slice pn' nx'.length cn') nx' rfl HOn.out.n w6.heap.size fi rfl (by simp) HNL.out HGn.out ?_; intro vN wN hnN hgN haN; have HNN := Lib.hid hnN; have HGN : Hid ((w6.alloc (.cells #[.int .i64 (fi : Int)] 3)).grownBy wN (Value.slice pn' nx'.length cn').ownBlock) := Lib.hid hgN; have HAN : Hid (vN.ownBlock = (Value.slice pn' nx'.length cn').ownBlock ∨ vN.ownBlock = some (w6.alloc (.cells #[.int .i64 (fi : Int)] 3)).heap.size) := Lib.hid haN; clear hnN hgN haN; refine Hid.out ?_)
                    obtain ⟨pN, cN, rfl⟩ := spO_of HNN.out
                    have hgr := HOn.out.growN HNN.out HGN.out HAN.out
                    have e1 : (nx' ++ [fi]).length = nx'.length + 1 := by simp
                    have h8 := hgr.2
                    rw [e1] at h8 ⊢
                    have HOM8 := Lib.hid h8
                    have HKX8 : Hid (kpX X w8 (wN.setCell ⟨O, 3, none⟩ (.slice pN (nx'.length + 1) cN))) := Lib.hid ((HKn.out.trans (kpX.of_grown HGN.out (own_far13 HOn.out.n HXN.out))).trans (kpX.of_grown (grown_setCell wN O 3 _) (one_far13 HXN.out)))
                    have c37 := hgr.1.cells.2.2.2.1
                    have f37 := hgr.1.free 3
                    have hl7 := hgr.1.lt
                    clear hgr h8 e1 HOn HKn HGn HNN HGN HAN c3 hOl
                    refine Lib.hid ?_
                    go_wp2_with fail
                    go_roundw
                    case rel => exact ⟨kk + 1, st', nx' ++ [fi], pN, cN, _, _, by go_num, rfl, rfl, by omega, by omega, HST2, HNX2, HPF, HOM8, HKX8⟩
                    case measure => simp [intOf]; omega
                  · rw [if_neg hix] at hfd
                    have HFD := Lib.hid hfd
                    have hfi : ixG P.1 (lnW x tz) = len := by
                      have := ixG_le P.1 (lnW x tz)
                      have := HPL.out
                      omega
                    have HST2 : Hid (stI x (st' ++ [tz]) (clG (goL L) XL (kk + 1) s).1) := Lib.hid (by
                      rw [HSTEP.out]
                      have h := stI_add HST.out (u := tz) (by rw [HNx.out]; exact htl)
                      unfold stA at h
                      rw [HST.out.1, if_neg (by rw [HLN.out, ← HPL.out]; exact hix)] at h
                      exact h)
                    rw [hfi] at HSTEP
                    have HNX2 : Hid (nx' ++ [len] = (clG (goL L) XL (kk + 1) s).2 ∧ (nx' ++ [len]).length ≤ 259 * a + (kk + 1)) := Lib.hid ⟨by rw [HSTEP.out, HNX.out.1], by rw [List.length_append]; have := HNX.out.2; simp; omega⟩
                    have HPF2 : Hid (∀ j, j < k → (st' ++ [tz])[j]? = st[j]?) := Lib.hid fun j hj => by rw [List.getElem?_append_left (by omega)]; exact HPF.out j hj
                    have HMAP : Hid (st'.map (clA (lnB x)) ++ [cz] = (st' ++ [tz]).map (clA (lnB x))) := Lib.hid (by rw [List.map_append, List.map_singleton, HCZ.out])
                    clear hfd hix hfi HST HNX HSTEP
                    go_wp2_with fail
                    refine HFD.out.mono ?_
                    rintro e w6 ⟨rfl, hb6⟩
                    have HOM6 := Lib.hid (HOMc.out.below hb6)
                    have HKX6 := Lib.hid (HKXc.out.trans (kpX.of_below hb6))
                    have hbz6 := HBZ.out _ HKX6.out
                    clear hb6 HOMc HKXc HFD hbz
                    -- what is met
                    have HALm : Hid (Below w6.heap.size w6 (w6.alloc (.cells #[.int .i64 (cz : Int)] 3))) := Lib.hid ((Below.refl _ _).alloc (Nat.le_refl _) _)
                    have HOm := Lib.hid (HOM6.out.below HALm.out)
                    have HKm := Lib.hid (HKX6.out.trans (kpX.of_below HALm.out))
                    have HGm : Hid (G ≤ (w6.alloc (.cells #[.int .i64 (cz : Int)] 3)).heap.size) := Lib.hid (by have := HKm.out.size; have := HGZ.out; omega)
                    have HLm : Hid ((st'.map (clA (lnB x))).length ≤ 1000000) := Lib.hid (by rw [HML.out]; omega)
                    clear HOM6 HKX6 HALm
                    go_wp2_with (at_builtin; refine append_nx2 rfl _ _ rfl G (.slice pm len cm) (st'.map (clA (lnB x))) rfl HOm.out.m w6.heap.size cz rfl (by simp) HLm.out HGm.out ?_; intro vM wM hnM hgM haM; have HOM7 := Lib.hid (HOm.out.growM hnM hgM haM); have HKX7 := Lib.hid (HKm.out.trans (kpX.of_grown hgM (own_far13 HOm.out.m HXN.out))); clear hnM hgM haM; refine Hid.out ?_)
                    -- its states
                    have HALs : Hid (Below wM.heap.size wM (wM.alloc (.cells #[.int .i64 (tz : Int)] 3))) := Lib.hid ((Below.refl _ _).alloc (Nat.le_refl _) _)
                    have HOs := Lib.hid (HOM7.out.below HALs.out)
                    have HKs := Lib.hid (HKX7.out.trans (kpX.of_below HALs.out))
                    have HGs : Hid (G ≤ (wM.alloc (.cells #[.int .i64 (tz : Int)] 3)).heap.size) := Lib.hid (by have := HKs.out.size; have := HGZ.out; omega)
                    have HLs : Hid (st'.length ≤ 1000000) := Lib.hid (by rw [HLN.out]; omega)
                    clear HOM7 HKX7 HALs HOm HKm HGm HLm hbz6
                    refine Lib.hid ?_
                    go_wp2_with (at_builtin; refine append_nx2 rfl _ _ rfl G _ st' rfl HOs.out.s wM.heap.size tz rfl (by simp) HLs.out HGs.out ?_; intro vS wS hnS hgS haS; have HOM8s := Lib.hid (HOs.out.growS hnS hgS haS); have HKX8s := Lib.hid (HKs.out.trans (kpX.of_grown hgS (own_far13 HOs.out.s HXN.out))); clear hnS hgS haS; refine Hid.out ?_)
                    have HOM9 : Hid (om13 wS O G q6 c6 (Wd : Int) vM vS ((st' ++ [tz]).map (clA (lnB x))) (st' ++ [tz]) nx' (fun j => x.T (st.getD j 0)) (a + 1) pn' cn' q' cap') := Lib.hid (by rw [← HMAP.out]; exact HOM8s.out)
                    clear HOM8s HOs HKs HGs HLs
                    refine Lib.hid ?_
                    have c3 := HOM9.out.df.cells.2.2.2.1
                    have HALn : Hid (Below wS.heap.size wS (wS.alloc (.cells #[.int .i64 (len : Int)] 3))) := Lib.hid ((Below.refl _ _).alloc (Nat.le_refl _) _)
                    have HOn := Lib.hid (HOM9.out.below HALn.out)
                    have HKn := Lib.hid (HKX8s.out.trans (kpX.of_below HALn.out))
                    have HGn : Hid (G ≤ (wS.alloc (.cells #[.int .i64 (len : Int)] 3)).heap.size) := Lib.hid (by have := HKn.out.size; have := HGZ.out; omega)
                    have hOl := HOM9.out.df.lt
                    clear HOM9 HKX8s HALn
                    go_wp2_with (at_builtin; refine append_nx2 rfl _ _ rfl G (.slice pn' nx'.length cn') nx' rfl HOn.out.n wS.heap.size len rfl (by simp) HNL.out HGn.out ?_; intro vN wN hnN hgN haN; have HNN := Lib.hid hnN; have HGN : Hid ((wS.alloc (.cells #[.int .i64 (len : Int)] 3)).grownBy wN (Value.slice pn' nx'.length cn').ownBlock) := Lib.hid hgN; have HAN : Hid (vN.ownBlock = (Value.slice pn' nx'.length cn').ownBlock ∨ vN.ownBlock = some (wS.alloc (.cells #[.int .i64 (len : Int)] 3)).heap.size) := Lib.hid haN; clear hnN hgN haN; refine Hid.out ?_)
                    obtain ⟨pN, cN, rfl⟩ := spO_of HNN.out
                    have hgr := HOn.out.growN HNN.out HGN.out HAN.out
                    have e1 : (nx' ++ [len]).length = nx'.length + 1 := by simp
                    have h8 := hgr.2
                    rw [e1] at h8 ⊢
                    have HOM8 := Lib.hid h8
                    have HKX8 : Hid (kpX X w8 (wN.setCell ⟨O, 3, none⟩ (.slice pN (nx'.length + 1) cN))) := Lib.hid ((HKn.out.trans (kpX.of_grown HGN.out (own_far13 HOn.out.n HXN.out))).trans (kpX.of_grown (grown_setCell wN O 3 _) (one_far13 HXN.out)))
                    have c37 := hgr.1.cells.2.2.2.1
                    have f37 := hgr.1.free 3
                    have hl7 := hgr.1.lt
                    clear hgr h8 e1 HOn HKn HGn HNN HGN HAN c3 hOl
                    refine Lib.hid ?_
                    go_wp2_with fail
                    go_roundw
                    case rel => exact ⟨kk + 1, st' ++ [tz], nx' ++ [len], pN, cN, _, _, by go_num, rfl, rfl, by omega, by rw [List.length_append]; omega, HST2, HNX2, HPF2, HOM8, HKX8⟩
                    case measure => simp [intOf]; omega
              · have hkw : kk = Wd := by omega
                have HSTo : Hid (stI x st' (atG (goL L) Wd L (a + 1)).1) := Lib.hid (by
                  rw [atG_go (show (atG (goL L) Wd L a).1[a]? = some XL by rw [HSS.out]; exact HX0.out), HSS.out, ← hkw]
                  exact HST.out)
                have HNXo : Hid (nx' = (atG (goL L) Wd L (a + 1)).2 ∧ nx'.length ≤ 259 * (a + 1)) := Lib.hid ⟨by
                  rw [atG_go (show (atG (goL L) Wd L a).1[a]? = some XL by rw [HSS.out]; exact HX0.out), HSS.out, ← hkw]
                  exact HNX.out.1, by have := HNX.out.2; omega⟩
                have HOMo := Lib.hid (HOM.out.congr (T' := fun j => x.T (st'.getD j 0)) fun j hj => by
                  show x.T (st.getD j 0) = x.T (st'.getD j 0)
                  rw [List.getD_eq_getElem?_getD, List.getD_eq_getElem?_getD, HPF.out j (by omega)])
                have han : a < n := by have := HKN.out; omega
                have hll : (st'.map (clA (lnB x))).length = st'.length := by rw [List.length_map]
                have dkk : decide ((kk : Int) < (Wd : Int)) = false := decide_eq_false (by omega)
                clear HST HNX HOM hkw
                go_wp2_with fail
                go_roundw
                case rel => exact ⟨a + 1, st', nx', pn', cn', q', cap', _, _, by go_num, rfl, rfl, by omega, HSTo, HNXo, HOMo, HKX⟩
                case measure => simp [intOf]; omega
        · have hak : a = k := by omega
          subst hak
          have HE := Lib.hid (ofE13 HNx.out HLL.out HWD.out HST.out HNX.out.1 HK9.out hkn)
          obtain ⟨e0, e1, e2, e3, e4⟩ := HOM.out.df.cells
          have hOl := HOM.out.df.lt
          have HDz := Lib.hid (HRS.out _ (HDX.out _ HKX.out))
          have g0 := HDz.out.free 0; have g1 := HDz.out.free 1; have g2 := HDz.out.free 2; have g3 := HDz.out.free 3; have g4 := HDz.out.free 4
          obtain ⟨k0, k1, k2, k3, k4⟩ := HDz.out.cells
          have hl1 := HDz.out.lt
          have Z := Lib.hid (HDz.out.stored q6 259 c6 (Wd : Int) 0 pn nx.length cn pa a ca).cells
          have hr0 := (HRQ.out _ HKX.out).1
          have hr1 := spO.rd11 HOM.out.n
          obtain ⟨hr2, hr2b⟩ := bls_rd HOM.out.ac
          have hDG : D + 1 < G := by omega
          have hne0 := HDz.out.no_row hr0 (by decide)
          have hne1 : ∀ b o, pn = some ⟨b, o, none⟩ → b ≠ D + 1 := fun b o e => by
            have := (World.ownsRow.lt HOM.out.n b (by rw [e]; rfl)).1
            omega
          have hne2 : ∀ b o, pa = some ⟨b, o, none⟩ → b ≠ D + 1 := fun b o e => by have := hr2b b o e; omega
          have HE2 : Hid (daAt (((((wr.setCell ⟨D + 1, 0, none⟩ (.slice q6 259 c6)).setCell ⟨D + 1, 1, none⟩ (.int .i64 (Wd : Int))).setCell ⟨D + 1, 2, none⟩ (.int .i64 0)).setCell ⟨D + 1, 3, none⟩ (.slice pn nx.length cn)).setCell ⟨D + 1, 4, none⟩ (.slice pa a ca)) (dfV q6 259 c6 (Wd : Int) 0 pn nx.length cn pa a ca) ⟨259, fun y => ((clA (syB L) y : Nat) : Int), (Wd : Int), 0, nx.length, fun j => ((nx.getD j 0 : Nat) : Int), a, fun j => x.T (st.getD j 0)⟩) := Lib.hid
            ⟨q6, c6, pn, cn, pa, ca, rfl, ((((hr0.set11 hne0 _ _).set11 hne0 _ _).set11 hne0 _ _).set11 hne0 _ _).set11 hne0 _ _, ((((hr1.set11 hne1 _ _).set11 hne1 _ _).set11 hne1 _ _).set11 hne1 _ _).set11 hne1 _ _, ((((hr2.set11 hne2 _ _).set11 hne2 _ _).set11 hne2 _ _).set11 hne2 _ _).set11 hne2 _ _⟩
          have hBfin : Below D w wr := HB02.out.trans ((HDX.out _ HKX.out).mono (by omega))
          have HBF : Hid (Below w.heap.size w (((((wr.setCell ⟨D + 1, 0, none⟩ (.slice q6 259 c6)).setCell ⟨D + 1, 1, none⟩ (.int .i64 (Wd : Int))).setCell ⟨D + 1, 2, none⟩ (.int .i64 0)).setCell ⟨D + 1, 3, none⟩ (.slice pn nx.length cn)).setCell ⟨D + 1, 4, none⟩ (.slice pa a ca))) := Lib.hid (by
            rw [HG.out]
            exact ((((hBfin.setCell (p := ⟨D + 1, 0, none⟩) (Nat.le_succ D) _).setCell (p := ⟨D + 1, 1, none⟩) (Nat.le_succ D) _).setCell (p := ⟨D + 1, 2, none⟩) (Nat.le_succ D) _).setCell (p := ⟨D + 1, 3, none⟩) (Nat.le_succ D) _).setCell (p := ⟨D + 1, 4, none⟩) (Nat.le_succ D) _)
          clear hr0 hr1 hr2 hr2b hne0 hne1 hne2 hBfin HOM HST HNX HDz hlt hkl hk hmk hal hkn
          go_wp2_with fail
          refine bodyPost_ret (v := dfV q6 259 c6 (Wd : Int) 0 pn nx.length cn pa a ca) (by simp [results, Try.results23, go_sem, Z.out]) rfl ?_
          exact ⟨_, _, rfl, HE2.out, HE.out, HBF.out⟩
end Go.Proofs.Ytefpoapbodbenaa
