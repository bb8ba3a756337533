/-
  The walk of the thirteenth reference's Unlike (written by gen/un13.py).
-/
import Derived.Test.YtefpoapbodbenaaPk31
namespace Go.Proofs.Ytefpoapbodbenaa
open Go.RowKit

def unG (x : Da) : Gr := fun i k => x.T i != x.T k
def unJ (x : Da) (s y : Nat) (q : Nat) : Bool := decide (q < y) && (x.T s != x.T q)
theorem unJ_zero (x : Da) (s q : Nat) : unJ x s 0 q = false := by unfold unJ; simp
theorem unJ_succ (x : Da) (s y q : Nat) : (if q = y then (x.T s != x.T y) else unJ x s y q) = unJ x s (y + 1) q := by
  unfold unJ
  by_cases h : q = y
  · subst h; simp
  · rw [if_neg h]
    have : (q < y) = (q < y + 1) := propext ⟨fun g => by omega, fun g => by omega⟩
    simp only [this]
theorem unJ_end (x : Da) (s : Nat) {n q : Nat} (h : q < n) : unJ x s n q = unG x s q := by unfold unJ unG; simp [h]
theorem spF.far {w : World} {base G j : Nat} {v u : Value} {f : Nat → Int} {n : Nat} (h : spF w base v f n) (hG : G < base) : spF (w.setCell ⟨G, j, none⟩ u) base v f n :=
  World.ownsRow.kept h (grown_setCell w G j u) (by
    cases e : v.ownBlock with
    | none => exact .inl rfl
    | some g =>
      right
      have h1 := (h.lt g e).1
      intro h2
      have h3 := Option.some.inj h2
      omega)

set_option maxRecDepth 100000 in
set_option maxHeartbeats 20000000 in
theorem unlike13 (v : Value) (x : Da) (hx : rgD x) (h1 : x.n1 ≤ 100000) (h2 : x.n2 ≤ 1000) (N : Nat) (hN : x.n2 = N + 1) (w : World) (hd : daAt w v x) :
    Calls Try.prog 63 #[v] w fun e w' => ∃ v' M, e = .returned v' ∧ grd w' w.heap.size v' N M ∧ (∀ i k, i < x.n2 → k < x.n2 → (M i k = true ↔ lnW x i ≠ lnW x k)) ∧ Below w.heap.size w w' := by
  obtain ⟨D, hD⟩ : ∃ D, w.heap.size = D := ⟨_, rfl⟩
  have HDa := Lib.hid (fun w' (h : Below w.heap.size w w') => hd.below h)
  obtain ⟨q0, c0, q1, c1, q2, c2, rfl, hr0, hr1, hr2⟩ := hd
  have HX := Lib.hid hx; have HH1 := Lib.hid h1; have HN2 := Lib.hid hN
  obtain ⟨w1, hw1⟩ : ∃ w1, w.alloc (.cells #[.slice q0 x.n0 c0, .int .i64 x.wd, .int .i64 x.st, .slice q1 x.n1 c1, .slice q2 x.n2 c2] 25) = w1 := ⟨_, rfl⟩
  have hz1 : w1.heap.size = D + 1 := by rw [← hw1, World.size_alloc, hD]
  have hb1 : Below D w w1 := hw1 ▸ (Below.refl _ _).alloc (by omega) _
  have hk1 : isDf w1 D q0 x.n0 c0 x.wd x.st q1 x.n1 c1 q2 x.n2 c2 := hw1 ▸ hD ▸ heap_alloc_new w _
  have HK := Lib.hid (fun w' (h : Below (D + 1) w1 w') => (hk1.below h (Nat.lt_succ_self D)).cells)
  have HR0 := Lib.hid (fun w' (h : Below (D + 1) w1 w') => hr0.below (hD.symm ▸ hb1.trans (h.mono (Nat.le_succ D))))
  have HR1 := Lib.hid (fun w' (h : Below (D + 1) w1 w') => hr1.below (hD.symm ▸ hb1.trans (h.mono (Nat.le_succ D))))
  have HR2 := Lib.hid (fun w' (h : Below (D + 1) w1 w') => hr2.below (hD.symm ▸ hb1.trans (h.mono (Nat.le_succ D))))
  have HW1 := Lib.hid hw1; have HG := Lib.hid hD; have HB1 := Lib.hid hb1; have HZ := Lib.hid hz1
  have hn0 : x.n0 = 259 := hx.1
  obtain ⟨W, hW⟩ : ∃ W : Nat, x.wd = W := ⟨x.wd.toNat, by have := hx.2.1; omega⟩
  have hWl : W ≤ 259 := by have := hx.2.2.1; omega
  have HGA := Lib.hid (fun s y (hs : s < x.n2) (hy : y < 259) => goD_at hx hs hy)
  have HC0 := Lib.hid (fun y (hy : y < 259) => (hx.2.2.2.2.2.2.2.2.1 y hy).1)
  have HWW := Lib.hid hW
  obtain ⟨y0, y1, y2, y3, y4⟩ := hk1.cells
  obtain ⟨n, hn⟩ : ∃ n, N + 1 = n := ⟨_, rfl⟩
  rw [hn] at hN
  rw [hn0] at HK HR0 HDa ⊢
  rw [hW] at HK HDa ⊢
  have HNx : Hid (x.n2 = n) := Lib.hid hN
  rw [hN] at HK HGA HR2 HDa ⊢
  rw [hn0, hW, hN] at HW1
  rw [hn0] at y0
  rw [hW] at y1
  rw [hN] at y4 h2
  have HNn := Lib.hid hn
  have HGo := Lib.hid (fun (i y : Nat) (hi : i < n) (hy : y < 259) (w' : World) (hb : Below (D + 1) w1 w') => goC13 HX.out HH1.out HWW.out q0 c0 q1 c1 q2 n c2 i y (HNx.out.symm ▸ hi) hy w' (HR0.out w' hb) (HR1.out w' hb))
  have n0 : (0 : Int) ≤ (n : Int) := by omega
  have n1 : (n : Int) ≤ 1000 := by omega
  have HG0 : Hid (grK w1 (D + 1) (.slice none 0 0) N 0 (fun _ => 0) (unG x)) := Lib.hid ⟨World.ownsRow_nil _ _ _ _, fun i h => by omega, fun i j h => by omega⟩
  have HBs : Hid (Below (D + 1) w1 w1) := Lib.hid (Below.refl _ _)
  obtain ⟨ib, hib, hb0, hb1', hb2⟩ := info_parts infoB7
  obtain ⟨io, hio, ho0, ho1, ho2⟩ := info_parts infoRowB
  clear hw1 hk1 hr0 hr1 hb1 hr2 hx hn0 hW hN hn
  go_enter Try.func63, Try.ntmps63
  go_upto_region 1 with (fail)
  rw [HW1.out]
  clear hD hz1
  go_wp2_with fail
  clear y0 y1 y2 y3 y4
  go_loopw [4, 5] (fun ov sv wr => ∃ (s : Nat) (r : Nat → Nat) (vn : Value), s ≤ n ∧ sv = .int .i64 s ∧ vn = ov ∧ Hid (grK wr (D + 1) vn N s r (unG x)) ∧ Hid (Below (D + 1) w1 wr)) (fun _ sv _ => n - (intOf sv).toNat)
  case atStart => exact ⟨0, _, _, Nat.zero_le _, rfl, rfl, HG0, HBs⟩
  case round =>
    clear HG0 HBs
    obtain ⟨s, r, vn, hs, rfl, rfl, HGr, HB⟩ := hrel
    by_cases hlt : s < n
    · have i0 : (0 : Int) ≤ (s : Int) := by omega
      have i1 : (s : Int) < (n : Int) := by omega
      have m1 : Hid (io.bytes = 24 ∧ (1 : Nat) * n ≤ 281474976710656) := Lib.hid ⟨ho2, by omega⟩
      have m2 : Hid (n ≤ maxLen) := Lib.hid (by unfold maxLen; omega)
      have hBs : D + 1 ≤ wr.heap.size := by have := HB.out.size; have := HZ.out; omega
      go_wp2_with (refine wpList_make_full _ rfl _ _ 23 rfl (D + 1) 4 ib (.bool false) 1 Try.underlying23 hib hb0 hb1' .i64 .i64 (n : Int) (n : Int) n rfl rfl (by omega) (by omega) (by rw [hb2]; exact m1.out.2) m2.out hBs ?_)
      intro w4 hmk hg4
      obtain ⟨G, hG⟩ : ∃ G, wr.heap.size = G := ⟨_, rfl⟩
      rw [hG] at hmk ⊢
      have hmk2 : bvR w4 (D + 1) G N (fun _ => false) := by
        have e := HNn.out
        subst e
        unfold bvR
        rw [← made_none]
        exact hmk
      have hb4 : Below (D + 1) w1 w4 := HB.out.grown hg4 hBs (fun r hr => by cases hr)
      have hgr4 : grK w4 (D + 1) vn N s r (unG x) := ⟨HGr.out.1.kept hg4 (Classical.em _), fun i hi => (HGr.out.2.1 i hi).kept hg4 (Classical.em _), HGr.out.2.2⟩
      have hrl : ∀ i, i < s → r i ≠ G := fun i hi e => by have := ((HGr.out.2.1 i hi).lt (r i) rfl).2; omega
      have hvb : vn.ownBlock = none ∨ vn.ownBlock ≠ some G := by
        rcases id HGr.out.1.2 with ⟨e, _⟩ | ⟨g, cap, cur, e, _⟩
        · rw [e]; exact .inl rfl
        · right
          have hl := HGr.out.1.lt g (by rw [e]; rfl)
          rw [e]
          simp [Value.ownBlock]
          omega
      have hsN : s ≤ N := by have := HNn.out; omega
      have HT5 : Hid (bvR w4 (D + 1) G N (unJ x s 0)) := Lib.hid (hmk2.same fun j _ => (unJ_zero x s j).symm)
      have HG5 := Lib.hid hgr4
      have HB5 := Lib.hid hb4
      have HRL := Lib.hid hrl; have HVB := Lib.hid hvb; have HGl := Lib.hid hmk2.lt.1
      clear hmk hmk2 hg4 hb4 hgr4 hrl hvb HGr HB hG m1 m2
      go_wp2_with fail
      go_loopw [7] (fun yv wx => ∃ y : Nat, y ≤ n ∧ yv = .int .i64 y ∧ Hid (bvR wx (D + 1) G N (unJ x s y)) ∧ Hid (grK wx (D + 1) vn N s r (unG x)) ∧ Hid (Below (D + 1) w1 wx)) (fun yv _ => n - (intOf yv).toNat)
      case atStart => exact ⟨0, Nat.zero_le _, rfl, HT5, HG5, HB5⟩
      case round =>
        clear HT5 HG5 HB5
        obtain ⟨y, hy, rfl, HT, HGr, HB⟩ := hrel
        by_cases hlty : y < n
        · have j0 : (0 : Int) ≤ (y : Int) := by omega
          have j1 : (y : Int) < (n : Int) := by omega
          obtain ⟨-, -, -, -, y4⟩ := HK.out _ HB.out
          obtain ⟨b2, o2, rfl, -, k2⟩ := HR2.out _ HB.out s hlt
          obtain ⟨b2', o2', e2, -, k3⟩ := HR2.out _ HB.out y hlty
          cases e2
          have yN : y ≤ N := by have := HNn.out; omega
          have f0 := HT.out.free y
          have g0 := HT.out.cell y yN
          have hy0 : unJ x s y y = false := by unfold unJ; simp
          rw [hy0] at g0
          have HTJ := Lib.hid (fun q => unJ_succ x s y q)
          obtain ⟨ta, hta⟩ : ∃ ta, x.T s = ta := ⟨_, rfl⟩
          obtain ⟨tb, htb⟩ : ∃ tb, x.T y = tb := ⟨_, rfl⟩
          rw [hta] at k2
          rw [htb] at k3
          have HT2 : Hid (∀ u, u = (ta != tb) → bvR (wr.setCell ⟨G, y, none⟩ (.bool u)).drew (D + 1) G N (unJ x s (y + 1))) := Lib.hid fun u hu => World.ownsRow.drew ((HT.out.put y u).same fun j _ => by rw [hu, ← hta, ← htb]; exact HTJ.out j)
          have HG2 : Hid (∀ u, grK (wr.setCell ⟨G, y, none⟩ (.bool u)).drew (D + 1) vn N s r (unG x)) := Lib.hid fun u => (HGr.out.far HRL.out HVB.out _).drew
          have HB2 : Hid (∀ u, Below (D + 1) w1 (wr.setCell ⟨G, y, none⟩ (.bool u)).drew) := Lib.hid fun u => (HB.out.setCell (p := ⟨G, y, none⟩) HGl.out _).drew
          clear hta htb HTJ hy0 HT HGr
          cases ta <;> cases tb
          all_goals
            go_wp2_with fail
            go_region
            all_goals
              go_wp2_with fail
              go_roundw
              case rel => exact ⟨y + 1, by omega, by go_num, Lib.hid (HT2.out _ rfl), Lib.hid (HG2.out _), Lib.hid (HB2.out _)⟩
              case measure => simp [intOf]; omega
        · obtain hyn : y = n := by omega
          rw [hyn] at HT
          clear hyn
          have HAL : Hid (Below wr.heap.size wr (wr.alloc (.cells #[.slice (some ⟨G, 0, none⟩) n n] 23))) := Lib.hid ((Below.refl _ _).alloc (Nat.le_refl _) _)
          have HT2 : Hid (bvR (wr.alloc (.cells #[.slice (some ⟨G, 0, none⟩) n n] 23)) (D + 1) G N (unG x s)) := Lib.hid (owns_below (HT.out.same fun j hj => unJ_end x s (by have := HNn.out; omega)) HAL.out)
          have HG2 := Lib.hid (HGr.out.below HAL.out)
          have hBw : D + 1 ≤ wr.heap.size := by have := HB.out.size; have := HZ.out; omega
          have HB2 : Hid (Below (D + 1) w1 (wr.alloc (.cells #[.slice (some ⟨G, 0, none⟩) n n] 23))) := Lib.hid (HB.out.trans (HAL.out.mono hBw))
          have H63 : Hid (s + 1 ≤ maxLen) := Lib.hid (by unfold maxLen; omega)
          have H48 : Hid ((s + 1) * 24 ≤ 140737488355328) := Lib.hid (by omega)
          clear HT HGr HB HAL
          go_wp2_with (at_builtin; refine wpList_append_own _ rfl _ _ 82 rfl (D + 1) 23 io (.slice none 0 0) 1 24 Try.underlying82 hio ho0 ho1 ho2 rfl (by decide) vn s (rowVals r N s) rfl HG2.out.1 ⟨wr.heap.size, 0, none⟩ 1 1 [.slice (some ⟨G, 0, none⟩) n n] rfl rfl ?c2 ?c3 H63.out H48.out ?c5 ?_)
          case c2 =>
            intro j u hj
            match j, hj with
            | 0, hj => simp at hj; subst hj; simp [Addr.add]
          case c3 => intro u hu; simp at hu; subst hu; rfl
          case c5 => simp; omega
          intro v' w5 hown5 hgrow _
          have HB5 : Hid (Below (D + 1) w1 w5) := Lib.hid (HB2.out.grown hgrow (by simp; omega) fun r hr => (HG2.out.1.lt r hr).1)
          have HG5 : Hid (grK w5 (D + 1) v' N (s + 1) (fun i => if i = s then G else r i) (unG x)) := Lib.hid (by
            refine ⟨?_, ?_, ?_⟩
            · rw [rowVals_succ, rowVals_same N (r := fun i => if i = s then G else r i) (r' := r) (fun i hi' => by rw [if_neg (by omega)]), if_pos rfl]
              have e := HNn.out
              subst e
              exact hown5
            · intro i hi'
              show w5.ownsRow (D + 1) 4 1 (.slice (some ⟨if i = s then G else r i, 0, none⟩) (N + 1) (N + 1)) (N + 1) (bvs (unG x i) N)
              by_cases hik : i = s
              · rw [if_pos hik, hik]
                exact World.ownsRow.kept HT2.out hgrow (rows_apt7 HT2.out HG2.out.1 (by decide))
              · rw [if_neg hik]
                exact (HG2.out.2.1 i (by omega)).kept hgrow (rows_apt7 (HG2.out.2.1 i (by omega)) HG2.out.1 (by decide))
            · intro i j hi' hj' he
              simp only at he
              by_cases hik : i = s
              · by_cases hjk : j = s
                · omega
                · rw [if_pos hik, if_neg hjk] at he
                  exact absurd he.symm (HRL.out j (by omega))
              · by_cases hjk : j = s
                · rw [if_neg hik, if_pos hjk] at he
                  exact absurd he (HRL.out i (by omega))
                · rw [if_neg hik, if_neg hjk] at he
                  exact HG2.out.2.2 i j (by omega) (by omega) he)
          clear hown5 hgrow HT2 HG2 HB2 HRL HVB
          go_wp2_with fail
          go_roundw
          case rel => exact ⟨s + 1, _, _, by omega, by go_num, rfl, HG5, HB5⟩
          case measure => simp [intOf]; omega
    · obtain rfl : s = n := by omega
      obtain ⟨go, cap, rfl, hgB, hgl, -⟩ : ∃ go cap, vn = .slice (some ⟨go, 0, none⟩) s cap ∧ D + 1 ≤ go ∧ go < wr.heap.size ∧ True := by
        have h := HGr.out
        have e := HNn.out
        subst e
        obtain ⟨go, cap, e2, h1, h2, -⟩ := h.outer
        exact ⟨go, cap, e2, h1, h2, trivial⟩
      have HOut : Hid (∀ w' (M : Gr), grK w' (D + 1) (.slice (some ⟨go, 0, none⟩) s cap) N s r M → ∀ i, i < s → w'.cell? ⟨go, i, none⟩ = some (.slice (some ⟨r i, 0, none⟩) s s)) := Lib.hid fun w' M h i hi => by
        have e := HNn.out
        subst e
        obtain ⟨go', cap', hv, -, -, hco⟩ := h.outer
        simp only [Value.slice.injEq, Option.some.injEq, Addr.mk.injEq, and_true, true_and] at hv
        obtain ⟨rfl, rfl⟩ := hv
        exact hco i hi
      have HRL8 : Hid (∀ i, i < s → D + 1 ≤ r i ∧ r i < wr.heap.size) := Lib.hid fun i hi => ⟨(HGr.out.at (i := i) (j := 0) hi (Nat.zero_le _)).2.2.1, (HGr.out.at (i := i) (j := 0) hi (Nat.zero_le _)).2.2.2⟩
      have HGr2 := Lib.hid HGr.out
      have HB2 := HB
      have HDw := HDa.out _ (HG.out.symm ▸ HB1.out.trans (HB.out.mono (Nat.le_succ D)))
      have HHd := Lib.hid (heads13 _ _ HX.out _ HDw)
      obtain ⟨y0, y1, y2, y3, y4⟩ := HK.out _ HB.out
      obtain ⟨B8, hB8⟩ : ∃ B8, wr.heap.size + 1 = B8 := ⟨_, rfl⟩
      have HRL9 : Hid (∀ i, i < s → D + 1 ≤ r i ∧ r i < B8) := Lib.hid fun i hi => by have := HRL8.out i hi; omega
      have hDw : D + 1 ≤ wr.heap.size := by have := HB.out.size; have := HZ.out; omega
      clear HGr HB HDw
      go_wp2_with fail
      refine HHd.out.mono ?_
      rintro e w8 ⟨v8, kk, H, rfl, hsp8, hhd8, hb8⟩
      rw [hB8] at hsp8
      obtain ⟨hp, hcp, rfl⟩ := spF_of hsp8
      have hkk : kk ≤ 259 := hhd8.1
      have HH0 : Hid (spF w8 B8 (.slice hp kk hcp) (fun j => (H j : Nat)) kk) := Lib.hid hsp8
      have HHD := Lib.hid hhd8
      have HM0 : Hid (grK w8 (D + 1) (.slice (some ⟨go, 0, none⟩) s cap) N s r (unG x)) := Lib.hid (HGr2.out.below hb8)
      have HU0 : Hid (unI x 0 0 0 (unG x)) := Lib.hid (unI_zero x fun a b _ _ => rfl)
      have HB0 : Hid (Below (D + 1) w1 w8) := Lib.hid (HB2.out.trans (hb8.mono hDw))
      clear y0 y1 y2 y3 y4 hsp8 hhd8 hb8 HGr2 HB2 HHd HRL8 hB8 hDw HDa
      go_wp2_with fail
      go_loopw [9] (fun tv wr => ∃ (t : Nat) (M : Gr), t ≤ s ∧ tv = .int .i64 t ∧ Hid (unI x t 0 0 M) ∧ Hid (grK wr (D + 1) (.slice (some ⟨go, 0, none⟩) s cap) N s r M) ∧ Hid (spF wr B8 (.slice hp kk hcp) (fun j => (H j : Nat)) kk) ∧ Hid (Below (D + 1) w1 wr)) (fun tv _ => s - (intOf tv).toNat)
      case atStart => exact ⟨0, _, Nat.zero_le _, rfl, HU0, HM0, HH0, HB0⟩
      case round =>
        clear HM0 HB0 HU0 HH0
        obtain ⟨t, M, ht, rfl, HU, HM, HH, HB⟩ := hrel
        by_cases hltt : t < s
        · have i0 : (0 : Int) ≤ (t : Int) := by omega
          have i1 : (t : Int) < (s : Int) := by omega
          go_wp2_with fail
          go_loopw [10] (fun iv wr => ∃ (i : Nat) (M : Gr), i ≤ s ∧ iv = .int .i64 i ∧ Hid (unI x t i 0 M) ∧ Hid (grK wr (D + 1) (.slice (some ⟨go, 0, none⟩) s cap) N s r M) ∧ Hid (spF wr B8 (.slice hp kk hcp) (fun j => (H j : Nat)) kk) ∧ Hid (Below (D + 1) w1 wr)) (fun iv _ => s - (intOf iv).toNat)
          case atStart => exact ⟨0, _, Nat.zero_le _, rfl, HU, HM, HH, HB⟩
          case round =>
            clear HM HB HU HH
            obtain ⟨i, M, hi, rfl, HU, HM, HH, HB⟩ := hrel
            by_cases hlti : i < s
            · have j0 : (0 : Int) ≤ (i : Int) := by omega
              have j1 : (i : Int) < (s : Int) := by omega
              go_wp2_with fail
              go_loopw [11] (fun kv wr => ∃ (k : Nat) (M : Gr), k ≤ s ∧ kv = .int .i64 k ∧ Hid (unI x t i k M) ∧ Hid (grK wr (D + 1) (.slice (some ⟨go, 0, none⟩) s cap) N s r M) ∧ Hid (spF wr B8 (.slice hp kk hcp) (fun j => (H j : Nat)) kk) ∧ Hid (Below (D + 1) w1 wr)) (fun kv _ => s - (intOf kv).toNat)
              case atStart => exact ⟨0, _, Nat.zero_le _, rfl, HU, HM, HH, HB⟩
              case round =>
                clear HM HB HU HH
                obtain ⟨k, M, hk, rfl, HU, HM, HH, HB⟩ := hrel
                by_cases hltk : k < s
                · have k0 : (0 : Int) ≤ (k : Int) := by omega
                  have k1 : (k : Int) < (s : Int) := by omega
                  have HC := Lib.hid (unC_zero x t i k H M)
                  go_wp2_with fail
                  go_loopw [12] (fun cv wr => ∃ (c : Nat) (M : Gr), c ≤ kk ∧ cv = .int .i64 c ∧ Hid (unI x t i k M) ∧ Hid (unC x t i k H c M) ∧ Hid (grK wr (D + 1) (.slice (some ⟨go, 0, none⟩) s cap) N s r M) ∧ Hid (spF wr B8 (.slice hp kk hcp) (fun j => (H j : Nat)) kk) ∧ Hid (Below (D + 1) w1 wr)) (fun cv _ => kk - (intOf cv).toNat)
                  case atStart => exact ⟨0, _, Nat.zero_le _, rfl, HU, HC, HM, HH, HB⟩
                  case round =>
                    clear HM HB HU HH HC
                    obtain ⟨c, M, hc, rfl, HU, HC, HM, HH, HB⟩ := hrel
                    have kN : k ≤ N := by have := HNn.out; omega
                    have ci := HOut.out _ _ HM.out i hlti
                    obtain ⟨ai, fi, li1, li2⟩ := HM.out.at (i := i) (j := k) hlti kN
                    obtain ⟨u, hu⟩ : ∃ u, M i k = u := ⟨_, rfl⟩
                    rw [hu] at ai
                    by_cases hltc : c < kk
                    · have q0' : (0 : Int) ≤ (c : Int) := by omega
                      have q1' : (c : Int) < (kk : Int) := by omega
                      have dc : decide ((c : Int) < (kk : Int)) = true := decide_eq_true q1'
                      cases u with
                      | true =>
                        have HU2 : Hid (unI x t i (k + 1) M) := Lib.hid (unI_next HU.out (by rw [HNx.out]; exact hlti) (by rw [HNx.out]; exact hltk) fun e => by rw [hu] at e; cases e)
                        clear HU HC hu
                        go_wp2_with fail
                        go_roundw
                        case rel => exact ⟨k + 1, _, by omega, by go_num, HU2, HM, HH, HB⟩
                        case measure => simp [intOf]; omega
                      | false =>
                        have hH := HHD.out.2.1 c hltc
                        obtain ⟨hb, ho, rfl, -, -⟩ := HH.out.rd c hltc
                        obtain ⟨h, hh⟩ : ∃ h, H c = h := ⟨_, rfl⟩
                        have HU1 := unI_put (y := H c) HX.out HU.out (by rw [HNx.out]; exact hlti) (by rw [HNx.out]; exact hltk) hH hu
                        have HC1 := unC_put HX.out HU.out HC.out (by rw [HNx.out]; exact hlti) (by rw [HNx.out]; exact hltk) hH hu
                        have gA := (HGA.out i (H c) hlti hH).2.2
                        have gB := (HGA.out k (H c) hltk hH).2.2
                        have HCa := Lib.hid (HGo.out i (H c) hlti hH)
                        have HCb := Lib.hid (HGo.out k (H c) hltk hH)
                        rw [hh] at HU1 HC1 gA gB HCa HCb hH
                        obtain ⟨ga, hga⟩ : ∃ ga, goD x i h = ga := ⟨_, rfl⟩
                        obtain ⟨gb, hgb⟩ : ∃ gb, goD x k h = gb := ⟨_, rfl⟩
                        rw [hga] at HU1 HC1 gA HCa
                        rw [hgb] at HU1 HC1 gB HCb
                        obtain ⟨b, hb'⟩ : ∃ b, M ga gb = b := ⟨_, rfl⟩
                        rw [hb'] at HU1 HC1
                        have HU2 := Lib.hid HU1
                        have HC2 := Lib.hid HC1
                        have z0 : (0 : Int) ≤ (ga : Int) := by omega
                        have z1 : (ga : Int) < (s : Int) := by omega
                        have z2 : (0 : Int) ≤ (gb : Int) := by omega
                        have z3 : (gb : Int) < (s : Int) := by omega
                        have z4 : (0 : Int) ≤ (h : Int) := by omega
                        have hDr : D + 1 ≤ wr.heap.size := by have := HB.out.size; have := HZ.out; omega
                        have gN : gb ≤ N := by have := HNn.out; omega
                        have HSg : Hid (∀ w' (M' : Gr), Below (D + 1) w1 w' → grK w' (D + 1) (.slice (some ⟨go, 0, none⟩) s cap) N s r M' → spF w' B8 (.slice (some ⟨hb, ho, none⟩) kk hcp) (fun j => (H j : Nat)) kk → M' ga gb = b → w'.cell? ⟨D, 0, none⟩ = some (.slice q0 259 c0) ∧ w'.cell? ⟨D, 1, none⟩ = some (.int .i64 (W : Int)) ∧ w'.cell? ⟨D, 2, none⟩ = some (.int .i64 x.st) ∧ w'.cell? ⟨D, 3, none⟩ = some (.slice q1 x.n1 c1) ∧ w'.cell? ⟨D, 4, none⟩ = some (.slice q2 s c2) ∧ w'.cell? ⟨hb, ho + c, none⟩ = some (.int .i64 (h : Int)) ∧ w'.cell? ⟨go, i, none⟩ = some (.slice (some ⟨r i, 0, none⟩) s s) ∧ w'.cell? ⟨go, ga, none⟩ = some (.slice (some ⟨r ga, 0, none⟩) s s) ∧ w'.cell? ⟨r ga, gb, none⟩ = some (.bool b)) := Lib.hid fun w' M' p1 p2 p3 p4 => by
                          obtain ⟨y0, y1, y2, y3, y4⟩ := HK.out _ p1
                          have e1 := HOut.out _ _ p2 i hlti
                          have e2 := HOut.out _ _ p2 ga gA
                          have e3 := (p2.at (i := ga) (j := gb) gA gN).1
                          rw [p4] at e3
                          obtain ⟨hb2, ho2, ee, -, e4⟩ := p3.rd c hltc
                          cases ee
                          simp only at e4
                          rw [hh] at e4
                          exact ⟨y0, y1, y2, y3, y4, e4, e1, e2, e3⟩
                        have HM3 : Hid (∀ w', Below wr.heap.size wr w' → grK (w'.setCell ⟨r i, k, none⟩ (.bool b)) (D + 1) (.slice (some ⟨go, 0, none⟩) s cap) N s r (putG M i k b) ∧ spF (w'.setCell ⟨r i, k, none⟩ (.bool b)) B8 (.slice (some ⟨hb, ho, none⟩) kk hcp) (fun j => (H j : Nat)) kk ∧ Below (D + 1) w1 (w'.setCell ⟨r i, k, none⟩ (.bool b))) := Lib.hid fun w' p =>
                          ⟨(HM.out.below p).put hlti b, (HH.out.below p).far (HRL9.out i hlti).2, (HB.out.trans (p.mono hDr)).setCell (p := ⟨r i, k, none⟩) li1 _⟩
                        have HKS : Hid (∀ w', Below wr.heap.size wr w' → w'.cell? ⟨D, 0, none⟩ = some (.slice q0 259 c0) ∧ w'.cell? ⟨D, 1, none⟩ = some (.int .i64 (W : Int)) ∧ w'.cell? ⟨D, 2, none⟩ = some (.int .i64 x.st) ∧ w'.cell? ⟨D, 3, none⟩ = some (.slice q1 x.n1 c1) ∧ w'.cell? ⟨D, 4, none⟩ = some (.slice q2 s c2) ∧ w'.cell? ⟨hb, ho + c, none⟩ = some (.int .i64 (h : Int)) ∧ w'.cell? ⟨go, i, none⟩ = some (.slice (some ⟨r i, 0, none⟩) s s) ∧ w'.cell? ⟨go, ga, none⟩ = some (.slice (some ⟨r ga, 0, none⟩) s s) ∧ w'.cell? ⟨r ga, gb, none⟩ = some (.bool b)) := Lib.hid fun w' p => HSg.out w' M (HB.out.trans (p.mono hDr)) (HM.out.below p) (HH.out.below p) hb'
                        have HKS2 : Hid (∀ w', Below wr.heap.size wr w' → (w'.setCell ⟨r i, k, none⟩ (.bool b)).cell? ⟨D, 0, none⟩ = some (.slice q0 259 c0) ∧ (w'.setCell ⟨r i, k, none⟩ (.bool b)).cell? ⟨D, 1, none⟩ = some (.int .i64 (W : Int)) ∧ (w'.setCell ⟨r i, k, none⟩ (.bool b)).cell? ⟨D, 2, none⟩ = some (.int .i64 x.st) ∧ (w'.setCell ⟨r i, k, none⟩ (.bool b)).cell? ⟨D, 3, none⟩ = some (.slice q1 x.n1 c1) ∧ (w'.setCell ⟨r i, k, none⟩ (.bool b)).cell? ⟨D, 4, none⟩ = some (.slice q2 s c2) ∧ (w'.setCell ⟨r i, k, none⟩ (.bool b)).cell? ⟨hb, ho + c, none⟩ = some (.int .i64 (h : Int)) ∧ (w'.setCell ⟨r i, k, none⟩ (.bool b)).cell? ⟨go, i, none⟩ = some (.slice (some ⟨r i, 0, none⟩) s s) ∧ (w'.setCell ⟨r i, k, none⟩ (.bool b)).cell? ⟨go, ga, none⟩ = some (.slice (some ⟨r ga, 0, none⟩) s s) ∧ (w'.setCell ⟨r i, k, none⟩ (.bool b)).cell? ⟨r ga, gb, none⟩ = some (.bool b)) := Lib.hid fun w' p => by
                          obtain ⟨p1, p2, p3⟩ := HM3.out w' p
                          refine HSg.out _ _ p3 p1 p2 ?_
                          unfold putG
                          split
                          · split
                            · rfl
                            · exact hb'
                          · exact hb'
                        have HIk : Hid (∀ w', Below wr.heap.size wr w' → w'.cell? ⟨r i, k, none⟩ = some (.bool false) ∧ w'.frozen? ⟨r i, k, none⟩ = false) := Lib.hid fun w' p => by
                          obtain ⟨a1, a2, -, -⟩ := (HM.out.below p).at (i := i) (j := k) hlti kN
                          rw [hu] at a1
                          exact ⟨a1, a2⟩
                        have hGo1 := Lib.hid (fun w' (p : Below wr.heap.size wr w') => HCa.out w' (HB.out.trans (p.mono hDr)))
                        have hGo2 := Lib.hid (fun w' (p : Below wr.heap.size wr w') => HCb.out w' (HB.out.trans (p.mono hDr)))
                        have hB : Below wr.heap.size wr wr.drew := (Below.refl _ _).drew
                        clear HU1 HC1 HU HC hu hh hga hgb hb' HCa HCb gA gB hH HSg HM HH HB
                        go_wp2_with fail
                        go_region_held_law (fun w' => w'.cell? ⟨D, 0, none⟩ = some (.slice q0 259 c0) ∧ w'.cell? ⟨D, 1, none⟩ = some (.int .i64 (W : Int)) ∧ w'.cell? ⟨D, 2, none⟩ = some (.int .i64 x.st) ∧ w'.cell? ⟨D, 3, none⟩ = some (.slice q1 x.n1 c1) ∧ w'.cell? ⟨D, 4, none⟩ = some (.slice q2 s c2) ∧ w'.cell? ⟨hb, ho + c, none⟩ = some (.int .i64 (h : Int)) ∧ w'.cell? ⟨go, i, none⟩ = some (.slice (some ⟨r i, 0, none⟩) s s) ∧ w'.cell? ⟨go, ga, none⟩ = some (.slice (some ⟨r ga, 0, none⟩) s s) ∧ w'.cell? ⟨r ga, gb, none⟩ = some (.bool b))
                          (first | exact HKS.out _ hB | exact HKS2.out _ hB)
                          (first | (go_at_call 24; (with_reducible refine (hGo1.out _ hB).mono ?_); rintro e wc ⟨rfl, hbc⟩; (replace hB := hB.trans (hbc.mono hB.size)); (have ck := (HIk.out _ hB).1); (have fk := (HIk.out _ hB).2); clear hbc) | (go_at_call 24; (with_reducible refine (hGo2.out _ hB).mono ?_); rintro e wc ⟨rfl, hbc⟩; (replace hB := hB.trans (hbc.mono hB.size)); (have ck := (HIk.out _ hB).1); (have fk := (HIk.out _ hB).2); clear hbc))
                        all_goals
                          have HF := Lib.hid (HM3.out _ hB)
                          clear hB
                          go_wp2_with fail
                          go_roundw
                          case rel => exact ⟨c + 1, _, by omega, by go_num, HU2, HC2, Lib.hid HF.out.1, Lib.hid HF.out.2.1, Lib.hid HF.out.2.2⟩
                          case measure => simp [intOf]; omega
                    · obtain hck : c = kk := by omega
                      have dc : decide ((c : Int) < (kk : Int)) = false := decide_eq_false (by omega)
                      have HU2 : Hid (unI x t i (k + 1) M) := Lib.hid (unI_next HU.out (by rw [HNx.out]; exact hlti) (by rw [HNx.out]; exact hltk) (unC_all HHD.out (hck ▸ HC.out)))
                      clear HU HC hu hck
                      go_wp2_with fail
                      go_roundw
                      case rel => exact ⟨k + 1, _, by omega, by go_num, HU2, HM, HH, HB⟩
                      case measure => simp [intOf]; omega
                · obtain hks : k = s := by omega
                  have HU2 : Hid (unI x t (i + 1) 0 M) := Lib.hid (unI_row (by rw [HNx.out, ← hks]; exact HU.out))
                  clear HU hks
                  go_wp2_with fail
                  go_roundw
                  case rel => exact ⟨i + 1, _, by omega, by go_num, HU2, HM, HH, HB⟩
                  case measure => simp [intOf]; omega
            · obtain his : i = s := by omega
              have HU2 : Hid (unI x (t + 1) 0 0 M) := Lib.hid (unI_turn (by rw [HNx.out, ← his]; exact HU.out))
              clear HU his
              go_wp2_with fail
              go_roundw
              case rel => exact ⟨t + 1, _, by omega, by go_num, HU2, HM, HH, HB⟩
              case measure => simp [intOf]; omega
        · obtain hts : t = s := by omega
          have HE : Hid (grd wr w.heap.size (.slice (some ⟨go, 0, none⟩) s cap) N M) := Lib.hid (by
            have h := HM.out
            have e := HNn.out
            subst e
            exact ⟨r, h.mono (by have := HG.out; omega)⟩)
          have HEU : Hid (∀ i k, i < s → k < s → (M i k = true ↔ lnW x i ≠ lnW x k)) := Lib.hid fun i k hi hk => unI_end HX.out (by rw [HNx.out, ← hts]; exact HU.out) (by rw [HNx.out]; exact hi) (by rw [HNx.out]; exact hk)
          have HF : Hid (Below w.heap.size w wr) := Lib.hid (HG.out.symm ▸ HB1.out.trans (HB.out.mono (Nat.le_succ D)))
          clear HM HB HU hts
          go_wp2_with fail
          go_returns
          exact ⟨_, _, rfl, HE.out, HEU.out, HF.out⟩
end Go.Proofs.Ytefpoapbodbenaa
