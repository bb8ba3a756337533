/-
  The walk of the twelfth reference's Comes.
  What the twelfth laws ask of the code: contracts; whether an automaton is small.
-/
import Derived.Test.YtefpoapbodbenaaPk12
import Derived.Test.YtefpoapbodbenaaPk9
import Derived.BigRegion
import Derived.RegionTactic
import Derived.OwnWalk
import Derived.Deep.RegionHeldLaw
namespace Go.Proofs.Ytefpoapbodbenaa
open Go.RowKit

/-- A row of N + 1 bools that the call owns. -/
def bvR (w : World) (base G N : Nat) (T : Nat → Bool) : Prop := w.ownsRow base 4 1 (.slice (some ⟨G, 0, none⟩) (N + 1) (N + 1)) (N + 1) (bvs T N)
theorem bvR.cell {w : World} {base G N : Nat} {T : Nat → Bool} (h : bvR w base G N T) (j : Nat) (hj : j ≤ N) : w.cell? ⟨G, j, none⟩ = some (.bool (T j)) := by
  rw [World.ownsRow.cellAt h j (by omega)]; exact bvs_at T N j hj
theorem bvR.free {w : World} {base G N : Nat} {T : Nat → Bool} (h : bvR w base G N T) (j : Nat) : w.frozen? ⟨G, j, none⟩ = false := World.ownsRow.frozenAt h j
theorem bvR.lt {w : World} {base G N : Nat} {T : Nat → Bool} (h : bvR w base G N T) : base ≤ G ∧ G < w.heap.size := World.ownsRow.lt h G rfl
theorem bvR.put {w : World} {base G N : Nat} {T : Nat → Bool} (h : bvR w base G N T) (j : Nat) (b : Bool) : bvR (w.setCell ⟨G, j, none⟩ (.bool b)) base G N (fun q => if q = j then b else T q) := by
  have := (World.ownsRow.stored h j (.bool b)).1
  unfold bvR
  have e : (bvs T N).set j (.bool b) = bvs (fun q => if q = j then b else T q) N := by
    unfold bvs
    apply List.ext_getElem
    · simp
    · intro i h1 h2
      simp only [List.getElem_set, List.getElem_map, List.getElem_range]
      by_cases h : i = j
      · rw [if_pos h.symm, if_pos h]
      · rw [if_neg (fun e => h e.symm), if_neg h]
  rw [e] at this
  exact this
theorem bvR.same {w : World} {base G N : Nat} {T T' : Nat → Bool} (h : bvR w base G N T) (hT : ∀ j, j ≤ N → T j = T' j) : bvR w base G N T' := by
  have e : bvs T N = bvs T' N := by
    unfold bvs
    exact List.map_congr_left fun i hi => by rw [hT i (by have := List.mem_range.1 hi; omega)]
  unfold bvR at h ⊢
  rw [← e]; exact h
/-- Another row of the call's is written: the grid stays. -/
theorem grK.far {w : World} {base n k G j : Nat} {v : Value} {r : Nat → Nat} {M : Gr} (h : grK w base v n k r M) (hG : ∀ i, i < k → r i ≠ G) (hv : v.ownBlock = none ∨ v.ownBlock ≠ some G) (u : Value) : grK (w.setCell ⟨G, j, none⟩ u) base v n k r M :=
  ⟨h.1.kept (grown_setCell w G j u) hv, fun i hi => (h.2.1 i hi).kept (grown_setCell w G j u) (.inr (by simpa [Value.ownBlock] using hG i hi)), h.2.2⟩
/-- A row so far: the state itself, and where its first y symbols lead. -/
def edJ (x : Da) (s y : Nat) (q : Nat) : Bool := q == s || (List.range y).any fun z => goD x s z == q
theorem edJ_zero (x : Da) (s q : Nat) : edJ x s 0 q = (q == s) := by simp [edJ]
theorem edJ_succ (x : Da) (s y q : Nat) : (if q = goD x s y then true else edJ x s y q) = edJ x s (y + 1) q := by
  unfold edJ
  rw [List.range_succ, List.any_append]
  by_cases h : q = goD x s y
  · subst h; simp
  · rw [if_neg h]
    have : (goD x s y == q) = false := by rw [beq_eq_false_iff_ne]; exact fun e => h e.symm
    simp [this]
theorem edJ_end (x : Da) (s q : Nat) : edJ x s 259 q = edD x s q := by
  unfold edJ edD
  congr 1
  rw [Bool.eq_iff_iff, beq_iff_eq, beq_iff_eq]
  exact eq_comm
theorem grK.drew {w : World} {base n k : Nat} {v : Value} {r : Nat → Nat} {M : Gr} (h : grK w base v n k r M) : grK w.drew base v n k r M := ⟨h.1.drew, fun i hi => (h.2.1 i hi).drew, h.2.2⟩
/-- Within round m: the rows ahead of i are done, of row i the first k places. -/
def mI (E : Nat → Nat → Bool) (m i k : Nat) : Gr := fun a b => if a < i ∨ (a = i ∧ b < k) then wsh E (m + 1) a b else wsh E m a b
theorem mI_zero (E : Nat → Nat → Bool) (m a b : Nat) : mI E m 0 0 a b = wsh E m a b := by unfold mI; rw [if_neg (by omega)]
theorem mI_all {E : Nat → Nat → Bool} {m n a b : Nat} (h : a < n) : mI E m n 0 a b = wsh E (m + 1) a b := by unfold mI; rw [if_pos (.inl h)]
theorem mI_im (E : Nat → Nat → Bool) (m i k : Nat) : mI E m i k i m = wsh E m i m := by
  unfold mI
  split
  · exact wsh_col
  · rfl
theorem mI_mk (E : Nat → Nat → Bool) (m i k : Nat) : mI E m i k m k = wsh E m m k := by
  unfold mI
  split
  · exact wsh_row
  · rfl
theorem mI_ik (E : Nat → Nat → Bool) (m i k : Nat) : mI E m i k i k = wsh E m i k := by unfold mI; rw [if_neg (by omega)]
theorem mI_put {E : Nat → Nat → Bool} {m i k : Nat} (h : wsh E m i m = true) (a b : Nat) : putG (mI E m i k) i k (wsh E m i k || wsh E m m k) a b = mI E m i (k + 1) a b := by
  unfold putG
  by_cases ha : a = i
  · subst ha
    rw [if_pos rfl]
    by_cases hb : b = k
    · subst hb
      rw [if_pos rfl]
      unfold mI
      rw [if_pos (.inr ⟨rfl, Nat.lt_succ_self b⟩)]
      show _ = (wsh E m a b || (wsh E m a m && wsh E m m b))
      rw [h, Bool.true_and]
    · rw [if_neg hb]
      unfold mI
      have hc : b < k ↔ b < k + 1 := by omega
      simp only [hc]
  · rw [if_neg ha]
    unfold mI
    have : (a < i ∨ (a = i ∧ b < k)) ↔ (a < i ∨ (a = i ∧ b < k + 1)) := by omega
    simp only [this]
theorem mI_next {E : Nat → Nat → Bool} {m i n : Nat} (a b : Nat) (hb : b < n) : mI E m i n a b = mI E m (i + 1) 0 a b := by
  unfold mI
  have : (a < i ∨ (a = i ∧ b < n)) ↔ (a < i + 1 ∨ (a = i + 1 ∧ b < 0)) := by omega
  simp only [this]
theorem mI_skip {E : Nat → Nat → Bool} {m i : Nat} (h : wsh E m i m = false) (a b : Nat) : mI E m i 0 a b = mI E m (i + 1) 0 a b := by
  unfold mI
  by_cases ha : a = i
  · subst ha
    rw [if_neg (by omega), if_pos (.inl (Nat.lt_succ_self a))]
    show _ = (wsh E m a b || (wsh E m a m && wsh E m m b))
    rw [h, Bool.false_and, Bool.or_false]
  · have : (a < i ∨ (a = i ∧ b < 0)) ↔ (a < i + 1 ∨ (a = i + 1 ∧ b < 0)) := by omega
    simp only [this]

set_option maxRecDepth 100000 in
set_option maxHeartbeats 20000000 in
theorem comes12 (v : Value) (x : Da) (hx : rgD x) (h1 : x.n1 ≤ 100000) (h2 : x.n2 ≤ 1000) (N : Nat) (hN : x.n2 = N + 1) (w : World) (hd : daAt w v x) :
    Calls Try.prog 44 #[v] w fun e w' => ∃ v', e = .returned v' ∧ grd w' w.heap.size v' N (wsh (edD x) (N + 1)) ∧ Below w.heap.size w w' := by
  obtain ⟨D, hD⟩ : ∃ D, w.heap.size = D := ⟨_, rfl⟩
  obtain ⟨q0, c0, q1, c1, q2, c2, rfl, hr0, hr1, -⟩ := hd
  obtain ⟨w1, hw1⟩ : ∃ w1, w.alloc (.cells #[.slice q0 x.n0 c0, .int .i64 x.wd, .int .i64 x.st, .slice q1 x.n1 c1, .slice q2 x.n2 c2] 25) = w1 := ⟨_, rfl⟩
  have hz1 : w1.heap.size = D + 1 := by rw [← hw1, World.size_alloc, hD]
  have hb1 : Below D w w1 := hw1 ▸ (Below.refl _ _).alloc (by omega) _
  have hk1 : isDf w1 D q0 x.n0 c0 x.wd x.st q1 x.n1 c1 q2 x.n2 c2 := hw1 ▸ hD ▸ heap_alloc_new w _
  have HK := Lib.hid (fun w' (h : Below (D + 1) w1 w') => (hk1.below h (Nat.lt_succ_self D)).cells)
  have HR0 := Lib.hid (fun w' (h : Below (D + 1) w1 w') => hr0.below (hD.symm ▸ hb1.trans (h.mono (Nat.le_succ D))))
  have HR1 := Lib.hid (fun w' (h : Below (D + 1) w1 w') => hr1.below (hD.symm ▸ hb1.trans (h.mono (Nat.le_succ D))))
  have HW1 := Lib.hid hw1; have HG := Lib.hid hD; have HB1 := Lib.hid hb1; have HZ := Lib.hid hz1
  have hn0 : x.n0 = 259 := hx.1
  obtain ⟨W, hW⟩ : ∃ W : Nat, x.wd = W := ⟨x.wd.toNat, by have := hx.2.1; omega⟩
  have hWl : W ≤ 259 := by have := hx.2.2.1; omega
  have HGA := Lib.hid (fun s y (hs : s < x.n2) (hy : y < 259) => goD_at hx hs hy)
  have HC0 := Lib.hid (fun y (hy : y < 259) => (hx.2.2.2.2.2.2.2.2.1 y hy).1)
  have HWW := Lib.hid hW
  have HN2 := Lib.hid hN
  obtain ⟨y0, y1, y2, y3, y4⟩ := hk1.cells
  obtain ⟨n, hn⟩ : ∃ n, N + 1 = n := ⟨_, rfl⟩
  rw [hn] at hN
  rw [hn0] at HK HR0 ⊢
  rw [hW] at HK ⊢
  rw [hN] at HK HGA ⊢
  rw [hn0, hW, hN] at HW1
  rw [hn0] at y0
  rw [hW] at y1
  rw [hN] at y4 h2
  have HNn := Lib.hid hn
  have n0 : (0 : Int) ≤ (n : Int) := by omega
  have n1 : (n : Int) ≤ 1000 := by omega
  have HG0 : Hid (grK w1 (D + 1) (.slice none 0 0) N 0 (fun _ => 0) (edD x)) := Lib.hid ⟨World.ownsRow_nil _ _ _ _, fun i h => by omega, fun i j h => by omega⟩
  have HBs : Hid (Below (D + 1) w1 w1) := Lib.hid (Below.refl _ _)
  obtain ⟨ib, hib, hb0, hb1', hb2⟩ := info_parts infoB7
  obtain ⟨io, hio, ho0, ho1, ho2⟩ := info_parts infoRowB
  clear hw1 hk1 hr0 hr1 hb1 hx hn0 hW hN hn
  go_enter Try.func44, Try.ntmps44
  go_upto_region 1 with (fail)
  rw [HW1.out]
  clear hD hz1
  go_wp2_with fail
  clear y0 y1 y2 y3 y4
  go_loopw [4, 5] (fun ov sv wr => ∃ (s : Nat) (r : Nat → Nat) (vn : Value), s ≤ n ∧ sv = .int .i64 s ∧ vn = ov ∧ Hid (grK wr (D + 1) vn N s r (edD x)) ∧ Hid (Below (D + 1) w1 wr)) (fun _ sv _ => n - (intOf sv).toNat)
  case atStart => exact ⟨0, _, _, Nat.zero_le _, rfl, rfl, HG0, HBs⟩
  case round =>
    clear HG0 HBs
    obtain ⟨s, r, vn, hs, rfl, rfl, HGr, HB⟩ := hrel
    by_cases hlt : s < n
    · have i0 : (0 : Int) ≤ (s : Int) := by omega
      have i1 : (s : Int) < (n : Int) := by omega
      have m1 : Hid (io.bytes = 24 ∧ (1 : Nat) * n ≤ 281474976710656) := Lib.hid ⟨ho2, by omega⟩
      have m2 : Hid (n ≤ maxLen) := Lib.hid (by unfold maxLen; omega)
      have hBs : D + 1 ≤ wr.heap.size := by have := HB.out.size; have := HZ.out; omega
      go_wp2_with (refine wpList_make_full _ rfl _ _ 23 rfl (D + 1) 4 ib (.bool false) 1 Try.underlying23 hib hb0 hb1' .i64 .i64 (n : Int) (n : Int) n rfl rfl (by omega) (by omega) (by rw [hb2]; exact m1.out.2) m2.out hBs ?_)
      intro w4 hmk hg4
      obtain ⟨G, hG⟩ : ∃ G, wr.heap.size = G := ⟨_, rfl⟩
      rw [hG] at hmk ⊢
      have hmk2 : bvR w4 (D + 1) G N (fun _ => false) := by
        have e := HNn.out
        subst e
        unfold bvR
        rw [← made_none]
        exact hmk
      have hb4 : Below (D + 1) w1 w4 := HB.out.grown hg4 hBs (fun r hr => by cases hr)
      have hgr4 : grK w4 (D + 1) vn N s r (edD x) := ⟨HGr.out.1.kept hg4 (Classical.em _), fun i hi => (HGr.out.2.1 i hi).kept hg4 (Classical.em _), HGr.out.2.2⟩
      have hrl : ∀ i, i < s → r i ≠ G := fun i hi e => by have := ((HGr.out.2.1 i hi).lt (r i) rfl).2; omega
      have hvb : vn.ownBlock = none ∨ vn.ownBlock ≠ some G := by
        rcases id HGr.out.1.2 with ⟨e, _⟩ | ⟨g, cap, cur, e, _⟩
        · rw [e]; exact .inl rfl
        · right
          have hl := HGr.out.1.lt g (by rw [e]; rfl)
          rw [e]
          simp [Value.ownBlock]
          omega
      have hsN : s ≤ N := by have := HNn.out; omega
      have f0 := hmk2.free s
      have g0 := hmk2.cell s hsN
      have HT5 : Hid (bvR (w4.setCell ⟨G, s, none⟩ (.bool true)) (D + 1) G N (edJ x s 0)) := Lib.hid ((hmk2.put s true).same fun j _ => by rw [edJ_zero]; by_cases e : j = s <;> simp [e])
      have HG5 : Hid (grK (w4.setCell ⟨G, s, none⟩ (.bool true)) (D + 1) vn N s r (edD x)) := Lib.hid (hgr4.far hrl hvb _)
      have HB5 : Hid (Below (D + 1) w1 (w4.setCell ⟨G, s, none⟩ (.bool true))) := Lib.hid (hb4.setCell (p := ⟨G, s, none⟩) hmk2.lt.1 _)
      have HRL := Lib.hid hrl; have HVB := Lib.hid hvb; have HGl := Lib.hid hmk2.lt.1
      clear hmk hmk2 hg4 hb4 hgr4 hrl hvb HGr HB hG m1 m2
      go_wp2_with fail
      go_loopw [7] (fun yv wx => ∃ y : Nat, y ≤ 259 ∧ yv = .int .i64 y ∧ Hid (bvR wx (D + 1) G N (edJ x s y)) ∧ Hid (grK wx (D + 1) vn N s r (edD x)) ∧ Hid (Below (D + 1) w1 wx)) (fun yv _ => 259 - (intOf yv).toNat)
      case atStart => exact ⟨0, Nat.zero_le _, rfl, HT5, HG5, HB5⟩
      case round =>
        clear HT5 HG5 HB5
        obtain ⟨y, hy, rfl, HT, HGr, HB⟩ := hrel
        by_cases hlty : y < 259
        · have j0 : (0 : Int) ≤ (y : Int) := by omega
          have j1 : (y : Int) < 259 := by omega
          obtain ⟨g1, g2, g3⟩ := HGA.out s y hlt hlty
          obtain ⟨y0, y1, y2, y3, y4⟩ := HK.out _ HB.out
          obtain ⟨b0, o0, rfl, -, k0⟩ := HR0.out _ HB.out y hlty
          obtain ⟨b1, o1, rfl, -, k1⟩ := HR1.out _ HB.out _ g1
          rw [HWW.out, Int.toNat_natCast] at g1 k1
          have hcc := HC0.out y hlty
          obtain ⟨C, hC⟩ : ∃ C : Nat, x.l0 y = C := ⟨(x.l0 y).toNat, by omega⟩
          have hgd : x.l1 (s * W + C) = (goD x s y : Nat) := by
            unfold goD
            rw [HWW.out, Int.toNat_natCast, hC, Int.toNat_natCast]
            have := g2
            rw [HWW.out, Int.toNat_natCast, hC, Int.toNat_natCast] at this
            omega
          rw [hC] at k0
          rw [hC, Int.toNat_natCast] at g1 k1
          rw [hgd] at k1
          obtain ⟨p, hp⟩ : ∃ p, s * W = p := ⟨_, rfl⟩
          have hmul : (s : Int) * (W : Int) = (p : Int) := by rw [← hp]; simp
          rw [hp] at g1 k1
          have p0 : (0 : Int) ≤ (p : Int) := by omega
          have p1 : (p : Int) + (C : Int) < (x.n1 : Int) := by omega
          have p2 : (0 : Int) ≤ (p : Int) + (C : Int) := by omega
          have p3 : (x.n1 : Int) ≤ 100000 := by omega
          have p4 : ((p : Int) + (C : Int)).toNat = p + C := by omega
          obtain ⟨gt, hgt⟩ : ∃ gt, goD x s y = gt := ⟨_, rfl⟩
          have hes := fun q => edJ_succ x s y q
          rw [hgt] at k1 g3 hes
          have u0 : (0 : Int) ≤ (gt : Int) := by omega
          have u1 : (gt : Int) < (n : Int) := by omega
          have f0 := HT.out.free gt
          have c0' := HT.out.cell gt (by have := HNn.out; omega)
          have HT2 : Hid (bvR (wr.setCell ⟨G, gt, none⟩ (.bool true)) (D + 1) G N (edJ x s (y + 1))) := Lib.hid ((HT.out.put gt true).same fun j _ => hes j)
          have HG2 : Hid (grK (wr.setCell ⟨G, gt, none⟩ (.bool true)) (D + 1) vn N s r (edD x)) := Lib.hid (HGr.out.far HRL.out HVB.out _)
          have HB2 : Hid (Below (D + 1) w1 (wr.setCell ⟨G, gt, none⟩ (.bool true))) := Lib.hid (HB.out.setCell (p := ⟨G, gt, none⟩) HGl.out _)
          clear hC hp hcc g1 g2 hgd hgt hes HT HGr
          go_wp2_with fail
          go_region
          all_goals
            have HB3 := Lib.hid HB2.out.drew
            have HT3 : Hid (bvR (wr.setCell ⟨G, gt, none⟩ (.bool true)).drew (D + 1) G N (edJ x s (y + 1))) := Lib.hid (World.ownsRow.drew HT2.out)
            have HG3 := Lib.hid HG2.out.drew
            clear HB2 HT2 HG2
            go_wp2_with fail
            go_roundw
            case rel => exact ⟨y + 1, by omega, by go_num, HT3, HG3, HB3⟩
            case measure => simp [intOf]; omega
        · obtain rfl : y = 259 := by omega
          have HAL : Hid (Below wr.heap.size wr (wr.alloc (.cells #[.slice (some ⟨G, 0, none⟩) n n] 23))) := Lib.hid ((Below.refl _ _).alloc (Nat.le_refl _) _)
          have HT2 : Hid (bvR (wr.alloc (.cells #[.slice (some ⟨G, 0, none⟩) n n] 23)) (D + 1) G N (edD x s)) := Lib.hid (owns_below (HT.out.same fun j _ => edJ_end x s j) HAL.out)
          have HG2 := Lib.hid (HGr.out.below HAL.out)
          have hBw : D + 1 ≤ wr.heap.size := by have := HB.out.size; have := HZ.out; omega
          have HB2 : Hid (Below (D + 1) w1 (wr.alloc (.cells #[.slice (some ⟨G, 0, none⟩) n n] 23))) := Lib.hid (HB.out.trans (HAL.out.mono hBw))
          have H63 : Hid (s + 1 ≤ maxLen) := Lib.hid (by unfold maxLen; omega)
          have H48 : Hid ((s + 1) * 24 ≤ 140737488355328) := Lib.hid (by omega)
          clear HT HGr HB HAL
          go_wp2_with (at_builtin; refine wpList_append_own _ rfl _ _ 82 rfl (D + 1) 23 io (.slice none 0 0) 1 24 Try.underlying82 hio ho0 ho1 ho2 rfl (by decide) vn s (rowVals r N s) rfl HG2.out.1 ⟨wr.heap.size, 0, none⟩ 1 1 [.slice (some ⟨G, 0, none⟩) n n] rfl rfl ?c2 ?c3 H63.out H48.out ?c5 ?_)
          case c2 =>
            intro j u hj
            match j, hj with
            | 0, hj => simp at hj; subst hj; simp [Addr.add]
          case c3 => intro u hu; simp at hu; subst hu; rfl
          case c5 => simp; omega
          intro v' w5 hown5 hgrow _
          have HB5 : Hid (Below (D + 1) w1 w5) := Lib.hid (HB2.out.grown hgrow (by simp; omega) fun r hr => (HG2.out.1.lt r hr).1)
          have HG5 : Hid (grK w5 (D + 1) v' N (s + 1) (fun i => if i = s then G else r i) (edD x)) := Lib.hid (by
            refine ⟨?_, ?_, ?_⟩
            · rw [rowVals_succ, rowVals_same N (r := fun i => if i = s then G else r i) (r' := r) (fun i hi' => by rw [if_neg (by omega)]), if_pos rfl]
              have e := HNn.out
              subst e
              exact hown5
            · intro i hi'
              show w5.ownsRow (D + 1) 4 1 (.slice (some ⟨if i = s then G else r i, 0, none⟩) (N + 1) (N + 1)) (N + 1) (bvs (edD x i) N)
              by_cases hik : i = s
              · rw [if_pos hik, hik]
                exact World.ownsRow.kept HT2.out hgrow (rows_apt7 HT2.out HG2.out.1 (by decide))
              · rw [if_neg hik]
                exact (HG2.out.2.1 i (by omega)).kept hgrow (rows_apt7 (HG2.out.2.1 i (by omega)) HG2.out.1 (by decide))
            · intro i j hi' hj' he
              simp only at he
              by_cases hik : i = s
              · by_cases hjk : j = s
                · omega
                · rw [if_pos hik, if_neg hjk] at he
                  exact absurd he.symm (HRL.out j (by omega))
              · by_cases hjk : j = s
                · rw [if_neg hik, if_pos hjk] at he
                  exact absurd he (HRL.out i (by omega))
                · rw [if_neg hik, if_neg hjk] at he
                  exact HG2.out.2.2 i j (by omega) (by omega) he)
          clear hown5 hgrow HT2 HG2 HB2 HRL HVB
          go_wp2_with fail
          go_roundw
          case rel => exact ⟨s + 1, _, _, by omega, by go_num, rfl, HG5, HB5⟩
          case measure => simp [intOf]; omega
    · obtain rfl : s = n := by omega
      obtain ⟨go, cap, rfl, hgB, hgl, -⟩ : ∃ go cap, vn = .slice (some ⟨go, 0, none⟩) s cap ∧ D + 1 ≤ go ∧ go < wr.heap.size ∧ True := by
        have h := HGr.out
        have e := HNn.out
        subst e
        obtain ⟨go, cap, e2, h1, h2, -⟩ := h.outer
        exact ⟨go, cap, e2, h1, h2, trivial⟩
      have HOut : Hid (∀ w' (M : Gr), grK w' (D + 1) (.slice (some ⟨go, 0, none⟩) s cap) N s r M → ∀ i, i < s → w'.cell? ⟨go, i, none⟩ = some (.slice (some ⟨r i, 0, none⟩) s s)) := Lib.hid fun w' M h i hi => by
        have e := HNn.out
        subst e
        obtain ⟨go', cap', hv, -, -, hco⟩ := h.outer
        simp only [Value.slice.injEq, Option.some.injEq, Addr.mk.injEq, and_true, true_and] at hv
        obtain ⟨rfl, rfl⟩ := hv
        exact hco i hi
      have HM0 : Hid (grK wr (D + 1) (.slice (some ⟨go, 0, none⟩) s cap) N s r (wsh (edD x) 0)) := Lib.hid HGr.out
      have HB0 := HB
      clear HGr HB
      go_wp2_with fail
      go_loopw [8] (fun mv wr => ∃ m : Nat, m ≤ s ∧ mv = .int .i64 m ∧ Hid (grK wr (D + 1) (.slice (some ⟨go, 0, none⟩) s cap) N s r (wsh (edD x) m)) ∧ Hid (Below (D + 1) w1 wr)) (fun mv _ => s - (intOf mv).toNat)
      case atStart => exact ⟨0, Nat.zero_le _, rfl, HM0, HB0⟩
      case round =>
        clear HM0 HB0
        obtain ⟨m, hm, rfl, HM, HB⟩ := hrel
        by_cases hltm : m < s
        · have i0 : (0 : Int) ≤ (m : Int) := by omega
          have i1 : (m : Int) < (s : Int) := by omega
          have HI0 : Hid (grK wr (D + 1) (.slice (some ⟨go, 0, none⟩) s cap) N s r (mI (edD x) m 0 0)) := Lib.hid (HM.out.same fun a b _ _ => (mI_zero (edD x) m a b).symm)
          clear HM
          go_wp2_with fail
          go_loopw [9] (fun iv wr => ∃ i : Nat, i ≤ s ∧ iv = .int .i64 i ∧ Hid (grK wr (D + 1) (.slice (some ⟨go, 0, none⟩) s cap) N s r (mI (edD x) m i 0)) ∧ Hid (Below (D + 1) w1 wr)) (fun iv _ => s - (intOf iv).toNat)
          case atStart => exact ⟨0, Nat.zero_le _, rfl, HI0, HB⟩
          case round =>
            clear HI0 HB
            obtain ⟨i, hi, rfl, HI, HB⟩ := hrel
            by_cases hlti : i < s
            · have j0 : (0 : Int) ≤ (i : Int) := by omega
              have j1 : (i : Int) < (s : Int) := by omega
              obtain ⟨u, hu⟩ : ∃ u, wsh (edD x) m i m = u := ⟨_, rfl⟩
              have HU := Lib.hid hu
              clear hu
              go_wp2_with fail
              go_loopw [10] (fun kv wr => ∃ k : Nat, k ≤ s ∧ kv = .int .i64 k ∧ Hid (u = false → k = 0) ∧ Hid (grK wr (D + 1) (.slice (some ⟨go, 0, none⟩) s cap) N s r (mI (edD x) m i k)) ∧ Hid (Below (D + 1) w1 wr)) (fun kv _ => s - (intOf kv).toNat)
              case atStart => exact ⟨0, Nat.zero_le _, rfl, Lib.hid fun _ => rfl, HI, HB⟩
              case round =>
                clear HI HB
                obtain ⟨k, hk, rfl, HK0, HI, HB⟩ := hrel
                have mN : m ≤ N := by have := HNn.out; omega
                by_cases hltk : k < s
                · have k0 : (0 : Int) ≤ (k : Int) := by omega
                  have k1 : (k : Int) < (s : Int) := by omega
                  have dk : decide ((k : Int) < (s : Int)) = true := decide_eq_true k1
                  have kN : k ≤ N := by have := HNn.out; omega
                  have ci := HOut.out _ _ HI.out i hlti
                  have cm := HOut.out _ _ HI.out m hltm
                  obtain ⟨ai, fi, li1, li2⟩ := HI.out.at (i := i) (j := m) hlti mN
                  rw [mI_im, HU.out] at ai
                  cases u with
                  | false =>
                    have hk0 : k = 0 := HK0.out rfl
                    have HI2 : Hid (grK wr (D + 1) (.slice (some ⟨go, 0, none⟩) s cap) N s r (mI (edD x) m (i + 1) 0)) := Lib.hid (by have h := HI.out; rw [hk0] at h; exact h.same fun a b _ _ => mI_skip HU.out a b)
                    clear hk0 HI
                    go_wp2_with fail
                    go_roundw
                    case rel => exact ⟨i + 1, by omega, by go_num, HI2, HB⟩
                    case measure => simp [intOf]; omega
                  | true =>
                    obtain ⟨bk, fk, -, -⟩ := HI.out.at (i := i) (j := k) hlti kN
                    obtain ⟨bm, -, -, -⟩ := HI.out.at (i := m) (j := k) hltm kN
                    rw [mI_ik] at bk
                    rw [mI_mk] at bm
                    have hp := fun a b => mI_put (k := k) HU.out a b
                    obtain ⟨p, hpe⟩ : ∃ p, wsh (edD x) m i k = p := ⟨_, rfl⟩
                    obtain ⟨q, hqe⟩ : ∃ q, wsh (edD x) m m k = q := ⟨_, rfl⟩
                    rw [hpe, hqe] at hp
                    rw [hpe] at bk
                    rw [hqe] at bm
                    have HI2 : Hid (grK (wr.setCell ⟨r i, k, none⟩ (.bool (p || q))) (D + 1) (.slice (some ⟨go, 0, none⟩) s cap) N s r (mI (edD x) m i (k + 1))) := Lib.hid ((HI.out.put (i := i) (j := k) hlti (p || q)).same fun a b _ _ => hp a b)
                    have HB2 : Hid (Below (D + 1) w1 (wr.setCell ⟨r i, k, none⟩ (.bool (p || q)))) := Lib.hid (HB.out.setCell (p := ⟨r i, k, none⟩) li1 _)
                    have HK2 : Hid (true = false → k + 1 = 0) := Lib.hid fun h => by cases h
                    clear hp hpe hqe HI
                    cases p with
                    | true =>
                      have HI3 : Hid (grK (wr.setCell ⟨r i, k, none⟩ (.bool true)).drew (D + 1) (.slice (some ⟨go, 0, none⟩) s cap) N s r (mI (edD x) m i (k + 1))) := Lib.hid HI2.out.drew
                      have HB3 : Hid (Below (D + 1) w1 (wr.setCell ⟨r i, k, none⟩ (.bool true)).drew) := Lib.hid HB2.out.drew
                      clear HI2 HB2
                      go_wp2_with fail
                      go_region
                      all_goals
                        go_wp2_with fail
                        go_roundw
                        case rel => exact ⟨k + 1, by omega, by go_num, HK2, HI3, HB3⟩
                        case measure => simp [intOf]; omega
                    | false =>
                      have HI3 : Hid (grK (wr.setCell ⟨r i, k, none⟩ (.bool q)).drew (D + 1) (.slice (some ⟨go, 0, none⟩) s cap) N s r (mI (edD x) m i (k + 1))) := Lib.hid HI2.out.drew
                      have HB3 : Hid (Below (D + 1) w1 (wr.setCell ⟨r i, k, none⟩ (.bool q)).drew) := Lib.hid HB2.out.drew
                      clear HI2 HB2
                      go_wp2_with fail
                      go_region
                      all_goals
                        go_wp2_with fail
                        go_roundw
                        case rel => exact ⟨k + 1, by omega, by go_num, HK2, HI3, HB3⟩
                        case measure => simp [intOf]; omega
                · obtain hks : k = s := by omega
                  have dk : decide ((k : Int) < (s : Int)) = false := decide_eq_false (by omega)
                  have HI2 : Hid (grK wr (D + 1) (.slice (some ⟨go, 0, none⟩) s cap) N s r (mI (edD x) m (i + 1) 0)) := Lib.hid (HI.out.same fun a b _ hb => by rw [hks]; exact mI_next a b (by have := HNn.out; omega))
                  clear HI hks
                  go_wp2_with fail
                  go_roundw
                  case rel => exact ⟨i + 1, by omega, by go_num, HI2, HB⟩
                  case measure => simp [intOf]; omega
            · obtain his : i = s := by omega
              have HM2 : Hid (grK wr (D + 1) (.slice (some ⟨go, 0, none⟩) s cap) N s r (wsh (edD x) (m + 1))) := Lib.hid (HI.out.same fun a b ha _ => by rw [his]; exact mI_all ha)
              subst his
              clear HI
              go_wp2_with fail
              go_roundw
              case rel => exact ⟨m + 1, by omega, by go_num, HM2, HB⟩
              case measure => simp [intOf]; omega
        · obtain rfl : m = s := by omega
          have HE : Hid (grd wr w.heap.size (.slice (some ⟨go, 0, none⟩) m cap) N (wsh (edD x) (N + 1))) := Lib.hid (by
            have h := HM.out
            have e := HNn.out
            subst e
            exact ⟨r, h.mono (by have := HG.out; omega)⟩)
          have HF : Hid (Below w.heap.size w wr) := Lib.hid (HG.out.symm ▸ HB1.out.trans (HB.out.mono (Nat.le_succ D)))
          clear HM HB
          go_wp2_with fail
          go_returns
          exact ⟨_, rfl, HE.out, HF.out⟩
end Go.Proofs.Ytefpoapbodbenaa

namespace Go.Proofs.Ytefpoapbodbenaa
open Go.RowKit

def smD (x : Da) : Prop := x.n0 ≤ 10000 ∧ x.n1 ≤ 100000 ∧ x.n2 ≤ 1000
def rdPost (Y : Prop) (n2 : Nat) (P : Nat → Prop) (w : World) (e : Ending) (w' : World) : Prop :=
  ∃ p n c T, e = .returned (.slice p n c) ∧ rdBs w' p n T ∧ (¬ Y → n = 0) ∧ (Y → n = n2 ∧ ∀ s, s < n → (T s = true ↔ P s)) ∧ Below w.heap.size w w'
/-- dfa.Live, dfa.Reach. -/
def LivD : Prop := ∀ (v : Value) (x : Da) (w : World), smD x → daAt w v x → Calls Try.prog 22 #[v] w (rdPost (rgD x) x.n2 (fun s => ∃ k, k < x.n2 ∧ rtE (edD x) s k ∧ x.T k = true) w)
def RchD : Prop := ∀ (v : Value) (x : Da) (w : World), smD x → daAt w v x → Calls Try.prog 55 #[v] w (rdPost (rgD x) x.n2 (fun s => rtE (edD x) x.st.toNat s) w)
def RigD : Prop := ∀ (v : Value) (x : Da) (w : World), smD x → daAt w v x → Calls Try.prog 18 #[v] w fun e w' => e = .returned (.bool (rgB x)) ∧ Below w.heap.size w w'
def RunD : Prop := ∀ (v : Value) (x : Da) (s : Int) (q : Option Addr) (k c : Nat) (l : Nat → Int) (w : World), smD x → k ≤ 10000 → daAt w v x → rdL w q k l →
  Calls Try.prog 26 #[v, .int .i64 s, .slice q k c] w fun e w' => e = .returned (.int .i64 (rnD x s l k)) ∧ Below w.heap.size w w'
noncomputable def acD (x : Da) (l : Nat → Int) (k : Nat) : Bool := @decide (0 ≤ rnD x x.st l k ∧ x.T (rnD x x.st l k).toNat = true) (Classical.propDecidable _)
def AccD : Prop := ∀ (v : Value) (x : Da) (q : Option Addr) (k c : Nat) (l : Nat → Int) (w : World), smD x → k ≤ 10000 → daAt w v x → rdL w q k l →
  Calls Try.prog 14 #[v, .slice q k c] w fun e w' => e = .returned (.bool (acD x l k)) ∧ Below w.heap.size w w'

end Go.Proofs.Ytefpoapbodbenaa
