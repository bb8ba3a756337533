/-
  The walk of nfa.Fits.
-/
import Derived.Test.YtdhplphgackjaaaPk44
import Derived.Test.YtdhplphgackjaaaPk26
namespace Go.Proofs.Ytdhplphgackjaaa
open Go.RowKit

theorem runF_last (S : Nat → Sd) (tx : Nat → Nat) : ∀ k i P, runF S tx i (k + 1) P = Cl S 0 (By S (tx (i + k)) (runF S tx i k P))
  | 0, _, _ => rfl
  | k + 1, i, P => by
    show runF S tx (i + 1) (k + 1) _ = _
    rw [runF_last S tx k (i + 1) _, show i + 1 + k = i + (k + 1) by omega]; rfl
/-- A list that tells just P, rising. -/
def atP (m : Nat) (P : Nat → Prop) (w : World) (p : Option Addr) (A : List Nat) : Prop := rdL w p A.length (tlA A m) ∧ okA9 m A ∧ ∀ q, q ∈ A ↔ P q
theorem atP.below {m : Nat} {P : Nat → Prop} {w w' : World} {p : Option Addr} {A : List Nat} (h : atP m P w p A) (hb : Below w.heap.size w w') : atP m P w' p A := ⟨h.1.below hb, h.2⟩
theorem atP.mem {m : Nat} {P : Nat → Prop} {w : World} {p : Option Addr} {A : List Nat} (h : atP m P w p A) (q : Nat) : (∃ i, i < A.length ∧ tlA A m i = (q : Int)) ↔ P q := by
  rw [← h.2.2 q]
  have hl : (trs (memW A) m).length = A.length := (okA_len h.2.1).symm
  have hmem : q ∈ A ↔ q ∈ trs (memW A) m := (okA_perm h.2.1).mem_iff.symm
  rw [hmem]
  unfold tlA
  constructor
  · rintro ⟨i, h1, h2⟩
    have h2' : (trs (memW A) m).getD i 0 = q := by omega
    rw [← h2', List.getD_eq_getElem?_getD, List.getElem?_eq_getElem (by omega)]
    exact List.getElem_mem (by omega)
  · intro g
    obtain ⟨i, hi⟩ := List.mem_iff_getElem?.1 g
    have hil : i < (trs (memW A) m).length := by
      rcases Nat.lt_or_ge i (trs (memW A) m).length with h | h
      · exact h
      · rw [List.getElem?_eq_none h] at hi; cases hi
    refine ⟨i, by omega, ?_⟩
    rw [List.getD_eq_getElem?_getD, hi]
    rfl
theorem atP.rd {m : Nat} {P : Nat → Prop} {w : World} {p : Option Addr} {A : List Nat} (h : atP m P w p A) : rdL w p A.length (tlA A m) := h.1
theorem atP.con {m : Nat} {P : Nat → Prop} {w : World} {p : Option Addr} {A : List Nat} (h : atP m P w p A) (F : Nat) : memW A F = true ↔ ∃ i, i < A.length ∧ tlA A m i = (F : Int) := by
  rw [h.mem F]; unfold memW; rw [decide_eq_true_eq]; exact h.2.2 F
theorem atP.len {m : Nat} {P : Nat → Prop} {w : World} {p : Option Addr} {A : List Nat} (h : atP m P w p A) (hm : m ≤ 600) : A.length ≤ 100000 := by have := okA_le h.2.1; omega
theorem atP.nmd {m : Nat} {P : Nat → Prop} {w : World} {p : Option Addr} {A : List Nat} (h : atP m P w p A) : nmd m A.length (tlA A m) = P := by
  funext q
  apply propext
  constructor
  · rintro ⟨h1, h2⟩; exact (h.mem q).1 h2
  · intro g
    have hq := h.2.1.2 q ((h.2.2 q).2 g)
    exact ⟨hq, (h.mem q).2 g⟩
theorem emp9_of {s : ByteArray} (h : s.size = 0) : s.toList.isEmpty = true := by
  rw [ByteArray.toList_eq]
  have : s.data.toList.length = 0 := by simpa using h
  rw [List.length_eq_zero_iff.1 this]; rfl
theorem emp9_not {s : ByteArray} (h : s.size ≠ 0) : s.toList.isEmpty = false := by
  rw [ByteArray.toList_eq]
  have : s.data.toList.length ≠ 0 := by simpa using h
  cases e : s.data.toList with
  | nil => rw [e] at this; exact absurd rfl this
  | cons _ _ => rfl
theorem nmd_one (m : Nat) (st : Nat) (h : st < m) : nmd m 1 (fun _ => (st : Int)) = fun q => q = st := by
  funext q
  apply propext
  constructor
  · rintro ⟨_, _, _, h2⟩
    have h2 : (st : Int) = (q : Int) := h2
    omega
  · rintro rfl; exact ⟨h, 0, by decide, rfl⟩

set_option maxRecDepth 100000 in
set_option maxHeartbeats 20000000 in
theorem fitq9 (b off m cap : Nat) (S : Nat → Sd) (st F : Nat) (hr : rightP S m (st : Int) (F : Int)) (hw : ∀ q, q < m → okWs (S q)) (s : ByteArray) (hs : s.size ≤ 1000) (i j : Nat) (hij : i ≤ j) (hj : j ≤ s.size) (w : World) (hS : rdS w b off m S) :
    Calls Try.prog 14 #[nfV (some ⟨b, off, none⟩) m cap (st : Int) (F : Int), .string s, .int .i64 (i : Int), .int .i64 (j : Int)] w fun e w' => ∃ r, e = .returned (.bool r) ∧ (r = true ↔ fitsP S s.size (tx7 s) st F i j) ∧ Below w.heap.size w w' := by
  have hm : m ≤ 600 := hr.1.2.1
  have hpos : 0 < m := hr.1.1
  have hF : F < m := by have := hr.1; omega
  have hst : st < m := by have := hr.1; omega
  obtain ⟨w1, hw1⟩ : ∃ w1, w.alloc (.cells #[.slice (some ⟨b, off, none⟩) m cap, .int .i64 (st : Int), .int .i64 (F : Int)] 26) = w1 := ⟨_, rfl⟩
  have hb1 : Below w.heap.size w w1 := hw1 ▸ (Below.refl _ _).alloc (Nat.le_refl _) _
  have hn1 : is3 26 w1 w.heap.size (.slice (some ⟨b, off, none⟩) m cap) (st : Int) (F : Int) := hw1 ▸ is3.new 26 w (.slice (some ⟨b, off, none⟩) m cap) (st : Int) (F : Int)
  obtain ⟨g, hg⟩ : ∃ g, w.heap.size = g := ⟨_, rfl⟩
  have hz1 : w1.heap.size = g + 1 := by rw [← hw1, World.size_alloc, hg]
  rw [hg] at hn1 hb1
  have hS1 := hS.below (hg ▸ hb1)
  have hrr := rgt9_is (some ⟨b, off, none⟩) m cap S (st : Int) (F : Int) w1 hm ⟨.inr ⟨b, off, rfl⟩, fun b' off' h => by cases h; exact hS1⟩
  rw [decide_eq_true hr] at hrr
  have HR := Lib.hid hrr
  have HB1 := Lib.hid hb1
  have HN : Hid (∀ w', Below (g + 1) w1 w' → is3 26 w' g (.slice (some ⟨b, off, none⟩) m cap) (st : Int) (F : Int)) := Lib.hid fun w' h => hn1.below h (Nat.lt_succ_self g)
  have HCL := Lib.hid (fun (sym : Int) q n c l (hn : n ≤ 1000) w' (h : Below (g + 1) w1 w') (hl : rdL w' q n l) => closed_is b off m cap S sym q n c l (by omega) hpos hn (right_rng hr) w' (hS1.below (hz1 ▸ h)) hl)
  have HBH := Lib.hid (fun (y : Nat) (hy : y < 256) q n c l (hn : n ≤ 1000) w' (h : Below (g + 1) w1 w') (hl : rdL w' q n l) => behind_is b off m cap S y q n c l (by omega) hpos hn hy (right_rng hr) hw w' (hS1.below (hz1 ▸ h)) hl)
  have HW1 := Lib.hid hw1
  have HG := Lib.hid hg
  have HZ := Lib.hid hz1
  obtain ⟨z0, z1, z2⟩ := hn1.cells
  have zl := hn1.lt
  rw [show (nfV (some ⟨b, off, none⟩) m cap (st : Int) (F : Int)) = .agg #[.slice (some ⟨b, off, none⟩) m cap, .int .i64 (st : Int), .int .i64 (F : Int)] from rfl]
  have i0 : (0 : Int) ≤ (i : Int) := by omega
  have di : decide ((i : Int) < 0) = false := decide_eq_false (by omega)
  have dij : decide ((j : Int) < (i : Int)) = false := decide_eq_false (by omega)
  have dj : decide ((s.size : Int) < (j : Int)) = false := decide_eq_false (by omega)
  have dij' : decide (j < i) = false := decide_eq_false (by omega)
  have dj' : decide (s.size < j) = false := decide_eq_false (by omega)
  clear hw1 hb1 hn1 hz1 hS1 hS hrr hr hw
  go_enter Try.func14, Try.ntmps14
  go_upto_region 1 with (fail)
  rw [HW1.out]
  clear hg HW1
  go_wp2_with fail
  refine HR.out.mono ?_
  rintro e w2 ⟨rfl, hb⟩
  have HB2 : Hid (Below (g + 1) w1 w2) := Lib.hid (HZ.out ▸ hb)
  clear hb z0 z1 z2 zl
  obtain ⟨z0, z1, z2⟩ := (HN.out _ HB2.out).cells
  have zl := (HN.out _ HB2.out).lt
  obtain ⟨W3, hW3⟩ : ∃ W3, w2.alloc (.cells #[.int .i64 (st : Int)] 3) = W3 := ⟨_, rfl⟩
  have hl3 := lit_rdL w2 (st : Int)
  have hb3 : Below (g + 1) w1 W3 := hW3 ▸ HB2.out.alloc (by have := HB2.out.size; have := HZ.out; omega) _
  rw [hW3] at hl3
  have hcl := HCL.out 0 (some ⟨w2.heap.size, 0, none⟩) 1 1 (fun _ => (st : Int)) (by decide) W3 hb3 hl3
  rw [nmd_one m st hst] at hcl
  have HC3 := Lib.hid hcl
  have HB3 := Lib.hid hb3
  have HW3 := Lib.hid hW3
  clear hl3 hb3 hcl hW3
  go_wp2_with fail
  rw [HW3.out]
  refine HC3.out.mono ?_
  rintro e w4 ⟨p4, c4, A4, rfl, t1, t2, t3, t4⟩
  have HA4 : Hid (atP m (Cl S 0 fun q => q = st) w4 p4 A4) := Lib.hid ⟨t1, t3, t4⟩
  have HB4 := Lib.hid (HB3.out.trans (t2.mono (show g + 1 ≤ W3.heap.size by have := HB3.out.size; have := HZ.out; omega)))
  have hle := okA_le t3
  clear t1 t2 t3 t4 z0 z1 z2 zl HW3 HC3 HR
  have HSZ : Hid (∀ w' : World, Below (g + 1) w1 w' → g + 1 ≤ w'.heap.size) := Lib.hid fun w' h => by have := h.size; have := HZ.out; omega
  have HNC := Lib.hid (fun w' (h : Below (g + 1) w1 w') => (HN.out w' h).cells)
  have HNL := Lib.hid (fun w' (h : Below (g + 1) w1 w') => (HN.out w' h).lt)
  have HE0 := Lib.hid (fun w' (h : Below (g + 1) w1 w') => (show Below w.heap.size w w' from HG.out.symm ▸ HB1.out.trans (h.mono (Nat.le_succ g))))
  obtain ⟨z0, z1, z2⟩ := HNC.out _ HB4.out
  have zl := HNL.out _ HB4.out
  have hle4 : A4.length ≤ 1000 := by omega
  by_cases h0 : s.size = 0
  · have he := emp9_of h0
    have HEQ : Hid (fitsP S s.size (tx7 s) st F i j ↔ Cl S 258 (Cl S 0 fun q => q = st) F) := Lib.hid (by unfold fitsP; rw [if_pos h0])
    clear h0
    go_wp2_with fail
    have hB := HB4.out
    go_region_held_law (fun w' => w'.cell? ⟨g, 0, none⟩ = some (.slice (some ⟨b, off, none⟩) m cap) ∧ w'.cell? ⟨g, 1, none⟩ = some (.int .i64 (st : Int)) ∧ w'.cell? ⟨g, 2, none⟩ = some (.int .i64 (F : Int)))
      (first | with_reducible exact HNC.out _ hB | with_reducible exact HNC.out _ hB.drew)
      (first
        | (go_at_call 32; (with_reducible refine (HCL.out 258 _ _ _ _ hle4 _ hB.drew (HA4.out.rd.below (Below.refl _ _).drew)).mono ?_); rintro e wc ⟨p5, c5, A5, rfl, t1, t2, t3, t4⟩; have HA5 := Lib.hid (show atP m (Cl S 258 (nmd m A4.length (tlA A4 m))) wc p5 A5 from ⟨t1, t3, t4⟩); (replace hB := hB.drew.trans (t2.mono (HSZ.out _ hB.drew))); clear t1 t2 t3 t4)
        | (go_at_call 33; (with_reducible refine (contains9 _ _ _ _ (F : Int) (memW A5 F) (HA5.out.con F) _ (HA5.out.len hm) HA5.out.rd).mono ?_); rintro e wd ⟨rfl, rfl⟩))
    all_goals
      have HF : Hid (memW A5 F = true ↔ fitsP S s.size (tx7 s) st F i j) := Lib.hid (by rw [HEQ.out]; unfold memW; rw [decide_eq_true_eq]; have := HA5.out.2.2 F; rwa [HA4.out.nmd] at this)
      have HBf := Lib.hid (HE0.out _ hB)
      clear hB
      go_wp2_with fail
      go_returns
      exact ⟨_, rfl, HF.out, HBf.out⟩
  have he := emp9_not h0
  obtain ⟨P1, hP1⟩ : ∃ P1, (if i = 0 then Cl S 256 (Cl S 0 fun q => q = st) else Cl S 0 fun q => q = st) = P1 := ⟨_, rfl⟩
  have HP1 := Lib.hid hP1
  by_cases hi0 : i = 0
  · rw [if_pos hi0] at hP1
    have dz : ((i : Int) == 0) = true := by simp [hi0]
    have dz' : (i == 0) = true := by simp [hi0]
    clear hi0
    go_wp2_with fail
    clear z0 z1 z2 zl
    refine (HCL.out 256 _ _ _ _ hle4 _ HB4.out HA4.out.rd).mono ?_
    rintro e w5 ⟨p5, c5, A5, rfl, t1, t2, t3, t4⟩
    have has : atP m (Cl S 256 (nmd m A4.length (tlA A4 m))) w5 p5 A5 := ⟨t1, t3, t4⟩
    rw [HA4.out.nmd, hP1] at has
    have HAS := Lib.hid has
    have HBS := Lib.hid (HB4.out.trans (t2.mono (HSZ.out _ HB4.out)))
    clear t1 t2 t3 t4 has hP1
    go_wp2_with fail
    have HEQ : Hid (fitsP S s.size (tx7 s) st F i j ↔ if j = s.size then Cl S 257 (runF S (tx7 s) i (j - i) P1) F else runF S (tx7 s) i (j - i) P1 F) := Lib.hid (by
      unfold fitsP
      rw [if_neg h0, HP1.out])
    clear h0
    go_loopw [9, 10] (fun av kv wr => ∃ k p A c, i ≤ k ∧ k ≤ j ∧ kv = .int .i64 (k : Nat) ∧ av = .slice p A.length c ∧ Hid (atP m (runF S (tx7 s) i (k - i) P1) wr p A) ∧ Below (g + 1) w1 wr) (fun _ kv _ => j - (intOf kv).toNat)
    case atStart => exact ⟨i, _, _, _, Nat.le_refl _, hij, rfl, rfl, Lib.hid (by rw [Nat.sub_self]; exact HAS.out), HBS.out⟩
    case round =>
      obtain ⟨k, p, A, c, hik, hkj, rfl, rfl, HX, hB⟩ := hrel
      have hleA : A.length ≤ 1000 := by have := okA_le HX.out.2.1; omega
      by_cases hlt : k < j
      · have HIx := Lib.hid (fun w => ix_str s k (by omega) (by omega) w)
        have hix := HIx.out
        have hc := tx7_lt s k
        have HSt := Lib.hid (show Cl S 0 (By S (tx7 s k) (runF S (tx7 s) i (k - i) P1)) = runF S (tx7 s) i (k + 1 - i) P1 by rw [show k + 1 - i = (k - i) + 1 by omega, runF_last, show i + (k - i) = k by omega])
        generalize runF S (tx7 s) i (k - i) P1 = V at *
        generalize tx7 s k = y at *
        have k0 : (0 : Int) ≤ (k : Int) := by omega
        have k1 : (k : Int) < (j : Int) := by omega
        have k2 : (k : Int) < (s.size : Int) := by omega
        have HHY := Lib.hid hc
        go_wp2_with fail
        go_region_held_law (fun w' => w'.cell? ⟨g, 0, none⟩ = some (.slice (some ⟨b, off, none⟩) m cap) ∧ w'.cell? ⟨g, 1, none⟩ = some (.int .i64 (st : Int)) ∧ w'.cell? ⟨g, 2, none⟩ = some (.int .i64 (F : Int)))
          (first | with_reducible exact HNC.out _ hB | with_reducible exact HNC.out _ hB.drew)
          ((go_at_call 34; (with_reducible refine (HBH.out y HHY.out _ _ _ _ hleA _ hB.drew (HX.out.rd.below (Below.refl _ _).drew)).mono ?_); rintro e wc ⟨p5, c5, A5, rfl, t1, t2, t3, t4⟩; have HA5 := Lib.hid (show atP m (Cl S 0 (By S y (nmd m A.length (tlA A m)))) wc p5 A5 from ⟨t1, t3, t4⟩); (replace hB := hB.drew.trans (t2.mono (HSZ.out _ hB.drew))); clear t1 t2 t3 t4))
        all_goals
          rw [HX.out.nmd, HSt.out] at HA5
          go_wp2_with fail
          go_roundw
          case rel => exact ⟨k + 1, _, _, _, by omega, by omega, by go_num, rfl, HA5, hB⟩
          case measure => simp [intOf]; omega
      · obtain rfl : k = j := by omega
        obtain ⟨PE, hPE⟩ : ∃ PE, runF S (tx7 s) i (k - i) P1 = PE := ⟨_, rfl⟩
        rw [hPE] at HX HEQ
        clear hPE
        obtain ⟨a0, a1, a2⟩ := HNC.out _ hB
        have al := HNL.out _ hB
        by_cases hjs : k = s.size
        · have d2 : ((k : Int) == (s.size : Int)) = true := by simp [hjs]
          have d3 : (k == s.size) = true := by simp [hjs]
          have HQ : Hid (fitsP S s.size (tx7 s) st F i k ↔ Cl S 257 PE F) := Lib.hid (by rw [HEQ.out, if_pos hjs])
          clear hjs
          go_wp2_with fail
          clear a0 a1 a2 al
          refine (HCL.out 257 _ _ _ _ hleA _ hB HX.out.rd).mono ?_
          rintro e wc ⟨p5, c5, A5, rfl, t1, t2, t3, t4⟩
          have HA5 := Lib.hid (show atP m (Cl S 257 (nmd m A.length (tlA A m))) wc p5 A5 from ⟨t1, t3, t4⟩)
          rw [HX.out.nmd] at HA5
          have hB5 := hB.trans (t2.mono (HSZ.out _ hB))
          obtain ⟨a0, a1, a2⟩ := HNC.out _ hB5
          have al := HNL.out _ hB5
          have HBf := Lib.hid (HE0.out _ hB5)
          clear t1 t2 t3 t4 hB hB5
          go_wp2_with fail
          refine (contains9 _ _ _ _ (F : Int) (memW A5 F) (HA5.out.con F) _ (HA5.out.len hm) HA5.out.rd).mono ?_
          rintro e wd ⟨rfl, rfl⟩
          have HF : Hid (memW A5 F = true ↔ fitsP S s.size (tx7 s) st F i k) := Lib.hid (by rw [HQ.out]; unfold memW; rw [decide_eq_true_eq]; exact HA5.out.2.2 F)
          go_wp2_with fail
          go_returns
          exact ⟨_, rfl, HF.out, HBf.out⟩
        · have d2 : ((k : Int) == (s.size : Int)) = false := beq_eq_false_iff_ne.2 (by omega)
          have d3 : (k == s.size) = false := beq_eq_false_iff_ne.2 hjs
          have HQ : Hid (fitsP S s.size (tx7 s) st F i k ↔ PE F) := Lib.hid (by rw [HEQ.out, if_neg hjs])
          have HBf := Lib.hid (HE0.out _ hB)
          clear hjs hB
          go_wp2_with fail
          refine (contains9 _ _ _ _ (F : Int) (memW A F) (HX.out.con F) _ (HX.out.len hm) HX.out.rd).mono ?_
          rintro e wd ⟨rfl, rfl⟩
          have HF : Hid (memW A F = true ↔ fitsP S s.size (tx7 s) st F i k) := Lib.hid (by rw [HQ.out]; unfold memW; rw [decide_eq_true_eq]; exact HX.out.2.2 F)
          go_wp2_with fail
          go_returns
          exact ⟨_, rfl, HF.out, HBf.out⟩
  · rw [if_neg hi0] at hP1
    have dz : ((i : Int) == 0) = false := beq_eq_false_iff_ne.2 (by omega)
    have dz' : (i == 0) = false := beq_eq_false_iff_ne.2 hi0
    clear hi0
    have has := HA4.out
    rw [hP1] at has
    have HAS := Lib.hid has
    have HBS := HB4
    clear has hP1
    go_wp2_with fail
    clear z0 z1 z2 zl
    have HEQ : Hid (fitsP S s.size (tx7 s) st F i j ↔ if j = s.size then Cl S 257 (runF S (tx7 s) i (j - i) P1) F else runF S (tx7 s) i (j - i) P1 F) := Lib.hid (by
      unfold fitsP
      rw [if_neg h0, HP1.out])
    clear h0
    go_loopw [9, 10] (fun av kv wr => ∃ k p A c, i ≤ k ∧ k ≤ j ∧ kv = .int .i64 (k : Nat) ∧ av = .slice p A.length c ∧ Hid (atP m (runF S (tx7 s) i (k - i) P1) wr p A) ∧ Below (g + 1) w1 wr) (fun _ kv _ => j - (intOf kv).toNat)
    case atStart => exact ⟨i, _, _, _, Nat.le_refl _, hij, rfl, rfl, Lib.hid (by rw [Nat.sub_self]; exact HAS.out), HBS.out⟩
    case round =>
      obtain ⟨k, p, A, c, hik, hkj, rfl, rfl, HX, hB⟩ := hrel
      have hleA : A.length ≤ 1000 := by have := okA_le HX.out.2.1; omega
      by_cases hlt : k < j
      · have HIx := Lib.hid (fun w => ix_str s k (by omega) (by omega) w)
        have hix := HIx.out
        have hc := tx7_lt s k
        have HSt := Lib.hid (show Cl S 0 (By S (tx7 s k) (runF S (tx7 s) i (k - i) P1)) = runF S (tx7 s) i (k + 1 - i) P1 by rw [show k + 1 - i = (k - i) + 1 by omega, runF_last, show i + (k - i) = k by omega])
        generalize runF S (tx7 s) i (k - i) P1 = V at *
        generalize tx7 s k = y at *
        have k0 : (0 : Int) ≤ (k : Int) := by omega
        have k1 : (k : Int) < (j : Int) := by omega
        have k2 : (k : Int) < (s.size : Int) := by omega
        have HHY := Lib.hid hc
        go_wp2_with fail
        go_region_held_law (fun w' => w'.cell? ⟨g, 0, none⟩ = some (.slice (some ⟨b, off, none⟩) m cap) ∧ w'.cell? ⟨g, 1, none⟩ = some (.int .i64 (st : Int)) ∧ w'.cell? ⟨g, 2, none⟩ = some (.int .i64 (F : Int)))
          (first | with_reducible exact HNC.out _ hB | with_reducible exact HNC.out _ hB.drew)
          ((go_at_call 34; (with_reducible refine (HBH.out y HHY.out _ _ _ _ hleA _ hB.drew (HX.out.rd.below (Below.refl _ _).drew)).mono ?_); rintro e wc ⟨p5, c5, A5, rfl, t1, t2, t3, t4⟩; have HA5 := Lib.hid (show atP m (Cl S 0 (By S y (nmd m A.length (tlA A m)))) wc p5 A5 from ⟨t1, t3, t4⟩); (replace hB := hB.drew.trans (t2.mono (HSZ.out _ hB.drew))); clear t1 t2 t3 t4))
        all_goals
          rw [HX.out.nmd, HSt.out] at HA5
          go_wp2_with fail
          go_roundw
          case rel => exact ⟨k + 1, _, _, _, by omega, by omega, by go_num, rfl, HA5, hB⟩
          case measure => simp [intOf]; omega
      · obtain rfl : k = j := by omega
        obtain ⟨PE, hPE⟩ : ∃ PE, runF S (tx7 s) i (k - i) P1 = PE := ⟨_, rfl⟩
        rw [hPE] at HX HEQ
        clear hPE
        obtain ⟨a0, a1, a2⟩ := HNC.out _ hB
        have al := HNL.out _ hB
        by_cases hjs : k = s.size
        · have d2 : ((k : Int) == (s.size : Int)) = true := by simp [hjs]
          have d3 : (k == s.size) = true := by simp [hjs]
          have HQ : Hid (fitsP S s.size (tx7 s) st F i k ↔ Cl S 257 PE F) := Lib.hid (by rw [HEQ.out, if_pos hjs])
          clear hjs
          go_wp2_with fail
          clear a0 a1 a2 al
          refine (HCL.out 257 _ _ _ _ hleA _ hB HX.out.rd).mono ?_
          rintro e wc ⟨p5, c5, A5, rfl, t1, t2, t3, t4⟩
          have HA5 := Lib.hid (show atP m (Cl S 257 (nmd m A.length (tlA A m))) wc p5 A5 from ⟨t1, t3, t4⟩)
          rw [HX.out.nmd] at HA5
          have hB5 := hB.trans (t2.mono (HSZ.out _ hB))
          obtain ⟨a0, a1, a2⟩ := HNC.out _ hB5
          have al := HNL.out _ hB5
          have HBf := Lib.hid (HE0.out _ hB5)
          clear t1 t2 t3 t4 hB hB5
          go_wp2_with fail
          refine (contains9 _ _ _ _ (F : Int) (memW A5 F) (HA5.out.con F) _ (HA5.out.len hm) HA5.out.rd).mono ?_
          rintro e wd ⟨rfl, rfl⟩
          have HF : Hid (memW A5 F = true ↔ fitsP S s.size (tx7 s) st F i k) := Lib.hid (by rw [HQ.out]; unfold memW; rw [decide_eq_true_eq]; exact HA5.out.2.2 F)
          go_wp2_with fail
          go_returns
          exact ⟨_, rfl, HF.out, HBf.out⟩
        · have d2 : ((k : Int) == (s.size : Int)) = false := beq_eq_false_iff_ne.2 (by omega)
          have d3 : (k == s.size) = false := beq_eq_false_iff_ne.2 hjs
          have HQ : Hid (fitsP S s.size (tx7 s) st F i k ↔ PE F) := Lib.hid (by rw [HEQ.out, if_neg hjs])
          have HBf := Lib.hid (HE0.out _ hB)
          clear hjs hB
          go_wp2_with fail
          refine (contains9 _ _ _ _ (F : Int) (memW A F) (HX.out.con F) _ (HX.out.len hm) HX.out.rd).mono ?_
          rintro e wd ⟨rfl, rfl⟩
          have HF : Hid (memW A F = true ↔ fitsP S s.size (tx7 s) st F i k) := Lib.hid (by rw [HQ.out]; unfold memW; rw [decide_eq_true_eq]; exact HX.out.2.2 F)
          go_wp2_with fail
          go_returns
          exact ⟨_, rfl, HF.out, HBf.out⟩
end Go.Proofs.Ytdhplphgackjaaa
