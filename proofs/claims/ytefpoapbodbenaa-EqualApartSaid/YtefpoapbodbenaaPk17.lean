/-
  Rows of rows that grow in place, each in a block of its own; the walk of dfa.comingTo.
-/
import Derived.Test.YtefpoapbodbenaaPk15
import Derived.Test.YtefpoapbodbenaaPk16
namespace Go.Proofs.Ytefpoapbodbenaa
open Go.RowKit

theorem infoRow12 : (Try.prog.info? 22).map (fun i => (i.zero, i.size, i.bytes)) = some (some (.slice none 0 0), 1, 24) := by kernel_rfl
def vls (V : Nat → Value) (m : Nat) : List Value := (List.range m).map V
theorem vls_at (V : Nat → Value) (m j : Nat) (h : j < m) : (vls V m)[j]? = some (V j) := by simp [vls, h]
def putV (V : Nat → Value) (j : Nat) (u : Value) : Nat → Value := fun y => if y = j then u else V y
def putL (L : Nat → List Nat) (j : Nat) (u : List Nat) : Nat → List Nat := fun y => if y = j then u else L y
theorem vls_set (V : Nat → Value) (m j : Nat) (u : Value) : (vls V m).set j u = vls (putV V j u) m := by
  unfold vls
  apply List.ext_getElem
  · simp
  · intro i h1 h2
    simp only [List.getElem_set, List.getElem_map, List.getElem_range, putV]
    by_cases h : i = j
    · rw [if_pos h.symm, if_pos h]
    · rw [if_neg (fun e => h e.symm), if_neg h]
theorem made_vls (m : Nat) : (madeCells #[Value.slice none 0 0] m).toList = vls (fun _ => .slice none 0 0) m := by
  unfold madeCells vls
  apply List.ext_getElem
  · simp
  · intro i h1 h2
    simp [Nat.mod_one]
/-- Block G has m rows of numbers, each in a block of its own, none of them in X. -/
structure rwX (X : Nat → Prop) (w : World) (G m : Nat) (V : Nat → Value) (L : Nat → List Nat) : Prop where
  all : w.ownsRow G 22 1 (.slice (some ⟨G, 0, none⟩) m m) m (vls V m)
  val : ∀ t, t < m → ∃ p c, V t = .slice p (L t).length c
  row : ∀ t, t < m → spO w G (V t) (L t)
  apart : ∀ t t', t < m → t' < m → t ≠ t' → (V t).ownBlock = none ∨ (V t).ownBlock ≠ (V t').ownBlock
  nX : ∀ t b, t < m → (V t).ownBlock = some b → ¬ X b
  nG : ¬ X G
theorem rwX.below {X : Nat → Prop} {w w' : World} {G m : Nat} {V : Nat → Value} {L : Nat → List Nat} (h : rwX X w G m V L) (hb : Below w.heap.size w w') : rwX X w' G m V L :=
  ⟨owns_below h.all hb, h.val, fun t ht => owns_below (h.row t ht) hb, h.apart, h.nX, h.nG⟩
theorem rwX.lt {X : Nat → Prop} {w : World} {G m : Nat} {V : Nat → Value} {L : Nat → List Nat} (h : rwX X w G m V L) : G < w.heap.size := (World.ownsRow.lt h.all G rfl).2
theorem rwX.cell {X : Nat → Prop} {w : World} {G m : Nat} {V : Nat → Value} {L : Nat → List Nat} (h : rwX X w G m V L) {t : Nat} (ht : t < m) : w.cell? ⟨G, t, none⟩ = some (V t) ∧ w.frozen? ⟨G, t, none⟩ = false :=
  ⟨(World.ownsRow.cellAt h.all t (by omega)).trans (vls_at V m t ht), World.ownsRow.frozenAt h.all t⟩
/-- No row lies where the rows are named. -/
theorem rwX.neG {X : Nat → Prop} {w : World} {G m : Nat} {V : Nat → Value} {L : Nat → List Nat} (h : rwX X w G m V L) {t : Nat} (ht : t < m) : (V t).ownBlock = none ∨ (V t).ownBlock ≠ some G := by
  have := rows_apart9 (h.row t ht) h.all (by decide)
  exact this
/-- A row has grown, and is named anew. -/
theorem rwX.step {X : Nat → Prop} {w w' : World} {G m t s : Nat} {V : Nat → Value} {L : Nat → List Nat} {p : Option Addr} {c : Nat} (h : rwX X w G m V L) (ht : t < m) (hXl : ∀ k, X k → k < w.heap.size)
    (hr : spO w' G (.slice p ((L t).length + 1) c) (L t ++ [s])) (hg : w.grownBy w' (V t).ownBlock) (hat : (Value.slice p ((L t).length + 1) c).ownBlock = (V t).ownBlock ∨ (Value.slice p ((L t).length + 1) c).ownBlock = some w.heap.size) :
    rwX X (w'.setCell ⟨G, t, none⟩ (.slice p ((L t).length + 1) c)) G m (putV V t (.slice p ((L t).length + 1) c)) (putL L t (L t ++ [s])) ∧ kpX X w (w'.setCell ⟨G, t, none⟩ (.slice p ((L t).length + 1) c)) := by
  obtain ⟨u, hu⟩ : ∃ u, Value.slice p ((L t).length + 1) c = u := ⟨_, rfl⟩
  have hlen : u = .slice p (L t ++ [s]).length c := by rw [← hu, List.length_append]; rfl
  rw [hu] at hr hat ⊢
  have hGl := h.lt
  have hall : w'.ownsRow G 22 1 (.slice (some ⟨G, 0, none⟩) m m) m (vls V m) := World.ownsRow.kept h.all hg (by
    rcases h.neG ht with e | e
    · right; rw [e]; simp [Value.ownBlock]
    · right; intro e2; exact e e2.symm)
  have hst := World.ownsRow.stored hall t u
  rw [vls_set] at hst
  have hus : ∀ t', t' < m → t' ≠ t → (V t').ownBlock = none ∨ (V t').ownBlock ≠ u.ownBlock := fun t' ht' hne => by
    rcases hat with e | e
    · rw [e]; exact h.apart t' t ht' ht hne
    · rw [e]
      cases hv : (V t').ownBlock with
      | none => exact .inl rfl
      | some r =>
        right
        have := (World.ownsRow.lt (h.row t' ht') r hv).2
        intro e2
        have : r = w.heap.size := by simpa using e2
        omega
  have huG : u.ownBlock = none ∨ u.ownBlock ≠ some G := rows_apart9 hr hall (by decide)
  refine ⟨⟨hst.1, fun t' ht' => ?_, fun t' ht' => ?_, fun a b ha hb hne => ?_, fun t' b ht' e => ?_, h.nG⟩, ?_⟩
  · unfold putV putL
    by_cases e : t' = t
    · rw [if_pos e, if_pos e]; exact ⟨p, c, hlen⟩
    · rw [if_neg e, if_neg e]; exact h.val t' ht'
  · unfold putV putL
    by_cases e : t' = t
    · rw [if_pos e, if_pos e]
      exact World.ownsRow.kept hr hst.2 huG
    · rw [if_neg e, if_neg e]
      exact World.ownsRow.kept (World.ownsRow.kept (h.row t' ht') hg (h.apart t' t ht' ht e)) hst.2 (h.neG ht')
  · unfold putV
    by_cases ea : a = t
    · by_cases eb : b = t
      · omega
      · rw [if_pos ea, if_neg eb]
        rcases hus b hb eb with e | e
        · right; intro e2
          rw [e] at e2
          rcases hr.2 with ⟨e3, h0⟩ | ⟨g, cap, cur, e3, _⟩
          · simp at h0
          · rw [e3] at e2; cases e2
        · right; exact fun e2 => e e2.symm
    · by_cases eb : b = t
      · rw [if_neg ea, if_pos eb]; exact hus a ha ea
      · rw [if_neg ea, if_neg eb]; exact h.apart a b ha hb hne
  · unfold putV at e
    by_cases et : t' = t
    · rw [if_pos et] at e
      rcases hat with e2 | e2
      · rw [e2] at e; exact h.nX t b ht e
      · rw [e2] at e
        cases e
        exact fun hX => Nat.lt_irrefl _ (hXl _ hX)
    · rw [if_neg et] at e; exact h.nX t' b ht' e
  · exact (kpX.of_grown hg fun k e => h.nX t k ht e).trans (kpX.of_grown hst.2 fun k e => by cases e; exact h.nG)

/-- How far the rows are: all of the states below s, and of s the first j of its list. -/
def ctI (x : Da) (s : Nat) (F : Nat → Int) (j : Nat) (L : Nat → List Nat) : Prop :=
  ∀ t, t < x.n2 → (L t).length ≤ 259 * s + j ∧ ∀ q, q ∈ L t ↔ (q < s ∧ ∃ y, y < 259 ∧ goD x q y = t) ∨ (q = s ∧ ∃ i, i < j ∧ F i = (t : Int))
theorem ctI_zero {x : Da} (F : Nat → Int) : ctI x 0 F 0 fun _ => [] := fun t _ => ⟨Nat.zero_le _, fun q => ⟨fun h => (nomatch h), fun h => by
  rcases h with ⟨h, _⟩ | ⟨_, _, h, _⟩
  · exact absurd h (Nat.not_lt_zero _)
  · exact absurd h (Nat.not_lt_zero _)⟩⟩
theorem ctI_new {x : Da} {s : Nat} {F F' : Nat → Int} {L : Nat → List Nat} (h : ctI x s F 0 L) : ctI x s F' 0 L := fun t ht => ⟨(h t ht).1, fun q => by
  rw [(h t ht).2 q]
  constructor
  · rintro (h | ⟨_, _, h, _⟩)
    · exact .inl h
    · exact absurd h (Nat.not_lt_zero _)
  · rintro (h | ⟨_, _, h, _⟩)
    · exact .inl h
    · exact absurd h (Nat.not_lt_zero _)⟩
theorem ctI_put {x : Da} {s : Nat} {F : Nat → Int} {j t : Nat} {L : Nat → List Nat} (h : ctI x s F j L) (ht : F j = (t : Int)) : ctI x s F (j + 1) (putL L t (L t ++ [s])) := fun t' ht' => by
  obtain ⟨h1, h2⟩ := h t' ht'
  unfold putL
  by_cases e : t' = t
  · subst e
    rw [if_pos rfl]
    refine ⟨by rw [List.length_append]; simp; omega, fun q => ?_⟩
    rw [List.mem_append, h2 q]
    constructor
    · rintro ((h | ⟨h3, i, h4, h5⟩) | h)
      · exact .inl h
      · exact .inr ⟨h3, i, by omega, h5⟩
      · exact .inr ⟨by simpa using h, j, by omega, ht⟩
    · rintro (h | ⟨h3, i, h4, h5⟩)
      · exact .inl (.inl h)
      · exact .inr (by simp [h3])
  · rw [if_neg e]
    refine ⟨by omega, fun q => ?_⟩
    rw [h2 q]
    constructor
    · rintro (h | ⟨h3, i, h4, h5⟩)
      · exact .inl h
      · exact .inr ⟨h3, i, by omega, h5⟩
    · rintro (h | ⟨h3, i, h4, h5⟩)
      · exact .inl h
      · refine .inr ⟨h3, i, ?_, h5⟩
        rcases Nat.lt_or_ge i j with g | g
        · exact g
        · have : i = j := by omega
          subst this
          omega
theorem ctI_next {x : Da} {s n : Nat} {F : Nat → Int} {L : Nat → List Nat} (h : ctI x s F n L) (hn : n ≤ 259) (hF : ∀ t : Nat, (∃ i, i < n ∧ F i = (t : Int)) ↔ ∃ y, y < 259 ∧ goD x s y = t) : ctI x (s + 1) F 0 L := fun t ht => by
  obtain ⟨h1, h2⟩ := h t ht
  refine ⟨by omega, fun q => ?_⟩
  rw [h2 q, hF t]
  constructor
  · rintro (⟨h3, h4⟩ | ⟨rfl, h4⟩)
    · exact .inl ⟨by omega, h4⟩
    · exact .inl ⟨by omega, h4⟩
  · rintro (⟨h3, h4⟩ | ⟨_, _, h4, _⟩)
    · by_cases e : q = s
      · subst e; exact .inr ⟨rfl, h4⟩
      · exact .inl ⟨by omega, h4⟩
    · exact absurd h4 (Nat.not_lt_zero _)
/-- The list of where a state goes, class by class, is where it goes by symbols. -/
theorem gt_mem {x : Da} (s n : Nat) (f : Nat → Int) (h : ∀ y, (∃ i, i < n ∧ f i = y) ↔ ∃ j, j < 259 ∧ x.l0 j = y) (t : Nat) : (∃ i, i < n ∧ ((gtF x s (f i).toNat : Nat) : Int) = (t : Int)) ↔ ∃ y, y < 259 ∧ goD x s y = t := by
  constructor
  · rintro ⟨i, hi, e⟩
    obtain ⟨j, hj, ej⟩ := (h (f i)).1 ⟨i, hi, rfl⟩
    refine ⟨j, hj, ?_⟩
    rw [goD_gt, ej]; exact_mod_cast e
  · rintro ⟨y, hy, e⟩
    obtain ⟨i, hi, ei⟩ := (h (x.l0 y)).2 ⟨y, hy, rfl⟩
    refine ⟨i, hi, ?_⟩
    rw [ei, ← goD_gt, e]
/-- What comingTo tells. -/
def ctPost (x : Da) (w : World) (e : Ending) (w' : World) : Prop :=
  ∃ G V L, e = .returned (.slice (some ⟨G, 0, none⟩) x.n2 x.n2) ∧ rwX (fun k => k < G) w' G x.n2 V L ∧ (∀ t, t < x.n2 → (L t).length ≤ 1000000 ∧ ∀ q, q ∈ L t ↔ q < x.n2 ∧ ∃ y, y < 259 ∧ goD x q y = t) ∧ w.heap.size ≤ G ∧ Below w.heap.size w w'

set_option maxRecDepth 100000 in
set_option maxHeartbeats 20000000 in
theorem coming12 (v : Value) (x : Da) (w : World) (hs : smD x) (hx : rgD x) (hd : daAt w v x) : Calls Try.prog 40 #[v] w (ctPost x w) := by
  obtain ⟨D, hD⟩ : ∃ D, w.heap.size = D := ⟨_, rfl⟩
  have hd' := hd
  obtain ⟨q0, c0, q1, c1, q2, c2, rfl, -, -, -⟩ := hd'
  obtain ⟨w1, hw1⟩ : ∃ w1, w.alloc (.cells #[.slice q0 x.n0 c0, .int .i64 x.wd, .int .i64 x.st, .slice q1 x.n1 c1, .slice q2 x.n2 c2] 25) = w1 := ⟨_, rfl⟩
  have hz1 : w1.heap.size = D + 1 := by rw [← hw1, World.size_alloc, hD]
  have hb1 : Below D w w1 := hw1 ▸ (Below.refl _ _).alloc (by omega) _
  have hk1 : isDf w1 D q0 x.n0 c0 x.wd x.st q1 x.n1 c1 q2 x.n2 c2 := hw1 ▸ hD ▸ heap_alloc_new w _
  have HK := Lib.hid (fun w' (h : Below (D + 1) w1 w') => (hk1.below h (Nat.lt_succ_self D)).cells)
  have HD := Lib.hid (fun w' (h : Below (D + 1) w1 w') => hd.below (hD.symm ▸ hb1.trans (h.mono (Nat.le_succ D))))
  have HCL := Lib.hid (classes12 _ x w1 hx (HD.out _ (Below.refl _ _)))
  have HGO := Lib.hid (fun s q n c f w' (hst : s < x.n2) (hn : n ≤ 259) (hf : ∀ i, i < n → 0 ≤ f i ∧ f i < x.wd) (h : Below (D + 1) w1 w') hl => going12 _ x s q n c f w' hs hx hst hn hf (HD.out w' h) hl)
  have HCR := Lib.hid (show ∀ j, j < 259 → 0 ≤ x.l0 j ∧ x.l0 j < x.wd from hx.2.2.2.2.2.2.2.2.1)
  have HAT := Lib.hid (fun (s C : Nat) (hst : s < x.n2) (hC : (C : Int) < x.wd) => (gtF_at hx hst hC).2.2)
  have HW1 := Lib.hid hw1; have HZ := Lib.hid hz1
  have HF : Hid (∀ w', Below (D + 1) w1 w' → Below w.heap.size w w') := Lib.hid fun w' h => by rw [hD]; exact hb1.trans (h.mono (by omega))
  have HDG := Lib.hid hD
  have hm : x.n2 ≤ 1000 := hs.2.2
  obtain ⟨m, hme⟩ : ∃ m, x.n2 = m := ⟨_, rfl⟩
  have HME := Lib.hid hme
  have HPO : Hid (ctPost x w = fun e w' => ∃ G V L, e = .returned (.slice (some ⟨G, 0, none⟩) m m) ∧ rwX (fun k => k < G) w' G m V L ∧ (∀ t, t < m → (L t).length ≤ 1000000 ∧ ∀ q, q ∈ L t ↔ q < m ∧ ∃ y, y < 259 ∧ goD x q y = t) ∧ w.heap.size ≤ G ∧ Below w.heap.size w w') := Lib.hid (by subst hme; rfl)
  rw [HPO.out]
  obtain ⟨y0, y1, y2, y3, y4⟩ := hk1.cells
  rw [hme] at HCL HGO HAT HK HW1 y4 hm ⊢
  obtain ⟨ir, hir, hr0, hr1, hr2⟩ := info_parts infoRow12
  have m1 : Hid (24 * m ≤ 281474976710656) := Lib.hid (by omega)
  have m2 : Hid (m ≤ maxLen) := Lib.hid (by unfold maxLen; omega)
  have m0 : (0 : Int) ≤ (m : Int) := by omega
  clear hw1 hb1 hk1 hd hx hs hz1 hme HPO
  go_enter Try.func40, Try.ntmps40
  go_upto_region 1 with (fail)
  rw [HW1.out]
  clear hD
  go_wp2_with fail
  refine HCL.out.mono ?_
  rintro e w2 ⟨gc, nc, cc, f, rfl, hrf, hnc, hmf, hb2, hgc⟩
  have HB2 : Hid (Below (D + 1) w1 w2) := Lib.hid (HZ.out ▸ hb2)
  have HRF := Lib.hid hrf; have HMF := Lib.hid hmf
  have HFR : Hid (∀ i, i < nc → 0 ≤ f i ∧ f i < x.wd) := Lib.hid fun i hi => by
    obtain ⟨j, h1, h2⟩ := (hmf (f i)).1 ⟨i, hi, rfl⟩
    rw [← h2]; exact HCR.out j h1
  clear hb2 hrf hmf hgc HCL y0 y1 y2 y3 y4
  obtain ⟨y0, y1, y2, y3, y4⟩ := HK.out _ HB2.out
  go_wp2_with (refine wpList_make_full _ rfl _ _ 78 rfl w2.heap.size 22 ir (.slice none 0 0) 1 Try.underlying78 hir hr0 hr1 .i64 .i64 (m : Int) (m : Int) m rfl rfl (by omega) (by omega) (by rw [hr2]; exact m1.out) m2.out (Nat.le_refl _) ?_)
  intro w3 hmk hg3
  have hmk' : w3.ownsRow w2.heap.size 22 1 (.slice (some ⟨w2.heap.size, 0, none⟩) m m) m (vls (fun _ => .slice none 0 0) m) := by
    rw [made_vls] at hmk; exact hmk
  have hB3 : Below w2.heap.size w2 w3 := (Below.refl _ _).grown hg3 (Nat.le_refl _) (fun r hr => by cases hr)
  obtain ⟨G, hG⟩ : ∃ G, w2.heap.size = G := ⟨_, rfl⟩
  rw [hG] at hmk' ⊢
  have HG := Lib.hid hG
  have HDL : Hid (D + 1 ≤ G) := Lib.hid (by have := HB2.out.size; have := HZ.out; omega)
  have HR0 : Hid (rwX (fun k => k < G) w3 G m (fun _ => .slice none 0 0) (fun _ => [])) := Lib.hid ⟨hmk', fun _ _ => ⟨none, 0, rfl⟩, fun _ _ => ⟨rfl, .inl ⟨rfl, rfl⟩⟩, fun _ _ _ _ _ => .inl rfl, fun _ _ _ e => (by cases e), Nat.lt_irrefl _⟩
  have HB3 : Hid (Below G w2 w3) := Lib.hid (hG ▸ hB3)
  have HKW : Hid (∀ w', Below G w2 w' → Below (D + 1) w1 w') := Lib.hid fun w' h => HB2.out.trans (h.mono HDL.out)
  have HRW : Hid (∀ w', Below G w2 w' → rdL w' (some ⟨gc, 0, none⟩) nc f) := Lib.hid fun w' h => HRF.out.below (HG.out.symm ▸ h)
  have HI0 : Hid (ctI x 0 (fun _ => 0) 0 fun _ => []) := Lib.hid (ctI_zero _)
  clear hmk hmk' hg3 hB3 hG m1 m2 hir hr0 hr1 hr2 y0 y1 y2 y3 y4
  obtain ⟨y0, y1, y2, y3, y4⟩ := HK.out _ (HKW.out _ HB3.out)
  go_wp2_with fail
  clear y0 y1 y2 y3 y4
  go_loopw [17] (fun sv wr => ∃ s : Nat, s ≤ m ∧ sv = .int .i64 s ∧ ∃ V L, Hid (rwX (fun k => k < G) wr G m V L) ∧ Hid (ctI x s (fun _ => 0) 0 L) ∧ Hid (Below G w2 wr)) (fun sv _ => m - (intOf sv).toNat)
  case atStart => exact ⟨0, Nat.zero_le _, rfl, _, _, HR0, HI0, HB3⟩
  case round =>
    clear HR0 HI0 HB3
    obtain ⟨s, hsm, rfl, V, L, HR, HI, HB⟩ := hrel
    by_cases hlt : s < m
    · have s0 : (0 : Int) ≤ (s : Int) := by omega
      have s1 : (s : Int) < (m : Int) := by omega
      obtain ⟨y0, y1, y2, y3, y4⟩ := HK.out _ (HKW.out _ HB.out)
      have HCALL := Lib.hid (HGO.out s (some ⟨gc, 0, none⟩) nc cc f wr hlt hnc HFR.out (HKW.out _ HB.out) (HRW.out _ HB.out))
      go_wp2_with fail
      refine HCALL.out.mono ?_
      rintro e w4 ⟨p4, c4, rfl, hsp, hb4⟩
      have HGL : Hid (G ≤ wr.heap.size) := Lib.hid (Nat.le_of_lt HR.out.lt)
      obtain ⟨F, hF⟩ : ∃ F : Nat → Int, F = fun i => ((gtF x s (f i).toNat : Nat) : Int) := ⟨_, rfl⟩
      rw [← hF] at hsp
      have HFT : Hid (∀ i, i < nc → ∃ t : Nat, F i = (t : Int) ∧ t < m) := Lib.hid fun i hi => by
        obtain ⟨h1, h2⟩ := HFR.out i hi
        exact ⟨gtF x s (f i).toNat, by rw [hF], HAT.out s (f i).toNat hlt (by omega)⟩
      have HFM : Hid (∀ t : Nat, (∃ i, i < nc ∧ F i = (t : Int)) ↔ ∃ y, y < 259 ∧ goD x s y = t) := Lib.hid fun t => by rw [hF]; exact gt_mem s nc f HMF.out t
      -- what is kept while the list is gone over: the list itself, too
      obtain ⟨X, hX⟩ : ∃ X : Nat → Prop, X = fun k => k < G ∨ (Value.slice p4 nc c4).ownBlock = some k := ⟨_, rfl⟩
      have HXg : Hid (∀ k, k < G → X k) := Lib.hid fun k hk => by rw [hX]; exact .inl hk
      have HXp : Hid (∀ b o, p4 = some ⟨b, o, none⟩ → X b) := Lib.hid fun b o e => by rw [hX, e]; exact .inr rfl
      have HXl : Hid (∀ k, X k → k < w4.heap.size) := Lib.hid fun k hk => by
        rw [hX] at hk
        rcases hk with hk | hk
        · have := HGL.out; have := hb4.size; omega
        · exact (World.ownsRow.lt hsp k hk).2
      have hnX : ∀ b, wr.heap.size ≤ b ∨ G ≤ b → b < wr.heap.size → ¬ X b := fun b h1 h2 hk => by
        rw [hX] at hk
        rcases hk with hk | hk
        · omega
        · have := (World.ownsRow.lt hsp b hk).1; omega
      have HR4 : Hid (rwX X w4 G m V L) := Lib.hid (by
        have h := HR.out.below hb4
        exact ⟨h.all, h.val, h.row, h.apart, fun t b ht e => hnX b (.inr (World.ownsRow.lt (HR.out.row t ht) b e).1) (World.ownsRow.lt (HR.out.row t ht) b e).2, hnX G (.inr (Nat.le_refl _)) HR.out.lt⟩)
      have HB4 : Hid (Below G w2 w4) := Lib.hid (HB.out.trans (hb4.mono HGL.out))
      have HI4 := Lib.hid (ctI_new (F' := F) HI.out)
      have HRD := Lib.hid hsp.rd
      have nc0 : (0 : Int) ≤ (nc : Int) := by omega
      have nc1 : (nc : Int) ≤ 259 := by omega
      have hsl : s ≤ 1000 := by omega
      clear hsp hb4 hF hX hnX HR HI HB HCALL y0 y1 y2 y3 y4
      go_wp2_with fail
      go_loopw [25] (fun jv wr => ∃ j : Nat, j ≤ nc ∧ jv = .int .i64 j ∧ ∃ V L, Hid (rwX X wr G m V L) ∧ Hid (ctI x s F j L) ∧ Hid (Below G w2 wr) ∧ Hid (kpX X w4 wr)) (fun jv _ => nc - (intOf jv).toNat)
      case atStart => exact ⟨0, Nat.zero_le _, rfl, V, L, HR4, HI4, HB4, Lib.hid (kpX.refl _ _)⟩
      case round =>
        clear HR4 HI4 HB4
        obtain ⟨j, hj, rfl, V, L, HR, HI, HB, HKX⟩ := hrel
        by_cases hltj : j < nc
        · have j0 : (0 : Int) ≤ (j : Int) := by omega
          have j1 : (j : Int) < (nc : Int) := by omega
          obtain ⟨fb, fo, rfl, hfb, hfc⟩ := (HKX.out.rd HRD.out HXp.out) j hltj
          obtain ⟨t, ht, htm⟩ := HFT.out j hltj
          rw [ht] at hfc
          have HT := Lib.hid ht
          have t0 : (0 : Int) ≤ (t : Int) := by omega
          have t1 : (t : Int) < (m : Int) := by omega
          obtain ⟨pt, ct, hV⟩ := HR.out.val t htm
          obtain ⟨ct1, ct2⟩ := HR.out.cell htm
          rw [hV] at ct1
          have hrow := HR.out.row t htm
          rw [hV] at hrow
          have hgr := HR.out.lt
          have HAL : Hid (Below wr.heap.size wr (wr.alloc (.cells #[.int .i64 (s : Int)] 3))) := Lib.hid ((Below.refl _ _).alloc (Nat.le_refl _) _)
          have HRA := Lib.hid (HR.out.below HAL.out)
          have HXA := Lib.hid (owns_below hrow HAL.out)
          have HKA := Lib.hid (HKX.out.trans (kpX.of_below HAL.out))
          have HLL : Hid ((L t).length ≤ 1000000) := Lib.hid (by
            have h1 := (HI.out t (by have := HME.out; omega)).1
            omega)
          have HBA : Hid (Below G w2 (wr.alloc (.cells #[.int .i64 (s : Int)] 3))) := Lib.hid (HB.out.trans (HAL.out.mono (by omega)))
          have HXS : Hid (∀ k, X k → k < (wr.alloc (.cells #[.int .i64 (s : Int)] 3)).heap.size) := Lib.hid fun k hk => by
            have := HXl.out k hk; have := HKA.out.size; omega
          have HVT := Lib.hid hV
          have HG2 : Hid (G ≤ (wr.alloc (.cells #[.int .i64 (s : Int)] 3)).heap.size) := Lib.hid (by rw [World.size_alloc]; omega)
          clear ht hfb hrow HR HB HKX HAL hV
          obtain ⟨len, hlen⟩ : ∃ len, (L t).length = len := ⟨_, rfl⟩
          have HLEN := Lib.hid hlen
          have HXA2 : Hid (spO (wr.alloc (.cells #[.int .i64 (s : Int)] 3)) G (.slice pt len ct) (L t)) := Lib.hid (hlen ▸ HXA.out)
          rw [hlen] at ct1
          clear hlen HXA
          go_wp2_with (at_builtin; refine append_nx2 rfl _ _ rfl G _ (L t) rfl HXA2.out wr.heap.size s rfl (by simp) HLL.out HG2.out ?_; intro v' w5 hown hgrow hat; have HO := Lib.hid hown; have HGW : Hid ((wr.alloc (.cells #[.int .i64 (s : Int)] 3)).grownBy w5 (Value.slice pt len ct).ownBlock) := Lib.hid hgrow; have HAT5 : Hid (v'.ownBlock = (Value.slice pt len ct).ownBlock ∨ v'.ownBlock = some (wr.alloc (.cells #[.int .i64 (s : Int)] 3)).heap.size) := Lib.hid hat; clear hown hgrow hat; refine Hid.out ?_)
          obtain ⟨p', c', rfl⟩ := spO_of HO.out
          have e1 : (L t ++ [s]).length = len + 1 := by rw [List.length_append, HLEN.out]; rfl
          have hstep := HRA.out.step (s := s) (p := p') (c := c') htm HXS.out (by have := HO.out; rw [e1, ← HLEN.out] at this; exact this) (by rw [HVT.out, HLEN.out]; exact HGW.out) (by rw [HVT.out, HLEN.out]; have := HAT5.out; rw [e1] at this; exact this)
          rw [HLEN.out] at hstep
          have HR6 := Lib.hid hstep.1
          have HK6 := Lib.hid (HKA.out.trans hstep.2)
          have HB6 : Hid (Below G w2 (w5.setCell ⟨G, t, none⟩ (.slice p' (len + 1) c'))) := Lib.hid (HBA.out.trans (hstep.2.below HG2.out HXg.out))
          have HI6 := Lib.hid (ctI_put HI.out HT.out)
          have hc5 : w5.cell? ⟨G, t, none⟩ = some (.slice pt len ct) ∧ w5.frozen? ⟨G, t, none⟩ = false := by
            have hall : w5.ownsRow G 22 1 (.slice (some ⟨G, 0, none⟩) m m) m (vls V m) := World.ownsRow.kept HRA.out.all HGW.out (by
              right
              rcases HRA.out.neG htm with e | e
              · rw [HVT.out, HLEN.out] at e; rw [e]; simp [Value.ownBlock]
              · rw [HVT.out, HLEN.out] at e; exact fun e2 => e e2.symm)
            exact ⟨(World.ownsRow.cellAt hall t (by omega)).trans ((vls_at V m t htm).trans (by rw [HVT.out, HLEN.out])), World.ownsRow.frozenAt hall t⟩
          obtain ⟨d1, d2⟩ := hc5
          have hg5 : G < w5.heap.size := Nat.lt_of_lt_of_le (by rw [World.size_alloc]; omega) HGW.out.size
          rw [e1]
          clear hstep ct1 ct2 hfc HRA HXA2 HKA HBA HO HGW HAT5 HI e1
          refine Lib.hid ?_
          go_wp2_with fail
          go_roundw
          case rel => exact ⟨j + 1, by omega, by go_num, _, _, HR6, HI6, HB6, HK6⟩
          case measure => simp [intOf]; omega
        · obtain rfl : j = nc := by omega
          have HI5 := Lib.hid (ctI_new (F' := fun _ => 0) (ctI_next HI.out hnc HFM.out))
          have HR5 : Hid (rwX (fun k => k < G) wr G m V L) := Lib.hid ⟨HR.out.all, HR.out.val, HR.out.row, HR.out.apart, fun t b ht e hb => HR.out.nX t b ht e (HXg.out b hb), Nat.lt_irrefl _⟩
          clear HR HI HKX
          go_wp2_with fail
          go_roundw
          case rel => exact ⟨s + 1, by omega, by go_num, _, _, HR5, HI5, HB⟩
          case measure => simp [intOf]; omega
    · obtain rfl : s = m := by omega
      have HE : Hid (∀ t, t < s → (L t).length ≤ 1000000 ∧ ∀ q, q ∈ L t ↔ q < s ∧ ∃ y, y < 259 ∧ goD x q y = t) := Lib.hid fun t ht => by
        obtain ⟨h1, h2⟩ := HI.out t (by have := HME.out; omega)
        refine ⟨by omega, fun q => ?_⟩
        rw [h2 q]
        exact ⟨fun h => h.elim id fun ⟨_, _, h, _⟩ => absurd h (Nat.not_lt_zero _), .inl⟩
      have HGD : Hid (w.heap.size ≤ G) := Lib.hid (by have := HDL.out; have := HDG.out; omega)
      have HBF := Lib.hid (HF.out _ (HKW.out _ HB.out))
      clear HI HB
      go_wp2_with fail
      go_returns
      exact ⟨G, V, L, rfl, HR.out, HE.out, HGD.out, HBF.out⟩
end Go.Proofs.Ytefpoapbodbenaa
