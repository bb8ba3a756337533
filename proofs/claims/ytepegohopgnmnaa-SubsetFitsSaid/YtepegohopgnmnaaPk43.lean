/-
  The walk of subset.Build; what the eleventh laws ask of the code, as it does it.
-/
import Derived.Test.YtepegohopgnmnaaPk34
import Derived.Test.YtepegohopgnmnaaPk42
namespace Go.Proofs.Ytepegohopgnmnaa
open Go.RowKit

theorem rdG11.set {w : World} {p : Option Addr} {G : List Ls11} (h : rdG11 w p G) {b : Nat} (hne : ∀ g o, p = some ⟨g, o, none⟩ → g ≠ b) (j : Nat) (u : Value) : rdG11 (w.setCell ⟨b, j, none⟩ u) p G := fun i hi => by
  obtain ⟨g, h1, h2, h3⟩ := h i hi
  exact ⟨g, h1, by simpa using h2, (grown_setCell w b j u).cell h3 (by simpa using hne g 0 h1)⟩
theorem okG11.set {w : World} {base m : Nat} {G : List Ls11} {L : List Bf} (h : okG11 w base m G L) {b : Nat} (hb : b < base) (j : Nat) (u : Value) : okG11 (w.setCell ⟨b, j, none⟩ u) base m G L :=
  ⟨h.1, fun i hi => (h.2 i hi).set (fun k o e _ => by have := (h.2 i hi).2.2.2 k o e; show k ≠ b; omega) u⟩
theorem below3 {B : Nat} {a w : World} {c : Nat} (h : Below B a w) (hc : B ≤ c) (v0 v1 v2 : Value) : Below B a (((w.setCell ⟨c, 0, none⟩ v0).setCell ⟨c, 1, none⟩ v1).setCell ⟨c, 2, none⟩ v2) := ((h.setCell hc _).setCell hc _).setCell hc _
theorem build_df4 (q0 : Option Addr) (n0 c0 : Nat) (wd : Int) (q1 : Option Addr) (n1 c1 : Nat) (q2 : Option Addr) (n2 c2 : Nat) (w : World) : (Instr.build 30 #[(0, .slice q0 n0 c0), (1, .int .i64 wd), (3, .slice q1 n1 c1), (4, .slice q2 n2 c2)]).run Try.prog w = .ok (dfV q0 n0 c0 wd 0 q1 n1 c1 q2 n2 c2) w := by kernel_rfl
theorem s9_of {w : World} {D b : Nat} (hb : D + 1 ≠ b) {v0 v1 v2 v3 v4 u0 u1 u2 : Value} (h : w.cell? ⟨b, 2, none⟩ = some u0 ∧ w.cell? ⟨b, 0, none⟩ = some u1 ∧ w.cell? ⟨D, 2, none⟩ = some u2) :
    (((((w.setCell ⟨D + 1, 0, none⟩ v0).setCell ⟨D + 1, 1, none⟩ v1).setCell ⟨D + 1, 2, none⟩ v2).setCell ⟨D + 1, 3, none⟩ v3).setCell ⟨D + 1, 4, none⟩ v4).cell? ⟨b, 2, none⟩ = some u0 ∧
    (((((w.setCell ⟨D + 1, 0, none⟩ v0).setCell ⟨D + 1, 1, none⟩ v1).setCell ⟨D + 1, 2, none⟩ v2).setCell ⟨D + 1, 3, none⟩ v3).setCell ⟨D + 1, 4, none⟩ v4).cell? ⟨b, 0, none⟩ = some u1 ∧
    (((((w.setCell ⟨D + 1, 0, none⟩ v0).setCell ⟨D + 1, 1, none⟩ v1).setCell ⟨D + 1, 2, none⟩ v2).setCell ⟨D + 1, 3, none⟩ v3).setCell ⟨D + 1, 4, none⟩ v4).cell? ⟨D, 2, none⟩ = some u2 := by
  have fr : ∀ (w : World) (a : Addr) (k : Nat) (v : Value), D + 1 ≠ a.block → (w.setCell ⟨D + 1, k, none⟩ v).cell? a = w.cell? a := fun w a k v h => World.cell?_setCell_far w ⟨D + 1, k, none⟩ a v h
  have hD : D + 1 ≠ D := by omega
  refine ⟨?_, ?_, ?_⟩
  · rw [fr _ _ _ _ hb, fr _ _ _ _ hb, fr _ _ _ _ hb, fr _ _ _ _ hb, fr _ _ _ _ hb]; exact h.1
  · rw [fr _ _ _ _ hb, fr _ _ _ _ hb, fr _ _ _ _ hb, fr _ _ _ _ hb, fr _ _ _ _ hb]; exact h.2.1
  · rw [fr _ _ _ _ hD, fr _ _ _ _ hD, fr _ _ _ _ hD, fr _ _ _ _ hD, fr _ _ _ _ hD]; exact h.2.2
/-- What is met, as Build holds it. -/
structure Hd11 (W w1 : World) (g b : Nat) (m : Nat) (sp : Option Addr) (n sc mb : Nat) (np : Option Addr) (n2 nc base : Nat) (G : List Ls11) (s : Ms) (q : Option Addr) (l : Nat → Int) : Prop where
  bel : Below (g + 2) w1 W
  mt : isMt W b (.slice sp n sc) mb (.slice np n2 nc)
  rg : rdG11 W sp G
  ro : okG11 W base m G s.1
  rn : rdL W np n2 (fun j => ((s.2.getD j 0 : Nat) : Int))
  rc : rdL W q 259 l
  len : G.length = n
  n1 : s.1.length = n
  n2' : s.2.length = n2
  fp : ∀ b' o, np = some ⟨b', o, none⟩ → b' ≠ g + 1

set_option maxRecDepth 100000 in
set_option maxHeartbeats 16000000 in
theorem sub_any : SubC := by
  intro p m cap S st fin most w hm hmost hS hw
  obtain ⟨w1, hw1⟩ : ∃ w1, (w.alloc (.cells #[.slice p m cap, .int .i64 st, .int .i64 fin] 24)).alloc (.cells #[.slice none 0 0, .int .i64 0, .int .i64 0, .slice none 0 0, .slice none 0 0] 30) = w1 := ⟨_, rfl⟩
  obtain ⟨g, hg⟩ : ∃ g, w.heap.size = g := ⟨_, rfl⟩
  have hs1 : (w.alloc (.cells #[.slice p m cap, .int .i64 st, .int .i64 fin] 24)).heap.size = g + 1 := by rw [World.size_alloc, hg]
  have hz : w1.heap.size = g + 2 := by rw [← hw1, World.size_alloc, hs1]
  have hb1 : Below g w w1 := hw1 ▸ ((Below.refl _ _).alloc (by omega) _).alloc (by omega) _
  have hn1 : is3 24 w1 g (.slice p m cap) st fin := by
    have h1 := is3.new 24 w (.slice p m cap) st fin
    rw [hg] at h1
    refine h1.below (B := g + 1) ?_ (Nat.lt_succ_self g)
    rw [← hw1]
    exact (Below.refl _ _).alloc (by omega) _
  have hd1 : isDf w1 (g + 1) none 0 0 0 0 none 0 0 none 0 0 := by
    have := heap_alloc_new (w.alloc (.cells #[.slice p m cap, .int .i64 st, .int .i64 fin] 24)) (.cells #[.slice none 0 0, .int .i64 0, .int .i64 0, .slice none 0 0, .slice none 0 0] 30)
    rw [hw1, hs1] at this
    exact this
  have HST : Hid (∀ w', Below (g + 2) w1 w' → stsAt w' p m S) := Lib.hid fun w' h => ⟨hS.1, fun b off e => ((hS.2 b off e).below (hg.symm ▸ hb1)).below (hz.symm ▸ h)⟩
  have HN : Hid (∀ w', Below (g + 2) w1 w' → is3 24 w' g (.slice p m cap) st fin) := Lib.hid fun w' h => hn1.below h (by omega)
  have HD : Hid (∀ w', Below (g + 2) w1 w' → isDf w' (g + 1) none 0 0 0 0 none 0 0 none 0 0) := Lib.hid fun w' h => hd1.below h (by omega)
  have HE : Hid (∀ w', Below (g + 1) w1 w' → Below w.heap.size w w') := Lib.hid fun w' h => by rw [hg]; exact hb1.trans (h.mono (Nat.le_succ g))
  have HR := Lib.hid (rgt_any p m cap S st fin w1 hm (HST.out _ (Below.refl _ _)))
  have HZ := Lib.hid hz; have HW1 := Lib.hid hw1; have HOK := Lib.hid hw; have HG := Lib.hid hg
  have hbd := build_df0
  obtain ⟨z0, z1, z2⟩ := (HN.out _ (Below.refl _ _)).cells
  have zl := (HN.out _ (Below.refl _ _)).lt
  clear hb1 hn1 hS hw hs1 hz hd1
  by_cases hr : rightP S m st fin
  · have HRR := Lib.hid hr
    have hrr := HR.out
    rw [decide_eq_true hr] at hrr
    have HR := Lib.hid hrr
    clear hrr hr hw1
    go_enter Try.func8, Try.ntmps8
    go_upto_region 1 with (fail)
    rw [HW1.out]
    clear hg
    go_wp2_with fail
    refine HR.out.mono ?_
    rintro e w2 ⟨rfl, hb⟩
    have HB2 : Hid (Below (g + 2) w1 w2) := Lib.hid (HZ.out ▸ hb)
    have HCL := Lib.hid (cls_any p m cap S st fin w2 hm (HST.out _ HB2.out) HOK.out)
    clear hb z0 z1 z2 zl
    obtain ⟨z0, z1, z2⟩ := (HN.out _ HB2.out).cells
    have zl := (HN.out _ HB2.out).lt
    go_wp2_with fail
    refine HCL.out.mono ?_
    rintro e w3 ⟨hc, -⟩
    obtain ⟨q, c, l, rfl, h1, h2, h3⟩ := hc HRR.out
    have HB3 : Hid (Below (g + 2) w1 w3) := Lib.hid (HB2.out.trans (h3.mono (by have := HB2.out.size; have := HZ.out; omega)))
    have HB3d : Hid (Below (g + 2) w1 w3.drew) := Lib.hid HB3.out.drew
    have HG3 : Hid (g + 2 ≤ w3.heap.size) := Lib.hid (by have := HB3.out.size; have := HZ.out; omega)
    have HG3d : Hid (g + 2 ≤ w3.drew.heap.size) := Lib.hid (by simpa using HG3.out)
    have HB3a : Hid (Below (g + 2) w1 (w3.alloc (.cells #[.slice none 0 0, .map none, .slice none 0 0] 56)).drew) := Lib.hid (HB3.out.alloc HG3.out _).drew
    have HFa := Lib.hid (firsts11 (c := c) (w := w3.drew) (show rdL w3.drew q 259 l from h1) h2)
    have HFb := Lib.hid (firsts11 (c := c) (w := (w3.alloc (.cells #[.slice none 0 0, .map none, .slice none 0 0] 56)).drew) (h1.below ((Below.refl _ _).alloc (Nat.le_refl _) _).drew) h2)
    have HMR3 : Hid (isMr (w3.alloc (.cells #[.slice none 0 0, .map none, .slice none 0 0] 56)).drew w3.heap.size) := Lib.hid (heap_alloc_new w3 _)
    have hwd : ((cntT (isH (alk S m)) 259 : Nat) : Int) = ((wdY S m : Nat) : Int) := rfl
    rw [hwd]
    obtain ⟨W, hW⟩ : ∃ W, wdY S m = W := ⟨_, rfl⟩
    rw [hW] at HFa HFb ⊢
    have HWW := Lib.hid hW
    have HQ3 := Lib.hid h1; have HQV := Lib.hid h2
    have HMT : Hid (∀ fq fc fl w', Below (g + 2) w1 w' → rdL w' fq W fl → (∀ j, j < W → fl j = (fsY S m j : Nat)) → Calls Try.prog 22 #[nfV p m cap st fin, .slice fq W fc, .int .i64 most] w' (mtPost S m st most w')) := Lib.hid fun fq fc fl w' hb hl hf =>
      meet_is p m cap S st fin fq W fc fl most hm HRR.out HWW.out hmost hf w' (HST.out _ hb) HOK.out hl
    clear hc h1 h2 h3 HCL HB2 z0 z1 z2 zl hW hwd
    obtain ⟨z0, z1, z2⟩ := (HN.out _ HB3.out).cells
    have zl := (HN.out _ HB3.out).lt
    go_wp2_with fail
    go_region_held_law (fun w' => w'.cell? ⟨g, 0, none⟩ = some (.slice p m cap) ∧ w'.cell? ⟨g, 1, none⟩ = some (.int .i64 st) ∧ w'.cell? ⟨g, 2, none⟩ = some (.int .i64 fin))
      (first
        | with_reducible exact (HN.out _ HB3d.out).cells
        | with_reducible exact (HN.out _ HB3a.out).cells
        | with_reducible exact (HN.out _ HB5s.out).cells
        | with_reducible exact (HN.out _ HB5.out).cells
        | with_reducible exact (HN.out _ HB4b.out).cells
        | with_reducible exact (HN.out _ HB4.out).cells
        | exact (HN.out _ (HB5.out.alloc HG5.out _)).cells)
      (first
        | (go_at_call 23; (with_reducible refine HFa.out.mono ?_); rintro e w4 ⟨q4, c4, l4, rfl, h4, h5, h6⟩; have HF4 := Lib.hid h6; have HB4 : Hid (Below (g + 2) w1 w4) := Lib.hid (HB3d.out.trans (h6.mono HG3d.out)); have HG4 : Hid (g + 2 ≤ w4.heap.size) := Lib.hid (Nat.le_trans HG3d.out h6.size); have HQ4 := Lib.hid ((show rdL w3.drew q 259 l from HQ3.out).below h6); have HM4 := Lib.hid (HMT.out q4 c4 l4 w4 HB4.out h4 h5); have HB4b : Hid (Below (g + 2) w1 (w4.alloc (.cells #[.slice none 0 0, .map none, .slice none 0 0] 56))) := Lib.hid (HB4.out.alloc HG4.out _); have HM4b := Lib.hid (HMT.out q4 c4 l4 (w4.alloc (.cells #[.slice none 0 0, .map none, .slice none 0 0] 56)) HB4b.out (h4.below ((Below.refl _ _).alloc (Nat.le_refl _) _)) h5); have HMR4b : Hid (isMr (w4.alloc (.cells #[.slice none 0 0, .map none, .slice none 0 0] 56)) w4.heap.size) := Lib.hid (heap_alloc_new w4 _); clear h4 h5 h6)
        | (go_at_call 23; (with_reducible refine HFb.out.mono ?_); rintro e w4 ⟨q4, c4, l4, rfl, h4, h5, h6⟩; have HF4 := Lib.hid h6; have HB4 : Hid (Below (g + 2) w1 w4) := Lib.hid (HB3a.out.trans (h6.mono (by simpa using Nat.le_trans HG3.out (Nat.le_succ _)))); have HG4 : Hid (g + 2 ≤ w4.heap.size) := Lib.hid (Nat.le_trans (by simpa using Nat.le_trans HG3.out (Nat.le_succ _)) h6.size); have HQ4 := Lib.hid ((HQ3.out.below ((Below.refl _ _).alloc (Nat.le_refl _) (.cells #[.slice none 0 0, .map none, .slice none 0 0] 56)).drew).below h6); have HM4 := Lib.hid (HMT.out q4 c4 l4 w4 HB4.out h4 h5); have HMR4 := Lib.hid (HMR3.out.below h6 (by simp)); clear h4 h5 h6)
        | (go_at_call 22; (with_reducible refine HM4b.out.mono ?_); rintro e w5 ⟨base, sp, sc, mb, np, nc, G, s, rfl, hs1, hs2, hs3, hs4, hb5, hs5, hs6, hs7, hs8, hs9, hs10, hs11⟩; have HF5 := Lib.hid hb5; have HB5 : Hid (Below (g + 2) w1 w5) := Lib.hid (Below.trans (by first | exact HB4b.out | exact HB4.out) (hb5.mono (by have := HG4.out; (try simp only [World.size_alloc]); omega))); have HG5 : Hid (g + 2 ≤ w5.heap.size) := Lib.hid (by have := HB5.out.size; have := HZ.out; omega); have HS1 := Lib.hid hs1; have HS2 := Lib.hid hs2; have HS3 := Lib.hid hs3; have HS4 := Lib.hid hs4; have HS5 := Lib.hid hs5; have HS6 := Lib.hid hs6; have HS8 := Lib.hid hs8; have HS9 := Lib.hid hs9; have HS10 := Lib.hid hs10; have HS11 := Lib.hid hs11; have HMR5 := Lib.hid (HMR4b.out.below hb5 (by simp)); obtain ⟨e0, e1, e2⟩ := HMR5.out.cells; have f0 := HMR5.out.free 0; have f1 := HMR5.out.free 1; have f2 := HMR5.out.free 2; have hl5 := lt_of_block HMR5.out; have HB5s : Hid (Below (g + 2) w1 (((w5.setCell ⟨w4.heap.size, 0, none⟩ (.slice sp s.1.length sc)).setCell ⟨w4.heap.size, 1, none⟩ (.map (some mb))).setCell ⟨w4.heap.size, 2, none⟩ (.slice np s.2.length nc))) := Lib.hid (below3 HB5.out HG4.out _ _ _); clear hs1 hs2 hs3 hs4 hb5 hs5 hs6 hs7 hs8 hs9 hs10 hs11)
        | (go_at_call 22; (with_reducible refine HM4.out.mono ?_); rintro e w5 ⟨base, sp, sc, mb, np, nc, G, s, rfl, hs1, hs2, hs3, hs4, hb5, hs5, hs6, hs7, hs8, hs9, hs10, hs11⟩; have HF5 := Lib.hid hb5; have HB5 : Hid (Below (g + 2) w1 w5) := Lib.hid (Below.trans (by first | exact HB4b.out | exact HB4.out) (hb5.mono (by have := HG4.out; (try simp only [World.size_alloc]); omega))); have HG5 : Hid (g + 2 ≤ w5.heap.size) := Lib.hid (by have := HB5.out.size; have := HZ.out; omega); have HS1 := Lib.hid hs1; have HS2 := Lib.hid hs2; have HS3 := Lib.hid hs3; have HS4 := Lib.hid hs4; have HS5 := Lib.hid hs5; have HS6 := Lib.hid hs6; have HS8 := Lib.hid hs8; have HS9 := Lib.hid hs9; have HS10 := Lib.hid hs10; have HS11 := Lib.hid hs11; have HMR5 := Lib.hid (HMR4.out.below hb5 (lt_of_block HMR4.out)); obtain ⟨e0, e1, e2⟩ := HMR5.out.cells; have f0 := HMR5.out.free 0; have f1 := HMR5.out.free 1; have f2 := HMR5.out.free 2; have hl5 := lt_of_block HMR5.out; have HB5s : Hid (Below (g + 2) w1 (((w5.setCell ⟨w3.heap.size, 0, none⟩ (.slice sp s.1.length sc)).setCell ⟨w3.heap.size, 1, none⟩ (.map (some mb))).setCell ⟨w3.heap.size, 2, none⟩ (.slice np s.2.length nc))) := Lib.hid (below3 HB5.out HG3.out _ _ _); clear hs1 hs2 hs3 hs4 hb5 hs5 hs6 hs7 hs8 hs9 hs10 hs11)
        | (go_at_call 22; (with_reducible refine HM4.out.mono ?_); rintro e w5 ⟨base, sp, sc, mb, np, nc, G, s, rfl, hs1, hs2, hs3, hs4, hb5, hs5, hs6, hs7, hs8, hs9, hs10, hs11⟩; have HF5 := Lib.hid hb5; have HB5 : Hid (Below (g + 2) w1 w5) := Lib.hid (Below.trans (by first | exact HB4b.out | exact HB4.out) (hb5.mono (by have := HG4.out; (try simp only [World.size_alloc]); omega))); have HG5 : Hid (g + 2 ≤ w5.heap.size) := Lib.hid (by have := HB5.out.size; have := HZ.out; omega); have HS1 := Lib.hid hs1; have HS2 := Lib.hid hs2; have HS3 := Lib.hid hs3; have HS4 := Lib.hid hs4; have HS5 := Lib.hid hs5; have HS6 := Lib.hid hs6; have HS8 := Lib.hid hs8; have HS9 := Lib.hid hs9; have HS10 := Lib.hid hs10; have HS11 := Lib.hid hs11; clear hs1 hs2 hs3 hs4 hb5 hs5 hs6 hs7 hs8 hs9 hs10 hs11))
    all_goals
      first
      | (obtain ⟨W5, hW5⟩ : ∃ W5, ((w5.setCell ⟨w3.heap.size, 0, none⟩ (.slice sp s.1.length sc)).setCell ⟨w3.heap.size, 1, none⟩ (.map (some mb))).setCell ⟨w3.heap.size, 2, none⟩ (.slice np s.2.length nc) = W5 := ⟨_, rfl⟩
         rw [hW5]
         have HHD : Hid (Hd11 W5 w1 g w3.heap.size m sp s.1.length sc mb np s.2.length nc base G s q l) := Lib.hid (by
           have h4 := lt_of_block HMR4.out
           have hq : ∀ b o, q = some ⟨b, o, none⟩ → b ≠ w3.heap.size := fun b o e => by
             obtain ⟨b', o', k1, k2, _⟩ := HQ3.out 0 (by decide)
             rw [e] at k1; cases k1; omega
           have hs : ∀ b o, sp = some ⟨b, o, none⟩ → b ≠ w3.heap.size := fun b o e => by have := HS10.out b o e; omega
           have hp : ∀ b o, np = some ⟨b, o, none⟩ → b ≠ w3.heap.size := fun b o e => by have := HS11.out b o e; omega
           have hbs : w3.heap.size < base := Nat.lt_of_lt_of_le h4 HS9.out
           rw [← hW5]
           exact ⟨below3 HB5.out HG3.out _ _ _, HMR5.out.stored _ _ mb, ((HS2.out.set hs _ _).set hs _ _).set hs _ _, ((HS3.out.set hbs _ _).set hbs _ _).set hbs _ _, ((HS4.out.set11 hp _ _).set11 hp _ _).set11 hp _ _, (((HQ4.out.below HF5.out).set11 hq _ _).set11 hq _ _).set11 hq _ _, HS1.out, rfl, rfl, fun b o e => by have h5 := HS11.out b o e; have h6 := HG4.out; omega⟩)
         obtain ⟨b, hb⟩ : ∃ b, w3.heap.size = b := ⟨_, rfl⟩
         rw [hb] at HHD ⊢
         clear hb hW5)
      | (obtain ⟨W5, hW5⟩ : ∃ W5, ((w5.setCell ⟨w4.heap.size, 0, none⟩ (.slice sp s.1.length sc)).setCell ⟨w4.heap.size, 1, none⟩ (.map (some mb))).setCell ⟨w4.heap.size, 2, none⟩ (.slice np s.2.length nc) = W5 := ⟨_, rfl⟩
         rw [hW5]
         have HHD : Hid (Hd11 W5 w1 g w4.heap.size m sp s.1.length sc mb np s.2.length nc base G s q l) := Lib.hid (by
           have hq : ∀ b o, q = some ⟨b, o, none⟩ → b ≠ w4.heap.size := fun b o e => by
             obtain ⟨b', o', k1, k2, _⟩ := HQ4.out 0 (by decide)
             rw [e] at k1; cases k1; omega
           have e9 := HS9.out
           have e10 := HS10.out
           have e11 := HS11.out
           rw [World.size_alloc] at e9 e10 e11
           have hs : ∀ b o, sp = some ⟨b, o, none⟩ → b ≠ w4.heap.size := fun b o e => by have := e10 b o e; omega
           have hp : ∀ b o, np = some ⟨b, o, none⟩ → b ≠ w4.heap.size := fun b o e => by have := e11 b o e; omega
           have hbs : w4.heap.size < base := by omega
           rw [← hW5]
           exact ⟨below3 HB5.out HG4.out _ _ _, HMR5.out.stored _ _ mb, ((HS2.out.set hs _ _).set hs _ _).set hs _ _, ((HS3.out.set hbs _ _).set hbs _ _).set hbs _ _, ((HS4.out.set11 hp _ _).set11 hp _ _).set11 hp _ _, ((((HQ4.out.below ((Below.refl _ _).alloc (Nat.le_refl _) (.cells #[.slice none 0 0, .map none, .slice none 0 0] 56))).below HF5.out).set11 hq _ _).set11 hq _ _).set11 hq _ _, HS1.out, rfl, rfl, fun b o e => by have h5 := e11 b o e; have h6 := HG4.out; omega⟩)
         obtain ⟨b, hb⟩ : ∃ b, w4.heap.size = b := ⟨_, rfl⟩
         rw [hb] at HHD ⊢
         clear hb hW5)
      | (obtain ⟨W5, hW5⟩ : ∃ W5, w5.alloc (.cells #[.slice sp s.1.length sc, .map (some mb), .slice np s.2.length nc] 56) = W5 := ⟨_, rfl⟩
         rw [hW5]
         have HHD : Hid (Hd11 W5 w1 g w5.heap.size m sp s.1.length sc mb np s.2.length nc base G s q l) := Lib.hid (by
           have hal : Below w5.heap.size w5 W5 := hW5 ▸ (Below.refl _ _).alloc (Nat.le_refl _) _
           refine ⟨hW5 ▸ HB5.out.alloc HG5.out _, hW5 ▸ heap_alloc_new w5 _, HS2.out.below hal, HS3.out.below hal, HS4.out.below hal, (HQ4.out.below HF5.out).below hal, HS1.out, rfl, rfl, fun b o e => by have h5 := HS11.out b o e; have h6 := HG4.out; omega⟩)
         obtain ⟨b, hb⟩ : ∃ b, w5.heap.size = b := ⟨_, rfl⟩
         rw [hb] at HHD ⊢
         clear hb hW5)
    all_goals
      obtain ⟨n, hn⟩ : ∃ n, s.1.length = n := ⟨_, rfl⟩
      obtain ⟨n2, hn2⟩ : ∃ n2, s.2.length = n2 := ⟨_, rfl⟩
      rw [hn, hn2] at HHD ⊢
      have n0 : (0 : Int) ≤ (n : Int) := by omega
      have n66 : (n : Int) ≤ 66 := by have := HS8.out; omega
      have S5 := HS5.out; have S6 := HS6.out
      rw [hn] at S5 S6
      have HS5n := Lib.hid S5; have HS6n := Lib.hid S6
      have hmt := HHD.out.mt
      obtain ⟨m0, m1, m2⟩ := hmt.cells
      have ml := hmt.lt
      clear S5 S6 hmt HS1 HS2 HS3 HS4 HS5 HS6 HS8 HS9 HS10 HS11 HF5 HF4 HFa HFb HMR3 HMT z0 z1 z2 zl hn hn2
      by_cases hmo : most < (n : Int)
      · have d0 : decide (most < (n : Int)) = true := decide_eq_true hmo
        have HMO := Lib.hid hmo
        have hD := HD.out _ HHD.out.bel
        obtain ⟨e0, e1, e2, e3, e4⟩ := hD.cells
        have f0 := hD.free 0; have f1 := hD.free 1; have f2 := hD.free 2; have f3 := hD.free 3; have f4 := hD.free 4
        have hl := hD.lt
        have Z := Lib.hid (hD.stored none 0 0 0 0 none 0 0 none 0 0).cells
        have HFI := Lib.hid (HE.out _ ((show Below (g + 1) w1 (((((W5.setCell ⟨g + 1, 0, none⟩ (.slice none 0 0)).setCell ⟨g + 1, 1, none⟩ (.int .i64 0)).setCell ⟨g + 1, 2, none⟩ (.int .i64 0)).setCell ⟨g + 1, 3, none⟩ (.slice none 0 0)).setCell ⟨g + 1, 4, none⟩ (.slice none 0 0)) from ((((((HHD.out.bel.mono (Nat.le_succ _)).setCell (p := ⟨g + 1, 0, none⟩) (Nat.le_refl _) _).setCell (p := ⟨g + 1, 1, none⟩) (Nat.le_refl _) _).setCell (p := ⟨g + 1, 2, none⟩) (Nat.le_refl _) _).setCell (p := ⟨g + 1, 3, none⟩) (Nat.le_refl _) _).setCell (p := ⟨g + 1, 4, none⟩) (Nat.le_refl _) _)) : Below (g + 1) w1 _))
        clear hD hmo
        go_wp2_with fail
        refine bodyPost_ret (v := .tuple #[dfV none 0 0 0 0 none 0 0 none 0 0, .int .i64 5]) (by simp [results, Try.results8, go_sem, Z.out]) rfl ?_
        exact ⟨fun h => absurd HRR.out h, fun _ _ => ⟨_, _, _, _, _, _, _, rfl, HFI.out⟩, fun _ h => by have := HS5n.out HMO.out; omega⟩
      · have d0 : decide (most < (n : Int)) = false := decide_eq_false hmo
        have hnm : (n : Int) ≤ most := by omega
        have HSUB := Lib.hid (HS6n.out hnm)
        have HNM := Lib.hid hnm
        have hfin : fin = ((fin.toNat : Nat) : Int) := by have := HRR.out.1; omega
        have hfm : fin.toNat < m := by have := HRR.out.1; omega
        have hhv := having_is sp sc base m fin.toNat G s.1 (by omega) hfm (by rw [HHD.out.len]; omega) W5.drew (show rdG11 W5.drew sp G from HHD.out.rg) (show okG11 W5.drew base m G s.1 from HHD.out.ro)
        rw [HHD.out.len, ← hfin] at hhv
        have HHV := Lib.hid hhv
        have nf := HN.out _ HHD.out.bel
        have nc2 := nf.cells.2.2
        have nl := nf.lt
        have HSS : Hid (∀ w', Below W5.heap.size W5 w' → w'.cell? ⟨b, 2, none⟩ = some (.slice np n2 nc) ∧ w'.cell? ⟨b, 0, none⟩ = some (.slice sp n sc) ∧ w'.cell? ⟨g, 2, none⟩ = some (.int .i64 fin)) := Lib.hid fun w' hb => ⟨(HHD.out.mt.below hb HHD.out.mt.lt).cells.2.2, (HHD.out.mt.below hb HHD.out.mt.lt).cells.1, (nf.below hb nl).cells.2.2⟩
        have HGW : Hid (g + 2 ≤ W5.heap.size) := Lib.hid (by have := HHD.out.bel.size; have := HZ.out; omega)
        have HBG : Hid (g + 1 ≠ b) := Lib.hid (by
          intro e
          have h1 := (HD.out _ HHD.out.bel)
          have h2 := HHD.out.mt
          unfold isDf at h1
          unfold isMt at h2
          rw [e, h2] at h1
          simp at h1)
        clear hmo hnm hfin hfm hhv nf HS5n HS6n
        have hb4 := build_df4
        go_wp2_with fail
        go_region_held_law (fun w' => w'.cell? ⟨b, 2, none⟩ = some (.slice np n2 nc) ∧ w'.cell? ⟨b, 0, none⟩ = some (.slice sp n sc) ∧ w'.cell? ⟨g, 2, none⟩ = some (.int .i64 fin))
          (first | exact HSS.out _ (Below.refl _ _).drew | exact HSS.out _ HB8.out | exact HS9.out)
          (first | (go_at_call 24; (with_reducible refine HHV.out.mono ?_); rintro e w8 ⟨q8, c8, rfl, h1, h2, h3⟩; have hD8 := HD.out _ (HHD.out.bel.drew.trans (h2.mono HGW.out)); obtain ⟨e0, e1, e2, e3, e4⟩ := hD8.cells; have f0 := hD8.free 0; have f1 := hD8.free 1; have f2 := hD8.free 2; have f3 := hD8.free 3; have f4 := hD8.free 4; have hl8 := hD8.lt; have HD8 := Lib.hid hD8; have Z := Lib.hid (hD8.stored q 259 c (W : Int) 0 np n2 nc q8 n c8).cells; have HR8 := Lib.hid h1; have HNE8 : Hid (∀ b' o, q8 = some ⟨b', o, none⟩ → b' ≠ g + 1) := Lib.hid (fun b' o e => by have k1 := h3 b' o e; have k2 := HGW.out; have k3 : W5.heap.size ≤ b' := k1; omega); have HQN : Hid (∀ b' o, q = some ⟨b', o, none⟩ → b' ≠ g + 1) := Lib.hid (hD8.no_row (HHD.out.rc.below (show Below W5.heap.size W5 w8 from (Below.refl _ _).drew.trans h2)) (by decide)); have HNN : Hid (rdL w8 np n2 (fun j => ((s.2.getD j 0 : Nat) : Int)) ∧ rdL w8 q 259 l) := Lib.hid ⟨HHD.out.rn.below (show Below W5.heap.size W5 w8 from (Below.refl _ _).drew.trans h2), HHD.out.rc.below (show Below W5.heap.size W5 w8 from (Below.refl _ _).drew.trans h2)⟩; have HP8 := Lib.hid HHD.out.fp; have HB8 : Hid (Below W5.heap.size W5 w8) := Lib.hid ((Below.refl _ _).drew.trans h2); have HS9 : Hid ((((((w8.setCell ⟨g + 1, 0, none⟩ (.slice q 259 c)).setCell ⟨g + 1, 1, none⟩ (.int .i64 (W : Int))).setCell ⟨g + 1, 2, none⟩ (.int .i64 0)).setCell ⟨g + 1, 3, none⟩ (.slice np n2 nc)).setCell ⟨g + 1, 4, none⟩ (.slice q8 n c8)).cell? ⟨b, 2, none⟩ = some (.slice np n2 nc) ∧ (((((w8.setCell ⟨g + 1, 0, none⟩ (.slice q 259 c)).setCell ⟨g + 1, 1, none⟩ (.int .i64 (W : Int))).setCell ⟨g + 1, 2, none⟩ (.int .i64 0)).setCell ⟨g + 1, 3, none⟩ (.slice np n2 nc)).setCell ⟨g + 1, 4, none⟩ (.slice q8 n c8)).cell? ⟨b, 0, none⟩ = some (.slice sp n sc) ∧ (((((w8.setCell ⟨g + 1, 0, none⟩ (.slice q 259 c)).setCell ⟨g + 1, 1, none⟩ (.int .i64 (W : Int))).setCell ⟨g + 1, 2, none⟩ (.int .i64 0)).setCell ⟨g + 1, 3, none⟩ (.slice np n2 nc)).setCell ⟨g + 1, 4, none⟩ (.slice q8 n c8)).cell? ⟨g, 2, none⟩ = some (.int .i64 fin)) := Lib.hid (s9_of HBG.out (HSS.out _ HB8.out)); clear h1 h2 h3 hD8))
        all_goals
          have HDF : Hid (dfaAt S m st fin.toNat most w (((((w8.setCell ⟨g + 1, 0, none⟩ (.slice q 259 c)).setCell ⟨g + 1, 1, none⟩ (.int .i64 (W : Int))).setCell ⟨g + 1, 2, none⟩ (.int .i64 0)).setCell ⟨g + 1, 3, none⟩ (.slice np n2 nc)).setCell ⟨g + 1, 4, none⟩ (.slice q8 n c8)) (dfV q 259 c (W : Int) 0 np n2 nc q8 n c8)) := Lib.hid (by
            refine ⟨q, c, np, n2, nc, q8, n, c8, _, _, _, by rw [HWW.out], (((((HNN.out.2.set11 HQN.out _ _).set11 HQN.out _ _).set11 HQN.out _ _).set11 HQN.out _ _).set11 HQN.out _ _), fun j hj => HQV.out j hj, by rw [HSUB.out]; exact HHD.out.n2'.symm, (((((HNN.out.1.set11 HP8.out _ _).set11 HP8.out _ _).set11 HP8.out _ _).set11 HP8.out _ _).set11 HP8.out _ _), fun j _ => by rw [HSUB.out], by rw [HSUB.out]; exact HHD.out.n1.symm, (((((HR8.out.set11 HNE8.out _ _).set11 HNE8.out _ _).set11 HNE8.out _ _).set11 HNE8.out _ _).set11 HNE8.out _ _), fun j _ => by rw [HSUB.out], HE.out _ (show Below (g + 1) w1 (((((w8.setCell ⟨g + 1, 0, none⟩ (.slice q 259 c)).setCell ⟨g + 1, 1, none⟩ (.int .i64 (W : Int))).setCell ⟨g + 1, 2, none⟩ (.int .i64 0)).setCell ⟨g + 1, 3, none⟩ (.slice np n2 nc)).setCell ⟨g + 1, 4, none⟩ (.slice q8 n c8)) from (((((((HHD.out.bel.mono (Nat.le_succ _)).trans (HB8.out.mono (Nat.le_trans (Nat.le_succ _) HGW.out))).setCell (p := ⟨g + 1, 0, none⟩) (Nat.le_refl _) _).setCell (p := ⟨g + 1, 1, none⟩) (Nat.le_refl _) _).setCell (p := ⟨g + 1, 2, none⟩) (Nat.le_refl _) _).setCell (p := ⟨g + 1, 3, none⟩) (Nat.le_refl _) _).setCell (p := ⟨g + 1, 4, none⟩) (Nat.le_refl _) _))⟩)
          clear HB8 HS9 HR8 HP8 HNE8 HQN HNN HD8 e0 e1 e2 e3 e4 f0 f1 f2 f3 f4 hl8 hb4
          go_wp2_with fail
          refine bodyPost_ret (v := .tuple #[dfV q 259 c (W : Int) 0 np n2 nc q8 n c8, .int .i64 0]) (by simp [results, Try.results8, go_sem, Z.out]) rfl ?_
          refine ⟨fun h => absurd HRR.out h, fun _ h => ?_, fun _ _ => ⟨_, rfl, HDF.out⟩⟩
          have h1 := HNM.out
          rw [HSUB.out, HHD.out.n1] at h
          omega
  · have hrr := HR.out
    rw [decide_eq_false hr] at hrr
    have HR := Lib.hid hrr
    have HNR := Lib.hid hr
    clear hrr hr hw1
    go_enter Try.func8, Try.ntmps8
    go_upto_region 1 with (fail)
    rw [HW1.out]
    clear hg
    go_wp2_with fail
    refine HR.out.mono ?_
    rintro e w2 ⟨rfl, hb⟩
    have HB2 : Hid (Below (g + 2) w1 w2) := Lib.hid (HZ.out ▸ hb)
    have hD := HD.out _ HB2.out
    obtain ⟨e0, e1, e2, e3, e4⟩ := hD.cells
    have f0 := hD.free 0; have f1 := hD.free 1; have f2 := hD.free 2; have f3 := hD.free 3; have f4 := hD.free 4
    have hl := hD.lt
    have Z := Lib.hid (hD.stored none 0 0 0 0 none 0 0 none 0 0).cells
    have HFI := Lib.hid (HE.out _ ((show Below (g + 1) w1 (((((w2.setCell ⟨g + 1, 0, none⟩ (.slice none 0 0)).setCell ⟨g + 1, 1, none⟩ (.int .i64 0)).setCell ⟨g + 1, 2, none⟩ (.int .i64 0)).setCell ⟨g + 1, 3, none⟩ (.slice none 0 0)).setCell ⟨g + 1, 4, none⟩ (.slice none 0 0)) from ((((((HB2.out.mono (Nat.le_succ _)).setCell (p := ⟨g + 1, 0, none⟩) (Nat.le_refl _) _).setCell (p := ⟨g + 1, 1, none⟩) (Nat.le_refl _) _).setCell (p := ⟨g + 1, 2, none⟩) (Nat.le_refl _) _).setCell (p := ⟨g + 1, 3, none⟩) (Nat.le_refl _) _).setCell (p := ⟨g + 1, 4, none⟩) (Nat.le_refl _) _)) : Below (g + 1) w1 _))
    clear hb z0 z1 z2 zl hD
    go_wp2_with fail
    refine bodyPost_ret (v := .tuple #[dfV none 0 0 0 0 none 0 0 none 0 0, .int .i64 3]) (by simp [results, Try.results8, go_sem, Z.out]) rfl ?_
    exact ⟨fun _ => ⟨_, _, _, _, _, _, _, _, _, _, rfl, HFI.out⟩, fun h => absurd h HNR.out, fun h => absurd h HNR.out⟩
end Go.Proofs.Ytepegohopgnmnaa
