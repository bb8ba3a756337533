/-
  The walk of meet: all sets that are met.
-/
import Derived.Test.YtepegohopgnmnaaPk30
import Derived.Deep.RegionLaw
namespace Go.Proofs.Ytepegohopgnmnaa
open Go.RowKit

/-- The block of the result, empty yet. -/
def isMr (w : World) (b : Nat) : Prop := w.heap[b]? = some (.cells #[.slice none 0 0, .map none, .slice none 0 0] 56 (0, 0))
theorem isMr.below {w w' : World} {b B : Nat} (h : isMr w b) (hb : Below B w w') (hlt : b < B) : isMr w' b := (hb.block b hlt).trans h
theorem isMr.cells {w : World} {b : Nat} (H : isMr w b) : w.cell? ⟨b, 0, none⟩ = some (.slice none 0 0) ∧ w.cell? ⟨b, 1, none⟩ = some (.map none) ∧ w.cell? ⟨b, 2, none⟩ = some (.slice none 0 0) := by
  unfold isMr at H
  refine ⟨?_, ?_, ?_⟩ <;> simp [World.cell?, H]
theorem isMr.free {w : World} {b : Nat} (H : isMr w b) (j : Nat) : w.frozen? ⟨b, j, none⟩ = false := by
  unfold isMr at H
  simp [World.frozen?, H]
theorem isMr.stored {w : World} {b : Nat} (H : isMr w b) (u v : Value) (mb : Nat) : isMt (((w.setCell ⟨b, 0, none⟩ u).setCell ⟨b, 1, none⟩ (.map (some mb))).setCell ⟨b, 2, none⟩ v) b u mb v := by
  have h1 := heap_setCell_same w b 0 _ _ u H
  have h2 := heap_setCell_same _ b 1 _ _ (.map (some mb)) h1
  have h3 := heap_setCell_same _ b 2 _ _ v h2
  unfold isMt
  rw [h3]; simp
theorem build_met (b : Nat) (w : World) : (Instr.build 56 #[(1, .map (some b))]).run Try.prog w = .ok (.agg #[.slice none 0 0, .map (some b), .slice none 0 0]) w := by kernel_rfl

/-- What is met, told. -/
def mtPost (S : Nat → Sd) (m : Nat) (st most : Int) (w : World) (e : Ending) (w' : World) : Prop :=
  ∃ base sp sc mb np nc G, ∃ s : Ms, e = .returned (.agg #[.slice sp s.1.length sc, .map (some mb), .slice np s.2.length nc]) ∧ G.length = s.1.length ∧ rdG11 w' sp G ∧ okG11 w' base m G s.1 ∧ rdL w' np s.2.length (fun j => ((s.2.getD j 0 : Nat) : Int)) ∧ Below w.heap.size w w' ∧
    (most < (s.1.length : Int) → most < ((subM S m st most).1.length : Int)) ∧ ((s.1.length : Int) ≤ most → subM S m st most = s) ∧ (0 ≤ most → (s.1.length : Int) ≤ most + 1) ∧ s.1.length ≤ 66 ∧ w.heap.size ≤ base ∧ (∀ b o, sp = some ⟨b, o, none⟩ → w.heap.size ≤ b) ∧ ∀ b o, np = some ⟨b, o, none⟩ → w.heap.size ≤ b

def lenOK (most : Int) (n : Nat) : Prop := (0 ≤ most → (n : Int) ≤ most + 1) ∧ n ≤ 66
section
variable {w : World} {base h mb m k : Nat} {L LM : List Bf} {B : List Nat} {sv nv : Value} {G : List Ls11} {D : Dm11}
/-- A store into a block that lies ahead. -/
theorem MetM.set_out (H : MetM w base h mb m L LM B sv nv G k D) {r : Nat} (hr : r < base) (j : Nat) (u : Value) : MetM (w.setCell ⟨r, j, none⟩ u) base h mb m L LM B sv nv G k D := by
  have h1 := H.bh
  have h2 := H.bm
  have ne : ∀ {v : Value} {e s n : Nat} {xs : List Value}, w.ownsRow base e s v n xs → v.ownBlock = none ∨ v.ownBlock ≠ some r := fun {v e s n xs} hv => .inr fun e2 => by
    have := (World.ownsRow.lt hv r e2).1
    omega
  exact ⟨H.mt.kept (grown_setCell w r j u) (fun e => by simp at e; omega), H.bh, H.bm, H.hm, World.ownsRow.kept H.row (grown_setCell w r j u) (ne H.row), ⟨H.oks.1, fun i hi => (H.oks.2 i hi).set (fun b o e _ => by have := (H.oks.2 i hi).2.2.2 b o e; show b ≠ r; omega) u⟩, H.mps, H.map.set (by show mb ≠ r; omega) u, World.ownsRow.kept H.nxt (grown_setCell w r j u) (ne H.nxt), H.sh, H.nh, H.sn, H.ap⟩
theorem MetM.fin {w0 : World} {S : Nat → Sd} {st most : Int} {s : Ms} {sp np : Option Addr} {sc nc : Nat} (H : MetM w base h mb m s.1 LM s.2 (.slice sp s.1.length sc) (.slice np s.2.length nc) G k D) (hb : Below w0.heap.size w0 w) (hbs : w0.heap.size ≤ base)
    (h1 : most < (s.1.length : Int) → most < ((subM S m st most).1.length : Int)) (h2 : (s.1.length : Int) ≤ most → subM S m st most = s) (h3 : lenOK most s.1.length) :
    mtPost S m st most w0 (.returned (.agg #[.slice sp s.1.length sc, .map (some mb), .slice np s.2.length nc])) w :=
  ⟨base, sp, sc, mb, np, nc, G, s, rfl, H.len, fun i hi => H.cell i hi, H.oks, H.nxt.rd11, hb, h1, h2, h3.1, h3.2, hbs, fun b o e => by
    have hn := H.row
    subst e
    exact Nat.le_trans hbs (World.ownsRow.lt hn b rfl).1, fun b o e => by
    have hn := H.nxt
    subst e
    exact Nat.le_trans hbs (World.ownsRow.lt hn b rfl).1⟩
end

set_option maxRecDepth 100000 in
set_option maxHeartbeats 16000000 in
theorem meet_is (p : Option Addr) (m cap : Nat) (S : Nat → Sd) (st fin : Int) (fq : Option Addr) (W fc : Nat) (fl : Nat → Int) (most : Int) (hm : m ≤ 600) (hr : rightP S m st fin) (hW : wdY S m = W) (hmost : most ≤ 64) (hf : ∀ c, c < W → fl c = (fsY S m c : Nat))
    (w : World) (hS : stsAt w p m S) (hw : ∀ j, j < m → okWs (S j)) (hfl : rdL w fq W fl) :
    Calls Try.prog 22 #[nfV p m cap st fin, .slice fq W fc, .int .i64 most] w (mtPost S m st most w) := by
  have hmm := @run_makeMap Try.prog
  have hbm := build_met
  obtain ⟨g, hg⟩ : ∃ g, w.heap.size = g := ⟨_, rfl⟩
  obtain ⟨W0, hW0⟩ : ∃ W0, (((w.alloc (.cells #[.slice p m cap, .int .i64 st, .int .i64 fin] 24)).alloc (.cells #[.slice none 0 0, .map none, .slice none 0 0] 56)).alloc (.map #[] 0)).alloc (.cells #[.slice none 0 0, .map (some (g + 1 + 1)), .slice none 0 0] 56) = W0 := ⟨_, rfl⟩
  have hs1 : (w.alloc (.cells #[.slice p m cap, .int .i64 st, .int .i64 fin] 24)).heap.size = g + 1 := by rw [World.size_alloc, hg]
  have hs2 : ((w.alloc (.cells #[.slice p m cap, .int .i64 st, .int .i64 fin] 24)).alloc (.cells #[.slice none 0 0, .map none, .slice none 0 0] 56)).heap.size = g + 1 + 1 := by rw [World.size_alloc, hs1]
  have hs3 : (((w.alloc (.cells #[.slice p m cap, .int .i64 st, .int .i64 fin] 24)).alloc (.cells #[.slice none 0 0, .map none, .slice none 0 0] 56)).alloc (.map #[] 0)).heap.size = g + 1 + 1 + 1 := by rw [World.size_alloc, hs2]
  have hz : W0.heap.size = g + 1 + 1 + 1 + 1 := by rw [← hW0, World.size_alloc, hs3]
  have hb0 : Below g w W0 := by
    rw [← hW0]
    exact ((((Below.refl _ _).alloc (by omega) _).alloc (by omega) _).alloc (by omega) _).alloc (by omega) _
  have hnf : is3 24 W0 g (.slice p m cap) st fin := by
    have h1 := is3.new 24 w (.slice p m cap) st fin
    rw [hg] at h1
    refine h1.below (B := g + 1) ?_ (Nat.lt_succ_self g)
    rw [← hW0]
    exact (((Below.refl _ _).alloc (by omega) _).alloc (by omega) _).alloc (by omega) _
  have hres : isMr W0 (g + 1) := by
    have h1 : isMr ((w.alloc (.cells #[.slice p m cap, .int .i64 st, .int .i64 fin] 24)).alloc (.cells #[.slice none 0 0, .map none, .slice none 0 0] 56)) (g + 1) := by
      have := heap_alloc_new (w.alloc (.cells #[.slice p m cap, .int .i64 st, .int .i64 fin] 24)) (.cells #[.slice none 0 0, .map none, .slice none 0 0] 56)
      rw [hs1] at this
      exact this
    refine h1.below (B := g + 1 + 1) ?_ (Nat.lt_succ_self _)
    rw [← hW0]
    exact ((Below.refl _ _).alloc (by omega) _).alloc (by omega) _
  have hmp : ownsK W0 (g + 1 + 1) 0 (.map []) := by
    have h1 : ownsK (((w.alloc (.cells #[.slice p m cap, .int .i64 st, .int .i64 fin] 24)).alloc (.cells #[.slice none 0 0, .map none, .slice none 0 0] 56)).alloc (.map #[] 0)) (g + 1 + 1) 0 (.map []) := by
      have := World.ownsMap_made (H := Unit) ((w.alloc (.cells #[.slice p m cap, .int .i64 st, .int .i64 fin] 24)).alloc (.cells #[.slice none 0 0, .map none, .slice none 0 0] 56)) Try.prog 110 (plainElem Try.prog 3)
      rw [hs2] at this
      exact this
    refine ownsK.below h1 (B := g + 1 + 1 + 1) ?_ (Nat.lt_succ_self _)
    rw [← hW0]
    exact (Below.refl _ _).alloc (by omega) _
  have hmt : isMt W0 (g + 1 + 1 + 1) (.slice none 0 0) (g + 1 + 1) (.slice none 0 0) := by
    rw [← hW0, ← hs3]
    exact heap_alloc_new _ _
  have hM0 : MetM W0 (g + 1 + 1) (g + 1 + 1 + 1) (g + 1 + 1) m [] [] [] (.slice none 0 0) (.slice none 0 0) [] 0 (.map []) :=
    ⟨hmt, by omega, Nat.le_refl _, by omega, ⟨rfl, .inl ⟨rfl, rfl⟩⟩, ⟨rfl, fun i hi => absurd hi (Nat.not_lt_zero _)⟩, mpS_nil m, hmp, ⟨rfl, .inl ⟨rfl, rfl⟩⟩, by simp [Value.ownBlock], by simp [Value.ownBlock], .inl rfl, fun i hi => absurd hi (Nat.not_lt_zero _)⟩
  have hS0 : stsAt W0 p m S := ⟨hS.1, fun b off e => (hS.2 b off e).below (hg.symm ▸ hb0)⟩
  have HW0 := Lib.hid hW0; have HG := Lib.hid hg
  have HHZ := Lib.hid hz; have HRES := Lib.hid hres; have HM0 := Lib.hid hM0; have HNF := Lib.hid hnf; have HB0 := Lib.hid hb0; have HS0 := Lib.hid hS0
  have HFL := Lib.hid hfl; have HSw := Lib.hid hS
  clear hs1 hs2 hs3 hW0 hmp hmt hz hres hM0 hnf hb0 hS0 hS hfl
  go_enter Try.func22, Try.ntmps22
  go_upto_region 2 with (fail)
  rw [HW0.out]
  have hz := HHZ.out; have hres := HRES.out; have hM0 := HM0.out
  clear HHZ HRES HM0 hg hmm hbm HW0
  have hgr : g < g + 1 := Nat.lt_succ_self g
  obtain ⟨r, hr1⟩ : ∃ r, g + 1 = r := ⟨_, rfl⟩
  rw [hr1] at hz hres hM0 hgr ⊢
  have hrb : r < r + 1 := Nat.lt_succ_self r
  obtain ⟨mb, hmb⟩ : ∃ mb, r + 1 = mb := ⟨_, rfl⟩
  rw [hmb] at hz hM0 hrb ⊢
  obtain ⟨h, hh⟩ : ∃ h, mb + 1 = h := ⟨_, rfl⟩
  rw [hh] at hz hM0 ⊢
  have HGR := Lib.hid hgr; have HRB := Lib.hid hrb; have HRM := Lib.hid hrb
  clear hr1 hmb hh hgr hrb
  obtain ⟨z0, z1, z2⟩ := HNF.out.cells
  have zl := HNF.out.lt
  have hrn := right_rng hr
  have hb1 : Below W0.heap.size W0 (W0.alloc (.cells #[.int .i64 st] 3)) := (Below.refl _ _).alloc (Nat.le_refl _) _
  have hl1 : rdL (W0.alloc (.cells #[.int .i64 st] 3)) (some ⟨h + 1, 0, none⟩) 1 (fun _ => st) := fun j hj => by
    have : j = 0 := by omega
    subst this
    refine ⟨h + 1, 0, rfl, by rw [World.size_alloc]; omega, ?_⟩
    rw [← hz]; simp
  have HC := Lib.hid (clo_both p m cap S st fin 0 (some ⟨h + 1, 0, none⟩) 1 1 (fun _ => st) (W0.alloc (.cells #[.int .i64 st] 3)) hm (by decide) ⟨HS0.out.1, fun b off e => (HS0.out.2 b off e).below hb1⟩ hl1)
  have HT0 : Hid (Cl S 0 (nmd m 1 fun _ => st) = pT m (T0Y S m st)) := Lib.hid (by
    unfold T0Y
    rw [pT_up hrn]
    congr 1
    funext q
    apply propext
    constructor
    · rintro ⟨h1, h2⟩; exact ⟨h1, (inL_iff h1).2 h2⟩
    · rintro ⟨h1, h2⟩; exact ⟨h1, (inL_iff h1).1 h2⟩)
  have HM1 := Lib.hid (hM0.below hb1)
  have HBL1 := Lib.hid (hb1.mono (show mb ≤ W0.heap.size from hM0.lt))
  have HR := Lib.hid hr
  have HZ := Lib.hid hz
  clear hb1 hl1 hM0 hr
  go_wp2_with fail
  refine HC.out.mono ?_
  rintro e w2 ⟨hc, -⟩
  obtain ⟨p2, n2, c2, l2, rfl, h1, h2, h3, h4, h5⟩ := cl_ls HT0.out (hc HR.out)
  have HM2 := Lib.hid (HM1.out.below h4)
  have HX2 : Hid (okL11 w2 mb m ⟨p2, n2, c2, l2⟩ (T0Y S m st)) := Lib.hid ⟨h1, h2, h3, fun b o e => Nat.le_trans HM1.out.lt (h5 b o e)⟩
  have HA2 : Hid (∀ b o, p2 = some ⟨b, o, none⟩ → 0 < n2 → apt11 h mb (.slice none 0 0) (.slice none 0 0) b) := Lib.hid fun b o e _ => HM1.out.fresh (h5 b o e)
  have HBL2 := Lib.hid (HBL1.out.trans (h4.mono HM1.out.lt))
  have HPU := Lib.hid (put_is mb h mb m [] [] (.slice none 0 0) (.slice none 0 0) [] (.map []) ⟨p2, n2, c2, l2⟩ (T0Y S m st) (by omega) (by decide) w2 HM2.out HX2.out HA2.out)
  clear hc h1 h2 h3 h4 h5 HC z0 z1 z2 zl
  go_wp2_with fail
  refine HPU.out.mono ?_
  rintro e w3 ⟨rfl, ⟨sv3, G3, D3, hM3⟩, hb3⟩
  have HI3 : Hid (inv11 w3 mb h mb m ([T0Y S m st], [])) := Lib.hid ⟨sv3, .slice none 0 0, G3, D3, hM3⟩
  have HB3 := Lib.hid (HBL2.out.trans hb3)
  clear hM3 hb3 HPU HA2 HX2 HM2 HBL2 HM1 HBL1 HT0
  go_wp2_with fail
  clear hz
  have HMR : Hid (∀ wr, Below mb W0 wr → isMr wr r) := Lib.hid fun wr hb => hres.below hb HRB.out
  have HBG : Hid (∀ wr, Below mb W0 wr → Below w.heap.size w wr) := Lib.hid fun wr hb => by
    rw [HG.out]
    exact HB0.out.trans (hb.mono (by have := HGR.out; have := HRB.out; omega))
  have HGW : Hid (w.heap.size ≤ r) := Lib.hid (by rw [HG.out]; exact Nat.le_of_lt HGR.out)
  have HMW : Hid (w.heap.size ≤ mb) := Lib.hid (by rw [HG.out]; have := HGR.out; have := HRB.out; omega)
  have HSUB : Hid (subM S m st most = fullM (goC S m) m W (T0Y S m st) most) := Lib.hid (by rw [← hW]; rfl)
  have HNW : Hid (∀ wr, Below mb W0 wr → is3 24 wr g (.slice p m cap) st fin) := Lib.hid fun wr hb => HNF.out.below hb (by have := HGR.out; have := HRB.out; omega)
  have HI0 : Hid (inv11 w3 mb h mb m (atM (goC S m) m W (T0Y S m st) 0)) := HI3
  have HL0 : Hid (lenOK most (atM (goC S m) m W (T0Y S m st) 0).1.length) := Lib.hid ⟨fun h => by show ((1 : Nat) : Int) ≤ _; omega, by show 1 ≤ 66; decide⟩
  have HA0 : Hid (∀ b, b < 0 → b < (atM (goC S m) m W (T0Y S m st) b).1.length ∧ ((atM (goC S m) m W (T0Y S m st) b).1.length : Int) ≤ most) := Lib.hid fun b hb => absurd hb (Nat.not_lt_zero _)
  clear hres HI3 HRB HGR
  go_loopw [8] (fun kv wr => ∃ a : Nat, kv = .int .i64 (a : Nat) ∧ a ≤ 66 ∧ Hid (∀ b, b < a → b < (atM (goC S m) m W (T0Y S m st) b).1.length ∧ ((atM (goC S m) m W (T0Y S m st) b).1.length : Int) ≤ most) ∧ Hid (inv11 wr mb h mb m (atM (goC S m) m W (T0Y S m st) a)) ∧
    Hid (lenOK most (atM (goC S m) m W (T0Y S m st) a).1.length) ∧ Hid (Below mb W0 wr)) (fun kv _ => 70 - (intOf kv).toNat)
  case atStart => exact ⟨0, rfl, by decide, HA0, HI0, HL0, HB3⟩
  case round =>
    clear HA0 HI0 HL0 HB3
    obtain ⟨a, rfl, ha, HA, HI, HL, HB⟩ := hrel
    obtain ⟨sa, hsa⟩ : ∃ sa, atM (goC S m) m W (T0Y S m st) a = sa := ⟨_, rfl⟩
    have HSA := Lib.hid hsa
    rw [hsa] at HI HL
    obtain ⟨sv, nv, G, D, hM⟩ := HI.out
    obtain ⟨⟨sp, sc, rfl⟩, np, nc, rfl⟩ := hM.slices
    obtain ⟨m0, m1, m2⟩ := hM.mt.cells
    have ml := hM.mt.lt
    obtain ⟨n, hn⟩ : ∃ n, sa.1.length = n := ⟨_, rfl⟩
    have HN := Lib.hid hn
    have HM := Lib.hid hM
    have hln := HL.out.2
    rw [hn] at m0 hln
    have i0 : (0 : Int) ≤ (a : Int) := by omega
    have n0 : (n : Int) ≤ 66 := by omega
    clear hsa hM hn
    by_cases hlt : a < n
    · have i1 : (a : Int) < (n : Int) := by omega
      obtain ⟨X, hX⟩ : ∃ X, (atM (goC S m) m W (T0Y S m st) a).1[a]? = some X := ⟨_, List.getElem?_eq_getElem (by rw [HSA.out, HN.out]; exact hlt)⟩
      have HX := Lib.hid hX
      have HW1 : Hid (0 < W) := Lib.hid (hW ▸ wdY_pos S m)
      have w0 : (0 : Int) ≤ (W : Int) := by omega
      have w1 : (W : Int) ≤ 259 := by have := wdY_le S m; omega
      have HI0 : Hid (inv11 wr mb h mb m (clM (goC S m) m X 0 sa)) := HI
      have HL0 : Hid (lenOK most (clM (goC S m) m X 0 sa).1.length) := HL
      have HC0 : Hid ((0 : Nat) = 0 ∨ (n : Int) ≤ most) := Lib.hid (.inl rfl)
      clear hX HI HL HM m1 m2
      go_wp2_with fail
      clear m0 ml
      go_loopw [28] (fun iv wx => ∃ c : Nat, c ≤ W ∧ iv = .int .i64 (c : Nat) ∧ Hid (c = 0 ∨ (n : Int) ≤ most) ∧ Hid (inv11 wx mb h mb m (clM (goC S m) m X c sa)) ∧ Hid (lenOK most (clM (goC S m) m X c sa).1.length) ∧ Hid (Below mb W0 wx)) (fun iv _ => W - (intOf iv).toNat)
      case atStart => exact ⟨0, Nat.zero_le _, rfl, Lib.hid (.inl rfl), HI0, HL0, HB⟩
      case round =>
        clear HI0 HL0 HC0 HB
        obtain ⟨c, hc, rfl, HC, HI, HL, HB⟩ := hrel
        by_cases hltc : c < W
        · obtain ⟨s, hs⟩ : ∃ s, clM (goC S m) m X c sa = s := ⟨_, rfl⟩
          have HS := Lib.hid hs
          have hold : s.1[a]? = some X := by rw [← hs, clM_old (by rw [HN.out]; exact hlt), ← HSA.out]; exact HX.out
          rw [hs] at HI HL
          obtain ⟨sv, nv, G, D, hM⟩ := HI.out
          obtain ⟨⟨sp, sc, rfl⟩, np, nc, rfl⟩ := hM.slices
          obtain ⟨m0, m1, m2⟩ := hM.mt.cells
          have ml := hM.mt.lt
          obtain ⟨k, hk⟩ : ∃ k, s.1.length = k := ⟨_, rfl⟩
          obtain ⟨n2, hn2⟩ : ∃ n2, s.2.length = n2 := ⟨_, rfl⟩
          have HK := Lib.hid hk; have HN2 := Lib.hid hn2
          have HM := Lib.hid hM
          have hlk := HL.out.2
          have hak : a < s.1.length := by
            rcases Nat.lt_or_ge a s.1.length with g | g
            · exact g
            · rw [List.getElem?_eq_none g] at hold; cases hold
          have hlg : lg s.1 a = X := lg_of hold
          rw [hk] at m0 hlk hak
          rw [hn2] at m2
          obtain ⟨fb, fo, rfl, hfb, hfc⟩ := (HFL.out.below (HBG.out _ HB.out)) c hltc
          rw [hf c hltc] at hfc
          obtain ⟨y, hy⟩ : ∃ y, fsY S m c = y := ⟨_, rfl⟩
          have hy259 : y < 259 := by rw [← hy]; exact (fsY_int (hW ▸ hltc)).2
          have HY := Lib.hid hy
          rw [hy] at hfc
          have c0 : (0 : Int) ≤ (c : Int) := by omega
          have c1 : (c : Int) < (W : Int) := by omega
          have k0 : (0 : Int) ≤ (k : Int) := by omega
          have k1 : (k : Int) ≤ 66 := by omega
          clear hs hold hk hn2 hy HI
          by_cases hmk : most < (k : Int)
          · have d0 : decide (most < (k : Int)) = true := decide_eq_true hmk
            have hmr := HMR.out _ HB.out
            obtain ⟨f0, f1, f2⟩ : wr.frozen? ⟨r, 0, none⟩ = false ∧ wr.frozen? ⟨r, 1, none⟩ = false ∧ wr.frozen? ⟨r, 2, none⟩ = false := ⟨hmr.free 0, hmr.free 1, hmr.free 2⟩
            obtain ⟨e0, e1, e2⟩ := hmr.cells
            have hrlt := lt_of_block hmr
            have Z := Lib.hid (hmr.stored (.slice sp k sc) (.slice np n2 nc) mb).cells
            have HMF := Lib.hid (((HM.out.set_out HRM.out 0 (.slice sp k sc)).set_out HRM.out 1 (.map (some mb))).set_out HRM.out 2 (.slice np n2 nc))
            have HBF : Hid (Below w.heap.size w (((wr.setCell ⟨r, 0, none⟩ (.slice sp k sc)).setCell ⟨r, 1, none⟩ (.map (some mb))).setCell ⟨r, 2, none⟩ (.slice np n2 nc))) := Lib.hid ((((HBG.out _ HB.out).setCell (p := ⟨r, 0, none⟩) HGW.out _).setCell (p := ⟨r, 1, none⟩) HGW.out _).setCell (p := ⟨r, 2, none⟩) HGW.out _)
            have HP : Hid (mtPost S m st most w (.returned (.agg #[.slice sp k sc, .map (some mb), .slice np n2 nc])) (((wr.setCell ⟨r, 0, none⟩ (.slice sp k sc)).setCell ⟨r, 1, none⟩ (.map (some mb))).setCell ⟨r, 2, none⟩ (.slice np n2 nc))) := Lib.hid (by
              have h1 := HMF.out
              rw [← HK.out, ← HN2.out] at h1
              have h2 := HBF.out
              rw [← HK.out, ← HN2.out] at h2
              rw [← HK.out, ← HN2.out]
              exact h1.fin h2 HMW.out (fun _ => by rw [HSUB.out]; exact meet_stop HA.out HX.out hc (by rw [HSA.out, HS.out, HK.out]; exact hmk)) (fun g => absurd hmk (by rw [HK.out] at g; omega)) HL.out)
            clear hmr HMF HBF HB HM HL hmk
            go_wp2_with fail
            refine bodyPost_ret (v := .agg #[.slice sp k sc, .map (some mb), .slice np n2 nc]) (by simp [results, Try.results22, go_sem, Z.out]) rfl ?_
            exact HP.out
          · have d0 : decide (most < (k : Int)) = false := decide_eq_false hmk
            have hx := HM.out.cell a (by rw [HM.out.len, HK.out]; exact hak)
            have hok := HM.out.oks.2 a (by rw [HM.out.len, HK.out]; exact hak)
            rw [hlg] at hok
            obtain ⟨sg, rfl, hsg, hsc⟩ := hx
            obtain ⟨x, hxg⟩ : ∃ x, G[a]'(by rw [HM.out.len, HK.out]; exact hak) = x := ⟨_, rfl⟩
            rw [hxg] at hsc hok
            obtain ⟨xp, xn, xc, xl⟩ := x
            have hkm : (k : Int) ≤ most := by omega
            have HS0' : Hid (stsAt wr p m S) := Lib.hid ⟨HSw.out.1, fun b off e => (HSw.out.2 b off e).below (HBG.out _ HB.out)⟩
            obtain ⟨U, hU⟩ : ∃ U, goY S m y X = U := ⟨_, rfl⟩
            obtain ⟨f, hf1⟩ : ∃ f, fiS m s.1 U = f := ⟨_, rfl⟩
            obtain ⟨L', hL1⟩ : ∃ L', adS m s.1 U = L' := ⟨_, rfl⟩
            have hby := by_is p m cap S st fin y xp xn xc xl X hm hy259 (by have := hok.2.2.1; dsimp only at this; omega) HR.out hok.2.1 wr.drew (show stsAt wr.drew p m S from HS0'.out) hw hok.1
            rw [hU] at hby
            have HBY := Lib.hid hby
            have HSUC : Hid (clM (goC S m) m X (c + 1) sa = (L', s.2 ++ [f])) := Lib.hid (by
              show (adS m (clM (goC S m) m X c sa).1 (goC S m c X), (clM (goC S m) m X c sa).2 ++ [fiS m (clM (goC S m) m X c sa).1 (goC S m c X)]) = _
              rw [HS.out, show goC S m c X = U by unfold goC; rw [HY.out, hU], hf1, hL1])
            have HLL : Hid (lenOK most L'.length) := Lib.hid (by
              have h1 := (adS_len m s.1 U).2
              rw [hL1, HK.out] at h1
              exact ⟨fun _ => by omega, by omega⟩)
            have HB2L : Hid (s.2.length ≤ 1000000) := Lib.hid (by
              have h1 := (clM_len (go := goC S m) (m := m) (X := X) (s := sa) c).2.2
              have h2 := (atM_nx a fun b hb => (HA.out b hb).1).1
              rw [HSA.out] at h2
              rw [HS.out, h2] at h1
              have h3 : a * W ≤ 66 * 259 := Nat.mul_le_mul ha (by omega)
              omega)
            have HNM : Hid (c + 1 = 0 ∨ (n : Int) ≤ most) := Lib.hid (.inr (by
              have h1 := (clM_len (go := goC S m) (m := m) (X := X) (s := sa) c).1
              rw [HS.out, HK.out, HN.out] at h1
              omega))
            have hM2 := HM.out
            rw [HK.out, HN2.out] at hM2
            have HMd := Lib.hid (hM2.below (Below.refl _ _).drew)
            have HBd : Hid (Below mb W0 wr.drew) := Lib.hid HB.out.drew
            have HP6 : Hid (∀ (x6 : Ls11) w6, MetM w6 mb h mb m s.1 s.1 s.2 (.slice (some ⟨sg, 0, none⟩) k sc) (.slice np n2 nc) G k D → okL11 w6 mb m x6 U → (∀ b o, x6.p = some ⟨b, o, none⟩ → 0 < x6.n → apt11 h mb (.slice (some ⟨sg, 0, none⟩) k sc) (.slice np n2 nc) b) →
                Calls Try.prog 44 #[.pointer (some ⟨h, 0, none⟩), .slice x6.p x6.n x6.c] w6 fun e w' => e = .returned (.int .i64 (f : Int)) ∧ (∃ sv' G' D', MetM w' mb h mb m L' L' s.2 sv' (.slice np n2 nc) G' L'.length D') ∧ Below mb w6 w') := Lib.hid fun x6 w6 hM hx hap => by
              have := put_is mb h mb m s.1 s.2 (.slice (some ⟨sg, 0, none⟩) k sc) (.slice np n2 nc) G D x6 U (by omega) (by rw [HK.out]; omega) w6 (by rw [HK.out]; exact hM) hx hap
              rw [hf1, hL1] at this
              exact this
            obtain ⟨z0, z1, z2⟩ := (HNW.out _ HB.out).cells
            have zl := (HNW.out _ HB.out).lt
            clear hok hxg hkm hmk HS0' hlg hU hf1 hL1 hby hM2
            go_wp2_with fail
            go_region_law (first
              | (refine step_call rfl 46 _ Try.func46 (by kernel_rfl) (by kernel_rfl) _ _ rfl _ (by simp only [List.map_toArray, List.map_cons, List.map_nil]; rfl) HBY.out ?_; rintro e w6 ⟨p6, n6, c6, l6, rfl, h1, h2, h3, h4, h5⟩; refine ⟨_, rfl, ?_⟩; have HM6 := Lib.hid (HMd.out.below h4); have mc6 := HM6.out.mt.cells.2.2; have ml6 := HM6.out.mt.lt; have HB6 := Lib.hid (HBd.out.trans (h4.mono HMd.out.lt)); have HP7 := Lib.hid (HP6.out ⟨p6, n6, c6, l6⟩ w6 HM6.out ⟨h1, h2, h3, fun b o e => Nat.le_trans HMd.out.lt (h5 b o e)⟩ (fun b o e _ => HMd.out.fresh (h5 b o e))); clear h1 h2 h3 h4 h5)
              | (refine step_call rfl 44 _ Try.func44 (by kernel_rfl) (by kernel_rfl) _ _ rfl _ (by simp only [List.map_toArray, List.map_cons, List.map_nil]; rfl) HP7.out ?_; rintro e w7 ⟨rfl, ⟨sv7, G7, D7, hM7⟩, hb7⟩; refine ⟨_, rfl, ?_⟩; have mc7 := hM7.mt.cells.2.2; have ml7 := hM7.mt.lt; have HB8 := Lib.hid ((HB6.out.trans hb7).alloc (Nat.le_trans hM7.lt (Nat.le_refl _)) (.cells #[.int .i64 (f : Int)] 3)); have HM8 : Hid (MetM (w7.alloc (.cells #[.int .i64 (f : Int)] 3)) mb h mb m L' L' s.2 sv7 (.slice np n2 nc) G7 L'.length D7) := Lib.hid (hM7.below ((Below.refl _ _).alloc (Nat.le_refl _) _)); have HC8 : Hid ((w7.alloc (.cells #[.int .i64 (f : Int)] 3)).cell? ⟨w7.heap.size, 0, none⟩ = some (.int .i64 (f : Int))) := Lib.hid (by simp); have HLT8 := Lib.hid HM8.out.lt; have HO8 := Lib.hid HM8.out.nxt; clear hM7 hb7)
              | (refine step_append_nx rfl _ _ rfl mb (.slice np n2 nc) s.2 rfl HO8.out w7.heap.size f rfl HC8.out HB2L.out HLT8.out ?_; intro p9 n9 c9 w9 hn9 ho9 hg9 hv9; have mt9 := HM8.out.mt.kept hg9 (Ne.symm HM8.out.nh.1); have mc9 := mt9.cells.2.2; have mf9 := mt9.free 2; have ml9 := mt9.lt; have HFI := Lib.hid (HM8.out.next hg9 ho9 hv9); have HB9 := Lib.hid (HB8.out.grown hg9 HLT8.out (fun r hr => (World.ownsRow.lt HO8.out r hr).1)); clear hn9 ho9 hg9 hv9 mt9))
            all_goals
              have HI2 : Hid (inv11 (w9.setCell ⟨h, 2, none⟩ (.slice p9 n9 c9)) mb h mb m (clM (goC S m) m X (c + 1) sa)) := Lib.hid (by rw [HSUC.out]; exact ⟨_, _, _, _, HFI.out⟩)
              have HL2 : Hid (lenOK most (clM (goC S m) m X (c + 1) sa).1.length) := Lib.hid (by rw [HSUC.out]; exact HLL.out)
              have HBF : Hid (Below mb W0 (w9.setCell ⟨h, 2, none⟩ (.slice p9 n9 c9))) := Lib.hid (HB9.out.setCell (p := ⟨h, 2, none⟩) HMd.out.bh _)
              clear HFI HB9 HLT8 HO8 HC8 HM8 HB8 HP7 HB6 HM6 HP6
              go_wp2_with fail
              go_roundw
              case rel => exact ⟨c + 1, by omega, by go_num, HNM, HI2, HL2, HBF⟩
              case measure => simp [intOf]; omega
        · obtain rfl : c = W := by omega
          have hnm : (n : Int) ≤ most := by
            rcases HC.out with h | h
            · have := HW1.out; omega
            · exact h
          have HA2 : Hid (∀ b, b < a + 1 → b < (atM (goC S m) m c (T0Y S m st) b).1.length ∧ ((atM (goC S m) m c (T0Y S m st) b).1.length : Int) ≤ most) := Lib.hid fun b hb => by
            by_cases e : b = a
            · subst e; rw [HSA.out, HN.out]; exact ⟨hlt, hnm⟩
            · exact HA.out b (by omega)
          have e1 : atM (goC S m) m c (T0Y S m st) (a + 1) = clM (goC S m) m X c sa := by rw [atM_go HX.out, HSA.out]
          have HI2 : Hid (inv11 wr mb h mb m (atM (goC S m) m c (T0Y S m st) (a + 1))) := Lib.hid (by rw [e1]; exact HI.out)
          have HL2 : Hid (lenOK most (atM (goC S m) m c (T0Y S m st) (a + 1)).1.length) := Lib.hid (by rw [e1]; exact HL.out)
          clear e1 HI HL HC
          go_wp2_with fail
          go_roundw
          case rel => exact ⟨a + 1, by go_num, by omega, HA2, HI2, HL2, HB⟩
          case measure => simp [intOf]; omega
    · have i1 : ¬ (a : Int) < (n : Int) := by omega
      have hmr := HMR.out _ HB.out
      obtain ⟨f0, f1, f2⟩ : wr.frozen? ⟨r, 0, none⟩ = false ∧ wr.frozen? ⟨r, 1, none⟩ = false ∧ wr.frozen? ⟨r, 2, none⟩ = false := ⟨hmr.free 0, hmr.free 1, hmr.free 2⟩
      obtain ⟨e0, e1, e2⟩ := hmr.cells
      have hrlt := lt_of_block hmr
      obtain ⟨n2, hn2⟩ : ∃ n2, sa.2.length = n2 := ⟨_, rfl⟩
      have HN2 := Lib.hid hn2
      rw [hn2] at m2
      have Z := Lib.hid (hmr.stored (.slice sp n sc) (.slice np n2 nc) mb).cells
      have HMF := Lib.hid (((HM.out.set_out HRM.out 0 (.slice sp n sc)).set_out HRM.out 1 (.map (some mb))).set_out HRM.out 2 (.slice np n2 nc))
      have HBF : Hid (Below w.heap.size w (((wr.setCell ⟨r, 0, none⟩ (.slice sp n sc)).setCell ⟨r, 1, none⟩ (.map (some mb))).setCell ⟨r, 2, none⟩ (.slice np n2 nc))) := Lib.hid ((((HBG.out _ HB.out).setCell (p := ⟨r, 0, none⟩) HGW.out _).setCell (p := ⟨r, 1, none⟩) HGW.out _).setCell (p := ⟨r, 2, none⟩) HGW.out _)
      have HP : Hid (mtPost S m st most w (.returned (.agg #[.slice sp n sc, .map (some mb), .slice np n2 nc])) (((wr.setCell ⟨r, 0, none⟩ (.slice sp n sc)).setCell ⟨r, 1, none⟩ (.map (some mb))).setCell ⟨r, 2, none⟩ (.slice np n2 nc))) := Lib.hid (by
        have h1 := HMF.out
        rw [← HN.out, ← HN2.out] at h1
        have h2 := HBF.out
        rw [← HN.out, ← HN2.out] at h2
        rw [← HN.out, ← HN2.out]
        exact h1.fin h2 HMW.out (fun g => by rw [HSUB.out]; exact (atM_stop HA.out).1 (by rw [HSA.out]; exact g)) (fun g => by rw [HSUB.out, (atM_stop HA.out).2 (by rw [HSA.out, HN.out]; omega) (by rw [HSA.out]; exact g)]; exact HSA.out) HL.out)
      clear hmr hn2 HMF HBF HB HM HI HL
      go_wp2_with fail
      refine bodyPost_ret (v := .agg #[.slice sp n sc, .map (some mb), .slice np n2 nc]) (by simp [results, Try.results22, go_sem, Z.out]) rfl ?_
      exact HP.out
end Go.Proofs.Ytepegohopgnmnaa
