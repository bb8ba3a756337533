/-
  What mini.Of makes, in memory: what is met in a map and a list, and the automaton's rows; the walk of met's put.
  The walk of alpha.Firsts: what it tells lies in new memory.
-/
import Derived.Test.YtnoaejpabfnfpaaPk29
import Derived.Test.YtnoaejpabfnfpaaPk43
import Derived.Test.YtnoaejpabfnfpaaPk15
import Derived.Test.YtnoaejpabfnfpaaPk27
namespace Go.Proofs.Ytnoaejpabfnfpaa
open Go.RowKit

theorem intLaw13 : Go.Maps.Keyed Try.prog 3 := Go.Maps.int_keyed Try.underlying3
/-- A block's number as a key. -/
noncomputable def kz13 (x : Da) (u : Nat) : Lit := .int .i64 ((clA (lnB x) u : Nat) : Int)
theorem kz13_eq {x : Da} {u v : Nat} : kz13 x u = kz13 x v ↔ lnW x u = lnW x v := by
  unfold kz13
  rw [← lnB_iff, ← clA_iff (lnB_eq x)]
  constructor
  · intro h
    have := (Lit.int.inj h).2
    omega
  · intro h; rw [h]
theorem kz13_key {x : Da} {u n : Nat} (hn : n ≤ 1000) (hu : u < n) : keyOf Try.prog 3 (.int .i64 ((clA (lnB x) u : Nat) : Int)) = some (kz13 x u) := by
  have h1 := clA_lt (lnB_eq x) hu
  have h2 := cntT_le (isH (lnB x)) n
  exact Go.Maps.keyOf_int_mk Try.underlying3 (WalkArith.wf_i64 (by omega))
/-- The map tells of each block that was met its place. -/
def dmI (x : Da) (st : List Nat) (D : Dm) : Prop := ∀ u,
  (ixG (st.map (lnW x)) (lnW x u) < st.length → Maps.has D (kz13 x u) = true ∧ D.atKey (kz13 x u) (iL 0) = iL (ixG (st.map (lnW x)) (lnW x u) : Nat)) ∧ (¬ ixG (st.map (lnW x)) (lnW x u) < st.length → Maps.has D (kz13 x u) = false)
theorem dmI_nil (x : Da) : dmI x [] (.map []) := fun _ => ⟨fun h => absurd h (Nat.not_lt_zero _), fun _ => rfl⟩
theorem dmI_put {x : Da} {st : List Nat} {D : Dm} {u n : Nat} (h : dmI x st D) (hnd : (st.map (lnW x)).Nodup) (ht : Maps.Tidy D) (hn : n ≤ 1000) (hu : u < n) (hno : ¬ ixG (st.map (lnW x)) (lnW x u) < st.length) : dmI x (st ++ [u]) (D.put (kz13 x u) (iL (st.length : Nat))) := fun v => by
  have hl : (st.map (lnW x)).length = st.length := List.length_map ..
  have hmem : lnW x u ∉ st.map (lnW x) := fun g => hno (by rw [← hl]; exact ixG_mem.2 g)
  have hnd2 : (st.map (lnW x) ++ [lnW x u]).Nodup := by
    have := adG_nodup hnd (lnW x u)
    unfold adG at this
    rw [if_neg (by rw [hl]; exact hno)] at this
    exact this
  have hkl := intLaw13.key (kz13_key (x := x) hn hu)
  rw [List.map_append, List.map_singleton, List.length_append]
  show (ixG (st.map (lnW x) ++ [lnW x u]) (lnW x v) < st.length + 1 → _) ∧ (¬ ixG (st.map (lnW x) ++ [lnW x u]) (lnW x v) < st.length + 1 → _)
  by_cases e : lnW x v = lnW x u
  · have ek : kz13 x v = kz13 x u := kz13_eq.2 e
    have ei : ixG (st.map (lnW x) ++ [lnW x u]) (lnW x v) = st.length := ixG_is hnd2 (by rw [e, ← hl]; simp)
    rw [ek, ei]
    exact ⟨fun _ => ⟨Maps.has_put_same ht.isMap hkl _, Maps.atKey_put_same ht.isMap hkl _ _⟩, fun g => absurd (Nat.lt_succ_self _) g⟩
  · have ek : kz13 x v ≠ kz13 x u := fun g => e (kz13_eq.1 g)
    rw [Maps.has_put_other ek, Maps.atKey_put_other ek]
    by_cases g : lnW x v ∈ st.map (lnW x)
    · have g1 : ixG (st.map (lnW x)) (lnW x v) < (st.map (lnW x)).length := ixG_mem.2 g
      have g2 := ixG_at g1
      have ei : ixG (st.map (lnW x) ++ [lnW x u]) (lnW x v) = ixG (st.map (lnW x)) (lnW x v) := ixG_is hnd2 (by rw [List.getElem?_append_left g1]; exact g2)
      rw [ei]
      rw [hl] at g1
      exact ⟨fun _ => (h v).1 g1, fun k => absurd (by omega) k⟩
    · have g1 : ¬ ixG (st.map (lnW x)) (lnW x v) < st.length := fun k => g (ixG_mem.1 (by rw [hl]; exact k))
      have g3 : ¬ ixG (st.map (lnW x) ++ [lnW x u]) (lnW x v) < st.length + 1 := fun k => by
        have k2 : lnW x v ∈ st.map (lnW x) ++ [lnW x u] := ixG_mem.1 (by simpa using k)
        rcases List.mem_append.1 k2 with k3 | k3
        · exact g k3
        · exact e (by simpa using k3)
      exact ⟨fun k => absurd k g3, fun _ => (h v).2 g1⟩

/-- The struct that names what is met. -/
def isMe (w : World) (h mb : Nat) (v : Value) : Prop := w.heap[h]? = some (.cells #[.map (some mb), v] 58 (0, 0))
section
variable {w w' : World} {h mb : Nat} {v : Value}
theorem isMe.lt (H : isMe w h mb v) : h < w.heap.size := lt_of_block H
theorem isMe.cells (H : isMe w h mb v) : w.cell? ⟨h, 0, none⟩ = some (.map (some mb)) ∧ w.cell? ⟨h, 1, none⟩ = some v := by
  unfold isMe at H
  refine ⟨?_, ?_⟩ <;> simp [World.cell?, H]
theorem isMe.free (H : isMe w h mb v) (j : Nat) : w.frozen? ⟨h, j, none⟩ = false := by
  unfold isMe at H
  simp [World.frozen?, H]
theorem isMe.kept {r : Option Nat} (H : isMe w h mb v) (hg : w.grownBy w' r) (hr : some h ≠ r) : isMe w' h mb v := (hg.block h H.lt hr).trans H
theorem isMe.below (H : isMe w h mb v) (hb : Below w.heap.size w w') : isMe w' h mb v := (hb.block h H.lt).trans H
theorem isMe.put1 (H : isMe w h mb v) (u : Value) : isMe (w.setCell ⟨h, 1, none⟩ u) h mb u := by
  have h1 := heap_setCell_same w h 1 _ _ u H
  unfold isMe
  rw [h1]; simp
end
abbrev ownsI (w : World) (b n : Nat) (D : Dm) : Prop := w.ownsMap Try.prog 3 (plainElem Try.prog 3) b n D
theorem ownsI.kept {w w' : World} {b n : Nat} {D : Dm} {r : Option Nat} (h : ownsI w b n D) (hg : w.grownBy w' r) (hr : some b ≠ r) : ownsI w' b n D := by
  obtain ⟨es, clock, h1, h2⟩ := h
  exact ⟨es, clock, (hg.block b (lt_of_block h1) hr).trans h1, h2⟩
theorem ownsI.lt {w : World} {b n : Nat} {D : Dm} (h : ownsI w b n D) : b < w.heap.size := by
  obtain ⟨es, clock, h1, h2⟩ := h
  exact lt_of_block h1
/-- What is made, and what is met. -/
structure OfM (w : World) (O G hm mb : Nat) (q : Option Addr) (c : Nat) (Wd : Int) (vs : Value) (ls ln : List Nat) (T : Nat → Bool) (a : Nat) (pn : Option Addr) (cn : Nat) (pa : Option Addr) (ca : Nat) (D : Dm) : Prop where
  om : om13 w O G q c Wd (.slice none 0 0) vs [] ls ln T a pn cn pa ca
  me : isMe w hm mb vs
  mp : ownsI w mb ls.length D
  lh : hm < G
  lm : mb < G
  oh : O ≠ hm
  ob : O ≠ mb
  hb : hm ≠ mb
/-- What is kept while it grows. -/
def xOf (O G hm mb : Nat) : Nat → Prop := fun k => k < G ∧ k ≠ O ∧ k ≠ hm ∧ k ≠ mb
section
variable {w w' : World} {O G hm mb : Nat} {q : Option Addr} {c : Nat} {Wd : Int} {vs : Value} {ls ln : List Nat} {T : Nat → Bool} {a : Nat} {pn : Option Addr} {cn : Nat} {pa : Option Addr} {ca : Nat} {D : Dm}
theorem OfM.below (H : OfM w O G hm mb q c Wd vs ls ln T a pn cn pa ca D) (hb : Below w.heap.size w w') : OfM w' O G hm mb q c Wd vs ls ln T a pn cn pa ca D :=
  ⟨H.om.below hb, H.me.below hb, ownsMap_below H.mp hb (ownsI.lt H.mp), H.lh, H.lm, H.oh, H.ob, H.hb⟩
/-- A block below the rows that is not the automaton's has turned: its rows stand. -/
theorem om13.side13 {r : Nat} (H : om13 w O G q c Wd (.slice none 0 0) vs [] ls ln T a pn cn pa ca) (hg : w.grownBy w' (some r)) (hr : r < G) (hO : O ≠ r) : om13 w' O G q c Wd (.slice none 0 0) vs [] ls ln T a pn cn pa ca := by
  have key : ∀ {e n : Nat} {v : Value} {xs : List Value}, w.ownsRow G e 1 v n xs → w'.ownsRow G e 1 v n xs := fun {e n v xs} h => World.ownsRow.kept h hg (.inr fun e2 => by have := (World.ownsRow.lt h r e2).1; omega)
  exact ⟨(hg.block O H.df.lt (by simpa using hO)).trans H.df, key H.m, key H.s, key H.n, key H.ac, H.ms, H.mn, H.sn, H.le⟩
theorem row_ne13 {e n r : Nat} {v : Value} {xs : List Value} (h : w.ownsRow G e 1 v n xs) (hr : r < G) : some r ≠ v.ownBlock := fun e2 => by have := (World.ownsRow.lt h r e2.symm).1; omega
end

set_option maxRecDepth 100000 in
set_option maxHeartbeats 4000000 in
theorem mput13 (x : Da) (O G hm mb : Nat) (q : Option Addr) (c : Nat) (Wd : Int) (vs : Value) (ls ln : List Nat) (T : Nat → Bool) (a : Nat) (pn : Option Addr) (cn : Nat) (pa : Option Addr) (ca : Nat) (D : Dm) (u n : Nat) (z : Int) (w : World)
    (H : OfM w O G hm mb q c Wd vs ls ln T a pn cn pa ca D) (hd : dmI x ls D) (hnd : (ls.map (lnW x)).Nodup) (hn : n ≤ 1000) (hu : u < n) (hls : ls.length ≤ 2000) (hz : ((clA (lnB x) u : Nat) : Int) = z) (hG : G ≤ w.heap.size) :
    Calls Try.prog 31 #[.pointer (some ⟨hm, 0, none⟩), .int .i64 z, .int .i64 (u : Int)] w fun e w' => e = .returned (.int .i64 (ixG (ls.map (lnW x)) (lnW x u) : Nat)) ∧ (∃ vs' D', OfM w' O G hm mb q c Wd vs' (stA x ls u) ln T a pn cn pa ca D' ∧ dmI x (stA x ls u) D') ∧ kpX (xOf O G hm mb) w w' := by
  have HKY : Hid (keyOf Try.prog 3 (.int .i64 z) = some (kz13 x u)) := Lib.hid (hz ▸ kz13_key hn hu)
  obtain ⟨y0, y1⟩ := H.me.cells
  obtain ⟨ps, cs, rfl⟩ := spO_of H.om.s
  have hhl := H.me.lt
  have HH := Lib.hid H
  obtain ⟨len, hlen⟩ : ∃ len, ls.length = len := ⟨_, rfl⟩
  have HLEN := Lib.hid hlen
  have HMP : Hid (ownsI w mb len D) := Lib.hid (hlen ▸ H.mp)
  obtain ⟨ix, hix⟩ : ∃ ix, ixG (ls.map (lnW x)) (lnW x u) = ix := ⟨_, rfl⟩
  have hile : ix ≤ len := by have := ixG_le (ls.map (lnW x)) (lnW x u); rw [hix, List.length_map, hlen] at this; exact this
  rw [hlen] at y1 hls
  have l0 : (0 : Int) ≤ (len : Int) := by omega
  have l1 : (len : Int) ≤ 2000 := by omega
  by_cases hin : ix < len
  · obtain ⟨h1, h2⟩ := (hd u).1 (by rw [hix, hlen]; exact hin)
    rw [hix] at h2
    have HHAS := Lib.hid h1; have HAT := Lib.hid h2
    have HST : Hid (stA x ls u = ls) := Lib.hid (by unfold stA; rw [if_pos (by rw [hix, hlen]; exact hin)])
    have HD := Lib.hid hd
    have HIX := Lib.hid hix
    clear H hd hnd hix hin h1 h2 hz hlen hG
    go_enter Try.func31, Try.ntmps31
    go_wp2_with (at_lookup; refine wpList_lookup_own_ok_int _ rfl _ _ 56 rfl 3 3 .i64 intLaw13 Try.underlying56 Try.underlying3 (zeroI10 _) mb len D rfl HMP.out _ _ rfl HKY.out ?_; intro zz hzz _; rw [HHAS.out]; obtain rfl : zz = (ix : Int) := (Lit.int.inj (DataW.lit.inj (hzz.symm.trans HAT.out))).2)
    go_returns
    exact ⟨by rw [HIX.out] <;> rfl, ⟨_, D, by rw [HST.out]; exact HH.out, by rw [HST.out]; exact HD.out⟩, kpX.refl _ _⟩
  · have hno := (hd u).2 (by rw [hix, hlen]; exact hin)
    have hie : ix = len := by omega
    subst hie
    have HHAS := Lib.hid hno
    have HST : Hid (stA x ls u = ls ++ [u]) := Lib.hid (by unfold stA; rw [if_neg (by rw [hix, hlen]; exact hin)])
    have HD2 : Hid (dmI x (ls ++ [u]) (D.put (kz13 x u) (iL (ix : Nat)))) := Lib.hid (by
      have := dmI_put hd hnd (H.mp.tidy intLaw13) hn hu (by rw [hix, hlen]; exact hin)
      rw [hlen] at this; exact this)
    have HMX : Hid (ix < maxLen) := Lib.hid (by unfold maxLen; omega)
    have HWF : Hid ((Lit.int .i64 (ix : Int)).wf = true) := Lib.hid (WalkArith.wf_i64 (by omega))
    have HGS := Lib.hid hG
    have HLM : Hid (ls.length ≤ 1000000) := Lib.hid (by omega)
    have HIX := Lib.hid hix
    clear H hd hnd hix hin hno hz hlen hG hile
    go_enter Try.func31, Try.ntmps31
    go_wp2_with (first | (at_lookup; refine wpList_lookup_own_ok_int _ rfl _ _ 56 rfl 3 3 .i64 intLaw13 Try.underlying56 Try.underlying3 (zeroI10 _) mb ix D rfl HMP.out _ _ rfl HKY.out ?_; intro zz _ _; rw [HHAS.out]) | (at_mapUpdate; refine wpList_mapUpdate_own _ rfl _ _ _ 56 rfl 3 3 intLaw13 Try.underlying56 _ mb ix D rfl HMP.out HMX.out _ _ _ rfl rfl HKY.out (iL (ix : Int)) [] (plainElem_int Try.underlying3 HWF.out) ?_))
    intro w3 hown3 hg3
    have om3 := HH.out.om.side13 hg3 HH.out.lm HH.out.ob
    have me3 := HH.out.me.kept hg3 (by have := HH.out.hb; simp; exact this)
    have hz3 : G ≤ w3.heap.size := Nat.le_trans HGS.out hg3.size
    rw [HLEN.out] at me3
    obtain ⟨z0, z1⟩ := me3.cells
    have HAL : Hid (Below w3.heap.size w3 (w3.alloc (.cells #[.int .i64 (u : Int)] 3))) := Lib.hid ((Below.refl _ _).alloc (Nat.le_refl _) _)
    have HOM := Lib.hid (om3.below HAL.out)
    have HME := Lib.hid (me3.below HAL.out)
    have HMAP : Hid (ownsI w3 mb (ix + 1) (D.put (kz13 x u) (iL (ix : Nat)))) := Lib.hid hown3
    have HMA := Lib.hid (ownsMap_below HMAP.out HAL.out (ownsI.lt HMAP.out))
    have HKP : Hid (kpX (xOf O G hm mb) w (w3.alloc (.cells #[.int .i64 (u : Int)] 3))) := Lib.hid ((kpX.of_grown hg3 fun k e => by cases e; exact fun h => h.2.2.2 rfl).trans (kpX.of_below HAL.out))
    have HS := Lib.hid HOM.out.s
    rw [HLEN.out] at HS
    have HSZ : Hid (G ≤ (w3.alloc (.cells #[.int .i64 (u : Int)] 3)).heap.size) := Lib.hid (by rw [World.size_alloc]; omega)
    clear hown3 hg3 om3 me3 hz3 y0 y1 HMAP
    go_wp2_with (at_builtin; refine append_nx2 rfl _ _ rfl G _ ls rfl HS.out w3.heap.size u rfl (by simp) HLM.out HSZ.out ?_; intro v' w5 hown hgrow hat; have HO := Lib.hid hown; have HG5 := Lib.hid hgrow; have HAT := Lib.hid hat; clear hown hgrow hat; refine Hid.out ?_)
    obtain ⟨p', c', hv'⟩ := spO_of HO.out
    have hl : (ls ++ [u]).length = ix + 1 := by rw [List.length_append, HLEN.out]; rfl
    rw [hl] at hv'
    subst hv'
    have om5 := HOM.out.growS HO.out (by rw [HLEN.out]; exact HG5.out) (by rw [HLEN.out]; exact HAT.out)
    have hne : ∀ r, r < G → some r ≠ (Value.slice ps ix cs).ownBlock := fun r hr => row_ne13 HS.out hr
    have me5 := HME.out.kept HG5.out (hne hm HH.out.lh)
    have mp5 := ownsI.kept HMA.out HG5.out (hne mb HH.out.lm)
    have hgs := grown_setCell w5 hm 1 (.slice p' (ix + 1) c')
    have HFIN : Hid (OfM (w5.setCell ⟨hm, 1, none⟩ (.slice p' (ix + 1) c')) O G hm mb q c Wd (.slice p' (ix + 1) c') (stA x ls u) ln T a pn cn pa ca (D.put (kz13 x u) (iL (ix : Nat)))) := Lib.hid (by
      rw [HST.out]
      exact ⟨om5.side13 hgs HH.out.lh HH.out.oh, me5.put1 _, by rw [hl]; exact ownsI.kept mp5 hgs (by have := HH.out.hb; simp; exact fun e => this e.symm), HH.out.lh, HH.out.lm, HH.out.oh, HH.out.ob, HH.out.hb⟩)
    have HKF : Hid (kpX (xOf O G hm mb) w (w5.setCell ⟨hm, 1, none⟩ (.slice p' (ix + 1) c'))) := Lib.hid ((HKP.out.trans (kpX.of_grown HG5.out fun k e hk => hne k hk.1 e.symm)).trans (kpX.of_grown hgs fun k e => by cases e; exact fun h => h.2.2.1 rfl))
    have d1 := me5.cells.2
    have d2 := me5.free 1
    have d3 := me5.lt
    clear om5 hne me5 mp5 hgs HO HG5 HAT HOM HME HMA HKP HS hl z0 z1
    refine Lib.hid ?_
    go_wp2_with fail
    go_returns
    exact ⟨by rw [HIX.out] <;> rfl, ⟨_, _, HFIN.out, by rw [HST.out]; exact HD2.out⟩, HKF.out⟩
end Go.Proofs.Ytnoaejpabfnfpaa

namespace Go.Proofs.Ytnoaejpabfnfpaa
open Go.RowKit

set_option maxRecDepth 100000 in
set_option maxHeartbeats 8000000 in
theorem firsts13 (q : Option Addr) (n c : Nat) (l : Nat → Int) (width : Int) (hn : n ≤ 1000) (w : World) (hl : rdL w q n l) : Calls Try.prog 30 #[.slice q n c, .int .i64 width] w fun e w' => ∃ q c l', e = .returned (.slice q (min width 259).toNat c) ∧ rdL w' q (min width 259).toNat l' ∧ (∀ j, j < (min width 259).toNat → l' j = fsA l n (j : Nat)) ∧ Below w.heap.size w w' ∧ ∀ b o, q = some ⟨b, o, none⟩ → w.heap.size ≤ b := by
  obtain ⟨K, hK⟩ : ∃ K : Nat, (min width 259).toNat = K := ⟨_, rfl⟩
  have hK1 : K ≤ 259 := by omega
  obtain ⟨mx, hmx⟩ : ∃ mx : Int, (if width < 0 then 0 else width) = mx := ⟨_, rfl⟩
  have hmK : (if (259 : Int) < mx then 259 else mx) = (K : Int) := by
    split at hmx <;> split <;> omega
  have HMx := Lib.hid hmx
  have HMK := Lib.hid hmK
  rw [hK]
  have HL := Lib.hid hl
  have n0 : (0 : Int) ≤ (n : Int) := by omega
  have k0 : (0 : Int) ≤ (K : Int) := by omega
  have k1 : (K : Int) ≤ 259 := by omega
  clear hmx hmK hK hl
  go_enter Try.func30, Try.ntmps30
  go_wp2_with (first | (refine wpList_plain rfl fun _ hK => wp_max10 _ _ rfl width 0 mx rfl rfl HMx.out (hK _ _ ?_)) | (refine wpList_plain rfl fun _ hK => wp_min9 _ _ rfl mx 259 (K : Int) rfl rfl HMK.out (hK _ _ ?_)) | (refine make_ints rfl _ _ rfl w.heap.size K rfl rfl (by omega) (Nat.le_refl _) ?_))
  intro w1 ho hb
  obtain ⟨g, hg⟩ : ∃ g, w.heap.size = g := ⟨_, rfl⟩
  rw [hg] at ho hb ⊢
  have hgl := ho.lt
  have HO0 : Hid (ipR w1 g g K (m1F 0)) := Lib.hid (ho.same fun j _ => by simp [m1F])
  have HB0 := Lib.hid hb
  have HG := Lib.hid hg
  clear ho hb hg
  go_wp2_with fail
  go_loopw [15] (fun iv wr => ∃ i : Nat, i ≤ K ∧ iv = .int .i64 i ∧ Hid (ipR wr g g K (m1F i)) ∧ Hid (Below g w wr)) (fun iv _ => K - (intOf iv).toNat)
  case atStart => exact ⟨0, Nat.zero_le _, rfl, HO0, HB0⟩
  case round =>
    clear HO0 HB0
    obtain ⟨i, hi, rfl, HO, HB⟩ := hrel
    by_cases hlti : i < K
    · have i0 : (0 : Int) ≤ (i : Int) := by omega
      have i1 : (i : Int) < (K : Int) := by omega
      have f0 := HO.out.free i
      have c0 := HO.out.cell i hlti
      have HO2 : Hid (ipR (wr.setCell ⟨g, i, none⟩ (.int .i64 (-1))) g g K (m1F (i + 1))) := Lib.hid (by have := HO.out.put i (-1); rw [m1F_succ] at this; exact this)
      have HB2 : Hid (Below g w (wr.setCell ⟨g, i, none⟩ (.int .i64 (-1)))) := Lib.hid (HB.out.setCell (p := ⟨g, i, none⟩) (Nat.le_refl _) _)
      go_wp2_with fail
      go_roundw
      case rel => exact ⟨i + 1, by omega, by go_num, HO2, HB2⟩
      case measure => simp [intOf]; omega
    · obtain rfl : i = K := by omega
      have HO0 : Hid (ipR wr g g i (fun c => fsA l 0 (c : Nat))) := Lib.hid (HO.out.same fun j hj => by simp [m1F, hj, fsA_zero])
      have HB0 := HB
      clear HO HB
      go_wp2_with fail
      obtain ⟨w2, hw2⟩ : ∃ w2, wr = w2 := ⟨_, rfl⟩
      subst hw2
      go_loopw [24] (fun jv wr => ∃ j : Nat, j ≤ n ∧ jv = .int .i64 j ∧ Hid (ipR wr g g i (fun c => fsA l j (c : Nat))) ∧ Hid (Below g w wr)) (fun jv _ => n - (intOf jv).toNat)
      case atStart => exact ⟨0, Nat.zero_le _, rfl, HO0, HB0⟩
      case round =>
        clear HO0 HB0
        obtain ⟨j, hj, rfl, HO, HB⟩ := hrel
        by_cases hltj : j < n
        · have j0 : (0 : Int) ≤ (j : Int) := by omega
          have j1 : (j : Int) < (n : Int) := by omega
          obtain ⟨lb, lo, rfl, hlb, hlc⟩ := (HL.out.below (HG.out.symm ▸ HB.out)) j hltj
          obtain ⟨x, hx⟩ : ∃ x, l j = x := ⟨_, rfl⟩
          have HX := Lib.hid hx
          rw [hx] at hlc
          clear hx
          by_cases h0 : 0 ≤ x
          · obtain ⟨a, rfl⟩ : ∃ a : Nat, x = a := ⟨x.toNat, by omega⟩
            have d0 : decide ((0 : Int) ≤ (a : Int)) = true := decide_eq_true h0
            by_cases h1 : a < i
            · have d1 : decide ((a : Int) < (i : Int)) = true := decide_eq_true (by omega)
              have d1' : (a : Int) < (i : Int) := by omega
              have f0 := HO.out.free a
              have g0 := HO.out.cell a h1
              obtain ⟨u, hu⟩ : ∃ u, fsA l j (a : Int) = u := ⟨_, rfl⟩
              rw [hu] at g0
              cases hm : (u == (-1 : Int))
              · have hm' : ¬ u = (-1 : Int) := by simpa using hm
                have HO2 : Hid (ipR wr g g i (fun c => fsA l (j + 1) (c : Nat))) := Lib.hid (HO.out.same fun c _ => fsA_keep fun a' e1 e2 => by
                  subst e2
                  have : a' = a := by have := HX.out; omega
                  subst this
                  rw [hu]; exact hm')
                have HM := Lib.hid hm
                clear hu hm' HO
                go_wp2_with fail
                go_roundw
                case rel => exact ⟨j + 1, by omega, by go_num, HO2, HB⟩
                case measure => simp [intOf]; omega
              · have hm' : u = (-1 : Int) := by simpa using hm
                have HO2 : Hid (ipR (wr.setCell ⟨g, a, none⟩ (.int .i64 (j : Int))) g g i (fun c => fsA l (j + 1) (c : Nat))) := Lib.hid (by
                  have := HO.out.put a (j : Int)
                  rw [fsA_put HX.out (hu.trans hm')] at this; exact this)
                have HB2 : Hid (Below g w (wr.setCell ⟨g, a, none⟩ (.int .i64 (j : Int)))) := Lib.hid (HB.out.setCell (p := ⟨g, a, none⟩) (Nat.le_refl _) _)
                subst hm'
                clear hu HO
                go_wp2_with fail
                go_roundw
                case rel => exact ⟨j + 1, by omega, by go_num, HO2, HB2⟩
                case measure => simp [intOf]; omega
            · have d1 : decide ((a : Int) < (i : Int)) = false := decide_eq_false (by omega)
              have HO2 : Hid (ipR wr g g i (fun c => fsA l (j + 1) (c : Nat))) := Lib.hid (HO.out.same fun c hc => fsA_keep fun a' e1 e2 => by
                have := HX.out; omega)
              clear HO
              go_wp2_with fail
              go_roundw
              case rel => exact ⟨j + 1, by omega, by go_num, HO2, HB⟩
              case measure => simp [intOf]; omega
          · have d0 : decide ((0 : Int) ≤ x) = false := decide_eq_false h0
            have HO2 : Hid (ipR wr g g i (fun c => fsA l (j + 1) (c : Nat))) := Lib.hid (HO.out.same fun c hc => fsA_keep fun a' e1 e2 => by
              have := HX.out; omega)
            clear HO
            go_wp2_with fail
            go_roundw
            case rel => exact ⟨j + 1, by omega, by go_num, HO2, HB⟩
            case measure => simp [intOf]; omega
        · obtain rfl : j = n := by omega
          have HR := Lib.hid HO.out.rd
          go_wp2_with fail
          go_returns
          exact ⟨_, _, _, rfl, HR.out, fun _ _ => rfl, HG.out.symm ▸ HB.out, fun b o e => by cases e; exact Nat.le_of_eq HG.out⟩
end Go.Proofs.Ytnoaejpabfnfpaa
