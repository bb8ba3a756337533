/-
  The walk of dfa.spread, at the functions that Live and Reach hand over.
-/
import Derived.Test.YtefpoapbodbenaaPk16
import Derived.Test.YtefpoapbodbenaaPk14
namespace Go.Proofs.Ytefpoapbodbenaa
open Go.RowKit

/-- What a function that tells where one goes on to answers at state s. -/
def onPost (g m : Nat) (E : Nat → Nat → Prop) (s : Nat) (w : World) (e : Ending) (w' : World) : Prop :=
  ∃ p n c F, e = .returned (.slice p n c) ∧ rdL w' p n F ∧ n ≤ 1000000 ∧ (∀ i, i < n → ∃ t : Nat, F i = (t : Int) ∧ t < m) ∧ (∀ t : Nat, (∃ i, i < n ∧ F i = (t : Int)) ↔ E s t) ∧ Below w.heap.size w w' ∧ ∀ b o, p = some ⟨b, o, none⟩ → b < g ∨ w.heap.size ≤ b
/-- What spread answers. -/
def sprPost (m : Nat) (P : Nat → Prop) (E : Nat → Nat → Prop) (w : World) (e : Ending) (w' : World) : Prop :=
  ∃ p c T, e = .returned (.slice p m c) ∧ rdBs w' p m T ∧ (∀ s, s < m → (T s = true ↔ ∃ q0, P q0 ∧ rtQ E q0 s)) ∧ Below w.heap.size w w'

set_option maxRecDepth 100000 in
set_option maxHeartbeats 20000000 in
theorem spreadL12 (m : Nat) (E : Nat → Nat → Prop) (q : Option Addr) (n c : Nat) (l : Nat → Int) (z0 : Nat) (hm : m ≤ 1000) (hn : n ≤ 1000000) (w : World) (hl : rdL w q n l) (hlm : ∀ i, i < n → ∃ t : Nat, l i = (t : Int) ∧ t < m)
    (hon : ∀ s w', s < m → Below w.heap.size w w' → Calls Try.prog 42 #[.int .i64 (s : Int), .pointer (some ⟨z0, 0, none⟩)] w' (onPost w.heap.size m E s w')) :
    Calls Try.prog 41 #[.int .i64 (m : Int), .slice q n c, .func (.func 42) #[] #[.pointer (some ⟨z0, 0, none⟩)]] w (sprPost m (fun t => ∃ i, i < n ∧ l i = (t : Int)) E w) := by
  obtain ⟨ib, hib, hb0, hb1, hb2⟩ := info_parts infoBool9
  have m1 : Hid ((1 : Nat) * m ≤ 281474976710656) := Lib.hid (by omega)
  have m2 : Hid (m ≤ maxLen) := Lib.hid (by unfold maxLen; omega)
  have m0 : (0 : Int) ≤ (m : Int) := by omega
  have HLw := Lib.hid hl; have HON := Lib.hid hon; have HLM := Lib.hid hlm
  have HLB : Hid (∀ b o, q = some ⟨b, o, none⟩ → 0 < n → b < w.heap.size) := Lib.hid fun b o e h0 => by
    obtain ⟨b', o', e', h, -⟩ := hl 0 h0
    rw [e] at e'; cases e'; exact h
  clear hl hon hlm
  go_enter Try.func41, Try.ntmps41
  go_wp2_with (refine wpList_make_full _ rfl _ _ 23 rfl w.heap.size 4 ib (.bool false) 1 Try.underlying23 hib hb0 hb1 .i64 .i64 (m : Int) (m : Int) m rfl rfl (by omega) (by omega) (by rw [hb2]; exact m1.out) m2.out (Nat.le_refl _) ?_)
  intro w3 hmk hg3
  rw [made_bls] at hmk
  have hB3 : Below w.heap.size w w3 := (Below.refl _ _).grown hg3 (Nat.le_refl _) (fun r hr => by cases hr)
  obtain ⟨g, hg⟩ : ∃ g, w.heap.size = g := ⟨_, rfl⟩
  obtain ⟨h, hh⟩ : ∃ h, w3.heap.size = h := ⟨_, rfl⟩
  have hbl : blR w3 g g m m (memW []) := by rw [← hg]; exact hmk
  have hgh : g < h := by rw [← hh]; exact hbl.lt.2
  rw [hg]
  obtain ⟨W0, hW0⟩ : ∃ W0, (w3.alloc (.cells #[.slice (some ⟨g, 0, none⟩) m m] 23)).alloc (.cells #[.slice none 0 0] 22) = W0 := ⟨_, rfl⟩
  have hal : Below w3.heap.size w3 W0 := hW0 ▸ ((Below.refl _ _).alloc (Nat.le_refl _) _).alloc (by simp) _
  have hcl : clX (fun k => k < g) W0 g h m [] := by
    refine ⟨hgh, ?_, ⟨none, 0, ?_, ⟨rfl, .inl ⟨rfl, rfl⟩⟩, fun b e => by cases e⟩, hbl.below hal, Nat.lt_irrefl _, by omega, by omega⟩
    · rw [← hW0]
      exact (Below.heap_alloc _ _ h (by rw [World.size_alloc]; omega)).trans (hh ▸ heap_alloc_new w3 _)
    · have := heap_alloc_new (w3.alloc (.cells #[.slice (some ⟨g, 0, none⟩) m m] 23)) (.cells #[.slice none 0 0] 22)
      rw [hW0, World.size_alloc, hh] at this
      exact this
  have HC0 := Lib.hid hcl
  have HK0 : Hid (Below g w W0) := Lib.hid (by rw [← hg]; exact hB3.trans (hal.mono hB3.size))
  have HF0 := Lib.hid (pInv_zero (okA_nil m) l)
  have HG := Lib.hid hg
  have HW0 := Lib.hid hW0
  have HGH := Lib.hid hgh
  clear hmk hg3 hB3 hg hbl hgh hal hcl hW0 m1 m2 hib hb0 hb1 hb2
  go_upto_region 2 with (fail)
  go_upto_region 3 with (fail)
  rw [HW0.out]
  clear HW0 hh
  have n0 : (0 : Int) ≤ (n : Int) := by omega
  go_wp2_with fail
  go_loopw [20] (fun iv wr => ∃ i : Nat, i ≤ n ∧ iv = .int .i64 i ∧ ∃ A, Hid (pInv m [] l i A) ∧ Hid (clX (fun k => k < g) wr g h m A) ∧ Hid (Below g w wr)) (fun iv _ => n - (intOf iv).toNat)
  case atStart => exact ⟨0, Nat.zero_le _, rfl, [], HF0, HC0, HK0⟩
  case round =>
    clear HF0 HC0 HK0
    obtain ⟨i, hi, rfl, A, HF, HC, HK⟩ := hrel
    by_cases hlti : i < n
    · have i0 : (0 : Int) ≤ (i : Int) := by omega
      have i1 : (i : Int) < (n : Int) := by omega
      obtain ⟨lb, lo, rfl, hlb, hlc⟩ := (HLw.out.below (HG.out.symm ▸ HK.out)) i hlti
      obtain ⟨t, ht, htm⟩ := HLM.out i hlti
      rw [ht] at hlc
      have HT := Lib.hid ht
      have hsz : g ≤ wr.heap.size := by have := HC.out.2.1.lt; have := HC.out.1; omega
      have HP := Lib.hid (put12 (fun k => k < g) g h m t A hm htm HF.out.1 wr (fun k hk => by omega) HC.out)
      have HSZ := Lib.hid hsz
      clear ht hsz hlb
      go_wp2_with fail
      refine HP.out.mono ?_
      rintro e w5 ⟨rfl, hc5, hk5⟩
      have HF5 := Lib.hid (pInv_put HF.out HT.out htm)
      have HC5 := Lib.hid hc5
      have HK5 : Hid (Below g w w5) := Lib.hid (HK.out.trans (hk5.below HSZ.out fun k hk => hk))
      clear hc5 hk5 HF HC HK HP
      go_wp2_with fail
      go_roundw
      case rel => exact ⟨i + 1, by omega, by go_num, _, HF5, HC5, HK5⟩
      case measure => simp [intOf]; omega
    · obtain rfl : i = n := by omega
      have HI0 := Lib.hid (gInv_start (E := E) HF.out)
      clear HF hlti hi
      go_wp2_with fail
      go_loopw [12] (fun kv wr => ∃ k : Nat, kv = .int .i64 k ∧ ∃ A, Hid (gInv E m (fun q => ∃ j, j < i ∧ l j = (q : Int)) A k) ∧ Hid (clX (fun k => k < g) wr g h m A) ∧ Hid (Below g w wr)) (fun kv _ => m - (intOf kv).toNat)
      case atStart => exact ⟨0, rfl, A, HI0, HC, HK⟩
      case round =>
        clear HI0 HC HK
        obtain ⟨k, rfl, A, HI, HC, HK⟩ := hrel
        have hle := okA_le HI.out.1
        obtain ⟨-, o1, ⟨p, cc, o2, o3, o3'⟩, o4, -⟩ := HC.out
        have O3 := Lib.hid o3; have O3' := Lib.hid o3'
        have c1 := o1.cell
        have c2 := o2.cell
        have C1 := Lib.hid c1
        have hgl : g ≤ wr.heap.size := by have := o1.lt; have := HC.out.1; omega
        have HGL := Lib.hid hgl
        have HOL := Lib.hid o2.lt
        by_cases hlt : k < A.length
        · obtain ⟨x, hx⟩ : ∃ x, A[k]? = some x := ⟨A[k], by simp [hlt]⟩
          obtain ⟨pb, rfl, hpc⟩ := o3.at12 hx
          have hpl : pb < wr.heap.size := (World.ownsRow.lt o3 pb rfl).2
          have HPL := Lib.hid hpl
          have hxm : x < m := HI.out.1.2 x (List.mem_of_getElem? hx)
          have HCALL := Lib.hid (HON.out x wr hxm (HG.out.symm ▸ HK.out))
          have HX := Lib.hid hx
          have HLT := Lib.hid hlt
          have x0 : (0 : Int) ≤ (x : Int) := by omega
          have x1 : (x : Int) < (m : Int) := by omega
          obtain ⟨len, hlen⟩ : ∃ len, A.length = len := ⟨_, rfl⟩
          have k0 : (0 : Int) ≤ (k : Int) := by omega
          have k1 : (k : Int) < (len : Int) := by omega
          have hkm : k < m := by omega
          have HLEN := Lib.hid hlen
          rw [hlen] at c2
          clear hx hlt hle o1 o2 o3 o3' o4 hlen c1 hgl hpl
          go_wp2_with fail
          refine HCALL.out.mono ?_
          rintro e w4 ⟨p4, n4, c4, F, rfl, hr4, hn4, hF4, hE4, hb4, ha4⟩
          rw [HG.out] at ha4
          have HR4 := Lib.hid hr4; have HF4 := Lib.hid hF4; have HE4 := Lib.hid hE4
          -- what is kept while what is told is put
          obtain ⟨X, hX⟩ : ∃ X : Nat → Prop, X = fun k => k < g ∨ ∃ o, p4 = some ⟨k, o, none⟩ ∧ k < w4.heap.size := ⟨_, rfl⟩
          have HXg : Hid (∀ k, k < g → X k) := Lib.hid fun k hk => by rw [hX]; exact .inl hk
          have HXp : Hid (0 < n4 → ∀ b o, p4 = some ⟨b, o, none⟩ → X b) := Lib.hid fun h0 b o e => by
            rw [hX]
            refine .inr ⟨o, e, ?_⟩
            obtain ⟨b', o', e', hb', -⟩ := hr4 0 h0
            rw [e] at e'; cases e'; exact hb'
          have HXl : Hid (∀ k, X k → k < w4.heap.size) := Lib.hid fun k hk => by
            rw [hX] at hk
            rcases hk with hk | ⟨o, -, hk⟩
            · have := HGL.out; have := hb4.size; omega
            · exact hk
          have hnew : ∀ k, X k → k < g ∨ wr.heap.size ≤ k := fun k hk => by
            rw [hX] at hk
            rcases hk with hk | ⟨o, e, -⟩
            · exact .inl hk
            · exact ha4 k o e
          have hc4 : clX X w4 g h m A := by
            obtain ⟨h0, h1, ⟨p', c', h2, h3, h3'⟩, h4, h5, h6, h7⟩ := HC.out
            have hl1 := h1.lt; have hl2 := h2.lt; have hl4 := h4.lt
            refine ⟨h0, h1.below hb4 hl1, ⟨p', c', h2.below hb4 hl2, owns_below h3 hb4, fun b e hXb => ?_⟩, h4.below hb4, fun hXb => ?_, fun hXb => ?_, fun hXb => ?_⟩
            · rcases hnew b hXb with hh | hh
              · exact h3' b e hh
              · have := (World.ownsRow.lt h3 b e).2; omega
            · rcases hnew g hXb with hh | hh <;> omega
            · rcases hnew h hXb with hh | hh <;> omega
            · rcases hnew (h + 1) hXb with hh | hh <;> omega
          have HC4 := Lib.hid hc4
          have HK4 : Hid (Below g w w4) := Lib.hid (HK.out.trans (hb4.mono HGL.out))
          have HP4 := Lib.hid (pInv_zero HI.out.1 F)
          have HS4 : Hid (g ≤ w4.heap.size) := Lib.hid (Nat.le_trans HGL.out hb4.size)
          have hn40 : (0 : Int) ≤ (n4 : Int) := by omega
          have hn41 : (n4 : Int) ≤ 1000000 := by omega
          clear hr4 hF4 hE4 hb4 ha4 hX hnew hc4 c2 hpc HC HK HCALL HOL
          go_wp2_with fail
          go_loopw [41] (fun jv wr => ∃ j : Nat, j ≤ n4 ∧ jv = .int .i64 j ∧ ∃ A', Hid (pInv m A F j A') ∧ Hid (clX X wr g h m A') ∧ Hid (Below g w wr) ∧ Hid (kpX X w4 wr)) (fun jv _ => n4 - (intOf jv).toNat)
          case atStart => exact ⟨0, Nat.zero_le _, rfl, A, HP4, HC4, HK4, Lib.hid (kpX.refl _ _)⟩
          case round =>
            clear HP4 HC4 HK4
            obtain ⟨j, hj, rfl, A', HP, HC, HK, HKX⟩ := hrel
            by_cases hltj : j < n4
            · have j0 : (0 : Int) ≤ (j : Int) := by omega
              have j1 : (j : Int) < (n4 : Int) := by omega
              obtain ⟨fb, fo, rfl, hfb, hfc⟩ := (HKX.out.rd HR4.out (HXp.out (by omega))) j hltj
              obtain ⟨t, ht, htm⟩ := HF4.out j hltj
              rw [ht] at hfc
              have HT := Lib.hid ht
              have hsz : g ≤ wr.heap.size := by have := HC.out.2.1.lt; have := HC.out.1; omega
              have HSZ := Lib.hid hsz
              have HPU := Lib.hid (put12 X g h m t A' hm htm HP.out.1 wr (fun k hk => Nat.lt_of_lt_of_le (HXl.out k hk) HKX.out.size) HC.out)
              clear ht hsz hfb
              go_wp2_with fail
              refine HPU.out.mono ?_
              rintro e w5 ⟨rfl, hc5, hk5⟩
              have HP5 := Lib.hid (pInv_put HP.out HT.out htm)
              have HC5 := Lib.hid hc5
              have HK5 : Hid (Below g w w5) := Lib.hid (HK.out.trans (hk5.below HSZ.out HXg.out))
              have HKX5 := Lib.hid (HKX.out.trans hk5)
              clear hc5 hk5 HP HC HK HKX HPU hfc
              go_wp2_with fail
              go_roundw
              case rel => exact ⟨j + 1, by omega, by go_num, _, HP5, HC5, HK5, HKX5⟩
              case measure => simp [intOf]; omega
            · obtain rfl : j = n4 := by omega
              have HI5 := Lib.hid (gInv_next HI.out HLT.out HX.out HE4.out HP.out)
              have HC5 : Hid (clX (fun k => k < g) wr g h m A') := Lib.hid (by
                obtain ⟨h0, h1, ⟨p', c', h2, h3, h3'⟩, h4, h5, h6, h7⟩ := HC.out
                exact ⟨h0, h1, ⟨p', c', h2, h3, fun b e hb => h3' b e (HXg.out b hb)⟩, h4, fun hb => h5 (HXg.out _ hb), fun hb => h6 (HXg.out _ hb), fun hb => h7 (HXg.out _ hb)⟩)
              clear HP HC HKX
              go_wp2_with fail
              go_roundw
              case rel => exact ⟨k + 1, by go_num, _, HI5, HC5, HK⟩
              case measure => simp [intOf]; omega
        · have HE := Lib.hid (fun q => gInv_end HI.out (by omega) q)
          have HBL := Lib.hid o4
          obtain ⟨len, hlen⟩ : ∃ len, A.length = len := ⟨_, rfl⟩
          have k1 : ¬ ((k : Int) < (len : Int)) := by omega
          rw [hlen] at c2
          clear hlt hle hlen o1 o2 o3 o3' o4 hgl
          have HRB : Hid (rdBs wr (some ⟨g, 0, none⟩) m (memW A)) := Lib.hid fun j hj => ⟨g, 0, rfl, HBL.out.lt.2, by rw [Nat.zero_add]; exact HBL.out.cell j hj⟩
          go_wp2_with fail
          go_returns
          exact ⟨_, _, memW A, rfl, HRB.out, fun s _ => by
            have h1 := HE.out s
            unfold memW
            rw [decide_eq_true_eq]; exact h1, HG.out.symm ▸ HK.out⟩

set_option maxRecDepth 100000 in
set_option maxHeartbeats 20000000 in
theorem spreadR12 (m : Nat) (E : Nat → Nat → Prop) (q : Option Addr) (n c : Nat) (l : Nat → Int) (z0 z1 : Nat) (hm : m ≤ 1000) (hn : n ≤ 1000000) (w : World) (hl : rdL w q n l) (hlm : ∀ i, i < n → ∃ t : Nat, l i = (t : Int) ∧ t < m)
    (hon : ∀ s w', s < m → Below w.heap.size w w' → Calls Try.prog 66 #[.int .i64 (s : Int), .pointer (some ⟨z0, 0, none⟩), .pointer (some ⟨z1, 0, none⟩)] w' (onPost w.heap.size m E s w')) :
    Calls Try.prog 41 #[.int .i64 (m : Int), .slice q n c, .func (.func 66) #[] #[.pointer (some ⟨z0, 0, none⟩), .pointer (some ⟨z1, 0, none⟩)]] w (sprPost m (fun t => ∃ i, i < n ∧ l i = (t : Int)) E w) := by
  obtain ⟨ib, hib, hb0, hb1, hb2⟩ := info_parts infoBool9
  have m1 : Hid ((1 : Nat) * m ≤ 281474976710656) := Lib.hid (by omega)
  have m2 : Hid (m ≤ maxLen) := Lib.hid (by unfold maxLen; omega)
  have m0 : (0 : Int) ≤ (m : Int) := by omega
  have HLw := Lib.hid hl; have HON := Lib.hid hon; have HLM := Lib.hid hlm
  have HLB : Hid (∀ b o, q = some ⟨b, o, none⟩ → 0 < n → b < w.heap.size) := Lib.hid fun b o e h0 => by
    obtain ⟨b', o', e', h, -⟩ := hl 0 h0
    rw [e] at e'; cases e'; exact h
  clear hl hon hlm
  go_enter Try.func41, Try.ntmps41
  go_wp2_with (refine wpList_make_full _ rfl _ _ 23 rfl w.heap.size 4 ib (.bool false) 1 Try.underlying23 hib hb0 hb1 .i64 .i64 (m : Int) (m : Int) m rfl rfl (by omega) (by omega) (by rw [hb2]; exact m1.out) m2.out (Nat.le_refl _) ?_)
  intro w3 hmk hg3
  rw [made_bls] at hmk
  have hB3 : Below w.heap.size w w3 := (Below.refl _ _).grown hg3 (Nat.le_refl _) (fun r hr => by cases hr)
  obtain ⟨g, hg⟩ : ∃ g, w.heap.size = g := ⟨_, rfl⟩
  obtain ⟨h, hh⟩ : ∃ h, w3.heap.size = h := ⟨_, rfl⟩
  have hbl : blR w3 g g m m (memW []) := by rw [← hg]; exact hmk
  have hgh : g < h := by rw [← hh]; exact hbl.lt.2
  rw [hg]
  obtain ⟨W0, hW0⟩ : ∃ W0, (w3.alloc (.cells #[.slice (some ⟨g, 0, none⟩) m m] 23)).alloc (.cells #[.slice none 0 0] 22) = W0 := ⟨_, rfl⟩
  have hal : Below w3.heap.size w3 W0 := hW0 ▸ ((Below.refl _ _).alloc (Nat.le_refl _) _).alloc (by simp) _
  have hcl : clX (fun k => k < g) W0 g h m [] := by
    refine ⟨hgh, ?_, ⟨none, 0, ?_, ⟨rfl, .inl ⟨rfl, rfl⟩⟩, fun b e => by cases e⟩, hbl.below hal, Nat.lt_irrefl _, by omega, by omega⟩
    · rw [← hW0]
      exact (Below.heap_alloc _ _ h (by rw [World.size_alloc]; omega)).trans (hh ▸ heap_alloc_new w3 _)
    · have := heap_alloc_new (w3.alloc (.cells #[.slice (some ⟨g, 0, none⟩) m m] 23)) (.cells #[.slice none 0 0] 22)
      rw [hW0, World.size_alloc, hh] at this
      exact this
  have HC0 := Lib.hid hcl
  have HK0 : Hid (Below g w W0) := Lib.hid (by rw [← hg]; exact hB3.trans (hal.mono hB3.size))
  have HF0 := Lib.hid (pInv_zero (okA_nil m) l)
  have HG := Lib.hid hg
  have HW0 := Lib.hid hW0
  have HGH := Lib.hid hgh
  clear hmk hg3 hB3 hg hbl hgh hal hcl hW0 m1 m2 hib hb0 hb1 hb2
  go_upto_region 2 with (fail)
  go_upto_region 3 with (fail)
  rw [HW0.out]
  clear HW0 hh
  have n0 : (0 : Int) ≤ (n : Int) := by omega
  go_wp2_with fail
  go_loopw [20] (fun iv wr => ∃ i : Nat, i ≤ n ∧ iv = .int .i64 i ∧ ∃ A, Hid (pInv m [] l i A) ∧ Hid (clX (fun k => k < g) wr g h m A) ∧ Hid (Below g w wr)) (fun iv _ => n - (intOf iv).toNat)
  case atStart => exact ⟨0, Nat.zero_le _, rfl, [], HF0, HC0, HK0⟩
  case round =>
    clear HF0 HC0 HK0
    obtain ⟨i, hi, rfl, A, HF, HC, HK⟩ := hrel
    by_cases hlti : i < n
    · have i0 : (0 : Int) ≤ (i : Int) := by omega
      have i1 : (i : Int) < (n : Int) := by omega
      obtain ⟨lb, lo, rfl, hlb, hlc⟩ := (HLw.out.below (HG.out.symm ▸ HK.out)) i hlti
      obtain ⟨t, ht, htm⟩ := HLM.out i hlti
      rw [ht] at hlc
      have HT := Lib.hid ht
      have hsz : g ≤ wr.heap.size := by have := HC.out.2.1.lt; have := HC.out.1; omega
      have HP := Lib.hid (put12 (fun k => k < g) g h m t A hm htm HF.out.1 wr (fun k hk => by omega) HC.out)
      have HSZ := Lib.hid hsz
      clear ht hsz hlb
      go_wp2_with fail
      refine HP.out.mono ?_
      rintro e w5 ⟨rfl, hc5, hk5⟩
      have HF5 := Lib.hid (pInv_put HF.out HT.out htm)
      have HC5 := Lib.hid hc5
      have HK5 : Hid (Below g w w5) := Lib.hid (HK.out.trans (hk5.below HSZ.out fun k hk => hk))
      clear hc5 hk5 HF HC HK HP
      go_wp2_with fail
      go_roundw
      case rel => exact ⟨i + 1, by omega, by go_num, _, HF5, HC5, HK5⟩
      case measure => simp [intOf]; omega
    · obtain rfl : i = n := by omega
      have HI0 := Lib.hid (gInv_start (E := E) HF.out)
      clear HF hlti hi
      go_wp2_with fail
      go_loopw [12] (fun kv wr => ∃ k : Nat, kv = .int .i64 k ∧ ∃ A, Hid (gInv E m (fun q => ∃ j, j < i ∧ l j = (q : Int)) A k) ∧ Hid (clX (fun k => k < g) wr g h m A) ∧ Hid (Below g w wr)) (fun kv _ => m - (intOf kv).toNat)
      case atStart => exact ⟨0, rfl, A, HI0, HC, HK⟩
      case round =>
        clear HI0 HC HK
        obtain ⟨k, rfl, A, HI, HC, HK⟩ := hrel
        have hle := okA_le HI.out.1
        obtain ⟨-, o1, ⟨p, cc, o2, o3, o3'⟩, o4, -⟩ := HC.out
        have O3 := Lib.hid o3; have O3' := Lib.hid o3'
        have c1 := o1.cell
        have c2 := o2.cell
        have C1 := Lib.hid c1
        have hgl : g ≤ wr.heap.size := by have := o1.lt; have := HC.out.1; omega
        have HGL := Lib.hid hgl
        have HOL := Lib.hid o2.lt
        by_cases hlt : k < A.length
        · obtain ⟨x, hx⟩ : ∃ x, A[k]? = some x := ⟨A[k], by simp [hlt]⟩
          obtain ⟨pb, rfl, hpc⟩ := o3.at12 hx
          have hpl : pb < wr.heap.size := (World.ownsRow.lt o3 pb rfl).2
          have HPL := Lib.hid hpl
          have hxm : x < m := HI.out.1.2 x (List.mem_of_getElem? hx)
          have HCALL := Lib.hid (HON.out x wr hxm (HG.out.symm ▸ HK.out))
          have HX := Lib.hid hx
          have HLT := Lib.hid hlt
          have x0 : (0 : Int) ≤ (x : Int) := by omega
          have x1 : (x : Int) < (m : Int) := by omega
          obtain ⟨len, hlen⟩ : ∃ len, A.length = len := ⟨_, rfl⟩
          have k0 : (0 : Int) ≤ (k : Int) := by omega
          have k1 : (k : Int) < (len : Int) := by omega
          have hkm : k < m := by omega
          have HLEN := Lib.hid hlen
          rw [hlen] at c2
          clear hx hlt hle o1 o2 o3 o3' o4 hlen c1 hgl hpl
          go_wp2_with fail
          refine HCALL.out.mono ?_
          rintro e w4 ⟨p4, n4, c4, F, rfl, hr4, hn4, hF4, hE4, hb4, ha4⟩
          rw [HG.out] at ha4
          have HR4 := Lib.hid hr4; have HF4 := Lib.hid hF4; have HE4 := Lib.hid hE4
          -- what is kept while what is told is put
          obtain ⟨X, hX⟩ : ∃ X : Nat → Prop, X = fun k => k < g ∨ ∃ o, p4 = some ⟨k, o, none⟩ ∧ k < w4.heap.size := ⟨_, rfl⟩
          have HXg : Hid (∀ k, k < g → X k) := Lib.hid fun k hk => by rw [hX]; exact .inl hk
          have HXp : Hid (0 < n4 → ∀ b o, p4 = some ⟨b, o, none⟩ → X b) := Lib.hid fun h0 b o e => by
            rw [hX]
            refine .inr ⟨o, e, ?_⟩
            obtain ⟨b', o', e', hb', -⟩ := hr4 0 h0
            rw [e] at e'; cases e'; exact hb'
          have HXl : Hid (∀ k, X k → k < w4.heap.size) := Lib.hid fun k hk => by
            rw [hX] at hk
            rcases hk with hk | ⟨o, -, hk⟩
            · have := HGL.out; have := hb4.size; omega
            · exact hk
          have hnew : ∀ k, X k → k < g ∨ wr.heap.size ≤ k := fun k hk => by
            rw [hX] at hk
            rcases hk with hk | ⟨o, e, -⟩
            · exact .inl hk
            · exact ha4 k o e
          have hc4 : clX X w4 g h m A := by
            obtain ⟨h0, h1, ⟨p', c', h2, h3, h3'⟩, h4, h5, h6, h7⟩ := HC.out
            have hl1 := h1.lt; have hl2 := h2.lt; have hl4 := h4.lt
            refine ⟨h0, h1.below hb4 hl1, ⟨p', c', h2.below hb4 hl2, owns_below h3 hb4, fun b e hXb => ?_⟩, h4.below hb4, fun hXb => ?_, fun hXb => ?_, fun hXb => ?_⟩
            · rcases hnew b hXb with hh | hh
              · exact h3' b e hh
              · have := (World.ownsRow.lt h3 b e).2; omega
            · rcases hnew g hXb with hh | hh <;> omega
            · rcases hnew h hXb with hh | hh <;> omega
            · rcases hnew (h + 1) hXb with hh | hh <;> omega
          have HC4 := Lib.hid hc4
          have HK4 : Hid (Below g w w4) := Lib.hid (HK.out.trans (hb4.mono HGL.out))
          have HP4 := Lib.hid (pInv_zero HI.out.1 F)
          have HS4 : Hid (g ≤ w4.heap.size) := Lib.hid (Nat.le_trans HGL.out hb4.size)
          have hn40 : (0 : Int) ≤ (n4 : Int) := by omega
          have hn41 : (n4 : Int) ≤ 1000000 := by omega
          clear hr4 hF4 hE4 hb4 ha4 hX hnew hc4 c2 hpc HC HK HCALL HOL
          go_wp2_with fail
          go_loopw [41] (fun jv wr => ∃ j : Nat, j ≤ n4 ∧ jv = .int .i64 j ∧ ∃ A', Hid (pInv m A F j A') ∧ Hid (clX X wr g h m A') ∧ Hid (Below g w wr) ∧ Hid (kpX X w4 wr)) (fun jv _ => n4 - (intOf jv).toNat)
          case atStart => exact ⟨0, Nat.zero_le _, rfl, A, HP4, HC4, HK4, Lib.hid (kpX.refl _ _)⟩
          case round =>
            clear HP4 HC4 HK4
            obtain ⟨j, hj, rfl, A', HP, HC, HK, HKX⟩ := hrel
            by_cases hltj : j < n4
            · have j0 : (0 : Int) ≤ (j : Int) := by omega
              have j1 : (j : Int) < (n4 : Int) := by omega
              obtain ⟨fb, fo, rfl, hfb, hfc⟩ := (HKX.out.rd HR4.out (HXp.out (by omega))) j hltj
              obtain ⟨t, ht, htm⟩ := HF4.out j hltj
              rw [ht] at hfc
              have HT := Lib.hid ht
              have hsz : g ≤ wr.heap.size := by have := HC.out.2.1.lt; have := HC.out.1; omega
              have HSZ := Lib.hid hsz
              have HPU := Lib.hid (put12 X g h m t A' hm htm HP.out.1 wr (fun k hk => Nat.lt_of_lt_of_le (HXl.out k hk) HKX.out.size) HC.out)
              clear ht hsz hfb
              go_wp2_with fail
              refine HPU.out.mono ?_
              rintro e w5 ⟨rfl, hc5, hk5⟩
              have HP5 := Lib.hid (pInv_put HP.out HT.out htm)
              have HC5 := Lib.hid hc5
              have HK5 : Hid (Below g w w5) := Lib.hid (HK.out.trans (hk5.below HSZ.out HXg.out))
              have HKX5 := Lib.hid (HKX.out.trans hk5)
              clear hc5 hk5 HP HC HK HKX HPU hfc
              go_wp2_with fail
              go_roundw
              case rel => exact ⟨j + 1, by omega, by go_num, _, HP5, HC5, HK5, HKX5⟩
              case measure => simp [intOf]; omega
            · obtain rfl : j = n4 := by omega
              have HI5 := Lib.hid (gInv_next HI.out HLT.out HX.out HE4.out HP.out)
              have HC5 : Hid (clX (fun k => k < g) wr g h m A') := Lib.hid (by
                obtain ⟨h0, h1, ⟨p', c', h2, h3, h3'⟩, h4, h5, h6, h7⟩ := HC.out
                exact ⟨h0, h1, ⟨p', c', h2, h3, fun b e hb => h3' b e (HXg.out b hb)⟩, h4, fun hb => h5 (HXg.out _ hb), fun hb => h6 (HXg.out _ hb), fun hb => h7 (HXg.out _ hb)⟩)
              clear HP HC HKX
              go_wp2_with fail
              go_roundw
              case rel => exact ⟨k + 1, by go_num, _, HI5, HC5, HK⟩
              case measure => simp [intOf]; omega
        · have HE := Lib.hid (fun q => gInv_end HI.out (by omega) q)
          have HBL := Lib.hid o4
          obtain ⟨len, hlen⟩ : ∃ len, A.length = len := ⟨_, rfl⟩
          have k1 : ¬ ((k : Int) < (len : Int)) := by omega
          rw [hlen] at c2
          clear hlt hle hlen o1 o2 o3 o3' o4 hgl
          have HRB : Hid (rdBs wr (some ⟨g, 0, none⟩) m (memW A)) := Lib.hid fun j hj => ⟨g, 0, rfl, HBL.out.lt.2, by rw [Nat.zero_add]; exact HBL.out.cell j hj⟩
          go_wp2_with fail
          go_returns
          exact ⟨_, _, memW A, rfl, HRB.out, fun s _ => by
            have h1 := HE.out s
            unfold memW
            rw [decide_eq_true_eq]; exact h1, HG.out.symm ▸ HK.out⟩
end Go.Proofs.Ytefpoapbodbenaa
