/-
  The walk of nfa.closed.
-/
import Derived.Test.YtepegohopgnmnaaPk24
import Derived.Test.YtepegohopgnmnaaPk25
namespace Go.Proofs.Ytepegohopgnmnaa
open Go.RowKit

/-- What is met behind the first i of a list of places. -/
def frA (m : Nat) (l : Nat → Int) (A : List Nat) (i : Nat) : Prop := okA9 m A ∧ ∀ q, q ∈ A ↔ q < m ∧ ∃ j, j < i ∧ l j = (q : Int)
theorem frA_zero (m : Nat) (l : Nat → Int) : frA m l [] 0 := ⟨okA_nil m, fun _ => Iff.intro (fun h => by cases h) (fun ⟨_, _, h, _⟩ => absurd h (Nat.not_lt_zero _))⟩
theorem frA_in {m : Nat} {l : Nat → Int} {A : List Nat} {i a : Nat} (h : frA m l A i) (ha : l i = (a : Int)) (hm : a < m) : frA m l (putW A a) (i + 1) := by
  refine ⟨okA_put h.1 hm, fun q => ?_⟩
  rw [putW_mem, h.2 q]
  constructor
  · rintro (⟨h1, j, h2, h3⟩ | rfl)
    · exact ⟨h1, j, by omega, h3⟩
    · exact ⟨hm, i, by omega, ha⟩
  · rintro ⟨h1, j, h2, h3⟩
    by_cases e : j = i
    · subst e; right; omega
    · exact .inl ⟨h1, j, by omega, h3⟩
theorem frA_out {m : Nat} {l : Nat → Int} {A : List Nat} {i : Nat} (h : frA m l A i) (hm : ¬ (0 ≤ l i ∧ l i < m)) : frA m l A (i + 1) := by
  refine ⟨h.1, fun q => ?_⟩
  rw [h.2 q]
  constructor
  · rintro ⟨h1, j, h2, h3⟩; exact ⟨h1, j, by omega, h3⟩
  · rintro ⟨h1, j, h2, h3⟩
    by_cases e : j = i
    · subst e; exact absurd ⟨by omega, by omega⟩ hm
    · exact ⟨h1, j, by omega, h3⟩
/-- The place at k of the list. -/
theorem clW.at {w : World} {h : Nat} {p : Option Addr} {c : Nat} {A : List Nat} (h3 : spO w (h + 2) (.slice p A.length c) A) {k x : Nat} (hx : A[k]? = some x) : ∃ b, p = some ⟨b, 0, none⟩ ∧ w.cell? ⟨b, k, none⟩ = some (.int .i64 (x : Int)) := by
  have hk : k < A.length := by
    rcases Nat.lt_or_ge k A.length with h | h
    · exact h
    · rw [List.getElem?_eq_none h] at hx; cases hx
  rcases id h3.2 with ⟨_, e⟩ | ⟨b, cp, cur, e, _⟩
  · omega
  · cases e
    refine ⟨b, rfl, ?_⟩
    rw [World.ownsRow.cellAt h3 k (by omega)]
    simp [spl9, hx]
def clPost (m : Nat) (P : Nat → Prop) (w : World) (e : Ending) (w' : World) : Prop :=
  ∃ p c A, e = .returned (.slice p A.length c) ∧ rdL w' p A.length (tlA A m) ∧ Below w.heap.size w w' ∧ okA9 m A ∧ (∀ q, q ∈ A ↔ P q) ∧ ∀ b o, p = some ⟨b, o, none⟩ → w.heap.size ≤ b

set_option maxRecDepth 100000 in
set_option maxHeartbeats 20000000 in
theorem closed_is (b off m cap : Nat) (S : Nat → Sd) (sym : Int) (q : Option Addr) (n c : Nat) (l : Nat → Int) (hm : m ≤ 1000) (hpos : 0 < m) (hn : n ≤ 1000) (hR : rng S m) (w : World) (hS : rdS w b off m S) (hl : rdL w q n l) :
    Calls Try.prog 68 #[.slice (some ⟨b, off, none⟩) m cap, .slice q n c, .int .i64 sym] w (clPost m (Cl S sym (nmd m n l)) w) := by
  obtain ⟨ib, hib, hb0, hb1, hb2⟩ := info_parts infoBool9
  have m1 : Hid ((1 : Nat) * m ≤ 281474976710656) := Lib.hid (by omega)
  have m2 : Hid (m ≤ maxLen) := Lib.hid (by unfold maxLen; omega)
  have m0 : (0 : Int) ≤ (m : Int) := by omega
  have HSw := Lib.hid hS; have HLw := Lib.hid hl; have HR := Lib.hid hR
  clear hS hl hR
  go_enter Try.func68, Try.ntmps68
  go_wp2_with (refine wpList_make_full _ rfl _ _ 28 rfl w.heap.size 4 ib (.bool false) 1 Try.underlying28 hib hb0 hb1 .i64 .i64 (m : Int) (m : Int) m rfl rfl (by omega) (by omega) (by rw [hb2]; exact m1.out) m2.out (Nat.le_refl _) ?_)
  intro w3 hmk hg3
  rw [made_bls] at hmk
  have hB3 : Below w.heap.size w w3 := (Below.refl _ _).grown hg3 (Nat.le_refl _) (fun r hr => by cases hr)
  obtain ⟨g, hg⟩ : ∃ g, w.heap.size = g := ⟨_, rfl⟩
  obtain ⟨h, hh⟩ : ∃ h, w3.heap.size = h := ⟨_, rfl⟩
  have hbl : blR w3 g g m m (memW []) := by rw [← hg]; exact hmk
  have hgh : g < h := by rw [← hh]; exact hbl.lt.2
  rw [hg]
  obtain ⟨W0, hW0⟩ : ∃ W0, (w3.alloc (.cells #[.slice (some ⟨g, 0, none⟩) m m] 28)).alloc (.cells #[.slice none 0 0] 27) = W0 := ⟨_, rfl⟩
  have hal : Below w3.heap.size w3 W0 := hW0 ▸ ((Below.refl _ _).alloc (Nat.le_refl _) _).alloc (by simp) _
  have hcl : clW W0 g h m [] := by
    refine ⟨hgh, ?_, ⟨none, 0, ?_, ⟨rfl, .inl ⟨rfl, rfl⟩⟩⟩, hbl.below hal⟩
    · rw [← hW0]
      exact (Below.heap_alloc _ _ h (by rw [World.size_alloc]; omega)).trans (hh ▸ heap_alloc_new w3 _)
    · have := heap_alloc_new (w3.alloc (.cells #[.slice (some ⟨g, 0, none⟩) m m] 28)) (.cells #[.slice none 0 0] 27)
      rw [hW0, World.size_alloc, hh] at this
      exact this
  have HC0 := Lib.hid hcl
  have HK0 := Lib.hid (kpW.of_below (g := g) (by omega) (hB3.trans (hal.mono hB3.size)))
  have HF0 := Lib.hid (frA_zero m l)
  have HG := Lib.hid hg
  have HW0 := Lib.hid hW0
  have HGH := Lib.hid hgh
  clear hmk hg3 hB3 hg hbl hgh hal hcl hW0 m1 m2 hib hb0 hb1 hb2
  go_upto_region 4 with (fail)
  rw [HW0.out]
  clear HW0 hh
  have n0 : (0 : Int) ≤ (n : Int) := by omega
  go_wp2_with fail
  go_loopw [20] (fun iv wr => ∃ i : Nat, i ≤ n ∧ iv = .int .i64 i ∧ ∃ A, Hid (frA m l A i) ∧ Hid (clW wr g h m A) ∧ Hid (kpW g w wr)) (fun iv _ => n - (intOf iv).toNat)
  case atStart => exact ⟨0, Nat.zero_le _, rfl, [], HF0, HC0, HK0⟩
  case round =>
    clear HF0 HC0 HK0
    obtain ⟨i, hi, rfl, A, HF, HC, HK⟩ := hrel
    by_cases hlti : i < n
    · have i0 : (0 : Int) ≤ (i : Int) := by omega
      have i1 : (i : Int) < (n : Int) := by omega
      obtain ⟨lb, lo, rfl, hlb, hlc⟩ := (HLw.out.below (HG.out.symm ▸ HK.out.1)) i hlti
      obtain ⟨x, hx⟩ : ∃ x, l i = x := ⟨_, rfl⟩
      have HX := Lib.hid hx
      rw [hx] at hlc
      clear hx
      by_cases hin : 0 ≤ x ∧ x < m
      · obtain ⟨a, rfl⟩ : ∃ a : Nat, x = a := ⟨x.toNat, by omega⟩
        have ham : a < m := by omega
        have HP := Lib.hid (fun w => placeb9 (a : Int) m true (by rw [decide_eq_true hin.1, decide_eq_true hin.2]; rfl) w)
        clear hin
        go_wp2_with fail
        refine (HP.out _).mono ?_
        rintro e w' ⟨rfl, rfl⟩
        go_wp2_with fail
        refine (wput_is g h m a A hm ham HF.out.1 _ HC.out).mono ?_
        rintro e w5 ⟨rfl, hc5, hk5⟩
        have HF5 := Lib.hid (frA_in HF.out HX.out ham)
        have HC5 := Lib.hid hc5
        have HK5 := Lib.hid (HK.out.trans hk5)
        clear hc5 hk5
        go_wp2_with fail
        go_roundw
        case rel => exact ⟨i + 1, by omega, by go_num, _, HF5, HC5, HK5⟩
        case measure => simp [intOf]; omega
      · have HP := Lib.hid (fun w => placeb9 x m false (by rw [← Bool.decide_and]; exact decide_eq_false hin) w)
        have HF5 := Lib.hid (frA_out HF.out (by rw [HX.out]; exact hin))
        clear hin
        go_wp2_with fail
        refine (HP.out _).mono ?_
        rintro e w' ⟨rfl, rfl⟩
        go_wp2_with fail
        go_roundw
        case rel => exact ⟨i + 1, by omega, by go_num, _, HF5, HC, HK⟩
        case measure => simp [intOf]; omega
    · obtain rfl : i = n := by omega
      have HI0 := Lib.hid (wInv_start (S := S) (sym := sym) HF.out.1 (P := nmd m i l) HF.out.2)
      clear HF hlti hi
      go_wp2_with fail
      go_loopw [12] (fun kv wx => ∃ k : Nat, kv = .int .i64 k ∧ ∃ A, Hid (wInv S sym m (nmd m i l) A k) ∧ Hid (clW wx g h m A) ∧ Hid (kpW g w wx)) (fun kv _ => m - (intOf kv).toNat)
      case atStart => exact ⟨0, rfl, A, HI0, HC, HK⟩
      case round =>
        clear HI0 HC HK
        obtain ⟨k, rfl, A, HI, HC, HK⟩ := hrel
        have hle := okA_le HI.out.1
        obtain ⟨-, o1, ⟨p, cc, o2, o3⟩, o4⟩ := HC.out
        have O2 := Lib.hid o2
        have O3 := Lib.hid o3
        have c2 := o2.cell
        clear o1 o4
        by_cases hlt : k < A.length
        · obtain ⟨x, hx⟩ : ∃ x, A[k]? = some x := ⟨A[k], by simp [hlt]⟩
          obtain ⟨pb, rfl, hpc⟩ := clW.at o3 hx
          have hxm : x < m := HI.out.1.2 x (List.mem_of_getElem? hx)
          obtain ⟨hbl, p0, p1, p2, p3, p4, p5, p6⟩ := (HSw.out.below (HG.out.symm ▸ HK.out.1)) x hxm
          obtain ⟨r1, r2, r3, r4, r5, r6⟩ := HR.out x hxm
          obtain ⟨X, hX⟩ : ∃ X, S x = X := ⟨_, rfl⟩
          have HSX := Lib.hid hX
          rw [hX] at p0 p1 p2 p3 p4 p5 p6 r1 r2 r3 r4 r5 r6
          obtain ⟨xk, xa, xb, xc, xd, xA, xB⟩ := X
          simp only at p0 p1 p2 p3 p4 p5 p6 r1 r2 r3 r4 r5 r6
          obtain ⟨A', rfl⟩ : ∃ A' : Nat, xA = A' := ⟨xA.toNat, by omega⟩
          obtain ⟨B', rfl⟩ : ∃ B' : Nat, xB = B' := ⟨xB.toNat, by omega⟩
          have hA' : A' < m := by omega
          have hB' : B' < m := by omega
          have HX := Lib.hid hx
          have HLT := Lib.hid hlt
          have x0 : (0 : Int) ≤ (x : Int) := by omega
          have x1 : (x : Int) < (m : Int) := by omega
          obtain ⟨len, hlen⟩ : ∃ len, A.length = len := ⟨_, rfl⟩
          have k0 : (0 : Int) ≤ (k : Int) := by omega
          have k1 : (k : Int) < (len : Int) := by omega
          have hkm : k < m := by omega
          have HLEN := Lib.hid hlen
          rw [hlen] at c2
          clear hX hx hlt hle o2 o3 hlen r3 r4 r5 r6 O2 O3
          obtain ⟨Wa, hWa⟩ : ∃ Wa, wr.alloc (.cells #[.int .i64 xk, .int .i64 (A' : Int), .int .i64 (B' : Int), .int .u64 xa, .int .u64 xb, .int .u64 xc, .int .u64 xd] 64) = Wa := ⟨_, rfl⟩
          have hbx : Below wr.heap.size wr Wa := hWa ▸ (Below.refl _ _).alloc (Nat.le_refl _) _
          have HCa := Lib.hid (HC.out.below hbx)
          have HKa := Lib.hid (HK.out.trans (kpW.of_below (g := g) (by have := HC.out.2.1.lt; have := HC.out.1; omega) hbx))
          have ST := Lib.hid (hWa ▸ isSt9.new wr xk (A' : Int) (B' : Int) xa xb xc xd)
          have HWa := Lib.hid hWa
          clear hbx hWa HC HK
          go_upto_region 14 with (fail)
          rw [HWa.out]
          clear HWa c2 hpc hbl p0 p1 p2 p3 p4 p5 p6
          obtain ⟨s0, s1, s2, -⟩ := ST.out.cells
          rcases (show xk = 1 ∨ xk = 2 ∨ xk = 3 ∨ xk = 4 ∨ xk = 5 ∨ xk = 6 by omega) with rfl | rfl | rfl | rfl | rfl | rfl
          · skip
            have HI5 := Lib.hid (wInv_none HI.out HLT.out HX.out (by rw [HSX.out]; simp) (by unfold eA; rw [HSX.out]; simp [*]))
            go_wp2_with fail
            go_roundw
            case rel => exact ⟨k + 1, by go_num, _, HI5, HCa, HKa⟩
            case measure => simp [intOf]; omega
          · skip
            have HI5 := Lib.hid (wInv_one HI.out HLT.out HX.out (by rw [HSX.out]; simp) (by unfold eA; rw [HSX.out]; simp [*]) (by rw [HSX.out]) hA')
            go_wp2_with fail
            refine (wput_is g h m A' A hm hA' HI.out.1 _ HCa.out).mono ?_
            rintro e w5 ⟨rfl, hc5, hk5⟩
            have HC5 := Lib.hid hc5
            have HK5 := Lib.hid (HKa.out.trans hk5)
            clear hc5 hk5
            go_wp2_with fail
            go_roundw
            case rel => exact ⟨k + 1, by go_num, _, HI5, HC5, HK5⟩
            case measure => simp [intOf]; omega
          · skip
            have HI5 := Lib.hid (wInv_two HI.out HLT.out HX.out (by rw [HSX.out]) (by rw [HSX.out]) (by rw [HSX.out]) hA' hB')
            go_wp2_with fail
            refine (wput_is g h m B' A hm hB' HI.out.1 _ HCa.out).mono ?_
            rintro e w5 ⟨rfl, hc5, hk5⟩
            have HC5 := Lib.hid hc5
            have HK5 := Lib.hid (HKa.out.trans hk5)
            have ST5 := Lib.hid (ST.out.kept hk5)
            clear hc5 hk5 s0 s1 s2
            obtain ⟨s0, s1, s2, -⟩ := ST5.out.cells
            go_wp2_with fail
            refine (wput_is g h m A' (putW A B') hm hA' (okA_put HI.out.1 hB') _ HC5.out).mono ?_
            rintro e w6 ⟨rfl, hc6, hk6⟩
            have HC6 := Lib.hid hc6
            have HK6 := Lib.hid (HK5.out.trans hk6)
            clear hc6 hk6
            go_wp2_with fail
            go_roundw
            case rel => exact ⟨k + 1, by go_num, _, HI5, HC6, HK6⟩
            case measure => simp [intOf]; omega
          · skip
            by_cases z1 : sym = 256
            · have d1 : (sym == 256) = true := by simp [z1]
              have HI5 := Lib.hid (wInv_one HI.out HLT.out HX.out (by rw [HSX.out]; simp) (by unfold eA; rw [HSX.out]; simp [*]) (by rw [HSX.out]) hA')
              clear z1
              go_wp2_with fail
              refine (wput_is g h m A' A hm hA' HI.out.1 _ HCa.out).mono ?_
              rintro e w5 ⟨rfl, hc5, hk5⟩
              have HC5 := Lib.hid hc5
              have HK5 := Lib.hid (HKa.out.trans hk5)
              clear hc5 hk5
              go_wp2_with fail
              go_roundw
              case rel => exact ⟨k + 1, by go_num, _, HI5, HC5, HK5⟩
              case measure => simp [intOf]; omega
            have d1 : (sym == 256) = false := by simp [z1]
            by_cases z2 : sym = 258
            · have d2 : (sym == 258) = true := by simp [z2]
              have HI5 := Lib.hid (wInv_one HI.out HLT.out HX.out (by rw [HSX.out]; simp) (by unfold eA; rw [HSX.out]; simp [*]) (by rw [HSX.out]) hA')
              clear z1 z2
              go_wp2_with fail
              refine (wput_is g h m A' A hm hA' HI.out.1 _ HCa.out).mono ?_
              rintro e w5 ⟨rfl, hc5, hk5⟩
              have HC5 := Lib.hid hc5
              have HK5 := Lib.hid (HKa.out.trans hk5)
              clear hc5 hk5
              go_wp2_with fail
              go_roundw
              case rel => exact ⟨k + 1, by go_num, _, HI5, HC5, HK5⟩
              case measure => simp [intOf]; omega
            have d2 : (sym == 258) = false := by simp [z2]
            have HI5 := Lib.hid (wInv_none HI.out HLT.out HX.out (by rw [HSX.out]; simp) (by unfold eA; rw [HSX.out]; simp [*]))
            clear z1 z2
            go_wp2_with fail
            go_roundw
            case rel => exact ⟨k + 1, by go_num, _, HI5, HCa, HKa⟩
            case measure => simp [intOf]; omega
          · skip
            by_cases z1 : sym = 257
            · have d1 : (sym == 257) = true := by simp [z1]
              have HI5 := Lib.hid (wInv_one HI.out HLT.out HX.out (by rw [HSX.out]; simp) (by unfold eA; rw [HSX.out]; simp [*]) (by rw [HSX.out]) hA')
              clear z1
              go_wp2_with fail
              refine (wput_is g h m A' A hm hA' HI.out.1 _ HCa.out).mono ?_
              rintro e w5 ⟨rfl, hc5, hk5⟩
              have HC5 := Lib.hid hc5
              have HK5 := Lib.hid (HKa.out.trans hk5)
              clear hc5 hk5
              go_wp2_with fail
              go_roundw
              case rel => exact ⟨k + 1, by go_num, _, HI5, HC5, HK5⟩
              case measure => simp [intOf]; omega
            have d1 : (sym == 257) = false := by simp [z1]
            by_cases z2 : sym = 258
            · have d2 : (sym == 258) = true := by simp [z2]
              have HI5 := Lib.hid (wInv_one HI.out HLT.out HX.out (by rw [HSX.out]; simp) (by unfold eA; rw [HSX.out]; simp [*]) (by rw [HSX.out]) hA')
              clear z1 z2
              go_wp2_with fail
              refine (wput_is g h m A' A hm hA' HI.out.1 _ HCa.out).mono ?_
              rintro e w5 ⟨rfl, hc5, hk5⟩
              have HC5 := Lib.hid hc5
              have HK5 := Lib.hid (HKa.out.trans hk5)
              clear hc5 hk5
              go_wp2_with fail
              go_roundw
              case rel => exact ⟨k + 1, by go_num, _, HI5, HC5, HK5⟩
              case measure => simp [intOf]; omega
            have d2 : (sym == 258) = false := by simp [z2]
            have HI5 := Lib.hid (wInv_none HI.out HLT.out HX.out (by rw [HSX.out]; simp) (by unfold eA; rw [HSX.out]; simp [*]))
            clear z1 z2
            go_wp2_with fail
            go_roundw
            case rel => exact ⟨k + 1, by go_num, _, HI5, HCa, HKa⟩
            case measure => simp [intOf]; omega
          · skip
            have HI5 := Lib.hid (wInv_none HI.out HLT.out HX.out (by rw [HSX.out]; simp) (by unfold eA; rw [HSX.out]; simp [*]))
            go_wp2_with fail
            go_roundw
            case rel => exact ⟨k + 1, by go_num, _, HI5, HCa, HKa⟩
            case measure => simp [intOf]; omega
        · have HE := Lib.hid (fun q => wInv_end HI.out (by omega) q)
          have HS := Lib.hid (wsort_is h m A HI.out.1 hm p cc wr O2.out O3.out)
          have HFr : Hid (∀ b o, p = some ⟨b, o, none⟩ → g ≤ b) := Lib.hid fun b o e => by
            have o3' := O3.out
            subst e
            have := (World.ownsRow.lt o3' b rfl).1
            have := HGH.out
            omega
          clear o2 o3
          obtain ⟨len, hlen⟩ : ∃ len, A.length = len := ⟨_, rfl⟩
          have k1 : ¬ ((k : Int) < (len : Int)) := by omega
          have HLEN := Lib.hid hlen
          have HS : Hid (Calls Try.prog 79 #[.slice p len cc] wr fun e w' => e = .returned (.tuple #[]) ∧ one9 27 w' (h + 1) (.slice p len cc) ∧ rdL w' p len (tlA A m) ∧ Below h wr w') := Lib.hid (by have := HS.out; rw [hlen] at this; exact this)
          rw [hlen] at c2
          clear hlt hle hlen O2 O3
          go_wp2_with fail
          refine HS.out.mono ?_
          rintro e w6 ⟨rfl, t2, t3, t4⟩
          have c6 := t2.cell
          have l6 := t2.lt
          have T3 := Lib.hid t3
          have HB := Lib.hid (HK.out.1.trans (t4.mono (Nat.le_of_lt HGH.out)))
          clear t2 t3 t4 c2
          go_wp2_with fail
          go_returns
          exact ⟨p, cc, A, by rw [HLEN.out] <;> rfl, by rw [HLEN.out]; exact T3.out, HG.out.symm ▸ HB.out, HI.out.1, HE.out, fun b o e => Nat.le_trans (Nat.le_of_eq HG.out) (HFr.out b o e)⟩
end Go.Proofs.Ytepegohopgnmnaa
