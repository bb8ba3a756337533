/-
  The walk of facts' again.
  What facts' behind, either and again tell is what the plain functions catX, orX and repX tell.
  The walks of facts' states.
-/
import Derived.Test.YtjbmkbgoahppfaaDoorPk31
import Derived.Deep.RegionHeldLaw
import Derived.Test.YtjbmkbgoahppfaaDoorPk32
import Derived.Test.YtjbmkbgoahppfaaDoorPk33
import Derived.Test.YtjbmkbgoahppfaaDoorPk34
import Derived.Test.YtjbmkbgoahppfaaDoorPk35
import Derived.Test.YtjbmkbgoahppfaaDoorPk36
import Derived.Test.YtjbmkbgoahppfaaDoorPk37
import Derived.Test.YtjbmkbgoahppfaaDoorPk38
import Derived.Test.YtjbmkbgoahppfaaDoorPk39
import Derived.Test.YtjbmkbgoahppfaaDoorPk40
import Derived.Test.YtjbmkbgoahppfaaDoorPk41
import Derived.Test.YtjbmkbgoahppfaaDoorPk42
import Derived.Test.YtjbmkbgoahppfaaDoorPk43
import Derived.Test.YtjbmkbgoahppfaaDoorPk44
import Derived.Test.YtjbmkbgoahppfaaDoorPk45
import Derived.Test.YtjbmkbgoahppfaaDoorPk46
namespace Go.Proofs.YtjbmkbgoahppfaaDoor
open Go.RowKit

set_option maxRecDepth 100000 in
set_option maxHeartbeats 8000000 in
theorem again_n0 (als ams a0 a1 a2 a3 lo hi L M : Int) (ea : Bool) (w : World) (d0 : (hi == 0) = false) (d1 : (lo == 0) = false) (d2 : (ams == 0) = false) (d3 : decide (0 < ams) = false)
    (_hl : IntKind.i64.wrap (lo * als) = lo * als) (_hm : IntKind.i64.wrap (hi * ams) = hi * ams) (HL : ∀ w, Calls Tryd.prog 40 #[.int .i64 (lo * als)] w fun e w' => e = .returned (.int .i64 L) ∧ w' = w) (HM : ∀ w, Calls Tryd.prog 40 #[.int .i64 (hi * ams)] w fun e w' => e = .returned (.int .i64 M) ∧ w' = w) :
    Calls Tryd.prog 49 #[fxr false als ams a0 a1 a2 a3 ea, .int .i64 lo, .int .i64 hi] w fun e w' => e = .returned (fxr false L (-1) a0 a1 a2 a3 false) ∧ Below w.heap.size w w' := by
  have HLh := Lib.hid HL; have HMh := Lib.hid HM
  clear HL HM
  unfold fxr
  go_enter Tryd.func49, Tryd.ntmps49
  go_wp2_with fail
  obtain ⟨W, hW⟩ : ∃ W, ((w.alloc (.cells #[.bool false, .int .i64 als, .int .i64 ams, .int .u64 a0, .int .u64 a1, .int .u64 a2, .int .u64 a3, .bool ea] 40)).alloc (.cells #[.bool false, .int .i64 0, .int .i64 0, .int .u64 0, .int .u64 0, .int .u64 0, .int .u64 0, .bool false] 40)) = W := ⟨_, rfl⟩
  have HA : Hid (Below w.heap.size w W) := Lib.hid (hW ▸ ((Below.refl _ _).alloc (Nat.le_refl _) _).alloc (by simp) _)
  have hz : W.heap.size = w.heap.size + 2 := by rw [← hW]; simp
  have EA : Hid (isFx W w.heap.size false als ams a0 a1 a2 a3 ea) := Lib.hid (hW ▸ (isFx.new w false als ams a0 a1 a2 a3 ea).alloc _)
  have EC : Hid (isFx W (w.heap.size + 1) false 0 0 0 0 0 0 false) := Lib.hid (hW ▸ (show isFx _ _ _ _ _ _ _ _ _ _ from by
    have := isFx.new (w.alloc (.cells #[.bool false, .int .i64 als, .int .i64 ams, .int .u64 a0, .int .u64 a1, .int .u64 a2, .int .u64 a3, .bool ea] 40)) false 0 0 0 0 0 0 false
    rw [World.size_alloc] at this
    exact this))
  rw [hW]
  clear hW
  obtain ⟨A, hA⟩ : ∃ A, w.heap.size = A := ⟨_, rfl⟩
  rw [hA] at EA EC ⊢
  obtain ⟨C, hC⟩ : ∃ C, A + 1 = C := ⟨_, rfl⟩
  rw [hC] at EC ⊢
  have HZ : Hid (W.heap.size = C + 1 ∧ w.heap.size ≤ C) := Lib.hid ⟨by omega, by omega⟩
  clear hz hA hC
  have hB := Below.refl W.heap.size W
  have HK : Hid (∀ w', Below W.heap.size W w' → w'.cell? ⟨A, 1, none⟩ = some (.int .i64 als) ∧ w'.cell? ⟨A, 3, none⟩ = some (.int .u64 a0) ∧ w'.cell? ⟨A, 4, none⟩ = some (.int .u64 a1) ∧ w'.cell? ⟨A, 5, none⟩ = some (.int .u64 a2) ∧ w'.cell? ⟨A, 6, none⟩ = some (.int .u64 a3)) := Lib.hid fun w' hb => by
    obtain ⟨_, p1, _, p3, p4, p5, p6, _⟩ := (EA.out.below hb EA.out.lt).cells
    exact ⟨p1, p3, p4, p5, p6⟩
  go_region_held_law (fun w' => w'.cell? ⟨A, 1, none⟩ = some (.int .i64 als) ∧ w'.cell? ⟨A, 3, none⟩ = some (.int .u64 a0) ∧ w'.cell? ⟨A, 4, none⟩ = some (.int .u64 a1) ∧ w'.cell? ⟨A, 5, none⟩ = some (.int .u64 a2) ∧ w'.cell? ⟨A, 6, none⟩ = some (.int .u64 a3))
    (first | with_reducible exact HK.out _ hB | with_reducible exact HK.out _ hB.drew | with_reducible exact HK.out _ (hB.alloc (Nat.le_refl _) _) | with_reducible exact HK.out _ (hB.alloc (Nat.le_refl _) _).drew | with_reducible exact HK.out _ (hB.drew.alloc (Nat.le_refl _) _) | with_reducible exact HK.out _ (hB.alloc hB.size _) | with_reducible exact HK.out _ (hB.alloc hB.size _).drew | with_reducible exact HK.out _ (below_st8 hB (Nat.le_refl _) _ _ _ _ _ _ _ _) | exact HK.out _ (below_set87 (hB.alloc (Nat.le_refl _) _).drew (Nat.le_refl _) _ _ _ _ _ _ _ _) | exact HK.out _ (below_set87 (hB.drew.alloc (Nat.le_refl _) _) (Nat.le_refl _) _ _ _ _ _ _ _ _) | exact HK.out _ (below_set87 (hB.alloc hB.size _) hB.size _ _ _ _ _ _ _ _))
    (first
      | (go_at_call 40; (with_reducible refine (HLh.out _).mono ?_); rintro e wk ⟨rfl, rfl⟩)
      | (refine wp_build_fx _ _ _ rfl L (-1) a0 a1 a2 a3 rfl rfl rfl ?_))
  all_goals
    have ED : Hid (isFx (W.alloc (.cells #[.bool false, .int .i64 L, .int .i64 (-1), .int .u64 a0, .int .u64 a1, .int .u64 a2, .int .u64 a3, .bool false] 40)).drew W.heap.size false L (-1) a0 a1 a2 a3 false) := Lib.hid (isFx.new W false L (-1) a0 a1 a2 a3 false)
    have hW5 : Below W.heap.size W (W.alloc (.cells #[.bool false, .int .i64 L, .int .i64 (-1), .int .u64 a0, .int .u64 a1, .int .u64 a2, .int .u64 a3, .bool false] 40)).drew := ((Below.refl W.heap.size W).alloc (Nat.le_refl _) _).drew
    clear hB
    generalize (W.alloc (.cells #[.bool false, .int .i64 L, .int .i64 (-1), .int .u64 a0, .int .u64 a1, .int .u64 a2, .int .u64 a3, .bool false] 40)).drew = W5 at *
    have EA5 := Lib.hid (EA.out.below hW5 EA.out.lt)
    have EC5 := Lib.hid (EC.out.below hW5 EC.out.lt)
    have HA5 := Lib.hid (HA.out.trans (hW5.mono HA.out.size))
    obtain ⟨D, hD⟩ : ∃ D, W.heap.size = D := ⟨_, rfl⟩
    rw [hD] at ED ⊢
    have hCD : ¬ (C = D) := by have := HZ.out; omega
    have hDw : w.heap.size ≤ D := by have := HZ.out; omega
    have hCw : w.heap.size ≤ C := HZ.out.2
    obtain ⟨-, p1, p2, p3, p4, p5, p6, -⟩ := EA5.out.cells
    clear hW5 EA EC HA HK HZ hD HLh EA5
    have E6C := EC5
    have HA6 := HA5
    obtain ⟨s0, s1, s2, s3, s4, s5, s6, s7⟩ := ED.out.cells
    obtain ⟨t0, t1, t2, t3, t4, t5, t6, t7⟩ := ED.out.free
    obtain ⟨r0, r1, r2, r3, r4, r5, r6, r7⟩ := EC5.out.free
    obtain ⟨c0, c1, c2, c3, c4, c5, c6, c7⟩ := EC5.out.cells
    have HS := Lib.hid (below_set87 HA6.out hCw false L (-1) a0 a1 a2 a3 false)
    have Z := Lib.hid (E6C.out.stored false L (-1) a0 a1 a2 a3 false).cells
    clear EC5 ED HA5 HA6 E6C hDw hCw
    unfold set87 at Z HS
    go_wp2_with fail
    refine bodyPost_ret (v := fxr false L (-1) a0 a1 a2 a3 false) (by simp [results, Tryd.results49, go_sem, Z.out]) rfl ⟨rfl, HS.out⟩
end Go.Proofs.YtjbmkbgoahppfaaDoor

namespace Go.Proofs.YtjbmkbgoahppfaaDoor
open Go.RowKit

theorem cap_bd {n : Int} (h : -1 ≤ n) : -1 ≤ cap20 n ∧ cap20 n ≤ 1048576 := by unfold cap20; omega
theorem cap_bd0 {n : Int} (h : 0 ≤ n) : 0 ≤ cap20 n ∧ cap20 n ≤ 1048576 := by unfold cap20; omega
theorem min_bd {a b : Int} (h1 : 0 ≤ a) (h2 : 0 ≤ b) (h3 : a ≤ 1048576) : 0 ≤ min a b ∧ min a b ≤ 1048576 := by omega
theorem max_bd {a b : Int} (h1 : -1 ≤ a) (h2 : a ≤ 1048576) (h3 : b ≤ 1048576) : -1 ≤ max a b ∧ max a b ≤ 1048576 := by omega
theorem bdX_T : ∀ t, okT t → bdX (fxT t)
  | .leaf x, _ => by
    show bdX (leafX x)
    unfold leafX bdX
    split
    · split
      · exact ⟨⟨Int.le_refl _, show (0 : Int) ≤ 1048576 by decide⟩, show (-1 : Int) ≤ 0 by decide, show (0 : Int) ≤ 1048576 by decide⟩
      · exact ⟨⟨show (0 : Int) ≤ 1 by decide, show (1 : Int) ≤ 1048576 by decide⟩, show (-1 : Int) ≤ 1 by decide, show (1 : Int) ≤ 1048576 by decide⟩
    · exact ⟨⟨Int.le_refl _, show (0 : Int) ≤ 1048576 by decide⟩, show (-1 : Int) ≤ 0 by decide, show (0 : Int) ≤ 1048576 by decide⟩
  | .cat a b, h => by
    obtain ⟨⟨a1, a2⟩, a3, a4⟩ := bdX_T a h.1
    obtain ⟨⟨b1, b2⟩, b3, b4⟩ := bdX_T b h.2
    show bdX (catX (fxT a) (fxT b))
    unfold catX bdX
    split
    · exact ⟨⟨Int.le_refl _, show (0 : Int) ≤ 1048576 by decide⟩, show (-1 : Int) ≤ 0 by decide, show (0 : Int) ≤ 1048576 by decide⟩
    · refine ⟨?_, ?_⟩
      · exact cap_bd0 (by omega)
      · show -1 ≤ (if _ then _ else _) ∧ (if _ then _ else _) ≤ _
        split
        · exact ⟨Int.le_refl _, by decide⟩
        · exact cap_bd (by omega)
  | .or a b, h => by
    have ha := bdX_T a h.1
    have hb := bdX_T b h.2
    show bdX (orX (fxT a) (fxT b))
    unfold orX
    split
    · exact hb
    · split
      · exact ha
      · obtain ⟨⟨a1, a2⟩, a3, a4⟩ := ha
        obtain ⟨⟨b1, b2⟩, b3, b4⟩ := hb
        refine ⟨?_, ?_⟩
        · exact min_bd a1 b1 a2
        · show -1 ≤ (if _ then _ else _) ∧ (if _ then _ else _) ≤ _
          split
          · exact ⟨Int.le_refl _, by decide⟩
          · exact max_bd a3 a4 b4
  | .rep a lo hi, h => by
    obtain ⟨⟨a1, a2⟩, a3, a4⟩ := bdX_T a h.1
    have h1 := h.2.1
    show bdX (repX lo hi (fxT a))
    unfold repX
    split
    · exact ⟨⟨Int.le_refl _, show (0 : Int) ≤ 1048576 by decide⟩, show (-1 : Int) ≤ 0 by decide, show (0 : Int) ≤ 1048576 by decide⟩
    · split
      · exact ⟨⟨Int.le_refl _, show (0 : Int) ≤ 1048576 by decide⟩, show (-1 : Int) ≤ 0 by decide, show (0 : Int) ≤ 1048576 by decide⟩
      · refine ⟨?_, ?_⟩
        · have := Int.mul_nonneg h1 a1
          exact cap_bd0 this
        · show -1 ≤ (if _ then _ else _) ∧ (if _ then _ else _) ≤ _
          split
          · exact ⟨Int.le_refl _, by decide⟩
          · split
            · rename_i hn hp
              have : 0 ≤ hi * (fxT a).ms := Int.mul_nonneg (Int.le_of_lt hp) (by omega)
              exact cap_bd (by omega)
            · exact ⟨by decide, by decide⟩
theorem fxv_mk {a : Fx} {nv : Bool} {ls ms : Int} {fi : Nat → Bool} (h : a = ⟨nv, ls, ms, fi⟩) (e : Bool) : fxv a e = fxr nv ls ms (wd fi 0 : Int) (wd fi 1 : Int) (wd fi 2 : Int) (wd fi 3 : Int) e := by subst h; rfl

theorem cbeh_any (a b : Fx) (ha : bdX a) (hb : bdX b) (ea eb : Bool) (w : World) :
    Calls Tryd.prog 47 #[fxv a ea, fxv b eb] w fun e w' => e = .returned (fxv (catX a b) false) ∧ Below w.heap.size w w' := by
  by_cases hn : a.nv = true ∨ b.nv = true
  · have hc : catX a b = fxN := if_pos hn
    rw [hc, fxv_nv]
    exact behind_nv a.nv b.nv hn _ _ _ _ _ _ _ _ _ _ _ _ ea eb w
  · have an : a.nv = false := by cases h : a.nv with | false => rfl | true => exact absurd (.inl h) hn
    have bn : b.nv = false := by cases h : b.nv with | false => rfl | true => exact absurd (.inr h) hn
    obtain ⟨⟨a1, a2⟩, a3, a4⟩ := ha
    obtain ⟨⟨b1, b2⟩, b3, b4⟩ := hb
    have hl : IntKind.i64.wrap (a.ls + b.ls) = a.ls + b.ls := by rw [IntKind.wrap_i64]; omega
    have hm : IntKind.i64.wrap (a.ms + b.ms) = a.ms + b.ms := by rw [IntKind.wrap_i64]; omega
    have HL := fun w => catmost_any (a.ls + b.ls) w
    have HM := fun w => catmost_any (a.ms + b.ms) w
    have HO := fun w => or_lit a.fi b.fi w
    have key : ∀ (m : Int) (fi : Nat → Bool), catX a b = ⟨false, cap20 (a.ls + b.ls), m, fi⟩ → (Calls Tryd.prog 47 #[fxr false a.ls a.ms (wd a.fi 0 : Int) (wd a.fi 1 : Int) (wd a.fi 2 : Int) (wd a.fi 3 : Int) ea, fxr false b.ls b.ms (wd b.fi 0 : Int) (wd b.fi 1 : Int) (wd b.fi 2 : Int) (wd b.fi 3 : Int) eb] w fun e w' => e = .returned (fxr false (cap20 (a.ls + b.ls)) m (wd fi 0 : Int) (wd fi 1 : Int) (wd fi 2 : Int) (wd fi 3 : Int) false) ∧ Below w.heap.size w w') →
        Calls Tryd.prog 47 #[fxv a ea, fxv b eb] w fun e w' => e = .returned (fxv (catX a b) false) ∧ Below w.heap.size w w' := fun m fi h hc => by
      rw [fxv_mk h]
      have e1 : fxv a ea = fxr false a.ls a.ms (wd a.fi 0 : Int) (wd a.fi 1 : Int) (wd a.fi 2 : Int) (wd a.fi 3 : Int) ea := by unfold fxv; rw [an]
      have e2 : fxv b eb = fxr false b.ls b.ms (wd b.fi 0 : Int) (wd b.fi 1 : Int) (wd b.fi 2 : Int) (wd b.fi 3 : Int) eb := by unfold fxv; rw [bn]
      rw [e1, e2]
      exact hc
    by_cases h3 : a.ls = 0
    · have d3 : (a.ls == 0) = true := by simp [h3]
      by_cases h1 : 0 ≤ a.ms
      · by_cases h2 : 0 ≤ b.ms
        · exact key (cap20 (a.ms + b.ms)) (fun k => a.fi k || b.fi k) (by unfold catX; rw [if_neg hn, if_neg (by omega), if_pos h3]) (behind_mo _ _ _ _ _ _ _ _ _ _ _ _ _ _ _ _ _ _ ea eb w (decide_eq_true h1) (decide_eq_true h2) d3 hl hm HL HM HO)
        · exact key (-1) (fun k => a.fi k || b.fi k) (by unfold catX; rw [if_neg hn, if_pos (by omega), if_pos h3]) (behind_no _ _ _ _ _ _ _ _ _ _ _ _ _ _ _ _ _ _ ea eb w (decide_eq_true h1) (decide_eq_false h2) d3 hl hm HL HM HO)
      · exact key (-1) (fun k => a.fi k || b.fi k) (by unfold catX; rw [if_neg hn, if_pos (by omega), if_pos h3]) (behind_xo _ _ _ _ _ _ _ _ _ _ _ _ _ _ _ _ _ _ ea eb w (decide_eq_false h1) d3 hl hm HL HM HO)
    · have d3 : (a.ls == 0) = false := beq_eq_false_iff_ne.2 h3
      by_cases h1 : 0 ≤ a.ms
      · by_cases h2 : 0 ≤ b.ms
        · exact key (cap20 (a.ms + b.ms)) a.fi (by unfold catX; rw [if_neg hn, if_neg (by omega), if_neg h3]) (behind_ma _ _ _ _ _ _ _ _ _ _ _ _ _ _ _ _ _ _ ea eb w (decide_eq_true h1) (decide_eq_true h2) d3 hl hm HL HM HO)
        · exact key (-1) a.fi (by unfold catX; rw [if_neg hn, if_pos (by omega), if_neg h3]) (behind_na _ _ _ _ _ _ _ _ _ _ _ _ _ _ _ _ _ _ ea eb w (decide_eq_true h1) (decide_eq_false h2) d3 hl hm HL HM HO)
      · exact key (-1) a.fi (by unfold catX; rw [if_neg hn, if_pos (by omega), if_neg h3]) (behind_xa _ _ _ _ _ _ _ _ _ _ _ _ _ _ _ _ _ _ ea eb w (decide_eq_false h1) d3 hl hm HL HM HO)

theorem ceit_any (a b : Fx) (ha : bdX a) (hb : bdX b) (ea eb : Bool) : ∃ er, ∀ w,
    Calls Tryd.prog 48 #[fxv a ea, fxv b eb] w fun e w' => e = .returned (fxv (orX a b) er) ∧ Below w.heap.size w w' := by
  cases an : a.nv with
  | true =>
    refine ⟨eb, fun w => ?_⟩
    have hc : orX a b = b := if_pos an
    have e1 : fxv a ea = fxr true a.ls a.ms (wd a.fi 0 : Int) (wd a.fi 1 : Int) (wd a.fi 2 : Int) (wd a.fi 3 : Int) ea := by unfold fxv; rw [an]
    rw [hc, e1]
    exact either_nv _ _ _ _ _ _ b.nv _ _ _ _ _ _ ea eb w
  | false =>
    have an' : ¬ (a.nv = true) := by rw [an]; decide
    cases bn : b.nv with
    | true =>
      refine ⟨ea, fun w => ?_⟩
      have hc : orX a b = a := by unfold orX; rw [if_neg an', if_pos bn]
      have e1 : fxv a ea = fxr false a.ls a.ms (wd a.fi 0 : Int) (wd a.fi 1 : Int) (wd a.fi 2 : Int) (wd a.fi 3 : Int) ea := by unfold fxv; rw [an]
      have e2 : fxv b eb = fxr true b.ls b.ms (wd b.fi 0 : Int) (wd b.fi 1 : Int) (wd b.fi 2 : Int) (wd b.fi 3 : Int) eb := by unfold fxv; rw [bn]
      rw [hc, e1, e2]
      exact either_vn _ _ _ _ _ _ _ _ _ _ _ _ ea eb w
    | false =>
      refine ⟨false, fun w => ?_⟩
      have bn' : ¬ (b.nv = true) := by rw [bn]; decide
      obtain ⟨⟨a1, a2⟩, a3, a4⟩ := ha
      obtain ⟨⟨b1, b2⟩, b3, b4⟩ := hb
      have HO := fun w => or_lit a.fi b.fi w
      have key : ∀ (l m : Int), min a.ls b.ls = l → (if a.ms = -1 ∨ b.ms = -1 then (-1 : Int) else max a.ms b.ms) = m → (Calls Tryd.prog 48 #[fxr false a.ls a.ms (wd a.fi 0 : Int) (wd a.fi 1 : Int) (wd a.fi 2 : Int) (wd a.fi 3 : Int) ea, fxr false b.ls b.ms (wd b.fi 0 : Int) (wd b.fi 1 : Int) (wd b.fi 2 : Int) (wd b.fi 3 : Int) eb] w fun e w' => e = .returned (fxr false l m (wd (fun k => a.fi k || b.fi k) 0 : Nat) (wd (fun k => a.fi k || b.fi k) 1 : Nat) (wd (fun k => a.fi k || b.fi k) 2 : Nat) (wd (fun k => a.fi k || b.fi k) 3 : Nat) false) ∧ Below w.heap.size w w') →
          Calls Tryd.prog 48 #[fxv a ea, fxv b eb] w fun e w' => e = .returned (fxv (orX a b) false) ∧ Below w.heap.size w w' := fun l m hl hm hc => by
        have h : orX a b = ⟨false, l, m, fun k => a.fi k || b.fi k⟩ := by unfold orX; rw [if_neg an', if_neg bn', hl, hm]
        rw [fxv_mk h]
        have e1 : fxv a ea = fxr false a.ls a.ms (wd a.fi 0 : Int) (wd a.fi 1 : Int) (wd a.fi 2 : Int) (wd a.fi 3 : Int) ea := by unfold fxv; rw [an]
        have e2 : fxv b eb = fxr false b.ls b.ms (wd b.fi 0 : Int) (wd b.fi 1 : Int) (wd b.fi 2 : Int) (wd b.fi 3 : Int) eb := by unfold fxv; rw [bn]
        rw [e1, e2]
        exact hc
      by_cases hl : b.ls < a.ls
      · by_cases h1 : 0 ≤ a.ms
        · by_cases h2 : 0 ≤ b.ms
          · by_cases hm : a.ms < b.ms
            · exact key b.ls b.ms (by omega) (by rw [if_neg (by omega)]; omega) (either_m01 _ _ _ _ _ _ _ _ _ _ _ _ _ _ _ _ ea eb w (decide_eq_true h1) (decide_eq_true h2) (if_pos hl) (if_pos hm) HO)
            · exact key b.ls a.ms (by omega) (by rw [if_neg (by omega)]; omega) (either_m00 _ _ _ _ _ _ _ _ _ _ _ _ _ _ _ _ ea eb w (decide_eq_true h1) (decide_eq_true h2) (if_pos hl) (if_neg hm) HO)
          · exact key b.ls (-1) (by omega) (if_pos (by omega)) (either_n01 _ _ _ _ _ _ _ _ _ _ _ _ _ _ _ _ ea eb w (decide_eq_true h1) (decide_eq_false h2) (if_pos hl) HO)
        · exact key b.ls (-1) (by omega) (if_pos (by omega)) (either_x01 _ _ _ _ _ _ _ _ _ _ _ _ _ _ _ _ ea eb w (decide_eq_false h1) (if_pos hl) HO)
      · by_cases h1 : 0 ≤ a.ms
        · by_cases h2 : 0 ≤ b.ms
          · by_cases hm : a.ms < b.ms
            · exact key a.ls b.ms (by omega) (by rw [if_neg (by omega)]; omega) (either_m11 _ _ _ _ _ _ _ _ _ _ _ _ _ _ _ _ ea eb w (decide_eq_true h1) (decide_eq_true h2) (if_neg hl) (if_pos hm) HO)
            · exact key a.ls a.ms (by omega) (by rw [if_neg (by omega)]; omega) (either_m10 _ _ _ _ _ _ _ _ _ _ _ _ _ _ _ _ ea eb w (decide_eq_true h1) (decide_eq_true h2) (if_neg hl) (if_neg hm) HO)
          · exact key a.ls (-1) (by omega) (if_pos (by omega)) (either_n11 _ _ _ _ _ _ _ _ _ _ _ _ _ _ _ _ ea eb w (decide_eq_true h1) (decide_eq_false h2) (if_neg hl) HO)
        · exact key a.ls (-1) (by omega) (if_pos (by omega)) (either_x11 _ _ _ _ _ _ _ _ _ _ _ _ _ _ _ _ ea eb w (decide_eq_false h1) (if_neg hl) HO)

theorem mul_bd {x y : Int} (h0 : 0 ≤ x) (h1 : x ≤ 32) (h2 : 0 ≤ y) (h3 : y ≤ 1048577) : 0 ≤ x * y ∧ x * y ≤ 33554464 := by
  have m1 := Int.mul_nonneg h0 h2
  have m2 := Int.mul_le_mul h1 h3 h2 (by decide : (0 : Int) ≤ 32)
  omega
theorem cagain_any (a : Fx) (ha : bdX a) (lo hi : Int) (h0 : 0 ≤ lo) (h1 : lo ≤ 32) (hh : hi = -1 ∨ (lo ≤ hi ∧ hi ≤ 32)) (ea : Bool) (w : World) :
    Calls Tryd.prog 49 #[fxv a ea, .int .i64 lo, .int .i64 hi] w fun e w' => e = .returned (fxv (repX lo hi a) false) ∧ Below w.heap.size w w' := by
  by_cases hz : hi = 0 ∨ (lo = 0 ∧ a.nv = true)
  · have hc : repX lo hi a = fx0 := if_pos hz
    rw [hc, fxv_zero]
    exact again_zero a.nv _ _ _ _ _ _ lo hi ea w hz
  · have d0 : (hi == 0) = false := beq_eq_false_iff_ne.2 fun h => hz (.inl h)
    cases an : a.nv with
    | true =>
      have hc : repX lo hi a = fxN := by unfold repX; rw [if_neg hz, if_pos an]
      have e1 : fxv a ea = fxr true a.ls a.ms (wd a.fi 0 : Int) (wd a.fi 1 : Int) (wd a.fi 2 : Int) (wd a.fi 3 : Int) ea := by unfold fxv; rw [an]
      rw [hc, fxv_nv, e1]
      exact again_nv _ _ _ _ _ _ lo hi ea w d0 (beq_eq_false_iff_ne.2 fun h => hz (.inr ⟨h, an⟩))
    | false =>
      obtain ⟨⟨a1, a2⟩, a3, a4⟩ := ha
      have an' : ¬ (a.nv = true) := by rw [an]; decide
      have hl : IntKind.i64.wrap (lo * a.ls) = lo * a.ls := by
        have := mul_bd h0 h1 a1 (by omega)
        rw [IntKind.wrap_i64]; omega
      have hm : IntKind.i64.wrap (hi * a.ms) = hi * a.ms := by
        rw [IntKind.wrap_i64]
        rcases hh with h | h
        · rw [h]; omega
        · by_cases hms : a.ms = -1
          · rw [hms]; omega
          · have := mul_bd (x := hi) (y := a.ms) (by omega) h.2 (by omega) (by omega)
            omega
      have HL := fun w => catmost_any (lo * a.ls) w
      have HM := fun w => catmost_any (hi * a.ms) w
      have key : ∀ (m : Int), (if a.ms = -1 ∨ (hi = -1 ∧ 0 < a.ms) then (-1 : Int) else if 0 < hi then cap20 (hi * a.ms) else 0) = m → (Calls Tryd.prog 49 #[fxr false a.ls a.ms (wd a.fi 0 : Int) (wd a.fi 1 : Int) (wd a.fi 2 : Int) (wd a.fi 3 : Int) ea, .int .i64 lo, .int .i64 hi] w fun e w' => e = .returned (fxr false (cap20 (lo * a.ls)) m (wd a.fi 0 : Int) (wd a.fi 1 : Int) (wd a.fi 2 : Int) (wd a.fi 3 : Int) false) ∧ Below w.heap.size w w') →
          Calls Tryd.prog 49 #[fxv a ea, .int .i64 lo, .int .i64 hi] w fun e w' => e = .returned (fxv (repX lo hi a) false) ∧ Below w.heap.size w w' := fun m hm hc => by
        have h : repX lo hi a = ⟨false, cap20 (lo * a.ls), m, a.fi⟩ := by unfold repX; rw [if_neg hz, if_neg an', hm]
        rw [fxv_mk h]
        have e1 : fxv a ea = fxr false a.ls a.ms (wd a.fi 0 : Int) (wd a.fi 1 : Int) (wd a.fi 2 : Int) (wd a.fi 3 : Int) ea := by unfold fxv; rw [an]
        rw [e1]
        exact hc
      have hz' : hi ≠ 0 := fun h => hz (.inl h)
      by_cases hl0 : lo = 0
      · have d1 : (lo == 0) = true := by simp [hl0]
        by_cases hms : a.ms = 0
        · exact key 0 (by rw [if_neg (by omega), hms, Int.mul_zero]; unfold cap20; split <;> rfl) (again_z1 _ _ _ _ _ _ lo hi _ _ ea w d0 d1 (by simp [hms]) hl hm HL HM)
        · have d2 : (a.ms == 0) = false := beq_eq_false_iff_ne.2 hms
          by_cases hp : 0 < a.ms
          · by_cases hh2 : 0 < hi
            · exact key (cap20 (hi * a.ms)) (by rw [if_neg (by omega), if_pos hh2]) (again_m1 _ _ _ _ _ _ lo hi _ _ ea w d0 d1 d2 (decide_eq_true hp) (decide_eq_true hh2) hl hm HL HM)
            · exact key (-1) (if_pos (by omega)) (again_h1 _ _ _ _ _ _ lo hi _ _ ea w d0 d1 d2 (decide_eq_true hp) (decide_eq_false hh2) hl hm HL HM)
          · exact key (-1) (if_pos (by omega)) (again_n1 _ _ _ _ _ _ lo hi _ _ ea w d0 d1 d2 (decide_eq_false hp) hl hm HL HM)
      · have d1 : (lo == 0) = false := beq_eq_false_iff_ne.2 hl0
        by_cases hms : a.ms = 0
        · exact key 0 (by rw [if_neg (by omega), hms, Int.mul_zero]; unfold cap20; split <;> rfl) (again_z0 _ _ _ _ _ _ lo hi _ _ ea w d0 d1 (by simp [hms]) hl hm HL HM)
        · have d2 : (a.ms == 0) = false := beq_eq_false_iff_ne.2 hms
          by_cases hp : 0 < a.ms
          · by_cases hh2 : 0 < hi
            · exact key (cap20 (hi * a.ms)) (by rw [if_neg (by omega), if_pos hh2]) (again_m0 _ _ _ _ _ _ lo hi _ _ ea w d0 d1 d2 (decide_eq_true hp) (decide_eq_true hh2) hl hm HL HM)
            · exact key (-1) (if_pos (by omega)) (again_h0 _ _ _ _ _ _ lo hi _ _ ea w d0 d1 d2 (decide_eq_true hp) (decide_eq_false hh2) hl hm HL HM)
          · exact key (-1) (if_pos (by omega)) (again_n0 _ _ _ _ _ _ lo hi _ _ ea w d0 d1 d2 (decide_eq_false hp) hl hm HL HM)
end Go.Proofs.YtjbmkbgoahppfaaDoor

namespace Go.Proofs.YtjbmkbgoahppfaaDoor
open Go.RowKit

@[reducible] def ndr7 (x : Nd) : Value := .agg #[.int .i64 x.k, .int .u64 x.a, .int .u64 x.b, .int .u64 x.c, .int .u64 x.d, .int .i64 x.lo, .int .i64 x.hi]
/-- A block's cells behind what only adds. -/
theorem cell_far7 {B : Nat} {w w' : World} (hb : Below B w w') {b o : Nat} {v : Value} (hB : b < B) (h : w.cell? ⟨b, o, none⟩ = some v) : w'.cell? ⟨b, o, none⟩ = some v := by
  rw [hb.cell (p := ⟨b, o, none⟩) hB]; exact h

theorem states_leaf (k : Int) (hk : k = 1 ∨ k = 2 ∨ k = 3 ∨ k = 4) (a b c d lo hi : Int) (v : Value) (w : World) :
    Calls Tryd.prog 26 #[.agg #[.int .i64 k, .int .u64 a, .int .u64 b, .int .u64 c, .int .u64 d, .int .i64 lo, .int .i64 hi], v] w fun e w' => e = .returned (.int .i64 2) ∧ Below w.heap.size w w' := by
  have HW := Lib.hid ((Below.refl w.heap.size w).alloc (Nat.le_refl _) (.cells #[.int .i64 k, .int .u64 a, .int .u64 b, .int .u64 c, .int .u64 d, .int .i64 lo, .int .i64 hi] 45))
  have e5 : (k == 5) = false := beq_eq_false_iff_ne.2 (by omega)
  have e6 : (k == 6) = false := beq_eq_false_iff_ne.2 (by omega)
  have e7 : (k == 7) = false := beq_eq_false_iff_ne.2 (by omega)
  clear hk
  go_enter Tryd.func26, Tryd.ntmps26
  go_wp2_with fail
  go_returns
  exact ⟨rfl, HW.out⟩

set_option maxRecDepth 100000 in
set_option maxHeartbeats 2000000 in
theorem states_cat (a b' c d lo hi : Int) (b o cap : Nat) (p q D : Int) (w : World) (hb : b < w.heap.size) (h0 : w.cell? ⟨b, o, none⟩ = some (.int .i64 p)) (h1 : w.cell? ⟨b, o + 1, none⟩ = some (.int .i64 q))
    (_g : IntKind.i64.wrap (p + q) = p + q) (HC : ∀ w, Calls Tryd.prog 40 #[.int .i64 (p + q)] w fun e w' => e = .returned (.int .i64 D) ∧ w' = w) :
    Calls Tryd.prog 26 #[.agg #[.int .i64 5, .int .u64 a, .int .u64 b', .int .u64 c, .int .u64 d, .int .i64 lo, .int .i64 hi], .slice (some ⟨b, o, none⟩) 2 cap] w fun e w' => e = .returned (.int .i64 D) ∧ Below w.heap.size w w' := by
  obtain ⟨W, hW⟩ : ∃ W, w.alloc (.cells #[.int .i64 5, .int .u64 a, .int .u64 b', .int .u64 c, .int .u64 d, .int .i64 lo, .int .i64 hi] 45) = W := ⟨_, rfl⟩
  have hBW : Below w.heap.size w W := hW ▸ (Below.refl _ _).alloc (Nat.le_refl _) _
  have pk : W.cell? ⟨w.heap.size, 0, none⟩ = some (.int .i64 5) := by rw [← hW]; simp
  have p0 := cell_far7 hBW hb h0
  have p1 := cell_far7 hBW hb h1
  have HBW := Lib.hid hBW
  have HCh := Lib.hid HC
  clear hBW h0 h1 HC
  go_enter Tryd.func26, Tryd.ntmps26
  go_wp2_with fail
  clear hW
  go_region_held_law (fun w' => w'.cell? ⟨b, o, none⟩ = some (.int .i64 p) ∧ w'.cell? ⟨b, o + 1, none⟩ = some (.int .i64 q)) (exact ⟨p0, p1⟩)
    (first | (go_at_call 40; (with_reducible refine (HCh.out _).mono ?_); rintro e wk ⟨rfl, rfl⟩))
  all_goals
    go_wp2_with fail
    go_returns
    exact ⟨rfl, HBW.out.drew⟩

set_option maxRecDepth 100000 in
set_option maxHeartbeats 2000000 in
theorem states_or (a b' c d lo hi : Int) (b o cap : Nat) (p q D : Int) (w : World) (hb : b < w.heap.size) (h0 : w.cell? ⟨b, o, none⟩ = some (.int .i64 p)) (h1 : w.cell? ⟨b, o + 1, none⟩ = some (.int .i64 q))
    (_g : IntKind.i64.wrap (p + q) = p + q) (_g2 : IntKind.i64.wrap (p + q + 2) = p + q + 2) (HC : ∀ w, Calls Tryd.prog 40 #[.int .i64 (p + q + 2)] w fun e w' => e = .returned (.int .i64 D) ∧ w' = w) :
    Calls Tryd.prog 26 #[.agg #[.int .i64 6, .int .u64 a, .int .u64 b', .int .u64 c, .int .u64 d, .int .i64 lo, .int .i64 hi], .slice (some ⟨b, o, none⟩) 2 cap] w fun e w' => e = .returned (.int .i64 D) ∧ Below w.heap.size w w' := by
  obtain ⟨W, hW⟩ : ∃ W, w.alloc (.cells #[.int .i64 6, .int .u64 a, .int .u64 b', .int .u64 c, .int .u64 d, .int .i64 lo, .int .i64 hi] 45) = W := ⟨_, rfl⟩
  have hBW : Below w.heap.size w W := hW ▸ (Below.refl _ _).alloc (Nat.le_refl _) _
  have pk : W.cell? ⟨w.heap.size, 0, none⟩ = some (.int .i64 6) := by rw [← hW]; simp
  have p0 := cell_far7 hBW hb h0
  have p1 := cell_far7 hBW hb h1
  have HBW := Lib.hid hBW
  have HCh := Lib.hid HC
  clear hBW h0 h1 HC
  go_enter Tryd.func26, Tryd.ntmps26
  go_wp2_with fail
  clear hW
  go_region_held_law (fun w' => w'.cell? ⟨b, o, none⟩ = some (.int .i64 p) ∧ w'.cell? ⟨b, o + 1, none⟩ = some (.int .i64 q)) (exact ⟨p0, p1⟩)
    (first | (go_at_call 40; (with_reducible refine (HCh.out _).mono ?_); rintro e wk ⟨rfl, rfl⟩))
  all_goals
    go_wp2_with fail
    go_returns
    exact ⟨rfl, HBW.out.drew⟩

set_option maxRecDepth 100000 in
set_option maxHeartbeats 2000000 in
theorem states_inf (a b' c d lo : Int) (b o cap : Nat) (p D : Int) (w : World) (hb : b < w.heap.size) (h0 : w.cell? ⟨b, o, none⟩ = some (.int .i64 p))
    (_g : IntKind.i64.wrap (lo * p) = lo * p) (_g2 : IntKind.i64.wrap (2 + lo * p) = 2 + lo * p) (_g3 : IntKind.i64.wrap (2 + lo * p + p) = 2 + lo * p + p) (_g4 : IntKind.i64.wrap (2 + lo * p + p + 1) = 2 + lo * p + p + 1)
    (HC : ∀ w, Calls Tryd.prog 40 #[.int .i64 (2 + lo * p + p + 1)] w fun e w' => e = .returned (.int .i64 D) ∧ w' = w) :
    Calls Tryd.prog 26 #[.agg #[.int .i64 7, .int .u64 a, .int .u64 b', .int .u64 c, .int .u64 d, .int .i64 lo, .int .i64 (-1)], .slice (some ⟨b, o, none⟩) 1 cap] w fun e w' => e = .returned (.int .i64 D) ∧ Below w.heap.size w w' := by
  obtain ⟨W, hW⟩ : ∃ W, w.alloc (.cells #[.int .i64 7, .int .u64 a, .int .u64 b', .int .u64 c, .int .u64 d, .int .i64 lo, .int .i64 (-1)] 45) = W := ⟨_, rfl⟩
  have hBW : Below w.heap.size w W := hW ▸ (Below.refl _ _).alloc (Nat.le_refl _) _
  have pk : W.cell? ⟨w.heap.size, 0, none⟩ = some (.int .i64 7) := by rw [← hW]; simp
  have p5 : W.cell? ⟨w.heap.size, 5, none⟩ = some (.int .i64 lo) := by rw [← hW]; simp
  have p6 : W.cell? ⟨w.heap.size, 6, none⟩ = some (.int .i64 (-1)) := by rw [← hW]; simp
  have p0 := cell_far7 hBW hb h0
  have HBW := Lib.hid hBW
  have HCh := Lib.hid HC
  clear hBW h0 HC
  go_enter Tryd.func26, Tryd.ntmps26
  go_wp2_with fail
  clear hW
  go_region_held_law (fun w' => w'.cell? ⟨b, o, none⟩ = some (.int .i64 p) ∧ w'.cell? ⟨w.heap.size, 5, none⟩ = some (.int .i64 lo)) (exact ⟨p0, p5⟩) (fail)
  all_goals
    have P0 : W.drew.cell? ⟨b, o, none⟩ = some (.int .i64 p) := p0
    have P6 : W.drew.cell? ⟨w.heap.size, 6, none⟩ = some (.int .i64 (-1)) := p6
    go_wp2_with ((go_at_call 40; (with_reducible refine (HCh.out _).mono ?_); rintro e wk ⟨rfl, rfl⟩))
    go_returns
    exact ⟨rfl, HBW.out.drew⟩

set_option maxRecDepth 100000 in
set_option maxHeartbeats 2000000 in
theorem states_rep (a b' c d lo hi : Int) (b o cap : Nat) (p D : Int) (w : World) (hb : b < w.heap.size) (h0 : w.cell? ⟨b, o, none⟩ = some (.int .i64 p)) (_e : (hi == -1) = false)
    (_g : IntKind.i64.wrap (lo * p) = lo * p) (_g2 : IntKind.i64.wrap (2 + lo * p) = 2 + lo * p) (_g3 : IntKind.i64.wrap (hi - lo) = hi - lo) (_g4 : IntKind.i64.wrap (p + 1) = p + 1) (_g5 : IntKind.i64.wrap ((hi - lo) * (p + 1)) = (hi - lo) * (p + 1)) (_g6 : IntKind.i64.wrap (2 + lo * p + (hi - lo) * (p + 1)) = 2 + lo * p + (hi - lo) * (p + 1))
    (HC : ∀ w, Calls Tryd.prog 40 #[.int .i64 (2 + lo * p + (hi - lo) * (p + 1))] w fun e w' => e = .returned (.int .i64 D) ∧ w' = w) :
    Calls Tryd.prog 26 #[.agg #[.int .i64 7, .int .u64 a, .int .u64 b', .int .u64 c, .int .u64 d, .int .i64 lo, .int .i64 hi], .slice (some ⟨b, o, none⟩) 1 cap] w fun e w' => e = .returned (.int .i64 D) ∧ Below w.heap.size w w' := by
  obtain ⟨W, hW⟩ : ∃ W, w.alloc (.cells #[.int .i64 7, .int .u64 a, .int .u64 b', .int .u64 c, .int .u64 d, .int .i64 lo, .int .i64 hi] 45) = W := ⟨_, rfl⟩
  have hBW : Below w.heap.size w W := hW ▸ (Below.refl _ _).alloc (Nat.le_refl _) _
  have pk : W.cell? ⟨w.heap.size, 0, none⟩ = some (.int .i64 7) := by rw [← hW]; simp
  have p5 : W.cell? ⟨w.heap.size, 5, none⟩ = some (.int .i64 lo) := by rw [← hW]; simp
  have p6 : W.cell? ⟨w.heap.size, 6, none⟩ = some (.int .i64 hi) := by rw [← hW]; simp
  have p0 := cell_far7 hBW hb h0
  have HBW := Lib.hid hBW
  have HCh := Lib.hid HC
  clear hBW h0 HC
  go_enter Tryd.func26, Tryd.ntmps26
  go_wp2_with fail
  clear hW
  go_region_held_law (fun w' => w'.cell? ⟨b, o, none⟩ = some (.int .i64 p) ∧ w'.cell? ⟨w.heap.size, 5, none⟩ = some (.int .i64 lo)) (exact ⟨p0, p5⟩) (fail)
  all_goals
    have P0 : W.drew.cell? ⟨b, o, none⟩ = some (.int .i64 p) := p0
    have P5 : W.drew.cell? ⟨w.heap.size, 5, none⟩ = some (.int .i64 lo) := p5
    have P6 : W.drew.cell? ⟨w.heap.size, 6, none⟩ = some (.int .i64 hi) := p6
    have HB2 := Lib.hid HBW.out.drew
    clear p0 p5 p6 pk
    generalize W.drew = W2 at *
    go_wp2_with fail
    go_region_held_law (fun w' => w'.cell? ⟨b, o, none⟩ = some (.int .i64 p) ∧ w'.cell? ⟨w.heap.size, 5, none⟩ = some (.int .i64 lo) ∧ w'.cell? ⟨w.heap.size, 6, none⟩ = some (.int .i64 hi)) (exact ⟨P0, P5, P6⟩)
      (first | (go_at_call 40; (with_reducible refine (HCh.out _).mono ?_); rintro e wk ⟨rfl, rfl⟩))
    all_goals
      go_wp2_with fail
      go_returns
      exact ⟨rfl, HB2.out.drew⟩
end Go.Proofs.YtjbmkbgoahppfaaDoor
