/-
  The walk of the reference's Text (its repeats by hand: the order of region 23 is drawn).
-/
import Derived.Test.YtgjpmfdiidkdnaaDoorPk35
import Derived.Test.YtgjpmfdiidkdnaaDoorPk42
import Derived.Test.YtgjpmfdiidkdnaaDoorPk44
import Derived.Test.YtgjpmfdiidkdnaaDoorPk47
import Derived.BigQuiet
import Derived.Deep.QuietTactic
import Derived.Deep.RegionHeldLaw
namespace Go.Proofs.YtgjpmfdiidkdnaaDoor
open Go.RowKit

theorem infoStr : (Tryd.prog.info? 9).map (fun i => (i.zero, i.size, i.bytes)) = some (some (.string ByteArray.empty), 1, 16) := by kernel_rfl
/-- What Text tells. -/
def rtxtPost (N : Nat → Nd) (n : Nat) (w : World) (e : Ending) (w' : World) : Prop := e = .returned (.tuple #[.string (showF N n).1, .int .i64 (showF N n).2]) ∧ Below w.heap.size w w'
/-- Texts, as cells. -/
def svs (N : Nat → Nd) (k : Nat) : List Value := (List.range k).map fun j => .string (txB N j)
theorem svs_length (N : Nat → Nd) (k : Nat) : (svs N k).length = k := by simp [svs]
theorem svs_succ (N : Nat → Nd) (k : Nat) : svs N (k + 1) = svs N k ++ [.string (txB N k)] := by simp [svs, List.range_succ]
theorem svs_at (N : Nat → Nd) (k j : Nat) (h : j < k) : (svs N k)[j]? = some (.string (txB N j)) := by simp [svs, h]
theorem about6 (s : ByteArray) (b : Bool) (hs : s.size ≤ 1000000000) (w : World) : Calls Tryd.prog 19 #[.string s, .bool b] w fun e w' => e = .returned (.string (parB b s)) ∧ w' = w := about_any s b hs w
theorem far6 {B : Nat} {w w' : World} (hb : Below B w w') {b o : Nat} {v : Value} (hB : b < B) (h : w.cell? ⟨b, o, none⟩ = some v) : w'.cell? ⟨b, o, none⟩ = some v := by
  rw [hb.cell (p := ⟨b, o, none⟩) hB]; exact h
theorem sv_of {x : Nd} (h : okW x) : Value.agg #[.int .u64 x.a, .int .u64 x.b, .int .u64 x.c, .int .u64 x.d] = sv (fOf x) := by
  obtain ⟨e1, e2, e3, e4⟩ := fOf_wd h
  unfold sv
  rw [← e1, ← e2, ← e3, ← e4]
theorem txB_most {N : Nat → Nd} {n : Nat} (ht : tree N n) (hn : n ≤ 100) (j : Nat) (hj : j < n) : (txB N j).size ≤ 240000 := by
  have h1 := txt_root ht hj
  have h2 := txt_most ht
  rw [txB_size]
  omega

set_option maxRecDepth 100000 in
set_option maxHeartbeats 2000000 in
theorem rtext_not (p : Option Addr) (n cap : Nat) (N : Nat → Nd) (ht : ¬ tree N n) (w : World) (hR : Calls Tryd.prog 17 #[.slice p n cap] w fun e w' => e = .returned (.bool (decide (tree N n))) ∧ Below w.heap.size w w') :
    Calls Tryd.prog 7 #[.slice p n cap] w (rtxtPost N n w) := by
  have HF := Lib.hid (showF_not ht)
  rw [decide_eq_false ht] at hR
  have HR := Lib.hid hR
  clear hR ht
  unfold rtxtPost
  go_enter Tryd.func7, Tryd.ntmps7
  go_wp2_with fail
  refine HR.out.mono ?_
  rintro e w1 ⟨rfl, hb⟩
  have HB := Lib.hid hb
  clear hb
  go_wp2_with fail
  go_returns
  exact ⟨by rw [HF.out] <;> rfl, HB.out⟩

set_option maxRecDepth 100000 in
set_option maxHeartbeats 40000000 in
theorem rtext_tree (b off n cap : Nat) (N : Nat → Nd) (ht : tree N n) (hn100 : n ≤ 100) (hw : ∀ j, j < n → okW (N j)) (w : World) (hr : rdN w b off n N) :
    Calls Tryd.prog 7 #[.slice (some ⟨b, off, none⟩) n cap] w (rtxtPost N n w) := by
  obtain ⟨i0, hi, hz0, hz1, hz2⟩ := info_parts infoStr
  have hn := ht.1
  have hpos : 0 < n := by
    rcases Nat.eq_zero_or_pos n with h | h
    · subst h; have := ht.2.2; simp [dep] at this
    · exact h
  have hR := rright_some b off n cap N hpos hn w hr
  rw [decide_eq_true ht] at hR
  have HR := Lib.hid hR
  have HRD := Lib.hid hr
  have HTR := Lib.hid ht
  have HW := Lib.hid hw
  have HSZ := Lib.hid (txB_most ht hn100)
  have HEND := Lib.hid (fun h => showF_ok ht h)
  have HLONG := Lib.hid (fun h => showF_long ht (show n - 1 < n by omega) h)
  clear hR hr ht hw
  unfold rtxtPost
  go_enter Tryd.func7, Tryd.ntmps7
  go_wp2_with fail
  refine HR.out.mono ?_
  rintro e w1 ⟨rfl, hb⟩
  have HB1 := Lib.hid hb
  have HRD1 := Lib.hid (HRD.out.below hb)
  clear hb HR HRD
  go_wp2_with fail
  go_loopw [4, 5] (fun v i wr => ∃ k : Nat, k ≤ n ∧ i = .int .i64 k ∧ Hid (wr.ownsRow w1.heap.size 9 1 v k (svs N k)) ∧ Below w1.heap.size w1 wr) (fun _ i _ => n - (intOf i).toNat)
  case atStart => exact ⟨0, Nat.zero_le _, rfl, Lib.hid (World.ownsRow_nil _ _ _ _), Below.refl _ _⟩
  case round =>
    obtain ⟨k, hk, rfl, HO, hB⟩ := hrel
    by_cases hlt : k < n
    · have HKd := Lib.hid (rkids_is b off n cap k N (by omega) hlt ((tree_iff.1 HTR.out).2.2.1 k hlt).1 wr (HRD1.out.below hB))
      have HB := Lib.hid hB
      clear hB
      have hok := ((tree_iff.1 HTR.out).2.2.1 k hlt).2
      obtain ⟨f, hf, hc⟩ := nd_is HTR.out hlt
      have hsz := HSZ.out k hlt
      go_wp2_with fail
      refine HKd.out.mono ?_
      rintro e w2 ⟨kv, rfl, hkv, hb⟩
      have HB2 := Lib.hid (HB.out.trans (hb.mono HB.out.size))
      have HO2 := Lib.hid (owns_below HO.out hb)
      have hRD2 := HRD1.out.below HB2.out
      have i0' : (0 : Int) ≤ (k : Int) := by omega
      have i1 : (k : Int) < (n : Int) := by omega
      clear HKd HO HB hb
      cases hc with
      | leaf _ hk0 _ =>
        rw [show kids N k = [] by unfold kids; rcases hk0 with h | h | h | h <;> (rw [h]; rfl)] at hkv
        obtain ⟨kp, kc, rfl⟩ : ∃ kp kc, kv = .slice kp 0 kc := by
          rcases hkv with ⟨p, c, rfl, -⟩ | ⟨g, c, rfl, -⟩
          · exact ⟨p, c, rfl⟩
          · exact ⟨_, c, rfl⟩
        obtain ⟨hbl, p0, p1, p2, p3, p4, p5, p6⟩ := hRD2 k hlt
        have hxw := HW.out k hlt
        have hlf := txB_leaf (N := N) (i := k) hk0
        rcases hk0 with hk0 | hk0 | hk0 | hk0
        · have HS0 : Hid (txB N k = bs (setL (fOf (N k)))) := Lib.hid (by rw [hlf]; unfold txt; rw [if_pos hk0])
          have hsv := sv_of hxw
          have hcall := rset_any (fOf (N k))
          rw [← hsv] at hcall
          obtain ⟨s, hs⟩ : ∃ s, bs (setL (fOf (N k))) = s := ⟨_, rfl⟩
          rw [hs] at hcall HS0
          have HS := HS0
          have HC := Lib.hid hcall
          rw [hk0] at p0
          clear hcall hsv hs hlf hxw hok hk0 HS0 hkv hf hRD2 hsz
          generalize N k = y at p0 p1 p2 p3 p4 p5 p6 HC
          obtain ⟨yk, ya, yb, yc, yd, ylo, yhi⟩ := y
          simp only at p0 p1 p2 p3 p4 p5 p6 HC
          go_wp2_with fail
          refine (HC.out _).mono ?_
          rintro e w3 ⟨rfl, hb⟩
          have HB3 := Lib.hid (HB2.out.trans (hb.mono HB2.out.size))
          have HO3 := Lib.hid (owns_below HO2.out hb)
          clear hb HB2 HO2 HC p0 p1 p2 p3 p4 p5 p6
          have H63 : Hid (k + 1 ≤ maxLen) := Lib.hid (by unfold maxLen; omega)
          have H48 : Hid ((k + 1) * 16 ≤ 140737488355328) := Lib.hid (by omega)
          have hO4 := HO3.out.alloc (.cells #[.string s] 9)
          have HB4 := Lib.hid (HB3.out.alloc HB3.out.size (.cells #[.string s] 9))
          go_wp2_with (at_builtin; refine wpList_append_own _ rfl _ _ 50 rfl w1.heap.size 9 i0 (.string ByteArray.empty) 1 16 Tryd.underlying50 hi hz0 hz1 hz2 rfl (by decide) _ _ _ rfl hO4 ⟨w3.heap.size, 0, none⟩ 1 1 [.string s] rfl rfl ?c2 ?c3 H63.out H48.out ?c5 ?_)
          case c2 =>
            intro j u hj
            match j, hj with
            | 0, hj => simp at hj; subst hj; simp [Addr.add]
          case c3 => intro u hu; simp at hu; subst hu; rfl
          case c5 => exact HB4.out.size
          intro v' w5 hown5 hgrow _
          have HB5 : Hid (Below w1.heap.size w1 w5) := Lib.hid (HB4.out.grown hgrow HB4.out.size fun r hr => (hO4.lt r hr).1)
          have HO5 : Hid (w5.ownsRow w1.heap.size 9 1 v' (k + 1) (svs N (k + 1))) := Lib.hid (by
            rw [svs_succ, HS.out]
            exact hown5)
          clear hown5 hgrow hO4 HB4
          go_wp2_with fail
          go_roundw
          case rel => exact ⟨k + 1, by omega, by go_num, HO5, HB5.out⟩
          case measure => simp [intOf]; omega
        · have HS : Hid (txB N k = ⟨#[40, 41]⟩) := Lib.hid (by rw [hlf]; unfold txt; rw [if_neg (by omega), if_pos hk0]; rfl)
          obtain ⟨s, hs⟩ : ∃ s : ByteArray, (⟨#[40, 41]⟩ : ByteArray) = s := ⟨_, rfl⟩
          rw [hk0] at p0
          have HB3 := HB2
          have HO3 := HO2
          clear hlf hxw hok hk0 hkv hf hRD2 p1 p2 p3 p4 p5 p6 HB2 HO2 hs s hsz
          have H63 : Hid (k + 1 ≤ maxLen) := Lib.hid (by unfold maxLen; omega)
          have H48 : Hid ((k + 1) * 16 ≤ 140737488355328) := Lib.hid (by omega)
          have hO4 := HO3.out.alloc (.cells #[.string ⟨#[40, 41]⟩] 9)
          have HB4 := Lib.hid (HB3.out.alloc HB3.out.size (.cells #[.string ⟨#[40, 41]⟩] 9))
          go_wp2_with (at_builtin; refine wpList_append_own _ rfl _ _ 50 rfl w1.heap.size 9 i0 (.string ByteArray.empty) 1 16 Tryd.underlying50 hi hz0 hz1 hz2 rfl (by decide) _ _ _ rfl hO4 ⟨w2.heap.size, 0, none⟩ 1 1 [.string ⟨#[40, 41]⟩] rfl rfl ?c2 ?c3 H63.out H48.out ?c5 ?_)
          case c2 =>
            intro j u hj
            match j, hj with
            | 0, hj => simp at hj; subst hj; simp [Addr.add]
          case c3 => intro u hu; simp at hu; subst hu; rfl
          case c5 => exact HB4.out.size
          intro v' w5 hown5 hgrow _
          have HB5 : Hid (Below w1.heap.size w1 w5) := Lib.hid (HB4.out.grown hgrow HB4.out.size fun r hr => (hO4.lt r hr).1)
          have HO5 : Hid (w5.ownsRow w1.heap.size 9 1 v' (k + 1) (svs N (k + 1))) := Lib.hid (by
            rw [svs_succ, HS.out]
            exact hown5)
          clear hown5 hgrow hO4 HB4
          go_wp2_with fail
          go_roundw
          case rel => exact ⟨k + 1, by omega, by go_num, HO5, HB5.out⟩
          case measure => simp [intOf]; omega
        · have HS : Hid (txB N k = ⟨#[94]⟩) := Lib.hid (by rw [hlf]; unfold txt; rw [if_neg (by omega), if_neg (by omega), if_pos hk0]; rfl)
          obtain ⟨s, hs⟩ : ∃ s : ByteArray, (⟨#[94]⟩ : ByteArray) = s := ⟨_, rfl⟩
          rw [hk0] at p0
          have HB3 := HB2
          have HO3 := HO2
          clear hlf hxw hok hk0 hkv hf hRD2 p1 p2 p3 p4 p5 p6 HB2 HO2 hs s hsz
          have H63 : Hid (k + 1 ≤ maxLen) := Lib.hid (by unfold maxLen; omega)
          have H48 : Hid ((k + 1) * 16 ≤ 140737488355328) := Lib.hid (by omega)
          have hO4 := HO3.out.alloc (.cells #[.string ⟨#[94]⟩] 9)
          have HB4 := Lib.hid (HB3.out.alloc HB3.out.size (.cells #[.string ⟨#[94]⟩] 9))
          go_wp2_with (at_builtin; refine wpList_append_own _ rfl _ _ 50 rfl w1.heap.size 9 i0 (.string ByteArray.empty) 1 16 Tryd.underlying50 hi hz0 hz1 hz2 rfl (by decide) _ _ _ rfl hO4 ⟨w2.heap.size, 0, none⟩ 1 1 [.string ⟨#[94]⟩] rfl rfl ?c2 ?c3 H63.out H48.out ?c5 ?_)
          case c2 =>
            intro j u hj
            match j, hj with
            | 0, hj => simp at hj; subst hj; simp [Addr.add]
          case c3 => intro u hu; simp at hu; subst hu; rfl
          case c5 => exact HB4.out.size
          intro v' w5 hown5 hgrow _
          have HB5 : Hid (Below w1.heap.size w1 w5) := Lib.hid (HB4.out.grown hgrow HB4.out.size fun r hr => (hO4.lt r hr).1)
          have HO5 : Hid (w5.ownsRow w1.heap.size 9 1 v' (k + 1) (svs N (k + 1))) := Lib.hid (by
            rw [svs_succ, HS.out]
            exact hown5)
          clear hown5 hgrow hO4 HB4
          go_wp2_with fail
          go_roundw
          case rel => exact ⟨k + 1, by omega, by go_num, HO5, HB5.out⟩
          case measure => simp [intOf]; omega
        · have HS : Hid (txB N k = ⟨#[36]⟩) := Lib.hid (by rw [hlf]; unfold txt; rw [if_neg (by omega), if_neg (by omega), if_neg (by omega)]; rfl)
          obtain ⟨s, hs⟩ : ∃ s : ByteArray, (⟨#[36]⟩ : ByteArray) = s := ⟨_, rfl⟩
          rw [hk0] at p0
          have HB3 := HB2
          have HO3 := HO2
          clear hlf hxw hok hk0 hkv hf hRD2 p1 p2 p3 p4 p5 p6 HB2 HO2 hs s hsz
          have H63 : Hid (k + 1 ≤ maxLen) := Lib.hid (by unfold maxLen; omega)
          have H48 : Hid ((k + 1) * 16 ≤ 140737488355328) := Lib.hid (by omega)
          have hO4 := HO3.out.alloc (.cells #[.string ⟨#[36]⟩] 9)
          have HB4 := Lib.hid (HB3.out.alloc HB3.out.size (.cells #[.string ⟨#[36]⟩] 9))
          go_wp2_with (at_builtin; refine wpList_append_own _ rfl _ _ 50 rfl w1.heap.size 9 i0 (.string ByteArray.empty) 1 16 Tryd.underlying50 hi hz0 hz1 hz2 rfl (by decide) _ _ _ rfl hO4 ⟨w2.heap.size, 0, none⟩ 1 1 [.string ⟨#[36]⟩] rfl rfl ?c2 ?c3 H63.out H48.out ?c5 ?_)
          case c2 =>
            intro j u hj
            match j, hj with
            | 0, hj => simp at hj; subst hj; simp [Addr.add]
          case c3 => intro u hu; simp at hu; subst hu; rfl
          case c5 => exact HB4.out.size
          intro v' w5 hown5 hgrow _
          have HB5 : Hid (Below w1.heap.size w1 w5) := Lib.hid (HB4.out.grown hgrow HB4.out.size fun r hr => (hO4.lt r hr).1)
          have HO5 : Hid (w5.ownsRow w1.heap.size 9 1 v' (k + 1) (svs N (k + 1))) := Lib.hid (by
            rw [svs_succ, HS.out]
            exact hown5)
          clear hown5 hgrow hO4 HB4
          go_wp2_with fail
          go_roundw
          case rel => exact ⟨k + 1, by omega, by go_num, HO5, HB5.out⟩
          case measure => simp [intOf]; omega
      | @one p _ _ hk0 h1 h2 _ =>
        have hkids : kids N (p + 1) = [(p : Int)] := by unfold kids; rw [hk0, if_pos (show ar 7 = 1 from rfl)]; congr 1; omega
        rw [hkids] at hkv
        obtain ⟨gk, ck, rfl, hgk, q0⟩ : ∃ gk ck, kv = .slice (some ⟨gk, 0, none⟩) 1 ck ∧ gk < w2.heap.size ∧ w2.cell? ⟨gk, 0, none⟩ = some (.int .i64 (p : Int)) := by
          rcases hkv with ⟨_, _, _, h⟩ | ⟨g, c, rfl, hg, hc⟩
          · cases h
          · exact ⟨g, c, rfl, hg, hc 0 (by simp)⟩
        obtain ⟨gs, cs, rfl⟩ : ∃ gs cs, u4 = .slice (some ⟨gs, 0, none⟩) (p + 1) cs := by
          rcases id HO2.out.2 with ⟨_, h0⟩ | ⟨g, cp, cur, rfl, -⟩
          · omega
          · exact ⟨g, cp, rfl⟩
        have hgs := (HO2.out.lt gs rfl).2
        have t0 : w2.cell? ⟨gs, p, none⟩ = some (.string (txB N p)) := by rw [HO2.out.cellAt p (by omega)]; exact svs_at N _ _ (by omega)
        obtain ⟨hbl, m0, -⟩ := hRD2 p (by omega)
        obtain ⟨-, p0, p1, p2, p3, p4, p5, p6⟩ := hRD2 (p + 1) hlt
        have hrep := okN_rep hok hk0
        have hHS := txB_rep HTR.out hlt hk0
        have hz0 := HSZ.out p (by omega)
        rw [hk0] at p0
        have hzo := oftL_le (N (p + 1)).lo (N (p + 1)).hi
        generalize N (p + 1) = y at p0 p1 p2 p3 p4 p5 p6 hrep hHS hzo
        obtain ⟨yk, ya, yb, yc, yd, ylo, yhi⟩ := y
        simp only at p0 p1 p2 p3 p4 p5 p6 hrep hHS hzo
        have HOf := Lib.hid (oft6_any 7 ya yb yc yd ylo yhi hrep.1 hrep.2.1 hrep.2.2)
        rw [← bs_size] at hzo
        generalize bs (oftL ylo yhi) = t2 at *
        generalize txB N p = sp at *
        generalize (N p).k = kp at *
        have HAb := Lib.hid (fun bb => about6 sp bb (by omega))
        obtain ⟨b6, hb6⟩ : ∃ b6, (kp == 6) = b6 := ⟨_, rfl⟩
        obtain ⟨b5, hb5⟩ : ∃ b5, (kp == 5) = b5 := ⟨_, rfl⟩
        rw [hb6, hb5] at hHS
        have hzp := parB_len (b6 || b5) sp
        have j0 : (0 : Int) ≤ (p : Int) := by omega
        have j1 : (p : Int) < (n : Int) := by omega
        have j2 : (p : Int) < (p : Int) + 1 := by omega
        have j6 : (p : Int) + 1 < (n : Int) := by omega
        have j7 : (0 : Int) ≤ (p : Int) + 1 := by omega
        have hB := Below.refl w2.heap.size w2
        have HK : Hid (∀ w', Below w2.heap.size w2 w' → w'.cell? ⟨gk, 0, none⟩ = some (.int .i64 (p : Int)) ∧ w'.cell? ⟨gs, p, none⟩ = some (.string sp) ∧ w'.cell? ⟨b, off + p * 7, none⟩ = some (.int .i64 kp) ∧ w'.cell? ⟨b, off + (p + 1) * 7, none⟩ = some (.int .i64 7) ∧ w'.cell? ⟨b, off + (p + 1) * 7 + 1, none⟩ = some (.int .u64 ya) ∧ w'.cell? ⟨b, off + (p + 1) * 7 + 2, none⟩ = some (.int .u64 yb) ∧ w'.cell? ⟨b, off + (p + 1) * 7 + 3, none⟩ = some (.int .u64 yc) ∧ w'.cell? ⟨b, off + (p + 1) * 7 + 4, none⟩ = some (.int .u64 yd) ∧ w'.cell? ⟨b, off + (p + 1) * 7 + 5, none⟩ = some (.int .i64 ylo) ∧ w'.cell? ⟨b, off + (p + 1) * 7 + 6, none⟩ = some (.int .i64 yhi)) :=
          Lib.hid fun w' hb' => ⟨far6 hb' hgk q0, far6 hb' hgs t0, far6 hb' hbl m0, far6 hb' hbl p0, far6 hb' hbl p1, far6 hb' hbl p2, far6 hb' hbl p3, far6 hb' hbl p4, far6 hb' hbl p5, far6 hb' hbl p6⟩
        clear hkids hkv hok hk0 hf h1 h2 hRD2 hsz hrep m0
        have HS : Hid (txB N (p + 1) = parB (b6 || b5) sp ++ t2) := Lib.hid hHS
        obtain ⟨t1, ht1⟩ : ∃ t1, parB (b6 || b5) sp = t1 := ⟨_, rfl⟩
        have HAb2 : Hid (∀ w, Calls Tryd.prog 19 #[.string sp, .bool (b6 || b5)] w fun e w' => e = .returned (.string t1) ∧ w' = w) := Lib.hid (ht1 ▸ HAb.out (b6 || b5))
        rw [ht1] at HS hzp
        have g1 : ¬ (9223372036854775807 < t1.size + t2.size) := by omega
        clear ht1 hHS HAb hzp hzo hz0
        go_wp2_with fail
        cases b6
        · simp only [Bool.false_or] at HAb2
          refine wp_region_held_drew (S := (fun w' => w'.cell? ⟨gk, 0, none⟩ = some (.int .i64 (p : Int)) ∧ w'.cell? ⟨gs, p, none⟩ = some (.string sp) ∧ w'.cell? ⟨b, off + p * 7, none⟩ = some (.int .i64 kp) ∧ w'.cell? ⟨b, off + (p + 1) * 7, none⟩ = some (.int .i64 7) ∧ w'.cell? ⟨b, off + (p + 1) * 7 + 1, none⟩ = some (.int .u64 ya) ∧ w'.cell? ⟨b, off + (p + 1) * 7 + 2, none⟩ = some (.int .u64 yb) ∧ w'.cell? ⟨b, off + (p + 1) * 7 + 3, none⟩ = some (.int .u64 yc) ∧ w'.cell? ⟨b, off + (p + 1) * 7 + 4, none⟩ = some (.int .u64 yd) ∧ w'.cell? ⟨b, off + (p + 1) * 7 + 5, none⟩ = some (.int .i64 ylo) ∧ w'.cell? ⟨b, off + (p + 1) * 7 + 6, none⟩ = some (.int .i64 yhi))) (by kernel_rfl) (HK.out _ hB.drew) (fun hHeld => ?_)
          refine wpAnyH_take (i := 0) (oi := { dst := some 110, op := Op.move (Operand.tmp 4), type := 50, pos := "ref.go:111", after := #[], guard := none }) (v := .slice (some ⟨gs, 0, none⟩) (p + 1) cs) rfl (by kernel_rfl) (by kernel_rfl) (by kernel_rfl) (fun _ _ _ h => h) (Or.inl ⟨by rfl, ?_⟩) (by assumption) ?_
          · intro w hSw; (try dsimp only at hSw); go_simp
          try simp only [Act.put, List.setIfInBounds_toArray, List.set_cons_zero, List.set_cons_succ]
          refine wpAnyH_take (i := 1) (oi := { dst := some 111, op := Op.move (Operand.tmp 6), type := 51, pos := "ref.go:111", after := #[], guard := none }) (v := .slice (some ⟨gk, 0, none⟩) 1 ck) rfl (by kernel_rfl) (by kernel_rfl) (by kernel_rfl) (fun _ _ _ h => h) (Or.inl ⟨by rfl, ?_⟩) (by assumption) ?_
          · intro w hSw; (try dsimp only at hSw); go_simp
          try simp only [Act.put, List.setIfInBounds_toArray, List.set_cons_zero, List.set_cons_succ]
          refine wpAnyH_take (i := 2) (oi := { dst := some 112, op := Op.indexAddr 51 (Operand.tmp 111) (Operand.const (Value.int IntKind.i64 0)), type := 0, pos := "ref.go:111", after := #[{ on := 1, ground := Ground.data }], guard := none }) (v := .pointer (some ⟨gk, 0, none⟩)) rfl (by kernel_rfl) (by kernel_rfl) (by kernel_rfl) (fun _ _ _ h => h) (Or.inl ⟨by rfl, ?_⟩) (by assumption) ?_
          · intro w hSw; (try dsimp only at hSw); go_simp
          try simp only [Act.put, List.setIfInBounds_toArray, List.set_cons_zero, List.set_cons_succ]
          refine wpAnyH_take (i := 3) (oi := { dst := some 113, op := Op.load 3 (Operand.tmp 112), type := 3, pos := "ref.go:111", after := #[{ on := 2, ground := Ground.data }], guard := none }) (v := .int .i64 (p : Int)) rfl (by kernel_rfl) (by kernel_rfl) (by kernel_rfl) (fun _ _ _ h => h) (Or.inl ⟨by rfl, ?_⟩) (by assumption) ?_
          · intro w hSw; (try dsimp only at hSw); go_simp
          try simp only [Act.put, List.setIfInBounds_toArray, List.set_cons_zero, List.set_cons_succ]
          refine wpAnyH_take (i := 4) (oi := { dst := some 114, op := Op.indexAddr 50 (Operand.tmp 110) (Operand.tmp 113), type := 0, pos := "ref.go:111", after := #[{ on := 0, ground := Ground.data }, { on := 3, ground := Ground.data }], guard := none }) (v := .pointer (some ⟨gs, p, none⟩)) rfl (by kernel_rfl) (by kernel_rfl) (by kernel_rfl) (fun _ _ _ h => h) (Or.inl ⟨by rfl, ?_⟩) (by assumption) ?_
          · intro w hSw; (try dsimp only at hSw); go_simp
          try simp only [Act.put, List.setIfInBounds_toArray, List.set_cons_zero, List.set_cons_succ]
          refine wpAnyH_take (i := 5) (oi := { dst := some 115, op := Op.load 9 (Operand.tmp 114), type := 9, pos := "ref.go:111", after := #[{ on := 4, ground := Ground.data }], guard := none }) (v := .string sp) rfl (by kernel_rfl) (by kernel_rfl) (by kernel_rfl) (fun _ _ _ h => h) (Or.inl ⟨by rfl, ?_⟩) (by assumption) ?_
          · intro w hSw; (try dsimp only at hSw); go_simp
          try simp only [Act.put, List.setIfInBounds_toArray, List.set_cons_zero, List.set_cons_succ]
          refine wpAnyH_take (i := 6) (oi := { dst := some 116, op := Op.move (Operand.tmp 0), type := 22, pos := "ref.go:111", after := #[], guard := none }) (v := .slice (some ⟨b, off, none⟩) n cap) rfl (by kernel_rfl) (by kernel_rfl) (by kernel_rfl) (fun _ _ _ h => h) (Or.inl ⟨by rfl, ?_⟩) (by assumption) ?_
          · intro w hSw; (try dsimp only at hSw); go_simp
          try simp only [Act.put, List.setIfInBounds_toArray, List.set_cons_zero, List.set_cons_succ]
          refine wpAnyH_take (i := 7) (oi := { dst := some 117, op := Op.move (Operand.tmp 6), type := 51, pos := "ref.go:111", after := #[], guard := none }) (v := .slice (some ⟨gk, 0, none⟩) 1 ck) rfl (by kernel_rfl) (by kernel_rfl) (by kernel_rfl) (fun _ _ _ h => h) (Or.inl ⟨by rfl, ?_⟩) (by assumption) ?_
          · intro w hSw; (try dsimp only at hSw); go_simp
          try simp only [Act.put, List.setIfInBounds_toArray, List.set_cons_zero, List.set_cons_succ]
          refine wpAnyH_take (i := 8) (oi := { dst := some 118, op := Op.indexAddr 51 (Operand.tmp 117) (Operand.const (Value.int IntKind.i64 0)), type := 0, pos := "ref.go:111", after := #[{ on := 7, ground := Ground.data }], guard := none }) (v := .pointer (some ⟨gk, 0, none⟩)) rfl (by kernel_rfl) (by kernel_rfl) (by kernel_rfl) (fun _ _ _ h => h) (Or.inl ⟨by rfl, ?_⟩) (by assumption) ?_
          · intro w hSw; (try dsimp only at hSw); go_simp
          try simp only [Act.put, List.setIfInBounds_toArray, List.set_cons_zero, List.set_cons_succ]
          refine wpAnyH_take (i := 9) (oi := { dst := some 119, op := Op.load 3 (Operand.tmp 118), type := 3, pos := "ref.go:111", after := #[{ on := 8, ground := Ground.data }], guard := none }) (v := .int .i64 (p : Int)) rfl (by kernel_rfl) (by kernel_rfl) (by kernel_rfl) (fun _ _ _ h => h) (Or.inl ⟨by rfl, ?_⟩) (by assumption) ?_
          · intro w hSw; (try dsimp only at hSw); go_simp
          try simp only [Act.put, List.setIfInBounds_toArray, List.set_cons_zero, List.set_cons_succ]
          refine wpAnyH_take (i := 10) (oi := { dst := some 120, op := Op.indexAddr 22 (Operand.tmp 116) (Operand.tmp 119), type := 0, pos := "ref.go:111", after := #[{ on := 6, ground := Ground.data }, { on := 9, ground := Ground.data }], guard := none }) (v := .pointer (some ⟨b, off + p * 7, none⟩)) rfl (by kernel_rfl) (by kernel_rfl) (by kernel_rfl) (fun _ _ _ h => h) (Or.inl ⟨by rfl, ?_⟩) (by assumption) ?_
          · intro w hSw; (try dsimp only at hSw); go_simp
          try simp only [Act.put, List.setIfInBounds_toArray, List.set_cons_zero, List.set_cons_succ]
          refine wpAnyH_take (i := 11) (oi := { dst := some 121, op := Op.fieldAddr 45 (Operand.tmp 120) 0, type := 0, pos := "ref.go:111", after := #[{ on := 10, ground := Ground.data }], guard := none }) (v := .pointer (some ⟨b, off + p * 7, none⟩)) rfl (by kernel_rfl) (by kernel_rfl) (by kernel_rfl) (fun _ _ _ h => h) (Or.inl ⟨by rfl, ?_⟩) (by assumption) ?_
          · intro w hSw; (try dsimp only at hSw); go_simp
          try simp only [Act.put, List.setIfInBounds_toArray, List.set_cons_zero, List.set_cons_succ]
          refine wpAnyH_take (i := 12) (oi := { dst := some 122, op := Op.load 3 (Operand.tmp 121), type := 3, pos := "ref.go:111", after := #[{ on := 11, ground := Ground.data }], guard := none }) (v := .int .i64 kp) rfl (by kernel_rfl) (by kernel_rfl) (by kernel_rfl) (fun _ _ _ h => h) (Or.inl ⟨by rfl, ?_⟩) (by assumption) ?_
          · intro w hSw; (try dsimp only at hSw); go_simp
          try simp only [Act.put, List.setIfInBounds_toArray, List.set_cons_zero, List.set_cons_succ]
          refine wpAnyH_take (i := 13) (oi := { dst := some 123, op := Op.binOp BinOp.eql 3 (Operand.tmp 122) (Operand.const (Value.int IntKind.i64 6)) 3, type := 4, pos := "ref.go:111", after := #[{ on := 12, ground := Ground.data }], guard := none }) (v := .bool false) rfl (by kernel_rfl) (by kernel_rfl) (by kernel_rfl) (fun _ _ _ h => h) (Or.inl ⟨by rfl, ?_⟩) (by assumption) ?_
          · intro w hSw; (try dsimp only at hSw); go_simp
          try simp only [Act.put, List.setIfInBounds_toArray, List.set_cons_zero, List.set_cons_succ]
          refine wpAnyH_take (i := 14) (oi := { dst := some 124, op := Op.move (Operand.tmp 123), type := 4, pos := "ref.go:111", after := #[{ on := 13, ground := Ground.data }], guard := none }) (v := .bool false) rfl (by kernel_rfl) (by kernel_rfl) (by kernel_rfl) (fun _ _ _ h => h) (Or.inl ⟨by rfl, ?_⟩) (by assumption) ?_
          · intro w hSw; (try dsimp only at hSw); go_simp
          try simp only [Act.put, List.setIfInBounds_toArray, List.set_cons_zero, List.set_cons_succ]
          refine wpAnyH_take (i := 15) (oi := { dst := some 125, op := Op.move (Operand.tmp 0), type := 22, pos := "ref.go:111", after := #[{ on := 14, ground := Ground.guard }], guard := some (14, false) }) (v := .slice (some ⟨b, off, none⟩) n cap) rfl (by kernel_rfl) (by kernel_rfl) (by kernel_rfl) (fun _ _ _ h => h) (Or.inl ⟨by rfl, ?_⟩) (by assumption) ?_
          · intro w hSw; (try dsimp only at hSw); go_simp
          try simp only [Act.put, List.setIfInBounds_toArray, List.set_cons_zero, List.set_cons_succ]
          refine wpAnyH_take (i := 16) (oi := { dst := some 126, op := Op.move (Operand.tmp 6), type := 51, pos := "ref.go:111", after := #[{ on := 14, ground := Ground.guard }], guard := some (14, false) }) (v := .slice (some ⟨gk, 0, none⟩) 1 ck) rfl (by kernel_rfl) (by kernel_rfl) (by kernel_rfl) (fun _ _ _ h => h) (Or.inl ⟨by rfl, ?_⟩) (by assumption) ?_
          · intro w hSw; (try dsimp only at hSw); go_simp
          try simp only [Act.put, List.setIfInBounds_toArray, List.set_cons_zero, List.set_cons_succ]
          refine wpAnyH_take (i := 17) (oi := { dst := some 127, op := Op.indexAddr 51 (Operand.tmp 126) (Operand.const (Value.int IntKind.i64 0)), type := 0, pos := "ref.go:111", after := #[{ on := 16, ground := Ground.data }, { on := 14, ground := Ground.guard }], guard := some (14, false) }) (v := .pointer (some ⟨gk, 0, none⟩)) rfl (by kernel_rfl) (by kernel_rfl) (by kernel_rfl) (fun _ _ _ h => h) (Or.inl ⟨by rfl, ?_⟩) (by assumption) ?_
          · intro w hSw; (try dsimp only at hSw); go_simp
          try simp only [Act.put, List.setIfInBounds_toArray, List.set_cons_zero, List.set_cons_succ]
          refine wpAnyH_take (i := 18) (oi := { dst := some 128, op := Op.load 3 (Operand.tmp 127), type := 3, pos := "ref.go:111", after := #[{ on := 17, ground := Ground.data }, { on := 14, ground := Ground.guard }], guard := some (14, false) }) (v := .int .i64 (p : Int)) rfl (by kernel_rfl) (by kernel_rfl) (by kernel_rfl) (fun _ _ _ h => h) (Or.inl ⟨by rfl, ?_⟩) (by assumption) ?_
          · intro w hSw; (try dsimp only at hSw); go_simp
          try simp only [Act.put, List.setIfInBounds_toArray, List.set_cons_zero, List.set_cons_succ]
          refine wpAnyH_take (i := 19) (oi := { dst := some 129, op := Op.indexAddr 22 (Operand.tmp 125) (Operand.tmp 128), type := 0, pos := "ref.go:111", after := #[{ on := 15, ground := Ground.data }, { on := 18, ground := Ground.data }, { on := 14, ground := Ground.guard }], guard := some (14, false) }) (v := .pointer (some ⟨b, off + p * 7, none⟩)) rfl (by kernel_rfl) (by kernel_rfl) (by kernel_rfl) (fun _ _ _ h => h) (Or.inl ⟨by rfl, ?_⟩) (by assumption) ?_
          · intro w hSw; (try dsimp only at hSw); go_simp
          try simp only [Act.put, List.setIfInBounds_toArray, List.set_cons_zero, List.set_cons_succ]
          refine wpAnyH_take (i := 20) (oi := { dst := some 130, op := Op.fieldAddr 45 (Operand.tmp 129) 0, type := 0, pos := "ref.go:111", after := #[{ on := 19, ground := Ground.data }, { on := 14, ground := Ground.guard }], guard := some (14, false) }) (v := .pointer (some ⟨b, off + p * 7, none⟩)) rfl (by kernel_rfl) (by kernel_rfl) (by kernel_rfl) (fun _ _ _ h => h) (Or.inl ⟨by rfl, ?_⟩) (by assumption) ?_
          · intro w hSw; (try dsimp only at hSw); go_simp
          try simp only [Act.put, List.setIfInBounds_toArray, List.set_cons_zero, List.set_cons_succ]
          refine wpAnyH_take (i := 21) (oi := { dst := some 131, op := Op.load 3 (Operand.tmp 130), type := 3, pos := "ref.go:111", after := #[{ on := 20, ground := Ground.data }, { on := 14, ground := Ground.guard }], guard := some (14, false) }) (v := .int .i64 kp) rfl (by kernel_rfl) (by kernel_rfl) (by kernel_rfl) (fun _ _ _ h => h) (Or.inl ⟨by rfl, ?_⟩) (by assumption) ?_
          · intro w hSw; (try dsimp only at hSw); go_simp
          try simp only [Act.put, List.setIfInBounds_toArray, List.set_cons_zero, List.set_cons_succ]
          refine wpAnyH_take (i := 22) (oi := { dst := some 132, op := Op.binOp BinOp.eql 3 (Operand.tmp 131) (Operand.const (Value.int IntKind.i64 5)) 3, type := 4, pos := "ref.go:111", after := #[{ on := 21, ground := Ground.data }, { on := 14, ground := Ground.guard }], guard := some (14, false) }) (v := .bool b5) rfl (by kernel_rfl) (by kernel_rfl) (by kernel_rfl) (fun _ _ _ h => h) (Or.inl ⟨by rfl, ?_⟩) (by assumption) ?_
          · intro w hSw; (try dsimp only at hSw); go_simp
          try simp only [Act.put, List.setIfInBounds_toArray, List.set_cons_zero, List.set_cons_succ]
          refine wpAnyH_take (i := 23) (oi := { dst := some 133, op := Op.pick (Operand.tmp 124) (Operand.const (Value.bool true)) (Operand.tmp 132), type := 4, pos := "ref.go:111", after := #[{ on := 14, ground := Ground.data }, { on := 22, ground := Ground.data }], guard := none }) (v := .bool b5) rfl (by kernel_rfl) (by kernel_rfl) (by kernel_rfl) (fun _ _ _ h => h) (Or.inl ⟨by rfl, ?_⟩) (by assumption) ?_
          · intro w hSw; (try dsimp only at hSw); go_simp
          try simp only [Act.put, List.setIfInBounds_toArray, List.set_cons_zero, List.set_cons_succ]
          refine wpAnyH_take (i := 25) (oi := { dst := some 135, op := Op.move (Operand.tmp 0), type := 22, pos := "ref.go:111", after := #[], guard := none }) (v := .slice (some ⟨b, off, none⟩) n cap) rfl (by kernel_rfl) (by kernel_rfl) (by kernel_rfl) (fun _ _ _ h => h) (Or.inl ⟨by rfl, ?_⟩) (by assumption) ?_
          · intro w hSw; (try dsimp only at hSw); go_simp
          try simp only [Act.put, List.setIfInBounds_toArray, List.set_cons_zero, List.set_cons_succ]
          refine wpAnyH_take (i := 26) (oi := { dst := some 136, op := Op.move (Operand.tmp 5), type := 3, pos := "ref.go:111", after := #[], guard := none }) (v := .int .i64 ((p : Int) + 1)) rfl (by kernel_rfl) (by kernel_rfl) (by kernel_rfl) (fun _ _ _ h => h) (Or.inl ⟨by rfl, ?_⟩) (by assumption) ?_
          · intro w hSw; (try dsimp only at hSw); go_simp
          try simp only [Act.put, List.setIfInBounds_toArray, List.set_cons_zero, List.set_cons_succ]
          refine wpAnyH_take (i := 27) (oi := { dst := some 137, op := Op.indexAddr 22 (Operand.tmp 135) (Operand.tmp 136), type := 0, pos := "ref.go:111", after := #[{ on := 25, ground := Ground.data }, { on := 26, ground := Ground.data }], guard := none }) (v := .pointer (some ⟨b, off + (p + 1) * 7, none⟩)) rfl (by kernel_rfl) (by kernel_rfl) (by kernel_rfl) (fun _ _ _ h => h) (Or.inl ⟨by rfl, ?_⟩) (by assumption) ?_
          · intro w hSw; (try dsimp only at hSw); go_simp
          try simp only [Act.put, List.setIfInBounds_toArray, List.set_cons_zero, List.set_cons_succ]
          refine wpAnyH_take (i := 28) (oi := { dst := some 138, op := Op.load 45 (Operand.tmp 137), type := 45, pos := "ref.go:111", after := #[{ on := 27, ground := Ground.data }], guard := none }) (v := .agg #[.int .i64 7, .int .u64 ya, .int .u64 yb, .int .u64 yc, .int .u64 yd, .int .i64 ylo, .int .i64 yhi]) rfl (by kernel_rfl) (by kernel_rfl) (by kernel_rfl) (fun _ _ _ h => h) (Or.inl ⟨by rfl, ?_⟩) (by assumption) ?_
          · intro w hSw; (try dsimp only at hSw); go_simp
          try simp only [Act.put, List.setIfInBounds_toArray, List.set_cons_zero, List.set_cons_succ]
          refine wpAnyH_ready (rs := [24]) (by kernel_rfl) (by simp) ?_
          refine AllReadyH.cons rfl (fun K' hK' => ?_) AllReadyH.nil
          go_simp
          with_reducible refine (HAb2.out _).mono ?_
          rintro e wk ⟨rfl, rfl⟩
          refine hK'.out _ _ ?_ (fun hHeld => ?_)
          · (try dsimp only)
            exact HK.out _ hB.drew
          clear hK' K'
          refine wpAnyH_ready (rs := [29]) (by kernel_rfl) (by simp) ?_
          refine AllReadyH.cons rfl (fun K' hK' => ?_) AllReadyH.nil
          go_simp
          with_reducible refine (HOf.out _).mono ?_
          rintro e wf ⟨rfl, hb⟩
          replace hB := hB.drew.trans (hb.mono (by exact hB.size))
          clear hb
          refine hK'.out _ _ ?_ (fun hHeld => ?_)
          · (try dsimp only)
            exact HK.out _ hB
          clear hK' K'
          refine wpAnyH_take (i := 30) (oi := { dst := some 140, op := Op.binOp BinOp.add 9 (Operand.tmp 134) (Operand.tmp 139) 9, type := 9, pos := "ref.go:111", after := #[{ on := 24, ground := Ground.data }, { on := 29, ground := Ground.data }], guard := none }) (v := .string (t1 ++ t2)) rfl (by kernel_rfl) (by kernel_rfl) (by kernel_rfl) (fun _ _ _ h => h) (Or.inl ⟨by rfl, ?_⟩) (by assumption) ?_
          · intro w hSw; (try dsimp only at hSw); go_simp
          try simp only [Act.put, List.setIfInBounds_toArray, List.set_cons_zero, List.set_cons_succ]
          refine wpAnyH_take (i := 31) (oi := { dst := some 7, op := Op.assign (Operand.tmp 140), type := 9, pos := "ref.go:111", after := #[{ on := 30, ground := Ground.data }, { on := 29, ground := Ground.chain }, { on := 0, ground := Ground.phase }, { on := 1, ground := Ground.phase }, { on := 2, ground := Ground.phase }, { on := 3, ground := Ground.phase }, { on := 4, ground := Ground.phase }, { on := 5, ground := Ground.phase }, { on := 6, ground := Ground.phase }, { on := 7, ground := Ground.phase }, { on := 8, ground := Ground.phase }, { on := 9, ground := Ground.phase }, { on := 10, ground := Ground.phase }, { on := 11, ground := Ground.phase }, { on := 12, ground := Ground.phase }, { on := 13, ground := Ground.phase }, { on := 14, ground := Ground.phase }, { on := 15, ground := Ground.phase }, { on := 16, ground := Ground.phase }, { on := 17, ground := Ground.phase }, { on := 18, ground := Ground.phase }, { on := 19, ground := Ground.phase }, { on := 20, ground := Ground.phase }, { on := 21, ground := Ground.phase }, { on := 22, ground := Ground.phase }, { on := 23, ground := Ground.phase }, { on := 24, ground := Ground.phase }, { on := 25, ground := Ground.phase }, { on := 26, ground := Ground.phase }, { on := 27, ground := Ground.phase }, { on := 28, ground := Ground.phase }, { on := 29, ground := Ground.phase }, { on := 30, ground := Ground.phase }], guard := none }) (v := .string (t1 ++ t2)) rfl (by kernel_rfl) (by kernel_rfl) (by kernel_rfl) (fun _ _ _ h => h) (Or.inl ⟨by rfl, ?_⟩) (by assumption) ?_
          · intro w hSw; (try dsimp only at hSw); go_simp
          try simp only [Act.put, List.setIfInBounds_toArray, List.set_cons_zero, List.set_cons_succ]
          refine wpAnyH_done (by kernel_rfl) ?_ _
          have HB3 := Lib.hid (HB2.out.trans (hB.mono HB2.out.size))
          have HO3 := Lib.hid (owns_below HO2.out hB)
          obtain ⟨s, hs⟩ : ∃ s, t1 ++ t2 = s := ⟨_, rfl⟩
          rw [hs] at HS
          clear hHeld hB HB2 HO2 HAb2 HOf q0 t0 p0 p1 p2 p3 p4 p5 p6 HK
          have H63 : Hid (p + 1 + 1 ≤ maxLen) := Lib.hid (by unfold maxLen; omega)
          have H48 : Hid ((p + 1 + 1) * 16 ≤ 140737488355328) := Lib.hid (by omega)
          have hO4 := HO3.out.alloc (.cells #[.string s] 9)
          have HB4 := Lib.hid (HB3.out.alloc HB3.out.size (.cells #[.string s] 9))
          go_wp2_with (at_builtin; refine wpList_append_own _ rfl _ _ 50 rfl w1.heap.size 9 i0 (.string ByteArray.empty) 1 16 Tryd.underlying50 hi hz0 hz1 hz2 rfl (by decide) _ _ _ rfl hO4 ⟨wf.heap.size, 0, none⟩ 1 1 [.string s] rfl rfl ?c2 ?c3 H63.out H48.out ?c5 ?_)
          case c2 =>
            intro j u hj
            match j, hj with
            | 0, hj => simp at hj; subst hj; simp [Addr.add]
          case c3 => intro u hu; simp at hu; subst hu; rfl
          case c5 => exact HB4.out.size
          intro v' w5 hown5 hgrow _
          have HB5 : Hid (Below w1.heap.size w1 w5) := Lib.hid (HB4.out.grown hgrow HB4.out.size fun r hr => (hO4.lt r hr).1)
          have HO5 : Hid (w5.ownsRow w1.heap.size 9 1 v' (p + 1 + 1) (svs N (p + 1 + 1))) := Lib.hid (by
            rw [svs_succ, HS.out]
            exact hown5)
          clear hown5 hgrow hO4 HB4
          go_wp2_with fail
          go_roundw
          case rel => exact ⟨p + 1 + 1, by omega, by go_num, HO5, HB5.out⟩
          case measure => simp [intOf]; omega
        · simp only [Bool.true_or] at HAb2
          refine wp_region_held_drew (S := (fun w' => w'.cell? ⟨gk, 0, none⟩ = some (.int .i64 (p : Int)) ∧ w'.cell? ⟨gs, p, none⟩ = some (.string sp) ∧ w'.cell? ⟨b, off + p * 7, none⟩ = some (.int .i64 kp) ∧ w'.cell? ⟨b, off + (p + 1) * 7, none⟩ = some (.int .i64 7) ∧ w'.cell? ⟨b, off + (p + 1) * 7 + 1, none⟩ = some (.int .u64 ya) ∧ w'.cell? ⟨b, off + (p + 1) * 7 + 2, none⟩ = some (.int .u64 yb) ∧ w'.cell? ⟨b, off + (p + 1) * 7 + 3, none⟩ = some (.int .u64 yc) ∧ w'.cell? ⟨b, off + (p + 1) * 7 + 4, none⟩ = some (.int .u64 yd) ∧ w'.cell? ⟨b, off + (p + 1) * 7 + 5, none⟩ = some (.int .i64 ylo) ∧ w'.cell? ⟨b, off + (p + 1) * 7 + 6, none⟩ = some (.int .i64 yhi))) (by kernel_rfl) (HK.out _ hB.drew) (fun hHeld => ?_)
          refine wpAnyH_take (i := 0) (oi := { dst := some 110, op := Op.move (Operand.tmp 4), type := 50, pos := "ref.go:111", after := #[], guard := none }) (v := .slice (some ⟨gs, 0, none⟩) (p + 1) cs) rfl (by kernel_rfl) (by kernel_rfl) (by kernel_rfl) (fun _ _ _ h => h) (Or.inl ⟨by rfl, ?_⟩) (by assumption) ?_
          · intro w hSw; (try dsimp only at hSw); go_simp
          try simp only [Act.put, List.setIfInBounds_toArray, List.set_cons_zero, List.set_cons_succ]
          refine wpAnyH_take (i := 1) (oi := { dst := some 111, op := Op.move (Operand.tmp 6), type := 51, pos := "ref.go:111", after := #[], guard := none }) (v := .slice (some ⟨gk, 0, none⟩) 1 ck) rfl (by kernel_rfl) (by kernel_rfl) (by kernel_rfl) (fun _ _ _ h => h) (Or.inl ⟨by rfl, ?_⟩) (by assumption) ?_
          · intro w hSw; (try dsimp only at hSw); go_simp
          try simp only [Act.put, List.setIfInBounds_toArray, List.set_cons_zero, List.set_cons_succ]
          refine wpAnyH_take (i := 2) (oi := { dst := some 112, op := Op.indexAddr 51 (Operand.tmp 111) (Operand.const (Value.int IntKind.i64 0)), type := 0, pos := "ref.go:111", after := #[{ on := 1, ground := Ground.data }], guard := none }) (v := .pointer (some ⟨gk, 0, none⟩)) rfl (by kernel_rfl) (by kernel_rfl) (by kernel_rfl) (fun _ _ _ h => h) (Or.inl ⟨by rfl, ?_⟩) (by assumption) ?_
          · intro w hSw; (try dsimp only at hSw); go_simp
          try simp only [Act.put, List.setIfInBounds_toArray, List.set_cons_zero, List.set_cons_succ]
          refine wpAnyH_take (i := 3) (oi := { dst := some 113, op := Op.load 3 (Operand.tmp 112), type := 3, pos := "ref.go:111", after := #[{ on := 2, ground := Ground.data }], guard := none }) (v := .int .i64 (p : Int)) rfl (by kernel_rfl) (by kernel_rfl) (by kernel_rfl) (fun _ _ _ h => h) (Or.inl ⟨by rfl, ?_⟩) (by assumption) ?_
          · intro w hSw; (try dsimp only at hSw); go_simp
          try simp only [Act.put, List.setIfInBounds_toArray, List.set_cons_zero, List.set_cons_succ]
          refine wpAnyH_take (i := 4) (oi := { dst := some 114, op := Op.indexAddr 50 (Operand.tmp 110) (Operand.tmp 113), type := 0, pos := "ref.go:111", after := #[{ on := 0, ground := Ground.data }, { on := 3, ground := Ground.data }], guard := none }) (v := .pointer (some ⟨gs, p, none⟩)) rfl (by kernel_rfl) (by kernel_rfl) (by kernel_rfl) (fun _ _ _ h => h) (Or.inl ⟨by rfl, ?_⟩) (by assumption) ?_
          · intro w hSw; (try dsimp only at hSw); go_simp
          try simp only [Act.put, List.setIfInBounds_toArray, List.set_cons_zero, List.set_cons_succ]
          refine wpAnyH_take (i := 5) (oi := { dst := some 115, op := Op.load 9 (Operand.tmp 114), type := 9, pos := "ref.go:111", after := #[{ on := 4, ground := Ground.data }], guard := none }) (v := .string sp) rfl (by kernel_rfl) (by kernel_rfl) (by kernel_rfl) (fun _ _ _ h => h) (Or.inl ⟨by rfl, ?_⟩) (by assumption) ?_
          · intro w hSw; (try dsimp only at hSw); go_simp
          try simp only [Act.put, List.setIfInBounds_toArray, List.set_cons_zero, List.set_cons_succ]
          refine wpAnyH_take (i := 6) (oi := { dst := some 116, op := Op.move (Operand.tmp 0), type := 22, pos := "ref.go:111", after := #[], guard := none }) (v := .slice (some ⟨b, off, none⟩) n cap) rfl (by kernel_rfl) (by kernel_rfl) (by kernel_rfl) (fun _ _ _ h => h) (Or.inl ⟨by rfl, ?_⟩) (by assumption) ?_
          · intro w hSw; (try dsimp only at hSw); go_simp
          try simp only [Act.put, List.setIfInBounds_toArray, List.set_cons_zero, List.set_cons_succ]
          refine wpAnyH_take (i := 7) (oi := { dst := some 117, op := Op.move (Operand.tmp 6), type := 51, pos := "ref.go:111", after := #[], guard := none }) (v := .slice (some ⟨gk, 0, none⟩) 1 ck) rfl (by kernel_rfl) (by kernel_rfl) (by kernel_rfl) (fun _ _ _ h => h) (Or.inl ⟨by rfl, ?_⟩) (by assumption) ?_
          · intro w hSw; (try dsimp only at hSw); go_simp
          try simp only [Act.put, List.setIfInBounds_toArray, List.set_cons_zero, List.set_cons_succ]
          refine wpAnyH_take (i := 8) (oi := { dst := some 118, op := Op.indexAddr 51 (Operand.tmp 117) (Operand.const (Value.int IntKind.i64 0)), type := 0, pos := "ref.go:111", after := #[{ on := 7, ground := Ground.data }], guard := none }) (v := .pointer (some ⟨gk, 0, none⟩)) rfl (by kernel_rfl) (by kernel_rfl) (by kernel_rfl) (fun _ _ _ h => h) (Or.inl ⟨by rfl, ?_⟩) (by assumption) ?_
          · intro w hSw; (try dsimp only at hSw); go_simp
          try simp only [Act.put, List.setIfInBounds_toArray, List.set_cons_zero, List.set_cons_succ]
          refine wpAnyH_take (i := 9) (oi := { dst := some 119, op := Op.load 3 (Operand.tmp 118), type := 3, pos := "ref.go:111", after := #[{ on := 8, ground := Ground.data }], guard := none }) (v := .int .i64 (p : Int)) rfl (by kernel_rfl) (by kernel_rfl) (by kernel_rfl) (fun _ _ _ h => h) (Or.inl ⟨by rfl, ?_⟩) (by assumption) ?_
          · intro w hSw; (try dsimp only at hSw); go_simp
          try simp only [Act.put, List.setIfInBounds_toArray, List.set_cons_zero, List.set_cons_succ]
          refine wpAnyH_take (i := 10) (oi := { dst := some 120, op := Op.indexAddr 22 (Operand.tmp 116) (Operand.tmp 119), type := 0, pos := "ref.go:111", after := #[{ on := 6, ground := Ground.data }, { on := 9, ground := Ground.data }], guard := none }) (v := .pointer (some ⟨b, off + p * 7, none⟩)) rfl (by kernel_rfl) (by kernel_rfl) (by kernel_rfl) (fun _ _ _ h => h) (Or.inl ⟨by rfl, ?_⟩) (by assumption) ?_
          · intro w hSw; (try dsimp only at hSw); go_simp
          try simp only [Act.put, List.setIfInBounds_toArray, List.set_cons_zero, List.set_cons_succ]
          refine wpAnyH_take (i := 11) (oi := { dst := some 121, op := Op.fieldAddr 45 (Operand.tmp 120) 0, type := 0, pos := "ref.go:111", after := #[{ on := 10, ground := Ground.data }], guard := none }) (v := .pointer (some ⟨b, off + p * 7, none⟩)) rfl (by kernel_rfl) (by kernel_rfl) (by kernel_rfl) (fun _ _ _ h => h) (Or.inl ⟨by rfl, ?_⟩) (by assumption) ?_
          · intro w hSw; (try dsimp only at hSw); go_simp
          try simp only [Act.put, List.setIfInBounds_toArray, List.set_cons_zero, List.set_cons_succ]
          refine wpAnyH_take (i := 12) (oi := { dst := some 122, op := Op.load 3 (Operand.tmp 121), type := 3, pos := "ref.go:111", after := #[{ on := 11, ground := Ground.data }], guard := none }) (v := .int .i64 kp) rfl (by kernel_rfl) (by kernel_rfl) (by kernel_rfl) (fun _ _ _ h => h) (Or.inl ⟨by rfl, ?_⟩) (by assumption) ?_
          · intro w hSw; (try dsimp only at hSw); go_simp
          try simp only [Act.put, List.setIfInBounds_toArray, List.set_cons_zero, List.set_cons_succ]
          refine wpAnyH_take (i := 13) (oi := { dst := some 123, op := Op.binOp BinOp.eql 3 (Operand.tmp 122) (Operand.const (Value.int IntKind.i64 6)) 3, type := 4, pos := "ref.go:111", after := #[{ on := 12, ground := Ground.data }], guard := none }) (v := .bool true) rfl (by kernel_rfl) (by kernel_rfl) (by kernel_rfl) (fun _ _ _ h => h) (Or.inl ⟨by rfl, ?_⟩) (by assumption) ?_
          · intro w hSw; (try dsimp only at hSw); go_simp
          try simp only [Act.put, List.setIfInBounds_toArray, List.set_cons_zero, List.set_cons_succ]
          refine wpAnyH_take (i := 14) (oi := { dst := some 124, op := Op.move (Operand.tmp 123), type := 4, pos := "ref.go:111", after := #[{ on := 13, ground := Ground.data }], guard := none }) (v := .bool true) rfl (by kernel_rfl) (by kernel_rfl) (by kernel_rfl) (fun _ _ _ h => h) (Or.inl ⟨by rfl, ?_⟩) (by assumption) ?_
          · intro w hSw; (try dsimp only at hSw); go_simp
          try simp only [Act.put, List.setIfInBounds_toArray, List.set_cons_zero, List.set_cons_succ]
          refine wpAnyH_take (i := 15) (oi := { dst := some 125, op := Op.move (Operand.tmp 0), type := 22, pos := "ref.go:111", after := #[{ on := 14, ground := Ground.guard }], guard := some (14, false) }) (v := undef) rfl (by kernel_rfl) (by kernel_rfl) (by kernel_rfl) (fun _ _ _ h => h) (Or.inr ⟨by rfl, rfl⟩) (by assumption) ?_
          try simp only [Act.put, List.setIfInBounds_toArray, List.set_cons_zero, List.set_cons_succ]
          refine wpAnyH_take (i := 16) (oi := { dst := some 126, op := Op.move (Operand.tmp 6), type := 51, pos := "ref.go:111", after := #[{ on := 14, ground := Ground.guard }], guard := some (14, false) }) (v := undef) rfl (by kernel_rfl) (by kernel_rfl) (by kernel_rfl) (fun _ _ _ h => h) (Or.inr ⟨by rfl, rfl⟩) (by assumption) ?_
          try simp only [Act.put, List.setIfInBounds_toArray, List.set_cons_zero, List.set_cons_succ]
          refine wpAnyH_take (i := 17) (oi := { dst := some 127, op := Op.indexAddr 51 (Operand.tmp 126) (Operand.const (Value.int IntKind.i64 0)), type := 0, pos := "ref.go:111", after := #[{ on := 16, ground := Ground.data }, { on := 14, ground := Ground.guard }], guard := some (14, false) }) (v := undef) rfl (by kernel_rfl) (by kernel_rfl) (by kernel_rfl) (fun _ _ _ h => h) (Or.inr ⟨by rfl, rfl⟩) (by assumption) ?_
          try simp only [Act.put, List.setIfInBounds_toArray, List.set_cons_zero, List.set_cons_succ]
          refine wpAnyH_take (i := 18) (oi := { dst := some 128, op := Op.load 3 (Operand.tmp 127), type := 3, pos := "ref.go:111", after := #[{ on := 17, ground := Ground.data }, { on := 14, ground := Ground.guard }], guard := some (14, false) }) (v := undef) rfl (by kernel_rfl) (by kernel_rfl) (by kernel_rfl) (fun _ _ _ h => h) (Or.inr ⟨by rfl, rfl⟩) (by assumption) ?_
          try simp only [Act.put, List.setIfInBounds_toArray, List.set_cons_zero, List.set_cons_succ]
          refine wpAnyH_take (i := 19) (oi := { dst := some 129, op := Op.indexAddr 22 (Operand.tmp 125) (Operand.tmp 128), type := 0, pos := "ref.go:111", after := #[{ on := 15, ground := Ground.data }, { on := 18, ground := Ground.data }, { on := 14, ground := Ground.guard }], guard := some (14, false) }) (v := undef) rfl (by kernel_rfl) (by kernel_rfl) (by kernel_rfl) (fun _ _ _ h => h) (Or.inr ⟨by rfl, rfl⟩) (by assumption) ?_
          try simp only [Act.put, List.setIfInBounds_toArray, List.set_cons_zero, List.set_cons_succ]
          refine wpAnyH_take (i := 20) (oi := { dst := some 130, op := Op.fieldAddr 45 (Operand.tmp 129) 0, type := 0, pos := "ref.go:111", after := #[{ on := 19, ground := Ground.data }, { on := 14, ground := Ground.guard }], guard := some (14, false) }) (v := undef) rfl (by kernel_rfl) (by kernel_rfl) (by kernel_rfl) (fun _ _ _ h => h) (Or.inr ⟨by rfl, rfl⟩) (by assumption) ?_
          try simp only [Act.put, List.setIfInBounds_toArray, List.set_cons_zero, List.set_cons_succ]
          refine wpAnyH_take (i := 21) (oi := { dst := some 131, op := Op.load 3 (Operand.tmp 130), type := 3, pos := "ref.go:111", after := #[{ on := 20, ground := Ground.data }, { on := 14, ground := Ground.guard }], guard := some (14, false) }) (v := undef) rfl (by kernel_rfl) (by kernel_rfl) (by kernel_rfl) (fun _ _ _ h => h) (Or.inr ⟨by rfl, rfl⟩) (by assumption) ?_
          try simp only [Act.put, List.setIfInBounds_toArray, List.set_cons_zero, List.set_cons_succ]
          refine wpAnyH_take (i := 22) (oi := { dst := some 132, op := Op.binOp BinOp.eql 3 (Operand.tmp 131) (Operand.const (Value.int IntKind.i64 5)) 3, type := 4, pos := "ref.go:111", after := #[{ on := 21, ground := Ground.data }, { on := 14, ground := Ground.guard }], guard := some (14, false) }) (v := undef) rfl (by kernel_rfl) (by kernel_rfl) (by kernel_rfl) (fun _ _ _ h => h) (Or.inr ⟨by rfl, rfl⟩) (by assumption) ?_
          try simp only [Act.put, List.setIfInBounds_toArray, List.set_cons_zero, List.set_cons_succ]
          refine wpAnyH_take (i := 23) (oi := { dst := some 133, op := Op.pick (Operand.tmp 124) (Operand.const (Value.bool true)) (Operand.tmp 132), type := 4, pos := "ref.go:111", after := #[{ on := 14, ground := Ground.data }, { on := 22, ground := Ground.data }], guard := none }) (v := .bool true) rfl (by kernel_rfl) (by kernel_rfl) (by kernel_rfl) (fun _ _ _ h => h) (Or.inl ⟨by rfl, ?_⟩) (by assumption) ?_
          · intro w hSw; (try dsimp only at hSw); go_simp
          try simp only [Act.put, List.setIfInBounds_toArray, List.set_cons_zero, List.set_cons_succ]
          refine wpAnyH_take (i := 25) (oi := { dst := some 135, op := Op.move (Operand.tmp 0), type := 22, pos := "ref.go:111", after := #[], guard := none }) (v := .slice (some ⟨b, off, none⟩) n cap) rfl (by kernel_rfl) (by kernel_rfl) (by kernel_rfl) (fun _ _ _ h => h) (Or.inl ⟨by rfl, ?_⟩) (by assumption) ?_
          · intro w hSw; (try dsimp only at hSw); go_simp
          try simp only [Act.put, List.setIfInBounds_toArray, List.set_cons_zero, List.set_cons_succ]
          refine wpAnyH_take (i := 26) (oi := { dst := some 136, op := Op.move (Operand.tmp 5), type := 3, pos := "ref.go:111", after := #[], guard := none }) (v := .int .i64 ((p : Int) + 1)) rfl (by kernel_rfl) (by kernel_rfl) (by kernel_rfl) (fun _ _ _ h => h) (Or.inl ⟨by rfl, ?_⟩) (by assumption) ?_
          · intro w hSw; (try dsimp only at hSw); go_simp
          try simp only [Act.put, List.setIfInBounds_toArray, List.set_cons_zero, List.set_cons_succ]
          refine wpAnyH_take (i := 27) (oi := { dst := some 137, op := Op.indexAddr 22 (Operand.tmp 135) (Operand.tmp 136), type := 0, pos := "ref.go:111", after := #[{ on := 25, ground := Ground.data }, { on := 26, ground := Ground.data }], guard := none }) (v := .pointer (some ⟨b, off + (p + 1) * 7, none⟩)) rfl (by kernel_rfl) (by kernel_rfl) (by kernel_rfl) (fun _ _ _ h => h) (Or.inl ⟨by rfl, ?_⟩) (by assumption) ?_
          · intro w hSw; (try dsimp only at hSw); go_simp
          try simp only [Act.put, List.setIfInBounds_toArray, List.set_cons_zero, List.set_cons_succ]
          refine wpAnyH_take (i := 28) (oi := { dst := some 138, op := Op.load 45 (Operand.tmp 137), type := 45, pos := "ref.go:111", after := #[{ on := 27, ground := Ground.data }], guard := none }) (v := .agg #[.int .i64 7, .int .u64 ya, .int .u64 yb, .int .u64 yc, .int .u64 yd, .int .i64 ylo, .int .i64 yhi]) rfl (by kernel_rfl) (by kernel_rfl) (by kernel_rfl) (fun _ _ _ h => h) (Or.inl ⟨by rfl, ?_⟩) (by assumption) ?_
          · intro w hSw; (try dsimp only at hSw); go_simp
          try simp only [Act.put, List.setIfInBounds_toArray, List.set_cons_zero, List.set_cons_succ]
          refine wpAnyH_ready (rs := [24]) (by kernel_rfl) (by simp) ?_
          refine AllReadyH.cons rfl (fun K' hK' => ?_) AllReadyH.nil
          go_simp
          with_reducible refine (HAb2.out _).mono ?_
          rintro e wk ⟨rfl, rfl⟩
          refine hK'.out _ _ ?_ (fun hHeld => ?_)
          · (try dsimp only)
            exact HK.out _ hB.drew
          clear hK' K'
          refine wpAnyH_ready (rs := [29]) (by kernel_rfl) (by simp) ?_
          refine AllReadyH.cons rfl (fun K' hK' => ?_) AllReadyH.nil
          go_simp
          with_reducible refine (HOf.out _).mono ?_
          rintro e wf ⟨rfl, hb⟩
          replace hB := hB.drew.trans (hb.mono (by exact hB.size))
          clear hb
          refine hK'.out _ _ ?_ (fun hHeld => ?_)
          · (try dsimp only)
            exact HK.out _ hB
          clear hK' K'
          refine wpAnyH_take (i := 30) (oi := { dst := some 140, op := Op.binOp BinOp.add 9 (Operand.tmp 134) (Operand.tmp 139) 9, type := 9, pos := "ref.go:111", after := #[{ on := 24, ground := Ground.data }, { on := 29, ground := Ground.data }], guard := none }) (v := .string (t1 ++ t2)) rfl (by kernel_rfl) (by kernel_rfl) (by kernel_rfl) (fun _ _ _ h => h) (Or.inl ⟨by rfl, ?_⟩) (by assumption) ?_
          · intro w hSw; (try dsimp only at hSw); go_simp
          try simp only [Act.put, List.setIfInBounds_toArray, List.set_cons_zero, List.set_cons_succ]
          refine wpAnyH_take (i := 31) (oi := { dst := some 7, op := Op.assign (Operand.tmp 140), type := 9, pos := "ref.go:111", after := #[{ on := 30, ground := Ground.data }, { on := 29, ground := Ground.chain }, { on := 0, ground := Ground.phase }, { on := 1, ground := Ground.phase }, { on := 2, ground := Ground.phase }, { on := 3, ground := Ground.phase }, { on := 4, ground := Ground.phase }, { on := 5, ground := Ground.phase }, { on := 6, ground := Ground.phase }, { on := 7, ground := Ground.phase }, { on := 8, ground := Ground.phase }, { on := 9, ground := Ground.phase }, { on := 10, ground := Ground.phase }, { on := 11, ground := Ground.phase }, { on := 12, ground := Ground.phase }, { on := 13, ground := Ground.phase }, { on := 14, ground := Ground.phase }, { on := 15, ground := Ground.phase }, { on := 16, ground := Ground.phase }, { on := 17, ground := Ground.phase }, { on := 18, ground := Ground.phase }, { on := 19, ground := Ground.phase }, { on := 20, ground := Ground.phase }, { on := 21, ground := Ground.phase }, { on := 22, ground := Ground.phase }, { on := 23, ground := Ground.phase }, { on := 24, ground := Ground.phase }, { on := 25, ground := Ground.phase }, { on := 26, ground := Ground.phase }, { on := 27, ground := Ground.phase }, { on := 28, ground := Ground.phase }, { on := 29, ground := Ground.phase }, { on := 30, ground := Ground.phase }], guard := none }) (v := .string (t1 ++ t2)) rfl (by kernel_rfl) (by kernel_rfl) (by kernel_rfl) (fun _ _ _ h => h) (Or.inl ⟨by rfl, ?_⟩) (by assumption) ?_
          · intro w hSw; (try dsimp only at hSw); go_simp
          try simp only [Act.put, List.setIfInBounds_toArray, List.set_cons_zero, List.set_cons_succ]
          refine wpAnyH_done (by kernel_rfl) ?_ _
          have HB3 := Lib.hid (HB2.out.trans (hB.mono HB2.out.size))
          have HO3 := Lib.hid (owns_below HO2.out hB)
          obtain ⟨s, hs⟩ : ∃ s, t1 ++ t2 = s := ⟨_, rfl⟩
          rw [hs] at HS
          clear hHeld hB HB2 HO2 HAb2 HOf q0 t0 p0 p1 p2 p3 p4 p5 p6 HK
          have H63 : Hid (p + 1 + 1 ≤ maxLen) := Lib.hid (by unfold maxLen; omega)
          have H48 : Hid ((p + 1 + 1) * 16 ≤ 140737488355328) := Lib.hid (by omega)
          have hO4 := HO3.out.alloc (.cells #[.string s] 9)
          have HB4 := Lib.hid (HB3.out.alloc HB3.out.size (.cells #[.string s] 9))
          go_wp2_with (at_builtin; refine wpList_append_own _ rfl _ _ 50 rfl w1.heap.size 9 i0 (.string ByteArray.empty) 1 16 Tryd.underlying50 hi hz0 hz1 hz2 rfl (by decide) _ _ _ rfl hO4 ⟨wf.heap.size, 0, none⟩ 1 1 [.string s] rfl rfl ?c2 ?c3 H63.out H48.out ?c5 ?_)
          case c2 =>
            intro j u hj
            match j, hj with
            | 0, hj => simp at hj; subst hj; simp [Addr.add]
          case c3 => intro u hu; simp at hu; subst hu; rfl
          case c5 => exact HB4.out.size
          intro v' w5 hown5 hgrow _
          have HB5 : Hid (Below w1.heap.size w1 w5) := Lib.hid (HB4.out.grown hgrow HB4.out.size fun r hr => (hO4.lt r hr).1)
          have HO5 : Hid (w5.ownsRow w1.heap.size 9 1 v' (p + 1 + 1) (svs N (p + 1 + 1))) := Lib.hid (by
            rw [svs_succ, HS.out]
            exact hown5)
          clear hown5 hgrow hO4 HB4
          go_wp2_with fail
          go_roundw
          case rel => exact ⟨p + 1 + 1, by omega, by go_num, HO5, HB5.out⟩
          case measure => simp [intOf]; omega
      | @two p q _ _ hk0 h1 h2 h3 h4 _ =>
        have hkids : kids N (p + 1) = [(q : Int), (p : Int)] := by
          unfold kids
          rw [if_neg (by rcases hk0 with h | h <;> rw [h] <;> decide), if_pos (by rcases hk0 with h | h <;> rw [h] <;> rfl), Nat.add_sub_cancel, h1]
          congr 1
          · omega
          · congr 1; omega
        rw [hkids] at hkv
        obtain ⟨gk, ck, rfl, hgk, q0, q1⟩ : ∃ gk ck, kv = .slice (some ⟨gk, 0, none⟩) 2 ck ∧ gk < w2.heap.size ∧ w2.cell? ⟨gk, 0, none⟩ = some (.int .i64 (q : Int)) ∧ w2.cell? ⟨gk, 1, none⟩ = some (.int .i64 (p : Int)) := by
          rcases hkv with ⟨_, _, _, h⟩ | ⟨g, c, rfl, hg, hc⟩
          · cases h
          · exact ⟨g, c, rfl, hg, hc 0 (by simp), hc 1 (by simp)⟩
        obtain ⟨gs, cs, rfl⟩ : ∃ gs cs, u4 = .slice (some ⟨gs, 0, none⟩) (p + 1) cs := by
          rcases id HO2.out.2 with ⟨_, h0⟩ | ⟨g, cp, cur, rfl, -⟩
          · omega
          · exact ⟨g, cp, rfl⟩
        have t0 : w2.cell? ⟨gs, q, none⟩ = some (.string (txB N q)) := by rw [HO2.out.cellAt q (by omega)]; exact svs_at N _ _ (by omega)
        have t1 : w2.cell? ⟨gs, p, none⟩ = some (.string (txB N p)) := by rw [HO2.out.cellAt p (by omega)]; exact svs_at N _ _ (by omega)
        have m0 := (hRD2 q (by omega)).2.1
        have m1 := (hRD2 p (by omega)).2.1
        have p0 := (hRD2 (p + 1) hlt).2.1
        have hzp := HSZ.out p (by omega)
        have hzq := HSZ.out q (by omega)
        have j0 : (0 : Int) ≤ (p : Int) := by omega
        have j1 : (p : Int) < (n : Int) := by omega
        have j2 : (p : Int) < (p : Int) + 1 := by omega
        have j3 : (0 : Int) ≤ (q : Int) := by omega
        have j4 : (q : Int) < (n : Int) := by omega
        have j5 : (q : Int) < (p : Int) + 1 := by omega
        rcases hk0 with hk0 | hk0
        · have hHS := txB_cat HTR.out hlt hk0 h1 h2
          rw [hk0] at p0
          generalize txB N p = sp at *
          generalize txB N q = sq at *
          have e1 : (fun x : Nat => x) = (fun x : Nat => x) := rfl
          have hAp := fun bb => about6 sp bb (by omega)
          have hAq := fun bb => about6 sq bb (by omega)
          generalize (N p).k = kp at *
          generalize (N q).k = kq at *
          obtain ⟨b6, hb6⟩ : ∃ b6, (kp == 6) = b6 := ⟨_, rfl⟩
          obtain ⟨b5, hb5⟩ : ∃ b5, (kp == 5) = b5 := ⟨_, rfl⟩
          obtain ⟨c6, hc6⟩ : ∃ b5, (kq == 6) = b5 := ⟨_, rfl⟩
          rw [hb6, hb5, hc6] at hHS
          have hl1 := parB_len (b6 || b5) sp
          have hl2 := parB_len c6 sq
          have HAp := hAp (b6 || b5)
          have HAq := hAq c6
          generalize parB (b6 || b5) sp = tp at *
          generalize parB c6 sq = tq at *
          have HS : Hid (txB N (p + 1) = tq ++ tp) := Lib.hid hHS
          have g1 : ¬ (9223372036854775807 < tq.size + tp.size) := by omega
          have HP := Lib.hid HAp
          have HQ := Lib.hid HAq
          clear hkids hkv hok hk0 hf h1 h2 h3 h4 hRD2 hsz hHS hzp hzq e1 hAp hAq HAp HAq hl1 hl2
          go_wp2_with fail
          cases b6
          · simp only [Bool.false_or] at HP
            go_quiet ((first | (go_at_call 19; with_reducible exact Calls.quiet_of_same (HP.out _)) | (go_at_call 19; with_reducible exact Calls.quiet_of_same (HQ.out _))))
            obtain ⟨s, hs⟩ : ∃ s, tq ++ tp = s := ⟨_, rfl⟩
            rw [hs] at HS
            have HB3' := Lib.hid (below_dr6 nq HB2.out)
            have HO3' : Hid ((w2.drewN nq).ownsRow w1.heap.size 9 1 (.slice (some ⟨gs, 0, none⟩) (p + 1) cs) (p + 1) (svs N (p + 1))) := Lib.hid (by exact HO2.out)
            generalize w2.drewN nq = w3 at HB3' HO3' ⊢
            have HB3 := HB3'
            have HO3 := HO3'
            clear HB3' HO3' HB2 HO2 HP HQ q0 q1 t0 t1 m0 m1 p0
            have H63 : Hid (p + 1 + 1 ≤ maxLen) := Lib.hid (by unfold maxLen; omega)
            have H48 : Hid ((p + 1 + 1) * 16 ≤ 140737488355328) := Lib.hid (by omega)
            have hO4 := HO3.out.alloc (.cells #[.string s] 9)
            have HB4 := Lib.hid (HB3.out.alloc HB3.out.size (.cells #[.string s] 9))
            go_wp2_with (at_builtin; refine wpList_append_own _ rfl _ _ 50 rfl w1.heap.size 9 i0 (.string ByteArray.empty) 1 16 Tryd.underlying50 hi hz0 hz1 hz2 rfl (by decide) _ _ _ rfl hO4 ⟨w3.heap.size, 0, none⟩ 1 1 [.string s] rfl rfl ?c2 ?c3 H63.out H48.out ?c5 ?_)
            case c2 =>
              intro j u hj
              match j, hj with
              | 0, hj => simp at hj; subst hj; simp [Addr.add]
            case c3 => intro u hu; simp at hu; subst hu; rfl
            case c5 => exact HB4.out.size
            intro v' w5 hown5 hgrow _
            have HB5 : Hid (Below w1.heap.size w1 w5) := Lib.hid (HB4.out.grown hgrow HB4.out.size fun r hr => (hO4.lt r hr).1)
            have HO5 : Hid (w5.ownsRow w1.heap.size 9 1 v' (p + 1 + 1) (svs N (p + 1 + 1))) := Lib.hid (by
              rw [svs_succ, HS.out]
              exact hown5)
            clear hown5 hgrow hO4 HB4
            go_wp2_with fail
            go_roundw
            case rel => exact ⟨p + 1 + 1, by omega, by go_num, HO5, HB5.out⟩
            case measure => simp [intOf]; omega
          · simp only [Bool.true_or] at HP
            go_quiet ((first | (go_at_call 19; with_reducible exact Calls.quiet_of_same (HP.out _)) | (go_at_call 19; with_reducible exact Calls.quiet_of_same (HQ.out _))))
            obtain ⟨s, hs⟩ : ∃ s, tq ++ tp = s := ⟨_, rfl⟩
            rw [hs] at HS
            have HB3' := Lib.hid (below_dr6 nq HB2.out)
            have HO3' : Hid ((w2.drewN nq).ownsRow w1.heap.size 9 1 (.slice (some ⟨gs, 0, none⟩) (p + 1) cs) (p + 1) (svs N (p + 1))) := Lib.hid (by exact HO2.out)
            generalize w2.drewN nq = w3 at HB3' HO3' ⊢
            have HB3 := HB3'
            have HO3 := HO3'
            clear HB3' HO3' HB2 HO2 HP HQ q0 q1 t0 t1 m0 m1 p0
            have H63 : Hid (p + 1 + 1 ≤ maxLen) := Lib.hid (by unfold maxLen; omega)
            have H48 : Hid ((p + 1 + 1) * 16 ≤ 140737488355328) := Lib.hid (by omega)
            have hO4 := HO3.out.alloc (.cells #[.string s] 9)
            have HB4 := Lib.hid (HB3.out.alloc HB3.out.size (.cells #[.string s] 9))
            go_wp2_with (at_builtin; refine wpList_append_own _ rfl _ _ 50 rfl w1.heap.size 9 i0 (.string ByteArray.empty) 1 16 Tryd.underlying50 hi hz0 hz1 hz2 rfl (by decide) _ _ _ rfl hO4 ⟨w3.heap.size, 0, none⟩ 1 1 [.string s] rfl rfl ?c2 ?c3 H63.out H48.out ?c5 ?_)
            case c2 =>
              intro j u hj
              match j, hj with
              | 0, hj => simp at hj; subst hj; simp [Addr.add]
            case c3 => intro u hu; simp at hu; subst hu; rfl
            case c5 => exact HB4.out.size
            intro v' w5 hown5 hgrow _
            have HB5 : Hid (Below w1.heap.size w1 w5) := Lib.hid (HB4.out.grown hgrow HB4.out.size fun r hr => (hO4.lt r hr).1)
            have HO5 : Hid (w5.ownsRow w1.heap.size 9 1 v' (p + 1 + 1) (svs N (p + 1 + 1))) := Lib.hid (by
              rw [svs_succ, HS.out]
              exact hown5)
            clear hown5 hgrow hO4 HB4
            go_wp2_with fail
            go_roundw
            case rel => exact ⟨p + 1 + 1, by omega, by go_num, HO5, HB5.out⟩
            case measure => simp [intOf]; omega
        · have hHS := txB_or HTR.out hlt hk0 h1 h2
          rw [hk0] at p0
          generalize txB N p = sp at *
          generalize txB N q = sq at *
          have hAp := fun bb => about6 sp bb (by omega)
          generalize (N p).k = kp at *
          obtain ⟨b6, hb6⟩ : ∃ b6, (kp == 6) = b6 := ⟨_, rfl⟩
          rw [hb6] at hHS
          have hl1 := parB_len b6 sp
          have HAp := hAp b6
          generalize parB b6 sp = tp at *
          have HS : Hid (txB N (p + 1) = sq ++ ⟨#[124]⟩ ++ tp) := Lib.hid hHS
          have g1 : ¬ (9223372036854775807 < sq.size + 1) := by omega
          have g2 : ¬ (9223372036854775807 < sq.size + 1 + tp.size) := by omega
          have HP := Lib.hid HAp
          clear hkids hkv hok hk0 hf h1 h2 h3 h4 hRD2 hsz hHS hzp hzq hAp HAp hl1 m0
          go_wp2_with fail
          go_quiet ((first | (go_at_call 19; with_reducible exact Calls.quiet_of_same (HP.out _))))
          obtain ⟨s, hs⟩ : ∃ s, sq ++ ⟨#[124]⟩ ++ tp = s := ⟨_, rfl⟩
          rw [hs] at HS
          have HB3' := Lib.hid (below_dr6 nq HB2.out)
          have HO3' : Hid ((w2.drewN nq).ownsRow w1.heap.size 9 1 (.slice (some ⟨gs, 0, none⟩) (p + 1) cs) (p + 1) (svs N (p + 1))) := Lib.hid (by exact HO2.out)
          generalize w2.drewN nq = w3 at HB3' HO3' ⊢
          have HB3 := HB3'
          have HO3 := HO3'
          clear HB3' HO3' HB2 HO2 HP q0 q1 t0 t1 m1 p0
          have H63 : Hid (p + 1 + 1 ≤ maxLen) := Lib.hid (by unfold maxLen; omega)
          have H48 : Hid ((p + 1 + 1) * 16 ≤ 140737488355328) := Lib.hid (by omega)
          have hO4 := HO3.out.alloc (.cells #[.string s] 9)
          have HB4 := Lib.hid (HB3.out.alloc HB3.out.size (.cells #[.string s] 9))
          go_wp2_with (at_builtin; refine wpList_append_own _ rfl _ _ 50 rfl w1.heap.size 9 i0 (.string ByteArray.empty) 1 16 Tryd.underlying50 hi hz0 hz1 hz2 rfl (by decide) _ _ _ rfl hO4 ⟨w3.heap.size, 0, none⟩ 1 1 [.string s] rfl rfl ?c2 ?c3 H63.out H48.out ?c5 ?_)
          case c2 =>
            intro j u hj
            match j, hj with
            | 0, hj => simp at hj; subst hj; simp [Addr.add]
          case c3 => intro u hu; simp at hu; subst hu; rfl
          case c5 => exact HB4.out.size
          intro v' w5 hown5 hgrow _
          have HB5 : Hid (Below w1.heap.size w1 w5) := Lib.hid (HB4.out.grown hgrow HB4.out.size fun r hr => (hO4.lt r hr).1)
          have HO5 : Hid (w5.ownsRow w1.heap.size 9 1 v' (p + 1 + 1) (svs N (p + 1 + 1))) := Lib.hid (by
            rw [svs_succ, HS.out]
            exact hown5)
          clear hown5 hgrow hO4 HB4
          go_wp2_with fail
          go_roundw
          case rel => exact ⟨p + 1 + 1, by omega, by go_num, HO5, HB5.out⟩
          case measure => simp [intOf]; omega
    · have hkn : k = n := by omega
      subst hkn
      obtain ⟨m, rfl⟩ : ∃ m, k = m + 1 := ⟨k - 1, by omega⟩
      obtain ⟨gs, cs, rfl⟩ : ∃ gs cs, u4 = .slice (some ⟨gs, 0, none⟩) (m + 1) cs := by
        rcases id HO.out.2 with ⟨_, h0⟩ | ⟨g, cp, cur, rfl, -⟩
        · omega
        · exact ⟨g, cp, rfl⟩
      have t0 : wr.cell? ⟨gs, m, none⟩ = some (.string (txB N m)) := by rw [HO.out.cellAt m (by omega)]; exact svs_at N _ _ (by omega)
      have HBB := Lib.hid (HB1.out.trans (hB.mono HB1.out.size))
      rw [Nat.add_sub_cancel] at HEND HLONG
      have j0 : (0 : Int) ≤ (m : Int) := by omega
      have j1 : (m : Int) < (m : Int) + 1 := by omega
      generalize txB N m = s at *
      by_cases hs200 : s.size ≤ 200
      · have d1 : ¬ (200 < s.size) := by omega
        have HF := Lib.hid (HEND.out hs200)
        clear HO hB hs200
        go_wp2_with fail
        go_returns
        exact ⟨by rw [HF.out] <;> rfl, HBB.out⟩
      · have d1 : 200 < s.size := by omega
        have HF := Lib.hid (HLONG.out d1)
        clear HO hB hs200
        go_wp2_with fail
        go_returns
        exact ⟨by rw [HF.out] <;> rfl, HBB.out⟩

/-- The reference's Text, over any list of at most 100 nodes. -/
theorem rtext_any (p : Option Addr) (n cap : Nat) (N : Nat → Nd) (hn : n ≤ 100) (h : n = 0 ∨ ∃ b off, p = some ⟨b, off, none⟩ ∧ (∀ j, j < n → okW (N j))) (w : World) (hr : ∀ b off, p = some ⟨b, off, none⟩ → rdN w b off n N) :
    Calls Tryd.prog 7 #[.slice p n cap] w (rtxtPost N n w) := by
  by_cases ht : tree N n
  · rcases h with rfl | ⟨b, off, rfl, hw⟩
    · have := ht.2.2; simp [dep] at this
    · exact rtext_tree b off n cap N ht hn hw w (hr b off rfl)
  · refine rtext_not p n cap N ht w ?_
    rcases Nat.eq_zero_or_pos n with rfl | hpos
    · exact rright_zero p cap N w
    · rcases h with rfl | ⟨b, off, rfl, -⟩
      · omega
      · exact rright_some b off n cap N hpos (by omega) w (hr b off rfl)
end Go.Proofs.YtgjpmfdiidkdnaaDoor
