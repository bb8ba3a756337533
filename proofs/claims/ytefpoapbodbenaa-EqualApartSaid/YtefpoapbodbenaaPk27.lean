/-
  The symbols that stand for their classes, as they rise. Plain.
  The walk of equal.by: where a state goes by a symbol.
  The walk of alpha.Firsts.
  The walk of alpha.Firsts: what it tells lies in new memory.
-/
import Derived.Test.YtefpoapbodbenaaPk24
import Derived.Test.YtefpoapbodbenaaPk7
import Derived.Test.YtefpoapbodbenaaPk13
import Derived.BigQuiet
import Derived.Deep.QuietTactic
import Derived.Test.YtefpoapbodbenaaPk16
import Derived.Test.YtefpoapbodbenaaPk9
import Derived.Test.YtefpoapbodbenaaPk23
namespace Go.Proofs.Ytefpoapbodbenaa

theorem cntT_up {T : Nat → Bool} {a b : Nat} (h : a ≤ b) : cntT T a ≤ cntT T b := by
  induction b with
  | zero => rw [Nat.le_zero.1 h]; exact Nat.le_refl _
  | succ b ih =>
    by_cases e : a = b + 1
    · rw [e]; exact Nat.le_refl _
    · rw [cntT_succ]
      have := ih (by omega)
      split <;> omega
theorem cnt_none {T : Nat → Bool} {c s d : Nat} (e : cntT T c = cntT T s) (h1 : c ≤ d) (h2 : d < s) : T d = false := by
  cases h : T d with
  | false => rfl
  | true =>
    have a1 := cntT_lt h2 h
    have a2 := cntT_up (T := T) h1
    omega
theorem cnt_at {T : Nat → Bool} {j : Nat} : ∀ n, j < cntT T n → ∃ s, s < n ∧ T s = true ∧ cntT T s = j
  | 0, h => by have : cntT T 0 = 0 := rfl; omega
  | n + 1, h => by
    by_cases g : j < cntT T n
    · obtain ⟨s, h1, h2⟩ := cnt_at n g
      exact ⟨s, by omega, h2⟩
    · rw [cntT_succ] at h
      by_cases e : T n = true
      · rw [if_pos e] at h
        exact ⟨n, by omega, e, by omega⟩
      · rw [if_neg e] at h; omega
/-- The place of the j-th class is its first one. -/
theorem fs_head {R : Nat → Nat → Bool} (hR : eqR R) {n j : Nat} (hj : j < cntT (isH R) n) : ∃ s : Nat, s < n ∧ fsA (fun z => (clA R z : Int)) n (j : Int) = (s : Int) ∧ isH R s = true ∧ cntT (isH R) s = j := by
  obtain ⟨s, h1, h2, h3⟩ := cnt_at n hj
  refine ⟨s, h1, ?_, h2, h3⟩
  unfold fsA
  rw [find_range (k := s) h1]
  · rfl
  · have := clA_head h2
    rw [beq_iff_eq]
    show (clA R s : Int) = j
    omega
  · intro i hi
    cases e : ((clA R i : Nat) : Int) == (j : Int) with
    | false => rfl
    | true =>
      exfalso
      have e1 : clA R i = clA R s := by
        have := clA_head h2
        have := beq_iff_eq.1 e
        omega
      have e2 := (clA_iff hR).1 e1
      have e3 : hdA R s = s := beq_iff_eq.1 h2
      have := hdA_least (R := R) (x := s) (k := i) (by omega)
      rw [e2] at this; cases this
/-- A symbol that does not stand for its class leads where a lesser one does. -/
theorem hd_skip {x y : Da} {d : Nat} (h : isH (joR x.l0 y.l0) d = false) (X : Nat × Nat) : ∃ c0, c0 < d ∧ go14 x y d X = go14 x y c0 X := by
  have hR := joR_eq x.l0 y.l0
  have h1 := hdA_le (joR x.l0 y.l0) d
  have h2 := hdA_like hR.re d
  have h3 : hdA (joR x.l0 y.l0) d ≠ d := fun e => by
    unfold isH at h
    rw [e] at h
    simp at h
  obtain ⟨e1, e2⟩ := joR_iff.1 h2
  refine ⟨hdA (joR x.l0 y.l0) d, by omega, ?_⟩
  unfold go14 goD
  rw [e1, e2]
/-- Up to the next one that does; up to the end. -/
theorem okZ_till {x y : Da} {l : Mt14} {a c s : Nat} {X : Nat × Nat} {w : List Nat} (hX : l[a]? = some (X, w)) (h : okZ x y l a c) (hs : s ≤ 259) (hcs : c ≤ s) (e : cntT (isH (joR x.l0 y.l0)) c = cntT (isH (joR x.l0 y.l0)) s) : okZ x y l a s := by
  have := okZ_upto hX (s - c) c h (by omega) fun d h1 h2 => hd_skip (cnt_none e h1 (by omega)) X
  rwa [show c + (s - c) = s by omega] at this
theorem cnt_le {T : Nat → Bool} {c s : Nat} (hs : T s = true) (e : cntT T c = cntT T s) : c ≤ s := by
  rcases Nat.lt_or_ge s c with g | g
  · have := cntT_lt g hs
    omega
  · exact g
end Go.Proofs.Ytefpoapbodbenaa

namespace Go.Proofs.Ytefpoapbodbenaa
open Go.RowKit

set_option maxRecDepth 100000 in
set_option maxHeartbeats 4000000 in
theorem by14 (v : Value) (x : Da) (s y : Nat) (w : World) (hs : smD x) (hx : rgD x) (hst : s < x.n2) (hy : y < 259) (hd : daAt w v x) :
    Calls Try.prog 38 #[v, .int .i64 (s : Int), .int .i64 (y : Int)] w fun e w' => e = .returned (.int .i64 (goD x s y : Nat)) ∧ Below w.heap.size w w' := by
  obtain ⟨g1, g2, g3⟩ := goD_at hx hst hy
  have hcc := (hx.2.2.2.2.2.2.2.2.1 y hy).1
  have hgd : x.l1 (s * x.wd.toNat + (x.l0 y).toNat) = (goD x s y : Nat) := by
    unfold goD
    rw [Int.toNat_of_nonneg g2]
  obtain ⟨W, hW⟩ : ∃ W : Nat, x.wd = W := ⟨x.wd.toNat, by have := hx.2.1; omega⟩
  rw [hW, Int.toNat_natCast] at g1 hgd
  obtain ⟨cc, hcc2⟩ : ∃ cc : Nat, x.l0 y = cc := ⟨(x.l0 y).toNat, by omega⟩
  rw [hcc2, Int.toNat_natCast] at g1 hgd
  obtain ⟨p, hp⟩ : ∃ p, s * W = p := ⟨_, rfl⟩
  rw [hp] at g1 hgd
  obtain ⟨q0, c0, q1, c1, q2, c2, rfl, h0, h1, -⟩ := hd
  obtain ⟨b0, o0, rfl, hb0, hc0⟩ := h0 y (by rw [hx.1]; exact hy)
  obtain ⟨b1, o1, rfl, hb1, hc1⟩ := h1 (p + cc) g1
  rw [hcc2] at hc0
  rw [hgd] at hc1
  rw [hx.1, hW]
  obtain ⟨z, hz⟩ : ∃ z, goD x s y = z := ⟨_, rfl⟩
  rw [hz] at hc1 ⊢
  obtain ⟨w1, hw1⟩ : ∃ w1, w.alloc (.cells #[.slice (some ⟨b0, o0, none⟩) 259 c0, .int .i64 (W : Int), .int .i64 x.st, .slice (some ⟨b1, o1, none⟩) x.n1 c1, .slice q2 x.n2 c2] 25) = w1 := ⟨_, rfl⟩
  have hbw : Below w.heap.size w w1 := hw1 ▸ (Below.refl _ _).alloc (Nat.le_refl _) _
  have hk : isDf w1 w.heap.size (some ⟨b0, o0, none⟩) 259 c0 W x.st (some ⟨b1, o1, none⟩) x.n1 c1 q2 x.n2 c2 := hw1 ▸ heap_alloc_new w _
  obtain ⟨k0, k1, -, k3, -⟩ := hk.cells
  have kc0 : w1.cell? ⟨b0, o0 + y, none⟩ = some (.int .i64 (cc : Int)) := (hbw.cell (p := ⟨b0, o0 + y, none⟩) hb0).trans hc0
  have kc1 : w1.cell? ⟨b1, o1 + (p + cc), none⟩ = some (.int .i64 (z : Int)) := (hbw.cell (p := ⟨b1, o1 + (p + cc), none⟩) hb1).trans hc1
  have hmul : (s : Int) * (W : Int) = (p : Int) := by rw [← hp]; simp
  have y0 : (0 : Int) ≤ (y : Int) := by omega
  have y1 : (y : Int) < 259 := by omega
  have p0 : (0 : Int) ≤ (p : Int) := by omega
  have p1 : (p : Int) + (cc : Int) < (x.n1 : Int) := by omega
  have p2 : (0 : Int) ≤ (p : Int) + (cc : Int) := by omega
  have p3 : (x.n1 : Int) ≤ 1000000 := by have := hs.2.1; omega
  have p4 : ((p : Int) + (cc : Int)).toNat = p + cc := by omega
  have HW1 := Lib.hid hw1
  have HB := Lib.hid hbw
  clear hw1 hbw hk hb0 hb1 hc0 hc1 hz hp hgd hcc2 hcc hW hx hs hst hy h0 h1 g1 g2 g3
  go_enter Try.func38, Try.ntmps38
  go_upto_region 1 with (fail)
  rw [HW1.out]
  go_quiet (fail)
  go_wp2_with fail
  go_returns
  exact ⟨rfl, below_drewN nq HB.out⟩

end Go.Proofs.Ytefpoapbodbenaa

namespace Go.Proofs.Ytefpoapbodbenaa
open Go.RowKit

theorem max_run10 (p q : Int) (t : TypeId) (w : World) : (Builtin.max_ #[3, 3] t #[.int .i64 p, .int .i64 q]).run Try.prog w = .ok (.int .i64 (if p < q then q else p)) w := by
  unfold Builtin.max_
  simp [go_sem, Builtin.max2]
theorem wp_max10 {o : Oper} {a : Act} {w : World} {K : Act → World → Prop} {Q : Exit → Act → World → Prop} (x y : Operand) (ho : o.op = .call { callee := .builtin .max, args := #[x, y], argTypes := #[3, 3] })
    (p q L : Int) (hx : a.eval x = .int .i64 p) (hy : a.eval y = .int .i64 q) (hL : (if p < q then q else p) = L)
    (h : K (a.put o.dst (.int .i64 L)) w) : Oper.wp Try.prog o a w K Q := by
  have hr := max_run10 p q o.type w
  rw [hL] at hr
  unfold Oper.wp execOp
  simp only [ho]
  generalize a.eval = ev at *
  simp [go_sem, hx, hy, hr]
  exact h
theorem fsA_zero (l : Nat → Int) (c : Int) : fsA l 0 c = -1 := rfl
theorem fsA_one (l : Nat → Int) (i : Nat) (c : Int) : fsA l (i + 1) c = if fsA l i c = -1 then (if l i = c then (i : Int) else -1) else fsA l i c := by
  unfold fsA
  rw [List.range_succ, List.find?_append]
  cases h : (List.range i).find? fun i => l i == c with
  | none =>
    by_cases e : l i = c
    · simp [e]
    · simp [e]
  | some k =>
    simp only [Option.some_or, Option.map_some, Option.getD_some]
    rw [if_neg (by omega)]
theorem fsA_put {l : Nat → Int} {i a : Nat} (ha : l i = (a : Int)) (h : fsA l i (a : Int) = -1) : putF (fun c => fsA l i (c : Nat)) a (i : Int) = fun c => fsA l (i + 1) (c : Nat) := by
  funext c
  unfold putF
  show _ = fsA l (i + 1) (c : Int)
  rw [fsA_one]
  by_cases hc : c = a
  · subst hc; rw [if_pos rfl, if_pos h, if_pos ha]
  · rw [if_neg hc]
    have hne : ¬ l i = (c : Int) := by omega
    rw [if_neg hne]
    by_cases g : fsA l i (c : Int) = -1
    · rw [if_pos g]; exact g
    · rw [if_neg g]
theorem fsA_keep {l : Nat → Int} {i : Nat} {c : Nat} (h : ∀ a : Nat, l i = (a : Int) → a = c → fsA l i (a : Int) ≠ -1) : fsA l i (c : Nat) = fsA l (i + 1) (c : Nat) := by
  rw [fsA_one]
  by_cases g : fsA l i (c : Int) = -1
  · rw [if_pos g, g]
    by_cases e : l i = (c : Int)
    · exact absurd g (h c e rfl)
    · rw [if_neg e]
  · rw [if_neg g]
def m1F (k : Nat) (x : Nat) : Int := if x < k then -1 else 0
theorem m1F_succ (k : Nat) : putF (m1F k) k (-1) = m1F (k + 1) := by
  funext x
  unfold putF m1F
  by_cases h : x = k
  · subst h; simp
  · rw [if_neg h]
    by_cases g : x < k
    · rw [if_pos g, if_pos (by omega)]
    · rw [if_neg g, if_neg (by omega)]

set_option maxRecDepth 100000 in
set_option maxHeartbeats 8000000 in
theorem firsts_is (q : Option Addr) (n c : Nat) (l : Nat → Int) (width : Int) (hn : n ≤ 1000) (w : World) (hl : rdL w q n l) : Calls Try.prog 29 #[.slice q n c, .int .i64 width] w (frsPost n l width w) := by
  obtain ⟨K, hK⟩ : ∃ K : Nat, (min width 259).toNat = K := ⟨_, rfl⟩
  have hK1 : K ≤ 259 := by omega
  obtain ⟨mx, hmx⟩ : ∃ mx : Int, (if width < 0 then 0 else width) = mx := ⟨_, rfl⟩
  have hmK : (if (259 : Int) < mx then 259 else mx) = (K : Int) := by
    split at hmx <;> split <;> omega
  have HMx := Lib.hid hmx
  have HMK := Lib.hid hmK
  unfold frsPost
  rw [hK]
  have HL := Lib.hid hl
  have n0 : (0 : Int) ≤ (n : Int) := by omega
  have k0 : (0 : Int) ≤ (K : Int) := by omega
  have k1 : (K : Int) ≤ 259 := by omega
  clear hmx hmK hK hl
  go_enter Try.func29, Try.ntmps29
  go_wp2_with (first | (refine wpList_plain rfl fun _ hK => wp_max10 _ _ rfl width 0 mx rfl rfl HMx.out (hK _ _ ?_)) | (refine wpList_plain rfl fun _ hK => wp_min9 _ _ rfl mx 259 (K : Int) rfl rfl HMK.out (hK _ _ ?_)) | (refine make_ints rfl _ _ rfl w.heap.size K rfl rfl (by omega) (Nat.le_refl _) ?_))
  intro w1 ho hb
  obtain ⟨g, hg⟩ : ∃ g, w.heap.size = g := ⟨_, rfl⟩
  rw [hg] at ho hb ⊢
  have hgl := ho.lt
  have HO0 : Hid (ipR w1 g g K (m1F 0)) := Lib.hid (ho.same fun j _ => by simp [m1F])
  have HB0 := Lib.hid hb
  have HG := Lib.hid hg
  clear ho hb hg
  go_wp2_with fail
  go_loopw [15] (fun iv wr => ∃ i : Nat, i ≤ K ∧ iv = .int .i64 i ∧ Hid (ipR wr g g K (m1F i)) ∧ Hid (Below g w wr)) (fun iv _ => K - (intOf iv).toNat)
  case atStart => exact ⟨0, Nat.zero_le _, rfl, HO0, HB0⟩
  case round =>
    clear HO0 HB0
    obtain ⟨i, hi, rfl, HO, HB⟩ := hrel
    by_cases hlti : i < K
    · have i0 : (0 : Int) ≤ (i : Int) := by omega
      have i1 : (i : Int) < (K : Int) := by omega
      have f0 := HO.out.free i
      have c0 := HO.out.cell i hlti
      have HO2 : Hid (ipR (wr.setCell ⟨g, i, none⟩ (.int .i64 (-1))) g g K (m1F (i + 1))) := Lib.hid (by have := HO.out.put i (-1); rw [m1F_succ] at this; exact this)
      have HB2 : Hid (Below g w (wr.setCell ⟨g, i, none⟩ (.int .i64 (-1)))) := Lib.hid (HB.out.setCell (p := ⟨g, i, none⟩) (Nat.le_refl _) _)
      go_wp2_with fail
      go_roundw
      case rel => exact ⟨i + 1, by omega, by go_num, HO2, HB2⟩
      case measure => simp [intOf]; omega
    · obtain rfl : i = K := by omega
      have HO0 : Hid (ipR wr g g i (fun c => fsA l 0 (c : Nat))) := Lib.hid (HO.out.same fun j hj => by simp [m1F, hj, fsA_zero])
      have HB0 := HB
      clear HO HB
      go_wp2_with fail
      obtain ⟨w2, hw2⟩ : ∃ w2, wr = w2 := ⟨_, rfl⟩
      subst hw2
      go_loopw [24] (fun jv wr => ∃ j : Nat, j ≤ n ∧ jv = .int .i64 j ∧ Hid (ipR wr g g i (fun c => fsA l j (c : Nat))) ∧ Hid (Below g w wr)) (fun jv _ => n - (intOf jv).toNat)
      case atStart => exact ⟨0, Nat.zero_le _, rfl, HO0, HB0⟩
      case round =>
        clear HO0 HB0
        obtain ⟨j, hj, rfl, HO, HB⟩ := hrel
        by_cases hltj : j < n
        · have j0 : (0 : Int) ≤ (j : Int) := by omega
          have j1 : (j : Int) < (n : Int) := by omega
          obtain ⟨lb, lo, rfl, hlb, hlc⟩ := (HL.out.below (HG.out.symm ▸ HB.out)) j hltj
          obtain ⟨x, hx⟩ : ∃ x, l j = x := ⟨_, rfl⟩
          have HX := Lib.hid hx
          rw [hx] at hlc
          clear hx
          by_cases h0 : 0 ≤ x
          · obtain ⟨a, rfl⟩ : ∃ a : Nat, x = a := ⟨x.toNat, by omega⟩
            have d0 : decide ((0 : Int) ≤ (a : Int)) = true := decide_eq_true h0
            by_cases h1 : a < i
            · have d1 : decide ((a : Int) < (i : Int)) = true := decide_eq_true (by omega)
              have d1' : (a : Int) < (i : Int) := by omega
              have f0 := HO.out.free a
              have g0 := HO.out.cell a h1
              obtain ⟨u, hu⟩ : ∃ u, fsA l j (a : Int) = u := ⟨_, rfl⟩
              rw [hu] at g0
              cases hm : (u == (-1 : Int))
              · have hm' : ¬ u = (-1 : Int) := by simpa using hm
                have HO2 : Hid (ipR wr g g i (fun c => fsA l (j + 1) (c : Nat))) := Lib.hid (HO.out.same fun c _ => fsA_keep fun a' e1 e2 => by
                  subst e2
                  have : a' = a := by have := HX.out; omega
                  subst this
                  rw [hu]; exact hm')
                have HM := Lib.hid hm
                clear hu hm' HO
                go_wp2_with fail
                go_roundw
                case rel => exact ⟨j + 1, by omega, by go_num, HO2, HB⟩
                case measure => simp [intOf]; omega
              · have hm' : u = (-1 : Int) := by simpa using hm
                have HO2 : Hid (ipR (wr.setCell ⟨g, a, none⟩ (.int .i64 (j : Int))) g g i (fun c => fsA l (j + 1) (c : Nat))) := Lib.hid (by
                  have := HO.out.put a (j : Int)
                  rw [fsA_put HX.out (hu.trans hm')] at this; exact this)
                have HB2 : Hid (Below g w (wr.setCell ⟨g, a, none⟩ (.int .i64 (j : Int)))) := Lib.hid (HB.out.setCell (p := ⟨g, a, none⟩) (Nat.le_refl _) _)
                subst hm'
                clear hu HO
                go_wp2_with fail
                go_roundw
                case rel => exact ⟨j + 1, by omega, by go_num, HO2, HB2⟩
                case measure => simp [intOf]; omega
            · have d1 : decide ((a : Int) < (i : Int)) = false := decide_eq_false (by omega)
              have HO2 : Hid (ipR wr g g i (fun c => fsA l (j + 1) (c : Nat))) := Lib.hid (HO.out.same fun c hc => fsA_keep fun a' e1 e2 => by
                have := HX.out; omega)
              clear HO
              go_wp2_with fail
              go_roundw
              case rel => exact ⟨j + 1, by omega, by go_num, HO2, HB⟩
              case measure => simp [intOf]; omega
          · have d0 : decide ((0 : Int) ≤ x) = false := decide_eq_false h0
            have HO2 : Hid (ipR wr g g i (fun c => fsA l (j + 1) (c : Nat))) := Lib.hid (HO.out.same fun c hc => fsA_keep fun a' e1 e2 => by
              have := HX.out; omega)
            clear HO
            go_wp2_with fail
            go_roundw
            case rel => exact ⟨j + 1, by omega, by go_num, HO2, HB⟩
            case measure => simp [intOf]; omega
        · obtain rfl : j = n := by omega
          have HR := Lib.hid HO.out.rd
          go_wp2_with fail
          go_returns
          exact ⟨_, _, _, rfl, HR.out, fun _ _ => rfl, HG.out.symm ▸ HB.out⟩
theorem frs_any : FrsC := fun q n c l width w hn hl => firsts_is q n c l width hn w hl
end Go.Proofs.Ytefpoapbodbenaa

namespace Go.Proofs.Ytefpoapbodbenaa
open Go.RowKit

set_option maxRecDepth 100000 in
set_option maxHeartbeats 8000000 in
theorem firsts13 (q : Option Addr) (n c : Nat) (l : Nat → Int) (width : Int) (hn : n ≤ 1000) (w : World) (hl : rdL w q n l) : Calls Try.prog 29 #[.slice q n c, .int .i64 width] w fun e w' => ∃ q c l', e = .returned (.slice q (min width 259).toNat c) ∧ rdL w' q (min width 259).toNat l' ∧ (∀ j, j < (min width 259).toNat → l' j = fsA l n (j : Nat)) ∧ Below w.heap.size w w' ∧ ∀ b o, q = some ⟨b, o, none⟩ → w.heap.size ≤ b := by
  obtain ⟨K, hK⟩ : ∃ K : Nat, (min width 259).toNat = K := ⟨_, rfl⟩
  have hK1 : K ≤ 259 := by omega
  obtain ⟨mx, hmx⟩ : ∃ mx : Int, (if width < 0 then 0 else width) = mx := ⟨_, rfl⟩
  have hmK : (if (259 : Int) < mx then 259 else mx) = (K : Int) := by
    split at hmx <;> split <;> omega
  have HMx := Lib.hid hmx
  have HMK := Lib.hid hmK
  rw [hK]
  have HL := Lib.hid hl
  have n0 : (0 : Int) ≤ (n : Int) := by omega
  have k0 : (0 : Int) ≤ (K : Int) := by omega
  have k1 : (K : Int) ≤ 259 := by omega
  clear hmx hmK hK hl
  go_enter Try.func29, Try.ntmps29
  go_wp2_with (first | (refine wpList_plain rfl fun _ hK => wp_max10 _ _ rfl width 0 mx rfl rfl HMx.out (hK _ _ ?_)) | (refine wpList_plain rfl fun _ hK => wp_min9 _ _ rfl mx 259 (K : Int) rfl rfl HMK.out (hK _ _ ?_)) | (refine make_ints rfl _ _ rfl w.heap.size K rfl rfl (by omega) (Nat.le_refl _) ?_))
  intro w1 ho hb
  obtain ⟨g, hg⟩ : ∃ g, w.heap.size = g := ⟨_, rfl⟩
  rw [hg] at ho hb ⊢
  have hgl := ho.lt
  have HO0 : Hid (ipR w1 g g K (m1F 0)) := Lib.hid (ho.same fun j _ => by simp [m1F])
  have HB0 := Lib.hid hb
  have HG := Lib.hid hg
  clear ho hb hg
  go_wp2_with fail
  go_loopw [15] (fun iv wr => ∃ i : Nat, i ≤ K ∧ iv = .int .i64 i ∧ Hid (ipR wr g g K (m1F i)) ∧ Hid (Below g w wr)) (fun iv _ => K - (intOf iv).toNat)
  case atStart => exact ⟨0, Nat.zero_le _, rfl, HO0, HB0⟩
  case round =>
    clear HO0 HB0
    obtain ⟨i, hi, rfl, HO, HB⟩ := hrel
    by_cases hlti : i < K
    · have i0 : (0 : Int) ≤ (i : Int) := by omega
      have i1 : (i : Int) < (K : Int) := by omega
      have f0 := HO.out.free i
      have c0 := HO.out.cell i hlti
      have HO2 : Hid (ipR (wr.setCell ⟨g, i, none⟩ (.int .i64 (-1))) g g K (m1F (i + 1))) := Lib.hid (by have := HO.out.put i (-1); rw [m1F_succ] at this; exact this)
      have HB2 : Hid (Below g w (wr.setCell ⟨g, i, none⟩ (.int .i64 (-1)))) := Lib.hid (HB.out.setCell (p := ⟨g, i, none⟩) (Nat.le_refl _) _)
      go_wp2_with fail
      go_roundw
      case rel => exact ⟨i + 1, by omega, by go_num, HO2, HB2⟩
      case measure => simp [intOf]; omega
    · obtain rfl : i = K := by omega
      have HO0 : Hid (ipR wr g g i (fun c => fsA l 0 (c : Nat))) := Lib.hid (HO.out.same fun j hj => by simp [m1F, hj, fsA_zero])
      have HB0 := HB
      clear HO HB
      go_wp2_with fail
      obtain ⟨w2, hw2⟩ : ∃ w2, wr = w2 := ⟨_, rfl⟩
      subst hw2
      go_loopw [24] (fun jv wr => ∃ j : Nat, j ≤ n ∧ jv = .int .i64 j ∧ Hid (ipR wr g g i (fun c => fsA l j (c : Nat))) ∧ Hid (Below g w wr)) (fun jv _ => n - (intOf jv).toNat)
      case atStart => exact ⟨0, Nat.zero_le _, rfl, HO0, HB0⟩
      case round =>
        clear HO0 HB0
        obtain ⟨j, hj, rfl, HO, HB⟩ := hrel
        by_cases hltj : j < n
        · have j0 : (0 : Int) ≤ (j : Int) := by omega
          have j1 : (j : Int) < (n : Int) := by omega
          obtain ⟨lb, lo, rfl, hlb, hlc⟩ := (HL.out.below (HG.out.symm ▸ HB.out)) j hltj
          obtain ⟨x, hx⟩ : ∃ x, l j = x := ⟨_, rfl⟩
          have HX := Lib.hid hx
          rw [hx] at hlc
          clear hx
          by_cases h0 : 0 ≤ x
          · obtain ⟨a, rfl⟩ : ∃ a : Nat, x = a := ⟨x.toNat, by omega⟩
            have d0 : decide ((0 : Int) ≤ (a : Int)) = true := decide_eq_true h0
            by_cases h1 : a < i
            · have d1 : decide ((a : Int) < (i : Int)) = true := decide_eq_true (by omega)
              have d1' : (a : Int) < (i : Int) := by omega
              have f0 := HO.out.free a
              have g0 := HO.out.cell a h1
              obtain ⟨u, hu⟩ : ∃ u, fsA l j (a : Int) = u := ⟨_, rfl⟩
              rw [hu] at g0
              cases hm : (u == (-1 : Int))
              · have hm' : ¬ u = (-1 : Int) := by simpa using hm
                have HO2 : Hid (ipR wr g g i (fun c => fsA l (j + 1) (c : Nat))) := Lib.hid (HO.out.same fun c _ => fsA_keep fun a' e1 e2 => by
                  subst e2
                  have : a' = a := by have := HX.out; omega
                  subst this
                  rw [hu]; exact hm')
                have HM := Lib.hid hm
                clear hu hm' HO
                go_wp2_with fail
                go_roundw
                case rel => exact ⟨j + 1, by omega, by go_num, HO2, HB⟩
                case measure => simp [intOf]; omega
              · have hm' : u = (-1 : Int) := by simpa using hm
                have HO2 : Hid (ipR (wr.setCell ⟨g, a, none⟩ (.int .i64 (j : Int))) g g i (fun c => fsA l (j + 1) (c : Nat))) := Lib.hid (by
                  have := HO.out.put a (j : Int)
                  rw [fsA_put HX.out (hu.trans hm')] at this; exact this)
                have HB2 : Hid (Below g w (wr.setCell ⟨g, a, none⟩ (.int .i64 (j : Int)))) := Lib.hid (HB.out.setCell (p := ⟨g, a, none⟩) (Nat.le_refl _) _)
                subst hm'
                clear hu HO
                go_wp2_with fail
                go_roundw
                case rel => exact ⟨j + 1, by omega, by go_num, HO2, HB2⟩
                case measure => simp [intOf]; omega
            · have d1 : decide ((a : Int) < (i : Int)) = false := decide_eq_false (by omega)
              have HO2 : Hid (ipR wr g g i (fun c => fsA l (j + 1) (c : Nat))) := Lib.hid (HO.out.same fun c hc => fsA_keep fun a' e1 e2 => by
                have := HX.out; omega)
              clear HO
              go_wp2_with fail
              go_roundw
              case rel => exact ⟨j + 1, by omega, by go_num, HO2, HB⟩
              case measure => simp [intOf]; omega
          · have d0 : decide ((0 : Int) ≤ x) = false := decide_eq_false h0
            have HO2 : Hid (ipR wr g g i (fun c => fsA l (j + 1) (c : Nat))) := Lib.hid (HO.out.same fun c hc => fsA_keep fun a' e1 e2 => by
              have := HX.out; omega)
            clear HO
            go_wp2_with fail
            go_roundw
            case rel => exact ⟨j + 1, by omega, by go_num, HO2, HB⟩
            case measure => simp [intOf]; omega
        · obtain rfl : j = n := by omega
          have HR := Lib.hid HO.out.rd
          go_wp2_with fail
          go_returns
          exact ⟨_, _, _, rfl, HR.out, fun _ _ => rfl, HG.out.symm ▸ HB.out, fun b o e => by cases e; exact Nat.le_of_eq HG.out⟩
end Go.Proofs.Ytefpoapbodbenaa
