/-
  The walk of alpha.Firsts.
-/
import Derived.Test.YthmkjdpmpcjinaaPk28
import Derived.Test.YthmkjdpmpcjinaaPk32
namespace Go.Proofs.Ythmkjdpmpcjinaa
open Go.RowKit

theorem max_run10 (p q : Int) (t : TypeId) (w : World) : (Builtin.max_ #[3, 3] t #[.int .i64 p, .int .i64 q]).run Try.prog w = .ok (.int .i64 (if p < q then q else p)) w := by
  unfold Builtin.max_
  simp [go_sem, Builtin.max2]
theorem wp_max10 {o : Oper} {a : Act} {w : World} {K : Act → World → Prop} {Q : Exit → Act → World → Prop} (x y : Operand) (ho : o.op = .call { callee := .builtin .max, args := #[x, y], argTypes := #[3, 3] })
    (p q L : Int) (hx : a.eval x = .int .i64 p) (hy : a.eval y = .int .i64 q) (hL : (if p < q then q else p) = L)
    (h : K (a.put o.dst (.int .i64 L)) w) : Oper.wp Try.prog o a w K Q := by
  have hr := max_run10 p q o.type w
  rw [hL] at hr
  unfold Oper.wp execOp
  simp only [ho]
  generalize a.eval = ev at *
  simp [go_sem, hx, hy, hr]
  exact h
theorem fsA_zero (l : Nat → Int) (c : Int) : fsA l 0 c = -1 := rfl
theorem fsA_one (l : Nat → Int) (i : Nat) (c : Int) : fsA l (i + 1) c = if fsA l i c = -1 then (if l i = c then (i : Int) else -1) else fsA l i c := by
  unfold fsA
  rw [List.range_succ, List.find?_append]
  cases h : (List.range i).find? fun i => l i == c with
  | none =>
    by_cases e : l i = c
    · simp [e]
    · simp [e]
  | some k =>
    simp only [Option.some_or, Option.map_some, Option.getD_some]
    rw [if_neg (by omega)]
theorem fsA_put {l : Nat → Int} {i a : Nat} (ha : l i = (a : Int)) (h : fsA l i (a : Int) = -1) : putF (fun c => fsA l i (c : Nat)) a (i : Int) = fun c => fsA l (i + 1) (c : Nat) := by
  funext c
  unfold putF
  show _ = fsA l (i + 1) (c : Int)
  rw [fsA_one]
  by_cases hc : c = a
  · subst hc; rw [if_pos rfl, if_pos h, if_pos ha]
  · rw [if_neg hc]
    have hne : ¬ l i = (c : Int) := by omega
    rw [if_neg hne]
    by_cases g : fsA l i (c : Int) = -1
    · rw [if_pos g]; exact g
    · rw [if_neg g]
theorem fsA_keep {l : Nat → Int} {i : Nat} {c : Nat} (h : ∀ a : Nat, l i = (a : Int) → a = c → fsA l i (a : Int) ≠ -1) : fsA l i (c : Nat) = fsA l (i + 1) (c : Nat) := by
  rw [fsA_one]
  by_cases g : fsA l i (c : Int) = -1
  · rw [if_pos g, g]
    by_cases e : l i = (c : Int)
    · exact absurd g (h c e rfl)
    · rw [if_neg e]
  · rw [if_neg g]
def m1F (k : Nat) (x : Nat) : Int := if x < k then -1 else 0
theorem m1F_succ (k : Nat) : putF (m1F k) k (-1) = m1F (k + 1) := by
  funext x
  unfold putF m1F
  by_cases h : x = k
  · subst h; simp
  · rw [if_neg h]
    by_cases g : x < k
    · rw [if_pos g, if_pos (by omega)]
    · rw [if_neg g, if_neg (by omega)]

set_option maxRecDepth 100000 in
set_option maxHeartbeats 8000000 in
theorem firsts_is (q : Option Addr) (n c : Nat) (l : Nat → Int) (width : Int) (hn : n ≤ 1000) (w : World) (hl : rdL w q n l) : Calls Try.prog 12 #[.slice q n c, .int .i64 width] w (frsPost n l width w) := by
  obtain ⟨K, hK⟩ : ∃ K : Nat, (min width 259).toNat = K := ⟨_, rfl⟩
  have hK1 : K ≤ 259 := by omega
  obtain ⟨mx, hmx⟩ : ∃ mx : Int, (if width < 0 then 0 else width) = mx := ⟨_, rfl⟩
  have hmK : (if (259 : Int) < mx then 259 else mx) = (K : Int) := by
    split at hmx <;> split <;> omega
  have HMx := Lib.hid hmx
  have HMK := Lib.hid hmK
  unfold frsPost
  rw [hK]
  have HL := Lib.hid hl
  have n0 : (0 : Int) ≤ (n : Int) := by omega
  have k0 : (0 : Int) ≤ (K : Int) := by omega
  have k1 : (K : Int) ≤ 259 := by omega
  clear hmx hmK hK hl
  go_enter Try.func12, Try.ntmps12
  go_wp2_with (first | (refine wpList_plain rfl fun _ hK => wp_max10 _ _ rfl width 0 mx rfl rfl HMx.out (hK _ _ ?_)) | (refine wpList_plain rfl fun _ hK => wp_min9 _ _ rfl mx 259 (K : Int) rfl rfl HMK.out (hK _ _ ?_)) | (refine make_ints rfl _ _ rfl w.heap.size K rfl rfl (by omega) (Nat.le_refl _) ?_))
  intro w1 ho hb
  obtain ⟨g, hg⟩ : ∃ g, w.heap.size = g := ⟨_, rfl⟩
  rw [hg] at ho hb ⊢
  have hgl := ho.lt
  have HO0 : Hid (ipR w1 g g K (m1F 0)) := Lib.hid (ho.same fun j _ => by simp [m1F])
  have HB0 := Lib.hid hb
  have HG := Lib.hid hg
  clear ho hb hg
  go_wp2_with fail
  go_loopw [15] (fun iv wr => ∃ i : Nat, i ≤ K ∧ iv = .int .i64 i ∧ Hid (ipR wr g g K (m1F i)) ∧ Hid (Below g w wr)) (fun iv _ => K - (intOf iv).toNat)
  case atStart => exact ⟨0, Nat.zero_le _, rfl, HO0, HB0⟩
  case round =>
    clear HO0 HB0
    obtain ⟨i, hi, rfl, HO, HB⟩ := hrel
    by_cases hlti : i < K
    · have i0 : (0 : Int) ≤ (i : Int) := by omega
      have i1 : (i : Int) < (K : Int) := by omega
      have f0 := HO.out.free i
      have c0 := HO.out.cell i hlti
      have HO2 : Hid (ipR (wr.setCell ⟨g, i, none⟩ (.int .i64 (-1))) g g K (m1F (i + 1))) := Lib.hid (by have := HO.out.put i (-1); rw [m1F_succ] at this; exact this)
      have HB2 : Hid (Below g w (wr.setCell ⟨g, i, none⟩ (.int .i64 (-1)))) := Lib.hid (HB.out.setCell (p := ⟨g, i, none⟩) (Nat.le_refl _) _)
      go_wp2_with fail
      go_roundw
      case rel => exact ⟨i + 1, by omega, by go_num, HO2, HB2⟩
      case measure => simp [intOf]; omega
    · obtain rfl : i = K := by omega
      have HO0 : Hid (ipR wr g g i (fun c => fsA l 0 (c : Nat))) := Lib.hid (HO.out.same fun j hj => by simp [m1F, hj, fsA_zero])
      have HB0 := HB
      clear HO HB
      go_wp2_with fail
      obtain ⟨w2, hw2⟩ : ∃ w2, wr = w2 := ⟨_, rfl⟩
      subst hw2
      go_loopw [24] (fun jv wr => ∃ j : Nat, j ≤ n ∧ jv = .int .i64 j ∧ Hid (ipR wr g g i (fun c => fsA l j (c : Nat))) ∧ Hid (Below g w wr)) (fun jv _ => n - (intOf jv).toNat)
      case atStart => exact ⟨0, Nat.zero_le _, rfl, HO0, HB0⟩
      case round =>
        clear HO0 HB0
        obtain ⟨j, hj, rfl, HO, HB⟩ := hrel
        by_cases hltj : j < n
        · have j0 : (0 : Int) ≤ (j : Int) := by omega
          have j1 : (j : Int) < (n : Int) := by omega
          obtain ⟨lb, lo, rfl, hlb, hlc⟩ := (HL.out.below (HG.out.symm ▸ HB.out)) j hltj
          obtain ⟨x, hx⟩ : ∃ x, l j = x := ⟨_, rfl⟩
          have HX := Lib.hid hx
          rw [hx] at hlc
          clear hx
          by_cases h0 : 0 ≤ x
          · obtain ⟨a, rfl⟩ : ∃ a : Nat, x = a := ⟨x.toNat, by omega⟩
            have d0 : decide ((0 : Int) ≤ (a : Int)) = true := decide_eq_true h0
            by_cases h1 : a < i
            · have d1 : decide ((a : Int) < (i : Int)) = true := decide_eq_true (by omega)
              have d1' : (a : Int) < (i : Int) := by omega
              have f0 := HO.out.free a
              have g0 := HO.out.cell a h1
              obtain ⟨u, hu⟩ : ∃ u, fsA l j (a : Int) = u := ⟨_, rfl⟩
              rw [hu] at g0
              cases hm : (u == (-1 : Int))
              · have hm' : ¬ u = (-1 : Int) := by simpa using hm
                have HO2 : Hid (ipR wr g g i (fun c => fsA l (j + 1) (c : Nat))) := Lib.hid (HO.out.same fun c _ => fsA_keep fun a' e1 e2 => by
                  subst e2
                  have : a' = a := by have := HX.out; omega
                  subst this
                  rw [hu]; exact hm')
                have HM := Lib.hid hm
                clear hu hm' HO
                go_wp2_with fail
                go_roundw
                case rel => exact ⟨j + 1, by omega, by go_num, HO2, HB⟩
                case measure => simp [intOf]; omega
              · have hm' : u = (-1 : Int) := by simpa using hm
                have HO2 : Hid (ipR (wr.setCell ⟨g, a, none⟩ (.int .i64 (j : Int))) g g i (fun c => fsA l (j + 1) (c : Nat))) := Lib.hid (by
                  have := HO.out.put a (j : Int)
                  rw [fsA_put HX.out (hu.trans hm')] at this; exact this)
                have HB2 : Hid (Below g w (wr.setCell ⟨g, a, none⟩ (.int .i64 (j : Int)))) := Lib.hid (HB.out.setCell (p := ⟨g, a, none⟩) (Nat.le_refl _) _)
                subst hm'
                clear hu HO
                go_wp2_with fail
                go_roundw
                case rel => exact ⟨j + 1, by omega, by go_num, HO2, HB2⟩
                case measure => simp [intOf]; omega
            · have d1 : decide ((a : Int) < (i : Int)) = false := decide_eq_false (by omega)
              have HO2 : Hid (ipR wr g g i (fun c => fsA l (j + 1) (c : Nat))) := Lib.hid (HO.out.same fun c hc => fsA_keep fun a' e1 e2 => by
                have := HX.out; omega)
              clear HO
              go_wp2_with fail
              go_roundw
              case rel => exact ⟨j + 1, by omega, by go_num, HO2, HB⟩
              case measure => simp [intOf]; omega
          · have d0 : decide ((0 : Int) ≤ x) = false := decide_eq_false h0
            have HO2 : Hid (ipR wr g g i (fun c => fsA l (j + 1) (c : Nat))) := Lib.hid (HO.out.same fun c hc => fsA_keep fun a' e1 e2 => by
              have := HX.out; omega)
            clear HO
            go_wp2_with fail
            go_roundw
            case rel => exact ⟨j + 1, by omega, by go_num, HO2, HB⟩
            case measure => simp [intOf]; omega
        · obtain rfl : j = n := by omega
          have HR := Lib.hid HO.out.rd
          go_wp2_with fail
          go_returns
          exact ⟨_, _, _, rfl, HR.out, fun _ _ => rfl, HG.out.symm ▸ HB.out⟩
theorem frs_any : FrsC := fun q n c l width w hn hl => firsts_is q n c l width hn w hl
end Go.Proofs.Ythmkjdpmpcjinaa
