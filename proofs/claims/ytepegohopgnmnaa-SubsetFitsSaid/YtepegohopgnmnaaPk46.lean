/-
  The walks of the tenth reference's Join and Firsts.
-/
import Derived.Test.YtepegohopgnmnaaPk15
namespace Go.Proofs.Ytepegohopgnmnaa
open Go.RowKit

/-- The least place from x on (of those behind x) that is like i; i, if there is none. -/
def lsA (R : Nat → Nat → Bool) (i : Nat) (x : Int) (at' : Nat) : Prop := at' ≤ i ∧ (at' < i → x < at' ∧ R at' i = true) ∧ ∀ j : Nat, x < j → j < at' → R j i = false
theorem lsA_end {R : Nat → Nat → Bool} {i at' : Nat} (h : lsA R i (-1) at') : hdA R i = at' := by
  obtain ⟨h1, h2, h3⟩ := h
  rcases Nat.lt_or_ge at' i with g | g
  · exact hdA_is g (h2 g).2 fun j hj => h3 j (by omega) hj
  · have e : at' = i := by omega
    subst e
    exact hdA_self fun j hj => h3 j (by omega) hj
theorem lsA_start (R : Nat → Nat → Bool) (i : Nat) : lsA R i ((i : Int) - 1) i := ⟨Nat.le_refl _, fun h => absurd h (Nat.lt_irrefl _), fun _ _ _ => by omega⟩
theorem lsA_in {R : Nat → Nat → Bool} {i k at' : Nat} (_h : lsA R i k at') (hk : k < i) (hR : R k i = true) : lsA R i ((k : Int) - 1) k := ⟨by omega, fun _ => ⟨by omega, hR⟩, fun j h1 h2 => by omega⟩
theorem lsA_out {R : Nat → Nat → Bool} {i k at' : Nat} (h : lsA R i k at') (hR : R k i = false) : lsA R i ((k : Int) - 1) at' := by
  obtain ⟨h1, h2, h3⟩ := h
  refine ⟨h1, fun g => ⟨by have := (h2 g).1; omega, (h2 g).2⟩, fun j g1 g2 => ?_⟩
  by_cases e : j = k
  · subst e; exact hR
  · exact h3 j (by omega) g2
theorem rdL.two {w : World} {p : Option Addr} {n : Nat} {l : Nat → Int} (h : rdL w p n l) {i k : Nat} (hi : i < n) (hk : k < n) : ∃ b o, p = some ⟨b, o, none⟩ ∧ b < w.heap.size ∧ w.cell? ⟨b, o + i, none⟩ = some (.int .i64 (l i)) ∧ w.cell? ⟨b, o + k, none⟩ = some (.int .i64 (l k)) := by
  obtain ⟨b, o, rfl, h1, h2⟩ := h i hi
  obtain ⟨b', o', e, _, h3⟩ := h k hk
  cases e
  exact ⟨b, o, rfl, h1, h2, h3⟩
/-- The least place behind x that has c; -1, if there is none. -/
def lsF (l : Nat → Int) (n : Nat) (c : Int) (x : Int) (a : Int) : Prop := (a = -1 ∧ ∀ j : Nat, x < j → j < n → l j ≠ c) ∨ ∃ k : Nat, a = (k : Int) ∧ x < k ∧ k < n ∧ l k = c ∧ ∀ j : Nat, x < j → j < k → l j ≠ c
theorem lsF_start (l : Nat → Int) (n : Nat) (c : Int) : lsF l n c ((n : Int) - 1) (-1) := .inl ⟨rfl, fun j h1 h2 => by omega⟩
theorem lsF_in {l : Nat → Int} {n k : Nat} {c : Int} (hk : k < n) (h : l k = c) : lsF l n c ((k : Int) - 1) (k : Int) := .inr ⟨k, rfl, by omega, hk, h, fun j h1 h2 => by omega⟩
theorem lsF_out {l : Nat → Int} {n k : Nat} {c a : Int} (h : lsF l n c (k : Int) a) (hn : l k ≠ c) : lsF l n c ((k : Int) - 1) a := by
  rcases h with ⟨h1, h2⟩ | ⟨k', h1, h2, h3, h4, h5⟩
  · refine .inl ⟨h1, fun j g1 g2 => ?_⟩
    by_cases e : j = k
    · subst e; exact hn
    · exact h2 j (by omega) g2
  · refine .inr ⟨k', h1, by omega, h3, h4, fun j g1 g2 => ?_⟩
    by_cases e : j = k
    · subst e; exact hn
    · exact h5 j (by omega) g2
theorem lsF_end {l : Nat → Int} {n : Nat} {c a : Int} (h : lsF l n c (-1) a) : fsA l n c = a := by
  unfold fsA
  rcases h with ⟨rfl, h2⟩ | ⟨k, rfl, _, h3, h4, h5⟩
  · rw [find_range_none fun j hj => by simpa using h2 j (by omega) hj]; rfl
  · rw [find_range h3 (by simpa using h4) fun j hj => by simpa using h5 j (by omega) hj]; rfl
set_option maxRecDepth 100000 in
set_option maxHeartbeats 8000000 in
theorem firsts10 (q : Option Addr) (n c : Nat) (l : Nat → Int) (width : Int) (hn : n ≤ 1000) (w : World) (hl : rdL w q n l) :
    Calls Try.prog 26 #[.slice q n c, .int .i64 width] w fun e w' => ∃ q2 c2, e = .returned (.slice q2 (min width 259).toNat c2) ∧ rdL w' q2 (min width 259).toNat (fun j => fsA l n (j : Nat)) ∧ Below w.heap.size w w' := by
  obtain ⟨W, hW⟩ : ∃ W, (min width 259).toNat = W := ⟨_, rfl⟩
  rw [hW]
  have hW1 : W ≤ 259 := by omega
  have hW2 : ∀ k : Nat, k < W → (k : Int) < width ∧ (k : Int) < 259 := fun k hk => by omega
  have hW3 : (decide ((W : Int) < width) && decide ((W : Int) < 259)) = false := by
    rw [← Bool.decide_and]
    exact decide_eq_false (by omega)
  have HW2 := Lib.hid hW2; have HW3 := Lib.hid hW3
  have HL := Lib.hid hl
  have n0 : (0 : Int) ≤ (n : Int) := by omega
  have n1 : (n : Int) ≤ 1000 := by omega
  have HO0 := Lib.hid (spF_zero w w.heap.size (fun j => fsA l n (j : Nat)))
  clear hl hW hW2 hW3
  go_enter Try.func26, Try.ntmps26
  go_wp2_with fail
  go_loopw [5, 6] (fun tv iv wr => ∃ i : Nat, i ≤ W ∧ iv = .int .i64 i ∧ Hid (spF wr w.heap.size tv (fun j => fsA l n (j : Nat)) i) ∧ Hid (Below w.heap.size w wr)) (fun _ iv _ => W - (intOf iv).toNat)
  case atStart => exact ⟨0, Nat.zero_le _, rfl, HO0, Lib.hid (Below.refl _ _)⟩
  case round =>
    clear HO0
    obtain ⟨i, hi, rfl, HO, HB⟩ := hrel
    by_cases hlti : i < W
    · have i0 : (0 : Int) ≤ (i : Int) := by omega
      obtain ⟨i1, i2⟩ := HW2.out i hlti
      have HLS0 := Lib.hid (lsF_start l n (i : Int))
      go_wp2_with fail
      go_loopw [7, 8] (fun av kv wx => ∃ (x a : Int), kv = .int .i64 x ∧ -1 ≤ x ∧ x < n ∧ av = .int .i64 a ∧ Hid (lsF l n (i : Int) x a) ∧ Hid (Below w.heap.size w wx) ∧ Hid (spF wx w.heap.size u5 (fun j => fsA l n (j : Nat)) i)) (fun _ kv _ => (intOf kv + 1).toNat)
      case atStart => exact ⟨_, _, rfl, by omega, by omega, rfl, HLS0, HB, HO⟩
      case round =>
        clear HLS0 HO HB
        obtain ⟨x, a, rfl, hx1, hx2, rfl, HLS, HBx, HOx⟩ := hrel
        by_cases hx0 : 0 ≤ x
        · obtain ⟨k, rfl⟩ : ∃ k : Nat, x = k := ⟨x.toNat, by omega⟩
          have hkn : k < n := by omega
          obtain ⟨lb, lo, rfl, hlb, hlc⟩ := (HL.out.below HBx.out) k hkn
          obtain ⟨u, hu⟩ : ∃ u, l k = u := ⟨_, rfl⟩
          have HU := Lib.hid hu
          rw [hu] at hlc
          clear hu
          cases e1 : (u == (i : Int))
          · have HS := Lib.hid (lsF_out HLS.out (by rw [HU.out]; simpa using e1))
            go_wp2_with fail
            go_roundw
            case rel => exact ⟨_, _, by go_num, by omega, by omega, rfl, HS, HBx, HOx⟩
            case measure => first | (simp [intOf]; done) | (simp [intOf]; omega)
          · have HS := Lib.hid (lsF_in hkn (show l k = (i : Int) by rw [HU.out]; simpa using e1))
            go_wp2_with fail
            go_roundw
            case rel => exact ⟨_, _, by go_num, by omega, by omega, rfl, HS, HBx, HOx⟩
            case measure => first | (simp [intOf]; done) | (simp [intOf]; omega)
        · obtain rfl : x = -1 := by omega
          have HCL := Lib.hid (lsF_end HLS.out)
          have HS := HBx.out.size
          have HLC : Hid ((wr.alloc (.cells #[.int .i64 a] 3)).cell? ⟨wr.heap.size, 0, none⟩ = some (.int .i64 a)) := Lib.hid (by simp)
          have HLZ : Hid (w.heap.size ≤ (wr.alloc (.cells #[.int .i64 a] 3)).heap.size) := Lib.hid (by rw [World.size_alloc]; omega)
          have HO6 := Lib.hid (HOx.out.alloc (.cells #[.int .i64 a] 3))
          have HW6 := Lib.hid (HBx.out.alloc HS (.cells #[.int .i64 a] 3))
          clear HOx HBx HS HLS
          go_wp2_with (at_builtin; refine append_fn rfl _ _ rfl w.heap.size _ (fun j => fsA l n (j : Nat)) i rfl HO6.out wr.heap.size a HCL.out rfl HLC.out (by omega) HLZ.out ?_; intro v9 w9 h9 hg9; have HO9 := Lib.hid h9; have HW9 := Lib.hid (HW6.out.trans (spF.grow (Nat.le_refl _) HLZ.out HO6.out hg9)); clear h9 hg9)
          go_roundw
          case rel => exact ⟨i + 1, by omega, by go_num, HO9, HW9⟩
          case measure => simp [intOf]; omega
    · obtain rfl : i = W := by omega
      obtain ⟨tp, tc, rfl⟩ := spF_of HO.out
      have HF := Lib.hid HO.out.rd
      clear HO
      cases d1 : decide ((i : Int) < width)
      · go_wp2_with fail
        go_returns
        exact ⟨_, _, rfl, HF.out, HB.out⟩
      · have d2 : decide ((i : Int) < 259) = false := by have := HW3.out; rw [d1] at this; simpa using this
        go_wp2_with fail
        go_returns
        exact ⟨_, _, rfl, HF.out, HB.out⟩
end Go.Proofs.Ytepegohopgnmnaa
