/-
  The walk of lex's item. Items and brackets: what begins at a place depends on its own bytes, and the one behind. The walk of lex's bracket.
-/
import Derived.Test.YtgjpmfdiidkdnaaDoorPk17
import Derived.Test.YtgjpmfdiidkdnaaDoorPk10
import Derived.Test.YtgjpmfdiidkdnaaDoorPk12
namespace Go.Proofs.YtgjpmfdiidkdnaaDoor
open Go.RowKit

/-- Does a run begin here? -/
def itHyp (p : ByteArray) (i : Nat) : Bool := decide (0 ≤ oneF (sinF p i) (sinNm p i)) && (decide (sinN p i + 1 < p.size) && (gb p (sinN p i) == 45 && gb p (sinN p i + 1) != 93))
def itLo (p : ByteArray) (i : Nat) : Int := oneF (sinF p i) (sinNm p i)
def itHi (p : ByteArray) (i : Nat) : Int := oneF (sinF p (sinN p i + 1)) (sinNm p (sinN p i + 1))
/-- An item of a bracket: can it be made, its bytes, where it ends. -/
def itOk (p : ByteArray) (i : Nat) : Bool := sinOk p i && (!itHyp p i || (sinOk p (sinN p i + 1) && decide (itLo p i ≤ itHi p i)))
def itF (p : ByteArray) (i : Nat) : Nat → Bool := if itHyp p i = true then fun k => decide ((itLo p i).toNat ≤ k) && decide (k ≤ (itHi p i).toNat) else sinF p i
def itN (p : ByteArray) (i : Nat) : Nat := if itHyp p i = true then sinN p (sinN p i + 1) else sinN p i

theorem names_many : ∀ l ∈ nmL, (bl (isB l) 256).length ≠ 1 := by decide +kernel
theorem bl_none : (bl (fun _ => false) 256).length = 0 := by decide +kernel
theorem bl_congr {f g : Nat → Bool} (h : ∀ k, k < 256 → f k = g k) : bl f 256 = bl g 256 := List.filter_congr fun x hx => h x (by simpa using hx)
theorem onO_name (l : List UInt8) : onO (isB l) = false := by
  unfold onO
  by_cases h : l ∈ nmL
  · simpa using names_many l h
  · rw [bl_congr (f := isB l) (g := fun _ => false) (fun k _ => isB_none l h k), bl_none]; rfl
theorem onO_none : onO (fun _ => false) = false := by unfold onO; rw [bl_none]; rfl
theorem sin_name {p : ByteArray} {i : Nat} (h : sinNm p i = true) : onO (sinF p i) = false := by
  unfold sinNm at h
  unfold sinF
  by_cases h0 : gb p i = 92
  · rw [if_pos h0] at h; cases h
  · by_cases h1 : gb p i = 91 ∧ gb p (i + 1) = 58
    · rw [if_neg h0, if_pos h1] at h ⊢
      cases hn : nmEnd p (i + 2) with
      | none => rw [hn] at h; cases h
      | some j => exact onO_name _
    · rw [if_neg h0, if_neg h1] at h; cases h
theorem one_on (p : ByteArray) (i : Nat) : decide (0 ≤ oneF (sinF p i) (sinNm p i)) = onO (sinF p i) ∧ (onO (sinF p i) = true → oneF (sinF p i) (sinNm p i) = (onV (sinF p i) : Nat)) := by
  cases hn : sinNm p i
  · unfold oneF onV onO
    rw [if_neg (by decide)]
    by_cases h : (bl (sinF p i) 256).length = 1
    · simp [h]
    · simp [h]
  · have := sin_name hn
    rw [this]
    refine ⟨by unfold oneF; rfl, fun h => by cases h⟩
theorem onV_lt (f : Nat → Bool) : onV f < 256 := by
  unfold onV
  split
  · have := bl_bytes f 256
    cases h : bl f 256 with
    | nil => simp
    | cons x r => rw [h] at this; exact this x (by simp)
  · omega
theorem sin_le {p : ByteArray} {i : Nat} (hi : i < p.size) (h : sinOk p i = true) : sinN p i ≤ p.size := by
  unfold sinOk at h
  unfold sinN
  by_cases h0 : gb p i = 92
  · rw [if_pos h0] at h ⊢
    unfold behOk at h
    unfold behN
    split at h
    · cases h
    · rename_i h1
      rw [if_neg h1]
      split at h
      · rename_i h2; rw [if_pos h2]; omega
      · rename_i h2
        rw [if_neg h2]
        split at h
        · cases h
        · rename_i h3; rw [if_neg h3]; omega
  · rw [if_neg h0] at h ⊢
    by_cases h1 : gb p i = 91 ∧ gb p (i + 1) = 58
    · rw [if_pos h1] at h ⊢
      cases hn : nmEnd p (i + 2) with
      | none => rw [hn] at h; cases h
      | some j => have := hitB_in (nmEnd_spec hn).2.1; show j + 2 ≤ p.size; omega
    · rw [if_neg h1]; omega
def iF (p : ByteArray) : Nat → Bool := if itOk p 0 = true then itF p 0 else fun _ => false
def iN (p : ByteArray) : Nat := if itOk p 0 = true then itN p 0 else 0
theorem pa_on (p : ByteArray) : onO (paF p) = (sinOk p 0 && onO (sinF p 0)) := by
  unfold paF
  cases sinOk p 0
  · exact onO_none
  · rfl
/-- Without a run. -/
theorem i_plain (p : ByteArray) (h : onO (paF p) = false ∨ p.size < paN p + 2 ∨ gb p (paN p) ≠ 45 ∨ gb p (paN p + 1) = 93) : iF p = paF p ∧ iN p = paN p := by
  have hh : sinOk p 0 = true → itHyp p 0 = false := fun hs => by
    have e1 : paF p = sinF p 0 := by unfold paF; rw [if_pos hs]
    have e2 : paN p = sinN p 0 := by unfold paN; rw [if_pos hs]
    rw [e1, e2] at h
    unfold itHyp
    rw [(one_on p 0).1]
    rcases h with h | h | h | h
    · rw [h]; rfl
    · have : decide (sinN p 0 + 1 < p.size) = false := decide_eq_false (by omega)
      rw [this]; simp
    · have : (gb p (sinN p 0) == 45) = false := beq_eq_false_iff_ne.2 h
      rw [this]; simp
    · rw [h]; simp
  unfold iF iN paF paN itOk itF itN
  cases hs : sinOk p 0
  · exact ⟨rfl, rfl⟩
  · rw [hh hs]; exact ⟨rfl, rfl⟩
/-- With a run. -/
theorem i_run (p : ByteArray) (h1 : onO (paF p) = true) (h2 : paN p + 2 ≤ p.size) (h3 : gb p (paN p) = 45) (h4 : gb p (paN p + 1) ≠ 93) :
    (onO (paF (p.extract (paN p + 1) p.size)) = true ∧ onV (paF p) ≤ onV (paF (p.extract (paN p + 1) p.size)) →
      iF p = (fun k => decide (onV (paF p) ≤ k) && decide (k ≤ onV (paF (p.extract (paN p + 1) p.size)))) ∧ iN p = paN p + 1 + paN (p.extract (paN p + 1) p.size)) ∧
    (¬ (onO (paF (p.extract (paN p + 1) p.size)) = true ∧ onV (paF p) ≤ onV (paF (p.extract (paN p + 1) p.size))) → iF p = (fun _ => false) ∧ iN p = 0) := by
  rw [pa_on] at h1
  have hs : sinOk p 0 = true := by cases hs : sinOk p 0 <;> rw [hs] at h1 <;> first | rfl | cases h1
  rw [hs, Bool.true_and] at h1
  have e1 : paF p = sinF p 0 := by unfold paF; rw [if_pos hs]
  have e2 : paN p = sinN p 0 := by unfold paN; rw [if_pos hs]
  rw [e2] at h2 h3 h4
  rw [e1, e2]
  have hH : itHyp p 0 = true := by
    unfold itHyp
    rw [(one_on p 0).1, h1, decide_eq_true (by omega), h3]
    simpa using h4
  have hlo : itLo p 0 = (onV (sinF p 0) : Nat) := (one_on p 0).2 h1
  obtain ⟨q1, q2⟩ := pa_tail p (sinN p 0 + 1)
  rw [q1, q2]
  unfold iF iN itOk itF itN
  rw [hs, hH]
  simp only [Bool.true_and, Bool.not_true, Bool.false_or, if_true]
  cases hs2 : sinOk p (sinN p 0 + 1)
  · simp only [Bool.false_and, Bool.false_eq_true, if_false]
    exact ⟨fun h => (by have h0 := h.1; rw [onO_none] at h0; cases h0), fun _ => ⟨trivial, trivial⟩⟩
  · simp only [Bool.true_and, if_true]
    obtain ⟨o1, o2⟩ := one_on p (sinN p 0 + 1)
    have hge := (sin_tail p (sinN p 0 + 1)).2 hs2
    refine ⟨fun h => ?_, fun h => ?_⟩
    · have hhi : itHi p 0 = (onV (sinF p (sinN p 0 + 1)) : Nat) := o2 h.1
      rw [hlo, hhi, decide_eq_true (by omega), if_pos rfl, if_pos rfl, Int.toNat_natCast, Int.toNat_natCast]
      exact ⟨rfl, by omega⟩
    · have hf : decide (itLo p 0 ≤ itHi p 0) = false := by
        apply decide_eq_false
        rw [hlo]
        cases ho : onO (sinF p (sinN p 0 + 1))
        · have : ¬ 0 ≤ itHi p 0 := fun h0 => by
            have := o1.symm.trans (decide_eq_true h0)
            rw [ho] at this; cases this
          omega
        · have hhi : itHi p 0 = (onV (sinF p (sinN p 0 + 1)) : Nat) := o2 ho
          rw [hhi]
          intro h'
          exact h ⟨ho, by omega⟩
      rw [hf]
      exact ⟨rfl, rfl⟩
theorem pa_le (p : ByteArray) (h1 : 1 ≤ p.size) : paN p ≤ p.size := by
  unfold paN
  split
  · rename_i h; exact sin_le (by omega) h
  · omega
theorem lonly_lit (f : Nat → Bool) (w : World) :
    Calls Tryd.prog 77 #[svr f] w fun e w' => e = .returned (.tuple #[.int .u8 (onV f : Nat), .bool (onO f)]) ∧ Below w.heap.size w w' := lonly_any f w

set_option maxRecDepth 100000 in
set_option maxHeartbeats 1000000 in
theorem litem_plain (p : ByteArray) (hp : p.size ≤ 200) (h1 : 1 ≤ p.size) (h : onO (paF p) = false ∨ (onO (paF p) = true ∧ p.size < paN p + 2) ∨ (onO (paF p) = true ∧ paN p + 2 ≤ p.size ∧ gb p (paN p) ≠ 45) ∨ (onO (paF p) = true ∧ paN p + 2 ≤ p.size ∧ gb p (paN p) = 45 ∧ gb p (paN p + 1) = 93)) (w : World) (hT : Okw w) :
    Calls Tryd.prog 69 #[.string p] w fun e w' => e = .returned (.tuple #[sv (iF p), .int .i64 (iN p : Nat)]) ∧ Below w.heap.size w w' := by
  obtain ⟨hF, hN⟩ := i_plain p (by rcases h with h | ⟨_, h⟩ | ⟨_, _, h⟩ | ⟨_, _, _, h⟩; exact .inl h; exact .inr (.inl h); exact .inr (.inr (.inl h)); exact .inr (.inr (.inr h)))
  have hq := lpart_any p hp h1
  obtain ⟨F, eF⟩ : ∃ F, paF p = F := ⟨_, rfl⟩
  obtain ⟨n, eN⟩ : ∃ n, paN p = n := ⟨_, rfl⟩
  have hn := pa_le p h1
  rw [eF, eN] at hq
  rw [eN] at hn
  have hon := lonly_lit F
  have hlt := onV_lt F
  obtain ⟨lo, eLo⟩ : ∃ lo, onV F = lo := ⟨_, rfl⟩
  obtain ⟨on, eOn⟩ : ∃ on, onO F = on := ⟨_, rfl⟩
  rw [eLo, eOn] at hon
  rw [eLo] at hlt
  rw [eF, eOn, eN] at h
  rw [eF] at hF
  rw [eN] at hN
  have HF := Lib.hid hF; have HN := Lib.hid hN; have HQ := Lib.hid hq; have HON := Lib.hid hon
  have u0 : (0 : Int) ≤ (n : Int) := by omega
  have cs : on = false ∨ (on = true ∧ decide ((p.size : Int) < (n : Int) + 2) = true) ∨ (on = true ∧ decide ((p.size : Int) < (n : Int) + 2) = false ∧ (∃ hj : n < p.size, ∃ c : Nat, (p[n]'hj).toNat = c ∧ ((c : Int) != 45) = true)) ∨
      (on = true ∧ decide ((p.size : Int) < (n : Int) + 2) = false ∧ (∃ hj : n < p.size, (p[n]'hj).toNat = 45) ∧ ∃ hj : n + 1 < p.size, (p[n + 1]'hj).toNat = 93) := by
    rcases h with h | ⟨h, v1⟩ | ⟨h, v1, v2⟩ | ⟨h, v1, v2, v3⟩
    · exact .inl h
    · exact .inr (.inl ⟨h, decide_eq_true (by omega)⟩)
    · exact .inr (.inr (.inl ⟨h, decide_eq_false (by omega), by omega, _, gb_in (by omega), by simp; omega⟩))
    · exact .inr (.inr (.inr ⟨h, decide_eq_false (by omega), ⟨by omega, gb_data1 (by omega) v2⟩, by omega, gb_data1 (by omega) v3⟩))
  clear hF hN hq hon eF eN eLo eOn h
  have E0 := Lib.hid (isSet.newNone w)
  have HW : Hid (Below w.heap.size w (w.alloc (.cells #[.int .u64 0, .int .u64 0, .int .u64 0, .int .u64 0] 32))) := Lib.hid ((Below.refl _ _).alloc (Nat.le_refl _) _)
  have HT := Lib.hid (hT.alloc (.cells #[.int .u64 0, .int .u64 0, .int .u64 0, .int .u64 0] 32))
  clear hT
  rcases cs with rfl | ⟨rfl, t0⟩ | ⟨rfl, t0, hj, c, g, t1⟩ | ⟨rfl, t0, ⟨hj, g⟩, hj', g'⟩
  · go_enter Tryd.func69, Tryd.ntmps69
    go_wp2_with fail
    refine (HQ.out _ HT.out).mono ?_
    rintro e w1 ⟨rfl, hb⟩
    have l9 : w.heap.size < w1.heap.size := Nat.lt_of_lt_of_le E0.out.lt hb.size
    have e0 := (E0.out.below hb E0.out.lt).alloc (.cells #[.int .u64 (wd (F) 0 : Int), .int .u64 (wd (F) 1 : Int), .int .u64 (wd (F) 2 : Int), .int .u64 (wd (F) 3 : Int)] 32)
    have hW := (HW.out.trans (hb.mono HW.out.size)).alloc (Nat.le_trans HW.out.size hb.size) (.cells #[.int .u64 (wd (F) 0 : Int), .int .u64 (wd (F) 1 : Int), .int .u64 (wd (F) 2 : Int), .int .u64 (wd (F) 3 : Int)] 32)
    have hT := (HT.out.to hb).alloc (.cells #[.int .u64 (wd (F) 0 : Int), .int .u64 (wd (F) 1 : Int), .int .u64 (wd (F) 2 : Int), .int .u64 (wd (F) 3 : Int)] 32)
    have s0 := isSet.new w1 F
    clear hb E0 HW HT HQ
    have HW := Lib.hid hW; have E0 := Lib.hid e0; have HT := Lib.hid hT; have S0 := Lib.hid s0
    clear hW e0 hT s0
    go_wp2_with fail
    refine (HON.out _).mono ?_
    rintro e w2 ⟨rfl, hb⟩
    have hW := HW.out.trans (hb.mono HW.out.size)
    have e0 := E0.out.below hb E0.out.lt
    have hT := HT.out.to hb
    have s0 := S0.out.below hb S0.out.lt
    have lA : w1.heap.size < w2.heap.size := s0.lt
    clear hb E0 HW HT S0 HON
    obtain ⟨s0, s1, s2, s3⟩ := s0.cells
    clear hT
    obtain ⟨r0, r1, r2, r3⟩ := e0.free
    obtain ⟨q0, q1, q2, q3⟩ := e0.cells
    have HR := Lib.hid (below_set4 (c := w.heap.size) hW (Nat.le_refl _) (.int .u64 (wd (F) 0 : Int)) (.int .u64 (wd (F) 1 : Int)) (.int .u64 (wd (F) 2 : Int)) (.int .u64 (wd (F) 3 : Int)))
    have Z := Lib.hid (e0.stored (F)).cells
    clear e0 hW
    go_wp2
    refine bodyPost_ret (v := .tuple #[sv (F), .int .i64 (n)]) (by simp [results, Tryd.results69, go_sem, Z.out]) rfl ⟨by rw [HF.out, HN.out], HR.out⟩
  · go_enter Tryd.func69, Tryd.ntmps69
    go_wp2_with fail
    refine (HQ.out _ HT.out).mono ?_
    rintro e w1 ⟨rfl, hb⟩
    have l9 : w.heap.size < w1.heap.size := Nat.lt_of_lt_of_le E0.out.lt hb.size
    have e0 := (E0.out.below hb E0.out.lt).alloc (.cells #[.int .u64 (wd (F) 0 : Int), .int .u64 (wd (F) 1 : Int), .int .u64 (wd (F) 2 : Int), .int .u64 (wd (F) 3 : Int)] 32)
    have hW := (HW.out.trans (hb.mono HW.out.size)).alloc (Nat.le_trans HW.out.size hb.size) (.cells #[.int .u64 (wd (F) 0 : Int), .int .u64 (wd (F) 1 : Int), .int .u64 (wd (F) 2 : Int), .int .u64 (wd (F) 3 : Int)] 32)
    have hT := (HT.out.to hb).alloc (.cells #[.int .u64 (wd (F) 0 : Int), .int .u64 (wd (F) 1 : Int), .int .u64 (wd (F) 2 : Int), .int .u64 (wd (F) 3 : Int)] 32)
    have s0 := isSet.new w1 F
    clear hb E0 HW HT HQ
    have HW := Lib.hid hW; have E0 := Lib.hid e0; have HT := Lib.hid hT; have S0 := Lib.hid s0
    clear hW e0 hT s0
    go_wp2_with fail
    refine (HON.out _).mono ?_
    rintro e w2 ⟨rfl, hb⟩
    have hW := HW.out.trans (hb.mono HW.out.size)
    have e0 := E0.out.below hb E0.out.lt
    have hT := HT.out.to hb
    have s0 := S0.out.below hb S0.out.lt
    have lA : w1.heap.size < w2.heap.size := s0.lt
    clear hb E0 HW HT S0 HON
    obtain ⟨s0, s1, s2, s3⟩ := s0.cells
    clear hT
    obtain ⟨r0, r1, r2, r3⟩ := e0.free
    obtain ⟨q0, q1, q2, q3⟩ := e0.cells
    have HR := Lib.hid (below_set4 (c := w.heap.size) hW (Nat.le_refl _) (.int .u64 (wd (F) 0 : Int)) (.int .u64 (wd (F) 1 : Int)) (.int .u64 (wd (F) 2 : Int)) (.int .u64 (wd (F) 3 : Int)))
    have Z := Lib.hid (e0.stored (F)).cells
    clear e0 hW
    go_wp2
    refine bodyPost_ret (v := .tuple #[sv (F), .int .i64 (n)]) (by simp [results, Tryd.results69, go_sem, Z.out]) rfl ⟨by rw [HF.out, HN.out], HR.out⟩
  · go_enter Tryd.func69, Tryd.ntmps69
    go_wp2_with fail
    refine (HQ.out _ HT.out).mono ?_
    rintro e w1 ⟨rfl, hb⟩
    have l9 : w.heap.size < w1.heap.size := Nat.lt_of_lt_of_le E0.out.lt hb.size
    have e0 := (E0.out.below hb E0.out.lt).alloc (.cells #[.int .u64 (wd (F) 0 : Int), .int .u64 (wd (F) 1 : Int), .int .u64 (wd (F) 2 : Int), .int .u64 (wd (F) 3 : Int)] 32)
    have hW := (HW.out.trans (hb.mono HW.out.size)).alloc (Nat.le_trans HW.out.size hb.size) (.cells #[.int .u64 (wd (F) 0 : Int), .int .u64 (wd (F) 1 : Int), .int .u64 (wd (F) 2 : Int), .int .u64 (wd (F) 3 : Int)] 32)
    have hT := (HT.out.to hb).alloc (.cells #[.int .u64 (wd (F) 0 : Int), .int .u64 (wd (F) 1 : Int), .int .u64 (wd (F) 2 : Int), .int .u64 (wd (F) 3 : Int)] 32)
    have s0 := isSet.new w1 F
    clear hb E0 HW HT HQ
    have HW := Lib.hid hW; have E0 := Lib.hid e0; have HT := Lib.hid hT; have S0 := Lib.hid s0
    clear hW e0 hT s0
    go_wp2_with fail
    refine (HON.out _).mono ?_
    rintro e w2 ⟨rfl, hb⟩
    have hW := HW.out.trans (hb.mono HW.out.size)
    have e0 := E0.out.below hb E0.out.lt
    have hT := HT.out.to hb
    have s0 := S0.out.below hb S0.out.lt
    have lA : w1.heap.size < w2.heap.size := s0.lt
    clear hb E0 HW HT S0 HON
    obtain ⟨s0, s1, s2, s3⟩ := s0.cells
    clear hT
    obtain ⟨r0, r1, r2, r3⟩ := e0.free
    obtain ⟨q0, q1, q2, q3⟩ := e0.cells
    have HR := Lib.hid (below_set4 (c := w.heap.size) hW (Nat.le_refl _) (.int .u64 (wd (F) 0 : Int)) (.int .u64 (wd (F) 1 : Int)) (.int .u64 (wd (F) 2 : Int)) (.int .u64 (wd (F) 3 : Int)))
    have Z := Lib.hid (e0.stored (F)).cells
    clear e0 hW
    go_wp2
    refine bodyPost_ret (v := .tuple #[sv (F), .int .i64 (n)]) (by simp [results, Tryd.results69, go_sem, Z.out]) rfl ⟨by rw [HF.out, HN.out], HR.out⟩
  · go_enter Tryd.func69, Tryd.ntmps69
    go_wp2_with fail
    refine (HQ.out _ HT.out).mono ?_
    rintro e w1 ⟨rfl, hb⟩
    have l9 : w.heap.size < w1.heap.size := Nat.lt_of_lt_of_le E0.out.lt hb.size
    have e0 := (E0.out.below hb E0.out.lt).alloc (.cells #[.int .u64 (wd (F) 0 : Int), .int .u64 (wd (F) 1 : Int), .int .u64 (wd (F) 2 : Int), .int .u64 (wd (F) 3 : Int)] 32)
    have hW := (HW.out.trans (hb.mono HW.out.size)).alloc (Nat.le_trans HW.out.size hb.size) (.cells #[.int .u64 (wd (F) 0 : Int), .int .u64 (wd (F) 1 : Int), .int .u64 (wd (F) 2 : Int), .int .u64 (wd (F) 3 : Int)] 32)
    have hT := (HT.out.to hb).alloc (.cells #[.int .u64 (wd (F) 0 : Int), .int .u64 (wd (F) 1 : Int), .int .u64 (wd (F) 2 : Int), .int .u64 (wd (F) 3 : Int)] 32)
    have s0 := isSet.new w1 F
    clear hb E0 HW HT HQ
    have HW := Lib.hid hW; have E0 := Lib.hid e0; have HT := Lib.hid hT; have S0 := Lib.hid s0
    clear hW e0 hT s0
    go_wp2_with fail
    refine (HON.out _).mono ?_
    rintro e w2 ⟨rfl, hb⟩
    have hW := HW.out.trans (hb.mono HW.out.size)
    have e0 := E0.out.below hb E0.out.lt
    have hT := HT.out.to hb
    have s0 := S0.out.below hb S0.out.lt
    have lA : w1.heap.size < w2.heap.size := s0.lt
    clear hb E0 HW HT S0 HON
    obtain ⟨s0, s1, s2, s3⟩ := s0.cells
    clear hT
    obtain ⟨r0, r1, r2, r3⟩ := e0.free
    obtain ⟨q0, q1, q2, q3⟩ := e0.cells
    have HR := Lib.hid (below_set4 (c := w.heap.size) hW (Nat.le_refl _) (.int .u64 (wd (F) 0 : Int)) (.int .u64 (wd (F) 1 : Int)) (.int .u64 (wd (F) 2 : Int)) (.int .u64 (wd (F) 3 : Int)))
    have Z := Lib.hid (e0.stored (F)).cells
    clear e0 hW
    go_wp2
    refine bodyPost_ret (v := .tuple #[sv (F), .int .i64 (n)]) (by simp [results, Tryd.results69, go_sem, Z.out]) rfl ⟨by rw [HF.out, HN.out], HR.out⟩

set_option maxRecDepth 100000 in
set_option maxHeartbeats 1000000 in
theorem litem_run (p : ByteArray) (hp : p.size ≤ 200) (h1 : 1 ≤ p.size) (k1 : onO (paF p) = true) (k2 : paN p + 2 ≤ p.size) (k3 : gb p (paN p) = 45) (k4 : gb p (paN p + 1) ≠ 93) (w : World) (hT : Okw w) :
    Calls Tryd.prog 69 #[.string p] w fun e w' => e = .returned (.tuple #[sv (iF p), .int .i64 (iN p : Nat)]) ∧ Below w.heap.size w w' := by
  obtain ⟨hI, hI0⟩ := i_run p k1 k2 k3 k4
  have hq := lpart_any p hp h1
  obtain ⟨F, eF⟩ : ∃ F, paF p = F := ⟨_, rfl⟩
  obtain ⟨n, eN⟩ : ∃ n, paN p = n := ⟨_, rfl⟩
  have hn := pa_le p h1
  rw [eF, eN] at hq
  rw [eN] at hn
  have hon := lonly_lit F
  have hlt := onV_lt F
  obtain ⟨lo, eLo⟩ : ∃ lo, onV F = lo := ⟨_, rfl⟩
  obtain ⟨on, eOn⟩ : ∃ on, onO F = on := ⟨_, rfl⟩
  rw [eLo, eOn] at hon
  rw [eLo] at hlt
  rw [eN] at k2 k3 k4
  rw [eF] at k1
  rw [eOn] at k1
  subst k1
  have hq2 := lpart_any (p.extract (n + 1) p.size) (by simp; omega) (by simp; omega)
  have hn2 := pa_le (p.extract (n + 1) p.size) (by simp; omega)
  have hn3 : (p.extract (n + 1) p.size).size ≤ p.size := by simp
  rw [eF, eN] at hI hI0
  obtain ⟨G, eG⟩ : ∃ G, paF (p.extract (n + 1) p.size) = G := ⟨_, rfl⟩
  obtain ⟨m, eM⟩ : ∃ m, paN (p.extract (n + 1) p.size) = m := ⟨_, rfl⟩
  rw [eG, eM] at hq2 hI
  rw [eG] at hI0
  rw [eM] at hn2
  have hn4 : m ≤ 200 := by omega
  have hon2 := lonly_lit G
  have hlt2 := onV_lt G
  obtain ⟨hi, eHi⟩ : ∃ hi, onV G = hi := ⟨_, rfl⟩
  obtain ⟨on2, eOn2⟩ : ∃ on2, onO G = on2 := ⟨_, rfl⟩
  rw [eHi, eOn2] at hon2
  rw [eHi] at hlt2
  rw [eLo, eHi, eOn2] at hI hI0
  have HI := Lib.hid hI; have HI0 := Lib.hid hI0; have HQ := Lib.hid hq; have HON := Lib.hid hon; have HQ2 := Lib.hid hq2; have HON2 := Lib.hid hon2
  have t0 : decide ((p.size : Int) < (n : Int) + 2) = false := decide_eq_false (by omega)
  have hj : n < p.size := by omega
  have g := gb_data1 hj k3
  have hj' : n + 1 < p.size := by omega
  have g' := gb_in hj'
  obtain ⟨c, hc⟩ : ∃ c, gb p (n + 1) = c := ⟨_, rfl⟩
  rw [hc] at g' k4
  have t1 : ((c : Int) == 93) = false := beq_eq_false_iff_ne.2 (by omega)
  have u0 : (0 : Int) ≤ (n : Int) := by omega
  have u1 : (0 : Int) ≤ (n : Int) + 1 := by omega
  have u2 : (n : Int) + 1 ≤ (p.size : Int) := by omega
  clear hI hI0 hq hon hq2 hon2 eF eN eLo eOn eG eM eHi eOn2 k3 k4 hc hn2 hn3
  have E0 := Lib.hid (isSet.newNone w)
  have HW : Hid (Below w.heap.size w (w.alloc (.cells #[.int .u64 0, .int .u64 0, .int .u64 0, .int .u64 0] 32))) := Lib.hid ((Below.refl _ _).alloc (Nat.le_refl _) _)
  have HT := Lib.hid (hT.alloc (.cells #[.int .u64 0, .int .u64 0, .int .u64 0, .int .u64 0] 32))
  clear hT
  go_enter Tryd.func69, Tryd.ntmps69
  go_wp2_with fail
  refine (HQ.out _ HT.out).mono ?_
  rintro e w1 ⟨rfl, hb⟩
  have l9 : w.heap.size < w1.heap.size := Nat.lt_of_lt_of_le E0.out.lt hb.size
  have e0 := (E0.out.below hb E0.out.lt).alloc (.cells #[.int .u64 (wd (F) 0 : Int), .int .u64 (wd (F) 1 : Int), .int .u64 (wd (F) 2 : Int), .int .u64 (wd (F) 3 : Int)] 32)
  have hW := (HW.out.trans (hb.mono HW.out.size)).alloc (Nat.le_trans HW.out.size hb.size) (.cells #[.int .u64 (wd (F) 0 : Int), .int .u64 (wd (F) 1 : Int), .int .u64 (wd (F) 2 : Int), .int .u64 (wd (F) 3 : Int)] 32)
  have hT := (HT.out.to hb).alloc (.cells #[.int .u64 (wd (F) 0 : Int), .int .u64 (wd (F) 1 : Int), .int .u64 (wd (F) 2 : Int), .int .u64 (wd (F) 3 : Int)] 32)
  have s0 := isSet.new w1 F
  clear hb E0 HW HT HQ
  have HW := Lib.hid hW; have E0 := Lib.hid e0; have HT := Lib.hid hT; have S0 := Lib.hid s0
  clear hW e0 hT s0
  go_wp2_with fail
  refine (HON.out _).mono ?_
  rintro e w2 ⟨rfl, hb⟩
  have hW := HW.out.trans (hb.mono HW.out.size)
  have e0 := E0.out.below hb E0.out.lt
  have hT := HT.out.to hb
  have s0 := S0.out.below hb S0.out.lt
  have lA : w1.heap.size < w2.heap.size := s0.lt
  clear hb E0 HW HT S0 HON
  have HW := Lib.hid hW; have E0 := Lib.hid e0; have HT := Lib.hid hT
  clear hW e0 hT s0
  go_wp2_with fail
  refine (HQ2.out _ HT.out).mono ?_
  rintro e w3 ⟨rfl, hb⟩
  have lB : w1.heap.size < w3.heap.size := Nat.lt_of_lt_of_le lA hb.size
  have e0 := (E0.out.below hb E0.out.lt).alloc (.cells #[.int .u64 (wd (G) 0 : Int), .int .u64 (wd (G) 1 : Int), .int .u64 (wd (G) 2 : Int), .int .u64 (wd (G) 3 : Int)] 32)
  have hW := (HW.out.trans (hb.mono HW.out.size)).alloc (Nat.le_trans HW.out.size hb.size) (.cells #[.int .u64 (wd (G) 0 : Int), .int .u64 (wd (G) 1 : Int), .int .u64 (wd (G) 2 : Int), .int .u64 (wd (G) 3 : Int)] 32)
  have s0 := isSet.new w3 G
  clear hb E0 HW HT HQ2
  have HW := Lib.hid hW; have E0 := Lib.hid e0; have S0 := Lib.hid s0
  clear hW e0 s0
  go_wp2_with fail
  refine (HON2.out _).mono ?_
  rintro e w4 ⟨rfl, hb⟩
  have hW := HW.out.trans (hb.mono HW.out.size)
  have e0 := E0.out.below hb E0.out.lt
  have lC : w.heap.size < w4.heap.size := e0.lt
  clear hb E0 HW S0 HON2
  cases on2
  · have HV : Hid (sv (fun _ => false) = .agg #[.int .u64 0, .int .u64 0, .int .u64 0, .int .u64 0]) := Lib.hid (by unfold sv; simp only [none_wd]; exact rfl)
    obtain ⟨r0, r1, r2, r3⟩ := e0.free
    have q := e0.cells
    simp only [none_wd] at q
    obtain ⟨q0, q1, q2, q3⟩ := q
    have HR := Lib.hid (below_set4 (c := w.heap.size) hW (Nat.le_refl _) (.int .u64 0) (.int .u64 0) (.int .u64 0) (.int .u64 0))
    clear e0 hW
    go_wp2
    refine bodyPost_ret (v := .tuple #[.agg #[.int .u64 0, .int .u64 0, .int .u64 0, .int .u64 0], .int .i64 0]) (by simp [results, Tryd.results69, go_sem, q0, q1, q2, q3]) rfl ⟨by rw [(HI0.out (by simp)).1, (HI0.out (by simp)).2, HV.out]; rfl, HR.out⟩
  · rcases Nat.lt_or_ge hi lo with hlo | hlo
    · have t2 : decide ((hi : Int) < (lo : Int)) = true := decide_eq_true (by omega)
      have HV : Hid (sv (fun _ => false) = .agg #[.int .u64 0, .int .u64 0, .int .u64 0, .int .u64 0]) := Lib.hid (by unfold sv; simp only [none_wd]; exact rfl)
      obtain ⟨r0, r1, r2, r3⟩ := e0.free
      have q := e0.cells
      simp only [none_wd] at q
      obtain ⟨q0, q1, q2, q3⟩ := q
      have HR := Lib.hid (below_set4 (c := w.heap.size) hW (Nat.le_refl _) (.int .u64 0) (.int .u64 0) (.int .u64 0) (.int .u64 0))
      clear e0 hW
      go_wp2
      refine bodyPost_ret (v := .tuple #[.agg #[.int .u64 0, .int .u64 0, .int .u64 0, .int .u64 0], .int .i64 0]) (by simp [results, Tryd.results69, go_sem, q0, q1, q2, q3]) rfl ⟨by rw [(HI0.out (fun h => by have := h.2; omega)).1, (HI0.out (fun h => by have := h.2; omega)).2, HV.out]; rfl, HR.out⟩
    · have t2 : decide ((hi : Int) < (lo : Int)) = false := decide_eq_false (by omega)
      have HW := Lib.hid hW; have E0 := Lib.hid e0
      clear hW e0
      go_wp2_with fail
      refine (range_any lo hi hlt hlt2 _).mono ?_
      obtain ⟨R, hR⟩ : ∃ R, (fun k => decide (lo ≤ k) && decide (k ≤ hi)) = R := ⟨_, rfl⟩
      rw [hR]
      have HR0 := Lib.hid hR
      clear hR
      rintro e w5 ⟨rfl, hb⟩
      have hW := HW.out.trans (hb.mono HW.out.size)
      have e0 := E0.out.below hb E0.out.lt
      clear hb E0 HW
      obtain ⟨r0, r1, r2, r3⟩ := e0.free
      obtain ⟨q0, q1, q2, q3⟩ := e0.cells
      have HR := Lib.hid (below_set4 (c := w.heap.size) hW (Nat.le_refl _) (.int .u64 (wd (R) 0 : Int)) (.int .u64 (wd (R) 1 : Int)) (.int .u64 (wd (R) 2 : Int)) (.int .u64 (wd (R) 3 : Int)))
      have Z := Lib.hid (e0.stored (R)).cells
      clear e0 hW
      go_wp2
      refine bodyPost_ret (v := .tuple #[sv (R), .int .i64 ((n : Int) + 1 + (m : Int))]) (by simp [results, Tryd.results69, go_sem, Z.out]) rfl ⟨by rw [(HI.out ⟨by simp, hlo⟩).1, (HI.out ⟨by simp, hlo⟩).2, HR0.out, show ((n + 1 + m : Nat) : Int) = (n : Int) + 1 + (m : Int) by omega], HR.out⟩

theorem litem_any (p : ByteArray) (hp : p.size ≤ 200) (h1 : 1 ≤ p.size) (w : World) (hT : Okw w) :
    Calls Tryd.prog 69 #[.string p] w fun e w' => e = .returned (.tuple #[sv (iF p), .int .i64 (iN p : Nat)]) ∧ Below w.heap.size w w' := by
  cases ho : onO (paF p)
  · exact litem_plain p hp h1 (.inl ho) w hT
  · rcases Nat.lt_or_ge p.size (paN p + 2) with h2 | h2
    · exact litem_plain p hp h1 (.inr (.inl ⟨ho, h2⟩)) w hT
    · by_cases h3 : gb p (paN p) = 45
      · by_cases h4 : gb p (paN p + 1) = 93
        · exact litem_plain p hp h1 (.inr (.inr (.inr ⟨ho, h2, h3, h4⟩))) w hT
        · exact litem_run p hp h1 ho h2 h3 h4 w hT
      · exact litem_plain p hp h1 (.inr (.inr (.inl ⟨ho, h2, h3⟩))) w hT
end Go.Proofs.YtgjpmfdiidkdnaaDoor

namespace Go.Proofs.YtgjpmfdiidkdnaaDoor
open Go.RowKit

theorem it_sin {p : ByteArray} {i : Nat} (h : itOk p i = true) : sinOk p i = true := by
  unfold itOk at h
  cases hs : sinOk p i
  · rw [hs] at h; cases h
  · rfl
theorem it_run {p : ByteArray} {i : Nat} (h : itOk p i = true) (hh : itHyp p i = true) : sinOk p (sinN p i + 1) = true ∧ itLo p i ≤ itHi p i := by
  unfold itOk at h
  rw [it_sin h, hh] at h
  simpa using h
theorem hyp_facts {p : ByteArray} {i : Nat} (hh : itHyp p i = true) : 0 ≤ oneF (sinF p i) (sinNm p i) ∧ sinN p i + 1 < p.size ∧ gb p (sinN p i) = 45 ∧ gb p (sinN p i + 1) ≠ 93 := by
  unfold itHyp at hh
  simpa using hh
theorem it_bd {p : ByteArray} {i : Nat} (hi : i < p.size) (h : itOk p i = true) : i + 1 ≤ itN p i ∧ itN p i ≤ p.size := by
  have hs := it_sin h
  have h1 := (sin_tail p i).2 hs
  have h2 := sin_le hi hs
  unfold itN
  cases hh : itHyp p i
  · simp only [Bool.false_eq_true, if_false]; omega
  · obtain ⟨f0, f1, f2, f3⟩ := hyp_facts hh
    have hs2 := (it_run h hh).1
    have h3 := (sin_tail p (sinN p i + 1)).2 hs2
    have h4 := sin_le f1 hs2
    simp only [if_true]; omega
theorem it_pre {p p' : ByteArray} {k k' m : Nat} (h : alike p k p' k' m) (hok : itOk p k = true) (hn : itN p k < k + m) (hx : gb p (sinN p k) = 45 → sinN p k + 1 < k + m) :
    itOk p' k' = true ∧ itF p' k' = itF p k ∧ itN p' k' + k = itN p k + k' := by
  have hs := it_sin hok
  have hlow : sinN p k < k + m := by
    unfold itN at hn
    cases hh : itHyp p k
    · rw [hh] at hn; exact hn
    · have := (hyp_facts hh).2.2.1; have := hx this; omega
  obtain ⟨a1, a2, a3, a4, a5⟩ := sin_pre h hs hlow
  have gj : ∀ x, k ≤ x → x < k + m → gb p' (x - k + k') = gb p x := fun x hx hx2 => by
    have := h (x - k) (by omega)
    rw [show k + (x - k) = x by omega, show k' + (x - k) = x - k + k' by omega] at this
    exact this.symm
  have hn' : sinN p' k' = sinN p k - k + k' := by omega
  have gn := gj (sinN p k) (by omega) hlow
  rw [← hn'] at gn
  have hhyp : itHyp p' k' = itHyp p k := by
    unfold itHyp
    rw [a2, a4, gn]
    by_cases h45 : gb p (sinN p k) = 45
    · have g1 := gj (sinN p k + 1) (by omega) (hx h45)
      rw [show sinN p k + 1 - k + k' = sinN p' k' + 1 by omega] at g1
      rw [g1]
      have : decide (sinN p' k' + 1 < p'.size) = decide (sinN p k + 1 < p.size) := by
        rw [Bool.eq_iff_iff, decide_eq_true_eq, decide_eq_true_eq, ← gb_lt_iff, ← gb_lt_iff, g1]
      rw [this]
    · have : (gb p (sinN p k) == 45) = false := beq_eq_false_iff_ne.2 h45
      rw [this]; simp
  cases hh : itHyp p k
  · unfold itOk itF itN
    rw [hhyp, hh, a1]
    simp only [Bool.not_false, Bool.true_or, Bool.and_true, Bool.false_eq_true, if_false]
    exact ⟨trivial, a2, a3⟩
  · obtain ⟨r1, r2⟩ := it_run hok hh
    obtain ⟨f0, f1, f2, f3⟩ := hyp_facts hh
    have hN : itN p k = sinN p (sinN p k + 1) := by unfold itN; rw [if_pos hh]
    rw [hN] at hn
    have h2 := (sin_tail p (sinN p k + 1)).2 r1
    have hal := h.from (j := sinN p k + 1 - k) (by omega)
    rw [show k + (sinN p k + 1 - k) = sinN p k + 1 by omega, show k' + (sinN p k + 1 - k) = sinN p' k' + 1 by omega] at hal
    obtain ⟨b1, b2, b3, b4, b5⟩ := sin_pre hal r1 (by omega)
    have hlo : itLo p' k' = itLo p k := by unfold itLo; rw [a2, a4]
    have hhi : itHi p' k' = itHi p k := by unfold itHi; rw [b2, b4]
    unfold itOk itF itN
    rw [hhyp, hh, a1, b1, hlo, hhi, decide_eq_true r2]
    simp only [if_true]
    exact ⟨rfl, trivial, by omega⟩
theorem it_tail (p : ByteArray) (k : Nat) : iF (p.extract k p.size) = (if itOk p k = true then itF p k else fun _ => false) ∧ iN (p.extract k p.size) = (if itOk p k = true then itN p k - k else 0) := by
  have key : itOk (p.extract k p.size) 0 = itOk p k ∧ (itOk p k = true → itF (p.extract k p.size) 0 = itF p k ∧ itN p k = k + itN (p.extract k p.size) 0) := by
    cases h : itOk p k
    · refine ⟨?_, fun h' => by cases h'⟩
      cases h2 : itOk (p.extract k p.size) 0
      · rfl
      · have := (it_pre (tail_alike p k (itN (p.extract k p.size) 0 + sinN (p.extract k p.size) 0 + 2)) h2 (by omega) (fun _ => by omega)).1
        rw [h] at this; cases this
    · obtain ⟨a1, a2, a3⟩ := it_pre (tail_alike p k (itN p k + sinN p k + 2)).symm h (by omega) (fun _ => by omega)
      exact ⟨a1, fun _ => ⟨a2, by omega⟩⟩
  obtain ⟨h1, h2⟩ := key
  unfold iF iN
  rw [h1]
  cases h : itOk p k
  · simp only [Bool.false_eq_true, if_false]; exact ⟨trivial, trivial⟩
  · obtain ⟨a1, a2⟩ := h2 h
    simp only [if_true]
    exact ⟨a1, by omega⟩

/-- Items up to the closing bracket: what is in any, and where that ends. -/
def brkL (p : ByteArray) : Nat → Nat → (Nat → Bool) → Option ((Nat → Bool) × Nat)
  | 0, _, _ => none
  | u + 1, i, f => if p.size ≤ i then none else if gb p i = 93 then some (f, i + 1) else if itOk p i = true then brkL p u (itN p i) (fun x => f x || itF p i x) else none
theorem brkL_enough {p : ByteArray} : ∀ {u i : Nat} {f : Nat → Bool} {r : (Nat → Bool) × Nat}, brkL p u i f = some r → ∀ u', p.size + 1 ≤ u' + i → brkL p u' i f = some r
  | 0, i, f, r, h, _, _ => by cases h
  | u + 1, i, f, r, h, u', hu => by
    unfold brkL at h
    by_cases h1 : p.size ≤ i
    · rw [if_pos h1] at h; exact absurd h (by simp)
    · rw [if_neg h1] at h
      match u', hu with
      | 0, hu => omega
      | u' + 1, hu =>
        unfold brkL
        rw [if_neg h1]
        by_cases h2 : gb p i = 93
        · rw [if_pos h2] at h ⊢; exact h
        · rw [if_neg h2] at h ⊢
          cases h3 : itOk p i
          · rw [h3, if_neg (by decide)] at h; exact absurd h (by simp)
          · rw [h3, if_pos rfl] at h
            rw [if_pos rfl]
            exact brkL_enough h u' (by have := it_bd (by omega) h3; omega)
theorem brkL_end {p : ByteArray} : ∀ {u i : Nat} {f : Nat → Bool} {r : (Nat → Bool) × Nat}, brkL p u i f = some r → i + 1 ≤ r.2 ∧ r.2 ≤ p.size ∧ (gb p i = 93 ∨ i + 2 ≤ r.2)
  | 0, i, f, r, h => by cases h
  | u + 1, i, f, r, h => by
    unfold brkL at h
    by_cases h1 : p.size ≤ i
    · rw [if_pos h1] at h; exact absurd h (by simp)
    · rw [if_neg h1] at h
      by_cases h2 : gb p i = 93
      · rw [if_pos h2] at h
        cases h
        exact ⟨by omega, by show i + 1 ≤ p.size; omega, .inl h2⟩
      · rw [if_neg h2] at h
        cases h3 : itOk p i
        · rw [h3, if_neg (by decide)] at h; exact absurd h (by simp)
        · rw [h3, if_pos rfl] at h
          obtain ⟨b1, b2, b3⟩ := brkL_end h
          have := it_bd (by omega) h3
          exact ⟨by omega, b2, .inr (by omega)⟩
theorem brkL_pre {p p' : ByteArray} : ∀ {u i i' m : Nat} {f : Nat → Bool} {r : (Nat → Bool) × Nat}, alike p i p' i' m → brkL p u i f = some r → r.2 ≤ i + m → brkL p' u i' f = some (r.1, r.2 - i + i')
  | 0, i, i', m, f, r, _, h, _ => by cases h
  | u + 1, i, i', m, f, r, ha, h, hm => by
    have hend := brkL_end h
    unfold brkL at h
    by_cases h1 : p.size ≤ i
    · rw [if_pos h1] at h; exact absurd h (by simp)
    · rw [if_neg h1] at h
      have h1' : ¬ p'.size ≤ i' := by have := ha.size (i := 0) (by omega) (by omega); omega
      have g0 := ha.at0 (by omega)
      unfold brkL
      rw [if_neg h1', ← g0]
      by_cases h2 : gb p i = 93
      · rw [if_pos h2] at h ⊢
        cases h
        show some (f, i' + 1) = some (f, i + 1 - i + i')
        rw [show i + 1 - i + i' = i' + 1 by omega]
      · rw [if_neg h2] at h ⊢
        cases h3 : itOk p i
        · rw [h3, if_neg (by decide)] at h; exact absurd h (by simp)
        · rw [h3, if_pos rfl] at h
          have hb := it_bd (by omega) h3
          have he := brkL_end h
          have hx : gb p (sinN p i) = 45 → sinN p i + 1 < i + m := fun h45 => by
            cases hh : itHyp p i
            · have hN : itN p i = sinN p i := by unfold itN; rw [hh]; rfl
              rw [hN] at he
              rcases he.2.2 with h9 | h9
              · omega
              · omega
            · obtain ⟨f0, f1, f2, f3⟩ := hyp_facts hh
              have hN : itN p i = sinN p (sinN p i + 1) := by unfold itN; rw [if_pos hh]
              have h4 := (sin_tail p (sinN p i + 1)).2 (it_run h3 hh).1
              omega
          obtain ⟨a1, a2, a3⟩ := it_pre ha h3 (by omega) hx
          rw [a1, if_pos rfl, a2]
          have hal := ha.from (j := itN p i - i) (by omega)
          rw [show i + (itN p i - i) = itN p i by omega, show i' + (itN p i - i) = itN p' i' by omega] at hal
          rw [brkL_pre hal h (by omega)]
          rw [show r.2 - itN p i + itN p' i' = r.2 - i + i' by omega]
/-- The bracket that begins at a place. -/
def brk (p : ByteArray) (k : Nat) : Option ((Nat → Bool) × Nat) :=
  if gb p (k + 1) = 94 then (brkL p (p.size + 1) (k + 2) fun _ => false).map fun r => (fun x => !r.1 x, r.2) else brkL p (p.size + 1) (k + 1) fun _ => false
theorem brk_end {p : ByteArray} {k : Nat} {r : (Nat → Bool) × Nat} (h : brk p k = some r) : k + 2 ≤ r.2 ∧ r.2 ≤ p.size := by
  unfold brk at h
  by_cases h1 : gb p (k + 1) = 94
  · rw [if_pos h1] at h
    cases hb : brkL p (p.size + 1) (k + 2) fun _ => false with
    | none => rw [hb] at h; cases h
    | some r' =>
      rw [hb] at h
      cases h
      have := brkL_end hb
      exact ⟨by show k + 2 ≤ r'.2; omega, this.2.1⟩
  · rw [if_neg h1] at h
    have := brkL_end h
    exact ⟨by omega, this.2.1⟩
theorem brk_pre {p p' : ByteArray} {k k' m : Nat} {r : (Nat → Bool) × Nat} (ha : alike p k p' k' m) (h : brk p k = some r) (hm : r.2 ≤ k + m) : brk p' k' = some (r.1, r.2 - k + k') := by
  have he := brk_end h
  have g1 := ha 1 (by omega)
  unfold brk at h ⊢
  rw [← g1]
  by_cases h1 : gb p (k + 1) = 94
  · rw [if_pos h1] at h ⊢
    cases hb : brkL p (p.size + 1) (k + 2) fun _ => false with
    | none => rw [hb] at h; cases h
    | some r' =>
      rw [hb] at h
      cases h
      have hal := ha.from (j := 2) (by have : k + 2 ≤ r'.2 := he.1; have : r'.2 ≤ k + m := hm; omega)
      have hm' : r'.2 ≤ k + m := hm
      have he' : k + 2 ≤ r'.2 := he.1
      rw [brkL_enough (brkL_pre hal hb (by omega)) (p'.size + 1) (by omega)]
      show some (_, r'.2 - (k + 2) + (k' + 2)) = some (_, r'.2 - k + k')
      rw [show r'.2 - (k + 2) + (k' + 2) = r'.2 - k + k' by omega]
  · rw [if_neg h1] at h ⊢
    have hal := ha.from (j := 1) (by omega)
    rw [brkL_enough (brkL_pre hal h (by omega)) (p'.size + 1) (by omega)]
    rw [show r.2 - (k + 1) + (k' + 1) = r.2 - k + k' by omega]
end Go.Proofs.YtgjpmfdiidkdnaaDoor

namespace Go.Proofs.YtgjpmfdiidkdnaaDoor
open Go.RowKit

/-- The bracket that a text begins with. -/
def brF (p : ByteArray) : Nat → Bool := match brk p 0 with | some r => r.1 | none => fun _ => false
def brN (p : ByteArray) : Nat := match brk p 0 with | some r => r.2 | none => 0
def notPre : ByteArray := { data := #[94] }
theorem pre_not (p : ByteArray) : Lib.hasPrefix (p.extract 1 p.size).data.toList notPre.data.toList = (gb p 1 == 94) := by
  have := occ_one (p.extract 1 p.size) 94 0
  unfold Lib.occAt at this
  rw [List.drop_zero, gb_tail] at this
  exact this
theorem or_comm3 (f g : Nat → Bool) (w : World) : Calls Tryd.prog 11 #[svr f, svr g] w fun e w' => e = .returned (sv fun x => f x || g x) ∧ Below w.heap.size w w' := or_lit f g w
theorem brkL_step {p : ByteArray} {u i : Nat} {f : Nat → Bool} (hi : i < p.size) (hc : gb p i ≠ 93) (ho : itOk p i = true) : brkL p (u + 1) i f = brkL p u (itN p i) fun x => f x || itF p i x := by
  conv => lhs; unfold brkL
  rw [if_neg (by omega), if_neg hc, if_pos ho]
theorem brkL_hit {p : ByteArray} {u i : Nat} {f : Nat → Bool} (hi : i < p.size) (hc : gb p i = 93) : brkL p (u + 1) i f = some (f, i + 1) := by
  unfold brkL
  rw [if_neg (by omega), if_pos hc]
theorem brkL_bad {p : ByteArray} {u i : Nat} {f : Nat → Bool} (h : p.size ≤ i ∨ (gb p i ≠ 93 ∧ itOk p i = false)) : brkL p u i f = none := by
  cases u with
  | zero => rfl
  | succ u =>
    unfold brkL
    by_cases h1 : p.size ≤ i
    · rw [if_pos h1]
    · rcases h with h | ⟨h, h'⟩
      · exact absurd h h1
      · rw [if_neg h1, if_neg h, h', if_neg (by decide)]

set_option maxRecDepth 100000 in
set_option maxHeartbeats 1000000 in
theorem lbrk_not (p : ByteArray) (hp : p.size ≤ 200) (h1 : 1 ≤ p.size) (hnt : gb p 1 = 94) (w : World) (hT : Okw w) :
    Calls Tryd.prog 62 #[.string p] w fun e w' => e = .returned (.tuple #[sv (brF p), .int .i64 (brN p : Nat)]) ∧ Below w.heap.size w w' := by
  obtain ⟨R, hR⟩ : ∃ R, brkL p (p.size + 1) 2 (fun _ => false) = R := ⟨_, rfl⟩
  have HS : Hid (∀ g e, R = some (g, e) → brF p = (fun x => !g x) ∧ brN p = e) := Lib.hid (fun g e h => by
    unfold brF brN brk
    rw [if_pos hnt, Nat.zero_add, hR, h]
    exact ⟨rfl, rfl⟩)
  have HN : Hid (R = none → brF p = (fun _ => false) ∧ brN p = 0) := Lib.hid (fun h => by
    unfold brF brN brk
    rw [if_pos hnt, Nat.zero_add, hR, h]
    exact ⟨rfl, rfl⟩)
  have h2 : 2 ≤ p.size := by
    rcases Nat.lt_or_ge p.size 2 with h3 | h3
    · have := gb_out (p := p) (i := 1) (by omega); omega
    · exact h3
  have HP := Lib.hid (pref_sym (p.extract 1 p.size) notPre true (by rw [pre_not]; rw [hnt]; rfl))
  have HR := Lib.hid hR
  clear hR hnt
  have v0 : (1 : Int) ≤ (p.size : Int) := by omega
  have E0 := Lib.hid ((isSet.newNone w).alloc (.cells #[.int .u64 0, .int .u64 0, .int .u64 0, .int .u64 0] 32))
  have B0 := Lib.hid (isSet.newNone (w.alloc (.cells #[.int .u64 0, .int .u64 0, .int .u64 0, .int .u64 0] 32)))
  have HW : Hid (Below w.heap.size w ((w.alloc (.cells #[.int .u64 0, .int .u64 0, .int .u64 0, .int .u64 0] 32)).alloc (.cells #[.int .u64 0, .int .u64 0, .int .u64 0, .int .u64 0] 32))) := Lib.hid (((Below.refl _ _).alloc (Nat.le_refl _) _).alloc (by simp) _)
  have HT := Lib.hid ((hT.alloc (.cells #[.int .u64 0, .int .u64 0, .int .u64 0, .int .u64 0] 32)).alloc (.cells #[.int .u64 0, .int .u64 0, .int .u64 0, .int .u64 0] 32))
  have HT0 := Lib.hid hT
  clear hT
  go_enter Tryd.func62, Tryd.ntmps62
  go_wp2_with fail
  refine (HP.out _).mono ?_
  rintro e w0 ⟨rfl, rfl⟩
  clear HP
  go_wp2_with fail
  go_loopw [5] (fun at_ wr => ∃ (i u : Nat) (g : Nat → Bool), at_ = .int .i64 i ∧ i ≤ p.size ∧ isSet wr w.heap.size (fun _ => false) ∧ isSet wr (w.heap.size + 1) g ∧ Below w.heap.size w wr ∧ Okw wr ∧ Hid (brkL p u i g = R ∧ p.size + 1 ≤ u + i)) (fun at_ _ => p.size - (intOf at_).toNat)
  case atStart => exact ⟨2, p.size + 1, _, by go_num, h2, E0.out, by have := B0.out; rw [World.size_alloc] at this; exact this, HW.out, HT.out, Lib.hid ⟨HR.out, by omega⟩⟩
  case round =>
    obtain ⟨i, u, g, rfl, hi, e0, b0, hW, hT, hh⟩ := hrel
    clear E0 B0 HW HT HR
    have ln : w.heap.size + 1 < wr.heap.size := b0.lt
    have ne : w.heap.size ≠ w.heap.size + 1 := by omega
    by_cases hlt : i < p.size
    · have i1 : decide ((i : Int) < (p.size : Int)) = true := decide_eq_true (by omega)
      have gi := gb_in hlt
      by_cases hc : gb p i = 93
      · rw [hc] at gi
        have HE : Hid (R = some (g, i + 1)) := Lib.hid (by
          obtain ⟨q1, q2⟩ := hh.out
          obtain ⟨u', rfl⟩ : ∃ u', u = u' + 1 := ⟨u - 1, by omega⟩
          rw [← q1]
          exact brkL_hit hlt hc)
        clear hh hc
        have i2 : ((i : Int) == (p.size : Int)) = false := beq_eq_false_iff_ne.2 (by omega)
        have B0 := Lib.hid b0; have E0 := Lib.hid e0; have HW := Lib.hid hW
        obtain ⟨s0, s1, s2, s3⟩ := b0.cells
        clear e0 hW hT
        go_wp2_with fail
        refine (not_lit _ _).mono ?_
        obtain ⟨G, hG⟩ : ∃ G, (fun k => !g k) = G := ⟨_, rfl⟩
        rw [hG]
        have HG := Lib.hid hG
        clear hG s0 s1 s2 s3
        rintro e w1 ⟨rfl, hb⟩
        have hW := HW.out.trans (hb.mono HW.out.size)
        have e0 := E0.out.below hb E0.out.lt
        have b0 := B0.out.below hb B0.out.lt
        clear hb HW E0 B0
        have ln1 : w.heap.size + 1 < w1.heap.size := b0.lt
        obtain ⟨y0, y1, y2, y3⟩ := b0.cells
        obtain ⟨z0, z1, z2, z3⟩ := b0.free
        have b1 := b0.stored G
        have e1 := e0.other4 (c := w.heap.size + 1) ne (.int .u64 (wd G 0 : Int)) (.int .u64 (wd G 1 : Int)) (.int .u64 (wd G 2 : Int)) (.int .u64 (wd G 3 : Int))
        have hW1 := below_set4 (c := w.heap.size + 1) hW (by omega) (.int .u64 (wd G 0 : Int)) (.int .u64 (wd G 1 : Int)) (.int .u64 (wd G 2 : Int)) (.int .u64 (wd G 3 : Int))
        clear b0 e0 hW
        go_upto_region 16 with (fail)
        generalize ((((w1.setCell ⟨w.heap.size + 1, 0, none⟩ (.int .u64 (wd G 0 : Int))).setCell ⟨w.heap.size + 1, 1, none⟩ (.int .u64 (wd G 1 : Int))).setCell ⟨w.heap.size + 1, 2, none⟩ (.int .u64 (wd G 2 : Int))).setCell ⟨w.heap.size + 1, 3, none⟩ (.int .u64 (wd G 3 : Int))) = W at *
        clear y0 y1 y2 y3 z0 z1 z2 z3
        have e0 := e1; have hW := hW1; have b0 := b1
        clear e1 hW1 b1
        obtain ⟨s0, s1, s2, s3⟩ := b0.cells
        obtain ⟨r0, r1, r2, r3⟩ := e0.free
        obtain ⟨q0, q1, q2, q3⟩ := e0.cells
        have HR := Lib.hid (below_set4 (c := w.heap.size) hW (Nat.le_refl _) (.int .u64 (wd (G) 0 : Int)) (.int .u64 (wd (G) 1 : Int)) (.int .u64 (wd (G) 2 : Int)) (.int .u64 (wd (G) 3 : Int)))
        have Z := Lib.hid (e0.stored (G)).cells
        clear e0 hW
        go_wp2
        refine bodyPost_ret (v := .tuple #[sv (G), .int .i64 ((i : Int) + 1)]) (by simp [results, Tryd.results62, go_sem, Z.out]) rfl ⟨by rw [(HS.out _ _ HE.out).1, (HS.out _ _ HE.out).2, HG.out]; rfl, HR.out⟩
      · obtain ⟨c, hcc⟩ : ∃ c, gb p i = c := ⟨_, rfl⟩
        have hq := litem_any (p.extract i p.size) (by simp; omega) (by simp; omega)
        obtain ⟨t1, t2⟩ := it_tail p i
        rw [t1, t2] at hq
        clear t1 t2
        have hbd := it_bd (p := p) (i := i) hlt
        rw [hcc] at gi
        have i2 : ((c : Int) != 93) = true := by simp; omega
        have i3 : (i : Int) ≤ (p.size : Int) := by omega
        have B0 := Lib.hid b0; have E0 := Lib.hid e0; have HW := Lib.hid hW; have HT := Lib.hid hT
        clear b0 e0 hW hT
        cases ho : itOk p i
        · rw [ho, if_neg (by decide), if_neg (by decide)] at hq
          have HQ := Lib.hid hq
          have HE : Hid (R = none) := Lib.hid (by rw [← hh.out.1]; exact brkL_bad (.inr ⟨hc, ho⟩))
          clear hh hc hcc hq ho hbd
          go_wp2_with fail
          refine (HQ.out _ HT.out).mono ?_
          rintro e w1 ⟨rfl, hb⟩
          have e0 := (E0.out.below hb E0.out.lt).alloc (.cells #[.int .u64 (wd (fun _ => false) 0 : Int), .int .u64 (wd (fun _ => false) 1 : Int), .int .u64 (wd (fun _ => false) 2 : Int), .int .u64 (wd (fun _ => false) 3 : Int)] 32)
          have hW := (HW.out.trans (hb.mono HW.out.size)).alloc (Nat.le_trans HW.out.size hb.size) (.cells #[.int .u64 (wd (fun _ => false) 0 : Int), .int .u64 (wd (fun _ => false) 1 : Int), .int .u64 (wd (fun _ => false) 2 : Int), .int .u64 (wd (fun _ => false) 3 : Int)] 32)
          have l9 : w.heap.size < w1.heap.size := Nat.lt_of_lt_of_le E0.out.lt hb.size
          clear hb E0 HW HT HQ B0
          go_upto_region 8 with (fail)
          generalize w1.alloc (.cells #[.int .u64 (wd (fun _ => false) 0 : Int), .int .u64 (wd (fun _ => false) 1 : Int), .int .u64 (wd (fun _ => false) 2 : Int), .int .u64 (wd (fun _ => false) 3 : Int)] 32) = W at *
          have HV : Hid (sv (fun _ => false) = .agg #[.int .u64 0, .int .u64 0, .int .u64 0, .int .u64 0]) := Lib.hid (by unfold sv; simp only [none_wd]; exact rfl)
          obtain ⟨r0, r1, r2, r3⟩ := e0.free
          have q := e0.cells
          simp only [none_wd] at q
          obtain ⟨q0, q1, q2, q3⟩ := q
          have HR := Lib.hid (below_set4 (c := w.heap.size) hW (Nat.le_refl _) (.int .u64 0) (.int .u64 0) (.int .u64 0) (.int .u64 0))
          clear e0 hW
          go_wp2
          refine bodyPost_ret (v := .tuple #[.agg #[.int .u64 0, .int .u64 0, .int .u64 0, .int .u64 0], .int .i64 0]) (by simp [results, Tryd.results62, go_sem, q0, q1, q2, q3]) rfl ⟨by rw [(HN.out HE.out).1, (HN.out HE.out).2, HV.out]; rfl, HR.out⟩
        · rw [ho, if_pos rfl, if_pos rfl] at hq
          obtain ⟨hb1, hb2⟩ := hbd ho
          obtain ⟨G, hG⟩ : ∃ G, itF p i = G := ⟨_, rfl⟩
          obtain ⟨n, hn⟩ : ∃ n, itN p i - i = n := ⟨_, rfl⟩
          rw [hG, hn] at hq
          have n1 : 1 ≤ n := by omega
          have n2 : i + n ≤ p.size := by omega
          have HE : Hid (∃ u', brkL p u' (i + n) (fun x => g x || G x) = R ∧ p.size + 1 ≤ u' + (i + n)) := Lib.hid (by
            obtain ⟨q1, q2⟩ := hh.out
            obtain ⟨u', rfl⟩ : ∃ u', u = u' + 1 := ⟨u - 1, by omega⟩
            refine ⟨u', ?_, by omega⟩
            rw [← q1, brkL_step hlt hc ho, hG, show itN p i = i + n by omega])
          have HQ := Lib.hid hq
          have i4 : ((n : Int) == 0) = false := beq_eq_false_iff_ne.2 (by omega)
          clear hh hc hcc hq ho hbd hb1 hb2 hG hn
          go_wp2_with fail
          refine (HQ.out _ HT.out).mono ?_
          rintro e w1 ⟨rfl, hb⟩
          have l9 : w.heap.size + 1 < w1.heap.size := Nat.lt_of_lt_of_le ln hb.size
          have e0 := (E0.out.below hb E0.out.lt).alloc (.cells #[.int .u64 (wd (G) 0 : Int), .int .u64 (wd (G) 1 : Int), .int .u64 (wd (G) 2 : Int), .int .u64 (wd (G) 3 : Int)] 32)
          have b0 := (B0.out.below hb B0.out.lt).alloc (.cells #[.int .u64 (wd (G) 0 : Int), .int .u64 (wd (G) 1 : Int), .int .u64 (wd (G) 2 : Int), .int .u64 (wd (G) 3 : Int)] 32)
          have hW := (HW.out.trans (hb.mono HW.out.size)).alloc (Nat.le_trans HW.out.size hb.size) (.cells #[.int .u64 (wd (G) 0 : Int), .int .u64 (wd (G) 1 : Int), .int .u64 (wd (G) 2 : Int), .int .u64 (wd (G) 3 : Int)] 32)
          have hT := (HT.out.to hb).alloc (.cells #[.int .u64 (wd (G) 0 : Int), .int .u64 (wd (G) 1 : Int), .int .u64 (wd (G) 2 : Int), .int .u64 (wd (G) 3 : Int)] 32)
          have s0 := isSet.new w1 G
          clear hb E0 HW HT HQ B0
          go_upto_region 8 with (fail)
          generalize hg : w1.heap.size = A at *
          generalize w1.alloc (.cells #[.int .u64 (wd (G) 0 : Int), .int .u64 (wd (G) 1 : Int), .int .u64 (wd (G) 2 : Int), .int .u64 (wd (G) 3 : Int)] 32) = W at *
          clear hg
          have B0 := Lib.hid b0; have E0 := Lib.hid e0; have HW := Lib.hid hW; have HT := Lib.hid hT
          obtain ⟨s0, s1, s2, s3⟩ := s0.cells
          obtain ⟨y0, y1, y2, y3⟩ := b0.cells
          clear b0 e0 hW hT
          go_wp2_with fail
          refine (or_lit _ _ _).mono ?_
          obtain ⟨G2, hG2⟩ : ∃ G2, (fun x => g x || G x) = G2 := ⟨_, rfl⟩
          rw [hG2]
          rw [hG2] at HE
          clear hG2 s0 s1 s2 s3 y0 y1 y2 y3
          rintro e w2 ⟨rfl, hb⟩
          have hW := HW.out.trans (hb.mono HW.out.size)
          have e0 := E0.out.below hb E0.out.lt
          have b0 := B0.out.below hb B0.out.lt
          have hT := HT.out.to hb
          have ln2 : w.heap.size + 1 < w2.heap.size := b0.lt
          clear hb HW E0 B0 HT
          obtain ⟨z0, z1, z2, z3⟩ := b0.free
          obtain ⟨y0, y1, y2, y3⟩ := b0.cells
          have B1 := Lib.hid (b0.stored G2)
          have E1 := Lib.hid (e0.other4 (c := w.heap.size + 1) ne (.int .u64 (wd G2 0 : Int)) (.int .u64 (wd G2 1 : Int)) (.int .u64 (wd G2 2 : Int)) (.int .u64 (wd G2 3 : Int)))
          have W1 := Lib.hid (below_set4 (c := w.heap.size + 1) hW (by omega) (.int .u64 (wd G2 0 : Int)) (.int .u64 (wd G2 1 : Int)) (.int .u64 (wd G2 2 : Int)) (.int .u64 (wd G2 3 : Int)))
          have T1 := Lib.hid (HT0.out.to (below_set4 (c := w.heap.size + 1) hW (by omega) (.int .u64 (wd G2 0 : Int)) (.int .u64 (wd G2 1 : Int)) (.int .u64 (wd G2 2 : Int)) (.int .u64 (wd G2 3 : Int))))
          clear b0 e0 hW hT
          go_wp2
          go_roundw
          case rel =>
            obtain ⟨u', q1, q2⟩ := HE.out
            exact ⟨i + n, u', G2, by go_num, n2, E1.out, B1.out, W1.out, T1.out, Lib.hid ⟨q1, q2⟩⟩
          case measure => simp [intOf]; omega
    · have i1 : decide ((i : Int) < (p.size : Int)) = false := decide_eq_false (by omega)
      have hie : i = p.size := by omega
      have HE : Hid (R = none) := Lib.hid (by rw [← hh.out.1]; exact brkL_bad (.inl (by omega)))
      have i2 : ((i : Int) == (p.size : Int)) = true := beq_iff_eq.2 (by omega)
      clear hh hie hT b0
      have HV : Hid (sv (fun _ => false) = .agg #[.int .u64 0, .int .u64 0, .int .u64 0, .int .u64 0]) := Lib.hid (by unfold sv; simp only [none_wd]; exact rfl)
      obtain ⟨r0, r1, r2, r3⟩ := e0.free
      have q := e0.cells
      simp only [none_wd] at q
      obtain ⟨q0, q1, q2, q3⟩ := q
      have HR := Lib.hid (below_set4 (c := w.heap.size) hW (Nat.le_refl _) (.int .u64 0) (.int .u64 0) (.int .u64 0) (.int .u64 0))
      clear e0 hW
      go_wp2
      refine bodyPost_ret (v := .tuple #[.agg #[.int .u64 0, .int .u64 0, .int .u64 0, .int .u64 0], .int .i64 0]) (by simp [results, Tryd.results62, go_sem, q0, q1, q2, q3]) rfl ⟨by rw [(HN.out HE.out).1, (HN.out HE.out).2, HV.out]; rfl, HR.out⟩

set_option maxRecDepth 100000 in
set_option maxHeartbeats 1000000 in
theorem lbrk_plain (p : ByteArray) (hp : p.size ≤ 200) (h1 : 1 ≤ p.size) (hnt : gb p 1 ≠ 94) (w : World) (hT : Okw w) :
    Calls Tryd.prog 62 #[.string p] w fun e w' => e = .returned (.tuple #[sv (brF p), .int .i64 (brN p : Nat)]) ∧ Below w.heap.size w w' := by
  obtain ⟨R, hR⟩ : ∃ R, brkL p (p.size + 1) 1 (fun _ => false) = R := ⟨_, rfl⟩
  have HS : Hid (∀ g e, R = some (g, e) → brF p = (g) ∧ brN p = e) := Lib.hid (fun g e h => by
    unfold brF brN brk
    rw [if_neg hnt, Nat.zero_add, hR, h]
    exact ⟨rfl, rfl⟩)
  have HN : Hid (R = none → brF p = (fun _ => false) ∧ brN p = 0) := Lib.hid (fun h => by
    unfold brF brN brk
    rw [if_neg hnt, Nat.zero_add, hR, h]
    exact ⟨rfl, rfl⟩)
  have h2 : 1 ≤ p.size := by
    exact h1
  have HP := Lib.hid (pref_sym (p.extract 1 p.size) notPre false (by rw [pre_not]; exact beq_eq_false_iff_ne.2 hnt))
  have HR := Lib.hid hR
  clear hR hnt
  have v0 : (1 : Int) ≤ (p.size : Int) := by omega
  have E0 := Lib.hid ((isSet.newNone w).alloc (.cells #[.int .u64 0, .int .u64 0, .int .u64 0, .int .u64 0] 32))
  have B0 := Lib.hid (isSet.newNone (w.alloc (.cells #[.int .u64 0, .int .u64 0, .int .u64 0, .int .u64 0] 32)))
  have HW : Hid (Below w.heap.size w ((w.alloc (.cells #[.int .u64 0, .int .u64 0, .int .u64 0, .int .u64 0] 32)).alloc (.cells #[.int .u64 0, .int .u64 0, .int .u64 0, .int .u64 0] 32))) := Lib.hid (((Below.refl _ _).alloc (Nat.le_refl _) _).alloc (by simp) _)
  have HT := Lib.hid ((hT.alloc (.cells #[.int .u64 0, .int .u64 0, .int .u64 0, .int .u64 0] 32)).alloc (.cells #[.int .u64 0, .int .u64 0, .int .u64 0, .int .u64 0] 32))
  have HT0 := Lib.hid hT
  clear hT
  go_enter Tryd.func62, Tryd.ntmps62
  go_wp2_with fail
  refine (HP.out _).mono ?_
  rintro e w0 ⟨rfl, rfl⟩
  clear HP
  go_wp2_with fail
  go_loopw [5] (fun at_ wr => ∃ (i u : Nat) (g : Nat → Bool), at_ = .int .i64 i ∧ i ≤ p.size ∧ isSet wr w.heap.size (fun _ => false) ∧ isSet wr (w.heap.size + 1) g ∧ Below w.heap.size w wr ∧ Okw wr ∧ Hid (brkL p u i g = R ∧ p.size + 1 ≤ u + i)) (fun at_ _ => p.size - (intOf at_).toNat)
  case atStart => exact ⟨1, p.size + 1, _, by go_num, h2, E0.out, by have := B0.out; rw [World.size_alloc] at this; exact this, HW.out, HT.out, Lib.hid ⟨HR.out, by omega⟩⟩
  case round =>
    obtain ⟨i, u, g, rfl, hi, e0, b0, hW, hT, hh⟩ := hrel
    clear E0 B0 HW HT HR
    have ln : w.heap.size + 1 < wr.heap.size := b0.lt
    have ne : w.heap.size ≠ w.heap.size + 1 := by omega
    by_cases hlt : i < p.size
    · have i1 : decide ((i : Int) < (p.size : Int)) = true := decide_eq_true (by omega)
      have gi := gb_in hlt
      by_cases hc : gb p i = 93
      · rw [hc] at gi
        have HE : Hid (R = some (g, i + 1)) := Lib.hid (by
          obtain ⟨q1, q2⟩ := hh.out
          obtain ⟨u', rfl⟩ : ∃ u', u = u' + 1 := ⟨u - 1, by omega⟩
          rw [← q1]
          exact brkL_hit hlt hc)
        clear hh hc
        have i2 : ((i : Int) == (p.size : Int)) = false := beq_eq_false_iff_ne.2 (by omega)
        obtain ⟨s0, s1, s2, s3⟩ := b0.cells
        clear hT
        obtain ⟨r0, r1, r2, r3⟩ := e0.free
        obtain ⟨q0, q1, q2, q3⟩ := e0.cells
        have HR := Lib.hid (below_set4 (c := w.heap.size) hW (Nat.le_refl _) (.int .u64 (wd (g) 0 : Int)) (.int .u64 (wd (g) 1 : Int)) (.int .u64 (wd (g) 2 : Int)) (.int .u64 (wd (g) 3 : Int)))
        have Z := Lib.hid (e0.stored (g)).cells
        clear e0 hW
        go_wp2
        refine bodyPost_ret (v := .tuple #[sv (g), .int .i64 ((i : Int) + 1)]) (by simp [results, Tryd.results62, go_sem, Z.out]) rfl ⟨by rw [(HS.out _ _ HE.out).1, (HS.out _ _ HE.out).2]; rfl, HR.out⟩
      · obtain ⟨c, hcc⟩ : ∃ c, gb p i = c := ⟨_, rfl⟩
        have hq := litem_any (p.extract i p.size) (by simp; omega) (by simp; omega)
        obtain ⟨t1, t2⟩ := it_tail p i
        rw [t1, t2] at hq
        clear t1 t2
        have hbd := it_bd (p := p) (i := i) hlt
        rw [hcc] at gi
        have i2 : ((c : Int) != 93) = true := by simp; omega
        have i3 : (i : Int) ≤ (p.size : Int) := by omega
        have B0 := Lib.hid b0; have E0 := Lib.hid e0; have HW := Lib.hid hW; have HT := Lib.hid hT
        clear b0 e0 hW hT
        cases ho : itOk p i
        · rw [ho, if_neg (by decide), if_neg (by decide)] at hq
          have HQ := Lib.hid hq
          have HE : Hid (R = none) := Lib.hid (by rw [← hh.out.1]; exact brkL_bad (.inr ⟨hc, ho⟩))
          clear hh hc hcc hq ho hbd
          go_wp2_with fail
          refine (HQ.out _ HT.out).mono ?_
          rintro e w1 ⟨rfl, hb⟩
          have e0 := (E0.out.below hb E0.out.lt).alloc (.cells #[.int .u64 (wd (fun _ => false) 0 : Int), .int .u64 (wd (fun _ => false) 1 : Int), .int .u64 (wd (fun _ => false) 2 : Int), .int .u64 (wd (fun _ => false) 3 : Int)] 32)
          have hW := (HW.out.trans (hb.mono HW.out.size)).alloc (Nat.le_trans HW.out.size hb.size) (.cells #[.int .u64 (wd (fun _ => false) 0 : Int), .int .u64 (wd (fun _ => false) 1 : Int), .int .u64 (wd (fun _ => false) 2 : Int), .int .u64 (wd (fun _ => false) 3 : Int)] 32)
          have l9 : w.heap.size < w1.heap.size := Nat.lt_of_lt_of_le E0.out.lt hb.size
          clear hb E0 HW HT HQ B0
          go_upto_region 8 with (fail)
          generalize w1.alloc (.cells #[.int .u64 (wd (fun _ => false) 0 : Int), .int .u64 (wd (fun _ => false) 1 : Int), .int .u64 (wd (fun _ => false) 2 : Int), .int .u64 (wd (fun _ => false) 3 : Int)] 32) = W at *
          have HV : Hid (sv (fun _ => false) = .agg #[.int .u64 0, .int .u64 0, .int .u64 0, .int .u64 0]) := Lib.hid (by unfold sv; simp only [none_wd]; exact rfl)
          obtain ⟨r0, r1, r2, r3⟩ := e0.free
          have q := e0.cells
          simp only [none_wd] at q
          obtain ⟨q0, q1, q2, q3⟩ := q
          have HR := Lib.hid (below_set4 (c := w.heap.size) hW (Nat.le_refl _) (.int .u64 0) (.int .u64 0) (.int .u64 0) (.int .u64 0))
          clear e0 hW
          go_wp2
          refine bodyPost_ret (v := .tuple #[.agg #[.int .u64 0, .int .u64 0, .int .u64 0, .int .u64 0], .int .i64 0]) (by simp [results, Tryd.results62, go_sem, q0, q1, q2, q3]) rfl ⟨by rw [(HN.out HE.out).1, (HN.out HE.out).2, HV.out]; rfl, HR.out⟩
        · rw [ho, if_pos rfl, if_pos rfl] at hq
          obtain ⟨hb1, hb2⟩ := hbd ho
          obtain ⟨G, hG⟩ : ∃ G, itF p i = G := ⟨_, rfl⟩
          obtain ⟨n, hn⟩ : ∃ n, itN p i - i = n := ⟨_, rfl⟩
          rw [hG, hn] at hq
          have n1 : 1 ≤ n := by omega
          have n2 : i + n ≤ p.size := by omega
          have HE : Hid (∃ u', brkL p u' (i + n) (fun x => g x || G x) = R ∧ p.size + 1 ≤ u' + (i + n)) := Lib.hid (by
            obtain ⟨q1, q2⟩ := hh.out
            obtain ⟨u', rfl⟩ : ∃ u', u = u' + 1 := ⟨u - 1, by omega⟩
            refine ⟨u', ?_, by omega⟩
            rw [← q1, brkL_step hlt hc ho, hG, show itN p i = i + n by omega])
          have HQ := Lib.hid hq
          have i4 : ((n : Int) == 0) = false := beq_eq_false_iff_ne.2 (by omega)
          clear hh hc hcc hq ho hbd hb1 hb2 hG hn
          go_wp2_with fail
          refine (HQ.out _ HT.out).mono ?_
          rintro e w1 ⟨rfl, hb⟩
          have l9 : w.heap.size + 1 < w1.heap.size := Nat.lt_of_lt_of_le ln hb.size
          have e0 := (E0.out.below hb E0.out.lt).alloc (.cells #[.int .u64 (wd (G) 0 : Int), .int .u64 (wd (G) 1 : Int), .int .u64 (wd (G) 2 : Int), .int .u64 (wd (G) 3 : Int)] 32)
          have b0 := (B0.out.below hb B0.out.lt).alloc (.cells #[.int .u64 (wd (G) 0 : Int), .int .u64 (wd (G) 1 : Int), .int .u64 (wd (G) 2 : Int), .int .u64 (wd (G) 3 : Int)] 32)
          have hW := (HW.out.trans (hb.mono HW.out.size)).alloc (Nat.le_trans HW.out.size hb.size) (.cells #[.int .u64 (wd (G) 0 : Int), .int .u64 (wd (G) 1 : Int), .int .u64 (wd (G) 2 : Int), .int .u64 (wd (G) 3 : Int)] 32)
          have hT := (HT.out.to hb).alloc (.cells #[.int .u64 (wd (G) 0 : Int), .int .u64 (wd (G) 1 : Int), .int .u64 (wd (G) 2 : Int), .int .u64 (wd (G) 3 : Int)] 32)
          have s0 := isSet.new w1 G
          clear hb E0 HW HT HQ B0
          go_upto_region 8 with (fail)
          generalize hg : w1.heap.size = A at *
          generalize w1.alloc (.cells #[.int .u64 (wd (G) 0 : Int), .int .u64 (wd (G) 1 : Int), .int .u64 (wd (G) 2 : Int), .int .u64 (wd (G) 3 : Int)] 32) = W at *
          clear hg
          have B0 := Lib.hid b0; have E0 := Lib.hid e0; have HW := Lib.hid hW; have HT := Lib.hid hT
          obtain ⟨s0, s1, s2, s3⟩ := s0.cells
          obtain ⟨y0, y1, y2, y3⟩ := b0.cells
          clear b0 e0 hW hT
          go_wp2_with fail
          refine (or_lit _ _ _).mono ?_
          obtain ⟨G2, hG2⟩ : ∃ G2, (fun x => g x || G x) = G2 := ⟨_, rfl⟩
          rw [hG2]
          rw [hG2] at HE
          clear hG2 s0 s1 s2 s3 y0 y1 y2 y3
          rintro e w2 ⟨rfl, hb⟩
          have hW := HW.out.trans (hb.mono HW.out.size)
          have e0 := E0.out.below hb E0.out.lt
          have b0 := B0.out.below hb B0.out.lt
          have hT := HT.out.to hb
          have ln2 : w.heap.size + 1 < w2.heap.size := b0.lt
          clear hb HW E0 B0 HT
          obtain ⟨z0, z1, z2, z3⟩ := b0.free
          obtain ⟨y0, y1, y2, y3⟩ := b0.cells
          have B1 := Lib.hid (b0.stored G2)
          have E1 := Lib.hid (e0.other4 (c := w.heap.size + 1) ne (.int .u64 (wd G2 0 : Int)) (.int .u64 (wd G2 1 : Int)) (.int .u64 (wd G2 2 : Int)) (.int .u64 (wd G2 3 : Int)))
          have W1 := Lib.hid (below_set4 (c := w.heap.size + 1) hW (by omega) (.int .u64 (wd G2 0 : Int)) (.int .u64 (wd G2 1 : Int)) (.int .u64 (wd G2 2 : Int)) (.int .u64 (wd G2 3 : Int)))
          have T1 := Lib.hid (HT0.out.to (below_set4 (c := w.heap.size + 1) hW (by omega) (.int .u64 (wd G2 0 : Int)) (.int .u64 (wd G2 1 : Int)) (.int .u64 (wd G2 2 : Int)) (.int .u64 (wd G2 3 : Int))))
          clear b0 e0 hW hT
          go_wp2
          go_roundw
          case rel =>
            obtain ⟨u', q1, q2⟩ := HE.out
            exact ⟨i + n, u', G2, by go_num, n2, E1.out, B1.out, W1.out, T1.out, Lib.hid ⟨q1, q2⟩⟩
          case measure => simp [intOf]; omega
    · have i1 : decide ((i : Int) < (p.size : Int)) = false := decide_eq_false (by omega)
      have hie : i = p.size := by omega
      have HE : Hid (R = none) := Lib.hid (by rw [← hh.out.1]; exact brkL_bad (.inl (by omega)))
      have i2 : ((i : Int) == (p.size : Int)) = true := beq_iff_eq.2 (by omega)
      clear hh hie hT b0
      have HV : Hid (sv (fun _ => false) = .agg #[.int .u64 0, .int .u64 0, .int .u64 0, .int .u64 0]) := Lib.hid (by unfold sv; simp only [none_wd]; exact rfl)
      obtain ⟨r0, r1, r2, r3⟩ := e0.free
      have q := e0.cells
      simp only [none_wd] at q
      obtain ⟨q0, q1, q2, q3⟩ := q
      have HR := Lib.hid (below_set4 (c := w.heap.size) hW (Nat.le_refl _) (.int .u64 0) (.int .u64 0) (.int .u64 0) (.int .u64 0))
      clear e0 hW
      go_wp2
      refine bodyPost_ret (v := .tuple #[.agg #[.int .u64 0, .int .u64 0, .int .u64 0, .int .u64 0], .int .i64 0]) (by simp [results, Tryd.results62, go_sem, q0, q1, q2, q3]) rfl ⟨by rw [(HN.out HE.out).1, (HN.out HE.out).2, HV.out]; rfl, HR.out⟩

theorem lbrk_any (p : ByteArray) (hp : p.size ≤ 200) (h1 : 1 ≤ p.size) (w : World) (hT : Okw w) :
    Calls Tryd.prog 62 #[.string p] w fun e w' => e = .returned (.tuple #[sv (brF p), .int .i64 (brN p : Nat)]) ∧ Below w.heap.size w w' := by
  by_cases h : gb p 1 = 94
  · exact lbrk_not p hp h1 h w hT
  · exact lbrk_plain p hp h1 h w hT
end Go.Proofs.YtgjpmfdiidkdnaaDoor
