/-
  What symbols are alike to no states, and to one more. Plain.
  Maps whose keys are pairs of numbers: what a key reads as; what either list tells apart, as a map.
-/
import Derived.Test.YthmkjdpmpcjinaaPk29
import Derived.Test.YthmkjdpmpcjinaaPk28
import Derived.Maps.OwnSet
import Derived.DeepKeys4
namespace Go.Proofs.Ythmkjdpmpcjinaa

theorem alk_zero {S : Nat → Sd} {x y : Nat} : alk S 0 x y = true ↔ x = y ∨ (x ≤ 255 ∧ y ≤ 255) := by
  rw [alk_iff]
  constructor
  · rintro (h | ⟨h1, h2, _⟩)
    · exact .inl h
    · exact .inr ⟨h1, h2⟩
  · rintro (h | ⟨h1, h2⟩)
    · exact .inl h
    · exact .inr ⟨h1, h2, fun i hi => absurd hi (Nat.not_lt_zero _)⟩
theorem hdA_bytes {S : Nat → Sd} {x : Nat} (h : x ≤ 255) : hdA (alk S 0) x = 0 := by
  rcases Nat.eq_zero_or_pos x with rfl | h0
  · exact hdA_self fun j hj => absurd hj (Nat.not_lt_zero _)
  · exact hdA_is h0 (alk_zero.2 (.inr ⟨by omega, h⟩)) fun j hj => absurd hj (Nat.not_lt_zero _)
theorem hdA_ends {S : Nat → Sd} {x : Nat} (h : 255 < x) : hdA (alk S 0) x = x := hdA_self fun j hj => by
  cases e : alk S 0 j x with
  | false => rfl
  | true => rcases alk_zero.1 e with h | h <;> omega
theorem cnt_bytes (S : Nat → Sd) : ∀ n, n ≤ 255 → cntT (isH (alk S 0)) (n + 1) = 1
  | 0, _ => by
    rw [cntT_succ]
    have : isH (alk S 0) 0 = true := by unfold isH; rw [beq_iff_eq]; exact hdA_bytes (by omega)
    rw [if_pos this]; rfl
  | n + 1, h => by
    have : isH (alk S 0) (n + 1) = false := by unfold isH; rw [hdA_bytes h]; simp
    rw [cntT_succ, cnt_bytes S n (by omega), this]; rfl
theorem cnt_ends (S : Nat → Sd) : ∀ k, cntT (isH (alk S 0)) (256 + k) = 1 + k
  | 0 => cnt_bytes S 255 (by omega)
  | k + 1 => by
    have : isH (alk S 0) (256 + k) = true := by unfold isH; rw [beq_iff_eq]; exact hdA_ends (by omega)
    rw [show 256 + (k + 1) = (256 + k) + 1 by omega, cntT_succ, cnt_ends S k, if_pos this]; omega
theorem cl_zero (S : Nat → Sd) (x : Nat) : endF x = (clA (alk S 0) x : Nat) := by
  unfold endF clA
  by_cases h : x < 256
  · rw [if_pos h, hdA_bytes (by omega)]; rfl
  · rw [if_neg h, hdA_ends (by omega)]
    obtain ⟨k, rfl⟩ : ∃ k, x = 256 + k := ⟨x - 256, by omega⟩
    rw [cnt_ends]; omega
theorem wi_eq {f : Nat → Bool} {x y : Nat} (hx : x ≤ 255) (hy : y ≤ 255) : wiF f x = wiF f y ↔ f x = f y := by
  unfold wiF
  have h1 : x < 256 := by omega
  have h2 : y < 256 := by omega
  cases f x <;> cases f y <;> simp [h1, h2]
/-- A set more. -/
theorem alk_next (S : Nat → Sd) (i : Nat) : joR (fun x => (clA (alk S i) x : Nat)) (wiF (sOf (S i))) = alk S (i + 1) := by
  funext x y
  rw [Bool.eq_iff_iff, joR_iff, alk_iff]
  have h1 : (((clA (alk S i) x : Nat) : Int) = ((clA (alk S i) y : Nat) : Int)) ↔ (x = y ∨ (x ≤ 255 ∧ y ≤ 255 ∧ ∀ j, j < i → sOf (S j) x = sOf (S j) y)) := by
    rw [← alk_iff, ← clA_iff (alk_eq S i)]; omega
  rw [h1]
  constructor
  · rintro ⟨h | ⟨h2, h3, h4⟩, h5⟩
    · exact .inl h
    · refine .inr ⟨h2, h3, fun j hj => ?_⟩
      by_cases e : j = i
      · subst e; exact (wi_eq h2 h3).1 h5
      · exact h4 j (by omega)
  · rintro (rfl | ⟨h2, h3, h4⟩)
    · exact ⟨.inl rfl, rfl⟩
    · exact ⟨.inr ⟨h2, h3, fun j hj => h4 j (by omega)⟩, (wi_eq h2 h3).2 (h4 i (Nat.lt_succ_self i))⟩
theorem ofWords_none (x : Nat) : ofWords 0 0 0 0 x = false := by
  unfold ofWords
  simp
/-- A state without a set more. -/
theorem alk_skip {S : Nat → Sd} {i : Nat} (h : (S i).a = 0 ∧ (S i).b = 0 ∧ (S i).c = 0 ∧ (S i).d = 0) : alk S (i + 1) = alk S i := by
  have hs : ∀ x, sOf (S i) x = false := fun x => by
    unfold sOf
    rw [h.1, h.2.1, h.2.2.1, h.2.2.2]
    exact ofWords_none x
  funext x y
  rw [Bool.eq_iff_iff, alk_iff, alk_iff]
  constructor
  · rintro (h | ⟨h1, h2, h3⟩)
    · exact .inl h
    · exact .inr ⟨h1, h2, fun j hj => h3 j (by omega)⟩
  · rintro (h | ⟨h1, h2, h3⟩)
    · exact .inl h
    · refine .inr ⟨h1, h2, fun j hj => ?_⟩
      by_cases e : j = i
      · subst e; rw [hs, hs]
      · exact h3 j (by omega)
end Go.Proofs.Ythmkjdpmpcjinaa

namespace Go.Proofs.Ythmkjdpmpcjinaa
open Go.RowKit

theorem laidOut10 : laidOutB Try.prog = true := by kernel_rfl
theorem pairWide : (match Try.prog.underlying 48 with | some (.array _ _) | some (.struct _) => true | _ => false) = true := by kernel_rfl
theorem pairLaw : Go.Maps.Keyed Try.prog 48 := Go.Maps.Keyed.of_law (deep_law_laid laidOut10 (m := 3) (by omega) (of_decide_eq_true (by kernel_rfl)) (by kernel_rfl) pairWide)
theorem pairKey : Try.prog.keyType 48 = true := by kernel_rfl
theorem pairCells : Try.prog.cellsOf 48 = 2 := by kernel_rfl
theorem intCells10 : Try.prog.cellsOf 3 = 1 := by kernel_rfl
/-- What a pair reads as. -/
def kpL (a b : Int) : Lit := .string (keyBytes [.int .i64 a, .int .i64 b])
@[reducible] def prV (a b : Int) : Value := .agg #[.int .i64 a, .int .i64 b]
set_option maxRecDepth 100000 in
theorem pairLits (n : Nat) {a b : Int} (ha : wfI a) (hb : wfI b) : Try.prog.keyLits (n + 2) 48 [.int .i64 a, .int .i64 b] = some [.int .i64 a, .int .i64 b] := by
  unfold wfI at ha hb
  have e : ∀ x : Int, (Lit.int .i64 x).wf = true → Try.prog.keyLits (n + 1) 3 [.int .i64 x] = some [.int .i64 x] := fun x hx => by
    simp [Program.keyLits, Try.underlying3, hx]
  unfold Program.keyLits
  simp only [Try.underlying48]
  simp [pairCells, intCells10, e _ ha, e _ hb]
theorem pairSize : ∃ n, Try.prog.types.size = n + 1 := ⟨_, (rfl : Try.prog.types.size = (Try.prog.types.size - 1) + 1)⟩
theorem kp_key {a b : Int} (ha : wfI a) (hb : wfI b) : keyOf Try.prog 48 (prV a b) = some (kpL a b) := by
  obtain ⟨n, hn⟩ := pairSize
  have hl := pairLits n ha hb
  have hf : (prV a b).formed Try.prog 48 = true := by
    simp [Value.formed, Try.underlying48, pairCells]
  unfold keyOf
  rw [Try.underlying48]
  simp only [pairKey, hf, hn, Bool.and_self, if_true]
  have : (prV a b).cells.toList = [.int .i64 a, .int .i64 b] := rfl
  rw [this, hl]
  rfl
theorem kp_inj {a b a' b' : Int} (ha : wfI a) (hb : wfI b) (ha' : wfI a') (hb' : wfI b') : kpL a b = kpL a' b' ↔ a = a' ∧ b = b' := by
  constructor
  · intro h
    have h1 := kp_key ha hb
    rw [h] at h1
    have := pairLaw.inj h1 (kp_key ha' hb')
    simpa [prV] using this
  · rintro ⟨rfl, rfl⟩; rfl
theorem kp_lit {a b : Int} (ha : wfI a) (hb : wfI b) : WideAt.IsKeyLit (kpL a b) := pairLaw.key (kp_key ha hb)
theorem zeroI10 (w : World) : (zeroValue 3).run Try.prog w = .ok (.int .i64 0) w := by kernel_rfl

abbrev Dm := DataW Unit
@[reducible] def iL (x : Int) : Dm := .lit (.int .i64 x)
/-- The map behind i rounds: the pairs of the first i places, each with its class. -/
def mpJ (l l' : Nat → Int) (i : Nat) (D : Dm) : Prop :=
  Maps.size D = cntT (isH (joR l l')) i ∧ ∀ x : Nat, wfI (l x) → wfI (l' x) →
    ((∃ j, j < i ∧ joR l l' j x = true) → Maps.has D (kpL (l x) (l' x)) = true ∧ D.atKey (kpL (l x) (l' x)) (iL 0) = iL (clA (joR l l') x : Nat)) ∧
    ((∀ j, j < i → joR l l' j x = false) → Maps.has D (kpL (l x) (l' x)) = false)
theorem mpJ_zero (l l' : Nat → Int) : mpJ l l' 0 (.map []) := ⟨rfl, fun _ _ _ => ⟨fun ⟨_, h, _⟩ => absurd h (Nat.not_lt_zero _), fun _ => rfl⟩⟩
/-- A pair that was met: nothing turns. -/
theorem mpJ_old {l l' : Nat → Int} {i : Nat} {D : Dm} (h : mpJ l l' i D) (hm : ∃ j, j < i ∧ joR l l' j i = true) : mpJ l l' (i + 1) D := by
  obtain ⟨j, hj, hji⟩ := hm
  have hR := joR_eq l l'
  have hnh : isH (joR l l') i = false := by
    unfold isH
    have h1 := hdA_le (joR l l') j
    have h2 := hdA_same hR hji
    rw [← h2]
    simp; omega
  refine ⟨by rw [h.1, cntT_succ, if_neg (by rw [hnh]; simp)]; rfl, fun x hx hx' => ⟨fun ⟨k, hk, hkx⟩ => ?_, fun hn => (h.2 x hx hx').2 fun k hk => hn k (by omega)⟩⟩
  by_cases e : k = i
  · subst e
    exact (h.2 x hx hx').1 ⟨j, hj, hR.tr _ _ _ hji hkx⟩
  · exact (h.2 x hx hx').1 ⟨k, by omega, hkx⟩
/-- A pair that is new. -/
theorem mpJ_new {l l' : Nat → Int} {i : Nat} {D : Dm} (h : mpJ l l' i D) (ht : Maps.Tidy D) (hw : wfI (l i)) (hw' : wfI (l' i)) (hm : ∀ j, j < i → joR l l' j i = false) :
    mpJ l l' (i + 1) (D.put (kpL (l i) (l' i)) (iL (cntT (isH (joR l l')) i : Nat))) ∧ clA (joR l l') i = cntT (isH (joR l l')) i := by
  have hR := joR_eq l l'
  have hself := hdA_self hm
  have hih : isH (joR l l') i = true := by unfold isH; rw [beq_iff_eq]; exact hself
  have hcl := clA_head hih
  have hkl := kp_lit hw hw'
  have hno := (h.2 i hw hw').2 hm
  refine ⟨⟨?_, fun x hx hx' => ?_⟩, hcl⟩
  · rw [Maps.size_put ht, hno, h.1, cntT_succ, hih]; simp
  · by_cases e : joR l l' i x = true
    · have e2 := joR_iff.1 e
      have ek : kpL (l x) (l' x) = kpL (l i) (l' i) := by rw [e2.1, e2.2]
      rw [ek]
      refine ⟨fun _ => ⟨Maps.has_put_same ht.isMap hkl _, ?_⟩, fun hn => ?_⟩
      · rw [Maps.atKey_put_same ht.isMap hkl, ← hcl, (clA_iff hR).2 e]
      · rw [hn i (Nat.lt_succ_self i)] at e; cases e
    · have ek : kpL (l x) (l' x) ≠ kpL (l i) (l' i) := fun g => e (joR_iff.2 (by have := (kp_inj hx hx' hw hw').1 g; exact ⟨this.1.symm, this.2.symm⟩))
      rw [Maps.has_put_other ek, Maps.atKey_put_other ek]
      refine ⟨fun ⟨k, hk, hkx⟩ => ?_, fun hn => (h.2 x hx hx').2 fun k hk => hn k (by omega)⟩
      by_cases g : k = i
      · subst g; exact absurd hkx e
      · exact (h.2 x hx hx').1 ⟨k, by omega, hkx⟩
end Go.Proofs.Ythmkjdpmpcjinaa
