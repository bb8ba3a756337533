/-
  Where one comes at once, and by bytes; what leads to the end. Plain facts.
  What all texts of the tree lean on: imports, small words on worlds, slices that read as nodes or as numbers.
  Rows of bools, and states, in memory; where one comes at once as the reference counts it.
-/
import Derived.Test.YtpfbmbegddemoaaPk8
import Derived.Test.YtpfbmbegddemoaaPk3
import Derived.Test.YtpfbmbegddemoaaPk1
import Derived.Test.YtpfbmbegddemoaaProg
import Derived.WalkKit
import Derived.WalkSpells
import Derived.WalkLawsBesides
import Derived.Handy
import Derived.KernelRfl
import Derived.Deep.RegionHeld3
import Derived.Deep.RegionHeldLaw
import Derived.Deep.QuietTactic
import Derived.BigQuiet
import Derived.Lib.Hide
import Derived.OneCell
import Derived.Laws.StructEq
import Derived.Laws.OwnMore
import Derived.Laws.IdiomArrays
import Derived.OwnWalk
namespace Go.Proofs.Ytpfbmbegddemoaa

/-- As many states are told as there are, at most 2^20. -/
theorem sz_nst : ∀ t, okT t → szF t = cap20 (nst t : Nat)
  | .leaf _, _ => rfl
  | .cat a b, h => by
    have h1 := sz_nst a h.1; have h2 := sz_nst b h.2
    show cap20 (szF a + szF b) = cap20 ((nst a + nst b : Nat) : Int)
    rw [h1, h2]; unfold cap20; omega
  | .or a b, h => by
    have h1 := sz_nst a h.1; have h2 := sz_nst b h.2
    show cap20 (szF a + szF b + 2) = cap20 ((nst a + nst b + 2 : Nat) : Int)
    rw [h1, h2]; unfold cap20; omega
  | .rep a lo hi, h => by
    have h1 := sz_nst a h.1
    obtain ⟨-, g1, g2, g3⟩ := h
    obtain ⟨L, rfl⟩ : ∃ L : Nat, lo = L := ⟨lo.toNat, by omega⟩
    show cap20 (2 + (L : Int) * szF a + (if hi = -1 then szF a + 1 else (hi - L) * (szF a + 1))) = cap20 ((2 + (L : Int).toNat * nst a + (if hi = -1 then nst a + 1 else (hi - L).toNat * (nst a + 1)) : Nat) : Int)
    have h2 := nst_two a
    obtain ⟨s, hs⟩ : ∃ s : Nat, szF a = s := ⟨(szF a).toNat, by have := cap_two (n := (nst a : Int)) (by omega); rw [← h1] at this; omega⟩
    have hs' : (s : Int) = cap20 (nst a : Nat) := by rw [← hs, h1]
    rw [hs, Int.toNat_natCast]
    have m1 : L = 0 ∨ (s ≤ L * s ∧ nst a ≤ L * nst a) := by
      rcases Nat.eq_zero_or_pos L with h | h
      · exact .inl h
      · exact .inr ⟨Nat.le_mul_of_pos_left _ h, Nat.le_mul_of_pos_left _ h⟩
    have e1 : (L : Int) * (s : Int) = ((L * s : Nat) : Int) := by rw [Int.natCast_mul]
    rw [e1]
    by_cases hh : hi = -1
    · rw [if_pos hh, if_pos hh]
      by_cases hc : nst a ≤ 1048576
      · have : s = nst a := by unfold cap20 at hs'; omega
        rw [this]; congr 1
      · have : s = 1048576 := by unfold cap20 at hs'; omega
        unfold cap20
        omega
    · rw [if_neg hh, if_neg hh]
      obtain ⟨H, hH⟩ : ∃ H : Nat, hi - L = H := ⟨(hi - L).toNat, by omega⟩
      rw [hH, Int.toNat_natCast]
      have e2 : (H : Int) * ((s : Int) + 1) = ((H * (s + 1) : Nat) : Int) := by rw [Int.natCast_mul]; rfl
      rw [e2]
      have m2 : H = 0 ∨ (s + 1 ≤ H * (s + 1) ∧ nst a + 1 ≤ H * (nst a + 1)) := by
        rcases Nat.eq_zero_or_pos H with h | h
        · exact .inl h
        · exact .inr ⟨Nat.le_mul_of_pos_left _ h, Nat.le_mul_of_pos_left _ h⟩
      by_cases hc : nst a ≤ 1048576
      · have : s = nst a := by unfold cap20 at hs'; omega
        rw [this]; congr 1
      · have : s = 1048576 := by unfold cap20 at hs'; omega
        rcases m1 with rfl | m1
        · rcases m2 with rfl | m2
          · simp
          · unfold cap20; omega
        · unfold cap20; omega

section
variable {S : Nat → Sd}
/-- At once from a state to another one. -/
def ep (S : Nat → Sd) (sym : Int) (q q' : Nat) : Prop :=
  ((S q).k = 2 ∨ (S q).k = 3 ∨ ((S q).k = 4 ∧ (sym = 256 ∨ sym = 258)) ∨ ((S q).k = 5 ∧ (sym = 257 ∨ sym = 258))) ∧ (q' : Int) = (S q).A ∨ (S q).k = 3 ∧ (q' : Int) = (S q).B
inductive rt (S : Nat → Sd) (sym : Int) : Nat → Nat → Prop where
  | refl (q : Nat) : rt S sym q q
  | tail {q q' q'' : Nat} : rt S sym q q' → ep S sym q' q'' → rt S sym q q''
theorem rt.trans {sym : Int} {a b c : Nat} (h : rt S sym a b) (g : rt S sym b c) : rt S sym a c := by
  induction g with
  | refl => exact h
  | tail _ h2 ih => exact .tail ih h2
theorem ep.any {sym : Int} {q q' : Nat} (h : ep S 0 q q') : ep S sym q q' := by
  unfold ep at h ⊢
  rcases h with ⟨h | h | ⟨h, h'⟩ | ⟨h, h'⟩, g⟩ | h
  · exact .inl ⟨.inl h, g⟩
  · exact .inl ⟨.inr (.inl h), g⟩
  · omega
  · omega
  · exact .inr h
theorem rt.any {sym : Int} {q q' : Nat} (h : rt S 0 q q') : rt S sym q q' := by
  induction h with
  | refl => exact .refl _
  | tail _ h2 ih => exact .tail ih h2.any
/-- Where one comes at once from some states; by a byte. -/
def Cl (S : Nat → Sd) (sym : Int) (P : Nat → Prop) (q : Nat) : Prop := ∃ q0, P q0 ∧ rt S sym q0 q
def By (S : Nat → Sd) (b : Nat) (P : Nat → Prop) (q : Nat) : Prop := ∃ q0, P q0 ∧ (S q0).k = 1 ∧ sOf (S q0) b = true ∧ (q : Int) = (S q0).A
theorem Cl_Cl {sym : Int} {P : Nat → Prop} : Cl S sym (Cl S 0 P) = Cl S sym P := by
  funext q
  apply propext
  constructor
  · rintro ⟨q1, ⟨q0, h0, h1⟩, h2⟩
    exact ⟨q0, h0, h1.any.trans h2⟩
  · rintro ⟨q0, h0, h1⟩
    exact ⟨q0, ⟨q0, h0, .refl _⟩, h1⟩
theorem Cl_zero {P : Nat → Prop} : Cl S 0 (Cl S 0 P) = Cl S 0 P := Cl_Cl
def runF (S : Nat → Sd) (tx : Nat → Nat) : Nat → Nat → (Nat → Prop) → Nat → Prop
  | _, 0, P => P
  | i, k + 1, P => runF S tx (i + 1) k (Cl S 0 (By S (tx i) P))
/-- What leads to the end, as the page has it. -/
def fitsP (S : Nat → Sd) (n : Nat) (tx : Nat → Nat) (st fin i j : Nat) : Prop :=
  if n = 0 then Cl S 258 (Cl S 0 fun q => q = st) fin
  else if j = n then Cl S 257 (runF S tx i (j - i) (if i = 0 then Cl S 256 (Cl S 0 fun q => q = st) else Cl S 0 fun q => q = st)) fin
  else runF S tx i (j - i) (if i = 0 then Cl S 256 (Cl S 0 fun q => q = st) else Cl S 0 fun q => q = st) fin

/-- The symbol of a place of a text. -/
def syA (n i : Nat) : Int := if n = 0 then 258 else if i = 0 then 256 else if i = n then 257 else 0
theorem stp_iff {n : Nat} {tx : Nat → Nat} {q i q' i' : Nat} (hi : i ≤ n) : stp S n tx q i q' i' ↔ ((S q).k = 1 ∧ i < n ∧ sOf (S q) (tx i) = true ∧ (q' : Int) = (S q).A ∧ i' = i + 1) ∨ (i' = i ∧ ep S (syA n i) q q') := by
  have h1 : i = 0 ↔ (syA n i = 256 ∨ syA n i = 258) := by
    unfold syA
    split
    · omega
    · split
      · omega
      · split <;> omega
  have h2 : i = n ↔ (syA n i = 257 ∨ syA n i = 258) := by
    unfold syA
    split
    · omega
    · split
      · omega
      · split <;> omega
  unfold stp ep
  rw [h1, h2]
/-- From some states at a place, by so many bytes, each place's own symbol counting. -/
def runA (S : Nat → Sd) (n : Nat) (tx : Nat → Nat) : Nat → Nat → (Nat → Prop) → Nat → Prop
  | _, 0, P => P
  | i, k + 1, P => runA S n tx (i + 1) k (Cl S (syA n (i + 1)) (By S (tx i) P))
theorem runA_of {n : Nat} {tx : Nat → Nat} {fin j : Nat} : ∀ {r q i}, i ≤ j → j ≤ n → wk S n tx fin j r q i → ∀ P : Nat → Prop, P q → (∀ a b, P a → ep S (syA n i) a b → P b) → runA S n tx i (j - i) P fin
  | 0, q, i, h1, h2, ⟨e1, e2⟩, P, hP, _ => by
    subst e1 e2
    rw [Nat.sub_self]; exact hP
  | r + 1, q, i, h1, h2, ⟨q', i', hs, hw⟩, P, hP, hc => by
    rcases (stp_iff (by omega)).1 hs with ⟨g1, g2, g3, g4, rfl⟩ | ⟨rfl, g⟩
    · have hle : ∀ {r q i}, wk S n tx fin j r q i → i ≤ j := by
        intro r
        induction r with
        | zero => rintro q i ⟨_, rfl⟩; omega
        | succ r ih =>
          rintro q i ⟨q', i', hs, hw⟩
          have := ih hw
          unfold stp at hs
          omega
      have hj := hle hw
      rw [show j - i = (j - (i + 1)) + 1 by omega]
      exact runA_of hj h2 hw _ ⟨q', ⟨q, hP, g1, g3, g4⟩, .refl _⟩ (fun a b ⟨q0, k1, k2⟩ k3 => ⟨q0, k1, .tail k2 k3⟩)
    · exact runA_of h1 h2 hw P (hc q q' hP g) hc
theorem wk_add {n : Nat} {tx : Nat → Nat} {a i b j c l : Nat} : ∀ {r r'}, wk S n tx b j r a i → wk S n tx c l r' b j → ∃ r'', wk S n tx c l r'' a i
  | 0, r', ⟨h1, h2⟩, g => by subst h1 h2; exact ⟨r', g⟩
  | r + 1, r', ⟨q', i', hs, hw⟩, g => by
    obtain ⟨r'', h⟩ := wk_add hw g
    exact ⟨r'' + 1, q', i', hs, h⟩
theorem wk_rt {n : Nat} {tx : Nat → Nat} {a b i : Nat} (hi : i ≤ n) (h : rt S (syA n i) a b) : ∃ r, wk S n tx b i r a i := by
  induction h with
  | refl => exact ⟨0, rfl, rfl⟩
  | @tail q' q'' _ h2 ih =>
    obtain ⟨r, h⟩ := ih
    exact wk_add (r' := 1) h ⟨q'', i, (stp_iff hi).2 (.inr ⟨rfl, h2⟩), rfl, rfl⟩
theorem of_runA {n : Nat} {tx : Nat → Nat} {fin : Nat} : ∀ {k i} {P : Nat → Prop}, i + k ≤ n → runA S n tx i k P fin → ∃ q, P q ∧ ∃ r, wk S n tx fin (i + k) r q i
  | 0, i, P, _, h => ⟨fin, h, 0, rfl, rfl⟩
  | k + 1, i, P, hk, h => by
    obtain ⟨q, ⟨q1, ⟨q0, g1, g2, g3, g4⟩, g5⟩, r, hw⟩ := of_runA (i := i + 1) (k := k) (by omega) h
    obtain ⟨r1, w1⟩ := wk_rt (tx := tx) (by omega) g5
    obtain ⟨r2, w2⟩ := wk_add w1 hw
    refine ⟨q0, g1, r2 + 1, q1, i + 1, .inl ⟨g2, by omega, g3, g4, rfl⟩, ?_⟩
    rw [show i + (k + 1) = i + 1 + k by omega]; exact w2
theorem wk_iff {n : Nat} {tx : Nat → Nat} {st fin i j : Nat} (h1 : i ≤ j) (h2 : j ≤ n) : (∃ r, wk S n tx fin j r st i) ↔ runA S n tx i (j - i) (Cl S (syA n i) fun q => q = st) fin := by
  constructor
  · rintro ⟨r, hw⟩
    exact runA_of h1 h2 hw _ ⟨st, rfl, .refl _⟩ (fun a b ⟨q0, k1, k2⟩ k3 => ⟨q0, k1, .tail k2 k3⟩)
  · intro h
    obtain ⟨q, ⟨q0, rfl, g⟩, r, hw⟩ := of_runA (by omega) h
    rw [show i + (j - i) = j by omega] at hw
    obtain ⟨r1, w1⟩ := wk_rt (tx := tx) (by omega) g
    exact wk_add w1 hw
/-- Ahead of the text's end each place's own symbol is none; at it, the end's counts behind. -/
theorem runA_F {n : Nat} {tx : Nat → Nat} : ∀ {k i} {P : Nat → Prop}, i + k < n → runA S n tx i k P = runF S tx i k P
  | 0, _, _, _ => rfl
  | k + 1, i, P, h => by
    show runA S n tx (i + 1) k (Cl S (syA n (i + 1)) (By S (tx i) P)) = runF S tx (i + 1) k (Cl S 0 (By S (tx i) P))
    rw [show syA n (i + 1) = 0 by unfold syA; rw [if_neg (by omega), if_neg (by omega), if_neg (by omega)]]
    exact runA_F (by omega)
theorem runA_E {n : Nat} {tx : Nat → Nat} : ∀ {k i} {P : Nat → Prop}, i + (k + 1) = n → runA S n tx i (k + 1) P = Cl S 257 (runF S tx i (k + 1) P)
  | 0, i, P, h => by
    show Cl S (syA n (i + 1)) (By S (tx i) P) = Cl S 257 (Cl S 0 (By S (tx i) P))
    rw [show syA n (i + 1) = 257 by unfold syA; rw [if_neg (by omega), if_neg (by omega), if_pos (by omega)], Cl_Cl]
  | k + 1, i, P, h => by
    show runA S n tx (i + 1) (k + 1) (Cl S (syA n (i + 1)) (By S (tx i) P)) = Cl S 257 (runF S tx (i + 1) (k + 1) (Cl S 0 (By S (tx i) P)))
    rw [show syA n (i + 1) = 0 by unfold syA; rw [if_neg (by omega), if_neg (by omega), if_neg (by omega)]]
    exact runA_E (by omega)
/-- What leads to the end, as the page has it, is what there are steps for. -/
theorem fits_iff {n : Nat} {tx : Nat → Nat} {st fin i j : Nat} (h1 : i ≤ j) (h2 : j ≤ n) : fitsP S n tx st fin i j ↔ ∃ r, wk S n tx fin j r st i := by
  rw [wk_iff h1 h2]
  unfold fitsP
  by_cases h0 : n = 0
  · rw [if_pos h0, Cl_Cl, show j - i = 0 by omega, show syA n i = 258 by unfold syA; rw [if_pos h0]]; exact Iff.rfl
  · rw [if_neg h0]
    have e : (if i = 0 then Cl S 256 (Cl S 0 fun q => q = st) else Cl S 0 fun q => q = st) = if i = n then Cl S 0 fun q => q = st else Cl S (syA n i) fun q => q = st := by
      by_cases hi : i = 0
      · rw [if_pos hi, if_neg (by omega), Cl_Cl, show syA n i = 256 by unfold syA; rw [if_neg h0, if_pos hi]]
      · rw [if_neg hi]
        by_cases hn : i = n
        · rw [if_pos hn]
        · rw [if_neg hn, show syA n i = 0 by unfold syA; rw [if_neg h0, if_neg hi, if_neg hn]]
    rw [e]
    by_cases hj : j = n
    · rw [if_pos hj]
      by_cases hi : i = n
      · rw [if_pos hi, show j - i = 0 by omega, show syA n i = 257 by unfold syA; rw [if_neg h0, if_neg (by omega), if_pos hi]]
        show Cl S 257 (Cl S 0 fun q => q = st) fin ↔ Cl S 257 (fun q => q = st) fin
        rw [Cl_Cl]
      · rw [if_neg hi]
        obtain ⟨k, hk⟩ : ∃ k, j - i = k + 1 := ⟨j - i - 1, by omega⟩
        rw [hk, runA_E (by omega)]
    · rw [if_neg hj, if_neg (by omega), runA_F (by omega)]
end
end Go.Proofs.Ytpfbmbegddemoaa

namespace Go.Proofs.Ytpfbmbegddemoaa
open Go.RowKit

/-- A node's cells at a place. -/
def ndAt (w : World) (b o : Nat) (x : Nd) : Prop := w.cell? ⟨b, o, none⟩ = some (.int .i64 x.k) ∧ w.cell? ⟨b, o + 1, none⟩ = some (.int .u64 x.a) ∧ w.cell? ⟨b, o + 2, none⟩ = some (.int .u64 x.b) ∧ w.cell? ⟨b, o + 3, none⟩ = some (.int .u64 x.c) ∧ w.cell? ⟨b, o + 4, none⟩ = some (.int .u64 x.d) ∧ w.cell? ⟨b, o + 5, none⟩ = some (.int .i64 x.lo) ∧ w.cell? ⟨b, o + 6, none⟩ = some (.int .i64 x.hi)
theorem ndAt.below {w w' : World} {b o B : Nat} {x : Nd} (h : ndAt w b o x) (hb : Below B w w') (hB : b < B) : ndAt w' b o x := by
  have c : ∀ x, w'.cell? ⟨b, x, none⟩ = w.cell? ⟨b, x, none⟩ := fun x => hb.cell (p := ⟨b, x, none⟩) hB
  unfold ndAt at h ⊢
  simp only [c]
  exact h
/-- The nodes that lie in a block from a place on. -/
def rdN (w : World) (b off n : Nat) (N : Nat → Nd) : Prop := ∀ j, j < n → b < w.heap.size ∧ ndAt w b (off + j * 7) (N j)
theorem rdN.below {w w' : World} {b off n : Nat} {N : Nat → Nd} (h : rdN w b off n N) (hb : Below w.heap.size w w') : rdN w' b off n N := fun j hj =>
  ⟨Nat.lt_of_lt_of_le (h j hj).1 hb.size, (h j hj).2.below hb (h j hj).1⟩
theorem rdN.belowB {w w' : World} {b off n : Nat} {N : Nat → Nd} {B : Nat} (h : rdN w b off n N) (hb : Below B w w') (hB : b < B) : rdN w' b off n N := fun j hj =>
  ⟨Nat.lt_of_lt_of_le (h j hj).1 hb.size, (h j hj).2.below hb hB⟩
theorem rdN.drewN {w : World} {b off n : Nat} {N : Nat → Nd} (h : rdN w b off n N) (k : Nat) : rdN (w.drewN k) b off n N := h
theorem rdN.sub {w : World} {b off n : Nat} {N : Nat → Nd} (h : rdN w b off n N) (f m : Nat) (hm : f + m ≤ n) : rdN w b (off + f * 7) m (fun j => N (f + j)) := fun j hj => by
  have := h (f + j) (by omega)
  rwa [show off + (f + j) * 7 = off + f * 7 + j * 7 by omega] at this
theorem rdN.take {w : World} {b off n : Nat} {N : Nat → Nd} (h : rdN w b off n N) (m : Nat) (hm : m ≤ n) : rdN w b off m N := fun j hj => h j (by omega)

/-- A slice that reads as a list of numbers. -/
def rdI (w : World) (v : Value) (l : List Int) : Prop :=
  (∃ p cap, v = .slice p 0 cap ∧ l = []) ∨ ∃ b cap, v = .slice (some ⟨b, 0, none⟩) l.length cap ∧ b < w.heap.size ∧ ∀ j (h : j < l.length), w.cell? ⟨b, j, none⟩ = some (.int .i64 l[j])
theorem rdI.below {w w' : World} {v : Value} {l : List Int} (h : rdI w v l) (hb : Below w.heap.size w w') : rdI w' v l := by
  rcases h with h | ⟨b, cap, rfl, hl, hc⟩
  · exact .inl h
  · exact .inr ⟨b, cap, rfl, Nat.lt_of_lt_of_le hl hb.size, fun j hj => by rw [hb.cell (p := ⟨b, j, none⟩) hl]; exact hc j hj⟩
theorem rdI.belowB {w w' : World} {v : Value} {l : List Int} {B : Nat} (h : rdI w v l) (hb : Below B w w') (hB : w.heap.size ≤ B) : rdI w' v l := by
  rcases h with h | ⟨b, cap, rfl, hl, hc⟩
  · exact .inl h
  · exact .inr ⟨b, cap, rfl, Nat.lt_of_lt_of_le hl hb.size, fun j hj => by rw [hb.cell (p := ⟨b, j, none⟩) (show b < B by omega)]; exact hc j hj⟩
def ivs (l : List Int) : List Value := l.map (Value.int .i64)
theorem rdI_of_owns {w : World} {base : Nat} {e : TypeId} {v : Value} {l : List Int} (h : w.ownsRow base e 1 v l.length (ivs l)) : rdI w v l := by
  have hlt := h.lt
  rcases h.2 with ⟨rfl, h0⟩ | ⟨g, cap, cur, rfl, _, _, _, _, _, _⟩
  · exact .inl ⟨none, 0, rfl, List.length_eq_zero_iff.1 h0⟩
  · refine .inr ⟨g, cap, rfl, (hlt g rfl).2, fun j hj => ?_⟩
    rw [h.cellAt j (by omega)]
    simp [ivs, hj]
end Go.Proofs.Ytpfbmbegddemoaa

namespace Go.Proofs.Ytpfbmbegddemoaa
open Go.RowKit

def bls (T : Nat → Bool) (m : Nat) : List Value := (List.range m).map fun j => Value.bool (T j)
theorem bls_len (T : Nat → Bool) (m : Nat) : (bls T m).length = m := by simp [bls]
theorem bls_at (T : Nat → Bool) (m j : Nat) (h : j < m) : (bls T m)[j]? = some (.bool (T j)) := by simp [bls, h]
def putT (T : Nat → Bool) (j : Nat) (b : Bool) : Nat → Bool := fun x => if x = j then b else T x
theorem bls_set (T : Nat → Bool) (m j : Nat) (b : Bool) : (bls T m).set j (.bool b) = bls (putT T j b) m := by
  unfold bls
  apply List.ext_getElem
  · simp
  · intro i h1 h2
    simp only [List.getElem_set, List.getElem_map, List.getElem_range, putT]
    by_cases h : i = j
    · rw [if_pos h.symm, if_pos h]
    · rw [if_neg (fun e => h e.symm), if_neg h]
/-- A row of m bools that the call owns. -/
def blR (w : World) (base g c m : Nat) (T : Nat → Bool) : Prop := w.ownsRow base 4 1 (.slice (some ⟨g, 0, none⟩) m c) m (bls T m)
theorem blR.cell {w : World} {base g c m : Nat} {T : Nat → Bool} (h : blR w base g c m T) (j : Nat) (hj : j < m) : w.cell? ⟨g, j, none⟩ = some (.bool (T j)) := by
  rw [World.ownsRow.cellAt h j (by omega)]; exact bls_at T m j hj
theorem blR.free {w : World} {base g c m : Nat} {T : Nat → Bool} (h : blR w base g c m T) (j : Nat) : w.frozen? ⟨g, j, none⟩ = false := World.ownsRow.frozenAt h j
theorem blR.lt {w : World} {base g c m : Nat} {T : Nat → Bool} (h : blR w base g c m T) : base ≤ g ∧ g < w.heap.size := World.ownsRow.lt h g rfl
theorem blR.below {w w' : World} {base g c m : Nat} {T : Nat → Bool} (h : blR w base g c m T) (hb : Below w.heap.size w w') : blR w' base g c m T := owns_below h hb
theorem blR.put {w : World} {base g c m : Nat} {T : Nat → Bool} (h : blR w base g c m T) (j : Nat) (b : Bool) : blR (w.setCell ⟨g, j, none⟩ (.bool b)) base g c m (putT T j b) := by
  have := (World.ownsRow.stored h j (.bool b)).1
  rw [bls_set] at this
  exact this
theorem blR.same {w : World} {base g c m : Nat} {T T' : Nat → Bool} (h : blR w base g c m T) (hT : ∀ j, j < m → T j = T' j) : blR w base g c m T' := by
  have e : bls T m = bls T' m := by
    unfold bls
    exact List.map_congr_left fun i hi => by rw [hT i (List.mem_range.1 hi)]
  unfold blR at h ⊢
  rw [← e]; exact h
/-- Bools that are read. -/
def rdB (w : World) (g m : Nat) (T : Nat → Bool) : Prop := g < w.heap.size ∧ ∀ j, j < m → w.cell? ⟨g, j, none⟩ = some (.bool (T j))
theorem rdB.below {w w' : World} {g m : Nat} {T : Nat → Bool} (h : rdB w g m T) (hb : Below w.heap.size w w') : rdB w' g m T :=
  ⟨Nat.lt_of_lt_of_le h.1 hb.size, fun j hj => by rw [hb.cell (p := ⟨g, j, none⟩) h.1]; exact h.2 j hj⟩
theorem blR.rd {w : World} {base g c m : Nat} {T : Nat → Bool} (h : blR w base g c m T) : rdB w g m T := ⟨h.lt.2, fun j hj => h.cell j hj⟩
theorem infoBool9 : (Try.prog.info? 4).map (fun i => (i.zero, i.size, i.bytes)) = some (some (.bool false), 1, 1) := by kernel_rfl

/-- A state's cells at a place; the states that lie in a block from a place on. -/
def sdAt (w : World) (b o : Nat) (x : Sd) : Prop := w.cell? ⟨b, o, none⟩ = some (.int .i64 x.k) ∧ w.cell? ⟨b, o + 1, none⟩ = some (.int .i64 x.A) ∧ w.cell? ⟨b, o + 2, none⟩ = some (.int .i64 x.B) ∧ w.cell? ⟨b, o + 3, none⟩ = some (.int .u64 x.a) ∧ w.cell? ⟨b, o + 4, none⟩ = some (.int .u64 x.b) ∧ w.cell? ⟨b, o + 5, none⟩ = some (.int .u64 x.c) ∧ w.cell? ⟨b, o + 6, none⟩ = some (.int .u64 x.d)
theorem sdAt.below {w w' : World} {b o B : Nat} {x : Sd} (h : sdAt w b o x) (hb : Below B w w') (hB : b < B) : sdAt w' b o x := by
  have c : ∀ x, w'.cell? ⟨b, x, none⟩ = w.cell? ⟨b, x, none⟩ := fun x => hb.cell (p := ⟨b, x, none⟩) hB
  unfold sdAt at h ⊢
  simp only [c]
  exact h
def rdS (w : World) (b off m : Nat) (S : Nat → Sd) : Prop := ∀ j, j < m → b < w.heap.size ∧ sdAt w b (off + j * 7) (S j)
theorem rdS.below {w w' : World} {b off m : Nat} {S : Nat → Sd} (h : rdS w b off m S) (hb : Below w.heap.size w w') : rdS w' b off m S := fun j hj =>
  ⟨Nat.lt_of_lt_of_le (h j hj).1 hb.size, (h j hj).2.below hb (h j hj).1⟩
/-- A and B are places of states, where they count. -/
def rng (S : Nat → Sd) (m : Nat) : Prop := ∀ q, q < m → 1 ≤ (S q).k ∧ (S q).k ≤ 6 ∧ 0 ≤ (S q).A ∧ (S q).A < m ∧ 0 ≤ (S q).B ∧ (S q).B < m

/-- Does a state go on at once to A? -/
def eA (S : Nat → Sd) (sym : Int) (q : Nat) : Bool := (S q).k == 2 || (S q).k == 3 || ((S q).k == 4 && (sym == 256 || sym == 258)) || ((S q).k == 5 && (sym == 257 || sym == 258))
theorem eA_iff {S : Nat → Sd} {sym : Int} {q : Nat} : eA S sym q = true ↔ ((S q).k = 2 ∨ (S q).k = 3 ∨ ((S q).k = 4 ∧ (sym = 256 ∨ sym = 258)) ∨ ((S q).k = 5 ∧ (sym = 257 ∨ sym = 258))) := by
  unfold eA
  simp only [Bool.or_eq_true, Bool.and_eq_true, beq_iff_eq]
  constructor
  · rintro (((h | h) | h) | h)
    · exact .inl h
    · exact .inr (.inl h)
    · exact .inr (.inr (.inl h))
    · exact .inr (.inr (.inr h))
  · rintro (h | h | h | h)
    · exact .inl (.inl (.inl h))
    · exact .inl (.inl (.inr h))
    · exact .inl (.inr h)
    · exact .inr h
/-- What the reference does at a state; at all of them in turn; so many turns. -/
def up1 (S : Nat → Sd) (sym : Int) (T : Nat → Bool) (i : Nat) : Nat → Bool :=
  if T i = true then (if (S i).k = 3 then putT (putT T (S i).A.toNat true) (S i).B.toNat true else if eA S sym i = true then putT T (S i).A.toNat true else T) else T
def upR (S : Nat → Sd) (sym : Int) (T : Nat → Bool) : Nat → Nat → Bool
  | 0 => T
  | i + 1 => up1 S sym (upR S sym T i) i
def upN (S : Nat → Sd) (sym : Int) (m : Nat) (T : Nat → Bool) : Nat → Nat → Bool
  | 0 => T
  | k + 1 => upR S sym (upN S sym m T k) m

section
variable {S : Nat → Sd} {sym : Int} {m : Nat}
theorem putT_le {T : Nat → Bool} {j q : Nat} (h : T q = true) : putT T j true q = true := by unfold putT; split <;> first | rfl | exact h
theorem putT_at {T : Nat → Bool} {j : Nat} : putT T j true j = true := by unfold putT; rw [if_pos rfl]
theorem putT_or {T : Nat → Bool} {j q : Nat} (h : putT T j true q = true) : T q = true ∨ q = j := by
  unfold putT at h
  by_cases e : q = j
  · exact .inr e
  · rw [if_neg e] at h; exact .inl h
theorem up1_le {T : Nat → Bool} {i q : Nat} (h : T q = true) : up1 S sym T i q = true := by
  unfold up1
  split
  · split
    · exact putT_le (putT_le h)
    · split
      · exact putT_le h
      · exact h
  · exact h
theorem upR_le {T : Nat → Bool} {q : Nat} (h : T q = true) : ∀ i, upR S sym T i q = true
  | 0 => h
  | i + 1 => up1_le (upR_le h i)
theorem upN_le {T : Nat → Bool} {q : Nat} (h : T q = true) : ∀ k, upN S sym m T k q = true
  | 0 => h
  | k + 1 => upR_le (upN_le h k) m
/-- What is true behind a state was so ahead, or is where it goes. -/
theorem up1_ep {T : Nat → Bool} {i q : Nat} (hr : rng S m) (hi : i < m) (h : up1 S sym T i q = true) : T q = true ∨ (T i = true ∧ ep S sym i q) := by
  obtain ⟨_, _, a1, a2, b1, b2⟩ := hr i hi
  unfold up1 at h
  split at h
  · rename_i hT
    split at h
    · rename_i h3
      rcases putT_or h with h | rfl
      · rcases putT_or h with h | rfl
        · exact .inl h
        · exact .inr ⟨hT, .inl ⟨.inr (.inl h3), by omega⟩⟩
      · exact .inr ⟨hT, .inr ⟨h3, by omega⟩⟩
    · split at h
      · rename_i hA
        rcases putT_or h with h | rfl
        · exact .inl h
        · exact .inr ⟨hT, .inl ⟨eA_iff.1 hA, by omega⟩⟩
      · exact .inl h
  · exact .inl h
theorem ep_up1 {T : Nat → Bool} {i q : Nat} (hT : T i = true) (h : ep S sym i q) : up1 S sym T i q = true := by
  unfold up1
  rw [if_pos hT]
  rcases h with ⟨h1, h2⟩ | ⟨h1, h2⟩
  · by_cases h3 : (S i).k = 3
    · rw [if_pos h3]
      have : q = (S i).A.toNat := by omega
      rw [this]; exact putT_le putT_at
    · rw [if_neg h3, if_pos (eA_iff.2 h1)]
      have : q = (S i).A.toNat := by omega
      rw [this]; exact putT_at
  · rw [if_pos h1]
    have : q = (S i).B.toNat := by omega
    rw [this]; exact putT_at
theorem upR_rt {T : Nat → Bool} (hr : rng S m) : ∀ {i q}, i ≤ m → q < m → upR S sym T i q = true → ∃ q0, (q0 < m ∧ T q0 = true) ∧ rt S sym q0 q
  | 0, q, _, hq, h => ⟨q, ⟨hq, h⟩, .refl _⟩
  | i + 1, q, hi, hq, h => by
    rcases up1_ep hr (by omega) h with h | ⟨h, h2⟩
    · exact upR_rt hr (by omega) hq h
    · obtain ⟨q0, g1, g2⟩ := upR_rt hr (by omega) (by omega) h
      exact ⟨q0, g1, .tail g2 h2⟩
theorem upN_rt {T : Nat → Bool} (hr : rng S m) : ∀ {k q}, q < m → upN S sym m T k q = true → ∃ q0, (q0 < m ∧ T q0 = true) ∧ rt S sym q0 q
  | 0, q, hq, h => ⟨q, ⟨hq, h⟩, .refl _⟩
  | k + 1, q, hq, h => by
    obtain ⟨q0, ⟨g0, g1⟩, g2⟩ := upR_rt hr (Nat.le_refl _) hq h
    obtain ⟨q1, k1, k2⟩ := upN_rt hr g0 g1
    exact ⟨q1, k1, k2.trans g2⟩
theorem upR_mono {T : Nat → Bool} {q : Nat} {i : Nat} (h : upR S sym T i q = true) : ∀ d, upR S sym T (i + d) q = true
  | 0 => h
  | d + 1 => up1_le (upR_mono h d)
/-- A turn reaches all to which one step leads. -/
theorem upR_ep {T : Nat → Bool} {i q : Nat} (hi : i < m) (hT : T i = true) (h : ep S sym i q) : upR S sym T m q = true := by
  have h1 : upR S sym T (i + 1) q = true := ep_up1 (upR_le hT i) h
  have := upR_mono h1 (m - (i + 1))
  rwa [show i + 1 + (m - (i + 1)) = m by omega] at this
/-- Is nothing new reached by one step? -/
def clsd (S : Nat → Sd) (sym : Int) (m : Nat) (T : Nat → Bool) : Prop := ∀ i q, i < m → q < m → T i = true → ep S sym i q → T q = true
def cntT (T : Nat → Bool) (m : Nat) : Nat := ((List.range m).filter fun j => T j).length
theorem cntT_le (T : Nat → Bool) (m : Nat) : cntT T m ≤ m := by
  unfold cntT
  have := List.length_filter_le (fun j => T j) (List.range m)
  rwa [List.length_range] at this
theorem cntT_succ (T : Nat → Bool) (m : Nat) : cntT T (m + 1) = cntT T m + if T m = true then 1 else 0 := by
  unfold cntT
  rw [List.range_succ, List.filter_append, List.length_append]
  congr 1
  by_cases h : T m = true
  · rw [if_pos h, List.filter_cons_of_pos h]; rfl
  · rw [if_neg h, List.filter_cons_of_neg h]; rfl
theorem cntT_mono {T T' : Nat → Bool} (h : ∀ q, T q = true → T' q = true) : ∀ m, cntT T m ≤ cntT T' m
  | 0 => Nat.le_refl _
  | m + 1 => by
    have := cntT_mono h m
    rw [cntT_succ, cntT_succ]
    by_cases h1 : T m = true
    · rw [if_pos h1, if_pos (h m h1)]; omega
    · rw [if_neg h1]; omega
theorem cntT_less {T T' : Nat → Bool} (h : ∀ q, T q = true → T' q = true) {q : Nat} (h1 : T q ≠ true) (h2 : T' q = true) : ∀ m, q < m → cntT T m < cntT T' m
  | 0, hq => absurd hq (Nat.not_lt_zero _)
  | m + 1, hq => by
    rw [cntT_succ, cntT_succ]
    by_cases e : q = m
    · subst e
      have := cntT_mono h q
      rw [if_neg h1, if_pos h2]; omega
    · have := cntT_less h h1 h2 m (by omega)
      by_cases h3 : T m = true
      · rw [if_pos h3, if_pos (h m h3)]; omega
      · rw [if_neg h3]; omega
theorem cntT_all {T : Nat → Bool} : ∀ {m}, m ≤ cntT T m → ∀ q, q < m → T q = true
  | 0, _, q, hq => absurd hq (Nat.not_lt_zero _)
  | k + 1, h, q, hq => by
    rw [cntT_succ] at h
    have hle := cntT_le T k
    by_cases h1 : T k = true
    · rw [if_pos h1] at h
      by_cases e : q = k
      · rw [e]; exact h1
      · exact cntT_all (m := k) (by omega) q (by omega)
    · rw [if_neg h1] at h; omega
theorem clsd_or {T : Nat → Bool} : clsd S sym m T ∨ cntT T m < cntT (upR S sym T m) m := by
  by_cases h : clsd S sym m T
  · exact .inl h
  · right
    unfold clsd at h
    simp only [Classical.not_forall] at h
    obtain ⟨i, q, hi, hq, hT, he, hn⟩ := h
    exact cntT_less (fun q hq => upR_le hq m) hn (upR_ep hi hT he) m hq
theorem clsd_up {T : Nat → Bool} (hr : rng S m) (h : clsd S sym m T) : ∀ q, q < m → upR S sym T m q = true → T q = true := by
  have main : ∀ i, i ≤ m → ∀ q, q < m → upR S sym T i q = true → T q = true := by
    intro i
    induction i with
    | zero => exact fun _ q _ hq => hq
    | succ i ih =>
      intro hi q hq hu
      rcases up1_ep hr (by omega) hu with g | ⟨g1, g2⟩
      · exact ih (by omega) q hq g
      · exact h i q (by omega) hq (ih (by omega) i (by omega) g1) g2
  exact main m (Nat.le_refl _)
theorem upN_cls {T : Nat → Bool} (hr : rng S m) : ∀ k, clsd S sym m (upN S sym m T k) ∨ k ≤ cntT (upN S sym m T k) m
  | 0 => .inr (Nat.zero_le _)
  | k + 1 => by
    rcases upN_cls hr k with h | h
    · refine .inl fun i q hi hq h1 h2 => ?_
      exact upR_le (h i q hi hq (clsd_up hr h i hi h1) h2) m
    · rcases clsd_or (S := S) (sym := sym) (m := m) (T := upN S sym m T k) with g | g
      · refine .inl fun i q hi hq h1 h2 => ?_
        exact upR_le (g i q hi hq (clsd_up hr g i hi h1) h2) m
      · exact .inr (by show k + 1 ≤ cntT (upR S sym (upN S sym m T k) m) m; omega)
/-- Behind as many turns as there are states just that is true to which one comes at once. -/
theorem upN_iff {T : Nat → Bool} (hr : rng S m) {q : Nat} (hq : q < m) : upN S sym m T m q = true ↔ Cl S sym (fun q => q < m ∧ T q = true) q := by
  constructor
  · exact fun h => upN_rt hr hq h
  · rintro ⟨q0, ⟨h0, h1⟩, h2⟩
    have hc : clsd S sym m (upN S sym m T m) := by
      rcases upN_cls (S := S) (sym := sym) (T := T) hr m with h | h
      · exact h
      · exact fun i q _ hq _ _ => cntT_all h q hq
    have main : ∀ q, rt S sym q0 q → q < m ∧ upN S sym m T m q = true := by
      intro q h
      induction h with
      | refl => exact ⟨h0, upN_le h1 m⟩
      | @tail q' q'' _ he ih =>
        obtain ⟨g1, g2⟩ := ih
        obtain ⟨_, _, a1, a2, b1, b2⟩ := hr q' g1
        have hlt : q'' < m := by
          rcases he with ⟨_, h⟩ | ⟨_, h⟩ <;> omega
        exact ⟨hlt, hc q' q'' g1 hlt g2 he⟩
    exact (main q h2).2
end
end Go.Proofs.Ytpfbmbegddemoaa
