/-
  What all texts of the tree lean on: imports, small words on worlds, slices that read as nodes or as numbers.
  Rows of bools, and states, in memory; where one comes at once as the reference counts it.
  The states of a tree's part, made behind some, as lists: they are the page's. Plain facts.
  Rows of states in memory, as lists.
-/
import Derived.Test.YtdhplphgackjaaaPk1
import Derived.Test.YtdhplphgackjaaaProg
import Derived.WalkKit
import Derived.WalkSpells
import Derived.WalkLawsBesides
import Derived.Handy
import Derived.KernelRfl
import Derived.Deep.RegionHeld3
import Derived.Deep.RegionHeldLaw
import Derived.Deep.QuietTactic
import Derived.BigQuiet
import Derived.Lib.Hide
import Derived.OneCell
import Derived.Laws.StructEq
import Derived.Laws.OwnMore
import Derived.Laws.IdiomArrays
import Derived.Test.YtdhplphgackjaaaPk4
import Derived.OwnWalk
namespace Go.Proofs.Ytdhplphgackjaaa
open Go.RowKit

/-- A node's cells at a place. -/
def ndAt (w : World) (b o : Nat) (x : Nd) : Prop := w.cell? ⟨b, o, none⟩ = some (.int .i64 x.k) ∧ w.cell? ⟨b, o + 1, none⟩ = some (.int .u64 x.a) ∧ w.cell? ⟨b, o + 2, none⟩ = some (.int .u64 x.b) ∧ w.cell? ⟨b, o + 3, none⟩ = some (.int .u64 x.c) ∧ w.cell? ⟨b, o + 4, none⟩ = some (.int .u64 x.d) ∧ w.cell? ⟨b, o + 5, none⟩ = some (.int .i64 x.lo) ∧ w.cell? ⟨b, o + 6, none⟩ = some (.int .i64 x.hi)
theorem ndAt.below {w w' : World} {b o B : Nat} {x : Nd} (h : ndAt w b o x) (hb : Below B w w') (hB : b < B) : ndAt w' b o x := by
  have c : ∀ x, w'.cell? ⟨b, x, none⟩ = w.cell? ⟨b, x, none⟩ := fun x => hb.cell (p := ⟨b, x, none⟩) hB
  unfold ndAt at h ⊢
  simp only [c]
  exact h
/-- The nodes that lie in a block from a place on. -/
def rdN (w : World) (b off n : Nat) (N : Nat → Nd) : Prop := ∀ j, j < n → b < w.heap.size ∧ ndAt w b (off + j * 7) (N j)
theorem rdN.below {w w' : World} {b off n : Nat} {N : Nat → Nd} (h : rdN w b off n N) (hb : Below w.heap.size w w') : rdN w' b off n N := fun j hj =>
  ⟨Nat.lt_of_lt_of_le (h j hj).1 hb.size, (h j hj).2.below hb (h j hj).1⟩
theorem rdN.belowB {w w' : World} {b off n : Nat} {N : Nat → Nd} {B : Nat} (h : rdN w b off n N) (hb : Below B w w') (hB : b < B) : rdN w' b off n N := fun j hj =>
  ⟨Nat.lt_of_lt_of_le (h j hj).1 hb.size, (h j hj).2.below hb hB⟩
theorem rdN.drewN {w : World} {b off n : Nat} {N : Nat → Nd} (h : rdN w b off n N) (k : Nat) : rdN (w.drewN k) b off n N := h
theorem rdN.sub {w : World} {b off n : Nat} {N : Nat → Nd} (h : rdN w b off n N) (f m : Nat) (hm : f + m ≤ n) : rdN w b (off + f * 7) m (fun j => N (f + j)) := fun j hj => by
  have := h (f + j) (by omega)
  rwa [show off + (f + j) * 7 = off + f * 7 + j * 7 by omega] at this
theorem rdN.take {w : World} {b off n : Nat} {N : Nat → Nd} (h : rdN w b off n N) (m : Nat) (hm : m ≤ n) : rdN w b off m N := fun j hj => h j (by omega)

/-- A slice that reads as a list of numbers. -/
def rdI (w : World) (v : Value) (l : List Int) : Prop :=
  (∃ p cap, v = .slice p 0 cap ∧ l = []) ∨ ∃ b cap, v = .slice (some ⟨b, 0, none⟩) l.length cap ∧ b < w.heap.size ∧ ∀ j (h : j < l.length), w.cell? ⟨b, j, none⟩ = some (.int .i64 l[j])
theorem rdI.below {w w' : World} {v : Value} {l : List Int} (h : rdI w v l) (hb : Below w.heap.size w w') : rdI w' v l := by
  rcases h with h | ⟨b, cap, rfl, hl, hc⟩
  · exact .inl h
  · exact .inr ⟨b, cap, rfl, Nat.lt_of_lt_of_le hl hb.size, fun j hj => by rw [hb.cell (p := ⟨b, j, none⟩) hl]; exact hc j hj⟩
theorem rdI.belowB {w w' : World} {v : Value} {l : List Int} {B : Nat} (h : rdI w v l) (hb : Below B w w') (hB : w.heap.size ≤ B) : rdI w' v l := by
  rcases h with h | ⟨b, cap, rfl, hl, hc⟩
  · exact .inl h
  · exact .inr ⟨b, cap, rfl, Nat.lt_of_lt_of_le hl hb.size, fun j hj => by rw [hb.cell (p := ⟨b, j, none⟩) (show b < B by omega)]; exact hc j hj⟩
def ivs (l : List Int) : List Value := l.map (Value.int .i64)
theorem rdI_of_owns {w : World} {base : Nat} {e : TypeId} {v : Value} {l : List Int} (h : w.ownsRow base e 1 v l.length (ivs l)) : rdI w v l := by
  have hlt := h.lt
  rcases h.2 with ⟨rfl, h0⟩ | ⟨g, cap, cur, rfl, _, _, _, _, _, _⟩
  · exact .inl ⟨none, 0, rfl, List.length_eq_zero_iff.1 h0⟩
  · refine .inr ⟨g, cap, rfl, (hlt g rfl).2, fun j hj => ?_⟩
    rw [h.cellAt j (by omega)]
    simp [ivs, hj]
end Go.Proofs.Ytdhplphgackjaaa

namespace Go.Proofs.Ytdhplphgackjaaa
open Go.RowKit

def bls (T : Nat → Bool) (m : Nat) : List Value := (List.range m).map fun j => Value.bool (T j)
theorem bls_len (T : Nat → Bool) (m : Nat) : (bls T m).length = m := by simp [bls]
theorem bls_at (T : Nat → Bool) (m j : Nat) (h : j < m) : (bls T m)[j]? = some (.bool (T j)) := by simp [bls, h]
def putT (T : Nat → Bool) (j : Nat) (b : Bool) : Nat → Bool := fun x => if x = j then b else T x
theorem bls_set (T : Nat → Bool) (m j : Nat) (b : Bool) : (bls T m).set j (.bool b) = bls (putT T j b) m := by
  unfold bls
  apply List.ext_getElem
  · simp
  · intro i h1 h2
    simp only [List.getElem_set, List.getElem_map, List.getElem_range, putT]
    by_cases h : i = j
    · rw [if_pos h.symm, if_pos h]
    · rw [if_neg (fun e => h e.symm), if_neg h]
/-- A row of m bools that the call owns. -/
def blR (w : World) (base g c m : Nat) (T : Nat → Bool) : Prop := w.ownsRow base 4 1 (.slice (some ⟨g, 0, none⟩) m c) m (bls T m)
theorem blR.cell {w : World} {base g c m : Nat} {T : Nat → Bool} (h : blR w base g c m T) (j : Nat) (hj : j < m) : w.cell? ⟨g, j, none⟩ = some (.bool (T j)) := by
  rw [World.ownsRow.cellAt h j (by omega)]; exact bls_at T m j hj
theorem blR.free {w : World} {base g c m : Nat} {T : Nat → Bool} (h : blR w base g c m T) (j : Nat) : w.frozen? ⟨g, j, none⟩ = false := World.ownsRow.frozenAt h j
theorem blR.lt {w : World} {base g c m : Nat} {T : Nat → Bool} (h : blR w base g c m T) : base ≤ g ∧ g < w.heap.size := World.ownsRow.lt h g rfl
theorem blR.below {w w' : World} {base g c m : Nat} {T : Nat → Bool} (h : blR w base g c m T) (hb : Below w.heap.size w w') : blR w' base g c m T := owns_below h hb
theorem blR.put {w : World} {base g c m : Nat} {T : Nat → Bool} (h : blR w base g c m T) (j : Nat) (b : Bool) : blR (w.setCell ⟨g, j, none⟩ (.bool b)) base g c m (putT T j b) := by
  have := (World.ownsRow.stored h j (.bool b)).1
  rw [bls_set] at this
  exact this
theorem blR.same {w : World} {base g c m : Nat} {T T' : Nat → Bool} (h : blR w base g c m T) (hT : ∀ j, j < m → T j = T' j) : blR w base g c m T' := by
  have e : bls T m = bls T' m := by
    unfold bls
    exact List.map_congr_left fun i hi => by rw [hT i (List.mem_range.1 hi)]
  unfold blR at h ⊢
  rw [← e]; exact h
/-- Bools that are read. -/
def rdB (w : World) (g m : Nat) (T : Nat → Bool) : Prop := g < w.heap.size ∧ ∀ j, j < m → w.cell? ⟨g, j, none⟩ = some (.bool (T j))
theorem rdB.below {w w' : World} {g m : Nat} {T : Nat → Bool} (h : rdB w g m T) (hb : Below w.heap.size w w') : rdB w' g m T :=
  ⟨Nat.lt_of_lt_of_le h.1 hb.size, fun j hj => by rw [hb.cell (p := ⟨g, j, none⟩) h.1]; exact h.2 j hj⟩
theorem blR.rd {w : World} {base g c m : Nat} {T : Nat → Bool} (h : blR w base g c m T) : rdB w g m T := ⟨h.lt.2, fun j hj => h.cell j hj⟩
theorem infoBool9 : (Try.prog.info? 4).map (fun i => (i.zero, i.size, i.bytes)) = some (some (.bool false), 1, 1) := by kernel_rfl

/-- A state's cells at a place; the states that lie in a block from a place on. -/
def sdAt (w : World) (b o : Nat) (x : Sd) : Prop := w.cell? ⟨b, o, none⟩ = some (.int .i64 x.k) ∧ w.cell? ⟨b, o + 1, none⟩ = some (.int .i64 x.A) ∧ w.cell? ⟨b, o + 2, none⟩ = some (.int .i64 x.B) ∧ w.cell? ⟨b, o + 3, none⟩ = some (.int .u64 x.a) ∧ w.cell? ⟨b, o + 4, none⟩ = some (.int .u64 x.b) ∧ w.cell? ⟨b, o + 5, none⟩ = some (.int .u64 x.c) ∧ w.cell? ⟨b, o + 6, none⟩ = some (.int .u64 x.d)
theorem sdAt.below {w w' : World} {b o B : Nat} {x : Sd} (h : sdAt w b o x) (hb : Below B w w') (hB : b < B) : sdAt w' b o x := by
  have c : ∀ x, w'.cell? ⟨b, x, none⟩ = w.cell? ⟨b, x, none⟩ := fun x => hb.cell (p := ⟨b, x, none⟩) hB
  unfold sdAt at h ⊢
  simp only [c]
  exact h
def rdS (w : World) (b off m : Nat) (S : Nat → Sd) : Prop := ∀ j, j < m → b < w.heap.size ∧ sdAt w b (off + j * 7) (S j)
theorem rdS.below {w w' : World} {b off m : Nat} {S : Nat → Sd} (h : rdS w b off m S) (hb : Below w.heap.size w w') : rdS w' b off m S := fun j hj =>
  ⟨Nat.lt_of_lt_of_le (h j hj).1 hb.size, (h j hj).2.below hb (h j hj).1⟩
/-- A and B are places of states, where they count. -/
def rng (S : Nat → Sd) (m : Nat) : Prop := ∀ q, q < m → 1 ≤ (S q).k ∧ (S q).k ≤ 6 ∧ 0 ≤ (S q).A ∧ (S q).A < m ∧ 0 ≤ (S q).B ∧ (S q).B < m

/-- Does a state go on at once to A? -/
def eA (S : Nat → Sd) (sym : Int) (q : Nat) : Bool := (S q).k == 2 || (S q).k == 3 || ((S q).k == 4 && (sym == 256 || sym == 258)) || ((S q).k == 5 && (sym == 257 || sym == 258))
theorem eA_iff {S : Nat → Sd} {sym : Int} {q : Nat} : eA S sym q = true ↔ ((S q).k = 2 ∨ (S q).k = 3 ∨ ((S q).k = 4 ∧ (sym = 256 ∨ sym = 258)) ∨ ((S q).k = 5 ∧ (sym = 257 ∨ sym = 258))) := by
  unfold eA
  simp only [Bool.or_eq_true, Bool.and_eq_true, beq_iff_eq]
  constructor
  · rintro (((h | h) | h) | h)
    · exact .inl h
    · exact .inr (.inl h)
    · exact .inr (.inr (.inl h))
    · exact .inr (.inr (.inr h))
  · rintro (h | h | h | h)
    · exact .inl (.inl (.inl h))
    · exact .inl (.inl (.inr h))
    · exact .inl (.inr h)
    · exact .inr h
/-- What the reference does at a state; at all of them in turn; so many turns. -/
def up1 (S : Nat → Sd) (sym : Int) (T : Nat → Bool) (i : Nat) : Nat → Bool :=
  if T i = true then (if (S i).k = 3 then putT (putT T (S i).A.toNat true) (S i).B.toNat true else if eA S sym i = true then putT T (S i).A.toNat true else T) else T
def upR (S : Nat → Sd) (sym : Int) (T : Nat → Bool) : Nat → Nat → Bool
  | 0 => T
  | i + 1 => up1 S sym (upR S sym T i) i
def upN (S : Nat → Sd) (sym : Int) (m : Nat) (T : Nat → Bool) : Nat → Nat → Bool
  | 0 => T
  | k + 1 => upR S sym (upN S sym m T k) m

section
variable {S : Nat → Sd} {sym : Int} {m : Nat}
theorem putT_le {T : Nat → Bool} {j q : Nat} (h : T q = true) : putT T j true q = true := by unfold putT; split <;> first | rfl | exact h
theorem putT_at {T : Nat → Bool} {j : Nat} : putT T j true j = true := by unfold putT; rw [if_pos rfl]
theorem putT_or {T : Nat → Bool} {j q : Nat} (h : putT T j true q = true) : T q = true ∨ q = j := by
  unfold putT at h
  by_cases e : q = j
  · exact .inr e
  · rw [if_neg e] at h; exact .inl h
theorem up1_le {T : Nat → Bool} {i q : Nat} (h : T q = true) : up1 S sym T i q = true := by
  unfold up1
  split
  · split
    · exact putT_le (putT_le h)
    · split
      · exact putT_le h
      · exact h
  · exact h
theorem upR_le {T : Nat → Bool} {q : Nat} (h : T q = true) : ∀ i, upR S sym T i q = true
  | 0 => h
  | i + 1 => up1_le (upR_le h i)
theorem upN_le {T : Nat → Bool} {q : Nat} (h : T q = true) : ∀ k, upN S sym m T k q = true
  | 0 => h
  | k + 1 => upR_le (upN_le h k) m
/-- What is true behind a state was so ahead, or is where it goes. -/
theorem up1_ep {T : Nat → Bool} {i q : Nat} (hr : rng S m) (hi : i < m) (h : up1 S sym T i q = true) : T q = true ∨ (T i = true ∧ ep S sym i q) := by
  obtain ⟨_, _, a1, a2, b1, b2⟩ := hr i hi
  unfold up1 at h
  split at h
  · rename_i hT
    split at h
    · rename_i h3
      rcases putT_or h with h | rfl
      · rcases putT_or h with h | rfl
        · exact .inl h
        · exact .inr ⟨hT, .inl ⟨.inr (.inl h3), by omega⟩⟩
      · exact .inr ⟨hT, .inr ⟨h3, by omega⟩⟩
    · split at h
      · rename_i hA
        rcases putT_or h with h | rfl
        · exact .inl h
        · exact .inr ⟨hT, .inl ⟨eA_iff.1 hA, by omega⟩⟩
      · exact .inl h
  · exact .inl h
theorem ep_up1 {T : Nat → Bool} {i q : Nat} (hT : T i = true) (h : ep S sym i q) : up1 S sym T i q = true := by
  unfold up1
  rw [if_pos hT]
  rcases h with ⟨h1, h2⟩ | ⟨h1, h2⟩
  · by_cases h3 : (S i).k = 3
    · rw [if_pos h3]
      have : q = (S i).A.toNat := by omega
      rw [this]; exact putT_le putT_at
    · rw [if_neg h3, if_pos (eA_iff.2 h1)]
      have : q = (S i).A.toNat := by omega
      rw [this]; exact putT_at
  · rw [if_pos h1]
    have : q = (S i).B.toNat := by omega
    rw [this]; exact putT_at
theorem upR_rt {T : Nat → Bool} (hr : rng S m) : ∀ {i q}, i ≤ m → q < m → upR S sym T i q = true → ∃ q0, (q0 < m ∧ T q0 = true) ∧ rt S sym q0 q
  | 0, q, _, hq, h => ⟨q, ⟨hq, h⟩, .refl _⟩
  | i + 1, q, hi, hq, h => by
    rcases up1_ep hr (by omega) h with h | ⟨h, h2⟩
    · exact upR_rt hr (by omega) hq h
    · obtain ⟨q0, g1, g2⟩ := upR_rt hr (by omega) (by omega) h
      exact ⟨q0, g1, .tail g2 h2⟩
theorem upN_rt {T : Nat → Bool} (hr : rng S m) : ∀ {k q}, q < m → upN S sym m T k q = true → ∃ q0, (q0 < m ∧ T q0 = true) ∧ rt S sym q0 q
  | 0, q, hq, h => ⟨q, ⟨hq, h⟩, .refl _⟩
  | k + 1, q, hq, h => by
    obtain ⟨q0, ⟨g0, g1⟩, g2⟩ := upR_rt hr (Nat.le_refl _) hq h
    obtain ⟨q1, k1, k2⟩ := upN_rt hr g0 g1
    exact ⟨q1, k1, k2.trans g2⟩
theorem upR_mono {T : Nat → Bool} {q : Nat} {i : Nat} (h : upR S sym T i q = true) : ∀ d, upR S sym T (i + d) q = true
  | 0 => h
  | d + 1 => up1_le (upR_mono h d)
/-- A turn reaches all to which one step leads. -/
theorem upR_ep {T : Nat → Bool} {i q : Nat} (hi : i < m) (hT : T i = true) (h : ep S sym i q) : upR S sym T m q = true := by
  have h1 : upR S sym T (i + 1) q = true := ep_up1 (upR_le hT i) h
  have := upR_mono h1 (m - (i + 1))
  rwa [show i + 1 + (m - (i + 1)) = m by omega] at this
/-- Is nothing new reached by one step? -/
def clsd (S : Nat → Sd) (sym : Int) (m : Nat) (T : Nat → Bool) : Prop := ∀ i q, i < m → q < m → T i = true → ep S sym i q → T q = true
def cntT (T : Nat → Bool) (m : Nat) : Nat := ((List.range m).filter fun j => T j).length
theorem cntT_le (T : Nat → Bool) (m : Nat) : cntT T m ≤ m := by
  unfold cntT
  have := List.length_filter_le (fun j => T j) (List.range m)
  rwa [List.length_range] at this
theorem cntT_succ (T : Nat → Bool) (m : Nat) : cntT T (m + 1) = cntT T m + if T m = true then 1 else 0 := by
  unfold cntT
  rw [List.range_succ, List.filter_append, List.length_append]
  congr 1
  by_cases h : T m = true
  · rw [if_pos h, List.filter_cons_of_pos h]; rfl
  · rw [if_neg h, List.filter_cons_of_neg h]; rfl
theorem cntT_mono {T T' : Nat → Bool} (h : ∀ q, T q = true → T' q = true) : ∀ m, cntT T m ≤ cntT T' m
  | 0 => Nat.le_refl _
  | m + 1 => by
    have := cntT_mono h m
    rw [cntT_succ, cntT_succ]
    by_cases h1 : T m = true
    · rw [if_pos h1, if_pos (h m h1)]; omega
    · rw [if_neg h1]; omega
theorem cntT_less {T T' : Nat → Bool} (h : ∀ q, T q = true → T' q = true) {q : Nat} (h1 : T q ≠ true) (h2 : T' q = true) : ∀ m, q < m → cntT T m < cntT T' m
  | 0, hq => absurd hq (Nat.not_lt_zero _)
  | m + 1, hq => by
    rw [cntT_succ, cntT_succ]
    by_cases e : q = m
    · subst e
      have := cntT_mono h q
      rw [if_neg h1, if_pos h2]; omega
    · have := cntT_less h h1 h2 m (by omega)
      by_cases h3 : T m = true
      · rw [if_pos h3, if_pos (h m h3)]; omega
      · rw [if_neg h3]; omega
theorem cntT_all {T : Nat → Bool} : ∀ {m}, m ≤ cntT T m → ∀ q, q < m → T q = true
  | 0, _, q, hq => absurd hq (Nat.not_lt_zero _)
  | k + 1, h, q, hq => by
    rw [cntT_succ] at h
    have hle := cntT_le T k
    by_cases h1 : T k = true
    · rw [if_pos h1] at h
      by_cases e : q = k
      · rw [e]; exact h1
      · exact cntT_all (m := k) (by omega) q (by omega)
    · rw [if_neg h1] at h; omega
theorem clsd_or {T : Nat → Bool} : clsd S sym m T ∨ cntT T m < cntT (upR S sym T m) m := by
  by_cases h : clsd S sym m T
  · exact .inl h
  · right
    unfold clsd at h
    simp only [Classical.not_forall] at h
    obtain ⟨i, q, hi, hq, hT, he, hn⟩ := h
    exact cntT_less (fun q hq => upR_le hq m) hn (upR_ep hi hT he) m hq
theorem clsd_up {T : Nat → Bool} (hr : rng S m) (h : clsd S sym m T) : ∀ q, q < m → upR S sym T m q = true → T q = true := by
  have main : ∀ i, i ≤ m → ∀ q, q < m → upR S sym T i q = true → T q = true := by
    intro i
    induction i with
    | zero => exact fun _ q _ hq => hq
    | succ i ih =>
      intro hi q hq hu
      rcases up1_ep hr (by omega) hu with g | ⟨g1, g2⟩
      · exact ih (by omega) q hq g
      · exact h i q (by omega) hq (ih (by omega) i (by omega) g1) g2
  exact main m (Nat.le_refl _)
theorem upN_cls {T : Nat → Bool} (hr : rng S m) : ∀ k, clsd S sym m (upN S sym m T k) ∨ k ≤ cntT (upN S sym m T k) m
  | 0 => .inr (Nat.zero_le _)
  | k + 1 => by
    rcases upN_cls hr k with h | h
    · refine .inl fun i q hi hq h1 h2 => ?_
      exact upR_le (h i q hi hq (clsd_up hr h i hi h1) h2) m
    · rcases clsd_or (S := S) (sym := sym) (m := m) (T := upN S sym m T k) with g | g
      · refine .inl fun i q hi hq h1 h2 => ?_
        exact upR_le (g i q hi hq (clsd_up hr g i hi h1) h2) m
      · exact .inr (by show k + 1 ≤ cntT (upR S sym (upN S sym m T k) m) m; omega)
/-- Behind as many turns as there are states just that is true to which one comes at once. -/
theorem upN_iff {T : Nat → Bool} (hr : rng S m) {q : Nat} (hq : q < m) : upN S sym m T m q = true ↔ Cl S sym (fun q => q < m ∧ T q = true) q := by
  constructor
  · exact fun h => upN_rt hr hq h
  · rintro ⟨q0, ⟨h0, h1⟩, h2⟩
    have hc : clsd S sym m (upN S sym m T m) := by
      rcases upN_cls (S := S) (sym := sym) (T := T) hr m with h | h
      · exact h
      · exact fun i q _ hq _ _ => cntT_all h q hq
    have main : ∀ q, rt S sym q0 q → q < m ∧ upN S sym m T m q = true := by
      intro q h
      induction h with
      | refl => exact ⟨h0, upN_le h1 m⟩
      | @tail q' q'' _ he ih =>
        obtain ⟨g1, g2⟩ := ih
        obtain ⟨_, _, a1, a2, b1, b2⟩ := hr q' g1
        have hlt : q'' < m := by
          rcases he with ⟨_, h⟩ | ⟨_, h⟩ <;> omega
        exact ⟨hlt, hc q' q'' g1 hlt g2 he⟩
    exact (main q h2).2
end
end Go.Proofs.Ytdhplphgackjaaa

namespace Go.Proofs.Ytdhplphgackjaaa

def sfn (L : List Sd) (j : Nat) : Sd := L.getD j (sE 0)
def setA (L : List Sd) (j A : Nat) : List Sd := L.modify j fun s => { s with A := (A : Int) }
def setB (L : List Sd) (j B : Nat) : List Sd := L.modify j fun s => { s with B := (B : Int) }
theorem setA_len (L : List Sd) (j A : Nat) : (setA L j A).length = L.length := List.length_modify ..
theorem setB_len (L : List Sd) (j B : Nat) : (setB L j B).length = L.length := List.length_modify ..
theorem sfn_lt {L : List Sd} {j : Nat} (h : j < L.length) : sfn L j = L[j] := by unfold sfn; rw [List.getD_eq_getElem?_getD, List.getElem?_eq_getElem h]; rfl
theorem setA_at {L : List Sd} {j A : Nat} (h : j < L.length) : sfn (setA L j A) j = { sfn L j with A := (A : Int) } := by
  unfold sfn setA
  rw [List.getD_eq_getElem?_getD, List.getElem?_modify, List.getD_eq_getElem?_getD, List.getElem?_eq_getElem h]
  simp
theorem setA_ne {L : List Sd} {j A q : Nat} (h : q ≠ j) : sfn (setA L j A) q = sfn L q := by
  unfold sfn setA
  rw [List.getD_eq_getElem?_getD, List.getElem?_modify, List.getD_eq_getElem?_getD]
  simp [Ne.symm h]
theorem setB_at {L : List Sd} {j A : Nat} (h : j < L.length) : sfn (setB L j A) j = { sfn L j with B := (A : Int) } := by
  unfold sfn setB
  rw [List.getD_eq_getElem?_getD, List.getElem?_modify, List.getD_eq_getElem?_getD, List.getElem?_eq_getElem h]
  simp
theorem setB_ne {L : List Sd} {j A q : Nat} (h : q ≠ j) : sfn (setB L j A) q = sfn L q := by
  unfold sfn setB
  rw [List.getD_eq_getElem?_getD, List.getElem?_modify, List.getD_eq_getElem?_getD]
  simp [Ne.symm h]
theorem sfn_old {L : List Sd} {x : Sd} {q : Nat} (h : q < L.length) : sfn (L ++ [x]) q = sfn L q := by
  unfold sfn
  rw [List.getD_eq_getElem?_getD, List.getD_eq_getElem?_getD, List.getElem?_append_left h]
theorem sfn_new {L : List Sd} {x : Sd} {q : Nat} (h : q = L.length) : sfn (L ++ [x]) q = x := by
  subst h
  unfold sfn
  rw [List.getD_eq_getElem?_getD, List.getElem?_append_right (Nat.le_refl _)]
  simp
theorem setA_E {L : List Sd} {j A : Nat} (h : j < L.length) (hs : sfn L j = sE 0) : sfn (setA L j A) j = sE A := by rw [setA_at h, hs]; rfl
theorem setA_EE {L : List Sd} {j A B : Nat} (h : j < L.length) (hs : sfn L j = sE A) : sfn (setA L j B) j = sE B := by rw [setA_at h, hs]; rfl
theorem setB_S {L : List Sd} {j A B : Nat} (h : j < L.length) (hs : sfn L j = sS A 0) : sfn (setB L j B) j = sS A B := by rw [setB_at h, hs]; rfl

/-- Some copies, one behind the other: the states, and what is ahead. -/
def cpL (mk : List Sd → List Sd × Nat × Nat) : Nat → List Sd → Nat → List Sd × Nat
  | 0, L, ah => (L, ah)
  | m + 1, L, ah => cpL mk m (setA (mk L).1 ah (mk L).2.1) (mk L).2.2
/-- Some copies that may be left out: the states, what is ahead, the splits. -/
def opL (mk : List Sd → List Sd × Nat × Nat) : Nat → List Sd → Nat → List Sd × Nat × List Nat
  | 0, L, ah => (L, ah, [])
  | m + 1, L, ah =>
    let r := opL mk m (setA ((mk L).1 ++ [sS (mk L).2.1 0]) ah (mk L).1.length) (mk L).2.2
    (r.1, r.2.1, (mk L).1.length :: r.2.2)
def bsL (last : Nat) : List Sd → List Nat → List Sd
  | L, [] => L
  | L, s :: sp => bsL last (setB L s last) sp
def edL9 (inf : Bool) (r : List Sd × Nat × List Nat) : List Sd × Nat :=
  let U := setA (r.1 ++ [sE 0]) r.2.1 r.1.length
  let V := if inf then setA U r.2.1 (r.2.2.headD 0) else U
  (bsL r.1.length V r.2.2, r.1.length)
def leafS (x : Nd) (A : Nat) : Sd := ⟨skd x.k, x.a, x.b, x.c, x.d, A, 0⟩
/-- What is made of a tree's part, behind some states: all states, its first and its last one. -/
def mkF : Tr → List Sd → List Sd × Nat × Nat
  | .leaf x, L => (L ++ [leafS x (L.length + 1)] ++ [sE 0], L.length, L.length + 1)
  | .cat a b, L => (setA (mkF b (mkF a L).1).1 (mkF a L).2.2 (mkF b (mkF a L).1).2.1, (mkF a L).2.1, (mkF b (mkF a L).1).2.2)
  | .or a b, L =>
    let x := mkF a L
    let y := mkF b x.1
    (setA (setA (y.1 ++ [sS x.2.1 y.2.1] ++ [sE 0]) x.2.2 (y.1.length + 1)) y.2.2 (y.1.length + 1), y.1.length, y.1.length + 1)
  | .rep a lo hi, L =>
    let p := cpL (mkF a) lo.toNat (L ++ [sE 0]) L.length
    let r := edL9 (hi == -1) (opL (mkF a) (if hi = -1 then 1 else (hi - lo).toNat) p.1 p.2)
    (r.1, L.length, r.2)

/-- A part stands where its states stand. -/
def samP (S S' : Nat → Sd) (P P' : Nat → Nat → Nat → Prop) (sz : Nat) : Prop := ∀ b f l, (∀ q, b ≤ q → q < b + sz → q ≠ l → S q = S' q) → P b f l → P' b f l
theorem cps_same {S S' : Nat → Sd} {P P' : Nat → Nat → Nat → Prop} {sz : Nat} (hP : inP P sz) (hs : samP S S' P P' sz) : ∀ {m base ah b1 a1}, ah < base → (∀ q, (q = ah ∨ (base ≤ q ∧ q < b1)) → q ≠ a1 → S q = S' q) → cps S P sz m base ah b1 a1 → cps S' P' sz m base ah b1 a1
  | 0, _, _, _, _, _, _, h => h
  | m + 1, base, ah, b1, a1, hlt, hq, ⟨f, l, h1, h2, h3⟩ => by
    obtain ⟨k1, k2, k3, k4, k5⟩ := hP _ _ _ h2
    obtain ⟨g1, g2⟩ := cps_bd hP h3
    have hb1 : base + sz ≤ b1 := by omega
    refine ⟨f, l, ?_, hs _ _ _ (fun q q1 q2 q3 => hq q (.inr ⟨q1, by omega⟩) (by rcases g2 with ⟨_, rfl⟩ | g2 <;> omega)) h2, cps_same hP hs (by omega) (fun q hq' hne => hq q (.inr (by rcases hq' with rfl | hq' <;> omega)) hne) h3⟩
    rw [← hq ah (.inl rfl) (by rcases g2 with ⟨_, rfl⟩ | g2 <;> omega)]
    exact h1
theorem opts_same {S S' : Nat → Sd} {P P' : Nat → Nat → Nat → Prop} {sz : Nat} (hP : inP P sz) (hs : samP S S' P P' sz) : ∀ {m base ah L}, (∀ q, (q = ah ∨ (base ≤ q ∧ q < L)) → S q = S' q) → opts S P sz m base ah L → opts S' P' sz m base ah L
  | 0, _, ah, _, hq, ⟨h1, h2⟩ => ⟨h1, by rw [← hq ah (.inl rfl)]; exact h2⟩
  | m + 1, base, ah, L, hq, ⟨f, l, h1, h2, h3, h4⟩ => by
    obtain ⟨k1, k2, k3, k4, k5⟩ := hP _ _ _ h1
    have g := opts_bd h4
    refine ⟨f, l, hs _ _ _ (fun q q1 q2 _ => hq q (.inr ⟨q1, by omega⟩)) h1, ?_, ?_, opts_same hP hs (fun q hq' => hq q (.inr (by rcases hq' with rfl | hq' <;> omega))) h4⟩
    · rw [← hq _ (.inr ⟨by omega, by omega⟩)]; exact h2
    · rw [← hq ah (.inl rfl)]; exact h3
theorem again_same {S S' : Nat → Sd} {P P' : Nat → Nat → Nat → Prop} {sz : Nat} (hP : inP P sz) (hs : samP S S' P P' sz) {base ah L : Nat} (hq : ∀ q, (q = ah ∨ (base ≤ q ∧ q < L)) → S q = S' q) (h : again9 S P sz base ah L) : again9 S' P' sz base ah L := by
  obtain ⟨f, l, h1, h2, h3, h4, h5⟩ := h
  obtain ⟨k1, k2, k3, k4, k5⟩ := hP _ _ _ h1
  exact ⟨f, l, hs _ _ _ (fun q q1 q2 _ => hq q (.inr ⟨q1, by omega⟩)) h1, by rw [← hq _ (.inr ⟨by omega, by omega⟩)]; exact h2, by rw [← hq ah (.inl rfl)]; exact h3, by rw [← hq _ (.inr ⟨by omega, by omega⟩)]; exact h4, h5⟩
theorem fr_same {S S' : Nat → Sd} : ∀ t, samP S S' (isFr S t) (isFr S' t) (nst t)
  | .leaf x, b, f, l, hq, ⟨h1, h2, h3⟩ => ⟨h1, h2, by rw [← hq f (by omega) (by show _ < b + 2; omega) (by omega)]; exact h3⟩
  | .cat x y, b, f, l, hq, ⟨la, fb, h1, h2, h3⟩ => by
    have g1 := fr_bd S x _ _ _ h1
    have g2 := fr_bd S y _ _ _ h2
    have hq : ∀ q, b ≤ q → q < b + (nst x + nst y) → q ≠ l → S q = S' q := hq
    exact ⟨la, fb, fr_same x _ _ _ (fun q q1 q2 q3 => hq q q1 (by omega) (by omega)) h1, fr_same y _ _ _ (fun q q1 q2 q3 => hq q (by omega) (by omega) q3) h2, by rw [← hq la (by omega) (by omega) (by omega)]; exact h3⟩
  | .or x y, b, f, l, hq, ⟨fa, la, fb, lb, h1, h2, h3, h4, h5, h6, h7⟩ => by
    have g1 := fr_bd S x _ _ _ h1
    have g2 := fr_bd S y _ _ _ h2
    have hq : ∀ q, b ≤ q → q < b + (nst x + nst y + 2) → q ≠ l → S q = S' q := hq
    exact ⟨fa, la, fb, lb, fr_same x _ _ _ (fun q q1 q2 q3 => hq q q1 (by omega) (by omega)) h1, fr_same y _ _ _ (fun q q1 q2 q3 => hq q (by omega) (by omega) (by omega)) h2, h3, h4,
      by rw [← hq f (by omega) (by omega) (by omega)]; exact h5, by rw [← hq la (by omega) (by omega) (by omega)]; exact h6, by rw [← hq lb (by omega) (by omega) (by omega)]; exact h7⟩
  | .rep x lo hi, b, f, l, hq, ⟨h1, base', ah, h2, h3⟩ => by
    have hP := fr_bd S x
    obtain ⟨g1, g2⟩ := cps_bd hP h2
    have hl : b + 1 ≤ base' ∧ base' ≤ l ∧ l < b + nst (.rep x lo hi) := by
      refine ⟨by omega, ?_, ?_⟩
      · by_cases hh : hi = -1
        · rw [if_pos hh] at h3; obtain ⟨_, _, _, _, _, _, h8⟩ := h3; omega
        · rw [if_neg hh] at h3; have := opts_bd h3; omega
      · show _ < b + (2 + lo.toNat * nst x + _)
        by_cases hh : hi = -1
        · rw [if_pos hh] at h3 ⊢; obtain ⟨_, _, _, _, _, _, h8⟩ := h3; omega
        · rw [if_neg hh] at h3 ⊢; have := opts_bd h3; omega
    have hS : ∀ q, b ≤ q → q < l → S q = S' q := fun q q1 q2 => hq q q1 (by omega) (by omega)
    refine ⟨h1, base', ah, cps_same hP (fr_same x) (by omega) (fun q q1 q2 => hS q (by omega) (by omega)) h2, ?_⟩
    by_cases hh : hi = -1
    · rw [if_pos hh] at h3 ⊢
      exact again_same hP (fr_same x) (fun q q1 => hS q (by omega) (by rcases q1 with rfl | q1 <;> first | omega | (obtain ⟨_, _, _, _, _, _, h8⟩ := h3; omega))) h3
    · rw [if_neg hh] at h3 ⊢
      have hbd := opts_bd h3
      by_cases hl' : ah < l
      · exact opts_same hP (fr_same x) (fun q q1 => hS q (by omega) (by omega)) h3
      · omega
end Go.Proofs.Ytdhplphgackjaaa

namespace Go.Proofs.Ytdhplphgackjaaa
open Go.RowKit

theorem infoState9 : (Try.prog.info? 58).map (fun i => (i.zero, i.size, i.bytes)) = some (some (.agg #[.int .i64 0, .int .i64 0, .int .i64 0, .int .u64 0, .int .u64 0, .int .u64 0, .int .u64 0]), 7, 56) := by kernel_rfl
def scs (x : Sd) : List Value := [.int .i64 x.k, .int .i64 x.A, .int .i64 x.B, .int .u64 x.a, .int .u64 x.b, .int .u64 x.c, .int .u64 x.d]
def sds (l : List Sd) : List Value := l.flatMap scs
theorem sds_append (l r : List Sd) : sds (l ++ r) = sds l ++ sds r := by simp [sds]
theorem sds_one (x : Sd) : sds [x] = scs x := by simp [sds]
theorem sds_cons (x : Sd) (l : List Sd) : sds (x :: l) = scs x ++ sds l := rfl
theorem sds_len (l : List Sd) : (sds l).length = l.length * 7 := by
  induction l with
  | nil => rfl
  | cons x l ih => rw [sds_cons, List.length_append, ih, List.length_cons]; simp [scs]; omega
theorem sds_cell (l : List Sd) : ∀ u ∈ sds l, u.oneCell' = true := by
  intro u hu
  unfold sds at hu
  obtain ⟨x, _, hx⟩ := List.mem_flatMap.1 hu
  unfold scs at hx
  simp at hx
  rcases hx with rfl | rfl | rfl | rfl | rfl | rfl | rfl <;> rfl
theorem sds_get (l : List Sd) (j : Nat) (h : j < l.length) (x : Nat) (hx : x < 7) : (sds l)[j * 7 + x]? = (scs l[j])[x]? := by
  induction l generalizing j with
  | nil => simp at h
  | cons r l ih =>
    have e7 : (scs r).length = 7 := rfl
    rw [sds_cons]
    cases j with
    | zero => rw [List.getElem?_append_left (by omega)]; simp
    | succ j =>
      rw [List.getElem?_append_right (by omega), e7, show (j + 1) * 7 + x - 7 = j * 7 + x by omega]
      exact ih j (by simpa using h)
theorem sds_setA (l : List Sd) (j A : Nat) : (sds l).set (j * 7 + 1) (.int .i64 (A : Int)) = sds (setA l j A) := by
  induction l generalizing j with
  | nil => simp [sds, setA]
  | cons r l ih =>
    cases j with
    | zero => rfl
    | succ j =>
      have e : setA (r :: l) (j + 1) A = r :: setA l j A := rfl
      rw [sds_cons, e, sds_cons, ← ih j, show (j + 1) * 7 + 1 = (j * 7 + 1) + 7 by omega]
      rfl
theorem sds_setB (l : List Sd) (j A : Nat) : (sds l).set (j * 7 + 2) (.int .i64 (A : Int)) = sds (setB l j A) := by
  induction l generalizing j with
  | nil => simp [sds, setB]
  | cons r l ih =>
    cases j with
    | zero => rfl
    | succ j =>
      have e : setB (r :: l) (j + 1) A = r :: setB l j A := rfl
      rw [sds_cons, e, sds_cons, ← ih j, show (j + 1) * 7 + 2 = (j * 7 + 2) + 7 by omega]
      rfl

/-- A row of states that a call owns, not empty. -/
def stO (w : World) (base g c : Nat) (L : List Sd) : Prop := w.ownsRow base 58 7 (.slice (some ⟨g, 0, none⟩) L.length c) L.length (sds L)
theorem stO.below {w w' : World} {base g c : Nat} {L : List Sd} (h : stO w base g c L) (hb : Below w.heap.size w w') : stO w' base g c L := owns_below h hb
theorem stO.mono {w : World} {base base' g c : Nat} {L : List Sd} (h : stO w base g c L) (hb : base' ≤ base) : stO w base' g c L := owns_mono h hb
theorem stO.lt {w : World} {base g c : Nat} {L : List Sd} (h : stO w base g c L) : base ≤ g ∧ g < w.heap.size := World.ownsRow.lt h g rfl
theorem stO.free {w : World} {base g c : Nat} {L : List Sd} (h : stO w base g c L) (j : Nat) : w.frozen? ⟨g, j, none⟩ = false := World.ownsRow.frozenAt h j
theorem stO.putA {w : World} {base g c : Nat} {L : List Sd} (h : stO w base g c L) (j A : Nat) : stO (w.setCell ⟨g, j * 7 + 1, none⟩ (.int .i64 (A : Int))) base g c (setA L j A) := by
  have := (World.ownsRow.stored h (j * 7 + 1) (.int .i64 (A : Int))).1
  rw [sds_setA] at this
  unfold stO
  rw [setA_len]; exact this
theorem stO.putB {w : World} {base g c : Nat} {L : List Sd} (h : stO w base g c L) (j A : Nat) : stO (w.setCell ⟨g, j * 7 + 2, none⟩ (.int .i64 (A : Int))) base g c (setB L j A) := by
  have := (World.ownsRow.stored h (j * 7 + 2) (.int .i64 (A : Int))).1
  rw [sds_setB] at this
  unfold stO
  rw [setB_len]; exact this
theorem stO.cell {w : World} {base g c : Nat} {L : List Sd} (h : stO w base g c L) (j : Nat) (u : Value) (hu : (sds L)[j]? = some u) : w.cell? ⟨g, j, none⟩ = some u := by
  have hl : j < L.length * 7 := by
    rcases Nat.lt_or_ge j (sds L).length with h | h
    · rwa [sds_len] at h
    · rw [List.getElem?_eq_none h] at hu; cases hu
  rw [World.ownsRow.cellAt h j hl]; exact hu
/-- The states that a slice reads as: none, or those of a block. -/
def srd (w : World) (v : Value) (L : List Sd) : Prop := (v = .slice none 0 0 ∧ L = []) ∨ ∃ b c, v = .slice (some ⟨b, 0, none⟩) L.length c ∧ b < w.heap.size ∧ ∀ j u, (sds L)[j]? = some u → w.cell? ⟨b, j, none⟩ = some u
theorem srd.below {w w' : World} {v : Value} {L : List Sd} (h : srd w v L) (hb : Below w.heap.size w w') : srd w' v L := by
  rcases h with h | ⟨b, c, rfl, hl, hc⟩
  · exact .inl h
  · exact .inr ⟨b, c, rfl, Nat.lt_of_lt_of_le hl hb.size, fun j u hu => by rw [hb.cell (p := ⟨b, j, none⟩) hl]; exact hc j u hu⟩
theorem stO.rd {w : World} {base g c : Nat} {L : List Sd} (h : stO w base g c L) : srd w (.slice (some ⟨g, 0, none⟩) L.length c) L := .inr ⟨g, c, rfl, h.lt.2, fun j u hu => h.cell j u hu⟩
theorem stO.reads {w : World} {base g c : Nat} {L : List Sd} (h : stO w base g c L) : rdS w g 0 L.length (sfn L) := fun j hj => by
  refine ⟨h.lt.2, ?_⟩
  rw [sfn_lt hj]
  have k : ∀ x u, x < 7 → (scs L[j])[x]? = some u → w.cell? ⟨g, 0 + j * 7 + x, none⟩ = some u := fun x u hx hu => by
    rw [Nat.zero_add]
    exact h.cell _ _ (by rw [sds_get L j hj x hx]; exact hu)
  exact ⟨k 0 _ (by decide) rfl, k 1 _ (by decide) rfl, k 2 _ (by decide) rfl, k 3 _ (by decide) rfl, k 4 _ (by decide) rfl, k 5 _ (by decide) rfl, k 6 _ (by decide) rfl⟩
theorem stO_of {w : World} {base : Nat} {v : Value} {L : List Sd} (h : w.ownsRow base 58 7 v L.length (sds L)) (hl : 1 ≤ L.length) : ∃ g c, v = .slice (some ⟨g, 0, none⟩) L.length c ∧ stO w base g c L := by
  rcases id h.2 with ⟨rfl, h0⟩ | ⟨g, cap, cur, rfl, _⟩
  · omega
  · exact ⟨g, cap, rfl, h⟩
theorem lit_st9 (w : World) (x : Sd) : ∀ j u, (sds [x])[j]? = some u → (w.alloc (.cells #[.int .i64 x.k, .int .i64 x.A, .int .i64 x.B, .int .u64 x.a, .int .u64 x.b, .int .u64 x.c, .int .u64 x.d] 58)).cell? ((⟨w.heap.size, 0, none⟩ : Addr).add j) = some u := by
  intro j u hu
  rw [sds_one] at hu
  unfold scs at hu
  match j, hu with
  | 0, hu => simp at hu; subst hu; simp [Addr.add]
  | 1, hu => simp at hu; subst hu; simp [Addr.add]
  | 2, hu => simp at hu; subst hu; simp [Addr.add]
  | 3, hu => simp at hu; subst hu; simp [Addr.add]
  | 4, hu => simp at hu; subst hu; simp [Addr.add]
  | 5, hu => simp at hu; subst hu; simp [Addr.add]
  | 6, hu => simp at hu; subst hu; simp [Addr.add]
end Go.Proofs.Ytdhplphgackjaaa
