/-
  Rows of bools, and states, in memory; where one comes at once as the reference counts it.
  Classes of places by what tells them apart: numbered by their first ones. Plain facts.
-/
import Derived.Test.YthmkjdpmpcjinaaPk12
import Derived.OwnWalk
namespace Go.Proofs.Ythmkjdpmpcjinaa
open Go.RowKit

def bls (T : Nat → Bool) (m : Nat) : List Value := (List.range m).map fun j => Value.bool (T j)
theorem bls_len (T : Nat → Bool) (m : Nat) : (bls T m).length = m := by simp [bls]
theorem bls_at (T : Nat → Bool) (m j : Nat) (h : j < m) : (bls T m)[j]? = some (.bool (T j)) := by simp [bls, h]
def putT (T : Nat → Bool) (j : Nat) (b : Bool) : Nat → Bool := fun x => if x = j then b else T x
theorem bls_set (T : Nat → Bool) (m j : Nat) (b : Bool) : (bls T m).set j (.bool b) = bls (putT T j b) m := by
  unfold bls
  apply List.ext_getElem
  · simp
  · intro i h1 h2
    simp only [List.getElem_set, List.getElem_map, List.getElem_range, putT]
    by_cases h : i = j
    · rw [if_pos h.symm, if_pos h]
    · rw [if_neg (fun e => h e.symm), if_neg h]
/-- A row of m bools that the call owns. -/
def blR (w : World) (base g c m : Nat) (T : Nat → Bool) : Prop := w.ownsRow base 4 1 (.slice (some ⟨g, 0, none⟩) m c) m (bls T m)
theorem blR.cell {w : World} {base g c m : Nat} {T : Nat → Bool} (h : blR w base g c m T) (j : Nat) (hj : j < m) : w.cell? ⟨g, j, none⟩ = some (.bool (T j)) := by
  rw [World.ownsRow.cellAt h j (by omega)]; exact bls_at T m j hj
theorem blR.free {w : World} {base g c m : Nat} {T : Nat → Bool} (h : blR w base g c m T) (j : Nat) : w.frozen? ⟨g, j, none⟩ = false := World.ownsRow.frozenAt h j
theorem blR.lt {w : World} {base g c m : Nat} {T : Nat → Bool} (h : blR w base g c m T) : base ≤ g ∧ g < w.heap.size := World.ownsRow.lt h g rfl
theorem blR.below {w w' : World} {base g c m : Nat} {T : Nat → Bool} (h : blR w base g c m T) (hb : Below w.heap.size w w') : blR w' base g c m T := owns_below h hb
theorem blR.put {w : World} {base g c m : Nat} {T : Nat → Bool} (h : blR w base g c m T) (j : Nat) (b : Bool) : blR (w.setCell ⟨g, j, none⟩ (.bool b)) base g c m (putT T j b) := by
  have := (World.ownsRow.stored h j (.bool b)).1
  rw [bls_set] at this
  exact this
theorem blR.same {w : World} {base g c m : Nat} {T T' : Nat → Bool} (h : blR w base g c m T) (hT : ∀ j, j < m → T j = T' j) : blR w base g c m T' := by
  have e : bls T m = bls T' m := by
    unfold bls
    exact List.map_congr_left fun i hi => by rw [hT i (List.mem_range.1 hi)]
  unfold blR at h ⊢
  rw [← e]; exact h
/-- Bools that are read. -/
def rdB (w : World) (g m : Nat) (T : Nat → Bool) : Prop := g < w.heap.size ∧ ∀ j, j < m → w.cell? ⟨g, j, none⟩ = some (.bool (T j))
theorem rdB.below {w w' : World} {g m : Nat} {T : Nat → Bool} (h : rdB w g m T) (hb : Below w.heap.size w w') : rdB w' g m T :=
  ⟨Nat.lt_of_lt_of_le h.1 hb.size, fun j hj => by rw [hb.cell (p := ⟨g, j, none⟩) h.1]; exact h.2 j hj⟩
theorem blR.rd {w : World} {base g c m : Nat} {T : Nat → Bool} (h : blR w base g c m T) : rdB w g m T := ⟨h.lt.2, fun j hj => h.cell j hj⟩
theorem infoBool9 : (Try.prog.info? 4).map (fun i => (i.zero, i.size, i.bytes)) = some (some (.bool false), 1, 1) := by kernel_rfl

/-- A state's cells at a place; the states that lie in a block from a place on. -/
def sdAt (w : World) (b o : Nat) (x : Sd) : Prop := w.cell? ⟨b, o, none⟩ = some (.int .i64 x.k) ∧ w.cell? ⟨b, o + 1, none⟩ = some (.int .i64 x.A) ∧ w.cell? ⟨b, o + 2, none⟩ = some (.int .i64 x.B) ∧ w.cell? ⟨b, o + 3, none⟩ = some (.int .u64 x.a) ∧ w.cell? ⟨b, o + 4, none⟩ = some (.int .u64 x.b) ∧ w.cell? ⟨b, o + 5, none⟩ = some (.int .u64 x.c) ∧ w.cell? ⟨b, o + 6, none⟩ = some (.int .u64 x.d)
theorem sdAt.below {w w' : World} {b o B : Nat} {x : Sd} (h : sdAt w b o x) (hb : Below B w w') (hB : b < B) : sdAt w' b o x := by
  have c : ∀ x, w'.cell? ⟨b, x, none⟩ = w.cell? ⟨b, x, none⟩ := fun x => hb.cell (p := ⟨b, x, none⟩) hB
  unfold sdAt at h ⊢
  simp only [c]
  exact h
def rdS (w : World) (b off m : Nat) (S : Nat → Sd) : Prop := ∀ j, j < m → b < w.heap.size ∧ sdAt w b (off + j * 7) (S j)
theorem rdS.below {w w' : World} {b off m : Nat} {S : Nat → Sd} (h : rdS w b off m S) (hb : Below w.heap.size w w') : rdS w' b off m S := fun j hj =>
  ⟨Nat.lt_of_lt_of_le (h j hj).1 hb.size, (h j hj).2.below hb (h j hj).1⟩
/-- A and B are places of states, where they count. -/
def rng (S : Nat → Sd) (m : Nat) : Prop := ∀ q, q < m → 1 ≤ (S q).k ∧ (S q).k ≤ 6 ∧ 0 ≤ (S q).A ∧ (S q).A < m ∧ 0 ≤ (S q).B ∧ (S q).B < m

/-- Does a state go on at once to A? -/
def eA (S : Nat → Sd) (sym : Int) (q : Nat) : Bool := (S q).k == 2 || (S q).k == 3 || ((S q).k == 4 && (sym == 256 || sym == 258)) || ((S q).k == 5 && (sym == 257 || sym == 258))
theorem eA_iff {S : Nat → Sd} {sym : Int} {q : Nat} : eA S sym q = true ↔ ((S q).k = 2 ∨ (S q).k = 3 ∨ ((S q).k = 4 ∧ (sym = 256 ∨ sym = 258)) ∨ ((S q).k = 5 ∧ (sym = 257 ∨ sym = 258))) := by
  unfold eA
  simp only [Bool.or_eq_true, Bool.and_eq_true, beq_iff_eq]
  constructor
  · rintro (((h | h) | h) | h)
    · exact .inl h
    · exact .inr (.inl h)
    · exact .inr (.inr (.inl h))
    · exact .inr (.inr (.inr h))
  · rintro (h | h | h | h)
    · exact .inl (.inl (.inl h))
    · exact .inl (.inl (.inr h))
    · exact .inl (.inr h)
    · exact .inr h
/-- What the reference does at a state; at all of them in turn; so many turns. -/
def up1 (S : Nat → Sd) (sym : Int) (T : Nat → Bool) (i : Nat) : Nat → Bool :=
  if T i = true then (if (S i).k = 3 then putT (putT T (S i).A.toNat true) (S i).B.toNat true else if eA S sym i = true then putT T (S i).A.toNat true else T) else T
def upR (S : Nat → Sd) (sym : Int) (T : Nat → Bool) : Nat → Nat → Bool
  | 0 => T
  | i + 1 => up1 S sym (upR S sym T i) i
def upN (S : Nat → Sd) (sym : Int) (m : Nat) (T : Nat → Bool) : Nat → Nat → Bool
  | 0 => T
  | k + 1 => upR S sym (upN S sym m T k) m

section
variable {S : Nat → Sd} {sym : Int} {m : Nat}
theorem putT_le {T : Nat → Bool} {j q : Nat} (h : T q = true) : putT T j true q = true := by unfold putT; split <;> first | rfl | exact h
theorem putT_at {T : Nat → Bool} {j : Nat} : putT T j true j = true := by unfold putT; rw [if_pos rfl]
theorem putT_or {T : Nat → Bool} {j q : Nat} (h : putT T j true q = true) : T q = true ∨ q = j := by
  unfold putT at h
  by_cases e : q = j
  · exact .inr e
  · rw [if_neg e] at h; exact .inl h
theorem up1_le {T : Nat → Bool} {i q : Nat} (h : T q = true) : up1 S sym T i q = true := by
  unfold up1
  split
  · split
    · exact putT_le (putT_le h)
    · split
      · exact putT_le h
      · exact h
  · exact h
theorem upR_le {T : Nat → Bool} {q : Nat} (h : T q = true) : ∀ i, upR S sym T i q = true
  | 0 => h
  | i + 1 => up1_le (upR_le h i)
theorem upN_le {T : Nat → Bool} {q : Nat} (h : T q = true) : ∀ k, upN S sym m T k q = true
  | 0 => h
  | k + 1 => upR_le (upN_le h k) m
/-- What is true behind a state was so ahead, or is where it goes. -/
theorem up1_ep {T : Nat → Bool} {i q : Nat} (hr : rng S m) (hi : i < m) (h : up1 S sym T i q = true) : T q = true ∨ (T i = true ∧ ep S sym i q) := by
  obtain ⟨_, _, a1, a2, b1, b2⟩ := hr i hi
  unfold up1 at h
  split at h
  · rename_i hT
    split at h
    · rename_i h3
      rcases putT_or h with h | rfl
      · rcases putT_or h with h | rfl
        · exact .inl h
        · exact .inr ⟨hT, .inl ⟨.inr (.inl h3), by omega⟩⟩
      · exact .inr ⟨hT, .inr ⟨h3, by omega⟩⟩
    · split at h
      · rename_i hA
        rcases putT_or h with h | rfl
        · exact .inl h
        · exact .inr ⟨hT, .inl ⟨eA_iff.1 hA, by omega⟩⟩
      · exact .inl h
  · exact .inl h
theorem ep_up1 {T : Nat → Bool} {i q : Nat} (hT : T i = true) (h : ep S sym i q) : up1 S sym T i q = true := by
  unfold up1
  rw [if_pos hT]
  rcases h with ⟨h1, h2⟩ | ⟨h1, h2⟩
  · by_cases h3 : (S i).k = 3
    · rw [if_pos h3]
      have : q = (S i).A.toNat := by omega
      rw [this]; exact putT_le putT_at
    · rw [if_neg h3, if_pos (eA_iff.2 h1)]
      have : q = (S i).A.toNat := by omega
      rw [this]; exact putT_at
  · rw [if_pos h1]
    have : q = (S i).B.toNat := by omega
    rw [this]; exact putT_at
theorem upR_rt {T : Nat → Bool} (hr : rng S m) : ∀ {i q}, i ≤ m → q < m → upR S sym T i q = true → ∃ q0, (q0 < m ∧ T q0 = true) ∧ rt S sym q0 q
  | 0, q, _, hq, h => ⟨q, ⟨hq, h⟩, .refl _⟩
  | i + 1, q, hi, hq, h => by
    rcases up1_ep hr (by omega) h with h | ⟨h, h2⟩
    · exact upR_rt hr (by omega) hq h
    · obtain ⟨q0, g1, g2⟩ := upR_rt hr (by omega) (by omega) h
      exact ⟨q0, g1, .tail g2 h2⟩
theorem upN_rt {T : Nat → Bool} (hr : rng S m) : ∀ {k q}, q < m → upN S sym m T k q = true → ∃ q0, (q0 < m ∧ T q0 = true) ∧ rt S sym q0 q
  | 0, q, hq, h => ⟨q, ⟨hq, h⟩, .refl _⟩
  | k + 1, q, hq, h => by
    obtain ⟨q0, ⟨g0, g1⟩, g2⟩ := upR_rt hr (Nat.le_refl _) hq h
    obtain ⟨q1, k1, k2⟩ := upN_rt hr g0 g1
    exact ⟨q1, k1, k2.trans g2⟩
theorem upR_mono {T : Nat → Bool} {q : Nat} {i : Nat} (h : upR S sym T i q = true) : ∀ d, upR S sym T (i + d) q = true
  | 0 => h
  | d + 1 => up1_le (upR_mono h d)
/-- A turn reaches all to which one step leads. -/
theorem upR_ep {T : Nat → Bool} {i q : Nat} (hi : i < m) (hT : T i = true) (h : ep S sym i q) : upR S sym T m q = true := by
  have h1 : upR S sym T (i + 1) q = true := ep_up1 (upR_le hT i) h
  have := upR_mono h1 (m - (i + 1))
  rwa [show i + 1 + (m - (i + 1)) = m by omega] at this
/-- Is nothing new reached by one step? -/
def clsd (S : Nat → Sd) (sym : Int) (m : Nat) (T : Nat → Bool) : Prop := ∀ i q, i < m → q < m → T i = true → ep S sym i q → T q = true
def cntT (T : Nat → Bool) (m : Nat) : Nat := ((List.range m).filter fun j => T j).length
theorem cntT_le (T : Nat → Bool) (m : Nat) : cntT T m ≤ m := by
  unfold cntT
  have := List.length_filter_le (fun j => T j) (List.range m)
  rwa [List.length_range] at this
theorem cntT_succ (T : Nat → Bool) (m : Nat) : cntT T (m + 1) = cntT T m + if T m = true then 1 else 0 := by
  unfold cntT
  rw [List.range_succ, List.filter_append, List.length_append]
  congr 1
  by_cases h : T m = true
  · rw [if_pos h, List.filter_cons_of_pos h]; rfl
  · rw [if_neg h, List.filter_cons_of_neg h]; rfl
theorem cntT_mono {T T' : Nat → Bool} (h : ∀ q, T q = true → T' q = true) : ∀ m, cntT T m ≤ cntT T' m
  | 0 => Nat.le_refl _
  | m + 1 => by
    have := cntT_mono h m
    rw [cntT_succ, cntT_succ]
    by_cases h1 : T m = true
    · rw [if_pos h1, if_pos (h m h1)]; omega
    · rw [if_neg h1]; omega
theorem cntT_less {T T' : Nat → Bool} (h : ∀ q, T q = true → T' q = true) {q : Nat} (h1 : T q ≠ true) (h2 : T' q = true) : ∀ m, q < m → cntT T m < cntT T' m
  | 0, hq => absurd hq (Nat.not_lt_zero _)
  | m + 1, hq => by
    rw [cntT_succ, cntT_succ]
    by_cases e : q = m
    · subst e
      have := cntT_mono h q
      rw [if_neg h1, if_pos h2]; omega
    · have := cntT_less h h1 h2 m (by omega)
      by_cases h3 : T m = true
      · rw [if_pos h3, if_pos (h m h3)]; omega
      · rw [if_neg h3]; omega
theorem cntT_all {T : Nat → Bool} : ∀ {m}, m ≤ cntT T m → ∀ q, q < m → T q = true
  | 0, _, q, hq => absurd hq (Nat.not_lt_zero _)
  | k + 1, h, q, hq => by
    rw [cntT_succ] at h
    have hle := cntT_le T k
    by_cases h1 : T k = true
    · rw [if_pos h1] at h
      by_cases e : q = k
      · rw [e]; exact h1
      · exact cntT_all (m := k) (by omega) q (by omega)
    · rw [if_neg h1] at h; omega
theorem clsd_or {T : Nat → Bool} : clsd S sym m T ∨ cntT T m < cntT (upR S sym T m) m := by
  by_cases h : clsd S sym m T
  · exact .inl h
  · right
    unfold clsd at h
    simp only [Classical.not_forall] at h
    obtain ⟨i, q, hi, hq, hT, he, hn⟩ := h
    exact cntT_less (fun q hq => upR_le hq m) hn (upR_ep hi hT he) m hq
theorem clsd_up {T : Nat → Bool} (hr : rng S m) (h : clsd S sym m T) : ∀ q, q < m → upR S sym T m q = true → T q = true := by
  have main : ∀ i, i ≤ m → ∀ q, q < m → upR S sym T i q = true → T q = true := by
    intro i
    induction i with
    | zero => exact fun _ q _ hq => hq
    | succ i ih =>
      intro hi q hq hu
      rcases up1_ep hr (by omega) hu with g | ⟨g1, g2⟩
      · exact ih (by omega) q hq g
      · exact h i q (by omega) hq (ih (by omega) i (by omega) g1) g2
  exact main m (Nat.le_refl _)
theorem upN_cls {T : Nat → Bool} (hr : rng S m) : ∀ k, clsd S sym m (upN S sym m T k) ∨ k ≤ cntT (upN S sym m T k) m
  | 0 => .inr (Nat.zero_le _)
  | k + 1 => by
    rcases upN_cls hr k with h | h
    · refine .inl fun i q hi hq h1 h2 => ?_
      exact upR_le (h i q hi hq (clsd_up hr h i hi h1) h2) m
    · rcases clsd_or (S := S) (sym := sym) (m := m) (T := upN S sym m T k) with g | g
      · refine .inl fun i q hi hq h1 h2 => ?_
        exact upR_le (g i q hi hq (clsd_up hr g i hi h1) h2) m
      · exact .inr (by show k + 1 ≤ cntT (upR S sym (upN S sym m T k) m) m; omega)
/-- Behind as many turns as there are states just that is true to which one comes at once. -/
theorem upN_iff {T : Nat → Bool} (hr : rng S m) {q : Nat} (hq : q < m) : upN S sym m T m q = true ↔ Cl S sym (fun q => q < m ∧ T q = true) q := by
  constructor
  · exact fun h => upN_rt hr hq h
  · rintro ⟨q0, ⟨h0, h1⟩, h2⟩
    have hc : clsd S sym m (upN S sym m T m) := by
      rcases upN_cls (S := S) (sym := sym) (T := T) hr m with h | h
      · exact h
      · exact fun i q _ hq _ _ => cntT_all h q hq
    have main : ∀ q, rt S sym q0 q → q < m ∧ upN S sym m T m q = true := by
      intro q h
      induction h with
      | refl => exact ⟨h0, upN_le h1 m⟩
      | @tail q' q'' _ he ih =>
        obtain ⟨g1, g2⟩ := ih
        obtain ⟨_, _, a1, a2, b1, b2⟩ := hr q' g1
        have hlt : q'' < m := by
          rcases he with ⟨_, h⟩ | ⟨_, h⟩ <;> omega
        exact ⟨hlt, hc q' q'' g1 hlt g2 he⟩
    exact (main q h2).2
end
end Go.Proofs.Ythmkjdpmpcjinaa

namespace Go.Proofs.Ythmkjdpmpcjinaa

/-- The first place that is like a place. -/
def hdA (R : Nat → Nat → Bool) (x : Nat) : Nat := ((List.range x).find? fun k => R k x).getD x
theorem hdA_le (R : Nat → Nat → Bool) (x : Nat) : hdA R x ≤ x := by
  unfold hdA
  cases h : (List.range x).find? fun k => R k x with
  | none => exact Nat.le_refl _
  | some k => exact Nat.le_of_lt (List.mem_range.1 (List.mem_of_find?_eq_some h))
theorem hdA_like {R : Nat → Nat → Bool} (hr : ∀ x, R x x = true) (x : Nat) : R (hdA R x) x = true := by
  unfold hdA
  cases h : (List.range x).find? fun k => R k x with
  | none => exact hr x
  | some k => exact List.find?_some (p := fun k => R k x) h
theorem find_range {P : Nat → Bool} : ∀ {n k}, k < n → P k = true → (∀ j, j < k → P j = false) → (List.range n).find? P = some k
  | 0, k, h, _, _ => absurd h (Nat.not_lt_zero _)
  | n + 1, k, h, hk, hj => by
    rw [List.range_succ, List.find?_append]
    by_cases e : k = n
    · subst e
      have : (List.range k).find? P = none := List.find?_eq_none.2 fun x hx => by rw [hj x (List.mem_range.1 hx)]; simp
      rw [this]
      simp [hk]
    · rw [find_range (n := n) (by omega) hk hj]; rfl
theorem find_range_none {P : Nat → Bool} {n : Nat} (h : ∀ j, j < n → P j = false) : (List.range n).find? P = none := List.find?_eq_none.2 fun x hx => by rw [h x (List.mem_range.1 hx)]; simp
theorem hdA_least {R : Nat → Nat → Bool} {x k : Nat} (h : k < hdA R x) : R k x = false := by
  cases hk : R k x with
  | false => rfl
  | true =>
    exfalso
    have hle := hdA_le R x
    have : ∃ j, j ≤ k ∧ R j x = true ∧ ∀ i, i < j → R i x = false := by
      clear h hle
      induction k using Nat.strongRecOn with
      | _ k ih =>
        by_cases e : ∀ i, i < k → R i x = false
        · exact ⟨k, Nat.le_refl _, hk, e⟩
        · simp only [Classical.not_forall] at e
          obtain ⟨i, hi, hn⟩ := e
          obtain ⟨j, h1, h2, h3⟩ := ih i hi (by simpa using hn)
          exact ⟨j, by omega, h2, h3⟩
    obtain ⟨j, h1, h2, h3⟩ := this
    have : hdA R x = j := by
      unfold hdA
      rw [find_range (P := fun k => R k x) (by omega) h2 h3]; rfl
    omega
theorem hdA_is {R : Nat → Nat → Bool} {x k : Nat} (hk : k < x) (h1 : R k x = true) (h2 : ∀ j, j < k → R j x = false) : hdA R x = k := by
  unfold hdA
  rw [find_range (P := fun k => R k x) hk h1 h2]; rfl
theorem hdA_self {R : Nat → Nat → Bool} {x : Nat} (h : ∀ j, j < x → R j x = false) : hdA R x = x := by
  unfold hdA
  rw [find_range_none h]; rfl
/-- Is a place the first of its class? How many classes begin below a place; the class of a place. -/
def isH (R : Nat → Nat → Bool) (x : Nat) : Bool := hdA R x == x
def clA (R : Nat → Nat → Bool) (x : Nat) : Nat := cntT (isH R) (hdA R x)
/-- What tells apart, told as an equivalence. -/
structure eqR (R : Nat → Nat → Bool) : Prop where
  re : ∀ x, R x x = true
  sy : ∀ x y, R x y = true → R y x = true
  tr : ∀ x y z, R x y = true → R y z = true → R x z = true
theorem hdA_head {R : Nat → Nat → Bool} (h : eqR R) (x : Nat) : isH R (hdA R x) = true := by
  unfold isH
  rw [beq_iff_eq]
  refine hdA_self fun j hj => ?_
  cases hk : R j (hdA R x) with
  | false => rfl
  | true => rw [← hdA_least hj]; exact (h.tr _ _ _ hk (hdA_like h.re x)).symm
theorem hdA_same {R : Nat → Nat → Bool} (h : eqR R) {x y : Nat} (hxy : R x y = true) : hdA R x = hdA R y := by
  have main : ∀ x y, R x y = true → hdA R y ≤ hdA R x := by
    intro x y hxy
    rcases Nat.lt_or_ge (hdA R x) (hdA R y) with g | g
    · have := hdA_least g
      rw [h.tr _ _ _ (hdA_like h.re x) hxy] at this; cases this
    · exact g
  exact Nat.le_antisymm (main y x (h.sy _ _ hxy)) (main x y hxy)
theorem cntT_lt {T : Nat → Bool} {a b : Nat} (hab : a < b) (ha : T a = true) : cntT T a < cntT T b := by
  induction b with
  | zero => omega
  | succ b ih =>
    rw [cntT_succ]
    by_cases e : a = b
    · subst e; rw [if_pos ha]; omega
    · have := ih (by omega); omega
theorem clA_iff {R : Nat → Nat → Bool} (h : eqR R) {x y : Nat} : clA R x = clA R y ↔ R x y = true := by
  constructor
  · intro e
    unfold clA at e
    have : hdA R x = hdA R y := by
      rcases Nat.lt_trichotomy (hdA R x) (hdA R y) with g | g | g
      · have := cntT_lt g (hdA_head h x); omega
      · exact g
      · have := cntT_lt g (hdA_head h y); omega
    have h1 := hdA_like h.re x
    have h2 := hdA_like h.re y
    rw [this] at h1
    exact h.tr _ _ _ (h.sy _ _ h1) h2
  · intro e
    unfold clA
    rw [hdA_same h e]
theorem clA_head {R : Nat → Nat → Bool} {x : Nat} (h : isH R x = true) : clA R x = cntT (isH R) x := by
  unfold isH at h
  unfold clA
  rw [beq_iff_eq.1 h]
theorem clA_lt {R : Nat → Nat → Bool} (h : eqR R) {x n : Nat} (hx : x < n) : clA R x < cntT (isH R) n := by
  have := hdA_le R x
  exact cntT_lt (by omega) (hdA_head h x)
/-- Are two symbols alike to states? -/
def alk (S : Nat → Sd) (m : Nat) (a b : Nat) : Bool := a == b || (decide (a ≤ 255) && decide (b ≤ 255) && (List.range m).all fun i => sOf (S i) a == sOf (S i) b)
theorem alk_iff {S : Nat → Sd} {m a b : Nat} : alk S m a b = true ↔ a = b ∨ (a ≤ 255 ∧ b ≤ 255 ∧ ∀ i, i < m → sOf (S i) a = sOf (S i) b) := by
  unfold alk
  simp only [Bool.or_eq_true, beq_iff_eq, Bool.and_eq_true, decide_eq_true_eq, List.all_eq_true, List.mem_range, and_assoc]
theorem alk_eq (S : Nat → Sd) (m : Nat) : eqR (alk S m) where
  re x := alk_iff.2 (.inl rfl)
  sy x y h := by
    rcases alk_iff.1 h with h | ⟨h1, h2, h3⟩
    · exact alk_iff.2 (.inl h.symm)
    · exact alk_iff.2 (.inr ⟨h2, h1, fun i hi => (h3 i hi).symm⟩)
  tr x y z h g := by
    rcases alk_iff.1 h with rfl | ⟨h1, h2, h3⟩
    · exact g
    · rcases alk_iff.1 g with rfl | ⟨g1, g2, g3⟩
      · exact h
      · exact alk_iff.2 (.inr ⟨h1, g2, fun i hi => (h3 i hi).trans (g3 i hi)⟩)
/-- Are two places alike to two lists? -/
def joR (a b : Nat → Int) (x y : Nat) : Bool := a x == a y && b x == b y
theorem joR_iff {a b : Nat → Int} {x y : Nat} : joR a b x y = true ↔ a x = a y ∧ b x = b y := by unfold joR; simp
theorem joR_eq (a b : Nat → Int) : eqR (joR a b) where
  re x := joR_iff.2 ⟨rfl, rfl⟩
  sy x y h := by have := joR_iff.1 h; exact joR_iff.2 ⟨this.1.symm, this.2.symm⟩
  tr x y z h g := by have h := joR_iff.1 h; have g := joR_iff.1 g; exact joR_iff.2 ⟨h.1.trans g.1, h.2.trans g.2⟩
/-- The first place of a class among n; -1. -/
def fsA (l : Nat → Int) (n : Nat) (c : Int) : Int := (((List.range n).find? fun i => l i == c).map fun i : Nat => (i : Int)).getD (-1)
end Go.Proofs.Ythmkjdpmpcjinaa
