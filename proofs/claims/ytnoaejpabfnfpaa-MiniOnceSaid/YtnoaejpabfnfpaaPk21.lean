/-
  Rows of rows that grow in place, each in a block of its own; the walk of dfa.comingTo.
-/
import Derived.Test.YtnoaejpabfnfpaaPk19
import Derived.Test.YtnoaejpabfnfpaaPk20
namespace Go.Proofs.Ytnoaejpabfnfpaa
open Go.RowKit

theorem infoRow12 : (Try.prog.info? 22).map (fun i => (i.zero, i.size, i.bytes)) = some (some (.slice none 0 0), 1, 24) := by kernel_rfl
def vls (V : Nat → Value) (m : Nat) : List Value := (List.range m).map V
theorem vls_at (V : Nat → Value) (m j : Nat) (h : j < m) : (vls V m)[j]? = some (V j) := by simp [vls, h]
def putV (V : Nat → Value) (j : Nat) (u : Value) : Nat → Value := fun y => if y = j then u else V y
def putL (L : Nat → List Nat) (j : Nat) (u : List Nat) : Nat → List Nat := fun y => if y = j then u else L y
theorem vls_set (V : Nat → Value) (m j : Nat) (u : Value) : (vls V m).set j u = vls (putV V j u) m := by
  unfold vls
  apply List.ext_getElem
  · simp
  · intro i h1 h2
    simp only [List.getElem_set, List.getElem_map, List.getElem_range, putV]
    by_cases h : i = j
    · rw [if_pos h.symm, if_pos h]
    · rw [if_neg (fun e => h e.symm), if_neg h]
theorem made_vls (m : Nat) : (madeCells #[Value.slice none 0 0] m).toList = vls (fun _ => .slice none 0 0) m := by
  unfold madeCells vls
  apply List.ext_getElem
  · simp
  · intro i h1 h2
    simp [Nat.mod_one]
/-- Block G has m rows of numbers, each in a block of its own, none of them in X. -/
structure rwX (X : Nat → Prop) (w : World) (G m : Nat) (V : Nat → Value) (L : Nat → List Nat) : Prop where
  all : w.ownsRow G 22 1 (.slice (some ⟨G, 0, none⟩) m m) m (vls V m)
  val : ∀ t, t < m → ∃ p c, V t = .slice p (L t).length c
  row : ∀ t, t < m → spO w G (V t) (L t)
  apart : ∀ t t', t < m → t' < m → t ≠ t' → (V t).ownBlock = none ∨ (V t).ownBlock ≠ (V t').ownBlock
  nX : ∀ t b, t < m → (V t).ownBlock = some b → ¬ X b
  nG : ¬ X G
theorem rwX.below {X : Nat → Prop} {w w' : World} {G m : Nat} {V : Nat → Value} {L : Nat → List Nat} (h : rwX X w G m V L) (hb : Below w.heap.size w w') : rwX X w' G m V L :=
  ⟨owns_below h.all hb, h.val, fun t ht => owns_below (h.row t ht) hb, h.apart, h.nX, h.nG⟩
theorem rwX.lt {X : Nat → Prop} {w : World} {G m : Nat} {V : Nat → Value} {L : Nat → List Nat} (h : rwX X w G m V L) : G < w.heap.size := (World.ownsRow.lt h.all G rfl).2
theorem rwX.cell {X : Nat → Prop} {w : World} {G m : Nat} {V : Nat → Value} {L : Nat → List Nat} (h : rwX X w G m V L) {t : Nat} (ht : t < m) : w.cell? ⟨G, t, none⟩ = some (V t) ∧ w.frozen? ⟨G, t, none⟩ = false :=
  ⟨(World.ownsRow.cellAt h.all t (by omega)).trans (vls_at V m t ht), World.ownsRow.frozenAt h.all t⟩
/-- No row lies where the rows are named. -/
theorem rwX.neG {X : Nat → Prop} {w : World} {G m : Nat} {V : Nat → Value} {L : Nat → List Nat} (h : rwX X w G m V L) {t : Nat} (ht : t < m) : (V t).ownBlock = none ∨ (V t).ownBlock ≠ some G := by
  have := rows_apart9 (h.row t ht) h.all (by decide)
  exact this
/-- A row has grown, and is named anew. -/
theorem rwX.step {X : Nat → Prop} {w w' : World} {G m t s : Nat} {V : Nat → Value} {L : Nat → List Nat} {p : Option Addr} {c : Nat} (h : rwX X w G m V L) (ht : t < m) (hXl : ∀ k, X k → k < w.heap.size)
    (hr : spO w' G (.slice p ((L t).length + 1) c) (L t ++ [s])) (hg : w.grownBy w' (V t).ownBlock) (hat : (Value.slice p ((L t).length + 1) c).ownBlock = (V t).ownBlock ∨ (Value.slice p ((L t).length + 1) c).ownBlock = some w.heap.size) :
    rwX X (w'.setCell ⟨G, t, none⟩ (.slice p ((L t).length + 1) c)) G m (putV V t (.slice p ((L t).length + 1) c)) (putL L t (L t ++ [s])) ∧ kpX X w (w'.setCell ⟨G, t, none⟩ (.slice p ((L t).length + 1) c)) := by
  obtain ⟨u, hu⟩ : ∃ u, Value.slice p ((L t).length + 1) c = u := ⟨_, rfl⟩
  have hlen : u = .slice p (L t ++ [s]).length c := by rw [← hu, List.length_append]; rfl
  rw [hu] at hr hat ⊢
  have hGl := h.lt
  have hall : w'.ownsRow G 22 1 (.slice (some ⟨G, 0, none⟩) m m) m (vls V m) := World.ownsRow.kept h.all hg (by
    rcases h.neG ht with e | e
    · right; rw [e]; simp [Value.ownBlock]
    · right; intro e2; exact e e2.symm)
  have hst := World.ownsRow.stored hall t u
  rw [vls_set] at hst
  have hus : ∀ t', t' < m → t' ≠ t → (V t').ownBlock = none ∨ (V t').ownBlock ≠ u.ownBlock := fun t' ht' hne => by
    rcases hat with e | e
    · rw [e]; exact h.apart t' t ht' ht hne
    · rw [e]
      cases hv : (V t').ownBlock with
      | none => exact .inl rfl
      | some r =>
        right
        have := (World.ownsRow.lt (h.row t' ht') r hv).2
        intro e2
        have : r = w.heap.size := by simpa using e2
        omega
  have huG : u.ownBlock = none ∨ u.ownBlock ≠ some G := rows_apart9 hr hall (by decide)
  refine ⟨⟨hst.1, fun t' ht' => ?_, fun t' ht' => ?_, fun a b ha hb hne => ?_, fun t' b ht' e => ?_, h.nG⟩, ?_⟩
  · unfold putV putL
    by_cases e : t' = t
    · rw [if_pos e, if_pos e]; exact ⟨p, c, hlen⟩
    · rw [if_neg e, if_neg e]; exact h.val t' ht'
  · unfold putV putL
    by_cases e : t' = t
    · rw [if_pos e, if_pos e]
      exact World.ownsRow.kept hr hst.2 huG
    · rw [if_neg e, if_neg e]
      exact World.ownsRow.kept (World.ownsRow.kept (h.row t' ht') hg (h.apart t' t ht' ht e)) hst.2 (h.neG ht')
  · unfold putV
    by_cases ea : a = t
    · by_cases eb : b = t
      · omega
      · rw [if_pos ea, if_neg eb]
        rcases hus b hb eb with e | e
        · right; intro e2
          rw [e] at e2
          rcases hr.2 with ⟨e3, h0⟩ | ⟨g, cap, cur, e3, _⟩
          · simp at h0
          · rw [e3] at e2; cases e2
        · right; exact fun e2 => e e2.symm
    · by_cases eb : b = t
      · rw [if_neg ea, if_pos eb]; exact hus a ha ea
      · rw [if_neg ea, if_neg eb]; exact h.apart a b ha hb hne
  · unfold putV at e
    by_cases et : t' = t
    · rw [if_pos et] at e
      rcases hat with e2 | e2
      · rw [e2] at e; exact h.nX t b ht e
      · rw [e2] at e
        cases e
        exact fun hX => Nat.lt_irrefl _ (hXl _ hX)
    · rw [if_neg et] at e; exact h.nX t' b ht' e
  · exact (kpX.of_grown hg fun k e => h.nX t k ht e).trans (kpX.of_grown hst.2 fun k e => by cases e; exact h.nG)

/-- How far the rows are: all of the states below s, and of s the first j of its list. -/
def ctI (x : Da) (s : Nat) (F : Nat → Int) (j : Nat) (L : Nat → List Nat) : Prop :=
  ∀ t, t < x.n2 → (L t).length ≤ 259 * s + j ∧ ∀ q, q ∈ L t ↔ (q < s ∧ ∃ y, y < 259 ∧ goD x q y = t) ∨ (q = s ∧ ∃ i, i < j ∧ F i = (t : Int))
theorem ctI_zero {x : Da} (F : Nat → Int) : ctI x 0 F 0 fun _ => [] := fun t _ => ⟨Nat.zero_le _, fun q => ⟨fun h => (nomatch h), fun h => by
  rcases h with ⟨h, _⟩ | ⟨_, _, h, _⟩
  · exact absurd h (Nat.not_lt_zero _)
  · exact absurd h (Nat.not_lt_zero _)⟩⟩
theorem ctI_new {x : Da} {s : Nat} {F F' : Nat → Int} {L : Nat → List Nat} (h : ctI x s F 0 L) : ctI x s F' 0 L := fun t ht => ⟨(h t ht).1, fun q => by
  rw [(h t ht).2 q]
  constructor
  · rintro (h | ⟨_, _, h, _⟩)
    · exact .inl h
    · exact absurd h (Nat.not_lt_zero _)
  · rintro (h | ⟨_, _, h, _⟩)
    · exact .inl h
    · exact absurd h (Nat.not_lt_zero _)⟩
theorem ctI_put {x : Da} {s : Nat} {F : Nat → Int} {j t : Nat} {L : Nat → List Nat} (h : ctI x s F j L) (ht : F j = (t : Int)) : ctI x s F (j + 1) (putL L t (L t ++ [s])) := fun t' ht' => by
  obtain ⟨h1, h2⟩ := h t' ht'
  unfold putL
  by_cases e : t' = t
  · subst e
    rw [if_pos rfl]
    refine ⟨by rw [List.length_append]; simp; omega, fun q => ?_⟩
    rw [List.mem_append, h2 q]
    constructor
    · rintro ((h | ⟨h3, i, h4, h5⟩) | h)
      · exact .inl h
      · exact .inr ⟨h3, i, by omega, h5⟩
      · exact .inr ⟨by simpa using h, j, by omega, ht⟩
    · rintro (h | ⟨h3, i, h4, h5⟩)
      · exact .inl (.inl h)
      · exact .inr (by simp [h3])
  · rw [if_neg e]
    refine ⟨by omega, fun q => ?_⟩
    rw [h2 q]
    constructor
    · rintro (h | ⟨h3, i, h4, h5⟩)
      · exact .inl h
      · exact .inr ⟨h3, i, by omega, h5⟩
    · rintro (h | ⟨h3, i, h4, h5⟩)
      · exact .inl h
      · refine .inr ⟨h3, i, ?_, h5⟩
        rcases Nat.lt_or_ge i j with g | g
        · exact g
        · have : i = j := by omega
          subst this
          omega
theorem ctI_next {x : Da} {s n : Nat} {F : Nat → Int} {L : Nat → List Nat} (h : ctI x s F n L) (hn : n ≤ 259) (hF : ∀ t : Nat, (∃ i, i < n ∧ F i = (t : Int)) ↔ ∃ y, y < 259 ∧ goD x s y = t) : ctI x (s + 1) F 0 L := fun t ht => by
  obtain ⟨h1, h2⟩ := h t ht
  refine ⟨by omega, fun q => ?_⟩
  rw [h2 q, hF t]
  constructor
  · rintro (⟨h3, h4⟩ | ⟨rfl, h4⟩)
    · exact .inl ⟨by omega, h4⟩
    · exact .inl ⟨by omega, h4⟩
  · rintro (⟨h3, h4⟩ | ⟨_, _, h4, _⟩)
    · by_cases e : q = s
      · subst e; exact .inr ⟨rfl, h4⟩
      · exact .inl ⟨by omega, h4⟩
    · exact absurd h4 (Nat.not_lt_zero _)
/-- The list of where a state goes, class by class, is where it goes by symbols. -/
theorem gt_mem {x : Da} (s n : Nat) (f : Nat → Int) (h : ∀ y, (∃ i, i < n ∧ f i = y) ↔ ∃ j, j < 259 ∧ x.l0 j = y) (t : Nat) : (∃ i, i < n ∧ ((gtF x s (f i).toNat : Nat) : Int) = (t : Int)) ↔ ∃ y, y < 259 ∧ goD x s y = t := by
  constructor
  · rintro ⟨i, hi, e⟩
    obtain ⟨j, hj, ej⟩ := (h (f i)).1 ⟨i, hi, rfl⟩
    refine ⟨j, hj, ?_⟩
    rw [goD_gt, ej]; exact_mod_cast e
  · rintro ⟨y, hy, e⟩
    obtain ⟨i, hi, ei⟩ := (h (x.l0 y)).2 ⟨y, hy, rfl⟩
    refine ⟨i, hi, ?_⟩
    rw [ei, ← goD_gt, e]
/-- What comingTo tells. -/
def ctPost (x : Da) (w : World) (e : Ending) (w' : World) : Prop :=
  ∃ G V L, e = .returned (.slice (some ⟨G, 0, none⟩) x.n2 x.n2) ∧ rwX (fun k => k < G) w' G x.n2 V L ∧ (∀ t, t < x.n2 → (L t).length ≤ 1000000 ∧ ∀ q, q ∈ L t ↔ q < x.n2 ∧ ∃ y, y < 259 ∧ goD x q y = t) ∧ w.heap.size ≤ G ∧ Below w.heap.size w w'

end Go.Proofs.Ytnoaejpabfnfpaa
