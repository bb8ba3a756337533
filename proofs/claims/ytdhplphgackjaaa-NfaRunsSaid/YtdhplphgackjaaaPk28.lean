/-
  A list that grows while it is gone over: where one comes at once. Plain facts.
  What is met, and the list of it, in memory; the walk of the closure that puts.
  The walks of nfa.alone, and of the maker's part at a leaf.
  The walks of the maker's cat, or, maybe and circle, over what part does.
  The walks of the maker's maybe and circle.
-/
import Derived.Test.YtdhplphgackjaaaPk20
import Derived.Test.YtdhplphgackjaaaPk13
import Derived.OneCell
import Derived.Test.YtdhplphgackjaaaPk27
import Derived.Deep.RegionHeldLaw
namespace Go.Proofs.Ytdhplphgackjaaa
open Go.RowKit

/-- What is put behind the list of what is met, if it isn't met yet. -/
def putW (A : List Nat) (x : Nat) : List Nat := if x ∈ A then A else A ++ [x]
def memW (A : List Nat) (x : Nat) : Bool := decide (x ∈ A)
theorem putW_in {A : List Nat} {x : Nat} (h : x ∈ A) : putW A x = A := by unfold putW; rw [if_pos h]
theorem putW_out {A : List Nat} {x : Nat} (h : ¬ x ∈ A) : putW A x = A ++ [x] := by unfold putW; rw [if_neg h]
theorem putW_mem {A : List Nat} {x q : Nat} : q ∈ putW A x ↔ q ∈ A ∨ q = x := by
  by_cases h : x ∈ A
  · rw [putW_in h]
    constructor
    · exact .inl
    · rintro (g | rfl)
      · exact g
      · exact h
  · rw [putW_out h]; simp
theorem memW_put {A : List Nat} {x : Nat} (h : ¬ x ∈ A) (j : Nat) : putT (memW A) x true j = memW (A ++ [x]) j := by
  unfold putT memW
  by_cases e : j = x
  · subst e; simp
  · rw [if_neg e]
    congr 1
    simp [e]
def okA9 (m : Nat) (A : List Nat) : Prop := A.Nodup ∧ ∀ x, x ∈ A → x < m
theorem okA_nil (m : Nat) : okA9 m [] := ⟨List.nodup_nil, fun _ h => by cases h⟩
theorem okA_put {m : Nat} {A : List Nat} {x : Nat} (h : okA9 m A) (hx : x < m) : okA9 m (putW A x) := by
  by_cases e : x ∈ A
  · rw [putW_in e]; exact h
  · rw [putW_out e]
    refine ⟨?_, ?_⟩
    · rw [List.nodup_append]
      refine ⟨h.1, by simp, ?_⟩
      intro a ha b hb
      have : b = x := by simpa using hb
      subst this
      exact fun e2 => e (e2 ▸ ha)
    · intro y hy
      rcases List.mem_append.1 hy with g | g
      · exact h.2 y g
      · have : y = x := by simpa using g
        omega
theorem putW_old {A : List Nat} {x i : Nat} (h : i < A.length) : (putW A x)[i]? = A[i]? := by
  by_cases e : x ∈ A
  · rw [putW_in e]
  · rw [putW_out e, List.getElem?_append_left h]
theorem putW_len {A : List Nat} {x : Nat} : A.length ≤ (putW A x).length := by
  by_cases e : x ∈ A
  · rw [putW_in e]; exact Nat.le_refl _
  · rw [putW_out e]; simp
/-- The same members, none twice: what is true, rising, is a permutation. -/
theorem okA_perm {m : Nat} {A : List Nat} (h : okA9 m A) : (trs (memW A) m).Perm A := by
  refine (List.perm_ext_iff_of_nodup ?_ h.1).2 fun q => ?_
  · exact List.Pairwise.filter _ List.nodup_range
  · unfold trs memW
    rw [List.mem_filter, List.mem_range]
    constructor
    · rintro ⟨_, h2⟩; simpa using h2
    · exact fun g => ⟨h.2 q g, by simpa using g⟩
theorem okA_len {m : Nat} {A : List Nat} (h : okA9 m A) : A.length = cntT (memW A) m := (okA_perm h).length_eq.symm
theorem okA_le {m : Nat} {A : List Nat} (h : okA9 m A) : A.length ≤ m := by rw [okA_len h]; exact cntT_le _ _
def ints9 (A : List Nat) : List Int := A.map fun x : Nat => (x : Int)
theorem sort9 {m : Nat} {A : List Nat} (h : okA9 m A) : (ints9 A).mergeSort (fun x y => decide (x ≤ y)) = ints9 (trs (memW A) m) := by
  have ht : ∀ a b c : Int, decide (a ≤ b) = true → decide (b ≤ c) = true → decide (a ≤ c) = true := fun a b c h1 h2 => by
    simp only [decide_eq_true_eq] at *; omega
  have hto : ∀ a b : Int, (decide (a ≤ b) || decide (b ≤ a)) = true := fun a b => by
    simp only [Bool.or_eq_true, decide_eq_true_eq]; omega
  refine List.Perm.eq_of_pairwise (le := fun x y : Int => x ≤ y) (fun a b _ _ h1 h2 => by omega) ?_ ?_ ?_
  · exact (List.pairwise_mergeSort ht hto _).imp fun h => by simpa using h
  · unfold ints9 trs
    rw [List.pairwise_map]
    refine (List.Pairwise.filter _ (List.pairwise_lt_range (n := m))).imp fun h => by omega
  · refine (List.mergeSort_perm _ _).trans ?_
    exact ((okA_perm h).map _).symm

/-- The list is gone over up to k: what it has is reached, and it has all that one step from the first k leads to. -/
def wInv (S : Nat → Sd) (sym : Int) (m : Nat) (P : Nat → Prop) (A : List Nat) (k : Nat) : Prop :=
  okA9 m A ∧ k ≤ A.length ∧ (∀ q, q ∈ A → Cl S sym P q) ∧ (∀ q, P q → q ∈ A) ∧ ∀ i, i < k → ∀ x, A[i]? = some x → ∀ q, ep S sym x q → q ∈ A
theorem wInv_start {S : Nat → Sd} {sym : Int} {m : Nat} {P : Nat → Prop} {A : List Nat} (h : okA9 m A) (hP : ∀ q, q ∈ A ↔ P q) : wInv S sym m P A 0 :=
  ⟨h, Nat.zero_le _, fun q hq => ⟨q, (hP q).1 hq, .refl _⟩, fun q hq => (hP q).2 hq, fun _ hi => absurd hi (Nat.not_lt_zero _)⟩
theorem wInv_next {S : Nat → Sd} {sym : Int} {m : Nat} {P : Nat → Prop} {A A' : List Nat} {k x : Nat} (h : wInv S sym m P A k) (hk : k < A.length) (hx : A[k]? = some x) (ho : okA9 m A') (hl : A.length ≤ A'.length)
    (hp : ∀ i, i < A.length → A'[i]? = A[i]?) (h1 : ∀ q, q ∈ A' → q ∈ A ∨ ep S sym x q) (h2 : ∀ q, ep S sym x q → q ∈ A') (h3 : ∀ q, q ∈ A → q ∈ A') : wInv S sym m P A' (k + 1) := by
  obtain ⟨g1, g2, g3, g4, g5⟩ := h
  refine ⟨ho, by omega, fun q hq => ?_, fun q hq => h3 q (g4 q hq), fun i hi y hy q hq => ?_⟩
  · rcases h1 q hq with h | h
    · exact g3 q h
    · obtain ⟨q0, k1, k2⟩ := g3 x (List.mem_of_getElem? hx)
      exact ⟨q0, k1, .tail k2 h⟩
  · rw [hp i (by omega)] at hy
    by_cases e : i = k
    · subst e
      rw [hx] at hy; cases hy
      exact h2 q hq
    · exact h3 q (g5 i (by omega) y hy q hq)
theorem wInv_none {S : Nat → Sd} {sym : Int} {m : Nat} {P : Nat → Prop} {A : List Nat} {k x : Nat} (h : wInv S sym m P A k) (hk : k < A.length) (hx : A[k]? = some x) (h3 : (S x).k ≠ 3) (hA : eA S sym x = false) : wInv S sym m P A (k + 1) := by
  have hn : ∀ q, ¬ ep S sym x q := by
    rintro q (⟨g, _⟩ | ⟨g, _⟩)
    · rw [eA_iff.2 g] at hA; cases hA
    · exact h3 g
  exact wInv_next h hk hx h.1 (Nat.le_refl _) (fun _ _ => rfl) (fun q hq => .inl hq) (fun q hq => absurd hq (hn q)) fun _ hq => hq
theorem wInv_one {S : Nat → Sd} {sym : Int} {m : Nat} {P : Nat → Prop} {A : List Nat} {k x a : Nat} (h : wInv S sym m P A k) (hk : k < A.length) (hx : A[k]? = some x) (h3 : (S x).k ≠ 3) (hA : eA S sym x = true) (ha : (S x).A = (a : Int)) (ham : a < m) : wInv S sym m P (putW A a) (k + 1) := by
  refine wInv_next h hk hx (okA_put h.1 ham) putW_len (fun _ hi => putW_old hi) (fun q hq => ?_) (fun q hq => ?_) fun q hq => putW_mem.2 (.inl hq)
  · rcases putW_mem.1 hq with g | rfl
    · exact .inl g
    · exact .inr (.inl ⟨eA_iff.1 hA, ha.symm⟩)
  · rcases hq with ⟨_, g⟩ | ⟨g, _⟩
    · exact putW_mem.2 (.inr (by omega))
    · exact absurd g h3
theorem wInv_two {S : Nat → Sd} {sym : Int} {m : Nat} {P : Nat → Prop} {A : List Nat} {k x a b : Nat} (h : wInv S sym m P A k) (hk : k < A.length) (hx : A[k]? = some x) (h3 : (S x).k = 3) (ha : (S x).A = (a : Int)) (hb : (S x).B = (b : Int)) (ham : a < m) (hbm : b < m) : wInv S sym m P (putW (putW A b) a) (k + 1) := by
  refine wInv_next h hk hx (okA_put (okA_put h.1 hbm) ham) (Nat.le_trans putW_len putW_len) (fun i hi => ?_) (fun q hq => ?_) (fun q hq => ?_) fun q hq => putW_mem.2 (.inl (putW_mem.2 (.inl hq)))
  · rw [putW_old (Nat.lt_of_lt_of_le hi putW_len), putW_old hi]
  · rcases putW_mem.1 hq with g | rfl
    · rcases putW_mem.1 g with g | rfl
      · exact .inl g
      · exact .inr (.inr ⟨h3, hb.symm⟩)
    · exact .inr (.inl ⟨.inr (.inl h3), ha.symm⟩)
  · rcases hq with ⟨_, g⟩ | ⟨_, g⟩
    · exact putW_mem.2 (.inr (by omega))
    · exact putW_mem.2 (.inl (putW_mem.2 (.inr (by omega))))
theorem wInv_end {S : Nat → Sd} {sym : Int} {m : Nat} {P : Nat → Prop} {A : List Nat} {k : Nat} (h : wInv S sym m P A k) (hk : A.length ≤ k) (q : Nat) : q ∈ A ↔ Cl S sym P q := by
  obtain ⟨g1, g2, g3, g4, g5⟩ := h
  refine ⟨g3 q, ?_⟩
  rintro ⟨q0, h0, hr⟩
  induction hr with
  | refl => exact g4 q0 h0
  | @tail q1 q2 _ he ih =>
    obtain ⟨i, hi⟩ := List.mem_iff_getElem?.1 ih
    have hil : i < A.length := by
      rcases Nat.lt_or_ge i A.length with h | h
      · exact h
      · rw [List.getElem?_eq_none h] at hi; cases hi
    exact g5 i (by omega) q1 hi q2 he
end Go.Proofs.Ytdhplphgackjaaa

namespace Go.Proofs.Ytdhplphgackjaaa
open Go.RowKit

theorem infoInt9w : (Try.prog.info? 3).map (fun i => (i.zero, i.size, i.bytes)) = some (some (.int .i64 0), 1, 8) := by kernel_rfl
theorem spl9_len (l : List Nat) : (spl9 l).length = l.length := by simp [spl9]
theorem spl9_append (l r : List Nat) : spl9 (l ++ r) = spl9 l ++ spl9 r := by simp [spl9]
theorem spl9_cell (l : List Nat) : ∀ u ∈ spl9 l, u.oneCell' = true := by
  intro u hu
  unfold spl9 at hu
  obtain ⟨x, _, rfl⟩ := List.mem_map.1 hu
  rfl
/-- A block of one cell. -/
def one9 (t : TypeId) (w : World) (b : Nat) (v : Value) : Prop := w.heap[b]? = some (.cells #[v] t (0, 0))
theorem one9.lt {t : TypeId} {w : World} {b : Nat} {v : Value} (h : one9 t w b v) : b < w.heap.size := lt_of_block h
theorem one9.cell {t : TypeId} {w : World} {b : Nat} {v : Value} (h : one9 t w b v) : w.cell? ⟨b, 0, none⟩ = some v := by
  unfold one9 at h
  simp [World.cell?, h]
theorem one9.free {t : TypeId} {w : World} {b : Nat} {v : Value} (h : one9 t w b v) : w.frozen? ⟨b, 0, none⟩ = false := by
  unfold one9 at h
  simp [World.frozen?, h]
theorem one9.stored {t : TypeId} {w : World} {b : Nat} {v : Value} (h : one9 t w b v) (u : Value) : one9 t (w.setCell ⟨b, 0, none⟩ u) b u := by
  have h1 := heap_setCell_same w b 0 _ _ u h
  unfold one9
  rw [h1]
  simp
theorem one9.grown {t : TypeId} {w w' : World} {b : Nat} {r : Option Nat} {v : Value} (h : one9 t w b v) (hg : w.grownBy w' r) (hb : some b ≠ r) : one9 t w' b v :=
  (hg.block b h.lt hb).trans h
theorem one9.below {t : TypeId} {w w' : World} {b B : Nat} {v : Value} (h : one9 t w b v) (hB : Below B w w') (hb : b < B) : one9 t w' b v := (hB.block b hb).trans h

/-- Block g has what is met of m states, block h names it, block h + 1 the list of it. -/
def clW (w : World) (g h m : Nat) (A : List Nat) : Prop :=
  g < h ∧ one9 40 w (h) (.slice (some ⟨g, 0, none⟩) m m) ∧ (∃ p c, one9 43 w (h + 1) (.slice p A.length c) ∧ spO w (h + 2) (.slice p A.length c) A) ∧ blR w g g m m (memW A)
theorem clW.below {w w' : World} {g h m : Nat} {A : List Nat} (hc : clW w g h m A) (hb : Below w.heap.size w w') : clW w' g h m A := by
  obtain ⟨h0, h1, ⟨p, c, h2, h3⟩, h4⟩ := hc
  exact ⟨h0, h1.below hb h1.lt, ⟨p, c, h2.below hb h2.lt, owns_below h3 hb⟩, h4.below hb⟩
theorem spO_of {w : World} {base : Nat} {v : Value} {A : List Nat} (h : spO w base v A) : ∃ p c, v = .slice p A.length c := by
  rcases id h.2 with ⟨rfl, h0⟩ | ⟨g, cap, cur, rfl, _⟩
  · exact ⟨none, 0, by rw [h0]⟩
  · exact ⟨_, cap, rfl⟩
/-- Blocks below g are kept, and all those that hold states. -/
def kpW (g : Nat) (w w' : World) : Prop := Below g w w' ∧ ∀ (k : Nat) (c : Array Value) (fr : Nat × Nat), w.heap[k]? = some (.cells c 58 fr) → w'.heap[k]? = some (.cells c 58 fr)
theorem kpW.refl (g : Nat) (w : World) : kpW g w w := ⟨Below.refl _ _, fun _ _ _ h => h⟩
theorem kpW.trans {g : Nat} {w w1 w2 : World} (h1 : kpW g w w1) (h2 : kpW g w1 w2) : kpW g w w2 := ⟨h1.1.trans h2.1, fun k c fr h => h2.2 k c fr (h1.2 k c fr h)⟩
theorem kpW.of_below {g : Nat} {w w' : World} (hB : g ≤ w.heap.size) (h : Below w.heap.size w w') : kpW g w w' := ⟨h.mono hB, fun k c fr hk => by rw [h.block k (lt_of_block hk)]; exact hk⟩
theorem kpW.of_grown {g k : Nat} {w w' : World} {t : TypeId} {c : Array Value} {fr : Nat × Nat} (hk : w.heap[k]? = some (.cells c t fr)) (ht : t ≠ 58) (hg : g ≤ k) (h : w.grownBy w' (some k)) : kpW g w w' := by
  refine ⟨⟨h.os, h.tape, h.output, h.size, fun x hx => h.block x (by have := lt_of_block hk; omega) (fun e => by have : x = k := by simpa using e
                                                                                                                 omega)⟩, fun x c' fr' hx => ?_⟩
  rw [h.block x (lt_of_block hx) fun e => ?_]
  · exact hx
  · have : x = k := by simpa using e
    subst this
    rw [hk] at hx
    simp at hx
    exact ht hx.2.1
theorem kpW.of_row {g h : Nat} {w w' : World} {v : Value} {l : List Nat} (hgh : g < h) (hw : h + 2 ≤ w.heap.size) (ho : spO w (h + 2) v l) (h : w.grownBy w' v.ownBlock) : kpW g w w' := by
  rcases id ho.2 with ⟨rfl, _⟩ | ⟨k, cp, cur, rfl, hk, p1, _⟩
  · refine kpW.of_below (by omega) ⟨h.os, h.tape, h.output, h.size, fun x hx => h.block x hx (by simp [Value.ownBlock])⟩
  · exact kpW.of_grown (k := k) p1 (by decide) (by omega) (by simpa [Value.ownBlock] using h)

/-- A block with a state. -/
def isSt9 (w : World) (b : Nat) (k A B a0 a1 a2 a3 : Int) : Prop := w.heap[b]? = some (.cells #[.int .i64 k, .int .i64 A, .int .i64 B, .int .u64 a0, .int .u64 a1, .int .u64 a2, .int .u64 a3] 58 (0, 0))
theorem isSt9.new (w : World) (k A B a0 a1 a2 a3 : Int) : isSt9 (w.alloc (.cells #[.int .i64 k, .int .i64 A, .int .i64 B, .int .u64 a0, .int .u64 a1, .int .u64 a2, .int .u64 a3] 58)) w.heap.size k A B a0 a1 a2 a3 := heap_alloc_new w _
theorem isSt9.cells {w : World} {b : Nat} {k A B a0 a1 a2 a3 : Int} (h : isSt9 w b k A B a0 a1 a2 a3) : w.cell? ⟨b, 0, none⟩ = some (.int .i64 k) ∧ w.cell? ⟨b, 1, none⟩ = some (.int .i64 A) ∧ w.cell? ⟨b, 2, none⟩ = some (.int .i64 B) ∧ w.cell? ⟨b, 3, none⟩ = some (.int .u64 a0) ∧ w.cell? ⟨b, 4, none⟩ = some (.int .u64 a1) ∧ w.cell? ⟨b, 5, none⟩ = some (.int .u64 a2) ∧ w.cell? ⟨b, 6, none⟩ = some (.int .u64 a3) := by
  unfold isSt9 at h
  refine ⟨?_, ?_, ?_, ?_, ?_, ?_, ?_⟩ <;> simp [World.cell?, h]
theorem isSt9.lt {w : World} {b : Nat} {k A B a0 a1 a2 a3 : Int} (h : isSt9 w b k A B a0 a1 a2 a3) : b < w.heap.size := lt_of_block h
theorem isSt9.kept {w w' : World} {g b : Nat} {k A B a0 a1 a2 a3 : Int} (h : isSt9 w b k A B a0 a1 a2 a3) (hk : kpW g w w') : isSt9 w' b k A B a0 a1 a2 a3 := hk.2 _ _ _ h

set_option maxRecDepth 100000 in
set_option maxHeartbeats 4000000 in
theorem wput_is (g h m x : Nat) (A : List Nat) (hm : m ≤ 1000) (hx : x < m) (hA : okA9 m A) (w : World) (hc : clW w g h m A) :
    Calls Try.prog 50 #[.int .i64 (x : Int), .pointer (some ⟨h, 0, none⟩), .pointer (some ⟨h + 1, 0, none⟩)] w fun e w' => e = .returned (.tuple #[]) ∧ clW w' g h m (putW A x) ∧ kpW g w w' := by
  obtain ⟨hgh, h1, ⟨p, c, h2, h3⟩, h4⟩ := hc
  obtain ⟨i0, hi, hz0, hz1, hz2⟩ := info_parts infoInt9w
  have x0 : (0 : Int) ≤ (x : Int) := by omega
  have x1 : (x : Int) < (m : Int) := by omega
  have c1 := h1.cell
  have c2 := h2.cell
  have c4 := h4.cell x hx
  by_cases hin : x ∈ A
  · rw [show memW A x = true from decide_eq_true hin] at c4
    have HF := Lib.hid (show clW w g h m (putW A x) by rw [putW_in hin]; exact ⟨hgh, h1, ⟨p, c, h2, h3⟩, h4⟩)
    clear h1 h2 h3 h4 c2 hA hin
    go_enter Try.func50, Try.ntmps50
    go_wp2_with fail
    refine bodyPost_end (results_none rfl _ _ _) rfl ?_
    exact ⟨rfl, HF.out, kpW.refl _ _⟩
  · rw [show memW A x = false from decide_eq_false hin] at c4
    have f4 := h4.free x
    have hgl := h4.lt
    have hs3 : h + 1 < w.heap.size := h2.lt
    -- the store among what is met
    have hg1 : w.grownBy (w.setCell ⟨g, x, none⟩ (.bool true)) (some g) := grown_setCell w g x _
    obtain ⟨W1, hW1⟩ : ∃ W1, w.setCell ⟨g, x, none⟩ (.bool true) = W1 := ⟨_, rfl⟩
    have hk1 : kpW g w W1 := by
      rw [hW1] at hg1
      rcases id h4.2 with ⟨e, _⟩ | ⟨k, cp, cur, e, _, q1, _⟩
      · cases e
      · cases e
        exact kpW.of_grown q1 (by decide) (Nat.le_refl _) hg1
    rw [hW1] at hg1
    have a1 := Lib.hid (h1.grown hg1 (by simp; omega))
    have a2 := Lib.hid (h2.grown hg1 (by simp; omega))
    have a4 : blR W1 g g m m (putT (memW A) x true) := hW1 ▸ h4.put x true
    have a4' := Lib.hid (a4.same fun j _ => memW_put hin j)
    have a3 : spO W1 (h + 2) (.slice p A.length c) A := World.ownsRow.kept h3 hg1 (by
      rcases rows_apart9 h3 h4 (by decide) with h | h
      · exact .inl h
      · exact .inr (by simpa [Value.ownBlock] using h))
    have A3 := Lib.hid a3
    have HK1 := Lib.hid hk1
    have HW1 := Lib.hid hW1
    have HIN := Lib.hid hin
    have HLE : Hid (A.length ≤ m) := Lib.hid (okA_le hA)
    have hz : h + 2 ≤ W1.heap.size := by have := a2.out.lt; omega
    have HZ := Lib.hid hz
    have c2' := a2.out.cell
    clear h1 h2 h3 h4 hA hin a3 a4 hg1 hk1 hW1 hz hgl hs3
    go_enter Try.func50, Try.ntmps50
    go_upto_region 2 with (fail)
    rw [HW1.out]
    have hlit : ∀ j u, (spl9 [x])[j]? = some u → (W1.alloc (.cells #[.int .i64 (x : Int)] 3)).cell? ((⟨W1.heap.size, 0, none⟩ : Addr).add j) = some u := by
      intro j u hu
      match j, hu with
      | 0, hu => simp [spl9] at hu; subst hu; simp [Addr.add]
    have HLIT := Lib.hid hlit
    have HM : Hid (A.length + 1 ≤ maxLen) := Lib.hid (by have := HLE.out; unfold maxLen; omega)
    have H48 : Hid ((A.length + 1) * 8 ≤ 140737488355328) := Lib.hid (by have := HLE.out; omega)
    have HS5 : Hid (h + 2 ≤ (W1.alloc (.cells #[.int .i64 (x : Int)] 3)).heap.size) := Lib.hid (by rw [World.size_alloc]; have := HZ.out; omega)
    clear hlit c1 c2 c4 f4
    go_wp2_with (at_builtin; refine wpList_append_own _ rfl _ _ 43 rfl (h + 2) 3 i0 (.int .i64 0) 1 8 Try.underlying43 hi hz0 hz1 hz2 rfl (by decide) _ A.length (spl9 A) rfl (A3.out.alloc _) ⟨W1.heap.size, 0, none⟩ 1 1 (spl9 [x]) rfl (by rw [spl9_len]; rfl) HLIT.out (spl9_cell _) HM.out H48.out HS5.out ?_; intro v' w3 hown hgrow _; have HO := Lib.hid hown; have HG := Lib.hid hgrow; clear hown hgrow; refine Hid.out ?_)
    have ho : spO w3 (h + 2) v' (A ++ [x]) := by
      have := HO.out
      rw [← spl9_append] at this
      unfold spO
      rw [List.length_append]
      exact this
    obtain ⟨p', c', rfl⟩ := spO_of ho
    have hb5 : kpW g W1 (W1.alloc (.cells #[.int .i64 (x : Int)] 3)) := kpW.of_below (by have := HZ.out; omega) ((Below.refl _ _).alloc (Nat.le_refl _) _)
    have hk3 : kpW g W1 w3 := hb5.trans (kpW.of_row hgh HS5.out (A3.out.alloc _) HG.out)
    have hne : ∀ k, k < h + 2 → some k ≠ (Value.slice p A.length c).ownBlock := fun k hk e => by
      have := (A3.out.lt k e.symm).1; omega
    have hz3 : h + 1 < w3.heap.size := by have := HG.out.size; have := HS5.out; omega
    have hal := Below.heap_alloc W1 (.cells #[.int .i64 (x : Int)] 3)
    have b1 : one9 40 w3 (h) (.slice (some ⟨g, 0, none⟩) m m) := (HG.out.block (h) (by rw [World.size_alloc]; have := HZ.out; omega) (hne _ (by omega))).trans ((hal (h) (by have := HZ.out; omega)).trans a1.out)
    have b2 : one9 43 w3 (h + 1) (.slice p A.length c) := (HG.out.block (h + 1) (by rw [World.size_alloc]; have := HZ.out; omega) (hne _ (by omega))).trans ((hal (h + 1) (by have := HZ.out; omega)).trans a2.out)
    have b4 : blR w3 g g m m (memW (A ++ [x])) := World.ownsRow.kept (a4'.out.below ((Below.refl _ _).alloc (Nat.le_refl _) _)) HG.out (by
      rcases rows_apart9 (a4'.out.below ((Below.refl _ _).alloc (Nat.le_refl _) (.cells #[.int .i64 (x : Int)] 3))) (A3.out.alloc (.cells #[.int .i64 (x : Int)] 3)) (by decide) with h | h
      · exact .inl h
      · exact .inr h)
    have f2 := b2.free
    have c3 := b2.cell
    have e1 : (A ++ [x]).length = A.length + 1 := by simp
    have hl2 := b2.lt
    have hg2 : w3.grownBy (w3.setCell ⟨h + 1, 0, none⟩ (.slice p' (A ++ [x]).length c')) (some (h + 1)) := grown_setCell w3 (h + 1) 0 _
    have hpw : putW A x = A ++ [x] := putW_out HIN.out
    have HE : Hid (clW (w3.setCell ⟨h + 1, 0, none⟩ (.slice p' (A.length + 1) c')) g h m (putW A x)) := Lib.hid (by
      rw [← e1, hpw]
      refine ⟨hgh, b1.grown hg2 (by simp), ⟨p', c', b2.stored _, ?_⟩, ?_⟩
      · refine World.ownsRow.kept ho hg2 (.inr fun e => ?_)
        have := (ho.lt (h + 1) e).1; omega
      · refine World.ownsRow.kept b4 hg2 (.inr ?_)
        simp [Value.ownBlock]; omega)
    have HKE : Hid (kpW g w (w3.setCell ⟨h + 1, 0, none⟩ (.slice p' (A.length + 1) c'))) := Lib.hid (e1 ▸ (HK1.out.trans hk3).trans (kpW.of_grown b2 (by decide) (by omega) hg2))
    clear ho hb5 hk3 hne hz3 hal b1 b2 b4 hg2 hpw HO HG e1
    refine Lib.hid ?_
    go_wp2_with fail
    refine bodyPost_end (results_none rfl _ _ _) rfl ?_
    exact ⟨rfl, HE.out, HKE.out⟩
end Go.Proofs.Ytdhplphgackjaaa

namespace Go.Proofs.Ytdhplphgackjaaa
open Go.RowKit

def isNd9 (w : World) (b : Nat) (x : Nd) : Prop := w.heap[b]? = some (.cells #[.int .i64 x.k, .int .u64 x.a, .int .u64 x.b, .int .u64 x.c, .int .u64 x.d, .int .i64 x.lo, .int .i64 x.hi] 56 (0, 0))
theorem isNd9.new (w : World) (x : Nd) : isNd9 (w.alloc (.cells #[.int .i64 x.k, .int .u64 x.a, .int .u64 x.b, .int .u64 x.c, .int .u64 x.d, .int .i64 x.lo, .int .i64 x.hi] 56)) w.heap.size x := heap_alloc_new w _
theorem isNd9.lt {w : World} {b : Nat} {x : Nd} (h : isNd9 w b x) : b < w.heap.size := lt_of_block h
theorem isNd9.cells {w : World} {b : Nat} {x : Nd} (h : isNd9 w b x) : w.cell? ⟨b, 0, none⟩ = some (.int .i64 x.k) ∧ w.cell? ⟨b, 1, none⟩ = some (.int .u64 x.a) ∧ w.cell? ⟨b, 2, none⟩ = some (.int .u64 x.b) ∧ w.cell? ⟨b, 3, none⟩ = some (.int .u64 x.c) ∧ w.cell? ⟨b, 4, none⟩ = some (.int .u64 x.d) ∧ w.cell? ⟨b, 5, none⟩ = some (.int .i64 x.lo) ∧ w.cell? ⟨b, 6, none⟩ = some (.int .i64 x.hi) := by
  unfold isNd9 at h
  refine ⟨?_, ?_, ?_, ?_, ?_, ?_, ?_⟩ <;> simp [World.cell?, h]
theorem isNd9.free {w : World} {b : Nat} {x : Nd} (h : isNd9 w b x) : w.frozen? ⟨b, 0, none⟩ = false ∧ w.frozen? ⟨b, 1, none⟩ = false ∧ w.frozen? ⟨b, 2, none⟩ = false ∧ w.frozen? ⟨b, 3, none⟩ = false ∧ w.frozen? ⟨b, 4, none⟩ = false ∧ w.frozen? ⟨b, 5, none⟩ = false ∧ w.frozen? ⟨b, 6, none⟩ = false := by
  unfold isNd9 at h
  refine ⟨?_, ?_, ?_, ?_, ?_, ?_, ?_⟩ <;> simp [World.frozen?, h]
theorem isSt9.free {w : World} {b : Nat} {k A B a0 a1 a2 a3 : Int} (h : isSt9 w b k A B a0 a1 a2 a3) : w.frozen? ⟨b, 0, none⟩ = false ∧ w.frozen? ⟨b, 1, none⟩ = false ∧ w.frozen? ⟨b, 2, none⟩ = false ∧ w.frozen? ⟨b, 3, none⟩ = false ∧ w.frozen? ⟨b, 4, none⟩ = false ∧ w.frozen? ⟨b, 5, none⟩ = false ∧ w.frozen? ⟨b, 6, none⟩ = false := by
  unfold isSt9 at h
  refine ⟨?_, ?_, ?_, ?_, ?_, ?_, ?_⟩ <;> simp [World.frozen?, h]
theorem isSt9.stored {w : World} {b : Nat} {k A B a0 a1 a2 a3 : Int} (h : isSt9 w b k A B a0 a1 a2 a3) (k' A' B' y0 y1 y2 y3 : Int) :
    isSt9 (((((((w.setCell ⟨b, 0, none⟩ (.int .i64 k')).setCell ⟨b, 1, none⟩ (.int .i64 A')).setCell ⟨b, 2, none⟩ (.int .i64 B')).setCell ⟨b, 3, none⟩ (.int .u64 y0)).setCell ⟨b, 4, none⟩ (.int .u64 y1)).setCell ⟨b, 5, none⟩ (.int .u64 y2)).setCell ⟨b, 6, none⟩ (.int .u64 y3)) b k' A' B' y0 y1 y2 y3 := by
  have h1 := heap_setCell_same w b 0 _ _ (.int .i64 k') h
  have h2 := heap_setCell_same _ b 1 _ _ (.int .i64 A') h1
  have h3 := heap_setCell_same _ b 2 _ _ (.int .i64 B') h2
  have h4 := heap_setCell_same _ b 3 _ _ (.int .u64 y0) h3
  have h5 := heap_setCell_same _ b 4 _ _ (.int .u64 y1) h4
  have h6 := heap_setCell_same _ b 5 _ _ (.int .u64 y2) h5
  have h7 := heap_setCell_same _ b 6 _ _ (.int .u64 y3) h6
  unfold isSt9
  rw [h7]
  simp
theorem below_st7 {B : Nat} {a w : World} {c : Nat} (h : Below B a w) (hc : B ≤ c) (k' A' B' y0 y1 y2 y3 : Int) : Below B a
    (((((((w.setCell ⟨c, 0, none⟩ (.int .i64 k')).setCell ⟨c, 1, none⟩ (.int .i64 A')).setCell ⟨c, 2, none⟩ (.int .i64 B')).setCell ⟨c, 3, none⟩ (.int .u64 y0)).setCell ⟨c, 4, none⟩ (.int .u64 y1)).setCell ⟨c, 5, none⟩ (.int .u64 y2)).setCell ⟨c, 6, none⟩ (.int .u64 y3)) :=
  ((((((h.setCell hc _).setCell hc _).setCell hc _).setCell hc _).setCell hc _).setCell hc _).setCell hc _
theorem build_stS9 (k a b c d : Int) (w : World) : (Instr.build 58 #[(0, .int .i64 k), (3, .agg #[.int .u64 a, .int .u64 b, .int .u64 c, .int .u64 d])]).run Try.prog w = .ok (.agg #[.int .i64 k, .int .i64 0, .int .i64 0, .int .u64 a, .int .u64 b, .int .u64 c, .int .u64 d]) w := by kernel_rfl
theorem wpList_build_stS9 {ops : Array Oper} {rest : List Oper} {o : Oper} {a : Act} {w : World} {Q : Exit → Act → World → Prop} (hgd : o.guard = none) (x y : Operand) (ho : o.op = .build 58 #[(0, x), (3, y)])
    (k a0 a1 a2 a3 : Int) (hx : a.eval x = .int .i64 k) (hy : a.eval y = .agg #[.int .u64 a0, .int .u64 a1, .int .u64 a2, .int .u64 a3])
    (h : wpList Try.prog ops Q rest (a.put o.dst (.agg #[.int .i64 k, .int .i64 0, .int .i64 0, .int .u64 a0, .int .u64 a1, .int .u64 a2, .int .u64 a3])) w) : wpList Try.prog ops Q (o :: rest) a w :=
  wpList_plain hgd fun K hK => by
    have hb := build_stS9 k a0 a1 a2 a3 w
    have hm : (#[(0, x), (3, y)] : Array (Nat × Operand)).map (fun (i, v) => (i, a.eval v)) = #[(0, a.eval x), (3, a.eval y)] := by simp
    unfold Oper.wp execOp
    simp only [ho]
    rw [hm, hx, hy]
    simp only [Sem.run_bind, hb, Result.andThen_ok]
    exact hK _ _ h
/-- What alone tells of a leaf. -/
def alnPost (x : Sd) (w : World) (e : Ending) (w' : World) : Prop := e = .returned (.agg #[.int .i64 x.k, .int .i64 x.A, .int .i64 x.B, .int .u64 x.a, .int .u64 x.b, .int .u64 x.c, .int .u64 x.d]) ∧ Below w.heap.size w w'
set_option maxRecDepth 100000 in
set_option maxHeartbeats 4000000 in
theorem alone9 (x : Nd) (hk : x.k = 1 ∨ x.k = 2 ∨ x.k = 3 ∨ x.k = 4) (hz : x.k ≠ 1 → x.a = 0 ∧ x.b = 0 ∧ x.c = 0 ∧ x.d = 0) (w : World) :
    Calls Try.prog 45 #[.agg #[.int .i64 x.k, .int .u64 x.a, .int .u64 x.b, .int .u64 x.c, .int .u64 x.d, .int .i64 x.lo, .int .i64 x.hi]] w (alnPost (leafS x 0) w) := by
  obtain ⟨W, hW⟩ : ∃ W, (w.alloc (.cells #[.int .i64 x.k, .int .u64 x.a, .int .u64 x.b, .int .u64 x.c, .int .u64 x.d, .int .i64 x.lo, .int .i64 x.hi] 56)).alloc (.cells #[.int .i64 0, .int .i64 0, .int .i64 0, .int .u64 0, .int .u64 0, .int .u64 0, .int .u64 0] 58) = W := ⟨_, rfl⟩
  obtain ⟨g, hg⟩ : ∃ g, w.heap.size = g := ⟨_, rfl⟩
  have hs1 : (w.alloc (.cells #[.int .i64 x.k, .int .u64 x.a, .int .u64 x.b, .int .u64 x.c, .int .u64 x.d, .int .i64 x.lo, .int .i64 x.hi] 56)).heap.size = g + 1 := by rw [World.size_alloc, hg]
  have hst : isSt9 W (g + 1) 0 0 0 0 0 0 0 := by
    have := isSt9.new (w.alloc (.cells #[.int .i64 x.k, .int .u64 x.a, .int .u64 x.b, .int .u64 x.c, .int .u64 x.d, .int .i64 x.lo, .int .i64 x.hi] 56)) 0 0 0 0 0 0 0
    rw [hs1, hW] at this; exact this
  have hnd : isNd9 W g x := by
    have h := isNd9.new w x
    rw [← hW, ← hg]
    exact (Below.heap_alloc _ _ _ h.lt).trans h
  have hB : Below w.heap.size w W := hW ▸ ((Below.refl _ w).alloc (Nat.le_refl _) _).alloc (by simp) _
  have HST := Lib.hid hst; have HND := Lib.hid hnd; have HB := Lib.hid hB; have HW := Lib.hid hW
  have HG := Lib.hid hg
  have hGE : w.heap.size ≤ g + 1 := by omega
  have HGE := Lib.hid hGE
  clear hst hnd hB hW hs1 hGE
  go_enter Try.func45, Try.ntmps45
  go_upto_region 1 with (fail)
  rw [HW.out]
  clear hg HW
  obtain ⟨p0, p1, p2, p3, p4, p5, p6⟩ := HND.out.cells
  obtain ⟨q0, q1, q2, q3, q4, q5, q6⟩ := HST.out.cells
  obtain ⟨f0, f1, f2, f3, f4, f5, f6⟩ := HST.out.free
  have nl := HND.out.lt
  have sl := HST.out.lt
  obtain ⟨k, a, b, c, d, lo, hi⟩ := x
  simp only at hk hz p0 p1 p2 p3 p4 p5 p6
  by_cases h1 : k = 1
  · subst h1
    have Z := Lib.hid (HST.out.stored 1 0 0 a b c d).cells
    have HS := Lib.hid (below_st7 HB.out HGE.out 1 0 0 a b c d)
    clear hk hz HND HST HB
    go_wp2_with (refine wpList_build_stS9 rfl _ _ rfl 1 a b c d rfl rfl ?_)
    refine bodyPost_ret (v := .agg #[.int .i64 1, .int .i64 0, .int .i64 0, .int .u64 a, .int .u64 b, .int .u64 c, .int .u64 d]) (by simp [results, Try.results45, go_sem, Z.out]) rfl ⟨rfl, HS.out⟩
  · obtain ⟨rfl, rfl, rfl, rfl⟩ := hz h1
    rcases (show k = 2 ∨ k = 3 ∨ k = 4 by omega) with rfl | rfl | rfl
    · have Z := Lib.hid (HST.out.stored 2 0 0 0 0 0 0).cells
      have HS := Lib.hid (below_st7 HB.out HGE.out 2 0 0 0 0 0 0)
      clear hk hz HND HST HB h1
      go_wp2_with (refine wpList_build_st0 rfl _ rfl 2 rfl ?_)
      refine bodyPost_ret (v := .agg #[.int .i64 2, .int .i64 0, .int .i64 0, .int .u64 0, .int .u64 0, .int .u64 0, .int .u64 0]) (by simp [results, Try.results45, go_sem, Z.out]) rfl ⟨rfl, HS.out⟩
    · have Z := Lib.hid (HST.out.stored 4 0 0 0 0 0 0).cells
      have HS := Lib.hid (below_st7 HB.out HGE.out 4 0 0 0 0 0 0)
      clear hk hz HND HST HB h1
      go_wp2_with (refine wpList_build_st0 rfl _ rfl 4 rfl ?_)
      refine bodyPost_ret (v := .agg #[.int .i64 4, .int .i64 0, .int .i64 0, .int .u64 0, .int .u64 0, .int .u64 0, .int .u64 0]) (by simp [results, Try.results45, go_sem, Z.out]) rfl ⟨rfl, HS.out⟩
    · have Z := Lib.hid (HST.out.stored 5 0 0 0 0 0 0).cells
      have HS := Lib.hid (below_st7 HB.out HGE.out 5 0 0 0 0 0 0)
      clear hk hz HND HST HB h1
      go_wp2_with (refine wpList_build_st0 rfl _ rfl 5 rfl ?_)
      refine bodyPost_ret (v := .agg #[.int .i64 5, .int .i64 0, .int .i64 0, .int .u64 0, .int .u64 0, .int .u64 0, .int .u64 0]) (by simp [results, Try.results45, go_sem, Z.out]) rfl ⟨rfl, HS.out⟩
end Go.Proofs.Ytdhplphgackjaaa

namespace Go.Proofs.Ytdhplphgackjaaa
open Go.RowKit

theorem setA_two (L : List Sd) (j A B : Nat) : setA (setA L j A) j B = setA L j B := by
  induction L generalizing j with
  | nil => simp [setA]
  | cons r l ih =>
    cases j with
    | zero => rfl
    | succ j => exact congrArg (r :: ·) (ih j)
theorem setA_app (L R : List Sd) (j A : Nat) (h : j < L.length) : setA (L ++ R) j A = setA L j A ++ R := by
  induction L generalizing j with
  | nil => simp at h
  | cons r l ih =>
    cases j with
    | zero => rfl
    | succ j => exact congrArg (r :: ·) (ih j (by simpa using h))
/-- The first and the last state of what is made; the states; what is kept. -/
def prtPost (t : Value) (M : Nat) (R : List Sd × Nat × Nat) (w : World) (e : Ending) (w' : World) : Prop :=
  e = .returned (.tuple #[.int .i64 (R.2.1 : Int), .int .i64 (R.2.2 : Int)]) ∧ mkW w' t M R.1 ∧ kpM M w w'
/-- What part does, at a node. -/
def PrtC (N : Nat → Nd) (n b off cap j : Nat) : Prop := ∀ (M : Nat) (L : List Sd) (w : World), b < M → L.length + nst (trT N j) ≤ 1000 → mkW w (.slice (some ⟨b, off, none⟩) n cap) M L → rdN w b off n N →
  Calls Try.prog 25 #[.pointer (some ⟨M, 0, none⟩), .int .i64 (j : Int)] w (prtPost (.slice (some ⟨b, off, none⟩) n cap) M (mkF (trT N j) L) w)

set_option maxRecDepth 100000 in
set_option maxHeartbeats 4000000 in
theorem cat9 (N : Nat → Nd) (n b off cap j1 j2 : Nat) (H1 : PrtC N n b off cap j1) (H2 : PrtC N n b off cap j2) (M : Nat) (L : List Sd) (w : World) (hb : b < M) (hlen : L.length + (nst (trT N j1) + nst (trT N j2)) ≤ 1000)
    (hm : mkW w (.slice (some ⟨b, off, none⟩) n cap) M L) (hr : rdN w b off n N) :
    Calls Try.prog 41 #[.pointer (some ⟨M, 0, none⟩), .int .i64 (j1 : Int), .int .i64 (j2 : Int)] w (prtPost (.slice (some ⟨b, off, none⟩) n cap) M (mkF (.cat (trT N j1) (trT N j2)) L) w) := by
  have hc1 := H1 M L w hb (by omega) hm hr
  have l1 := mk_len (trT N j1) L; have b1 := mk_bd (trT N j1) L
  obtain ⟨X, hX⟩ : ∃ X, mkF (trT N j1) L = X := ⟨_, rfl⟩
  obtain ⟨LX, f1, e1⟩ := X
  rw [hX] at hc1 l1 b1
  simp only at l1 b1
  have l2 := mk_len (trT N j2) LX; have b2 := mk_bd (trT N j2) LX
  obtain ⟨Y, hY⟩ : ∃ Y, mkF (trT N j2) LX = Y := ⟨_, rfl⟩
  obtain ⟨LY, f2, e2⟩ := Y
  rw [hY] at l2 b2
  simp only at l2 b2
  have HMF : Hid (mkF (.cat (trT N j1) (trT N j2)) L = (setA LY e1 f2, f1, e2)) := Lib.hid (by simp only [mkF, hX, hY])
  have HC1 := Lib.hid hc1
  have HC2 := Lib.hid (fun w' (hm' : mkW w' (.slice (some ⟨b, off, none⟩) n cap) M LX) (hr' : rdN w' b off n N) => hY ▸ H2 M LX w' hb (by omega) hm' hr')
  have HR := Lib.hid hr
  have h1 : 1 ≤ LY.length := by omega
  have d0 : (0 : Int) ≤ (e1 : Int) := by omega
  have hlt : e1 < LY.length := by omega
  clear hc1 hX hY H1 H2 hm hr l1 l2 b1 b2 hlen
  go_enter Try.func41, Try.ntmps41
  go_wp2_with fail
  refine HC1.out.mono ?_
  rintro e w1 ⟨rfl, hm1, hk1⟩
  have HC := Lib.hid (HC2.out w1 hm1 (HR.out.kept hk1 hb))
  have HK1 := Lib.hid hk1
  clear hm1 hk1 HC1 HC2
  simp only
  go_wp2_with fail
  refine HC.out.mono ?_
  rintro e w2 ⟨rfl, hm2, hk2⟩
  simp only at hm2
  obtain ⟨g, c, m1, o1⟩ := hm2.op h1
  have HE := Lib.hid (mkW.putA m1 o1 e1 (f2 : Int) f2 rfl)
  obtain ⟨-, mc, -, ml⟩ := m1.cells
  have cA := o1.cellA hlt
  have fA := o1.free (e1 * 7 + 1)
  have gl := o1.lt.2
  obtain ⟨len, hln⟩ : ∃ len, LY.length = len := ⟨_, rfl⟩
  rw [hln] at mc hlt
  have d1 : (e1 : Int) < (len : Int) := by omega
  have HK2 := Lib.hid (HK1.out.trans hk2)
  clear hm2 hk2 HC m1 o1 hln h1 HR
  simp only
  go_wp2_with fail
  go_returns
  rw [HMF.out]
  exact ⟨rfl, HE.out.1, HK2.out.trans HE.out.2⟩

set_option maxRecDepth 100000 in
set_option maxHeartbeats 8000000 in
theorem or9 (N : Nat → Nd) (n b off cap j1 j2 : Nat) (H1 : PrtC N n b off cap j1) (H2 : PrtC N n b off cap j2) (M : Nat) (L : List Sd) (w : World) (hb : b < M) (hlen : L.length + (nst (trT N j1) + nst (trT N j2) + 2) ≤ 1000)
    (hm : mkW w (.slice (some ⟨b, off, none⟩) n cap) M L) (hr : rdN w b off n N) :
    Calls Try.prog 42 #[.pointer (some ⟨M, 0, none⟩), .int .i64 (j1 : Int), .int .i64 (j2 : Int)] w (prtPost (.slice (some ⟨b, off, none⟩) n cap) M (mkF (.or (trT N j1) (trT N j2)) L) w) := by
  have hc1 := H1 M L w hb (by omega) hm hr
  have l1 := mk_len (trT N j1) L; have b1 := mk_bd (trT N j1) L
  obtain ⟨X, hX⟩ : ∃ X, mkF (trT N j1) L = X := ⟨_, rfl⟩
  obtain ⟨LX, f1, e1⟩ := X
  rw [hX] at hc1 l1 b1
  simp only at l1 b1
  have l2 := mk_len (trT N j2) LX; have b2 := mk_bd (trT N j2) LX
  obtain ⟨Y, hY⟩ : ∃ Y, mkF (trT N j2) LX = Y := ⟨_, rfl⟩
  obtain ⟨LY, f2, e2⟩ := Y
  rw [hY] at l2 b2
  simp only at l2 b2
  have HMF : Hid (mkF (.or (trT N j1) (trT N j2)) L = (setA (setA (LY ++ [sS f1 f2] ++ [sE 0]) e1 (LY.length + 1)) e2 (LY.length + 1), LY.length, LY.length + 1)) := Lib.hid (by simp only [mkF, hX, hY])
  have HC1 := Lib.hid hc1
  have HC2 := Lib.hid (fun w' (hm' : mkW w' (.slice (some ⟨b, off, none⟩) n cap) M LX) (hr' : rdN w' b off n N) => hY ▸ H2 M LX w' hb (by omega) hm' hr')
  have HR := Lib.hid hr
  have d0 : (0 : Int) ≤ (e1 : Int) := by omega
  have g0 : (0 : Int) ≤ (e2 : Int) := by omega
  obtain ⟨len, hln⟩ : ∃ len, LY.length = len := ⟨_, rfl⟩
  obtain ⟨L3, hL3⟩ : ∃ L3, LY ++ [sS f1 f2] = L3 := ⟨_, rfl⟩
  obtain ⟨L4, hL4⟩ : ∃ L4, L3 ++ [sE 0] = L4 := ⟨_, rfl⟩
  have hl3 : L3.length = len + 1 := by rw [← hL3]; simp [hln]
  have hl4 : L4.length = len + 2 := by rw [← hL4]; simp [hl3]
  have HMF : Hid (mkF (.or (trT N j1) (trT N j2)) L = (setA (setA L4 e1 (len + 1)) e2 (len + 1), len, len + 1)) := Lib.hid (by rw [HMF.out, hL3, hL4, hln])
  have HLN := Lib.hid hln; have HL3 := Lib.hid hL3; have HL4 := Lib.hid hL4; have Hl3 := Lib.hid hl3; have Hl4 := Lib.hid hl4
  have hlt1 : e1 < len := by omega
  have hlt2 : e2 < len := by omega
  have hL9 : len ≤ 1000 := by omega
  clear hc1 hX hY H1 H2 hm hr l1 l2 b1 b2 hlen hln hL3 hL4 hl3 hl4
  go_enter Try.func42, Try.ntmps42
  go_wp2_with fail
  refine HC1.out.mono ?_
  rintro e w1 ⟨rfl, hm1, hk1⟩
  have HC := Lib.hid (HC2.out w1 hm1 (HR.out.kept hk1 hb))
  have HK1 := Lib.hid hk1
  clear hm1 hk1 HC1 HC2
  simp only
  go_wp2_with fail
  refine HC.out.mono ?_
  rintro e w2 ⟨rfl, hm2, hk2⟩
  simp only at hm2
  have HP2 := Lib.hid (mputS _ M LY L3 len (f1 : Int) (f2 : Int) w2 HLN.out (by omega) HL3.out hm2)
  have HK2 := Lib.hid (HK1.out.trans hk2)
  clear hm2 hk2 HC HR HK1
  simp only
  go_wp2_with (refine wpList_build_stAB rfl _ _ _ rfl 3 (f1 : Int) (f2 : Int) rfl rfl rfl ?_)
  refine HP2.out.mono ?_
  rintro e w3 ⟨rfl, hm3, hk3⟩
  have HP3 := Lib.hid (mputE _ M L3 L4 (len + 1) w3 Hl3.out (by omega) HL4.out hm3)
  have HK3 := Lib.hid (HK2.out.trans hk3)
  clear hm3 hk3 HP2 HK2
  go_wp2_with (refine wpList_build_st0 rfl _ rfl 2 rfl ?_)
  refine HP3.out.mono ?_
  rintro e w4 ⟨rfl, hm4, hk4⟩
  obtain ⟨g, c, mc, ml, gl, ⟨u, cA⟩, fA, -, -, hA, -⟩ := hm4.opn Hl4.out (show e1 < len + 2 by omega)
  obtain ⟨W5, hW5⟩ : ∃ W5, w4.setCell ⟨g, e1 * 7 + 1, none⟩ (.int .i64 ((len : Int) + 1)) = W5 := ⟨_, rfl⟩
  have he := hA ((len : Int) + 1) (len + 1) (by omega)
  rw [hW5] at he
  have d1 : (e1 : Int) < (len : Int) + 2 := by omega
  have HM5 := Lib.hid he.1
  have HK5 := Lib.hid ((HK3.out.trans hk4).trans he.2)
  have HW5 := Lib.hid hW5
  clear hm4 hk4 HP3 HK3 hA he hW5
  go_upto_region 6 with (fail)
  rw [HW5.out]
  clear mc ml gl cA fA HW5
  obtain ⟨g', c', mc, ml, gl, ⟨u', cA⟩, fA, -, -, hA, -⟩ := HM5.out.opn (len := len + 2) (by rw [setA_len]; exact Hl4.out) (show e2 < len + 2 by omega)
  have he := hA ((len : Int) + 1) (len + 1) (by omega)
  have HE := Lib.hid he.1
  have HKE := Lib.hid (HK5.out.trans he.2)
  have d2 : (e2 : Int) < (len : Int) + 2 := by omega
  clear hA he
  go_wp2_with fail
  go_returns
  rw [HMF.out]
  exact ⟨rfl, HE.out, HKE.out⟩
end Go.Proofs.Ytdhplphgackjaaa

namespace Go.Proofs.Ytdhplphgackjaaa
open Go.RowKit

/-- What maybe does: a part and a split behind it. -/
def mbPost (t : Value) (M : Nat) (T : Tr) (L : List Sd) (ah : Nat) (w : World) (e : Ending) (w' : World) : Prop :=
  e = .returned (.tuple #[.int .i64 ((mkF T L).1.length : Int), .int .i64 ((mkF T L).2.2 : Int)]) ∧ mkW w' t M (setA ((mkF T L).1 ++ [sS (mkF T L).2.1 0]) ah (mkF T L).1.length) ∧ kpM M w w'
set_option maxRecDepth 100000 in
set_option maxHeartbeats 4000000 in
theorem maybe9 (N : Nat → Nd) (n b off cap j : Nat) (H1 : PrtC N n b off cap j) (M : Nat) (L : List Sd) (ah : Nat) (w : World) (hb : b < M) (hlen : L.length + (nst (trT N j) + 1) ≤ 1000) (hah : ah < L.length)
    (hm : mkW w (.slice (some ⟨b, off, none⟩) n cap) M L) (hr : rdN w b off n N) :
    Calls Try.prog 67 #[.pointer (some ⟨M, 0, none⟩), .int .i64 (j : Int), .int .i64 (ah : Int)] w (mbPost (.slice (some ⟨b, off, none⟩) n cap) M (trT N j) L ah w) := by
  have hc1 := H1 M L w hb (by omega) hm hr
  have l1 := mk_len (trT N j) L; have b1 := mk_bd (trT N j) L
  unfold mbPost
  obtain ⟨X, hX⟩ : ∃ X, mkF (trT N j) L = X := ⟨_, rfl⟩
  obtain ⟨LX, f1, e1⟩ := X
  rw [hX] at hc1 l1 b1 ⊢
  simp only at l1 b1 ⊢
  obtain ⟨len, hln⟩ : ∃ len, LX.length = len := ⟨_, rfl⟩
  obtain ⟨L3, hL3⟩ : ∃ L3, LX ++ [sS f1 0] = L3 := ⟨_, rfl⟩
  have hl3 : L3.length = len + 1 := by rw [← hL3]; simp [hln]
  rw [hln, hL3]
  have HLN := Lib.hid hln; have HL3 := Lib.hid hL3; have Hl3 := Lib.hid hl3
  have HC1 := Lib.hid hc1
  have d0 : (0 : Int) ≤ (ah : Int) := by omega
  have hL9 : len ≤ 1000 := by omega
  have hal : ah < len := by omega
  clear hc1 hX H1 hm hr l1 b1 hlen hln hL3 hl3 hah
  go_enter Try.func67, Try.ntmps67
  go_wp2_with fail
  refine HC1.out.mono ?_
  rintro e w1 ⟨rfl, hm1, hk1⟩
  simp only at hm1
  have HP2 := Lib.hid (mputS _ M LX L3 len (f1 : Int) 0 w1 HLN.out (by omega) HL3.out hm1)
  have HK1 := Lib.hid hk1
  clear hm1 hk1 HC1
  simp only
  go_wp2_with (refine wpList_build_stA rfl _ _ rfl 3 (f1 : Int) rfl rfl ?_)
  refine HP2.out.mono ?_
  rintro e w3 ⟨rfl, hm3, hk3⟩
  obtain ⟨g, c, mc, ml, gl, ⟨u, cA⟩, fA, -, -, hA, -⟩ := hm3.opn Hl3.out (show ah < len + 1 by omega)
  have he := hA (len : Int) len rfl
  have HE := Lib.hid he.1
  have HKE := Lib.hid ((HK1.out.trans hk3).trans he.2)
  have d1 : (ah : Int) < (len : Int) + 1 := by omega
  clear hm3 hk3 HP2 HK1 hA he
  go_wp2_with fail
  go_returns
  exact ⟨rfl, HE.out, HKE.out⟩

/-- What circle does. -/
def edPost (t : Value) (M : Nat) (R : List Sd × Nat) (w : World) (e : Ending) (w' : World) : Prop := e = .returned (.int .i64 (R.2 : Int)) ∧ mkW w' t M R.1 ∧ kpM M w w'
theorem edL9_circle (T : Tr) (L : List Sd) (ah s : Nat) (U : List Sd) (hs : (mkF T L).1.length = s) (hU : setA ((mkF T L).1 ++ [sS (mkF T L).2.1 0]) ah s = U) (hul : U.length = s + 1) (he : (mkF T L).2.2 < s) :
    edL9 true (opL (mkF T) 1 L ah) = (setB (setA U (mkF T L).2.2 s ++ [sE 0]) s (s + 1), s + 1) := by
  have e : opL (mkF T) 1 L ah = (U, (mkF T L).2.2, [s]) := by rw [← hU, ← hs]; rfl
  rw [e]
  unfold edL9
  simp only [if_true, List.headD_cons, hul]
  rw [setA_two, setA_app _ _ _ _ (by omega)]
  rfl
set_option maxRecDepth 100000 in
set_option maxHeartbeats 4000000 in
theorem circle9 (N : Nat → Nd) (n b off cap j : Nat) (H1 : PrtC N n b off cap j) (M : Nat) (L : List Sd) (ah : Nat) (w : World) (hb : b < M) (hlen : L.length + (nst (trT N j) + 2) ≤ 1000) (hah : ah < L.length)
    (hm : mkW w (.slice (some ⟨b, off, none⟩) n cap) M L) (hr : rdN w b off n N) :
    Calls Try.prog 62 #[.pointer (some ⟨M, 0, none⟩), .int .i64 (j : Int), .int .i64 (ah : Int)] w (edPost (.slice (some ⟨b, off, none⟩) n cap) M (edL9 true (opL (mkF (trT N j)) 1 L ah)) w) := by
  have hc1 := maybe9 N n b off cap j H1 M L ah w hb (by omega) hah hm hr
  have l1 := mk_len (trT N j) L; have b1 := mk_bd (trT N j) L
  obtain ⟨s, hs⟩ : ∃ s, (mkF (trT N j) L).1.length = s := ⟨_, rfl⟩
  obtain ⟨U, hU⟩ : ∃ U, setA ((mkF (trT N j) L).1 ++ [sS (mkF (trT N j) L).2.1 0]) ah s = U := ⟨_, rfl⟩
  have hul : U.length = s + 1 := by rw [← hU, setA_len]; simp [hs]
  have hed := edL9_circle (trT N j) L ah s U hs hU hul (by omega)
  unfold mbPost at hc1
  rw [hs, hU] at hc1
  rw [hed]
  obtain ⟨e1, he1⟩ : ∃ e1, (mkF (trT N j) L).2.2 = e1 := ⟨_, rfl⟩
  rw [he1] at hc1 ⊢
  obtain ⟨U2, hU2⟩ : ∃ U2, setA U e1 s ++ [sE 0] = U2 := ⟨_, rfl⟩
  have hl2 : U2.length = s + 2 := by rw [← hU2]; simp [setA_len, hul]
  rw [hU2]
  have HU2 := Lib.hid hU2; have Hul := Lib.hid hul; have Hl2 := Lib.hid hl2; have HC1 := Lib.hid hc1
  have d0 : (0 : Int) ≤ (e1 : Int) := by omega
  have s0 : (0 : Int) ≤ (s : Int) := by omega
  have hes : e1 < s := by omega
  have hs9 : s ≤ 1000 := by omega
  clear hc1 hs hU hul hed he1 hU2 hl2 l1 b1 H1 hm hr hlen hah
  go_enter Try.func62, Try.ntmps62
  go_wp2_with fail
  refine HC1.out.mono ?_
  rintro e w1 ⟨rfl, hm1, hk1⟩
  obtain ⟨g, c, mc, ml, gl, ⟨u, cA⟩, fA, -, -, hA, -⟩ := hm1.opn Hul.out (show e1 < s + 1 by omega)
  have he := hA (s : Int) s rfl
  obtain ⟨W2, hW2⟩ : ∃ W2, w1.setCell ⟨g, e1 * 7 + 1, none⟩ (.int .i64 (s : Int)) = W2 := ⟨_, rfl⟩
  rw [hW2] at he
  have HW2 := Lib.hid hW2
  have HK2 := Lib.hid (hk1.trans he.2)
  have HP2 := Lib.hid (mputE _ M (setA U e1 s) U2 (s + 1) W2 (by rw [setA_len]; exact Hul.out) (by omega) HU2.out he.1)
  have d1 : (e1 : Int) < (s : Int) + 1 := by omega
  clear hm1 hk1 HC1 hA he hW2
  go_upto_region 3 with (fail)
  rw [HW2.out]
  clear mc ml gl cA fA HW2
  go_wp2_with (refine wpList_build_st0 rfl _ rfl 2 rfl ?_)
  refine HP2.out.mono ?_
  rintro e w3 ⟨rfl, hm3, hk3⟩
  obtain ⟨g, c, mc, ml, gl, -, -, ⟨u, cB⟩, fB, -, hB⟩ := hm3.opn Hl2.out (show s < s + 2 by omega)
  have he := hB ((s : Int) + 1) (s + 1) (by omega)
  have HE := Lib.hid he.1
  have HKE := Lib.hid ((HK2.out.trans hk3).trans he.2)
  have d2 : (s : Int) < (s : Int) + 2 := by omega
  clear hm3 hk3 HP2 HK2 hB he
  go_wp2_with fail
  go_returns
  exact ⟨rfl, HE.out, HKE.out⟩
end Go.Proofs.Ytdhplphgackjaaa
