/-
  A list that grows while it is gone over: where one comes at once. Plain facts.
  Rows of states in memory, as lists.
  The walk of the ninth reference's put.
  A part in memory: its states, its first and its last one; what Make is asked.
  The walk of the ninth reference's repeat.
  What is met, and the list of it, in memory; the walk of the closure that puts.
-/
import Derived.Test.YtefpoapbodbenaaPk4
import Derived.Laws.AppendOwnNone
import Derived.OwnWalk
import Derived.Deep.Cut
import Derived.OneCell
namespace Go.Proofs.Ytefpoapbodbenaa
open Go.RowKit

/-- What is put behind the list of what is met, if it isn't met yet. -/
def putW (A : List Nat) (x : Nat) : List Nat := if x ∈ A then A else A ++ [x]
def memW (A : List Nat) (x : Nat) : Bool := decide (x ∈ A)
theorem putW_in {A : List Nat} {x : Nat} (h : x ∈ A) : putW A x = A := by unfold putW; rw [if_pos h]
theorem putW_out {A : List Nat} {x : Nat} (h : ¬ x ∈ A) : putW A x = A ++ [x] := by unfold putW; rw [if_neg h]
theorem putW_mem {A : List Nat} {x q : Nat} : q ∈ putW A x ↔ q ∈ A ∨ q = x := by
  by_cases h : x ∈ A
  · rw [putW_in h]
    constructor
    · exact .inl
    · rintro (g | rfl)
      · exact g
      · exact h
  · rw [putW_out h]; simp
theorem memW_put {A : List Nat} {x : Nat} (h : ¬ x ∈ A) (j : Nat) : putT (memW A) x true j = memW (A ++ [x]) j := by
  unfold putT memW
  by_cases e : j = x
  · subst e; simp
  · rw [if_neg e]
    congr 1
    simp [e]
def okA9 (m : Nat) (A : List Nat) : Prop := A.Nodup ∧ ∀ x, x ∈ A → x < m
theorem okA_nil (m : Nat) : okA9 m [] := ⟨List.nodup_nil, fun _ h => by cases h⟩
theorem okA_put {m : Nat} {A : List Nat} {x : Nat} (h : okA9 m A) (hx : x < m) : okA9 m (putW A x) := by
  by_cases e : x ∈ A
  · rw [putW_in e]; exact h
  · rw [putW_out e]
    refine ⟨?_, ?_⟩
    · rw [List.nodup_append]
      refine ⟨h.1, by simp, ?_⟩
      intro a ha b hb
      have : b = x := by simpa using hb
      subst this
      exact fun e2 => e (e2 ▸ ha)
    · intro y hy
      rcases List.mem_append.1 hy with g | g
      · exact h.2 y g
      · have : y = x := by simpa using g
        omega
theorem putW_old {A : List Nat} {x i : Nat} (h : i < A.length) : (putW A x)[i]? = A[i]? := by
  by_cases e : x ∈ A
  · rw [putW_in e]
  · rw [putW_out e, List.getElem?_append_left h]
theorem putW_len {A : List Nat} {x : Nat} : A.length ≤ (putW A x).length := by
  by_cases e : x ∈ A
  · rw [putW_in e]; exact Nat.le_refl _
  · rw [putW_out e]; simp
/-- The same members, none twice: what is true, rising, is a permutation. -/
theorem okA_perm {m : Nat} {A : List Nat} (h : okA9 m A) : (trs (memW A) m).Perm A := by
  refine (List.perm_ext_iff_of_nodup ?_ h.1).2 fun q => ?_
  · exact List.Pairwise.filter _ List.nodup_range
  · unfold trs memW
    rw [List.mem_filter, List.mem_range]
    constructor
    · rintro ⟨_, h2⟩; simpa using h2
    · exact fun g => ⟨h.2 q g, by simpa using g⟩
theorem okA_len {m : Nat} {A : List Nat} (h : okA9 m A) : A.length = cntT (memW A) m := (okA_perm h).length_eq.symm
theorem okA_le {m : Nat} {A : List Nat} (h : okA9 m A) : A.length ≤ m := by rw [okA_len h]; exact cntT_le _ _
end Go.Proofs.Ytefpoapbodbenaa

namespace Go.Proofs.Ytefpoapbodbenaa
open Go.RowKit

def scs (x : Sd) : List Value := [.int .i64 x.k, .int .i64 x.A, .int .i64 x.B, .int .u64 x.a, .int .u64 x.b, .int .u64 x.c, .int .u64 x.d]
def sds (l : List Sd) : List Value := l.flatMap scs
/-- The states that a slice reads as: none, or those of a block. -/
def srd (w : World) (v : Value) (L : List Sd) : Prop := (v = .slice none 0 0 ∧ L = []) ∨ ∃ b c, v = .slice (some ⟨b, 0, none⟩) L.length c ∧ b < w.heap.size ∧ ∀ j u, (sds L)[j]? = some u → w.cell? ⟨b, j, none⟩ = some u
theorem srd.below {w w' : World} {v : Value} {L : List Sd} (h : srd w v L) (hb : Below w.heap.size w w') : srd w' v L := by
  rcases h with h | ⟨b, c, rfl, hl, hc⟩
  · exact .inl h
  · exact .inr ⟨b, c, rfl, Nat.lt_of_lt_of_le hl hb.size, fun j u hu => by rw [hb.cell (p := ⟨b, j, none⟩) hl]; exact hc j u hu⟩
end Go.Proofs.Ytefpoapbodbenaa

namespace Go.Proofs.Ytefpoapbodbenaa
open Go.RowKit

theorem wp_append_none9 {P : Program} {w : World} {o : Oper} {a : Act} {K : Act → World → Prop} {Q : Exit → Act → World → Prop} (s x : Operand) (t : TypeId)
    (ho : o.op = .call { callee := .builtin .append, args := #[s, x], argTypes := #[t, t] })
    (base : Nat) (e : TypeId) (i : TypeInfo) (size : Nat) (ht : P.underlying t = some (.slice e)) (hi : P.info? e = some i)
    (v : Value) (n : Nat) (xs : List Value) (hs : a.eval s = v) (hown : w.ownsRow base e size v n xs) (hx : a.eval x = .slice none 0 0)
    (h : K (a.put o.dst v) w) : o.wp P a w K Q := by
  have hrun := run_append_owned_none (P := P) (w := w) base t o.type e i size ht hi v n xs hown
  unfold Oper.wp
  simp [execOp, ho, resolve, invoke, builtin, hs, hx, hrun, Result.andThen]
  exact h
theorem srd.grown {w w' : World} {b c n : Nat} {L : List Sd} {r : Option Nat} (h : srd w (.slice (some ⟨b, 0, none⟩) n c) L) (hg : w.grownBy w' r) (hr : some b ≠ r) : srd w' (.slice (some ⟨b, 0, none⟩) n c) L := by
  rcases h with ⟨h, _⟩ | ⟨b', c', h, hl, hc⟩
  · cases h
  · simp only [Value.slice.injEq, Option.some.injEq, Addr.mk.injEq] at h
    obtain ⟨⟨rfl, -⟩, rfl, rfl⟩ := h
    exact .inr ⟨b, c, rfl, Nat.lt_of_lt_of_le hl hg.size, fun j u hu => hg.cell (hc j u hu) hr⟩
end Go.Proofs.Ytefpoapbodbenaa

namespace Go.Proofs.Ytefpoapbodbenaa
open Go.RowKit

theorem grown_setCell (w : World) (b j : Nat) (v : Value) : w.grownBy (w.setCell ⟨b, j, none⟩ v) (some b) := by
  have h := (Below.refl b w).setCell (p := ⟨b, j, none⟩) (Nat.le_refl _) v
  refine ⟨h.os, h.tape, h.output, h.size, fun k _ hk => ?_⟩
  have : k ≠ b := fun e => hk (by rw [e])
  show (w.heap.modify b _)[k]? = _
  rw [Array.getElem?_modify, if_neg (Ne.symm this)]
end Go.Proofs.Ytefpoapbodbenaa

namespace Go.Proofs.Ytefpoapbodbenaa
open Go.RowKit

theorem rows_apart9 {w : World} {b1 b2 e1 e2 s1 s2 n1 n2 : Nat} {v1 v2 : Value} {x1 x2 : List Value} (h1 : w.ownsRow b1 e1 s1 v1 n1 x1) (h2 : w.ownsRow b2 e2 s2 v2 n2 x2) (hne : e1 ≠ e2) : v1.ownBlock = none ∨ v1.ownBlock ≠ v2.ownBlock := by
  rcases h1.2 with ⟨rfl, _⟩ | ⟨g1, c1, u1, rfl, _, p1, _⟩
  · exact .inl rfl
  · rcases h2.2 with ⟨rfl, _⟩ | ⟨g2, c2, u2, rfl, _, p2, _⟩
    · exact .inr (by simp [Value.ownBlock])
    · refine .inr fun h => ?_
      have hg : g1 = g2 := by simpa [Value.ownBlock] using h
      subst hg
      rw [p1] at p2
      simp at p2
      exact hne p2.2
def spl9 (l : List Nat) : List Value := l.map fun s : Nat => Value.int .i64 (s : Int)
/-- A row of places that a call owns. -/
def spO (w : World) (base : Nat) (v : Value) (l : List Nat) : Prop := w.ownsRow base 3 1 v l.length (spl9 l)
end Go.Proofs.Ytefpoapbodbenaa

namespace Go.Proofs.Ytefpoapbodbenaa
open Go.RowKit

theorem infoInt9w : (Try.prog.info? 3).map (fun i => (i.zero, i.size, i.bytes)) = some (some (.int .i64 0), 1, 8) := by kernel_rfl
theorem spl9_len (l : List Nat) : (spl9 l).length = l.length := by simp [spl9]
theorem spl9_append (l r : List Nat) : spl9 (l ++ r) = spl9 l ++ spl9 r := by simp [spl9]
theorem spl9_cell (l : List Nat) : ∀ u ∈ spl9 l, u.oneCell' = true := by
  intro u hu
  unfold spl9 at hu
  obtain ⟨x, _, rfl⟩ := List.mem_map.1 hu
  rfl
/-- A block of one cell. -/
def one9 (t : TypeId) (w : World) (b : Nat) (v : Value) : Prop := w.heap[b]? = some (.cells #[v] t (0, 0))
theorem one9.lt {t : TypeId} {w : World} {b : Nat} {v : Value} (h : one9 t w b v) : b < w.heap.size := lt_of_block h
theorem one9.cell {t : TypeId} {w : World} {b : Nat} {v : Value} (h : one9 t w b v) : w.cell? ⟨b, 0, none⟩ = some v := by
  unfold one9 at h
  simp [World.cell?, h]
theorem one9.free {t : TypeId} {w : World} {b : Nat} {v : Value} (h : one9 t w b v) : w.frozen? ⟨b, 0, none⟩ = false := by
  unfold one9 at h
  simp [World.frozen?, h]
theorem one9.stored {t : TypeId} {w : World} {b : Nat} {v : Value} (h : one9 t w b v) (u : Value) : one9 t (w.setCell ⟨b, 0, none⟩ u) b u := by
  have h1 := heap_setCell_same w b 0 _ _ u h
  unfold one9
  rw [h1]
  simp
theorem one9.grown {t : TypeId} {w w' : World} {b : Nat} {r : Option Nat} {v : Value} (h : one9 t w b v) (hg : w.grownBy w' r) (hb : some b ≠ r) : one9 t w' b v :=
  (hg.block b h.lt hb).trans h
theorem one9.below {t : TypeId} {w w' : World} {b B : Nat} {v : Value} (h : one9 t w b v) (hB : Below B w w') (hb : b < B) : one9 t w' b v := (hB.block b hb).trans h

/-- Block g has what is met of m states, block h names it, block h + 1 the list of it. -/
def clW (w : World) (g h m : Nat) (A : List Nat) : Prop :=
  g < h ∧ one9 23 w (h) (.slice (some ⟨g, 0, none⟩) m m) ∧ (∃ p c, one9 22 w (h + 1) (.slice p A.length c) ∧ spO w (h + 2) (.slice p A.length c) A) ∧ blR w g g m m (memW A)
theorem clW.below {w w' : World} {g h m : Nat} {A : List Nat} (hc : clW w g h m A) (hb : Below w.heap.size w w') : clW w' g h m A := by
  obtain ⟨h0, h1, ⟨p, c, h2, h3⟩, h4⟩ := hc
  exact ⟨h0, h1.below hb h1.lt, ⟨p, c, h2.below hb h2.lt, owns_below h3 hb⟩, h4.below hb⟩
theorem spO_of {w : World} {base : Nat} {v : Value} {A : List Nat} (h : spO w base v A) : ∃ p c, v = .slice p A.length c := by
  rcases id h.2 with ⟨rfl, h0⟩ | ⟨g, cap, cur, rfl, _⟩
  · exact ⟨none, 0, by rw [h0]⟩
  · exact ⟨_, cap, rfl⟩
end Go.Proofs.Ytefpoapbodbenaa
