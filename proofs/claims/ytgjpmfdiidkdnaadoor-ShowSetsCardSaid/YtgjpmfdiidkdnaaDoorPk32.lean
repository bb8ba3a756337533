/-
  The tokens of a text, as the fifth layer reads them.
  The leaves of a tree against a text's tokens, one by one: the plain mathematics.
-/
import Derived.Test.YtgjpmfdiidkdnaaDoorPk29
import Derived.Test.YtgjpmfdiidkdnaaDoorPk22
import Derived.Test.YtgjpmfdiidkdnaaDoorPk31
import Derived.Test.YtgjpmfdiidkdnaaDoorPk28
namespace Go.Proofs.YtgjpmfdiidkdnaaDoor
open Go.RowKit

def tn_of (r : Tka) : Tn := ⟨r.1, r.2.1, (wd r.2.2.1 0 : Int), (wd r.2.2.1 1 : Int), (wd r.2.2.1 2 : Int), (wd r.2.2.1 3 : Int), r.2.2.2.1, r.2.2.2.2⟩
def tof (l : List Tka) (j : Nat) : Tn := match l[j]? with | some r => tn_of r | none => ⟨0, 0, 0, 0, 0, 0, 0, 0⟩
theorem tof_get (l : List Tka) (j : Nat) (h : j < l.length) : tof l j = tn_of l[j] := by unfold tof; rw [List.getElem?_eq_getElem h]
/-- A row of tokens that a call made: none, or as many as its cells are. -/
theorem toks_own {w : World} {base : Nat} {v : Value} {l : List Tka} (h : w.ownsRow base 38 8 v l.length (tvs l)) :
    (v = .slice none 0 0 ∧ l.length = 0) ∨ ∃ g cap, v = .slice (some ⟨g, 0, none⟩) l.length cap ∧ l.length ≤ cap ∧ rdTn w g 0 l.length (tof l) := by
  have hr := rdT_of_owns h
  rcases h.2 with ⟨rfl, h0⟩ | ⟨g, cap, cur, rfl, _, _, hcap, _, _, _⟩
  · exact .inl ⟨rfl, h0⟩
  · rcases hr with ⟨h0, h1⟩ | ⟨b, off, cap', hv, hb, hc⟩
    · cases h0
    · simp only [Value.slice.injEq, Option.some.injEq, Addr.mk.injEq, true_and, and_true] at hv
      obtain ⟨⟨rfl, rfl⟩, rfl⟩ := hv
      exact .inr ⟨g, cap, rfl, hcap, fun j hj => ⟨hb, by rw [tof_get l j hj]; exact hc j hj⟩⟩
/-- What Pattern tells. -/
def patF (p : ByteArray) : Option (List Nd) × Int × Int :=
  if 200 < p.size then (none, 0, 4) else match (toks p).1 with | some l => ofF (tof l) l.length p.size | none => (none, ((toks p).2 : Int), 3)
theorem ofPost.form {r : Option (List Nd) × Int × Int} {w w' : World} {e : Ending} (h : ofPost r w e w') : ∃ v, e = .returned (.tuple #[v, .int .i64 r.2.1, .int .i64 r.2.2]) := by
  obtain ⟨h1, h2, -⟩ := h
  cases hr : r.1 with
  | none => exact ⟨_, h2 hr⟩
  | some l => obtain ⟨v, hv, -⟩ := h1 l hr; exact ⟨v, hv⟩
theorem ofPost.lift {r : Option (List Nd) × Int × Int} {w w1 w' : World} {e : Ending} (h : ofPost r w1 e w') (hb : Below w.heap.size w w1) : ofPost r w e w' :=
  ⟨fun l hl => by obtain ⟨v, hv, ho⟩ := h.1 l hl; exact ⟨v, hv, owns_mono ho hb.size⟩, h.2.1, hb.trans (h.2.2.mono hb.size)⟩
end Go.Proofs.YtgjpmfdiidkdnaaDoor

namespace Go.Proofs.YtgjpmfdiidkdnaaDoor

/-- What a token of a text holds beside what its kind has. -/
def normT (t : Tn) : Prop := (t.k = 1 ∧ t.lo = 0 ∧ t.hi = 0) ∨ (t.a = 0 ∧ t.b = 0 ∧ t.c = 0 ∧ t.d = 0 ∧ (t.k = 5 ∨ ((t.k = 2 ∨ t.k = 3 ∨ t.k = 4 ∨ t.k = 6 ∨ t.k = 7) ∧ t.lo = 0 ∧ t.hi = 0)))
theorem wd_none (i : Nat) : wd (fun _ => false) i = 0 := word_none _ _ fun _ _ => rfl
theorem sign_norm {c : Nat} {k lo hi : Int} (h : tkSign c = some (k, lo, hi)) : k = 5 ∨ ((k = 2 ∨ k = 3 ∨ k = 4 ∨ k = 6 ∨ k = 7) ∧ lo = 0 ∧ hi = 0) := by
  unfold tkSign at h
  repeat' split at h
  all_goals first | (simp only [Option.some.injEq, Prod.mk.injEq] at h; obtain ⟨rfl, rfl, rfl⟩ := h; simp) | cases h
theorem tk_norm {p : ByteArray} {i k n : Nat} {r : Tk} (h : tk p k = some (r, n)) : normT (tn_of (tka i r)) := by
  unfold tk at h
  cases hs : tkSign (gb p k) with
  | some x =>
    obtain ⟨a, lo, hi⟩ := x
    rw [hs] at h
    simp only [Option.some.injEq, Prod.mk.injEq] at h
    obtain ⟨rfl, -⟩ := h
    exact .inr ⟨by show ((wd (fun _ => false) 0 : Nat) : Int) = 0; rw [wd_none] <;> rfl, by show ((wd (fun _ => false) 1 : Nat) : Int) = 0; rw [wd_none] <;> rfl, by show ((wd (fun _ => false) 2 : Nat) : Int) = 0; rw [wd_none] <;> rfl, by show ((wd (fun _ => false) 3 : Nat) : Int) = 0; rw [wd_none] <;> rfl, sign_norm hs⟩
  | none =>
    rw [hs] at h
    simp only at h
    by_cases c1 : gb p k = 123
    · rw [if_pos c1] at h
      split at h
      · cases h
      · simp only [Option.some.injEq, Prod.mk.injEq] at h
        obtain ⟨rfl, -⟩ := h
        exact .inr ⟨by show ((wd (fun _ => false) 0 : Nat) : Int) = 0; rw [wd_none] <;> rfl, by show ((wd (fun _ => false) 1 : Nat) : Int) = 0; rw [wd_none] <;> rfl, by show ((wd (fun _ => false) 2 : Nat) : Int) = 0; rw [wd_none] <;> rfl, by show ((wd (fun _ => false) 3 : Nat) : Int) = 0; rw [wd_none] <;> rfl, .inl rfl⟩
    · rw [if_neg c1] at h
      left
      repeat' split at h
      all_goals first
        | (cases h; done)
        | (simp only [Option.some.injEq, Prod.mk.injEq] at h; obtain ⟨rfl, -⟩ := h; exact ⟨rfl, rfl, rfl⟩)
        | (obtain ⟨x, hx, e⟩ := Option.map_eq_some_iff.1 h; simp only [Prod.mk.injEq] at e; obtain ⟨rfl, -⟩ := e; exact ⟨rfl, rfl, rfl⟩)
theorem tof_norm {p : ByteArray} {l : List Tka} {m : Nat} (h : toks p = (some l, m)) (j : Nat) (hj : j < l.length) : normT (tof l j) := by
  obtain ⟨k, n, r, e, ht, -⟩ := chain_at (toks_chain h).1 j hj
  rw [tof_get l j hj, e]
  exact tk_norm ht

/-- A node and the token that it is of. -/
def likeT (t : Tn) (x : Nd) : Prop := x.a = t.a ∧ x.b = t.b ∧ x.c = t.c ∧ x.d = t.d ∧ x.lo = t.lo ∧ x.hi = t.hi ∧ ((t.k = 1 ∧ x.k = 1) ∨ (t.k = 5 ∧ x.k = 7) ∨ (t.k = 6 ∧ x.k = 3) ∨ (t.k = 7 ∧ x.k = 4))
theorem leaf_like {t : Tn} (h : normT t) (hl : lfT t = true) : likeT t (leafOf t) := by
  have hk : ¬ (t.k = 2 ∨ t.k = 3 ∨ t.k = 4) := by
    rintro (h | h | h) <;> simp [lfT, h] at hl
  rcases h with ⟨h1, h2, h3⟩ | ⟨a0, b0, c0, d0, h5 | ⟨h6, h7, h8⟩⟩
  · unfold leafOf; rw [if_pos h1]; exact ⟨rfl, rfl, rfl, rfl, h2.symm, h3.symm, .inl ⟨h1, rfl⟩⟩
  · unfold leafOf; rw [if_neg (by omega), if_neg (by omega), if_neg (by omega)]; exact ⟨a0.symm, b0.symm, c0.symm, d0.symm, rfl, rfl, .inr (.inl ⟨h5, rfl⟩)⟩
  · by_cases h9 : t.k = 6
    · unfold leafOf; rw [if_neg (by omega), if_pos h9]; exact ⟨a0.symm, b0.symm, c0.symm, d0.symm, h7.symm, h8.symm, .inr (.inr (.inl ⟨h9, rfl⟩))⟩
    · have h10 : t.k = 7 := by omega
      unfold leafOf; rw [if_neg (by omega), if_neg h9, if_pos h10]; exact ⟨a0.symm, b0.symm, c0.symm, d0.symm, h7.symm, h8.symm, .inr (.inr (.inr ⟨h10, rfl⟩))⟩

/-- How far both have come: the leaves from node i on are the tokens' from k on. -/
def inT (l : List Nd) (T : Nat → Tn) (n i k : Nat) : Prop := i ≤ l.length ∧ k ≤ n ∧ leaves (l.drop i) = tl T k n
theorem tl_skip {T : Nat → Tn} {k n : Nat} (h : k < n) (hl : lfT (T k) = false) : tl T k n = tl T (k + 1) n := by
  rw [tl_split T (show k ≤ k + 1 by omega) (show k + 1 ≤ n by omega), tl_one, if_neg (by simp [hl])]; rfl
theorem tl_take {T : Nat → Tn} {k n : Nat} (h : k < n) (hl : lfT (T k) = true) : tl T k n = leafOf (T k) :: tl T (k + 1) n := by
  rw [tl_split T (show k ≤ k + 1 by omega) (show k + 1 ≤ n by omega), tl_one, if_pos hl]; rfl
theorem inT.skip {l : List Nd} {T : Nat → Tn} {n i k : Nat} (h : inT l T n i k) (hk : k < n) (hl : lfT (T k) = false) : inT l T n i (k + 1) := ⟨h.1, hk, by rw [h.2.2, tl_skip hk hl]⟩
theorem drop_get {l : List Nd} {i : Nat} (h : i < l.length) : l.drop i = nfn l i :: l.drop (i + 1) := by
  rw [List.drop_eq_getElem_cons h, nfn, List.getD_eq_getElem?_getD, List.getElem?_eq_getElem h]; rfl
theorem inT.pass {l : List Nd} {T : Nat → Tn} {n i k : Nat} (h : inT l T n i k) (hi : i < l.length) (hl : lfN (nfn l i) = false) : inT l T n (i + 1) k := by
  refine ⟨hi, h.2.1, ?_⟩
  rw [← h.2.2, drop_get hi]
  simp [leaves, hl]
/-- At a leaf, where the next token makes one, or there is none: there is one, and it makes this leaf. -/
theorem inT.meet {l : List Nd} {T : Nat → Tn} {n i k : Nat} (h : inT l T n i k) (hN : ∀ j, j < n → normT (T j)) (hi : i < l.length) (hl : lfN (nfn l i) = true) (he : k < n → lfT (T k) = true) :
    k < n ∧ likeT (T k) (nfn l i) ∧ inT l T n (i + 1) (k + 1) := by
  obtain ⟨h1, h2, h3⟩ := h
  rw [drop_get hi] at h3
  have h4 : leaves (nfn l i :: l.drop (i + 1)) = nfn l i :: leaves (l.drop (i + 1)) := by simp [leaves, hl]
  rw [h4] at h3
  have hk : k < n := by
    by_cases hk : k < n
    · exact hk
    · have : k = n := by omega
      rw [this, tl_same] at h3
      cases h3
  rw [tl_take hk (he hk)] at h3
  injection h3 with e1 e2
  exact ⟨hk, by rw [e1]; exact leaf_like (hN k hk) (he hk), hi, hk, e2⟩
theorem inT.last {l : List Nd} {T : Nat → Tn} {n k : Nat} (h : inT l T n l.length k) (he : k < n → lfT (T k) = true) : k = n := by
  obtain ⟨h1, h2, h3⟩ := h
  by_cases hk : k < n
  · rw [tl_take hk (he hk)] at h3
    simp [leaves] at h3
  · omega
end Go.Proofs.YtgjpmfdiidkdnaaDoor
