/-
  The tokens of a text, as the fifth layer reads them.
  The leaves of a tree against a text's tokens, one by one: the plain mathematics.
  Trees as texts; the tokens of such a text. Plain facts.
-/
import Derived.Test.YtgjpmfdiidkdnaaGreatDoorPk31
import Derived.Test.YtgjpmfdiidkdnaaGreatDoorPk32
import Derived.Test.YtgjpmfdiidkdnaaGreatDoorPk22
import Derived.Test.YtgjpmfdiidkdnaaGreatDoorPk33
import Derived.Test.YtgjpmfdiidkdnaaGreatDoorPk30
import Derived.Test.YtgjpmfdiidkdnaaGreatDoorPk23
namespace Go.Proofs.YtgjpmfdiidkdnaaGreatDoor
open Go.RowKit

def tn_of (r : Tka) : Tn := ⟨r.1, r.2.1, (wd r.2.2.1 0 : Int), (wd r.2.2.1 1 : Int), (wd r.2.2.1 2 : Int), (wd r.2.2.1 3 : Int), r.2.2.2.1, r.2.2.2.2⟩
def tof (l : List Tka) (j : Nat) : Tn := match l[j]? with | some r => tn_of r | none => ⟨0, 0, 0, 0, 0, 0, 0, 0⟩
theorem tof_get (l : List Tka) (j : Nat) (h : j < l.length) : tof l j = tn_of l[j] := by unfold tof; rw [List.getElem?_eq_getElem h]
/-- A row of tokens that a call made: none, or as many as its cells are. -/
theorem toks_own {w : World} {base : Nat} {v : Value} {l : List Tka} (h : w.ownsRow base 72 8 v l.length (tvs l)) :
    (v = .slice none 0 0 ∧ l.length = 0) ∨ ∃ g cap, v = .slice (some ⟨g, 0, none⟩) l.length cap ∧ l.length ≤ cap ∧ rdTn w g 0 l.length (tof l) := by
  have hr := rdT_of_owns h
  rcases h.2 with ⟨rfl, h0⟩ | ⟨g, cap, cur, rfl, _, _, hcap, _, _, _⟩
  · exact .inl ⟨rfl, h0⟩
  · rcases hr with ⟨h0, h1⟩ | ⟨b, off, cap', hv, hb, hc⟩
    · cases h0
    · simp only [Value.slice.injEq, Option.some.injEq, Addr.mk.injEq, true_and, and_true] at hv
      obtain ⟨⟨rfl, rfl⟩, rfl⟩ := hv
      exact .inr ⟨g, cap, rfl, hcap, fun j hj => ⟨hb, by rw [tof_get l j hj]; exact hc j hj⟩⟩
/-- What Pattern tells. -/
def patF (p : ByteArray) : Option (List Nd) × Int × Int :=
  if 200 < p.size then (none, 0, 4) else match (toks p).1 with | some l => ofF (tof l) l.length p.size | none => (none, ((toks p).2 : Int), 3)
theorem ofPost.form {r : Option (List Nd) × Int × Int} {w w' : World} {e : Ending} (h : ofPost r w e w') : ∃ v, e = .returned (.tuple #[v, .int .i64 r.2.1, .int .i64 r.2.2]) := by
  obtain ⟨h1, h2, -⟩ := h
  cases hr : r.1 with
  | none => exact ⟨_, h2 hr⟩
  | some l => obtain ⟨v, hv, -⟩ := h1 l hr; exact ⟨v, hv⟩
theorem ofPost.lift {r : Option (List Nd) × Int × Int} {w w1 w' : World} {e : Ending} (h : ofPost r w1 e w') (hb : Below w.heap.size w w1) : ofPost r w e w' :=
  ⟨fun l hl => by obtain ⟨v, hv, ho⟩ := h.1 l hl; exact ⟨v, hv, owns_mono ho hb.size⟩, h.2.1, hb.trans (h.2.2.mono hb.size)⟩
end Go.Proofs.YtgjpmfdiidkdnaaGreatDoor

namespace Go.Proofs.YtgjpmfdiidkdnaaGreatDoor

/-- What a token of a text holds beside what its kind has. -/
def normT (t : Tn) : Prop := (t.k = 1 ∧ t.lo = 0 ∧ t.hi = 0) ∨ (t.a = 0 ∧ t.b = 0 ∧ t.c = 0 ∧ t.d = 0 ∧ (t.k = 5 ∨ ((t.k = 2 ∨ t.k = 3 ∨ t.k = 4 ∨ t.k = 6 ∨ t.k = 7) ∧ t.lo = 0 ∧ t.hi = 0)))
theorem wd_none (i : Nat) : wd (fun _ => false) i = 0 := word_none _ _ fun _ _ => rfl
theorem sign_norm {c : Nat} {k lo hi : Int} (h : tkSign c = some (k, lo, hi)) : k = 5 ∨ ((k = 2 ∨ k = 3 ∨ k = 4 ∨ k = 6 ∨ k = 7) ∧ lo = 0 ∧ hi = 0) := by
  unfold tkSign at h
  repeat' split at h
  all_goals first | (simp only [Option.some.injEq, Prod.mk.injEq] at h; obtain ⟨rfl, rfl, rfl⟩ := h; simp) | cases h
theorem tk_norm {p : ByteArray} {i k n : Nat} {r : Tk} (h : tk p k = some (r, n)) : normT (tn_of (tka i r)) := by
  unfold tk at h
  cases hs : tkSign (gb p k) with
  | some x =>
    obtain ⟨a, lo, hi⟩ := x
    rw [hs] at h
    simp only [Option.some.injEq, Prod.mk.injEq] at h
    obtain ⟨rfl, -⟩ := h
    exact .inr ⟨by show ((wd (fun _ => false) 0 : Nat) : Int) = 0; rw [wd_none] <;> rfl, by show ((wd (fun _ => false) 1 : Nat) : Int) = 0; rw [wd_none] <;> rfl, by show ((wd (fun _ => false) 2 : Nat) : Int) = 0; rw [wd_none] <;> rfl, by show ((wd (fun _ => false) 3 : Nat) : Int) = 0; rw [wd_none] <;> rfl, sign_norm hs⟩
  | none =>
    rw [hs] at h
    simp only at h
    by_cases c1 : gb p k = 123
    · rw [if_pos c1] at h
      split at h
      · cases h
      · simp only [Option.some.injEq, Prod.mk.injEq] at h
        obtain ⟨rfl, -⟩ := h
        exact .inr ⟨by show ((wd (fun _ => false) 0 : Nat) : Int) = 0; rw [wd_none] <;> rfl, by show ((wd (fun _ => false) 1 : Nat) : Int) = 0; rw [wd_none] <;> rfl, by show ((wd (fun _ => false) 2 : Nat) : Int) = 0; rw [wd_none] <;> rfl, by show ((wd (fun _ => false) 3 : Nat) : Int) = 0; rw [wd_none] <;> rfl, .inl rfl⟩
    · rw [if_neg c1] at h
      left
      repeat' split at h
      all_goals first
        | (cases h; done)
        | (simp only [Option.some.injEq, Prod.mk.injEq] at h; obtain ⟨rfl, -⟩ := h; exact ⟨rfl, rfl, rfl⟩)
        | (obtain ⟨x, hx, e⟩ := Option.map_eq_some_iff.1 h; simp only [Prod.mk.injEq] at e; obtain ⟨rfl, -⟩ := e; exact ⟨rfl, rfl, rfl⟩)
theorem tof_norm {p : ByteArray} {l : List Tka} {m : Nat} (h : toks p = (some l, m)) (j : Nat) (hj : j < l.length) : normT (tof l j) := by
  obtain ⟨k, n, r, e, ht, -⟩ := chain_at (toks_chain h).1 j hj
  rw [tof_get l j hj, e]
  exact tk_norm ht

/-- A node and the token that it is of. -/
def likeT (t : Tn) (x : Nd) : Prop := x.a = t.a ∧ x.b = t.b ∧ x.c = t.c ∧ x.d = t.d ∧ x.lo = t.lo ∧ x.hi = t.hi ∧ ((t.k = 1 ∧ x.k = 1) ∨ (t.k = 5 ∧ x.k = 7) ∨ (t.k = 6 ∧ x.k = 3) ∨ (t.k = 7 ∧ x.k = 4))
theorem leaf_like {t : Tn} (h : normT t) (hl : lfT t = true) : likeT t (leafOf t) := by
  have hk : ¬ (t.k = 2 ∨ t.k = 3 ∨ t.k = 4) := by
    rintro (h | h | h) <;> simp [lfT, h] at hl
  rcases h with ⟨h1, h2, h3⟩ | ⟨a0, b0, c0, d0, h5 | ⟨h6, h7, h8⟩⟩
  · unfold leafOf; rw [if_pos h1]; exact ⟨rfl, rfl, rfl, rfl, h2.symm, h3.symm, .inl ⟨h1, rfl⟩⟩
  · unfold leafOf; rw [if_neg (by omega), if_neg (by omega), if_neg (by omega)]; exact ⟨a0.symm, b0.symm, c0.symm, d0.symm, rfl, rfl, .inr (.inl ⟨h5, rfl⟩)⟩
  · by_cases h9 : t.k = 6
    · unfold leafOf; rw [if_neg (by omega), if_pos h9]; exact ⟨a0.symm, b0.symm, c0.symm, d0.symm, h7.symm, h8.symm, .inr (.inr (.inl ⟨h9, rfl⟩))⟩
    · have h10 : t.k = 7 := by omega
      unfold leafOf; rw [if_neg (by omega), if_neg h9, if_pos h10]; exact ⟨a0.symm, b0.symm, c0.symm, d0.symm, h7.symm, h8.symm, .inr (.inr (.inr ⟨h10, rfl⟩))⟩

/-- How far both have come: the leaves from node i on are the tokens' from k on. -/
def inT (l : List Nd) (T : Nat → Tn) (n i k : Nat) : Prop := i ≤ l.length ∧ k ≤ n ∧ leaves (l.drop i) = tl T k n
theorem tl_skip {T : Nat → Tn} {k n : Nat} (h : k < n) (hl : lfT (T k) = false) : tl T k n = tl T (k + 1) n := by
  rw [tl_split T (show k ≤ k + 1 by omega) (show k + 1 ≤ n by omega), tl_one, if_neg (by simp [hl])]; rfl
theorem tl_take {T : Nat → Tn} {k n : Nat} (h : k < n) (hl : lfT (T k) = true) : tl T k n = leafOf (T k) :: tl T (k + 1) n := by
  rw [tl_split T (show k ≤ k + 1 by omega) (show k + 1 ≤ n by omega), tl_one, if_pos hl]; rfl
theorem inT.skip {l : List Nd} {T : Nat → Tn} {n i k : Nat} (h : inT l T n i k) (hk : k < n) (hl : lfT (T k) = false) : inT l T n i (k + 1) := ⟨h.1, hk, by rw [h.2.2, tl_skip hk hl]⟩
theorem drop_get {l : List Nd} {i : Nat} (h : i < l.length) : l.drop i = nfn l i :: l.drop (i + 1) := by
  rw [List.drop_eq_getElem_cons h, nfn, List.getD_eq_getElem?_getD, List.getElem?_eq_getElem h]; rfl
theorem inT.pass {l : List Nd} {T : Nat → Tn} {n i k : Nat} (h : inT l T n i k) (hi : i < l.length) (hl : lfN (nfn l i) = false) : inT l T n (i + 1) k := by
  refine ⟨hi, h.2.1, ?_⟩
  rw [← h.2.2, drop_get hi]
  simp [leaves, hl]
/-- At a leaf, where the next token makes one, or there is none: there is one, and it makes this leaf. -/
theorem inT.meet {l : List Nd} {T : Nat → Tn} {n i k : Nat} (h : inT l T n i k) (hN : ∀ j, j < n → normT (T j)) (hi : i < l.length) (hl : lfN (nfn l i) = true) (he : k < n → lfT (T k) = true) :
    k < n ∧ likeT (T k) (nfn l i) ∧ inT l T n (i + 1) (k + 1) := by
  obtain ⟨h1, h2, h3⟩ := h
  rw [drop_get hi] at h3
  have h4 : leaves (nfn l i :: l.drop (i + 1)) = nfn l i :: leaves (l.drop (i + 1)) := by simp [leaves, hl]
  rw [h4] at h3
  have hk : k < n := by
    by_cases hk : k < n
    · exact hk
    · have : k = n := by omega
      rw [this, tl_same] at h3
      cases h3
  rw [tl_take hk (he hk)] at h3
  injection h3 with e1 e2
  exact ⟨hk, by rw [e1]; exact leaf_like (hN k hk) (he hk), hi, hk, e2⟩
theorem inT.last {l : List Nd} {T : Nat → Tn} {n k : Nat} (h : inT l T n l.length k) (he : k < n → lfT (T k) = true) : k = n := by
  obtain ⟨h1, h2, h3⟩ := h
  by_cases hk : k < n
  · rw [tl_take hk (he hk)] at h3
    simp [leaves] at h3
  · omega
end Go.Proofs.YtgjpmfdiidkdnaaGreatDoor

namespace Go.Proofs.YtgjpmfdiidkdnaaGreatDoor

theorem bs_get (s : List Nat) (i : Nat) (h : i < s.length) (h2 : s[i] < 256) : gb (bs s) i = s[i] := by
  rw [← gb_in (show i < (bs s).size by rw [bs_size]; exact h)]
  show ((bs s).data[i]'_).toNat = _
  unfold bs
  simp [Nat.mod_eq_of_lt h2]
theorem has_bs {s : List Nat} (h : ∀ x, x ∈ s → x < 256) : has (bs s) 0 s := fun i hi => by
  have h2 := h s[i] (List.getElem_mem hi)
  rw [Nat.zero_add]
  exact ⟨bs_get s i hi h2, h2⟩
theorem has.alike {p : ByteArray} {k : Nat} {s : List Nat} (h : has p k s) : alike (bs s) 0 p k s.length := fun i hi => by
  rw [Nat.zero_add, (h i hi).1, bs_get s i hi (h i hi).2]

set_option maxRecDepth 100000 in
theorem oft_tab : ∀ lo : Nat, lo < 33 → ∀ h : Nat, h < 34 → (!(h == 0 || decide (lo + 1 ≤ h)) || decide (((tk (bs (oftL lo ((h : Int) - 1))) 0).map fun r => (r.1.1, r.1.2.2.1, r.1.2.2.2, r.2)) = some (5, (lo : Int), (h : Int) - 1, (oftL lo ((h : Int) - 1)).length))) = true := by decide +kernel
theorem oft_len (lo hi : Int) : 0 < (oftL lo hi).length := by
  unfold oftL
  split
  · simp
  · split
    · simp
    · split
      · simp
      · simp
theorem tk_oft {p : ByteArray} {k : Nat} {lo hi : Int} (h1 : 0 ≤ lo) (h2 : lo ≤ 32) (h3 : hi = -1 ∨ (lo ≤ hi ∧ hi ≤ 32)) (h : has p k (oftL lo hi)) :
    ∃ r, tk p k = some (r, k + (oftL lo hi).length) ∧ ∀ i, sameT (tn_of (tka i r)) (tnR lo hi) := by
  obtain ⟨l, rfl⟩ := Int.eq_ofNat_of_zero_le h1
  obtain ⟨m, hm⟩ : ∃ m : Nat, hi = (m : Int) - 1 := ⟨(hi + 1).toNat, by omega⟩
  subst hm
  have ht0 := oft_tab l (by omega) m (by omega)
  have hc : (m == 0 || decide (l + 1 ≤ m)) = true := by rcases h3 with h3 | h3 <;> simp <;> omega
  rw [hc, Bool.not_true, Bool.false_or] at ht0
  have ht := of_decide_eq_true ht0
  obtain ⟨⟨r, n⟩, hr, e⟩ := Option.map_eq_some_iff.1 ht
  simp only [Prod.mk.injEq] at e
  obtain ⟨e1, e2, e3, e4⟩ := e
  have hp := oft_len l ((m : Int) - 1)
  obtain ⟨q1, q2, q3⟩ := tk_pre h.alike (by rw [bs_size]; exact hp) hr (by omega)
  refine ⟨r, by rw [q1, e4]; congr 2; omega, fun i => ?_⟩
  rcases tk_norm (i := i) hr with ⟨n1, -⟩ | ⟨n1, n2, n3, n4, -⟩
  · have n1' : r.1 = 1 := n1
    rw [e1] at n1'; cases n1'
  · exact ⟨e1, n1, n2, n3, n4, e2, e3⟩

/-- A tree as a pattern. -/
def txt : Tr → List Nat
  | .leaf x => if x.k = 1 then setL (fOf x) else if x.k = 2 then [40, 41] else if x.k = 3 then [94] else [36]
  | .cat a b => par (isOr a) (txt a) ++ par (isOr b || isCat b) (txt b)
  | .or a b => txt a ++ 124 :: par (isOr b) (txt b)
  | .rep a lo hi => par (isOr a || isCat a) (txt a) ++ oftL lo hi
def okL : Tr → Prop
  | .leaf x => okW x
  | .cat a b => okL a ∧ okL b
  | .or a b => okL a ∧ okL b
  | .rep a _ _ => okL a

/-- Tokens that lie one behind the other, from one place to another. -/
def lexTo (p : ByteArray) : List Tka → Nat → Nat → Prop
  | [], i, j => i = j
  | t :: l, i, j => ∃ r n, tk p i = some (r, n) ∧ t = tka i r ∧ i < p.size ∧ lexTo p l n j
theorem lexTo_app {p : ByteArray} : ∀ {l m : List Tka} {i j k : Nat}, lexTo p l i j → lexTo p m j k → lexTo p (l ++ m) i k
  | [], _, _, _, _, h1, h2 => by cases h1; exact h2
  | _ :: _, _, _, _, _, ⟨r, n, e1, e2, e3, e4⟩, h2 => ⟨r, n, e1, e2, e3, lexTo_app e4 h2⟩
theorem lexTo_chain {p : ByteArray} : ∀ {l : List Tka} {i : Nat}, lexTo p l i p.size → chain p l i
  | [], _, h => by cases h; exact Nat.le_refl _
  | _ :: _, _, ⟨r, n, e1, e2, e3, e4⟩ => ⟨r, n, e1, e2, e3, lexTo_chain e4⟩
/-- A row of tokens, but for their places. -/
def likeL (L : List Tka) (s : List Tn) : Prop := L.length = s.length ∧ ∀ j (h : j < L.length) (h' : j < s.length), sameT (tn_of L[j]) s[j]
theorem likeL_app {L M : List Tka} {s t : List Tn} (h1 : likeL L s) (h2 : likeL M t) : likeL (L ++ M) (s ++ t) := by
  refine ⟨by rw [List.length_append, List.length_append, h1.1, h2.1], fun j h h' => ?_⟩
  by_cases hj : j < L.length
  · rw [List.getElem_append_left hj, List.getElem_append_left (by rw [← h1.1]; exact hj)]; exact h1.2 j hj _
  · rw [List.getElem_append_right (by omega), List.getElem_append_right (by rw [← h1.1]; omega)]
    have := h2.2 (j - L.length) (by rw [List.length_append] at h; omega) (by rw [List.length_append] at h'; have := h1.1; omega)
    simpa [h1.1] using this
/-- Some bytes are these tokens, wherever they stand. -/
def lexG (l : List Nat) (s : List Tn) : Prop := ∀ (p : ByteArray) (k : Nat), has p k l → ∃ L, lexTo p L k (k + l.length) ∧ likeL L s
theorem lexG_app {l1 l2 : List Nat} {s1 s2 : List Tn} (h1 : lexG l1 s1) (h2 : lexG l2 s2) : lexG (l1 ++ l2) (s1 ++ s2) := by
  intro p k h
  obtain ⟨L, a1, a2⟩ := h1 p k h.left
  obtain ⟨M, b1, b2⟩ := h2 p _ h.right
  exact ⟨L ++ M, by rw [List.length_append, ← Nat.add_assoc]; exact lexTo_app a1 b1, likeL_app a2 b2⟩
theorem lexG_one {l : List Nat} {c : Tn} (h0 : 0 < l.length) (h : ∀ (p : ByteArray) (k : Nat), has p k l → ∃ r, tk p k = some (r, k + l.length) ∧ ∀ i, sameT (tn_of (tka i r)) c) : lexG l [c] := by
  intro p k hh
  obtain ⟨r, h1, h2⟩ := h p k hh
  have hk : k < p.size := by have := hh 0 h0; rw [Nat.add_zero] at this; rw [← gb_lt_iff, this.1]; exact this.2
  exact ⟨[tka k r], ⟨r, _, h1, rfl, hk, rfl⟩, rfl, fun j h h' => by
    obtain rfl : j = 0 := by simp at h; omega
    exact h2 k⟩
theorem lexG_sign {c : Nat} {k : Int} (h : tkSign c = some (k, 0, 0)) : lexG [c] [tn0 k] :=
  lexG_one (by simp) fun p i hh => ⟨(k, (fun _ => false), 0, 0), by unfold tk; rw [hh.head.1, h]; rfl, fun i => ⟨rfl, congrArg Int.ofNat (wd_none 0), congrArg Int.ofNat (wd_none 1), congrArg Int.ofNat (wd_none 2), congrArg Int.ofNat (wd_none 3), rfl, rfl⟩⟩
theorem lexG_par {b : Bool} {l : List Nat} {s : List Tn} (h : lexG l s) : lexG (par b l) (grp b s) := by
  cases b
  · exact h
  · exact lexG_app (lexG_sign (c := 40) rfl) (lexG_app h (lexG_sign (c := 41) rfl))
theorem setL_pos (f : Nat → Bool) : 0 < (setL f).length := by
  unfold setL
  split
  · simp
  · split
    · split
      · simp
      · have := end_len ((bl f 256).headD 0); omega
    · simp
theorem lexG_txt : ∀ t, okT t → okL t → lexG (txt t) (eT t)
  | .leaf x, h, hw => by
    unfold txt eT
    by_cases c1 : x.k = 1
    · rw [if_pos c1, if_pos c1]
      refine lexG_one (setL_pos _) fun p k hh => ?_
      obtain ⟨F, hF, hx⟩ := tk_set (fOf x) hh
      refine ⟨_, hF, fun i => ?_⟩
      obtain ⟨e1, e2, e3, e4⟩ := fOf_wd hw
      have g : ∀ i, i < 4 → wd F i = wd (fOf x) i := fun i hi => wd_congr fun j hj => hx _ (by omega)
      exact ⟨rfl, by rw [show (tnS x).a = x.a from rfl, e1, ← g 0 (by decide)]; rfl, by rw [show (tnS x).b = x.b from rfl, e2, ← g 1 (by decide)]; rfl, by rw [show (tnS x).c = x.c from rfl, e3, ← g 2 (by decide)]; rfl, by rw [show (tnS x).d = x.d from rfl, e4, ← g 3 (by decide)]; rfl, rfl, rfl⟩
    · rw [if_neg c1, if_neg c1]
      by_cases c2 : x.k = 2
      · rw [if_pos c2, if_pos c2]; exact lexG_app (lexG_sign (c := 40) rfl) (lexG_sign (c := 41) rfl)
      · rw [if_neg c2, if_neg c2]
        by_cases c3 : x.k = 3
        · rw [if_pos c3, if_pos c3]; exact lexG_sign (c := 94) rfl
        · rw [if_neg c3, if_neg c3]; exact lexG_sign (c := 36) rfl
  | .cat a b, h, hw => lexG_app (lexG_par (lexG_txt a h.1 hw.1)) (lexG_par (lexG_txt b h.2 hw.2))
  | .or a b, h, hw => lexG_app (lexG_txt a h.1 hw.1) (lexG_app (lexG_sign (c := 124) rfl) (lexG_par (lexG_txt b h.2 hw.2)))
  | .rep a lo hi, h, hw => lexG_app (lexG_par (lexG_txt a h.1 hw)) (lexG_one (oft_len lo hi) fun _ _ hh => tk_oft h.2.1 h.2.2.1 h.2.2.2 hh)
end Go.Proofs.YtgjpmfdiidkdnaaGreatDoor
