/-
  The walk of the fifth reference's Pattern.
  The walk of the law ParsePatterns: it answers true, at any text.
  The leaves of a tree against a text's tokens, one by one: the plain mathematics.
  The walks of within and fieldsFit: are a node's Set, Lo and Hi such as its kind lets be?
-/
import Derived.Test.YtiahgcgpakgeeaaGreatDoorPk39
import Derived.Test.YtiahgcgpakgeeaaGreatDoorPk7
import Derived.Test.YtiahgcgpakgeeaaGreatDoorPk45
import Derived.Test.YtiahgcgpakgeeaaGreatDoorPk40
import Derived.Test.YtiahgcgpakgeeaaGreatDoorPk44
namespace Go.Proofs.YtiahgcgpakgeeaaGreatDoor
open Go.RowKit

set_option maxRecDepth 100000 in
set_option maxHeartbeats 2000000 in
theorem rpat_any (p : ByteArray) (w : World) : Calls Tryz.prog 7 #[.string p] w (ofPost (patF p) w) := by
  obtain ⟨R, hR⟩ : ∃ R, patF p = R := ⟨_, rfl⟩
  rw [hR]
  unfold patF at hR
  rcases Nat.lt_or_ge 200 p.size with h | h
  · rw [if_pos h] at hR
    have HE := Lib.hid hR.symm
    have HP := Lib.hid h
    clear hR h
    go_enter Tryz.func7, Tryz.ntmps7
    go_wp2_with fail
    refine (rtoks_long p HP.out _).mono ?_
    rintro e1 w1 ⟨rfl, rfl⟩
    go_wp2
    go_returns
    exact ofPost.bad _ _ HE.out (Below.refl _ _)
  · rw [if_neg (by omega)] at hR
    have HQ := Lib.hid (rtoks_of p h (fun k hk w => rtok_any p k h hk w) w)
    have HLN := Lib.hid (fun l n (h : toks p = (some l, n)) => toks_length h)
    obtain ⟨⟨r, k⟩, hr⟩ : ∃ r, toks p = r := ⟨_, rfl⟩
    rw [hr] at hR HQ HLN
    simp only at hR
    have HPS := Lib.hid h
    have hps : (p.size : Int) ≤ 200 := by omega
    clear hr h
    cases r with
    | none =>
      have HE := Lib.hid hR.symm
      clear hR HLN
      go_enter Tryz.func7, Tryz.ntmps7
      go_wp2_with fail
      refine HQ.out.mono ?_
      rintro e1 w1 ⟨-, h2, hb⟩
      obtain rfl := h2 k rfl
      have HB := Lib.hid hb
      clear h2 hb HQ
      go_wp2
      go_returns
      exact ofPost.bad _ _ HE.out HB.out
    | some l =>
      simp only at hR
      have hln : l.length ≤ 200 := by have := HLN.out l k rfl; have := HPS.out; omega
      have HR := Lib.hid hR
      clear hR HLN
      go_enter Tryz.func7, Tryz.ntmps7
      go_wp2_with fail
      refine HQ.out.mono ?_
      rintro e1 w1 ⟨h1, -, hb⟩
      obtain ⟨v, rfl, hown⟩ := h1 l k rfl
      have HB := Lib.hid hb
      have HC : Hid (Calls Tryz.prog 13 #[v, .int .i64 (p.size : Int)] w1 (ofPost (ofF (tof l) l.length p.size) w1)) := Lib.hid (by
        rcases toks_own hown with ⟨rfl, h0⟩ | ⟨g, cap, rfl, hc, hrd⟩
        · rw [h0]; exact rof_zero (tof l) none 0 p.size w1
        · exact rof_some (tof l) l.length g 0 cap p.size (by omega) w1 hrd)
      rw [HR.out] at HC
      clear h1 hown hb HQ HR hln
      go_wp2_with fail
      refine HC.out.mono ?_
      intro e2 w2 h2
      obtain ⟨v2, rfl⟩ := h2.form
      have H2 := Lib.hid h2
      clear h2 HC
      go_wp2
      go_returns
      exact H2.out.lift HB.out
end Go.Proofs.YtiahgcgpakgeeaaGreatDoor

namespace Go.Proofs.YtiahgcgpakgeeaaGreatDoor
open Go.RowKit

set_option maxRecDepth 100000 in
set_option maxHeartbeats 2000000 in
theorem pats_walk (p : ByteArray) (w : World) (hT : Okw w) :
    Calls Tryz.prog 3 #[.string p] w fun e w' => e = .returned (.bool true) ∧ Below w.heap.size w w' := by
  have HC := Lib.hid (fun w hT => cpat_any p w hT)
  have HR := Lib.hid (fun w => rpat_any p w)
  have HLN := Lib.hid (fun l (h : (patF p).1 = some l) => patF_len h)
  obtain ⟨⟨R0, ra, rb⟩, hRR⟩ : ∃ R, patF p = R := ⟨_, rfl⟩
  rw [hRR] at HLN HC HR
  have HT := Lib.hid hT
  clear hRR hT
  go_enter Tryz.func3, Tryz.ntmps3
  go_wp2_with fail
  refine (awake5_any _ HT.out).mono ?_
  rintro e0 w0 ⟨rfl, hb0⟩
  have HB0 := Lib.hid hb0
  have HT0 := Lib.hid (HT.out.to hb0)
  clear hb0 HT
  go_wp2_with fail
  refine (HC.out _ HT0.out).mono ?_
  intro e1 w1 h1
  obtain ⟨v1, rfl⟩ := h1.form
  have HB1 := Lib.hid (HB0.out.trans (h1.2.2.mono HB0.out.size))
  have H1 := Lib.hid h1
  clear h1 HC HB0 HT0
  simp only
  go_wp2_with fail
  refine (HR.out _).mono ?_
  intro e2 w2 h2
  obtain ⟨v2, rfl⟩ := h2.form
  have HB2 := Lib.hid (HB1.out.trans (h2.2.2.mono HB1.out.size))
  obtain ⟨⟨q, n, c, q', n', c', rfl, rfl⟩, hs⟩ := same_of HLN.out H1.out h2
  have HS := Lib.hid hs
  clear h2 hs HB1 HR H1
  simp only
  go_wp2_with fail
  refine HS.out.mono ?_
  rintro e3 w3 ⟨rfl, z, rfl⟩
  clear HS HLN
  go_wp2
  go_ret
  exact ⟨rfl, below_drewN _ HB2.out⟩
end Go.Proofs.YtiahgcgpakgeeaaGreatDoor

namespace Go.Proofs.YtiahgcgpakgeeaaGreatDoor

/-- What a token of a text holds beside what its kind has. -/
def normT (t : Tn) : Prop := (t.k = 1 ∧ t.lo = 0 ∧ t.hi = 0) ∨ (t.a = 0 ∧ t.b = 0 ∧ t.c = 0 ∧ t.d = 0 ∧ (t.k = 5 ∨ ((t.k = 2 ∨ t.k = 3 ∨ t.k = 4 ∨ t.k = 6 ∨ t.k = 7) ∧ t.lo = 0 ∧ t.hi = 0)))
theorem wd_none (i : Nat) : wd (fun _ => false) i = 0 := word_none _ _ fun _ _ => rfl
theorem sign_norm {c : Nat} {k lo hi : Int} (h : tkSign c = some (k, lo, hi)) : k = 5 ∨ ((k = 2 ∨ k = 3 ∨ k = 4 ∨ k = 6 ∨ k = 7) ∧ lo = 0 ∧ hi = 0) := by
  unfold tkSign at h
  repeat' split at h
  all_goals first | (simp only [Option.some.injEq, Prod.mk.injEq] at h; obtain ⟨rfl, rfl, rfl⟩ := h; simp) | cases h
theorem tk_norm {p : ByteArray} {i k n : Nat} {r : Tk} (h : tk p k = some (r, n)) : normT (tn_of (tka i r)) := by
  unfold tk at h
  cases hs : tkSign (gb p k) with
  | some x =>
    obtain ⟨a, lo, hi⟩ := x
    rw [hs] at h
    simp only [Option.some.injEq, Prod.mk.injEq] at h
    obtain ⟨rfl, -⟩ := h
    exact .inr ⟨by show ((wd (fun _ => false) 0 : Nat) : Int) = 0; rw [wd_none] <;> rfl, by show ((wd (fun _ => false) 1 : Nat) : Int) = 0; rw [wd_none] <;> rfl, by show ((wd (fun _ => false) 2 : Nat) : Int) = 0; rw [wd_none] <;> rfl, by show ((wd (fun _ => false) 3 : Nat) : Int) = 0; rw [wd_none] <;> rfl, sign_norm hs⟩
  | none =>
    rw [hs] at h
    simp only at h
    by_cases c1 : gb p k = 123
    · rw [if_pos c1] at h
      split at h
      · cases h
      · simp only [Option.some.injEq, Prod.mk.injEq] at h
        obtain ⟨rfl, -⟩ := h
        exact .inr ⟨by show ((wd (fun _ => false) 0 : Nat) : Int) = 0; rw [wd_none] <;> rfl, by show ((wd (fun _ => false) 1 : Nat) : Int) = 0; rw [wd_none] <;> rfl, by show ((wd (fun _ => false) 2 : Nat) : Int) = 0; rw [wd_none] <;> rfl, by show ((wd (fun _ => false) 3 : Nat) : Int) = 0; rw [wd_none] <;> rfl, .inl rfl⟩
    · rw [if_neg c1] at h
      left
      repeat' split at h
      all_goals first
        | (cases h; done)
        | (simp only [Option.some.injEq, Prod.mk.injEq] at h; obtain ⟨rfl, -⟩ := h; exact ⟨rfl, rfl, rfl⟩)
        | (obtain ⟨x, hx, e⟩ := Option.map_eq_some_iff.1 h; simp only [Prod.mk.injEq] at e; obtain ⟨rfl, -⟩ := e; exact ⟨rfl, rfl, rfl⟩)
theorem tof_norm {p : ByteArray} {l : List Tka} {m : Nat} (h : toks p = (some l, m)) (j : Nat) (hj : j < l.length) : normT (tof l j) := by
  obtain ⟨k, n, r, e, ht, -⟩ := chain_at (toks_chain h).1 j hj
  rw [tof_get l j hj, e]
  exact tk_norm ht

/-- A node and the token that it is of. -/
def likeT (t : Tn) (x : Nd) : Prop := x.a = t.a ∧ x.b = t.b ∧ x.c = t.c ∧ x.d = t.d ∧ x.lo = t.lo ∧ x.hi = t.hi ∧ ((t.k = 1 ∧ x.k = 1) ∨ (t.k = 5 ∧ x.k = 7) ∨ (t.k = 6 ∧ x.k = 3) ∨ (t.k = 7 ∧ x.k = 4))
theorem leaf_like {t : Tn} (h : normT t) (hl : lfT t = true) : likeT t (leafOf t) := by
  have hk : ¬ (t.k = 2 ∨ t.k = 3 ∨ t.k = 4) := by
    rintro (h | h | h) <;> simp [lfT, h] at hl
  rcases h with ⟨h1, h2, h3⟩ | ⟨a0, b0, c0, d0, h5 | ⟨h6, h7, h8⟩⟩
  · unfold leafOf; rw [if_pos h1]; exact ⟨rfl, rfl, rfl, rfl, h2.symm, h3.symm, .inl ⟨h1, rfl⟩⟩
  · unfold leafOf; rw [if_neg (by omega), if_neg (by omega), if_neg (by omega)]; exact ⟨a0.symm, b0.symm, c0.symm, d0.symm, rfl, rfl, .inr (.inl ⟨h5, rfl⟩)⟩
  · by_cases h9 : t.k = 6
    · unfold leafOf; rw [if_neg (by omega), if_pos h9]; exact ⟨a0.symm, b0.symm, c0.symm, d0.symm, h7.symm, h8.symm, .inr (.inr (.inl ⟨h9, rfl⟩))⟩
    · have h10 : t.k = 7 := by omega
      unfold leafOf; rw [if_neg (by omega), if_neg h9, if_pos h10]; exact ⟨a0.symm, b0.symm, c0.symm, d0.symm, h7.symm, h8.symm, .inr (.inr (.inr ⟨h10, rfl⟩))⟩

/-- How far both have come: the leaves from node i on are the tokens' from k on. -/
def inT (l : List Nd) (T : Nat → Tn) (n i k : Nat) : Prop := i ≤ l.length ∧ k ≤ n ∧ leaves (l.drop i) = tl T k n
theorem tl_skip {T : Nat → Tn} {k n : Nat} (h : k < n) (hl : lfT (T k) = false) : tl T k n = tl T (k + 1) n := by
  rw [tl_split T (show k ≤ k + 1 by omega) (show k + 1 ≤ n by omega), tl_one, if_neg (by simp [hl])]; rfl
theorem tl_take {T : Nat → Tn} {k n : Nat} (h : k < n) (hl : lfT (T k) = true) : tl T k n = leafOf (T k) :: tl T (k + 1) n := by
  rw [tl_split T (show k ≤ k + 1 by omega) (show k + 1 ≤ n by omega), tl_one, if_pos hl]; rfl
theorem inT.skip {l : List Nd} {T : Nat → Tn} {n i k : Nat} (h : inT l T n i k) (hk : k < n) (hl : lfT (T k) = false) : inT l T n i (k + 1) := ⟨h.1, hk, by rw [h.2.2, tl_skip hk hl]⟩
theorem drop_get {l : List Nd} {i : Nat} (h : i < l.length) : l.drop i = nfn l i :: l.drop (i + 1) := by
  rw [List.drop_eq_getElem_cons h, nfn, List.getD_eq_getElem?_getD, List.getElem?_eq_getElem h]; rfl
theorem inT.pass {l : List Nd} {T : Nat → Tn} {n i k : Nat} (h : inT l T n i k) (hi : i < l.length) (hl : lfN (nfn l i) = false) : inT l T n (i + 1) k := by
  refine ⟨hi, h.2.1, ?_⟩
  rw [← h.2.2, drop_get hi]
  simp [leaves, hl]
/-- At a leaf, where the next token makes one, or there is none: there is one, and it makes this leaf. -/
theorem inT.meet {l : List Nd} {T : Nat → Tn} {n i k : Nat} (h : inT l T n i k) (hN : ∀ j, j < n → normT (T j)) (hi : i < l.length) (hl : lfN (nfn l i) = true) (he : k < n → lfT (T k) = true) :
    k < n ∧ likeT (T k) (nfn l i) ∧ inT l T n (i + 1) (k + 1) := by
  obtain ⟨h1, h2, h3⟩ := h
  rw [drop_get hi] at h3
  have h4 : leaves (nfn l i :: l.drop (i + 1)) = nfn l i :: leaves (l.drop (i + 1)) := by simp [leaves, hl]
  rw [h4] at h3
  have hk : k < n := by
    by_cases hk : k < n
    · exact hk
    · have : k = n := by omega
      rw [this, tl_same] at h3
      cases h3
  rw [tl_take hk (he hk)] at h3
  injection h3 with e1 e2
  exact ⟨hk, by rw [e1]; exact leaf_like (hN k hk) (he hk), hi, hk, e2⟩
theorem inT.last {l : List Nd} {T : Nat → Tn} {n k : Nat} (h : inT l T n l.length k) (he : k < n → lfT (T k) = true) : k = n := by
  obtain ⟨h1, h2, h3⟩ := h
  by_cases hk : k < n
  · rw [tl_take hk (he hk)] at h3
    simp [leaves] at h3
  · omega
end Go.Proofs.YtiahgcgpakgeeaaGreatDoor

namespace Go.Proofs.YtiahgcgpakgeeaaGreatDoor
open Go.RowKit

/-- A node as a value. -/
@[reducible] def nv (x : Nd) : Value := .agg #[.int .i64 x.k, .int .u64 x.a, .int .u64 x.b, .int .u64 x.c, .int .u64 x.d, .int .i64 x.lo, .int .i64 x.hi]
theorem set_eq (a b c d : Int) (r : Bool) (h : (a == 0 && b == 0 && c == 0 && d == 0) = r) : ∀ w : World, (Op.equalIn 10000 36 (.agg #[.int .u64 a, .int .u64 b, .int .u64 c, .int .u64 d]) (.agg #[.int .u64 0, .int .u64 0, .int .u64 0, .int .u64 0])).run Tryz.prog w = .ok r w := fun w => by
  rw [← h]; exact eq_set_any 9998 a b c d 0 0 0 0 w

end Go.Proofs.YtiahgcgpakgeeaaGreatDoor
