/-
  Parts in memory: a struct that names five rows, and the rows that two of these name, each in a block of its own.
  The walk of the parts' wait.
  A bool more in a list, as a step of a region that draws its order.
  The walk of the parts' add.
-/
import Derived.Test.YtnoaejpabfnfpaaPk15
import Derived.Test.YtnoaejpabfnfpaaPk21
import Derived.Test.YtnoaejpabfnfpaaPk10
import Derived.BigQuiet
import Derived.Deep.QuietTactic
import Derived.Test.YtnoaejpabfnfpaaPk4
import Derived.Test.YtnoaejpabfnfpaaPk9
namespace Go.Proofs.Ytnoaejpabfnfpaa
open Go.RowKit

/-- The struct. -/
def isPs (w : World) (h : Nat) (U : Nat → Value) : Prop := w.heap[h]? = some (.cells #[U 0, U 1, U 2, U 3, U 4] 49 (0, 0))
section
variable {w w' : World} {h : Nat} {U : Nat → Value}
theorem isPs.lt (H : isPs w h U) : h < w.heap.size := lt_of_block H
theorem isPs.cells (H : isPs w h U) : w.cell? ⟨h, 0, none⟩ = some (U 0) ∧ w.cell? ⟨h, 1, none⟩ = some (U 1) ∧ w.cell? ⟨h, 2, none⟩ = some (U 2) ∧ w.cell? ⟨h, 3, none⟩ = some (U 3) ∧ w.cell? ⟨h, 4, none⟩ = some (U 4) := by
  unfold isPs at H
  refine ⟨?_, ?_, ?_, ?_, ?_⟩ <;> simp [World.cell?, H]
theorem isPs.free (H : isPs w h U) (j : Nat) : w.frozen? ⟨h, j, none⟩ = false := by
  unfold isPs at H
  simp [World.frozen?, H]
theorem isPs.grown {r : Option Nat} (H : isPs w h U) (hg : w.grownBy w' r) (hr : some h ≠ r) : isPs w' h U := (hg.block h H.lt hr).trans H
theorem isPs.below (H : isPs w h U) (hb : Below w.heap.size w w') : isPs w' h U := (hb.block h H.lt).trans H
theorem isPs.put (H : isPs w h U) (i : Nat) (hi : i < 5) (u : Value) : isPs (w.setCell ⟨h, i, none⟩ u) h (upd U i u) := by
  have h1 := heap_setCell_same w h i _ _ u H
  unfold isPs
  rw [h1]
  match i, hi with
  | 0, _ => simp [upd]
  | 1, _ => simp [upd]
  | 2, _ => simp [upd]
  | 3, _ => simp [upd]
  | 4, _ => simp [upd]
end
/-- The rows' numbers: the states of block k; those of them that were told. -/
def rS (k : Nat) : Nat := 5 + 2 * k
def rT (k : Nat) : Nat := 6 + 2 * k
def eT13 (r : Nat) : Nat := if r = 1 ∨ r = 2 then 22 else if r = 3 then 4 else 3
/-- Rows, each in a block of its own, none of them in X; U is what the struct names; what is in X is kept since w0. -/
structure Fm (X : Nat → Prop) (w0 w : World) (h : Nat) (U V : Nat → Value) (L : Nat → List Value) : Prop where
  st : isPs w h U
  row : ∀ r, w.ownsRow 0 (eT13 r) 1 (V r) (L r).length (L r)
  ap : ∀ r r', r ≠ r' → (V r).ownBlock = none ∨ (V r).ownBlock ≠ (V r').ownBlock
  nh : ∀ r, (V r).ownBlock ≠ some h
  nX : ∀ r b, (V r).ownBlock = some b → ¬ X b
  hX : ¬ X h
  Xl : ∀ k, X k → k < w.heap.size
  kp : kpX X w0 w
section
variable {X : Nat → Prop} {w0 w w' : World} {h : Nat} {U V : Nat → Value} {L : Nat → List Value}
theorem Fm.anew (H : Fm X w0 w h U V L) : Fm X w w h U V L := ⟨H.st, H.row, H.ap, H.nh, H.nX, H.hX, H.Xl, kpX.refl _ _⟩
theorem Fm.back {w1 : World} (H : Fm X w0 w h U V L) (hk : kpX X w1 w0) : Fm X w1 w h U V L := ⟨H.st, H.row, H.ap, H.nh, H.nX, H.hX, H.Xl, hk.trans H.kp⟩
theorem Fm.lt (H : Fm X w0 w h U V L) (r b : Nat) (e : (V r).ownBlock = some b) : b < w.heap.size := (World.ownsRow.lt (H.row r) b e).2
theorem Fm.below (H : Fm X w0 w h U V L) (hb : Below w.heap.size w w') : Fm X w0 w' h U V L :=
  ⟨H.st.below hb, fun r => owns_below (H.row r) hb, H.ap, H.nh, H.nX, H.hX, fun k hk => Nat.lt_of_lt_of_le (H.Xl k hk) hb.size, H.kp.trans (kpX.of_below hb)⟩
/-- A row has grown, or was written into. -/
theorem Fm.grow (H : Fm X w0 w h U V L) (r : Nat) {v : Value} {l : List Value} (hg : w.grownBy w' (V r).ownBlock) (hr : w'.ownsRow 0 (eT13 r) 1 v l.length l) (hat : v.ownBlock = (V r).ownBlock ∨ v.ownBlock = some w.heap.size) : Fm X w0 w' h U (upd V r v) (upd L r l) := by
  have hv : ∀ r', r' ≠ r → (V r').ownBlock = none ∨ (V r').ownBlock ≠ v.ownBlock := fun r' hne => by
    rcases hat with e | e
    · rw [e]; exact H.ap r' r hne
    · rw [e]
      cases hv : (V r').ownBlock with
      | none => exact .inl rfl
      | some b =>
        right
        have := H.lt r' b hv
        intro e2
        have : b = w.heap.size := by simpa using e2
        omega
  refine ⟨H.st.grown hg (Ne.symm (H.nh r)), fun r' => ?_, fun a b hne => ?_, fun r' => ?_, fun r' b e => ?_, H.hX, fun k hk => Nat.lt_of_lt_of_le (H.Xl k hk) hg.size, H.kp.trans (kpX.of_grown hg fun k e => H.nX r k e)⟩
  · by_cases e : r' = r
    · subst e; rw [upd_at, upd_at]; exact hr
    · rw [upd_ne _ _ e, upd_ne _ _ e]
      exact World.ownsRow.kept (H.row r') hg (H.ap r' r e)
  · by_cases ea : a = r
    · by_cases eb : b = r
      · omega
      · rw [upd_eq _ _ ea, upd_ne _ _ eb]
        rcases hv b eb with e | e
        · rw [e]
          cases v.ownBlock with
          | none => exact .inl rfl
          | some _ => exact .inr (by simp)
        · exact .inr (Ne.symm e)
    · by_cases eb : b = r
      · rw [upd_ne _ _ ea, upd_eq _ _ eb]; exact hv a ea
      · rw [upd_ne _ _ ea, upd_ne _ _ eb]; exact H.ap a b hne
  · by_cases e : r' = r
    · rw [upd_eq _ _ e]
      rcases hat with e2 | e2
      · rw [e2]; exact H.nh r
      · rw [e2]
        have := H.st.lt
        intro e3
        have : w.heap.size = h := by simpa using e3
        omega
    · rw [upd_ne _ _ e]; exact H.nh r'
  · by_cases e1 : r' = r
    · rw [upd_eq _ _ e1] at e
      rcases hat with e2 | e2
      · rw [e2] at e; exact H.nX r b e
      · rw [e2] at e
        have : w.heap.size = b := by simpa using e
        exact fun hx => by have := H.Xl b hx; omega
    · rw [upd_ne _ _ e1] at e; exact H.nX r' b e
theorem upd_same {α : Type} (f : Nat → α) (j : Nat) : upd f j (f j) = f := by
  funext y
  unfold upd
  split
  · rename_i e; rw [e]
  · rfl
theorem Fm.stored (H : Fm X w0 w h U V L) (r : Nat) {g c : Nat} (hV : V r = .slice (some ⟨g, 0, none⟩) (L r).length c) (j : Nat) (u : Value) : Fm X w0 (w.setCell ⟨g, j, none⟩ u) h U V (upd L r ((L r).set j u)) := by
  have hr := H.row r
  rw [hV] at hr
  have hs := (World.ownsRow.stored hr j u).1
  have hb : (V r).ownBlock = some g := by rw [hV]; rfl
  have := H.grow r (v := V r) (l := (L r).set j u) (hb ▸ grown_setCell w g j u) (by rw [List.length_set, hV]; exact hs) (.inl rfl)
  rw [upd_same] at this
  exact this
theorem Fm.put (H : Fm X w0 w h U V L) (i : Nat) (hi : i < 5) (u : Value) : Fm X w0 (w.setCell ⟨h, i, none⟩ u) h (upd U i u) V L := by
  have hg := grown_setCell w h i u
  exact ⟨H.st.put i hi u, fun r => World.ownsRow.kept (H.row r) hg (.inr (H.nh r)), H.ap, H.nh, H.nX, H.hX, fun k hk => Nat.lt_of_lt_of_le (H.Xl k hk) hg.size, H.kp.trans (kpX.of_grown hg fun k e => by cases e; exact H.hX)⟩
/-- The beginning of a row, in the same block. -/
theorem Fm.short (H : Fm X w0 w h U V L) (r : Nat) {p : Option Addr} {n c : Nat} (hV : V r = .slice p n c) (m : Nat) (hm : m ≤ n) : Fm X w0 w h U (upd V r (.slice p m c)) (upd L r ((L r).take m)) := by
  have hr := H.row r
  have hl : (L r).length = n := by
    rw [hV] at hr
    rcases hr.2 with ⟨e, e2⟩ | ⟨g, cap, cur, e, _⟩
    · cases e; exact e2
    · cases e; rfl
  refine H.grow r (w' := w) (World.grownBy.refl w _) ?_ (.inl (by rw [hV]; cases p <;> rfl))
  rw [hV, hl] at hr
  have hlt : ((L r).take m).length = m := by rw [List.length_take]; omega
  refine ⟨by omega, ?_⟩
  rw [hlt]
  rcases hr.2 with ⟨e, e2⟩ | ⟨g, cap, cur, e, h1, h2, h3, h4, h5, h6⟩
  · cases e
    have : m = 0 := by omega
    subst this
    exact .inl ⟨rfl, rfl⟩
  · cases e
    refine .inr ⟨g, c, cur, rfl, h1, h2, by omega, h4, h5, ?_⟩
    rw [← h6, List.take_take]
    congr 1
    omega
/-- A row that a call has made since the world w takes the place of another one. -/
theorem Fm.new (H : Fm X w0 w h U V L) (r : Nat) {v : Value} {l : List Value} (hb : Below w.heap.size w w') (hr : w'.ownsRow 0 (eT13 r) 1 v l.length l) (hf : ∀ b, v.ownBlock = some b → w.heap.size ≤ b) : Fm X w0 w' h U (upd V r v) (upd L r l) := by
  have H' := H.below hb
  have hv : ∀ r', (V r').ownBlock = none ∨ (V r').ownBlock ≠ v.ownBlock := fun r' => by
    cases e : (V r').ownBlock with
    | none => exact .inl rfl
    | some b =>
      right
      intro e2
      have := H.lt r' b e
      have := hf b e2.symm
      omega
  refine ⟨H'.st, fun r' => ?_, fun a b hne => ?_, fun r' => ?_, fun r' b e => ?_, H.hX, H'.Xl, H'.kp⟩
  · by_cases e : r' = r
    · subst e; rw [upd_at, upd_at]; exact hr
    · rw [upd_ne _ _ e, upd_ne _ _ e]; exact H'.row r'
  · by_cases ea : a = r
    · by_cases eb : b = r
      · omega
      · rw [upd_eq _ _ ea, upd_ne _ _ eb]
        rcases hv b with e | e
        · rw [e]
          cases v.ownBlock with
          | none => exact .inl rfl
          | some _ => exact .inr (by simp)
        · exact .inr (Ne.symm e)
    · by_cases eb : b = r
      · rw [upd_ne _ _ ea, upd_eq _ _ eb]; exact hv a
      · rw [upd_ne _ _ ea, upd_ne _ _ eb]; exact H.ap a b hne
  · by_cases e : r' = r
    · rw [upd_eq _ _ e]
      intro e2
      have := hf h e2
      have := H.st.lt
      omega
    · rw [upd_ne _ _ e]; exact H.nh r'
  · by_cases e1 : r' = r
    · rw [upd_eq _ _ e1] at e
      have := hf b e
      exact fun hx => by have := H.Xl b hx; omega
    · rw [upd_ne _ _ e1] at e; exact H.nX r' b e
theorem Fm.val (H : Fm X w0 w h U V L) (r : Nat) : ∃ p c, V r = .slice p (L r).length c ∧ (0 < (L r).length → ∃ g, p = some ⟨g, 0, none⟩) := by
  rcases (H.row r).2 with ⟨e, e2⟩ | ⟨g, cap, cur, e, _⟩
  · exact ⟨none, 0, by rw [e, e2], fun h0 => by omega⟩
  · exact ⟨_, cap, e, fun _ => ⟨g, rfl⟩⟩
theorem Fm.cell (H : Fm X w0 w h U V L) (r : Nat) {g m c : Nat} (hV : V r = .slice (some ⟨g, 0, none⟩) m c) {j : Nat} {u : Value} (hj : (L r)[j]? = some u) : w.cell? ⟨g, j, none⟩ = some u ∧ w.frozen? ⟨g, j, none⟩ = false ∧ g < w.heap.size ∧ j < m := by
  have hr := H.row r
  have hl : (L r).length = m := by
    rw [hV] at hr
    rcases hr.2 with ⟨e, e2⟩ | ⟨g, cap, cur, e, _⟩
    · cases e
    · cases e; rfl
  rw [hV, hl] at hr
  have hjl : j < (L r).length := by
    rcases Nat.lt_or_ge j (L r).length with h | h
    · exact h
    · rw [List.getElem?_eq_none h] at hj; cases hj
  exact ⟨(World.ownsRow.cellAt hr j (by omega)).trans hj, World.ownsRow.frozenAt hr j, (World.ownsRow.lt hr g rfl).2, by omega⟩
end
/-- What stands in the rows of parts. -/
def lP (n : Nat) (V : Nat → Value) (s : Ps) (r : Nat) : List Value :=
  if r = 0 then fnv (fun i => (s.blk i : Int)) n
  else if r = 1 then vls (fun k => V (rS k)) s.nb
  else if r = 2 then vls (fun k => V (rT k)) s.nb
  else if r = 3 then bls s.W s.nb
  else if r = 4 then spl9 s.Q
  else if r % 2 = 1 then spl9 (s.S ((r - 5) / 2)) else spl9 (s.T ((r - 6) / 2))
theorem lP0 (n : Nat) (V : Nat → Value) (s : Ps) : lP n V s 0 = fnv (fun i => (s.blk i : Int)) n := rfl
theorem lP1 (n : Nat) (V : Nat → Value) (s : Ps) : lP n V s 1 = vls (fun k => V (rS k)) s.nb := rfl
theorem lP2 (n : Nat) (V : Nat → Value) (s : Ps) : lP n V s 2 = vls (fun k => V (rT k)) s.nb := rfl
theorem lP3 (n : Nat) (V : Nat → Value) (s : Ps) : lP n V s 3 = bls s.W s.nb := rfl
theorem lP4 (n : Nat) (V : Nat → Value) (s : Ps) : lP n V s 4 = spl9 s.Q := rfl
theorem lPS (n : Nat) (V : Nat → Value) (s : Ps) (k : Nat) : lP n V s (rS k) = spl9 (s.S k) := by
  unfold lP rS
  rw [if_neg (by omega), if_neg (by omega), if_neg (by omega), if_neg (by omega), if_neg (by omega), if_pos (by omega), show (5 + 2 * k - 5) / 2 = k by omega]
theorem lPT (n : Nat) (V : Nat → Value) (s : Ps) (k : Nat) : lP n V s (rT k) = spl9 (s.T k) := by
  unfold lP rT
  rw [if_neg (by omega), if_neg (by omega), if_neg (by omega), if_neg (by omega), if_neg (by omega), if_neg (by omega), show (6 + 2 * k - 6) / 2 = k by omega]
/-- Each row is one of these. -/
theorem row_is (r : Nat) : r = 0 ∨ r = 1 ∨ r = 2 ∨ r = 3 ∨ r = 4 ∨ (∃ k, r = rS k) ∨ ∃ k, r = rT k := by
  unfold rS rT
  by_cases h : r < 5
  · omega
  · by_cases e : r % 2 = 1
    · exact .inr (.inr (.inr (.inr (.inr (.inl ⟨(r - 5) / 2, by omega⟩)))))
    · exact .inr (.inr (.inr (.inr (.inr (.inr ⟨(r - 6) / 2, by omega⟩)))))
theorem fn_ext {f g : Nat → List Value} (h0 : f 0 = g 0) (h1 : f 1 = g 1) (h2 : f 2 = g 2) (h3 : f 3 = g 3) (h4 : f 4 = g 4) (hS : ∀ k, f (rS k) = g (rS k)) (hT : ∀ k, f (rT k) = g (rT k)) : f = g := by
  funext r
  rcases row_is r with rfl | rfl | rfl | rfl | rfl | ⟨k, rfl⟩ | ⟨k, rfl⟩
  · exact h0
  · exact h1
  · exact h2
  · exact h3
  · exact h4
  · exact hS k
  · exact hT k
theorem fnv_len13 (f : Nat → Int) (n : Nat) : (fnv f n).length = n := by simp [fnv]
theorem vls_len (V : Nat → Value) (n : Nat) : (vls V n).length = n := by simp [vls]
/-- Parts in memory. -/
def PtM (X : Nat → Prop) (w0 w : World) (h n : Nat) (V : Nat → Value) (s : Ps) : Prop := Fm X w0 w h V V (lP n V s)
section
variable {X : Nat → Prop} {w0 w w' : World} {h n : Nat} {V : Nat → Value} {s : Ps}
theorem PtM.v0 (H : PtM X w0 w h n V s) : ∃ p c, V 0 = .slice p n c ∧ (0 < n → ∃ g, p = some ⟨g, 0, none⟩) := by
  have := Fm.val H 0
  rw [lP0, fnv_len13] at this; exact this
theorem PtM.v1 (H : PtM X w0 w h n V s) : ∃ p c, V 1 = .slice p s.nb c ∧ (0 < s.nb → ∃ g, p = some ⟨g, 0, none⟩) := by
  have := Fm.val H 1
  rw [lP1, vls_len] at this; exact this
theorem PtM.v2 (H : PtM X w0 w h n V s) : ∃ p c, V 2 = .slice p s.nb c ∧ (0 < s.nb → ∃ g, p = some ⟨g, 0, none⟩) := by
  have := Fm.val H 2
  rw [lP2, vls_len] at this; exact this
theorem PtM.v3 (H : PtM X w0 w h n V s) : ∃ p c, V 3 = .slice p s.nb c ∧ (0 < s.nb → ∃ g, p = some ⟨g, 0, none⟩) := by
  have := Fm.val H 3
  rw [lP3, bls_len] at this; exact this
theorem PtM.v4 (H : PtM X w0 w h n V s) : ∃ p c, V 4 = .slice p s.Q.length c ∧ (0 < s.Q.length → ∃ g, p = some ⟨g, 0, none⟩) := by
  have := Fm.val H 4
  rw [lP4, spl9_len] at this; exact this
theorem PtM.vS (H : PtM X w0 w h n V s) (k : Nat) : ∃ p c, V (rS k) = .slice p (s.S k).length c ∧ (0 < (s.S k).length → ∃ g, p = some ⟨g, 0, none⟩) := by
  have := Fm.val H (rS k)
  rw [lPS, spl9_len] at this; exact this
theorem PtM.vT (H : PtM X w0 w h n V s) (k : Nat) : ∃ p c, V (rT k) = .slice p (s.T k).length c ∧ (0 < (s.T k).length → ∃ g, p = some ⟨g, 0, none⟩) := by
  have := Fm.val H (rT k)
  rw [lPT, spl9_len] at this; exact this
end
end Go.Proofs.Ytnoaejpabfnfpaa

namespace Go.Proofs.Ytnoaejpabfnfpaa
open Go.RowKit

section
variable {X : Nat → Prop} {w0 w w' : World} {h n : Nat} {U V : Nat → Value} {L : Nat → List Value} {s : Ps}
theorem Fm.sp (H : Fm X w0 w h U V L) (r : Nat) (A : List Nat) (he : eT13 r = 3) (hl : L r = spl9 A) : spO w 0 (V r) A := by
  have := H.row r
  rw [he, hl, spl9_len] at this
  exact this
theorem Fm.growI (H : Fm X w0 w h U V L) (r : Nat) (A : List Nat) {v : Value} (he : eT13 r = 3) (hg : w.grownBy w' (V r).ownBlock) (ho : spO w' 0 v A) (hat : v.ownBlock = (V r).ownBlock ∨ v.ownBlock = some w.heap.size) : Fm X w0 w' h U (upd V r v) (upd L r (spl9 A)) :=
  H.grow r hg (by rw [he, spl9_len]; exact ho) hat
theorem eT13S (k : Nat) : eT13 (rS k) = 3 := by
  unfold eT13 rS
  rw [if_neg (by omega), if_neg (by omega)]
theorem eT13T (k : Nat) : eT13 (rT k) = 3 := by
  unfold eT13 rT
  rw [if_neg (by omega), if_neg (by omega)]
theorem rS_ne (k : Nat) {j : Nat} (h : j < 5) : rS k ≠ j := by unfold rS; omega
theorem rT_ne (k : Nat) {j : Nat} (h : j < 5) : rT k ≠ j := by unfold rT; omega
theorem rS_rT (k j : Nat) : rS k ≠ rT j := by unfold rS rT; omega
theorem rS_inj {k j : Nat} (h : k ≠ j) : rS k ≠ rS j := by unfold rS; omega
theorem rT_inj {k j : Nat} (h : k ≠ j) : rT k ≠ rT j := by unfold rT; omega
theorem vls_ext {V V' : Nat → Value} {m : Nat} (h : ∀ j, j < m → V j = V' j) : vls V m = vls V' m := by
  unfold vls
  exact List.map_congr_left fun i hi => h i (List.mem_range.1 hi)
theorem lP_wait (n : Nat) (V : Nat → Value) (s : Ps) (b : Nat) (v : Value) : upd (upd (lP n V s) 3 ((lP n V s 3).set b (.bool true))) 4 (spl9 (s.Q ++ [b])) = lP n (upd V 4 v) (waitP s b) := by
  refine fn_ext rfl ?_ ?_ ?_ rfl (fun k => ?_) fun k => ?_
  · exact vls_ext fun j _ => (upd_ne _ _ (rS_ne j (by decide))).symm
  · exact vls_ext fun j _ => (upd_ne _ _ (rT_ne j (by decide))).symm
  · exact bls_set s.W s.nb b true
  · rw [upd_ne _ _ (rS_ne k (by decide)), upd_ne _ _ (rS_ne k (by decide)), lPS, lPS]; rfl
  · rw [upd_ne _ _ (rT_ne k (by decide)), upd_ne _ _ (rT_ne k (by decide)), lPT, lPT]; rfl
end

set_option maxRecDepth 100000 in
set_option maxHeartbeats 4000000 in
theorem wait13 (X : Nat → Prop) (h n b : Nat) (V : Nat → Value) (s : Ps) (w0 w : World) (H : PtM X w0 w h n V s) (hb : b < s.nb) (hnb : s.nb ≤ 2000) (hq : s.Q.length ≤ 2000) :
    Calls Try.prog 51 #[.pointer (some ⟨h, 0, none⟩), .int .i64 (b : Int)] w fun e w' => e = .returned (.tuple #[]) ∧ ∃ V', PtM X w0 w' h n V' (waitP s b) ∧ ∀ r, r ≠ 4 → V' r = V r := by
  obtain ⟨p3, c3, e3, g3⟩ := H.v3
  obtain ⟨p4, c4, e4, -⟩ := H.v4
  obtain ⟨g, rfl⟩ := g3 (by omega)
  obtain ⟨k1, k2, k3, -⟩ := Fm.cell H 3 e3 (j := b) (u := .bool (s.W b)) (by rw [lP3]; exact bls_at _ _ _ hb)
  obtain ⟨-, -, -, y3, -⟩ := H.st.cells
  rw [e3] at y3
  have H1 := Fm.stored H 3 (by rw [lP3, bls_len]; exact e3) b (.bool true)
  obtain ⟨W1, hW1⟩ : ∃ W1, w.setCell ⟨g, b, none⟩ (.bool true) = W1 := ⟨_, rfl⟩
  rw [hW1] at H1
  have HW1 := Lib.hid hW1
  have H2 := H1.below ((Below.refl _ _).alloc (Nat.le_refl _) (.cells #[.int .i64 (b : Int)] 3))
  have HXA := Lib.hid (H2.sp 4 s.Q rfl rfl)
  rw [e4] at HXA
  have HF2 := Lib.hid H2
  have HM : Hid (s.Q.length ≤ 1000000) := Lib.hid (by omega)
  have HQL := Lib.hid hq
  have HLP := Lib.hid (lP_wait n V s b)
  have HE4 := Lib.hid e4
  have b0 : (0 : Int) ≤ (b : Int) := by omega
  have b1 : (b : Int) < (s.nb : Int) := by omega
  have b2 : (s.nb : Int) ≤ 2000 := by omega
  obtain ⟨-, -, -, -, z4⟩ := H1.st.cells
  rw [e4] at z4
  obtain ⟨q, hqq⟩ : ∃ q, s.Q.length = q := ⟨_, rfl⟩
  rw [hqq] at z4 HXA HM HE4
  have HQ := Lib.hid hqq
  clear hW1 H1 H2 H e3 e4 hqq hq
  go_enter Try.func51, Try.ntmps51
  go_upto_region 1 with (fail)
  rw [HW1.out]
  clear y3 k1 k2 k3
  go_wp2_with (at_builtin; refine append_nx2 rfl _ _ rfl 0 _ s.Q rfl (HQ.out ▸ HXA.out) W1.heap.size b rfl (by simp) (HQ.out ▸ HM.out) (Nat.zero_le _) ?_; intro v' w3 hown hgrow hat; have HO := Lib.hid hown; have HG := Lib.hid hgrow; have HAT := Lib.hid hat; clear hown hgrow hat; refine Hid.out ?_)
  obtain ⟨p', c', rfl⟩ := spO_of HO.out
  have H3 := HF2.out.growI 4 (s.Q ++ [b]) (v := .slice p' (s.Q ++ [b]).length c') rfl (by rw [HE4.out]; exact HG.out) HO.out (by rw [HE4.out]; exact HAT.out)
  have H4 := Lib.hid (H3.put 4 (by decide) (.slice p' (s.Q ++ [b]).length c'))
  obtain ⟨-, -, -, -, d4⟩ := H3.st.cells
  have d5 := H3.st.free 4
  have d6 := H3.st.lt
  rw [HE4.out] at d4
  have e1 : (s.Q ++ [b]).length = s.Q.length + 1 := by simp
  have HFIN : Hid (∃ V', PtM X w0 (w3.setCell ⟨h, 4, none⟩ (.slice p' (s.Q.length + 1) c')) h n V' (waitP s b) ∧ ∀ r, r ≠ 4 → V' r = V r) := Lib.hid ⟨upd V 4 (.slice p' (s.Q ++ [b]).length c'), by
    rw [← e1]
    unfold PtM
    rw [← HLP.out]
    exact H4.out, fun r hr => upd_ne _ _ hr⟩
  clear H3 H4 HF2 HO HG HAT HXA z4 e1
  refine Lib.hid ?_
  go_wp2_with fail
  refine bodyPost_end (results_none rfl _ _ _) rfl ?_
  exact ⟨rfl, HFIN.out⟩
end Go.Proofs.Ytnoaejpabfnfpaa

namespace Go.Proofs.Ytnoaejpabfnfpaa
open Go.RowKit

theorem bls_succ (T : Nat → Bool) (n : Nat) : bls T (n + 1) = bls T n ++ [.bool (T n)] := by simp [bls, List.range_succ]
theorem step_append_bl {w : World} {ops : Array Oper} {o : Oper} {a : Act} {K : Act → World → Prop} {Q : Exit → Act → World → Prop} {E : Prop} (hgd : o.guard = none) (s x : Operand)
    (ho : o.op = .call { callee := .builtin .append, args := #[s, x], argTypes := #[23, 23] }) (base : Nat) (v : Value) (T : Nat → Bool) (n : Nat) (hs : a.eval s = v)
    (hown : w.ownsRow base 4 1 v n (bls T n)) (g : Nat) (u : Bool) (hT : T n = u) (hx : a.eval x = .slice (some ⟨g, 0, none⟩) 1 1) (hcell : w.cell? ⟨g, 0, none⟩ = some (.bool u)) (hlen : n ≤ 100000) (hbase : base ≤ w.heap.size)
    (h : ∀ q' n' cap' w', n' = n + 1 → w'.ownsRow base 4 1 (.slice q' n' cap') (n + 1) (bls T (n + 1)) → w.grownBy w' v.ownBlock → K (a.put o.dst (.slice q' n' cap')) w') :
    if Region.wanted o (yielded ops a.tmps) = true then Oper.wp Try.prog o a w K Q else E := by
  have hw : Region.wanted o (yielded ops a.tmps) = true := by simp [Region.wanted, hgd]
  rw [if_pos hw]
  obtain ⟨i0, hi, hz0, hz1, hz2⟩ := info_parts infoBool9
  refine wp_append_own w s x 23 ho base 4 i0 (.bool false) 1 1 Try.underlying23 hi hz0 hz1 hz2 rfl (by decide) v n (bls T n) hs hown ⟨g, 0, none⟩ 1 1 [.bool u] hx rfl ?_ ?_ (by unfold maxLen; omega) (by omega) hbase ?_
  · intro j y hy
    match j, hy with
    | 0, hy => simp at hy; subst hy; simpa [Addr.add] using hcell
  · intro y hy
    have : y = .bool u := by simpa using hy
    subst this; rfl
  · intro v' w' h1 h2 _
    have h3 : w'.ownsRow base 4 1 v' (n + 1) (bls T (n + 1)) := by rw [bls_succ, hT]; exact h1
    obtain ⟨q', cap', rfl⟩ : ∃ q cap, v' = .slice q (n + 1) cap := by
      rcases id h3.2 with ⟨rfl, h0⟩ | ⟨g, cap, cur, rfl, _⟩
      · exact ⟨none, 0, by rw [h0]⟩
      · exact ⟨_, cap, rfl⟩
    exact h q' _ cap' w' rfl h3 h2
end Go.Proofs.Ytnoaejpabfnfpaa

namespace Go.Proofs.Ytnoaejpabfnfpaa
open Go.RowKit

theorem append_sl {w : World} {ops : Array Oper} {rest : List Oper} {o : Oper} {a : Act} {Q : Exit → Act → World → Prop} (hgd : o.guard = none) (s x : Operand)
    (ho : o.op = .call { callee := .builtin .append, args := #[s, x], argTypes := #[47, 47] }) (v : Value) (xs : List Value) (hs : a.eval s = v)
    (hown : w.ownsRow 0 22 1 v xs.length xs) (g : Nat) (u : Value) (hu : u.oneCell' = true) (hx : a.eval x = .slice (some ⟨g, 0, none⟩) 1 1)
    (hcell : w.cell? ⟨g, 0, none⟩ = some u) (hlen : xs.length ≤ 10000)
    (h : ∀ p' c' w', w'.ownsRow 0 22 1 (.slice p' (xs.length + 1) c') (xs ++ [u]).length (xs ++ [u]) → w.grownBy w' v.ownBlock → ((Value.slice p' (xs.length + 1) c').ownBlock = v.ownBlock ∨ (Value.slice p' (xs.length + 1) c').ownBlock = some w.heap.size) → wpList Try.prog ops Q rest (a.put o.dst (.slice p' (xs.length + 1) c')) w') : wpList Try.prog ops Q (o :: rest) a w := by
  obtain ⟨i0, hi, hz0, hz1, hz2⟩ := info_parts infoRow12
  refine Go.wpList_append_own_at w hgd s x 47 ho 0 22 i0 (.slice none 0 0) 1 24 Try.underlying47 hi hz0 hz1 hz2 rfl (by decide) v xs.length xs hs hown ⟨g, 0, none⟩ 1 1 [u] hx rfl ?_ ?_ (by unfold maxLen; omega) (by omega) (Nat.zero_le _) ?_
  · intro j y hy
    match j, hy with
    | 0, hy => simp at hy; subst hy; simpa [Addr.add] using hcell
  · intro y hy
    have : y = u := by simpa using hy
    subst this; exact hu
  · intro v' w' h1 h2 _ h3
    have e : (xs ++ [u]).length = xs.length + 1 := by simp
    rcases id h1.2 with ⟨_, h0⟩ | ⟨g, cap, cur, rfl, _⟩
    · omega
    · exact h _ _ w' (by rw [e]; exact h1) h2 h3
theorem append_bl {w : World} {ops : Array Oper} {rest : List Oper} {o : Oper} {a : Act} {Q : Exit → Act → World → Prop} (hgd : o.guard = none) (s x : Operand)
    (ho : o.op = .call { callee := .builtin .append, args := #[s, x], argTypes := #[23, 23] }) (v : Value) (xs : List Value) (hs : a.eval s = v)
    (hown : w.ownsRow 0 4 1 v xs.length xs) (g : Nat) (u : Bool) (hx : a.eval x = .slice (some ⟨g, 0, none⟩) 1 1)
    (hcell : w.cell? ⟨g, 0, none⟩ = some (.bool u)) (hlen : xs.length ≤ 10000)
    (h : ∀ p' c' w', w'.ownsRow 0 4 1 (.slice p' (xs.length + 1) c') (xs ++ [Value.bool u]).length (xs ++ [Value.bool u]) → w.grownBy w' v.ownBlock → ((Value.slice p' (xs.length + 1) c').ownBlock = v.ownBlock ∨ (Value.slice p' (xs.length + 1) c').ownBlock = some w.heap.size) → wpList Try.prog ops Q rest (a.put o.dst (.slice p' (xs.length + 1) c')) w') : wpList Try.prog ops Q (o :: rest) a w := by
  obtain ⟨i0, hi, hz0, hz1, hz2⟩ := info_parts infoBool9
  refine Go.wpList_append_own_at w hgd s x 23 ho 0 4 i0 (.bool false) 1 1 Try.underlying23 hi hz0 hz1 hz2 rfl (by decide) v xs.length xs hs hown ⟨g, 0, none⟩ 1 1 [.bool u] hx rfl ?_ ?_ (by unfold maxLen; omega) (by omega) (Nat.zero_le _) ?_
  · intro j y hy
    match j, hy with
    | 0, hy => simp at hy; subst hy; simpa [Addr.add] using hcell
  · intro y hy
    have : y = .bool u := by simpa using hy
    subst this; rfl
  · intro v' w' h1 h2 _ h3
    have e : (xs ++ [Value.bool u]).length = xs.length + 1 := by simp
    rcases id h1.2 with ⟨_, h0⟩ | ⟨g, cap, cur, rfl, _⟩
    · omega
    · exact h _ _ w' (by rw [e]; exact h1) h2 h3
theorem Fm.useU {X : Nat → Prop} {w0 w : World} {h : Nat} {U U' V : Nat → Value} {L : Nat → List Value} (H : Fm X w0 w h U V L) (hU : ∀ i, i < 5 → U i = U' i) : Fm X w0 w h U' V L := by
  refine ⟨?_, H.row, H.ap, H.nh, H.nX, H.hX, H.Xl, H.kp⟩
  have := H.st
  unfold isPs at this ⊢
  rw [← hU 0 (by decide), ← hU 1 (by decide), ← hU 2 (by decide), ← hU 3 (by decide), ← hU 4 (by decide)]
  exact this
theorem vls_succ (V : Nat → Value) (m : Nat) : vls V (m + 1) = vls V m ++ [V m] := by simp [vls, List.range_succ]
theorem lP_add (n : Nat) (V : Nat → Value) (s : Ps) (l : List Nat) (v1 v2 v3 : Value) :
    upd (upd (upd (upd (lP n V { s with S := upd s.S s.nb l }) (rT s.nb) []) 1 (vls (fun k => V (rS k)) s.nb ++ [V (rS s.nb)])) 2 (vls (fun k => V (rT k)) s.nb ++ [.slice none 0 0])) 3 (bls s.W s.nb ++ [.bool false]) = lP n (upd (upd (upd (upd V (rT s.nb) (.slice none 0 0)) 1 v1) 2 v2) 3 v3) (addP s l) := by
  have hS : ∀ k, upd (upd (upd (upd V (rT s.nb) (.slice none 0 0)) 1 v1) 2 v2) 3 v3 (rS k) = V (rS k) := fun k => by
    rw [upd_ne _ _ (rS_ne k (by decide)), upd_ne _ _ (rS_ne k (by decide)), upd_ne _ _ (rS_ne k (by decide)), upd_ne _ _ (rS_rT k s.nb)]
  have hT : ∀ k, upd (upd (upd (upd V (rT s.nb) (.slice none 0 0)) 1 v1) 2 v2) 3 v3 (rT k) = upd V (rT s.nb) (.slice none 0 0) (rT k) := fun k => by
    rw [upd_ne _ _ (rT_ne k (by decide)), upd_ne _ _ (rT_ne k (by decide)), upd_ne _ _ (rT_ne k (by decide))]
  refine fn_ext ?_ ?_ ?_ ?_ ?_ (fun k => ?_) fun k => ?_
  · show upd (lP n V { s with S := upd s.S s.nb l }) (rT s.nb) [] 0 = _
    rw [upd_ne _ _ (Ne.symm (rT_ne s.nb (by decide)))]
    rfl
  · show vls (fun k => V (rS k)) s.nb ++ [V (rS s.nb)] = vls (fun k => upd (upd (upd (upd V (rT s.nb) (.slice none 0 0)) 1 v1) 2 v2) 3 v3 (rS k)) (s.nb + 1)
    rw [vls_succ, hS, vls_ext fun j _ => hS j]
  · show vls (fun k => V (rT k)) s.nb ++ [.slice none 0 0] = vls (fun k => upd (upd (upd (upd V (rT s.nb) (.slice none 0 0)) 1 v1) 2 v2) 3 v3 (rT k)) (s.nb + 1)
    rw [vls_succ, hT, upd_at]
    congr 1
    exact vls_ext fun j hj => by rw [hT, upd_ne _ _ (rT_inj (show j ≠ s.nb by omega))]
  · show bls s.W s.nb ++ [.bool false] = bls (upd s.W s.nb false) (s.nb + 1)
    rw [bls_succ, upd_at]
    congr 1
    unfold bls
    exact List.map_congr_left fun i hi => by rw [upd_ne _ _ (by have := List.mem_range.1 hi; omega)]
  · show upd (lP n V { s with S := upd s.S s.nb l }) (rT s.nb) [] 4 = _
    rw [upd_ne _ _ (Ne.symm (rT_ne s.nb (by decide)))]
    rfl
  · rw [upd_ne _ _ (rS_ne k (by decide)), upd_ne _ _ (rS_ne k (by decide)), upd_ne _ _ (rS_ne k (by decide)), upd_ne _ _ (rS_rT k s.nb), lPS, lPS]
    rfl
  · rw [upd_ne _ _ (rT_ne k (by decide)), upd_ne _ _ (rT_ne k (by decide)), upd_ne _ _ (rT_ne k (by decide)), lPT]
    show _ = spl9 (upd s.T s.nb [] k)
    by_cases e : k = s.nb
    · subst e
      rw [upd_at, upd_at]; rfl
    · rw [upd_ne _ _ (rT_inj e), upd_ne _ _ e, lPT]

set_option maxRecDepth 100000 in
set_option maxHeartbeats 4000000 in
theorem add13 (X : Nat → Prop) (h n : Nat) (l : List Nat) (p : Option Addr) (m c : Nat) (V : Nat → Value) (s : Ps) (w0 w : World) (H : PtM X w0 w h n V { s with S := upd s.S s.nb l }) (hv : V (rS s.nb) = .slice p m c) (hnb : s.nb ≤ 2000) :
    Calls Try.prog 43 #[.pointer (some ⟨h, 0, none⟩), .slice p m c] w fun e w' => e = .returned (.tuple #[]) ∧ ∃ V', PtM X w0 w' h n V' (addP s l) ∧ ∀ k, V' (rS k) = V (rS k) := by
  have HN : Hid (Fm X w0 w h V (upd V (rT s.nb) (.slice none 0 0)) (upd (lP n V { s with S := upd s.S s.nb l }) (rT s.nb) [])) := Lib.hid (Fm.new H (rT s.nb) (Below.refl _ _) ⟨rfl, .inl ⟨rfl, rfl⟩⟩ fun b e => by cases e)
  have HVS : Hid (∀ k, upd V (rT s.nb) (.slice none 0 0) (rS k) = V (rS k)) := Lib.hid fun k => upd_ne _ _ (rS_rT k s.nb)
  obtain ⟨L1, hL1⟩ : ∃ L1, upd (lP n V { s with S := upd s.S s.nb l }) (rT s.nb) [] = L1 := ⟨_, rfl⟩
  obtain ⟨V1, hV1⟩ : ∃ V1, upd V (rT s.nb) (.slice none 0 0) = V1 := ⟨_, rfl⟩
  rw [hL1, hV1] at HN
  rw [hV1] at HVS
  have l1 : L1 1 = vls (fun k => V (rS k)) s.nb := by rw [← hL1, upd_ne _ _ (Ne.symm (rT_ne s.nb (by decide)))]; rfl
  have l2 : L1 2 = vls (fun k => V (rT k)) s.nb := by rw [← hL1, upd_ne _ _ (Ne.symm (rT_ne s.nb (by decide)))]; rfl
  have l3 : L1 3 = bls s.W s.nb := by rw [← hL1, upd_ne _ _ (Ne.symm (rT_ne s.nb (by decide)))]; rfl
  have hVe : ∀ i, i < 5 → V1 i = V i := fun i hi => by rw [← hV1, upd_ne _ _ (Ne.symm (rT_ne s.nb hi))]
  obtain ⟨p1, c1, e1, -⟩ := H.v1
  obtain ⟨p2, c2, e2, -⟩ := H.v2
  obtain ⟨p3, c3, e3, -⟩ := H.v3
  have e1' := (hVe 1 (by decide)).trans e1
  have e2' := (hVe 2 (by decide)).trans e2
  have e3' := (hVe 3 (by decide)).trans e3
  simp only at e1' e2' e3'
  have HLP := Lib.hid (fun v1 v2 v3 => lP_add n V s l v1 v2 v3)
  rw [hL1, hV1, ← l1, ← l2, ← l3] at HLP
  have HX0 : Hid ((w.alloc (.cells #[.slice p m c] 22)).ownsRow 0 22 1 (.slice p1 s.nb c1) (L1 1).length (L1 1)) := Lib.hid (by
    have := (HN.out.below ((Below.refl _ _).alloc (Nat.le_refl _) (.cells #[.slice p m c] 22))).row 1
    rw [e1'] at this
    exact this)
  have HN1 := Lib.hid (HN.out.below ((Below.refl _ _).alloc (Nat.le_refl _) (.cells #[.slice p m c] 22)))
  have HV1 := Lib.hid hVe
  have HL1 : Hid ((L1 1).length = s.nb ∧ (L1 2).length = s.nb ∧ (L1 3).length = s.nb) := Lib.hid ⟨by rw [l1, vls_len], by rw [l2, vls_len], by rw [l3, bls_len]⟩
  obtain ⟨q, hq⟩ : ∃ q, s.nb = q := ⟨_, rfl⟩
  simp only [hq] at HX0 HL1 e1 e2 e3 e1' e2' e3' hnb hv HLP
  rw [hv] at HLP
  obtain ⟨-, y1, -, -, -⟩ := H.st.cells
  rw [e1] at y1
  have HE2 := Lib.hid e2; have HE3 := Lib.hid e3
  have HE1' := Lib.hid e1'; have HE2' := Lib.hid e2'; have HE3' := Lib.hid e3'
  have q1 : (q : Int) ≤ 2000 := by omega
  have q0 : (0 : Int) ≤ (q : Int) := by omega
  have HLE : Hid (q ≤ 10000) := Lib.hid (by omega)
  clear H HN hL1 hV1 l1 l2 l3 hVe e1 e2 e3 e1' e2' e3' hq hv hnb
  go_enter Try.func43, Try.ntmps43
  go_wp2_with (at_builtin; refine append_sl rfl _ _ rfl _ (L1 1) rfl HX0.out w.heap.size (.slice p m c) rfl rfl (by simp) (HL1.out.1 ▸ HLE.out) ?_; intro p' c' w3 hown hgrow hat; rw [HL1.out.1] at *; have HO := Lib.hid hown; have HG : Hid ((w.alloc (.cells #[.slice p m c] 22)).grownBy w3 (Value.slice p1 q c1).ownBlock) := Lib.hid hgrow; have HAT : Hid ((Value.slice p' (q + 1) c').ownBlock = (Value.slice p1 q c1).ownBlock ∨ (Value.slice p' (q + 1) c').ownBlock = some (w.alloc (.cells #[.slice p m c] 22)).heap.size) := Lib.hid hat; clear hown hgrow hat; refine Hid.out ?_)
  have F2 := HN1.out.grow 1 (v := .slice p' (q + 1) c') (l := L1 1 ++ [.slice p m c]) (by rw [HE1'.out]; exact HG.out) HO.out (by rw [HE1'.out]; exact HAT.out)
  have F3 := F2.put 1 (by decide) (.slice p' (q + 1) c')
  obtain ⟨-, d1, -, -, -⟩ := F2.st.cells
  have d2 := F2.st.free 1
  have d3 := F2.st.lt
  obtain ⟨W4, hW4⟩ : ∃ W4, w3.setCell ⟨h, 1, none⟩ (.slice p' (q + 1) c') = W4 := ⟨_, rfl⟩
  rw [hW4] at F3
  obtain ⟨-, -, d4, -, -⟩ := F3.st.cells
  rw [upd_ne _ _ (by decide), HE2.out] at d4
  have F4 := F3.below ((Below.refl _ _).alloc (Nat.le_refl _) (.cells #[.slice none 0 0] 22))
  have HX4 : Hid ((W4.alloc (.cells #[.slice none 0 0] 22)).ownsRow 0 22 1 (.slice p2 q c2) (L1 2).length (L1 2)) := Lib.hid (by
    have := F4.row 2
    rw [upd_ne _ _ (by decide), upd_ne _ _ (by decide), HE2'.out] at this
    exact this)
  have HF4 := Lib.hid F4
  have HW4 := Lib.hid hW4
  clear F2 F3 F4 hW4 HO HG HAT HN1 HX0 y1
  refine Lib.hid ?_
  go_upto_region 1 with (fail)
  rw [HW4.out]
  clear d1 d2 d3
  go_wp2_with (at_builtin; refine append_sl rfl _ _ rfl _ (L1 2) rfl HX4.out W4.heap.size (.slice none 0 0) rfl rfl (by simp) (HL1.out.2.1 ▸ HLE.out) ?_; intro p5 c5 w5 hown hgrow hat; rw [HL1.out.2.1] at *; have HO := Lib.hid hown; have HG : Hid ((W4.alloc (.cells #[.slice none 0 0] 22)).grownBy w5 (Value.slice p2 q c2).ownBlock) := Lib.hid hgrow; have HAT : Hid ((Value.slice p5 (q + 1) c5).ownBlock = (Value.slice p2 q c2).ownBlock ∨ (Value.slice p5 (q + 1) c5).ownBlock = some (W4.alloc (.cells #[.slice none 0 0] 22)).heap.size) := Lib.hid hat; clear hown hgrow hat; refine Hid.out ?_)
  have F5 := HF4.out.grow 2 (v := .slice p5 (q + 1) c5) (l := L1 2 ++ [.slice none 0 0]) (by rw [upd_ne _ _ (by decide), HE2'.out]; exact HG.out) HO.out (by rw [upd_ne _ _ (by decide), HE2'.out]; exact HAT.out)
  have F6 := F5.put 2 (by decide) (.slice p5 (q + 1) c5)
  obtain ⟨-, -, d1, -, -⟩ := F5.st.cells
  have d2 := F5.st.free 2
  have d3 := F5.st.lt
  obtain ⟨W6, hW6⟩ : ∃ W6, w5.setCell ⟨h, 2, none⟩ (.slice p5 (q + 1) c5) = W6 := ⟨_, rfl⟩
  rw [hW6] at F6
  obtain ⟨-, -, -, d5, -⟩ := F6.st.cells
  rw [upd_ne _ _ (by decide), upd_ne _ _ (by decide), HE3.out] at d5
  have F7 := F6.below ((Below.refl _ _).alloc (Nat.le_refl _) (.cells #[.bool false] 4))
  have HX7 : Hid ((W6.alloc (.cells #[.bool false] 4)).ownsRow 0 4 1 (.slice p3 q c3) (L1 3).length (L1 3)) := Lib.hid (by
    have := F7.row 3
    rw [upd_ne _ _ (by decide), upd_ne _ _ (by decide), upd_ne _ _ (by decide), upd_ne _ _ (by decide), HE3'.out] at this
    exact this)
  have HF7 := Lib.hid F7
  have HW6 := Lib.hid hW6
  clear F5 F6 F7 hW6 HO HG HAT HF4 HX4 d4
  refine Lib.hid ?_
  go_upto_region 2 with (fail)
  rw [HW6.out]
  clear d1 d2 d3
  go_wp2_with (at_builtin; refine append_bl rfl _ _ rfl _ (L1 3) rfl HX7.out W6.heap.size false rfl (by simp) (HL1.out.2.2 ▸ HLE.out) ?_; intro p8 c8 w8 hown hgrow hat; rw [HL1.out.2.2] at *; have HO := Lib.hid hown; have HG : Hid ((W6.alloc (.cells #[.bool false] 4)).grownBy w8 (Value.slice p3 q c3).ownBlock) := Lib.hid hgrow; have HAT : Hid ((Value.slice p8 (q + 1) c8).ownBlock = (Value.slice p3 q c3).ownBlock ∨ (Value.slice p8 (q + 1) c8).ownBlock = some (W6.alloc (.cells #[.bool false] 4)).heap.size) := Lib.hid hat; clear hown hgrow hat; refine Hid.out ?_)
  have F8 := HF7.out.grow 3 (v := .slice p8 (q + 1) c8) (l := L1 3 ++ [.bool false]) (by rw [upd_ne _ _ (by decide), upd_ne _ _ (by decide), HE3'.out]; exact HG.out) HO.out (by rw [upd_ne _ _ (by decide), upd_ne _ _ (by decide), HE3'.out]; exact HAT.out)
  obtain ⟨-, -, -, d1, -⟩ := F8.st.cells
  have d2 := F8.st.free 3
  have d3 := F8.st.lt
  have F9 := (F8.put 3 (by decide) (.slice p8 (q + 1) c8)).useU (U' := upd (upd (upd V1 1 (.slice p' (q + 1) c')) 2 (.slice p5 (q + 1) c5)) 3 (.slice p8 (q + 1) c8)) fun i hi => by
    unfold upd
    split
    · rfl
    · split
      · rfl
      · split
        · rfl
        · exact (HV1.out i hi).symm
  have HFIN : Hid (∃ V', PtM X w0 (w8.setCell ⟨h, 3, none⟩ (.slice p8 (q + 1) c8)) h n V' (addP s l) ∧ ∀ k, V' (rS k) = V (rS k)) := Lib.hid ⟨_, by
    unfold PtM
    rw [← HLP.out]
    exact F9, fun k => by rw [upd_ne _ _ (rS_ne k (by decide)), upd_ne _ _ (rS_ne k (by decide)), upd_ne _ _ (rS_ne k (by decide))]; exact HVS.out k⟩
  clear F8 F9 HO HG HAT HF7 HX7
  refine Lib.hid ?_
  go_wp2_with fail
  refine bodyPost_end (results_none rfl _ _ _) rfl ?_
  exact ⟨rfl, HFIN.out⟩
end Go.Proofs.Ytnoaejpabfnfpaa
