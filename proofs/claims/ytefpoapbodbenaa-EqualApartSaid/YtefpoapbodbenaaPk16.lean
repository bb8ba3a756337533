/-
  A list that grows while it is gone over, whatever its edges are (plain); what is met and the list of it in memory, with what is kept; the walk of spread's put.
-/
import Derived.Test.YtefpoapbodbenaaPk13
import Derived.Test.YtefpoapbodbenaaPk15
import Derived.Test.YtefpoapbodbenaaPk5
import Derived.Maps.AppendAt
namespace Go.Proofs.Ytefpoapbodbenaa
open Go.RowKit

/-- One comes from a state to another one, by some edges or none. -/
inductive rtQ (E : Nat → Nat → Prop) : Nat → Nat → Prop
  | refl (i : Nat) : rtQ E i i
  | tail {i j k : Nat} : rtQ E i j → E j k → rtQ E i k
/-- The list is gone over up to k. -/
def gInv (E : Nat → Nat → Prop) (m : Nat) (P : Nat → Prop) (A : List Nat) (k : Nat) : Prop :=
  okA9 m A ∧ k ≤ A.length ∧ (∀ q, q ∈ A → ∃ q0, P q0 ∧ rtQ E q0 q) ∧ (∀ q, P q → q ∈ A) ∧ ∀ i, i < k → ∀ x, A[i]? = some x → ∀ q, E x q → q ∈ A
/-- Behind j numbers of a list that were put. -/
def pInv (m : Nat) (A0 : List Nat) (F : Nat → Int) (j : Nat) (A : List Nat) : Prop :=
  okA9 m A ∧ A0.length ≤ A.length ∧ (∀ i, i < A0.length → A[i]? = A0[i]?) ∧ ∀ q, q ∈ A ↔ q ∈ A0 ∨ ∃ i, i < j ∧ F i = (q : Int)
theorem pInv_zero {m : Nat} {A0 : List Nat} (h : okA9 m A0) (F : Nat → Int) : pInv m A0 F 0 A0 := ⟨h, Nat.le_refl _, fun _ _ => rfl, fun _ => ⟨.inl, fun h => h.elim id fun ⟨_, h, _⟩ => absurd h (Nat.not_lt_zero _)⟩⟩
theorem pInv_put {m : Nat} {A0 : List Nat} {F : Nat → Int} {j t : Nat} {A : List Nat} (h : pInv m A0 F j A) (ht : F j = (t : Int)) (htm : t < m) : pInv m A0 F (j + 1) (putW A t) := by
  obtain ⟨h1, h2, h3, h4⟩ := h
  refine ⟨okA_put h1 htm, Nat.le_trans h2 putW_len, fun i hi => by rw [putW_old (by omega)]; exact h3 i hi, fun q => ?_⟩
  rw [putW_mem, h4 q]
  constructor
  · rintro ((h | ⟨i, h5, h6⟩) | rfl)
    · exact .inl h
    · exact .inr ⟨i, by omega, h6⟩
    · exact .inr ⟨j, by omega, ht⟩
  · rintro (h | ⟨i, h5, h6⟩)
    · exact .inl (.inl h)
    · by_cases e : i = j
      · subst e; right; omega
      · exact .inl (.inr ⟨i, by omega, h6⟩)
theorem gInv_start {E : Nat → Nat → Prop} {m : Nat} {l : Nat → Int} {n : Nat} {A : List Nat} (h : pInv m [] l n A) : gInv E m (fun q => ∃ i, i < n ∧ l i = (q : Int)) A 0 :=
  ⟨h.1, Nat.zero_le _, fun q hq => ⟨q, ((h.2.2.2 q).1 hq).elim (fun h => by cases h) id, .refl _⟩, fun q hq => (h.2.2.2 q).2 (.inr hq), fun _ hi => absurd hi (Nat.not_lt_zero _)⟩
theorem gInv_next {E : Nat → Nat → Prop} {m : Nat} {P : Nat → Prop} {A A' : List Nat} {k x n : Nat} {F : Nat → Int} (h : gInv E m P A k) (hk : k < A.length) (hx : A[k]? = some x) (hF : ∀ t : Nat, (∃ i, i < n ∧ F i = (t : Int)) ↔ E x t) (hp : pInv m A F n A') : gInv E m P A' (k + 1) := by
  obtain ⟨g1, g2, g3, g4, g5⟩ := h
  obtain ⟨p1, p2, p3, p4⟩ := hp
  refine ⟨p1, by omega, fun q hq => ?_, fun q hq => (p4 q).2 (.inl (g4 q hq)), fun i hi y hy q hq => ?_⟩
  · rcases (p4 q).1 hq with h | h
    · exact g3 q h
    · obtain ⟨q0, k1, k2⟩ := g3 x (List.mem_of_getElem? hx)
      exact ⟨q0, k1, .tail k2 ((hF q).1 h)⟩
  · rw [p3 i (by omega)] at hy
    by_cases e : i = k
    · subst e
      rw [hx] at hy; cases hy
      exact (p4 q).2 (.inr ((hF q).2 hq))
    · exact (p4 q).2 (.inl (g5 i (by omega) y hy q hq))
theorem gInv_end {E : Nat → Nat → Prop} {m : Nat} {P : Nat → Prop} {A : List Nat} {k : Nat} (h : gInv E m P A k) (hk : A.length ≤ k) (q : Nat) : q ∈ A ↔ ∃ q0, P q0 ∧ rtQ E q0 q := by
  obtain ⟨g1, g2, g3, g4, g5⟩ := h
  refine ⟨g3 q, ?_⟩
  rintro ⟨q0, h0, hr⟩
  induction hr with
  | refl => exact g4 q0 h0
  | @tail q1 q2 _ he ih =>
    obtain ⟨i, hi⟩ := List.mem_iff_getElem?.1 ih
    have hil : i < A.length := by
      rcases Nat.lt_or_ge i A.length with h | h
      · exact h
      · rw [List.getElem?_eq_none h] at hi; cases hi
    exact g5 i (by omega) q1 hi q2 he

/-- The blocks of X are kept. -/
structure kpX (X : Nat → Prop) (w w' : World) : Prop where
  os : w'.os = w.os
  tape : w'.tape = w.tape
  output : w'.output = w.output
  size : w.heap.size ≤ w'.heap.size
  block : ∀ k, k < w.heap.size → X k → w'.heap[k]? = w.heap[k]?
theorem kpX.refl (X : Nat → Prop) (w : World) : kpX X w w := ⟨rfl, rfl, rfl, Nat.le_refl _, fun _ _ _ => rfl⟩
theorem kpX.trans {X : Nat → Prop} {w w1 w2 : World} (h1 : kpX X w w1) (h2 : kpX X w1 w2) : kpX X w w2 :=
  ⟨h2.os.trans h1.os, h2.tape.trans h1.tape, h2.output.trans h1.output, Nat.le_trans h1.size h2.size, fun k hk hX => (h2.block k (Nat.lt_of_lt_of_le hk h1.size) hX).trans (h1.block k hk hX)⟩
theorem kpX.of_below {X : Nat → Prop} {w w' : World} (h : Below w.heap.size w w') : kpX X w w' := ⟨h.os, h.tape, h.output, h.size, fun k hk _ => h.block k hk⟩
theorem kpX.of_grown {X : Nat → Prop} {w w' : World} {r : Option Nat} (h : w.grownBy w' r) (hr : ∀ k, r = some k → ¬ X k) : kpX X w w' :=
  ⟨h.os, h.tape, h.output, h.size, fun k hk hX => h.block k hk fun e => hr k e.symm hX⟩
theorem kpX.below {X : Nat → Prop} {w w' : World} {B : Nat} (h : kpX X w w') (hB : B ≤ w.heap.size) (hX : ∀ k, k < B → X k) : Below B w w' := ⟨h.os, h.tape, h.output, h.size, fun k hk => h.block k (by omega) (hX k hk)⟩
theorem kpX.sub {X Y : Nat → Prop} {w w' : World} (h : kpX X w w') (hs : ∀ k, Y k → X k) : kpX Y w w' := ⟨h.os, h.tape, h.output, h.size, fun k hk hY => h.block k hk (hs k hY)⟩
theorem kpX.rd {X : Nat → Prop} {w w' : World} (h : kpX X w w') {p : Option Addr} {n : Nat} {l : Nat → Int} (hl : rdL w p n l) (hX : ∀ b o, p = some ⟨b, o, none⟩ → X b) : rdL w' p n l := fun j hj => by
  obtain ⟨b, o, h1, h2, h3⟩ := hl j hj
  refine ⟨b, o, h1, Nat.lt_of_lt_of_le h2 h.size, ?_⟩
  have hb := h.block b h2 (hX b o h1)
  simp only [World.cell?] at h3 ⊢
  rw [hb]; exact h3

/-- Block g has what is met of m states, block h names it, block h + 1 the list of it; none of these is in X. -/
def clX (X : Nat → Prop) (w : World) (g h m : Nat) (A : List Nat) : Prop :=
  g < h ∧ one9 23 w h (.slice (some ⟨g, 0, none⟩) m m) ∧ (∃ p c, one9 22 w (h + 1) (.slice p A.length c) ∧ spO w (h + 2) (.slice p A.length c) A ∧ ∀ b, (Value.slice p A.length c).ownBlock = some b → ¬ X b) ∧ blR w g g m m (memW A) ∧ ¬ X g ∧ ¬ X h ∧ ¬ X (h + 1)
theorem clX.below {X : Nat → Prop} {w w' : World} {g h m : Nat} {A : List Nat} (hc : clX X w g h m A) (hb : Below w.heap.size w w') : clX X w' g h m A := by
  obtain ⟨h0, h1, ⟨p, c, h2, h3, h3'⟩, h4, h5⟩ := hc
  exact ⟨h0, h1.below hb h1.lt, ⟨p, c, h2.below hb h2.lt, owns_below h3 hb, h3'⟩, h4.below hb, h5⟩
theorem spO.at12 {w : World} {base : Nat} {p : Option Addr} {c : Nat} {A : List Nat} (h3 : spO w base (.slice p A.length c) A) {k x : Nat} (hx : A[k]? = some x) : ∃ b, p = some ⟨b, 0, none⟩ ∧ w.cell? ⟨b, k, none⟩ = some (.int .i64 (x : Int)) := by
  have hk : k < A.length := by
    rcases Nat.lt_or_ge k A.length with h | h
    · exact h
    · rw [List.getElem?_eq_none h] at hx; cases hx
  rcases id h3.2 with ⟨_, e⟩ | ⟨b, cp, cur, e, _⟩
  · omega
  · cases e
    refine ⟨b, rfl, ?_⟩
    rw [World.ownsRow.cellAt h3 k (by omega)]
    simp [spl9, hx]
theorem append_nx2 {w : World} {ops : Array Oper} {rest : List Oper} {o : Oper} {a : Act} {Q : Exit → Act → World → Prop} (hgd : o.guard = none) (s x : Operand)
    (ho : o.op = .call { callee := .builtin .append, args := #[s, x], argTypes := #[22, 22] }) (base : Nat) (v : Value) (B : List Nat) (hs : a.eval s = v)
    (hown : spO w base v B) (g : Nat) (x0 : Nat) (hx : a.eval x = .slice (some ⟨g, 0, none⟩) 1 1)
    (hcell : w.cell? ⟨g, 0, none⟩ = some (.int .i64 (x0 : Int))) (hlen : B.length ≤ 1000000) (hbase : base ≤ w.heap.size)
    (h : ∀ v' w', spO w' base v' (B ++ [x0]) → w.grownBy w' v.ownBlock → (v'.ownBlock = v.ownBlock ∨ v'.ownBlock = some w.heap.size) → wpList Try.prog ops Q rest (a.put o.dst v') w') : wpList Try.prog ops Q (o :: rest) a w := by
  obtain ⟨i0, hi, hz0, hz1, hz2⟩ := info_parts infoInt9w
  refine Go.wpList_append_own_at w hgd s x 22 ho base 3 i0 (.int .i64 0) 1 8 Try.underlying22 hi hz0 hz1 hz2 rfl (by decide) v B.length (spl9 B) hs hown ⟨g, 0, none⟩ 1 1 (spl9 [x0]) hx (by rw [spl9_len]; rfl) ?_ (spl9_cell _) (by unfold maxLen; omega) (by omega) hbase ?_
  · intro j u hu
    match j, hu with
    | 0, hu => simp [spl9] at hu; subst hu; simpa [Addr.add] using hcell
  · intro v' w' h1 h2 _ h3
    refine h v' w' ?_ h2 h3
    unfold spO
    rw [spl9_append, List.length_append]
    exact h1

set_option maxRecDepth 100000 in
set_option maxHeartbeats 4000000 in
theorem put12 (X : Nat → Prop) (g h m x : Nat) (A : List Nat) (hm : m ≤ 1000) (hx : x < m) (hA : okA9 m A) (w : World) (hX : ∀ k, X k → k < w.heap.size) (hc : clX X w g h m A) :
    Calls Try.prog 62 #[.int .i64 (x : Int), .pointer (some ⟨h, 0, none⟩), .pointer (some ⟨h + 1, 0, none⟩)] w fun e w' => e = .returned (.tuple #[]) ∧ clX X w' g h m (putW A x) ∧ kpX X w w' := by
  obtain ⟨hgh, h1, ⟨p, c, h2, h3, h3'⟩, h4, x0, x1, x2⟩ := hc
  have x0' : (0 : Int) ≤ (x : Int) := by omega
  have x1' : (x : Int) < (m : Int) := by omega
  have c1 := h1.cell
  have c2 := h2.cell
  have c4 := h4.cell x hx
  by_cases hin : x ∈ A
  · rw [show memW A x = true from decide_eq_true hin] at c4
    have HF := Lib.hid (show clX X w g h m (putW A x) by rw [putW_in hin]; exact ⟨hgh, h1, ⟨p, c, h2, h3, h3'⟩, h4, x0, x1, x2⟩)
    clear h1 h2 h3 h3' h4 c2 hA hin x0 x1 x2 hX
    go_enter Try.func62, Try.ntmps62
    go_wp2_with fail
    refine bodyPost_end (results_none rfl _ _ _) rfl ?_
    exact ⟨rfl, HF.out, kpX.refl _ _⟩
  · rw [show memW A x = false from decide_eq_false hin] at c4
    have f4 := h4.free x
    have hgl := h4.lt
    have hs3 : h + 1 < w.heap.size := h2.lt
    have hg1 : w.grownBy (w.setCell ⟨g, x, none⟩ (.bool true)) (some g) := grown_setCell w g x _
    obtain ⟨W1, hW1⟩ : ∃ W1, w.setCell ⟨g, x, none⟩ (.bool true) = W1 := ⟨_, rfl⟩
    have hws : W1.heap.size = w.heap.size := by rw [← hW1]; simp
    rw [hW1] at hg1
    have hk1 : kpX X w W1 := kpX.of_grown hg1 (fun k e => by cases e; exact x0)
    have a1 := Lib.hid (h1.grown hg1 (by simp; omega))
    have a2 := Lib.hid (h2.grown hg1 (by simp; omega))
    have a4 : blR W1 g g m m (putT (memW A) x true) := hW1 ▸ h4.put x true
    have a4' := Lib.hid (a4.same fun j _ => memW_put hin j)
    have a3 : spO W1 (h + 2) (.slice p A.length c) A := World.ownsRow.kept h3 hg1 (by
      rcases rows_apart9 h3 h4 (by decide) with h | h
      · exact .inl h
      · exact .inr (by simpa [Value.ownBlock] using h))
    have A3 := Lib.hid a3
    have HK1 := Lib.hid hk1
    have HW1 := Lib.hid hW1
    have HIN := Lib.hid hin
    have HX0 := Lib.hid x0; have HX1 := Lib.hid x1; have HX2 := Lib.hid x2; have H3' := Lib.hid h3'
    have HLE : Hid (A.length ≤ m) := Lib.hid (okA_le hA)
    have hz : h + 2 ≤ W1.heap.size := by have := a2.out.lt; omega
    have HZ := Lib.hid hz
    have HXW : Hid (∀ k, X k → k < W1.heap.size) := Lib.hid fun k hk => by rw [hws]; exact hX k hk
    have c2' := a2.out.cell
    clear h1 h2 h3 h3' h4 hA hin a3 a4 hg1 hk1 hW1 hz hgl hs3 x0 x1 x2 hX hws
    go_enter Try.func62, Try.ntmps62
    go_upto_region 2 with (fail)
    rw [HW1.out]
    have HXA : Hid (spO (W1.alloc (.cells #[.int .i64 (x : Int)] 3)) (h + 2) (.slice p A.length c) A) := Lib.hid (A3.out.alloc _)
    have HM : Hid (A.length ≤ 1000000) := Lib.hid (by have := HLE.out; omega)
    have HS5 : Hid (h + 2 ≤ (W1.alloc (.cells #[.int .i64 (x : Int)] 3)).heap.size) := Lib.hid (by rw [World.size_alloc]; have := HZ.out; omega)
    clear c1 c2 c4 f4
    go_wp2_with (at_builtin; refine append_nx2 rfl _ _ rfl (h + 2) _ A rfl HXA.out W1.heap.size x rfl (by simp) HM.out HS5.out ?_; intro v' w3 hown hgrow hat; have HO := Lib.hid hown; have HG := Lib.hid hgrow; have HAT := Lib.hid hat; clear hown hgrow hat; refine Hid.out ?_)
    have ho : spO w3 (h + 2) v' (A ++ [x]) := HO.out
    obtain ⟨p', c', rfl⟩ := spO_of ho
    have hb5 : kpX X W1 (W1.alloc (.cells #[.int .i64 (x : Int)] 3)) := kpX.of_below ((Below.refl _ _).alloc (Nat.le_refl _) _)
    have hk3 : kpX X W1 w3 := hb5.trans (kpX.of_grown HG.out fun k e => H3'.out k e)
    have hnx : ∀ b, (Value.slice p' (A ++ [x]).length c').ownBlock = some b → ¬ X b := fun b e hX => by
      rcases HAT.out with h | h
      · rw [h] at e; exact H3'.out b e hX
      · rw [h] at e
        cases e
        have := HXW.out _ hX
        rw [World.size_alloc] at this
        omega
    have hne : ∀ k, k < h + 2 → some k ≠ (Value.slice p A.length c).ownBlock := fun k hk e => by
      have := (A3.out.lt k e.symm).1; omega
    have hz3 : h + 1 < w3.heap.size := by have := HG.out.size; have := HS5.out; omega
    have hal := Below.heap_alloc W1 (.cells #[.int .i64 (x : Int)] 3)
    have b1 : one9 23 w3 (h) (.slice (some ⟨g, 0, none⟩) m m) := (HG.out.block (h) (by rw [World.size_alloc]; have := HZ.out; omega) (hne _ (by omega))).trans ((hal (h) (by have := HZ.out; omega)).trans a1.out)
    have b2 : one9 22 w3 (h + 1) (.slice p A.length c) := (HG.out.block (h + 1) (by rw [World.size_alloc]; have := HZ.out; omega) (hne _ (by omega))).trans ((hal (h + 1) (by have := HZ.out; omega)).trans a2.out)
    have b4 : blR w3 g g m m (memW (A ++ [x])) := World.ownsRow.kept (a4'.out.below ((Below.refl _ _).alloc (Nat.le_refl _) _)) HG.out (by
      rcases rows_apart9 (a4'.out.below ((Below.refl _ _).alloc (Nat.le_refl _) (.cells #[.int .i64 (x : Int)] 3))) (A3.out.alloc (.cells #[.int .i64 (x : Int)] 3)) (by decide) with h | h
      · exact .inl h
      · exact .inr h)
    have f2 := b2.free
    have c3 := b2.cell
    have e1 : (A ++ [x]).length = A.length + 1 := by simp
    have hl2 := b2.lt
    have hg2 : w3.grownBy (w3.setCell ⟨h + 1, 0, none⟩ (.slice p' (A ++ [x]).length c')) (some (h + 1)) := grown_setCell w3 (h + 1) 0 _
    have hpw : putW A x = A ++ [x] := putW_out HIN.out
    have HE : Hid (clX X (w3.setCell ⟨h + 1, 0, none⟩ (.slice p' (A.length + 1) c')) g h m (putW A x)) := Lib.hid (by
      rw [← e1, hpw]
      refine ⟨hgh, b1.grown hg2 (by simp), ⟨p', c', b2.stored _, ?_, hnx⟩, ?_, HX0.out, HX1.out, HX2.out⟩
      · refine World.ownsRow.kept ho hg2 (.inr fun e => ?_)
        have := (ho.lt (h + 1) e).1; omega
      · refine World.ownsRow.kept b4 hg2 (.inr ?_)
        simp [Value.ownBlock]; omega)
    have HKE : Hid (kpX X w (w3.setCell ⟨h + 1, 0, none⟩ (.slice p' (A.length + 1) c'))) := Lib.hid (e1 ▸ (HK1.out.trans hk3).trans (kpX.of_grown hg2 fun k e => by cases e; exact HX2.out))
    clear ho hb5 hk3 hne hz3 hal b1 b2 b4 hg2 hpw HO HG e1 hnx HAT
    refine Lib.hid ?_
    go_wp2_with fail
    refine bodyPost_end (results_none rfl _ _ _) rfl ?_
    exact ⟨rfl, HE.out, HKE.out⟩
end Go.Proofs.Ytefpoapbodbenaa
