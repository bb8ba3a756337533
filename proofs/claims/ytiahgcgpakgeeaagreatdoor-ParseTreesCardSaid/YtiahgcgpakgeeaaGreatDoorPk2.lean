/-
  The fifth reference's way down comes to the end: where Wrong tells nothing, and no group stays open, all tokens are taken.
  An append of a row of nodes to another one.
  The walk of the fifth reference's either, given behind.
-/
import Derived.Test.YtiahgcgpakgeeaaGreatDoorPk1
namespace Go.Proofs.YtiahgcgpakgeeaaGreatDoor

/-- How many groups are open ahead of a place. -/
def oc (T : Nat → Tn) : Nat → Int
  | 0 => 0
  | i + 1 => oc T i + if (T i).k = 3 then 1 else if (T i).k = 4 then -1 else 0
theorem repsL_oc (T : Nat → Tn) (n : Nat) : ∀ u i, oc T (repsL T n u i).2 = oc T i := by
  intro u
  induction u with
  | zero => intro i; rfl
  | succ u ih =>
    intro i
    unfold repsL
    split
    · rename_i h
      simp only
      rw [ih, show oc T (i + 1) = oc T i + if (T i).k = 3 then 1 else if (T i).k = 4 then -1 else 0 from rfl, if_neg (by omega), if_neg (by omega), Int.add_zero]
    · rfl
def eCnt (T : Nat → Tn) (n m : Nat) (e : Nat → List Nd × Nat) : Prop := ∀ a, m ≤ a → a ≤ n → startOk T n a → ((e a).2 ≤ n → oc T (e a).2 = oc T a) ∧ (n < (e a).2 → oc T a < oc T n)
theorem oc_flat {T : Nat → Tn} {i : Nat} (h3 : (T i).k ≠ 3) (h4 : (T i).k ≠ 4) : oc T (i + 1) = oc T i := by
  rw [show oc T (i + 1) = oc T i + if (T i).k = 3 then 1 else if (T i).k = 4 then -1 else 0 from rfl, if_neg h3, if_neg h4, Int.add_zero]
theorem partF_cnt {T : Nat → Tn} {n m : Nat} {e : Nat → List Nd × Nat} (hw : wellT T n) (hk : eOk n m e) (he : eLeaf T n m e) (hc : eCnt T n m e) {a : Nat} (h1 : m ≤ a + 1) (h2 : a < n) (h3 : (T a).k ≠ 2) (h4 : (T a).k ≠ 4) (h5 : (T a).k ≠ 5) :
    ((partF T n e a).2 ≤ n → oc T (partF T n e a).2 = oc T a) ∧ (n < (partF T n e a).2 → oc T a < oc T n) := by
  have hbd := partB_bd (T := T) hk h1 h2
  have hr := repsL_bd T n (n + 1) (partB T e a).2
  have ho := repsL_oc T n (n + 1) (partB T e a).2
  have hp : (partF T n e a).2 = (repsL T n (n + 1) (partB T e a).2).2 := rfl
  have hv := hw.1 a h2
  rw [hp, ho]
  by_cases k3 : (T a).k = 3
  · have hB : (partB T e a).2 = (e (a + 1)).2 + 1 := by unfold partB; rw [if_neg (by omega), if_neg (by omega), if_neg (by omega)]
    have hs : startOk T n (a + 1) := hw.start (.inr (.inr (by simpa using k3)))
    obtain ⟨e1, -⟩ := he (a + 1) h1 (by omega) hs
    obtain ⟨c1, c2⟩ := hc (a + 1) h1 (by omega) hs
    have o1 : oc T (a + 1) = oc T a + 1 := by
      rw [show oc T (a + 1) = oc T a + if (T a).k = 3 then 1 else if (T a).k = 4 then -1 else 0 from rfl, if_pos k3]
    rw [hB] at hr ⊢
    rcases Nat.lt_or_ge (e (a + 1)).2 n with h | h
    · have e4 := e1 h
      refine ⟨fun _ => ?_, fun hh => by omega⟩
      rw [show oc T ((e (a + 1)).2 + 1) = oc T (e (a + 1)).2 + if (T (e (a + 1)).2).k = 3 then 1 else if (T (e (a + 1)).2).k = 4 then -1 else 0 from rfl, if_neg (by omega), if_pos e4, c1 (by omega), o1]
      omega
    · refine ⟨fun hh => ?_, fun _ => ?_⟩
      · have := hr.2.2.1 (by omega); omega
      · rcases Nat.lt_or_ge n (e (a + 1)).2 with h' | h'
        · have := c2 h'; omega
        · have := c1 h'
          rw [show (e (a + 1)).2 = n by omega] at this
          omega
  · have hB : (partB T e a).2 = a + 1 := by
      unfold partB
      by_cases c1 : (T a).k = 1
      · rw [if_pos c1]
      · rw [if_neg c1]
        by_cases c2 : (T a).k = 6
        · rw [if_pos c2]
        · rw [if_neg c2, if_pos (by omega)]
    rw [hB] at hr ⊢
    refine ⟨fun _ => oc_flat k3 h4, fun hh => ?_⟩
    have := hr.2.1 (by omega)
    omega
theorem behL_cnt {T : Nat → Tn} {n m : Nat} {e : Nat → List Nd × Nat} (hw : wellT T n) (hk : eOk n m e) (he : eLeaf T n m e) (hc : eCnt T n m e) (a : Nat) : ∀ u i acc many, m ≤ i + 1 → n + 1 ≤ u + i → 0 < u → startOk T n i →
    (i ≤ n → oc T i = oc T a) → (n < i → oc T a < oc T n) →
    ((behL T n e u i acc many).2 ≤ n → oc T (behL T n e u i acc many).2 = oc T a) ∧ (n < (behL T n e u i acc many).2 → oc T a < oc T n) := by
  intro u
  induction u with
  | zero => intro i acc many _ _ h; omega
  | succ u ih =>
    intro i acc many h1 h3 _ h4 h5 h6
    unfold behL
    split
    · rename_i hcc
      have hp := partF_bd (T := T) hk (a := i) h1 hcc.1
      obtain ⟨q1, -⟩ := partF_leaf hw hk he h1 hcc.1 hcc.2.1 hcc.2.2 (h4 hcc.1)
      obtain ⟨c1, c2⟩ := partF_cnt hw hk he hc h1 hcc.1 hcc.2.1 hcc.2.2 (h4 hcc.1)
      have := h5 (by omega)
      exact ih _ _ _ (by omega) (by omega) (by omega) q1 (fun h => by have := c1 h; omega) (fun h => by have := c2 h; omega)
    · exact ⟨h5, h6⟩
theorem bhF_cnt {T : Nat → Tn} {n m : Nat} {e : Nat → List Nd × Nat} (hw : wellT T n) (hk : eOk n m e) (he : eLeaf T n m e) (hc : eCnt T n m e) (a : Nat) (h1 : m ≤ a + 1) (h2 : a ≤ n) (hs : startOk T n a) :
    ((bhF T n e a).2 ≤ n → oc T (bhF T n e a).2 = oc T a) ∧ (n < (bhF T n e a).2 → oc T a < oc T n) :=
  behL_cnt hw hk he hc a _ _ _ _ h1 (by omega) (by omega) hs (fun _ => rfl) (fun h => by omega)
theorem eiL_cnt {T : Nat → Tn} {n m : Nat} {e : Nat → List Nd × Nat} (hw : wellT T n) (hk : eOk n m e) (he : eLeaf T n m e) (hc : eCnt T n m e) (a : Nat) : ∀ u i acc, m ≤ i + 1 → (i ≤ n → oc T i = oc T a) → (n < i → oc T a < oc T n) →
    ((eiL T n e u i acc).2 ≤ n → oc T (eiL T n e u i acc).2 = oc T a) ∧ (n < (eiL T n e u i acc).2 → oc T a < oc T n) := by
  intro u
  induction u with
  | zero => intro i acc _ h5 h6; exact ⟨h5, h6⟩
  | succ u ih =>
    intro i acc h1 h5 h6
    unfold eiL
    split
    · rename_i hcc
      have hs : startOk T n (i + 1) := hw.start (.inr (.inl (by simpa using hcc.2)))
      have hb := bhF_bd (T := T) hk (i + 1) (by omega) (by omega)
      obtain ⟨c1, c2⟩ := bhF_cnt hw hk he hc (i + 1) (by omega) (by omega) hs
      have h7 := h5 (by omega)
      have h8 := oc_flat (T := T) (i := i) (by omega) (by omega)
      exact ih _ _ (by omega) (fun h => by have := c1 h; omega) (fun h => by have := c2 h; omega)
    · exact ⟨h5, h6⟩
theorem ei_cnt {T : Nat → Tn} {n : Nat} (hw : wellT T n) : ∀ u, eCnt T n (n + 1 - u) (ei T n u) := by
  intro u
  induction u with
  | zero => intro a h1 h2; omega
  | succ u ih =>
    intro a h1 h2 hs
    have hb := bhF_bd (T := T) (ei_ok T n u) a (by omega) h2
    obtain ⟨c1, c2⟩ := bhF_cnt hw (ei_ok T n u) (ei_leaf hw u) ih a (by omega) h2 hs
    exact eiL_cnt hw (ei_ok T n u) (ei_leaf hw u) ih a _ _ _ (by omega) c1 c2
/-- What Wrong tells nothing of. -/
theorem wrF_well {T : Nat → Tn} {n : Nat} : ∀ u i o, n + 1 ≤ u + i → i ≤ n → (wrF T n u i o).2.1 = 0 → oc T i = o →
    (∀ j, i ≤ j → j < n → 1 ≤ (T j).k ∧ (T j).k ≤ 7 ∧ ((T j).k = 5 → 0 < j ∧ endsP (T (j - 1)).k = true) ∧ ((T j).k = 4 → 0 < oc T j)) ∧ oc T n = (wrF T n u i o).2.2 := by
  intro u
  induction u with
  | zero => intro i o h1 h2; omega
  | succ u ih =>
    intro i o h1 hi h2 ho
    unfold wrF at h2 ⊢
    by_cases hn : n ≤ i
    · rw [if_pos hn]
      have : i = n := by omega
      subst this
      exact ⟨fun j h3 h4 => by omega, ho⟩
    rw [if_neg hn] at h2 ⊢
    by_cases c1 : (T i).k < 1 ∨ 7 < (T i).k
    · rw [if_pos c1] at h2; simp at h2
    rw [if_neg c1] at h2 ⊢
    by_cases c2 : (T i).k = 5 ∧ badRep (T i) = true
    · rw [if_pos c2] at h2; simp at h2
    rw [if_neg c2] at h2 ⊢
    by_cases c3 : (T i).k = 5 ∧ ¬ (0 < i ∧ endsP (T (i - 1)).k = true)
    · rw [if_pos c3] at h2; simp at h2
    rw [if_neg c3] at h2 ⊢
    by_cases c4 : (T i).k = 3 ∧ o = 20
    · rw [if_pos c4] at h2; simp at h2
    rw [if_neg c4] at h2 ⊢
    by_cases c5 : (T i).k = 4 ∧ o = 0
    · rw [if_pos c5] at h2; simp at h2
    rw [if_neg c5] at h2 ⊢
    have ho2 : oc T (i + 1) = ((if (T i).k = 3 then o + 1 else if (T i).k = 4 then o - 1 else o : Nat) : Int) := by
      rw [show oc T (i + 1) = oc T i + if (T i).k = 3 then 1 else if (T i).k = 4 then -1 else 0 from rfl, ho]
      split
      · omega
      · split <;> omega
    obtain ⟨q1, q2⟩ := ih _ _ (by omega) (by omega) h2 ho2
    refine ⟨fun j h3 h4 => ?_, q2⟩
    by_cases hj : j = i
    · subst hj
      refine ⟨by omega, by omega, fun h5 => ?_, fun h5 => ?_⟩
      · by_cases h6 : 0 < j ∧ endsP (T (j - 1)).k = true
        · exact h6
        · exact absurd ⟨h5, h6⟩ c3
      · rw [ho]
        by_cases h6 : o = 0
        · exact absurd ⟨h5, h6⟩ c5
        · omega
    · exact q1 j (by omega) h4
/-- All tokens are taken, in order. -/
theorem ei_whole {T : Nat → Tn} {n : Nat} (h : (wrF T n (n + 1) 0 0).2.1 = 0) (ho : (wrF T n (n + 1) 0 0).2.2 = 0) : wellT T n ∧ (ei T n (n + 1) 0).2 = n ∧ leaves (ei T n (n + 1) 0).1 = tl T 0 n := by
  obtain ⟨q1, q2⟩ := wrF_well (T := T) (n := n) (n + 1) 0 0 (by omega) (by omega) h rfl
  have hw : wellT T n := ⟨fun i hi => ⟨(q1 i (by omega) hi).1, (q1 i (by omega) hi).2.1⟩, fun i hi => (q1 i (by omega) hi).2.2.1⟩
  have hs : startOk T n 0 := hw.start (.inl rfl)
  obtain ⟨l1, l2⟩ := ei_leaf hw (n + 1) 0 (by omega) (by omega) hs
  obtain ⟨c1, c2⟩ := ei_cnt hw (n + 1) 0 (by omega) (by omega) hs
  rw [ho] at q2
  have e0 : oc T 0 = 0 := rfl
  have h1 : (ei T n (n + 1) 0).2 ≤ n := by
    rcases Nat.lt_or_ge n (ei T n (n + 1) 0).2 with h | h
    · have := c2 h; omega
    · exact h
  have h2 : (ei T n (n + 1) 0).2 = n := by
    rcases Nat.lt_or_ge (ei T n (n + 1) 0).2 n with h | h
    · have h3 := c1 h1
      have h4 := (q1 _ (by omega) h).2.2.2 (l1 h)
      omega
    · omega
  refine ⟨hw, h2, ?_⟩
  rw [l2 h1, h2]
end Go.Proofs.YtiahgcgpakgeeaaGreatDoor

namespace Go.Proofs.YtiahgcgpakgeeaaGreatDoor
open Go.RowKit

theorem append_nds {w : World} {ops : Array Oper} {rest : List Oper} {o : Oper} {a : Act} {Q : Exit → Act → World → Prop} (hgd : o.guard = none) (s x : Operand)
    (ho : o.op = .call { callee := .builtin .append, args := #[s, x], argTypes := #[23, 23] }) (base : Nat) (v : Value) (l : List Nd) (hs : a.eval s = v)
    (hown : w.ownsRow base 38 7 v l.length (nds l)) (g c : Nat) (m : List Nd) (k : Nat) (hk : k = m.length) (hx : a.eval x = .slice (some ⟨g, 0, none⟩) k c)
    (hcell : ∀ j u, (nds m)[j]? = some u → w.cell? ((⟨g, 0, none⟩ : Addr).add j) = some u) (hlen : l.length + m.length ≤ 100000) (hbase : base ≤ w.heap.size)
    (h : ∀ v' w', w'.ownsRow base 38 7 v' (l ++ m).length (nds (l ++ m)) → Below base w w' → wpList Tryz.prog ops Q rest (a.put o.dst v') w') : wpList Tryz.prog ops Q (o :: rest) a w := by
  subst hk
  obtain ⟨i0, hi, hz0, hz1, hz2⟩ := info_parts infoNode
  refine wpList_append_own w hgd s x 23 ho base 38 i0 (.agg #[.int .i64 0, .int .u64 0, .int .u64 0, .int .u64 0, .int .u64 0, .int .i64 0, .int .i64 0]) 7 56 Tryz.underlying23 hi hz0 hz1 hz2 rfl (by decide) v l.length (nds l) hs hown ⟨g, 0, none⟩ m.length c (nds m) hx (nds_len m) hcell (nds_cell m) (by unfold maxLen; omega) (by omega) hbase ?_
  intro v' w' h1 h2 _
  refine h v' w' ?_ ?_
  · rw [nds_append, List.length_append]; exact h1
  · refine ⟨h2.os, h2.tape, h2.output, h2.size, fun k hk => ?_⟩
    refine h2.block k (by omega) fun e => ?_
    have := (hown.lt k e.symm).1
    omega

theorem wp_append_nds {w : World} {o : Oper} {a : Act} {K : Act → World → Prop} {Q : Exit → Act → World → Prop} (s x : Operand)
    (ho : o.op = .call { callee := .builtin .append, args := #[s, x], argTypes := #[23, 23] }) (base : Nat) (v : Value) (l : List Nd) (hs : a.eval s = v)
    (hown : w.ownsRow base 38 7 v l.length (nds l)) (g c : Nat) (m : List Nd) (k : Nat) (hk : k = m.length) (hx : a.eval x = .slice (some ⟨g, 0, none⟩) k c)
    (hcell : ∀ j u, (nds m)[j]? = some u → w.cell? ((⟨g, 0, none⟩ : Addr).add j) = some u) (hlen : l.length + m.length ≤ 100000) (hbase : base ≤ w.heap.size)
    (h : ∀ v' w', w'.ownsRow base 38 7 v' (l ++ m).length (nds (l ++ m)) → Below base w w' → K (a.put o.dst v') w') : o.wp Tryz.prog a w K Q := by
  subst hk
  obtain ⟨i0, hi, hz0, hz1, hz2⟩ := info_parts infoNode
  refine wp_append_own w s x 23 ho base 38 i0 (.agg #[.int .i64 0, .int .u64 0, .int .u64 0, .int .u64 0, .int .u64 0, .int .i64 0, .int .i64 0]) 7 56 Tryz.underlying23 hi hz0 hz1 hz2 rfl (by decide) v l.length (nds l) hs hown ⟨g, 0, none⟩ m.length c (nds m) hx (nds_len m) hcell (nds_cell m) (by unfold maxLen; omega) (by omega) hbase ?_
  intro v' w' h1 h2 _
  refine h v' w' ?_ ?_
  · rw [nds_append, List.length_append]; exact h1
  · refine ⟨h2.os, h2.tape, h2.output, h2.size, fun k hk => ?_⟩
    refine h2.block k (by omega) fun e => ?_
    have := (hown.lt k e.symm).1
    omega
theorem lit_nd (w : World) (x : Nd) : ∀ j u, (nds [x])[j]? = some u → (w.alloc (.cells #[.int .i64 x.k, .int .u64 x.a, .int .u64 x.b, .int .u64 x.c, .int .u64 x.d, .int .i64 x.lo, .int .i64 x.hi] 38)).cell? ((⟨w.heap.size, 0, none⟩ : Addr).add j) = some u := by
  intro j u hu
  rw [nds_one] at hu
  unfold ncs at hu
  match j, hu with
  | 0, hu => simp at hu; subst hu; simp [Addr.add]
  | 1, hu => simp at hu; subst hu; simp [Addr.add]
  | 2, hu => simp at hu; subst hu; simp [Addr.add]
  | 3, hu => simp at hu; subst hu; simp [Addr.add]
  | 4, hu => simp at hu; subst hu; simp [Addr.add]
  | 5, hu => simp at hu; subst hu; simp [Addr.add]
  | 6, hu => simp at hu; subst hu; simp [Addr.add]

theorem lit_owns (w : World) (base : Nat) (hb : base ≤ w.heap.size) (x : Nd) : (w.alloc (.cells #[.int .i64 x.k, .int .u64 x.a, .int .u64 x.b, .int .u64 x.c, .int .u64 x.d, .int .i64 x.lo, .int .i64 x.hi] 38)).ownsRow base 38 7 (.slice (some ⟨w.heap.size, 0, none⟩) 1 1) [x].length (nds [x]) := by
  have := World.ownsRow_lit (e := 38) (size := 7) w #[.int .i64 x.k, .int .u64 x.a, .int .u64 x.b, .int .u64 x.c, .int .u64 x.d, .int .i64 x.lo, .int .i64 x.hi] 1 hb (by unfold maxLen; omega) rfl
  rw [nds_one]; exact this

/-- What is told: a row of nodes, and a place. -/
def ndPost (r : List Nd × Nat) (w : World) (e : Ending) (w' : World) : Prop :=
  ∃ v, e = .returned (.tuple #[v, .int .i64 (r.2 : Int)]) ∧ w'.ownsRow w.heap.size 38 7 v r.1.length (nds r.1) ∧ Below w.heap.size w w'
theorem ndPost.mk {r : List Nd × Nat} {w w' : World} {v : Value} {x : Int} (l : List Nd) (i : Nat) (hr : r = (l, i)) (hx : x = i) (ho : w'.ownsRow w.heap.size 38 7 v l.length (nds l)) (hb : Below w.heap.size w w') : ndPost r w (.returned (.tuple #[v, .int .i64 x])) w' := by
  subst hr hx; exact ⟨v, rfl, ho, hb⟩
end Go.Proofs.YtiahgcgpakgeeaaGreatDoor

namespace Go.Proofs.YtiahgcgpakgeeaaGreatDoor
open Go.RowKit

set_option maxRecDepth 100000 in
set_option maxHeartbeats 4000000 in
theorem either_of (T : Nat → Tn) (n m b off cap : Nat) (e : Nat → List Nd × Nat) (hn : n ≤ 1000) (hk : eOk n m e)
    (hB : ∀ a, m ≤ a + 1 → a ≤ n → ∀ w, rdTn w b off n T → Calls Tryz.prog 35 #[.slice (some ⟨b, off, none⟩) n cap, .int .i64 (a : Int)] w (ndPost (bhF T n e a) w))
    (a : Nat) (h1 : m ≤ a + 1) (h2 : a ≤ n) (w : World) (hr : rdTn w b off n T) :
    Calls Tryz.prog 20 #[.slice (some ⟨b, off, none⟩) n cap, .int .i64 (a : Int)] w (ndPost (eiF T n e a) w) := by
  obtain ⟨R, hR⟩ : ∃ R, eiF T n e a = R := ⟨_, rfl⟩
  rw [hR]
  have HBB := Lib.hid hB
  have HQ0 := Lib.hid (hB a h1 h2)
  have hbd := bhF_bd (T := T) hk a h1 h2
  obtain ⟨⟨l0, j0⟩, hl0⟩ : ∃ r, bhF T n e a = r := ⟨_, rfl⟩
  have HR : Hid (eiL T n e (n + 2) j0 l0 = R) := Lib.hid (by rw [← hR]; unfold eiF; rw [hl0])
  rw [hl0] at hbd
  simp only at hbd
  have HL0 := Lib.hid hl0
  have HRD := Lib.hid hr
  have HKK := Lib.hid hk
  clear hR hB hl0 hr hk
  go_enter Tryz.func20, Tryz.ntmps20
  go_wp2_with fail
  refine (HQ0.out _ HRD.out).mono ?_
  rw [HL0.out]
  rintro e1 w1 ⟨v, rfl, hown, hb⟩
  have HO1 := Lib.hid hown
  have HB1 := Lib.hid hb
  clear hown hb HQ0 HL0
  go_wp2_with fail
  go_loopw [6, 7] (fun v i wr => ∃ (i0 u : Nat) (acc : List Nd), i = .int .i64 (i0 : Int) ∧ a ≤ i0 ∧ i0 + a ≤ 2 * n + 1 ∧ 1 ≤ acc.length ∧ acc.length + 2 * a ≤ 2 * i0 + 1 ∧ wr.ownsRow w.heap.size 38 7 v acc.length (nds acc) ∧ Below w.heap.size w wr ∧ Hid (eiL T n e u i0 acc = R ∧ n + 1 ≤ u + i0)) (fun _ i _ => 3000 - (intOf i).toNat)
  case atStart => exact ⟨j0, n + 2, l0, rfl, by omega, by omega, by omega, by omega, HO1.out, HB1.out, Lib.hid ⟨HR.out, by omega⟩⟩
  case round =>
    obtain ⟨i, u, acc, rfl, q1, q2, q3, q4, hown, hW, hh⟩ := hrel
    clear HO1 HB1 HR hbd
    have hsz := hW.size
    have i0 : (0 : Int) ≤ (i : Int) := by omega
    have ib : (i : Int) ≤ 2001 := by omega
    by_cases hlt : i < n
    · have d0 : decide ((i : Int) < (n : Int)) = true := decide_eq_true (by omega)
      have ilt : (i : Int) < (n : Int) := by omega
      have hc := ((HRD.out.below hW) i hlt).2.1
      obtain ⟨kk, hkk⟩ : ∃ kk, (T i).k = kk := ⟨_, rfl⟩
      rw [hkk] at hc
      by_cases h5 : kk = 2
      · subst h5
        have hbf := bhF_bd (T := T) HKK.out (i + 1) (by omega) (by omega)
        have HQ := Lib.hid (HBB.out (i + 1) (by omega) (by omega))
        obtain ⟨⟨l1, j1⟩, hl1⟩ : ∃ r, bhF T n e (i + 1) = r := ⟨_, rfl⟩
        have HE : Hid (∃ u', eiL T n e u' j1 (acc ++ l1 ++ [nd0 6]) = R ∧ n + 1 ≤ u' + j1) := Lib.hid (by
          obtain ⟨x1, x2⟩ := hh.out
          obtain ⟨u', rfl⟩ : ∃ u', u = u' + 1 := ⟨u - 1, by omega⟩
          rw [hl1] at hbf
          simp only at hbf
          refine ⟨u', ?_, by omega⟩
          rw [← x1]
          conv => rhs; unfold eiL
          rw [if_pos ⟨hlt, hkk⟩, hl1])
        rw [hl1] at hbf HQ
        simp only at hbf
        have HW := Lib.hid hW
        have HO := Lib.hid hown
        have hcast : ((i + 1 : Nat) : Int) = (i : Int) + 1 := by omega
        rw [hcast] at HQ
        clear hh hkk hl1 hW hown hcast
        go_wp2_with fail
        refine (HQ.out _ (HRD.out.below HW.out)).mono ?_
        rintro e2 w2 ⟨v2, rfl, ho2, hb⟩
        obtain ⟨g2, c2, rfl, _, hg2, hcell⟩ := owns_block ho2 (by simp only; omega)
        have HO2 := Lib.hid (owns_below HO.out hb)
        have HW2 := Lib.hid (HW.out.trans (hb.mono hsz))
        have HC := Lib.hid hcell
        clear ho2 hb hcell HO HW HQ hc
        simp only
        go_wp2_with (at_builtin; refine append_nds rfl _ _ rfl w.heap.size _ acc rfl HO2.out g2 c2 l1 _ rfl rfl HC.out (by omega) HW2.out.size ?_; intro v3 w3 h3 hb3; refine Hid.out ?_)
        have HO3 := Lib.hid h3
        have HW3 := Lib.hid (HW2.out.trans hb3)
        clear h3 hb3 HO2 HW2 HC
        refine Lib.hid ?_
        go_wp2_with (at_builtin; refine append_nds rfl _ _ rfl w.heap.size _ (acc ++ l1) rfl (HO3.out.alloc _) w3.heap.size 1 [nd0 6] 1 rfl rfl (lit_nd w3 (nd0 6)) (by simp; omega) (by have := HW3.out.size; simp; omega) ?_; intro v4 w4 h4 hb4; refine Hid.out ?_)
        have HO4 := Lib.hid h4
        have HW4 := Lib.hid ((HW3.out.alloc HW3.out.size _).trans hb4)
        clear h4 hb4 HO3 HW3
        refine Lib.hid ?_
        go_wp2
        go_roundw
        case rel =>
          obtain ⟨u', y1, y2⟩ := HE.out
          exact ⟨j1, u', acc ++ l1 ++ [nd0 6], rfl, by omega, by omega, by simp; omega, by simp; omega, HO4.out, HW4.out, Lib.hid ⟨y1, y2⟩⟩
        case measure => simp [intOf]; omega
      · have d1 : (kk == 2) = false := beq_eq_false_iff_ne.2 h5
        have HE : Hid (R = (acc, i)) := Lib.hid (by
          obtain ⟨x1, x2⟩ := hh.out
          rw [← x1]
          cases u with
          | zero => rfl
          | succ u => unfold eiL; rw [if_neg (fun hc => h5 (by rw [← hkk]; exact hc.2))])
        have HW := Lib.hid hW
        have HO := Lib.hid hown
        clear hh hkk hW hown h5
        go_wp2
        go_ret2
        exact ndPost.mk acc i HE.out rfl HO.out HW.out
    · have d0 : decide ((i : Int) < (n : Int)) = false := decide_eq_false (by omega)
      have HE : Hid (R = (acc, i)) := Lib.hid (by
        obtain ⟨x1, x2⟩ := hh.out
        rw [← x1]
        cases u with
        | zero => rfl
        | succ u => unfold eiL; rw [if_neg (fun hc => hlt hc.1)])
      have HW := Lib.hid hW
      have HO := Lib.hid hown
      clear hh hW hown
      go_wp2
      go_ret2
      exact ndPost.mk acc i HE.out rfl HO.out HW.out
end Go.Proofs.YtiahgcgpakgeeaaGreatDoor
