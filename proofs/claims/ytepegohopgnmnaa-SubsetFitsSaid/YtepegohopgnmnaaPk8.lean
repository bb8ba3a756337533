/-
  Grids in memory: a slice of rows of bools; the walk of the reference's grid.
  A place of a grid read and written; the walk of the reference's Even.
  The walk of the reference's Either.
-/
import Derived.Test.YtepegohopgnmnaaPk3
import Derived.Test.YtepegohopgnmnaaPk4
import Derived.OwnWalk
namespace Go.Proofs.Ytepegohopgnmnaa
open Go.RowKit

theorem infoRowB : (Try.prog.info? 28).map (fun i => (i.zero, i.size, i.bytes)) = some (some (.slice none 0 0), 1, 24) := by kernel_rfl
theorem infoB7 : (Try.prog.info? 4).map (fun i => (i.zero, i.size, i.bytes)) = some (some (.bool false), 1, 1) := by kernel_rfl
def bvs (G : Nat → Bool) (n : Nat) : List Value := (List.range (n + 1)).map fun j => .bool (G j)
theorem bvs_length (G : Nat → Bool) (n : Nat) : (bvs G n).length = n + 1 := by simp [bvs]
theorem bvs_at (G : Nat → Bool) (n j : Nat) (h : j ≤ n) : (bvs G n)[j]? = some (.bool (G j)) := by simp [bvs, show j < n + 1 by omega]
def rowVals (r : Nat → Nat) (n k : Nat) : List Value := (List.range k).map fun i => .slice (some ⟨r i, 0, none⟩) (n + 1) (n + 1)
theorem rowVals_length (r : Nat → Nat) (n k : Nat) : (rowVals r n k).length = k := by simp [rowVals]
theorem rowVals_at (r : Nat → Nat) (n k i : Nat) (h : i < k) : (rowVals r n k)[i]? = some (.slice (some ⟨r i, 0, none⟩) (n + 1) (n + 1)) := by simp [rowVals, h]
theorem rowVals_succ (r : Nat → Nat) (n k : Nat) : rowVals r n (k + 1) = rowVals r n k ++ [.slice (some ⟨r k, 0, none⟩) (n + 1) (n + 1)] := by simp [rowVals, List.range_succ]
theorem rowVals_same {r r' : Nat → Nat} (n : Nat) {k : Nat} (h : ∀ i, i < k → r i = r' i) : rowVals r n k = rowVals r' n k := by
  unfold rowVals
  exact List.map_congr_left fun i hi => by rw [h i (List.mem_range.1 hi)]
theorem bvs_none (n : Nat) : bvs (fun _ => false) n = List.replicate (n + 1) (.bool false) := by
  unfold bvs
  apply List.ext_getElem <;> simp
theorem made_none (n : Nat) : (madeCells #[Value.bool false] (n + 1)).toList = bvs (fun _ => false) n := by
  rw [bvs_none]
  unfold madeCells
  apply List.ext_getElem
  · simp
  · intro i h1 h2
    simp [Nat.mod_one]
/-- Two rows of different kinds are different blocks. -/
theorem rows_apt7 {w : World} {b1 b2 e1 e2 s1 s2 n1 n2 : Nat} {v1 v2 : Value} {x1 x2 : List Value} (h1 : w.ownsRow b1 e1 s1 v1 n1 x1) (h2 : w.ownsRow b2 e2 s2 v2 n2 x2) (hne : e1 ≠ e2) : v1.ownBlock = none ∨ v1.ownBlock ≠ v2.ownBlock := by
  rcases h1.2 with ⟨rfl, _⟩ | ⟨g1, c1, u1, rfl, _, p1, _⟩
  · exact .inl rfl
  · rcases h2.2 with ⟨rfl, _⟩ | ⟨g2, c2, u2, rfl, _, p2, _⟩
    · exact .inr (by simp [Value.ownBlock])
    · refine .inr fun h => ?_
      have hg : g1 = g2 := by simpa [Value.ownBlock] using h
      subst hg
      rw [p1] at p2
      simp at p2
      exact hne p2.2
/-- The first k rows of a grid that a call makes. -/
def grK (w : World) (base : Nat) (v : Value) (n k : Nat) (r : Nat → Nat) (G : Gr) : Prop :=
  w.ownsRow base 28 1 v k (rowVals r n k) ∧ (∀ i, i < k → w.ownsRow base 4 1 (.slice (some ⟨r i, 0, none⟩) (n + 1) (n + 1)) (n + 1) (bvs (G i) n)) ∧ (∀ i j, i < k → j < k → r i = r j → i = j)
def grd (w : World) (base : Nat) (v : Value) (n : Nat) (G : Gr) : Prop := ∃ r, grK w base v n (n + 1) r G

set_option maxRecDepth 100000 in
set_option maxHeartbeats 4000000 in
theorem grid_any (n : Nat) (hn : n ≤ 1000) (w : World) : Calls Try.prog 61 #[.int .i64 (n : Int)] w fun e w' => ∃ v, e = .returned v ∧ grd w' w.heap.size v n (fun _ _ => false) ∧ Below w.heap.size w w' := by
  obtain ⟨i0, hi, hz0, hz1, hz2⟩ := info_parts infoRowB
  go_enter Try.func61, Try.ntmps61
  go_wp2_with fail
  go_loopw [3, 4] (fun v iv wr => ∃ (k : Nat) (r : Nat → Nat), k ≤ n + 1 ∧ iv = .int .i64 k ∧ Hid (grK wr w.heap.size v n k r (fun _ _ => false)) ∧ Below w.heap.size w wr) (fun _ iv _ => n + 1 - (intOf iv).toNat)
  case atStart => exact ⟨0, fun _ => 0, Nat.zero_le _, rfl, Lib.hid ⟨World.ownsRow_nil _ _ _ _, fun i h => by omega, fun i j h => by omega⟩, Below.refl _ _⟩
  case round =>
    obtain ⟨k, r, hk, rfl, HG, hB⟩ := hrel
    by_cases hlt : k ≤ n
    · have d1 : decide ((k : Int) ≤ (n : Int)) = true := decide_eq_true (by omega)
      have HB := Lib.hid hB
      clear hB
      have m1 : Hid ((1 : Nat) * (n + 1) ≤ 281474976710656) := Lib.hid (by omega)
      have m2 : Hid (n + 1 ≤ maxLen) := Lib.hid (by unfold maxLen; omega)
      obtain ⟨ib, hib, hb0, hb1, hb2⟩ := info_parts infoB7
      go_wp2_with (refine wpList_make_full _ rfl _ _ 28 rfl w.heap.size 4 ib (.bool false) 1 Try.underlying28 hib hb0 hb1 .i64 .i64 ((n : Int) + 1) ((n : Int) + 1) (n + 1) rfl rfl (by omega) (by omega) (by rw [hb2]; exact m1.out) m2.out HB.out.size ?_)
      intro w4 hmk hg4
      obtain ⟨hv, hrows, hinj⟩ := HG.out
      rw [made_none] at hmk
      have hv4 := (hv.kept hg4 (Classical.em _)).alloc (.cells #[.slice (some ⟨wr.heap.size, 0, none⟩) (n + 1) (n + 1)] 28)
      have hr4 : ∀ i, i < k → (w4.alloc (.cells #[.slice (some ⟨wr.heap.size, 0, none⟩) (n + 1) (n + 1)] 28)).ownsRow w.heap.size 4 1 (.slice (some ⟨r i, 0, none⟩) (n + 1) (n + 1)) (n + 1) (bvs (fun _ => false) n) := fun i hi' => ((hrows i hi').kept hg4 (Classical.em _)).alloc _
      have hn4 := hmk.alloc (.cells #[.slice (some ⟨wr.heap.size, 0, none⟩) (n + 1) (n + 1)] 28)
      have hrl : ∀ i, i < k → r i < wr.heap.size := fun i hi' => ((hrows i hi').lt (r i) rfl).2
      have HB4 : Hid (Below w.heap.size w w4) := Lib.hid (HB.out.grown hg4 HB.out.size (fun r hr => by cases hr))
      have HB4a := Lib.hid (HB4.out.alloc HB4.out.size (.cells #[.slice (some ⟨wr.heap.size, 0, none⟩) (n + 1) (n + 1)] 28))
      have HR4 := Lib.hid hr4; have HN4 := Lib.hid hn4; have HRL := Lib.hid hrl; have HI := Lib.hid hinj
      have HV4 := Lib.hid hv4
      have H63 : Hid (k + 1 ≤ maxLen) := Lib.hid (by unfold maxLen; omega)
      have H48 : Hid ((k + 1) * 24 ≤ 140737488355328) := Lib.hid (by omega)
      clear hmk hg4 hv hrows hinj hr4 hn4 hrl HG HB hv4
      go_wp2_with (at_builtin; refine wpList_append_own _ rfl _ _ 45 rfl w.heap.size 28 i0 (.slice none 0 0) 1 24 Try.underlying45 hi hz0 hz1 hz2 rfl (by decide) _ _ _ rfl HV4.out ⟨w4.heap.size, 0, none⟩ 1 1 [.slice (some ⟨wr.heap.size, 0, none⟩) (n + 1) (n + 1)] rfl rfl ?c2 ?c3 H63.out H48.out ?c5 ?_)
      case c2 =>
        intro j u hj
        match j, hj with
        | 0, hj => simp at hj; subst hj; simp [Addr.add]
      case c3 => intro u hu; simp at hu; subst hu; rfl
      case c5 => exact HB4a.out.size
      intro v' w5 hown5 hgrow _
      have HB5 : Hid (Below w.heap.size w w5) := Lib.hid (HB4a.out.grown hgrow HB4a.out.size fun r hr => (HV4.out.lt r hr).1)
      have HG5 : Hid (grK w5 w.heap.size v' n (k + 1) (fun i => if i = k then wr.heap.size else r i) (fun _ _ => false)) := Lib.hid (by
        refine ⟨?_, ?_, ?_⟩
        · rw [rowVals_succ, rowVals_same n (r := fun i => if i = k then wr.heap.size else r i) (r' := r) (fun i hi' => by rw [if_neg (by omega)]), if_pos rfl]
          exact hown5
        · intro i hi'
          show w5.ownsRow w.heap.size 4 1 (.slice (some ⟨if i = k then wr.heap.size else r i, 0, none⟩) (n + 1) (n + 1)) (n + 1) (bvs (fun _ => false) n)
          by_cases hik : i = k
          · rw [if_pos hik]
            exact HN4.out.kept hgrow (rows_apt7 HN4.out HV4.out (by decide))
          · rw [if_neg hik]
            exact (HR4.out i (by omega)).kept hgrow (rows_apt7 (HR4.out i (by omega)) HV4.out (by decide))
        · intro i j hi' hj' he
          simp only at he
          by_cases hik : i = k
          · by_cases hjk : j = k
            · omega
            · rw [if_pos hik, if_neg hjk] at he
              have := HRL.out j (by omega)
              omega
          · by_cases hjk : j = k
            · rw [if_neg hik, if_pos hjk] at he
              have := HRL.out i (by omega)
              omega
            · rw [if_neg hik, if_neg hjk] at he
              exact HI.out i j (by omega) (by omega) he)
      clear hown5 hgrow HV4 HR4 HN4 HRL HI HB4 HB4a
      go_wp2_with fail
      go_roundw
      case rel => exact ⟨k + 1, _, by omega, by go_num, HG5, HB5.out⟩
      case measure => simp [intOf]; omega
    · have hkn : k = n + 1 := by omega
      subst hkn
      have d1 : decide (((n + 1 : Nat) : Int) ≤ (n : Int)) = false := decide_eq_false (by omega)
      have HB := Lib.hid hB
      clear hB
      go_wp2_with fail
      go_returns
      exact ⟨_, rfl, ⟨r, HG.out⟩, HB.out⟩
end Go.Proofs.Ytepegohopgnmnaa

namespace Go.Proofs.Ytepegohopgnmnaa
open Go.RowKit

theorem bvs_set (F : Nat → Bool) (n j : Nat) (b : Bool) : (bvs F n).set j (.bool b) = bvs (fun x => if x = j then b else F x) n := by
  unfold bvs
  apply List.ext_getElem
  · simp
  · intro i h1 h2
    simp only [List.getElem_set, List.getElem_map, List.getElem_range]
    by_cases h : i = j
    · rw [if_pos h.symm, if_pos h]
    · rw [if_neg (fun e => h e.symm), if_neg h]
theorem bvs_same {F F' : Nat → Bool} {n : Nat} (h : ∀ j, j ≤ n → F j = F' j) : bvs F n = bvs F' n := by
  unfold bvs
  exact List.map_congr_left fun i hi => by rw [h i (by have := List.mem_range.1 hi; omega)]
/-- A grid with one place written. -/
def putG (G : Gr) (i j : Nat) (b : Bool) : Gr := fun x y => if x = i then (if y = j then b else G x y) else G x y
theorem grK.outer {w : World} {base n k : Nat} {v : Value} {r : Nat → Nat} {G : Gr} (h : grK w base v n (k + 1) r G) : ∃ go cap, v = .slice (some ⟨go, 0, none⟩) (k + 1) cap ∧ base ≤ go ∧ go < w.heap.size ∧ ∀ i, i < k + 1 → w.cell? ⟨go, i, none⟩ = some (.slice (some ⟨r i, 0, none⟩) (n + 1) (n + 1)) := by
  obtain ⟨h1, -, -⟩ := h
  have hlt := h1.lt
  rcases id h1.2 with ⟨rfl, h0⟩ | ⟨g, cap, cur, rfl, -⟩
  · cases h0
  · exact ⟨g, cap, rfl, (hlt g rfl).1, (hlt g rfl).2, fun i hi => by rw [h1.cellAt i (by omega)]; exact rowVals_at r n (k + 1) i hi⟩
theorem grK.at {w : World} {base n k : Nat} {v : Value} {r : Nat → Nat} {G : Gr} (h : grK w base v n k r G) {i j : Nat} (hi : i < k) (hj : j ≤ n) : w.cell? ⟨r i, j, none⟩ = some (.bool (G i j)) ∧ w.frozen? ⟨r i, j, none⟩ = false ∧ base ≤ r i ∧ r i < w.heap.size := by
  have hr := h.2.1 i hi
  exact ⟨by rw [hr.cellAt j (by omega)]; exact bvs_at (G i) n j hj, hr.frozenAt j, (hr.lt (r i) rfl).1, (hr.lt (r i) rfl).2⟩
theorem grK.put {w : World} {base n k : Nat} {v : Value} {r : Nat → Nat} {G : Gr} (h : grK w base v n k r G) {i j : Nat} (hi : i < k) (b : Bool) :
    grK (w.setCell ⟨r i, j, none⟩ (.bool b)) base v n k r (putG G i j b) := by
  obtain ⟨h1, h2, h3⟩ := h
  obtain ⟨s1, s2⟩ := (h2 i hi).stored j (.bool b)
  rw [bvs_set] at s1
  refine ⟨h1.kept s2 (rows_apt7 h1 (h2 i hi) (by decide)), fun x hx => ?_, h3⟩
  by_cases hxi : x = i
  · subst hxi
    rw [show bvs (putG G x j b x) n = bvs (fun y => if y = j then b else G x y) n from bvs_same fun y _ => by unfold putG; rw [if_pos rfl]]
    exact s1
  · rw [show bvs (putG G i j b x) n = bvs (G x) n from bvs_same fun y _ => by unfold putG; rw [if_neg hxi]]
    exact (h2 x hx).kept s2 (.inr (by show some (r x) ≠ some (r i); intro e; exact hxi (h3 x i hx hi (Option.some.inj e))))
theorem grK.same {w : World} {base n k : Nat} {v : Value} {r : Nat → Nat} {G G' : Gr} (h : grK w base v n k r G) (hG : ∀ i j, i < k → j ≤ n → G i j = G' i j) : grK w base v n k r G' :=
  ⟨h.1, fun i hi => by rw [← bvs_same fun j hj => hG i j hi hj]; exact h.2.1 i hi, h.2.2⟩
theorem grK.mono {w : World} {base base' n k : Nat} {v : Value} {r : Nat → Nat} {G : Gr} (h : grK w base v n k r G) (hb : base' ≤ base) : grK w base' v n k r G :=
  ⟨owns_mono h.1 hb, fun i hi => owns_mono (h.2.1 i hi) hb, h.2.2⟩
theorem grK.below {w w' : World} {base n k : Nat} {v : Value} {r : Nat → Nat} {G : Gr} (h : grK w base v n k r G) (hb : Below w.heap.size w w') : grK w' base v n k r G :=
  ⟨owns_below h.1 hb, fun i hi => owns_below (h.2.1 i hi) hb, h.2.2⟩

set_option maxRecDepth 100000 in
set_option maxHeartbeats 4000000 in
theorem even_any (n : Nat) (hn : n ≤ 1000) (w : World) : Calls Try.prog 62 #[.int .i64 (n : Int)] w fun e w' => ∃ v, e = .returned v ∧ grd w' w.heap.size v n (evenB n) ∧ Below w.heap.size w w' := by
  go_enter Try.func62, Try.ntmps62
  go_wp2_with fail
  refine (grid_any n hn w).mono ?_
  rintro e w1 ⟨v, rfl, ⟨r, hg⟩, hb⟩
  obtain ⟨go, cap, rfl, -⟩ := hg.outer
  have HG1 := Lib.hid hg
  have HB1 := Lib.hid hb
  clear hg hb
  go_wp2_with fail
  go_loopw [4] (fun iv wr => ∃ k : Nat, k ≤ n + 1 ∧ iv = .int .i64 k ∧ Hid (grK wr w.heap.size (.slice (some ⟨go, 0, none⟩) (n + 1) cap) n (n + 1) r (fun i j => decide (i < k) && decide (i = j))) ∧ Below w.heap.size w wr) (fun iv _ => n + 1 - (intOf iv).toNat)
  case atStart => exact ⟨0, Nat.zero_le _, rfl, Lib.hid (HG1.out.same fun i j _ _ => by simp), HB1.out⟩
  case round =>
    obtain ⟨k, hk, rfl, HG, hB⟩ := hrel
    by_cases hlt : k ≤ n
    · have d1 : decide ((k : Int) ≤ (n : Int)) = true := decide_eq_true (by omega)
      obtain ⟨go', cap', hv, -, hgo, hco⟩ := HG.out.outer
      simp only [Value.slice.injEq, Option.some.injEq, Addr.mk.injEq, and_true, true_and] at hv
      obtain ⟨rfl, rfl⟩ := hv
      have q0 := hco k (by omega)
      obtain ⟨q1, q2, q3, q4⟩ := HG.out.at (i := k) (j := k) (by omega) hlt
      have i0 : (0 : Int) ≤ (k : Int) := by omega
      have i1 : (k : Int) < (n : Int) + 1 := by omega
      have HG2 : Hid (grK (wr.setCell ⟨r k, k, none⟩ (.bool true)) w.heap.size (.slice (some ⟨go, 0, none⟩) (n + 1) cap) n (n + 1) r (fun i j => decide (i < k + 1) && decide (i = j))) := Lib.hid ((HG.out.put (i := k) (j := k) (by omega) true).same fun i j _ _ => by
        unfold putG
        by_cases h1 : i = k
        · subst h1
          by_cases h2 : j = i
          · subst h2; simp
          · rw [if_pos rfl, if_neg h2]; simp [show ¬ i = j from fun e => h2 e.symm]
        · rw [if_neg h1]
          have hx : (i < k) ↔ (i < k + 1) := by omega
          simp only [hx])
      have HB2 : Hid (Below w.heap.size w (wr.setCell ⟨r k, k, none⟩ (.bool true))) := Lib.hid (hB.setCell (p := ⟨r k, k, none⟩) q3 (.bool true))
      clear hco hB HG
      go_wp2_with fail
      go_roundw
      case rel => exact ⟨k + 1, by omega, by go_num, HG2, HB2.out⟩
      case measure => simp [intOf]; omega
    · have hkn : k = n + 1 := by omega
      subst hkn
      have d1 : decide (((n + 1 : Nat) : Int) ≤ (n : Int)) = false := decide_eq_false (by omega)
      have HB := Lib.hid hB
      have HE : Hid (grK wr w.heap.size (.slice (some ⟨go, 0, none⟩) (n + 1) cap) n (n + 1) r (evenB n)) := Lib.hid (HG.out.same fun i j hi hj => by
        unfold evenB
        rw [decide_eq_true (show i < n + 1 by omega), decide_eq_true hj, Bool.true_and, Bool.and_true])
      clear hB HG
      go_wp2_with fail
      go_returns
      exact ⟨_, rfl, ⟨r, HE.out⟩, HB.out⟩
end Go.Proofs.Ytepegohopgnmnaa

namespace Go.Proofs.Ytepegohopgnmnaa
open Go.RowKit

/-- A grid that is read. -/
def rdG (w : World) (v : Value) (n : Nat) (A : Gr) : Prop := ∃ (go cap : Nat) (r : Nat → Nat), v = .slice (some ⟨go, 0, none⟩) (n + 1) cap ∧ go < w.heap.size ∧ (∀ i, i ≤ n → w.cell? ⟨go, i, none⟩ = some (.slice (some ⟨r i, 0, none⟩) (n + 1) (n + 1))) ∧ (∀ i, i ≤ n → r i < w.heap.size ∧ ∀ j, j ≤ n → w.cell? ⟨r i, j, none⟩ = some (.bool (A i j)))
theorem rdG.of {w : World} {base n : Nat} {v : Value} {G : Gr} (h : grd w base v n G) : rdG w v n G := by
  obtain ⟨r, hg⟩ := h
  obtain ⟨go, cap, rfl, -, hgo, hc⟩ := hg.outer
  refine ⟨go, cap, r, rfl, hgo, fun i hi => hc i (by omega), fun i hi => ⟨(hg.at (i := i) (j := 0) (by omega) (Nat.zero_le _)).2.2.2, fun j hj => (hg.at (i := i) (j := j) (by omega) hj).1⟩⟩
theorem rdG.below {w w' : World} {B n : Nat} {v : Value} {A : Gr} (h : rdG w v n A) (hb : Below B w w') (hB : w.heap.size ≤ B) : rdG w' v n A := by
  obtain ⟨go, cap, r, rfl, hgo, hc, hr⟩ := h
  have hs := hb.size
  refine ⟨go, cap, r, rfl, by omega, fun i hi => by rw [hb.cell (p := ⟨go, i, none⟩) (show go < B by omega)]; exact hc i hi, fun i hi => ⟨by have := (hr i hi).1; omega, fun j hj => ?_⟩⟩
  rw [hb.cell (p := ⟨r i, j, none⟩) (show r i < B by have := (hr i hi).1; omega)]
  exact (hr i hi).2 j hj
def eitB (A B : Gr) : Gr := fun i j => decide (i ≤ j) && (A i j || B i j)
/-- So far: the rows ahead of i, and row i ahead of j. -/
def eitC (A B : Gr) (i j : Nat) : Gr := fun x y => (decide (x < i) || (decide (x = i) && decide (y < j))) && eitB A B x y
theorem eitC_put (A B : Gr) (i j : Nat) (hij : i ≤ j) (x y : Nat) : putG (eitC A B i j) i j (A i j || B i j) x y = eitC A B i (j + 1) x y := by
  unfold putG
  by_cases h1 : x = i
  · subst h1
    rw [if_pos rfl]
    by_cases h2 : y = j
    · subst h2; rw [if_pos rfl]; unfold eitC eitB; simp [hij]
    · rw [if_neg h2]; unfold eitC
      have hx : (y < j) ↔ (y < j + 1) := by omega
      simp only [hx]
  · rw [if_neg h1]; unfold eitC; simp [h1]
theorem eitC_row (A B : Gr) (i n x y : Nat) (hy : y ≤ n) : eitC A B i (n + 1) x y = eitC A B (i + 1) 0 x y := by
  unfold eitC
  by_cases h1 : x < i
  · simp [h1, show x < i + 1 by omega]
  · by_cases h2 : x = i
    · subst h2; simp [show y < n + 1 by omega]
    · simp [h1, h2, show ¬ x < i + 1 by omega]
theorem eitC_start (A B : Gr) (i x y : Nat) : eitC A B i 0 x y = eitC A B i i x y := by
  unfold eitC eitB
  by_cases h2 : x = i
  · subst h2
    by_cases h3 : x ≤ y
    · simp [show ¬ y < x by omega]
    · simp [h3]
  · simp [h2]

set_option maxRecDepth 100000 in
set_option maxHeartbeats 8000000 in
theorem either_g (n : Nat) (hn : n ≤ 1000) (A B : Gr) (va vb : Value) (w : World) (ha : rdG w va n A) (hb : rdG w vb n B) :
    Calls Try.prog 64 #[va, vb] w fun e w' => ∃ v, e = .returned v ∧ grd w' w.heap.size v n (eitB A B) ∧ Below w.heap.size w w' := by
  have HA := Lib.hid ha; have HBb := Lib.hid hb
  obtain ⟨ga, ca, ra, rfl, -⟩ := ha
  obtain ⟨gb, cb, rb, rfl, -⟩ := hb
  go_enter Try.func64, Try.ntmps64
  go_wp2_with fail
  refine (grid_any n hn w).mono ?_
  rintro e w1 ⟨v, rfl, ⟨r, hg⟩, hb⟩
  obtain ⟨go, cap, rfl, -⟩ := hg.outer
  have HG1 := Lib.hid hg
  have HB1 := Lib.hid hb
  clear hg hb
  go_wp2_with fail
  go_loopw [7] (fun iv wr => ∃ i : Nat, i ≤ n + 1 ∧ iv = .int .i64 i ∧ Hid (grK wr w.heap.size (.slice (some ⟨go, 0, none⟩) (n + 1) cap) n (n + 1) r (eitC A B i 0)) ∧ Below w.heap.size w wr) (fun iv _ => n + 1 - (intOf iv).toNat)
  case atStart => exact ⟨0, Nat.zero_le _, rfl, Lib.hid (HG1.out.same fun i j _ _ => by simp [eitC]), HB1.out⟩
  case round =>
    obtain ⟨i, hi, rfl, HG, hB⟩ := hrel
    by_cases hlt : i ≤ n
    · have d1 : decide ((i : Int) ≤ (n : Int)) = true := decide_eq_true (by omega)
      have HB := Lib.hid hB
      clear hB
      go_wp2_with fail
      go_loopw [8] (fun jv w2 => ∃ j : Nat, i ≤ j ∧ j ≤ n + 1 ∧ jv = .int .i64 j ∧ Hid (grK w2 w.heap.size (.slice (some ⟨go, 0, none⟩) (n + 1) cap) n (n + 1) r (eitC A B i j)) ∧ Below w.heap.size w w2) (fun jv _ => n + 1 - (intOf jv).toNat)
      case atStart => exact ⟨i, Nat.le_refl _, hi, rfl, Lib.hid (HG.out.same fun x y _ _ => eitC_start A B i x y), HB.out⟩
      case round =>
        obtain ⟨j, hij, hj, rfl, HG2, hB2⟩ := hrel
        by_cases hlt2 : j ≤ n
        · have d2 : decide ((j : Int) ≤ (n : Int)) = true := decide_eq_true (by omega)
          obtain ⟨go', cap', hv, -, hgo, hco⟩ := HG2.out.outer
          simp only [Value.slice.injEq, Option.some.injEq, Addr.mk.injEq, and_true, true_and] at hv
          obtain ⟨rfl, rfl⟩ := hv
          have q0 := hco i (by omega)
          obtain ⟨q1, q2, q3, q4⟩ := HG2.out.at (i := i) (j := j) (by omega) hlt2
          obtain ⟨ga', ca', ra', hva, -, ha1, ha2⟩ := HA.out.below hB2 (Nat.le_refl _)
          simp only [Value.slice.injEq, Option.some.injEq, Addr.mk.injEq, and_true, true_and] at hva
          obtain ⟨rfl, rfl⟩ := hva
          obtain ⟨gb', cb', rb', hvb, -, hb1, hb2⟩ := HBb.out.below hB2 (Nat.le_refl _)
          simp only [Value.slice.injEq, Option.some.injEq, Addr.mk.injEq, and_true, true_and] at hvb
          obtain ⟨rfl, rfl⟩ := hvb
          have a0 := ha1 i hlt
          have a1 := (ha2 i hlt).2 j hlt2
          have b0 := hb1 i hlt
          have b1 := (hb2 i hlt).2 j hlt2
          have i0 : (0 : Int) ≤ (i : Int) := by omega
          have i1 : (i : Int) < (n : Int) + 1 := by omega
          have j0 : (0 : Int) ≤ (j : Int) := by omega
          have j1 : (j : Int) < (n : Int) + 1 := by omega
          have hput := fun b (hb : (A i j || B i j) = b) => (HG2.out.put (i := i) (j := j) (by omega) b).same (G' := eitC A B i (j + 1)) fun x y _ _ => by rw [← hb]; exact eitC_put A B i j hij x y
          have HPut := Lib.hid hput
          have HBs : Hid (∀ b, Below w.heap.size w (wr.setCell ⟨r i, j, none⟩ (.bool b))) := Lib.hid fun b => hB2.setCell (p := ⟨r i, j, none⟩) q3 (.bool b)
          generalize A i j = x at *
          generalize B i j = y at *
          generalize eitC A B i j i j = z at *
          clear hco hB2 HG2 ha1 ha2 hb1 hb2 hput q3 q4 hgo
          cases x
          · cases y
            · go_wp2_with fail
              go_region
              go_wp2_with fail
              go_roundw
              case rel => exact ⟨j + 1, by omega, by omega, by go_num, Lib.hid (HPut.out false rfl), (HBs.out false).drew⟩
              case measure => simp [intOf]; omega
            · go_wp2_with fail
              go_region
              go_wp2_with fail
              go_roundw
              case rel => exact ⟨j + 1, by omega, by omega, by go_num, Lib.hid (HPut.out true rfl), (HBs.out true).drew⟩
              case measure => simp [intOf]; omega
          · go_wp2_with fail
            go_region
            go_wp2_with fail
            go_roundw
            case rel => exact ⟨j + 1, by omega, by omega, by go_num, Lib.hid (HPut.out true rfl), (HBs.out true).drew⟩
            case measure => simp [intOf]; omega
        · have hjn : j = n + 1 := by omega
          subst hjn
          have d2 : decide (((n + 1 : Nat) : Int) ≤ (n : Int)) = false := decide_eq_false (by omega)
          have HB2 := Lib.hid hB2
          have HG3 : Hid (grK wr w.heap.size (.slice (some ⟨go, 0, none⟩) (n + 1) cap) n (n + 1) r (eitC A B (i + 1) 0)) := Lib.hid (HG2.out.same fun x y _ hy => eitC_row A B i n x y hy)
          clear hB2 HG2
          go_wp2_with fail
          go_roundw
          case rel => exact ⟨i + 1, by omega, by go_num, HG3, HB2.out⟩
          case measure => simp [intOf]; omega
    · have hin : i = n + 1 := by omega
      subst hin
      have d1 : decide (((n + 1 : Nat) : Int) ≤ (n : Int)) = false := decide_eq_false (by omega)
      have HB := Lib.hid hB
      have HE : Hid (grK wr w.heap.size (.slice (some ⟨go, 0, none⟩) (n + 1) cap) n (n + 1) r (eitB A B)) := Lib.hid (HG.out.same fun x y hx _ => by
        unfold eitC
        rw [decide_eq_true (show x < n + 1 by omega), Bool.true_or, Bool.true_and])
      clear hB HG
      go_wp2_with fail
      go_returns
      exact ⟨_, rfl, ⟨r, HE.out⟩, HB.out⟩
end Go.Proofs.Ytepegohopgnmnaa
