/-
  Grids in memory: a slice of rows of bools; the walk of the reference's grid.
  A place of a grid read and written; the walk of the reference's Even.
  The walk of the reference's Either.
  An automaton, decided: sets met one after the other, and where each goes. Plain.
  Rows of numbers that a call owns, as functions; the walks of the tenth reference's Same and Number.
  What the tenth laws ask of the code: Classes, Firsts and Join, as contracts.
  Rows of numbers at a block's head, made and written into by place.
-/
import Derived.Test.YtefpoapbodbenaaPk4
import Derived.OwnWalk
import Derived.Test.YtefpoapbodbenaaPk7
import Derived.Test.YtefpoapbodbenaaPk8
import Derived.Laws.AppendOwnNone
import Derived.Deep.RegionHeldLaw
import Derived.Test.YtefpoapbodbenaaPk1
import Derived.Deep.RegionWith
import Derived.Test.YtefpoapbodbenaaPk5
import Derived.BigQuiet
import Derived.Deep.QuietTactic
namespace Go.Proofs.Ytefpoapbodbenaa
open Go.RowKit

theorem infoRowB : (Try.prog.info? 23).map (fun i => (i.zero, i.size, i.bytes)) = some (some (.slice none 0 0), 1, 24) := by kernel_rfl
theorem infoB7 : (Try.prog.info? 4).map (fun i => (i.zero, i.size, i.bytes)) = some (some (.bool false), 1, 1) := by kernel_rfl
def bvs (G : Nat → Bool) (n : Nat) : List Value := (List.range (n + 1)).map fun j => .bool (G j)
theorem bvs_at (G : Nat → Bool) (n j : Nat) (h : j ≤ n) : (bvs G n)[j]? = some (.bool (G j)) := by simp [bvs, show j < n + 1 by omega]
def rowVals (r : Nat → Nat) (n k : Nat) : List Value := (List.range k).map fun i => .slice (some ⟨r i, 0, none⟩) (n + 1) (n + 1)
theorem rowVals_at (r : Nat → Nat) (n k i : Nat) (h : i < k) : (rowVals r n k)[i]? = some (.slice (some ⟨r i, 0, none⟩) (n + 1) (n + 1)) := by simp [rowVals, h]
theorem rowVals_succ (r : Nat → Nat) (n k : Nat) : rowVals r n (k + 1) = rowVals r n k ++ [.slice (some ⟨r k, 0, none⟩) (n + 1) (n + 1)] := by simp [rowVals, List.range_succ]
theorem rowVals_same {r r' : Nat → Nat} (n : Nat) {k : Nat} (h : ∀ i, i < k → r i = r' i) : rowVals r n k = rowVals r' n k := by
  unfold rowVals
  exact List.map_congr_left fun i hi => by rw [h i (List.mem_range.1 hi)]
theorem bvs_none (n : Nat) : bvs (fun _ => false) n = List.replicate (n + 1) (.bool false) := by
  unfold bvs
  apply List.ext_getElem <;> simp
theorem made_none (n : Nat) : (madeCells #[Value.bool false] (n + 1)).toList = bvs (fun _ => false) n := by
  rw [bvs_none]
  unfold madeCells
  apply List.ext_getElem
  · simp
  · intro i h1 h2
    simp [Nat.mod_one]
/-- Two rows of different kinds are different blocks. -/
theorem rows_apt7 {w : World} {b1 b2 e1 e2 s1 s2 n1 n2 : Nat} {v1 v2 : Value} {x1 x2 : List Value} (h1 : w.ownsRow b1 e1 s1 v1 n1 x1) (h2 : w.ownsRow b2 e2 s2 v2 n2 x2) (hne : e1 ≠ e2) : v1.ownBlock = none ∨ v1.ownBlock ≠ v2.ownBlock := by
  rcases h1.2 with ⟨rfl, _⟩ | ⟨g1, c1, u1, rfl, _, p1, _⟩
  · exact .inl rfl
  · rcases h2.2 with ⟨rfl, _⟩ | ⟨g2, c2, u2, rfl, _, p2, _⟩
    · exact .inr (by simp [Value.ownBlock])
    · refine .inr fun h => ?_
      have hg : g1 = g2 := by simpa [Value.ownBlock] using h
      subst hg
      rw [p1] at p2
      simp at p2
      exact hne p2.2
/-- The first k rows of a grid that a call makes. -/
def grK (w : World) (base : Nat) (v : Value) (n k : Nat) (r : Nat → Nat) (G : Gr) : Prop :=
  w.ownsRow base 23 1 v k (rowVals r n k) ∧ (∀ i, i < k → w.ownsRow base 4 1 (.slice (some ⟨r i, 0, none⟩) (n + 1) (n + 1)) (n + 1) (bvs (G i) n)) ∧ (∀ i j, i < k → j < k → r i = r j → i = j)
def grd (w : World) (base : Nat) (v : Value) (n : Nat) (G : Gr) : Prop := ∃ r, grK w base v n (n + 1) r G

end Go.Proofs.Ytefpoapbodbenaa

namespace Go.Proofs.Ytefpoapbodbenaa
open Go.RowKit

theorem bvs_set (F : Nat → Bool) (n j : Nat) (b : Bool) : (bvs F n).set j (.bool b) = bvs (fun x => if x = j then b else F x) n := by
  unfold bvs
  apply List.ext_getElem
  · simp
  · intro i h1 h2
    simp only [List.getElem_set, List.getElem_map, List.getElem_range]
    by_cases h : i = j
    · rw [if_pos h.symm, if_pos h]
    · rw [if_neg (fun e => h e.symm), if_neg h]
theorem bvs_same {F F' : Nat → Bool} {n : Nat} (h : ∀ j, j ≤ n → F j = F' j) : bvs F n = bvs F' n := by
  unfold bvs
  exact List.map_congr_left fun i hi => by rw [h i (by have := List.mem_range.1 hi; omega)]
/-- A grid with one place written. -/
def putG (G : Gr) (i j : Nat) (b : Bool) : Gr := fun x y => if x = i then (if y = j then b else G x y) else G x y
theorem grK.outer {w : World} {base n k : Nat} {v : Value} {r : Nat → Nat} {G : Gr} (h : grK w base v n (k + 1) r G) : ∃ go cap, v = .slice (some ⟨go, 0, none⟩) (k + 1) cap ∧ base ≤ go ∧ go < w.heap.size ∧ ∀ i, i < k + 1 → w.cell? ⟨go, i, none⟩ = some (.slice (some ⟨r i, 0, none⟩) (n + 1) (n + 1)) := by
  obtain ⟨h1, -, -⟩ := h
  have hlt := h1.lt
  rcases id h1.2 with ⟨rfl, h0⟩ | ⟨g, cap, cur, rfl, -⟩
  · cases h0
  · exact ⟨g, cap, rfl, (hlt g rfl).1, (hlt g rfl).2, fun i hi => by rw [h1.cellAt i (by omega)]; exact rowVals_at r n (k + 1) i hi⟩
theorem grK.at {w : World} {base n k : Nat} {v : Value} {r : Nat → Nat} {G : Gr} (h : grK w base v n k r G) {i j : Nat} (hi : i < k) (hj : j ≤ n) : w.cell? ⟨r i, j, none⟩ = some (.bool (G i j)) ∧ w.frozen? ⟨r i, j, none⟩ = false ∧ base ≤ r i ∧ r i < w.heap.size := by
  have hr := h.2.1 i hi
  exact ⟨by rw [hr.cellAt j (by omega)]; exact bvs_at (G i) n j hj, hr.frozenAt j, (hr.lt (r i) rfl).1, (hr.lt (r i) rfl).2⟩
theorem grK.put {w : World} {base n k : Nat} {v : Value} {r : Nat → Nat} {G : Gr} (h : grK w base v n k r G) {i j : Nat} (hi : i < k) (b : Bool) :
    grK (w.setCell ⟨r i, j, none⟩ (.bool b)) base v n k r (putG G i j b) := by
  obtain ⟨h1, h2, h3⟩ := h
  obtain ⟨s1, s2⟩ := (h2 i hi).stored j (.bool b)
  rw [bvs_set] at s1
  refine ⟨h1.kept s2 (rows_apt7 h1 (h2 i hi) (by decide)), fun x hx => ?_, h3⟩
  by_cases hxi : x = i
  · subst hxi
    rw [show bvs (putG G x j b x) n = bvs (fun y => if y = j then b else G x y) n from bvs_same fun y _ => by unfold putG; rw [if_pos rfl]]
    exact s1
  · rw [show bvs (putG G i j b x) n = bvs (G x) n from bvs_same fun y _ => by unfold putG; rw [if_neg hxi]]
    exact (h2 x hx).kept s2 (.inr (by show some (r x) ≠ some (r i); intro e; exact hxi (h3 x i hx hi (Option.some.inj e))))
theorem grK.same {w : World} {base n k : Nat} {v : Value} {r : Nat → Nat} {G G' : Gr} (h : grK w base v n k r G) (hG : ∀ i j, i < k → j ≤ n → G i j = G' i j) : grK w base v n k r G' :=
  ⟨h.1, fun i hi => by rw [← bvs_same fun j hj => hG i j hi hj]; exact h.2.1 i hi, h.2.2⟩
theorem grK.mono {w : World} {base base' n k : Nat} {v : Value} {r : Nat → Nat} {G : Gr} (h : grK w base v n k r G) (hb : base' ≤ base) : grK w base' v n k r G :=
  ⟨owns_mono h.1 hb, fun i hi => owns_mono (h.2.1 i hi) hb, h.2.2⟩
theorem grK.below {w w' : World} {base n k : Nat} {v : Value} {r : Nat → Nat} {G : Gr} (h : grK w base v n k r G) (hb : Below w.heap.size w w') : grK w' base v n k r G :=
  ⟨owns_below h.1 hb, fun i hi => owns_below (h.2.1 i hi) hb, h.2.2⟩

end Go.Proofs.Ytefpoapbodbenaa

namespace Go.Proofs.Ytefpoapbodbenaa
open Go.RowKit

/-- A grid that is read. -/
def rdG (w : World) (v : Value) (n : Nat) (A : Gr) : Prop := ∃ (go cap : Nat) (r : Nat → Nat), v = .slice (some ⟨go, 0, none⟩) (n + 1) cap ∧ go < w.heap.size ∧ (∀ i, i ≤ n → w.cell? ⟨go, i, none⟩ = some (.slice (some ⟨r i, 0, none⟩) (n + 1) (n + 1))) ∧ (∀ i, i ≤ n → r i < w.heap.size ∧ ∀ j, j ≤ n → w.cell? ⟨r i, j, none⟩ = some (.bool (A i j)))
theorem rdG.of {w : World} {base n : Nat} {v : Value} {G : Gr} (h : grd w base v n G) : rdG w v n G := by
  obtain ⟨r, hg⟩ := h
  obtain ⟨go, cap, rfl, -, hgo, hc⟩ := hg.outer
  refine ⟨go, cap, r, rfl, hgo, fun i hi => hc i (by omega), fun i hi => ⟨(hg.at (i := i) (j := 0) (by omega) (Nat.zero_le _)).2.2.2, fun j hj => (hg.at (i := i) (j := j) (by omega) hj).1⟩⟩
theorem rdG.below {w w' : World} {B n : Nat} {v : Value} {A : Gr} (h : rdG w v n A) (hb : Below B w w') (hB : w.heap.size ≤ B) : rdG w' v n A := by
  obtain ⟨go, cap, r, rfl, hgo, hc, hr⟩ := h
  have hs := hb.size
  refine ⟨go, cap, r, rfl, by omega, fun i hi => by rw [hb.cell (p := ⟨go, i, none⟩) (show go < B by omega)]; exact hc i hi, fun i hi => ⟨by have := (hr i hi).1; omega, fun j hj => ?_⟩⟩
  rw [hb.cell (p := ⟨r i, j, none⟩) (show r i < B by have := (hr i hi).1; omega)]
  exact (hr i hi).2 j hj
end Go.Proofs.Ytefpoapbodbenaa

namespace Go.Proofs.Ytefpoapbodbenaa

abbrev Bf := Nat → Bool
variable {go : Nat → Bf → Bf} {m width : Nat} {T0 : Bf}
end Go.Proofs.Ytefpoapbodbenaa

namespace Go.Proofs.Ytefpoapbodbenaa
open Go.RowKit

def fnv (f : Nat → Int) (n : Nat) : List Value := (List.range n).map fun j => Value.int .i64 (f j)
theorem fnv_len (f : Nat → Int) (n : Nat) : (fnv f n).length = n := by simp [fnv]
theorem fnv_succ (f : Nat → Int) (n : Nat) : fnv f (n + 1) = fnv f n ++ [.int .i64 (f n)] := by simp [fnv, List.range_succ]
theorem fnv_at (f : Nat → Int) (n j : Nat) (h : j < n) : (fnv f n)[j]? = some (.int .i64 (f j)) := by simp [fnv, h]
def spF (w : World) (base : Nat) (v : Value) (f : Nat → Int) (n : Nat) : Prop := w.ownsRow base 3 1 v n (fnv f n)
theorem spF_zero (w : World) (base : Nat) (f : Nat → Int) : spF w base (.slice none 0 0) f 0 := ⟨rfl, .inl ⟨rfl, rfl⟩⟩
theorem spF.below {w w' : World} {base : Nat} {v : Value} {f : Nat → Int} {n : Nat} (h : spF w base v f n) (hb : Below w.heap.size w w') : spF w' base v f n := owns_below h hb
theorem spF_of {w : World} {base : Nat} {v : Value} {f : Nat → Int} {n : Nat} (h : spF w base v f n) : ∃ p c, v = .slice p n c := by
  rcases id h.2 with ⟨rfl, h0⟩ | ⟨g, cap, cur, rfl, _⟩
  · exact ⟨none, 0, by rw [h0]⟩
  · exact ⟨_, cap, rfl⟩
theorem spF.rd {w : World} {base : Nat} {p : Option Addr} {c : Nat} {f : Nat → Int} {n : Nat} (h : spF w base (.slice p n c) f n) : rdL w p n f := fun j hj => by
  rcases id h.2 with ⟨_, e⟩ | ⟨g, cp, cur, e, _⟩
  · omega
  · cases e
    refine ⟨g, 0, rfl, (World.ownsRow.lt h g rfl).2, ?_⟩
    rw [Nat.zero_add, World.ownsRow.cellAt h j (by omega)]
    exact fnv_at f n j hj
theorem spF.grow {w w' : World} {base B : Nat} {v : Value} {f : Nat → Int} {n : Nat} (hB : B ≤ base) (hw : B ≤ w.heap.size) (ho : spF w base v f n) (h : w.grownBy w' v.ownBlock) : Below B w w' :=
  (Below.refl B w).grown h hw (fun r hr => Nat.le_trans hB (ho.lt r hr).1)
theorem append_fn {w : World} {ops : Array Oper} {rest : List Oper} {o : Oper} {a : Act} {Q : Exit → Act → World → Prop} (hgd : o.guard = none) (s x : Operand)
    (ho : o.op = .call { callee := .builtin .append, args := #[s, x], argTypes := #[22, 22] }) (base : Nat) (v : Value) (f : Nat → Int) (n : Nat) (hs : a.eval s = v)
    (hown : spF w base v f n) (g : Nat) (x0 : Int) (hf : f n = x0) (hx : a.eval x = .slice (some ⟨g, 0, none⟩) 1 1)
    (hcell : w.cell? ⟨g, 0, none⟩ = some (.int .i64 x0)) (hlen : n ≤ 10000) (hbase : base ≤ w.heap.size)
    (h : ∀ v' w', spF w' base v' f (n + 1) → w.grownBy w' v.ownBlock → wpList Try.prog ops Q rest (a.put o.dst v') w') : wpList Try.prog ops Q (o :: rest) a w := by
  obtain ⟨i0, hi, hz0, hz1, hz2⟩ := info_parts infoInt9w
  refine wpList_append_own w hgd s x 22 ho base 3 i0 (.int .i64 0) 1 8 Try.underlying22 hi hz0 hz1 hz2 rfl (by decide) v n (fnv f n) hs hown ⟨g, 0, none⟩ 1 1 [.int .i64 x0] hx rfl ?_ ?_ (by unfold maxLen; omega) (by omega) hbase ?_
  · intro j u hu
    match j, hu with
    | 0, hu => simp at hu; subst hu; simpa [Addr.add] using hcell
  · intro u hu
    have : u = .int .i64 x0 := by simpa using hu
    subst this; rfl
  · intro v' w' h1 h2 _
    refine h v' w' ?_ h2
    rw [← hf, ← fnv_succ] at h1
    exact h1

set_option maxRecDepth 100000 in
set_option maxHeartbeats 8000000 in
theorem num10 (R : Nat → Nat → Bool) (hR : eqR R) (q : Option Addr) (n c : Nat) (hn : n ≤ 1000) (w : World) (hl : rdL w q n (fun x => (hdA R x : Nat))) :
    Calls Try.prog 45 #[.slice q n c] w fun e w' => ∃ q' c', e = .returned (.tuple #[.slice q' n c', .int .i64 (cntT (isH R) n : Nat)]) ∧ rdL w' q' n (fun x => (clA R x : Nat)) ∧ Below w.heap.size w w' := by
  have HL := Lib.hid hl; have HRR := Lib.hid hR
  have n0 : (0 : Int) ≤ (n : Int) := by omega
  have HO0 := Lib.hid (spF_zero w w.heap.size (fun x => (clA R x : Nat)))
  have HC0 : Hid (cntT (isH R) 0 = 0) := Lib.hid rfl
  clear hl hR
  go_enter Try.func45, Try.ntmps45
  go_wp2_with fail
  go_loopw [4, 5, 6] (fun tv nv iv wr => ∃ i : Nat, i ≤ n ∧ iv = .int .i64 i ∧ nv = .int .i64 (cntT (isH R) i : Nat) ∧ Hid (spF wr w.heap.size tv (fun x => (clA R x : Nat)) i) ∧ Hid (Below w.heap.size w wr)) (fun _ _ iv _ => n - (intOf iv).toNat)
  case atStart => exact ⟨0, Nat.zero_le _, rfl, by rw [HC0.out]; rfl, HO0, Lib.hid (Below.refl _ _)⟩
  case round =>
    clear HO0 HC0
    obtain ⟨i, hi, rfl, rfl, HO, HB⟩ := hrel
    have hcle := cntT_le (isH R) i
    have hcs := cntT_succ (isH R) i
    by_cases hlti : i < n
    · have i0 : (0 : Int) ≤ (i : Int) := by omega
      have i1 : (i : Int) < (n : Int) := by omega
      obtain ⟨lb, lo, rfl, hlb, hlc⟩ := (HL.out.below HB.out) i hlti
      simp only at hlc
      have hHle := hdA_le R i
      obtain ⟨k, hk⟩ : ∃ k, hdA R i = k := ⟨_, rfl⟩
      rw [hk] at hlc hHle
      have HK := Lib.hid hk
      obtain ⟨ct, hct⟩ : ∃ ct, cntT (isH R) i = ct := ⟨_, rfl⟩
      rw [hct] at hcle hcs ⊢
      have HS := HB.out.size
      by_cases hki : k = i
      · subst hki
        have hh : isH R k = true := by unfold isH; rw [HK.out]; simp
        rw [if_pos hh] at hcs
        have HCL : Hid (((clA R k : Nat) : Int) = (ct : Int)) := Lib.hid (by rw [clA_head hh, hct])
        have HCS := Lib.hid hcs
        have c0 : (0 : Int) ≤ (ct : Int) := by omega
        have c1 : (ct : Int) ≤ 1000 := by omega
        have HLC : Hid ((wr.alloc (.cells #[.int .i64 (ct : Int)] 3)).cell? ⟨wr.heap.size, 0, none⟩ = some (.int .i64 (ct : Int))) := Lib.hid (by simp)
        have HLS : Hid (w.heap.size ≤ (wr.alloc (.cells #[.int .i64 (ct : Int)] 3)).heap.size) := Lib.hid (by rw [World.size_alloc]; omega)
        have HO6 := Lib.hid (HO.out.alloc (.cells #[.int .i64 (ct : Int)] 3))
        have HW6 := Lib.hid (HB.out.alloc HS (.cells #[.int .i64 (ct : Int)] 3))
        clear HO HS hcs hct hh
        go_wp2_with (at_builtin; refine append_fn rfl _ _ rfl w.heap.size _ (fun x => (clA R x : Nat)) k rfl HO6.out wr.heap.size (ct : Int) HCL.out rfl HLC.out (by omega) HLS.out ?_; intro v9 w9 h9 hg9; have HO9 := Lib.hid h9; have HW9 := Lib.hid (HW6.out.trans (spF.grow (Nat.le_refl _) HLS.out HO6.out hg9)); clear h9 hg9)
        go_roundw
        case rel => exact ⟨k + 1, by omega, by go_num, by rw [HCS.out]; go_num, HO9, HW9⟩
        case measure => simp [intOf]; omega
      · have hkl : k < i := by omega
        have hki2 : ((k : Int) == (i : Int)) = false := beq_eq_false_iff_ne.2 (by omega)
        have hki3 : (k == i) = false := beq_eq_false_iff_ne.2 hki
        have hh : ¬ isH R i = true := by unfold isH; rw [HK.out]; simpa using hki
        rw [if_neg hh, Nat.add_zero] at hcs
        have HCS := Lib.hid hcs
        have hcl : clA R i = clA R k := by
          have h1 := hdA_head HRR.out i
          rw [HK.out] at h1
          rw [clA_head h1]
          unfold clA
          rw [HK.out]
        obtain ⟨ck, hck⟩ : ∃ ck, clA R k = ck := ⟨_, rfl⟩
        have HCL : Hid (((clA R i : Nat) : Int) = (ck : Int)) := Lib.hid (by rw [hcl, hck])
        obtain ⟨tp, tc, rfl⟩ := spF_of HO.out
        obtain ⟨tb, tof, rfl, htb, htc⟩ := HO.out.rd k hkl
        simp only at htc
        rw [hck] at htc
        have k0 : (0 : Int) ≤ (k : Int) := by omega
        have k1 : (k : Int) < (i : Int) := by omega
        have HLC : Hid ((wr.alloc (.cells #[.int .i64 (ck : Int)] 3)).cell? ⟨wr.heap.size, 0, none⟩ = some (.int .i64 (ck : Int))) := Lib.hid (by simp)
        have HLS : Hid (w.heap.size ≤ (wr.alloc (.cells #[.int .i64 (ck : Int)] 3)).heap.size) := Lib.hid (by rw [World.size_alloc]; omega)
        have HO6 := Lib.hid (HO.out.alloc (.cells #[.int .i64 (ck : Int)] 3))
        have HW6 := Lib.hid (HB.out.alloc HS (.cells #[.int .i64 (ck : Int)] 3))
        clear HO HS hcs hct hh hck hcl hki
        go_wp2_with (at_builtin; refine append_fn rfl _ _ rfl w.heap.size _ (fun x => (clA R x : Nat)) i rfl HO6.out wr.heap.size (ck : Int) HCL.out rfl HLC.out (by omega) HLS.out ?_; intro v9 w9 h9 hg9; have HO9 := Lib.hid h9; have HW9 := Lib.hid (HW6.out.trans (spF.grow (Nat.le_refl _) HLS.out HO6.out hg9)); clear h9 hg9)
        go_roundw
        case rel => exact ⟨i + 1, by omega, by go_num, by (rw [HCS.out]; first | rfl | simp), HO9, HW9⟩
        case measure => simp [intOf]; omega
    · obtain rfl : i = n := by omega
      obtain ⟨tp, tc, rfl⟩ := spF_of HO.out
      have HF := Lib.hid HO.out.rd
      obtain ⟨ct, hct⟩ : ∃ ct, cntT (isH R) i = ct := ⟨_, rfl⟩
      rw [hct]
      have HCT := Lib.hid hct
      clear hct hcs hcle HO
      go_wp2_with fail
      go_returns
      exact ⟨_, _, by rw [HCT.out] <;> rfl, HF.out, HB.out⟩
end Go.Proofs.Ytefpoapbodbenaa

namespace Go.Proofs.Ytefpoapbodbenaa
open Go.RowKit

/-- A list of numbers, and how many classes there are. -/
def clsPost (n : Nat) (l : Nat → Int) (k : Int) (w : World) (e : Ending) (w' : World) : Prop := ∃ q c l', e = .returned (.tuple #[.slice q n c, .int .i64 k]) ∧ rdL w' q n l' ∧ (∀ j, j < n → l' j = l j) ∧ Below w.heap.size w w'
def frsPost (n : Nat) (l : Nat → Int) (width : Int) (w : World) (e : Ending) (w' : World) : Prop := ∃ q c l', e = .returned (.slice q (min width 259).toNat c) ∧ rdL w' q (min width 259).toNat l' ∧ (∀ j, j < (min width 259).toNat → l' j = fsA l n (j : Nat)) ∧ Below w.heap.size w w'
def FrsC : Prop := ∀ (q : Option Addr) (n c : Nat) (l : Nat → Int) (width : Int) (w : World), n ≤ 1000 → rdL w q n l →
  Calls Try.prog 29 #[.slice q n c, .int .i64 width] w (frsPost n l width w)
/-- A number that an int holds. -/
def wfI (x : Int) : Prop := (Lit.int .i64 x).wf = true
theorem wfI_of {x : Int} (h1 : -1000000 ≤ x) (h2 : x ≤ 1000000) : wfI x := WalkArith.wf_i64 ⟨by omega, by omega⟩
def JoiC : Prop := ∀ (q : Option Addr) (n c : Nat) (l : Nat → Int) (q' : Option Addr) (n' c' : Nat) (l' : Nat → Int) (w : World), n ≤ 1000 → n' ≤ 1000 → (∀ j, j < n → wfI (l j)) → (∀ j, j < n' → wfI (l' j)) → rdL w q n l → rdL w q' n' l' →
  Calls Try.prog 36 #[.slice q n c, .slice q' n' c'] w fun e w' => (n = n' → clsPost n (fun x => (clA (joR l l') x : Nat)) (cntT (isH (joR l l')) n : Nat) w e w') ∧ (n ≠ n' → clsPost 0 (fun _ => 0) 0 w e w')
end Go.Proofs.Ytefpoapbodbenaa

namespace Go.Proofs.Ytefpoapbodbenaa
open Go.RowKit

def putF (f : Nat → Int) (j : Nat) (x : Int) : Nat → Int := fun y => if y = j then x else f y
theorem fnv_set (f : Nat → Int) (m j : Nat) (x : Int) : (fnv f m).set j (.int .i64 x) = fnv (putF f j x) m := by
  unfold fnv
  apply List.ext_getElem
  · simp
  · intro i h1 h2
    simp only [List.getElem_set, List.getElem_map, List.getElem_range, putF]
    by_cases h : i = j
    · rw [if_pos h.symm, if_pos h]
    · rw [if_neg (fun e => h e.symm), if_neg h]
theorem fnv_congr {f g : Nat → Int} {m : Nat} (h : ∀ j, j < m → f j = g j) : fnv f m = fnv g m := by
  unfold fnv
  exact List.map_congr_left fun i hi => by rw [h i (List.mem_range.1 hi)]
theorem made_fnv (m : Nat) : (madeCells #[Value.int .i64 0] m).toList = fnv (fun _ => 0) m := by
  unfold madeCells fnv
  apply List.ext_getElem
  · simp
  · intro i h1 h2
    simp [Nat.mod_one]
/-- A row of m numbers that the call owns. -/
def ipR (w : World) (base g m : Nat) (f : Nat → Int) : Prop := w.ownsRow base 3 1 (.slice (some ⟨g, 0, none⟩) m m) m (fnv f m)
theorem ipR.cell {w : World} {base g m : Nat} {f : Nat → Int} (h : ipR w base g m f) (j : Nat) (hj : j < m) : w.cell? ⟨g, j, none⟩ = some (.int .i64 (f j)) := by
  rw [World.ownsRow.cellAt h j (by omega)]; exact fnv_at f m j hj
theorem ipR.free {w : World} {base g m : Nat} {f : Nat → Int} (h : ipR w base g m f) (j : Nat) : w.frozen? ⟨g, j, none⟩ = false := World.ownsRow.frozenAt h j
theorem ipR.lt {w : World} {base g m : Nat} {f : Nat → Int} (h : ipR w base g m f) : base ≤ g ∧ g < w.heap.size := World.ownsRow.lt h g rfl
theorem ipR.below {w w' : World} {base g m : Nat} {f : Nat → Int} (h : ipR w base g m f) (hb : Below w.heap.size w w') : ipR w' base g m f := owns_below h hb
theorem ipR.put {w : World} {base g m : Nat} {f : Nat → Int} (h : ipR w base g m f) (j : Nat) (x : Int) : ipR (w.setCell ⟨g, j, none⟩ (.int .i64 x)) base g m (putF f j x) := by
  have := (World.ownsRow.stored h j (.int .i64 x)).1
  rw [fnv_set] at this
  exact this
theorem ipR.same {w : World} {base g m : Nat} {f f' : Nat → Int} (h : ipR w base g m f) (hf : ∀ j, j < m → f j = f' j) : ipR w base g m f' := by
  unfold ipR at h ⊢
  rw [← fnv_congr hf]; exact h
theorem ipR.rd {w : World} {base g m : Nat} {f : Nat → Int} (h : ipR w base g m f) : rdL w (some ⟨g, 0, none⟩) m f := fun j hj =>
  ⟨g, 0, rfl, h.lt.2, by rw [Nat.zero_add]; exact h.cell j hj⟩
theorem make_ints {w : World} {ops : Array Oper} {rest : List Oper} {o : Oper} {a : Act} {Q : Exit → Act → World → Prop} (hgd : o.guard = none) (s x : Operand)
    (ho : o.op = Op.makeSlice 22 s x) (base n : Nat) (hs : a.eval s = .int .i64 (n : Int)) (hx : a.eval x = .int .i64 (n : Int)) (hn : n ≤ 100000) (hbase : base ≤ w.heap.size)
    (h : ∀ w', ipR w' base w.heap.size n (fun _ => 0) → Below base w w' → wpList Try.prog ops Q rest (a.put o.dst (.slice (some ⟨w.heap.size, 0, none⟩) n n)) w') : wpList Try.prog ops Q (o :: rest) a w := by
  obtain ⟨i0, hi, hz0, hz1, hz2⟩ := info_parts infoInt9w
  refine wpList_make_full w hgd s x 22 ho base 3 i0 (.int .i64 0) 1 Try.underlying22 hi hz0 hz1 .i64 .i64 (n : Int) (n : Int) n hs hx rfl rfl (by rw [hz2]; omega) (by unfold maxLen; omega) hbase ?_
  intro w' h1 h2
  refine h w' ?_ ((Below.refl _ _).grown h2 hbase (fun r hr => by cases hr))
  have e : (madeCells (Value.int .i64 0).cells (n * 1)).toList = fnv (fun _ => 0) n := by
    rw [Nat.mul_one]; exact made_fnv n
  rw [e] at h1
  exact h1
end Go.Proofs.Ytefpoapbodbenaa
