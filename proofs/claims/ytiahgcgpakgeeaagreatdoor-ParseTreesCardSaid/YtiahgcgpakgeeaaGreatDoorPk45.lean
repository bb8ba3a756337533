/-
  The walk of the fifth laws' awake: the page's examples hold.
  Same of what Of tells twice; what Of's answers are, as values.
-/
import Derived.Test.YtiahgcgpakgeeaaGreatDoorPk44
import Derived.Test.YtiahgcgpakgeeaaGreatDoorPk40
namespace Go.Proofs.YtiahgcgpakgeeaaGreatDoor
open Go.RowKit

theorem nds_get (l : List Nd) (j : Nat) (h : j < l.length) (x : Nat) (hx : x < 7) : (nds l)[j * 7 + x]? = (ncs l[j])[x]? := by
  induction l generalizing j with
  | nil => simp at h
  | cons r l ih =>
    have e : nds (r :: l) = ncs r ++ nds l := rfl
    have e7 : (ncs r).length = 7 := rfl
    rw [e]
    cases j with
    | zero => rw [List.getElem?_append_left (by omega)]; simp
    | succ j =>
      rw [List.getElem?_append_right (by omega), e7, show (j + 1) * 7 + x - 7 = j * 7 + x by omega]
      exact ih j (by simpa using h)
theorem nfn_get (l : List Nd) (j : Nat) (h : j < l.length) : nfn l j = l[j] := by unfold nfn; rw [List.getD_eq_getElem?_getD, List.getElem?_eq_getElem h]; rfl
theorem at_add {b o j : Nat} : ((⟨b, o, none⟩ : Addr).add j) = ⟨b, o + j, none⟩ := by unfold Addr.add; split <;> simp_all
/-- A row of nodes that a call made, not empty: its nodes. -/
theorem nds_own {w : World} {base : Nat} {e : TypeId} {v : Value} {l : List Nd} (h : w.ownsRow base e 7 v l.length (nds l)) (hl : 1 ≤ l.length) : ∃ g cap, v = .slice (some ⟨g, 0, none⟩) l.length cap ∧ rdN w g 0 l.length (nfn l) := by
  obtain ⟨g, cap, rfl, _, hg, hc⟩ := owns_block h hl
  refine ⟨g, cap, rfl, fun j hj => ⟨hg, ?_⟩⟩
  rw [nfn_get l j hj]
  have c : ∀ x, x < 7 → ∀ v, (ncs l[j])[x]? = some v → w.cell? ⟨g, 0 + j * 7 + x, none⟩ = some v := fun x hx v hv => by
    have := hc (j * 7 + x) v (by rw [nds_get l j hj x hx]; exact hv)
    rw [at_add, Nat.zero_add] at this
    rwa [Nat.zero_add]
  exact ⟨c 0 (by decide) _ rfl, c 1 (by decide) _ rfl, c 2 (by decide) _ rfl, c 3 (by decide) _ rfl, c 4 (by decide) _ rfl, c 5 (by decide) _ rfl, c 6 (by decide) _ rfl⟩

def exA : ByteArray := { data := #[97, 98, 124, 99, 42] }
def exP : ByteArray := { data := #[40, 97] }
def smN (x : Nd) : List Int := [x.k, x.a, x.b, x.c, x.d, x.lo, x.hi]
theorem exA_summ : (patF exA).2 = (0, 0) ∧ (patF exA).1.map (fun l => (l.length, smN (nfn l 4), smN (nfn l 5))) = some (6, [7, 0, 0, 0, 0, 0, -1], [6, 0, 0, 0, 0, 0, 0]) := by decide +kernel
theorem exP_summ : (patF exP).1.isNone = true ∧ (patF exP).2 = (2, 3) := by decide +kernel

set_option maxRecDepth 100000 in
set_option maxHeartbeats 4000000 in
theorem awake5_any (w : World) (hT : Okw w) :
    Calls Tryz.prog 5 #[] w fun e w' => e = .returned (.bool true) ∧ Below w.heap.size w w' := by
  have hq1 : ∀ W, (Op.equalIn 10000 38 (.agg #[.int .i64 7, .int .u64 0, .int .u64 0, .int .u64 0, .int .u64 0, .int .i64 0, .int .i64 (-1)]) (.agg #[.int .i64 7, .int .u64 0, .int .u64 0, .int .u64 0, .int .u64 0, .int .i64 0, .int .i64 (-1)])).run Tryz.prog W = .ok true W := fun W => by rw [eq_node]; simp
  have hq2 : ∀ W, (Op.equalIn 10000 38 (.agg #[.int .i64 6, .int .u64 0, .int .u64 0, .int .u64 0, .int .u64 0, .int .i64 0, .int .i64 0]) (.agg #[.int .i64 6, .int .u64 0, .int .u64 0, .int .u64 0, .int .u64 0, .int .i64 0, .int .i64 0])).run Tryz.prog W = .ok true W := fun W => by rw [eq_node]; simp
  have HQ1 := Lib.hid (cpat_any exA w hT)
  have HQ2 := Lib.hid (fun w hT => cpat_any exP w hT)
  have hA := exA_summ
  have hP := exP_summ
  obtain ⟨RA, hRA⟩ : ∃ R, patF exA = R := ⟨_, rfl⟩
  obtain ⟨RP, hRP⟩ : ∃ R, patF exP = R := ⟨_, rfl⟩
  rw [hRA] at hA HQ1
  rw [hRP] at hP HQ2
  clear hRA hRP
  obtain ⟨RA1, RA2⟩ := RA
  obtain ⟨RP1, RP2⟩ := RP
  simp only at hA hP
  obtain ⟨rfl, hA⟩ := hA
  obtain ⟨hP0, rfl⟩ := hP
  obtain rfl := Option.isNone_iff_eq_none.1 hP0
  obtain ⟨l, rfl⟩ : ∃ l, RA1 = some l := by cases RA1 with | none => cases hA | some l => exact ⟨l, rfl⟩
  simp only [Option.map_some, Option.some.injEq, Prod.mk.injEq, smN, List.cons.injEq, and_true] at hA
  obtain ⟨hl, ⟨a0, a1, a2, a3, a4, a5, a6⟩, b0, b1, b2, b3, b4, b5, b6⟩ := hA
  have HT := Lib.hid hT
  have HL := Lib.hid hl
  have HN := Lib.hid (show nfn l 4 = ⟨7, 0, 0, 0, 0, 0, -1⟩ ∧ nfn l 5 = ⟨6, 0, 0, 0, 0, 0, 0⟩ from by
    refine ⟨?_, ?_⟩
    · obtain ⟨x, hx⟩ : ∃ x, nfn l 4 = x := ⟨_, rfl⟩
      rw [hx] at a0 a1 a2 a3 a4 a5 a6 ⊢
      obtain ⟨k, a, b, c, d, lo, hi⟩ := x
      simp only at a0 a1 a2 a3 a4 a5 a6
      subst a0 a1 a2 a3 a4 a5 a6
      rfl
    · obtain ⟨x, hx⟩ : ∃ x, nfn l 5 = x := ⟨_, rfl⟩
      rw [hx] at b0 b1 b2 b3 b4 b5 b6 ⊢
      obtain ⟨k, a, b, c, d, lo, hi⟩ := x
      simp only at b0 b1 b2 b3 b4 b5 b6
      subst b0 b1 b2 b3 b4 b5 b6
      rfl)
  clear a0 a1 a2 a3 a4 a5 a6 b0 b1 b2 b3 b4 b5 b6 hT hl hP0
  go_enter Tryz.func5, Tryz.ntmps5
  go_wp2_with fail
  refine HQ1.out.mono ?_
  rintro e1 w1 ⟨h1, -, hb1⟩
  obtain ⟨v, rfl, hown⟩ := h1 l rfl
  obtain ⟨g, cap, rfl, hrd⟩ := nds_own hown (by rw [HL.out]; decide)
  rw [HL.out] at hrd ⊢
  have HB1 := Lib.hid hb1; have HR1 := Lib.hid hrd
  clear h1 hb1 hown hrd HQ1
  simp only
  go_wp2_with fail
  refine (HQ2.out _ (HT.out.to HB1.out)).mono ?_
  rintro e2 w2 ⟨-, h2, hb2⟩
  obtain rfl := h2 rfl
  have HB2 := Lib.hid (HB1.out.trans (hb2.mono HB1.out.size))
  have hrd2 := HR1.out.below hb2
  have h4 := hrd2 4 (by decide)
  have h5 := hrd2 5 (by decide)
  rw [HN.out.1] at h4
  rw [HN.out.2] at h5
  unfold ndAt at h4 h5
  simp only [Nat.zero_add, Nat.reduceMul, Nat.reduceAdd] at h4 h5
  obtain ⟨hg, p0, p1, p2, p3, p4, p5, p6⟩ := h4
  obtain ⟨-, q0, q1, q2, q3, q4, q5, q6⟩ := h5
  clear h2 hb2 hrd2 HQ2 HT HB1 HR1 HN HL
  simp only
  go_wp2
  go_returns
  exact ⟨rfl, HB2.out⟩
end Go.Proofs.YtiahgcgpakgeeaaGreatDoor

namespace Go.Proofs.YtiahgcgpakgeeaaGreatDoor
open Go.RowKit

theorem same_nil (w : World) : Calls Tryz.prog 8 #[.slice none 0 0, .slice none 0 0] w fun e w' => e = .returned (.bool true) ∧ ∃ q, w' = w.drewN q := by
  go_enter Tryz.func8, Tryz.ntmps8
  go_wp2
  refine wp_loop_rounds 1 ?_
  rw [rounds_succ]; go_wp2
  go_returns
  exact ⟨rfl, 0, rfl⟩
/-- No tree of more than 512 nodes is told, and none without nodes. -/
theorem ofF_len {T : Nat → Tn} {n : Nat} {end_ : Int} {l : List Nd} (h : (ofF T n end_).1 = some l) : 1 ≤ l.length ∧ l.length ≤ 512 ∧ (ofF T n end_).2 = (0, 0) ∧ (wrF T n (n + 1) 0 0).2.1 = 0 ∧ (wrF T n (n + 1) 0 0).2.2 = 0 ∧ l = (ei T n (n + 1) 0).1 := by
  unfold ofF at h ⊢
  by_cases h1 : (wrF T n (n + 1) 0 0).2.1 ≠ 0
  · rw [if_pos h1] at h; cases h
  · rw [if_neg h1] at h ⊢
    by_cases h2 : 0 < (wrF T n (n + 1) 0 0).2.2
    · rw [if_pos h2] at h; cases h
    · rw [if_neg h2] at h ⊢
      by_cases h3 : 512 < (ei T n (n + 1) 0).1.length
      · rw [if_pos h3] at h; cases h
      · rw [if_neg h3] at h ⊢
        have := Option.some.inj h
        subst this
        have hok := (ei_ok T n (n + 1)) 0 (by omega) (by omega)
        exact ⟨by omega, by omega, rfl, by omega, by omega, rfl⟩
theorem patF_len {p : ByteArray} {l : List Nd} (h : (patF p).1 = some l) : 1 ≤ l.length ∧ l.length ≤ 512 := by
  unfold patF at h
  by_cases h1 : 200 < p.size
  · rw [if_pos h1] at h; cases h
  · rw [if_neg h1] at h
    cases ht : (toks p).1 with
    | none => rw [ht] at h; cases h
    | some tl => rw [ht] at h; exact ⟨(ofF_len h).1, (ofF_len h).2.1⟩
/-- Same, of what is told twice of one thing. -/
theorem same_of {r : Option (List Nd) × Int × Int} (hl : ∀ l, r.1 = some l → 1 ≤ l.length ∧ l.length ≤ 512) {w w1 w2 : World} {v v2 : Value} {x y : Value} (h1 : ofPost r w (.returned (.tuple #[v, x, y])) w1) (h2 : ofPost r w1 (.returned (.tuple #[v2, x, y])) w2) :
    (∃ q n c q' n' c', v = .slice q n c ∧ v2 = .slice q' n' c') ∧ Calls Tryz.prog 8 #[v, v2] w2 fun e w' => e = .returned (.bool true) ∧ ∃ q, w' = w2.drewN q := by
  cases hr : r.1 with
  | none =>
    have e1 := h1.2.1 hr
    have e2 := h2.2.1 hr
    simp at e1 e2
    have a1 := e1.1
    have a2 := e2.1
    subst a1 a2
    exact ⟨⟨_, _, _, _, _, _, rfl, rfl⟩, same_nil w2⟩
  | some l =>
    obtain ⟨u, e1, o1⟩ := h1.1 l hr
    obtain ⟨u2, e2, o2⟩ := h2.1 l hr
    simp at e1 e2
    have a1 := e1.1
    have a2 := e2.1
    subst a1 a2
    obtain ⟨g1, g2⟩ := hl l hr
    obtain ⟨b, c, rfl, hb⟩ := nds_own o1 g1
    obtain ⟨b', c', rfl, hb'⟩ := nds_own o2 g1
    exact ⟨⟨_, _, _, _, _, _, rfl, rfl⟩, same_is (nfn l) (nfn l) l.length (fun _ _ => rfl) (by omega) _ _ _ _ _ _ w2 (hb.below h2.2.2) hb'⟩
end Go.Proofs.YtiahgcgpakgeeaaGreatDoor
