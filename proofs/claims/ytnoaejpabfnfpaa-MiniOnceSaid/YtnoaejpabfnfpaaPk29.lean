/-
  The walk of mini's into: those that go to some states, one list behind the other.
  The walk of the parts' take.
  Things that are met one after the other, and where each goes: a machine of rounds. Plain.
  The least automaton of some words, by what is left of them behind a word. Plain.
  What the thirteenth reference's Of reckons, put against the least automaton by what is left of words. Plain.
  The walks of the tenth and of the eleventh reference's Same, at any two, of any length.
  Three rows of numbers and one of bools that grow side by side, two of them named by a decided automaton's block.
-/
import Derived.Test.YtnoaejpabfnfpaaPk28
import Derived.Laws.AppendOwnNone
import Derived.Test.YtnoaejpabfnfpaaPk22
import Derived.Test.YtnoaejpabfnfpaaPk9
import Derived.Test.YtnoaejpabfnfpaaPk12
import Derived.Test.YtnoaejpabfnfpaaPk15
import Derived.BigQuiet
import Derived.Deep.QuietTactic
import Derived.Test.YtnoaejpabfnfpaaPk20
import Derived.Test.YtnoaejpabfnfpaaPk11
import Derived.Test.YtnoaejpabfnfpaaPk10
namespace Go.Proofs.Ytnoaejpabfnfpaa
open Go.RowKit

/-- A list that is read, in X. -/
def stX (X : Nat → Prop) (w : World) (p : Option Addr) (A : List Nat) : Prop := ∀ (j x : Nat), A[j]? = some x → ∃ b o, p = some ⟨b, o, none⟩ ∧ X b ∧ w.cell? ⟨b, o + j, none⟩ = some (.int .i64 (x : Int))
/-- Lists by place, read, in X. -/
def clX13 (X : Nat → Prop) (w : World) (G n : Nat) (L : Nat → List Nat) : Prop :=
  X G ∧ ∀ t, t < n → (L t = [] ∧ w.cell? ⟨G, t, none⟩ = some (.slice none 0 0)) ∨ ∃ b c, w.cell? ⟨G, t, none⟩ = some (.slice (some ⟨b, 0, none⟩) (L t).length c) ∧ X b ∧ ∀ (j x : Nat), (L t)[j]? = some x → w.cell? ⟨b, j, none⟩ = some (.int .i64 (x : Int))
section
variable {X X' : Nat → Prop} {w w' : World}
theorem stX.kp {p : Option Addr} {A : List Nat} (h : stX X w p A) (hk : kpX X w w') : stX X w' p A := fun j x hx => by
  obtain ⟨b, o, e, hb, hc⟩ := h j x hx
  exact ⟨b, o, e, hb, hk.cell13 hb hc⟩
theorem stX.imp {p : Option Addr} {A : List Nat} (h : stX X w p A) (hi : ∀ k, X k → k < w.heap.size → X' k) : stX X' w p A := fun j x hx => by
  obtain ⟨b, o, e, hb, hc⟩ := h j x hx
  exact ⟨b, o, e, hi b hb (World.block_lt_of_cell? w ⟨b, o + j, none⟩ hc), hc⟩
theorem clX13.kp {G n : Nat} {L : Nat → List Nat} (h : clX13 X w G n L) (hk : kpX X w w') : clX13 X w' G n L := ⟨h.1, fun t ht => by
  rcases h.2 t ht with ⟨h1, h2⟩ | ⟨b, c, h1, h2, h3⟩
  · exact .inl ⟨h1, hk.cell13 h.1 h2⟩
  · exact .inr ⟨b, c, hk.cell13 h.1 h1, h2, fun j x hx => hk.cell13 h2 (h3 j x hx)⟩⟩
theorem clX13.imp {G n : Nat} {L : Nat → List Nat} (h : clX13 X w G n L) (hG : X' G) (hi : ∀ k, X k → X' k) : clX13 X' w G n L := ⟨hG, fun t ht => by
  rcases h.2 t ht with h1 | ⟨b, c, h1, h2, h3⟩
  · exact .inl h1
  · exact .inr ⟨b, c, h1, hi b h2, h3⟩⟩
theorem rwX.clX13 {Y : Nat → Prop} {G n : Nat} {V : Nat → Value} {L : Nat → List Nat} (h : rwX Y w G n V L) : clX13 (fun k => G ≤ k ∧ k < w.heap.size) w G n L := ⟨⟨Nat.le_refl _, h.lt⟩, fun t ht => by
  obtain ⟨h1, -⟩ := h.cell ht
  have h2 := h.row t ht
  rcases id h2.2 with ⟨e, e2⟩ | ⟨g, cap, cur, e, _⟩
  · exact .inl ⟨List.eq_nil_of_length_eq_zero e2, by rw [h1, e]⟩
  · rw [e] at h2
    refine .inr ⟨g, cap, by rw [h1, e], World.ownsRow.lt h2 g rfl, fun j x hx => ?_⟩
    obtain ⟨b, e3, hc⟩ := spO.at12 h2 hx
    cases e3
    exact hc⟩
theorem spO.stX {base : Nat} {p : Option Addr} {c : Nat} {A : List Nat} (h : spO w base (.slice p A.length c) A) : stX (fun k => base ≤ k ∧ k < w.heap.size) w p A := fun j x hx => by
  obtain ⟨b, e, hc⟩ := h.at12 hx
  subst e
  exact ⟨b, 0, rfl, World.ownsRow.lt (show w.ownsRow base 3 1 (.slice (some ⟨b, 0, none⟩) A.length c) _ _ from h) b rfl, by rw [Nat.zero_add]; exact hc⟩
end
theorem append_it {w : World} {ops : Array Oper} {rest : List Oper} {o : Oper} {a : Act} {Q : Exit → Act → World → Prop} (hgd : o.guard = none) (s x : Operand)
    (ho : o.op = .call { callee := .builtin .append, args := #[s, x], argTypes := #[22, 22] }) (base : Nat) (v : Value) (B : List Nat) (hs : a.eval s = v)
    (hown : spO w base v B) (g c : Nat) (A : List Nat) (hx : a.eval x = .slice (some ⟨g, 0, none⟩) A.length c)
    (hcell : ∀ (j y : Nat), A[j]? = some y → w.cell? ⟨g, j, none⟩ = some (.int .i64 (y : Int))) (hlen : B.length + A.length ≤ 1000000) (hbase : base ≤ w.heap.size)
    (h : ∀ v' w', spO w' base v' (B ++ A) → w.grownBy w' v.ownBlock → wpList Try.prog ops Q rest (a.put o.dst v') w') : wpList Try.prog ops Q (o :: rest) a w := by
  obtain ⟨i0, hi, hz0, hz1, hz2⟩ := info_parts infoInt9w
  refine Go.wpList_append_own_at w hgd s x 22 ho base 3 i0 (.int .i64 0) 1 8 Try.underlying22 hi hz0 hz1 hz2 rfl (by decide) v B.length (spl9 B) hs hown ⟨g, 0, none⟩ A.length c (spl9 A) hx (by rw [spl9_len]; omega) ?_ (spl9_cell _) (by unfold maxLen; omega) (by omega) hbase ?_
  · intro j u hu
    have hj : j < A.length := by
      have := (List.getElem?_eq_some_iff.1 hu).1
      rwa [spl9_len] at this
    have e : (⟨g, 0, none⟩ : Addr).add j = ⟨g, j, none⟩ := by unfold Addr.add; split <;> simp_all
    rw [e, hcell j A[j] (by simp)]
    simp [spl9, hj] at hu
    rw [hu]
  · intro v' w' h1 h2 _ _
    refine h v' w' ?_ h2
    unfold spO
    rw [spl9_append, List.length_append]
    exact h1
theorem flat_len {L : Nat → List Nat} {n : Nat} (hL : ∀ t, t < n → (L t).length ≤ 1000) : ∀ (A : List Nat), (∀ a, a ∈ A → a < n) → (A.flatMap L).length ≤ A.length * 1000
  | [], _ => Nat.zero_le _
  | a :: A, h => by
    have h1 := flat_len hL A fun x hx => h x (List.mem_cons_of_mem _ hx)
    have h2 := hL a (h a (List.mem_cons_self ..))
    rw [List.flatMap_cons, List.length_append, List.length_cons, Nat.succ_mul]
    omega

set_option maxRecDepth 100000 in
set_option maxHeartbeats 4000000 in
theorem into13 (X : Nat → Prop) (G n cG : Nat) (L : Nat → List Nat) (A : List Nat) (pa : Option Addr) (m ca : Nat) (w : World) (hc : clX13 X w G n L) (hs : stX X w pa A) (hm : A.length = m) (hA : ∀ a, a ∈ A → a < n) (hn : n ≤ 1000) (hl : m ≤ 1000) (hL : ∀ t, t < n → (L t).length ≤ 1000) :
    Calls Try.prog 27 #[.slice (some ⟨G, 0, none⟩) n cG, .slice pa m ca] w fun e w' => ∃ p k c, e = .returned (.slice p k c) ∧ (A.flatMap L).length = k ∧ spO w' w.heap.size (.slice p k c) (A.flatMap L) ∧ Below w.heap.size w w' := by
  obtain ⟨D, hD⟩ : ∃ D, w.heap.size = D := ⟨_, rfl⟩
  have HD := Lib.hid hD
  have HC := Lib.hid (fun w' (h : Below D w w') => hc.kp (hD ▸ h |> kpX.of_below))
  have HS := Lib.hid (fun w' (h : Below D w w') => hs.kp (hD ▸ h |> kpX.of_below))
  have HO0 : Hid (spO w D (.slice none 0 0) ((A.take 0).flatMap L)) := Lib.hid ⟨rfl, .inl ⟨rfl, rfl⟩⟩
  have HA := Lib.hid hA; have HL := Lib.hid hL; have HM := Lib.hid hm
  have HFL : Hid (∀ j, j ≤ m → ((A.take j).flatMap L).length ≤ 1000000) := Lib.hid fun j hj => by
    have h1 := flat_len hL (A.take j) fun a ha => hA a (List.mem_of_mem_take ha)
    have h2 : (A.take j).length ≤ j := by rw [List.length_take]; omega
    have h3 : (A.take j).length * 1000 ≤ 1000 * 1000 := Nat.mul_le_mul_right _ (by omega)
    omega
  have m0 : (0 : Int) ≤ (m : Int) := by omega
  have m1 : (m : Int) ≤ 1000 := by omega
  have n0 : (0 : Int) ≤ (n : Int) := by omega
  have n1 : (n : Int) ≤ 1000 := by omega
  have HB0 : Hid (Below D w w) := Lib.hid (Below.refl _ _)
  clear hc hs hA hL hm hD
  go_enter Try.func27, Try.ntmps27
  go_wp2_with fail
  go_loopw [5, 10] (fun sv jv wr => ∃ (j : Nat) (p : Option Addr) (k c : Nat), j ≤ m ∧ jv = .int .i64 j ∧ sv = .slice p k c ∧ Hid (((A.take j).flatMap L).length = k) ∧ Hid (spO wr D (.slice p k c) ((A.take j).flatMap L)) ∧ Hid (Below D w wr)) (fun _ jv _ => m - (intOf jv).toNat)
  case atStart => exact ⟨0, none, 0, 0, Nat.zero_le _, rfl, rfl, Lib.hid rfl, HO0, HB0⟩
  case round =>
    clear HO0 HB0
    obtain ⟨j, p, k, c, hj, rfl, rfl, HK, HO, HB⟩ := hrel
    by_cases hlt : j < m
    · have j0 : (0 : Int) ≤ (j : Int) := by omega
      have j1 : (j : Int) < (m : Int) := by omega
      obtain ⟨t, ht⟩ : ∃ t, A[j]? = some t := ⟨A[j]'(by have := HM.out; omega), by simp⟩
      have htn := HA.out t (List.mem_of_getElem? ht)
      obtain ⟨ab, ao, rfl, -, hca⟩ := HS.out _ HB.out j t ht
      have t0 : (0 : Int) ≤ (t : Int) := by omega
      have t1 : (t : Int) < (n : Int) := by omega
      have htk : (A.take (j + 1)).flatMap L = (A.take j).flatMap L ++ L t := by rw [List.take_add_one, ht]; simp
      have HTK := Lib.hid htk
      have hsz : D ≤ wr.heap.size := by have := HB.out.size; have := HD.out; omega
      have HFJ := Lib.hid (HFL.out (j + 1) (by omega))
      rcases (HC.out _ HB.out).2 t htn with ⟨e1, e2⟩ | ⟨b, cb, e1, -, e3⟩
      · have HO2 : Hid (spO wr D (.slice p k c) ((A.take (j + 1)).flatMap L)) := Lib.hid (by rw [HTK.out, e1, List.append_nil]; exact HO.out)
        have HK2 : Hid (((A.take (j + 1)).flatMap L).length = k) := Lib.hid (by rw [HTK.out, e1, List.append_nil]; exact HK.out)
        have HROW : Hid (wr.ownsRow D 3 1 (.slice p k c) ((A.take j).flatMap L).length (spl9 ((A.take j).flatMap L))) := Lib.hid HO.out
        obtain ⟨i0, hi, -, -, -⟩ := info_parts infoInt9w
        clear ht htn htk hsz e1
        go_wp2_with (at_builtin; refine wpList_append_own_none rfl _ _ 22 rfl D 3 i0 1 Try.underlying22 hi _ _ _ rfl HROW.out rfl ?_)
        go_wp2_with fail
        go_roundw
        case rel => exact ⟨j + 1, _, _, _, by omega, by go_num, rfl, HK2, HO2, HB⟩
        case measure => simp [intOf]; omega
      · have HE3 := Lib.hid e3
        have HLT : Hid (((A.take j).flatMap L).length + (L t).length ≤ 1000000) := Lib.hid (by
          have := HFJ.out
          rw [HTK.out, List.length_append] at this
          omega)
        have HSZ := Lib.hid hsz
        clear ht htn htk hsz e3
        go_wp2_with (at_builtin; refine append_it rfl _ _ rfl D _ _ rfl HO.out b cb (L t) rfl HE3.out HLT.out HSZ.out ?_; intro v' w3 hown hgrow; have HO3 := Lib.hid hown; have HG := Lib.hid hgrow; clear hown hgrow; refine Hid.out ?_)
        obtain ⟨p', c', hv'⟩ := spO_of HO3.out
        obtain ⟨k', hk'⟩ : ∃ k', ((A.take j).flatMap L ++ L t).length = k' := ⟨_, rfl⟩
        rw [hk'] at hv'
        subst hv'
        have HO2 : Hid (spO w3 D (.slice p' k' c') ((A.take (j + 1)).flatMap L)) := Lib.hid (by rw [HTK.out]; exact HO3.out)
        have HK2 : Hid (((A.take (j + 1)).flatMap L).length = k') := Lib.hid (by rw [HTK.out]; exact hk')
        have HB2 : Hid (Below D w w3) := Lib.hid (HB.out.grown HG.out HSZ.out fun r hr => (World.ownsRow.lt HO.out r hr).1)
        clear HO3 HG HO HB HSZ hk' e1 hca HE3
        refine Lib.hid ?_
        go_wp2_with fail
        go_roundw
        case rel => exact ⟨j + 1, _, _, _, by omega, by go_num, rfl, HK2, HO2, HB2⟩
        case measure => simp [intOf]; omega
    · obtain rfl : j = m := by omega
      have HE : Hid ((A.flatMap L).length = k ∧ spO wr w.heap.size (.slice p k c) (A.flatMap L) ∧ Below w.heap.size w wr) := Lib.hid (by
        have h1 := HK.out; have h2 := HO.out; have h3 := HB.out
        rw [show A.take j = A from List.take_of_length_le (by have := HM.out; omega)] at h1 h2
        rw [HD.out]
        exact ⟨h1, h2, h3⟩)
      clear HK HO HB
      go_wp2_with fail
      go_returns
      exact ⟨p, k, c, rfl, HE.out⟩
end Go.Proofs.Ytnoaejpabfnfpaa

namespace Go.Proofs.Ytnoaejpabfnfpaa
open Go.RowKit

theorem lP_take (n : Nat) (V : Nat → Value) (s : Ps) (b : Nat) (Q : List Nat) (hQ : s.Q = Q ++ [b]) (v : Value) : upd (upd (lP n V s) 4 ((lP n V s 4).take Q.length)) 3 ((lP n V s 3).set b (.bool false)) = lP n (upd V 4 v) (tkP s b Q) := by
  refine fn_ext rfl ?_ ?_ ?_ ?_ (fun k => ?_) fun k => ?_
  · exact vls_ext fun j _ => (upd_ne _ _ (rS_ne j (by decide))).symm
  · exact vls_ext fun j _ => (upd_ne _ _ (rT_ne j (by decide))).symm
  · exact bls_set s.W s.nb b false
  · show (spl9 s.Q).take Q.length = spl9 Q
    rw [hQ, spl9_append, ← spl9_len Q, List.take_left]
  · rw [upd_ne _ _ (rS_ne k (by decide)), upd_ne _ _ (rS_ne k (by decide)), lPS, lPS]; rfl
  · rw [upd_ne _ _ (rT_ne k (by decide)), upd_ne _ _ (rT_ne k (by decide)), lPT, lPT]; rfl

set_option maxRecDepth 100000 in
set_option maxHeartbeats 4000000 in
theorem take13 (X : Nat → Prop) (h n b : Nat) (Q : List Nat) (V : Nat → Value) (s : Ps) (w0 w : World) (H : PtM X w0 w h n V s) (hQ : s.Q = Q ++ [b]) (hb : b < s.nb) (hnb : s.nb ≤ 2000) (hq : Q.length ≤ 2000) :
    Calls Try.prog 26 #[.pointer (some ⟨h, 0, none⟩)] w fun e w' => e = .returned (.int .i64 (b : Int)) ∧ ∃ v, PtM X w0 w' h n (upd V 4 v) (tkP s b Q) := by
  obtain ⟨p3, c3, e3, g3⟩ := H.v3
  obtain ⟨p4, c4, e4, g4⟩ := H.v4
  have hql : s.Q.length = Q.length + 1 := by rw [hQ]; simp
  obtain ⟨g, rfl⟩ := g3 (by omega)
  obtain ⟨a, rfl⟩ := g4 (by omega)
  obtain ⟨q, hqq⟩ : ∃ q, Q.length = q := ⟨_, rfl⟩
  have hbq : (spl9 s.Q)[q]? = some (.int .i64 (b : Int)) := by rw [hQ, ← hqq]; simp [spl9]
  obtain ⟨j1, -⟩ := Fm.cell H 4 e4 (j := q) (u := .int .i64 (b : Int)) (by rw [lP4]; exact hbq)
  obtain ⟨-, -, -, y3, y4⟩ := H.st.cells
  have f4 := H.st.free 4
  have hl := H.st.lt
  rw [hql, hqq] at e4
  rw [e3] at y3
  rw [e4] at y4
  have H1 := (Fm.short H 4 e4 q (by omega)).put 4 (by decide) (.slice (some ⟨a, 0, none⟩) q c4)
  obtain ⟨W1, hW1⟩ : ∃ W1, w.setCell ⟨h, 4, none⟩ (.slice (some ⟨a, 0, none⟩) q c4) = W1 := ⟨_, rfl⟩
  rw [hW1] at H1
  obtain ⟨k1, k2, k3, -⟩ := Fm.cell H1 3 (show upd V 4 _ 3 = _ from e3) (j := b) (u := .bool (s.W b)) (by show (lP n V s 3)[b]? = _; rw [lP3]; exact bls_at _ _ _ hb)
  have H2 := Fm.stored H1 3 (show upd V 4 _ 3 = _ by rw [show upd V 4 (Value.slice (some ⟨a, 0, none⟩) q c4) 3 = V 3 from rfl, e3]; show _ = Value.slice _ (lP n V s 3).length _; rw [lP3, bls_len]) b (.bool false)
  obtain ⟨-, -, -, z3, -⟩ := H1.st.cells
  rw [show upd V 4 (Value.slice (some ⟨a, 0, none⟩) q c4) 3 = V 3 from rfl, e3] at z3
  have HFIN : Hid (∃ v, PtM X w0 (W1.setCell ⟨g, b, none⟩ (.bool false)) h n (upd V 4 v) (tkP s b Q)) := Lib.hid ⟨.slice (some ⟨a, 0, none⟩) q c4, by
    unfold PtM
    rw [← lP_take n V s b Q hQ, hqq]
    exact H2⟩
  have HW1 := Lib.hid hW1
  have b0 : (0 : Int) ≤ (b : Int) := by omega
  have b1 : (b : Int) < (s.nb : Int) := by omega
  have b2 : (s.nb : Int) ≤ 2000 := by omega
  have q1 : (q : Int) ≤ 2000 := by omega
  have q0 : (0 : Int) ≤ (q : Int) := by omega
  have q2 : ((q + 1 : Nat) : Int) - 1 = (q : Int) := by omega
  have q3 : (q : Int) < ((q + 1 : Nat) : Int) := by omega
  have q4 : q ≤ c4 := by
    have := Fm.row H 4
    rw [e4, lP4, spl9_len, hql, hqq] at this
    rcases this.2 with ⟨e, _⟩ | ⟨_, cap, cur, e, _, _, h2, _⟩
    · cases e
    · cases e
      omega
  have q5 : (q : Int) ≤ (c4 : Int) := by omega
  clear hW1 H1 H2 H e3 e4 hqq hq hql hbq hQ
  go_enter Try.func26, Try.ntmps26
  go_upto_region 4 with (fail)
  rw [HW1.out]
  clear y3 y4 j1 f4
  go_wp2_with fail
  go_returns
  exact ⟨rfl, HFIN.out⟩
end Go.Proofs.Ytnoaejpabfnfpaa

namespace Go.Proofs.Ytnoaejpabfnfpaa

section
variable {α : Type}
/-- The place of a thing among some; how many they are, if it is none of them. -/
noncomputable def ixG (L : List α) (x : α) : Nat := L.findIdx fun y => @decide (y = x) (Classical.propDecidable _)
theorem ixG_le (L : List α) (x : α) : ixG L x ≤ L.length := List.findIdx_le_length
noncomputable def adG (L : List α) (x : α) : List α := if ixG L x < L.length then L else L ++ [x]
theorem ixG_at {L : List α} {x : α} (h : ixG L x < L.length) : L[ixG L x]? = some x := by
  rw [List.getElem?_eq_getElem h]
  have := List.findIdx_getElem (p := fun y => @decide (y = x) (Classical.propDecidable _)) (xs := L) (w := h)
  exact congrArg some (@of_decide_eq_true _ (Classical.propDecidable _) this)
theorem ixG_mem {L : List α} {x : α} : ixG L x < L.length ↔ x ∈ L := by
  constructor
  · intro h
    exact List.mem_of_getElem? (ixG_at h)
  · intro h
    unfold ixG
    exact List.findIdx_lt_length.2 ⟨x, h, by simp⟩
theorem ixG_is {L : List α} (hn : L.Nodup) {i : Nat} {x : α} (h : L[i]? = some x) : ixG L x = i := by
  have hi : i < L.length := by
    rcases Nat.lt_or_ge i L.length with g | g
    · exact g
    · rw [List.getElem?_eq_none g] at h; cases h
  have hlt : ixG L x < L.length := ixG_mem.2 (List.mem_of_getElem? h)
  have h2 := ixG_at hlt
  rw [List.getElem?_eq_getElem hi] at h
  rw [List.getElem?_eq_getElem hlt] at h2
  exact (List.getElem_inj hn).1 ((Option.some.inj h2).trans (Option.some.inj h).symm)
theorem adG_nodup {L : List α} (h : L.Nodup) (x : α) : (adG L x).Nodup := by
  unfold adG
  split
  · exact h
  · rename_i g
    rw [ixG_mem] at g
    rw [List.nodup_append]
    refine ⟨h, by simp, ?_⟩
    intro a ha b hb e
    have : b = x := by simpa using hb
    subst this
    exact g (e ▸ ha)
theorem adG_len (L : List α) (x : α) : L.length ≤ (adG L x).length ∧ (adG L x).length ≤ L.length + 1 := by
  unfold adG
  split
  · omega
  · simp
theorem adG_old {L : List α} {x : α} {j : Nat} (h : j < L.length) : (adG L x)[j]? = L[j]? := by
  unfold adG
  split
  · rfl
  · rw [List.getElem?_append_left h]
theorem adG_at (L : List α) (x : α) : (adG L x)[ixG L x]? = some x := by
  unfold adG
  split
  · rename_i h; exact ixG_at h
  · rename_i h
    have e : ixG L x = L.length := by have := ixG_le L x; omega
    rw [e]; simp
theorem adG_mem {L : List α} {x y : α} : y ∈ adG L x ↔ y ∈ L ∨ y = x := by
  unfold adG
  split
  · rename_i h
    constructor
    · exact .inl
    · rintro (g | rfl)
      · exact g
      · exact ixG_mem.1 h
  · simp
/-- What is met, and where each goes. -/
abbrev Mt (α : Type) := List α × List Nat
noncomputable def clG (go : Nat → α → α) (X : α) : Nat → Mt α → Mt α
  | 0, s => s
  | c + 1, s => (adG (clG go X c s).1 (go c X), (clG go X c s).2 ++ [ixG (clG go X c s).1 (go c X)])
noncomputable def atG (go : Nat → α → α) (width : Nat) (T0 : α) : Nat → Mt α
  | 0 => ([T0], [])
  | a + 1 => match (atG go width T0 a).1[a]? with
    | none => atG go width T0 a
    | some X => clG go X width (atG go width T0 a)
variable {go : Nat → α → α} {width : Nat} {T0 : α}
theorem clG_len {X : α} {s : Mt α} : ∀ c, s.1.length ≤ (clG go X c s).1.length ∧ (clG go X c s).1.length ≤ s.1.length + c ∧ (clG go X c s).2.length = s.2.length + c
  | 0 => ⟨Nat.le_refl _, Nat.le_refl _, rfl⟩
  | c + 1 => by
    obtain ⟨h1, h2, h3⟩ := clG_len (X := X) (s := s) c
    have h4 := adG_len (clG go X c s).1 (go c X)
    refine ⟨?_, ?_, ?_⟩
    · show _ ≤ (adG _ _).length; omega
    · show (adG _ _).length ≤ _; omega
    · show (_ ++ [_]).length = _
      rw [List.length_append, h3]; rfl
theorem clG_old {X : α} {s : Mt α} {j : Nat} (hj : j < s.1.length) : ∀ c, (clG go X c s).1[j]? = s.1[j]?
  | 0 => rfl
  | c + 1 => by
    show (adG _ _)[j]? = _
    rw [adG_old (Nat.lt_of_lt_of_le hj (clG_len c).1), clG_old hj c]
theorem clG_nodup {X : α} {s : Mt α} (h : s.1.Nodup) : ∀ c, (clG go X c s).1.Nodup
  | 0 => h
  | c + 1 => adG_nodup (clG_nodup h c) _
theorem clG_mem {X : α} {s : Mt α} {y : α} : ∀ c, y ∈ (clG go X c s).1 → y ∈ s.1 ∨ ∃ d, d < c ∧ y = go d X
  | 0, h => .inl h
  | c + 1, h => by
    rcases adG_mem.1 (show y ∈ adG _ _ from h) with g | g
    · rcases clG_mem c g with g | ⟨d, h1, h2⟩
      · exact .inl g
      · exact .inr ⟨d, by omega, h2⟩
    · exact .inr ⟨c, Nat.lt_succ_self c, g⟩
theorem clG_nx {X : α} {s : Mt α} : ∀ c, (∀ j, j < s.2.length → (clG go X c s).2[j]? = s.2[j]?) ∧ ∀ d, d < c → ∃ k, (clG go X c s).2[s.2.length + d]? = some k ∧ (clG go X c s).1[k]? = some (go d X)
  | 0 => ⟨fun _ _ => rfl, fun d hd => absurd hd (Nat.not_lt_zero _)⟩
  | c + 1 => by
    obtain ⟨h1, h2⟩ := clG_nx (X := X) (s := s) c
    have hl := (clG_len (go := go) (X := X) (s := s) c).2.2
    refine ⟨fun j hj => ?_, fun d hd => ?_⟩
    · show (_ ++ [_])[j]? = _
      rw [List.getElem?_append_left (by omega)]
      exact h1 j hj
    · by_cases e : d = c
      · subst e
        refine ⟨ixG (clG go X d s).1 (go d X), ?_, adG_at _ _⟩
        show (_ ++ [_])[s.2.length + d]? = _
        rw [← hl]
        simp
      · obtain ⟨k, g1, g2⟩ := h2 d (by omega)
        refine ⟨k, ?_, ?_⟩
        · show (_ ++ [_])[s.2.length + d]? = _
          rw [List.getElem?_append_left (by omega)]
          exact g1
        · show (adG _ _)[k]? = _
          rw [adG_old (by
            rcases Nat.lt_or_ge k (clG go X c s).1.length with h | h
            · exact h
            · rw [List.getElem?_eq_none h] at g2; cases g2)]
          exact g2
theorem atG_go {a : Nat} {X : α} (h : (atG go width T0 a).1[a]? = some X) : atG go width T0 (a + 1) = clG go X width (atG go width T0 a) := by
  show (match (atG go width T0 a).1[a]? with | none => _ | some X => _) = _
  rw [h]
theorem atG_stay {a : Nat} (h : (atG go width T0 a).1.length ≤ a) : atG go width T0 (a + 1) = atG go width T0 a := by
  show (match (atG go width T0 a).1[a]? with | none => _ | some X => _) = _
  rw [List.getElem?_eq_none h]
theorem atG_mono (a : Nat) : (atG go width T0 a).1.length ≤ (atG go width T0 (a + 1)).1.length := by
  cases h : (atG go width T0 a).1[a]? with
  | none => rw [atG_stay (List.getElem?_eq_none_iff.1 h)]; exact Nat.le_refl _
  | some X => rw [atG_go h]; exact (clG_len width).1
theorem atG_le {a b : Nat} (h : a ≤ b) : (atG go width T0 a).1.length ≤ (atG go width T0 b).1.length := by
  induction b with
  | zero => have : a = 0 := by omega
            subst this; exact Nat.le_refl _
  | succ b ih =>
    by_cases e : a = b + 1
    · subst e; exact Nat.le_refl _
    · exact Nat.le_trans (ih (by omega)) (atG_mono b)
theorem atG_one (a : Nat) : 1 ≤ (atG go width T0 a).1.length := atG_le (a := 0) (Nat.zero_le a)
theorem atG_end {a b : Nat} (hab : a ≤ b) (h : (atG go width T0 a).1.length ≤ a) : atG go width T0 b = atG go width T0 a := by
  induction b with
  | zero => have : a = 0 := by omega
            subst this; rfl
  | succ b ih =>
    by_cases e : a = b + 1
    · subst e; rfl
    · have := ih (by omega)
      rw [atG_stay (by rw [this]; omega), this]
theorem atG_old {a b j : Nat} (hab : a ≤ b) (hj : j < (atG go width T0 a).1.length) : (atG go width T0 b).1[j]? = (atG go width T0 a).1[j]? := by
  induction b with
  | zero => have : a = 0 := by omega
            subst this; rfl
  | succ b ih =>
    by_cases e : a = b + 1
    · subst e; rfl
    · have := ih (by omega)
      have hl := atG_le (go := go) (width := width) (T0 := T0) (show a ≤ b by omega)
      rw [← this]
      cases h : (atG go width T0 b).1[b]? with
      | none => rw [atG_stay (List.getElem?_eq_none_iff.1 h)]
      | some X => rw [atG_go h]; exact clG_old (by omega) width
theorem atG_zero (a : Nat) : (atG go width T0 a).1[0]? = some T0 := by
  rw [atG_old (Nat.zero_le a) (by show 0 < 1; decide)]; rfl
theorem atG_nodup : ∀ a, (atG go width T0 a).1.Nodup
  | 0 => by show [T0].Nodup; simp
  | a + 1 => by
    cases h : (atG go width T0 a).1[a]? with
    | none => rw [atG_stay (List.getElem?_eq_none_iff.1 h)]; exact atG_nodup a
    | some X => rw [atG_go h]; exact clG_nodup (atG_nodup a) width
/-- Whatever holds of the first one, and is kept, holds of all. -/
theorem atG_all {P : α → Prop} (h0 : P T0) (hs : ∀ X c, P X → c < width → P (go c X)) : ∀ a X, X ∈ (atG go width T0 a).1 → P X
  | 0, X, h => by
    have : X = T0 := by simpa using (show X ∈ [T0] from h)
    subst this; exact h0
  | a + 1, X, h => by
    cases e : (atG go width T0 a).1[a]? with
    | none => rw [atG_stay (List.getElem?_eq_none_iff.1 e)] at h; exact atG_all h0 hs a X h
    | some Y =>
      rw [atG_go e] at h
      have hY := atG_all h0 hs a Y (List.mem_of_getElem? e)
      rcases clG_mem width h with g | ⟨d, hd, rfl⟩
      · exact atG_all h0 hs a X g
      · exact hs Y d hY hd
theorem atG_nx : ∀ a, (∀ b, b < a → b < (atG go width T0 b).1.length) → (atG go width T0 a).2.length = a * width ∧ ∀ b, b < a → ∀ c, c < width → ∃ k X, (atG go width T0 a).2[b * width + c]? = some k ∧ (atG go width T0 a).1[b]? = some X ∧ (atG go width T0 a).1[k]? = some (go c X)
  | 0, _ => ⟨by rw [Nat.zero_mul]; rfl, fun b hb => absurd hb (Nat.not_lt_zero _)⟩
  | a + 1, ha => by
    obtain ⟨h1, h2⟩ := atG_nx a fun b hb => ha b (by omega)
    have hal := ha a (Nat.lt_succ_self a)
    have hX := List.getElem?_eq_getElem hal
    generalize (atG go width T0 a).1[a] = X at hX
    rw [atG_go hX]
    obtain ⟨g1, g2⟩ := clG_nx (go := go) (X := X) (s := atG go width T0 a) width
    refine ⟨by rw [(clG_len width).2.2, h1, Nat.succ_mul], fun b hb c hc => ?_⟩
    by_cases e : b = a
    · subst e
      obtain ⟨k, k1, k2⟩ := g2 c hc
      rw [h1] at k1
      exact ⟨k, X, k1, by rw [clG_old hal]; exact hX, k2⟩
    · obtain ⟨k, Y, k1, k2, k3⟩ := h2 b (by omega) c hc
      have lt_of : ∀ {j : Nat} {Z : α}, (atG go width T0 a).1[j]? = some Z → j < (atG go width T0 a).1.length := fun {j Z} h => by
        rcases Nat.lt_or_ge j (atG go width T0 a).1.length with g | g
        · exact g
        · rw [List.getElem?_eq_none g] at h; cases h
      have hlt : b * width + c < (atG go width T0 a).2.length := by
        rw [h1]
        have : (b + 1) * width ≤ a * width := Nat.mul_le_mul_right width (by omega)
        rw [Nat.succ_mul] at this
        omega
      exact ⟨k, Y, by rw [g1 _ hlt]; exact k1, by rw [clG_old (lt_of k2)]; exact k2, by rw [clG_old (lt_of k3)]; exact k3⟩
/-- Where no more than N things can be met, all is done behind N rounds: each goes somewhere by each class. -/
theorem atG_full {N : Nat} (h : (atG go width T0 N).1.length ≤ N) :
    (atG go width T0 N).2.length = (atG go width T0 N).1.length * width ∧
    ∀ b, b < (atG go width T0 N).1.length → ∀ c, c < width → ∃ k X, (atG go width T0 N).2[b * width + c]? = some k ∧ (atG go width T0 N).1[b]? = some X ∧ (atG go width T0 N).1[k]? = some (go c X) := by
  have main : ∀ K, (atG go width T0 K).1.length ≤ K → ∃ a, a ≤ K ∧ (∀ b, b < a → b < (atG go width T0 b).1.length) ∧ (atG go width T0 a).1.length ≤ a := by
    intro K
    induction K with
    | zero => intro h; exact ⟨0, Nat.le_refl _, fun b hb => absurd hb (Nat.not_lt_zero _), h⟩
    | succ K ih =>
      intro h
      by_cases e : (atG go width T0 K).1.length ≤ K
      · obtain ⟨a, h1, h2, h3⟩ := ih e
        exact ⟨a, by omega, h2, h3⟩
      · by_cases g : ∀ b, b < K + 1 → b < (atG go width T0 b).1.length
        · exact ⟨K + 1, Nat.le_refl _, g, h⟩
        · simp only [Classical.not_forall] at g
          obtain ⟨b, hb, hn⟩ := g
          have hbK : (atG go width T0 b).1.length ≤ b := by omega
          rw [atG_end (show b ≤ K by omega) hbK] at e
          omega
  obtain ⟨a, h1, h2, h3⟩ := main _ h
  have e : atG go width T0 N = atG go width T0 a := atG_end h1 h3
  have hal : (atG go width T0 a).1.length = a := by
    refine Nat.le_antisymm h3 ?_
    rcases Nat.eq_zero_or_pos a with rfl | hp
    · omega
    · have g1 := h2 (a - 1) (by omega)
      have g2 := atG_le (go := go) (width := width) (T0 := T0) (show a - 1 ≤ a by omega)
      omega
  rw [e, hal]
  exact atG_nx a h2
/-- Things that can be numbered below N, each by a number of its own, are no more than N. -/
theorem atG_bound {N : Nat} (f : Nat → α) (h0 : ∃ i, i < N ∧ f i = T0) (hs : ∀ i c, i < N → c < width → ∃ j, j < N ∧ f j = go c (f i)) (a : Nat) : (atG go width T0 a).1.length ≤ N := by
  have hall : ∀ X, X ∈ (atG go width T0 a).1 → ∃ i, i < N ∧ f i = X := atG_all (P := fun X => ∃ i, i < N ∧ f i = X) h0 (fun X c ⟨i, hi, e⟩ hc => e ▸ hs i c hi hc) a
  have hnd := atG_nodup (go := go) (width := width) (T0 := T0) a
  generalize (atG go width T0 a).1 = L at hall hnd
  have key : ∀ (L : List α), (∀ X, X ∈ L → ∃ i, i < N ∧ f i = X) → L.Nodup → ∃ A : List Nat, A.length = L.length ∧ A.Nodup ∧ (∀ i, i ∈ A → i < N) ∧ ∀ i, i ∈ A → f i ∈ L := by
    intro L
    induction L with
    | nil => intro _ _; exact ⟨[], rfl, List.nodup_nil, fun _ h => absurd h List.not_mem_nil, fun _ h => absurd h List.not_mem_nil⟩
    | cons X L ih =>
      intro h hn
      obtain ⟨A, h1, h2, h3, h4⟩ := ih (fun Y hY => h Y (List.mem_cons_of_mem _ hY)) (List.nodup_cons.1 hn).2
      obtain ⟨i, hi, e⟩ := h X (List.mem_cons_self ..)
      refine ⟨i :: A, by simp [h1], List.nodup_cons.2 ⟨fun hA => (List.nodup_cons.1 hn).1 (e ▸ h4 i hA), h2⟩, fun j hj => ?_, fun j hj => ?_⟩
      · rcases List.mem_cons.1 hj with rfl | g
        · exact hi
        · exact h3 j g
      · rcases List.mem_cons.1 hj with rfl | g
        · rw [e]; exact List.mem_cons_self ..
        · exact List.mem_cons_of_mem _ (h4 j g)
  obtain ⟨A, h1, h2, h3, _⟩ := key L hall hnd
  rw [← h1]
  exact okA_le (m := N) ⟨h2, h3⟩
end
end Go.Proofs.Ytnoaejpabfnfpaa

namespace Go.Proofs.Ytnoaejpabfnfpaa

/-- The first symbol of a class. -/
def fsR (R : Nat → Nat → Bool) (c : Nat) : Nat := (fsA (fun x => (clA R x : Nat)) 259 (c : Nat)).toNat
theorem fsR_hd {R : Nat → Nat → Bool} (hR : eqR R) {y : Nat} (hy : y < 259) : fsR R (clA R y) = hdA R y := by
  have hle := hdA_le R y
  have e : (List.range 259).find? (fun i => (((clA R i : Nat) : Int) == ((clA R y : Nat) : Int))) = some (hdA R y) := by
    refine find_range (by omega) ?_ fun j hj => ?_
    · simp only [beq_iff_eq]
      have := (clA_iff hR).2 (hdA_like hR.re y)
      omega
    · rw [beq_eq_false_iff_ne]
      intro h
      have : R j y = true := (clA_iff hR).1 (by omega)
      rw [hdA_least hj] at this
      cases this
  unfold fsR fsA
  rw [e]
  simp
theorem cntT_at {T : Nat → Bool} : ∀ {m j : Nat}, j < cntT T m → ∃ y, y < m ∧ T y = true ∧ cntT T y = j
  | 0, _, h => absurd h (Nat.not_lt_zero _)
  | m + 1, j, h => by
    rw [cntT_succ] at h
    by_cases e : j < cntT T m
    · obtain ⟨y, h1, h2, h3⟩ := cntT_at e
      exact ⟨y, by omega, h2, h3⟩
    · by_cases g : T m = true
      · rw [if_pos g] at h
        exact ⟨m, Nat.lt_succ_self m, g, by omega⟩
      · rw [if_neg g] at h
        omega
theorem fsR_of {R : Nat → Nat → Bool} (hR : eqR R) {c : Nat} (h : c < cntT (isH R) 259) : fsR R c < 259 ∧ clA R (fsR R c) = c := by
  obtain ⟨y, h1, h2, h3⟩ := cntT_at h
  have hc : clA R y = c := (clA_head h2).trans h3
  have := fsR_hd hR h1
  rw [hc] at this
  have hh : hdA R y = y := by unfold isH at h2; exact beq_iff_eq.1 h2
  rw [this, hh]
  exact ⟨h1, hc⟩

section
variable (L : Lng)
/-- Two symbols that lead alike behind all words. -/
def eqY (y z : Nat) : Prop := ∀ v, okw v → der y (ders v L) = der z (ders v L)
noncomputable def syB (y z : Nat) : Bool := @decide (eqY L y z) (Classical.propDecidable _)
theorem syB_iff {y z : Nat} : syB L y z = true ↔ eqY L y z := by unfold syB; simp
theorem syB_eq : eqR (syB L) where
  re _ := (syB_iff L).2 fun _ _ => rfl
  sy _ _ h := (syB_iff L).2 fun v hv => ((syB_iff L).1 h v hv).symm
  tr _ _ _ h g := (syB_iff L).2 fun v hv => ((syB_iff L).1 h v hv).trans ((syB_iff L).1 g v hv)
noncomputable def wdL : Nat := cntT (isH (syB L)) 259
theorem wdL_pos : 0 < wdL L := by
  have := clA_lt (syB_eq L) (show 0 < 259 by decide)
  unfold wdL
  omega
theorem wdL_le : wdL L ≤ 259 := cntT_le _ _
noncomputable def goL (c : Nat) (X : Lng) : Lng := der (fsR (syB L) c) X
noncomputable def leL (N : Nat) : Mt Lng := atG (goL L) (wdL L) L N
end
section
variable {L : Lng} {N : Nat}
/-- All that is met is what is left of the words behind some word. -/
theorem leL_mem {X : Lng} (h : X ∈ (leL L N).1) : ∃ v, okw v ∧ X = ders v L :=
  atG_all (P := fun X => ∃ v, okw v ∧ X = ders v L) ⟨[], okw_nil, rfl⟩ (fun X c ⟨v, hv, e⟩ hc => ⟨v ++ [fsR (syB L) c], okw_append.2 ⟨hv, okw_cons.2 ⟨(fsR_of (syB_eq L) hc).1, okw_nil⟩⟩, by rw [ders_snoc, ← e]; rfl⟩) N X h
theorem goL_is {v : List Nat} (hv : okw v) {y : Nat} (hy : y < 259) : goL L (clA (syB L) y) (ders v L) = der y (ders v L) := by
  unfold goL
  rw [fsR_hd (syB_eq L) hy]
  exact (syB_iff L).1 (hdA_like (syB_eq L).re y) v hv
/-- Of words that an automaton accepts no more is met than it has states. -/
theorem leL_bound {x : Da} (hx : rgD x) {s : Nat} (hs : s < x.n2) (h : lnW x s = L) (a : Nat) : (leL L a).1.length ≤ x.n2 :=
  atG_bound (f := lnW x) ⟨s, hs, h⟩ (fun i c hi hc => ⟨goD x i (fsR (syB L) c), (goD_at hx hi (fsR_of (syB_eq L) hc).1).2.2, by rw [lnW_go x i (fsR_of (syB_eq L) hc).1]; rfl⟩) a
theorem leL_stop {a b : Nat} (ha : (leL L a).1.length ≤ a) (hb : (leL L b).1.length ≤ b) : leL L a = leL L b := by
  rcases Nat.le_total a b with g | g
  · exact (atG_end g ha).symm
  · exact atG_end g hb
noncomputable def leT (L : Lng) (N i : Nat) : Bool := @decide ((leL L N).1.getD i (fun _ => False) []) (Classical.propDecidable _)
/-- The least automaton. -/
noncomputable def leD (L : Lng) (N : Nat) : Da := ⟨259, fun j => ((clA (syB L) j : Nat) : Int), (wdL L : Nat), 0, (leL L N).2.length, fun j => (((leL L N).2.getD j 0 : Nat) : Int), (leL L N).1.length, leT L N⟩
theorem leD_stop {a b : Nat} (ha : (leL L a).1.length ≤ a) (hb : (leL L b).1.length ≤ b) : leD L a = leD L b := by
  unfold leD leT
  rw [leL_stop ha hb]
theorem leD_rg (h : (leL L N).1.length ≤ N) (hN : N ≤ 4096) : rgD (leD L N) := by
  have h1 := atG_full h
  have hp := wdL_pos L
  have hl := wdL_le L
  have h0 := atG_one (go := goL L) (width := wdL L) (T0 := L) N
  refine ⟨rfl, by show (1 : Int) ≤ (wdL L : Nat); omega, by show ((wdL L : Nat) : Int) ≤ 259; omega, h0, by show (leL L N).1.length ≤ 4096; omega, by show (((leL L N).2.length : Nat) : Int) = _ * _; rw [show (leL L N).2.length = (leL L N).1.length * wdL L from h1.1]; exact Int.natCast_mul _ _, Int.le_refl 0, by show (0 : Int) < ((leL L N).1.length : Nat); have : 1 ≤ (leL L N).1.length := h0; omega, fun j hj => ?_, fun j hj => ?_⟩
  · have := clA_lt (syB_eq L) hj
    show (0 : Int) ≤ ((clA (syB L) j : Nat) : Int) ∧ ((clA (syB L) j : Nat) : Int) < (wdL L : Nat)
    unfold wdL
    omega
  · show (0 : Int) ≤ (((leL L N).2.getD j 0 : Nat) : Int) ∧ (((leL L N).2.getD j 0 : Nat) : Int) < ((leL L N).1.length : Nat)
    have hj : j < (leL L N).2.length := hj
    rw [show (leL L N).2.length = (leL L N).1.length * wdL L from h1.1] at hj
    obtain ⟨k, X, k1, _, k3⟩ := h1.2 (j / wdL L) (Nat.div_lt_of_lt_mul (by rw [Nat.mul_comm]; exact hj)) (j % wdL L) (Nat.mod_lt _ hp)
    rw [Nat.mul_comm, Nat.div_add_mod] at k1
    have hk : k < (leL L N).1.length := by
      rcases Nat.lt_or_ge k (leL L N).1.length with g | g
      · exact g
      · rw [show (atG (goL L) (wdL L) L N).1[k]? = none from List.getElem?_eq_none g] at k3; cases k3
    rw [List.getD_eq_getElem?_getD, show (leL L N).2[j]? = some k from k1]
    show (0 : Int) ≤ (k : Nat) ∧ ((k : Nat) : Int) < _
    omega
/-- Where its states go. -/
theorem leD_go (h : (leL L N).1.length ≤ N) {s y : Nat} {X : Lng} (hX : (leL L N).1[s]? = some X) (hy : y < 259) : (leL L N).1[goD (leD L N) s y]? = some (der y X) := by
  have hs : s < (leL L N).1.length := by
    rcases Nat.lt_or_ge s (leL L N).1.length with g | g
    · exact g
    · rw [List.getElem?_eq_none g] at hX; cases hX
  obtain ⟨k, X', k1, k2, k3⟩ := (atG_full h).2 s hs _ (clA_lt (syB_eq L) hy)
  have e : X' = X := Option.some.inj (k2.symm.trans hX)
  subst e
  obtain ⟨v, hv, rfl⟩ := leL_mem (List.mem_of_getElem? hX)
  rw [goL_is hv hy] at k3
  have hg : goD (leD L N) s y = k := by
    unfold goD leD
    dsimp only
    rw [Int.toNat_natCast, Int.toNat_natCast, Int.toNat_natCast, List.getD_eq_getElem?_getD]
    rw [show (leL L N).2[s * wdL L + clA (syB L) y]? = some k from k1]
    rfl
  rw [hg]
  exact k3
/-- What its states accept. -/
theorem leD_ln (hL : ∀ w, L w → okw w) (h : (leL L N).1.length ≤ N) {s : Nat} {X : Lng} (hX : (leL L N).1[s]? = some X) : lnW (leD L N) s = X := by
  have key : ∀ (w : List Nat) (s : Nat) (X : Lng), (leL L N).1[s]? = some X → okw w → ((leD L N).T (runW (leD L N) s w) = true ↔ X w) := by
    intro w
    induction w with
    | nil =>
      intro s X hX _
      show leT L N s = true ↔ _
      unfold leT
      rw [List.getD_eq_getElem?_getD, hX]
      simp
    | cons y w ih =>
      intro s X hX hw
      rw [okw_cons] at hw
      rw [runW_cons, ih _ _ (leD_go h hX hw.1) hw.2]
      rfl
  obtain ⟨v, hv, e⟩ := leL_mem (List.mem_of_getElem? hX)
  funext w
  apply propext
  constructor
  · rintro ⟨h1, h2⟩; exact (key w s X hX h1).1 h2
  · intro g
    have hw : okw w := by
      rw [e] at g
      exact (okw_append.1 (hL _ g)).2
    exact ⟨hw, (key w s X hX hw).2 g⟩
theorem leD_start (hL : ∀ w, L w → okw w) (h : (leL L N).1.length ≤ N) : lnW (leD L N) 0 = L := leD_ln hL h (atG_zero N)
/-- No two of its states are alike. -/
theorem leD_apart (hL : ∀ w, L w → okw w) (h : (leL L N).1.length ≤ N) {i k : Nat} (hi : i < (leL L N).1.length) (hk : k < (leL L N).1.length) (e : lnW (leD L N) i = lnW (leD L N) k) : i = k := by
  rw [leD_ln hL h (List.getElem?_eq_getElem hi), leD_ln hL h (List.getElem?_eq_getElem hk)] at e
  exact (List.getElem_inj (atG_nodup N)).1 e
theorem rt_run (x : Da) : ∀ (v : List Nat) (s : Nat), okw v → rtE (edD x) s (runW x s v)
  | [], s, _ => .refl s
  | y :: v, s, hv => by
    rw [okw_cons] at hv
    rw [runW_cons]
    exact rtE.trans (rtE.one (edD_iff.2 (.inr ⟨y, hv.1, rfl⟩))) (rt_run x v _ hv.2)
/-- All its states are reached. -/
theorem leD_reach (hL : ∀ w, L w → okw w) (h : (leL L N).1.length ≤ N) (hN : N ≤ 4096) {s : Nat} (hs : s < (leL L N).1.length) : rtE (edD (leD L N)) 0 s := by
  obtain ⟨v, hv, e⟩ := leL_mem (List.mem_of_getElem? (List.getElem?_eq_getElem hs))
  have h1 := lnW_run (leD L N) v 0 hv
  rw [leD_start hL h, ← e, ← leD_ln hL h (List.getElem?_eq_getElem hs)] at h1
  have hlt := runW_lt (leD_rg h hN) v 0 (atG_one (go := goL L) (width := wdL L) (T0 := L) N) hv
  have h2 := leD_apart hL h hlt hs h1
  have h3 := rt_run (leD L N) v 0 hv
  rw [h2] at h3
  exact h3
end
theorem lnW_ok (x : Da) (s : Nat) : ∀ w, lnW x s w → okw w := fun _ h => h.1
/-- The least automaton of an automaton; that of one that accepts the same words is the same. -/
noncomputable def mnD (x : Da) : Da := leD (lnW x x.st.toNat) x.n2
theorem st_lt {x : Da} (hx : rgD x) : x.st.toNat < x.n2 := by
  have h1 := hx.2.2.2.2.2.2.1
  have h2 := hx.2.2.2.2.2.2.2.1
  omega
theorem mnD_bound {x : Da} (hx : rgD x) (a : Nat) : (leL (lnW x x.st.toNat) a).1.length ≤ x.n2 := leL_bound hx (st_lt hx) rfl a
theorem mnD_same {x y : Da} (hx : rgD x) (hy : rgD y) (h : lnW x x.st.toNat = lnW y y.st.toNat) : mnD x = mnD y := by
  unfold mnD
  have h1 := mnD_bound hx x.n2
  have h2 := mnD_bound hy y.n2
  rw [h] at h1 ⊢
  exact leD_stop h1 h2
theorem mnD_rg {x : Da} (hx : rgD x) : rgD (mnD x) := leD_rg (mnD_bound hx _) hx.2.2.2.2.1
theorem mnD_ln {x : Da} (hx : rgD x) : lnW (mnD x) 0 = lnW x x.st.toNat := leD_start (lnW_ok _ _) (mnD_bound hx _)
theorem mnD_le {x : Da} (hx : rgD x) : (mnD x).n2 ≤ x.n2 := mnD_bound hx _
/-- The least one of a least one is itself. -/
theorem mnD_mnD {x : Da} (hx : rgD x) : mnD (mnD x) = mnD x := mnD_same (mnD_rg hx) hx (mnD_ln hx)
theorem mnD_apart {x : Da} (hx : rgD x) {i k : Nat} (hi : i < (mnD x).n2) (hk : k < (mnD x).n2) (e : lnW (mnD x) i = lnW (mnD x) k) : i = k := leD_apart (lnW_ok _ _) (mnD_bound hx _) hi hk e
theorem mnD_reach {x : Da} (hx : rgD x) {s : Nat} (hs : s < (mnD x).n2) : rtE (edD (mnD x)) 0 s := leD_reach (lnW_ok _ _) (mnD_bound hx _) hx.2.2.2.2.1 hs
end Go.Proofs.Ytnoaejpabfnfpaa

namespace Go.Proofs.Ytnoaejpabfnfpaa

theorem rt_word {x : Da} {s t : Nat} (h : rtE (edD x) s t) : ∃ v, okw v ∧ runW x s v = t := by
  induction h with
  | refl => exact ⟨[], okw_nil, rfl⟩
  | tail _ e ih =>
    obtain ⟨v, hv, e2⟩ := ih
    rcases edD_iff.1 e with g | ⟨y, hy, g⟩
    · exact ⟨v, hv, e2.trans g⟩
    · exact ⟨v ++ [y], okw_append.2 ⟨hv, okw_cons.2 ⟨hy, okw_nil⟩⟩, by rw [runW_append, e2]; exact g⟩
/-- Two symbols lead alike behind all words just if they do from all states that are reached. -/
theorem syB_reach {x : Da} (hx : rgD x) {y z : Nat} (hy : y < 259) (hz : z < 259) :
    syB (lnW x x.st.toNat) y z = true ↔ ∀ s, s < x.n2 → wsh (edD x) x.n2 x.st.toNat s = true → clA (lnB x) (goD x s y) = clA (lnB x) (goD x s z) := by
  rw [syB_iff]
  constructor
  · intro h s _ hr
    rw [comes_iff hx (st_lt hx)] at hr
    obtain ⟨v, hv, rfl⟩ := rt_word hr
    rw [clA_iff (lnB_eq x), lnB_iff, lnW_go x _ hy, lnW_go x _ hz, lnW_run x v _ hv]
    exact h v hv
  · intro h v hv
    have hr := rt_run x v x.st.toNat hv
    have := h _ (runW_lt hx v _ (st_lt hx) hv) ((comes_iff hx (st_lt hx) _).2 hr)
    rw [clA_iff (lnB_eq x), lnB_iff, lnW_go x _ hy, lnW_go x _ hz, lnW_run x v _ hv] at this
    exact this
/-- To seek among heads alone is to seek among all. -/
theorem hdA_heads {R : Nat → Nat → Bool} (hR : eqR R) (i : Nat) : hdA (fun k i => isH R k && R k i) i = hdA R i := by
  rcases Nat.lt_or_ge (hdA R i) i with g | g
  · refine hdA_is g ?_ fun j hj => ?_
    · show (isH R (hdA R i) && R (hdA R i) i) = true
      rw [hdA_head hR, hdA_like hR.re]
      rfl
    · show (isH R j && R j i) = false
      rw [hdA_least hj, Bool.and_false]
  · have e : hdA R i = i := by have := hdA_le R i; omega
    rw [e]
    refine hdA_self fun j hj => ?_
    show (isH R j && R j i) = false
    rw [hdA_least (show j < hdA R i by omega), Bool.and_false]
/-- States that stand for what is met. -/
def stI (x : Da) (st : List Nat) (L : List Lng) : Prop := st.map (lnW x) = L ∧ ∀ t, t ∈ st → t < x.n2
noncomputable def stA (x : Da) (st : List Nat) (u : Nat) : List Nat := if ixG (st.map (lnW x)) (lnW x u) < st.length then st else st ++ [u]
theorem stI_add {x : Da} {st : List Nat} {L : List Lng} (h : stI x st L) {u : Nat} (ht : u < x.n2) : stI x (stA x st u) (adG L (lnW x u)) := by
  obtain ⟨rfl, h2⟩ := h
  unfold stA adG
  rw [List.length_map]
  split
  · exact ⟨rfl, h2⟩
  · refine ⟨by rw [List.map_append]; rfl, fun t g => ?_⟩
    rcases List.mem_append.1 g with g | g
    · exact h2 t g
    · have : t = u := by simpa using g
      subst this; exact ht
/-- The place of a block's number among those of the states. -/
theorem fsA_st {x : Da} {st : List Nat} {L : List Lng} (h : stI x st L) (u : Nat) :
    fsA (fun j => (clA (lnB x) (st.getD j 0) : Nat)) st.length (clA (lnB x) u : Nat) = if ixG L (lnW x u) < L.length then ((ixG L (lnW x u) : Nat) : Int) else -1 := by
  obtain ⟨rfl, -⟩ := h
  have hp : ∀ j, j < st.length → (((clA (lnB x) (st.getD j 0) : Nat) : Int) == ((clA (lnB x) u : Nat) : Int)) = @decide ((st.map (lnW x))[j]? = some (lnW x u)) (Classical.propDecidable _) := fun j hj => by
    rw [Bool.eq_iff_iff, beq_iff_eq]
    rw [@decide_eq_true_iff _ (Classical.propDecidable _)]
    have e1 : st.getD j 0 = st[j] := by rw [List.getD_eq_getElem?_getD, List.getElem?_eq_getElem hj]; rfl
    rw [List.getElem?_map, List.getElem?_eq_getElem hj, e1]
    show _ ↔ some (lnW x st[j]) = some (lnW x u)
    rw [Option.some_inj, ← lnB_iff, ← clA_iff (lnB_eq x)]
    omega
  unfold fsA
  by_cases g : ixG (st.map (lnW x)) (lnW x u) < (st.map (lnW x)).length
  · rw [if_pos g]
    have gl : ixG (st.map (lnW x)) (lnW x u) < st.length := by rwa [List.length_map] at g
    rw [find_range gl (by rw [hp _ gl]; simp [ixG_at g]) (fun j hj => by
      rw [hp j (by omega)]
      rw [@decide_eq_false_iff_not _ (Classical.propDecidable _)]
      intro e
      have hjl : j < (st.map (lnW x)).length := by rw [List.length_map]; omega
      have hno := List.not_of_lt_findIdx (p := fun y => @decide (y = lnW x u) (Classical.propDecidable _)) (xs := st.map (lnW x)) hj
      rw [List.getElem?_eq_getElem hjl] at e
      exact @of_decide_eq_false _ (Classical.propDecidable _) hno (Option.some.inj e))]
    rfl
  · rw [if_neg g]
    have : (List.range st.length).find? (fun j => (((clA (lnB x) (st.getD j 0) : Nat) : Int) == ((clA (lnB x) u : Nat) : Int))) = none := by
      rw [List.find?_eq_none]
      intro j hj
      rw [List.mem_range] at hj
      rw [hp j hj]
      intro e
      rw [@decide_eq_true_iff _ (Classical.propDecidable _)] at e
      exact g (ixG_mem.2 (List.mem_of_getElem? e))
    rw [this]
    rfl
end Go.Proofs.Ytnoaejpabfnfpaa

namespace Go.Proofs.Ytnoaejpabfnfpaa
open Go.RowKit

set_option maxRecDepth 100000 in
set_option maxHeartbeats 4000000 in
theorem same10n (q : Option Addr) (n c : Nat) (l : Nat → Int) (q' : Option Addr) (n' c' : Nat) (l' : Nat → Int) (r : Bool) (hr : r = true ↔ n = n' ∧ ∀ j, j < n → l j = l' j) (hn : n ≤ maxLen) (w : World) (hl : rdL w q n l) (hl' : rdL w q' n' l') :
    Calls Try.prog 12 #[.slice q n c, .slice q' n' c'] w fun e w' => e = .returned (.bool r) ∧ Below w.heap.size w w' := by
  have HL := Lib.hid hl; have HL' := Lib.hid hl'
  have hn9 : (n : Int) ≤ 9223372036854775807 := by unfold maxLen at hn; omega
  clear hn
  by_cases hnn : n = n'
  · subst hnn
    have hb : ((n : Int) != (n : Int)) = false := by simp
    have HR : Hid (r = true ↔ ∀ j, j < n → l j = l' j) := Lib.hid (hr.trans ⟨fun h => h.2, fun h => ⟨rfl, h⟩⟩)
    have n0 : (0 : Int) ≤ (n : Int) := by omega
    clear hr hl hl'
    go_enter Try.func12, Try.ntmps12
    go_wp2_with fail
    go_loopw [5] (fun iv wr => ∃ i : Nat, i ≤ n ∧ iv = .int .i64 i ∧ Hid (∀ j, j < i → l j = l' j) ∧ Hid (Below w.heap.size w wr)) (fun iv _ => n - (intOf iv).toNat)
    case atStart => exact ⟨0, Nat.zero_le _, rfl, Lib.hid (fun _ h => absurd h (Nat.not_lt_zero _)), Lib.hid (Below.refl _ _)⟩
    case round =>
      obtain ⟨i, hi, rfl, HQ, HB⟩ := hrel
      by_cases hlti : i < n
      · have i0 : (0 : Int) ≤ (i : Int) := by omega
        have i1 : (i : Int) < (n : Int) := by omega
        obtain ⟨lb, lo, rfl, hlb, hlc⟩ := (HL.out.below HB.out) i hlti
        obtain ⟨lb', lo', rfl, hlb', hlc'⟩ := (HL'.out.below HB.out) i hlti
        obtain ⟨u, hu⟩ : ∃ u, l i = u := ⟨_, rfl⟩
        obtain ⟨u', hu'⟩ : ∃ u', l' i = u' := ⟨_, rfl⟩
        have HU := Lib.hid hu; have HU' := Lib.hid hu'
        rw [hu] at hlc; rw [hu'] at hlc'
        clear hu hu'
        cases hx : (u != u')
        · have HQ2 : Hid (∀ j, j < i + 1 → l j = l' j) := Lib.hid fun j hj => by
            by_cases e : j = i
            · subst e; rw [HU.out, HU'.out]; simpa using hx
            · exact HQ.out j (by omega)
          go_wp2_with fail
          go_quiet (fail)
          have HBd := Lib.hid (below_drewN nq HB.out)
          go_wp2_with fail
          go_roundw
          case rel => exact ⟨i + 1, by omega, by go_num, HQ2, HBd⟩
          case measure => simp [intOf]; omega
        · have HE : Hid (r = false) := Lib.hid (by
            cases r with
            | false => rfl
            | true =>
              have := HR.out.1 rfl i hlti
              rw [HU.out, HU'.out] at this
              subst this
              simp at hx)
          go_wp2_with fail
          go_quiet (fail)
          have HBd := Lib.hid (below_drewN nq HB.out)
          go_wp2_with fail
          go_returns
          exact ⟨by rw [HE.out] <;> rfl, HBd.out⟩
      · obtain rfl : i = n := by omega
        have HE : Hid (r = true) := Lib.hid (HR.out.2 HQ.out)
        go_wp2_with fail
        go_returns
        exact ⟨by rw [HE.out] <;> rfl, HB.out⟩
  · have hb : ((n : Int) != (n' : Int)) = true := by simp; omega
    have HE : Hid (r = false) := Lib.hid (by
      cases r with
      | false => rfl
      | true => exact absurd (hr.1 rfl).1 hnn)
    clear hr hnn
    go_enter Try.func12, Try.ntmps12
    go_wp2_with fail
    go_returns
    exact ⟨by rw [HE.out] <;> rfl, Below.refl _ _⟩

/-- Two decided automata that are the same, entry by entry. -/
def saP (x y : Da) : Prop := (x.n0 = y.n0 ∧ ∀ j, j < x.n0 → x.l0 j = y.l0 j) ∧ (x.n1 = y.n1 ∧ ∀ j, j < x.n1 → x.l1 j = y.l1 j) ∧ x.wd = y.wd ∧ x.st = y.st ∧ x.n2 = y.n2 ∧ ∀ j, j < x.n2 → x.T j = y.T j
noncomputable def saB (x y : Da) : Bool := @decide (saP x y) (Classical.propDecidable _)
theorem saB_iff {x y : Da} : saB x y = true ↔ saP x y := by unfold saB; simp
theorem saB_no {x y : Da} (h : ¬ saP x y) : saB x y = false := by unfold saB; simp [h]
theorem saP_refl (x : Da) : saP x x := ⟨⟨rfl, fun _ _ => rfl⟩, ⟨rfl, fun _ _ => rfl⟩, rfl, rfl, rfl, fun _ _ => rfl⟩
noncomputable def sl0 (n : Nat) (l : Nat → Int) (n' : Nat) (l' : Nat → Int) : Bool := @decide (n = n' ∧ ∀ j, j < n → l j = l' j) (Classical.propDecidable _)
theorem sl0_iff {n : Nat} {l : Nat → Int} {n' : Nat} {l' : Nat → Int} : sl0 n l n' l' = true ↔ n = n' ∧ ∀ j, j < n → l j = l' j := by unfold sl0; simp
end Go.Proofs.Ytnoaejpabfnfpaa

namespace Go.Proofs.Ytnoaejpabfnfpaa
open Go.RowKit

theorem rdL.eqv13 {w : World} {p : Option Addr} {n : Nat} {l l' : Nat → Int} (h : rdL w p n l) (hl : ∀ j, j < n → l j = l' j) : rdL w p n l' := fun j hj => by
  obtain ⟨b, o, h1, h2, h3⟩ := h j hj
  exact ⟨b, o, h1, h2, by rw [← hl j hj]; exact h3⟩
def ap13 (u v : Value) : Prop := u.ownBlock = none ∨ v.ownBlock = none ∨ u.ownBlock ≠ v.ownBlock
theorem ap13.symm {u v : Value} (h : ap13 u v) : ap13 v u := h.elim (fun h => .inr (.inl h)) fun h => h.elim .inl fun h => .inr (.inr fun e => h e.symm)
/-- A row is kept where another one grows, and lies apart from it still. -/
theorem ap13.grow {w w' : World} {B e n : Nat} {u v v' : Value} {xs : List Value} (hr : w.ownsRow B e 1 u n xs) (h : ap13 u v) (hg : w.grownBy w' v.ownBlock) (hv : v'.ownBlock = v.ownBlock ∨ v'.ownBlock = some w.heap.size) : w'.ownsRow B e 1 u n xs ∧ ap13 u v' := by
  refine ⟨World.ownsRow.kept hr hg ?_, ?_⟩
  · rcases h with h | h | h
    · exact .inl h
    · cases hu : u.ownBlock with
      | none => exact .inl rfl
      | some r => right; rw [h]; simp
    · exact .inr h
  · rcases hv with e | e
    · unfold ap13
      rw [e]; exact h
    · cases hu : u.ownBlock with
      | none => exact .inl hu
      | some r =>
        right; right
        rw [hu, e]
        have := (World.ownsRow.lt hr r hu).2
        intro e2
        have : r = w.heap.size := by simpa using e2
        omega
theorem ap13.types {w : World} {b1 b2 e1 e2 s1 s2 n1 n2 : Nat} {v1 v2 : Value} {x1 x2 : List Value} (h1 : w.ownsRow b1 e1 s1 v1 n1 x1) (h2 : w.ownsRow b2 e2 s2 v2 n2 x2) (hne : e1 ≠ e2) : ap13 v1 v2 :=
  (rows_apart9 h1 h2 hne).elim .inl fun h => .inr (.inr h)

/-- Block O holds what is made, from G on lie its rows, and those of what is met and of its states. -/
structure om13 (w : World) (O G : Nat) (q : Option Addr) (c : Nat) (Wd : Int) (vm vs : Value) (lm ls ln : List Nat) (T : Nat → Bool) (a : Nat) (pn : Option Addr) (cn : Nat) (pa : Option Addr) (ca : Nat) : Prop where
  df : isDf w O q 259 c Wd 0 pn ln.length cn pa a ca
  m : spO w G vm lm
  s : spO w G vs ls
  n : spO w G (.slice pn ln.length cn) ln
  ac : w.ownsRow G 4 1 (.slice pa a ca) a (bls T a)
  ms : ap13 vm vs
  mn : ap13 vm (.slice pn ln.length cn)
  sn : ap13 vs (.slice pn ln.length cn)
  le : O < G
variable {w w' : World} {O G : Nat} {q : Option Addr} {c : Nat} {Wd : Int} {vm vs : Value} {lm ls ln : List Nat} {T : Nat → Bool} {a : Nat} {pn : Option Addr} {cn : Nat} {pa : Option Addr} {ca : Nat}
theorem om13.below (h : om13 w O G q c Wd vm vs lm ls ln T a pn cn pa ca) (hb : Below w.heap.size w w') : om13 w' O G q c Wd vm vs lm ls ln T a pn cn pa ca :=
  ⟨h.df.below hb h.df.lt, owns_below h.m hb, owns_below h.s hb, owns_below h.n hb, owns_below h.ac hb, h.ms, h.mn, h.sn, h.le⟩
/-- What the struct's block holds is kept where a row grows. -/
theorem om13.dfk {v : Value} {B e n : Nat} {xs : List Value} (h : om13 w O G q c Wd vm vs lm ls ln T a pn cn pa ca) (hr : w.ownsRow B e 1 v n xs) (hB : O < B) (hg : w.grownBy w' v.ownBlock) : isDf w' O q 259 c Wd 0 pn ln.length cn pa a ca :=
  (hg.block O h.df.lt fun e => by have := (World.ownsRow.lt hr O e.symm).1; omega).trans h.df
theorem om13.growM {v' : Value} {lm' : List Nat} (h : om13 w O G q c Wd vm vs lm ls ln T a pn cn pa ca) (hr : spO w' G v' lm') (hg : w.grownBy w' vm.ownBlock) (hv : v'.ownBlock = vm.ownBlock ∨ v'.ownBlock = some w.heap.size) : om13 w' O G q c Wd v' vs lm' ls ln T a pn cn pa ca := by
  obtain ⟨s1, s2⟩ := ap13.grow h.s h.ms.symm hg hv
  obtain ⟨n1, n2⟩ := ap13.grow h.n h.mn.symm hg hv
  exact ⟨h.dfk h.m h.le hg, hr, s1, n1, (ap13.grow h.ac (ap13.types h.ac h.m (by decide)) hg hv).1, s2.symm, n2.symm, h.sn, h.le⟩
theorem om13.growS {v' : Value} {ls' : List Nat} (h : om13 w O G q c Wd vm vs lm ls ln T a pn cn pa ca) (hr : spO w' G v' ls') (hg : w.grownBy w' vs.ownBlock) (hv : v'.ownBlock = vs.ownBlock ∨ v'.ownBlock = some w.heap.size) : om13 w' O G q c Wd vm v' lm ls' ln T a pn cn pa ca := by
  obtain ⟨s1, s2⟩ := ap13.grow h.m h.ms hg hv
  obtain ⟨n1, n2⟩ := ap13.grow h.n h.sn.symm hg hv
  exact ⟨h.dfk h.s h.le hg, s1, hr, n1, (ap13.grow h.ac (ap13.types h.ac h.s (by decide)) hg hv).1, s2, h.mn, n2.symm, h.le⟩
theorem row_far13 {w : World} {O G e n : Nat} {v : Value} {xs : List Value} (hr : w.ownsRow G e 1 v n xs) (hO : O < G) : v.ownBlock = none ∨ v.ownBlock ≠ some O := by
  cases hu : v.ownBlock with
  | none => exact .inl rfl
  | some r =>
    right
    have := (World.ownsRow.lt hr r hu).1
    intro e
    have : r = O := by simpa using e
    omega
theorem om13.growN {p' : Option Addr} {c' : Nat} {ln' : List Nat} (h : om13 w O G q c Wd vm vs lm ls ln T a pn cn pa ca) (hr : spO w' G (.slice p' ln'.length c') ln') (hg : w.grownBy w' (Value.slice pn ln.length cn).ownBlock) (hv : (Value.slice p' ln'.length c').ownBlock = (Value.slice pn ln.length cn).ownBlock ∨ (Value.slice p' ln'.length c').ownBlock = some w.heap.size) :
    isDf w' O q 259 c Wd 0 pn ln.length cn pa a ca ∧ om13 (w'.setCell ⟨O, 3, none⟩ (.slice p' ln'.length c')) O G q c Wd vm vs lm ls ln' T a p' c' pa ca := by
  obtain ⟨s1, s2⟩ := ap13.grow h.m h.mn hg hv
  obtain ⟨n1, n2⟩ := ap13.grow h.s h.sn hg hv
  have a1 := (ap13.grow h.ac (ap13.types h.ac h.n (by decide)) hg hv).1
  have d1 := h.dfk h.n h.le hg
  have gs := grown_setCell w' O 3 (.slice p' ln'.length c')
  refine ⟨d1, ?_, World.ownsRow.kept s1 gs (row_far13 s1 h.le), World.ownsRow.kept n1 gs (row_far13 n1 h.le), World.ownsRow.kept hr gs (row_far13 hr h.le), World.ownsRow.kept a1 gs (row_far13 a1 h.le), h.ms, s2, n2, h.le⟩
  have h1 := heap_setCell_same w' O 3 _ _ (.slice p' ln'.length c') d1
  unfold isDf
  rw [h1]; simp
theorem om13.growA {p' : Option Addr} {c' : Nat} {T' : Nat → Bool} (h : om13 w O G q c Wd vm vs lm ls ln T a pn cn pa ca) (hr : w'.ownsRow G 4 1 (.slice p' (a + 1) c') (a + 1) (bls T' (a + 1))) (hg : w.grownBy w' (Value.slice pa a ca).ownBlock) :
    isDf w' O q 259 c Wd 0 pn ln.length cn pa a ca ∧ om13 (w'.setCell ⟨O, 4, none⟩ (.slice p' (a + 1) c')) O G q c Wd vm vs lm ls ln T' (a + 1) pn cn p' c' := by
  have k : ∀ {v : Value} {l : List Nat}, spO w G v l → spO w' G v l := fun {v l} hs => World.ownsRow.kept hs hg (rows_apart9 hs h.ac (by decide))
  have d1 := h.dfk h.ac h.le hg
  have gs := grown_setCell w' O 4 (.slice p' (a + 1) c')
  refine ⟨d1, d1.put4 p' (a + 1) c', World.ownsRow.kept (k h.m) gs (row_far13 (k h.m) h.le), World.ownsRow.kept (k h.s) gs (row_far13 (k h.s) h.le), World.ownsRow.kept (k h.n) gs (row_far13 (k h.n) h.le), World.ownsRow.kept hr gs (row_far13 hr h.le), h.ms, h.mn, h.sn, h.le⟩
theorem om13.congr {T' : Nat → Bool} (h : om13 w O G q c Wd vm vs lm ls ln T a pn cn pa ca) (hT : ∀ j, j < a → T j = T' j) : om13 w O G q c Wd vm vs lm ls ln T' a pn cn pa ca := by
  refine ⟨h.df, h.m, h.s, h.n, ?_, h.ms, h.mn, h.sn, h.le⟩
  have e : bls T a = bls T' a := by
    unfold bls
    exact List.map_congr_left fun i hi => by rw [hT i (List.mem_range.1 hi)]
  rw [← e]; exact h.ac
theorem own_far13 {X : Nat → Prop} {w : World} {O G e n : Nat} {v : Value} {xs : List Value} (hr : w.ownsRow G e 1 v n xs) (hX : ∀ k, X k → k < G ∧ k ≠ O) (r : Nat) (h : v.ownBlock = some r) : ¬ X r := fun hx => by
  have h1 := (World.ownsRow.lt hr r h).1
  have h2 := (hX r hx).1
  omega
theorem one_far13 {X : Nat → Prop} {O G : Nat} (hX : ∀ k, X k → k < G ∧ k ≠ O) (r : Nat) (h : some O = some r) : ¬ X r := fun hx => by
  have : r = O := by simpa using h.symm
  exact (hX r hx).2 this
end Go.Proofs.Ytnoaejpabfnfpaa
