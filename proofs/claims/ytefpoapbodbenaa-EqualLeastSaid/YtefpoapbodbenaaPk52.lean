/-
  The walk of mini's into: those that go to some states, one list behind the other.
  The walk of the parts' take.
-/
import Derived.Test.YtefpoapbodbenaaPk51
import Derived.Laws.AppendOwnNone
import Derived.Test.YtefpoapbodbenaaPk46
namespace Go.Proofs.Ytefpoapbodbenaa
open Go.RowKit

/-- A list that is read, in X. -/
def stX (X : Nat → Prop) (w : World) (p : Option Addr) (A : List Nat) : Prop := ∀ (j x : Nat), A[j]? = some x → ∃ b o, p = some ⟨b, o, none⟩ ∧ X b ∧ w.cell? ⟨b, o + j, none⟩ = some (.int .i64 (x : Int))
/-- Lists by place, read, in X. -/
def clX13 (X : Nat → Prop) (w : World) (G n : Nat) (L : Nat → List Nat) : Prop :=
  X G ∧ ∀ t, t < n → (L t = [] ∧ w.cell? ⟨G, t, none⟩ = some (.slice none 0 0)) ∨ ∃ b c, w.cell? ⟨G, t, none⟩ = some (.slice (some ⟨b, 0, none⟩) (L t).length c) ∧ X b ∧ ∀ (j x : Nat), (L t)[j]? = some x → w.cell? ⟨b, j, none⟩ = some (.int .i64 (x : Int))
section
variable {X X' : Nat → Prop} {w w' : World}
theorem stX.kp {p : Option Addr} {A : List Nat} (h : stX X w p A) (hk : kpX X w w') : stX X w' p A := fun j x hx => by
  obtain ⟨b, o, e, hb, hc⟩ := h j x hx
  exact ⟨b, o, e, hb, hk.cell13 hb hc⟩
theorem stX.imp {p : Option Addr} {A : List Nat} (h : stX X w p A) (hi : ∀ k, X k → k < w.heap.size → X' k) : stX X' w p A := fun j x hx => by
  obtain ⟨b, o, e, hb, hc⟩ := h j x hx
  exact ⟨b, o, e, hi b hb (World.block_lt_of_cell? w ⟨b, o + j, none⟩ hc), hc⟩
theorem clX13.kp {G n : Nat} {L : Nat → List Nat} (h : clX13 X w G n L) (hk : kpX X w w') : clX13 X w' G n L := ⟨h.1, fun t ht => by
  rcases h.2 t ht with ⟨h1, h2⟩ | ⟨b, c, h1, h2, h3⟩
  · exact .inl ⟨h1, hk.cell13 h.1 h2⟩
  · exact .inr ⟨b, c, hk.cell13 h.1 h1, h2, fun j x hx => hk.cell13 h2 (h3 j x hx)⟩⟩
theorem clX13.imp {G n : Nat} {L : Nat → List Nat} (h : clX13 X w G n L) (hG : X' G) (hi : ∀ k, X k → X' k) : clX13 X' w G n L := ⟨hG, fun t ht => by
  rcases h.2 t ht with h1 | ⟨b, c, h1, h2, h3⟩
  · exact .inl h1
  · exact .inr ⟨b, c, h1, hi b h2, h3⟩⟩
theorem rwX.clX13 {Y : Nat → Prop} {G n : Nat} {V : Nat → Value} {L : Nat → List Nat} (h : rwX Y w G n V L) : clX13 (fun k => G ≤ k ∧ k < w.heap.size) w G n L := ⟨⟨Nat.le_refl _, h.lt⟩, fun t ht => by
  obtain ⟨h1, -⟩ := h.cell ht
  have h2 := h.row t ht
  rcases id h2.2 with ⟨e, e2⟩ | ⟨g, cap, cur, e, _⟩
  · exact .inl ⟨List.eq_nil_of_length_eq_zero e2, by rw [h1, e]⟩
  · rw [e] at h2
    refine .inr ⟨g, cap, by rw [h1, e], World.ownsRow.lt h2 g rfl, fun j x hx => ?_⟩
    obtain ⟨b, e3, hc⟩ := spO.at12 h2 hx
    cases e3
    exact hc⟩
theorem spO.stX {base : Nat} {p : Option Addr} {c : Nat} {A : List Nat} (h : spO w base (.slice p A.length c) A) : stX (fun k => base ≤ k ∧ k < w.heap.size) w p A := fun j x hx => by
  obtain ⟨b, e, hc⟩ := h.at12 hx
  subst e
  exact ⟨b, 0, rfl, World.ownsRow.lt (show w.ownsRow base 3 1 (.slice (some ⟨b, 0, none⟩) A.length c) _ _ from h) b rfl, by rw [Nat.zero_add]; exact hc⟩
end
theorem append_it {w : World} {ops : Array Oper} {rest : List Oper} {o : Oper} {a : Act} {Q : Exit → Act → World → Prop} (hgd : o.guard = none) (s x : Operand)
    (ho : o.op = .call { callee := .builtin .append, args := #[s, x], argTypes := #[22, 22] }) (base : Nat) (v : Value) (B : List Nat) (hs : a.eval s = v)
    (hown : spO w base v B) (g c : Nat) (A : List Nat) (hx : a.eval x = .slice (some ⟨g, 0, none⟩) A.length c)
    (hcell : ∀ (j y : Nat), A[j]? = some y → w.cell? ⟨g, j, none⟩ = some (.int .i64 (y : Int))) (hlen : B.length + A.length ≤ 1000000) (hbase : base ≤ w.heap.size)
    (h : ∀ v' w', spO w' base v' (B ++ A) → w.grownBy w' v.ownBlock → wpList Try.prog ops Q rest (a.put o.dst v') w') : wpList Try.prog ops Q (o :: rest) a w := by
  obtain ⟨i0, hi, hz0, hz1, hz2⟩ := info_parts infoInt9w
  refine Go.wpList_append_own_at w hgd s x 22 ho base 3 i0 (.int .i64 0) 1 8 Try.underlying22 hi hz0 hz1 hz2 rfl (by decide) v B.length (spl9 B) hs hown ⟨g, 0, none⟩ A.length c (spl9 A) hx (by rw [spl9_len]; omega) ?_ (spl9_cell _) (by unfold maxLen; omega) (by omega) hbase ?_
  · intro j u hu
    have hj : j < A.length := by
      have := (List.getElem?_eq_some_iff.1 hu).1
      rwa [spl9_len] at this
    have e : (⟨g, 0, none⟩ : Addr).add j = ⟨g, j, none⟩ := by unfold Addr.add; split <;> simp_all
    rw [e, hcell j A[j] (by simp)]
    simp [spl9, hj] at hu
    rw [hu]
  · intro v' w' h1 h2 _ _
    refine h v' w' ?_ h2
    unfold spO
    rw [spl9_append, List.length_append]
    exact h1
theorem flat_len {L : Nat → List Nat} {n : Nat} (hL : ∀ t, t < n → (L t).length ≤ 1000) : ∀ (A : List Nat), (∀ a, a ∈ A → a < n) → (A.flatMap L).length ≤ A.length * 1000
  | [], _ => Nat.zero_le _
  | a :: A, h => by
    have h1 := flat_len hL A fun x hx => h x (List.mem_cons_of_mem _ hx)
    have h2 := hL a (h a (List.mem_cons_self ..))
    rw [List.flatMap_cons, List.length_append, List.length_cons, Nat.succ_mul]
    omega

set_option maxRecDepth 100000 in
set_option maxHeartbeats 4000000 in
theorem into13 (X : Nat → Prop) (G n cG : Nat) (L : Nat → List Nat) (A : List Nat) (pa : Option Addr) (m ca : Nat) (w : World) (hc : clX13 X w G n L) (hs : stX X w pa A) (hm : A.length = m) (hA : ∀ a, a ∈ A → a < n) (hn : n ≤ 1000) (hl : m ≤ 1000) (hL : ∀ t, t < n → (L t).length ≤ 1000) :
    Calls Try.prog 54 #[.slice (some ⟨G, 0, none⟩) n cG, .slice pa m ca] w fun e w' => ∃ p k c, e = .returned (.slice p k c) ∧ (A.flatMap L).length = k ∧ spO w' w.heap.size (.slice p k c) (A.flatMap L) ∧ Below w.heap.size w w' := by
  obtain ⟨D, hD⟩ : ∃ D, w.heap.size = D := ⟨_, rfl⟩
  have HD := Lib.hid hD
  have HC := Lib.hid (fun w' (h : Below D w w') => hc.kp (hD ▸ h |> kpX.of_below))
  have HS := Lib.hid (fun w' (h : Below D w w') => hs.kp (hD ▸ h |> kpX.of_below))
  have HO0 : Hid (spO w D (.slice none 0 0) ((A.take 0).flatMap L)) := Lib.hid ⟨rfl, .inl ⟨rfl, rfl⟩⟩
  have HA := Lib.hid hA; have HL := Lib.hid hL; have HM := Lib.hid hm
  have HFL : Hid (∀ j, j ≤ m → ((A.take j).flatMap L).length ≤ 1000000) := Lib.hid fun j hj => by
    have h1 := flat_len hL (A.take j) fun a ha => hA a (List.mem_of_mem_take ha)
    have h2 : (A.take j).length ≤ j := by rw [List.length_take]; omega
    have h3 : (A.take j).length * 1000 ≤ 1000 * 1000 := Nat.mul_le_mul_right _ (by omega)
    omega
  have m0 : (0 : Int) ≤ (m : Int) := by omega
  have m1 : (m : Int) ≤ 1000 := by omega
  have n0 : (0 : Int) ≤ (n : Int) := by omega
  have n1 : (n : Int) ≤ 1000 := by omega
  have HB0 : Hid (Below D w w) := Lib.hid (Below.refl _ _)
  clear hc hs hA hL hm hD
  go_enter Try.func54, Try.ntmps54
  go_wp2_with fail
  go_loopw [5, 10] (fun sv jv wr => ∃ (j : Nat) (p : Option Addr) (k c : Nat), j ≤ m ∧ jv = .int .i64 j ∧ sv = .slice p k c ∧ Hid (((A.take j).flatMap L).length = k) ∧ Hid (spO wr D (.slice p k c) ((A.take j).flatMap L)) ∧ Hid (Below D w wr)) (fun _ jv _ => m - (intOf jv).toNat)
  case atStart => exact ⟨0, none, 0, 0, Nat.zero_le _, rfl, rfl, Lib.hid rfl, HO0, HB0⟩
  case round =>
    clear HO0 HB0
    obtain ⟨j, p, k, c, hj, rfl, rfl, HK, HO, HB⟩ := hrel
    by_cases hlt : j < m
    · have j0 : (0 : Int) ≤ (j : Int) := by omega
      have j1 : (j : Int) < (m : Int) := by omega
      obtain ⟨t, ht⟩ : ∃ t, A[j]? = some t := ⟨A[j]'(by have := HM.out; omega), by simp⟩
      have htn := HA.out t (List.mem_of_getElem? ht)
      obtain ⟨ab, ao, rfl, -, hca⟩ := HS.out _ HB.out j t ht
      have t0 : (0 : Int) ≤ (t : Int) := by omega
      have t1 : (t : Int) < (n : Int) := by omega
      have htk : (A.take (j + 1)).flatMap L = (A.take j).flatMap L ++ L t := by rw [List.take_add_one, ht]; simp
      have HTK := Lib.hid htk
      have hsz : D ≤ wr.heap.size := by have := HB.out.size; have := HD.out; omega
      have HFJ := Lib.hid (HFL.out (j + 1) (by omega))
      rcases (HC.out _ HB.out).2 t htn with ⟨e1, e2⟩ | ⟨b, cb, e1, -, e3⟩
      · have HO2 : Hid (spO wr D (.slice p k c) ((A.take (j + 1)).flatMap L)) := Lib.hid (by rw [HTK.out, e1, List.append_nil]; exact HO.out)
        have HK2 : Hid (((A.take (j + 1)).flatMap L).length = k) := Lib.hid (by rw [HTK.out, e1, List.append_nil]; exact HK.out)
        have HROW : Hid (wr.ownsRow D 3 1 (.slice p k c) ((A.take j).flatMap L).length (spl9 ((A.take j).flatMap L))) := Lib.hid HO.out
        obtain ⟨i0, hi, -, -, -⟩ := info_parts infoInt9w
        clear ht htn htk hsz e1
        go_wp2_with (at_builtin; refine wpList_append_own_none rfl _ _ 22 rfl D 3 i0 1 Try.underlying22 hi _ _ _ rfl HROW.out rfl ?_)
        go_wp2_with fail
        go_roundw
        case rel => exact ⟨j + 1, _, _, _, by omega, by go_num, rfl, HK2, HO2, HB⟩
        case measure => simp [intOf]; omega
      · have HE3 := Lib.hid e3
        have HLT : Hid (((A.take j).flatMap L).length + (L t).length ≤ 1000000) := Lib.hid (by
          have := HFJ.out
          rw [HTK.out, List.length_append] at this
          omega)
        have HSZ := Lib.hid hsz
        clear ht htn htk hsz e3
        go_wp2_with (at_builtin; refine append_it rfl _ _ rfl D _ _ rfl HO.out b cb (L t) rfl HE3.out HLT.out HSZ.out ?_; intro v' w3 hown hgrow; have HO3 := Lib.hid hown; have HG := Lib.hid hgrow; clear hown hgrow; refine Hid.out ?_)
        obtain ⟨p', c', hv'⟩ := spO_of HO3.out
        obtain ⟨k', hk'⟩ : ∃ k', ((A.take j).flatMap L ++ L t).length = k' := ⟨_, rfl⟩
        rw [hk'] at hv'
        subst hv'
        have HO2 : Hid (spO w3 D (.slice p' k' c') ((A.take (j + 1)).flatMap L)) := Lib.hid (by rw [HTK.out]; exact HO3.out)
        have HK2 : Hid (((A.take (j + 1)).flatMap L).length = k') := Lib.hid (by rw [HTK.out]; exact hk')
        have HB2 : Hid (Below D w w3) := Lib.hid (HB.out.grown HG.out HSZ.out fun r hr => (World.ownsRow.lt HO.out r hr).1)
        clear HO3 HG HO HB HSZ hk' e1 hca HE3
        refine Lib.hid ?_
        go_wp2_with fail
        go_roundw
        case rel => exact ⟨j + 1, _, _, _, by omega, by go_num, rfl, HK2, HO2, HB2⟩
        case measure => simp [intOf]; omega
    · obtain rfl : j = m := by omega
      have HE : Hid ((A.flatMap L).length = k ∧ spO wr w.heap.size (.slice p k c) (A.flatMap L) ∧ Below w.heap.size w wr) := Lib.hid (by
        have h1 := HK.out; have h2 := HO.out; have h3 := HB.out
        rw [show A.take j = A from List.take_of_length_le (by have := HM.out; omega)] at h1 h2
        rw [HD.out]
        exact ⟨h1, h2, h3⟩)
      clear HK HO HB
      go_wp2_with fail
      go_returns
      exact ⟨p, k, c, rfl, HE.out⟩
end Go.Proofs.Ytefpoapbodbenaa

namespace Go.Proofs.Ytefpoapbodbenaa
open Go.RowKit

theorem lP_take (n : Nat) (V : Nat → Value) (s : Ps) (b : Nat) (Q : List Nat) (hQ : s.Q = Q ++ [b]) (v : Value) : upd (upd (lP n V s) 4 ((lP n V s 4).take Q.length)) 3 ((lP n V s 3).set b (.bool false)) = lP n (upd V 4 v) (tkP s b Q) := by
  refine fn_ext rfl ?_ ?_ ?_ ?_ (fun k => ?_) fun k => ?_
  · exact vls_ext fun j _ => (upd_ne _ _ (rS_ne j (by decide))).symm
  · exact vls_ext fun j _ => (upd_ne _ _ (rT_ne j (by decide))).symm
  · exact bls_set s.W s.nb b false
  · show (spl9 s.Q).take Q.length = spl9 Q
    rw [hQ, spl9_append, ← spl9_len Q, List.take_left]
  · rw [upd_ne _ _ (rS_ne k (by decide)), upd_ne _ _ (rS_ne k (by decide)), lPS, lPS]; rfl
  · rw [upd_ne _ _ (rT_ne k (by decide)), upd_ne _ _ (rT_ne k (by decide)), lPT, lPT]; rfl

set_option maxRecDepth 100000 in
set_option maxHeartbeats 4000000 in
theorem take13 (X : Nat → Prop) (h n b : Nat) (Q : List Nat) (V : Nat → Value) (s : Ps) (w0 w : World) (H : PtM X w0 w h n V s) (hQ : s.Q = Q ++ [b]) (hb : b < s.nb) (hnb : s.nb ≤ 2000) (hq : Q.length ≤ 2000) :
    Calls Try.prog 53 #[.pointer (some ⟨h, 0, none⟩)] w fun e w' => e = .returned (.int .i64 (b : Int)) ∧ ∃ v, PtM X w0 w' h n (upd V 4 v) (tkP s b Q) := by
  obtain ⟨p3, c3, e3, g3⟩ := H.v3
  obtain ⟨p4, c4, e4, g4⟩ := H.v4
  have hql : s.Q.length = Q.length + 1 := by rw [hQ]; simp
  obtain ⟨g, rfl⟩ := g3 (by omega)
  obtain ⟨a, rfl⟩ := g4 (by omega)
  obtain ⟨q, hqq⟩ : ∃ q, Q.length = q := ⟨_, rfl⟩
  have hbq : (spl9 s.Q)[q]? = some (.int .i64 (b : Int)) := by rw [hQ, ← hqq]; simp [spl9]
  obtain ⟨j1, -⟩ := Fm.cell H 4 e4 (j := q) (u := .int .i64 (b : Int)) (by rw [lP4]; exact hbq)
  obtain ⟨-, -, -, y3, y4⟩ := H.st.cells
  have f4 := H.st.free 4
  have hl := H.st.lt
  rw [hql, hqq] at e4
  rw [e3] at y3
  rw [e4] at y4
  have H1 := (Fm.short H 4 e4 q (by omega)).put 4 (by decide) (.slice (some ⟨a, 0, none⟩) q c4)
  obtain ⟨W1, hW1⟩ : ∃ W1, w.setCell ⟨h, 4, none⟩ (.slice (some ⟨a, 0, none⟩) q c4) = W1 := ⟨_, rfl⟩
  rw [hW1] at H1
  obtain ⟨k1, k2, k3, -⟩ := Fm.cell H1 3 (show upd V 4 _ 3 = _ from e3) (j := b) (u := .bool (s.W b)) (by show (lP n V s 3)[b]? = _; rw [lP3]; exact bls_at _ _ _ hb)
  have H2 := Fm.stored H1 3 (show upd V 4 _ 3 = _ by rw [show upd V 4 (Value.slice (some ⟨a, 0, none⟩) q c4) 3 = V 3 from rfl, e3]; show _ = Value.slice _ (lP n V s 3).length _; rw [lP3, bls_len]) b (.bool false)
  obtain ⟨-, -, -, z3, -⟩ := H1.st.cells
  rw [show upd V 4 (Value.slice (some ⟨a, 0, none⟩) q c4) 3 = V 3 from rfl, e3] at z3
  have HFIN : Hid (∃ v, PtM X w0 (W1.setCell ⟨g, b, none⟩ (.bool false)) h n (upd V 4 v) (tkP s b Q)) := Lib.hid ⟨.slice (some ⟨a, 0, none⟩) q c4, by
    unfold PtM
    rw [← lP_take n V s b Q hQ, hqq]
    exact H2⟩
  have HW1 := Lib.hid hW1
  have b0 : (0 : Int) ≤ (b : Int) := by omega
  have b1 : (b : Int) < (s.nb : Int) := by omega
  have b2 : (s.nb : Int) ≤ 2000 := by omega
  have q1 : (q : Int) ≤ 2000 := by omega
  have q0 : (0 : Int) ≤ (q : Int) := by omega
  have q2 : ((q + 1 : Nat) : Int) - 1 = (q : Int) := by omega
  have q3 : (q : Int) < ((q + 1 : Nat) : Int) := by omega
  have q4 : q ≤ c4 := by
    have := Fm.row H 4
    rw [e4, lP4, spl9_len, hql, hqq] at this
    rcases this.2 with ⟨e, _⟩ | ⟨_, cap, cur, e, _, _, h2, _⟩
    · cases e
    · cases e
      omega
  have q5 : (q : Int) ≤ (c4 : Int) := by omega
  clear hW1 H1 H2 H e3 e4 hqq hq hql hbq hQ
  go_enter Try.func53, Try.ntmps53
  go_upto_region 4 with (fail)
  rw [HW1.out]
  clear y3 y4 j1 f4
  go_wp2_with fail
  go_returns
  exact ⟨rfl, HFIN.out⟩
end Go.Proofs.Ytefpoapbodbenaa
