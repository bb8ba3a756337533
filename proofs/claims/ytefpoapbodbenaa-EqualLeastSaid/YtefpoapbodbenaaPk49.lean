/-
  What divide needs: a list of the call's own beside the parts; an append as a step of a drawn region; a clone; what is told, and told no more.
-/
import Derived.Test.YtefpoapbodbenaaPk48
import Derived.Test.YtefpoapbodbenaaPk14
import Derived.Maps.AppendAt
import Derived.Deep.RegionLaw
namespace Go.Proofs.Ytefpoapbodbenaa
open Go.RowKit

/-- A list of the call's own lies beside the parts, as the states of a block that there is not. -/
def tmpP (s : Ps) (K : Nat) (B : List Nat) : Ps := { s with S := upd s.S K B }
theorem lP_tmp (n : Nat) (V : Nat → Value) (s : Ps) (K : Nat) (B : List Nat) (v : Value) (hK : s.nb ≤ K) : upd (lP n V s) (rS K) (spl9 B) = lP n (upd V (rS K) v) (tmpP s K B) := by
  refine fn_ext ?_ ?_ ?_ ?_ ?_ (fun i => ?_) fun i => ?_
  · rw [upd_ne _ _ (Ne.symm (rS_ne K (by decide)))]; rfl
  · rw [upd_ne _ _ (Ne.symm (rS_ne K (by decide))), lP1, lP1]
    exact vls_ext fun j hj => (upd_ne _ _ (rS_inj (show j ≠ K by omega))).symm
  · rw [upd_ne _ _ (Ne.symm (rS_ne K (by decide))), lP2, lP2]
    exact vls_ext fun j _ => (upd_ne _ _ (Ne.symm (rS_rT K j))).symm
  · rw [upd_ne _ _ (Ne.symm (rS_ne K (by decide)))]; rfl
  · rw [upd_ne _ _ (Ne.symm (rS_ne K (by decide)))]; rfl
  · rw [lPS]
    show _ = spl9 (upd s.S K B i)
    by_cases e : i = K
    · rw [e, upd_at, upd_at]
    · rw [upd_ne _ _ (rS_inj e), upd_ne _ _ e, lPS]
  · rw [upd_ne _ _ (Ne.symm (rS_rT K i)), lPT, lPT]; rfl
theorem lP_told (n : Nat) (V : Nat → Value) (s : Ps) (b : Nat) (A : List Nat) (v : Value) : upd (upd (lP n V s) (rT b) (spl9 A)) 2 ((vls (fun k => V (rT k)) s.nb).set b v) = lP n (upd V (rT b) v) { s with T := upd s.T b A } := by
  refine fn_ext ?_ ?_ ?_ ?_ ?_ (fun i => ?_) fun i => ?_
  · show upd (lP n V s) (rT b) _ 0 = _
    rw [upd_ne _ _ (Ne.symm (rT_ne b (by decide)))]; rfl
  · show upd (lP n V s) (rT b) _ 1 = _
    rw [upd_ne _ _ (Ne.symm (rT_ne b (by decide))), lP1, lP1]
    exact vls_ext fun j _ => (upd_ne _ _ (rS_rT j b)).symm
  · rw [upd_at, lP2, vls_set]
    refine vls_ext fun j _ => ?_
    unfold putV
    by_cases e : j = b
    · rw [if_pos e, e, upd_at]
    · rw [if_neg e, upd_ne _ _ (rT_inj e)]
  · show upd (lP n V s) (rT b) _ 3 = _
    rw [upd_ne _ _ (Ne.symm (rT_ne b (by decide)))]; rfl
  · show upd (lP n V s) (rT b) _ 4 = _
    rw [upd_ne _ _ (Ne.symm (rT_ne b (by decide)))]; rfl
  · rw [upd_ne _ _ (rS_ne i (by decide)), upd_ne _ _ (rS_rT i b), lPS, lPS]
  · rw [upd_ne _ _ (rT_ne i (by decide)), lPT]
    show _ = spl9 (upd s.T b A i)
    by_cases e : i = b
    · rw [e, upd_at, upd_at]
    · rw [upd_ne _ _ (rT_inj e), upd_ne _ _ e, lPT]
theorem upd_upd {α : Type} (f : Nat → α) {i j : Nat} (u v : α) (h : i ≠ j) : upd (upd f i u) j v = upd (upd f j v) i u := by
  funext y
  unfold upd
  by_cases e1 : y = j
  · rw [if_pos e1, if_neg (by omega), if_pos e1]
  · rw [if_neg e1, if_neg e1]
theorem partP_tmp (t : Ps) (K b : Nat) (B l : List Nat) (h1 : t.nb < K) (h2 : b ≠ K) : partP (tmpP t K B) b l = tmpP (partP t b l) K B := by
  have e1 : midP (tmpP t K B) b l = tmpP (midP t b l) K B := by
    show cutP (setP (addP (tmpP t K B) l) l t.nb) b t.nb = _
    unfold cutP setP addP tmpP midP
    simp only
    congr 1
    show upd (upd (upd t.S K B) t.nb l) b _ = upd (upd (upd t.S t.nb l) b _) K B
    rw [upd_upd t.S B l (show K ≠ t.nb by omega), upd_upd (upd t.S t.nb l) B _ (Ne.symm h2), upd_ne _ B h2]
    rfl
  have e2 : whoP (tmpP (midP t b l) K B) b t.nb l = whoP (midP t b l) b t.nb l := by
    unfold whoP tmpP
    simp only [upd_ne _ B h2]
  show waitP (midP (tmpP t K B) b l) (whoP (midP (tmpP t K B) b l) b t.nb l) = _
  rw [e1, e2]
  rfl
theorem okH.tmp {n : Nat} {s : Ps} (h : okH n s) {K : Nat} (hK : s.nb ≤ K) (B : List Nat) : okH n (tmpP s K B) :=
  ⟨h.bl, fun k hk => by show (upd s.S K B k).Nodup; rw [upd_ne _ _ (by have : k < s.nb := hk; omega)]; exact h.sn k hk, fun k hk i => by show i ∈ upd s.S K B k ↔ _; rw [upd_ne _ _ (by have : k < s.nb := hk; omega)]; exact h.sm k hk i,
    fun k hk => by show upd s.S K B k ≠ []; rw [upd_ne _ _ (by have : k < s.nb := hk; omega)]; exact h.ne k hk, h.qn, h.qm⟩
theorem dvE.tmp {n : Nat} {s t : Ps} {so : List Nat} (h : dvE n s so t) {K : Nat} (hK : t.nb ≤ K) (B : List Nat) : dvE n s so (tmpP t K B) := ⟨h.ok.tmp hK B, h.tz, h.rf, h.w1, h.w2, h.ms⟩
theorem spl9_fnv (A : List Nat) : spl9 A = fnv (fun j => ((A.getD j 0 : Nat) : Int)) A.length := by
  apply List.ext_getElem
  · simp [spl9, fnv]
  · intro i h1 h2
    have : i < A.length := by simpa [spl9] using h1
    simp [spl9, fnv, this]
theorem step_append13 {w : World} {ops : Array Oper} {o : Oper} {a : Act} {K : Act → World → Prop} {Q : Exit → Act → World → Prop} {E : Prop} (hgd : o.guard = none) (s x : Operand)
    (ho : o.op = .call { callee := .builtin .append, args := #[s, x], argTypes := #[22, 22] }) (base : Nat) (v : Value) (B : List Nat) (hs : a.eval s = v) (hown : spO w base v B) (g x0 : Nat)
    (hx : a.eval x = .slice (some ⟨g, 0, none⟩) 1 1) (hcell : w.cell? ⟨g, 0, none⟩ = some (.int .i64 (x0 : Int))) (hlen : B.length ≤ 1000000) (hbase : base ≤ w.heap.size)
    (h : ∀ p' n' c' w', n' = B.length + 1 → spO w' base (.slice p' n' c') (B ++ [x0]) → w.grownBy w' v.ownBlock → ((Value.slice p' n' c').ownBlock = v.ownBlock ∨ (Value.slice p' n' c').ownBlock = some w.heap.size) → K (a.put o.dst (.slice p' n' c')) w') :
    if Region.wanted o (yielded ops a.tmps) = true then Oper.wp Try.prog o a w K Q else E := by
  have hwt : Region.wanted o (yielded ops a.tmps) = true := by simp [Region.wanted, hgd]
  rw [if_pos hwt]
  obtain ⟨i0, hi, hz0, hz1, hz2⟩ := info_parts infoInt9w
  obtain ⟨v', w', hr, h2, h3, h4, h5⟩ := run_append_own_at (P := Try.prog) w base 22 o.type 3 i0 (.int .i64 0) 1 8 Try.underlying22 hi hz0 hz1 hz2 rfl (by decide) v B.length (spl9 B) hown ⟨g, 0, none⟩ 1 1 (spl9 [x0]) (by rw [spl9_len]; rfl) (by
    intro j u hu
    match j, hu with
    | 0, hu => simp [spl9] at hu; subst hu; simpa [Addr.add] using hcell) (spl9_cell _) (by unfold maxLen; omega) (by omega) hbase
  unfold Oper.wp
  simp [execOp, ho, resolve, invoke, builtin, hs, hx, hr, Result.andThen]
  rw [← spl9_append] at h2
  have h6 : spO w' base v' (B ++ [x0]) := by unfold spO; rw [List.length_append]; exact h2
  rcases id h2.2 with ⟨_, h0⟩ | ⟨g, cap, cur, rfl, _⟩
  · omega
  · exact h _ _ _ w' rfl h6 h3 h5
theorem upd_twice {α : Type} (f : Nat → α) (j : Nat) (u v : α) : upd (upd f j u) j v = upd f j v := by
  funext y
  unfold upd
  split <;> rfl
theorem kpX.cell13 {X : Nat → Prop} {w w' : World} (h : kpX X w w') {b o : Nat} {v : Value} (hb : X b) (hc : w.cell? ⟨b, o, none⟩ = some v) : w'.cell? ⟨b, o, none⟩ = some v := by
  have hl := World.block_lt_of_cell? w ⟨b, o, none⟩ hc
  rw [← hc]
  exact World.cell?_of_block (h.block b hl hb)
theorem PtM.back13 {X : Nat → Prop} {w0 w w1 : World} {h n : Nat} {V : Nat → Value} {s : Ps} (H : PtM X w w1 h n V s) (hk : kpX X w0 w) : PtM X w0 w1 h n V s := Fm.back H hk
end Go.Proofs.Ytefpoapbodbenaa
