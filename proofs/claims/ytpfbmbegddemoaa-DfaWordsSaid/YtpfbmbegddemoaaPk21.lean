/-
  What the ninth reference counts is what the page says, and what there are steps for. Plain facts.
  Rows of numbers that a call owns, as functions; the walks of the tenth reference's Same and Number.
-/
import Derived.Test.YtpfbmbegddemoaaPk19
import Derived.Test.YtpfbmbegddemoaaPk17
import Derived.Test.YtpfbmbegddemoaaPk16
import Derived.Test.YtpfbmbegddemoaaPk14
import Derived.Test.YtpfbmbegddemoaaPk9
import Derived.BigQuiet
import Derived.Deep.QuietTactic
namespace Go.Proofs.Ytpfbmbegddemoaa

section
variable {S : Nat → Sd} {m : Nat}
/-- What is true, as a set of states. -/
def pT (m : Nat) (T : Nat → Bool) (q : Nat) : Prop := q < m ∧ T q = true
theorem rt_lt {sym : Int} (hr : rng S m) {a q : Nat} (ha : a < m) (h : rt S sym a q) : q < m := by
  induction h with
  | refl => exact ha
  | @tail q' q'' _ he ih =>
    obtain ⟨_, _, a1, a2, b1, b2⟩ := hr q' ih
    rcases he with ⟨_, h⟩ | ⟨_, h⟩ <;> omega
theorem pT_up {sym : Int} {T : Nat → Bool} (hr : rng S m) : pT m (upN S sym m T m) = Cl S sym (pT m T) := by
  funext q
  apply propext
  constructor
  · rintro ⟨h1, h2⟩; exact (upN_iff hr h1).1 h2
  · intro h
    obtain ⟨q0, h1, h2⟩ := h
    have hq := rt_lt hr h1.1 h2
    exact ⟨hq, (upN_iff hr hq).2 ⟨q0, h1, h2⟩⟩
theorem pT_st {y : Nat} {T : Nat → Bool} (hr : rng S m) : pT m (stR S y T m) = By S y (pT m T) := by
  funext q
  apply propext
  constructor
  · rintro ⟨h1, h2⟩
    obtain ⟨q0, k1, k2, k3, k4, k5⟩ := (stR_iff hr (Nat.le_refl _)).1 h2
    exact ⟨q0, ⟨k1, k2⟩, k3, k4, k5⟩
  · rintro ⟨q0, ⟨k1, k2⟩, k3, k4, k5⟩
    obtain ⟨_, _, a1, a2, _, _⟩ := hr q0 k1
    exact ⟨by omega, (stR_iff hr (Nat.le_refl _)).2 ⟨q0, k1, k2, k3, k4, k5⟩⟩
theorem pT_in {s : Nat} (hs : s < m) : pT m (inL m (fun _ => (s : Int)) 1) = fun q => q = s := by
  funext q
  apply propext
  constructor
  · rintro ⟨h1, h2⟩
    obtain ⟨_, _, h⟩ := (inL_iff h1).1 h2
    omega
  · rintro rfl
    exact ⟨hs, (inL_iff hs).2 ⟨0, by omega, rfl⟩⟩
theorem pT_rF {tx : Nat → Nat} (hr : rng S m) : ∀ {k i T}, pT m (rF S m tx i k T) = runF S tx i k (pT m T)
  | 0, _, _ => rfl
  | k + 1, i, T => by
    show pT m (rF S m tx (i + 1) k (upN S 0 m (stR S (tx i) T m) m)) = runF S tx (i + 1) k (Cl S 0 (By S (tx i) (pT m T)))
    rw [pT_rF hr, pT_up hr, pT_st hr]
theorem fF_iff {n : Nat} {tx : Nat → Nat} {s fin i j : Nat} (hr : rng S m) (hs : s < m) (hf : fin < m) : fF S m n tx (s : Int) fin i j = true ↔ fitsP S n tx s fin i j := by
  have h0 : pT m (aF S m (s : Int)) = Cl S 0 fun q => q = s := by unfold aF; rw [pT_up hr, pT_in hs]
  have h1 : pT m (if i = 0 then upN S 256 m (aF S m (s : Int)) m else aF S m (s : Int)) = if i = 0 then Cl S 256 (Cl S 0 fun q => q = s) else Cl S 0 fun q => q = s := by
    by_cases hi : i = 0
    · rw [if_pos hi, if_pos hi, pT_up hr, h0]
    · rw [if_neg hi, if_neg hi, h0]
  have key : ∀ T : Nat → Bool, T fin = true ↔ pT m T fin := fun T => ⟨fun h => ⟨hf, h⟩, fun h => h.2⟩
  unfold fF fitsP
  by_cases hn : n = 0
  · rw [if_pos hn, if_pos hn, key, pT_up hr, h0]
  · rw [if_neg hn, if_neg hn]
    by_cases hj : j = n
    · rw [if_pos hj, if_pos hj, key, pT_up hr, pT_rF hr, h1]
    · rw [if_neg hj, if_neg hj, key, pT_rF hr, h1]
/-- An automaton of a tree, its last state the final one, may be. -/
theorem fr_right {t : Tr} (h : okT t) {f l : Nat} (hS : isFr S t 0 f l) (hl : S l = ⟨6, 0, 0, 0, 0, 0, 0⟩) (hn : nst t ≤ 600) : rightP S (nst t) f l := by
  have hb := fr_bd S t 0 f l hS
  have h2 := nst_two t
  have hk : ∀ q, q < nst t → q ≠ l → okS 0 (0 + nst t) (S q) := fun q hq hn' => fr_ok t h 0 f l hS q (Nat.zero_le _) (by omega) hn'
  have h6 : ∀ q, q < nst t → (six S q = true ↔ q = l) := fun q hq => by
    unfold six
    by_cases e : q = l
    · subst e; rw [hl]; simp
    · obtain ⟨k1, k2, _⟩ := hk q hq e
      constructor
      · intro g; rw [beq_iff_eq] at g; omega
      · intro g; exact absurd g e
  refine ⟨by omega, fun q hq => ?_, ?_, by rw [Int.toNat_natCast, hl]⟩
  · by_cases e : q = l
    · subst e
      unfold okQ
      rw [hl]
      exact ⟨⟨by show (1 : Int) ≤ 6; decide, by show (6 : Int) ≤ 6; decide, by show (0 : Int) ≤ 0; decide, by show (0 : Int) < _; omega, by show (0 : Int) ≤ 0; decide, by show (0 : Int) < _; omega⟩, .inr ⟨rfl, rfl, rfl, rfl⟩, .inr rfl, fun _ => rfl⟩
    · obtain ⟨k1, k2, k3, k4, k5, k6, k7⟩ := hk q hq e
      rw [Nat.zero_add] at k4 k5
      have hB : 0 ≤ (S q).B ∧ (S q).B < (nst t : Nat) := by
        by_cases e3 : (S q).k = 3
        · have := k5 e3; omega
        · have := k6 e3; omega
      refine ⟨⟨k1, by omega, by omega, k4, hB.1, hB.2⟩, ?_, ?_, fun g => by omega⟩
      · by_cases e1 : (S q).k = 1
        · exact .inl e1
        · exact .inr (k7 e1)
      · by_cases e3 : (S q).k = 3
        · exact .inl e3
        · exact .inr (k6 e3)
  · have main : ∀ M, M ≤ nst t → cntT (six S) M = if l < M then 1 else 0 := by
      intro M
      induction M with
      | zero => intro _; rfl
      | succ M ih =>
        intro hM
        rw [cntT_succ, ih (by omega)]
        have := h6 M (by omega)
        by_cases e : M = l
        · rw [if_pos (this.2 e), if_neg (by omega), if_pos (by omega)]
        · rw [if_neg (fun g => e (this.1 g))]
          by_cases g : l < M
          · rw [if_pos g, if_pos (by omega)]
          · rw [if_neg g, if_neg (by omega)]
    rw [main _ (Nat.le_refl _), if_pos (by omega)]
end
end Go.Proofs.Ytpfbmbegddemoaa

namespace Go.Proofs.Ytpfbmbegddemoaa
open Go.RowKit

def fnv (f : Nat → Int) (n : Nat) : List Value := (List.range n).map fun j => Value.int .i64 (f j)
theorem fnv_len (f : Nat → Int) (n : Nat) : (fnv f n).length = n := by simp [fnv]
theorem fnv_succ (f : Nat → Int) (n : Nat) : fnv f (n + 1) = fnv f n ++ [.int .i64 (f n)] := by simp [fnv, List.range_succ]
theorem fnv_at (f : Nat → Int) (n j : Nat) (h : j < n) : (fnv f n)[j]? = some (.int .i64 (f j)) := by simp [fnv, h]
def spF (w : World) (base : Nat) (v : Value) (f : Nat → Int) (n : Nat) : Prop := w.ownsRow base 3 1 v n (fnv f n)
theorem spF_zero (w : World) (base : Nat) (f : Nat → Int) : spF w base (.slice none 0 0) f 0 := ⟨rfl, .inl ⟨rfl, rfl⟩⟩
theorem spF.below {w w' : World} {base : Nat} {v : Value} {f : Nat → Int} {n : Nat} (h : spF w base v f n) (hb : Below w.heap.size w w') : spF w' base v f n := owns_below h hb
theorem spF_of {w : World} {base : Nat} {v : Value} {f : Nat → Int} {n : Nat} (h : spF w base v f n) : ∃ p c, v = .slice p n c := by
  rcases id h.2 with ⟨rfl, h0⟩ | ⟨g, cap, cur, rfl, _⟩
  · exact ⟨none, 0, by rw [h0]⟩
  · exact ⟨_, cap, rfl⟩
theorem spF.rd {w : World} {base : Nat} {p : Option Addr} {c : Nat} {f : Nat → Int} {n : Nat} (h : spF w base (.slice p n c) f n) : rdL w p n f := fun j hj => by
  rcases id h.2 with ⟨_, e⟩ | ⟨g, cp, cur, e, _⟩
  · omega
  · cases e
    refine ⟨g, 0, rfl, (World.ownsRow.lt h g rfl).2, ?_⟩
    rw [Nat.zero_add, World.ownsRow.cellAt h j (by omega)]
    exact fnv_at f n j hj
theorem spF.grow {w w' : World} {base B : Nat} {v : Value} {f : Nat → Int} {n : Nat} (hB : B ≤ base) (hw : B ≤ w.heap.size) (ho : spF w base v f n) (h : w.grownBy w' v.ownBlock) : Below B w w' :=
  (Below.refl B w).grown h hw (fun r hr => Nat.le_trans hB (ho.lt r hr).1)
theorem append_fn {w : World} {ops : Array Oper} {rest : List Oper} {o : Oper} {a : Act} {Q : Exit → Act → World → Prop} (hgd : o.guard = none) (s x : Operand)
    (ho : o.op = .call { callee := .builtin .append, args := #[s, x], argTypes := #[22, 22] }) (base : Nat) (v : Value) (f : Nat → Int) (n : Nat) (hs : a.eval s = v)
    (hown : spF w base v f n) (g : Nat) (x0 : Int) (hf : f n = x0) (hx : a.eval x = .slice (some ⟨g, 0, none⟩) 1 1)
    (hcell : w.cell? ⟨g, 0, none⟩ = some (.int .i64 x0)) (hlen : n ≤ 10000) (hbase : base ≤ w.heap.size)
    (h : ∀ v' w', spF w' base v' f (n + 1) → w.grownBy w' v.ownBlock → wpList Try.prog ops Q rest (a.put o.dst v') w') : wpList Try.prog ops Q (o :: rest) a w := by
  obtain ⟨i0, hi, hz0, hz1, hz2⟩ := info_parts infoInt9w
  refine wpList_append_own w hgd s x 22 ho base 3 i0 (.int .i64 0) 1 8 Try.underlying22 hi hz0 hz1 hz2 rfl (by decide) v n (fnv f n) hs hown ⟨g, 0, none⟩ 1 1 [.int .i64 x0] hx rfl ?_ ?_ (by unfold maxLen; omega) (by omega) hbase ?_
  · intro j u hu
    match j, hu with
    | 0, hu => simp at hu; subst hu; simpa [Addr.add] using hcell
  · intro u hu
    have : u = .int .i64 x0 := by simpa using hu
    subst this; rfl
  · intro v' w' h1 h2 _
    refine h v' w' ?_ h2
    rw [← hf, ← fnv_succ] at h1
    exact h1

set_option maxRecDepth 100000 in
set_option maxHeartbeats 4000000 in
theorem same10 (q : Option Addr) (n c : Nat) (l : Nat → Int) (q' : Option Addr) (n' c' : Nat) (l' : Nat → Int) (r : Bool) (hr : r = true ↔ n = n' ∧ ∀ j, j < n → l j = l' j) (hn : n ≤ 100000) (hn' : n' ≤ 100000) (w : World) (hl : rdL w q n l) (hl' : rdL w q' n' l') :
    Calls Try.prog 20 #[.slice q n c, .slice q' n' c'] w fun e w' => e = .returned (.bool r) ∧ Below w.heap.size w w' := by
  have HL := Lib.hid hl; have HL' := Lib.hid hl'
  by_cases hnn : n = n'
  · subst hnn
    have hb : ((n : Int) != (n : Int)) = false := by simp
    have HR : Hid (r = true ↔ ∀ j, j < n → l j = l' j) := Lib.hid (hr.trans ⟨fun h => h.2, fun h => ⟨rfl, h⟩⟩)
    have n0 : (0 : Int) ≤ (n : Int) := by omega
    clear hr hl hl'
    go_enter Try.func20, Try.ntmps20
    go_wp2_with fail
    go_loopw [5] (fun iv wr => ∃ i : Nat, i ≤ n ∧ iv = .int .i64 i ∧ Hid (∀ j, j < i → l j = l' j) ∧ Hid (Below w.heap.size w wr)) (fun iv _ => n - (intOf iv).toNat)
    case atStart => exact ⟨0, Nat.zero_le _, rfl, Lib.hid (fun _ h => absurd h (Nat.not_lt_zero _)), Lib.hid (Below.refl _ _)⟩
    case round =>
      obtain ⟨i, hi, rfl, HQ, HB⟩ := hrel
      by_cases hlti : i < n
      · have i0 : (0 : Int) ≤ (i : Int) := by omega
        have i1 : (i : Int) < (n : Int) := by omega
        obtain ⟨lb, lo, rfl, hlb, hlc⟩ := (HL.out.below HB.out) i hlti
        obtain ⟨lb', lo', rfl, hlb', hlc'⟩ := (HL'.out.below HB.out) i hlti
        obtain ⟨u, hu⟩ : ∃ u, l i = u := ⟨_, rfl⟩
        obtain ⟨u', hu'⟩ : ∃ u', l' i = u' := ⟨_, rfl⟩
        have HU := Lib.hid hu; have HU' := Lib.hid hu'
        rw [hu] at hlc; rw [hu'] at hlc'
        clear hu hu'
        cases hx : (u != u')
        · have HQ2 : Hid (∀ j, j < i + 1 → l j = l' j) := Lib.hid fun j hj => by
            by_cases e : j = i
            · subst e; rw [HU.out, HU'.out]; simpa using hx
            · exact HQ.out j (by omega)
          go_wp2_with fail
          go_quiet (fail)
          have HBd := Lib.hid (below_drewN nq HB.out)
          go_wp2_with fail
          go_roundw
          case rel => exact ⟨i + 1, by omega, by go_num, HQ2, HBd⟩
          case measure => simp [intOf]; omega
        · have HE : Hid (r = false) := Lib.hid (by
            cases r with
            | false => rfl
            | true =>
              have := HR.out.1 rfl i hlti
              rw [HU.out, HU'.out] at this
              subst this
              simp at hx)
          go_wp2_with fail
          go_quiet (fail)
          have HBd := Lib.hid (below_drewN nq HB.out)
          go_wp2_with fail
          go_returns
          exact ⟨by rw [HE.out] <;> rfl, HBd.out⟩
      · obtain rfl : i = n := by omega
        have HE : Hid (r = true) := Lib.hid (HR.out.2 HQ.out)
        go_wp2_with fail
        go_returns
        exact ⟨by rw [HE.out] <;> rfl, HB.out⟩
  · have hb : ((n : Int) != (n' : Int)) = true := by simp; omega
    have HE : Hid (r = false) := Lib.hid (by
      cases r with
      | false => rfl
      | true => exact absurd (hr.1 rfl).1 hnn)
    clear hr hnn
    go_enter Try.func20, Try.ntmps20
    go_wp2_with fail
    go_returns
    exact ⟨by rw [HE.out] <;> rfl, Below.refl _ _⟩

end Go.Proofs.Ytpfbmbegddemoaa
