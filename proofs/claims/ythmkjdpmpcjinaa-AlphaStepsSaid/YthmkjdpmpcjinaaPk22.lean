/-
  Two nodes are the same just if all that they hold is; the walk of the reference's Same at two lists that read alike.
  Rows of numbers that a call owns, as functions; the walks of the tenth reference's Same and Number.
-/
import Derived.Test.YthmkjdpmpcjinaaPk12
import Derived.Test.YthmkjdpmpcjinaaPk13
import Derived.Test.YthmkjdpmpcjinaaPk21
import Derived.BigQuiet
import Derived.Deep.QuietTactic
namespace Go.Proofs.Ythmkjdpmpcjinaa
open Go.RowKit

theorem eq_set_any (d : Nat) (x0 x1 x2 x3 y0 y1 y2 y3 : Int) (w : World) :
    (Op.equalIn (d + 2) 40 (.agg #[.int .u64 x0, .int .u64 x1, .int .u64 x2, .int .u64 x3]) (.agg #[.int .u64 y0, .int .u64 y1, .int .u64 y2, .int .u64 y3])).run Try.prog w = .ok (x0 == y0 && x1 == y1 && x2 == y2 && x3 == y3) w := by
  have hs : ∀ w, (sizeOf 38).run Try.prog w = .ok 1 w := fun _ => by kernel_rfl
  have hp : ∀ (xs : Array Value) (i : Nat) (v : Value) (w : World), xs[i]? = some v → (part 38 xs i).run Try.prog w = .ok v w := by
    intro xs i v w hv
    simp [part, go_sem, hv, isAgg, run_underlying Try.underlying38]
  have e : ∀ (x y : Int) (w : World), (Op.equalIn (d + 1) 38 (.int .u64 x) (.int .u64 y)).run Try.prog w = .ok (x == y) w := fun x y w => by
    rw [run_equalIn_int w d 38 .u64 .u64 x y Try.underlying38]
  rw [show d + 2 = (d + 1) + 1 from rfl, Op.equalIn]
  simp only [Sem.run_bind, run_underlying Try.underlying40, Result.andThen_ok, hs, Std.Legacy.Range.forIn_eq_forIn_range', Std.Legacy.Range.size]
  by_cases h0 : x0 = y0 <;> by_cases h1 : x1 = y1 <;> by_cases h2 : x2 = y2 <;> by_cases h3 : x3 = y3 <;> simp [List.range', hp, e, h0, h1, h2, h3]

end Go.Proofs.Ythmkjdpmpcjinaa

namespace Go.Proofs.Ythmkjdpmpcjinaa
open Go.RowKit

def fnv (f : Nat → Int) (n : Nat) : List Value := (List.range n).map fun j => Value.int .i64 (f j)
theorem fnv_len (f : Nat → Int) (n : Nat) : (fnv f n).length = n := by simp [fnv]
theorem fnv_succ (f : Nat → Int) (n : Nat) : fnv f (n + 1) = fnv f n ++ [.int .i64 (f n)] := by simp [fnv, List.range_succ]
theorem fnv_at (f : Nat → Int) (n j : Nat) (h : j < n) : (fnv f n)[j]? = some (.int .i64 (f j)) := by simp [fnv, h]
def spF (w : World) (base : Nat) (v : Value) (f : Nat → Int) (n : Nat) : Prop := w.ownsRow base 3 1 v n (fnv f n)
theorem spF_zero (w : World) (base : Nat) (f : Nat → Int) : spF w base (.slice none 0 0) f 0 := ⟨rfl, .inl ⟨rfl, rfl⟩⟩
theorem spF.below {w w' : World} {base : Nat} {v : Value} {f : Nat → Int} {n : Nat} (h : spF w base v f n) (hb : Below w.heap.size w w') : spF w' base v f n := owns_below h hb
theorem spF_of {w : World} {base : Nat} {v : Value} {f : Nat → Int} {n : Nat} (h : spF w base v f n) : ∃ p c, v = .slice p n c := by
  rcases id h.2 with ⟨rfl, h0⟩ | ⟨g, cap, cur, rfl, _⟩
  · exact ⟨none, 0, by rw [h0]⟩
  · exact ⟨_, cap, rfl⟩
theorem spF.rd {w : World} {base : Nat} {p : Option Addr} {c : Nat} {f : Nat → Int} {n : Nat} (h : spF w base (.slice p n c) f n) : rdL w p n f := fun j hj => by
  rcases id h.2 with ⟨_, e⟩ | ⟨g, cp, cur, e, _⟩
  · omega
  · cases e
    refine ⟨g, 0, rfl, (World.ownsRow.lt h g rfl).2, ?_⟩
    rw [Nat.zero_add, World.ownsRow.cellAt h j (by omega)]
    exact fnv_at f n j hj
theorem spF.grow {w w' : World} {base B : Nat} {v : Value} {f : Nat → Int} {n : Nat} (hB : B ≤ base) (hw : B ≤ w.heap.size) (ho : spF w base v f n) (h : w.grownBy w' v.ownBlock) : Below B w w' :=
  (Below.refl B w).grown h hw (fun r hr => Nat.le_trans hB (ho.lt r hr).1)
theorem append_fn {w : World} {ops : Array Oper} {rest : List Oper} {o : Oper} {a : Act} {Q : Exit → Act → World → Prop} (hgd : o.guard = none) (s x : Operand)
    (ho : o.op = .call { callee := .builtin .append, args := #[s, x], argTypes := #[26, 26] }) (base : Nat) (v : Value) (f : Nat → Int) (n : Nat) (hs : a.eval s = v)
    (hown : spF w base v f n) (g : Nat) (x0 : Int) (hf : f n = x0) (hx : a.eval x = .slice (some ⟨g, 0, none⟩) 1 1)
    (hcell : w.cell? ⟨g, 0, none⟩ = some (.int .i64 x0)) (hlen : n ≤ 10000) (hbase : base ≤ w.heap.size)
    (h : ∀ v' w', spF w' base v' f (n + 1) → w.grownBy w' v.ownBlock → wpList Try.prog ops Q rest (a.put o.dst v') w') : wpList Try.prog ops Q (o :: rest) a w := by
  obtain ⟨i0, hi, hz0, hz1, hz2⟩ := info_parts infoInt9w
  refine wpList_append_own w hgd s x 26 ho base 3 i0 (.int .i64 0) 1 8 Try.underlying26 hi hz0 hz1 hz2 rfl (by decide) v n (fnv f n) hs hown ⟨g, 0, none⟩ 1 1 [.int .i64 x0] hx rfl ?_ ?_ (by unfold maxLen; omega) (by omega) hbase ?_
  · intro j u hu
    match j, hu with
    | 0, hu => simp at hu; subst hu; simpa [Addr.add] using hcell
  · intro u hu
    have : u = .int .i64 x0 := by simpa using hu
    subst this; rfl
  · intro v' w' h1 h2 _
    refine h v' w' ?_ h2
    rw [← hf, ← fnv_succ] at h1
    exact h1

set_option maxRecDepth 100000 in
set_option maxHeartbeats 4000000 in
theorem same10 (q : Option Addr) (n c : Nat) (l : Nat → Int) (q' : Option Addr) (n' c' : Nat) (l' : Nat → Int) (r : Bool) (hr : r = true ↔ n = n' ∧ ∀ j, j < n → l j = l' j) (hn : n ≤ 100000) (hn' : n' ≤ 100000) (w : World) (hl : rdL w q n l) (hl' : rdL w q' n' l') :
    Calls Try.prog 10 #[.slice q n c, .slice q' n' c'] w fun e w' => e = .returned (.bool r) ∧ Below w.heap.size w w' := by
  have HL := Lib.hid hl; have HL' := Lib.hid hl'
  by_cases hnn : n = n'
  · subst hnn
    have hb : ((n : Int) != (n : Int)) = false := by simp
    have HR : Hid (r = true ↔ ∀ j, j < n → l j = l' j) := Lib.hid (hr.trans ⟨fun h => h.2, fun h => ⟨rfl, h⟩⟩)
    have n0 : (0 : Int) ≤ (n : Int) := by omega
    clear hr hl hl'
    go_enter Try.func10, Try.ntmps10
    go_wp2_with fail
    go_loopw [5] (fun iv wr => ∃ i : Nat, i ≤ n ∧ iv = .int .i64 i ∧ Hid (∀ j, j < i → l j = l' j) ∧ Hid (Below w.heap.size w wr)) (fun iv _ => n - (intOf iv).toNat)
    case atStart => exact ⟨0, Nat.zero_le _, rfl, Lib.hid (fun _ h => absurd h (Nat.not_lt_zero _)), Lib.hid (Below.refl _ _)⟩
    case round =>
      obtain ⟨i, hi, rfl, HQ, HB⟩ := hrel
      by_cases hlti : i < n
      · have i0 : (0 : Int) ≤ (i : Int) := by omega
        have i1 : (i : Int) < (n : Int) := by omega
        obtain ⟨lb, lo, rfl, hlb, hlc⟩ := (HL.out.below HB.out) i hlti
        obtain ⟨lb', lo', rfl, hlb', hlc'⟩ := (HL'.out.below HB.out) i hlti
        obtain ⟨u, hu⟩ : ∃ u, l i = u := ⟨_, rfl⟩
        obtain ⟨u', hu'⟩ : ∃ u', l' i = u' := ⟨_, rfl⟩
        have HU := Lib.hid hu; have HU' := Lib.hid hu'
        rw [hu] at hlc; rw [hu'] at hlc'
        clear hu hu'
        cases hx : (u != u')
        · have HQ2 : Hid (∀ j, j < i + 1 → l j = l' j) := Lib.hid fun j hj => by
            by_cases e : j = i
            · subst e; rw [HU.out, HU'.out]; simpa using hx
            · exact HQ.out j (by omega)
          go_wp2_with fail
          go_quiet (fail)
          have HBd := Lib.hid (below_drewN nq HB.out)
          go_wp2_with fail
          go_roundw
          case rel => exact ⟨i + 1, by omega, by go_num, HQ2, HBd⟩
          case measure => simp [intOf]; omega
        · have HE : Hid (r = false) := Lib.hid (by
            cases r with
            | false => rfl
            | true =>
              have := HR.out.1 rfl i hlti
              rw [HU.out, HU'.out] at this
              subst this
              simp at hx)
          go_wp2_with fail
          go_quiet (fail)
          have HBd := Lib.hid (below_drewN nq HB.out)
          go_wp2_with fail
          go_returns
          exact ⟨by rw [HE.out] <;> rfl, HBd.out⟩
      · obtain rfl : i = n := by omega
        have HE : Hid (r = true) := Lib.hid (HR.out.2 HQ.out)
        go_wp2_with fail
        go_returns
        exact ⟨by rw [HE.out] <;> rfl, HB.out⟩
  · have hb : ((n : Int) != (n' : Int)) = true := by simp; omega
    have HE : Hid (r = false) := Lib.hid (by
      cases r with
      | false => rfl
      | true => exact absurd (hr.1 rfl).1 hnn)
    clear hr hnn
    go_enter Try.func10, Try.ntmps10
    go_wp2_with fail
    go_returns
    exact ⟨by rw [HE.out] <;> rfl, Below.refl _ _⟩

set_option maxRecDepth 100000 in
set_option maxHeartbeats 8000000 in
theorem num10 (R : Nat → Nat → Bool) (hR : eqR R) (q : Option Addr) (n c : Nat) (hn : n ≤ 1000) (w : World) (hl : rdL w q n (fun x => (hdA R x : Nat))) :
    Calls Try.prog 20 #[.slice q n c] w fun e w' => ∃ q' c', e = .returned (.tuple #[.slice q' n c', .int .i64 (cntT (isH R) n : Nat)]) ∧ rdL w' q' n (fun x => (clA R x : Nat)) ∧ Below w.heap.size w w' := by
  have HL := Lib.hid hl; have HRR := Lib.hid hR
  have n0 : (0 : Int) ≤ (n : Int) := by omega
  have HO0 := Lib.hid (spF_zero w w.heap.size (fun x => (clA R x : Nat)))
  have HC0 : Hid (cntT (isH R) 0 = 0) := Lib.hid rfl
  clear hl hR
  go_enter Try.func20, Try.ntmps20
  go_wp2_with fail
  go_loopw [4, 5, 6] (fun tv nv iv wr => ∃ i : Nat, i ≤ n ∧ iv = .int .i64 i ∧ nv = .int .i64 (cntT (isH R) i : Nat) ∧ Hid (spF wr w.heap.size tv (fun x => (clA R x : Nat)) i) ∧ Hid (Below w.heap.size w wr)) (fun _ _ iv _ => n - (intOf iv).toNat)
  case atStart => exact ⟨0, Nat.zero_le _, rfl, by rw [HC0.out]; rfl, HO0, Lib.hid (Below.refl _ _)⟩
  case round =>
    clear HO0 HC0
    obtain ⟨i, hi, rfl, rfl, HO, HB⟩ := hrel
    have hcle := cntT_le (isH R) i
    have hcs := cntT_succ (isH R) i
    by_cases hlti : i < n
    · have i0 : (0 : Int) ≤ (i : Int) := by omega
      have i1 : (i : Int) < (n : Int) := by omega
      obtain ⟨lb, lo, rfl, hlb, hlc⟩ := (HL.out.below HB.out) i hlti
      simp only at hlc
      have hHle := hdA_le R i
      obtain ⟨k, hk⟩ : ∃ k, hdA R i = k := ⟨_, rfl⟩
      rw [hk] at hlc hHle
      have HK := Lib.hid hk
      obtain ⟨ct, hct⟩ : ∃ ct, cntT (isH R) i = ct := ⟨_, rfl⟩
      rw [hct] at hcle hcs ⊢
      have HS := HB.out.size
      by_cases hki : k = i
      · subst hki
        have hh : isH R k = true := by unfold isH; rw [HK.out]; simp
        rw [if_pos hh] at hcs
        have HCL : Hid (((clA R k : Nat) : Int) = (ct : Int)) := Lib.hid (by rw [clA_head hh, hct])
        have HCS := Lib.hid hcs
        have c0 : (0 : Int) ≤ (ct : Int) := by omega
        have c1 : (ct : Int) ≤ 1000 := by omega
        have HLC : Hid ((wr.alloc (.cells #[.int .i64 (ct : Int)] 3)).cell? ⟨wr.heap.size, 0, none⟩ = some (.int .i64 (ct : Int))) := Lib.hid (by simp)
        have HLS : Hid (w.heap.size ≤ (wr.alloc (.cells #[.int .i64 (ct : Int)] 3)).heap.size) := Lib.hid (by rw [World.size_alloc]; omega)
        have HO6 := Lib.hid (HO.out.alloc (.cells #[.int .i64 (ct : Int)] 3))
        have HW6 := Lib.hid (HB.out.alloc HS (.cells #[.int .i64 (ct : Int)] 3))
        clear HO HS hcs hct hh
        go_wp2_with (at_builtin; refine append_fn rfl _ _ rfl w.heap.size _ (fun x => (clA R x : Nat)) k rfl HO6.out wr.heap.size (ct : Int) HCL.out rfl HLC.out (by omega) HLS.out ?_; intro v9 w9 h9 hg9; have HO9 := Lib.hid h9; have HW9 := Lib.hid (HW6.out.trans (spF.grow (Nat.le_refl _) HLS.out HO6.out hg9)); clear h9 hg9)
        go_roundw
        case rel => exact ⟨k + 1, by omega, by go_num, by rw [HCS.out]; go_num, HO9, HW9⟩
        case measure => simp [intOf]; omega
      · have hkl : k < i := by omega
        have hki2 : ((k : Int) == (i : Int)) = false := beq_eq_false_iff_ne.2 (by omega)
        have hki3 : (k == i) = false := beq_eq_false_iff_ne.2 hki
        have hh : ¬ isH R i = true := by unfold isH; rw [HK.out]; simpa using hki
        rw [if_neg hh, Nat.add_zero] at hcs
        have HCS := Lib.hid hcs
        have hcl : clA R i = clA R k := by
          have h1 := hdA_head HRR.out i
          rw [HK.out] at h1
          rw [clA_head h1]
          unfold clA
          rw [HK.out]
        obtain ⟨ck, hck⟩ : ∃ ck, clA R k = ck := ⟨_, rfl⟩
        have HCL : Hid (((clA R i : Nat) : Int) = (ck : Int)) := Lib.hid (by rw [hcl, hck])
        obtain ⟨tp, tc, rfl⟩ := spF_of HO.out
        obtain ⟨tb, tof, rfl, htb, htc⟩ := HO.out.rd k hkl
        simp only at htc
        rw [hck] at htc
        have k0 : (0 : Int) ≤ (k : Int) := by omega
        have k1 : (k : Int) < (i : Int) := by omega
        have HLC : Hid ((wr.alloc (.cells #[.int .i64 (ck : Int)] 3)).cell? ⟨wr.heap.size, 0, none⟩ = some (.int .i64 (ck : Int))) := Lib.hid (by simp)
        have HLS : Hid (w.heap.size ≤ (wr.alloc (.cells #[.int .i64 (ck : Int)] 3)).heap.size) := Lib.hid (by rw [World.size_alloc]; omega)
        have HO6 := Lib.hid (HO.out.alloc (.cells #[.int .i64 (ck : Int)] 3))
        have HW6 := Lib.hid (HB.out.alloc HS (.cells #[.int .i64 (ck : Int)] 3))
        clear HO HS hcs hct hh hck hcl hki
        go_wp2_with (at_builtin; refine append_fn rfl _ _ rfl w.heap.size _ (fun x => (clA R x : Nat)) i rfl HO6.out wr.heap.size (ck : Int) HCL.out rfl HLC.out (by omega) HLS.out ?_; intro v9 w9 h9 hg9; have HO9 := Lib.hid h9; have HW9 := Lib.hid (HW6.out.trans (spF.grow (Nat.le_refl _) HLS.out HO6.out hg9)); clear h9 hg9)
        go_roundw
        case rel => exact ⟨i + 1, by omega, by go_num, by (rw [HCS.out]; first | rfl | simp), HO9, HW9⟩
        case measure => simp [intOf]; omega
    · obtain rfl : i = n := by omega
      obtain ⟨tp, tc, rfl⟩ := spF_of HO.out
      have HF := Lib.hid HO.out.rd
      obtain ⟨ct, hct⟩ : ∃ ct, cntT (isH R) i = ct := ⟨_, rfl⟩
      rw [hct]
      have HCT := Lib.hid hct
      clear hct hcs hcle HO
      go_wp2_with fail
      go_returns
      exact ⟨_, _, by rw [HCT.out] <;> rfl, HF.out, HB.out⟩
end Go.Proofs.Ythmkjdpmpcjinaa
