/-
  Rows of numbers that a call owns, as functions; the walks of the tenth reference's Same and Number.
  What the tenth laws ask of the code: Classes, Firsts and Join, as contracts.
  Rows of numbers at a block's head, made and written into by place.
  The row of the type of a byte; what a list of bytes grows in.
  The walks of alpha's ends and within.
  What symbols are alike to no states, and to one more. Plain.
-/
import Derived.Test.YtnoaejpabfnfpaaPk4
import Derived.Test.YtnoaejpabfnfpaaPk9
import Derived.BigQuiet
import Derived.Deep.QuietTactic
import Derived.OwnWalk
import Derived.Test.YtnoaejpabfnfpaaPk3
import Derived.Test.YtnoaejpabfnfpaaPk1
namespace Go.Proofs.Ytnoaejpabfnfpaa
open Go.RowKit

def fnv (f : Nat → Int) (n : Nat) : List Value := (List.range n).map fun j => Value.int .i64 (f j)
theorem fnv_len (f : Nat → Int) (n : Nat) : (fnv f n).length = n := by simp [fnv]
theorem fnv_succ (f : Nat → Int) (n : Nat) : fnv f (n + 1) = fnv f n ++ [.int .i64 (f n)] := by simp [fnv, List.range_succ]
theorem fnv_at (f : Nat → Int) (n j : Nat) (h : j < n) : (fnv f n)[j]? = some (.int .i64 (f j)) := by simp [fnv, h]
def spF (w : World) (base : Nat) (v : Value) (f : Nat → Int) (n : Nat) : Prop := w.ownsRow base 3 1 v n (fnv f n)
theorem spF_zero (w : World) (base : Nat) (f : Nat → Int) : spF w base (.slice none 0 0) f 0 := ⟨rfl, .inl ⟨rfl, rfl⟩⟩
theorem spF.below {w w' : World} {base : Nat} {v : Value} {f : Nat → Int} {n : Nat} (h : spF w base v f n) (hb : Below w.heap.size w w') : spF w' base v f n := owns_below h hb
theorem spF_of {w : World} {base : Nat} {v : Value} {f : Nat → Int} {n : Nat} (h : spF w base v f n) : ∃ p c, v = .slice p n c := by
  rcases id h.2 with ⟨rfl, h0⟩ | ⟨g, cap, cur, rfl, _⟩
  · exact ⟨none, 0, by rw [h0]⟩
  · exact ⟨_, cap, rfl⟩
theorem spF.rd {w : World} {base : Nat} {p : Option Addr} {c : Nat} {f : Nat → Int} {n : Nat} (h : spF w base (.slice p n c) f n) : rdL w p n f := fun j hj => by
  rcases id h.2 with ⟨_, e⟩ | ⟨g, cp, cur, e, _⟩
  · omega
  · cases e
    refine ⟨g, 0, rfl, (World.ownsRow.lt h g rfl).2, ?_⟩
    rw [Nat.zero_add, World.ownsRow.cellAt h j (by omega)]
    exact fnv_at f n j hj
theorem spF.grow {w w' : World} {base B : Nat} {v : Value} {f : Nat → Int} {n : Nat} (hB : B ≤ base) (hw : B ≤ w.heap.size) (ho : spF w base v f n) (h : w.grownBy w' v.ownBlock) : Below B w w' :=
  (Below.refl B w).grown h hw (fun r hr => Nat.le_trans hB (ho.lt r hr).1)
theorem append_fn {w : World} {ops : Array Oper} {rest : List Oper} {o : Oper} {a : Act} {Q : Exit → Act → World → Prop} (hgd : o.guard = none) (s x : Operand)
    (ho : o.op = .call { callee := .builtin .append, args := #[s, x], argTypes := #[22, 22] }) (base : Nat) (v : Value) (f : Nat → Int) (n : Nat) (hs : a.eval s = v)
    (hown : spF w base v f n) (g : Nat) (x0 : Int) (hf : f n = x0) (hx : a.eval x = .slice (some ⟨g, 0, none⟩) 1 1)
    (hcell : w.cell? ⟨g, 0, none⟩ = some (.int .i64 x0)) (hlen : n ≤ 10000) (hbase : base ≤ w.heap.size)
    (h : ∀ v' w', spF w' base v' f (n + 1) → w.grownBy w' v.ownBlock → wpList Try.prog ops Q rest (a.put o.dst v') w') : wpList Try.prog ops Q (o :: rest) a w := by
  obtain ⟨i0, hi, hz0, hz1, hz2⟩ := info_parts infoInt9w
  refine wpList_append_own w hgd s x 22 ho base 3 i0 (.int .i64 0) 1 8 Try.underlying22 hi hz0 hz1 hz2 rfl (by decide) v n (fnv f n) hs hown ⟨g, 0, none⟩ 1 1 [.int .i64 x0] hx rfl ?_ ?_ (by unfold maxLen; omega) (by omega) hbase ?_
  · intro j u hu
    match j, hu with
    | 0, hu => simp at hu; subst hu; simpa [Addr.add] using hcell
  · intro u hu
    have : u = .int .i64 x0 := by simpa using hu
    subst this; rfl
  · intro v' w' h1 h2 _
    refine h v' w' ?_ h2
    rw [← hf, ← fnv_succ] at h1
    exact h1

set_option maxRecDepth 100000 in
set_option maxHeartbeats 4000000 in
theorem same10 (q : Option Addr) (n c : Nat) (l : Nat → Int) (q' : Option Addr) (n' c' : Nat) (l' : Nat → Int) (r : Bool) (hr : r = true ↔ n = n' ∧ ∀ j, j < n → l j = l' j) (hn : n ≤ 100000) (hn' : n' ≤ 100000) (w : World) (hl : rdL w q n l) (hl' : rdL w q' n' l') :
    Calls Try.prog 12 #[.slice q n c, .slice q' n' c'] w fun e w' => e = .returned (.bool r) ∧ Below w.heap.size w w' := by
  have HL := Lib.hid hl; have HL' := Lib.hid hl'
  by_cases hnn : n = n'
  · subst hnn
    have hb : ((n : Int) != (n : Int)) = false := by simp
    have HR : Hid (r = true ↔ ∀ j, j < n → l j = l' j) := Lib.hid (hr.trans ⟨fun h => h.2, fun h => ⟨rfl, h⟩⟩)
    have n0 : (0 : Int) ≤ (n : Int) := by omega
    clear hr hl hl'
    go_enter Try.func12, Try.ntmps12
    go_wp2_with fail
    go_loopw [5] (fun iv wr => ∃ i : Nat, i ≤ n ∧ iv = .int .i64 i ∧ Hid (∀ j, j < i → l j = l' j) ∧ Hid (Below w.heap.size w wr)) (fun iv _ => n - (intOf iv).toNat)
    case atStart => exact ⟨0, Nat.zero_le _, rfl, Lib.hid (fun _ h => absurd h (Nat.not_lt_zero _)), Lib.hid (Below.refl _ _)⟩
    case round =>
      obtain ⟨i, hi, rfl, HQ, HB⟩ := hrel
      by_cases hlti : i < n
      · have i0 : (0 : Int) ≤ (i : Int) := by omega
        have i1 : (i : Int) < (n : Int) := by omega
        obtain ⟨lb, lo, rfl, hlb, hlc⟩ := (HL.out.below HB.out) i hlti
        obtain ⟨lb', lo', rfl, hlb', hlc'⟩ := (HL'.out.below HB.out) i hlti
        obtain ⟨u, hu⟩ : ∃ u, l i = u := ⟨_, rfl⟩
        obtain ⟨u', hu'⟩ : ∃ u', l' i = u' := ⟨_, rfl⟩
        have HU := Lib.hid hu; have HU' := Lib.hid hu'
        rw [hu] at hlc; rw [hu'] at hlc'
        clear hu hu'
        cases hx : (u != u')
        · have HQ2 : Hid (∀ j, j < i + 1 → l j = l' j) := Lib.hid fun j hj => by
            by_cases e : j = i
            · subst e; rw [HU.out, HU'.out]; simpa using hx
            · exact HQ.out j (by omega)
          go_wp2_with fail
          go_quiet (fail)
          have HBd := Lib.hid (below_drewN nq HB.out)
          go_wp2_with fail
          go_roundw
          case rel => exact ⟨i + 1, by omega, by go_num, HQ2, HBd⟩
          case measure => simp [intOf]; omega
        · have HE : Hid (r = false) := Lib.hid (by
            cases r with
            | false => rfl
            | true =>
              have := HR.out.1 rfl i hlti
              rw [HU.out, HU'.out] at this
              subst this
              simp at hx)
          go_wp2_with fail
          go_quiet (fail)
          have HBd := Lib.hid (below_drewN nq HB.out)
          go_wp2_with fail
          go_returns
          exact ⟨by rw [HE.out] <;> rfl, HBd.out⟩
      · obtain rfl : i = n := by omega
        have HE : Hid (r = true) := Lib.hid (HR.out.2 HQ.out)
        go_wp2_with fail
        go_returns
        exact ⟨by rw [HE.out] <;> rfl, HB.out⟩
  · have hb : ((n : Int) != (n' : Int)) = true := by simp; omega
    have HE : Hid (r = false) := Lib.hid (by
      cases r with
      | false => rfl
      | true => exact absurd (hr.1 rfl).1 hnn)
    clear hr hnn
    go_enter Try.func12, Try.ntmps12
    go_wp2_with fail
    go_returns
    exact ⟨by rw [HE.out] <;> rfl, Below.refl _ _⟩

set_option maxRecDepth 100000 in
set_option maxHeartbeats 8000000 in
theorem num10 (R : Nat → Nat → Bool) (hR : eqR R) (q : Option Addr) (n c : Nat) (hn : n ≤ 1000) (w : World) (hl : rdL w q n (fun x => (hdA R x : Nat))) :
    Calls Try.prog 33 #[.slice q n c] w fun e w' => ∃ q' c', e = .returned (.tuple #[.slice q' n c', .int .i64 (cntT (isH R) n : Nat)]) ∧ rdL w' q' n (fun x => (clA R x : Nat)) ∧ Below w.heap.size w w' := by
  have HL := Lib.hid hl; have HRR := Lib.hid hR
  have n0 : (0 : Int) ≤ (n : Int) := by omega
  have HO0 := Lib.hid (spF_zero w w.heap.size (fun x => (clA R x : Nat)))
  have HC0 : Hid (cntT (isH R) 0 = 0) := Lib.hid rfl
  clear hl hR
  go_enter Try.func33, Try.ntmps33
  go_wp2_with fail
  go_loopw [4, 5, 6] (fun tv nv iv wr => ∃ i : Nat, i ≤ n ∧ iv = .int .i64 i ∧ nv = .int .i64 (cntT (isH R) i : Nat) ∧ Hid (spF wr w.heap.size tv (fun x => (clA R x : Nat)) i) ∧ Hid (Below w.heap.size w wr)) (fun _ _ iv _ => n - (intOf iv).toNat)
  case atStart => exact ⟨0, Nat.zero_le _, rfl, by rw [HC0.out]; rfl, HO0, Lib.hid (Below.refl _ _)⟩
  case round =>
    clear HO0 HC0
    obtain ⟨i, hi, rfl, rfl, HO, HB⟩ := hrel
    have hcle := cntT_le (isH R) i
    have hcs := cntT_succ (isH R) i
    by_cases hlti : i < n
    · have i0 : (0 : Int) ≤ (i : Int) := by omega
      have i1 : (i : Int) < (n : Int) := by omega
      obtain ⟨lb, lo, rfl, hlb, hlc⟩ := (HL.out.below HB.out) i hlti
      simp only at hlc
      have hHle := hdA_le R i
      obtain ⟨k, hk⟩ : ∃ k, hdA R i = k := ⟨_, rfl⟩
      rw [hk] at hlc hHle
      have HK := Lib.hid hk
      obtain ⟨ct, hct⟩ : ∃ ct, cntT (isH R) i = ct := ⟨_, rfl⟩
      rw [hct] at hcle hcs ⊢
      have HS := HB.out.size
      by_cases hki : k = i
      · subst hki
        have hh : isH R k = true := by unfold isH; rw [HK.out]; simp
        rw [if_pos hh] at hcs
        have HCL : Hid (((clA R k : Nat) : Int) = (ct : Int)) := Lib.hid (by rw [clA_head hh, hct])
        have HCS := Lib.hid hcs
        have c0 : (0 : Int) ≤ (ct : Int) := by omega
        have c1 : (ct : Int) ≤ 1000 := by omega
        have HLC : Hid ((wr.alloc (.cells #[.int .i64 (ct : Int)] 3)).cell? ⟨wr.heap.size, 0, none⟩ = some (.int .i64 (ct : Int))) := Lib.hid (by simp)
        have HLS : Hid (w.heap.size ≤ (wr.alloc (.cells #[.int .i64 (ct : Int)] 3)).heap.size) := Lib.hid (by rw [World.size_alloc]; omega)
        have HO6 := Lib.hid (HO.out.alloc (.cells #[.int .i64 (ct : Int)] 3))
        have HW6 := Lib.hid (HB.out.alloc HS (.cells #[.int .i64 (ct : Int)] 3))
        clear HO HS hcs hct hh
        go_wp2_with (at_builtin; refine append_fn rfl _ _ rfl w.heap.size _ (fun x => (clA R x : Nat)) k rfl HO6.out wr.heap.size (ct : Int) HCL.out rfl HLC.out (by omega) HLS.out ?_; intro v9 w9 h9 hg9; have HO9 := Lib.hid h9; have HW9 := Lib.hid (HW6.out.trans (spF.grow (Nat.le_refl _) HLS.out HO6.out hg9)); clear h9 hg9)
        go_roundw
        case rel => exact ⟨k + 1, by omega, by go_num, by rw [HCS.out]; go_num, HO9, HW9⟩
        case measure => simp [intOf]; omega
      · have hkl : k < i := by omega
        have hki2 : ((k : Int) == (i : Int)) = false := beq_eq_false_iff_ne.2 (by omega)
        have hki3 : (k == i) = false := beq_eq_false_iff_ne.2 hki
        have hh : ¬ isH R i = true := by unfold isH; rw [HK.out]; simpa using hki
        rw [if_neg hh, Nat.add_zero] at hcs
        have HCS := Lib.hid hcs
        have hcl : clA R i = clA R k := by
          have h1 := hdA_head HRR.out i
          rw [HK.out] at h1
          rw [clA_head h1]
          unfold clA
          rw [HK.out]
        obtain ⟨ck, hck⟩ : ∃ ck, clA R k = ck := ⟨_, rfl⟩
        have HCL : Hid (((clA R i : Nat) : Int) = (ck : Int)) := Lib.hid (by rw [hcl, hck])
        obtain ⟨tp, tc, rfl⟩ := spF_of HO.out
        obtain ⟨tb, tof, rfl, htb, htc⟩ := HO.out.rd k hkl
        simp only at htc
        rw [hck] at htc
        have k0 : (0 : Int) ≤ (k : Int) := by omega
        have k1 : (k : Int) < (i : Int) := by omega
        have HLC : Hid ((wr.alloc (.cells #[.int .i64 (ck : Int)] 3)).cell? ⟨wr.heap.size, 0, none⟩ = some (.int .i64 (ck : Int))) := Lib.hid (by simp)
        have HLS : Hid (w.heap.size ≤ (wr.alloc (.cells #[.int .i64 (ck : Int)] 3)).heap.size) := Lib.hid (by rw [World.size_alloc]; omega)
        have HO6 := Lib.hid (HO.out.alloc (.cells #[.int .i64 (ck : Int)] 3))
        have HW6 := Lib.hid (HB.out.alloc HS (.cells #[.int .i64 (ck : Int)] 3))
        clear HO HS hcs hct hh hck hcl hki
        go_wp2_with (at_builtin; refine append_fn rfl _ _ rfl w.heap.size _ (fun x => (clA R x : Nat)) i rfl HO6.out wr.heap.size (ck : Int) HCL.out rfl HLC.out (by omega) HLS.out ?_; intro v9 w9 h9 hg9; have HO9 := Lib.hid h9; have HW9 := Lib.hid (HW6.out.trans (spF.grow (Nat.le_refl _) HLS.out HO6.out hg9)); clear h9 hg9)
        go_roundw
        case rel => exact ⟨i + 1, by omega, by go_num, by (rw [HCS.out]; first | rfl | simp), HO9, HW9⟩
        case measure => simp [intOf]; omega
    · obtain rfl : i = n := by omega
      obtain ⟨tp, tc, rfl⟩ := spF_of HO.out
      have HF := Lib.hid HO.out.rd
      obtain ⟨ct, hct⟩ : ∃ ct, cntT (isH R) i = ct := ⟨_, rfl⟩
      rw [hct]
      have HCT := Lib.hid hct
      clear hct hcs hcle HO
      go_wp2_with fail
      go_returns
      exact ⟨_, _, by rw [HCT.out] <;> rfl, HF.out, HB.out⟩
end Go.Proofs.Ytnoaejpabfnfpaa

namespace Go.Proofs.Ytnoaejpabfnfpaa
open Go.RowKit

/-- A list of numbers, and how many classes there are. -/
def clsPost (n : Nat) (l : Nat → Int) (k : Int) (w : World) (e : Ending) (w' : World) : Prop := ∃ q c l', e = .returned (.tuple #[.slice q n c, .int .i64 k]) ∧ rdL w' q n l' ∧ (∀ j, j < n → l' j = l j) ∧ Below w.heap.size w w'
def frsPost (n : Nat) (l : Nat → Int) (width : Int) (w : World) (e : Ending) (w' : World) : Prop := ∃ q c l', e = .returned (.slice q (min width 259).toNat c) ∧ rdL w' q (min width 259).toNat l' ∧ (∀ j, j < (min width 259).toNat → l' j = fsA l n (j : Nat)) ∧ Below w.heap.size w w'
def FrsC : Prop := ∀ (q : Option Addr) (n c : Nat) (l : Nat → Int) (width : Int) (w : World), n ≤ 1000 → rdL w q n l →
  Calls Try.prog 30 #[.slice q n c, .int .i64 width] w (frsPost n l width w)
/-- A number that an int holds. -/
def wfI (x : Int) : Prop := (Lit.int .i64 x).wf = true
theorem wfI_of {x : Int} (h1 : -1000000 ≤ x) (h2 : x ≤ 1000000) : wfI x := WalkArith.wf_i64 ⟨by omega, by omega⟩
def JoiC : Prop := ∀ (q : Option Addr) (n c : Nat) (l : Nat → Int) (q' : Option Addr) (n' c' : Nat) (l' : Nat → Int) (w : World), n ≤ 1000 → n' ≤ 1000 → (∀ j, j < n → wfI (l j)) → (∀ j, j < n' → wfI (l' j)) → rdL w q n l → rdL w q' n' l' →
  Calls Try.prog 28 #[.slice q n c, .slice q' n' c'] w fun e w' => (n = n' → clsPost n (fun x => (clA (joR l l') x : Nat)) (cntT (isH (joR l l')) n : Nat) w e w') ∧ (n ≠ n' → clsPost 0 (fun _ => 0) 0 w e w')
end Go.Proofs.Ytnoaejpabfnfpaa

namespace Go.Proofs.Ytnoaejpabfnfpaa
open Go.RowKit

def putF (f : Nat → Int) (j : Nat) (x : Int) : Nat → Int := fun y => if y = j then x else f y
theorem fnv_set (f : Nat → Int) (m j : Nat) (x : Int) : (fnv f m).set j (.int .i64 x) = fnv (putF f j x) m := by
  unfold fnv
  apply List.ext_getElem
  · simp
  · intro i h1 h2
    simp only [List.getElem_set, List.getElem_map, List.getElem_range, putF]
    by_cases h : i = j
    · rw [if_pos h.symm, if_pos h]
    · rw [if_neg (fun e => h e.symm), if_neg h]
theorem fnv_congr {f g : Nat → Int} {m : Nat} (h : ∀ j, j < m → f j = g j) : fnv f m = fnv g m := by
  unfold fnv
  exact List.map_congr_left fun i hi => by rw [h i (List.mem_range.1 hi)]
theorem made_fnv (m : Nat) : (madeCells #[Value.int .i64 0] m).toList = fnv (fun _ => 0) m := by
  unfold madeCells fnv
  apply List.ext_getElem
  · simp
  · intro i h1 h2
    simp [Nat.mod_one]
/-- A row of m numbers that the call owns. -/
def ipR (w : World) (base g m : Nat) (f : Nat → Int) : Prop := w.ownsRow base 3 1 (.slice (some ⟨g, 0, none⟩) m m) m (fnv f m)
theorem ipR.cell {w : World} {base g m : Nat} {f : Nat → Int} (h : ipR w base g m f) (j : Nat) (hj : j < m) : w.cell? ⟨g, j, none⟩ = some (.int .i64 (f j)) := by
  rw [World.ownsRow.cellAt h j (by omega)]; exact fnv_at f m j hj
theorem ipR.free {w : World} {base g m : Nat} {f : Nat → Int} (h : ipR w base g m f) (j : Nat) : w.frozen? ⟨g, j, none⟩ = false := World.ownsRow.frozenAt h j
theorem ipR.lt {w : World} {base g m : Nat} {f : Nat → Int} (h : ipR w base g m f) : base ≤ g ∧ g < w.heap.size := World.ownsRow.lt h g rfl
theorem ipR.below {w w' : World} {base g m : Nat} {f : Nat → Int} (h : ipR w base g m f) (hb : Below w.heap.size w w') : ipR w' base g m f := owns_below h hb
theorem ipR.put {w : World} {base g m : Nat} {f : Nat → Int} (h : ipR w base g m f) (j : Nat) (x : Int) : ipR (w.setCell ⟨g, j, none⟩ (.int .i64 x)) base g m (putF f j x) := by
  have := (World.ownsRow.stored h j (.int .i64 x)).1
  rw [fnv_set] at this
  exact this
theorem ipR.same {w : World} {base g m : Nat} {f f' : Nat → Int} (h : ipR w base g m f) (hf : ∀ j, j < m → f j = f' j) : ipR w base g m f' := by
  unfold ipR at h ⊢
  rw [← fnv_congr hf]; exact h
theorem ipR.rd {w : World} {base g m : Nat} {f : Nat → Int} (h : ipR w base g m f) : rdL w (some ⟨g, 0, none⟩) m f := fun j hj =>
  ⟨g, 0, rfl, h.lt.2, by rw [Nat.zero_add]; exact h.cell j hj⟩
theorem make_ints {w : World} {ops : Array Oper} {rest : List Oper} {o : Oper} {a : Act} {Q : Exit → Act → World → Prop} (hgd : o.guard = none) (s x : Operand)
    (ho : o.op = Op.makeSlice 22 s x) (base n : Nat) (hs : a.eval s = .int .i64 (n : Int)) (hx : a.eval x = .int .i64 (n : Int)) (hn : n ≤ 100000) (hbase : base ≤ w.heap.size)
    (h : ∀ w', ipR w' base w.heap.size n (fun _ => 0) → Below base w w' → wpList Try.prog ops Q rest (a.put o.dst (.slice (some ⟨w.heap.size, 0, none⟩) n n)) w') : wpList Try.prog ops Q (o :: rest) a w := by
  obtain ⟨i0, hi, hz0, hz1, hz2⟩ := info_parts infoInt9w
  refine wpList_make_full w hgd s x 22 ho base 3 i0 (.int .i64 0) 1 Try.underlying22 hi hz0 hz1 .i64 .i64 (n : Int) (n : Int) n hs hx rfl rfl (by rw [hz2]; omega) (by unfold maxLen; omega) hbase ?_
  intro w' h1 h2
  refine h w' ?_ ((Below.refl _ _).grown h2 hbase (fun r hr => by cases hr))
  have e : (madeCells (Value.int .i64 0).cells (n * 1)).toList = fnv (fun _ => 0) n := by
    rw [Nat.mul_one]; exact made_fnv n
  rw [e] at h1
  exact h1
end Go.Proofs.Ytnoaejpabfnfpaa

namespace Go.Proofs.Ytnoaejpabfnfpaa
open Go.RowKit

theorem Try.info8 : (Try.prog.info? 5).map (fun i => (i.zero, i.size, i.bytes)) = some (some (.int .u8 0), 1, 1) := by kernel_rfl

end Go.Proofs.Ytnoaejpabfnfpaa

namespace Go.Proofs.Ytnoaejpabfnfpaa
open Go.RowKit

def endF (x : Nat) : Int := if x < 256 then 0 else (x : Int) - 255
def wiF (f : Nat → Bool) (x : Nat) : Int := if x < 256 ∧ f x = true then 1 else 0
/-- What is in the first j of a list of bytes. -/
def wiJ (l : List Nat) (j : Nat) (x : Nat) : Int := if x ∈ l.take j then 1 else 0
theorem wiJ_zero (l : List Nat) (x : Nat) : wiJ l 0 x = 0 := by simp [wiJ]
theorem wiJ_succ {l : List Nat} {j b : Nat} (h : l[j]? = some b) : putF (wiJ l j) b 1 = wiJ l (j + 1) := by
  funext x
  unfold putF wiJ
  have e : l.take (j + 1) = l.take j ++ [b] := by rw [List.take_add_one, h]; rfl
  rw [e]
  by_cases hx : x = b
  · subst hx; simp
  · rw [if_neg hx]
    have : x ∈ l.take j ++ [b] ↔ x ∈ l.take j := by simp [hx]
    by_cases hm : x ∈ l.take j
    · rw [if_pos hm, if_pos (this.2 hm)]
    · rw [if_neg hm, if_neg (fun h => hm (this.1 h))]
theorem wiJ_end (f : Nat → Bool) (x : Nat) : wiJ (bl f 256) (bl f 256).length x = wiF f x := by
  unfold wiJ wiF
  rw [List.take_length]
  have : x ∈ bl f 256 ↔ x < 256 ∧ f x = true := by unfold bl; rw [List.mem_filter, List.mem_range]
  by_cases h : x ∈ bl f 256
  · rw [if_pos h, if_pos (this.1 h)]
  · rw [if_neg h, if_neg (fun g => h (this.2 g))]

end Go.Proofs.Ytnoaejpabfnfpaa

namespace Go.Proofs.Ytnoaejpabfnfpaa

theorem alk_zero {S : Nat → Sd} {x y : Nat} : alk S 0 x y = true ↔ x = y ∨ (x ≤ 255 ∧ y ≤ 255) := by
  rw [alk_iff]
  constructor
  · rintro (h | ⟨h1, h2, _⟩)
    · exact .inl h
    · exact .inr ⟨h1, h2⟩
  · rintro (h | ⟨h1, h2⟩)
    · exact .inl h
    · exact .inr ⟨h1, h2, fun i hi => absurd hi (Nat.not_lt_zero _)⟩
theorem hdA_bytes {S : Nat → Sd} {x : Nat} (h : x ≤ 255) : hdA (alk S 0) x = 0 := by
  rcases Nat.eq_zero_or_pos x with rfl | h0
  · exact hdA_self fun j hj => absurd hj (Nat.not_lt_zero _)
  · exact hdA_is h0 (alk_zero.2 (.inr ⟨by omega, h⟩)) fun j hj => absurd hj (Nat.not_lt_zero _)
theorem hdA_ends {S : Nat → Sd} {x : Nat} (h : 255 < x) : hdA (alk S 0) x = x := hdA_self fun j hj => by
  cases e : alk S 0 j x with
  | false => rfl
  | true => rcases alk_zero.1 e with h | h <;> omega
theorem cnt_bytes (S : Nat → Sd) : ∀ n, n ≤ 255 → cntT (isH (alk S 0)) (n + 1) = 1
  | 0, _ => by
    rw [cntT_succ]
    have : isH (alk S 0) 0 = true := by unfold isH; rw [beq_iff_eq]; exact hdA_bytes (by omega)
    rw [if_pos this]; rfl
  | n + 1, h => by
    have : isH (alk S 0) (n + 1) = false := by unfold isH; rw [hdA_bytes h]; simp
    rw [cntT_succ, cnt_bytes S n (by omega), this]; rfl
theorem cnt_ends (S : Nat → Sd) : ∀ k, cntT (isH (alk S 0)) (256 + k) = 1 + k
  | 0 => cnt_bytes S 255 (by omega)
  | k + 1 => by
    have : isH (alk S 0) (256 + k) = true := by unfold isH; rw [beq_iff_eq]; exact hdA_ends (by omega)
    rw [show 256 + (k + 1) = (256 + k) + 1 by omega, cntT_succ, cnt_ends S k, if_pos this]; omega
theorem cl_zero (S : Nat → Sd) (x : Nat) : endF x = (clA (alk S 0) x : Nat) := by
  unfold endF clA
  by_cases h : x < 256
  · rw [if_pos h, hdA_bytes (by omega)]; rfl
  · rw [if_neg h, hdA_ends (by omega)]
    obtain ⟨k, rfl⟩ : ∃ k, x = 256 + k := ⟨x - 256, by omega⟩
    rw [cnt_ends]; omega
theorem wi_eq {f : Nat → Bool} {x y : Nat} (hx : x ≤ 255) (hy : y ≤ 255) : wiF f x = wiF f y ↔ f x = f y := by
  unfold wiF
  have h1 : x < 256 := by omega
  have h2 : y < 256 := by omega
  cases f x <;> cases f y <;> simp [h1, h2]
/-- A set more. -/
theorem alk_next (S : Nat → Sd) (i : Nat) : joR (fun x => (clA (alk S i) x : Nat)) (wiF (sOf (S i))) = alk S (i + 1) := by
  funext x y
  rw [Bool.eq_iff_iff, joR_iff, alk_iff]
  have h1 : (((clA (alk S i) x : Nat) : Int) = ((clA (alk S i) y : Nat) : Int)) ↔ (x = y ∨ (x ≤ 255 ∧ y ≤ 255 ∧ ∀ j, j < i → sOf (S j) x = sOf (S j) y)) := by
    rw [← alk_iff, ← clA_iff (alk_eq S i)]; omega
  rw [h1]
  constructor
  · rintro ⟨h | ⟨h2, h3, h4⟩, h5⟩
    · exact .inl h
    · refine .inr ⟨h2, h3, fun j hj => ?_⟩
      by_cases e : j = i
      · subst e; exact (wi_eq h2 h3).1 h5
      · exact h4 j (by omega)
  · rintro (rfl | ⟨h2, h3, h4⟩)
    · exact ⟨.inl rfl, rfl⟩
    · exact ⟨.inr ⟨h2, h3, fun j hj => h4 j (by omega)⟩, (wi_eq h2 h3).2 (h4 i (Nat.lt_succ_self i))⟩
theorem ofWords_none (x : Nat) : ofWords 0 0 0 0 x = false := by
  unfold ofWords
  simp
/-- A state without a set more. -/
theorem alk_skip {S : Nat → Sd} {i : Nat} (h : (S i).a = 0 ∧ (S i).b = 0 ∧ (S i).c = 0 ∧ (S i).d = 0) : alk S (i + 1) = alk S i := by
  have hs : ∀ x, sOf (S i) x = false := fun x => by
    unfold sOf
    rw [h.1, h.2.1, h.2.2.1, h.2.2.2]
    exact ofWords_none x
  funext x y
  rw [Bool.eq_iff_iff, alk_iff, alk_iff]
  constructor
  · rintro (h | ⟨h1, h2, h3⟩)
    · exact .inl h
    · exact .inr ⟨h1, h2, fun j hj => h3 j (by omega)⟩
  · rintro (h | ⟨h1, h2, h3⟩)
    · exact .inl h
    · refine .inr ⟨h1, h2, fun j hj => ?_⟩
      by_cases e : j = i
      · subst e; rw [hs, hs]
      · exact h3 j (by omega)
end Go.Proofs.Ytnoaejpabfnfpaa
