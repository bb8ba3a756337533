/-
  The walk of the fifth laws' awake: the page's examples hold.
  Same of what Of tells twice; what Of's answers are, as values.
  What a pattern is told as: a tree, whose words are such as words may be. Plain facts.
  The walk of First: where a part begins.
  The walk of Kids: the last nodes of a node's arguments.
  The walks of Clone and Part: the nodes of a part.
-/
import Derived.Test.YtgjpmfdiidkdnaaGreatDoorPk45
import Derived.Test.YtgjpmfdiidkdnaaGreatDoorPk37
import Derived.Test.YtgjpmfdiidkdnaaGreatDoorPk30
import Derived.Test.YtgjpmfdiidkdnaaGreatDoorPk35
import Derived.Test.YtgjpmfdiidkdnaaGreatDoorPk39
import Derived.OwnWalk
namespace Go.Proofs.YtgjpmfdiidkdnaaGreatDoor
open Go.RowKit

theorem nds_get (l : List Nd) (j : Nat) (h : j < l.length) (x : Nat) (hx : x < 7) : (nds l)[j * 7 + x]? = (ncs l[j])[x]? := by
  induction l generalizing j with
  | nil => simp at h
  | cons r l ih =>
    have e : nds (r :: l) = ncs r ++ nds l := rfl
    have e7 : (ncs r).length = 7 := rfl
    rw [e]
    cases j with
    | zero => rw [List.getElem?_append_left (by omega)]; simp
    | succ j =>
      rw [List.getElem?_append_right (by omega), e7, show (j + 1) * 7 + x - 7 = j * 7 + x by omega]
      exact ih j (by simpa using h)
theorem nfn_get (l : List Nd) (j : Nat) (h : j < l.length) : nfn l j = l[j] := by unfold nfn; rw [List.getD_eq_getElem?_getD, List.getElem?_eq_getElem h]; rfl
theorem at_add {b o j : Nat} : ((⟨b, o, none⟩ : Addr).add j) = ⟨b, o + j, none⟩ := by unfold Addr.add; split <;> simp_all
/-- A row of nodes that a call made, not empty: its nodes. -/
theorem nds_own {w : World} {base : Nat} {e : TypeId} {v : Value} {l : List Nd} (h : w.ownsRow base e 7 v l.length (nds l)) (hl : 1 ≤ l.length) : ∃ g cap, v = .slice (some ⟨g, 0, none⟩) l.length cap ∧ rdN w g 0 l.length (nfn l) := by
  obtain ⟨g, cap, rfl, _, hg, hc⟩ := owns_block h hl
  refine ⟨g, cap, rfl, fun j hj => ⟨hg, ?_⟩⟩
  rw [nfn_get l j hj]
  have c : ∀ x, x < 7 → ∀ v, (ncs l[j])[x]? = some v → w.cell? ⟨g, 0 + j * 7 + x, none⟩ = some v := fun x hx v hv => by
    have := hc (j * 7 + x) v (by rw [nds_get l j hj x hx]; exact hv)
    rw [at_add, Nat.zero_add] at this
    rwa [Nat.zero_add]
  exact ⟨c 0 (by decide) _ rfl, c 1 (by decide) _ rfl, c 2 (by decide) _ rfl, c 3 (by decide) _ rfl, c 4 (by decide) _ rfl, c 5 (by decide) _ rfl, c 6 (by decide) _ rfl⟩

def exA : ByteArray := { data := #[97, 98, 124, 99, 42] }
def exP : ByteArray := { data := #[40, 97] }
def smN (x : Nd) : List Int := [x.k, x.a, x.b, x.c, x.d, x.lo, x.hi]
theorem exA_summ : (patF exA).2 = (0, 0) ∧ (patF exA).1.map (fun l => (l.length, smN (nfn l 4), smN (nfn l 5))) = some (6, [7, 0, 0, 0, 0, 0, -1], [6, 0, 0, 0, 0, 0, 0]) := by decide +kernel
theorem exP_summ : (patF exP).1.isNone = true ∧ (patF exP).2 = (2, 3) := by decide +kernel

end Go.Proofs.YtgjpmfdiidkdnaaGreatDoor

namespace Go.Proofs.YtgjpmfdiidkdnaaGreatDoor
open Go.RowKit

theorem same_nil (w : World) : Calls Tryz.prog 10 #[.slice none 0 0, .slice none 0 0] w fun e w' => e = .returned (.bool true) ∧ ∃ q, w' = w.drewN q := by
  go_enter Tryz.func10, Tryz.ntmps10
  go_wp2
  refine wp_loop_rounds 1 ?_
  rw [rounds_succ]; go_wp2
  go_returns
  exact ⟨rfl, 0, rfl⟩
/-- No tree of more than 512 nodes is told, and none without nodes. -/
theorem ofF_len {T : Nat → Tn} {n : Nat} {end_ : Int} {l : List Nd} (h : (ofF T n end_).1 = some l) : 1 ≤ l.length ∧ l.length ≤ 512 ∧ (ofF T n end_).2 = (0, 0) ∧ (wrF T n (n + 1) 0 0).2.1 = 0 ∧ (wrF T n (n + 1) 0 0).2.2 = 0 ∧ l = (ei T n (n + 1) 0).1 := by
  unfold ofF at h ⊢
  by_cases h1 : (wrF T n (n + 1) 0 0).2.1 ≠ 0
  · rw [if_pos h1] at h; cases h
  · rw [if_neg h1] at h ⊢
    by_cases h2 : 0 < (wrF T n (n + 1) 0 0).2.2
    · rw [if_pos h2] at h; cases h
    · rw [if_neg h2] at h ⊢
      by_cases h3 : 512 < (ei T n (n + 1) 0).1.length
      · rw [if_pos h3] at h; cases h
      · rw [if_neg h3] at h ⊢
        have := Option.some.inj h
        subst this
        have hok := (ei_ok T n (n + 1)) 0 (by omega) (by omega)
        exact ⟨by omega, by omega, rfl, by omega, by omega, rfl⟩
theorem patF_len {p : ByteArray} {l : List Nd} (h : (patF p).1 = some l) : 1 ≤ l.length ∧ l.length ≤ 512 := by
  unfold patF at h
  by_cases h1 : 200 < p.size
  · rw [if_pos h1] at h; cases h
  · rw [if_neg h1] at h
    cases ht : (toks p).1 with
    | none => rw [ht] at h; cases h
    | some tl => rw [ht] at h; exact ⟨(ofF_len h).1, (ofF_len h).2.1⟩
/-- Same, of what is told twice of one thing. -/
theorem same_of {r : Option (List Nd) × Int × Int} (hl : ∀ l, r.1 = some l → 1 ≤ l.length ∧ l.length ≤ 512) {w w1 w2 : World} {v v2 : Value} {x y : Value} (h1 : ofPost r w (.returned (.tuple #[v, x, y])) w1) (h2 : ofPost r w1 (.returned (.tuple #[v2, x, y])) w2) :
    (∃ q n c q' n' c', v = .slice q n c ∧ v2 = .slice q' n' c') ∧ Calls Tryz.prog 10 #[v, v2] w2 fun e w' => e = .returned (.bool true) ∧ ∃ q, w' = w2.drewN q := by
  cases hr : r.1 with
  | none =>
    have e1 := h1.2.1 hr
    have e2 := h2.2.1 hr
    simp at e1 e2
    have a1 := e1.1
    have a2 := e2.1
    subst a1 a2
    exact ⟨⟨_, _, _, _, _, _, rfl, rfl⟩, same_nil w2⟩
  | some l =>
    obtain ⟨u, e1, o1⟩ := h1.1 l hr
    obtain ⟨u2, e2, o2⟩ := h2.1 l hr
    simp at e1 e2
    have a1 := e1.1
    have a2 := e2.1
    subst a1 a2
    obtain ⟨g1, g2⟩ := hl l hr
    obtain ⟨b, c, rfl, hb⟩ := nds_own o1 g1
    obtain ⟨b', c', rfl, hb'⟩ := nds_own o2 g1
    exact ⟨⟨_, _, _, _, _, _, rfl, rfl⟩, same_is (nfn l) (nfn l) l.length (fun _ _ => rfl) (by omega) _ _ _ _ _ _ w2 (hb.below h2.2.2) hb'⟩
end Go.Proofs.YtgjpmfdiidkdnaaGreatDoor

namespace Go.Proofs.YtgjpmfdiidkdnaaGreatDoor

theorem pF_none {p : ByteArray} (h : (patF p).1 = none) : (patF p).2.2 ≠ 0 := by
  unfold patF at h ⊢
  by_cases h1 : 200 < p.size
  · rw [if_pos h1]; decide
  · rw [if_neg h1] at h ⊢
    cases ht : (toks p).1 with
    | none => simp
    | some l =>
      rw [ht] at h
      simp only at h ⊢
      unfold ofF at h ⊢
      by_cases c1 : (wrF (tof l) l.length (l.length + 1) 0 0).2.1 ≠ 0
      · rw [if_pos c1]; exact c1
      · rw [if_neg c1] at h ⊢
        by_cases c2 : 0 < (wrF (tof l) l.length (l.length + 1) 0 0).2.2
        · rw [if_pos c2]; simp
        · rw [if_neg c2] at h ⊢
          by_cases c3 : 512 < (ei (tof l) l.length (l.length + 1) 0).1.length
          · rw [if_pos c3]; simp
          · rw [if_neg c3] at h; cases h
theorem pF_some {p : ByteArray} {l : List Nd} (h : (patF p).1 = some l) : p.size ≤ 200 ∧ 1 ≤ l.length ∧ l.length ≤ 512 ∧ (patF p).2 = (0, 0) ∧ tree (nfn l) l.length ∧
    ∃ L, toks p = (some L, 0) ∧ L.length ≤ 200 ∧ inT l (tof L) L.length 0 0 ∧ ∀ j, j < L.length → normT (tof L j) := by
  have hlen := patF_len h
  unfold patF at h ⊢
  by_cases h1 : 200 < p.size
  · rw [if_pos h1] at h; cases h
  · rw [if_neg h1] at h ⊢
    cases ht : (toks p).1 with
    | none => rw [ht] at h; cases h
    | some L =>
      rw [ht] at h
      simp only at h ⊢
      have e : toks p = (some L, 0) := by
        have e1 : toks p = (some L, (toks p).2) := by rw [← ht]
        rw [e1, (toks_chain e1).2]
      obtain ⟨q1, q2, q3, q4, q5, q6⟩ := ofF_len h
      subst q6
      obtain ⟨t1, t2⟩ := ei_tree q4 q5 q2
      exact ⟨by omega, q1, q2, q3, t1, L, e, by have := toks_length e; omega, ⟨Nat.zero_le _, Nat.zero_le _, by rw [List.drop_zero]; exact t2⟩, fun j hj => tof_norm e j hj⟩


theorem leaves_mem {l : List Nd} {x : Nd} (h : x ∈ l) : (x.k = 2 ∨ x.k = 5 ∨ x.k = 6) ∨ x ∈ leaves l := by
  by_cases hk : x.k = 2 ∨ x.k = 5 ∨ x.k = 6
  · exact .inl hk
  · refine .inr (List.mem_filter.2 ⟨h, ?_⟩)
    unfold lfN
    simp only [Bool.not_eq_true', Bool.or_eq_false_iff, beq_eq_false_iff_ne]
    omega
theorem okW_zero {x : Nd} (h : x.a = 0 ∧ x.b = 0 ∧ x.c = 0 ∧ x.d = 0) : okW x := by
  obtain ⟨a, b, c, d⟩ := h
  unfold okW
  rw [a, b, c, d]
  decide
theorem tof_okW (L : List Tka) (j : Nat) : okW (ndSet (tof L j)) := by
  have hz : ∀ f i, (0 : Int) ≤ (wd f i : Int) ∧ (wd f i : Int) < 18446744073709551616 := fun f i => ⟨by omega, by have := wd_lt f i; omega⟩
  unfold tof
  split
  · exact ⟨hz _ _, hz _ _, hz _ _, hz _ _⟩
  · exact okW_zero ⟨rfl, rfl, rfl, rfl⟩
theorem leafOf_okW (L : List Tka) (j : Nat) : okW (leafOf (tof L j)) := by
  unfold leafOf
  split
  · exact tof_okW L j
  · split
    · exact okW_zero ⟨rfl, rfl, rfl, rfl⟩
    · split
      · exact okW_zero ⟨rfl, rfl, rfl, rfl⟩
      · exact okW_zero ⟨rfl, rfl, rfl, rfl⟩
theorem nfn_mem {l : List Nd} {j : Nat} (h : j < l.length) : nfn l j ∈ l := by
  unfold nfn
  rw [List.getD_eq_getElem?_getD, List.getElem?_eq_getElem h]
  exact List.getElem_mem h
theorem pF_okW {p : ByteArray} {l : List Nd} (h : (patF p).1 = some l) (j : Nat) (hj : j < l.length) : okW (nfn l j) := by
  obtain ⟨-, -, -, -, ht, L, -, -, hin, -⟩ := pF_some h
  have h2 := hin.2.2
  rw [List.drop_zero] at h2
  rcases leaves_mem (nfn_mem hj) with hk | hm
  · exact okW_zero (okN_zero ((tree_iff.1 ht).2.2.1 j hj).2 (by omega))
  · rw [h2] at hm
    unfold tl at hm
    obtain ⟨y, -, e⟩ := List.mem_map.1 hm
    rw [← e]
    exact leafOf_okW L y
end Go.Proofs.YtgjpmfdiidkdnaaGreatDoor

namespace Go.Proofs.YtgjpmfdiidkdnaaGreatDoor
open Go.RowKit

/-- What holds at the loop's head. -/
def fstRel (N : Nat → Nd) (i : Nat) (mi at_ : Value) : Prop :=
  (∃ p m : Nat, p ≤ i ∧ m ≤ 2 * (i - p) ∧ mi = .int .i64 ((m : Int) + 1) ∧ at_ = .int .i64 (p : Int) ∧ Hid (fst N i = back N (p + 1) (m + 1))) ∨ (at_ = .int .i64 (-1) ∧ Hid (fst N i = -1))
theorem fst_rel {N : Nat → Nd} {i p m : Nat} {x y : Int} (hp : p ≤ i) (hm : m + 1 ≤ 2 * (i - p) + 2) (hx : x = (m : Int) + 1) (hy : y = (p : Int) - 1) (h : fst N i = back N p (m + 1)) : fstRel N i (.int .i64 x) (.int .i64 y) := by
  subst hx hy
  cases p with
  | zero => exact .inr ⟨rfl, Lib.hid (by rw [h, back_none])⟩
  | succ p => exact .inl ⟨p, m, by omega, by omega, rfl, by rw [show ((p + 1 : Nat) : Int) - 1 = p by omega], Lib.hid h⟩

end Go.Proofs.YtgjpmfdiidkdnaaGreatDoor

namespace Go.Proofs.YtgjpmfdiidkdnaaGreatDoor
open Go.RowKit

/-- A node whose part begins somewhere: what its arguments are. -/
theorem kids_back {N : Nat → Nd} {i : Nat} (h : 0 ≤ fst N i) : (ar (N i).k = 0 ∧ kids N i = [] ∧ fst N i = i) ∨
    (ar (N i).k = 1 ∧ 0 < i ∧ kids N i = [(i : Int) - 1] ∧ fst N i = fst N (i - 1) ∧ 0 ≤ fst N (i - 1)) ∨
    (ar (N i).k = 2 ∧ ∃ f : Nat, 0 < f ∧ f + 1 ≤ i ∧ fst N (i - 1) = f ∧ kids N i = [(f : Int) - 1, (i : Int) - 1] ∧ fst N i = fst N (f - 1) ∧ 0 ≤ fst N (f - 1)) := by
  rw [fst_eq] at h
  have e := fst_eq N i
  rcases ar_cases (N i).k with ⟨ha, -⟩ | ⟨ha, -⟩ | ⟨ha, -⟩ | ⟨ha, -⟩
  · rw [ha] at h e; simp [back_zero] at e
    exact .inl ⟨ha, by simp [kids, ha], e⟩
  · rw [ha] at h e
    rw [if_neg (by omega)] at h e
    have hi : 0 < i := by
      rcases Nat.eq_zero_or_pos i with rfl | h0
      · rw [show ((1 : Int).toNat) = 0 + 1 from rfl, back_none] at h; omega
      · exact h0
    have e1 : fst N (i - 1) = back N i 1 := by unfold fst; rw [show i - 1 + 1 = i by omega]
    refine .inr (.inl ⟨ha, hi, by simp [kids, ha], ?_, ?_⟩)
    · rw [e, e1]; rfl
    · rw [e1]; exact h
  · rw [ha] at h e
    rw [if_neg (by omega)] at h e
    have hi : 0 < i := by
      rcases Nat.eq_zero_or_pos i with rfl | h0
      · rw [show ((2 : Int).toNat) = 1 + 1 from rfl, back_none] at h; omega
      · exact h0
    have hs : back N i (Int.toNat 2) = if fst N (i - 1) < 0 then -1 else back N (fst N (i - 1)).toNat 1 := by
      have := back_step N (i - 1) 1
      rwa [show i - 1 + 1 = i by omega] at this
    rw [hs] at h e
    have hb := fst_bd N (i - 1)
    by_cases h0 : fst N (i - 1) < 0
    · rw [if_pos h0] at h; omega
    · rw [if_neg h0] at h e
      obtain ⟨f, hf⟩ : ∃ f : Nat, fst N (i - 1) = f := ⟨(fst N (i - 1)).toNat, by omega⟩
      rw [hf] at h e
      simp only [Int.toNat_natCast] at h e
      have hf0 : 0 < f := by
        rcases Nat.eq_zero_or_pos f with rfl | h0
        · rw [back_none] at h; omega
        · exact h0
      have e1 : fst N (f - 1) = back N f 1 := by unfold fst; rw [show f - 1 + 1 = f by omega]
      exact .inr (.inr ⟨ha, f, hf0, by omega, hf, by simp [kids, ha, hf], by rw [e, e1], by rw [e1]; exact h⟩)
  · rw [ha] at h; simp at h

theorem mk0 : ∀ w, (Instr.makeSlice 47 (.int .i64 0) (.int .i64 0)).run Tryz.prog w = .ok (.slice (some ⟨w.heap.size, 0, none⟩) 0 0) (w.alloc (.cells #[] 3)) := fun _ => by kernel_rfl
theorem mk1 : ∀ w, (Instr.makeSlice 47 (.int .i64 1) (.int .i64 1)).run Tryz.prog w = .ok (.slice (some ⟨w.heap.size, 0, none⟩) 1 1) (w.alloc (.cells #[.int .i64 0] 3)) := fun _ => by kernel_rfl
theorem mk2 : ∀ w, (Instr.makeSlice 47 (.int .i64 2) (.int .i64 2)).run Tryz.prog w = .ok (.slice (some ⟨w.heap.size, 0, none⟩) 2 2) (w.alloc (.cells #[.int .i64 0, .int .i64 0] 3)) := fun _ => by kernel_rfl

end Go.Proofs.YtgjpmfdiidkdnaaGreatDoor

namespace Go.Proofs.YtgjpmfdiidkdnaaGreatDoor
open Go.RowKit

/-- A node's cells. -/
def nval (x : Nd) : Nat → Value
  | 0 => .int .i64 x.k
  | 1 => .int .u64 x.a
  | 2 => .int .u64 x.b
  | 3 => .int .u64 x.c
  | 4 => .int .u64 x.d
  | 5 => .int .i64 x.lo
  | _ => .int .i64 x.hi
def nvs (N : Nat → Nd) (m : Nat) : List Value := (List.range (m * 7)).map fun t => nval (N (t / 7)) (t % 7)
theorem nvs_len (N : Nat → Nd) (m : Nat) : (nvs N m).length = m * 7 := by simp [nvs]
theorem nvs_get (N : Nat → Nd) (m t : Nat) (h : t < m * 7) : (nvs N m)[t]? = some (nval (N (t / 7)) (t % 7)) := by
  unfold nvs; rw [List.getElem?_map, List.getElem?_range h]; rfl
theorem nvs_one (N : Nat → Nd) (m : Nat) : ∀ u ∈ nvs N m, u.oneCell' = true := by
  intro u hu
  unfold nvs at hu
  obtain ⟨t, _, rfl⟩ := List.mem_map.1 hu
  unfold nval
  split <;> rfl
theorem ndAt_val {w : World} {b o : Nat} {x : Nd} (h : ndAt w b o x) (r : Nat) (hr : r < 7) : w.cell? ⟨b, o + r, none⟩ = some (nval x r) := by
  unfold ndAt at h
  obtain ⟨h0, h1, h2, h3, h4, h5, h6⟩ := h
  match r, hr with
  | 0, _ => exact h0
  | 1, _ => exact h1
  | 2, _ => exact h2
  | 3, _ => exact h3
  | 4, _ => exact h4
  | 5, _ => exact h5
  | 6, _ => exact h6
theorem rdN_cells {w : World} {b off m : Nat} {N : Nat → Nd} (h : rdN w b off m N) : ∀ j u, (nvs N m)[j]? = some u → w.cell? ((⟨b, off, none⟩ : Addr).add j) = some u := by
  intro j u hu
  have hj : j < m * 7 := by
    have := (List.getElem?_eq_some_iff.1 hu).1
    rwa [nvs_len] at this
  rw [nvs_get N m j hj] at hu
  have hv := ndAt_val (h (j / 7) (by omega)).2 (j % 7) (by omega)
  rw [show off + j / 7 * 7 + j % 7 = off + j by omega] at hv
  have ha : (⟨b, off, none⟩ : Addr).add j = ⟨b, off + j, none⟩ := by unfold Addr.add; split <;> simp_all
  rw [ha, hv, ← hu]
theorem rdN_of_owns {w : World} {base : Nat} {e : TypeId} {g n cap : Nat} {N : Nat → Nd} (h : w.ownsRow base e 7 (.slice (some ⟨g, 0, none⟩) n cap) n (nvs N n)) : rdN w g 0 n N := by
  intro j hj
  refine ⟨(h.lt g rfl).2, ?_⟩
  have c : ∀ r, r < 7 → w.cell? ⟨g, 0 + j * 7 + r, none⟩ = some (nval (N j) r) := fun r hr => by
    rw [h.cellAt _ (by omega), nvs_get _ _ _ (by omega), show (0 + j * 7 + r) / 7 = j by omega, show (0 + j * 7 + r) % 7 = r by omega]
  exact ⟨c 0 (by decide), c 1 (by decide), c 2 (by decide), c 3 (by decide), c 4 (by decide), c 5 (by decide), c 6 (by decide)⟩

end Go.Proofs.YtgjpmfdiidkdnaaGreatDoor
