/-
  The walks of Clone and Part: the nodes of a part.
  The walk of the reference's Firsts: where each node's part begins.
-/
import Derived.Test.YthmkjdpmpcjinaaPk19
import Derived.OwnWalk
namespace Go.Proofs.Ythmkjdpmpcjinaa
open Go.RowKit

/-- A node's cells. -/
def nval (x : Nd) : Nat → Value
  | 0 => .int .i64 x.k
  | 1 => .int .u64 x.a
  | 2 => .int .u64 x.b
  | 3 => .int .u64 x.c
  | 4 => .int .u64 x.d
  | 5 => .int .i64 x.lo
  | _ => .int .i64 x.hi
def nvs (N : Nat → Nd) (m : Nat) : List Value := (List.range (m * 7)).map fun t => nval (N (t / 7)) (t % 7)
theorem nvs_len (N : Nat → Nd) (m : Nat) : (nvs N m).length = m * 7 := by simp [nvs]
theorem nvs_get (N : Nat → Nd) (m t : Nat) (h : t < m * 7) : (nvs N m)[t]? = some (nval (N (t / 7)) (t % 7)) := by
  unfold nvs; rw [List.getElem?_map, List.getElem?_range h]; rfl
theorem nvs_one (N : Nat → Nd) (m : Nat) : ∀ u ∈ nvs N m, u.oneCell' = true := by
  intro u hu
  unfold nvs at hu
  obtain ⟨t, _, rfl⟩ := List.mem_map.1 hu
  unfold nval
  split <;> rfl
theorem ndAt_val {w : World} {b o : Nat} {x : Nd} (h : ndAt w b o x) (r : Nat) (hr : r < 7) : w.cell? ⟨b, o + r, none⟩ = some (nval x r) := by
  unfold ndAt at h
  obtain ⟨h0, h1, h2, h3, h4, h5, h6⟩ := h
  match r, hr with
  | 0, _ => exact h0
  | 1, _ => exact h1
  | 2, _ => exact h2
  | 3, _ => exact h3
  | 4, _ => exact h4
  | 5, _ => exact h5
  | 6, _ => exact h6
theorem rdN_cells {w : World} {b off m : Nat} {N : Nat → Nd} (h : rdN w b off m N) : ∀ j u, (nvs N m)[j]? = some u → w.cell? ((⟨b, off, none⟩ : Addr).add j) = some u := by
  intro j u hu
  have hj : j < m * 7 := by
    have := (List.getElem?_eq_some_iff.1 hu).1
    rwa [nvs_len] at this
  rw [nvs_get N m j hj] at hu
  have hv := ndAt_val (h (j / 7) (by omega)).2 (j % 7) (by omega)
  rw [show off + j / 7 * 7 + j % 7 = off + j by omega] at hv
  have ha : (⟨b, off, none⟩ : Addr).add j = ⟨b, off + j, none⟩ := by unfold Addr.add; split <;> simp_all
  rw [ha, hv, ← hu]
theorem rdN_of_owns {w : World} {base : Nat} {e : TypeId} {g n cap : Nat} {N : Nat → Nd} (h : w.ownsRow base e 7 (.slice (some ⟨g, 0, none⟩) n cap) n (nvs N n)) : rdN w g 0 n N := by
  intro j hj
  refine ⟨(h.lt g rfl).2, ?_⟩
  have c : ∀ r, r < 7 → w.cell? ⟨g, 0 + j * 7 + r, none⟩ = some (nval (N j) r) := fun r hr => by
    rw [h.cellAt _ (by omega), nvs_get _ _ _ (by omega), show (0 + j * 7 + r) / 7 = j by omega, show (0 + j * 7 + r) % 7 = r by omega]
  exact ⟨c 0 (by decide), c 1 (by decide), c 2 (by decide), c 3 (by decide), c 4 (by decide), c 5 (by decide), c 6 (by decide)⟩

end Go.Proofs.Ythmkjdpmpcjinaa

namespace Go.Proofs.Ythmkjdpmpcjinaa
open Go.RowKit

theorem infoInt : (Try.prog.info? 3).map (fun i => (i.zero, i.size, i.bytes)) = some (some (.int .i64 0), 1, 8) := by kernel_rfl
def fsts (N : Nat → Nd) (k : Nat) : List Int := (List.range k).map (fst N)
theorem fsts_succ (N : Nat → Nd) (k : Nat) : fsts N (k + 1) = fsts N k ++ [fst N k] := by unfold fsts; rw [List.range_succ, List.map_append]; rfl
theorem fsts_len (N : Nat → Nd) (k : Nat) : (fsts N k).length = k := by simp [fsts]
theorem fsts_get (N : Nat → Nd) (k j : Nat) (h : j < k) : (ivs (fsts N k))[j]? = some (.int .i64 (fst N j)) := by simp [ivs, fsts, h]

/-- What holds at the head of the inner loop. -/
def fsRel (N : Nat → Nd) (k : Nat) (x y : Value) : Prop := ∃ (fr : Int) (m : Nat), x = .int .i64 fr ∧ y = .int .i64 (m : Int) ∧ m ≤ 2 ∧ -1 ≤ fr ∧ fr ≤ k ∧ Hid (fst N k = if fr < 0 then -1 else back N fr.toNat m)
theorem fsRel_none {N : Nat → Nd} {k m : Nat} (hm : m ≤ 1) (h : fst N k = back N 0 (m + 1)) (y : Int) (hy : y = m) : fsRel N k (.int .i64 (-1)) (.int .i64 y) :=
  ⟨-1, m, rfl, by rw [hy], by omega, by omega, by omega, Lib.hid (by rw [h, back_none]; rfl)⟩
theorem fsRel_step {N : Nat → Nd} {k q m : Nat} (hm : m ≤ 1) (hq : q + 1 ≤ k) (h : fst N k = back N (q + 1) (m + 1)) (y : Int) (hy : y = m) : fsRel N k (.int .i64 (fst N q)) (.int .i64 y) := by
  have hb := fst_bd N q
  refine ⟨fst N q, m, rfl, by rw [hy], by omega, by omega, by omega, Lib.hid ?_⟩
  rw [h, back_step]

theorem fs_end {N : Nat → Nd} {k : Nat} {fr : Int} (h : fst N k = if fr < 0 then -1 else back N fr.toNat 0) (h0 : -1 ≤ fr) : fst N k = fr := by
  rw [h]
  split
  · omega
  · rw [back_zero]; omega

end Go.Proofs.Ythmkjdpmpcjinaa
