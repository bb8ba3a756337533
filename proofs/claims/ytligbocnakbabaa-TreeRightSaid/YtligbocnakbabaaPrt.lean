/-
  The walks of Clone and Part: the nodes of a part.
-/
import Derived.Test.YtligbocnakbabaaKid
import Derived.OwnWalk
namespace Go.Proofs.Ytligbocnakbabaa
open Go.RowKit

theorem infoNode : (Try.prog.info? 38).map (fun i => (i.zero, i.size, i.bytes)) = some (some (.agg #[.int .i64 0, .int .u64 0, .int .u64 0, .int .u64 0, .int .u64 0, .int .i64 0, .int .i64 0]), 7, 56) := by kernel_rfl

/-- A node's cells. -/
def nval (x : Nd) : Nat → Value
  | 0 => .int .i64 x.k
  | 1 => .int .u64 x.a
  | 2 => .int .u64 x.b
  | 3 => .int .u64 x.c
  | 4 => .int .u64 x.d
  | 5 => .int .i64 x.lo
  | _ => .int .i64 x.hi
def nvs (N : Nat → Nd) (m : Nat) : List Value := (List.range (m * 7)).map fun t => nval (N (t / 7)) (t % 7)
theorem nvs_len (N : Nat → Nd) (m : Nat) : (nvs N m).length = m * 7 := by simp [nvs]
theorem nvs_get (N : Nat → Nd) (m t : Nat) (h : t < m * 7) : (nvs N m)[t]? = some (nval (N (t / 7)) (t % 7)) := by
  unfold nvs; rw [List.getElem?_map, List.getElem?_range h]; rfl
theorem nvs_one (N : Nat → Nd) (m : Nat) : ∀ u ∈ nvs N m, u.oneCell' = true := by
  intro u hu
  unfold nvs at hu
  obtain ⟨t, _, rfl⟩ := List.mem_map.1 hu
  unfold nval
  split <;> rfl
theorem ndAt_val {w : World} {b o : Nat} {x : Nd} (h : ndAt w b o x) (r : Nat) (hr : r < 7) : w.cell? ⟨b, o + r, none⟩ = some (nval x r) := by
  unfold ndAt at h
  obtain ⟨h0, h1, h2, h3, h4, h5, h6⟩ := h
  match r, hr with
  | 0, _ => exact h0
  | 1, _ => exact h1
  | 2, _ => exact h2
  | 3, _ => exact h3
  | 4, _ => exact h4
  | 5, _ => exact h5
  | 6, _ => exact h6
theorem rdN_cells {w : World} {b off m : Nat} {N : Nat → Nd} (h : rdN w b off m N) : ∀ j u, (nvs N m)[j]? = some u → w.cell? ((⟨b, off, none⟩ : Addr).add j) = some u := by
  intro j u hu
  have hj : j < m * 7 := by
    have := (List.getElem?_eq_some_iff.1 hu).1
    rwa [nvs_len] at this
  rw [nvs_get N m j hj] at hu
  have hv := ndAt_val (h (j / 7) (by omega)).2 (j % 7) (by omega)
  rw [show off + j / 7 * 7 + j % 7 = off + j by omega] at hv
  have ha : (⟨b, off, none⟩ : Addr).add j = ⟨b, off + j, none⟩ := by unfold Addr.add; split <;> simp_all
  rw [ha, hv, ← hu]
theorem rdN_of_owns {w : World} {base : Nat} {e : TypeId} {g n cap : Nat} {N : Nat → Nd} (h : w.ownsRow base e 7 (.slice (some ⟨g, 0, none⟩) n cap) n (nvs N n)) : rdN w g 0 n N := by
  intro j hj
  refine ⟨(h.lt g rfl).2, ?_⟩
  have c : ∀ r, r < 7 → w.cell? ⟨g, 0 + j * 7 + r, none⟩ = some (nval (N j) r) := fun r hr => by
    rw [h.cellAt _ (by omega), nvs_get _ _ _ (by omega), show (0 + j * 7 + r) / 7 = j by omega, show (0 + j * 7 + r) % 7 = r by omega]
  exact ⟨c 0 (by decide), c 1 (by decide), c 2 (by decide), c 3 (by decide), c 4 (by decide), c 5 (by decide), c 6 (by decide)⟩

theorem clone_any (b off m cap : Nat) (N : Nat → Nd) (h0 : 0 < m) (hm : m ≤ 1000) (w : World) (hr : rdN w b off m N) :
    Calls Try.prog 20 #[.slice (some ⟨b, off, none⟩) m cap] w fun e w' => ∃ g c, e = .returned (.slice (some ⟨g, 0, none⟩) m c) ∧ rdN w' g 0 m N ∧ Below w.heap.size w w' := by
  obtain ⟨i0, hi, hz0, hz1, hz2⟩ := info_parts infoNode
  have heq : ∀ u : World, (binOp .eql 22 (.slice (some ⟨b, off, none⟩) m cap) (.slice none 0 0)).run Try.prog u = .ok (.bool false) u := fun u => Lib.run_eql_slice_nil u 22 38 _ _ _ _ _ Try.underlying22
  have HR := Lib.hid hr
  clear hr
  go_enter Try.func20, Try.ntmps20
  go_wp2_with (at_builtin; refine wpList_append_own _ rfl _ _ 22 rfl w.heap.size 38 i0 (.agg #[.int .i64 0, .int .u64 0, .int .u64 0, .int .u64 0, .int .u64 0, .int .i64 0, .int .i64 0]) 7 56 Try.underlying22 hi hz0 hz1 hz2 rfl (by decide) _ _ _ rfl (World.ownsRow_lit w #[] 0 (Nat.le_refl _) (by unfold maxLen; omega) rfl) ⟨b, off, none⟩ m cap (nvs N m) rfl ?u0 ?u1 ?u2 ?u3 ?u4 ?u5 ?_)
  case u0 => exact nvs_len N m
  case u1 => exact rdN_cells (HR.out.below ((Below.refl _ _).alloc (Nat.le_refl _) _))
  case u2 => exact nvs_one N m
  case u3 => unfold maxLen; omega
  case u4 => omega
  case u5 => simp
  intro v' w2 hown2 hgrow hnil
  rcases hown2.2 with ⟨rfl, hx⟩ | ⟨g, c, cur, rfl, _⟩
  · exfalso; omega
  · have H2 : Hid (rdN w2 g 0 m N) := Lib.hid (rdN_of_owns hown2)
    have HB : Hid (Below w.heap.size w w2) := Lib.hid (((Below.refl _ _).alloc (Nat.le_refl _) _).grown hgrow (by simp) fun r hr => by cases hr; exact Nat.le_refl _)
    clear hown2 hgrow hnil HR
    go_wp2
    go_ret
    exact ⟨_, _, rfl, H2.out, HB.out⟩

theorem part_out (p : Option Addr) (n cap : Nat) (i : Int) (h : i < 0 ∨ (n : Int) ≤ i) (w : World) :
    Calls Try.prog 15 #[.slice p n cap, .int .i64 i] w fun e w' => e = .returned (.slice none 0 0) ∧ w = w' := by
  go_enter Try.func15, Try.ntmps15
  go_wp2_with (go_at_call 16; refine (first_out _ _ _ _ h _).mono ?_; rintro e w' ⟨rfl, rfl⟩)
  go_ret
  exact ⟨rfl, rfl⟩
theorem part_not (b off n cap i : Nat) (N : Nat → Nd) (hn : n ≤ 1000) (hi : i < n) (hf : fst N i < 0) (w : World) (hr : rdN w b off n N) :
    Calls Try.prog 15 #[.slice (some ⟨b, off, none⟩) n cap, .int .i64 (i : Int)] w fun e w' => e = .returned (.slice none 0 0) ∧ w = w' := by
  go_enter Try.func15, Try.ntmps15
  go_wp2_with (go_at_call 16; refine (first_in _ _ _ _ _ _ hn hi _ hr).mono ?_; rintro e w' ⟨rfl, rfl⟩)
  go_ret
  exact ⟨rfl, rfl⟩
set_option maxHeartbeats 1000000 in
theorem part_is (b off n cap i f : Nat) (N : Nat → Nd) (hn : n ≤ 1000) (hi : i < n) (hcap : n ≤ cap) (hf : fst N i = f) (w : World) (hr : rdN w b off n N) :
    Calls Try.prog 15 #[.slice (some ⟨b, off, none⟩) n cap, .int .i64 (i : Int)] w fun e w' => ∃ g c, e = .returned (.slice (some ⟨g, 0, none⟩) (i + 1 - f) c) ∧ rdN w' g 0 (i + 1 - f) (fun j => N (f + j)) ∧ Below w.heap.size w w' := by
  have hfi := (fst_bd N i).2
  rw [hf] at hfi
  have hfi' : f ≤ i := by omega
  have hs := (hr.sub f (i + 1 - f) (by omega))
  have HR := Lib.hid hr; have HS := Lib.hid hs; have HF := Lib.hid hf
  have h0 : (0 : Int) ≤ (f : Int) := by omega
  have h2 : (i : Int) + 1 ≤ (n : Int) := by omega
  have h3 : (i : Int) + 1 ≤ (cap : Int) := by omega
  have h4 : (f : Int) ≤ (i : Int) + 1 := by omega
  have h5 : ((i : Int) + 1).toNat = i + 1 := by omega
  have t0 : decide ((f : Int) < 0) = false := decide_eq_false (by omega)
  clear hr hs hf
  go_enter Try.func15, Try.ntmps15
  go_wp2_with fail
  refine (first_in _ _ _ _ _ _ hn hi _ HR.out).mono ?_; rintro e w' ⟨rfl, rfl⟩; rw [HF.out]
  go_wp2_with fail
  refine (clone_any _ _ _ _ _ (by omega) (by omega) _ HS.out).mono ?_
  rintro e w2 ⟨g, c, rfl, hg, hb⟩
  have HG := Lib.hid hg; have HB := Lib.hid hb
  clear hg hb
  go_wp2
  go_ret
  exact ⟨_, _, rfl, HG.out, HB.out⟩
end Go.Proofs.Ytligbocnakbabaa
