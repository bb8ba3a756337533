/-
  The walk of search's put.
-/
import Derived.Test.YtefpoapbodbenaaPk25
import Derived.Deep.RegionHeldLaw
import Derived.Deep.RegionLaw
namespace Go.Proofs.Ytefpoapbodbenaa
open Go.RowKit

theorem infoPr14 : (Try.prog.info? 49).map (fun i => (i.zero, i.size, i.bytes)) = some (some (prV 0 0), 2, 16) := by kernel_rfl
theorem step_append_pr {w : World} {ops : Array Oper} {o : Oper} {a : Act} {K : Act → World → Prop} {Q : Exit → Act → World → Prop} {E : Prop} (hgd : o.guard = none) (s x : Operand)
    (ho : o.op = .call { callee := .builtin .append, args := #[s, x], argTypes := #[45, 45] }) (base : Nat) (v : Value) (l : Mt14) (e : (Nat × Nat) × List Nat) (hs : a.eval s = v) (hown : w.ownsRow base 49 2 v l.length (pcC14 l)) (g : Nat)
    (hx : a.eval x = .slice (some ⟨g, 0, none⟩) 1 1) (hc0 : w.cell? ⟨g, 0, none⟩ = some (.int .i64 (e.1.1 : Int))) (hc1 : w.cell? ⟨g, 1, none⟩ = some (.int .i64 (e.1.2 : Int))) (hlen : l.length ≤ 1000000) (hbase : base ≤ w.heap.size)
    (h : ∀ p' n' c' w', n' = l.length + 1 → w'.ownsRow base 49 2 (.slice p' n' c') (l ++ [e]).length (pcC14 (l ++ [e])) → w.grownBy w' v.ownBlock → ((Value.slice p' n' c').ownBlock = v.ownBlock ∨ (Value.slice p' n' c').ownBlock = some w.heap.size) → K (a.put o.dst (.slice p' n' c')) w') :
    if Region.wanted o (yielded ops a.tmps) = true then Oper.wp Try.prog o a w K Q else E := by
  have hwt : Region.wanted o (yielded ops a.tmps) = true := by simp [Region.wanted, hgd]
  rw [if_pos hwt]
  obtain ⟨i0, hi, hz0, hz1, hz2⟩ := info_parts infoPr14
  obtain ⟨v', w', hr, h2, h3, h4, h5⟩ := run_append_own_at (P := Try.prog) w base 45 o.type 49 i0 (prV 0 0) 2 16 Try.underlying45 hi hz0 hz1 hz2 rfl (by decide) v l.length (pcC14 l) hown ⟨g, 0, none⟩ 1 1 [.int .i64 (e.1.1 : Int), .int .i64 (e.1.2 : Int)] rfl (by
    intro j u hu
    match j, hu with
    | 0, hu => simp at hu; subst hu; simpa [Addr.add] using hc0
    | 1, hu => simp at hu; subst hu; simpa [Addr.add] using hc1) (by
    intro u hu
    simp at hu
    rcases hu with rfl | rfl <;> rfl) (by unfold maxLen; omega) (by omega) hbase
  unfold Oper.wp
  simp [execOp, ho, resolve, invoke, builtin, hs, hx, hr, Result.andThen]
  rw [← pcC_app] at h2
  have h6 : w'.ownsRow base 49 2 v' (l ++ [e]).length (pcC14 (l ++ [e])) := by rw [List.length_append]; exact h2
  rcases id h2.2 with ⟨_, h0⟩ | ⟨g, cap, cur, rfl, _⟩
  · omega
  · exact h _ _ _ w' rfl h6 h3 h5
theorem joH_same {H : Nat → Nat} {p q : Nat} (h : H p = H q) : joH H p q = H := by
  funext z
  unfold joH
  split
  · rename_i e; rw [e, h]
  · rfl
theorem kiP.put' {nx n : Nat} {l : Mt14} {K H d : Nat → Nat} (h : kiP nx n l H) (hu : ufP K n H d) {p q : Nat} (hp : p < n) (hq : nx + q < n) (w : List Nat) : kiP nx n (puZ nx H l (p, q) w) (joH H p (nx + q)) := by
  unfold puZ
  by_cases e : H p = H (nx + q)
  · rw [if_pos e, joH_same e]; exact h
  · rw [if_neg e]; exact h.put hu hp hq w
/-- What a search holds, and what is true of it. -/
def srI (X : Nat → Prop) (w : World) (base S : Nat) (A : Dq14) (x : Da) (B : Dq14) (y : Da) (mb g c : Nat) (l : Mt14) (H : Nat → Nat) : Prop :=
  ∃ mv K d D, SrM X w base S A x B y mb mv g c l K D ∧ ufP K (x.n2 + y.n2) H d ∧ kiP x.n2 (x.n2 + y.n2) l H ∧ dmZ l D ∧ smZ l

/-- A pair more: in the map, then in the list. -/
theorem SrM.grow {X : Nat → Prop} {w3 w4 w5 w6 : World} {base S : Nat} {A B : Dq14} {x y : Da} {mb : Nat} {mv mv6 : Value} {g c : Nat} {l : Mt14} {K : Nat → Nat} {D D' : Dm} {e : (Nat × Nat) × List Nat}
    (H : SrM X w3 base S A x B y mb mv g c l K D) (hg4 : w3.grownBy w4 (some mb)) (ho4 : ownsS w4 mb (l.length + 1) D') (hb5 : Below w4.heap.size w4 w5) (hg6 : w5.grownBy w6 mv.ownBlock)
    (hr6 : w6.ownsRow base 49 2 mv6 (l ++ [e]).length (pcC14 (l ++ [e]))) (hv6 : mv6.ownBlock = mv.ownBlock ∨ mv6.ownBlock = some w5.heap.size) :
    SrM X (w6.setCell ⟨S, 11, none⟩ mv6) base S A x B y mb mv6 g c (l ++ [e]) K D' ∧ kpX X w3 (w6.setCell ⟨S, 11, none⟩ mv6) ∧ w6.cell? ⟨S, 11, none⟩ = some mv ∧ w6.frozen? ⟨S, 11, none⟩ = false ∧ S < w6.heap.size := by
  have z4 := hg4.size
  have z5 := hb5.size
  have z6 := hg6.size
  have s4 := H.sr.kept hg4 (by simp; exact H.sm)
  have s5 : isSr w5 S A x B y mb mv g (x.n2 + y.n2) c := (hb5.block S s4.lt).trans s4
  have s6 := s5.kept hg6 H.sr'
  have hgs := grown_setCell w6 S 11 mv6
  have k4 : icR w4 base g (x.n2 + y.n2) c K := World.ownsRow.kept H.kin hg4 (.inr (by simp [Value.ownBlock]; exact H.gm))
  have k5 := k4.below hb5
  have k6 : icR w6 base g (x.n2 + y.n2) c K := World.ownsRow.kept k5 hg6 (.inr H.rg)
  have m5 := ownsMap_below ho4 hb5 ho4.lt
  have m6 := m5.kept hg6 H.mr
  have hmS : some S ≠ mv6.ownBlock := fun e2 => by
    rcases hv6 with h | h
    · exact H.sr' (e2.trans h)
    · rw [h] at e2
      have h1 : S = w5.heap.size := by simpa using e2
      have := s5.lt
      omega
  refine ⟨⟨s6.put11 _, World.ownsRow.kept k6 hgs (.inr (by simp [Value.ownBlock]; exact fun e => H.sg e.symm)), ?_, World.ownsRow.kept hr6 hgs (.inr (Ne.symm hmS)), H.xs, H.xg, H.xm, fun b hb => ?_, fun k hk => ?_, ?_⟩, ?_, s6.cells.2.2.2.2.2.2.2.2.2.2.2.1, s6.free 11, s6.lt⟩
  · rw [List.length_append]
    exact m6.kept hgs (by simp; exact fun e => H.sm e.symm)
  · rcases hv6 with h | h
    · exact H.xr b (h ▸ hb)
    · rw [h] at hb
      have h1 : w5.heap.size = b := by simpa using hb
      intro hX
      have := H.xl b hX
      omega
  · have := H.xl k hk
    have := hgs.size
    omega
  · have := H.bl
    have := hgs.size
    omega
  · refine ((kpX.of_grown hg4 fun k e => by cases e; exact H.xm).trans (kpX.of_below hb5)).trans ((kpX.of_grown hg6 fun k e => H.xr k e).trans (kpX.of_grown hgs fun k e => by cases e; exact H.xs))

set_option maxRecDepth 100000 in
set_option maxHeartbeats 8000000 in
theorem eput14 (X : Nat → Prop) (base S : Nat) (A : Dq14) (x : Da) (B : Dq14) (y : Da) (mb g c : Nat) (l : Mt14) (H : Nat → Nat) (p q : Nat) (u : List Nat) (f1 f2 f3 : Int) (w : World)
    (HI : srI X w base S A x B y mb g c l H) (hx : x.n2 ≤ 1000) (hy : y.n2 ≤ 1000) (hp : p < x.n2) (hq : q < y.n2) (hl : l.length ≤ 1000000)
    (hst : (u = [] ∧ f3 = -1) ∨ ∃ (Q : Nat × Nat) (v : List Nat) (c : Nat), u = v ++ [c] ∧ (Q, v) ∈ l ∧ f1 = (Q.1 : Int) ∧ f2 = (Q.2 : Int) ∧ f3 = (c : Int)) :
    Calls Try.prog 37 #[.pointer (some ⟨S, 0, none⟩), prV p q, spV f1 f2 f3] w fun e w' => e = .returned (.tuple #[]) ∧ srI X w' base S A x B y mb g c (puZ x.n2 H l (p, q) u) (joH H p (x.n2 + q)) ∧ kpX X w w' := by
  obtain ⟨mv, K, d, D, HM, hu, hk, hd, hs⟩ := HI
  obtain ⟨h, hh⟩ : ∃ h, w.heap.size = h := ⟨_, rfl⟩
  obtain ⟨W2, hW2⟩ : ∃ W2, (w.alloc (.cells #[.int .i64 (p : Int), .int .i64 (q : Int)] 49)).alloc (.cells #[.int .i64 f1, .int .i64 f2, .int .i64 f3] 76) = W2 := ⟨_, rfl⟩
  have hb2 : Below h w W2 := hW2 ▸ hh ▸ (((Below.refl _ _).alloc (Nat.le_refl _) _).alloc (by rw [World.size_alloc]; omega) _)
  have hz2 : W2.heap.size = h + 2 := by rw [← hW2, World.size_alloc, World.size_alloc, hh]
  have hP2 : W2.heap[h]? = some (.cells #[.int .i64 (p : Int), .int .i64 (q : Int)] 49 (0, 0)) := by
    rw [← hW2, ← hh]
    exact (Below.heap_alloc (w.alloc _) _ w.heap.size (by rw [World.size_alloc]; omega)).trans (heap_alloc_new w _)
  have hP3 : W2.heap[h + 1]? = some (.cells #[.int .i64 f1, .int .i64 f2, .int .i64 f3] 76 (0, 0)) := by
    rw [← hW2, ← hh, show w.heap.size + 1 = (w.alloc (.cells #[.int .i64 (p : Int), .int .i64 (q : Int)] 49)).heap.size by rw [World.size_alloc]]
    exact heap_alloc_new _ _
  have HM2 := HM.below (hh.symm ▸ hb2)
  have hgh : g < h := by have := HM.kin.lt; omega
  have hpn : p < x.n2 + y.n2 := by omega
  have hqn : x.n2 + q < x.n2 + y.n2 := by omega
  have HJ := Lib.hid (join14 base g (x.n2 + y.n2) c K H d p (x.n2 + q) hu hpn hqn (by omega) W2.drew (HM2.below (Below.refl _ _).drew).kin)
  obtain ⟨bb, hbb⟩ : ∃ bb, decide (H p ≠ H (x.n2 + q)) = bb := ⟨_, rfl⟩
  rw [hbb, Int.natCast_add] at HJ
  have HBB := Lib.hid hbb
  have hz3 := HM.sr.lt
  have HM2' := Lib.hid HM2; have HU := Lib.hid hu; have HKI := Lib.hid hk; have HD := Lib.hid hd; have HS := Lib.hid hs; have HMM := Lib.hid HM
  have HP2 := Lib.hid hP2; have HP3 := Lib.hid hP3; have HB2 := Lib.hid hb2; have HW2 := Lib.hid hW2
  have HST := Lib.hid hst
  have HH := Lib.hid hh; have HZ2 := Lib.hid hz2
  obtain ⟨y0, y1, y2, y3, y4, y5, y6, y7, y8, y9, y10, y11, y12⟩ := HM2.sr.cells
  have p0 : W2.cell? ⟨h, 0, none⟩ = some (.int .i64 (p : Int)) := by simp [World.cell?, hP2]
  have p1 : W2.cell? ⟨h, 1, none⟩ = some (.int .i64 (q : Int)) := by simp [World.cell?, hP2]
  have a0 : (x.n2 : Int) ≤ 1000 := by omega
  have a1 : (q : Int) ≤ 1000 := by omega
  have hwr : IntKind.i64.wrap ((x.n2 : Int) + (q : Int)) = (x.n2 : Int) + (q : Int) := by rw [IntKind.wrap_i64]; omega
  have HKC : Hid (∀ w', Below W2.heap.size W2 w' ∨ kpX (fun k => k ≠ g) W2.drew w' → w'.cell? ⟨S, 4, none⟩ = some (.slice A.q2 x.n2 A.c2) ∧ w'.cell? ⟨S, 12, none⟩ = some (.slice (some ⟨g, 0, none⟩) (x.n2 + y.n2) c) ∧ w'.cell? ⟨h, 0, none⟩ = some (.int .i64 (p : Int)) ∧ w'.cell? ⟨h, 1, none⟩ = some (.int .i64 (q : Int))) := Lib.hid fun w' hw' => by
    rcases hw' with hw' | hw'
    · have := (HM2.below hw').sr.cells
      exact ⟨this.2.2.2.2.1, this.2.2.2.2.2.2.2.2.2.2.2.2, (hw'.cell (p := ⟨h, 0, none⟩) (show h < _ by omega)).trans (by simp [World.cell?, hP2]), (hw'.cell (p := ⟨h, 1, none⟩) (show h < _ by omega)).trans (by simp [World.cell?, hP2])⟩
    · have h1 : isSr w' S A x B y mb mv g (x.n2 + y.n2) c := (hw'.block S (by have := HM2.sr.lt; simp; omega) HM2.sg).trans HM2.sr
      have h2 : w'.heap[h]? = some (.cells #[.int .i64 (p : Int), .int .i64 (q : Int)] 49 (0, 0)) := (hw'.block h (by simp; omega) (by omega)).trans hP2
      exact ⟨h1.cells.2.2.2.2.1, h1.cells.2.2.2.2.2.2.2.2.2.2.2.2, by simp [World.cell?, h2], by simp [World.cell?, h2]⟩
  have hzw : S < W2.heap.size := by omega
  have hgw : g < W2.heap.size := by omega
  have hhw : h < W2.heap.size := by omega
  clear hW2 hb2 hP2 hP3 HM2 HM hu hk hd hs hbb hst hz2
  go_enter Try.func37, Try.ntmps37
  go_upto_region 1 with (fail)
  rw [HW2.out]
  clear hh
  go_region_held_law (fun w' => w'.cell? ⟨S, 4, none⟩ = some (.slice A.q2 x.n2 A.c2) ∧ w'.cell? ⟨S, 12, none⟩ = some (.slice (some ⟨g, 0, none⟩) (x.n2 + y.n2) c) ∧ w'.cell? ⟨h, 0, none⟩ = some (.int .i64 (p : Int)) ∧ w'.cell? ⟨h, 1, none⟩ = some (.int .i64 (q : Int)))
    (first | exact HKC.out _ (.inl (Below.refl _ _)) | exact HKC.out _ (.inl (Below.refl _ _).drew) | exact HKC.out _ (.inr hk3))
    (first | (refine HJ.out.mono ?_; rintro e w3 ⟨rfl, ⟨K3, d3, hu3, hr3⟩, hk3⟩))
  have HM3 := Lib.hid ((HM2'.out.below (Below.refl _ _).drew).kind hk3 hr3)
  have HK3 : Hid (kpX X w w3) := Lib.hid (((kpX.of_below (HH.out.symm ▸ HB2.out)).trans (kpX.of_below (Below.refl _ _).drew)).trans (hk3.sub fun _ hX e => HMM.out.xg (e ▸ hX)))
  have HU3 := Lib.hid hu3
  have HP4 : Hid (w3.heap[h]? = some (.cells #[.int .i64 (p : Int), .int .i64 (q : Int)] 49 (0, 0))) := Lib.hid ((hk3.block h (by simp; omega) (by omega)).trans HP2.out)
  have HP5 : Hid (w3.heap[h + 1]? = some (.cells #[.int .i64 f1, .int .i64 f2, .int .i64 f3] 76 (0, 0))) := Lib.hid ((hk3.block (h + 1) (by have := HZ2.out; simp; omega) (by omega)).trans HP3.out)
  have HZ3 : Hid (h + 2 ≤ w3.heap.size) := Lib.hid (by have h1 : W2.heap.size ≤ w3.heap.size := hk3.size; have := HZ2.out; omega)
  have HKI3 : Hid (kiP x.n2 (x.n2 + y.n2) (puZ x.n2 H l (p, q) u) (joH H p (x.n2 + q))) := Lib.hid (HKI.out.put' HU.out hpn hqn u)
  clear y0 y1 y2 y3 y4 y5 y6 y7 y8 y9 y10 y11 y12 p0 p1 hk3 hu3 hr3 HKC HJ HM2' HP2 HP3 HB2 hzw hgw hhw hwr HW2 HZ2
  cases bb with
  | false =>
    have HEQ : Hid (puZ x.n2 H l (p, q) u = l) := Lib.hid (by unfold puZ; rw [if_pos (by have := HBB.out; simpa using this)])
    go_wp2_with fail
    go_returns
    exact ⟨rfl, ⟨mv, K3, d3, D, by rw [HEQ.out]; exact HM3.out, HU3.out, HKI3.out, by rw [HEQ.out]; exact HD.out, by rw [HEQ.out]; exact HS.out⟩, HK3.out⟩
  | true =>
    have hne : H p ≠ H (x.n2 + q) := by have := HBB.out; simpa using this
    have HEQ : Hid (puZ x.n2 H l (p, q) u = l ++ [((p, q), u)]) := Lib.hid (by unfold puZ; rw [if_neg hne])
    have HNO : Hid (∀ v, ((p, q), v) ∉ l) := Lib.hid fun v hv => hne (HKI.out.met _ v hv)
    have HDP : Hid (dmZ (l ++ [((p, q), u)]) (D.put (kpL p q) (spD f1 f2 f3))) := Lib.hid (dmZ_put HD.out HS.out (HM3.out.mp.tidy eqpLaw) (by show p ≤ 1000; omega) (by show q ≤ 1000; omega) HNO.out HST.out)
    have HSP : Hid (smZ (l ++ [((p, q), u)])) := Lib.hid fun P v hv => by
      rcases List.mem_append.1 hv with k | k
      · exact HS.out P v k
      · have e : (P, v) = ((p, q), u) := by simpa using k
        have e1 : P = (p, q) := congrArg Prod.fst e
        rw [e1]
        exact ⟨by show p ≤ 1000; omega, by show q ≤ 1000; omega⟩
    clear hne
    obtain ⟨w4, hup, hown4, hg4⟩ := (show ownsS w3.drew mb l.length D from HM3.out.mp).update eqpLaw Try.underlying42 (by unfold maxLen; omega) (ep_key (wfN (a := p) (by omega)) (wfN (a := q) (by omega))) (stE_mk f1 f2 f3)
    obtain ⟨y0, y1, y2, y3, y4, y5, y6, y7, y8, y9, y10, y11, y12⟩ := HM3.out.sr.cells
    have HG4 := Lib.hid hg4; have HO4 := Lib.hid hown4
    have HKC : Hid (∀ w', w' = w3 ∨ w' = w3.drew ∨ w' = w4 → w'.cell? ⟨S, 10, none⟩ = some (.map (some mb)) ∧ w'.cell? ⟨h, 0, none⟩ = some (.int .i64 (p : Int)) ∧ w'.cell? ⟨h, 1, none⟩ = some (.int .i64 (q : Int)) ∧ w'.cell? ⟨h + 1, 0, none⟩ = some (.int .i64 f1) ∧ w'.cell? ⟨h + 1, 1, none⟩ = some (.int .i64 f2) ∧ w'.cell? ⟨h + 1, 2, none⟩ = some (.int .i64 f3)) := Lib.hid (by
      have key : ∀ w', w'.heap[h]? = some (.cells #[.int .i64 (p : Int), .int .i64 (q : Int)] 49 (0, 0)) → w'.heap[h + 1]? = some (.cells #[.int .i64 f1, .int .i64 f2, .int .i64 f3] 76 (0, 0)) → isSr w' S A x B y mb mv g (x.n2 + y.n2) c → w'.cell? ⟨S, 10, none⟩ = some (.map (some mb)) ∧ w'.cell? ⟨h, 0, none⟩ = some (.int .i64 (p : Int)) ∧ w'.cell? ⟨h, 1, none⟩ = some (.int .i64 (q : Int)) ∧ w'.cell? ⟨h + 1, 0, none⟩ = some (.int .i64 f1) ∧ w'.cell? ⟨h + 1, 1, none⟩ = some (.int .i64 f2) ∧ w'.cell? ⟨h + 1, 2, none⟩ = some (.int .i64 f3) := fun w' h1 h2 h3 =>
        ⟨h3.cells.2.2.2.2.2.2.2.2.2.2.1, by simp [World.cell?, h1], by simp [World.cell?, h1], by simp [World.cell?, h2], by simp [World.cell?, h2], by simp [World.cell?, h2]⟩
      have hml := HMM.out.mlt
      have hhh := HH.out
      have hz := HZ3.out
      have h4 : w4.heap[h]? = some (.cells #[.int .i64 (p : Int), .int .i64 (q : Int)] 49 (0, 0)) := (hg4.block h (show h < w3.heap.size by omega) (by simp; omega)).trans HP4.out
      have h5 : w4.heap[h + 1]? = some (.cells #[.int .i64 f1, .int .i64 f2, .int .i64 f3] 76 (0, 0)) := (hg4.block (h + 1) (show h + 1 < w3.heap.size by omega) (by simp; omega)).trans HP5.out
      have h6 : isSr w4 S A x B y mb mv g (x.n2 + y.n2) c := (show isSr w3.drew S A x B y mb mv g (x.n2 + y.n2) c from HM3.out.sr).kept hg4 (by simp; exact HM3.out.sm)
      rintro w' (rfl | rfl | rfl)
      · exact key _ HP4.out HP5.out HM3.out.sr
      · exact key _ HP4.out HP5.out HM3.out.sr
      · exact key _ h4 h5 h6)
    clear hown4 hg4 y0 y1 y2 y3 y4 y5 y6 y7 y8 y9 y10 y11 y12
    go_upto_region 2 with (fail)
    go_region_held_law (fun w' => w'.cell? ⟨S, 10, none⟩ = some (.map (some mb)) ∧ w'.cell? ⟨h, 0, none⟩ = some (.int .i64 (p : Int)) ∧ w'.cell? ⟨h, 1, none⟩ = some (.int .i64 (q : Int)) ∧ w'.cell? ⟨h + 1, 0, none⟩ = some (.int .i64 f1) ∧ w'.cell? ⟨h + 1, 1, none⟩ = some (.int .i64 f2) ∧ w'.cell? ⟨h + 1, 2, none⟩ = some (.int .i64 f3))
      (first | exact HKC.out _ (.inl rfl) | exact HKC.out _ (.inr (.inl rfl)) | exact HKC.out _ (.inr (.inr rfl)))
      (fail)
    obtain ⟨mp, mc, rfl⟩ := HM3.out.slice
    obtain ⟨-, k1, k2, -⟩ := HKC.out w4 (.inr (.inr rfl))
    have hs4 : isSr w4 S A x B y mb (.slice mp l.length mc) g (x.n2 + y.n2) c := (show isSr w3.drew S A x B y mb (.slice mp l.length mc) g (x.n2 + y.n2) c from HM3.out.sr).kept HG4.out (by simp; exact HM3.out.sm)
    have y11 := hs4.cells.2.2.2.2.2.2.2.2.2.2.2.1
    have hz4 : w3.heap.size ≤ w4.heap.size := HG4.out.size
    have hb5 : Below w4.heap.size w4 (w4.alloc (.cells #[.int .i64 (p : Int), .int .i64 (q : Int)] 49)).drew := ((Below.refl _ _).alloc (Nat.le_refl _) _).drew
    have hb5' : Below w4.heap.size w4 (w4.alloc (.cells #[.int .i64 (p : Int), .int .i64 (q : Int)] 49)) := (Below.refl _ _).alloc (Nat.le_refl _) _
    have hrow4 : w4.ownsRow base 49 2 (.slice mp l.length mc) l.length (pcC14 l) := World.ownsRow.kept (show w3.drew.ownsRow base 49 2 (.slice mp l.length mc) l.length (pcC14 l) from HM3.out.met) HG4.out (.inr (Ne.symm HM3.out.mr))
    have HROW := Lib.hid (owns_below hrow4 hb5')
    have HB5 := Lib.hid hb5
    have y11' : (w4.alloc (.cells #[.int .i64 (p : Int), .int .i64 (q : Int)] 49)).cell? ⟨S, 11, none⟩ = some (.slice mp l.length mc) := (hb5'.cell (p := ⟨S, 11, none⟩) hs4.lt).trans y11
    have HC0 : Hid ((w4.alloc (.cells #[.int .i64 (p : Int), .int .i64 (q : Int)] 49)).cell? ⟨w4.heap.size, 0, none⟩ = some (.int .i64 (p : Int))) := Lib.hid (by simp)
    have HC1 : Hid ((w4.alloc (.cells #[.int .i64 (p : Int), .int .i64 (q : Int)] 49)).cell? ⟨w4.heap.size, 1, none⟩ = some (.int .i64 (q : Int))) := Lib.hid (by simp)
    have HSZ : Hid (base ≤ (w4.alloc (.cells #[.int .i64 (p : Int), .int .i64 (q : Int)] 49)).heap.size) := Lib.hid (by have := HM3.out.bl; rw [World.size_alloc]; omega)
    have HLL := Lib.hid hl
    clear hs4 hz4 hb5 hb5' hrow4 HKC
    have HM3d := Lib.hid (HM3.out.below (Below.refl _ _).drew)
    go_upto_region 3 with (fail)
    go_region_law (first | (refine step_append_pr rfl _ _ rfl base (.slice mp l.length mc) l ((p, q), u) rfl HROW.out w4.heap.size rfl HC0.out HC1.out HLL.out HSZ.out ?_; intro p6 n6 c6 w6 hn6 hr6 hg6 hv6; subst hn6; obtain ⟨hfin, hkp, hcl, hfz, hlt⟩ := HM3d.out.grow HG4.out HO4.out HB5.out hg6 hr6 hv6; have HFIN := Lib.hid hfin; have HKP := Lib.hid hkp; clear hr6 hg6 hv6 hfin hkp))
    all_goals
      clear HROW HC0 HC1 HLL HSZ HB5 HM3d hcl hfz hlt y11 y11' k1 k2
      go_wp2_with fail
      go_returns
      exact ⟨rfl, ⟨_, K3, d3, _, by rw [HEQ.out]; exact HFIN.out, HU3.out, HKI3.out, by rw [HEQ.out]; exact HDP.out, by rw [HEQ.out]; exact HSP.out⟩, (HK3.out.trans (kpX.of_below (Below.refl _ _).drew)).trans HKP.out⟩
end Go.Proofs.Ytefpoapbodbenaa
