/-
  The walk of the parts' divide: some states are parted from all others.
-/
import Derived.Test.YtefpoapbodbenaaPk49
namespace Go.Proofs.Ytefpoapbodbenaa
open Go.RowKit

set_option maxRecDepth 100000 in
set_option maxHeartbeats 20000000 in
theorem divide13 (X : Nat → Prop) (h n : Nat) (so : List Nat) (p : Option Addr) (m c : Nat) (V : Nat → Value) (s : Ps) (w0 w : World) (H : PtM X w0 w h n V s) (ho : okH n s) (hz : ∀ k, s.T k = []) (hn0 : 1 ≤ n) (hn : n ≤ 1000) (hso : so.Nodup) (hsn : ∀ i, i ∈ so → i < n) (hm : so.length = m)
    (hrd : ∀ (j x : Nat), so[j]? = some x → ∃ b o, p = some ⟨b, o, none⟩ ∧ X b ∧ w.cell? ⟨b, o + j, none⟩ = some (.int .i64 (x : Int))) :
    Calls Try.prog 49 #[.pointer (some ⟨h, 0, none⟩), .slice p m c] w fun e w' => e = .returned (.tuple #[]) ∧ ∃ V' t, PtM X w0 w' h n V' t ∧ dvE n s so t := by
  obtain ⟨K, hK⟩ : ∃ K, K = 5000 := ⟨_, rfl⟩
  have hnbn := ho.le
  have hml : m ≤ n := by
    rw [← hm]
    have := nd_le (B := List.range n) hso fun x hx => List.mem_range.2 (hsn x hx)
    simpa using this
  have HP0 : Hid (PtM X w w h n (upd V (rS K) (.slice none 0 0)) (tmpP (tolP s so 0) K [])) := Lib.hid (by
    rw [tolP_zero so hz]
    have f1 := (Fm.new (Fm.anew H) (rS K) (v := .slice none 0 0) (l := []) (Below.refl _ _) ⟨rfl, .inl ⟨rfl, rfl⟩⟩ fun b e => by cases e).useU (U' := upd V (rS K) (.slice none 0 0)) fun i hi => (upd_ne _ _ (Ne.symm (rS_ne K hi))).symm
    have e1 := lP_tmp n V s K [] (.slice none 0 0) (by omega)
    unfold PtM
    rw [← e1]
    exact f1)
  have HKP : Hid (kpX X w0 w) := Lib.hid H.kp
  have HOK := Lib.hid ho; have HSO := Lib.hid hso; have HSN := Lib.hid hsn; have HRD := Lib.hid hrd
  have HBI0 := Lib.hid (bkI_zero s so)
  have HM := Lib.hid hm
  have HKN : Hid (s.nb < K) := Lib.hid (by omega)
  have HKK : Hid (n < K) := Lib.hid (by omega)
  have HN8 := Lib.hid hn
  have HN1 := Lib.hid hn0
  have HM1 : Hid (so.length ≤ 1000) := Lib.hid (by omega)
  have HNBN : Hid (s.nb ≤ n) := Lib.hid hnbn
  have m0 : (0 : Int) ≤ (m : Int) := by omega
  have m1 : (m : Int) ≤ 1000 := by omega
  have n1 : (n : Int) ≤ 1000 := by omega
  have nn1 : (s.nb : Int) ≤ 1000 := by omega
  clear H ho hz hso hsn hrd hm hml hnbn hn hK hn0
  go_enter Try.func49, Try.ntmps49
  go_wp2_with fail
  go_loopw [4, 12] (fun bv jv wr => ∃ (j : Nat) (B : List Nat) (V : Nat → Value) (pb : Option Addr) (lb cb : Nat), j ≤ m ∧ jv = .int .i64 j ∧ bv = .slice pb lb cb ∧ Hid (B.length = lb) ∧ Hid (V (rS K) = .slice pb lb cb) ∧ Hid (PtM X w wr h n V (tmpP (tolP s so j) K B)) ∧ Hid (bkI s so j B)) (fun _ jv _ => m - (intOf jv).toNat)
  case atStart => exact ⟨0, [], _, none, 0, 0, Nat.zero_le _, rfl, rfl, Lib.hid rfl, Lib.hid (upd_at _ _ _), HP0, HBI0⟩
  case round =>
    clear HP0 HBI0
    obtain ⟨j, B, V, pb, lb, cb, hj, rfl, rfl, HBL, HVK, HP, HBI⟩ := hrel
    by_cases hlt : j < m
    · have j0 : (0 : Int) ≤ (j : Int) := by omega
      have j1 : (j : Int) < (m : Int) := by omega
      obtain ⟨x, hx⟩ : ∃ x, so[j]? = some x := ⟨so[j]'(by have := HM.out; omega), by simp⟩
      have hxn := HSN.out x (List.mem_of_getElem? hx)
      obtain ⟨b, hbx⟩ : ∃ b, s.blk x = b := ⟨_, rfl⟩
      have hbn : b < s.nb := hbx ▸ HOK.out.bl x hxn
      obtain ⟨bb, bo, rfl, hXb, hcx⟩ := HRD.out j x hx
      have hcx := kpX.cell13 HP.out.kp hXb hcx
      obtain ⟨p0, c0, e0, g0'⟩ := HP.out.v0
      obtain ⟨g0, rfl⟩ := g0' (by have := HN1.out; omega)
      obtain ⟨k4, -, -, -⟩ := Fm.cell HP.out 0 e0 (j := x) (u := .int .i64 (b : Int)) (by rw [lP0, ← hbx]; exact fnv_at _ _ _ hxn)
      obtain ⟨p2, c2, e2, g2'⟩ := HP.out.v2
      obtain ⟨gt, rfl⟩ := g2' (show 0 < s.nb by omega)
      obtain ⟨pt, ct, et, -⟩ := HP.out.vT b
      obtain ⟨k5, -, -, -⟩ := Fm.cell HP.out 2 e2 (j := b) (u := V (rT b)) (by rw [lP2]; exact vls_at _ _ _ hbn)
      obtain ⟨y0, -, y2, -, -⟩ := HP.out.st.cells
      rw [e0] at y0
      rw [e2] at y2
      rw [et] at k5
      have htest := bkI_test HBI.out b
      obtain ⟨lt, hlt2⟩ : ∃ lt, ((tmpP (tolP s so j) K B).T b).length = lt := ⟨_, rfl⟩
      rw [hlt2] at k5
      obtain ⟨nbx, hnbx⟩ : ∃ nbx, (tmpP (tolP s so j) K B).nb = nbx := ⟨_, rfl⟩
      rw [hnbx] at y2
      have HX := Lib.hid hx; have HBX := Lib.hid hbx; have HBN := Lib.hid hbn
      have HNP : Hid (0 < s.nb) := Lib.hid (by omega)
      have x0 : (0 : Int) ≤ (x : Int) := by omega
      have x1 : (x : Int) < (n : Int) := by omega
      have b0 : (0 : Int) ≤ (b : Int) := by omega
      have b1 : (b : Int) < (nbx : Int) := by rw [← hnbx]; show (b : Int) < (s.nb : Int); omega
      have b2 : (b : Int) ≤ 1000 := by omega
      by_cases hin : b ∈ B
      · have hlt3 : lt ≠ 0 := fun e => by
          have : (tolP s so j).T b = [] := List.eq_nil_of_length_eq_zero (hlt2.trans e)
          exact htest.1 this hin
        have d1 : ((lt : Int) == 0) = false := beq_eq_false_iff_ne.2 (by omega)
        have HBK := Lib.hid (bkI_in HBI.out hx (hbx.symm ▸ hin))
        clear hx hbx hbn htest hlt2 hnbx hin hlt3 e0 g0' e2 g2' et HBI
        go_upto_region 7 with (fail)
        clear y0 y2 k4 k5 d1 b1 hcx
        obtain ⟨p2, c2, e2, g2'⟩ := HP.out.v2
        obtain ⟨gt, rfl⟩ := g2' HNP.out
        obtain ⟨pt, ct, et, -⟩ := HP.out.vT b
        obtain ⟨TB, hTB⟩ : ∃ TB, (tolP s so j).T b = TB := ⟨_, rfl⟩
        have et' : V (rT b) = .slice pt TB.length ct := by rw [← hTB]; exact et
        obtain ⟨k1, k2, k3, -⟩ := Fm.cell HP.out 2 e2 (j := b) (u := V (rT b)) (by rw [lP2]; exact vls_at _ _ _ HBN.out)
        rw [et'] at k1
        have HPd := Lib.hid (Fm.below HP.out (Below.refl _ _).drew)
        have HPa := Lib.hid (Fm.below HPd.out ((Below.refl _ _).alloc (Nat.le_refl _) (.cells #[.int .i64 (x : Int)] 3)))
        obtain ⟨lt, hlt'⟩ : ∃ lt, TB.length = lt := ⟨_, rfl⟩
        have HTL : Hid (TB.length ≤ 1000000) := Lib.hid (by
          rw [← hTB]
          have h1 : ((so.take j).filter fun i => s.blk i == b).length ≤ (so.take j).length := List.length_filter_le _ _
          have h2 : (so.take j).length ≤ so.length := by rw [List.length_take]; omega
          have := HM1.out
          have h3 : ((tolP s so j).T b).length = ((so.take j).filter fun i => s.blk i == b).length := rfl
          omega)
        rw [hlt'] at k1 et'
        have HOa : Hid (spO (wr.drew.alloc (.cells #[.int .i64 (x : Int)] 3)) 0 (.slice pt lt ct) TB) := Lib.hid (by
          have := HPa.out.sp (rT b) TB (eT13T b) (by rw [lPT]; exact congrArg spl9 hTB)
          rw [et'] at this
          exact this)
        obtain ⟨nb, hnb'⟩ : ∃ nb, s.nb = nb := ⟨_, rfl⟩
        have e2' : V 2 = .slice (some ⟨gt, 0, none⟩) nb c2 := by rw [← hnb']; exact e2
        have HSC : Hid (∀ w' (U' : Nat → Value) L, Fm X w w' h V U' L → U' 2 = V 2 → w'.cell? ⟨h, 2, none⟩ = some (.slice (some ⟨gt, 0, none⟩) nb c2)) := Lib.hid fun w' U' L hf _ => by rw [hf.st.cells.2.2.1, e2']
        have HSE : Hid (∀ w' v (t' : Ps), PtM X w w' h n (upd V (rT b) v) t' → w'.cell? ⟨h, 2, none⟩ = some (.slice (some ⟨gt, 0, none⟩) nb c2)) := Lib.hid fun w' v t' hf => by rw [hf.st.cells.2.2.1, upd_ne _ _ (Ne.symm (rT_ne b (by decide))), e2']
        have HSd : Hid (wr.drew.cell? ⟨h, 2, none⟩ = some (.slice (some ⟨gt, 0, none⟩) nb c2)) := Lib.hid (HSC.out _ _ _ HPd.out rfl)
        have HSa : Hid ((wr.drew.alloc (.cells #[.int .i64 (x : Int)] 3)).cell? ⟨h, 2, none⟩ = some (.slice (some ⟨gt, 0, none⟩) nb c2)) := Lib.hid (HSC.out _ _ _ HPa.out rfl)
        have HST : Hid (∀ p' n' c' wc, n' = TB.length + 1 → spO wc 0 (.slice p' n' c') (TB ++ [x]) → (wr.drew.alloc (.cells #[.int .i64 (x : Int)] 3)).grownBy wc (Value.slice pt lt ct).ownBlock → ((Value.slice p' n' c').ownBlock = (Value.slice pt lt ct).ownBlock ∨ (Value.slice p' n' c').ownBlock = some (wr.drew.alloc (.cells #[.int .i64 (x : Int)] 3)).heap.size) →
            Fm X w wc h V (upd V (rT b) (.slice p' n' c')) (upd (lP n V (tmpP (tolP s so j) K B)) (rT b) (spl9 (TB ++ [x]))) ∧
            PtM X w (wc.setCell ⟨gt, b, none⟩ (.slice p' n' c')) h n (upd V (rT b) (.slice p' n' c')) (tmpP (tolP s so (j + 1)) K B) ∧ wc.cell? ⟨gt, b, none⟩ = some (.slice pt lt ct) ∧ wc.frozen? ⟨gt, b, none⟩ = false ∧ gt < wc.heap.size) := Lib.hid fun p' n' c' wc hn' h1 h2 h3 => by
          have f1 := HPa.out.growI (rT b) (TB ++ [x]) (v := .slice p' n' c') (eT13T b) (by rw [et']; exact h2) h1 (by rw [et']; exact h3)
          have hV1 : upd V (rT b) (.slice p' n' c') 2 = .slice (some ⟨gt, 0, none⟩) s.nb c2 := by rw [upd_ne _ _ (Ne.symm (rT_ne b (by decide)))]; exact e2
          have hL1 : upd (lP n V (tmpP (tolP s so j) K B)) (rT b) (spl9 (TB ++ [x])) 2 = vls (fun k => V (rT k)) s.nb := by rw [upd_ne _ _ (Ne.symm (rT_ne b (by decide)))]; rfl
          have f2 := f1.stored 2 (by rw [hL1, vls_len]; exact hV1) b (.slice p' n' c')
          have f3 := f2.useU (U' := upd V (rT b) (.slice p' n' c')) fun i hi => (upd_ne _ _ (Ne.symm (rT_ne b hi))).symm
          rw [hL1] at f3
          have e4 := lP_told n V (tmpP (tolP s so j) K B) b (TB ++ [x]) (.slice p' n' c')
          have e5 : tmpP (tolP s so (j + 1)) K B = { tmpP (tolP s so j) K B with T := upd (tmpP (tolP s so j) K B).T b (TB ++ [x]) } := by
            rw [tolP_next HX.out, HBX.out, hTB]
            rfl
          obtain ⟨a1, a2, a3, -⟩ := f1.cell 2 hV1 (j := b) (u := V (rT b)) (by rw [hL1]; exact vls_at _ _ _ HBN.out)
          rw [et'] at a1
          refine ⟨f1, ?_, a1, a2, a3⟩
          unfold PtM
          rw [e5, ← e4]
          exact f3
        have b1 : (b : Int) < (nb : Int) := by have := HBN.out; omega
        clear e2 e2' et et' g2' hTB hlt' hnb'
        go_upto_region 7 with (fail)
        refine wp_region_held_drew (S := (fun w' => w'.cell? ⟨h, 2, none⟩ = some (.slice (some ⟨gt, 0, none⟩) nb c2))) (by kernel_rfl) (HSd.out) (fun hHeld => ?_)
        refine wpAnyH_take (i := 0) (oi := { dst := some 36, op := Go.Op.move (Go.Operand.tmp 0), type := 86, pos := "parts.go:53", after := #[], guard := none }) (v := .pointer (some ⟨h, 0, none⟩)) rfl (by kernel_rfl) (by kernel_rfl) (by kernel_rfl) (fun _ _ _ h => h) (Or.inl ⟨by rfl, ?_⟩) (by assumption) ?_
        · intro w hSw; (try dsimp only at hSw); go_simp
        try simp only [Act.put, List.setIfInBounds_toArray, List.set_cons_zero, List.set_cons_succ]
        refine wpAnyH_take (i := 1) (oi := { dst := some 37, op := Go.Op.nilCheck (Go.Operand.tmp 36), type := 0, pos := "parts.go:53", after := #[{ on := 0, ground := Go.Ground.data }], guard := none }) (v := .pointer (some ⟨h, 0, none⟩)) rfl (by kernel_rfl) (by kernel_rfl) (by kernel_rfl) (fun _ _ _ h => h) (Or.inl ⟨by rfl, ?_⟩) (by assumption) ?_
        · intro w hSw; (try dsimp only at hSw); go_simp
        try simp only [Act.put, List.setIfInBounds_toArray, List.set_cons_zero, List.set_cons_succ]
        refine wpAnyH_take (i := 2) (oi := { dst := some 38, op := Go.Op.fieldAddr 92 (Go.Operand.tmp 37) 2, type := 0, pos := "parts.go:53", after := #[{ on := 1, ground := Go.Ground.data }], guard := none }) (v := .pointer (some ⟨h, 2, none⟩)) rfl (by kernel_rfl) (by kernel_rfl) (by kernel_rfl) (fun _ _ _ h => h) (Or.inl ⟨by rfl, ?_⟩) (by assumption) ?_
        · intro w hSw; (try dsimp only at hSw); go_simp
        try simp only [Act.put, List.setIfInBounds_toArray, List.set_cons_zero, List.set_cons_succ]
        refine wpAnyH_take (i := 3) (oi := { dst := some 39, op := Go.Op.load 78 (Go.Operand.tmp 38), type := 78, pos := "parts.go:53", after := #[{ on := 2, ground := Go.Ground.data }], guard := none }) (v := .slice (some ⟨gt, 0, none⟩) nb c2) rfl (by kernel_rfl) (by kernel_rfl) (by kernel_rfl) (fun _ _ _ h => h) (Or.inl ⟨by rfl, ?_⟩) (by assumption) ?_
        · intro w hSw; (try dsimp only at hSw); go_simp
        try simp only [Act.put, List.setIfInBounds_toArray, List.set_cons_zero, List.set_cons_succ]
        refine wpAnyH_take (i := 4) (oi := { dst := some 40, op := Go.Op.move (Go.Operand.tmp 7), type := 3, pos := "parts.go:53", after := #[], guard := none }) (v := .int .i64 (b : Int)) rfl (by kernel_rfl) (by kernel_rfl) (by kernel_rfl) (fun _ _ _ h => h) (Or.inl ⟨by rfl, ?_⟩) (by assumption) ?_
        · intro w hSw; (try dsimp only at hSw); go_simp
        try simp only [Act.put, List.setIfInBounds_toArray, List.set_cons_zero, List.set_cons_succ]
        refine wpAnyH_take (i := 5) (oi := { dst := some 41, op := Go.Op.move (Go.Operand.tmp 0), type := 86, pos := "parts.go:53", after := #[], guard := none }) (v := .pointer (some ⟨h, 0, none⟩)) rfl (by kernel_rfl) (by kernel_rfl) (by kernel_rfl) (fun _ _ _ h => h) (Or.inl ⟨by rfl, ?_⟩) (by assumption) ?_
        · intro w hSw; (try dsimp only at hSw); go_simp
        try simp only [Act.put, List.setIfInBounds_toArray, List.set_cons_zero, List.set_cons_succ]
        refine wpAnyH_take (i := 6) (oi := { dst := some 42, op := Go.Op.nilCheck (Go.Operand.tmp 41), type := 0, pos := "parts.go:53", after := #[{ on := 5, ground := Go.Ground.data }], guard := none }) (v := .pointer (some ⟨h, 0, none⟩)) rfl (by kernel_rfl) (by kernel_rfl) (by kernel_rfl) (fun _ _ _ h => h) (Or.inl ⟨by rfl, ?_⟩) (by assumption) ?_
        · intro w hSw; (try dsimp only at hSw); go_simp
        try simp only [Act.put, List.setIfInBounds_toArray, List.set_cons_zero, List.set_cons_succ]
        refine wpAnyH_take (i := 7) (oi := { dst := some 43, op := Go.Op.fieldAddr 92 (Go.Operand.tmp 42) 2, type := 0, pos := "parts.go:53", after := #[{ on := 6, ground := Go.Ground.data }], guard := none }) (v := .pointer (some ⟨h, 2, none⟩)) rfl (by kernel_rfl) (by kernel_rfl) (by kernel_rfl) (fun _ _ _ h => h) (Or.inl ⟨by rfl, ?_⟩) (by assumption) ?_
        · intro w hSw; (try dsimp only at hSw); go_simp
        try simp only [Act.put, List.setIfInBounds_toArray, List.set_cons_zero, List.set_cons_succ]
        refine wpAnyH_take (i := 8) (oi := { dst := some 44, op := Go.Op.load 78 (Go.Operand.tmp 43), type := 78, pos := "parts.go:53", after := #[{ on := 7, ground := Go.Ground.data }], guard := none }) (v := .slice (some ⟨gt, 0, none⟩) nb c2) rfl (by kernel_rfl) (by kernel_rfl) (by kernel_rfl) (fun _ _ _ h => h) (Or.inl ⟨by rfl, ?_⟩) (by assumption) ?_
        · intro w hSw; (try dsimp only at hSw); go_simp
        try simp only [Act.put, List.setIfInBounds_toArray, List.set_cons_zero, List.set_cons_succ]
        refine wpAnyH_take (i := 9) (oi := { dst := some 45, op := Go.Op.move (Go.Operand.tmp 7), type := 3, pos := "parts.go:53", after := #[], guard := none }) (v := .int .i64 (b : Int)) rfl (by kernel_rfl) (by kernel_rfl) (by kernel_rfl) (fun _ _ _ h => h) (Or.inl ⟨by rfl, ?_⟩) (by assumption) ?_
        · intro w hSw; (try dsimp only at hSw); go_simp
        try simp only [Act.put, List.setIfInBounds_toArray, List.set_cons_zero, List.set_cons_succ]
        refine wpAnyH_take (i := 10) (oi := { dst := some 46, op := Go.Op.indexAddr 78 (Go.Operand.tmp 44) (Go.Operand.tmp 45), type := 0, pos := "parts.go:53", after := #[{ on := 8, ground := Go.Ground.data }, { on := 9, ground := Go.Ground.data }], guard := none }) (v := .pointer (some ⟨gt, b, none⟩)) rfl (by kernel_rfl) (by kernel_rfl) (by kernel_rfl) (fun _ _ _ h => h) (Or.inl ⟨by rfl, ?_⟩) (by assumption) ?_
        · intro w hSw; (try dsimp only at hSw); go_simp
        try simp only [Act.put, List.setIfInBounds_toArray, List.set_cons_zero, List.set_cons_succ]
        refine wpAnyH_take (i := 12) (oi := { dst := some 48, op := Go.Op.move (Go.Operand.tmp 6), type := 3, pos := "parts.go:53", after := #[], guard := none }) (v := .int .i64 (x : Int)) rfl (by kernel_rfl) (by kernel_rfl) (by kernel_rfl) (fun _ _ _ h => h) (Or.inl ⟨by rfl, ?_⟩) (by assumption) ?_
        · intro w hSw; (try dsimp only at hSw); go_simp
        try simp only [Act.put, List.setIfInBounds_toArray, List.set_cons_zero, List.set_cons_succ]
        refine wpAnyH_ready (rs := [11, 13]) (by kernel_rfl) (by simp) ?_
        refine AllReadyH.cons rfl (fun K' hK' => ?_) ?_
        ·
          go_simp
          refine hK'.out _ _ ?_ (fun hHeld => ?_)
          · (try dsimp only)
            exact HSd.out
          clear hK' K'
          try simp only [Act.put, List.setIfInBounds_toArray, List.set_cons_zero, List.set_cons_succ]
          refine wpAnyH_ready (rs := [13]) (by kernel_rfl) (by simp) ?_
          refine AllReadyH.cons rfl (fun K' hK' => ?_) AllReadyH.nil
          go_simp
          refine hK'.out _ _ ?_ (fun hHeld => ?_)
          · (try dsimp only)
            exact HSa.out
          clear hK' K'
          try simp only [Act.put, List.setIfInBounds_toArray, List.set_cons_zero, List.set_cons_succ]
          refine wpAnyH_ready (rs := [14]) (by kernel_rfl) (by simp) ?_
          refine AllReadyH.cons rfl (fun K' hK' => ?_) AllReadyH.nil
          (refine step_append13 rfl (.tmp 47) (.tmp 49) rfl 0 (.slice pt lt ct) TB rfl HOa.out wr.heap.size x rfl (by simp) HTL.out (Nat.zero_le _) ?_; intro p' n' c' wc hn' hO hG hA)
          have HFF := Lib.hid (HST.out p' n' c' wc hn' hO hG hA).1
          have HPP := Lib.hid (HST.out p' n' c' wc hn' hO hG hA).2.1
          obtain ⟨-, -, d1, d2, d3⟩ := HST.out p' n' c' wc hn' hO hG hA
          clear hn' hO hG hA
          refine hK'.out _ _ ?_ (fun hHeld => ?_)
          · (try dsimp only)
            exact HSC.out _ _ _ HFF.out (upd_ne _ _ (Ne.symm (rT_ne b (by decide))))
          clear hK' K'
          try simp only [Act.put, List.setIfInBounds_toArray]
          refine wpAnyH_take (i := 15) (oi := { dst := some 51, op := Go.Op.indexAddr 78 (Go.Operand.tmp 39) (Go.Operand.tmp 40), type := 0, pos := "parts.go:53", after := #[{ on := 3, ground := Go.Ground.data }, { on := 4, ground := Go.Ground.data }, { on := 0, ground := Go.Ground.phase }, { on := 1, ground := Go.Ground.phase }, { on := 2, ground := Go.Ground.phase }, { on := 3, ground := Go.Ground.phase }, { on := 4, ground := Go.Ground.phase }, { on := 5, ground := Go.Ground.phase }, { on := 6, ground := Go.Ground.phase }, { on := 7, ground := Go.Ground.phase }, { on := 8, ground := Go.Ground.phase }, { on := 9, ground := Go.Ground.phase }, { on := 10, ground := Go.Ground.phase }, { on := 11, ground := Go.Ground.phase }, { on := 12, ground := Go.Ground.phase }, { on := 13, ground := Go.Ground.phase }, { on := 14, ground := Go.Ground.phase }], guard := none }) (v := .pointer (some ⟨gt, b, none⟩)) rfl (by kernel_rfl) (by kernel_rfl) (by kernel_rfl) (fun _ _ _ h => h) (Or.inl ⟨by rfl, ?_⟩) (by assumption) ?_
          · intro w hSw; (try dsimp only at hSw); go_simp
          try simp only [Act.put]
          refine wpAnyH_ready (rs := [16]) (by kernel_rfl) (by simp) ?_
          refine AllReadyH.cons rfl (fun K' hK' => ?_) AllReadyH.nil
          go_simp
          refine hK'.out _ _ ?_ (fun hHeld => ?_)
          · (try dsimp only)
            exact HSE.out _ _ _ HPP.out
          clear hK' K'
          try simp only [Act.put]
          refine wpAnyH_done (by kernel_rfl) ?_ _
          go_wp2_with fail
          go_roundw
          case rel => exact ⟨j + 1, B, _, pb, lb, cb, by omega, by go_num, rfl, HBL, Lib.hid ((upd_ne _ _ (rS_rT K b)).trans HVK.out), HPP, HBK⟩
          case measure => simp [intOf]; omega
        refine AllReadyH.cons rfl (fun K' hK' => ?_) AllReadyH.nil
        ·
          go_simp
          refine hK'.out _ _ ?_ (fun hHeld => ?_)
          · (try dsimp only)
            exact HSa.out
          clear hK' K'
          try simp only [Act.put, List.setIfInBounds_toArray, List.set_cons_zero, List.set_cons_succ]
          refine wpAnyH_ready (rs := [11]) (by kernel_rfl) (by simp) ?_
          refine AllReadyH.cons rfl (fun K' hK' => ?_) AllReadyH.nil
          go_simp
          refine hK'.out _ _ ?_ (fun hHeld => ?_)
          · (try dsimp only)
            exact HSa.out
          clear hK' K'
          try simp only [Act.put, List.setIfInBounds_toArray, List.set_cons_zero, List.set_cons_succ]
          refine wpAnyH_ready (rs := [14]) (by kernel_rfl) (by simp) ?_
          refine AllReadyH.cons rfl (fun K' hK' => ?_) AllReadyH.nil
          (refine step_append13 rfl (.tmp 47) (.tmp 49) rfl 0 (.slice pt lt ct) TB rfl HOa.out wr.heap.size x rfl (by simp) HTL.out (Nat.zero_le _) ?_; intro p' n' c' wc hn' hO hG hA)
          have HFF := Lib.hid (HST.out p' n' c' wc hn' hO hG hA).1
          have HPP := Lib.hid (HST.out p' n' c' wc hn' hO hG hA).2.1
          obtain ⟨-, -, d1, d2, d3⟩ := HST.out p' n' c' wc hn' hO hG hA
          clear hn' hO hG hA
          refine hK'.out _ _ ?_ (fun hHeld => ?_)
          · (try dsimp only)
            exact HSC.out _ _ _ HFF.out (upd_ne _ _ (Ne.symm (rT_ne b (by decide))))
          clear hK' K'
          try simp only [Act.put, List.setIfInBounds_toArray]
          refine wpAnyH_take (i := 15) (oi := { dst := some 51, op := Go.Op.indexAddr 78 (Go.Operand.tmp 39) (Go.Operand.tmp 40), type := 0, pos := "parts.go:53", after := #[{ on := 3, ground := Go.Ground.data }, { on := 4, ground := Go.Ground.data }, { on := 0, ground := Go.Ground.phase }, { on := 1, ground := Go.Ground.phase }, { on := 2, ground := Go.Ground.phase }, { on := 3, ground := Go.Ground.phase }, { on := 4, ground := Go.Ground.phase }, { on := 5, ground := Go.Ground.phase }, { on := 6, ground := Go.Ground.phase }, { on := 7, ground := Go.Ground.phase }, { on := 8, ground := Go.Ground.phase }, { on := 9, ground := Go.Ground.phase }, { on := 10, ground := Go.Ground.phase }, { on := 11, ground := Go.Ground.phase }, { on := 12, ground := Go.Ground.phase }, { on := 13, ground := Go.Ground.phase }, { on := 14, ground := Go.Ground.phase }], guard := none }) (v := .pointer (some ⟨gt, b, none⟩)) rfl (by kernel_rfl) (by kernel_rfl) (by kernel_rfl) (fun _ _ _ h => h) (Or.inl ⟨by rfl, ?_⟩) (by assumption) ?_
          · intro w hSw; (try dsimp only at hSw); go_simp
          try simp only [Act.put]
          refine wpAnyH_ready (rs := [16]) (by kernel_rfl) (by simp) ?_
          refine AllReadyH.cons rfl (fun K' hK' => ?_) AllReadyH.nil
          go_simp
          refine hK'.out _ _ ?_ (fun hHeld => ?_)
          · (try dsimp only)
            exact HSE.out _ _ _ HPP.out
          clear hK' K'
          try simp only [Act.put]
          refine wpAnyH_done (by kernel_rfl) ?_ _
          go_wp2_with fail
          go_roundw
          case rel => exact ⟨j + 1, B, _, pb, lb, cb, by omega, by go_num, rfl, HBL, Lib.hid ((upd_ne _ _ (rS_rT K b)).trans HVK.out), HPP, HBK⟩
          case measure => simp [intOf]; omega
      · have hlt3 : lt = 0 := by rw [← hlt2]; exact congrArg List.length (htest.2 hin)
        have d1 : ((lt : Int) == 0) = true := by rw [hlt3]; rfl
        have HBK5 := Lib.hid (bkI_put HBI.out hx (hbx.symm ▸ hin))
        rw [hbx] at HBK5
        have HPA := Lib.hid (Fm.below HP.out ((Below.refl _ _).alloc (Nat.le_refl _) (.cells #[.int .i64 (b : Int)] 3)))
        have HXA : Hid (spO (wr.alloc (.cells #[.int .i64 (b : Int)] 3)) 0 (.slice pb lb cb) B) := Lib.hid (by
          have := HPA.out.sp (rS K) B (eT13S K) (by rw [lPS]; exact congrArg spl9 (upd_at _ _ _))
          rw [HVK.out] at this
          exact this)
        have HBM : Hid (B.length ≤ 1000000) := Lib.hid (by
          have := nd_le (B := List.range s.nb) HBI.out.1 fun k hk => by
            obtain ⟨i, h1, h2⟩ := (HBI.out.2 k).1 hk
            exact List.mem_range.2 (h2 ▸ HOK.out.bl i (HSN.out i (List.mem_of_mem_take h1)))
          simp at this
          omega)
        clear hlt3 hlt2 hnbx htest hin e0 g0' e2 g2' et HP
        go_wp2_with (at_builtin; refine append_nx2 rfl _ _ rfl 0 _ B rfl HXA.out wr.heap.size b rfl (by simp) HBM.out (Nat.zero_le _) ?_; intro v5 W5 hown hgrow hat; have HO := Lib.hid hown; have HG := Lib.hid hgrow; have HAT := Lib.hid hat; clear hown hgrow hat; refine Hid.out ?_)
        obtain ⟨pb5, cb5, rfl⟩ := spO_of HO.out
        obtain ⟨B5, hB5⟩ : ∃ B5, B ++ [b] = B5 := ⟨_, rfl⟩
        have HP5 : Hid (PtM X w W5 h n (upd V (rS K) (.slice pb5 B5.length cb5)) (tmpP (tolP s so j) K B5)) := Lib.hid (by
          have f1 := HPA.out.growI (rS K) (B ++ [b]) (v := .slice pb5 (B ++ [b]).length cb5) (eT13S K) (by rw [HVK.out]; exact HG.out) HO.out (by rw [HVK.out]; exact HAT.out)
          have f2 := f1.useU (U' := upd V (rS K) (.slice pb5 (B ++ [b]).length cb5)) fun i hi => (upd_ne _ _ (Ne.symm (rS_ne K hi))).symm
          have e1 := lP_tmp n V (tmpP (tolP s so j) K B) K (B ++ [b]) (.slice pb5 (B ++ [b]).length cb5) (Nat.le_of_lt HKN.out)
          have e2 : tmpP (tmpP (tolP s so j) K B) K (B ++ [b]) = tmpP (tolP s so j) K (B ++ [b]) := by
            show ({ tolP s so j with S := upd (upd (tolP s so j).S K B) K (B ++ [b]) } : Ps) = _
            rw [upd_twice]; rfl
          rw [e2] at e1
          rw [← hB5]
          unfold PtM
          rw [← e1]
          exact f2)
        obtain ⟨V5, hV5⟩ : ∃ V5, upd V (rS K) (.slice pb5 B5.length cb5) = V5 := ⟨_, rfl⟩
        have hvk5 : V5 (rS K) = .slice pb5 B5.length cb5 := by rw [← hV5, upd_at]
        rw [hV5] at HP5
        rw [hB5] at HBK5
        have hl5 : (B ++ [b]).length = B5.length := by rw [hB5]
        obtain ⟨lb5, hlb5⟩ : ∃ lb5, B5.length = lb5 := ⟨_, rfl⟩
        rw [hlb5] at hvk5 hl5
        have HVK5 := Lib.hid hvk5
        have HBL5 := Lib.hid hlb5
        rw [hl5]
        clear hB5 hV5 hvk5 hl5 hlb5 HO HG HAT HPA HXA HBM HVK HBI HBL hx hbx hbn y0 y2 k4 k5 d1 b1 hcx
        refine Lib.hid ?_
        obtain ⟨p2, c2, e2, g2'⟩ := HP5.out.v2
        obtain ⟨gt, rfl⟩ := g2' HNP.out
        obtain ⟨pt, ct, et, -⟩ := HP5.out.vT b
        obtain ⟨TB, hTB⟩ : ∃ TB, (tolP s so j).T b = TB := ⟨_, rfl⟩
        have et' : V5 (rT b) = .slice pt TB.length ct := by rw [← hTB]; exact et
        obtain ⟨k1, k2, k3, -⟩ := Fm.cell HP5.out 2 e2 (j := b) (u := V5 (rT b)) (by rw [lP2]; exact vls_at _ _ _ HBN.out)
        rw [et'] at k1
        have HPd := Lib.hid (Fm.below HP5.out (Below.refl _ _).drew)
        have HPa := Lib.hid (Fm.below HPd.out ((Below.refl _ _).alloc (Nat.le_refl _) (.cells #[.int .i64 (x : Int)] 3)))
        obtain ⟨lt, hlt'⟩ : ∃ lt, TB.length = lt := ⟨_, rfl⟩
        have HTL : Hid (TB.length ≤ 1000000) := Lib.hid (by
          rw [← hTB]
          have h1 : ((so.take j).filter fun i => s.blk i == b).length ≤ (so.take j).length := List.length_filter_le _ _
          have h2 : (so.take j).length ≤ so.length := by rw [List.length_take]; omega
          have := HM1.out
          have h3 : ((tolP s so j).T b).length = ((so.take j).filter fun i => s.blk i == b).length := rfl
          omega)
        rw [hlt'] at k1 et'
        have HOa : Hid (spO (W5.drew.alloc (.cells #[.int .i64 (x : Int)] 3)) 0 (.slice pt lt ct) TB) := Lib.hid (by
          have := HPa.out.sp (rT b) TB (eT13T b) (by rw [lPT]; exact congrArg spl9 hTB)
          rw [et'] at this
          exact this)
        obtain ⟨nb, hnb'⟩ : ∃ nb, s.nb = nb := ⟨_, rfl⟩
        have e2' : V5 2 = .slice (some ⟨gt, 0, none⟩) nb c2 := by rw [← hnb']; exact e2
        have HSC : Hid (∀ w' (U' : Nat → Value) L, Fm X w w' h V5 U' L → U' 2 = V5 2 → w'.cell? ⟨h, 2, none⟩ = some (.slice (some ⟨gt, 0, none⟩) nb c2)) := Lib.hid fun w' U' L hf _ => by rw [hf.st.cells.2.2.1, e2']
        have HSE : Hid (∀ w' v (t' : Ps), PtM X w w' h n (upd V5 (rT b) v) t' → w'.cell? ⟨h, 2, none⟩ = some (.slice (some ⟨gt, 0, none⟩) nb c2)) := Lib.hid fun w' v t' hf => by rw [hf.st.cells.2.2.1, upd_ne _ _ (Ne.symm (rT_ne b (by decide))), e2']
        have HSd : Hid (W5.drew.cell? ⟨h, 2, none⟩ = some (.slice (some ⟨gt, 0, none⟩) nb c2)) := Lib.hid (HSC.out _ _ _ HPd.out rfl)
        have HSa : Hid ((W5.drew.alloc (.cells #[.int .i64 (x : Int)] 3)).cell? ⟨h, 2, none⟩ = some (.slice (some ⟨gt, 0, none⟩) nb c2)) := Lib.hid (HSC.out _ _ _ HPa.out rfl)
        have HST : Hid (∀ p' n' c' wc, n' = TB.length + 1 → spO wc 0 (.slice p' n' c') (TB ++ [x]) → (W5.drew.alloc (.cells #[.int .i64 (x : Int)] 3)).grownBy wc (Value.slice pt lt ct).ownBlock → ((Value.slice p' n' c').ownBlock = (Value.slice pt lt ct).ownBlock ∨ (Value.slice p' n' c').ownBlock = some (W5.drew.alloc (.cells #[.int .i64 (x : Int)] 3)).heap.size) →
            Fm X w wc h V5 (upd V5 (rT b) (.slice p' n' c')) (upd (lP n V5 (tmpP (tolP s so j) K B5)) (rT b) (spl9 (TB ++ [x]))) ∧
            PtM X w (wc.setCell ⟨gt, b, none⟩ (.slice p' n' c')) h n (upd V5 (rT b) (.slice p' n' c')) (tmpP (tolP s so (j + 1)) K B5) ∧ wc.cell? ⟨gt, b, none⟩ = some (.slice pt lt ct) ∧ wc.frozen? ⟨gt, b, none⟩ = false ∧ gt < wc.heap.size) := Lib.hid fun p' n' c' wc hn' h1 h2 h3 => by
          have f1 := HPa.out.growI (rT b) (TB ++ [x]) (v := .slice p' n' c') (eT13T b) (by rw [et']; exact h2) h1 (by rw [et']; exact h3)
          have hV1 : upd V5 (rT b) (.slice p' n' c') 2 = .slice (some ⟨gt, 0, none⟩) s.nb c2 := by rw [upd_ne _ _ (Ne.symm (rT_ne b (by decide)))]; exact e2
          have hL1 : upd (lP n V5 (tmpP (tolP s so j) K B5)) (rT b) (spl9 (TB ++ [x])) 2 = vls (fun k => V5 (rT k)) s.nb := by rw [upd_ne _ _ (Ne.symm (rT_ne b (by decide)))]; rfl
          have f2 := f1.stored 2 (by rw [hL1, vls_len]; exact hV1) b (.slice p' n' c')
          have f3 := f2.useU (U' := upd V5 (rT b) (.slice p' n' c')) fun i hi => (upd_ne _ _ (Ne.symm (rT_ne b hi))).symm
          rw [hL1] at f3
          have e4 := lP_told n V5 (tmpP (tolP s so j) K B5) b (TB ++ [x]) (.slice p' n' c')
          have e5 : tmpP (tolP s so (j + 1)) K B5 = { tmpP (tolP s so j) K B5 with T := upd (tmpP (tolP s so j) K B5).T b (TB ++ [x]) } := by
            rw [tolP_next HX.out, HBX.out, hTB]
            rfl
          obtain ⟨a1, a2, a3, -⟩ := f1.cell 2 hV1 (j := b) (u := V5 (rT b)) (by rw [hL1]; exact vls_at _ _ _ HBN.out)
          rw [et'] at a1
          refine ⟨f1, ?_, a1, a2, a3⟩
          unfold PtM
          rw [e5, ← e4]
          exact f3
        have b1 : (b : Int) < (nb : Int) := by have := HBN.out; omega
        clear e2 e2' et et' g2' hTB hlt' hnb'
        go_upto_region 7 with (fail)
        refine wp_region_held_drew (S := (fun w' => w'.cell? ⟨h, 2, none⟩ = some (.slice (some ⟨gt, 0, none⟩) nb c2))) (by kernel_rfl) (HSd.out) (fun hHeld => ?_)
        refine wpAnyH_take (i := 0) (oi := { dst := some 36, op := Go.Op.move (Go.Operand.tmp 0), type := 86, pos := "parts.go:53", after := #[], guard := none }) (v := .pointer (some ⟨h, 0, none⟩)) rfl (by kernel_rfl) (by kernel_rfl) (by kernel_rfl) (fun _ _ _ h => h) (Or.inl ⟨by rfl, ?_⟩) (by assumption) ?_
        · intro w hSw; (try dsimp only at hSw); go_simp
        try simp only [Act.put, List.setIfInBounds_toArray, List.set_cons_zero, List.set_cons_succ]
        refine wpAnyH_take (i := 1) (oi := { dst := some 37, op := Go.Op.nilCheck (Go.Operand.tmp 36), type := 0, pos := "parts.go:53", after := #[{ on := 0, ground := Go.Ground.data }], guard := none }) (v := .pointer (some ⟨h, 0, none⟩)) rfl (by kernel_rfl) (by kernel_rfl) (by kernel_rfl) (fun _ _ _ h => h) (Or.inl ⟨by rfl, ?_⟩) (by assumption) ?_
        · intro w hSw; (try dsimp only at hSw); go_simp
        try simp only [Act.put, List.setIfInBounds_toArray, List.set_cons_zero, List.set_cons_succ]
        refine wpAnyH_take (i := 2) (oi := { dst := some 38, op := Go.Op.fieldAddr 92 (Go.Operand.tmp 37) 2, type := 0, pos := "parts.go:53", after := #[{ on := 1, ground := Go.Ground.data }], guard := none }) (v := .pointer (some ⟨h, 2, none⟩)) rfl (by kernel_rfl) (by kernel_rfl) (by kernel_rfl) (fun _ _ _ h => h) (Or.inl ⟨by rfl, ?_⟩) (by assumption) ?_
        · intro w hSw; (try dsimp only at hSw); go_simp
        try simp only [Act.put, List.setIfInBounds_toArray, List.set_cons_zero, List.set_cons_succ]
        refine wpAnyH_take (i := 3) (oi := { dst := some 39, op := Go.Op.load 78 (Go.Operand.tmp 38), type := 78, pos := "parts.go:53", after := #[{ on := 2, ground := Go.Ground.data }], guard := none }) (v := .slice (some ⟨gt, 0, none⟩) nb c2) rfl (by kernel_rfl) (by kernel_rfl) (by kernel_rfl) (fun _ _ _ h => h) (Or.inl ⟨by rfl, ?_⟩) (by assumption) ?_
        · intro w hSw; (try dsimp only at hSw); go_simp
        try simp only [Act.put, List.setIfInBounds_toArray, List.set_cons_zero, List.set_cons_succ]
        refine wpAnyH_take (i := 4) (oi := { dst := some 40, op := Go.Op.move (Go.Operand.tmp 7), type := 3, pos := "parts.go:53", after := #[], guard := none }) (v := .int .i64 (b : Int)) rfl (by kernel_rfl) (by kernel_rfl) (by kernel_rfl) (fun _ _ _ h => h) (Or.inl ⟨by rfl, ?_⟩) (by assumption) ?_
        · intro w hSw; (try dsimp only at hSw); go_simp
        try simp only [Act.put, List.setIfInBounds_toArray, List.set_cons_zero, List.set_cons_succ]
        refine wpAnyH_take (i := 5) (oi := { dst := some 41, op := Go.Op.move (Go.Operand.tmp 0), type := 86, pos := "parts.go:53", after := #[], guard := none }) (v := .pointer (some ⟨h, 0, none⟩)) rfl (by kernel_rfl) (by kernel_rfl) (by kernel_rfl) (fun _ _ _ h => h) (Or.inl ⟨by rfl, ?_⟩) (by assumption) ?_
        · intro w hSw; (try dsimp only at hSw); go_simp
        try simp only [Act.put, List.setIfInBounds_toArray, List.set_cons_zero, List.set_cons_succ]
        refine wpAnyH_take (i := 6) (oi := { dst := some 42, op := Go.Op.nilCheck (Go.Operand.tmp 41), type := 0, pos := "parts.go:53", after := #[{ on := 5, ground := Go.Ground.data }], guard := none }) (v := .pointer (some ⟨h, 0, none⟩)) rfl (by kernel_rfl) (by kernel_rfl) (by kernel_rfl) (fun _ _ _ h => h) (Or.inl ⟨by rfl, ?_⟩) (by assumption) ?_
        · intro w hSw; (try dsimp only at hSw); go_simp
        try simp only [Act.put, List.setIfInBounds_toArray, List.set_cons_zero, List.set_cons_succ]
        refine wpAnyH_take (i := 7) (oi := { dst := some 43, op := Go.Op.fieldAddr 92 (Go.Operand.tmp 42) 2, type := 0, pos := "parts.go:53", after := #[{ on := 6, ground := Go.Ground.data }], guard := none }) (v := .pointer (some ⟨h, 2, none⟩)) rfl (by kernel_rfl) (by kernel_rfl) (by kernel_rfl) (fun _ _ _ h => h) (Or.inl ⟨by rfl, ?_⟩) (by assumption) ?_
        · intro w hSw; (try dsimp only at hSw); go_simp
        try simp only [Act.put, List.setIfInBounds_toArray, List.set_cons_zero, List.set_cons_succ]
        refine wpAnyH_take (i := 8) (oi := { dst := some 44, op := Go.Op.load 78 (Go.Operand.tmp 43), type := 78, pos := "parts.go:53", after := #[{ on := 7, ground := Go.Ground.data }], guard := none }) (v := .slice (some ⟨gt, 0, none⟩) nb c2) rfl (by kernel_rfl) (by kernel_rfl) (by kernel_rfl) (fun _ _ _ h => h) (Or.inl ⟨by rfl, ?_⟩) (by assumption) ?_
        · intro w hSw; (try dsimp only at hSw); go_simp
        try simp only [Act.put, List.setIfInBounds_toArray, List.set_cons_zero, List.set_cons_succ]
        refine wpAnyH_take (i := 9) (oi := { dst := some 45, op := Go.Op.move (Go.Operand.tmp 7), type := 3, pos := "parts.go:53", after := #[], guard := none }) (v := .int .i64 (b : Int)) rfl (by kernel_rfl) (by kernel_rfl) (by kernel_rfl) (fun _ _ _ h => h) (Or.inl ⟨by rfl, ?_⟩) (by assumption) ?_
        · intro w hSw; (try dsimp only at hSw); go_simp
        try simp only [Act.put, List.setIfInBounds_toArray, List.set_cons_zero, List.set_cons_succ]
        refine wpAnyH_take (i := 10) (oi := { dst := some 46, op := Go.Op.indexAddr 78 (Go.Operand.tmp 44) (Go.Operand.tmp 45), type := 0, pos := "parts.go:53", after := #[{ on := 8, ground := Go.Ground.data }, { on := 9, ground := Go.Ground.data }], guard := none }) (v := .pointer (some ⟨gt, b, none⟩)) rfl (by kernel_rfl) (by kernel_rfl) (by kernel_rfl) (fun _ _ _ h => h) (Or.inl ⟨by rfl, ?_⟩) (by assumption) ?_
        · intro w hSw; (try dsimp only at hSw); go_simp
        try simp only [Act.put, List.setIfInBounds_toArray, List.set_cons_zero, List.set_cons_succ]
        refine wpAnyH_take (i := 12) (oi := { dst := some 48, op := Go.Op.move (Go.Operand.tmp 6), type := 3, pos := "parts.go:53", after := #[], guard := none }) (v := .int .i64 (x : Int)) rfl (by kernel_rfl) (by kernel_rfl) (by kernel_rfl) (fun _ _ _ h => h) (Or.inl ⟨by rfl, ?_⟩) (by assumption) ?_
        · intro w hSw; (try dsimp only at hSw); go_simp
        try simp only [Act.put, List.setIfInBounds_toArray, List.set_cons_zero, List.set_cons_succ]
        refine wpAnyH_ready (rs := [11, 13]) (by kernel_rfl) (by simp) ?_
        refine AllReadyH.cons rfl (fun K' hK' => ?_) ?_
        ·
          go_simp
          refine hK'.out _ _ ?_ (fun hHeld => ?_)
          · (try dsimp only)
            exact HSd.out
          clear hK' K'
          try simp only [Act.put, List.setIfInBounds_toArray, List.set_cons_zero, List.set_cons_succ]
          refine wpAnyH_ready (rs := [13]) (by kernel_rfl) (by simp) ?_
          refine AllReadyH.cons rfl (fun K' hK' => ?_) AllReadyH.nil
          go_simp
          refine hK'.out _ _ ?_ (fun hHeld => ?_)
          · (try dsimp only)
            exact HSa.out
          clear hK' K'
          try simp only [Act.put, List.setIfInBounds_toArray, List.set_cons_zero, List.set_cons_succ]
          refine wpAnyH_ready (rs := [14]) (by kernel_rfl) (by simp) ?_
          refine AllReadyH.cons rfl (fun K' hK' => ?_) AllReadyH.nil
          (refine step_append13 rfl (.tmp 47) (.tmp 49) rfl 0 (.slice pt lt ct) TB rfl HOa.out W5.heap.size x rfl (by simp) HTL.out (Nat.zero_le _) ?_; intro p' n' c' wc hn' hO hG hA)
          have HFF := Lib.hid (HST.out p' n' c' wc hn' hO hG hA).1
          have HPP := Lib.hid (HST.out p' n' c' wc hn' hO hG hA).2.1
          obtain ⟨-, -, d1, d2, d3⟩ := HST.out p' n' c' wc hn' hO hG hA
          clear hn' hO hG hA
          refine hK'.out _ _ ?_ (fun hHeld => ?_)
          · (try dsimp only)
            exact HSC.out _ _ _ HFF.out (upd_ne _ _ (Ne.symm (rT_ne b (by decide))))
          clear hK' K'
          try simp only [Act.put, List.setIfInBounds_toArray]
          refine wpAnyH_take (i := 15) (oi := { dst := some 51, op := Go.Op.indexAddr 78 (Go.Operand.tmp 39) (Go.Operand.tmp 40), type := 0, pos := "parts.go:53", after := #[{ on := 3, ground := Go.Ground.data }, { on := 4, ground := Go.Ground.data }, { on := 0, ground := Go.Ground.phase }, { on := 1, ground := Go.Ground.phase }, { on := 2, ground := Go.Ground.phase }, { on := 3, ground := Go.Ground.phase }, { on := 4, ground := Go.Ground.phase }, { on := 5, ground := Go.Ground.phase }, { on := 6, ground := Go.Ground.phase }, { on := 7, ground := Go.Ground.phase }, { on := 8, ground := Go.Ground.phase }, { on := 9, ground := Go.Ground.phase }, { on := 10, ground := Go.Ground.phase }, { on := 11, ground := Go.Ground.phase }, { on := 12, ground := Go.Ground.phase }, { on := 13, ground := Go.Ground.phase }, { on := 14, ground := Go.Ground.phase }], guard := none }) (v := .pointer (some ⟨gt, b, none⟩)) rfl (by kernel_rfl) (by kernel_rfl) (by kernel_rfl) (fun _ _ _ h => h) (Or.inl ⟨by rfl, ?_⟩) (by assumption) ?_
          · intro w hSw; (try dsimp only at hSw); go_simp
          try simp only [Act.put]
          refine wpAnyH_ready (rs := [16]) (by kernel_rfl) (by simp) ?_
          refine AllReadyH.cons rfl (fun K' hK' => ?_) AllReadyH.nil
          go_simp
          refine hK'.out _ _ ?_ (fun hHeld => ?_)
          · (try dsimp only)
            exact HSE.out _ _ _ HPP.out
          clear hK' K'
          try simp only [Act.put]
          refine wpAnyH_done (by kernel_rfl) ?_ _
          go_wp2_with fail
          go_roundw
          case rel => exact ⟨j + 1, B5, _, pb5, lb5, cb5, by omega, by go_num, rfl, HBL5, Lib.hid ((upd_ne _ _ (rS_rT K b)).trans HVK5.out), HPP, HBK5⟩
          case measure => simp [intOf]; omega
        refine AllReadyH.cons rfl (fun K' hK' => ?_) AllReadyH.nil
        ·
          go_simp
          refine hK'.out _ _ ?_ (fun hHeld => ?_)
          · (try dsimp only)
            exact HSa.out
          clear hK' K'
          try simp only [Act.put, List.setIfInBounds_toArray, List.set_cons_zero, List.set_cons_succ]
          refine wpAnyH_ready (rs := [11]) (by kernel_rfl) (by simp) ?_
          refine AllReadyH.cons rfl (fun K' hK' => ?_) AllReadyH.nil
          go_simp
          refine hK'.out _ _ ?_ (fun hHeld => ?_)
          · (try dsimp only)
            exact HSa.out
          clear hK' K'
          try simp only [Act.put, List.setIfInBounds_toArray, List.set_cons_zero, List.set_cons_succ]
          refine wpAnyH_ready (rs := [14]) (by kernel_rfl) (by simp) ?_
          refine AllReadyH.cons rfl (fun K' hK' => ?_) AllReadyH.nil
          (refine step_append13 rfl (.tmp 47) (.tmp 49) rfl 0 (.slice pt lt ct) TB rfl HOa.out W5.heap.size x rfl (by simp) HTL.out (Nat.zero_le _) ?_; intro p' n' c' wc hn' hO hG hA)
          have HFF := Lib.hid (HST.out p' n' c' wc hn' hO hG hA).1
          have HPP := Lib.hid (HST.out p' n' c' wc hn' hO hG hA).2.1
          obtain ⟨-, -, d1, d2, d3⟩ := HST.out p' n' c' wc hn' hO hG hA
          clear hn' hO hG hA
          refine hK'.out _ _ ?_ (fun hHeld => ?_)
          · (try dsimp only)
            exact HSC.out _ _ _ HFF.out (upd_ne _ _ (Ne.symm (rT_ne b (by decide))))
          clear hK' K'
          try simp only [Act.put, List.setIfInBounds_toArray]
          refine wpAnyH_take (i := 15) (oi := { dst := some 51, op := Go.Op.indexAddr 78 (Go.Operand.tmp 39) (Go.Operand.tmp 40), type := 0, pos := "parts.go:53", after := #[{ on := 3, ground := Go.Ground.data }, { on := 4, ground := Go.Ground.data }, { on := 0, ground := Go.Ground.phase }, { on := 1, ground := Go.Ground.phase }, { on := 2, ground := Go.Ground.phase }, { on := 3, ground := Go.Ground.phase }, { on := 4, ground := Go.Ground.phase }, { on := 5, ground := Go.Ground.phase }, { on := 6, ground := Go.Ground.phase }, { on := 7, ground := Go.Ground.phase }, { on := 8, ground := Go.Ground.phase }, { on := 9, ground := Go.Ground.phase }, { on := 10, ground := Go.Ground.phase }, { on := 11, ground := Go.Ground.phase }, { on := 12, ground := Go.Ground.phase }, { on := 13, ground := Go.Ground.phase }, { on := 14, ground := Go.Ground.phase }], guard := none }) (v := .pointer (some ⟨gt, b, none⟩)) rfl (by kernel_rfl) (by kernel_rfl) (by kernel_rfl) (fun _ _ _ h => h) (Or.inl ⟨by rfl, ?_⟩) (by assumption) ?_
          · intro w hSw; (try dsimp only at hSw); go_simp
          try simp only [Act.put]
          refine wpAnyH_ready (rs := [16]) (by kernel_rfl) (by simp) ?_
          refine AllReadyH.cons rfl (fun K' hK' => ?_) AllReadyH.nil
          go_simp
          refine hK'.out _ _ ?_ (fun hHeld => ?_)
          · (try dsimp only)
            exact HSE.out _ _ _ HPP.out
          clear hK' K'
          try simp only [Act.put]
          refine wpAnyH_done (by kernel_rfl) ?_ _
          go_wp2_with fail
          go_roundw
          case rel => exact ⟨j + 1, B5, _, pb5, lb5, cb5, by omega, by go_num, rfl, HBL5, Lib.hid ((upd_ne _ _ (rS_rT K b)).trans HVK5.out), HPP, HBK5⟩
          case measure => simp [intOf]; omega
    · obtain rfl : j = m := by omega
      have HDV0 : Hid (dvI n s so (B.take 0) (tolP s so j)) := Lib.hid (by rw [List.take_zero]; have := dvI_zero (so := so) HOK.out; rw [HM.out] at this; exact this)
      have HBI2 : Hid (bkI s so so.length B) := Lib.hid (by rw [HM.out]; exact HBI.out)
      have lb1 : (lb : Int) ≤ 1000 := by
        have := nd_le (B := List.range s.nb) HBI.out.1 fun k hk => by
          obtain ⟨i, h1, h2⟩ := (HBI.out.2 k).1 hk
          exact List.mem_range.2 (h2 ▸ HOK.out.bl i (HSN.out i (List.mem_of_mem_take h1)))
        have h2 := HBL.out
        simp at this
        omega
      have lb0 : (0 : Int) ≤ (lb : Int) := by omega
      clear HBI HRD
      go_wp2_with fail
      go_loopw [55] (fun iv wr => ∃ (i : Nat) (V : Nat → Value) (t : Ps), i ≤ lb ∧ iv = .int .i64 i ∧ Hid (V (rS K) = .slice pb lb cb) ∧ Hid (PtM X w wr h n V (tmpP t K B)) ∧ Hid (dvI n s so (B.take i) t)) (fun iv _ => lb - (intOf iv).toNat)
      case atStart => exact ⟨0, V, _, Nat.zero_le _, rfl, HVK, HP, HDV0⟩
      case round =>
        clear HVK HP HDV0
        obtain ⟨i, V, t, hi, rfl, HVK, HP, HDV⟩ := hrel
        by_cases hlti : i < lb
        · have i0 : (0 : Int) ≤ (i : Int) := by omega
          have i1 : (i : Int) < (lb : Int) := by omega
          obtain ⟨b, hb⟩ : ∃ b, B[i]? = some b := ⟨B[i]'(by have := HBL.out; omega), by simp⟩
          have hbB := List.mem_of_getElem? hb
          obtain ⟨i9, hi9, ei9⟩ := (HBI2.out.2 b).1 hbB
          rw [List.take_length] at hi9
          have hbn : b < s.nb := ei9 ▸ HOK.out.bl i9 (HSN.out i9 hi9)
          have hbt : b < t.nb := Nat.lt_of_lt_of_le hbn HDV.out.nb
          have hbD : b ∉ B.take i := fun g => by
            have h1 := HBI2.out.1
            rw [← List.take_append_drop i B, List.nodup_append] at h1
            refine h1.2.2 b g b ?_ rfl
            refine List.mem_of_getElem? (i := 0) ?_
            rw [List.getElem?_drop]; exact hb
          have hT0 : t.T b ≠ [] := fun e => by
            have := (HDV.out.mem hbD i9).2 ⟨hi9, ei9⟩
            rw [e] at this; cases this
          have hbK : b ≠ K := by have := HKN.out; omega
          have htn := HDV.out.ok.le
          have htK : t.nb < K := by have := HKK.out; omega
          have htk1 : B.take (i + 1) = B.take i ++ [b] := by rw [List.take_add_one, hb]; rfl
          have hTL : (t.T b).length ≤ n := by
            have h1 : (t.T b).length ≤ (List.range n).length := nd_le (by rw [HDV.out.tl b, if_neg hbD]; exact List.Pairwise.filter _ HSO.out) fun x hx => List.mem_range.2 (HSN.out x ((HDV.out.mem hbD x).1 hx).1)
            simpa using h1
          obtain ⟨gb, hgb⟩ : ∃ gb, pb = some ⟨gb, 0, none⟩ := by
            obtain ⟨p9, c9, e9, g9⟩ := HP.out.vS K
            have h1 : ((tmpP t K B).S K).length = lb := by rw [show (tmpP t K B).S K = B from upd_at _ _ _]; exact HBL.out
            rw [HVK.out] at e9
            cases e9
            exact g9 (by omega)
          subst hgb
          obtain ⟨k8, -, -, -⟩ := Fm.cell HP.out (rS K) HVK.out (j := i) (u := .int .i64 (b : Int)) (by rw [lPS, show (tmpP t K B).S K = B from upd_at _ _ _]; simp [spl9, hb])
          obtain ⟨p1, c1, e1, g1'⟩ := HP.out.v1
          obtain ⟨gs, rfl⟩ := g1' (show 0 < t.nb by omega)
          obtain ⟨p2, c2, e2, g2'⟩ := HP.out.v2
          obtain ⟨gt, rfl⟩ := g2' (show 0 < t.nb by omega)
          obtain ⟨pt, ct, et, gq'⟩ := HP.out.vT b
          obtain ⟨gq, rfl⟩ := gq' (List.length_pos_iff.2 hT0)
          obtain ⟨ps, cs, es, -⟩ := HP.out.vS b
          rw [show (tmpP t K B).S b = t.S b from upd_ne _ _ hbK] at es
          obtain ⟨k5, -, -, -⟩ := Fm.cell HP.out 2 e2 (j := b) (u := V (rT b)) (by rw [lP2]; exact vls_at _ _ _ hbt)
          obtain ⟨k6, -, -, -⟩ := Fm.cell HP.out 1 e1 (j := b) (u := V (rS b)) (by rw [lP1]; exact vls_at _ _ _ hbt)
          obtain ⟨-, y1, y2, -, -⟩ := HP.out.st.cells
          rw [e1] at y1
          rw [e2] at y2
          rw [et] at k5
          rw [es] at k6
          obtain ⟨TB, hTB⟩ : ∃ TB, t.T b = TB := ⟨_, rfl⟩
          obtain ⟨lt, hlt'⟩ : ∃ lt, TB.length = lt := ⟨_, rfl⟩
          obtain ⟨ls, hls'⟩ : ∃ ls, (t.S b).length = ls := ⟨_, rfl⟩
          rw [show (tmpP t K B).T b = TB from hTB, hlt'] at k5 et
          rw [hls'] at k6
          obtain ⟨nb, hnb'⟩ : ∃ nb, t.nb = nb := ⟨_, rfl⟩
          rw [show (tmpP t K B).nb = nb from hnb'] at y1 y2
          have b0 : (0 : Int) ≤ (b : Int) := by omega
          have b1 : (b : Int) < (nb : Int) := by omega
          have b2 : (b : Int) ≤ 1000 := by omega
          have l1 : (lt : Int) ≤ 1000 := by have := HN8.out; rw [hTB, hlt'] at hTL; omega
          have HET := Lib.hid et
          have HTB := Lib.hid hTB; have HLT := Lib.hid hlt'; have HLS := Lib.hid hls'; have HNB := Lib.hid hnb'
          have HBD := Lib.hid hbD; have HBN := Lib.hid hbn; have HBT := Lib.hid hbt; have HBK := Lib.hid hbK; have HT0 := Lib.hid hT0
          have HTN := Lib.hid htn; have HTK := Lib.hid htK; have HTK1 := Lib.hid htk1; have HTL := Lib.hid hTL
          clear hb hbB hi9 ei9 hbn hbD hT0 hbK htn htK htk1 hTL e1 g1' e2 g2' et gq' es hTB hlt' hls' hbt hnb'
          by_cases hlt2 : lt < ls
          · have d1 : decide ((lt : Int) < (ls : Int)) = true := decide_eq_true (by omega)
            go_upto_region 12 with (fail)
            go_quiet (fail)
            obtain ⟨W1, hW1⟩ : ∃ W1, wr.drewN nq = W1 := ⟨_, rfl⟩
            have HP1 : Hid (PtM X w W1 h n V (tmpP t K B)) := Lib.hid (Fm.below HP.out (hW1 ▸ below_drewN nq (Below.refl _ _)))
            have y2' : W1.cell? ⟨h, 2, none⟩ = some (.slice (some ⟨gt, 0, none⟩) nb c2) := hW1 ▸ y2
            have k5' : W1.cell? ⟨gt, b, none⟩ = some (.slice (some ⟨gq, 0, none⟩) lt ct) := hW1 ▸ k5
            rw [hW1]
            clear hW1 y1 y2 k5 k6 k8 d1
            have HRD : Hid (rdL W1 (some ⟨gq, 0, none⟩) lt (fun j => ((TB.getD j 0 : Nat) : Int))) := Lib.hid (by
              have h9 : spO W1 0 (.slice (some ⟨gq, 0, none⟩) TB.length ct) TB := by
                have := HP1.out.sp (rT b) TB (eT13T b) (by rw [lPT]; exact congrArg spl9 HTB.out)
                rw [HET.out, ← HLT.out] at this
                exact this
              have h8 := spO.rd11 h9
              rw [HLT.out] at h8
              exact h8)
            have HCL := Lib.hid (clone12 (some ⟨gq, 0, none⟩) lt ct _ (by
              rcases Nat.eq_zero_or_pos lt with e | e
              · exact absurd (HTB.out.trans (List.eq_nil_of_length_eq_zero (HLT.out.trans e))) HT0.out
              · exact e) (by omega) W1 HRD.out)
            go_wp2_with fail
            refine HCL.out.mono ?_
            rintro e W2 ⟨g, cc, rfl, -, hsp, hb2⟩
            have H2 : PtM X w W2 h n (upd V (rS t.nb) (.slice (some ⟨g, 0, none⟩) lt cc)) (tmpP (tmpP t K B) t.nb TB) := by
              have e1 : fnv (fun j => ((TB.getD j 0 : Nat) : Int)) lt = spl9 TB := by rw [spl9_fnv, HLT.out]
              have f1 := (Fm.new HP1.out (rS t.nb) (v := .slice (some ⟨g, 0, none⟩) lt cc) (l := spl9 TB) hb2 (by
                rw [eT13S, spl9_len, HLT.out, ← e1]
                exact owns_mono hsp (Nat.zero_le _)) fun b' e => (World.ownsRow.lt hsp b' e).1).useU (U' := upd V (rS t.nb) (.slice (some ⟨g, 0, none⟩) lt cc)) fun i hi => (upd_ne _ _ (Ne.symm (rS_ne t.nb hi))).symm
              have e2 := lP_tmp n V (tmpP t K B) t.nb TB (.slice (some ⟨g, 0, none⟩) lt cc) (Nat.le_refl _)
              unfold PtM
              rw [← e2]
              exact f1
            have HPART := Lib.hid (part13 X h n b TB (some ⟨g, 0, none⟩) lt cc _ (tmpP t K B) w W2 H2 (upd_at _ _ _) HBT.out (by show t.nb ≤ 1000; have := HTN.out; have := HN8.out; omega) (by show t.Q.length ≤ 1000; have := HDV.out.ok.ql; have := HN8.out; omega)
              (fun i hi => HSN.out i ((HDV.out.mem HBD.out i).1 (HTB.out ▸ hi)).1) (fun i hi => by rw [show (tmpP t K B).S b = t.S b from upd_ne _ _ HBK.out] at hi; exact ((HDV.out.ok.sm b HBT.out i).1 hi).1)
              (by rw [show (tmpP t K B).S b = t.S b from upd_ne _ _ HBK.out]; exact HDV.out.ok.ne b HBT.out) (by have := HN8.out; omega) (by have := HTL.out; rw [HTB.out] at this; have := HN8.out; omega))
            clear hsp hb2 H2 HCL y2' k5'
            go_wp2_with fail
            refine HPART.out.mono ?_
            rintro e W3 ⟨rfl, V3, h3, hv3⟩
            obtain ⟨t3, ht3⟩ : ∃ t3, partP t b TB = t3 := ⟨_, rfl⟩
            have HP3 : Hid (PtM X w W3 h n V3 (tmpP t3 K B)) := Lib.hid (by rw [partP_tmp t K b B TB HTK.out HBK.out, ht3] at h3; exact h3)
            have HVK3 : Hid (V3 (rS K) = .slice (some ⟨gb, 0, none⟩) lb cb) := Lib.hid (by rw [hv3 K (Ne.symm HBK.out), upd_ne _ _ (rS_inj (by have := HTK.out; omega))]; exact HVK.out)
            have HDV3 : Hid (dvI n s so (B.take (i + 1)) (zerP t3 b)) := Lib.hid (by
              rw [HTK1.out, ← ht3, ← HTB.out]
              exact HDV.out.part HOK.out HBD.out HBN.out HSO.out HSN.out HT0.out (by rw [HTB.out, HLT.out, HLS.out]; exact hlt2))
            have HB3 : Hid (b < t3.nb) := Lib.hid (by rw [← ht3]; show b < t.nb + 1; have := HBT.out; omega)
            have HT3 : Hid (t3.T b = TB) := Lib.hid (by rw [← ht3]; show upd t.T t.nb [] b = TB; rw [upd_ne _ _ (by have := HBT.out; omega)]; exact HTB.out)
            clear h3 hv3 ht3 HPART HP1 HP HDV HVK HRD
            go_upto_region 14 with (fail)
            obtain ⟨p2, c2, e2, g2'⟩ := HP3.out.v2
            obtain ⟨gt, rfl⟩ := g2' (by have := HB3.out; show 0 < t3.nb; omega)
            obtain ⟨pt, ct, et, gq'⟩ := HP3.out.vT b
            obtain ⟨gq, rfl⟩ := gq' (by show 0 < (t3.T b).length; rw [HT3.out]; exact List.length_pos_iff.2 (HTB.out ▸ HT0.out))
            have et' : V3 (rT b) = .slice (some ⟨gq, 0, none⟩) lt ct := by rw [← HLT.out, ← HT3.out]; exact et
            have HPd := Lib.hid (Fm.below HP3.out (Below.refl _ _).drew)
            obtain ⟨nb, hnb'⟩ : ∃ nb, t3.nb = nb := ⟨_, rfl⟩
            have e2' : V3 2 = .slice (some ⟨gt, 0, none⟩) nb c2 := by rw [← hnb']; exact e2
            have HSd : Hid (W3.drew.cell? ⟨h, 2, none⟩ = some (.slice (some ⟨gt, 0, none⟩) nb c2)) := Lib.hid (by rw [HPd.out.st.cells.2.2.1, e2'])
            have HPP : Hid (PtM X w (W3.drew.setCell ⟨gt, b, none⟩ (.slice (some ⟨gq, 0, none⟩) 0 ct)) h n (upd V3 (rT b) (.slice (some ⟨gq, 0, none⟩) 0 ct)) (tmpP (zerP t3 b) K B)) := Lib.hid (by
              have f1 := Fm.short HPd.out (rT b) et' 0 (Nat.zero_le _)
              have hV1 : upd V3 (rT b) (.slice (some ⟨gq, 0, none⟩) 0 ct) 2 = .slice (some ⟨gt, 0, none⟩) t3.nb c2 := by rw [upd_ne _ _ (Ne.symm (rT_ne b (by decide)))]; exact e2
              have hL1 : upd (lP n V3 (tmpP t3 K B)) (rT b) ((lP n V3 (tmpP t3 K B) (rT b)).take 0) 2 = vls (fun k => V3 (rT k)) t3.nb := by rw [upd_ne _ _ (Ne.symm (rT_ne b (by decide)))]; rfl
              have f2 := f1.stored 2 (by rw [hL1, vls_len]; exact hV1) b (.slice (some ⟨gq, 0, none⟩) 0 ct)
              have f3 := f2.useU (U' := upd V3 (rT b) (.slice (some ⟨gq, 0, none⟩) 0 ct)) fun i hi => (upd_ne _ _ (Ne.symm (rT_ne b hi))).symm
              rw [hL1, List.take_zero] at f3
              have e4 := lP_told n V3 (tmpP t3 K B) b [] (.slice (some ⟨gq, 0, none⟩) 0 ct)
              have e5 : tmpP (zerP t3 b) K B = { tmpP t3 K B with T := upd (tmpP t3 K B).T b [] } := rfl
              unfold PtM
              rw [e5, ← e4]
              exact f3)
            have HSe : Hid ((W3.drew.setCell ⟨gt, b, none⟩ (.slice (some ⟨gq, 0, none⟩) 0 ct)).cell? ⟨h, 2, none⟩ = some (.slice (some ⟨gt, 0, none⟩) nb c2)) := Lib.hid (by rw [HPP.out.st.cells.2.2.1, upd_ne _ _ (Ne.symm (rT_ne b (by decide))), e2'])
            obtain ⟨k1, k2, k3, -⟩ := Fm.cell HP3.out 2 e2 (j := b) (u := V3 (rT b)) (by rw [lP2]; exact vls_at _ _ _ HB3.out)
            rw [et'] at k1
            have b1 : (b : Int) < (nb : Int) := by have := HB3.out; omega
            clear e2 e2' et et' g2' gq' hnb'
            refine wp_region_held_drew (S := (fun w' => w'.cell? ⟨h, 2, none⟩ = some (.slice (some ⟨gt, 0, none⟩) nb c2))) (by kernel_rfl) (HSd.out) (fun hHeld => ?_)
            refine wpAnyH_take (i := 0) (oi := { dst := some 87, op := Go.Op.move (Go.Operand.tmp 0), type := 86, pos := "parts.go:59", after := #[], guard := none }) (v := .pointer (some ⟨h, 0, none⟩)) rfl (by kernel_rfl) (by kernel_rfl) (by kernel_rfl) (fun _ _ _ h => h) (Or.inl ⟨by rfl, ?_⟩) (by assumption) ?_
            · intro w hSw; (try dsimp only at hSw); go_simp
            try simp only [Act.put, List.setIfInBounds_toArray, List.set_cons_zero, List.set_cons_succ]
            refine wpAnyH_take (i := 1) (oi := { dst := some 88, op := Go.Op.nilCheck (Go.Operand.tmp 87), type := 0, pos := "parts.go:59", after := #[{ on := 0, ground := Go.Ground.data }], guard := none }) (v := .pointer (some ⟨h, 0, none⟩)) rfl (by kernel_rfl) (by kernel_rfl) (by kernel_rfl) (fun _ _ _ h => h) (Or.inl ⟨by rfl, ?_⟩) (by assumption) ?_
            · intro w hSw; (try dsimp only at hSw); go_simp
            try simp only [Act.put, List.setIfInBounds_toArray, List.set_cons_zero, List.set_cons_succ]
            refine wpAnyH_take (i := 2) (oi := { dst := some 89, op := Go.Op.fieldAddr 92 (Go.Operand.tmp 88) 2, type := 0, pos := "parts.go:59", after := #[{ on := 1, ground := Go.Ground.data }], guard := none }) (v := .pointer (some ⟨h, 2, none⟩)) rfl (by kernel_rfl) (by kernel_rfl) (by kernel_rfl) (fun _ _ _ h => h) (Or.inl ⟨by rfl, ?_⟩) (by assumption) ?_
            · intro w hSw; (try dsimp only at hSw); go_simp
            try simp only [Act.put, List.setIfInBounds_toArray, List.set_cons_zero, List.set_cons_succ]
            refine wpAnyH_take (i := 3) (oi := { dst := some 90, op := Go.Op.load 78 (Go.Operand.tmp 89), type := 78, pos := "parts.go:59", after := #[{ on := 2, ground := Go.Ground.data }], guard := none }) (v := .slice (some ⟨gt, 0, none⟩) nb c2) rfl (by kernel_rfl) (by kernel_rfl) (by kernel_rfl) (fun _ _ _ h => h) (Or.inl ⟨by rfl, ?_⟩) (by assumption) ?_
            · intro w hSw; (try dsimp only at hSw); go_simp
            try simp only [Act.put, List.setIfInBounds_toArray, List.set_cons_zero, List.set_cons_succ]
            refine wpAnyH_take (i := 4) (oi := { dst := some 91, op := Go.Op.move (Go.Operand.tmp 9), type := 3, pos := "parts.go:59", after := #[], guard := none }) (v := .int .i64 (b : Int)) rfl (by kernel_rfl) (by kernel_rfl) (by kernel_rfl) (fun _ _ _ h => h) (Or.inl ⟨by rfl, ?_⟩) (by assumption) ?_
            · intro w hSw; (try dsimp only at hSw); go_simp
            try simp only [Act.put, List.setIfInBounds_toArray, List.set_cons_zero, List.set_cons_succ]
            refine wpAnyH_take (i := 5) (oi := { dst := some 92, op := Go.Op.move (Go.Operand.tmp 0), type := 86, pos := "parts.go:59", after := #[], guard := none }) (v := .pointer (some ⟨h, 0, none⟩)) rfl (by kernel_rfl) (by kernel_rfl) (by kernel_rfl) (fun _ _ _ h => h) (Or.inl ⟨by rfl, ?_⟩) (by assumption) ?_
            · intro w hSw; (try dsimp only at hSw); go_simp
            try simp only [Act.put, List.setIfInBounds_toArray, List.set_cons_zero, List.set_cons_succ]
            refine wpAnyH_take (i := 6) (oi := { dst := some 93, op := Go.Op.nilCheck (Go.Operand.tmp 92), type := 0, pos := "parts.go:59", after := #[{ on := 5, ground := Go.Ground.data }], guard := none }) (v := .pointer (some ⟨h, 0, none⟩)) rfl (by kernel_rfl) (by kernel_rfl) (by kernel_rfl) (fun _ _ _ h => h) (Or.inl ⟨by rfl, ?_⟩) (by assumption) ?_
            · intro w hSw; (try dsimp only at hSw); go_simp
            try simp only [Act.put, List.setIfInBounds_toArray, List.set_cons_zero, List.set_cons_succ]
            refine wpAnyH_take (i := 7) (oi := { dst := some 94, op := Go.Op.fieldAddr 92 (Go.Operand.tmp 93) 2, type := 0, pos := "parts.go:59", after := #[{ on := 6, ground := Go.Ground.data }], guard := none }) (v := .pointer (some ⟨h, 2, none⟩)) rfl (by kernel_rfl) (by kernel_rfl) (by kernel_rfl) (fun _ _ _ h => h) (Or.inl ⟨by rfl, ?_⟩) (by assumption) ?_
            · intro w hSw; (try dsimp only at hSw); go_simp
            try simp only [Act.put, List.setIfInBounds_toArray, List.set_cons_zero, List.set_cons_succ]
            refine wpAnyH_take (i := 8) (oi := { dst := some 95, op := Go.Op.load 78 (Go.Operand.tmp 94), type := 78, pos := "parts.go:59", after := #[{ on := 7, ground := Go.Ground.data }], guard := none }) (v := .slice (some ⟨gt, 0, none⟩) nb c2) rfl (by kernel_rfl) (by kernel_rfl) (by kernel_rfl) (fun _ _ _ h => h) (Or.inl ⟨by rfl, ?_⟩) (by assumption) ?_
            · intro w hSw; (try dsimp only at hSw); go_simp
            try simp only [Act.put, List.setIfInBounds_toArray, List.set_cons_zero, List.set_cons_succ]
            refine wpAnyH_take (i := 9) (oi := { dst := some 96, op := Go.Op.move (Go.Operand.tmp 9), type := 3, pos := "parts.go:59", after := #[], guard := none }) (v := .int .i64 (b : Int)) rfl (by kernel_rfl) (by kernel_rfl) (by kernel_rfl) (fun _ _ _ h => h) (Or.inl ⟨by rfl, ?_⟩) (by assumption) ?_
            · intro w hSw; (try dsimp only at hSw); go_simp
            try simp only [Act.put, List.setIfInBounds_toArray, List.set_cons_zero, List.set_cons_succ]
            refine wpAnyH_take (i := 10) (oi := { dst := some 97, op := Go.Op.indexAddr 78 (Go.Operand.tmp 95) (Go.Operand.tmp 96), type := 0, pos := "parts.go:59", after := #[{ on := 8, ground := Go.Ground.data }, { on := 9, ground := Go.Ground.data }], guard := none }) (v := .pointer (some ⟨gt, b, none⟩)) rfl (by kernel_rfl) (by kernel_rfl) (by kernel_rfl) (fun _ _ _ h => h) (Or.inl ⟨by rfl, ?_⟩) (by assumption) ?_
            · intro w hSw; (try dsimp only at hSw); go_simp
            try simp only [Act.put, List.setIfInBounds_toArray, List.set_cons_zero, List.set_cons_succ]
            refine wpAnyH_ready (rs := [11]) (by kernel_rfl) (by simp) ?_
            refine AllReadyH.cons rfl (fun K' hK' => ?_) AllReadyH.nil
            go_simp
            skip
            refine hK'.out _ _ ?_ (fun hHeld => ?_)
            · (try dsimp only)
              exact HSd.out
            clear hK' K'
            try simp only [Act.put, List.setIfInBounds_toArray, List.set_cons_zero, List.set_cons_succ]
            refine wpAnyH_take (i := 12) (oi := { dst := some 99, op := Go.Op.slice 22 (Go.Operand.tmp 98) none (some (Go.Operand.const (Go.Value.int Go.IntKind.i64 0))) none, type := 22, pos := "parts.go:59", after := #[{ on := 11, ground := Go.Ground.data }], guard := none }) (v := .slice (some ⟨gq, 0, none⟩) 0 ct) rfl (by kernel_rfl) (by kernel_rfl) (by kernel_rfl) (fun _ _ _ h => h) (Or.inl ⟨by rfl, ?_⟩) (by assumption) ?_
            · intro w hSw; (try dsimp only at hSw); go_simp
            try simp only [Act.put, List.setIfInBounds_toArray, List.set_cons_zero, List.set_cons_succ]
            refine wpAnyH_take (i := 13) (oi := { dst := some 100, op := Go.Op.indexAddr 78 (Go.Operand.tmp 90) (Go.Operand.tmp 91), type := 0, pos := "parts.go:59", after := #[{ on := 3, ground := Go.Ground.data }, { on := 4, ground := Go.Ground.data }, { on := 0, ground := Go.Ground.phase }, { on := 1, ground := Go.Ground.phase }, { on := 2, ground := Go.Ground.phase }, { on := 3, ground := Go.Ground.phase }, { on := 4, ground := Go.Ground.phase }, { on := 5, ground := Go.Ground.phase }, { on := 6, ground := Go.Ground.phase }, { on := 7, ground := Go.Ground.phase }, { on := 8, ground := Go.Ground.phase }, { on := 9, ground := Go.Ground.phase }, { on := 10, ground := Go.Ground.phase }, { on := 11, ground := Go.Ground.phase }, { on := 12, ground := Go.Ground.phase }], guard := none }) (v := .pointer (some ⟨gt, b, none⟩)) rfl (by kernel_rfl) (by kernel_rfl) (by kernel_rfl) (fun _ _ _ h => h) (Or.inl ⟨by rfl, ?_⟩) (by assumption) ?_
            · intro w hSw; (try dsimp only at hSw); go_simp
            try simp only [Act.put, List.setIfInBounds_toArray, List.set_cons_zero, List.set_cons_succ]
            refine wpAnyH_ready (rs := [14]) (by kernel_rfl) (by simp) ?_
            refine AllReadyH.cons rfl (fun K' hK' => ?_) AllReadyH.nil
            go_simp
            skip
            refine hK'.out _ _ ?_ (fun hHeld => ?_)
            · (try dsimp only)
              exact HSe.out
            clear hK' K'
            try simp only [Act.put, List.setIfInBounds_toArray, List.set_cons_zero, List.set_cons_succ]
            refine wpAnyH_done (by kernel_rfl) ?_ _
            go_wp2_with fail
            go_roundw
            case rel => exact ⟨i + 1, _, _, by omega, by go_num, Lib.hid ((upd_ne _ _ (rS_rT K b)).trans HVK3.out), HPP, HDV3⟩
            case measure => simp [intOf]; omega
          · have d1 : decide ((lt : Int) < (ls : Int)) = false := decide_eq_false (by omega)
            go_upto_region 12 with (fail)
            go_quiet (fail)
            obtain ⟨W3, hW3⟩ : ∃ W3, wr.drewN nq = W3 := ⟨_, rfl⟩
            have HP3 : Hid (PtM X w W3 h n V (tmpP t K B)) := Lib.hid (Fm.below HP.out (hW3 ▸ below_drewN nq (Below.refl _ _)))
            rw [hW3]
            clear hW3 y1 y2 k5 k6 k8
            have HVK3 := HVK
            have HDV3 : Hid (dvI n s so (B.take (i + 1)) (zerP t b)) := Lib.hid (by
              rw [HTK1.out]
              exact HDV.out.keep HBD.out HBN.out HSO.out HSN.out (by rw [HTB.out, HLT.out, HLS.out]; exact hlt2))
            have HB3 := HBT
            have HT3 := HTB
            clear HP HDV HVK
            go_upto_region 14 with (fail)
            clear d1
            obtain ⟨p2, c2, e2, g2'⟩ := HP3.out.v2
            obtain ⟨gt, rfl⟩ := g2' (by have := HB3.out; show 0 < t.nb; omega)
            obtain ⟨pt, ct, et, gq'⟩ := HP3.out.vT b
            obtain ⟨gq, rfl⟩ := gq' (by show 0 < (t.T b).length; rw [HT3.out]; exact List.length_pos_iff.2 (HTB.out ▸ HT0.out))
            have et' : V (rT b) = .slice (some ⟨gq, 0, none⟩) lt ct := by rw [← HLT.out, ← HT3.out]; exact et
            have HPd := Lib.hid (Fm.below HP3.out (Below.refl _ _).drew)
            obtain ⟨nb, hnb'⟩ : ∃ nb, t.nb = nb := ⟨_, rfl⟩
            have e2' : V 2 = .slice (some ⟨gt, 0, none⟩) nb c2 := by rw [← hnb']; exact e2
            have HSd : Hid (W3.drew.cell? ⟨h, 2, none⟩ = some (.slice (some ⟨gt, 0, none⟩) nb c2)) := Lib.hid (by rw [HPd.out.st.cells.2.2.1, e2'])
            have HPP : Hid (PtM X w (W3.drew.setCell ⟨gt, b, none⟩ (.slice (some ⟨gq, 0, none⟩) 0 ct)) h n (upd V (rT b) (.slice (some ⟨gq, 0, none⟩) 0 ct)) (tmpP (zerP t b) K B)) := Lib.hid (by
              have f1 := Fm.short HPd.out (rT b) et' 0 (Nat.zero_le _)
              have hV1 : upd V (rT b) (.slice (some ⟨gq, 0, none⟩) 0 ct) 2 = .slice (some ⟨gt, 0, none⟩) t.nb c2 := by rw [upd_ne _ _ (Ne.symm (rT_ne b (by decide)))]; exact e2
              have hL1 : upd (lP n V (tmpP t K B)) (rT b) ((lP n V (tmpP t K B) (rT b)).take 0) 2 = vls (fun k => V (rT k)) t.nb := by rw [upd_ne _ _ (Ne.symm (rT_ne b (by decide)))]; rfl
              have f2 := f1.stored 2 (by rw [hL1, vls_len]; exact hV1) b (.slice (some ⟨gq, 0, none⟩) 0 ct)
              have f3 := f2.useU (U' := upd V (rT b) (.slice (some ⟨gq, 0, none⟩) 0 ct)) fun i hi => (upd_ne _ _ (Ne.symm (rT_ne b hi))).symm
              rw [hL1, List.take_zero] at f3
              have e4 := lP_told n V (tmpP t K B) b [] (.slice (some ⟨gq, 0, none⟩) 0 ct)
              have e5 : tmpP (zerP t b) K B = { tmpP t K B with T := upd (tmpP t K B).T b [] } := rfl
              unfold PtM
              rw [e5, ← e4]
              exact f3)
            have HSe : Hid ((W3.drew.setCell ⟨gt, b, none⟩ (.slice (some ⟨gq, 0, none⟩) 0 ct)).cell? ⟨h, 2, none⟩ = some (.slice (some ⟨gt, 0, none⟩) nb c2)) := Lib.hid (by rw [HPP.out.st.cells.2.2.1, upd_ne _ _ (Ne.symm (rT_ne b (by decide))), e2'])
            obtain ⟨k1, k2, k3, -⟩ := Fm.cell HP3.out 2 e2 (j := b) (u := V (rT b)) (by rw [lP2]; exact vls_at _ _ _ HB3.out)
            rw [et'] at k1
            have b1 : (b : Int) < (nb : Int) := by have := HB3.out; omega
            clear e2 e2' et et' g2' gq' hnb'
            refine wp_region_held_drew (S := (fun w' => w'.cell? ⟨h, 2, none⟩ = some (.slice (some ⟨gt, 0, none⟩) nb c2))) (by kernel_rfl) (HSd.out) (fun hHeld => ?_)
            refine wpAnyH_take (i := 0) (oi := { dst := some 87, op := Go.Op.move (Go.Operand.tmp 0), type := 86, pos := "parts.go:59", after := #[], guard := none }) (v := .pointer (some ⟨h, 0, none⟩)) rfl (by kernel_rfl) (by kernel_rfl) (by kernel_rfl) (fun _ _ _ h => h) (Or.inl ⟨by rfl, ?_⟩) (by assumption) ?_
            · intro w hSw; (try dsimp only at hSw); go_simp
            try simp only [Act.put, List.setIfInBounds_toArray, List.set_cons_zero, List.set_cons_succ]
            refine wpAnyH_take (i := 1) (oi := { dst := some 88, op := Go.Op.nilCheck (Go.Operand.tmp 87), type := 0, pos := "parts.go:59", after := #[{ on := 0, ground := Go.Ground.data }], guard := none }) (v := .pointer (some ⟨h, 0, none⟩)) rfl (by kernel_rfl) (by kernel_rfl) (by kernel_rfl) (fun _ _ _ h => h) (Or.inl ⟨by rfl, ?_⟩) (by assumption) ?_
            · intro w hSw; (try dsimp only at hSw); go_simp
            try simp only [Act.put, List.setIfInBounds_toArray, List.set_cons_zero, List.set_cons_succ]
            refine wpAnyH_take (i := 2) (oi := { dst := some 89, op := Go.Op.fieldAddr 92 (Go.Operand.tmp 88) 2, type := 0, pos := "parts.go:59", after := #[{ on := 1, ground := Go.Ground.data }], guard := none }) (v := .pointer (some ⟨h, 2, none⟩)) rfl (by kernel_rfl) (by kernel_rfl) (by kernel_rfl) (fun _ _ _ h => h) (Or.inl ⟨by rfl, ?_⟩) (by assumption) ?_
            · intro w hSw; (try dsimp only at hSw); go_simp
            try simp only [Act.put, List.setIfInBounds_toArray, List.set_cons_zero, List.set_cons_succ]
            refine wpAnyH_take (i := 3) (oi := { dst := some 90, op := Go.Op.load 78 (Go.Operand.tmp 89), type := 78, pos := "parts.go:59", after := #[{ on := 2, ground := Go.Ground.data }], guard := none }) (v := .slice (some ⟨gt, 0, none⟩) nb c2) rfl (by kernel_rfl) (by kernel_rfl) (by kernel_rfl) (fun _ _ _ h => h) (Or.inl ⟨by rfl, ?_⟩) (by assumption) ?_
            · intro w hSw; (try dsimp only at hSw); go_simp
            try simp only [Act.put, List.setIfInBounds_toArray, List.set_cons_zero, List.set_cons_succ]
            refine wpAnyH_take (i := 4) (oi := { dst := some 91, op := Go.Op.move (Go.Operand.tmp 9), type := 3, pos := "parts.go:59", after := #[], guard := none }) (v := .int .i64 (b : Int)) rfl (by kernel_rfl) (by kernel_rfl) (by kernel_rfl) (fun _ _ _ h => h) (Or.inl ⟨by rfl, ?_⟩) (by assumption) ?_
            · intro w hSw; (try dsimp only at hSw); go_simp
            try simp only [Act.put, List.setIfInBounds_toArray, List.set_cons_zero, List.set_cons_succ]
            refine wpAnyH_take (i := 5) (oi := { dst := some 92, op := Go.Op.move (Go.Operand.tmp 0), type := 86, pos := "parts.go:59", after := #[], guard := none }) (v := .pointer (some ⟨h, 0, none⟩)) rfl (by kernel_rfl) (by kernel_rfl) (by kernel_rfl) (fun _ _ _ h => h) (Or.inl ⟨by rfl, ?_⟩) (by assumption) ?_
            · intro w hSw; (try dsimp only at hSw); go_simp
            try simp only [Act.put, List.setIfInBounds_toArray, List.set_cons_zero, List.set_cons_succ]
            refine wpAnyH_take (i := 6) (oi := { dst := some 93, op := Go.Op.nilCheck (Go.Operand.tmp 92), type := 0, pos := "parts.go:59", after := #[{ on := 5, ground := Go.Ground.data }], guard := none }) (v := .pointer (some ⟨h, 0, none⟩)) rfl (by kernel_rfl) (by kernel_rfl) (by kernel_rfl) (fun _ _ _ h => h) (Or.inl ⟨by rfl, ?_⟩) (by assumption) ?_
            · intro w hSw; (try dsimp only at hSw); go_simp
            try simp only [Act.put, List.setIfInBounds_toArray, List.set_cons_zero, List.set_cons_succ]
            refine wpAnyH_take (i := 7) (oi := { dst := some 94, op := Go.Op.fieldAddr 92 (Go.Operand.tmp 93) 2, type := 0, pos := "parts.go:59", after := #[{ on := 6, ground := Go.Ground.data }], guard := none }) (v := .pointer (some ⟨h, 2, none⟩)) rfl (by kernel_rfl) (by kernel_rfl) (by kernel_rfl) (fun _ _ _ h => h) (Or.inl ⟨by rfl, ?_⟩) (by assumption) ?_
            · intro w hSw; (try dsimp only at hSw); go_simp
            try simp only [Act.put, List.setIfInBounds_toArray, List.set_cons_zero, List.set_cons_succ]
            refine wpAnyH_take (i := 8) (oi := { dst := some 95, op := Go.Op.load 78 (Go.Operand.tmp 94), type := 78, pos := "parts.go:59", after := #[{ on := 7, ground := Go.Ground.data }], guard := none }) (v := .slice (some ⟨gt, 0, none⟩) nb c2) rfl (by kernel_rfl) (by kernel_rfl) (by kernel_rfl) (fun _ _ _ h => h) (Or.inl ⟨by rfl, ?_⟩) (by assumption) ?_
            · intro w hSw; (try dsimp only at hSw); go_simp
            try simp only [Act.put, List.setIfInBounds_toArray, List.set_cons_zero, List.set_cons_succ]
            refine wpAnyH_take (i := 9) (oi := { dst := some 96, op := Go.Op.move (Go.Operand.tmp 9), type := 3, pos := "parts.go:59", after := #[], guard := none }) (v := .int .i64 (b : Int)) rfl (by kernel_rfl) (by kernel_rfl) (by kernel_rfl) (fun _ _ _ h => h) (Or.inl ⟨by rfl, ?_⟩) (by assumption) ?_
            · intro w hSw; (try dsimp only at hSw); go_simp
            try simp only [Act.put, List.setIfInBounds_toArray, List.set_cons_zero, List.set_cons_succ]
            refine wpAnyH_take (i := 10) (oi := { dst := some 97, op := Go.Op.indexAddr 78 (Go.Operand.tmp 95) (Go.Operand.tmp 96), type := 0, pos := "parts.go:59", after := #[{ on := 8, ground := Go.Ground.data }, { on := 9, ground := Go.Ground.data }], guard := none }) (v := .pointer (some ⟨gt, b, none⟩)) rfl (by kernel_rfl) (by kernel_rfl) (by kernel_rfl) (fun _ _ _ h => h) (Or.inl ⟨by rfl, ?_⟩) (by assumption) ?_
            · intro w hSw; (try dsimp only at hSw); go_simp
            try simp only [Act.put, List.setIfInBounds_toArray, List.set_cons_zero, List.set_cons_succ]
            refine wpAnyH_ready (rs := [11]) (by kernel_rfl) (by simp) ?_
            refine AllReadyH.cons rfl (fun K' hK' => ?_) AllReadyH.nil
            go_simp
            skip
            refine hK'.out _ _ ?_ (fun hHeld => ?_)
            · (try dsimp only)
              exact HSd.out
            clear hK' K'
            try simp only [Act.put, List.setIfInBounds_toArray, List.set_cons_zero, List.set_cons_succ]
            refine wpAnyH_take (i := 12) (oi := { dst := some 99, op := Go.Op.slice 22 (Go.Operand.tmp 98) none (some (Go.Operand.const (Go.Value.int Go.IntKind.i64 0))) none, type := 22, pos := "parts.go:59", after := #[{ on := 11, ground := Go.Ground.data }], guard := none }) (v := .slice (some ⟨gq, 0, none⟩) 0 ct) rfl (by kernel_rfl) (by kernel_rfl) (by kernel_rfl) (fun _ _ _ h => h) (Or.inl ⟨by rfl, ?_⟩) (by assumption) ?_
            · intro w hSw; (try dsimp only at hSw); go_simp
            try simp only [Act.put, List.setIfInBounds_toArray, List.set_cons_zero, List.set_cons_succ]
            refine wpAnyH_take (i := 13) (oi := { dst := some 100, op := Go.Op.indexAddr 78 (Go.Operand.tmp 90) (Go.Operand.tmp 91), type := 0, pos := "parts.go:59", after := #[{ on := 3, ground := Go.Ground.data }, { on := 4, ground := Go.Ground.data }, { on := 0, ground := Go.Ground.phase }, { on := 1, ground := Go.Ground.phase }, { on := 2, ground := Go.Ground.phase }, { on := 3, ground := Go.Ground.phase }, { on := 4, ground := Go.Ground.phase }, { on := 5, ground := Go.Ground.phase }, { on := 6, ground := Go.Ground.phase }, { on := 7, ground := Go.Ground.phase }, { on := 8, ground := Go.Ground.phase }, { on := 9, ground := Go.Ground.phase }, { on := 10, ground := Go.Ground.phase }, { on := 11, ground := Go.Ground.phase }, { on := 12, ground := Go.Ground.phase }], guard := none }) (v := .pointer (some ⟨gt, b, none⟩)) rfl (by kernel_rfl) (by kernel_rfl) (by kernel_rfl) (fun _ _ _ h => h) (Or.inl ⟨by rfl, ?_⟩) (by assumption) ?_
            · intro w hSw; (try dsimp only at hSw); go_simp
            try simp only [Act.put, List.setIfInBounds_toArray, List.set_cons_zero, List.set_cons_succ]
            refine wpAnyH_ready (rs := [14]) (by kernel_rfl) (by simp) ?_
            refine AllReadyH.cons rfl (fun K' hK' => ?_) AllReadyH.nil
            go_simp
            skip
            refine hK'.out _ _ ?_ (fun hHeld => ?_)
            · (try dsimp only)
              exact HSe.out
            clear hK' K'
            try simp only [Act.put, List.setIfInBounds_toArray, List.set_cons_zero, List.set_cons_succ]
            refine wpAnyH_done (by kernel_rfl) ?_ _
            go_wp2_with fail
            go_roundw
            case rel => exact ⟨i + 1, _, _, by omega, by go_num, Lib.hid ((upd_ne _ _ (rS_rT K b)).trans HVK3.out), HPP, HDV3⟩
            case measure => simp [intOf]; omega
        · obtain rfl : i = lb := by omega
          have HE : Hid (dvE n s so (tmpP t K B)) := Lib.hid (by
            have h1 := HDV.out
            rw [← HBL.out, List.take_length] at h1
            have h2 := h1.ok.le
            have h3 := HKK.out
            exact (h1.end HBI2.out).tmp (by omega) B)
          have HF := Lib.hid (HP.out.back13 HKP.out)
          clear HP HDV
          go_wp2_with fail
          refine bodyPost_end (results_none rfl _ _ _) rfl ?_
          exact ⟨rfl, _, _, HF.out, HE.out⟩
end Go.Proofs.Ytefpoapbodbenaa
