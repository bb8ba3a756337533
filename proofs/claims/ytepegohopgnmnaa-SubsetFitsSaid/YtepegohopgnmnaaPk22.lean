/-
  The walk of put: a set's number.
-/
import Derived.Test.YtepegohopgnmnaaPk21
import Derived.Deep.RegionHeldLaw
import Derived.Deep.MidRow
namespace Go.Proofs.Ytepegohopgnmnaa
open Go.RowKit

theorem infoKey (V : Bf) : (Try.prog.info? 110).map (·.size) = some (kyl V).length := by
  rw [show (kyl V).length = 10 by simp [kyl]]
  kernel_rfl
theorem isKy.range {w : World} {b : Nat} {T : Bf} (h : isKy w b T) : w.rangeAt b 0 (kyl T) := fun j v hv => by
  by_cases hj : j < 10
  · rw [kyl_at T j hj] at hv
    rw [Nat.zero_add, h.cell j hj]; exact hv
  · rw [List.getElem?_eq_none (by simp [kyl]; omega)] at hv; cases hv
theorem look11 {w : World} {b k : Nat} {D : Dm11} (hown : ownsK w b k D) (T : Bf) (r : Bool) (hr : Maps.has D (kyL T) = r) (c : Int) (hc : r = true → D.atKey (kyL T) (iL11 0) = iL11 c) :
    ∃ z : Int, (r = true → z = c) ∧ (Instr.lookup 54 (.map (some b)) (.agg (kyl T).toArray) true).run Try.prog w = .ok (.tuple #[.int .i64 z, .bool r]) w := by
  obtain ⟨v, ps, hrun, hv⟩ := hown.look_ok keyLaw Try.underlying54 (zeroI11 w) (plainElem_int Try.underlying3 (by decide)) (ky_key T)
  obtain ⟨z, rfl, hz, _⟩ := plainElem_int_inv Try.underlying3 hv
  refine ⟨z, fun hr1 => ?_, by rw [← hr]; exact hrun⟩
  have h1 := hc hr1
  have h2 : D.atKey (kyL T) (iL11 0) = iL11 z := congrArg Prod.fst hz
  rw [h1] at h2
  exact ((Lit.int.inj (DataW.lit.inj h2)).2).symm
theorem upd11 {w : World} {b k : Nat} {D : Dm11} (hown : ownsK w b k D) (hk : k ≤ 100000) (T : Bf) (c : Int) (hc : 0 ≤ c ∧ c ≤ 100000) :
    ∃ w', (Instr.mapUpdate 54 (.map (some b)) (.agg (kyl T).toArray) (.int .i64 c)).run Try.prog w = .ok () w' ∧ ownsK w' b (k + 1) (D.put (kyL T) (iL11 c)) ∧ w.grownBy w' (some b) := by
  have hwf : (Lit.int .i64 c).wf = true := WalkArith.wf_i64 ⟨by omega, by omega⟩
  obtain ⟨w', hrun, r1, r2⟩ := hown.update keyLaw Try.underlying54 (by unfold maxLen; omega) (ky_key T) (plainElem_int Try.underlying3 hwf)
  exact ⟨w', hrun, r1, r2⟩

theorem append_ls {w : World} {ops : Array Oper} {rest : List Oper} {o : Oper} {a : Act} {Q : Exit → Act → World → Prop} (hgd : o.guard = none) (s x : Operand)
    (ho : o.op = .call { callee := .builtin .append, args := #[s, x], argTypes := #[53, 53] }) (base : Nat) (v : Value) (G : List Ls11) (hs : a.eval s = v)
    (hown : w.ownsRow base 27 1 v G.length (lsv G)) (g : Nat) (y : Ls11) (hx : a.eval x = .slice (some ⟨g, 0, none⟩) 1 1)
    (hcell : w.cell? ⟨g, 0, none⟩ = some y.val) (hlen : G.length ≤ 10000) (hbase : base ≤ w.heap.size)
    (h : ∀ p' n' c' w', n' = G.length + 1 → w'.ownsRow base 27 1 (.slice p' n' c') (G.length + 1) (lsv G ++ [y.val]) → w.grownBy w' v.ownBlock → ((Value.slice p' n' c').ownBlock = v.ownBlock ∨ (Value.slice p' n' c').ownBlock = some w.heap.size) → wpList Try.prog ops Q rest (a.put o.dst (.slice p' n' c')) w') : wpList Try.prog ops Q (o :: rest) a w := by
  obtain ⟨i0, hi, hz0, hz1, hz2⟩ := info_parts infoRowI
  refine Go.wpList_append_own_at w hgd s x 53 ho base 27 i0 (.slice none 0 0) 1 24 Try.underlying53 hi hz0 hz1 hz2 rfl (by decide) v G.length (lsv G) hs hown ⟨g, 0, none⟩ 1 1 [y.val] hx rfl ?_ ?_ (by unfold maxLen; omega) (by omega) hbase ?_
  · intro j u hu
    match j, hu with
    | 0, hu => simp at hu; subst hu; simpa [Addr.add] using hcell
  · intro u hu
    have : u = y.val := by simpa using hu
    subst this; rfl
  · intro v' w' h1 h2 _ h3
    rcases id h1.2 with ⟨_, h0⟩ | ⟨g, cap, cur, rfl, _⟩
    · omega
    · exact h _ _ _ w' rfl h1 h2 h3

set_option maxRecDepth 100000 in
set_option maxHeartbeats 8000000 in
theorem put_is (base h mb m : Nat) (L : List Bf) (B : List Nat) (sv nv : Value) (G : List Ls11) (D : Dm11) (x : Ls11) (X : Bf) (hm : m ≤ 640) (hlen : L.length ≤ 10000) (w : World) (H : MetM w base h mb m L L B sv nv G L.length D)
    (hx : okL11 w base m x X) (hap : ∀ b o, x.p = some ⟨b, o, none⟩ → 0 < x.n → apt11 h mb sv nv b) :
    Calls Try.prog 44 #[.pointer (some ⟨h, 0, none⟩), .slice x.p x.n x.c] w fun e w' => e = .returned (.int .i64 (fiS m L X : Nat)) ∧ (∃ sv' G' D', MetM w' base h mb m (adS m L X) (adS m L X) B sv' nv G' (adS m L X).length D') ∧ Below base w w' := by
  have HBASE := Lib.hid H.lt
  have HK := Lib.hid (keyOf_is x.p x.n x.c m x.l X hm (by have := hx.2.2.1; omega) hx.2.1 w hx.1)
  have HM := Lib.hid H
  have HX := Lib.hid hx
  have HAP := Lib.hid hap
  have HLE := Lib.hid hlen
  obtain ⟨xp, xn, xc, xl⟩ := x
  obtain ⟨V, hV⟩ : ∃ V, cutB m X = V := ⟨_, rfl⟩
  have HV := Lib.hid hV
  dsimp only at HK ⊢
  rw [hV] at HK
  clear H hx hap hlen hV
  go_enter Try.func44, Try.ntmps44
  go_wp2_with fail
  refine HK.out.mono ?_
  rintro e w1 ⟨rfl, hb1⟩
  have HM1 := Lib.hid (HM.out.below hb1)
  have HX1 := Lib.hid (HX.out.below hb1)
  have HB1 : Hid (Below base w w1) := Lib.hid (hb1.mono HBASE.out)
  obtain ⟨g, hg⟩ : ∃ g, w1.heap.size = g := ⟨_, rfl⟩
  obtain ⟨W2, hW2⟩ : ∃ W2, w1.alloc (.cells #[.int .u64 (wd V 0 : Int), .int .u64 (wd V 1 : Int), .int .u64 (wd V 2 : Int), .int .u64 (wd V 3 : Int), .int .u64 (wd V 4 : Int), .int .u64 (wd V 5 : Int), .int .u64 (wd V 6 : Int), .int .u64 (wd V 7 : Int), .int .u64 (wd V 8 : Int), .int .u64 (wd V 9 : Int)] 110) = W2 := ⟨_, rfl⟩
  have hk2 : isKy W2 g V := hW2 ▸ hg ▸ isKy.new w1 V
  have hb2 : Below w1.heap.size w1 W2 := by
    rw [← hW2]
    exact (Below.refl _ _).alloc (Nat.le_refl _) _
  obtain ⟨sp, sc, rfl⟩ := HM1.out.slices.1
  have HM1s := Lib.hid HM1.out; have HGs := Lib.hid hg
  have HM2 := Lib.hid (HM1.out.below hb2)
  have HX2 := Lib.hid (HX1.out.below hb2)
  have HB2 : Hid (Below base w W2) := Lib.hid (HB1.out.trans (hb2.mono (HM1.out.lt)))
  have HK2 := Lib.hid hk2
  obtain ⟨len, hln⟩ : ∃ len, L.length = len := ⟨_, rfl⟩
  have HLN := Lib.hid hln
  have hlen0 := HLE.out
  have hgh : h < W2.heap.size := HM2.out.mt.lt
  have hgg : g < W2.heap.size := hk2.lt
  have HW2 := Lib.hid hW2
  have HG := Lib.hid hg
  rw [hln] at hlen0
  have l0 : (0 : Int) ≤ (len : Int) := by omega
  have l1 : (len : Int) ≤ 10000 := by omega
  have HS : Hid (∀ w', Below W2.heap.size W2 w' → w'.cell? ⟨h, 1, none⟩ = some (.map (some mb)) ∧ w'.rangeAt g 0 (kyl V)) := Lib.hid fun w' hb => ⟨(HM2.out.mt.below hb hgh).cells.2.1, (hk2.below hb hgg).range⟩
  have HBU := Lib.hid hb2
  unfold kyV
  have hku := Try.underlying110
  have hki := infoKey V
  clear hW2 hk2 hb2 hln HM HX HK HM1 HX1 HB1
  go_upto_region 2 with (fail)
  rw [HW2.out]
  clear hg
  have h0 := HS.out _ (Below.refl _ _)
  cases hr : decide (fiS m L X < len)
  · have hr' : ¬ fiS m L X < len := of_decide_eq_false hr
    have HR : Hid (¬ fiS m L X < L.length) := Lib.hid (by rw [HLN.out]; exact hr')
    have HNO : Hid (Maps.has D (kyL V) = false) := Lib.hid (by rw [← HV.out]; exact (HM2.out.mps X).2 HR.out)
    have HO : Hid (ownsK W2 mb L.length D) := Lib.hid HM2.out.map
    clear hr hr'
    obtain ⟨z, -, hlk⟩ := look11 (w := W2.drew) HO.out V false HNO.out 0 (by simp)
    go_region_held_law (fun w' => w'.cell? ⟨h, 1, none⟩ = some (.map (some mb)) ∧ w'.rangeAt g 0 (kyl V)) (first | exact HS.out _ (Below.refl _ _) | exact HS.out _ (Below.refl _ _).drew) (fail)
    obtain ⟨w3, hup, hown3, hg3⟩ := upd11 (w := W2.drew.drew) HO.out (by rw [HLN.out]; omega) V (len : Int) (by omega)
    have HD2 := Lib.hid (HM2.out.below (Below.refl _ _).drew.drew)
    have hM3 := HD2.out.upd hg3 (mpS_new hm HM2.out.mps (HO.out.tidy keyLaw) HR.out) (by rw [HV.out, HLN.out]; exact hown3)
    have HM3 := Lib.hid hM3
    have HB3 : Hid (Below base w w3) := Lib.hid (HB2.out.drew.drew.grown hg3 HD2.out.lt (fun r hr => by cases hr; exact HM2.out.bm))
    obtain ⟨m0, m1, m2⟩ := HM2.out.mt.cells
    rw [HLN.out] at m0
    have HX3 : Hid (okL11 w3 base m ⟨xp, xn, xc, xl⟩ X) := Lib.hid ((HX2.out.below (Below.refl _ _).drew.drew).kept hg3 fun b o e hn => by simpa using (HAP.out b o e hn).2.1)
    clear hown3 hM3 hlk HNO h0
    go_upto_region 5 with (fail)
    have HS3 : Hid (w3.cell? ⟨h, 1, none⟩ = some (.map (some mb)) ∧ w3.rangeAt g 0 (kyl V)) := Lib.hid ⟨HM3.out.mt.cells.2.1, (show isKy w3 g V from (hg3.block g (by simpa using hgg) (by have := ownsK.lt HM1s.out.map; have := HGs.out; simp; omega)).trans HK2.out).range⟩
    go_region_held_law (fun w' => w'.cell? ⟨h, 1, none⟩ = some (.map (some mb)) ∧ w'.rangeAt g 0 (kyl V)) (first | exact HS.out _ (Below.refl _ _) | exact HS.out _ (Below.refl _ _).drew.drew | exact HS3.out) (fail)
    have hb4 : Below w3.heap.size w3 (w3.alloc (.cells #[.slice xp xn xc] 27)) := (Below.refl _ _).alloc (Nat.le_refl _) _
    obtain ⟨s, hs⟩ : ∃ s, w3.heap.size = s := ⟨_, rfl⟩
    have HM4 := Lib.hid (HM3.out.below hb4)
    have HX4 := Lib.hid (HX3.out.below hb4)
    have HB4 := Lib.hid (HB3.out.trans (hb4.mono HM3.out.lt))
    have HC4 : Hid ((w3.alloc (.cells #[.slice xp xn xc] 27)).cell? ⟨w3.heap.size, 0, none⟩ = some (Ls11.mk xp xn xc xl).val) := Lib.hid (by simp)
    have HGL : Hid (G.length ≤ 10000) := Lib.hid (by rw [HM3.out.len, HLN.out]; exact hlen0)
    have HROW : Hid ((w3.alloc (.cells #[.slice xp xn xc] 27)).ownsRow base 27 1 (.slice sp len sc) G.length (lsv G)) := Lib.hid (HLN.out ▸ HM4.out.row)
    have HLT := Lib.hid HM4.out.lt
    obtain ⟨m0, m1, m2⟩ := HM3.out.mt.cells
    rw [HLN.out] at m0
    have mf := HM3.out.mt.free 0
    have ml := HM3.out.mt.lt
    clear hb4 hs
    go_wp2_with (at_builtin; refine append_ls rfl _ _ rfl base (.slice sp len sc) G rfl HROW.out w3.heap.size (Ls11.mk xp xn xc xl) rfl HC4.out HGL.out HLT.out ?_; intro p5 n5 c5 w5 hn5 hr5 hg5 hv5; have HN5 := Lib.hid hn5; have HR5 := Lib.hid hr5; have HG5 := Lib.hid hg5; have HV5 := Lib.hid hv5; have mt5 := HM4.out.mt.kept hg5 (by rw [← HLN.out]; exact Ne.symm HM4.out.sh.1); have mc5 := mt5.cells.1; have mf5 := mt5.free 0; have ml5 := mt5.lt; clear hn5 hr5 hg5 hv5 mt5)
    have hfin := HM4.out.app (v' := .slice p5 n5 c5) (x := Ls11.mk xp xn xc xl) (X := X) (by rw [HLN.out]; exact HG5.out) HR5.out (by rw [HLN.out]; exact HV5.out) HX4.out HAP.out
    have HFI := Lib.hid hfin
    have HBE : Hid (Below base w (w5.setCell ⟨h, 0, none⟩ (.slice p5 n5 c5))) := Lib.hid ((HB4.out.grown HG5.out HLT.out (fun r hr => (World.ownsRow.lt HROW.out r hr).1)).setCell (p := ⟨h, 0, none⟩) HM2.out.bh _)
    have HFE : Hid (adS m L X = L ++ [X] ∧ fiS m L X = len) := Lib.hid ⟨by unfold adS; rw [if_neg HR.out], by have h1 := fiS_le m L X; have h2 := HR.out; rw [← HLN.out]; omega⟩
    clear hfin mc5 mf5 ml5 m0 m1 m2 mf ml
    go_wp2_with fail
    go_returns
    refine ⟨by rw [HFE.out.2] <;> rfl, ?_, HBE.out⟩
    rw [HFE.out.1, List.length_append]
    exact ⟨_, _, _, HFI.out⟩
  · have hr' : fiS m L X < len := of_decide_eq_true hr
    have HR : Hid (fiS m L X < L.length) := Lib.hid (by rw [HLN.out]; exact hr')
    have HYES := Lib.hid ((HM2.out.mps X).1 HR.out)
    have HO : Hid (ownsK W2 mb L.length D) := Lib.hid HM2.out.map
    obtain ⟨f, hf⟩ : ∃ f, fiS m L X = f := ⟨_, rfl⟩
    have HFF := Lib.hid hf
    rw [HV.out, hf] at HYES
    have HD2 := Lib.hid (HM2.out.below (Below.refl _ _).drew)
    have HBE : Hid (Below base w W2.drew) := Lib.hid HB2.out.drew
    have HFE : Hid (adS m L X = L) := Lib.hid (by unfold adS; rw [if_pos HR.out])
    clear hr hr' hf
    obtain ⟨z, hz, hlk⟩ := look11 (w := W2.drew) HO.out V true HYES.out.1 (f : Int) (fun _ => HYES.out.2)
    obtain rfl := hz rfl
    go_region_held_law (fun w' => w'.cell? ⟨h, 1, none⟩ = some (.map (some mb)) ∧ w'.rangeAt g 0 (kyl V)) (first | exact HS.out _ (Below.refl _ _) | exact HS.out _ (Below.refl _ _).drew) (fail)
    clear hlk h0
    go_wp2_with fail
    go_returns
    refine ⟨by rw [HFF.out] <;> rfl, ?_, HBE.out⟩
    rw [HFE.out]
    exact ⟨_, _, _, HD2.out⟩
end Go.Proofs.Ytepegohopgnmnaa
