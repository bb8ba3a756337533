/-
  The walk of the law NfaSteps, over whatever Build, Right, Close, Step and Fits are that do as the page says.
  Arguments opened: a slice of numbers; an array of two.
-/
import Derived.Test.YtdhplphgackjaaaPk49
import Derived.Test.YtdhplphgackjaaaPk20
import Derived.Test.YtdhplphgackjaaaPk48
namespace Go.Proofs.Ytdhplphgackjaaa
open Go.RowKit

theorem pT_nmd {m n : Nat} {l : Nat → Int} : pT m (inL m l n) = nmd m n l := by
  funext q
  refine propext ⟨fun h => ⟨h.1, (inL_iff h.1).1 h.2⟩, fun h => ⟨h.1, (inL_iff h.1).2 h.2⟩⟩
theorem up_close {S : Nat → Sd} {m n : Nat} {l : Nat → Int} {sym : Int} (hr : rng S m) (x : Nat) (hx : x < m) : upN S sym m (inL m l n) m x = true ↔ Cl S sym (nmd m n l) x := by
  have h := congrFun (pT_up (sym := sym) (T := inL m l n) hr) x
  rw [pT_nmd] at h
  rw [← h]
  exact ⟨fun g => ⟨hx, g⟩, fun g => g.2⟩
theorem up_step {S : Nat → Sd} {m n : Nat} {l : Nat → Int} {y : Nat} (hr : rng S m) (x : Nat) (hx : x < m) : upN S 0 m (stR S y (inL m l n) m) m x = true ↔ Cl S 0 (By S y (nmd m n l)) x := by
  have h := congrFun (pT_up (sym := 0) (T := stR S y (inL m l n) m) hr) x
  rw [pT_st hr, pT_nmd] at h
  rw [← h]
  exact ⟨fun g => ⟨hx, g⟩, fun g => g.2⟩
set_option maxRecDepth 100000 in
set_option maxHeartbeats 4000000 in
theorem steps9_any (hB : BldC) (hR : RgtC) (hC : CloC) (hSt : StpC) (hF : FitC) (p : Option Addr) (n cap k : Nat) (hk : k = min n 40) (hcap : n ≤ cap) (S : Nat → Sd) (st fin : Int) (q : Option Addr) (nf cf kf : Nat) (hkf : kf = min nf 20) (hcf : nf ≤ cf) (l : Nat → Int) (sym : Int) (w : World)
    (hS : stsAt w p k S) (hw : ∀ q, q < k → okWs (S q)) (hl : rdL w q kf l) :
    Calls Try.prog 5 #[nfV p n cap st fin, .slice q nf cf, .int .i64 sym] w fun e w' => e = .returned (.bool true) ∧ Below w.heap.size w w' := by
  have HAw := Lib.hid (awake9_any hB hR hF)
  obtain ⟨w0, hw0⟩ : ∃ w0, w.alloc (.cells #[.slice p n cap, .int .i64 st, .int .i64 fin] 26) = w0 := ⟨_, rfl⟩
  have hb0 : Below w.heap.size w w0 := hw0 ▸ (Below.refl _ _).alloc (Nat.le_refl _) _
  have hn0 : is3 26 w0 w.heap.size (.slice p n cap) st fin := hw0 ▸ is3.new _ _ _ _ _
  obtain ⟨y, hy, hy2⟩ : ∃ y : Nat, IntKind.u8.wrap sym = (y : Int) ∧ y < 256 := ⟨(IntKind.u8.wrap sym).toNat, by
    have : IntKind.u8.wrap sym = sym % 256 := by simp [IntKind.wrap, IntKind.signed, IntKind.bits]
    rw [this]; omega, by
    have : IntKind.u8.wrap sym = sym % 256 := by simp [IntKind.wrap, IntKind.signed, IntKind.bits]
    rw [this]; omega⟩
  have HB0 := Lib.hid hb0; have HN0 := Lib.hid hn0; have HW0 := Lib.hid hw0
  have HSW := Lib.hid hS; have HOK := Lib.hid hw; have HCt := Lib.hid hC; have HSt := Lib.hid hSt; have HRt := Lib.hid hR; have HLW := Lib.hid hl
  have h1 : (if (40 : Int) < (n : Int) then (40 : Int) else (n : Int)) = (k : Int) := by split <;> omega
  have h2 : (if (20 : Int) < (nf : Int) then (20 : Int) else (nf : Int)) = (kf : Int) := by split <;> omega
  have e1 : min (n : Int) 40 = (k : Int) := by omega
  have e2 : min (nf : Int) 20 = (kf : Int) := by omega
  have H1 := Lib.hid h1
  have H2 := Lib.hid h2
  have k0 : (0 : Int) ≤ (k : Int) := by omega
  have k1 : (k : Int) ≤ (cap : Int) := by omega
  have m0 : (0 : Int) ≤ (kf : Int) := by omega
  have m1 : (kf : Int) ≤ (cf : Int) := by omega
  have hk40 : k ≤ 40 := by omega
  have hk20 : kf ≤ 20 := by omega
  clear hB hR hF hC hSt hS hw hb0 hn0 hw0 h1 h2 hk hkf hl
  go_enter Try.func5, Try.ntmps5
  go_upto_region 1 with (fail)
  rw [HW0.out]
  go_wp2_with fail
  refine (HAw.out _).mono ?_
  rintro e w1 ⟨rfl, hb⟩
  have HB1 := Lib.hid (HB0.out.trans (hb.mono HB0.out.size))
  have HN1 := Lib.hid (HN0.out.below hb HN0.out.lt)
  clear hb HAw HN0 HB0 HW0
  obtain ⟨n0, n1, n2⟩ := HN1.out.cells
  obtain ⟨f0, -, -⟩ := HN1.out.free
  go_upto_region 4 with (refine wpList_plain rfl fun _ hK => wp_min9 _ _ rfl (n : Int) 40 (k : Int) rfl rfl H1.out (hK _ _ ?_))
  obtain ⟨W, hW⟩ : ∃ W, w1.setCell ⟨w.heap.size, 0, none⟩ (.slice p k cap) = W := ⟨_, rfl⟩
  have HN2 : Hid (is3 26 W w.heap.size (.slice p k cap) st fin) := Lib.hid (hW ▸ HN1.out.put0 _)
  have HB2 : Hid (Below w.heap.size w W) := Lib.hid (hW ▸ HB1.out.setCell (p := ⟨w.heap.size, 0, none⟩) (Nat.le_refl _) _)
  rw [hW]
  clear n0 n1 n2 f0 hW HN1 HB1
  have HS2 := Lib.hid (sts_below HSW.out HB2.out)
  have HL2 := Lib.hid (HLW.out.below HB2.out)
  have HCc : Hid (∀ w', Below W.heap.size W w' → Calls Try.prog 17 #[nfV p k cap st fin, .slice q kf cf, .int .i64 sym] w' (tldPost (rightP S k st fin) k (Cl S sym (nmd k kf l)) w')) := Lib.hid fun w' hb => HCt.out p k cap S st fin sym q kf cf l w' (by omega) (by omega) (sts_below HS2.out hb) HOK.out (HL2.out.below hb)
  have HSc : Hid (∀ w', Below W.heap.size W w' → Calls Try.prog 18 #[nfV p k cap st fin, .slice q kf cf, .int .u8 (y : Int)] w' (tldPost (rightP S k st fin) k (Cl S 0 (By S y (nmd k kf l))) w')) := Lib.hid fun w' hb => HSt.out p k cap S st fin y q kf cf l w' (by omega) (by omega) hy2 (sts_below HS2.out hb) HOK.out (HL2.out.below hb)
  have HKN : Hid (∀ w', Below W.heap.size W w' → (w'.cell? ⟨w.heap.size, 0, none⟩ = some (.slice p k cap) ∧ w'.cell? ⟨w.heap.size, 1, none⟩ = some (.int .i64 st) ∧ w'.cell? ⟨w.heap.size, 2, none⟩ = some (.int .i64 fin))) := Lib.hid fun w' hb => (HN2.out.below hb HN2.out.lt).cells
  have hB : Below W.heap.size W W.drew := (Below.refl _ _).drew
  clear HCt HSt
  go_upto_region 5 with (refine wpList_plain rfl fun _ hK => wp_min9 _ _ rfl (nf : Int) 20 (kf : Int) rfl rfl H2.out (hK _ _ ?_))
  go_region_held_law (fun w' => w'.cell? ⟨w.heap.size, 0, none⟩ = some (.slice p k cap) ∧ w'.cell? ⟨w.heap.size, 1, none⟩ = some (.int .i64 st) ∧ w'.cell? ⟨w.heap.size, 2, none⟩ = some (.int .i64 fin))
    (exact HKN.out _ hB)
    (first
      | (go_at_call 17; (with_reducible refine (HCc.out _ hB).mono ?_); rintro e wk ⟨qa, ka, ca, la, rfl, hla, hb, hza, hra⟩; have HLa := Lib.hid hla; have HLb2 := Lib.hid (HLb.out.below hb); clear HLb; have HLb := HLb2; clear HLb2; have HZa := Lib.hid hza; have HRa := Lib.hid hra; (replace hB := hB.trans (hb.mono hB.size)); clear hb hla hza hra)
      | (go_at_call 18; (with_reducible refine (HSc.out _ hB).mono ?_); rintro e wk ⟨qb, kb, cb, lb, rfl, hlb, hb, hzb, hrb⟩; have HLb := Lib.hid hlb; have HLa2 := Lib.hid (HLa.out.below hb); clear HLa; have HLa := HLa2; clear HLa2; have HZb := Lib.hid hzb; have HRb := Lib.hid hrb; (replace hB := hB.trans (hb.mono hB.size)); clear hb hlb hzb hrb)
      | (go_at_call 17; (with_reducible refine (HCc.out _ hB).mono ?_); rintro e wk ⟨qa, ka, ca, la, rfl, hla, hb, hza, hra⟩; have HLa := Lib.hid hla; have HZa := Lib.hid hza; have HRa := Lib.hid hra; (replace hB := hB.trans (hb.mono hB.size)); clear hb hla hza hra)
      | (go_at_call 18; (with_reducible refine (HSc.out _ hB).mono ?_); rintro e wk ⟨qb, kb, cb, lb, rfl, hlb, hb, hzb, hrb⟩; have HLb := Lib.hid hlb; have HZb := Lib.hid hzb; have HRb := Lib.hid hrb; (replace hB := hB.trans (hb.mono hB.size)); clear hb hlb hzb hrb))
  all_goals
    rename_i hHeld
    clear hHeld
    generalize wk = W3 at *
    have HBe := Lib.hid (HB2.out.trans (hB.mono HB2.out.size))
    have HN3 := Lib.hid (HN2.out.below hB HN2.out.lt)
    have HRc := Lib.hid (rright9_is p k cap S st fin (by omega) W3 HSW.out.1 (fun b off e => (sts_below HSW.out HBe.out).2 b off e))
    have hy3 : IntKind.i64.wrap (y : Int) = (y : Int) := by rw [IntKind.wrap_i64]; omega
    clear hB HKN HCc HSc HN2 HB2 HS2 HL2
    obtain ⟨n0, n1, n2⟩ := HN3.out.cells
    go_wp2_with fail
    refine HRc.out.mono ?_
    rintro e w4 ⟨rfl, hb⟩
    have HB4 := Lib.hid (HBe.out.trans (hb.mono HBe.out.size))
    have HN4 := Lib.hid (HN3.out.below hb HN3.out.lt)
    have HLa4 := Lib.hid (HLa.out.below hb); have HLb4 := Lib.hid (HLb.out.below hb)
    clear hb HRc HN3 HBe n0 n1 n2 HLa HLb
    obtain ⟨n0, n1, n2⟩ := HN4.out.cells
    by_cases hbad : rightP S k st fin
    · rw [decide_eq_true hbad]
      have HRI := Lib.hid hbad
      obtain ⟨⟨r1, r2, -⟩, -⟩ := hbad
      obtain ⟨b, off, rfl⟩ : ∃ b off, p = some ⟨b, off, none⟩ := by
        rcases HSW.out.1 with h | h
        · omega
        · exact h
      have HOc := Lib.hid (rof9_is b off k cap st fin (by omega) (by omega) q kf cf l (by omega) w4 (HLW.out.below HB4.out))
      have HT1 := Lib.hid (HRa.out HRI.out _ (fun x hx => up_close (right_rng HRI.out) x hx))
      have HT2 := Lib.hid (HRb.out HRI.out _ (fun x hx => up_step (right_rng HRI.out) x hx))
      clear HRa HRb HZa HZb
      go_wp2_with fail
      refine HOc.out.mono ?_
      rintro e w5 ⟨G, rfl, ho, hb⟩
      have HB5 := Lib.hid (HB4.out.trans (hb.mono HB4.out.size))
      have HN5 := Lib.hid (HN4.out.below hb HN4.out.lt)
      have HLa5 := Lib.hid (HLa4.out.below hb); have HLb5 := Lib.hid (HLb4.out.below hb)
      have HO5 := Lib.hid (ho.rd)
      have HR5 := Lib.hid (HRt.out (some ⟨b, off, none⟩) k cap S st fin w5 (by omega) (sts_below HSW.out HB5.out))
      rw [decide_eq_true HRI.out] at HR5
      clear hb ho HOc HN4 HB4 n0 n1 n2 HLa4 HLb4 HRt
      obtain ⟨n0, n1, n2⟩ := HN5.out.cells
      go_wp2_with fail
      refine HR5.out.mono ?_
      rintro e w6 ⟨rfl, hb⟩
      have HB6 := Lib.hid (HB5.out.trans (hb.mono HB5.out.size))
      have HN6 := Lib.hid (HN5.out.below hb HN5.out.lt)
      have HLa6 := Lib.hid (HLa5.out.below hb); have HLb6 := Lib.hid (HLb5.out.below hb)
      have HO6 := Lib.hid (HO5.out.below hb)
      have HC6 := Lib.hid (rcl_is b off k cap G k S (inL k l kf) st fin sym (by omega) (by omega) (right_rng HRI.out) w6 ((HSW.out.2 b off rfl).below HB6.out) HO6.out)
      clear hb HR5 HN5 HB5 n0 n1 n2 HLa5 HLb5 HO5
      obtain ⟨n0, n1, n2⟩ := HN6.out.cells
      go_wp2_with fail
      refine HC6.out.mono ?_
      rintro e w7 ⟨G1, C1, rfl, hbl, hb⟩
      have HB7 := Lib.hid (HB6.out.trans (hb.mono HB6.out.size))
      have HN7 := Lib.hid (HN6.out.below hb HN6.out.lt)
      have HLb7 := Lib.hid (HLb6.out.below hb)
      have HO7 := Lib.hid (HO6.out.below hb)
      have HTa := Lib.hid (told9_is qa ka ca la G1 C1 k _ (by omega) HT1.out.1 HT1.out.2 w7 (HLa6.out.below hb) hbl.rd)
      have HS7 := Lib.hid (rst_is b off k cap G k S (inL k l kf) st fin y hy2 (by omega) (by omega) (right_rng HRI.out) HOK.out w7 ((HSW.out.2 b off rfl).below HB7.out) HO7.out)
      clear hb hbl HC6 HN6 HB6 n0 n1 n2 HLa6 HLb6 HO6 HT1
      obtain ⟨n0, n1, n2⟩ := HN7.out.cells
      go_wp2_with fail
      refine HTa.out.mono ?_
      rintro e w8 ⟨rfl, rfl⟩
      go_wp2_with fail
      refine HS7.out.mono ?_
      rintro e w9 ⟨G2, C2, rfl, hbl, hb⟩
      have HB9 := Lib.hid (HB7.out.trans (hb.mono HB7.out.size))
      have HTb := Lib.hid (told9_is qb kb cb lb G2 C2 k _ (by omega) HT2.out.1 HT2.out.2 w9 (HLb7.out.below hb) hbl.rd)
      clear hb hbl HS7 HTa HN7 HB7 n0 n1 n2 HLb7 HO7 HT2
      go_wp2_with fail
      refine HTb.out.mono ?_
      rintro e w10 ⟨rfl, rfl⟩
      go_wp2_with fail
      go_returns
      exact ⟨rfl, HB9.out⟩
    · rw [decide_eq_false hbad]
      have hka : ka = 0 := HZa.out hbad
      have hkb : kb = 0 := HZb.out hbad
      have HR5 := Lib.hid (HRt.out p k cap S st fin w4 (by omega) (sts_below HSW.out HB4.out))
      rw [decide_eq_false hbad] at HR5
      subst hka hkb
      clear HRa HRb HZa HZb HRt HLa4 HLb4
      go_wp2_with fail
      refine HR5.out.mono ?_
      rintro e w5 ⟨rfl, hb⟩
      have HB5 := Lib.hid (HB4.out.trans (hb.mono HB4.out.size))
      clear hb
      go_wp2_with fail
      go_returns
      exact ⟨rfl, HB5.out⟩
end Go.Proofs.Ytdhplphgackjaaa

namespace Go.Proofs.Ytdhplphgackjaaa
open Go.ChangeShapes Go.WideShapes Go.ChangeAt Go.RowKit Go.Joins Go.Deep

theorem cellsTwo : Try.prog.cellsOf 50 = 2 := by kernel_rfl
set_option maxRecDepth 100000 in
/-- A slice of numbers: none, at any address; or the numbers that its cells are. -/
theorem open_ints9 {H : Type} {enc : TypeId × Value → H} {W : World} {b0 n : Nat} {sp : Nat → Bool} {hd : Bool} {a0 : Option Addr} {len0 cap0 : Nat} {x : DataW H × List MemPlace}
    (h : DataW.trod enc Try.prog W b0 sp hd n 43 [.slice a0 len0 cap0] = some x) : len0 = 0 ∨ len0 ≤ cap0 ∧ ∃ l, rdL W a0 len0 l := by
  rcases open_slice Try.underlying43 h with ⟨hcs, _⟩ | ⟨a, len, cap, m, n', D, Pl, hcs, _, hl, _, hmm, _, hi⟩
  · simp at hcs
    exact .inl hcs.2.1
  · simp at hcs
    obtain ⟨rfl, rfl, rfl⟩ := hcs
    have hlm : len0 ≤ m := by rw [hmm]; split <;> omega
    rcases Nat.eq_zero_or_pos len0 with h0 | hpos
    · exact .inl h0
    right
    have hall : ∀ i, i < len0 → ∃ y : Int, W.cell? (a.add (i * 1)) = some (.int .i64 y) := fun i him => by
      obtain ⟨cs, hc, ht⟩ := hi i (by omega)
      rw [cellsInt] at hc
      obtain ⟨_, hcl, hat⟩ := World.cells?_some hc
      obtain ⟨y, hy, _, _⟩ := DataW.trod_int Try.underlying3 ht
      have h0 := hat 0 (by decide)
      rw [hy] at h0
      exact ⟨y, by simpa [Addr.add] using h0⟩
    obtain ⟨b, off, spot⟩ := a
    obtain ⟨_, z0⟩ := hall 0 hpos
    have hspot : spot = none := by simpa [Addr.add] using World.cell?_spot z0
    subst hspot
    have hb : b < W.heap.size := by have := World.block_lt_of_cell? W _ z0; simpa [Addr.add] using this
    refine ⟨hl, fun i => if h : i < len0 then (hall i h).choose else 0, fun j hj => ⟨b, off, rfl, hb, ?_⟩⟩
    simp only [dif_pos hj]
    have hs := (hall j hj).choose_spec
    generalize (hall j hj).choose = y at hs
    rw [add_at] at hs
    simpa using hs
set_option maxRecDepth 100000 in
/-- An array of two numbers. -/
theorem open_two {H : Type} {enc : TypeId × Value → H} {W : World} {base b0 : Nat} {sp : Nat → Bool} {hd : Bool} {v : Value} {d : DataW H} {ps : List MemPlace}
    (hok : Value.okWide Try.prog W .any base 50 v) (h : DataW.Trod enc Try.prog W b0 sp hd 50 v d ps) : ∃ i j : Int, v = .agg #[.int .i64 i, .int .i64 j] := by
  obtain ⟨cs, rfl, hsz, _⟩ : ∃ cs, v = .agg cs ∧ cs.size = Try.prog.cellsOf 50 ∧ Row.okWide Try.prog W .any base 50 cs := by
    simpa [Value.okWide, Try.underlying50] using hok
  rw [cellsTwo] at hsz
  obtain ⟨c0, c1, rfl⟩ : ∃ c0 c1, cs = #[c0, c1] := by
    obtain ⟨l⟩ := cs
    match l, hsz with
    | [a, b], _ => exact ⟨a, b, rfl⟩
  obtain ⟨fuel, hf⟩ := h
  change DataW.trod enc Try.prog W b0 sp hd fuel 50 [c0, c1] = some (d, ps) at hf
  obtain ⟨xs, m, _, _, _, hxl, hg⟩ := DataW.trod_array Try.underlying50 hf
  match xs, hxl with
  | [y0, y1], _ =>
    have g0 := hg 0 (by decide)
    have g1 := hg 1 (by decide)
    simp [cellsInt] at g0 g1
    obtain ⟨x0, e0, _, _⟩ := DataW.trod_int Try.underlying3 g0
    obtain ⟨x1, e1, _, _⟩ := DataW.trod_int Try.underlying3 g1
    have e0' : c0 = .int .i64 x0 := by first | exact e0 | simpa using e0
    have e1' : c1 = .int .i64 x1 := by first | exact e1 | simpa using e1
    clear e0 e1
    subst e0' e1'
    exact ⟨x0, x1, rfl⟩
end Go.Proofs.Ytdhplphgackjaaa
