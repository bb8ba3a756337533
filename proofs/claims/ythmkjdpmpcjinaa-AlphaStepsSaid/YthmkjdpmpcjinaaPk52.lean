/-
  The walk of the law AlphaSteps, over whatever Classes, Firsts, Join, Right and Step are that do as the page says.
-/
import Derived.Test.YthmkjdpmpcjinaaPk48
import Derived.BigQuiet
import Derived.Deep.QuietTactic
namespace Go.Proofs.Ythmkjdpmpcjinaa
open Go.RowKit

theorem alk_ends {S : Nat → Sd} {m : Nat} : isH (alk S m) 0 = true ∧ isH (alk S m) 256 = true ∧ isH (alk S m) 257 = true ∧ isH (alk S m) 258 = true := by
  have key : ∀ x, 255 < x → isH (alk S m) x = true := fun x hx => by
    unfold isH
    rw [beq_iff_eq]
    refine hdA_self fun j hj => ?_
    cases e : alk S m j x with
    | false => rfl
    | true =>
      rcases alk_iff.1 e with h | h
      · omega
      · omega
  refine ⟨?_, key _ (by decide), key _ (by decide), key _ (by decide)⟩
  unfold isH
  rw [beq_iff_eq]
  exact hdA_self fun j hj => absurd hj (Nat.not_lt_zero _)
theorem alk_four (S : Nat → Sd) (m : Nat) : 4 ≤ cntT (isH (alk S m)) 259 := by
  obtain ⟨h0, h1, h2, h3⟩ := alk_ends (S := S) (m := m)
  have a := cntT_lt (T := isH (alk S m)) (a := 0) (b := 256) (by decide) h0
  have b := cntT_lt (T := isH (alk S m)) (a := 256) (b := 257) (by decide) h1
  have c := cntT_lt (T := isH (alk S m)) (a := 257) (b := 258) (by decide) h2
  have d := cntT_lt (T := isH (alk S m)) (a := 258) (b := 259) (by decide) h3
  omega
theorem alk_parts (S : Nat → Sd) (m : Nat) : clA (alk S m) 256 ≠ clA (alk S m) 257 ∧ clA (alk S m) 257 ≠ clA (alk S m) 258 := by
  refine ⟨fun h => ?_, fun h => ?_⟩
  · rcases alk_iff.1 ((clA_iff (alk_eq S m)).1 h) with h | h <;> omega
  · rcases alk_iff.1 ((clA_iff (alk_eq S m)).1 h) with h | h <;> omega
theorem tld_le {m k : Nat} {P : Nat → Prop} {l : Nat → Int} (h : ∀ T : Nat → Bool, (∀ x, x < m → (T x = true ↔ P x)) → k = cntT T m ∧ ∀ i, i < m → T i = true → l (cntT T i) = i) : k ≤ m := by
  have := (h (fun x => @decide (P x) (Classical.propDecidable _)) fun x _ => by simp).1
  rw [this]; exact cntT_le _ _
theorem tld_iff {m k1 k2 : Nat} {P1 P2 : Nat → Prop} {l1 l2 : Nat → Int} (hP : P1 = P2)
    (h1 : ∀ T : Nat → Bool, (∀ x, x < m → (T x = true ↔ P1 x)) → k1 = cntT T m ∧ ∀ i, i < m → T i = true → l1 (cntT T i) = i)
    (h2 : ∀ T : Nat → Bool, (∀ x, x < m → (T x = true ↔ P2 x)) → k2 = cntT T m ∧ ∀ i, i < m → T i = true → l2 (cntT T i) = i) : true = true ↔ k1 = k2 ∧ ∀ j, j < k1 → l1 j = l2 j :=
  ⟨fun _ => tld_one (R := True) (fun h => absurd trivial h) (fun h => absurd trivial h) (fun _ => h1) (fun _ => by rw [hP]; exact h2), fun _ => rfl⟩
theorem le_100000 {k m : Nat} (h : k ≤ m) (hm : m ≤ 60) : k ≤ 100000 := by omega
theorem rdL.two9 {w : World} {p : Option Addr} {n : Nat} {l : Nat → Int} (h : rdL w p n l) {i k : Nat} (hi : i < n) (hk : k < n) : ∃ b o, p = some ⟨b, o, none⟩ ∧ b < w.heap.size ∧ w.cell? ⟨b, o + i, none⟩ = some (.int .i64 (l i)) ∧ w.cell? ⟨b, o + k, none⟩ = some (.int .i64 (l k)) := by
  obtain ⟨b, o, rfl, h1, h2⟩ := h i hi
  obtain ⟨b', o', e, _, h3⟩ := h k hk
  cases e
  exact ⟨b, o, rfl, h1, h2, h3⟩
def is2b (w : World) (b : Nat) (x y : Int) : Prop := w.heap[b]? = some (.cells #[.int .u8 x, .int .u8 y] 34 (0, 0))
theorem is2b.lt {w : World} {b : Nat} {x y : Int} (h : is2b w b x y) : b < w.heap.size := lt_of_block h
theorem is2b.cells {w : World} {b : Nat} {x y : Int} (h : is2b w b x y) : w.cell? ⟨b, 0, none⟩ = some (.int .u8 x) ∧ w.cell? ⟨b, 1, none⟩ = some (.int .u8 y) := by
  unfold is2b at h
  refine ⟨?_, ?_⟩ <;> simp [World.cell?, h]

set_option maxRecDepth 100000 in
set_option maxHeartbeats 8000000 in
theorem steps_any (hC : ClsC) (hJ : JoiC) (hF : FrsC) (hR : RgtC) (hSt : StpC) (p : Option Addr) (n cap k : Nat) (hk : k = min n 60) (hcap : n ≤ cap) (S : Nat → Sd) (st fin : Int) (q : Option Addr) (nf cf kf : Nat) (hkf : kf = min nf 20) (hcf : nf ≤ cf) (l : Nat → Int) (x y : Nat) (hx : x < 256) (hy : y < 256) (w : World)
    (hS : stsAt w p k S) (hw : ∀ q, q < k → okWs (S q)) (hl : rdL w q kf l) :
    Calls Try.prog 5 #[nfV p n cap st fin, .slice q nf cf, .agg #[.int .u8 (x : Int), .int .u8 (y : Int)]] w fun e w' => e = .returned (.bool true) ∧ Below w.heap.size w w' := by
  have HAw := Lib.hid (awake10 hJ hF)
  obtain ⟨wa, hwa⟩ : ∃ wa, w.alloc (.cells #[.slice p n cap, .int .i64 st, .int .i64 fin] 24) = wa := ⟨_, rfl⟩
  obtain ⟨w0, hw0⟩ : ∃ w0, wa.alloc (.cells #[.int .u8 (x : Int), .int .u8 (y : Int)] 34) = w0 := ⟨_, rfl⟩
  obtain ⟨g, hg⟩ : ∃ g, w.heap.size = g := ⟨_, rfl⟩
  have hza : wa.heap.size = g + 1 := by rw [← hwa, World.size_alloc, hg]
  have hba : Below w.heap.size w wa := hwa ▸ (Below.refl _ _).alloc (Nat.le_refl _) _
  have hb0 : Below w.heap.size w w0 := hw0 ▸ hba.alloc (by omega) _
  have hna : is3 24 wa g (.slice p n cap) st fin := hg ▸ hwa ▸ is3.new _ _ _ _ _
  have hn0 : is3 24 w0 g (.slice p n cap) st fin := hw0 ▸ (Below.heap_alloc wa _ _ hna.lt).trans hna
  have h20 : is2b w0 (g + 1) (x : Int) (y : Int) := by rw [← hw0, ← hza]; exact heap_alloc_new wa _
  have HB0 := Lib.hid hb0; have HN0 := Lib.hid hn0; have H20 := Lib.hid h20
  have HW0 : Hid ((w.alloc (.cells #[.slice p n cap, .int .i64 st, .int .i64 fin] 24)).alloc (.cells #[.int .u8 (x : Int), .int .u8 (y : Int)] 34) = w0) := Lib.hid (by rw [hwa, hw0])
  have HSW := Lib.hid hS; have HOK := Lib.hid hw; have HCl := Lib.hid hC; have HLW := Lib.hid hl; have HRt := Lib.hid hR; have HSt := Lib.hid hSt
  have HG := Lib.hid hg
  have h1 : (if (60 : Int) < (n : Int) then (60 : Int) else (n : Int)) = (k : Int) := by split <;> omega
  have h2 : (if (20 : Int) < (nf : Int) then (20 : Int) else (nf : Int)) = (kf : Int) := by split <;> omega
  have e1 : min (n : Int) 60 = (k : Int) := by omega
  have e2 : min (nf : Int) 20 = (kf : Int) := by omega
  have H1 := Lib.hid h1; have H2 := Lib.hid h2
  have k0 : (0 : Int) ≤ (k : Int) := by omega
  have k1 : (k : Int) ≤ (cap : Int) := by omega
  have m0 : (0 : Int) ≤ (kf : Int) := by omega
  have m1 : (kf : Int) ≤ (cf : Int) := by omega
  have hk60 : k ≤ 60 := by omega
  have hk20 : kf ≤ 20 := by omega
  clear hC hJ hF hR hSt hS hw hl hb0 hn0 hw0 h20 hna hba hza hwa h1 h2 hk hkf
  go_enter Try.func5, Try.ntmps5
  go_upto_region 1 with (fail)
  rw [HW0.out]
  clear hg HW0
  go_wp2_with fail
  refine (HAw.out _).mono ?_
  rintro e w1 ⟨rfl, hb⟩
  have HB1 := Lib.hid (HB0.out.trans (hb.mono HB0.out.size))
  have HN1 := Lib.hid (HN0.out.below hb HN0.out.lt)
  have H21 : Hid (is2b w1 (g + 1) (x : Int) (y : Int)) := Lib.hid ((hb.block _ H20.out.lt).trans H20.out)
  clear hb HAw HN0 HB0 H20
  obtain ⟨n0, n1, n2⟩ := HN1.out.cells
  obtain ⟨f0, -, -⟩ := HN1.out.free
  go_upto_region 4 with (refine wpList_plain rfl fun _ hK => wp_min9 _ _ rfl (n : Int) 60 (k : Int) rfl rfl H1.out (hK _ _ ?_))
  obtain ⟨W, hW⟩ : ∃ W, w1.setCell ⟨g, 0, none⟩ (.slice p k cap) = W := ⟨_, rfl⟩
  have HN2 : Hid (is3 24 W g (.slice p k cap) st fin) := Lib.hid (hW ▸ HN1.out.put10 _)
  have HB2 : Hid (Below w.heap.size w W) := Lib.hid (hW ▸ HB1.out.setCell (p := ⟨g, 0, none⟩) (by show w.heap.size ≤ g; have := HG.out; omega) _)
  have H22 : Hid (is2b W (g + 1) (x : Int) (y : Int)) := Lib.hid (hW ▸ ((grown_setCell w1 g 0 (.slice p k cap)).block _ H21.out.lt (by simp)).trans H21.out)
  rw [hW]
  clear n0 n1 n2 f0 hW HN1 HB1 H21
  go_upto_region 5 with (refine wpList_plain rfl fun _ hK => wp_min9 _ _ rfl (nf : Int) 20 (kf : Int) rfl rfl H2.out (hK _ _ ?_))
  obtain ⟨n0, n1, n2⟩ := HN2.out.cells
  have nl := HN2.out.lt
  have HCC := Lib.hid (HCl.out p k cap S st fin W (by omega) (sts10 HSW.out HB2.out) HOK.out)
  go_wp2_with fail
  refine HCC.out.mono ?_
  rintro e w3 ⟨hyes, hno⟩
  by_cases hr : rightP S k st fin
  · obtain ⟨qc, cc, lc, rfl, hlc, hv, hb⟩ := hyes hr
    have HRI := Lib.hid hr
    have HB3 := Lib.hid (HB2.out.trans (hb.mono HB2.out.size))
    have HN3 := Lib.hid (HN2.out.below hb HN2.out.lt)
    have H23 : Hid (is2b w3 (g + 1) (x : Int) (y : Int)) := Lib.hid ((hb.block _ H22.out.lt).trans H22.out)
    have h4 := alk_four S k
    obtain ⟨p1, p2⟩ := alk_parts S k
    have hxy := clA_iff (alk_eq S k) (x := x) (y := y)
    obtain ⟨ct, hct⟩ : ∃ ct, cntT (isH (alk S k)) 259 = ct := ⟨_, rfl⟩
    rw [hct] at h4 ⊢
    have ct0 : ((ct : Int) == 0) = false := beq_eq_false_iff_ne.2 (by omega)
    have ct1 : (ct == 0) = false := beq_eq_false_iff_ne.2 (by omega)
    have ct4 : decide ((ct : Int) < 4) = false := decide_eq_false (by omega)
    have ct5 : decide (ct < 4) = false := decide_eq_false (by omega)
    obtain ⟨cb, co, rfl, hcb, hc6, hc7⟩ := hlc.two9 (i := 256) (k := 257) (by decide) (by decide)
    obtain ⟨cb', co', ec, -, hcx, hcy⟩ := hlc.two9 (i := x) (k := y) (by omega) (by omega)
    cases ec
    obtain ⟨cb', co', ec, -, hc8, -⟩ := hlc.two9 (i := 258) (k := 258) (by decide) (by decide)
    cases ec
    rw [hv _ (by decide)] at hc6 hc7 hc8
    rw [hv _ (by omega)] at hcx hcy
    simp only at hc6 hc7 hc8 hcx hcy
    have q1 : (((clA (alk S k) 256 : Nat) : Int) == ((clA (alk S k) 257 : Nat) : Int)) = false := beq_eq_false_iff_ne.2 (by omega)
    have q2 : (((clA (alk S k) 257 : Nat) : Int) == ((clA (alk S k) 258 : Nat) : Int)) = false := beq_eq_false_iff_ne.2 (by omega)
    obtain ⟨c6, h6⟩ : ∃ c6, ((clA (alk S k) 256 : Nat) : Int) = c6 := ⟨_, rfl⟩
    obtain ⟨c7, h7⟩ : ∃ c7, ((clA (alk S k) 257 : Nat) : Int) = c7 := ⟨_, rfl⟩
    obtain ⟨c8, h8⟩ : ∃ c8, ((clA (alk S k) 258 : Nat) : Int) = c8 := ⟨_, rfl⟩
    obtain ⟨ex, hex⟩ : ∃ ex, clA (alk S k) x = ex := ⟨_, rfl⟩
    obtain ⟨ey, hey⟩ : ∃ ey, clA (alk S k) y = ey := ⟨_, rfl⟩
    rw [h6] at hc6 q1; rw [h7] at hc7 q1 q2; rw [h8] at hc8 q2; rw [hex] at hcx hxy; rw [hey] at hcy hxy
    have HXY := Lib.hid hxy
    obtain ⟨b0, b1⟩ := H23.out.cells
    have bl := H23.out.lt
    have x0 : (0 : Int) ≤ (x : Int) := by omega
    have x1 : (x : Int) < 259 := by omega
    have y0 : (0 : Int) ≤ (y : Int) := by omega
    have y1 : (y : Int) < 259 := by omega
    clear hyes hno hr hv hb hlc h4 p1 p2 hxy hct h6 h7 h8 hex hey n0 n1 n2 nl HN2 HB2 HCC H22
    have HCX : Hid (∀ w', Below w3.heap.size w3 w' → (w'.cell? ⟨g, 0, none⟩ = some (.slice p k cap) ∧ w'.cell? ⟨g, 1, none⟩ = some (.int .i64 st) ∧ w'.cell? ⟨g, 2, none⟩ = some (.int .i64 fin) ∧ w'.cell? ⟨cb, co + x, none⟩ = some (.int .i64 (ex : Int)) ∧ w'.cell? ⟨cb, co + y, none⟩ = some (.int .i64 (ey : Int)))) := Lib.hid fun w' h => by
      obtain ⟨t0, t1, t2⟩ := (HN3.out.below h HN3.out.lt).cells
      exact ⟨t0, t1, t2, by rw [h.cell (p := ⟨cb, co + x, none⟩) hcb, hcx], by rw [h.cell (p := ⟨cb, co + y, none⟩) hcb, hcy]⟩
    have HSC : Hid (∀ (z : Nat), z < 256 → ∀ w', Below w3.heap.size w3 w' → Calls Try.prog 16 #[nfV p k cap st fin, .slice q kf cf, .int .u8 (z : Int)] w' (tldPost (rightP S k st fin) k (Cl S 0 (By S z (nmd k kf l))) w')) := Lib.hid fun z hz w' hb => HSt.out p k cap S st fin z q kf cf l w' (by omega) (by omega) hz (sts10 HSW.out (HB3.out.trans (hb.mono HB3.out.size))) HOK.out (HLW.out.below (HB3.out.trans (hb.mono HB3.out.size)))
    have nl := HN3.out.lt
    have bxl : x < 259 := by omega
    have byl : y < 259 := by omega
    clear HSt HCl HRt HSW HOK HLW
    go_wp2_with fail
    go_quiet (fail)
    obtain ⟨n5, rfl⟩ : ∃ n5, n5 = nq := ⟨_, rfl⟩
    go_wp2_with fail
    clear hc6 hc7 hc8 q1 q2
    go_quiet (fail)
    go_wp2_with fail
    have hB : Below w3.heap.size w3 ((w3.drewN n5).drewN nq) := below_drewN nq (below_drewN n5 (Below.refl _ _))
    obtain ⟨w5, hw5⟩ : ∃ w5, (w3.drewN n5).drewN nq = w5 := ⟨_, rfl⟩
    rw [hw5] at hB ⊢
    clear hw5 b0 b1 bl hcx hcy ct0 ct1 ct4 ct5 e1 e2
    by_cases hexy : ex = ey
    · subst hexy
      have hd : ((ex : Int) != (ex : Int)) = false := by simp
      have HPP : Hid (Cl S 0 (By S x (nmd k kf l)) = Cl S 0 (By S y (nmd k kf l))) := Lib.hid (by rw [By_alike (HXY.out.1 rfl)])
      have HSx := Lib.hid (fun w' h => HSC.out x hx w' h)
      have HSy := Lib.hid (fun w' h => HSC.out y hy w' h)
      have cl' : cb < w5.heap.size := Nat.lt_of_lt_of_le hcb hB.size
      have hs0 := HCX.out _ hB
      clear HSC hcb nl
      go_region_held_law (fun w' => w'.cell? ⟨g, 0, none⟩ = some (.slice p k cap) ∧ w'.cell? ⟨g, 1, none⟩ = some (.int .i64 st) ∧ w'.cell? ⟨g, 2, none⟩ = some (.int .i64 fin) ∧ w'.cell? ⟨cb, co + x, none⟩ = some (.int .i64 (ex : Int)) ∧ w'.cell? ⟨cb, co + y, none⟩ = some (.int .i64 (ex : Int)))
        (first | with_reducible exact HCX.out _ hB | with_reducible exact HCX.out _ hB.drew)
        (first
          | (go_at_call 16; (with_reducible refine (HSx.out _ hB).mono ?_); rintro e wk ⟨qa, na, ca, la, rfl, hla, hb, hza, hra⟩; have HLa := Lib.hid hla; have HLb2 := Lib.hid (HLb.out.below hb); clear HLb; have HLb := HLb2; clear HLb2; have HRa := Lib.hid (hra HRI.out); (replace hB := hB.trans (hb.mono hB.size)); clear hb hla hza hra)
          | (go_at_call 16; (with_reducible refine (HSy.out _ hB).mono ?_); rintro e wk ⟨qb, nb, cb2, lb, rfl, hlb, hb, hzb, hrb⟩; have HLb := Lib.hid hlb; have HLa2 := Lib.hid (HLa.out.below hb); clear HLa; have HLa := HLa2; clear HLa2; have HRb := Lib.hid (hrb HRI.out); (replace hB := hB.trans (hb.mono hB.size)); clear hb hlb hzb hrb)
          | (go_at_call 16; (with_reducible refine (HSx.out _ hB.drew).mono ?_); rintro e wk ⟨qa, na, ca, la, rfl, hla, hb, hza, hra⟩; have HLa := Lib.hid hla; have HRa := Lib.hid (hra HRI.out); (replace hB := hB.drew.trans (hb.mono hB.drew.size)); clear hb hla hza hra)
          | (go_at_call 16; (with_reducible refine (HSy.out _ hB.drew).mono ?_); rintro e wk ⟨qb, nb, cb2, lb, rfl, hlb, hb, hzb, hrb⟩; have HLb := Lib.hid hlb; have HRb := Lib.hid (hrb HRI.out); (replace hB := hB.drew.trans (hb.mono hB.drew.size)); clear hb hlb hzb hrb)
          | (go_at_call 10; (with_reducible refine (same10 _ _ _ _ _ _ _ _ true (tld_iff HPP.out HRa.out HRb.out) (le_100000 (tld_le HRa.out) hk60) (le_100000 (tld_le HRb.out) hk60) _ HLa.out HLb.out).mono ?_); rintro e wz ⟨rfl, hb⟩; (replace hB := hB.trans (hb.mono hB.size)); clear hb))
      all_goals
        have HBf := Lib.hid (HB3.out.trans (hB.mono HB3.out.size))
        clear hB
        go_wp2_with fail
        go_returns
        exact ⟨rfl, HBf.out⟩
    · have hd : ((ex : Int) != (ey : Int)) = true := by simp; omega
      have hd2 : (ex != ey) = true := by simpa using hexy
      obtain ⟨t0, t1, t2, t3, t4⟩ := HCX.out _ hB
      have cl' : cb < w5.heap.size := Nat.lt_of_lt_of_le hcb hB.size
      have hB0 := Lib.hid hB
      clear hB hexy HCX HSC
      go_quiet (fail)
      have HBf := Lib.hid (HB3.out.trans ((below_drewN nq hB0.out).mono HB3.out.size))
      go_wp2_with fail
      go_returns
      exact ⟨rfl, HBf.out⟩
  · obtain ⟨qc, cc, lc, rfl, hlc, hv, hb⟩ := hno hr
    have HB3 := Lib.hid (HB2.out.trans (hb.mono HB2.out.size))
    have HN3 := Lib.hid (HN2.out.below hb HN2.out.lt)
    have hrr := HRt.out p k cap S st fin w3 (by omega) (sts10 HSW.out HB3.out)
    rw [decide_eq_false hr] at hrr
    have HRc := Lib.hid hrr
    clear hyes hno hr hlc hv hb hrr n0 n1 n2 HN2 HB2 HCC
    obtain ⟨n0, n1, n2⟩ := HN3.out.cells
    go_wp2_with fail
    refine HRc.out.mono ?_
    rintro e w4 ⟨rfl, hb⟩
    have HB4 := Lib.hid (HB3.out.trans (hb.mono HB3.out.size))
    clear hb HRc HN3 HB3 n0 n1 n2
    go_wp2_with fail
    go_returns
    exact ⟨rfl, HB4.out⟩
end Go.Proofs.Ythmkjdpmpcjinaa
