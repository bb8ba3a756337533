/-
  The walks of nfa's Close and Step, and of slices.Contains at numbers.
  The walk of by: where a set goes by a symbol.
  A bool more in a list, as a step of a region that draws its order.
  The walk of having: of each set, whether a state is in it.
  The walk of meet: all sets that are met.
-/
import Derived.Test.YtepegohopgnmnaaPk27
import Derived.Test.YtepegohopgnmnaaPk29
import Derived.Test.YtepegohopgnmnaaPk15
import Derived.Test.YtepegohopgnmnaaPk17
import Derived.Test.YtepegohopgnmnaaPk4
import Derived.Test.YtepegohopgnmnaaPk14
import Derived.Test.YtepegohopgnmnaaPk21
import Derived.Test.YtepegohopgnmnaaPk22
namespace Go.Proofs.Ytepegohopgnmnaa
open Go.RowKit

theorem tld_of {R : Prop} {m : Nat} {P : Nat → Prop} {w : World} {e : Ending} {w' : World} (h : clPost m P w e w') : tldPost R m P w e w' ∨ ¬ R := by
  obtain ⟨p, c, A, rfl, h1, h2, h3, h4, -⟩ := h
  by_cases hR : R
  · refine .inl ⟨p, A.length, c, tlA A m, rfl, h1, h2, fun h => absurd hR h, fun _ T hT => ?_⟩
    have e : ∀ q, q < m → T q = memW A q := fun q hq => by
      have k1 := hT q hq
      have k2 : memW A q = true ↔ P q := by unfold memW; rw [decide_eq_true_eq]; exact h4 q
      cases ha : T q <;> cases hb : memW A q
      · rfl
      · rw [k1.2 (k2.1 hb)] at ha; cases ha
      · rw [k2.2 (k1.1 ha)] at hb; cases hb
      · rfl
    refine ⟨by rw [okA_len h3, cntT_congr e], fun i hi hTi => ?_⟩
    rw [cntT_congr (m := i) (T' := memW A) fun q hq => e q (by omega)]
    have := trs_at (T := memW A) hi (by rw [← e i hi]; exact hTi)
    unfold tlA
    rw [List.getD_eq_getElem?_getD, this]
    rfl
  · exact .inr hR
theorem tld_none {R : Prop} (hR : ¬ R) {m : Nat} {P : Nat → Prop} {w w' : World} (hb : Below w.heap.size w w') : tldPost R m P w (.returned (.slice none 0 0)) w' :=
  ⟨none, 0, 0, fun _ => 0, rfl, fun _ hj => absurd hj (Nat.not_lt_zero _), hb, fun _ => rfl, fun h => absurd h hR⟩

set_option maxRecDepth 100000 in
set_option maxHeartbeats 8000000 in
theorem clo_both (p : Option Addr) (m cap : Nat) (S : Nat → Sd) (st fin sym : Int) (q : Option Addr) (n c : Nat) (l : Nat → Int) (w : World) (hm : m ≤ 600) (hn : n ≤ 1000) (hS : stsAt w p m S) (hl : rdL w q n l) :
    Calls Try.prog 45 #[nfV p m cap st fin, .slice q n c, .int .i64 sym] w fun e w' => (rightP S m st fin → clPost m (Cl S sym (nmd m n l)) w e w') ∧ (¬ rightP S m st fin → e = .returned (.slice none 0 0) ∧ Below w.heap.size w w') := by
  obtain ⟨w1, hw1⟩ : ∃ w1, w.alloc (.cells #[.slice p m cap, .int .i64 st, .int .i64 fin] 24) = w1 := ⟨_, rfl⟩
  have hb1 : Below w.heap.size w w1 := hw1 ▸ (Below.refl _ _).alloc (Nat.le_refl _) _
  have hn1 : is3 24 w1 w.heap.size (.slice p m cap) st fin := hw1 ▸ is3.new 24 w (.slice p m cap) st fin
  have hS1 : stsAt w1 p m S := ⟨hS.1, fun b off h => (hS.2 b off h).below hb1⟩
  have HR := Lib.hid (rgt9_is p m cap S st fin w1 hm hS1)
  have HB1 := Lib.hid hb1
  have HN1 := Lib.hid hn1
  have HS := Lib.hid hS
  have HL := Lib.hid hl
  have HW1 := Lib.hid hw1
  obtain ⟨z0, z1, z2⟩ := hn1.cells
  have zl := hn1.lt
  rw [show (nfV p m cap st fin) = .agg #[.slice p m cap, .int .i64 st, .int .i64 fin] from rfl]
  clear hw1 hb1 hn1 hS1 hS hl
  by_cases hr : rightP S m st fin
  · have HRR := Lib.hid hr
    have hrr := HR.out
    rw [decide_eq_true hr] at hrr
    have HR := Lib.hid hrr
    obtain ⟨b, off, rfl⟩ : ∃ b off, p = some ⟨b, off, none⟩ := by
      rcases HS.out.1 with h | h
      · have := hr.1; omega
      · exact h
    have HCL := Lib.hid (fun w' (h : Below w.heap.size w w') => closed_is b off m cap S sym q n c l (by omega) hr.1.1 hn (right_rng hr) w' ((HS.out.2 b off rfl).below h) (HL.out.below h))
    clear hrr hr
    go_enter Try.func45, Try.ntmps45
    go_upto_region 1 with (fail)
    rw [HW1.out]
    go_wp2_with fail
    refine HR.out.mono ?_
    rintro e w2 ⟨rfl, hb⟩
    have hb2 := HB1.out.trans (hb.mono HB1.out.size)
    have HB2 := Lib.hid hb2
    obtain ⟨y0, y1, y2⟩ := (HN1.out.below hb HN1.out.lt).cells
    have yl := (HN1.out.below hb HN1.out.lt).lt
    clear hb hb2 z0 z1 z2 zl
    go_wp2_with fail
    refine (HCL.out _ HB2.out).mono ?_
    rintro e w3 hcp
    obtain ⟨p6, c6, A, rfl, h1, h2, h3, h4, h5⟩ := hcp
    have HF : Hid (clPost m (Cl S sym (nmd m n l)) w (.returned (.slice p6 A.length c6)) w3) := Lib.hid ⟨p6, c6, A, rfl, h1, HB2.out.trans (h2.mono HB2.out.size), h3, h4, fun b o e => Nat.le_trans HB2.out.size (h5 b o e)⟩
    clear h1 h2 h3 h4 h5 y0 y1 y2 yl
    go_wp2_with fail
    go_returns
    exact ⟨fun _ => HF.out, fun h => absurd HRR.out h⟩
  · have hrr := HR.out
    rw [decide_eq_false hr] at hrr
    have HR := Lib.hid hrr
    have HNR := Lib.hid hr
    clear hrr hr
    go_enter Try.func45, Try.ntmps45
    go_upto_region 1 with (fail)
    rw [HW1.out]
    go_wp2_with fail
    refine HR.out.mono ?_
    rintro e w2 ⟨rfl, hb⟩
    have HB2 := Lib.hid (HB1.out.trans (hb.mono HB1.out.size))
    clear hb z0 z1 z2 zl
    go_wp2_with fail
    go_returns
    exact ⟨fun h => absurd h HNR.out, fun _ => ⟨rfl, HB2.out⟩⟩
theorem tld_both {R : Prop} {m : Nat} {P : Nat → Prop} {w : World} {e : Ending} {w' : World} (h : (R → clPost m P w e w') ∧ (¬ R → e = .returned (.slice none 0 0) ∧ Below w.heap.size w w')) : tldPost R m P w e w' := by
  by_cases hR : R
  · exact (tld_of (h.1 hR)).resolve_right fun g => g hR
  · obtain ⟨rfl, hb⟩ := h.2 hR
    exact tld_none hR hb
theorem clo_any : CloC := fun p m cap S st fin sym q n c l w hm hn hS _ hl => (clo_both p m cap S st fin sym q n c l w hm hn hS hl).mono fun _ _ h => tld_both h
set_option maxRecDepth 100000 in
set_option maxHeartbeats 8000000 in
theorem stp_both (p : Option Addr) (m cap : Nat) (S : Nat → Sd) (st fin : Int) (y : Nat) (q : Option Addr) (n c : Nat) (l : Nat → Int) (w : World) (hm : m ≤ 600) (hn : n ≤ 1000) (hy : y < 256) (hS : stsAt w p m S) (hw : ∀ j, j < m → okWs (S j)) (hl : rdL w q n l) :
    Calls Try.prog 69 #[nfV p m cap st fin, .slice q n c, .int .u8 (y : Int)] w fun e w' => (rightP S m st fin → clPost m (Cl S 0 (By S y (nmd m n l))) w e w') ∧ (¬ rightP S m st fin → e = .returned (.slice none 0 0) ∧ Below w.heap.size w w') := by
  obtain ⟨w1, hw1⟩ : ∃ w1, w.alloc (.cells #[.slice p m cap, .int .i64 st, .int .i64 fin] 24) = w1 := ⟨_, rfl⟩
  have hb1 : Below w.heap.size w w1 := hw1 ▸ (Below.refl _ _).alloc (Nat.le_refl _) _
  have hn1 : is3 24 w1 w.heap.size (.slice p m cap) st fin := hw1 ▸ is3.new 24 w (.slice p m cap) st fin
  have hS1 : stsAt w1 p m S := ⟨hS.1, fun b off h => (hS.2 b off h).below hb1⟩
  have HR := Lib.hid (rgt9_is p m cap S st fin w1 hm hS1)
  have HB1 := Lib.hid hb1
  have HN1 := Lib.hid hn1
  have HS := Lib.hid hS
  have HL := Lib.hid hl
  have HW1 := Lib.hid hw1
  obtain ⟨z0, z1, z2⟩ := hn1.cells
  have zl := hn1.lt
  rw [show (nfV p m cap st fin) = .agg #[.slice p m cap, .int .i64 st, .int .i64 fin] from rfl]
  clear hw1 hb1 hn1 hS1 hS hl
  by_cases hr : rightP S m st fin
  · have HRR := Lib.hid hr
    have hrr := HR.out
    rw [decide_eq_true hr] at hrr
    have HR := Lib.hid hrr
    obtain ⟨b, off, rfl⟩ : ∃ b off, p = some ⟨b, off, none⟩ := by
      rcases HS.out.1 with h | h
      · have := hr.1; omega
      · exact h
    have HCL := Lib.hid (fun w' (h : Below w.heap.size w w') => behind_is b off m cap S y q n c l (by omega) hr.1.1 hn hy (right_rng hr) hw w' ((HS.out.2 b off rfl).below h) (HL.out.below h))
    clear hrr hr
    go_enter Try.func69, Try.ntmps69
    go_upto_region 1 with (fail)
    rw [HW1.out]
    go_wp2_with fail
    refine HR.out.mono ?_
    rintro e w2 ⟨rfl, hb⟩
    have hb2 := HB1.out.trans (hb.mono HB1.out.size)
    have HB2 := Lib.hid hb2
    obtain ⟨y0, y1, y2⟩ := (HN1.out.below hb HN1.out.lt).cells
    have yl := (HN1.out.below hb HN1.out.lt).lt
    clear hb hb2 z0 z1 z2 zl
    go_wp2_with fail
    refine (HCL.out _ HB2.out).mono ?_
    rintro e w3 hcp
    obtain ⟨p6, c6, A, rfl, h1, h2, h3, h4, h5⟩ := hcp
    have HF : Hid (clPost m (Cl S 0 (By S y (nmd m n l))) w (.returned (.slice p6 A.length c6)) w3) := Lib.hid ⟨p6, c6, A, rfl, h1, HB2.out.trans (h2.mono HB2.out.size), h3, h4, fun b o e => Nat.le_trans HB2.out.size (h5 b o e)⟩
    clear h1 h2 h3 h4 h5 y0 y1 y2 yl
    go_wp2_with fail
    go_returns
    exact ⟨fun _ => HF.out, fun h => absurd HRR.out h⟩
  · have hrr := HR.out
    rw [decide_eq_false hr] at hrr
    have HR := Lib.hid hrr
    have HNR := Lib.hid hr
    clear hrr hr
    go_enter Try.func69, Try.ntmps69
    go_upto_region 1 with (fail)
    rw [HW1.out]
    go_wp2_with fail
    refine HR.out.mono ?_
    rintro e w2 ⟨rfl, hb⟩
    have HB2 := Lib.hid (HB1.out.trans (hb.mono HB1.out.size))
    clear hb z0 z1 z2 zl
    go_wp2_with fail
    go_returns
    exact ⟨fun h => absurd h HNR.out, fun _ => ⟨rfl, HB2.out⟩⟩
theorem stp_any : StpC := fun p m cap S st fin y q n c l w hm hn hy hS hw hl => (stp_both p m cap S st fin y q n c l w hm hn hy hS hw hl).mono fun _ _ h => tld_both h

set_option maxRecDepth 100000 in
set_option maxHeartbeats 4000000 in
theorem index9 (q : Option Addr) (n c : Nat) (l : Nat → Int) (x : Int) (w : World) (hn : n ≤ 100000) (hl : rdL w q n l) :
    Calls Try.prog 70 #[.slice q n c, .int .i64 x] w fun e w' => ∃ r : Int, e = .returned (.int .i64 r) ∧ (0 ≤ r ↔ ∃ i, i < n ∧ l i = x) ∧ w' = w := by
  have HL := Lib.hid hl
  have n0 : (0 : Int) ≤ (n : Int) := by omega
  clear hl
  go_enter Try.func70, Try.ntmps70
  go_wp2_with fail
  go_loopw [8] (fun iv wr => ∃ i : Nat, i ≤ n ∧ iv = .int .i64 i ∧ Hid (∀ j, j < i → l j ≠ x) ∧ wr = w) (fun iv _ => n - (intOf iv).toNat)
  case atStart => exact ⟨0, Nat.zero_le _, rfl, Lib.hid (fun _ h => absurd h (Nat.not_lt_zero _)), rfl⟩
  case round =>
    obtain ⟨i, hi, rfl, HQ, rfl⟩ := hrel
    by_cases hlti : i < n
    · have i0 : (0 : Int) ≤ (i : Int) := by omega
      have i1 : (i : Int) < (n : Int) := by omega
      have ib : (i : Int) < 1000000 := by omega
      obtain ⟨lb, lo, rfl, hlb, hlc⟩ := HL.out i hlti
      obtain ⟨u, hu⟩ : ∃ u, l i = u := ⟨_, rfl⟩
      have HU := Lib.hid hu
      rw [hu] at hlc
      clear hu
      cases hx : (x == u)
      · have HQ2 : Hid (∀ j, j < i + 1 → l j ≠ x) := Lib.hid fun j hj => by
          by_cases e : j = i
          · subst e; rw [HU.out]; exact fun h => by rw [h] at hx; simp at hx
          · exact HQ.out j (by omega)
        go_wp2_with fail
        go_roundw
        case rel => exact ⟨i + 1, by omega, by go_num, HQ2, by first | rfl | trivial⟩
        case measure => simp [intOf]; omega
      · have HE : Hid (∃ i, i < n ∧ l i = x) := Lib.hid ⟨i, hlti, by rw [HU.out]; exact (by simpa using hx : x = u).symm⟩
        go_wp2_with fail
        go_returns
        exact ⟨_, rfl, ⟨fun _ => HE.out, fun _ => i0⟩, rfl⟩
    · obtain rfl : i = n := by omega
      have HE : Hid (¬ ∃ j, j < i ∧ l j = x) := Lib.hid fun ⟨j, h1, h2⟩ => HQ.out j h1 h2
      go_wp2_with fail
      go_returns
      exact ⟨_, rfl, ⟨fun h => absurd h (by decide), fun h => absurd h HE.out⟩, rfl⟩
theorem contains9 (q : Option Addr) (n c : Nat) (l : Nat → Int) (x : Int) (r : Bool) (hr : r = true ↔ ∃ i, i < n ∧ l i = x) (w : World) (hn : n ≤ 100000) (hl : rdL w q n l) :
    Calls Try.prog 47 #[.slice q n c, .int .i64 x] w fun e w' => e = .returned (.bool r) ∧ w' = w := by
  have HI := Lib.hid (index9 q n c l x w hn hl)
  have HR := Lib.hid hr
  clear hl hr
  go_enter Try.func47, Try.ntmps47
  go_wp2_with fail
  refine HI.out.mono ?_
  rintro e w' ⟨k, rfl, hk, rfl⟩
  have HB : Hid (decide (0 ≤ k) = r) := Lib.hid (by
    cases r with
    | true => exact decide_eq_true (hk.2 (HR.out.1 rfl))
    | false => exact decide_eq_false (fun h => by have := HR.out.2 (hk.1 h); cases this))
  clear hk
  go_wp2_with fail
  go_returns
  exact ⟨by rw [← HB.out] <;> rfl, rfl⟩
end Go.Proofs.Ytepegohopgnmnaa

namespace Go.Proofs.Ytepegohopgnmnaa
open Go.RowKit

/-- A new list that names what is true. -/
def lsPost (m : Nat) (U : Bf) (w : World) (e : Ending) (w' : World) : Prop :=
  ∃ p n c l, e = .returned (.slice p n c) ∧ rdL w' p n l ∧ lsT m n l U ∧ n ≤ m ∧ Below w.heap.size w w' ∧ ∀ b o, p = some ⟨b, o, none⟩ → w.heap.size ≤ b
theorem cl_ls {m : Nat} {P : Nat → Prop} {U : Bf} (hP : P = pT m U) {w : World} {e : Ending} {w' : World} (h : clPost m P w e w') : lsPost m U w e w' := by
  obtain ⟨p, c, A, rfl, h1, h2, h3, h4, h5⟩ := h
  subst hP
  have hlen := okA_len h3
  refine ⟨p, A.length, c, tlA A m, rfl, h1, ⟨fun i hi => ?_, fun q hq hU => ?_⟩, okA_le h3, h2, h5⟩
  · have hi' : i < (trs (memW A) m).length := by rw [trs_len, ← hlen]; exact hi
    refine ⟨(trs (memW A) m)[i], ?_, ?_, ?_⟩
    · have := List.getElem_mem hi'
      unfold trs at this
      rw [List.mem_filter, List.mem_range] at this
      exact this.1
    · unfold tlA
      rw [List.getD_eq_getElem?_getD, List.getElem?_eq_getElem hi']; rfl
    · have := List.getElem_mem hi'
      unfold trs at this
      rw [List.mem_filter, List.mem_range] at this
      exact ((h4 _).1 (of_decide_eq_true this.2)).2
  · have hA : memW A q = true := decide_eq_true ((h4 q).2 ⟨hq, hU⟩)
    refine ⟨cntT (memW A) q, ?_, ?_⟩
    · rw [hlen]
      have := trs_at (T := memW A) hq hA
      rcases Nat.lt_or_ge (cntT (memW A) q) (trs (memW A) m).length with g | g
      · exact g
      · rw [List.getElem?_eq_none g] at this; cases this
    · unfold tlA
      rw [List.getD_eq_getElem?_getD, trs_at hq hA]; rfl
theorem ls_pT {m n : Nat} {l : Nat → Int} {T : Bf} (h : lsT m n l T) : nmd m n l = pT m T := by
  funext q
  exact propext (lsT_nmd h q)

set_option maxRecDepth 100000 in
set_option maxHeartbeats 8000000 in
theorem by_is (p : Option Addr) (m cap : Nat) (S : Nat → Sd) (st fin : Int) (y : Nat) (q : Option Addr) (n c : Nat) (l : Nat → Int) (T : Bf) (hm : m ≤ 600) (hy : y < 259) (hn : n ≤ 1000) (hr : rightP S m st fin) (hT : lsT m n l T) (w : World) (hS : stsAt w p m S) (hw : ∀ j, j < m → okWs (S j)) (hl : rdL w q n l) :
    Calls Try.prog 46 #[nfV p m cap st fin, .slice q n c, .int .i64 (y : Int)] w (lsPost m (goY S m y T) w) := by
  obtain ⟨w1, hw1⟩ : ∃ w1, w.alloc (.cells #[.slice p m cap, .int .i64 st, .int .i64 fin] 24) = w1 := ⟨_, rfl⟩
  have hb1 : Below w.heap.size w w1 := hw1 ▸ (Below.refl _ _).alloc (Nat.le_refl _) _
  have hn1 : is3 24 w1 w.heap.size (.slice p m cap) st fin := hw1 ▸ is3.new 24 w (.slice p m cap) st fin
  have hS1 : stsAt w1 p m S := ⟨hS.1, fun b off h => (hS.2 b off h).below hb1⟩
  have hl1 := hl.below hb1
  have HB1 := Lib.hid hb1
  have HN1 := Lib.hid hn1
  have HW1 := Lib.hid hw1
  have y0 : (0 : Int) ≤ (y : Int) := by omega
  have y1 : (y : Int) < 259 := by omega
  obtain ⟨z0, z1, z2⟩ := hn1.cells
  have zl := hn1.lt
  have hrn := right_rng hr
  by_cases hy2 : 256 ≤ y
  · have d0 : decide ((256 : Int) ≤ (y : Int)) = true := decide_eq_true (by omega)
    have d1 : decide (256 ≤ y) = true := decide_eq_true hy2
    have HC := Lib.hid (clo_both p m cap S st fin (y : Int) q n c l w1 hm hn hS1 hl1)
    have HG : Hid (∀ e w', clPost m (Cl S (y : Int) (nmd m n l)) w1 e w' → lsPost m (goY S m y T) w1 e w') := Lib.hid fun e w' h => cl_ls (by rw [ls_pT hT]; unfold goY; rw [if_neg (by omega), pT_up hrn]) h
    have HR := Lib.hid hr
    clear hw1 hb1 hn1 hS1 hS hl hl1 hT hw hr hrn
    go_enter Try.func46, Try.ntmps46
    go_upto_region 1 with (fail)
    rw [HW1.out]
    go_wp2_with fail
    refine HC.out.mono ?_
    rintro e w2 ⟨hc, -⟩
    obtain ⟨p6, n6, c6, l6, rfl, h1, h2, h3, h4, h5⟩ := HG.out _ _ (hc HR.out)
    have HF : Hid (lsPost m (goY S m y T) w (.returned (.slice p6 n6 c6)) w2) := Lib.hid ⟨p6, n6, c6, l6, rfl, h1, h2, h3, HB1.out.trans (h4.mono HB1.out.size), fun b o e => Nat.le_trans HB1.out.size (h5 b o e)⟩
    clear hc h1 h2 h3 h4 h5 z0 z1 z2 zl
    go_wp2_with fail
    go_returns
    exact HF.out
  · have d0 : decide ((256 : Int) ≤ (y : Int)) = false := decide_eq_false (by omega)
    have d1 : decide (256 ≤ y) = false := decide_eq_false hy2
    have y2 : (y : Int) < 256 := by omega
    have HC := Lib.hid (stp_both p m cap S st fin y q n c l w1 hm hn (by omega) hS1 hw hl1)
    have HG : Hid (∀ e w', clPost m (Cl S 0 (By S y (nmd m n l))) w1 e w' → lsPost m (goY S m y T) w1 e w') := Lib.hid fun e w' h => cl_ls (by rw [ls_pT hT]; unfold goY; rw [if_pos (by omega), pT_up hrn, pT_st hrn]) h
    have HR := Lib.hid hr
    clear hw1 hb1 hn1 hS1 hS hl hl1 hT hw hr hrn hy2
    go_enter Try.func46, Try.ntmps46
    go_upto_region 1 with (fail)
    rw [HW1.out]
    go_wp2_with fail
    refine HC.out.mono ?_
    rintro e w2 ⟨hc, -⟩
    obtain ⟨p6, n6, c6, l6, rfl, h1, h2, h3, h4, h5⟩ := HG.out _ _ (hc HR.out)
    have HF : Hid (lsPost m (goY S m y T) w (.returned (.slice p6 n6 c6)) w2) := Lib.hid ⟨p6, n6, c6, l6, rfl, h1, h2, h3, HB1.out.trans (h4.mono HB1.out.size), fun b o e => Nat.le_trans HB1.out.size (h5 b o e)⟩
    clear hc h1 h2 h3 h4 h5 z0 z1 z2 zl
    go_wp2_with fail
    go_returns
    exact HF.out
end Go.Proofs.Ytepegohopgnmnaa

namespace Go.Proofs.Ytepegohopgnmnaa
open Go.RowKit

theorem bls_succ (T : Nat → Bool) (n : Nat) : bls T (n + 1) = bls T n ++ [.bool (T n)] := by simp [bls, List.range_succ]
theorem step_append_bl {w : World} {ops : Array Oper} {o : Oper} {a : Act} {K : Act → World → Prop} {Q : Exit → Act → World → Prop} {E : Prop} (hgd : o.guard = none) (s x : Operand)
    (ho : o.op = .call { callee := .builtin .append, args := #[s, x], argTypes := #[28, 28] }) (base : Nat) (v : Value) (T : Nat → Bool) (n : Nat) (hs : a.eval s = v)
    (hown : w.ownsRow base 4 1 v n (bls T n)) (g : Nat) (u : Bool) (hT : T n = u) (hx : a.eval x = .slice (some ⟨g, 0, none⟩) 1 1) (hcell : w.cell? ⟨g, 0, none⟩ = some (.bool u)) (hlen : n ≤ 100000) (hbase : base ≤ w.heap.size)
    (h : ∀ q' n' cap' w', n' = n + 1 → w'.ownsRow base 4 1 (.slice q' n' cap') (n + 1) (bls T (n + 1)) → w.grownBy w' v.ownBlock → K (a.put o.dst (.slice q' n' cap')) w') :
    if Region.wanted o (yielded ops a.tmps) = true then Oper.wp Try.prog o a w K Q else E := by
  have hw : Region.wanted o (yielded ops a.tmps) = true := by simp [Region.wanted, hgd]
  rw [if_pos hw]
  obtain ⟨i0, hi, hz0, hz1, hz2⟩ := info_parts infoBool9
  refine wp_append_own w s x 28 ho base 4 i0 (.bool false) 1 1 Try.underlying28 hi hz0 hz1 hz2 rfl (by decide) v n (bls T n) hs hown ⟨g, 0, none⟩ 1 1 [.bool u] hx rfl ?_ ?_ (by unfold maxLen; omega) (by omega) hbase ?_
  · intro j y hy
    match j, hy with
    | 0, hy => simp at hy; subst hy; simpa [Addr.add] using hcell
  · intro y hy
    have : y = .bool u := by simpa using hy
    subst this; rfl
  · intro v' w' h1 h2 _
    have h3 : w'.ownsRow base 4 1 v' (n + 1) (bls T (n + 1)) := by rw [bls_succ, hT]; exact h1
    obtain ⟨q', cap', rfl⟩ : ∃ q cap, v' = .slice q (n + 1) cap := by
      rcases id h3.2 with ⟨rfl, h0⟩ | ⟨g, cap, cur, rfl, _⟩
      · exact ⟨none, 0, by rw [h0]⟩
      · exact ⟨_, cap, rfl⟩
    exact h q' _ cap' w' rfl h3 h2
end Go.Proofs.Ytepegohopgnmnaa

namespace Go.Proofs.Ytepegohopgnmnaa
open Go.RowKit

/-- A row of lists that is read. -/
def rdG11 (w : World) (p : Option Addr) (G : List Ls11) : Prop := ∀ i (hi : i < G.length), ∃ g, p = some ⟨g, 0, none⟩ ∧ g < w.heap.size ∧ w.cell? ⟨g, i, none⟩ = some (G[i]).val
theorem rdG11.below {w w' : World} {p : Option Addr} {G : List Ls11} (h : rdG11 w p G) (hb : Below w.heap.size w w') : rdG11 w' p G := fun i hi => by
  obtain ⟨g, h1, h2, h3⟩ := h i hi
  exact ⟨g, h1, Nat.lt_of_lt_of_le h2 hb.size, (hb.cell (p := ⟨g, i, none⟩) h2).trans h3⟩
theorem append_blw {w : World} {ops : Array Oper} {rest : List Oper} {o : Oper} {a : Act} {Q : Exit → Act → World → Prop} (hgd : o.guard = none) (s x : Operand)
    (ho : o.op = .call { callee := .builtin .append, args := #[s, x], argTypes := #[28, 28] }) (base : Nat) (v : Value) (T : Nat → Bool) (n : Nat) (hs : a.eval s = v)
    (hown : w.ownsRow base 4 1 v n (bls T n)) (g : Nat) (u : Bool) (hT : T n = u) (hx : a.eval x = .slice (some ⟨g, 0, none⟩) 1 1) (hcell : w.cell? ⟨g, 0, none⟩ = some (.bool u)) (hlen : n ≤ 100000) (hbase : base ≤ w.heap.size)
    (h : ∀ q' c' w', w'.ownsRow base 4 1 (.slice q' (n + 1) c') (n + 1) (bls T (n + 1)) → w.grownBy w' v.ownBlock → wpList Try.prog ops Q rest (a.put o.dst (.slice q' (n + 1) c')) w') : wpList Try.prog ops Q (o :: rest) a w := by
  obtain ⟨i0, hi, hz0, hz1, hz2⟩ := info_parts infoBool9
  refine wpList_append_own w hgd s x 28 ho base 4 i0 (.bool false) 1 1 Try.underlying28 hi hz0 hz1 hz2 rfl (by decide) v n (bls T n) hs hown ⟨g, 0, none⟩ 1 1 [.bool u] hx rfl ?_ ?_ (by unfold maxLen; omega) (by omega) hbase ?_
  · intro j y hy
    match j, hy with
    | 0, hy => simp at hy; subst hy; simpa [Addr.add] using hcell
  · intro y hy
    have : y = .bool u := by simpa using hy
    subst this; rfl
  · intro v' w' h1 h2 _
    have h3 : w'.ownsRow base 4 1 v' (n + 1) (bls T (n + 1)) := by rw [bls_succ, hT]; exact h1
    rcases id h3.2 with ⟨_, h0⟩ | ⟨g, cap, cur, rfl, _⟩
    · omega
    · exact h _ _ w' h3 h2

set_option maxRecDepth 100000 in
set_option maxHeartbeats 8000000 in
theorem having_is (p : Option Addr) (c base m F : Nat) (G : List Ls11) (L : List Bf) (hm : m ≤ 1000) (hF : F < m) (hlen : G.length ≤ 10000) (w : World) (hG : rdG11 w p G) (hR : okG11 w base m G L) :
    Calls Try.prog 24 #[.slice p G.length c, .int .i64 (F : Int)] w fun e w' => ∃ q2 c2, e = .returned (.slice q2 G.length c2) ∧ rdBs w' q2 G.length (fun j => lg L j F) ∧ Below w.heap.size w w' ∧ ∀ b o, q2 = some ⟨b, o, none⟩ → w.heap.size ≤ b := by
  obtain ⟨n, hn⟩ : ∃ n, G.length = n := ⟨_, rfl⟩
  have HRD : Hid (∀ i, i < n → ∀ w', Below w.heap.size w w' → ∃ g x, p = some ⟨g, 0, none⟩ ∧ g < w'.heap.size ∧ w'.cell? ⟨g, i, none⟩ = some (Ls11.val x) ∧ rdL w' x.p x.n x.l ∧ x.n ≤ 100000 ∧ (lg L i F = true ↔ ∃ j, j < x.n ∧ x.l j = (F : Int))) := Lib.hid fun i hi w' hb => by
    obtain ⟨g, h1, h2, h3⟩ := (hG.below hb) i (by omega)
    obtain ⟨h4, h5, h6, -⟩ := (hR.below hb).2 i (by omega)
    exact ⟨g, G[i], h1, h2, h3, h4, by omega, ⟨fun h => h5.2 F hF h, fun ⟨j, k1, k2⟩ => by
      obtain ⟨q, e1, e2, e3⟩ := h5.1 j k1
      have : q = F := by omega
      subst this; exact e3⟩⟩
  rw [hn] at hlen ⊢
  have n0 : (0 : Int) ≤ (n : Int) := by omega
  have HO0 : Hid (w.ownsRow w.heap.size 4 1 (.slice none 0 0) 0 (bls (fun j => lg L j F) 0)) := Lib.hid ⟨rfl, .inl ⟨rfl, rfl⟩⟩
  clear hG hR hn
  go_enter Try.func24, Try.ntmps24
  go_wp2_with fail
  go_loopw [5, 10] (fun hv iv wr => ∃ i q2 c2, i ≤ n ∧ iv = .int .i64 (i : Nat) ∧ hv = .slice q2 i c2 ∧ Hid (wr.ownsRow w.heap.size 4 1 (.slice q2 i c2) i (bls (fun j => lg L j F) i)) ∧ Hid (Below w.heap.size w wr)) (fun _ iv _ => n - (intOf iv).toNat)
  case atStart => exact ⟨0, none, 0, Nat.zero_le _, rfl, rfl, HO0, Lib.hid (Below.refl _ _)⟩
  case round =>
    clear HO0
    obtain ⟨i, q2, c2, hi, rfl, rfl, HO, HB⟩ := hrel
    by_cases hlti : i < n
    · have i0 : (0 : Int) ≤ (i : Int) := by omega
      have i1 : (i : Int) < (n : Int) := by omega
      obtain ⟨g, ⟨xp, xn, xc, xl⟩, rfl, hg, hc, hl, hxn, hiff⟩ := HRD.out i hlti _ HB.out
      obtain ⟨u, hu⟩ : ∃ u, lg L i F = u := ⟨_, rfl⟩
      rw [hu] at hiff
      have HU := Lib.hid hu
      have HC := Lib.hid (contains9 xp xn xc xl (F : Int) u hiff wr hxn hl)
      have HLC : Hid ((wr.alloc (.cells #[.bool u] 4)).cell? ⟨wr.heap.size, 0, none⟩ = some (.bool u)) := Lib.hid (by simp)
      have HLS : Hid (w.heap.size ≤ (wr.alloc (.cells #[.bool u] 4)).heap.size) := Lib.hid (by rw [World.size_alloc]; have := HB.out.size; omega)
      have HO6 := Lib.hid (HO.out.alloc (.cells #[.bool u] 4))
      have HW6 := Lib.hid (HB.out.alloc HB.out.size (.cells #[.bool u] 4))
      clear hl hxn hiff hu HO
      go_wp2_with fail
      refine HC.out.mono ?_
      rintro e wk ⟨rfl, rfl⟩
      clear HC hc
      go_wp2_with (at_builtin; refine append_blw rfl _ _ rfl w.heap.size _ (fun j => lg L j F) i rfl HO6.out wk.heap.size u HU.out rfl HLC.out (by omega) HLS.out ?_; intro q9 c9 w9 h9 hg9; have HO9 := Lib.hid h9; have HW9 := Lib.hid (HW6.out.grown hg9 HLS.out (fun r hr => (World.ownsRow.lt HO6.out r hr).1)); clear h9 hg9)
      go_roundw
      case rel => exact ⟨i + 1, q9, c9, by omega, by go_num, rfl, HO9, HW9⟩
      case measure => simp [intOf]; omega
    · obtain rfl : i = n := by omega
      have HF := Lib.hid (bls_rd HO.out)
      go_wp2_with fail
      go_returns
      exact ⟨_, _, rfl, HF.out.1, HB.out, HF.out.2⟩
end Go.Proofs.Ytepegohopgnmnaa

namespace Go.Proofs.Ytepegohopgnmnaa
open Go.RowKit

section
variable {go : Nat → Bf → Bf} {m width : Nat} {T0 : Bf}
theorem clM_le {X : Bf} {s : Ms} {c d : Nat} (h : c ≤ d) : (clM go m X c s).1.length ≤ (clM go m X d s).1.length := by
  induction d with
  | zero => have : c = 0 := by omega
            subst this; exact Nat.le_refl _
  | succ d ih =>
    by_cases e : c = d + 1
    · subst e; exact Nat.le_refl _
    · exact Nat.le_trans (ih (by omega)) (adS_len m _ _).1
/-- Where the going over stops in the midst of a set. -/
theorem meet_stop {most : Int} {a c : Nat} {X : Bf} (ha : ∀ b, b < a → b < (atM go m width T0 b).1.length ∧ ((atM go m width T0 b).1.length : Int) ≤ most) (hX : (atM go m width T0 a).1[a]? = some X) (hc : c ≤ width)
    (h : most < ((clM go m X c (atM go m width T0 a)).1.length : Int)) : most < ((fullM go m width T0 most).1.length : Int) := by
  by_cases hm : most < 0
  · have := atM_one (go := go) (m := m) (width := width) (T0 := T0) (rdM most)
    unfold fullM
    omega
  · have h1 : a + 1 ≤ rdM most := by
      unfold rdM
      rcases Nat.eq_zero_or_pos a with rfl | hp
      · omega
      · have := ha (a - 1) (by omega)
        omega
    have h2 := atM_le (go := go) (m := m) (width := width) (T0 := T0) h1
    rw [atM_go hX] at h2
    have h3 := clM_le (go := go) (m := m) (X := X) (s := atM go m width T0 a) hc
    unfold fullM
    omega
end
theorem wdY_pos (S : Nat → Sd) (m : Nat) : 0 < wdY S m := by
  have := clA_lt (alk_eq S m) (show 0 < 259 by decide)
  unfold wdY
  omega
theorem lg_of {L : List Bf} {i : Nat} {X : Bf} (h : L[i]? = some X) : lg L i = X := by
  unfold lg
  rw [List.getD_eq_getElem?_getD, h]; rfl
def inv11 (w : World) (base h mb m : Nat) (s : Ms) : Prop := ∃ sv nv G D, MetM w base h mb m s.1 s.1 s.2 sv nv G s.1.length D
theorem inv11.below {w w' : World} {base h mb m : Nat} {s : Ms} (H : inv11 w base h mb m s) (hb : Below w.heap.size w w') : inv11 w' base h mb m s := by
  obtain ⟨sv, nv, G, D, H⟩ := H
  exact ⟨sv, nv, G, D, H.below hb⟩
theorem step_append_nx {w : World} {ops : Array Oper} {o : Oper} {a : Act} {K : Act → World → Prop} {Q : Exit → Act → World → Prop} {E : Prop} (hgd : o.guard = none) (s x : Operand)
    (ho : o.op = .call { callee := .builtin .append, args := #[s, x], argTypes := #[27, 27] }) (base : Nat) (v : Value) (B : List Nat) (hs : a.eval s = v) (hown : spO w base v B) (g x0 : Nat)
    (hx : a.eval x = .slice (some ⟨g, 0, none⟩) 1 1) (hcell : w.cell? ⟨g, 0, none⟩ = some (.int .i64 (x0 : Int))) (hlen : B.length ≤ 1000000) (hbase : base ≤ w.heap.size)
    (h : ∀ p' n' c' w', n' = B.length + 1 → spO w' base (.slice p' n' c') (B ++ [x0]) → w.grownBy w' v.ownBlock → ((Value.slice p' n' c').ownBlock = v.ownBlock ∨ (Value.slice p' n' c').ownBlock = some w.heap.size) → K (a.put o.dst (.slice p' n' c')) w') :
    if Region.wanted o (yielded ops a.tmps) = true then Oper.wp Try.prog o a w K Q else E := by
  have hwt : Region.wanted o (yielded ops a.tmps) = true := by simp [Region.wanted, hgd]
  rw [if_pos hwt]
  obtain ⟨i0, hi, hz0, hz1, hz2⟩ := info_parts infoInt9w
  obtain ⟨v', w', hr, h2, h3, h4, h5⟩ := run_append_own_at (P := Try.prog) w base 27 o.type 3 i0 (.int .i64 0) 1 8 Try.underlying27 hi hz0 hz1 hz2 rfl (by decide) v B.length (spl9 B) hown ⟨g, 0, none⟩ 1 1 (spl9 [x0]) (by rw [spl9_len]; rfl) (by
    intro j u hu
    match j, hu with
    | 0, hu => simp [spl9] at hu; subst hu; simpa [Addr.add] using hcell) (spl9_cell _) (by unfold maxLen; omega) (by omega) hbase
  unfold Oper.wp
  simp [execOp, ho, resolve, invoke, builtin, hs, hx, hr, Result.andThen]
  rw [← spl9_append] at h2
  have h6 : spO w' base v' (B ++ [x0]) := by unfold spO; rw [List.length_append]; exact h2
  rcases id h2.2 with ⟨_, h0⟩ | ⟨g, cap, cur, rfl, _⟩
  · omega
  · exact h _ _ _ w' rfl h6 h3 h5
theorem step_call {w : World} {ops : Array Oper} {o : Oper} {a : Act} {K : Act → World → Prop} {Q : Exit → Act → World → Prop} {E : Prop} (hgd : o.guard = none) (f : Nat) (fn : Func) (hf : Try.prog.funcs[f]? = some fn) (hn : (fn.name == "runtime.NumGoroutine") = false) (hb : fn.body.isNone = false) (xs : Array Operand) (tys : Array TypeId)
    (ho : o.op = .call { callee := .value (.func f), args := xs, argTypes := tys }) (vs : Array Value) (hv : xs.map a.eval = vs) {Post : Ending → World → Prop} (hc : Calls Try.prog f vs w Post)
    (h : ∀ e w', Post e w' → ∃ v, e = .returned v ∧ K (a.put o.dst v) w') : if Region.wanted o (yielded ops a.tmps) = true then Oper.wp Try.prog o a w K Q else E := by
  have hwt : Region.wanted o (yielded ops a.tmps) = true := by simp [Region.wanted, hgd]
  rw [if_pos hwt]
  unfold Oper.wp
  have hn' : ¬ fn.name = "runtime.NumGoroutine" := by simpa using hn
  have hb' : ¬ fn.body = none := by
    cases hq : fn.body with
    | none => rw [hq] at hb; cases hb
    | some _ => simp
  have hr : (callFunc f vs).run Try.prog w = .ok (Next.enter f vs) w := by
    simp [callFunc, hf, hn', hb', go_sem]
  simp [execOp, ho, resolve, invoke, hv, go_sem]
  rw [hr]
  unfold Oper.upon
  refine hc.mono fun e w' hp => ?_
  obtain ⟨v, rfl, hk⟩ := h e w' hp
  exact hk
end Go.Proofs.Ytepegohopgnmnaa
