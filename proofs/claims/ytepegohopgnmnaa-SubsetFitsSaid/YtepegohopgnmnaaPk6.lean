/-
  The walk of the reference's Has.
  The walk of the ninth reference's Step.
  The walks of the ninth reference's Of and Told.
  The walk of the ninth reference's Told.
  Two nodes are the same just if all that they hold is; the walk of the reference's Same at two lists that read alike.
-/
import Derived.Test.YtepegohopgnmnaaPk1
import Derived.Test.YtepegohopgnmnaaPk5
import Derived.Test.YtepegohopgnmnaaPk4
namespace Go.Proofs.Ytepegohopgnmnaa
open Go.RowKit

set_option maxHeartbeats 1000000 in
theorem rhas_any (f : Nat → Bool) (b : Int) (h0 : 0 ≤ b) (hn : b < 256) (w : World) :
    Calls Try.prog 50 #[sv f, .int .i64 b] w fun e w' => e = .returned (.bool (f b.toNat)) ∧ Below w.heap.size w w' := by
  obtain ⟨m, rfl⟩ := Int.eq_ofNat_of_zero_le h0
  rw [Int.toNat_natCast]
  have W := word_has f
  have q : m / 64 = 0 ∨ m / 64 = 1 ∨ m / 64 = 2 ∨ m / 64 = 3 := by omega
  have key : ∀ i, m / 64 = i → Hid ((bits .and .u64 ((wd f i : Int) / 2 ^ (m % 64)) 1 == 1) = f m) := fun i hi => by
    have := W i (m % 64) (by omega)
    rw [show 64 * i + m % 64 = m from by omega] at this
    exact this
  clear W
  unfold sv
  rcases q with q | q | q | q
  · have key' := key _ q
    clear key
    have q' : (m : Int) / 64 = 0 := by omega
    clear q
    go_enter Try.func50, Try.ntmps50
    go_wp2
    go_ret
    exact ⟨by rw [← key'.out] <;> rfl, by go_grown⟩
  · have key' := key _ q
    clear key
    have q' : (m : Int) / 64 = 1 := by omega
    clear q
    go_enter Try.func50, Try.ntmps50
    go_wp2
    go_ret
    exact ⟨by rw [← key'.out] <;> rfl, by go_grown⟩
  · have key' := key _ q
    clear key
    have q' : (m : Int) / 64 = 2 := by omega
    clear q
    go_enter Try.func50, Try.ntmps50
    go_wp2
    go_ret
    exact ⟨by rw [← key'.out] <;> rfl, by go_grown⟩
  · have key' := key _ q
    clear key
    have q' : (m : Int) / 64 = 3 := by omega
    clear q
    go_enter Try.func50, Try.ntmps50
    go_wp2
    go_ret
    exact ⟨by rw [← key'.out] <;> rfl, by go_grown⟩

theorem rhas_lit (f : Nat → Bool) (b : Nat) (hn : b < 256) (w : World) : Calls Try.prog 50 #[svr f, .int .i64 (b : Int)] w fun e w' => e = .returned (.bool (f b)) ∧ Below w.heap.size w w' := rhas_any f b (by omega) (by omega) w
end Go.Proofs.Ytepegohopgnmnaa

namespace Go.Proofs.Ytepegohopgnmnaa
open Go.RowKit

/-- Words of a set, in range. -/
def okWs (x : Sd) : Prop := (0 ≤ x.a ∧ x.a < 18446744073709551616) ∧ (0 ≤ x.b ∧ x.b < 18446744073709551616) ∧ (0 ≤ x.c ∧ x.c < 18446744073709551616) ∧ (0 ≤ x.d ∧ x.d < 18446744073709551616)
theorem okWs_wd {x : Sd} (h : okWs x) : x.a = (wd (sOf x) 0 : Int) ∧ x.b = (wd (sOf x) 1 : Int) ∧ x.c = (wd (sOf x) 2 : Int) ∧ x.d = (wd (sOf x) 3 : Int) := fOf_wd (x := ⟨0, x.a, x.b, x.c, x.d, 0, 0⟩) h
/-- What the reference does at a state; at the first i of them. -/
def st1 (S : Nat → Sd) (y : Nat) (T : Nat → Bool) (T' : Nat → Bool) (i : Nat) : Nat → Bool := if T i = true ∧ (S i).k = 1 ∧ sOf (S i) y = true then putT T' (S i).A.toNat true else T'
def stR (S : Nat → Sd) (y : Nat) (T : Nat → Bool) : Nat → Nat → Bool
  | 0 => fun _ => false
  | i + 1 => st1 S y T (stR S y T i) i
theorem stR_iff {S : Nat → Sd} {y m : Nat} {T : Nat → Bool} (hr : rng S m) : ∀ {i q}, i ≤ m → (stR S y T i q = true ↔ ∃ q0, q0 < i ∧ T q0 = true ∧ (S q0).k = 1 ∧ sOf (S q0) y = true ∧ (q : Int) = (S q0).A)
  | 0, q, _ => Iff.intro (fun h => (by simp [stR] at h)) (fun ⟨_, h, _⟩ => absurd h (Nat.not_lt_zero _))
  | i + 1, q, hi => by
    have ih := stR_iff (y := y) (T := T) hr (i := i) (q := q) (by omega)
    obtain ⟨_, _, a1, a2, _, _⟩ := hr i (by omega)
    show st1 S y T (stR S y T i) i q = true ↔ _
    unfold st1
    by_cases h : T i = true ∧ (S i).k = 1 ∧ sOf (S i) y = true
    · rw [if_pos h]
      constructor
      · intro g
        rcases putT_or g with g | g
        · obtain ⟨q0, k1, k2⟩ := ih.1 g
          exact ⟨q0, by omega, k2⟩
        · exact ⟨i, by omega, h.1, h.2.1, h.2.2, by omega⟩
      · rintro ⟨q0, k1, k2⟩
        by_cases e : q0 = i
        · subst e
          have : q = (S q0).A.toNat := by omega
          rw [this]; exact putT_at
        · exact putT_le (ih.2 ⟨q0, by omega, k2⟩)
    · rw [if_neg h]
      constructor
      · intro g
        obtain ⟨q0, k1, k2⟩ := ih.1 g
        exact ⟨q0, by omega, k2⟩
      · rintro ⟨q0, k1, k2, k3, k4, k5⟩
        by_cases e : q0 = i
        · subst e; exact absurd ⟨k2, k3, k4⟩ h
        · exact ih.2 ⟨q0, by omega, k2, k3, k4, k5⟩

theorem made_bls (m : Nat) : (madeCells #[Value.bool false] m).toList = bls (fun _ => false) m := by
  unfold madeCells bls
  apply List.ext_getElem
  · simp
  · intro i h1 h2
    simp [Nat.mod_one]

set_option maxRecDepth 100000 in
set_option maxHeartbeats 20000000 in
theorem rst_is (b off m cap g c : Nat) (S : Nat → Sd) (T : Nat → Bool) (st fin : Int) (y : Nat) (hy : y < 256) (hm : m ≤ 1000) (hpos : 0 < m) (hR : rng S m) (hw : ∀ q, q < m → okWs (S q)) (w : World) (hS : rdS w b off m S) (hT : rdB w g m T) :
    Calls Try.prog 29 #[.agg #[.slice (some ⟨b, off, none⟩) m cap, .int .i64 st, .int .i64 fin], .slice (some ⟨g, 0, none⟩) m c, .int .i64 (y : Int)] w fun e w' => ∃ G C, e = .returned (.slice (some ⟨G, 0, none⟩) m C) ∧ blR w' w.heap.size G C m (upN S 0 m (stR S y T m) m) ∧ Below w.heap.size w w' := by
  obtain ⟨ib, hib, hb0, hb1, hb2⟩ := info_parts infoBool9
  obtain ⟨w1, hw1⟩ : ∃ w1, w.alloc (.cells #[.slice (some ⟨b, off, none⟩) m cap, .int .i64 st, .int .i64 fin] 24) = w1 := ⟨_, rfl⟩
  have hz : w1.heap.size = w.heap.size + 1 := by rw [← hw1]; simp
  have hal : Below w.heap.size w w1 := hw1 ▸ (Below.refl _ _).alloc (Nat.le_refl _) _
  have HB1 := Lib.hid hal
  have HS1 := Lib.hid (hS.below hal)
  have HT1 := Lib.hid (hT.below hal)
  have hn0 : w1.cell? ⟨w.heap.size, 0, none⟩ = some (.slice (some ⟨b, off, none⟩) m cap) ∧ w1.cell? ⟨w.heap.size, 1, none⟩ = some (.int .i64 st) ∧ w1.cell? ⟨w.heap.size, 2, none⟩ = some (.int .i64 fin) := by rw [← hw1]; simp
  have HN : Hid (∀ w', Below (w.heap.size + 1) w1 w' → w'.cell? ⟨w.heap.size, 0, none⟩ = some (.slice (some ⟨b, off, none⟩) m cap) ∧ w'.cell? ⟨w.heap.size, 1, none⟩ = some (.int .i64 st) ∧ w'.cell? ⟨w.heap.size, 2, none⟩ = some (.int .i64 fin)) := Lib.hid fun w' h =>
    ⟨(h.cell (p := ⟨w.heap.size, 0, none⟩) (by show w.heap.size < w.heap.size + 1; omega)).trans hn0.1, (h.cell (p := ⟨w.heap.size, 1, none⟩) (by show w.heap.size < w.heap.size + 1; omega)).trans hn0.2.1, (h.cell (p := ⟨w.heap.size, 2, none⟩) (by show w.heap.size < w.heap.size + 1; omega)).trans hn0.2.2⟩
  have HW1 := Lib.hid hw1
  have HZ := Lib.hid hz
  have HR := Lib.hid hR
  have HWS := Lib.hid hw
  have m1 : Hid ((1 : Nat) * m ≤ 281474976710656) := Lib.hid (by omega)
  have m2 : Hid (m ≤ maxLen) := Lib.hid (by unfold maxLen; omega)
  have m0 : (0 : Int) ≤ (m : Int) := by omega
  have HHas := Lib.hid (fun (f : Nat → Bool) w => rhas_lit f y hy w)
  clear hw1 hal hS hT hn0 hz hR hw
  go_enter Try.func29, Try.ntmps29
  go_wp2_with (rw [HW1.out]; refine wpList_make_full _ rfl _ _ 28 rfl (w.heap.size + 1) 4 ib (.bool false) 1 Try.underlying28 hib hb0 hb1 .i64 .i64 (m : Int) (m : Int) m rfl rfl (by omega) (by omega) (by rw [hb2]; exact m1.out) m2.out (by have := HZ.out; omega) ?_)
  intro w3 hmk hg3
  rw [made_bls] at hmk
  have hB3 : Below (w.heap.size + 1) w1 w3 := (Below.refl _ _).grown hg3 (by have := HZ.out; omega) (fun r hr => by cases hr)
  obtain ⟨G, hG⟩ : ∃ G, w1.heap.size = G := ⟨_, rfl⟩
  rw [hG] at hmk ⊢
  have HO3 : Hid (blR w3 (w.heap.size + 1) G m m (stR S y T 0)) := Lib.hid hmk
  have HB3 := Lib.hid hB3
  have HG : Hid (w.heap.size + 1 ≤ G) := Lib.hid (blR.lt (T := stR S y T 0) hmk).1
  clear hmk hg3 hB3 hG m1 m2 hib hb0 hb1 hb2
  obtain ⟨n0, n1, n2⟩ := HN.out _ HB3.out
  go_wp2_with fail
  clear n0 n1 n2
  go_loopw [8] (fun iv wr => ∃ i : Nat, i ≤ m ∧ iv = .int .i64 i ∧ Hid (blR wr (w.heap.size + 1) G m m (stR S y T i)) ∧ Below (w.heap.size + 1) w1 wr) (fun iv _ => m - (intOf iv).toNat)
  case atStart => exact ⟨0, Nat.zero_le _, rfl, HO3, HB3.out⟩
  case round =>
    obtain ⟨i, hi, rfl, HX, hB⟩ := hrel
    have HBx := Lib.hid hB
    clear hB
    obtain ⟨n0, n1, n2⟩ := HN.out _ HBx.out
    by_cases hlti : i < m
    · have i0 : (0 : Int) ≤ (i : Int) := by omega
      have i1 : (i : Int) < (m : Int) := by omega
      obtain ⟨hbl, p0, p1, p2, p3, p4, p5, p6⟩ := (HS1.out.below (HZ.out ▸ HBx.out)) i hlti
      have hti := (HT1.out.below (HZ.out ▸ HBx.out)).2 i hlti
      have HSTEP : Hid (st1 S y T (stR S y T i) i = stR S y T (i + 1)) := Lib.hid rfl
      obtain ⟨r1, r2, r3, r4, r5, r6⟩ := HR.out i hlti
      obtain ⟨e1, e2, e3, e4⟩ := okWs_wd (HWS.out i hlti)
      generalize stR S y T i = V at *
      obtain ⟨A', hA'⟩ : ∃ A' : Nat, (S i).A = A' := ⟨(S i).A.toNat, by omega⟩
      obtain ⟨f, hf⟩ : ∃ f, sOf (S i) = f := ⟨_, rfl⟩
      rw [hf] at e1 e2 e3 e4
      rw [e1] at p3; rw [e2] at p4; rw [e3] at p5; rw [e4] at p6
      rw [hA'] at p1 r3 r4
      have f0 := HX.out.free A'
      have g0 := HX.out.cell A' (by omega)
      have HP := Lib.hid (HX.out.put A' true)
      have HSA : Hid ((S i).A.toNat = A') := Lib.hid (by rw [hA']; exact Int.toNat_natCast _)
      cases hTi : T i with
      | false =>
        rw [hTi] at hti
        have HE : Hid (st1 S y T V i = V) := Lib.hid (by unfold st1; rw [if_neg (by rw [hTi]; simp)])
        clear p0 p1 p2 p3 p4 p5 p6 r1 r2 r3 r4 r5 r6 e1 e2 e3 e4 hA' hf f0 g0 hbl hTi
        go_wp2_with fail
        go_roundw
        case rel => exact ⟨i + 1, by omega, by go_num, Lib.hid (HSTEP.out ▸ HE.out.symm ▸ HX.out), HBx.out⟩
        case measure => simp [intOf]; omega
      | true =>
        rw [hTi] at hti
        obtain ⟨kk, hkk⟩ : ∃ kk, (S i).k = kk := ⟨_, rfl⟩
        rw [hkk] at p0
        by_cases hk1 : kk = 1
        · subst hk1
          have HF : Hid (sOf (S i) y = f y) := Lib.hid (by rw [hf])
          have HKK := Lib.hid hkk
          have HTi := Lib.hid hTi
          clear r1 r2 r5 r6 e1 e2 e3 e4 hA' hf hTi hkk hbl
          obtain ⟨fy, hfy⟩ : ∃ fy, f y = fy := ⟨_, rfl⟩
          have hcall := HHas.out f
          rw [hfy] at hcall HF
          have HC := Lib.hid hcall
          clear hcall hfy
          go_wp2_with fail
          refine (HC.out _).mono ?_
          rintro e w5 ⟨rfl, hb⟩
          have hB5 := HBx.out.trans (hb.mono (by have := HBx.out.size; have := HZ.out; omega))
          have HB5 := Lib.hid hB5
          have HX5 := Lib.hid (HX.out.below hb)
          have f5 := HX5.out.free A'
          have g5 := HX5.out.cell A' (by omega)
          have HP5 := Lib.hid (HX5.out.put A' true)
          have HBP5 := Lib.hid (HB5.out.setCell (p := ⟨G, A', none⟩) HG.out (.bool true))
          obtain ⟨n0', n1', n2'⟩ := HN.out _ HB5.out
          have p1' := (hb.cell (p := ⟨b, off + i * 7 + 1, none⟩) ((HS1.out.below (HZ.out ▸ HBx.out)) i hlti).1).trans p1
          clear hB5 hb p0 p1 p2 p3 p4 p5 p6 n0 n1 n2 f0 g0 hti
          cases fy with
          | false =>
            have HE : Hid (st1 S y T V i = V) := Lib.hid (by unfold st1; rw [if_neg (by rw [HF.out]; simp)])
            go_wp2_with fail
            go_roundw
            case rel => exact ⟨i + 1, by omega, by go_num, Lib.hid (HSTEP.out ▸ HE.out.symm ▸ HX5.out), HB5.out⟩
            case measure => simp [intOf]; omega
          | true =>
            have HE : Hid (st1 S y T V i = putT V A' true) := Lib.hid (by unfold st1; rw [if_pos ⟨HTi.out, HKK.out, HF.out⟩, HSA.out])
            go_wp2_with fail
            go_roundw
            case rel => exact ⟨i + 1, by omega, by go_num, Lib.hid (HSTEP.out ▸ HE.out.symm ▸ HP5.out), HBP5.out⟩
            case measure => simp [intOf]; omega
        · have d1 : (kk == 1) = false := beq_eq_false_iff_ne.2 hk1
          have HE : Hid (st1 S y T V i = V) := Lib.hid (by unfold st1; rw [if_neg (by rw [hkk]; exact fun h => hk1 h.2.1)])
          clear p1 p2 p3 p4 p5 p6 r1 r2 r3 r4 r5 r6 e1 e2 e3 e4 hA' hf f0 g0 hbl hTi hkk hk1
          go_wp2_with fail
          go_roundw
          case rel => exact ⟨i + 1, by omega, by go_num, Lib.hid (HSTEP.out ▸ HE.out.symm ▸ HX.out), HBx.out⟩
          case measure => simp [intOf]; omega
    · obtain rfl : i = m := by omega
      have HB4 := Lib.hid (HB1.out.trans (HBx.out.mono (Nat.le_succ _)))
      have HCL := Lib.hid (rcl_is b off i cap G i S (stR S y T i) st fin 0 hm hpos HR.out _ (HS1.out.below (HZ.out ▸ HBx.out)) HX.out.rd)
      go_wp2_with fail
      refine HCL.out.mono ?_
      rintro e w6 ⟨G', C', rfl, ho, hb⟩
      have HO6 := Lib.hid (owns_mono ho (Nat.le_trans HB4.out.size (Nat.le_refl _)))
      have HB6 := Lib.hid (HB4.out.trans (hb.mono HB4.out.size))
      clear ho hb
      go_wp2_with fail
      go_returns
      exact ⟨_, _, rfl, HO6.out, HB6.out⟩
end Go.Proofs.Ytepegohopgnmnaa

namespace Go.Proofs.Ytepegohopgnmnaa
open Go.RowKit

/-- Numbers that are read, as many as n. -/
def rdL (w : World) (p : Option Addr) (n : Nat) (l : Nat → Int) : Prop := ∀ j, j < n → ∃ b o, p = some ⟨b, o, none⟩ ∧ b < w.heap.size ∧ w.cell? ⟨b, o + j, none⟩ = some (.int .i64 (l j))
theorem rdL.below {w w' : World} {p : Option Addr} {n : Nat} {l : Nat → Int} (h : rdL w p n l) (hb : Below w.heap.size w w') : rdL w' p n l := fun j hj => by
  obtain ⟨b, o, h1, h2, h3⟩ := h j hj
  exact ⟨b, o, h1, Nat.lt_of_lt_of_le h2 hb.size, by rw [hb.cell (p := ⟨b, o + j, none⟩) h2]; exact h3⟩
/-- What the first k of them name. -/
def inL (m : Nat) (l : Nat → Int) : Nat → Nat → Bool
  | 0 => fun _ => false
  | k + 1 => if 0 ≤ l k ∧ l k < m then putT (inL m l k) (l k).toNat true else inL m l k
theorem inL_iff {m : Nat} {l : Nat → Int} : ∀ {k q}, q < m → (inL m l k q = true ↔ ∃ i, i < k ∧ l i = (q : Int))
  | 0, q, _ => Iff.intro (fun h => by simp [inL] at h) (fun ⟨_, h, _⟩ => absurd h (Nat.not_lt_zero _))
  | k + 1, q, hq => by
    have ih := inL_iff (l := l) (k := k) hq
    unfold inL
    by_cases h : 0 ≤ l k ∧ l k < m
    · rw [if_pos h]
      constructor
      · intro g
        rcases putT_or g with g | g
        · obtain ⟨i, k1, k2⟩ := ih.1 g
          exact ⟨i, by omega, k2⟩
        · exact ⟨k, by omega, by omega⟩
      · rintro ⟨i, k1, k2⟩
        by_cases e : i = k
        · subst e
          have : q = (l i).toNat := by omega
          rw [this]; exact putT_at
        · exact putT_le (ih.2 ⟨i, by omega, k2⟩)
    · rw [if_neg h]
      constructor
      · intro g
        obtain ⟨i, k1, k2⟩ := ih.1 g
        exact ⟨i, by omega, k2⟩
      · rintro ⟨i, k1, k2⟩
        by_cases e : i = k
        · subst e; omega
        · exact ih.2 ⟨i, by omega, k2⟩

set_option maxRecDepth 100000 in
set_option maxHeartbeats 20000000 in
theorem rof9_is (b off m cap : Nat) (st fin : Int) (hm : m ≤ 1000) (_hpos : 0 < m) (p : Option Addr) (n c : Nat) (l : Nat → Int) (hn : n ≤ 1000) (w : World) (hl : rdL w p n l) :
    Calls Try.prog 28 #[.agg #[.slice (some ⟨b, off, none⟩) m cap, .int .i64 st, .int .i64 fin], .slice p n c] w fun e w' => ∃ G, e = .returned (.slice (some ⟨G, 0, none⟩) m m) ∧ blR w' w.heap.size G m m (inL m l n) ∧ Below w.heap.size w w' := by
  obtain ⟨ib, hib, hb0, hb1, hb2⟩ := info_parts infoBool9
  obtain ⟨w1, hw1⟩ : ∃ w1, w.alloc (.cells #[.slice (some ⟨b, off, none⟩) m cap, .int .i64 st, .int .i64 fin] 24) = w1 := ⟨_, rfl⟩
  have hz : w1.heap.size = w.heap.size + 1 := by rw [← hw1]; simp
  have hal : Below w.heap.size w w1 := hw1 ▸ (Below.refl _ _).alloc (Nat.le_refl _) _
  have HB1 := Lib.hid hal
  have HL1 := Lib.hid (hl.below hal)
  have HW1 := Lib.hid hw1
  have HZ := Lib.hid hz
  have m1 : Hid ((1 : Nat) * m ≤ 281474976710656) := Lib.hid (by omega)
  have m2 : Hid (m ≤ maxLen) := Lib.hid (by unfold maxLen; omega)
  have m0 : (0 : Int) ≤ (m : Int) := by omega
  clear hw1 hal hl hz
  go_enter Try.func28, Try.ntmps28
  go_wp2_with (rw [HW1.out]; refine wpList_make_full _ rfl _ _ 28 rfl (w.heap.size + 1) 4 ib (.bool false) 1 Try.underlying28 hib hb0 hb1 .i64 .i64 (m : Int) (m : Int) m rfl rfl (by omega) (by omega) (by rw [hb2]; exact m1.out) m2.out (by have := HZ.out; omega) ?_)
  intro w3 hmk hg3
  rw [made_bls] at hmk
  have hB3 : Below (w.heap.size + 1) w1 w3 := (Below.refl _ _).grown hg3 (by have := HZ.out; omega) (fun r hr => by cases hr)
  obtain ⟨G, hG⟩ : ∃ G, w1.heap.size = G := ⟨_, rfl⟩
  rw [hG] at hmk ⊢
  have HO3 : Hid (blR w3 (w.heap.size + 1) G m m (inL m l 0)) := Lib.hid hmk
  have HB3 := Lib.hid hB3
  have HG : Hid (w.heap.size + 1 ≤ G) := Lib.hid (blR.lt (T := inL m l 0) hmk).1
  clear hmk hg3 hB3 hG m1 m2 hib hb0 hb1 hb2
  go_wp2_with fail
  go_loopw [6] (fun iv wr => ∃ i : Nat, i ≤ n ∧ iv = .int .i64 i ∧ Hid (blR wr (w.heap.size + 1) G m m (inL m l i)) ∧ Below (w.heap.size + 1) w1 wr) (fun iv _ => n - (intOf iv).toNat)
  case atStart => exact ⟨0, Nat.zero_le _, rfl, HO3, HB3.out⟩
  case round =>
    obtain ⟨i, hi, rfl, HX, hB⟩ := hrel
    have HBx := Lib.hid hB
    clear hB
    by_cases hlti : i < n
    · have i0 : (0 : Int) ≤ (i : Int) := by omega
      have i1 : (i : Int) < (n : Int) := by omega
      obtain ⟨lb, lo, rfl, hlb, hlc⟩ := (HL1.out.below (HZ.out ▸ HBx.out)) i hlti
      have HSTEP : Hid ((if 0 ≤ l i ∧ l i < m then putT (inL m l i) (l i).toNat true else inL m l i) = inL m l (i + 1)) := Lib.hid rfl
      generalize inL m l i = V at *
      obtain ⟨x, hx⟩ : ∃ x, l i = x := ⟨_, rfl⟩
      rw [hx] at hlc HSTEP
      clear hx
      by_cases h0 : 0 ≤ x
      · obtain ⟨A', rfl⟩ : ∃ A' : Nat, x = A' := ⟨x.toNat, by omega⟩
        have d0 : decide ((0 : Int) ≤ (A' : Int)) = true := decide_eq_true h0
        by_cases h1 : A' < m
        · have d1 : decide ((A' : Int) < (m : Int)) = true := decide_eq_true (by omega)
          have d1' : (A' : Int) < (m : Int) := by omega
          have f0 := HX.out.free A'
          have g0 := HX.out.cell A' h1
          have HP := Lib.hid (HX.out.put A' true)
          have HBP := Lib.hid (HBx.out.setCell (p := ⟨G, A', none⟩) HG.out (.bool true))
          have HE : Hid (putT V A' true = inL m l (i + 1)) := Lib.hid (by rw [← HSTEP.out, if_pos ⟨h0, by omega⟩, Int.toNat_natCast])
          clear HSTEP h1
          go_wp2_with fail
          go_roundw
          case rel => exact ⟨i + 1, by omega, by go_num, Lib.hid (HE.out ▸ HP.out), HBP.out⟩
          case measure => simp [intOf]; omega
        · have d1 : decide ((A' : Int) < (m : Int)) = false := decide_eq_false (by omega)
          have HE : Hid (V = inL m l (i + 1)) := Lib.hid (by rw [← HSTEP.out, if_neg (by omega)])
          clear HSTEP
          go_wp2_with fail
          go_roundw
          case rel => exact ⟨i + 1, by omega, by go_num, Lib.hid (HE.out ▸ HX.out), HBx.out⟩
          case measure => simp [intOf]; omega
      · have d0 : decide ((0 : Int) ≤ x) = false := decide_eq_false h0
        have HE : Hid (V = inL m l (i + 1)) := Lib.hid (by rw [← HSTEP.out, if_neg (by omega)])
        clear HSTEP
        go_wp2_with fail
        go_roundw
        case rel => exact ⟨i + 1, by omega, by go_num, Lib.hid (HE.out ▸ HX.out), HBx.out⟩
        case measure => simp [intOf]; omega
    · obtain rfl : i = n := by omega
      have HB4 := Lib.hid (HB1.out.trans (HBx.out.mono (Nat.le_succ _)))
      have HO4 := Lib.hid (owns_mono HX.out (Nat.le_succ w.heap.size))
      go_wp2_with fail
      go_returns
      exact ⟨_, rfl, HO4.out, HB4.out⟩
end Go.Proofs.Ytepegohopgnmnaa

namespace Go.Proofs.Ytepegohopgnmnaa
open Go.RowKit

/-- A rising list of what is true. -/
def trs (T : Nat → Bool) (m : Nat) : List Nat := (List.range m).filter fun j => T j
theorem trs_len (T : Nat → Bool) (m : Nat) : (trs T m).length = cntT T m := rfl
theorem trs_at {T : Nat → Bool} : ∀ {m i}, i < m → T i = true → (trs T m)[cntT T i]? = some i
  | 0, i, h, _ => absurd h (Nat.not_lt_zero _)
  | m + 1, i, h, hT => by
    have es : trs T (m + 1) = trs T m ++ [m].filter fun j => T j := by unfold trs; rw [List.range_succ, List.filter_append]
    rw [es]
    by_cases e : i = m
    · subst e
      rw [List.getElem?_append_right (show (trs T i).length ≤ cntT T i from Nat.le_refl _), List.filter_cons_of_pos hT]
      rw [show cntT T i - (trs T i).length = 0 from Nat.sub_self _]; rfl
    · have hm := trs_at (m := m) (i := i) (by omega) hT
      have hlt : cntT T i < (trs T m).length := by
        rcases Nat.lt_or_ge (cntT T i) (trs T m).length with g | g
        · exact g
        · rw [List.getElem?_eq_none g] at hm; cases hm
      rw [List.getElem?_append_left hlt]
      exact hm

end Go.Proofs.Ytepegohopgnmnaa

namespace Go.Proofs.Ytepegohopgnmnaa
open Go.RowKit

theorem eq_set_any (d : Nat) (x0 x1 x2 x3 y0 y1 y2 y3 : Int) (w : World) :
    (Op.equalIn (d + 2) 62 (.agg #[.int .u64 x0, .int .u64 x1, .int .u64 x2, .int .u64 x3]) (.agg #[.int .u64 y0, .int .u64 y1, .int .u64 y2, .int .u64 y3])).run Try.prog w = .ok (x0 == y0 && x1 == y1 && x2 == y2 && x3 == y3) w := by
  have hs : ∀ w, (sizeOf 60).run Try.prog w = .ok 1 w := fun _ => by kernel_rfl
  have hp : ∀ (xs : Array Value) (i : Nat) (v : Value) (w : World), xs[i]? = some v → (part 60 xs i).run Try.prog w = .ok v w := by
    intro xs i v w hv
    simp [part, go_sem, hv, isAgg, run_underlying Try.underlying60]
  have e : ∀ (x y : Int) (w : World), (Op.equalIn (d + 1) 60 (.int .u64 x) (.int .u64 y)).run Try.prog w = .ok (x == y) w := fun x y w => by
    rw [run_equalIn_int w d 60 .u64 .u64 x y Try.underlying60]
  rw [show d + 2 = (d + 1) + 1 from rfl, Op.equalIn]
  simp only [Sem.run_bind, run_underlying Try.underlying62, Result.andThen_ok, hs, Std.Legacy.Range.forIn_eq_forIn_range', Std.Legacy.Range.size]
  by_cases h0 : x0 = y0 <;> by_cases h1 : x1 = y1 <;> by_cases h2 : x2 = y2 <;> by_cases h3 : x3 = y3 <;> simp [List.range', hp, e, h0, h1, h2, h3]

theorem eq_node (k x0 x1 x2 x3 l h k' y0 y1 y2 y3 l' h' : Int) (w : World) :
    (Op.equalIn 10000 71 (.agg #[.int .i64 k, .int .u64 x0, .int .u64 x1, .int .u64 x2, .int .u64 x3, .int .i64 l, .int .i64 h]) (.agg #[.int .i64 k', .int .u64 y0, .int .u64 y1, .int .u64 y2, .int .u64 y3, .int .i64 l', .int .i64 h'])).run Try.prog w =
      .ok (k == k' && ((x0 == y0 && x1 == y1 && x2 == y2 && x3 == y3) && (l == l' && h == h'))) w := by
  rw [show (10000 : Nat) = 9999 + 1 from rfl, run_equalIn_struct w 9999 71 _ _ (by kernel_rfl) (by kernel_rfl)]
  have hs : ∀ (b c d e f g h : Int) (w : World), (part 62 #[.int .i64 b, .int .u64 c, .int .u64 d, .int .u64 e, .int .u64 f, .int .i64 g, .int .i64 h] 1).run Try.prog w = .ok (.agg #[.int .u64 c, .int .u64 d, .int .u64 e, .int .u64 f]) w := fun _ _ _ _ _ _ _ _ => by kernel_rfl
  have h0 : ∀ (b c d e f g h : Int) (w : World), (part 3 #[.int .i64 b, .int .u64 c, .int .u64 d, .int .u64 e, .int .u64 f, .int .i64 g, .int .i64 h] 0).run Try.prog w = .ok (.int .i64 b) w := fun _ _ _ _ _ _ _ _ => by kernel_rfl
  have h5 : ∀ (b c d e f g h : Int) (w : World), (part 3 #[.int .i64 b, .int .u64 c, .int .u64 d, .int .u64 e, .int .u64 f, .int .i64 g, .int .i64 h] 5).run Try.prog w = .ok (.int .i64 g) w := fun _ _ _ _ _ _ _ _ => by kernel_rfl
  have h6 : ∀ (b c d e f g h : Int) (w : World), (part 3 #[.int .i64 b, .int .u64 c, .int .u64 d, .int .u64 e, .int .u64 f, .int .i64 g, .int .i64 h] 6).run Try.prog w = .ok (.int .i64 h) w := fun _ _ _ _ _ _ _ _ => by kernel_rfl
  have ei : ∀ (x y : Int) (w : World), (Op.equalIn 9999 3 (.int .i64 x) (.int .i64 y)).run Try.prog w = .ok (x == y) w := fun x y w => run_equalIn_int w 9998 3 .i64 .i64 x y Try.underlying3
  have es : ∀ (a b c d e f g h : Int) (w : World), (Op.equalIn 9999 62 (.agg #[.int .u64 a, .int .u64 b, .int .u64 c, .int .u64 d]) (.agg #[.int .u64 e, .int .u64 f, .int .u64 g, .int .u64 h])).run Try.prog w = .ok (a == e && b == f && c == g && d == h) w := fun a b c d e f g h w => eq_set_any 9997 a b c d e f g h w
  simp only [Program.fieldsOf, Try.underlying71]
  cases ek : (k == k') <;> cases eS : (x0 == y0 && x1 == y1 && x2 == y2 && x3 == y3) <;> cases el : (l == l') <;> cases eh : (h == h') <;> simp [Op.eqFields, hs, h0, h5, h6, ei, es, ek, eS, el, eh]

end Go.Proofs.Ytepegohopgnmnaa
