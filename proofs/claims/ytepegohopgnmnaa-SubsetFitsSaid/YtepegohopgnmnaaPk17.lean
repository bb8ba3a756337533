/-
  The walks of alpha's ends and within.
  What symbols are alike to no states, and to one more. Plain.
  Where a decided automaton leads symbols. Plain.
  The walks of the eleventh reference's Go, Word and Run.
  The walk of the ninth reference's Make at a node that is repeated, and by recursion.
-/
import Derived.Test.YtepegohopgnmnaaPk16
import Derived.Test.YtepegohopgnmnaaPk14
import Derived.Test.YtepegohopgnmnaaPk15
import Derived.Deep.RegionHeldLaw
import Derived.Deep.RegionWith
namespace Go.Proofs.Ytepegohopgnmnaa
open Go.RowKit

def endF (x : Nat) : Int := if x < 256 then 0 else (x : Int) - 255
def wiF (f : Nat → Bool) (x : Nat) : Int := if x < 256 ∧ f x = true then 1 else 0
/-- What is in the first j of a list of bytes. -/
def wiJ (l : List Nat) (j : Nat) (x : Nat) : Int := if x ∈ l.take j then 1 else 0
theorem wiJ_zero (l : List Nat) (x : Nat) : wiJ l 0 x = 0 := by simp [wiJ]
theorem wiJ_succ {l : List Nat} {j b : Nat} (h : l[j]? = some b) : putF (wiJ l j) b 1 = wiJ l (j + 1) := by
  funext x
  unfold putF wiJ
  have e : l.take (j + 1) = l.take j ++ [b] := by rw [List.take_add_one, h]; rfl
  rw [e]
  by_cases hx : x = b
  · subst hx; simp
  · rw [if_neg hx]
    have : x ∈ l.take j ++ [b] ↔ x ∈ l.take j := by simp [hx]
    by_cases hm : x ∈ l.take j
    · rw [if_pos hm, if_pos (this.2 hm)]
    · rw [if_neg hm, if_neg (fun h => hm (this.1 h))]
theorem wiJ_end (f : Nat → Bool) (x : Nat) : wiJ (bl f 256) (bl f 256).length x = wiF f x := by
  unfold wiJ wiF
  rw [List.take_length]
  have : x ∈ bl f 256 ↔ x < 256 ∧ f x = true := by unfold bl; rw [List.mem_filter, List.mem_range]
  by_cases h : x ∈ bl f 256
  · rw [if_pos h, if_pos (this.1 h)]
  · rw [if_neg h, if_neg (fun g => h (this.2 g))]

set_option maxRecDepth 100000 in
set_option maxHeartbeats 4000000 in
theorem ends_is (w : World) : Calls Try.prog 41 #[] w fun e w' => ∃ g, e = .returned (.tuple #[.slice (some ⟨g, 0, none⟩) 259 259, .int .i64 4]) ∧ rdL w' (some ⟨g, 0, none⟩) 259 endF ∧ Below w.heap.size w w' := by
  go_enter Try.func41, Try.ntmps41
  go_wp2_with (refine make_ints rfl _ _ rfl w.heap.size 259 rfl rfl (by omega) (Nat.le_refl _) ?_)
  intro w1 ho hb
  obtain ⟨g, hg⟩ : ∃ g, w.heap.size = g := ⟨_, rfl⟩
  rw [hg] at ho ⊢
  have hgl := ho.lt
  have o1 := ho.put 256 1
  have o2 := o1.put 257 2
  have o3 := o2.put 258 3
  have HO := Lib.hid o3
  have HB : Hid (Below g w (((w1.setCell ⟨g, 256, none⟩ (.int .i64 1)).setCell ⟨g, 257, none⟩ (.int .i64 2)).setCell ⟨g, 258, none⟩ (.int .i64 3))) := Lib.hid ((((hg ▸ hb).setCell (p := ⟨g, 256, none⟩) (Nat.le_refl _) _).setCell (p := ⟨g, 257, none⟩) (Nat.le_refl _) _).setCell (p := ⟨g, 258, none⟩) (Nat.le_refl _) _)
  have f0 := ho.free 256
  have f1 := o1.free 257
  have f2 := o2.free 258
  have c0 := ho.cell 256 (by decide)
  have c1 := o1.cell 257 (by decide)
  have c2 := o2.cell 258 (by decide)
  have HE : Hid (∀ x, x < 259 → putF (putF (putF (fun _ => 0) 256 1) 257 2) 258 3 x = endF x) := Lib.hid fun x hx => by
    unfold putF endF
    by_cases h : x < 256
    · rw [if_neg (by omega), if_neg (by omega), if_neg (by omega), if_pos h]
    · rw [if_neg h]
      rcases (by omega : x = 256 ∨ x = 257 ∨ x = 258) with rfl | rfl | rfl <;> rfl
  clear o1 o2 o3 ho hb
  go_wp2_with fail
  go_returns
  exact ⟨g, rfl, (HO.out.same HE.out).rd, hg.symm ▸ HB.out⟩

set_option maxRecDepth 100000 in
set_option maxHeartbeats 8000000 in
theorem within_is (f : Nat → Bool) (w : World) : Calls Try.prog 43 #[svr f] w fun e w' => ∃ g, e = .returned (.slice (some ⟨g, 0, none⟩) 259 259) ∧ rdL w' (some ⟨g, 0, none⟩) 259 (wiF f) ∧ Below w.heap.size w w' := by
  have HBy := Lib.hid (fun w => bytes_any f w)
  have HEnd := Lib.hid (wiJ_end f)
  have HBl : Hid (∀ x, x ∈ bl f 256 → x < 256) := Lib.hid (bl_bytes f 256)
  have HLe : Hid ((bl f 256).length ≤ 256) := Lib.hid (bl_le f 256)
  generalize hF : wiF f = F at *
  obtain ⟨L, hL⟩ : ∃ L, bl f 256 = L := ⟨_, rfl⟩
  rw [hL] at HEnd HBl HLe
  have HBy : Hid (∀ w, Calls Try.prog 66 #[svr f] w fun e w' => ∃ v, e = .returned v ∧ w'.ownsRow (w.heap.size + 1) 5 1 v L.length (u8s L) ∧ Below w.heap.size w w') := Lib.hid (fun w => by rw [← hL]; exact HBy.out w)
  clear hL hF
  obtain ⟨W, hW⟩ : ∃ W, w.alloc (.cells #[.int .u64 (wd f 0 : Int), .int .u64 (wd f 1 : Int), .int .u64 (wd f 2 : Int), .int .u64 (wd f 3 : Int)] 62) = W := ⟨_, rfl⟩
  obtain ⟨b, hb⟩ : ∃ b, w.heap.size = b := ⟨_, rfl⟩
  have hz : W.heap.size = b + 1 := by rw [← hW, World.size_alloc, hb]
  have hbw : Below b w W := hW ▸ (Below.refl _ _).alloc (by omega) _
  have hbk : W.heap[b]? = some (.cells #[.int .u64 (wd f 0 : Int), .int .u64 (wd f 1 : Int), .int .u64 (wd f 2 : Int), .int .u64 (wd f 3 : Int)] 62 (0, 0)) := by
    rw [← hW, ← hb]; exact heap_alloc_new w _
  have HW := Lib.hid hW
  have HZ := Lib.hid hz
  have HBW := Lib.hid hbw
  have HBK := Lib.hid hbk
  have HGb := Lib.hid hb
  clear hbw hbk hW
  go_enter Try.func43, Try.ntmps43
  go_upto_region 1 with (fail)
  rw [HW.out]
  go_wp2_with (refine make_ints rfl _ _ rfl (b + 1) 259 rfl rfl (by omega) (by omega) ?_)
  intro w1 ho hb1
  have HO1 := Lib.hid (ho.same (f' := wiJ L 0) fun j _ => (wiJ_zero L j).symm)
  have HB1 := Lib.hid hb1
  have HK1 : Hid (w1.heap[b]? = some (.cells #[.int .u64 (wd f 0 : Int), .int .u64 (wd f 1 : Int), .int .u64 (wd f 2 : Int), .int .u64 (wd f 3 : Int)] 62 (0, 0))) := Lib.hid ((hb1.block b (Nat.lt_succ_self b)).trans HBK.out)
  have hl1 := ho.lt
  clear ho hb1 HBK
  have c0 : w1.cell? ⟨b, 0, none⟩ = some (.int .u64 (wd f 0 : Int)) := by simp [World.cell?, HK1.out]
  have c1 : w1.cell? ⟨b, 1, none⟩ = some (.int .u64 (wd f 1 : Int)) := by simp [World.cell?, HK1.out]
  have c2 : w1.cell? ⟨b, 2, none⟩ = some (.int .u64 (wd f 2 : Int)) := by simp [World.cell?, HK1.out]
  have c3 : w1.cell? ⟨b, 3, none⟩ = some (.int .u64 (wd f 3 : Int)) := by simp [World.cell?, HK1.out]
  go_wp2_with fail
  refine (HBy.out _).mono ?_
  rintro e w2 ⟨v, rfl, hv, hb2⟩
  have HV := Lib.hid hv
  have HO2 := Lib.hid (HO1.out.below hb2)
  have HB2 := Lib.hid (HB1.out.trans (hb2.mono (hz ▸ HB1.out.size)))
  have hv2 : ∃ p c, v = .slice p L.length c := by
    rcases id hv.2 with ⟨rfl, h0⟩ | ⟨g, cap, cur, rfl, _⟩
    · exact ⟨none, 0, by rw [h0]⟩
    · exact ⟨_, cap, rfl⟩
  obtain ⟨p, c, rfl⟩ := hv2
  have n0 : (0 : Int) ≤ (L.length : Int) := by omega
  clear hv hb2 c0 c1 c2 c3 HO1 HB1 HK1
  have hLe := HLe.out
  go_wp2_with fail
  go_loopw [10] (fun iv wr => ∃ i : Nat, i ≤ L.length ∧ iv = .int .i64 i ∧ Hid (ipR wr (b + 1) (b + 1) 259 (wiJ L i)) ∧ Hid (wr.ownsRow (w1.heap.size + 1) 5 1 (.slice p L.length c) L.length (u8s L)) ∧ Hid (Below (b + 1) W wr)) (fun iv _ => L.length - (intOf iv).toNat)
  case atStart => exact ⟨0, Nat.zero_le _, rfl, HO2, HV, HB2⟩
  case round =>
    clear HO2 HB2 HV
    obtain ⟨i, hi, rfl, HO, HV, HB⟩ := hrel
    by_cases hlti : i < L.length
    · have i0 : (0 : Int) ≤ (i : Int) := by omega
      have i1 : (i : Int) < (L.length : Int) := by omega
      obtain ⟨x, hx⟩ : ∃ x, L[i]? = some x := ⟨L[i], List.getElem?_eq_getElem hlti⟩
      have hx8 := HBl.out x (List.mem_of_getElem? hx)
      obtain ⟨g, rfl, hg⟩ : ∃ g, p = some ⟨g, 0, none⟩ ∧ wr.cell? ⟨g, i, none⟩ = some (.int .u8 (x : Int)) := by
        rcases id HV.out.2 with ⟨e, _⟩ | ⟨g, cp, cur, e, _⟩
        · have e2 := (Value.slice.inj e).2.1; omega
        · cases e
          refine ⟨g, rfl, ?_⟩
          rw [World.ownsRow.cellAt HV.out i (by omega)]
          simp [u8s, hx]
      have x0 : (0 : Int) ≤ (x : Int) := by omega
      have x1 : (x : Int) < 259 := by omega
      have f0 := HO.out.free x
      have g0 := HO.out.cell x (by omega)
      have HO2 : Hid (ipR (wr.setCell ⟨b + 1, x, none⟩ (.int .i64 1)) (b + 1) (b + 1) 259 (wiJ L (i + 1))) := Lib.hid (by have := HO.out.put x 1; rw [wiJ_succ hx] at this; exact this)
      have HV2 : Hid ((wr.setCell ⟨b + 1, x, none⟩ (.int .i64 1)).ownsRow (w1.heap.size + 1) 5 1 (.slice (some ⟨g, 0, none⟩) L.length c) L.length (u8s L)) := Lib.hid (ownsRow_setCell_below HV.out (by show b + 1 < w1.heap.size + 1; omega) _)
      have HB2 : Hid (Below (b + 1) W (wr.setCell ⟨b + 1, x, none⟩ (.int .i64 1))) := Lib.hid (HB.out.setCell (p := ⟨b + 1, x, none⟩) (Nat.le_refl _) _)
      clear hx HO HV HB
      go_wp2_with fail
      go_roundw
      case rel => exact ⟨i + 1, by omega, by go_num, HO2, HV2, HB2⟩
      case measure => simp [intOf]; omega
    · obtain rfl : i = L.length := by omega
      have HR : Hid (rdL wr (some ⟨b + 1, 0, none⟩) 259 F) := Lib.hid (HO.out.same fun j _ => HEnd.out j).rd
      have HE : Hid (Below w.heap.size w wr) := Lib.hid (HGb.out.symm ▸ HBW.out.trans (HB.out.mono (Nat.le_succ b)))
      clear HO HV HB
      go_wp2_with fail
      go_returns
      exact ⟨_, rfl, HR.out, HE.out⟩
end Go.Proofs.Ytepegohopgnmnaa

namespace Go.Proofs.Ytepegohopgnmnaa

theorem alk_zero {S : Nat → Sd} {x y : Nat} : alk S 0 x y = true ↔ x = y ∨ (x ≤ 255 ∧ y ≤ 255) := by
  rw [alk_iff]
  constructor
  · rintro (h | ⟨h1, h2, _⟩)
    · exact .inl h
    · exact .inr ⟨h1, h2⟩
  · rintro (h | ⟨h1, h2⟩)
    · exact .inl h
    · exact .inr ⟨h1, h2, fun i hi => absurd hi (Nat.not_lt_zero _)⟩
theorem hdA_bytes {S : Nat → Sd} {x : Nat} (h : x ≤ 255) : hdA (alk S 0) x = 0 := by
  rcases Nat.eq_zero_or_pos x with rfl | h0
  · exact hdA_self fun j hj => absurd hj (Nat.not_lt_zero _)
  · exact hdA_is h0 (alk_zero.2 (.inr ⟨by omega, h⟩)) fun j hj => absurd hj (Nat.not_lt_zero _)
theorem hdA_ends {S : Nat → Sd} {x : Nat} (h : 255 < x) : hdA (alk S 0) x = x := hdA_self fun j hj => by
  cases e : alk S 0 j x with
  | false => rfl
  | true => rcases alk_zero.1 e with h | h <;> omega
theorem cnt_bytes (S : Nat → Sd) : ∀ n, n ≤ 255 → cntT (isH (alk S 0)) (n + 1) = 1
  | 0, _ => by
    rw [cntT_succ]
    have : isH (alk S 0) 0 = true := by unfold isH; rw [beq_iff_eq]; exact hdA_bytes (by omega)
    rw [if_pos this]; rfl
  | n + 1, h => by
    have : isH (alk S 0) (n + 1) = false := by unfold isH; rw [hdA_bytes h]; simp
    rw [cntT_succ, cnt_bytes S n (by omega), this]; rfl
theorem cnt_ends (S : Nat → Sd) : ∀ k, cntT (isH (alk S 0)) (256 + k) = 1 + k
  | 0 => cnt_bytes S 255 (by omega)
  | k + 1 => by
    have : isH (alk S 0) (256 + k) = true := by unfold isH; rw [beq_iff_eq]; exact hdA_ends (by omega)
    rw [show 256 + (k + 1) = (256 + k) + 1 by omega, cntT_succ, cnt_ends S k, if_pos this]; omega
theorem cl_zero (S : Nat → Sd) (x : Nat) : endF x = (clA (alk S 0) x : Nat) := by
  unfold endF clA
  by_cases h : x < 256
  · rw [if_pos h, hdA_bytes (by omega)]; rfl
  · rw [if_neg h, hdA_ends (by omega)]
    obtain ⟨k, rfl⟩ : ∃ k, x = 256 + k := ⟨x - 256, by omega⟩
    rw [cnt_ends]; omega
theorem wi_eq {f : Nat → Bool} {x y : Nat} (hx : x ≤ 255) (hy : y ≤ 255) : wiF f x = wiF f y ↔ f x = f y := by
  unfold wiF
  have h1 : x < 256 := by omega
  have h2 : y < 256 := by omega
  cases f x <;> cases f y <;> simp [h1, h2]
/-- A set more. -/
theorem alk_next (S : Nat → Sd) (i : Nat) : joR (fun x => (clA (alk S i) x : Nat)) (wiF (sOf (S i))) = alk S (i + 1) := by
  funext x y
  rw [Bool.eq_iff_iff, joR_iff, alk_iff]
  have h1 : (((clA (alk S i) x : Nat) : Int) = ((clA (alk S i) y : Nat) : Int)) ↔ (x = y ∨ (x ≤ 255 ∧ y ≤ 255 ∧ ∀ j, j < i → sOf (S j) x = sOf (S j) y)) := by
    rw [← alk_iff, ← clA_iff (alk_eq S i)]; omega
  rw [h1]
  constructor
  · rintro ⟨h | ⟨h2, h3, h4⟩, h5⟩
    · exact .inl h
    · refine .inr ⟨h2, h3, fun j hj => ?_⟩
      by_cases e : j = i
      · subst e; exact (wi_eq h2 h3).1 h5
      · exact h4 j (by omega)
  · rintro (rfl | ⟨h2, h3, h4⟩)
    · exact ⟨.inl rfl, rfl⟩
    · exact ⟨.inr ⟨h2, h3, fun j hj => h4 j (by omega)⟩, (wi_eq h2 h3).2 (h4 i (Nat.lt_succ_self i))⟩
theorem ofWords_none (x : Nat) : ofWords 0 0 0 0 x = false := by
  unfold ofWords
  simp
/-- A state without a set more. -/
theorem alk_skip {S : Nat → Sd} {i : Nat} (h : (S i).a = 0 ∧ (S i).b = 0 ∧ (S i).c = 0 ∧ (S i).d = 0) : alk S (i + 1) = alk S i := by
  have hs : ∀ x, sOf (S i) x = false := fun x => by
    unfold sOf
    rw [h.1, h.2.1, h.2.2.1, h.2.2.2]
    exact ofWords_none x
  funext x y
  rw [Bool.eq_iff_iff, alk_iff, alk_iff]
  constructor
  · rintro (h | ⟨h1, h2, h3⟩)
    · exact .inl h
    · exact .inr ⟨h1, h2, fun j hj => h3 j (by omega)⟩
  · rintro (h | ⟨h1, h2, h3⟩)
    · exact .inl h
    · refine .inr ⟨h1, h2, fun j hj => ?_⟩
      by_cases e : j = i
      · subst e; rw [hs, hs]
      · exact h3 j (by omega)
end Go.Proofs.Ytepegohopgnmnaa

namespace Go.Proofs.Ytepegohopgnmnaa

section
variable {go : Nat → Bf → Bf} {m width : Nat} {T0 : Bf}
/-- Where the set X goes by the first c classes stands behind what stood ahead. -/
theorem clM_nx {X : Bf} {s : Ms} : ∀ c, (∀ j, j < s.2.length → (clM go m X c s).2[j]? = s.2[j]?) ∧ ∀ d, d < c → ∃ k T, (clM go m X c s).2[s.2.length + d]? = some k ∧ (clM go m X c s).1[k]? = some T ∧ ∀ q, q < m → T q = go d X q
  | 0 => ⟨fun _ _ => rfl, fun d hd => absurd hd (Nat.not_lt_zero _)⟩
  | c + 1 => by
    obtain ⟨h1, h2⟩ := clM_nx (X := X) (s := s) c
    have hl := (clM_len (go := go) (m := m) (X := X) (s := s) c).2.2
    refine ⟨fun j hj => ?_, fun d hd => ?_⟩
    · show (_ ++ [_])[j]? = _
      rw [List.getElem?_append_left (by omega)]
      exact h1 j hj
    · by_cases e : d = c
      · subst e
        obtain ⟨T, g1, g2⟩ := fiS_at m (clM go m X d s).1 (go d X)
        refine ⟨_, T, ?_, g1, g2⟩
        show (_ ++ [_])[s.2.length + d]? = _
        rw [← hl]
        simp
      · obtain ⟨k, T, g1, g2, g3⟩ := h2 d (by omega)
        refine ⟨k, T, ?_, ?_, g3⟩
        · show (_ ++ [_])[s.2.length + d]? = _
          rw [List.getElem?_append_left (by omega)]
          exact g1
        · show (adS m _ _)[k]? = _
          rw [adS_old (by
            rcases Nat.lt_or_ge k (clM go m X c s).1.length with h | h
            · exact h
            · rw [List.getElem?_eq_none h] at g2; cases g2)]
          exact g2
theorem atM_nx : ∀ a, (∀ b, b < a → b < (atM go m width T0 b).1.length) → (atM go m width T0 a).2.length = a * width ∧ ∀ b, b < a → ∀ c, c < width → ∃ k X T, (atM go m width T0 a).2[b * width + c]? = some k ∧ (atM go m width T0 a).1[b]? = some X ∧ (atM go m width T0 a).1[k]? = some T ∧ ∀ q, q < m → T q = go c X q
  | 0, _ => ⟨by rw [Nat.zero_mul]; rfl, fun b hb => absurd hb (Nat.not_lt_zero _)⟩
  | a + 1, ha => by
    obtain ⟨h1, h2⟩ := atM_nx a fun b hb => ha b (by omega)
    have hal := ha a (Nat.lt_succ_self a)
    have hX := List.getElem?_eq_getElem hal
    generalize (atM go m width T0 a).1[a] = X at hX
    rw [atM_go hX]
    obtain ⟨g1, g2⟩ := clM_nx (go := go) (m := m) (X := X) (s := atM go m width T0 a) width
    refine ⟨by rw [(clM_len width).2.2, h1, Nat.succ_mul], fun b hb c hc => ?_⟩
    by_cases e : b = a
    · subst e
      obtain ⟨k, T, k1, k2, k3⟩ := g2 c hc
      rw [h1] at k1
      exact ⟨k, X, T, k1, by rw [clM_old hal]; exact hX, k2, k3⟩
    · obtain ⟨k, Y, T, k1, k2, k3, k4⟩ := h2 b (by omega) c hc
      have lt_of : ∀ {j : Nat} {Z : Bf}, (atM go m width T0 a).1[j]? = some Z → j < (atM go m width T0 a).1.length := fun {j Z} h => by
        rcases Nat.lt_or_ge j (atM go m width T0 a).1.length with g | g
        · exact g
        · rw [List.getElem?_eq_none g] at h; cases h
      have hlt : b * width + c < (atM go m width T0 a).2.length := by
        rw [h1]
        have : (b + 1) * width ≤ a * width := Nat.mul_le_mul_right width (by omega)
        rw [Nat.succ_mul] at this
        omega
      exact ⟨k, Y, T, by rw [g1 _ hlt]; exact k1, by rw [clM_old (lt_of k2)]; exact k2, by rw [clM_old (lt_of k3)]; exact k3, k4⟩
/-- All rounds are done: each state goes somewhere by each class. -/
theorem full_nx {most : Int} (h : ((fullM go m width T0 most).1.length : Int) ≤ most) :
    (fullM go m width T0 most).2.length = (fullM go m width T0 most).1.length * width ∧
    ∀ b, b < (fullM go m width T0 most).1.length → ∀ c, c < width → ∃ k X T, (fullM go m width T0 most).2[b * width + c]? = some k ∧ (fullM go m width T0 most).1[b]? = some X ∧ (fullM go m width T0 most).1[k]? = some T ∧ ∀ q, q < m → T q = go c X q := by
  have hK : (atM go m width T0 (rdM most)).1.length ≤ rdM most := by
    unfold fullM at h
    unfold rdM at h ⊢
    omega
  have main : ∀ K, (atM go m width T0 K).1.length ≤ K → ∃ a, a ≤ K ∧ (∀ b, b < a → b < (atM go m width T0 b).1.length) ∧ (atM go m width T0 a).1.length ≤ a := by
    intro K
    induction K with
    | zero => intro h; exact ⟨0, Nat.le_refl _, fun b hb => absurd hb (Nat.not_lt_zero _), h⟩
    | succ K ih =>
      intro h
      by_cases e : (atM go m width T0 K).1.length ≤ K
      · obtain ⟨a, h1, h2, h3⟩ := ih e
        exact ⟨a, by omega, h2, h3⟩
      · by_cases g : ∀ b, b < K + 1 → b < (atM go m width T0 b).1.length
        · exact ⟨K + 1, Nat.le_refl _, g, h⟩
        · simp only [Classical.not_forall] at g
          obtain ⟨b, hb, hn⟩ := g
          have hbK : (atM go m width T0 b).1.length ≤ b := by omega
          rw [atM_end (show b ≤ K by omega) hbK] at e
          omega
  obtain ⟨a, h1, h2, h3⟩ := main _ hK
  have e : fullM go m width T0 most = atM go m width T0 a := atM_end h1 h3
  have hal : (atM go m width T0 a).1.length = a := by
    refine Nat.le_antisymm h3 ?_
    rcases Nat.eq_zero_or_pos a with rfl | hp
    · omega
    · have g1 := h2 (a - 1) (by omega)
      have g2 := atM_le (go := go) (m := m) (width := width) (T0 := T0) (show a - 1 ≤ a by omega)
      omega
  rw [e, hal]
  exact atM_nx a h2
theorem full_zero {most : Int} : (fullM go m width T0 most).1[0]? = some T0 := by
  unfold fullM
  rw [atM_old (Nat.zero_le _) (by show 0 < 1; decide)]
  rfl
end

section
variable {S : Nat → Sd} {m : Nat}
theorem pT_eq {T U : Bf} : pT m T = pT m U ↔ ∀ q, q < m → T q = U q := by
  constructor
  · intro h q hq
    have := congrFun h q
    unfold pT at this
    rw [Bool.eq_iff_iff]
    constructor
    · intro g; exact (this.mp ⟨hq, g⟩).2
    · intro g; exact (this.mpr ⟨hq, g⟩).2
  · intro h
    funext q
    unfold pT
    by_cases hq : q < m
    · rw [h q hq]
    · simp [hq]
/-- A set goes where another one goes that is the same below m. -/
theorem goY_same (hr : rng S m) {y : Nat} {T U : Bf} (h : ∀ q, q < m → T q = U q) : ∀ q, q < m → goY S m y T q = goY S m y U q := by
  rw [← pT_eq] at h ⊢
  unfold goY
  split
  · rw [pT_up hr, pT_up hr, pT_st hr, pT_st hr, h]
  · rw [pT_up hr, pT_up hr, h]
/-- .. and by symbols that are alike to the same. -/
theorem goY_alike (hr : rng S m) {x y : Nat} (h : alk S m x y = true) {T : Bf} : ∀ q, q < m → goY S m x T q = goY S m y T q := by
  rcases alk_iff.1 h with rfl | ⟨h1, h2, h3⟩
  · exact fun _ _ => rfl
  · rw [← pT_eq]
    unfold goY
    rw [if_pos (by omega), if_pos (by omega), pT_up hr, pT_up hr, pT_st hr, pT_st hr]
    congr 1
    funext q
    apply propext
    constructor
    · rintro ⟨q0, g1, g2, g3, g4⟩; exact ⟨q0, g1, g2, by rw [← h3 q0 g1.1]; exact g3, g4⟩
    · rintro ⟨q0, g1, g2, g3, g4⟩; exact ⟨q0, g1, g2, by rw [h3 q0 g1.1]; exact g3, g4⟩
theorem fsY_hd {y : Nat} (hy : y < 259) : fsY S m (clA (alk S m) y) = hdA (alk S m) y := by
  have hR := alk_eq S m
  have hle := hdA_le (alk S m) y
  have e : (List.range 259).find? (fun i => (((clA (alk S m) i : Nat) : Int) == ((clA (alk S m) y : Nat) : Int))) = some (hdA (alk S m) y) := by
    refine find_range (by omega) ?_ fun j hj => ?_
    · simp only [beq_iff_eq]
      have := (clA_iff hR).2 (hdA_like hR.re y)
      omega
    · rw [beq_eq_false_iff_ne]
      intro h
      have : alk S m j y = true := (clA_iff hR).1 (by omega)
      rw [hdA_least hj] at this
      cases this
  unfold fsY fsA
  rw [e]
  simp
/-- A class goes where its symbols go. -/
theorem goC_is (hr : rng S m) {y : Nat} (hy : y < 259) {T : Bf} : ∀ q, q < m → goC S m (clA (alk S m) y) T q = goY S m y T q := by
  unfold goC
  rw [fsY_hd hy]
  exact goY_alike hr (hdA_like (alk_eq S m).re y)
/-- Where a state goes by a symbol. -/
def nxY (S : Nat → Sd) (m : Nat) (F : Ms) (s y : Nat) : Nat := F.2.getD (s * wdY S m + clA (alk S m) y) 0
theorem nxY_is {st most : Int} (hr : rng S m) (h : ((subM S m st most).1.length : Int) ≤ most) {s y : Nat} (hs : s < (subM S m st most).1.length) (hy : y < 259) {T X : Bf} (hX : (subM S m st most).1[s]? = some X) (hXT : ∀ q, q < m → X q = T q) :
    ∃ U, (subM S m st most).1[nxY S m (subM S m st most) s y]? = some U ∧ ∀ q, q < m → U q = goY S m y T q := by
  obtain ⟨-, h2⟩ := full_nx h
  obtain ⟨k, X', U, k1, k2, k3, k4⟩ := h2 s hs _ (clA_lt (alk_eq S m) hy)
  have e : X' = X := Option.some.inj (k2.symm.trans hX)
  subst e
  refine ⟨U, ?_, fun q hq => ?_⟩
  · unfold nxY
    rw [List.getD_eq_getElem?_getD]
    show (subM S m st most).1[((fullM (goC S m) m (wdY S m) (T0Y S m st) most).2[s * wdY S m + clA (alk S m) y]?).getD 0]? = some U
    unfold wdY at k1 ⊢
    rw [k1]
    exact k3
  · rw [k4 q hq, goC_is hr hy q hq]
    exact goY_same hr hXT q hq
/-- Where symbols lead. -/
def rnY (S : Nat → Sd) (m : Nat) (F : Ms) (s : Nat) (l : List Nat) : Nat := l.foldl (nxY S m F) s
def rnT (S : Nat → Sd) (m : Nat) (T : Bf) (l : List Nat) : Bf := l.foldl (fun T y => goY S m y T) T
theorem rnY_is {st most : Int} (hr : rng S m) (h : ((subM S m st most).1.length : Int) ≤ most) : ∀ (l : List Nat), (∀ y, y ∈ l → y < 259) → ∀ (s : Nat) (X T : Bf), (subM S m st most).1[s]? = some X → (∀ q, q < m → X q = T q) → ∃ U, (subM S m st most).1[rnY S m (subM S m st most) s l]? = some U ∧ ∀ q, q < m → U q = rnT S m T l q
  | [], _, s, X, T, hX, hT => ⟨X, hX, hT⟩
  | y :: l, hl, s, X, T, hX, hT => by
    have hs : s < (subM S m st most).1.length := by
      rcases Nat.lt_or_ge s (subM S m st most).1.length with g | g
      · exact g
      · rw [List.getElem?_eq_none g] at hX; cases hX
    obtain ⟨U, h1, h2⟩ := nxY_is hr h hs (hl y (List.mem_cons_self ..)) hX hT
    exact rnY_is hr h l (fun z hz => hl z (List.mem_cons_of_mem _ hz)) _ U _ h1 h2
/-- The symbols of a part of a text. -/
def wrY (n : Nat) (tx : Nat → Nat) (i j : Nat) : List Nat :=
  if n = 0 then [258] else (if i = 0 then [256] else []) ++ (List.range (j - i)).map (fun k => tx (i + k)) ++ (if j = n then [257] else [])
theorem rnT_rF (tx : Nat → Nat) (ht : ∀ k, tx k < 256) (i : Nat) (T : Bf) : ∀ k, rnT S m T ((List.range k).map fun k => tx (i + k)) = rF S m tx i k T
  | 0 => rfl
  | k + 1 => by
    rw [List.range_succ, List.map_append, rF_last]
    unfold rnT
    rw [List.foldl_append]
    have := rnT_rF tx ht i T k
    unfold rnT at this
    rw [this]
    show goY S m (tx (i + k)) _ = _
    unfold goY
    rw [if_pos (ht _)]
/-- They lead where the page has it. -/
theorem wrY_fF (n : Nat) (tx : Nat → Nat) (ht : ∀ k, tx k < 256) (st : Int) (fin i j : Nat) : rnT S m (T0Y S m st) (wrY n tx i j) fin = fF S m n tx st fin i j := by
  have hA : T0Y S m st = aF S m st := rfl
  unfold wrY fF
  rw [hA]
  by_cases hn : n = 0
  · rw [if_pos hn, if_pos hn]
    show goY S m 258 _ fin = _
    rfl
  · rw [if_neg hn, if_neg hn]
    have h0 : rnT S m (aF S m st) (if i = 0 then [256] else []) = if i = 0 then upN S 256 m (aF S m st) m else aF S m st := by
      by_cases e : i = 0
      · rw [if_pos e, if_pos e]; rfl
      · rw [if_neg e, if_neg e]; rfl
    have h1 : rnT S m (aF S m st) ((if i = 0 then [256] else []) ++ (List.range (j - i)).map fun k => tx (i + k)) = rF S m tx i (j - i) (if i = 0 then upN S 256 m (aF S m st) m else aF S m st) := by
      rw [← rnT_rF tx ht, ← h0]
      unfold rnT
      rw [List.foldl_append]
    by_cases e : j = n
    · rw [if_pos e, if_pos e, ← h1]
      unfold rnT
      rw [List.foldl_append]
      show goY S m 257 _ fin = _
      rfl
    · rw [if_neg e, if_neg e, ← h1, List.append_nil]
end
end Go.Proofs.Ytepegohopgnmnaa

namespace Go.Proofs.Ytepegohopgnmnaa
open Go.RowKit

/-- A decided automaton as a value. -/
@[reducible] def dfV (q0 : Option Addr) (n0 c0 : Nat) (wd st : Int) (q1 : Option Addr) (n1 c1 : Nat) (q2 : Option Addr) (n2 c2 : Nat) : Value := .agg #[.slice q0 n0 c0, .int .i64 wd, .int .i64 st, .slice q1 n1 c1, .slice q2 n2 c2]

set_option maxRecDepth 100000 in
set_option maxHeartbeats 8000000 in
theorem go11 (q0 : Option Addr) (c0 : Nat) (wd : Nat) (st : Int) (q1 : Option Addr) (n1 c1 : Nat) (q2 : Option Addr) (n2 c2 : Nat) (l0 l1 : Nat → Int) (s y cc p : Nat) (hy : y < 259) (hcc : l0 y = (cc : Int)) (hp : s * wd = p) (hpc : p + cc < n1) (hn1 : n1 ≤ 1000000) (w : World) (h0 : rdL w q0 259 l0) (h1 : rdL w q1 n1 l1) :
    Calls Try.prog 38 #[dfV q0 259 c0 (wd : Int) st q1 n1 c1 q2 n2 c2, .int .i64 (s : Int), .int .i64 (y : Int)] w fun e w' => e = .returned (.int .i64 (l1 (p + cc))) ∧ Below w.heap.size w w' := by
  obtain ⟨b0, o0, rfl, hb0, hc0⟩ := h0 y hy
  obtain ⟨b1, o1, rfl, hb1, hc1⟩ := h1 (p + cc) hpc
  rw [hcc] at hc0
  obtain ⟨z, hz⟩ : ∃ z, l1 (p + cc) = z := ⟨_, rfl⟩
  rw [hz] at hc1 ⊢
  obtain ⟨w1, hw1⟩ : ∃ w1, w.alloc (.cells #[.slice (some ⟨b0, o0, none⟩) 259 c0, .int .i64 (wd : Int), .int .i64 st, .slice (some ⟨b1, o1, none⟩) n1 c1, .slice q2 n2 c2] 30) = w1 := ⟨_, rfl⟩
  have hbw : Below w.heap.size w w1 := hw1 ▸ (Below.refl _ _).alloc (Nat.le_refl _) _
  have hk : w1.heap[w.heap.size]? = some (.cells #[.slice (some ⟨b0, o0, none⟩) 259 c0, .int .i64 (wd : Int), .int .i64 st, .slice (some ⟨b1, o1, none⟩) n1 c1, .slice q2 n2 c2] 30 (0, 0)) := hw1 ▸ heap_alloc_new w _
  have k0 : w1.cell? ⟨w.heap.size, 0, none⟩ = some (.slice (some ⟨b0, o0, none⟩) 259 c0) := by simp [World.cell?, hk]
  have k1 : w1.cell? ⟨w.heap.size, 1, none⟩ = some (.int .i64 (wd : Int)) := by simp [World.cell?, hk]
  have k3 : w1.cell? ⟨w.heap.size, 3, none⟩ = some (.slice (some ⟨b1, o1, none⟩) n1 c1) := by simp [World.cell?, hk]
  have kc0 : w1.cell? ⟨b0, o0 + y, none⟩ = some (.int .i64 (cc : Int)) := (hbw.cell (p := ⟨b0, o0 + y, none⟩) hb0).trans hc0
  have kc1 : w1.cell? ⟨b1, o1 + (p + cc), none⟩ = some (.int .i64 z) := (hbw.cell (p := ⟨b1, o1 + (p + cc), none⟩) hb1).trans hc1
  have hmul : (s : Int) * (wd : Int) = (p : Int) := by rw [← hp]; simp
  have y0 : (0 : Int) ≤ (y : Int) := by omega
  have y1 : (y : Int) < 259 := by omega
  have p0 : (0 : Int) ≤ (p : Int) := by omega
  have p1 : (p : Int) + (cc : Int) < (n1 : Int) := by omega
  have p2 : (0 : Int) ≤ (p : Int) + (cc : Int) := by omega
  have p3 : (n1 : Int) ≤ 1000000 := by omega
  have p4 : ((p : Int) + (cc : Int)).toNat = p + cc := by omega
  have HW1 := Lib.hid hw1
  have HB := Lib.hid hbw
  clear hw1 hbw hk hb0 hb1 hc0 hc1 hz hp hpc hn1 h0 h1 hcc
  go_enter Try.func38, Try.ntmps38
  go_upto_region 1 with (fail)
  rw [HW1.out]
  go_quiet (fail)
  go_wp2_with fail
  go_returns
  exact ⟨rfl, below_drewN nq HB.out⟩
end Go.Proofs.Ytepegohopgnmnaa

namespace Go.Proofs.Ytepegohopgnmnaa
open Go.RowKit

theorem pt3_grown (w : World) (b : Nat) (v : Value) (f l : Int) : w.grownBy (((w.setCell ⟨b, 0, none⟩ v).setCell ⟨b, 1, none⟩ (.int .i64 f)).setCell ⟨b, 2, none⟩ (.int .i64 l)) (some b) :=
  ((grown_setCell w b 0 v).trans (grown_setCell _ b 1 _)).trans (grown_setCell _ b 2 _)
end Go.Proofs.Ytepegohopgnmnaa
