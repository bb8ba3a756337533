/-
  The walk of byteset's Bytes.
  The walks of alpha's ends and within.
-/
import Derived.Test.YthmkjdpmpcjinaaPk28
namespace Go.Proofs.Ythmkjdpmpcjinaa
open Go.RowKit

set_option maxRecDepth 100000 in
set_option maxHeartbeats 2000000 in
theorem bytes_any (f : Nat → Bool) (w : World) :
    Calls Try.prog 24 #[sv f] w fun e w' => ∃ v, e = .returned v ∧ w'.ownsRow (w.heap.size + 1) 5 1 v (bl f 256).length (u8s (bl f 256)) ∧ Below w.heap.size w w' := by
  obtain ⟨i0, hi, hz0, hz1, hz2⟩ := info_parts Try.info8
  unfold sv
  go_enter Try.func24, Try.ntmps24
  go_wp2
  go_loopw [3, 5] (fun v i wr => ∃ k : Nat, k ≤ 256 ∧ i = .int .i64 k ∧ bytesR f w k v wr) (fun _ i _ => 256 - (intOf i).toNat)
  case atStart => exact ⟨0, Nat.zero_le _, rfl, World.ownsRow_nil _ _ _ _, Below.refl _ _⟩
  case round =>
    obtain ⟨k, hk, rfl, hown, hB⟩ := hrel
    obtain ⟨hc, hf⟩ := w2of hB
    have hz := hB.size
    simp only [World.size_alloc] at hz
    have hle := bl_le f k
    by_cases hlt : k < 256
    · cases hfk : f k
      · have Hf := Lib.hid hfk
        clear hfk
        go_wp2_with (go_at_call 27; refine (has_any f k hlt _).mono ?_; rintro e w1 ⟨rfl, hb1⟩; rw [Hf.out])
        go_roundw
        case rel => exact ⟨k + 1, by omega, by go_num, by rw [bl_miss f k Hf.out]; exact owns_below hown hb1, hB.trans (hb1.mono hz)⟩
        case measure => simp [intOf]; omega
      · have Hf := Lib.hid hfk
        clear hfk
        go_wp2_with (first | (go_at_call 27; refine (has_any f k hlt _).mono ?_; rintro e w1 ⟨rfl, hb1⟩; rw [Hf.out]; have hown1 := owns_below hown hb1) | (at_builtin; refine wpList_append_own _ rfl _ _ 53 rfl (w.heap.size + 1) 5 i0 (.int .u8 0) 1 1 Try.underlying53 hi hz0 hz1 hz2 rfl (by decide) _ _ _ rfl (hown1.alloc _) ⟨w1.heap.size, 0, none⟩ 1 1 [.int .u8 (k : Int)] rfl rfl ?c1 ?c2 ?c3 ?c4 ?c5 ?_))
        case c1 =>
          intro j u hj
          match j, hj with
          | 0, hj => simp at hj; subst hj; simp [Addr.add]
        case c2 => intro u hu; simp at hu; subst hu; rfl
        case c3 => unfold maxLen; omega
        case c4 => omega
        case c5 => have := hb1.size; simp; omega
        have hz1 := hb1.size
        intro v' w2 hown2 hgrow _
        have hB2 : Below (w.heap.size + 1) (w.alloc (.cells #[.int .u64 (wd f 0 : Int), .int .u64 (wd f 1 : Int), .int .u64 (wd f 2 : Int), .int .u64 (wd f 3 : Int)] 40)) w2 :=
          ((hB.trans (hb1.mono hz)).alloc (by omega) _).grown hgrow (by simp; omega) fun r hr => (hown1.lt r hr).1
        have hown3 : w2.ownsRow (w.heap.size + 1) 5 1 v' (bl f (k + 1)).length (u8s (bl f (k + 1))) := by
          rw [bl_hit f k Hf.out]
          simpa [u8s] using hown2
        clear hown2 hgrow hown hown1 hB hc hf hb1
        go_wp2
        go_roundw
        case rel => exact ⟨k + 1, by omega, by go_num, hown3, hB2⟩
        case measure => simp [intOf]; omega
    · obtain rfl : k = 256 := by omega
      clear hc hf
      go_wp2
      go_ret
      exact ⟨_, rfl, hown, ((Below.refl _ _).alloc (Nat.le_refl _) _).trans (hB.mono (by omega))⟩
end Go.Proofs.Ythmkjdpmpcjinaa

namespace Go.Proofs.Ythmkjdpmpcjinaa
open Go.RowKit

def endF (x : Nat) : Int := if x < 256 then 0 else (x : Int) - 255
def wiF (f : Nat → Bool) (x : Nat) : Int := if x < 256 ∧ f x = true then 1 else 0
/-- What is in the first j of a list of bytes. -/
def wiJ (l : List Nat) (j : Nat) (x : Nat) : Int := if x ∈ l.take j then 1 else 0
theorem wiJ_zero (l : List Nat) (x : Nat) : wiJ l 0 x = 0 := by simp [wiJ]
theorem wiJ_succ {l : List Nat} {j b : Nat} (h : l[j]? = some b) : putF (wiJ l j) b 1 = wiJ l (j + 1) := by
  funext x
  unfold putF wiJ
  have e : l.take (j + 1) = l.take j ++ [b] := by rw [List.take_add_one, h]; rfl
  rw [e]
  by_cases hx : x = b
  · subst hx; simp
  · rw [if_neg hx]
    have : x ∈ l.take j ++ [b] ↔ x ∈ l.take j := by simp [hx]
    by_cases hm : x ∈ l.take j
    · rw [if_pos hm, if_pos (this.2 hm)]
    · rw [if_neg hm, if_neg (fun h => hm (this.1 h))]
theorem wiJ_end (f : Nat → Bool) (x : Nat) : wiJ (bl f 256) (bl f 256).length x = wiF f x := by
  unfold wiJ wiF
  rw [List.take_length]
  have : x ∈ bl f 256 ↔ x < 256 ∧ f x = true := by unfold bl; rw [List.mem_filter, List.mem_range]
  by_cases h : x ∈ bl f 256
  · rw [if_pos h, if_pos (this.1 h)]
  · rw [if_neg h, if_neg (fun g => h (this.2 g))]

set_option maxRecDepth 100000 in
set_option maxHeartbeats 4000000 in
theorem ends_is (w : World) : Calls Try.prog 17 #[] w fun e w' => ∃ g, e = .returned (.tuple #[.slice (some ⟨g, 0, none⟩) 259 259, .int .i64 4]) ∧ rdL w' (some ⟨g, 0, none⟩) 259 endF ∧ Below w.heap.size w w' := by
  go_enter Try.func17, Try.ntmps17
  go_wp2_with (refine make_ints rfl _ _ rfl w.heap.size 259 rfl rfl (by omega) (Nat.le_refl _) ?_)
  intro w1 ho hb
  obtain ⟨g, hg⟩ : ∃ g, w.heap.size = g := ⟨_, rfl⟩
  rw [hg] at ho ⊢
  have hgl := ho.lt
  have o1 := ho.put 256 1
  have o2 := o1.put 257 2
  have o3 := o2.put 258 3
  have HO := Lib.hid o3
  have HB : Hid (Below g w (((w1.setCell ⟨g, 256, none⟩ (.int .i64 1)).setCell ⟨g, 257, none⟩ (.int .i64 2)).setCell ⟨g, 258, none⟩ (.int .i64 3))) := Lib.hid ((((hg ▸ hb).setCell (p := ⟨g, 256, none⟩) (Nat.le_refl _) _).setCell (p := ⟨g, 257, none⟩) (Nat.le_refl _) _).setCell (p := ⟨g, 258, none⟩) (Nat.le_refl _) _)
  have f0 := ho.free 256
  have f1 := o1.free 257
  have f2 := o2.free 258
  have c0 := ho.cell 256 (by decide)
  have c1 := o1.cell 257 (by decide)
  have c2 := o2.cell 258 (by decide)
  have HE : Hid (∀ x, x < 259 → putF (putF (putF (fun _ => 0) 256 1) 257 2) 258 3 x = endF x) := Lib.hid fun x hx => by
    unfold putF endF
    by_cases h : x < 256
    · rw [if_neg (by omega), if_neg (by omega), if_neg (by omega), if_pos h]
    · rw [if_neg h]
      rcases (by omega : x = 256 ∨ x = 257 ∨ x = 258) with rfl | rfl | rfl <;> rfl
  clear o1 o2 o3 ho hb
  go_wp2_with fail
  go_returns
  exact ⟨g, rfl, (HO.out.same HE.out).rd, hg.symm ▸ HB.out⟩

set_option maxRecDepth 100000 in
set_option maxHeartbeats 8000000 in
theorem within_is (f : Nat → Bool) (w : World) : Calls Try.prog 18 #[svr f] w fun e w' => ∃ g, e = .returned (.slice (some ⟨g, 0, none⟩) 259 259) ∧ rdL w' (some ⟨g, 0, none⟩) 259 (wiF f) ∧ Below w.heap.size w w' := by
  have HBy := Lib.hid (fun w => bytes_any f w)
  have HEnd := Lib.hid (wiJ_end f)
  have HBl : Hid (∀ x, x ∈ bl f 256 → x < 256) := Lib.hid (bl_bytes f 256)
  have HLe : Hid ((bl f 256).length ≤ 256) := Lib.hid (bl_le f 256)
  generalize hF : wiF f = F at *
  obtain ⟨L, hL⟩ : ∃ L, bl f 256 = L := ⟨_, rfl⟩
  rw [hL] at HEnd HBl HLe
  have HBy : Hid (∀ w, Calls Try.prog 24 #[svr f] w fun e w' => ∃ v, e = .returned v ∧ w'.ownsRow (w.heap.size + 1) 5 1 v L.length (u8s L) ∧ Below w.heap.size w w') := Lib.hid (fun w => by rw [← hL]; exact HBy.out w)
  clear hL hF
  obtain ⟨W, hW⟩ : ∃ W, w.alloc (.cells #[.int .u64 (wd f 0 : Int), .int .u64 (wd f 1 : Int), .int .u64 (wd f 2 : Int), .int .u64 (wd f 3 : Int)] 40) = W := ⟨_, rfl⟩
  obtain ⟨b, hb⟩ : ∃ b, w.heap.size = b := ⟨_, rfl⟩
  have hz : W.heap.size = b + 1 := by rw [← hW, World.size_alloc, hb]
  have hbw : Below b w W := hW ▸ (Below.refl _ _).alloc (by omega) _
  have hbk : W.heap[b]? = some (.cells #[.int .u64 (wd f 0 : Int), .int .u64 (wd f 1 : Int), .int .u64 (wd f 2 : Int), .int .u64 (wd f 3 : Int)] 40 (0, 0)) := by
    rw [← hW, ← hb]; exact heap_alloc_new w _
  have HW := Lib.hid hW
  have HZ := Lib.hid hz
  have HBW := Lib.hid hbw
  have HBK := Lib.hid hbk
  have HGb := Lib.hid hb
  clear hbw hbk hW
  go_enter Try.func18, Try.ntmps18
  go_upto_region 1 with (fail)
  rw [HW.out]
  go_wp2_with (refine make_ints rfl _ _ rfl (b + 1) 259 rfl rfl (by omega) (by omega) ?_)
  intro w1 ho hb1
  have HO1 := Lib.hid (ho.same (f' := wiJ L 0) fun j _ => (wiJ_zero L j).symm)
  have HB1 := Lib.hid hb1
  have HK1 : Hid (w1.heap[b]? = some (.cells #[.int .u64 (wd f 0 : Int), .int .u64 (wd f 1 : Int), .int .u64 (wd f 2 : Int), .int .u64 (wd f 3 : Int)] 40 (0, 0))) := Lib.hid ((hb1.block b (Nat.lt_succ_self b)).trans HBK.out)
  have hl1 := ho.lt
  clear ho hb1 HBK
  have c0 : w1.cell? ⟨b, 0, none⟩ = some (.int .u64 (wd f 0 : Int)) := by simp [World.cell?, HK1.out]
  have c1 : w1.cell? ⟨b, 1, none⟩ = some (.int .u64 (wd f 1 : Int)) := by simp [World.cell?, HK1.out]
  have c2 : w1.cell? ⟨b, 2, none⟩ = some (.int .u64 (wd f 2 : Int)) := by simp [World.cell?, HK1.out]
  have c3 : w1.cell? ⟨b, 3, none⟩ = some (.int .u64 (wd f 3 : Int)) := by simp [World.cell?, HK1.out]
  go_wp2_with fail
  refine (HBy.out _).mono ?_
  rintro e w2 ⟨v, rfl, hv, hb2⟩
  have HV := Lib.hid hv
  have HO2 := Lib.hid (HO1.out.below hb2)
  have HB2 := Lib.hid (HB1.out.trans (hb2.mono (hz ▸ HB1.out.size)))
  have hv2 : ∃ p c, v = .slice p L.length c := by
    rcases id hv.2 with ⟨rfl, h0⟩ | ⟨g, cap, cur, rfl, _⟩
    · exact ⟨none, 0, by rw [h0]⟩
    · exact ⟨_, cap, rfl⟩
  obtain ⟨p, c, rfl⟩ := hv2
  have n0 : (0 : Int) ≤ (L.length : Int) := by omega
  clear hv hb2 c0 c1 c2 c3 HO1 HB1 HK1
  have hLe := HLe.out
  go_wp2_with fail
  go_loopw [10] (fun iv wr => ∃ i : Nat, i ≤ L.length ∧ iv = .int .i64 i ∧ Hid (ipR wr (b + 1) (b + 1) 259 (wiJ L i)) ∧ Hid (wr.ownsRow (w1.heap.size + 1) 5 1 (.slice p L.length c) L.length (u8s L)) ∧ Hid (Below (b + 1) W wr)) (fun iv _ => L.length - (intOf iv).toNat)
  case atStart => exact ⟨0, Nat.zero_le _, rfl, HO2, HV, HB2⟩
  case round =>
    clear HO2 HB2 HV
    obtain ⟨i, hi, rfl, HO, HV, HB⟩ := hrel
    by_cases hlti : i < L.length
    · have i0 : (0 : Int) ≤ (i : Int) := by omega
      have i1 : (i : Int) < (L.length : Int) := by omega
      obtain ⟨x, hx⟩ : ∃ x, L[i]? = some x := ⟨L[i], List.getElem?_eq_getElem hlti⟩
      have hx8 := HBl.out x (List.mem_of_getElem? hx)
      obtain ⟨g, rfl, hg⟩ : ∃ g, p = some ⟨g, 0, none⟩ ∧ wr.cell? ⟨g, i, none⟩ = some (.int .u8 (x : Int)) := by
        rcases id HV.out.2 with ⟨e, _⟩ | ⟨g, cp, cur, e, _⟩
        · have e2 := (Value.slice.inj e).2.1; omega
        · cases e
          refine ⟨g, rfl, ?_⟩
          rw [World.ownsRow.cellAt HV.out i (by omega)]
          simp [u8s, hx]
      have x0 : (0 : Int) ≤ (x : Int) := by omega
      have x1 : (x : Int) < 259 := by omega
      have f0 := HO.out.free x
      have g0 := HO.out.cell x (by omega)
      have HO2 : Hid (ipR (wr.setCell ⟨b + 1, x, none⟩ (.int .i64 1)) (b + 1) (b + 1) 259 (wiJ L (i + 1))) := Lib.hid (by have := HO.out.put x 1; rw [wiJ_succ hx] at this; exact this)
      have HV2 : Hid ((wr.setCell ⟨b + 1, x, none⟩ (.int .i64 1)).ownsRow (w1.heap.size + 1) 5 1 (.slice (some ⟨g, 0, none⟩) L.length c) L.length (u8s L)) := Lib.hid (ownsRow_setCell_below HV.out (by show b + 1 < w1.heap.size + 1; omega) _)
      have HB2 : Hid (Below (b + 1) W (wr.setCell ⟨b + 1, x, none⟩ (.int .i64 1))) := Lib.hid (HB.out.setCell (p := ⟨b + 1, x, none⟩) (Nat.le_refl _) _)
      clear hx HO HV HB
      go_wp2_with fail
      go_roundw
      case rel => exact ⟨i + 1, by omega, by go_num, HO2, HV2, HB2⟩
      case measure => simp [intOf]; omega
    · obtain rfl : i = L.length := by omega
      have HR : Hid (rdL wr (some ⟨b + 1, 0, none⟩) 259 F) := Lib.hid (HO.out.same fun j _ => HEnd.out j).rd
      have HE : Hid (Below w.heap.size w wr) := Lib.hid (HGb.out.symm ▸ HBW.out.trans (HB.out.mono (Nat.le_succ b)))
      clear HO HV HB
      go_wp2_with fail
      go_returns
      exact ⟨_, rfl, HR.out, HE.out⟩
end Go.Proofs.Ythmkjdpmpcjinaa
