/-
  The walk of lex's hex. The walk of lex's escape.
-/
import Derived.Test.YtgjpmfdiidkdnaaDoorPk6
import Derived.Test.YtgjpmfdiidkdnaaDoorPk7
import Derived.Test.YtgjpmfdiidkdnaaDoorPk14
import Derived.Deep.Cut
namespace Go.Proofs.YtgjpmfdiidkdnaaDoor
open Go.RowKit

/-- A number of two digits of sixteen. -/
def hxOk (t : ByteArray) : Bool := decide (0 ≤ dig16 (gb t 0)) && decide (0 ≤ dig16 (gb t 1))
def hxV (t : ByteArray) : Nat := (dig16 (gb t 0) * 16 + dig16 (gb t 1)).toNat
theorem bytes_below (w : World) (t : ByteArray) : Below w.heap.size w (Lib.bytesWorld w 5 t) := Lib.bytesWorld_below w 5 t
theorem ppu_good (t : ByteArray) (h2 : t.size = 2) (hx : hxOk t = true) (w : World) :
    Calls Tryd.prog 72 #[.string t, .int .i64 16, .int .i64 8] w fun e w' => e = .returned (.tuple #[.int .u64 (hxV t : Int), .nilIface]) ∧ Below w.heap.size w w' := by
  have h' : 0 ≤ dig16 (gb t 0) ∧ 0 ≤ dig16 (gb t 1) := by simpa [hxOk] using hx
  have hv : puV (gb t 0) (gb t 1) = .tuple #[.int .u64 (hxV t : Int), .nilIface] := by
    unfold puV
    rw [if_neg (by omega)]
    unfold hxV
    rw [Int.toNat_of_nonneg (by omega)]
  obtain ⟨z, hz⟩ : ∃ z, hxV t = z := ⟨_, rfl⟩
  have hp := puint_any t h2 w
  unfold puPost at hp
  rw [hv, hz] at hp
  rw [hz]
  have HP := Lib.hid hp
  have HB := Lib.hid (bytes_below w t)
  clear hp hv h' hx hz
  go_enter Tryd.func72, Tryd.ntmps72
  go_wp2_with (go_at_call 86; (with_reducible refine HP.out.mono ?_); rintro e wc ⟨rfl, rfl⟩)
  generalize Lib.bytesWorld w 5 t = W at *
  go_ret2
  exact ⟨rfl, HB.out⟩
theorem ppu_bad (t : ByteArray) (h2 : t.size = 2) (hx : hxOk t = false) (w : World) (hT : Okw w) :
    Calls Tryd.prog 72 #[.string t, .int .i64 16, .int .i64 8] w fun e w' => (∃ N : Nat, e = .returned (.tuple #[.int .u64 0, .iface 128 (.pointer (some ⟨N, 0, none⟩))])) ∧ Below w.heap.size w w' := by
  have h' : dig16 (gb t 0) < 0 ∨ dig16 (gb t 1) < 0 := by
    have : 0 ≤ dig16 (gb t 0) → dig16 (gb t 1) < 0 := by simpa [hxOk] using hx
    omega
  have hv : puV (gb t 0) (gb t 1) = .tuple #[.int .u64 0, .iface 125 (.int .i64 2)] := by
    unfold puV
    rw [if_pos h']
  have hp := puint_any t h2 w
  unfold puPost at hp
  rw [hv] at hp
  have HP := Lib.hid hp
  have hB := bytes_below w t
  have HT := Lib.hid (hT.to hB)
  have HB := Lib.hid hB
  clear hp hv h' hx hB hT
  go_enter Tryd.func72, Tryd.ntmps72
  go_wp2_with (go_at_call 86; (with_reducible refine HP.out.mono ?_); rintro e wc ⟨rfl, rfl⟩)
  generalize Lib.bytesWorld w 5 t = W at *
  obtain ⟨te, pe, hc⟩ := HT.out.2.2
  refine (Sh.strconv_toError_syntax _ t 16 8 _ _ (by omega) hc (.inr ⟨te, pe, rfl⟩)).mono ?_
  rintro e w2 ⟨N, rfl, _, _, hb⟩
  have HB2 := Lib.hid (HB.out.trans (hb.mono HB.out.size))
  clear hc HT hb HB
  go_wp2
  go_ret2
  exact ⟨⟨N, rfl⟩, HB2.out⟩

def hxF (t : ByteArray) : Nat → Bool := if hxOk t = true then oneR (hxV t) else fun _ => false
def hxN (t : ByteArray) : Nat := if hxOk t = true then 4 else 0
theorem oneR_eq (z : Nat) : (fun k => decide (k = z)) = oneR z := by
  funext k
  unfold oneR
  by_cases h : k = z
  · subst h; simp
  · simp only [h, decide_false]
    have : ¬ (z ≤ k ∧ k ≤ z) := fun h' => h (by omega)
    simpa using this
theorem of_oneR (c : Nat) (hc : c < 256) (b : Nat) (w : World) (hb : b < w.heap.size) (h : w.cell? ⟨b, 0, none⟩ = some (.int .u8 (c : Int))) :
    Calls Tryd.prog 12 #[.slice (some ⟨b, 0, none⟩) 1 1] w fun e w' => e = .returned (sv (oneR c)) ∧ Below w.heap.size w w' := by
  rw [← oneR_eq]
  exact of_one c hc b w hb h

set_option maxRecDepth 100000 in
set_option maxHeartbeats 1000000 in
theorem lhex_any (t : ByteArray) (h2 : t.size = 2) (w : World) (hT : Okw w) :
    Calls Tryd.prog 66 #[.string t] w fun e w' => e = .returned (.tuple #[sv (hxF t), .int .i64 (hxN t : Nat)]) ∧ Below w.heap.size w w' := by
  cases hx : hxOk t
  · have HF : Hid (hxF t = fun _ => false) := Lib.hid (by unfold hxF; rw [hx, if_neg (by decide)])
    have HN : Hid (hxN t = 0) := Lib.hid (by unfold hxN; rw [hx, if_neg (by decide)])
    have HP := Lib.hid (ppu_bad t h2 hx)
    clear hx h2
    have E0 := Lib.hid (isSet.newNone w)
    have HW : Hid (Below w.heap.size w (w.alloc (.cells #[.int .u64 0, .int .u64 0, .int .u64 0, .int .u64 0] 32))) := Lib.hid ((Below.refl _ _).alloc (Nat.le_refl _) _)
    have HT := Lib.hid (hT.alloc (.cells #[.int .u64 0, .int .u64 0, .int .u64 0, .int .u64 0] 32))
    clear hT
    go_enter Tryd.func66, Tryd.ntmps66
    go_wp2_with fail
    refine (HP.out _ HT.out).mono ?_
    rintro e w1 ⟨⟨N, rfl⟩, hb⟩
    have hW := HW.out.trans (hb.mono HW.out.size)
    have e0 := E0.out.below hb E0.out.lt
    have hT := HT.out.to hb
    clear hb HW E0 HT
    have l9 : w.heap.size < w1.heap.size := e0.lt
    clear hT HP
    have HV : Hid (sv (fun _ => false) = .agg #[.int .u64 0, .int .u64 0, .int .u64 0, .int .u64 0]) := Lib.hid (by unfold sv; simp only [none_wd]; exact rfl)
    obtain ⟨r0, r1, r2, r3⟩ := e0.free
    have q := e0.cells
    simp only [none_wd] at q
    obtain ⟨q0, q1, q2, q3⟩ := q
    have HR := Lib.hid (below_set4 (c := w.heap.size) hW (Nat.le_refl _) (.int .u64 0) (.int .u64 0) (.int .u64 0) (.int .u64 0))
    clear e0 hW
    go_wp2
    refine bodyPost_ret (v := .tuple #[.agg #[.int .u64 0, .int .u64 0, .int .u64 0, .int .u64 0], .int .i64 0]) (by simp [results, Tryd.results66, go_sem, q0, q1, q2, q3]) rfl ⟨by rw [HF.out, HN.out, HV.out]; rfl, HR.out⟩
  · have HF : Hid (hxF t = oneR (hxV t)) := Lib.hid (by unfold hxF; rw [if_pos hx])
    have HN : Hid (hxN t = 4) := Lib.hid (by unfold hxN; rw [if_pos hx])
    have HP := Lib.hid (ppu_good t h2 hx)
    have hz : hxV t < 256 := by
      have u1 := dig16_bd (gb t 0)
      have u2 := dig16_bd (gb t 1)
      unfold hxV
      omega
    obtain ⟨z, hzz⟩ : ∃ z, hxV t = z := ⟨_, rfl⟩
    rw [hzz] at HF HP hz
    clear hx h2 hzz
    have wz : IntKind.u8.wrap (z : Int) = (z : Int) := by rw [IntKind.wrap_u8]; omega
    have E0 := Lib.hid (isSet.newNone w)
    have HW : Hid (Below w.heap.size w (w.alloc (.cells #[.int .u64 0, .int .u64 0, .int .u64 0, .int .u64 0] 32))) := Lib.hid ((Below.refl _ _).alloc (Nat.le_refl _) _)
    have HT := Lib.hid (hT.alloc (.cells #[.int .u64 0, .int .u64 0, .int .u64 0, .int .u64 0] 32))
    clear hT
    go_enter Tryd.func66, Tryd.ntmps66
    go_wp2_with fail
    refine (HP.out _).mono ?_
    rintro e w1 ⟨rfl, hb⟩
    have hW := HW.out.trans (hb.mono HW.out.size)
    have e0 := E0.out.below hb E0.out.lt
    have hT := HT.out.to hb
    clear hb HW E0 HT
    have l9 : w.heap.size < w1.heap.size := e0.lt
    have HW := Lib.hid hW; have E0 := Lib.hid e0
    have HT := Lib.hid hT
    clear hW e0 hT
    clear HP
    go_wp2_with fail
    refine (of_oneR z hz _ _ (by simp) (by simp [go_sem])).mono ?_
    rintro e w2 ⟨rfl, hb⟩
    have hW := (HW.out.alloc HW.out.size (.cells #[.int .u8 (z : Int)] 5)).trans (hb.mono (by simp; omega))
    have e0 := (E0.out.alloc (.cells #[.int .u8 (z : Int)] 5)).below hb (by simp; omega)
    have l8 : w.heap.size < w2.heap.size := e0.lt
    clear hb HW E0 HT
    obtain ⟨r0, r1, r2, r3⟩ := e0.free
    obtain ⟨q0, q1, q2, q3⟩ := e0.cells
    have HR := Lib.hid (below_set4 (c := w.heap.size) hW (Nat.le_refl _) (.int .u64 (wd (oneR z) 0 : Int)) (.int .u64 (wd (oneR z) 1 : Int)) (.int .u64 (wd (oneR z) 2 : Int)) (.int .u64 (wd (oneR z) 3 : Int)))
    have Z := Lib.hid (e0.stored (oneR z)).cells
    clear e0 hW
    go_wp2
    refine bodyPost_ret (v := .tuple #[sv (oneR z), .int .i64 (4)]) (by simp [results, Tryd.results66, go_sem, Z.out]) rfl ⟨by rw [HF.out, HN.out]; rfl, HR.out⟩
end Go.Proofs.YtgjpmfdiidkdnaaDoor

namespace Go.Proofs.YtgjpmfdiidkdnaaDoor
open Go.RowKit

theorem gb_extract (p : ByteArray) (a b i : Nat) : gb (p.extract a b) i = if a + i < min b p.size then gb p (a + i) else 256 := by
  have hs : (p.extract a b).size = min b p.size - a := by simp
  by_cases h : a + i < min b p.size
  · rw [if_pos h]
    have h1 : i < (p.extract a b).size := by omega
    have h2 : a + i < p.size := by omega
    rw [← gb_in h1, ← gb_in h2]
    congr 1
    rw [ByteArray.getElem_extract]
  · rw [if_neg h]
    exact gb_out (by omega)
/-- What a text stands for that begins with a backslash. -/
def esF (p : ByteArray) : Nat → Bool := if behOk p 0 = true then behF p 0 else fun _ => false
def esN (p : ByteArray) : Nat := if behOk p 0 = true then behN p 0 else 0
theorem es_hex (p : ByteArray) (h4 : 4 ≤ p.size) (h1 : gb p 1 = 120) : esF p = hxF (p.extract 2 4) ∧ esN p = hxN (p.extract 2 4) := by
  have e0 : gb (p.extract 2 4) 0 = gb p 2 := by rw [gb_extract, if_pos (by omega)]
  have e1 : gb (p.extract 2 4) 1 = gb p 3 := by rw [gb_extract, if_pos (by omega)]
  have a1 : ¬ p.size ≤ 1 := by omega
  have a3 : ¬ p.size ≤ 3 := by omega
  unfold esF esN hxF hxN hxOk hxV behOk behF behN
  rw [e0, e1]
  simp only [Nat.zero_add, if_neg a1, h1, ne_eq, not_true_eq_false, if_false, a3, false_or]
  by_cases h : dig16 (gb p 2) < 0 ∨ dig16 (gb p 3) < 0
  · have hb : (decide (0 ≤ dig16 (gb p 2)) && decide (0 ≤ dig16 (gb p 3))) = false := by simp; omega
    rw [hb]
    simp [h]
  · have hb : (decide (0 ≤ dig16 (gb p 2)) && decide (0 ≤ dig16 (gb p 3))) = true := by simp; omega
    rw [hb]
    simp [h]
theorem es_esc (p : ByteArray) (h2 : 2 ≤ p.size) (h : ¬ (4 ≤ p.size ∧ gb p 1 = 120)) : esF p = (if escOk (gb p 1) = true then escF (gb p 1) else fun _ => false) ∧ esN p = (if escOk (gb p 1) = true then 2 else 0) := by
  have a1 : ¬ p.size ≤ 1 := by omega
  unfold esF esN behOk behF behN
  simp only [Nat.zero_add, if_neg a1]
  by_cases h1 : gb p 1 = 120
  · have hx : p.size ≤ 3 := by
      rcases Nat.lt_or_ge p.size 4 with h3 | h3
      · omega
      · exact absurd ⟨h3, h1⟩ h
    have ho : escOk 120 = false := by decide
    simp [h1, hx, ho]
  · simp [h1]
theorem es_end (p : ByteArray) (h2 : p.size < 2) : esF p = (fun _ => false) ∧ esN p = 0 := by
  have hb : behOk p 0 = false := by unfold behOk; rw [if_pos (by omega)]
  unfold esF esN
  rw [hb]
  exact ⟨rfl, rfl⟩
theorem gb_data1 {p : ByteArray} {i c : Nat} (h : i < p.size) (hc : gb p i = c) : (p[i]'h).toNat = c := by rw [gb_in h, hc]

set_option maxRecDepth 100000 in
set_option maxHeartbeats 1000000 in
theorem lesc_hex (p : ByteArray) (h4 : 4 ≤ p.size) (h1 : gb p 1 = 120) (w : World) (hT : Okw w) :
    Calls Tryd.prog 61 #[.string p] w fun e w' => e = .returned (.tuple #[sv (esF p), .int .i64 (esN p : Nat)]) ∧ Below w.heap.size w w' := by
  obtain ⟨hF, hN⟩ := es_hex p h4 h1
  have hq := lhex_any (p.extract 2 4) (by simp; omega)
  obtain ⟨F, eF⟩ : ∃ F, hxF (p.extract 2 4) = F := ⟨_, rfl⟩
  obtain ⟨n, eN⟩ : ∃ n, hxN (p.extract 2 4) = n := ⟨_, rfl⟩
  rw [eF, eN] at hq
  rw [eF] at hF
  rw [eN] at hN
  have HF := Lib.hid hF; have HN := Lib.hid hN; have HQ := Lib.hid hq
  have g1 := gb_data1 (show 1 < p.size by omega) h1
  have t0 : decide ((4 : Int) ≤ (p.size : Int)) = true := decide_eq_true (by omega)
  have s0 : (2 : Int) ≤ (p.size : Int) := by omega
  have s1 : (4 : Int) ≤ (p.size : Int) := by omega
  clear hF hN hq eF eN h1
  have E0 := Lib.hid (isSet.newNone w)
  have HW : Hid (Below w.heap.size w (w.alloc (.cells #[.int .u64 0, .int .u64 0, .int .u64 0, .int .u64 0] 32))) := Lib.hid ((Below.refl _ _).alloc (Nat.le_refl _) _)
  have HT := Lib.hid (hT.alloc (.cells #[.int .u64 0, .int .u64 0, .int .u64 0, .int .u64 0] 32))
  clear hT
  go_enter Tryd.func61, Tryd.ntmps61
  go_wp2_with fail
  refine (HQ.out _ HT.out).mono ?_
  rintro e w1 ⟨rfl, hb⟩
  have hW := HW.out.trans (hb.mono HW.out.size)
  have e0 := E0.out.below hb E0.out.lt
  have hT := HT.out.to hb
  clear hb HW E0 HT
  have l9 : w.heap.size < w1.heap.size := e0.lt
  clear hT HQ
  obtain ⟨r0, r1, r2, r3⟩ := e0.free
  obtain ⟨q0, q1, q2, q3⟩ := e0.cells
  have HR := Lib.hid (below_set4 (c := w.heap.size) hW (Nat.le_refl _) (.int .u64 (wd (F) 0 : Int)) (.int .u64 (wd (F) 1 : Int)) (.int .u64 (wd (F) 2 : Int)) (.int .u64 (wd (F) 3 : Int)))
  have Z := Lib.hid (e0.stored (F)).cells
  clear e0 hW
  go_wp2
  refine bodyPost_ret (v := .tuple #[sv (F), .int .i64 (n)]) (by simp [results, Tryd.results61, go_sem, Z.out]) rfl ⟨by rw [HF.out, HN.out], HR.out⟩

set_option maxRecDepth 100000 in
set_option maxHeartbeats 1000000 in
theorem lesc_esc (p : ByteArray) (h2 : 2 ≤ p.size) (h : ¬ (4 ≤ p.size ∧ gb p 1 = 120)) (w : World) (hT : Okw w) :
    Calls Tryd.prog 61 #[.string p] w fun e w' => e = .returned (.tuple #[sv (esF p), .int .i64 (esN p : Nat)]) ∧ Below w.heap.size w w' := by
  obtain ⟨hF, hN⟩ := es_esc p h2 h
  have bc := gb_lt (show 1 < p.size by omega)
  have hq := esc_any (gb p 1) bc
  have g1 := gb_in (show 1 < p.size by omega)
  obtain ⟨c, hc⟩ : ∃ c, gb p 1 = c := ⟨_, rfl⟩
  rw [hc] at hF hN hq g1 bc h
  obtain ⟨F, eF⟩ : ∃ F, escF c = F := ⟨_, rfl⟩
  obtain ⟨o, eO⟩ : ∃ o, escOk c = o := ⟨_, rfl⟩
  rw [eF, eO] at hq hF
  rw [eO] at hN
  have HF : Hid (o = true → esF p = F) := Lib.hid (fun h => by rw [hF, if_pos h])
  have HN : Hid (o = true → esN p = 2) := Lib.hid (fun h => by rw [hN, if_pos h])
  have HF0 : Hid (o = false → esF p = fun _ => false) := Lib.hid (fun h => by rw [hF, h, if_neg (by decide)])
  have HN0 : Hid (o = false → esN p = 0) := Lib.hid (fun h => by rw [hN, h, if_neg (by decide)])
  have HQ := Lib.hid hq
  have tt : decide ((4 : Int) ≤ (p.size : Int)) = false ∨ (decide ((4 : Int) ≤ (p.size : Int)) = true ∧ ((c : Int) == 120) = false) := by
    rcases Nat.lt_or_ge p.size 4 with h3 | h3
    · exact .inl (decide_eq_false (by omega))
    · exact .inr ⟨decide_eq_true (by omega), beq_eq_false_iff_ne.2 (fun h' => h ⟨h3, by omega⟩)⟩
  have t1 : decide ((2 : Int) ≤ (p.size : Int)) = true := decide_eq_true (by omega)
  clear hF hN hq eF eO h hc
  have E0 := Lib.hid (isSet.newNone w)
  have HW : Hid (Below w.heap.size w (w.alloc (.cells #[.int .u64 0, .int .u64 0, .int .u64 0, .int .u64 0] 32))) := Lib.hid ((Below.refl _ _).alloc (Nat.le_refl _) _)
  have HT := Lib.hid (hT.alloc (.cells #[.int .u64 0, .int .u64 0, .int .u64 0, .int .u64 0] 32))
  clear hT
  rcases tt with t0 | ⟨t0, t2⟩
  all_goals (cases o)
  · go_enter Tryd.func61, Tryd.ntmps61
    go_wp2_with fail
    refine (HQ.out _ HT.out.1).mono ?_
    rintro e w1 ⟨rfl, hb⟩
    have l9 : w.heap.size < w1.heap.size := Nat.lt_of_lt_of_le E0.out.lt hb.size
    have e0 := (E0.out.below hb E0.out.lt).alloc (.cells #[.int .u64 (wd (F) 0 : Int), .int .u64 (wd (F) 1 : Int), .int .u64 (wd (F) 2 : Int), .int .u64 (wd (F) 3 : Int)] 32)
    have hW := (HW.out.trans (hb.mono HW.out.size)).alloc (Nat.le_trans HW.out.size hb.size) (.cells #[.int .u64 (wd (F) 0 : Int), .int .u64 (wd (F) 1 : Int), .int .u64 (wd (F) 2 : Int), .int .u64 (wd (F) 3 : Int)] 32)
    have s0 := isSet.new w1 F
    obtain ⟨s0, s1, s2, s3⟩ := s0.cells
    clear hb E0 HW HT HQ
    go_upto_region 5 with (fail)
    generalize w1.heap.size = B at *
    generalize w1.alloc (.cells #[.int .u64 (wd (F) 0 : Int), .int .u64 (wd (F) 1 : Int), .int .u64 (wd (F) 2 : Int), .int .u64 (wd (F) 3 : Int)] 32) = W at *
    have HV : Hid (sv (fun _ => false) = .agg #[.int .u64 0, .int .u64 0, .int .u64 0, .int .u64 0]) := Lib.hid (by unfold sv; simp only [none_wd]; exact rfl)
    obtain ⟨r0, r1, r2, r3⟩ := e0.free
    have q := e0.cells
    simp only [none_wd] at q
    obtain ⟨q0, q1, q2, q3⟩ := q
    have HR := Lib.hid (below_set4 (c := w.heap.size) hW (Nat.le_refl _) (.int .u64 0) (.int .u64 0) (.int .u64 0) (.int .u64 0))
    clear e0 hW
    go_wp2
    refine bodyPost_ret (v := .tuple #[.agg #[.int .u64 0, .int .u64 0, .int .u64 0, .int .u64 0], .int .i64 0]) (by simp [results, Tryd.results61, go_sem, q0, q1, q2, q3]) rfl ⟨by rw [HF0.out (by simp), HN0.out (by simp), HV.out]; rfl, HR.out⟩
  · go_enter Tryd.func61, Tryd.ntmps61
    go_wp2_with fail
    refine (HQ.out _ HT.out.1).mono ?_
    rintro e w1 ⟨rfl, hb⟩
    have l9 : w.heap.size < w1.heap.size := Nat.lt_of_lt_of_le E0.out.lt hb.size
    have e0 := (E0.out.below hb E0.out.lt).alloc (.cells #[.int .u64 (wd (F) 0 : Int), .int .u64 (wd (F) 1 : Int), .int .u64 (wd (F) 2 : Int), .int .u64 (wd (F) 3 : Int)] 32)
    have hW := (HW.out.trans (hb.mono HW.out.size)).alloc (Nat.le_trans HW.out.size hb.size) (.cells #[.int .u64 (wd (F) 0 : Int), .int .u64 (wd (F) 1 : Int), .int .u64 (wd (F) 2 : Int), .int .u64 (wd (F) 3 : Int)] 32)
    have s0 := isSet.new w1 F
    obtain ⟨s0, s1, s2, s3⟩ := s0.cells
    clear hb E0 HW HT HQ
    go_upto_region 5 with (fail)
    generalize w1.heap.size = B at *
    generalize w1.alloc (.cells #[.int .u64 (wd (F) 0 : Int), .int .u64 (wd (F) 1 : Int), .int .u64 (wd (F) 2 : Int), .int .u64 (wd (F) 3 : Int)] 32) = W at *
    obtain ⟨r0, r1, r2, r3⟩ := e0.free
    obtain ⟨q0, q1, q2, q3⟩ := e0.cells
    have HR := Lib.hid (below_set4 (c := w.heap.size) hW (Nat.le_refl _) (.int .u64 (wd (F) 0 : Int)) (.int .u64 (wd (F) 1 : Int)) (.int .u64 (wd (F) 2 : Int)) (.int .u64 (wd (F) 3 : Int)))
    have Z := Lib.hid (e0.stored (F)).cells
    clear e0 hW
    go_wp2
    refine bodyPost_ret (v := .tuple #[sv (F), .int .i64 (2)]) (by simp [results, Tryd.results61, go_sem, Z.out]) rfl ⟨by rw [HF.out (by simp), HN.out (by simp)]; rfl, HR.out⟩
  · go_enter Tryd.func61, Tryd.ntmps61
    go_wp2_with fail
    refine (HQ.out _ HT.out.1).mono ?_
    rintro e w1 ⟨rfl, hb⟩
    have l9 : w.heap.size < w1.heap.size := Nat.lt_of_lt_of_le E0.out.lt hb.size
    have e0 := (E0.out.below hb E0.out.lt).alloc (.cells #[.int .u64 (wd (F) 0 : Int), .int .u64 (wd (F) 1 : Int), .int .u64 (wd (F) 2 : Int), .int .u64 (wd (F) 3 : Int)] 32)
    have hW := (HW.out.trans (hb.mono HW.out.size)).alloc (Nat.le_trans HW.out.size hb.size) (.cells #[.int .u64 (wd (F) 0 : Int), .int .u64 (wd (F) 1 : Int), .int .u64 (wd (F) 2 : Int), .int .u64 (wd (F) 3 : Int)] 32)
    have s0 := isSet.new w1 F
    obtain ⟨s0, s1, s2, s3⟩ := s0.cells
    clear hb E0 HW HT HQ
    go_upto_region 5 with (fail)
    generalize w1.heap.size = B at *
    generalize w1.alloc (.cells #[.int .u64 (wd (F) 0 : Int), .int .u64 (wd (F) 1 : Int), .int .u64 (wd (F) 2 : Int), .int .u64 (wd (F) 3 : Int)] 32) = W at *
    have HV : Hid (sv (fun _ => false) = .agg #[.int .u64 0, .int .u64 0, .int .u64 0, .int .u64 0]) := Lib.hid (by unfold sv; simp only [none_wd]; exact rfl)
    obtain ⟨r0, r1, r2, r3⟩ := e0.free
    have q := e0.cells
    simp only [none_wd] at q
    obtain ⟨q0, q1, q2, q3⟩ := q
    have HR := Lib.hid (below_set4 (c := w.heap.size) hW (Nat.le_refl _) (.int .u64 0) (.int .u64 0) (.int .u64 0) (.int .u64 0))
    clear e0 hW
    go_wp2
    refine bodyPost_ret (v := .tuple #[.agg #[.int .u64 0, .int .u64 0, .int .u64 0, .int .u64 0], .int .i64 0]) (by simp [results, Tryd.results61, go_sem, q0, q1, q2, q3]) rfl ⟨by rw [HF0.out (by simp), HN0.out (by simp), HV.out]; rfl, HR.out⟩
  · go_enter Tryd.func61, Tryd.ntmps61
    go_wp2_with fail
    refine (HQ.out _ HT.out.1).mono ?_
    rintro e w1 ⟨rfl, hb⟩
    have l9 : w.heap.size < w1.heap.size := Nat.lt_of_lt_of_le E0.out.lt hb.size
    have e0 := (E0.out.below hb E0.out.lt).alloc (.cells #[.int .u64 (wd (F) 0 : Int), .int .u64 (wd (F) 1 : Int), .int .u64 (wd (F) 2 : Int), .int .u64 (wd (F) 3 : Int)] 32)
    have hW := (HW.out.trans (hb.mono HW.out.size)).alloc (Nat.le_trans HW.out.size hb.size) (.cells #[.int .u64 (wd (F) 0 : Int), .int .u64 (wd (F) 1 : Int), .int .u64 (wd (F) 2 : Int), .int .u64 (wd (F) 3 : Int)] 32)
    have s0 := isSet.new w1 F
    obtain ⟨s0, s1, s2, s3⟩ := s0.cells
    clear hb E0 HW HT HQ
    go_upto_region 5 with (fail)
    generalize w1.heap.size = B at *
    generalize w1.alloc (.cells #[.int .u64 (wd (F) 0 : Int), .int .u64 (wd (F) 1 : Int), .int .u64 (wd (F) 2 : Int), .int .u64 (wd (F) 3 : Int)] 32) = W at *
    obtain ⟨r0, r1, r2, r3⟩ := e0.free
    obtain ⟨q0, q1, q2, q3⟩ := e0.cells
    have HR := Lib.hid (below_set4 (c := w.heap.size) hW (Nat.le_refl _) (.int .u64 (wd (F) 0 : Int)) (.int .u64 (wd (F) 1 : Int)) (.int .u64 (wd (F) 2 : Int)) (.int .u64 (wd (F) 3 : Int)))
    have Z := Lib.hid (e0.stored (F)).cells
    clear e0 hW
    go_wp2
    refine bodyPost_ret (v := .tuple #[sv (F), .int .i64 (2)]) (by simp [results, Tryd.results61, go_sem, Z.out]) rfl ⟨by rw [HF.out (by simp), HN.out (by simp)]; rfl, HR.out⟩

set_option maxRecDepth 100000 in
set_option maxHeartbeats 1000000 in
theorem lesc_end (p : ByteArray) (h2 : p.size < 2) (w : World) :
    Calls Tryd.prog 61 #[.string p] w fun e w' => e = .returned (.tuple #[sv (esF p), .int .i64 (esN p : Nat)]) ∧ Below w.heap.size w w' := by
  obtain ⟨hF, hN⟩ := es_end p h2
  have HF := Lib.hid hF; have HN := Lib.hid hN
  have t0 : decide ((4 : Int) ≤ (p.size : Int)) = false := decide_eq_false (by omega)
  have t1 : decide ((2 : Int) ≤ (p.size : Int)) = false := decide_eq_false (by omega)
  clear hF hN
  have e0 := isSet.newNone w
  have hW : Below w.heap.size w (w.alloc (.cells #[.int .u64 0, .int .u64 0, .int .u64 0, .int .u64 0] 32)) := (Below.refl _ _).alloc (Nat.le_refl _) _
  have HW := Lib.hid hW; have E0 := Lib.hid e0
  clear hW e0
  have HV : Hid (sv (fun _ => false) = .agg #[.int .u64 0, .int .u64 0, .int .u64 0, .int .u64 0]) := Lib.hid (by unfold sv; simp only [none_wd]; exact rfl)
  go_enter Tryd.func61, Tryd.ntmps61
  clear E0
  go_wp2
  refine bodyPost_ret (v := .tuple #[.agg #[.int .u64 0, .int .u64 0, .int .u64 0, .int .u64 0], .int .i64 0]) (by simp [results, Tryd.results61, go_sem]) rfl ⟨by rw [HF.out, HN.out, HV.out]; rfl, HW.out⟩

theorem lesc_any (p : ByteArray) (w : World) (hT : Okw w) :
    Calls Tryd.prog 61 #[.string p] w fun e w' => e = .returned (.tuple #[sv (esF p), .int .i64 (esN p : Nat)]) ∧ Below w.heap.size w w' := by
  rcases Nat.lt_or_ge p.size 2 with h | h
  · exact lesc_end p h w
  · by_cases h4 : 4 ≤ p.size ∧ gb p 1 = 120
    · exact lesc_hex p h4.1 h4.2 w hT
    · exact lesc_esc p h h4 w hT
end Go.Proofs.YtgjpmfdiidkdnaaDoor
