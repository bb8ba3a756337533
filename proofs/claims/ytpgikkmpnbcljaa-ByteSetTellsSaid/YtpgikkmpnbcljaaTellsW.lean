/-
  The walk of the law ByteSetTells: it answers true, at any set and any two bytes.
-/
import Derived.Test.YtpgikkmpnbcljaaAwake
import Derived.Test.YtpgikkmpnbcljaaLit
import Derived.Test.YtpgikkmpnbcljaaEq
import Derived.Test.YtpgikkmpnbcljaaRbytes
import Derived.Test.YtpgikkmpnbcljaaRruns
import Derived.Test.YtpgikkmpnbcljaaSame
import Derived.Laws.BytesArg
import Derived.Deep.RegionHeldLaw
namespace Go.Proofs.Ytpgikkmpnbcljaa
open Go.RowKit

theorem popTo_bl (f : Nat → Bool) (n : Nat) : (bl f n).length = popTo f 0 n := by
  induction n with
  | zero => rfl
  | succ n ih =>
    simp only [popTo, Nat.zero_add]
    cases hf : f n
    · rw [bl_miss f n hf, ih]; simp
    · rw [bl_hit f n hf, List.length_append, ih]; simp
theorem inl_bl (f : Nat → Bool) (n k : Nat) (h : k < n) : inl (bl f n) k = f k := by
  unfold inl bl
  cases hf : f k <;> simp [List.mem_filter, List.mem_range, h, hf]
theorem count_len (f : Nat → Bool) (n : Nat) (h : (bl f 256).length = n) (w : World) : Calls Try.prog 18 #[svr f] w fun e w' => e = .returned (.int .i64 (n : Nat)) ∧ Below w.heap.size w w' :=
  (count_any f w).mono fun _ _ h2 => ⟨by rw [h2.1, ← popTo_bl, h], h2.2⟩
theorem of_rd (f : Nat → Bool) (v : Value) (w : World) (h : rd8 w v (bl f 256)) : Calls Try.prog 24 #[v] w fun e w' => e = .returned (sv f) ∧ Below w.heap.size w w' :=
  (of_any (bl f 256) (bl_bytes f 256) (by have := bl_le f 256; unfold maxLen; omega) v w h).mono fun _ _ h2 => ⟨by rw [h2.1]; congr 1; exact sv_congr fun k hk => inl_bl f 256 k hk, h2.2⟩
/-- The string of some bytes. -/
def bstr (l : List Nat) : ByteArray := strOfNums (l.map fun (x : Nat) => (x : Int))
theorem conv_rd8 (l : List Nat) (v : Value) (w : World) (h : rd8 w v l) : (convert 32 9 v).run Try.prog w = .ok (.string (bstr l)) w := by
  rcases h with ⟨rfl, rfl⟩ | ⟨b, off, cap, rfl, _, hc⟩
  · rw [run_convert_bytes_nil w 32 5 Try.underlying32 Try.underlying5 0 0 9 Try.underlying9]
    rfl
  · refine run_convert_bytes_arg w 32 5 Try.underlying32 Try.underlying5 b off l.length cap (l.map fun (x : Nat) => (x : Int)) (by simp) (fun i hi => ?_) 9 Try.underlying9
    rw [hc i hi]
    simp [List.getD, hi]
theorem runs_lit (f : Nat → Bool) (w : World) : Calls Try.prog 20 #[svr f] w fun e w' => ∃ v, e = .returned v ∧ rdR w' v (segs f 256 256) ∧ Below w.heap.size w w' :=
  (runs_any f w).mono fun _ _ ⟨v, h1, h2, h3⟩ => ⟨v, h1, by rw [runs_segs f 256 (by omega)] at h2; exact rdR_of_owns h2, h3⟩
theorem rruns_lit (f : Nat → Bool) (w : World) : Calls Try.prog 21 #[svr f] w fun e w' => ∃ v, e = .returned v ∧ rdR w' v (segs f 256 256) ∧ Below w.heap.size w w' :=
  (rruns_any f w).mono fun _ _ ⟨v, h1, h2, h3⟩ => ⟨v, h1, rdR_of_owns h2, h3⟩
theorem bytes_lit (f : Nat → Bool) (w : World) : Calls Try.prog 17 #[svr f] w fun e w' => ∃ v, e = .returned v ∧ rd8 w' v (bl f 256) ∧ Below w.heap.size w w' :=
  (bytes_any f w).mono fun _ _ ⟨v, h1, h2, h3⟩ => ⟨v, h1, rd8_of_owns h2, h3⟩
theorem rbytes_lit (f : Nat → Bool) (w : World) : Calls Try.prog 16 #[svr f] w fun e w' => ∃ v, e = .returned v ∧ rd8 w' v (bl f 256) ∧ Below w.heap.size w w' :=
  (rbytes_any f w).mono fun _ _ ⟨v, h1, h2, h3⟩ => ⟨v, h1, rd8_of_owns h2, h3⟩

set_option maxRecDepth 100000 in
set_option maxHeartbeats 8000000 in
theorem tells_walk (f : Nat → Bool) (lo hi : Nat) (hlo : lo < 256) (hhi : hi < 256) (w : World) :
    Calls Try.prog 4 #[sv f, .int .u8 (lo : Int), .int .u8 (hi : Int)] w fun e w' => e = .returned (.bool true) ∧ Below w.heap.size w w' := by
  have heq := eq_set
  have hwl : IntKind.i64.wrap (lo : Int) = (lo : Int) := by rw [IntKind.wrap_i64]; omega
  have hwh : IntKind.i64.wrap (hi : Int) = (hi : Int) := by rw [IntKind.wrap_i64]; omega
  have hsl := segs_length f 256 256
  unfold sv
  go_enter Try.func4, Try.ntmps4
  go_wp2_with fail
  refine (awake_any _).mono ?_
  rintro e w0 ⟨rfl, hb0⟩
  have s0 := (isSet.new w f).below hb0 (by simp)
  have hW0 : Below w.heap.size w w0 := ((Below.refl _ _).alloc (Nat.le_refl _) _).trans (hb0.mono (by go_size))
  clear hb0
  obtain ⟨q0, q1, q2, q3⟩ := s0.cells
  go_wp2_with fail
  refine (rbytes_lit f _).mono ?_
  rintro e w1 ⟨vb, rfl, hrb, hb1⟩
  have b0 := s0.below hb1 s0.lt
  have hW := hW0.trans (hb1.mono hW0.size)
  clear hb1 s0 hW0 q0 q1 q2 q3
  obtain ⟨n, hn⟩ : ∃ n, (bl f 256).length = n := ⟨_, rfl⟩
  have Hn := Lib.hid hn
  have hlen : ∃ a c, vb = .slice a n c := by
    rcases hrb with ⟨h1, h2⟩ | ⟨b, off, cap, h1, _⟩
    · exact ⟨none, 0, by rw [h1, ← hn, h2]; rfl⟩
    · exact ⟨_, _, by rw [h1, hn]⟩
  obtain ⟨a, c, rfl⟩ := hlen
  clear hn
  have hS := b0.cells
  have l0 := b0.lt
  have hB := (Below.refl w1.heap.size w1).drew
  go_wp2_with fail
  go_region_held_law (fun w' => w'.cell? ⟨w.heap.size, 0, none⟩ = some (.int .u64 (wd f 0 : Int)) ∧ w'.cell? ⟨w.heap.size, 1, none⟩ = some (.int .u64 (wd f 1 : Int)) ∧ w'.cell? ⟨w.heap.size, 2, none⟩ = some (.int .u64 (wd f 2 : Int)) ∧ w'.cell? ⟨w.heap.size, 3, none⟩ = some (.int .u64 (wd f 3 : Int)) ∧ (convert 32 9 (.slice a n c)).run Try.prog w' = .ok (.string (bstr (bl f 256))) w')
    (first | exact ⟨(b0.below hB l0).cells.1, (b0.below hB l0).cells.2.1, (b0.below hB l0).cells.2.2.1, (b0.below hB l0).cells.2.2.2, conv_rd8 _ _ _ (rd8_below hrb hB)⟩ | go_keep)
    (first | (go_at_call 17; (with_reducible refine (bytes_lit f _).mono ?_); rintro e wk ⟨v, rfl, hrv, hb⟩; replace hB := hB.trans (hb.mono hB.size); clear hb; have hcv2 := conv_rd8 _ _ _ hrv)
           | (go_at_call 18; (with_reducible refine (count_len f n Hn.out _).mono ?_); rintro e wk ⟨rfl, hb⟩; replace hB := hB.trans (hb.mono hB.size); clear hb)
           | (go_at_call 20; (with_reducible refine (runs_lit f _).mono ?_); rintro e wk ⟨vr, rfl, hr1, hb⟩; replace hB := hB.trans (hb.mono hB.size); clear hb)
           | (go_at_call 21; (with_reducible refine (rruns_lit f _).mono ?_); rintro e wk ⟨vs, rfl, hr2, hb⟩; replace hr1 := rdR_below hr1 hb (Nat.le_refl _); replace hB := hB.trans (hb.mono hB.size); clear hb)
           | (go_at_call 19; (with_reducible refine (same_any (segs f 256 256) (by omega) _ _ _ hr1 hr2).mono ?_); rintro e wk ⟨rfl, hb⟩; replace hB := hB.trans (hb.mono hB.size); clear hb)
           | (go_at_call 22; (with_reducible refine (range_any lo hi hlo hhi _).mono ?_); rintro e wk ⟨rfl, hb⟩; replace hB := hB.trans (hb.mono hB.size); clear hb)
           | (go_at_call 23; (with_reducible refine (rrange_any lo hi hlo hhi _).mono ?_); rintro e wk ⟨rfl, hb⟩; replace hB := hB.trans (hb.mono hB.size); clear hb)
           | (go_at_call 24; (with_reducible refine (of_rd f _ _ (rd8_below hrb hB)).mono ?_); rintro e wk ⟨rfl, hb⟩; replace hB := hB.trans (hb.mono hB.size); clear hb))
  rename_i hHeld
  clear hHeld
  go_wp2
  go_ret
  exact ⟨rfl, hW.trans (hB.mono hW.size)⟩
end Go.Proofs.Ytpgikkmpnbcljaa
