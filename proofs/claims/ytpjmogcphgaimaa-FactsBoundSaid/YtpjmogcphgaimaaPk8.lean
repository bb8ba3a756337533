/-
  The walks of the reference's Firsts at no node, and of its Kids.
-/
import Derived.Test.YtpjmogcphgaimaaPk7
import Derived.Laws.AppendOwnNone
namespace Go.Proofs.Ytpjmogcphgaimaa
open Go.RowKit

theorem firsts_zero (p : Option Addr) (cap : Nat) (w : World) :
    Calls Try.prog 14 #[.slice p 0 cap] w fun e w' => e = .returned (.slice none 0 0) ∧ w = w' := by
  go_enter Try.func14, Try.ntmps14
  go_wp2
  refine wp_loop_rounds 1 ?_
  rw [rounds_succ]; go_wp2
  go_ret
  exact ⟨rfl, rfl⟩

set_option maxHeartbeats 2000000 in
theorem rkids_is (b off n cap i : Nat) (N : Nat → Nd) (hn : n ≤ 1000) (hi : i < n) (hf : 0 ≤ fst N i) (w : World) (hr : rdN w b off n N) :
    Calls Try.prog 15 #[.slice (some ⟨b, off, none⟩) n cap, .int .i64 (i : Int)] w fun e w' => ∃ v, e = .returned v ∧ rdI w' v (kids N i) ∧ Below w.heap.size w w' := by
  obtain ⟨i0, hinf, hz0, hz1, hz2⟩ := info_parts infoInt
  have hbl := (hr i hi).1
  have hc0 := (hr i hi).2.1
  have h0 : (0 : Int) ≤ (i : Int) := by omega
  have h1 : (i : Int) < (n : Int) := by omega
  have hib : (i : Int) < 1000 := by omega
  have HR := Lib.hid hr
  clear hr
  have HK := Lib.hid (kids_back hf)
  go_enter Try.func15, Try.ntmps15
  go_wp2_with fail
  refine (firsts_some _ _ _ _ _ hn _ HR.out).mono ?_
  rintro e w1 ⟨v, rfl, hown, hb1⟩
  have hc1 : w1.cell? ⟨b, off + i * 7, none⟩ = some (.int .i64 (N i).k) := by rw [hb1.cell (p := ⟨b, off + i * 7, none⟩) hbl]; exact hc0
  clear hc0
  rcases id hown.2 with ⟨rfl, hz⟩ | ⟨g, cp, cur, rfl, -⟩
  · exfalso; omega
  have HG : Hid (∀ q, q < n → w1.cell? ⟨g, q, none⟩ = some (.int .i64 (fst N q))) := Lib.hid fun q hq => by rw [hown.cellAt q (by omega), fsts_get N n q hq]
  have hgl : w.heap.size ≤ g ∧ g < w1.heap.size := hown.lt g rfl
  have hsz1 := hb1.size
  have HB1 := Lib.hid hb1
  clear hown hb1
  go_wp2_with fail
  refine (rargs_any _ _).mono ?_; rintro e w2 ⟨rfl, hb2⟩
  have HG2 : Hid (∀ q, q < n → w2.cell? ⟨g, q, none⟩ = some (.int .i64 (fst N q))) := Lib.hid fun q hq => by rw [hb2.cell (p := ⟨g, q, none⟩) hgl.2]; exact HG.out q hq
  have HB2 := Lib.hid (HB1.out.trans (hb2.mono hsz1))
  have hsz2 := HB2.out.size
  have hgl2 : g < w2.heap.size := by have := hb2.size; omega
  clear hb2 HG HB1 hc1 hsz1
  rcases HK.out with ⟨ha, hk, -⟩ | ⟨ha, hi0, hk, -, hg⟩ | ⟨ha, f, hf0, hfi, hff, hk, -, hg⟩
  · have HA := Lib.hid ha; have HK := Lib.hid hk
    clear ha hk
    rw [HA.out]
    go_wp2_with fail
    refine wp_loop_rounds 1 ?_
    rw [rounds_succ]; go_wp2
    go_ret
    exact ⟨_, rfl, by rw [HK.out]; exact .inl ⟨_, _, rfl, rfl⟩, HB2.out⟩
  · have HA := Lib.hid ha; have HK := Lib.hid hk
    clear ha hk
    obtain ⟨j, rfl⟩ : ∃ j, i = j + 1 := ⟨i - 1, by omega⟩
    have hcj := HG2.out j (by omega)
    rw [HA.out]
    go_wp2_with fail
    refine wp_loop_rounds 2 ?_
    rw [rounds_succ]; go_wp2_with fail
    rw [rounds_succ]; go_wp2
    go_ret
    refine ⟨_, rfl, ?_, ?_⟩
    · rw [HK.out]
      refine .inr ⟨_, _, rfl, by simp, fun j' hj => ?_⟩
      obtain rfl : j' = 0 := by simpa using hj
      simp [go_sem]
    · exact HB2.out.alloc hsz2 _
  · have HA := Lib.hid ha; have HK := Lib.hid hk
    obtain ⟨j, rfl⟩ : ∃ j, i = j + 1 := ⟨i - 1, by omega⟩
    obtain ⟨q, rfl⟩ : ∃ q, f = q + 1 := ⟨f - 1, by omega⟩
    have hcj := HG2.out j (by omega)
    rw [show fst N j = ((q + 1 : Nat) : Int) from hff] at hcj
    have hcq := HG2.out q (by omega)
    clear ha hk hff
    rw [HA.out]
    go_wp2_with fail
    refine wp_loop_rounds 3 ?_
    rw [rounds_succ]; go_wp2_with fail
    have hlit := World.ownsRow_lit (e := 3) (size := 1) (base := w.heap.size) (w2.alloc (.cells #[.int .i64 (j : Int)] 3)) #[.int .i64 (q : Int)] 1 (by simp; omega) (by unfold maxLen; omega) rfl
    simp only [World.size_alloc] at hlit
    have HL := Lib.hid hlit
    clear hlit
    rw [rounds_succ]
    go_wp2_with (at_builtin; refine wpList_append_own _ rfl _ _ 45 rfl w.heap.size 3 i0 (.int .i64 0) 1 8 Try.underlying45 hinf hz0 hz1 hz2 rfl (by decide) _ _ _ rfl HL.out ⟨w2.heap.size, 0, none⟩ 1 1 [.int .i64 (j : Int)] rfl rfl ?u1 ?u2 ?u3 ?u4 ?u5 ?_)
    case u1 =>
      intro x u hx
      match x, hx with
      | 0, hx => simp at hx; subst hx; simp [Addr.add]
    case u2 => intro u hu; simp at hu; subst hu; rfl
    case u3 => unfold maxLen; omega
    case u4 => omega
    case u5 => simp; omega
    intro v' w3 hown3 hgrow _
    have HW3 : Hid (Below w.heap.size w w3) := Lib.hid (((HB2.out.alloc hsz2 _).alloc (by simp; omega) _).grown hgrow (by simp; omega) fun r hr => by cases hr; simp; omega)
    have HO : Hid (rdI w3 v' (kids N (j + 1))) := Lib.hid (by
      rw [HK.out]
      refine rdI_of_owns (base := w.heap.size) (e := 3) ?_
      have e1 : ((q + 1 : Nat) : Int) - 1 = q := by omega
      have e2 : ((j + 1 : Nat) : Int) - 1 = j := by omega
      rw [e1, e2]
      exact hown3)
    have hcq3 : w3.cell? ⟨g, q, none⟩ = some (.int .i64 (fst N q)) :=
      hgrow.cell (by rw [(((Below.refl w2.heap.size w2).alloc (Nat.le_refl _) _).alloc (by simp) _).cell (p := ⟨g, q, none⟩) hgl2]; exact hcq) (by simp [Value.ownBlock]; omega)
    clear hown3 hgrow HB2 HK hcq hcj
    go_wp2
    rw [rounds_succ]; go_wp2
    go_ret
    exact ⟨_, rfl, HO.out, HW3.out⟩
end Go.Proofs.Ytpjmogcphgaimaa
