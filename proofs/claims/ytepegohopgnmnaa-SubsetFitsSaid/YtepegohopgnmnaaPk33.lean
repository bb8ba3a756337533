/-
  The walk of the tenth reference's alike; a row that grows beside another one of its kind.
-/
import Derived.Test.YtepegohopgnmnaaPk15
import Derived.Test.YtepegohopgnmnaaPk6
import Derived.Maps.AppendAt
import Derived.Deep.RegionHeldLaw
namespace Go.Proofs.Ytepegohopgnmnaa
open Go.RowKit

theorem append_fn2 {w : World} {ops : Array Oper} {rest : List Oper} {o : Oper} {a : Act} {Q : Exit → Act → World → Prop} (hgd : o.guard = none) (s x : Operand)
    (ho : o.op = .call { callee := .builtin .append, args := #[s, x], argTypes := #[27, 27] }) (base : Nat) (v : Value) (f : Nat → Int) (n : Nat) (hs : a.eval s = v)
    (hown : spF w base v f n) (g : Nat) (x0 : Int) (hf : f n = x0) (hx : a.eval x = .slice (some ⟨g, 0, none⟩) 1 1)
    (hcell : w.cell? ⟨g, 0, none⟩ = some (.int .i64 x0)) (hlen : n ≤ 10000) (hbase : base ≤ w.heap.size)
    (v2 : Value) (f2 : Nat → Int) (n2 : Nat) (h2 : spF w base v2 f2 n2) (hap : v2.ownBlock = none ∨ v2.ownBlock ≠ v.ownBlock)
    (h : ∀ v' w', spF w' base v' f (n + 1) → spF w' base v2 f2 n2 → (v2.ownBlock = none ∨ v2.ownBlock ≠ v'.ownBlock) → Below base w w' → wpList Try.prog ops Q rest (a.put o.dst v') w') : wpList Try.prog ops Q (o :: rest) a w := by
  obtain ⟨i0, hi, hz0, hz1, hz2⟩ := info_parts infoInt9w
  refine Go.wpList_append_own_at w hgd s x 27 ho base 3 i0 (.int .i64 0) 1 8 Try.underlying27 hi hz0 hz1 hz2 rfl (by decide) v n (fnv f n) hs hown ⟨g, 0, none⟩ 1 1 [.int .i64 x0] hx rfl ?_ ?_ (by unfold maxLen; omega) (by omega) hbase ?_
  · intro j u hu
    match j, hu with
    | 0, hu => simp at hu; subst hu; simpa [Addr.add] using hcell
  · intro u hu
    have : u = .int .i64 x0 := by simpa using hu
    subst this; rfl
  · intro v' w' h1 hg _ hat
    refine h v' w' ?_ (World.ownsRow.kept h2 hg hap) ?_ (spF.grow (Nat.le_refl _) hbase hown hg)
    · rw [← hf, ← fnv_succ] at h1
      exact h1
    · rcases hat with e | e
      · rw [e]; exact hap
      · rw [e]
        rcases hap with h | _
        · exact .inl h
        · cases hv : v2.ownBlock with
          | none => exact .inl rfl
          | some r =>
            right
            have := (World.ownsRow.lt h2 r hv).2
            intro e2
            have : r = w.heap.size := by simpa using e2
            omega
def isNf (w : World) (b : Nat) (v : Value) (f l : Int) : Prop := w.heap[b]? = some (.cells #[v, .int .i64 f, .int .i64 l] 24 (0, 0))
theorem isNf.lt {w : World} {b : Nat} {v : Value} {f l : Int} (h : isNf w b v f l) : b < w.heap.size := lt_of_block h
theorem isNf.cells {w : World} {b : Nat} {v : Value} {f l : Int} (h : isNf w b v f l) : w.cell? ⟨b, 0, none⟩ = some v ∧ w.cell? ⟨b, 1, none⟩ = some (.int .i64 f) ∧ w.cell? ⟨b, 2, none⟩ = some (.int .i64 l) := by
  unfold isNf at h
  refine ⟨?_, ?_, ?_⟩ <;> simp [World.cell?, h]
theorem isNf.below {w w' : World} {b B : Nat} {v : Value} {f l : Int} (h : isNf w b v f l) (hB : Below B w w') (hb : b < B) : isNf w' b v f l := (hB.block b hb).trans h
theorem isNf.new (w : World) (v : Value) (f l : Int) : isNf (w.alloc (.cells #[v, .int .i64 f, .int .i64 l] 24)) w.heap.size v f l := heap_alloc_new w _

set_option maxRecDepth 100000 in
set_option maxHeartbeats 8000000 in
theorem alike10 (b off m cap : Nat) (S : Nat → Sd) (st fin : Int) (x y : Nat) (hm : m ≤ 1000) (hx : x ≤ 300) (hy : y ≤ 300) (hw : ∀ q, q < m → okWs (S q)) (r : Bool) (hr : alk S m x y = r) (w : World) (hS : rdS w b off m S) :
    Calls Try.prog 48 #[.agg #[.slice (some ⟨b, off, none⟩) m cap, .int .i64 st, .int .i64 fin], .int .i64 (x : Int), .int .i64 (y : Int)] w fun e w' => e = .returned (.bool r) ∧ Below w.heap.size w w' := by
  obtain ⟨w1, hw1⟩ : ∃ w1, w.alloc (.cells #[.slice (some ⟨b, off, none⟩) m cap, .int .i64 st, .int .i64 fin] 24) = w1 := ⟨_, rfl⟩
  have hb1 : Below w.heap.size w w1 := hw1 ▸ (Below.refl _ _).alloc (Nat.le_refl _) _
  have hn1 : isNf w1 w.heap.size (.slice (some ⟨b, off, none⟩) m cap) st fin := hw1 ▸ isNf.new w _ st fin
  obtain ⟨g, hg⟩ : ∃ g, w.heap.size = g := ⟨_, rfl⟩
  have hz1 : w1.heap.size = g + 1 := by rw [← hw1, World.size_alloc, hg]
  rw [hg] at hn1
  have HB1 := Lib.hid hb1
  have HN : Hid (∀ w', Below (g + 1) w1 w' → isNf w' g (.slice (some ⟨b, off, none⟩) m cap) st fin) := Lib.hid fun w' h => hn1.below h (Nat.lt_succ_self g)
  have HS1 := Lib.hid (hS.below hb1)
  have HZ := Lib.hid hz1
  have HG := Lib.hid hg
  have HW1 := Lib.hid hw1
  obtain ⟨z0, z1, z2⟩ := hn1.cells
  have zl := hn1.lt
  have HWS := Lib.hid hw
  clear hb1 hn1 hz1 hS hw1 hw
  by_cases hxy : x = y
  · have hrt : r = true := by rw [← hr]; exact alk_iff.2 (.inl hxy)
    subst hrt
    have d0 : ((x : Int) == (y : Int)) = true := by simp [hxy]
    have d1 : (x == y) = true := by simp [hxy]
    clear hr hxy
    go_enter Try.func48, Try.ntmps48
    go_upto_region 1 with (fail)
    rw [HW1.out]
    go_wp2_with fail
    go_returns
    exact ⟨rfl, HB1.out⟩
  have d0 : ((x : Int) == (y : Int)) = false := beq_eq_false_iff_ne.2 (by omega)
  have d1 : (x == y) = false := beq_eq_false_iff_ne.2 hxy
  by_cases h2 : x ≤ 255 ∧ y ≤ 255
  · obtain ⟨hx2, hy2⟩ := h2
    have e1 : decide ((255 : Int) < (x : Int)) = false := decide_eq_false (by omega)
    have e2 : decide ((255 : Int) < (y : Int)) = false := decide_eq_false (by omega)
    have e1' : decide (255 < x) = false := decide_eq_false (by omega)
    have e2' : decide (255 < y) = false := decide_eq_false (by omega)
    have HR : Hid (r = true ↔ ∀ i, i < m → sOf (S i) x = sOf (S i) y) := Lib.hid (by
      rw [← hr, alk_iff]
      exact ⟨fun h => by rcases h with h | h; exact absurd h hxy; exact h.2.2, fun h => .inr ⟨hx2, hy2, h⟩⟩)
    have m0 : (0 : Int) ≤ (m : Int) := by omega
    have HHx := Lib.hid (fun (f : Nat → Bool) w => rhas_lit f x (by omega) w)
    have HHy := Lib.hid (fun (f : Nat → Bool) w => rhas_lit f y (by omega) w)
    clear hr hxy hx hy
    go_enter Try.func48, Try.ntmps48
    go_upto_region 1 with (fail)
    rw [HW1.out]
    clear hg HW1
    go_wp2_with fail
    clear z0 z1 z2 zl
    go_loopw [7] (fun iv wr => ∃ i : Nat, i ≤ m ∧ iv = .int .i64 i ∧ Hid (∀ j, j < i → sOf (S j) x = sOf (S j) y) ∧ Hid (Below (g + 1) w1 wr)) (fun iv _ => m - (intOf iv).toNat)
    case atStart => exact ⟨0, Nat.zero_le _, rfl, Lib.hid (fun _ h => absurd h (Nat.not_lt_zero _)), Lib.hid (Below.refl _ _)⟩
    case round =>
      obtain ⟨i, hi, rfl, HQ, HB⟩ := hrel
      obtain ⟨z0, z1, z2⟩ := (HN.out _ HB.out).cells
      have zl := (HN.out _ HB.out).lt
      by_cases hlti : i < m
      · have i0 : (0 : Int) ≤ (i : Int) := by omega
        have i1 : (i : Int) < (m : Int) := by omega
        have hpp := fun w' (h : Below (g + 1) w1 w') => (HS1.out.below (HZ.out.symm ▸ h)) i hlti
        obtain ⟨e1, e2, e3, e4⟩ := okWs_wd (HWS.out i hlti)
        obtain ⟨f, hf⟩ : ∃ f, sOf (S i) = f := ⟨_, rfl⟩
        rw [hf] at e1 e2 e3 e4
        have HS : Hid (∀ w', Below (g + 1) w1 w' → (w'.cell? ⟨g, 0, none⟩ = some (.slice (some ⟨b, off, none⟩) m cap) ∧ w'.cell? ⟨b, off + i * 7 + 3, none⟩ = some (.int .u64 (wd f 0 : Int)) ∧ w'.cell? ⟨b, off + i * 7 + 4, none⟩ = some (.int .u64 (wd f 1 : Int)) ∧ w'.cell? ⟨b, off + i * 7 + 5, none⟩ = some (.int .u64 (wd f 2 : Int)) ∧ w'.cell? ⟨b, off + i * 7 + 6, none⟩ = some (.int .u64 (wd f 3 : Int)))) := Lib.hid fun w' h => by
          obtain ⟨_, _, _, _, p3, p4, p5, p6⟩ := hpp w' h
          rw [e1] at p3; rw [e2] at p4; rw [e3] at p5; rw [e4] at p6
          exact ⟨(HN.out w' h).cells.1, p3, p4, p5, p6⟩
        have hbl := (hpp _ HB.out).1
        have HF := Lib.hid hf
        have hCx := HHx.out f
        have hCy := HHy.out f
        obtain ⟨fx, hfx⟩ : ∃ fx, f x = fx := ⟨_, rfl⟩
        obtain ⟨fy, hfy⟩ : ∃ fy, f y = fy := ⟨_, rfl⟩
        rw [hfx] at hCx; rw [hfy] at hCy
        have HFX := Lib.hid hfx; have HFY := Lib.hid hfy
        have HCx := Lib.hid hCx; have HCy := Lib.hid hCy
        have hB := HB.out
        have hgs : g + 1 ≤ wr.heap.size := by have := HB.out.size; have := HZ.out; omega
        have hs0 := HS.out _ HB.out
        clear hpp e1 e2 e3 e4 hf hfx hfy hCx hCy
        go_wp2_with fail
        clear hs0
        go_region_held_law (fun w' => w'.cell? ⟨g, 0, none⟩ = some (.slice (some ⟨b, off, none⟩) m cap) ∧ w'.cell? ⟨b, off + i * 7 + 3, none⟩ = some (.int .u64 (wd f 0 : Int)) ∧ w'.cell? ⟨b, off + i * 7 + 4, none⟩ = some (.int .u64 (wd f 1 : Int)) ∧ w'.cell? ⟨b, off + i * 7 + 5, none⟩ = some (.int .u64 (wd f 2 : Int)) ∧ w'.cell? ⟨b, off + i * 7 + 6, none⟩ = some (.int .u64 (wd f 3 : Int)))
          (first | with_reducible exact HS.out _ hB | with_reducible exact HS.out _ hB.drew)
          (first
            | (go_at_call 50; (with_reducible refine (HCx.out _).mono ?_); rintro e wk ⟨rfl, hb⟩; (replace hB := (show Below (g + 1) w1 wk from Below.trans (by first | exact hB | exact hB.drew) (hb.mono (by first | exact hgs | (have := hB.size; have := HZ.out; omega))))); clear hb)
            | (go_at_call 50; (with_reducible refine (HCy.out _).mono ?_); rintro e wk ⟨rfl, hb⟩; (replace hB := (show Below (g + 1) w1 wk from Below.trans (by first | exact hB | exact hB.drew) (hb.mono (by first | exact hgs | (have := hB.size; have := HZ.out; omega))))); clear hb))
        all_goals
          have HBf := Lib.hid hB
          clear hB
          cases fx <;> cases fy
          all_goals
            first
              | (have HQ2 : Hid (∀ j, j < i + 1 → sOf (S j) x = sOf (S j) y) := Lib.hid fun j hj => by
                  by_cases e : j = i
                  · subst e; rw [HF.out, HFX.out, HFY.out]
                  · exact HQ.out j (by omega)
                 go_wp2_with fail
                 go_roundw
                 case rel => exact ⟨i + 1, by omega, by go_num, HQ2, HBf⟩
                 case measure => simp [intOf]; omega)
              | (have HE : Hid (r = false) := Lib.hid (by
                  cases r with
                  | false => rfl
                  | true =>
                    have := HR.out.1 rfl i hlti
                    rw [HF.out, HFX.out, HFY.out] at this
                    cases this)
                 go_wp2_with fail
                 go_returns
                 exact ⟨by rw [HE.out] <;> rfl, HB1.out.trans (HBf.out.mono (by have := HG.out; omega))⟩)
      · obtain rfl : i = m := by omega
        have HE : Hid (r = true) := Lib.hid (HR.out.2 HQ.out)
        go_wp2_with fail
        go_returns
        exact ⟨by rw [HE.out] <;> rfl, HB1.out.trans (HB.out.mono (by have := HG.out; omega))⟩
  · have hrf : r = false := by
      rw [← hr]
      cases h : alk S m x y with
      | false => rfl
      | true =>
        rcases alk_iff.1 h with h | h
        · exact absurd h hxy
        · exact absurd ⟨h.1, h.2.1⟩ h2
    subst hrf
    by_cases hx2 : x ≤ 255
    · have e1 : decide ((255 : Int) < (x : Int)) = false := decide_eq_false (by omega)
      have e2 : decide ((255 : Int) < (y : Int)) = true := decide_eq_true (by omega)
      have e1' : decide (255 < x) = false := decide_eq_false (by omega)
      have e2' : decide (255 < y) = true := decide_eq_true (by omega)
      clear hr hxy h2
      go_enter Try.func48, Try.ntmps48
      go_upto_region 1 with (fail)
      rw [HW1.out]
      go_wp2_with fail
      go_returns
      exact ⟨rfl, HB1.out⟩
    · have e1 : decide ((255 : Int) < (x : Int)) = true := decide_eq_true (by omega)
      have e1' : decide (255 < x) = true := decide_eq_true (by omega)
      clear hr hxy h2
      go_enter Try.func48, Try.ntmps48
      go_upto_region 1 with (fail)
      rw [HW1.out]
      go_wp2_with fail
      go_returns
      exact ⟨rfl, HB1.out⟩
end Go.Proofs.Ytepegohopgnmnaa
