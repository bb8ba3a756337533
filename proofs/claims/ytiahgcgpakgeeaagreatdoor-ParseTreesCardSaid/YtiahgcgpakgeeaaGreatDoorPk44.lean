/-
  The walk of the code's Of: what the reference's Of tells.
  The walk of the code's Pattern.
  What all texts of the tree lean on: imports, small words on worlds, slices that read as nodes or as numbers.
  Two nodes are the same just if all that they hold is; the walk of the reference's Same at two lists that read alike.
-/
import Derived.Test.YtiahgcgpakgeeaaGreatDoorPk43
import Derived.Test.YtiahgcgpakgeeaaGreatDoorPk7
import Derived.Test.YtiahgcgpakgeeaaGreatDoorPk39
import Derived.Test.YtiahgcgpakgeeaaGreatDoorPk1
import Derived.Test.YtiahgcgpakgeeaaGreatDoorProg
import Derived.WalkKit
import Derived.WalkSpells
import Derived.WalkLawsBesides
import Derived.Handy
import Derived.KernelRfl
import Derived.Deep.RegionHeld3
import Derived.Deep.RegionHeldLaw
import Derived.Deep.QuietTactic
import Derived.BigQuiet
import Derived.Lib.Hide
import Derived.OneCell
import Derived.Laws.StructEq
import Derived.Laws.OwnMore
import Derived.Laws.IdiomArrays
namespace Go.Proofs.YtiahgcgpakgeeaaGreatDoor
open Go.RowKit

theorem bld.new (w : World) (b off n cap : Nat) (p : Option Addr) (hp : 0 < n → p = some ⟨b, off, none⟩) (hc : n ≤ cap) : bld (w.alloc (.cells #[.slice p n cap, .slice none 0 0] 54)) w.heap.size b off n 0 [] :=
  bld.mk (Nat.zero_add n) hc (fun h => by rw [hp h]; simp) ⟨heap_alloc_new w _, World.ownsRow_nil _ _ _ _⟩

set_option maxRecDepth 100000 in
set_option maxHeartbeats 4000000 in
theorem cof_of (T : Nat → Tn) (n b off cap : Nat) (p : Option Addr) (end_ : Int) (hn : n ≤ 1000) (hcap : n ≤ cap) (hp : 0 < n → p = some ⟨b, off, none⟩) (w : World) (hr : rdTn w b off n T)
    (hC : Calls Tryz.prog 17 #[.slice p n cap, .int .i64 end_] w fun e w' => e = .returned (.tuple #[.int .i64 (chF T n end_).1, .int .i64 (chF T n end_).2]) ∧ Below w.heap.size w w') :
    Calls Tryz.prog 12 #[.slice p n cap, .int .i64 end_] w (ofPost (ofF T n end_) w) := by
  obtain ⟨R, hR⟩ : ∃ R, ofF T n end_ = R := ⟨_, rfl⟩
  rw [hR]
  have HRD := Lib.hid hr
  have HPP := Lib.hid hp
  have HC := Lib.hid hC
  have hbd := wrF_bd (T := T) (n := n) (n + 1) 0 0 (by omega)
  have HFIT : Hid ((wrF T n (n + 1) 0 0).2.1 = 0 → (wrF T n (n + 1) 0 0).2.2 = 0 → fitT T n) := Lib.hid fit_of
  obtain ⟨⟨i, e, op⟩, hw⟩ : ∃ r, wrF T n (n + 1) 0 0 = r := ⟨_, rfl⟩
  unfold ofF at hR
  unfold chF at HC
  rw [hw] at hR hbd HC HFIT
  simp only at hR hbd HC HFIT
  have HR := Lib.hid hR
  clear hR hr hC hw hp
  by_cases he : e = 0
  · subst he
    by_cases ho : 0 < op
    · have HE : Hid (R = (none, end_, 3)) := Lib.hid (by rw [← HR.out, if_neg (by simp), if_pos ho])
      rw [if_neg (by simp), if_pos ho] at HC
      simp only at HC
      clear HR hbd HFIT ho
      go_enter Tryz.func12, Tryz.ntmps12
      go_wp2_with fail
      refine HC.out.mono ?_
      rintro e1 w1 ⟨rfl, hb⟩
      have HB := Lib.hid hb
      clear hb HC
      go_wp2
      go_returns
      exact ofPost.bad _ _ HE.out HB.out
    · rw [if_neg (by simp), if_neg ho] at HC
      simp only at HC
      have HF := Lib.hid (HFIT.out rfl (by omega))
      have HE0 : Hid ((if 512 < (ei T n (n + 1) 0).1.length then (none, 0, 4) else (some (ei T n (n + 1) 0).1, 0, 0)) = R) := Lib.hid (by have := HR.out; rw [if_neg (by simp), if_neg ho] at this; exact this)
      clear HR hbd HFIT ho
      go_enter Tryz.func12, Tryz.ntmps12
      go_wp2_with fail
      refine HC.out.mono ?_
      rintro e1 w1 ⟨rfl, hb⟩
      have HB := Lib.hid hb
      have hsz := hb.size
      have HQ := Lib.hid (ceither_any T n w1.heap.size b off hn (fun h => by have := (HRD.out 0 h).1; omega) HF.out (n + 1) 0 (by omega) (Nat.zero_le n) (HF.out.w.start (.inl rfl)) [] _ ((HRD.out.below hb).below ((Below.refl w1.heap.size w1).alloc (Nat.le_refl _) (.cells #[.slice p n cap, .slice none 0 0] 54))) (bld.new w1 b off n cap p HPP.out hcap))
      obtain ⟨⟨l, j⟩, hl⟩ : ∃ r, ei T n (n + 1) 0 = r := ⟨_, rfl⟩
      rw [hl] at HQ HE0
      simp only [List.nil_append] at HQ HE0
      clear hb HC hl HF
      go_wp2_with fail
      refine HQ.out.mono ?_
      rintro e2 w2 ⟨rfl, hb2, hl2⟩
      obtain ⟨p', k', c', v, -, -, -, hblk, hown⟩ := hl2
      obtain ⟨-, c1, -, -, hB⟩ := blk_cells hblk
      have HO := Lib.hid (owns_mono hown (show w.heap.size ≤ w1.heap.size + 1 by omega))
      obtain ⟨q, cc, rfl⟩ : ∃ q cap, v = .slice q (l.take 513).length cap := by
        rcases id hown.2 with ⟨rfl, h0⟩ | ⟨g, cap, cur, rfl, _⟩
        · exact ⟨none, 0, by rw [h0]⟩
        · exact ⟨_, cap, rfl⟩
      have HB2 := Lib.hid (HB.out.trans (((Below.refl w1.heap.size w1).alloc (Nat.le_refl _) _).trans hb2 |>.mono hsz))
      obtain ⟨m, hm⟩ : ∃ m, (l.take 513).length = m := ⟨_, rfl⟩
      have Hm := Lib.hid hm
      rw [hm] at c1
      clear hb2 hblk hown HQ HB hm
      by_cases h5 : 512 < l.length
      · have hm3 : m = 513 := by rw [← Hm.out, List.length_take]; omega
        subst hm3
        have HE : Hid (R = (none, 0, 4)) := Lib.hid (by rw [← HE0.out, if_pos h5])
        clear HE0 Hm h5
        go_wp2
        go_returns
        exact ofPost.bad _ _ HE.out HB2.out
      · have hm3 : m = l.length := by rw [← Hm.out, List.length_take]; omega
        have HE : Hid (R = (some l, 0, 0)) := Lib.hid (by rw [← HE0.out, if_neg h5])
        have d5 : decide (512 < m) = false := decide_eq_false (by omega)
        have d6 : decide ((512 : Int) < (m : Int)) = false := decide_eq_false (by omega)
        have HL : Hid (l.take 513 = l) := Lib.hid (List.take_of_length_le (by omega))
        have HM := Lib.hid hm3
        clear HE0 h5 hm3
        go_wp2
        go_returns
        exact ofPost.good l HE.out (by have := HO.out; rw [HL.out, ← HM.out] at this; rw [← HM.out]; exact this) HB2.out
  · rw [if_pos he] at HC
    simp only at HC
    have HE : Hid (R = (none, (T i.toNat).p, e)) := Lib.hid (by rw [← HR.out, if_pos he])
    have d0 : (e == 0) = false := beq_eq_false_iff_ne.2 he
    have d0' : (e != 0) = true := by simp [he]
    clear HR hbd HFIT he
    go_enter Tryz.func12, Tryz.ntmps12
    go_wp2_with fail
    refine HC.out.mono ?_
    rintro e1 w1 ⟨rfl, hb⟩
    have HB := Lib.hid hb
    clear hb HC
    go_wp2
    go_returns
    exact ofPost.bad _ _ HE.out HB.out

theorem cof_some (T : Nat → Tn) (n b off cap : Nat) (end_ : Int) (hn : n ≤ 1000) (hcap : n ≤ cap) (w : World) (hr : rdTn w b off n T) :
    Calls Tryz.prog 12 #[.slice (some ⟨b, off, none⟩) n cap, .int .i64 end_] w (ofPost (ofF T n end_) w) :=
  cof_of T n b off cap (some ⟨b, off, none⟩) end_ hn hcap (fun _ => rfl) w hr (check_some T n b off cap end_ hn w hr)
theorem cof_zero (T : Nat → Tn) (p : Option Addr) (cap : Nat) (end_ : Int) (w : World) : Calls Tryz.prog 12 #[.slice p 0 cap, .int .i64 end_] w (ofPost (ofF T 0 end_) w) :=
  cof_of T 0 0 0 cap p end_ (Nat.zero_le _) (Nat.zero_le _) (fun h => absurd h (by omega)) w (fun j hj => absurd hj (by omega)) (check_zero T p cap end_ w)
end Go.Proofs.YtiahgcgpakgeeaaGreatDoor

namespace Go.Proofs.YtiahgcgpakgeeaaGreatDoor
open Go.RowKit

set_option maxRecDepth 100000 in
set_option maxHeartbeats 2000000 in
theorem cpat_any (p : ByteArray) (w : World) (hT : Okw w) : Calls Tryz.prog 6 #[.string p] w (ofPost (patF p) w) := by
  obtain ⟨R, hR⟩ : ∃ R, patF p = R := ⟨_, rfl⟩
  rw [hR]
  unfold patF at hR
  rcases Nat.lt_or_ge 200 p.size with h | h
  · rw [if_pos h] at hR
    have HE := Lib.hid hR.symm
    have HP := Lib.hid h
    clear hR h hT
    go_enter Tryz.func6, Tryz.ntmps6
    go_wp2_with fail
    refine (ltoks_long p HP.out _).mono ?_
    rintro e1 w1 ⟨rfl, rfl⟩
    go_wp2
    go_returns
    exact ofPost.bad _ _ HE.out (Below.refl _ _)
  · rw [if_neg (by omega)] at hR
    have HQ := Lib.hid (ltoks_any p h w hT)
    have HLN := Lib.hid (fun l n (h : toks p = (some l, n)) => toks_length h)
    obtain ⟨⟨r, k⟩, hr⟩ : ∃ r, toks p = r := ⟨_, rfl⟩
    rw [hr] at hR HQ HLN
    simp only at hR
    have HPS := Lib.hid h
    have hps : (p.size : Int) ≤ 200 := by omega
    clear hT hr h
    cases r with
    | none =>
      have HE := Lib.hid hR.symm
      clear hR HLN
      go_enter Tryz.func6, Tryz.ntmps6
      go_wp2_with fail
      refine HQ.out.mono ?_
      rintro e1 w1 ⟨-, h2, hb⟩
      obtain rfl := h2 k rfl
      have HB := Lib.hid hb
      clear h2 hb HQ
      go_wp2
      go_returns
      exact ofPost.bad _ _ HE.out HB.out
    | some l =>
      simp only at hR
      have hln : l.length ≤ 200 := by have := HLN.out l k rfl; have := HPS.out; omega
      have HR := Lib.hid hR
      clear hR HLN
      go_enter Tryz.func6, Tryz.ntmps6
      go_wp2_with fail
      refine HQ.out.mono ?_
      rintro e1 w1 ⟨h1, -, hb⟩
      obtain ⟨v, rfl, hown⟩ := h1 l k rfl
      have HB := Lib.hid hb
      have HC : Hid (Calls Tryz.prog 12 #[v, .int .i64 (p.size : Int)] w1 (ofPost (ofF (tof l) l.length p.size) w1)) := Lib.hid (by
        rcases toks_own hown with ⟨rfl, h0⟩ | ⟨g, cap, rfl, hc, hrd⟩
        · rw [h0]; exact cof_zero (tof l) none 0 p.size w1
        · exact cof_some (tof l) l.length g 0 cap p.size (by omega) hc w1 hrd)
      rw [HR.out] at HC
      clear h1 hown hb HQ HR hln
      go_wp2_with fail
      refine HC.out.mono ?_
      intro e2 w2 h2
      obtain ⟨v2, rfl⟩ := h2.form
      have H2 := Lib.hid h2
      clear h2 HC
      go_wp2
      go_returns
      exact H2.out.lift HB.out
end Go.Proofs.YtiahgcgpakgeeaaGreatDoor

namespace Go.Proofs.YtiahgcgpakgeeaaGreatDoor
open Go.RowKit

/-- A node's cells at a place. -/
def ndAt (w : World) (b o : Nat) (x : Nd) : Prop := w.cell? ⟨b, o, none⟩ = some (.int .i64 x.k) ∧ w.cell? ⟨b, o + 1, none⟩ = some (.int .u64 x.a) ∧ w.cell? ⟨b, o + 2, none⟩ = some (.int .u64 x.b) ∧ w.cell? ⟨b, o + 3, none⟩ = some (.int .u64 x.c) ∧ w.cell? ⟨b, o + 4, none⟩ = some (.int .u64 x.d) ∧ w.cell? ⟨b, o + 5, none⟩ = some (.int .i64 x.lo) ∧ w.cell? ⟨b, o + 6, none⟩ = some (.int .i64 x.hi)
theorem ndAt.below {w w' : World} {b o B : Nat} {x : Nd} (h : ndAt w b o x) (hb : Below B w w') (hB : b < B) : ndAt w' b o x := by
  have c : ∀ x, w'.cell? ⟨b, x, none⟩ = w.cell? ⟨b, x, none⟩ := fun x => hb.cell (p := ⟨b, x, none⟩) hB
  unfold ndAt at h ⊢
  simp only [c]
  exact h
/-- The nodes that lie in a block from a place on. -/
def rdN (w : World) (b off n : Nat) (N : Nat → Nd) : Prop := ∀ j, j < n → b < w.heap.size ∧ ndAt w b (off + j * 7) (N j)
theorem rdN.below {w w' : World} {b off n : Nat} {N : Nat → Nd} (h : rdN w b off n N) (hb : Below w.heap.size w w') : rdN w' b off n N := fun j hj =>
  ⟨Nat.lt_of_lt_of_le (h j hj).1 hb.size, (h j hj).2.below hb (h j hj).1⟩
theorem rdN.belowB {w w' : World} {b off n : Nat} {N : Nat → Nd} {B : Nat} (h : rdN w b off n N) (hb : Below B w w') (hB : b < B) : rdN w' b off n N := fun j hj =>
  ⟨Nat.lt_of_lt_of_le (h j hj).1 hb.size, (h j hj).2.below hb hB⟩
theorem rdN.drewN {w : World} {b off n : Nat} {N : Nat → Nd} (h : rdN w b off n N) (k : Nat) : rdN (w.drewN k) b off n N := h
theorem rdN.sub {w : World} {b off n : Nat} {N : Nat → Nd} (h : rdN w b off n N) (f m : Nat) (hm : f + m ≤ n) : rdN w b (off + f * 7) m (fun j => N (f + j)) := fun j hj => by
  have := h (f + j) (by omega)
  rwa [show off + (f + j) * 7 = off + f * 7 + j * 7 by omega] at this
theorem rdN.take {w : World} {b off n : Nat} {N : Nat → Nd} (h : rdN w b off n N) (m : Nat) (hm : m ≤ n) : rdN w b off m N := fun j hj => h j (by omega)

/-- A slice that reads as a list of numbers. -/
def rdI (w : World) (v : Value) (l : List Int) : Prop :=
  (∃ p cap, v = .slice p 0 cap ∧ l = []) ∨ ∃ b cap, v = .slice (some ⟨b, 0, none⟩) l.length cap ∧ b < w.heap.size ∧ ∀ j (h : j < l.length), w.cell? ⟨b, j, none⟩ = some (.int .i64 l[j])
theorem rdI.below {w w' : World} {v : Value} {l : List Int} (h : rdI w v l) (hb : Below w.heap.size w w') : rdI w' v l := by
  rcases h with h | ⟨b, cap, rfl, hl, hc⟩
  · exact .inl h
  · exact .inr ⟨b, cap, rfl, Nat.lt_of_lt_of_le hl hb.size, fun j hj => by rw [hb.cell (p := ⟨b, j, none⟩) hl]; exact hc j hj⟩
theorem rdI.belowB {w w' : World} {v : Value} {l : List Int} {B : Nat} (h : rdI w v l) (hb : Below B w w') (hB : w.heap.size ≤ B) : rdI w' v l := by
  rcases h with h | ⟨b, cap, rfl, hl, hc⟩
  · exact .inl h
  · exact .inr ⟨b, cap, rfl, Nat.lt_of_lt_of_le hl hb.size, fun j hj => by rw [hb.cell (p := ⟨b, j, none⟩) (show b < B by omega)]; exact hc j hj⟩
def ivs (l : List Int) : List Value := l.map (Value.int .i64)
theorem rdI_of_owns {w : World} {base : Nat} {e : TypeId} {v : Value} {l : List Int} (h : w.ownsRow base e 1 v l.length (ivs l)) : rdI w v l := by
  have hlt := h.lt
  rcases h.2 with ⟨rfl, h0⟩ | ⟨g, cap, cur, rfl, _, _, _, _, _, _⟩
  · exact .inl ⟨none, 0, rfl, List.length_eq_zero_iff.1 h0⟩
  · refine .inr ⟨g, cap, rfl, (hlt g rfl).2, fun j hj => ?_⟩
    rw [h.cellAt j (by omega)]
    simp [ivs, hj]
end Go.Proofs.YtiahgcgpakgeeaaGreatDoor

namespace Go.Proofs.YtiahgcgpakgeeaaGreatDoor
open Go.RowKit

theorem eq_set_any (d : Nat) (x0 x1 x2 x3 y0 y1 y2 y3 : Int) (w : World) :
    (Op.equalIn (d + 2) 36 (.agg #[.int .u64 x0, .int .u64 x1, .int .u64 x2, .int .u64 x3]) (.agg #[.int .u64 y0, .int .u64 y1, .int .u64 y2, .int .u64 y3])).run Tryz.prog w = .ok (x0 == y0 && x1 == y1 && x2 == y2 && x3 == y3) w := by
  have hs : ∀ w, (sizeOf 34).run Tryz.prog w = .ok 1 w := fun _ => by kernel_rfl
  have hp : ∀ (xs : Array Value) (i : Nat) (v : Value) (w : World), xs[i]? = some v → (part 34 xs i).run Tryz.prog w = .ok v w := by
    intro xs i v w hv
    simp [part, go_sem, hv, isAgg, run_underlying Tryz.underlying34]
  have e : ∀ (x y : Int) (w : World), (Op.equalIn (d + 1) 34 (.int .u64 x) (.int .u64 y)).run Tryz.prog w = .ok (x == y) w := fun x y w => by
    rw [run_equalIn_int w d 34 .u64 .u64 x y Tryz.underlying34]
  rw [show d + 2 = (d + 1) + 1 from rfl, Op.equalIn]
  simp only [Sem.run_bind, run_underlying Tryz.underlying36, Result.andThen_ok, hs, Std.Legacy.Range.forIn_eq_forIn_range', Std.Legacy.Range.size]
  by_cases h0 : x0 = y0 <;> by_cases h1 : x1 = y1 <;> by_cases h2 : x2 = y2 <;> by_cases h3 : x3 = y3 <;> simp [List.range', hp, e, h0, h1, h2, h3]

theorem eq_node (k x0 x1 x2 x3 l h k' y0 y1 y2 y3 l' h' : Int) (w : World) :
    (Op.equalIn 10000 38 (.agg #[.int .i64 k, .int .u64 x0, .int .u64 x1, .int .u64 x2, .int .u64 x3, .int .i64 l, .int .i64 h]) (.agg #[.int .i64 k', .int .u64 y0, .int .u64 y1, .int .u64 y2, .int .u64 y3, .int .i64 l', .int .i64 h'])).run Tryz.prog w =
      .ok (k == k' && ((x0 == y0 && x1 == y1 && x2 == y2 && x3 == y3) && (l == l' && h == h'))) w := by
  rw [show (10000 : Nat) = 9999 + 1 from rfl, run_equalIn_struct w 9999 38 _ _ (by kernel_rfl) (by kernel_rfl)]
  have hs : ∀ (b c d e f g h : Int) (w : World), (part 36 #[.int .i64 b, .int .u64 c, .int .u64 d, .int .u64 e, .int .u64 f, .int .i64 g, .int .i64 h] 1).run Tryz.prog w = .ok (.agg #[.int .u64 c, .int .u64 d, .int .u64 e, .int .u64 f]) w := fun _ _ _ _ _ _ _ _ => by kernel_rfl
  have h0 : ∀ (b c d e f g h : Int) (w : World), (part 3 #[.int .i64 b, .int .u64 c, .int .u64 d, .int .u64 e, .int .u64 f, .int .i64 g, .int .i64 h] 0).run Tryz.prog w = .ok (.int .i64 b) w := fun _ _ _ _ _ _ _ _ => by kernel_rfl
  have h5 : ∀ (b c d e f g h : Int) (w : World), (part 3 #[.int .i64 b, .int .u64 c, .int .u64 d, .int .u64 e, .int .u64 f, .int .i64 g, .int .i64 h] 5).run Tryz.prog w = .ok (.int .i64 g) w := fun _ _ _ _ _ _ _ _ => by kernel_rfl
  have h6 : ∀ (b c d e f g h : Int) (w : World), (part 3 #[.int .i64 b, .int .u64 c, .int .u64 d, .int .u64 e, .int .u64 f, .int .i64 g, .int .i64 h] 6).run Tryz.prog w = .ok (.int .i64 h) w := fun _ _ _ _ _ _ _ _ => by kernel_rfl
  have ei : ∀ (x y : Int) (w : World), (Op.equalIn 9999 3 (.int .i64 x) (.int .i64 y)).run Tryz.prog w = .ok (x == y) w := fun x y w => run_equalIn_int w 9998 3 .i64 .i64 x y Tryz.underlying3
  have es : ∀ (a b c d e f g h : Int) (w : World), (Op.equalIn 9999 36 (.agg #[.int .u64 a, .int .u64 b, .int .u64 c, .int .u64 d]) (.agg #[.int .u64 e, .int .u64 f, .int .u64 g, .int .u64 h])).run Tryz.prog w = .ok (a == e && b == f && c == g && d == h) w := fun a b c d e f g h w => eq_set_any 9997 a b c d e f g h w
  simp only [Program.fieldsOf, Tryz.underlying38]
  cases ek : (k == k') <;> cases eS : (x0 == y0 && x1 == y1 && x2 == y2 && x3 == y3) <;> cases el : (l == l') <;> cases eh : (h == h') <;> simp [Op.eqFields, hs, h0, h5, h6, ei, es, ek, eS, el, eh]

set_option maxRecDepth 100000 in
set_option maxHeartbeats 4000000 in
theorem same_is (N M : Nat → Nd) (n : Nat) (hNM : ∀ j, j < n → N j = M j) (hm : n ≤ 1000) (b off cap b' off' cap' : Nat) (w : World)
    (hc : rdN w b off n N) (hc' : rdN w b' off' n M) :
    Calls Tryz.prog 8 #[.slice (some ⟨b, off, none⟩) n cap, .slice (some ⟨b', off', none⟩) n cap'] w fun e w' => e = .returned (.bool true) ∧ ∃ q, w' = w.drewN q := by
  have hq : ∀ (k x0 x1 x2 x3 l h : Int) (w : World), (Op.equalIn 10000 38 (.agg #[.int .i64 k, .int .u64 x0, .int .u64 x1, .int .u64 x2, .int .u64 x3, .int .i64 l, .int .i64 h]) (.agg #[.int .i64 k, .int .u64 x0, .int .u64 x1, .int .u64 x2, .int .u64 x3, .int .i64 l, .int .i64 h])).run Tryz.prog w = .ok true w := fun k x0 x1 x2 x3 l h w => by
    rw [eq_node]; simp
  have HC := Lib.hid hc; have HC' := Lib.hid hc'; have HNM := Lib.hid hNM
  clear hc hc' hNM
  go_enter Tryz.func8, Tryz.ntmps8
  go_wp2
  go_loopw [5] (fun i wr => ∃ k m : Nat, k ≤ n ∧ i = .int .i64 k ∧ wr = w.drewN m) (fun i _ => n - (intOf i).toNat)
  case atStart => exact ⟨0, 0, Nat.zero_le _, rfl, rfl⟩
  case round =>
    obtain ⟨k, m, hk, rfl, rfl⟩ := hrel
    by_cases hlt : k < n
    · have h1 := (HC.out k hlt).2
      have h2 := (HC'.out k hlt).2
      rw [← HNM.out k hlt] at h2
      obtain ⟨⟨k0, x0, x1, x2, x3, l0, l1⟩, hxy⟩ : ∃ r, r = N k := ⟨_, rfl⟩
      rw [← hxy] at h1 h2
      clear hxy
      unfold ndAt at h1 h2
      simp only at h1 h2
      obtain ⟨p0, p1, p2, p3, p4, p5, p6⟩ := h1
      obtain ⟨q0, q1, q2, q3, q4, q5, q6⟩ := h2
      have hi0 : (0 : Int) ≤ (k : Int) := by omega
      have hi1 : (k : Int) < (n : Int) := by omega
      go_wp2_with fail
      go_quiet (fail)
      go_wp2
      go_roundw
      case rel => exact ⟨k + 1, m + nq, by omega, by go_num, rfl⟩
      case measure => simp [intOf]; omega
    · have hkl : ¬ k < n := hlt
      go_wp2
      go_ret
      exact ⟨rfl, m, rfl⟩
end Go.Proofs.YtiahgcgpakgeeaaGreatDoor
