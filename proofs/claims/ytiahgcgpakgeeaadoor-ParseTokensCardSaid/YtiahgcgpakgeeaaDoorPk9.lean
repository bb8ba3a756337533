/-
  The walk of the fifth reference's Of.
  The walk of the fifth reference's Of at no token.
-/
import Derived.Test.YtiahgcgpakgeeaaDoorPk8
namespace Go.Proofs.YtiahgcgpakgeeaaDoor
open Go.RowKit

/-- What Of tells: a tree, or a place and an error. -/
def ofF (T : Nat → Tn) (n : Nat) (end_ : Int) : Option (List Nd) × Int × Int :=
  if (wrF T n (n + 1) 0 0).2.1 ≠ 0 then (none, (T (wrF T n (n + 1) 0 0).1.toNat).p, (wrF T n (n + 1) 0 0).2.1)
  else if 0 < (wrF T n (n + 1) 0 0).2.2 then (none, end_, 3)
  else if 512 < (ei T n (n + 1) 0).1.length then (none, 0, 4)
  else (some (ei T n (n + 1) 0).1, 0, 0)
def ofPost (r : Option (List Nd) × Int × Int) (w : World) (e : Ending) (w' : World) : Prop :=
  (∀ l, r.1 = some l → ∃ v, e = .returned (.tuple #[v, .int .i64 r.2.1, .int .i64 r.2.2]) ∧ w'.ownsRow w.heap.size 37 7 v l.length (nds l)) ∧ (r.1 = none → e = .returned (.tuple #[.slice none 0 0, .int .i64 r.2.1, .int .i64 r.2.2])) ∧ Below w.heap.size w w'
theorem ofPost.bad {r : Option (List Nd) × Int × Int} {w w' : World} (x y : Int) (h : r = (none, x, y)) (hb : Below w.heap.size w w') : ofPost r w (.returned (.tuple #[.slice none 0 0, .int .i64 x, .int .i64 y])) w' := by
  subst h
  exact ⟨fun l hl => (by cases hl), fun _ => rfl, hb⟩
theorem ofPost.good {r : Option (List Nd) × Int × Int} {w w' : World} {v : Value} (l : List Nd) (h : r = (some l, 0, 0)) (ho : w'.ownsRow w.heap.size 37 7 v l.length (nds l)) (hb : Below w.heap.size w w') : ofPost r w (.returned (.tuple #[v, .int .i64 0, .int .i64 0])) w' := by
  subst h
  exact ⟨fun l' hl => (by cases hl; exact ⟨v, rfl, ho⟩), fun hn => (by cases hn), hb⟩

set_option maxRecDepth 100000 in
set_option maxHeartbeats 4000000 in
theorem rof_some (T : Nat → Tn) (n b off cap : Nat) (end_ : Int) (hn : n ≤ 1000) (w : World) (hr : rdTn w b off n T) :
    Calls Tryd.prog 6 #[.slice (some ⟨b, off, none⟩) n cap, .int .i64 end_] w (ofPost (ofF T n end_) w) := by
  obtain ⟨R, hR⟩ : ∃ R, ofF T n end_ = R := ⟨_, rfl⟩
  rw [hR]
  have HRD := Lib.hid hr
  have HQ := Lib.hid (wrong_some T n b off cap hn w hr)
  have hbd := wrF_bd (T := T) (n := n) (n + 1) 0 0 (by omega)
  obtain ⟨⟨i, e, op⟩, hw⟩ : ∃ r, wrF T n (n + 1) 0 0 = r := ⟨_, rfl⟩
  unfold ofF at hR
  rw [hw] at HQ hbd hR
  simp only at hbd hR
  have HR := Lib.hid hR
  clear hr hw hR
  go_enter Tryd.func6, Tryd.ntmps6
  go_wp2_with fail
  refine HQ.out.mono ?_
  rintro e1 w1 ⟨rfl, hb⟩
  have HB1 := Lib.hid hb
  have HRD1 := Lib.hid (HRD.out.below hb)
  clear hb HQ HRD
  by_cases he : e = 0
  · subst he
    by_cases ho : 0 < op
    · have d0 : decide (0 < op) = true := decide_eq_true ho
      have d1 : decide ((0 : Int) < (op : Int)) = true := decide_eq_true (by omega)
      have HE : Hid (R = (none, end_, 3)) := Lib.hid (by have := HR.out; rw [if_neg (by omega), if_pos ho] at this; exact this.symm)
      clear HR hbd
      go_wp2
      go_ret3
      exact ofPost.bad _ _ HE.out HB1.out
    · have d0 : decide (0 < op) = false := decide_eq_false ho
      have d1 : decide ((0 : Int) < (op : Int)) = false := decide_eq_false (by omega)
      have hq := either_any T n b off cap hn (n + 1) 0 (by omega) (by omega)
      have hok := (ei_ok T n (n + 1)) 0 (by omega) (by omega)
      obtain ⟨⟨l, j⟩, hl⟩ : ∃ r, ei T n (n + 1) 0 = r := ⟨_, rfl⟩
      rw [hl] at hq hok
      simp only at hok
      have HE0 : Hid ((if 512 < l.length then (none, 0, 4) else (some l, 0, 0)) = R) := Lib.hid (by have := HR.out; rw [if_neg (by omega), if_neg ho, hl] at this; exact this)
      have HQ := Lib.hid hq
      clear HR hbd hl hq ho
      go_wp2_with fail
      refine (HQ.out _ HRD1.out).mono ?_
      rintro e2 w2 ⟨v, rfl, hown, hb⟩
      have HB2 := Lib.hid (HB1.out.trans (hb.mono HB1.out.size))
      have HO := Lib.hid (owns_mono hown HB1.out.size)
      obtain ⟨g, c, rfl, -, -, -⟩ := owns_block hown (by simp only; omega)
      simp only
      clear hown hb HB1 HQ
      by_cases h5 : 512 < l.length
      · have d5 : decide (512 < l.length) = true := decide_eq_true h5
        have d6 : decide ((512 : Int) < (l.length : Int)) = true := decide_eq_true (by omega)
        have HE : Hid (R = (none, 0, 4)) := Lib.hid (by have := HE0.out; rw [if_pos h5] at this; exact this.symm)
        clear HE0
        go_wp2
        go_ret3
        exact ofPost.bad _ _ HE.out HB2.out
      · have d5 : decide (512 < l.length) = false := decide_eq_false h5
        have d6 : decide ((512 : Int) < (l.length : Int)) = false := decide_eq_false (by omega)
        have HE : Hid (R = (some l, 0, 0)) := Lib.hid (by have := HE0.out; rw [if_neg h5] at this; exact this.symm)
        clear HE0
        go_wp2
        go_ret3
        exact ofPost.good l HE.out HO.out HB2.out
  · have d0 : (e == 0) = false := beq_eq_false_iff_ne.2 he
    have d0' : (e != 0) = true := by simp [he]
    obtain ⟨q, rfl⟩ : ∃ q : Nat, i = q := ⟨i.toNat, by rcases hbd.2 with h | h <;> omega⟩
    have hq : q < n := by rcases hbd.2 with h | h <;> omega
    have hc := (HRD1.out q hq).2.2.1
    have HE : Hid (R = (none, (T q).p, e)) := Lib.hid (by have := HR.out; rw [if_pos he, Int.toNat_natCast] at this; exact this.symm)
    have q0 : (0 : Int) ≤ (q : Int) := by omega
    have q1 : (q : Int) < (n : Int) := by omega
    clear HR hbd he HRD1
    go_wp2_with fail
    go_quiet (fail)
    go_wp2
    go_ret3
    exact ofPost.bad _ _ HE.out (below_drewN _ HB1.out)
end Go.Proofs.YtiahgcgpakgeeaaDoor

namespace Go.Proofs.YtiahgcgpakgeeaaDoor
open Go.RowKit

theorem ofF_zero (T : Nat → Tn) (end_ : Int) : ofF T 0 end_ = (some [nd0 2], 0, 0) := by
  have h1 : wrF T 0 (0 + 1) 0 0 = (-1, 0, 0) := by unfold wrF; rw [if_pos (by omega)]
  have h2 : bhF T 0 (ei T 0 0) 0 = ([nd0 2], 0) := by
    unfold bhF behL
    rw [if_neg (fun h => by omega)]; rfl
  have h3 : ei T 0 (0 + 1) 0 = ([nd0 2], 0) := by
    show eiF T 0 (ei T 0 0) 0 = _
    unfold eiF
    rw [h2]
    unfold eiL
    rw [if_neg (fun h => by omega)]
  unfold ofF
  rw [h1, h3]
  simp
theorem behind_zero (p : Option Addr) (cap : Nat) (w : World) : Calls Tryd.prog 19 #[.slice p 0 cap, .int .i64 0] w (ndPost ([nd0 2], 0) w) := by
  go_enter Tryd.func19, Tryd.ntmps19
  go_wp2
  refine wp_loop_rounds 1 ?_
  rw [rounds_succ]; go_wp2
  go_ret2
  exact ndPost.mk [nd0 2] 0 rfl rfl (lit_owns w w.heap.size (Nat.le_refl _) (nd0 2)) ((Below.refl _ _).alloc (Nat.le_refl _) _)
theorem either_zero (p : Option Addr) (cap : Nat) (w : World) : Calls Tryd.prog 12 #[.slice p 0 cap, .int .i64 0] w (ndPost ([nd0 2], 0) w) := by
  go_enter Tryd.func12, Tryd.ntmps12
  go_wp2_with fail
  refine (behind_zero p cap _).mono ?_
  rintro e w1 ⟨v, rfl, ho, hb⟩
  have HO := Lib.hid ho; have HB := Lib.hid hb
  clear ho hb
  go_wp2_with fail
  refine wp_loop_rounds 1 ?_
  rw [rounds_succ]; go_wp2
  go_ret2
  exact ndPost.mk [nd0 2] 0 rfl rfl HO.out HB.out
theorem rof_zero (T : Nat → Tn) (p : Option Addr) (cap : Nat) (end_ : Int) (w : World) : Calls Tryd.prog 6 #[.slice p 0 cap, .int .i64 end_] w (ofPost (ofF T 0 end_) w) := by
  rw [ofF_zero]
  go_enter Tryd.func6, Tryd.ntmps6
  go_wp2_with fail
  refine (wrong_zero p cap _).mono ?_
  rintro e w1 ⟨rfl, rfl⟩
  go_wp2_with fail
  refine (either_zero p cap _).mono ?_
  rintro e w1 ⟨v, rfl, ho, hb⟩
  obtain ⟨g, c, rfl, -, -, -⟩ := owns_block ho (by simp)
  have HO := Lib.hid ho; have HB := Lib.hid hb
  clear ho hb
  go_wp2
  go_ret3
  exact ofPost.good [nd0 2] rfl HO.out HB.out
end Go.Proofs.YtiahgcgpakgeeaaDoor
