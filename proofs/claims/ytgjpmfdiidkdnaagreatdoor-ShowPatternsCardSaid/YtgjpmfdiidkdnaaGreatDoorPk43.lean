/-
  The walk of part, given either.
-/
import Derived.Test.YtgjpmfdiidkdnaaGreatDoorPk42
namespace Go.Proofs.YtgjpmfdiidkdnaaGreatDoor
open Go.RowKit

/-- What the builder's calls leave. -/
def bPost (B b off n i : Nat) (L : List Nd) (w : World) (e : Ending) (w' : World) : Prop := e = .returned (.tuple #[]) ∧ Below B w w' ∧ bld w' B b off n i L
theorem rdTn.belowB {w w' : World} {b off n B : Nat} {T : Nat → Tn} (h : rdTn w b off n T) (hb : Below B w w') (hB : 0 < n → b < B) : rdTn w' b off n T := fun j hj =>
  ⟨Nat.lt_of_lt_of_le (h j hj).1 hb.size, (h j hj).2.below hb (hB (by omega))⟩
/-- How many tokens are left. -/
def restLen (B : Nat) (w : World) : Nat := match w.cell? ⟨B, 0, none⟩ with | some (.slice _ k _) => k | _ => 0
theorem bld.rest {w : World} {B b off n i : Nat} {L : List Nd} (h : bld w B b off n i L) : restLen B w = n - i := by
  obtain ⟨p, k, c, v, h1, -, -, h4, -⟩ := h
  have := (blk_cells h4).1
  unfold restLen
  rw [this]
  show k = n - i
  omega
theorem bld.le {w : World} {B b off n i : Nat} {L : List Nd} (h : bld w B b off n i L) : i ≤ n := by
  obtain ⟨p, k, c, v, h1, -, -, h4, -⟩ := h
  omega
theorem bld.alloc {w : World} {B b off n i : Nat} {L : List Nd} (h : bld w B b off n i L) (o : Obj) : bld (w.alloc o) B b off n i L := by
  obtain ⟨p, k, c, v, h1, h2, h3, h4, h5⟩ := h
  exact bld.mk h1 h2 h3 (bk.alloc ⟨h4, h5⟩ o)
/-- The contracts of the builder's four small calls, at one builder. -/
structure small (T : Nat → Tn) (n B b off : Nat) : Prop where
  next : ∀ i L w, rdTn w b off n T → bld w B b off n i L → Calls Tryz.prog 54 #[.pointer (some ⟨B, 0, none⟩)] w fun e w' => e = .returned (.int .i64 (nxK T n i)) ∧ w' = w
  partNext : ∀ i L w, rdTn w b off n T → bld w B b off n i L → Calls Tryz.prog 67 #[.pointer (some ⟨B, 0, none⟩)] w fun e w' => e = .returned (.bool (ptK (nxK T n i))) ∧ w' = w
  take : ∀ i L w, i < n → rdTn w b off n T → bld w B b off n i L → Calls Tryz.prog 55 #[.pointer (some ⟨B, 0, none⟩)] w fun e w' => e = .returned (tnv (T i)) ∧ Below B w w' ∧ bld w' B b off n (i + 1) L
theorem small_any (T : Nat → Tn) (n B b off : Nat) (hn : n ≤ 1000) : small T n B b off where
  next := fun i L w hr h => next_any T n B b off i L w hr h
  partNext := fun i L w hr h => partNext_any T n B b off i L w hr h
  take := fun i L w hi hr h => take_any T n B b off i L w hn hi hr h

set_option maxRecDepth 100000 in
set_option maxHeartbeats 4000000 in
theorem cpart_of (T : Nat → Tn) (n m B b off : Nat) (e : Nat → List Nd × Nat) (hn : n ≤ 1000) (hbB : 0 < n → b < B) (hfit : fitT T n) (hl : eLeaf T n m e) (hc : eCnt T n m e)
    (hE : ∀ a, m ≤ a → a ≤ n → startOk T n a → ∀ L w, rdTn w b off n T → bld w B b off n a L → Calls Tryz.prog 38 #[.pointer (some ⟨B, 0, none⟩)] w (bPost B b off n (e a).2 (L ++ (e a).1) w))
    (a : Nat) (h1 : m ≤ a + 1) (h2 : a < n) (hp : ptK (T a).k = true) (L : List Nd) (w : World) (hr : rdTn w b off n T) (hb : bld w B b off n a L) :
    Calls Tryz.prog 68 #[.pointer (some ⟨B, 0, none⟩)] w (bPost B b off n (partF T n e a).2 (L ++ (partF T n e a).1) w) := by
  have S := Lib.hid (small_any T n B b off hn)
  have HE := Lib.hid hE
  have HR := Lib.hid hr
  have HBB := Lib.hid hbB
  have HT := Lib.hid (S.out.take a L w h2 hr hb)
  obtain ⟨kk, hkk⟩ : ∃ kk, (T a).k = kk := ⟨_, rfl⟩
  have hk4 : kk = 1 ∨ kk = 6 ∨ kk = 7 ∨ kk = 3 := by rw [hkk] at hp; unfold ptK at hp; simp at hp; omega
  obtain ⟨R, hR⟩ : ∃ R, partF T n e a = R := ⟨_, rfl⟩
  rw [hR]
  have HP : Hid (∀ l i, partB T e a = (l, i) → R = (l ++ (repsL T n (n + 1) i).1, (repsL T n (n + 1) i).2)) := Lib.hid fun l i h => by rw [← hR]; unfold partF; rw [h]
  have HF := Lib.hid (fun hk3 => hfit.group hl hc h1 h2 hk3)
  clear hE hr hbB hb hp hR hfit hl hc
  unfold tnv at HT
  have HKK := Lib.hid hkk
  rw [hkk] at HT
  clear hkk
  rcases hk4 with rfl | rfl | rfl | rfl
  · have HB : Hid (partB T e a = ([ndSet (T a)], a + 1)) := Lib.hid (by unfold partB; rw [if_pos HKK.out])
    go_enter Tryz.func68, Tryz.ntmps68
    go_wp2_with fail
    refine HT.out.mono ?_
    rintro e1 w1 ⟨rfl, hb1, hl1⟩
    have HB1 := Lib.hid hb1; have HL1 := Lib.hid hl1
    have hB := hl1.lt
    clear hb1 hl1 HT
    go_wp2_with fail
    refine (put_any (ndSet (T a)) n B b off (a + 1) L _ (HL1.out.alloc _)).mono ?_
    rintro e2 w2 ⟨rfl, hb2, hl2⟩
    have HI : Hid (∃ (i u : Nat) (acc : List Nd), Below B w w2 ∧ bld w2 B b off n i acc ∧ Hid (L ++ R.1 = acc ++ (repsL T n u i).1 ∧ R.2 = (repsL T n u i).2 ∧ n + 1 ≤ u + i)) :=
      Lib.hid ⟨a + 1, n + 1, L ++ [ndSet (T a)], (HB1.out.alloc (by omega) _).trans hb2, hl2, Lib.hid (by rw [HP.out _ _ HB.out]; exact ⟨(List.append_assoc ..).symm, rfl, by omega⟩)⟩
    clear hb2 hl2 HB1 HL1 HB HP HF HKK HE
    go_wp2_with fail
    go_loopw [] (fun wr => ∃ (i u : Nat) (acc : List Nd), Below B w wr ∧ bld wr B b off n i acc ∧ Hid (L ++ R.1 = acc ++ (repsL T n u i).1 ∧ R.2 = (repsL T n u i).2 ∧ n + 1 ≤ u + i)) (fun wr => restLen B wr)
    case atStart => exact HI.out
    case round =>
      obtain ⟨i, u, acc, hW, hK, hh⟩ := hrel
      clear HI
      have HQ := Lib.hid (S.out.next i acc wr (HR.out.belowB hW HBB.out) hK)
      have hile := hK.le
      have HS0 := Lib.hid hK.rest
      have hBr := hK.lt
      obtain ⟨x, hx⟩ : ∃ x, nxK T n i = x := ⟨_, rfl⟩
      rw [hx] at HQ
      by_cases h5 : x = 5
      · subst h5
        have hin : i < n ∧ (T i).k = 5 := by
          unfold nxK at hx
          by_cases hlt : i < n
          · rw [if_pos hlt] at hx; exact ⟨hlt, hx⟩
          · rw [if_neg hlt] at hx; exact absurd hx (by omega)
        have HE5 : Hid (∃ u', L ++ R.1 = acc ++ [ndRep (T i)] ++ (repsL T n u' (i + 1)).1 ∧ R.2 = (repsL T n u' (i + 1)).2 ∧ n + 1 ≤ u' + (i + 1)) := Lib.hid (by
          obtain ⟨y1, y2, y3⟩ := hh.out
          obtain ⟨u', rfl⟩ : ∃ u', u = u' + 1 := ⟨u - 1, by omega⟩
          refine ⟨u', ?_, ?_, by omega⟩
          · rw [y1]; conv => lhs; unfold repsL
            rw [if_pos hin]; simp
          · rw [y2]; conv => lhs; unfold repsL
            rw [if_pos hin])
        have HTi := Lib.hid (S.out.take i acc wr hin.1 (HR.out.belowB hW HBB.out) hK)
        unfold tnv at HTi
        have HW := Lib.hid hW
        have hlt := hin.1
        clear hx hin hh hW hK
        go_wp2_with fail
        refine HQ.out.mono ?_
        rintro e5 w5 ⟨rfl, rfl⟩
        clear HQ
        go_wp2_with fail
        refine HTi.out.mono ?_
        rintro e6 w6 ⟨rfl, hb6, hl6⟩
        have HB6 := Lib.hid (HW.out.trans hb6); have HL6 := Lib.hid hl6
        have hB6 := hl6.lt
        clear hb6 hl6 HTi HW
        go_wp2_with fail
        refine (put_any (ndRep (T i)) n B b off (i + 1) acc _ (HL6.out.alloc _)).mono ?_
        rintro e7 w7 ⟨rfl, hb7, hl7⟩
        have HB7 := Lib.hid ((HB6.out.alloc (by omega) _).trans hb7); have HL7 := Lib.hid hl7
        clear hb7 hl7 HB6 HL6
        go_wp2
        go_roundw
        case rel =>
          obtain ⟨u', y1, y2, y3⟩ := HE5.out
          exact ⟨i + 1, u', acc ++ [ndRep (T i)], HB7.out, HL7.out, Lib.hid ⟨y1, y2, y3⟩⟩
        case measure => rw [HL7.out.rest, HS0.out]; omega
      · have d5 : (x == 5) = false := beq_eq_false_iff_ne.2 h5
        have HE : Hid (L ++ R.1 = acc ∧ R.2 = i) := Lib.hid (by
          obtain ⟨y1, y2, y3⟩ := hh.out
          obtain ⟨u', rfl⟩ : ∃ u', u = u' + 1 := ⟨u - 1, by omega⟩
          have hn5 : ¬ (i < n ∧ (T i).k = 5) := fun hc => h5 (by rw [← hx]; unfold nxK; rw [if_pos hc.1]; exact hc.2)
          unfold repsL at y1 y2
          rw [if_neg hn5] at y1 y2
          exact ⟨by simpa using y1, y2⟩)
        have HW := Lib.hid hW; have HK := Lib.hid hK
        clear hh hx hW hK h5
        go_wp2_with fail
        refine HQ.out.mono ?_
        rintro e5 w5 ⟨rfl, rfl⟩
        clear HQ
        go_wp2
        refine bodyPost_end (results_none rfl _ _ _) rfl ?_
        exact ⟨rfl, HW.out, by rw [HE.out.1, HE.out.2]; exact HK.out⟩
  · have HB : Hid (partB T e a = ([nd0 3], a + 1)) := Lib.hid (by unfold partB; rw [if_neg (by rw [HKK.out]; decide), if_pos HKK.out])
    go_enter Tryz.func68, Tryz.ntmps68
    go_wp2_with fail
    refine HT.out.mono ?_
    rintro e1 w1 ⟨rfl, hb1, hl1⟩
    have HB1 := Lib.hid hb1; have HL1 := Lib.hid hl1
    have hB := hl1.lt
    clear hb1 hl1 HT
    go_wp2_with fail
    refine (put_any (nd0 3) n B b off (a + 1) L _ (HL1.out.alloc _)).mono ?_
    rintro e2 w2 ⟨rfl, hb2, hl2⟩
    have HI : Hid (∃ (i u : Nat) (acc : List Nd), Below B w w2 ∧ bld w2 B b off n i acc ∧ Hid (L ++ R.1 = acc ++ (repsL T n u i).1 ∧ R.2 = (repsL T n u i).2 ∧ n + 1 ≤ u + i)) :=
      Lib.hid ⟨a + 1, n + 1, L ++ [nd0 3], (HB1.out.alloc (by omega) _).trans hb2, hl2, Lib.hid (by rw [HP.out _ _ HB.out]; exact ⟨(List.append_assoc ..).symm, rfl, by omega⟩)⟩
    clear hb2 hl2 HB1 HL1 HB HP HF HKK HE
    go_wp2_with fail
    go_loopw [] (fun wr => ∃ (i u : Nat) (acc : List Nd), Below B w wr ∧ bld wr B b off n i acc ∧ Hid (L ++ R.1 = acc ++ (repsL T n u i).1 ∧ R.2 = (repsL T n u i).2 ∧ n + 1 ≤ u + i)) (fun wr => restLen B wr)
    case atStart => exact HI.out
    case round =>
      obtain ⟨i, u, acc, hW, hK, hh⟩ := hrel
      clear HI
      have HQ := Lib.hid (S.out.next i acc wr (HR.out.belowB hW HBB.out) hK)
      have hile := hK.le
      have HS0 := Lib.hid hK.rest
      have hBr := hK.lt
      obtain ⟨x, hx⟩ : ∃ x, nxK T n i = x := ⟨_, rfl⟩
      rw [hx] at HQ
      by_cases h5 : x = 5
      · subst h5
        have hin : i < n ∧ (T i).k = 5 := by
          unfold nxK at hx
          by_cases hlt : i < n
          · rw [if_pos hlt] at hx; exact ⟨hlt, hx⟩
          · rw [if_neg hlt] at hx; exact absurd hx (by omega)
        have HE5 : Hid (∃ u', L ++ R.1 = acc ++ [ndRep (T i)] ++ (repsL T n u' (i + 1)).1 ∧ R.2 = (repsL T n u' (i + 1)).2 ∧ n + 1 ≤ u' + (i + 1)) := Lib.hid (by
          obtain ⟨y1, y2, y3⟩ := hh.out
          obtain ⟨u', rfl⟩ : ∃ u', u = u' + 1 := ⟨u - 1, by omega⟩
          refine ⟨u', ?_, ?_, by omega⟩
          · rw [y1]; conv => lhs; unfold repsL
            rw [if_pos hin]; simp
          · rw [y2]; conv => lhs; unfold repsL
            rw [if_pos hin])
        have HTi := Lib.hid (S.out.take i acc wr hin.1 (HR.out.belowB hW HBB.out) hK)
        unfold tnv at HTi
        have HW := Lib.hid hW
        have hlt := hin.1
        clear hx hin hh hW hK
        go_wp2_with fail
        refine HQ.out.mono ?_
        rintro e5 w5 ⟨rfl, rfl⟩
        clear HQ
        go_wp2_with fail
        refine HTi.out.mono ?_
        rintro e6 w6 ⟨rfl, hb6, hl6⟩
        have HB6 := Lib.hid (HW.out.trans hb6); have HL6 := Lib.hid hl6
        have hB6 := hl6.lt
        clear hb6 hl6 HTi HW
        go_wp2_with fail
        refine (put_any (ndRep (T i)) n B b off (i + 1) acc _ (HL6.out.alloc _)).mono ?_
        rintro e7 w7 ⟨rfl, hb7, hl7⟩
        have HB7 := Lib.hid ((HB6.out.alloc (by omega) _).trans hb7); have HL7 := Lib.hid hl7
        clear hb7 hl7 HB6 HL6
        go_wp2
        go_roundw
        case rel =>
          obtain ⟨u', y1, y2, y3⟩ := HE5.out
          exact ⟨i + 1, u', acc ++ [ndRep (T i)], HB7.out, HL7.out, Lib.hid ⟨y1, y2, y3⟩⟩
        case measure => rw [HL7.out.rest, HS0.out]; omega
      · have d5 : (x == 5) = false := beq_eq_false_iff_ne.2 h5
        have HE : Hid (L ++ R.1 = acc ∧ R.2 = i) := Lib.hid (by
          obtain ⟨y1, y2, y3⟩ := hh.out
          obtain ⟨u', rfl⟩ : ∃ u', u = u' + 1 := ⟨u - 1, by omega⟩
          have hn5 : ¬ (i < n ∧ (T i).k = 5) := fun hc => h5 (by rw [← hx]; unfold nxK; rw [if_pos hc.1]; exact hc.2)
          unfold repsL at y1 y2
          rw [if_neg hn5] at y1 y2
          exact ⟨by simpa using y1, y2⟩)
        have HW := Lib.hid hW; have HK := Lib.hid hK
        clear hh hx hW hK h5
        go_wp2_with fail
        refine HQ.out.mono ?_
        rintro e5 w5 ⟨rfl, rfl⟩
        clear HQ
        go_wp2
        refine bodyPost_end (results_none rfl _ _ _) rfl ?_
        exact ⟨rfl, HW.out, by rw [HE.out.1, HE.out.2]; exact HK.out⟩
  · have HB : Hid (partB T e a = ([nd0 4], a + 1)) := Lib.hid (by unfold partB; rw [if_neg (by rw [HKK.out]; decide), if_neg (by rw [HKK.out]; decide), if_pos HKK.out])
    go_enter Tryz.func68, Tryz.ntmps68
    go_wp2_with fail
    refine HT.out.mono ?_
    rintro e1 w1 ⟨rfl, hb1, hl1⟩
    have HB1 := Lib.hid hb1; have HL1 := Lib.hid hl1
    have hB := hl1.lt
    clear hb1 hl1 HT
    go_wp2_with fail
    refine (put_any (nd0 4) n B b off (a + 1) L _ (HL1.out.alloc _)).mono ?_
    rintro e2 w2 ⟨rfl, hb2, hl2⟩
    have HI : Hid (∃ (i u : Nat) (acc : List Nd), Below B w w2 ∧ bld w2 B b off n i acc ∧ Hid (L ++ R.1 = acc ++ (repsL T n u i).1 ∧ R.2 = (repsL T n u i).2 ∧ n + 1 ≤ u + i)) :=
      Lib.hid ⟨a + 1, n + 1, L ++ [nd0 4], (HB1.out.alloc (by omega) _).trans hb2, hl2, Lib.hid (by rw [HP.out _ _ HB.out]; exact ⟨(List.append_assoc ..).symm, rfl, by omega⟩)⟩
    clear hb2 hl2 HB1 HL1 HB HP HF HKK HE
    go_wp2_with fail
    go_loopw [] (fun wr => ∃ (i u : Nat) (acc : List Nd), Below B w wr ∧ bld wr B b off n i acc ∧ Hid (L ++ R.1 = acc ++ (repsL T n u i).1 ∧ R.2 = (repsL T n u i).2 ∧ n + 1 ≤ u + i)) (fun wr => restLen B wr)
    case atStart => exact HI.out
    case round =>
      obtain ⟨i, u, acc, hW, hK, hh⟩ := hrel
      clear HI
      have HQ := Lib.hid (S.out.next i acc wr (HR.out.belowB hW HBB.out) hK)
      have hile := hK.le
      have HS0 := Lib.hid hK.rest
      have hBr := hK.lt
      obtain ⟨x, hx⟩ : ∃ x, nxK T n i = x := ⟨_, rfl⟩
      rw [hx] at HQ
      by_cases h5 : x = 5
      · subst h5
        have hin : i < n ∧ (T i).k = 5 := by
          unfold nxK at hx
          by_cases hlt : i < n
          · rw [if_pos hlt] at hx; exact ⟨hlt, hx⟩
          · rw [if_neg hlt] at hx; exact absurd hx (by omega)
        have HE5 : Hid (∃ u', L ++ R.1 = acc ++ [ndRep (T i)] ++ (repsL T n u' (i + 1)).1 ∧ R.2 = (repsL T n u' (i + 1)).2 ∧ n + 1 ≤ u' + (i + 1)) := Lib.hid (by
          obtain ⟨y1, y2, y3⟩ := hh.out
          obtain ⟨u', rfl⟩ : ∃ u', u = u' + 1 := ⟨u - 1, by omega⟩
          refine ⟨u', ?_, ?_, by omega⟩
          · rw [y1]; conv => lhs; unfold repsL
            rw [if_pos hin]; simp
          · rw [y2]; conv => lhs; unfold repsL
            rw [if_pos hin])
        have HTi := Lib.hid (S.out.take i acc wr hin.1 (HR.out.belowB hW HBB.out) hK)
        unfold tnv at HTi
        have HW := Lib.hid hW
        have hlt := hin.1
        clear hx hin hh hW hK
        go_wp2_with fail
        refine HQ.out.mono ?_
        rintro e5 w5 ⟨rfl, rfl⟩
        clear HQ
        go_wp2_with fail
        refine HTi.out.mono ?_
        rintro e6 w6 ⟨rfl, hb6, hl6⟩
        have HB6 := Lib.hid (HW.out.trans hb6); have HL6 := Lib.hid hl6
        have hB6 := hl6.lt
        clear hb6 hl6 HTi HW
        go_wp2_with fail
        refine (put_any (ndRep (T i)) n B b off (i + 1) acc _ (HL6.out.alloc _)).mono ?_
        rintro e7 w7 ⟨rfl, hb7, hl7⟩
        have HB7 := Lib.hid ((HB6.out.alloc (by omega) _).trans hb7); have HL7 := Lib.hid hl7
        clear hb7 hl7 HB6 HL6
        go_wp2
        go_roundw
        case rel =>
          obtain ⟨u', y1, y2, y3⟩ := HE5.out
          exact ⟨i + 1, u', acc ++ [ndRep (T i)], HB7.out, HL7.out, Lib.hid ⟨y1, y2, y3⟩⟩
        case measure => rw [HL7.out.rest, HS0.out]; omega
      · have d5 : (x == 5) = false := beq_eq_false_iff_ne.2 h5
        have HE : Hid (L ++ R.1 = acc ∧ R.2 = i) := Lib.hid (by
          obtain ⟨y1, y2, y3⟩ := hh.out
          obtain ⟨u', rfl⟩ : ∃ u', u = u' + 1 := ⟨u - 1, by omega⟩
          have hn5 : ¬ (i < n ∧ (T i).k = 5) := fun hc => h5 (by rw [← hx]; unfold nxK; rw [if_pos hc.1]; exact hc.2)
          unfold repsL at y1 y2
          rw [if_neg hn5] at y1 y2
          exact ⟨by simpa using y1, y2⟩)
        have HW := Lib.hid hW; have HK := Lib.hid hK
        clear hh hx hW hK h5
        go_wp2_with fail
        refine HQ.out.mono ?_
        rintro e5 w5 ⟨rfl, rfl⟩
        clear HQ
        go_wp2
        refine bodyPost_end (results_none rfl _ _ _) rfl ?_
        exact ⟨rfl, HW.out, by rw [HE.out.1, HE.out.2]; exact HK.out⟩
  · have HB : Hid (partB T e a = ((e (a + 1)).1, (e (a + 1)).2 + 1)) := Lib.hid (by unfold partB; rw [if_neg (by rw [HKK.out]; decide), if_neg (by rw [HKK.out]; decide), if_neg (by rw [HKK.out]; decide)])
    go_enter Tryz.func68, Tryz.ntmps68
    go_wp2_with fail
    refine HT.out.mono ?_
    rintro e1 w1 ⟨rfl, hb1, hl1⟩
    have HB1 := Lib.hid hb1; have HL1 := Lib.hid hl1
    have hB := hl1.lt
    clear hb1 hl1 HT
    obtain ⟨hs3, hlt3, hk3⟩ := HF.out HKK.out
    have HS3 := Lib.hid hs3; have HK3 := Lib.hid hk3
    clear hs3 hk3
    go_wp2_with fail
    refine (HE.out (a + 1) h1 (by omega) HS3.out L _ (HR.out.belowB (HB1.out.alloc (by omega) _) HBB.out) (HL1.out.alloc _)).mono ?_
    rintro e2 w2 ⟨rfl, hb2, hl2⟩
    have HB2 := Lib.hid ((HB1.out.alloc (by omega) _).trans hb2)
    have HT2 := Lib.hid (S.out.take _ _ w2 hlt3 (HR.out.belowB HB2.out HBB.out) hl2)
    clear hb2 hl2 HB1 HL1
    go_wp2_with fail
    refine HT2.out.mono ?_
    rintro e3 w3 ⟨rfl, hb3, hl3⟩
    unfold tnv
    have HI : Hid (∃ (i u : Nat) (acc : List Nd), Below B w w3 ∧ bld w3 B b off n i acc ∧ Hid (L ++ R.1 = acc ++ (repsL T n u i).1 ∧ R.2 = (repsL T n u i).2 ∧ n + 1 ≤ u + i)) :=
      Lib.hid ⟨(e (a + 1)).2 + 1, n + 1, L ++ (e (a + 1)).1, HB2.out.trans hb3, hl3, Lib.hid (by rw [HP.out _ _ HB.out]; exact ⟨(List.append_assoc ..).symm, rfl, by omega⟩)⟩
    clear hb3 hl3 HB2 HT2 HB HP HF HKK HE HS3 HK3 hlt3
    go_wp2_with fail
    go_loopw [] (fun wr => ∃ (i u : Nat) (acc : List Nd), Below B w wr ∧ bld wr B b off n i acc ∧ Hid (L ++ R.1 = acc ++ (repsL T n u i).1 ∧ R.2 = (repsL T n u i).2 ∧ n + 1 ≤ u + i)) (fun wr => restLen B wr)
    case atStart => exact HI.out
    case round =>
      obtain ⟨i, u, acc, hW, hK, hh⟩ := hrel
      clear HI
      have HQ := Lib.hid (S.out.next i acc wr (HR.out.belowB hW HBB.out) hK)
      have hile := hK.le
      have HS0 := Lib.hid hK.rest
      have hBr := hK.lt
      obtain ⟨x, hx⟩ : ∃ x, nxK T n i = x := ⟨_, rfl⟩
      rw [hx] at HQ
      by_cases h5 : x = 5
      · subst h5
        have hin : i < n ∧ (T i).k = 5 := by
          unfold nxK at hx
          by_cases hlt : i < n
          · rw [if_pos hlt] at hx; exact ⟨hlt, hx⟩
          · rw [if_neg hlt] at hx; exact absurd hx (by omega)
        have HE5 : Hid (∃ u', L ++ R.1 = acc ++ [ndRep (T i)] ++ (repsL T n u' (i + 1)).1 ∧ R.2 = (repsL T n u' (i + 1)).2 ∧ n + 1 ≤ u' + (i + 1)) := Lib.hid (by
          obtain ⟨y1, y2, y3⟩ := hh.out
          obtain ⟨u', rfl⟩ : ∃ u', u = u' + 1 := ⟨u - 1, by omega⟩
          refine ⟨u', ?_, ?_, by omega⟩
          · rw [y1]; conv => lhs; unfold repsL
            rw [if_pos hin]; simp
          · rw [y2]; conv => lhs; unfold repsL
            rw [if_pos hin])
        have HTi := Lib.hid (S.out.take i acc wr hin.1 (HR.out.belowB hW HBB.out) hK)
        unfold tnv at HTi
        have HW := Lib.hid hW
        have hlt := hin.1
        clear hx hin hh hW hK
        go_wp2_with fail
        refine HQ.out.mono ?_
        rintro e5 w5 ⟨rfl, rfl⟩
        clear HQ
        go_wp2_with fail
        refine HTi.out.mono ?_
        rintro e6 w6 ⟨rfl, hb6, hl6⟩
        have HB6 := Lib.hid (HW.out.trans hb6); have HL6 := Lib.hid hl6
        have hB6 := hl6.lt
        clear hb6 hl6 HTi HW
        go_wp2_with fail
        refine (put_any (ndRep (T i)) n B b off (i + 1) acc _ (HL6.out.alloc _)).mono ?_
        rintro e7 w7 ⟨rfl, hb7, hl7⟩
        have HB7 := Lib.hid ((HB6.out.alloc (by omega) _).trans hb7); have HL7 := Lib.hid hl7
        clear hb7 hl7 HB6 HL6
        go_wp2
        go_roundw
        case rel =>
          obtain ⟨u', y1, y2, y3⟩ := HE5.out
          exact ⟨i + 1, u', acc ++ [ndRep (T i)], HB7.out, HL7.out, Lib.hid ⟨y1, y2, y3⟩⟩
        case measure => rw [HL7.out.rest, HS0.out]; omega
      · have d5 : (x == 5) = false := beq_eq_false_iff_ne.2 h5
        have HE : Hid (L ++ R.1 = acc ∧ R.2 = i) := Lib.hid (by
          obtain ⟨y1, y2, y3⟩ := hh.out
          obtain ⟨u', rfl⟩ : ∃ u', u = u' + 1 := ⟨u - 1, by omega⟩
          have hn5 : ¬ (i < n ∧ (T i).k = 5) := fun hc => h5 (by rw [← hx]; unfold nxK; rw [if_pos hc.1]; exact hc.2)
          unfold repsL at y1 y2
          rw [if_neg hn5] at y1 y2
          exact ⟨by simpa using y1, y2⟩)
        have HW := Lib.hid hW; have HK := Lib.hid hK
        clear hh hx hW hK h5
        go_wp2_with fail
        refine HQ.out.mono ?_
        rintro e5 w5 ⟨rfl, rfl⟩
        clear HQ
        go_wp2
        refine bodyPost_end (results_none rfl _ _ _) rfl ?_
        exact ⟨rfl, HW.out, by rw [HE.out.1, HE.out.2]; exact HK.out⟩
end Go.Proofs.YtgjpmfdiidkdnaaGreatDoor
