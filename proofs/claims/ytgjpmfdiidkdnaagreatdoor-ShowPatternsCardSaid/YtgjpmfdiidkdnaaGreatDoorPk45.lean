/-
  The walk of the builder's either, given row; and by recursion over the tokens that are left.
  The walk of the code's Of: what the reference's Of tells.
  The walk of the code's Pattern.
-/
import Derived.Test.YtgjpmfdiidkdnaaGreatDoorPk44
import Derived.Test.YtgjpmfdiidkdnaaGreatDoorPk31
import Derived.Test.YtgjpmfdiidkdnaaGreatDoorPk34
namespace Go.Proofs.YtgjpmfdiidkdnaaGreatDoor
open Go.RowKit

set_option maxRecDepth 100000 in
set_option maxHeartbeats 4000000 in
theorem ceither_of (T : Nat → Tn) (n m B b off : Nat) (e : Nat → List Nd × Nat) (hn : n ≤ 1000) (hbB : 0 < n → b < B) (hfit : fitT T n) (hk : eOk n m e)
    (hP : ∀ a, m ≤ a + 1 → startOk T n a → ∀ L w, rdTn w b off n T → bld w B b off n a L → Calls Tryz.prog 53 #[.pointer (some ⟨B, 0, none⟩)] w (bPost B b off n (bhF T n e a).2 (L ++ (bhF T n e a).1) w))
    (a : Nat) (h1 : m ≤ a + 1) (hs : startOk T n a) (L : List Nd) (w : World) (hr : rdTn w b off n T) (hb : bld w B b off n a L) :
    Calls Tryz.prog 38 #[.pointer (some ⟨B, 0, none⟩)] w (bPost B b off n (eiF T n e a).2 (L ++ (eiF T n e a).1) w) := by
  have S := Lib.hid (small_any T n B b off hn)
  have HP := Lib.hid hP
  have HR := Lib.hid hr
  have HBB := Lib.hid hbB
  have HQ := Lib.hid (hP a h1 hs L w hr hb)
  have hB := hb.lt
  have hale := hb.le
  -- choices, where there are more
  have HG : Hid (∀ i, m ≤ i + 1 → i < n ∧ (T i).k = 2 → startOk T n (i + 1) ∧ i + 1 ≤ (bhF T n e (i + 1)).2) := Lib.hid fun i h1 hc =>
    ⟨hfit.w.start (.inr (.inl (by simpa using hc.2))), (bhF_bd (T := T) hk (i + 1) (by omega) (by omega)).1⟩
  have hge := (bhF_bd (T := T) hk a h1 hale).1
  obtain ⟨R, hR⟩ : ∃ R, eiF T n e a = R := ⟨_, rfl⟩
  rw [hR]
  have HR0 : Hid (eiL T n e (n + 2) (bhF T n e a).2 (bhF T n e a).1 = R) := Lib.hid hR
  clear hP hr hbB hb hR hfit hk hs
  go_enter Tryz.func38, Tryz.ntmps38
  go_wp2_with fail
  refine HQ.out.mono ?_
  rintro e1 w1 ⟨rfl, hb1, hl1⟩
  have HI : Hid (∃ (i u : Nat) (acc : List Nd), Below B w w1 ∧ bld w1 B b off n i (L ++ acc) ∧ m ≤ i + 1 ∧ Hid (eiL T n e u i acc = R ∧ n + 1 ≤ u + i)) :=
    Lib.hid ⟨(bhF T n e a).2, n + 2, (bhF T n e a).1, hb1, hl1, by omega, Lib.hid ⟨HR0.out, by omega⟩⟩
  clear hb1 hl1 HQ HR0
  go_wp2_with fail
  go_loopw [] (fun wr => ∃ (i u : Nat) (acc : List Nd), Below B w wr ∧ bld wr B b off n i (L ++ acc) ∧ m ≤ i + 1 ∧ Hid (eiL T n e u i acc = R ∧ n + 1 ≤ u + i)) (fun wr => restLen B wr)
  case atStart => exact HI.out
  case round =>
    obtain ⟨i, u, acc, hW, hK, q1, hh⟩ := hrel
    clear HI
    have HQ := Lib.hid (S.out.next i (L ++ acc) wr (HR.out.belowB hW HBB.out) hK)
    have hile := hK.le
    have HS0 := Lib.hid hK.rest
    have hBr := hK.lt
    obtain ⟨x, hx⟩ : ∃ x, nxK T n i = x := ⟨_, rfl⟩
    rw [hx] at HQ
    by_cases h5 : x = 2
    · subst h5
      have hin : i < n ∧ (T i).k = 2 := by
        unfold nxK at hx
        by_cases hlt : i < n
        · rw [if_pos hlt] at hx; exact ⟨hlt, hx⟩
        · rw [if_neg hlt] at hx; exact absurd hx (by omega)
      have HG1 := Lib.hid (HG.out i q1 hin)
      have HE5 : Hid (∃ u', eiL T n e u' (bhF T n e (i + 1)).2 (acc ++ (bhF T n e (i + 1)).1 ++ [nd0 6]) = R ∧ n + 1 ≤ u' + (bhF T n e (i + 1)).2) := Lib.hid (by
        obtain ⟨y1, y2⟩ := hh.out
        obtain ⟨u', rfl⟩ : ∃ u', u = u' + 1 := ⟨u - 1, by omega⟩
        refine ⟨u', ?_, by have := HG1.out.2; omega⟩
        rw [← y1]; conv => rhs; unfold eiL
        rw [if_pos hin])
      have HTi := Lib.hid (S.out.take i (L ++ acc) wr hin.1 (HR.out.belowB hW HBB.out) hK)
      have HW := Lib.hid hW
      have hlt := hin.1
      clear hx hin hh hW hK
      go_wp2_with fail
      refine HQ.out.mono ?_
      rintro e5 w5 ⟨rfl, rfl⟩
      clear HQ
      go_wp2_with fail
      refine HTi.out.mono ?_
      rintro e6 w6 ⟨rfl, hb6, hl6⟩
      have HB6 := Lib.hid (HW.out.trans hb6); have HL6 := Lib.hid hl6
      have hB6 := hl6.lt
      clear hb6 hl6 HTi HW
      unfold tnv
      go_wp2_with fail
      refine (HP.out (i + 1) (by omega) HG1.out.1 _ _ (HR.out.belowB HB6.out HBB.out) HL6.out).mono ?_
      rintro e7 w7 ⟨rfl, hb7, hl7⟩
      have HB7 := Lib.hid (HB6.out.trans hb7); have HL7 := Lib.hid hl7
      clear hb7 hl7 HB6 HL6
      go_wp2_with fail
      refine (put_any (nd0 6) n B b off _ _ _ HL7.out).mono ?_
      rintro e8 w8 ⟨rfl, hb8, hl8⟩
      have HB8 := Lib.hid (HB7.out.trans hb8); have HL8 := Lib.hid hl8
      clear hb8 hl8 HB7 HL7
      go_wp2
      go_roundw
      case rel =>
        obtain ⟨u', y1, y2⟩ := HE5.out
        exact ⟨(bhF T n e (i + 1)).2, u', acc ++ (bhF T n e (i + 1)).1 ++ [nd0 6], HB8.out, by have := HL8.out; simpa using this, by have := HG1.out.2; omega, Lib.hid ⟨y1, y2⟩⟩
      case measure => rw [HL8.out.rest, HS0.out]; have := HG1.out.2; omega
    · have d5 : (x == 2) = false := beq_eq_false_iff_ne.2 h5
      have HE : Hid (R = (acc, i)) := Lib.hid (by
        obtain ⟨y1, y2⟩ := hh.out
        obtain ⟨u', rfl⟩ : ∃ u', u = u' + 1 := ⟨u - 1, by omega⟩
        have hn5 : ¬ (i < n ∧ (T i).k = 2) := fun hc => h5 (by rw [← hx]; unfold nxK; rw [if_pos hc.1]; exact hc.2)
        rw [← y1]; unfold eiL
        rw [if_neg hn5])
      have HW := Lib.hid hW; have HK := Lib.hid hK
      clear hh hx hW hK h5
      go_wp2_with fail
      refine HQ.out.mono ?_
      rintro e5 w5 ⟨rfl, rfl⟩
      clear HQ
      go_wp2
      go_returns
      exact ⟨rfl, HW.out, by rw [HE.out]; exact HK.out⟩

theorem ceither_any (T : Nat → Tn) (n B b off : Nat) (hn : n ≤ 1000) (hbB : 0 < n → b < B) (hfit : fitT T n) : ∀ u a, n + 1 ≤ a + u → a ≤ n → startOk T n a → ∀ L w, rdTn w b off n T → bld w B b off n a L →
    Calls Tryz.prog 38 #[.pointer (some ⟨B, 0, none⟩)] w (bPost B b off n (ei T n u a).2 (L ++ (ei T n u a).1) w) := by
  intro u
  induction u with
  | zero => intro a h1 h2; omega
  | succ u ih =>
    intro a h1 h2 hs L w hr hb
    have hk := ei_ok T n u
    have hl := ei_leaf hfit.w u
    have hc := ei_cnt hfit.w u
    exact ceither_of T n (n + 1 - u) B b off (ei T n u) hn hbB hfit hk
      (fun a ha hs L w hr hb => crow_of T n (n + 1 - u) B b off (ei T n u) hn hbB hfit hk hl
        (fun a ha hlt hp L w hr hb => cpart_of T n (n + 1 - u) B b off (ei T n u) hn hbB hfit hl hc (fun a ha hle hs L w hr hb => ih a (by omega) hle hs L w hr hb) a ha hlt hp L w hr hb) a ha hs L w hr hb)
      a (by omega) hs L w hr hb
end Go.Proofs.YtgjpmfdiidkdnaaGreatDoor

namespace Go.Proofs.YtgjpmfdiidkdnaaGreatDoor
open Go.RowKit

theorem bld.new (w : World) (b off n cap : Nat) (p : Option Addr) (hp : 0 < n → p = some ⟨b, off, none⟩) (hc : n ≤ cap) : bld (w.alloc (.cells #[.slice p n cap, .slice none 0 0] 78)) w.heap.size b off n 0 [] :=
  bld.mk (Nat.zero_add n) hc (fun h => by rw [hp h]; simp) ⟨heap_alloc_new w _, World.ownsRow_nil _ _ _ _⟩

set_option maxRecDepth 100000 in
set_option maxHeartbeats 4000000 in
theorem cof_of (T : Nat → Tn) (n b off cap : Nat) (p : Option Addr) (end_ : Int) (hn : n ≤ 1000) (hcap : n ≤ cap) (hp : 0 < n → p = some ⟨b, off, none⟩) (w : World) (hr : rdTn w b off n T)
    (hC : Calls Tryz.prog 37 #[.slice p n cap, .int .i64 end_] w fun e w' => e = .returned (.tuple #[.int .i64 (chF T n end_).1, .int .i64 (chF T n end_).2]) ∧ Below w.heap.size w w') :
    Calls Tryz.prog 20 #[.slice p n cap, .int .i64 end_] w (ofPost (ofF T n end_) w) := by
  obtain ⟨R, hR⟩ : ∃ R, ofF T n end_ = R := ⟨_, rfl⟩
  rw [hR]
  have HRD := Lib.hid hr
  have HPP := Lib.hid hp
  have HC := Lib.hid hC
  have hbd := wrF_bd (T := T) (n := n) (n + 1) 0 0 (by omega)
  have HFIT : Hid ((wrF T n (n + 1) 0 0).2.1 = 0 → (wrF T n (n + 1) 0 0).2.2 = 0 → fitT T n) := Lib.hid fit_of
  obtain ⟨⟨i, e, op⟩, hw⟩ : ∃ r, wrF T n (n + 1) 0 0 = r := ⟨_, rfl⟩
  unfold ofF at hR
  unfold chF at HC
  rw [hw] at hR hbd HC HFIT
  simp only at hR hbd HC HFIT
  have HR := Lib.hid hR
  clear hR hr hC hw hp
  by_cases he : e = 0
  · subst he
    by_cases ho : 0 < op
    · have HE : Hid (R = (none, end_, 3)) := Lib.hid (by rw [← HR.out, if_neg (by simp), if_pos ho])
      rw [if_neg (by simp), if_pos ho] at HC
      simp only at HC
      clear HR hbd HFIT ho
      go_enter Tryz.func20, Tryz.ntmps20
      go_wp2_with fail
      refine HC.out.mono ?_
      rintro e1 w1 ⟨rfl, hb⟩
      have HB := Lib.hid hb
      clear hb HC
      go_wp2
      go_returns
      exact ofPost.bad _ _ HE.out HB.out
    · rw [if_neg (by simp), if_neg ho] at HC
      simp only at HC
      have HF := Lib.hid (HFIT.out rfl (by omega))
      have HE0 : Hid ((if 512 < (ei T n (n + 1) 0).1.length then (none, 0, 4) else (some (ei T n (n + 1) 0).1, 0, 0)) = R) := Lib.hid (by have := HR.out; rw [if_neg (by simp), if_neg ho] at this; exact this)
      clear HR hbd HFIT ho
      go_enter Tryz.func20, Tryz.ntmps20
      go_wp2_with fail
      refine HC.out.mono ?_
      rintro e1 w1 ⟨rfl, hb⟩
      have HB := Lib.hid hb
      have hsz := hb.size
      have HQ := Lib.hid (ceither_any T n w1.heap.size b off hn (fun h => by have := (HRD.out 0 h).1; omega) HF.out (n + 1) 0 (by omega) (Nat.zero_le n) (HF.out.w.start (.inl rfl)) [] _ ((HRD.out.below hb).below ((Below.refl w1.heap.size w1).alloc (Nat.le_refl _) (.cells #[.slice p n cap, .slice none 0 0] 78))) (bld.new w1 b off n cap p HPP.out hcap))
      obtain ⟨⟨l, j⟩, hl⟩ : ∃ r, ei T n (n + 1) 0 = r := ⟨_, rfl⟩
      rw [hl] at HQ HE0
      simp only [List.nil_append] at HQ HE0
      clear hb HC hl HF
      go_wp2_with fail
      refine HQ.out.mono ?_
      rintro e2 w2 ⟨rfl, hb2, hl2⟩
      obtain ⟨p', k', c', v, -, -, -, hblk, hown⟩ := hl2
      obtain ⟨-, c1, -, -, hB⟩ := blk_cells hblk
      have HO := Lib.hid (owns_mono hown (show w.heap.size ≤ w1.heap.size + 1 by omega))
      obtain ⟨q, cc, rfl⟩ : ∃ q cap, v = .slice q (l.take 513).length cap := by
        rcases id hown.2 with ⟨rfl, h0⟩ | ⟨g, cap, cur, rfl, _⟩
        · exact ⟨none, 0, by rw [h0]⟩
        · exact ⟨_, cap, rfl⟩
      have HB2 := Lib.hid (HB.out.trans (((Below.refl w1.heap.size w1).alloc (Nat.le_refl _) _).trans hb2 |>.mono hsz))
      obtain ⟨m, hm⟩ : ∃ m, (l.take 513).length = m := ⟨_, rfl⟩
      have Hm := Lib.hid hm
      rw [hm] at c1
      clear hb2 hblk hown HQ HB hm
      by_cases h5 : 512 < l.length
      · have hm3 : m = 513 := by rw [← Hm.out, List.length_take]; omega
        subst hm3
        have HE : Hid (R = (none, 0, 4)) := Lib.hid (by rw [← HE0.out, if_pos h5])
        clear HE0 Hm h5
        go_wp2
        go_returns
        exact ofPost.bad _ _ HE.out HB2.out
      · have hm3 : m = l.length := by rw [← Hm.out, List.length_take]; omega
        have HE : Hid (R = (some l, 0, 0)) := Lib.hid (by rw [← HE0.out, if_neg h5])
        have d5 : decide (512 < m) = false := decide_eq_false (by omega)
        have d6 : decide ((512 : Int) < (m : Int)) = false := decide_eq_false (by omega)
        have HL : Hid (l.take 513 = l) := Lib.hid (List.take_of_length_le (by omega))
        have HM := Lib.hid hm3
        clear HE0 h5 hm3
        go_wp2
        go_returns
        exact ofPost.good l HE.out (by have := HO.out; rw [HL.out, ← HM.out] at this; rw [← HM.out]; exact this) HB2.out
  · rw [if_pos he] at HC
    simp only at HC
    have HE : Hid (R = (none, (T i.toNat).p, e)) := Lib.hid (by rw [← HR.out, if_pos he])
    have d0 : (e == 0) = false := beq_eq_false_iff_ne.2 he
    have d0' : (e != 0) = true := by simp [he]
    clear HR hbd HFIT he
    go_enter Tryz.func20, Tryz.ntmps20
    go_wp2_with fail
    refine HC.out.mono ?_
    rintro e1 w1 ⟨rfl, hb⟩
    have HB := Lib.hid hb
    clear hb HC
    go_wp2
    go_returns
    exact ofPost.bad _ _ HE.out HB.out

theorem cof_some (T : Nat → Tn) (n b off cap : Nat) (end_ : Int) (hn : n ≤ 1000) (hcap : n ≤ cap) (w : World) (hr : rdTn w b off n T) :
    Calls Tryz.prog 20 #[.slice (some ⟨b, off, none⟩) n cap, .int .i64 end_] w (ofPost (ofF T n end_) w) :=
  cof_of T n b off cap (some ⟨b, off, none⟩) end_ hn hcap (fun _ => rfl) w hr (check_some T n b off cap end_ hn w hr)
theorem cof_zero (T : Nat → Tn) (p : Option Addr) (cap : Nat) (end_ : Int) (w : World) : Calls Tryz.prog 20 #[.slice p 0 cap, .int .i64 end_] w (ofPost (ofF T 0 end_) w) :=
  cof_of T 0 0 0 cap p end_ (Nat.zero_le _) (Nat.zero_le _) (fun h => absurd h (by omega)) w (fun j hj => absurd hj (by omega)) (check_zero T p cap end_ w)
end Go.Proofs.YtgjpmfdiidkdnaaGreatDoor

namespace Go.Proofs.YtgjpmfdiidkdnaaGreatDoor
open Go.RowKit

set_option maxRecDepth 100000 in
set_option maxHeartbeats 2000000 in
theorem cpat_any (p : ByteArray) (w : World) (hT : Okw w) : Calls Tryz.prog 8 #[.string p] w (ofPost (patF p) w) := by
  obtain ⟨R, hR⟩ : ∃ R, patF p = R := ⟨_, rfl⟩
  rw [hR]
  unfold patF at hR
  rcases Nat.lt_or_ge 200 p.size with h | h
  · rw [if_pos h] at hR
    have HE := Lib.hid hR.symm
    have HP := Lib.hid h
    clear hR h hT
    go_enter Tryz.func8, Tryz.ntmps8
    go_wp2_with fail
    refine (ltoks_long p HP.out _).mono ?_
    rintro e1 w1 ⟨rfl, rfl⟩
    go_wp2
    go_returns
    exact ofPost.bad _ _ HE.out (Below.refl _ _)
  · rw [if_neg (by omega)] at hR
    have HQ := Lib.hid (ltoks_any p h w hT)
    have HLN := Lib.hid (fun l n (h : toks p = (some l, n)) => toks_length h)
    obtain ⟨⟨r, k⟩, hr⟩ : ∃ r, toks p = r := ⟨_, rfl⟩
    rw [hr] at hR HQ HLN
    simp only at hR
    have HPS := Lib.hid h
    have hps : (p.size : Int) ≤ 200 := by omega
    clear hT hr h
    cases r with
    | none =>
      have HE := Lib.hid hR.symm
      clear hR HLN
      go_enter Tryz.func8, Tryz.ntmps8
      go_wp2_with fail
      refine HQ.out.mono ?_
      rintro e1 w1 ⟨-, h2, hb⟩
      obtain rfl := h2 k rfl
      have HB := Lib.hid hb
      clear h2 hb HQ
      go_wp2
      go_returns
      exact ofPost.bad _ _ HE.out HB.out
    | some l =>
      simp only at hR
      have hln : l.length ≤ 200 := by have := HLN.out l k rfl; have := HPS.out; omega
      have HR := Lib.hid hR
      clear hR HLN
      go_enter Tryz.func8, Tryz.ntmps8
      go_wp2_with fail
      refine HQ.out.mono ?_
      rintro e1 w1 ⟨h1, -, hb⟩
      obtain ⟨v, rfl, hown⟩ := h1 l k rfl
      have HB := Lib.hid hb
      have HC : Hid (Calls Tryz.prog 20 #[v, .int .i64 (p.size : Int)] w1 (ofPost (ofF (tof l) l.length p.size) w1)) := Lib.hid (by
        rcases toks_own hown with ⟨rfl, h0⟩ | ⟨g, cap, rfl, hc, hrd⟩
        · rw [h0]; exact cof_zero (tof l) none 0 p.size w1
        · exact cof_some (tof l) l.length g 0 cap p.size (by omega) hc w1 hrd)
      rw [HR.out] at HC
      clear h1 hown hb HQ HR hln
      go_wp2_with fail
      refine HC.out.mono ?_
      intro e2 w2 h2
      obtain ⟨v2, rfl⟩ := h2.form
      have H2 := Lib.hid h2
      clear h2 HC
      go_wp2
      go_returns
      exact H2.out.lift HB.out
end Go.Proofs.YtgjpmfdiidkdnaaGreatDoor
