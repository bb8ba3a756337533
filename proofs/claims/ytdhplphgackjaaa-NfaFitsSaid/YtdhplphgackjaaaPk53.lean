/-
  The sets of the states that are made of a tree are sets; the law NfaFits over whatever list and text come in.
-/
import Derived.Test.YtdhplphgackjaaaPk52
import Derived.Test.YtdhplphgackjaaaPk46
namespace Go.Proofs.Ytdhplphgackjaaa
open Go.RowKit

def okA (L : List Sd) : Prop := ∀ q, okWs (sfn L q)
theorem okWs_E (A : Nat) : okWs (sE A) := ⟨⟨by show (0 : Int) ≤ 0; decide, by show (0 : Int) < 18446744073709551616; decide⟩, ⟨by show (0 : Int) ≤ 0; decide, by show (0 : Int) < 18446744073709551616; decide⟩, ⟨by show (0 : Int) ≤ 0; decide, by show (0 : Int) < 18446744073709551616; decide⟩, ⟨by show (0 : Int) ≤ 0; decide, by show (0 : Int) < 18446744073709551616; decide⟩⟩
theorem okWs_S (A B : Nat) : okWs (sS A B) := ⟨⟨by show (0 : Int) ≤ 0; decide, by show (0 : Int) < 18446744073709551616; decide⟩, ⟨by show (0 : Int) ≤ 0; decide, by show (0 : Int) < 18446744073709551616; decide⟩, ⟨by show (0 : Int) ≤ 0; decide, by show (0 : Int) < 18446744073709551616; decide⟩, ⟨by show (0 : Int) ≤ 0; decide, by show (0 : Int) < 18446744073709551616; decide⟩⟩
theorem okWs_fin : okWs fin9 := ⟨by decide, by decide, by decide, by decide⟩
theorem sfn_out {L : List Sd} {q : Nat} (h : L.length ≤ q) : sfn L q = sE 0 := by
  unfold sfn
  rw [List.getD_eq_getElem?_getD, List.getElem?_eq_none h]; rfl
theorem okA.setA {L : List Sd} (h : okA L) (j A : Nat) : okA (setA L j A) := fun q => by
  by_cases e : q = j
  · subst e
    rcases Nat.lt_or_ge q L.length with hl | hl
    · rw [setA_at hl]; exact h q
    · rw [sfn_out (by rw [setA_len]; exact hl)]; exact okWs_E 0
  · rw [setA_ne e]; exact h q
theorem okA.setB {L : List Sd} (h : okA L) (j A : Nat) : okA (setB L j A) := fun q => by
  by_cases e : q = j
  · subst e
    rcases Nat.lt_or_ge q L.length with hl | hl
    · rw [setB_at hl]; exact h q
    · rw [sfn_out (by rw [setB_len]; exact hl)]; exact okWs_E 0
  · rw [setB_ne e]; exact h q
theorem okA.more {L : List Sd} (h : okA L) {x : Sd} (hx : okWs x) : okA (L ++ [x]) := fun q => by
  rcases Nat.lt_trichotomy q L.length with hl | hl | hl
  · rw [sfn_old hl]; exact h q
  · rw [sfn_new hl]; exact hx
  · rw [sfn_out (by simp; omega)]; exact okWs_E 0
theorem okA_cp {mk : List Sd → List Sd × Nat × Nat} (hm : ∀ L, okA L → okA (mk L).1) : ∀ m L ah, okA L → okA (cpL mk m L ah).1
  | 0, _, _, h => h
  | m + 1, L, _, h => okA_cp hm m _ _ ((hm L h).setA _ _)
theorem okA_op {mk : List Sd → List Sd × Nat × Nat} (hm : ∀ L, okA L → okA (mk L).1) : ∀ m L ah, okA L → okA (opL mk m L ah).1
  | 0, _, _, h => h
  | m + 1, L, _, h => okA_op hm m _ _ (((hm L h).more (okWs_S _ 0)).setA _ _)
theorem okA_bs (last : Nat) : ∀ (sp : List Nat) (L : List Sd), okA L → okA (bsL last L sp)
  | [], _, h => h
  | s :: sp, _, h => okA_bs last sp _ (h.setB s last)
theorem okA_ed (inf : Bool) (r : List Sd × Nat × List Nat) (h : okA r.1) : okA (edL9 inf r).1 := by
  unfold edL9
  refine okA_bs _ _ _ ?_
  have h1 := (h.more (okWs_E 0)).setA r.2.1 r.1.length
  cases inf with
  | true => exact h1.setA _ _
  | false => exact h1
theorem okA_mk : ∀ t, (∀ x, x ∈ post t → okW x) → ∀ L, okA L → okA (mkF t L).1
  | .leaf x, h, L, hL => (hL.more (show okWs (leafS x (L.length + 1)) from h x (List.mem_singleton.2 rfl))).more (okWs_E 0)
  | .cat a b, h, L, hL => by
    have h : ∀ x, x ∈ post a ++ post b ++ [nd0 5] → okW x := h
    exact (okA_mk b (fun x hx => h x (by simp [hx])) _ (okA_mk a (fun x hx => h x (by simp [hx])) L hL)).setA _ _
  | .or a b, h, L, hL => by
    have h : ∀ x, x ∈ post a ++ post b ++ [nd0 6] → okW x := h
    exact ((((okA_mk b (fun x hx => h x (by simp [hx])) _ (okA_mk a (fun x hx => h x (by simp [hx])) L hL)).more (okWs_S _ _)).more (okWs_E 0)).setA _ _).setA _ _
  | .rep a lo hi, h, L, hL => by
    have h : ∀ x, x ∈ post a ++ [ndR lo hi] → okW x := h
    have ha := okA_mk a (fun x hx => h x (by simp [hx]))
    exact okA_ed _ _ (okA_op ha _ _ _ (okA_cp ha _ _ _ (hL.more (okWs_E 0))))
/-- The states of a tree's automaton have sets. -/
theorem fr_okWs {S : Nat → Sd} {N : Nat → Nd} {n : Nat} (ht : tree N n) (hw : ∀ j, j < n → okW (N j)) {f l : Nat} (h : isFr S (trT N (n - 1)) 0 f l) (hl : S l = fin9) : ∀ q, q < nst (trT N (n - 1)) → okWs (S q) := fun q hq => by
  by_cases e : q = l
  · rw [e, hl]; exact okWs_fin
  · obtain ⟨-, -, h3⟩ := fr_un _ _ _ _ _ _ h (mk_ok (trT N (n - 1)) []).2.2.1
    rw [h3 q (Nat.zero_le _) (by simpa using hq) e]
    refine okA_mk _ (fun x hx => ?_) [] (fun q => okWs_E 0) q
    rw [(trT_root ht).1] at hx
    unfold seg at hx
    obtain ⟨i, hi, rfl⟩ := List.mem_map.1 hx
    have := List.mem_range'.1 hi
    exact hw i (by omega)

theorem no_right (hR : RgtC) (p : Option Addr) (c : Nat) (st fin : Int) (w : World) : Calls Try.prog 13 #[nfV p 0 c st fin] w fun e w' => e = .returned (.bool false) ∧ Below w.heap.size w w' := by
  have h := hR p 0 c (fun _ => fin9) st fin w (by decide) ⟨.inl rfl, fun b off e j hj => absurd hj (Nat.not_lt_zero _)⟩
  rwa [decide_eq_false (fun h : rightP (fun _ => fin9) 0 st fin => by have := h.1.1; omega)] at h
theorem no_fits (hF : FitC) (p : Option Addr) (c : Nat) (st fin : Int) (s : ByteArray) (hs : s.size ≤ 1000) (w : World) : Calls Try.prog 14 #[nfV p 0 c st fin, .string s, .int .i64 0, .int .i64 0] w fun e w' => e = .returned (.bool false) ∧ Below w.heap.size w w' := by
  refine (hF p 0 c (fun _ => fin9) st fin s 0 0 w (by decide) hs ⟨.inl rfl, fun b off e j hj => absurd hj (Nat.not_lt_zero _)⟩ (fun j hj => absurd hj (Nat.not_lt_zero _))).mono ?_
  rintro e w' ⟨r, rfl, hr, hb⟩
  cases r with
  | false => exact ⟨rfl, hb⟩
  | true => exact absurd (hr.1 rfl).1.1.1 (by omega)
theorem nfits_some (hB : BldC) (hR : RgtC) (hF : FitC) (b off n cap : Nat) (N : Nat → Nd) (hcap : n ≤ cap) (hok : ∀ j, j < n → okW (N j)) (t : ByteArray) (w : World) (hr : rdN w b off n N) :
    Calls Try.prog 4 #[.slice (some ⟨b, off, none⟩) n cap, .string t] w fun e w' => e = .returned (.bool true) ∧ Below w.heap.size w w' := by
  obtain ⟨k, hk⟩ : ∃ k, k = min n 30 := ⟨_, rfl⟩
  obtain ⟨m, hm⟩ : ∃ m, m = min t.size 8 := ⟨_, rfl⟩
  have hsz : (t.extract 0 m).size = m := by rw [ByteArray.size_extract]; omega
  have hr' : rdN w b off k N := hr.take k (by omega)
  have hw : ∀ j, j < k → okW (N j) := fun j hj => hok j (by omega)
  have hO : ∀ w', Below w.heap.size w w' → Calls Try.prog 8 #[.slice (some ⟨b, off, none⟩) k cap] w' (bldPost N k w') := fun w' hb => hB _ k cap N w' (.inr ⟨b, off, rfl, hw⟩) (fun b' o' h => by cases h; exact hr'.below hb)
  have hA := awake9_any hB hR hF
  by_cases ht : tree N k
  · by_cases h6 : 600 < nst (trT N (k - 1))
    · exact nfits_bad (some ⟨b, off, none⟩) n cap k hk hcap t m hm w 4 (by decide) hA (fun w' hb => (hO w' hb).mono fun e w'' h => by
        obtain ⟨p, c, st, fin, h1, h2⟩ := h.2.1 ht h6
        exact ⟨p, c, st, fin, h1, h2⟩) (fun g c st fin w' => no_right hR g c st fin w') (fun g c st fin w' => no_fits hF g c st fin _ (by omega) w')
    · obtain ⟨F, hFa, hc⟩ := all_is b off k cap N ht hw (t.extract 0 m) m hsz (by omega)
      have hok2 := (trT_root ht).2.1
      refine nfits_tree (some ⟨b, off, none⟩) n cap k hk hcap t m hm _ rfl hsz w (nst (trT N (k - 1))) F hA (fun w' hb => (hO w' hb).mono fun e w'' h => ?_) (fun w' hb => hc w' (hr'.below hb)) (fun w' hb => ?_)
      · obtain ⟨g, o, c, S, f, l, rfl, hrd, -, hfr, hfin, hb2⟩ := h.2.2 ht (by omega)
        have hri := fr_right hok2 hfr hfin (by omega)
        refine ⟨some ⟨g, o, none⟩, c, f, l, rfl, hb2, fun v hv => ?_, fun i j hij hj v hv => ?_⟩
        · have := hR (some ⟨g, o, none⟩) (nst (trT N (k - 1))) c S f l v (by omega) ⟨.inr ⟨g, o, rfl⟩, fun b' o' h => by cases h; exact hrd.below hv⟩
          rwa [decide_eq_true hri] at this
        · refine (hF (some ⟨g, o, none⟩) (nst (trT N (k - 1))) c S f l (t.extract 0 m) i j v (by omega) (by omega) ⟨.inr ⟨g, o, rfl⟩, fun b' o' h => by cases h; exact hrd.below hv⟩ (fr_okWs ht hw hfr hfin)).mono ?_
          rintro e v' ⟨r, rfl, hrr, hbb⟩
          have hfw := fits_wk (n := m) (tx := tx7 (t.extract 0 m)) hok2 hfr (by rw [hfin]; rfl) i j hij hj
          have hfi := fits_iff (S := S) (tx := tx7 (t.extract 0 m)) (st := f) (fin := l) hij hj
          have e : r = F i j := by
            rw [Bool.eq_iff_iff, hrr, hFa i j hij hj, hfw, ← hfi]
            unfold fitC
            rw [hsz]
            simp only [Int.toNat_natCast]
            exact ⟨fun h => h.2.2.2.2, fun h => ⟨hri, by omega, by omega, by omega, h⟩⟩
          subst e
          exact ⟨rfl, hbb⟩
      · have := csize_any (some ⟨b, off, none⟩) k cap N (.inr ⟨b, off, rfl⟩) w' (fun b' o' h => by cases h; exact hr'.below hb)
        refine this.mono ?_
        rintro e w'' ⟨rfl, hb2⟩
        refine ⟨?_, hb2⟩
        rw [show sizeF N k = szF (trT N (k - 1)) from if_pos ht, sz_nst _ hok2]
        congr 2
        unfold cap20; omega
  · exact nfits_bad (some ⟨b, off, none⟩) n cap k hk hcap t m hm w 3 (by decide) hA (fun w' hb => (hO w' hb).mono fun e w'' h => by
      obtain ⟨p, c, h1, h2⟩ := h.1 ht
      exact ⟨p, c, 0, 0, h1, h2⟩) (fun g c st fin w' => no_right hR g c st fin w') (fun g c st fin w' => no_fits hF g c st fin _ (by omega) w')
theorem nfits_zero (hB : BldC) (hR : RgtC) (hF : FitC) (p : Option Addr) (cap : Nat) (t : ByteArray) (w : World) :
    Calls Try.prog 4 #[.slice p 0 cap, .string t] w fun e w' => e = .returned (.bool true) ∧ Below w.heap.size w w' := by
  have ht : ¬ tree N9 0 := fun h => by have := (tree_iff.1 h).1; omega
  have hsz : (t.extract 0 (min t.size 8)).size ≤ 1000 := by rw [ByteArray.size_extract]; omega
  exact nfits_bad p 0 cap 0 (by decide) (Nat.zero_le _) t _ rfl w 3 (by decide) (awake9_any hB hR hF) (fun w' _ => (hB p 0 cap N9 w' (.inl rfl) (fun b o h j hj => absurd hj (Nat.not_lt_zero _))).mono fun e w'' h => by
    obtain ⟨p', c, h1, h2⟩ := h.1 ht
    exact ⟨p', c, 0, 0, h1, h2⟩) (fun g c st fin w' => no_right hR g c st fin w') (fun g c st fin w' => no_fits hF g c st fin _ hsz w')
end Go.Proofs.Ytdhplphgackjaaa
