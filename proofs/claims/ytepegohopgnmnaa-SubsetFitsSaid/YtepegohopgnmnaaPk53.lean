/-
  The law SubsetFits, over whatever Build and Count are that do as the page says.
-/
import Derived.Test.YtepegohopgnmnaaPk52
import Derived.Test.YtepegohopgnmnaaPk4
import Derived.Test.YtepegohopgnmnaaPk17
namespace Go.Proofs.Ytepegohopgnmnaa
open Go.RowKit

/-- What the decided automaton of a tree leads to. -/
theorem sub_run {S : Nat → Sd} {M f l : Nat} (hri : rightP S M f l) (hle : ((subM S M f 64).1.length : Int) ≤ 64) (m : Nat) (tx : Nat → Nat) (htx : ∀ k, tx k < 256) (i j : Nat) :
    okRun S M (subM S M f 64) (subM S M f 64).1.length 0 (wrY m tx i j) ∧ lg (subM S M f 64).1 (rnY S M (subM S M f 64) 0 (wrY m tx i j)) l = fF S M m tx f l i j := by
  have hr := right_rng hri
  have h0 : (subM S M f 64).1[0]? = some (T0Y S M f) := full_zero
  have key : ∀ w : List Nat, (∀ y, y ∈ w → y < 259) → ∃ U, (subM S M f 64).1[rnY S M (subM S M f 64) 0 w]? = some U ∧ ∀ q, q < M → U q = rnT S M (T0Y S M f) w q := fun w hw => rnY_is hr hle w hw 0 _ _ h0 fun _ _ => rfl
  refine ⟨fun k _ => ?_, ?_⟩
  · obtain ⟨U, h1, _⟩ := key ((wrY m tx i j).take k) fun y hy => wrY_lt htx y (List.mem_of_mem_take hy)
    rcases Nat.lt_or_ge (rnY S M (subM S M f 64) 0 ((wrY m tx i j).take k)) (subM S M f 64).1.length with h | h
    · exact h
    · rw [List.getElem?_eq_none h] at h1; cases h1
  · obtain ⟨U, h1, h2⟩ := key (wrY m tx i j) fun y hy => wrY_lt htx y hy
    have hl : l < M := by have := hri.1; omega
    rw [← wrY_fF m tx htx f l i j, ← h2 l hl]
    unfold lg
    rw [List.getD_eq_getElem?_getD, h1]; rfl
theorem sfits_zero (hB : SubC) (hC : CntC) (p : Option Addr) (cap : Nat) (t : ByteArray) (w : World) :
    Calls Try.prog 5 #[.slice p 0 cap, .string t] w fun e w' => e = .returned (.bool true) ∧ Below w.heap.size w w' := by
  have ht : ¬ tree N9 0 := fun h => by have := (tree_iff.1 h).1; omega
  refine sfits_out (awake11 hB hC) p 0 cap 0 (by decide) (Nat.zero_le _) t w false 61 (by decide) (fun w' _ => ?_) (fun h => by cases h)
  have := rright_zero p cap N9 w'
  rwa [decide_eq_false ht] at this
theorem sfits_some (hN : BldC) (hB : SubC) (hC : CntC) (b off n cap : Nat) (N : Nat → Nd) (hcap : n ≤ cap) (hok : ∀ j, j < n → okW (N j)) (t : ByteArray) (w : World) (hr : rdN w b off n N) :
    Calls Try.prog 5 #[.slice (some ⟨b, off, none⟩) n cap, .string t] w fun e w' => e = .returned (.bool true) ∧ Below w.heap.size w w' := by
  rcases Nat.eq_zero_or_pos n with rfl | hpos
  · exact sfits_zero hB hC _ cap t w
  obtain ⟨k, hk⟩ : ∃ k, k = min n 30 := ⟨_, rfl⟩
  have hk1 : 1 ≤ k := by omega
  have hA := awake11 hB hC
  have hr' : rdN w b off k N := hr.take k (by omega)
  have hw : ∀ j, j < k → okW (N j) := fun j hj => hok j (by omega)
  have hRg : ∀ w', Below w.heap.size w w' → Calls Try.prog 13 #[.slice (some ⟨b, off, none⟩) k cap] w' fun e w'' => e = .returned (.bool (decide (tree N k))) ∧ Below w'.heap.size w' w'' := fun w' h => rright_some b off k cap N (by omega) (by omega) w' (hr'.below h)
  by_cases ht : tree N k
  · have hok2 := (trT_root ht).2.1
    have hsz := sz_nst _ hok2
    have hk2 : (((k - 1 : Nat) : Int)) = (k : Int) - 1 := by omega
    have hS : ∀ w', Below w.heap.size w w' → Calls Try.prog 14 #[.slice (some ⟨b, off, none⟩) k cap, .int .i64 ((k : Int) - 1)] w' fun e w'' => e = .returned (.int .i64 (szF (trT N (k - 1)))) ∧ Below w'.heap.size w' w'' := fun w' h => by
      have := rsize_is b off k cap N ht (k - 1) (by omega) _ rfl w' (hr'.below h)
      rwa [hk2] at this
    rw [decide_eq_true ht] at hRg
    by_cases h60 : 60 < szF (trT N (k - 1))
    · exact sfits_out hA _ n cap k hk hcap t w true _ h60 hRg fun _ => ⟨hk1, hS⟩
    · have hn60 : nst (trT N (k - 1)) ≤ 60 := by rw [hsz] at h60; unfold cap20 at h60; omega
      obtain ⟨m, hm⟩ : ∃ m, m = min t.size 8 := ⟨_, rfl⟩
      have hsm : (t.extract 0 m).size = m := by rw [ByteArray.size_extract]; omega
      obtain ⟨F, hFa, hc⟩ := all_is b off k cap N ht hw (t.extract 0 m) m hsm (by omega)
      refine sfits_both hA _ n cap k hk hk1 hcap t w _ (by omega) hRg hS m hm _ rfl hsm F (fun w' h => hc w' (hr'.below h)) fun w' h => ?_
      have hO := hN (some ⟨b, off, none⟩) k cap N w' (.inr ⟨b, off, rfl, hw⟩) (fun b' o' e => by cases e; exact hr'.below h)
      refine hO.mono fun e w3 hp => ?_
      obtain ⟨g, o, c, S, f, l, rfl, hrd, -, hfr, hfin, hb2⟩ := hp.2.2 ht (by omega)
      have hri : rightP S (nst (trT N (k - 1))) f l := fr_right hok2 hfr hfin (by omega)
      have hOK := fr_okWs ht hw hfr hfin
      have hst : ∀ w4, Below w3.heap.size w3 w4 → stsAt w4 (some ⟨g, o, none⟩) (nst (trT N (k - 1))) S := fun w4 h4 => ⟨.inr ⟨g, o, rfl⟩, fun b' o' e => by cases e; exact hrd.below h4⟩
      refine ⟨some ⟨g, o, none⟩, nst (trT N (k - 1)), c, f, l, rfl, hb2, ?_⟩
      by_cases hmm : (64 : Int) < (subM S (nst (trT N (k - 1))) f 64).1.length
      · refine .inl ⟨fun w4 h4 => (hB _ _ c S f l 64 w4 (by omega) (by decide) (hst w4 h4) hOK).mono fun e w5 h => h.2.1 hri hmm, fun w4 h4 => (hC _ _ c S f l 64 w4 (by omega) (by decide) (hst w4 h4) hOK).mono fun e w5 h => ?_⟩
        obtain ⟨k', rfl, -, -, h3, -, hb⟩ := h
        rw [h3 hri (by decide) hmm]
        exact ⟨rfl, hb⟩
      · refine .inr fun w4 h4 => (hB _ _ c S f l 64 w4 (by omega) (by decide) (hst w4 h4) hOK).mono fun e w5 h => ?_
        obtain ⟨d, rfl, q0, c0, q1, n1, c1, q2, n2, c2, l0, l1, T, rfl, h0, e0, hn1, h1, e1, hn2, h2, eT, hb⟩ := h.2.2 hri (by omega)
        refine ⟨q0, c0, _, q1, n1, c1, q2, n2, c2, T, fun i j => rnY S (nst (trT N (k - 1))) (subM S (nst (trT N (k - 1))) f 64) 0 (wrY m (tx7 (t.extract 0 m)) i j), rfl, hb, h2, fun i j hij hj => ?_⟩
        obtain ⟨hrun, hacc⟩ := sub_run hri (by omega) m (tx7 (t.extract 0 m)) (tx7_lt _) i j
        have hσ := hrun _ (Nat.le_refl _)
        rw [List.take_length] at hσ
        refine ⟨by rw [hn2]; exact hσ, ?_, fun w6 v h6 hv => ?_⟩
        · rw [eT _ (by rw [hn2]; exact hσ), Int.toNat_natCast, hacc, Bool.eq_iff_iff, fF_iff (right_rng hri) (by have := hri.1; omega) (by have := hri.1; omega), hFa i j hij hj, fits_wk (n := m) (tx := tx7 (t.extract 0 m)) hok2 hfr (by rw [hfin]; rfl) i j hij hj]
          exact fits_iff hij hj
        · have hfx := (full_nx (go := goC S (nst (trT N (k - 1)))) (m := nst (trT N (k - 1))) (width := wdY S (nst (trT N (k - 1)))) (T0 := T0Y S (nst (trT N (k - 1))) f) (most := 64) (show ((subM S (nst (trT N (k - 1))) f 64).1.length : Int) ≤ 64 by omega)).1
          have hb6 : Below w5.heap.size w5 w6 := h6
          exact run11 S (nst (trT N (k - 1))) (subM S (nst (trT N (k - 1))) f 64) q0 c0 0 q1 n1 c1 q2 n2 c2 l0 l1 v (wrY m (tx7 (t.extract 0 m)) i j) 0 (by omega) (hn1.trans (hfx.trans (by rw [hn2]; rfl))) e0 e1 (by have := wrY_len (tx := tx7 (t.extract 0 m)) (i := i) hj; omega) (fun y hy => wrY_lt (tx7_lt _) y hy) (by rw [hn2]; exact hrun) w6 (h0.below hb6) (h1.below hb6) hv
  · rw [decide_eq_false ht] at hRg
    exact sfits_out hA _ n cap k hk hcap t w false 61 (by decide) hRg fun h => by cases h
end Go.Proofs.Ytepegohopgnmnaa
