/-
  The walk of the law ShowBack.
-/
import Derived.Test.YtgjpmfdiidkdnaaGreatDoorPk28
import Derived.Test.YtgjpmfdiidkdnaaGreatDoorPk41
import Derived.Test.YtgjpmfdiidkdnaaGreatDoorPk46
import Derived.Test.YtgjpmfdiidkdnaaGreatDoorPk45
import Derived.Test.YtgjpmfdiidkdnaaGreatDoorPk37
import Derived.Test.YtgjpmfdiidkdnaaGreatDoorPk49
import Derived.Test.YtgjpmfdiidkdnaaGreatDoorPk50
namespace Go.Proofs.YtgjpmfdiidkdnaaGreatDoor
open Go.RowKit

theorem nds_at (l : List Nd) (j : Nat) (h : j < l.length) (t : Nat) (ht : t < 7) : (nds l)[j * 7 + t]? = (ncs (nfn l j))[t]? := by
  induction l generalizing j with
  | nil => simp at h
  | cons x l ih =>
    rw [show nds (x :: l) = ncs x ++ nds l by rw [show x :: l = [x] ++ l from rfl, nds_append, nds_one]]
    cases j with
    | zero =>
      rw [Nat.zero_mul, Nat.zero_add, List.getElem?_append_left (by simp [ncs]; omega)]
      rfl
    | succ j =>
      have := ih j (by simpa using h)
      rw [List.getElem?_append_right (by simp [ncs]; omega), show (j + 1) * 7 + t - (ncs x).length = j * 7 + t by simp [ncs]; omega, this]
      rfl
/-- A row of nodes that a call made, as nodes in a block. -/
theorem rdN_own {w : World} {base g n cap : Nat} {l : List Nd} (h : w.ownsRow base 42 7 (.slice (some ⟨g, 0, none⟩) n cap) l.length (nds l)) : rdN w g 0 l.length (nfn l) := fun j hj => by
  have hlt := (h.lt g rfl).2
  obtain ⟨n', cap', hv⟩ : ∃ n' cap', (Value.slice (some ⟨g, 0, none⟩) n cap) = .slice (some ⟨g, 0, none⟩) n' cap' := ⟨n, cap, rfl⟩
  have hn : n = l.length := by
    rcases h.2 with ⟨hx, _⟩ | ⟨_, _, _, hx, _⟩
    · cases hx
    · simp only [Value.slice.injEq] at hx; exact hx.2.1
  subst hn
  have c : ∀ t, t < 7 → w.cell? ⟨g, 0 + j * 7 + t, none⟩ = (ncs (nfn l j))[t]? := fun t ht => by
    rw [Nat.zero_add, h.cellAt (j * 7 + t) (by omega), nds_at l j hj t ht]
  exact ⟨hlt, c 0 (by decide), c 1 (by decide), c 2 (by decide), c 3 (by decide), c 4 (by decide), c 5 (by decide), c 6 (by decide)⟩
theorem setL_small (f : Nat → Bool) : ∀ x, x ∈ setL f → x < 128 := by
  intro x hx
  unfold setL at hx
  split at hx
  · rw [List.mem_singleton.1 hx]; decide
  · split at hx
    · rename_i h1
      obtain ⟨c, hc⟩ := List.length_eq_one_iff.1 h1
      have hcb : c < 256 := bl_bytes f 256 c (by rw [hc]; simp)
      rw [hc, List.headD_cons] at hx
      exact (aloneL_ok c hcb).2 x hx
    · exact many_small f x hx
theorem numL_small (n : Nat) (h : n ≤ 32) : ∀ x, x ∈ numL n → x < 128 := by
  intro x hx
  unfold numL at hx
  split at hx
  · rw [List.mem_singleton.1 hx]; omega
  · simp only [List.mem_cons, List.not_mem_nil, or_false] at hx; omega
theorem oftL_small (lo hi : Int) (h1 : 0 ≤ lo) (h2 : lo ≤ 32) (h3 : hi = -1 ∨ (lo ≤ hi ∧ hi ≤ 32)) : ∀ x, x ∈ oftL lo hi → x < 128 := by
  intro x hx
  unfold oftL at hx
  split at hx
  · rw [List.mem_singleton.1 hx]; decide
  · split at hx
    · rw [List.mem_singleton.1 hx]; decide
    · split at hx
      · rw [List.mem_singleton.1 hx]; decide
      · rcases List.mem_cons.1 hx with rfl | hx
        · decide
        · rcases List.mem_append.1 hx with hx | hx
          · exact numL_small _ (by omega) x hx
          · split at hx
            · simp only [List.mem_cons, List.not_mem_nil, or_false] at hx; omega
            · split at hx
              · rw [List.mem_singleton.1 hx]; decide
              · rcases List.mem_cons.1 hx with rfl | hx
                · decide
                · rcases List.mem_append.1 hx with hx | hx
                  · exact numL_small _ (by omega) x hx
                  · rw [List.mem_singleton.1 hx]; decide
theorem par_small {b : Bool} {l : List Nat} (h : ∀ x, x ∈ l → x < 128) : ∀ x, x ∈ par b l → x < 128 := by
  intro x hx
  unfold par at hx
  split at hx
  · rcases List.mem_cons.1 hx with rfl | hx
    · decide
    · rcases List.mem_append.1 hx with hx | hx
      · exact h x hx
      · rw [List.mem_singleton.1 hx]; decide
  · exact h x hx
theorem txt_small : ∀ t, okT t → ∀ x, x ∈ txt t → x < 128
  | .leaf y, _, x, hx => by
    unfold txt at hx
    split at hx
    · exact setL_small _ x hx
    · split at hx
      · simp only [List.mem_cons, List.not_mem_nil, or_false] at hx; omega
      · split at hx
        · rw [List.mem_singleton.1 hx]; decide
        · rw [List.mem_singleton.1 hx]; decide
  | .cat a b, h, x, hx => by
    rcases List.mem_append.1 (show x ∈ par (isOr a) (txt a) ++ par (isOr b || isCat b) (txt b) from hx) with hx | hx
    · exact par_small (txt_small a h.1) x hx
    · exact par_small (txt_small b h.2) x hx
  | .or a b, h, x, hx => by
    rcases List.mem_append.1 (show x ∈ txt a ++ 124 :: par (isOr b) (txt b) from hx) with hx | hx
    · exact txt_small a h.1 x hx
    · rcases List.mem_cons.1 hx with rfl | hx
      · decide
      · exact par_small (txt_small b h.2) x hx
  | .rep a lo hi, h, x, hx => by
    rcases List.mem_append.1 (show x ∈ par (isOr a || isCat a) (txt a) ++ oftL lo hi from hx) with hx | hx
    · exact par_small (txt_small a h.1) x hx
    · exact oftL_small lo hi h.2.1 h.2.2.1 h.2.2.2 x hx
theorem told_of {N : Nat → Nd} {n : Nat} (ht : tree N n) : told (txB N (n - 1)) (trT N (n - 1)) :=
  ⟨has_bs fun x hx => by have := txt_small _ (trT_root ht).2.1 x hx; omega, bs_size _⟩

/-- What Pattern tells of a tree's text: that tree, or that there are too many groups. -/
theorem pat_two {N : Nat → Nd} {n : Nat} (ht : tree N n) (hw : ∀ j, j < n → okW (N j)) (h : (txB N (n - 1)).size ≤ 200) :
    (patF (txB N (n - 1)) = (some (seg N 0 n), 0, 0)) ∨ ((∃ x, patF (txB N (n - 1)) = (none, x, 4)) ∧ 20 < dpt N (n - 1)) := by
  obtain ⟨h1, h2⟩ := pat_back ht hw (told_of ht) h
  rcases Nat.lt_or_ge 20 (gd (trT N (n - 1))) with hg | hg
  · exact .inr (h2 hg)
  · exact .inl (h1 hg)

set_option maxRecDepth 100000 in
set_option maxHeartbeats 4000000 in
theorem sback_not (p : Option Addr) (n0 n cap : Nat) (hn : n = min n0 100) (hcap : n0 ≤ cap) (N : Nat → Nd) (ht : ¬ tree N n) (w : World) (hT : Okw w)
    (hC : ∀ w', Below w.heap.size w w' → Calls Tryz.prog 6 #[.slice p n cap] w' (textPost N n w'))
    (hR : ∀ w', Below w.heap.size w w' → Calls Tryz.prog 7 #[.slice p n cap] w' fun e w'' => e = .returned (.bool (decide (tree N n))) ∧ Below w'.heap.size w' w'') :
    Calls Tryz.prog 3 #[.slice p n0 cap] w fun e w' => e = .returned (.bool true) ∧ Below w.heap.size w w' := by
  subst hn
  unfold textPost at hC
  rw [showF_not ht] at hC
  rw [decide_eq_false ht] at hR
  simp only at hC
  have HC := Lib.hid hC; have HR := Lib.hid hR; have HT := Lib.hid hT
  clear hC hR hT ht
  have m0 : min (n0 : Int) 100 = ((min n0 100 : Nat) : Int) := by omega
  have m1 : (0 : Int) ≤ ((min n0 100 : Nat) : Int) := by omega
  have m2 : ((min n0 100 : Nat) : Int) ≤ (cap : Int) := by omega
  have m3 : min n0 100 ≤ cap := by omega
  go_enter Tryz.func3, Tryz.ntmps3
  go_wp2_with fail
  refine (awake6_any _ HT.out.1).mono ?_
  rintro e0 w0 ⟨rfl, hb0⟩
  have HB0 := Lib.hid hb0
  clear hb0 HT
  go_wp2_with fail
  refine (HC.out _ HB0.out).mono ?_
  rintro e1 w1 ⟨rfl, hb⟩
  have HB1 := Lib.hid (HB0.out.trans (hb.mono HB0.out.size))
  clear hb HC HB0
  go_wp2_with fail
  refine (HR.out _ HB1.out).mono ?_
  rintro e2 w2 ⟨rfl, hb⟩
  have HB2 := Lib.hid (HB1.out.trans (hb.mono HB1.out.size))
  clear hb HR HB1
  go_wp2_with fail
  go_returns
  exact ⟨rfl, HB2.out⟩

set_option maxRecDepth 100000 in
set_option maxHeartbeats 8000000 in
theorem sback_tree (b off n0 n cap : Nat) (hn : n = min n0 100) (hcap : n0 ≤ cap) (N : Nat → Nd) (ht : tree N n) (hw : ∀ j, j < n → okW (N j)) (w : World) (hT : Okw w) (hr : rdN w b off n N) :
    Calls Tryz.prog 3 #[.slice (some ⟨b, off, none⟩) n0 cap] w fun e w' => e = .returned (.bool true) ∧ Below w.heap.size w w' := by
  subst hn
  have hpos : 0 < min n0 100 := by
    rcases Nat.eq_zero_or_pos (min n0 100) with h | h
    · rw [h] at ht; have := ht.2.2; simp [dep] at this
    · exact h
  have HC := Lib.hid (fun w' (hb : Below w.heap.size w w') => ctext_tree b off (min n0 100) cap N ht hw w' (hT.1.to hb) (hr.below hb))
  have HT := Lib.hid hT; have HRD := Lib.hid hr
  have m0 : min (n0 : Int) 100 = ((min n0 100 : Nat) : Int) := by omega
  have m1 : (0 : Int) ≤ ((min n0 100 : Nat) : Int) := by omega
  have m2 : ((min n0 100 : Nat) : Int) ≤ (cap : Int) := by omega
  have m3 : min n0 100 ≤ cap := by omega
  rcases Nat.lt_or_ge 200 (txB N (min n0 100 - 1)).size with hl | hl
  · unfold textPost at HC
    rw [showF_long ht (show min n0 100 - 1 < min n0 100 by omega) hl] at HC
    simp only at HC
    have hR := fun w' (hb : Below w.heap.size w w') => rright_some b off (min n0 100) cap N hpos ht.1 w' (hr.below hb)
    rw [decide_eq_true ht] at hR
    have HR := Lib.hid hR
    clear hR hr hT hw ht hl
    go_enter Tryz.func3, Tryz.ntmps3
    go_wp2_with fail
    refine (awake6_any _ HT.out.1).mono ?_
    rintro e0 w0 ⟨rfl, hb0⟩
    have HB0 := Lib.hid hb0
    clear hb0 HT
    go_wp2_with fail
    refine (HC.out _ HB0.out).mono ?_
    rintro e1 w1 ⟨rfl, hb⟩
    have HB1 := Lib.hid (HB0.out.trans (hb.mono HB0.out.size))
    clear hb HC HB0
    go_wp2_with fail
    refine (HR.out _ HB1.out).mono ?_
    rintro e2 w2 ⟨rfl, hb⟩
    have HB2 := Lib.hid (HB1.out.trans (hb.mono HB1.out.size))
    clear hb HR HB1
    go_wp2_with fail
    go_returns
    exact ⟨rfl, HB2.out⟩
  · unfold textPost at HC
    rw [showF_ok ht hl] at HC
    simp only at HC
    have HP := Lib.hid (cpat_any (txB N (min n0 100 - 1)))
    have hdp := fun w' (hb : Below w.heap.size w w') => rdepth_is b off (min n0 100) cap N ht (min n0 100 - 1) (by omega) _ rfl w' (hr.below hb)
    have hcast : ((min n0 100 - 1 : Nat) : Int) = ((min n0 100 : Nat) : Int) - 1 := by omega
    rw [hcast] at hdp
    have hsm := fun (b' cap' : Nat) w' (hc : rdN w' b off (min n0 100) N) (hc' : rdN w' b' 0 (min n0 100) (nfn (seg N 0 (min n0 100)))) => same_is N (nfn (seg N 0 (min n0 100))) (min n0 100) (fun j hj => (seg_get hj).symm) (by omega) b off cap b' 0 cap' w' hc hc'
    have HD := Lib.hid hdp
    have HSm := Lib.hid hsm
    have hsl := seg_len N 0 (min n0 100)
    have hpt := pat_two ht hw hl
    generalize txB N (min n0 100 - 1) = s at *
    clear hr hT hw ht hl hdp hsm hcast
    go_enter Tryz.func3, Tryz.ntmps3
    go_wp2_with fail
    refine (awake6_any _ HT.out.1).mono ?_
    rintro e0 w0 ⟨rfl, hb0⟩
    have HB0 := Lib.hid hb0
    clear hb0
    go_wp2_with fail
    refine (HC.out _ HB0.out).mono ?_
    rintro e1 w1 ⟨rfl, hb⟩
    have HB1 := Lib.hid (HB0.out.trans (hb.mono HB0.out.size))
    clear hb HC HB0
    go_wp2_with fail
    refine (HP.out _ (HT.out.to HB1.out)).mono ?_
    intro e2 w2 h2
    have HB2 := Lib.hid (HB1.out.trans (h2.2.2.mono HB1.out.size))
    rcases hpt with hpt | ⟨⟨x, hpt⟩, hdeep⟩
    · rw [hpt] at h2
      obtain ⟨v, rfl, hown⟩ := h2.1 _ rfl
      obtain ⟨g, c, rfl, -⟩ := owns_block hown (by rw [hsl]; omega)
      have hrd := rdN_own hown
      rw [hsl] at hrd
      have HRO := Lib.hid hrd
      simp only [hsl]
      clear h2 hown hpt hrd HP HB1 HD hsl
      go_wp2_with fail
      refine (HSm.out _ _ _ (HRD.out.below HB2.out) HRO.out).mono ?_
      rintro e3 w3 ⟨rfl, z, rfl⟩
      go_wp2_with fail
      go_returns
      exact ⟨rfl, below_drewN _ HB2.out⟩
    · rw [hpt] at h2
      obtain rfl := h2.2.1 rfl
      simp only
      have d1 : decide ((20 : Int) < dpt N (min n0 100 - 1)) = true := decide_eq_true hdeep
      have HDEEP := Lib.hid hdeep
      clear h2 hpt HP HB1 HSm hsl hdeep
      go_wp2_with fail
      refine (HD.out _ HB2.out).mono ?_
      rintro e3 w3 ⟨rfl, hb⟩
      have HB3 := Lib.hid (HB2.out.trans (hb.mono HB2.out.size))
      clear hb HD HB2
      go_wp2_with fail
      go_returns
      exact ⟨rfl, HB3.out⟩

theorem no_tree (N : Nat → Nd) : ¬ tree N 0 := fun ht => by have := ht.2.2; simp [dep] at this
theorem sback_zero (p : Option Addr) (cap : Nat) (w : World) (hT : Okw w) :
    Calls Tryz.prog 3 #[.slice p 0 cap] w fun e w' => e = .returned (.bool true) ∧ Below w.heap.size w w' :=
  sback_not p 0 0 cap rfl (Nat.zero_le _) (fun _ => nd0 0) (no_tree _) w hT
    (fun w' hb => ctext_any p 0 cap _ (.inl rfl) w' (hT.1.to hb) (fun _ _ _ j hj => by omega)) (fun w' _ => rright_zero p cap _ w')
theorem sback_some (b off n0 cap : Nat) (hcap : n0 ≤ cap) (hpos : 0 < n0) (N : Nat → Nd) (hw : ∀ j, j < n0 → okW (N j)) (w : World) (hT : Okw w) (hr : rdN w b off n0 N) :
    Calls Tryz.prog 3 #[.slice (some ⟨b, off, none⟩) n0 cap] w fun e w' => e = .returned (.bool true) ∧ Below w.heap.size w w' := by
  have hr' := hr.take (min n0 100) (by omega)
  have hw' : ∀ j, j < min n0 100 → okW (N j) := fun j hj => hw j (by omega)
  by_cases ht : tree N (min n0 100)
  · exact sback_tree b off n0 _ cap rfl hcap N ht hw' w hT hr'
  · exact sback_not _ n0 _ cap rfl hcap N ht w hT
      (fun w' hb => ctext_any _ _ cap N (.inr ⟨b, off, rfl, hw'⟩) w' (hT.1.to hb) (fun b' off' h => by cases h; exact hr'.below hb))
      (fun w' hb => rright_some b off _ cap N (by omega) (by omega) w' (hr'.below hb))
end Go.Proofs.YtgjpmfdiidkdnaaGreatDoor
