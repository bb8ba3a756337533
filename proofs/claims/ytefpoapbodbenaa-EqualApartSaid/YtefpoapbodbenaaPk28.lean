/-
  The walk of search's find.
-/
import Derived.Test.YtefpoapbodbenaaPk26
import Derived.Test.YtefpoapbodbenaaPk27
import Derived.Test.YtefpoapbodbenaaPk25
namespace Go.Proofs.Ytefpoapbodbenaa
open Go.RowKit

theorem SrM.sub {X Y : Nat → Prop} {w : World} {base S : Nat} {A B : Dq14} {x y : Da} {mb : Nat} {mv : Value} {g c : Nat} {l : Mt14} {K : Nat → Nat} {D : Dm} (H : SrM X w base S A x B y mb mv g c l K D) (h : ∀ k, Y k → X k) : SrM Y w base S A x B y mb mv g c l K D :=
  ⟨H.sr, H.kin, H.mp, H.met, fun k => H.xs (h _ k), fun k => H.xg (h _ k), fun k => H.xm (h _ k), fun b hb k => H.xr b hb (h _ k), fun k hk => H.xl k (h _ hk), H.bl⟩
/-- A block that is made later may be kept, too. -/
theorem SrM.fresh {X : Nat → Prop} {w w' : World} {base S : Nat} {A B : Dq14} {x y : Da} {mb : Nat} {mv : Value} {g c : Nat} {l : Mt14} {K : Nat → Nat} {D : Dm} {k0 : Nat} (H : SrM X w base S A x B y mb mv g c l K D) (hb : Below w.heap.size w w') (h1 : w.heap.size ≤ k0) (h2 : k0 < w'.heap.size) : SrM (fun k => X k ∨ k = k0) w' base S A x B y mb mv g c l K D := by
  have h3 := H.sr.lt
  have h4 := H.kin.lt.2
  have h5 := H.mlt
  have H' := H.below hb
  refine ⟨H'.sr, H'.kin, H'.mp, H'.met, ?_, ?_, ?_, ?_, ?_, H'.bl⟩
  · rintro (h | h)
    · exact H.xs h
    · omega
  · rintro (h | h)
    · exact H.xg h
    · omega
  · rintro (h | h)
    · exact H.xm h
    · omega
  · rintro b hb (h | h)
    · exact H.xr b hb h
    · have := (World.ownsRow.lt H.met b hb).2
      omega
  · rintro k (h | h)
    · exact H'.xl k h
    · omega
theorem srI.sub {X Y : Nat → Prop} {w : World} {base S : Nat} {A B : Dq14} {x y : Da} {mb g c : Nat} {l : Mt14} {H : Nat → Nat} (h : srI X w base S A x B y mb g c l H) (hs : ∀ k, Y k → X k) : srI Y w base S A x B y mb g c l H := by
  obtain ⟨mv, K, d, D, h1, h2⟩ := h
  exact ⟨mv, K, d, D, h1.sub hs, h2⟩
theorem srI.below {X : Nat → Prop} {w w' : World} {base S : Nat} {A B : Dq14} {x y : Da} {mb g c : Nat} {l : Mt14} {H : Nat → Nat} (h : srI X w base S A x B y mb g c l H) (hb : Below w.heap.size w w') : srI X w' base S A x B y mb g c l H := by
  obtain ⟨mv, K, d, D, h1, h2⟩ := h
  exact ⟨mv, K, d, D, h1.below hb, h2⟩
theorem srI.fresh {X : Nat → Prop} {w w' : World} {base S : Nat} {A B : Dq14} {x y : Da} {mb g c : Nat} {l : Mt14} {H : Nat → Nat} {k0 : Nat} (h : srI X w base S A x B y mb g c l H) (hb : Below w.heap.size w w') (h1 : w.heap.size ≤ k0) (h2 : k0 < w'.heap.size) : srI (fun k => X k ∨ k = k0) w' base S A x B y mb g c l H := by
  obtain ⟨mv, K, d, D, h3, h4⟩ := h
  exact ⟨mv, K, d, D, h3.fresh hb h1 h2, h4⟩
theorem srI.ten {X : Nat → Prop} {w' : World} {base S : Nat} {A B : Dq14} {x y : Da} {mb g c : Nat} {l : Mt14} {H : Nat → Nat} (h : srI X w' base S A x B y mb g c l H) : w'.cell? ⟨S, 0, none⟩ = some (.slice A.q0 x.n0 A.c0) ∧ w'.cell? ⟨S, 1, none⟩ = some (.int .i64 x.wd) ∧ w'.cell? ⟨S, 2, none⟩ = some (.int .i64 x.st) ∧ w'.cell? ⟨S, 3, none⟩ = some (.slice A.q1 x.n1 A.c1) ∧ w'.cell? ⟨S, 4, none⟩ = some (.slice A.q2 x.n2 A.c2) ∧ w'.cell? ⟨S, 5, none⟩ = some (.slice B.q0 y.n0 B.c0) ∧ w'.cell? ⟨S, 6, none⟩ = some (.int .i64 y.wd) ∧ w'.cell? ⟨S, 7, none⟩ = some (.int .i64 y.st) ∧ w'.cell? ⟨S, 8, none⟩ = some (.slice B.q1 y.n1 B.c1) ∧ w'.cell? ⟨S, 9, none⟩ = some (.slice B.q2 y.n2 B.c2) := by
  obtain ⟨mv, K, d, D, h1, -⟩ := h
  obtain ⟨y0, y1, y2, y3, y4, y5, y6, y7, y8, y9, -⟩ := h1.sr.cells
  exact ⟨y0, y1, y2, y3, y4, y5, y6, y7, y8, y9⟩
/-- A pair in a block. -/
def isPr (w : World) (h : Nat) (a b : Int) : Prop := w.heap[h]? = some (.cells #[.int .i64 a, .int .i64 b] 49 (0, 0))
theorem isPr.lt {w : World} {h : Nat} {a b : Int} (H : isPr w h a b) : h < w.heap.size := lt_of_block H
theorem isPr.cells {w : World} {h : Nat} {a b : Int} (H : isPr w h a b) : w.cell? ⟨h, 0, none⟩ = some (.int .i64 a) ∧ w.cell? ⟨h, 1, none⟩ = some (.int .i64 b) := by
  unfold isPr at H
  exact ⟨by simp [World.cell?, H], by simp [World.cell?, H]⟩
theorem isPr.free {w : World} {h : Nat} {a b : Int} (H : isPr w h a b) (j : Nat) : w.frozen? ⟨h, j, none⟩ = false := by
  unfold isPr at H
  simp [World.frozen?, H]
theorem isPr.kpt {X : Nat → Prop} {w w' : World} {h : Nat} {a b : Int} (H : isPr w h a b) (hk : kpX X w w') (hX : X h) : isPr w' h a b := (hk.block h H.lt hX).trans H
theorem isPr.below {w w' : World} {h : Nat} {a b : Int} (H : isPr w h a b) (hb : Below w.heap.size w w') : isPr w' h a b := (hb.block h H.lt).trans H
theorem isPr.put {w : World} {h : Nat} {a b : Int} (H : isPr w h a b) (a' b' : Int) : isPr ((w.setCell ⟨h, 0, none⟩ (.int .i64 a')).setCell ⟨h, 1, none⟩ (.int .i64 b')) h a' b' := by
  have h1 := heap_setCell_same w h 0 _ _ (.int .i64 a') H
  have h2 := heap_setCell_same _ h 1 _ _ (.int .i64 b') h1
  unfold isPr
  rw [h2]; simp
/-- What find tells. -/
def fiPost (x y : Da) (X : Nat → Prop) (base S : Nat) (A B : Dq14) (mb g c : Nat) (w : World) (e : Ending) (w' : World) : Prop :=
  ∃ l H, srI X w' base S A x B y mb g c l H ∧ kpX X w w' ∧ ((∃ (p q : Nat) (u : List Nat), e = .returned (.tuple #[prV p q, .bool true]) ∧ ((p, q), u) ∈ l ∧ apW x y u ∧ u.length ≤ x.n2 * y.n2) ∨ (e = .returned (.tuple #[prV 0 0, .bool false]) ∧ ∀ v, ¬ dfW x y v))
theorem fsA_eq {l l' : Nat → Int} {n : Nat} (h : ∀ j, j < n → l j = l' j) (c : Int) : fsA l n c = fsA l' n c := by
  unfold fsA
  congr 2
  have key : ∀ (L : List Nat), (∀ i, i ∈ L → i < n) → L.find? (fun i => l i == c) = L.find? (fun i => l' i == c) := by
    intro L
    induction L with
    | nil => intro _; rfl
    | cons a L ih =>
      intro ha
      rw [List.find?_cons, List.find?_cons, h a (ha a (List.mem_cons_self ..)), ih fun i hi => ha i (List.mem_cons_of_mem _ hi)]
  exact key _ fun i hi => List.mem_range.1 hi
/-- The symbols in memory. -/
def syR (R : Nat → Nat → Bool) (w : World) (b o : Nat) : Prop := ∀ j, j < cntT (isH R) 259 → ∃ s, s < 259 ∧ isH R s = true ∧ cntT (isH R) s = j ∧ w.cell? ⟨b, o + j, none⟩ = some (.int .i64 (s : Int))
theorem syR.kpt {R : Nat → Nat → Bool} {X : Nat → Prop} {w w' : World} {b o : Nat} (h : syR R w b o) (hk : kpX X w w') (hb : b < w.heap.size) (hX : X b) : syR R w' b o := fun j hj => by
  obtain ⟨s, h1, h2, h3, h4⟩ := h j hj
  refine ⟨s, h1, h2, h3, ?_⟩
  have := hk.block b hb hX
  simp only [World.cell?] at h4 ⊢
  rw [this]; exact h4
theorem joi14 (x y : Da) (hx : rgD x) (hy : rgD y) (A B : Dq14) (w : World) (h0 : rdL w A.q0 x.n0 x.l0) (h1 : rdL w B.q0 y.n0 y.l0) :
    Calls Try.prog 36 #[.slice A.q0 x.n0 A.c0, .slice B.q0 y.n0 B.c0] w fun e w' => ∃ q c l', e = .returned (.tuple #[.slice q 259 c, .int .i64 (cntT (isH (joR x.l0 y.l0)) 259 : Nat)]) ∧ rdL w' q 259 l' ∧ (∀ j, j < 259 → l' j = (clA (joR x.l0 y.l0) j : Nat)) ∧ Below w.heap.size w w' := by
  have hwx : ∀ j, j < x.n0 → wfI (x.l0 j) := fun j hj => by
    have := hx.2.2.2.2.2.2.2.2.1 j (by rw [← hx.1]; exact hj)
    have := hx.2.2.1
    exact wfI_of (by omega) (by omega)
  have hwy : ∀ j, j < y.n0 → wfI (y.l0 j) := fun j hj => by
    have := hy.2.2.2.2.2.2.2.2.1 j (by rw [← hy.1]; exact hj)
    have := hy.2.2.1
    exact wfI_of (by omega) (by omega)
  refine (joi_any A.q0 x.n0 A.c0 x.l0 B.q0 y.n0 B.c0 y.l0 w (by rw [hx.1]; omega) (by rw [hy.1]; omega) hwx hwy h0 h1).mono ?_
  intro e w' h
  obtain ⟨q, c, l', h2⟩ := h.1 (hx.1.trans hy.1.symm)
  rw [hx.1] at h2
  exact ⟨q, c, l', h2⟩
theorem frs14 (R : Nat → Nat → Bool) (hR : eqR R) (q : Option Addr) (c : Nat) (l' : Nat → Int) (w : World) (hl : rdL w q 259 l') (he : ∀ j, j < 259 → l' j = (clA R j : Nat)) :
    Calls Try.prog 29 #[.slice q 259 c, .int .i64 (cntT (isH R) 259 : Nat)] w fun e w' => ∃ b o c', e = .returned (.slice (some ⟨b, o, none⟩) (cntT (isH R) 259) c') ∧ w.heap.size ≤ b ∧ b < w'.heap.size ∧ syR R w' b o ∧ Below w.heap.size w w' := by
  refine (firsts13 q 259 c l' _ (by omega) w hl).mono ?_
  rintro e w' ⟨q2, c2, l2, rfl, h1, h2, h3, h4⟩
  have hle := cntT_le (isH R) 259
  have hpos : 0 < cntT (isH R) 259 := by
    have := clA_lt hR (show 0 < 259 by decide)
    omega
  have hmin : (min ((cntT (isH R) 259 : Nat) : Int) 259).toNat = cntT (isH R) 259 := by omega
  rw [hmin] at h1 h2 ⊢
  obtain ⟨b, o, rfl, hb, -⟩ := h1 0 hpos
  refine ⟨b, o, c2, rfl, h4 b o rfl, hb, fun j hj => ?_, h3⟩
  obtain ⟨b', o', e1, _, e3⟩ := h1 j hj
  cases e1
  obtain ⟨s, s1, s2, s3, s4⟩ := fs_head hR hj
  refine ⟨s, s1, s3, s4, ?_⟩
  rw [e3, h2 j hj, fsA_eq he, s2]

/-- A block that is kept has turned: the search stands. -/
theorem SrM.side {X : Nat → Prop} {w w' : World} {base S : Nat} {A B : Dq14} {x y : Da} {mb : Nat} {mv : Value} {g c : Nat} {l : Mt14} {K : Nat → Nat} {D : Dm} {r : Nat} (H : SrM X w base S A x B y mb mv g c l K D) (hg : w.grownBy w' (some r)) (hr : X r) : SrM X w' base S A x B y mb mv g c l K D :=
  ⟨H.sr.kept hg (by simp; exact fun e => H.xs (e ▸ hr)), World.ownsRow.kept H.kin hg (.inr (by simp [Value.ownBlock]; exact fun e => H.xg (e ▸ hr))), H.mp.kept hg (by simp; exact fun e => H.xm (e ▸ hr)), World.ownsRow.kept H.met hg (.inr fun e => H.xr r e hr),
    H.xs, H.xg, H.xm, H.xr, fun k hk => Nat.lt_of_lt_of_le (H.xl k hk) hg.size, Nat.le_trans H.bl hg.size⟩
theorem srI.side {X : Nat → Prop} {w w' : World} {base S : Nat} {A B : Dq14} {x y : Da} {mb g c : Nat} {l : Mt14} {H : Nat → Nat} {r : Nat} (h : srI X w base S A x B y mb g c l H) (hg : w.grownBy w' (some r)) (hr : X r) : srI X w' base S A x B y mb g c l H := by
  obtain ⟨mv, K, d, D, h1, h2⟩ := h
  exact ⟨mv, K, d, D, h1.side hg hr, h2⟩
/-- Both accept alike at the first k pairs. -/
def agZ (x y : Da) (l : Mt14) (k : Nat) : Prop := ∀ j (p' q' : Nat) (u : List Nat), j < k → l[j]? = some ((p', q'), u) → x.T p' = y.T q'
/-- A word is not longer than there are words ahead of it. -/
theorem okZ_len {x y : Da} {l : Mt14} {a c : Nat} {D : Dm} (h : okZ x y l a c) (hd : dmZ l D) : ∀ (u : List Nat) (i : Nat) (P : Nat × Nat), l[i]? = some (P, u) → u.length ≤ i := by
  refine snoc_ind (fun i P _ => Nat.zero_le _) ?_
  intro v d ih i P hi
  obtain ⟨Q, hQ, -⟩ := (hd P _ (List.mem_of_getElem? hi)).2 v d rfl
  obtain ⟨j, hj⟩ := mem_at hQ
  have h1 := ih j Q hj
  have h2 : j < i := by
    rcases Nat.lt_or_ge j i with g | g
    · exact g
    · exfalso
      have h3 := nmW_lt v d
      by_cases e : i = j
      · subst e
        rw [hi] at hj
        have e2 := congrArg (fun o => (o.map fun z => nmW z.2).getD 0) hj
        simp only [Option.map_some, Option.getD_some] at e2
        omega
      · have := h.up i j _ _ (by omega) hi hj
        simp only at this
        omega
  rw [List.length_append, List.length_singleton]
  omega
theorem agZ_put {x y : Da} {l : Mt14} {k nx : Nat} {H : Nat → Nat} {P : Nat × Nat} {u : List Nat} (h : agZ x y l k) (hk : k ≤ l.length) : agZ x y (puZ nx H l P u) k := fun j p' q' v hj e => by
  have hjl : j < l.length := by omega
  have h1 := List.getElem?_eq_getElem hjl
  have h2 := puZ_old (nx := nx) (H := H) (P := P) (u := u) h1
  rw [h2] at e
  exact h j p' q' v hj (h1.trans e)

set_option maxRecDepth 100000 in
set_option maxHeartbeats 16000000 in
theorem find14 (X : Nat → Prop) (base S : Nat) (A : Dq14) (x : Da) (B : Dq14) (y : Da) (mb g c : Nat) (w0 w : World) (hb0 : Below base w0 w) (hX : ∀ k, k < base → X k) (hz : w0.heap.size = base) (hxa : daAt w0 (A.val x) x) (hya : daAt w0 (B.val y) y)
    (hx : rgD x) (hy : rgD y) (sx : smD x) (sy : smD y) (HI : srI X w base S A x B y mb g c [] (fun z => z)) :
    Calls Try.prog 20 #[.pointer (some ⟨S, 0, none⟩)] w (fiPost x y X base S A B mb g c w) := by
  obtain ⟨R0, hR0⟩ : ∃ R0, w.heap.size = R0 := ⟨_, rfl⟩
  obtain ⟨W1, hW1⟩ : ∃ W1, w.alloc (.cells #[.int .i64 0, .int .i64 0] 49) = W1 := ⟨_, rfl⟩
  have hb1 : Below R0 w W1 := hW1 ▸ hR0 ▸ (Below.refl _ _).alloc (Nat.le_refl _) _
  have hz1 : W1.heap.size = R0 + 1 := by rw [← hW1, World.size_alloc, hR0]
  have hP1 : isPr W1 R0 0 0 := hW1 ▸ hR0 ▸ heap_alloc_new w _
  have hBR : base ≤ R0 := by obtain ⟨mv, K, d, D, h1, -⟩ := HI; rw [← hR0]; exact h1.bl
  obtain ⟨X1, hX1⟩ : ∃ X1 : Nat → Prop, (fun k => X k ∨ k = R0) = X1 := ⟨_, rfl⟩
  have HI1 : srI X1 W1 base S A x B y mb g c [] (fun z => z) := hX1 ▸ HI.fresh (hR0.symm ▸ hb1) (by omega) (by omega)
  have HXX : Hid ((∀ k, X k → X1 k) ∧ X1 R0) := Lib.hid ⟨fun k h => hX1 ▸ .inl h, hX1 ▸ .inr rfl⟩
  obtain ⟨R, hR⟩ : ∃ R, joR x.l0 y.l0 = R := ⟨_, rfl⟩
  have heR : eqR R := hR ▸ joR_eq _ _
  obtain ⟨KN, hKN⟩ : ∃ KN, cntT (isH R) 259 = KN := ⟨_, rfl⟩
  have HDA : Hid (∀ w', Below base w0 w' → daAt w' (A.val x) x ∧ daAt w' (B.val y) y) := Lib.hid fun w' h => ⟨hxa.below (hz.symm ▸ h), hya.below (hz.symm ▸ h)⟩
  have HB01 : Hid (Below base w0 W1) := Lib.hid (hb0.trans (hb1.mono hBR))
  have HJ : Hid (∀ w', Below base w0 w' → Calls Try.prog 36 #[.slice A.q0 x.n0 A.c0, .slice B.q0 y.n0 B.c0] w' fun e w'' => ∃ q c l', e = .returned (.tuple #[.slice q 259 c, .int .i64 (KN : Int)]) ∧ rdL w'' q 259 l' ∧ (∀ j, j < 259 → l' j = (clA R j : Nat)) ∧ Below w'.heap.size w' w'') := Lib.hid fun w' h => by
    obtain ⟨⟨q0, c0, q1, c1, q2, c2, e, r0, -⟩, ⟨q0', c0', q1', c1', q2', c2', e', r0', -⟩⟩ := HDA.out w' h
    have e0 : A.q0 = q0 := by
      have := congrArg (fun v => match v with | .agg cs => cs[0]? | _ => none) e
      simpa [Dq14.val] using And.left (by simpa [Dq14.val] using this)
    have e0' : B.q0 = q0' := by
      have := congrArg (fun v => match v with | .agg cs => cs[0]? | _ => none) e'
      simpa [Dq14.val] using And.left (by simpa [Dq14.val] using this)
    have := joi14 x y hx hy A B w' (e0 ▸ r0) (e0' ▸ r0')
    rw [hR, hKN] at this
    exact this
  have HF : Hid (∀ q c l' w', rdL w' q 259 l' → (∀ j, j < 259 → l' j = (clA R j : Nat)) → Calls Try.prog 29 #[.slice q 259 c, .int .i64 (KN : Int)] w' fun e w'' => ∃ b o c', e = .returned (.slice (some ⟨b, o, none⟩) KN c') ∧ w'.heap.size ≤ b ∧ b < w''.heap.size ∧ syR R w'' b o ∧ Below w'.heap.size w' w'') := Lib.hid fun q c l' w' h1 h2 => by
    have := frs14 R heR q c l' w' h1 h2
    rw [hKN] at this
    exact this
  have HXN : Hid (¬ X R0) := Lib.hid (by obtain ⟨mv, K, d, D, h1, -⟩ := HI; exact fun h => by have := h1.xl R0 h; omega)
  have HI1' := Lib.hid HI1; have HP1 := Lib.hid hP1; have HW1 := Lib.hid hW1; have HB1 := Lib.hid hb1
  have HKC : Hid (∀ w', Below W1.heap.size W1 w' → w'.cell? ⟨S, 0, none⟩ = some (.slice A.q0 x.n0 A.c0) ∧ w'.cell? ⟨S, 1, none⟩ = some (.int .i64 x.wd) ∧ w'.cell? ⟨S, 2, none⟩ = some (.int .i64 x.st) ∧ w'.cell? ⟨S, 3, none⟩ = some (.slice A.q1 x.n1 A.c1) ∧ w'.cell? ⟨S, 4, none⟩ = some (.slice A.q2 x.n2 A.c2) ∧ w'.cell? ⟨S, 5, none⟩ = some (.slice B.q0 y.n0 B.c0) ∧ w'.cell? ⟨S, 6, none⟩ = some (.int .i64 y.wd) ∧ w'.cell? ⟨S, 7, none⟩ = some (.int .i64 y.st) ∧ w'.cell? ⟨S, 8, none⟩ = some (.slice B.q1 y.n1 B.c1) ∧ w'.cell? ⟨S, 9, none⟩ = some (.slice B.q2 y.n2 B.c2)) := Lib.hid fun w' h => (HI1.below h).ten
  obtain ⟨y0, y1, y2, y3, y4, y5, y6, y7, y8, y9⟩ := HI1.ten
  have HR := Lib.hid hR; have HKN := Lib.hid hKN; have HRX := Lib.hid hx; have HRY := Lib.hid hy; have HSX := Lib.hid sx; have HSY := Lib.hid sy
  have HXB := Lib.hid hX; have HR0 := Lib.hid hR0; have HBR := Lib.hid hBR; have HZ1 := Lib.hid hz1
  clear hb0 hX hxa hya hx hy sx sy HI hW1 hb1 hP1 HI1 hX1 hR heR hKN hz hBR hz1
  go_enter Try.func20, Try.ntmps20
  go_upto_region 1 with (fail)
  rw [HW1.out]
  clear hR0
  have hB : Below W1.heap.size W1 W1.drew := (Below.refl _ _).drew
  have hBJ : Below base w0 W1.drew := HB01.out.drew
  go_region_held_law (fun w' => w'.cell? ⟨S, 0, none⟩ = some (.slice A.q0 x.n0 A.c0) ∧ w'.cell? ⟨S, 5, none⟩ = some (.slice B.q0 y.n0 B.c0))
    (first | exact ⟨(HKC.out _ hB).1, (HKC.out _ hB).2.2.2.2.2.1⟩ | exact ⟨(HKC.out _ (Below.refl _ _)).1, (HKC.out _ (Below.refl _ _)).2.2.2.2.2.1⟩)
    (first
      | (with_reducible refine (HJ.out _ hBJ).mono ?_; rintro e w2 ⟨qj, cj, lj, rfl, hj1, hj2, hj3⟩; replace hB := hB.trans (hj3.mono hB.size); have HF2 := Lib.hid (HF.out qj cj lj w2 hj1 hj2); clear hj1 hj2 hj3)
      | (with_reducible refine HF2.out.mono ?_; rintro e w3 ⟨bs, os, cs, rfl, hs1, hs2, hs3, hs4⟩; have hsb := Nat.le_trans hB.size hs1; replace hB := hB.trans (hs4.mono hB.size)))
  have hle3 : R0 + 1 ≤ w3.heap.size := by have := hB.size; have := HZ1.out; omega
  obtain ⟨X2, hX2⟩ : ∃ X2 : Nat → Prop, (fun k => X1 k ∨ k = bs) = X2 := ⟨_, rfl⟩
  have HI3 : Hid (srI X2 w3 base S A x B y mb g c [] (fun z => z)) := Lib.hid (hX2 ▸ HI1'.out.fresh hB hsb hs2)
  have HXX2 : Hid ((∀ k, X k → X2 k) ∧ X2 R0 ∧ X2 bs) := Lib.hid ⟨fun k h => hX2 ▸ .inl (HXX.out.1 k h), hX2 ▸ .inl HXX.out.2, hX2 ▸ .inr rfl⟩
  have HP3 : Hid (isPr w3 R0 0 0) := Lib.hid (HP1.out.below hB)
  have HSYR := Lib.hid hs3; have HSL := Lib.hid hs2
  have HBW3 : Hid (Below w.heap.size w w3) := Lib.hid (HR0.out.symm ▸ (HB1.out.trans (hB.mono (by have := HZ1.out; omega))))
  have HB03 : Hid (Below base w0 w3) := Lib.hid (HB01.out.trans (hB.mono (by have := HZ1.out; have := HBR.out; omega)))
  obtain ⟨p0, hp0⟩ : ∃ p0 : Nat, x.st.toNat = p0 := ⟨_, rfl⟩
  obtain ⟨q0, hq0⟩ : ∃ q0 : Nat, y.st.toNat = q0 := ⟨_, rfl⟩
  have hps : x.st = (p0 : Int) := by have := HRX.out.2.2.2.2.2.2.1; omega
  have hqs : y.st = (q0 : Int) := by have := HRY.out.2.2.2.2.2.2.1; omega
  have hpl : p0 < x.n2 := hp0 ▸ st_lt HRX.out
  have hql : q0 < y.n2 := hq0 ▸ st_lt HRY.out
  have HST : Hid ((p0, q0) = st14 x y) := Lib.hid (by unfold st14; rw [hp0, hq0])
  obtain ⟨H0, hH0⟩ : ∃ H0, joH (fun z => z) p0 (x.n2 + q0) = H0 := ⟨_, rfl⟩
  have HPUT : Hid (Calls Try.prog 37 #[.pointer (some ⟨S, 0, none⟩), .agg #[.int .i64 (p0 : Int), .int .i64 (q0 : Int)], .agg #[.int .i64 0, .int .i64 0, .int .i64 (-1)]] w3.drew fun e w' => e = .returned (.tuple #[]) ∧ srI X2 w' base S A x B y mb g c [((p0, q0), [])] H0 ∧ kpX X2 w3.drew w') := Lib.hid (by
    have h := eput14 X2 base S A x B y mb g c [] (fun z => z) p0 q0 [] 0 0 (-1) w3.drew (HI3.out.below (Below.refl _ _).drew) HSX.out.2.2 HSY.out.2.2 hpl hql (by simp) (.inl ⟨rfl, rfl⟩)
    have e : puZ x.n2 (fun z => z) [] (p0, q0) [] = [((p0, q0), [])] := by
      unfold puZ
      rw [if_neg (by simp only; omega)]
      rfl
    rw [e, hH0] at h
    exact h)
  have HKC3 : Hid (∀ w', w' = w3 ∨ w' = w3.drew ∨ srI X2 w' base S A x B y mb g c [((p0, q0), [])] H0 → w'.cell? ⟨S, 2, none⟩ = some (.int .i64 (p0 : Int)) ∧ w'.cell? ⟨S, 7, none⟩ = some (.int .i64 (q0 : Int))) := Lib.hid fun w' hw => by
    rw [← hps, ← hqs]
    rcases hw with rfl | rfl | h
    · exact ⟨HI3.out.ten.2.2.1, HI3.out.ten.2.2.2.2.2.2.2.1⟩
    · exact ⟨HI3.out.ten.2.2.1, HI3.out.ten.2.2.2.2.2.2.2.1⟩
    · exact ⟨h.ten.2.2.1, h.ten.2.2.2.2.2.2.2.1⟩
  clear hsb hs1 hs2 hs3 hs4 hX2 hB hBJ HF2 HJ HF y0 y1 y2 y3 y4 y5 y6 y7 y8 y9 HKC HI1' HP1 HW1 HB1 HB01 HXX hps hqs hp0 hq0 hH0 hle3 HZ1
  go_upto_region 2 with (fail)
  go_region_held_law (fun w' => w'.cell? ⟨S, 2, none⟩ = some (.int .i64 (p0 : Int)) ∧ w'.cell? ⟨S, 7, none⟩ = some (.int .i64 (q0 : Int)))
    (first | exact HKC3.out _ (.inl rfl) | exact HKC3.out _ (.inr (.inl rfl)) | exact HKC3.out _ (.inr (.inr hi4)))
    (first | (with_reducible refine HPUT.out.mono ?_; rintro e w4 ⟨rfl, hi4, hk4⟩))
  have HI4 := Lib.hid hi4
  have HB04 : Hid (Below base w0 w4) := Lib.hid (HB03.out.drew.trans (hk4.below (by have := HB03.out.size; have h1 : w3.drew.heap.size = w3.heap.size := rfl; have := HBW3.out.size; have := HBR.out; have := HR0.out; omega) fun k hk => HXX2.out.1 k (HXB.out k hk)))
  have HKW4 : Hid (kpX X w w4) := Lib.hid ((kpX.of_below HBW3.out.drew).trans (hk4.sub fun k hk => HXX2.out.1 k hk))
  have HP4 : Hid (isPr w4 R0 0 0) := Lib.hid ((show isPr w3.drew R0 0 0 from HP3.out).kpt hk4 HXX2.out.2.1)
  have HSY4 : Hid (syR R w4 bs os) := Lib.hid ((show syR R w3.drew bs os from HSYR.out).kpt hk4 HSL.out HXX2.out.2.2)
  have HSL4 : Hid (bs < w4.heap.size) := Lib.hid (Nat.lt_of_lt_of_le HSL.out hk4.size)
  have HOK0 : Hid (okZ x y [((p0, q0), [])] 0 0) := Lib.hid (by rw [HST.out]; exact okZ_zero x y)
  have HAG0 : Hid (agZ x y [((p0, q0), [])] 0) := Lib.hid fun j _ _ _ hj _ => absurd hj (Nat.not_lt_zero _)
  obtain ⟨M, hM⟩ : ∃ M, x.n2 * y.n2 = M := ⟨_, rfl⟩
  have HMM := Lib.hid hM
  have hM1 : M ≤ 1000000 := by rw [← hM]; exact Nat.mul_le_mul HSX.out.2.2 HSY.out.2.2
  have HLE0 : Hid (0 ≤ [((p0, q0), ([] : List Nat))].length) := Lib.hid (Nat.zero_le _)
  clear hi4 hk4 HI3 HPUT HKC3 HP3 HSYR HSL HB03 HBW3 hM hpl hql
  go_upto_region 4 with (fail)

  go_loopw [5] (fun kv wr => ∃ (k : Nat) (l : Mt14) (H : Nat → Nat), kv = .int .i64 (k : Int) ∧ Hid (k ≤ l.length) ∧ Hid (srI X2 wr base S A x B y mb g c l H) ∧ Hid (okZ x y l k 0) ∧ Hid (agZ x y l k) ∧ Hid (kpX X2 w4 wr)) (fun kv _ => M + 1 - (intOf kv).toNat)
  case atStart => exact ⟨0, _, _, rfl, HLE0, HI4, HOK0, HAG0, Lib.hid (kpX.refl _ _)⟩
  case round =>
    clear HLE0 HOK0 HAG0 HI4
    obtain ⟨k, l, H, rfl, HLE, HI, HOK, HAG, HK⟩ := hrel
    obtain ⟨mv, K, d, D, hm, hrest⟩ := id HI.out
    obtain ⟨mp, mc, rfl⟩ := hm.slice
    have y11 := hm.sr.cells.2.2.2.2.2.2.2.2.2.2.2.1
    have hzr := hm.sr.lt
    have HB0r : Hid (Below base w0 wr) := Lib.hid (HB04.out.trans (HK.out.below (by have := HBR.out; have := HKW4.out.size; have := HR0.out; omega) fun k hk => HXX2.out.1 k (HXB.out k hk)))
    have HPr : Hid (isPr wr R0 0 0) := Lib.hid (HP4.out.kpt HK.out HXX2.out.2.1)
    have HSYr : Hid (syR R wr bs os) := Lib.hid (HSY4.out.kpt HK.out HSL4.out HXX2.out.2.2)
    have HKWr : Hid (kpX X w wr) := Lib.hid (HKW4.out.trans (HK.out.sub fun k hk => HXX2.out.1 k hk))
    have hfew := okZ_few HRX.out HRY.out HOK.out
    rw [HMM.out] at hfew
    obtain ⟨len, hlen⟩ : ∃ len, l.length = len := ⟨_, rfl⟩
    have hkl : k ≤ len := hlen ▸ HLE.out
    have k0 : (0 : Int) ≤ (k : Int) := by omega
    have HLEN := Lib.hid hlen
    by_cases hlt : k < len
    · have k1 : (k : Int) < (len : Int) := by omega
      have k2 : (len : Int) ≤ 1000000 := by omega
      obtain ⟨⟨⟨p, q⟩, u⟩, hX⟩ : ∃ e, l[k]? = some e := ⟨_, List.getElem?_eq_getElem (by omega)⟩
      obtain ⟨r, rfl, hrl, -, c0, c1⟩ := hm.cell hX
      obtain ⟨hpx, hqy⟩ := okZ_lt HRX.out HRY.out HOK.out (List.mem_of_getElem? hX)
      rw [hlen] at y11
      simp only at c0 c1 hpx hqy
      obtain ⟨h, hh⟩ : ∃ h, wr.heap.size = h := ⟨_, rfl⟩
      obtain ⟨W5, hW5⟩ : ∃ W5, wr.alloc (.cells #[.int .i64 (p : Int), .int .i64 (q : Int)] 49) = W5 := ⟨_, rfl⟩
      have hb5 : Below h wr W5 := hW5 ▸ hh ▸ (Below.refl _ _).alloc (Nat.le_refl _) _
      have hz5 : W5.heap.size = h + 1 := by rw [← hW5, World.size_alloc, hh]
      have hP5 : isPr W5 h p q := hW5 ▸ hh ▸ heap_alloc_new wr _
      obtain ⟨X3, hX3⟩ : ∃ X3 : Nat → Prop, (fun k => X2 k ∨ k = h) = X3 := ⟨_, rfl⟩
      have hI5 : srI X3 W5 base S A x B y mb g c l H := hX3 ▸ HI.out.fresh (hh.symm ▸ hb5) (by omega) (by omega)
      have HXX3 : Hid ((∀ k, X2 k → X3 k) ∧ X3 h) := Lib.hid ⟨fun k g => hX3 ▸ .inl g, hX3 ▸ .inr rfl⟩
      have hbh : base ≤ h := by have := hm.bl; omega
      have hB05 : Below base w0 W5 := HB0r.out.trans (hb5.mono hbh)
      obtain ⟨hda, hdb⟩ := HDA.out _ hB05
      obtain ⟨y0, y1, y2, y3, y4, y5, y6, y7, y8, y9⟩ := hI5.ten
      obtain ⟨z0, z1⟩ := hP5.cells
      obtain ⟨q0', c0', q1', c1', q2', c2', ea, -, -, ra⟩ := hda
      obtain ⟨q0'', c0'', q1'', c1'', q2'', c2'', eb, -, -, rb⟩ := hdb
      have ea2 : A.q2 = q2' := by
        have := congrArg (fun v => match v with | .agg cs => cs[4]? | _ => none) ea
        simpa [Dq14.val] using And.left (by simpa [Dq14.val] using this)
      have eb2 : B.q2 = q2'' := by
        have := congrArg (fun v => match v with | .agg cs => cs[4]? | _ => none) eb
        simpa [Dq14.val] using And.left (by simpa [Dq14.val] using this)
      obtain ⟨ba, oa, ha1, -, ha2⟩ := ra p hpx
      obtain ⟨bb, ob, hb1, -, hb2⟩ := rb q hqy
      rw [ea2, ha1] at y4
      rw [eb2, hb1] at y9
      obtain ⟨t, ht⟩ : ∃ t, x.T p = t := ⟨_, rfl⟩
      obtain ⟨t', ht'⟩ : ∃ t', y.T q = t' := ⟨_, rfl⟩
      rw [ht] at ha2
      rw [ht'] at hb2
      have HT := Lib.hid ht; have HT' := Lib.hid ht'
      have HX := Lib.hid hX
      have HI5 := Lib.hid hI5; have HP5 := Lib.hid hP5; have HB5 := Lib.hid hb5; have HB05 := Lib.hid hB05; have HW5 := Lib.hid hW5; have HH := Lib.hid hh; have HZ5 := Lib.hid hz5
      have HPX := Lib.hid hpx; have HQY := Lib.hid hqy
      have p0' : (0 : Int) ≤ (p : Int) := by omega
      have p1' : (p : Int) < (x.n2 : Int) := by omega
      have q0'' : (0 : Int) ≤ (q : Int) := by omega
      have q1'' : (q : Int) < (y.n2 : Int) := by omega
      have HFEW := Lib.hid hfew
      have HBS5 : Hid (base ≤ W5.heap.size) := Lib.hid (by omega)
      clear hm hrest hX hI5 hP5 hb5 hB05 hW5 hz5 ra rb ea eb ea2 eb2 ha1 hb1 ht ht' hfew hX3 HI hpx hqy hbh hzr HPr hlen
      go_upto_region 7 with (fail)
      rw [HW5.out]
      clear hh c0 c1 y11
      obtain ⟨bt, hbt⟩ : ∃ bt, (t != t') = bt := ⟨_, rfl⟩
      go_cut [71] from 53 to 71 (fun bv wx => bv = .bool bt ∧ Hid (Below W5.heap.size W5 wx))
      case first =>
        cases t <;> cases t' <;> (subst hbt; go_quiet (fail); go_wp2_with fail; go_meet; exact ⟨rfl, Lib.hid (below_drewN nq (Below.refl _ _))⟩)
      case rest =>
      obtain ⟨rfl, HB6⟩ := hcut
      obtain ⟨W6, hW6⟩ : ∃ W6, W6 = wc := ⟨_, rfl⟩
      subst hW6
      have hb6 := HB6.out
      have HI6 := Lib.hid (HI5.out.below hb6)
      have HP6 := Lib.hid (HP5.out.below hb6)
      have HB06 : Hid (Below base w0 W6) := Lib.hid (HB05.out.trans (hb6.mono HBS5.out))
      have HKW6 : Hid (kpX X2 wr W6) := Lib.hid ((kpX.of_below (HH.out.symm ▸ HB5.out)).trans (kpX.of_below hb6))
      have HBS6 : Hid (base ≤ W6.heap.size) := Lib.hid (Nat.le_trans HBS5.out hb6.size)
      have HSY6 : Hid (syR R W6 bs os) := Lib.hid (HSYr.out.kpt HKW6.out (Nat.lt_of_lt_of_le HSL4.out HK.out.size) HXX2.out.2.2)
      have HSL6 : Hid (bs < W6.heap.size) := Lib.hid (Nat.lt_of_lt_of_le (Nat.lt_of_lt_of_le HSL4.out HK.out.size) HKW6.out.size)
      have HR6 : Hid (isPr W6 R0 0 0) := Lib.hid ((HP4.out.kpt HK.out HXX2.out.2.1).kpt HKW6.out HXX2.out.2.1)
      clear hb6 HB6 y0 y1 y2 y3 y4 y5 y6 y7 y8 y9 z0 z1 ha2 hb2 HI5 HP5 HB5 HB05 HW5 HSYr hrl HH HZ5
      cases bt with
      | false =>
        obtain rfl : t = t' := by revert hbt; cases t <;> cases t' <;> simp
        clear hbt p0' p1' q0'' q1''
        go_wp2_with fail
        have HAGk : Hid (agZ x y l (k + 1)) := Lib.hid fun j p' q' v hj e => by
          by_cases g : j = k
          · subst g
            have := HX.out
            rw [this] at e
            cases e
            rw [HT.out, HT'.out]
          · exact HAG.out j p' q' v (by omega) e
        clear HAG
        obtain ⟨wo, hwo⟩ : ∃ wo, wo = wr := ⟨_, rfl⟩
        subst hwo
        obtain ⟨E, hE⟩ : ∃ E, W6.heap.size = E := ⟨_, rfl⟩
        have HEE := Lib.hid hE
        have kn0 : (0 : Int) ≤ (KN : Int) := by omega
        have kn1 : (KN : Int) ≤ 259 := by have := cntT_le (isH R) 259; have := HKN.out; omega
        have HPa := Lib.hid HP6.out
        have HCN0 : Hid (cntT (isH R) 0 = 0) := Lib.hid rfl
        clear hE
        go_wp2_with fail
        go_loopw [75] (fun iv wr => ∃ (i c0 : Nat) (l' : Mt14) (H' : Nat → Nat), iv = .int .i64 (i : Int) ∧ i ≤ KN ∧ Hid (c0 ≤ 259) ∧ Hid (cntT (isH R) c0 = i) ∧ Hid (okZ x y l' k c0) ∧ Hid (l'[k]? = some ((p, q), u)) ∧ Hid (srI X3 wr base S A x B y mb g c l' H') ∧ Hid (agZ x y l' (k + 1)) ∧ Hid (kpX X3 W6 wr)) (fun iv _ => KN - (intOf iv).toNat)
        case atStart => exact ⟨0, 0, l, H, rfl, Nat.zero_le _, Lib.hid (by omega), HCN0, HOK, HX, HI6, HAGk, Lib.hid (kpX.refl _ _)⟩
        case round =>
          clear HOK HX HI6 HAGk HCN0 HLE HLEN HFEW
          obtain ⟨i, c0, l', H', rfl, hi, HC0, HCN, HOK, HX, HI, HAG, HK3⟩ := hrel
          have hP := HP6.out.kpt HK3.out HXX3.out.2
          have hB0 : Below base w0 wr := HB06.out.trans (HK3.out.below (by have := HB06.out.size; have := HBS6.out; omega) fun z hz => HXX3.out.1 _ (HXX2.out.1 _ (HXB.out z hz)))
          have hsy : syR R wr bs os := HSY6.out.kpt HK3.out HSL6.out (HXX3.out.1 _ HXX2.out.2.2)
          have i0 : (0 : Int) ≤ (i : Int) := by omega
          by_cases hlti : i < KN
          · have i1 : (i : Int) < (KN : Int) := by omega
            obtain ⟨s, hs1, hs2, hs3, hsc⟩ := hsy i (by rw [HKN.out]; exact hlti)
            have HS1 := Lib.hid hs1
            have HOKs : Hid (okZ x y l' k s) := Lib.hid (okZ_till HX.out HOK.out (by omega) (cnt_le (T := isH R) hs2 (by rw [HCN.out, hs3])) (by rw [HR.out, HCN.out, hs3]))
            have HCNs : Hid (cntT (isH R) (s + 1) = i + 1) := Lib.hid (by rw [cntT_succ, if_pos hs2, hs3])
            obtain ⟨ga, hga⟩ : ∃ ga, goD x p s = ga := ⟨_, rfl⟩
            obtain ⟨gb, hgb⟩ : ∃ gb, goD y q s = gb := ⟨_, rfl⟩
            have hgal : ga < x.n2 := hga ▸ (goD_at HRX.out HPX.out hs1).2.2
            have hgbl : gb < y.n2 := hgb ▸ (goD_at HRY.out HQY.out hs1).2.2
            have HGO : Hid (go14 x y s (p, q) = (ga, gb)) := Lib.hid (by unfold go14; rw [hga, hgb])
            have HYa : Hid (∀ w', Below wr.heap.size wr w' → Calls Try.prog 38 #[.agg #[.slice A.q0 x.n0 A.c0, .int .i64 x.wd, .int .i64 x.st, .slice A.q1 x.n1 A.c1, .slice A.q2 x.n2 A.c2], .int .i64 (p : Int), .int .i64 (s : Int)] w' fun e w'' => e = .returned (.int .i64 (ga : Int)) ∧ Below w'.heap.size w' w'') := Lib.hid fun w' hw' => by
              have := by14 (A.val x) x p s w' HSX.out HRX.out HPX.out hs1 (HDA.out w' (hB0.trans (hw'.mono (Nat.le_trans HBS6.out HK3.out.size)))).1
              rw [hga] at this
              exact this
            have HYb : Hid (∀ w', Below wr.heap.size wr w' → Calls Try.prog 38 #[.agg #[.slice B.q0 y.n0 B.c0, .int .i64 y.wd, .int .i64 y.st, .slice B.q1 y.n1 B.c1, .slice B.q2 y.n2 B.c2], .int .i64 (q : Int), .int .i64 (s : Int)] w' fun e w'' => e = .returned (.int .i64 (gb : Int)) ∧ Below w'.heap.size w' w'') := Lib.hid fun w' hw' => by
              have := by14 (B.val y) y q s w' HSY.out HRY.out HQY.out hs1 (HDA.out w' (hB0.trans (hw'.mono (Nat.le_trans HBS6.out HK3.out.size)))).2
              rw [hgb] at this
              exact this
            have hfew := okZ_few HRX.out HRY.out HOK.out
            rw [HMM.out] at hfew
            have hkl' := lt_some HX.out
            have HPU : Hid (∀ w', Below wr.heap.size wr w' → Calls Try.prog 37 #[.pointer (some ⟨S, 0, none⟩), .agg #[.int .i64 (ga : Int), .int .i64 (gb : Int)], .agg #[.int .i64 (p : Int), .int .i64 (q : Int), .int .i64 (s : Int)]] w' fun e w'' => e = .returned (.tuple #[]) ∧ srI X3 w'' base S A x B y mb g c (puZ x.n2 H' l' (ga, gb) (u ++ [s])) (joH H' ga (x.n2 + gb)) ∧ kpX X3 w' w'') := Lib.hid fun w' hw' =>
              eput14 X3 base S A x B y mb g c l' H' ga gb (u ++ [s]) p q s w' (HI.out.below hw') HSX.out.2.2 HSY.out.2.2 hgal hgbl (by omega) (.inr ⟨(p, q), u, s, rfl, List.mem_of_getElem? HX.out, rfl, rfl, rfl⟩)
            have HOKn : Hid (okZ x y (puZ x.n2 H' l' (ga, gb) (u ++ [s])) k (s + 1)) := Lib.hid (by
              obtain ⟨mv', K', d', D', -, -, hki, -⟩ := HI.out
              have := okZ_put (n := x.n2 + y.n2) HOKs.out hki hs1 HX.out (by rw [HGO.out]; show ga < _; omega) (by rw [HGO.out]; show x.n2 + gb < _; omega)
              rw [HGO.out] at this
              exact this)
            have HXn : Hid ((puZ x.n2 H' l' (ga, gb) (u ++ [s]))[k]? = some ((p, q), u)) := Lib.hid (puZ_old HX.out)
            have HAGn : Hid (agZ x y (puZ x.n2 H' l' (ga, gb) (u ++ [s])) (k + 1)) := Lib.hid (agZ_put HAG.out hkl')
            have HKC : Hid (∀ w', (Below wr.heap.size wr w' ∨ (kpX X3 wr w' ∧ srI X3 w' base S A x B y mb g c (puZ x.n2 H' l' (ga, gb) (u ++ [s])) (joH H' ga (x.n2 + gb)))) → w'.cell? ⟨S, 0, none⟩ = some (.slice A.q0 x.n0 A.c0) ∧ w'.cell? ⟨S, 1, none⟩ = some (.int .i64 x.wd) ∧ w'.cell? ⟨S, 2, none⟩ = some (.int .i64 x.st) ∧ w'.cell? ⟨S, 3, none⟩ = some (.slice A.q1 x.n1 A.c1) ∧ w'.cell? ⟨S, 4, none⟩ = some (.slice A.q2 x.n2 A.c2) ∧ w'.cell? ⟨S, 5, none⟩ = some (.slice B.q0 y.n0 B.c0) ∧ w'.cell? ⟨S, 6, none⟩ = some (.int .i64 y.wd) ∧ w'.cell? ⟨S, 7, none⟩ = some (.int .i64 y.st) ∧ w'.cell? ⟨S, 8, none⟩ = some (.slice B.q1 y.n1 B.c1) ∧ w'.cell? ⟨S, 9, none⟩ = some (.slice B.q2 y.n2 B.c2) ∧ w'.cell? ⟨h, 0, none⟩ = some (.int .i64 (p : Int)) ∧ w'.cell? ⟨h, 1, none⟩ = some (.int .i64 (q : Int))) := Lib.hid fun w' hw' => by
              rcases hw' with hw' | ⟨h1, h2⟩
              · obtain ⟨t0, t1, t2, t3, t4, t5, t6, t7, t8, t9⟩ := (HI.out.below hw').ten
                obtain ⟨t10, t11⟩ := (hP.below hw').cells
                exact ⟨t0, t1, t2, t3, t4, t5, t6, t7, t8, t9, t10, t11⟩
              · obtain ⟨t0, t1, t2, t3, t4, t5, t6, t7, t8, t9⟩ := h2.ten
                obtain ⟨t10, t11⟩ := (hP.kpt h1 HXX3.out.2).cells
                exact ⟨t0, t1, t2, t3, t4, t5, t6, t7, t8, t9, t10, t11⟩
            clear hs1 hs2 hs3 hga hgb hgal hgbl hfew hkl' HOK HX HI HAG HOKs HC0 HCN hsy hB0 hP
            go_upto_region 12 with (fail)
            have hB : Below wr.heap.size wr wr.drew := (Below.refl _ _).drew
            go_region_held_law (fun w' => w'.cell? ⟨S, 0, none⟩ = some (.slice A.q0 x.n0 A.c0) ∧ w'.cell? ⟨S, 1, none⟩ = some (.int .i64 x.wd) ∧ w'.cell? ⟨S, 2, none⟩ = some (.int .i64 x.st) ∧ w'.cell? ⟨S, 3, none⟩ = some (.slice A.q1 x.n1 A.c1) ∧ w'.cell? ⟨S, 4, none⟩ = some (.slice A.q2 x.n2 A.c2) ∧ w'.cell? ⟨S, 5, none⟩ = some (.slice B.q0 y.n0 B.c0) ∧ w'.cell? ⟨S, 6, none⟩ = some (.int .i64 y.wd) ∧ w'.cell? ⟨S, 7, none⟩ = some (.int .i64 y.st) ∧ w'.cell? ⟨S, 8, none⟩ = some (.slice B.q1 y.n1 B.c1) ∧ w'.cell? ⟨S, 9, none⟩ = some (.slice B.q2 y.n2 B.c2) ∧ w'.cell? ⟨h, 0, none⟩ = some (.int .i64 (p : Int)) ∧ w'.cell? ⟨h, 1, none⟩ = some (.int .i64 (q : Int)))
              (first | exact HKC.out _ (.inl hB) | exact HKC.out _ (.inl (Below.refl _ _)) | exact HKC.out _ (.inr ⟨hkq, hiq⟩))
              (first
                | (with_reducible refine (HYa.out _ hB).mono ?_; rintro e wa ⟨rfl, hba⟩; replace hB := hB.trans (hba.mono hB.size); clear hba)
                | (with_reducible refine (HYb.out _ hB).mono ?_; rintro e wb ⟨rfl, hbb⟩; replace hB := hB.trans (hbb.mono hB.size); clear hbb)
                | (with_reducible refine (HPU.out _ hB).mono ?_; rintro e wq ⟨rfl, hiq, hkq'⟩; have hkq := (kpX.of_below (X := X3) hB).trans hkq'))
            all_goals
              have HIQ := Lib.hid hiq
              have HKQ : Hid (kpX X3 W6 wq) := Lib.hid (HK3.out.trans hkq)
              clear hiq hkq hkq' hB HKC HPU HYa HYb HK3
              go_wp2_with fail
              go_roundw
              case rel => exact ⟨i + 1, s + 1, _, _, by go_num, by omega, Lib.hid (by have := HS1.out; omega), HCNs, HOKn, HXn, HIQ, HAGn, HKQ⟩
              case measure => simp [intOf]; omega
          · obtain rfl : i = KN := by omega
            have HOKe : Hid (okZ x y l' (k + 1) 0) := Lib.hid (okZ_next (okZ_till HX.out HOK.out (Nat.le_refl _) HC0.out (by rw [HR.out, HCN.out, HKN.out])))
            have HLEe : Hid (k + 1 ≤ l'.length) := Lib.hid (lt_some HX.out)
            have HIe := Lib.hid (HI.out.sub HXX3.out.1)
            have HKe : Hid (kpX X2 w4 wr) := Lib.hid ((HK.out.trans HKW6.out).trans (HK3.out.sub HXX3.out.1))
            have hfew := okZ_few HRX.out HRY.out HOKe.out
            rw [HMM.out] at hfew
            have hlee := HLEe.out
            clear HOK HX HI HK3 HC0 HCN hsy hB0 hP
            go_wp2_with fail
            go_roundw
            case rel => exact ⟨k + 1, l', H', by go_num, HLEe, HIe, HOKe, HAG, HKe⟩
            case measure => simp [intOf]; omega
      | true =>
        have HAP : Hid (apW x y u) := Lib.hid (apZ_found HRX.out HRY.out HOK.out HX.out (by rw [HT.out, HT'.out]; revert hbt; cases t <;> cases t' <;> simp) HAG.out)
        have HME := Lib.hid (List.mem_of_getElem? HX.out)
        have HUL : Hid (u.length ≤ x.n2 * y.n2) := Lib.hid (by
          obtain ⟨mv', K', d', D', -, -, -, hdm, -⟩ := HI6.out
          have := okZ_len HOK.out hdm u k _ HX.out
          have := HFEW.out
          have := HLEN.out
          rw [HMM.out]
          omega)
        obtain ⟨z0, z1⟩ := HP6.out.cells
        obtain ⟨v0, v1⟩ := HR6.out.cells
        have f0 := HR6.out.free 0
        have f1 := HR6.out.free 1
        have hg1 := grown_setCell W6 R0 0 (.int .i64 (p : Int))
        have hg2 := grown_setCell (W6.setCell ⟨R0, 0, none⟩ (.int .i64 (p : Int))) R0 1 (.int .i64 (q : Int))
        have HFI : Hid (srI X ((W6.setCell ⟨R0, 0, none⟩ (.int .i64 (p : Int))).setCell ⟨R0, 1, none⟩ (.int .i64 (q : Int))) base S A x B y mb g c l H) := Lib.hid (((HI6.out.side hg1 (HXX3.out.1 _ HXX2.out.2.1)).side hg2 (HXX3.out.1 _ HXX2.out.2.1)).sub fun k hk => HXX3.out.1 _ (HXX2.out.1 k hk))
        have HKF : Hid (kpX X w ((W6.setCell ⟨R0, 0, none⟩ (.int .i64 (p : Int))).setCell ⟨R0, 1, none⟩ (.int .i64 (q : Int)))) := Lib.hid (((HKWr.out.trans (HKW6.out.sub fun k hk => HXX2.out.1 k hk)).trans (kpX.of_grown hg1 fun k e => by cases e; exact HXN.out)).trans (kpX.of_grown hg2 fun k e => by cases e; exact HXN.out))
        obtain ⟨r0, r1⟩ := (HR6.out.put (p : Int) (q : Int)).cells
        have HRR := Lib.hid (And.intro r0 r1)
        clear hg1 hg2 r0 r1 p0' p1' q0'' q1''
        go_wp2_with fail
        refine bodyPost_ret (v := .tuple #[.agg #[.int .i64 (p : Int), .int .i64 (q : Int)], .bool true]) (by simp [results, Try.results20, go_sem, HRR.out]) rfl ⟨l, H, HFI.out, HKF.out, .inl ⟨p, q, u, rfl, HME.out, HAP.out, HUL.out⟩⟩
    · obtain rfl : k = len := by omega
      have HNO : Hid (∀ v, ¬ dfW x y v) := Lib.hid (apZ_none HRX.out HRY.out HOK.out (by rw [HLEN.out]; exact Nat.le_refl _) HAG.out)
      rw [hlen] at y11
      obtain ⟨v0, v1⟩ := HPr.out.cells
      have f0 := HPr.out.free 0
      have f1 := HPr.out.free 1
      have hg1 := grown_setCell wr R0 0 (.int .i64 0)
      have hg2 := grown_setCell (wr.setCell ⟨R0, 0, none⟩ (.int .i64 0)) R0 1 (.int .i64 0)
      have HFI : Hid (srI X ((wr.setCell ⟨R0, 0, none⟩ (.int .i64 0)).setCell ⟨R0, 1, none⟩ (.int .i64 0)) base S A x B y mb g c l H) := Lib.hid (((HI.out.side hg1 HXX2.out.2.1).side hg2 HXX2.out.2.1).sub fun k hk => HXX2.out.1 k hk)
      have HKF : Hid (kpX X w ((wr.setCell ⟨R0, 0, none⟩ (.int .i64 0)).setCell ⟨R0, 1, none⟩ (.int .i64 0))) := Lib.hid ((HKWr.out.trans (kpX.of_grown hg1 fun k e => by cases e; exact HXN.out)).trans (kpX.of_grown hg2 fun k e => by cases e; exact HXN.out))
      obtain ⟨r0, r1⟩ := (HPr.out.put 0 0).cells
      have HRR := Lib.hid (And.intro r0 r1)
      have hd : decide ((k : Int) < (k : Int)) = false := by simp
      clear hg1 hg2 r0 r1 hm hrest hkl hfew hlt
      go_wp2_with fail
      refine bodyPost_ret (v := .tuple #[.agg #[.int .i64 0, .int .i64 0], .bool false]) (by simp [results, Try.results20, go_sem, HRR.out]) rfl ⟨l, H, HFI.out, HKF.out, .inr ⟨rfl, HNO.out⟩⟩
end Go.Proofs.Ytefpoapbodbenaa
