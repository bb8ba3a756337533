/-
  Ways in memory: a row of structs of two ints and a slice, that a call owns, its words too. The struct's type is open.
  The walk of search's word: the symbols that lead to a pair that was met.
-/
import Derived.Test.YtefpoapbodbenaaPk24
import Derived.Test.YtefpoapbodbenaaPk9
import Derived.Test.YtefpoapbodbenaaPk28
import Derived.Test.YtefpoapbodbenaaPk29
namespace Go.Proofs.Ytefpoapbodbenaa
open Go.RowKit

structure Wv14 where
  a : Int
  b : Int
  p : Option Addr
  n : Nat
  c : Nat
def Wv14.word (x : Wv14) : Value := .slice x.p x.n x.c
def wvC : List Wv14 → List Value
  | [] => []
  | x :: G => .int .i64 x.a :: .int .i64 x.b :: x.word :: wvC G
theorem wvC_app : ∀ (G : List Wv14) (x : Wv14), wvC (G ++ [x]) = wvC G ++ [.int .i64 x.a, .int .i64 x.b, x.word]
  | [], _ => rfl
  | y :: G, x => by
    show _ :: _ :: _ :: wvC (G ++ [x]) = _ :: _ :: _ :: (wvC G ++ _)
    rw [wvC_app G x]
theorem wvC_at : ∀ (G : List Wv14) (i : Nat) (h : i < G.length), (wvC G)[i * 3]? = some (.int .i64 (G[i]).a) ∧ (wvC G)[i * 3 + 1]? = some (.int .i64 (G[i]).b) ∧ (wvC G)[i * 3 + 2]? = some (G[i]).word
  | [], _, h => absurd h (Nat.not_lt_zero _)
  | x :: G, 0, _ => ⟨rfl, rfl, rfl⟩
  | x :: G, i + 1, h => by
    obtain ⟨h1, h2, h3⟩ := wvC_at G i (Nat.lt_of_succ_lt_succ h)
    rw [show (i + 1) * 3 = i * 3 + 1 + 1 + 1 by omega]
    exact ⟨h1, h2, h3⟩
def wdF (u : List Nat) (j : Nat) : Int := (u.getD j 0 : Nat)
/-- A way in memory. -/
def okWv (w : World) (base : Nat) (x : Wv14) (X : (Nat × Nat) × List Nat) : Prop := x.a = (X.1.1 : Nat) ∧ x.b = (X.1.2 : Nat) ∧ spF w base x.word (wdF X.2) X.2.length
theorem okWv.below {w w' : World} {base : Nat} {x : Wv14} {X : (Nat × Nat) × List Nat} (h : okWv w base x X) (hb : Below w.heap.size w w') : okWv w' base x X := ⟨h.1, h.2.1, h.2.2.below hb⟩
theorem okWv.len {w : World} {base : Nat} {x : Wv14} {X : (Nat × Nat) × List Nat} (h : okWv w base x X) : x.n = X.2.length := by
  obtain ⟨p, c, e⟩ := spF_of h.2.2
  exact (Value.slice.inj e).2.1
/-- The ways in memory. -/
structure WyR (w : World) (base : Nat) (e : TypeId) (sv : Value) (G : List Wv14) (l : Wy (Nat × Nat)) : Prop where
  row : w.ownsRow base e 3 sv G.length (wvC G)
  len : G.length = l.length
  oks : ∀ (i : Nat) (x : Wv14) (X : (Nat × Nat) × List Nat), G[i]? = some x → l[i]? = some X → okWv w base x X
  ap : ∀ x, x ∈ G → x.word.ownBlock = none ∨ x.word.ownBlock ≠ sv.ownBlock
section
variable {w w' : World} {base : Nat} {e : TypeId} {sv : Value} {G : List Wv14} {l : Wy (Nat × Nat)}
theorem WyR.below (H : WyR w base e sv G l) (hb : Below w.heap.size w w') : WyR w' base e sv G l :=
  ⟨owns_below H.row hb, H.len, fun i x X h1 h2 => (H.oks i x X h1 h2).below hb, H.ap⟩
theorem WyR.slice (H : WyR w base e sv G l) : ∃ p c, sv = .slice p l.length c := by
  rw [← H.len]
  rcases id H.row.2 with ⟨rfl, h0⟩ | ⟨g, cap, cur, rfl, _⟩
  · exact ⟨none, 0, by rw [h0]⟩
  · exact ⟨_, cap, rfl⟩
/-- Its cells. -/
theorem WyR.cell {p : Option Addr} {n c : Nat} (H : WyR w base e (.slice p n c) G l) (i : Nat) (hi : i < l.length) : ∃ g u, p = some ⟨g, 0, none⟩ ∧ base ≤ g ∧ g < w.heap.size ∧ n = l.length ∧
    w.cell? ⟨g, i * 3, none⟩ = some (.int .i64 ((l[i]).1.1 : Nat)) ∧ w.cell? ⟨g, i * 3 + 1, none⟩ = some (.int .i64 ((l[i]).1.2 : Nat)) ∧ w.cell? ⟨g, i * 3 + 2, none⟩ = some u ∧ spF w base u (wdF (l[i]).2) (l[i]).2.length := by
  have hG := H.len
  have hiG : i < G.length := by omega
  rcases id H.row.2 with ⟨_, h0⟩ | ⟨g, cap, cur, h1, _⟩
  · omega
  · have e1 := (Value.slice.inj h1).1
    have e2 := (Value.slice.inj h1).2.1
    subst e1
    have hr := H.row
    rw [h1] at hr
    have hlt := World.ownsRow.lt hr g rfl
    obtain ⟨k1, k2, k3⟩ := wvC_at G i hiG
    obtain ⟨o1, o2, o3⟩ := H.oks i _ _ (List.getElem?_eq_getElem hiG) (List.getElem?_eq_getElem hi)
    refine ⟨g, (G[i]).word, rfl, hlt.1, hlt.2, by rw [e2, hG], ?_, ?_, ?_, o3⟩
    · rw [World.ownsRow.cellAt hr _ (by omega), k1, o1]
    · rw [World.ownsRow.cellAt hr _ (by omega), k2, o2]
    · rw [World.ownsRow.cellAt hr _ (by omega), k3]
/-- The first one. -/
theorem WyR.one {w1 : World} {p q : Nat} (h : w1.ownsRow base e 3 sv 1 [.int .i64 (p : Nat), .int .i64 (q : Nat), .slice none 0 0]) : WyR w1 base e sv [⟨(p : Nat), (q : Nat), none, 0, 0⟩] [((p, q), [])] where
  row := h
  len := rfl
  oks := fun i x X h1 h2 => by
    cases i with
    | zero =>
      cases h1; cases h2
      exact ⟨rfl, rfl, spF_zero _ _ _⟩
    | succ i => cases h1
  ap := fun x hx => by
    have : x = ⟨(p : Nat), (q : Nat), none, 0, 0⟩ := by simpa using hx
    subst this
    exact .inl rfl
/-- One more: the row grows, or is laid anew. -/
theorem WyR.app (H : WyR w base e sv G l) {v' : Value} {x : Wv14} {X : (Nat × Nat) × List Nat} (hg : w.grownBy w' sv.ownBlock) (hrow : w'.ownsRow base e 3 v' (G.length + 1) (wvC G ++ [.int .i64 x.a, .int .i64 x.b, x.word])) (hv : v'.ownBlock = sv.ownBlock ∨ v'.ownBlock = some w.heap.size)
    (hx : okWv w base x X) (hap : x.word.ownBlock = none ∨ x.word.ownBlock ≠ sv.ownBlock) : WyR w' base e v' (G ++ [x]) (l ++ [X]) := by
  have key : ∀ (y : Wv14) (Y : (Nat × Nat) × List Nat), okWv w base y Y → (y.word.ownBlock = none ∨ y.word.ownBlock ≠ sv.ownBlock) → okWv w' base y Y ∧ (y.word.ownBlock = none ∨ y.word.ownBlock ≠ v'.ownBlock) := fun y Y hy ha => by
    refine ⟨⟨hy.1, hy.2.1, World.ownsRow.kept hy.2.2 hg ha⟩, ?_⟩
    rcases ha with h1 | h1
    · exact .inl h1
    · cases hb : y.word.ownBlock with
      | none => exact .inl rfl
      | some b =>
        right
        rcases hv with h2 | h2
        · rw [h2, ← hb]; exact h1
        · rw [h2]
          intro h3
          have := (World.ownsRow.lt hy.2.2 b hb).2
          have h4 : b = w.heap.size := by simpa using h3
          omega
  have hlen := H.len
  refine ⟨by rw [List.length_append, wvC_app]; exact hrow, by simp [hlen], fun i y Y h1 h2 => ?_, fun y hy => ?_⟩
  · rcases Nat.lt_or_ge i G.length with g | g
    · rw [List.getElem?_append_left g] at h1
      rw [List.getElem?_append_left (by omega)] at h2
      exact (key y Y (H.oks i y Y h1 h2) (H.ap y (List.mem_of_getElem? h1))).1
    · rw [List.getElem?_append_right g] at h1
      rw [List.getElem?_append_right (by omega)] at h2
      have h0 : i - G.length = 0 := by
        rcases Nat.eq_zero_or_pos (i - G.length) with q | q
        · exact q
        · rw [List.getElem?_eq_none (by simp; omega)] at h1; cases h1
      rw [← hlen, h0] at h2
      rw [h0] at h1
      cases h1; cases h2
      exact (key x X hx hap).1
  · rcases List.mem_append.1 hy with g | g
    · obtain ⟨i, hi, rfl⟩ := List.getElem_of_mem g
      exact (key _ _ (H.oks i _ _ (List.getElem?_eq_getElem hi) (List.getElem?_eq_getElem (by omega))) (H.ap _ (List.getElem_mem hi))).2
    · have : y = x := by simpa using g
      subst this
      exact (key y X hx hap).2
end
end Go.Proofs.Ytefpoapbodbenaa

namespace Go.Proofs.Ytefpoapbodbenaa
open Go.RowKit Go.Sort

/-- The library's Reverse at a row that the call owns. -/
theorem rev14 (base : Nat) (p : Option Addr) (c : Nat) (l : List Nat) (hl : l.length ≤ 1000000) (w : World) (h : spO w base (.slice p l.length c) l) :
    Calls Try.prog 39 #[.slice p l.length c] w fun e w' => e = .returned (.tuple #[]) ∧ rdL w' p l.length (wdF l.reverse) ∧ Below base w w' := by
  rcases id h.2 with ⟨h1, h2⟩ | ⟨g, cap, cur, h1, hb, hg, -⟩
  · rw [h2]
    refine (AnyE.slices_Reverse_empty lays8I p c w).mono ?_
    rintro e w' ⟨rfl, rfl⟩
    exact ⟨rfl, fun j hj => absurd hj (Nat.not_lt_zero _), Below.refl _ _⟩
  · obtain ⟨e1, e2, e3⟩ := Value.slice.inj h1
    subst e1
    have hH : Sort.Holds (fun z : Nat => Value.int .i64 (z : Int)) w g 0 l.toArray := fun j hj => by
      have hj' : j < l.length := by simpa using hj
      rw [Nat.zero_add]
      refine ⟨?_, World.ownsRow.frozenAt h j⟩
      rw [World.ownsRow.cellAt h j (by omega)]
      unfold spl9
      rw [List.getElem?_map, List.getElem?_eq_getElem hj']
      simp [getElem!_pos l.toArray j hj]
    have hc := AnyE.slices_Reverse lays8I (fun z : Nat => Value.int .i64 (z : Int)) (fun _ => rfl) g 0 c l w hH (by omega)
    refine hc.mono ?_
    rintro e w' ⟨rfl, n, rfl⟩
    refine ⟨rfl, fun j hj => ?_, putRow_below _ _ _ _ _ _ _ hb⟩
    have hj2 : j < l.reverse.toArray.size := by simpa using hj
    have := Sort.cell?_putRow (fun z : Nat => Value.int .i64 (z : Int)) (Sort.ahead w n) g 0 l.toArray l.reverse.toArray (Sort.holds_ahead _ w n _ _ _ hH) (by simp) j hj2
    refine ⟨g, 0, rfl, ?_, ?_⟩
    · rw [size_putRow]
      exact (World.ownsRow.lt h g rfl).2
    · rw [this]
      congr 2
      unfold wdF
      rw [getElem!_pos l.reverse.toArray j hj2, List.getD_eq_getElem?_getD, List.getElem?_eq_getElem (by simpa using hj2)]
      simp
/-- A step in a block. -/
def isSp (w : World) (h : Nat) (a b c : Int) : Prop := w.heap[h]? = some (.cells #[.int .i64 a, .int .i64 b, .int .i64 c] 76 (0, 0))
theorem isSp.lt {w : World} {h : Nat} {a b c : Int} (H : isSp w h a b c) : h < w.heap.size := lt_of_block H
theorem isSp.cells {w : World} {h : Nat} {a b c : Int} (H : isSp w h a b c) : w.cell? ⟨h, 0, none⟩ = some (.int .i64 a) ∧ w.cell? ⟨h, 1, none⟩ = some (.int .i64 b) ∧ w.cell? ⟨h, 2, none⟩ = some (.int .i64 c) := by
  unfold isSp at H
  exact ⟨by simp [World.cell?, H], by simp [World.cell?, H], by simp [World.cell?, H]⟩
theorem isSp.free {w : World} {h : Nat} {a b c : Int} (H : isSp w h a b c) (j : Nat) : w.frozen? ⟨h, j, none⟩ = false := by
  unfold isSp at H
  simp [World.frozen?, H]
theorem isSp.below {w w' : World} {h : Nat} {a b c : Int} (H : isSp w h a b c) (hb : Below w.heap.size w w') : isSp w' h a b c := (hb.block h H.lt).trans H
theorem isSp.put {w : World} {h : Nat} {a b c : Int} (H : isSp w h a b c) (a' b' c' : Int) : isSp (((w.setCell ⟨h, 0, none⟩ (.int .i64 a')).setCell ⟨h, 1, none⟩ (.int .i64 b')).setCell ⟨h, 2, none⟩ (.int .i64 c')) h a' b' c' := by
  have h1 := heap_setCell_same w h 0 _ _ (.int .i64 a') H
  have h2 := heap_setCell_same _ h 1 _ _ (.int .i64 b') h1
  have h3 := heap_setCell_same _ h 2 _ _ (.int .i64 c') h2
  unfold isSp
  rw [h3]; simp
theorem isSp.far {w : World} {h E : Nat} {a b c : Int} {v : Value} {l : List Nat} (H : isSp w h a b c) (ho : spO w E v l) : v.ownBlock = none ∨ v.ownBlock ≠ some h := by
  rcases id ho.2 with ⟨rfl, _⟩ | ⟨g', cap, cur, rfl, _, e4, _⟩
  · exact .inl rfl
  · refine .inr fun e2 => ?_
    have e5 : g' = h := by simpa [Value.ownBlock] using e2
    subst e5
    unfold isSp at H
    rw [e4] at H
    revert H
    simp only [Option.some.injEq, Obj.cells.injEq]
    rintro ⟨-, e7, -⟩
    revert e7
    decide
/-- The map's step to a pair. -/
theorem look14 {w : World} {b k : Nat} {D : Dm} (hown : ownsS w b k D) {p q : Nat} (hp : p ≤ 1000) (hq : q ≤ 1000) : ∃ a' b' c' : Int, D.atKey (kpL p q) (spD 0 0 0) = spD a' b' c' ∧
    (Instr.lookup 42 (.map (some b)) (.agg #[.int .i64 (p : Int), .int .i64 (q : Int)]) false).run Try.prog w = .ok (.agg #[.int .i64 a', .int .i64 b', .int .i64 c']) w := by
  obtain ⟨v, ps, hrun, hv⟩ := hown.lookup eqpLaw Try.underlying42 (zeroS14 w) (stE_mk 0 0 0) (ep_key (wfN hp) (wfN hq))
  obtain ⟨a, b, c, rfl, hz⟩ := stE_inv hv
  exact ⟨a, b, c, congrArg Prod.fst hz, hrun⟩
def sln14 : Value → Nat
  | .slice _ n _ => n
  | _ => 0

set_option maxRecDepth 100000 in
set_option maxHeartbeats 8000000 in
theorem word14 (X : Nat → Prop) (base S : Nat) (A : Dq14) (x : Da) (B : Dq14) (y : Da) (mb g c : Nat) (l : Mt14) (H : Nat → Nat) (p q : Nat) (u : List Nat) (w : World)
    (HI : srI X w base S A x B y mb g c l H) (hm : ((p, q), u) ∈ l) (hul : u.length ≤ 1000000) :
    Calls Try.prog 21 #[.pointer (some ⟨S, 0, none⟩), prV p q] w fun e w' => ∃ pt cc, e = .returned (.slice pt u.length cc) ∧ rdL w' pt u.length (wdF u) ∧ u.length ≤ cc ∧ Below w.heap.size w w' := by
  obtain ⟨mv, K, d, D, hM, -, -, hd, hs⟩ := HI
  obtain ⟨E, hE⟩ : ∃ E, w.heap.size = E := ⟨_, rfl⟩
  obtain ⟨W1, hW1⟩ : ∃ W1, w.alloc (.cells #[.int .i64 (p : Int), .int .i64 (q : Int)] 49) = W1 := ⟨_, rfl⟩
  have hb1 : Below E w W1 := hW1 ▸ hE ▸ (Below.refl _ _).alloc (Nat.le_refl _) _
  have hz1 : W1.heap.size = E + 1 := by rw [← hW1, World.size_alloc, hE]
  have hP1 : isPr W1 E p q := hW1 ▸ hE ▸ heap_alloc_new w _
  have hM1 := hM.below (hE.symm ▸ hb1)
  obtain ⟨hp, hq⟩ := hs (p, q) u hm
  obtain ⟨a0, b0, c0, hat, hlk⟩ := look14 (w := W1.drew) (hM1.below (Below.refl _ _).drew).mp hp hq
  have hbz : Below W1.heap.size W1 (W1.alloc (.cells #[.int .i64 0, .int .i64 0, .int .i64 0] 76)).drew := ((Below.refl _ _).alloc (Nat.le_refl _) _).drew
  obtain ⟨a0', b0', c0', hat', hlk'⟩ := look14 (w := (W1.alloc (.cells #[.int .i64 0, .int .i64 0, .int .i64 0] 76)).drew) (hM1.below hbz).mp hp hq
  obtain ⟨e1, e2, e3⟩ := spD_inj (hat.symm.trans hat')
  subst e1 e2 e3
  have HM := Lib.hid hM; have HD := Lib.hid hd; have HS := Lib.hid hs; have HAT := Lib.hid hat; have HME := Lib.hid hm
  have HB1 := Lib.hid hb1; have HW1 := Lib.hid hW1; have HZ1 := Lib.hid hz1
  have HKC : Hid (∀ w', Below W1.heap.size W1 w' → w'.cell? ⟨S, 10, none⟩ = some (.map (some mb)) ∧ w'.cell? ⟨E, 0, none⟩ = some (.int .i64 (p : Int)) ∧ w'.cell? ⟨E, 1, none⟩ = some (.int .i64 (q : Int))) := Lib.hid fun w' h => by
    obtain ⟨t0, t1⟩ := (hP1.below h).cells
    exact ⟨(hM1.below h).sr.cells.2.2.2.2.2.2.2.2.2.2.1, t0, t1⟩
  clear hM hd hs hm hb1 hW1 hP1 hM1 hp hq hat hat' hbz
  go_enter Try.func21, Try.ntmps21
  go_upto_region 2 with (fail)
  rw [HW1.out]
  have hE2 := Lib.hid hE
  clear hE
  go_cut [6] from 6 to 12 (fun sv wx => sv = .pointer (some ⟨E + 1, 0, none⟩) ∧ wx = (W1.alloc (.cells #[.int .i64 a0, .int .i64 b0, .int .i64 c0] 76)).drew)
  case first =>
    go_region_held_law (fun w' => w'.cell? ⟨S, 10, none⟩ = some (.map (some mb)) ∧ w'.cell? ⟨E, 0, none⟩ = some (.int .i64 (p : Int)) ∧ w'.cell? ⟨E, 1, none⟩ = some (.int .i64 (q : Int)))
      (first | exact HKC.out _ (Below.refl _ _) | exact HKC.out _ (Below.refl _ _).drew | exact HKC.out _ ((Below.refl _ _).alloc (Nat.le_refl _) _) | exact HKC.out _ ((Below.refl _ _).alloc (Nat.le_refl _) _).drew) (fail)
    all_goals (go_wp2_with fail; go_meet; exact ⟨rfl, rfl⟩)
  case rest =>
  obtain ⟨rfl, rfl⟩ := hcut
  obtain ⟨W2, hW2⟩ : ∃ W2, (W1.alloc (.cells #[.int .i64 a0, .int .i64 b0, .int .i64 c0] 76)).drew = W2 := ⟨_, rfl⟩
  have hb2 : Below W1.heap.size W1 W2 := hW2 ▸ ((Below.refl _ _).alloc (Nat.le_refl _) _).drew
  have hs2 : isSp W2 (E + 1) a0 b0 c0 := by rw [← hz1, ← hW2]; exact heap_alloc_new W1 _
  have HB2 : Hid (Below E w W2) := Lib.hid (HB1.out.trans (hb2.mono (by omega)))
  have HS2 := Lib.hid hs2
  have HO2 : Hid (spO W2 E (.slice none 0 0) ([] : List Nat).reverse) := Lib.hid ⟨rfl, .inl ⟨rfl, rfl⟩⟩
  have HEE : Hid (w.heap.size = E) := hE2
  have HU0 : Hid (u = u ++ []) := Lib.hid (List.append_nil u).symm
  rw [hW2]
  clear hW2 hb2 hs2 hlk hlk' HKC HW1 HB1 HZ1 hz1
  go_wp2_with fail
  go_loopw [5, 6] (fun wv sv wr => ∃ (h : Nat) (P : Nat × Nat) (v z : List Nat) (pt : Option Addr) (n cc : Nat) (a b cI : Int), wv = .slice pt n cc ∧ sv = .pointer (some ⟨h, 0, none⟩) ∧ Hid (isSp wr h a b cI) ∧ Hid (D.atKey (kpL P.1 P.2) (spD 0 0 0) = spD a b cI) ∧ Hid ((P, v) ∈ l) ∧ Hid (u = v ++ z) ∧ Hid (z.length = n) ∧ Hid (spO wr E (.slice pt n cc) z.reverse) ∧ Hid (Below E w wr)) (fun wv _ _ => u.length - sln14 wv)
  case atStart => exact ⟨E + 1, (p, q), u, [], none, 0, 0, a0, b0, c0, rfl, rfl, HS2, HAT, HME, HU0, Lib.hid rfl, HO2, HB2⟩
  case round =>
    clear HS2 HAT HME HU0 HO2 HB2
    obtain ⟨h, P, v, z, pt, n, cc, a, b, cI, rfl, rfl, HSP, HAT, HME, HUU, HZL, HO, HB⟩ := hrel
    have hMr := HM.out.below (HEE.out.symm ▸ HB.out)
    have y10 := hMr.sr.cells.2.2.2.2.2.2.2.2.2.2.1
    obtain ⟨s0, s1, s2⟩ := HSP.out.cells
    have hsl := HSP.out.lt
    rcases snoc_cases v with rfl | ⟨v', c', rfl⟩
    · obtain ⟨a', b', e⟩ := (HD.out P [] HME.out).1 rfl
      obtain ⟨rfl, rfl, rfl⟩ := spD_inj (HAT.out.symm.trans e)
      have huz : u = z := HUU.out
      subst huz
      have HO' : Hid (spO wr E (.slice pt u.reverse.length cc) u.reverse) := Lib.hid (by rw [List.length_reverse, HZL.out]; exact HO.out)
      have HCAP : Hid (n ≤ cc) := Lib.hid (by
        rcases id HO.out.2 with ⟨e1, e2⟩ | ⟨g', cap, cur, e1, _, _, e2, _⟩
        · have := (Value.slice.inj e1).2.1; omega
        · have h1 := (Value.slice.inj e1).2.1; have h2 := (Value.slice.inj e1).2.2; omega)
      have HRV := Lib.hid (rev14 E pt cc u.reverse (by rw [List.length_reverse]; exact hul) wr HO'.out)
      rw [List.length_reverse, HZL.out, List.reverse_reverse] at HRV
      clear HO HO' hMr
      go_wp2_with fail
      refine HRV.out.mono ?_
      rintro e w3 ⟨rfl, hr, hb3⟩
      have HF : Hid (∃ pt' cc', Value.slice pt n cc = .slice pt' u.length cc' ∧ rdL w3 pt' u.length (wdF u) ∧ u.length ≤ cc' ∧ Below w.heap.size w w3) := Lib.hid (by
        rw [HZL.out]
        exact ⟨pt, cc, rfl, hr, HCAP.out, HEE.out.symm ▸ HB.out.trans hb3⟩)
      clear hr hb3 HRV s0 s1 s2 y10
      go_wp2_with fail
      go_returns
      obtain ⟨pt', cc', e1, e2, e4, e3⟩ := HF.out
      exact ⟨pt', cc', by rw [← e1] <;> rfl, e2, e4, e3⟩
    · obtain ⟨Q, hQ, e⟩ := (HD.out P (v' ++ [c']) HME.out).2 v' c' rfl
      obtain ⟨rfl, rfl, rfl⟩ := spD_inj (HAT.out.symm.trans e)
      obtain ⟨hP1, hP2⟩ := HS.out Q v' hQ
      have b0 : ((c' : Int) != -1) = true := by simp
      have HME2 := Lib.hid hQ
      have HUU2 : Hid (u = v' ++ (c' :: z)) := Lib.hid (by rw [HUU.out, List.append_assoc]; rfl)
      have HZL2 : Hid ((c' :: z).length = n + 1) := Lib.hid (by rw [List.length_cons, HZL.out])
      have hnu : n < u.length := by rw [HUU2.out, List.length_append, HZL2.out]; omega
      have HNU := Lib.hid hnu
      obtain ⟨Q1, hQ1⟩ : ∃ Q1, Q.1 = Q1 := ⟨_, rfl⟩
      obtain ⟨Q2, hQ2⟩ : ∃ Q2, Q.2 = Q2 := ⟨_, rfl⟩
      have HQE : Hid (Q = (Q1, Q2)) := Lib.hid (Prod.ext hQ1 hQ2)
      rw [hQ1] at hP1 HSP s0; rw [hQ2] at hP2 HSP s1
      have hEr : E ≤ wr.heap.size := by have := HB.out.size; have := HEE.out; omega
      have hal : Below wr.heap.size wr (wr.alloc (.cells #[.int .i64 (c' : Int)] 3)) := (Below.refl _ _).alloc (Nat.le_refl _) _
      have HOA : Hid (spO (wr.alloc (.cells #[.int .i64 (c' : Int)] 3)) E (.slice pt n cc) z.reverse) := Lib.hid (owns_below HO.out hal)
      have HSA : Hid (isSp (wr.alloc (.cells #[.int .i64 (c' : Int)] 3)) h Q1 Q2 c') := Lib.hid (HSP.out.below hal)
      have HBA : Hid (Below E w (wr.alloc (.cells #[.int .i64 (c' : Int)] 3))) := Lib.hid (HB.out.trans (hal.mono hEr))
      have HLE : Hid (z.reverse.length ≤ 1000000) := Lib.hid (by rw [List.length_reverse, HZL.out]; omega)
      have HSZ : Hid (E ≤ (wr.alloc (.cells #[.int .i64 (c' : Int)] 3)).heap.size) := Lib.hid (by rw [World.size_alloc]; omega)
      clear HO HSP HB hMr y10 hal hQ HUU HAT hQ1 hQ2 hsl e
      go_wp2_with (at_builtin; refine append_nx2 rfl _ _ rfl E (.slice pt n cc) z.reverse rfl HOA.out wr.heap.size c' rfl (by simp) HLE.out HSZ.out ?_; intro va w3 hown hgrow hat; have HO := Lib.hid hown; have HG := Lib.hid hgrow; clear hown hgrow hat; refine Hid.out ?_)
      obtain ⟨pt', cc', hv'⟩ := spO_of HO.out
      have hl : (z.reverse ++ [c']).length = n + 1 := by have := HZL.out; rw [List.length_append, List.length_reverse]; simp; omega
      rw [hl] at hv'
      subst hv'
      have HO3 : Hid (spO w3 E (.slice pt' (n + 1) cc') (c' :: z).reverse) := Lib.hid (by rw [List.reverse_cons]; exact HO.out)
      have hS3 : isSp w3 h Q1 Q2 c' := by
        refine (HG.out.block h HSA.out.lt fun e2 => ?_).trans HSA.out
        rcases HSA.out.far HOA.out with e3 | e3
        · rw [e3] at e2; cases e2
        · exact e3 e2.symm
      have HB3 : Hid (Below E w w3) := Lib.hid (HBA.out.grown HG.out HSZ.out fun r hr => (World.ownsRow.lt HOA.out r hr).1)
      obtain ⟨W7, hW7⟩ : ∃ W7, w3.alloc (.cells #[.int .i64 (Q1 : Int), .int .i64 (Q2 : Int), .int .i64 (c' : Int)] 76) = W7 := ⟨_, rfl⟩
      obtain ⟨h7, hh7⟩ : ∃ h7, w3.heap.size = h7 := ⟨_, rfl⟩
      have hb7 : Below w3.heap.size w3 W7 := hW7 ▸ (Below.refl _ _).alloc (Nat.le_refl _) _
      have hS7 : isSp W7 h7 Q1 Q2 c' := hW7 ▸ hh7 ▸ heap_alloc_new w3 _
      have hz3 : E ≤ w3.heap.size := by have := HB3.out.size; have := HEE.out; omega
      have HB7 : Hid (Below E w W7) := Lib.hid (HB3.out.trans (hb7.mono hz3))
      have HO7 : Hid (spO W7 E (.slice pt' (n + 1) cc') (c' :: z).reverse) := Lib.hid (owns_below HO3.out hb7)
      obtain ⟨a1, b1, c1, hat1, hlk1⟩ := look14 (w := W7.drew) (HM.out.below (HEE.out.symm ▸ HB7.out.drew)).mp hP1 hP2
      have y10 := (HM.out.below (HEE.out.symm ▸ HB7.out)).sr.cells.2.2.2.2.2.2.2.2.2.2.1
      have HAT1 := Lib.hid hat1
      have HS7 := Lib.hid hS7
      have hE7 : E ≤ h7 := by omega
      have HE7 := Lib.hid hE7
      obtain ⟨t0, t1, t2⟩ := hS3.cells
      clear HO HG HOA HSA HBA s0 s1 s2 hl hat1 hS3 hb7 HO3 hz3 HB3 hS7
      refine Lib.hid ?_
      go_upto_region 4 with (fail)
      clear hh7 hW7 t0 t1 t2
      obtain ⟨t0, t1, t2⟩ := HS7.out.cells
      have f0 := HS7.out.free 0
      have f1 := HS7.out.free 1
      have f2 := HS7.out.free 2
      have HS8 : Hid (isSp (((W7.setCell ⟨h7, 0, none⟩ (.int .i64 a1)).setCell ⟨h7, 1, none⟩ (.int .i64 b1)).setCell ⟨h7, 2, none⟩ (.int .i64 c1)).drew h7 a1 b1 c1) := Lib.hid (HS7.out.put a1 b1 c1)
      have hfar := HS7.out.far HO7.out
      have HO8 : Hid (spO (((W7.setCell ⟨h7, 0, none⟩ (.int .i64 a1)).setCell ⟨h7, 1, none⟩ (.int .i64 b1)).setCell ⟨h7, 2, none⟩ (.int .i64 c1)).drew E (.slice pt' (n + 1) cc') (c' :: z).reverse) := Lib.hid (owns_below (World.ownsRow.kept (World.ownsRow.kept (World.ownsRow.kept HO7.out (grown_setCell _ h7 0 _) hfar) (grown_setCell _ h7 1 _) hfar) (grown_setCell _ h7 2 _) hfar) (Below.refl _ _).drew)
      have HB8 : Hid (Below E w (((W7.setCell ⟨h7, 0, none⟩ (.int .i64 a1)).setCell ⟨h7, 1, none⟩ (.int .i64 b1)).setCell ⟨h7, 2, none⟩ (.int .i64 c1)).drew) := Lib.hid (((HB7.out.setCell (p := ⟨h7, 0, none⟩) hE7 _).setCell (p := ⟨h7, 1, none⟩) hE7 _).setCell (p := ⟨h7, 2, none⟩) hE7 _).drew
      clear hfar HO7 HB7 HS7
      go_region
      have HME3 : Hid (((Q1, Q2), v') ∈ l) := Lib.hid (HQE.out ▸ HME2.out)
      go_roundw
      case rel =>
        exact ⟨_, _, _, _, _, _, _, _, _, _, _, _, _, _, _, _, _, _, ⟨h7, (Q1, Q2), v', c' :: z, pt', n + 1, cc', a1, b1, c1, rfl, rfl, HS8, HAT1, HME3, HUU2, HZL2, HO8, HB8⟩, rfl⟩
      case measure =>
        have := HNU.out
        simp [sln14]; omega
end Go.Proofs.Ytefpoapbodbenaa
