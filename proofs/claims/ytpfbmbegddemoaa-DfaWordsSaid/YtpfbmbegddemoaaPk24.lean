/-
  Where a decided automaton leads symbols. Plain.
  Rows of sets that a call makes, in memory; the walk of the eleventh reference's find.
-/
import Derived.Test.YtpfbmbegddemoaaPk20
import Derived.Test.YtpfbmbegddemoaaPk21
import Derived.Test.YtpfbmbegddemoaaPk23
import Derived.Test.YtpfbmbegddemoaaPk9
import Derived.BigQuiet
import Derived.Deep.QuietTactic
namespace Go.Proofs.Ytpfbmbegddemoaa

section
variable {go : Nat → Bf → Bf} {m width : Nat} {T0 : Bf}
/-- Where the set X goes by the first c classes stands behind what stood ahead. -/
theorem clM_nx {X : Bf} {s : Ms} : ∀ c, (∀ j, j < s.2.length → (clM go m X c s).2[j]? = s.2[j]?) ∧ ∀ d, d < c → ∃ k T, (clM go m X c s).2[s.2.length + d]? = some k ∧ (clM go m X c s).1[k]? = some T ∧ ∀ q, q < m → T q = go d X q
  | 0 => ⟨fun _ _ => rfl, fun d hd => absurd hd (Nat.not_lt_zero _)⟩
  | c + 1 => by
    obtain ⟨h1, h2⟩ := clM_nx (X := X) (s := s) c
    have hl := (clM_len (go := go) (m := m) (X := X) (s := s) c).2.2
    refine ⟨fun j hj => ?_, fun d hd => ?_⟩
    · show (_ ++ [_])[j]? = _
      rw [List.getElem?_append_left (by omega)]
      exact h1 j hj
    · by_cases e : d = c
      · subst e
        obtain ⟨T, g1, g2⟩ := fiS_at m (clM go m X d s).1 (go d X)
        refine ⟨_, T, ?_, g1, g2⟩
        show (_ ++ [_])[s.2.length + d]? = _
        rw [← hl]
        simp
      · obtain ⟨k, T, g1, g2, g3⟩ := h2 d (by omega)
        refine ⟨k, T, ?_, ?_, g3⟩
        · show (_ ++ [_])[s.2.length + d]? = _
          rw [List.getElem?_append_left (by omega)]
          exact g1
        · show (adS m _ _)[k]? = _
          rw [adS_old (by
            rcases Nat.lt_or_ge k (clM go m X c s).1.length with h | h
            · exact h
            · rw [List.getElem?_eq_none h] at g2; cases g2)]
          exact g2
theorem atM_nx : ∀ a, (∀ b, b < a → b < (atM go m width T0 b).1.length) → (atM go m width T0 a).2.length = a * width ∧ ∀ b, b < a → ∀ c, c < width → ∃ k X T, (atM go m width T0 a).2[b * width + c]? = some k ∧ (atM go m width T0 a).1[b]? = some X ∧ (atM go m width T0 a).1[k]? = some T ∧ ∀ q, q < m → T q = go c X q
  | 0, _ => ⟨by rw [Nat.zero_mul]; rfl, fun b hb => absurd hb (Nat.not_lt_zero _)⟩
  | a + 1, ha => by
    obtain ⟨h1, h2⟩ := atM_nx a fun b hb => ha b (by omega)
    have hal := ha a (Nat.lt_succ_self a)
    have hX := List.getElem?_eq_getElem hal
    generalize (atM go m width T0 a).1[a] = X at hX
    rw [atM_go hX]
    obtain ⟨g1, g2⟩ := clM_nx (go := go) (m := m) (X := X) (s := atM go m width T0 a) width
    refine ⟨by rw [(clM_len width).2.2, h1, Nat.succ_mul], fun b hb c hc => ?_⟩
    by_cases e : b = a
    · subst e
      obtain ⟨k, T, k1, k2, k3⟩ := g2 c hc
      rw [h1] at k1
      exact ⟨k, X, T, k1, by rw [clM_old hal]; exact hX, k2, k3⟩
    · obtain ⟨k, Y, T, k1, k2, k3, k4⟩ := h2 b (by omega) c hc
      have lt_of : ∀ {j : Nat} {Z : Bf}, (atM go m width T0 a).1[j]? = some Z → j < (atM go m width T0 a).1.length := fun {j Z} h => by
        rcases Nat.lt_or_ge j (atM go m width T0 a).1.length with g | g
        · exact g
        · rw [List.getElem?_eq_none g] at h; cases h
      have hlt : b * width + c < (atM go m width T0 a).2.length := by
        rw [h1]
        have : (b + 1) * width ≤ a * width := Nat.mul_le_mul_right width (by omega)
        rw [Nat.succ_mul] at this
        omega
      exact ⟨k, Y, T, by rw [g1 _ hlt]; exact k1, by rw [clM_old (lt_of k2)]; exact k2, by rw [clM_old (lt_of k3)]; exact k3, k4⟩
/-- All rounds are done: each state goes somewhere by each class. -/
theorem full_nx {most : Int} (h : ((fullM go m width T0 most).1.length : Int) ≤ most) :
    (fullM go m width T0 most).2.length = (fullM go m width T0 most).1.length * width ∧
    ∀ b, b < (fullM go m width T0 most).1.length → ∀ c, c < width → ∃ k X T, (fullM go m width T0 most).2[b * width + c]? = some k ∧ (fullM go m width T0 most).1[b]? = some X ∧ (fullM go m width T0 most).1[k]? = some T ∧ ∀ q, q < m → T q = go c X q := by
  have hK : (atM go m width T0 (rdM most)).1.length ≤ rdM most := by
    unfold fullM at h
    unfold rdM at h ⊢
    omega
  have main : ∀ K, (atM go m width T0 K).1.length ≤ K → ∃ a, a ≤ K ∧ (∀ b, b < a → b < (atM go m width T0 b).1.length) ∧ (atM go m width T0 a).1.length ≤ a := by
    intro K
    induction K with
    | zero => intro h; exact ⟨0, Nat.le_refl _, fun b hb => absurd hb (Nat.not_lt_zero _), h⟩
    | succ K ih =>
      intro h
      by_cases e : (atM go m width T0 K).1.length ≤ K
      · obtain ⟨a, h1, h2, h3⟩ := ih e
        exact ⟨a, by omega, h2, h3⟩
      · by_cases g : ∀ b, b < K + 1 → b < (atM go m width T0 b).1.length
        · exact ⟨K + 1, Nat.le_refl _, g, h⟩
        · simp only [Classical.not_forall] at g
          obtain ⟨b, hb, hn⟩ := g
          have hbK : (atM go m width T0 b).1.length ≤ b := by omega
          rw [atM_end (show b ≤ K by omega) hbK] at e
          omega
  obtain ⟨a, h1, h2, h3⟩ := main _ hK
  have e : fullM go m width T0 most = atM go m width T0 a := atM_end h1 h3
  have hal : (atM go m width T0 a).1.length = a := by
    refine Nat.le_antisymm h3 ?_
    rcases Nat.eq_zero_or_pos a with rfl | hp
    · omega
    · have g1 := h2 (a - 1) (by omega)
      have g2 := atM_le (go := go) (m := m) (width := width) (T0 := T0) (show a - 1 ≤ a by omega)
      omega
  rw [e, hal]
  exact atM_nx a h2
theorem full_zero {most : Int} : (fullM go m width T0 most).1[0]? = some T0 := by
  unfold fullM
  rw [atM_old (Nat.zero_le _) (by show 0 < 1; decide)]
  rfl
end

section
variable {S : Nat → Sd} {m : Nat}
theorem pT_eq {T U : Bf} : pT m T = pT m U ↔ ∀ q, q < m → T q = U q := by
  constructor
  · intro h q hq
    have := congrFun h q
    unfold pT at this
    rw [Bool.eq_iff_iff]
    constructor
    · intro g; exact (this.mp ⟨hq, g⟩).2
    · intro g; exact (this.mpr ⟨hq, g⟩).2
  · intro h
    funext q
    unfold pT
    by_cases hq : q < m
    · rw [h q hq]
    · simp [hq]
/-- A set goes where another one goes that is the same below m. -/
theorem goY_same (hr : rng S m) {y : Nat} {T U : Bf} (h : ∀ q, q < m → T q = U q) : ∀ q, q < m → goY S m y T q = goY S m y U q := by
  rw [← pT_eq] at h ⊢
  unfold goY
  split
  · rw [pT_up hr, pT_up hr, pT_st hr, pT_st hr, h]
  · rw [pT_up hr, pT_up hr, h]
/-- .. and by symbols that are alike to the same. -/
theorem goY_alike (hr : rng S m) {x y : Nat} (h : alk S m x y = true) {T : Bf} : ∀ q, q < m → goY S m x T q = goY S m y T q := by
  rcases alk_iff.1 h with rfl | ⟨h1, h2, h3⟩
  · exact fun _ _ => rfl
  · rw [← pT_eq]
    unfold goY
    rw [if_pos (by omega), if_pos (by omega), pT_up hr, pT_up hr, pT_st hr, pT_st hr]
    congr 1
    funext q
    apply propext
    constructor
    · rintro ⟨q0, g1, g2, g3, g4⟩; exact ⟨q0, g1, g2, by rw [← h3 q0 g1.1]; exact g3, g4⟩
    · rintro ⟨q0, g1, g2, g3, g4⟩; exact ⟨q0, g1, g2, by rw [h3 q0 g1.1]; exact g3, g4⟩
theorem fsY_hd {y : Nat} (hy : y < 259) : fsY S m (clA (alk S m) y) = hdA (alk S m) y := by
  have hR := alk_eq S m
  have hle := hdA_le (alk S m) y
  have e : (List.range 259).find? (fun i => (((clA (alk S m) i : Nat) : Int) == ((clA (alk S m) y : Nat) : Int))) = some (hdA (alk S m) y) := by
    refine find_range (by omega) ?_ fun j hj => ?_
    · simp only [beq_iff_eq]
      have := (clA_iff hR).2 (hdA_like hR.re y)
      omega
    · rw [beq_eq_false_iff_ne]
      intro h
      have : alk S m j y = true := (clA_iff hR).1 (by omega)
      rw [hdA_least hj] at this
      cases this
  unfold fsY fsA
  rw [e]
  simp
/-- A class goes where its symbols go. -/
theorem goC_is (hr : rng S m) {y : Nat} (hy : y < 259) {T : Bf} : ∀ q, q < m → goC S m (clA (alk S m) y) T q = goY S m y T q := by
  unfold goC
  rw [fsY_hd hy]
  exact goY_alike hr (hdA_like (alk_eq S m).re y)
/-- Where a state goes by a symbol. -/
def nxY (S : Nat → Sd) (m : Nat) (F : Ms) (s y : Nat) : Nat := F.2.getD (s * wdY S m + clA (alk S m) y) 0
theorem nxY_is {st most : Int} (hr : rng S m) (h : ((subM S m st most).1.length : Int) ≤ most) {s y : Nat} (hs : s < (subM S m st most).1.length) (hy : y < 259) {T X : Bf} (hX : (subM S m st most).1[s]? = some X) (hXT : ∀ q, q < m → X q = T q) :
    ∃ U, (subM S m st most).1[nxY S m (subM S m st most) s y]? = some U ∧ ∀ q, q < m → U q = goY S m y T q := by
  obtain ⟨-, h2⟩ := full_nx h
  obtain ⟨k, X', U, k1, k2, k3, k4⟩ := h2 s hs _ (clA_lt (alk_eq S m) hy)
  have e : X' = X := Option.some.inj (k2.symm.trans hX)
  subst e
  refine ⟨U, ?_, fun q hq => ?_⟩
  · unfold nxY
    rw [List.getD_eq_getElem?_getD]
    show (subM S m st most).1[((fullM (goC S m) m (wdY S m) (T0Y S m st) most).2[s * wdY S m + clA (alk S m) y]?).getD 0]? = some U
    unfold wdY at k1 ⊢
    rw [k1]
    exact k3
  · rw [k4 q hq, goC_is hr hy q hq]
    exact goY_same hr hXT q hq
/-- Where symbols lead. -/
def rnY (S : Nat → Sd) (m : Nat) (F : Ms) (s : Nat) (l : List Nat) : Nat := l.foldl (nxY S m F) s
def rnT (S : Nat → Sd) (m : Nat) (T : Bf) (l : List Nat) : Bf := l.foldl (fun T y => goY S m y T) T
theorem rnY_is {st most : Int} (hr : rng S m) (h : ((subM S m st most).1.length : Int) ≤ most) : ∀ (l : List Nat), (∀ y, y ∈ l → y < 259) → ∀ (s : Nat) (X T : Bf), (subM S m st most).1[s]? = some X → (∀ q, q < m → X q = T q) → ∃ U, (subM S m st most).1[rnY S m (subM S m st most) s l]? = some U ∧ ∀ q, q < m → U q = rnT S m T l q
  | [], _, s, X, T, hX, hT => ⟨X, hX, hT⟩
  | y :: l, hl, s, X, T, hX, hT => by
    have hs : s < (subM S m st most).1.length := by
      rcases Nat.lt_or_ge s (subM S m st most).1.length with g | g
      · exact g
      · rw [List.getElem?_eq_none g] at hX; cases hX
    obtain ⟨U, h1, h2⟩ := nxY_is hr h hs (hl y (List.mem_cons_self ..)) hX hT
    exact rnY_is hr h l (fun z hz => hl z (List.mem_cons_of_mem _ hz)) _ U _ h1 h2
/-- The symbols of a part of a text. -/
def wrY (n : Nat) (tx : Nat → Nat) (i j : Nat) : List Nat :=
  if n = 0 then [258] else (if i = 0 then [256] else []) ++ (List.range (j - i)).map (fun k => tx (i + k)) ++ (if j = n then [257] else [])
theorem rnT_rF (tx : Nat → Nat) (ht : ∀ k, tx k < 256) (i : Nat) (T : Bf) : ∀ k, rnT S m T ((List.range k).map fun k => tx (i + k)) = rF S m tx i k T
  | 0 => rfl
  | k + 1 => by
    rw [List.range_succ, List.map_append, rF_last]
    unfold rnT
    rw [List.foldl_append]
    have := rnT_rF tx ht i T k
    unfold rnT at this
    rw [this]
    show goY S m (tx (i + k)) _ = _
    unfold goY
    rw [if_pos (ht _)]
/-- They lead where the page has it. -/
theorem wrY_fF (n : Nat) (tx : Nat → Nat) (ht : ∀ k, tx k < 256) (st : Int) (fin i j : Nat) : rnT S m (T0Y S m st) (wrY n tx i j) fin = fF S m n tx st fin i j := by
  have hA : T0Y S m st = aF S m st := rfl
  unfold wrY fF
  rw [hA]
  by_cases hn : n = 0
  · rw [if_pos hn, if_pos hn]
    show goY S m 258 _ fin = _
    rfl
  · rw [if_neg hn, if_neg hn]
    have h0 : rnT S m (aF S m st) (if i = 0 then [256] else []) = if i = 0 then upN S 256 m (aF S m st) m else aF S m st := by
      by_cases e : i = 0
      · rw [if_pos e, if_pos e]; rfl
      · rw [if_neg e, if_neg e]; rfl
    have h1 : rnT S m (aF S m st) ((if i = 0 then [256] else []) ++ (List.range (j - i)).map fun k => tx (i + k)) = rF S m tx i (j - i) (if i = 0 then upN S 256 m (aF S m st) m else aF S m st) := by
      rw [← rnT_rF tx ht, ← h0]
      unfold rnT
      rw [List.foldl_append]
    by_cases e : j = n
    · rw [if_pos e, if_pos e, ← h1]
      unfold rnT
      rw [List.foldl_append]
      show goY S m 257 _ fin = _
      rfl
    · rw [if_neg e, if_neg e, ← h1, List.append_nil]
end
end Go.Proofs.Ytpfbmbegddemoaa

namespace Go.Proofs.Ytpfbmbegddemoaa
open Go.RowKit

theorem eqS_succ (m : Nat) (T U : Bf) : eqS (m + 1) T U = (eqS m T U && (T m == U m)) := by
  unfold eqS
  rw [List.range_succ, List.all_append]
  simp
def lg (L : List Bf) (i : Nat) : Bf := L.getD i fun _ => false
theorem lg_at {L : List Bf} {i : Nat} (h : i < L.length) : lg L i = L[i] := by
  unfold lg
  rw [List.getD_eq_getElem?_getD, List.getElem?_eq_getElem h]; rfl
theorem lg_some {L : List Bf} {i : Nat} (h : i < L.length) : L[i]? = some (lg L i) := by rw [lg_at h, List.getElem?_eq_getElem h]
def gvs (r C : Nat → Nat) (m k : Nat) : List Value := (List.range k).map fun i => .slice (some ⟨r i, 0, none⟩) m (C i)
theorem gvs_at (r C : Nat → Nat) (m k i : Nat) (h : i < k) : (gvs r C m k)[i]? = some (.slice (some ⟨r i, 0, none⟩) m (C i)) := by simp [gvs, h]
theorem gvs_succ (r C : Nat → Nat) (m k : Nat) : gvs r C m (k + 1) = gvs r C m k ++ [.slice (some ⟨r k, 0, none⟩) m (C k)] := by simp [gvs, List.range_succ]
theorem gvs_same {r r' C C' : Nat → Nat} (m : Nat) {k : Nat} (h : ∀ i, i < k → r i = r' i ∧ C i = C' i) : gvs r C m k = gvs r' C' m k := by
  unfold gvs
  exact List.map_congr_left fun i hi => by rw [(h i (List.mem_range.1 hi)).1, (h i (List.mem_range.1 hi)).2]
/-- A slice of sets that the call owns, its rows too. -/
def gsR (w : World) (base : Nat) (v : Value) (r C : Nat → Nat) (m : Nat) (L : List Bf) : Prop :=
  w.ownsRow base 23 1 v L.length (gvs r C m L.length) ∧ ∀ i, i < L.length → blR w base (r i) (C i) m (lg L i)
theorem gsR.below {w w' : World} {base : Nat} {v : Value} {r C : Nat → Nat} {m : Nat} {L : List Bf} (h : gsR w base v r C m L) (hb : Below w.heap.size w w') : gsR w' base v r C m L :=
  ⟨owns_below h.1 hb, fun i hi => (h.2 i hi).below hb⟩
theorem gsR.of {w : World} {base : Nat} {v : Value} {r C : Nat → Nat} {m : Nat} {L : List Bf} (h : gsR w base v r C m L) (hl : 1 ≤ L.length) : ∃ g c, v = .slice (some ⟨g, 0, none⟩) L.length c ∧ base ≤ g ∧ g < w.heap.size ∧ ∀ i, i < L.length → w.cell? ⟨g, i, none⟩ = some (.slice (some ⟨r i, 0, none⟩) m (C i)) := by
  rcases id h.1.2 with ⟨rfl, h0⟩ | ⟨g, cap, cur, rfl, _⟩
  · omega
  · have hlt := World.ownsRow.lt h.1 g rfl
    refine ⟨g, cap, rfl, hlt.1, hlt.2, fun i hi => ?_⟩
    have := World.ownsRow.cellAt h.1 i (by omega)
    rw [this]; exact gvs_at r C m _ i hi

end Go.Proofs.Ytpfbmbegddemoaa
