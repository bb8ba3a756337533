/-
  The row of the type of a byte; what a list of bytes grows in.
  The walks of alpha's ends and within.
  What symbols are alike to no states, and to one more. Plain.
  Where a decided automaton leads symbols. Plain.
  Rows of sets that a call makes, in memory; the walk of the eleventh reference's find.
  The walks of the eleventh reference's Go, Word and Run.
  The walk of the ninth reference's Make at a node that is repeated, and by recursion.
  The walks of within and fieldsFit: are a node's Set, Lo and Hi such as its kind lets be?
  The walk of the code's Right: is a list a tree?
  The walk of the code's Depth: how many nodes stand within one another.
  The walk of the laws' awake: the page's example holds.
  The walks of the reference's Right and Depth.
  The walk of the ninth reference's Build.
  Decided automata in memory; what the reference's Build answers.
  The walk of the eleventh reference's Same, at two that are the same.
-/
import Derived.Test.YtefpoapbodbenaaPk3
import Derived.Test.YtefpoapbodbenaaPk11
import Derived.Test.YtefpoapbodbenaaPk1
import Derived.Test.YtefpoapbodbenaaPk4
import Derived.BigQuiet
import Derived.Deep.QuietTactic
import Derived.Deep.RegionHeldLaw
import Derived.Deep.RegionWith
import Derived.Test.YtefpoapbodbenaaPk7
import Derived.Laws.AppendOwnNone
namespace Go.Proofs.Ytefpoapbodbenaa
open Go.RowKit

theorem Try.info8 : (Try.prog.info? 5).map (fun i => (i.zero, i.size, i.bytes)) = some (some (.int .u8 0), 1, 1) := by kernel_rfl

end Go.Proofs.Ytefpoapbodbenaa

namespace Go.Proofs.Ytefpoapbodbenaa
open Go.RowKit

def endF (x : Nat) : Int := if x < 256 then 0 else (x : Int) - 255
def wiF (f : Nat → Bool) (x : Nat) : Int := if x < 256 ∧ f x = true then 1 else 0
/-- What is in the first j of a list of bytes. -/
def wiJ (l : List Nat) (j : Nat) (x : Nat) : Int := if x ∈ l.take j then 1 else 0
theorem wiJ_zero (l : List Nat) (x : Nat) : wiJ l 0 x = 0 := by simp [wiJ]
theorem wiJ_succ {l : List Nat} {j b : Nat} (h : l[j]? = some b) : putF (wiJ l j) b 1 = wiJ l (j + 1) := by
  funext x
  unfold putF wiJ
  have e : l.take (j + 1) = l.take j ++ [b] := by rw [List.take_add_one, h]; rfl
  rw [e]
  by_cases hx : x = b
  · subst hx; simp
  · rw [if_neg hx]
    have : x ∈ l.take j ++ [b] ↔ x ∈ l.take j := by simp [hx]
    by_cases hm : x ∈ l.take j
    · rw [if_pos hm, if_pos (this.2 hm)]
    · rw [if_neg hm, if_neg (fun h => hm (this.1 h))]
theorem wiJ_end (f : Nat → Bool) (x : Nat) : wiJ (bl f 256) (bl f 256).length x = wiF f x := by
  unfold wiJ wiF
  rw [List.take_length]
  have : x ∈ bl f 256 ↔ x < 256 ∧ f x = true := by unfold bl; rw [List.mem_filter, List.mem_range]
  by_cases h : x ∈ bl f 256
  · rw [if_pos h, if_pos (this.1 h)]
  · rw [if_neg h, if_neg (fun g => h (this.2 g))]

end Go.Proofs.Ytefpoapbodbenaa

namespace Go.Proofs.Ytefpoapbodbenaa

theorem alk_zero {S : Nat → Sd} {x y : Nat} : alk S 0 x y = true ↔ x = y ∨ (x ≤ 255 ∧ y ≤ 255) := by
  rw [alk_iff]
  constructor
  · rintro (h | ⟨h1, h2, _⟩)
    · exact .inl h
    · exact .inr ⟨h1, h2⟩
  · rintro (h | ⟨h1, h2⟩)
    · exact .inl h
    · exact .inr ⟨h1, h2, fun i hi => absurd hi (Nat.not_lt_zero _)⟩
theorem hdA_bytes {S : Nat → Sd} {x : Nat} (h : x ≤ 255) : hdA (alk S 0) x = 0 := by
  rcases Nat.eq_zero_or_pos x with rfl | h0
  · exact hdA_self fun j hj => absurd hj (Nat.not_lt_zero _)
  · exact hdA_is h0 (alk_zero.2 (.inr ⟨by omega, h⟩)) fun j hj => absurd hj (Nat.not_lt_zero _)
theorem hdA_ends {S : Nat → Sd} {x : Nat} (h : 255 < x) : hdA (alk S 0) x = x := hdA_self fun j hj => by
  cases e : alk S 0 j x with
  | false => rfl
  | true => rcases alk_zero.1 e with h | h <;> omega
theorem cnt_bytes (S : Nat → Sd) : ∀ n, n ≤ 255 → cntT (isH (alk S 0)) (n + 1) = 1
  | 0, _ => by
    rw [cntT_succ]
    have : isH (alk S 0) 0 = true := by unfold isH; rw [beq_iff_eq]; exact hdA_bytes (by omega)
    rw [if_pos this]; rfl
  | n + 1, h => by
    have : isH (alk S 0) (n + 1) = false := by unfold isH; rw [hdA_bytes h]; simp
    rw [cntT_succ, cnt_bytes S n (by omega), this]; rfl
theorem cnt_ends (S : Nat → Sd) : ∀ k, cntT (isH (alk S 0)) (256 + k) = 1 + k
  | 0 => cnt_bytes S 255 (by omega)
  | k + 1 => by
    have : isH (alk S 0) (256 + k) = true := by unfold isH; rw [beq_iff_eq]; exact hdA_ends (by omega)
    rw [show 256 + (k + 1) = (256 + k) + 1 by omega, cntT_succ, cnt_ends S k, if_pos this]; omega
theorem cl_zero (S : Nat → Sd) (x : Nat) : endF x = (clA (alk S 0) x : Nat) := by
  unfold endF clA
  by_cases h : x < 256
  · rw [if_pos h, hdA_bytes (by omega)]; rfl
  · rw [if_neg h, hdA_ends (by omega)]
    obtain ⟨k, rfl⟩ : ∃ k, x = 256 + k := ⟨x - 256, by omega⟩
    rw [cnt_ends]; omega
theorem wi_eq {f : Nat → Bool} {x y : Nat} (hx : x ≤ 255) (hy : y ≤ 255) : wiF f x = wiF f y ↔ f x = f y := by
  unfold wiF
  have h1 : x < 256 := by omega
  have h2 : y < 256 := by omega
  cases f x <;> cases f y <;> simp [h1, h2]
/-- A set more. -/
theorem alk_next (S : Nat → Sd) (i : Nat) : joR (fun x => (clA (alk S i) x : Nat)) (wiF (sOf (S i))) = alk S (i + 1) := by
  funext x y
  rw [Bool.eq_iff_iff, joR_iff, alk_iff]
  have h1 : (((clA (alk S i) x : Nat) : Int) = ((clA (alk S i) y : Nat) : Int)) ↔ (x = y ∨ (x ≤ 255 ∧ y ≤ 255 ∧ ∀ j, j < i → sOf (S j) x = sOf (S j) y)) := by
    rw [← alk_iff, ← clA_iff (alk_eq S i)]; omega
  rw [h1]
  constructor
  · rintro ⟨h | ⟨h2, h3, h4⟩, h5⟩
    · exact .inl h
    · refine .inr ⟨h2, h3, fun j hj => ?_⟩
      by_cases e : j = i
      · subst e; exact (wi_eq h2 h3).1 h5
      · exact h4 j (by omega)
  · rintro (rfl | ⟨h2, h3, h4⟩)
    · exact ⟨.inl rfl, rfl⟩
    · exact ⟨.inr ⟨h2, h3, fun j hj => h4 j (by omega)⟩, (wi_eq h2 h3).2 (h4 i (Nat.lt_succ_self i))⟩
theorem ofWords_none (x : Nat) : ofWords 0 0 0 0 x = false := by
  unfold ofWords
  simp
/-- A state without a set more. -/
theorem alk_skip {S : Nat → Sd} {i : Nat} (h : (S i).a = 0 ∧ (S i).b = 0 ∧ (S i).c = 0 ∧ (S i).d = 0) : alk S (i + 1) = alk S i := by
  have hs : ∀ x, sOf (S i) x = false := fun x => by
    unfold sOf
    rw [h.1, h.2.1, h.2.2.1, h.2.2.2]
    exact ofWords_none x
  funext x y
  rw [Bool.eq_iff_iff, alk_iff, alk_iff]
  constructor
  · rintro (h | ⟨h1, h2, h3⟩)
    · exact .inl h
    · exact .inr ⟨h1, h2, fun j hj => h3 j (by omega)⟩
  · rintro (h | ⟨h1, h2, h3⟩)
    · exact .inl h
    · refine .inr ⟨h1, h2, fun j hj => ?_⟩
      by_cases e : j = i
      · subst e; rw [hs, hs]
      · exact h3 j (by omega)
end Go.Proofs.Ytefpoapbodbenaa

namespace Go.Proofs.Ytefpoapbodbenaa

section
variable {go : Nat → Bf → Bf} {m width : Nat} {T0 : Bf}
/-- Where the set X goes by the first c classes stands behind what stood ahead. -/
theorem clM_nx {X : Bf} {s : Ms} : ∀ c, (∀ j, j < s.2.length → (clM go m X c s).2[j]? = s.2[j]?) ∧ ∀ d, d < c → ∃ k T, (clM go m X c s).2[s.2.length + d]? = some k ∧ (clM go m X c s).1[k]? = some T ∧ ∀ q, q < m → T q = go d X q
  | 0 => ⟨fun _ _ => rfl, fun d hd => absurd hd (Nat.not_lt_zero _)⟩
  | c + 1 => by
    obtain ⟨h1, h2⟩ := clM_nx (X := X) (s := s) c
    have hl := (clM_len (go := go) (m := m) (X := X) (s := s) c).2.2
    refine ⟨fun j hj => ?_, fun d hd => ?_⟩
    · show (_ ++ [_])[j]? = _
      rw [List.getElem?_append_left (by omega)]
      exact h1 j hj
    · by_cases e : d = c
      · subst e
        obtain ⟨T, g1, g2⟩ := fiS_at m (clM go m X d s).1 (go d X)
        refine ⟨_, T, ?_, g1, g2⟩
        show (_ ++ [_])[s.2.length + d]? = _
        rw [← hl]
        simp
      · obtain ⟨k, T, g1, g2, g3⟩ := h2 d (by omega)
        refine ⟨k, T, ?_, ?_, g3⟩
        · show (_ ++ [_])[s.2.length + d]? = _
          rw [List.getElem?_append_left (by omega)]
          exact g1
        · show (adS m _ _)[k]? = _
          rw [adS_old (by
            rcases Nat.lt_or_ge k (clM go m X c s).1.length with h | h
            · exact h
            · rw [List.getElem?_eq_none h] at g2; cases g2)]
          exact g2
theorem atM_nx : ∀ a, (∀ b, b < a → b < (atM go m width T0 b).1.length) → (atM go m width T0 a).2.length = a * width ∧ ∀ b, b < a → ∀ c, c < width → ∃ k X T, (atM go m width T0 a).2[b * width + c]? = some k ∧ (atM go m width T0 a).1[b]? = some X ∧ (atM go m width T0 a).1[k]? = some T ∧ ∀ q, q < m → T q = go c X q
  | 0, _ => ⟨by rw [Nat.zero_mul]; rfl, fun b hb => absurd hb (Nat.not_lt_zero _)⟩
  | a + 1, ha => by
    obtain ⟨h1, h2⟩ := atM_nx a fun b hb => ha b (by omega)
    have hal := ha a (Nat.lt_succ_self a)
    have hX := List.getElem?_eq_getElem hal
    generalize (atM go m width T0 a).1[a] = X at hX
    rw [atM_go hX]
    obtain ⟨g1, g2⟩ := clM_nx (go := go) (m := m) (X := X) (s := atM go m width T0 a) width
    refine ⟨by rw [(clM_len width).2.2, h1, Nat.succ_mul], fun b hb c hc => ?_⟩
    by_cases e : b = a
    · subst e
      obtain ⟨k, T, k1, k2, k3⟩ := g2 c hc
      rw [h1] at k1
      exact ⟨k, X, T, k1, by rw [clM_old hal]; exact hX, k2, k3⟩
    · obtain ⟨k, Y, T, k1, k2, k3, k4⟩ := h2 b (by omega) c hc
      have lt_of : ∀ {j : Nat} {Z : Bf}, (atM go m width T0 a).1[j]? = some Z → j < (atM go m width T0 a).1.length := fun {j Z} h => by
        rcases Nat.lt_or_ge j (atM go m width T0 a).1.length with g | g
        · exact g
        · rw [List.getElem?_eq_none g] at h; cases h
      have hlt : b * width + c < (atM go m width T0 a).2.length := by
        rw [h1]
        have : (b + 1) * width ≤ a * width := Nat.mul_le_mul_right width (by omega)
        rw [Nat.succ_mul] at this
        omega
      exact ⟨k, Y, T, by rw [g1 _ hlt]; exact k1, by rw [clM_old (lt_of k2)]; exact k2, by rw [clM_old (lt_of k3)]; exact k3, k4⟩
/-- All rounds are done: each state goes somewhere by each class. -/
theorem full_nx {most : Int} (h : ((fullM go m width T0 most).1.length : Int) ≤ most) :
    (fullM go m width T0 most).2.length = (fullM go m width T0 most).1.length * width ∧
    ∀ b, b < (fullM go m width T0 most).1.length → ∀ c, c < width → ∃ k X T, (fullM go m width T0 most).2[b * width + c]? = some k ∧ (fullM go m width T0 most).1[b]? = some X ∧ (fullM go m width T0 most).1[k]? = some T ∧ ∀ q, q < m → T q = go c X q := by
  have hK : (atM go m width T0 (rdM most)).1.length ≤ rdM most := by
    unfold fullM at h
    unfold rdM at h ⊢
    omega
  have main : ∀ K, (atM go m width T0 K).1.length ≤ K → ∃ a, a ≤ K ∧ (∀ b, b < a → b < (atM go m width T0 b).1.length) ∧ (atM go m width T0 a).1.length ≤ a := by
    intro K
    induction K with
    | zero => intro h; exact ⟨0, Nat.le_refl _, fun b hb => absurd hb (Nat.not_lt_zero _), h⟩
    | succ K ih =>
      intro h
      by_cases e : (atM go m width T0 K).1.length ≤ K
      · obtain ⟨a, h1, h2, h3⟩ := ih e
        exact ⟨a, by omega, h2, h3⟩
      · by_cases g : ∀ b, b < K + 1 → b < (atM go m width T0 b).1.length
        · exact ⟨K + 1, Nat.le_refl _, g, h⟩
        · simp only [Classical.not_forall] at g
          obtain ⟨b, hb, hn⟩ := g
          have hbK : (atM go m width T0 b).1.length ≤ b := by omega
          rw [atM_end (show b ≤ K by omega) hbK] at e
          omega
  obtain ⟨a, h1, h2, h3⟩ := main _ hK
  have e : fullM go m width T0 most = atM go m width T0 a := atM_end h1 h3
  have hal : (atM go m width T0 a).1.length = a := by
    refine Nat.le_antisymm h3 ?_
    rcases Nat.eq_zero_or_pos a with rfl | hp
    · omega
    · have g1 := h2 (a - 1) (by omega)
      have g2 := atM_le (go := go) (m := m) (width := width) (T0 := T0) (show a - 1 ≤ a by omega)
      omega
  rw [e, hal]
  exact atM_nx a h2
theorem full_zero {most : Int} : (fullM go m width T0 most).1[0]? = some T0 := by
  unfold fullM
  rw [atM_old (Nat.zero_le _) (by show 0 < 1; decide)]
  rfl
end

section
variable {S : Nat → Sd} {m : Nat}
theorem pT_eq {T U : Bf} : pT m T = pT m U ↔ ∀ q, q < m → T q = U q := by
  constructor
  · intro h q hq
    have := congrFun h q
    unfold pT at this
    rw [Bool.eq_iff_iff]
    constructor
    · intro g; exact (this.mp ⟨hq, g⟩).2
    · intro g; exact (this.mpr ⟨hq, g⟩).2
  · intro h
    funext q
    unfold pT
    by_cases hq : q < m
    · rw [h q hq]
    · simp [hq]
/-- A set goes where another one goes that is the same below m. -/
theorem goY_same (hr : rng S m) {y : Nat} {T U : Bf} (h : ∀ q, q < m → T q = U q) : ∀ q, q < m → goY S m y T q = goY S m y U q := by
  rw [← pT_eq] at h ⊢
  unfold goY
  split
  · rw [pT_up hr, pT_up hr, pT_st hr, pT_st hr, h]
  · rw [pT_up hr, pT_up hr, h]
/-- .. and by symbols that are alike to the same. -/
theorem goY_alike (hr : rng S m) {x y : Nat} (h : alk S m x y = true) {T : Bf} : ∀ q, q < m → goY S m x T q = goY S m y T q := by
  rcases alk_iff.1 h with rfl | ⟨h1, h2, h3⟩
  · exact fun _ _ => rfl
  · rw [← pT_eq]
    unfold goY
    rw [if_pos (by omega), if_pos (by omega), pT_up hr, pT_up hr, pT_st hr, pT_st hr]
    congr 1
    funext q
    apply propext
    constructor
    · rintro ⟨q0, g1, g2, g3, g4⟩; exact ⟨q0, g1, g2, by rw [← h3 q0 g1.1]; exact g3, g4⟩
    · rintro ⟨q0, g1, g2, g3, g4⟩; exact ⟨q0, g1, g2, by rw [h3 q0 g1.1]; exact g3, g4⟩
theorem fsY_hd {y : Nat} (hy : y < 259) : fsY S m (clA (alk S m) y) = hdA (alk S m) y := by
  have hR := alk_eq S m
  have hle := hdA_le (alk S m) y
  have e : (List.range 259).find? (fun i => (((clA (alk S m) i : Nat) : Int) == ((clA (alk S m) y : Nat) : Int))) = some (hdA (alk S m) y) := by
    refine find_range (by omega) ?_ fun j hj => ?_
    · simp only [beq_iff_eq]
      have := (clA_iff hR).2 (hdA_like hR.re y)
      omega
    · rw [beq_eq_false_iff_ne]
      intro h
      have : alk S m j y = true := (clA_iff hR).1 (by omega)
      rw [hdA_least hj] at this
      cases this
  unfold fsY fsA
  rw [e]
  simp
/-- A class goes where its symbols go. -/
theorem goC_is (hr : rng S m) {y : Nat} (hy : y < 259) {T : Bf} : ∀ q, q < m → goC S m (clA (alk S m) y) T q = goY S m y T q := by
  unfold goC
  rw [fsY_hd hy]
  exact goY_alike hr (hdA_like (alk_eq S m).re y)
/-- Where a state goes by a symbol. -/
def nxY (S : Nat → Sd) (m : Nat) (F : Ms) (s y : Nat) : Nat := F.2.getD (s * wdY S m + clA (alk S m) y) 0
theorem nxY_is {st most : Int} (hr : rng S m) (h : ((subM S m st most).1.length : Int) ≤ most) {s y : Nat} (hs : s < (subM S m st most).1.length) (hy : y < 259) {T X : Bf} (hX : (subM S m st most).1[s]? = some X) (hXT : ∀ q, q < m → X q = T q) :
    ∃ U, (subM S m st most).1[nxY S m (subM S m st most) s y]? = some U ∧ ∀ q, q < m → U q = goY S m y T q := by
  obtain ⟨-, h2⟩ := full_nx h
  obtain ⟨k, X', U, k1, k2, k3, k4⟩ := h2 s hs _ (clA_lt (alk_eq S m) hy)
  have e : X' = X := Option.some.inj (k2.symm.trans hX)
  subst e
  refine ⟨U, ?_, fun q hq => ?_⟩
  · unfold nxY
    rw [List.getD_eq_getElem?_getD]
    show (subM S m st most).1[((fullM (goC S m) m (wdY S m) (T0Y S m st) most).2[s * wdY S m + clA (alk S m) y]?).getD 0]? = some U
    unfold wdY at k1 ⊢
    rw [k1]
    exact k3
  · rw [k4 q hq, goC_is hr hy q hq]
    exact goY_same hr hXT q hq
/-- Where symbols lead. -/
def rnY (S : Nat → Sd) (m : Nat) (F : Ms) (s : Nat) (l : List Nat) : Nat := l.foldl (nxY S m F) s
def rnT (S : Nat → Sd) (m : Nat) (T : Bf) (l : List Nat) : Bf := l.foldl (fun T y => goY S m y T) T
theorem rnY_is {st most : Int} (hr : rng S m) (h : ((subM S m st most).1.length : Int) ≤ most) : ∀ (l : List Nat), (∀ y, y ∈ l → y < 259) → ∀ (s : Nat) (X T : Bf), (subM S m st most).1[s]? = some X → (∀ q, q < m → X q = T q) → ∃ U, (subM S m st most).1[rnY S m (subM S m st most) s l]? = some U ∧ ∀ q, q < m → U q = rnT S m T l q
  | [], _, s, X, T, hX, hT => ⟨X, hX, hT⟩
  | y :: l, hl, s, X, T, hX, hT => by
    have hs : s < (subM S m st most).1.length := by
      rcases Nat.lt_or_ge s (subM S m st most).1.length with g | g
      · exact g
      · rw [List.getElem?_eq_none g] at hX; cases hX
    obtain ⟨U, h1, h2⟩ := nxY_is hr h hs (hl y (List.mem_cons_self ..)) hX hT
    exact rnY_is hr h l (fun z hz => hl z (List.mem_cons_of_mem _ hz)) _ U _ h1 h2
/-- The symbols of a part of a text. -/
def wrY (n : Nat) (tx : Nat → Nat) (i j : Nat) : List Nat :=
  if n = 0 then [258] else (if i = 0 then [256] else []) ++ (List.range (j - i)).map (fun k => tx (i + k)) ++ (if j = n then [257] else [])
theorem rnT_rF (tx : Nat → Nat) (ht : ∀ k, tx k < 256) (i : Nat) (T : Bf) : ∀ k, rnT S m T ((List.range k).map fun k => tx (i + k)) = rF S m tx i k T
  | 0 => rfl
  | k + 1 => by
    rw [List.range_succ, List.map_append, rF_last]
    unfold rnT
    rw [List.foldl_append]
    have := rnT_rF tx ht i T k
    unfold rnT at this
    rw [this]
    show goY S m (tx (i + k)) _ = _
    unfold goY
    rw [if_pos (ht _)]
/-- They lead where the page has it. -/
theorem wrY_fF (n : Nat) (tx : Nat → Nat) (ht : ∀ k, tx k < 256) (st : Int) (fin i j : Nat) : rnT S m (T0Y S m st) (wrY n tx i j) fin = fF S m n tx st fin i j := by
  have hA : T0Y S m st = aF S m st := rfl
  unfold wrY fF
  rw [hA]
  by_cases hn : n = 0
  · rw [if_pos hn, if_pos hn]
    show goY S m 258 _ fin = _
    rfl
  · rw [if_neg hn, if_neg hn]
    have h0 : rnT S m (aF S m st) (if i = 0 then [256] else []) = if i = 0 then upN S 256 m (aF S m st) m else aF S m st := by
      by_cases e : i = 0
      · rw [if_pos e, if_pos e]; rfl
      · rw [if_neg e, if_neg e]; rfl
    have h1 : rnT S m (aF S m st) ((if i = 0 then [256] else []) ++ (List.range (j - i)).map fun k => tx (i + k)) = rF S m tx i (j - i) (if i = 0 then upN S 256 m (aF S m st) m else aF S m st) := by
      rw [← rnT_rF tx ht, ← h0]
      unfold rnT
      rw [List.foldl_append]
    by_cases e : j = n
    · rw [if_pos e, if_pos e, ← h1]
      unfold rnT
      rw [List.foldl_append]
      show goY S m 257 _ fin = _
      rfl
    · rw [if_neg e, if_neg e, ← h1, List.append_nil]
end
end Go.Proofs.Ytefpoapbodbenaa

namespace Go.Proofs.Ytefpoapbodbenaa
open Go.RowKit

theorem eqS_succ (m : Nat) (T U : Bf) : eqS (m + 1) T U = (eqS m T U && (T m == U m)) := by
  unfold eqS
  rw [List.range_succ, List.all_append]
  simp
def lg (L : List Bf) (i : Nat) : Bf := L.getD i fun _ => false
theorem lg_at {L : List Bf} {i : Nat} (h : i < L.length) : lg L i = L[i] := by
  unfold lg
  rw [List.getD_eq_getElem?_getD, List.getElem?_eq_getElem h]; rfl
theorem lg_some {L : List Bf} {i : Nat} (h : i < L.length) : L[i]? = some (lg L i) := by rw [lg_at h, List.getElem?_eq_getElem h]
def gvs (r C : Nat → Nat) (m k : Nat) : List Value := (List.range k).map fun i => .slice (some ⟨r i, 0, none⟩) m (C i)
theorem gvs_at (r C : Nat → Nat) (m k i : Nat) (h : i < k) : (gvs r C m k)[i]? = some (.slice (some ⟨r i, 0, none⟩) m (C i)) := by simp [gvs, h]
theorem gvs_succ (r C : Nat → Nat) (m k : Nat) : gvs r C m (k + 1) = gvs r C m k ++ [.slice (some ⟨r k, 0, none⟩) m (C k)] := by simp [gvs, List.range_succ]
theorem gvs_same {r r' C C' : Nat → Nat} (m : Nat) {k : Nat} (h : ∀ i, i < k → r i = r' i ∧ C i = C' i) : gvs r C m k = gvs r' C' m k := by
  unfold gvs
  exact List.map_congr_left fun i hi => by rw [(h i (List.mem_range.1 hi)).1, (h i (List.mem_range.1 hi)).2]
/-- A slice of sets that the call owns, its rows too. -/
def gsR (w : World) (base : Nat) (v : Value) (r C : Nat → Nat) (m : Nat) (L : List Bf) : Prop :=
  w.ownsRow base 23 1 v L.length (gvs r C m L.length) ∧ ∀ i, i < L.length → blR w base (r i) (C i) m (lg L i)
theorem gsR.below {w w' : World} {base : Nat} {v : Value} {r C : Nat → Nat} {m : Nat} {L : List Bf} (h : gsR w base v r C m L) (hb : Below w.heap.size w w') : gsR w' base v r C m L :=
  ⟨owns_below h.1 hb, fun i hi => (h.2 i hi).below hb⟩
theorem gsR.of {w : World} {base : Nat} {v : Value} {r C : Nat → Nat} {m : Nat} {L : List Bf} (h : gsR w base v r C m L) (hl : 1 ≤ L.length) : ∃ g c, v = .slice (some ⟨g, 0, none⟩) L.length c ∧ base ≤ g ∧ g < w.heap.size ∧ ∀ i, i < L.length → w.cell? ⟨g, i, none⟩ = some (.slice (some ⟨r i, 0, none⟩) m (C i)) := by
  rcases id h.1.2 with ⟨rfl, h0⟩ | ⟨g, cap, cur, rfl, _⟩
  · omega
  · have hlt := World.ownsRow.lt h.1 g rfl
    refine ⟨g, cap, rfl, hlt.1, hlt.2, fun i hi => ?_⟩
    have := World.ownsRow.cellAt h.1 i (by omega)
    rw [this]; exact gvs_at r C m _ i hi

end Go.Proofs.Ytefpoapbodbenaa

namespace Go.Proofs.Ytefpoapbodbenaa
open Go.RowKit

/-- A decided automaton as a value. -/
@[reducible] def dfV (q0 : Option Addr) (n0 c0 : Nat) (wd st : Int) (q1 : Option Addr) (n1 c1 : Nat) (q2 : Option Addr) (n2 c2 : Nat) : Value := .agg #[.slice q0 n0 c0, .int .i64 wd, .int .i64 st, .slice q1 n1 c1, .slice q2 n2 c2]

set_option maxRecDepth 100000 in
set_option maxHeartbeats 8000000 in
theorem go11 (q0 : Option Addr) (c0 : Nat) (wd : Nat) (st : Int) (q1 : Option Addr) (n1 c1 : Nat) (q2 : Option Addr) (n2 c2 : Nat) (l0 l1 : Nat → Int) (s y cc p : Nat) (hy : y < 259) (hcc : l0 y = (cc : Int)) (hp : s * wd = p) (hpc : p + cc < n1) (hn1 : n1 ≤ 1000000) (w : World) (h0 : rdL w q0 259 l0) (h1 : rdL w q1 n1 l1) :
    Calls Try.prog 24 #[dfV q0 259 c0 (wd : Int) st q1 n1 c1 q2 n2 c2, .int .i64 (s : Int), .int .i64 (y : Int)] w fun e w' => e = .returned (.int .i64 (l1 (p + cc))) ∧ Below w.heap.size w w' := by
  obtain ⟨b0, o0, rfl, hb0, hc0⟩ := h0 y hy
  obtain ⟨b1, o1, rfl, hb1, hc1⟩ := h1 (p + cc) hpc
  rw [hcc] at hc0
  obtain ⟨z, hz⟩ : ∃ z, l1 (p + cc) = z := ⟨_, rfl⟩
  rw [hz] at hc1 ⊢
  obtain ⟨w1, hw1⟩ : ∃ w1, w.alloc (.cells #[.slice (some ⟨b0, o0, none⟩) 259 c0, .int .i64 (wd : Int), .int .i64 st, .slice (some ⟨b1, o1, none⟩) n1 c1, .slice q2 n2 c2] 25) = w1 := ⟨_, rfl⟩
  have hbw : Below w.heap.size w w1 := hw1 ▸ (Below.refl _ _).alloc (Nat.le_refl _) _
  have hk : w1.heap[w.heap.size]? = some (.cells #[.slice (some ⟨b0, o0, none⟩) 259 c0, .int .i64 (wd : Int), .int .i64 st, .slice (some ⟨b1, o1, none⟩) n1 c1, .slice q2 n2 c2] 25 (0, 0)) := hw1 ▸ heap_alloc_new w _
  have k0 : w1.cell? ⟨w.heap.size, 0, none⟩ = some (.slice (some ⟨b0, o0, none⟩) 259 c0) := by simp [World.cell?, hk]
  have k1 : w1.cell? ⟨w.heap.size, 1, none⟩ = some (.int .i64 (wd : Int)) := by simp [World.cell?, hk]
  have k3 : w1.cell? ⟨w.heap.size, 3, none⟩ = some (.slice (some ⟨b1, o1, none⟩) n1 c1) := by simp [World.cell?, hk]
  have kc0 : w1.cell? ⟨b0, o0 + y, none⟩ = some (.int .i64 (cc : Int)) := (hbw.cell (p := ⟨b0, o0 + y, none⟩) hb0).trans hc0
  have kc1 : w1.cell? ⟨b1, o1 + (p + cc), none⟩ = some (.int .i64 z) := (hbw.cell (p := ⟨b1, o1 + (p + cc), none⟩) hb1).trans hc1
  have hmul : (s : Int) * (wd : Int) = (p : Int) := by rw [← hp]; simp
  have y0 : (0 : Int) ≤ (y : Int) := by omega
  have y1 : (y : Int) < 259 := by omega
  have p0 : (0 : Int) ≤ (p : Int) := by omega
  have p1 : (p : Int) + (cc : Int) < (n1 : Int) := by omega
  have p2 : (0 : Int) ≤ (p : Int) + (cc : Int) := by omega
  have p3 : (n1 : Int) ≤ 1000000 := by omega
  have p4 : ((p : Int) + (cc : Int)).toNat = p + cc := by omega
  have HW1 := Lib.hid hw1
  have HB := Lib.hid hbw
  clear hw1 hbw hk hb0 hb1 hc0 hc1 hz hp hpc hn1 h0 h1 hcc
  go_enter Try.func24, Try.ntmps24
  go_upto_region 1 with (fail)
  rw [HW1.out]
  go_quiet (fail)
  go_wp2_with fail
  go_returns
  exact ⟨rfl, below_drewN nq HB.out⟩
end Go.Proofs.Ytefpoapbodbenaa

namespace Go.Proofs.Ytefpoapbodbenaa
open Go.RowKit

theorem pt3_grown (w : World) (b : Nat) (v : Value) (f l : Int) : w.grownBy (((w.setCell ⟨b, 0, none⟩ v).setCell ⟨b, 1, none⟩ (.int .i64 f)).setCell ⟨b, 2, none⟩ (.int .i64 l)) (some b) :=
  ((grown_setCell w b 0 v).trans (grown_setCell _ b 1 _)).trans (grown_setCell _ b 2 _)
end Go.Proofs.Ytefpoapbodbenaa

namespace Go.Proofs.Ytefpoapbodbenaa
open Go.RowKit

/-- A node as a value. -/
@[reducible] def nv (x : Nd) : Value := .agg #[.int .i64 x.k, .int .u64 x.a, .int .u64 x.b, .int .u64 x.c, .int .u64 x.d, .int .i64 x.lo, .int .i64 x.hi]
end Go.Proofs.Ytefpoapbodbenaa

namespace Go.Proofs.Ytefpoapbodbenaa
open Go.RowKit

theorem not_tree {N : Nat → Nd} {n k : Nat} (hk : k < n) (h : ¬ good N k) : decide (tree N n) = false := decide_eq_false fun ht => h (ht.2.1 k hk)

end Go.Proofs.Ytefpoapbodbenaa

namespace Go.Proofs.Ytefpoapbodbenaa
open Go.RowKit

theorem mx_take_le (l : List Int) (n : Nat) : mx (l.take n) ≤ mx l := by
  have := mx_append (l.take n) (l.drop n)
  rw [List.take_append_drop] at this
  omega
theorem mx_le (N : Nat → Nd) : ∀ k, mx (stk N k) ≤ k := by
  intro k
  induction k with
  | zero => simp [stk, mx]
  | succ k ih =>
    have h := mx_append ((stk N k).take (ar (N k).k).toNat) ((stk N k).drop (ar (N k).k).toNat)
    rw [List.take_append_drop] at h
    simp only [stk, mx]
    omega
theorem stk_pos (N : Nat → Nd) : ∀ k x, x ∈ stk N k → 1 ≤ x := by
  intro k
  induction k with
  | zero => intro x hx; simp [stk] at hx
  | succ k ih =>
    intro x hx
    rw [stk_succ] at hx
    rcases List.mem_cons.1 hx with rfl | hx
    · exact dpt_pos N k
    · exact ih x (List.mem_of_mem_drop hx)
theorem mem_le_mx {l : List Int} {x : Int} (h : x ∈ l) : x ≤ mx l := by
  induction l with
  | nil => cases h
  | cons y l ih =>
    simp only [mx]
    rcases List.mem_cons.1 h with rfl | h
    · omega
    · have := ih h; omega
/-- The front of a row that the call owns. -/
theorem owns_take {w : World} {base : Nat} {e : TypeId} {g cap n m : Nat} {xs : List Value} (hm : m ≤ n) (h : w.ownsRow base e 1 (.slice (some ⟨g, 0, none⟩) n cap) n xs) :
    w.ownsRow base e 1 (.slice (some ⟨g, 0, none⟩) m cap) m (xs.take m) := by
  obtain ⟨h1, h2⟩ := h
  rcases h2 with ⟨h0, _⟩ | ⟨g', cap', cur, hv, hg, hh, hn, hcap, hsz, htake⟩
  · cases h0
  · cases hv
    refine ⟨by rw [List.length_take]; omega, .inr ⟨g, cap, cur, rfl, hg, hh, by omega, hcap, hsz, ?_⟩⟩
    rw [← htake, List.take_take]
    congr 1
    omega
theorem rev_take (st : List Int) (a : Nat) : (ivs st.reverse).take (st.length - a) = ivs (st.drop a).reverse := by
  have : st.reverse = (st.drop a).reverse ++ (st.take a).reverse := by rw [← List.reverse_append, List.take_append_drop]
  unfold ivs
  rw [this, List.map_append, List.take_left' (by simp)]
theorem rev_get (st : List Int) (j : Nat) (hj : j < st.length) : (ivs st.reverse)[st.length - 1 - j]? = some (.int .i64 st[j]) := by
  have h2 : st.reverse[st.length - 1 - j]? = some st[j] := by
    rw [List.getElem?_reverse (by omega), show st.length - 1 - (st.length - 1 - j) = j by omega, List.getElem?_eq_getElem hj]
  unfold ivs
  rw [List.getElem?_map, h2]; rfl

end Go.Proofs.Ytefpoapbodbenaa

namespace Go.Proofs.Ytefpoapbodbenaa
open Go.RowKit

/-- The page's example: Set, Set, Cat. -/
def N0 (j : Nat) : Nd := if j < 2 then ⟨1, 0, 0, 0, 0, 0, 0⟩ else ⟨5, 0, 0, 0, 0, 0, 0⟩
theorem N0_tree : tree N0 3 := by decide
theorem N0_kids : kids N0 2 = [0, 1] := by decide
theorem N0_fst : 0 ≤ fst N0 2 := by decide
theorem N0_dpt : dpt N0 2 = 2 := by decide

end Go.Proofs.Ytefpoapbodbenaa

namespace Go.Proofs.Ytefpoapbodbenaa
open Go.RowKit

theorem tree_false {N : Nat → Nd} {n k : Nat} (hk : k < n) (h : ¬ (0 ≤ fst N k ∧ okN (N k) = true)) : decide (tree N n) = false :=
  decide_eq_false fun ht => h ((tree_iff.1 ht).2.2.1 k hk)

end Go.Proofs.Ytefpoapbodbenaa

namespace Go.Proofs.Ytefpoapbodbenaa
open Go.RowKit

theorem sds_put (l : List Sd) (j : Nat) (x : Sd) (h : j < l.length) : (((((((sds l).set (j * 7) (.int .i64 x.k)).set (j * 7 + 1) (.int .i64 x.A)).set (j * 7 + 2) (.int .i64 x.B)).set (j * 7 + 3) (.int .u64 x.a)).set (j * 7 + 4) (.int .u64 x.b)).set (j * 7 + 5) (.int .u64 x.c)).set (j * 7 + 6) (.int .u64 x.d) = sds (l.set j x) := by
  induction l generalizing j with
  | nil => simp at h
  | cons r l ih =>
    cases j with
    | zero => rfl
    | succ j =>
      have e : (r :: l).set (j + 1) x = r :: l.set j x := rfl
      rw [sds_cons, e, sds_cons, ← ih j (by simpa using h), show (j + 1) * 7 = j * 7 + 7 by omega, show j * 7 + 7 + 1 = (j * 7 + 1) + 7 by omega, show j * 7 + 7 + 2 = (j * 7 + 2) + 7 by omega, show j * 7 + 7 + 3 = (j * 7 + 3) + 7 by omega, show j * 7 + 7 + 4 = (j * 7 + 4) + 7 by omega, show j * 7 + 7 + 5 = (j * 7 + 5) + 7 by omega, show j * 7 + 7 + 6 = (j * 7 + 6) + 7 by omega]
      rfl
def is3 (t : TypeId) (w : World) (b : Nat) (v : Value) (f l : Int) : Prop := w.heap[b]? = some (.cells #[v, .int .i64 f, .int .i64 l] t (0, 0))
theorem is3.lt {t : TypeId} {w : World} {b : Nat} {v : Value} {f l : Int} (h : is3 t w b v f l) : b < w.heap.size := lt_of_block h
theorem is3.cells {t : TypeId} {w : World} {b : Nat} {v : Value} {f l : Int} (h : is3 t w b v f l) : w.cell? ⟨b, 0, none⟩ = some v ∧ w.cell? ⟨b, 1, none⟩ = some (.int .i64 f) ∧ w.cell? ⟨b, 2, none⟩ = some (.int .i64 l) := by
  unfold is3 at h
  refine ⟨?_, ?_, ?_⟩ <;> simp [World.cell?, h]
theorem is3.free {t : TypeId} {w : World} {b : Nat} {v : Value} {f l : Int} (h : is3 t w b v f l) : w.frozen? ⟨b, 0, none⟩ = false ∧ w.frozen? ⟨b, 1, none⟩ = false ∧ w.frozen? ⟨b, 2, none⟩ = false := by
  unfold is3 at h
  refine ⟨?_, ?_, ?_⟩ <;> simp [World.frozen?, h]
theorem is3.below {t : TypeId} {w w' : World} {b B : Nat} {v : Value} {f l : Int} (h : is3 t w b v f l) (hB : Below B w w') (hb : b < B) : is3 t w' b v f l := (hB.block b hb).trans h
theorem is3.stored {t : TypeId} {w : World} {b : Nat} {v : Value} {f l : Int} (h : is3 t w b v f l) (v' : Value) (f' l' : Int) : is3 t (((w.setCell ⟨b, 0, none⟩ v').setCell ⟨b, 1, none⟩ (.int .i64 f')).setCell ⟨b, 2, none⟩ (.int .i64 l')) b v' f' l' := by
  have h1 := heap_setCell_same w b 0 _ _ v' h
  have h2 := heap_setCell_same _ b 1 _ _ (.int .i64 f') h1
  have h3 := heap_setCell_same _ b 2 _ _ (.int .i64 l') h2
  unfold is3
  rw [h3]
  simp
theorem is3.new (t : TypeId) (w : World) (v : Value) (f l : Int) : is3 t (w.alloc (.cells #[v, .int .i64 f, .int .i64 l] t)) w.heap.size v f l := heap_alloc_new w _

theorem st7_grown (w : World) (g o0 o1 o2 o3 o4 o5 o6 : Nat) (v0 v1 v2 v3 v4 v5 v6 : Value) : w.grownBy (((((((w.setCell ⟨g, o0, none⟩ v0).setCell ⟨g, o1, none⟩ v1).setCell ⟨g, o2, none⟩ v2).setCell ⟨g, o3, none⟩ v3).setCell ⟨g, o4, none⟩ v4).setCell ⟨g, o5, none⟩ v5).setCell ⟨g, o6, none⟩ v6) (some g) :=
  ((((((grown_setCell w g o0 v0).trans (grown_setCell _ g o1 v1)).trans (grown_setCell _ g o2 v2)).trans (grown_setCell _ g o3 v3)).trans (grown_setCell _ g o4 v4)).trans (grown_setCell _ g o5 v5)).trans (grown_setCell _ g o6 v6)
theorem sfn_set {L : List Sd} {j q : Nat} {x : Sd} (h : q ≠ j) : sfn (L.set j x) q = sfn L q := by
  unfold sfn
  rw [List.getD_eq_getElem?_getD, List.getD_eq_getElem?_getD, List.getElem?_set_ne (Ne.symm h)]
theorem sfn_set_at {L : List Sd} {j : Nat} {x : Sd} (h : j < L.length) : sfn (L.set j x) j = x := by
  unfold sfn
  rw [List.getD_eq_getElem?_getD, List.getElem?_set_self h]; rfl
end Go.Proofs.Ytefpoapbodbenaa

namespace Go.Proofs.Ytefpoapbodbenaa
open Go.RowKit

/-- Bools that a slice holds. -/
def rdBs (w : World) (p : Option Addr) (n : Nat) (T : Nat → Bool) : Prop := ∀ j, j < n → ∃ b o, p = some ⟨b, o, none⟩ ∧ b < w.heap.size ∧ w.cell? ⟨b, o + j, none⟩ = some (.bool (T j))
/-- What is decided, whole. -/
def dfaAt (S : Nat → Sd) (m : Nat) (st : Int) (F : Nat) (most : Int) (w w' : World) (d : Value) : Prop :=
  ∃ q0 c0 q1 n1 c1 q2 n2 c2 l0 l1 T, d = dfV q0 259 c0 (wdY S m : Nat) 0 q1 n1 c1 q2 n2 c2 ∧ rdL w' q0 259 l0 ∧ (∀ j, j < 259 → l0 j = (clA (alk S m) j : Nat)) ∧
    n1 = (subM S m st most).2.length ∧ rdL w' q1 n1 l1 ∧ (∀ j, j < n1 → l1 j = ((subM S m st most).2.getD j 0 : Nat)) ∧
    n2 = (subM S m st most).1.length ∧ rdBs w' q2 n2 T ∧ (∀ j, j < n2 → T j = lg (subM S m st most).1 j F) ∧ Below w.heap.size w w'
def rbPost (S : Nat → Sd) (m : Nat) (st : Int) (F : Nat) (most : Int) (w : World) (e : Ending) (w' : World) : Prop :=
  (most < (subM S m st most).1.length → e = .returned (.tuple #[dfV none 0 0 0 0 none 0 0 none 0 0, .bool false]) ∧ Below w.heap.size w w') ∧
  (((subM S m st most).1.length : Int) ≤ most → ∃ d, e = .returned (.tuple #[d, .bool true]) ∧ dfaAt S m st F most w w' d)

theorem rdL.set11 {w : World} {p : Option Addr} {n : Nat} {l : Nat → Int} {X : Nat} (h : rdL w p n l) (hne : ∀ b o, p = some ⟨b, o, none⟩ → b ≠ X) (j : Nat) (u : Value) : rdL (w.setCell ⟨X, j, none⟩ u) p n l := fun k hk => by
  obtain ⟨b, o, h1, h2, h3⟩ := h k hk
  exact ⟨b, o, h1, by simpa using h2, (grown_setCell w X j u).cell h3 (by simpa using hne b o h1)⟩
theorem rdBs.set11 {w : World} {p : Option Addr} {n : Nat} {T : Nat → Bool} {X : Nat} (h : rdBs w p n T) (hne : ∀ b o, p = some ⟨b, o, none⟩ → b ≠ X) (j : Nat) (u : Value) : rdBs (w.setCell ⟨X, j, none⟩ u) p n T := fun k hk => by
  obtain ⟨b, o, h1, h2, h3⟩ := h k hk
  exact ⟨b, o, h1, by simpa using h2, (grown_setCell w X j u).cell h3 (by simpa using hne b o h1)⟩
theorem bls_rd {w : World} {base n c : Nat} {p : Option Addr} {T : Nat → Bool} (h : w.ownsRow base 4 1 (.slice p n c) n (bls T n)) : rdBs w p n T ∧ ∀ b o, p = some ⟨b, o, none⟩ → base ≤ b := by
  rcases id h.2 with ⟨e, h0⟩ | ⟨g, cp, cur, e, _⟩
  · have e2 := (Value.slice.inj e).1
    subst e2
    exact ⟨fun j hj => by omega, fun b o e => by cases e⟩
  · have e2 := (Value.slice.inj e).1
    subst e2
    refine ⟨fun j hj => ⟨g, 0, rfl, (World.ownsRow.lt h g rfl).2, ?_⟩, fun b o e => by cases e; exact (World.ownsRow.lt h g rfl).1⟩
    rw [Nat.zero_add, World.ownsRow.cellAt h j (by omega)]
    exact bls_at T n j hj
theorem build_df0 (w : World) : (Instr.build 25 #[]).run Try.prog w = .ok (dfV none 0 0 0 0 none 0 0 none 0 0) w := by kernel_rfl
theorem build_df1 (q0 : Option Addr) (n0 c0 : Nat) (wd : Int) (q1 : Option Addr) (n1 c1 : Nat) (w : World) : (Instr.build 25 #[(0, .slice q0 n0 c0), (1, .int .i64 wd), (3, .slice q1 n1 c1)]).run Try.prog w = .ok (dfV q0 n0 c0 wd 0 q1 n1 c1 none 0 0) w := by kernel_rfl
/-- A block that holds a decided automaton. -/
def isDf (w : World) (b : Nat) (q0 : Option Addr) (n0 c0 : Nat) (wd st : Int) (q1 : Option Addr) (n1 c1 : Nat) (q2 : Option Addr) (n2 c2 : Nat) : Prop := w.heap[b]? = some (.cells #[.slice q0 n0 c0, .int .i64 wd, .int .i64 st, .slice q1 n1 c1, .slice q2 n2 c2] 25 (0, 0))
theorem isDf.lt {w : World} {b : Nat} {q0 : Option Addr} {n0 c0 : Nat} {wd st : Int} {q1 : Option Addr} {n1 c1 : Nat} {q2 : Option Addr} {n2 c2 : Nat} (h : isDf w b q0 n0 c0 wd st q1 n1 c1 q2 n2 c2) : b < w.heap.size := lt_of_block h
theorem isDf.cells {w : World} {b : Nat} {q0 : Option Addr} {n0 c0 : Nat} {wd st : Int} {q1 : Option Addr} {n1 c1 : Nat} {q2 : Option Addr} {n2 c2 : Nat} (h : isDf w b q0 n0 c0 wd st q1 n1 c1 q2 n2 c2) :
    w.cell? ⟨b, 0, none⟩ = some (.slice q0 n0 c0) ∧ w.cell? ⟨b, 1, none⟩ = some (.int .i64 wd) ∧ w.cell? ⟨b, 2, none⟩ = some (.int .i64 st) ∧ w.cell? ⟨b, 3, none⟩ = some (.slice q1 n1 c1) ∧ w.cell? ⟨b, 4, none⟩ = some (.slice q2 n2 c2) := by
  unfold isDf at h
  refine ⟨?_, ?_, ?_, ?_, ?_⟩ <;> simp [World.cell?, h]
/-- A list of numbers so long does not lie there. -/
theorem isDf.no_row {w : World} {b : Nat} {q0 : Option Addr} {n0 c0 : Nat} {wd st : Int} {q1 : Option Addr} {n1 c1 : Nat} {q2 : Option Addr} {n2 c2 : Nat} (h : isDf w b q0 n0 c0 wd st q1 n1 c1 q2 n2 c2) {p : Option Addr} {n : Nat} {l : Nat → Int} (hr : rdL w p n l) (hn : 6 ≤ n) : ∀ b' o, p = some ⟨b', o, none⟩ → b' ≠ b := fun b' o e e2 => by
  subst e2
  obtain ⟨x, y, e3, _, h5⟩ := hr 5 (by omega)
  rw [e] at e3
  cases e3
  unfold isDf at h
  have : w.cell? ⟨b', o + 5, none⟩ = none := by simp [World.cell?, h]
  rw [this] at h5
  cases h5
theorem isDf.free {w : World} {b : Nat} {q0 : Option Addr} {n0 c0 : Nat} {wd st : Int} {q1 : Option Addr} {n1 c1 : Nat} {q2 : Option Addr} {n2 c2 : Nat} (h : isDf w b q0 n0 c0 wd st q1 n1 c1 q2 n2 c2) (j : Nat) : w.frozen? ⟨b, j, none⟩ = false := by
  unfold isDf at h
  simp [World.frozen?, h]
theorem isDf.put4 {w : World} {b : Nat} {q0 : Option Addr} {n0 c0 : Nat} {wd st : Int} {q1 : Option Addr} {n1 c1 : Nat} {q2 : Option Addr} {n2 c2 : Nat} (h : isDf w b q0 n0 c0 wd st q1 n1 c1 q2 n2 c2) (q : Option Addr) (n c : Nat) : isDf (w.setCell ⟨b, 4, none⟩ (.slice q n c)) b q0 n0 c0 wd st q1 n1 c1 q n c := by
  have h1 := heap_setCell_same w b 4 _ _ (.slice q n c) h
  unfold isDf
  rw [h1]; simp
theorem isDf.stored {w : World} {b : Nat} {q0 : Option Addr} {n0 c0 : Nat} {wd st : Int} {q1 : Option Addr} {n1 c1 : Nat} {q2 : Option Addr} {n2 c2 : Nat} (h : isDf w b q0 n0 c0 wd st q1 n1 c1 q2 n2 c2) (p0 : Option Addr) (k0 d0 : Nat) (we se : Int) (p1 : Option Addr) (k1 d1 : Nat) (p2 : Option Addr) (k2 d2 : Nat) :
    isDf (((((w.setCell ⟨b, 0, none⟩ (.slice p0 k0 d0)).setCell ⟨b, 1, none⟩ (.int .i64 we)).setCell ⟨b, 2, none⟩ (.int .i64 se)).setCell ⟨b, 3, none⟩ (.slice p1 k1 d1)).setCell ⟨b, 4, none⟩ (.slice p2 k2 d2)) b p0 k0 d0 we se p1 k1 d1 p2 k2 d2 := by
  have h1 := heap_setCell_same w b 0 _ _ (.slice p0 k0 d0) h
  have h2 := heap_setCell_same _ b 1 _ _ (.int .i64 we) h1
  have h3 := heap_setCell_same _ b 2 _ _ (.int .i64 se) h2
  have h4 := heap_setCell_same _ b 3 _ _ (.slice p1 k1 d1) h3
  have h5 := heap_setCell_same _ b 4 _ _ (.slice p2 k2 d2) h4
  unfold isDf
  rw [h5]; simp
theorem isDf.below {w w' : World} {b B : Nat} {q0 : Option Addr} {n0 c0 : Nat} {wd st : Int} {q1 : Option Addr} {n1 c1 : Nat} {q2 : Option Addr} {n2 c2 : Nat} (h : isDf w b q0 n0 c0 wd st q1 n1 c1 q2 n2 c2) (hb : Below B w w') (hB : b < B) : isDf w' b q0 n0 c0 wd st q1 n1 c1 q2 n2 c2 := (hb.block b hB).trans h

end Go.Proofs.Ytefpoapbodbenaa

namespace Go.Proofs.Ytefpoapbodbenaa
open Go.RowKit

theorem rdBs.below {w w' : World} {p : Option Addr} {n : Nat} {T : Nat → Bool} (h : rdBs w p n T) (hb : Below w.heap.size w w') : rdBs w' p n T := fun j hj => by
  obtain ⟨b, o, h1, h2, h3⟩ := h j hj
  exact ⟨b, o, h1, Nat.lt_of_lt_of_le h2 hb.size, by rw [hb.cell (p := ⟨b, o + j, none⟩) h2]; exact h3⟩

end Go.Proofs.Ytefpoapbodbenaa
