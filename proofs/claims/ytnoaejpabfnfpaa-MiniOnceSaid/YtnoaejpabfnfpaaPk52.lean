/-
  Arguments opened: a slice of numbers; an array of two.
  An automaton whose states are numbered otherwise: plain; the walk of the law's at.
-/
import Derived.Test.YtnoaejpabfnfpaaRows
import Derived.Test.YtnoaejpabfnfpaaPk6
import Derived.Test.YtnoaejpabfnfpaaPk50
import Derived.Test.YtnoaejpabfnfpaaPk35
namespace Go.Proofs.Ytnoaejpabfnfpaa
open Go.ChangeShapes Go.WideShapes Go.ChangeAt Go.RowKit Go.Joins Go.Deep

set_option maxRecDepth 100000 in
/-- A slice of numbers: none, at any address; or the numbers that its cells are. -/
theorem open_ints9 {H : Type} {enc : TypeId × Value → H} {W : World} {b0 n : Nat} {sp : Nat → Bool} {hd : Bool} {a0 : Option Addr} {len0 cap0 : Nat} {x : DataW H × List MemPlace}
    (h : DataW.trod enc Try.prog W b0 sp hd n 22 [.slice a0 len0 cap0] = some x) : len0 = 0 ∨ len0 ≤ cap0 ∧ ∃ l, rdL W a0 len0 l := by
  rcases open_slice Try.underlying22 h with ⟨hcs, _⟩ | ⟨a, len, cap, m, n', D, Pl, hcs, _, hl, _, hmm, _, hi⟩
  · simp at hcs
    exact .inl hcs.2.1
  · simp at hcs
    obtain ⟨rfl, rfl, rfl⟩ := hcs
    have hlm : len0 ≤ m := by rw [hmm]; split <;> omega
    rcases Nat.eq_zero_or_pos len0 with h0 | hpos
    · exact .inl h0
    right
    have hall : ∀ i, i < len0 → ∃ y : Int, W.cell? (a.add (i * 1)) = some (.int .i64 y) := fun i him => by
      obtain ⟨cs, hc, ht⟩ := hi i (by omega)
      rw [cellsInt] at hc
      obtain ⟨_, hcl, hat⟩ := World.cells?_some hc
      obtain ⟨y, hy, _, _⟩ := DataW.trod_int Try.underlying3 ht
      have h0 := hat 0 (by decide)
      rw [hy] at h0
      exact ⟨y, by simpa [Addr.add] using h0⟩
    obtain ⟨b, off, spot⟩ := a
    obtain ⟨_, z0⟩ := hall 0 hpos
    have hspot : spot = none := by simpa [Addr.add] using World.cell?_spot z0
    subst hspot
    have hb : b < W.heap.size := by have := World.block_lt_of_cell? W _ z0; simpa [Addr.add] using this
    refine ⟨hl, fun i => if h : i < len0 then (hall i h).choose else 0, fun j hj => ⟨b, off, rfl, hb, ?_⟩⟩
    simp only [dif_pos hj]
    have hs := (hall j hj).choose_spec
    generalize (hall j hj).choose = y at hs
    rw [add_at] at hs
    simpa using hs
end Go.Proofs.Ytnoaejpabfnfpaa

namespace Go.Proofs.Ytnoaejpabfnfpaa
open Go.RowKit

def rtN (t n s : Nat) : Nat := (s + t) % n
theorem rtN_lt {t n : Nat} (hn : 0 < n) (s : Nat) : rtN t n s < n := Nat.mod_lt _ hn
theorem rtN_inj {t n s s' : Nat} (hs : s < n) (hs' : s' < n) (h : rtN t n s = rtN t n s') : s = s' := by
  have key : ∀ a b : Nat, a < n → b ≤ a → (a + t) % n = (b + t) % n → a = b := fun a b ha hb e => by
    have h1 := Nat.sub_mod_eq_zero_of_mod_eq e
    rw [show a + t - (b + t) = a - b by omega, Nat.mod_eq_of_lt (by omega)] at h1
    omega
  rcases Nat.le_total s' s with g | g
  · exact key s s' hs g h
  · exact (key s' s hs' g h.symm).symm
theorem rtN_onto {t n q : Nat} (hq : q < n) : ∃ s, s < n ∧ rtN t n s = q := by
  have hn : 0 < n := by omega
  refine ⟨(q + (n - t % n)) % n, Nat.mod_lt _ hn, ?_⟩
  unfold rtN
  rw [Nat.mod_add_mod]
  have h1 := Nat.mod_lt t hn
  have h2 := Nat.mod_add_div t n
  have h3 : q + (n - t % n) + t = q + n * (1 + t / n) := by rw [Nat.mul_add, Nat.mul_one]; omega
  rw [h3, Nat.add_mul_mod_self_left, Nat.mod_eq_of_lt hq]
/-- What the turned automaton is, of the first ones. -/
def tuT (x : Da) (t s : Nat) (F : Nat → Bool) : Prop := ∀ i, i < s → F (rtN t x.n2 i) = x.T i
def tuN (x : Da) (t W s cc : Nat) (G : Nat → Int) : Prop := ∀ i c, i < x.n2 → c < W → (i < s ∨ (i = s ∧ c < cc)) → G (rtN t x.n2 i * W + c) = (rtN t x.n2 (x.l1 (i * W + c)).toNat : Nat)
theorem tuT_put {x : Da} {t s : Nat} {F : Nat → Bool} (hs : s < x.n2) (h : tuT x t s F) : tuT x t (s + 1) (putT F (rtN t x.n2 s) (x.T s)) := fun i hi => by
  unfold putT
  by_cases e : i = s
  · subst e; rw [if_pos rfl]
  · rw [if_neg fun g => e (rtN_inj (by omega) hs g)]
    exact h i (by omega)
theorem div_row {q q' c c' W : Nat} (hc : c < W) (hc' : c' < W) (h : q * W + c = q' * W + c') : q = q' ∧ c = c' := by
  have e : ∀ a b : Nat, b < W → (a * W + b) / W = a := fun a b hb => by
    rw [Nat.mul_comm, Nat.mul_add_div (by omega), Nat.div_eq_of_lt hb, Nat.add_zero]
  have h1 : q = q' := by rw [← e q c hc, h, e q' c' hc']
  subst h1
  exact ⟨rfl, by omega⟩
theorem tuN_put {x : Da} {t W s cc : Nat} {G : Nat → Int} (hs : s < x.n2) (hc : cc < W) (h : tuN x t W s cc G) : tuN x t W s (cc + 1) (putF G (rtN t x.n2 s * W + cc) (rtN t x.n2 (x.l1 (s * W + cc)).toNat : Nat)) := fun i c hi hcw hh => by
  unfold putF
  by_cases e : rtN t x.n2 i * W + c = rtN t x.n2 s * W + cc
  · obtain ⟨e1, e2⟩ := div_row hcw hc e
    have e3 := rtN_inj hi hs e1
    subst e2 e3
    rw [if_pos rfl]
  · rw [if_neg e]
    refine h i c hi hcw ?_
    rcases hh with g | ⟨rfl, g⟩
    · exact .inl g
    · exact .inr ⟨rfl, by
        rcases Nat.lt_or_ge c cc with g2 | g2
        · exact g2
        · have : c = cc := by omega
          subst this
          exact absurd rfl e⟩
theorem tuN_next {x : Da} {t W s : Nat} {G : Nat → Int} (h : tuN x t W s W G) : tuN x t W (s + 1) 0 G := fun i c hi hc hh => h i c hi hc (by
  rcases hh with g | ⟨_, g⟩
  · by_cases e : i = s
    · exact .inr ⟨e, hc⟩
    · exact .inl (by omega)
  · omega)
/-- The turned automaton accepts the same words. -/
theorem tu_mn {x : Da} (hx : rgD x) {t W : Nat} (hW : x.wd = W) {F : Nat → Bool} {G : Nat → Int} (hF : tuT x t x.n2 F) (hG : tuN x t W x.n2 0 G) :
    rgD ⟨259, x.l0, (W : Int), ((rtN t x.n2 x.st.toNat : Nat) : Int), x.n1, G, x.n2, F⟩ ∧ mnD ⟨259, x.l0, (W : Int), ((rtN t x.n2 x.st.toNat : Nat) : Int), x.n1, G, x.n2, F⟩ = mnD x := by
  obtain ⟨y, hy⟩ : ∃ y : Da, ⟨259, x.l0, (W : Int), ((rtN t x.n2 x.st.toNat : Nat) : Int), x.n1, G, x.n2, F⟩ = y := ⟨_, rfl⟩
  have hg := hx
  obtain ⟨g0, g1, g2, g3, g4, g5, g6, g7, g8, g9⟩ := hg
  have hn1 : x.n1 = x.n2 * W := by rw [hW] at g5; exact_mod_cast g5
  have hWp : 0 < W := by omega
  have hst : x.st.toNat < x.n2 := by omega
  have hl1 : ∀ i c, i < x.n2 → c < W → 0 ≤ x.l1 (i * W + c) ∧ x.l1 (i * W + c) < x.n2 := fun i c hi hc => g9 _ (by
    rw [hn1]
    have := Nat.mul_le_mul_right W (show i + 1 ≤ x.n2 from hi)
    rw [Nat.succ_mul] at this
    omega)
  have hyr : rgD y := by
    rw [← hy]
    refine ⟨rfl, by show (1 : Int) ≤ (W : Int); omega, by show (W : Int) ≤ 259; omega, g3, g4, by show (x.n1 : Int) = x.n2 * (W : Int); rw [hn1]; simp, Int.natCast_nonneg _, by show ((rtN t x.n2 x.st.toNat : Nat) : Int) < x.n2; have := rtN_lt (t := t) (show 0 < x.n2 by omega) x.st.toNat; omega, fun j hj => by show 0 ≤ x.l0 j ∧ x.l0 j < (W : Int); rw [← hW]; exact g8 j hj, fun j hj => ?_⟩
    have hj : j < x.n1 := hj
    rw [hn1] at hj
    have hq : j / W < x.n2 := Nat.div_lt_of_lt_mul (by rw [Nat.mul_comm]; exact hj)
    obtain ⟨s, hs, e⟩ := rtN_onto (t := t) hq
    have hj2 : j = rtN t x.n2 s * W + j % W := by
      rw [e]
      have := Nat.div_add_mod j W
      rw [Nat.mul_comm] at this
      omega
    show 0 ≤ G j ∧ G j < x.n2
    rw [hj2, hG s (j % W) hs (Nat.mod_lt _ hWp) (.inl hs)]
    have := rtN_lt (t := t) (show 0 < x.n2 by omega) (x.l1 (s * W + j % W)).toNat
    omega
  have hgo : ∀ s z, s < x.n2 → z < 259 → goD y (rtN t x.n2 s) z = rtN t x.n2 (goD x s z) := fun s z hs hz => by
    have hC : (x.l0 z).toNat < W := by have := g8 z hz; omega
    have e1 : goD y (rtN t x.n2 s) z = (G (rtN t x.n2 s * W + (x.l0 z).toNat)).toNat := by
      rw [← hy]
      show (G (rtN t x.n2 s * (W : Int).toNat + (x.l0 z).toNat)).toNat = _
      rw [Int.toNat_natCast]
    have e2 : goD x s z = (x.l1 (s * W + (x.l0 z).toNat)).toNat := by
      show (x.l1 (s * x.wd.toNat + (x.l0 z).toNat)).toNat = _
      rw [hW, Int.toNat_natCast]
    rw [e1, e2, hG s _ hs hC (.inl hs), Int.toNat_natCast]
  have hrun : ∀ (w : List Nat) s, s < x.n2 → okw w → runW y (rtN t x.n2 s) w = rtN t x.n2 (runW x s w) := by
    intro w
    induction w with
    | nil => intro s _ _; rfl
    | cons z w ih =>
      intro s hs hw
      obtain ⟨h1, h2⟩ := okw_cons.1 hw
      rw [runW_cons, runW_cons, hgo s z hs h1]
      exact ih _ (goD_at hx hs h1).2.2 h2
  have hyT : y.T = F := by rw [← hy]
  have hys : y.st.toNat = rtN t x.n2 x.st.toNat := by rw [← hy]; exact Int.toNat_natCast _
  rw [hy]
  refine ⟨hyr, mnD_same hyr hx ?_⟩
  rw [hys]
  funext w
  refine propext ⟨fun ⟨h1, h2⟩ => ⟨h1, ?_⟩, fun ⟨h1, h2⟩ => ⟨h1, ?_⟩⟩
  · rw [hyT, hrun w _ hst h1, hF _ (runW_lt hx w _ hst h1)] at h2; exact h2
  · rw [hyT, hrun w _ hst h1, hF _ (runW_lt hx w _ hst h1)]; exact h2

set_option maxRecDepth 100000 in
set_option maxHeartbeats 4000000 in
theorem at13 (s t n : Nat) (hn : 0 < n) (hnl : n ≤ 1000) (hs : s < n) (ht : t < 256) (w : World) :
    Calls Try.prog 19 #[.int .i64 (s : Int), .int .u8 (t : Int), .int .i64 (n : Int)] w fun e w' => e = .returned (.int .i64 (rtN t n s : Nat)) ∧ w' = w := by
  have h1 : IntKind.i64.wrap (t : Int) = (t : Int) := by rw [IntKind.wrap_i64]; omega
  have h2 : ((n : Int) == 0) = false := beq_eq_false_iff_ne.2 (by omega)
  have n0 : (0 : Int) < (n : Int) := by omega
  have n1 : (n : Int) ≤ 1000 := by omega
  have s0 : (0 : Int) ≤ (s : Int) := by omega
  have s1 : (s : Int) ≤ 1000 := by omega
  have t0 : (0 : Int) ≤ (t : Int) := by omega
  have t1 : (t : Int) < 256 := by omega
  have HR : Hid (((rtN t n s : Nat) : Int) = ((s : Int) + (t : Int)).tmod (n : Int)) := Lib.hid (by
    rw [Int.tmod_eq_emod_of_nonneg (by omega)]
    unfold rtN
    simp)
  go_enter Try.func19, Try.ntmps19
  go_wp2_with fail
  go_returns
  exact ⟨by rw [HR.out] <;> rfl, rfl⟩
end Go.Proofs.Ytnoaejpabfnfpaa
