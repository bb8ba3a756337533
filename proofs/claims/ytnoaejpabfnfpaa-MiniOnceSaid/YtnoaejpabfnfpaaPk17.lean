/-
  The list of what is met, sorted.
  What the twelfth laws ask of the code: contracts; whether an automaton is small.
-/
import Derived.Test.YtnoaejpabfnfpaaPk9
import Derived.Test.YtnoaejpabfnfpaaPk16
import Derived.Test.YtnoaejpabfnfpaaPk13
import Derived.Deep.RegionHeldLaw
namespace Go.Proofs.Ytnoaejpabfnfpaa
open Go.RowKit Go.Sort

theorem putRow_block9 {α : Type} [Inhabited α] (enc : α → Value) (w : World) (b off : Nat) (d : Array α) (k : Nat) (hk : k ≠ b) : (putRow enc w b off d).heap[k]? = w.heap[k]? := by
  unfold putRow mapBlock
  simp only [Array.getElem?_modify]
  rw [if_neg (fun h => hk h.symm)]
theorem grow_block9 (w : World) (os : Array Obj) (k : Nat) (hk : k < w.heap.size) : (grow w os).heap[k]? = w.heap[k]? := by
  show (w.heap ++ os)[k]? = _
  rw [Array.getElem?_append_left hk]
/-- All blocks but one are kept by the sort. -/
theorem sort_block9 (w : World) (n : Nat) (os : Array Obj) (b : Nat) (d : Array Int) (k : Nat) (hk : k ≠ b) (hl : k < w.heap.size) :
    (grow (putRow (Value.int .i64) (Sort.ahead w n) b 0 d) os).heap[k]? = w.heap[k]? := by
  rw [grow_block9 _ _ _ (by rw [size_putRow]; exact hl), putRow_block9 _ _ _ _ _ _ hk]
  rfl
theorem sort_below9 (w : World) (n : Nat) (os : Array Obj) (b : Nat) (d : Array Int) (B : Nat) (hB : B ≤ b) (hb : b < w.heap.size) :
    Below B w (grow (putRow (Value.int .i64) (Sort.ahead w n) b 0 d) os) :=
  ⟨rfl, rfl, rfl, by show _ ≤ (_ ++ os).size; rw [Array.size_append, size_putRow]; exact Nat.le_add_right _ _, fun k hk => sort_block9 w n os b d k (by omega) (by omega)⟩

/-- What is told: what is met, rising. -/
def tlA (A : List Nat) (m : Nat) (i : Nat) : Int := (((trs (memW A) m).getD i 0 : Nat) : Int)
theorem ints9_at (l : List Nat) (j : Nat) (h : j < l.length) : (ints9 l).toArray[j]! = ((l.getD j 0 : Nat) : Int) := by
  have hj : j < (ints9 l).length := by unfold ints9; rw [List.length_map]; exact h
  rw [getElem!_pos _ j (by simpa using hj)]
  simp [ints9, List.getD_eq_getElem?_getD, h]

set_option maxHeartbeats 1000000 in
theorem wsort_is (h m : Nat) (A : List Nat) (hA : okA9 m A) (hm : m ≤ 1000) (p : Option Addr) (c : Nat) (w : World) (h2 : one9 22 w (h + 1) (.slice p A.length c)) (h3 : spO w (h + 2) (.slice p A.length c) A) :
    Calls Try.prog 57 #[.slice p A.length c] w fun e w' => e = .returned (.tuple #[]) ∧ one9 22 w' (h + 1) (.slice p A.length c) ∧ rdL w' p A.length (tlA A m) ∧ Below h w w' := by
  rcases Nat.eq_zero_or_pos A.length with h0 | hpos
  · rw [h0] at h2 ⊢
    refine (Sh.slices_Sort_int_none p c w).mono ?_
    rintro e w' ⟨rfl, rfl⟩
    exact ⟨rfl, h2, fun j hj => absurd hj (Nat.not_lt_zero _), Below.refl _ _⟩
  · obtain ⟨k, rfl⟩ : ∃ k, p = some ⟨k, 0, none⟩ := by
      rcases id h3.2 with ⟨_, e⟩ | ⟨k, cp, cur, e, _⟩
      · omega
      · cases e; exact ⟨k, rfl⟩
    obtain ⟨hk, hkl⟩ := World.ownsRow.lt h3 k rfl
    have hlen : (ints9 A).length = A.length := by unfold ints9; rw [List.length_map]
    have hH : Holds (Value.int .i64) w k 0 (ints9 A).toArray := by
      intro j hj
      have hj : j < A.length := by rw [← hlen]; simpa using hj
      refine ⟨?_, ?_⟩
      · rw [Nat.zero_add, World.ownsRow.cellAt h3 j (by omega), ints9_at A j hj]
        simp [spl9, List.getD_eq_getElem?_getD, hj]
      · rw [Nat.zero_add]; exact World.ownsRow.frozenAt h3 j
    have hle := okA_le hA
    have hs := Sh.slices_Sort_int k 0 c (ints9 A) w hH hkl (by rw [hlen]; omega)
    rw [hlen, sort9 hA] at hs
    refine hs.mono ?_
    rintro e w' ⟨rfl, n, os, rfl⟩
    have hl2 : (ints9 (trs (memW A) m)).length = A.length := by unfold ints9; rw [List.length_map, okA_len hA]; rfl
    have hB := sort_below9 w n os k (ints9 (trs (memW A) m)).toArray (h + 2) hk hkl
    refine ⟨rfl, h2.below hB (by omega), fun j hj => ⟨k, 0, rfl, ?_, ?_⟩, hB.mono (by omega)⟩
    · exact Nat.lt_of_lt_of_le hkl hB.size
    · have hH2 : Holds (Value.int .i64) (putRow (Value.int .i64) (Sort.ahead w n) k 0 (ints9 (trs (memW A) m)).toArray) k 0 (ints9 (trs (memW A) m)).toArray :=
        holds_putRow _ _ _ _ (ints9 A).toArray _ (fun j hj => hH j hj) (by simp [hlen, hl2])
      have h4 := (hH2 j (by simpa [hl2] using hj)).1
      have e : (grow (putRow (Value.int .i64) (Sort.ahead w n) k 0 (ints9 (trs (memW A) m)).toArray) os).cell? ⟨k, 0 + j, none⟩ = (putRow (Value.int .i64) (Sort.ahead w n) k 0 (ints9 (trs (memW A) m)).toArray).cell? ⟨k, 0 + j, none⟩ := by
        unfold World.cell?
        rw [grow_block9 _ _ _ (by rw [size_putRow]; exact hkl)]
      rw [e, h4, ints9_at _ j (by unfold ints9 at hl2; rw [List.length_map] at hl2; omega)]
      rfl
end Go.Proofs.Ytnoaejpabfnfpaa

namespace Go.Proofs.Ytnoaejpabfnfpaa
open Go.RowKit

def smD (x : Da) : Prop := x.n0 ≤ 10000 ∧ x.n1 ≤ 100000 ∧ x.n2 ≤ 1000
def rdPost (Y : Prop) (n2 : Nat) (P : Nat → Prop) (w : World) (e : Ending) (w' : World) : Prop :=
  ∃ p n c T, e = .returned (.slice p n c) ∧ rdBs w' p n T ∧ (¬ Y → n = 0) ∧ (Y → n = n2 ∧ ∀ s, s < n → (T s = true ↔ P s)) ∧ Below w.heap.size w w'
def RchD : Prop := ∀ (v : Value) (x : Da) (w : World), smD x → daAt w v x → Calls Try.prog 45 #[v] w (rdPost (rgD x) x.n2 (fun s => rtE (edD x) x.st.toNat s) w)
def RigD : Prop := ∀ (v : Value) (x : Da) (w : World), smD x → daAt w v x → Calls Try.prog 17 #[v] w fun e w' => e = .returned (.bool (rgB x)) ∧ Below w.heap.size w w'
def RunD : Prop := ∀ (v : Value) (x : Da) (s : Int) (q : Option Addr) (k c : Nat) (l : Nat → Int) (w : World), smD x → k ≤ 10000 → daAt w v x → rdL w q k l →
  Calls Try.prog 40 #[v, .int .i64 s, .slice q k c] w fun e w' => e = .returned (.int .i64 (rnD x s l k)) ∧ Below w.heap.size w w'
noncomputable def acD (x : Da) (l : Nat → Int) (k : Nat) : Bool := @decide (0 ≤ rnD x x.st l k ∧ x.T (rnD x x.st l k).toNat = true) (Classical.propDecidable _)
def AccD : Prop := ∀ (v : Value) (x : Da) (q : Option Addr) (k c : Nat) (l : Nat → Int) (w : World), smD x → k ≤ 10000 → daAt w v x → rdL w q k l →
  Calls Try.prog 18 #[v, .slice q k c] w fun e w' => e = .returned (.bool (acD x l k)) ∧ Below w.heap.size w w'

end Go.Proofs.Ytnoaejpabfnfpaa
