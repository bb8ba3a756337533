/-
  The walks of the eleventh reference's Word and Run.
-/
import Derived.Test.YtnoaejpabfnfpaaPk11
import Derived.Test.YtnoaejpabfnfpaaPk19
import Derived.Test.YtnoaejpabfnfpaaPk8
namespace Go.Proofs.Ytnoaejpabfnfpaa
open Go.RowKit

/-- Numbers that are read, as a list. -/
def rdW (w : World) (v : Value) (l : List Nat) : Prop := ∃ p c, v = .slice p l.length c ∧ rdL w p l.length (fun j => (l.getD j 0 : Nat))
theorem spO.rdW {w : World} {base : Nat} {v : Value} {l : List Nat} (h : spO w base v l) : rdW w v l := by
  rcases id h.2 with ⟨rfl, h0⟩ | ⟨g, cap, cur, rfl, _⟩
  · refine ⟨none, 0, by rw [h0], fun j hj => by omega⟩
  · exact ⟨_, cap, rfl, spO.rd11 h⟩
theorem bytes_range (tx : Nat → Nat) (i k : Nat) (pre : List Nat) : pre ++ (List.range (k + 1)).map (fun q => tx (i + q)) = (pre ++ (List.range k).map (fun q => tx (i + q))) ++ [tx (i + k)] := by
  rw [List.range_succ, List.map_append, List.append_assoc]; rfl
theorem wrY_lt {n : Nat} {tx : Nat → Nat} (ht : ∀ k, tx k < 256) {i j : Nat} : ∀ y, y ∈ wrY n tx i j → y < 259 := by
  intro y hy
  unfold wrY at hy
  split at hy
  · simp at hy; omega
  · simp only [List.mem_append, List.mem_map, List.mem_range] at hy
    rcases hy with (h | ⟨q, _, rfl⟩) | h
    · split at h
      · simp at h; omega
      · cases h
    · have := ht (i + q); omega
    · split at h
      · simp at h; omega
      · cases h
theorem wrY_len {n : Nat} {tx : Nat → Nat} {i j : Nat} (hj : j ≤ n) : (wrY n tx i j).length ≤ n + 2 := by
  unfold wrY
  split
  · simp
  · simp only [List.length_append, List.length_map, List.length_range]
    split <;> split <;> simp <;> omega

/-- What a word leads to is a state, all along. -/
def okRun (S : Nat → Sd) (m : Nat) (F : Ms) (n s : Nat) (l : List Nat) : Prop := ∀ k, k ≤ l.length → rnY S m F s (l.take k) < n
theorem rnY_step {S : Nat → Sd} {m : Nat} {F : Ms} {s k y : Nat} {l : List Nat} (h : l[k]? = some y) : rnY S m F s (l.take (k + 1)) = nxY S m F (rnY S m F s (l.take k)) y := by
  unfold rnY
  rw [List.take_add_one, h]
  simp [List.foldl_append]

end Go.Proofs.Ytnoaejpabfnfpaa
