/-
  The walk of dfa.Word.
-/
import Derived.Test.YtnoaejpabfnfpaaPk34
import Derived.Laws.IdiomStrings
namespace Go.Proofs.Ytnoaejpabfnfpaa
open Go.RowKit

/-- A row of numbers grows beside a block of bytes. -/
theorem bytes_apart {w w' : World} {base g : Nat} {v : Value} {l : List Nat} {C : Array Value} {fr : Nat × Nat} (h : spO w base v l) (hg : w.heap[g]? = some (.cells C 5 fr)) (hgr : w.grownBy w' v.ownBlock) : w'.heap[g]? = some (.cells C 5 fr) := by
  rw [hgr.block g (lt_of_block hg) fun e => ?_]
  · exact hg
  · rcases id h.2 with ⟨rfl, _⟩ | ⟨k, cp, cur, rfl, hk, p1, _⟩
    · cases e
    · cases e
      rw [hg] at p1
      simp at p1
theorem tx7_ext (s : ByteArray) (i j q : Nat) (hj : j ≤ s.size) (hq : q < j - i) : tx7 (s.extract i j) q = tx7 s (i + q) := by
  have h1 : q < (s.extract i j).size := by rw [ByteArray.size_extract]; omega
  unfold tx7
  rw [dif_pos h1, dif_pos (by omega)]
  rw [ByteArray.getElem_extract]

end Go.Proofs.Ytnoaejpabfnfpaa
