/-
  The walk of the twelfth laws' awake, over whatever the code answers that does as the page says.
-/
import Derived.Test.YtnoaejpabfnfpaaPk32
import Derived.Test.YtnoaejpabfnfpaaPk31
import Derived.Test.YtnoaejpabfnfpaaPk33
import Derived.Test.YtnoaejpabfnfpaaPk10
namespace Go.Proofs.Ytnoaejpabfnfpaa
open Go.RowKit

def SamD : Prop := ∀ (v v' : Value) (x y : Da) (w : World), x.n0 ≤ maxLen → x.n1 ≤ maxLen → x.n2 ≤ maxLen → y.n0 ≤ maxLen → y.n1 ≤ maxLen → y.n2 ≤ maxLen → daAt w v x → daAt w v' y →
  Calls Try.prog 20 #[v, v'] w fun e w' => e = .returned (.bool (saB x y)) ∧ Below w.heap.size w w'
theorem build_df12 (q0 : Option Addr) (n0 c0 : Nat) (wd : Int) (q1 : Option Addr) (n1 c1 : Nat) (q2 : Option Addr) (n2 c2 : Nat) (w : World) : (Instr.build 25 #[(0, .slice q0 n0 c0), (1, .int .i64 wd), (3, .slice q1 n1 c1), (4, .slice q2 n2 c2)]).run Try.prog w = .ok (dfV q0 n0 c0 wd 0 q1 n1 c1 q2 n2 c2) w := by kernel_rfl
/-- The automaton of one state. -/
def x12 : Da := ⟨259, fun _ => 0, 1, 0, 1, fun _ => 0, 1, fun _ => true⟩
theorem x12_rg : rgD x12 := by
  unfold rgD x12
  refine ⟨rfl, by decide, by decide, by decide, by decide, by decide, by decide, by decide, fun _ _ => ⟨Int.le_refl 0, Int.zero_lt_one⟩, fun _ _ => ⟨Int.le_refl 0, Int.zero_lt_one⟩⟩
theorem x12_rn (l : Nat → Int) (h0 : l 0 = 256) (h1 : l 1 = 97) : rnD x12 x12.st l 2 = 0 := by
  have hg : ∀ s y, goD x12 s y = 0 := fun _ _ => rfl
  unfold rnD
  rw [if_pos ⟨rgB_yes x12_rg, by decide, by decide⟩]
  simp [rwD, h0, h1, hg]
theorem x12_ac (l : Nat → Int) (h0 : l 0 = 256) (h1 : l 1 = 97) : acD x12 l 2 = true := by
  have h := x12_rn l h0 h1
  rw [(acD_is x12 l 2).2 (by rw [h]; decide)]
  rfl
theorem x12_sm : smD x12 := ⟨by decide, by decide, by decide⟩
theorem ab_wr : wrY 2 (tx7 ⟨#[97, 98]⟩) 0 1 = [256, 97] := by decide

end Go.Proofs.Ytnoaejpabfnfpaa
