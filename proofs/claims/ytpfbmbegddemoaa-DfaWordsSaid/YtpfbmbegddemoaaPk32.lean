/-
  What the twelfth laws ask of the code: contracts; whether an automaton is small.
-/
import Derived.Test.YtpfbmbegddemoaaPk31
import Derived.Deep.RegionHeldLaw
namespace Go.Proofs.Ytpfbmbegddemoaa
open Go.RowKit

def smD (x : Da) : Prop := x.n0 ≤ 10000 ∧ x.n1 ≤ 100000 ∧ x.n2 ≤ 1000
def rdPost (Y : Prop) (n2 : Nat) (P : Nat → Prop) (w : World) (e : Ending) (w' : World) : Prop :=
  ∃ p n c T, e = .returned (.slice p n c) ∧ rdBs w' p n T ∧ (¬ Y → n = 0) ∧ (Y → n = n2 ∧ ∀ s, s < n → (T s = true ↔ P s)) ∧ Below w.heap.size w w'
/-- dfa.Live, dfa.Reach. -/
def LivD : Prop := ∀ (v : Value) (x : Da) (w : World), smD x → daAt w v x → Calls Try.prog 14 #[v] w (rdPost (rgD x) x.n2 (fun s => ∃ k, k < x.n2 ∧ rtE (edD x) s k ∧ x.T k = true) w)
def RchD : Prop := ∀ (v : Value) (x : Da) (w : World), smD x → daAt w v x → Calls Try.prog 15 #[v] w (rdPost (rgD x) x.n2 (fun s => rtE (edD x) x.st.toNat s) w)
def RigD : Prop := ∀ (v : Value) (x : Da) (w : World), smD x → daAt w v x → Calls Try.prog 10 #[v] w fun e w' => e = .returned (.bool (rgB x)) ∧ Below w.heap.size w w'
def RunD : Prop := ∀ (v : Value) (x : Da) (s : Int) (q : Option Addr) (k c : Nat) (l : Nat → Int) (w : World), smD x → k ≤ 10000 → daAt w v x → rdL w q k l →
  Calls Try.prog 12 #[v, .int .i64 s, .slice q k c] w fun e w' => e = .returned (.int .i64 (rnD x s l k)) ∧ Below w.heap.size w w'
def GooD : Prop := ∀ (v : Value) (x : Da) (s y : Int) (w : World), smD x → daAt w v x →
  Calls Try.prog 9 #[v, .int .i64 s, .int .i64 y] w fun e w' => e = .returned (.int .i64 (rnD x s (fun _ => y) 1)) ∧ Below w.heap.size w w'
noncomputable def acD (x : Da) (l : Nat → Int) (k : Nat) : Bool := @decide (0 ≤ rnD x x.st l k ∧ x.T (rnD x x.st l k).toNat = true) (Classical.propDecidable _)
def AccD : Prop := ∀ (v : Value) (x : Da) (q : Option Addr) (k c : Nat) (l : Nat → Int) (w : World), smD x → k ≤ 10000 → daAt w v x → rdL w q k l →
  Calls Try.prog 13 #[v, .slice q k c] w fun e w' => e = .returned (.bool (acD x l k)) ∧ Below w.heap.size w w'

set_option maxRecDepth 100000 in
set_option maxHeartbeats 4000000 in
theorem small12 (q0 : Option Addr) (n0 c0 : Nat) (wd st : Int) (q1 : Option Addr) (n1 c1 : Nat) (q2 : Option Addr) (n2 c2 : Nat) (w : World) :
    Calls Try.prog 7 #[dfV q0 n0 c0 wd st q1 n1 c1 q2 n2 c2] w fun e w' => e = .returned (.bool (decide ((n2 : Int) ≤ 12) && decide ((n1 : Int) ≤ 4000) && decide ((n0 : Int) ≤ 300))) ∧ Below w.heap.size w w' := by
  have HB : Hid (Below w.heap.size w (w.alloc (.cells #[.slice q0 n0 c0, .int .i64 wd, .int .i64 st, .slice q1 n1 c1, .slice q2 n2 c2] 25))) := Lib.hid ((Below.refl _ _).alloc (Nat.le_refl _) _)
  cases h1 : decide ((n2 : Int) ≤ 12) <;> cases h2 : decide ((n1 : Int) ≤ 4000) <;> cases h3 : decide ((n0 : Int) ≤ 300)
  all_goals
    go_enter Try.func7, Try.ntmps7
    go_wp2_with fail
    go_returns
    exact ⟨rfl, HB.out⟩
end Go.Proofs.Ytpfbmbegddemoaa
