/-
  The walk of the law ShowTexts.
-/
import Derived.Test.YtgjpmfdiidkdnaaDoorPk26
import Derived.Test.YtgjpmfdiidkdnaaDoorPk39
import Derived.Test.YtgjpmfdiidkdnaaDoorPk48
namespace Go.Proofs.YtgjpmfdiidkdnaaDoor
open Go.RowKit

set_option maxRecDepth 100000 in
set_option maxHeartbeats 4000000 in
theorem stx_of (p : Option Addr) (n0 n cap : Nat) (hn : n = min n0 60) (hcap : n0 ≤ cap) (N : Nat → Nd) (w : World) (hT : Tabbed w)
    (hC : ∀ w', Below w.heap.size w w' → Calls Tryd.prog 6 #[.slice p n cap] w' (textPost N n w'))
    (hR : ∀ w', Below w.heap.size w w' → Calls Tryd.prog 7 #[.slice p n cap] w' (rtxtPost N n w')) :
    Calls Tryd.prog 3 #[.slice p n0 cap] w fun e w' => e = .returned (.bool true) ∧ Below w.heap.size w w' := by
  subst hn
  unfold textPost at hC
  unfold rtxtPost at hR
  generalize (showF N (min n0 60)).1 = s at *
  generalize (showF N (min n0 60)).2 = x at *
  have HC := Lib.hid hC; have HR := Lib.hid hR; have HT := Lib.hid hT
  clear hC hR hT
  have m0 : min (n0 : Int) 60 = ((min n0 60 : Nat) : Int) := by omega
  have m1 : (0 : Int) ≤ ((min n0 60 : Nat) : Int) := by omega
  have m2 : ((min n0 60 : Nat) : Int) ≤ (cap : Int) := by omega
  have m3 : min n0 60 ≤ cap := by omega
  go_enter Tryd.func3, Tryd.ntmps3
  go_wp2_with fail
  refine (awake6_any _ HT.out).mono ?_
  rintro e0 w0 ⟨rfl, hb0⟩
  have HB0 := Lib.hid hb0
  clear hb0 HT
  go_wp2_with fail
  refine (HC.out _ HB0.out).mono ?_
  rintro e1 w1 ⟨rfl, hb⟩
  have HB1 := Lib.hid (HB0.out.trans (hb.mono HB0.out.size))
  clear hb HC HB0
  go_wp2_with fail
  refine (HR.out _ HB1.out).mono ?_
  rintro e2 w2 ⟨rfl, hb⟩
  have HB2 := Lib.hid (HB1.out.trans (hb.mono HB1.out.size))
  clear hb HR HB1
  go_wp2_with fail
  go_returns
  exact ⟨rfl, HB2.out⟩
theorem stx_zero (p : Option Addr) (cap : Nat) (w : World) (hT : Tabbed w) :
    Calls Tryd.prog 3 #[.slice p 0 cap] w fun e w' => e = .returned (.bool true) ∧ Below w.heap.size w w' :=
  stx_of p 0 0 cap rfl (Nat.zero_le _) (fun _ => nd0 0) w hT
    (fun w' hb => ctext_any p 0 cap _ (.inl rfl) w' (hT.to hb) (fun _ _ _ j hj => by omega)) (fun w' _ => rtext_any p 0 cap _ (Nat.zero_le _) (.inl rfl) w' (fun _ _ _ j hj => by omega))
theorem stx_some (b off n0 cap : Nat) (hcap : n0 ≤ cap) (_hpos : 0 < n0) (N : Nat → Nd) (hw : ∀ j, j < n0 → okW (N j)) (w : World) (hT : Tabbed w) (hr : rdN w b off n0 N) :
    Calls Tryd.prog 3 #[.slice (some ⟨b, off, none⟩) n0 cap] w fun e w' => e = .returned (.bool true) ∧ Below w.heap.size w w' := by
  have hr' := hr.take (min n0 60) (by omega)
  have hw' : ∀ j, j < min n0 60 → okW (N j) := fun j hj => hw j (by omega)
  exact stx_of _ n0 _ cap rfl hcap N w hT
    (fun w' hb => ctext_any _ _ cap N (.inr ⟨b, off, rfl, hw'⟩) w' (hT.to hb) (fun b' off' h => by cases h; exact hr'.below hb))
    (fun w' hb => rtext_any _ _ cap N (by omega) (.inr ⟨b, off, rfl, hw'⟩) w' (fun b' off' h => by cases h; exact hr'.below hb))
end Go.Proofs.YtgjpmfdiidkdnaaDoor
