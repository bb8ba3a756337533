/-
  The tokens of a text, as the fifth layer reads them.
-/
import Derived.Test.YtiahgcgpakgeeaaDoorPk9
import Derived.Test.YtiahgcgpakgeeaaDoorPk37
import Derived.Test.YtiahgcgpakgeeaaDoorPk40
namespace Go.Proofs.YtiahgcgpakgeeaaDoor
open Go.RowKit

def tn_of (r : Tka) : Tn := ⟨r.1, r.2.1, (wd r.2.2.1 0 : Int), (wd r.2.2.1 1 : Int), (wd r.2.2.1 2 : Int), (wd r.2.2.1 3 : Int), r.2.2.2.1, r.2.2.2.2⟩
def tof (l : List Tka) (j : Nat) : Tn := match l[j]? with | some r => tn_of r | none => ⟨0, 0, 0, 0, 0, 0, 0, 0⟩
theorem tof_get (l : List Tka) (j : Nat) (h : j < l.length) : tof l j = tn_of l[j] := by unfold tof; rw [List.getElem?_eq_getElem h]
/-- A row of tokens that a call made: none, or as many as its cells are. -/
theorem toks_own {w : World} {base : Nat} {v : Value} {l : List Tka} (h : w.ownsRow base 45 8 v l.length (tvs l)) :
    (v = .slice none 0 0 ∧ l.length = 0) ∨ ∃ g cap, v = .slice (some ⟨g, 0, none⟩) l.length cap ∧ l.length ≤ cap ∧ rdTn w g 0 l.length (tof l) := by
  have hr := rdT_of_owns h
  rcases h.2 with ⟨rfl, h0⟩ | ⟨g, cap, cur, rfl, _, _, hcap, _, _, _⟩
  · exact .inl ⟨rfl, h0⟩
  · rcases hr with ⟨h0, h1⟩ | ⟨b, off, cap', hv, hb, hc⟩
    · cases h0
    · simp only [Value.slice.injEq, Option.some.injEq, Addr.mk.injEq, true_and, and_true] at hv
      obtain ⟨⟨rfl, rfl⟩, rfl⟩ := hv
      exact .inr ⟨g, cap, rfl, hcap, fun j hj => ⟨hb, by rw [tof_get l j hj]; exact hc j hj⟩⟩
/-- What Pattern tells. -/
def patF (p : ByteArray) : Option (List Nd) × Int × Int :=
  if 200 < p.size then (none, 0, 4) else match (toks p).1 with | some l => ofF (tof l) l.length p.size | none => (none, ((toks p).2 : Int), 3)
theorem ofPost.form {r : Option (List Nd) × Int × Int} {w w' : World} {e : Ending} (h : ofPost r w e w') : ∃ v, e = .returned (.tuple #[v, .int .i64 r.2.1, .int .i64 r.2.2]) := by
  obtain ⟨h1, h2, -⟩ := h
  cases hr : r.1 with
  | none => exact ⟨_, h2 hr⟩
  | some l => obtain ⟨v, hv, -⟩ := h1 l hr; exact ⟨v, hv⟩
theorem ofPost.lift {r : Option (List Nd) × Int × Int} {w w1 w' : World} {e : Ending} (h : ofPost r w1 e w') (hb : Below w.heap.size w w1) : ofPost r w e w' :=
  ⟨fun l hl => by obtain ⟨v, hv, ho⟩ := h.1 l hl; exact ⟨v, hv, owns_mono ho hb.size⟩, h.2.1, hb.trans (h.2.2.mono hb.size)⟩
end Go.Proofs.YtiahgcgpakgeeaaDoor
