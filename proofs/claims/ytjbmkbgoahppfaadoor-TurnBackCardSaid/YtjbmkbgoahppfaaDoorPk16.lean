/-
  The walk of the fifth reference's Of at no token.
  The walk of the reference's Join.
  Two statements of the third reference's Bracket that draw their order, each as a theorem of its own. The walk of the third reference's Bracket. The walk of the third reference's Bracket at a text's last byte. The contract of the third reference's Bracket, at any place of a text.
  The walk of the third reference's Token. The walk of the third reference's Token, at what is no sign.
  The walk of lex's Tokens. The walk of the third laws' awake: the page's example holds. The walk of the third reference's Tokens. The walk of the law LexTokens, given the third reference's Token: it answers true, at any text. The walk of the law LexTokens: it answers true, at any text. The door's own heap meets the conditions on the package-level variables; the wrap that hands on both those conditions and the world's shape. LexTokens, for every text: it is the reference's tokens, or it is told where the first one begins that cannot be made. Condition: when the call begins, the package-level variables that the row lists read as the program's text lays them (the card ties that to the text).
  The tokens of a text, as the fifth layer reads them.
  The leaves of a tree against a text's tokens, one by one: the plain mathematics.
-/
import Derived.Test.YtjbmkbgoahppfaaDoorPk3
import Derived.Test.YtjbmkbgoahppfaaDoorPk6
import Derived.Test.YtjbmkbgoahppfaaDoorPk13
import Derived.BigQuiet
import Derived.Deep.Cut
import Derived.Deep.CutRange
import Derived.Deep.RegionHeldLaw
import Derived.Deep.QuietTactic
import Derived.Deep.RegionWith
import Derived.Laws.AppendOwn
import Derived.Test.YtjbmkbgoahppfaaDoorCards
import Derived.Test.YtjbmkbgoahppfaaDoorTie
import Derived.SevenTiedAt
import Derived.WalkKit
import Derived.ProofKit
import Derived.OpenShut
import Derived.Below
import Derived.Test.YtjbmkbgoahppfaaDoorPk1
namespace Go.Proofs.YtjbmkbgoahppfaaDoor
open Go.RowKit

theorem ofF_zero (T : Nat → Tn) (end_ : Int) : ofF T 0 end_ = (some [nd0 2], 0, 0) := by
  have h1 : wrF T 0 (0 + 1) 0 0 = (-1, 0, 0) := by unfold wrF; rw [if_pos (by omega)]
  have h2 : bhF T 0 (ei T 0 0) 0 = ([nd0 2], 0) := by
    unfold bhF behL
    rw [if_neg (fun h => by omega)]; rfl
  have h3 : ei T 0 (0 + 1) 0 = ([nd0 2], 0) := by
    show eiF T 0 (ei T 0 0) 0 = _
    unfold eiF
    rw [h2]
    unfold eiL
    rw [if_neg (fun h => by omega)]
  unfold ofF
  rw [h1, h3]
  simp
end Go.Proofs.YtjbmkbgoahppfaaDoor

namespace Go.Proofs.YtjbmkbgoahppfaaDoor
open Go.RowKit

/-- What Join puts: kind 0: in either; 1: in both; 2: in the first one alone. -/
def sel (kind : Nat) (x y : Bool) : Bool := match kind with
  | 0 => x || y
  | 1 => x && y
  | _ => x && !y
/-- .. of the numbers below k. -/
def joinTo (kind : Nat) (f g : Nat → Bool) (k x : Nat) : Bool := decide (x < k) && sel kind (f x) (g x)
theorem joinTo_hit (kind : Nat) (f g : Nat → Bool) (k : Nat) (h : sel kind (f k) (g k) = true) : put (joinTo kind f g k) k = joinTo kind f g (k + 1) := by
  funext x
  unfold put joinTo
  by_cases hx : x = k
  · subst hx; simp [h]
  · by_cases h1 : x < k
    · have : x < k + 1 := by omega
      simp [h1, this, hx]
    · have : ¬ x < k + 1 := by omega
      simp [h1, this, hx]
theorem joinTo_miss (kind : Nat) (f g : Nat → Bool) (k : Nat) (h : sel kind (f k) (g k) = false) : joinTo kind f g k = joinTo kind f g (k + 1) := by
  funext x
  unfold joinTo
  by_cases hx : x = k
  · subst hx; simp [h]
  · by_cases h1 : x < k
    · have : x < k + 1 := by omega
      simp [h1, this]
    · have : ¬ x < k + 1 := by omega
      simp [h1, this]

/-- The state of Join's loop, k numbers on. -/
def joinR (kind : Nat) (f g : Nat → Bool) (w : World) (k : Nat) (wr : World) : Prop :=
  isSet wr w.heap.size f ∧ isSet wr (w.heap.size + 1) g ∧ isSet wr (w.heap.size + 1 + 1) (fun _ => false) ∧ isSet wr (w.heap.size + 1 + 1 + 1) (joinTo kind f g k) ∧ Below w.heap.size w wr
theorem joinR_start (kind : Nat) (f g : Nat → Bool) (w : World) : joinR kind f g w 0 ((((w.alloc (.cells #[.int .u64 (wd f 0 : Int), .int .u64 (wd f 1 : Int), .int .u64 (wd f 2 : Int), .int .u64 (wd f 3 : Int)] 38)).alloc (.cells #[.int .u64 (wd g 0 : Int), .int .u64 (wd g 1 : Int), .int .u64 (wd g 2 : Int), .int .u64 (wd g 3 : Int)] 38)).alloc
    (.cells #[.int .u64 0, .int .u64 0, .int .u64 0, .int .u64 0] 38)).alloc (.cells #[.int .u64 0, .int .u64 0, .int .u64 0, .int .u64 0] 38)) := by
  have h0 : joinTo kind f g 0 = fun _ => false := by funext x; simp [joinTo]
  refine ⟨(((isSet.new w f).alloc _).alloc _).alloc _, ?_, ?_, ?_, ((((Below.refl _ _).alloc (Nat.le_refl _) _).alloc (by simp) _).alloc (by simp; omega) _).alloc (by simp; omega) _⟩
  · have := ((isSet.new (w.alloc (.cells #[.int .u64 (wd f 0 : Int), .int .u64 (wd f 1 : Int), .int .u64 (wd f 2 : Int), .int .u64 (wd f 3 : Int)] 38)) g).alloc (.cells #[.int .u64 0, .int .u64 0, .int .u64 0, .int .u64 0] 38)).alloc (.cells #[.int .u64 0, .int .u64 0, .int .u64 0, .int .u64 0] 38)
    simpa only [World.size_alloc] using this
  · have := (isSet.newNone ((w.alloc (.cells #[.int .u64 (wd f 0 : Int), .int .u64 (wd f 1 : Int), .int .u64 (wd f 2 : Int), .int .u64 (wd f 3 : Int)] 38)).alloc (.cells #[.int .u64 (wd g 0 : Int), .int .u64 (wd g 1 : Int), .int .u64 (wd g 2 : Int), .int .u64 (wd g 3 : Int)] 38))).alloc (.cells #[.int .u64 0, .int .u64 0, .int .u64 0, .int .u64 0] 38)
    simpa only [World.size_alloc] using this
  · rw [h0]
    have := isSet.newNone (((w.alloc (.cells #[.int .u64 (wd f 0 : Int), .int .u64 (wd f 1 : Int), .int .u64 (wd f 2 : Int), .int .u64 (wd f 3 : Int)] 38)).alloc (.cells #[.int .u64 (wd g 0 : Int), .int .u64 (wd g 1 : Int), .int .u64 (wd g 2 : Int), .int .u64 (wd g 3 : Int)] 38)).alloc (.cells #[.int .u64 0, .int .u64 0, .int .u64 0, .int .u64 0] 38))
    simpa only [World.size_alloc] using this

end Go.Proofs.YtjbmkbgoahppfaaDoor

namespace Go.Proofs.YtjbmkbgoahppfaaDoor
open Go.RowKit

/-- A region of a code, by its number. -/
def findReg (k : Nat) : Code → Option Code
  | .region j ops d => if j = k then some (.region j ops d) else none
  | .seq a b => match findReg k a with
    | some c => some c
    | none => findReg k b
  | .cond _ a b => match findReg k a with
    | some c => some c
    | none => findReg k b
  | .block _ c => findReg k c
  | .loop c => findReg k c
  | .scope c => findReg k c
  | _ => none
theorem wp_false {P : Program} {s : Code} {K K' : Act → World → Prop} {Q : Exit → Act → World → Prop} {a : Act} {w : World} (h : s.wp P (Exit.then K (fun _ _ _ => False)) a w) (hK : ∀ a' w', K a' w' → K' a' w') : s.wp P (Exit.then K' Q) a w := by
  refine wp_mono h ?_
  intro e a' w' hq
  cases e with
  | normal => exact hK _ _ hq
  | exit id => exact hq.elim
  | goto l => exact hq.elim
  | ret => exact hq.elim
  | panic ch => exact hq.elim
  | outgrown => exact hq.elim

end Go.Proofs.YtjbmkbgoahppfaaDoor

namespace Go.Proofs.YtjbmkbgoahppfaaDoor
open Go.RowKit

/-- The bracket at a place. -/
def bkF (p : ByteArray) (k : Nat) : Nat → Bool := match brk p k with | some r => r.1 | none => fun _ => false
def bkN (p : ByteArray) (k : Nat) : Nat := match brk p k with | some r => r.2 | none => 0
def bkOk (p : ByteArray) (k : Nat) : Bool := match brk p k with | some _ => true | none => false
theorem oneF_lt (f : Nat → Bool) (nm : Bool) : oneF f nm < 256 := by
  unfold oneF
  split
  · decide
  · split
    · rename_i h
      have hm : (bl f 256).headD 0 ∈ bl f 256 := by
        cases hl : bl f 256 with
        | nil => rw [hl] at h; cases h
        | cons a l => simp
      have hm2 := List.mem_range.1 (List.mem_filter.1 hm).1
      exact Int.ofNat_lt.2 hm2
    · decide
end Go.Proofs.YtjbmkbgoahppfaaDoor

namespace Go.Proofs.YtjbmkbgoahppfaaDoor
open Go.RowKit

end Go.Proofs.YtjbmkbgoahppfaaDoor

namespace Go.Proofs.YtjbmkbgoahppfaaDoor
open Go.RowKit

end Go.Proofs.YtjbmkbgoahppfaaDoor

namespace Go.Proofs.YtjbmkbgoahppfaaDoor
open Go.RowKit

/-- What Token answers. -/
def rtokPost (t : Option (Tk × Nat)) (k : Nat) (w : World) (e : Ending) (w' : World) : Prop :=
  (∀ r n, t = some (r, n) → e = .returned (.tuple #[tkv r.1 (k : Int) r.2.1 r.2.2.1 r.2.2.2, .int .i64 (n : Nat)])) ∧ (t = none → ∃ a b : Int, e = .returned (.tuple #[tkv a b (fun _ => false) 0 0, .int .i64 0])) ∧ Below w.heap.size w w'
theorem rtokPost.good {t : Option (Tk × Nat)} {k n : Nat} {w w' : World} {r : Tk} {v : Value} {x : Int} (h : t = some (r, n)) (hv : v = tkv r.1 (k : Int) r.2.1 r.2.2.1 r.2.2.2) (hx : x = (n : Nat)) (hb : Below w.heap.size w w') : rtokPost t k w (.returned (.tuple #[v, .int .i64 x])) w' := by
  subst h
  refine ⟨fun r' n' h => ?_, fun h => (by cases h), hb⟩
  obtain ⟨e1, e2⟩ := Prod.mk.inj (Option.some.inj h)
  rw [← e1, ← e2, hv, hx]
theorem rtokPost.bad {t : Option (Tk × Nat)} {k : Nat} {w w' : World} {v : Value} {a b : Int} (h : t = none) (hv : v = tkv a b (fun _ => false) 0 0) (hb : Below w.heap.size w w') : rtokPost t k w (.returned (.tuple #[v, .int .i64 0])) w' := by
  subst h
  exact ⟨fun r' n' h => (by cases h), fun _ => ⟨a, b, by rw [hv]⟩, hb⟩

end Go.Proofs.YtjbmkbgoahppfaaDoor

namespace Go.Proofs.YtjbmkbgoahppfaaDoor
open Go.RowKit

theorem oft_zero {p : ByteArray} {k : Nat} (h : (oftF p k).2.2 = 0) : oftF p k = (0, 0, 0) := by
  rw [oft_eqk] at h ⊢
  split
  · rfl
  · rename_i h1
    rw [if_neg h1] at h
    split
    · rename_i h2; rw [if_pos h2] at h; simp at h
    · rename_i h2
      rw [if_neg h2] at h
      split
      · rfl
      · rename_i h3
        rw [if_neg h3] at h
        split
        · rename_i h4; rw [if_pos h4] at h; simp at h
        · rename_i h4
          rw [if_neg h4] at h
          split
          · rfl
          · rename_i h5; rw [if_neg h5] at h; simp at h

theorem dot_one : dotF = fun x => !oneR 10 x := by
  funext x
  unfold dotF oneR
  rw [← Bool.decide_and]
  exact congrArg _ (decide_eq_decide.2 (by omega))
end Go.Proofs.YtjbmkbgoahppfaaDoor

namespace Go.Proofs.YtjbmkbgoahppfaaDoor
open Go.RowKit

end Go.Proofs.YtjbmkbgoahppfaaDoor

namespace Go.Proofs.YtjbmkbgoahppfaaDoor
open Go.RowKit

def exB : ByteArray := { data := #[97, 91, 98, 45, 100, 93, 123, 50, 44, 125] }
/-- What a token is, so that it can be reckoned. -/
def summ (r : Tka) : Int × Int × List Nat × Int × Int := (r.1, r.2.1, bl r.2.2.1 256, r.2.2.2.1, r.2.2.2.2)
theorem ex_summ : (toks exB).1.map (fun l => l.map summ) = some [(1, 0, [97], 0, 0), (1, 1, [98, 99, 100], 0, 0), (5, 6, [], 2, -1)] ∧ (toks exB).2 = 0 := by decide +kernel
theorem sv_bl {f : Nat → Bool} {l : List Nat} (h : bl f 256 = l) : sv f = sv (inl l) := by
  apply sv_congr
  intro k hk
  have : k ∈ bl f 256 ↔ k ∈ l := by rw [h]
  unfold bl at this
  rw [List.mem_filter, List.mem_range] at this
  unfold inl
  cases hf : f k
  · have hn : ¬ k ∈ l := fun h' => by have := (this.2 h').2; rw [hf] at this; cases this
    simp [hn]
  · have hn : k ∈ l := this.1 ⟨hk, hf⟩
    simp [hn]
theorem bd_lit : sv (inl [98, 99, 100]) = .agg #[.int .u64 0, .int .u64 120259084288, .int .u64 0, .int .u64 0] := by
  have h0 : wd (inl [98, 99, 100]) 0 = 0 := by decide +kernel
  have h1 : wd (inl [98, 99, 100]) 1 = 120259084288 := by decide +kernel
  have h2 : wd (inl [98, 99, 100]) 2 = 0 := by decide +kernel
  have h3 : wd (inl [98, 99, 100]) 3 = 0 := by decide +kernel
  unfold sv; rw [h0, h1, h2, h3] <;> rfl
theorem no_lit : sv (inl []) = .agg #[.int .u64 0, .int .u64 0, .int .u64 0, .int .u64 0] := by
  have h0 : ∀ i, wd (inl []) i = 0 := fun i => word_none _ _ fun j _ => by simp [inl]
  unfold sv; rw [h0, h0, h0, h0] <;> rfl
theorem range_bd (w : World) : Calls Tryd.prog 77 #[.int .u8 98, .int .u8 100] w fun e w' => e = .returned (.agg #[.int .u64 0, .int .u64 120259084288, .int .u64 0, .int .u64 0]) ∧ Below w.heap.size w w' := by
  have := range_any 98 100 (by decide) (by decide) w
  rw [sv_bl (l := [98, 99, 100]) (by decide +kernel), bd_lit] at this
  exact this
theorem wd_of_sv {f : Nat → Bool} {a b c d : Int} (h : sv f = .agg #[.int .u64 a, .int .u64 b, .int .u64 c, .int .u64 d]) : (wd f 0 : Int) = a ∧ (wd f 1 : Int) = b ∧ (wd f 2 : Int) = c ∧ (wd f 3 : Int) = d := by
  unfold sv at h
  simpa using h
theorem ex_cells {w : World} {v : Value} {l : List Tka} {n : Nat} (h : toks exB = (some l, n)) (hr : rdT w v l) : ∃ b off cap, v = .slice (some ⟨b, off, none⟩) 3 cap ∧ b < w.heap.size ∧
    (w.cell? ⟨b, off + 8, none⟩ = some (.int .i64 1) ∧ w.cell? ⟨b, off + 8 + 1, none⟩ = some (.int .i64 1) ∧ w.cell? ⟨b, off + 8 + 2, none⟩ = some (.int .u64 0) ∧ w.cell? ⟨b, off + 8 + 3, none⟩ = some (.int .u64 120259084288) ∧ w.cell? ⟨b, off + 8 + 4, none⟩ = some (.int .u64 0) ∧ w.cell? ⟨b, off + 8 + 5, none⟩ = some (.int .u64 0) ∧ w.cell? ⟨b, off + 8 + 6, none⟩ = some (.int .i64 0) ∧ w.cell? ⟨b, off + 8 + 7, none⟩ = some (.int .i64 0)) ∧
    (w.cell? ⟨b, off + 16, none⟩ = some (.int .i64 5) ∧ w.cell? ⟨b, off + 16 + 1, none⟩ = some (.int .i64 6) ∧ w.cell? ⟨b, off + 16 + 2, none⟩ = some (.int .u64 0) ∧ w.cell? ⟨b, off + 16 + 3, none⟩ = some (.int .u64 0) ∧ w.cell? ⟨b, off + 16 + 4, none⟩ = some (.int .u64 0) ∧ w.cell? ⟨b, off + 16 + 5, none⟩ = some (.int .u64 0) ∧ w.cell? ⟨b, off + 16 + 6, none⟩ = some (.int .i64 2) ∧ w.cell? ⟨b, off + 16 + 7, none⟩ = some (.int .i64 (-1))) := by
  have hs := ex_summ.1
  rw [h] at hs
  have hl : l.map summ = [(1, 0, [97], 0, 0), (1, 1, [98, 99, 100], 0, 0), (5, 6, [], 2, -1)] := Option.some.inj hs
  match l, hl, hr with
  | [r0, r1, r2], hl, hr =>
    obtain ⟨k1, a1, f1, lo1, hi1⟩ := r1
    obtain ⟨k2, a2, f2, lo2, hi2⟩ := r2
    simp only [List.map_cons, List.map_nil, List.cons.injEq, summ, Prod.mk.injEq, and_true] at hl
    obtain ⟨_, ⟨rfl, rfl, e1, rfl, rfl⟩, rfl, rfl, e2, rfl, rfl⟩ := hl
    obtain ⟨x0, x1, x2, x3⟩ := wd_of_sv ((sv_bl e1).trans bd_lit)
    obtain ⟨y0, y1, y2, y3⟩ := wd_of_sv ((sv_bl e2).trans no_lit)
    rcases hr with ⟨_, h0⟩ | ⟨b, off, cap, hv, hb, hc⟩
    · cases h0
    · have c1 := hc 1 (by simp)
      have c2 := hc 2 (by simp)
      simp only [List.getElem_cons_succ, List.getElem_cons_zero, tokAt, x0, x1, x2, x3, y0, y1, y2, y3] at c1 c2
      exact ⟨b, off, cap, hv, hb, c1, c2⟩

end Go.Proofs.YtjbmkbgoahppfaaDoor

namespace Go.Proofs.YtjbmkbgoahppfaaDoor
open Go.RowKit

end Go.Proofs.YtjbmkbgoahppfaaDoor

namespace Go.Proofs.YtjbmkbgoahppfaaDoor
open Go.RowKit

end Go.Proofs.YtjbmkbgoahppfaaDoor

namespace Go.Proofs.YtjbmkbgoahppfaaDoor
open Go.RowKit

end Go.Proofs.YtjbmkbgoahppfaaDoor

namespace Go.Proofs.YtjbmkbgoahppfaaDoor
open Go.ChangeShapes Go.WideShapes Go.ChangeAt Go.RowKit

theorem own : ownKnob Tryd.prog.godebug = none := by kernel_rfl
theorem wrap_both {H : Type} {enc : TypeId × Value → H} {a : Assume} {C : Checked} {os : Os} {f : FuncId} {fn : Func} {s : ChangeSpec} {conds : List PathCond} {apart fresh handsOn again : Bool} {X : World → Array Value → Prop}
    (hX : ∀ (w w' : World) (args : Array Value), w.heap = w'.heap → X w args → X w' args)
    (own : ownKnob C.prog.godebug = none) (started : os.Started) (noInit : C.prog.inits.idxOf? f = none) (hfn : C.prog.funcs[f]? = some fn)
    (witness : ∃ (w : World) (tape : Tape) (i : Input), w.os = os ∧ (w.forCall tape i).Shaped C.prog ∧ i.vars = [] ∧ Input.okWide C.prog (w.forCall tape i) .any w.heap.size f i ∧
      ((s.pre enc C.prog fn conds apart (w.forCall tape i).memory i.args ∧ X (w.forCall tape i).memory i.args) ∧ sizedMet enc C.prog fn (OpenSpec.ofChange s) apart (w.forCall tape i).memory i.args) ∧ a.holds C.prog (lone (Frame.enter C.prog f i.args .normal) [] (w.forCall tape i)))
    (contract : ∀ (W : World) (base : Nat) (args : Array Value) (ds gs : List (DataW H)) (before : List MemPlace),
      (∀ (j : Nat) t v, fn.params[j]? = some t → args[j]? = some v → Value.okWide C.prog W .any base t v) →
      DataW.Whole enc C.prog fn.params.toList s.vars apart W args.toList ds gs before → X W args → W.ShapedOpen C.prog →
      (DataW.weightsEach C.prog (fn.params.toList ++ s.plain.varTypes C.prog) (ds ++ gs)).all (· ≤ reachBytes) = true →
      Calls C.prog f args W fun e W' => ∃ v, e = .returned v ∧ s.post enc C.prog fn apart fresh handsOn again W args v W') :
    ReturnsInHanded a C os f .any (fun w args => (s.pre enc C.prog fn conds apart w args ∧ X w args) ∧ sizedMet enc C.prog fn (OpenSpec.ofChange s) apart w args) (s.post enc C.prog fn apart fresh handsOn again) := by
  refine returnsInHanded_of_calls own started noInit witness ?_
  intro w tape i _ hsh _ hok hpre _
  obtain ⟨_, _, _, fn', hfn', _, _, _, _, hval⟩ := hok
  obtain rfl : fn' = fn := Option.some.inj (hfn'.symm.trans hfn)
  obtain ⟨⟨⟨ds, gs, before, hw, _⟩, hx⟩, hz⟩ := hpre
  have hw' := DataW.Whole.of_heap (w' := w.forCall tape i) (by rfl) hw
  refine (contract (w.forCall tape i) w.heap.size i.args ds gs before hval hw' (hX _ _ _ (by rfl) hx) hsh (hz.weights hw)).mono fun e W' ⟨v, he, hp⟩ => ?_
  subst he
  exact ChangeSpec.post_blind hp
end Go.Proofs.YtjbmkbgoahppfaaDoor

namespace Go.Proofs.YtjbmkbgoahppfaaDoor
open Go.ChangeMaps (open_string shut_string)
open Go.ChangeShapes Go.WideShapes Go.ChangeAt Go.RowKit

end Go.Proofs.YtjbmkbgoahppfaaDoor

namespace Go.Proofs.YtjbmkbgoahppfaaDoor
open Go.RowKit

def tn_of (r : Tka) : Tn := ⟨r.1, r.2.1, (wd r.2.2.1 0 : Int), (wd r.2.2.1 1 : Int), (wd r.2.2.1 2 : Int), (wd r.2.2.1 3 : Int), r.2.2.2.1, r.2.2.2.2⟩
def tof (l : List Tka) (j : Nat) : Tn := match l[j]? with | some r => tn_of r | none => ⟨0, 0, 0, 0, 0, 0, 0, 0⟩
theorem tof_get (l : List Tka) (j : Nat) (h : j < l.length) : tof l j = tn_of l[j] := by unfold tof; rw [List.getElem?_eq_getElem h]
/-- What Pattern tells. -/
def patF (p : ByteArray) : Option (List Nd) × Int × Int :=
  if 200 < p.size then (none, 0, 4) else match (toks p).1 with | some l => ofF (tof l) l.length p.size | none => (none, ((toks p).2 : Int), 3)
theorem ofPost.form {r : Option (List Nd) × Int × Int} {w w' : World} {e : Ending} (h : ofPost r w e w') : ∃ v, e = .returned (.tuple #[v, .int .i64 r.2.1, .int .i64 r.2.2]) := by
  obtain ⟨h1, h2, -⟩ := h
  cases hr : r.1 with
  | none => exact ⟨_, h2 hr⟩
  | some l => obtain ⟨v, hv, -⟩ := h1 l hr; exact ⟨v, hv⟩
theorem ofPost.lift {r : Option (List Nd) × Int × Int} {w w1 w' : World} {e : Ending} (h : ofPost r w1 e w') (hb : Below w.heap.size w w1) : ofPost r w e w' :=
  ⟨fun l hl => by obtain ⟨v, hv, ho⟩ := h.1 l hl; exact ⟨v, hv, owns_mono ho hb.size⟩, h.2.1, hb.trans (h.2.2.mono hb.size)⟩
end Go.Proofs.YtjbmkbgoahppfaaDoor

namespace Go.Proofs.YtjbmkbgoahppfaaDoor

/-- What a token of a text holds beside what its kind has. -/
def normT (t : Tn) : Prop := (t.k = 1 ∧ t.lo = 0 ∧ t.hi = 0) ∨ (t.a = 0 ∧ t.b = 0 ∧ t.c = 0 ∧ t.d = 0 ∧ (t.k = 5 ∨ ((t.k = 2 ∨ t.k = 3 ∨ t.k = 4 ∨ t.k = 6 ∨ t.k = 7) ∧ t.lo = 0 ∧ t.hi = 0)))
theorem wd_none (i : Nat) : wd (fun _ => false) i = 0 := word_none _ _ fun _ _ => rfl
theorem sign_norm {c : Nat} {k lo hi : Int} (h : tkSign c = some (k, lo, hi)) : k = 5 ∨ ((k = 2 ∨ k = 3 ∨ k = 4 ∨ k = 6 ∨ k = 7) ∧ lo = 0 ∧ hi = 0) := by
  unfold tkSign at h
  repeat' split at h
  all_goals first | (simp only [Option.some.injEq, Prod.mk.injEq] at h; obtain ⟨rfl, rfl, rfl⟩ := h; simp) | cases h
theorem tk_norm {p : ByteArray} {i k n : Nat} {r : Tk} (h : tk p k = some (r, n)) : normT (tn_of (tka i r)) := by
  unfold tk at h
  cases hs : tkSign (gb p k) with
  | some x =>
    obtain ⟨a, lo, hi⟩ := x
    rw [hs] at h
    simp only [Option.some.injEq, Prod.mk.injEq] at h
    obtain ⟨rfl, -⟩ := h
    exact .inr ⟨by show ((wd (fun _ => false) 0 : Nat) : Int) = 0; rw [wd_none] <;> rfl, by show ((wd (fun _ => false) 1 : Nat) : Int) = 0; rw [wd_none] <;> rfl, by show ((wd (fun _ => false) 2 : Nat) : Int) = 0; rw [wd_none] <;> rfl, by show ((wd (fun _ => false) 3 : Nat) : Int) = 0; rw [wd_none] <;> rfl, sign_norm hs⟩
  | none =>
    rw [hs] at h
    simp only at h
    by_cases c1 : gb p k = 123
    · rw [if_pos c1] at h
      split at h
      · cases h
      · simp only [Option.some.injEq, Prod.mk.injEq] at h
        obtain ⟨rfl, -⟩ := h
        exact .inr ⟨by show ((wd (fun _ => false) 0 : Nat) : Int) = 0; rw [wd_none] <;> rfl, by show ((wd (fun _ => false) 1 : Nat) : Int) = 0; rw [wd_none] <;> rfl, by show ((wd (fun _ => false) 2 : Nat) : Int) = 0; rw [wd_none] <;> rfl, by show ((wd (fun _ => false) 3 : Nat) : Int) = 0; rw [wd_none] <;> rfl, .inl rfl⟩
    · rw [if_neg c1] at h
      left
      repeat' split at h
      all_goals first
        | (cases h; done)
        | (simp only [Option.some.injEq, Prod.mk.injEq] at h; obtain ⟨rfl, -⟩ := h; exact ⟨rfl, rfl, rfl⟩)
        | (obtain ⟨x, hx, e⟩ := Option.map_eq_some_iff.1 h; simp only [Prod.mk.injEq] at e; obtain ⟨rfl, -⟩ := e; exact ⟨rfl, rfl, rfl⟩)
theorem tof_norm {p : ByteArray} {l : List Tka} {m : Nat} (h : toks p = (some l, m)) (j : Nat) (hj : j < l.length) : normT (tof l j) := by
  obtain ⟨k, n, r, e, ht, -⟩ := chain_at (toks_chain h).1 j hj
  rw [tof_get l j hj, e]
  exact tk_norm ht

/-- A node and the token that it is of. -/
def likeT (t : Tn) (x : Nd) : Prop := x.a = t.a ∧ x.b = t.b ∧ x.c = t.c ∧ x.d = t.d ∧ x.lo = t.lo ∧ x.hi = t.hi ∧ ((t.k = 1 ∧ x.k = 1) ∨ (t.k = 5 ∧ x.k = 7) ∨ (t.k = 6 ∧ x.k = 3) ∨ (t.k = 7 ∧ x.k = 4))
theorem leaf_like {t : Tn} (h : normT t) (hl : lfT t = true) : likeT t (leafOf t) := by
  have hk : ¬ (t.k = 2 ∨ t.k = 3 ∨ t.k = 4) := by
    rintro (h | h | h) <;> simp [lfT, h] at hl
  rcases h with ⟨h1, h2, h3⟩ | ⟨a0, b0, c0, d0, h5 | ⟨h6, h7, h8⟩⟩
  · unfold leafOf; rw [if_pos h1]; exact ⟨rfl, rfl, rfl, rfl, h2.symm, h3.symm, .inl ⟨h1, rfl⟩⟩
  · unfold leafOf; rw [if_neg (by omega), if_neg (by omega), if_neg (by omega)]; exact ⟨a0.symm, b0.symm, c0.symm, d0.symm, rfl, rfl, .inr (.inl ⟨h5, rfl⟩)⟩
  · by_cases h9 : t.k = 6
    · unfold leafOf; rw [if_neg (by omega), if_pos h9]; exact ⟨a0.symm, b0.symm, c0.symm, d0.symm, h7.symm, h8.symm, .inr (.inr (.inl ⟨h9, rfl⟩))⟩
    · have h10 : t.k = 7 := by omega
      unfold leafOf; rw [if_neg (by omega), if_neg h9, if_pos h10]; exact ⟨a0.symm, b0.symm, c0.symm, d0.symm, h7.symm, h8.symm, .inr (.inr (.inr ⟨h10, rfl⟩))⟩

/-- How far both have come: the leaves from node i on are the tokens' from k on. -/
def inT (l : List Nd) (T : Nat → Tn) (n i k : Nat) : Prop := i ≤ l.length ∧ k ≤ n ∧ leaves (l.drop i) = tl T k n
theorem tl_skip {T : Nat → Tn} {k n : Nat} (h : k < n) (hl : lfT (T k) = false) : tl T k n = tl T (k + 1) n := by
  rw [tl_split T (show k ≤ k + 1 by omega) (show k + 1 ≤ n by omega), tl_one, if_neg (by simp [hl])]; rfl
theorem tl_take {T : Nat → Tn} {k n : Nat} (h : k < n) (hl : lfT (T k) = true) : tl T k n = leafOf (T k) :: tl T (k + 1) n := by
  rw [tl_split T (show k ≤ k + 1 by omega) (show k + 1 ≤ n by omega), tl_one, if_pos hl]; rfl
theorem inT.skip {l : List Nd} {T : Nat → Tn} {n i k : Nat} (h : inT l T n i k) (hk : k < n) (hl : lfT (T k) = false) : inT l T n i (k + 1) := ⟨h.1, hk, by rw [h.2.2, tl_skip hk hl]⟩
theorem drop_get {l : List Nd} {i : Nat} (h : i < l.length) : l.drop i = nfn l i :: l.drop (i + 1) := by
  rw [List.drop_eq_getElem_cons h, nfn, List.getD_eq_getElem?_getD, List.getElem?_eq_getElem h]; rfl
theorem inT.pass {l : List Nd} {T : Nat → Tn} {n i k : Nat} (h : inT l T n i k) (hi : i < l.length) (hl : lfN (nfn l i) = false) : inT l T n (i + 1) k := by
  refine ⟨hi, h.2.1, ?_⟩
  rw [← h.2.2, drop_get hi]
  simp [leaves, hl]
/-- At a leaf, where the next token makes one, or there is none: there is one, and it makes this leaf. -/
theorem inT.meet {l : List Nd} {T : Nat → Tn} {n i k : Nat} (h : inT l T n i k) (hN : ∀ j, j < n → normT (T j)) (hi : i < l.length) (hl : lfN (nfn l i) = true) (he : k < n → lfT (T k) = true) :
    k < n ∧ likeT (T k) (nfn l i) ∧ inT l T n (i + 1) (k + 1) := by
  obtain ⟨h1, h2, h3⟩ := h
  rw [drop_get hi] at h3
  have h4 : leaves (nfn l i :: l.drop (i + 1)) = nfn l i :: leaves (l.drop (i + 1)) := by simp [leaves, hl]
  rw [h4] at h3
  have hk : k < n := by
    by_cases hk : k < n
    · exact hk
    · have : k = n := by omega
      rw [this, tl_same] at h3
      cases h3
  rw [tl_take hk (he hk)] at h3
  injection h3 with e1 e2
  exact ⟨hk, by rw [e1]; exact leaf_like (hN k hk) (he hk), hi, hk, e2⟩
theorem inT.last {l : List Nd} {T : Nat → Tn} {n k : Nat} (h : inT l T n l.length k) (he : k < n → lfT (T k) = true) : k = n := by
  obtain ⟨h1, h2, h3⟩ := h
  by_cases hk : k < n
  · rw [tl_take hk (he hk)] at h3
    simp [leaves] at h3
  · omega
end Go.Proofs.YtjbmkbgoahppfaaDoor
