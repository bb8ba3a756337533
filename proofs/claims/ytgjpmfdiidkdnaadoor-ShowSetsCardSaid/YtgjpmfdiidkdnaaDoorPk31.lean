/-
  The walk of lex's Tokens. The walk of the third laws' awake: the page's example holds. The walk of the third reference's Tokens. The walk of the law LexTokens, given the third reference's Token: it answers true, at any text. The walk of the law LexTokens: it answers true, at any text. The door's own heap meets the conditions on the package-level variables; the wrap that hands on both those conditions and the world's shape. LexTokens, for every text: it is the reference's tokens, or it is told where the first one begins that cannot be made. Condition: when the call begins, the package-level variables that the row lists read as the program's text lays them (the card ties that to the text).
-/
import Derived.Test.YtgjpmfdiidkdnaaDoorPk22
import Derived.Laws.AppendOwn
import Derived.Test.YtgjpmfdiidkdnaaDoorPk30
import Derived.Test.YtgjpmfdiidkdnaaDoorPk4
import Derived.Test.YtgjpmfdiidkdnaaDoorCards
import Derived.Test.YtgjpmfdiidkdnaaDoorTie
import Derived.SevenTiedAt
import Derived.WalkKit
import Derived.ProofKit
import Derived.OpenShut
import Derived.Below
namespace Go.Proofs.YtgjpmfdiidkdnaaDoor
open Go.RowKit

/-- What Tokens answers: the row, or a place. -/
def toksPost (R : Option (List Tka) × Nat) (w : World) (e : Ending) (w' : World) : Prop :=
  (∀ l n, R = (some l, n) → ∃ v, e = .returned (.tuple #[v, .int .i64 0, .int .i64 0]) ∧ w'.ownsRow w.heap.size 38 8 v l.length (tvs l)) ∧
  (∀ n, R = (none, n) → e = .returned (.tuple #[.slice none 0 0, .int .i64 (n : Nat), .int .i64 3])) ∧ Below w.heap.size w w'
theorem toksPost.good {w w' : World} {R : Option (List Tka) × Nat} {l : List Tka} {v : Value} (h : R = (some l, 0)) (ho : w'.ownsRow w.heap.size 38 8 v l.length (tvs l)) (hb : Below w.heap.size w w') : toksPost R w (.returned (.tuple #[v, .int .i64 0, .int .i64 0])) w' := by
  subst h
  refine ⟨fun l' n h => ?_, fun n h => ?_, hb⟩
  · have e1 := Option.some.inj (Prod.mk.inj h).1
    subst e1
    exact ⟨v, rfl, ho⟩
  · exact absurd (Prod.mk.inj h).1 (by simp)
theorem toksPost.bad {w w' : World} {R : Option (List Tka) × Nat} {n : Nat} {x : Int} (h : R = (none, n)) (hx : x = (n : Nat)) (hb : Below w.heap.size w w') : toksPost R w (.returned (.tuple #[.slice none 0 0, .int .i64 x, .int .i64 3])) w' := by
  subst h
  refine ⟨fun l' n h => ?_, fun n h => ?_, hb⟩
  · exact absurd (Prod.mk.inj h).1 (by simp)
  · have e1 := (Prod.mk.inj h).2
    subst e1
    rw [hx]

set_option maxRecDepth 100000 in
set_option maxHeartbeats 1000000 in
theorem ltoks_long (p : ByteArray) (hp : 200 < p.size) (w : World) :
    Calls Tryd.prog 10 #[.string p] w fun e w' => e = .returned (.tuple #[.slice none 0 0, .int .i64 0, .int .i64 4]) ∧ w = w' := by
  have t0 : decide ((200 : Int) < (p.size : Int)) = true := decide_eq_true (by omega)
  go_enter Tryd.func10, Tryd.ntmps10
  go_wp2
  go_ret3
  exact ⟨rfl, rfl⟩

set_option maxRecDepth 100000 in
set_option maxHeartbeats 2000000 in
theorem ltoks_any (p : ByteArray) (hp : p.size ≤ 200) (w : World) (hT : Okw w) :
    Calls Tryd.prog 10 #[.string p] w (toksPost (toks p) w) := by
  obtain ⟨i0, hinf, hz0, hz1, hz2⟩ := info_parts infoTok
  obtain ⟨R, hR⟩ : ∃ R, toks p = R := ⟨_, rfl⟩
  rw [hR]
  have HR : Hid (tksL p (p.size + 1) 0 [] = R) := Lib.hid hR
  have HT0 := Lib.hid hT
  clear hR hT
  have t0 : decide ((200 : Int) < (p.size : Int)) = false := decide_eq_false (by omega)
  go_enter Tryd.func10, Tryd.ntmps10
  go_wp2
  go_loopw [5, 6] (fun v at_ wr => ∃ (i u : Nat) (acc : List Tka), at_ = .int .i64 i ∧ i ≤ p.size ∧ wr.ownsRow w.heap.size 38 8 v acc.length (tvs acc) ∧ Below w.heap.size w wr ∧ acc.length ≤ i ∧ Hid (tksL p u i acc = R ∧ p.size + 1 ≤ u + i)) (fun _ at_ _ => p.size - (intOf at_).toNat)
  case atStart => exact ⟨0, p.size + 1, [], rfl, Nat.zero_le _, World.ownsRow_nil _ _ _ _, Below.refl _ _, Nat.zero_le _, Lib.hid ⟨HR.out, by omega⟩⟩
  case round =>
    obtain ⟨i, u, acc, rfl, hi, hown, hW, hal, hh⟩ := hrel
    clear HR
    by_cases hlt : i < p.size
    · have i1 : decide ((i : Int) < (p.size : Int)) = true := decide_eq_true (by omega)
      have i3 : (i : Int) ≤ (p.size : Int) := by omega
      have hq := ltok_any (p.extract i p.size) (by simp; omega) (by simp; omega)
      obtain ⟨c1, c2⟩ := ct_tail p i hlt
      have HT := Lib.hid (HT0.out.to hW)
      have hsz := hW.size
      cases ht : tk p i with
      | none =>
        have hN := c2 ht
        have HE : Hid (R = (none, i)) := Lib.hid (by rw [← hh.out.1]; exact tksL_bad hlt ht (by have := hh.out.2; omega))
        obtain ⟨⟨⟨k, F, lo, hi'⟩, n⟩, hct⟩ : ∃ x, ct (p.extract i p.size) = x := ⟨_, rfl⟩
        rw [hct] at hq hN
        simp only at hN
        subst hN
        unfold tokPost at hq
        have HQ := Lib.hid hq
        clear hh ht c1 c2 hq hct
        go_wp2_with fail
        refine (HQ.out _ HT.out).mono ?_
        rintro e w1 ⟨rfl, hb⟩
        have HW1 := Lib.hid ((hW.trans (hb.mono hsz)).alloc (Nat.le_trans hsz hb.size) (.cells #[.int .i64 (k), .int .i64 (0), .int .u64 (wd (F) 0 : Int), .int .u64 (wd (F) 1 : Int), .int .u64 (wd (F) 2 : Int), .int .u64 (wd (F) 3 : Int), .int .i64 (lo), .int .i64 (hi')] 38))
        clear hb HT HQ hown hW
        go_upto_region 7 with (fail)
        generalize w1.alloc (.cells #[.int .i64 (k), .int .i64 (0), .int .u64 (wd (F) 0 : Int), .int .u64 (wd (F) 1 : Int), .int .u64 (wd (F) 2 : Int), .int .u64 (wd (F) 3 : Int), .int .i64 (lo), .int .i64 (hi')] 38) = W at *
        go_wp2
        go_ret3
        exact toksPost.bad HE.out rfl HW1.out
      | some x =>
        obtain ⟨⟨k, F, lo, hi'⟩, n⟩ := x
        obtain ⟨n1, n2⟩ := tk_end hlt ht
        have hct := c1 _ _ ht
        have HE : Hid (∃ u', tksL p u' n (acc ++ [tka i (k, F, lo, hi')]) = R ∧ p.size + 1 ≤ u' + n) := Lib.hid (by
          obtain ⟨q1, q2⟩ := hh.out
          obtain ⟨u', rfl⟩ : ∃ u', u = u' + 1 := ⟨u - 1, by omega⟩
          exact ⟨u', by rw [← q1, tksL_step hlt ht], by omega⟩)
        obtain ⟨m, hm⟩ : ∃ m, n - i = m := ⟨_, rfl⟩
        rw [hct, hm] at hq
        have hn : n = i + m := by omega
        subst hn
        have m1 : 1 ≤ m := by omega
        unfold tokPost at hq
        have HQ := Lib.hid hq
        have i4 : ((m : Int) == 0) = false := beq_eq_false_iff_ne.2 (by omega)
        clear hh ht c1 c2 hq hct hm n1
        go_wp2_with fail
        refine (HQ.out _ HT.out).mono ?_
        rintro e w1 ⟨rfl, hb⟩
        replace hown := (owns_below hown hb).alloc (.cells #[.int .i64 (k), .int .i64 (i), .int .u64 (wd (F) 0 : Int), .int .u64 (wd (F) 1 : Int), .int .u64 (wd (F) 2 : Int), .int .u64 (wd (F) 3 : Int), .int .i64 (lo), .int .i64 (hi')] 38)
        have t1 := isTk.new w1 k i F lo hi'
        have HW1 := (hW.trans (hb.mono hsz)).alloc (Nat.le_trans hsz hb.size) (.cells #[.int .i64 (k), .int .i64 (i), .int .u64 (wd (F) 0 : Int), .int .u64 (wd (F) 1 : Int), .int .u64 (wd (F) 2 : Int), .int .u64 (wd (F) 3 : Int), .int .i64 (lo), .int .i64 (hi')] 38)
        clear hb HT HQ hW hsz
        go_upto_region 10 with (fail)
        generalize hg : w1.heap.size = A at *
        generalize w1.alloc (.cells #[.int .i64 (k), .int .i64 (i), .int .u64 (wd (F) 0 : Int), .int .u64 (wd (F) 1 : Int), .int .u64 (wd (F) 2 : Int), .int .u64 (wd (F) 3 : Int), .int .i64 (lo), .int .i64 (hi')] 38) = W at *
        clear hg
        have hsz := HW1.size
        have HW2 := Lib.hid HW1
        clear HW1
        obtain ⟨s0, s1, s2, s3, s4, s5, s6, s7⟩ := t1.cells
        go_wp2_with (at_builtin; refine wpList_append_own _ rfl _ _ 34 rfl w.heap.size 38 i0 (.agg #[.int .i64 0, .int .i64 0, .int .u64 0, .int .u64 0, .int .u64 0, .int .u64 0, .int .i64 0, .int .i64 0]) 8 64 Tryd.underlying34 hinf hz0 hz1 hz2 rfl (by decide) _ _ _ rfl (hown.alloc _) ⟨W.heap.size, 0, none⟩ 1 1 [.int .i64 k, .int .i64 (i : Int), .int .u64 (wd F 0 : Int), .int .u64 (wd F 1 : Int), .int .u64 (wd F 2 : Int), .int .u64 (wd F 3 : Int), .int .i64 lo, .int .i64 hi'] rfl rfl ?u1 ?u2 ?u3 ?u4 ?u5 ?_)
        case u1 =>
          intro x u hx
          match x, hx with
          | 0, hx => simp at hx; subst hx; simp [Addr.add]
          | 1, hx => simp at hx; subst hx; simp [Addr.add]
          | 2, hx => simp at hx; subst hx; simp [Addr.add]
          | 3, hx => simp at hx; subst hx; simp [Addr.add]
          | 4, hx => simp at hx; subst hx; simp [Addr.add]
          | 5, hx => simp at hx; subst hx; simp [Addr.add]
          | 6, hx => simp at hx; subst hx; simp [Addr.add]
          | 7, hx => simp at hx; subst hx; simp [Addr.add]
        case u2 => intro u hu; simp at hu; rcases hu with rfl | rfl | rfl | rfl | rfl | rfl | rfl | rfl <;> rfl
        case u3 => unfold maxLen; omega
        case u4 => omega
        case u5 => simp; omega
        intro v2 w3 hown2 hgrow _
        have hR3 : Below w.heap.size w w3 := (HW2.out.alloc hsz _).grown hgrow (by simp; omega) fun r hr => (hown.lt r hr).1
        have hown4 : w3.ownsRow w.heap.size 38 8 v2 (acc ++ [tka i (k, F, lo, hi')]).length (tvs (acc ++ [tka i (k, F, lo, hi')])) := by
          rw [tvs_append, tvs_one]
          simpa [tcs, tka] using hown2
        have HO := Lib.hid hown4; have HR3 := Lib.hid hR3
        clear hown2 hgrow hown hown4 hR3 s0 s1 s2 s3 s4 s5 s6 s7
        go_wp2
        go_roundw
        case rel =>
          obtain ⟨u', q1, q2⟩ := HE.out
          exact ⟨i + m, u', acc ++ [tka i (k, F, lo, hi')], by go_num, n2, HO.out, HR3.out, by simp; omega, Lib.hid ⟨q1, q2⟩⟩
        case measure => simp [intOf]; omega
    · have i1 : decide ((i : Int) < (p.size : Int)) = false := decide_eq_false (by omega)
      have HE : Hid (R = (some acc, 0)) := Lib.hid (by rw [← hh.out.1]; exact tksL_end (by omega) (by have := hh.out.2; omega))
      have HO := Lib.hid hown; have HW1 := Lib.hid hW
      clear hh hown hW
      go_wp2
      go_ret3
      exact toksPost.good HE.out HO.out HW1.out
end Go.Proofs.YtgjpmfdiidkdnaaDoor

namespace Go.Proofs.YtgjpmfdiidkdnaaDoor
open Go.RowKit

def exB : ByteArray := { data := #[97, 91, 98, 45, 100, 93, 123, 50, 44, 125] }
/-- What a token is, so that it can be reckoned. -/
def summ (r : Tka) : Int × Int × List Nat × Int × Int := (r.1, r.2.1, bl r.2.2.1 256, r.2.2.2.1, r.2.2.2.2)
theorem ex_summ : (toks exB).1.map (fun l => l.map summ) = some [(1, 0, [97], 0, 0), (1, 1, [98, 99, 100], 0, 0), (5, 6, [], 2, -1)] ∧ (toks exB).2 = 0 := by decide +kernel
theorem sv_bl {f : Nat → Bool} {l : List Nat} (h : bl f 256 = l) : sv f = sv (inl l) := by
  apply sv_congr
  intro k hk
  have : k ∈ bl f 256 ↔ k ∈ l := by rw [h]
  unfold bl at this
  rw [List.mem_filter, List.mem_range] at this
  unfold inl
  cases hf : f k
  · have hn : ¬ k ∈ l := fun h' => by have := (this.2 h').2; rw [hf] at this; cases this
    simp [hn]
  · have hn : k ∈ l := this.1 ⟨hk, hf⟩
    simp [hn]
theorem bd_lit : sv (inl [98, 99, 100]) = .agg #[.int .u64 0, .int .u64 120259084288, .int .u64 0, .int .u64 0] := by
  have h0 : wd (inl [98, 99, 100]) 0 = 0 := by decide +kernel
  have h1 : wd (inl [98, 99, 100]) 1 = 120259084288 := by decide +kernel
  have h2 : wd (inl [98, 99, 100]) 2 = 0 := by decide +kernel
  have h3 : wd (inl [98, 99, 100]) 3 = 0 := by decide +kernel
  unfold sv; rw [h0, h1, h2, h3] <;> rfl
theorem no_lit : sv (inl []) = .agg #[.int .u64 0, .int .u64 0, .int .u64 0, .int .u64 0] := by
  have h0 : ∀ i, wd (inl []) i = 0 := fun i => word_none _ _ fun j _ => by simp [inl]
  unfold sv; rw [h0, h0, h0, h0] <;> rfl
theorem range_bd (w : World) : Calls Tryd.prog 13 #[.int .u8 98, .int .u8 100] w fun e w' => e = .returned (.agg #[.int .u64 0, .int .u64 120259084288, .int .u64 0, .int .u64 0]) ∧ Below w.heap.size w w' := by
  have := range_any 98 100 (by decide) (by decide) w
  rw [sv_bl (l := [98, 99, 100]) (by decide +kernel), bd_lit] at this
  exact this
theorem wd_of_sv {f : Nat → Bool} {a b c d : Int} (h : sv f = .agg #[.int .u64 a, .int .u64 b, .int .u64 c, .int .u64 d]) : (wd f 0 : Int) = a ∧ (wd f 1 : Int) = b ∧ (wd f 2 : Int) = c ∧ (wd f 3 : Int) = d := by
  unfold sv at h
  simpa using h
theorem ex_cells {w : World} {v : Value} {l : List Tka} {n : Nat} (h : toks exB = (some l, n)) (hr : rdT w v l) : ∃ b off cap, v = .slice (some ⟨b, off, none⟩) 3 cap ∧ b < w.heap.size ∧
    (w.cell? ⟨b, off + 8, none⟩ = some (.int .i64 1) ∧ w.cell? ⟨b, off + 8 + 1, none⟩ = some (.int .i64 1) ∧ w.cell? ⟨b, off + 8 + 2, none⟩ = some (.int .u64 0) ∧ w.cell? ⟨b, off + 8 + 3, none⟩ = some (.int .u64 120259084288) ∧ w.cell? ⟨b, off + 8 + 4, none⟩ = some (.int .u64 0) ∧ w.cell? ⟨b, off + 8 + 5, none⟩ = some (.int .u64 0) ∧ w.cell? ⟨b, off + 8 + 6, none⟩ = some (.int .i64 0) ∧ w.cell? ⟨b, off + 8 + 7, none⟩ = some (.int .i64 0)) ∧
    (w.cell? ⟨b, off + 16, none⟩ = some (.int .i64 5) ∧ w.cell? ⟨b, off + 16 + 1, none⟩ = some (.int .i64 6) ∧ w.cell? ⟨b, off + 16 + 2, none⟩ = some (.int .u64 0) ∧ w.cell? ⟨b, off + 16 + 3, none⟩ = some (.int .u64 0) ∧ w.cell? ⟨b, off + 16 + 4, none⟩ = some (.int .u64 0) ∧ w.cell? ⟨b, off + 16 + 5, none⟩ = some (.int .u64 0) ∧ w.cell? ⟨b, off + 16 + 6, none⟩ = some (.int .i64 2) ∧ w.cell? ⟨b, off + 16 + 7, none⟩ = some (.int .i64 (-1))) := by
  have hs := ex_summ.1
  rw [h] at hs
  have hl : l.map summ = [(1, 0, [97], 0, 0), (1, 1, [98, 99, 100], 0, 0), (5, 6, [], 2, -1)] := Option.some.inj hs
  match l, hl, hr with
  | [r0, r1, r2], hl, hr =>
    obtain ⟨k1, a1, f1, lo1, hi1⟩ := r1
    obtain ⟨k2, a2, f2, lo2, hi2⟩ := r2
    simp only [List.map_cons, List.map_nil, List.cons.injEq, summ, Prod.mk.injEq, and_true] at hl
    obtain ⟨_, ⟨rfl, rfl, e1, rfl, rfl⟩, rfl, rfl, e2, rfl, rfl⟩ := hl
    obtain ⟨x0, x1, x2, x3⟩ := wd_of_sv ((sv_bl e1).trans bd_lit)
    obtain ⟨y0, y1, y2, y3⟩ := wd_of_sv ((sv_bl e2).trans no_lit)
    rcases hr with ⟨_, h0⟩ | ⟨b, off, cap, hv, hb, hc⟩
    · cases h0
    · have c1 := hc 1 (by simp)
      have c2 := hc 2 (by simp)
      simp only [List.getElem_cons_succ, List.getElem_cons_zero, tokAt, x0, x1, x2, x3, y0, y1, y2, y3] at c1 c2
      exact ⟨b, off, cap, hv, hb, c1, c2⟩

end Go.Proofs.YtgjpmfdiidkdnaaDoor

namespace Go.Proofs.YtgjpmfdiidkdnaaDoor
open Go.RowKit

end Go.Proofs.YtgjpmfdiidkdnaaDoor

namespace Go.Proofs.YtgjpmfdiidkdnaaDoor
open Go.RowKit

end Go.Proofs.YtgjpmfdiidkdnaaDoor

namespace Go.Proofs.YtgjpmfdiidkdnaaDoor
open Go.RowKit

end Go.Proofs.YtgjpmfdiidkdnaaDoor

namespace Go.Proofs.YtgjpmfdiidkdnaaDoor
open Go.ChangeShapes Go.WideShapes Go.ChangeAt Go.RowKit

theorem own : ownKnob Tryd.prog.godebug = none := by kernel_rfl
theorem door_met (os : Os) (args : Array Value) : laidMetH Tryd.prog [("math/bits.deBruijn32tab", Rows.laid_math_bits_deBruijn32tab), ("math/bits.deBruijn64tab", Rows.laid_math_bits_deBruijn64tab), ("internal/strconv.uint64pow10", Rows.laid_internal_strconv_uint64pow10), ("strconv.ErrRange", Rows.laid_strconv_ErrRange), ("strconv.ErrSyntax", Rows.laid_strconv_ErrSyntax), ("tatting/named.table", Rows.laid_tatting_named_table)] ((World.doorLaid Tryd.prog 400 os).forCall (fun _ _ => 0) ⟨#[], args, []⟩).memory :=
  laidMetH_of_parts3 (fuel := 8) (laidMet_of_run' 8 (by kernel_rfl) (by kernel_rfl)) (by kernel_rfl) (by kernel_rfl)
theorem okw_of_laid {W : World} (h : laidMetH Tryd.prog [("math/bits.deBruijn32tab", Rows.laid_math_bits_deBruijn32tab), ("math/bits.deBruijn64tab", Rows.laid_math_bits_deBruijn64tab), ("internal/strconv.uint64pow10", Rows.laid_internal_strconv_uint64pow10), ("strconv.ErrRange", Rows.laid_strconv_ErrRange), ("strconv.ErrSyntax", Rows.laid_strconv_ErrSyntax), ("tatting/named.table", Rows.laid_tatting_named_table)] W) (hsh : W.ShapedOpen Tryd.prog) : Okw W := by
  rw [MakeChecks.laidMetH_plain _ _ _ (by kernel_rfl)] at h
  exact okw_of_met h hsh (by kernel_rfl) (by kernel_rfl)

theorem wrap_both {H : Type} {enc : TypeId × Value → H} {a : Assume} {C : Checked} {os : Os} {f : FuncId} {fn : Func} {s : ChangeSpec} {conds : List PathCond} {apart fresh handsOn again : Bool} {X : World → Array Value → Prop}
    (hX : ∀ (w w' : World) (args : Array Value), w.heap = w'.heap → X w args → X w' args)
    (own : ownKnob C.prog.godebug = none) (started : os.Started) (noInit : C.prog.inits.idxOf? f = none) (hfn : C.prog.funcs[f]? = some fn)
    (witness : ∃ (w : World) (tape : Tape) (i : Input), w.os = os ∧ (w.forCall tape i).Shaped C.prog ∧ i.vars = [] ∧ Input.okWide C.prog (w.forCall tape i) .any w.heap.size f i ∧
      ((s.pre enc C.prog fn conds apart (w.forCall tape i).memory i.args ∧ X (w.forCall tape i).memory i.args) ∧ sizedMet enc C.prog fn (OpenSpec.ofChange s) apart (w.forCall tape i).memory i.args) ∧ a.holds C.prog (lone (Frame.enter C.prog f i.args .normal) [] (w.forCall tape i)))
    (contract : ∀ (W : World) (base : Nat) (args : Array Value) (ds gs : List (DataW H)) (before : List MemPlace),
      (∀ (j : Nat) t v, fn.params[j]? = some t → args[j]? = some v → Value.okWide C.prog W .any base t v) →
      DataW.Whole enc C.prog fn.params.toList s.vars apart W args.toList ds gs before → X W args → W.ShapedOpen C.prog →
      (DataW.weightsEach C.prog (fn.params.toList ++ s.plain.varTypes C.prog) (ds ++ gs)).all (· ≤ reachBytes) = true →
      Calls C.prog f args W fun e W' => ∃ v, e = .returned v ∧ s.post enc C.prog fn apart fresh handsOn again W args v W') :
    ReturnsInHanded a C os f .any (fun w args => (s.pre enc C.prog fn conds apart w args ∧ X w args) ∧ sizedMet enc C.prog fn (OpenSpec.ofChange s) apart w args) (s.post enc C.prog fn apart fresh handsOn again) := by
  refine returnsInHanded_of_calls own started noInit witness ?_
  intro w tape i _ hsh _ hok hpre _
  obtain ⟨_, _, _, fn', hfn', _, _, _, _, hval⟩ := hok
  obtain rfl : fn' = fn := Option.some.inj (hfn'.symm.trans hfn)
  obtain ⟨⟨⟨ds, gs, before, hw, _⟩, hx⟩, hz⟩ := hpre
  have hw' := DataW.Whole.of_heap (w' := w.forCall tape i) (by rfl) hw
  refine (contract (w.forCall tape i) w.heap.size i.args ds gs before hval hw' (hX _ _ _ (by rfl) hx) hsh (hz.weights hw)).mono fun e W' ⟨v, he, hp⟩ => ?_
  subst he
  exact ChangeSpec.post_blind hp
end Go.Proofs.YtgjpmfdiidkdnaaDoor

namespace Go.Proofs.YtgjpmfdiidkdnaaDoor
open Go.ChangeMaps (open_string shut_string)
open Go.ChangeShapes Go.WideShapes Go.ChangeAt Go.RowKit

end Go.Proofs.YtgjpmfdiidkdnaaDoor
