/-
  The walk of the fifth reference's Of.
  The walk of the fifth reference's Of at no token.
  The table of named: its rows, and what the listed condition says of the memory.
  Contracts of the library, laid at this program.
  What the program's text and the world's shape say of the package-level variables: the table of named, the error of strconv, the number of bytealg.
-/
import Derived.Test.YtiahgcgpakgeeaaGreatDoorPk5
import Derived.Test.YtiahgcgpakgeeaaGreatDoorPk6
import Derived.Test.YtiahgcgpakgeeaaGreatDoorRows
import Derived.WalkKit
import Derived.ProofKit
import Derived.OpenShut
import Derived.Deep.Strs
import Derived.Deep.MidRow
import Derived.LaidMore
import Derived.Below
import Derived.MakeChecks
import Derived.Shelf.Strconv.Itoa0
import Derived.Shelf.Strconv.Itoa1
import Derived.Shelf.LaysM
import Derived.Shelf.Strconv.Itoa2
import Derived.Shelf.Strconv.Itoa3
import Derived.Shelf.Strconv.Clone
import Derived.Shelf.Strconv.SyntaxError
import Derived.Shelf.LaysC
import Derived.Shelf.Strconv.ToError
import Derived.Shelf.Strconv.Lower
import Derived.Shelf.Strings.Search1
import Derived.Shelf.Strings.Search2
import Derived.Shelf.Strings.Cut
import Derived.Shelf.Strings.Shaped
import Derived.Shelf.Strings.Prefix
import Derived.Test.YtiahgcgpakgeeaaGreatDoorProg
import Derived.Test.YtiahgcgpakgeeaaGreatDoorPk1
import Derived.LaidSub
import Derived.Stop.LaidErr
import Derived.HandedShaped
namespace Go.Proofs.YtiahgcgpakgeeaaGreatDoor
open Go.RowKit

/-- What Of tells: a tree, or a place and an error. -/
def ofF (T : Nat → Tn) (n : Nat) (end_ : Int) : Option (List Nd) × Int × Int :=
  if (wrF T n (n + 1) 0 0).2.1 ≠ 0 then (none, (T (wrF T n (n + 1) 0 0).1.toNat).p, (wrF T n (n + 1) 0 0).2.1)
  else if 0 < (wrF T n (n + 1) 0 0).2.2 then (none, end_, 3)
  else if 512 < (ei T n (n + 1) 0).1.length then (none, 0, 4)
  else (some (ei T n (n + 1) 0).1, 0, 0)
def ofPost (r : Option (List Nd) × Int × Int) (w : World) (e : Ending) (w' : World) : Prop :=
  (∀ l, r.1 = some l → ∃ v, e = .returned (.tuple #[v, .int .i64 r.2.1, .int .i64 r.2.2]) ∧ w'.ownsRow w.heap.size 38 7 v l.length (nds l)) ∧ (r.1 = none → e = .returned (.tuple #[.slice none 0 0, .int .i64 r.2.1, .int .i64 r.2.2])) ∧ Below w.heap.size w w'
theorem ofPost.bad {r : Option (List Nd) × Int × Int} {w w' : World} (x y : Int) (h : r = (none, x, y)) (hb : Below w.heap.size w w') : ofPost r w (.returned (.tuple #[.slice none 0 0, .int .i64 x, .int .i64 y])) w' := by
  subst h
  exact ⟨fun l hl => (by cases hl), fun _ => rfl, hb⟩
theorem ofPost.good {r : Option (List Nd) × Int × Int} {w w' : World} {v : Value} (l : List Nd) (h : r = (some l, 0, 0)) (ho : w'.ownsRow w.heap.size 38 7 v l.length (nds l)) (hb : Below w.heap.size w w') : ofPost r w (.returned (.tuple #[v, .int .i64 0, .int .i64 0])) w' := by
  subst h
  exact ⟨fun l' hl => (by cases hl; exact ⟨v, rfl, ho⟩), fun hn => (by cases hn), hb⟩

set_option maxRecDepth 100000 in
set_option maxHeartbeats 4000000 in
theorem rof_some (T : Nat → Tn) (n b off cap : Nat) (end_ : Int) (hn : n ≤ 1000) (w : World) (hr : rdTn w b off n T) :
    Calls Tryz.prog 13 #[.slice (some ⟨b, off, none⟩) n cap, .int .i64 end_] w (ofPost (ofF T n end_) w) := by
  obtain ⟨R, hR⟩ : ∃ R, ofF T n end_ = R := ⟨_, rfl⟩
  rw [hR]
  have HRD := Lib.hid hr
  have HQ := Lib.hid (wrong_some T n b off cap hn w hr)
  have hbd := wrF_bd (T := T) (n := n) (n + 1) 0 0 (by omega)
  obtain ⟨⟨i, e, op⟩, hw⟩ : ∃ r, wrF T n (n + 1) 0 0 = r := ⟨_, rfl⟩
  unfold ofF at hR
  rw [hw] at HQ hbd hR
  simp only at hbd hR
  have HR := Lib.hid hR
  clear hr hw hR
  go_enter Tryz.func13, Tryz.ntmps13
  go_wp2_with fail
  refine HQ.out.mono ?_
  rintro e1 w1 ⟨rfl, hb⟩
  have HB1 := Lib.hid hb
  have HRD1 := Lib.hid (HRD.out.below hb)
  clear hb HQ HRD
  by_cases he : e = 0
  · subst he
    by_cases ho : 0 < op
    · have d0 : decide (0 < op) = true := decide_eq_true ho
      have d1 : decide ((0 : Int) < (op : Int)) = true := decide_eq_true (by omega)
      have HE : Hid (R = (none, end_, 3)) := Lib.hid (by have := HR.out; rw [if_neg (by omega), if_pos ho] at this; exact this.symm)
      clear HR hbd
      go_wp2
      go_ret3
      exact ofPost.bad _ _ HE.out HB1.out
    · have d0 : decide (0 < op) = false := decide_eq_false ho
      have d1 : decide ((0 : Int) < (op : Int)) = false := decide_eq_false (by omega)
      have hq := either_any T n b off cap hn (n + 1) 0 (by omega) (by omega)
      have hok := (ei_ok T n (n + 1)) 0 (by omega) (by omega)
      obtain ⟨⟨l, j⟩, hl⟩ : ∃ r, ei T n (n + 1) 0 = r := ⟨_, rfl⟩
      rw [hl] at hq hok
      simp only at hok
      have HE0 : Hid ((if 512 < l.length then (none, 0, 4) else (some l, 0, 0)) = R) := Lib.hid (by have := HR.out; rw [if_neg (by omega), if_neg ho, hl] at this; exact this)
      have HQ := Lib.hid hq
      clear HR hbd hl hq ho
      go_wp2_with fail
      refine (HQ.out _ HRD1.out).mono ?_
      rintro e2 w2 ⟨v, rfl, hown, hb⟩
      have HB2 := Lib.hid (HB1.out.trans (hb.mono HB1.out.size))
      have HO := Lib.hid (owns_mono hown HB1.out.size)
      obtain ⟨g, c, rfl, -, -, -⟩ := owns_block hown (by simp only; omega)
      simp only
      clear hown hb HB1 HQ
      by_cases h5 : 512 < l.length
      · have d5 : decide (512 < l.length) = true := decide_eq_true h5
        have d6 : decide ((512 : Int) < (l.length : Int)) = true := decide_eq_true (by omega)
        have HE : Hid (R = (none, 0, 4)) := Lib.hid (by have := HE0.out; rw [if_pos h5] at this; exact this.symm)
        clear HE0
        go_wp2
        go_ret3
        exact ofPost.bad _ _ HE.out HB2.out
      · have d5 : decide (512 < l.length) = false := decide_eq_false h5
        have d6 : decide ((512 : Int) < (l.length : Int)) = false := decide_eq_false (by omega)
        have HE : Hid (R = (some l, 0, 0)) := Lib.hid (by have := HE0.out; rw [if_neg h5] at this; exact this.symm)
        clear HE0
        go_wp2
        go_ret3
        exact ofPost.good l HE.out HO.out HB2.out
  · have d0 : (e == 0) = false := beq_eq_false_iff_ne.2 he
    have d0' : (e != 0) = true := by simp [he]
    obtain ⟨q, rfl⟩ : ∃ q : Nat, i = q := ⟨i.toNat, by rcases hbd.2 with h | h <;> omega⟩
    have hq : q < n := by rcases hbd.2 with h | h <;> omega
    have hc := (HRD1.out q hq).2.2.1
    have HE : Hid (R = (none, (T q).p, e)) := Lib.hid (by have := HR.out; rw [if_pos he, Int.toNat_natCast] at this; exact this.symm)
    have q0 : (0 : Int) ≤ (q : Int) := by omega
    have q1 : (q : Int) < (n : Int) := by omega
    clear HR hbd he HRD1
    go_wp2_with fail
    go_quiet (fail)
    go_wp2
    go_ret3
    exact ofPost.bad _ _ HE.out (below_drewN _ HB1.out)
end Go.Proofs.YtiahgcgpakgeeaaGreatDoor

namespace Go.Proofs.YtiahgcgpakgeeaaGreatDoor
open Go.RowKit

theorem ofF_zero (T : Nat → Tn) (end_ : Int) : ofF T 0 end_ = (some [nd0 2], 0, 0) := by
  have h1 : wrF T 0 (0 + 1) 0 0 = (-1, 0, 0) := by unfold wrF; rw [if_pos (by omega)]
  have h2 : bhF T 0 (ei T 0 0) 0 = ([nd0 2], 0) := by
    unfold bhF behL
    rw [if_neg (fun h => by omega)]; rfl
  have h3 : ei T 0 (0 + 1) 0 = ([nd0 2], 0) := by
    show eiF T 0 (ei T 0 0) 0 = _
    unfold eiF
    rw [h2]
    unfold eiL
    rw [if_neg (fun h => by omega)]
  unfold ofF
  rw [h1, h3]
  simp
theorem behind_zero (p : Option Addr) (cap : Nat) (w : World) : Calls Tryz.prog 35 #[.slice p 0 cap, .int .i64 0] w (ndPost ([nd0 2], 0) w) := by
  go_enter Tryz.func35, Tryz.ntmps35
  go_wp2
  refine wp_loop_rounds 1 ?_
  rw [rounds_succ]; go_wp2
  go_ret2
  exact ndPost.mk [nd0 2] 0 rfl rfl (lit_owns w w.heap.size (Nat.le_refl _) (nd0 2)) ((Below.refl _ _).alloc (Nat.le_refl _) _)
theorem either_zero (p : Option Addr) (cap : Nat) (w : World) : Calls Tryz.prog 20 #[.slice p 0 cap, .int .i64 0] w (ndPost ([nd0 2], 0) w) := by
  go_enter Tryz.func20, Tryz.ntmps20
  go_wp2_with fail
  refine (behind_zero p cap _).mono ?_
  rintro e w1 ⟨v, rfl, ho, hb⟩
  have HO := Lib.hid ho; have HB := Lib.hid hb
  clear ho hb
  go_wp2_with fail
  refine wp_loop_rounds 1 ?_
  rw [rounds_succ]; go_wp2
  go_ret2
  exact ndPost.mk [nd0 2] 0 rfl rfl HO.out HB.out
theorem rof_zero (T : Nat → Tn) (p : Option Addr) (cap : Nat) (end_ : Int) (w : World) : Calls Tryz.prog 13 #[.slice p 0 cap, .int .i64 end_] w (ofPost (ofF T 0 end_) w) := by
  rw [ofF_zero]
  go_enter Tryz.func13, Tryz.ntmps13
  go_wp2_with fail
  refine (wrong_zero p cap _).mono ?_
  rintro e w1 ⟨rfl, rfl⟩
  go_wp2_with fail
  refine (either_zero p cap _).mono ?_
  rintro e w1 ⟨v, rfl, ho, hb⟩
  obtain ⟨g, c, rfl, -, -, -⟩ := owns_block ho (by simp)
  have HO := Lib.hid ho; have HB := Lib.hid hb
  clear ho hb
  go_wp2
  go_ret3
  exact ofPost.good [nd0 2] rfl HO.out HB.out
end Go.Proofs.YtiahgcgpakgeeaaGreatDoor

namespace Go.Proofs.YtiahgcgpakgeeaaGreatDoor
open Go.RowKit Go.ChangeShapes Go.ChangeAt

/-- The rows: a name's bytes, and the ends of a run. -/
def tabL : List (List UInt8 × Nat × Nat) :=
  [([97, 108, 110, 117, 109], 48, 57), ([97, 108, 110, 117, 109], 65, 90), ([97, 108, 110, 117, 109], 97, 122),
   ([97, 108, 112, 104, 97], 65, 90), ([97, 108, 112, 104, 97], 97, 122),
   ([98, 108, 97, 110, 107], 9, 9), ([98, 108, 97, 110, 107], 32, 32),
   ([99, 110, 116, 114, 108], 0, 31), ([99, 110, 116, 114, 108], 127, 127),
   ([100, 105, 103, 105, 116], 48, 57),
   ([103, 114, 97, 112, 104], 33, 126),
   ([108, 111, 119, 101, 114], 97, 122),
   ([112, 114, 105, 110, 116], 32, 126),
   ([112, 117, 110, 99, 116], 33, 47), ([112, 117, 110, 99, 116], 58, 64), ([112, 117, 110, 99, 116], 91, 96), ([112, 117, 110, 99, 116], 123, 126),
   ([115, 112, 97, 99, 101], 9, 13), ([115, 112, 97, 99, 101], 32, 32),
   ([117, 112, 112, 101, 114], 65, 90),
   ([120, 100, 105, 103, 105, 116], 48, 57), ([120, 100, 105, 103, 105, 116], 65, 70), ([120, 100, 105, 103, 105, 116], 97, 102)]
def rowD {H : Type} (r : List UInt8 × Nat × Nat) : DataW H := .agg [.lit (.string r.1), .lit (.int .u8 (r.2.1 : Int)), .lit (.int .u8 (r.2.2 : Int))]
theorem laid_tab {H : Type} : (Rows.laid_tatting_named_table : DataW H) = .agg (tabL.map rowD) := rfl
def rowC (r : List UInt8 × Nat × Nat) : List Value := [.string ⟨r.1.toArray⟩, .int .u8 (r.2.1 : Int), .int .u8 (r.2.2 : Int)]
/-- The table's cells. -/
def tabC : List Value := tabL.flatMap rowC
theorem tabC_length : tabC.length = 69 := by decide +kernel

/-- Cells that are, three by three, those of some rows. -/
theorem chunks : ∀ (l : List (List UInt8 × Nat × Nat)) (cs : List Value), cs.length = 3 * l.length → (∀ i (h : i < l.length), (cs.drop (i * 3)).take 3 = rowC l[i]) → cs = l.flatMap rowC := by
  intro l
  induction l with
  | nil => intro cs h _; exact List.length_eq_zero_iff.1 (by simpa using h)
  | cons r l ih =>
    intro cs h hc
    have h0 := hc 0 (by simp)
    simp only [Nat.zero_mul, List.drop_zero, List.getElem_cons_zero] at h0
    have h1 : cs.drop 3 = l.flatMap rowC := by
      refine ih _ (by simp only [List.length_drop, h, List.length_cons]; omega) fun i hi => ?_
      have := hc (i + 1) (by simp; omega)
      simp only [List.getElem_cons_succ] at this
      rw [← this, List.drop_drop]
      congr 2
      omega
    rw [List.flatMap_cons, ← h0, ← h1, List.take_append_drop]

theorem cells41 : Tryz.prog.cellsOf 130 = 3 := by kernel_rfl
theorem cells42 : Tryz.prog.cellsOf 131 = 69 := by kernel_rfl
theorem cells9 : Tryz.prog.cellsOf 9 = 1 := by kernel_rfl
theorem cells5 : Tryz.prog.cellsOf 5 = 1 := by kernel_rfl
theorem gTab : Tryz.prog.globalNamed "tatting/named.table" = some 1 := by kernel_rfl
theorem tTab : (Tryz.prog.globals[1]?).map (·.type) = some 131 := by kernel_rfl

theorem row_open {H : Type} {enc : TypeId × Value → H} {w : World} {base : Nat} {sp : Nat → Bool} {held : Bool} {fuel : Nat} {cs : List Value} {x : DataW H × List MemPlace} {r : List UInt8 × Nat × Nat}
    (h : DataW.trod enc Tryz.prog w base sp held fuel 130 cs = some x) (hx : x.1 = rowD r) : cs = rowC r := by
  obtain ⟨y0, y1, y2, n, rfl, hl, h0, h1, h2⟩ := Go.Deep.trod_struct3 Tryz.underlying130 h
  rw [cells41] at hl
  obtain ⟨c0, c1, c2, rfl⟩ : ∃ c0 c1 c2, cs = [c0, c1, c2] := by
    rcases cs with _ | ⟨c0, _ | ⟨c1, _ | ⟨c2, _ | ⟨c3, r⟩⟩⟩⟩
    · simp at hl
    · simp at hl
    · simp at hl
    · exact ⟨_, _, _, rfl⟩
    · simp at hl
  obtain ⟨s, e0, rfl, _⟩ := DataW.trod_string Tryz.underlying9 h0
  obtain ⟨n1, e1, rfl, _⟩ := DataW.trod_int Tryz.underlying5 h1
  obtain ⟨n2, e2, rfl, _⟩ := DataW.trod_int Tryz.underlying5 h2
  simp only [cells9, cells5] at e0 e1 e2
  simp at e0 e1 e2
  subst e0 e1 e2
  simp only [rowD, DataW.agg.injEq, List.cons.injEq, DataW.lit.injEq, Lit.string.injEq, Lit.int.injEq, true_and, and_true] at hx
  obtain ⟨g0, g1, g2⟩ := hx
  unfold rowC
  rw [← g0, ← g1, ← g2]

/-- The table's cells stand where the program's text lays them. -/
def Tabbed (w : World) : Prop := w.rangeAt 1 0 tabC
theorem Tabbed.pos {w : World} (h : Tabbed w) : 1 < w.heap.size :=
  World.block_lt_of_cell? w ⟨1, 0, none⟩ (h 0 _ (show tabC[0]? = some (.string ⟨#[97, 108, 110, 117, 109]⟩) from rfl))
theorem Tabbed.below {w w' : World} {B : Nat} (h : Tabbed w) (hb : Below B w w') (hB : 1 < B) : Tabbed w' := fun j v hv => (hb.cell (p := ⟨1, 0 + j, none⟩) hB).trans (h j v hv)
theorem Tabbed.to {w w' : World} (h : Tabbed w) (hb : Below w.heap.size w w') : Tabbed w' := h.below hb h.pos
theorem Tabbed.alloc {w : World} (h : Tabbed w) (o : Obj) : Tabbed (w.alloc o) := World.rangeAt_alloc h o
theorem Tabbed.drew {w : World} (h : Tabbed w) : Tabbed w.drew := (World.rangeAt_drew _ _ _ _).2 h

theorem tabbed_of_met {W : World} (h : laidMet Tryz.prog [("tatting/named.table", Rows.laid_tatting_named_table)] W) : Tabbed W := by
  obtain ⟨ps, ⟨g, t, cs, f, p, q, hg, ht, hv, hd, _, _⟩, _⟩ := h
  obtain rfl := Option.some.inj (gTab.symm.trans hg)
  obtain rfl := Option.some.inj (tTab.symm.trans ht)
  rw [laid_tab] at hd
  obtain ⟨xs, m, _, hx, hl, hn, hel⟩ := DataW.trod_array Tryz.underlying131 hd
  rw [cells42] at hl
  simp only [Prod.mk.injEq, DataW.agg.injEq] at hx
  have hcs : cs.toList = tabC := by
    refine chunks tabL _ (by rw [hl]; rfl) fun i hi => ?_
    have hi23 : i < 23 := hi
    have he := hel i hi23
    rw [cells41] at he
    have hxi : xs[i]? = some xs[i] := List.getElem?_eq_getElem (by omega)
    rw [hxi] at he
    refine row_open he ?_
    have h3 : (tabL.map rowD)[i]? = (xs.map (·.1))[i]? := by rw [hx.1]
    rw [List.getElem?_map, List.getElem?_map, hxi, List.getElem?_eq_getElem hi] at h3
    simpa using h3.symm
  intro j v hj
  have hc := World.var?_cell hg hv j
  rw [Nat.zero_add]
  rw [← hcs] at hj
  rw [hc, ← Array.getElem?_toList, hj]
theorem tabbed_of_laid {W : World} (h : laidMetH Tryz.prog [("tatting/named.table", Rows.laid_tatting_named_table)] W) : Tabbed W := by
  rw [MakeChecks.laidMetH_plain _ _ _ (by kernel_rfl)] at h
  exact tabbed_of_met h
end Go.Proofs.YtiahgcgpakgeeaaGreatDoor

namespace Go.Proofs.YtiahgcgpakgeeaaGreatDoor
open Go.Shelf Go.Proofs
def Sh.lays145_ren : Go.Shelf.Ren := ⟨fun | 145 => 43 | 220 => 58 | 219 => 68 | 217 => 82 | 225 => 83 | 224 => 84 | 267 => 85 | 266 => 93 | 314 => 94 | n => n, fun | 9 => 9 | 4 => 4 | 59 => 82 | 3 => 3 | 5 => 5 | 46 => 89 | 146 => 118 | 51 => 117 | n => n, fun | 1 => 0 | n => n⟩
theorem Sh.lays145 : Go.Proofs.Lays.n145 Tryz.prog Sh.lays145_ren := {
  mixed := by kernel_rfl
  f145 := Tryz.func43.trans (congrArg some (by kernel_rfl))
  f217 := Tryz.func82.trans (congrArg some (by kernel_rfl))
  f219 := Tryz.func68.trans (congrArg some (by kernel_rfl))
  f220 := Tryz.func58.trans (congrArg some (by kernel_rfl))
  f224 := Tryz.func84.trans (congrArg some (by kernel_rfl))
  f225 := Tryz.func83.trans (congrArg some (by kernel_rfl))
  f266 := Tryz.func93.trans (congrArg some (by kernel_rfl))
  f267 := Tryz.func85.trans (congrArg some (by kernel_rfl))
  f314 := Tryz.func94.trans (congrArg some (by kernel_rfl))
  t3 := Tryz.underlying3
  a3 := Tryz.isAgg3
  z3 := Tryz.sizeOf3
  v3 := Tryz.zeroValue3
  t4 := Tryz.underlying4
  a4 := Tryz.isAgg4
  z4 := Tryz.sizeOf4
  v4 := Tryz.zeroValue4
  t5 := Tryz.underlying5
  a5 := Tryz.isAgg5
  z5 := Tryz.sizeOf5
  v5 := Tryz.zeroValue5
  t9 := Tryz.underlying9
  a9 := Tryz.isAgg9
  z9 := Tryz.sizeOf9
  v9 := Tryz.zeroValue9
  t46 := Tryz.underlying89
  a46 := Tryz.isAgg89
  z46 := Tryz.sizeOf89
  v46 := Tryz.zeroValue89
  t51 := Tryz.underlying117
  a51 := Tryz.isAgg117
  z51 := Tryz.sizeOf117
  v51 := Tryz.zeroValue117
  t59 := Tryz.underlying82
  a59 := Tryz.isAgg82
  z59 := Tryz.sizeOf82
  v59 := Tryz.zeroValue82
  t146 := Tryz.underlying118
  a146 := Tryz.isAgg118
  z146 := Tryz.sizeOf118
  v146 := Tryz.zeroValue118
  g1 := by kernel_rfl }
open Go.RowKit Go.Lib in
/-- strings.Cut: "Cut slices s around the first instance of sep, returning the text before and after sep. The found result reports whether sep appears in s. If sep does not appear in s, cut returns s, "", false.": IT RETURNS 'Lib.cut s sep'; the world is as it was but for the count of draws. (LAID: no walk: one application.) -/
theorem Sh.strings_Cut (s sep : ByteArray) (m : Int) (w : World) (hs : s.size < 4294967281) (hm : w.cell? ⟨0, 0, none⟩ = some (.int .i64 m)) :
    Calls Tryz.prog 43 #[.string s, .string sep] w fun e w' => e = .returned (.tuple #[.string ⟨(Lib.cut s.data.toList sep.data.toList).1.toArray⟩, .string ⟨(Lib.cut s.data.toList sep.data.toList).2.1.toArray⟩, .bool (Lib.cut s.data.toList sep.data.toList).2.2]) ∧ ∃ n, w' = w.drewN n := Any.strings_Cut Sh.lays145 s sep m w hs hm
def Sh.lays99_ren : Go.Shelf.Ren := ⟨fun | 99 => 63 | 206 => 76 | n => n, fun | 9 => 9 | 4 => 4 | 3 => 3 | n => n, fun | n => n⟩
theorem Sh.lays99 : Go.Proofs.Lays.n99 Tryz.prog Sh.lays99_ren := {
  mixed := by kernel_rfl
  f99 := Tryz.func63.trans (congrArg some (by kernel_rfl))
  f206 := Tryz.func76.trans (congrArg some (by kernel_rfl))
  t3 := Tryz.underlying3
  a3 := Tryz.isAgg3
  z3 := Tryz.sizeOf3
  v3 := Tryz.zeroValue3
  t4 := Tryz.underlying4
  a4 := Tryz.isAgg4
  z4 := Tryz.sizeOf4
  v4 := Tryz.zeroValue4
  t9 := Tryz.underlying9
  a9 := Tryz.isAgg9
  z9 := Tryz.sizeOf9
  v9 := Tryz.zeroValue9 }
open Go.RowKit Go.Lib in
/-- strings.HasPrefix: "HasPrefix reports whether the string s begins with prefix.": IT RETURNS 'Lib.hasPrefix s prefix'; the world is as it was. (LAID: no walk: one application.) -/
theorem Sh.strings_HasPrefix (s p : ByteArray) (w : World) :
    Calls Tryz.prog 63 #[.string s, .string p] w fun e w' => e = .returned (.bool (Lib.hasPrefix s.data.toList p.data.toList)) ∧ w' = w := Any.strings_HasPrefix Sh.lays99 s p w

def Sh.lays171_ren : Go.Shelf.Ren := ⟨fun | 171 => 59 | 243 => 69 | 246 => 86 | 283 => 95 | 284 => 96 | 285 => 97 | 286 => 98 | 129 => 106 | 317 => 105 | 318 => 107 | 319 => 108 | 320 => 109 | 337 => 112 | 338 => 113 | n => n, fun | 3 => 3 | 9 => 9 | 2 => 2 | 4 => 4 | 171 => 120 | 0 => 0 | 53 => 34 | 37 => 91 | 5 => 5 | 173 => 123 | 212 => 133 | 51 => 117 | 20 => 20 | 213 => 134 | 46 => 89 | 232 => 145 | 233 => 146 | n => n, fun | 17 => 2 | 18 => 5 | 19 => 6 | n => n⟩
theorem Sh.lays171 : Go.Proofs.Lays.n171 Tryz.prog Sh.lays171_ren := {
  mixed := by kernel_rfl
  f129 := Tryz.func106.trans (congrArg some (by kernel_rfl))
  f171 := Tryz.func59.trans (congrArg some (by kernel_rfl))
  f243 := Tryz.func69.trans (congrArg some (by kernel_rfl))
  f246 := Tryz.func86.trans (congrArg some (by kernel_rfl))
  f283 := Tryz.func95.trans (congrArg some (by kernel_rfl))
  f284 := Tryz.func96.trans (congrArg some (by kernel_rfl))
  f285 := Tryz.func97.trans (congrArg some (by kernel_rfl))
  f286 := Tryz.func98.trans (congrArg some (by kernel_rfl))
  f317 := Tryz.func105.trans (congrArg some (by kernel_rfl))
  f318 := Tryz.func107.trans (congrArg some (by kernel_rfl))
  f319 := Tryz.func108.trans (congrArg some (by kernel_rfl))
  f320 := Tryz.func109.trans (congrArg some (by kernel_rfl))
  f337 := Tryz.func112.trans (congrArg some (by kernel_rfl))
  f338 := Tryz.func113.trans (congrArg some (by kernel_rfl))
  t0 := Tryz.underlying0
  a0 := Tryz.isAgg0
  z0 := Tryz.sizeOf0
  v0 := Tryz.zeroValue0
  t2 := Tryz.underlying2
  a2 := Tryz.isAgg2
  z2 := Tryz.sizeOf2
  v2 := Tryz.zeroValue2
  t3 := Tryz.underlying3
  a3 := Tryz.isAgg3
  z3 := Tryz.sizeOf3
  v3 := Tryz.zeroValue3
  t4 := Tryz.underlying4
  a4 := Tryz.isAgg4
  z4 := Tryz.sizeOf4
  v4 := Tryz.zeroValue4
  t5 := Tryz.underlying5
  a5 := Tryz.isAgg5
  z5 := Tryz.sizeOf5
  v5 := Tryz.zeroValue5
  t9 := Tryz.underlying9
  a9 := Tryz.isAgg9
  z9 := Tryz.sizeOf9
  v9 := Tryz.zeroValue9
  t20 := Tryz.underlying20
  a20 := Tryz.isAgg20
  z20 := Tryz.sizeOf20
  v20 := Tryz.zeroValue20
  t37 := Tryz.underlying91
  a37 := Tryz.isAgg91
  z37 := Tryz.sizeOf91
  v37 := Tryz.zeroValue91
  t46 := Tryz.underlying89
  a46 := Tryz.isAgg89
  z46 := Tryz.sizeOf89
  v46 := Tryz.zeroValue89
  t51 := Tryz.underlying117
  a51 := Tryz.isAgg117
  z51 := Tryz.sizeOf117
  v51 := Tryz.zeroValue117
  t53 := Tryz.underlying34
  a53 := Tryz.isAgg34
  z53 := Tryz.sizeOf34
  v53 := Tryz.zeroValue34
  t171 := Tryz.underlying120
  a171 := Tryz.isAgg120
  z171 := Tryz.sizeOf120
  v171 := Tryz.zeroValue120
  t173 := Tryz.underlying123
  a173 := Tryz.isAgg123
  z173 := Tryz.sizeOf123
  v173 := Tryz.zeroValue123
  t212 := Tryz.underlying133
  a212 := Tryz.isAgg133
  z212 := Tryz.sizeOf133
  v212 := Tryz.zeroValue133
  t213 := Tryz.underlying134
  a213 := Tryz.isAgg134
  z213 := Tryz.sizeOf134
  t232 := Tryz.underlying145
  a232 := Tryz.isAgg145
  z232 := Tryz.sizeOf145
  v232 := Tryz.zeroValue145
  t233 := Tryz.underlying146
  a233 := Tryz.isAgg146
  z233 := Tryz.sizeOf146
  v233 := Tryz.zeroValue146
  g17 := by kernel_rfl
  g18 := by kernel_rfl
  g19 := by kernel_rfl }
open Go.RowKit Go.Sort Go.Lib in
/-- THE ROAD WITHOUT THE TABLE: 0 <= i < 100: NO PREMISE ON THE WORLD, AND THE WORLD IS AS IT WAS: a row that keeps its argument in that range need list no table ('laid = []'). (LAID: no walk: one application.) -/
theorem Sh.strconv_Itoa_small (i : Nat) (hi : i < 100) (w : World) :
    Calls Tryz.prog 59 #[.int .i64 i] w fun e w' => e = .returned (.string ⟨(Lib.decDigits i).toArray⟩) ∧ w' = w := Any.strconv_Itoa_small Sh.lays171 i hi w
def Sh.laysC245_ren : Go.Shelf.Ren := ⟨fun | 245 => 89 | 279 => 101 | 280 => 102 | 281 => 103 | 282 => 104 | 316 => 110 | 171 => 59 | 205 => 111 | 243 => 69 | 246 => 86 | 283 => 95 | 284 => 96 | 285 => 97 | 286 => 98 | 129 => 106 | 317 => 105 | 318 => 107 | 319 => 108 | 320 => 109 | 337 => 112 | 338 => 113 | n => n, fun | 9 => 9 | 3 => 3 | 75 => 104 | 167 => 125 | 4 => 4 | 168 => 127 | 210 => 138 | 37 => 91 | 0 => 0 | 127 => 141 | 145 => 144 | 143 => 142 | 2 => 2 | 171 => 120 | 53 => 34 | 5 => 5 | 173 => 123 | 212 => 133 | 51 => 117 | 20 => 20 | 213 => 134 | 46 => 89 | 232 => 145 | 233 => 146 | 80 => 147 | n => n, fun | 15 => 3 | 16 => 4 | 17 => 2 | 18 => 5 | 19 => 6 | n => n⟩
theorem Sh.laysC245 : Go.Proofs.LaysC.n245 Tryz.prog Sh.laysC245_ren := {
  mixed := by kernel_rfl
  f129 := Tryz.func106.trans (congrArg some (by kernel_rfl))
  f171 := Tryz.func59.trans (congrArg some (by kernel_rfl))
  f205 := Tryz.func111.trans (congrArg some (by kernel_rfl))
  f243 := Tryz.func69.trans (congrArg some (by kernel_rfl))
  f245 := Tryz.func89.trans (congrArg some (by kernel_rfl))
  f246 := Tryz.func86.trans (congrArg some (by kernel_rfl))
  f279 := Tryz.func101.trans (congrArg some (by kernel_rfl))
  f280 := Tryz.func102.trans (congrArg some (by kernel_rfl))
  f281 := Tryz.func103.trans (congrArg some (by kernel_rfl))
  f282 := Tryz.func104.trans (congrArg some (by kernel_rfl))
  f283 := Tryz.func95.trans (congrArg some (by kernel_rfl))
  f284 := Tryz.func96.trans (congrArg some (by kernel_rfl))
  f285 := Tryz.func97.trans (congrArg some (by kernel_rfl))
  f286 := Tryz.func98.trans (congrArg some (by kernel_rfl))
  f316 := Tryz.func110.trans (congrArg some (by kernel_rfl))
  f317 := Tryz.func105.trans (congrArg some (by kernel_rfl))
  f318 := Tryz.func107.trans (congrArg some (by kernel_rfl))
  f319 := Tryz.func108.trans (congrArg some (by kernel_rfl))
  f320 := Tryz.func109.trans (congrArg some (by kernel_rfl))
  f337 := Tryz.func112.trans (congrArg some (by kernel_rfl))
  f338 := Tryz.func113.trans (congrArg some (by kernel_rfl))
  t0 := Tryz.underlying0
  a0 := Tryz.isAgg0
  z0 := Tryz.sizeOf0
  v0 := Tryz.zeroValue0
  t2 := Tryz.underlying2
  a2 := Tryz.isAgg2
  z2 := Tryz.sizeOf2
  v2 := Tryz.zeroValue2
  t3 := Tryz.underlying3
  a3 := Tryz.isAgg3
  z3 := Tryz.sizeOf3
  v3 := Tryz.zeroValue3
  t4 := Tryz.underlying4
  a4 := Tryz.isAgg4
  z4 := Tryz.sizeOf4
  v4 := Tryz.zeroValue4
  t5 := Tryz.underlying5
  a5 := Tryz.isAgg5
  z5 := Tryz.sizeOf5
  v5 := Tryz.zeroValue5
  t9 := Tryz.underlying9
  a9 := Tryz.isAgg9
  z9 := Tryz.sizeOf9
  v9 := Tryz.zeroValue9
  t20 := Tryz.underlying20
  a20 := Tryz.isAgg20
  z20 := Tryz.sizeOf20
  v20 := Tryz.zeroValue20
  t37 := Tryz.underlying91
  a37 := Tryz.isAgg91
  z37 := Tryz.sizeOf91
  v37 := Tryz.zeroValue91
  t46 := Tryz.underlying89
  a46 := Tryz.isAgg89
  z46 := Tryz.sizeOf89
  v46 := Tryz.zeroValue89
  t51 := Tryz.underlying117
  a51 := Tryz.isAgg117
  z51 := Tryz.sizeOf117
  v51 := Tryz.zeroValue117
  t53 := Tryz.underlying34
  a53 := Tryz.isAgg34
  z53 := Tryz.sizeOf34
  v53 := Tryz.zeroValue34
  t75 := Tryz.underlying104
  a75 := Tryz.isAgg104
  z75 := Tryz.sizeOf104
  v75 := Tryz.zeroValue104
  t127 := Tryz.underlying141
  a127 := Tryz.isAgg141
  z127 := Tryz.sizeOf141
  v127 := Tryz.zeroValue141
  t143 := Tryz.underlying142
  a143 := Tryz.isAgg142
  z143 := Tryz.sizeOf142
  v143 := Tryz.zeroValue142
  t145 := Tryz.underlying144
  a145 := Tryz.isAgg144
  z145 := Tryz.sizeOf144
  v145 := Tryz.zeroValue144
  t167 := Tryz.underlying125
  a167 := Tryz.isAgg125
  z167 := Tryz.sizeOf125
  v167 := Tryz.zeroValue125
  t168 := Tryz.underlying127
  a168 := Tryz.isAgg127
  z168 := Tryz.sizeOf127
  v168 := Tryz.zeroValue127
  t171 := Tryz.underlying120
  a171 := Tryz.isAgg120
  z171 := Tryz.sizeOf120
  v171 := Tryz.zeroValue120
  t173 := Tryz.underlying123
  a173 := Tryz.isAgg123
  z173 := Tryz.sizeOf123
  v173 := Tryz.zeroValue123
  t210 := Tryz.underlying138
  a210 := Tryz.isAgg138
  z210 := Tryz.sizeOf138
  v210 := Tryz.zeroValue138
  t212 := Tryz.underlying133
  a212 := Tryz.isAgg133
  z212 := Tryz.sizeOf133
  v212 := Tryz.zeroValue133
  t213 := Tryz.underlying134
  a213 := Tryz.isAgg134
  z213 := Tryz.sizeOf134
  t232 := Tryz.underlying145
  a232 := Tryz.isAgg145
  z232 := Tryz.sizeOf145
  v232 := Tryz.zeroValue145
  t233 := Tryz.underlying146
  a233 := Tryz.isAgg146
  z233 := Tryz.sizeOf146
  v233 := Tryz.zeroValue146
  g15 := by kernel_rfl
  g16 := by kernel_rfl
  g17 := by kernel_rfl
  g18 := by kernel_rfl
  g19 := by kernel_rfl
  t80 := Tryz.underlying147
  a80 := Tryz.isAgg147
  z80 := Tryz.sizeOf147
  v80 := Tryz.zeroValue147
  i0 := by kernel_rfl
  i2 := by kernel_rfl
  i3 := by kernel_rfl
  i4 := by kernel_rfl
  i5 := by kernel_rfl
  i9 := by kernel_rfl
  i20 := by kernel_rfl
  i37 := by kernel_rfl
  i46 := by kernel_rfl
  i51 := by kernel_rfl
  i53 := by kernel_rfl
  i75 := by kernel_rfl
  i80 := by kernel_rfl
  i127 := by kernel_rfl
  i143 := by kernel_rfl
  i145 := by kernel_rfl
  i167 := by kernel_rfl
  i168 := by kernel_rfl
  i171 := by kernel_rfl
  i173 := by kernel_rfl
  i210 := by kernel_rfl
  i212 := by kernel_rfl
  i232 := by kernel_rfl
  i233 := by kernel_rfl
  m15 := by kernel_rfl
  m16 := by kernel_rfl
  m17 := by kernel_rfl
  m18 := by kernel_rfl
  m19 := by kernel_rfl
  c0 := by kernel_rfl
  c2 := by kernel_rfl
  c3 := by kernel_rfl
  c4 := by kernel_rfl
  c5 := by kernel_rfl
  c9 := by kernel_rfl
  c20 := by kernel_rfl
  c37 := by kernel_rfl
  c46 := by kernel_rfl
  c51 := by kernel_rfl
  c53 := by kernel_rfl
  c75 := by kernel_rfl
  c80 := by kernel_rfl
  c127 := by kernel_rfl
  c143 := by kernel_rfl
  c145 := by kernel_rfl
  c167 := by kernel_rfl
  c168 := by kernel_rfl
  c171 := by kernel_rfl
  c173 := by kernel_rfl
  c210 := by kernel_rfl
  c212 := by kernel_rfl
  c213 := by kernel_rfl
  c232 := by kernel_rfl
  c233 := by kernel_rfl }
open Go.RowKit in
/-- strconv.toError, at the inner package's ErrSyntax: 'syntaxError(fn, s)' as an error: A *NumError IN A NEW BLOCK. (LAID: no walk: one application.) -/
theorem Sh.strconv_toError_syntax (fn s : ByteArray) (base bits : Int) (ev : Value) (w : World) (hlim : s.size ≤ 281474976710656) (hv : w.cell? ⟨3, 0, none⟩ = some ev) (hev : ev = .nilIface ∨ ∃ te pe, ev = .iface te pe) :
    Calls Tryz.prog 89 #[.string fn, .string s, .int .i64 base, .int .i64 bits, .iface 125 (.int .i64 2)] w fun e w' => ∃ N, e = .returned (.iface 127 (.pointer (some ⟨N, 0, none⟩))) ∧ w.heap.size ≤ N ∧ w'.heap[N]? = some (.cells #[.string fn, .string s, ev] 138 (0, 0)) ∧ Below w.heap.size w w' := Any.strconv_toError_syntax Sh.laysC245 fn s base bits ev w hlim hv hev
def Sh.lays321_ren : Go.Shelf.Ren := ⟨fun | 321 => 99 | n => n, fun | 5 => 5 | n => n, fun | n => n⟩
theorem Sh.lays321 : Go.Proofs.Lays.n321 Tryz.prog Sh.lays321_ren := {
  mixed := by kernel_rfl
  f321 := Tryz.func99.trans (congrArg some (by kernel_rfl))
  t5 := Tryz.underlying5
  a5 := Tryz.isAgg5
  z5 := Tryz.sizeOf5
  v5 := Tryz.zeroValue5 }
open Go.RowKit in
/-- internal/strconv.lower: 'c | ('x' - 'X')': the bit 32 set. The world is as it was. (LAID: no walk: one application.) -/
theorem Sh.internal_strconv_lower (c : Int) (w : World) :
    Calls Tryz.prog 99 #[.int .u8 c] w fun e w' => e = .returned (.int .u8 (bits .or .u8 c 32)) ∧ w' = w := Any.internal_strconv_lower Sh.lays321 c w
def Sh.laysM219_ren : Go.Shelf.Ren := ⟨fun | 219 => 68 | 217 => 82 | 225 => 83 | 224 => 84 | 267 => 85 | 266 => 93 | 314 => 94 | n => n, fun | 9 => 9 | 3 => 3 | 4 => 4 | 5 => 5 | 46 => 89 | 146 => 118 | 51 => 117 | n => n, fun | 1 => 0 | n => n⟩
theorem Sh.laysM219 : Go.Proofs.LaysM.n219 Tryz.prog Sh.laysM219_ren := {
  mixed := by kernel_rfl
  f217 := Tryz.func82.trans (congrArg some (by kernel_rfl))
  f219 := Tryz.func68.trans (congrArg some (by kernel_rfl))
  f224 := Tryz.func84.trans (congrArg some (by kernel_rfl))
  f225 := Tryz.func83.trans (congrArg some (by kernel_rfl))
  f266 := Tryz.func93.trans (congrArg some (by kernel_rfl))
  f267 := Tryz.func85.trans (congrArg some (by kernel_rfl))
  f314 := Tryz.func94.trans (congrArg some (by kernel_rfl))
  t3 := Tryz.underlying3
  a3 := Tryz.isAgg3
  z3 := Tryz.sizeOf3
  v3 := Tryz.zeroValue3
  t4 := Tryz.underlying4
  a4 := Tryz.isAgg4
  z4 := Tryz.sizeOf4
  v4 := Tryz.zeroValue4
  t5 := Tryz.underlying5
  a5 := Tryz.isAgg5
  z5 := Tryz.sizeOf5
  v5 := Tryz.zeroValue5
  t9 := Tryz.underlying9
  a9 := Tryz.isAgg9
  z9 := Tryz.sizeOf9
  v9 := Tryz.zeroValue9
  t46 := Tryz.underlying89
  a46 := Tryz.isAgg89
  z46 := Tryz.sizeOf89
  v46 := Tryz.zeroValue89
  t51 := Tryz.underlying117
  a51 := Tryz.isAgg117
  z51 := Tryz.sizeOf117
  v51 := Tryz.zeroValue117
  t146 := Tryz.underlying118
  a146 := Tryz.isAgg118
  z146 := Tryz.sizeOf118
  v146 := Tryz.zeroValue118
  g1 := by kernel_rfl
  i3 := by kernel_rfl
  i4 := by kernel_rfl
  i5 := by kernel_rfl
  i9 := by kernel_rfl
  i46 := by kernel_rfl
  i51 := by kernel_rfl
  i146 := by kernel_rfl
  m1 := by kernel_rfl
  s1_3 := fun w h => Go.Proofs.cell_of_shapedOpen_int (zero := #[.int .i64 0]) (t := 3) h (of_decide_eq_true (by kernel_rfl)) (by kernel_rfl) rfl (by kernel_rfl) (by kernel_rfl) Tryz.underlying3 }
end Go.Proofs.YtiahgcgpakgeeaaGreatDoor

namespace Go.Proofs.YtiahgcgpakgeeaaGreatDoor
open Go.RowKit Go.ChangeShapes Go.ChangeAt

/-- The table's cells stand as laid; bytealg's number is some number; strconv's error is some error. -/
def Okw (w : World) : Prop := Tabbed w ∧ (∃ m, w.cell? ⟨0, 0, none⟩ = some (.int .i64 m)) ∧ ∃ te pe, w.cell? ⟨3, 0, none⟩ = some (.iface te pe)
theorem Okw.to {w w' : World} (h : Okw w) (hb : Below w.heap.size w w') : Okw w' := by
  obtain ⟨h1, ⟨m, h2⟩, te, pe, h3⟩ := h
  have l2 := World.block_lt_of_cell? w _ h2
  have l3 := World.block_lt_of_cell? w _ h3
  exact ⟨h1.to hb, ⟨m, (hb.cell (p := ⟨_, 0, none⟩) l2).trans h2⟩, te, pe, (hb.cell (p := ⟨_, 0, none⟩) l3).trans h3⟩
theorem Okw.alloc {w : World} (h : Okw w) (o : Obj) : Okw (w.alloc o) := h.to ((Below.refl _ _).alloc (Nat.le_refl _) o)
theorem Okw.drewN {w : World} (h : Okw w) (n : Nat) : Okw (w.drewN n) := h
theorem Okw.lt {w : World} (h : Okw w) : 1 < w.heap.size := World.block_lt_of_cell? w ⟨1, 0, none⟩ (h.1 0 _ (show tabC[0]? = some (.string ⟨#[97, 108, 110, 117, 109]⟩) from rfl))
theorem Okw.old {w w' : World} {B : Nat} (h : Okw w) (hb : Below B w w') (hB : w.heap.size ≤ B) : Okw w' := h.to (hb.mono hB)

theorem gErr : Tryz.prog.globalNamed "strconv.ErrSyntax" = some 3 := by kernel_rfl
theorem tErr : (Tryz.prog.globals[3]?).map (·.type) = some 104 := by kernel_rfl
theorem cellsE : Tryz.prog.cellsOf 144 = 1 := by kernel_rfl
theorem starE : "*" ++ "errors.errorString" = "*errors.errorString" := by decide
theorem rowE (u : TypeId) (h : Tryz.prog.typeName? 3 u = some "*errors.errorString") : u = 142 :=
  typeName_ptr_named (nm := "errors.errorString") (by rw [starE]; kernel_rfl) (by kernel_rfl) (by decide) u (by rw [starE]; exact h)

theorem okw_of_met {L : List (String × DataW Unit)} {W : World} (h : laidMet Tryz.prog L W) (hsh : W.ShapedOpen Tryz.prog)
    (f1 : (L.filter fun x => x.1 == "tatting/named.table") = [("tatting/named.table", Rows.laid_tatting_named_table)])
    (f2 : (L.filter fun x => x.1 == "strconv.ErrSyntax") = [("strconv.ErrSyntax", Rows.laid_strconv_ErrSyntax)]) : Okw W := by
  have h1 := h.filter fun x => x.1 == "tatting/named.table"
  rw [f1] at h1
  have h2 := h.filter fun x => x.1 == "strconv.ErrSyntax"
  rw [f2] at h2
  obtain ⟨a0, s0, hv0, -, -, -⟩ := laid_sentinel h2 gErr tErr Tryz.underlying104 rowE Tryz.underlying142 Tryz.underlying144 rfl rfl Tryz.underlying9 cellsE cells9
  have h0 := World.var?_cell gErr hv0 0
  exact ⟨tabbed_of_met h1, Sh.laysM219.s1_3 W hsh, _, _, by simpa using h0⟩
end Go.Proofs.YtiahgcgpakgeeaaGreatDoor
