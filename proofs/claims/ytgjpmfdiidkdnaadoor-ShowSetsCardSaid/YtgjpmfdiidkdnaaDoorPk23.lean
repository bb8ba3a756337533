/-
  The walks of show's in, digit, end, alone.
  The walks of slices.Grow (of nil) and slices.Concat, over runes.
  The walk of show's run.
-/
import Derived.Test.YtgjpmfdiidkdnaaDoorPk1
import Derived.Test.YtgjpmfdiidkdnaaDoorPk14
import Derived.Test.YtgjpmfdiidkdnaaDoorPk12
import Derived.Lib.AppendZeros
import Derived.BigQuiet
import Derived.Deep.QuietTactic
import Derived.Deep.RegionHeldLaw
namespace Go.Proofs.YtgjpmfdiidkdnaaDoor
open Go.RowKit

/-- Numbers as runes. -/
def r32 (l : List Nat) : List Value := l.map fun x : Nat => .int .i32 (x : Int)
theorem r32_length (l : List Nat) : (r32 l).length = l.length := by simp [r32]
theorem r32_append (a b : List Nat) : r32 (a ++ b) = r32 a ++ r32 b := by simp [r32]
def alnS : ByteArray := { data := #[97, 108, 110, 117, 109] }
def punS : ByteArray := { data := #[112, 117, 110, 99, 116] }
def punB (b : Nat) : Bool := decide (33 ≤ b) && decide (b ≤ 126) && !plainB b
theorem aln_tab : ∀ b, b < 256 → clsD [97, 108, 110, 117, 109] 23 b = plainB b := by decide +kernel
theorem pun_tab : ∀ b, b < 256 → clsD [112, 117, 110, 99, 116] 23 b = punB b := by decide +kernel
theorem own_lit {w w1 : World} (hb : w.heap.size ≤ w1.heap.size) (cs : Array Value) (n : Nat) (hm : n ≤ 1000) (hs : cs.size = n) : (w1.alloc (.cells cs 21)).ownsRow w.heap.size 21 1 (.slice (some ⟨w1.heap.size, 0, none⟩) n n) n cs.toList :=
  World.ownsRow_lit w1 cs n hb (by unfold maxLen; omega) (by omega)
theorem in_any (s : ByteArray) (b : Nat) (hb : b < 256) (w : World) (hT : Tabbed w) :
    Calls Tryd.prog 45 #[.string s, .int .u8 (b : Int)] w fun e w' => e = .returned (.bool (clsK s 23 b)) ∧ Below w.heap.size w w' := by
  have HC := Lib.hid (class_any s w hT)
  obtain ⟨F, hF⟩ : ∃ F, clsK s 23 = F := ⟨_, rfl⟩
  rw [hF] at HC ⊢
  have HH := Lib.hid (fun w => has_lit F b hb w)
  clear hF
  go_enter Tryd.func45, Tryd.ntmps45
  go_wp2_with fail
  refine HC.out.mono ?_
  rintro e w1 ⟨rfl, hb1⟩
  have HB := Lib.hid hb1
  clear hb1
  go_wp2_with fail
  refine (HH.out _).mono ?_
  rintro e w2 ⟨rfl, hb2⟩
  go_wp2
  go_returns
  exact ⟨rfl, (HB.out.alloc HB.out.size _).trans (hb2.mono (by have := HB.out.size; simp; omega))⟩
theorem inA_any (b : Nat) (hb : b < 256) (w : World) (hT : Tabbed w) :
    Calls Tryd.prog 45 #[.string { data := #[97, 108, 110, 117, 109] }, .int .u8 (b : Int)] w fun e w' => e = .returned (.bool (plainB b)) ∧ Below w.heap.size w w' := by
  have := in_any { data := #[97, 108, 110, 117, 109] } b hb w hT
  rw [clsK_eq] at this
  exact (aln_tab b hb) ▸ this
theorem inP_any (b : Nat) (hb : b < 256) (w : World) (hT : Tabbed w) :
    Calls Tryd.prog 45 #[.string { data := #[112, 117, 110, 99, 116] }, .int .u8 (b : Int)] w fun e w' => e = .returned (.bool (punB b)) ∧ Below w.heap.size w w' := by
  have := in_any { data := #[112, 117, 110, 99, 116] } b hb w hT
  rw [clsK_eq] at this
  exact (pun_tab b hb) ▸ this
set_option maxRecDepth 100000 in
theorem cdg_any : ∀ (n : Nat), n < 16 → ∀ (w : World), Calls Tryd.prog 57 #[.int .u8 (n : Int)] w fun e w' => e = .returned (.int .i32 (hxd n : Nat)) ∧ w' = w
  | 0, _, w => by go_enter Tryd.func57, Tryd.ntmps57; go_wp2; go_returns; exact ⟨congrArg (fun z => Ending.returned (Value.int .i32 z)) (show wrap32 ((({ data := #[48, 49, 50, 51, 52, 53, 54, 55, 56, 57, 97, 98, 99, 100, 101, 102] } : ByteArray)[0]'(by decide)).toNat : Int) = ((hxd 0 : Nat) : Int) by decide +kernel), rfl⟩
  | 1, _, w => by go_enter Tryd.func57, Tryd.ntmps57; go_wp2; go_returns; exact ⟨congrArg (fun z => Ending.returned (Value.int .i32 z)) (show wrap32 ((({ data := #[48, 49, 50, 51, 52, 53, 54, 55, 56, 57, 97, 98, 99, 100, 101, 102] } : ByteArray)[1]'(by decide)).toNat : Int) = ((hxd 1 : Nat) : Int) by decide +kernel), rfl⟩
  | 2, _, w => by go_enter Tryd.func57, Tryd.ntmps57; go_wp2; go_returns; exact ⟨congrArg (fun z => Ending.returned (Value.int .i32 z)) (show wrap32 ((({ data := #[48, 49, 50, 51, 52, 53, 54, 55, 56, 57, 97, 98, 99, 100, 101, 102] } : ByteArray)[2]'(by decide)).toNat : Int) = ((hxd 2 : Nat) : Int) by decide +kernel), rfl⟩
  | 3, _, w => by go_enter Tryd.func57, Tryd.ntmps57; go_wp2; go_returns; exact ⟨congrArg (fun z => Ending.returned (Value.int .i32 z)) (show wrap32 ((({ data := #[48, 49, 50, 51, 52, 53, 54, 55, 56, 57, 97, 98, 99, 100, 101, 102] } : ByteArray)[3]'(by decide)).toNat : Int) = ((hxd 3 : Nat) : Int) by decide +kernel), rfl⟩
  | 4, _, w => by go_enter Tryd.func57, Tryd.ntmps57; go_wp2; go_returns; exact ⟨congrArg (fun z => Ending.returned (Value.int .i32 z)) (show wrap32 ((({ data := #[48, 49, 50, 51, 52, 53, 54, 55, 56, 57, 97, 98, 99, 100, 101, 102] } : ByteArray)[4]'(by decide)).toNat : Int) = ((hxd 4 : Nat) : Int) by decide +kernel), rfl⟩
  | 5, _, w => by go_enter Tryd.func57, Tryd.ntmps57; go_wp2; go_returns; exact ⟨congrArg (fun z => Ending.returned (Value.int .i32 z)) (show wrap32 ((({ data := #[48, 49, 50, 51, 52, 53, 54, 55, 56, 57, 97, 98, 99, 100, 101, 102] } : ByteArray)[5]'(by decide)).toNat : Int) = ((hxd 5 : Nat) : Int) by decide +kernel), rfl⟩
  | 6, _, w => by go_enter Tryd.func57, Tryd.ntmps57; go_wp2; go_returns; exact ⟨congrArg (fun z => Ending.returned (Value.int .i32 z)) (show wrap32 ((({ data := #[48, 49, 50, 51, 52, 53, 54, 55, 56, 57, 97, 98, 99, 100, 101, 102] } : ByteArray)[6]'(by decide)).toNat : Int) = ((hxd 6 : Nat) : Int) by decide +kernel), rfl⟩
  | 7, _, w => by go_enter Tryd.func57, Tryd.ntmps57; go_wp2; go_returns; exact ⟨congrArg (fun z => Ending.returned (Value.int .i32 z)) (show wrap32 ((({ data := #[48, 49, 50, 51, 52, 53, 54, 55, 56, 57, 97, 98, 99, 100, 101, 102] } : ByteArray)[7]'(by decide)).toNat : Int) = ((hxd 7 : Nat) : Int) by decide +kernel), rfl⟩
  | 8, _, w => by go_enter Tryd.func57, Tryd.ntmps57; go_wp2; go_returns; exact ⟨congrArg (fun z => Ending.returned (Value.int .i32 z)) (show wrap32 ((({ data := #[48, 49, 50, 51, 52, 53, 54, 55, 56, 57, 97, 98, 99, 100, 101, 102] } : ByteArray)[8]'(by decide)).toNat : Int) = ((hxd 8 : Nat) : Int) by decide +kernel), rfl⟩
  | 9, _, w => by go_enter Tryd.func57, Tryd.ntmps57; go_wp2; go_returns; exact ⟨congrArg (fun z => Ending.returned (Value.int .i32 z)) (show wrap32 ((({ data := #[48, 49, 50, 51, 52, 53, 54, 55, 56, 57, 97, 98, 99, 100, 101, 102] } : ByteArray)[9]'(by decide)).toNat : Int) = ((hxd 9 : Nat) : Int) by decide +kernel), rfl⟩
  | 10, _, w => by go_enter Tryd.func57, Tryd.ntmps57; go_wp2; go_returns; exact ⟨congrArg (fun z => Ending.returned (Value.int .i32 z)) (show wrap32 ((({ data := #[48, 49, 50, 51, 52, 53, 54, 55, 56, 57, 97, 98, 99, 100, 101, 102] } : ByteArray)[10]'(by decide)).toNat : Int) = ((hxd 10 : Nat) : Int) by decide +kernel), rfl⟩
  | 11, _, w => by go_enter Tryd.func57, Tryd.ntmps57; go_wp2; go_returns; exact ⟨congrArg (fun z => Ending.returned (Value.int .i32 z)) (show wrap32 ((({ data := #[48, 49, 50, 51, 52, 53, 54, 55, 56, 57, 97, 98, 99, 100, 101, 102] } : ByteArray)[11]'(by decide)).toNat : Int) = ((hxd 11 : Nat) : Int) by decide +kernel), rfl⟩
  | 12, _, w => by go_enter Tryd.func57, Tryd.ntmps57; go_wp2; go_returns; exact ⟨congrArg (fun z => Ending.returned (Value.int .i32 z)) (show wrap32 ((({ data := #[48, 49, 50, 51, 52, 53, 54, 55, 56, 57, 97, 98, 99, 100, 101, 102] } : ByteArray)[12]'(by decide)).toNat : Int) = ((hxd 12 : Nat) : Int) by decide +kernel), rfl⟩
  | 13, _, w => by go_enter Tryd.func57, Tryd.ntmps57; go_wp2; go_returns; exact ⟨congrArg (fun z => Ending.returned (Value.int .i32 z)) (show wrap32 ((({ data := #[48, 49, 50, 51, 52, 53, 54, 55, 56, 57, 97, 98, 99, 100, 101, 102] } : ByteArray)[13]'(by decide)).toNat : Int) = ((hxd 13 : Nat) : Int) by decide +kernel), rfl⟩
  | 14, _, w => by go_enter Tryd.func57, Tryd.ntmps57; go_wp2; go_returns; exact ⟨congrArg (fun z => Ending.returned (Value.int .i32 z)) (show wrap32 ((({ data := #[48, 49, 50, 51, 52, 53, 54, 55, 56, 57, 97, 98, 99, 100, 101, 102] } : ByteArray)[14]'(by decide)).toNat : Int) = ((hxd 14 : Nat) : Int) by decide +kernel), rfl⟩
  | 15, _, w => by go_enter Tryd.func57, Tryd.ntmps57; go_wp2; go_returns; exact ⟨congrArg (fun z => Ending.returned (Value.int .i32 z)) (show wrap32 ((({ data := #[48, 49, 50, 51, 52, 53, 54, 55, 56, 57, 97, 98, 99, 100, 101, 102] } : ByteArray)[15]'(by decide)).toNat : Int) = ((hxd 15 : Nat) : Int) by decide +kernel), rfl⟩
  | _ + 16, h, _ => absurd h (by omega)

/-- What a call that makes runes tells. -/
def runesPost (l : List Nat) (w : World) (e : Ending) (w' : World) : Prop := ∃ v, e = .returned v ∧ w'.ownsRow w.heap.size 21 1 v l.length (r32 l) ∧ Below w.heap.size w w'
set_option maxRecDepth 100000 in
set_option maxHeartbeats 1000000 in
theorem cend_plain (b : Nat) (hb : b < 256) (hp : plainB b = true) (w : World) (hT : Tabbed w) : Calls Tryd.prog 46 #[.int .u8 (b : Int)] w (runesPost [b] w) := by
  have HP := Lib.hid hp
  have HI := Lib.hid (inA_any b hb w hT)
  clear hp hT
  go_enter Tryd.func46, Tryd.ntmps46
  go_wp2_with fail
  refine HI.out.mono ?_
  rintro e w1 ⟨rfl, hb1⟩
  rw [HP.out]
  have HB := Lib.hid hb1
  clear hb1
  go_wp2
  go_returns
  exact ⟨_, rfl, own_lit HB.out.size #[.int .i32 (b : Int)] 1 (by decide) rfl, HB.out.alloc HB.out.size _⟩
set_option maxRecDepth 100000 in
set_option maxHeartbeats 1000000 in
theorem cend_hex (b : Nat) (hb : b < 256) (hp : plainB b = false) (w : World) (hT : Tabbed w) : Calls Tryd.prog 46 #[.int .u8 (b : Int)] w (runesPost [92, 120, hxd (b / 16), hxd (b % 16)] w) := by
  have HP := Lib.hid hp
  have HI := Lib.hid (inA_any b hb w hT)
  have HD1 := Lib.hid (cdg_any (b / 16) (by omega))
  have HD2 := Lib.hid (cdg_any (b % 16) (by omega))
  have hq : (b : Int) / 16 = ((b / 16 : Nat) : Int) := by omega
  have hr : (b : Int) % 16 = ((b % 16 : Nat) : Int) := by omega
  have i1 : b / 16 < 256 := by omega
  have i2 : b % 16 < 256 := by omega
  generalize hxd (b / 16) = x at *
  generalize hxd (b % 16) = y at *
  generalize b / 16 = i at *
  generalize b % 16 = j at *
  clear hp hT
  go_enter Tryd.func46, Tryd.ntmps46
  go_wp2_with fail
  refine HI.out.mono ?_
  rintro e w1 ⟨rfl, hb1⟩
  rw [HP.out]
  have HB := Lib.hid hb1
  clear hb1
  go_wp2_with fail
  refine (HD1.out _).mono ?_
  rintro e wk ⟨rfl, rfl⟩
  go_wp2_with fail
  refine (HD2.out _).mono ?_
  rintro e wk ⟨rfl, rfl⟩
  go_wp2
  go_returns
  exact ⟨_, rfl, own_lit HB.out.size #[.int .i32 92, .int .i32 120, .int .i32 (x : Int), .int .i32 (y : Int)] 4 (by decide) rfl, HB.out.alloc HB.out.size _⟩
theorem cend_any (b : Nat) (hb : b < 256) (w : World) (hT : Tabbed w) : Calls Tryd.prog 46 #[.int .u8 (b : Int)] w (runesPost (endL b) w) := by
  unfold endL
  cases hp : plainB b
  · exact cend_hex b hb hp w hT
  · exact cend_plain b hb hp w hT
set_option maxRecDepth 100000 in
set_option maxHeartbeats 1000000 in
theorem alone_any (b : Nat) (hb : b < 256) (w : World) (hT : Tabbed w) : Calls Tryd.prog 23 #[.int .u8 (b : Int)] w (runesPost (if 33 ≤ b ∧ b ≤ 126 ∧ plainB b = false then [92, b] else endL b) w) := by
  have HI := Lib.hid (inP_any b hb w hT)
  by_cases hp : 33 ≤ b ∧ b ≤ 126 ∧ plainB b = false
  · have HP : Hid (punB b = true) := Lib.hid (by unfold punB; rw [hp.2.2, decide_eq_true hp.1, decide_eq_true hp.2.1]; rfl)
    rw [if_pos hp]
    clear hp hT
    go_enter Tryd.func23, Tryd.ntmps23
    go_wp2_with fail
    refine HI.out.mono ?_
    rintro e w1 ⟨rfl, hb1⟩
    rw [HP.out]
    have HB := Lib.hid hb1
    clear hb1
    go_wp2
    go_returns
    exact ⟨_, rfl, own_lit HB.out.size #[.int .i32 92, .int .i32 (b : Int)] 2 (by decide) rfl, HB.out.alloc HB.out.size _⟩
  · have HP : Hid (punB b = false) := Lib.hid (by
      unfold punB
      cases h : plainB b
      · by_cases h1 : 33 ≤ b
        · by_cases h2 : b ≤ 126
          · exact absurd ⟨h1, h2, h⟩ hp
          · rw [decide_eq_false h2]; simp
        · rw [decide_eq_false h1]; simp
      · simp)
    rw [if_neg hp]
    have HT := Lib.hid hT
    clear hp hT
    go_enter Tryd.func23, Tryd.ntmps23
    go_wp2_with fail
    refine HI.out.mono ?_
    rintro e w1 ⟨rfl, hb1⟩
    rw [HP.out]
    have HB := Lib.hid hb1
    clear hb1
    go_wp2_with fail
    refine (cend_any b hb _ (HT.out.to HB.out)).mono ?_
    rintro e w2 ⟨v, rfl, hown, hb2⟩
    have HO := Lib.hid hown
    have HB2 := Lib.hid (HB.out.trans (hb2.mono HB.out.size))
    clear hown hb2
    go_wp2
    go_returns
    exact ⟨_, rfl, owns_mono HO.out HB.out.size, HB2.out⟩
end Go.Proofs.YtgjpmfdiidkdnaaDoor

namespace Go.Proofs.YtgjpmfdiidkdnaaDoor
open Go.RowKit

theorem infoI32 : (Tryd.prog.info? 21).map (fun i => (i.zero, i.size, i.bytes)) = some (some (.int .i32 0), 1, 4) := by kernel_rfl

set_option maxRecDepth 100000 in
set_option maxHeartbeats 1000000 in
theorem grow_any (n : Nat) (h0 : 0 < n) (hn : n ≤ 100) (w : World) : Calls Tryd.prog 58 #[.slice none 0 0, .int .i64 (n : Int)] w (runesPost [] w) := by
  obtain ⟨i0, hi, hz0, hz1, hz2⟩ := info_parts infoI32
  have hg := grownCap_le_maxLen w n 0 21 (by unfold maxLen; omega)
  have hge := grownCap_ge w n 0 21
  have hr : ∀ ty, (Builtin.append_ #[57, 3] ty #[.slice none 0 0, .int .i64 (n : Int)]).run Tryd.prog w = _ := fun ty =>
    Go.Lib.run_append_nil_zeros w 57 3 ty 21 i0 (.int .i32 0) .i64 .i64 Tryd.underlying57 Tryd.underlying3 hi hz0 n h0 (by omega) (by omega) (by rw [hz2]; omega)
  have hcs : (Builtin.zeroCells (Value.int .i32 0).cells n ++ Builtin.zeroCells (Value.int .i32 0).cells (grownCap w n 0 21 - n)).size = grownCap w n 0 21 * 1 := by
    have : ∀ k, (Builtin.zeroCells (Value.int .i32 0).cells k).size = k := fun k => by rw [size_zeroCells]; exact Nat.mul_one k
    rw [Array.size_append, this, this]; omega
  generalize grownCap w n 0 21 = c at *
  generalize Builtin.zeroCells (Value.int .i32 0).cells n ++ Builtin.zeroCells (Value.int .i32 0).cells (c - n) = cs at *
  have d1 : decide ((n : Int) < 0) = false := decide_eq_false (by omega)
  have d2 : decide ((0 : Int) < (n : Int)) = true := decide_eq_true (by omega)
  have HR := Lib.hid hr
  have HCS := Lib.hid hcs
  have HG := Lib.hid hg
  clear hr hcs hg hge
  go_enter Tryd.func58, Tryd.ntmps58
  go_wp2_with (at_builtin; refine Go.Lib.wpList_append_run _ rfl _ _ _ _ rfl _ _ rfl rfl _ _ (HR.out _) ?_)
  go_returns
  exact ⟨_, rfl, World.ownsRow_made w cs c (Nat.le_refl _) HG.out HCS.out, by go_grown⟩

/-- A slice of slices of runes: what each reads as. -/
def rdLL (w : World) (b : Nat) (LL : List (List Nat)) : Prop :=
  ∀ j (h : j < LL.length), ∃ g c, w.cell? ⟨b, j, none⟩ = some (.slice (some ⟨g, 0, none⟩) LL[j].length c) ∧ g < w.heap.size ∧ ∀ i (h : i < LL[j].length), w.cell? ⟨g, i, none⟩ = some (.int .i32 (LL[j][i] : Nat))
theorem rdLL.below {w w' : World} {b B : Nat} {LL : List (List Nat)} (h : rdLL w b LL) (hb : Below B w w') (hB : w.heap.size ≤ B) (hlt : b < w.heap.size) : rdLL w' b LL := fun j hj => by
  obtain ⟨g, c, h1, h2, h3⟩ := h j hj
  refine ⟨g, c, by rw [hb.cell (p := ⟨b, j, none⟩) (by show b < B; omega)]; exact h1, by have := hb.size; omega, fun i hi => ?_⟩
  rw [hb.cell (p := ⟨g, i, none⟩) (by show g < B; omega)]; exact h3 i hi
theorem flat_step (LL : List (List Nat)) (k : Nat) (h : k < LL.length) : (LL.take (k + 1)).flatten = (LL.take k).flatten ++ LL[k] := by
  rw [List.take_succ_eq_append_getElem h, List.flatten_append]; simp
theorem flat_len (LL : List (List Nat)) (h : ∀ l, l ∈ LL → 1 ≤ l.length ∧ l.length ≤ 4) : ∀ k, k ≤ LL.length → (LL.take k).flatten.length ≤ 4 * k ∧ k ≤ (LL.take k).flatten.length := by
  intro k
  induction k with
  | zero => intro _; simp
  | succ k ih =>
    intro hk
    have := ih (by omega)
    have h2 := h _ (List.getElem_mem (show k < LL.length by omega))
    rw [flat_step LL k (by omega), List.length_append]
    omega

set_option maxRecDepth 100000 in
set_option maxHeartbeats 4000000 in
theorem concat_any (LL : List (List Nat)) (b n cap : Nat) (hn : LL.length = n) (h0 : 0 < n) (h3 : n ≤ 3) (hl : ∀ l, l ∈ LL → 1 ≤ l.length ∧ l.length ≤ 4) (w : World) (hb : b < w.heap.size) (hR : rdLL w b LL) :
    Calls Tryd.prog 48 #[.slice (some ⟨b, 0, none⟩) n cap] w (runesPost LL.flatten w) := by
  obtain ⟨i0, hi, hz0, hz1, hz2⟩ := info_parts infoI32
  have HR := Lib.hid hR
  have HN := Lib.hid hn
  have HL := Lib.hid hl
  have HF := Lib.hid (flat_len LL hl)
  clear hR hn hl
  go_enter Tryd.func48, Tryd.ntmps48
  go_wp2_with fail
  go_loopw [3, 11] (fun s i wr => ∃ k z : Nat, k ≤ n ∧ i = .int .i64 k ∧ s = .int .i64 z ∧ z ≤ 12 ∧ Hid (z = (LL.take k).flatten.length) ∧ wr = w) (fun _ i _ => n - (intOf i).toNat)
  case atStart => exact ⟨0, 0, Nat.zero_le _, rfl, rfl, by omega, Lib.hid (by simp), rfl⟩
  case round =>
    obtain ⟨k, z, hk, rfl, rfl, hz, HZ, hwr⟩ := hrel
    have hwr' := hwr.symm
    subst hwr'
    by_cases hlt : k < n
    · have hlt' : k < LL.length := by rw [HN.out]; exact hlt
      obtain ⟨g, c, c0, hg, -⟩ := HR.out k hlt'
      have hlk := HL.out _ (List.getElem_mem hlt')
      have hst := flat_step LL k hlt'
      have hz2 := (HF.out (k + 1) (by omega)).1
      have HZ2 : Hid ((LL.take (k + 1)).flatten.length = z + LL[k].length) := Lib.hid (by rw [hst, List.length_append, HZ.out])
      have hle : z + LL[k].length ≤ 12 := by have := HZ2.out; omega
      obtain ⟨q, hq⟩ : ∃ q, LL[k].length = q := ⟨_, rfl⟩
      rw [hq] at c0 hlk HZ2 hle
      have i0' : (0 : Int) ≤ (k : Int) := by omega
      have i1 : (k : Int) < (n : Int) := by omega
      have d1 : decide ((z : Int) + (q : Int) < 0) = false := decide_eq_false (by omega)
      clear hq hst hz2 hlt'
      go_wp2_with fail
      go_roundw
      case rel => exact ⟨k + 1, z + q, by omega, by go_num, by go_num, hle, Lib.hid HZ2.out.symm, trivial⟩
      case measure => simp [intOf]; omega
    · have hkn : k = n := by omega
      have HZ2 : Hid (LL.flatten.length = z) := Lib.hid (by rw [HZ.out, hkn, ← HN.out, List.take_length])
      have hz0' : 0 < z := by have := (HF.out k (by rw [HN.out]; exact hk)).2; have := HZ.out; omega
      have HG := Lib.hid (grow_any z hz0' (by omega) w)
      clear HZ
      go_wp2_with fail
      refine HG.out.mono ?_
      rintro e w1 ⟨v, rfl, hown, hB⟩
      have HR1 := Lib.hid (HR.out.below hB (Nat.le_refl _) hb)
      have hb1 : b < w1.heap.size := by have := hB.size; omega
      have HO := Lib.hid hown
      have HB := Lib.hid hB
      clear hown hB HG hkn
      go_wp2_with fail
      go_loopw [6, 27] (fun v i w2 => ∃ k : Nat, k ≤ n ∧ i = .int .i64 k ∧ Hid (w2.ownsRow w.heap.size 21 1 v (LL.take k).flatten.length (r32 (LL.take k).flatten)) ∧ Below w.heap.size w w2) (fun _ i _ => n - (intOf i).toNat)
      case atStart => exact ⟨0, Nat.zero_le _, rfl, HO, HB.out⟩
      case round =>
        obtain ⟨k, hk, rfl, HO2, hB2⟩ := hrel
        by_cases hlt : k < n
        · have hlt' : k < LL.length := by rw [HN.out]; exact hlt
          obtain ⟨g, c, c0, hg, hcs⟩ := (HR.out.below hB2 (Nat.le_refl _) hb) k hlt'
          have hlk := HL.out _ (List.getElem_mem hlt')
          have HST := Lib.hid (flat_step LL k hlt')
          have hfl := (HF.out k (by omega)).1
          generalize LL[k] = l at *
          obtain ⟨q, hq⟩ : ∃ q, l.length = q := ⟨_, rfl⟩
          obtain ⟨F, hF⟩ : ∃ F, (LL.take k).flatten = F := ⟨_, rfl⟩
          rw [hF] at HO2 HST hfl
          have hown := HO2.out
          rw [hq] at c0 hlk
          have HQ := Lib.hid hq
          have HCS := Lib.hid hcs
          have hwb := HB.out.size
          have hwb2 := hB2.size
          have hfm : F.length + q ≤ maxLen := by unfold maxLen; omega
          have hfm2 : (F.length + q) * 4 ≤ 140737488355328 := by omega
          have HM := Lib.hid hfm; have HM2 := Lib.hid hfm2
          have HB2 := Lib.hid hB2
          have i0' : (0 : Int) ≤ (k : Int) := by omega
          have i1 : (k : Int) < (n : Int) := by omega
          clear hq hF hcs hlt' hfl hfm hfm2 hB2 HO2
          go_wp2_with (at_builtin; refine wpList_append_own _ rfl _ _ 57 rfl w.heap.size 21 i0 (.int .i32 0) 1 4 Tryd.underlying57 hi hz0 hz1 hz2 rfl (by decide) _ _ _ rfl hown ⟨g, 0, none⟩ q c (r32 l) rfl ?c1 ?c2 ?c3 HM.out HM2.out ?c5 ?_)
          case c1 => rw [r32_length, HQ.out, Nat.mul_one]
          case c2 =>
            intro j u hj
            have hjl : j < l.length := by
              rcases Nat.lt_or_ge j l.length with h | h
              · exact h
              · rw [List.getElem?_eq_none (by rw [r32_length]; exact h)] at hj; cases hj
            have := HCS.out j hjl
            rw [show ((⟨g, 0, none⟩ : Addr).add j) = ⟨g, j, none⟩ by unfold Addr.add; split <;> simp_all, this]
            simp only [r32, List.getElem?_map, List.getElem?_eq_getElem hjl, Option.map_some] at hj
            exact hj
          case c3 => intro u hu; unfold r32 at hu; obtain ⟨x, -, rfl⟩ := List.mem_map.1 hu; rfl
          case c5 => omega
          intro v' w3 hown3 hgrow _
          have HB3 : Hid (Below w.heap.size w w3) := Lib.hid (HB2.out.grown hgrow (by omega) fun r hr => (hown.lt r hr).1)
          have HO3 : Hid (w3.ownsRow w.heap.size 21 1 v' (LL.take (k + 1)).flatten.length (r32 (LL.take (k + 1)).flatten)) := Lib.hid (by
            rw [HST.out, List.length_append, HQ.out, r32_append]
            exact hown3)
          clear hown3 hgrow hown HB2 HCS
          go_wp2_with fail
          go_roundw
          case rel => exact ⟨k + 1, by omega, by go_num, HO3, HB3.out⟩
          case measure => simp [intOf]; omega
        · have HO3 : Hid (wr.ownsRow w.heap.size 21 1 u6 LL.flatten.length (r32 LL.flatten)) := Lib.hid (by
            have := HO2.out
            rw [show k = LL.length by have := HN.out; omega, List.take_length] at this
            exact this)
          have HB2 := Lib.hid hB2
          clear HO2 hB2
          go_wp2_with fail
          go_returns
          exact ⟨_, rfl, HO3.out, HB2.out⟩
end Go.Proofs.YtgjpmfdiidkdnaaDoor

namespace Go.Proofs.YtgjpmfdiidkdnaaDoor
open Go.RowKit

/-- The part of run behind both ends. -/
def two32 (w w' : World) (v1 v2 : Value) (l1 l2 : List Nat) : Prop := w'.ownsRow w.heap.size 21 1 v1 l1.length (r32 l1) ∧ w'.ownsRow w.heap.size 21 1 v2 l2.length (r32 l2)
theorem row_at {w : World} {base : Nat} {v : Value} {l : List Nat} (h : w.ownsRow base 21 1 v l.length (r32 l)) (h1 : 1 ≤ l.length) :
    ∃ g c, v = .slice (some ⟨g, 0, none⟩) l.length c ∧ g < w.heap.size ∧ ∀ i (h : i < l.length), w.cell? ⟨g, i, none⟩ = some (.int .i32 (l[i] : Nat)) := by
  have hlt := h.lt
  rcases id h.2 with ⟨rfl, h0⟩ | ⟨g, cap, cur, rfl, -⟩
  · omega
  · refine ⟨g, cap, rfl, (hlt g rfl).2, fun i hi => ?_⟩
    rw [h.cellAt i (by omega)]
    simp [r32, hi]
theorem rdLL_two {w : World} {v1 v2 : Value} {l1 l2 : List Nat} {base : Nat} (o1 : w.ownsRow base 21 1 v1 l1.length (r32 l1)) (o2 : w.ownsRow base 21 1 v2 l2.length (r32 l2)) (h1 : 1 ≤ l1.length) (h2 : 1 ≤ l2.length) :
    rdLL (w.alloc (.cells #[v1, v2] 57)) w.heap.size [l1, l2] := fun j hj => by
  match j, hj with
  | 0, _ =>
    obtain ⟨g, c, rfl, hg, hc⟩ := row_at (o1.alloc (.cells #[v1, v2] 57)) h1
    exact ⟨g, c, by simp, hg, hc⟩
  | 1, _ =>
    obtain ⟨g, c, rfl, hg, hc⟩ := row_at (o2.alloc (.cells #[v1, v2] 57)) h2
    exact ⟨g, c, by simp, hg, hc⟩
theorem rdLL_three {w : World} {v1 v2 v3 : Value} {l1 l2 l3 : List Nat} {base : Nat} (o1 : w.ownsRow base 21 1 v1 l1.length (r32 l1)) (o2 : w.ownsRow base 21 1 v2 l2.length (r32 l2)) (o3 : w.ownsRow base 21 1 v3 l3.length (r32 l3)) (h1 : 1 ≤ l1.length) (h2 : 1 ≤ l2.length) (h3 : 1 ≤ l3.length) :
    rdLL (w.alloc (.cells #[v1, v2, v3] 57)) w.heap.size [l1, l2, l3] := fun j hj => by
  match j, hj with
  | 0, _ =>
    obtain ⟨g, c, rfl, hg, hc⟩ := row_at (o1.alloc (.cells #[v1, v2, v3] 57)) h1
    exact ⟨g, c, by simp, hg, hc⟩
  | 1, _ =>
    obtain ⟨g, c, rfl, hg, hc⟩ := row_at (o2.alloc (.cells #[v1, v2, v3] 57)) h2
    exact ⟨g, c, by simp, hg, hc⟩
  | 2, _ =>
    obtain ⟨g, c, rfl, hg, hc⟩ := row_at (o3.alloc (.cells #[v1, v2, v3] 57)) h3
    exact ⟨g, c, by simp, hg, hc⟩
theorem run_is1 (lo : Nat) : runL (lo, lo) = endL lo := by unfold runL; rw [if_neg (by simp), if_neg (by simp)]; simp
theorem run_is2 (lo : Nat) : runL (lo, lo + 1) = [endL lo, endL (lo + 1)].flatten := by unfold runL; rw [if_pos rfl]; simp
theorem run_is3 (lo hi : Nat) (h : lo + 1 < hi) : runL (lo, hi) = [endL lo, [45], endL hi].flatten := by
  unfold runL
  rw [if_neg (show ¬ (lo, hi).2 = (lo, hi).1 + 1 by show ¬ hi = lo + 1; omega), if_pos (show (lo, hi).1 + 1 < (lo, hi).2 from h)]
  simp

set_option maxRecDepth 100000 in
set_option maxHeartbeats 4000000 in
theorem run_any (lo hi : Nat) (hle : lo ≤ hi) (hh : hi < 256) (w : World) (hT : Tabbed w) :
    Calls Tryd.prog 26 #[.agg #[.int .u8 (lo : Int), .int .u8 (hi : Int)]] w (runesPost (runL (lo, hi)) w) := by
  have HLo := Lib.hid (cend_any lo (by omega))
  have HHi := Lib.hid (cend_any hi hh)
  have e1 := end_len lo
  have e2 := end_len hi
  obtain ⟨l1, hl1⟩ : ∃ l, endL lo = l := ⟨_, rfl⟩
  obtain ⟨l2, hl2⟩ : ∃ l, endL hi = l := ⟨_, rfl⟩
  have HL1 := Lib.hid hl1
  have HL2 := Lib.hid hl2
  rw [hl1] at HLo e1
  rw [hl2] at HHi e2
  have E1 := Lib.hid e1
  have E2 := Lib.hid e2
  clear hl1 hl2 e1 e2
  obtain ⟨W, hW⟩ : ∃ W, w.alloc (.cells #[.int .u8 (lo : Int), .int .u8 (hi : Int)] 64) = W := ⟨_, rfl⟩
  have HT : Hid (Tabbed W) := Lib.hid (hW ▸ hT.alloc _)
  have p0 : W.cell? ⟨w.heap.size, 0, none⟩ = some (.int .u8 (lo : Int)) := by rw [← hW]; simp
  have p1 : W.cell? ⟨w.heap.size, 1, none⟩ = some (.int .u8 (hi : Int)) := by rw [← hW]; simp
  have hWs : w.heap.size < W.heap.size := by rw [← hW]; simp
  have HBW : Hid (Below w.heap.size w W) := Lib.hid (hW ▸ (Below.refl _ _).alloc (Nat.le_refl _) _)
  have hB := (Below.refl W.heap.size W).drew
  clear hT
  go_enter Tryd.func26, Tryd.ntmps26
  go_wp2_with fail
  clear hW
  go_region_held_law (fun w' => w'.cell? ⟨w.heap.size, 0, none⟩ = some (.int .u8 (lo : Int)) ∧ w'.cell? ⟨w.heap.size, 1, none⟩ = some (.int .u8 (hi : Int)))
    (exact ⟨(hB.cell (p := ⟨w.heap.size, 0, none⟩) hWs).trans p0, (hB.cell (p := ⟨w.heap.size, 1, none⟩) hWs).trans p1⟩)
    (first
      | (go_at_call 46; (with_reducible refine (HLo.out _ ?t1).mono ?_); (case t1 => exact HT.out.to (by exact hB)); rintro e wk ⟨v1, rfl, o1, hb⟩; have O1 := Lib.hid (owns_mono o1 (show W.heap.size ≤ _ from hB.size)); (try have O2x := Lib.hid (owns_below O2.out hb)); (try clear O2); replace hB := hB.trans (hb.mono hB.size); clear o1 hb)
      | (go_at_call 46; (with_reducible refine (HHi.out _ ?t2).mono ?_); (case t2 => exact HT.out.to (by exact hB)); rintro e wk ⟨v2, rfl, o2, hb⟩; have O2 := Lib.hid (owns_mono o2 (show W.heap.size ≤ _ from hB.size)); (try have O1x := Lib.hid (owns_below O1.out hb)); (try clear O1); replace hB := hB.trans (hb.mono hB.size); clear o2 hb))
  rename_i hHeld
  obtain ⟨c0, c1⟩ := hHeld
  have HB := Lib.hid (HBW.out.trans (hB.mono HBW.out.size))
  have HOa := Lib.hid (owns_mono O1x.out HBW.out.size)
  have HOb := Lib.hid (owns_mono O2.out HBW.out.size)
  clear hB O1x O2 p0 p1 hWs HBW HT HLo HHi
  obtain ⟨g1, k1, rfl, -⟩ := row_at HOa.out E1.out.1
  obtain ⟨g2, k2, rfl, -⟩ := row_at HOb.out E2.out.1
  have hcmp : hi = lo ∨ hi = lo + 1 ∨ lo + 1 < hi := by omega
  rcases hcmp with hcmp | hcmp | hcmp
  · subst hcmp
    have HRun : Hid (runL (hi, hi) = l1) := Lib.hid (by rw [run_is1, HL1.out])
    go_wp2_with fail
    go_returns
    exact ⟨_, rfl, by rw [HRun.out]; exact HOa.out, HB.out⟩
  · subst hcmp
    have d1 : (((lo + 1 : Nat) : Int) - (lo : Int) == 0) = false := beq_eq_false_iff_ne.2 (by omega)
    have d2 : (((lo + 1 : Nat) : Int) - (lo : Int) == 1) = true := beq_iff_eq.2 (by omega)
    have HRun : Hid (runL (lo, lo + 1) = [l1, l2].flatten) := Lib.hid (by rw [run_is2, HL1.out, HL2.out])
    have HLL := Lib.hid (rdLL_two HOa.out HOb.out E1.out.1 E2.out.1)
    have HC := Lib.hid (concat_any [l1, l2] _ 2 2 rfl (by decide) (by decide) (by
      intro l hl
      rcases List.mem_cons.1 hl with rfl | hl
      · exact E1.out
      · rw [List.mem_singleton.1 hl]; exact E2.out) _ (by simp) HLL.out)
    go_wp2_with fail
    refine HC.out.mono ?_
    rintro e w3 ⟨v3, rfl, hown, hb⟩
    have HO3 := Lib.hid hown
    have HB3 := Lib.hid hb
    clear hown hb HC HLL
    go_wp2_with fail
    go_returns
    exact ⟨_, rfl, by rw [HRun.out]; exact owns_mono HO3.out (by have := HB.out.size; simp; omega), (HB.out.alloc HB.out.size _).trans (HB3.out.mono (by have := HB.out.size; simp; omega))⟩
  · have HRun : Hid (runL (lo, hi) = [l1, [45], l2].flatten) := Lib.hid (by rw [run_is3 lo hi hcmp, HL1.out, HL2.out])
    have HOm := Lib.hid (own_lit HB.out.size #[.int .i32 45] 1 (by decide) rfl)
    have HOa2 := Lib.hid (HOa.out.alloc (.cells #[.int .i32 45] 21))
    have HOb2 := Lib.hid (HOb.out.alloc (.cells #[.int .i32 45] 21))
    have HLL := Lib.hid (rdLL_three (l2 := [45]) HOa2.out HOm.out HOb2.out E1.out.1 (by decide) E2.out.1)
    have hC := (concat_any [l1, [45], l2] _ 3 3 rfl (by decide) (by decide) (by
      intro l hl
      rcases List.mem_cons.1 hl with rfl | hl
      · exact E1.out
      · rcases List.mem_cons.1 hl with rfl | hl
        · decide
        · rw [List.mem_singleton.1 hl]; exact E2.out) _ (by simp) HLL.out)
    rw [World.size_alloc] at hC
    have HC := Lib.hid hC
    clear hC
    obtain ⟨d, rfl⟩ : ∃ d, hi = lo + d := ⟨hi - lo, by omega⟩
    have d1 : (((lo + d : Nat) : Int) - (lo : Int) == 0) = false := beq_eq_false_iff_ne.2 (by omega)
    have d2 : (((lo + d : Nat) : Int) - (lo : Int) == 1) = false := beq_eq_false_iff_ne.2 (by omega)
    clear HLL HOa HOb HOa2 HOb2 HOm HL1 HL2 E1 E2 hcmp
    go_wp2_with fail
    refine HC.out.mono ?_
    rintro e w3 ⟨v3, rfl, hown, hb⟩
    have HO3 := Lib.hid hown
    have HB3 := Lib.hid hb
    clear hown hb HC
    go_wp2_with fail
    go_returns
    exact ⟨_, rfl, by rw [HRun.out]; exact owns_mono HO3.out (by have := HB.out.size; simp; omega), ((HB.out.alloc HB.out.size _).alloc (by have := HB.out.size; simp; omega) _).trans (HB3.out.mono (by have := HB.out.size; simp; omega))⟩
end Go.Proofs.YtgjpmfdiidkdnaaDoor
