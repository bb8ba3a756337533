/-
  The walk of named's Names: the twelve names, rising, in memory of the call's own. (The contract of slices.Compact is the library's, laid at this program.)
-/
import Derived.Shelf.Slices.Cells
import Derived.Test.YtpgikkmpnbcljaaDoorClass
import Derived.Lib.LazyBuf
namespace Go.Proofs.YtpgikkmpnbcljaaDoor
open Go.RowKit

def cmpRen : Go.Shelf.Ren := ⟨fun | 194 => 23 | n => n, fun | 31 => 28 | 9 => 9 | 3 => 3 | 4 => 4 | 0 => 0 | n => n, fun | n => n⟩
theorem cmpLays : Go.Proofs.Lays.n194 Tryd.prog cmpRen := {
  mixed := by kernel_rfl
  f194 := Tryd.func23.trans (congrArg some (by kernel_rfl))
  t0 := Tryd.underlying0
  a0 := Tryd.isAgg0
  z0 := Tryd.sizeOf0
  v0 := Tryd.zeroValue0
  t3 := Tryd.underlying3
  a3 := Tryd.isAgg3
  z3 := Tryd.sizeOf3
  v3 := Tryd.zeroValue3
  t4 := Tryd.underlying4
  a4 := Tryd.isAgg4
  z4 := Tryd.sizeOf4
  v4 := Tryd.zeroValue4
  t9 := Tryd.underlying9
  a9 := Tryd.isAgg9
  z9 := Tryd.sizeOf9
  v9 := Tryd.zeroValue9
  t31 := Tryd.underlying28
  a31 := Tryd.isAgg28
  z31 := Tryd.sizeOf28
  v31 := Tryd.zeroValue28 }

theorem below_drewN {B : Nat} {w w' : World} (n : Nat) (h : Below B w w') : Below B w (w'.drewN n) := ⟨h.os, h.tape, h.output, h.size, h.block⟩
/-- The names, rising. -/
def nmL : List (List UInt8) :=
  [[97, 108, 110, 117, 109], [97, 108, 112, 104, 97], [98, 108, 97, 110, 107], [99, 110, 116, 114, 108], [100, 105, 103, 105, 116], [103, 114, 97, 112, 104],
   [108, 111, 119, 101, 114], [112, 114, 105, 110, 116], [112, 117, 110, 99, 116], [115, 112, 97, 99, 101], [117, 112, 112, 101, 114], [120, 100, 105, 103, 105, 116]]
def nmB (i : Nat) : ByteArray := ⟨(nmL.getD i []).toArray⟩
theorem cmp_names : Lib.compact (Lib.strsOf tn 23) = nmL := by decide +kernel
/-- Names once more, of a slice that holds the table's. -/
theorem compact_tab (g c : Nat) (w : World) (hc : 23 ≤ c) (hcell : ∀ i, i < 23 → w.cell? ⟨g, i, none⟩ = some (.string (tn i))) (hf : ∀ j, j < 23 → w.frozen? ⟨g, j, none⟩ = false) (B : Nat) (hB : B ≤ g) :
    Calls Tryd.prog 23 #[.slice (some ⟨g, 0, none⟩) 23 c] w fun e w' => e = .returned (.slice (some ⟨g, 0, none⟩) 12 c) ∧ (∀ i, i < 12 → w'.cell? ⟨g, i, none⟩ = some (.string (nmB i))) ∧ Below B w w' := by
  refine (Go.Proofs.Any.slices_Compact_string_cells cmpLays g 0 23 c tn w (by decide) hc (fun i hi => by rw [Nat.zero_add]; exact hcell i hi) (fun j hj => by rw [Nat.zero_add]; exact hf j hj)).mono fun e w' ⟨he, q, hw⟩ => ?_
  rw [cmp_names] at he hw
  refine ⟨he, fun i hi => ?_, ?_⟩
  · have hin := World.cell?_setCells_in g ((nmL ++ List.replicate (23 - nmL.length) []).map encStr) 0 (w.drewN q) (fun j hj => by
      have hj' : j < 23 := hj
      rw [World.cell?_drewN, Nat.zero_add, hcell j hj']; rfl) i (by show i < 23; omega)
    rw [Nat.zero_add] at hin
    rw [hw, hin, List.getElem_map]
    have hs : i = 0 ∨ i = 1 ∨ i = 2 ∨ i = 3 ∨ i = 4 ∨ i = 5 ∨ i = 6 ∨ i = 7 ∨ i = 8 ∨ i = 9 ∨ i = 10 ∨ i = 11 := by omega
    rcases hs with rfl | rfl | rfl | rfl | rfl | rfl | rfl | rfl | rfl | rfl | rfl | rfl <;> rfl
  · rw [hw]
    exact _root_.Go.below_setCells hB _ _ _ (below_drewN q (Below.refl B w))

theorem Tryd.infoStr : (Tryd.prog.info? 9).map (fun i => (i.zero, i.size, i.bytes)) = some (some (.string ⟨#[]⟩), 1, 16) := by kernel_rfl
/-- The names of the first k rows. -/
def tns (k : Nat) : List Value := (List.range k).map fun i => .string (tn i)
theorem tns_succ (k : Nat) : tns (k + 1) = tns k ++ [.string (tn k)] := by unfold tns; rw [List.range_succ, List.map_append]; rfl
theorem tns_get (k i : Nat) (h : i < k) : (tns k)[i]? = some (.string (tn i)) := by unfold tns; simp [h]

set_option maxRecDepth 100000 in
set_option maxHeartbeats 4000000 in
theorem names_any (w : World) (hT : Tabbed w) :
    Calls Tryd.prog 9 #[] w fun e w' => ∃ g c, e = .returned (.slice (some ⟨g, 0, none⟩) 12 c) ∧ (w.heap.size ≤ g ∧ g < w'.heap.size ∧ ∀ i, i < 12 → w'.cell? ⟨g, i, none⟩ = some (.string (nmB i))) ∧ Below w.heap.size w w' := by
  obtain ⟨i0, hi, hz0, hz1, hz2⟩ := info_parts Tryd.infoStr
  have hT2 : w.rangeAt 0 0 tabC := hT
  go_enter Tryd.func9, Tryd.ntmps9
  go_wp2_with (refine wpList_load_mid rfl 42 _ rfl 0 0 rfl tabC _ hT2 Tryd.underlying42 rfl infoTab ?_)
  clear hT2
  go_loopw [1, 5] (fun v i wr => ∃ k : Nat, k ≤ 23 ∧ i = .int .i64 k ∧ wr.ownsRow w.heap.size 9 1 v k (tns k) ∧ Below w.heap.size w wr) (fun _ i _ => 23 - (RowKit.intOf i).toNat)
  case atStart => exact ⟨0, Nat.zero_le _, rfl, World.ownsRow_nil _ _ _ _, Below.refl _ _⟩
  case round =>
    obtain ⟨k, hk, rfl, hown, hBw⟩ := hrel
    by_cases hlt : k < 23
    · have hix := index_tab k hlt
      have hz := hBw.size
      go_wp2_with (at_builtin; refine wpList_append_own _ rfl _ _ 28 rfl w.heap.size 9 i0 (.string ⟨#[]⟩) 1 16 Tryd.underlying28 hi hz0 hz1 hz2 rfl (by decide) _ _ _ rfl ((hown.alloc (.cells #[.string (tn k), .int .u8 (tlo k : Int), .int .u8 (thi k : Int)] 41)).alloc _) ⟨wr.heap.size + 1, 0, none⟩ 1 1 [.string (tn k)] rfl rfl ?c1 ?c2 ?c3 ?c4 ?c5 ?_)
      case c1 =>
        intro j u hj
        match j, hj with
        | 0, hj => simp at hj; subst hj; simp [Addr.add, go_sem]
      case c2 => intro u hu; simp at hu; subst hu; rfl
      case c3 => unfold maxLen; omega
      case c4 => omega
      case c5 => simp; omega
      intro v' w2 hown2 hgrow _
      have hB2 : Below w.heap.size w w2 := ((hBw.alloc hz _).alloc (by simp; omega) _).grown hgrow (by simp; omega) fun r hr => (hown.lt r hr).1
      have hown3 : w2.ownsRow w.heap.size 9 1 v' (k + 1) (tns (k + 1)) := by
        rw [tns_succ]; exact hown2
      clear hown2 hgrow hown hBw hix hz
      go_wp2
      go_roundw
      case rel => exact ⟨k + 1, by omega, by go_num, hown3, hB2⟩
      case measure => simp [intOf]; omega
    · obtain rfl : k = 23 := by omega
      rcases hown.2 with ⟨_, h0⟩ | ⟨g, cap, cur, rfl, hg, hcur, hcap, _, _, _⟩
      · cases h0
      have hgl : g < wr.heap.size := lt_of_block hcur
      have HC := Lib.hid (fun i (hi : i < 23) => (hown.cellAt i (by omega)).trans (tns_get 23 i hi))
      have HF := Lib.hid (fun j (_ : j < 23) => hown.frozenAt j)
      clear hown hcur
      go_wp2_with fail
      refine (compact_tab g cap _ hcap HC.out HF.out w.heap.size hg).mono ?_
      rintro e w3 ⟨rfl, hcells, hb⟩
      have HB := Lib.hid (hBw.trans hb)
      have HS := Lib.hid (Nat.lt_of_lt_of_le hgl hb.size)
      have HC2 := Lib.hid hcells
      clear hb hBw hcells HC HF
      go_wp2
      go_ret
      exact ⟨g, cap, rfl, ⟨hg, HS.out, HC2.out⟩, HB.out⟩
end Go.Proofs.YtpgikkmpnbcljaaDoor
