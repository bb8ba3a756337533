/-
  The walks of named's class and word.
  The walk of byteset's Not.
  The walk of byteset's Has.
  The walks of named's Escape, a theorem a branch.
  The table's classes are the reference's: named's Class and Escape, said as the second reference says them.
  The walk of lex's hex. The walk of lex's escape.
  The walk of the third reference's Behind.
  The walk of the third reference's single.
  The walk of byteset's Bytes.
  The walk of lex's name. The walks of lex's only and part. What begins at a place depends on its own bytes alone: a backslash, an item of a bracket that is no run.
  The walk of lex's item. Items and brackets: what begins at a place depends on its own bytes, and the one behind. The walk of lex's bracket.
  The walk of named's Dot.
  The walk of the third reference's Often.
-/
import Derived.Test.YtjbmkbgoahppfaaDoorPk11
import Derived.Test.YtjbmkbgoahppfaaDoorPk8
import Derived.Test.YtjbmkbgoahppfaaDoorPk9
import Derived.Test.YtjbmkbgoahppfaaDoorPk10
import Derived.Test.YtjbmkbgoahppfaaDoorPk1
import Derived.Test.YtjbmkbgoahppfaaDoorPk6
import Derived.Test.YtjbmkbgoahppfaaDoorPk7
import Derived.Deep.Cut
namespace Go.Proofs.YtjbmkbgoahppfaaDoor
open Go.RowKit

def alnumS : ByteArray := { data := #[97, 108, 110, 117, 109] }
/-- The bytes of a word. -/
def wordF (b : Nat) : Bool := clsK alnumS 23 b || decide (b = 95)
end Go.Proofs.YtjbmkbgoahppfaaDoor

namespace Go.Proofs.YtjbmkbgoahppfaaDoor
open Go.RowKit

set_option maxHeartbeats 1000000 in
theorem not_any (f : Nat → Bool) (w : World) :
    Calls Tryd.prog 59 #[sv f] w fun e w' => e = .returned (sv fun k => !f k) ∧ Below w.heap.size w w' := by
  have hs : Hid (sv (fun k => decide ((k : Int) < 256) && !f k) = sv (fun k => !f k)) := by
    apply sv_congr
    intro k hk
    have : (k : Int) < 256 := by omega
    simp [this]
  unfold sv
  go_enter Tryd.func59, Tryd.ntmps59
  go_wp2_with fail
  have hB := (Below.refl (w.heap.size + 1 + 1) ((w.alloc (.cells #[.int .u64 (wd f 0 : Int), .int .u64 (wd f 1 : Int), .int .u64 (wd f 2 : Int), .int .u64 (wd f 3 : Int)] 38)).alloc (.cells #[.int .u64 0, .int .u64 0, .int .u64 0, .int .u64 0] 38))).drew
  go_region_held3 (fun w' => w'.cell? ⟨w.heap.size, 0, none⟩ = some (.int .u64 (wd f 0 : Int)) ∧ w'.cell? ⟨w.heap.size, 1, none⟩ = some (.int .u64 (wd f 1 : Int)) ∧ w'.cell? ⟨w.heap.size, 2, none⟩ = some (.int .u64 (wd f 2 : Int)) ∧ w'.cell? ⟨w.heap.size, 3, none⟩ = some (.int .u64 (wd f 3 : Int)))
    (first | go_keep | (refine ⟨?_, ?_, ?_, ?_⟩ <;> (refine (hB.cell (p := ⟨_, _, none⟩) (by go_size)).trans ?_; simp [go_sem])))
    (first | (go_at_call 71; refine (below_any _ (by omega) (by omega) _).mono ?_; rintro e w1 ⟨rfl, hb⟩; replace hB := hB.trans (hb.mono (by go_size)); clear hb)
           | (go_at_call 70; refine (less_any _ _ _).mono ?_; rintro e w2 ⟨rfl, hb⟩; have hz1 := hB.size; simp only [World.size_alloc] at hz1; replace hB := hB.trans (hb.mono (by go_size)); clear hb; obtain ⟨hc, hf⟩ := w2of hB; have hz := hB.size; simp only [World.size_alloc] at hz))
  go_wp2
  refine bodyPost_ret (v := sv (fun k => decide ((k : Int) < 256) && !f k)) (by simp [results, Tryd.results59, go_sem, hc]) rfl ⟨by rw [hs.out] <;> rfl, ?_⟩
  iterate 4 refine Below.setCell ?_ (by go_size) _
  refine Below.trans ?_ (hB.mono (by go_size))
  go_grown
theorem not_lit (f : Nat → Bool) (w : World) : Calls Tryd.prog 59 #[svr f] w fun e w' => e = .returned (sv fun k => !f k) ∧ Below w.heap.size w w' := not_any f w
end Go.Proofs.YtjbmkbgoahppfaaDoor

namespace Go.Proofs.YtjbmkbgoahppfaaDoor
open Go.RowKit

set_option maxHeartbeats 1000000 in
theorem has_any (f : Nat → Bool) (b : Nat) (hn : b < 256) (w : World) :
    Calls Tryd.prog 64 #[sv f, .int .u8 (b : Int)] w fun e w' => e = .returned (.bool (f b)) ∧ Below w.heap.size w w' := by
  have W := word_has f
  have q : b / 64 = 0 ∨ b / 64 = 1 ∨ b / 64 = 2 ∨ b / 64 = 3 := by omega
  have key : ∀ i, b / 64 = i → Hid ((bits .and .u64 ((wd f i : Int) / 2 ^ (b % 64)) 1 == 1) = f b) := fun i hi => by
    have := W i (b % 64) (by omega)
    rw [show 64 * i + b % 64 = b from by omega] at this
    exact this
  clear W
  unfold sv
  rcases q with q | q | q | q
  · have key' := key _ q
    clear key
    have q' : (b : Int) / 64 = 0 := by omega
    clear q
    go_enter Tryd.func64, Tryd.ntmps64
    go_wp2
    go_ret
    exact ⟨by rw [← key'.out] <;> rfl, by go_grown⟩
  · have key' := key _ q
    clear key
    have q' : (b : Int) / 64 = 1 := by omega
    clear q
    go_enter Tryd.func64, Tryd.ntmps64
    go_wp2
    go_ret
    exact ⟨by rw [← key'.out] <;> rfl, by go_grown⟩
  · have key' := key _ q
    clear key
    have q' : (b : Int) / 64 = 2 := by omega
    clear q
    go_enter Tryd.func64, Tryd.ntmps64
    go_wp2
    go_ret
    exact ⟨by rw [← key'.out] <;> rfl, by go_grown⟩
  · have key' := key _ q
    clear key
    have q' : (b : Int) / 64 = 3 := by omega
    clear q
    go_enter Tryd.func64, Tryd.ntmps64
    go_wp2
    go_ret
    exact ⟨by rw [← key'.out] <;> rfl, by go_grown⟩
theorem has_lit (f : Nat → Bool) (b : Nat) (hn : b < 256) (w : World) : Calls Tryd.prog 64 #[svr f, .int .u8 (b : Int)] w fun e w' => e = .returned (.bool (f b)) ∧ Below w.heap.size w w' := has_any f b hn w
end Go.Proofs.YtjbmkbgoahppfaaDoor

namespace Go.Proofs.YtjbmkbgoahppfaaDoor
open Go.RowKit

def digitS : ByteArray := { data := #[100, 105, 103, 105, 116] }
def spaceS : ByteArray := { data := #[115, 112, 97, 99, 101] }

end Go.Proofs.YtjbmkbgoahppfaaDoor

namespace Go.Proofs.YtjbmkbgoahppfaaDoor
open Go.RowKit

/-- The names, rising. -/
def nmL : List (List UInt8) :=
  [[97, 108, 110, 117, 109], [97, 108, 112, 104, 97], [98, 108, 97, 110, 107], [99, 110, 116, 114, 108], [100, 105, 103, 105, 116], [103, 114, 97, 112, 104],
   [108, 111, 119, 101, 114], [112, 114, 105, 110, 116], [112, 117, 110, 99, 116], [115, 112, 97, 99, 101], [117, 112, 112, 101, 114], [120, 100, 105, 103, 105, 116]]
/-- The classes over a list of bytes: these reckon. -/
def clsD (s : List UInt8) : Nat → Nat → Bool
  | 0, _ => false
  | k + 1, b => clsD s k b || ((rowOf k).1 == s && (decide (tlo k ≤ b) && decide (b ≤ thi k)))
def fndD (s : List UInt8) : Nat → Bool
  | 0 => false
  | k + 1 => fndD s k || (rowOf k).1 == s
theorem clsK_eq (s : ByteArray) (k b : Nat) : clsK s k b = clsD s.data.toList k b := by
  induction k with
  | zero => rfl
  | succ k ih => unfold clsK clsD; rw [ih, toList_data, toList_data]; rfl
theorem fndK_eq (s : ByteArray) (k : Nat) : fndK s k = fndD s.data.toList k := by
  induction k with
  | zero => rfl
  | succ k ih => unfold fndK fndD; rw [ih, toList_data, toList_data]; rfl

theorem row_named : ∀ k, k < 23 → (rowOf k).1 ∈ nmL := by decide +kernel
theorem clsD_none (l : List UInt8) (h : l ∉ nmL) (b k : Nat) (hk : k ≤ 23) : clsD l k b = false := by
  induction k with
  | zero => rfl
  | succ k ih =>
    have h1 : ((rowOf k).1 == l) = false := by
      rw [Bool.eq_false_iff]
      intro he
      exact h (by rw [← beq_iff_eq.1 he]; exact row_named k (by omega))
    unfold clsD
    rw [ih (by omega), h1]; rfl
theorem fndD_none (l : List UInt8) (h : l ∉ nmL) (k : Nat) (hk : k ≤ 23) : fndD l k = false := by
  induction k with
  | zero => rfl
  | succ k ih =>
    have h1 : ((rowOf k).1 == l) = false := by
      rw [Bool.eq_false_iff]
      intro he
      exact h (by rw [← beq_iff_eq.1 he]; exact row_named k (by omega))
    unfold fndD
    rw [ih (by omega), h1]; rfl
theorem not_each (l : List UInt8) (h : l ∉ nmL) : ∀ x ∈ nmL, (l == x) = false := fun x hx => by
  rw [Bool.eq_false_iff]
  intro he
  exact h (by rw [beq_iff_eq.1 he]; exact hx)
theorem isB_none (l : List UInt8) (h : l ∉ nmL) (b : Nat) : isB l b = false := by
  have e := not_each l h
  unfold isB
  rw [e _ (by decide), e _ (by decide), e _ (by decide), e _ (by decide), e _ (by decide), e _ (by decide), e _ (by decide), e _ (by decide), e _ (by decide), e _ (by decide), e _ (by decide), e _ (by decide)]
  rfl
theorem isN_none (l : List UInt8) (h : l ∉ nmL) : isN l = false := by
  have e := not_each l h
  unfold isN
  rw [e _ (by decide), e _ (by decide), e _ (by decide), e _ (by decide), e _ (by decide), e _ (by decide), e _ (by decide), e _ (by decide), e _ (by decide), e _ (by decide), e _ (by decide), e _ (by decide)]
  rfl
theorem cls_some : ∀ l ∈ nmL, ∀ b, b < 256 → clsD l 23 b = isB l b := by decide +kernel
theorem fnd_some : ∀ l ∈ nmL, fndD l 23 = isN l := by decide +kernel
theorem cls_is (s : ByteArray) (b : Nat) (hb : b < 256) : clsK s 23 b = isB s.toList b := by
  rw [clsK_eq, toList_data]
  by_cases h : s.data.toList ∈ nmL
  · exact cls_some _ h b hb
  · rw [clsD_none _ h b 23 (Nat.le_refl _), isB_none _ h]
theorem fnd_is (s : ByteArray) : fndK s 23 = isN s.toList := by
  rw [fndK_eq, toList_data]
  by_cases h : s.data.toList ∈ nmL
  · exact fnd_some _ h
  · rw [fndD_none _ h 23 (Nat.le_refl _), isN_none _ h]


theorem class2 (s : ByteArray) (l : List UInt8) (hl : s.toList = l) (w : World) (hT : Tabbed w) :
    Calls Tryd.prog 72 #[.string s] w fun e w' => e = .returned (.tuple #[sv (isB l), .bool (isN l)]) ∧ Below w.heap.size w w' := by
  subst hl
  refine (class_any s w hT).mono fun e w' h => ⟨?_, h.2⟩
  rw [h.1, fnd_is, sv_congr fun b hb => cls_is s b hb]
theorem dig2 (k : Nat) (h : k < 256) : clsK digitS 23 k = diB k := by rw [cls_is _ k h, toList_data]; rfl
theorem spa2 (k : Nat) (h : k < 256) : clsK spaceS 23 k = isS k := by rw [cls_is _ k h, toList_data]; rfl
theorem aln2 (k : Nat) (h : k < 256) : clsK alnumS 23 k = isA k := by rw [cls_is _ k h, toList_data]; rfl
theorem word2 (k : Nat) (h : k < 256) : wordF k = wordR k := by unfold wordF wordR; rw [aln2 k h]
end Go.Proofs.YtjbmkbgoahppfaaDoor

namespace Go.Proofs.YtjbmkbgoahppfaaDoor
open Go.RowKit

/-- A number of two digits of sixteen. -/
def hxOk (t : ByteArray) : Bool := decide (0 ≤ dig16 (gb t 0)) && decide (0 ≤ dig16 (gb t 1))
def hxV (t : ByteArray) : Nat := (dig16 (gb t 0) * 16 + dig16 (gb t 1)).toNat
theorem bytes_below (w : World) (t : ByteArray) : Below w.heap.size w (Lib.bytesWorld w 5 t) := Lib.bytesWorld_below w 5 t
def hxF (t : ByteArray) : Nat → Bool := if hxOk t = true then oneR (hxV t) else fun _ => false
def hxN (t : ByteArray) : Nat := if hxOk t = true then 4 else 0
theorem oneR_eq (z : Nat) : (fun k => decide (k = z)) = oneR z := by
  funext k
  unfold oneR
  by_cases h : k = z
  · subst h; simp
  · simp only [h, decide_false]
    have : ¬ (z ≤ k ∧ k ≤ z) := fun h' => h (by omega)
    simpa using this
theorem of_oneR (c : Nat) (hc : c < 256) (b : Nat) (w : World) (hb : b < w.heap.size) (h : w.cell? ⟨b, 0, none⟩ = some (.int .u8 (c : Int))) :
    Calls Tryd.prog 60 #[.slice (some ⟨b, 0, none⟩) 1 1] w fun e w' => e = .returned (sv (oneR c)) ∧ Below w.heap.size w w' := by
  rw [← oneR_eq]
  exact of_one c hc b w hb h

end Go.Proofs.YtjbmkbgoahppfaaDoor

namespace Go.Proofs.YtjbmkbgoahppfaaDoor
open Go.RowKit

theorem gb_extract (p : ByteArray) (a b i : Nat) : gb (p.extract a b) i = if a + i < min b p.size then gb p (a + i) else 256 := by
  have hs : (p.extract a b).size = min b p.size - a := by simp
  by_cases h : a + i < min b p.size
  · rw [if_pos h]
    have h1 : i < (p.extract a b).size := by omega
    have h2 : a + i < p.size := by omega
    rw [← gb_in h1, ← gb_in h2]
    congr 1
    rw [ByteArray.getElem_extract]
  · rw [if_neg h]
    exact gb_out (by omega)
/-- What a text stands for that begins with a backslash. -/
def esF (p : ByteArray) : Nat → Bool := if behOk p 0 = true then behF p 0 else fun _ => false
def esN (p : ByteArray) : Nat := if behOk p 0 = true then behN p 0 else 0
theorem es_hex (p : ByteArray) (h4 : 4 ≤ p.size) (h1 : gb p 1 = 120) : esF p = hxF (p.extract 2 4) ∧ esN p = hxN (p.extract 2 4) := by
  have e0 : gb (p.extract 2 4) 0 = gb p 2 := by rw [gb_extract, if_pos (by omega)]
  have e1 : gb (p.extract 2 4) 1 = gb p 3 := by rw [gb_extract, if_pos (by omega)]
  have a1 : ¬ p.size ≤ 1 := by omega
  have a3 : ¬ p.size ≤ 3 := by omega
  unfold esF esN hxF hxN hxOk hxV behOk behF behN
  rw [e0, e1]
  simp only [Nat.zero_add, if_neg a1, h1, ne_eq, not_true_eq_false, if_false, a3, false_or]
  by_cases h : dig16 (gb p 2) < 0 ∨ dig16 (gb p 3) < 0
  · have hb : (decide (0 ≤ dig16 (gb p 2)) && decide (0 ≤ dig16 (gb p 3))) = false := by simp; omega
    rw [hb]
    simp [h]
  · have hb : (decide (0 ≤ dig16 (gb p 2)) && decide (0 ≤ dig16 (gb p 3))) = true := by simp; omega
    rw [hb]
    simp [h]
theorem es_esc (p : ByteArray) (h2 : 2 ≤ p.size) (h : ¬ (4 ≤ p.size ∧ gb p 1 = 120)) : esF p = (if escOk (gb p 1) = true then escF (gb p 1) else fun _ => false) ∧ esN p = (if escOk (gb p 1) = true then 2 else 0) := by
  have a1 : ¬ p.size ≤ 1 := by omega
  unfold esF esN behOk behF behN
  simp only [Nat.zero_add, if_neg a1]
  by_cases h1 : gb p 1 = 120
  · have hx : p.size ≤ 3 := by
      rcases Nat.lt_or_ge p.size 4 with h3 | h3
      · omega
      · exact absurd ⟨h3, h1⟩ h
    have ho : escOk 120 = false := by decide
    simp [h1, hx, ho]
  · simp [h1]
theorem es_end (p : ByteArray) (h2 : p.size < 2) : esF p = (fun _ => false) ∧ esN p = 0 := by
  have hb : behOk p 0 = false := by unfold behOk; rw [if_pos (by omega)]
  unfold esF esN
  rw [hb]
  exact ⟨rfl, rfl⟩
theorem gb_data1 {p : ByteArray} {i c : Nat} (h : i < p.size) (hc : gb p i = c) : (p[i]'h).toNat = c := by rw [gb_in h, hc]

end Go.Proofs.YtjbmkbgoahppfaaDoor

namespace Go.Proofs.YtjbmkbgoahppfaaDoor
open Go.RowKit

/-- The item that cannot be made, as it lies. -/
theorem itv_none : itv (fun _ => false) 0 false false = .agg #[.int .u64 0, .int .u64 0, .int .u64 0, .int .u64 0, .int .i64 0, .bool false, .bool false] := by
  simp only [itv, none_wd]; rfl
theorem conv_u8 (c : Nat) (h : c < 256) : IntKind.i64.wrap (c : Int) = (c : Int) := by rw [IntKind.wrap_i64]; omega
theorem below_set7z {B : Nat} {a w : World} {c : Nat} (h : Below B a w) (hc : B ≤ c) : Below B a
    (((((((w.setCell ⟨c, 0, none⟩ (.int .u64 0)).setCell ⟨c, 1, none⟩ (.int .u64 0)).setCell ⟨c, 2, none⟩ (.int .u64 0)).setCell ⟨c, 3, none⟩ (.int .u64 0)).setCell ⟨c, 4, none⟩ (.int .i64 0)).setCell ⟨c, 5, none⟩ (.bool false)).setCell ⟨c, 6, none⟩ (.bool false)) :=
  ((((((h.setCell hc _).setCell hc _).setCell hc _).setCell hc _).setCell hc _).setCell hc _).setCell hc _

end Go.Proofs.YtjbmkbgoahppfaaDoor

namespace Go.Proofs.YtjbmkbgoahppfaaDoor
open Go.RowKit

/-- Where the name that begins at a place ends: the first place from it on with a colon and a bracket. -/
def nmEnd (p : ByteArray) (i : Nat) : Option Nat := (List.range p.size).find? fun j => decide (i ≤ j) && (gb p j == 58 && gb p (j + 1) == 93)
/-- An item of a bracket that is no range: the bytes, where it ends, whether it can be made, whether it is a name. -/
def sinF (p : ByteArray) (k : Nat) : Nat → Bool :=
  if gb p k = 92 then behF p k
  else if gb p k = 91 ∧ gb p (k + 1) = 58 then (match nmEnd p (k + 2) with | some j => isB (p.extract (k + 2) j).toList | none => fun _ => false)
  else oneR (gb p k)
def sinN (p : ByteArray) (k : Nat) : Nat :=
  if gb p k = 92 then behN p k
  else if gb p k = 91 ∧ gb p (k + 1) = 58 then (match nmEnd p (k + 2) with | some j => j + 2 | none => 0)
  else k + 1
def sinOk (p : ByteArray) (k : Nat) : Bool :=
  if gb p k = 92 then behOk p k
  else if gb p k = 91 ∧ gb p (k + 1) = 58 then (match nmEnd p (k + 2) with | some j => isN (p.extract (k + 2) j).toList | none => false)
  else true
def sinNm (p : ByteArray) (k : Nat) : Bool :=
  if gb p k = 92 then false
  else if gb p k = 91 ∧ gb p (k + 1) = 58 then (match nmEnd p (k + 2) with | some _ => true | none => false)
  else false

def hitB (p : ByteArray) (j : Nat) : Bool := gb p j == 58 && gb p (j + 1) == 93
theorem hitB_in {p : ByteArray} {j : Nat} (h : hitB p j = true) : j + 1 < p.size := by
  unfold hitB at h
  rcases Nat.lt_or_ge (j + 1) p.size with h1 | h1
  · exact h1
  · rw [gb_out h1] at h; simp at h
theorem nmEnd_some {p : ByteArray} {i j : Nat} (hij : i ≤ j) (h : hitB p j = true) (hno : ∀ x, i ≤ x → x < j → hitB p x = false) : nmEnd p i = some j := by
  have hj := hitB_in h
  unfold nmEnd
  rw [List.find?_range_eq_some]
  refine ⟨?_, by rw [List.mem_range]; omega, fun x hx => ?_⟩
  · rw [decide_eq_true hij]; exact h
  · by_cases hix : i ≤ x
    · have := hno x hix hx
      unfold hitB at this
      rw [this]; simp
    · simp [hix]
theorem nmEnd_none {p : ByteArray} {i j : Nat} (hj : p.size ≤ j + 1) (hno : ∀ x, i ≤ x → x < j → hitB p x = false) : nmEnd p i = none := by
  unfold nmEnd
  rw [List.find?_range_eq_none]
  intro x _
  by_cases hix : i ≤ x
  · have : hitB p x = false := by
      rcases Nat.lt_or_ge x j with h1 | h1
      · exact hno x hix h1
      · cases hh : hitB p x
        · rfl
        · have := hitB_in hh; omega
    unfold hitB at this
    rw [this]; simp
  · simp [hix]
end Go.Proofs.YtjbmkbgoahppfaaDoor

namespace Go.Proofs.YtjbmkbgoahppfaaDoor
open Go.RowKit

set_option maxRecDepth 100000 in
set_option maxHeartbeats 2000000 in
theorem bytes_any (f : Nat → Bool) (w : World) :
    Calls Tryd.prog 53 #[sv f] w fun e w' => ∃ v, e = .returned v ∧ w'.ownsRow (w.heap.size + 1) 5 1 v (bl f 256).length (u8s (bl f 256)) ∧ Below w.heap.size w w' := by
  obtain ⟨i0, hi, hz0, hz1, hz2⟩ := info_parts Tryd.info8
  unfold sv
  go_enter Tryd.func53, Tryd.ntmps53
  go_wp2
  go_loopw [3, 5] (fun v i wr => ∃ k : Nat, k ≤ 256 ∧ i = .int .i64 k ∧ bytesR f w k v wr) (fun _ i _ => 256 - (intOf i).toNat)
  case atStart => exact ⟨0, Nat.zero_le _, rfl, World.ownsRow_nil _ _ _ _, Below.refl _ _⟩
  case round =>
    obtain ⟨k, hk, rfl, hown, hB⟩ := hrel
    obtain ⟨hc, hf⟩ := w2of hB
    have hz := hB.size
    simp only [World.size_alloc] at hz
    have hle := bl_le f k
    by_cases hlt : k < 256
    · cases hfk : f k
      · have Hf := Lib.hid hfk
        clear hfk
        go_wp2_with (go_at_call 64; refine (has_any f k hlt _).mono ?_; rintro e w1 ⟨rfl, hb1⟩; rw [Hf.out])
        go_roundw
        case rel => exact ⟨k + 1, by omega, by go_num, by rw [bl_miss f k Hf.out]; exact owns_below hown hb1, hB.trans (hb1.mono hz)⟩
        case measure => simp [intOf]; omega
      · have Hf := Lib.hid hfk
        clear hfk
        go_wp2_with (first | (go_at_call 64; refine (has_any f k hlt _).mono ?_; rintro e w1 ⟨rfl, hb1⟩; rw [Hf.out]; have hown1 := owns_below hown hb1) | (at_builtin; refine wpList_append_own _ rfl _ _ 49 rfl (w.heap.size + 1) 5 i0 (.int .u8 0) 1 1 Tryd.underlying49 hi hz0 hz1 hz2 rfl (by decide) _ _ _ rfl (hown1.alloc _) ⟨w1.heap.size, 0, none⟩ 1 1 [.int .u8 (k : Int)] rfl rfl ?c1 ?c2 ?c3 ?c4 ?c5 ?_))
        case c1 =>
          intro j u hj
          match j, hj with
          | 0, hj => simp at hj; subst hj; simp [Addr.add]
        case c2 => intro u hu; simp at hu; subst hu; rfl
        case c3 => unfold maxLen; omega
        case c4 => omega
        case c5 => have := hb1.size; simp; omega
        have hz1 := hb1.size
        intro v' w2 hown2 hgrow _
        have hB2 : Below (w.heap.size + 1) (w.alloc (.cells #[.int .u64 (wd f 0 : Int), .int .u64 (wd f 1 : Int), .int .u64 (wd f 2 : Int), .int .u64 (wd f 3 : Int)] 38)) w2 :=
          ((hB.trans (hb1.mono hz)).alloc (by omega) _).grown hgrow (by simp; omega) fun r hr => (hown1.lt r hr).1
        have hown3 : w2.ownsRow (w.heap.size + 1) 5 1 v' (bl f (k + 1)).length (u8s (bl f (k + 1))) := by
          rw [bl_hit f k Hf.out]
          simpa [u8s] using hown2
        clear hown2 hgrow hown hown1 hB hc hf hb1
        go_wp2
        go_roundw
        case rel => exact ⟨k + 1, by omega, by go_num, hown3, hB2⟩
        case measure => simp [intOf]; omega
    · obtain rfl : k = 256 := by omega
      clear hc hf
      go_wp2
      go_ret
      exact ⟨_, rfl, hown, ((Below.refl _ _).alloc (Nat.le_refl _) _).trans (hB.mono (by omega))⟩
end Go.Proofs.YtjbmkbgoahppfaaDoor

namespace Go.Proofs.YtjbmkbgoahppfaaDoor
open Go.RowKit

/-- What strings.Cut hands back: named. -/
def cutIs (s sep A B : ByteArray) (c : Bool) : Prop :=
  (⟨(Lib.cut s.data.toList sep.data.toList).1.toArray⟩ : ByteArray) = A ∧ (⟨(Lib.cut s.data.toList sep.data.toList).2.1.toArray⟩ : ByteArray) = B ∧ (Lib.cut s.data.toList sep.data.toList).2.2 = c
theorem cut_some (s sep : ByteArray) (i : Nat) (h : Lib.index s.data.toList sep.data.toList = i) : cutIs s sep (s.extract 0 i) (s.extract (i + sep.size) s.size) true := Lib.cutB_hit s sep i h
theorem cut_none (s sep : ByteArray) (h : Lib.index s.data.toList sep.data.toList = -1) : cutIs s sep s ByteArray.empty false := Lib.cutB_miss s sep h

theorem gb_list (s : ByteArray) (i : Nat) : gb s i = (s.data.toList[i]?).elim 256 UInt8.toNat := by
  by_cases h : i < s.size
  · have h' : i < s.data.toList.length := by simpa using h
    rw [List.getElem?_eq_getElem h', ← gb_in h]
    simp [ByteArray.getElem_eq_getElem_data]
  · have h' : s.data.toList.length ≤ i := by simpa using h
    rw [List.getElem?_eq_none h', gb_out (by omega)]
    rfl
theorem some_u8 (o : Option UInt8) (a : UInt8) : (o.elim 256 UInt8.toNat == a.toNat) = (o == some a) := by
  cases o with
  | none =>
    have := UInt8.toNat_lt a
    have h : ((256 : Nat) == a.toNat) = false := beq_eq_false_iff_ne.2 (by omega)
    exact h
  | some b =>
    show (b.toNat == a.toNat) = (some b == some a)
    by_cases h : b = a
    · subst h; simp
    · have h' : b.toNat ≠ a.toNat := fun e => h (UInt8.toNat.inj e)
      rw [beq_eq_false_iff_ne.2 h']
      symm
      rw [beq_eq_false_iff_ne]
      exact fun e => h (Option.some.inj e)
theorem pre_two (a b : UInt8) (l : List UInt8) : [a, b].isPrefixOf l = (l[0]? == some a && l[1]? == some b) := by
  match l with
  | [] => rfl
  | [x] => simp [List.isPrefixOf]
  | x :: y :: r => simp [List.isPrefixOf, Bool.beq_comm]
theorem pre_one (a : UInt8) (l : List UInt8) : [a].isPrefixOf l = (l[0]? == some a) := by
  match l with
  | [] => rfl
  | x :: r => simp [List.isPrefixOf, BEq.comm]
theorem occ_two (s : ByteArray) (a b : UInt8) (i : Nat) : Lib.occAt s.data.toList [a, b] i = (gb s i == a.toNat && gb s (i + 1) == b.toNat) := by
  unfold Lib.occAt
  rw [pre_two, gb_list, gb_list, some_u8, some_u8, List.getElem?_drop, List.getElem?_drop, Nat.add_zero]
theorem occ_one (s : ByteArray) (a : UInt8) (i : Nat) : Lib.occAt s.data.toList [a] i = (gb s i == a.toNat) := by
  unfold Lib.occAt
  rw [pre_one, gb_list, some_u8, List.getElem?_drop, Nat.add_zero]
theorem gb_tail (p : ByteArray) (a i : Nat) : gb (p.extract a p.size) i = gb p (a + i) := by
  rw [gb_extract]
  by_cases h : a + i < p.size
  · rw [if_pos (by omega)]
  · rw [if_neg (by omega), gb_out (by omega)]
theorem hit_tail (p : ByteArray) (i : Nat) : Lib.occAt (p.extract 2 p.size).data.toList [58, 93] i = hitB p (2 + i) := by
  rw [occ_two, gb_tail, gb_tail]
  rfl

def nameSep : ByteArray := { data := #[58, 93] }
theorem nm_some (p : ByteArray) (j : Nat) (h : nmEnd p 2 = some j) : cutIs (p.extract 2 p.size) nameSep (p.extract 2 j) ((p.extract 2 p.size).extract (j - 2 + 2) (p.extract 2 p.size).size) true := by
  unfold nmEnd at h
  rw [List.find?_range_eq_some] at h
  obtain ⟨h1, h2, h3⟩ := h
  have h2' : j < p.size := by simpa using h2
  have hj : 2 ≤ j ∧ hitB p j = true := by
    unfold hitB
    simpa using h1
  have hi : Lib.index (p.extract 2 p.size).data.toList [58, 93] = ((j - 2 : Nat) : Int) := by
    refine Lib.index_first ?_ ?_ ?_
    · have : (p.extract 2 p.size).data.toList.length = p.size - 2 := by simp
      omega
    · rw [hit_tail, show 2 + (j - 2) = j by omega]; exact hj.2
    · intro x hx
      rw [hit_tail]
      have := h3 (2 + x) (by omega)
      unfold hitB
      cases hh : (gb p (2 + x) == 58 && gb p (2 + x + 1) == 93)
      · rfl
      · rw [hh] at this; simp at this
  have hc := cut_some (p.extract 2 p.size) nameSep (j - 2) hi
  have he : (p.extract 2 p.size).extract 0 (j - 2) = p.extract 2 j := by
    rw [ByteArray.extract_extract]
    congr 1
    omega
  rw [he] at hc
  exact hc
theorem nm_none (p : ByteArray) (h : nmEnd p 2 = none) : cutIs (p.extract 2 p.size) nameSep (p.extract 2 p.size) ByteArray.empty false := by
  unfold nmEnd at h
  rw [List.find?_range_eq_none] at h
  refine cut_none _ _ (Lib.index_none fun x hx => ?_)
  show Lib.occAt (p.extract 2 p.size).data.toList [58, 93] x = false
  rw [hit_tail]
  cases hh : hitB p (2 + x)
  · rfl
  · have h2 := hitB_in hh
    have := h (2 + x) (by omega)
    unfold hitB at hh
    rw [hh] at this
    simp at this

/-- The name at a text's begin. -/
def naF (p : ByteArray) : Nat → Bool := match nmEnd p 2 with | some j => if isN (p.extract 2 j).toList = true then isB (p.extract 2 j).toList else fun _ => false | none => fun _ => false
def naN (p : ByteArray) : Nat := match nmEnd p 2 with | some j => if isN (p.extract 2 j).toList = true then j + 2 else 0 | none => 0

end Go.Proofs.YtjbmkbgoahppfaaDoor

namespace Go.Proofs.YtjbmkbgoahppfaaDoor
open Go.RowKit

/-- The only byte of a set, and whether it has just one. -/
def onO (f : Nat → Bool) : Bool := decide ((bl f 256).length = 1)
def onV (f : Nat → Bool) : Nat := if onO f = true then (bl f 256).headD 0 else 0
/-- What stands between brackets at a text's begin. -/
def paF (p : ByteArray) : Nat → Bool := if sinOk p 0 = true then sinF p 0 else fun _ => false
def paN (p : ByteArray) : Nat := if sinOk p 0 = true then sinN p 0 else 0
theorem pa_back (p : ByteArray) (h : gb p 0 = 92) : paF p = esF p ∧ paN p = esN p := by
  unfold paF paN esF esN sinOk sinF sinN
  simp only [if_pos h]
  exact ⟨trivial, trivial⟩
theorem pa_name (p : ByteArray) (h0 : gb p 0 = 91) (h1 : gb p 1 = 58) : paF p = naF p ∧ paN p = naN p := by
  unfold paF paN naF naN sinOk sinF sinN
  simp [h0, h1]
  cases nmEnd p 2 with
  | none => exact ⟨rfl, rfl⟩
  | some j =>
    cases isN (p.extract 2 j).toList <;> exact ⟨rfl, rfl⟩
theorem pa_plain (p : ByteArray) (h0 : gb p 0 ≠ 92) (h1 : ¬ (gb p 0 = 91 ∧ gb p 1 = 58)) : paF p = oneR (gb p 0) ∧ paN p = 1 := by
  unfold paF paN sinOk sinF sinN
  simp only [if_neg h0, Nat.zero_add, if_neg h1, if_true]
  exact ⟨trivial, trivial⟩
def namePre : ByteArray := { data := #[91, 58] }
theorem pre_name (p : ByteArray) : Lib.hasPrefix p.data.toList namePre.data.toList = (gb p 0 == 91 && gb p 1 == 58) := by
  have := occ_two p 91 58 0
  unfold Lib.occAt at this
  rw [List.drop_zero] at this
  exact this
end Go.Proofs.YtjbmkbgoahppfaaDoor

namespace Go.Proofs.YtjbmkbgoahppfaaDoor
open Go.RowKit

theorem gb_lt_iff (p : ByteArray) (i : Nat) : gb p i < 256 ↔ i < p.size := by
  constructor
  · intro h
    rcases Nat.lt_or_ge i p.size with h1 | h1
    · exact h1
    · rw [gb_out h1] at h; omega
  · exact gb_lt
theorem elim_inj {a b : Option UInt8} (h : a.elim 256 UInt8.toNat = b.elim 256 UInt8.toNat) : a = b := by
  cases a with
  | none => cases b with
    | none => rfl
    | some y => have := UInt8.toNat_lt y; simp only [Option.elim] at h; omega
  | some x => cases b with
    | none => have := UInt8.toNat_lt x; simp only [Option.elim] at h; omega
    | some y => simp only [Option.elim] at h; rw [UInt8.toNat.inj h]
theorem eq_of_gb {s t : ByteArray} (h : ∀ i, gb s i = gb t i) : s = t := by
  have hl : s.data.toList = t.data.toList := by
    apply List.ext_getElem?
    intro i
    have := h i
    rw [gb_list, gb_list] at this
    exact elim_inj this
  have hd : s.data = t.data := Array.toList_inj.1 hl
  cases s; cases t; cases hd; rfl
theorem extract_gb {p p' : ByteArray} {a b a' b' : Nat} (hb : b ≤ p.size) (hb' : b' ≤ p'.size) (hl : b - a = b' - a') (h : ∀ i, i < b - a → gb p (a + i) = gb p' (a' + i)) : p.extract a b = p'.extract a' b' := by
  apply eq_of_gb
  intro i
  rw [gb_extract, gb_extract]
  by_cases hi : i < b - a
  · rw [if_pos (by omega), if_pos (by omega), h i hi]
  · rw [if_neg (by omega), if_neg (by omega)]

/-- Two texts are alike from a place on, for so many bytes. -/
def alike (p : ByteArray) (k : Nat) (p' : ByteArray) (k' m : Nat) : Prop := ∀ i, i < m → gb p (k + i) = gb p' (k' + i)
theorem alike.symm {p p' : ByteArray} {k k' m : Nat} (h : alike p k p' k' m) : alike p' k' p k m := fun i hi => (h i hi).symm
theorem alike.size {p p' : ByteArray} {k k' m i : Nat} (h : alike p k p' k' m) (hi : i < m) (hs : k + i < p.size) : k' + i < p'.size := by
  rw [← gb_lt_iff, ← h i hi, gb_lt_iff]; exact hs
theorem alike.at0 {p p' : ByteArray} {k k' m : Nat} (h : alike p k p' k' m) (hi : 0 < m) : gb p k = gb p' k' := h 0 hi
theorem alike.from {p p' : ByteArray} {k k' m j : Nat} (h : alike p k p' k' m) (_hj : j ≤ m) : alike p (k + j) p' (k' + j) (m - j) := fun i hi => by
  rw [Nat.add_assoc, Nat.add_assoc]; exact h (j + i) (by omega)

theorem beh_pre {p p' : ByteArray} {k k' m : Nat} (h : alike p k p' k' m) (hok : behOk p k = true) (hn : behN p k ≤ k + m) :
    behOk p' k' = true ∧ behF p' k' = behF p k ∧ behN p' k' + k = behN p k + k' ∧ k + 2 ≤ behN p k := by
  have hs : ¬ p.size ≤ k + 1 := fun h' => by unfold behOk at hok; rw [if_pos h'] at hok; cases hok
  by_cases hx : gb p (k + 1) ≠ 120
  · have hN : behN p k = k + 2 := by unfold behN; rw [if_neg hs, if_pos hx]
    have h1 := h 1 (by omega)
    have hs' : ¬ p'.size ≤ k' + 1 := by have := h.size (i := 1) (by omega) (by omega); omega
    have hx' : gb p' (k' + 1) ≠ 120 := by rw [← h1]; exact hx
    unfold behOk at hok ⊢
    unfold behF behN
    rw [if_neg hs, if_pos hx] at hok
    rw [if_neg hs', if_pos hx', if_neg hs', if_neg hs, if_pos hx', if_pos hx, if_neg hs', if_neg hs, if_pos hx', if_pos hx, ← h1]
    exact ⟨hok, rfl, by omega, by omega⟩
  · by_cases hc : p.size ≤ k + 3 ∨ dig16 (gb p (k + 2)) < 0 ∨ dig16 (gb p (k + 3)) < 0
    · unfold behOk at hok; rw [if_neg hs, if_neg hx, if_pos hc] at hok; cases hok
    · have hN : behN p k = k + 4 := by unfold behN; rw [if_neg hs, if_neg hx, if_neg hc]
      have h1 := h 1 (by omega)
      have h2 := h 2 (by omega)
      have h3 := h 3 (by omega)
      have hs' : ¬ p'.size ≤ k' + 1 := by have := h.size (i := 1) (by omega) (by omega); omega
      have hx' : ¬ gb p' (k' + 1) ≠ 120 := by rw [← h1]; exact hx
      have hc' : ¬ (p'.size ≤ k' + 3 ∨ dig16 (gb p' (k' + 2)) < 0 ∨ dig16 (gb p' (k' + 3)) < 0) := by
        rw [← h2, ← h3]
        have := h.size (i := 3) (by omega) (by omega)
        omega
      unfold behOk behF behN
      rw [if_neg hs', if_neg hx', if_neg hc', if_neg hs', if_neg hs, if_neg hx', if_neg hx, if_neg hc', if_neg hc, if_neg hs', if_neg hs, if_neg hx', if_neg hx, if_neg hc', if_neg hc, ← h2, ← h3]
      exact ⟨rfl, rfl, by omega, by omega⟩

theorem nmEnd_spec {p : ByteArray} {i j : Nat} (h : nmEnd p i = some j) : i ≤ j ∧ hitB p j = true ∧ ∀ x, i ≤ x → x < j → hitB p x = false := by
  unfold nmEnd at h
  rw [List.find?_range_eq_some] at h
  obtain ⟨h1, _, h3⟩ := h
  have hj : i ≤ j ∧ hitB p j = true := by unfold hitB; simpa using h1
  refine ⟨hj.1, hj.2, fun x hx hx2 => ?_⟩
  have := h3 x hx2
  unfold hitB
  cases hh : (gb p x == 58 && gb p (x + 1) == 93)
  · rfl
  · rw [hh] at this; simp at this; omega

theorem sin_pre {p p' : ByteArray} {k k' m : Nat} (h : alike p k p' k' m) (hok : sinOk p k = true) (hn : sinN p k < k + m) :
    sinOk p' k' = true ∧ sinF p' k' = sinF p k ∧ sinN p' k' + k = sinN p k + k' ∧ sinNm p' k' = sinNm p k ∧ k + 1 ≤ sinN p k := by
  by_cases h0 : gb p k = 92
  · have e1 : sinOk p k = behOk p k := by unfold sinOk; rw [if_pos h0]
    have e2 : sinN p k = behN p k := by unfold sinN; rw [if_pos h0]
    rw [e1] at hok
    rw [e2] at hn ⊢
    obtain ⟨b1, b2, b3, b4⟩ := beh_pre h hok (by omega)
    have h0' : gb p' k' = 92 := by rw [← h.at0 (by omega)]; exact h0
    unfold sinOk sinF sinN sinNm
    rw [if_pos h0', if_pos h0', if_pos h0, if_pos h0', if_pos h0', if_pos h0]
    exact ⟨b1, b2, b3, rfl, by omega⟩
  · by_cases h1 : gb p k = 91 ∧ gb p (k + 1) = 58
    · cases hnm : nmEnd p (k + 2) with
      | none => unfold sinOk at hok; rw [if_neg h0, if_pos h1, hnm] at hok; cases hok
      | some j =>
        obtain ⟨j1, j2, j3⟩ := nmEnd_spec hnm
        have hj := hitB_in j2
        have hN : sinN p k = j + 2 := by unfold sinN; rw [if_neg h0, if_pos h1, hnm]
        have a0 := h 0 (by omega)
        have a1 := h 1 (by omega)
        have gj : ∀ x, k ≤ x → x < k + m → gb p' (x - k + k') = gb p x := fun x hx hx2 => by
          have := h (x - k) (by omega)
          rw [show k + (x - k) = x by omega, show k' + (x - k) = x - k + k' by omega] at this
          exact this.symm
        have hj' : hitB p' (j - k + k') = true := by
          unfold hitB at j2 ⊢
          rw [gj j (by omega) (by omega), show j - k + k' + 1 = (j + 1) - k + k' by omega, gj (j + 1) (by omega) (by omega)]
          exact j2
        have hno' : ∀ x, k' + 2 ≤ x → x < j - k + k' → hitB p' x = false := fun x hx hx2 => by
          have := j3 (x - k' + k) (by omega) (by omega)
          unfold hitB at this ⊢
          have e1 := gj (x - k' + k) (by omega) (by omega)
          have e2 := gj (x - k' + k + 1) (by omega) (by omega)
          rw [show x - k' + k - k + k' = x by omega] at e1
          rw [show x - k' + k + 1 - k + k' = x + 1 by omega] at e2
          rw [e1, e2]
          exact this
        have hnm' : nmEnd p' (k' + 2) = some (j - k + k') := nmEnd_some (by omega) hj' hno'
        have hjs' := hitB_in hj'
        have hex : p.extract (k + 2) j = p'.extract (k' + 2) (j - k + k') := by
          apply extract_gb (by omega) (by omega) (by omega)
          intro i hi
          have := gj (k + 2 + i) (by omega) (by omega)
          rw [show k + 2 + i - k + k' = k' + 2 + i by omega] at this
          exact this.symm
        have h0' : gb p' k' ≠ 92 := by rw [← h.at0 (by omega)]; exact h0
        have h1' : gb p' k' = 91 ∧ gb p' (k' + 1) = 58 := ⟨by rw [← h.at0 (by omega)]; exact h1.1, by rw [← a1]; exact h1.2⟩
        unfold sinOk at hok ⊢
        unfold sinF sinN sinNm
        rw [if_neg h0, if_pos h1, hnm] at hok
        simp only [if_neg h0', if_pos h1', hnm', if_neg h0, if_pos h1, hnm, ← hex]
        exact ⟨hok, trivial, by omega, trivial, by omega⟩
    · have hN : sinN p k = k + 1 := by unfold sinN; rw [if_neg h0, if_neg h1]
      have h0' : gb p' k' ≠ 92 := by rw [← h.at0 (by omega)]; exact h0
      have a0 : gb p k = gb p' k' := h.at0 (by omega)
      by_cases h1' : gb p' k' = 91 ∧ gb p' (k' + 1) = 58
      · exact absurd ⟨by rw [a0]; exact h1'.1, by rw [h 1 (by omega)]; exact h1'.2⟩ h1
      · unfold sinOk sinF sinN sinNm
        rw [if_neg h0', if_neg h1', if_neg h0', if_neg h0, if_neg h1', if_neg h1, if_neg h0', if_neg h0, if_neg h1', if_neg h1, if_neg h0', if_neg h0, if_neg h1', if_neg h1, a0]
        exact ⟨rfl, rfl, by omega, rfl, by omega⟩

/-- .. and so what a text's tail begins with. -/
theorem tail_alike (p : ByteArray) (k m : Nat) : alike (p.extract k p.size) 0 p k m := fun i _ => by rw [gb_tail, Nat.zero_add]
theorem sin_tail (p : ByteArray) (k : Nat) : sinOk (p.extract k p.size) 0 = sinOk p k ∧ (sinOk p k = true → sinF (p.extract k p.size) 0 = sinF p k ∧ sinN p k = k + sinN (p.extract k p.size) 0 ∧ sinNm (p.extract k p.size) 0 = sinNm p k ∧ k + 1 ≤ sinN p k) := by
  cases h : sinOk p k
  · refine ⟨?_, fun h' => by cases h'⟩
    cases h2 : sinOk (p.extract k p.size) 0
    · rfl
    · have := (sin_pre (tail_alike p k (sinN (p.extract k p.size) 0 + 1)) h2 (by omega)).1
      rw [h] at this; cases this
  · obtain ⟨a1, a2, a3, a4, a5⟩ := sin_pre (tail_alike p k (sinN p k + 1)).symm h (by omega)
    exact ⟨a1, fun _ => ⟨a2, by omega, a4, a5⟩⟩
theorem pa_tail (p : ByteArray) (k : Nat) : paF (p.extract k p.size) = (if sinOk p k = true then sinF p k else fun _ => false) ∧ paN (p.extract k p.size) = (if sinOk p k = true then sinN p k - k else 0) := by
  obtain ⟨h1, h2⟩ := sin_tail p k
  unfold paF paN
  rw [h1]
  cases h : sinOk p k
  · exact ⟨rfl, rfl⟩
  · obtain ⟨a1, a2, _, _⟩ := h2 h
    simp only [if_true]
    exact ⟨a1, by omega⟩
end Go.Proofs.YtjbmkbgoahppfaaDoor

namespace Go.Proofs.YtjbmkbgoahppfaaDoor
open Go.RowKit

/-- Does a run begin here? -/
def itHyp (p : ByteArray) (i : Nat) : Bool := decide (0 ≤ oneF (sinF p i) (sinNm p i)) && (decide (sinN p i + 1 < p.size) && (gb p (sinN p i) == 45 && gb p (sinN p i + 1) != 93))
def itLo (p : ByteArray) (i : Nat) : Int := oneF (sinF p i) (sinNm p i)
def itHi (p : ByteArray) (i : Nat) : Int := oneF (sinF p (sinN p i + 1)) (sinNm p (sinN p i + 1))
/-- An item of a bracket: can it be made, its bytes, where it ends. -/
def itOk (p : ByteArray) (i : Nat) : Bool := sinOk p i && (!itHyp p i || (sinOk p (sinN p i + 1) && decide (itLo p i ≤ itHi p i)))
def itF (p : ByteArray) (i : Nat) : Nat → Bool := if itHyp p i = true then fun k => decide ((itLo p i).toNat ≤ k) && decide (k ≤ (itHi p i).toNat) else sinF p i
def itN (p : ByteArray) (i : Nat) : Nat := if itHyp p i = true then sinN p (sinN p i + 1) else sinN p i

theorem names_many : ∀ l ∈ nmL, (bl (isB l) 256).length ≠ 1 := by decide +kernel
theorem bl_none : (bl (fun _ => false) 256).length = 0 := by decide +kernel
theorem bl_congr {f g : Nat → Bool} (h : ∀ k, k < 256 → f k = g k) : bl f 256 = bl g 256 := List.filter_congr fun x hx => h x (by simpa using hx)
theorem onO_name (l : List UInt8) : onO (isB l) = false := by
  unfold onO
  by_cases h : l ∈ nmL
  · simpa using names_many l h
  · rw [bl_congr (f := isB l) (g := fun _ => false) (fun k _ => isB_none l h k), bl_none]; rfl
theorem onO_none : onO (fun _ => false) = false := by unfold onO; rw [bl_none]; rfl
theorem sin_name {p : ByteArray} {i : Nat} (h : sinNm p i = true) : onO (sinF p i) = false := by
  unfold sinNm at h
  unfold sinF
  by_cases h0 : gb p i = 92
  · rw [if_pos h0] at h; cases h
  · by_cases h1 : gb p i = 91 ∧ gb p (i + 1) = 58
    · rw [if_neg h0, if_pos h1] at h ⊢
      cases hn : nmEnd p (i + 2) with
      | none => rw [hn] at h; cases h
      | some j => exact onO_name _
    · rw [if_neg h0, if_neg h1] at h; cases h
theorem one_on (p : ByteArray) (i : Nat) : decide (0 ≤ oneF (sinF p i) (sinNm p i)) = onO (sinF p i) ∧ (onO (sinF p i) = true → oneF (sinF p i) (sinNm p i) = (onV (sinF p i) : Nat)) := by
  cases hn : sinNm p i
  · unfold oneF onV onO
    rw [if_neg (by decide)]
    by_cases h : (bl (sinF p i) 256).length = 1
    · simp [h]
    · simp [h]
  · have := sin_name hn
    rw [this]
    refine ⟨by unfold oneF; rfl, fun h => by cases h⟩
theorem onV_lt (f : Nat → Bool) : onV f < 256 := by
  unfold onV
  split
  · have := bl_bytes f 256
    cases h : bl f 256 with
    | nil => simp
    | cons x r => rw [h] at this; exact this x (by simp)
  · omega
theorem sin_le {p : ByteArray} {i : Nat} (hi : i < p.size) (h : sinOk p i = true) : sinN p i ≤ p.size := by
  unfold sinOk at h
  unfold sinN
  by_cases h0 : gb p i = 92
  · rw [if_pos h0] at h ⊢
    unfold behOk at h
    unfold behN
    split at h
    · cases h
    · rename_i h1
      rw [if_neg h1]
      split at h
      · rename_i h2; rw [if_pos h2]; omega
      · rename_i h2
        rw [if_neg h2]
        split at h
        · cases h
        · rename_i h3; rw [if_neg h3]; omega
  · rw [if_neg h0] at h ⊢
    by_cases h1 : gb p i = 91 ∧ gb p (i + 1) = 58
    · rw [if_pos h1] at h ⊢
      cases hn : nmEnd p (i + 2) with
      | none => rw [hn] at h; cases h
      | some j => have := hitB_in (nmEnd_spec hn).2.1; show j + 2 ≤ p.size; omega
    · rw [if_neg h1]; omega
def iF (p : ByteArray) : Nat → Bool := if itOk p 0 = true then itF p 0 else fun _ => false
def iN (p : ByteArray) : Nat := if itOk p 0 = true then itN p 0 else 0
theorem pa_on (p : ByteArray) : onO (paF p) = (sinOk p 0 && onO (sinF p 0)) := by
  unfold paF
  cases sinOk p 0
  · exact onO_none
  · rfl
/-- Without a run. -/
theorem i_plain (p : ByteArray) (h : onO (paF p) = false ∨ p.size < paN p + 2 ∨ gb p (paN p) ≠ 45 ∨ gb p (paN p + 1) = 93) : iF p = paF p ∧ iN p = paN p := by
  have hh : sinOk p 0 = true → itHyp p 0 = false := fun hs => by
    have e1 : paF p = sinF p 0 := by unfold paF; rw [if_pos hs]
    have e2 : paN p = sinN p 0 := by unfold paN; rw [if_pos hs]
    rw [e1, e2] at h
    unfold itHyp
    rw [(one_on p 0).1]
    rcases h with h | h | h | h
    · rw [h]; rfl
    · have : decide (sinN p 0 + 1 < p.size) = false := decide_eq_false (by omega)
      rw [this]; simp
    · have : (gb p (sinN p 0) == 45) = false := beq_eq_false_iff_ne.2 h
      rw [this]; simp
    · rw [h]; simp
  unfold iF iN paF paN itOk itF itN
  cases hs : sinOk p 0
  · exact ⟨rfl, rfl⟩
  · rw [hh hs]; exact ⟨rfl, rfl⟩
/-- With a run. -/
theorem i_run (p : ByteArray) (h1 : onO (paF p) = true) (h2 : paN p + 2 ≤ p.size) (h3 : gb p (paN p) = 45) (h4 : gb p (paN p + 1) ≠ 93) :
    (onO (paF (p.extract (paN p + 1) p.size)) = true ∧ onV (paF p) ≤ onV (paF (p.extract (paN p + 1) p.size)) →
      iF p = (fun k => decide (onV (paF p) ≤ k) && decide (k ≤ onV (paF (p.extract (paN p + 1) p.size)))) ∧ iN p = paN p + 1 + paN (p.extract (paN p + 1) p.size)) ∧
    (¬ (onO (paF (p.extract (paN p + 1) p.size)) = true ∧ onV (paF p) ≤ onV (paF (p.extract (paN p + 1) p.size))) → iF p = (fun _ => false) ∧ iN p = 0) := by
  rw [pa_on] at h1
  have hs : sinOk p 0 = true := by cases hs : sinOk p 0 <;> rw [hs] at h1 <;> first | rfl | cases h1
  rw [hs, Bool.true_and] at h1
  have e1 : paF p = sinF p 0 := by unfold paF; rw [if_pos hs]
  have e2 : paN p = sinN p 0 := by unfold paN; rw [if_pos hs]
  rw [e2] at h2 h3 h4
  rw [e1, e2]
  have hH : itHyp p 0 = true := by
    unfold itHyp
    rw [(one_on p 0).1, h1, decide_eq_true (by omega), h3]
    simpa using h4
  have hlo : itLo p 0 = (onV (sinF p 0) : Nat) := (one_on p 0).2 h1
  obtain ⟨q1, q2⟩ := pa_tail p (sinN p 0 + 1)
  rw [q1, q2]
  unfold iF iN itOk itF itN
  rw [hs, hH]
  simp only [Bool.true_and, Bool.not_true, Bool.false_or, if_true]
  cases hs2 : sinOk p (sinN p 0 + 1)
  · simp only [Bool.false_and, Bool.false_eq_true, if_false]
    exact ⟨fun h => (by have h0 := h.1; rw [onO_none] at h0; cases h0), fun _ => ⟨trivial, trivial⟩⟩
  · simp only [Bool.true_and, if_true]
    obtain ⟨o1, o2⟩ := one_on p (sinN p 0 + 1)
    have hge := (sin_tail p (sinN p 0 + 1)).2 hs2
    refine ⟨fun h => ?_, fun h => ?_⟩
    · have hhi : itHi p 0 = (onV (sinF p (sinN p 0 + 1)) : Nat) := o2 h.1
      rw [hlo, hhi, decide_eq_true (by omega), if_pos rfl, if_pos rfl, Int.toNat_natCast, Int.toNat_natCast]
      exact ⟨rfl, by omega⟩
    · have hf : decide (itLo p 0 ≤ itHi p 0) = false := by
        apply decide_eq_false
        rw [hlo]
        cases ho : onO (sinF p (sinN p 0 + 1))
        · have : ¬ 0 ≤ itHi p 0 := fun h0 => by
            have := o1.symm.trans (decide_eq_true h0)
            rw [ho] at this; cases this
          omega
        · have hhi : itHi p 0 = (onV (sinF p (sinN p 0 + 1)) : Nat) := o2 ho
          rw [hhi]
          intro h'
          exact h ⟨ho, by omega⟩
      rw [hf]
      exact ⟨rfl, rfl⟩
theorem pa_le (p : ByteArray) (h1 : 1 ≤ p.size) : paN p ≤ p.size := by
  unfold paN
  split
  · rename_i h; exact sin_le (by omega) h
  · omega
end Go.Proofs.YtjbmkbgoahppfaaDoor

namespace Go.Proofs.YtjbmkbgoahppfaaDoor
open Go.RowKit

theorem it_sin {p : ByteArray} {i : Nat} (h : itOk p i = true) : sinOk p i = true := by
  unfold itOk at h
  cases hs : sinOk p i
  · rw [hs] at h; cases h
  · rfl
theorem it_run {p : ByteArray} {i : Nat} (h : itOk p i = true) (hh : itHyp p i = true) : sinOk p (sinN p i + 1) = true ∧ itLo p i ≤ itHi p i := by
  unfold itOk at h
  rw [it_sin h, hh] at h
  simpa using h
theorem hyp_facts {p : ByteArray} {i : Nat} (hh : itHyp p i = true) : 0 ≤ oneF (sinF p i) (sinNm p i) ∧ sinN p i + 1 < p.size ∧ gb p (sinN p i) = 45 ∧ gb p (sinN p i + 1) ≠ 93 := by
  unfold itHyp at hh
  simpa using hh
theorem it_bd {p : ByteArray} {i : Nat} (hi : i < p.size) (h : itOk p i = true) : i + 1 ≤ itN p i ∧ itN p i ≤ p.size := by
  have hs := it_sin h
  have h1 := (sin_tail p i).2 hs
  have h2 := sin_le hi hs
  unfold itN
  cases hh : itHyp p i
  · simp only [Bool.false_eq_true, if_false]; omega
  · obtain ⟨f0, f1, f2, f3⟩ := hyp_facts hh
    have hs2 := (it_run h hh).1
    have h3 := (sin_tail p (sinN p i + 1)).2 hs2
    have h4 := sin_le f1 hs2
    simp only [if_true]; omega
theorem it_pre {p p' : ByteArray} {k k' m : Nat} (h : alike p k p' k' m) (hok : itOk p k = true) (hn : itN p k < k + m) (hx : gb p (sinN p k) = 45 → sinN p k + 1 < k + m) :
    itOk p' k' = true ∧ itF p' k' = itF p k ∧ itN p' k' + k = itN p k + k' := by
  have hs := it_sin hok
  have hlow : sinN p k < k + m := by
    unfold itN at hn
    cases hh : itHyp p k
    · rw [hh] at hn; exact hn
    · have := (hyp_facts hh).2.2.1; have := hx this; omega
  obtain ⟨a1, a2, a3, a4, a5⟩ := sin_pre h hs hlow
  have gj : ∀ x, k ≤ x → x < k + m → gb p' (x - k + k') = gb p x := fun x hx hx2 => by
    have := h (x - k) (by omega)
    rw [show k + (x - k) = x by omega, show k' + (x - k) = x - k + k' by omega] at this
    exact this.symm
  have hn' : sinN p' k' = sinN p k - k + k' := by omega
  have gn := gj (sinN p k) (by omega) hlow
  rw [← hn'] at gn
  have hhyp : itHyp p' k' = itHyp p k := by
    unfold itHyp
    rw [a2, a4, gn]
    by_cases h45 : gb p (sinN p k) = 45
    · have g1 := gj (sinN p k + 1) (by omega) (hx h45)
      rw [show sinN p k + 1 - k + k' = sinN p' k' + 1 by omega] at g1
      rw [g1]
      have : decide (sinN p' k' + 1 < p'.size) = decide (sinN p k + 1 < p.size) := by
        rw [Bool.eq_iff_iff, decide_eq_true_eq, decide_eq_true_eq, ← gb_lt_iff, ← gb_lt_iff, g1]
      rw [this]
    · have : (gb p (sinN p k) == 45) = false := beq_eq_false_iff_ne.2 h45
      rw [this]; simp
  cases hh : itHyp p k
  · unfold itOk itF itN
    rw [hhyp, hh, a1]
    simp only [Bool.not_false, Bool.true_or, Bool.and_true, Bool.false_eq_true, if_false]
    exact ⟨trivial, a2, a3⟩
  · obtain ⟨r1, r2⟩ := it_run hok hh
    obtain ⟨f0, f1, f2, f3⟩ := hyp_facts hh
    have hN : itN p k = sinN p (sinN p k + 1) := by unfold itN; rw [if_pos hh]
    rw [hN] at hn
    have h2 := (sin_tail p (sinN p k + 1)).2 r1
    have hal := h.from (j := sinN p k + 1 - k) (by omega)
    rw [show k + (sinN p k + 1 - k) = sinN p k + 1 by omega, show k' + (sinN p k + 1 - k) = sinN p' k' + 1 by omega] at hal
    obtain ⟨b1, b2, b3, b4, b5⟩ := sin_pre hal r1 (by omega)
    have hlo : itLo p' k' = itLo p k := by unfold itLo; rw [a2, a4]
    have hhi : itHi p' k' = itHi p k := by unfold itHi; rw [b2, b4]
    unfold itOk itF itN
    rw [hhyp, hh, a1, b1, hlo, hhi, decide_eq_true r2]
    simp only [if_true]
    exact ⟨rfl, trivial, by omega⟩
theorem it_tail (p : ByteArray) (k : Nat) : iF (p.extract k p.size) = (if itOk p k = true then itF p k else fun _ => false) ∧ iN (p.extract k p.size) = (if itOk p k = true then itN p k - k else 0) := by
  have key : itOk (p.extract k p.size) 0 = itOk p k ∧ (itOk p k = true → itF (p.extract k p.size) 0 = itF p k ∧ itN p k = k + itN (p.extract k p.size) 0) := by
    cases h : itOk p k
    · refine ⟨?_, fun h' => by cases h'⟩
      cases h2 : itOk (p.extract k p.size) 0
      · rfl
      · have := (it_pre (tail_alike p k (itN (p.extract k p.size) 0 + sinN (p.extract k p.size) 0 + 2)) h2 (by omega) (fun _ => by omega)).1
        rw [h] at this; cases this
    · obtain ⟨a1, a2, a3⟩ := it_pre (tail_alike p k (itN p k + sinN p k + 2)).symm h (by omega) (fun _ => by omega)
      exact ⟨a1, fun _ => ⟨a2, by omega⟩⟩
  obtain ⟨h1, h2⟩ := key
  unfold iF iN
  rw [h1]
  cases h : itOk p k
  · simp only [Bool.false_eq_true, if_false]; exact ⟨trivial, trivial⟩
  · obtain ⟨a1, a2⟩ := h2 h
    simp only [if_true]
    exact ⟨a1, by omega⟩

/-- Items up to the closing bracket: what is in any, and where that ends. -/
def brkL (p : ByteArray) : Nat → Nat → (Nat → Bool) → Option ((Nat → Bool) × Nat)
  | 0, _, _ => none
  | u + 1, i, f => if p.size ≤ i then none else if gb p i = 93 then some (f, i + 1) else if itOk p i = true then brkL p u (itN p i) (fun x => f x || itF p i x) else none
theorem brkL_enough {p : ByteArray} : ∀ {u i : Nat} {f : Nat → Bool} {r : (Nat → Bool) × Nat}, brkL p u i f = some r → ∀ u', p.size + 1 ≤ u' + i → brkL p u' i f = some r
  | 0, i, f, r, h, _, _ => by cases h
  | u + 1, i, f, r, h, u', hu => by
    unfold brkL at h
    by_cases h1 : p.size ≤ i
    · rw [if_pos h1] at h; exact absurd h (by simp)
    · rw [if_neg h1] at h
      match u', hu with
      | 0, hu => omega
      | u' + 1, hu =>
        unfold brkL
        rw [if_neg h1]
        by_cases h2 : gb p i = 93
        · rw [if_pos h2] at h ⊢; exact h
        · rw [if_neg h2] at h ⊢
          cases h3 : itOk p i
          · rw [h3, if_neg (by decide)] at h; exact absurd h (by simp)
          · rw [h3, if_pos rfl] at h
            rw [if_pos rfl]
            exact brkL_enough h u' (by have := it_bd (by omega) h3; omega)
theorem brkL_end {p : ByteArray} : ∀ {u i : Nat} {f : Nat → Bool} {r : (Nat → Bool) × Nat}, brkL p u i f = some r → i + 1 ≤ r.2 ∧ r.2 ≤ p.size ∧ (gb p i = 93 ∨ i + 2 ≤ r.2)
  | 0, i, f, r, h => by cases h
  | u + 1, i, f, r, h => by
    unfold brkL at h
    by_cases h1 : p.size ≤ i
    · rw [if_pos h1] at h; exact absurd h (by simp)
    · rw [if_neg h1] at h
      by_cases h2 : gb p i = 93
      · rw [if_pos h2] at h
        cases h
        exact ⟨by omega, by show i + 1 ≤ p.size; omega, .inl h2⟩
      · rw [if_neg h2] at h
        cases h3 : itOk p i
        · rw [h3, if_neg (by decide)] at h; exact absurd h (by simp)
        · rw [h3, if_pos rfl] at h
          obtain ⟨b1, b2, b3⟩ := brkL_end h
          have := it_bd (by omega) h3
          exact ⟨by omega, b2, .inr (by omega)⟩
theorem brkL_pre {p p' : ByteArray} : ∀ {u i i' m : Nat} {f : Nat → Bool} {r : (Nat → Bool) × Nat}, alike p i p' i' m → brkL p u i f = some r → r.2 ≤ i + m → brkL p' u i' f = some (r.1, r.2 - i + i')
  | 0, i, i', m, f, r, _, h, _ => by cases h
  | u + 1, i, i', m, f, r, ha, h, hm => by
    have hend := brkL_end h
    unfold brkL at h
    by_cases h1 : p.size ≤ i
    · rw [if_pos h1] at h; exact absurd h (by simp)
    · rw [if_neg h1] at h
      have h1' : ¬ p'.size ≤ i' := by have := ha.size (i := 0) (by omega) (by omega); omega
      have g0 := ha.at0 (by omega)
      unfold brkL
      rw [if_neg h1', ← g0]
      by_cases h2 : gb p i = 93
      · rw [if_pos h2] at h ⊢
        cases h
        show some (f, i' + 1) = some (f, i + 1 - i + i')
        rw [show i + 1 - i + i' = i' + 1 by omega]
      · rw [if_neg h2] at h ⊢
        cases h3 : itOk p i
        · rw [h3, if_neg (by decide)] at h; exact absurd h (by simp)
        · rw [h3, if_pos rfl] at h
          have hb := it_bd (by omega) h3
          have he := brkL_end h
          have hx : gb p (sinN p i) = 45 → sinN p i + 1 < i + m := fun h45 => by
            cases hh : itHyp p i
            · have hN : itN p i = sinN p i := by unfold itN; rw [hh]; rfl
              rw [hN] at he
              rcases he.2.2 with h9 | h9
              · omega
              · omega
            · obtain ⟨f0, f1, f2, f3⟩ := hyp_facts hh
              have hN : itN p i = sinN p (sinN p i + 1) := by unfold itN; rw [if_pos hh]
              have h4 := (sin_tail p (sinN p i + 1)).2 (it_run h3 hh).1
              omega
          obtain ⟨a1, a2, a3⟩ := it_pre ha h3 (by omega) hx
          rw [a1, if_pos rfl, a2]
          have hal := ha.from (j := itN p i - i) (by omega)
          rw [show i + (itN p i - i) = itN p i by omega, show i' + (itN p i - i) = itN p' i' by omega] at hal
          rw [brkL_pre hal h (by omega)]
          rw [show r.2 - itN p i + itN p' i' = r.2 - i + i' by omega]
/-- The bracket that begins at a place. -/
def brk (p : ByteArray) (k : Nat) : Option ((Nat → Bool) × Nat) :=
  if gb p (k + 1) = 94 then (brkL p (p.size + 1) (k + 2) fun _ => false).map fun r => (fun x => !r.1 x, r.2) else brkL p (p.size + 1) (k + 1) fun _ => false
theorem brk_end {p : ByteArray} {k : Nat} {r : (Nat → Bool) × Nat} (h : brk p k = some r) : k + 2 ≤ r.2 ∧ r.2 ≤ p.size := by
  unfold brk at h
  by_cases h1 : gb p (k + 1) = 94
  · rw [if_pos h1] at h
    cases hb : brkL p (p.size + 1) (k + 2) fun _ => false with
    | none => rw [hb] at h; cases h
    | some r' =>
      rw [hb] at h
      cases h
      have := brkL_end hb
      exact ⟨by show k + 2 ≤ r'.2; omega, this.2.1⟩
  · rw [if_neg h1] at h
    have := brkL_end h
    exact ⟨by omega, this.2.1⟩
theorem brk_pre {p p' : ByteArray} {k k' m : Nat} {r : (Nat → Bool) × Nat} (ha : alike p k p' k' m) (h : brk p k = some r) (hm : r.2 ≤ k + m) : brk p' k' = some (r.1, r.2 - k + k') := by
  have he := brk_end h
  have g1 := ha 1 (by omega)
  unfold brk at h ⊢
  rw [← g1]
  by_cases h1 : gb p (k + 1) = 94
  · rw [if_pos h1] at h ⊢
    cases hb : brkL p (p.size + 1) (k + 2) fun _ => false with
    | none => rw [hb] at h; cases h
    | some r' =>
      rw [hb] at h
      cases h
      have hal := ha.from (j := 2) (by have : k + 2 ≤ r'.2 := he.1; have : r'.2 ≤ k + m := hm; omega)
      have hm' : r'.2 ≤ k + m := hm
      have he' : k + 2 ≤ r'.2 := he.1
      rw [brkL_enough (brkL_pre hal hb (by omega)) (p'.size + 1) (by omega)]
      show some (_, r'.2 - (k + 2) + (k' + 2)) = some (_, r'.2 - k + k')
      rw [show r'.2 - (k + 2) + (k' + 2) = r'.2 - k + k' by omega]
  · rw [if_neg h1] at h ⊢
    have hal := ha.from (j := 1) (by omega)
    rw [brkL_enough (brkL_pre hal h (by omega)) (p'.size + 1) (by omega)]
    rw [show r.2 - (k + 1) + (k' + 1) = r.2 - k + k' by omega]
end Go.Proofs.YtjbmkbgoahppfaaDoor

namespace Go.Proofs.YtjbmkbgoahppfaaDoor
open Go.RowKit

/-- The bracket that a text begins with. -/
def brF (p : ByteArray) : Nat → Bool := match brk p 0 with | some r => r.1 | none => fun _ => false
def brN (p : ByteArray) : Nat := match brk p 0 with | some r => r.2 | none => 0
def notPre : ByteArray := { data := #[94] }
theorem pre_not (p : ByteArray) : Lib.hasPrefix (p.extract 1 p.size).data.toList notPre.data.toList = (gb p 1 == 94) := by
  have := occ_one (p.extract 1 p.size) 94 0
  unfold Lib.occAt at this
  rw [List.drop_zero, gb_tail] at this
  exact this
theorem or_comm3 (f g : Nat → Bool) (w : World) : Calls Tryd.prog 58 #[svr f, svr g] w fun e w' => e = .returned (sv fun x => f x || g x) ∧ Below w.heap.size w w' := or_lit f g w
theorem brkL_step {p : ByteArray} {u i : Nat} {f : Nat → Bool} (hi : i < p.size) (hc : gb p i ≠ 93) (ho : itOk p i = true) : brkL p (u + 1) i f = brkL p u (itN p i) fun x => f x || itF p i x := by
  conv => lhs; unfold brkL
  rw [if_neg (by omega), if_neg hc, if_pos ho]
theorem brkL_hit {p : ByteArray} {u i : Nat} {f : Nat → Bool} (hi : i < p.size) (hc : gb p i = 93) : brkL p (u + 1) i f = some (f, i + 1) := by
  unfold brkL
  rw [if_neg (by omega), if_pos hc]
theorem brkL_bad {p : ByteArray} {u i : Nat} {f : Nat → Bool} (h : p.size ≤ i ∨ (gb p i ≠ 93 ∧ itOk p i = false)) : brkL p u i f = none := by
  cases u with
  | zero => rfl
  | succ u =>
    unfold brkL
    by_cases h1 : p.size ≤ i
    · rw [if_pos h1]
    · rcases h with h | ⟨h, h'⟩
      · exact absurd h h1
      · rw [if_neg h1, if_neg h, h', if_neg (by decide)]

end Go.Proofs.YtjbmkbgoahppfaaDoor

namespace Go.Proofs.YtjbmkbgoahppfaaDoor
open Go.RowKit

/-- All bytes but the line feed. -/
def dotF (k : Nat) : Bool := !decide (k = 10)
set_option maxRecDepth 100000 in
set_option maxHeartbeats 1000000 in
theorem dot_any (w : World) : Calls Tryd.prog 50 #[] w fun e w' => e = .returned (sv dotF) ∧ Below w.heap.size w w' := by
  have e0 := (isSet.newNone w).alloc (.cells #[.int .u8 10] 5)
  have hW : Below w.heap.size w ((w.alloc (.cells #[.int .u64 0, .int .u64 0, .int .u64 0, .int .u64 0] 38)).alloc (.cells #[.int .u8 10] 5)) := ((Below.refl _ _).alloc (Nat.le_refl _) _).alloc (by simp) _
  have HW := Lib.hid hW; have E0 := Lib.hid e0
  clear hW e0
  go_enter Tryd.func50, Tryd.ntmps50
  go_wp2_with fail
  refine (of_one 10 (by decide) _ _ (by simp) (by simp [go_sem])).mono ?_
  rintro e w1 ⟨rfl, hb⟩
  have hW := HW.out.trans (hb.mono HW.out.size)
  have e0 := E0.out.below hb E0.out.lt
  clear hb HW E0
  have HW := Lib.hid hW; have E0 := Lib.hid e0
  clear hW e0
  go_wp2_with fail
  refine (not_lit _ _).mono ?_
  rw [show (fun k => !decide (k = 10)) = dotF from rfl]
  rintro e w2 ⟨rfl, hb⟩
  have hW := HW.out.trans (hb.mono HW.out.size)
  have e0 := E0.out.below hb E0.out.lt
  clear hb HW E0
  have l9 : w.heap.size < w2.heap.size := e0.lt
  obtain ⟨r0, r1, r2, r3⟩ := e0.free
  obtain ⟨q0, q1, q2, q3⟩ := e0.cells
  have HR := Lib.hid (below_set4 (c := w.heap.size) hW (Nat.le_refl _) (.int .u64 (wd dotF 0 : Int)) (.int .u64 (wd dotF 1 : Int)) (.int .u64 (wd dotF 2 : Int)) (.int .u64 (wd dotF 3 : Int)))
  have Z := Lib.hid (e0.stored dotF).cells
  clear e0 hW
  go_wp2
  refine bodyPost_ret (v := sv dotF) (by simp [results, Tryd.results50, go_sem, Z.out]) rfl ⟨rfl, HR.out⟩
end Go.Proofs.YtjbmkbgoahppfaaDoor

namespace Go.Proofs.YtjbmkbgoahppfaaDoor
open Go.RowKit

/-- How often, and where that ends; 0: it cannot be made. -/
def oftF (p : ByteArray) (k : Nat) : Int × Int × Nat :=
  if numF p (k + 1) < 0 then (0, 0, 0)
  else if gb p (numN p (k + 1)) = 125 then (numF p (k + 1), numF p (k + 1), numN p (k + 1) + 1)
  else if gb p (numN p (k + 1)) ≠ 44 then (0, 0, 0)
  else if gb p (numN p (k + 1) + 1) = 125 then (numF p (k + 1), -1, numN p (k + 1) + 2)
  else if p.size ≤ numN p (k + 1) + 1 then (0, 0, 0)
  else if numF p (numN p (k + 1) + 1) < numF p (k + 1) ∨ gb p (numN p (numN p (k + 1) + 1)) ≠ 125 then (0, 0, 0)
  else (numF p (k + 1), numF p (numN p (k + 1) + 1), numN p (numN p (k + 1) + 1) + 1)
theorem numF_lo (p : ByteArray) (k : Nat) : -1 ≤ numF p k ∧ numF p k ≤ 32 := by
  unfold numF
  repeat' split
  all_goals first | omega | skip
  · rename_i h _
    have h' : 48 ≤ gb p k ∧ gb p k ≤ 57 := by simpa [isD] using h
    unfold dv
    omega
theorem numN_le (p : ByteArray) (k : Nat) (hk : k ≤ p.size) : k ≤ numN p k ∧ numN p k ≤ p.size := by
  unfold numN
  have g : ∀ j, isD p j = true → j < p.size := fun j h => by
    obtain ⟨_, _, _, _, _, hj, _⟩ := isD_true h
    exact hj
  repeat' split
  · have := g (k + 2) ‹_›; omega
  · have := g (k + 1) ‹_›; omega
  · have := g k ‹_›; omega
  · omega

def oftPost (p : ByteArray) (k : Nat) (w : World) (e : Ending) (w' : World) : Prop := e = .returned (.tuple #[.int .i64 (oftF p k).1, .int .i64 (oftF p k).2.1, .int .i64 ((oftF p k).2.2 : Nat)]) ∧ w = w'
theorem oftPost.mk {p : ByteArray} {k : Nat} {w : World} {x y : Int} {z : Nat} {z' : Int} (h : oftF p k = (x, y, z)) (hz : z' = (z : Int) := by omega) : oftPost p k w (.returned (.tuple #[.int .i64 x, .int .i64 y, .int .i64 z'])) w := ⟨by rw [h, hz], rfl⟩
end Go.Proofs.YtjbmkbgoahppfaaDoor
