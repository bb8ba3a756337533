/-
  What the program's text and the world's shape say of the package-level variables: the table of named, the error of strconv, the number of bytealg.
  The row of the type of a byte; what a list of bytes grows in.
  The walk of the reference's Has.
  The walk of the reference's Bytes.
  A block of memory that holds a set.
  The walk of the third reference's one.
  The walk of the third reference's digit.
  The walk of the third reference's number.
-/
import Derived.Test.YtgjpmfdiidkdnaaDoorPk2
import Derived.Test.YtgjpmfdiidkdnaaDoorPk1
import Derived.Test.YtgjpmfdiidkdnaaDoorPk3
import Derived.LaidSub
import Derived.Stop.LaidErr
import Derived.HandedShaped
namespace Go.Proofs.YtgjpmfdiidkdnaaDoor
open Go.RowKit Go.ChangeShapes Go.ChangeAt

/-- The table's cells stand as laid; bytealg's number is some number; strconv's error is some error. -/
def Okw (w : World) : Prop := Tabbed w ∧ (∃ m, w.cell? ⟨1, 0, none⟩ = some (.int .i64 m)) ∧ ∃ te pe, w.cell? ⟨3, 0, none⟩ = some (.iface te pe)
theorem Okw.to {w w' : World} (h : Okw w) (hb : Below w.heap.size w w') : Okw w' := by
  obtain ⟨h1, ⟨m, h2⟩, te, pe, h3⟩ := h
  have l2 := World.block_lt_of_cell? w _ h2
  have l3 := World.block_lt_of_cell? w _ h3
  exact ⟨h1.to hb, ⟨m, (hb.cell (p := ⟨_, 0, none⟩) l2).trans h2⟩, te, pe, (hb.cell (p := ⟨_, 0, none⟩) l3).trans h3⟩
theorem Okw.alloc {w : World} (h : Okw w) (o : Obj) : Okw (w.alloc o) := h.to ((Below.refl _ _).alloc (Nat.le_refl _) o)
theorem Okw.drewN {w : World} (h : Okw w) (n : Nat) : Okw (w.drewN n) := h
theorem Okw.lt {w : World} (h : Okw w) : 0 < w.heap.size := World.block_lt_of_cell? w ⟨0, 0, none⟩ (h.1 0 _ (show tabC[0]? = some (.string ⟨#[97, 108, 110, 117, 109]⟩) from rfl))
theorem Okw.old {w w' : World} {B : Nat} (h : Okw w) (hb : Below B w w') (hB : w.heap.size ≤ B) : Okw w' := h.to (hb.mono hB)

theorem gErr : Tryd.prog.globalNamed "strconv.ErrSyntax" = some 3 := by kernel_rfl
theorem tErr : (Tryd.prog.globals[3]?).map (·.type) = some 106 := by kernel_rfl
theorem cellsE : Tryd.prog.cellsOf 141 = 1 := by kernel_rfl
theorem starE : "*" ++ "errors.errorString" = "*errors.errorString" := by decide
theorem rowE (u : TypeId) (h : Tryd.prog.typeName? 3 u = some "*errors.errorString") : u = 139 :=
  typeName_ptr_named (nm := "errors.errorString") (by rw [starE]; kernel_rfl) (by kernel_rfl) (by decide) u (by rw [starE]; exact h)

theorem okw_of_met {L : List (String × DataW Unit)} {W : World} (h : laidMet Tryd.prog L W) (hsh : W.ShapedOpen Tryd.prog)
    (f1 : (L.filter fun x => x.1 == "tatting/named.table") = [("tatting/named.table", Rows.laid_tatting_named_table)])
    (f2 : (L.filter fun x => x.1 == "strconv.ErrSyntax") = [("strconv.ErrSyntax", Rows.laid_strconv_ErrSyntax)]) : Okw W := by
  have h1 := h.filter fun x => x.1 == "tatting/named.table"
  rw [f1] at h1
  have h2 := h.filter fun x => x.1 == "strconv.ErrSyntax"
  rw [f2] at h2
  obtain ⟨a0, s0, hv0, -, -, -⟩ := laid_sentinel h2 gErr tErr Tryd.underlying106 rowE Tryd.underlying139 Tryd.underlying141 rfl rfl Tryd.underlying9 cellsE cells9
  have h0 := World.var?_cell gErr hv0 0
  exact ⟨tabbed_of_met h1, Sh.laysM219.s1_3 W hsh, _, _, by simpa using h0⟩
end Go.Proofs.YtgjpmfdiidkdnaaDoor

namespace Go.Proofs.YtgjpmfdiidkdnaaDoor
open Go.RowKit

theorem Tryd.info8 : (Tryd.prog.info? 5).map (fun i => (i.zero, i.size, i.bytes)) = some (some (.int .u8 0), 1, 1) := by kernel_rfl

/-- The world within Bytes, k numbers on. -/
def bytesR (f : Nat → Bool) (w : World) (k : Nat) (v : Value) (wr : World) : Prop :=
  wr.ownsRow (w.heap.size + 1) 5 1 v (bl f k).length (u8s (bl f k)) ∧
  Below (w.heap.size + 1) (w.alloc (.cells #[.int .u64 (wd f 0 : Int), .int .u64 (wd f 1 : Int), .int .u64 (wd f 2 : Int), .int .u64 (wd f 3 : Int)] 32)) wr
end Go.Proofs.YtgjpmfdiidkdnaaDoor

namespace Go.Proofs.YtgjpmfdiidkdnaaDoor
open Go.RowKit

set_option maxHeartbeats 1000000 in
theorem rhas_any (f : Nat → Bool) (b : Int) (h0 : 0 ≤ b) (hn : b < 256) (w : World) :
    Calls Tryd.prog 28 #[sv f, .int .i64 b] w fun e w' => e = .returned (.bool (f b.toNat)) ∧ Below w.heap.size w w' := by
  obtain ⟨m, rfl⟩ := Int.eq_ofNat_of_zero_le h0
  rw [Int.toNat_natCast]
  have W := word_has f
  have q : m / 64 = 0 ∨ m / 64 = 1 ∨ m / 64 = 2 ∨ m / 64 = 3 := by omega
  have key : ∀ i, m / 64 = i → Hid ((bits .and .u64 ((wd f i : Int) / 2 ^ (m % 64)) 1 == 1) = f m) := fun i hi => by
    have := W i (m % 64) (by omega)
    rw [show 64 * i + m % 64 = m from by omega] at this
    exact this
  clear W
  unfold sv
  rcases q with q | q | q | q
  · have key' := key _ q
    clear key
    have q' : (m : Int) / 64 = 0 := by omega
    clear q
    go_enter Tryd.func28, Tryd.ntmps28
    go_wp2
    go_ret
    exact ⟨by rw [← key'.out] <;> rfl, by go_grown⟩
  · have key' := key _ q
    clear key
    have q' : (m : Int) / 64 = 1 := by omega
    clear q
    go_enter Tryd.func28, Tryd.ntmps28
    go_wp2
    go_ret
    exact ⟨by rw [← key'.out] <;> rfl, by go_grown⟩
  · have key' := key _ q
    clear key
    have q' : (m : Int) / 64 = 2 := by omega
    clear q
    go_enter Tryd.func28, Tryd.ntmps28
    go_wp2
    go_ret
    exact ⟨by rw [← key'.out] <;> rfl, by go_grown⟩
  · have key' := key _ q
    clear key
    have q' : (m : Int) / 64 = 3 := by omega
    clear q
    go_enter Tryd.func28, Tryd.ntmps28
    go_wp2
    go_ret
    exact ⟨by rw [← key'.out] <;> rfl, by go_grown⟩

theorem rhas_lit (f : Nat → Bool) (b : Nat) (hn : b < 256) (w : World) : Calls Tryd.prog 28 #[svr f, .int .i64 (b : Int)] w fun e w' => e = .returned (.bool (f b)) ∧ Below w.heap.size w w' := rhas_any f b (by omega) (by omega) w
end Go.Proofs.YtgjpmfdiidkdnaaDoor

namespace Go.Proofs.YtgjpmfdiidkdnaaDoor
open Go.RowKit

set_option maxRecDepth 100000 in
set_option maxHeartbeats 2000000 in
theorem rbytes_any (f : Nat → Bool) (w : World) :
    Calls Tryd.prog 27 #[sv f] w fun e w' => ∃ v, e = .returned v ∧ w'.ownsRow (w.heap.size + 1) 5 1 v (bl f 256).length (u8s (bl f 256)) ∧ Below w.heap.size w w' := by
  obtain ⟨i0, hi, hz0, hz1, hz2⟩ := info_parts Tryd.info8
  unfold sv
  go_enter Tryd.func27, Tryd.ntmps27
  go_wp2
  go_loopw [3, 4] (fun v i wr => ∃ k : Nat, k ≤ 256 ∧ i = .int .i64 k ∧ bytesR f w k v wr) (fun _ i _ => 256 - (intOf i).toNat)
  case atStart => exact ⟨0, Nat.zero_le _, rfl, World.ownsRow_nil _ _ _ _, Below.refl _ _⟩
  case round =>
    obtain ⟨k, hk, rfl, hown, hB⟩ := hrel
    obtain ⟨hc, hf⟩ := w2of hB
    have hz := hB.size
    simp only [World.size_alloc] at hz
    have hle := bl_le f k
    by_cases hlt : k < 256
    · cases hfk : f k
      · have Hf := Lib.hid hfk
        clear hfk
        go_wp2_with (go_at_call 28; refine (rhas_any f k (by omega) (by omega) _).mono ?_; rw [Int.toNat_natCast]; rintro e w1 ⟨rfl, hb1⟩; rw [Hf.out])
        go_roundw
        case rel => exact ⟨k + 1, by omega, by go_num, by rw [bl_miss f k Hf.out]; exact owns_below hown hb1, hB.trans (hb1.mono hz)⟩
        case measure => simp [intOf]; omega
      · have Hf := Lib.hid hfk
        clear hfk
        go_wp2_with (first | (go_at_call 28; refine (rhas_any f k (by omega) (by omega) _).mono ?_; rw [Int.toNat_natCast]; rintro e w1 ⟨rfl, hb1⟩; rw [Hf.out]; have hown1 := owns_below hown hb1) | (at_builtin; refine wpList_append_own _ rfl _ _ 59 rfl (w.heap.size + 1) 5 i0 (.int .u8 0) 1 1 Tryd.underlying59 hi hz0 hz1 hz2 rfl (by decide) _ _ _ rfl (hown1.alloc _) ⟨w1.heap.size, 0, none⟩ 1 1 [.int .u8 (k : Int)] rfl rfl ?c1 ?c2 ?c3 ?c4 ?c5 ?_))
        case c1 =>
          intro j u hj
          match j, hj with
          | 0, hj => simp at hj; subst hj; simp [Addr.add]
        case c2 => intro u hu; simp at hu; subst hu; rfl
        case c3 => unfold maxLen; omega
        case c4 => omega
        case c5 => have := hb1.size; simp; omega
        have hz1 := hb1.size
        intro v' w2 hown2 hgrow _
        have hB2 : Below (w.heap.size + 1) (w.alloc (.cells #[.int .u64 (wd f 0 : Int), .int .u64 (wd f 1 : Int), .int .u64 (wd f 2 : Int), .int .u64 (wd f 3 : Int)] 32)) w2 :=
          ((hB.trans (hb1.mono hz)).alloc (by omega) _).grown hgrow (by simp; omega) fun r hr => (hown1.lt r hr).1
        have hown3 : w2.ownsRow (w.heap.size + 1) 5 1 v' (bl f (k + 1)).length (u8s (bl f (k + 1))) := by
          rw [bl_hit f k Hf.out]
          simpa [u8s] using hown2
        clear hown2 hgrow hown hown1 hB hc hf hb1
        go_wp2
        go_roundw
        case rel => exact ⟨k + 1, by omega, by go_num, hown3, hB2⟩
        case measure => simp [intOf]; omega
    · obtain rfl : k = 256 := by omega
      clear hc hf
      go_wp2
      go_ret
      exact ⟨_, rfl, hown, ((Below.refl _ _).alloc (Nat.le_refl _) _).trans (hB.mono (by omega))⟩
end Go.Proofs.YtgjpmfdiidkdnaaDoor

namespace Go.Proofs.YtgjpmfdiidkdnaaDoor
open Go.RowKit

/-- Block b holds the set f. -/
def isSet (w : World) (b : Nat) (f : Nat → Bool) : Prop :=
  w.heap[b]? = some (.cells #[.int .u64 (wd f 0 : Int), .int .u64 (wd f 1 : Int), .int .u64 (wd f 2 : Int), .int .u64 (wd f 3 : Int)] 32 (0, 0))
theorem isSet.lt {w : World} {b : Nat} {f : Nat → Bool} (h : isSet w b f) : b < w.heap.size := lt_of_block h
theorem isSet.cells {w : World} {b : Nat} {f : Nat → Bool} (h : isSet w b f) :
    w.cell? ⟨b, 0, none⟩ = some (.int .u64 (wd f 0 : Int)) ∧ w.cell? ⟨b, 1, none⟩ = some (.int .u64 (wd f 1 : Int)) ∧ w.cell? ⟨b, 2, none⟩ = some (.int .u64 (wd f 2 : Int)) ∧ w.cell? ⟨b, 3, none⟩ = some (.int .u64 (wd f 3 : Int)) := by
  unfold isSet at h
  refine ⟨?_, ?_, ?_, ?_⟩ <;> simp [World.cell?, h]
theorem isSet.free {w : World} {b : Nat} {f : Nat → Bool} (h : isSet w b f) :
    w.frozen? ⟨b, 0, none⟩ = false ∧ w.frozen? ⟨b, 1, none⟩ = false ∧ w.frozen? ⟨b, 2, none⟩ = false ∧ w.frozen? ⟨b, 3, none⟩ = false := by
  unfold isSet at h
  refine ⟨?_, ?_, ?_, ?_⟩ <;> simp [World.frozen?, h]
theorem isSet.below {w w' : World} {b B : Nat} {f : Nat → Bool} (h : isSet w b f) (hB : Below B w w') (hb : b < B) : isSet w' b f := (hB.block b hb).trans h
theorem isSet.stored {w : World} {b : Nat} {f : Nat → Bool} (h : isSet w b f) (g : Nat → Bool) :
    isSet ((((w.setCell ⟨b, 0, none⟩ (.int .u64 (wd g 0 : Int))).setCell ⟨b, 1, none⟩ (.int .u64 (wd g 1 : Int))).setCell ⟨b, 2, none⟩ (.int .u64 (wd g 2 : Int))).setCell ⟨b, 3, none⟩ (.int .u64 (wd g 3 : Int))) b g := by
  have h1 := heap_setCell_same w b 0 _ _ (.int .u64 (wd g 0 : Int)) h
  have h2 := heap_setCell_same _ b 1 _ _ (.int .u64 (wd g 1 : Int)) h1
  have h3 := heap_setCell_same _ b 2 _ _ (.int .u64 (wd g 2 : Int)) h2
  have h4 := heap_setCell_same _ b 3 _ _ (.int .u64 (wd g 3 : Int)) h3
  unfold isSet
  rw [h4]
  simp
theorem isSet.other {w : World} {b : Nat} {f : Nat → Bool} (h : isSet w b f) {a : Addr} (ha : b ≠ a.block) (v : Value) : isSet (w.setCell a v) b f := (heap_setCell_other w a b v ha).trans h
theorem isSet.other4 {w : World} {b c : Nat} {f : Nat → Bool} (h : isSet w b f) (ha : b ≠ c) (v0 v1 v2 v3 : Value) :
    isSet ((((w.setCell ⟨c, 0, none⟩ v0).setCell ⟨c, 1, none⟩ v1).setCell ⟨c, 2, none⟩ v2).setCell ⟨c, 3, none⟩ v3) b f := (((h.other ha _).other ha _).other ha _).other ha _
theorem isSet.new (w : World) (f : Nat → Bool) : isSet (w.alloc (.cells #[.int .u64 (wd f 0 : Int), .int .u64 (wd f 1 : Int), .int .u64 (wd f 2 : Int), .int .u64 (wd f 3 : Int)] 32)) w.heap.size f := heap_alloc_new w _
theorem isSet.alloc {w : World} {b : Nat} {f : Nat → Bool} (h : isSet w b f) (o : Obj) : isSet (w.alloc o) b f := (Below.heap_alloc w o b h.lt).trans h
/-- The set without bytes. -/
theorem none_wd (i : Nat) : wd (fun _ => false) i = 0 := word_none _ _ fun _ _ => rfl
theorem isSet.newNone (w : World) : isSet (w.alloc (.cells #[.int .u64 0, .int .u64 0, .int .u64 0, .int .u64 0] 32)) w.heap.size (fun _ => false) := by
  have := isSet.new w (fun _ => false)
  rw [none_wd, none_wd, none_wd, none_wd] at this
  exact this
theorem below_set4 {B : Nat} {a w : World} {c : Nat} (h : Below B a w) (hc : B ≤ c) (v0 v1 v2 v3 : Value) :
    Below B a ((((w.setCell ⟨c, 0, none⟩ v0).setCell ⟨c, 1, none⟩ v1).setCell ⟨c, 2, none⟩ v2).setCell ⟨c, 3, none⟩ v3) := (((h.setCell hc _).setCell hc _).setCell hc _).setCell hc _
theorem isSet.congr {w : World} {b : Nat} {f g : Nat → Bool} (h : isSet w b f) (hfg : ∀ k, k < 256 → f k = g k) : isSet w b g := by
  unfold isSet at h ⊢
  rw [h, wd_congr fun j _ => hfg _ (by omega), wd_congr (i := 1) fun j _ => hfg _ (by omega), wd_congr (i := 2) fun j _ => hfg _ (by omega), wd_congr (i := 3) fun j _ => hfg _ (by omega)]
end Go.Proofs.YtgjpmfdiidkdnaaDoor

namespace Go.Proofs.YtgjpmfdiidkdnaaDoor
open Go.RowKit

/-- The only byte of a set; -1: it has not just one, or it is a name's. -/
def oneF (f : Nat → Bool) (nm : Bool) : Int := if nm = true then -1 else if (bl f 256).length = 1 then ((bl f 256).headD 0 : Nat) else -1
/-- An item as a value. -/
@[reducible] def itv (f : Nat → Bool) (n : Nat) (ok nm : Bool) : Value := .agg #[.int .u64 (wd f 0 : Int), .int .u64 (wd f 1 : Int), .int .u64 (wd f 2 : Int), .int .u64 (wd f 3 : Int), .int .i64 (n : Int), .bool ok, .bool nm]

end Go.Proofs.YtgjpmfdiidkdnaaDoor

namespace Go.Proofs.YtgjpmfdiidkdnaaDoor
open Go.RowKit

/-- What a digit of sixteen is worth; -1: it is none. -/
def dig16 (c : Nat) : Int := if 48 ≤ c ∧ c ≤ 57 then (c : Int) - 48 else if 97 ≤ c ∧ c ≤ 102 then (c : Int) - 87 else if 65 ≤ c ∧ c ≤ 70 then (c : Int) - 55 else -1
def dig16Post (c : Nat) (w : World) (e : Ending) (w' : World) : Prop := e = .returned (.int .i64 (dig16 c)) ∧ w = w'
theorem dig16Post.mk {c : Nat} {w : World} {x : Int} (h : x = dig16 c) : dig16Post c w (.returned (.int .i64 x)) w := ⟨by rw [h], rfl⟩
end Go.Proofs.YtgjpmfdiidkdnaaDoor

namespace Go.Proofs.YtgjpmfdiidkdnaaDoor
open Go.RowKit

/-- The byte at a place; 256: none is there. -/
def gb (p : ByteArray) (i : Nat) : Nat := if h : i < p.size then (p[i]'h).toNat else 256
theorem gb_in {p : ByteArray} {i : Nat} (h : i < p.size) : (p[i]'h).toNat = gb p i := by unfold gb; rw [dif_pos h]
theorem gb_lt {p : ByteArray} {i : Nat} (h : i < p.size) : gb p i < 256 := by rw [← gb_in h]; exact UInt8.toNat_lt _
theorem gb_out {p : ByteArray} {i : Nat} (h : p.size ≤ i) : gb p i = 256 := by unfold gb; rw [dif_neg (by omega)]
def isD (p : ByteArray) (j : Nat) : Bool := decide (48 ≤ gb p j) && decide (gb p j ≤ 57)
theorem isD_true {p : ByteArray} {j : Nat} (h : isD p j = true) : ∃ a d, Hid (gb p j = d + 48) ∧ Hid (a = d + 48) ∧ d ≤ 9 ∧ ∃ hj : j < p.size, (p[j]'hj).toNat = a := by
  have h' : 48 ≤ gb p j ∧ gb p j ≤ 57 := by simpa [isD] using h
  have hj : j < p.size := by
    rcases Nat.lt_or_ge j p.size with h1 | h1
    · exact h1
    · have := gb_out h1; omega
  exact ⟨gb p j, gb p j - 48, Lib.hid (by omega), Lib.hid (by omega), by omega, hj, gb_in hj⟩
theorem isD_false {p : ByteArray} {j : Nat} (h : isD p j = false) : p.size ≤ j ∨ (∃ a, a < 48 ∧ ∃ hj : j < p.size, (p[j]'hj).toNat = a) ∨ ∃ a, 57 < a ∧ a < 256 ∧ ∃ hj : j < p.size, (p[j]'hj).toNat = a := by
  have h' : 48 ≤ gb p j → 57 < gb p j := by simpa [isD] using h
  rcases Nat.lt_or_ge j p.size with hj | hj
  · rcases Nat.lt_or_ge (gb p j) 48 with h1 | h1
    · exact .inr (.inl ⟨gb p j, h1, hj, gb_in hj⟩)
    · exact .inr (.inr ⟨gb p j, h' h1, gb_lt hj, hj, gb_in hj⟩)
  · exact .inl hj

/-- What a digit is worth. -/
def dv (p : ByteArray) (k : Nat) : Nat := gb p k - 48
/-- A number of one or two digits, 0 to 32, without a nought ahead of another digit, and where it ends; -1: there is none. -/
def numF (p : ByteArray) (k : Nat) : Int :=
  if isD p k = true then
    if isD p (k + 1) = true then
      if isD p (k + 2) = true then -1
      else if dv p k = 0 ∨ 32 < dv p k * 10 + dv p (k + 1) then -1 else ((dv p k * 10 + dv p (k + 1) : Nat) : Int)
    else (dv p k : Nat)
  else -1
def numN (p : ByteArray) (k : Nat) : Nat :=
  if isD p k = true then if isD p (k + 1) = true then if isD p (k + 2) = true then k + 3 else k + 2 else k + 1 else k
def numPost (p : ByteArray) (k : Nat) (w : World) (e : Ending) (w' : World) : Prop := e = .returned (.tuple #[.int .i64 (numF p k), .int .i64 (numN p k : Nat)]) ∧ w = w'
theorem numPost.mk {p : ByteArray} {k : Nat} {w : World} {x y : Int} (h1 : x = numF p k) (h2 : y = (numN p k : Nat)) : numPost p k w (.returned (.tuple #[.int .i64 x, .int .i64 y])) w := ⟨by rw [h1, h2], rfl⟩
end Go.Proofs.YtgjpmfdiidkdnaaDoor
