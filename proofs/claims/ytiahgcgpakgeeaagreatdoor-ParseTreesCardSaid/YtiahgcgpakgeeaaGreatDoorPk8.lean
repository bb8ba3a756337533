/-
  Slices of bytes that read as lists of numbers; the bytes of a set as a list.
  The row of the type of a byte; what a list of bytes grows in.
  The walk of the reference's Has.
  The walk of the reference's Bytes.
  A block of memory that holds a set.
  The walk of the third reference's one.
  The walk of the third reference's digit.
-/
import Derived.Test.YtiahgcgpakgeeaaGreatDoorPk1
namespace Go.Proofs.YtiahgcgpakgeeaaGreatDoor
open Go.RowKit

/-- A slice of bytes that reads as a list of numbers. -/
def rd8 (w : World) (v : Value) (l : List Nat) : Prop :=
  (v = .slice none 0 0 ∧ l = []) ∨ ∃ b off cap, v = .slice (some ⟨b, off, none⟩) l.length cap ∧ b < w.heap.size ∧ ∀ j (h : j < l.length), w.cell? ⟨b, off + j, none⟩ = some (.int .u8 (l[j] : Nat))

/-- Is a number in a list? -/
def inl (l : List Nat) (x : Nat) : Bool := decide (x ∈ l)
theorem inl_take (l : List Nat) (k : Nat) (h : k < l.length) (x : Nat) : inl (l.take (k + 1)) x = (inl (l.take k) x || decide (x = l[k])) := by
  unfold inl
  rw [List.take_succ_eq_append_getElem h, Bool.eq_iff_iff]
  simp only [decide_eq_true_eq, List.mem_append, List.mem_singleton, Bool.or_eq_true]

theorem of_word_hit (l : List Nat) (k i : Nat) (h : k < l.length) (hi : l[k] / 64 = i) :
    bits .or .u64 (wd (inl (l.take k)) i : Int) (IntKind.u64.wrap (2 ^ (l[k] % 64))) = (wd (inl (l.take (k + 1))) i : Nat) := by
  rw [word_put _ _ _ (Nat.mod_lt _ (by decide)), show 64 * i + l[k] % 64 = l[k] from by omega]
  congr 2
  funext x
  rw [inl_take l k h x]
theorem of_word_miss (l : List Nat) (k i : Nat) (h : k < l.length) (hi : l[k] / 64 ≠ i) : wd (inl (l.take k)) i = wd (inl (l.take (k + 1))) i := by
  have : inl (l.take (k + 1)) = fun x => inl (l.take k) x || decide (x = l[k]) := funext fun x => inl_take l k h x
  rw [this, word_put_other _ _ _ hi]

/-- The numbers below n that are in a set, rising. -/
def bl (f : Nat → Bool) (n : Nat) : List Nat := (List.range n).filter f
theorem bl_hit (f : Nat → Bool) (n : Nat) (h : f n = true) : bl f (n + 1) = bl f n ++ [n] := by
  unfold bl; rw [List.range_succ, List.filter_append]; simp [h]
theorem bl_miss (f : Nat → Bool) (n : Nat) (h : f n = false) : bl f (n + 1) = bl f n := by
  unfold bl; rw [List.range_succ, List.filter_append]; simp [h]
theorem bl_le (f : Nat → Bool) (n : Nat) : (bl f n).length ≤ n := by
  have := List.length_filter_le f (List.range n)
  rw [List.length_range] at this
  exact this
/-- Values of numbers. -/
def u8s (l : List Nat) : List Value := l.map fun (x : Nat) => .int .u8 (x : Int)

theorem rd8_of_owns {w : World} {base : Nat} {e : TypeId} {v : Value} {l : List Nat} (h : w.ownsRow base e 1 v l.length (u8s l)) : rd8 w v l := by
  have hlt := h.lt
  rcases h.2 with ⟨rfl, h0⟩ | ⟨g, cap, cur, rfl, _, _, _, _, _, _⟩
  · exact .inl ⟨rfl, List.length_eq_zero_iff.1 h0⟩
  · refine .inr ⟨g, 0, cap, rfl, (hlt g rfl).2, fun j hj => ?_⟩
    have := h.cells (g := g) rfl j (.int .u8 (l[j] : Nat)) (by simp [u8s, List.getElem?_map, List.getElem?_eq_getElem hj])
    rw [Nat.zero_add]
    by_cases h0 : j = 0
    · subst h0; simpa [Addr.add] using this
    · simpa [Addr.add, h0] using this
theorem rd8_below {w w' : World} {v : Value} {l : List Nat} (h : rd8 w v l) (hb : Below w.heap.size w w') : rd8 w' v l := by
  rcases h with h | ⟨b, off, cap, rfl, hl, hc⟩
  · exact .inl h
  · refine .inr ⟨b, off, cap, rfl, Nat.lt_of_lt_of_le hl hb.size, fun j hj => ?_⟩
    rw [hb.cell (p := ⟨b, off + j, none⟩) hl]; exact hc j hj
theorem bl_bytes (f : Nat → Bool) (n : Nat) : ∀ x, x ∈ bl f n → x < n := by
  intro x hx
  unfold bl at hx
  rw [List.mem_filter, List.mem_range] at hx
  exact hx.1
end Go.Proofs.YtiahgcgpakgeeaaGreatDoor

namespace Go.Proofs.YtiahgcgpakgeeaaGreatDoor
open Go.RowKit

theorem Tryz.info8 : (Tryz.prog.info? 5).map (fun i => (i.zero, i.size, i.bytes)) = some (some (.int .u8 0), 1, 1) := by kernel_rfl

/-- The world within Bytes, k numbers on. -/
def bytesR (f : Nat → Bool) (w : World) (k : Nat) (v : Value) (wr : World) : Prop :=
  wr.ownsRow (w.heap.size + 1) 5 1 v (bl f k).length (u8s (bl f k)) ∧
  Below (w.heap.size + 1) (w.alloc (.cells #[.int .u64 (wd f 0 : Int), .int .u64 (wd f 1 : Int), .int .u64 (wd f 2 : Int), .int .u64 (wd f 3 : Int)] 36)) wr
end Go.Proofs.YtiahgcgpakgeeaaGreatDoor

namespace Go.Proofs.YtiahgcgpakgeeaaGreatDoor
open Go.RowKit

set_option maxHeartbeats 1000000 in
theorem rhas_any (f : Nat → Bool) (b : Int) (h0 : 0 ≤ b) (hn : b < 256) (w : World) :
    Calls Tryz.prog 55 #[sv f, .int .i64 b] w fun e w' => e = .returned (.bool (f b.toNat)) ∧ Below w.heap.size w w' := by
  obtain ⟨m, rfl⟩ := Int.eq_ofNat_of_zero_le h0
  rw [Int.toNat_natCast]
  have W := word_has f
  have q : m / 64 = 0 ∨ m / 64 = 1 ∨ m / 64 = 2 ∨ m / 64 = 3 := by omega
  have key : ∀ i, m / 64 = i → Hid ((bits .and .u64 ((wd f i : Int) / 2 ^ (m % 64)) 1 == 1) = f m) := fun i hi => by
    have := W i (m % 64) (by omega)
    rw [show 64 * i + m % 64 = m from by omega] at this
    exact this
  clear W
  unfold sv
  rcases q with q | q | q | q
  · have key' := key _ q
    clear key
    have q' : (m : Int) / 64 = 0 := by omega
    clear q
    go_enter Tryz.func55, Tryz.ntmps55
    go_wp2
    go_ret
    exact ⟨by rw [← key'.out] <;> rfl, by go_grown⟩
  · have key' := key _ q
    clear key
    have q' : (m : Int) / 64 = 1 := by omega
    clear q
    go_enter Tryz.func55, Tryz.ntmps55
    go_wp2
    go_ret
    exact ⟨by rw [← key'.out] <;> rfl, by go_grown⟩
  · have key' := key _ q
    clear key
    have q' : (m : Int) / 64 = 2 := by omega
    clear q
    go_enter Tryz.func55, Tryz.ntmps55
    go_wp2
    go_ret
    exact ⟨by rw [← key'.out] <;> rfl, by go_grown⟩
  · have key' := key _ q
    clear key
    have q' : (m : Int) / 64 = 3 := by omega
    clear q
    go_enter Tryz.func55, Tryz.ntmps55
    go_wp2
    go_ret
    exact ⟨by rw [← key'.out] <;> rfl, by go_grown⟩

theorem rhas_lit (f : Nat → Bool) (b : Nat) (hn : b < 256) (w : World) : Calls Tryz.prog 55 #[svr f, .int .i64 (b : Int)] w fun e w' => e = .returned (.bool (f b)) ∧ Below w.heap.size w w' := rhas_any f b (by omega) (by omega) w
end Go.Proofs.YtiahgcgpakgeeaaGreatDoor

namespace Go.Proofs.YtiahgcgpakgeeaaGreatDoor
open Go.RowKit

set_option maxRecDepth 100000 in
set_option maxHeartbeats 2000000 in
theorem rbytes_any (f : Nat → Bool) (w : World) :
    Calls Tryz.prog 54 #[sv f] w fun e w' => ∃ v, e = .returned v ∧ w'.ownsRow (w.heap.size + 1) 5 1 v (bl f 256).length (u8s (bl f 256)) ∧ Below w.heap.size w w' := by
  obtain ⟨i0, hi, hz0, hz1, hz2⟩ := info_parts Tryz.info8
  unfold sv
  go_enter Tryz.func54, Tryz.ntmps54
  go_wp2
  go_loopw [3, 4] (fun v i wr => ∃ k : Nat, k ≤ 256 ∧ i = .int .i64 k ∧ bytesR f w k v wr) (fun _ i _ => 256 - (intOf i).toNat)
  case atStart => exact ⟨0, Nat.zero_le _, rfl, World.ownsRow_nil _ _ _ _, Below.refl _ _⟩
  case round =>
    obtain ⟨k, hk, rfl, hown, hB⟩ := hrel
    obtain ⟨hc, hf⟩ := w2of hB
    have hz := hB.size
    simp only [World.size_alloc] at hz
    have hle := bl_le f k
    by_cases hlt : k < 256
    · cases hfk : f k
      · have Hf := Lib.hid hfk
        clear hfk
        go_wp2_with (go_at_call 55; refine (rhas_any f k (by omega) (by omega) _).mono ?_; rw [Int.toNat_natCast]; rintro e w1 ⟨rfl, hb1⟩; rw [Hf.out])
        go_roundw
        case rel => exact ⟨k + 1, by omega, by go_num, by rw [bl_miss f k Hf.out]; exact owns_below hown hb1, hB.trans (hb1.mono hz)⟩
        case measure => simp [intOf]; omega
      · have Hf := Lib.hid hfk
        clear hfk
        go_wp2_with (first | (go_at_call 55; refine (rhas_any f k (by omega) (by omega) _).mono ?_; rw [Int.toNat_natCast]; rintro e w1 ⟨rfl, hb1⟩; rw [Hf.out]; have hown1 := owns_below hown hb1) | (at_builtin; refine wpList_append_own _ rfl _ _ 91 rfl (w.heap.size + 1) 5 i0 (.int .u8 0) 1 1 Tryz.underlying91 hi hz0 hz1 hz2 rfl (by decide) _ _ _ rfl (hown1.alloc _) ⟨w1.heap.size, 0, none⟩ 1 1 [.int .u8 (k : Int)] rfl rfl ?c1 ?c2 ?c3 ?c4 ?c5 ?_))
        case c1 =>
          intro j u hj
          match j, hj with
          | 0, hj => simp at hj; subst hj; simp [Addr.add]
        case c2 => intro u hu; simp at hu; subst hu; rfl
        case c3 => unfold maxLen; omega
        case c4 => omega
        case c5 => have := hb1.size; simp; omega
        have hz1 := hb1.size
        intro v' w2 hown2 hgrow _
        have hB2 : Below (w.heap.size + 1) (w.alloc (.cells #[.int .u64 (wd f 0 : Int), .int .u64 (wd f 1 : Int), .int .u64 (wd f 2 : Int), .int .u64 (wd f 3 : Int)] 36)) w2 :=
          ((hB.trans (hb1.mono hz)).alloc (by omega) _).grown hgrow (by simp; omega) fun r hr => (hown1.lt r hr).1
        have hown3 : w2.ownsRow (w.heap.size + 1) 5 1 v' (bl f (k + 1)).length (u8s (bl f (k + 1))) := by
          rw [bl_hit f k Hf.out]
          simpa [u8s] using hown2
        clear hown2 hgrow hown hown1 hB hc hf hb1
        go_wp2
        go_roundw
        case rel => exact ⟨k + 1, by omega, by go_num, hown3, hB2⟩
        case measure => simp [intOf]; omega
    · obtain rfl : k = 256 := by omega
      clear hc hf
      go_wp2
      go_ret
      exact ⟨_, rfl, hown, ((Below.refl _ _).alloc (Nat.le_refl _) _).trans (hB.mono (by omega))⟩
end Go.Proofs.YtiahgcgpakgeeaaGreatDoor

namespace Go.Proofs.YtiahgcgpakgeeaaGreatDoor
open Go.RowKit

/-- Block b holds the set f. -/
def isSet (w : World) (b : Nat) (f : Nat → Bool) : Prop :=
  w.heap[b]? = some (.cells #[.int .u64 (wd f 0 : Int), .int .u64 (wd f 1 : Int), .int .u64 (wd f 2 : Int), .int .u64 (wd f 3 : Int)] 36 (0, 0))
theorem isSet.lt {w : World} {b : Nat} {f : Nat → Bool} (h : isSet w b f) : b < w.heap.size := lt_of_block h
theorem isSet.cells {w : World} {b : Nat} {f : Nat → Bool} (h : isSet w b f) :
    w.cell? ⟨b, 0, none⟩ = some (.int .u64 (wd f 0 : Int)) ∧ w.cell? ⟨b, 1, none⟩ = some (.int .u64 (wd f 1 : Int)) ∧ w.cell? ⟨b, 2, none⟩ = some (.int .u64 (wd f 2 : Int)) ∧ w.cell? ⟨b, 3, none⟩ = some (.int .u64 (wd f 3 : Int)) := by
  unfold isSet at h
  refine ⟨?_, ?_, ?_, ?_⟩ <;> simp [World.cell?, h]
theorem isSet.free {w : World} {b : Nat} {f : Nat → Bool} (h : isSet w b f) :
    w.frozen? ⟨b, 0, none⟩ = false ∧ w.frozen? ⟨b, 1, none⟩ = false ∧ w.frozen? ⟨b, 2, none⟩ = false ∧ w.frozen? ⟨b, 3, none⟩ = false := by
  unfold isSet at h
  refine ⟨?_, ?_, ?_, ?_⟩ <;> simp [World.frozen?, h]
theorem isSet.below {w w' : World} {b B : Nat} {f : Nat → Bool} (h : isSet w b f) (hB : Below B w w') (hb : b < B) : isSet w' b f := (hB.block b hb).trans h
theorem isSet.stored {w : World} {b : Nat} {f : Nat → Bool} (h : isSet w b f) (g : Nat → Bool) :
    isSet ((((w.setCell ⟨b, 0, none⟩ (.int .u64 (wd g 0 : Int))).setCell ⟨b, 1, none⟩ (.int .u64 (wd g 1 : Int))).setCell ⟨b, 2, none⟩ (.int .u64 (wd g 2 : Int))).setCell ⟨b, 3, none⟩ (.int .u64 (wd g 3 : Int))) b g := by
  have h1 := heap_setCell_same w b 0 _ _ (.int .u64 (wd g 0 : Int)) h
  have h2 := heap_setCell_same _ b 1 _ _ (.int .u64 (wd g 1 : Int)) h1
  have h3 := heap_setCell_same _ b 2 _ _ (.int .u64 (wd g 2 : Int)) h2
  have h4 := heap_setCell_same _ b 3 _ _ (.int .u64 (wd g 3 : Int)) h3
  unfold isSet
  rw [h4]
  simp
theorem isSet.other {w : World} {b : Nat} {f : Nat → Bool} (h : isSet w b f) {a : Addr} (ha : b ≠ a.block) (v : Value) : isSet (w.setCell a v) b f := (heap_setCell_other w a b v ha).trans h
theorem isSet.other4 {w : World} {b c : Nat} {f : Nat → Bool} (h : isSet w b f) (ha : b ≠ c) (v0 v1 v2 v3 : Value) :
    isSet ((((w.setCell ⟨c, 0, none⟩ v0).setCell ⟨c, 1, none⟩ v1).setCell ⟨c, 2, none⟩ v2).setCell ⟨c, 3, none⟩ v3) b f := (((h.other ha _).other ha _).other ha _).other ha _
theorem isSet.new (w : World) (f : Nat → Bool) : isSet (w.alloc (.cells #[.int .u64 (wd f 0 : Int), .int .u64 (wd f 1 : Int), .int .u64 (wd f 2 : Int), .int .u64 (wd f 3 : Int)] 36)) w.heap.size f := heap_alloc_new w _
theorem isSet.alloc {w : World} {b : Nat} {f : Nat → Bool} (h : isSet w b f) (o : Obj) : isSet (w.alloc o) b f := (Below.heap_alloc w o b h.lt).trans h
/-- The set without bytes. -/
theorem none_wd (i : Nat) : wd (fun _ => false) i = 0 := word_none _ _ fun _ _ => rfl
theorem isSet.newNone (w : World) : isSet (w.alloc (.cells #[.int .u64 0, .int .u64 0, .int .u64 0, .int .u64 0] 36)) w.heap.size (fun _ => false) := by
  have := isSet.new w (fun _ => false)
  rw [none_wd, none_wd, none_wd, none_wd] at this
  exact this
theorem below_set4 {B : Nat} {a w : World} {c : Nat} (h : Below B a w) (hc : B ≤ c) (v0 v1 v2 v3 : Value) :
    Below B a ((((w.setCell ⟨c, 0, none⟩ v0).setCell ⟨c, 1, none⟩ v1).setCell ⟨c, 2, none⟩ v2).setCell ⟨c, 3, none⟩ v3) := (((h.setCell hc _).setCell hc _).setCell hc _).setCell hc _
theorem isSet.congr {w : World} {b : Nat} {f g : Nat → Bool} (h : isSet w b f) (hfg : ∀ k, k < 256 → f k = g k) : isSet w b g := by
  unfold isSet at h ⊢
  rw [h, wd_congr fun j _ => hfg _ (by omega), wd_congr (i := 1) fun j _ => hfg _ (by omega), wd_congr (i := 2) fun j _ => hfg _ (by omega), wd_congr (i := 3) fun j _ => hfg _ (by omega)]
end Go.Proofs.YtiahgcgpakgeeaaGreatDoor

namespace Go.Proofs.YtiahgcgpakgeeaaGreatDoor
open Go.RowKit

/-- The only byte of a set; -1: it has not just one, or it is a name's. -/
def oneF (f : Nat → Bool) (nm : Bool) : Int := if nm = true then -1 else if (bl f 256).length = 1 then ((bl f 256).headD 0 : Nat) else -1
/-- An item as a value. -/
@[reducible] def itv (f : Nat → Bool) (n : Nat) (ok nm : Bool) : Value := .agg #[.int .u64 (wd f 0 : Int), .int .u64 (wd f 1 : Int), .int .u64 (wd f 2 : Int), .int .u64 (wd f 3 : Int), .int .i64 (n : Int), .bool ok, .bool nm]

set_option maxRecDepth 100000 in
set_option maxHeartbeats 2000000 in
theorem one_any (f : Nat → Bool) (n : Nat) (ok nm : Bool) (w : World) :
    Calls Tryz.prog 39 #[itv f n ok nm] w fun e w' => e = .returned (.int .i64 (oneF f nm)) ∧ Below w.heap.size w w' := by
  have c6 : (w.alloc (.cells #[.int .u64 (wd f 0 : Int), .int .u64 (wd f 1 : Int), .int .u64 (wd f 2 : Int), .int .u64 (wd f 3 : Int), .int .i64 (n : Int), .bool ok, .bool nm] 61)).cell? ⟨w.heap.size, 6, none⟩ = some (.bool nm) := by simp [go_sem]
  have hW : Below w.heap.size w (w.alloc (.cells #[.int .u64 (wd f 0 : Int), .int .u64 (wd f 1 : Int), .int .u64 (wd f 2 : Int), .int .u64 (wd f 3 : Int), .int .i64 (n : Int), .bool ok, .bool nm] 61)) := (Below.refl _ _).alloc (Nat.le_refl _) _
  have C6 := Lib.hid c6; have HW := Lib.hid hW
  clear c6 hW
  obtain ⟨l, hl⟩ : ∃ l, bl f 256 = l := ⟨_, rfl⟩
  have hsm := bl_bytes f 256
  rw [hl] at hsm
  have HL := Lib.hid hl
  clear hl
  cases nm
  · by_cases h1 : l.length = 1
    · obtain ⟨x, rfl⟩ := List.length_eq_one_iff.1 h1
      clear h1
      have hx : x < 256 := hsm x (by simp)
      have HF : Hid (oneF f false = (x : Int)) := Lib.hid (by unfold oneF; rw [HL.out]; rfl)
      have hwr : IntKind.i64.wrap (x : Int) = (x : Int) := by rw [IntKind.wrap_i64]; omega
      clear hsm
      go_enter Tryz.func39, Tryz.ntmps39
      go_wp2_with fail
      refine (rbytes_any f _).mono ?_
      rintro e w1 ⟨v, rfl, hown, hb⟩
      have hr := rd8_of_owns hown
      rw [HL.out] at hr
      have c6 := (hb.cell (p := ⟨w.heap.size, 6, none⟩) (by simp)).trans C6.out
      have hB := Lib.hid (HW.out.trans (hb.mono HW.out.size))
      clear hown hb
      rcases hr with ⟨_, h0⟩ | ⟨b, off, cap, rfl, hbl, hc⟩
      · cases h0
      · have q0 : w1.cell? ⟨b, off, none⟩ = some (.int .u8 (x : Int)) := hc 0 (by simp)
        clear hc
        go_wp2
        go_ret
        exact ⟨by rw [HF.out]; rfl, hB.out⟩
    · have HF : Hid (oneF f false = -1) := Lib.hid (by unfold oneF; rw [HL.out, if_neg (by decide), if_neg h1])
      have t1 : ((l.length : Int) != 1) = true := by simp; omega
      have t2 : (l.length != 1) = true := by simp; omega
      clear hsm
      go_enter Tryz.func39, Tryz.ntmps39
      go_wp2_with fail
      refine (rbytes_any f _).mono ?_
      rintro e w1 ⟨v, rfl, hown, hb⟩
      have hr := rd8_of_owns hown
      rw [HL.out] at hr
      have c6 := (hb.cell (p := ⟨w.heap.size, 6, none⟩) (by simp)).trans C6.out
      have hB := Lib.hid (HW.out.trans (hb.mono HW.out.size))
      clear hown hb
      have hv : ∃ a c, v = .slice a l.length c := by
        rcases hr with ⟨g1, g2⟩ | ⟨b, off, cap, g1, _⟩
        · exact ⟨none, 0, by rw [g1, g2]; rfl⟩
        · exact ⟨_, _, g1⟩
      obtain ⟨a, c, rfl⟩ := hv
      clear hr h1
      go_wp2
      all_goals go_ret
      all_goals exact ⟨by rw [HF.out]; rfl, hB.out⟩
  · have HF : Hid (oneF f true = -1) := Lib.hid (by unfold oneF; rw [if_pos rfl])
    clear hsm
    go_enter Tryz.func39, Tryz.ntmps39
    go_wp2_with fail
    refine (rbytes_any f _).mono ?_
    rintro e w1 ⟨v, rfl, hown, hb⟩
    have c6 := (hb.cell (p := ⟨w.heap.size, 6, none⟩) (by simp)).trans C6.out
    have hB := Lib.hid (HW.out.trans (hb.mono HW.out.size))
    clear hown hb
    go_wp2
    go_ret
    exact ⟨by rw [HF.out]; rfl, hB.out⟩
end Go.Proofs.YtiahgcgpakgeeaaGreatDoor

namespace Go.Proofs.YtiahgcgpakgeeaaGreatDoor
open Go.RowKit

/-- What a digit of sixteen is worth; -1: it is none. -/
def dig16 (c : Nat) : Int := if 48 ≤ c ∧ c ≤ 57 then (c : Int) - 48 else if 97 ≤ c ∧ c ≤ 102 then (c : Int) - 87 else if 65 ≤ c ∧ c ≤ 70 then (c : Int) - 55 else -1
def dig16Post (c : Nat) (w : World) (e : Ending) (w' : World) : Prop := e = .returned (.int .i64 (dig16 c)) ∧ w = w'
theorem dig16Post.mk {c : Nat} {w : World} {x : Int} (h : x = dig16 c) : dig16Post c w (.returned (.int .i64 x)) w := ⟨by rw [h], rfl⟩
set_option maxHeartbeats 1000000 in
theorem dig16_any (c : Nat) (hc : c < 256) (w : World) : Calls Tryz.prog 42 #[.int .u8 (c : Int)] w (dig16Post c w) := by
  have h0 : (0 : Int) ≤ (c : Int) := by omega
  have h1 : (c : Int) ≤ 255 := by omega
  go_enter Tryz.func42, Tryz.ntmps42
  go_wp2
  all_goals go_ret
  all_goals refine dig16Post.mk ?_
  all_goals (unfold dig16; (repeat' split) <;> omega)
end Go.Proofs.YtiahgcgpakgeeaaGreatDoor
