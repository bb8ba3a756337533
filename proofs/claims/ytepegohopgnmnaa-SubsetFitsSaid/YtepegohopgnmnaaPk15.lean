/-
  What is met, and the list of it, in memory; the walk of the closure that puts.
  Rows of numbers that a call owns, as functions; the walks of the tenth reference's Same and Number.
  Rows of sets that a call makes, in memory; the walk of the eleventh reference's find.
  Sets of states as keys of a map: ten words of 64 bits; a map that has the number of each set that was met.
  The walk of keyOf: a list of places as ten words.
  Sets that are put to a slice of sets; numbers that are put to a list beside it.
-/
import Derived.Test.YtepegohopgnmnaaPk14
import Derived.OneCell
import Derived.Test.YtepegohopgnmnaaPk4
import Derived.Test.YtepegohopgnmnaaPk6
import Derived.BigQuiet
import Derived.Deep.QuietTactic
import Derived.Test.YtepegohopgnmnaaPk1
import Derived.Maps.OwnSet
import Derived.DeepKeys4
import Derived.Test.YtepegohopgnmnaaPk13
import Derived.Deep.RegionHeldLaw
import Derived.Test.YtepegohopgnmnaaPk8
namespace Go.Proofs.Ytepegohopgnmnaa
open Go.RowKit

theorem infoInt9w : (Try.prog.info? 3).map (fun i => (i.zero, i.size, i.bytes)) = some (some (.int .i64 0), 1, 8) := by kernel_rfl
theorem spl9_len (l : List Nat) : (spl9 l).length = l.length := by simp [spl9]
theorem spl9_append (l r : List Nat) : spl9 (l ++ r) = spl9 l ++ spl9 r := by simp [spl9]
theorem spl9_cell (l : List Nat) : ∀ u ∈ spl9 l, u.oneCell' = true := by
  intro u hu
  unfold spl9 at hu
  obtain ⟨x, _, rfl⟩ := List.mem_map.1 hu
  rfl
/-- A block of one cell. -/
def one9 (t : TypeId) (w : World) (b : Nat) (v : Value) : Prop := w.heap[b]? = some (.cells #[v] t (0, 0))
theorem one9.lt {t : TypeId} {w : World} {b : Nat} {v : Value} (h : one9 t w b v) : b < w.heap.size := lt_of_block h
theorem one9.cell {t : TypeId} {w : World} {b : Nat} {v : Value} (h : one9 t w b v) : w.cell? ⟨b, 0, none⟩ = some v := by
  unfold one9 at h
  simp [World.cell?, h]
theorem one9.free {t : TypeId} {w : World} {b : Nat} {v : Value} (h : one9 t w b v) : w.frozen? ⟨b, 0, none⟩ = false := by
  unfold one9 at h
  simp [World.frozen?, h]
theorem one9.stored {t : TypeId} {w : World} {b : Nat} {v : Value} (h : one9 t w b v) (u : Value) : one9 t (w.setCell ⟨b, 0, none⟩ u) b u := by
  have h1 := heap_setCell_same w b 0 _ _ u h
  unfold one9
  rw [h1]
  simp
theorem one9.grown {t : TypeId} {w w' : World} {b : Nat} {r : Option Nat} {v : Value} (h : one9 t w b v) (hg : w.grownBy w' r) (hb : some b ≠ r) : one9 t w' b v :=
  (hg.block b h.lt hb).trans h
theorem one9.below {t : TypeId} {w w' : World} {b B : Nat} {v : Value} (h : one9 t w b v) (hB : Below B w w') (hb : b < B) : one9 t w' b v := (hB.block b hb).trans h

/-- Block g has what is met of m states, block h names it, block h + 1 the list of it. -/
def clW (w : World) (g h m : Nat) (A : List Nat) : Prop :=
  g < h ∧ one9 28 w (h) (.slice (some ⟨g, 0, none⟩) m m) ∧ (∃ p c, one9 27 w (h + 1) (.slice p A.length c) ∧ spO w (h + 2) (.slice p A.length c) A) ∧ blR w g g m m (memW A)
theorem clW.below {w w' : World} {g h m : Nat} {A : List Nat} (hc : clW w g h m A) (hb : Below w.heap.size w w') : clW w' g h m A := by
  obtain ⟨h0, h1, ⟨p, c, h2, h3⟩, h4⟩ := hc
  exact ⟨h0, h1.below hb h1.lt, ⟨p, c, h2.below hb h2.lt, owns_below h3 hb⟩, h4.below hb⟩
theorem spO_of {w : World} {base : Nat} {v : Value} {A : List Nat} (h : spO w base v A) : ∃ p c, v = .slice p A.length c := by
  rcases id h.2 with ⟨rfl, h0⟩ | ⟨g, cap, cur, rfl, _⟩
  · exact ⟨none, 0, by rw [h0]⟩
  · exact ⟨_, cap, rfl⟩
/-- Blocks below g are kept, and all those that hold states. -/
def kpW (g : Nat) (w w' : World) : Prop := Below g w w' ∧ ∀ (k : Nat) (c : Array Value) (fr : Nat × Nat), w.heap[k]? = some (.cells c 64 fr) → w'.heap[k]? = some (.cells c 64 fr)
theorem kpW.refl (g : Nat) (w : World) : kpW g w w := ⟨Below.refl _ _, fun _ _ _ h => h⟩
theorem kpW.trans {g : Nat} {w w1 w2 : World} (h1 : kpW g w w1) (h2 : kpW g w1 w2) : kpW g w w2 := ⟨h1.1.trans h2.1, fun k c fr h => h2.2 k c fr (h1.2 k c fr h)⟩
theorem kpW.of_below {g : Nat} {w w' : World} (hB : g ≤ w.heap.size) (h : Below w.heap.size w w') : kpW g w w' := ⟨h.mono hB, fun k c fr hk => by rw [h.block k (lt_of_block hk)]; exact hk⟩
theorem kpW.of_grown {g k : Nat} {w w' : World} {t : TypeId} {c : Array Value} {fr : Nat × Nat} (hk : w.heap[k]? = some (.cells c t fr)) (ht : t ≠ 64) (hg : g ≤ k) (h : w.grownBy w' (some k)) : kpW g w w' := by
  refine ⟨⟨h.os, h.tape, h.output, h.size, fun x hx => h.block x (by have := lt_of_block hk; omega) (fun e => by have : x = k := by simpa using e
                                                                                                                 omega)⟩, fun x c' fr' hx => ?_⟩
  rw [h.block x (lt_of_block hx) fun e => ?_]
  · exact hx
  · have : x = k := by simpa using e
    subst this
    rw [hk] at hx
    simp at hx
    exact ht hx.2.1
theorem kpW.of_row {g h : Nat} {w w' : World} {v : Value} {l : List Nat} (hgh : g < h) (hw : h + 2 ≤ w.heap.size) (ho : spO w (h + 2) v l) (h : w.grownBy w' v.ownBlock) : kpW g w w' := by
  rcases id ho.2 with ⟨rfl, _⟩ | ⟨k, cp, cur, rfl, hk, p1, _⟩
  · refine kpW.of_below (by omega) ⟨h.os, h.tape, h.output, h.size, fun x hx => h.block x hx (by simp [Value.ownBlock])⟩
  · exact kpW.of_grown (k := k) p1 (by decide) (by omega) (by simpa [Value.ownBlock] using h)

/-- A block with a state. -/
def isSt9 (w : World) (b : Nat) (k A B a0 a1 a2 a3 : Int) : Prop := w.heap[b]? = some (.cells #[.int .i64 k, .int .i64 A, .int .i64 B, .int .u64 a0, .int .u64 a1, .int .u64 a2, .int .u64 a3] 64 (0, 0))
theorem isSt9.new (w : World) (k A B a0 a1 a2 a3 : Int) : isSt9 (w.alloc (.cells #[.int .i64 k, .int .i64 A, .int .i64 B, .int .u64 a0, .int .u64 a1, .int .u64 a2, .int .u64 a3] 64)) w.heap.size k A B a0 a1 a2 a3 := heap_alloc_new w _
theorem isSt9.cells {w : World} {b : Nat} {k A B a0 a1 a2 a3 : Int} (h : isSt9 w b k A B a0 a1 a2 a3) : w.cell? ⟨b, 0, none⟩ = some (.int .i64 k) ∧ w.cell? ⟨b, 1, none⟩ = some (.int .i64 A) ∧ w.cell? ⟨b, 2, none⟩ = some (.int .i64 B) ∧ w.cell? ⟨b, 3, none⟩ = some (.int .u64 a0) ∧ w.cell? ⟨b, 4, none⟩ = some (.int .u64 a1) ∧ w.cell? ⟨b, 5, none⟩ = some (.int .u64 a2) ∧ w.cell? ⟨b, 6, none⟩ = some (.int .u64 a3) := by
  unfold isSt9 at h
  refine ⟨?_, ?_, ?_, ?_, ?_, ?_, ?_⟩ <;> simp [World.cell?, h]
theorem isSt9.lt {w : World} {b : Nat} {k A B a0 a1 a2 a3 : Int} (h : isSt9 w b k A B a0 a1 a2 a3) : b < w.heap.size := lt_of_block h
theorem isSt9.kept {w w' : World} {g b : Nat} {k A B a0 a1 a2 a3 : Int} (h : isSt9 w b k A B a0 a1 a2 a3) (hk : kpW g w w') : isSt9 w' b k A B a0 a1 a2 a3 := hk.2 _ _ _ h

set_option maxRecDepth 100000 in
set_option maxHeartbeats 4000000 in
theorem wput_is (g h m x : Nat) (A : List Nat) (hm : m ≤ 1000) (hx : x < m) (hA : okA9 m A) (w : World) (hc : clW w g h m A) :
    Calls Try.prog 78 #[.int .i64 (x : Int), .pointer (some ⟨h, 0, none⟩), .pointer (some ⟨h + 1, 0, none⟩)] w fun e w' => e = .returned (.tuple #[]) ∧ clW w' g h m (putW A x) ∧ kpW g w w' := by
  obtain ⟨hgh, h1, ⟨p, c, h2, h3⟩, h4⟩ := hc
  obtain ⟨i0, hi, hz0, hz1, hz2⟩ := info_parts infoInt9w
  have x0 : (0 : Int) ≤ (x : Int) := by omega
  have x1 : (x : Int) < (m : Int) := by omega
  have c1 := h1.cell
  have c2 := h2.cell
  have c4 := h4.cell x hx
  by_cases hin : x ∈ A
  · rw [show memW A x = true from decide_eq_true hin] at c4
    have HF := Lib.hid (show clW w g h m (putW A x) by rw [putW_in hin]; exact ⟨hgh, h1, ⟨p, c, h2, h3⟩, h4⟩)
    clear h1 h2 h3 h4 c2 hA hin
    go_enter Try.func78, Try.ntmps78
    go_wp2_with fail
    refine bodyPost_end (results_none rfl _ _ _) rfl ?_
    exact ⟨rfl, HF.out, kpW.refl _ _⟩
  · rw [show memW A x = false from decide_eq_false hin] at c4
    have f4 := h4.free x
    have hgl := h4.lt
    have hs3 : h + 1 < w.heap.size := h2.lt
    -- the store among what is met
    have hg1 : w.grownBy (w.setCell ⟨g, x, none⟩ (.bool true)) (some g) := grown_setCell w g x _
    obtain ⟨W1, hW1⟩ : ∃ W1, w.setCell ⟨g, x, none⟩ (.bool true) = W1 := ⟨_, rfl⟩
    have hk1 : kpW g w W1 := by
      rw [hW1] at hg1
      rcases id h4.2 with ⟨e, _⟩ | ⟨k, cp, cur, e, _, q1, _⟩
      · cases e
      · cases e
        exact kpW.of_grown q1 (by decide) (Nat.le_refl _) hg1
    rw [hW1] at hg1
    have a1 := Lib.hid (h1.grown hg1 (by simp; omega))
    have a2 := Lib.hid (h2.grown hg1 (by simp; omega))
    have a4 : blR W1 g g m m (putT (memW A) x true) := hW1 ▸ h4.put x true
    have a4' := Lib.hid (a4.same fun j _ => memW_put hin j)
    have a3 : spO W1 (h + 2) (.slice p A.length c) A := World.ownsRow.kept h3 hg1 (by
      rcases rows_apart9 h3 h4 (by decide) with h | h
      · exact .inl h
      · exact .inr (by simpa [Value.ownBlock] using h))
    have A3 := Lib.hid a3
    have HK1 := Lib.hid hk1
    have HW1 := Lib.hid hW1
    have HIN := Lib.hid hin
    have HLE : Hid (A.length ≤ m) := Lib.hid (okA_le hA)
    have hz : h + 2 ≤ W1.heap.size := by have := a2.out.lt; omega
    have HZ := Lib.hid hz
    have c2' := a2.out.cell
    clear h1 h2 h3 h4 hA hin a3 a4 hg1 hk1 hW1 hz hgl hs3
    go_enter Try.func78, Try.ntmps78
    go_upto_region 2 with (fail)
    rw [HW1.out]
    have hlit : ∀ j u, (spl9 [x])[j]? = some u → (W1.alloc (.cells #[.int .i64 (x : Int)] 3)).cell? ((⟨W1.heap.size, 0, none⟩ : Addr).add j) = some u := by
      intro j u hu
      match j, hu with
      | 0, hu => simp [spl9] at hu; subst hu; simp [Addr.add]
    have HLIT := Lib.hid hlit
    have HM : Hid (A.length + 1 ≤ maxLen) := Lib.hid (by have := HLE.out; unfold maxLen; omega)
    have H48 : Hid ((A.length + 1) * 8 ≤ 140737488355328) := Lib.hid (by have := HLE.out; omega)
    have HS5 : Hid (h + 2 ≤ (W1.alloc (.cells #[.int .i64 (x : Int)] 3)).heap.size) := Lib.hid (by rw [World.size_alloc]; have := HZ.out; omega)
    clear hlit c1 c2 c4 f4
    go_wp2_with (at_builtin; refine wpList_append_own _ rfl _ _ 27 rfl (h + 2) 3 i0 (.int .i64 0) 1 8 Try.underlying27 hi hz0 hz1 hz2 rfl (by decide) _ A.length (spl9 A) rfl (A3.out.alloc _) ⟨W1.heap.size, 0, none⟩ 1 1 (spl9 [x]) rfl (by rw [spl9_len]; rfl) HLIT.out (spl9_cell _) HM.out H48.out HS5.out ?_; intro v' w3 hown hgrow _; have HO := Lib.hid hown; have HG := Lib.hid hgrow; clear hown hgrow; refine Hid.out ?_)
    have ho : spO w3 (h + 2) v' (A ++ [x]) := by
      have := HO.out
      rw [← spl9_append] at this
      unfold spO
      rw [List.length_append]
      exact this
    obtain ⟨p', c', rfl⟩ := spO_of ho
    have hb5 : kpW g W1 (W1.alloc (.cells #[.int .i64 (x : Int)] 3)) := kpW.of_below (by have := HZ.out; omega) ((Below.refl _ _).alloc (Nat.le_refl _) _)
    have hk3 : kpW g W1 w3 := hb5.trans (kpW.of_row hgh HS5.out (A3.out.alloc _) HG.out)
    have hne : ∀ k, k < h + 2 → some k ≠ (Value.slice p A.length c).ownBlock := fun k hk e => by
      have := (A3.out.lt k e.symm).1; omega
    have hz3 : h + 1 < w3.heap.size := by have := HG.out.size; have := HS5.out; omega
    have hal := Below.heap_alloc W1 (.cells #[.int .i64 (x : Int)] 3)
    have b1 : one9 28 w3 (h) (.slice (some ⟨g, 0, none⟩) m m) := (HG.out.block (h) (by rw [World.size_alloc]; have := HZ.out; omega) (hne _ (by omega))).trans ((hal (h) (by have := HZ.out; omega)).trans a1.out)
    have b2 : one9 27 w3 (h + 1) (.slice p A.length c) := (HG.out.block (h + 1) (by rw [World.size_alloc]; have := HZ.out; omega) (hne _ (by omega))).trans ((hal (h + 1) (by have := HZ.out; omega)).trans a2.out)
    have b4 : blR w3 g g m m (memW (A ++ [x])) := World.ownsRow.kept (a4'.out.below ((Below.refl _ _).alloc (Nat.le_refl _) _)) HG.out (by
      rcases rows_apart9 (a4'.out.below ((Below.refl _ _).alloc (Nat.le_refl _) (.cells #[.int .i64 (x : Int)] 3))) (A3.out.alloc (.cells #[.int .i64 (x : Int)] 3)) (by decide) with h | h
      · exact .inl h
      · exact .inr h)
    have f2 := b2.free
    have c3 := b2.cell
    have e1 : (A ++ [x]).length = A.length + 1 := by simp
    have hl2 := b2.lt
    have hg2 : w3.grownBy (w3.setCell ⟨h + 1, 0, none⟩ (.slice p' (A ++ [x]).length c')) (some (h + 1)) := grown_setCell w3 (h + 1) 0 _
    have hpw : putW A x = A ++ [x] := putW_out HIN.out
    have HE : Hid (clW (w3.setCell ⟨h + 1, 0, none⟩ (.slice p' (A.length + 1) c')) g h m (putW A x)) := Lib.hid (by
      rw [← e1, hpw]
      refine ⟨hgh, b1.grown hg2 (by simp), ⟨p', c', b2.stored _, ?_⟩, ?_⟩
      · refine World.ownsRow.kept ho hg2 (.inr fun e => ?_)
        have := (ho.lt (h + 1) e).1; omega
      · refine World.ownsRow.kept b4 hg2 (.inr ?_)
        simp [Value.ownBlock]; omega)
    have HKE : Hid (kpW g w (w3.setCell ⟨h + 1, 0, none⟩ (.slice p' (A.length + 1) c'))) := Lib.hid (e1 ▸ (HK1.out.trans hk3).trans (kpW.of_grown b2 (by decide) (by omega) hg2))
    clear ho hb5 hk3 hne hz3 hal b1 b2 b4 hg2 hpw HO HG e1
    refine Lib.hid ?_
    go_wp2_with fail
    refine bodyPost_end (results_none rfl _ _ _) rfl ?_
    exact ⟨rfl, HE.out, HKE.out⟩
end Go.Proofs.Ytepegohopgnmnaa

namespace Go.Proofs.Ytepegohopgnmnaa
open Go.RowKit

def fnv (f : Nat → Int) (n : Nat) : List Value := (List.range n).map fun j => Value.int .i64 (f j)
theorem fnv_len (f : Nat → Int) (n : Nat) : (fnv f n).length = n := by simp [fnv]
theorem fnv_succ (f : Nat → Int) (n : Nat) : fnv f (n + 1) = fnv f n ++ [.int .i64 (f n)] := by simp [fnv, List.range_succ]
theorem fnv_at (f : Nat → Int) (n j : Nat) (h : j < n) : (fnv f n)[j]? = some (.int .i64 (f j)) := by simp [fnv, h]
def spF (w : World) (base : Nat) (v : Value) (f : Nat → Int) (n : Nat) : Prop := w.ownsRow base 3 1 v n (fnv f n)
theorem spF_zero (w : World) (base : Nat) (f : Nat → Int) : spF w base (.slice none 0 0) f 0 := ⟨rfl, .inl ⟨rfl, rfl⟩⟩
theorem spF.below {w w' : World} {base : Nat} {v : Value} {f : Nat → Int} {n : Nat} (h : spF w base v f n) (hb : Below w.heap.size w w') : spF w' base v f n := owns_below h hb
theorem spF_of {w : World} {base : Nat} {v : Value} {f : Nat → Int} {n : Nat} (h : spF w base v f n) : ∃ p c, v = .slice p n c := by
  rcases id h.2 with ⟨rfl, h0⟩ | ⟨g, cap, cur, rfl, _⟩
  · exact ⟨none, 0, by rw [h0]⟩
  · exact ⟨_, cap, rfl⟩
theorem spF.rd {w : World} {base : Nat} {p : Option Addr} {c : Nat} {f : Nat → Int} {n : Nat} (h : spF w base (.slice p n c) f n) : rdL w p n f := fun j hj => by
  rcases id h.2 with ⟨_, e⟩ | ⟨g, cp, cur, e, _⟩
  · omega
  · cases e
    refine ⟨g, 0, rfl, (World.ownsRow.lt h g rfl).2, ?_⟩
    rw [Nat.zero_add, World.ownsRow.cellAt h j (by omega)]
    exact fnv_at f n j hj
theorem spF.grow {w w' : World} {base B : Nat} {v : Value} {f : Nat → Int} {n : Nat} (hB : B ≤ base) (hw : B ≤ w.heap.size) (ho : spF w base v f n) (h : w.grownBy w' v.ownBlock) : Below B w w' :=
  (Below.refl B w).grown h hw (fun r hr => Nat.le_trans hB (ho.lt r hr).1)
theorem append_fn {w : World} {ops : Array Oper} {rest : List Oper} {o : Oper} {a : Act} {Q : Exit → Act → World → Prop} (hgd : o.guard = none) (s x : Operand)
    (ho : o.op = .call { callee := .builtin .append, args := #[s, x], argTypes := #[27, 27] }) (base : Nat) (v : Value) (f : Nat → Int) (n : Nat) (hs : a.eval s = v)
    (hown : spF w base v f n) (g : Nat) (x0 : Int) (hf : f n = x0) (hx : a.eval x = .slice (some ⟨g, 0, none⟩) 1 1)
    (hcell : w.cell? ⟨g, 0, none⟩ = some (.int .i64 x0)) (hlen : n ≤ 10000) (hbase : base ≤ w.heap.size)
    (h : ∀ v' w', spF w' base v' f (n + 1) → w.grownBy w' v.ownBlock → wpList Try.prog ops Q rest (a.put o.dst v') w') : wpList Try.prog ops Q (o :: rest) a w := by
  obtain ⟨i0, hi, hz0, hz1, hz2⟩ := info_parts infoInt9w
  refine wpList_append_own w hgd s x 27 ho base 3 i0 (.int .i64 0) 1 8 Try.underlying27 hi hz0 hz1 hz2 rfl (by decide) v n (fnv f n) hs hown ⟨g, 0, none⟩ 1 1 [.int .i64 x0] hx rfl ?_ ?_ (by unfold maxLen; omega) (by omega) hbase ?_
  · intro j u hu
    match j, hu with
    | 0, hu => simp at hu; subst hu; simpa [Addr.add] using hcell
  · intro u hu
    have : u = .int .i64 x0 := by simpa using hu
    subst this; rfl
  · intro v' w' h1 h2 _
    refine h v' w' ?_ h2
    rw [← hf, ← fnv_succ] at h1
    exact h1

set_option maxRecDepth 100000 in
set_option maxHeartbeats 4000000 in
theorem same10 (q : Option Addr) (n c : Nat) (l : Nat → Int) (q' : Option Addr) (n' c' : Nat) (l' : Nat → Int) (r : Bool) (hr : r = true ↔ n = n' ∧ ∀ j, j < n → l j = l' j) (hn : n ≤ 100000) (hn' : n' ≤ 100000) (w : World) (hl : rdL w q n l) (hl' : rdL w q' n' l') :
    Calls Try.prog 31 #[.slice q n c, .slice q' n' c'] w fun e w' => e = .returned (.bool r) ∧ Below w.heap.size w w' := by
  have HL := Lib.hid hl; have HL' := Lib.hid hl'
  by_cases hnn : n = n'
  · subst hnn
    have hb : ((n : Int) != (n : Int)) = false := by simp
    have HR : Hid (r = true ↔ ∀ j, j < n → l j = l' j) := Lib.hid (hr.trans ⟨fun h => h.2, fun h => ⟨rfl, h⟩⟩)
    have n0 : (0 : Int) ≤ (n : Int) := by omega
    clear hr hl hl'
    go_enter Try.func31, Try.ntmps31
    go_wp2_with fail
    go_loopw [5] (fun iv wr => ∃ i : Nat, i ≤ n ∧ iv = .int .i64 i ∧ Hid (∀ j, j < i → l j = l' j) ∧ Hid (Below w.heap.size w wr)) (fun iv _ => n - (intOf iv).toNat)
    case atStart => exact ⟨0, Nat.zero_le _, rfl, Lib.hid (fun _ h => absurd h (Nat.not_lt_zero _)), Lib.hid (Below.refl _ _)⟩
    case round =>
      obtain ⟨i, hi, rfl, HQ, HB⟩ := hrel
      by_cases hlti : i < n
      · have i0 : (0 : Int) ≤ (i : Int) := by omega
        have i1 : (i : Int) < (n : Int) := by omega
        obtain ⟨lb, lo, rfl, hlb, hlc⟩ := (HL.out.below HB.out) i hlti
        obtain ⟨lb', lo', rfl, hlb', hlc'⟩ := (HL'.out.below HB.out) i hlti
        obtain ⟨u, hu⟩ : ∃ u, l i = u := ⟨_, rfl⟩
        obtain ⟨u', hu'⟩ : ∃ u', l' i = u' := ⟨_, rfl⟩
        have HU := Lib.hid hu; have HU' := Lib.hid hu'
        rw [hu] at hlc; rw [hu'] at hlc'
        clear hu hu'
        cases hx : (u != u')
        · have HQ2 : Hid (∀ j, j < i + 1 → l j = l' j) := Lib.hid fun j hj => by
            by_cases e : j = i
            · subst e; rw [HU.out, HU'.out]; simpa using hx
            · exact HQ.out j (by omega)
          go_wp2_with fail
          go_quiet (fail)
          have HBd := Lib.hid (below_drewN nq HB.out)
          go_wp2_with fail
          go_roundw
          case rel => exact ⟨i + 1, by omega, by go_num, HQ2, HBd⟩
          case measure => simp [intOf]; omega
        · have HE : Hid (r = false) := Lib.hid (by
            cases r with
            | false => rfl
            | true =>
              have := HR.out.1 rfl i hlti
              rw [HU.out, HU'.out] at this
              subst this
              simp at hx)
          go_wp2_with fail
          go_quiet (fail)
          have HBd := Lib.hid (below_drewN nq HB.out)
          go_wp2_with fail
          go_returns
          exact ⟨by rw [HE.out] <;> rfl, HBd.out⟩
      · obtain rfl : i = n := by omega
        have HE : Hid (r = true) := Lib.hid (HR.out.2 HQ.out)
        go_wp2_with fail
        go_returns
        exact ⟨by rw [HE.out] <;> rfl, HB.out⟩
  · have hb : ((n : Int) != (n' : Int)) = true := by simp; omega
    have HE : Hid (r = false) := Lib.hid (by
      cases r with
      | false => rfl
      | true => exact absurd (hr.1 rfl).1 hnn)
    clear hr hnn
    go_enter Try.func31, Try.ntmps31
    go_wp2_with fail
    go_returns
    exact ⟨by rw [HE.out] <;> rfl, Below.refl _ _⟩

set_option maxRecDepth 100000 in
set_option maxHeartbeats 8000000 in
theorem num10 (R : Nat → Nat → Bool) (hR : eqR R) (q : Option Addr) (n c : Nat) (hn : n ≤ 1000) (w : World) (hl : rdL w q n (fun x => (hdA R x : Nat))) :
    Calls Try.prog 49 #[.slice q n c] w fun e w' => ∃ q' c', e = .returned (.tuple #[.slice q' n c', .int .i64 (cntT (isH R) n : Nat)]) ∧ rdL w' q' n (fun x => (clA R x : Nat)) ∧ Below w.heap.size w w' := by
  have HL := Lib.hid hl; have HRR := Lib.hid hR
  have n0 : (0 : Int) ≤ (n : Int) := by omega
  have HO0 := Lib.hid (spF_zero w w.heap.size (fun x => (clA R x : Nat)))
  have HC0 : Hid (cntT (isH R) 0 = 0) := Lib.hid rfl
  clear hl hR
  go_enter Try.func49, Try.ntmps49
  go_wp2_with fail
  go_loopw [4, 5, 6] (fun tv nv iv wr => ∃ i : Nat, i ≤ n ∧ iv = .int .i64 i ∧ nv = .int .i64 (cntT (isH R) i : Nat) ∧ Hid (spF wr w.heap.size tv (fun x => (clA R x : Nat)) i) ∧ Hid (Below w.heap.size w wr)) (fun _ _ iv _ => n - (intOf iv).toNat)
  case atStart => exact ⟨0, Nat.zero_le _, rfl, by rw [HC0.out]; rfl, HO0, Lib.hid (Below.refl _ _)⟩
  case round =>
    clear HO0 HC0
    obtain ⟨i, hi, rfl, rfl, HO, HB⟩ := hrel
    have hcle := cntT_le (isH R) i
    have hcs := cntT_succ (isH R) i
    by_cases hlti : i < n
    · have i0 : (0 : Int) ≤ (i : Int) := by omega
      have i1 : (i : Int) < (n : Int) := by omega
      obtain ⟨lb, lo, rfl, hlb, hlc⟩ := (HL.out.below HB.out) i hlti
      simp only at hlc
      have hHle := hdA_le R i
      obtain ⟨k, hk⟩ : ∃ k, hdA R i = k := ⟨_, rfl⟩
      rw [hk] at hlc hHle
      have HK := Lib.hid hk
      obtain ⟨ct, hct⟩ : ∃ ct, cntT (isH R) i = ct := ⟨_, rfl⟩
      rw [hct] at hcle hcs ⊢
      have HS := HB.out.size
      by_cases hki : k = i
      · subst hki
        have hh : isH R k = true := by unfold isH; rw [HK.out]; simp
        rw [if_pos hh] at hcs
        have HCL : Hid (((clA R k : Nat) : Int) = (ct : Int)) := Lib.hid (by rw [clA_head hh, hct])
        have HCS := Lib.hid hcs
        have c0 : (0 : Int) ≤ (ct : Int) := by omega
        have c1 : (ct : Int) ≤ 1000 := by omega
        have HLC : Hid ((wr.alloc (.cells #[.int .i64 (ct : Int)] 3)).cell? ⟨wr.heap.size, 0, none⟩ = some (.int .i64 (ct : Int))) := Lib.hid (by simp)
        have HLS : Hid (w.heap.size ≤ (wr.alloc (.cells #[.int .i64 (ct : Int)] 3)).heap.size) := Lib.hid (by rw [World.size_alloc]; omega)
        have HO6 := Lib.hid (HO.out.alloc (.cells #[.int .i64 (ct : Int)] 3))
        have HW6 := Lib.hid (HB.out.alloc HS (.cells #[.int .i64 (ct : Int)] 3))
        clear HO HS hcs hct hh
        go_wp2_with (at_builtin; refine append_fn rfl _ _ rfl w.heap.size _ (fun x => (clA R x : Nat)) k rfl HO6.out wr.heap.size (ct : Int) HCL.out rfl HLC.out (by omega) HLS.out ?_; intro v9 w9 h9 hg9; have HO9 := Lib.hid h9; have HW9 := Lib.hid (HW6.out.trans (spF.grow (Nat.le_refl _) HLS.out HO6.out hg9)); clear h9 hg9)
        go_roundw
        case rel => exact ⟨k + 1, by omega, by go_num, by rw [HCS.out]; go_num, HO9, HW9⟩
        case measure => simp [intOf]; omega
      · have hkl : k < i := by omega
        have hki2 : ((k : Int) == (i : Int)) = false := beq_eq_false_iff_ne.2 (by omega)
        have hki3 : (k == i) = false := beq_eq_false_iff_ne.2 hki
        have hh : ¬ isH R i = true := by unfold isH; rw [HK.out]; simpa using hki
        rw [if_neg hh, Nat.add_zero] at hcs
        have HCS := Lib.hid hcs
        have hcl : clA R i = clA R k := by
          have h1 := hdA_head HRR.out i
          rw [HK.out] at h1
          rw [clA_head h1]
          unfold clA
          rw [HK.out]
        obtain ⟨ck, hck⟩ : ∃ ck, clA R k = ck := ⟨_, rfl⟩
        have HCL : Hid (((clA R i : Nat) : Int) = (ck : Int)) := Lib.hid (by rw [hcl, hck])
        obtain ⟨tp, tc, rfl⟩ := spF_of HO.out
        obtain ⟨tb, tof, rfl, htb, htc⟩ := HO.out.rd k hkl
        simp only at htc
        rw [hck] at htc
        have k0 : (0 : Int) ≤ (k : Int) := by omega
        have k1 : (k : Int) < (i : Int) := by omega
        have HLC : Hid ((wr.alloc (.cells #[.int .i64 (ck : Int)] 3)).cell? ⟨wr.heap.size, 0, none⟩ = some (.int .i64 (ck : Int))) := Lib.hid (by simp)
        have HLS : Hid (w.heap.size ≤ (wr.alloc (.cells #[.int .i64 (ck : Int)] 3)).heap.size) := Lib.hid (by rw [World.size_alloc]; omega)
        have HO6 := Lib.hid (HO.out.alloc (.cells #[.int .i64 (ck : Int)] 3))
        have HW6 := Lib.hid (HB.out.alloc HS (.cells #[.int .i64 (ck : Int)] 3))
        clear HO HS hcs hct hh hck hcl hki
        go_wp2_with (at_builtin; refine append_fn rfl _ _ rfl w.heap.size _ (fun x => (clA R x : Nat)) i rfl HO6.out wr.heap.size (ck : Int) HCL.out rfl HLC.out (by omega) HLS.out ?_; intro v9 w9 h9 hg9; have HO9 := Lib.hid h9; have HW9 := Lib.hid (HW6.out.trans (spF.grow (Nat.le_refl _) HLS.out HO6.out hg9)); clear h9 hg9)
        go_roundw
        case rel => exact ⟨i + 1, by omega, by go_num, by (rw [HCS.out]; first | rfl | simp), HO9, HW9⟩
        case measure => simp [intOf]; omega
    · obtain rfl : i = n := by omega
      obtain ⟨tp, tc, rfl⟩ := spF_of HO.out
      have HF := Lib.hid HO.out.rd
      obtain ⟨ct, hct⟩ : ∃ ct, cntT (isH R) i = ct := ⟨_, rfl⟩
      rw [hct]
      have HCT := Lib.hid hct
      clear hct hcs hcle HO
      go_wp2_with fail
      go_returns
      exact ⟨_, _, by rw [HCT.out] <;> rfl, HF.out, HB.out⟩
end Go.Proofs.Ytepegohopgnmnaa

namespace Go.Proofs.Ytepegohopgnmnaa
open Go.RowKit

theorem eqS_succ (m : Nat) (T U : Bf) : eqS (m + 1) T U = (eqS m T U && (T m == U m)) := by
  unfold eqS
  rw [List.range_succ, List.all_append]
  simp
def lg (L : List Bf) (i : Nat) : Bf := L.getD i fun _ => false
theorem lg_at {L : List Bf} {i : Nat} (h : i < L.length) : lg L i = L[i] := by
  unfold lg
  rw [List.getD_eq_getElem?_getD, List.getElem?_eq_getElem h]; rfl
theorem lg_some {L : List Bf} {i : Nat} (h : i < L.length) : L[i]? = some (lg L i) := by rw [lg_at h, List.getElem?_eq_getElem h]
def gvs (r C : Nat → Nat) (m k : Nat) : List Value := (List.range k).map fun i => .slice (some ⟨r i, 0, none⟩) m (C i)
theorem gvs_at (r C : Nat → Nat) (m k i : Nat) (h : i < k) : (gvs r C m k)[i]? = some (.slice (some ⟨r i, 0, none⟩) m (C i)) := by simp [gvs, h]
theorem gvs_succ (r C : Nat → Nat) (m k : Nat) : gvs r C m (k + 1) = gvs r C m k ++ [.slice (some ⟨r k, 0, none⟩) m (C k)] := by simp [gvs, List.range_succ]
theorem gvs_same {r r' C C' : Nat → Nat} (m : Nat) {k : Nat} (h : ∀ i, i < k → r i = r' i ∧ C i = C' i) : gvs r C m k = gvs r' C' m k := by
  unfold gvs
  exact List.map_congr_left fun i hi => by rw [(h i (List.mem_range.1 hi)).1, (h i (List.mem_range.1 hi)).2]
/-- A slice of sets that the call owns, its rows too. -/
def gsR (w : World) (base : Nat) (v : Value) (r C : Nat → Nat) (m : Nat) (L : List Bf) : Prop :=
  w.ownsRow base 28 1 v L.length (gvs r C m L.length) ∧ ∀ i, i < L.length → blR w base (r i) (C i) m (lg L i)
theorem gsR.below {w w' : World} {base : Nat} {v : Value} {r C : Nat → Nat} {m : Nat} {L : List Bf} (h : gsR w base v r C m L) (hb : Below w.heap.size w w') : gsR w' base v r C m L :=
  ⟨owns_below h.1 hb, fun i hi => (h.2 i hi).below hb⟩
theorem gsR.of {w : World} {base : Nat} {v : Value} {r C : Nat → Nat} {m : Nat} {L : List Bf} (h : gsR w base v r C m L) (hl : 1 ≤ L.length) : ∃ g c, v = .slice (some ⟨g, 0, none⟩) L.length c ∧ base ≤ g ∧ g < w.heap.size ∧ ∀ i, i < L.length → w.cell? ⟨g, i, none⟩ = some (.slice (some ⟨r i, 0, none⟩) m (C i)) := by
  rcases id h.1.2 with ⟨rfl, h0⟩ | ⟨g, cap, cur, rfl, _⟩
  · omega
  · have hlt := World.ownsRow.lt h.1 g rfl
    refine ⟨g, cap, rfl, hlt.1, hlt.2, fun i hi => ?_⟩
    have := World.ownsRow.cellAt h.1 i (by omega)
    rw [this]; exact gvs_at r C m _ i hi

set_option maxRecDepth 100000 in
set_option maxHeartbeats 8000000 in
theorem find11 (g c : Nat) (r C : Nat → Nat) (m : Nat) (L : List Bf) (gx cx : Nat) (X : Bf) (hm : m ≤ 1000) (hL : L.length ≤ 100000) (w : World) (hg : g < w.heap.size) (hc : ∀ i, i < L.length → w.cell? ⟨g, i, none⟩ = some (.slice (some ⟨r i, 0, none⟩) m (C i)))
    (hr : ∀ i, i < L.length → rdB w (r i) m (lg L i)) (hx : rdB w gx m X) :
    Calls Try.prog 30 #[.slice (some ⟨g, 0, none⟩) L.length c, .slice (some ⟨gx, 0, none⟩) m cx] w fun e w' => e = .returned (.int .i64 (if fiS m L X < L.length then (fiS m L X : Int) else -1)) ∧ Below w.heap.size w w' := by
  have HC := Lib.hid (fun i hi w' (h : Below w.heap.size w w') => show w'.cell? ⟨g, i, none⟩ = some (.slice (some ⟨r i, 0, none⟩) m (C i)) from (h.cell (p := ⟨g, i, none⟩) hg).trans (hc i hi))
  have HR := Lib.hid (fun i hi w' (h : Below w.heap.size w w') => (hr i hi).below h)
  have HX := Lib.hid (fun w' (h : Below w.heap.size w w') => hx.below h)
  obtain ⟨n, hn⟩ : ∃ n, L.length = n := ⟨_, rfl⟩
  obtain ⟨z, hz⟩ : ∃ z : Int, (if fiS m L X < L.length then (fiS m L X : Int) else -1) = z := ⟨_, rfl⟩
  have HF1 : Hid (∀ j (hj : j < n), eqS m (lg L j) X = true → (∀ i, i < j → eqS m (lg L i) X = false) → z = (j : Int)) := Lib.hid fun j hj h1 h2 => by
    have hj' : j < L.length := hn ▸ hj
    have := fiS_is hj' (by rw [← lg_at hj']; exact h1) (fun i hi => by rw [← lg_at (Nat.lt_trans hi hj')]; exact h2 i hi)
    rw [← hz, this, if_pos hj']
  have HF2 : Hid ((∀ i, i < n → eqS m (lg L i) X = false) → z = -1) := Lib.hid fun h => by
    have := fiS_none (m := m) (L := L) (x := X) fun i hi => by rw [← lg_at hi]; exact h i (hn ▸ hi)
    rw [← hz, this, if_neg (Nat.lt_irrefl _)]
  rw [hz]
  rw [hn] at HC HR hL ⊢
  have n0 : (0 : Int) ≤ (n : Int) := by omega
  have n1 : (n : Int) ≤ 100000 := by omega
  have m0 : (0 : Int) ≤ (m : Int) := by omega
  have m1 : (m : Int) ≤ 1000 := by omega
  clear hc hr hx hg hn hz
  go_enter Try.func30, Try.ntmps30
  go_wp2_with fail
  go_loopw [5] (fun iv wr => ∃ i : Nat, i ≤ n ∧ iv = .int .i64 i ∧ Hid (∀ j, j < i → eqS m (lg L j) X = false) ∧ Hid (Below w.heap.size w wr)) (fun iv _ => n - (intOf iv).toNat)
  case atStart => exact ⟨0, Nat.zero_le _, rfl, Lib.hid (fun _ h => absurd h (Nat.not_lt_zero _)), Lib.hid (Below.refl _ _)⟩
  case round =>
    obtain ⟨i, hi, rfl, HQ, HB⟩ := hrel
    by_cases hlti : i < n
    · have i0 : (0 : Int) ≤ (i : Int) := by omega
      have i1 : (i : Int) < (n : Int) := by omega
      go_wp2_with fail
      go_loopw [6, 7] (fun sv kv wx => ∃ k : Nat, k ≤ m ∧ kv = .int .i64 k ∧ sv = .bool (eqS k (lg L i) X) ∧ Hid (Below w.heap.size w wx)) (fun _ kv _ => m - (intOf kv).toNat)
      case atStart => exact ⟨0, Nat.zero_le _, rfl, rfl, HB⟩
      case round =>
        clear HB
        obtain ⟨k, hk, rfl, rfl, HB⟩ := hrel
        have c0 := HC.out i hlti _ HB.out
        by_cases hltk : k < m
        · have k0 : (0 : Int) ≤ (k : Int) := by omega
          have k1 : (k : Int) < (m : Int) := by omega
          have c1 := (HR.out i hlti _ HB.out).2 k hltk
          have c2 := (HX.out _ HB.out).2 k hltk
          have HS := Lib.hid (eqS_succ k (lg L i) X)
          obtain ⟨u, hu⟩ : ∃ u, lg L i k = u := ⟨_, rfl⟩
          obtain ⟨x, hx⟩ : ∃ x, X k = x := ⟨_, rfl⟩
          rw [hu] at c1 HS; rw [hx] at c2 HS
          obtain ⟨s, hs⟩ : ∃ s, eqS k (lg L i) X = s := ⟨_, rfl⟩
          rw [hs] at HS ⊢
          clear hu hx hs
          cases s with
          | false =>
            go_wp2_with fail
            go_quiet (fail)
            have HBd := Lib.hid (below_drewN nq HB.out)
            go_wp2_with fail
            go_roundw
            case rel => exact ⟨k + 1, by omega, by go_num, by rw [HS.out]; rfl, HBd⟩
            case measure => simp [intOf]; omega
          | true =>
            go_wp2_with fail
            go_quiet (fail)
            have HBd := Lib.hid (below_drewN nq HB.out)
            go_wp2_with fail
            go_roundw
            case rel => exact ⟨k + 1, by omega, by go_num, by rw [HS.out]; rfl, HBd⟩
            case measure => simp [intOf]; omega
        · obtain rfl : k = m := by omega
          obtain ⟨s, hs⟩ : ∃ s, eqS k (lg L i) X = s := ⟨_, rfl⟩
          have HS := Lib.hid hs
          rw [hs]
          clear hs
          cases s with
          | false =>
            have HQ2 : Hid (∀ j, j < i + 1 → eqS k (lg L j) X = false) := Lib.hid fun j hj => by
              by_cases e : j = i
              · subst e; exact HS.out
              · exact HQ.out j (by omega)
            go_wp2_with fail
            go_roundw
            case rel => exact ⟨i + 1, by omega, by go_num, HQ2, HB⟩
            case measure => simp [intOf]; omega
          | true =>
            have HZ := Lib.hid (HF1.out i hlti HS.out HQ.out)
            go_wp2_with fail
            go_returns
            exact ⟨by rw [HZ.out] <;> rfl, HB.out⟩
    · obtain rfl : i = n := by omega
      have HZ := Lib.hid (HF2.out HQ.out)
      go_wp2_with fail
      go_returns
      exact ⟨by rw [HZ.out] <;> rfl, HB.out⟩
end Go.Proofs.Ytepegohopgnmnaa

namespace Go.Proofs.Ytepegohopgnmnaa
open Go.RowKit

theorem laidOut11 : laidOutB Try.prog = true := by kernel_rfl
theorem keyWide : (match Try.prog.underlying 110 with | some (.array _ _) | some (.struct _) => true | _ => false) = true := by kernel_rfl
set_option maxRecDepth 100000 in
theorem keyLaw : Go.Maps.Keyed Try.prog 110 := Go.Maps.Keyed.of_law (deep_law_laid laidOut11 (m := 3) (by omega) (of_decide_eq_true (by kernel_rfl)) (by kernel_rfl) keyWide)
theorem keyKey : Try.prog.keyType 110 = true := by kernel_rfl
theorem keyCells : Try.prog.cellsOf 110 = 10 := by kernel_rfl
theorem u64Cells : Try.prog.cellsOf 60 = 1 := by kernel_rfl
/-- A set's words, as values. -/
def kyl (T : Bf) : List Value := (List.range 10).map fun i => .int .u64 (wd T i : Int)
def kyV (T : Bf) : Value := .agg #[.int .u64 (wd T 0 : Int), .int .u64 (wd T 1 : Int), .int .u64 (wd T 2 : Int), .int .u64 (wd T 3 : Int), .int .u64 (wd T 4 : Int), .int .u64 (wd T 5 : Int), .int .u64 (wd T 6 : Int), .int .u64 (wd T 7 : Int), .int .u64 (wd T 8 : Int), .int .u64 (wd T 9 : Int)]
theorem kyV_cells (T : Bf) : (kyV T).cells.toList = kyl T := rfl
/-- What a key reads as. -/
def kyL (T : Bf) : Lit := .string (keyBytes ((List.range 10).map fun i => Lit.int .u64 (wd T i : Int)))
theorem wd_wf (T : Bf) (i : Nat) : (Lit.int .u64 (wd T i : Int)).wf = true := by
  have h := wd_lt T i
  exact WalkArith.wf_u64 ⟨by omega, by omega⟩
set_option maxRecDepth 100000 in
set_option maxHeartbeats 1000000 in
theorem kyLits (n : Nat) (T : Bf) : Try.prog.keyLits (n + 2) 110 (kyl T) = some ((List.range 10).map fun i => Lit.int .u64 (wd T i : Int)) := by
  have e : ∀ i : Nat, Try.prog.keyLits (n + 1) 60 [.int .u64 (wd T i : Int)] = some [.int .u64 (wd T i : Int)] := fun i => by
    simp [Program.keyLits, Try.underlying60, wd_wf]
  unfold Program.keyLits
  simp only [Try.underlying110]
  rw [keyCells, u64Cells]
  rw [if_pos (by simp [kyl])]
  simp only [kyl, List.range, List.range.loop, List.map, Nat.mul_one]
  simp [e]
set_option maxRecDepth 100000 in
theorem kySize : ∃ n, Try.prog.types.size = n + 1 := ⟨_, (rfl : Try.prog.types.size = (Try.prog.types.size - 1) + 1)⟩
theorem ky_key (T : Bf) : keyOf Try.prog 110 (kyV T) = some (kyL T) := by
  obtain ⟨n, hn⟩ := kySize
  have hl := kyLits n T
  have hf : (kyV T).formed Try.prog 110 = true := by
    simp [kyV, Value.formed, Try.underlying110, keyCells]
  unfold keyOf
  rw [Try.underlying110]
  simp only [keyKey, hf, hn, Bool.and_self, if_true, kyV_cells]
  rw [hl]
  rfl
/-- What is true below m alone. -/
def cutB (m : Nat) (T : Bf) : Bf := fun q => decide (q < m) && T q
theorem cutB_eq {m : Nat} {T U : Bf} (h : ∀ q, q < m → T q = U q) : cutB m T = cutB m U := by
  funext q
  unfold cutB
  by_cases hq : q < m
  · rw [h q hq]
  · simp [hq]
theorem ky_inj {m : Nat} (hm : m ≤ 640) {T U : Bf} : kyL (cutB m T) = kyL (cutB m U) ↔ ∀ q, q < m → T q = U q := by
  constructor
  · intro h q hq
    have h1 := ky_key (cutB m T)
    rw [h] at h1
    have h2 := keyLaw.inj h1 (ky_key (cutB m U))
    have h3 : ∀ i, i < 10 → wd (cutB m T) i = wd (cutB m U) i := by
      simp only [kyV, Value.agg.injEq, Array.mk.injEq, List.cons.injEq, Value.int.injEq, true_and, and_true, Int.ofNat_inj] at h2
      intro i hi
      obtain ⟨a0, a1, a2, a3, a4, a5, a6, a7, a8, a9⟩ := h2
      rcases (show i = 0 ∨ i = 1 ∨ i = 2 ∨ i = 3 ∨ i = 4 ∨ i = 5 ∨ i = 6 ∨ i = 7 ∨ i = 8 ∨ i = 9 by omega) with rfl | rfl | rfl | rfl | rfl | rfl | rfl | rfl | rfl | rfl <;> assumption
    have h4 := congrArg (fun x => x.testBit (q % 64)) (h3 (q / 64) (by omega))
    simp only [wd_testBit] at h4
    rw [show 64 * (q / 64) + q % 64 = q by omega] at h4
    have h5 : q % 64 < 64 := Nat.mod_lt _ (by decide)
    simp only [h5, decide_true, Bool.true_and, cutB, hq] at h4
    exact h4
  · intro h
    rw [cutB_eq h]
theorem ky_lit (T : Bf) : WideAt.IsKeyLit (kyL T) := keyLaw.key (ky_key T)
theorem zeroI11 (w : World) : (zeroValue 3).run Try.prog w = .ok (.int .i64 0) w := by kernel_rfl

abbrev Dm11 := DataW Unit
@[reducible] def iL11 (x : Int) : Dm11 := .lit (.int .i64 x)
/-- The map that has the number of each set. -/
def mpS (m : Nat) (L : List Bf) (D : Dm11) : Prop :=
  ∀ T : Bf, (fiS m L T < L.length → Maps.has D (kyL (cutB m T)) = true ∧ D.atKey (kyL (cutB m T)) (iL11 0) = iL11 (fiS m L T : Nat)) ∧ (¬ fiS m L T < L.length → Maps.has D (kyL (cutB m T)) = false)
theorem mpS_nil (m : Nat) : mpS m [] (.map []) := fun _ => ⟨fun h => absurd h (Nat.not_lt_zero _), fun _ => rfl⟩
theorem fiS_app {m : Nat} {L : List Bf} {X T : Bf} : fiS m (L ++ [X]) T = if fiS m L T < L.length then fiS m L T else if eqS m X T = true then L.length else L.length + 1 := by
  unfold fiS
  rw [List.findIdx_append]
  split
  · rfl
  · rw [List.findIdx_cons]
    cases eqS m X T <;> simp <;> omega
theorem mpS_new {m : Nat} (hm : m ≤ 640) {L : List Bf} {X : Bf} {D : Dm11} (h : mpS m L D) (ht : Maps.Tidy D) (hX : ¬ fiS m L X < L.length) : mpS m (L ++ [X]) (D.put (kyL (cutB m X)) (iL11 (L.length : Nat))) := by
  intro T
  rw [fiS_app]
  by_cases e : eqS m X T = true
  · have e2 := eqS_iff.1 e
    have hk : kyL (cutB m T) = kyL (cutB m X) := (ky_inj hm).2 fun q hq => (e2 q hq).symm
    have hf : ¬ fiS m L T < L.length := by
      intro g
      apply hX
      have : fiS m L X = fiS m L T := by
        unfold fiS
        congr 1
        funext U
        rw [Bool.eq_iff_iff, eqS_iff, eqS_iff]
        exact ⟨fun k q hq => (k q hq).trans (e2 q hq), fun k q hq => (k q hq).trans (e2 q hq).symm⟩
      rw [this]; exact g
    rw [hk, if_neg hf, if_pos e]
    refine ⟨fun _ => ⟨Maps.has_put_same ht.isMap (ky_lit _) _, ?_⟩, fun g => absurd (by simp) g⟩
    rw [Maps.atKey_put_same ht.isMap (ky_lit _)]
  · have hk : kyL (cutB m T) ≠ kyL (cutB m X) := fun g => e (eqS_iff.2 fun q hq => ((ky_inj hm).1 g q hq).symm)
    rw [Maps.has_put_other hk, Maps.atKey_put_other hk]
    obtain ⟨h1, h2⟩ := h T
    by_cases hf : fiS m L T < L.length
    · rw [if_pos hf]
      exact ⟨fun _ => h1 hf, fun g => absurd (by simp; omega) g⟩
    · rw [if_neg hf, if_neg e]
      exact ⟨fun g => by simp at g, fun _ => h2 hf⟩
end Go.Proofs.Ytepegohopgnmnaa

namespace Go.Proofs.Ytepegohopgnmnaa
open Go.RowKit

/-- A set with one number more. -/
def putK (f : Nat → Bool) (c : Nat) (x : Nat) : Bool := f x || decide (x = c)
theorem putK_hit (f : Nat → Bool) (c i : Nat) (hi : c / 64 = i) : bits .or .u64 (wd f i : Int) (IntKind.u64.wrap (2 ^ (c % 64))) = (wd (putK f c) i : Nat) := by
  rw [word_put _ _ _ (Nat.mod_lt _ (by decide)), show 64 * i + c % 64 = c from by omega]
  rfl
theorem putK_miss (f : Nat → Bool) (c i : Nat) (hi : c / 64 ≠ i) : wd f i = wd (putK f c) i := (word_put_other f i c hi).symm
/-- A list that names what is true below m. -/
def lsT (m n : Nat) (l : Nat → Int) (T : Bf) : Prop := (∀ i, i < n → ∃ q : Nat, q < m ∧ l i = (q : Int) ∧ T q = true) ∧ ∀ q, q < m → T q = true → ∃ i, i < n ∧ l i = (q : Int)
def upK11 (l : Nat → Int) (i : Nat) : Bf := fun q => (List.range i).any fun j => l j == (q : Int)
theorem upK11_zero (l : Nat → Int) : upK11 l 0 = fun _ => false := rfl
theorem upK11_succ {l : Nat → Int} {i x : Nat} (h : l i = (x : Int)) : upK11 l (i + 1) = putK (upK11 l i) x := by
  funext q
  unfold upK11 putK
  rw [List.range_succ, List.any_append]
  congr 1
  simp only [List.any_cons, List.any_nil, Bool.or_false, h]
  rw [Bool.eq_iff_iff]
  simp
  omega
theorem upK11_end {m n : Nat} {l : Nat → Int} {T : Bf} (h : lsT m n l T) : upK11 l n = cutB m T := by
  funext q
  unfold upK11 cutB
  rw [Bool.eq_iff_iff]
  simp only [List.any_eq_true, List.mem_range, beq_iff_eq, Bool.and_eq_true, decide_eq_true_eq]
  constructor
  · rintro ⟨j, hj, he⟩
    obtain ⟨q', h1, h2, h3⟩ := h.1 j hj
    have : q' = q := by omega
    subst this
    exact ⟨h1, h3⟩
  · rintro ⟨h1, h2⟩
    exact h.2 q h1 h2
theorem lsT_nmd {m n : Nat} {l : Nat → Int} {T : Bf} (h : lsT m n l T) (q : Nat) : nmd m n l q ↔ q < m ∧ T q = true := by
  constructor
  · rintro ⟨h1, i, h2, h3⟩
    obtain ⟨q', k1, k2, k3⟩ := h.1 i h2
    have : q' = q := by omega
    subst this
    exact ⟨h1, k3⟩
  · rintro ⟨h1, h2⟩
    exact ⟨h1, h.2 q h1 h2⟩

/-- A block that holds a key. -/
def isKy (w : World) (b : Nat) (T : Bf) : Prop := w.heap[b]? = some (.cells (kyl T).toArray 110 (0, 0))
theorem kyl_at (T : Bf) (i : Nat) (h : i < 10) : (kyl T)[i]? = some (.int .u64 (wd T i : Int)) := by simp [kyl, h]
theorem kyl_set (T : Bf) (x : Nat) : (kyl T).set (x / 64) (.int .u64 (wd (putK T x) (x / 64) : Int)) = kyl (putK T x) := by
  unfold kyl
  apply List.ext_getElem
  · simp
  · intro i h1 h2
    simp only [List.getElem_set, List.getElem_map, List.getElem_range]
    by_cases h : x / 64 = i
    · rw [if_pos h, h]
    · rw [if_neg h, ← putK_miss T x i h]
theorem isKy.lt {w : World} {b : Nat} {T : Bf} (h : isKy w b T) : b < w.heap.size := lt_of_block h
theorem isKy.cell {w : World} {b : Nat} {T : Bf} (h : isKy w b T) (i : Nat) (hi : i < 10) : w.cell? ⟨b, i, none⟩ = some (.int .u64 (wd T i : Int)) := by
  unfold isKy at h
  simp [World.cell?, h, kyl_at T i hi]
theorem isKy.free {w : World} {b : Nat} {T : Bf} (h : isKy w b T) (i : Nat) : w.frozen? ⟨b, i, none⟩ = false := by
  unfold isKy at h
  simp [World.frozen?, h]
theorem isKy.put {w : World} {b : Nat} {T : Bf} (h : isKy w b T) (x : Nat) : isKy (w.setCell ⟨b, x / 64, none⟩ (.int .u64 (wd (putK T x) (x / 64) : Int))) b (putK T x) := by
  have h1 := heap_setCell_same w b (x / 64) _ _ (.int .u64 (wd (putK T x) (x / 64) : Int)) h
  unfold isKy
  rw [h1, ← kyl_set T x]
  simp
theorem isKy.stored {w : World} {b : Nat} {T : Bf} (h : isKy w b T) (V : Bf) : isKy ((((((((((w.setCell ⟨b, 0, none⟩ (.int .u64 (wd V 0 : Int))).setCell ⟨b, 1, none⟩ (.int .u64 (wd V 1 : Int))).setCell ⟨b, 2, none⟩ (.int .u64 (wd V 2 : Int))).setCell ⟨b, 3, none⟩ (.int .u64 (wd V 3 : Int))).setCell ⟨b, 4, none⟩ (.int .u64 (wd V 4 : Int))).setCell ⟨b, 5, none⟩ (.int .u64 (wd V 5 : Int))).setCell ⟨b, 6, none⟩ (.int .u64 (wd V 6 : Int))).setCell ⟨b, 7, none⟩ (.int .u64 (wd V 7 : Int))).setCell ⟨b, 8, none⟩ (.int .u64 (wd V 8 : Int))).setCell ⟨b, 9, none⟩ (.int .u64 (wd V 9 : Int))) b V := by
  have h0 := heap_setCell_same w b 0 _ _ (.int .u64 (wd V 0 : Int)) h
  have h1 := heap_setCell_same _ b 1 _ _ (.int .u64 (wd V 1 : Int)) h0
  have h2 := heap_setCell_same _ b 2 _ _ (.int .u64 (wd V 2 : Int)) h1
  have h3 := heap_setCell_same _ b 3 _ _ (.int .u64 (wd V 3 : Int)) h2
  have h4 := heap_setCell_same _ b 4 _ _ (.int .u64 (wd V 4 : Int)) h3
  have h5 := heap_setCell_same _ b 5 _ _ (.int .u64 (wd V 5 : Int)) h4
  have h6 := heap_setCell_same _ b 6 _ _ (.int .u64 (wd V 6 : Int)) h5
  have h7 := heap_setCell_same _ b 7 _ _ (.int .u64 (wd V 7 : Int)) h6
  have h8 := heap_setCell_same _ b 8 _ _ (.int .u64 (wd V 8 : Int)) h7
  have h9 := heap_setCell_same _ b 9 _ _ (.int .u64 (wd V 9 : Int)) h8
  unfold isKy
  rw [h9]
  simp [kyl, List.range, List.range.loop]
theorem isKy.cells {w : World} {b : Nat} {T : Bf} (h : isKy w b T) : w.cell? ⟨b, 0, none⟩ = some (.int .u64 (wd T 0 : Int)) ∧ w.cell? ⟨b, 1, none⟩ = some (.int .u64 (wd T 1 : Int)) ∧ w.cell? ⟨b, 2, none⟩ = some (.int .u64 (wd T 2 : Int)) ∧ w.cell? ⟨b, 3, none⟩ = some (.int .u64 (wd T 3 : Int)) ∧ w.cell? ⟨b, 4, none⟩ = some (.int .u64 (wd T 4 : Int)) ∧ w.cell? ⟨b, 5, none⟩ = some (.int .u64 (wd T 5 : Int)) ∧ w.cell? ⟨b, 6, none⟩ = some (.int .u64 (wd T 6 : Int)) ∧ w.cell? ⟨b, 7, none⟩ = some (.int .u64 (wd T 7 : Int)) ∧ w.cell? ⟨b, 8, none⟩ = some (.int .u64 (wd T 8 : Int)) ∧ w.cell? ⟨b, 9, none⟩ = some (.int .u64 (wd T 9 : Int)) :=
  ⟨h.cell 0 (by decide), h.cell 1 (by decide), h.cell 2 (by decide), h.cell 3 (by decide), h.cell 4 (by decide), h.cell 5 (by decide), h.cell 6 (by decide), h.cell 7 (by decide), h.cell 8 (by decide), h.cell 9 (by decide)⟩
theorem isKy.frees {w : World} {b : Nat} {T : Bf} (h : isKy w b T) : w.frozen? ⟨b, 0, none⟩ = false ∧ w.frozen? ⟨b, 1, none⟩ = false ∧ w.frozen? ⟨b, 2, none⟩ = false ∧ w.frozen? ⟨b, 3, none⟩ = false ∧ w.frozen? ⟨b, 4, none⟩ = false ∧ w.frozen? ⟨b, 5, none⟩ = false ∧ w.frozen? ⟨b, 6, none⟩ = false ∧ w.frozen? ⟨b, 7, none⟩ = false ∧ w.frozen? ⟨b, 8, none⟩ = false ∧ w.frozen? ⟨b, 9, none⟩ = false :=
  ⟨h.free 0, h.free 1, h.free 2, h.free 3, h.free 4, h.free 5, h.free 6, h.free 7, h.free 8, h.free 9⟩
theorem isKy.below {w w' : World} {b B : Nat} {T : Bf} (h : isKy w b T) (hB : Below B w w') (hb : b < B) : isKy w' b T := (hB.block b hb).trans h
theorem isKy.other {w : World} {b : Nat} {T : Bf} (h : isKy w b T) {a : Addr} (ha : b ≠ a.block) (v : Value) : isKy (w.setCell a v) b T := (heap_setCell_other w a b v ha).trans h
theorem kyl_zero : (kyl (fun _ => false)).toArray = #[.int .u64 0, .int .u64 0, .int .u64 0, .int .u64 0, .int .u64 0, .int .u64 0, .int .u64 0, .int .u64 0, .int .u64 0, .int .u64 0] := by
  simp only [kyl, List.range, List.range.loop, List.map, word_none (fun _ => false) _ fun _ _ => rfl]
  rfl
theorem isKy.newNone (w : World) : isKy (w.alloc (.cells #[.int .u64 0, .int .u64 0, .int .u64 0, .int .u64 0, .int .u64 0, .int .u64 0, .int .u64 0, .int .u64 0, .int .u64 0, .int .u64 0] 110)) w.heap.size (fun _ => false) := by
  unfold isKy
  rw [kyl_zero]
  exact heap_alloc_new w _
theorem isKy.new (w : World) (V : Bf) : isKy (w.alloc (.cells #[.int .u64 (wd V 0 : Int), .int .u64 (wd V 1 : Int), .int .u64 (wd V 2 : Int), .int .u64 (wd V 3 : Int), .int .u64 (wd V 4 : Int), .int .u64 (wd V 5 : Int), .int .u64 (wd V 6 : Int), .int .u64 (wd V 7 : Int), .int .u64 (wd V 8 : Int), .int .u64 (wd V 9 : Int)] 110)) w.heap.size V := heap_alloc_new w _
theorem isKy.alloc {w : World} {b : Nat} {T : Bf} (h : isKy w b T) (o : Obj) : isKy (w.alloc o) b T := (Below.heap_alloc w o b h.lt).trans h

set_option maxRecDepth 100000 in
set_option maxHeartbeats 8000000 in
theorem keyOf_is (q : Option Addr) (n c m : Nat) (l : Nat → Int) (T : Bf) (hm : m ≤ 640) (hn : n ≤ 100000) (hT : lsT m n l T) (w : World) (hl : rdL w q n l) :
    Calls Try.prog 67 #[.slice q n c] w fun e w' => e = .returned (kyV (cutB m T)) ∧ Below w.heap.size w w' := by
  obtain ⟨h, hh⟩ : ∃ h, w.heap.size = h := ⟨_, rfl⟩
  obtain ⟨W, hW⟩ : ∃ W, (w.alloc (.cells #[.int .u64 0, .int .u64 0, .int .u64 0, .int .u64 0, .int .u64 0, .int .u64 0, .int .u64 0, .int .u64 0, .int .u64 0, .int .u64 0] 110)).alloc (.cells #[.int .u64 0, .int .u64 0, .int .u64 0, .int .u64 0, .int .u64 0, .int .u64 0, .int .u64 0, .int .u64 0, .int .u64 0, .int .u64 0] 110) = W := ⟨_, rfl⟩
  have hk1 : isKy W h (fun _ => false) := hW ▸ hh ▸ (isKy.newNone w).alloc _
  have hk2 : isKy W (h + 1) (fun _ => false) := by
    have := isKy.newNone (w.alloc (.cells #[.int .u64 0, .int .u64 0, .int .u64 0, .int .u64 0, .int .u64 0, .int .u64 0, .int .u64 0, .int .u64 0, .int .u64 0, .int .u64 0] 110))
    rw [hW, World.size_alloc, hh] at this
    exact this
  have hb : Below h w W := hW ▸ ((Below.refl _ _).alloc (by omega) _).alloc (by rw [World.size_alloc]; omega) _
  have HK1 := Lib.hid hk1; have HK2 := Lib.hid hk2; have HB0 := Lib.hid hb
  have HW := Lib.hid hW; have HH := Lib.hid hh
  have HL := Lib.hid hl
  have HT := Lib.hid hT
  have n0 : (0 : Int) ≤ (n : Int) := by omega
  clear hk1 hk2 hb hW hl hT
  go_enter Try.func67, Try.ntmps67
  go_upto_region 2 with (fail)
  rw [HW.out]
  clear hh
  go_wp2_with fail
  go_loopw [8] (fun iv wr => ∃ i : Nat, i ≤ n ∧ iv = .int .i64 i ∧ Hid (isKy wr (h + 1) (upK11 l i)) ∧ Hid (isKy wr h (fun _ => false)) ∧ Hid (Below h w wr)) (fun iv _ => n - (intOf iv).toNat)
  case atStart => exact ⟨0, Nat.zero_le _, rfl, HK2, HK1, HB0⟩
  case round =>
    clear HK1 HK2 HB0
    obtain ⟨i, hi, rfl, HK2, HK1, HB⟩ := hrel
    by_cases hlti : i < n
    · have i0 : (0 : Int) ≤ (i : Int) := by omega
      have i1 : (i : Int) < (n : Int) := by omega
      obtain ⟨lb, lo, rfl, hlb, hlc⟩ := (HL.out.below (HH.out.symm ▸ HB.out)) i hlti
      obtain ⟨x, hx, hlx, -⟩ := HT.out.1 i hlti
      rw [hlx] at hlc
      have HS := Lib.hid (upK11_succ hlx)
      obtain ⟨k, hk⟩ : ∃ k, x / 64 = k := ⟨_, rfl⟩
      obtain ⟨r, hr⟩ : ∃ r, x % 64 = r := ⟨_, rfl⟩
      have x0 : (0 : Int) ≤ (x : Int) := by omega
      have k0 : (0 : Int) ≤ (k : Int) := by omega
      have k1 : (k : Int) < 10 := by omega
      have r0 : (0 : Int) ≤ (r : Int) := by omega
      have r1 : (r : Int) < 64 := by omega
      have hq1 : ((x : Int) / 64) = (k : Int) := by omega
      have hq2 : ((x : Int) % 64) = (r : Int) := by omega
      have hit : bits .or .u64 (wd (upK11 l i) k : Int) (IntKind.u64.wrap (2 ^ r)) = (wd (putK (upK11 l i) x) k : Nat) := by
        rw [← hr, ← hk]; exact putK_hit (upK11 l i) x _ rfl
      have c0 := HK2.out.cell k (by omega)
      have f0 := HK2.out.free k
      have hg := HK2.out.lt
      have HK4 : Hid (isKy (wr.setCell ⟨h + 1, k, none⟩ (.int .u64 (wd (putK (upK11 l i) x) k : Int))) (h + 1) (upK11 l (i + 1))) := Lib.hid (by
        have := HK2.out.put x
        rw [hk, ← HS.out] at this
        rw [← HS.out]; exact this)
      have HK3 : Hid (isKy (wr.setCell ⟨h + 1, k, none⟩ (.int .u64 (wd (putK (upK11 l i) x) k : Int))) h (fun _ => false)) := Lib.hid (HK1.out.other (by simp) _)
      have HB2 : Hid (Below h w (wr.setCell ⟨h + 1, k, none⟩ (.int .u64 (wd (putK (upK11 l i) x) k : Int)))) := Lib.hid (HB.out.setCell (p := ⟨h + 1, k, none⟩) (Nat.le_succ h) _)
      obtain ⟨u, hu⟩ : ∃ u : Int, ((wd (upK11 l i) k : Nat) : Int) = u := ⟨_, rfl⟩
      obtain ⟨u', hu'⟩ : ∃ u' : Int, ((wd (putK (upK11 l i) x) k : Nat) : Int) = u' := ⟨_, rfl⟩
      rw [hu] at hit c0
      rw [hu'] at hit HK4 HK3 HB2
      clear hu hu' hlx hk hr HS HK1 HK2 HB
      go_wp2_with fail
      go_region
      have HBd := Lib.hid HB2.out.drew
      go_wp2_with fail
      go_roundw
      case rel => exact ⟨i + 1, by omega, by go_num, Lib.hid HK4.out, Lib.hid HK3.out, HBd⟩
      case measure => simp [intOf]; omega
    · obtain rfl : i = n := by omega
      have HE := Lib.hid (upK11_end HT.out)
      obtain ⟨V, hV⟩ : ∃ V, upK11 l i = V := ⟨_, rfl⟩
      rw [hV] at HK2 HE
      obtain ⟨W2, hW2⟩ : ∃ W2, ((((((((((wr.setCell ⟨h, 0, none⟩ (.int .u64 (wd V 0 : Int))).setCell ⟨h, 1, none⟩ (.int .u64 (wd V 1 : Int))).setCell ⟨h, 2, none⟩ (.int .u64 (wd V 2 : Int))).setCell ⟨h, 3, none⟩ (.int .u64 (wd V 3 : Int))).setCell ⟨h, 4, none⟩ (.int .u64 (wd V 4 : Int))).setCell ⟨h, 5, none⟩ (.int .u64 (wd V 5 : Int))).setCell ⟨h, 6, none⟩ (.int .u64 (wd V 6 : Int))).setCell ⟨h, 7, none⟩ (.int .u64 (wd V 7 : Int))).setCell ⟨h, 8, none⟩ (.int .u64 (wd V 8 : Int))).setCell ⟨h, 9, none⟩ (.int .u64 (wd V 9 : Int))) = W2 := ⟨_, rfl⟩
      have HF : Hid (Below h w W2) := Lib.hid (hW2 ▸ ((((((((((HB.out.setCell (p := ⟨h, 0, none⟩) (Nat.le_refl _) _).setCell (p := ⟨h, 1, none⟩) (Nat.le_refl _) _).setCell (p := ⟨h, 2, none⟩) (Nat.le_refl _) _).setCell (p := ⟨h, 3, none⟩) (Nat.le_refl _) _).setCell (p := ⟨h, 4, none⟩) (Nat.le_refl _) _).setCell (p := ⟨h, 5, none⟩) (Nat.le_refl _) _).setCell (p := ⟨h, 6, none⟩) (Nat.le_refl _) _).setCell (p := ⟨h, 7, none⟩) (Nat.le_refl _) _).setCell (p := ⟨h, 8, none⟩) (Nat.le_refl _) _).setCell (p := ⟨h, 9, none⟩) (Nat.le_refl _) _))
      have Z := Lib.hid (isKy.cells (hW2 ▸ HK1.out.stored V : isKy W2 h V))
      obtain ⟨c0, c1, c2, c3, c4, c5, c6, c7, c8, c9⟩ := HK2.out.cells
      obtain ⟨f0, f1, f2, f3, f4, f5, f6, f7, f8, f9⟩ := HK1.out.frees
      obtain ⟨e0, e1, e2, e3, e4, e5, e6, e7, e8, e9⟩ := HK1.out.cells
      have g1 := HK1.out.lt
      have g2 := HK2.out.lt
      have HW2 := Lib.hid hW2
      clear hV HB hW2 HK1 HK2
      go_wp2_with fail
      rw [HW2.out]
      refine bodyPost_ret (v := kyV V) (by simp [results, Try.results67, go_sem, Z.out, kyV]) rfl ?_
      exact ⟨by rw [HE.out] <;> rfl, HH.out.symm ▸ HF.out⟩
end Go.Proofs.Ytepegohopgnmnaa

namespace Go.Proofs.Ytepegohopgnmnaa
open Go.RowKit

theorem gsR.kept_of {w w' : World} {base : Nat} {v : Value} {r C : Nat → Nat} {m : Nat} {L : List Bf} (h : gsR w base v r C m L) {b2 e2 s2 n2 : Nat} {v2 : Value} {x2 : List Value} (ho : w.ownsRow b2 e2 s2 v2 n2 x2) (hg : w.grownBy w' v2.ownBlock) (h1 : 28 ≠ e2) (h2 : 4 ≠ e2) : gsR w' base v r C m L :=
  ⟨h.1.kept hg (rows_apt7 h.1 ho h1), fun i hi => World.ownsRow.kept (h.2 i hi) hg (rows_apt7 (h.2 i hi) ho h2)⟩
theorem lg_old {L : List Bf} {X : Bf} {i : Nat} (h : i < L.length) : lg (L ++ [X]) i = lg L i := by
  unfold lg
  rw [List.getD_eq_getElem?_getD, List.getD_eq_getElem?_getD, List.getElem?_append_left h]
theorem lg_new (L : List Bf) (X : Bf) : lg (L ++ [X]) L.length = X := by
  unfold lg
  rw [List.getD_eq_getElem?_getD]
  simp
def updN (f : Nat → Nat) (k x : Nat) : Nat → Nat := fun i => if i = k then x else f i
theorem append_gs {w : World} {ops : Array Oper} {rest : List Oper} {o : Oper} {a : Act} {Q : Exit → Act → World → Prop} (hgd : o.guard = none) (s x : Operand)
    (ho : o.op = .call { callee := .builtin .append, args := #[s, x], argTypes := #[44, 44] }) (base : Nat) (v : Value) (r C : Nat → Nat) (m : Nat) (L : List Bf) (hs : a.eval s = v)
    (hown : gsR w base v r C m L) (g G c : Nat) (X : Bf) (hrow : blR w base G c m X) (hx : a.eval x = .slice (some ⟨g, 0, none⟩) 1 1)
    (hcell : w.cell? ⟨g, 0, none⟩ = some (.slice (some ⟨G, 0, none⟩) m c)) (hlen : L.length ≤ 10000) (hbase : base ≤ w.heap.size)
    (h : ∀ v' w', gsR w' base v' (updN r L.length G) (updN C L.length c) m (L ++ [X]) → w.grownBy w' v.ownBlock → wpList Try.prog ops Q rest (a.put o.dst v') w') : wpList Try.prog ops Q (o :: rest) a w := by
  obtain ⟨i0, hi, hz0, hz1, hz2⟩ := info_parts infoRowB
  refine wpList_append_own w hgd s x 44 ho base 28 i0 (.slice none 0 0) 1 24 Try.underlying44 hi hz0 hz1 hz2 rfl (by decide) v L.length (gvs r C m L.length) hs hown.1 ⟨g, 0, none⟩ 1 1 [.slice (some ⟨G, 0, none⟩) m c] hx rfl ?_ ?_ (by unfold maxLen; omega) (by omega) hbase ?_
  · intro j u hu
    match j, hu with
    | 0, hu => simp at hu; subst hu; simpa [Addr.add] using hcell
  · intro u hu
    have : u = .slice (some ⟨G, 0, none⟩) m c := by simpa using hu
    subst this; rfl
  · intro v' w' h1 h2 _
    refine h v' w' ⟨?_, fun i hi => ?_⟩ h2
    · rw [show (L ++ [X]).length = L.length + 1 by simp, gvs_succ, gvs_same m (r := updN r L.length G) (r' := r) (C := updN C L.length c) (C' := C) (fun i hi => ⟨if_neg (by omega), if_neg (by omega)⟩)]
      unfold updN
      rw [if_pos rfl, if_pos rfl]
      exact h1
    · unfold updN
      by_cases e : i = L.length
      · subst e
        rw [if_pos rfl, if_pos rfl, lg_new]
        exact World.ownsRow.kept hrow h2 (rows_apt7 hrow hown.1 (by decide))
      · have hil : i < L.length := by simp at hi; omega
        rw [if_neg e, if_neg e, lg_old hil]
        exact World.ownsRow.kept (hown.2 i hil) h2 (rows_apt7 (hown.2 i hil) hown.1 (by decide))
/-- Each class has a first place. -/
theorem fsY_int {S : Nat → Sd} {m c : Nat} (h : c < wdY S m) : fsA (fun x => (clA (alk S m) x : Nat)) 259 (c : Nat) = (fsY S m c : Nat) ∧ fsY S m c < 259 := by
  obtain ⟨y, h1, h2, h3⟩ := cntT_onto (T := isH (alk S m)) (m := 259) (j := c) h
  have hc : clA (alk S m) y = c := (clA_head h2).trans h3
  have hh : hdA (alk S m) y = y := by unfold isH at h2; exact beq_iff_eq.1 h2
  have e : (List.range 259).find? (fun i => (((clA (alk S m) i : Nat) : Int) == (c : Int))) = some y := by
    refine find_range h1 (by simp [hc]) fun j hj => ?_
    rw [beq_eq_false_iff_ne]
    intro g
    have : alk S m j y = true := (clA_iff (alk_eq S m)).1 (by omega)
    have h5 := hdA_least (R := alk S m) (x := y) (k := j) (by omega)
    rw [this] at h5
    cases h5
  unfold fsY fsA
  rw [e]
  exact ⟨by simp, by simp; omega⟩
theorem wdY_le (S : Nat → Sd) (m : Nat) : wdY S m ≤ 259 := cntT_le _ _
/-- An append of one place that a literal holds. -/
theorem append_nx11 {w : World} {ops : Array Oper} {rest : List Oper} {o : Oper} {a : Act} {Q : Exit → Act → World → Prop} (hgd : o.guard = none) (s x : Operand)
    (ho : o.op = .call { callee := .builtin .append, args := #[s, x], argTypes := #[27, 27] }) (base : Nat) (v : Value) (B : List Nat) (hs : a.eval s = v)
    (hown : spO w base v B) (g : Nat) (x0 : Nat) (hx : a.eval x = .slice (some ⟨g, 0, none⟩) 1 1)
    (hcell : w.cell? ⟨g, 0, none⟩ = some (.int .i64 (x0 : Int))) (hlen : B.length ≤ 1000000) (hbase : base ≤ w.heap.size)
    (h : ∀ v' w', spO w' base v' (B ++ [x0]) → w.grownBy w' v.ownBlock → wpList Try.prog ops Q rest (a.put o.dst v') w') : wpList Try.prog ops Q (o :: rest) a w := by
  obtain ⟨i0, hi, hz0, hz1, hz2⟩ := info_parts infoInt9w
  refine wpList_append_own w hgd s x 27 ho base 3 i0 (.int .i64 0) 1 8 Try.underlying27 hi hz0 hz1 hz2 rfl (by decide) v B.length (spl9 B) hs hown ⟨g, 0, none⟩ 1 1 (spl9 [x0]) hx (by rw [spl9_len]; rfl) ?_ (spl9_cell _) (by unfold maxLen; omega) (by omega) hbase ?_
  · intro j u hu
    match j, hu with
    | 0, hu => simp [spl9] at hu; subst hu; simpa [Addr.add] using hcell
  · intro v' w' h1 h2 _
    refine h v' w' ?_ h2
    rw [← spl9_append] at h1
    unfold spO
    rw [List.length_append]; exact h1
theorem spO.rd11 {w : World} {base : Nat} {p : Option Addr} {c : Nat} {B : List Nat} (h : spO w base (.slice p B.length c) B) : rdL w p B.length (fun j => ((B.getD j 0 : Nat) : Int)) := fun j hj => by
  rcases id h.2 with ⟨_, e⟩ | ⟨g, cp, cur, e, _⟩
  · omega
  · cases e
    refine ⟨g, 0, rfl, (World.ownsRow.lt h g rfl).2, ?_⟩
    rw [Nat.zero_add, World.ownsRow.cellAt h j (by omega)]
    simp [spl9, List.getD_eq_getElem?_getD, hj]
theorem spO.grow11 {w w' : World} {base B : Nat} {v : Value} {l : List Nat} (hB : B ≤ base) (hw : B ≤ w.heap.size) (ho : spO w base v l) (h : w.grownBy w' v.ownBlock) : Below B w w' :=
  (Below.refl B w).grown h hw (fun r hr => Nat.le_trans hB (ho.lt r hr).1)
end Go.Proofs.Ytepegohopgnmnaa
