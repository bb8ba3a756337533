/-
  The library's slices.DeleteFunc at the function that the parts' part hands over, laid at this program.
-/
import Derived.Shelf.SlicesE.DeleteFunc
import Derived.Test.YtefpoapbodbenaaPk46
import Derived.BigQuiet
import Derived.Deep.QuietTactic
namespace Go.Proofs.Ytefpoapbodbenaa
open Go.RowKit Go.Sort Go.Shelf

def ren13 : Go.Shelf.Ren := ⟨fun | 6 => 67 | 10 => 72 | n => n, fun | 0 => 0 | 3 => 3 | 4 => 4 | 22 => 22 | 23 => 3 | 25 => 100 | n => n, fun n => n⟩
theorem lays13 : SlLaysH.n10 Try.prog ren13 := {
  mixed := by kernel_rfl
  f6 := ⟨"slices.IndexFunc[[]int,int]", by decide, Try.func67.trans (congrArg some (by kernel_rfl))⟩
  f10 := ⟨"slices.DeleteFunc[[]int,int]", by decide, Try.func72.trans (congrArg some (by kernel_rfl))⟩
  t0 := Try.underlying0
  a0 := Try.isAgg0
  z0 := Try.sizeOf0
  v0 := Try.zeroValue0
  t3 := Try.underlying3
  a3 := Try.isAgg3
  z3 := Try.sizeOf3
  v3 := Try.zeroValue3
  t4 := Try.underlying4
  a4 := Try.isAgg4
  z4 := Try.sizeOf4
  v4 := Try.zeroValue4
  t22 := Try.underlying22
  a22 := Try.isAgg22
  z22 := Try.sizeOf22
  v22 := Try.zeroValue22
  a23 := Try.isAgg3
  z23 := Try.sizeOf3
  t25 := Try.underlying100
  a25 := Try.isAgg100
  z25 := Try.sizeOf100
  v25 := Try.zeroValue100 }

/-- Is a state of block k? -/
theorem isk13 (bp bk h g c n x y k : Nat) (W : World) (hx : x < n) (hp : W.cell? ⟨bp, 0, none⟩ = some (.pointer (some ⟨h, 0, none⟩))) (hk : W.cell? ⟨bk, 0, none⟩ = some (.int .i64 (k : Int))) (hh : W.cell? ⟨h, 0, none⟩ = some (.slice (some ⟨g, 0, none⟩) n c)) (hg : W.cell? ⟨g, x, none⟩ = some (.int .i64 (y : Int))) :
    FnGives Try.prog 73 #[.pointer (some ⟨bp, 0, none⟩), .pointer (some ⟨bk, 0, none⟩)] #[.int .i64 (x : Int)] (.bool (decide (y = k))) W := by
  show Calls Try.prog 73 #[.int .i64 (x : Int), .pointer (some ⟨bp, 0, none⟩), .pointer (some ⟨bk, 0, none⟩)] W _
  have x0 : (0 : Int) ≤ (x : Int) := by omega
  have x1 : (x : Int) < (n : Int) := by omega
  obtain ⟨r, hr⟩ : ∃ r, decide (y = k) = r := ⟨_, rfl⟩
  have hr2 : ((y : Int) == (k : Int)) = r := by
    rw [← hr, Bool.eq_iff_iff, beq_iff_eq, decide_eq_true_iff]
    omega
  rw [hr]
  clear hr hx
  go_enter Try.func73, Try.ntmps73
  go_upto_region 1 with (fail)
  go_quiet (fail)
  go_wp2_with fail
  go_returns
  exact ⟨rfl, _, rfl⟩

theorem putRow_block13 {α : Type} [Inhabited α] (enc : α → Value) (w : World) (b off : Nat) (d : Array α) (k : Nat) (hk : k ≠ b) : (putRow enc w b off d).heap[k]? = w.heap[k]? := by
  unfold putRow mapBlock
  simp only [Array.getElem?_modify]
  rw [if_neg (fun h => hk h.symm)]
theorem putRow_own13 {α : Type} [Inhabited α] (enc : α → Value) (w : World) (b off : Nat) (d : Array α) (c : Array Value) (t : TypeId) (fr : Nat × Nat) (h : w.heap[b]? = some (.cells c t fr)) :
    (putRow enc w b off d).heap[b]? = some (.cells (putCells enc off d c) t fr) := by
  unfold putRow mapBlock
  simp only [Array.getElem?_modify]
  rw [if_pos trivial, h]; rfl

set_option maxRecDepth 100000 in
set_option maxHeartbeats 4000000 in
theorem delete13 (bp bk h g c n k ga ca : Nat) (f : Nat → Nat) (A : List Nat) (w : World) (hn : 0 < n) (hA : ∀ x, x ∈ A → x < n) (hrow : w.ownsRow 0 3 1 (.slice (some ⟨ga, 0, none⟩) A.length ca) A.length (spl9 A))
    (hp : w.cell? ⟨bp, 0, none⟩ = some (.pointer (some ⟨h, 0, none⟩))) (hk : w.cell? ⟨bk, 0, none⟩ = some (.int .i64 (k : Int))) (hh : w.cell? ⟨h, 0, none⟩ = some (.slice (some ⟨g, 0, none⟩) n c)) (hg : ∀ x, x < n → w.cell? ⟨g, x, none⟩ = some (.int .i64 (f x : Int)))
    (n1 : bp ≠ ga) (n2 : bk ≠ ga) (n3 : h ≠ ga) (n4 : g ≠ ga) :
    Calls Try.prog 72 #[.slice (some ⟨ga, 0, none⟩) A.length ca, .func (.func 73) #[] #[.pointer (some ⟨bp, 0, none⟩), .pointer (some ⟨bk, 0, none⟩)]] w fun e w' => e = .returned (.slice (some ⟨ga, 0, none⟩) (A.filter fun i => !decide (f i = k)).length ca) ∧
      w'.ownsRow 0 3 1 (.slice (some ⟨ga, 0, none⟩) (A.filter fun i => !decide (f i = k)).length ca) (A.filter fun i => !decide (f i = k)).length (spl9 (A.filter fun i => !decide (f i = k))) ∧ w.grownBy w' (some ga) := by
  have hI : Inhabited (Fin n) := ⟨⟨0, hn⟩⟩
  obtain ⟨enc, henc⟩ : ∃ enc : Fin n → Value, enc = fun x => .int .i64 (x.val : Int) := ⟨_, rfl⟩
  obtain ⟨F, hF⟩ : ∃ F : Nat → Fin n, F = fun i => ⟨i % n, Nat.mod_lt _ hn⟩ := ⟨_, rfl⟩
  have hFv : ∀ i, i < n → enc (F i) = .int .i64 (i : Int) := fun i hi => by rw [henc, hF]; simp only; rw [Nat.mod_eq_of_lt hi]
  obtain ⟨p, hpd⟩ : ∃ p : Fin n → Bool, p = fun x => decide (f x.val = k) := ⟨_, rfl⟩
  have hFp : ∀ i, i < n → p (F i) = decide (f i = k) := fun i hi => by rw [hpd, hF]; simp only [Nat.mod_eq_of_lt hi]
  have lb : ∀ (b : Nat) (o : Nat) (v : Value), w.cell? ⟨b, o, none⟩ = some v → b < w.heap.size := fun b o v e => World.block_lt_of_cell? w ⟨b, o, none⟩ e
  obtain ⟨hlen, hcase⟩ := hrow
  rcases hcase with ⟨e, -⟩ | ⟨g', cap, cur, e, -, hcur, hle, hcm, hsz, htake⟩
  · cases e
  cases e
  have hga : ga < w.heap.size := (Array.getElem?_eq_some_iff.1 hcur).1
  have hgiv : ∀ (W : World) (x : Fin n), (∀ b o v, b ≠ ga → w.cell? ⟨b, o, none⟩ = some v → W.cell? ⟨b, o, none⟩ = some v) → FnGives Try.prog 73 #[.pointer (some ⟨bp, 0, none⟩), .pointer (some ⟨bk, 0, none⟩)] #[enc x] (.bool (p x)) W := fun W x hW => by
    rw [henc, hpd]
    exact isk13 bp bk h g c n x.val (f x.val) k W x.isLt (hW _ _ _ n1 hp) (hW _ _ _ n2 hk) (hW _ _ _ n3 hh) (hW _ _ _ n4 (hg x.val x.isLt))
  have hd : (A.map F).toArray.size = A.length := by simp
  have hget : ∀ j, (hj : j < A.length) → (A.map F).toArray[j]! = F A[j] := fun j hj => by
    rw [getElem!_pos (A.map F).toArray j (by simpa using hj)]; simp
  have hcells : ∀ j, (hj : j < A.length) → cur.toList[j]? = some (.int .i64 (A[j] : Int)) := fun j hj => by
    have h1 : (cur.toList.take (A.length * 1))[j]? = (spl9 A)[j]? := by rw [htake]
    rw [List.getElem?_take, if_pos (by omega)] at h1
    rw [h1]; simp [spl9, hj]
  have hcur2 : ∀ j, (hj : j < A.length) → cur[j]? = some (.int .i64 (A[j] : Int)) := fun j hj => by
    have := hcells j hj
    rwa [Array.getElem?_toList] at this
  have hdl := AnyE.slices_DeleteFunc lays13 enc (fun x => by rw [henc]; rfl) p 73 #[.pointer (some ⟨bp, 0, none⟩), .pointer (some ⟨bk, 0, none⟩)]
    (enters_of Try.func73 (by kernel_rfl) rfl) (F 0) (fun w => by
      rw [hFv 0 hn]
      exact Try.zeroValue3 w) ga 0 ca (A.map F).toArray w
    (fun W x hb => hgiv W x fun b o v _ e => hb.cell (p := ⟨b, o, none⟩) (lb b o v e) |>.trans e)
    (fun m os dk x hsz2 => hgiv _ x fun b o v hne e => by
      unfold sortWorld
      rw [cell?_grow _ _ _ (by show b < (putRow _ _ _ _ _).heap.size; rw [Go.Sort.size_putRow]; exact lb b o v e), cell?_putRow_other _ _ ga 0 _ _ (Or.inl hne)]
      exact e)
    (fun j hj => by
      rw [hd] at hj
      rw [hget j hj, hFv _ (hA _ (List.getElem_mem hj)), Nat.zero_add]
      exact ⟨by simp [World.cell?, hcur, hcur2 j hj], by simp [World.frozen?, hcur]⟩)
    (by rw [hd]; unfold maxLen at hcm; omega) (by rw [hd]; exact hle)
  have hfl : ((A.map F).toArray.toList.filter fun x => !p x) = (A.filter fun i => !decide (f i = k)).map F := by
    show ((A.map F).filter fun x => !p x) = _
    rw [List.filter_map]
    congr 1
    exact List.filter_congr fun i hi => by show (!p (F i)) = _; rw [hFp i (hA i hi)]
  rw [hfl, hd, List.length_map] at hdl
  have hml : ∀ x, x ∈ (A.filter fun i => !decide (f i = k)) → x < n := fun x hx => hA x (List.mem_filter.1 hx).1
  have hll : (A.filter fun i => !decide (f i = k)).length ≤ A.length := List.length_filter_le _ _
  generalize (A.filter fun i => !decide (f i = k)) = B at hdl hml hll ⊢
  refine hdl.mono ?_
  rintro e w' ⟨rfl, q, rfl⟩
  refine ⟨rfl, ⟨by rw [spl9_len]; omega, .inr ⟨ga, ca, _, rfl, Nat.zero_le _, putRow_own13 _ _ _ _ _ _ _ _ (show (Sort.ahead w q).heap[ga]? = _ from hcur), by omega, hcm, by simp [putCells, hsz], ?_⟩⟩, ⟨rfl, rfl, rfl, by rw [Go.Sort.size_putRow]; exact Nat.le_refl _, fun k' _ hk' => by rw [putRow_block13 _ _ _ _ _ _ (fun h => hk' (by rw [h]))]; rfl⟩⟩
  apply List.ext_getElem?
  intro j
  rw [List.getElem?_take]
  by_cases hj : j < B.length
  · rw [if_pos (by omega)]
    have hjc : j < cur.size := by omega
    have hjs : j < (B.map F ++ List.replicate (A.length - B.length) (F 0)).toArray.size := by simp; omega
    rw [Array.getElem?_toList, Array.getElem?_eq_getElem (by simp [putCells]; exact hjc)]
    simp only [putCells, Array.getElem_mapIdx]
    rw [if_pos ⟨Nat.zero_le _, by omega⟩, getElem!_pos _ _ (by rw [Nat.sub_zero]; exact hjs)]
    simp only [Nat.sub_zero, List.getElem_toArray]
    rw [List.getElem_append_left (by simpa using hj), List.getElem_map, hFv _ (hml _ (List.getElem_mem hj))]
    simp [spl9, hj]
  · rw [if_neg (by omega), List.getElem?_eq_none (by rw [spl9_len]; omega)]
end Go.Proofs.Ytefpoapbodbenaa
