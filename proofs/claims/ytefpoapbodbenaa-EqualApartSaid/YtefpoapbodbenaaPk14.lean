/-
  The walk of dfa.classesOf: the classes that have a symbol, by the library's contracts of slices.Sort and slices.Compact.
-/
import Derived.Test.YtefpoapbodbenaaPk7
import Derived.Test.YtefpoapbodbenaaPk13
import Derived.Test.YtefpoapbodbenaaPk9
import Derived.Shelf.Slices.Cells
import Derived.OwnWalk
namespace Go.Proofs.Ytefpoapbodbenaa
open Go.RowKit Go.Sort

def cmpI_ren : Go.Shelf.Ren := ⟨fun | 20 => 70 | n => n, fun | 22 => 22 | 3 => 3 | 4 => 4 | 0 => 0 | n => n, fun | n => n⟩
theorem cmpI_lays : Go.Proofs.Lays2.n20 Try.prog cmpI_ren := {
  mixed := by kernel_rfl
  f20 := Try.func70.trans (congrArg some (by kernel_rfl))
  t0 := Try.underlying0
  a0 := Try.isAgg0
  z0 := Try.sizeOf0
  v0 := Try.zeroValue0
  t3 := Try.underlying3
  a3 := Try.isAgg3
  z3 := Try.sizeOf3
  v3 := Try.zeroValue3
  t4 := Try.underlying4
  a4 := Try.isAgg4
  z4 := Try.sizeOf4
  v4 := Try.zeroValue4
  t22 := Try.underlying22
  a22 := Try.isAgg22
  z22 := Try.sizeOf22
  v22 := Try.zeroValue22
  i3 := infoInt9w }

theorem compact_mem (zs : List Int) (x : Int) : x ∈ Lib.compact zs ↔ x ∈ zs := by
  have hg : ∀ j, j < zs.length → zs.toArray[j]! ∈ zs := fun j hj => by
    rw [getElem!_pos zs.toArray j (by simpa using hj)]; simp
  unfold Lib.compact Lib.compactUpTo
  rw [List.mem_map]
  constructor
  · rintro ⟨j, hj, rfl⟩
    exact hg j (List.mem_range.1 (List.mem_filter.1 hj).1)
  · intro hx
    obtain ⟨j, hj, rfl⟩ := List.mem_iff_getElem.1 hx
    have key : ∀ j, j < zs.length → ∃ a, a ∈ (List.range zs.length).filter (Lib.keeps zs.toArray) ∧ zs.toArray[a]! = zs.toArray[j]! := by
      intro j
      induction j with
      | zero => exact fun h => ⟨0, List.mem_filter.2 ⟨List.mem_range.2 h, Lib.keeps_lt_one _ 0 (by omega)⟩, rfl⟩
      | succ j ih =>
        intro h
        by_cases e : zs.toArray[j + 1]! = zs.toArray[j + 1 - 1]!
        · obtain ⟨a, h1, h2⟩ := ih (by omega)
          exact ⟨a, h1, h2.trans e.symm⟩
        · exact ⟨j + 1, List.mem_filter.2 ⟨List.mem_range.2 h, Lib.keeps_pos e⟩, rfl⟩
    obtain ⟨a, h1, h2⟩ := key j hj
    refine ⟨a, h1, ?_⟩
    rw [h2, getElem!_pos zs.toArray j (by simpa using hj)]
    simp
theorem compact_len (zs : List Int) : (Lib.compact zs).length ≤ zs.length := by
  unfold Lib.compact Lib.compactUpTo
  rw [List.length_map]
  exact Nat.le_trans (List.length_filter_le _ _) (by simp)

/-- The numbers that a slice holds, as a list. -/
def lst12 (l : Nat → Int) (n : Nat) : List Int := (List.range n).map l
theorem lst12_len (l : Nat → Int) (n : Nat) : (lst12 l n).length = n := by simp [lst12]
theorem lst12_at (l : Nat → Int) (n j : Nat) (h : j < n) : (lst12 l n).toArray[j]! = l j := by
  rw [getElem!_pos _ j (by simp [lst12, h])]; simp [lst12]

set_option maxRecDepth 100000 in
set_option maxHeartbeats 4000000 in
theorem clone12 (q : Option Addr) (n cap : Nat) (l : Nat → Int) (h0 : 0 < n) (hn : n ≤ 1000) (w : World) (hr : rdL w q n l) :
    Calls Try.prog 52 #[.slice q n cap] w fun e w' => ∃ g c, e = .returned (.slice (some ⟨g, 0, none⟩) n c) ∧ n ≤ c ∧ spF w' w.heap.size (.slice (some ⟨g, 0, none⟩) n c) l n ∧ Below w.heap.size w w' := by
  obtain ⟨b, off, rfl, -, -⟩ := hr 0 h0
  obtain ⟨i0, hi, hz0, hz1, hz2⟩ := info_parts infoInt9w
  have heq : ∀ u : World, (binOp .eql 22 (.slice (some ⟨b, off, none⟩) n cap) (.slice none 0 0)).run Try.prog u = .ok (.bool false) u := fun u => Lib.run_eql_slice_nil u 22 3 _ _ _ _ _ Try.underlying22
  have hcells : ∀ j u, (fnv l n)[j]? = some u → w.cell? ((⟨b, off, none⟩ : Addr).add j) = some u := fun j u hu => by
    have hj : j < n := by
      have := (List.getElem?_eq_some_iff.1 hu).1
      rwa [fnv_len] at this
    obtain ⟨b', o', e, -, hc⟩ := hr j hj
    cases e
    rw [fnv_at l n j hj] at hu
    have ha : (⟨b, off, none⟩ : Addr).add j = ⟨b, off + j, none⟩ := by unfold Addr.add; split <;> simp_all
    rw [ha, hc, ← hu]
  have hal : Below w.heap.size w (w.alloc (.cells #[] 3)) := (Below.refl _ _).alloc (Nat.le_refl _) _
  have HC : Hid (∀ j u, (fnv l n)[j]? = some u → (w.alloc (.cells #[] 3)).cell? ((⟨b, off, none⟩ : Addr).add j) = some u) := Lib.hid fun j u hu => by
    have h1 := hcells j u hu
    have hj : j < n := by
      have := (List.getElem?_eq_some_iff.1 hu).1
      rwa [fnv_len] at this
    obtain ⟨b', o', e, hb, -⟩ := hr j hj
    cases e
    have ha : (⟨b, off, none⟩ : Addr).add j = ⟨b, off + j, none⟩ := by unfold Addr.add; split <;> simp_all
    rw [ha] at h1 ⊢
    rw [hal.cell hb]; exact h1
  have HO : Hid (∀ u ∈ fnv l n, u.oneCell' = true) := Lib.hid fun u hu => by
    unfold fnv at hu
    obtain ⟨t, _, rfl⟩ := List.mem_map.1 hu
    rfl
  clear hcells hal hr
  go_enter Try.func52, Try.ntmps52
  go_wp2_with (at_builtin; refine wpList_append_own _ rfl _ _ 22 rfl w.heap.size 3 i0 (.int .i64 0) 1 8 Try.underlying22 hi hz0 hz1 hz2 rfl (by decide) _ _ _ rfl (World.ownsRow_lit w #[] 0 (Nat.le_refl _) (by unfold maxLen; omega) rfl) ⟨b, off, none⟩ n cap (fnv l n) rfl ?u0 ?u1 ?u2 ?u3 ?u4 ?u5 ?_)
  case u0 => rw [fnv_len, Nat.mul_one]
  case u1 => exact HC.out
  case u2 => exact HO.out
  case u3 => unfold maxLen; omega
  case u4 => omega
  case u5 => simp
  intro v' w2 hown2 hgrow hnil
  rcases id hown2.2 with ⟨rfl, hx⟩ | ⟨g, c, cur, rfl, hg, hcur, hcap, _⟩
  · exfalso; omega
  · have H2 : Hid (spF w2 w.heap.size (.slice (some ⟨g, 0, none⟩) n c) l n) := Lib.hid (by
      have h := hown2
      first | exact h | (simp only [Nat.zero_add] at h; exact h) | (rw [show 0 + n = n by omega] at h; exact h) | (simp at h; exact h))
    have HB : Hid (Below w.heap.size w w2) := Lib.hid (((Below.refl _ _).alloc (Nat.le_refl _) _).grown hgrow (by simp) fun r hr => by cases hr; exact Nat.le_refl _)
    have HK : Hid (n ≤ c) := Lib.hid (by omega)
    clear hown2 hgrow hnil HC
    go_wp2
    go_ret
    exact ⟨_, _, rfl, HK.out, H2.out, HB.out⟩

/-- Numbers at a block's head, read. -/
theorem holds_rd {w : World} {g : Nat} {zs : List Int} (h : Holds (Value.int .i64) w g 0 zs.toArray) (hg : g < w.heap.size) {n : Nat} (hn : n ≤ zs.length) : rdL w (some ⟨g, 0, none⟩) n (fun j => zs.toArray[j]!) := fun j hj =>
  ⟨g, 0, rfl, hg, (h j (by simp; omega)).1⟩
theorem holds_grow {w : World} {g : Nat} {zs : List Int} (os : Array Obj) (h : Holds (Value.int .i64) w g 0 zs.toArray) (hg : g < w.heap.size) : Holds (Value.int .i64) (grow w os) g 0 zs.toArray := fun j hj => by
  have hb := grow_block9 w os g hg
  obtain ⟨h1, h2⟩ := h j hj
  refine ⟨?_, ?_⟩
  · unfold World.cell? at h1 ⊢
    rw [hb]; exact h1
  · unfold World.frozen? at h2 ⊢
    rw [hb]; exact h2
theorem put_below12 (w : World) (n : Nat) (b : Nat) (d : Array Int) (B : Nat) (hB : B ≤ b) : Below B w (putRow (Value.int .i64) (Sort.ahead w n) b 0 d) :=
  ⟨rfl, rfl, rfl, by rw [size_putRow]; exact Nat.le_refl _, fun k hk => putRow_block9 _ _ _ _ _ _ (by omega)⟩

/-- What classesOf tells. -/
def csPost (x : Da) (w : World) (e : Ending) (w' : World) : Prop :=
  ∃ g n c f, e = .returned (.slice (some ⟨g, 0, none⟩) n c) ∧ rdL w' (some ⟨g, 0, none⟩) n f ∧ n ≤ 259 ∧ (∀ y, (∃ i, i < n ∧ f i = y) ↔ ∃ j, j < 259 ∧ x.l0 j = y) ∧ Below w.heap.size w w' ∧ w.heap.size ≤ g

set_option maxRecDepth 100000 in
set_option maxHeartbeats 8000000 in
theorem classes12 (v : Value) (x : Da) (w : World) (hx : rgD x) (hd : daAt w v x) : Calls Try.prog 60 #[v] w (csPost x w) := by
  obtain ⟨D, hD⟩ : ∃ D, w.heap.size = D := ⟨_, rfl⟩
  obtain ⟨q0, c0, q1, c1, q2, c2, rfl, hr0, -, -⟩ := hd
  obtain ⟨w1, hw1⟩ : ∃ w1, w.alloc (.cells #[.slice q0 x.n0 c0, .int .i64 x.wd, .int .i64 x.st, .slice q1 x.n1 c1, .slice q2 x.n2 c2] 25) = w1 := ⟨_, rfl⟩
  have hz1 : w1.heap.size = D + 1 := by rw [← hw1, World.size_alloc, hD]
  have hb1 : Below D w w1 := hw1 ▸ (Below.refl _ _).alloc (by omega) _
  have hk1 : isDf w1 D q0 x.n0 c0 x.wd x.st q1 x.n1 c1 q2 x.n2 c2 := hw1 ▸ hD ▸ heap_alloc_new w _
  have hn0 : x.n0 = 259 := hx.1
  rw [hn0] at hr0 hw1 hk1 ⊢
  have HC := Lib.hid (clone12 q0 259 c0 x.l0 (by decide) (by decide) w1 (hr0.below (hD.symm ▸ hb1)))
  have HW1 := Lib.hid hw1; have HZ := Lib.hid hz1; have HG := Lib.hid hD; have HB1 := Lib.hid hb1
  obtain ⟨y0, y1, y2, y3, y4⟩ := hk1.cells
  obtain ⟨l0, hl0⟩ : ∃ l0, x.l0 = l0 := ⟨_, rfl⟩
  have HX : Hid (csPost x w = fun e w' => ∃ g n c f, e = .returned (.slice (some ⟨g, 0, none⟩) n c) ∧ rdL w' (some ⟨g, 0, none⟩) n f ∧ n ≤ 259 ∧ (∀ y, (∃ i, i < n ∧ f i = y) ↔ ∃ j, j < 259 ∧ l0 j = y) ∧ Below w.heap.size w w' ∧ w.heap.size ≤ g) := Lib.hid (by subst hl0; rfl)
  rw [HX.out]
  rw [hl0] at HC
  clear hw1 hb1 hk1 hr0 hx hn0 hl0 HX
  go_enter Try.func60, Try.ntmps60
  go_upto_region 1 with (fail)
  rw [HW1.out]
  clear hD hz1
  go_wp2_with fail
  refine HC.out.mono ?_
  rintro e w2 ⟨g, c, rfl, hcap, hrow, hb2⟩
  obtain ⟨hgl, hgs⟩ := World.ownsRow.lt hrow g rfl
  have hlen : (lst12 l0 259).length = 259 := lst12_len _ _
  have hH : Holds (Value.int .i64) w2 g 0 (lst12 l0 259).toArray := fun j hj => by
    have hj : j < 259 := by rw [← hlen]; simpa using hj
    refine ⟨?_, ?_⟩
    · rw [Nat.zero_add, World.ownsRow.cellAt hrow j (by omega), fnv_at l0 259 j hj, lst12_at l0 259 j hj]
    · rw [Nat.zero_add]; exact World.ownsRow.frozenAt hrow j
  have hs := Sh.slices_Sort_int g 0 c (lst12 l0 259) w2 hH hgs (by rw [hlen]; decide)
  rw [hlen] at hs
  have HS := Lib.hid hs; have HH := Lib.hid hH; have HGL := Lib.hid hgl; have HGS := Lib.hid hgs; have HB2 := Lib.hid hb2; have HCAP := Lib.hid hcap
  clear hs hH hgl hgs hb2 hcap hrow hlen HC y0 y1 y2 y3 y4
  go_wp2_with fail
  refine HS.out.mono ?_
  rintro e w3 ⟨rfl, n, os, rfl⟩
  obtain ⟨zs, hzs⟩ : ∃ zs, (lst12 l0 259).mergeSort (fun x y => decide (x ≤ y)) = zs := ⟨_, rfl⟩
  have hzl : zs.length = 259 := by rw [← hzs, List.length_mergeSort, lst12_len]
  have hzm : ∀ y, y ∈ zs ↔ ∃ j, j < 259 ∧ l0 j = y := fun y => by
    rw [← hzs, List.mem_mergeSort]
    unfold lst12
    simp
  rw [hzs]
  have hH2 : Holds (Value.int .i64) (putRow (Value.int .i64) (Sort.ahead w2 n) g 0 zs.toArray) g 0 zs.toArray :=
    holds_putRow _ _ _ _ (lst12 l0 259).toArray _ (fun j hj => HH.out j hj) (by simp [lst12_len, hzl])
  have hsz2 : g < (putRow (Value.int .i64) (Sort.ahead w2 n) g 0 zs.toArray).heap.size := by rw [size_putRow]; exact HGS.out
  have hH3 := holds_grow os hH2 hsz2
  have hb3 : Below (D + 1) w2 (grow (putRow (Value.int .i64) (Sort.ahead w2 n) g 0 zs.toArray) os) := sort_below9 w2 n os g zs.toArray (D + 1) (by have := HGL.out; have := HZ.out; omega) HGS.out
  obtain ⟨w3, hw3⟩ : ∃ w3, grow (putRow (Value.int .i64) (Sort.ahead w2 n) g 0 zs.toArray) os = w3 := ⟨_, rfl⟩
  rw [hw3] at hH3 hb3 ⊢
  have hgs3 : g < w3.heap.size := Nat.lt_of_lt_of_le HGS.out hb3.size
  have hc := Any.slices_Compact_int cmpI_lays g 0 c zs w3 hH3 (by rw [hzl]; decide) (by rw [hzl]; exact HCAP.out)
  rw [hzl] at hc
  have hc' : Calls Try.prog 70 #[.slice (some ⟨g, 0, none⟩) 259 c] w3 _ := hc
  have HC3 := Lib.hid hc'
  have HH3 := Lib.hid hH3; have HB3 := Lib.hid hb3; have HG3 := Lib.hid hgs3; have HZM := Lib.hid hzm; have HZL := Lib.hid hzl
  clear hc hc' hH3 hb3 hgs3 hzm hzl hw3 hsz2 hH2 hzs HS
  go_wp2_with fail
  refine HC3.out.mono ?_
  rintro e w4 ⟨rfl, q, rfl⟩
  have hcl := compact_len zs
  rw [HZL.out] at hcl
  obtain ⟨cs, hcs⟩ : ∃ cs, Lib.compact zs = cs := ⟨_, rfl⟩
  have hcm : ∀ y, y ∈ cs ↔ y ∈ zs := fun y => by rw [← hcs]; exact compact_mem zs y
  rw [hcs] at hcl ⊢
  have hH4 : Holds (Value.int .i64) (putRow (Value.int .i64) (Sort.ahead w3 q) g 0 (cs ++ List.replicate (259 - cs.length) 0).toArray) g 0 (cs ++ List.replicate (259 - cs.length) 0).toArray :=
    holds_putRow _ _ _ _ zs.toArray _ (fun j hj => HH3.out j hj) (by simp [HZL.out]; omega)
  have hb4 := put_below12 w3 q g (cs ++ List.replicate (259 - cs.length) 0).toArray (D + 1) (by have := HGL.out; have := HZ.out; omega)
  have hrd := holds_rd (n := cs.length) hH4 (by rw [size_putRow]; exact HG3.out) (by simp)
  obtain ⟨w4, hw4⟩ : ∃ w4, putRow (Value.int .i64) (Sort.ahead w3 q) g 0 (cs ++ List.replicate (259 - cs.length) 0).toArray = w4 := ⟨_, rfl⟩
  rw [hw4]
  rw [hw4] at hb4 hrd
  have HRD := Lib.hid hrd
  have HBF : Hid (Below w.heap.size w w4) := Lib.hid (by
    have h2 : Below (D + 1) w1 w2 := HZ.out ▸ HB2.out
    have h3 := h2.trans (HB3.out.trans hb4)
    rw [HG.out]
    exact HB1.out.trans (h3.mono (Nat.le_succ D)))
  have HGF : Hid (w.heap.size ≤ g) := Lib.hid (by have := HGL.out; have := HZ.out; have := HG.out; omega)
  have HMF : Hid (∀ y, (∃ i, i < cs.length ∧ (cs ++ List.replicate (259 - cs.length) 0).toArray[i]! = y) ↔ ∃ j, j < 259 ∧ l0 j = y) := Lib.hid fun y => by
    rw [← HZM.out y, ← hcm y, List.mem_iff_getElem]
    constructor
    · rintro ⟨i, hi, h⟩
      refine ⟨i, hi, ?_⟩
      rw [getElem!_pos _ i (by simp; omega)] at h
      rw [← h]
      simp [List.getElem_append_left hi]
    · rintro ⟨i, hi, h⟩
      refine ⟨i, hi, ?_⟩
      rw [getElem!_pos _ i (by simp; omega), ← h]
      simp [List.getElem_append_left hi]
  clear hH4 hb4 hrd hw4 hcm hcs HC3
  obtain ⟨len, hlen⟩ : ∃ len, cs.length = len := ⟨_, rfl⟩
  rw [hlen] at hcl HRD HMF ⊢
  clear hlen
  go_wp2_with fail
  go_returns
  exact ⟨g, len, c, _, rfl, HRD.out, hcl, HMF.out, HBF.out, HGF.out⟩
end Go.Proofs.Ytefpoapbodbenaa
