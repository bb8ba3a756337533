/-
  The walk of lex's name. The walks of lex's only and part. What begins at a place depends on its own bytes alone: a backslash, an item of a bracket that is no run.
-/
import Derived.Test.YtgjpmfdiidkdnaaDoorPk15
import Derived.Test.YtgjpmfdiidkdnaaDoorPk16
namespace Go.Proofs.YtgjpmfdiidkdnaaDoor
open Go.RowKit

/-- What strings.Cut hands back: named. -/
def cutIs (s sep A B : ByteArray) (c : Bool) : Prop :=
  (⟨(Lib.cut s.data.toList sep.data.toList).1.toArray⟩ : ByteArray) = A ∧ (⟨(Lib.cut s.data.toList sep.data.toList).2.1.toArray⟩ : ByteArray) = B ∧ (Lib.cut s.data.toList sep.data.toList).2.2 = c
theorem cut_sym (s sep A B : ByteArray) (c : Bool) (h : cutIs s sep A B c) (hs : s.size ≤ 1000) (w : World) (hT : Okw w) :
    Calls Tryd.prog 59 #[.string s, .string sep] w fun e w' => e = .returned (.tuple #[.string A, .string B, .bool c]) ∧ ∃ n, w' = w.drewN n := by
  obtain ⟨m, hm⟩ := hT.2.1
  have hq := Sh.strings_Cut s sep m w (by omega) hm
  rw [h.1, h.2.1, h.2.2] at hq
  exact hq
theorem cut_some (s sep : ByteArray) (i : Nat) (h : Lib.index s.data.toList sep.data.toList = i) : cutIs s sep (s.extract 0 i) (s.extract (i + sep.size) s.size) true := Lib.cutB_hit s sep i h
theorem cut_none (s sep : ByteArray) (h : Lib.index s.data.toList sep.data.toList = -1) : cutIs s sep s ByteArray.empty false := Lib.cutB_miss s sep h

theorem gb_list (s : ByteArray) (i : Nat) : gb s i = (s.data.toList[i]?).elim 256 UInt8.toNat := by
  by_cases h : i < s.size
  · have h' : i < s.data.toList.length := by simpa using h
    rw [List.getElem?_eq_getElem h', ← gb_in h]
    simp [ByteArray.getElem_eq_getElem_data]
  · have h' : s.data.toList.length ≤ i := by simpa using h
    rw [List.getElem?_eq_none h', gb_out (by omega)]
    rfl
theorem some_u8 (o : Option UInt8) (a : UInt8) : (o.elim 256 UInt8.toNat == a.toNat) = (o == some a) := by
  cases o with
  | none =>
    have := UInt8.toNat_lt a
    have h : ((256 : Nat) == a.toNat) = false := beq_eq_false_iff_ne.2 (by omega)
    exact h
  | some b =>
    show (b.toNat == a.toNat) = (some b == some a)
    by_cases h : b = a
    · subst h; simp
    · have h' : b.toNat ≠ a.toNat := fun e => h (UInt8.toNat.inj e)
      rw [beq_eq_false_iff_ne.2 h']
      symm
      rw [beq_eq_false_iff_ne]
      exact fun e => h (Option.some.inj e)
theorem pre_two (a b : UInt8) (l : List UInt8) : [a, b].isPrefixOf l = (l[0]? == some a && l[1]? == some b) := by
  match l with
  | [] => rfl
  | [x] => simp [List.isPrefixOf]
  | x :: y :: r => simp [List.isPrefixOf, Bool.beq_comm]
theorem pre_one (a : UInt8) (l : List UInt8) : [a].isPrefixOf l = (l[0]? == some a) := by
  match l with
  | [] => rfl
  | x :: r => simp [List.isPrefixOf, BEq.comm]
theorem occ_two (s : ByteArray) (a b : UInt8) (i : Nat) : Lib.occAt s.data.toList [a, b] i = (gb s i == a.toNat && gb s (i + 1) == b.toNat) := by
  unfold Lib.occAt
  rw [pre_two, gb_list, gb_list, some_u8, some_u8, List.getElem?_drop, List.getElem?_drop, Nat.add_zero]
theorem occ_one (s : ByteArray) (a : UInt8) (i : Nat) : Lib.occAt s.data.toList [a] i = (gb s i == a.toNat) := by
  unfold Lib.occAt
  rw [pre_one, gb_list, some_u8, List.getElem?_drop, Nat.add_zero]
theorem gb_tail (p : ByteArray) (a i : Nat) : gb (p.extract a p.size) i = gb p (a + i) := by
  rw [gb_extract]
  by_cases h : a + i < p.size
  · rw [if_pos (by omega)]
  · rw [if_neg (by omega), gb_out (by omega)]
theorem hit_tail (p : ByteArray) (i : Nat) : Lib.occAt (p.extract 2 p.size).data.toList [58, 93] i = hitB p (2 + i) := by
  rw [occ_two, gb_tail, gb_tail]
  rfl

def nameSep : ByteArray := { data := #[58, 93] }
theorem nm_some (p : ByteArray) (j : Nat) (h : nmEnd p 2 = some j) : cutIs (p.extract 2 p.size) nameSep (p.extract 2 j) ((p.extract 2 p.size).extract (j - 2 + 2) (p.extract 2 p.size).size) true := by
  unfold nmEnd at h
  rw [List.find?_range_eq_some] at h
  obtain ⟨h1, h2, h3⟩ := h
  have h2' : j < p.size := by simpa using h2
  have hj : 2 ≤ j ∧ hitB p j = true := by
    unfold hitB
    simpa using h1
  have hi : Lib.index (p.extract 2 p.size).data.toList [58, 93] = ((j - 2 : Nat) : Int) := by
    refine Lib.index_first ?_ ?_ ?_
    · have : (p.extract 2 p.size).data.toList.length = p.size - 2 := by simp
      omega
    · rw [hit_tail, show 2 + (j - 2) = j by omega]; exact hj.2
    · intro x hx
      rw [hit_tail]
      have := h3 (2 + x) (by omega)
      unfold hitB
      cases hh : (gb p (2 + x) == 58 && gb p (2 + x + 1) == 93)
      · rfl
      · rw [hh] at this; simp at this
  have hc := cut_some (p.extract 2 p.size) nameSep (j - 2) hi
  have he : (p.extract 2 p.size).extract 0 (j - 2) = p.extract 2 j := by
    rw [ByteArray.extract_extract]
    congr 1
    omega
  rw [he] at hc
  exact hc
theorem nm_none (p : ByteArray) (h : nmEnd p 2 = none) : cutIs (p.extract 2 p.size) nameSep (p.extract 2 p.size) ByteArray.empty false := by
  unfold nmEnd at h
  rw [List.find?_range_eq_none] at h
  refine cut_none _ _ (Lib.index_none fun x hx => ?_)
  show Lib.occAt (p.extract 2 p.size).data.toList [58, 93] x = false
  rw [hit_tail]
  cases hh : hitB p (2 + x)
  · rfl
  · have h2 := hitB_in hh
    have := h (2 + x) (by omega)
    unfold hitB at hh
    rw [hh] at this
    simp at this

/-- The name at a text's begin. -/
def naF (p : ByteArray) : Nat → Bool := match nmEnd p 2 with | some j => if isN (p.extract 2 j).toList = true then isB (p.extract 2 j).toList else fun _ => false | none => fun _ => false
def naN (p : ByteArray) : Nat := match nmEnd p 2 with | some j => if isN (p.extract 2 j).toList = true then j + 2 else 0 | none => 0

set_option maxRecDepth 100000 in
set_option maxHeartbeats 1000000 in
theorem lname_gen (p A B : ByteArray) (c : Bool) (F : Nat → Bool) (n : Nat) (hp : p.size ≤ 200) (h2 : 2 ≤ p.size) (hc : cutIs (p.extract 2 p.size) nameSep A B c) (hA : A.size ≤ 200)
    (hF : (c = true ∧ isN A.toList = true) → F = isB A.toList ∧ n = A.size + 4) (hF0 : ¬ (c = true ∧ isN A.toList = true) → F = (fun _ => false) ∧ n = 0) (w : World) (hT : Okw w) :
    Calls Tryd.prog 88 #[.string p] w fun e w' => e = .returned (.tuple #[sv (F), .int .i64 (n : Nat)]) ∧ Below w.heap.size w w' := by
  have hs : (p.extract 2 p.size).size ≤ 1000 := by simp; omega
  have hcut := cut_sym (p.extract 2 p.size) nameSep A B c hc hs
  obtain ⟨l, hl⟩ : ∃ l, A.toList = l := ⟨_, rfl⟩
  have hcl := class2 A l hl
  rw [hl] at hF hF0
  obtain ⟨G, eG⟩ : ∃ G, isB l = G := ⟨_, rfl⟩
  obtain ⟨o, eO⟩ : ∃ o, isN l = o := ⟨_, rfl⟩
  rw [eG, eO] at hcl hF
  rw [eO] at hF0
  have HF := Lib.hid hF; have HF0 := Lib.hid hF0; have HQ := Lib.hid hcl; have HC := Lib.hid hcut
  clear hF hF0 hcl hcut eG eO hl hc hs
  have s0 : (2 : Int) ≤ (p.size : Int) := by omega
  have E0 := Lib.hid (isSet.newNone w)
  have HW : Hid (Below w.heap.size w (w.alloc (.cells #[.int .u64 0, .int .u64 0, .int .u64 0, .int .u64 0] 32))) := Lib.hid ((Below.refl _ _).alloc (Nat.le_refl _) _)
  have HT := Lib.hid (hT.alloc (.cells #[.int .u64 0, .int .u64 0, .int .u64 0, .int .u64 0] 32))
  clear hT
  cases c <;> cases o
  · go_enter Tryd.func88, Tryd.ntmps88
    go_wp2_with fail
    refine (HC.out _ HT.out).mono ?_
    rintro e w0 ⟨rfl, m, rfl⟩
    go_wp2_with fail
    refine (HQ.out _ (HT.out.drewN m).1).mono ?_
    rintro e w1 ⟨rfl, hb⟩
    have hb' : Below (w.alloc (.cells #[.int .u64 0, .int .u64 0, .int .u64 0, .int .u64 0] 32)).heap.size (w.alloc (.cells #[.int .u64 0, .int .u64 0, .int .u64 0, .int .u64 0] 32)) w1 := (below_drewN m (Below.refl _ _)).trans hb
    have l9 : w.heap.size < w1.heap.size := Nat.lt_of_lt_of_le E0.out.lt hb'.size
    have e0 := (E0.out.below hb' E0.out.lt).alloc (.cells #[.int .u64 (wd (G) 0 : Int), .int .u64 (wd (G) 1 : Int), .int .u64 (wd (G) 2 : Int), .int .u64 (wd (G) 3 : Int)] 32)
    have hW := (HW.out.trans (hb'.mono HW.out.size)).alloc (Nat.le_trans HW.out.size hb'.size) (.cells #[.int .u64 (wd (G) 0 : Int), .int .u64 (wd (G) 1 : Int), .int .u64 (wd (G) 2 : Int), .int .u64 (wd (G) 3 : Int)] 32)
    have s0 := isSet.new w1 G
    obtain ⟨s0, s1, s2, s3⟩ := s0.cells
    clear hb hb' E0 HW HT HQ HC
    go_upto_region 3 with (fail)
    generalize w1.heap.size = B0 at *
    generalize w1.alloc (.cells #[.int .u64 (wd (G) 0 : Int), .int .u64 (wd (G) 1 : Int), .int .u64 (wd (G) 2 : Int), .int .u64 (wd (G) 3 : Int)] 32) = W at *
    have HV : Hid (sv (fun _ => false) = .agg #[.int .u64 0, .int .u64 0, .int .u64 0, .int .u64 0]) := Lib.hid (by unfold sv; simp only [none_wd]; exact rfl)
    obtain ⟨r0, r1, r2, r3⟩ := e0.free
    have q := e0.cells
    simp only [none_wd] at q
    obtain ⟨q0, q1, q2, q3⟩ := q
    have HR := Lib.hid (below_set4 (c := w.heap.size) hW (Nat.le_refl _) (.int .u64 0) (.int .u64 0) (.int .u64 0) (.int .u64 0))
    clear e0 hW
    go_wp2
    refine bodyPost_ret (v := .tuple #[.agg #[.int .u64 0, .int .u64 0, .int .u64 0, .int .u64 0], .int .i64 0]) (by simp [results, Tryd.results88, go_sem, q0, q1, q2, q3]) rfl ⟨by rw [(HF0.out (by simp)).1, (HF0.out (by simp)).2, HV.out]; rfl, HR.out⟩
  · go_enter Tryd.func88, Tryd.ntmps88
    go_wp2_with fail
    refine (HC.out _ HT.out).mono ?_
    rintro e w0 ⟨rfl, m, rfl⟩
    go_wp2_with fail
    refine (HQ.out _ (HT.out.drewN m).1).mono ?_
    rintro e w1 ⟨rfl, hb⟩
    have hb' : Below (w.alloc (.cells #[.int .u64 0, .int .u64 0, .int .u64 0, .int .u64 0] 32)).heap.size (w.alloc (.cells #[.int .u64 0, .int .u64 0, .int .u64 0, .int .u64 0] 32)) w1 := (below_drewN m (Below.refl _ _)).trans hb
    have l9 : w.heap.size < w1.heap.size := Nat.lt_of_lt_of_le E0.out.lt hb'.size
    have e0 := (E0.out.below hb' E0.out.lt).alloc (.cells #[.int .u64 (wd (G) 0 : Int), .int .u64 (wd (G) 1 : Int), .int .u64 (wd (G) 2 : Int), .int .u64 (wd (G) 3 : Int)] 32)
    have hW := (HW.out.trans (hb'.mono HW.out.size)).alloc (Nat.le_trans HW.out.size hb'.size) (.cells #[.int .u64 (wd (G) 0 : Int), .int .u64 (wd (G) 1 : Int), .int .u64 (wd (G) 2 : Int), .int .u64 (wd (G) 3 : Int)] 32)
    have s0 := isSet.new w1 G
    obtain ⟨s0, s1, s2, s3⟩ := s0.cells
    clear hb hb' E0 HW HT HQ HC
    go_upto_region 3 with (fail)
    generalize w1.heap.size = B0 at *
    generalize w1.alloc (.cells #[.int .u64 (wd (G) 0 : Int), .int .u64 (wd (G) 1 : Int), .int .u64 (wd (G) 2 : Int), .int .u64 (wd (G) 3 : Int)] 32) = W at *
    have HV : Hid (sv (fun _ => false) = .agg #[.int .u64 0, .int .u64 0, .int .u64 0, .int .u64 0]) := Lib.hid (by unfold sv; simp only [none_wd]; exact rfl)
    obtain ⟨r0, r1, r2, r3⟩ := e0.free
    have q := e0.cells
    simp only [none_wd] at q
    obtain ⟨q0, q1, q2, q3⟩ := q
    have HR := Lib.hid (below_set4 (c := w.heap.size) hW (Nat.le_refl _) (.int .u64 0) (.int .u64 0) (.int .u64 0) (.int .u64 0))
    clear e0 hW
    go_wp2
    refine bodyPost_ret (v := .tuple #[.agg #[.int .u64 0, .int .u64 0, .int .u64 0, .int .u64 0], .int .i64 0]) (by simp [results, Tryd.results88, go_sem, q0, q1, q2, q3]) rfl ⟨by rw [(HF0.out (by simp)).1, (HF0.out (by simp)).2, HV.out]; rfl, HR.out⟩
  · go_enter Tryd.func88, Tryd.ntmps88
    go_wp2_with fail
    refine (HC.out _ HT.out).mono ?_
    rintro e w0 ⟨rfl, m, rfl⟩
    go_wp2_with fail
    refine (HQ.out _ (HT.out.drewN m).1).mono ?_
    rintro e w1 ⟨rfl, hb⟩
    have hb' : Below (w.alloc (.cells #[.int .u64 0, .int .u64 0, .int .u64 0, .int .u64 0] 32)).heap.size (w.alloc (.cells #[.int .u64 0, .int .u64 0, .int .u64 0, .int .u64 0] 32)) w1 := (below_drewN m (Below.refl _ _)).trans hb
    have l9 : w.heap.size < w1.heap.size := Nat.lt_of_lt_of_le E0.out.lt hb'.size
    have e0 := (E0.out.below hb' E0.out.lt).alloc (.cells #[.int .u64 (wd (G) 0 : Int), .int .u64 (wd (G) 1 : Int), .int .u64 (wd (G) 2 : Int), .int .u64 (wd (G) 3 : Int)] 32)
    have hW := (HW.out.trans (hb'.mono HW.out.size)).alloc (Nat.le_trans HW.out.size hb'.size) (.cells #[.int .u64 (wd (G) 0 : Int), .int .u64 (wd (G) 1 : Int), .int .u64 (wd (G) 2 : Int), .int .u64 (wd (G) 3 : Int)] 32)
    have s0 := isSet.new w1 G
    obtain ⟨s0, s1, s2, s3⟩ := s0.cells
    clear hb hb' E0 HW HT HQ HC
    go_upto_region 3 with (fail)
    generalize w1.heap.size = B0 at *
    generalize w1.alloc (.cells #[.int .u64 (wd (G) 0 : Int), .int .u64 (wd (G) 1 : Int), .int .u64 (wd (G) 2 : Int), .int .u64 (wd (G) 3 : Int)] 32) = W at *
    have HV : Hid (sv (fun _ => false) = .agg #[.int .u64 0, .int .u64 0, .int .u64 0, .int .u64 0]) := Lib.hid (by unfold sv; simp only [none_wd]; exact rfl)
    obtain ⟨r0, r1, r2, r3⟩ := e0.free
    have q := e0.cells
    simp only [none_wd] at q
    obtain ⟨q0, q1, q2, q3⟩ := q
    have HR := Lib.hid (below_set4 (c := w.heap.size) hW (Nat.le_refl _) (.int .u64 0) (.int .u64 0) (.int .u64 0) (.int .u64 0))
    clear e0 hW
    go_wp2
    refine bodyPost_ret (v := .tuple #[.agg #[.int .u64 0, .int .u64 0, .int .u64 0, .int .u64 0], .int .i64 0]) (by simp [results, Tryd.results88, go_sem, q0, q1, q2, q3]) rfl ⟨by rw [(HF0.out (by simp)).1, (HF0.out (by simp)).2, HV.out]; rfl, HR.out⟩
  · go_enter Tryd.func88, Tryd.ntmps88
    go_wp2_with fail
    refine (HC.out _ HT.out).mono ?_
    rintro e w0 ⟨rfl, m, rfl⟩
    go_wp2_with fail
    refine (HQ.out _ (HT.out.drewN m).1).mono ?_
    rintro e w1 ⟨rfl, hb⟩
    have hb' : Below (w.alloc (.cells #[.int .u64 0, .int .u64 0, .int .u64 0, .int .u64 0] 32)).heap.size (w.alloc (.cells #[.int .u64 0, .int .u64 0, .int .u64 0, .int .u64 0] 32)) w1 := (below_drewN m (Below.refl _ _)).trans hb
    have l9 : w.heap.size < w1.heap.size := Nat.lt_of_lt_of_le E0.out.lt hb'.size
    have e0 := (E0.out.below hb' E0.out.lt).alloc (.cells #[.int .u64 (wd (G) 0 : Int), .int .u64 (wd (G) 1 : Int), .int .u64 (wd (G) 2 : Int), .int .u64 (wd (G) 3 : Int)] 32)
    have hW := (HW.out.trans (hb'.mono HW.out.size)).alloc (Nat.le_trans HW.out.size hb'.size) (.cells #[.int .u64 (wd (G) 0 : Int), .int .u64 (wd (G) 1 : Int), .int .u64 (wd (G) 2 : Int), .int .u64 (wd (G) 3 : Int)] 32)
    have s0 := isSet.new w1 G
    obtain ⟨s0, s1, s2, s3⟩ := s0.cells
    clear hb hb' E0 HW HT HQ HC
    go_upto_region 3 with (fail)
    generalize w1.heap.size = B0 at *
    generalize w1.alloc (.cells #[.int .u64 (wd (G) 0 : Int), .int .u64 (wd (G) 1 : Int), .int .u64 (wd (G) 2 : Int), .int .u64 (wd (G) 3 : Int)] 32) = W at *
    obtain ⟨r0, r1, r2, r3⟩ := e0.free
    obtain ⟨q0, q1, q2, q3⟩ := e0.cells
    have HR := Lib.hid (below_set4 (c := w.heap.size) hW (Nat.le_refl _) (.int .u64 (wd (G) 0 : Int)) (.int .u64 (wd (G) 1 : Int)) (.int .u64 (wd (G) 2 : Int)) (.int .u64 (wd (G) 3 : Int)))
    have Z := Lib.hid (e0.stored (G)).cells
    clear e0 hW
    go_wp2
    refine bodyPost_ret (v := .tuple #[sv (G), .int .i64 (2 + (A.size : Int) + 2)]) (by simp [results, Tryd.results88, go_sem, Z.out]) rfl ⟨by rw [(HF.out (by simp)).1, (HF.out (by simp)).2, show ((A.size + 4 : Nat) : Int) = 2 + (A.size : Int) + 2 by omega], HR.out⟩

theorem lname_any (p : ByteArray) (hp : p.size ≤ 200) (h2 : 2 ≤ p.size) (w : World) (hT : Okw w) :
    Calls Tryd.prog 88 #[.string p] w fun e w' => e = .returned (.tuple #[sv (naF p), .int .i64 (naN p : Nat)]) ∧ Below w.heap.size w w' := by
  cases hn : nmEnd p 2 with
  | none =>
    refine lname_gen p _ _ false (naF p) (naN p) hp h2 (nm_none p hn) (by simp; omega) (fun h => by simp at h) (fun _ => ?_) w hT
    unfold naF naN
    rw [hn]
    exact ⟨rfl, rfl⟩
  | some j =>
    have hj : j < p.size ∧ 2 ≤ j := by
      have h := hn
      unfold nmEnd at h
      rw [List.find?_range_eq_some] at h
      obtain ⟨h1, h2, _⟩ := h
      simp at h1 h2
      exact ⟨h2, h1.1⟩
    have hsz : (p.extract 2 j).size = j - 2 := by simp; omega
    refine lname_gen p _ _ true (naF p) (naN p) hp h2 (nm_some p j hn) (by omega) (fun h => ?_) (fun h => ?_) w hT
    · unfold naF naN
      rw [hn]
      simp only [h.2, if_true]
      exact ⟨trivial, by omega⟩
    · unfold naF naN
      rw [hn]
      have : ¬ isN (p.extract 2 j).toList = true := fun h' => h ⟨rfl, h'⟩
      simp only [if_neg this]
      exact ⟨trivial, trivial⟩
end Go.Proofs.YtgjpmfdiidkdnaaDoor

namespace Go.Proofs.YtgjpmfdiidkdnaaDoor
open Go.RowKit

/-- The only byte of a set, and whether it has just one. -/
def onO (f : Nat → Bool) : Bool := decide ((bl f 256).length = 1)
def onV (f : Nat → Bool) : Nat := if onO f = true then (bl f 256).headD 0 else 0
set_option maxRecDepth 100000 in
set_option maxHeartbeats 2000000 in
theorem lonly_any (f : Nat → Bool) (w : World) :
    Calls Tryd.prog 77 #[sv f] w fun e w' => e = .returned (.tuple #[.int .u8 (onV f : Nat), .bool (onO f)]) ∧ Below w.heap.size w w' := by
  have HW : Hid (Below w.heap.size w (w.alloc (.cells #[.int .u64 (wd (f) 0 : Int), .int .u64 (wd (f) 1 : Int), .int .u64 (wd (f) 2 : Int), .int .u64 (wd (f) 3 : Int)] 32))) := Lib.hid ((Below.refl _ _).alloc (Nat.le_refl _) _)
  obtain ⟨l, hl⟩ : ∃ l, bl f 256 = l := ⟨_, rfl⟩
  have hsm := bl_bytes f 256
  rw [hl] at hsm
  have HL := Lib.hid hl
  clear hl
  by_cases h1 : l.length = 1
  · obtain ⟨x, rfl⟩ := List.length_eq_one_iff.1 h1
    clear h1
    have hx : x < 256 := hsm x (by simp)
    have HO : Hid (onO f = true) := Lib.hid (by unfold onO; rw [HL.out]; rfl)
    have HF : Hid (onV f = x) := Lib.hid (by unfold onV; rw [HO.out, if_pos rfl, HL.out]; rfl)
    clear hsm
    go_enter Tryd.func77, Tryd.ntmps77
    go_wp2_with fail
    refine (bytes_any f _).mono ?_
    rintro e w1 ⟨v, rfl, hown, hb⟩
    have hr := rd8_of_owns hown
    rw [HL.out] at hr
    have hB := Lib.hid (HW.out.trans (hb.mono HW.out.size))
    clear hown hb
    rcases hr with ⟨_, h0⟩ | ⟨b, off, cap, rfl, hbl, hc⟩
    · cases h0
    · have q0 : w1.cell? ⟨b, off, none⟩ = some (.int .u8 (x : Int)) := hc 0 (by simp)
      clear hc
      go_wp2
      go_ret2
      exact ⟨by rw [HF.out, HO.out]; rfl, hB.out⟩
  · have HO : Hid (onO f = false) := Lib.hid (by unfold onO; rw [HL.out]; simpa using h1)
    have HF : Hid (onV f = 0) := Lib.hid (by unfold onV; rw [HO.out, if_neg (by decide)])
    have t1 : ((l.length : Int) != 1) = true := by simp; omega
    have t2 : (l.length != 1) = true := by simp; omega
    clear hsm
    go_enter Tryd.func77, Tryd.ntmps77
    go_wp2_with fail
    refine (bytes_any f _).mono ?_
    rintro e w1 ⟨v, rfl, hown, hb⟩
    have hr := rd8_of_owns hown
    rw [HL.out] at hr
    have hB := Lib.hid (HW.out.trans (hb.mono HW.out.size))
    clear hown hb
    have hv : ∃ a c, v = .slice a l.length c := by
      rcases hr with ⟨g1, g2⟩ | ⟨b, off, cap, g1, _⟩
      · exact ⟨none, 0, by rw [g1, g2]; rfl⟩
      · exact ⟨_, _, g1⟩
    obtain ⟨a, c, rfl⟩ := hv
    clear hr h1
    go_wp2
    all_goals go_ret2
    all_goals exact ⟨by rw [HF.out, HO.out]; rfl, hB.out⟩

/-- What stands between brackets at a text's begin. -/
def paF (p : ByteArray) : Nat → Bool := if sinOk p 0 = true then sinF p 0 else fun _ => false
def paN (p : ByteArray) : Nat := if sinOk p 0 = true then sinN p 0 else 0
theorem pa_back (p : ByteArray) (h : gb p 0 = 92) : paF p = esF p ∧ paN p = esN p := by
  unfold paF paN esF esN sinOk sinF sinN
  simp only [if_pos h]
  exact ⟨trivial, trivial⟩
theorem pa_name (p : ByteArray) (h0 : gb p 0 = 91) (h1 : gb p 1 = 58) : paF p = naF p ∧ paN p = naN p := by
  unfold paF paN naF naN sinOk sinF sinN
  simp [h0, h1]
  cases nmEnd p 2 with
  | none => exact ⟨rfl, rfl⟩
  | some j =>
    cases isN (p.extract 2 j).toList <;> exact ⟨rfl, rfl⟩
theorem pa_plain (p : ByteArray) (h0 : gb p 0 ≠ 92) (h1 : ¬ (gb p 0 = 91 ∧ gb p 1 = 58)) : paF p = oneR (gb p 0) ∧ paN p = 1 := by
  unfold paF paN sinOk sinF sinN
  simp only [if_neg h0, Nat.zero_add, if_neg h1, if_true]
  exact ⟨trivial, trivial⟩
def namePre : ByteArray := { data := #[91, 58] }
theorem pre_name (p : ByteArray) : Lib.hasPrefix p.data.toList namePre.data.toList = (gb p 0 == 91 && gb p 1 == 58) := by
  have := occ_two p 91 58 0
  unfold Lib.occAt at this
  rw [List.drop_zero] at this
  exact this
theorem pref_sym (p q : ByteArray) (b : Bool) (h : Lib.hasPrefix p.data.toList q.data.toList = b) (w : World) :
    Calls Tryd.prog 68 #[.string p, .string q] w fun e w' => e = .returned (.bool b) ∧ w = w' := by
  have hq := Sh.strings_HasPrefix p q w
  rw [h] at hq
  exact hq.mono fun e w' h => ⟨h.1, h.2.symm⟩

set_option maxRecDepth 100000 in
set_option maxHeartbeats 1000000 in
theorem lpart_back (p : ByteArray) (h1 : 1 ≤ p.size) (h : gb p 0 = 92) (w : World) (hT : Okw w) :
    Calls Tryd.prog 76 #[.string p] w fun e w' => e = .returned (.tuple #[sv (paF p), .int .i64 (paN p : Nat)]) ∧ Below w.heap.size w w' := by
  obtain ⟨hF, hN⟩ := pa_back p h
  have hq := lesc_any p
  obtain ⟨F, eF⟩ : ∃ F, esF p = F := ⟨_, rfl⟩
  obtain ⟨n, eN⟩ : ∃ n, esN p = n := ⟨_, rfl⟩
  rw [eF, eN] at hq
  rw [eF] at hF
  rw [eN] at hN
  have HF := Lib.hid hF; have HN := Lib.hid hN; have HQ := Lib.hid hq
  have g0 := gb_data1 (show 0 < p.size by omega) h
  clear hF hN hq eF eN h
  have E0 := Lib.hid (isSet.newNone w)
  have HW : Hid (Below w.heap.size w (w.alloc (.cells #[.int .u64 0, .int .u64 0, .int .u64 0, .int .u64 0] 32))) := Lib.hid ((Below.refl _ _).alloc (Nat.le_refl _) _)
  have HT := Lib.hid (hT.alloc (.cells #[.int .u64 0, .int .u64 0, .int .u64 0, .int .u64 0] 32))
  clear hT
  go_enter Tryd.func76, Tryd.ntmps76
  go_wp2_with fail
  refine (HQ.out _ HT.out).mono ?_
  rintro e w1 ⟨rfl, hb⟩
  have hW := HW.out.trans (hb.mono HW.out.size)
  have e0 := E0.out.below hb E0.out.lt
  have hT := HT.out.to hb
  clear hb HW E0 HT
  have l9 : w.heap.size < w1.heap.size := e0.lt
  clear hT HQ
  obtain ⟨r0, r1, r2, r3⟩ := e0.free
  obtain ⟨q0, q1, q2, q3⟩ := e0.cells
  have HR := Lib.hid (below_set4 (c := w.heap.size) hW (Nat.le_refl _) (.int .u64 (wd (F) 0 : Int)) (.int .u64 (wd (F) 1 : Int)) (.int .u64 (wd (F) 2 : Int)) (.int .u64 (wd (F) 3 : Int)))
  have Z := Lib.hid (e0.stored (F)).cells
  clear e0 hW
  go_wp2
  refine bodyPost_ret (v := .tuple #[sv (F), .int .i64 (n)]) (by simp [results, Tryd.results76, go_sem, Z.out]) rfl ⟨by rw [HF.out, HN.out], HR.out⟩

set_option maxRecDepth 100000 in
set_option maxHeartbeats 1000000 in
theorem lpart_name (p : ByteArray) (hp : p.size ≤ 200) (h2 : 2 ≤ p.size) (h : gb p 0 = 91) (h' : gb p 1 = 58) (w : World) (hT : Okw w) :
    Calls Tryd.prog 76 #[.string p] w fun e w' => e = .returned (.tuple #[sv (paF p), .int .i64 (paN p : Nat)]) ∧ Below w.heap.size w w' := by
  obtain ⟨hF, hN⟩ := pa_name p h h'
  have hq := lname_any p hp h2
  obtain ⟨F, eF⟩ : ∃ F, naF p = F := ⟨_, rfl⟩
  obtain ⟨n, eN⟩ : ∃ n, naN p = n := ⟨_, rfl⟩
  rw [eF, eN] at hq
  rw [eF] at hF
  rw [eN] at hN
  have hpr : Lib.hasPrefix p.data.toList namePre.data.toList = true := by rw [pre_name, h, h']; rfl
  have HF := Lib.hid hF; have HN := Lib.hid hN; have HQ := Lib.hid hq; have HP := Lib.hid (pref_sym p namePre true hpr)
  have g0 := gb_data1 (show 0 < p.size by omega) h
  clear hF hN hq eF eN h h' hpr
  have E0 := Lib.hid (isSet.newNone w)
  have HW : Hid (Below w.heap.size w (w.alloc (.cells #[.int .u64 0, .int .u64 0, .int .u64 0, .int .u64 0] 32))) := Lib.hid ((Below.refl _ _).alloc (Nat.le_refl _) _)
  have HT := Lib.hid (hT.alloc (.cells #[.int .u64 0, .int .u64 0, .int .u64 0, .int .u64 0] 32))
  clear hT
  go_enter Tryd.func76, Tryd.ntmps76
  go_wp2_with fail
  refine (HP.out _).mono ?_
  rintro e w0 ⟨rfl, rfl⟩
  go_wp2_with fail
  refine (HQ.out _ HT.out).mono ?_
  rintro e w1 ⟨rfl, hb⟩
  have hW := HW.out.trans (hb.mono HW.out.size)
  have e0 := E0.out.below hb E0.out.lt
  have hT := HT.out.to hb
  clear hb HW E0 HT
  have l9 : w.heap.size < w1.heap.size := e0.lt
  clear hT HQ
  obtain ⟨r0, r1, r2, r3⟩ := e0.free
  obtain ⟨q0, q1, q2, q3⟩ := e0.cells
  have HR := Lib.hid (below_set4 (c := w.heap.size) hW (Nat.le_refl _) (.int .u64 (wd (F) 0 : Int)) (.int .u64 (wd (F) 1 : Int)) (.int .u64 (wd (F) 2 : Int)) (.int .u64 (wd (F) 3 : Int)))
  have Z := Lib.hid (e0.stored (F)).cells
  clear e0 hW
  go_wp2
  refine bodyPost_ret (v := .tuple #[sv (F), .int .i64 (n)]) (by simp [results, Tryd.results76, go_sem, Z.out]) rfl ⟨by rw [HF.out, HN.out], HR.out⟩

set_option maxRecDepth 100000 in
set_option maxHeartbeats 1000000 in
theorem lpart_plain (p : ByteArray) (h1 : 1 ≤ p.size) (h0 : gb p 0 ≠ 92) (h : ¬ (gb p 0 = 91 ∧ gb p 1 = 58)) (w : World) :
    Calls Tryd.prog 76 #[.string p] w fun e w' => e = .returned (.tuple #[sv (paF p), .int .i64 (paN p : Nat)]) ∧ Below w.heap.size w w' := by
  obtain ⟨hF, hN⟩ := pa_plain p h0 h
  have hpr : Lib.hasPrefix p.data.toList namePre.data.toList = false := by rw [pre_name]; simpa using h
  have g0 := gb_in (show 0 < p.size by omega)
  have bz := gb_lt (show 0 < p.size by omega)
  obtain ⟨z, hz⟩ : ∃ z, gb p 0 = z := ⟨_, rfl⟩
  rw [hz] at hF g0 bz h0
  have HF := Lib.hid hF; have HN := Lib.hid hN; have HP := Lib.hid (pref_sym p namePre false hpr)
  have t0 : ((z : Int) == 92) = false := beq_eq_false_iff_ne.2 (by omega)
  clear hF hN h hpr hz h0
  have E0 := Lib.hid (isSet.newNone w)
  have HW : Hid (Below w.heap.size w (w.alloc (.cells #[.int .u64 0, .int .u64 0, .int .u64 0, .int .u64 0] 32))) := Lib.hid ((Below.refl _ _).alloc (Nat.le_refl _) _)
  go_enter Tryd.func76, Tryd.ntmps76
  go_wp2_with fail
  refine (HP.out _).mono ?_
  rintro e w0 ⟨rfl, rfl⟩
  go_wp2_with fail
  refine (of_oneR z bz _ _ (by simp) (by simp [go_sem])).mono ?_
  rintro e w2 ⟨rfl, hb⟩
  have hW := (HW.out.alloc HW.out.size (.cells #[.int .u8 (z : Int)] 5)).trans (hb.mono (by simp; omega))
  have e0 := (E0.out.alloc (.cells #[.int .u8 (z : Int)] 5)).below hb (by simp; omega)
  have l8 : w.heap.size < w2.heap.size := e0.lt
  clear hb HW E0
  obtain ⟨r0, r1, r2, r3⟩ := e0.free
  obtain ⟨q0, q1, q2, q3⟩ := e0.cells
  have HR := Lib.hid (below_set4 (c := w.heap.size) hW (Nat.le_refl _) (.int .u64 (wd (oneR z) 0 : Int)) (.int .u64 (wd (oneR z) 1 : Int)) (.int .u64 (wd (oneR z) 2 : Int)) (.int .u64 (wd (oneR z) 3 : Int)))
  have Z := Lib.hid (e0.stored (oneR z)).cells
  clear e0 hW
  go_wp2
  refine bodyPost_ret (v := .tuple #[sv (oneR z), .int .i64 (1)]) (by simp [results, Tryd.results76, go_sem, Z.out]) rfl ⟨by rw [HF.out, HN.out]; rfl, HR.out⟩

theorem lpart_any (p : ByteArray) (hp : p.size ≤ 200) (h1 : 1 ≤ p.size) (w : World) (hT : Okw w) :
    Calls Tryd.prog 76 #[.string p] w fun e w' => e = .returned (.tuple #[sv (paF p), .int .i64 (paN p : Nat)]) ∧ Below w.heap.size w w' := by
  by_cases h : gb p 0 = 92
  · exact lpart_back p h1 h w hT
  · by_cases h' : gb p 0 = 91 ∧ gb p 1 = 58
    · have h2 : 2 ≤ p.size := by
        rcases Nat.lt_or_ge p.size 2 with h3 | h3
        · have := gb_out (p := p) (i := 1) (by omega); omega
        · exact h3
      exact lpart_name p hp h2 h'.1 h'.2 w hT
    · exact lpart_plain p h1 h h' w
end Go.Proofs.YtgjpmfdiidkdnaaDoor

namespace Go.Proofs.YtgjpmfdiidkdnaaDoor
open Go.RowKit

theorem gb_lt_iff (p : ByteArray) (i : Nat) : gb p i < 256 ↔ i < p.size := by
  constructor
  · intro h
    rcases Nat.lt_or_ge i p.size with h1 | h1
    · exact h1
    · rw [gb_out h1] at h; omega
  · exact gb_lt
theorem elim_inj {a b : Option UInt8} (h : a.elim 256 UInt8.toNat = b.elim 256 UInt8.toNat) : a = b := by
  cases a with
  | none => cases b with
    | none => rfl
    | some y => have := UInt8.toNat_lt y; simp only [Option.elim] at h; omega
  | some x => cases b with
    | none => have := UInt8.toNat_lt x; simp only [Option.elim] at h; omega
    | some y => simp only [Option.elim] at h; rw [UInt8.toNat.inj h]
theorem eq_of_gb {s t : ByteArray} (h : ∀ i, gb s i = gb t i) : s = t := by
  have hl : s.data.toList = t.data.toList := by
    apply List.ext_getElem?
    intro i
    have := h i
    rw [gb_list, gb_list] at this
    exact elim_inj this
  have hd : s.data = t.data := Array.toList_inj.1 hl
  cases s; cases t; cases hd; rfl
theorem extract_gb {p p' : ByteArray} {a b a' b' : Nat} (hb : b ≤ p.size) (hb' : b' ≤ p'.size) (hl : b - a = b' - a') (h : ∀ i, i < b - a → gb p (a + i) = gb p' (a' + i)) : p.extract a b = p'.extract a' b' := by
  apply eq_of_gb
  intro i
  rw [gb_extract, gb_extract]
  by_cases hi : i < b - a
  · rw [if_pos (by omega), if_pos (by omega), h i hi]
  · rw [if_neg (by omega), if_neg (by omega)]

/-- Two texts are alike from a place on, for so many bytes. -/
def alike (p : ByteArray) (k : Nat) (p' : ByteArray) (k' m : Nat) : Prop := ∀ i, i < m → gb p (k + i) = gb p' (k' + i)
theorem alike.symm {p p' : ByteArray} {k k' m : Nat} (h : alike p k p' k' m) : alike p' k' p k m := fun i hi => (h i hi).symm
theorem alike.size {p p' : ByteArray} {k k' m i : Nat} (h : alike p k p' k' m) (hi : i < m) (hs : k + i < p.size) : k' + i < p'.size := by
  rw [← gb_lt_iff, ← h i hi, gb_lt_iff]; exact hs
theorem alike.at0 {p p' : ByteArray} {k k' m : Nat} (h : alike p k p' k' m) (hi : 0 < m) : gb p k = gb p' k' := h 0 hi
theorem alike.from {p p' : ByteArray} {k k' m j : Nat} (h : alike p k p' k' m) (_hj : j ≤ m) : alike p (k + j) p' (k' + j) (m - j) := fun i hi => by
  rw [Nat.add_assoc, Nat.add_assoc]; exact h (j + i) (by omega)

theorem beh_pre {p p' : ByteArray} {k k' m : Nat} (h : alike p k p' k' m) (hok : behOk p k = true) (hn : behN p k ≤ k + m) :
    behOk p' k' = true ∧ behF p' k' = behF p k ∧ behN p' k' + k = behN p k + k' ∧ k + 2 ≤ behN p k := by
  have hs : ¬ p.size ≤ k + 1 := fun h' => by unfold behOk at hok; rw [if_pos h'] at hok; cases hok
  by_cases hx : gb p (k + 1) ≠ 120
  · have hN : behN p k = k + 2 := by unfold behN; rw [if_neg hs, if_pos hx]
    have h1 := h 1 (by omega)
    have hs' : ¬ p'.size ≤ k' + 1 := by have := h.size (i := 1) (by omega) (by omega); omega
    have hx' : gb p' (k' + 1) ≠ 120 := by rw [← h1]; exact hx
    unfold behOk at hok ⊢
    unfold behF behN
    rw [if_neg hs, if_pos hx] at hok
    rw [if_neg hs', if_pos hx', if_neg hs', if_neg hs, if_pos hx', if_pos hx, if_neg hs', if_neg hs, if_pos hx', if_pos hx, ← h1]
    exact ⟨hok, rfl, by omega, by omega⟩
  · by_cases hc : p.size ≤ k + 3 ∨ dig16 (gb p (k + 2)) < 0 ∨ dig16 (gb p (k + 3)) < 0
    · unfold behOk at hok; rw [if_neg hs, if_neg hx, if_pos hc] at hok; cases hok
    · have hN : behN p k = k + 4 := by unfold behN; rw [if_neg hs, if_neg hx, if_neg hc]
      have h1 := h 1 (by omega)
      have h2 := h 2 (by omega)
      have h3 := h 3 (by omega)
      have hs' : ¬ p'.size ≤ k' + 1 := by have := h.size (i := 1) (by omega) (by omega); omega
      have hx' : ¬ gb p' (k' + 1) ≠ 120 := by rw [← h1]; exact hx
      have hc' : ¬ (p'.size ≤ k' + 3 ∨ dig16 (gb p' (k' + 2)) < 0 ∨ dig16 (gb p' (k' + 3)) < 0) := by
        rw [← h2, ← h3]
        have := h.size (i := 3) (by omega) (by omega)
        omega
      unfold behOk behF behN
      rw [if_neg hs', if_neg hx', if_neg hc', if_neg hs', if_neg hs, if_neg hx', if_neg hx, if_neg hc', if_neg hc, if_neg hs', if_neg hs, if_neg hx', if_neg hx, if_neg hc', if_neg hc, ← h2, ← h3]
      exact ⟨rfl, rfl, by omega, by omega⟩

theorem nmEnd_spec {p : ByteArray} {i j : Nat} (h : nmEnd p i = some j) : i ≤ j ∧ hitB p j = true ∧ ∀ x, i ≤ x → x < j → hitB p x = false := by
  unfold nmEnd at h
  rw [List.find?_range_eq_some] at h
  obtain ⟨h1, _, h3⟩ := h
  have hj : i ≤ j ∧ hitB p j = true := by unfold hitB; simpa using h1
  refine ⟨hj.1, hj.2, fun x hx hx2 => ?_⟩
  have := h3 x hx2
  unfold hitB
  cases hh : (gb p x == 58 && gb p (x + 1) == 93)
  · rfl
  · rw [hh] at this; simp at this; omega

theorem sin_pre {p p' : ByteArray} {k k' m : Nat} (h : alike p k p' k' m) (hok : sinOk p k = true) (hn : sinN p k < k + m) :
    sinOk p' k' = true ∧ sinF p' k' = sinF p k ∧ sinN p' k' + k = sinN p k + k' ∧ sinNm p' k' = sinNm p k ∧ k + 1 ≤ sinN p k := by
  by_cases h0 : gb p k = 92
  · have e1 : sinOk p k = behOk p k := by unfold sinOk; rw [if_pos h0]
    have e2 : sinN p k = behN p k := by unfold sinN; rw [if_pos h0]
    rw [e1] at hok
    rw [e2] at hn ⊢
    obtain ⟨b1, b2, b3, b4⟩ := beh_pre h hok (by omega)
    have h0' : gb p' k' = 92 := by rw [← h.at0 (by omega)]; exact h0
    unfold sinOk sinF sinN sinNm
    rw [if_pos h0', if_pos h0', if_pos h0, if_pos h0', if_pos h0', if_pos h0]
    exact ⟨b1, b2, b3, rfl, by omega⟩
  · by_cases h1 : gb p k = 91 ∧ gb p (k + 1) = 58
    · cases hnm : nmEnd p (k + 2) with
      | none => unfold sinOk at hok; rw [if_neg h0, if_pos h1, hnm] at hok; cases hok
      | some j =>
        obtain ⟨j1, j2, j3⟩ := nmEnd_spec hnm
        have hj := hitB_in j2
        have hN : sinN p k = j + 2 := by unfold sinN; rw [if_neg h0, if_pos h1, hnm]
        have a0 := h 0 (by omega)
        have a1 := h 1 (by omega)
        have gj : ∀ x, k ≤ x → x < k + m → gb p' (x - k + k') = gb p x := fun x hx hx2 => by
          have := h (x - k) (by omega)
          rw [show k + (x - k) = x by omega, show k' + (x - k) = x - k + k' by omega] at this
          exact this.symm
        have hj' : hitB p' (j - k + k') = true := by
          unfold hitB at j2 ⊢
          rw [gj j (by omega) (by omega), show j - k + k' + 1 = (j + 1) - k + k' by omega, gj (j + 1) (by omega) (by omega)]
          exact j2
        have hno' : ∀ x, k' + 2 ≤ x → x < j - k + k' → hitB p' x = false := fun x hx hx2 => by
          have := j3 (x - k' + k) (by omega) (by omega)
          unfold hitB at this ⊢
          have e1 := gj (x - k' + k) (by omega) (by omega)
          have e2 := gj (x - k' + k + 1) (by omega) (by omega)
          rw [show x - k' + k - k + k' = x by omega] at e1
          rw [show x - k' + k + 1 - k + k' = x + 1 by omega] at e2
          rw [e1, e2]
          exact this
        have hnm' : nmEnd p' (k' + 2) = some (j - k + k') := nmEnd_some (by omega) hj' hno'
        have hjs' := hitB_in hj'
        have hex : p.extract (k + 2) j = p'.extract (k' + 2) (j - k + k') := by
          apply extract_gb (by omega) (by omega) (by omega)
          intro i hi
          have := gj (k + 2 + i) (by omega) (by omega)
          rw [show k + 2 + i - k + k' = k' + 2 + i by omega] at this
          exact this.symm
        have h0' : gb p' k' ≠ 92 := by rw [← h.at0 (by omega)]; exact h0
        have h1' : gb p' k' = 91 ∧ gb p' (k' + 1) = 58 := ⟨by rw [← h.at0 (by omega)]; exact h1.1, by rw [← a1]; exact h1.2⟩
        unfold sinOk at hok ⊢
        unfold sinF sinN sinNm
        rw [if_neg h0, if_pos h1, hnm] at hok
        simp only [if_neg h0', if_pos h1', hnm', if_neg h0, if_pos h1, hnm, ← hex]
        exact ⟨hok, trivial, by omega, trivial, by omega⟩
    · have hN : sinN p k = k + 1 := by unfold sinN; rw [if_neg h0, if_neg h1]
      have h0' : gb p' k' ≠ 92 := by rw [← h.at0 (by omega)]; exact h0
      have a0 : gb p k = gb p' k' := h.at0 (by omega)
      by_cases h1' : gb p' k' = 91 ∧ gb p' (k' + 1) = 58
      · exact absurd ⟨by rw [a0]; exact h1'.1, by rw [h 1 (by omega)]; exact h1'.2⟩ h1
      · unfold sinOk sinF sinN sinNm
        rw [if_neg h0', if_neg h1', if_neg h0', if_neg h0, if_neg h1', if_neg h1, if_neg h0', if_neg h0, if_neg h1', if_neg h1, if_neg h0', if_neg h0, if_neg h1', if_neg h1, a0]
        exact ⟨rfl, rfl, by omega, rfl, by omega⟩

/-- .. and so what a text's tail begins with. -/
theorem tail_alike (p : ByteArray) (k m : Nat) : alike (p.extract k p.size) 0 p k m := fun i _ => by rw [gb_tail, Nat.zero_add]
theorem sin_tail (p : ByteArray) (k : Nat) : sinOk (p.extract k p.size) 0 = sinOk p k ∧ (sinOk p k = true → sinF (p.extract k p.size) 0 = sinF p k ∧ sinN p k = k + sinN (p.extract k p.size) 0 ∧ sinNm (p.extract k p.size) 0 = sinNm p k ∧ k + 1 ≤ sinN p k) := by
  cases h : sinOk p k
  · refine ⟨?_, fun h' => by cases h'⟩
    cases h2 : sinOk (p.extract k p.size) 0
    · rfl
    · have := (sin_pre (tail_alike p k (sinN (p.extract k p.size) 0 + 1)) h2 (by omega)).1
      rw [h] at this; cases this
  · obtain ⟨a1, a2, a3, a4, a5⟩ := sin_pre (tail_alike p k (sinN p k + 1)).symm h (by omega)
    exact ⟨a1, fun _ => ⟨a2, by omega, a4, a5⟩⟩
theorem pa_tail (p : ByteArray) (k : Nat) : paF (p.extract k p.size) = (if sinOk p k = true then sinF p k else fun _ => false) ∧ paN (p.extract k p.size) = (if sinOk p k = true then sinN p k - k else 0) := by
  obtain ⟨h1, h2⟩ := sin_tail p k
  unfold paF paN
  rw [h1]
  cases h : sinOk p k
  · exact ⟨rfl, rfl⟩
  · obtain ⟨a1, a2, _, _⟩ := h2 h
    simp only [if_true]
    exact ⟨a1, by omega⟩
end Go.Proofs.YtgjpmfdiidkdnaaDoor
