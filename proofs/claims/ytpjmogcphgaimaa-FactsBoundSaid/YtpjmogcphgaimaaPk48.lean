/-
  The walks of facts' Size and Of.
  The walk of byteset's Of.
-/
import Derived.Test.YtpjmogcphgaimaaPk46
import Derived.Test.YtpjmogcphgaimaaPk47
import Derived.Test.YtpjmogcphgaimaaPk3
namespace Go.Proofs.Ytpjmogcphgaimaa
open Go.RowKit

theorem csize_not (p : Option Addr) (n cap : Nat) (N : Nat → Nd) (ht : ¬ tree N n) (w : World) (hR : Calls Try.prog 17 #[.slice p n cap] w fun e w' => e = .returned (.bool (decide (tree N n))) ∧ Below w.heap.size w w') :
    Calls Try.prog 8 #[.slice p n cap] w (szPost (-1) w) := by
  rw [decide_eq_false ht] at hR
  have HR := Lib.hid hR
  clear hR ht
  unfold szPost
  go_enter Try.func8, Try.ntmps8
  go_wp2_with fail
  refine HR.out.mono ?_
  rintro e w1 ⟨rfl, hb⟩
  have HB := Lib.hid hb
  clear hb
  go_wp2_with fail
  go_returns
  exact ⟨rfl, HB.out⟩
theorem csize_tree (b off n cap : Nat) (N : Nat → Nd) (ht : tree N n) (w : World) (hr : rdN w b off n N) :
    Calls Try.prog 8 #[.slice (some ⟨b, off, none⟩) n cap] w (szPost (szF (trT N (n - 1))) w) := by
  have hR := right_some b off n cap N ht.1 w hr
  rw [decide_eq_true ht] at hR
  have HR := Lib.hid hR
  have HF := Lib.hid (fun w hr => fold_i b off n cap N ht w hr)
  have HRD := Lib.hid hr
  clear hR hr ht
  unfold szPost at HF ⊢
  go_enter Try.func8, Try.ntmps8
  go_wp2_with fail
  refine HR.out.mono ?_
  rintro e w1 ⟨rfl, hb⟩
  have HB := Lib.hid hb
  have HRD1 := Lib.hid (HRD.out.below hb)
  clear hb HR HRD
  go_wp2_with fail
  refine (HF.out _ HRD1.out).mono ?_
  rintro e w2 ⟨rfl, hb⟩
  have HB2 := Lib.hid (HB.out.trans (hb.mono HB.out.size))
  clear hb
  go_wp2_with fail
  go_returns
  exact ⟨rfl, HB2.out⟩
/-- What Size tells. -/
def sizeF (N : Nat → Nd) (n : Nat) : Int := if tree N n then szF (trT N (n - 1)) else -1
theorem csize_any (p : Option Addr) (n cap : Nat) (N : Nat → Nd) (h : n = 0 ∨ ∃ b off, p = some ⟨b, off, none⟩) (w : World) (hr : ∀ b off, p = some ⟨b, off, none⟩ → rdN w b off n N) :
    Calls Try.prog 8 #[.slice p n cap] w (szPost (sizeF N n) w) := by
  by_cases ht : tree N n
  · rw [show sizeF N n = szF (trT N (n - 1)) from if_pos ht]
    rcases h with rfl | ⟨b, off, rfl⟩
    · have := ht.2.2; simp [dep] at this
    · exact csize_tree b off n cap N ht w (hr b off rfl)
  · rw [show sizeF N n = -1 from if_neg ht]
    refine csize_not p n cap N ht w ?_
    rcases Nat.lt_or_ge 512 n with hn | hn
    · exact right_long p n cap N hn w
    · rcases h with rfl | ⟨b, off, rfl⟩
      · exact right_zero p cap N w
      · exact right_some b off n cap N hn w (hr b off rfl)

/-- What Of tells. -/
def ofPost7 (a : Fx) (e : Bool) (c : Int) (w : World) (x : Ending) (w' : World) : Prop := x = .returned (.tuple #[fxv a e, .int .i64 c]) ∧ Below w.heap.size w w'
set_option maxHeartbeats 1000000 in
theorem cof_not (p : Option Addr) (n cap : Nat) (N : Nat → Nd) (ht : ¬ tree N n) (w : World) (hR : ∀ w, (∀ b off, p = some ⟨b, off, none⟩ → rdN w b off n N) → Calls Try.prog 17 #[.slice p n cap] w fun e w' => e = .returned (.bool (decide (tree N n))) ∧ Below w.heap.size w w')
    (hr : ∀ b off, p = some ⟨b, off, none⟩ → rdN w b off n N) :
    Calls Try.prog 9 #[.slice p n cap] w (ofPost7 fx0 false 3 w) := by
  rw [decide_eq_false ht] at hR
  have HE : Hid (fxv fx0 false = fxr false 0 0 0 0 0 0 false) := Lib.hid (fxv_zero false)
  have HA : Hid (Below w.heap.size w (w.alloc (.cells #[.bool false, .int .i64 0, .int .i64 0, .int .u64 0, .int .u64 0, .int .u64 0, .int .u64 0, .bool false] 31))) := Lib.hid ((Below.refl _ _).alloc (Nat.le_refl _) _)
  have HR := Lib.hid (hR _ fun b off h => (hr b off h).below HA.out)
  have HEC : Hid (isFx (w.alloc (.cells #[.bool false, .int .i64 0, .int .i64 0, .int .u64 0, .int .u64 0, .int .u64 0, .int .u64 0, .bool false] 31)) w.heap.size false 0 0 0 0 0 0 false) := Lib.hid (isFx.new w false 0 0 0 0 0 0 false)
  clear hR hr ht
  unfold ofPost7
  go_enter Try.func9, Try.ntmps9
  go_wp2_with fail
  refine HR.out.mono ?_
  rintro e w1 ⟨rfl, hb⟩
  have e1 := HEC.out.below hb HEC.out.lt
  have HB := Lib.hid (HA.out.trans (hb.mono HA.out.size))
  obtain ⟨c0, c1, c2, c3, c4, c5, c6, c7⟩ := e1.cells
  obtain ⟨f0, f1, f2, f3, f4, f5, f6, f7⟩ := e1.free
  have HS := Lib.hid (below_st8 HB.out (Nat.le_refl _) false 0 0 0 0 0 0 false)
  have Z := e1.stored false 0 0 0 0 0 0 false
  unfold set8 at Z
  have Z := Lib.hid Z.cells
  clear hb HR HEC HA e1 HB
  go_wp2_with fail
  refine bodyPost_ret (v := .tuple #[fxr false 0 0 0 0 0 0 false, .int .i64 3]) ?h rfl ⟨by rw [HE.out], HS.out⟩
  case h =>
    have Z0 := Z.out
    generalize ((((((((w1.setCell ⟨w.heap.size, 0, none⟩ (.bool false)).setCell ⟨w.heap.size, 1, none⟩ (.int .i64 0)).setCell ⟨w.heap.size, 2, none⟩ (.int .i64 0)).setCell ⟨w.heap.size, 3, none⟩ (.int .u64 0)).setCell ⟨w.heap.size, 4, none⟩ (.int .u64 0)).setCell ⟨w.heap.size, 5, none⟩ (.int .u64 0)).setCell ⟨w.heap.size, 6, none⟩ (.int .u64 0)).setCell ⟨w.heap.size, 7, none⟩ (.bool false)) = W9 at Z0 ⊢
    obtain ⟨z0, z1, z2, z3, z4, z5, z6, z7⟩ := Z0
    simp [results, Try.results9, go_sem, z0, z1, z2, z3, z4, z5, z6, z7]
set_option maxHeartbeats 1000000 in
theorem cof_tree (b off n cap : Nat) (N : Nat → Nd) (ht : tree N n) (hw : ∀ j, j < n → okW (N j)) (w : World) (hr : rdN w b off n N) :
    Calls Try.prog 9 #[.slice (some ⟨b, off, none⟩) n cap] w (ofPost7 (fxT (trT N (n - 1))) (enT (trT N (n - 1))) 0 w) := by
  have HA : Hid (Below w.heap.size w (w.alloc (.cells #[.bool false, .int .i64 0, .int .i64 0, .int .u64 0, .int .u64 0, .int .u64 0, .int .u64 0, .bool false] 31))) := Lib.hid ((Below.refl _ _).alloc (Nat.le_refl _) _)
  have HRD := Lib.hid (hr.below HA.out)
  have hR := right_some b off n cap N ht.1 _ HRD.out
  rw [decide_eq_true ht] at hR
  have HR := Lib.hid hR
  have HF := Lib.hid (fun w hr => fold_f b off n cap N ht hw w hr)
  have HEC : Hid (isFx (w.alloc (.cells #[.bool false, .int .i64 0, .int .i64 0, .int .u64 0, .int .u64 0, .int .u64 0, .int .u64 0, .bool false] 31)) w.heap.size false 0 0 0 0 0 0 false) := Lib.hid (isFx.new w false 0 0 0 0 0 0 false)
  have HE : Hid (fxv (fxT (trT N (n - 1))) (enT (trT N (n - 1))) = fxr (fxT (trT N (n - 1))).nv (fxT (trT N (n - 1))).ls (fxT (trT N (n - 1))).ms (wd (fxT (trT N (n - 1))).fi 0 : Int) (wd (fxT (trT N (n - 1))).fi 1 : Int) (wd (fxT (trT N (n - 1))).fi 2 : Int) (wd (fxT (trT N (n - 1))).fi 3 : Int) (enT (trT N (n - 1)))) := Lib.hid rfl
  clear hR hr ht hw
  unfold ofPost7
  unfold fxPost at HF
  generalize fxv (fxT (trT N (n - 1))) (enT (trT N (n - 1))) = V at *
  generalize (fxT (trT N (n - 1))).nv = xn at *
  generalize (fxT (trT N (n - 1))).ls = xl at *
  generalize (fxT (trT N (n - 1))).ms = xm at *
  generalize (wd (fxT (trT N (n - 1))).fi 0 : Int) = x0 at *
  generalize (wd (fxT (trT N (n - 1))).fi 1 : Int) = x1 at *
  generalize (wd (fxT (trT N (n - 1))).fi 2 : Int) = x2 at *
  generalize (wd (fxT (trT N (n - 1))).fi 3 : Int) = x3 at *
  generalize enT (trT N (n - 1)) = xe at *
  obtain rfl : V = fxr xn xl xm x0 x1 x2 x3 xe := HE.out
  clear HE
  unfold fxr at HF ⊢
  go_enter Try.func9, Try.ntmps9
  go_wp2_with fail
  refine HR.out.mono ?_
  rintro e w1 ⟨rfl, hb⟩
  have E1 := Lib.hid (HEC.out.below hb HEC.out.lt)
  have HB := Lib.hid (HA.out.trans (hb.mono HA.out.size))
  have HRD1 := Lib.hid (HRD.out.below hb)
  clear hb HR HEC HA HRD
  go_wp2_with fail
  refine (HF.out _ HRD1.out).mono ?_
  rintro e w2 ⟨rfl, hb⟩
  have e1 := E1.out.below hb E1.out.lt
  have HB2 := Lib.hid (HB.out.trans (hb.mono HB.out.size))
  obtain ⟨c0, c1, c2, c3, c4, c5, c6, c7⟩ := e1.cells
  obtain ⟨f0, f1, f2, f3, f4, f5, f6, f7⟩ := e1.free
  have HS := Lib.hid (below_st8 HB2.out (Nat.le_refl _) xn xl xm x0 x1 x2 x3 xe)
  have Z := e1.stored xn xl xm x0 x1 x2 x3 xe
  unfold set8 at Z
  have Z := Lib.hid Z.cells
  clear hb e1 E1 HB HB2 HF HRD1
  go_wp2_with fail
  refine bodyPost_ret (v := .tuple #[fxr xn xl xm x0 x1 x2 x3 xe, .int .i64 0]) ?h rfl ⟨rfl, HS.out⟩
  case h =>
    have Z0 := Z.out
    generalize ((((((((w2.setCell ⟨w.heap.size, 0, none⟩ (.bool xn)).setCell ⟨w.heap.size, 1, none⟩ (.int .i64 xl)).setCell ⟨w.heap.size, 2, none⟩ (.int .i64 xm)).setCell ⟨w.heap.size, 3, none⟩ (.int .u64 x0)).setCell ⟨w.heap.size, 4, none⟩ (.int .u64 x1)).setCell ⟨w.heap.size, 5, none⟩ (.int .u64 x2)).setCell ⟨w.heap.size, 6, none⟩ (.int .u64 x3)).setCell ⟨w.heap.size, 7, none⟩ (.bool xe)) = W9 at Z0 ⊢
    obtain ⟨z0, z1, z2, z3, z4, z5, z6, z7⟩ := Z0
    simp [results, Try.results9, go_sem, z0, z1, z2, z3, z4, z5, z6, z7]
/-- The code's Of, over any list. -/
theorem cof_any (p : Option Addr) (n cap : Nat) (N : Nat → Nd) (h : n = 0 ∨ ∃ b off, p = some ⟨b, off, none⟩ ∧ (∀ j, j < n → okW (N j))) (w : World) (hr : ∀ b off, p = some ⟨b, off, none⟩ → rdN w b off n N) :
    Calls Try.prog 9 #[.slice p n cap] w (if tree N n then ofPost7 (fxT (trT N (n - 1))) (enT (trT N (n - 1))) 0 w else ofPost7 fx0 false 3 w) := by
  by_cases ht : tree N n
  · rw [if_pos ht]
    rcases h with rfl | ⟨b, off, rfl, hw⟩
    · have := ht.2.2; simp [dep] at this
    · exact cof_tree b off n cap N ht hw w (hr b off rfl)
  · rw [if_neg ht]
    refine cof_not p n cap N ht w (fun w hr => ?_) hr
    rcases Nat.lt_or_ge 512 n with hn | hn
    · exact right_long p n cap N hn w
    · rcases h with rfl | ⟨b, off, rfl, -⟩
      · exact right_zero p cap N w
      · exact right_some b off n cap N hn w (hr b off rfl)
end Go.Proofs.Ytpjmogcphgaimaa

namespace Go.Proofs.Ytpjmogcphgaimaa
open Go.RowKit

/-- The world within Of, k bytes on. -/
def ofW (w : World) (l : List Nat) (k : Nat) : World :=
  (w.alloc (.cells #[.int .u64 0, .int .u64 0, .int .u64 0, .int .u64 0] 29)).alloc (.cells #[.int .u64 (wd (inl (l.take k)) 0 : Int), .int .u64 (wd (inl (l.take k)) 1 : Int), .int .u64 (wd (inl (l.take k)) 2 : Int), .int .u64 (wd (inl (l.take k)) 3 : Int)] 29)

set_option maxHeartbeats 1000000 in
theorem of_some (l : List Nat) (hl : ∀ x, x ∈ l → x < 256) (b off cap : Nat) (w : World) (hm : l.length ≤ maxLen) (hb : b < w.heap.size) (hc : ∀ j (h : j < l.length), w.cell? ⟨b, off + j, none⟩ = some (.int .u8 (l[j] : Nat))) :
    Calls Try.prog 13 #[.slice (some ⟨b, off, none⟩) l.length cap] w fun e w' => e = .returned (sv (inl l)) ∧ Below w.heap.size w w' := by
  unfold maxLen at hm
  have hz0 : ∀ i, wd (inl (l.take 0)) i = 0 := fun i => word_none _ _ fun j _ => by simp [inl]
  go_enter Try.func13, Try.ntmps13
  go_wp2
  go_loopw [8] (fun i wr => ∃ k : Nat, k ≤ l.length ∧ i = .int .i64 k ∧ wr = ofW w l k) (fun i _ => l.length - (intOf i).toNat)
  case atStart => exact ⟨0, Nat.zero_le _, rfl, by unfold ofW; rw [hz0, hz0, hz0, hz0]; rfl⟩
  case round =>
    obtain ⟨k, hk, rfl, rfl⟩ := hrel
    clear hz0
    by_cases hlt : k < l.length
    · have hit := fun i => of_word_hit l k i hlt
      have miss := fun i => of_word_miss l k i hlt
      have hcell := hc k hlt
      have hx : l[k] < 256 := hl _ (List.getElem_mem hlt)
      obtain ⟨c, hcc⟩ : ∃ c, c = l[k] := ⟨_, rfl⟩
      rw [← hcc] at hcell hx
      simp only [← hcc] at hit miss
      clear hcc hc hl
      have q : c / 64 = 0 ∨ c / 64 = 1 ∨ c / 64 = 2 ∨ c / 64 = 3 := by omega
      unfold ofW
      rcases q with q | q | q | q
      · have q' : (c : Int) / 64 = 0 := by omega
        have e0 := Lib.hid (hit 0 q); have e1 := Lib.hid (miss 1 (by omega)); have e2 := Lib.hid (miss 2 (by omega)); have e3 := Lib.hid (miss 3 (by omega))
        clear hit miss q
        go_wp2
        go_roundw
        case rel => exact ⟨k + 1, by omega, by go_num, by rw [← e0.out, ← e1.out, ← e2.out, ← e3.out]⟩
        case measure => simp [intOf]; omega
      · have q' : (c : Int) / 64 = 1 := by omega
        have e0 := Lib.hid (miss 0 (by omega)); have e1 := Lib.hid (hit 1 q); have e2 := Lib.hid (miss 2 (by omega)); have e3 := Lib.hid (miss 3 (by omega))
        clear hit miss q
        go_wp2
        go_roundw
        case rel => exact ⟨k + 1, by omega, by go_num, by rw [← e0.out, ← e1.out, ← e2.out, ← e3.out]⟩
        case measure => simp [intOf]; omega
      · have q' : (c : Int) / 64 = 2 := by omega
        have e0 := Lib.hid (miss 0 (by omega)); have e1 := Lib.hid (miss 1 (by omega)); have e2 := Lib.hid (hit 2 q); have e3 := Lib.hid (miss 3 (by omega))
        clear hit miss q
        go_wp2
        go_roundw
        case rel => exact ⟨k + 1, by omega, by go_num, by rw [← e0.out, ← e1.out, ← e2.out, ← e3.out]⟩
        case measure => simp [intOf]; omega
      · have q' : (c : Int) / 64 = 3 := by omega
        have e0 := Lib.hid (miss 0 (by omega)); have e1 := Lib.hid (miss 1 (by omega)); have e2 := Lib.hid (miss 2 (by omega)); have e3 := Lib.hid (hit 3 q)
        clear hit miss q
        go_wp2
        go_roundw
        case rel => exact ⟨k + 1, by omega, by go_num, by rw [← e0.out, ← e1.out, ← e2.out, ← e3.out]⟩
        case measure => simp [intOf]; omega
    · have hkl : k = l.length := by omega
      have ht : Hid (inl (l.take k) = inl l) := by rw [hkl, List.take_length] <;> rfl
      clear hc hl hkl
      unfold ofW
      go_wp2
      go_returns
      exact ⟨by rw [ht.out] <;> rfl, by go_grown⟩

set_option maxHeartbeats 1000000 in
theorem of_nil (w : World) :
    Calls Try.prog 13 #[.slice none 0 0] w fun e w' => e = .returned (sv (inl [])) ∧ Below w.heap.size w w' := by
  have hz : Hid (sv (inl []) = .agg #[.int .u64 0, .int .u64 0, .int .u64 0, .int .u64 0]) := by
    have h0 : ∀ i, wd (inl []) i = 0 := fun i => word_none _ _ fun j _ => by simp [inl]
    unfold sv; rw [h0, h0, h0, h0] <;> rfl
  go_enter Try.func13, Try.ntmps13
  go_wp2
  refine wp_loop_rounds 1 ?_
  rw [rounds_succ]; go_wp2
  go_returns
  exact ⟨by rw [hz.out], by go_grown⟩

theorem of_any (l : List Nat) (hl : ∀ x, x ∈ l → x < 256) (hm : l.length ≤ maxLen) (v : Value) (w : World) (h : rd8 w v l) :
    Calls Try.prog 13 #[v] w fun e w' => e = .returned (sv (inl l)) ∧ Below w.heap.size w w' := by
  rcases h with ⟨rfl, rfl⟩ | ⟨b, off, cap, rfl, hb, hc⟩
  · exact of_nil w
  · exact of_some l hl b off cap w hm hb hc
/-- Of, at a slice of one byte that has just been made. -/
theorem of_one (c : Nat) (hc : c < 256) (b : Nat) (w : World) (hb : b < w.heap.size) (h : w.cell? ⟨b, 0, none⟩ = some (.int .u8 (c : Int))) :
    Calls Try.prog 13 #[.slice (some ⟨b, 0, none⟩) 1 1] w fun e w' => e = .returned (sv fun k => decide (k = c)) ∧ Below w.heap.size w w' := by
  refine (of_any [c] (by simpa using hc) (by unfold maxLen; simp) _ _ (.inr ⟨b, 0, 1, rfl, hb, ?_⟩)).mono ?_
  · intro j hj
    match j, hj with
    | 0, _ => simpa using h
  · rintro e w1 ⟨rfl, hb⟩
    exact ⟨by congr 1; exact sv_congr fun k _ => by simp [inl], hb⟩
end Go.Proofs.Ytpjmogcphgaimaa
