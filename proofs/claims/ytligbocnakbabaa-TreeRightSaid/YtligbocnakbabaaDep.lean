/-
  The walk of the code's Depth: how many nodes stand within one another.
-/
import Derived.Test.YtligbocnakbabaaRgt
import Derived.Test.YtligbocnakbabaaRfs
namespace Go.Proofs.Ytligbocnakbabaa
open Go.RowKit

theorem mx_take_le (l : List Int) (n : Nat) : mx (l.take n) ≤ mx l := by
  have := mx_append (l.take n) (l.drop n)
  rw [List.take_append_drop] at this
  omega
theorem mx_le (N : Nat → Nd) : ∀ k, mx (stk N k) ≤ k := by
  intro k
  induction k with
  | zero => simp [stk, mx]
  | succ k ih =>
    have h := mx_append ((stk N k).take (ar (N k).k).toNat) ((stk N k).drop (ar (N k).k).toNat)
    rw [List.take_append_drop] at h
    simp only [stk, mx]
    omega
theorem stk_pos (N : Nat → Nd) : ∀ k x, x ∈ stk N k → 1 ≤ x := by
  intro k
  induction k with
  | zero => intro x hx; simp [stk] at hx
  | succ k ih =>
    intro x hx
    rw [stk_succ] at hx
    rcases List.mem_cons.1 hx with rfl | hx
    · exact dpt_pos N k
    · exact ih x (List.mem_of_mem_drop hx)
theorem mem_le_mx {l : List Int} {x : Int} (h : x ∈ l) : x ≤ mx l := by
  induction l with
  | nil => cases h
  | cons y l ih =>
    simp only [mx]
    rcases List.mem_cons.1 h with rfl | h
    · omega
    · have := ih h; omega
/-- The front of a row that the call owns. -/
theorem owns_take {w : World} {base : Nat} {e : TypeId} {g cap n m : Nat} {xs : List Value} (hm : m ≤ n) (h : w.ownsRow base e 1 (.slice (some ⟨g, 0, none⟩) n cap) n xs) :
    w.ownsRow base e 1 (.slice (some ⟨g, 0, none⟩) m cap) m (xs.take m) := by
  obtain ⟨h1, h2⟩ := h
  rcases h2 with ⟨h0, _⟩ | ⟨g', cap', cur, hv, hg, hh, hn, hcap, hsz, htake⟩
  · cases h0
  · cases hv
    refine ⟨by rw [List.length_take]; omega, .inr ⟨g, cap, cur, rfl, hg, hh, by omega, hcap, hsz, ?_⟩⟩
    rw [← htake, List.take_take]
    congr 1
    omega
theorem rev_take (st : List Int) (a : Nat) : (ivs st.reverse).take (st.length - a) = ivs (st.drop a).reverse := by
  have : st.reverse = (st.drop a).reverse ++ (st.take a).reverse := by rw [← List.reverse_append, List.take_append_drop]
  unfold ivs
  rw [this, List.map_append, List.take_left' (by simp)]
theorem rev_get (st : List Int) (j : Nat) (hj : j < st.length) : (ivs st.reverse)[st.length - 1 - j]? = some (.int .i64 st[j]) := by
  have h2 : st.reverse[st.length - 1 - j]? = some st[j] := by
    rw [List.getElem?_reverse (by omega), show st.length - 1 - (st.length - 1 - j) = j by omega, List.getElem?_eq_getElem hj]
  unfold ivs
  rw [List.getElem?_map, h2]; rfl

theorem depth_not (p : Value) (N : Nat → Nd) (n : Nat) (ht : ¬ tree N n) (w : World)
    (hR : Calls Try.prog 9 #[p] w fun e w' => e = .returned (.bool (decide (tree N n))) ∧ Below w.heap.size w w') :
    Calls Try.prog 10 #[p] w fun e w' => e = .returned (.int .i64 0) ∧ Below w.heap.size w w' := by
  have HD : Hid (decide (tree N n) = false) := Lib.hid (decide_eq_false ht)
  have HR := Lib.hid hR
  clear hR
  go_enter Try.func10, Try.ntmps10
  go_wp2_with fail
  refine HR.out.mono ?_
  rintro e w' ⟨rfl, hb⟩
  rw [HD.out]
  go_wp2
  go_ret
  exact ⟨rfl, hb⟩

set_option maxRecDepth 100000 in
set_option maxHeartbeats 4000000 in
theorem depth_is (b off n cap : Nat) (N : Nat → Nd) (ht : tree N n) (w : World) (hr : rdN w b off n N) :
    Calls Try.prog 10 #[.slice (some ⟨b, off, none⟩) n cap] w fun e w' => e = .returned (.int .i64 (dpt N (n - 1))) ∧ Below w.heap.size w w' := by
  have hn : n ≤ 512 := ht.1
  obtain ⟨i0, hinf, hz0, hz1, hz2⟩ := info_parts infoInt
  have HR := Lib.hid hr; have HT := Lib.hid ht
  clear hr ht
  go_enter Try.func10, Try.ntmps10
  go_wp2_with fail
  refine (right_some _ _ _ _ _ hn _ HR.out).mono ?_
  rintro e w0 ⟨rfl, hb0⟩
  rw [show decide (tree N n) = true from decide_eq_true HT.out]
  have hs0 := hb0.size
  have HB0 := Lib.hid hb0
  clear hb0
  go_wp2_with fail
  go_loopw [3, 15] (fun v i wr => ∃ k : Nat, k ≤ n ∧ i = .int .i64 k ∧ wr.ownsRow w.heap.size 3 1 v (stk N k).length (ivs (stk N k).reverse) ∧ Below w.heap.size w wr) (fun _ i _ => n - (intOf i).toNat)
  case atStart => exact ⟨0, Nat.zero_le _, rfl, World.ownsRow_nil _ _ _ _, HB0.out⟩
  case round =>
    obtain ⟨k, hk, rfl, hown, hB⟩ := hrel
    obtain ⟨wo, rfl⟩ : ∃ wo : World, wo = wr := ⟨_, rfl⟩
    by_cases hlt : k < n
    · have hg := HT.out.2.1 k hlt
      have hlen := stk_len (N := N) (k := k) fun j hj => HT.out.2.1 j (by omega)
      have hsz := hB.size
      have h0 : (0 : Int) ≤ (k : Int) := by omega
      have h1 : (k : Int) < (n : Int) := by omega
      have hmx := mx_le N k
      have HP := Lib.hid (stk_pos N k)
      have HS := Lib.hid (show stk N (k + 1) = (mx ((stk N k).take (ar (N k).k).toNat) + 1) :: (stk N k).drop (ar (N k).k).toNat from rfl)
      have hdk := dep_bd (N := N) (p := k) fun j hj => HT.out.2.1 j (by omega)
      unfold good at hg
      obtain ⟨ha0, ha1, -⟩ := hg
      have ha2 := (ar_bd (N k).k).2
      obtain ⟨a, ha⟩ : ∃ a : Nat, ar (N k).k = a := ⟨(ar (N k).k).toNat, by omega⟩
      rw [ha] at ha0 ha1 ha2
      have HA := Lib.hid ha
      obtain ⟨st, hst⟩ : ∃ st, st = stk N k := ⟨_, rfl⟩
      rw [← hst] at hlen hmx hown HP HS
      have hal : a ≤ st.length := by omega
      have hll : st.length ≤ k := by omega
      clear ha hst hdk ha1
      obtain ⟨hbl, p0, p1, p2, p3, p4, p5, p6⟩ := (HR.out.below hB) k hlt
      have hcases : (st.length = 0 ∧ a = 0) ∨ (0 < st.length ∧ a = 0) ∨ (a = 1) ∨ (a = 2) := by omega
      rcases hcases with ⟨hz, rfl⟩ | ⟨hz, rfl⟩ | rfl | rfl
      · obtain rfl : st = [] := List.length_eq_zero_iff.1 hz
        clear hlen hmx hal hll hz HP
        have HF0 : Hid (wo.ownsRow w.heap.size 3 1 u3 0 []) := Lib.hid (by simpa [ivs] using hown)
        clear hown
        rcases id HF0.out.2 with ⟨rfl, -⟩ | ⟨g, cp, cur, rfl, -⟩
        · skip
          go_wp2_with (go_at_call 11; refine (args_any _ _).mono ?_; rintro e w' ⟨rfl, rfl⟩; rw [HA.out])
          refine wp_loop_rounds 1 ?_
          rw [rounds_succ]
          go_wp2_with (first | (go_at_call 11; refine (args_any _ _).mono ?_; rintro e w' ⟨rfl, rfl⟩; rw [HA.out]) | (at_builtin; refine wpList_append_own _ rfl _ _ 29 rfl w.heap.size 3 i0 (.int .i64 0) 1 8 Try.underlying29 hinf hz0 hz1 hz2 rfl (by decide) _ _ _ rfl ((HF0.out.alloc _).alloc _) ⟨wo.heap.size + 1, 0, none⟩ 1 1 [.int .i64 1] rfl rfl ?u1 ?u2 ?u3 ?u4 ?u5 ?_))
          case u1 =>
            intro x' u hx
            match x', hx with
            | 0, hx => simp at hx; subst hx; simp [Addr.add]
          case u2 => intro u hu; simp at hu; subst hu; rfl
          case u3 => unfold maxLen; omega
          case u4 => omega
          case u5 => simp; omega
          intro v' w3 hown3 hgrow _
          have HW3 : Hid (Below w.heap.size w w3) := Lib.hid (((hB.alloc hsz _).alloc (by simp; omega) _).grown hgrow (by simp; omega) fun r hr => (HF0.out.lt r hr).1)
          have HO : Hid (w3.ownsRow w.heap.size 3 1 v' (stk N (k + 1)).length (ivs (stk N (k + 1)).reverse)) := Lib.hid (by
            have e : stk N (k + 1) = 1 :: [] := by rw [HS.out, HA.out]; simp [mx]
            rw [e]; rw [List.length_cons]
            simpa [ivs] using hown3)
          clear hown3 hgrow
          go_wp2
          go_roundw
          case rel => exact ⟨k + 1, by omega, by go_num, HO.out, HW3.out⟩
          case measure => simp [intOf]; omega
        · skip
          rcases Nat.eq_zero_or_pos cp with rfl | hcp
          · skip
            go_wp2_with (go_at_call 11; refine (args_any _ _).mono ?_; rintro e w' ⟨rfl, rfl⟩; rw [HA.out])
            refine wp_loop_rounds 1 ?_
            rw [rounds_succ]
            go_wp2_with (first | (go_at_call 11; refine (args_any _ _).mono ?_; rintro e w' ⟨rfl, rfl⟩; rw [HA.out]) | (at_builtin; refine wpList_append_own _ rfl _ _ 29 rfl w.heap.size 3 i0 (.int .i64 0) 1 8 Try.underlying29 hinf hz0 hz1 hz2 rfl (by decide) _ _ _ rfl ((HF0.out.alloc _).alloc _) ⟨wo.heap.size + 1, 0, none⟩ 1 1 [.int .i64 1] rfl rfl ?u1 ?u2 ?u3 ?u4 ?u5 ?_))
            case u1 =>
              intro x' u hx
              match x', hx with
              | 0, hx => simp at hx; subst hx; simp [Addr.add]
            case u2 => intro u hu; simp at hu; subst hu; rfl
            case u3 => unfold maxLen; omega
            case u4 => omega
            case u5 => simp; omega
            intro v' w3 hown3 hgrow _
            have HW3 : Hid (Below w.heap.size w w3) := Lib.hid (((hB.alloc hsz _).alloc (by simp; omega) _).grown hgrow (by simp; omega) fun r hr => (HF0.out.lt r hr).1)
            have HO : Hid (w3.ownsRow w.heap.size 3 1 v' (stk N (k + 1)).length (ivs (stk N (k + 1)).reverse)) := Lib.hid (by
              have e : stk N (k + 1) = 1 :: [] := by rw [HS.out, HA.out]; simp [mx]
              rw [e]; rw [List.length_cons]
              simpa [ivs] using hown3)
            clear hown3 hgrow
            go_wp2
            go_roundw
            case rel => exact ⟨k + 1, by omega, by go_num, HO.out, HW3.out⟩
            case measure => simp [intOf]; omega
          · skip
            have ne1 : ¬ cp = 0 := by omega
            have ne2 : ¬ 0 = cp := by omega
            go_wp2_with (go_at_call 11; refine (args_any _ _).mono ?_; rintro e w' ⟨rfl, rfl⟩; rw [HA.out])
            refine wp_loop_rounds 1 ?_
            rw [rounds_succ]
            go_wp2_with (first | (go_at_call 11; refine (args_any _ _).mono ?_; rintro e w' ⟨rfl, rfl⟩; rw [HA.out]) | (at_builtin; refine wpList_append_own _ rfl _ _ 29 rfl w.heap.size 3 i0 (.int .i64 0) 1 8 Try.underlying29 hinf hz0 hz1 hz2 rfl (by decide) _ _ _ rfl ((HF0.out.alloc _).alloc _) ⟨wo.heap.size + 1, 0, none⟩ 1 1 [.int .i64 1] rfl rfl ?u1 ?u2 ?u3 ?u4 ?u5 ?_))
            case u1 =>
              intro x' u hx
              match x', hx with
              | 0, hx => simp at hx; subst hx; simp [Addr.add]
            case u2 => intro u hu; simp at hu; subst hu; rfl
            case u3 => unfold maxLen; omega
            case u4 => omega
            case u5 => simp; omega
            intro v' w3 hown3 hgrow _
            have HW3 : Hid (Below w.heap.size w w3) := Lib.hid (((hB.alloc hsz _).alloc (by simp; omega) _).grown hgrow (by simp; omega) fun r hr => (HF0.out.lt r hr).1)
            have HO : Hid (w3.ownsRow w.heap.size 3 1 v' (stk N (k + 1)).length (ivs (stk N (k + 1)).reverse)) := Lib.hid (by
              have e : stk N (k + 1) = 1 :: [] := by rw [HS.out, HA.out]; simp [mx]
              rw [e]; rw [List.length_cons]
              simpa [ivs] using hown3)
            clear hown3 hgrow
            go_wp2
            go_roundw
            case rel => exact ⟨k + 1, by omega, by go_num, HO.out, HW3.out⟩
            case measure => simp [intOf]; omega
      · obtain ⟨x, r, rfl⟩ : ∃ x r, st = x :: r := by cases st with | nil => simp at hz | cons x r => exact ⟨x, r, rfl⟩
        obtain ⟨m, hm⟩ : ∃ m, r.length = m := ⟨_, rfl⟩
        have ho : wo.ownsRow w.heap.size 3 1 u3 (m + 1) (ivs (x :: r).reverse) := by simpa [hm] using hown
        have hmk : m + 1 ≤ k := by simp [hm] at hll; omega
        have HM := Lib.hid hm
        clear hown hlen hmx hal hll HP hm hz
        rcases id ho.2 with ⟨rfl, hz⟩ | ⟨g, cp, cur, rfl, -, -, hcp, -⟩
        · exfalso; omega
        have HF0 := Lib.hid ho
        clear ho
        have hmi : (m : Int) + 1 ≤ 1000 := by omega
        rcases Nat.lt_or_eq_of_le hcp with hcl | rfl
        · skip
          have ne1 : ¬ cp = m + 1 := by omega
          have ne2 : ¬ m + 1 = cp := by omega
          go_wp2_with (go_at_call 11; refine (args_any _ _).mono ?_; rintro e w' ⟨rfl, rfl⟩; rw [HA.out])
          refine wp_loop_rounds 1 ?_
          rw [rounds_succ]
          go_wp2_with (first | (go_at_call 11; refine (args_any _ _).mono ?_; rintro e w' ⟨rfl, rfl⟩; rw [HA.out]) | (at_builtin; refine wpList_append_own _ rfl _ _ 29 rfl w.heap.size 3 i0 (.int .i64 0) 1 8 Try.underlying29 hinf hz0 hz1 hz2 rfl (by decide) _ _ _ rfl ((HF0.out.alloc _).alloc _) ⟨wo.heap.size + 1, 0, none⟩ 1 1 [.int .i64 1] rfl rfl ?u1 ?u2 ?u3 ?u4 ?u5 ?_))
          case u1 =>
            intro x' u hx
            match x', hx with
            | 0, hx => simp at hx; subst hx; simp [Addr.add]
          case u2 => intro u hu; simp at hu; subst hu; rfl
          case u3 => unfold maxLen; omega
          case u4 => omega
          case u5 => simp; omega
          intro v' w3 hown3 hgrow _
          have HW3 : Hid (Below w.heap.size w w3) := Lib.hid (((hB.alloc hsz _).alloc (by simp; omega) _).grown hgrow (by simp; omega) fun r hr => (HF0.out.lt r hr).1)
          have HO : Hid (w3.ownsRow w.heap.size 3 1 v' (stk N (k + 1)).length (ivs (stk N (k + 1)).reverse)) := Lib.hid (by
            have e : stk N (k + 1) = 1 :: x :: r := by rw [HS.out, HA.out]; simp [mx]
            rw [e]; rw [List.length_cons, List.length_cons, HM.out]
            simpa [ivs] using hown3)
          clear hown3 hgrow
          go_wp2
          go_roundw
          case rel => exact ⟨k + 1, by omega, by go_num, HO.out, HW3.out⟩
          case measure => simp [intOf]; omega
        · skip
          go_wp2_with (go_at_call 11; refine (args_any _ _).mono ?_; rintro e w' ⟨rfl, rfl⟩; rw [HA.out])
          refine wp_loop_rounds 1 ?_
          rw [rounds_succ]
          go_wp2_with (first | (go_at_call 11; refine (args_any _ _).mono ?_; rintro e w' ⟨rfl, rfl⟩; rw [HA.out]) | (at_builtin; refine wpList_append_own _ rfl _ _ 29 rfl w.heap.size 3 i0 (.int .i64 0) 1 8 Try.underlying29 hinf hz0 hz1 hz2 rfl (by decide) _ _ _ rfl ((HF0.out.alloc _).alloc _) ⟨wo.heap.size + 1, 0, none⟩ 1 1 [.int .i64 1] rfl rfl ?u1 ?u2 ?u3 ?u4 ?u5 ?_))
          case u1 =>
            intro x' u hx
            match x', hx with
            | 0, hx => simp at hx; subst hx; simp [Addr.add]
          case u2 => intro u hu; simp at hu; subst hu; rfl
          case u3 => unfold maxLen; omega
          case u4 => omega
          case u5 => simp; omega
          intro v' w3 hown3 hgrow _
          have HW3 : Hid (Below w.heap.size w w3) := Lib.hid (((hB.alloc hsz _).alloc (by simp; omega) _).grown hgrow (by simp; omega) fun r hr => (HF0.out.lt r hr).1)
          have HO : Hid (w3.ownsRow w.heap.size 3 1 v' (stk N (k + 1)).length (ivs (stk N (k + 1)).reverse)) := Lib.hid (by
            have e : stk N (k + 1) = 1 :: x :: r := by rw [HS.out, HA.out]; simp [mx]
            rw [e]; rw [List.length_cons, List.length_cons, HM.out]
            simpa [ivs] using hown3)
          clear hown3 hgrow
          go_wp2
          go_roundw
          case rel => exact ⟨k + 1, by omega, by go_num, HO.out, HW3.out⟩
          case measure => simp [intOf]; omega
      · obtain ⟨x, r, rfl⟩ : ∃ x r, st = x :: r := by cases st with | nil => simp at hal | cons x r => exact ⟨x, r, rfl⟩
        obtain ⟨m, hm⟩ : ∃ m, r.length = m := ⟨_, rfl⟩
        have ho : wo.ownsRow w.heap.size 3 1 u3 (m + 1) (ivs (r.reverse ++ [x])) := by simpa [hm] using hown
        have hmk : m + 1 ≤ k := by simp [hm] at hll; omega
        have hx1 : 1 ≤ x := HP.out x (by simp)
        have hx2 : x ≤ k := Int.le_trans (mem_le_mx (by simp)) hmx
        have hr : (ivs r.reverse).length = m := by simp [ivs, hm]
        have HM := Lib.hid hm
        clear hown hlen hmx hal hll HP hm
        rcases id ho.2 with ⟨rfl, hz⟩ | ⟨g, cp, cur, rfl, -, -, hcp, -⟩
        · exfalso; omega
        have hc0 : wo.cell? ⟨g, m, none⟩ = some (.int .i64 x) := by rw [ho.cellAt m (by omega)]; unfold ivs at hr ⊢; rw [List.map_append, List.getElem?_append_right (by omega), hr]; simp
        have hf0 := owns_take (m := m) (by omega) ho
        rw [show (ivs (r.reverse ++ [x])).take m = ivs r.reverse from by unfold ivs at hr ⊢; rw [List.map_append, List.take_left' hr]] at hf0
        have HF0 := Lib.hid hf0
        have hgl : g < wo.heap.size := (ho.lt g rfl).2
        have ne1 : ¬ cp = m := by omega
        have ne2 : ¬ m = cp := by omega
        have hmi : (m : Int) + 1 ≤ 1000 := by omega
        clear hr hf0 ho
        go_wp2_with (go_at_call 11; refine (args_any _ _).mono ?_; rintro e w' ⟨rfl, rfl⟩; rw [HA.out])
        refine wp_loop_rounds 2 ?_
        rw [rounds_succ]; go_wp2_with fail
        rw [rounds_succ]
        go_wp2_with (first | (go_at_call 11; refine (args_any _ _).mono ?_; rintro e w' ⟨rfl, rfl⟩; rw [HA.out]) | (at_builtin; refine wpList_append_own _ rfl _ _ 29 rfl w.heap.size 3 i0 (.int .i64 0) 1 8 Try.underlying29 hinf hz0 hz1 hz2 rfl (by decide) _ _ _ rfl ((HF0.out.alloc _).alloc _) ⟨wo.heap.size + 1, 0, none⟩ 1 1 [.int .i64 (x + 1)] rfl rfl ?u1 ?u2 ?u3 ?u4 ?u5 ?_))
        case u1 =>
          intro x' u hx
          match x', hx with
          | 0, hx => simp at hx; subst hx; simp [Addr.add]
        case u2 => intro u hu; simp at hu; subst hu; rfl
        case u3 => unfold maxLen; omega
        case u4 => omega
        case u5 => simp; omega
        intro v' w3 hown3 hgrow _
        have HW3 : Hid (Below w.heap.size w w3) := Lib.hid (((hB.alloc hsz _).alloc (by simp; omega) _).grown hgrow (by simp; omega) fun r hr => (HF0.out.lt r hr).1)
        have HO : Hid (w3.ownsRow w.heap.size 3 1 v' (stk N (k + 1)).length (ivs (stk N (k + 1)).reverse)) := Lib.hid (by
          have e : stk N (k + 1) = (x + 1) :: r := by rw [HS.out, HA.out]; simp [mx]; omega
          rw [e]; rw [List.length_cons, HM.out]
          simpa [ivs] using hown3)
        clear hown3 hgrow
        go_wp2
        go_roundw
        case rel => exact ⟨k + 1, by omega, by go_num, HO.out, HW3.out⟩
        case measure => simp [intOf]; omega
      · obtain ⟨x, y, r, rfl⟩ : ∃ x y r, st = x :: y :: r := by cases st with | nil => simp at hal | cons x r => cases r with | nil => simp at hal | cons y r => exact ⟨x, y, r, rfl⟩
        obtain ⟨m, hm⟩ : ∃ m, r.length = m := ⟨_, rfl⟩
        have ho : wo.ownsRow w.heap.size 3 1 u3 (m + 2) (ivs (r.reverse ++ [y] ++ [x])) := by simpa [hm] using hown
        have hmk : m + 2 ≤ k := by simp [hm] at hll; omega
        have hx1 : 1 ≤ x := HP.out x (by simp)
        have hx2 : x ≤ k := Int.le_trans (mem_le_mx (by simp)) hmx
        have hy1 : 1 ≤ y := HP.out y (by simp)
        have hy2 : y ≤ k := Int.le_trans (mem_le_mx (by simp)) hmx
        have hr : (ivs r.reverse).length = m := by simp [ivs, hm]
        have HM := Lib.hid hm
        clear hown hlen hmx hal hll HP hm
        rcases id ho.2 with ⟨rfl, hz⟩ | ⟨g, cp, cur, rfl, -, -, hcp, -⟩
        · exfalso; omega
        have hc0 : wo.cell? ⟨g, m, none⟩ = some (.int .i64 y) := by rw [ho.cellAt m (by omega)]; unfold ivs at hr ⊢; rw [List.append_assoc, List.map_append, List.getElem?_append_right (by omega), hr]; simp
        have hc1 : wo.cell? ⟨g, m + 1, none⟩ = some (.int .i64 x) := by rw [ho.cellAt (m + 1) (by omega)]; unfold ivs at hr ⊢; rw [List.append_assoc, List.map_append, List.getElem?_append_right (by omega), hr]; simp
        have hf0 := owns_take (m := m) (by omega) ho
        rw [show (ivs (r.reverse ++ [y] ++ [x])).take m = ivs r.reverse from by unfold ivs at hr ⊢; rw [List.append_assoc]; rw [List.map_append, List.take_left' hr]] at hf0
        have HF0 := Lib.hid hf0
        have hgl : g < wo.heap.size := (ho.lt g rfl).2
        have ne1 : ¬ cp = m := by omega
        have ne2 : ¬ m = cp := by omega
        have hmi : (m : Int) + 2 ≤ 1000 := by omega
        clear hr hf0 ho
        rcases Int.lt_or_le y x with hxy | hxy
        · skip
          go_wp2_with (go_at_call 11; refine (args_any _ _).mono ?_; rintro e w' ⟨rfl, rfl⟩; rw [HA.out])
          refine wp_loop_rounds 3 ?_
          rw [rounds_succ]; go_wp2_with fail
          rw [rounds_succ]; go_wp2_with fail
          rw [rounds_succ]
          go_wp2_with (first | (go_at_call 11; refine (args_any _ _).mono ?_; rintro e w' ⟨rfl, rfl⟩; rw [HA.out]) | (at_builtin; refine wpList_append_own _ rfl _ _ 29 rfl w.heap.size 3 i0 (.int .i64 0) 1 8 Try.underlying29 hinf hz0 hz1 hz2 rfl (by decide) _ _ _ rfl ((HF0.out.alloc _).alloc _) ⟨wo.heap.size + 1, 0, none⟩ 1 1 [.int .i64 (x + 1)] rfl rfl ?u1 ?u2 ?u3 ?u4 ?u5 ?_))
          case u1 =>
            intro x' u hx
            match x', hx with
            | 0, hx => simp at hx; subst hx; simp [Addr.add]
          case u2 => intro u hu; simp at hu; subst hu; rfl
          case u3 => unfold maxLen; omega
          case u4 => omega
          case u5 => simp; omega
          intro v' w3 hown3 hgrow _
          have HW3 : Hid (Below w.heap.size w w3) := Lib.hid (((hB.alloc hsz _).alloc (by simp; omega) _).grown hgrow (by simp; omega) fun r hr => (HF0.out.lt r hr).1)
          have HO : Hid (w3.ownsRow w.heap.size 3 1 v' (stk N (k + 1)).length (ivs (stk N (k + 1)).reverse)) := Lib.hid (by
            have e : stk N (k + 1) = (x + 1) :: r := by rw [HS.out, HA.out]; simp [mx]; omega
            rw [e]; rw [List.length_cons, HM.out]
            simpa [ivs] using hown3)
          clear hown3 hgrow
          go_wp2
          go_roundw
          case rel => exact ⟨k + 1, by omega, by go_num, HO.out, HW3.out⟩
          case measure => simp [intOf]; omega
        · skip
          go_wp2_with (go_at_call 11; refine (args_any _ _).mono ?_; rintro e w' ⟨rfl, rfl⟩; rw [HA.out])
          refine wp_loop_rounds 3 ?_
          rw [rounds_succ]; go_wp2_with fail
          rw [rounds_succ]; go_wp2_with fail
          rw [rounds_succ]
          go_wp2_with (first | (go_at_call 11; refine (args_any _ _).mono ?_; rintro e w' ⟨rfl, rfl⟩; rw [HA.out]) | (at_builtin; refine wpList_append_own _ rfl _ _ 29 rfl w.heap.size 3 i0 (.int .i64 0) 1 8 Try.underlying29 hinf hz0 hz1 hz2 rfl (by decide) _ _ _ rfl ((HF0.out.alloc _).alloc _) ⟨wo.heap.size + 1, 0, none⟩ 1 1 [.int .i64 (y + 1)] rfl rfl ?u1 ?u2 ?u3 ?u4 ?u5 ?_))
          case u1 =>
            intro x' u hx
            match x', hx with
            | 0, hx => simp at hx; subst hx; simp [Addr.add]
          case u2 => intro u hu; simp at hu; subst hu; rfl
          case u3 => unfold maxLen; omega
          case u4 => omega
          case u5 => simp; omega
          intro v' w3 hown3 hgrow _
          have HW3 : Hid (Below w.heap.size w w3) := Lib.hid (((hB.alloc hsz _).alloc (by simp; omega) _).grown hgrow (by simp; omega) fun r hr => (HF0.out.lt r hr).1)
          have HO : Hid (w3.ownsRow w.heap.size 3 1 v' (stk N (k + 1)).length (ivs (stk N (k + 1)).reverse)) := Lib.hid (by
            have e : stk N (k + 1) = (y + 1) :: r := by rw [HS.out, HA.out]; simp [mx]; omega
            rw [e]; rw [List.length_cons, HM.out]
            simpa [ivs] using hown3)
          clear hown3 hgrow
          go_wp2
          go_roundw
          case rel => exact ⟨k + 1, by omega, by go_num, HO.out, HW3.out⟩
          case measure => simp [intOf]; omega
    · obtain rfl : k = n := by omega
      have hst := stk_root HT.out
      rw [hst] at hown
      have HO := Lib.hid hown
      clear hown hst
      rcases id HO.out.2 with ⟨rfl, hz⟩ | ⟨g, cp, cur, rfl, -⟩
      · exfalso; simp at hz
      have hcx := HO.out.cellAt 0 (by simp)
      simp [ivs] at hcx
      go_wp2
      go_ret
      exact ⟨rfl, hB⟩
end Go.Proofs.Ytligbocnakbabaa
