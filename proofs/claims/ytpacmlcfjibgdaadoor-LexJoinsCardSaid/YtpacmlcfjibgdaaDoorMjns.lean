/-
  What the walk of LexJoins leans on: a row whose places are moved one by one; an append under a guard. The walk of the law LexJoins: it answers true, at any two texts.
-/
import Derived.Test.YtpacmlcfjibgdaaDoorMtks
import Derived.Laws.AppendOwn
import Derived.Laws.AppendOwnNone
import Derived.Test.YtpacmlcfjibgdaaDoorPcsW
namespace Go.Proofs.YtpacmlcfjibgdaaDoor
open Go.RowKit

/-- The row of which the first k tokens have been moved. -/
def mix (d : Nat) (m : List Tka) (k : Nat) : List Tka := (m.take k).map (moved d) ++ m.drop k
theorem mix_length (d : Nat) (m : List Tka) (k : Nat) : (mix d m k).length = m.length := by unfold mix; simp; omega
theorem mix_zero (d : Nat) (m : List Tka) : mix d m 0 = m := by simp [mix]
theorem mix_all (d : Nat) (m : List Tka) : mix d m m.length = m.map (moved d) := by simp [mix]
theorem mix_get (d : Nat) (m : List Tka) (k : Nat) (h : k < m.length) (h' : k < (mix d m k).length) : (mix d m k)[k] = m[k] := by
  have e : (mix d m k)[k]? = m[k]? := by
    unfold mix
    rw [List.getElem?_append_right (by simp; omega), List.getElem?_drop]
    congr 1
    simp
    omega
  rw [List.getElem?_eq_getElem h', List.getElem?_eq_getElem h] at e
  exact Option.some.inj e
theorem mix_succ (d : Nat) (m : List Tka) (k : Nat) (h : k < m.length) : (mix d m k).set k (moved d m[k]) = mix d m (k + 1) := by
  unfold mix
  rw [List.set_append_right _ _ (by simp; omega), List.drop_eq_getElem_cons h]
  have : k - (List.map (moved d) (List.take k m)).length = 0 := by simp; omega
  rw [this, List.set_cons_zero, List.take_succ_eq_append_getElem h, List.map_append, List.append_assoc]
  rfl
theorem tvs_set (L : List Tka) (j : Nat) (h : j < L.length) (x : Int) : (tvs L).set (j * 8 + 1) (.int .i64 x) = tvs (L.set j (L[j].1, x, L[j].2.2)) := by
  induction L generalizing j with
  | nil => simp at h
  | cons r L ih =>
    have e : tvs (r :: L) = tcs r ++ tvs L := rfl
    have e8 : (tcs r).length = 8 := rfl
    rw [e]
    cases j with
    | zero =>
      rw [List.set_append_left _ _ (by omega)]
      rfl
    | succ j =>
      rw [List.set_append_right _ _ (by omega), e8, show (j + 1) * 8 + 1 - 8 = j * 8 + 1 by omega, ih j (by simpa using h)]
      rfl
theorem mix_store (d : Nat) (m : List Tka) (k : Nat) (h : k < m.length) : (tvs (mix d m k)).set (k * 8 + 1) (.int .i64 (m[k].2.1 + (d : Int))) = tvs (mix d m (k + 1)) := by
  have hl : k < (mix d m k).length := by rw [mix_length]; exact h
  rw [tvs_set _ k hl, mix_get d m k h hl, ← mix_succ d m k h]
  rfl

/-- Whatever is done in one block, rows in other blocks stay. -/
theorem owns_frame {w w' : World} {base : Nat} {e : TypeId} {size : Nat} {v : Value} {n : Nat} {xs : List Value} {g : Nat} (h : w.ownsRow base e size v n xs) (hf : ∀ b, b ≠ g → w'.heap[b]? = w.heap[b]?) (hv : v.ownBlock ≠ some g) : w'.ownsRow base e size v n xs := by
  obtain ⟨h0, h1⟩ := h
  refine ⟨h0, ?_⟩
  rcases h1 with h1 | ⟨b, cap, cur, h1, h2, h3, h4⟩
  · exact .inl h1
  · refine .inr ⟨b, cap, cur, h1, h2, ?_, h4⟩
    rw [hf b (fun hb => hv (by rw [h1, hb]; rfl))]
    exact h3

theorem owns_old {w w' : World} {base B : Nat} {e : TypeId} {size : Nat} {v : Value} {n : Nat} {xs : List Value} {row : Option Nat} (h : w.ownsRow base e size v n xs) (hg : w.grownBy w' row) (hv : ∀ g, v.ownBlock = some g → g < B) (hr : ∀ g, row = some g → B ≤ g) : w'.ownsRow base e size v n xs :=
  h.kept hg (by
    cases hb : v.ownBlock with
    | none => exact .inl rfl
    | some g => exact .inr (fun e => by have := hv g hb; have := hr g e.symm; omega))
theorem own_empty (w : World) : (w.alloc (.cells #[] 35)).ownsRow w.heap.size 35 8 (.slice (some ⟨w.heap.size, 0, none⟩) 0 0) ([] : List Tka).length (tvs []) :=
  ⟨rfl, .inr ⟨w.heap.size, 0, #[], rfl, Nat.le_refl _, heap_alloc_new w _, Nat.le_refl _, by decide, rfl, rfl⟩⟩

theorem wpList_wanted {P : Program} {ops : Array Oper} {rest : List Oper} {o : Oper} {a : Act} {w : World} {Q : Exit → Act → World → Prop} (hw : Region.wanted o (yielded ops a.tmps) = true)
    (h : ∀ K : Act → World → Prop, (∀ a w, wpList P ops Q rest a w → K a w) → o.wp P a w K Q) : wpList P ops Q (o :: rest) a w :=
  wpList_step fun K hK => by rw [if_pos hw]; exact h K hK
theorem wp_append_none {P : Program} {w : World} {o : Oper} {a : Act} {K : Act → World → Prop} {Q : Exit → Act → World → Prop} (s x : Operand) (t : TypeId)
    (ho : o.op = .call { callee := .builtin .append, args := #[s, x], argTypes := #[t, t] })
    (base : Nat) (e : TypeId) (i : TypeInfo) (size : Nat) (ht : P.underlying t = some (.slice e)) (hi : P.info? e = some i)
    (v : Value) (n : Nat) (xs : List Value) (hs : a.eval s = v) (hown : w.ownsRow base e size v n xs) (hx : a.eval x = .slice none 0 0)
    (h : K (a.put o.dst v) w) : o.wp P a w K Q := by
  have hrun := run_append_owned_none (P := P) (w := w) base t o.type e i size ht hi v n xs hown
  unfold Oper.wp
  simp [execOp, ho, resolve, invoke, builtin, hs, hx, hrun, Result.andThen]
  exact h
/-- A list of tokens laid behind one that the call owns: under a guard that says yes. -/
theorem append_toks {w : World} {ops : Array Oper} {rest : List Oper} {o : Oper} {a : Act} {Q : Exit → Act → World → Prop} (hw : Region.wanted o (yielded ops a.tmps) = true) (s x : Operand)
    (ho : o.op = .call { callee := .builtin .append, args := #[s, x], argTypes := #[23, 23] })
    (base base2 : Nat) (v v2 : Value) (l m : List Tka) (hs : a.eval s = v) (hx : a.eval x = v2) (hown : w.ownsRow base 35 8 v l.length (tvs l)) (hown2 : w.ownsRow base2 35 8 v2 m.length (tvs m))
    (hlen : l.length + m.length ≤ 1000) (hbase : base ≤ w.heap.size)
    (h : ∀ v' w', w'.ownsRow base 35 8 v' (l ++ m).length (tvs (l ++ m)) → w.grownBy w' v.ownBlock → wpList Tryd.prog ops Q rest (a.put o.dst v') w') : wpList Tryd.prog ops Q (o :: rest) a w := by
  obtain ⟨i0, hinf, hz0, hz1, hz2⟩ := info_parts infoTok
  refine wpList_wanted hw fun K hK => ?_
  rcases hown2.2 with ⟨rfl, h0⟩ | ⟨g, cap, cur, rfl, _⟩
  · have hm : m = [] := List.length_eq_zero_iff.1 h0
    subst hm
    refine wp_append_none s x 23 ho base 35 i0 8 Tryd.underlying23 hinf v l.length (tvs l) hs hown hx ?_
    refine hK _ _ (h v w ?_ ?_)
    · rw [List.append_nil]; exact hown
    · exact ⟨rfl, rfl, rfl, Nat.le_refl _, fun _ _ _ => rfl⟩
  · refine wp_append_own w s x 23 ho base 35 i0 (.agg #[.int .i64 0, .int .i64 0, .int .u64 0, .int .u64 0, .int .u64 0, .int .u64 0, .int .i64 0, .int .i64 0]) 8 64 Tryd.underlying23 hinf hz0 hz1 hz2 rfl (by decide) v l.length (tvs l) hs hown ⟨g, 0, none⟩ m.length cap (tvs m) hx hown2.1 ?_ ?_ ?_ ?_ hbase ?_
    · exact hown2.cells (g := g) rfl
    · intro u hu
      unfold tvs at hu
      rw [List.mem_flatMap] at hu
      obtain ⟨r, _, hr⟩ := hu
      unfold tcs at hr
      simp at hr
      rcases hr with rfl | rfl | rfl | rfl | rfl | rfl | rfl | rfl <;> rfl
    · unfold maxLen; omega
    · omega
    · intro v' w' h1 h2 _
      refine hK _ _ (h v' w' ?_ h2)
      rw [tvs_append, List.length_append]
      exact h1
end Go.Proofs.YtpacmlcfjibgdaaDoor

namespace Go.Proofs.YtpacmlcfjibgdaaDoor
open Go.RowKit

/-- Tokens' answer to any text, whatever it is. -/
theorem ltoks_gen (p : ByteArray) (w : World) (hT : Okw w) :
    Calls Tryd.prog 7 #[.string p] w fun e w' => (∃ (v : Value) (a x : Int), e = .returned (.tuple #[v, .int .i64 a, .int .i64 x])) ∧ Below w.heap.size w w' := by
  rcases Nat.lt_or_ge 200 p.size with h | h
  · exact (ltoks_not p (.inl h) w hT).mono fun e w' ⟨⟨a, x, _, h1⟩, h2⟩ => ⟨⟨_, a, x, h1⟩, h2⟩
  · cases hr : toks p with
    | mk r n =>
      cases r with
      | none => exact (ltoks_not p (.inr ⟨h, by rw [hr]⟩) w hT).mono fun e w' ⟨⟨a, x, _, h1⟩, h2⟩ => ⟨⟨_, a, x, h1⟩, h2⟩
      | some l => exact (ltoks_is p l h (by rw [hr, (toks_chain hr).2]) w hT).mono fun e w' ⟨v, h1, _, h2⟩ => ⟨⟨v, 0, 0, h1⟩, h2⟩
theorem ltoks_over (p : ByteArray) (h : 200 < p.size) (w : World) (_hT : Okw w) :
    Calls Tryd.prog 7 #[.string p] w fun e w' => e = .returned (.tuple #[.slice none 0 0, .int .i64 0, .int .i64 4]) ∧ Below w.heap.size w w' :=
  (ltoks_long p h w).mono fun e w' ⟨h1, h2⟩ => ⟨h1, by rw [h2]; exact Below.refl _ _⟩

set_option maxRecDepth 100000 in
set_option maxHeartbeats 1000000 in
theorem joins_long (p q : ByteArray) (h : 200 < p.size ∨ 200 < q.size) (w : World) (hT : Okw w) :
    Calls Tryd.prog 5 #[.string p, .string q] w fun e w' => e = .returned (.bool true) ∧ Below w.heap.size w w' := by
  have hd : decide ((200 : Int) < (p.size : Int)) = true ∨ (decide ((200 : Int) < (p.size : Int)) = false ∧ decide ((200 : Int) < (q.size : Int)) = true) := by
    rcases Nat.lt_or_ge 200 p.size with h1 | h1
    · exact .inl (decide_eq_true (by omega))
    · exact .inr ⟨decide_eq_false (by omega), decide_eq_true (by omega)⟩
  clear h
  rcases hd with t0 | ⟨t0, t1⟩
  · go_enter Tryd.func5, Tryd.ntmps5
    go_wp2_with fail
    refine (awake3_any _ hT).mono ?_
    rintro e w0 ⟨rfl, hb0⟩
    have HT := Lib.hid (hT.to hb0)
    have HW := Lib.hid hb0
    clear hb0 hT
    go_wp2
    go_ret
    exact ⟨rfl, HW.out⟩
  · go_enter Tryd.func5, Tryd.ntmps5
    go_wp2_with fail
    refine (awake3_any _ hT).mono ?_
    rintro e w0 ⟨rfl, hb0⟩
    have HT := Lib.hid (hT.to hb0)
    have HW := Lib.hid hb0
    clear hb0 hT
    go_wp2
    go_ret
    exact ⟨rfl, HW.out⟩

set_option maxRecDepth 100000 in
set_option maxHeartbeats 1000000 in
theorem joins_bad1 (p q : ByteArray) (hp : p.size ≤ 200) (hq : q.size ≤ 200) (h : (toks p).1 = none) (w : World) (hT : Okw w) :
    Calls Tryd.prog 5 #[.string p, .string q] w fun e w' => e = .returned (.bool true) ∧ Below w.heap.size w w' := by
  have t0 : decide ((200 : Int) < (p.size : Int)) = false := decide_eq_false (by omega)
  have t1 : decide ((200 : Int) < (q.size : Int)) = false := decide_eq_false (by omega)
  have HQ1 := Lib.hid (ltoks_not p (.inr ⟨hp, h⟩))
  clear h
  go_enter Tryd.func5, Tryd.ntmps5
  go_wp2_with fail
  refine (awake3_any _ hT).mono ?_
  rintro e w0 ⟨rfl, hb0⟩
  have HT := Lib.hid (hT.to hb0)
  have HW := Lib.hid hb0
  clear hb0 hT
  go_wp2_with fail
  refine (HQ1.out _ HT.out).mono ?_
  rintro e w1 ⟨⟨a, x, hx, rfl⟩, hb⟩
  have hT := HT.out.to hb
  have hW := HW.out.trans (hb.mono HW.out.size)
  clear hb HW HT
  have HW := Lib.hid hW; have HT := Lib.hid hT
  clear hW hT
  have t2 : (x != 0) = true := by simp; exact hx
  clear hx HQ1
  go_wp2_with fail
  refine (ltoks_gen q _ HT.out).mono ?_
  rintro e w2 ⟨⟨v2, a2, x2, rfl⟩, hb⟩
  have hT := HT.out.to hb
  have hW := HW.out.trans (hb.mono HW.out.size)
  clear hb HW HT
  have HW := Lib.hid hW; have HT := Lib.hid hT
  clear hW hT
  go_wp2_with fail
  refine (ltoks_gen (p ++ q) _ HT.out).mono ?_
  rintro e w3 ⟨⟨v3, a3, x3, rfl⟩, hb⟩
  have hT := HT.out.to hb
  have hW := HW.out.trans (hb.mono HW.out.size)
  clear hb HW HT
  have HW := Lib.hid hW; have HT := Lib.hid hT
  clear hW hT
  go_wp2
  go_ret
  exact ⟨rfl, HW.out⟩

set_option maxRecDepth 100000 in
set_option maxHeartbeats 1000000 in
theorem joins_bad2 (p q : ByteArray) (hp : p.size ≤ 200) (hq : q.size ≤ 200) (l : List Tka) (hl : toks p = (some l, 0)) (h : (toks q).1 = none) (w : World) (hT : Okw w) :
    Calls Tryd.prog 5 #[.string p, .string q] w fun e w' => e = .returned (.bool true) ∧ Below w.heap.size w w' := by
  have t0 : decide ((200 : Int) < (p.size : Int)) = false := decide_eq_false (by omega)
  have t1 : decide ((200 : Int) < (q.size : Int)) = false := decide_eq_false (by omega)
  have HQ1 := Lib.hid (ltoks_is p l hp hl)
  have HQ2 := Lib.hid (ltoks_not q (.inr ⟨hq, h⟩))
  clear h hl
  go_enter Tryd.func5, Tryd.ntmps5
  go_wp2_with fail
  refine (awake3_any _ hT).mono ?_
  rintro e w0 ⟨rfl, hb0⟩
  have HT := Lib.hid (hT.to hb0)
  have HW := Lib.hid hb0
  clear hb0 hT
  go_wp2_with fail
  refine (HQ1.out _ HT.out).mono ?_
  rintro e w1 ⟨v1, rfl, _, hb⟩
  have hT := HT.out.to hb
  have hW := HW.out.trans (hb.mono HW.out.size)
  clear hb HW HT HQ1
  have HW := Lib.hid hW; have HT := Lib.hid hT
  clear hW hT
  go_wp2_with fail
  refine (HQ2.out _ HT.out).mono ?_
  rintro e w2 ⟨⟨a2, x2, hx, rfl⟩, hb⟩
  have hT := HT.out.to hb
  have hW := HW.out.trans (hb.mono HW.out.size)
  clear hb HW HT
  have HW := Lib.hid hW; have HT := Lib.hid hT
  clear hW hT
  have t2 : (x2 != 0) = true := by simp; exact hx
  clear hx HQ2
  go_wp2_with fail
  refine (ltoks_gen (p ++ q) _ HT.out).mono ?_
  rintro e w3 ⟨⟨v3, a3, x3, rfl⟩, hb⟩
  have hT := HT.out.to hb
  have hW := HW.out.trans (hb.mono HW.out.size)
  clear hb HW HT
  have HW := Lib.hid hW; have HT := Lib.hid hT
  clear hW hT
  go_wp2
  go_ret
  exact ⟨rfl, HW.out⟩

set_option maxRecDepth 100000 in
set_option maxHeartbeats 1000000 in
theorem joins_over (p q : ByteArray) (hp : p.size ≤ 200) (hq : q.size ≤ 200) (l m : List Tka) (hl : toks p = (some l, 0)) (hm : toks q = (some m, 0)) (hs : 200 < p.size + q.size) (w : World) (hT : Okw w) :
    Calls Tryd.prog 5 #[.string p, .string q] w fun e w' => e = .returned (.bool true) ∧ Below w.heap.size w w' := by
  have t0 : decide ((200 : Int) < (p.size : Int)) = false := decide_eq_false (by omega)
  have t1 : decide ((200 : Int) < (q.size : Int)) = false := decide_eq_false (by omega)
  have t2 : decide ((200 : Int) < (p.size : Int) + (q.size : Int)) = true := decide_eq_true (by omega)
  have HQ1 := Lib.hid (ltoks_is p l hp hl)
  have HQ2 := Lib.hid (ltoks_is q m hq hm)
  have HQ3 := Lib.hid (ltoks_over (p ++ q) (by rw [ByteArray.size_append]; exact hs))
  clear hl hm
  go_enter Tryd.func5, Tryd.ntmps5
  go_wp2_with fail
  refine (awake3_any _ hT).mono ?_
  rintro e w0 ⟨rfl, hb0⟩
  have HT := Lib.hid (hT.to hb0)
  have HW := Lib.hid hb0
  clear hb0 hT
  go_wp2_with fail
  refine (HQ1.out _ HT.out).mono ?_
  rintro e w1 ⟨v1, rfl, _, hb⟩
  have hT := HT.out.to hb
  have hW := HW.out.trans (hb.mono HW.out.size)
  clear hb HW HT HQ1
  have HW := Lib.hid hW; have HT := Lib.hid hT
  clear hW hT
  go_wp2_with fail
  refine (HQ2.out _ HT.out).mono ?_
  rintro e w2 ⟨v2, rfl, _, hb⟩
  have hT := HT.out.to hb
  have hW := HW.out.trans (hb.mono HW.out.size)
  clear hb HW HT HQ2
  have HW := Lib.hid hW; have HT := Lib.hid hT
  clear hW hT
  go_wp2_with fail
  refine (HQ3.out _ HT.out).mono ?_
  rintro e w3 ⟨rfl, hb⟩
  have hT := HT.out.to hb
  have hW := HW.out.trans (hb.mono HW.out.size)
  clear hb HW HT
  have HW := Lib.hid hW; have HT := Lib.hid hT
  clear hW hT
  go_wp2
  go_ret
  exact ⟨rfl, HW.out⟩

set_option maxRecDepth 100000 in
set_option maxHeartbeats 4000000 in
theorem joins_is (p q : ByteArray) (hp : p.size ≤ 200) (hq : q.size ≤ 200) (l m : List Tka) (hl : toks p = (some l, 0)) (hm : toks q = (some m, 0)) (hs : p.size + q.size ≤ 200) (w : World) (hT : Okw w) :
    Calls Tryd.prog 5 #[.string p, .string q] w fun e w' => e = .returned (.bool true) ∧ Below w.heap.size w w' := by
  have t0 : decide ((200 : Int) < (p.size : Int)) = false := decide_eq_false (by omega)
  have t1 : decide ((200 : Int) < (q.size : Int)) = false := decide_eq_false (by omega)
  have t2 : decide ((200 : Int) < (p.size : Int) + (q.size : Int)) = false := decide_eq_false (by omega)
  have HQ1 := Lib.hid (ltoks_is p l hp hl)
  have HQ2 := Lib.hid (ltoks_is q m hq hm)
  have HQ3 := Lib.hid (ltoks_is (p ++ q) _ (by rw [ByteArray.size_append]; exact hs) (toks_join hl hm))
  have ll : l.length ≤ 200 := Nat.le_trans (toks_length hl) hp
  have lm : m.length ≤ 200 := Nat.le_trans (toks_length hm) hq
  have HPL := Lib.hid (fun k (hk : k < m.length) => pieces hm k hk)
  clear hl hm
  go_enter Tryd.func5, Tryd.ntmps5
  go_wp2_with fail
  refine (awake3_any _ hT).mono ?_
  rintro e w0 ⟨rfl, hb0⟩
  have HT := Lib.hid (hT.to hb0)
  have HW := Lib.hid hb0
  clear hb0 hT
  go_wp2_with fail
  refine (HQ1.out _ HT.out).mono ?_
  rintro e w1 ⟨v1, rfl, o1, hb⟩
  have hT := HT.out.to hb
  have hW := HW.out.trans (hb.mono HW.out.size)
  have s0 := HW.out.size
  clear hb HW HT HQ1
  have HW := Lib.hid hW; have HT := Lib.hid hT; have O1 := Lib.hid o1
  clear hW hT o1
  go_wp2_with fail
  refine (HQ2.out _ HT.out).mono ?_
  rintro e w2 ⟨v2, rfl, o2, hb⟩
  have hT := HT.out.to hb
  have hW := HW.out.trans (hb.mono HW.out.size)
  have o1 := owns_below O1.out hb
  have s1 := HW.out.size
  have g1 : ∀ g, v1.ownBlock = some g → g < w1.heap.size := fun g hg => (O1.out.lt g hg).2
  have s12 := hb.size
  clear hb HW HT HQ2 O1
  have HW := Lib.hid hW; have HT := Lib.hid hT; have O1 := Lib.hid o1; have O2 := Lib.hid o2
  clear hW hT o1 o2
  go_wp2_with fail
  refine (HQ3.out _ HT.out).mono ?_
  rintro e w3 ⟨v3, rfl, o3, hb⟩
  have hW := HW.out.trans (hb.mono HW.out.size)
  have o1 := owns_below O1.out hb
  have o2 := owns_below O2.out hb
  have g2 : ∀ g, v2.ownBlock = some g → w1.heap.size ≤ g ∧ g < w2.heap.size := fun g hg => O2.out.lt g hg
  have g3 : ∀ g, v3.ownBlock = some g → w2.heap.size ≤ g ∧ g < w3.heap.size := fun g hg => o3.lt g hg
  have s2 := hW.size
  have s3 := hb.size
  clear hb HW HT HQ3 O1 O2
  have HW := Lib.hid hW; have O1 := Lib.hid o1; have O2 := Lib.hid o2; have O3 := Lib.hid o3; have G1 := Lib.hid g1; have G2 := Lib.hid g2; have G3 := Lib.hid g3
  clear hW o1 o2 o3 g1 g2 g3
  go_wp2_with fail
  rcases O2.out.2 with ⟨rfl, h0⟩ | ⟨gm, cap, cur, rfl, hgm, _⟩
  · have hm0 : m = [] := List.length_eq_zero_iff.1 h0
    subst hm0
    clear h0 HPL
    refine wp_loop_rounds 1 ?_
    rw [rounds_succ]
    have A1 := O1; have A2 := O2; have A3 := O3; have AW := HW
    have hsz := Nat.le_refl w3.heap.size
    have U2 : Hid (∀ g, (Value.slice none 0 0).ownBlock = some g → g < w3.heap.size) := Lib.hid (fun g h => by cases h)
    have U1 : Hid (∀ g, v1.ownBlock = some g → g < w3.heap.size) := Lib.hid (fun g h => by have := G1.out g h; omega)
    have U3 : Hid (∀ g, v3.ownBlock = some g → g < w3.heap.size) := Lib.hid (fun g h => (G3.out g h).2)
    have OE := Lib.hid (own_empty w3)
    have B1 := Lib.hid (A1.out.alloc (.cells #[] 35))
    have B2 := Lib.hid (A2.out.alloc (.cells #[] 35))
    have B3 := Lib.hid (A3.out.alloc (.cells #[] 35))
    have BW := Lib.hid (AW.out.alloc AW.out.size (.cells #[] 35))
    clear A1 A2 A3 G1 G2 G3 O1 O2 O3 HW
    go_wp2_with (at_builtin; refine append_toks (by rfl) _ _ rfl w3.heap.size w0.heap.size _ v1 [] l rfl rfl OE.out B1.out (by simp; omega) (by simp) ?_; intro v4 w4 h4 hg4; refine Hid.out ?_)
    have C2 := Lib.hid (owns_old (B := w3.heap.size) B2.out hg4 U2.out (fun g h => by have h' : some w3.heap.size = some g := h; cases h'; exact hsz))
    have C3 := Lib.hid (owns_old (B := w3.heap.size) B3.out hg4 U3.out (fun g h => by have h' : some w3.heap.size = some g := h; cases h'; exact hsz))
    have CW := Lib.hid (BW.out.grown hg4 BW.out.size (fun g h => by have h' : some w3.heap.size = some g := h; cases h'; omega))
    have z4 : w3.heap.size ≤ w4.heap.size := Nat.le_trans (by simp) hg4.size
    rw [List.nil_append] at h4
    have g4 : Hid (∀ g, v4.ownBlock = some g → w3.heap.size ≤ g) := Lib.hid (fun g h => (h4.lt g h).1)
    have H4 := Lib.hid h4
    clear h4 hg4 B1 B2 B3 BW OE U1
    refine Lib.hid ?_
    go_wp2_with (at_builtin; refine append_toks (by rfl) _ _ rfl w3.heap.size w1.heap.size _ (.slice none 0 0) l [] rfl rfl H4.out C2.out (by simp; omega) z4 ?_; intro v5 w5 h5 hg5; refine Hid.out ?_)
    have D3 := Lib.hid (owns_old (B := w3.heap.size) C3.out hg5 U3.out (fun g h => by have := g4.out g h; omega))
    have DW := Lib.hid (CW.out.grown hg5 CW.out.size (fun g h => by have := g4.out g h; omega))
    have R3 := Lib.hid (rdT_of_owns D3.out)
    have R5 := Lib.hid (rdT_of_owns h5)
    clear h5 hg5 C2 C3 CW H4 U3 D3
    refine Lib.hid ?_
    go_wp2_with fail
    refine (same_any (l ++ ([] : List Tka).map (moved p.size)) (by simp; omega) _ _ _ R3.out R5.out).mono ?_
    rintro e w6 ⟨rfl, hb⟩
    have EW := Lib.hid (DW.out.trans (hb.mono DW.out.size))
    clear hb R3 R5 DW
    go_wp2
    go_ret
    exact ⟨rfl, EW.out⟩
  · have gb := (G2.out gm rfl)
    have f1 : v1.ownBlock ≠ some gm := fun h => by have := G1.out gm h; omega
    have f3 : v3.ownBlock ≠ some gm := fun h => by have := (G3.out gm h).1; omega
    have F1 := Lib.hid f1; have F3 := Lib.hid f3
    clear f1 f3 hgm
    go_loopw [14] (fun i wr => ∃ k : Nat, k ≤ m.length ∧ i = .int .i64 k ∧ wr.ownsRow w1.heap.size 35 8 (.slice (some ⟨gm, 0, none⟩) m.length cap) m.length (tvs (mix p.size m k)) ∧ Hid (∀ b, b ≠ gm → wr.heap[b]? = w3.heap[b]?) ∧ Below w.heap.size w wr ∧ w3.heap.size ≤ wr.heap.size) (fun i _ => m.length - (intOf i).toNat)
    case atStart => exact ⟨0, Nat.zero_le _, rfl, by rw [mix_zero]; exact O2.out, Lib.hid (fun _ _ => rfl), HW.out, Nat.le_refl _⟩
    case round =>
      obtain ⟨k, hk, rfl, hown, hfr, hW, hsz⟩ := hrel
      by_cases hlt : k < m.length
      · have t3 : decide ((k : Int) < (m.length : Int)) = true := decide_eq_true (by omega)
        obtain ⟨kk, n, r, e1, e2, e3, _⟩ := HPL.out k hlt
        have hlm : k < (mix p.size m k).length := by rw [mix_length]; exact hlt
        have q0 := hown.cellAt (k * 8 + 1) (by omega)
        rw [tvs_get _ k hlm 1 (by omega), mix_get p.size m k hlt hlm, e1] at q0
        have q1 : wr.cell? ⟨gm, k * 8 + 1, none⟩ = some (.int .i64 (kk : Int)) := q0
        have r1 := hown.frozenAt (k * 8 + 1)
        have st := (hown.stored (k * 8 + 1) (.int .i64 ((kk : Int) + (p.size : Int)))).1
        have ms := mix_store p.size m k hlt
        rw [e1] at ms
        have ms' : (tvs (mix p.size m k)).set (k * 8 + 1) (.int .i64 ((kk : Int) + (p.size : Int))) = tvs (mix p.size m (k + 1)) := ms
        rw [ms'] at st
        have ST := Lib.hid st
        have FR := Lib.hid (fun b (hb : b ≠ gm) => (heap_setCell_other wr ⟨gm, k * 8 + 1, none⟩ b (.int .i64 ((kk : Int) + (p.size : Int))) hb).trans (hfr.out b hb))
        have HW2 := Lib.hid (hW.setCell (p := ⟨gm, k * 8 + 1, none⟩) (show w.heap.size ≤ gm by omega) (.int .i64 ((kk : Int) + (p.size : Int))))
        clear q0 st ms ms' e1 hfr hW hown
        go_wp2
        go_roundw
        case rel => exact ⟨k + 1, by omega, by go_num, ST.out, FR, HW2.out, by simp; exact hsz⟩
        case measure => simp [intOf]; omega
      · have t3 : decide ((k : Int) < (m.length : Int)) = false := decide_eq_false (by omega)
        have hkm : k = m.length := by omega
        subst hkm
        rw [mix_all] at hown
        have hown' : wr.ownsRow w1.heap.size 35 8 (.slice (some ⟨gm, 0, none⟩) m.length cap) (m.map (moved p.size)).length (tvs (m.map (moved p.size))) := by rw [List.length_map]; exact hown
        have A1 := Lib.hid (owns_frame O1.out hfr.out F1.out)
        have A2 := Lib.hid hown'
        have A3 := Lib.hid (owns_frame O3.out hfr.out F3.out)
        have AW := Lib.hid hW
        have U2 : Hid (∀ g, (Value.slice (some ⟨gm, 0, none⟩) m.length cap).ownBlock = some g → g < w3.heap.size) := Lib.hid (fun g h => by have h' : some gm = some g := h; cases h'; omega)
        clear hown hown' hfr hW F1 F3 HPL
        have U1 : Hid (∀ g, v1.ownBlock = some g → g < w3.heap.size) := Lib.hid (fun g h => by have := G1.out g h; omega)
        have U3 : Hid (∀ g, v3.ownBlock = some g → g < w3.heap.size) := Lib.hid (fun g h => (G3.out g h).2)
        have OE := Lib.hid (own_empty wr)
        have B1 := Lib.hid (A1.out.alloc (.cells #[] 35))
        have B2 := Lib.hid (A2.out.alloc (.cells #[] 35))
        have B3 := Lib.hid (A3.out.alloc (.cells #[] 35))
        have BW := Lib.hid (AW.out.alloc AW.out.size (.cells #[] 35))
        clear A1 A2 A3 G1 G2 G3 O1 O2 O3 HW
        go_wp2_with (at_builtin; refine append_toks (by rfl) _ _ rfl wr.heap.size w0.heap.size _ v1 [] l rfl rfl OE.out B1.out (by simp; omega) (by simp) ?_; intro v4 w4 h4 hg4; refine Hid.out ?_)
        have C2 := Lib.hid (owns_old (B := w3.heap.size) B2.out hg4 U2.out (fun g h => by have h' : some wr.heap.size = some g := h; cases h'; exact hsz))
        have C3 := Lib.hid (owns_old (B := w3.heap.size) B3.out hg4 U3.out (fun g h => by have h' : some wr.heap.size = some g := h; cases h'; exact hsz))
        have CW := Lib.hid (BW.out.grown hg4 BW.out.size (fun g h => by have h' : some wr.heap.size = some g := h; cases h'; omega))
        have z4 : wr.heap.size ≤ w4.heap.size := Nat.le_trans (by simp) hg4.size
        rw [List.nil_append] at h4
        have g4 : Hid (∀ g, v4.ownBlock = some g → wr.heap.size ≤ g) := Lib.hid (fun g h => (h4.lt g h).1)
        have H4 := Lib.hid h4
        clear h4 hg4 B1 B2 B3 BW OE U1
        refine Lib.hid ?_
        go_wp2_with (at_builtin; refine append_toks (by rfl) _ _ rfl wr.heap.size w1.heap.size _ (.slice (some ⟨gm, 0, none⟩) m.length cap) l (m.map (moved p.size)) rfl rfl H4.out C2.out (by simp; omega) z4 ?_; intro v5 w5 h5 hg5; refine Hid.out ?_)
        have D3 := Lib.hid (owns_old (B := w3.heap.size) C3.out hg5 U3.out (fun g h => by have := g4.out g h; omega))
        have DW := Lib.hid (CW.out.grown hg5 CW.out.size (fun g h => by have := g4.out g h; omega))
        have R3 := Lib.hid (rdT_of_owns D3.out)
        have R5 := Lib.hid (rdT_of_owns h5)
        clear h5 hg5 C2 C3 CW H4 U3 D3
        refine Lib.hid ?_
        go_wp2_with fail
        refine (same_any (l ++ m.map (moved p.size)) (by simp; omega) _ _ _ R3.out R5.out).mono ?_
        rintro e w6 ⟨rfl, hb⟩
        have EW := Lib.hid (DW.out.trans (hb.mono DW.out.size))
        clear hb R3 R5 DW
        go_wp2
        go_ret
        exact ⟨rfl, EW.out⟩

theorem joins_walk (p q : ByteArray) (w : World) (hT : Okw w) :
    Calls Tryd.prog 5 #[.string p, .string q] w fun e w' => e = .returned (.bool true) ∧ Below w.heap.size w w' := by
  rcases Nat.lt_or_ge 200 p.size with hp | hp
  · exact joins_long p q (.inl hp) w hT
  rcases Nat.lt_or_ge 200 q.size with hq | hq
  · exact joins_long p q (.inr hq) w hT
  cases hrp : toks p with
  | mk o n =>
    cases o with
    | none => exact joins_bad1 p q hp hq (by rw [hrp]) w hT
    | some l =>
      have hl : toks p = (some l, 0) := by rw [hrp, (toks_chain hrp).2]
      cases hrq : toks q with
      | mk o n =>
        cases o with
        | none => exact joins_bad2 p q hp hq l hl (by rw [hrq]) w hT
        | some m =>
          have hm : toks q = (some m, 0) := by rw [hrq, (toks_chain hrq).2]
          rcases Nat.lt_or_ge 200 (p.size + q.size) with hs | hs
          · exact joins_over p q hp hq l m hl hm hs w hT
          · exact joins_is p q hp hq l m hl hm hs w hT
end Go.Proofs.YtpacmlcfjibgdaaDoor
