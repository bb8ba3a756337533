/-
  The walk of nfa.behind.
-/
import Derived.Test.YtepegohopgnmnaaPk26
import Derived.Test.YtepegohopgnmnaaPk16
namespace Go.Proofs.Ytepegohopgnmnaa
open Go.RowKit

/-- An append of one place that a literal holds. -/
theorem append_one9 {w : World} {ops : Array Oper} {rest : List Oper} {o : Oper} {a : Act} {Q : Exit → Act → World → Prop} (hgd : o.guard = none) (s x : Operand)
    (ho : o.op = .call { callee := .builtin .append, args := #[s, x], argTypes := #[27, 27] }) (base : Nat) (v : Value) (B : List Nat) (hs : a.eval s = v)
    (hown : spO w base v B) (g : Nat) (x0 : Nat) (hx : a.eval x = .slice (some ⟨g, 0, none⟩) 1 1)
    (hcell : w.cell? ⟨g, 0, none⟩ = some (.int .i64 (x0 : Int))) (hlen : B.length ≤ 10000) (hbase : base ≤ w.heap.size)
    (h : ∀ v' w', spO w' base v' (B ++ [x0]) → w.grownBy w' v.ownBlock → wpList Try.prog ops Q rest (a.put o.dst v') w') : wpList Try.prog ops Q (o :: rest) a w := by
  obtain ⟨i0, hi, hz0, hz1, hz2⟩ := info_parts infoInt9w
  refine wpList_append_own w hgd s x 27 ho base 3 i0 (.int .i64 0) 1 8 Try.underlying27 hi hz0 hz1 hz2 rfl (by decide) v B.length (spl9 B) hs hown ⟨g, 0, none⟩ 1 1 (spl9 [x0]) hx (by rw [spl9_len]; rfl) ?_ (spl9_cell _) (by unfold maxLen; omega) (by omega) hbase ?_
  · intro j u hu
    match j, hu with
    | 0, hu => simp [spl9] at hu; subst hu; simpa [Addr.add] using hcell
  · intro v' w' h1 h2 _
    refine h v' w' ?_ h2
    rw [← spl9_append] at h1
    unfold spO
    rw [List.length_append]; exact h1
theorem spO.rd9 {w : World} {base : Nat} {p : Option Addr} {c : Nat} {B : List Nat} (h : spO w base (.slice p B.length c) B) : rdL w p B.length (fun j => ((B.getD j 0 : Nat) : Int)) := fun j hj => by
  rcases id h.2 with ⟨_, e⟩ | ⟨g, cp, cur, e, _⟩
  · omega
  · cases e
    refine ⟨g, 0, rfl, (World.ownsRow.lt h g rfl).2, ?_⟩
    rw [Nat.zero_add, World.ownsRow.cellAt h j (by omega)]
    simp [spl9, List.getD_eq_getElem?_getD, hj]
theorem spO.grow9 {w w' : World} {base B : Nat} {v : Value} {l : List Nat} (hB : B ≤ base) (hw : B ≤ w.heap.size) (ho : spO w base v l) (h : w.grownBy w' v.ownBlock) : Below B w w' :=
  (Below.refl B w).grown h hw (fun r hr => Nat.le_trans hB (ho.lt r hr).1)
/-- Where the first i of a list of places lead by a byte. -/
def byA (S : Nat → Sd) (y m : Nat) (l : Nat → Int) (B : List Nat) (i : Nat) : Prop :=
  B.length ≤ i ∧ ∀ q, q ∈ B ↔ ∃ q0 : Nat, (q0 < m ∧ ∃ j, j < i ∧ l j = (q0 : Int)) ∧ (S q0).k = 1 ∧ sOf (S q0) y = true ∧ (q : Int) = (S q0).A
theorem byA_zero (S : Nat → Sd) (y m : Nat) (l : Nat → Int) : byA S y m l [] 0 := ⟨Nat.le_refl _, fun _ => Iff.intro (fun h => by cases h) (fun ⟨_, ⟨_, _, h, _⟩, _⟩ => absurd h (Nat.not_lt_zero _))⟩
theorem byA_out {S : Nat → Sd} {y m : Nat} {l : Nat → Int} {B : List Nat} {i : Nat} (h : byA S y m l B i) (hn : ∀ q0 : Nat, q0 < m → l i = (q0 : Int) → (S q0).k = 1 → sOf (S q0) y = true → False) : byA S y m l B (i + 1) := by
  refine ⟨Nat.le_succ_of_le h.1, fun q => ?_⟩
  rw [h.2 q]
  constructor
  · rintro ⟨q0, ⟨h1, j, h2, h3⟩, h4⟩; exact ⟨q0, ⟨h1, j, by omega, h3⟩, h4⟩
  · rintro ⟨q0, ⟨h1, j, h2, h3⟩, h4, h5, h6⟩
    by_cases e : j = i
    · subst e; exact (hn q0 h1 h3 h4 h5).elim
    · exact ⟨q0, ⟨h1, j, by omega, h3⟩, h4, h5, h6⟩
theorem byA_in {S : Nat → Sd} {y m : Nat} {l : Nat → Int} {B : List Nat} {i a b : Nat} (h : byA S y m l B i) (ha : a < m) (hl : l i = (a : Int)) (hk : (S a).k = 1) (hy : sOf (S a) y = true) (hb : (S a).A = (b : Int)) : byA S y m l (B ++ [b]) (i + 1) := by
  refine ⟨by rw [List.length_append]; have := h.1; simp; omega, fun q => ?_⟩
  rw [List.mem_append, h.2 q]
  constructor
  · rintro (⟨q0, ⟨h1, j, h2, h3⟩, h4⟩ | g)
    · exact ⟨q0, ⟨h1, j, by omega, h3⟩, h4⟩
    · have : q = b := by simpa using g
      exact ⟨a, ⟨ha, i, by omega, hl⟩, hk, hy, by omega⟩
  · rintro ⟨q0, ⟨h1, j, h2, h3⟩, h4, h5, h6⟩
    by_cases e : j = i
    · subst e
      have : q0 = a := by omega
      subst this
      right
      have : q = b := by omega
      simp [this]
    · exact .inl ⟨q0, ⟨h1, j, by omega, h3⟩, h4, h5, h6⟩
theorem byA_end {S : Nat → Sd} {y m n : Nat} {l : Nat → Int} {B : List Nat} (hR : rng S m) (h : byA S y m l B n) : nmd m B.length (fun j => ((B.getD j 0 : Nat) : Int)) = By S y (nmd m n l) := by
  funext q
  apply propext
  have hm : q ∈ B ↔ By S y (nmd m n l) q := h.2 q
  rw [← hm]
  constructor
  · rintro ⟨_, i, h1, h2⟩
    have h2' : ((B.getD i 0 : Nat) : Int) = (q : Int) := h2
    have : B.getD i 0 = q := by omega
    rw [← this, List.getD_eq_getElem?_getD, List.getElem?_eq_getElem h1]
    exact List.getElem_mem h1
  · intro g
    refine ⟨?_, ?_⟩
    · obtain ⟨q0, ⟨h1, _⟩, _, _, h6⟩ := hm.1 g
      obtain ⟨_, _, _, a2, _⟩ := hR q0 h1
      omega
    · obtain ⟨i, hi⟩ := List.mem_iff_getElem?.1 g
      have hl : i < B.length := by
        rcases Nat.lt_or_ge i B.length with h | h
        · exact h
        · rw [List.getElem?_eq_none h] at hi; cases hi
      refine ⟨i, hl, ?_⟩
      simp [List.getD_eq_getElem?_getD, hi]

set_option maxRecDepth 100000 in
set_option maxHeartbeats 20000000 in
theorem behind_is (b off m cap : Nat) (S : Nat → Sd) (y : Nat) (q : Option Addr) (n c : Nat) (l : Nat → Int) (hm : m ≤ 1000) (hpos : 0 < m) (hn : n ≤ 1000) (hy : y < 256) (hR : rng S m) (hw : ∀ j, j < m → okWs (S j)) (w : World) (hS : rdS w b off m S) (hl : rdL w q n l) :
    Calls Try.prog 80 #[.slice (some ⟨b, off, none⟩) m cap, .slice q n c, .int .u8 (y : Int)] w (clPost m (Cl S 0 (By S y (nmd m n l))) w) := by
  have m0 : (0 : Int) ≤ (m : Int) := by omega
  have HSw := Lib.hid hS; have HLw := Lib.hid hl; have HR := Lib.hid hR; have HWS := Lib.hid hw
  have HHas := Lib.hid (fun (f : Nat → Bool) w => has_lit f y hy w)
  have HB0 := Lib.hid (byA_zero S y m l)
  have HO0 : Hid (spO w w.heap.size (.slice none 0 0) []) := Lib.hid ⟨rfl, .inl ⟨rfl, rfl⟩⟩
  have n0 : (0 : Int) ≤ (n : Int) := by omega
  clear hS hl hR hw
  go_enter Try.func80, Try.ntmps80
  go_wp2_with fail
  go_loopw [7, 12] (fun tv iv wr => ∃ (i : Nat) (B : List Nat), i ≤ n ∧ iv = .int .i64 i ∧ Hid (byA S y m l B i) ∧ Hid (spO wr w.heap.size tv B) ∧ Hid (Below w.heap.size w wr)) (fun _ iv _ => n - (intOf iv).toNat)
  case atStart => exact ⟨0, [], Nat.zero_le _, rfl, HB0, HO0, Lib.hid (Below.refl _ _)⟩
  case round =>
    clear HB0 HO0
    obtain ⟨i, B, hi, rfl, HB, HO, HW⟩ := hrel
    by_cases hlti : i < n
    · have i0 : (0 : Int) ≤ (i : Int) := by omega
      have i1 : (i : Int) < (n : Int) := by omega
      obtain ⟨lb, lo, rfl, hlb, hlc⟩ := (HLw.out.below HW.out) i hlti
      obtain ⟨x, hx⟩ : ∃ x, l i = x := ⟨_, rfl⟩
      have HX := Lib.hid hx
      rw [hx] at hlc
      clear hx
      by_cases hin : 0 ≤ x ∧ x < m
      · obtain ⟨a, rfl⟩ : ∃ a : Nat, x = a := ⟨x.toNat, by omega⟩
        have ham : a < m := by omega
        have HP := Lib.hid (fun w => placeb9 (a : Int) m true (by rw [decide_eq_true hin.1, decide_eq_true hin.2]; rfl) w)
        have a0 : (0 : Int) ≤ (a : Int) := by omega
        have a1 : (a : Int) < (m : Int) := by omega
        clear hin
        obtain ⟨hbl, p0, p1, p2, p3, p4, p5, p6⟩ := (HSw.out.below HW.out) a ham
        obtain ⟨r1, r2, r3, r4, r5, r6⟩ := HR.out a ham
        obtain ⟨e1, e2, e3, e4⟩ := okWs_wd (HWS.out a ham)
        obtain ⟨A', hA'⟩ : ∃ A' : Nat, (S a).A = A' := ⟨(S a).A.toNat, by omega⟩
        obtain ⟨f, hf⟩ : ∃ f, sOf (S a) = f := ⟨_, rfl⟩
        rw [hf] at e1 e2 e3 e4
        rw [e1] at p3; rw [e2] at p4; rw [e3] at p5; rw [e4] at p6
        rw [hA'] at p1
        obtain ⟨kk, hkk⟩ : ∃ kk, (S a).k = kk := ⟨_, rfl⟩
        rw [hkk] at p0
        have HA := Lib.hid hA'; have HF := Lib.hid hf; have HKK := Lib.hid hkk
        have A0 : (0 : Int) ≤ (A' : Int) := by omega
        clear e1 e2 e3 e4 hA' hf hkk r1 r2 r3 r4 r5 r6
        by_cases hk1 : kk = 1
        · subst hk1
          obtain ⟨fy, hfy⟩ : ∃ fy, f y = fy := ⟨_, rfl⟩
          have hcall := HHas.out f
          rw [hfy] at hcall
          have HC := Lib.hid hcall
          have HFY : Hid (sOf (S a) y = fy) := Lib.hid (by rw [HF.out, hfy])
          clear hcall hfy
          go_wp2_with fail
          refine (HP.out _).mono ?_
          rintro e w' ⟨rfl, rfl⟩
          go_wp2_with fail
          refine (HC.out _).mono ?_
          rintro e w5 ⟨rfl, hb⟩
          have HW5 := Lib.hid (HW.out.trans (hb.mono HW.out.size))
          have HO5 : Hid (spO w5 w.heap.size _ B) := Lib.hid (owns_below HO.out hb)
          have p1' := (hb.cell (p := ⟨b, off + a * 7 + 1, none⟩) hbl).trans p1
          have hbl' := Nat.lt_of_lt_of_le hbl hb.size
          clear hb p0 p1 p2 p3 p4 p5 p6
          cases fy with
          | false =>
            have HB5 := Lib.hid (byA_out HB.out (fun q0 _ h2 _ h4 => by
              have : q0 = a := by have := HX.out; omega
              subst this
              rw [HFY.out] at h4; cases h4))
            go_wp2_with fail
            go_roundw
            case rel => exact ⟨i + 1, B, by omega, by go_num, HB5, HO5, HW5⟩
            case measure => simp [intOf]; omega
          | true =>
            have HB5 := Lib.hid (byA_in HB.out ham HX.out HKK.out HFY.out HA.out)
            have HS5 := HW5.out.size
            have HLB : Hid (B.length ≤ 10000) := Lib.hid (by have := HB.out.1; omega)
            have HLC : Hid ((w5.alloc (.cells #[.int .i64 (A' : Int)] 3)).cell? ⟨w5.heap.size, 0, none⟩ = some (.int .i64 (A' : Int))) := Lib.hid (by simp)
            have HLS : Hid (w.heap.size ≤ (w5.alloc (.cells #[.int .i64 (A' : Int)] 3)).heap.size) := Lib.hid (by rw [World.size_alloc]; omega)
            have HO6 := Lib.hid (HO5.out.alloc (.cells #[.int .i64 (A' : Int)] 3))
            have HW6 := Lib.hid (HW5.out.alloc HS5 (.cells #[.int .i64 (A' : Int)] 3))
            clear HO HO5 HS5
            go_wp2_with (at_builtin; refine append_one9 rfl _ _ rfl w.heap.size _ B rfl HO6.out w5.heap.size A' rfl HLC.out HLB.out HLS.out ?_; intro v9 w9 h9 hg9; have HO9 := Lib.hid h9; have HW9 := Lib.hid (HW6.out.trans (spO.grow9 (Nat.le_refl _) HLS.out HO6.out hg9)); clear h9 hg9)
            go_roundw
            case rel => exact ⟨i + 1, _, by omega, by go_num, HB5, HO9, HW9⟩
            case measure => simp [intOf]; omega
        · have d1 : (kk == 1) = false := beq_eq_false_iff_ne.2 hk1
          have HB5 := Lib.hid (byA_out HB.out (fun q0 _ h2 h3 _ => by
            have : q0 = a := by have := HX.out; omega
            subst this
            rw [HKK.out] at h3; exact hk1 h3))
          clear p1 p2 p3 p4 p5 p6 hk1
          go_wp2_with fail
          refine (HP.out _).mono ?_
          rintro e w' ⟨rfl, rfl⟩
          go_wp2_with fail
          go_roundw
          case rel => exact ⟨i + 1, B, by omega, by go_num, HB5, HO, HW⟩
          case measure => simp [intOf]; omega
      · have HP := Lib.hid (fun w => placeb9 x m false (by rw [← Bool.decide_and]; exact decide_eq_false hin) w)
        have HB5 := Lib.hid (byA_out HB.out (fun q0 h1 h2 _ _ => hin (by have := HX.out; omega)))
        clear hin
        go_wp2_with fail
        refine (HP.out _).mono ?_
        rintro e w' ⟨rfl, rfl⟩
        go_wp2_with fail
        go_roundw
        case rel => exact ⟨i + 1, B, by omega, by go_num, HB5, HO, HW⟩
        case measure => simp [intOf]; omega
    · obtain rfl : i = n := by omega
      obtain ⟨p', c', rfl⟩ := spO_of HO.out
      have HE := byA_end HR.out HB.out
      have hcl := closed_is b off m cap S 0 p' B.length c' _ hm hpos (by have := HB.out.1; omega) HR.out _ (HSw.out.below HW.out) HO.out.rd9
      rw [HE] at hcl
      have HCL := Lib.hid hcl
      obtain ⟨bl, hbl⟩ : ∃ bl, B.length = bl := ⟨_, rfl⟩
      have HCL : Hid (Calls Try.prog 68 #[.slice (some ⟨b, off, none⟩) m cap, .slice p' bl c', .int .i64 0] wr (clPost m (Cl S 0 (By S y (nmd m i l))) wr)) := Lib.hid (hbl ▸ HCL.out)
      rw [hbl]
      clear hcl HE hbl HO
      go_wp2_with fail
      refine HCL.out.mono ?_
      rintro e w6 ⟨p6, c6, A, rfl, h1, h2, h3, h4, h5⟩
      have HF : Hid (clPost m (Cl S 0 (By S y (nmd m i l))) w (.returned (.slice p6 A.length c6)) w6) := Lib.hid ⟨p6, c6, A, rfl, h1, HW.out.trans (h2.mono HW.out.size), h3, h4, fun b o e => Nat.le_trans HW.out.size (h5 b o e)⟩
      clear h1 h2 h3 h4 h5 HCL
      go_wp2_with fail
      go_returns
      exact HF.out
end Go.Proofs.Ytepegohopgnmnaa
