/-
  What the ninth reference counts is what the page says, and what there are steps for. Plain facts.
  What the tenth laws ask of the code: Classes, Firsts and Join, as contracts.
  Rows of numbers at a block's head, made and written into by place.
  The row of the type of a byte; what a list of bytes grows in.
  The walk of byteset's Has.
  The walk of byteset's Bytes.
-/
import Derived.Test.YtepegohopgnmnaaPk13
import Derived.Test.YtepegohopgnmnaaPk7
import Derived.Test.YtepegohopgnmnaaPk15
import Derived.OwnWalk
import Derived.Test.YtepegohopgnmnaaPk3
import Derived.Test.YtepegohopgnmnaaPk1
namespace Go.Proofs.Ytepegohopgnmnaa

section
variable {S : Nat → Sd} {m : Nat}
/-- What is true, as a set of states. -/
def pT (m : Nat) (T : Nat → Bool) (q : Nat) : Prop := q < m ∧ T q = true
theorem rt_lt {sym : Int} (hr : rng S m) {a q : Nat} (ha : a < m) (h : rt S sym a q) : q < m := by
  induction h with
  | refl => exact ha
  | @tail q' q'' _ he ih =>
    obtain ⟨_, _, a1, a2, b1, b2⟩ := hr q' ih
    rcases he with ⟨_, h⟩ | ⟨_, h⟩ <;> omega
theorem pT_up {sym : Int} {T : Nat → Bool} (hr : rng S m) : pT m (upN S sym m T m) = Cl S sym (pT m T) := by
  funext q
  apply propext
  constructor
  · rintro ⟨h1, h2⟩; exact (upN_iff hr h1).1 h2
  · intro h
    obtain ⟨q0, h1, h2⟩ := h
    have hq := rt_lt hr h1.1 h2
    exact ⟨hq, (upN_iff hr hq).2 ⟨q0, h1, h2⟩⟩
theorem pT_st {y : Nat} {T : Nat → Bool} (hr : rng S m) : pT m (stR S y T m) = By S y (pT m T) := by
  funext q
  apply propext
  constructor
  · rintro ⟨h1, h2⟩
    obtain ⟨q0, k1, k2, k3, k4, k5⟩ := (stR_iff hr (Nat.le_refl _)).1 h2
    exact ⟨q0, ⟨k1, k2⟩, k3, k4, k5⟩
  · rintro ⟨q0, ⟨k1, k2⟩, k3, k4, k5⟩
    obtain ⟨_, _, a1, a2, _, _⟩ := hr q0 k1
    exact ⟨by omega, (stR_iff hr (Nat.le_refl _)).2 ⟨q0, k1, k2, k3, k4, k5⟩⟩
theorem pT_in {s : Nat} (hs : s < m) : pT m (inL m (fun _ => (s : Int)) 1) = fun q => q = s := by
  funext q
  apply propext
  constructor
  · rintro ⟨h1, h2⟩
    obtain ⟨_, _, h⟩ := (inL_iff h1).1 h2
    omega
  · rintro rfl
    exact ⟨hs, (inL_iff hs).2 ⟨0, by omega, rfl⟩⟩
theorem pT_rF {tx : Nat → Nat} (hr : rng S m) : ∀ {k i T}, pT m (rF S m tx i k T) = runF S tx i k (pT m T)
  | 0, _, _ => rfl
  | k + 1, i, T => by
    show pT m (rF S m tx (i + 1) k (upN S 0 m (stR S (tx i) T m) m)) = runF S tx (i + 1) k (Cl S 0 (By S (tx i) (pT m T)))
    rw [pT_rF hr, pT_up hr, pT_st hr]
theorem fF_iff {n : Nat} {tx : Nat → Nat} {s fin i j : Nat} (hr : rng S m) (hs : s < m) (hf : fin < m) : fF S m n tx (s : Int) fin i j = true ↔ fitsP S n tx s fin i j := by
  have h0 : pT m (aF S m (s : Int)) = Cl S 0 fun q => q = s := by unfold aF; rw [pT_up hr, pT_in hs]
  have h1 : pT m (if i = 0 then upN S 256 m (aF S m (s : Int)) m else aF S m (s : Int)) = if i = 0 then Cl S 256 (Cl S 0 fun q => q = s) else Cl S 0 fun q => q = s := by
    by_cases hi : i = 0
    · rw [if_pos hi, if_pos hi, pT_up hr, h0]
    · rw [if_neg hi, if_neg hi, h0]
  have key : ∀ T : Nat → Bool, T fin = true ↔ pT m T fin := fun T => ⟨fun h => ⟨hf, h⟩, fun h => h.2⟩
  unfold fF fitsP
  by_cases hn : n = 0
  · rw [if_pos hn, if_pos hn, key, pT_up hr, h0]
  · rw [if_neg hn, if_neg hn]
    by_cases hj : j = n
    · rw [if_pos hj, if_pos hj, key, pT_up hr, pT_rF hr, h1]
    · rw [if_neg hj, if_neg hj, key, pT_rF hr, h1]
/-- An automaton of a tree, its last state the final one, may be. -/
theorem fr_right {t : Tr} (h : okT t) {f l : Nat} (hS : isFr S t 0 f l) (hl : S l = ⟨6, 0, 0, 0, 0, 0, 0⟩) (hn : nst t ≤ 600) : rightP S (nst t) f l := by
  have hb := fr_bd S t 0 f l hS
  have h2 := nst_two t
  have hk : ∀ q, q < nst t → q ≠ l → okS 0 (0 + nst t) (S q) := fun q hq hn' => fr_ok t h 0 f l hS q (Nat.zero_le _) (by omega) hn'
  have h6 : ∀ q, q < nst t → (six S q = true ↔ q = l) := fun q hq => by
    unfold six
    by_cases e : q = l
    · subst e; rw [hl]; simp
    · obtain ⟨k1, k2, _⟩ := hk q hq e
      constructor
      · intro g; rw [beq_iff_eq] at g; omega
      · intro g; exact absurd g e
  refine ⟨by omega, fun q hq => ?_, ?_, by rw [Int.toNat_natCast, hl]⟩
  · by_cases e : q = l
    · subst e
      unfold okQ
      rw [hl]
      exact ⟨⟨by show (1 : Int) ≤ 6; decide, by show (6 : Int) ≤ 6; decide, by show (0 : Int) ≤ 0; decide, by show (0 : Int) < _; omega, by show (0 : Int) ≤ 0; decide, by show (0 : Int) < _; omega⟩, .inr ⟨rfl, rfl, rfl, rfl⟩, .inr rfl, fun _ => rfl⟩
    · obtain ⟨k1, k2, k3, k4, k5, k6, k7⟩ := hk q hq e
      rw [Nat.zero_add] at k4 k5
      have hB : 0 ≤ (S q).B ∧ (S q).B < (nst t : Nat) := by
        by_cases e3 : (S q).k = 3
        · have := k5 e3; omega
        · have := k6 e3; omega
      refine ⟨⟨k1, by omega, by omega, k4, hB.1, hB.2⟩, ?_, ?_, fun g => by omega⟩
      · by_cases e1 : (S q).k = 1
        · exact .inl e1
        · exact .inr (k7 e1)
      · by_cases e3 : (S q).k = 3
        · exact .inl e3
        · exact .inr (k6 e3)
  · have main : ∀ M, M ≤ nst t → cntT (six S) M = if l < M then 1 else 0 := by
      intro M
      induction M with
      | zero => intro _; rfl
      | succ M ih =>
        intro hM
        rw [cntT_succ, ih (by omega)]
        have := h6 M (by omega)
        by_cases e : M = l
        · rw [if_pos (this.2 e), if_neg (by omega), if_pos (by omega)]
        · rw [if_neg (fun g => e (this.1 g))]
          by_cases g : l < M
          · rw [if_pos g, if_pos (by omega)]
          · rw [if_neg g, if_neg (by omega)]
    rw [main _ (Nat.le_refl _), if_pos (by omega)]
end
end Go.Proofs.Ytepegohopgnmnaa

namespace Go.Proofs.Ytepegohopgnmnaa
open Go.RowKit

/-- A list of numbers, and how many classes there are. -/
def clsPost (n : Nat) (l : Nat → Int) (k : Int) (w : World) (e : Ending) (w' : World) : Prop := ∃ q c l', e = .returned (.tuple #[.slice q n c, .int .i64 k]) ∧ rdL w' q n l' ∧ (∀ j, j < n → l' j = l j) ∧ Below w.heap.size w w'
def ClsC : Prop := ∀ (p : Option Addr) (m cap : Nat) (S : Nat → Sd) (st fin : Int) (w : World), m ≤ 600 → stsAt w p m S → (∀ j, j < m → okWs (S j)) →
  Calls Try.prog 21 #[nfV p m cap st fin] w fun e w' => (rightP S m st fin → clsPost 259 (fun x => (clA (alk S m) x : Nat)) (cntT (isH (alk S m)) 259 : Nat) w e w') ∧ (¬ rightP S m st fin → clsPost 0 (fun _ => 0) 0 w e w')
def frsPost (n : Nat) (l : Nat → Int) (width : Int) (w : World) (e : Ending) (w' : World) : Prop := ∃ q c l', e = .returned (.slice q (min width 259).toNat c) ∧ rdL w' q (min width 259).toNat l' ∧ (∀ j, j < (min width 259).toNat → l' j = fsA l n (j : Nat)) ∧ Below w.heap.size w w'
def FrsC : Prop := ∀ (q : Option Addr) (n c : Nat) (l : Nat → Int) (width : Int) (w : World), n ≤ 1000 → rdL w q n l →
  Calls Try.prog 23 #[.slice q n c, .int .i64 width] w (frsPost n l width w)
/-- A number that an int holds. -/
def wfI (x : Int) : Prop := (Lit.int .i64 x).wf = true
theorem wfI_of {x : Int} (h1 : -1000000 ≤ x) (h2 : x ≤ 1000000) : wfI x := WalkArith.wf_i64 ⟨by omega, by omega⟩
def JoiC : Prop := ∀ (q : Option Addr) (n c : Nat) (l : Nat → Int) (q' : Option Addr) (n' c' : Nat) (l' : Nat → Int) (w : World), n ≤ 1000 → n' ≤ 1000 → (∀ j, j < n → wfI (l j)) → (∀ j, j < n' → wfI (l' j)) → rdL w q n l → rdL w q' n' l' →
  Calls Try.prog 42 #[.slice q n c, .slice q' n' c'] w fun e w' => (n = n' → clsPost n (fun x => (clA (joR l l') x : Nat)) (cntT (isH (joR l l')) n : Nat) w e w') ∧ (n ≠ n' → clsPost 0 (fun _ => 0) 0 w e w')
end Go.Proofs.Ytepegohopgnmnaa

namespace Go.Proofs.Ytepegohopgnmnaa
open Go.RowKit

def putF (f : Nat → Int) (j : Nat) (x : Int) : Nat → Int := fun y => if y = j then x else f y
theorem fnv_set (f : Nat → Int) (m j : Nat) (x : Int) : (fnv f m).set j (.int .i64 x) = fnv (putF f j x) m := by
  unfold fnv
  apply List.ext_getElem
  · simp
  · intro i h1 h2
    simp only [List.getElem_set, List.getElem_map, List.getElem_range, putF]
    by_cases h : i = j
    · rw [if_pos h.symm, if_pos h]
    · rw [if_neg (fun e => h e.symm), if_neg h]
theorem fnv_congr {f g : Nat → Int} {m : Nat} (h : ∀ j, j < m → f j = g j) : fnv f m = fnv g m := by
  unfold fnv
  exact List.map_congr_left fun i hi => by rw [h i (List.mem_range.1 hi)]
theorem made_fnv (m : Nat) : (madeCells #[Value.int .i64 0] m).toList = fnv (fun _ => 0) m := by
  unfold madeCells fnv
  apply List.ext_getElem
  · simp
  · intro i h1 h2
    simp [Nat.mod_one]
/-- A row of m numbers that the call owns. -/
def ipR (w : World) (base g m : Nat) (f : Nat → Int) : Prop := w.ownsRow base 3 1 (.slice (some ⟨g, 0, none⟩) m m) m (fnv f m)
theorem ipR.cell {w : World} {base g m : Nat} {f : Nat → Int} (h : ipR w base g m f) (j : Nat) (hj : j < m) : w.cell? ⟨g, j, none⟩ = some (.int .i64 (f j)) := by
  rw [World.ownsRow.cellAt h j (by omega)]; exact fnv_at f m j hj
theorem ipR.free {w : World} {base g m : Nat} {f : Nat → Int} (h : ipR w base g m f) (j : Nat) : w.frozen? ⟨g, j, none⟩ = false := World.ownsRow.frozenAt h j
theorem ipR.lt {w : World} {base g m : Nat} {f : Nat → Int} (h : ipR w base g m f) : base ≤ g ∧ g < w.heap.size := World.ownsRow.lt h g rfl
theorem ipR.below {w w' : World} {base g m : Nat} {f : Nat → Int} (h : ipR w base g m f) (hb : Below w.heap.size w w') : ipR w' base g m f := owns_below h hb
theorem ipR.put {w : World} {base g m : Nat} {f : Nat → Int} (h : ipR w base g m f) (j : Nat) (x : Int) : ipR (w.setCell ⟨g, j, none⟩ (.int .i64 x)) base g m (putF f j x) := by
  have := (World.ownsRow.stored h j (.int .i64 x)).1
  rw [fnv_set] at this
  exact this
theorem ipR.same {w : World} {base g m : Nat} {f f' : Nat → Int} (h : ipR w base g m f) (hf : ∀ j, j < m → f j = f' j) : ipR w base g m f' := by
  unfold ipR at h ⊢
  rw [← fnv_congr hf]; exact h
theorem ipR.rd {w : World} {base g m : Nat} {f : Nat → Int} (h : ipR w base g m f) : rdL w (some ⟨g, 0, none⟩) m f := fun j hj =>
  ⟨g, 0, rfl, h.lt.2, by rw [Nat.zero_add]; exact h.cell j hj⟩
theorem make_ints {w : World} {ops : Array Oper} {rest : List Oper} {o : Oper} {a : Act} {Q : Exit → Act → World → Prop} (hgd : o.guard = none) (s x : Operand)
    (ho : o.op = Op.makeSlice 27 s x) (base n : Nat) (hs : a.eval s = .int .i64 (n : Int)) (hx : a.eval x = .int .i64 (n : Int)) (hn : n ≤ 100000) (hbase : base ≤ w.heap.size)
    (h : ∀ w', ipR w' base w.heap.size n (fun _ => 0) → Below base w w' → wpList Try.prog ops Q rest (a.put o.dst (.slice (some ⟨w.heap.size, 0, none⟩) n n)) w') : wpList Try.prog ops Q (o :: rest) a w := by
  obtain ⟨i0, hi, hz0, hz1, hz2⟩ := info_parts infoInt9w
  refine wpList_make_full w hgd s x 27 ho base 3 i0 (.int .i64 0) 1 Try.underlying27 hi hz0 hz1 .i64 .i64 (n : Int) (n : Int) n hs hx rfl rfl (by rw [hz2]; omega) (by unfold maxLen; omega) hbase ?_
  intro w' h1 h2
  refine h w' ?_ ((Below.refl _ _).grown h2 hbase (fun r hr => by cases hr))
  have e : (madeCells (Value.int .i64 0).cells (n * 1)).toList = fnv (fun _ => 0) n := by
    rw [Nat.mul_one]; exact made_fnv n
  rw [e] at h1
  exact h1
end Go.Proofs.Ytepegohopgnmnaa

namespace Go.Proofs.Ytepegohopgnmnaa
open Go.RowKit

theorem Try.info8 : (Try.prog.info? 5).map (fun i => (i.zero, i.size, i.bytes)) = some (some (.int .u8 0), 1, 1) := by kernel_rfl

/-- The world within Bytes, k numbers on. -/
def bytesR (f : Nat → Bool) (w : World) (k : Nat) (v : Value) (wr : World) : Prop :=
  wr.ownsRow (w.heap.size + 1) 5 1 v (bl f k).length (u8s (bl f k)) ∧
  Below (w.heap.size + 1) (w.alloc (.cells #[.int .u64 (wd f 0 : Int), .int .u64 (wd f 1 : Int), .int .u64 (wd f 2 : Int), .int .u64 (wd f 3 : Int)] 62)) wr
end Go.Proofs.Ytepegohopgnmnaa

namespace Go.Proofs.Ytepegohopgnmnaa
open Go.RowKit

set_option maxHeartbeats 1000000 in
theorem has_any (f : Nat → Bool) (b : Nat) (hn : b < 256) (w : World) :
    Calls Try.prog 77 #[sv f, .int .u8 (b : Int)] w fun e w' => e = .returned (.bool (f b)) ∧ Below w.heap.size w w' := by
  have W := word_has f
  have q : b / 64 = 0 ∨ b / 64 = 1 ∨ b / 64 = 2 ∨ b / 64 = 3 := by omega
  have key : ∀ i, b / 64 = i → Hid ((bits .and .u64 ((wd f i : Int) / 2 ^ (b % 64)) 1 == 1) = f b) := fun i hi => by
    have := W i (b % 64) (by omega)
    rw [show 64 * i + b % 64 = b from by omega] at this
    exact this
  clear W
  unfold sv
  rcases q with q | q | q | q
  · have key' := key _ q
    clear key
    have q' : (b : Int) / 64 = 0 := by omega
    clear q
    go_enter Try.func77, Try.ntmps77
    go_wp2
    go_ret
    exact ⟨by rw [← key'.out] <;> rfl, by go_grown⟩
  · have key' := key _ q
    clear key
    have q' : (b : Int) / 64 = 1 := by omega
    clear q
    go_enter Try.func77, Try.ntmps77
    go_wp2
    go_ret
    exact ⟨by rw [← key'.out] <;> rfl, by go_grown⟩
  · have key' := key _ q
    clear key
    have q' : (b : Int) / 64 = 2 := by omega
    clear q
    go_enter Try.func77, Try.ntmps77
    go_wp2
    go_ret
    exact ⟨by rw [← key'.out] <;> rfl, by go_grown⟩
  · have key' := key _ q
    clear key
    have q' : (b : Int) / 64 = 3 := by omega
    clear q
    go_enter Try.func77, Try.ntmps77
    go_wp2
    go_ret
    exact ⟨by rw [← key'.out] <;> rfl, by go_grown⟩
theorem has_lit (f : Nat → Bool) (b : Nat) (hn : b < 256) (w : World) : Calls Try.prog 77 #[svr f, .int .u8 (b : Int)] w fun e w' => e = .returned (.bool (f b)) ∧ Below w.heap.size w w' := has_any f b hn w
end Go.Proofs.Ytepegohopgnmnaa

namespace Go.Proofs.Ytepegohopgnmnaa
open Go.RowKit

set_option maxRecDepth 100000 in
set_option maxHeartbeats 2000000 in
theorem bytes_any (f : Nat → Bool) (w : World) :
    Calls Try.prog 66 #[sv f] w fun e w' => ∃ v, e = .returned v ∧ w'.ownsRow (w.heap.size + 1) 5 1 v (bl f 256).length (u8s (bl f 256)) ∧ Below w.heap.size w w' := by
  obtain ⟨i0, hi, hz0, hz1, hz2⟩ := info_parts Try.info8
  unfold sv
  go_enter Try.func66, Try.ntmps66
  go_wp2
  go_loopw [3, 5] (fun v i wr => ∃ k : Nat, k ≤ 256 ∧ i = .int .i64 k ∧ bytesR f w k v wr) (fun _ i _ => 256 - (intOf i).toNat)
  case atStart => exact ⟨0, Nat.zero_le _, rfl, World.ownsRow_nil _ _ _ _, Below.refl _ _⟩
  case round =>
    obtain ⟨k, hk, rfl, hown, hB⟩ := hrel
    obtain ⟨hc, hf⟩ := w2of hB
    have hz := hB.size
    simp only [World.size_alloc] at hz
    have hle := bl_le f k
    by_cases hlt : k < 256
    · cases hfk : f k
      · have Hf := Lib.hid hfk
        clear hfk
        go_wp2_with (go_at_call 77; refine (has_any f k hlt _).mono ?_; rintro e w1 ⟨rfl, hb1⟩; rw [Hf.out])
        go_roundw
        case rel => exact ⟨k + 1, by omega, by go_num, by rw [bl_miss f k Hf.out]; exact owns_below hown hb1, hB.trans (hb1.mono hz)⟩
        case measure => simp [intOf]; omega
      · have Hf := Lib.hid hfk
        clear hfk
        go_wp2_with (first | (go_at_call 77; refine (has_any f k hlt _).mono ?_; rintro e w1 ⟨rfl, hb1⟩; rw [Hf.out]; have hown1 := owns_below hown hb1) | (at_builtin; refine wpList_append_own _ rfl _ _ 106 rfl (w.heap.size + 1) 5 i0 (.int .u8 0) 1 1 Try.underlying106 hi hz0 hz1 hz2 rfl (by decide) _ _ _ rfl (hown1.alloc _) ⟨w1.heap.size, 0, none⟩ 1 1 [.int .u8 (k : Int)] rfl rfl ?c1 ?c2 ?c3 ?c4 ?c5 ?_))
        case c1 =>
          intro j u hj
          match j, hj with
          | 0, hj => simp at hj; subst hj; simp [Addr.add]
        case c2 => intro u hu; simp at hu; subst hu; rfl
        case c3 => unfold maxLen; omega
        case c4 => omega
        case c5 => have := hb1.size; simp; omega
        have hz1 := hb1.size
        intro v' w2 hown2 hgrow _
        have hB2 : Below (w.heap.size + 1) (w.alloc (.cells #[.int .u64 (wd f 0 : Int), .int .u64 (wd f 1 : Int), .int .u64 (wd f 2 : Int), .int .u64 (wd f 3 : Int)] 62)) w2 :=
          ((hB.trans (hb1.mono hz)).alloc (by omega) _).grown hgrow (by simp; omega) fun r hr => (hown1.lt r hr).1
        have hown3 : w2.ownsRow (w.heap.size + 1) 5 1 v' (bl f (k + 1)).length (u8s (bl f (k + 1))) := by
          rw [bl_hit f k Hf.out]
          simpa [u8s] using hown2
        clear hown2 hgrow hown hown1 hB hc hf hb1
        go_wp2
        go_roundw
        case rel => exact ⟨k + 1, by omega, by go_num, hown3, hB2⟩
        case measure => simp [intOf]; omega
    · obtain rfl : k = 256 := by omega
      clear hc hf
      go_wp2
      go_ret
      exact ⟨_, rfl, hown, ((Below.refl _ _).alloc (Nat.le_refl _) _).trans (hB.mono (by omega))⟩
end Go.Proofs.Ytepegohopgnmnaa
