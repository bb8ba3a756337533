/-
  The parts that are nobody's argument yet (a stack, as the code has it). Plain facts; a row cut short.
  What facts' told and states tell at a node of a tree, where what its arguments told lies in memory.
  Two nodes are the same just if all that they hold is; the walk of the reference's Same at two lists that read alike.
-/
import Derived.Test.YtpjmogcphgaimaaPk3
import Derived.Test.YtpjmogcphgaimaaPk4
import Derived.Test.YtpjmogcphgaimaaPk37
import Derived.Test.YtpjmogcphgaimaaPk39
import Derived.Test.YtpjmogcphgaimaaPk40
import Derived.Test.YtpjmogcphgaimaaPk41
import Derived.Test.YtpjmogcphgaimaaPk42
import Derived.Test.YtpjmogcphgaimaaPk43
namespace Go.Proofs.Ytpjmogcphgaimaa
open Go.RowKit

/-- The parts that are nobody's argument yet, by their last nodes. -/
def roots (N : Nat → Nd) : Nat → List Nat
  | 0 => []
  | k + 1 => (roots N k).take ((roots N k).length - (ar (N k).k).toNat) ++ [k]
theorem roots_succ (N : Nat → Nd) (k : Nat) : roots N (k + 1) = (roots N k).take ((roots N k).length - (ar (N k).k).toNat) ++ [k] := rfl
theorem roots_len (N : Nat → Nd) : ∀ k, (roots N k).length ≤ k
  | 0 => Nat.le_refl _
  | k + 1 => by
    have := roots_len N k
    rw [roots_succ, List.length_append, List.length_take, List.length_cons, List.length_nil]
    omega
theorem roots_at {N : Nat → Nd} {n : Nat} (ht : tree N n) : ∀ m i, i ≤ m → i < n → ∀ f : Nat, fst N i = f → roots N (i + 1) = roots N f ++ [i] := by
  have leaf : ∀ i, ((N i).k = 1 ∨ (N i).k = 2 ∨ (N i).k = 3 ∨ (N i).k = 4) → roots N (i + 1) = roots N i ++ [i] := fun i hk => by
    rw [roots_succ, show ar (N i).k = 0 by rcases hk with h | h | h | h <;> rw [h] <;> rfl]
    rw [show (roots N i).length - ((0 : Int)).toNat = (roots N i).length from rfl, List.take_length]
  intro m
  induction m with
  | zero =>
    intro i h0 hi f hf
    obtain ⟨f', hf', hc⟩ := nd_is ht hi
    obtain rfl : f' = f := by omega
    cases hc with
    | leaf _ hk _ => exact leaf _ hk
    | one => omega
    | two => omega
  | succ m ih =>
    intro i h0 hi f hf
    obtain ⟨f', hf', hc⟩ := nd_is ht hi
    obtain rfl : f' = f := by omega
    cases hc with
    | leaf _ hk _ => exact leaf _ hk
    | @one p _ _ hk h1 h2 _ =>
      rw [roots_succ (k := p + 1), ih p (by omega) (by omega) f' h1, hk, show (ar 7).toNat = 1 from rfl, List.length_append, show [p].length = 1 from rfl, Nat.add_sub_cancel, List.take_left]
    | @two p q _ _ hk h1 h2 h3 h4 _ =>
      rw [roots_succ (k := p + 1), ih p (by omega) (by omega) (q + 1) h1, ih q (by omega) (by omega) f' h3, show (ar (N (p + 1)).k).toNat = 2 by rcases hk with h | h <;> rw [h] <;> rfl, List.append_assoc, List.length_append, show ([q] ++ [p]).length = 2 from rfl, Nat.add_sub_cancel, List.take_left]
theorem roots_fst {N : Nat → Nd} {n i f : Nat} (ht : tree N n) (hi : i < n) (hf : fst N i = f) : roots N (i + 1) = roots N f ++ [i] := roots_at ht i i (Nat.le_refl _) hi f hf
theorem roots_all {N : Nat → Nd} {n : Nat} (ht : tree N n) (hn : 0 < n) : roots N n = [n - 1] := by
  have h := tree_iff.1 ht
  have := roots_fst ht (show n - 1 < n by omega) (show fst N (n - 1) = ((0 : Nat) : Int) from h.2.2.2)
  rwa [show n - 1 + 1 = n by omega] at this
theorem roots_lt {N : Nat → Nd} : ∀ {k j}, j ∈ roots N k → j < k
  | 0, _, h => by cases h
  | k + 1, j, h => by
    rw [roots_succ] at h
    rcases List.mem_append.1 h with h | h
    · have := roots_lt (List.mem_of_mem_take h); omega
    · rw [List.mem_singleton.1 h]; exact Nat.lt_succ_self k

theorem roots_dep {N : Nat → Nd} {n : Nat} (ht : tree N n) : ∀ k, k ≤ n → ((roots N k).length : Int) = dep N k := by
  intro k
  induction k with
  | zero => intro _; rfl
  | succ k ih =>
    intro hk
    have h1 := ih (by omega)
    obtain ⟨g1, g2, -⟩ := ht.2.1 k (by omega)
    rw [roots_succ, List.length_append, List.length_take, List.length_singleton, show dep N (k + 1) = dep N k + 1 - ar (N k).k from rfl]
    omega
theorem own_take {w : World} {base e size n cap r : Nat} {p : Option Addr} {xs : List Value} (h : w.ownsRow base e size (.slice p n cap) n xs) (hr : r ≤ n) : w.ownsRow base e size (.slice p r cap) r (xs.take (r * size)) := by
  obtain ⟨h1, h2⟩ := h
  have hm : r * size ≤ n * size := Nat.mul_le_mul_right _ hr
  refine ⟨by rw [List.length_take, h1]; omega, ?_⟩
  rcases h2 with ⟨h2, h3⟩ | ⟨g, c, cur, h2, h3, h4, h5, h6, h7, h8⟩
  · obtain rfl : r = 0 := by omega
    simp only [Value.slice.injEq] at h2
    exact .inl ⟨by rw [h2.1, h2.2.2], rfl⟩
  · simp only [Value.slice.injEq] at h2
    obtain ⟨rfl, -, rfl⟩ := h2
    refine .inr ⟨g, cap, cur, rfl, h3, h4, by omega, h6, h7, ?_⟩
    rw [← h8, List.take_take, Nat.min_eq_left hm]
theorem ar_two {N : Nat → Nd} {n k : Nat} (ht : tree N n) (hk : k < n) : ar (N k).k = ((ar (N k).k).toNat : Int) ∧ (ar (N k).k).toNat ≤ (roots N k).length ∧ (ar (N k).k).toNat ≤ 2 := by
  obtain ⟨g1, g2, -⟩ := ht.2.1 k hk
  have h := roots_dep ht k (by omega)
  rcases ar_cases (N k).k with ⟨h0, _⟩ | ⟨h0, _⟩ | ⟨h0, _⟩ | ⟨h0, _⟩ <;> (rw [h0] at g1 g2 ⊢; refine ⟨?_, ?_, ?_⟩ <;> omega)

end Go.Proofs.Ytpjmogcphgaimaa

namespace Go.Proofs.Ytpjmogcphgaimaa
open Go.RowKit

/-- Whether an end is in a tree. -/
def enT : Tr → Bool
  | .leaf x => x.k == 3 || x.k == 4
  | .cat a b => enT a || enT b
  | .or a b => enT a || enT b
  | .rep a _ _ => enT a
/-- Facts at a place. -/
def fxAt (w : World) (b o : Nat) (a : Fx) (e : Bool) : Prop :=
  w.cell? ⟨b, o, none⟩ = some (.bool a.nv) ∧ w.cell? ⟨b, o + 1, none⟩ = some (.int .i64 a.ls) ∧ w.cell? ⟨b, o + 2, none⟩ = some (.int .i64 a.ms) ∧ w.cell? ⟨b, o + 3, none⟩ = some (.int .u64 (wd a.fi 0 : Int)) ∧
  w.cell? ⟨b, o + 4, none⟩ = some (.int .u64 (wd a.fi 1 : Int)) ∧ w.cell? ⟨b, o + 5, none⟩ = some (.int .u64 (wd a.fi 2 : Int)) ∧ w.cell? ⟨b, o + 6, none⟩ = some (.int .u64 (wd a.fi 3 : Int)) ∧ w.cell? ⟨b, o + 7, none⟩ = some (.bool e)
theorem fxAt.below {w w' : World} {B b o : Nat} {a : Fx} {e : Bool} (h : fxAt w b o a e) (hB : Below B w w') (hb : b < B) : fxAt w' b o a e := by
  obtain ⟨h0, h1, h2, h3, h4, h5, h6, h7⟩ := h
  exact ⟨cell_far hB hb h0, cell_far hB hb h1, cell_far hB hb h2, cell_far hB hb h3, cell_far hB hb h4, cell_far hB hb h5, cell_far hB hb h6, cell_far hB hb h7⟩
/-- What told tells: facts, and memory of its own. -/
def fxPost (a : Fx) (e : Bool) (w : World) (x : Ending) (w' : World) : Prop := x = .returned (fxv a e) ∧ Below w.heap.size w w'

theorem len_leaf (x : Nd) (hk : x.k = 1 ∨ x.k = 2 ∨ x.k = 3 ∨ x.k = 4) (hw : okW x) (v : Value) (w : World) :
    Calls Try.prog 27 #[ndr x, v] w (fxPost (leafX x) false w) := by
  obtain ⟨e0, e1, e2, e3⟩ := fOf_wd hw
  have hone := fun h => oneX_leaf (x := x) h hw
  have HC : ∀ w, Calls Try.prog 33 #[.agg #[.int .u64 x.a, .int .u64 x.b, .int .u64 x.c, .int .u64 x.d]] w fun e w' => e = .returned (fxv (oneX (fOf x)) false) ∧ Below w.heap.size w w' := fun w => by
    have h := coneof_any (fOf x) w
    unfold svr at h
    rwa [← e0, ← e1, ← e2, ← e3] at h
  rcases hk with hk | hk
  · rw [hone hk] at HC
    unfold ndr
    rw [hk]
    exact len_set x.a x.b x.c x.d x.lo x.hi _ _ _ _ _ _ _ _ v w HC
  · have : leafX x = fx0 := by unfold leafX; rw [if_neg (by omega)]
    rw [this]
    unfold fxPost
    rw [fxv_zero]
    exact len_zero x.k hk _ _ _ _ _ _ v w

theorem told_leaf (x : Nd) (hk : x.k = 1 ∨ x.k = 2 ∨ x.k = 3 ∨ x.k = 4) (hw : okW x) (p : Option Addr) (cap : Nat) (w : World) :
    Calls Try.prog 21 #[ndr x, .slice p 0 cap] w (fxPost (leafX x) (x.k == 3 || x.k == 4) w) := by
  have HC := fun w' (_ : Below w.heap.size w w') => len_leaf x hk hw (.slice p 0 cap) w'
  generalize leafX x = X at *
  obtain ⟨k, a, b, c, d, lo, hi⟩ := x
  simp only at hk HC ⊢
  rcases hk with rfl | rfl | rfl | rfl
  · exact told_1 a b c d lo hi X.nv X.ls X.ms _ _ _ _ false p cap w HC
  · exact told_2 a b c d lo hi X.nv X.ls X.ms _ _ _ _ false p cap w HC
  · exact told_3 a b c d lo hi X.nv X.ls X.ms _ _ _ _ false p cap w HC
  · exact told_4 a b c d lo hi X.nv X.ls X.ms _ _ _ _ false p cap w HC

theorem told_rep (x : Nd) (hk : x.k = 7) (A : Fx) (hA : bdX A) (h0 : 0 ≤ x.lo) (h1 : x.lo ≤ 32) (hh : x.hi = -1 ∨ (x.lo ≤ x.hi ∧ x.hi ≤ 32)) (ea : Bool) (b o cap : Nat) (w : World) (hb : b < w.heap.size) (ha : fxAt w b o A ea) :
    Calls Try.prog 21 #[ndr x, .slice (some ⟨b, o, none⟩) 1 cap] w (fxPost (repX x.lo x.hi A) ea w) := by
  obtain ⟨k, xa, xb, xc, xd, lo, hi⟩ := x
  simp only at hk h0 h1 hh ⊢
  subst hk
  have HC := fun w' (hB : Below w.heap.size w w') => len_rep xa xb xc xd lo hi A.nv A.ls A.ms _ _ _ _ ea (repX lo hi A).nv (repX lo hi A).ls (repX lo hi A).ms _ _ _ _ false b o cap w' (Nat.lt_of_lt_of_le hb hB.size) (ha.below hB hb) (fun w => cagain_any A hA lo hi h0 h1 hh ea w)
  exact told_7 xa xb xc xd lo hi A.nv A.ls A.ms _ _ _ _ ea _ _ _ _ _ _ _ _ b o cap w hb ha HC

theorem told_cat (x : Nd) (hk : x.k = 5) (A B : Fx) (hA : bdX A) (hB : bdX B) (ea eb : Bool) (b o cap : Nat) (w : World) (hb : b < w.heap.size) (ha : fxAt w b o A ea) (hb' : fxAt w b (o + 8) B eb) :
    Calls Try.prog 21 #[ndr x, .slice (some ⟨b, o, none⟩) 2 cap] w (fxPost (catX A B) (ea || eb) w) := by
  obtain ⟨k, xa, xb, xc, xd, lo, hi⟩ := x
  simp only at hk ⊢
  subst hk
  have HC := fun w' (hB' : Below w.heap.size w w') => len_cat xa xb xc xd lo hi A.nv A.ls A.ms _ _ _ _ ea B.nv B.ls B.ms _ _ _ _ eb (catX A B).nv (catX A B).ls (catX A B).ms _ _ _ _ false b o cap w' (Nat.lt_of_lt_of_le hb hB'.size) (ha.below hB' hb) (hb'.below hB' hb) (fun w => cbeh_any A B hA hB ea eb w)
  cases ea with
  | false => exact told_5f xa xb xc xd lo hi A.nv A.ls A.ms _ _ _ _ B.nv B.ls B.ms _ _ _ _ eb _ _ _ _ _ _ _ _ b o cap w hb ha hb' HC
  | true => exact told_5t xa xb xc xd lo hi A.nv A.ls A.ms _ _ _ _ B.nv B.ls B.ms _ _ _ _ eb _ _ _ _ _ _ _ _ b o cap w hb ha hb' HC

theorem told_or (x : Nd) (hk : x.k = 6) (A B : Fx) (hA : bdX A) (hB : bdX B) (ea eb : Bool) (b o cap : Nat) (w : World) (hb : b < w.heap.size) (ha : fxAt w b o A ea) (hb' : fxAt w b (o + 8) B eb) :
    Calls Try.prog 21 #[ndr x, .slice (some ⟨b, o, none⟩) 2 cap] w (fxPost (orX A B) (ea || eb) w) := by
  obtain ⟨k, xa, xb, xc, xd, lo, hi⟩ := x
  simp only at hk ⊢
  subst hk
  obtain ⟨er, her⟩ := ceit_any A B hA hB ea eb
  have HC := fun w' (hB' : Below w.heap.size w w') => len_or xa xb xc xd lo hi A.nv A.ls A.ms _ _ _ _ ea B.nv B.ls B.ms _ _ _ _ eb (orX A B).nv (orX A B).ls (orX A B).ms _ _ _ _ er b o cap w' (Nat.lt_of_lt_of_le hb hB'.size) (ha.below hB' hb) (hb'.below hB' hb) her
  cases ea with
  | false => exact told_6f xa xb xc xd lo hi A.nv A.ls A.ms _ _ _ _ B.nv B.ls B.ms _ _ _ _ eb _ _ _ _ _ _ _ _ b o cap w hb ha hb' HC
  | true => exact told_6t xa xb xc xd lo hi A.nv A.ls A.ms _ _ _ _ B.nv B.ls B.ms _ _ _ _ eb _ _ _ _ _ _ _ _ b o cap w hb ha hb' HC

/-- What was told of the parts of a list, in a block. -/
def fxsAt (N : Nat → Nd) (L : List Nat) (w : World) (g : Nat) : Prop := ∀ j (h : j < L.length), fxAt w g (j * 8) (fxT (trT N L[j])) (enT (trT N L[j]))
theorem told_at {N : Nat → Nd} {n k : Nat} (ht : tree N n) (hk : k < n) (hw : okW (N k)) (w : World) (g cap : Nat) (hg : g < w.heap.size) (hp : fxsAt N (roots N k) w g) :
    Calls Try.prog 21 #[ndr (N k), .slice (some ⟨g, ((roots N k).length - (ar (N k).k).toNat) * 8, none⟩) (ar (N k).k).toNat cap] w (fxPost (fxT (trT N k)) (enT (trT N k)) w) := by
  obtain ⟨f, hf, hc⟩ := nd_is ht hk
  have hok := ((tree_iff.1 ht).2.2.1 k hk).2
  have bd : ∀ j, j < n → bdX (fxT (trT N j)) := fun j hj => by
    obtain ⟨f, hf, _⟩ := fst_nat ht hj
    exact bdX_T _ (trT_is ht j j (Nat.le_refl _) hj f hf).2.1
  cases hc with
  | leaf _ hkk _ =>
    rw [trT_leaf hkk, show (ar (N k).k).toNat = 0 by rcases hkk with h | h | h | h <;> rw [h] <;> rfl]
    exact told_leaf (N k) hkk hw _ cap w
  | @one p _ _ hkk h1 h2 _ =>
    have hr := roots_fst ht (show p < n by omega) h1
    have ha : (ar (N (p + 1)).k).toNat = 1 := by rw [hkk]; rfl
    have hlen : (roots N (p + 1)).length = (roots N f).length + 1 := by rw [hr]; simp
    have h0 := hp (roots N f).length (by omega)
    have hget : (roots N (p + 1))[(roots N f).length]'(by omega) = p := by simp [hr]
    rw [hget] at h0
    rw [trT_one hkk, ha, hlen, Nat.add_sub_cancel]
    have hrep := okN_rep hok hkk
    exact told_rep (N (p + 1)) hkk _ (bd p (by omega)) hrep.1 hrep.2.1 hrep.2.2 _ g ((roots N f).length * 8) cap w hg h0
  | @two p q _ _ hkk h1 h2 h3 h4 _ =>
    have hr1 := roots_fst ht (show p < n by omega) h1
    have hr := roots_fst ht (show q < n by omega) h3
    rw [hr] at hr1
    have ha : (ar (N (p + 1)).k).toNat = 2 := by rcases hkk with h | h <;> rw [h] <;> rfl
    have hlen : (roots N (p + 1)).length = (roots N f).length + 2 := by rw [hr1]; simp
    have h0 := hp (roots N f).length (by omega)
    have hget : (roots N (p + 1))[(roots N f).length]'(by omega) = q := by simp [hr1]
    rw [hget] at h0
    have h1' := hp ((roots N f).length + 1) (by omega)
    have hget1 : (roots N (p + 1))[(roots N f).length + 1]'(by omega) = p := by simp [hr1]
    rw [hget1, show ((roots N f).length + 1) * 8 = (roots N f).length * 8 + 8 by omega] at h1'
    rw [ha, hlen, Nat.add_sub_cancel]
    rcases hkk with hkk | hkk
    · rw [trT_cat ht hk hkk h1 h2]
      exact told_cat (N (p + 1)) hkk _ _ (bd q (by omega)) (bd p (by omega)) _ _ g ((roots N f).length * 8) cap w hg h0 h1'
    · rw [trT_or ht hk hkk h1 h2]
      exact told_or (N (p + 1)) hkk _ _ (bd q (by omega)) (bd p (by omega)) _ _ g ((roots N f).length * 8) cap w hg h0 h1'

/-- How many states the parts of a list have, in a block. -/
def szsAt (N : Nat → Nd) (L : List Nat) (w : World) (g : Nat) : Prop := ∀ j (h : j < L.length), w.cell? ⟨g, j, none⟩ = some (.int .i64 (szF (trT N L[j])))
def szPost (D : Int) (w : World) (x : Ending) (w' : World) : Prop := x = .returned (.int .i64 D) ∧ Below w.heap.size w w'
theorem states_lf (x : Nd) (hk : x.k = 1 ∨ x.k = 2 ∨ x.k = 3 ∨ x.k = 4) (v : Value) (w : World) : Calls Try.prog 19 #[ndr x, v] w (szPost 2 w) := states_leaf x.k hk _ _ _ _ _ _ v w
theorem states_at {N : Nat → Nd} {n k : Nat} (ht : tree N n) (hk : k < n) (w : World) (g cap : Nat) (hg : g < w.heap.size) (hp : szsAt N (roots N k) w g) :
    Calls Try.prog 19 #[ndr (N k), .slice (some ⟨g, (roots N k).length - (ar (N k).k).toNat, none⟩) (ar (N k).k).toNat cap] w (szPost (szF (trT N k)) w) := by
  obtain ⟨f, hf, hc⟩ := nd_is ht hk
  have hok := ((tree_iff.1 ht).2.2.1 k hk).2
  have bd : ∀ j, j < n → 2 ≤ szF (trT N j) ∧ szF (trT N j) ≤ 1048576 := fun j hj => by
    obtain ⟨f, hf, _⟩ := fst_nat ht hj
    exact sz_bd _ (trT_is ht j j (Nat.le_refl _) hj f hf).2.1
  cases hc with
  | leaf _ hkk _ =>
    rw [sz_leaf hkk]
    exact states_lf (N k) hkk _ w
  | @one p _ _ hkk h1 h2 _ =>
    have hr := roots_fst ht (show p < n by omega) h1
    have ha : (ar (N (p + 1)).k).toNat = 1 := by rw [hkk]; rfl
    have hlen : (roots N (p + 1)).length = (roots N f).length + 1 := by rw [hr]; simp
    have h0 := hp (roots N f).length (by omega)
    have hget : (roots N (p + 1))[(roots N f).length]'(by omega) = p := by simp [hr]
    rw [hget] at h0
    have hsz := sz_one (N := N) hkk
    rw [ha, hlen, Nat.add_sub_cancel, hsz]
    obtain ⟨r1, r2, r3⟩ := okN_rep hok hkk
    obtain ⟨b1, b2⟩ := bd p (by omega)
    generalize szF (trT N p) = x at *
    obtain ⟨y, hy⟩ : ∃ y, N (p + 1) = y := ⟨_, rfl⟩
    rw [hy] at hkk r1 r2 r3 ⊢
    clear hsz hy hok ha
    obtain ⟨kk, ya, yb, yc, yd, lo, hi⟩ := y
    simp only at hkk r1 r2 r3 ⊢
    subst hkk
    have m1 := mul_bd (x := lo) (y := x) r1 r2 (by omega) (by omega)
    have w1 : IntKind.i64.wrap (lo * x) = lo * x := by rw [IntKind.wrap_i64]; omega
    have w2 : IntKind.i64.wrap (2 + lo * x) = 2 + lo * x := by rw [IntKind.wrap_i64]; omega
    by_cases hh : hi = -1
    · subst hh
      have e1 : 2 + lo * x + (if (-1 : Int) = -1 then x + 1 else (-1 - lo) * (x + 1)) = 2 + lo * x + x + 1 := by rw [if_pos rfl]; omega
      rw [e1]
      exact states_inf _ _ _ _ lo g _ cap x _ w hg h0 w1 w2 (by rw [IntKind.wrap_i64]; omega) (by rw [IntKind.wrap_i64]; omega) (fun w => catmost_any _ w)
    · rw [if_neg hh]
      have m2 := mul_bd (x := hi - lo) (y := x + 1) (by omega) (by omega) (by omega) (by omega)
      exact states_rep _ _ _ _ lo hi g _ cap x _ w hg h0 (beq_eq_false_iff_ne.2 hh) w1 w2 (by rw [IntKind.wrap_i64]; omega) (by rw [IntKind.wrap_i64]; omega) (by rw [IntKind.wrap_i64]; omega) (by rw [IntKind.wrap_i64]; omega) (fun w => catmost_any _ w)
  | @two p q _ _ hkk h1 h2 h3 h4 _ =>
    have hr1 := roots_fst ht (show p < n by omega) h1
    have hr := roots_fst ht (show q < n by omega) h3
    rw [hr] at hr1
    have ha : (ar (N (p + 1)).k).toNat = 2 := by rcases hkk with h | h <;> rw [h] <;> rfl
    have hlen : (roots N (p + 1)).length = (roots N f).length + 2 := by rw [hr1]; simp
    have h0 := hp (roots N f).length (by omega)
    have hget : (roots N (p + 1))[(roots N f).length]'(by omega) = q := by simp [hr1]
    rw [hget] at h0
    have h1' := hp ((roots N f).length + 1) (by omega)
    have hget1 : (roots N (p + 1))[(roots N f).length + 1]'(by omega) = p := by simp [hr1]
    rw [hget1] at h1'
    rw [ha, hlen, Nat.add_sub_cancel]
    obtain ⟨b1, b2⟩ := bd p (by omega)
    obtain ⟨b3, b4⟩ := bd q (by omega)
    rcases hkk with hkk | hkk
    · rw [sz_cat ht hk hkk h1 h2]
      unfold ndr
      rw [hkk]
      exact states_cat _ _ _ _ _ _ g _ cap _ _ _ w hg h0 h1' (by rw [IntKind.wrap_i64]; omega) (fun w => catmost_any _ w)
    · rw [sz_or ht hk hkk h1 h2]
      unfold ndr
      rw [hkk]
      exact states_or _ _ _ _ _ _ g _ cap _ _ _ w hg h0 h1' (by rw [IntKind.wrap_i64]; omega) (by rw [IntKind.wrap_i64]; omega) (fun w => catmost_any _ w)
end Go.Proofs.Ytpjmogcphgaimaa

namespace Go.Proofs.Ytpjmogcphgaimaa
open Go.RowKit

theorem eq_set_any (d : Nat) (x0 x1 x2 x3 y0 y1 y2 y3 : Int) (w : World) :
    (Op.equalIn (d + 2) 29 (.agg #[.int .u64 x0, .int .u64 x1, .int .u64 x2, .int .u64 x3]) (.agg #[.int .u64 y0, .int .u64 y1, .int .u64 y2, .int .u64 y3])).run Try.prog w = .ok (x0 == y0 && x1 == y1 && x2 == y2 && x3 == y3) w := by
  have hs : ∀ w, (sizeOf 27).run Try.prog w = .ok 1 w := fun _ => by kernel_rfl
  have hp : ∀ (xs : Array Value) (i : Nat) (v : Value) (w : World), xs[i]? = some v → (part 27 xs i).run Try.prog w = .ok v w := by
    intro xs i v w hv
    simp [part, go_sem, hv, isAgg, run_underlying Try.underlying27]
  have e : ∀ (x y : Int) (w : World), (Op.equalIn (d + 1) 27 (.int .u64 x) (.int .u64 y)).run Try.prog w = .ok (x == y) w := fun x y w => by
    rw [run_equalIn_int w d 27 .u64 .u64 x y Try.underlying27]
  rw [show d + 2 = (d + 1) + 1 from rfl, Op.equalIn]
  simp only [Sem.run_bind, run_underlying Try.underlying29, Result.andThen_ok, hs, Std.Legacy.Range.forIn_eq_forIn_range', Std.Legacy.Range.size]
  by_cases h0 : x0 = y0 <;> by_cases h1 : x1 = y1 <;> by_cases h2 : x2 = y2 <;> by_cases h3 : x3 = y3 <;> simp [List.range', hp, e, h0, h1, h2, h3]

theorem eq_node (k x0 x1 x2 x3 l h k' y0 y1 y2 y3 l' h' : Int) (w : World) :
    (Op.equalIn 10000 44 (.agg #[.int .i64 k, .int .u64 x0, .int .u64 x1, .int .u64 x2, .int .u64 x3, .int .i64 l, .int .i64 h]) (.agg #[.int .i64 k', .int .u64 y0, .int .u64 y1, .int .u64 y2, .int .u64 y3, .int .i64 l', .int .i64 h'])).run Try.prog w =
      .ok (k == k' && ((x0 == y0 && x1 == y1 && x2 == y2 && x3 == y3) && (l == l' && h == h'))) w := by
  rw [show (10000 : Nat) = 9999 + 1 from rfl, run_equalIn_struct w 9999 44 _ _ (by kernel_rfl) (by kernel_rfl)]
  have hs : ∀ (b c d e f g h : Int) (w : World), (part 29 #[.int .i64 b, .int .u64 c, .int .u64 d, .int .u64 e, .int .u64 f, .int .i64 g, .int .i64 h] 1).run Try.prog w = .ok (.agg #[.int .u64 c, .int .u64 d, .int .u64 e, .int .u64 f]) w := fun _ _ _ _ _ _ _ _ => by kernel_rfl
  have h0 : ∀ (b c d e f g h : Int) (w : World), (part 3 #[.int .i64 b, .int .u64 c, .int .u64 d, .int .u64 e, .int .u64 f, .int .i64 g, .int .i64 h] 0).run Try.prog w = .ok (.int .i64 b) w := fun _ _ _ _ _ _ _ _ => by kernel_rfl
  have h5 : ∀ (b c d e f g h : Int) (w : World), (part 3 #[.int .i64 b, .int .u64 c, .int .u64 d, .int .u64 e, .int .u64 f, .int .i64 g, .int .i64 h] 5).run Try.prog w = .ok (.int .i64 g) w := fun _ _ _ _ _ _ _ _ => by kernel_rfl
  have h6 : ∀ (b c d e f g h : Int) (w : World), (part 3 #[.int .i64 b, .int .u64 c, .int .u64 d, .int .u64 e, .int .u64 f, .int .i64 g, .int .i64 h] 6).run Try.prog w = .ok (.int .i64 h) w := fun _ _ _ _ _ _ _ _ => by kernel_rfl
  have ei : ∀ (x y : Int) (w : World), (Op.equalIn 9999 3 (.int .i64 x) (.int .i64 y)).run Try.prog w = .ok (x == y) w := fun x y w => run_equalIn_int w 9998 3 .i64 .i64 x y Try.underlying3
  have es : ∀ (a b c d e f g h : Int) (w : World), (Op.equalIn 9999 29 (.agg #[.int .u64 a, .int .u64 b, .int .u64 c, .int .u64 d]) (.agg #[.int .u64 e, .int .u64 f, .int .u64 g, .int .u64 h])).run Try.prog w = .ok (a == e && b == f && c == g && d == h) w := fun a b c d e f g h w => eq_set_any 9997 a b c d e f g h w
  simp only [Program.fieldsOf, Try.underlying44]
  cases ek : (k == k') <;> cases eS : (x0 == y0 && x1 == y1 && x2 == y2 && x3 == y3) <;> cases el : (l == l') <;> cases eh : (h == h') <;> simp [Op.eqFields, hs, h0, h5, h6, ei, es, ek, eS, el, eh]

end Go.Proofs.Ytpjmogcphgaimaa
