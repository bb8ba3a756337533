/-
  The tokens of a text, as the fifth layer reads them.
  The builder of parse in memory; the walks of next, partNext and take.
-/
import Derived.Test.YtiahgcgpakgeeaaGreatDoorPk7
import Derived.Test.YtiahgcgpakgeeaaGreatDoorPk33
import Derived.Test.YtiahgcgpakgeeaaGreatDoorPk38
import Derived.Test.YtiahgcgpakgeeaaGreatDoorPk2
namespace Go.Proofs.YtiahgcgpakgeeaaGreatDoor
open Go.RowKit

def tn_of (r : Tka) : Tn := ⟨r.1, r.2.1, (wd r.2.2.1 0 : Int), (wd r.2.2.1 1 : Int), (wd r.2.2.1 2 : Int), (wd r.2.2.1 3 : Int), r.2.2.2.1, r.2.2.2.2⟩
def tof (l : List Tka) (j : Nat) : Tn := match l[j]? with | some r => tn_of r | none => ⟨0, 0, 0, 0, 0, 0, 0, 0⟩
theorem tof_get (l : List Tka) (j : Nat) (h : j < l.length) : tof l j = tn_of l[j] := by unfold tof; rw [List.getElem?_eq_getElem h]
/-- A row of tokens that a call made: none, or as many as its cells are. -/
theorem toks_own {w : World} {base : Nat} {v : Value} {l : List Tka} (h : w.ownsRow base 40 8 v l.length (tvs l)) :
    (v = .slice none 0 0 ∧ l.length = 0) ∨ ∃ g cap, v = .slice (some ⟨g, 0, none⟩) l.length cap ∧ l.length ≤ cap ∧ rdTn w g 0 l.length (tof l) := by
  have hr := rdT_of_owns h
  rcases h.2 with ⟨rfl, h0⟩ | ⟨g, cap, cur, rfl, _, _, hcap, _, _, _⟩
  · exact .inl ⟨rfl, h0⟩
  · rcases hr with ⟨h0, h1⟩ | ⟨b, off, cap', hv, hb, hc⟩
    · cases h0
    · simp only [Value.slice.injEq, Option.some.injEq, Addr.mk.injEq, true_and, and_true] at hv
      obtain ⟨⟨rfl, rfl⟩, rfl⟩ := hv
      exact .inr ⟨g, cap, rfl, hcap, fun j hj => ⟨hb, by rw [tof_get l j hj]; exact hc j hj⟩⟩
/-- What Pattern tells. -/
def patF (p : ByteArray) : Option (List Nd) × Int × Int :=
  if 200 < p.size then (none, 0, 4) else match (toks p).1 with | some l => ofF (tof l) l.length p.size | none => (none, ((toks p).2 : Int), 3)
theorem ofPost.form {r : Option (List Nd) × Int × Int} {w w' : World} {e : Ending} (h : ofPost r w e w') : ∃ v, e = .returned (.tuple #[v, .int .i64 r.2.1, .int .i64 r.2.2]) := by
  obtain ⟨h1, h2, -⟩ := h
  cases hr : r.1 with
  | none => exact ⟨_, h2 hr⟩
  | some l => obtain ⟨v, hv, -⟩ := h1 l hr; exact ⟨v, hv⟩
theorem ofPost.lift {r : Option (List Nd) × Int × Int} {w w1 w' : World} {e : Ending} (h : ofPost r w1 e w') (hb : Below w.heap.size w w1) : ofPost r w e w' :=
  ⟨fun l hl => by obtain ⟨v, hv, ho⟩ := h.1 l hl; exact ⟨v, hv, owns_mono ho hb.size⟩, h.2.1, hb.trans (h.2.2.mono hb.size)⟩
end Go.Proofs.YtiahgcgpakgeeaaGreatDoor

namespace Go.Proofs.YtiahgcgpakgeeaaGreatDoor
open Go.RowKit

/-- Block B holds the builder: what is not yet in the tree from place i on, and the first 513 nodes of L. -/
def bld (w : World) (B b off n i : Nat) (L : List Nd) : Prop :=
  ∃ (p : Option Addr) (k c : Nat) (v : Value), i + k = n ∧ k ≤ c ∧ (0 < k → p = some ⟨b, off + i * 8, none⟩) ∧
    w.heap[B]? = some (.cells #[.slice p k c, v] 54 (0, 0)) ∧ w.ownsRow (B + 1) 38 7 v (L.take 513).length (nds (L.take 513))
theorem blk_cells {w : World} {B : Nat} {x y : Value} (h : w.heap[B]? = some (.cells #[x, y] 54 (0, 0))) :
    w.cell? ⟨B, 0, none⟩ = some x ∧ w.cell? ⟨B, 1, none⟩ = some y ∧ w.frozen? ⟨B, 0, none⟩ = false ∧ w.frozen? ⟨B, 1, none⟩ = false ∧ B < w.heap.size := by
  refine ⟨?_, ?_, ?_, ?_, lt_of_block h⟩ <;> simp [World.cell?, World.frozen?, h]
/-- Block B of two cells; the row that lies behind it. -/
def bk (w : World) (B : Nat) (x v : Value) (M : List Nd) : Prop := w.heap[B]? = some (.cells #[x, v] 54 (0, 0)) ∧ w.ownsRow (B + 1) 38 7 v M.length (nds M)
theorem bk.alloc {w : World} {B : Nat} {x v : Value} {M : List Nd} (h : bk w B x v M) (o : Obj) : bk (w.alloc o) B x v M := ⟨(Below.heap_alloc w o B (lt_of_block h.1)).trans h.1, h.2.alloc o⟩
theorem bk.set0 {w : World} {B : Nat} {x v : Value} {M : List Nd} (h : bk w B x v M) (y : Value) : bk (w.setCell ⟨B, 0, none⟩ y) B y v M :=
  ⟨by rw [heap_setCell_same w B 0 _ _ y h.1]; simp, ownsRow_setCell_below h.2 (Nat.lt_succ_self B) y⟩
theorem bk.set1 {w : World} {B : Nat} {x v y : Value} {M : List Nd} (h : w.heap[B]? = some (.cells #[x, v] 54 (0, 0))) (ho : w.ownsRow (B + 1) 38 7 y M.length (nds M)) : bk (w.setCell ⟨B, 1, none⟩ y) B x y M :=
  ⟨by rw [heap_setCell_same w B 1 _ _ y h]; simp, ownsRow_setCell_below ho (Nat.lt_succ_self B) y⟩
theorem bk.below {w w' : World} {B : Nat} {x v : Value} {M : List Nd} (h : bk w B x v M) (hb : Below w.heap.size w w') : bk w' B x v M := ⟨(hb.block B (lt_of_block h.1)).trans h.1, owns_below h.2 hb⟩
theorem bld.mk {w : World} {B b off n i : Nat} {L : List Nd} {p : Option Addr} {k c : Nat} {v : Value} (h1 : i + k = n) (h2 : k ≤ c) (h3 : 0 < k → p = some ⟨b, off + i * 8, none⟩) (h : bk w B (.slice p k c) v (L.take 513)) : bld w B b off n i L := ⟨p, k, c, v, h1, h2, h3, h.1, h.2⟩
theorem bld.lt {w : World} {B b off n i : Nat} {L : List Nd} (h : bld w B b off n i L) : B < w.heap.size := by
  obtain ⟨p, k, c, v, -, -, -, h4, -⟩ := h
  exact lt_of_block h4
/-- The kind of the next token; 0, if there is none. -/
def nxK (T : Nat → Tn) (n i : Nat) : Int := if i < n then (T i).k else 0

set_option maxRecDepth 100000 in
set_option maxHeartbeats 1000000 in
theorem next_any (T : Nat → Tn) (n B b off i : Nat) (L : List Nd) (w : World) (hr : rdTn w b off n T) (h : bld w B b off n i L) :
    Calls Tryz.prog 32 #[.pointer (some ⟨B, 0, none⟩)] w fun e w' => e = .returned (.int .i64 (nxK T n i)) ∧ w' = w := by
  obtain ⟨p, k, c, v, h1, h2, h3, h4, -⟩ := h
  obtain ⟨c0, c1, f0, f1, hB⟩ := blk_cells h4
  clear h4 f0 f1
  rcases Nat.eq_zero_or_pos k with rfl | hk
  · have hx : nxK T n i = 0 := by unfold nxK; rw [if_neg (by omega)]
    rw [hx]
    clear hx
    go_enter Tryz.func32, Tryz.ntmps32
    go_wp2
    go_ret
    exact ⟨rfl, rfl⟩
  · have hx : nxK T n i = (T i).k := by unfold nxK; rw [if_pos (by omega)]
    obtain ⟨x, hkx⟩ : ∃ x, (T i).k = x := ⟨_, rfl⟩
    have hc := (hr i (by omega)).2.1
    rw [hx, hkx]
    rw [hkx] at hc
    obtain rfl := h3 hk
    have d0 : ((k : Int) == 0) = false := beq_eq_false_iff_ne.2 (by omega)
    have d1 : (0 : Int) < (k : Int) := by omega
    clear hx hkx h3 hr c1
    go_enter Tryz.func32, Tryz.ntmps32
    go_wp2
    go_ret
    exact ⟨rfl, rfl⟩

/-- Does a part begin with the next token? -/
def ptK (x : Int) : Bool := x == 1 || x == 6 || x == 7 || x == 3
set_option maxRecDepth 100000 in
set_option maxHeartbeats 1000000 in
theorem partNext_any (T : Nat → Tn) (n B b off i : Nat) (L : List Nd) (w : World) (hr : rdTn w b off n T) (h : bld w B b off n i L) :
    Calls Tryz.prog 50 #[.pointer (some ⟨B, 0, none⟩)] w fun e w' => e = .returned (.bool (ptK (nxK T n i))) ∧ w' = w := by
  have HQ := Lib.hid (next_any T n B b off i L w hr h)
  obtain ⟨x, hx⟩ : ∃ x, nxK T n i = x := ⟨_, rfl⟩
  rw [hx] at HQ ⊢
  clear hx hr h
  go_enter Tryz.func50, Tryz.ntmps50
  go_wp2_with fail
  refine HQ.out.mono ?_
  rintro e w1 ⟨rfl, rfl⟩
  clear HQ
  by_cases c1 : x = 1
  · subst c1; go_wp2; go_ret; exact ⟨rfl, rfl⟩
  by_cases c2 : x = 6
  · subst c2; go_wp2; go_ret; exact ⟨rfl, rfl⟩
  by_cases c3 : x = 7
  · subst c3; go_wp2; go_ret; exact ⟨rfl, rfl⟩
  by_cases c4 : x = 3
  · subst c4; go_wp2; go_ret; exact ⟨rfl, rfl⟩
  have e1 : (x == 1) = false := beq_eq_false_iff_ne.2 c1
  have e2 : (x == 6) = false := beq_eq_false_iff_ne.2 c2
  have e3 : (x == 7) = false := beq_eq_false_iff_ne.2 c3
  have e4 : (x == 3) = false := beq_eq_false_iff_ne.2 c4
  have hp : ptK x = false := by unfold ptK; rw [e1, e2, e3, e4]; rfl
  have HP := Lib.hid hp
  clear c1 c2 c3 c4 hp
  go_wp2; go_ret; exact ⟨by rw [HP.out] <;> rfl, rfl⟩

/-- A token as a value. -/
def tnv (t : Tn) : Value := .agg #[.int .i64 t.k, .int .i64 t.p, .int .u64 t.a, .int .u64 t.b, .int .u64 t.c, .int .u64 t.d, .int .i64 t.lo, .int .i64 t.hi]
theorem tn_new (w : World) (x : Tn) : tnAt (w.alloc (.cells #[.int .i64 x.k, .int .i64 x.p, .int .u64 x.a, .int .u64 x.b, .int .u64 x.c, .int .u64 x.d, .int .i64 x.lo, .int .i64 x.hi] 40)) w.heap.size 0 x := by
  unfold tnAt
  simp
theorem tn_two (w : World) (N : Nat) (hN : N = w.heap.size) (x : Tn) : tnAt ((w.alloc (.cells #[.int .i64 x.k, .int .i64 x.p, .int .u64 x.a, .int .u64 x.b, .int .u64 x.c, .int .u64 x.d, .int .i64 x.lo, .int .i64 x.hi] 40)).alloc (.cells #[.int .i64 x.k, .int .i64 x.p, .int .u64 x.a, .int .u64 x.b, .int .u64 x.c, .int .u64 x.d, .int .i64 x.lo, .int .i64 x.hi] 40)) N 0 x ∧ tnAt ((w.alloc (.cells #[.int .i64 x.k, .int .i64 x.p, .int .u64 x.a, .int .u64 x.b, .int .u64 x.c, .int .u64 x.d, .int .i64 x.lo, .int .i64 x.hi] 40)).alloc (.cells #[.int .i64 x.k, .int .i64 x.p, .int .u64 x.a, .int .u64 x.b, .int .u64 x.c, .int .u64 x.d, .int .i64 x.lo, .int .i64 x.hi] 40)) (N + 1) 0 x := by
  subst hN
  refine ⟨(tn_new w x).below ((Below.refl (w.alloc (.cells #[.int .i64 x.k, .int .i64 x.p, .int .u64 x.a, .int .u64 x.b, .int .u64 x.c, .int .u64 x.d, .int .i64 x.lo, .int .i64 x.hi] 40)).heap.size (w.alloc (.cells #[.int .i64 x.k, .int .i64 x.p, .int .u64 x.a, .int .u64 x.b, .int .u64 x.c, .int .u64 x.d, .int .i64 x.lo, .int .i64 x.hi] 40))).alloc (Nat.le_refl _) _) (by simp), ?_⟩
  have h := tn_new (w.alloc (.cells #[.int .i64 x.k, .int .i64 x.p, .int .u64 x.a, .int .u64 x.b, .int .u64 x.c, .int .u64 x.d, .int .i64 x.lo, .int .i64 x.hi] 40)) x
  simpa using h
set_option maxRecDepth 100000 in
set_option maxHeartbeats 1000000 in
theorem take_any (T : Nat → Tn) (n B b off i : Nat) (L : List Nd) (w : World) (hn : n ≤ 1000) (hi : i < n) (hr : rdTn w b off n T) (h : bld w B b off n i L) :
    Calls Tryz.prog 33 #[.pointer (some ⟨B, 0, none⟩)] w fun e w' => e = .returned (tnv (T i)) ∧ Below B w w' ∧ bld w' B b off n (i + 1) L := by
  obtain ⟨p, k, c, v, h1, h2, h3, h4, h5⟩ := h
  obtain ⟨c0, c1, f0, f1, hB⟩ := blk_cells h4
  obtain rfl := h3 (by omega)
  obtain ⟨p0, p1, p2, p3, p4, p5, p6, p7⟩ := (hr i hi).2
  have hbb := (hr i hi).1
  have HK := Lib.hid (show bk w B (.slice (some ⟨b, off + i * 8, none⟩) k c) v (L.take 513) from ⟨h4, h5⟩)
  have d1 : (0 : Int) < (k : Int) := by omega
  have d2 : (1 : Int) ≤ (k : Int) := by omega
  obtain ⟨k', rfl⟩ : ∃ k', k = k' + 1 := ⟨k - 1, by omega⟩
  obtain ⟨c', rfl⟩ : ∃ c', c = c' + 1 := ⟨c - 1, by omega⟩
  clear h3 h4 h5 hr
  unfold tnv
  go_enter Tryz.func33, Tryz.ntmps33
  go_wp2
  case inl =>
    have hk0 : k' = 0 := by omega
    subst h hk0
    obtain ⟨⟨z0, z1, z2, z3, z4, z5, z6, z7⟩, -⟩ := tn_two (w.setCell ⟨B, 0, none⟩ (.slice (some ⟨b, off + i * 8, none⟩) 0 0)) w.heap.size (by simp [World.setCell]) (T i)
    simp only [Nat.zero_add] at z0 z1 z2 z3 z4 z5 z6 z7
    refine bodyPost_ret (v := .agg #[.int .i64 (T i).k, .int .i64 (T i).p, .int .u64 (T i).a, .int .u64 (T i).b, .int .u64 (T i).c, .int .u64 (T i).d, .int .i64 (T i).lo, .int .i64 (T i).hi]) (by simp [results, Tryz.results33, go_sem, z0, z1, z2, z3, z4, z5, z6, z7]) rfl ⟨rfl, ?_, ?_⟩
    · exact (((Below.refl B w).setCell (Nat.le_refl B) _).alloc (by simp [World.setCell]; omega) _).alloc (by simp [World.setCell]; omega) _
    · exact bld.mk (by omega) (Nat.le_refl _) (fun h => absurd h (by omega)) (((HK.out.set0 _).alloc _).alloc _)
  case inr =>
    obtain ⟨⟨z0, z1, z2, z3, z4, z5, z6, z7⟩, -⟩ := tn_two (w.setCell ⟨B, 0, none⟩ (.slice (some ⟨b, off + i * 8 + 8, none⟩) k' c')) w.heap.size (by simp [World.setCell]) (T i)
    simp only [Nat.zero_add] at z0 z1 z2 z3 z4 z5 z6 z7
    refine bodyPost_ret (v := .agg #[.int .i64 (T i).k, .int .i64 (T i).p, .int .u64 (T i).a, .int .u64 (T i).b, .int .u64 (T i).c, .int .u64 (T i).d, .int .i64 (T i).lo, .int .i64 (T i).hi]) (by simp [results, Tryz.results33, go_sem, z0, z1, z2, z3, z4, z5, z6, z7]) rfl ⟨rfl, ?_, ?_⟩
    · exact (((Below.refl B w).setCell (Nat.le_refl B) _).alloc (by simp [World.setCell]; omega) _).alloc (by simp [World.setCell]; omega) _
    · exact bld.mk (by omega) (by omega) (fun _ => by rw [show off + (i + 1) * 8 = off + i * 8 + 8 by omega]) (((HK.out.set0 _).alloc _).alloc _)

/-- A node as a value. -/
def ndv (x : Nd) : Value := .agg #[.int .i64 x.k, .int .u64 x.a, .int .u64 x.b, .int .u64 x.c, .int .u64 x.d, .int .i64 x.lo, .int .i64 x.hi]
end Go.Proofs.YtiahgcgpakgeeaaGreatDoor
