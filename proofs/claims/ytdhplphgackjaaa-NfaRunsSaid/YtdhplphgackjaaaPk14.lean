/-
  The walk of the ninth reference's Make at a node that is repeated, and by recursion.
  Two nodes are the same just if all that they hold is; the walk of the reference's Same at two lists that read alike.
-/
import Derived.Test.YtdhplphgackjaaaPk11
import Derived.Test.YtdhplphgackjaaaPk12
import Derived.Test.YtdhplphgackjaaaPk13
import Derived.Test.YtdhplphgackjaaaPk5
namespace Go.Proofs.Ytdhplphgackjaaa
open Go.RowKit

theorem pt3_grown (w : World) (b : Nat) (v : Value) (f l : Int) : w.grownBy (((w.setCell ⟨b, 0, none⟩ v).setCell ⟨b, 1, none⟩ (.int .i64 f)).setCell ⟨b, 2, none⟩ (.int .i64 l)) (some b) :=
  ((grown_setCell w b 0 v).trans (grown_setCell _ b 1 _)).trans (grown_setCell _ b 2 _)
set_option maxRecDepth 100000 in
set_option maxHeartbeats 4000000 in
theorem make_rep (b off n cap p : Nat) (N : Nat → Nd) (hn : n ≤ 512) (hj : p + 1 < n) (hf : 0 ≤ fst N (p + 1)) (hok : okN (N (p + 1)) = true) (hk : (N (p + 1)).k = 7) (HM : MkC N n b off cap p) : MkC N n b off cap (p + 1) := by
  intro sp c L w hlen hs hr
  obtain ⟨l1, l2, l3⟩ := okN_rep hok hk
  have hkk : kids N (p + 1) = [(p : Int)] := by
    unfold kids
    rw [hk]
    simp [ar]
  have hkid := rkids_is b off n cap (p + 1) N (by omega) hj hf
  rw [hkk] at hkid
  have htr : trT N (p + 1) = .rep (trT N p) (N (p + 1)).lo (N (p + 1)).hi := trT_one hk
  rw [htr] at hlen ⊢
  have HRW := Lib.hid hr
  have HSW := Lib.hid hs
  have i0 : (0 : Int) ≤ ((p + 1 : Nat) : Int) := by omega
  have i1 : ((p + 1 : Nat) : Int) < (n : Int) := by omega
  have H0 := Lib.hid (isPt.new w (.slice none 0 0) 0 0)
  have HA := Lib.hid ((Below.refl w.heap.size w).alloc (Nat.le_refl _) (.cells #[.slice none 0 0, .int .i64 0, .int .i64 0] 67))
  have HKd := Lib.hid (hkid (w.alloc (.cells #[.slice none 0 0, .int .i64 0, .int .i64 0] 67)) (HRW.out.below HA.out))
  have HMh := Lib.hid HM; have HLEN := Lib.hid hlen
  obtain ⟨x, hx⟩ : ∃ x, N (p + 1) = x := ⟨_, rfl⟩
  have HNX := Lib.hid hx
  rw [hx] at l1 l2 l3 hk
  have HKX := Lib.hid hk
  have HLO : Hid (0 ≤ x.lo ∧ x.lo ≤ 32 ∧ (x.hi = -1 ∨ (x.lo ≤ x.hi ∧ x.hi ≤ 32))) := Lib.hid ⟨l1, l2, l3⟩
  rw [hx] at HLEN ⊢
  clear hs hr hkid hkk HM hlen htr hf hok hx hk l1 l2 l3
  go_enter Try.func29, Try.ntmps29
  go_wp2_with fail
  refine HKd.out.mono ?_
  rintro e w1 ⟨kv, rfl, hkv, hb⟩
  obtain ⟨kb, kc, rfl, hkl, k0⟩ : ∃ kb kc, kv = .slice (some ⟨kb, 0, none⟩) 1 kc ∧ kb < w1.heap.size ∧ w1.cell? ⟨kb, 0, none⟩ = some (.int .i64 (p : Int)) := by
    rcases hkv with ⟨p', c', rfl, h⟩ | ⟨g, c', rfl, hl, hc⟩
    · cases h
    · exact ⟨g, c', rfl, hl, hc 0 (by simp)⟩
  have HB1 : Hid (Below w.heap.size w w1) := Lib.hid (below_two HA.out (hb.mono (by have := HA.out.size; omega)))
  have H1 := Lib.hid (H0.out.below hb H0.out.lt)
  obtain ⟨hbl, r0, r1, r2, r3, r4, r5, r6⟩ := (HRW.out.below HB1.out) (p + 1) hj
  rw [HNX.out] at r0 r1 r2 r3 r4 r5 r6
  rw [HKX.out] at r0
  have HS : Hid (∀ w', Below w1.heap.size w1 w' → (w'.cell? ⟨b, off + (p + 1) * 7, none⟩ = some (.int .i64 7) ∧ w'.cell? ⟨b, off + (p + 1) * 7 + 1, none⟩ = some (.int .u64 x.a) ∧ w'.cell? ⟨b, off + (p + 1) * 7 + 2, none⟩ = some (.int .u64 x.b) ∧ w'.cell? ⟨b, off + (p + 1) * 7 + 3, none⟩ = some (.int .u64 x.c) ∧ w'.cell? ⟨b, off + (p + 1) * 7 + 4, none⟩ = some (.int .u64 x.d) ∧
      w'.cell? ⟨b, off + (p + 1) * 7 + 5, none⟩ = some (.int .i64 x.lo) ∧ w'.cell? ⟨b, off + (p + 1) * 7 + 6, none⟩ = some (.int .i64 x.hi) ∧ w'.cell? ⟨kb, 0, none⟩ = some (.int .i64 (p : Int)))) := Lib.hid fun w' h => by
    have e : ∀ o, w'.cell? ⟨b, o, none⟩ = w1.cell? ⟨b, o, none⟩ := fun o => h.cell (p := ⟨b, o, none⟩) hbl
    rw [e, e, e, e, e, e, e, h.cell (p := ⟨kb, 0, none⟩) hkl]
    exact ⟨r0, r1, r2, r3, r4, r5, r6, k0⟩
  have hkne : kb ≠ w.heap.size := fun e => by
    rw [e, H1.out.cells.1] at k0; cases k0
  have hbne : b ≠ w.heap.size := by have := (HRW.out (p + 1) hj).1; omega
  have HS3 : Hid (∀ w', Below w1.heap.size w1 w' → ∀ v f l, ((((w'.setCell ⟨w.heap.size, 0, none⟩ v).setCell ⟨w.heap.size, 1, none⟩ (.int .i64 f)).setCell ⟨w.heap.size, 2, none⟩ (.int .i64 l)).cell? ⟨b, off + (p + 1) * 7, none⟩ = some (.int .i64 7) ∧ (((w'.setCell ⟨w.heap.size, 0, none⟩ v).setCell ⟨w.heap.size, 1, none⟩ (.int .i64 f)).setCell ⟨w.heap.size, 2, none⟩ (.int .i64 l)).cell? ⟨b, off + (p + 1) * 7 + 1, none⟩ = some (.int .u64 x.a) ∧
      (((w'.setCell ⟨w.heap.size, 0, none⟩ v).setCell ⟨w.heap.size, 1, none⟩ (.int .i64 f)).setCell ⟨w.heap.size, 2, none⟩ (.int .i64 l)).cell? ⟨b, off + (p + 1) * 7 + 2, none⟩ = some (.int .u64 x.b) ∧ (((w'.setCell ⟨w.heap.size, 0, none⟩ v).setCell ⟨w.heap.size, 1, none⟩ (.int .i64 f)).setCell ⟨w.heap.size, 2, none⟩ (.int .i64 l)).cell? ⟨b, off + (p + 1) * 7 + 3, none⟩ = some (.int .u64 x.c) ∧
      (((w'.setCell ⟨w.heap.size, 0, none⟩ v).setCell ⟨w.heap.size, 1, none⟩ (.int .i64 f)).setCell ⟨w.heap.size, 2, none⟩ (.int .i64 l)).cell? ⟨b, off + (p + 1) * 7 + 4, none⟩ = some (.int .u64 x.d) ∧ (((w'.setCell ⟨w.heap.size, 0, none⟩ v).setCell ⟨w.heap.size, 1, none⟩ (.int .i64 f)).setCell ⟨w.heap.size, 2, none⟩ (.int .i64 l)).cell? ⟨b, off + (p + 1) * 7 + 5, none⟩ = some (.int .i64 x.lo) ∧
      (((w'.setCell ⟨w.heap.size, 0, none⟩ v).setCell ⟨w.heap.size, 1, none⟩ (.int .i64 f)).setCell ⟨w.heap.size, 2, none⟩ (.int .i64 l)).cell? ⟨b, off + (p + 1) * 7 + 6, none⟩ = some (.int .i64 x.hi) ∧ (((w'.setCell ⟨w.heap.size, 0, none⟩ v).setCell ⟨w.heap.size, 1, none⟩ (.int .i64 f)).setCell ⟨w.heap.size, 2, none⟩ (.int .i64 l)).cell? ⟨kb, 0, none⟩ = some (.int .i64 (p : Int)))) := Lib.hid fun w' h v f l => by
    obtain ⟨x0, x1, x2, x3, x4, x5, x6, x7⟩ := HS.out w' h
    have g := pt3_grown w' w.heap.size v f l
    have hb : some b ≠ some w.heap.size := by simpa using hbne
    exact ⟨g.cell x0 hb, g.cell x1 hb, g.cell x2 hb, g.cell x3 hb, g.cell x4 hb, g.cell x5 hb, g.cell x6 hb, g.cell x7 (by simpa using hkne)⟩
  have HD : Hid (Below w1.heap.size w1 w1.drew) := Lib.hid (Below.refl _ _).drew
  have HC := Lib.hid (repeat_is b off n cap p N HMh.out 7 x.a x.b x.c x.d x.lo x.hi HLO.out.1 HLO.out.2.1 HLO.out.2.2 sp c L w1.drew HLEN.out (HSW.out.below (HB1.out.drew)) (HRW.out.below HB1.out.drew))
  have HPB0 := Lib.hid (H1.out.below HD.out H1.out.lt)
  clear hkv hb H0 HA HKd HMh HSW HRW
  go_wp2_with fail
  go_region_held_law (fun w' => w'.cell? ⟨b, off + (p + 1) * 7, none⟩ = some (.int .i64 7) ∧ w'.cell? ⟨b, off + (p + 1) * 7 + 1, none⟩ = some (.int .u64 x.a) ∧ w'.cell? ⟨b, off + (p + 1) * 7 + 2, none⟩ = some (.int .u64 x.b) ∧ w'.cell? ⟨b, off + (p + 1) * 7 + 3, none⟩ = some (.int .u64 x.c) ∧ w'.cell? ⟨b, off + (p + 1) * 7 + 4, none⟩ = some (.int .u64 x.d) ∧
      w'.cell? ⟨b, off + (p + 1) * 7 + 5, none⟩ = some (.int .i64 x.lo) ∧ w'.cell? ⟨b, off + (p + 1) * 7 + 6, none⟩ = some (.int .i64 x.hi) ∧ w'.cell? ⟨kb, 0, none⟩ = some (.int .i64 (p : Int)))
    (first | with_reducible exact HS.out _ HD.out | exact HS.out _ HD.out | exact HS.out _ HB4.out | exact HS3.out _ HB4.out _ _ _)
    (first
      | (go_at_call 48; (with_reducible refine HC.out.mono ?_); rintro e w4 ⟨gb, cb, rfl, hob, hb4⟩; have HB4 := Lib.hid (HD.out.trans (hb4.mono HD.out.size)); have HOB := Lib.hid hob; have HPB := Lib.hid (HPB0.out.below hb4 HPB0.out.lt); obtain ⟨z0, z1, z2⟩ := HPB.out.cells; obtain ⟨y0, y1, y2⟩ := HPB.out.free; clear hb4 hob))
  all_goals
    have hne : w.heap.size ≠ gb := by have := HOB.out.lt.1; have := HPB0.out.lt; omega
    have HBw : Hid (Below w.heap.size w w4) := Lib.hid (HB1.out.trans (HB4.out.mono HB1.out.size))
    obtain ⟨Y, hY⟩ : ∃ Y, mkF (.rep (trT N p) x.lo x.hi) L = Y := ⟨_, rfl⟩
    have HO4 := Lib.hid (HOB.out.mono (show w.heap.size ≤ w1.drew.heap.size from HB1.out.size))
    rw [hY] at HO4 ⊢
    have HOe := Lib.hid (HO4.out.pt3 hne (.slice (some ⟨gb, 0, none⟩) Y.1.length cb) (Y.2.1 : Int) (Y.2.2 : Int))
    have HBe := Lib.hid (below_pt3 HBw.out (Nat.le_refl _) (.slice (some ⟨gb, 0, none⟩) Y.1.length cb) (Y.2.1 : Int) (Y.2.2 : Int))
    have Z := Lib.hid (HPB.out.stored (.slice (some ⟨gb, 0, none⟩) Y.1.length cb) (Y.2.1 : Int) (Y.2.2 : Int)).cells
    have HYY := Lib.hid hY
    clear hY HOB HPB HPB0 HO4 HBw HB4 HC HD HS HS3 z0 z1 z2 y0 y1 y2
    go_wp2_with fail
    refine bodyPost_ret (v := .agg #[.slice (some ⟨gb, 0, none⟩) Y.1.length cb, .int .i64 (Y.2.1 : Int), .int .i64 (Y.2.2 : Int)]) (by simp [results, Try.results29, go_sem, Z.out]) rfl ?_
    rw [HYY.out]
    exact ⟨gb, cb, rfl, HOe.out, HBe.out⟩

theorem make_any (b off n cap : Nat) (N : Nat → Nd) (ht : tree N n) : ∀ u j, j < u → j < n → MkC N n b off cap j := by
  intro u
  induction u with
  | zero => intro j h; omega
  | succ u ih =>
    intro j hju hj
    have hn := ht.1
    have hok := ((tree_iff.1 ht).2.2.1 j hj)
    obtain ⟨f, hf, hc⟩ := nd_is ht hj
    cases hc with
    | leaf _ hk _ => exact make_leaf b off n cap j N hn hj hok.1 hk
    | @one p _ hi hk h1 h2 _ => exact make_rep b off n cap p N hn hi hok.1 hok.2 hk (ih p (by omega) (by omega))
    | @two p q _ hi hk h1 h2 h3 h4 _ => exact make_two b off n cap p q N hn ht hi hok.1 hk h1 h2 (ih q (by omega) (by omega)) (ih p (by omega) (by omega))
end Go.Proofs.Ytdhplphgackjaaa

namespace Go.Proofs.Ytdhplphgackjaaa
open Go.RowKit

theorem eq_set_any (d : Nat) (x0 x1 x2 x3 y0 y1 y2 y3 : Int) (w : World) :
    (Op.equalIn (d + 2) 54 (.agg #[.int .u64 x0, .int .u64 x1, .int .u64 x2, .int .u64 x3]) (.agg #[.int .u64 y0, .int .u64 y1, .int .u64 y2, .int .u64 y3])).run Try.prog w = .ok (x0 == y0 && x1 == y1 && x2 == y2 && x3 == y3) w := by
  have hs : ∀ w, (sizeOf 52).run Try.prog w = .ok 1 w := fun _ => by kernel_rfl
  have hp : ∀ (xs : Array Value) (i : Nat) (v : Value) (w : World), xs[i]? = some v → (part 52 xs i).run Try.prog w = .ok v w := by
    intro xs i v w hv
    simp [part, go_sem, hv, isAgg, run_underlying Try.underlying52]
  have e : ∀ (x y : Int) (w : World), (Op.equalIn (d + 1) 52 (.int .u64 x) (.int .u64 y)).run Try.prog w = .ok (x == y) w := fun x y w => by
    rw [run_equalIn_int w d 52 .u64 .u64 x y Try.underlying52]
  rw [show d + 2 = (d + 1) + 1 from rfl, Op.equalIn]
  simp only [Sem.run_bind, run_underlying Try.underlying54, Result.andThen_ok, hs, Std.Legacy.Range.forIn_eq_forIn_range', Std.Legacy.Range.size]
  by_cases h0 : x0 = y0 <;> by_cases h1 : x1 = y1 <;> by_cases h2 : x2 = y2 <;> by_cases h3 : x3 = y3 <;> simp [List.range', hp, e, h0, h1, h2, h3]

theorem eq_node (k x0 x1 x2 x3 l h k' y0 y1 y2 y3 l' h' : Int) (w : World) :
    (Op.equalIn 10000 56 (.agg #[.int .i64 k, .int .u64 x0, .int .u64 x1, .int .u64 x2, .int .u64 x3, .int .i64 l, .int .i64 h]) (.agg #[.int .i64 k', .int .u64 y0, .int .u64 y1, .int .u64 y2, .int .u64 y3, .int .i64 l', .int .i64 h'])).run Try.prog w =
      .ok (k == k' && ((x0 == y0 && x1 == y1 && x2 == y2 && x3 == y3) && (l == l' && h == h'))) w := by
  rw [show (10000 : Nat) = 9999 + 1 from rfl, run_equalIn_struct w 9999 56 _ _ (by kernel_rfl) (by kernel_rfl)]
  have hs : ∀ (b c d e f g h : Int) (w : World), (part 54 #[.int .i64 b, .int .u64 c, .int .u64 d, .int .u64 e, .int .u64 f, .int .i64 g, .int .i64 h] 1).run Try.prog w = .ok (.agg #[.int .u64 c, .int .u64 d, .int .u64 e, .int .u64 f]) w := fun _ _ _ _ _ _ _ _ => by kernel_rfl
  have h0 : ∀ (b c d e f g h : Int) (w : World), (part 3 #[.int .i64 b, .int .u64 c, .int .u64 d, .int .u64 e, .int .u64 f, .int .i64 g, .int .i64 h] 0).run Try.prog w = .ok (.int .i64 b) w := fun _ _ _ _ _ _ _ _ => by kernel_rfl
  have h5 : ∀ (b c d e f g h : Int) (w : World), (part 3 #[.int .i64 b, .int .u64 c, .int .u64 d, .int .u64 e, .int .u64 f, .int .i64 g, .int .i64 h] 5).run Try.prog w = .ok (.int .i64 g) w := fun _ _ _ _ _ _ _ _ => by kernel_rfl
  have h6 : ∀ (b c d e f g h : Int) (w : World), (part 3 #[.int .i64 b, .int .u64 c, .int .u64 d, .int .u64 e, .int .u64 f, .int .i64 g, .int .i64 h] 6).run Try.prog w = .ok (.int .i64 h) w := fun _ _ _ _ _ _ _ _ => by kernel_rfl
  have ei : ∀ (x y : Int) (w : World), (Op.equalIn 9999 3 (.int .i64 x) (.int .i64 y)).run Try.prog w = .ok (x == y) w := fun x y w => run_equalIn_int w 9998 3 .i64 .i64 x y Try.underlying3
  have es : ∀ (a b c d e f g h : Int) (w : World), (Op.equalIn 9999 54 (.agg #[.int .u64 a, .int .u64 b, .int .u64 c, .int .u64 d]) (.agg #[.int .u64 e, .int .u64 f, .int .u64 g, .int .u64 h])).run Try.prog w = .ok (a == e && b == f && c == g && d == h) w := fun a b c d e f g h w => eq_set_any 9997 a b c d e f g h w
  simp only [Program.fieldsOf, Try.underlying56]
  cases ek : (k == k') <;> cases eS : (x0 == y0 && x1 == y1 && x2 == y2 && x3 == y3) <;> cases el : (l == l') <;> cases eh : (h == h') <;> simp [Op.eqFields, hs, h0, h5, h6, ei, es, ek, eS, el, eh]

end Go.Proofs.Ytdhplphgackjaaa
