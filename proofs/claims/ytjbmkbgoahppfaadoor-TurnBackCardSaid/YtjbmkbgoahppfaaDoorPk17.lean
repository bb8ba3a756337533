/-
  Trees as texts; the tokens of such a text. Plain facts.
  What a tree is told as is, as a pattern, that tree again, or has too many groups within one another. Plain facts.
  The parts that are nobody's argument yet (a stack, as the code has it); how long texts are. Plain facts.
  The walks of show's node: a repeat, and nodes without arguments.
  The stack of parts against the trees that they are; a part's text. Plain facts.
-/
import Derived.Test.YtjbmkbgoahppfaaDoorPk13
import Derived.Test.YtjbmkbgoahppfaaDoorPk3
import Derived.Test.YtjbmkbgoahppfaaDoorPk16
import Derived.Test.YtjbmkbgoahppfaaDoorPk15
namespace Go.Proofs.YtjbmkbgoahppfaaDoor

theorem bs_get (s : List Nat) (i : Nat) (h : i < s.length) (h2 : s[i] < 256) : gb (bs s) i = s[i] := by
  rw [← gb_in (show i < (bs s).size by rw [bs_size]; exact h)]
  show ((bs s).data[i]'_).toNat = _
  unfold bs
  simp [Nat.mod_eq_of_lt h2]
theorem has_bs {s : List Nat} (h : ∀ x, x ∈ s → x < 256) : has (bs s) 0 s := fun i hi => by
  have h2 := h s[i] (List.getElem_mem hi)
  rw [Nat.zero_add]
  exact ⟨bs_get s i hi h2, h2⟩
theorem has.alike {p : ByteArray} {k : Nat} {s : List Nat} (h : has p k s) : alike (bs s) 0 p k s.length := fun i hi => by
  rw [Nat.zero_add, (h i hi).1, bs_get s i hi (h i hi).2]

set_option maxRecDepth 100000 in
theorem oft_tab : ∀ lo : Nat, lo < 33 → ∀ h : Nat, h < 34 → (!(h == 0 || decide (lo + 1 ≤ h)) || decide (((tk (bs (oftL lo ((h : Int) - 1))) 0).map fun r => (r.1.1, r.1.2.2.1, r.1.2.2.2, r.2)) = some (5, (lo : Int), (h : Int) - 1, (oftL lo ((h : Int) - 1)).length))) = true := by decide +kernel
theorem oft_len (lo hi : Int) : 0 < (oftL lo hi).length := by
  unfold oftL
  split
  · simp
  · split
    · simp
    · split
      · simp
      · simp
theorem tk_oft {p : ByteArray} {k : Nat} {lo hi : Int} (h1 : 0 ≤ lo) (h2 : lo ≤ 32) (h3 : hi = -1 ∨ (lo ≤ hi ∧ hi ≤ 32)) (h : has p k (oftL lo hi)) :
    ∃ r, tk p k = some (r, k + (oftL lo hi).length) ∧ ∀ i, sameT (tn_of (tka i r)) (tnR lo hi) := by
  obtain ⟨l, rfl⟩ := Int.eq_ofNat_of_zero_le h1
  obtain ⟨m, hm⟩ : ∃ m : Nat, hi = (m : Int) - 1 := ⟨(hi + 1).toNat, by omega⟩
  subst hm
  have ht0 := oft_tab l (by omega) m (by omega)
  have hc : (m == 0 || decide (l + 1 ≤ m)) = true := by rcases h3 with h3 | h3 <;> simp <;> omega
  rw [hc, Bool.not_true, Bool.false_or] at ht0
  have ht := of_decide_eq_true ht0
  obtain ⟨⟨r, n⟩, hr, e⟩ := Option.map_eq_some_iff.1 ht
  simp only [Prod.mk.injEq] at e
  obtain ⟨e1, e2, e3, e4⟩ := e
  have hp := oft_len l ((m : Int) - 1)
  obtain ⟨q1, q2, q3⟩ := tk_pre h.alike (by rw [bs_size]; exact hp) hr (by omega)
  refine ⟨r, by rw [q1, e4]; congr 2; omega, fun i => ?_⟩
  rcases tk_norm (i := i) hr with ⟨n1, -⟩ | ⟨n1, n2, n3, n4, -⟩
  · have n1' : r.1 = 1 := n1
    rw [e1] at n1'; cases n1'
  · exact ⟨e1, n1, n2, n3, n4, e2, e3⟩

/-- A tree as a pattern. -/
def txt : Tr → List Nat
  | .leaf x => if x.k = 1 then setL (fOf x) else if x.k = 2 then [40, 41] else if x.k = 3 then [94] else [36]
  | .cat a b => par (isOr a) (txt a) ++ par (isOr b || isCat b) (txt b)
  | .or a b => txt a ++ 124 :: par (isOr b) (txt b)
  | .rep a lo hi => par (isOr a || isCat a) (txt a) ++ oftL lo hi
def okL : Tr → Prop
  | .leaf x => okW x
  | .cat a b => okL a ∧ okL b
  | .or a b => okL a ∧ okL b
  | .rep a _ _ => okL a

/-- Tokens that lie one behind the other, from one place to another. -/
def lexTo (p : ByteArray) : List Tka → Nat → Nat → Prop
  | [], i, j => i = j
  | t :: l, i, j => ∃ r n, tk p i = some (r, n) ∧ t = tka i r ∧ i < p.size ∧ lexTo p l n j
theorem lexTo_app {p : ByteArray} : ∀ {l m : List Tka} {i j k : Nat}, lexTo p l i j → lexTo p m j k → lexTo p (l ++ m) i k
  | [], _, _, _, _, h1, h2 => by cases h1; exact h2
  | _ :: _, _, _, _, _, ⟨r, n, e1, e2, e3, e4⟩, h2 => ⟨r, n, e1, e2, e3, lexTo_app e4 h2⟩
theorem lexTo_chain {p : ByteArray} : ∀ {l : List Tka} {i : Nat}, lexTo p l i p.size → chain p l i
  | [], _, h => by cases h; exact Nat.le_refl _
  | _ :: _, _, ⟨r, n, e1, e2, e3, e4⟩ => ⟨r, n, e1, e2, e3, lexTo_chain e4⟩
/-- A row of tokens, but for their places. -/
def likeL (L : List Tka) (s : List Tn) : Prop := L.length = s.length ∧ ∀ j (h : j < L.length) (h' : j < s.length), sameT (tn_of L[j]) s[j]
theorem likeL_app {L M : List Tka} {s t : List Tn} (h1 : likeL L s) (h2 : likeL M t) : likeL (L ++ M) (s ++ t) := by
  refine ⟨by rw [List.length_append, List.length_append, h1.1, h2.1], fun j h h' => ?_⟩
  by_cases hj : j < L.length
  · rw [List.getElem_append_left hj, List.getElem_append_left (by rw [← h1.1]; exact hj)]; exact h1.2 j hj _
  · rw [List.getElem_append_right (by omega), List.getElem_append_right (by rw [← h1.1]; omega)]
    have := h2.2 (j - L.length) (by rw [List.length_append] at h; omega) (by rw [List.length_append] at h'; have := h1.1; omega)
    simpa [h1.1] using this
/-- Some bytes are these tokens, wherever they stand. -/
def lexG (l : List Nat) (s : List Tn) : Prop := ∀ (p : ByteArray) (k : Nat), has p k l → ∃ L, lexTo p L k (k + l.length) ∧ likeL L s
theorem lexG_app {l1 l2 : List Nat} {s1 s2 : List Tn} (h1 : lexG l1 s1) (h2 : lexG l2 s2) : lexG (l1 ++ l2) (s1 ++ s2) := by
  intro p k h
  obtain ⟨L, a1, a2⟩ := h1 p k h.left
  obtain ⟨M, b1, b2⟩ := h2 p _ h.right
  exact ⟨L ++ M, by rw [List.length_append, ← Nat.add_assoc]; exact lexTo_app a1 b1, likeL_app a2 b2⟩
theorem lexG_one {l : List Nat} {c : Tn} (h0 : 0 < l.length) (h : ∀ (p : ByteArray) (k : Nat), has p k l → ∃ r, tk p k = some (r, k + l.length) ∧ ∀ i, sameT (tn_of (tka i r)) c) : lexG l [c] := by
  intro p k hh
  obtain ⟨r, h1, h2⟩ := h p k hh
  have hk : k < p.size := by have := hh 0 h0; rw [Nat.add_zero] at this; rw [← gb_lt_iff, this.1]; exact this.2
  exact ⟨[tka k r], ⟨r, _, h1, rfl, hk, rfl⟩, rfl, fun j h h' => by
    obtain rfl : j = 0 := by simp at h; omega
    exact h2 k⟩
theorem lexG_sign {c : Nat} {k : Int} (h : tkSign c = some (k, 0, 0)) : lexG [c] [tn0 k] :=
  lexG_one (by simp) fun p i hh => ⟨(k, (fun _ => false), 0, 0), by unfold tk; rw [hh.head.1, h]; rfl, fun i => ⟨rfl, congrArg Int.ofNat (wd_none 0), congrArg Int.ofNat (wd_none 1), congrArg Int.ofNat (wd_none 2), congrArg Int.ofNat (wd_none 3), rfl, rfl⟩⟩
theorem lexG_par {b : Bool} {l : List Nat} {s : List Tn} (h : lexG l s) : lexG (par b l) (grp b s) := by
  cases b
  · exact h
  · exact lexG_app (lexG_sign (c := 40) rfl) (lexG_app h (lexG_sign (c := 41) rfl))
theorem setL_pos (f : Nat → Bool) : 0 < (setL f).length := by
  unfold setL
  split
  · simp
  · split
    · split
      · simp
      · have := end_len ((bl f 256).headD 0); omega
    · simp
theorem lexG_txt : ∀ t, okT t → okL t → lexG (txt t) (eT t)
  | .leaf x, h, hw => by
    unfold txt eT
    by_cases c1 : x.k = 1
    · rw [if_pos c1, if_pos c1]
      refine lexG_one (setL_pos _) fun p k hh => ?_
      obtain ⟨F, hF, hx⟩ := tk_set (fOf x) hh
      refine ⟨_, hF, fun i => ?_⟩
      obtain ⟨e1, e2, e3, e4⟩ := fOf_wd hw
      have g : ∀ i, i < 4 → wd F i = wd (fOf x) i := fun i hi => wd_congr fun j hj => hx _ (by omega)
      exact ⟨rfl, by rw [show (tnS x).a = x.a from rfl, e1, ← g 0 (by decide)]; rfl, by rw [show (tnS x).b = x.b from rfl, e2, ← g 1 (by decide)]; rfl, by rw [show (tnS x).c = x.c from rfl, e3, ← g 2 (by decide)]; rfl, by rw [show (tnS x).d = x.d from rfl, e4, ← g 3 (by decide)]; rfl, rfl, rfl⟩
    · rw [if_neg c1, if_neg c1]
      by_cases c2 : x.k = 2
      · rw [if_pos c2, if_pos c2]; exact lexG_app (lexG_sign (c := 40) rfl) (lexG_sign (c := 41) rfl)
      · rw [if_neg c2, if_neg c2]
        by_cases c3 : x.k = 3
        · rw [if_pos c3, if_pos c3]; exact lexG_sign (c := 94) rfl
        · rw [if_neg c3, if_neg c3]; exact lexG_sign (c := 36) rfl
  | .cat a b, h, hw => lexG_app (lexG_par (lexG_txt a h.1 hw.1)) (lexG_par (lexG_txt b h.2 hw.2))
  | .or a b, h, hw => lexG_app (lexG_txt a h.1 hw.1) (lexG_app (lexG_sign (c := 124) rfl) (lexG_par (lexG_txt b h.2 hw.2)))
  | .rep a lo hi, h, hw => lexG_app (lexG_par (lexG_txt a h.1 hw)) (lexG_one (oft_len lo hi) fun _ _ hh => tk_oft h.2.1 h.2.2.1 h.2.2.2 hh)
end Go.Proofs.YtjbmkbgoahppfaaDoor

namespace Go.Proofs.YtjbmkbgoahppfaaDoor

theorem okL_of : ∀ t, (∀ x, x ∈ post t → okW x) → okL t
  | .leaf x, h => h x (by simp [post])
  | .cat a b, h => ⟨okL_of a fun x hx => h x (by simp [post, hx]), okL_of b fun x hx => h x (by simp [post, hx])⟩
  | .or a b, h => ⟨okL_of a fun x hx => h x (by simp [post, hx]), okL_of b fun x hx => h x (by simp [post, hx])⟩
  | .rep a _ _, h => okL_of a fun x hx => h x (by simp [post, hx])
theorem seg_mem {N : Nat → Nd} {f m : Nat} {x : Nd} (h : x ∈ seg N f m) : ∃ j, f ≤ j ∧ j < f + m ∧ x = N j := by
  unfold seg at h
  obtain ⟨j, hj, rfl⟩ := List.mem_map.1 h
  rw [List.mem_range'_1] at hj
  exact ⟨j, hj.1, hj.2, rfl⟩
theorem seg_get {N : Nat → Nd} {n j : Nat} (h : j < n) : nfn (seg N 0 n) j = N j := by
  have e : (seg N 0 n)[j]? = some (N j) := by
    unfold seg
    rw [List.getElem?_map, List.getElem?_range' h]
    simp
  unfold nfn
  rw [List.getD_eq_getElem?_getD, e]; rfl
theorem hasT_tof {L : List Tka} {s : List Tn} (h : likeL L s) : hasT (tof L) L.length 0 s := by
  refine ⟨by rw [Nat.zero_add, h.1]; exact Nat.le_refl _, fun j hj => ?_⟩
  have hl : j < L.length := by rw [h.1]; exact hj
  rw [Nat.zero_add, tof_get L j hl]
  exact h.2 j hl hj
/-- A text that is a tree's. -/
def told (p : ByteArray) (t : Tr) : Prop := has p 0 (txt t) ∧ p.size = (txt t).length
theorem pat_back {N : Nat → Nd} {n : Nat} (ht : tree N n) (hw : ∀ j, j < n → okW (N j)) {p : ByteArray} (hp : told p (trT N (n - 1))) (h200 : p.size ≤ 200) :
    (gd (trT N (n - 1)) ≤ 20 → patF p = (some (seg N 0 n), 0, 0)) ∧ (20 < gd (trT N (n - 1)) → (∃ x, patF p = (none, x, 4)) ∧ 20 < dpt N (n - 1)) := by
  obtain ⟨a1, a2, a3⟩ := trT_root ht
  have hL : okL (trT N (n - 1)) := okL_of _ fun x hx => by
    rw [a1] at hx
    obtain ⟨j, -, hj, rfl⟩ := seg_mem hx
    exact hw j (by omega)
  obtain ⟨L, b1, b2⟩ := lexG_txt _ a2 hL p 0 hp.1
  rw [Nat.zero_add, ← hp.2] at b1
  have hk := chain_toks (lexTo_chain b1)
  have hlen : (post (trT N (n - 1))).length ≤ 512 := by rw [a1, seg_len]; exact ht.1
  have hpf : patF p = ofF (tof L) L.length p.size := by unfold patF; rw [if_neg (by omega), hk]
  obtain ⟨c1, c2⟩ := of_back a2 (hasT_tof b2) b2.1.symm hlen (p.size : Int)
  rw [hpf]
  refine ⟨fun h => by rw [c1 h, a1], fun h => ⟨c2 h, ?_⟩⟩
  have := gd_dp (trT N (n - 1))
  omega
end Go.Proofs.YtjbmkbgoahppfaaDoor

namespace Go.Proofs.YtjbmkbgoahppfaaDoor

/-- The parts that are nobody's argument yet, by their last nodes. -/
def roots (N : Nat → Nd) : Nat → List Nat
  | 0 => []
  | k + 1 => (roots N k).take ((roots N k).length - (ar (N k).k).toNat) ++ [k]
theorem roots_succ (N : Nat → Nd) (k : Nat) : roots N (k + 1) = (roots N k).take ((roots N k).length - (ar (N k).k).toNat) ++ [k] := rfl
theorem roots_len (N : Nat → Nd) : ∀ k, (roots N k).length ≤ k
  | 0 => Nat.le_refl _
  | k + 1 => by
    have := roots_len N k
    rw [roots_succ, List.length_append, List.length_take, List.length_cons, List.length_nil]
    omega
theorem roots_at {N : Nat → Nd} {n : Nat} (ht : tree N n) : ∀ m i, i ≤ m → i < n → ∀ f : Nat, fst N i = f → roots N (i + 1) = roots N f ++ [i] := by
  have leaf : ∀ i, ((N i).k = 1 ∨ (N i).k = 2 ∨ (N i).k = 3 ∨ (N i).k = 4) → roots N (i + 1) = roots N i ++ [i] := fun i hk => by
    rw [roots_succ, show ar (N i).k = 0 by rcases hk with h | h | h | h <;> rw [h] <;> rfl]
    rw [show (roots N i).length - ((0 : Int)).toNat = (roots N i).length from rfl, List.take_length]
  intro m
  induction m with
  | zero =>
    intro i h0 hi f hf
    obtain ⟨f', hf', hc⟩ := nd_is ht hi
    obtain rfl : f' = f := by omega
    cases hc with
    | leaf _ hk _ => exact leaf _ hk
    | one => omega
    | two => omega
  | succ m ih =>
    intro i h0 hi f hf
    obtain ⟨f', hf', hc⟩ := nd_is ht hi
    obtain rfl : f' = f := by omega
    cases hc with
    | leaf _ hk _ => exact leaf _ hk
    | @one p _ _ hk h1 h2 _ =>
      rw [roots_succ (k := p + 1), ih p (by omega) (by omega) f' h1, hk, show (ar 7).toNat = 1 from rfl, List.length_append, show [p].length = 1 from rfl, Nat.add_sub_cancel, List.take_left]
    | @two p q _ _ hk h1 h2 h3 h4 _ =>
      rw [roots_succ (k := p + 1), ih p (by omega) (by omega) (q + 1) h1, ih q (by omega) (by omega) f' h3, show (ar (N (p + 1)).k).toNat = 2 by rcases hk with h | h <;> rw [h] <;> rfl, List.append_assoc, List.length_append, show ([q] ++ [p]).length = 2 from rfl, Nat.add_sub_cancel, List.take_left]
theorem roots_fst {N : Nat → Nd} {n i f : Nat} (ht : tree N n) (hi : i < n) (hf : fst N i = f) : roots N (i + 1) = roots N f ++ [i] := roots_at ht i i (Nat.le_refl _) hi f hf
theorem roots_all {N : Nat → Nd} {n : Nat} (ht : tree N n) (hn : 0 < n) : roots N n = [n - 1] := by
  have h := tree_iff.1 ht
  have := roots_fst ht (show n - 1 < n by omega) (show fst N (n - 1) = ((0 : Nat) : Int) from h.2.2.2)
  rwa [show n - 1 + 1 = n by omega] at this
theorem roots_lt {N : Nat → Nd} : ∀ {k j}, j ∈ roots N k → j < k
  | 0, _, h => by cases h
  | k + 1, j, h => by
    rw [roots_succ] at h
    rcases List.mem_append.1 h with h | h
    · have := roots_lt (List.mem_of_mem_take h); omega
    · rw [List.mem_singleton.1 h]; exact Nat.lt_succ_self k

theorem par_len (b : Bool) (l : List Nat) : l.length ≤ (par b l).length ∧ (par b l).length ≤ l.length + 2 := by unfold par; split <;> simp <;> omega
/-- An argument's text is no longer than that of what it is in. -/
theorem txt_le {N : Nat → Nd} {n : Nat} (ht : tree N n) : ∀ m i, i ≤ m → i < n → ∀ f : Nat, fst N i = f → ∀ j, f ≤ j → j ≤ i → (txt (trT N j)).length ≤ (txt (trT N i)).length := by
  intro m
  induction m with
  | zero =>
    intro i h0 hi f hf j h1 h2
    obtain rfl : j = i := by omega
    exact Nat.le_refl _
  | succ m ih =>
    intro i h0 hi f hf j hj1 hj2
    rcases Nat.lt_or_ge j i with hlt | hge
    · obtain ⟨f', hf', hc⟩ := nd_is ht hi
      obtain rfl : f' = f := by omega
      cases hc with
      | leaf _ hk _ => omega
      | @one p _ _ hk h1 h2 _ =>
        have h := ih p (by omega) (by omega) f' h1 j hj1 (by omega)
        rw [trT_one hk]
        have := par_len (isOr (trT N p) || isCat (trT N p)) (txt (trT N p))
        show _ ≤ (par (isOr (trT N p) || isCat (trT N p)) (txt (trT N p)) ++ oftL (N (p + 1)).lo (N (p + 1)).hi).length
        rw [List.length_append]
        omega
      | @two p q _ _ hk h1 h2 h3 h4 _ =>
        have h : (txt (trT N j)).length ≤ (txt (trT N q)).length ∨ (txt (trT N j)).length ≤ (txt (trT N p)).length := by
          rcases Nat.lt_or_ge q j with hq | hq
          · exact .inr (ih p (by omega) (by omega) (q + 1) h1 j (by omega) (by omega))
          · exact .inl (ih q (by omega) (by omega) f' h3 j hj1 hq)
        rcases hk with hk | hk
        · rw [trT_cat ht hi hk h1 h2]
          have a1 := par_len (isOr (trT N q)) (txt (trT N q))
          have a2 := par_len (isOr (trT N p) || isCat (trT N p)) (txt (trT N p))
          show _ ≤ (par (isOr (trT N q)) (txt (trT N q)) ++ par (isOr (trT N p) || isCat (trT N p)) (txt (trT N p))).length
          rw [List.length_append]
          omega
        · rw [trT_or ht hi hk h1 h2]
          have a2 := par_len (isOr (trT N p)) (txt (trT N p))
          show _ ≤ (txt (trT N q) ++ 124 :: par (isOr (trT N p)) (txt (trT N p))).length
          rw [List.length_append, List.length_cons]
          omega
    · obtain rfl : j = i := by omega
      exact Nat.le_refl _
theorem txt_root {N : Nat → Nd} {n j : Nat} (ht : tree N n) (hj : j < n) : (txt (trT N j)).length ≤ (txt (trT N (n - 1))).length :=
  txt_le ht (n - 1) (n - 1) (Nat.le_refl _) (by omega) 0 ((tree_iff.1 ht).2.2.2) j (Nat.zero_le _) (by omega)

theorem runs_len (l : List (Nat × Nat)) : (l.flatMap runL).length ≤ 9 * l.length := by
  induction l with
  | nil => exact Nat.le_refl _
  | cons r l ih =>
    rw [List.flatMap_cons, List.length_append, List.length_cons]
    have h1 := end_len r.1
    have h2 := end_len r.2
    have : (runL r).length ≤ 9 := by
      unfold runL
      rw [List.length_append]
      split
      · omega
      · split
        · rw [List.length_cons]; omega
        · simp; omega
    omega
theorem segs_most (f : Nat → Bool) : (segs f 256 256).length ≤ 256 := by
  unfold segs starts
  rw [List.length_map]
  have := List.length_filter_le (st f) (List.range 256)
  rw [List.length_range] at this
  exact this
theorem setL_len (f : Nat → Bool) : (setL f).length ≤ 2400 := by
  unfold setL
  split
  · simp
  · split
    · split
      · simp
      · have := end_len ((bl f 256).headD 0); omega
    · have h1 := runs_len (segs f 256 256)
      have h2 := segs_most f
      rw [List.length_cons, List.length_append, List.length_singleton]
      omega
theorem oftL_le (lo hi : Int) : (oftL lo hi).length ≤ 9 := by
  have num : ∀ n, (numL n).length ≤ 2 := fun n => by unfold numL; split <;> simp
  have h1 := num lo.toNat
  have h2 := num hi.toNat
  unfold oftL
  split
  · simp
  · split
    · simp
    · split
      · simp
      · rw [List.length_cons, List.length_append]
        split
        · simp; omega
        · split
          · simp; omega
          · rw [List.length_cons, List.length_append]; simp; omega
theorem txt_len : ∀ t, (txt t).length ≤ 2400 * (post t).length
  | .leaf x => by
    unfold txt post
    split
    · exact setL_len _
    · split
      · simp
      · split <;> simp
  | .cat a b => by
    have h1 := txt_len a; have h2 := txt_len b
    have a1 := par_len (isOr a) (txt a)
    have a2 := par_len (isOr b || isCat b) (txt b)
    unfold txt post
    simp only [List.length_append, List.length_cons, List.length_nil]
    omega
  | .or a b => by
    have h1 := txt_len a; have h2 := txt_len b
    have a2 := par_len (isOr b) (txt b)
    unfold txt post
    simp only [List.length_append, List.length_cons, List.length_nil]
    omega
  | .rep a lo hi => by
    have h1 := txt_len a
    have a1 := par_len (isOr a || isCat a) (txt a)
    have := oftL_le lo hi
    unfold txt post
    simp only [List.length_append, List.length_cons, List.length_nil]
    omega
theorem txt_most {N : Nat → Nd} {n : Nat} (ht : tree N n) : (txt (trT N (n - 1))).length ≤ 2400 * n := by
  have := txt_len (trT N (n - 1))
  rw [(trT_root ht).1, seg_len] at this
  exact this

/-- What a tree is told as; an error. -/
def showF (N : Nat → Nd) (n : Nat) : ByteArray × Int :=
  if tree N n then (if (txt (trT N (n - 1))).length ≤ 200 then (bs (txt (trT N (n - 1))), 0) else (ByteArray.empty, 4)) else (ByteArray.empty, 3)
end Go.Proofs.YtjbmkbgoahppfaaDoor

namespace Go.Proofs.YtjbmkbgoahppfaaDoor
open Go.RowKit

set_option maxRecDepth 100000 in
set_option maxHeartbeats 4000000 in
theorem node_rep (a b' c d lo hi : Int) (q1 : 0 ≤ lo) (q2 : lo ≤ 32) (q3 : hi = -1 ∨ (lo ≤ hi ∧ hi ≤ 32)) (b o cap : Nat) (k0 : Int) (s0 : ByteArray) (z0 : s0.size ≤ 200) (w : World) (hb : b < w.heap.size) (h0 : prAt w b o k0 s0) :
    Calls Tryd.prog 28 #[.agg #[.int .i64 7, .int .u64 a, .int .u64 b', .int .u64 c, .int .u64 d, .int .i64 lo, .int .i64 hi], .slice (some ⟨b, o, none⟩) 1 cap] w (strPost (parB (k0 == 6 || k0 == 5) s0 ++ bs (oftL lo hi)) w) := by
  obtain ⟨W, hW⟩ : ∃ W, w.alloc (.cells #[.int .i64 7, .int .u64 a, .int .u64 b', .int .u64 c, .int .u64 d, .int .i64 lo, .int .i64 hi] 45) = W := ⟨_, rfl⟩
  have hBW : Below w.heap.size w W := hW ▸ (Below.refl _ _).alloc (Nat.le_refl _) _
  have pk : W.cell? ⟨w.heap.size, 0, none⟩ = some (.int .i64 7) := by rw [← hW]; simp
  have p2 : W.cell? ⟨w.heap.size, 5, none⟩ = some (.int .i64 lo) := by rw [← hW]; simp
  have p3 : W.cell? ⟨w.heap.size, 6, none⟩ = some (.int .i64 hi) := by rw [← hW]; simp
  have hwW : w.heap.size < W.heap.size := by rw [← hW]; simp
  obtain ⟨p0, p1⟩ := h0.below hBW hb
  have hbW : b < W.heap.size := by have := hBW.size; omega
  have HBW := Lib.hid hBW
  have hB := Below.refl W.heap.size W
  have hz : (parB (k0 == 6 || k0 == 5) s0).size ≤ 202 := by have := parB_len (k0 == 6 || k0 == 5) s0; omega
  have hz1 : (bs (oftL lo hi)).size ≤ 9 := by rw [bs_size]; exact oftL_le lo hi
  have HG0 := Lib.hid (fun bb w (hbb : bb < w.heap.size) h0 h1 => grp_two k0 s0 (by omega) bb w hbb h0 h1)
  have HR := Lib.hid (rpt6_any lo hi q1 q2 q3)
  unfold grpPost at HG0
  generalize parB (k0 == 6 || k0 == 5) s0 = t0 at *
  generalize bs (oftL lo hi) = t1 at *
  have g1 : ¬ (9223372036854775807 < t0.size + t1.size) := by omega
  have HK : Hid (∀ w', Below W.heap.size W w' → w'.cell? ⟨b, o, none⟩ = some (.int .i64 k0) ∧ w'.cell? ⟨b, o + 1, none⟩ = some (.string s0) ∧ w'.cell? ⟨w.heap.size, 5, none⟩ = some (.int .i64 lo) ∧ w'.cell? ⟨w.heap.size, 6, none⟩ = some (.int .i64 hi)) :=
    Lib.hid fun w' hb' => ⟨cell_far hb' hbW p0, cell_far hb' hbW p1, cell_far hb' hwW p2, cell_far hb' hwW p3⟩
  clear hBW hz hz1 z0 h0 q1 q2 q3
  go_enter Tryd.func28, Tryd.ntmps28
  go_wp2_with fail
  clear hW
  go_region_held_law (fun w' => w'.cell? ⟨b, o, none⟩ = some (.int .i64 k0) ∧ w'.cell? ⟨b, o + 1, none⟩ = some (.string s0) ∧ w'.cell? ⟨w.heap.size, 5, none⟩ = some (.int .i64 lo) ∧ w'.cell? ⟨w.heap.size, 6, none⟩ = some (.int .i64 hi))
    (first | with_reducible exact HK.out _ hB | with_reducible exact HK.out _ hB.drew | exact HK.out _ (hB.alloc (by exact hB.size) _) | exact HK.out _ (hB.alloc (by exact hB.size) _).drew | exact HK.out _ ((hB.alloc (by exact hB.size) _).alloc (by have := hB.size; first | omega | (simp <;> omega)) _).drew)
    (first
      | (go_at_call 42; (with_reducible refine (HG0.out _ _ ?ta ?tb ?tc).mono ?_); (case ta => first | (simp; done) | (simp <;> omega) | (rw [hb'.cell (by first | omega | (simp <;> omega))]; simp; done) | (have := hb'.size; simp at this; first | omega | (simp <;> omega))); (case tb => first | (simp; done) | (simp <;> omega) | (rw [hb'.cell (by first | omega | (simp <;> omega))]; simp; done) | (have := hb'.size; simp at this; first | omega | (simp <;> omega))); (case tc => first | (simp; done) | (simp <;> omega) | (rw [hb'.cell (by first | omega | (simp <;> omega))]; simp; done) | (have := hb'.size; simp at this; first | omega | (simp <;> omega))); rintro e wk ⟨rfl, hb'⟩; (replace hB : Below W.heap.size W wk := by first | exact (hB.alloc (by exact hB.size) _).drew.trans (hb'.mono (by have := hB.size; first | omega | (simp <;> omega))) | exact ((hB.alloc (by exact hB.size) _).alloc (by have := hB.size; first | omega | (simp <;> omega)) _).drew.trans (hb'.mono (by have := hB.size; first | omega | (simp <;> omega))) | exact (hB.alloc (by exact hB.size) _).trans (hb'.mono (by have := hB.size; first | omega | (simp <;> omega))) | exact hB.trans (hb'.mono (by exact hB.size))))
      | (go_at_call 43; (with_reducible refine (HR.out _).mono ?_); rintro e wk ⟨rfl, rfl⟩))
  all_goals
    have HF := Lib.hid (HBW.out.trans (hB.mono HBW.out.size))
    clear hB
    go_wp2_with fail
    go_returns
    exact ⟨rfl, HF.out⟩

/-- A node without arguments, as a text. -/
def leafB (x : Nd) : ByteArray := bs (txt (.leaf x))
theorem sv_fOf {x : Nd} (h : okW x) : Value.agg #[.int .u64 x.a, .int .u64 x.b, .int .u64 x.c, .int .u64 x.d] = sv (fOf x) := by
  obtain ⟨e1, e2, e3, e4⟩ := fOf_wd h
  unfold sv
  rw [← e1, ← e2, ← e3, ← e4]
set_option maxRecDepth 100000 in
set_option maxHeartbeats 4000000 in
theorem node_leaf (x : Nd) (hx : okW x) (hk : x.k = 1 ∨ x.k = 2 ∨ x.k = 3 ∨ x.k = 4) (v : Value) (w : World) (hT : Tabbed w) : Calls Tryd.prog 28 #[ndr x, v] w (strPost (leafB x) w) := by
  have HT := Lib.hid hT
  rcases hk with hk | hk | hk | hk
  · have HL : Hid (leafB x = bs (setL (fOf x))) := Lib.hid (by unfold leafB txt; rw [if_pos hk])
    have HS := Lib.hid (fun w hT => cset_any (fOf x) w hT)
    have hsv := sv_fOf hx
    obtain ⟨k, a, b, c, d, lo, hi⟩ := x
    simp only at hk hsv
    subst hk
    rw [← hsv] at HS
    clear hT hsv hx
    go_enter Tryd.func28, Tryd.ntmps28
    go_wp2_with fail
    refine (HS.out _ (HT.out.alloc _)).mono ?_
    rintro e w1 ⟨rfl, hb⟩
    have HB : Hid (Below w.heap.size w w1) := Lib.hid (((Below.refl _ _).alloc (Nat.le_refl _) _).trans (hb.mono (by simp)))
    clear hb
    go_wp2_with fail
    go_returns
    exact ⟨by rw [HL.out] <;> rfl, HB.out⟩
  · have HL : Hid (leafB x = ⟨#[40, 41]⟩) := Lib.hid (by unfold leafB txt; rw [if_neg (by omega), if_pos hk]; rfl)
    obtain ⟨k, a, b, c, d, lo, hi⟩ := x
    simp only at hk
    subst hk
    clear hT hx
    go_enter Tryd.func28, Tryd.ntmps28
    go_wp2_with fail
    go_returns
    exact ⟨by rw [HL.out] <;> rfl, (Below.refl _ _).alloc (Nat.le_refl _) _⟩
  · have HL : Hid (leafB x = ⟨#[94]⟩) := Lib.hid (by unfold leafB txt; rw [if_neg (by omega), if_neg (by omega), if_pos hk]; rfl)
    obtain ⟨k, a, b, c, d, lo, hi⟩ := x
    simp only at hk
    subst hk
    clear hT hx
    go_enter Tryd.func28, Tryd.ntmps28
    go_wp2_with fail
    go_returns
    exact ⟨by rw [HL.out] <;> rfl, (Below.refl _ _).alloc (Nat.le_refl _) _⟩
  · have HL : Hid (leafB x = ⟨#[36]⟩) := Lib.hid (by unfold leafB txt; rw [if_neg (by omega), if_neg (by omega), if_neg (by omega)]; rfl)
    obtain ⟨k, a, b, c, d, lo, hi⟩ := x
    simp only at hk
    subst hk
    clear hT hx
    go_enter Tryd.func28, Tryd.ntmps28
    go_wp2_with fail
    go_returns
    exact ⟨by rw [HL.out] <;> rfl, (Below.refl _ _).alloc (Nat.le_refl _) _⟩
end Go.Proofs.YtjbmkbgoahppfaaDoor

namespace Go.Proofs.YtjbmkbgoahppfaaDoor

/-- The text at a node. -/
def txB (N : Nat → Nd) (j : Nat) : ByteArray := bs (txt (trT N j))
theorem txB_size (N : Nat → Nd) (j : Nat) : (txB N j).size = (txt (trT N j)).length := bs_size _
theorem roots_dep {N : Nat → Nd} {n : Nat} (ht : tree N n) : ∀ k, k ≤ n → ((roots N k).length : Int) = dep N k := by
  intro k
  induction k with
  | zero => intro _; rfl
  | succ k ih =>
    intro hk
    have h1 := ih (by omega)
    obtain ⟨g1, g2, -⟩ := ht.2.1 k (by omega)
    rw [roots_succ, List.length_append, List.length_take, List.length_singleton, show dep N (k + 1) = dep N k + 1 - ar (N k).k from rfl]
    omega
theorem kind_is {N : Nat → Nd} {n i : Nat} (ht : tree N n) (hi : i < n) : isOr (trT N i) = ((N i).k == 6) ∧ isCat (trT N i) = ((N i).k == 5) := by
  obtain ⟨f, hf, hc⟩ := nd_is ht hi
  cases hc with
  | leaf _ hk _ =>
    rw [trT_leaf hk]
    exact ⟨(beq_eq_false_iff_ne.2 (by omega)).symm, (beq_eq_false_iff_ne.2 (by omega)).symm⟩
  | one _ hk _ _ _ =>
    rw [trT_one hk]
    exact ⟨(beq_eq_false_iff_ne.2 (by omega)).symm, (beq_eq_false_iff_ne.2 (by omega)).symm⟩
  | two hi hk h1 h2 _ _ _ =>
    rcases hk with hk | hk
    · rw [trT_cat ht hi hk h1 h2]
      exact ⟨(beq_eq_false_iff_ne.2 (by omega)).symm, (beq_iff_eq.2 hk).symm⟩
    · rw [trT_or ht hi hk h1 h2]
      exact ⟨(beq_iff_eq.2 hk).symm, (beq_eq_false_iff_ne.2 (by omega)).symm⟩
theorem txB_rep {N : Nat → Nd} {n p : Nat} (ht : tree N n) (hi : p + 1 < n) (hk : (N (p + 1)).k = 7) :
    txB N (p + 1) = parB ((N p).k == 6 || (N p).k == 5) (txB N p) ++ bs (oftL (N (p + 1)).lo (N (p + 1)).hi) := by
  have h := kind_is ht (show p < n by omega)
  unfold txB
  rw [trT_one hk, parB_bs, ← bs_append, ← h.1, ← h.2]
  rfl
theorem txB_cat {N : Nat → Nd} {n p q : Nat} (ht : tree N n) (hi : p + 1 < n) (hk : (N (p + 1)).k = 5) (h1 : fst N p = (q + 1 : Nat)) (h2 : q + 1 ≤ p) :
    txB N (p + 1) = parB ((N q).k == 6) (txB N q) ++ parB ((N p).k == 6 || (N p).k == 5) (txB N p) := by
  have h := kind_is ht (show p < n by omega)
  have h' := kind_is ht (show q < n by omega)
  unfold txB
  rw [trT_cat ht hi hk h1 h2, parB_bs, parB_bs, ← bs_append, ← h.1, ← h.2, ← h'.1]
  rfl
theorem txB_or {N : Nat → Nd} {n p q : Nat} (ht : tree N n) (hi : p + 1 < n) (hk : (N (p + 1)).k = 6) (h1 : fst N p = (q + 1 : Nat)) (h2 : q + 1 ≤ p) :
    txB N (p + 1) = txB N q ++ ⟨#[124]⟩ ++ parB ((N p).k == 6) (txB N p) := by
  have h := kind_is ht (show p < n by omega)
  unfold txB
  rw [trT_or ht hi hk h1 h2, parB_bs, show (⟨#[124]⟩ : ByteArray) = bs [124] from rfl, ← bs_append, ← bs_append, ← h.1]
  show bs (txt (trT N q) ++ 124 :: par (isOr (trT N p)) (txt (trT N p))) = _
  rw [List.append_assoc]
  rfl
theorem txB_leaf {N : Nat → Nd} {i : Nat} (hk : (N i).k = 1 ∨ (N i).k = 2 ∨ (N i).k = 3 ∨ (N i).k = 4) : txB N i = bs (txt (.leaf (N i))) := by unfold txB; rw [trT_leaf hk]
/-- What the answer is, where nothing is wrong, and where a text is too long. -/
theorem showF_ok {N : Nat → Nd} {n : Nat} (ht : tree N n) (h : (txB N (n - 1)).size ≤ 200) : showF N n = (txB N (n - 1), 0) := by
  rw [txB_size] at h
  unfold showF
  rw [if_pos ht, if_pos h]
  rfl
theorem showF_long {N : Nat → Nd} {n j : Nat} (ht : tree N n) (hj : j < n) (h : 200 < (txB N j).size) : showF N n = (ByteArray.empty, 4) := by
  rw [txB_size] at h
  have := txt_root ht hj
  unfold showF
  rw [if_pos ht, if_neg (by omega)]
theorem showF_not {N : Nat → Nd} {n : Nat} (ht : ¬ tree N n) : showF N n = (ByteArray.empty, 3) := by unfold showF; rw [if_neg ht]
end Go.Proofs.YtjbmkbgoahppfaaDoor
