/-
  States in blocks that are divided till the states of each are alike (J. Hopcroft's way). Plain.
  Parts in memory: a struct that names five rows, and the rows that two of these name, each in a block of its own.
  The walk of the parts' wait.
  The walk of the parts' add.
-/
import Derived.Test.YtefpoapbodbenaaPk33
import Derived.Test.YtefpoapbodbenaaPk17
import Derived.Test.YtefpoapbodbenaaPk9
import Derived.BigQuiet
import Derived.Deep.QuietTactic
namespace Go.Proofs.Ytefpoapbodbenaa

theorem nd_le : ∀ {A B : List Nat}, A.Nodup → (∀ x, x ∈ A → x ∈ B) → A.length ≤ B.length
  | [], _, _, _ => Nat.zero_le _
  | a :: A, B, h, hs => by
    rw [List.nodup_cons] at h
    have ha : a ∈ B := hs a (List.mem_cons_self ..)
    have h1 := nd_le (B := B.erase a) h.2 fun x hx => (List.mem_erase_of_ne (fun e => h.1 (by rw [← e]; exact hx))).2 (hs x (List.mem_cons_of_mem _ hx))
    rw [List.length_erase_of_mem ha] at h1
    have := List.length_pos_of_mem ha
    simp only [List.length_cons]; omega
theorem nd_all {A B : List Nat} (hA : A.Nodup) (hs : ∀ x, x ∈ A → x ∈ B) (hl : B.length ≤ A.length) {x : Nat} (hx : x ∈ B) : x ∈ A := by
  apply Classical.byContradiction
  intro h
  have := nd_le (A := x :: A) (B := B) (List.nodup_cons.2 ⟨h, hA⟩) fun y hy => by
    rcases List.mem_cons.1 hy with rfl | g
    · exact hx
    · exact hs y g
  simp only [List.length_cons] at this
  omega
def upd {α : Type} (f : Nat → α) (j : Nat) (u : α) : Nat → α := fun y => if y = j then u else f y
theorem upd_at {α : Type} (f : Nat → α) (j : Nat) (u : α) : upd f j u j = u := if_pos rfl
theorem upd_ne {α : Type} (f : Nat → α) {j y : Nat} (u : α) (h : y ≠ j) : upd f j u y = f y := if_neg h
theorem upd_eq {α : Type} (f : Nat → α) {j y : Nat} (u : α) (h : y = j) : upd f j u y = u := if_pos h

/-- The parts: how many blocks there are; the block of each state; each block's states; those of them that were told; which blocks wait. -/
structure Ps where
  nb : Nat
  blk : Nat → Nat
  S : Nat → List Nat
  T : Nat → List Nat
  W : Nat → Bool
  Q : List Nat
def addP (s : Ps) (l : List Nat) : Ps := { s with nb := s.nb + 1, S := upd s.S s.nb l, T := upd s.T s.nb [], W := upd s.W s.nb false }
def waitP (s : Ps) (b : Nat) : Ps := { s with W := upd s.W b true, Q := s.Q ++ [b] }
def setP (s : Ps) (l : List Nat) (k : Nat) : Ps := { s with blk := fun i => if i ∈ l then k else s.blk i }
def cutP (s : Ps) (b k : Nat) : Ps := { s with S := upd s.S b ((s.S b).filter fun i => !decide (s.blk i = k)) }
def midP (s : Ps) (b : Nat) (l : List Nat) : Ps := cutP (setP (addP s l) l s.nb) b s.nb
def whoP (s : Ps) (b k : Nat) (l : List Nat) : Nat := if (s.W b || decide (l.length < (s.S b).length)) = true then k else b
def partP (s : Ps) (b : Nat) (l : List Nat) : Ps := waitP (midP s b l) (whoP (midP s b l) b s.nb l)
def zerP (s : Ps) (b : Nat) : Ps := { s with T := upd s.T b [] }
/-- They are parts of n states. -/
structure okH (n : Nat) (s : Ps) : Prop where
  bl : ∀ i, i < n → s.blk i < s.nb
  sn : ∀ k, k < s.nb → (s.S k).Nodup
  sm : ∀ k, k < s.nb → ∀ i, i ∈ s.S k ↔ i < n ∧ s.blk i = k
  ne : ∀ k, k < s.nb → s.S k ≠ []
  qn : s.Q.Nodup
  qm : ∀ k, k ∈ s.Q ↔ k < s.nb ∧ s.W k = true
theorem okH.le {n : Nat} {s : Ps} (h : okH n s) : s.nb ≤ n := by
  have hm : ∀ k, k < s.nb → (s.S k).headD 0 ∈ s.S k := fun k hk => by
    cases e : s.S k with
    | nil => exact absurd e (h.ne k hk)
    | cons a A => exact List.mem_cons_self ..
  have h1 : ((List.range s.nb).map fun k => (s.S k).headD 0).Nodup := by
    unfold List.Nodup
    rw [List.pairwise_map]
    refine List.Pairwise.imp_of_mem (R := fun a b => a ≠ b) (fun {a b} ha hb hne e => hne ?_) List.nodup_range
    have ha' := List.mem_range.1 ha
    have hb' := List.mem_range.1 hb
    have e1 := ((h.sm a ha' _).1 (hm a ha')).2
    have e2 := ((h.sm b hb' _).1 (hm b hb')).2
    rw [e] at e1
    omega
  have h2 := nd_le (B := List.range n) h1 fun x hx => by
    obtain ⟨k, hk, rfl⟩ := List.mem_map.1 hx
    have hk' := List.mem_range.1 hk
    exact List.mem_range.2 ((h.sm k hk' _).1 (hm k hk')).1
  simpa using h2
theorem okH.len {n : Nat} {s : Ps} (h : okH n s) {k : Nat} (hk : k < s.nb) : (s.S k).length ≤ n := by
  have := nd_le (B := List.range n) (h.sn k hk) fun x hx => List.mem_range.2 ((h.sm k hk x).1 hx).1
  simpa using this
theorem okH.ql {n : Nat} {s : Ps} (h : okH n s) : s.Q.length ≤ n := by
  have := nd_le (B := List.range s.nb) h.qn fun x hx => List.mem_range.2 ((h.qm x).1 hx).1
  have h2 := h.le
  simp at this
  omega
theorem midP_S {s : Ps} {b : Nat} {l : List Nat} (hb : b < s.nb) (k : Nat) : (midP s b l).S k = if k = b then (s.S b).filter (fun i => !decide ((if i ∈ l then s.nb else s.blk i) = s.nb)) else if k = s.nb then l else s.S k := by
  show upd (upd s.S s.nb l) b ((upd s.S s.nb l b).filter fun i => !decide ((if i ∈ l then s.nb else s.blk i) = s.nb)) k = _
  rw [upd_ne s.S l (show b ≠ s.nb by omega)]
  rfl
theorem whoP_or (s : Ps) (b k : Nat) (l : List Nat) : whoP s b k l = k ∨ (whoP s b k l = b ∧ s.W b = false) := by
  unfold whoP
  split
  · exact .inl rfl
  · rename_i h
    refine .inr ⟨rfl, ?_⟩
    cases e : s.W b with
    | false => rfl
    | true => exact absurd (by rw [e]; rfl) h

section
variable {n : Nat} {s : Ps} {b : Nat} {l : List Nat}
theorem partP_ok (h : okH n s) (hb : b < s.nb) (hl : l.Nodup) (h0 : l ≠ []) (hlb : ∀ i, i ∈ l → i < n ∧ s.blk i = b) (hlt : l.length < (s.S b).length) : okH n (partP s b l) := by
  have hW : (midP s b l).W b = s.W b := upd_ne s.W false (show b ≠ s.nb by omega)
  have hwc := whoP_or (midP s b l) b s.nb l
  rw [hW] at hwc
  generalize hc : whoP (midP s b l) b s.nb l = c at hwc
  have hcq : c ∉ s.Q := fun g => by
    have := (h.qm c).1 g
    rcases hwc with rfl | ⟨rfl, e⟩
    · omega
    · rw [e] at this; cases this.2
  have hcn : c < s.nb + 1 := by rcases hwc with rfl | ⟨rfl, _⟩ <;> omega
  have eW : ∀ k, (partP s b l).W k = if k = c then true else if k = s.nb then false else s.W k := fun k => by
    show (waitP (midP s b l) (whoP (midP s b l) b s.nb l)).W k = _
    rw [hc]; rfl
  have eQ : (partP s b l).Q = s.Q ++ [c] := by
    show (waitP (midP s b l) (whoP (midP s b l) b s.nb l)).Q = _
    rw [hc]; rfl
  have eS : ∀ k, (partP s b l).S k = _ := fun k => midP_S (l := l) hb k
  have eB : ∀ i, (partP s b l).blk i = if i ∈ l then s.nb else s.blk i := fun i => rfl
  have eN : (partP s b l).nb = s.nb + 1 := rfl
  refine ⟨fun i hi => ?_, fun k hk => ?_, fun k hk i => ?_, fun k hk => ?_, ?_, fun k => ?_⟩
  · rw [eB, eN]
    have := h.bl i hi
    split <;> omega
  · rw [eS]
    split
    · exact List.Pairwise.filter _ (h.sn b hb)
    · split
      · exact hl
      · exact h.sn k (by rw [eN] at hk; omega)
  · rw [eS, eB]
    rw [eN] at hk
    by_cases e1 : k = b
    · subst e1
      rw [if_pos rfl, List.mem_filter, h.sm k hb]
      by_cases hi : i ∈ l
      · simp only [if_pos hi]
        simp
        omega
      · simp only [if_neg hi]
        constructor
        · rintro ⟨g, -⟩; exact g
        · intro g; exact ⟨g, by simp; omega⟩
    · rw [if_neg e1]
      by_cases e2 : k = s.nb
      · rw [if_pos e2]
        subst e2
        by_cases hi : i ∈ l
        · rw [if_pos hi]; exact ⟨fun _ => ⟨(hlb i hi).1, rfl⟩, fun _ => hi⟩
        · rw [if_neg hi]; exact ⟨fun g => absurd g hi, fun g => by have := h.bl i g.1; omega⟩
      · rw [if_neg e2, h.sm k (by omega)]
        by_cases hi : i ∈ l
        · rw [if_pos hi]
          have := (hlb i hi).2
          constructor
          · rintro ⟨_, g⟩; omega
          · rintro ⟨_, g⟩; omega
        · rw [if_neg hi]
  · rw [eS]
    rw [eN] at hk
    split
    · have hex : ∃ i, i ∈ s.S b ∧ i ∉ l := by
        apply Classical.byContradiction
        intro hno
        have := nd_le (B := l) (h.sn b hb) fun x hx => Classical.byContradiction fun g => hno ⟨x, hx, g⟩
        omega
      obtain ⟨i, g1, g2⟩ := hex
      intro e
      have : i ∈ (s.S b).filter (fun i => !decide ((if i ∈ l then s.nb else s.blk i) = s.nb)) := by
        rw [List.mem_filter]
        refine ⟨g1, ?_⟩
        rw [if_neg g2]
        have := ((h.sm b hb i).1 g1).2
        simp; omega
      rw [e] at this
      cases this
    · split
      · exact h0
      · exact h.ne k (by omega)
  · rw [eQ, List.nodup_append]
    refine ⟨h.qn, by simp, fun a ha d hd e => ?_⟩
    have : d = c := by simpa using hd
    subst this
    exact hcq (e ▸ ha)
  · rw [eQ, eW, eN, List.mem_append]
    by_cases e1 : k = c
    · rw [if_pos e1]
      exact ⟨fun _ => ⟨by omega, rfl⟩, fun _ => .inr (by simp [e1])⟩
    · rw [if_neg e1]
      have e3 : k ∈ [c] ↔ False := by simp [e1]
      rw [e3, or_false, h.qm k]
      by_cases e2 : k = s.nb
      · rw [if_pos e2]
        constructor
        · rintro ⟨g, _⟩; omega
        · rintro ⟨_, g⟩; cases g
      · rw [if_neg e2]
        constructor
        · rintro ⟨g1, g2⟩; exact ⟨by omega, g2⟩
        · rintro ⟨g1, g2⟩; exact ⟨by omega, g2⟩
theorem partP_W (hb : b < s.nb) : ((partP s b l).W b = true ∨ (partP s b l).W s.nb = true) ∧ (s.W b = true → (partP s b l).W s.nb = true) ∧ ∀ k, k < s.nb → s.W k = true → (partP s b l).W k = true := by
  have hW : (midP s b l).W b = s.W b := upd_ne s.W false (show b ≠ s.nb by omega)
  have hwc := whoP_or (midP s b l) b s.nb l
  rw [hW] at hwc
  generalize hc : whoP (midP s b l) b s.nb l = c at hwc
  have eW : ∀ k, (partP s b l).W k = if k = c then true else if k = s.nb then false else s.W k := fun k => by
    show (waitP (midP s b l) (whoP (midP s b l) b s.nb l)).W k = _
    rw [hc]; rfl
  refine ⟨?_, fun g => ?_, fun k hk g => ?_⟩
  · rcases hwc with rfl | ⟨rfl, _⟩
    · right; rw [eW, if_pos rfl]
    · left; rw [eW, if_pos rfl]
  · rcases hwc with rfl | ⟨rfl, e⟩
    · rw [eW, if_pos rfl]
    · rw [e] at g; cases g
  · rw [eW]
    split
    · rfl
    · rw [if_neg (by omega)]; exact g
end

/-- Behind the blocks D of those that some states are parted from. -/
structure dvI (n : Nat) (s : Ps) (so D : List Nat) (t : Ps) : Prop where
  ok : okH n t
  tl : ∀ k, t.T k = if k ∈ D then [] else so.filter (fun i => s.blk i == k)
  rf : ∀ i j, i < n → j < n → (t.blk i = t.blk j ↔ s.blk i = s.blk j ∧ (s.blk i ∈ D → (i ∈ so ↔ j ∈ so)))
  st : ∀ i, i < n → s.blk i ∉ D → t.blk i = s.blk i
  w1 : ∀ i j, i < n → j < n → s.blk i = s.blk j → t.blk i = t.blk j ∨ t.W (t.blk i) = true ∨ t.W (t.blk j) = true
  w2 : ∀ i, i < n → s.W (s.blk i) = true → t.W (t.blk i) = true
  nb : s.nb ≤ t.nb
  ms : 2 * (n - t.nb) + t.Q.length ≤ 2 * (n - s.nb) + s.Q.length
/-- Some states were told, each to its block. -/
def tolP (s : Ps) (so : List Nat) (j : Nat) : Ps := { s with T := fun k => (so.take j).filter fun i => s.blk i == k }
theorem tolP_zero {s : Ps} (so : List Nat) (h : ∀ k, s.T k = []) : tolP s so 0 = s := by
  have : s.T = fun k => (so.take 0).filter fun i => s.blk i == k := funext fun k => by rw [h k]; rfl
  unfold tolP
  rw [← this]
theorem tolP_next {s : Ps} {so : List Nat} {j x : Nat} (hx : so[j]? = some x) : tolP s so (j + 1) = { tolP s so j with T := upd (tolP s so j).T (s.blk x) ((tolP s so j).T (s.blk x) ++ [x]) } := by
  have ht : so.take (j + 1) = so.take j ++ [x] := by rw [List.take_add_one, hx]; rfl
  unfold tolP
  simp only
  congr 1
  funext k
  rw [ht, List.filter_append]
  unfold upd
  by_cases e : k = s.blk x
  · subst e
    rw [if_pos rfl]
    simp
  · rw [if_neg e]
    have : (s.blk x == k) = false := by simp; omega
    simp [this]
/-- The blocks of the first of some states. -/
def bkI (s : Ps) (so : List Nat) (j : Nat) (B : List Nat) : Prop := B.Nodup ∧ ∀ k, k ∈ B ↔ ∃ i, i ∈ so.take j ∧ s.blk i = k
theorem bkI_zero (s : Ps) (so : List Nat) : bkI s so 0 [] := ⟨List.nodup_nil, fun _ => ⟨fun h => (nomatch h), fun ⟨_, h, _⟩ => (nomatch h)⟩⟩
theorem bkI_test {s : Ps} {so : List Nat} {j : Nat} {B : List Nat} (h : bkI s so j B) (k : Nat) : (tolP s so j).T k = [] ↔ k ∉ B := by
  show (so.take j).filter (fun i => s.blk i == k) = [] ↔ _
  rw [h.2 k, List.filter_eq_nil_iff]
  constructor
  · rintro g ⟨i, hi, e⟩; exact g i hi (by simp [e])
  · intro g i hi e; exact g ⟨i, hi, by simpa using e⟩
theorem bkI_in {s : Ps} {so : List Nat} {j x : Nat} {B : List Nat} (h : bkI s so j B) (hx : so[j]? = some x) (hb : s.blk x ∈ B) : bkI s so (j + 1) B := by
  have ht : so.take (j + 1) = so.take j ++ [x] := by rw [List.take_add_one, hx]; rfl
  refine ⟨h.1, fun k => ?_⟩
  rw [ht]
  constructor
  · intro g
    obtain ⟨i, h1, h2⟩ := (h.2 k).1 g
    exact ⟨i, List.mem_append_left _ h1, h2⟩
  · rintro ⟨i, h1, h2⟩
    rcases List.mem_append.1 h1 with g | g
    · exact (h.2 k).2 ⟨i, g, h2⟩
    · have : i = x := by simpa using g
      subst this; exact h2 ▸ hb
theorem bkI_put {s : Ps} {so : List Nat} {j x : Nat} {B : List Nat} (h : bkI s so j B) (hx : so[j]? = some x) (hb : s.blk x ∉ B) : bkI s so (j + 1) (B ++ [s.blk x]) := by
  have ht : so.take (j + 1) = so.take j ++ [x] := by rw [List.take_add_one, hx]; rfl
  refine ⟨?_, fun k => ?_⟩
  · rw [List.nodup_append]
    refine ⟨h.1, by simp, fun a ha d hd e => ?_⟩
    have : d = s.blk x := by simpa using hd
    subst this
    exact hb (e ▸ ha)
  · rw [ht, List.mem_append, h.2 k]
    constructor
    · rintro (⟨i, h1, h2⟩ | g)
      · exact ⟨i, List.mem_append_left _ h1, h2⟩
      · have : k = s.blk x := by simpa using g
        exact ⟨x, by simp, this.symm⟩
    · rintro ⟨i, h1, h2⟩
      rcases List.mem_append.1 h1 with g | g
      · exact .inl ⟨i, g, h2⟩
      · have : i = x := by simpa using g
        subst this; exact .inr (by simp [h2])

section
variable {n : Nat} {s t : Ps} {so D : List Nat} {b : Nat}
theorem dvI_zero (h : okH n s) : dvI n s so [] (tolP s so so.length) where
  ok := ⟨h.bl, h.sn, h.sm, h.ne, h.qn, h.qm⟩
  tl k := by show (so.take so.length).filter _ = _; rw [List.take_length]; simp
  rf i j _ _ := ⟨fun e => ⟨e, fun g => (nomatch g)⟩, fun e => e.1⟩
  st _ _ _ := rfl
  w1 _ _ _ _ e := .inl e
  w2 _ _ e := e
  nb := Nat.le_refl _
  ms := Nat.le_refl _
theorem dvI.mem (h : dvI n s so D t) (hbD : b ∉ D) (i : Nat) : i ∈ t.T b ↔ i ∈ so ∧ s.blk i = b := by
  rw [h.tl b, if_neg hbD, List.mem_filter]
  simp
theorem dvI.keep (h : dvI n s so D t) (hbD : b ∉ D) (hb : b < s.nb) (hso : so.Nodup) (hsn : ∀ i, i ∈ so → i < n) (hge : ¬ (t.T b).length < (t.S b).length) : dvI n s so (D ++ [b]) (zerP t b) := by
  have hall : ∀ i, i < n → s.blk i = b → i ∈ so := fun i hi e => by
    have h1 : i ∈ t.S b := (h.ok.sm b (Nat.lt_of_lt_of_le hb h.nb) i).2 ⟨hi, (h.st i hi (e.symm ▸ hbD)).trans e⟩
    have h2 : i ∈ t.T b := nd_all (A := t.T b) (B := t.S b) (by rw [h.tl b, if_neg hbD]; exact List.Pairwise.filter _ hso) (fun x hx => by
      obtain ⟨g1, g2⟩ := (h.mem hbD x).1 hx
      exact (h.ok.sm b (Nat.lt_of_lt_of_le hb h.nb) x).2 ⟨hsn x g1, (h.st x (hsn x g1) (g2.symm ▸ hbD)).trans g2⟩) (by omega) h1
    exact ((h.mem hbD i).1 h2).1
  refine ⟨⟨h.ok.bl, h.ok.sn, h.ok.sm, h.ok.ne, h.ok.qn, h.ok.qm⟩, fun k => ?_, fun i j hi hj => ?_, fun i hi g => h.st i hi fun g2 => g (List.mem_append_left _ g2), h.w1, h.w2, h.nb, h.ms⟩
  · show upd t.T b [] k = _
    by_cases e : k = b
    · subst e; rw [upd_at, if_pos (by simp)]
    · rw [upd_ne _ _ e, h.tl k]
      have : k ∈ D ++ [b] ↔ k ∈ D := by simp [e]
      simp only [this]
  · show t.blk i = t.blk j ↔ _
    rw [h.rf i j hi hj]
    constructor
    · rintro ⟨g1, g2⟩
      refine ⟨g1, fun g => ?_⟩
      rcases List.mem_append.1 g with g | g
      · exact g2 g
      · have e : s.blk i = b := by simpa using g
        exact ⟨fun _ => hall j hj (g1 ▸ e), fun _ => hall i hi e⟩
    · rintro ⟨g1, g2⟩
      exact ⟨g1, fun g => g2 (List.mem_append_left _ g)⟩
theorem dvI.part (hs : okH n s) (h : dvI n s so D t) (hbD : b ∉ D) (hb : b < s.nb) (hso : so.Nodup) (hsn : ∀ i, i ∈ so → i < n) (h0 : t.T b ≠ []) (hlt : (t.T b).length < (t.S b).length) : dvI n s so (D ++ [b]) (zerP (partP t b (t.T b)) b) := by
  have hbt : b < t.nb := Nat.lt_of_lt_of_le hb h.nb
  have hm := h.mem hbD
  have hn : (t.T b).Nodup := by rw [h.tl b, if_neg hbD]; exact List.Pairwise.filter _ hso
  have htl : ∀ i, i ∈ t.T b → i < n ∧ t.blk i = b := fun i hi => by
    obtain ⟨g1, g2⟩ := (hm i).1 hi
    exact ⟨hsn i g1, (h.st i (hsn i g1) (g2.symm ▸ hbD)).trans g2⟩
  have hok := partP_ok h.ok hbt hn h0 htl hlt
  obtain ⟨q1, q2, q3⟩ := partP_W (s := t) (b := b) (l := t.T b) hbt
  have hlen : (partP t b (t.T b)).Q.length = t.Q.length + 1 := by
    show (t.Q ++ [_]).length = _
    simp
  have htz : ∀ k, (partP t b (t.T b)).T k = upd t.T t.nb [] k := fun _ => rfl
  have hbl : ∀ i, (partP t b (t.T b)).blk i = if i ∈ t.T b then t.nb else t.blk i := fun _ => rfl
  have hnb : (partP t b (t.T b)).nb = t.nb + 1 := rfl
  generalize partP t b (t.T b) = u at hok q1 q2 q3 hlen htz hbl hnb
  generalize hl : t.T b = l at hm hn htl hbl h0 hlt
  refine ⟨⟨hok.bl, hok.sn, hok.sm, hok.ne, hok.qn, hok.qm⟩, fun k => ?_, fun i j hi hj => ?_, fun i hi g => ?_, fun i j hi hj e => ?_, fun i hi g => ?_, ?_, ?_⟩
  · show upd u.T b [] k = _
    by_cases e : k = b
    · subst e; rw [upd_at, if_pos (by simp)]
    · rw [upd_ne _ _ e, htz]
      have hkD : k ∈ D ++ [b] ↔ k ∈ D := by simp [e]
      simp only [hkD]
      by_cases e2 : k = t.nb
      · rw [upd_eq _ _ e2]
        split
        · rfl
        · symm
          rw [List.filter_eq_nil_iff]
          intro i hi g
          have := hs.bl i (hsn i hi)
          have := h.nb
          have : s.blk i = k := by simpa using g
          omega
      · rw [upd_ne _ _ e2]; exact h.tl k
  · show u.blk i = u.blk j ↔ _
    rw [hbl, hbl]
    have b1 := h.ok.bl i hi
    have b2 := h.ok.bl j hj
    by_cases e1 : i ∈ l <;> by_cases e2 : j ∈ l
    · rw [if_pos e1, if_pos e2]
      obtain ⟨g1, g2⟩ := (hm i).1 e1
      obtain ⟨g3, g4⟩ := (hm j).1 e2
      exact ⟨fun _ => ⟨g2.trans g4.symm, fun _ => ⟨fun _ => g3, fun _ => g1⟩⟩, fun _ => rfl⟩
    · rw [if_pos e1, if_neg e2]
      obtain ⟨g1, g2⟩ := (hm i).1 e1
      refine ⟨fun g => by omega, fun ⟨g3, g4⟩ => absurd ((hm j).2 ⟨(g4 (by simp [g2])).1 g1, g3 ▸ g2⟩) e2⟩
    · rw [if_neg e1, if_pos e2]
      obtain ⟨g1, g2⟩ := (hm j).1 e2
      refine ⟨fun g => by omega, fun ⟨g3, g4⟩ => absurd ((hm i).2 ⟨(g4 (by simp [g3, g2])).2 g1, g3.trans g2⟩) e1⟩
    · rw [if_neg e1, if_neg e2, h.rf i j hi hj]
      constructor
      · rintro ⟨g1, g2⟩
        refine ⟨g1, fun g => ?_⟩
        rcases List.mem_append.1 g with g | g
        · exact g2 g
        · have e : s.blk i = b := by simpa using g
          exact ⟨fun k => absurd ((hm i).2 ⟨k, e⟩) e1, fun k => absurd ((hm j).2 ⟨k, g1 ▸ e⟩) e2⟩
      · rintro ⟨g1, g2⟩
        exact ⟨g1, fun g => g2 (List.mem_append_left _ g)⟩
  · show u.blk i = _
    have hni : i ∉ l := fun e => g (by rw [((hm i).1 e).2]; simp)
    rw [hbl, if_neg hni]
    exact h.st i hi fun g2 => g (List.mem_append_left _ g2)
  · show u.blk i = u.blk j ∨ u.W (u.blk i) = true ∨ u.W (u.blk j) = true
    rw [hbl, hbl]
    by_cases e1 : i ∈ l <;> by_cases e2 : j ∈ l
    · rw [if_pos e1, if_pos e2]; exact .inl rfl
    · rw [if_pos e1, if_neg e2]
      have g2 := ((hm i).1 e1).2
      have g3 : t.blk j = b := (h.st j hj (by rw [← e, g2]; exact hbD)).trans (e ▸ g2)
      rw [g3]
      exact q1.elim (fun g => .inr (.inr g)) fun g => .inr (.inl g)
    · rw [if_neg e1, if_pos e2]
      have g2 := ((hm j).1 e2).2
      have g3 : t.blk i = b := (h.st i hi (by rw [e, g2]; exact hbD)).trans (e ▸ g2)
      rw [g3]
      exact q1.elim (fun g => .inr (.inl g)) fun g => .inr (.inr g)
    · rw [if_neg e1, if_neg e2]
      exact (h.w1 i j hi hj e).imp id fun g => g.imp (q3 _ (h.ok.bl i hi)) (q3 _ (h.ok.bl j hj))
  · show u.W (u.blk i) = true
    have h1 := h.w2 i hi g
    rw [hbl]
    by_cases e1 : i ∈ l
    · rw [if_pos e1]
      rw [(htl i e1).2] at h1
      exact q2 h1
    · rw [if_neg e1]
      exact q3 _ (h.ok.bl i hi) h1
  · show s.nb ≤ u.nb
    have := h.nb; omega
  · show 2 * (n - u.nb) + u.Q.length ≤ _
    have h1 := h.ms
    have h2 := hok.le
    omega
/-- Some states are parted from all others. -/
structure dvE (n : Nat) (s : Ps) (so : List Nat) (t : Ps) : Prop where
  ok : okH n t
  tz : ∀ k, t.T k = []
  rf : ∀ i j, i < n → j < n → (t.blk i = t.blk j ↔ s.blk i = s.blk j ∧ (i ∈ so ↔ j ∈ so))
  w1 : ∀ i j, i < n → j < n → s.blk i = s.blk j → t.blk i = t.blk j ∨ t.W (t.blk i) = true ∨ t.W (t.blk j) = true
  w2 : ∀ i, i < n → s.W (s.blk i) = true → t.W (t.blk i) = true
  ms : 2 * (n - t.nb) + t.Q.length ≤ 2 * (n - s.nb) + s.Q.length
theorem dvI.end (h : dvI n s so D t) (hD : bkI s so so.length D) : dvE n s so t := by
  have hD2 : ∀ i, i ∈ so → s.blk i ∈ D := fun i hi => (hD.2 _).2 ⟨i, by rw [List.take_length]; exact hi, rfl⟩
  refine ⟨h.ok, fun k => ?_, fun i j hi hj => ?_, h.w1, h.w2, h.ms⟩
  · rw [h.tl k]
    split
    · rfl
    · rename_i g
      rw [List.filter_eq_nil_iff]
      intro i hi e
      have : s.blk i = k := by simpa using e
      exact g (this ▸ hD2 i hi)
  · rw [h.rf i j hi hj]
    constructor
    · rintro ⟨g1, g2⟩
      refine ⟨g1, ⟨fun g => (g2 (hD2 i g)).1 g, fun g => (g2 (g1 ▸ hD2 j g)).2 g⟩⟩
    · rintro ⟨g1, g2⟩; exact ⟨g1, fun _ => g2⟩
end

/-- Where the dividing stands: R has the symbols by which what goes to A is yet to be parted. -/
structure hpI (x : Da) (s : Ps) (R : Nat → Prop) (A : List Nat) : Prop where
  ok : okH x.n2 s
  tz : ∀ k, s.T k = []
  fi : ∀ i j, i < x.n2 → j < x.n2 → s.blk i = s.blk j → x.T i = x.T j
  co : ∀ i j, i < x.n2 → j < x.n2 → lnW x i = lnW x j → s.blk i = s.blk j
  hp : ∀ i j y, i < x.n2 → j < x.n2 → y < 259 → s.blk i = s.blk j → s.blk (goD x i y) = s.blk (goD x j y) ∨ s.W (s.blk (goD x i y)) = true ∨ s.W (s.blk (goD x j y)) = true ∨ (R y ∧ ¬ (goD x i y ∈ A ↔ goD x j y ∈ A))
  ca : ∀ i j, i < x.n2 → j < x.n2 → lnW x i = lnW x j → (i ∈ A ↔ j ∈ A)
/-- All states in one block. -/
def oneP (n : Nat) : Ps := ⟨1, fun _ => 0, upd (fun _ => []) 0 (List.range n), fun _ => [], fun _ => false, []⟩
theorem oneP_ok {n : Nat} (h : 1 ≤ n) : okH n (oneP n) where
  bl _ _ := Nat.zero_lt_one
  sn k hk := by
    have : k = 0 := by have : k < 1 := hk; omega
    subst this
    exact List.nodup_range
  sm k hk i := by
    have : k = 0 := by have : k < 1 := hk; omega
    subst this
    show i ∈ List.range n ↔ _
    rw [List.mem_range]
    exact ⟨fun h => ⟨h, rfl⟩, fun h => h.1⟩
  ne k hk := by
    have : k = 0 := by have : k < 1 := hk; omega
    subst this
    show List.range n ≠ []
    intro e
    have := congrArg List.length e
    simp at this
    omega
  qn := List.nodup_nil
  qm k := ⟨fun h => (nomatch h), fun h => (nomatch h.2)⟩
section
variable {x : Da} {s t : Ps} {R : Nat → Prop} {A so : List Nat}
theorem hpI_start (hx : rgD x) (h : dvE x.n2 (oneP x.n2) so t) (hso : ∀ i, i ∈ so ↔ i < x.n2 ∧ x.T i = true) : hpI x t (fun _ => False) [] where
  ok := h.ok
  tz := h.tz
  fi i j hi hj e := by
    have := ((h.rf i j hi hj).1 e).2
    rw [hso, hso] at this
    rw [Bool.eq_iff_iff]
    exact ⟨fun g => (this.1 ⟨hi, g⟩).2, fun g => (this.2 ⟨hj, g⟩).2⟩
  co i j hi hj e := by
    have := lnW_T e
    rw [h.rf i j hi hj, hso, hso, this]
    exact ⟨rfl, ⟨fun g => ⟨hj, g.2⟩, fun g => ⟨hi, g.2⟩⟩⟩
  hp i j y hi hj hy _ := (h.w1 _ _ (goD_at hx hi hy).2.2 (goD_at hx hj hy).2.2 rfl).imp id fun g => g.imp id .inl
  ca _ _ _ _ _ := ⟨fun h => (nomatch h), fun h => (nomatch h)⟩
/-- A block that waits is taken. -/
def tkP (s : Ps) (b : Nat) (Q : List Nat) : Ps := { s with W := upd s.W b false, Q := Q }
theorem hpI_take {b : Nat} {Q : List Nat} (h : hpI x s (fun _ => False) A) (hx : rgD x) (hQ : s.Q = Q ++ [b]) : hpI x (tkP s b Q) (fun _ => True) (s.S b) := by
  have hqn := h.ok.qn
  rw [hQ, List.nodup_append] at hqn
  have hbQ : b ∉ Q := fun g => hqn.2.2 b g b (by simp) rfl
  have hb : b < s.nb ∧ s.W b = true := (h.ok.qm b).1 (by rw [hQ]; simp)
  have hS := h.ok.sm b hb.1
  refine ⟨⟨h.ok.bl, h.ok.sn, h.ok.sm, h.ok.ne, hqn.1, fun k => ?_⟩, h.tz, h.fi, h.co, fun i j y hi hj hy e => ?_, fun i j hi hj e => ?_⟩
  · show k ∈ Q ↔ k < s.nb ∧ upd s.W b false k = true
    by_cases e : k = b
    · subst e
      rw [upd_at]
      exact ⟨fun g => absurd g hbQ, fun g => (nomatch g.2)⟩
    · rw [upd_ne _ _ e, ← h.ok.qm k, hQ]
      simp [e]
  · show s.blk (goD x i y) = s.blk (goD x j y) ∨ upd s.W b false (s.blk (goD x i y)) = true ∨ upd s.W b false (s.blk (goD x j y)) = true ∨ (True ∧ ¬ (goD x i y ∈ s.S b ↔ goD x j y ∈ s.S b))
    have li := (goD_at hx hi hy).2.2
    have lj := (goD_at hx hj hy).2.2
    rw [hS, hS]
    by_cases e1 : s.blk (goD x i y) = b <;> by_cases e2 : s.blk (goD x j y) = b
    · exact .inl (e1.trans e2.symm)
    · exact .inr (.inr (.inr ⟨trivial, fun g => e2 (g.1 ⟨li, e1⟩).2⟩))
    · exact .inr (.inr (.inr ⟨trivial, fun g => e1 (g.2 ⟨lj, e2⟩).2⟩))
    · rw [upd_ne _ _ e1, upd_ne _ _ e2]
      rcases h.hp i j y hi hj hy e with g | g | g | g
      · exact .inl g
      · exact .inr (.inl g)
      · exact .inr (.inr (.inl g))
      · exact absurd g.1 id
  · rw [hS, hS, h.co i j hi hj e]
    exact ⟨fun g => ⟨hj, g.2⟩, fun g => ⟨hi, g.2⟩⟩
theorem hpI_div {c : Nat} (h : hpI x s R A) (hx : rgD x) (hc : c < 259) (hso : ∀ i, i ∈ so ↔ i < x.n2 ∧ goD x i c ∈ A) (hd : dvE x.n2 s so t) : hpI x t (fun y => R y ∧ x.l0 y ≠ x.l0 c) A := by
  refine ⟨hd.ok, hd.tz, fun i j hi hj e => h.fi i j hi hj ((hd.rf i j hi hj).1 e).1, fun i j hi hj e => ?_, fun i j y hi hj hy e => ?_, h.ca⟩
  · rw [hd.rf i j hi hj]
    refine ⟨h.co i j hi hj e, ?_⟩
    rw [hso, hso, h.ca _ _ (goD_at hx hi hc).2.2 (goD_at hx hj hc).2.2 (lnW_same e hc)]
    exact ⟨fun g => ⟨hj, g.2⟩, fun g => ⟨hi, g.2⟩⟩
  · obtain ⟨g1, g2⟩ := (hd.rf i j hi hj).1 e
    have li := (goD_at hx hi hy).2.2
    have lj := (goD_at hx hj hy).2.2
    rcases h.hp i j y hi hj hy g1 with g | g | g | ⟨g3, g4⟩
    · exact (hd.w1 _ _ li lj g).imp id fun k => k.imp id .inl
    · exact .inr (.inl (hd.w2 _ li g))
    · exact .inr (.inr (.inl (hd.w2 _ lj g)))
    · refine .inr (.inr (.inr ⟨⟨g3, fun k => ?_⟩, g4⟩))
      have e1 : goD x i y = goD x i c := by unfold goD; rw [k]
      have e2 : goD x j y = goD x j c := by unfold goD; rw [k]
      rw [hso, hso] at g2
      rw [e1, e2] at g4
      exact g4 ⟨fun k => (g2.1 ⟨hi, k⟩).2, fun k => (g2.2 ⟨hj, k⟩).2⟩
theorem hpI_round (h : hpI x s R A) (hR : ∀ y, y < 259 → ¬ R y) : hpI x s (fun _ => False) A :=
  ⟨h.ok, h.tz, h.fi, h.co, fun i j y hi hj hy e => (h.hp i j y hi hj hy e).imp id fun g => g.imp id fun g => g.imp id fun g => absurd g.1 (hR y hy), h.ca⟩
theorem hpI_run (h : hpI x s (fun _ => False) A) (hx : rgD x) (hQ : s.Q = []) : ∀ (w : List Nat) (i j : Nat), okw w → i < x.n2 → j < x.n2 → s.blk i = s.blk j → x.T (runW x i w) = x.T (runW x j w)
  | [], i, j, _, hi, hj, e => h.fi i j hi hj e
  | y :: w, i, j, hw, hi, hj, e => by
    rw [okw_cons] at hw
    rw [runW_cons, runW_cons]
    have li := (goD_at hx hi hw.1).2.2
    have lj := (goD_at hx hj hw.1).2.2
    have hno : ∀ k, k < s.nb → s.W k = true → False := fun k hk g => by
      have := (h.ok.qm k).2 ⟨hk, g⟩
      rw [hQ] at this; cases this
    refine hpI_run h hx hQ w _ _ hw.2 li lj ?_
    rcases h.hp i j y hi hj hw.1 e with g | g | g | g
    · exact g
    · exact absurd g (hno _ (h.ok.bl _ li))
    · exact absurd g (hno _ (h.ok.bl _ lj))
    · exact absurd g.1 id
/-- Where none waits, the blocks' states are alike, and no others. -/
theorem hpI_end (h : hpI x s (fun _ => False) A) (hx : rgD x) (hQ : s.Q = []) {i j : Nat} (hi : i < x.n2) (hj : j < x.n2) : s.blk i = s.blk j ↔ lnW x i = lnW x j := by
  refine ⟨fun e => ?_, h.co i j hi hj⟩
  funext w
  apply propext
  unfold lnW
  constructor
  · rintro ⟨h1, h2⟩; exact ⟨h1, (hpI_run h hx hQ w i j h1 hi hj e) ▸ h2⟩
  · rintro ⟨h1, h2⟩; exact ⟨h1, (hpI_run h hx hQ w i j h1 hi hj e).symm ▸ h2⟩
end
theorem hdA_on {R R' : Nat → Nat → Bool} {x : Nat} (h : ∀ k, k < x → R k x = R' k x) : hdA R x = hdA R' x := by
  unfold hdA
  have : ∀ m, m ≤ x → (List.range m).find? (fun k => R k x) = (List.range m).find? (fun k => R' k x) := by
    intro m
    induction m with
    | zero => intro _; rfl
    | succ m ih =>
      intro hm
      rw [List.range_succ, List.find?_append, List.find?_append, ih (by omega)]
      congr 1
      simp only [List.find?_cons, List.find?_nil]
      rw [h m (by omega)]
  rw [this x (Nat.le_refl _)]
theorem cntT_on {T T' : Nat → Bool} {m : Nat} (h : ∀ q, q < m → T q = T' q) : cntT T m = cntT T' m := by
  unfold cntT
  congr 1
  exact List.filter_congr fun q hq => h q (List.mem_range.1 hq)
theorem cla_on {R R' : Nat → Nat → Bool} {n : Nat} (h : ∀ i k, i < n → k < n → R i k = R' i k) : (∀ j, j < n → clA R j = clA R' j) ∧ cntT (isH R) n = cntT (isH R') n := by
  have h1 : ∀ j, j < n → hdA R j = hdA R' j := fun j hj => hdA_on fun k hk => h k j (by omega) hj
  have h2 : ∀ j, j < n → isH R j = isH R' j := fun j hj => by unfold isH; rw [h1 j hj]
  refine ⟨fun j hj => ?_, cntT_on h2⟩
  unfold clA
  rw [h1 j hj]
  have := hdA_le R' j
  exact cntT_on fun q hq => h2 q (by omega)
end Go.Proofs.Ytefpoapbodbenaa

namespace Go.Proofs.Ytefpoapbodbenaa
open Go.RowKit

/-- The struct. -/
def isPs (w : World) (h : Nat) (U : Nat → Value) : Prop := w.heap[h]? = some (.cells #[U 0, U 1, U 2, U 3, U 4] 92 (0, 0))
section
variable {w w' : World} {h : Nat} {U : Nat → Value}
theorem isPs.lt (H : isPs w h U) : h < w.heap.size := lt_of_block H
theorem isPs.cells (H : isPs w h U) : w.cell? ⟨h, 0, none⟩ = some (U 0) ∧ w.cell? ⟨h, 1, none⟩ = some (U 1) ∧ w.cell? ⟨h, 2, none⟩ = some (U 2) ∧ w.cell? ⟨h, 3, none⟩ = some (U 3) ∧ w.cell? ⟨h, 4, none⟩ = some (U 4) := by
  unfold isPs at H
  refine ⟨?_, ?_, ?_, ?_, ?_⟩ <;> simp [World.cell?, H]
theorem isPs.free (H : isPs w h U) (j : Nat) : w.frozen? ⟨h, j, none⟩ = false := by
  unfold isPs at H
  simp [World.frozen?, H]
theorem isPs.grown {r : Option Nat} (H : isPs w h U) (hg : w.grownBy w' r) (hr : some h ≠ r) : isPs w' h U := (hg.block h H.lt hr).trans H
theorem isPs.below (H : isPs w h U) (hb : Below w.heap.size w w') : isPs w' h U := (hb.block h H.lt).trans H
theorem isPs.put (H : isPs w h U) (i : Nat) (hi : i < 5) (u : Value) : isPs (w.setCell ⟨h, i, none⟩ u) h (upd U i u) := by
  have h1 := heap_setCell_same w h i _ _ u H
  unfold isPs
  rw [h1]
  match i, hi with
  | 0, _ => simp [upd]
  | 1, _ => simp [upd]
  | 2, _ => simp [upd]
  | 3, _ => simp [upd]
  | 4, _ => simp [upd]
end
/-- The rows' numbers: the states of block k; those of them that were told. -/
def rS (k : Nat) : Nat := 5 + 2 * k
def rT (k : Nat) : Nat := 6 + 2 * k
def eT13 (r : Nat) : Nat := if r = 1 ∨ r = 2 then 22 else if r = 3 then 4 else 3
/-- Rows, each in a block of its own, none of them in X; U is what the struct names; what is in X is kept since w0. -/
structure Fm (X : Nat → Prop) (w0 w : World) (h : Nat) (U V : Nat → Value) (L : Nat → List Value) : Prop where
  st : isPs w h U
  row : ∀ r, w.ownsRow 0 (eT13 r) 1 (V r) (L r).length (L r)
  ap : ∀ r r', r ≠ r' → (V r).ownBlock = none ∨ (V r).ownBlock ≠ (V r').ownBlock
  nh : ∀ r, (V r).ownBlock ≠ some h
  nX : ∀ r b, (V r).ownBlock = some b → ¬ X b
  hX : ¬ X h
  Xl : ∀ k, X k → k < w.heap.size
  kp : kpX X w0 w
section
variable {X : Nat → Prop} {w0 w w' : World} {h : Nat} {U V : Nat → Value} {L : Nat → List Value}
theorem Fm.anew (H : Fm X w0 w h U V L) : Fm X w w h U V L := ⟨H.st, H.row, H.ap, H.nh, H.nX, H.hX, H.Xl, kpX.refl _ _⟩
theorem Fm.back {w1 : World} (H : Fm X w0 w h U V L) (hk : kpX X w1 w0) : Fm X w1 w h U V L := ⟨H.st, H.row, H.ap, H.nh, H.nX, H.hX, H.Xl, hk.trans H.kp⟩
theorem Fm.lt (H : Fm X w0 w h U V L) (r b : Nat) (e : (V r).ownBlock = some b) : b < w.heap.size := (World.ownsRow.lt (H.row r) b e).2
theorem Fm.below (H : Fm X w0 w h U V L) (hb : Below w.heap.size w w') : Fm X w0 w' h U V L :=
  ⟨H.st.below hb, fun r => owns_below (H.row r) hb, H.ap, H.nh, H.nX, H.hX, fun k hk => Nat.lt_of_lt_of_le (H.Xl k hk) hb.size, H.kp.trans (kpX.of_below hb)⟩
/-- A row has grown, or was written into. -/
theorem Fm.grow (H : Fm X w0 w h U V L) (r : Nat) {v : Value} {l : List Value} (hg : w.grownBy w' (V r).ownBlock) (hr : w'.ownsRow 0 (eT13 r) 1 v l.length l) (hat : v.ownBlock = (V r).ownBlock ∨ v.ownBlock = some w.heap.size) : Fm X w0 w' h U (upd V r v) (upd L r l) := by
  have hv : ∀ r', r' ≠ r → (V r').ownBlock = none ∨ (V r').ownBlock ≠ v.ownBlock := fun r' hne => by
    rcases hat with e | e
    · rw [e]; exact H.ap r' r hne
    · rw [e]
      cases hv : (V r').ownBlock with
      | none => exact .inl rfl
      | some b =>
        right
        have := H.lt r' b hv
        intro e2
        have : b = w.heap.size := by simpa using e2
        omega
  refine ⟨H.st.grown hg (Ne.symm (H.nh r)), fun r' => ?_, fun a b hne => ?_, fun r' => ?_, fun r' b e => ?_, H.hX, fun k hk => Nat.lt_of_lt_of_le (H.Xl k hk) hg.size, H.kp.trans (kpX.of_grown hg fun k e => H.nX r k e)⟩
  · by_cases e : r' = r
    · subst e; rw [upd_at, upd_at]; exact hr
    · rw [upd_ne _ _ e, upd_ne _ _ e]
      exact World.ownsRow.kept (H.row r') hg (H.ap r' r e)
  · by_cases ea : a = r
    · by_cases eb : b = r
      · omega
      · rw [upd_eq _ _ ea, upd_ne _ _ eb]
        rcases hv b eb with e | e
        · rw [e]
          cases v.ownBlock with
          | none => exact .inl rfl
          | some _ => exact .inr (by simp)
        · exact .inr (Ne.symm e)
    · by_cases eb : b = r
      · rw [upd_ne _ _ ea, upd_eq _ _ eb]; exact hv a ea
      · rw [upd_ne _ _ ea, upd_ne _ _ eb]; exact H.ap a b hne
  · by_cases e : r' = r
    · rw [upd_eq _ _ e]
      rcases hat with e2 | e2
      · rw [e2]; exact H.nh r
      · rw [e2]
        have := H.st.lt
        intro e3
        have : w.heap.size = h := by simpa using e3
        omega
    · rw [upd_ne _ _ e]; exact H.nh r'
  · by_cases e1 : r' = r
    · rw [upd_eq _ _ e1] at e
      rcases hat with e2 | e2
      · rw [e2] at e; exact H.nX r b e
      · rw [e2] at e
        have : w.heap.size = b := by simpa using e
        exact fun hx => by have := H.Xl b hx; omega
    · rw [upd_ne _ _ e1] at e; exact H.nX r' b e
theorem upd_same {α : Type} (f : Nat → α) (j : Nat) : upd f j (f j) = f := by
  funext y
  unfold upd
  split
  · rename_i e; rw [e]
  · rfl
theorem Fm.stored (H : Fm X w0 w h U V L) (r : Nat) {g c : Nat} (hV : V r = .slice (some ⟨g, 0, none⟩) (L r).length c) (j : Nat) (u : Value) : Fm X w0 (w.setCell ⟨g, j, none⟩ u) h U V (upd L r ((L r).set j u)) := by
  have hr := H.row r
  rw [hV] at hr
  have hs := (World.ownsRow.stored hr j u).1
  have hb : (V r).ownBlock = some g := by rw [hV]; rfl
  have := H.grow r (v := V r) (l := (L r).set j u) (hb ▸ grown_setCell w g j u) (by rw [List.length_set, hV]; exact hs) (.inl rfl)
  rw [upd_same] at this
  exact this
theorem Fm.put (H : Fm X w0 w h U V L) (i : Nat) (hi : i < 5) (u : Value) : Fm X w0 (w.setCell ⟨h, i, none⟩ u) h (upd U i u) V L := by
  have hg := grown_setCell w h i u
  exact ⟨H.st.put i hi u, fun r => World.ownsRow.kept (H.row r) hg (.inr (H.nh r)), H.ap, H.nh, H.nX, H.hX, fun k hk => Nat.lt_of_lt_of_le (H.Xl k hk) hg.size, H.kp.trans (kpX.of_grown hg fun k e => by cases e; exact H.hX)⟩
/-- The beginning of a row, in the same block. -/
theorem Fm.short (H : Fm X w0 w h U V L) (r : Nat) {p : Option Addr} {n c : Nat} (hV : V r = .slice p n c) (m : Nat) (hm : m ≤ n) : Fm X w0 w h U (upd V r (.slice p m c)) (upd L r ((L r).take m)) := by
  have hr := H.row r
  have hl : (L r).length = n := by
    rw [hV] at hr
    rcases hr.2 with ⟨e, e2⟩ | ⟨g, cap, cur, e, _⟩
    · cases e; exact e2
    · cases e; rfl
  refine H.grow r (w' := w) (World.grownBy.refl w _) ?_ (.inl (by rw [hV]; cases p <;> rfl))
  rw [hV, hl] at hr
  have hlt : ((L r).take m).length = m := by rw [List.length_take]; omega
  refine ⟨by omega, ?_⟩
  rw [hlt]
  rcases hr.2 with ⟨e, e2⟩ | ⟨g, cap, cur, e, h1, h2, h3, h4, h5, h6⟩
  · cases e
    have : m = 0 := by omega
    subst this
    exact .inl ⟨rfl, rfl⟩
  · cases e
    refine .inr ⟨g, c, cur, rfl, h1, h2, by omega, h4, h5, ?_⟩
    rw [← h6, List.take_take]
    congr 1
    omega
/-- A row that a call has made since the world w takes the place of another one. -/
theorem Fm.new (H : Fm X w0 w h U V L) (r : Nat) {v : Value} {l : List Value} (hb : Below w.heap.size w w') (hr : w'.ownsRow 0 (eT13 r) 1 v l.length l) (hf : ∀ b, v.ownBlock = some b → w.heap.size ≤ b) : Fm X w0 w' h U (upd V r v) (upd L r l) := by
  have H' := H.below hb
  have hv : ∀ r', (V r').ownBlock = none ∨ (V r').ownBlock ≠ v.ownBlock := fun r' => by
    cases e : (V r').ownBlock with
    | none => exact .inl rfl
    | some b =>
      right
      intro e2
      have := H.lt r' b e
      have := hf b e2.symm
      omega
  refine ⟨H'.st, fun r' => ?_, fun a b hne => ?_, fun r' => ?_, fun r' b e => ?_, H.hX, H'.Xl, H'.kp⟩
  · by_cases e : r' = r
    · subst e; rw [upd_at, upd_at]; exact hr
    · rw [upd_ne _ _ e, upd_ne _ _ e]; exact H'.row r'
  · by_cases ea : a = r
    · by_cases eb : b = r
      · omega
      · rw [upd_eq _ _ ea, upd_ne _ _ eb]
        rcases hv b with e | e
        · rw [e]
          cases v.ownBlock with
          | none => exact .inl rfl
          | some _ => exact .inr (by simp)
        · exact .inr (Ne.symm e)
    · by_cases eb : b = r
      · rw [upd_ne _ _ ea, upd_eq _ _ eb]; exact hv a
      · rw [upd_ne _ _ ea, upd_ne _ _ eb]; exact H.ap a b hne
  · by_cases e : r' = r
    · rw [upd_eq _ _ e]
      intro e2
      have := hf h e2
      have := H.st.lt
      omega
    · rw [upd_ne _ _ e]; exact H.nh r'
  · by_cases e1 : r' = r
    · rw [upd_eq _ _ e1] at e
      have := hf b e
      exact fun hx => by have := H.Xl b hx; omega
    · rw [upd_ne _ _ e1] at e; exact H.nX r' b e
theorem Fm.val (H : Fm X w0 w h U V L) (r : Nat) : ∃ p c, V r = .slice p (L r).length c ∧ (0 < (L r).length → ∃ g, p = some ⟨g, 0, none⟩) := by
  rcases (H.row r).2 with ⟨e, e2⟩ | ⟨g, cap, cur, e, _⟩
  · exact ⟨none, 0, by rw [e, e2], fun h0 => by omega⟩
  · exact ⟨_, cap, e, fun _ => ⟨g, rfl⟩⟩
theorem Fm.cell (H : Fm X w0 w h U V L) (r : Nat) {g m c : Nat} (hV : V r = .slice (some ⟨g, 0, none⟩) m c) {j : Nat} {u : Value} (hj : (L r)[j]? = some u) : w.cell? ⟨g, j, none⟩ = some u ∧ w.frozen? ⟨g, j, none⟩ = false ∧ g < w.heap.size ∧ j < m := by
  have hr := H.row r
  have hl : (L r).length = m := by
    rw [hV] at hr
    rcases hr.2 with ⟨e, e2⟩ | ⟨g, cap, cur, e, _⟩
    · cases e
    · cases e; rfl
  rw [hV, hl] at hr
  have hjl : j < (L r).length := by
    rcases Nat.lt_or_ge j (L r).length with h | h
    · exact h
    · rw [List.getElem?_eq_none h] at hj; cases hj
  exact ⟨(World.ownsRow.cellAt hr j (by omega)).trans hj, World.ownsRow.frozenAt hr j, (World.ownsRow.lt hr g rfl).2, by omega⟩
end
/-- What stands in the rows of parts. -/
def lP (n : Nat) (V : Nat → Value) (s : Ps) (r : Nat) : List Value :=
  if r = 0 then fnv (fun i => (s.blk i : Int)) n
  else if r = 1 then vls (fun k => V (rS k)) s.nb
  else if r = 2 then vls (fun k => V (rT k)) s.nb
  else if r = 3 then bls s.W s.nb
  else if r = 4 then spl9 s.Q
  else if r % 2 = 1 then spl9 (s.S ((r - 5) / 2)) else spl9 (s.T ((r - 6) / 2))
theorem lP0 (n : Nat) (V : Nat → Value) (s : Ps) : lP n V s 0 = fnv (fun i => (s.blk i : Int)) n := rfl
theorem lP1 (n : Nat) (V : Nat → Value) (s : Ps) : lP n V s 1 = vls (fun k => V (rS k)) s.nb := rfl
theorem lP2 (n : Nat) (V : Nat → Value) (s : Ps) : lP n V s 2 = vls (fun k => V (rT k)) s.nb := rfl
theorem lP3 (n : Nat) (V : Nat → Value) (s : Ps) : lP n V s 3 = bls s.W s.nb := rfl
theorem lP4 (n : Nat) (V : Nat → Value) (s : Ps) : lP n V s 4 = spl9 s.Q := rfl
theorem lPS (n : Nat) (V : Nat → Value) (s : Ps) (k : Nat) : lP n V s (rS k) = spl9 (s.S k) := by
  unfold lP rS
  rw [if_neg (by omega), if_neg (by omega), if_neg (by omega), if_neg (by omega), if_neg (by omega), if_pos (by omega), show (5 + 2 * k - 5) / 2 = k by omega]
theorem lPT (n : Nat) (V : Nat → Value) (s : Ps) (k : Nat) : lP n V s (rT k) = spl9 (s.T k) := by
  unfold lP rT
  rw [if_neg (by omega), if_neg (by omega), if_neg (by omega), if_neg (by omega), if_neg (by omega), if_neg (by omega), show (6 + 2 * k - 6) / 2 = k by omega]
/-- Each row is one of these. -/
theorem row_is (r : Nat) : r = 0 ∨ r = 1 ∨ r = 2 ∨ r = 3 ∨ r = 4 ∨ (∃ k, r = rS k) ∨ ∃ k, r = rT k := by
  unfold rS rT
  by_cases h : r < 5
  · omega
  · by_cases e : r % 2 = 1
    · exact .inr (.inr (.inr (.inr (.inr (.inl ⟨(r - 5) / 2, by omega⟩)))))
    · exact .inr (.inr (.inr (.inr (.inr (.inr ⟨(r - 6) / 2, by omega⟩)))))
theorem fn_ext {f g : Nat → List Value} (h0 : f 0 = g 0) (h1 : f 1 = g 1) (h2 : f 2 = g 2) (h3 : f 3 = g 3) (h4 : f 4 = g 4) (hS : ∀ k, f (rS k) = g (rS k)) (hT : ∀ k, f (rT k) = g (rT k)) : f = g := by
  funext r
  rcases row_is r with rfl | rfl | rfl | rfl | rfl | ⟨k, rfl⟩ | ⟨k, rfl⟩
  · exact h0
  · exact h1
  · exact h2
  · exact h3
  · exact h4
  · exact hS k
  · exact hT k
theorem fnv_len13 (f : Nat → Int) (n : Nat) : (fnv f n).length = n := by simp [fnv]
theorem vls_len (V : Nat → Value) (n : Nat) : (vls V n).length = n := by simp [vls]
/-- Parts in memory. -/
def PtM (X : Nat → Prop) (w0 w : World) (h n : Nat) (V : Nat → Value) (s : Ps) : Prop := Fm X w0 w h V V (lP n V s)
section
variable {X : Nat → Prop} {w0 w w' : World} {h n : Nat} {V : Nat → Value} {s : Ps}
theorem PtM.v0 (H : PtM X w0 w h n V s) : ∃ p c, V 0 = .slice p n c ∧ (0 < n → ∃ g, p = some ⟨g, 0, none⟩) := by
  have := Fm.val H 0
  rw [lP0, fnv_len13] at this; exact this
theorem PtM.v1 (H : PtM X w0 w h n V s) : ∃ p c, V 1 = .slice p s.nb c ∧ (0 < s.nb → ∃ g, p = some ⟨g, 0, none⟩) := by
  have := Fm.val H 1
  rw [lP1, vls_len] at this; exact this
theorem PtM.v2 (H : PtM X w0 w h n V s) : ∃ p c, V 2 = .slice p s.nb c ∧ (0 < s.nb → ∃ g, p = some ⟨g, 0, none⟩) := by
  have := Fm.val H 2
  rw [lP2, vls_len] at this; exact this
theorem PtM.v3 (H : PtM X w0 w h n V s) : ∃ p c, V 3 = .slice p s.nb c ∧ (0 < s.nb → ∃ g, p = some ⟨g, 0, none⟩) := by
  have := Fm.val H 3
  rw [lP3, bls_len] at this; exact this
theorem PtM.v4 (H : PtM X w0 w h n V s) : ∃ p c, V 4 = .slice p s.Q.length c ∧ (0 < s.Q.length → ∃ g, p = some ⟨g, 0, none⟩) := by
  have := Fm.val H 4
  rw [lP4, spl9_len] at this; exact this
theorem PtM.vS (H : PtM X w0 w h n V s) (k : Nat) : ∃ p c, V (rS k) = .slice p (s.S k).length c ∧ (0 < (s.S k).length → ∃ g, p = some ⟨g, 0, none⟩) := by
  have := Fm.val H (rS k)
  rw [lPS, spl9_len] at this; exact this
theorem PtM.vT (H : PtM X w0 w h n V s) (k : Nat) : ∃ p c, V (rT k) = .slice p (s.T k).length c ∧ (0 < (s.T k).length → ∃ g, p = some ⟨g, 0, none⟩) := by
  have := Fm.val H (rT k)
  rw [lPT, spl9_len] at this; exact this
end
end Go.Proofs.Ytefpoapbodbenaa

namespace Go.Proofs.Ytefpoapbodbenaa
open Go.RowKit

section
variable {X : Nat → Prop} {w0 w w' : World} {h n : Nat} {U V : Nat → Value} {L : Nat → List Value} {s : Ps}
theorem Fm.sp (H : Fm X w0 w h U V L) (r : Nat) (A : List Nat) (he : eT13 r = 3) (hl : L r = spl9 A) : spO w 0 (V r) A := by
  have := H.row r
  rw [he, hl, spl9_len] at this
  exact this
theorem Fm.growI (H : Fm X w0 w h U V L) (r : Nat) (A : List Nat) {v : Value} (he : eT13 r = 3) (hg : w.grownBy w' (V r).ownBlock) (ho : spO w' 0 v A) (hat : v.ownBlock = (V r).ownBlock ∨ v.ownBlock = some w.heap.size) : Fm X w0 w' h U (upd V r v) (upd L r (spl9 A)) :=
  H.grow r hg (by rw [he, spl9_len]; exact ho) hat
theorem eT13S (k : Nat) : eT13 (rS k) = 3 := by
  unfold eT13 rS
  rw [if_neg (by omega), if_neg (by omega)]
theorem eT13T (k : Nat) : eT13 (rT k) = 3 := by
  unfold eT13 rT
  rw [if_neg (by omega), if_neg (by omega)]
theorem rS_ne (k : Nat) {j : Nat} (h : j < 5) : rS k ≠ j := by unfold rS; omega
theorem rT_ne (k : Nat) {j : Nat} (h : j < 5) : rT k ≠ j := by unfold rT; omega
theorem rS_rT (k j : Nat) : rS k ≠ rT j := by unfold rS rT; omega
theorem rS_inj {k j : Nat} (h : k ≠ j) : rS k ≠ rS j := by unfold rS; omega
theorem rT_inj {k j : Nat} (h : k ≠ j) : rT k ≠ rT j := by unfold rT; omega
theorem vls_ext {V V' : Nat → Value} {m : Nat} (h : ∀ j, j < m → V j = V' j) : vls V m = vls V' m := by
  unfold vls
  exact List.map_congr_left fun i hi => h i (List.mem_range.1 hi)
theorem lP_wait (n : Nat) (V : Nat → Value) (s : Ps) (b : Nat) (v : Value) : upd (upd (lP n V s) 3 ((lP n V s 3).set b (.bool true))) 4 (spl9 (s.Q ++ [b])) = lP n (upd V 4 v) (waitP s b) := by
  refine fn_ext rfl ?_ ?_ ?_ rfl (fun k => ?_) fun k => ?_
  · exact vls_ext fun j _ => (upd_ne _ _ (rS_ne j (by decide))).symm
  · exact vls_ext fun j _ => (upd_ne _ _ (rT_ne j (by decide))).symm
  · exact bls_set s.W s.nb b true
  · rw [upd_ne _ _ (rS_ne k (by decide)), upd_ne _ _ (rS_ne k (by decide)), lPS, lPS]; rfl
  · rw [upd_ne _ _ (rT_ne k (by decide)), upd_ne _ _ (rT_ne k (by decide)), lPT, lPT]; rfl
end

set_option maxRecDepth 100000 in
set_option maxHeartbeats 4000000 in
theorem wait13 (X : Nat → Prop) (h n b : Nat) (V : Nat → Value) (s : Ps) (w0 w : World) (H : PtM X w0 w h n V s) (hb : b < s.nb) (hnb : s.nb ≤ 2000) (hq : s.Q.length ≤ 2000) :
    Calls Try.prog 74 #[.pointer (some ⟨h, 0, none⟩), .int .i64 (b : Int)] w fun e w' => e = .returned (.tuple #[]) ∧ ∃ V', PtM X w0 w' h n V' (waitP s b) ∧ ∀ r, r ≠ 4 → V' r = V r := by
  obtain ⟨p3, c3, e3, g3⟩ := H.v3
  obtain ⟨p4, c4, e4, -⟩ := H.v4
  obtain ⟨g, rfl⟩ := g3 (by omega)
  obtain ⟨k1, k2, k3, -⟩ := Fm.cell H 3 e3 (j := b) (u := .bool (s.W b)) (by rw [lP3]; exact bls_at _ _ _ hb)
  obtain ⟨-, -, -, y3, -⟩ := H.st.cells
  rw [e3] at y3
  have H1 := Fm.stored H 3 (by rw [lP3, bls_len]; exact e3) b (.bool true)
  obtain ⟨W1, hW1⟩ : ∃ W1, w.setCell ⟨g, b, none⟩ (.bool true) = W1 := ⟨_, rfl⟩
  rw [hW1] at H1
  have HW1 := Lib.hid hW1
  have H2 := H1.below ((Below.refl _ _).alloc (Nat.le_refl _) (.cells #[.int .i64 (b : Int)] 3))
  have HXA := Lib.hid (H2.sp 4 s.Q rfl rfl)
  rw [e4] at HXA
  have HF2 := Lib.hid H2
  have HM : Hid (s.Q.length ≤ 1000000) := Lib.hid (by omega)
  have HQL := Lib.hid hq
  have HLP := Lib.hid (lP_wait n V s b)
  have HE4 := Lib.hid e4
  have b0 : (0 : Int) ≤ (b : Int) := by omega
  have b1 : (b : Int) < (s.nb : Int) := by omega
  have b2 : (s.nb : Int) ≤ 2000 := by omega
  obtain ⟨-, -, -, -, z4⟩ := H1.st.cells
  rw [e4] at z4
  obtain ⟨q, hqq⟩ : ∃ q, s.Q.length = q := ⟨_, rfl⟩
  rw [hqq] at z4 HXA HM HE4
  have HQ := Lib.hid hqq
  clear hW1 H1 H2 H e3 e4 hqq hq
  go_enter Try.func74, Try.ntmps74
  go_upto_region 1 with (fail)
  rw [HW1.out]
  clear y3 k1 k2 k3
  go_wp2_with (at_builtin; refine append_nx2 rfl _ _ rfl 0 _ s.Q rfl (HQ.out ▸ HXA.out) W1.heap.size b rfl (by simp) (HQ.out ▸ HM.out) (Nat.zero_le _) ?_; intro v' w3 hown hgrow hat; have HO := Lib.hid hown; have HG := Lib.hid hgrow; have HAT := Lib.hid hat; clear hown hgrow hat; refine Hid.out ?_)
  obtain ⟨p', c', rfl⟩ := spO_of HO.out
  have H3 := HF2.out.growI 4 (s.Q ++ [b]) (v := .slice p' (s.Q ++ [b]).length c') rfl (by rw [HE4.out]; exact HG.out) HO.out (by rw [HE4.out]; exact HAT.out)
  have H4 := Lib.hid (H3.put 4 (by decide) (.slice p' (s.Q ++ [b]).length c'))
  obtain ⟨-, -, -, -, d4⟩ := H3.st.cells
  have d5 := H3.st.free 4
  have d6 := H3.st.lt
  rw [HE4.out] at d4
  have e1 : (s.Q ++ [b]).length = s.Q.length + 1 := by simp
  have HFIN : Hid (∃ V', PtM X w0 (w3.setCell ⟨h, 4, none⟩ (.slice p' (s.Q.length + 1) c')) h n V' (waitP s b) ∧ ∀ r, r ≠ 4 → V' r = V r) := Lib.hid ⟨upd V 4 (.slice p' (s.Q ++ [b]).length c'), by
    rw [← e1]
    unfold PtM
    rw [← HLP.out]
    exact H4.out, fun r hr => upd_ne _ _ hr⟩
  clear H3 H4 HF2 HO HG HAT HXA z4 e1
  refine Lib.hid ?_
  go_wp2_with fail
  refine bodyPost_end (results_none rfl _ _ _) rfl ?_
  exact ⟨rfl, HFIN.out⟩
end Go.Proofs.Ytefpoapbodbenaa

namespace Go.Proofs.Ytefpoapbodbenaa
open Go.RowKit

theorem append_sl {w : World} {ops : Array Oper} {rest : List Oper} {o : Oper} {a : Act} {Q : Exit → Act → World → Prop} (hgd : o.guard = none) (s x : Operand)
    (ho : o.op = .call { callee := .builtin .append, args := #[s, x], argTypes := #[78, 78] }) (v : Value) (xs : List Value) (hs : a.eval s = v)
    (hown : w.ownsRow 0 22 1 v xs.length xs) (g : Nat) (u : Value) (hu : u.oneCell' = true) (hx : a.eval x = .slice (some ⟨g, 0, none⟩) 1 1)
    (hcell : w.cell? ⟨g, 0, none⟩ = some u) (hlen : xs.length ≤ 10000)
    (h : ∀ p' c' w', w'.ownsRow 0 22 1 (.slice p' (xs.length + 1) c') (xs ++ [u]).length (xs ++ [u]) → w.grownBy w' v.ownBlock → ((Value.slice p' (xs.length + 1) c').ownBlock = v.ownBlock ∨ (Value.slice p' (xs.length + 1) c').ownBlock = some w.heap.size) → wpList Try.prog ops Q rest (a.put o.dst (.slice p' (xs.length + 1) c')) w') : wpList Try.prog ops Q (o :: rest) a w := by
  obtain ⟨i0, hi, hz0, hz1, hz2⟩ := info_parts infoRow12
  refine Go.wpList_append_own_at w hgd s x 78 ho 0 22 i0 (.slice none 0 0) 1 24 Try.underlying78 hi hz0 hz1 hz2 rfl (by decide) v xs.length xs hs hown ⟨g, 0, none⟩ 1 1 [u] hx rfl ?_ ?_ (by unfold maxLen; omega) (by omega) (Nat.zero_le _) ?_
  · intro j y hy
    match j, hy with
    | 0, hy => simp at hy; subst hy; simpa [Addr.add] using hcell
  · intro y hy
    have : y = u := by simpa using hy
    subst this; exact hu
  · intro v' w' h1 h2 _ h3
    have e : (xs ++ [u]).length = xs.length + 1 := by simp
    rcases id h1.2 with ⟨_, h0⟩ | ⟨g, cap, cur, rfl, _⟩
    · omega
    · exact h _ _ w' (by rw [e]; exact h1) h2 h3
theorem append_bl {w : World} {ops : Array Oper} {rest : List Oper} {o : Oper} {a : Act} {Q : Exit → Act → World → Prop} (hgd : o.guard = none) (s x : Operand)
    (ho : o.op = .call { callee := .builtin .append, args := #[s, x], argTypes := #[23, 23] }) (v : Value) (xs : List Value) (hs : a.eval s = v)
    (hown : w.ownsRow 0 4 1 v xs.length xs) (g : Nat) (u : Bool) (hx : a.eval x = .slice (some ⟨g, 0, none⟩) 1 1)
    (hcell : w.cell? ⟨g, 0, none⟩ = some (.bool u)) (hlen : xs.length ≤ 10000)
    (h : ∀ p' c' w', w'.ownsRow 0 4 1 (.slice p' (xs.length + 1) c') (xs ++ [Value.bool u]).length (xs ++ [Value.bool u]) → w.grownBy w' v.ownBlock → ((Value.slice p' (xs.length + 1) c').ownBlock = v.ownBlock ∨ (Value.slice p' (xs.length + 1) c').ownBlock = some w.heap.size) → wpList Try.prog ops Q rest (a.put o.dst (.slice p' (xs.length + 1) c')) w') : wpList Try.prog ops Q (o :: rest) a w := by
  obtain ⟨i0, hi, hz0, hz1, hz2⟩ := info_parts infoBool9
  refine Go.wpList_append_own_at w hgd s x 23 ho 0 4 i0 (.bool false) 1 1 Try.underlying23 hi hz0 hz1 hz2 rfl (by decide) v xs.length xs hs hown ⟨g, 0, none⟩ 1 1 [.bool u] hx rfl ?_ ?_ (by unfold maxLen; omega) (by omega) (Nat.zero_le _) ?_
  · intro j y hy
    match j, hy with
    | 0, hy => simp at hy; subst hy; simpa [Addr.add] using hcell
  · intro y hy
    have : y = .bool u := by simpa using hy
    subst this; rfl
  · intro v' w' h1 h2 _ h3
    have e : (xs ++ [Value.bool u]).length = xs.length + 1 := by simp
    rcases id h1.2 with ⟨_, h0⟩ | ⟨g, cap, cur, rfl, _⟩
    · omega
    · exact h _ _ w' (by rw [e]; exact h1) h2 h3
theorem Fm.useU {X : Nat → Prop} {w0 w : World} {h : Nat} {U U' V : Nat → Value} {L : Nat → List Value} (H : Fm X w0 w h U V L) (hU : ∀ i, i < 5 → U i = U' i) : Fm X w0 w h U' V L := by
  refine ⟨?_, H.row, H.ap, H.nh, H.nX, H.hX, H.Xl, H.kp⟩
  have := H.st
  unfold isPs at this ⊢
  rw [← hU 0 (by decide), ← hU 1 (by decide), ← hU 2 (by decide), ← hU 3 (by decide), ← hU 4 (by decide)]
  exact this
theorem vls_succ (V : Nat → Value) (m : Nat) : vls V (m + 1) = vls V m ++ [V m] := by simp [vls, List.range_succ]
theorem lP_add (n : Nat) (V : Nat → Value) (s : Ps) (l : List Nat) (v1 v2 v3 : Value) :
    upd (upd (upd (upd (lP n V { s with S := upd s.S s.nb l }) (rT s.nb) []) 1 (vls (fun k => V (rS k)) s.nb ++ [V (rS s.nb)])) 2 (vls (fun k => V (rT k)) s.nb ++ [.slice none 0 0])) 3 (bls s.W s.nb ++ [.bool false]) = lP n (upd (upd (upd (upd V (rT s.nb) (.slice none 0 0)) 1 v1) 2 v2) 3 v3) (addP s l) := by
  have hS : ∀ k, upd (upd (upd (upd V (rT s.nb) (.slice none 0 0)) 1 v1) 2 v2) 3 v3 (rS k) = V (rS k) := fun k => by
    rw [upd_ne _ _ (rS_ne k (by decide)), upd_ne _ _ (rS_ne k (by decide)), upd_ne _ _ (rS_ne k (by decide)), upd_ne _ _ (rS_rT k s.nb)]
  have hT : ∀ k, upd (upd (upd (upd V (rT s.nb) (.slice none 0 0)) 1 v1) 2 v2) 3 v3 (rT k) = upd V (rT s.nb) (.slice none 0 0) (rT k) := fun k => by
    rw [upd_ne _ _ (rT_ne k (by decide)), upd_ne _ _ (rT_ne k (by decide)), upd_ne _ _ (rT_ne k (by decide))]
  refine fn_ext ?_ ?_ ?_ ?_ ?_ (fun k => ?_) fun k => ?_
  · show upd (lP n V { s with S := upd s.S s.nb l }) (rT s.nb) [] 0 = _
    rw [upd_ne _ _ (Ne.symm (rT_ne s.nb (by decide)))]
    rfl
  · show vls (fun k => V (rS k)) s.nb ++ [V (rS s.nb)] = vls (fun k => upd (upd (upd (upd V (rT s.nb) (.slice none 0 0)) 1 v1) 2 v2) 3 v3 (rS k)) (s.nb + 1)
    rw [vls_succ, hS, vls_ext fun j _ => hS j]
  · show vls (fun k => V (rT k)) s.nb ++ [.slice none 0 0] = vls (fun k => upd (upd (upd (upd V (rT s.nb) (.slice none 0 0)) 1 v1) 2 v2) 3 v3 (rT k)) (s.nb + 1)
    rw [vls_succ, hT, upd_at]
    congr 1
    exact vls_ext fun j hj => by rw [hT, upd_ne _ _ (rT_inj (show j ≠ s.nb by omega))]
  · show bls s.W s.nb ++ [.bool false] = bls (upd s.W s.nb false) (s.nb + 1)
    rw [bls_succ, upd_at]
    congr 1
    unfold bls
    exact List.map_congr_left fun i hi => by rw [upd_ne _ _ (by have := List.mem_range.1 hi; omega)]
  · show upd (lP n V { s with S := upd s.S s.nb l }) (rT s.nb) [] 4 = _
    rw [upd_ne _ _ (Ne.symm (rT_ne s.nb (by decide)))]
    rfl
  · rw [upd_ne _ _ (rS_ne k (by decide)), upd_ne _ _ (rS_ne k (by decide)), upd_ne _ _ (rS_ne k (by decide)), upd_ne _ _ (rS_rT k s.nb), lPS, lPS]
    rfl
  · rw [upd_ne _ _ (rT_ne k (by decide)), upd_ne _ _ (rT_ne k (by decide)), upd_ne _ _ (rT_ne k (by decide)), lPT]
    show _ = spl9 (upd s.T s.nb [] k)
    by_cases e : k = s.nb
    · subst e
      rw [upd_at, upd_at]; rfl
    · rw [upd_ne _ _ (rT_inj e), upd_ne _ _ e, lPT]

set_option maxRecDepth 100000 in
set_option maxHeartbeats 4000000 in
theorem add13 (X : Nat → Prop) (h n : Nat) (l : List Nat) (p : Option Addr) (m c : Nat) (V : Nat → Value) (s : Ps) (w0 w : World) (H : PtM X w0 w h n V { s with S := upd s.S s.nb l }) (hv : V (rS s.nb) = .slice p m c) (hnb : s.nb ≤ 2000) :
    Calls Try.prog 64 #[.pointer (some ⟨h, 0, none⟩), .slice p m c] w fun e w' => e = .returned (.tuple #[]) ∧ ∃ V', PtM X w0 w' h n V' (addP s l) ∧ ∀ k, V' (rS k) = V (rS k) := by
  have HN : Hid (Fm X w0 w h V (upd V (rT s.nb) (.slice none 0 0)) (upd (lP n V { s with S := upd s.S s.nb l }) (rT s.nb) [])) := Lib.hid (Fm.new H (rT s.nb) (Below.refl _ _) ⟨rfl, .inl ⟨rfl, rfl⟩⟩ fun b e => by cases e)
  have HVS : Hid (∀ k, upd V (rT s.nb) (.slice none 0 0) (rS k) = V (rS k)) := Lib.hid fun k => upd_ne _ _ (rS_rT k s.nb)
  obtain ⟨L1, hL1⟩ : ∃ L1, upd (lP n V { s with S := upd s.S s.nb l }) (rT s.nb) [] = L1 := ⟨_, rfl⟩
  obtain ⟨V1, hV1⟩ : ∃ V1, upd V (rT s.nb) (.slice none 0 0) = V1 := ⟨_, rfl⟩
  rw [hL1, hV1] at HN
  rw [hV1] at HVS
  have l1 : L1 1 = vls (fun k => V (rS k)) s.nb := by rw [← hL1, upd_ne _ _ (Ne.symm (rT_ne s.nb (by decide)))]; rfl
  have l2 : L1 2 = vls (fun k => V (rT k)) s.nb := by rw [← hL1, upd_ne _ _ (Ne.symm (rT_ne s.nb (by decide)))]; rfl
  have l3 : L1 3 = bls s.W s.nb := by rw [← hL1, upd_ne _ _ (Ne.symm (rT_ne s.nb (by decide)))]; rfl
  have hVe : ∀ i, i < 5 → V1 i = V i := fun i hi => by rw [← hV1, upd_ne _ _ (Ne.symm (rT_ne s.nb hi))]
  obtain ⟨p1, c1, e1, -⟩ := H.v1
  obtain ⟨p2, c2, e2, -⟩ := H.v2
  obtain ⟨p3, c3, e3, -⟩ := H.v3
  have e1' := (hVe 1 (by decide)).trans e1
  have e2' := (hVe 2 (by decide)).trans e2
  have e3' := (hVe 3 (by decide)).trans e3
  simp only at e1' e2' e3'
  have HLP := Lib.hid (fun v1 v2 v3 => lP_add n V s l v1 v2 v3)
  rw [hL1, hV1, ← l1, ← l2, ← l3] at HLP
  have HX0 : Hid ((w.alloc (.cells #[.slice p m c] 22)).ownsRow 0 22 1 (.slice p1 s.nb c1) (L1 1).length (L1 1)) := Lib.hid (by
    have := (HN.out.below ((Below.refl _ _).alloc (Nat.le_refl _) (.cells #[.slice p m c] 22))).row 1
    rw [e1'] at this
    exact this)
  have HN1 := Lib.hid (HN.out.below ((Below.refl _ _).alloc (Nat.le_refl _) (.cells #[.slice p m c] 22)))
  have HV1 := Lib.hid hVe
  have HL1 : Hid ((L1 1).length = s.nb ∧ (L1 2).length = s.nb ∧ (L1 3).length = s.nb) := Lib.hid ⟨by rw [l1, vls_len], by rw [l2, vls_len], by rw [l3, bls_len]⟩
  obtain ⟨q, hq⟩ : ∃ q, s.nb = q := ⟨_, rfl⟩
  simp only [hq] at HX0 HL1 e1 e2 e3 e1' e2' e3' hnb hv HLP
  rw [hv] at HLP
  obtain ⟨-, y1, -, -, -⟩ := H.st.cells
  rw [e1] at y1
  have HE2 := Lib.hid e2; have HE3 := Lib.hid e3
  have HE1' := Lib.hid e1'; have HE2' := Lib.hid e2'; have HE3' := Lib.hid e3'
  have q1 : (q : Int) ≤ 2000 := by omega
  have q0 : (0 : Int) ≤ (q : Int) := by omega
  have HLE : Hid (q ≤ 10000) := Lib.hid (by omega)
  clear H HN hL1 hV1 l1 l2 l3 hVe e1 e2 e3 e1' e2' e3' hq hv hnb
  go_enter Try.func64, Try.ntmps64
  go_wp2_with (at_builtin; refine append_sl rfl _ _ rfl _ (L1 1) rfl HX0.out w.heap.size (.slice p m c) rfl rfl (by simp) (HL1.out.1 ▸ HLE.out) ?_; intro p' c' w3 hown hgrow hat; rw [HL1.out.1] at *; have HO := Lib.hid hown; have HG : Hid ((w.alloc (.cells #[.slice p m c] 22)).grownBy w3 (Value.slice p1 q c1).ownBlock) := Lib.hid hgrow; have HAT : Hid ((Value.slice p' (q + 1) c').ownBlock = (Value.slice p1 q c1).ownBlock ∨ (Value.slice p' (q + 1) c').ownBlock = some (w.alloc (.cells #[.slice p m c] 22)).heap.size) := Lib.hid hat; clear hown hgrow hat; refine Hid.out ?_)
  have F2 := HN1.out.grow 1 (v := .slice p' (q + 1) c') (l := L1 1 ++ [.slice p m c]) (by rw [HE1'.out]; exact HG.out) HO.out (by rw [HE1'.out]; exact HAT.out)
  have F3 := F2.put 1 (by decide) (.slice p' (q + 1) c')
  obtain ⟨-, d1, -, -, -⟩ := F2.st.cells
  have d2 := F2.st.free 1
  have d3 := F2.st.lt
  obtain ⟨W4, hW4⟩ : ∃ W4, w3.setCell ⟨h, 1, none⟩ (.slice p' (q + 1) c') = W4 := ⟨_, rfl⟩
  rw [hW4] at F3
  obtain ⟨-, -, d4, -, -⟩ := F3.st.cells
  rw [upd_ne _ _ (by decide), HE2.out] at d4
  have F4 := F3.below ((Below.refl _ _).alloc (Nat.le_refl _) (.cells #[.slice none 0 0] 22))
  have HX4 : Hid ((W4.alloc (.cells #[.slice none 0 0] 22)).ownsRow 0 22 1 (.slice p2 q c2) (L1 2).length (L1 2)) := Lib.hid (by
    have := F4.row 2
    rw [upd_ne _ _ (by decide), upd_ne _ _ (by decide), HE2'.out] at this
    exact this)
  have HF4 := Lib.hid F4
  have HW4 := Lib.hid hW4
  clear F2 F3 F4 hW4 HO HG HAT HN1 HX0 y1
  refine Lib.hid ?_
  go_upto_region 1 with (fail)
  rw [HW4.out]
  clear d1 d2 d3
  go_wp2_with (at_builtin; refine append_sl rfl _ _ rfl _ (L1 2) rfl HX4.out W4.heap.size (.slice none 0 0) rfl rfl (by simp) (HL1.out.2.1 ▸ HLE.out) ?_; intro p5 c5 w5 hown hgrow hat; rw [HL1.out.2.1] at *; have HO := Lib.hid hown; have HG : Hid ((W4.alloc (.cells #[.slice none 0 0] 22)).grownBy w5 (Value.slice p2 q c2).ownBlock) := Lib.hid hgrow; have HAT : Hid ((Value.slice p5 (q + 1) c5).ownBlock = (Value.slice p2 q c2).ownBlock ∨ (Value.slice p5 (q + 1) c5).ownBlock = some (W4.alloc (.cells #[.slice none 0 0] 22)).heap.size) := Lib.hid hat; clear hown hgrow hat; refine Hid.out ?_)
  have F5 := HF4.out.grow 2 (v := .slice p5 (q + 1) c5) (l := L1 2 ++ [.slice none 0 0]) (by rw [upd_ne _ _ (by decide), HE2'.out]; exact HG.out) HO.out (by rw [upd_ne _ _ (by decide), HE2'.out]; exact HAT.out)
  have F6 := F5.put 2 (by decide) (.slice p5 (q + 1) c5)
  obtain ⟨-, -, d1, -, -⟩ := F5.st.cells
  have d2 := F5.st.free 2
  have d3 := F5.st.lt
  obtain ⟨W6, hW6⟩ : ∃ W6, w5.setCell ⟨h, 2, none⟩ (.slice p5 (q + 1) c5) = W6 := ⟨_, rfl⟩
  rw [hW6] at F6
  obtain ⟨-, -, -, d5, -⟩ := F6.st.cells
  rw [upd_ne _ _ (by decide), upd_ne _ _ (by decide), HE3.out] at d5
  have F7 := F6.below ((Below.refl _ _).alloc (Nat.le_refl _) (.cells #[.bool false] 4))
  have HX7 : Hid ((W6.alloc (.cells #[.bool false] 4)).ownsRow 0 4 1 (.slice p3 q c3) (L1 3).length (L1 3)) := Lib.hid (by
    have := F7.row 3
    rw [upd_ne _ _ (by decide), upd_ne _ _ (by decide), upd_ne _ _ (by decide), upd_ne _ _ (by decide), HE3'.out] at this
    exact this)
  have HF7 := Lib.hid F7
  have HW6 := Lib.hid hW6
  clear F5 F6 F7 hW6 HO HG HAT HF4 HX4 d4
  refine Lib.hid ?_
  go_upto_region 2 with (fail)
  rw [HW6.out]
  clear d1 d2 d3
  go_wp2_with (at_builtin; refine append_bl rfl _ _ rfl _ (L1 3) rfl HX7.out W6.heap.size false rfl (by simp) (HL1.out.2.2 ▸ HLE.out) ?_; intro p8 c8 w8 hown hgrow hat; rw [HL1.out.2.2] at *; have HO := Lib.hid hown; have HG : Hid ((W6.alloc (.cells #[.bool false] 4)).grownBy w8 (Value.slice p3 q c3).ownBlock) := Lib.hid hgrow; have HAT : Hid ((Value.slice p8 (q + 1) c8).ownBlock = (Value.slice p3 q c3).ownBlock ∨ (Value.slice p8 (q + 1) c8).ownBlock = some (W6.alloc (.cells #[.bool false] 4)).heap.size) := Lib.hid hat; clear hown hgrow hat; refine Hid.out ?_)
  have F8 := HF7.out.grow 3 (v := .slice p8 (q + 1) c8) (l := L1 3 ++ [.bool false]) (by rw [upd_ne _ _ (by decide), upd_ne _ _ (by decide), HE3'.out]; exact HG.out) HO.out (by rw [upd_ne _ _ (by decide), upd_ne _ _ (by decide), HE3'.out]; exact HAT.out)
  obtain ⟨-, -, -, d1, -⟩ := F8.st.cells
  have d2 := F8.st.free 3
  have d3 := F8.st.lt
  have F9 := (F8.put 3 (by decide) (.slice p8 (q + 1) c8)).useU (U' := upd (upd (upd V1 1 (.slice p' (q + 1) c')) 2 (.slice p5 (q + 1) c5)) 3 (.slice p8 (q + 1) c8)) fun i hi => by
    unfold upd
    split
    · rfl
    · split
      · rfl
      · split
        · rfl
        · exact (HV1.out i hi).symm
  have HFIN : Hid (∃ V', PtM X w0 (w8.setCell ⟨h, 3, none⟩ (.slice p8 (q + 1) c8)) h n V' (addP s l) ∧ ∀ k, V' (rS k) = V (rS k)) := Lib.hid ⟨_, by
    unfold PtM
    rw [← HLP.out]
    exact F9, fun k => by rw [upd_ne _ _ (rS_ne k (by decide)), upd_ne _ _ (rS_ne k (by decide)), upd_ne _ _ (rS_ne k (by decide))]; exact HVS.out k⟩
  clear F8 F9 HO HG HAT HF7 HX7
  refine Lib.hid ?_
  go_wp2_with fail
  refine bodyPost_end (results_none rfl _ _ _) rfl ?_
  exact ⟨rfl, HFIN.out⟩
end Go.Proofs.Ytefpoapbodbenaa
