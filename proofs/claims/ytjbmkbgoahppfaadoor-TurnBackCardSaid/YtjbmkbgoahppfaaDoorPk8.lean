/-
  The walk of byteset's Of.
-/
import Derived.Test.YtjbmkbgoahppfaaDoorPk3
namespace Go.Proofs.YtjbmkbgoahppfaaDoor
open Go.RowKit

/-- The world within Of, k bytes on. -/
def ofW (w : World) (l : List Nat) (k : Nat) : World :=
  (w.alloc (.cells #[.int .u64 0, .int .u64 0, .int .u64 0, .int .u64 0] 38)).alloc (.cells #[.int .u64 (wd (inl (l.take k)) 0 : Int), .int .u64 (wd (inl (l.take k)) 1 : Int), .int .u64 (wd (inl (l.take k)) 2 : Int), .int .u64 (wd (inl (l.take k)) 3 : Int)] 38)

set_option maxHeartbeats 1000000 in
theorem of_some (l : List Nat) (hl : ∀ x, x ∈ l → x < 256) (b off cap : Nat) (w : World) (hm : l.length ≤ maxLen) (hb : b < w.heap.size) (hc : ∀ j (h : j < l.length), w.cell? ⟨b, off + j, none⟩ = some (.int .u8 (l[j] : Nat))) :
    Calls Tryd.prog 60 #[.slice (some ⟨b, off, none⟩) l.length cap] w fun e w' => e = .returned (sv (inl l)) ∧ Below w.heap.size w w' := by
  unfold maxLen at hm
  have hz0 : ∀ i, wd (inl (l.take 0)) i = 0 := fun i => word_none _ _ fun j _ => by simp [inl]
  go_enter Tryd.func60, Tryd.ntmps60
  go_wp2
  go_loopw [8] (fun i wr => ∃ k : Nat, k ≤ l.length ∧ i = .int .i64 k ∧ wr = ofW w l k) (fun i _ => l.length - (intOf i).toNat)
  case atStart => exact ⟨0, Nat.zero_le _, rfl, by unfold ofW; rw [hz0, hz0, hz0, hz0]; rfl⟩
  case round =>
    obtain ⟨k, hk, rfl, rfl⟩ := hrel
    clear hz0
    by_cases hlt : k < l.length
    · have hit := fun i => of_word_hit l k i hlt
      have miss := fun i => of_word_miss l k i hlt
      have hcell := hc k hlt
      have hx : l[k] < 256 := hl _ (List.getElem_mem hlt)
      obtain ⟨c, hcc⟩ : ∃ c, c = l[k] := ⟨_, rfl⟩
      rw [← hcc] at hcell hx
      simp only [← hcc] at hit miss
      clear hcc hc hl
      have q : c / 64 = 0 ∨ c / 64 = 1 ∨ c / 64 = 2 ∨ c / 64 = 3 := by omega
      unfold ofW
      rcases q with q | q | q | q
      · have q' : (c : Int) / 64 = 0 := by omega
        have e0 := Lib.hid (hit 0 q); have e1 := Lib.hid (miss 1 (by omega)); have e2 := Lib.hid (miss 2 (by omega)); have e3 := Lib.hid (miss 3 (by omega))
        clear hit miss q
        go_wp2
        go_roundw
        case rel => exact ⟨k + 1, by omega, by go_num, by rw [← e0.out, ← e1.out, ← e2.out, ← e3.out]⟩
        case measure => simp [intOf]; omega
      · have q' : (c : Int) / 64 = 1 := by omega
        have e0 := Lib.hid (miss 0 (by omega)); have e1 := Lib.hid (hit 1 q); have e2 := Lib.hid (miss 2 (by omega)); have e3 := Lib.hid (miss 3 (by omega))
        clear hit miss q
        go_wp2
        go_roundw
        case rel => exact ⟨k + 1, by omega, by go_num, by rw [← e0.out, ← e1.out, ← e2.out, ← e3.out]⟩
        case measure => simp [intOf]; omega
      · have q' : (c : Int) / 64 = 2 := by omega
        have e0 := Lib.hid (miss 0 (by omega)); have e1 := Lib.hid (miss 1 (by omega)); have e2 := Lib.hid (hit 2 q); have e3 := Lib.hid (miss 3 (by omega))
        clear hit miss q
        go_wp2
        go_roundw
        case rel => exact ⟨k + 1, by omega, by go_num, by rw [← e0.out, ← e1.out, ← e2.out, ← e3.out]⟩
        case measure => simp [intOf]; omega
      · have q' : (c : Int) / 64 = 3 := by omega
        have e0 := Lib.hid (miss 0 (by omega)); have e1 := Lib.hid (miss 1 (by omega)); have e2 := Lib.hid (miss 2 (by omega)); have e3 := Lib.hid (hit 3 q)
        clear hit miss q
        go_wp2
        go_roundw
        case rel => exact ⟨k + 1, by omega, by go_num, by rw [← e0.out, ← e1.out, ← e2.out, ← e3.out]⟩
        case measure => simp [intOf]; omega
    · have hkl : k = l.length := by omega
      have ht : Hid (inl (l.take k) = inl l) := by rw [hkl, List.take_length] <;> rfl
      clear hc hl hkl
      unfold ofW
      go_wp2
      go_returns
      exact ⟨by rw [ht.out] <;> rfl, by go_grown⟩

set_option maxHeartbeats 1000000 in
theorem of_nil (w : World) :
    Calls Tryd.prog 60 #[.slice none 0 0] w fun e w' => e = .returned (sv (inl [])) ∧ Below w.heap.size w w' := by
  have hz : Hid (sv (inl []) = .agg #[.int .u64 0, .int .u64 0, .int .u64 0, .int .u64 0]) := by
    have h0 : ∀ i, wd (inl []) i = 0 := fun i => word_none _ _ fun j _ => by simp [inl]
    unfold sv; rw [h0, h0, h0, h0] <;> rfl
  go_enter Tryd.func60, Tryd.ntmps60
  go_wp2
  refine wp_loop_rounds 1 ?_
  rw [rounds_succ]; go_wp2
  go_returns
  exact ⟨by rw [hz.out], by go_grown⟩

theorem of_any (l : List Nat) (hl : ∀ x, x ∈ l → x < 256) (hm : l.length ≤ maxLen) (v : Value) (w : World) (h : rd8 w v l) :
    Calls Tryd.prog 60 #[v] w fun e w' => e = .returned (sv (inl l)) ∧ Below w.heap.size w w' := by
  rcases h with ⟨rfl, rfl⟩ | ⟨b, off, cap, rfl, hb, hc⟩
  · exact of_nil w
  · exact of_some l hl b off cap w hm hb hc
/-- Of, at a slice of one byte that has just been made. -/
theorem of_one (c : Nat) (hc : c < 256) (b : Nat) (w : World) (hb : b < w.heap.size) (h : w.cell? ⟨b, 0, none⟩ = some (.int .u8 (c : Int))) :
    Calls Tryd.prog 60 #[.slice (some ⟨b, 0, none⟩) 1 1] w fun e w' => e = .returned (sv fun k => decide (k = c)) ∧ Below w.heap.size w w' := by
  refine (of_any [c] (by simpa using hc) (by unfold maxLen; simp) _ _ (.inr ⟨b, 0, 1, rfl, hb, ?_⟩)).mono ?_
  · intro j hj
    match j, hj with
    | 0, _ => simpa using h
  · rintro e w1 ⟨rfl, hb⟩
    exact ⟨by congr 1; exact sv_congr fun k _ => by simp [inl], hb⟩
end Go.Proofs.YtjbmkbgoahppfaaDoor
