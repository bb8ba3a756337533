/-
  Two statements of the third reference's Bracket that draw their order, each as a theorem of its own. The walk of the third reference's Bracket. The walk of the third reference's Bracket at a text's last byte. The contract of the third reference's Bracket, at any place of a text.
-/
import Derived.Test.YtiahgcgpakgeeaaGreatDoorPk33
import Derived.Test.YtiahgcgpakgeeaaGreatDoorPk35
import Derived.Test.YtiahgcgpakgeeaaGreatDoorPk34
import Derived.BigQuiet
import Derived.Deep.Cut
import Derived.Deep.CutRange
import Derived.Deep.RegionHeldLaw
import Derived.Deep.QuietTactic
namespace Go.Proofs.YtiahgcgpakgeeaaGreatDoor
open Go.RowKit

/-- A region of a code, by its number. -/
def findReg (k : Nat) : Code → Option Code
  | .region j ops d => if j = k then some (.region j ops d) else none
  | .seq a b => match findReg k a with
    | some c => some c
    | none => findReg k b
  | .cond _ a b => match findReg k a with
    | some c => some c
    | none => findReg k b
  | .block _ c => findReg k c
  | .loop c => findReg k c
  | .scope c => findReg k c
  | _ => none
noncomputable def bkReg (k : Nat) : Code := ((Tryz.f23.body.bind (findReg k)).getD .skip)

theorem wp_false {P : Program} {s : Code} {K K' : Act → World → Prop} {Q : Exit → Act → World → Prop} {a : Act} {w : World} (h : s.wp P (Exit.then K (fun _ _ _ => False)) a w) (hK : ∀ a' w', K a' w' → K' a' w') : s.wp P (Exit.then K' Q) a w := by
  refine wp_mono h ?_
  intro e a' w' hq
  cases e with
  | normal => exact hK _ _ hq
  | exit id => exact hq.elim
  | goto l => exact hq.elim
  | ret => exact hq.elim
  | panic ch => exact hq.elim
  | outgrown => exact hq.elim

set_option maxRecDepth 1000000 in
set_option maxHeartbeats 8000000 in
theorem reg19 {v0 v1 v2 v3 v4 v5 v6 v7 v9 v11 v12 v13 v14 v15 v16 v17 v18 v19 v20 v21 v22 v23 v24 v25 v26 v27 v28 v29 v30 v31 v32 v33 v34 v35 v36 v37 v38 v39 v40 v41 v42 v43 v44 v45 v46 v47 v48 v49 v50 v51 v52 v53 v54 v55 v56 v57 v58 v59 v60 v61 v62 v63 v64 v65 v66 v67 v68 v69 v70 v71 v72 v73 v74 v75 v76 v77 v78 v79 v80 v81 v82 v83 v84 v85 v86 v87 v88 v89 v90 v91 v92 v93 v94 v95 v96 v97 v98 v99 v100 v101 v102 : Value} {X Y : Nat} {F F2 FR : Nat → Bool} {n n3 : Nat} {nm nm2 : Bool} {t t2 : Int} {w : World}
    (HO1 : Hid (∀ w, Calls Tryz.prog 39 #[itv F n true nm] w fun e w' => e = .returned (.int .i64 t) ∧ Below w.heap.size w w'))
    (HO2 : Hid (∀ w, Calls Tryz.prog 39 #[itv F2 n3 true nm2] w fun e w' => e = .returned (.int .i64 t2) ∧ Below w.heap.size w w'))
    (HRG : Hid (∀ w, Calls Tryz.prog 21 #[.int .i64 t, .int .i64 t2] w fun e w' => e = .returned (sv FR) ∧ Below w.heap.size w w'))
    (hX : isIt w X F (n : Int) true nm) (hY : isIt w Y F2 (n3 : Int) true nm2) (hne : Y ≠ X) {K : Act → World → Prop}
    (HKK : Hid (∀ a' w', (fun a' w' => ∃ (u88 u89 u90 u91 u92 u93 u94 u95 : Value) (wk : World), Below w.heap.size w wk ∧ a' = ⟨List.toArray (v0 :: v1 :: v2 :: v3 :: v4 :: v5 :: v6 :: v7 :: .pointer (some ⟨X, 0, none⟩) :: v9 :: .pointer (some ⟨Y, 0, none⟩) :: v11 :: v12 :: v13 :: v14 :: v15 :: v16 :: v17 :: v18 :: v19 :: v20 :: v21 :: v22 :: v23 :: v24 :: v25 :: v26 :: v27 :: v28 :: v29 :: v30 :: v31 :: v32 :: v33 :: v34 :: v35 :: v36 :: v37 :: v38 :: v39 :: v40 :: v41 :: v42 :: v43 :: v44 :: v45 :: v46 :: v47 :: v48 :: v49 :: v50 :: v51 :: v52 :: v53 :: v54 :: v55 :: v56 :: v57 :: v58 :: v59 :: v60 :: v61 :: v62 :: v63 :: v64 :: v65 :: v66 :: v67 :: v68 :: v69 :: v70 :: v71 :: v72 :: v73 :: v74 :: v75 :: v76 :: v77 :: v78 :: v79 :: v80 :: v81 :: v82 :: v83 :: v84 :: v85 :: v86 :: v87 :: u88 :: u89 :: u90 :: u91 :: u92 :: u93 :: u94 :: u95 :: v96 :: v97 :: v98 :: v99 :: v100 :: v101 :: v102 :: []), []⟩ ∧ w' = set7 wk X FR (n3 : Int) true false) a' w' → K a' w')) :
    Code.wp Tryz.prog (bkReg 19) (Exit.then K (fun _ _ _ => False)) ⟨List.toArray (v0 :: v1 :: v2 :: v3 :: v4 :: v5 :: v6 :: v7 :: .pointer (some ⟨X, 0, none⟩) :: v9 :: .pointer (some ⟨Y, 0, none⟩) :: v11 :: v12 :: v13 :: v14 :: v15 :: v16 :: v17 :: v18 :: v19 :: v20 :: v21 :: v22 :: v23 :: v24 :: v25 :: v26 :: v27 :: v28 :: v29 :: v30 :: v31 :: v32 :: v33 :: v34 :: v35 :: v36 :: v37 :: v38 :: v39 :: v40 :: v41 :: v42 :: v43 :: v44 :: v45 :: v46 :: v47 :: v48 :: v49 :: v50 :: v51 :: v52 :: v53 :: v54 :: v55 :: v56 :: v57 :: v58 :: v59 :: v60 :: v61 :: v62 :: v63 :: v64 :: v65 :: v66 :: v67 :: v68 :: v69 :: v70 :: v71 :: v72 :: v73 :: v74 :: v75 :: v76 :: v77 :: v78 :: v79 :: v80 :: v81 :: v82 :: v83 :: v84 :: v85 :: v86 :: v87 :: v88 :: v89 :: v90 :: v91 :: v92 :: v93 :: v94 :: v95 :: v96 :: v97 :: v98 :: v99 :: v100 :: v101 :: v102 :: []), []⟩ w := by
  have HK := Lib.hid (show ∀ w', Below w.heap.size w w' → (w'.cell? ⟨Y, 0, none⟩ = some (.int .u64 (wd F2 0 : Int)) ∧ w'.cell? ⟨Y, 1, none⟩ = some (.int .u64 (wd F2 1 : Int)) ∧ w'.cell? ⟨Y, 2, none⟩ = some (.int .u64 (wd F2 2 : Int)) ∧ w'.cell? ⟨Y, 3, none⟩ = some (.int .u64 (wd F2 3 : Int)) ∧ w'.cell? ⟨Y, 4, none⟩ = some (.int .i64 (n3 : Int)) ∧ w'.cell? ⟨Y, 5, none⟩ = some (.bool true) ∧ w'.cell? ⟨Y, 6, none⟩ = some (.bool nm2)) from fun w' hB => (hY.below hB hY.lt).cells)
  have HX := Lib.hid hX
  have HYL := Lib.hid hY
  clear hX hY
  obtain ⟨f0, hf0⟩ : ∃ x : Int, (wd FR 0 : Int) = x := ⟨_, rfl⟩
  obtain ⟨f1, hf1⟩ : ∃ x : Int, (wd FR 1 : Int) = x := ⟨_, rfl⟩
  obtain ⟨f2, hf2⟩ : ∃ x : Int, (wd FR 2 : Int) = x := ⟨_, rfl⟩
  obtain ⟨f3, hf3⟩ : ∃ x : Int, (wd FR 3 : Int) = x := ⟨_, rfl⟩
  have HRG2 := Lib.hid (show ∀ w, Calls Tryz.prog 21 #[.int .i64 t, .int .i64 t2] w fun e w' => e = .returned (.agg #[.int .u64 f0, .int .u64 f1, .int .u64 f2, .int .u64 f3]) ∧ Below w.heap.size w w' from fun w => by rw [← hf0, ← hf1, ← hf2, ← hf3]; exact HRG.out w)
  have HF := Lib.hid (show _ ∧ _ ∧ _ ∧ _ from ⟨hf0, hf1, hf2, hf3⟩)
  have HBI := build_item
  clear HRG hf0 hf1 hf2 hf3
  have hB : Below w.heap.size w w.drew := (Below.refl _ _).drew
  have hS := HK.out _ hB
  obtain ⟨c0, c1, c2, c3, c4, c5, c6⟩ := (HX.out.below hB HX.out.lt).cells
  conv => arg 2; whnf

  refine wp_region_held_drew (S := (fun w' => w'.cell? ⟨Y, 0, none⟩ = some (.int .u64 (wd F2 0 : Int)) ∧ w'.cell? ⟨Y, 1, none⟩ = some (.int .u64 (wd F2 1 : Int)) ∧ w'.cell? ⟨Y, 2, none⟩ = some (.int .u64 (wd F2 2 : Int)) ∧ w'.cell? ⟨Y, 3, none⟩ = some (.int .u64 (wd F2 3 : Int)) ∧ w'.cell? ⟨Y, 4, none⟩ = some (.int .i64 (n3 : Int)) ∧ w'.cell? ⟨Y, 5, none⟩ = some (.bool true) ∧ w'.cell? ⟨Y, 6, none⟩ = some (.bool nm2))) (by kernel_rfl) hS (fun hHeld => ?_)
  clear hS
  refine wpAnyH_take (i := 2) (oi := { dst := some 90, op := Op.load 61 (Operand.tmp 10), type := 61, pos := "ref.go:105", after := #[], guard := none }) (v := itv F2 n3 true nm2) rfl (by kernel_rfl) (by kernel_rfl) (by kernel_rfl) (fun _ _ _ h => h) (Or.inl ⟨by rfl, ?_⟩) (by assumption) ?_
  · intro w hSw; (try dsimp only at hSw); go_simp
  try simp only [Act.put, List.setIfInBounds_toArray, List.set_cons_zero, List.set_cons_succ]
  refine wpAnyH_take (i := 5) (oi := { dst := some 93, op := Op.fieldAddr 61 (Operand.tmp 10) 1, type := 0, pos := "ref.go:105", after := #[], guard := none }) (v := .pointer (some ⟨Y, 4, none⟩)) rfl (by kernel_rfl) (by kernel_rfl) (by kernel_rfl) (fun _ _ _ h => h) (Or.inl ⟨by rfl, ?_⟩) (by assumption) ?_
  · intro w hSw; (try dsimp only at hSw); go_simp
  try simp only [Act.put, List.setIfInBounds_toArray, List.set_cons_zero, List.set_cons_succ]
  refine wpAnyH_take (i := 6) (oi := { dst := some 94, op := Op.load 3 (Operand.tmp 93), type := 3, pos := "ref.go:105", after := #[{ on := 5, ground := Ground.data }], guard := none }) (v := .int .i64 (n3 : Int)) rfl (by kernel_rfl) (by kernel_rfl) (by kernel_rfl) (fun _ _ _ h => h) (Or.inl ⟨by rfl, ?_⟩) (by assumption) ?_
  · intro w hSw; (try dsimp only at hSw); go_simp
  try simp only [Act.put, List.setIfInBounds_toArray, List.set_cons_zero, List.set_cons_succ]
  refine wpAnyH_ready (rs := [0]) (by kernel_rfl) (by simp) ?_
  refine AllReadyH.cons rfl (fun K' hK' => ?_) AllReadyH.nil
  go_simp
  refine hK'.out _ _ ?_ (fun hHeld => ?_)
  · (try dsimp only)
    exact HK.out _ hB
  clear hK' K'
  refine wpAnyH_ready (rs := [1]) (by kernel_rfl) (by simp) ?_
  refine AllReadyH.cons rfl (fun K' hK' => ?_) AllReadyH.nil
  go_simp
  go_wp2_with (go_at_call 39; (with_reducible refine (HO1.out _).mono ?_); rintro e wk ⟨rfl, hb⟩)
  replace hB := hB.trans (hb.mono hB.size); clear hb
  refine hK'.out _ _ ?_ (fun hHeld => ?_)
  · (try dsimp only)
    exact HK.out _ hB
  clear hK' K'
  refine wpAnyH_ready (rs := [3]) (by kernel_rfl) (by simp) ?_
  refine AllReadyH.cons rfl (fun K' hK' => ?_) AllReadyH.nil
  go_simp
  go_wp2_with (go_at_call 39; (with_reducible refine (HO2.out _).mono ?_); rintro e wk ⟨rfl, hb⟩)
  replace hB := hB.trans (hb.mono hB.size); clear hb
  refine hK'.out _ _ ?_ (fun hHeld => ?_)
  · (try dsimp only)
    exact HK.out _ hB
  clear hK' K'
  refine wpAnyH_ready (rs := [4]) (by kernel_rfl) (by simp) ?_
  refine AllReadyH.cons rfl (fun K' hK' => ?_) AllReadyH.nil
  go_simp
  go_wp2_with (go_at_call 21; (with_reducible refine (HRG2.out _).mono ?_); rintro e wk ⟨rfl, hb⟩)
  replace hB := hB.trans (hb.mono hB.size); clear hb
  refine hK'.out _ _ ?_ (fun hHeld => ?_)
  · (try dsimp only)
    exact HK.out _ hB
  clear hK' K'
  refine wpAnyH_take (i := 7) (oi := { dst := some 95, op := Op.build 61 #[(0, Operand.tmp 92), (1, Operand.tmp 94), (2, Operand.const (Value.bool true))], type := 61, pos := "ref.go:105", after := #[{ on := 4, ground := Ground.data }, { on := 6, ground := Ground.data }], guard := none }) (v := .agg #[.int .u64 f0, .int .u64 f1, .int .u64 f2, .int .u64 f3, .int .i64 (n3 : Int), .bool true, .bool false]) rfl (by kernel_rfl) (by kernel_rfl) (by kernel_rfl) (fun _ _ _ h => h) (Or.inl ⟨by rfl, ?_⟩) (by assumption) ?_
  · intro w hSw; (try dsimp only at hSw); go_simp
  try simp only [Act.put, List.setIfInBounds_toArray, List.set_cons_zero, List.set_cons_succ]
  clear c0 c1 c2 c3 c4 c5 c6
  obtain ⟨c0, c1, c2, c3, c4, c5, c6⟩ := (HX.out.below hB HX.out.lt).cells
  obtain ⟨r0, r1, r2, r3, r4, r5, r6⟩ := (HX.out.below hB HX.out.lt).free
  have hy := HYL.out.below hB HYL.out.lt
  have HS := Lib.hid (((((((hy.set (c := X) hne 0 (.int .u64 f0)).set (c := X) hne 1 (.int .u64 f1)).set (c := X) hne 2 (.int .u64 f2)).set (c := X) hne 3 (.int .u64 f3)).set (c := X) hne 4 (.int .i64 (n3 : Int))).set (c := X) hne 5 (.bool true)).set (c := X) hne 6 (.bool false)).cells
  clear hy
  refine wpAnyH_ready (rs := [8]) (by kernel_rfl) (by simp) ?_
  refine AllReadyH.cons rfl (fun K' hK' => ?_) AllReadyH.nil
  go_simp
  refine hK'.out _ _ ?_ (fun hHeld => ?_)
  · (try dsimp only)
    exact HS.out
  refine wpAnyH_done (by kernel_rfl) ?_ _
  obtain ⟨e0, e1, e2, e3⟩ := HF.out
  refine HKK.out _ _ ⟨_, _, _, _, _, _, _, _, _, hB, rfl, ?_⟩
  unfold set7
  rw [e0, e1, e2, e3]

set_option maxRecDepth 1000000 in
set_option maxHeartbeats 4000000 in
theorem reg17 {v0 v1 v2 v3 v4 v5 v6 v7 v9 v11 v12 v13 v14 v15 v16 v17 v18 v19 v20 v21 v22 v23 v24 v25 v26 v27 v28 v29 v30 v31 v32 v33 v34 v35 v36 v37 v38 v39 v40 v41 v42 v43 v44 v45 v46 v47 v48 v49 v50 v51 v52 v53 v54 v55 v56 v57 v58 v59 v60 v61 v62 v63 v64 v65 v66 v67 v68 v69 v70 v71 v72 v73 v74 v75 v76 v77 v78 v79 v80 v81 v82 v83 v84 v85 v86 v87 v88 v89 v90 v91 v92 v93 v94 v95 v96 v97 v98 v99 v100 v101 v102 : Value} {X Y : Nat} {F F2 : Nat → Bool} {n n3 : Nat} {nm nm2 : Bool} {t t2 : Int} {w : World}
    (HO1 : Hid (∀ w, Calls Tryz.prog 39 #[itv F n true nm] w fun e w' => e = .returned (.int .i64 t) ∧ Below w.heap.size w w'))
    (HO2 : Hid (∀ w, Calls Tryz.prog 39 #[itv F2 n3 true nm2] w fun e w' => e = .returned (.int .i64 t2) ∧ Below w.heap.size w w'))
    (hX : isIt w X F (n : Int) true nm) (hY : isIt w Y F2 (n3 : Int) true nm2) {K : Act → World → Prop}
    (HKK : Hid (∀ a' w', (fun a' w' => ∃ (u77 u78 u79 u80 u81 u82 u83 u84 u85 : Value), Below w.heap.size w w' ∧ a' = ⟨List.toArray (v0 :: v1 :: v2 :: v3 :: v4 :: v5 :: v6 :: v7 :: .pointer (some ⟨X, 0, none⟩) :: v9 :: .pointer (some ⟨Y, 0, none⟩) :: v11 :: v12 :: v13 :: v14 :: v15 :: v16 :: v17 :: v18 :: v19 :: v20 :: v21 :: v22 :: v23 :: v24 :: v25 :: v26 :: v27 :: v28 :: v29 :: v30 :: v31 :: v32 :: v33 :: v34 :: v35 :: v36 :: v37 :: v38 :: v39 :: v40 :: v41 :: v42 :: v43 :: v44 :: v45 :: v46 :: v47 :: v48 :: v49 :: v50 :: v51 :: v52 :: v53 :: v54 :: v55 :: v56 :: v57 :: v58 :: v59 :: v60 :: v61 :: v62 :: v63 :: v64 :: v65 :: v66 :: v67 :: v68 :: v69 :: v70 :: v71 :: v72 :: v73 :: v74 :: v75 :: v76 :: u77 :: u78 :: u79 :: u80 :: u81 :: u82 :: u83 :: u84 :: u85 :: .bool (decide (t2 < t)) :: v87 :: v88 :: v89 :: v90 :: v91 :: v92 :: v93 :: v94 :: v95 :: v96 :: v97 :: v98 :: v99 :: v100 :: v101 :: v102 :: []), []⟩) a' w' → K a' w')) :
    Code.wp Tryz.prog (bkReg 17) (Exit.then K (fun _ _ _ => False)) ⟨List.toArray (v0 :: v1 :: v2 :: v3 :: v4 :: v5 :: v6 :: v7 :: .pointer (some ⟨X, 0, none⟩) :: v9 :: .pointer (some ⟨Y, 0, none⟩) :: v11 :: v12 :: v13 :: v14 :: v15 :: v16 :: v17 :: v18 :: v19 :: v20 :: v21 :: v22 :: v23 :: v24 :: v25 :: v26 :: v27 :: v28 :: v29 :: v30 :: v31 :: v32 :: v33 :: v34 :: v35 :: v36 :: v37 :: v38 :: v39 :: v40 :: v41 :: v42 :: v43 :: v44 :: v45 :: v46 :: v47 :: v48 :: v49 :: v50 :: v51 :: v52 :: v53 :: v54 :: v55 :: v56 :: v57 :: v58 :: v59 :: v60 :: v61 :: v62 :: v63 :: v64 :: v65 :: v66 :: v67 :: v68 :: v69 :: v70 :: v71 :: v72 :: v73 :: v74 :: v75 :: v76 :: v77 :: v78 :: v79 :: v80 :: v81 :: v82 :: v83 :: v84 :: v85 :: v86 :: v87 :: v88 :: v89 :: v90 :: v91 :: v92 :: v93 :: v94 :: v95 :: v96 :: v97 :: v98 :: v99 :: v100 :: v101 :: v102 :: []), []⟩ w := by
  have HK := Lib.hid (show ∀ w', Below w.heap.size w w' → (w'.cell? ⟨X, 0, none⟩ = some (.int .u64 (wd F 0 : Int)) ∧ w'.cell? ⟨X, 1, none⟩ = some (.int .u64 (wd F 1 : Int)) ∧ w'.cell? ⟨X, 2, none⟩ = some (.int .u64 (wd F 2 : Int)) ∧ w'.cell? ⟨X, 3, none⟩ = some (.int .u64 (wd F 3 : Int)) ∧ w'.cell? ⟨X, 4, none⟩ = some (.int .i64 (n : Int)) ∧ w'.cell? ⟨X, 5, none⟩ = some (.bool true) ∧ w'.cell? ⟨X, 6, none⟩ = some (.bool nm) ∧ w'.cell? ⟨Y, 0, none⟩ = some (.int .u64 (wd F2 0 : Int)) ∧ w'.cell? ⟨Y, 1, none⟩ = some (.int .u64 (wd F2 1 : Int)) ∧ w'.cell? ⟨Y, 2, none⟩ = some (.int .u64 (wd F2 2 : Int)) ∧ w'.cell? ⟨Y, 3, none⟩ = some (.int .u64 (wd F2 3 : Int)) ∧ w'.cell? ⟨Y, 4, none⟩ = some (.int .i64 (n3 : Int)) ∧ w'.cell? ⟨Y, 5, none⟩ = some (.bool true) ∧ w'.cell? ⟨Y, 6, none⟩ = some (.bool nm2)) from fun w' hB => by
    obtain ⟨c0, c1, c2, c3, c4, c5, c6⟩ := (hX.below hB hX.lt).cells
    exact ⟨c0, c1, c2, c3, c4, c5, c6, (hY.below hB hY.lt).cells⟩)
  obtain ⟨-, -, -, -, -, y5, -⟩ := hY.cells
  have hB := (Below.refl w.heap.size w).drew
  have hS := HK.out _ (Below.refl w.heap.size w)
  clear hX hY
  conv => arg 2; whnf
  go_region_held_law (fun w' => (w'.cell? ⟨X, 0, none⟩ = some (.int .u64 (wd F 0 : Int)) ∧ w'.cell? ⟨X, 1, none⟩ = some (.int .u64 (wd F 1 : Int)) ∧ w'.cell? ⟨X, 2, none⟩ = some (.int .u64 (wd F 2 : Int)) ∧ w'.cell? ⟨X, 3, none⟩ = some (.int .u64 (wd F 3 : Int)) ∧ w'.cell? ⟨X, 4, none⟩ = some (.int .i64 (n : Int)) ∧ w'.cell? ⟨X, 5, none⟩ = some (.bool true) ∧ w'.cell? ⟨X, 6, none⟩ = some (.bool nm) ∧ w'.cell? ⟨Y, 0, none⟩ = some (.int .u64 (wd F2 0 : Int)) ∧ w'.cell? ⟨Y, 1, none⟩ = some (.int .u64 (wd F2 1 : Int)) ∧ w'.cell? ⟨Y, 2, none⟩ = some (.int .u64 (wd F2 2 : Int)) ∧ w'.cell? ⟨Y, 3, none⟩ = some (.int .u64 (wd F2 3 : Int)) ∧ w'.cell? ⟨Y, 4, none⟩ = some (.int .i64 (n3 : Int)) ∧ w'.cell? ⟨Y, 5, none⟩ = some (.bool true) ∧ w'.cell? ⟨Y, 6, none⟩ = some (.bool nm2)))
    (first | exact HK.out _ hB | go_keep)
    (first
      | (go_at_call 39; (with_reducible refine (HO1.out _).mono ?_); rintro e wk ⟨rfl, hb⟩; replace hB := hB.trans (hb.mono hB.size); clear hb)
      | (go_at_call 39; (with_reducible refine (HO2.out _).mono ?_); rintro e wk ⟨rfl, hb⟩; replace hB := hB.trans (hb.mono hB.size); clear hb))
  exact HKK.out _ _ ⟨_, _, _, _, _, _, _, _, _, hB, rfl⟩
end Go.Proofs.YtiahgcgpakgeeaaGreatDoor

namespace Go.Proofs.YtiahgcgpakgeeaaGreatDoor
open Go.RowKit

/-- The bracket at a place. -/
def bkF (p : ByteArray) (k : Nat) : Nat → Bool := match brk p k with | some r => r.1 | none => fun _ => false
def bkN (p : ByteArray) (k : Nat) : Nat := match brk p k with | some r => r.2 | none => 0
def bkOk (p : ByteArray) (k : Nat) : Bool := match brk p k with | some _ => true | none => false
theorem oneF_lt (f : Nat → Bool) (nm : Bool) : oneF f nm < 256 := by
  unfold oneF
  split
  · decide
  · split
    · rename_i h
      have hm : (bl f 256).headD 0 ∈ bl f 256 := by
        cases hl : bl f 256 with
        | nil => rw [hl] at h; cases h
        | cons a l => simp
      have hm2 := List.mem_range.1 (List.mem_filter.1 hm).1
      exact Int.ofNat_lt.2 hm2
    · decide
theorem rnot_svr (f : Nat → Bool) (w : World) : Calls Tryz.prog 25 #[svr f] w fun e w' => e = .returned (sv fun k => !f k) ∧ Below w.heap.size w w' := rnot_any f w
theorem rjoin_svr (f g : Nat → Bool) (w : World) : Calls Tryz.prog 40 #[svr f, svr g, .int .i64 0] w fun e w' => e = .returned (sv fun k => f k || g k) ∧ Below w.heap.size w w' := rjoin0_any f g w

set_option maxRecDepth 100000 in
set_option maxHeartbeats 20000000 in
theorem rbk_not (p : ByteArray) (k : Nat) (hp : p.size ≤ 200) (hk : k + 1 < p.size) (hnt : gb p (k + 1) = 94) (w : World) :
    Calls Tryz.prog 23 #[.string p, .int .i64 (k : Int)] w fun e w' => e = .returned (itv (bkF p k) (bkN p k) (bkOk p k) false) ∧ Below w.heap.size w w' := by
  obtain ⟨R, hR⟩ : ∃ R, brkL p (p.size + 1) (k + 2) (fun _ => false) = R := ⟨_, rfl⟩
  have HS : Hid (∀ g e, R = some (g, e) → bkF p k = (fun x => !g x) ∧ bkN p k = e ∧ bkOk p k = true) := Lib.hid (fun g e h => by
    unfold bkF bkN bkOk brk
    rw [if_pos hnt, hR, h]
    exact ⟨rfl, rfl, rfl⟩)
  have HN : Hid (R = none → bkF p k = (fun _ => false) ∧ bkN p k = 0 ∧ bkOk p k = false) := Lib.hid (fun h => by
    unfold bkF bkN bkOk brk
    rw [if_pos hnt, hR, h]
    exact ⟨rfl, rfl, rfl⟩)
  have HR := Lib.hid hR
  obtain ⟨c, hc⟩ : ∃ c, gb p (k + 1) = c := ⟨_, rfl⟩
  have g1 := gb_in hk
  rw [hc] at g1
  rw [hc] at hnt
  have i1 : decide ((k : Int) + 1 < (p.size : Int)) = true := decide_eq_true (by omega)
  have i2 : ((c : Int) == 94) = true := beq_iff_eq.2 (by omega)
  have E0 := Lib.hid ((isIt.newNone w).alloc (.cells #[.int .u64 0, .int .u64 0, .int .u64 0, .int .u64 0] 36))
  have B0 := Lib.hid (isSet.newNone (w.alloc (.cells #[.int .u64 0, .int .u64 0, .int .u64 0, .int .u64 0, .int .i64 0, .bool false, .bool false] 61)))
  have HW : Hid (Below w.heap.size w ((w.alloc (.cells #[.int .u64 0, .int .u64 0, .int .u64 0, .int .u64 0, .int .i64 0, .bool false, .bool false] 61)).alloc (.cells #[.int .u64 0, .int .u64 0, .int .u64 0, .int .u64 0] 36))) := Lib.hid (((Below.refl _ _).alloc (Nat.le_refl _) _).alloc (by simp) _)
  clear hR hc hnt
  go_enter Tryz.func23, Tryz.ntmps23
  go_wp2_with fail
  clear g1 i1 i2
  go_loopw [5] (fun at_ wr => ∃ (i u : Nat) (g : Nat → Bool), at_ = .int .i64 i ∧ i ≤ p.size ∧ isIt wr w.heap.size (fun _ => false) 0 false false ∧ isSet wr (w.heap.size + 1) g ∧ Below w.heap.size w wr ∧ Hid (brkL p u i g = R ∧ p.size + 1 ≤ u + i)) (fun at_ _ => p.size - (intOf at_).toNat)
  case atStart => exact ⟨k + 2, p.size + 1, _, by go_num, by omega, E0.out, by have := B0.out; rw [World.size_alloc] at this; exact this, HW.out, Lib.hid ⟨HR.out, by omega⟩⟩
  case round =>
    obtain ⟨i, u, g, rfl, hi, e0, b0, hW, hh⟩ := hrel
    clear E0 B0 HW HR
    have ln : w.heap.size + 1 < wr.heap.size := b0.lt
    have ne : w.heap.size ≠ w.heap.size + 1 := by omega
    by_cases hlt : i < p.size
    · have i1 : decide ((i : Int) < (p.size : Int)) = true := decide_eq_true (by omega)
      have gi := gb_in hlt
      by_cases hc : gb p i = 93
      · rw [hc] at gi
        have HE : Hid (R = some (g, i + 1)) := Lib.hid (by
          obtain ⟨q1, q2⟩ := hh.out
          obtain ⟨u', rfl⟩ : ∃ u', u = u' + 1 := ⟨u - 1, by omega⟩
          rw [← q1]
          exact brkL_hit hlt hc)
        clear hh hc
        have B0 := Lib.hid b0; have E0 := Lib.hid e0; have HW := Lib.hid hW
        obtain ⟨s0, s1, s2, s3⟩ := b0.cells
        clear e0 hW b0
        go_wp2_with fail
        refine (rnot_svr _ _).mono ?_
        obtain ⟨G, hG⟩ : ∃ G, (fun k => !g k) = G := ⟨_, rfl⟩
        rw [hG]
        have HG := Lib.hid hG
        clear hG s0 s1 s2 s3
        rintro e w1 ⟨rfl, hb⟩
        have hW := HW.out.trans (hb.mono HW.out.size)
        have e0 := E0.out.below hb E0.out.lt
        have b0 := B0.out.below hb B0.out.lt
        clear hb HW E0 B0
        have ln1 : w.heap.size + 1 < w1.heap.size := b0.lt
        obtain ⟨y0, y1, y2, y3⟩ := b0.cells
        obtain ⟨z0, z1, z2, z3⟩ := b0.free
        have b1 := b0.stored G
        have e1 := (((e0.set (c := w.heap.size + 1) ne 0 (.int .u64 (wd G 0 : Int))).set (c := w.heap.size + 1) ne 1 (.int .u64 (wd G 1 : Int))).set (c := w.heap.size + 1) ne 2 (.int .u64 (wd G 2 : Int))).set (c := w.heap.size + 1) ne 3 (.int .u64 (wd G 3 : Int))
        have hW1 := below_set4 (c := w.heap.size + 1) hW (by omega) (.int .u64 (wd G 0 : Int)) (.int .u64 (wd G 1 : Int)) (.int .u64 (wd G 2 : Int)) (.int .u64 (wd G 3 : Int))
        clear b0 e0 hW
        go_upto_region 10 with (fail)
        generalize ((((w1.setCell ⟨w.heap.size + 1, 0, none⟩ (.int .u64 (wd G 0 : Int))).setCell ⟨w.heap.size + 1, 1, none⟩ (.int .u64 (wd G 1 : Int))).setCell ⟨w.heap.size + 1, 2, none⟩ (.int .u64 (wd G 2 : Int))).setCell ⟨w.heap.size + 1, 3, none⟩ (.int .u64 (wd G 3 : Int))) = W at *
        clear y0 y1 y2 y3 z0 z1 z2 z3
        have e0 := e1; have hW := hW1; have b0 := b1
        clear e1 hW1 b1
        have HR := Lib.hid (below_set7 hW (Nat.le_refl _) G ((i : Int) + 1) true false)
        have Z := Lib.hid (e0.stored G ((i : Int) + 1) true false).cells
        have q := e0.cells
        simp only [none_wd] at q
        obtain ⟨q0, q1, q2, q3, q4, q5, q6⟩ := q
        obtain ⟨r0, r1, r2, r3, r4, r5, r6⟩ := e0.free
        obtain ⟨s0, s1, s2, s3⟩ := b0.cells
        clear e0 hW b0
        go_wp2_with (refine wpList_build_item rfl _ _ _ rfl (wd G 0 : Int) (wd G 1 : Int) (wd G 2 : Int) (wd G 3 : Int) ((i : Int) + 1) true rfl rfl rfl ?_)
        unfold set7 at Z HR
        refine bodyPost_ret (v := itv G (i + 1) true false) (by simp [results, Tryz.results23, go_sem, Z.out]) rfl ⟨by rw [(HS.out _ _ HE.out).1, (HS.out _ _ HE.out).2.1, (HS.out _ _ HE.out).2.2, HG.out], HR.out⟩
      · obtain ⟨c, hcc⟩ : ∃ c, gb p i = c := ⟨_, rfl⟩
        have hq := fun w => single_any p i w hp hlt
        have hbd := it_bd (p := p) (i := i) hlt
        rw [hcc] at gi
        have i2 : ((c : Int) == 93) = false := beq_eq_false_iff_ne.2 (by omega)
        have B0 := Lib.hid b0; have E0 := Lib.hid e0; have HW := Lib.hid hW
        obtain ⟨F, hF⟩ : ∃ F, sinF p i = F := ⟨_, rfl⟩
        obtain ⟨n, hn⟩ : ∃ n, sinN p i = n := ⟨_, rfl⟩
        obtain ⟨nm, hnm⟩ : ∃ nm, sinNm p i = nm := ⟨_, rfl⟩
        clear b0 e0 hW
        cases ho : sinOk p i
        · have HE : Hid (R = none) := Lib.hid (by rw [← hh.out.1]; exact brkL_bad (.inr ⟨hc, by unfold itOk; rw [ho]; rfl⟩))
          rw [ho, hF, hn, hnm] at hq
          have HQ := Lib.hid hq
          clear hh hc hcc hq ho hbd hF hn hnm
          go_wp2_with fail
          refine (HQ.out _).mono ?_
          rintro e w1 ⟨rfl, hb⟩
          have l9 : w.heap.size < w1.heap.size := Nat.lt_of_lt_of_le E0.out.lt hb.size
          have e0 := (E0.out.below hb E0.out.lt).alloc (.cells #[.int .u64 (wd F 0 : Int), .int .u64 (wd F 1 : Int), .int .u64 (wd F 2 : Int), .int .u64 (wd F 3 : Int), .int .i64 ((n : Int)), .bool false, .bool nm] 61)
          have hW := (HW.out.trans (hb.mono HW.out.size)).alloc (Nat.le_trans HW.out.size hb.size) (.cells #[.int .u64 (wd F 0 : Int), .int .u64 (wd F 1 : Int), .int .u64 (wd F 2 : Int), .int .u64 (wd F 3 : Int), .int .i64 ((n : Int)), .bool false, .bool nm] 61)
          have x0 := isIt.new w1 F (n : Int) false nm
          clear hb E0 HW HQ B0
          go_upto_region 12 with (fail)
          generalize hg : w1.heap.size = X at *
          generalize w1.alloc (.cells #[.int .u64 (wd F 0 : Int), .int .u64 (wd F 1 : Int), .int .u64 (wd F 2 : Int), .int .u64 (wd F 3 : Int), .int .i64 ((n : Int)), .bool false, .bool nm] 61) = W at *
          obtain ⟨-, -, -, -, -, x5, -⟩ := x0.cells
          clear hg x0
          have HR := Lib.hid (below_set7z hW (Nat.le_refl _))
          have q := e0.cells
          simp only [none_wd] at q
          obtain ⟨q0, q1, q2, q3, q4, q5, q6⟩ := q
          obtain ⟨r0, r1, r2, r3, r4, r5, r6⟩ := e0.free
          clear e0 hW
          go_wp2
          refine bodyPost_ret (v := .agg #[.int .u64 0, .int .u64 0, .int .u64 0, .int .u64 0, .int .i64 0, .bool false, .bool false]) (by simp [results, Tryz.results23, go_sem, q0, q1, q2, q3, q4, q5, q6]) rfl ⟨by rw [(HN.out HE.out).1, (HN.out HE.out).2.1, (HN.out HE.out).2.2, itv_none], HR.out⟩
        · rw [ho, hF, hn, hnm] at hq
          have HQ := Lib.hid hq
          clear hq
          go_wp2_with fail
          refine (HQ.out _).mono ?_
          rintro e w1 ⟨rfl, hb⟩
          have l9 : w.heap.size + 1 < w1.heap.size := Nat.lt_of_lt_of_le ln hb.size
          have e0 := (E0.out.below hb E0.out.lt).alloc (.cells #[.int .u64 (wd F 0 : Int), .int .u64 (wd F 1 : Int), .int .u64 (wd F 2 : Int), .int .u64 (wd F 3 : Int), .int .i64 ((n : Int)), .bool true, .bool nm] 61)
          have b0 := (B0.out.below hb B0.out.lt).alloc (.cells #[.int .u64 (wd F 0 : Int), .int .u64 (wd F 1 : Int), .int .u64 (wd F 2 : Int), .int .u64 (wd F 3 : Int), .int .i64 ((n : Int)), .bool true, .bool nm] 61)
          have hW := (HW.out.trans (hb.mono HW.out.size)).alloc (Nat.le_trans HW.out.size hb.size) (.cells #[.int .u64 (wd F 0 : Int), .int .u64 (wd F 1 : Int), .int .u64 (wd F 2 : Int), .int .u64 (wd F 3 : Int), .int .i64 ((n : Int)), .bool true, .bool nm] 61)
          have x0 := isIt.new w1 F (n : Int) true nm
          clear hb E0 HW HQ B0
          go_upto_region 12 with (fail)
          generalize hg : w1.heap.size = X at *
          generalize w1.alloc (.cells #[.int .u64 (wd F 0 : Int), .int .u64 (wd F 1 : Int), .int .u64 (wd F 2 : Int), .int .u64 (wd F 3 : Int), .int .i64 ((n : Int)), .bool true, .bool nm] 61) = W at *
          clear hg
          have B0 := Lib.hid b0; have E0 := Lib.hid e0; have HW := Lib.hid hW; have X0 := Lib.hid x0
          obtain ⟨t, ht⟩ : ∃ t, oneF F nm = t := ⟨_, rfl⟩
          have HO := Lib.hid (show ∀ w, _ from one_any F n true nm)
          rw [ht] at HO
          obtain ⟨y0, y1, y2, y3⟩ := b0.cells
          obtain ⟨x00, x1, x2, x3, x4, x5, x6⟩ := x0.cells
          clear b0 e0 hW x0
          go_wp2_with fail
          refine (HO.out _).mono ?_
          rintro e w2 ⟨rfl, hb⟩
          have e0 := E0.out.below hb E0.out.lt
          have b0 := B0.out.below hb B0.out.lt
          have x0 := X0.out.below hb X0.out.lt
          have hW := HW.out.trans (hb.mono HW.out.size)
          have lX : X < w2.heap.size := x0.lt
          clear hb E0 HW B0 X0 y0 y1 y2 y3 x00 x1 x2 x3 x4 x5 x6 HO
          have B0 := Lib.hid b0; have E0 := Lib.hid e0; have HW := Lib.hid hW; have X0 := Lib.hid x0
          obtain ⟨y0, y1, y2, y3⟩ := b0.cells
          obtain ⟨s0, s1, s2, s3, x4, x5, x6⟩ := x0.cells
          clear b0 e0 hW x0
          rcases Int.lt_or_le t 0 with ht0 | ht0
          · have z1 : decide ((0 : Int) ≤ t) = false := decide_eq_false (by omega)
            have hy : itHyp p i = false := by
              unfold itHyp
              rw [hF, hnm, ht, hn, z1]
              rfl
            have hok : itOk p i = true := by unfold itOk; rw [ho, hy]; rfl
            obtain ⟨hb1, hb2⟩ := hbd hok
            have hN1 : itN p i = n := by unfold itN; rw [hy, if_neg (by decide), hn]
            have hF1 : itF p i = F := by unfold itF; rw [hy, if_neg (by decide), hF]
            rw [hN1] at hb1 hb2
            have n1 : i < n := hb1
            have n2 : n ≤ p.size := hb2
            have HE : Hid (∃ u', brkL p u' n (fun x => g x || F x) = R ∧ p.size + 1 ≤ u' + n) := Lib.hid (by
              obtain ⟨q1, q2⟩ := hh.out
              obtain ⟨u', rfl⟩ : ∃ u', u = u' + 1 := ⟨u - 1, by omega⟩
              refine ⟨u', ?_, by omega⟩
              rw [← q1, brkL_step hlt hc hok, hN1, hF1])
            clear hy hok hb1 hb2 hN1 hF1 hF hn hnm ht ho hh hbd i1 i2 hcc hc gi hi
            clear ht0
            go_wp2_with fail
            refine (rjoin_svr _ _ _).mono ?_
            obtain ⟨G2, hG2⟩ : ∃ G2, (fun x => g x || F x) = G2 := ⟨_, rfl⟩
            rw [hG2]
            rw [hG2] at HE
            clear hG2
            rintro e w3 ⟨rfl, hb⟩
            have hW := HW.out.trans (hb.mono HW.out.size)
            have e0 := E0.out.below hb E0.out.lt
            have b0 := B0.out.below hb B0.out.lt
            have x0 := X0.out.below hb X0.out.lt
            clear s0 s1 s2 s3 x4 x5 x6 y0 y1 y2 y3 hb HW E0 B0 X0
            have nX : X ≠ w.heap.size + 1 := by omega
            have ln2 : w.heap.size + 1 < w3.heap.size := b0.lt
            obtain ⟨z0, z1, z2, z3⟩ := b0.free
            obtain ⟨y0, y1, y2, y3⟩ := b0.cells
            obtain ⟨-, -, -, -, x4, -, -⟩ := x0.cells
            have B1 := Lib.hid (b0.stored G2)
            have E1 := Lib.hid ((((e0.set (c := w.heap.size + 1) ne 0 (.int .u64 (wd G2 0 : Int))).set (c := w.heap.size + 1) ne 1 (.int .u64 (wd G2 1 : Int))).set (c := w.heap.size + 1) ne 2 (.int .u64 (wd G2 2 : Int))).set (c := w.heap.size + 1) ne 3 (.int .u64 (wd G2 3 : Int)))
            have W1 := Lib.hid (below_set4 (c := w.heap.size + 1) hW (by omega) (.int .u64 (wd G2 0 : Int)) (.int .u64 (wd G2 1 : Int)) (.int .u64 (wd G2 2 : Int)) (.int .u64 (wd G2 3 : Int)))
            clear b0 e0 hW x0
            go_wp2
            go_roundw
            case rel =>
              obtain ⟨u', q1, q2⟩ := HE.out
              exact ⟨n, u', G2, by go_num, n2, E1.out, B1.out, W1.out, Lib.hid ⟨q1, q2⟩⟩
            case measure => simp [intOf]; omega
          · have z1 : decide ((0 : Int) ≤ t) = true := decide_eq_true ht0
            rcases Nat.lt_or_ge (n + 1) p.size with hn1 | hn1
            · have z2 : decide ((n : Int) + 1 < (p.size : Int)) = true := decide_eq_true (by omega)
              have gn := gb_in (show n < p.size by omega)
              have gm := gb_in hn1
              obtain ⟨d, hd⟩ : ∃ d, gb p n = d := ⟨_, rfl⟩
              rw [hd] at gn
              by_cases h45 : d = 45
              · subst h45
                obtain ⟨d, hd2⟩ : ∃ d, gb p (n + 1) = d := ⟨_, rfl⟩
                rw [hd2] at gm
                by_cases h93 : d = 93
                · subst h93
                  have hy : itHyp p i = false := by
                    unfold itHyp
                    rw [hF, hnm, ht, hn, show decide (0 ≤ t) = true from decide_eq_true ht0, show decide (n + 1 < p.size) = true from decide_eq_true hn1, hd, hd2]
                    rfl
                  have hok : itOk p i = true := by unfold itOk; rw [ho, hy]; rfl
                  obtain ⟨hb1, hb2⟩ := hbd hok
                  have hN1 : itN p i = n := by unfold itN; rw [hy, if_neg (by decide), hn]
                  have hF1 : itF p i = F := by unfold itF; rw [hy, if_neg (by decide), hF]
                  rw [hN1] at hb1 hb2
                  have n1 : i < n := hb1
                  have n2 : n ≤ p.size := hb2
                  have HE : Hid (∃ u', brkL p u' n (fun x => g x || F x) = R ∧ p.size + 1 ≤ u' + n) := Lib.hid (by
                    obtain ⟨q1, q2⟩ := hh.out
                    obtain ⟨u', rfl⟩ : ∃ u', u = u' + 1 := ⟨u - 1, by omega⟩
                    refine ⟨u', ?_, by omega⟩
                    rw [← q1, brkL_step hlt hc hok, hN1, hF1])
                  clear hy hok hb1 hb2 hN1 hF1 hF hn hnm ht ho hh hbd i1 i2 hcc hc gi hi
                  clear hd hd2
                  go_wp2_with fail
                  refine (rjoin_svr _ _ _).mono ?_
                  obtain ⟨G2, hG2⟩ : ∃ G2, (fun x => g x || F x) = G2 := ⟨_, rfl⟩
                  rw [hG2]
                  rw [hG2] at HE
                  clear hG2
                  rintro e w3 ⟨rfl, hb⟩
                  have hW := HW.out.trans (hb.mono HW.out.size)
                  have e0 := E0.out.below hb E0.out.lt
                  have b0 := B0.out.below hb B0.out.lt
                  have x0 := X0.out.below hb X0.out.lt
                  clear s0 s1 s2 s3 x4 x5 x6 y0 y1 y2 y3 hb HW E0 B0 X0
                  have nX : X ≠ w.heap.size + 1 := by omega
                  have ln2 : w.heap.size + 1 < w3.heap.size := b0.lt
                  obtain ⟨z0, z1, z2, z3⟩ := b0.free
                  obtain ⟨y0, y1, y2, y3⟩ := b0.cells
                  obtain ⟨-, -, -, -, x4, -, -⟩ := x0.cells
                  have B1 := Lib.hid (b0.stored G2)
                  have E1 := Lib.hid ((((e0.set (c := w.heap.size + 1) ne 0 (.int .u64 (wd G2 0 : Int))).set (c := w.heap.size + 1) ne 1 (.int .u64 (wd G2 1 : Int))).set (c := w.heap.size + 1) ne 2 (.int .u64 (wd G2 2 : Int))).set (c := w.heap.size + 1) ne 3 (.int .u64 (wd G2 3 : Int)))
                  have W1 := Lib.hid (below_set4 (c := w.heap.size + 1) hW (by omega) (.int .u64 (wd G2 0 : Int)) (.int .u64 (wd G2 1 : Int)) (.int .u64 (wd G2 2 : Int)) (.int .u64 (wd G2 3 : Int)))
                  clear b0 e0 hW x0
                  go_wp2
                  go_roundw
                  case rel =>
                    obtain ⟨u', q1, q2⟩ := HE.out
                    exact ⟨n, u', G2, by go_num, n2, E1.out, B1.out, W1.out, Lib.hid ⟨q1, q2⟩⟩
                  case measure => simp [intOf]; omega
                · have z4 : ((d : Int) != 93) = true := by simp; omega
                  have hy : itHyp p i = true := by
                    unfold itHyp
                    rw [hF, hnm, ht, hn, show decide (0 ≤ t) = true from decide_eq_true ht0, show decide (n + 1 < p.size) = true from decide_eq_true hn1, hd, hd2]
                    simp [h93]
                  have hq2 : ∀ w, Calls Tryz.prog 38 #[.string p, .int .i64 ((n : Int) + 1)] w fun e w' => e = .returned (itv (sinF p (n + 1)) (sinN p (n + 1)) (sinOk p (n + 1)) (sinNm p (n + 1))) ∧ Below w.heap.size w w' := fun w => by
                    have := single_any p (n + 1) w hp hn1
                    rw [show ((n + 1 : Nat) : Int) = (n : Int) + 1 by omega] at this
                    exact this
                  obtain ⟨F2, hF2⟩ : ∃ F, sinF p (n + 1) = F := ⟨_, rfl⟩
                  obtain ⟨n3, hn3⟩ : ∃ m, sinN p (n + 1) = m := ⟨_, rfl⟩
                  obtain ⟨nm2, hnm2⟩ : ∃ nm, sinNm p (n + 1) = nm := ⟨_, rfl⟩
                  obtain ⟨t2, ht2⟩ : ∃ t, oneF F2 nm2 = t := ⟨_, rfl⟩
                  have hlo : itLo p i = t := by unfold itLo; rw [hF, hnm, ht]
                  have hhi : itHi p i = t2 := by unfold itHi; rw [hn, hF2, hnm2, ht2]
                  rw [hF2, hn3, hnm2] at hq2
                  cases ho2 : sinOk p (n + 1)
                  · have HE : Hid (R = none) := Lib.hid (by rw [← hh.out.1]; exact brkL_bad (.inr ⟨hc, by unfold itOk; rw [ho, hy, hn, ho2]; rfl⟩))
                    rw [ho2] at hq2
                    have HQ := Lib.hid hq2
                    clear hq2 hh hc hcc ho hbd hF hn hnm ht hy hlo hhi hF2 hn3 hnm2 ht2 ho2 hd hd2 h93 i1 i2
                    go_wp2_with fail
                    refine (HQ.out _).mono ?_
                    rintro e w3 ⟨rfl, hb⟩
                    have l10 : w.heap.size < w3.heap.size := Nat.lt_of_lt_of_le E0.out.lt hb.size
                    have e0 := (E0.out.below hb E0.out.lt).alloc (.cells #[.int .u64 (wd F2 0 : Int), .int .u64 (wd F2 1 : Int), .int .u64 (wd F2 2 : Int), .int .u64 (wd F2 3 : Int), .int .i64 ((n3 : Int)), .bool false, .bool nm2] 61)
                    have hW := (HW.out.trans (hb.mono HW.out.size)).alloc (Nat.le_trans HW.out.size hb.size) (.cells #[.int .u64 (wd F2 0 : Int), .int .u64 (wd F2 1 : Int), .int .u64 (wd F2 2 : Int), .int .u64 (wd F2 3 : Int), .int .i64 ((n3 : Int)), .bool false, .bool nm2] 61)
                    have x0 := isIt.new w3 F2 (n3 : Int) false nm2
                    clear hb E0 HW HQ B0 X0 s0 s1 s2 s3 x4 x5 x6 y0 y1 y2 y3 z1 z2 z4 gn gm gi
                    go_upto_region 17 with (fail)
                    generalize hg : w3.heap.size = Y at *
                    generalize w3.alloc (.cells #[.int .u64 (wd F2 0 : Int), .int .u64 (wd F2 1 : Int), .int .u64 (wd F2 2 : Int), .int .u64 (wd F2 3 : Int), .int .i64 ((n3 : Int)), .bool false, .bool nm2] 61) = W2 at *
                    obtain ⟨-, -, -, -, -, x5, -⟩ := x0.cells
                    have E0 := Lib.hid e0; have HW := Lib.hid (show ∀ m : Nat, _ from fun m => below_drewN m hW)
                    clear hg x0 e0 hW
                    have e0 := E0.out
                    have HR := Lib.hid (fun m : Nat => below_set7z (HW.out m) (Nat.le_refl _))
                    have q := e0.cells
                    simp only [none_wd] at q
                    obtain ⟨q0, q1, q2, q3, q4, q5, q6⟩ := q
                    obtain ⟨r0, r1, r2, r3, r4, r5, r6⟩ := e0.free
                    clear e0 E0
                    go_quiet (fail)
                    go_wp2
                    refine bodyPost_ret (v := .agg #[.int .u64 0, .int .u64 0, .int .u64 0, .int .u64 0, .int .i64 0, .bool false, .bool false]) (by simp [results, Tryz.results23, go_sem, q0, q1, q2, q3, q4, q5, q6]) rfl ⟨by rw [(HN.out HE.out).1, (HN.out HE.out).2.1, (HN.out HE.out).2.2, itv_none], HR.out _⟩
                  · rw [ho2] at hq2
                    have HQ := Lib.hid hq2
                    clear hq2
                    have HO1 := Lib.hid (show ∀ w, _ from one_any F n true nm)
                    have HO2 := Lib.hid (show ∀ w, _ from one_any F2 n3 true nm2)
                    rw [ht] at HO1
                    rw [ht2] at HO2
                    go_wp2_with fail
                    refine (HQ.out _).mono ?_
                    rintro e w3 ⟨rfl, hb⟩
                    have l10 : X < w3.heap.size := Nat.lt_of_lt_of_le lX hb.size
                    have e0 := (E0.out.below hb E0.out.lt).alloc (.cells #[.int .u64 (wd F2 0 : Int), .int .u64 (wd F2 1 : Int), .int .u64 (wd F2 2 : Int), .int .u64 (wd F2 3 : Int), .int .i64 ((n3 : Int)), .bool true, .bool nm2] 61)
                    have b0 := (B0.out.below hb B0.out.lt).alloc (.cells #[.int .u64 (wd F2 0 : Int), .int .u64 (wd F2 1 : Int), .int .u64 (wd F2 2 : Int), .int .u64 (wd F2 3 : Int), .int .i64 ((n3 : Int)), .bool true, .bool nm2] 61)
                    have x0 := (X0.out.below hb X0.out.lt).alloc (.cells #[.int .u64 (wd F2 0 : Int), .int .u64 (wd F2 1 : Int), .int .u64 (wd F2 2 : Int), .int .u64 (wd F2 3 : Int), .int .i64 ((n3 : Int)), .bool true, .bool nm2] 61)
                    have hW := (HW.out.trans (hb.mono HW.out.size)).alloc (Nat.le_trans HW.out.size hb.size) (.cells #[.int .u64 (wd F2 0 : Int), .int .u64 (wd F2 1 : Int), .int .u64 (wd F2 2 : Int), .int .u64 (wd F2 3 : Int), .int .i64 ((n3 : Int)), .bool true, .bool nm2] 61)
                    have v0 := isIt.new w3 F2 (n3 : Int) true nm2
                    clear hb E0 HW HQ B0 X0 s0 s1 s2 s3 x4 x5 x6 y0 y1 y2 y3 z1 z2 z4 gn gm gi i1 i2 hcc
                    go_upto_region 17 with (fail)
                    generalize hg : w3.heap.size = Y at *
                    generalize w3.alloc (.cells #[.int .u64 (wd F2 0 : Int), .int .u64 (wd F2 1 : Int), .int .u64 (wd F2 2 : Int), .int .u64 (wd F2 3 : Int), .int .i64 ((n3 : Int)), .bool true, .bool nm2] 61) = W2 at *
                    clear hg
                    have B0 := Lib.hid b0; have E0 := Lib.hid e0; have HW := Lib.hid hW; have X0 := Lib.hid x0; have Y0 := Lib.hid v0
                    clear b0 e0 hW x0 v0
                    go_wp2_with fail
                    refine wp_false (reg17 HO1 HO2 X0.out Y0.out (Lib.hid fun _ _ h => h)) ?_
                    rintro _ wk ⟨u77, u78, u79, u80, u81, u82, u83, u84, u85, hB, rfl⟩
                    cases hcmp : decide (t2 < t)
                    · have h3 : t ≤ t2 := by have := of_decide_eq_false hcmp; omega
                      have hok : itOk p i = true := by
                        unfold itOk
                        rw [ho, hy, hn, ho2, hlo, hhi, show decide (t ≤ t2) = true from decide_eq_true h3]
                        rfl
                      obtain ⟨hb1, hb2⟩ := hbd hok
                      obtain ⟨FR, hFR⟩ : ∃ FR, itF p i = FR := ⟨_, rfl⟩
                      have hN1 : itN p i = n3 := by unfold itN; rw [hy, if_pos rfl, hn, hn3]
                      have hFR2 : (fun x => decide (t.toNat ≤ x) && decide (x ≤ t2.toNat)) = FR := by rw [← hFR]; unfold itF; rw [hy, if_pos rfl, hlo, hhi]
                      rw [hN1] at hb1 hb2
                      have n1 : i < n3 := hb1
                      have n2 : n3 ≤ p.size := hb2
                      have HE : Hid (∃ u', brkL p u' n3 (fun x => g x || FR x) = R ∧ p.size + 1 ≤ u' + n3) := Lib.hid (by
                        obtain ⟨q1, q2⟩ := hh.out
                        obtain ⟨u', rfl⟩ : ∃ u', u = u' + 1 := ⟨u - 1, by omega⟩
                        refine ⟨u', ?_, by omega⟩
                        rw [← q1, brkL_step hlt hc hok, hN1, hFR])
                      have b3 : t < 256 := by rw [← ht]; exact oneF_lt _ _
                      have b4 : t2 < 256 := by rw [← ht2]; exact oneF_lt _ _
                      have HRG := Lib.hid (show ∀ w, Calls Tryz.prog 21 #[.int .i64 t, .int .i64 t2] w fun e w' => e = .returned (sv FR) ∧ Below w.heap.size w w' from fun w => by
                        obtain ⟨a, ha⟩ := Int.eq_ofNat_of_zero_le ht0
                        obtain ⟨b, hb⟩ := Int.eq_ofNat_of_zero_le (Int.le_trans ht0 h3)
                        rw [← hFR2, ha, hb]
                        exact rrange_any a b (by omega) (by omega) w)
                      clear hh hc hbd hF hn hnm ho ht ht0 hn1 hd hd2 h93 hy hF2 hn3 hnm2 ht2 hlo hhi ho2 hcmp hok hb1 hb2 hN1 hFR hFR2 b3 b4 h3
                      go_upto_region 19 with (fail)
                      refine wp_false (reg19 HO1 HO2 HRG (X0.out.below hB X0.out.lt) (Y0.out.below hB Y0.out.lt) (show Y ≠ X by omega) (Lib.hid fun _ _ h => h)) ?_
                      rintro _ _ ⟨u88, u89, u90, u91, u92, u93, u94, u95, wk2, hb, rfl, rfl⟩
                      have hB2 := hB.trans (hb.mono hB.size)
                      have x0 : isIt (set7 wk2 X FR (n3 : Int) true false) X FR (n3 : Int) true false := (X0.out.below hB2 X0.out.lt).stored FR (n3 : Int) true false
                      have e0 : isIt (set7 wk2 X FR (n3 : Int) true false) w.heap.size (fun _ => false) 0 false false := (((((((E0.out.below hB2 E0.out.lt).set (c := X) (by omega) 0 (.int .u64 (wd FR 0 : Int))).set (c := X) (by omega) 1 (.int .u64 (wd FR 1 : Int))).set (c := X) (by omega) 2 (.int .u64 (wd FR 2 : Int))).set (c := X) (by omega) 3 (.int .u64 (wd FR 3 : Int))).set (c := X) (by omega) 4 (.int .i64 (n3 : Int))).set (c := X) (by omega) 5 (.bool true)).set (c := X) (by omega) 6 (.bool false)
                      have b0 : isSet (set7 wk2 X FR (n3 : Int) true false) (w.heap.size + 1) g := ((((B0.out.below hB2 B0.out.lt).other4 (c := X) (by omega) (.int .u64 (wd FR 0 : Int)) (.int .u64 (wd FR 1 : Int)) (.int .u64 (wd FR 2 : Int)) (.int .u64 (wd FR 3 : Int))).other (a := ⟨X, 4, none⟩) (by show w.heap.size + 1 ≠ X; omega) (.int .i64 (n3 : Int))).other (a := ⟨X, 5, none⟩) (by show w.heap.size + 1 ≠ X; omega) (.bool true)).other (a := ⟨X, 6, none⟩) (by show w.heap.size + 1 ≠ X; omega) (.bool false)
                      have hW : Below w.heap.size w (set7 wk2 X FR (n3 : Int) true false) := below_set7 (HW.out.trans (hB2.mono HW.out.size)) (show w.heap.size ≤ X by omega) FR (n3 : Int) true false
                      generalize set7 wk2 X FR (n3 : Int) true false = wc at *
                      clear HO1 HO2 HRG hB hB2 hb B0 E0 HW X0 Y0
                      have B0 := Lib.hid b0; have E0 := Lib.hid e0; have HW := Lib.hid hW; have X0 := Lib.hid x0
                      obtain ⟨y0, y1, y2, y3⟩ := b0.cells
                      obtain ⟨s0, s1, s2, s3, x4, x5, x6⟩ := x0.cells
                      clear b0 e0 hW x0
                      go_wp2_with fail
                      refine (rjoin_svr _ _ _).mono ?_
                      obtain ⟨G2, hG2⟩ : ∃ G2, (fun x => g x || FR x) = G2 := ⟨_, rfl⟩
                      rw [hG2]
                      rw [hG2] at HE
                      clear hG2
                      rintro e w3 ⟨rfl, hb⟩
                      have hW := HW.out.trans (hb.mono HW.out.size)
                      have e0 := E0.out.below hb E0.out.lt
                      have b0 := B0.out.below hb B0.out.lt
                      have x0 := X0.out.below hb X0.out.lt
                      clear s0 s1 s2 s3 x4 x5 x6 y0 y1 y2 y3 hb HW E0 B0 X0
                      have nX : X ≠ w.heap.size + 1 := by omega
                      have ln2 : w.heap.size + 1 < w3.heap.size := b0.lt
                      obtain ⟨z0, z1, z2, z3⟩ := b0.free
                      obtain ⟨y0, y1, y2, y3⟩ := b0.cells
                      obtain ⟨-, -, -, -, x4, -, -⟩ := x0.cells
                      have B1 := Lib.hid (b0.stored G2)
                      have E1 := Lib.hid ((((e0.set (c := w.heap.size + 1) ne 0 (.int .u64 (wd G2 0 : Int))).set (c := w.heap.size + 1) ne 1 (.int .u64 (wd G2 1 : Int))).set (c := w.heap.size + 1) ne 2 (.int .u64 (wd G2 2 : Int))).set (c := w.heap.size + 1) ne 3 (.int .u64 (wd G2 3 : Int)))
                      have W1 := Lib.hid (below_set4 (c := w.heap.size + 1) hW (by omega) (.int .u64 (wd G2 0 : Int)) (.int .u64 (wd G2 1 : Int)) (.int .u64 (wd G2 2 : Int)) (.int .u64 (wd G2 3 : Int)))
                      clear b0 e0 hW x0
                      go_wp2
                      go_roundw
                      case rel =>
                        obtain ⟨u', q1, q2⟩ := HE.out
                        exact ⟨n3, u', G2, by go_num, n2, E1.out, B1.out, W1.out, Lib.hid ⟨q1, q2⟩⟩
                      case measure => simp [intOf]; omega
                    · have HE : Hid (R = none) := Lib.hid (by
                        rw [← hh.out.1]
                        refine brkL_bad (.inr ⟨hc, ?_⟩)
                        have hlt3 := of_decide_eq_true hcmp
                        unfold itOk
                        rw [ho, hy, hn, ho2, hlo, hhi, show decide (t ≤ t2) = false from decide_eq_false (by omega)]
                        rfl)
                      have hW := HW.out.trans (hB.mono HW.out.size)
                      have e0 := E0.out.below hB E0.out.lt
                      clear hh hc hbd hF hn hnm ho ht ht0 hn1 hd hd2 h93 hy hF2 hn3 hnm2 ht2 hlo hhi ho2 HO1 HO2 B0 E0 HW X0 Y0 hB
                      have HR := Lib.hid (below_set7z hW (Nat.le_refl _))
                      have q := e0.cells
                      simp only [none_wd] at q
                      obtain ⟨q0, q1, q2, q3, q4, q5, q6⟩ := q
                      obtain ⟨r0, r1, r2, r3, r4, r5, r6⟩ := e0.free
                      clear e0 hW
                      go_wp2
                      refine bodyPost_ret (v := .agg #[.int .u64 0, .int .u64 0, .int .u64 0, .int .u64 0, .int .i64 0, .bool false, .bool false]) (by simp [results, Tryz.results23, go_sem, q0, q1, q2, q3, q4, q5, q6]) rfl ⟨by rw [(HN.out HE.out).1, (HN.out HE.out).2.1, (HN.out HE.out).2.2, itv_none], HR.out⟩
              · have z3 : ((d : Int) == 45) = false := beq_eq_false_iff_ne.2 (by omega)
                have hy : itHyp p i = false := by
                  unfold itHyp
                  rw [hF, hnm, ht, hn, show decide (0 ≤ t) = true from decide_eq_true ht0, show decide (n + 1 < p.size) = true from decide_eq_true hn1, show (gb p n == 45) = false from beq_eq_false_iff_ne.2 (by omega)]
                  rfl
                have hok : itOk p i = true := by unfold itOk; rw [ho, hy]; rfl
                obtain ⟨hb1, hb2⟩ := hbd hok
                have hN1 : itN p i = n := by unfold itN; rw [hy, if_neg (by decide), hn]
                have hF1 : itF p i = F := by unfold itF; rw [hy, if_neg (by decide), hF]
                rw [hN1] at hb1 hb2
                have n1 : i < n := hb1
                have n2 : n ≤ p.size := hb2
                have HE : Hid (∃ u', brkL p u' n (fun x => g x || F x) = R ∧ p.size + 1 ≤ u' + n) := Lib.hid (by
                  obtain ⟨q1, q2⟩ := hh.out
                  obtain ⟨u', rfl⟩ : ∃ u', u = u' + 1 := ⟨u - 1, by omega⟩
                  refine ⟨u', ?_, by omega⟩
                  rw [← q1, brkL_step hlt hc hok, hN1, hF1])
                clear hy hok hb1 hb2 hN1 hF1 hF hn hnm ht ho hh hbd i1 i2 hcc hc gi hi
                clear hd
                go_wp2_with fail
                refine (rjoin_svr _ _ _).mono ?_
                obtain ⟨G2, hG2⟩ : ∃ G2, (fun x => g x || F x) = G2 := ⟨_, rfl⟩
                rw [hG2]
                rw [hG2] at HE
                clear hG2
                rintro e w3 ⟨rfl, hb⟩
                have hW := HW.out.trans (hb.mono HW.out.size)
                have e0 := E0.out.below hb E0.out.lt
                have b0 := B0.out.below hb B0.out.lt
                have x0 := X0.out.below hb X0.out.lt
                clear s0 s1 s2 s3 x4 x5 x6 y0 y1 y2 y3 hb HW E0 B0 X0
                have nX : X ≠ w.heap.size + 1 := by omega
                have ln2 : w.heap.size + 1 < w3.heap.size := b0.lt
                obtain ⟨z0, z1, z2, z3⟩ := b0.free
                obtain ⟨y0, y1, y2, y3⟩ := b0.cells
                obtain ⟨-, -, -, -, x4, -, -⟩ := x0.cells
                have B1 := Lib.hid (b0.stored G2)
                have E1 := Lib.hid ((((e0.set (c := w.heap.size + 1) ne 0 (.int .u64 (wd G2 0 : Int))).set (c := w.heap.size + 1) ne 1 (.int .u64 (wd G2 1 : Int))).set (c := w.heap.size + 1) ne 2 (.int .u64 (wd G2 2 : Int))).set (c := w.heap.size + 1) ne 3 (.int .u64 (wd G2 3 : Int)))
                have W1 := Lib.hid (below_set4 (c := w.heap.size + 1) hW (by omega) (.int .u64 (wd G2 0 : Int)) (.int .u64 (wd G2 1 : Int)) (.int .u64 (wd G2 2 : Int)) (.int .u64 (wd G2 3 : Int)))
                clear b0 e0 hW x0
                go_wp2
                go_roundw
                case rel =>
                  obtain ⟨u', q1, q2⟩ := HE.out
                  exact ⟨n, u', G2, by go_num, n2, E1.out, B1.out, W1.out, Lib.hid ⟨q1, q2⟩⟩
                case measure => simp [intOf]; omega
            · have z2 : decide ((n : Int) + 1 < (p.size : Int)) = false := decide_eq_false (by omega)
              have hy : itHyp p i = false := by
                unfold itHyp
                rw [hF, hnm, ht, hn, show decide (0 ≤ t) = true from decide_eq_true ht0, show decide (n + 1 < p.size) = false from decide_eq_false (by omega)]
                rfl
              have hok : itOk p i = true := by unfold itOk; rw [ho, hy]; rfl
              obtain ⟨hb1, hb2⟩ := hbd hok
              have hN1 : itN p i = n := by unfold itN; rw [hy, if_neg (by decide), hn]
              have hF1 : itF p i = F := by unfold itF; rw [hy, if_neg (by decide), hF]
              rw [hN1] at hb1 hb2
              have n1 : i < n := hb1
              have n2 : n ≤ p.size := hb2
              have HE : Hid (∃ u', brkL p u' n (fun x => g x || F x) = R ∧ p.size + 1 ≤ u' + n) := Lib.hid (by
                obtain ⟨q1, q2⟩ := hh.out
                obtain ⟨u', rfl⟩ : ∃ u', u = u' + 1 := ⟨u - 1, by omega⟩
                refine ⟨u', ?_, by omega⟩
                rw [← q1, brkL_step hlt hc hok, hN1, hF1])
              clear hy hok hb1 hb2 hN1 hF1 hF hn hnm ht ho hh hbd i1 i2 hcc hc gi hi
              go_wp2_with fail
              refine (rjoin_svr _ _ _).mono ?_
              obtain ⟨G2, hG2⟩ : ∃ G2, (fun x => g x || F x) = G2 := ⟨_, rfl⟩
              rw [hG2]
              rw [hG2] at HE
              clear hG2
              rintro e w3 ⟨rfl, hb⟩
              have hW := HW.out.trans (hb.mono HW.out.size)
              have e0 := E0.out.below hb E0.out.lt
              have b0 := B0.out.below hb B0.out.lt
              have x0 := X0.out.below hb X0.out.lt
              clear s0 s1 s2 s3 x4 x5 x6 y0 y1 y2 y3 hb HW E0 B0 X0
              have nX : X ≠ w.heap.size + 1 := by omega
              have ln2 : w.heap.size + 1 < w3.heap.size := b0.lt
              obtain ⟨z0, z1, z2, z3⟩ := b0.free
              obtain ⟨y0, y1, y2, y3⟩ := b0.cells
              obtain ⟨-, -, -, -, x4, -, -⟩ := x0.cells
              have B1 := Lib.hid (b0.stored G2)
              have E1 := Lib.hid ((((e0.set (c := w.heap.size + 1) ne 0 (.int .u64 (wd G2 0 : Int))).set (c := w.heap.size + 1) ne 1 (.int .u64 (wd G2 1 : Int))).set (c := w.heap.size + 1) ne 2 (.int .u64 (wd G2 2 : Int))).set (c := w.heap.size + 1) ne 3 (.int .u64 (wd G2 3 : Int)))
              have W1 := Lib.hid (below_set4 (c := w.heap.size + 1) hW (by omega) (.int .u64 (wd G2 0 : Int)) (.int .u64 (wd G2 1 : Int)) (.int .u64 (wd G2 2 : Int)) (.int .u64 (wd G2 3 : Int)))
              clear b0 e0 hW x0
              go_wp2
              go_roundw
              case rel =>
                obtain ⟨u', q1, q2⟩ := HE.out
                exact ⟨n, u', G2, by go_num, n2, E1.out, B1.out, W1.out, Lib.hid ⟨q1, q2⟩⟩
              case measure => simp [intOf]; omega
    · have i1 : decide ((i : Int) < (p.size : Int)) = false := decide_eq_false (by omega)
      have HE : Hid (R = none) := Lib.hid (by rw [← hh.out.1]; exact brkL_bad (.inl (by omega)))
      clear hh b0
      have HR := Lib.hid (below_set7z hW (Nat.le_refl _))
      have q := e0.cells
      simp only [none_wd] at q
      obtain ⟨q0, q1, q2, q3, q4, q5, q6⟩ := q
      obtain ⟨r0, r1, r2, r3, r4, r5, r6⟩ := e0.free
      clear e0 hW
      go_wp2
      refine bodyPost_ret (v := .agg #[.int .u64 0, .int .u64 0, .int .u64 0, .int .u64 0, .int .i64 0, .bool false, .bool false]) (by simp [results, Tryz.results23, go_sem, q0, q1, q2, q3, q4, q5, q6]) rfl ⟨by rw [(HN.out HE.out).1, (HN.out HE.out).2.1, (HN.out HE.out).2.2, itv_none], HR.out⟩

set_option maxRecDepth 100000 in
set_option maxHeartbeats 20000000 in
theorem rbk_plain (p : ByteArray) (k : Nat) (hp : p.size ≤ 200) (hk : k + 1 < p.size) (hnt : gb p (k + 1) ≠ 94) (w : World) :
    Calls Tryz.prog 23 #[.string p, .int .i64 (k : Int)] w fun e w' => e = .returned (itv (bkF p k) (bkN p k) (bkOk p k) false) ∧ Below w.heap.size w w' := by
  obtain ⟨R, hR⟩ : ∃ R, brkL p (p.size + 1) (k + 1) (fun _ => false) = R := ⟨_, rfl⟩
  have HS : Hid (∀ g e, R = some (g, e) → bkF p k = (g) ∧ bkN p k = e ∧ bkOk p k = true) := Lib.hid (fun g e h => by
    unfold bkF bkN bkOk brk
    rw [if_neg hnt, hR, h]
    exact ⟨rfl, rfl, rfl⟩)
  have HN : Hid (R = none → bkF p k = (fun _ => false) ∧ bkN p k = 0 ∧ bkOk p k = false) := Lib.hid (fun h => by
    unfold bkF bkN bkOk brk
    rw [if_neg hnt, hR, h]
    exact ⟨rfl, rfl, rfl⟩)
  have HR := Lib.hid hR
  obtain ⟨c, hc⟩ : ∃ c, gb p (k + 1) = c := ⟨_, rfl⟩
  have g1 := gb_in hk
  rw [hc] at g1
  rw [hc] at hnt
  have i1 : decide ((k : Int) + 1 < (p.size : Int)) = true := decide_eq_true (by omega)
  have i2 : ((c : Int) == 94) = false := beq_eq_false_iff_ne.2 (by omega)
  have E0 := Lib.hid ((isIt.newNone w).alloc (.cells #[.int .u64 0, .int .u64 0, .int .u64 0, .int .u64 0] 36))
  have B0 := Lib.hid (isSet.newNone (w.alloc (.cells #[.int .u64 0, .int .u64 0, .int .u64 0, .int .u64 0, .int .i64 0, .bool false, .bool false] 61)))
  have HW : Hid (Below w.heap.size w ((w.alloc (.cells #[.int .u64 0, .int .u64 0, .int .u64 0, .int .u64 0, .int .i64 0, .bool false, .bool false] 61)).alloc (.cells #[.int .u64 0, .int .u64 0, .int .u64 0, .int .u64 0] 36))) := Lib.hid (((Below.refl _ _).alloc (Nat.le_refl _) _).alloc (by simp) _)
  clear hR hc hnt
  go_enter Tryz.func23, Tryz.ntmps23
  go_wp2_with fail
  clear g1 i1 i2
  go_loopw [5] (fun at_ wr => ∃ (i u : Nat) (g : Nat → Bool), at_ = .int .i64 i ∧ i ≤ p.size ∧ isIt wr w.heap.size (fun _ => false) 0 false false ∧ isSet wr (w.heap.size + 1) g ∧ Below w.heap.size w wr ∧ Hid (brkL p u i g = R ∧ p.size + 1 ≤ u + i)) (fun at_ _ => p.size - (intOf at_).toNat)
  case atStart => exact ⟨k + 1, p.size + 1, _, by go_num, by omega, E0.out, by have := B0.out; rw [World.size_alloc] at this; exact this, HW.out, Lib.hid ⟨HR.out, by omega⟩⟩
  case round =>
    obtain ⟨i, u, g, rfl, hi, e0, b0, hW, hh⟩ := hrel
    clear E0 B0 HW HR
    have ln : w.heap.size + 1 < wr.heap.size := b0.lt
    have ne : w.heap.size ≠ w.heap.size + 1 := by omega
    by_cases hlt : i < p.size
    · have i1 : decide ((i : Int) < (p.size : Int)) = true := decide_eq_true (by omega)
      have gi := gb_in hlt
      by_cases hc : gb p i = 93
      · rw [hc] at gi
        have HE : Hid (R = some (g, i + 1)) := Lib.hid (by
          obtain ⟨q1, q2⟩ := hh.out
          obtain ⟨u', rfl⟩ : ∃ u', u = u' + 1 := ⟨u - 1, by omega⟩
          rw [← q1]
          exact brkL_hit hlt hc)
        clear hh hc
        have HR := Lib.hid (below_set7 hW (Nat.le_refl _) g ((i : Int) + 1) true false)
        have Z := Lib.hid (e0.stored g ((i : Int) + 1) true false).cells
        have q := e0.cells
        simp only [none_wd] at q
        obtain ⟨q0, q1, q2, q3, q4, q5, q6⟩ := q
        obtain ⟨r0, r1, r2, r3, r4, r5, r6⟩ := e0.free
        obtain ⟨s0, s1, s2, s3⟩ := b0.cells
        clear e0 hW b0
        go_wp2_with (refine wpList_build_item rfl _ _ _ rfl (wd g 0 : Int) (wd g 1 : Int) (wd g 2 : Int) (wd g 3 : Int) ((i : Int) + 1) true rfl rfl rfl ?_)
        unfold set7 at Z HR
        refine bodyPost_ret (v := itv g (i + 1) true false) (by simp [results, Tryz.results23, go_sem, Z.out]) rfl ⟨by rw [(HS.out _ _ HE.out).1, (HS.out _ _ HE.out).2.1, (HS.out _ _ HE.out).2.2], HR.out⟩
      · obtain ⟨c, hcc⟩ : ∃ c, gb p i = c := ⟨_, rfl⟩
        have hq := fun w => single_any p i w hp hlt
        have hbd := it_bd (p := p) (i := i) hlt
        rw [hcc] at gi
        have i2 : ((c : Int) == 93) = false := beq_eq_false_iff_ne.2 (by omega)
        have B0 := Lib.hid b0; have E0 := Lib.hid e0; have HW := Lib.hid hW
        obtain ⟨F, hF⟩ : ∃ F, sinF p i = F := ⟨_, rfl⟩
        obtain ⟨n, hn⟩ : ∃ n, sinN p i = n := ⟨_, rfl⟩
        obtain ⟨nm, hnm⟩ : ∃ nm, sinNm p i = nm := ⟨_, rfl⟩
        clear b0 e0 hW
        cases ho : sinOk p i
        · have HE : Hid (R = none) := Lib.hid (by rw [← hh.out.1]; exact brkL_bad (.inr ⟨hc, by unfold itOk; rw [ho]; rfl⟩))
          rw [ho, hF, hn, hnm] at hq
          have HQ := Lib.hid hq
          clear hh hc hcc hq ho hbd hF hn hnm
          go_wp2_with fail
          refine (HQ.out _).mono ?_
          rintro e w1 ⟨rfl, hb⟩
          have l9 : w.heap.size < w1.heap.size := Nat.lt_of_lt_of_le E0.out.lt hb.size
          have e0 := (E0.out.below hb E0.out.lt).alloc (.cells #[.int .u64 (wd F 0 : Int), .int .u64 (wd F 1 : Int), .int .u64 (wd F 2 : Int), .int .u64 (wd F 3 : Int), .int .i64 ((n : Int)), .bool false, .bool nm] 61)
          have hW := (HW.out.trans (hb.mono HW.out.size)).alloc (Nat.le_trans HW.out.size hb.size) (.cells #[.int .u64 (wd F 0 : Int), .int .u64 (wd F 1 : Int), .int .u64 (wd F 2 : Int), .int .u64 (wd F 3 : Int), .int .i64 ((n : Int)), .bool false, .bool nm] 61)
          have x0 := isIt.new w1 F (n : Int) false nm
          clear hb E0 HW HQ B0
          go_upto_region 12 with (fail)
          generalize hg : w1.heap.size = X at *
          generalize w1.alloc (.cells #[.int .u64 (wd F 0 : Int), .int .u64 (wd F 1 : Int), .int .u64 (wd F 2 : Int), .int .u64 (wd F 3 : Int), .int .i64 ((n : Int)), .bool false, .bool nm] 61) = W at *
          obtain ⟨-, -, -, -, -, x5, -⟩ := x0.cells
          clear hg x0
          have HR := Lib.hid (below_set7z hW (Nat.le_refl _))
          have q := e0.cells
          simp only [none_wd] at q
          obtain ⟨q0, q1, q2, q3, q4, q5, q6⟩ := q
          obtain ⟨r0, r1, r2, r3, r4, r5, r6⟩ := e0.free
          clear e0 hW
          go_wp2
          refine bodyPost_ret (v := .agg #[.int .u64 0, .int .u64 0, .int .u64 0, .int .u64 0, .int .i64 0, .bool false, .bool false]) (by simp [results, Tryz.results23, go_sem, q0, q1, q2, q3, q4, q5, q6]) rfl ⟨by rw [(HN.out HE.out).1, (HN.out HE.out).2.1, (HN.out HE.out).2.2, itv_none], HR.out⟩
        · rw [ho, hF, hn, hnm] at hq
          have HQ := Lib.hid hq
          clear hq
          go_wp2_with fail
          refine (HQ.out _).mono ?_
          rintro e w1 ⟨rfl, hb⟩
          have l9 : w.heap.size + 1 < w1.heap.size := Nat.lt_of_lt_of_le ln hb.size
          have e0 := (E0.out.below hb E0.out.lt).alloc (.cells #[.int .u64 (wd F 0 : Int), .int .u64 (wd F 1 : Int), .int .u64 (wd F 2 : Int), .int .u64 (wd F 3 : Int), .int .i64 ((n : Int)), .bool true, .bool nm] 61)
          have b0 := (B0.out.below hb B0.out.lt).alloc (.cells #[.int .u64 (wd F 0 : Int), .int .u64 (wd F 1 : Int), .int .u64 (wd F 2 : Int), .int .u64 (wd F 3 : Int), .int .i64 ((n : Int)), .bool true, .bool nm] 61)
          have hW := (HW.out.trans (hb.mono HW.out.size)).alloc (Nat.le_trans HW.out.size hb.size) (.cells #[.int .u64 (wd F 0 : Int), .int .u64 (wd F 1 : Int), .int .u64 (wd F 2 : Int), .int .u64 (wd F 3 : Int), .int .i64 ((n : Int)), .bool true, .bool nm] 61)
          have x0 := isIt.new w1 F (n : Int) true nm
          clear hb E0 HW HQ B0
          go_upto_region 12 with (fail)
          generalize hg : w1.heap.size = X at *
          generalize w1.alloc (.cells #[.int .u64 (wd F 0 : Int), .int .u64 (wd F 1 : Int), .int .u64 (wd F 2 : Int), .int .u64 (wd F 3 : Int), .int .i64 ((n : Int)), .bool true, .bool nm] 61) = W at *
          clear hg
          have B0 := Lib.hid b0; have E0 := Lib.hid e0; have HW := Lib.hid hW; have X0 := Lib.hid x0
          obtain ⟨t, ht⟩ : ∃ t, oneF F nm = t := ⟨_, rfl⟩
          have HO := Lib.hid (show ∀ w, _ from one_any F n true nm)
          rw [ht] at HO
          obtain ⟨y0, y1, y2, y3⟩ := b0.cells
          obtain ⟨x00, x1, x2, x3, x4, x5, x6⟩ := x0.cells
          clear b0 e0 hW x0
          go_wp2_with fail
          refine (HO.out _).mono ?_
          rintro e w2 ⟨rfl, hb⟩
          have e0 := E0.out.below hb E0.out.lt
          have b0 := B0.out.below hb B0.out.lt
          have x0 := X0.out.below hb X0.out.lt
          have hW := HW.out.trans (hb.mono HW.out.size)
          have lX : X < w2.heap.size := x0.lt
          clear hb E0 HW B0 X0 y0 y1 y2 y3 x00 x1 x2 x3 x4 x5 x6 HO
          have B0 := Lib.hid b0; have E0 := Lib.hid e0; have HW := Lib.hid hW; have X0 := Lib.hid x0
          obtain ⟨y0, y1, y2, y3⟩ := b0.cells
          obtain ⟨s0, s1, s2, s3, x4, x5, x6⟩ := x0.cells
          clear b0 e0 hW x0
          rcases Int.lt_or_le t 0 with ht0 | ht0
          · have z1 : decide ((0 : Int) ≤ t) = false := decide_eq_false (by omega)
            have hy : itHyp p i = false := by
              unfold itHyp
              rw [hF, hnm, ht, hn, z1]
              rfl
            have hok : itOk p i = true := by unfold itOk; rw [ho, hy]; rfl
            obtain ⟨hb1, hb2⟩ := hbd hok
            have hN1 : itN p i = n := by unfold itN; rw [hy, if_neg (by decide), hn]
            have hF1 : itF p i = F := by unfold itF; rw [hy, if_neg (by decide), hF]
            rw [hN1] at hb1 hb2
            have n1 : i < n := hb1
            have n2 : n ≤ p.size := hb2
            have HE : Hid (∃ u', brkL p u' n (fun x => g x || F x) = R ∧ p.size + 1 ≤ u' + n) := Lib.hid (by
              obtain ⟨q1, q2⟩ := hh.out
              obtain ⟨u', rfl⟩ : ∃ u', u = u' + 1 := ⟨u - 1, by omega⟩
              refine ⟨u', ?_, by omega⟩
              rw [← q1, brkL_step hlt hc hok, hN1, hF1])
            clear hy hok hb1 hb2 hN1 hF1 hF hn hnm ht ho hh hbd i1 i2 hcc hc gi hi
            clear ht0
            go_wp2_with fail
            refine (rjoin_svr _ _ _).mono ?_
            obtain ⟨G2, hG2⟩ : ∃ G2, (fun x => g x || F x) = G2 := ⟨_, rfl⟩
            rw [hG2]
            rw [hG2] at HE
            clear hG2
            rintro e w3 ⟨rfl, hb⟩
            have hW := HW.out.trans (hb.mono HW.out.size)
            have e0 := E0.out.below hb E0.out.lt
            have b0 := B0.out.below hb B0.out.lt
            have x0 := X0.out.below hb X0.out.lt
            clear s0 s1 s2 s3 x4 x5 x6 y0 y1 y2 y3 hb HW E0 B0 X0
            have nX : X ≠ w.heap.size + 1 := by omega
            have ln2 : w.heap.size + 1 < w3.heap.size := b0.lt
            obtain ⟨z0, z1, z2, z3⟩ := b0.free
            obtain ⟨y0, y1, y2, y3⟩ := b0.cells
            obtain ⟨-, -, -, -, x4, -, -⟩ := x0.cells
            have B1 := Lib.hid (b0.stored G2)
            have E1 := Lib.hid ((((e0.set (c := w.heap.size + 1) ne 0 (.int .u64 (wd G2 0 : Int))).set (c := w.heap.size + 1) ne 1 (.int .u64 (wd G2 1 : Int))).set (c := w.heap.size + 1) ne 2 (.int .u64 (wd G2 2 : Int))).set (c := w.heap.size + 1) ne 3 (.int .u64 (wd G2 3 : Int)))
            have W1 := Lib.hid (below_set4 (c := w.heap.size + 1) hW (by omega) (.int .u64 (wd G2 0 : Int)) (.int .u64 (wd G2 1 : Int)) (.int .u64 (wd G2 2 : Int)) (.int .u64 (wd G2 3 : Int)))
            clear b0 e0 hW x0
            go_wp2
            go_roundw
            case rel =>
              obtain ⟨u', q1, q2⟩ := HE.out
              exact ⟨n, u', G2, by go_num, n2, E1.out, B1.out, W1.out, Lib.hid ⟨q1, q2⟩⟩
            case measure => simp [intOf]; omega
          · have z1 : decide ((0 : Int) ≤ t) = true := decide_eq_true ht0
            rcases Nat.lt_or_ge (n + 1) p.size with hn1 | hn1
            · have z2 : decide ((n : Int) + 1 < (p.size : Int)) = true := decide_eq_true (by omega)
              have gn := gb_in (show n < p.size by omega)
              have gm := gb_in hn1
              obtain ⟨d, hd⟩ : ∃ d, gb p n = d := ⟨_, rfl⟩
              rw [hd] at gn
              by_cases h45 : d = 45
              · subst h45
                obtain ⟨d, hd2⟩ : ∃ d, gb p (n + 1) = d := ⟨_, rfl⟩
                rw [hd2] at gm
                by_cases h93 : d = 93
                · subst h93
                  have hy : itHyp p i = false := by
                    unfold itHyp
                    rw [hF, hnm, ht, hn, show decide (0 ≤ t) = true from decide_eq_true ht0, show decide (n + 1 < p.size) = true from decide_eq_true hn1, hd, hd2]
                    rfl
                  have hok : itOk p i = true := by unfold itOk; rw [ho, hy]; rfl
                  obtain ⟨hb1, hb2⟩ := hbd hok
                  have hN1 : itN p i = n := by unfold itN; rw [hy, if_neg (by decide), hn]
                  have hF1 : itF p i = F := by unfold itF; rw [hy, if_neg (by decide), hF]
                  rw [hN1] at hb1 hb2
                  have n1 : i < n := hb1
                  have n2 : n ≤ p.size := hb2
                  have HE : Hid (∃ u', brkL p u' n (fun x => g x || F x) = R ∧ p.size + 1 ≤ u' + n) := Lib.hid (by
                    obtain ⟨q1, q2⟩ := hh.out
                    obtain ⟨u', rfl⟩ : ∃ u', u = u' + 1 := ⟨u - 1, by omega⟩
                    refine ⟨u', ?_, by omega⟩
                    rw [← q1, brkL_step hlt hc hok, hN1, hF1])
                  clear hy hok hb1 hb2 hN1 hF1 hF hn hnm ht ho hh hbd i1 i2 hcc hc gi hi
                  clear hd hd2
                  go_wp2_with fail
                  refine (rjoin_svr _ _ _).mono ?_
                  obtain ⟨G2, hG2⟩ : ∃ G2, (fun x => g x || F x) = G2 := ⟨_, rfl⟩
                  rw [hG2]
                  rw [hG2] at HE
                  clear hG2
                  rintro e w3 ⟨rfl, hb⟩
                  have hW := HW.out.trans (hb.mono HW.out.size)
                  have e0 := E0.out.below hb E0.out.lt
                  have b0 := B0.out.below hb B0.out.lt
                  have x0 := X0.out.below hb X0.out.lt
                  clear s0 s1 s2 s3 x4 x5 x6 y0 y1 y2 y3 hb HW E0 B0 X0
                  have nX : X ≠ w.heap.size + 1 := by omega
                  have ln2 : w.heap.size + 1 < w3.heap.size := b0.lt
                  obtain ⟨z0, z1, z2, z3⟩ := b0.free
                  obtain ⟨y0, y1, y2, y3⟩ := b0.cells
                  obtain ⟨-, -, -, -, x4, -, -⟩ := x0.cells
                  have B1 := Lib.hid (b0.stored G2)
                  have E1 := Lib.hid ((((e0.set (c := w.heap.size + 1) ne 0 (.int .u64 (wd G2 0 : Int))).set (c := w.heap.size + 1) ne 1 (.int .u64 (wd G2 1 : Int))).set (c := w.heap.size + 1) ne 2 (.int .u64 (wd G2 2 : Int))).set (c := w.heap.size + 1) ne 3 (.int .u64 (wd G2 3 : Int)))
                  have W1 := Lib.hid (below_set4 (c := w.heap.size + 1) hW (by omega) (.int .u64 (wd G2 0 : Int)) (.int .u64 (wd G2 1 : Int)) (.int .u64 (wd G2 2 : Int)) (.int .u64 (wd G2 3 : Int)))
                  clear b0 e0 hW x0
                  go_wp2
                  go_roundw
                  case rel =>
                    obtain ⟨u', q1, q2⟩ := HE.out
                    exact ⟨n, u', G2, by go_num, n2, E1.out, B1.out, W1.out, Lib.hid ⟨q1, q2⟩⟩
                  case measure => simp [intOf]; omega
                · have z4 : ((d : Int) != 93) = true := by simp; omega
                  have hy : itHyp p i = true := by
                    unfold itHyp
                    rw [hF, hnm, ht, hn, show decide (0 ≤ t) = true from decide_eq_true ht0, show decide (n + 1 < p.size) = true from decide_eq_true hn1, hd, hd2]
                    simp [h93]
                  have hq2 : ∀ w, Calls Tryz.prog 38 #[.string p, .int .i64 ((n : Int) + 1)] w fun e w' => e = .returned (itv (sinF p (n + 1)) (sinN p (n + 1)) (sinOk p (n + 1)) (sinNm p (n + 1))) ∧ Below w.heap.size w w' := fun w => by
                    have := single_any p (n + 1) w hp hn1
                    rw [show ((n + 1 : Nat) : Int) = (n : Int) + 1 by omega] at this
                    exact this
                  obtain ⟨F2, hF2⟩ : ∃ F, sinF p (n + 1) = F := ⟨_, rfl⟩
                  obtain ⟨n3, hn3⟩ : ∃ m, sinN p (n + 1) = m := ⟨_, rfl⟩
                  obtain ⟨nm2, hnm2⟩ : ∃ nm, sinNm p (n + 1) = nm := ⟨_, rfl⟩
                  obtain ⟨t2, ht2⟩ : ∃ t, oneF F2 nm2 = t := ⟨_, rfl⟩
                  have hlo : itLo p i = t := by unfold itLo; rw [hF, hnm, ht]
                  have hhi : itHi p i = t2 := by unfold itHi; rw [hn, hF2, hnm2, ht2]
                  rw [hF2, hn3, hnm2] at hq2
                  cases ho2 : sinOk p (n + 1)
                  · have HE : Hid (R = none) := Lib.hid (by rw [← hh.out.1]; exact brkL_bad (.inr ⟨hc, by unfold itOk; rw [ho, hy, hn, ho2]; rfl⟩))
                    rw [ho2] at hq2
                    have HQ := Lib.hid hq2
                    clear hq2 hh hc hcc ho hbd hF hn hnm ht hy hlo hhi hF2 hn3 hnm2 ht2 ho2 hd hd2 h93 i1 i2
                    go_wp2_with fail
                    refine (HQ.out _).mono ?_
                    rintro e w3 ⟨rfl, hb⟩
                    have l10 : w.heap.size < w3.heap.size := Nat.lt_of_lt_of_le E0.out.lt hb.size
                    have e0 := (E0.out.below hb E0.out.lt).alloc (.cells #[.int .u64 (wd F2 0 : Int), .int .u64 (wd F2 1 : Int), .int .u64 (wd F2 2 : Int), .int .u64 (wd F2 3 : Int), .int .i64 ((n3 : Int)), .bool false, .bool nm2] 61)
                    have hW := (HW.out.trans (hb.mono HW.out.size)).alloc (Nat.le_trans HW.out.size hb.size) (.cells #[.int .u64 (wd F2 0 : Int), .int .u64 (wd F2 1 : Int), .int .u64 (wd F2 2 : Int), .int .u64 (wd F2 3 : Int), .int .i64 ((n3 : Int)), .bool false, .bool nm2] 61)
                    have x0 := isIt.new w3 F2 (n3 : Int) false nm2
                    clear hb E0 HW HQ B0 X0 s0 s1 s2 s3 x4 x5 x6 y0 y1 y2 y3 z1 z2 z4 gn gm gi
                    go_upto_region 17 with (fail)
                    generalize hg : w3.heap.size = Y at *
                    generalize w3.alloc (.cells #[.int .u64 (wd F2 0 : Int), .int .u64 (wd F2 1 : Int), .int .u64 (wd F2 2 : Int), .int .u64 (wd F2 3 : Int), .int .i64 ((n3 : Int)), .bool false, .bool nm2] 61) = W2 at *
                    obtain ⟨-, -, -, -, -, x5, -⟩ := x0.cells
                    have E0 := Lib.hid e0; have HW := Lib.hid (show ∀ m : Nat, _ from fun m => below_drewN m hW)
                    clear hg x0 e0 hW
                    have e0 := E0.out
                    have HR := Lib.hid (fun m : Nat => below_set7z (HW.out m) (Nat.le_refl _))
                    have q := e0.cells
                    simp only [none_wd] at q
                    obtain ⟨q0, q1, q2, q3, q4, q5, q6⟩ := q
                    obtain ⟨r0, r1, r2, r3, r4, r5, r6⟩ := e0.free
                    clear e0 E0
                    go_quiet (fail)
                    go_wp2
                    refine bodyPost_ret (v := .agg #[.int .u64 0, .int .u64 0, .int .u64 0, .int .u64 0, .int .i64 0, .bool false, .bool false]) (by simp [results, Tryz.results23, go_sem, q0, q1, q2, q3, q4, q5, q6]) rfl ⟨by rw [(HN.out HE.out).1, (HN.out HE.out).2.1, (HN.out HE.out).2.2, itv_none], HR.out _⟩
                  · rw [ho2] at hq2
                    have HQ := Lib.hid hq2
                    clear hq2
                    have HO1 := Lib.hid (show ∀ w, _ from one_any F n true nm)
                    have HO2 := Lib.hid (show ∀ w, _ from one_any F2 n3 true nm2)
                    rw [ht] at HO1
                    rw [ht2] at HO2
                    go_wp2_with fail
                    refine (HQ.out _).mono ?_
                    rintro e w3 ⟨rfl, hb⟩
                    have l10 : X < w3.heap.size := Nat.lt_of_lt_of_le lX hb.size
                    have e0 := (E0.out.below hb E0.out.lt).alloc (.cells #[.int .u64 (wd F2 0 : Int), .int .u64 (wd F2 1 : Int), .int .u64 (wd F2 2 : Int), .int .u64 (wd F2 3 : Int), .int .i64 ((n3 : Int)), .bool true, .bool nm2] 61)
                    have b0 := (B0.out.below hb B0.out.lt).alloc (.cells #[.int .u64 (wd F2 0 : Int), .int .u64 (wd F2 1 : Int), .int .u64 (wd F2 2 : Int), .int .u64 (wd F2 3 : Int), .int .i64 ((n3 : Int)), .bool true, .bool nm2] 61)
                    have x0 := (X0.out.below hb X0.out.lt).alloc (.cells #[.int .u64 (wd F2 0 : Int), .int .u64 (wd F2 1 : Int), .int .u64 (wd F2 2 : Int), .int .u64 (wd F2 3 : Int), .int .i64 ((n3 : Int)), .bool true, .bool nm2] 61)
                    have hW := (HW.out.trans (hb.mono HW.out.size)).alloc (Nat.le_trans HW.out.size hb.size) (.cells #[.int .u64 (wd F2 0 : Int), .int .u64 (wd F2 1 : Int), .int .u64 (wd F2 2 : Int), .int .u64 (wd F2 3 : Int), .int .i64 ((n3 : Int)), .bool true, .bool nm2] 61)
                    have v0 := isIt.new w3 F2 (n3 : Int) true nm2
                    clear hb E0 HW HQ B0 X0 s0 s1 s2 s3 x4 x5 x6 y0 y1 y2 y3 z1 z2 z4 gn gm gi i1 i2 hcc
                    go_upto_region 17 with (fail)
                    generalize hg : w3.heap.size = Y at *
                    generalize w3.alloc (.cells #[.int .u64 (wd F2 0 : Int), .int .u64 (wd F2 1 : Int), .int .u64 (wd F2 2 : Int), .int .u64 (wd F2 3 : Int), .int .i64 ((n3 : Int)), .bool true, .bool nm2] 61) = W2 at *
                    clear hg
                    have B0 := Lib.hid b0; have E0 := Lib.hid e0; have HW := Lib.hid hW; have X0 := Lib.hid x0; have Y0 := Lib.hid v0
                    clear b0 e0 hW x0 v0
                    go_wp2_with fail
                    refine wp_false (reg17 HO1 HO2 X0.out Y0.out (Lib.hid fun _ _ h => h)) ?_
                    rintro _ wk ⟨u77, u78, u79, u80, u81, u82, u83, u84, u85, hB, rfl⟩
                    cases hcmp : decide (t2 < t)
                    · have h3 : t ≤ t2 := by have := of_decide_eq_false hcmp; omega
                      have hok : itOk p i = true := by
                        unfold itOk
                        rw [ho, hy, hn, ho2, hlo, hhi, show decide (t ≤ t2) = true from decide_eq_true h3]
                        rfl
                      obtain ⟨hb1, hb2⟩ := hbd hok
                      obtain ⟨FR, hFR⟩ : ∃ FR, itF p i = FR := ⟨_, rfl⟩
                      have hN1 : itN p i = n3 := by unfold itN; rw [hy, if_pos rfl, hn, hn3]
                      have hFR2 : (fun x => decide (t.toNat ≤ x) && decide (x ≤ t2.toNat)) = FR := by rw [← hFR]; unfold itF; rw [hy, if_pos rfl, hlo, hhi]
                      rw [hN1] at hb1 hb2
                      have n1 : i < n3 := hb1
                      have n2 : n3 ≤ p.size := hb2
                      have HE : Hid (∃ u', brkL p u' n3 (fun x => g x || FR x) = R ∧ p.size + 1 ≤ u' + n3) := Lib.hid (by
                        obtain ⟨q1, q2⟩ := hh.out
                        obtain ⟨u', rfl⟩ : ∃ u', u = u' + 1 := ⟨u - 1, by omega⟩
                        refine ⟨u', ?_, by omega⟩
                        rw [← q1, brkL_step hlt hc hok, hN1, hFR])
                      have b3 : t < 256 := by rw [← ht]; exact oneF_lt _ _
                      have b4 : t2 < 256 := by rw [← ht2]; exact oneF_lt _ _
                      have HRG := Lib.hid (show ∀ w, Calls Tryz.prog 21 #[.int .i64 t, .int .i64 t2] w fun e w' => e = .returned (sv FR) ∧ Below w.heap.size w w' from fun w => by
                        obtain ⟨a, ha⟩ := Int.eq_ofNat_of_zero_le ht0
                        obtain ⟨b, hb⟩ := Int.eq_ofNat_of_zero_le (Int.le_trans ht0 h3)
                        rw [← hFR2, ha, hb]
                        exact rrange_any a b (by omega) (by omega) w)
                      clear hh hc hbd hF hn hnm ho ht ht0 hn1 hd hd2 h93 hy hF2 hn3 hnm2 ht2 hlo hhi ho2 hcmp hok hb1 hb2 hN1 hFR hFR2 b3 b4 h3
                      go_upto_region 19 with (fail)
                      refine wp_false (reg19 HO1 HO2 HRG (X0.out.below hB X0.out.lt) (Y0.out.below hB Y0.out.lt) (show Y ≠ X by omega) (Lib.hid fun _ _ h => h)) ?_
                      rintro _ _ ⟨u88, u89, u90, u91, u92, u93, u94, u95, wk2, hb, rfl, rfl⟩
                      have hB2 := hB.trans (hb.mono hB.size)
                      have x0 : isIt (set7 wk2 X FR (n3 : Int) true false) X FR (n3 : Int) true false := (X0.out.below hB2 X0.out.lt).stored FR (n3 : Int) true false
                      have e0 : isIt (set7 wk2 X FR (n3 : Int) true false) w.heap.size (fun _ => false) 0 false false := (((((((E0.out.below hB2 E0.out.lt).set (c := X) (by omega) 0 (.int .u64 (wd FR 0 : Int))).set (c := X) (by omega) 1 (.int .u64 (wd FR 1 : Int))).set (c := X) (by omega) 2 (.int .u64 (wd FR 2 : Int))).set (c := X) (by omega) 3 (.int .u64 (wd FR 3 : Int))).set (c := X) (by omega) 4 (.int .i64 (n3 : Int))).set (c := X) (by omega) 5 (.bool true)).set (c := X) (by omega) 6 (.bool false)
                      have b0 : isSet (set7 wk2 X FR (n3 : Int) true false) (w.heap.size + 1) g := ((((B0.out.below hB2 B0.out.lt).other4 (c := X) (by omega) (.int .u64 (wd FR 0 : Int)) (.int .u64 (wd FR 1 : Int)) (.int .u64 (wd FR 2 : Int)) (.int .u64 (wd FR 3 : Int))).other (a := ⟨X, 4, none⟩) (by show w.heap.size + 1 ≠ X; omega) (.int .i64 (n3 : Int))).other (a := ⟨X, 5, none⟩) (by show w.heap.size + 1 ≠ X; omega) (.bool true)).other (a := ⟨X, 6, none⟩) (by show w.heap.size + 1 ≠ X; omega) (.bool false)
                      have hW : Below w.heap.size w (set7 wk2 X FR (n3 : Int) true false) := below_set7 (HW.out.trans (hB2.mono HW.out.size)) (show w.heap.size ≤ X by omega) FR (n3 : Int) true false
                      generalize set7 wk2 X FR (n3 : Int) true false = wc at *
                      clear HO1 HO2 HRG hB hB2 hb B0 E0 HW X0 Y0
                      have B0 := Lib.hid b0; have E0 := Lib.hid e0; have HW := Lib.hid hW; have X0 := Lib.hid x0
                      obtain ⟨y0, y1, y2, y3⟩ := b0.cells
                      obtain ⟨s0, s1, s2, s3, x4, x5, x6⟩ := x0.cells
                      clear b0 e0 hW x0
                      go_wp2_with fail
                      refine (rjoin_svr _ _ _).mono ?_
                      obtain ⟨G2, hG2⟩ : ∃ G2, (fun x => g x || FR x) = G2 := ⟨_, rfl⟩
                      rw [hG2]
                      rw [hG2] at HE
                      clear hG2
                      rintro e w3 ⟨rfl, hb⟩
                      have hW := HW.out.trans (hb.mono HW.out.size)
                      have e0 := E0.out.below hb E0.out.lt
                      have b0 := B0.out.below hb B0.out.lt
                      have x0 := X0.out.below hb X0.out.lt
                      clear s0 s1 s2 s3 x4 x5 x6 y0 y1 y2 y3 hb HW E0 B0 X0
                      have nX : X ≠ w.heap.size + 1 := by omega
                      have ln2 : w.heap.size + 1 < w3.heap.size := b0.lt
                      obtain ⟨z0, z1, z2, z3⟩ := b0.free
                      obtain ⟨y0, y1, y2, y3⟩ := b0.cells
                      obtain ⟨-, -, -, -, x4, -, -⟩ := x0.cells
                      have B1 := Lib.hid (b0.stored G2)
                      have E1 := Lib.hid ((((e0.set (c := w.heap.size + 1) ne 0 (.int .u64 (wd G2 0 : Int))).set (c := w.heap.size + 1) ne 1 (.int .u64 (wd G2 1 : Int))).set (c := w.heap.size + 1) ne 2 (.int .u64 (wd G2 2 : Int))).set (c := w.heap.size + 1) ne 3 (.int .u64 (wd G2 3 : Int)))
                      have W1 := Lib.hid (below_set4 (c := w.heap.size + 1) hW (by omega) (.int .u64 (wd G2 0 : Int)) (.int .u64 (wd G2 1 : Int)) (.int .u64 (wd G2 2 : Int)) (.int .u64 (wd G2 3 : Int)))
                      clear b0 e0 hW x0
                      go_wp2
                      go_roundw
                      case rel =>
                        obtain ⟨u', q1, q2⟩ := HE.out
                        exact ⟨n3, u', G2, by go_num, n2, E1.out, B1.out, W1.out, Lib.hid ⟨q1, q2⟩⟩
                      case measure => simp [intOf]; omega
                    · have HE : Hid (R = none) := Lib.hid (by
                        rw [← hh.out.1]
                        refine brkL_bad (.inr ⟨hc, ?_⟩)
                        have hlt3 := of_decide_eq_true hcmp
                        unfold itOk
                        rw [ho, hy, hn, ho2, hlo, hhi, show decide (t ≤ t2) = false from decide_eq_false (by omega)]
                        rfl)
                      have hW := HW.out.trans (hB.mono HW.out.size)
                      have e0 := E0.out.below hB E0.out.lt
                      clear hh hc hbd hF hn hnm ho ht ht0 hn1 hd hd2 h93 hy hF2 hn3 hnm2 ht2 hlo hhi ho2 HO1 HO2 B0 E0 HW X0 Y0 hB
                      have HR := Lib.hid (below_set7z hW (Nat.le_refl _))
                      have q := e0.cells
                      simp only [none_wd] at q
                      obtain ⟨q0, q1, q2, q3, q4, q5, q6⟩ := q
                      obtain ⟨r0, r1, r2, r3, r4, r5, r6⟩ := e0.free
                      clear e0 hW
                      go_wp2
                      refine bodyPost_ret (v := .agg #[.int .u64 0, .int .u64 0, .int .u64 0, .int .u64 0, .int .i64 0, .bool false, .bool false]) (by simp [results, Tryz.results23, go_sem, q0, q1, q2, q3, q4, q5, q6]) rfl ⟨by rw [(HN.out HE.out).1, (HN.out HE.out).2.1, (HN.out HE.out).2.2, itv_none], HR.out⟩
              · have z3 : ((d : Int) == 45) = false := beq_eq_false_iff_ne.2 (by omega)
                have hy : itHyp p i = false := by
                  unfold itHyp
                  rw [hF, hnm, ht, hn, show decide (0 ≤ t) = true from decide_eq_true ht0, show decide (n + 1 < p.size) = true from decide_eq_true hn1, show (gb p n == 45) = false from beq_eq_false_iff_ne.2 (by omega)]
                  rfl
                have hok : itOk p i = true := by unfold itOk; rw [ho, hy]; rfl
                obtain ⟨hb1, hb2⟩ := hbd hok
                have hN1 : itN p i = n := by unfold itN; rw [hy, if_neg (by decide), hn]
                have hF1 : itF p i = F := by unfold itF; rw [hy, if_neg (by decide), hF]
                rw [hN1] at hb1 hb2
                have n1 : i < n := hb1
                have n2 : n ≤ p.size := hb2
                have HE : Hid (∃ u', brkL p u' n (fun x => g x || F x) = R ∧ p.size + 1 ≤ u' + n) := Lib.hid (by
                  obtain ⟨q1, q2⟩ := hh.out
                  obtain ⟨u', rfl⟩ : ∃ u', u = u' + 1 := ⟨u - 1, by omega⟩
                  refine ⟨u', ?_, by omega⟩
                  rw [← q1, brkL_step hlt hc hok, hN1, hF1])
                clear hy hok hb1 hb2 hN1 hF1 hF hn hnm ht ho hh hbd i1 i2 hcc hc gi hi
                clear hd
                go_wp2_with fail
                refine (rjoin_svr _ _ _).mono ?_
                obtain ⟨G2, hG2⟩ : ∃ G2, (fun x => g x || F x) = G2 := ⟨_, rfl⟩
                rw [hG2]
                rw [hG2] at HE
                clear hG2
                rintro e w3 ⟨rfl, hb⟩
                have hW := HW.out.trans (hb.mono HW.out.size)
                have e0 := E0.out.below hb E0.out.lt
                have b0 := B0.out.below hb B0.out.lt
                have x0 := X0.out.below hb X0.out.lt
                clear s0 s1 s2 s3 x4 x5 x6 y0 y1 y2 y3 hb HW E0 B0 X0
                have nX : X ≠ w.heap.size + 1 := by omega
                have ln2 : w.heap.size + 1 < w3.heap.size := b0.lt
                obtain ⟨z0, z1, z2, z3⟩ := b0.free
                obtain ⟨y0, y1, y2, y3⟩ := b0.cells
                obtain ⟨-, -, -, -, x4, -, -⟩ := x0.cells
                have B1 := Lib.hid (b0.stored G2)
                have E1 := Lib.hid ((((e0.set (c := w.heap.size + 1) ne 0 (.int .u64 (wd G2 0 : Int))).set (c := w.heap.size + 1) ne 1 (.int .u64 (wd G2 1 : Int))).set (c := w.heap.size + 1) ne 2 (.int .u64 (wd G2 2 : Int))).set (c := w.heap.size + 1) ne 3 (.int .u64 (wd G2 3 : Int)))
                have W1 := Lib.hid (below_set4 (c := w.heap.size + 1) hW (by omega) (.int .u64 (wd G2 0 : Int)) (.int .u64 (wd G2 1 : Int)) (.int .u64 (wd G2 2 : Int)) (.int .u64 (wd G2 3 : Int)))
                clear b0 e0 hW x0
                go_wp2
                go_roundw
                case rel =>
                  obtain ⟨u', q1, q2⟩ := HE.out
                  exact ⟨n, u', G2, by go_num, n2, E1.out, B1.out, W1.out, Lib.hid ⟨q1, q2⟩⟩
                case measure => simp [intOf]; omega
            · have z2 : decide ((n : Int) + 1 < (p.size : Int)) = false := decide_eq_false (by omega)
              have hy : itHyp p i = false := by
                unfold itHyp
                rw [hF, hnm, ht, hn, show decide (0 ≤ t) = true from decide_eq_true ht0, show decide (n + 1 < p.size) = false from decide_eq_false (by omega)]
                rfl
              have hok : itOk p i = true := by unfold itOk; rw [ho, hy]; rfl
              obtain ⟨hb1, hb2⟩ := hbd hok
              have hN1 : itN p i = n := by unfold itN; rw [hy, if_neg (by decide), hn]
              have hF1 : itF p i = F := by unfold itF; rw [hy, if_neg (by decide), hF]
              rw [hN1] at hb1 hb2
              have n1 : i < n := hb1
              have n2 : n ≤ p.size := hb2
              have HE : Hid (∃ u', brkL p u' n (fun x => g x || F x) = R ∧ p.size + 1 ≤ u' + n) := Lib.hid (by
                obtain ⟨q1, q2⟩ := hh.out
                obtain ⟨u', rfl⟩ : ∃ u', u = u' + 1 := ⟨u - 1, by omega⟩
                refine ⟨u', ?_, by omega⟩
                rw [← q1, brkL_step hlt hc hok, hN1, hF1])
              clear hy hok hb1 hb2 hN1 hF1 hF hn hnm ht ho hh hbd i1 i2 hcc hc gi hi
              go_wp2_with fail
              refine (rjoin_svr _ _ _).mono ?_
              obtain ⟨G2, hG2⟩ : ∃ G2, (fun x => g x || F x) = G2 := ⟨_, rfl⟩
              rw [hG2]
              rw [hG2] at HE
              clear hG2
              rintro e w3 ⟨rfl, hb⟩
              have hW := HW.out.trans (hb.mono HW.out.size)
              have e0 := E0.out.below hb E0.out.lt
              have b0 := B0.out.below hb B0.out.lt
              have x0 := X0.out.below hb X0.out.lt
              clear s0 s1 s2 s3 x4 x5 x6 y0 y1 y2 y3 hb HW E0 B0 X0
              have nX : X ≠ w.heap.size + 1 := by omega
              have ln2 : w.heap.size + 1 < w3.heap.size := b0.lt
              obtain ⟨z0, z1, z2, z3⟩ := b0.free
              obtain ⟨y0, y1, y2, y3⟩ := b0.cells
              obtain ⟨-, -, -, -, x4, -, -⟩ := x0.cells
              have B1 := Lib.hid (b0.stored G2)
              have E1 := Lib.hid ((((e0.set (c := w.heap.size + 1) ne 0 (.int .u64 (wd G2 0 : Int))).set (c := w.heap.size + 1) ne 1 (.int .u64 (wd G2 1 : Int))).set (c := w.heap.size + 1) ne 2 (.int .u64 (wd G2 2 : Int))).set (c := w.heap.size + 1) ne 3 (.int .u64 (wd G2 3 : Int)))
              have W1 := Lib.hid (below_set4 (c := w.heap.size + 1) hW (by omega) (.int .u64 (wd G2 0 : Int)) (.int .u64 (wd G2 1 : Int)) (.int .u64 (wd G2 2 : Int)) (.int .u64 (wd G2 3 : Int)))
              clear b0 e0 hW x0
              go_wp2
              go_roundw
              case rel =>
                obtain ⟨u', q1, q2⟩ := HE.out
                exact ⟨n, u', G2, by go_num, n2, E1.out, B1.out, W1.out, Lib.hid ⟨q1, q2⟩⟩
              case measure => simp [intOf]; omega
    · have i1 : decide ((i : Int) < (p.size : Int)) = false := decide_eq_false (by omega)
      have HE : Hid (R = none) := Lib.hid (by rw [← hh.out.1]; exact brkL_bad (.inl (by omega)))
      clear hh b0
      have HR := Lib.hid (below_set7z hW (Nat.le_refl _))
      have q := e0.cells
      simp only [none_wd] at q
      obtain ⟨q0, q1, q2, q3, q4, q5, q6⟩ := q
      obtain ⟨r0, r1, r2, r3, r4, r5, r6⟩ := e0.free
      clear e0 hW
      go_wp2
      refine bodyPost_ret (v := .agg #[.int .u64 0, .int .u64 0, .int .u64 0, .int .u64 0, .int .i64 0, .bool false, .bool false]) (by simp [results, Tryz.results23, go_sem, q0, q1, q2, q3, q4, q5, q6]) rfl ⟨by rw [(HN.out HE.out).1, (HN.out HE.out).2.1, (HN.out HE.out).2.2, itv_none], HR.out⟩

end Go.Proofs.YtiahgcgpakgeeaaGreatDoor

namespace Go.Proofs.YtiahgcgpakgeeaaGreatDoor
open Go.RowKit

set_option maxRecDepth 100000 in
set_option maxHeartbeats 1000000 in
theorem rbk_end0 (p : ByteArray) (k : Nat) (hp : p.size ≤ 200) (hk : k + 1 = p.size) (w : World) :
    Calls Tryz.prog 23 #[.string p, .int .i64 (k : Int)] w fun e w' => e = .returned (itv (fun _ => false) 0 false false) ∧ Below w.heap.size w w' := by
  have i1 : decide ((k : Int) + 1 < (p.size : Int)) = false := decide_eq_false (by omega)
  have hkb : (k : Int) ≤ 200 := by omega
  have E0 := Lib.hid ((isIt.newNone w).alloc (.cells #[.int .u64 0, .int .u64 0, .int .u64 0, .int .u64 0] 36))
  have HW : Hid (Below w.heap.size w ((w.alloc (.cells #[.int .u64 0, .int .u64 0, .int .u64 0, .int .u64 0, .int .i64 0, .bool false, .bool false] 61)).alloc (.cells #[.int .u64 0, .int .u64 0, .int .u64 0, .int .u64 0] 36))) := Lib.hid (((Below.refl _ _).alloc (Nat.le_refl _) _).alloc (by simp) _)
  clear hk
  go_enter Tryz.func23, Tryz.ntmps23
  go_wp2_with fail
  have hW := HW.out
  have e0 := E0.out
  have HR := Lib.hid (below_set7z hW (Nat.le_refl _))
  have q := e0.cells
  simp only [none_wd] at q
  obtain ⟨q0, q1, q2, q3, q4, q5, q6⟩ := q
  obtain ⟨r0, r1, r2, r3, r4, r5, r6⟩ := e0.free
  clear e0 hW E0 HW
  generalize (w.alloc (.cells #[.int .u64 0, .int .u64 0, .int .u64 0, .int .u64 0, .int .i64 0, .bool false, .bool false] 61)).alloc (.cells #[.int .u64 0, .int .u64 0, .int .u64 0, .int .u64 0] 36) = W at *
  refine wp_loop_rounds 1 ?_
  rw [rounds_succ]; go_wp2
  refine bodyPost_ret (v := .agg #[.int .u64 0, .int .u64 0, .int .u64 0, .int .u64 0, .int .i64 0, .bool false, .bool false]) (by simp [results, Tryz.results23, go_sem, q0, q1, q2, q3, q4, q5, q6]) rfl ⟨by rw [itv_none], HR.out⟩
end Go.Proofs.YtiahgcgpakgeeaaGreatDoor

namespace Go.Proofs.YtiahgcgpakgeeaaGreatDoor
open Go.RowKit

theorem rbk_any (p : ByteArray) (k : Nat) (w : World) (hp : p.size ≤ 200) (hk : k < p.size) :
    Calls Tryz.prog 23 #[.string p, .int .i64 (k : Int)] w fun e w' => e = .returned (itv (bkF p k) (bkN p k) (bkOk p k) false) ∧ Below w.heap.size w w' := by
  by_cases h1 : k + 1 < p.size
  · by_cases h2 : gb p (k + 1) = 94
    · exact rbk_not p k hp h1 h2 w
    · exact rbk_plain p k hp h1 h2 w
  · have hb : brk p k = none := by
      unfold brk
      rw [if_neg (by rw [gb_out (by omega)]; omega), brkL_bad (.inl (by omega))]
    have hF : bkF p k = fun _ => false := by unfold bkF; rw [hb]
    have hN : bkN p k = 0 := by unfold bkN; rw [hb]
    have hO : bkOk p k = false := by unfold bkOk; rw [hb]
    rw [hF, hN, hO]
    exact rbk_end0 p k hp (by omega) w
end Go.Proofs.YtiahgcgpakgeeaaGreatDoor
