/- A nil register: Enter and Move. -/
import Derived.Test.YtjmdagpafjmccaaAG
namespace Go.Proofs.Ytjmdagpafjmccaa
open Go.RowKit

set_option maxRecDepth 100000 in
set_option maxHeartbeats 1000000 in
theorem enter_nil (a n lot own : Int) (w : World) : Calls Try.prog 32 #[.pointer none, .agg #[.int .i64 a, .int .i64 n], .int .i64 lot, .int .i64 own] w fun e w' => e = .returned (.int .i64 3) ∧ Adds w w' := by
  rcases Bool.eq_false_or_eq_true (inB 1000000 lot) with hl | hl
  · skip
    have HL := Lib.hid hl
    go_enter Try.func32, Try.ntmps32
    go_upto_region 2 with fail
    obtain ⟨W2, hW2⟩ : ∃ V, V = ((w.alloc (.cells #[.int .i64 a, .int .i64 n] 32)).alloc (.cells #[.int .i64 1, .int .i64 lot, .int .i64 own, .int .i64 0] 44)) := ⟨_, rfl⟩
    have A2 : Adds w W2 := by rw [hW2]; exact ((Adds.refl w).alloc _).alloc _
    have X0 : Box W2 (w.heap.size) #[.int .i64 a, .int .i64 n] 32 := by rw [hW2]; have h := (Box.new w #[.int .i64 a, .int .i64 n] 32).alloc (.cells #[.int .i64 1, .int .i64 lot, .int .i64 own, .int .i64 0] 44); simpa using h
    have X1 : Box W2 (w.heap.size + 1) #[.int .i64 1, .int .i64 lot, .int .i64 own, .int .i64 0] 44 := by rw [hW2]; have h := Box.new (w.alloc (.cells #[.int .i64 a, .int .i64 n] 32)) #[.int .i64 1, .int .i64 lot, .int .i64 own, .int .i64 0] 44; simpa using h
    rw [← hW2]
    clear hW2
    have x0_0 := X0.cell 0
    have x0_1 := X0.cell 1
    have x1_0 := X1.cell 0
    have x1_1 := X1.cell 1
    have x1_2 := X1.cell 2
    have x1_3 := X1.cell 3
    simp only [List.getElem?_toArray, List.getElem?_cons_zero, List.getElem?_cons_succ] at x0_0 x0_1 x1_0 x1_1 x1_2 x1_3
    clear X0 X1
    clear hl
    have hl := HL.out
    go_region_held3 (fun w' => w'.cell? ⟨w.heap.size, 0, none⟩ = some (.int .i64 a) ∧ w'.cell? ⟨w.heap.size, 1, none⟩ = some (.int .i64 n))
      (first | (go_keep; done) | ((repeat' apply And.intro) <;> go_keep) | (refine ⟨keep_cell ?_ x0_0, keep_cell ?_ x0_1⟩ <;> repeat (first | exact Adds.refl _ | exact hb9 | exact hbm | apply Adds.drew | apply Adds.drewN | apply Adds.alloc | refine Adds.trans ?_ hb9 | refine Adds.trans ?_ hbm)))
      ((first
        | (go_simp; go_at_call 65; refine (isLot_any lot _).mono ?_; rintro e w' ⟨rfl, rfl⟩)
        | (go_simp; go_at_call 64; refine (members_one _ own _ (by go_simp)).mono ?_; rintro e w' ⟨rfl, rfl⟩)
        | (go_simp; go_at_call 74; refine (change_nil a n _ _ _ _ _ _).mono ?_; rintro e w9 ⟨rfl, hb9⟩)))
    all_goals
      go_wp2
      go_ret
      exact ⟨rfl, A2.trans (by repeat (first | exact Adds.refl _ | exact hb9 | exact hbm | apply Adds.drew | apply Adds.drewN | apply Adds.alloc | refine Adds.trans ?_ hb9 | refine Adds.trans ?_ hbm))⟩
  · skip
    have HL := Lib.hid hl
    go_enter Try.func32, Try.ntmps32
    go_upto_region 2 with fail
    obtain ⟨W2, hW2⟩ : ∃ V, V = ((w.alloc (.cells #[.int .i64 a, .int .i64 n] 32)).alloc (.cells #[.int .i64 1, .int .i64 lot, .int .i64 own, .int .i64 0] 44)) := ⟨_, rfl⟩
    have A2 : Adds w W2 := by rw [hW2]; exact ((Adds.refl w).alloc _).alloc _
    have X0 : Box W2 (w.heap.size) #[.int .i64 a, .int .i64 n] 32 := by rw [hW2]; have h := (Box.new w #[.int .i64 a, .int .i64 n] 32).alloc (.cells #[.int .i64 1, .int .i64 lot, .int .i64 own, .int .i64 0] 44); simpa using h
    have X1 : Box W2 (w.heap.size + 1) #[.int .i64 1, .int .i64 lot, .int .i64 own, .int .i64 0] 44 := by rw [hW2]; have h := Box.new (w.alloc (.cells #[.int .i64 a, .int .i64 n] 32)) #[.int .i64 1, .int .i64 lot, .int .i64 own, .int .i64 0] 44; simpa using h
    rw [← hW2]
    clear hW2
    have x0_0 := X0.cell 0
    have x0_1 := X0.cell 1
    have x1_0 := X1.cell 0
    have x1_1 := X1.cell 1
    have x1_2 := X1.cell 2
    have x1_3 := X1.cell 3
    simp only [List.getElem?_toArray, List.getElem?_cons_zero, List.getElem?_cons_succ] at x0_0 x0_1 x1_0 x1_1 x1_2 x1_3
    clear X0 X1
    clear hl
    have hl := HL.out
    refine wp_region_held_drew (S := (fun w' => w'.cell? ⟨w.heap.size, 0, none⟩ = some (.int .i64 a) ∧ w'.cell? ⟨w.heap.size, 1, none⟩ = some (.int .i64 n))) (by kernel_rfl) ⟨x0_0, x0_1⟩ (fun hHeld => ?_)
    refine wpAnyH_take (i := 0) (oi := ⟨some 13, _, _, _, _, _⟩) (v := ?v1) rfl (by kernel_rfl) (by kernel_rfl) (by kernel_rfl) (fun _ _ _ h => h) (Or.inl ⟨by rfl, ?hy1⟩) (by assumption) ?rest1
    case hy1 => (intro w hSw; (try dsimp only at hSw); go_simp; try with_reducible rfl)
    try simp only [Act.put, List.setIfInBounds_toArray, List.set_cons_zero, List.set_cons_succ]
    refine wpAnyH_take (i := 1) (oi := ⟨some 14, _, _, _, _, _⟩) (v := ?v2) rfl (by kernel_rfl) (by kernel_rfl) (by kernel_rfl) (fun _ _ _ h => h) (Or.inl ⟨by rfl, ?hy2⟩) (by assumption) ?rest2
    case hy2 => (intro w hSw; (try dsimp only at hSw); go_simp; try with_reducible rfl)
    try simp only [Act.put, List.setIfInBounds_toArray, List.set_cons_zero, List.set_cons_succ]
    refine wpAnyH_take (i := 2) (oi := ⟨some 15, _, _, _, _, _⟩) (v := ?v3) rfl (by kernel_rfl) (by kernel_rfl) (by kernel_rfl) (fun _ _ _ h => h) (Or.inl ⟨by rfl, ?hy3⟩) (by assumption) ?rest3
    case hy3 => (intro w hSw; (try dsimp only at hSw); go_simp; try with_reducible rfl)
    try simp only [Act.put, List.setIfInBounds_toArray, List.set_cons_zero, List.set_cons_succ]
    refine wpAnyH_take (i := 9) (oi := ⟨some 22, _, _, _, _, _⟩) (v := ?v4) rfl (by kernel_rfl) (by kernel_rfl) (by kernel_rfl) (fun _ _ _ h => h) (Or.inl ⟨by rfl, ?hy4⟩) (by assumption) ?rest4
    case hy4 => (intro w hSw; (try dsimp only at hSw); go_simp; try with_reducible rfl)
    try simp only [Act.put, List.setIfInBounds_toArray, List.set_cons_zero, List.set_cons_succ]
    refine wpAnyH_ready (rs := [3]) (by kernel_rfl) (by simp) ?_
    refine AllReadyH.cons (o := ⟨some 16, _, _, _, _, _⟩) rfl (fun K hK => ?_) AllReadyH.nil
    go_simp
    (go_at_call 65; refine (isLot_any lot _).mono ?_; rintro e w' ⟨rfl, rfl⟩; simp only [hl])
    refine hK.out _ _ ?_ (fun hHeld => ?_)
    · exact ⟨x0_0, x0_1⟩
    clear hK K
    try simp only [Act.put, List.setIfInBounds_toArray, List.set_cons_zero, List.set_cons_succ]
    refine wpAnyH_take (i := 4) (oi := ⟨some 17, _, _, _, _, _⟩) (v := ?v5) rfl (by kernel_rfl) (by kernel_rfl) (by kernel_rfl) (fun _ _ _ h => h) (Or.inl ⟨by rfl, ?hy5⟩) (by assumption) ?rest5
    case hy5 => (intro w hSw; (try dsimp only at hSw); go_simp; try with_reducible rfl)
    try simp only [Act.put, List.setIfInBounds_toArray, List.set_cons_zero, List.set_cons_succ]
    refine wpAnyH_take (i := 5) (oi := ⟨some 18, _, _, _, _, _⟩) (v := undef) rfl (by kernel_rfl) (by kernel_rfl) (by kernel_rfl) (fun _ _ _ h => h) (Or.inr ⟨by rfl, rfl⟩) (by assumption) ?_
    try simp only [Act.put, List.setIfInBounds_toArray, List.set_cons_zero, List.set_cons_succ]
    refine wpAnyH_take (i := 6) (oi := ⟨some 19, _, _, _, _, _⟩) (v := undef) rfl (by kernel_rfl) (by kernel_rfl) (by kernel_rfl) (fun _ _ _ h => h) (Or.inr ⟨by rfl, rfl⟩) (by assumption) ?_
    try simp only [Act.put, List.setIfInBounds_toArray, List.set_cons_zero, List.set_cons_succ]
    refine wpAnyH_take (i := 7) (oi := ⟨some 20, _, _, _, _, _⟩) (v := undef) rfl (by kernel_rfl) (by kernel_rfl) (by kernel_rfl) (fun _ _ _ h => h) (Or.inr ⟨by rfl, rfl⟩) (by assumption) ?_
    try simp only [Act.put, List.setIfInBounds_toArray, List.set_cons_zero, List.set_cons_succ]
    refine wpAnyH_take (i := 8) (oi := ⟨some 21, _, _, _, _, _⟩) (v := ?v6) rfl (by kernel_rfl) (by kernel_rfl) (by kernel_rfl) (fun _ _ _ h => h) (Or.inl ⟨by rfl, ?hy6⟩) (by assumption) ?rest6
    case hy6 => (intro w hSw; (try dsimp only at hSw); go_simp; try with_reducible rfl)
    try simp only [Act.put, List.setIfInBounds_toArray, List.set_cons_zero, List.set_cons_succ]
    refine wpAnyH_ready (rs := [10]) (by kernel_rfl) (by simp) ?_
    refine AllReadyH.cons (o := ⟨some 23, _, _, _, _, _⟩) rfl (fun K hK => ?_) AllReadyH.nil
    go_simp
    (refine (change_nil a n _ _ _ _ _ _).mono ?_; rintro e w9 ⟨rfl, hb9⟩)
    refine hK.out _ _ ?_ (fun hHeld => ?_)
    · (refine ⟨keep_cell ?_ x0_0, keep_cell ?_ x0_1⟩ <;> repeat (first | exact Adds.refl _ | exact hb9 | exact hbm | apply Adds.drew | apply Adds.drewN | apply Adds.alloc | refine Adds.trans ?_ hb9 | refine Adds.trans ?_ hbm))
    clear hK K
    try simp only [Act.put, List.setIfInBounds_toArray, List.set_cons_zero, List.set_cons_succ]
    refine wpAnyH_take (i := 11) (oi := ⟨some 8, _, _, _, _, _⟩) (v := ?v7) rfl (by kernel_rfl) (by kernel_rfl) (by kernel_rfl) (fun _ _ _ h => h) (Or.inl ⟨by rfl, ?hy7⟩) (by assumption) ?rest7
    case hy7 => (intro w hSw; (try dsimp only at hSw); go_simp; try with_reducible rfl)
    try simp only [Act.put, List.setIfInBounds_toArray, List.set_cons_zero, List.set_cons_succ]
    refine wpAnyH_done (by kernel_rfl) ?_ _
    all_goals
      go_wp2
      go_ret
      exact ⟨rfl, A2.trans (by repeat (first | exact Adds.refl _ | exact hb9 | exact hbm | apply Adds.drew | apply Adds.drewN | apply Adds.alloc | refine Adds.trans ?_ hb9 | refine Adds.trans ?_ hbm))⟩

set_option maxRecDepth 100000 in
set_option maxHeartbeats 1000000 in
theorem move_nil (a n fr dst : Int) (w : World) : Calls Try.prog 33 #[.pointer none, .agg #[.int .i64 a, .int .i64 n], .int .i64 fr, .int .i64 dst] w fun e w' => e = .returned (.int .i64 3) ∧ Adds w w' := by
  rcases Bool.eq_false_or_eq_true (inB 1000 fr && inB 1000 dst) with hl | hl
  · skip
    have HL := Lib.hid hl
    go_enter Try.func33, Try.ntmps33
    go_upto_region 1 with fail
    obtain ⟨W2, hW2⟩ : ∃ V, V = ((w.alloc (.cells #[.int .i64 a, .int .i64 n] 32)).alloc (.cells #[.int .i64 dst] 3)) := ⟨_, rfl⟩
    have A2 : Adds w W2 := by rw [hW2]; exact ((Adds.refl w).alloc _).alloc _
    have X0 : Box W2 (w.heap.size) #[.int .i64 a, .int .i64 n] 32 := by rw [hW2]; have h := (Box.new w #[.int .i64 a, .int .i64 n] 32).alloc (.cells #[.int .i64 dst] 3); simpa using h
    have X1 : Box W2 (w.heap.size + 1) #[.int .i64 dst] 3 := by rw [hW2]; have h := Box.new (w.alloc (.cells #[.int .i64 a, .int .i64 n] 32)) #[.int .i64 dst] 3; simpa using h
    rw [← hW2]
    clear hW2
    have x0_0 := X0.cell 0
    have x0_1 := X0.cell 1
    have x1_0 := X1.cell 0
    simp only [List.getElem?_toArray, List.getElem?_cons_zero, List.getElem?_cons_succ] at x0_0 x0_1 x1_0
    clear X0 X1
    clear hl
    have hl := HL.out
    go_region_held3 (fun w' => w'.cell? ⟨w.heap.size, 0, none⟩ = some (.int .i64 a) ∧ w'.cell? ⟨w.heap.size, 1, none⟩ = some (.int .i64 n) ∧ w'.cell? ⟨w.heap.size + 1, 0, none⟩ = some (.int .i64 dst))
      (first | (go_keep; done) | ((repeat' apply And.intro) <;> go_keep) | (refine ⟨keep_cell ?_ x0_0, keep_cell ?_ x0_1, keep_cell ?_ x1_0⟩ <;> repeat (first | exact Adds.refl _ | exact hb9 | exact hbm | apply Adds.drew | apply Adds.drewN | apply Adds.alloc | refine Adds.trans ?_ hb9 | refine Adds.trans ?_ hbm)))
      ((first
        | (go_simp; go_at_call 64; refine (members_two _ fr dst _ (by go_simp) (by go_simp)).mono ?_; rintro e w' ⟨rfl, rfl⟩; simp only [hl])
        | (go_simp; go_at_call 77; refine (make_free fr _).mono ?_; rintro e wm ⟨xm, rfl, hxm, hbm⟩)
        | (go_simp; go_at_call 74; refine (change_nil a n _ _ _ _ _ _).mono ?_; rintro e w9 ⟨rfl, hb9⟩)))
    all_goals
      go_wp2
      go_ret
      exact ⟨rfl, A2.trans (by repeat (first | exact Adds.refl _ | exact hb9 | exact hbm | apply Adds.drew | apply Adds.drewN | apply Adds.alloc | refine Adds.trans ?_ hb9 | refine Adds.trans ?_ hbm))⟩
  · skip
    have HL := Lib.hid hl
    go_enter Try.func33, Try.ntmps33
    go_upto_region 1 with fail
    obtain ⟨W2, hW2⟩ : ∃ V, V = ((w.alloc (.cells #[.int .i64 a, .int .i64 n] 32)).alloc (.cells #[.int .i64 dst] 3)) := ⟨_, rfl⟩
    have A2 : Adds w W2 := by rw [hW2]; exact ((Adds.refl w).alloc _).alloc _
    have X0 : Box W2 (w.heap.size) #[.int .i64 a, .int .i64 n] 32 := by rw [hW2]; have h := (Box.new w #[.int .i64 a, .int .i64 n] 32).alloc (.cells #[.int .i64 dst] 3); simpa using h
    have X1 : Box W2 (w.heap.size + 1) #[.int .i64 dst] 3 := by rw [hW2]; have h := Box.new (w.alloc (.cells #[.int .i64 a, .int .i64 n] 32)) #[.int .i64 dst] 3; simpa using h
    rw [← hW2]
    clear hW2
    have x0_0 := X0.cell 0
    have x0_1 := X0.cell 1
    have x1_0 := X1.cell 0
    simp only [List.getElem?_toArray, List.getElem?_cons_zero, List.getElem?_cons_succ] at x0_0 x0_1 x1_0
    clear X0 X1
    clear hl
    have hl := HL.out
    refine wp_region_held_drew (S := (fun w' => w'.cell? ⟨w.heap.size, 0, none⟩ = some (.int .i64 a) ∧ w'.cell? ⟨w.heap.size, 1, none⟩ = some (.int .i64 n) ∧ w'.cell? ⟨w.heap.size + 1, 0, none⟩ = some (.int .i64 dst))) (by kernel_rfl) ⟨x0_0, x0_1, x1_0⟩ (fun hHeld => ?_)
    refine wpAnyH_take (i := 0) (oi := ⟨some 9, _, _, _, _, _⟩) (v := ?v8) rfl (by kernel_rfl) (by kernel_rfl) (by kernel_rfl) (fun _ _ _ h => h) (Or.inl ⟨by rfl, ?hy8⟩) (by assumption) ?rest8
    case hy8 => (intro w hSw; (try dsimp only at hSw); go_simp; try with_reducible rfl)
    try simp only [Act.put, List.setIfInBounds_toArray, List.set_cons_zero, List.set_cons_succ]
    refine wpAnyH_take (i := 1) (oi := ⟨some 10, _, _, _, _, _⟩) (v := ?v9) rfl (by kernel_rfl) (by kernel_rfl) (by kernel_rfl) (fun _ _ _ h => h) (Or.inl ⟨by rfl, ?hy9⟩) (by assumption) ?rest9
    case hy9 => (intro w hSw; (try dsimp only at hSw); go_simp; try with_reducible rfl)
    try simp only [Act.put, List.setIfInBounds_toArray, List.set_cons_zero, List.set_cons_succ]
    refine wpAnyH_take (i := 2) (oi := ⟨some 11, _, _, _, _, _⟩) (v := ?v10) rfl (by kernel_rfl) (by kernel_rfl) (by kernel_rfl) (fun _ _ _ h => h) (Or.inl ⟨by rfl, ?hy10⟩) (by assumption) ?rest10
    case hy10 => (intro w hSw; (try dsimp only at hSw); go_simp; try with_reducible rfl)
    try simp only [Act.put, List.setIfInBounds_toArray, List.set_cons_zero, List.set_cons_succ]
    refine wpAnyH_take (i := 3) (oi := ⟨some 12, _, _, _, _, _⟩) (v := ?v11) rfl (by kernel_rfl) (by kernel_rfl) (by kernel_rfl) (fun _ _ _ h => h) (Or.inl ⟨by rfl, ?hy11⟩) (by assumption) ?rest11
    case hy11 => (intro w hSw; (try dsimp only at hSw); go_simp; try with_reducible rfl)
    try simp only [Act.put, List.setIfInBounds_toArray, List.set_cons_zero, List.set_cons_succ]
    refine wpAnyH_take (i := 11) (oi := ⟨some 20, _, _, _, _, _⟩) (v := ?v12) rfl (by kernel_rfl) (by kernel_rfl) (by kernel_rfl) (fun _ _ _ h => h) (Or.inl ⟨by rfl, ?hy12⟩) (by assumption) ?rest12
    case hy12 => (intro w hSw; (try dsimp only at hSw); go_simp; try with_reducible rfl)
    try simp only [Act.put, List.setIfInBounds_toArray, List.set_cons_zero, List.set_cons_succ]
    refine wpAnyH_take (i := 13) (oi := ⟨some 22, _, _, _, _, _⟩) (v := ?v13) rfl (by kernel_rfl) (by kernel_rfl) (by kernel_rfl) (fun _ _ _ h => h) (Or.inl ⟨by rfl, ?hy13⟩) (by assumption) ?rest13
    case hy13 => (intro w hSw; (try dsimp only at hSw); go_simp; try with_reducible rfl)
    try simp only [Act.put, List.setIfInBounds_toArray, List.set_cons_zero, List.set_cons_succ]
    refine wpAnyH_ready (rs := [4]) (by kernel_rfl) (by simp) ?_
    refine AllReadyH.cons (o := ⟨some 13, _, _, _, _, _⟩) rfl (fun K hK => ?_) AllReadyH.nil
    go_simp
    skip
    refine hK.out _ _ ?_ (fun hHeld => ?_)
    · (refine ⟨keep_cell ?_ x0_0, keep_cell ?_ x0_1, keep_cell ?_ x1_0⟩ <;> repeat (first | exact Adds.refl _ | exact hb9 | exact hbm | apply Adds.drew | apply Adds.drewN | apply Adds.alloc | refine Adds.trans ?_ hb9 | refine Adds.trans ?_ hbm))
    clear hK K
    try simp only [Act.put, List.setIfInBounds_toArray, List.set_cons_zero, List.set_cons_succ]
    refine wpAnyH_ready (rs := [5]) (by kernel_rfl) (by simp) ?_
    refine AllReadyH.cons (o := ⟨some 14, _, _, _, _, _⟩) rfl (fun K hK => ?_) AllReadyH.nil
    go_simp
    (go_at_call 64; refine (members_two _ fr dst _ (by go_simp) (by go_simp)).mono ?_; rintro e w' ⟨rfl, rfl⟩; simp only [hl])
    refine hK.out _ _ ?_ (fun hHeld => ?_)
    · (refine ⟨keep_cell ?_ x0_0, keep_cell ?_ x0_1, keep_cell ?_ x1_0⟩ <;> repeat (first | exact Adds.refl _ | exact hb9 | exact hbm | apply Adds.drew | apply Adds.drewN | apply Adds.alloc | refine Adds.trans ?_ hb9 | refine Adds.trans ?_ hbm))
    clear hK K
    try simp only [Act.put, List.setIfInBounds_toArray, List.set_cons_zero, List.set_cons_succ]
    refine wpAnyH_take (i := 6) (oi := ⟨some 15, _, _, _, _, _⟩) (v := ?v14) rfl (by kernel_rfl) (by kernel_rfl) (by kernel_rfl) (fun _ _ _ h => h) (Or.inl ⟨by rfl, ?hy14⟩) (by assumption) ?rest14
    case hy14 => (intro w hSw; (try dsimp only at hSw); go_simp; try with_reducible rfl)
    try simp only [Act.put, List.setIfInBounds_toArray, List.set_cons_zero, List.set_cons_succ]
    refine wpAnyH_take (i := 7) (oi := ⟨some 16, _, _, _, _, _⟩) (v := undef) rfl (by kernel_rfl) (by kernel_rfl) (by kernel_rfl) (fun _ _ _ h => h) (Or.inr ⟨by rfl, rfl⟩) (by assumption) ?_
    try simp only [Act.put, List.setIfInBounds_toArray, List.set_cons_zero, List.set_cons_succ]
    refine wpAnyH_take (i := 8) (oi := ⟨some 17, _, _, _, _, _⟩) (v := undef) rfl (by kernel_rfl) (by kernel_rfl) (by kernel_rfl) (fun _ _ _ h => h) (Or.inr ⟨by rfl, rfl⟩) (by assumption) ?_
    try simp only [Act.put, List.setIfInBounds_toArray, List.set_cons_zero, List.set_cons_succ]
    refine wpAnyH_take (i := 9) (oi := ⟨some 18, _, _, _, _, _⟩) (v := undef) rfl (by kernel_rfl) (by kernel_rfl) (by kernel_rfl) (fun _ _ _ h => h) (Or.inr ⟨by rfl, rfl⟩) (by assumption) ?_
    try simp only [Act.put, List.setIfInBounds_toArray, List.set_cons_zero, List.set_cons_succ]
    refine wpAnyH_take (i := 10) (oi := ⟨some 19, _, _, _, _, _⟩) (v := ?v15) rfl (by kernel_rfl) (by kernel_rfl) (by kernel_rfl) (fun _ _ _ h => h) (Or.inl ⟨by rfl, ?hy15⟩) (by assumption) ?rest15
    case hy15 => (intro w hSw; (try dsimp only at hSw); go_simp; try with_reducible rfl)
    try simp only [Act.put, List.setIfInBounds_toArray, List.set_cons_zero, List.set_cons_succ]
    refine wpAnyH_ready (rs := [12]) (by kernel_rfl) (by simp) ?_
    refine AllReadyH.cons (o := ⟨some 21, _, _, _, _, _⟩) rfl (fun K hK => ?_) AllReadyH.nil
    go_simp
    (go_at_call 77; refine (make_free fr _).mono ?_; rintro e wm ⟨xm, rfl, hxm, hbm⟩)
    refine hK.out _ _ ?_ (fun hHeld => ?_)
    · (refine ⟨keep_cell ?_ x0_0, keep_cell ?_ x0_1, keep_cell ?_ x1_0⟩ <;> repeat (first | exact Adds.refl _ | exact hb9 | exact hbm | apply Adds.drew | apply Adds.drewN | apply Adds.alloc | refine Adds.trans ?_ hb9 | refine Adds.trans ?_ hbm))
    clear hK K
    try simp only [Act.put, List.setIfInBounds_toArray, List.set_cons_zero, List.set_cons_succ]
    refine wpAnyH_ready (rs := [14]) (by kernel_rfl) (by simp) ?_
    refine AllReadyH.cons (o := ⟨some 23, _, _, _, _, _⟩) rfl (fun K hK => ?_) AllReadyH.nil
    go_simp
    (go_at_call 74; refine (change_nil a n _ _ _ _ _ _).mono ?_; rintro e w9 ⟨rfl, hb9⟩)
    refine hK.out _ _ ?_ (fun hHeld => ?_)
    · (refine ⟨keep_cell ?_ x0_0, keep_cell ?_ x0_1, keep_cell ?_ x1_0⟩ <;> repeat (first | exact Adds.refl _ | exact hb9 | exact hbm | apply Adds.drew | apply Adds.drewN | apply Adds.alloc | refine Adds.trans ?_ hb9 | refine Adds.trans ?_ hbm))
    clear hK K
    try simp only [Act.put, List.setIfInBounds_toArray, List.set_cons_zero, List.set_cons_succ]
    refine wpAnyH_take (i := 15) (oi := ⟨some 8, _, _, _, _, _⟩) (v := ?v16) rfl (by kernel_rfl) (by kernel_rfl) (by kernel_rfl) (fun _ _ _ h => h) (Or.inl ⟨by rfl, ?hy16⟩) (by assumption) ?rest16
    case hy16 => (intro w hSw; (try dsimp only at hSw); go_simp; try with_reducible rfl)
    try simp only [Act.put, List.setIfInBounds_toArray, List.set_cons_zero, List.set_cons_succ]
    refine wpAnyH_done (by kernel_rfl) ?_ _
    all_goals
      go_wp2
      go_ret
      exact ⟨rfl, A2.trans (by repeat (first | exact Adds.refl _ | exact hb9 | exact hbm | apply Adds.drew | apply Adds.drewN | apply Adds.alloc | refine Adds.trans ?_ hb9 | refine Adds.trans ?_ hbm))⟩

end Go.Proofs.Ytjmdagpafjmccaa
