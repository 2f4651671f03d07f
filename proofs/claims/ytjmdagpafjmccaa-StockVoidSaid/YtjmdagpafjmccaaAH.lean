/- A nil register: the calls that change. -/
import Derived.Test.YtjmdagpafjmccaaAG
namespace Go.Proofs.Ytjmdagpafjmccaa
open Go.RowKit

set_option maxRecDepth 100000 in
set_option maxHeartbeats 1000000 in
theorem leave_nil (a n m : Int) (w : World) : Calls Try.prog 37 #[.pointer none, .agg #[.int .i64 a, .int .i64 n], .int .i64 m] w fun e w' => e = .returned (.int .i64 3) ∧ Adds w w' := by
  go_enter Try.func37, Try.ntmps37
  go_upto_region 1 with fail
  obtain ⟨W2, hW2⟩ : ∃ V, V = (w.alloc (.cells #[.int .i64 a, .int .i64 n] 32)) := ⟨_, rfl⟩
  have A2 : Adds w W2 := by rw [hW2]; exact (Adds.refl w).alloc _
  have X0 : Box W2 (w.heap.size) #[.int .i64 a, .int .i64 n] 32 := by rw [hW2]; have h := Box.new w #[.int .i64 a, .int .i64 n] 32; simpa using h
  rw [← hW2]
  clear hW2
  have x0_0 := X0.cell 0
  have x0_1 := X0.cell 1
  simp only [List.getElem?_toArray, List.getElem?_cons_zero, List.getElem?_cons_succ] at x0_0 x0_1
  clear X0
  go_region_held3 (fun w' => w'.cell? ⟨w.heap.size, 0, none⟩ = some (.int .i64 a) ∧ w'.cell? ⟨w.heap.size, 1, none⟩ = some (.int .i64 n))
    (first | (go_keep; done) | ((repeat' apply And.intro) <;> go_keep) | (refine ⟨keep_cell ?_ x0_0, keep_cell ?_ x0_1⟩ <;> repeat (first | exact Adds.refl _ | exact hb9 | exact hbm | apply Adds.drew | apply Adds.drewN | apply Adds.alloc | refine Adds.trans ?_ hb9 | refine Adds.trans ?_ hbm)))
    ((first
      | (go_simp; go_at_call 64; refine (members_one _ m _ (by go_simp)).mono ?_; rintro e w' ⟨rfl, rfl⟩)
      | (go_simp; go_at_call 77; refine (make_free m _).mono ?_; rintro e wm ⟨xm, rfl, hxm, hbm⟩)
      | (go_simp; go_at_call 74; refine (change_nil a n _ _ _ _ _ _).mono ?_; rintro e w9 ⟨rfl, hb9⟩)))
  all_goals
    go_wp2
    go_ret
    exact ⟨rfl, A2.trans (by repeat (first | exact Adds.refl _ | exact hb9 | exact hbm | apply Adds.drew | apply Adds.drewN | apply Adds.alloc | refine Adds.trans ?_ hb9 | refine Adds.trans ?_ hbm))⟩

set_option maxRecDepth 100000 in
set_option maxHeartbeats 1000000 in
theorem release_nil (a n m : Int) (w : World) : Calls Try.prog 35 #[.pointer none, .agg #[.int .i64 a, .int .i64 n], .int .i64 m] w fun e w' => e = .returned (.int .i64 3) ∧ Adds w w' := by
  go_enter Try.func35, Try.ntmps35
  go_upto_region 1 with fail
  obtain ⟨W2, hW2⟩ : ∃ V, V = (w.alloc (.cells #[.int .i64 a, .int .i64 n] 32)) := ⟨_, rfl⟩
  have A2 : Adds w W2 := by rw [hW2]; exact (Adds.refl w).alloc _
  have X0 : Box W2 (w.heap.size) #[.int .i64 a, .int .i64 n] 32 := by rw [hW2]; have h := Box.new w #[.int .i64 a, .int .i64 n] 32; simpa using h
  rw [← hW2]
  clear hW2
  have x0_0 := X0.cell 0
  have x0_1 := X0.cell 1
  simp only [List.getElem?_toArray, List.getElem?_cons_zero, List.getElem?_cons_succ] at x0_0 x0_1
  clear X0
  go_region_held3 (fun w' => w'.cell? ⟨w.heap.size, 0, none⟩ = some (.int .i64 a) ∧ w'.cell? ⟨w.heap.size, 1, none⟩ = some (.int .i64 n))
    (first | (go_keep; done) | ((repeat' apply And.intro) <;> go_keep) | (refine ⟨keep_cell ?_ x0_0, keep_cell ?_ x0_1⟩ <;> repeat (first | exact Adds.refl _ | exact hb9 | exact hbm | apply Adds.drew | apply Adds.drewN | apply Adds.alloc | refine Adds.trans ?_ hb9 | refine Adds.trans ?_ hbm)))
    ((first
      | (go_simp; go_at_call 64; refine (members_one _ m _ (by go_simp)).mono ?_; rintro e w' ⟨rfl, rfl⟩)
      | (go_simp; go_at_call 80; refine (make_held m _).mono ?_; rintro e wm ⟨xm, rfl, hxm, hbm⟩)
      | (go_simp; go_at_call 74; refine (change_nil a n _ _ _ _ _ _).mono ?_; rintro e w9 ⟨rfl, hb9⟩)))
  all_goals
    go_wp2
    go_ret
    exact ⟨rfl, A2.trans (by repeat (first | exact Adds.refl _ | exact hb9 | exact hbm | apply Adds.drew | apply Adds.drewN | apply Adds.alloc | refine Adds.trans ?_ hb9 | refine Adds.trans ?_ hbm))⟩

set_option maxRecDepth 100000 in
set_option maxHeartbeats 1000000 in
theorem seize_nil (a n m : Int) (w : World) : Calls Try.prog 36 #[.pointer none, .agg #[.int .i64 a, .int .i64 n], .int .i64 m] w fun e w' => e = .returned (.int .i64 3) ∧ Adds w w' := by
  go_enter Try.func36, Try.ntmps36
  go_upto_region 1 with fail
  obtain ⟨W2, hW2⟩ : ∃ V, V = ((w.alloc (.cells #[.int .i64 a, .int .i64 n] 32)).alloc (.cells #[.int .i64 m] 3)) := ⟨_, rfl⟩
  have A2 : Adds w W2 := by rw [hW2]; exact ((Adds.refl w).alloc _).alloc _
  have X0 : Box W2 (w.heap.size) #[.int .i64 a, .int .i64 n] 32 := by rw [hW2]; have h := (Box.new w #[.int .i64 a, .int .i64 n] 32).alloc (.cells #[.int .i64 m] 3); simpa using h
  have X1 : Box W2 (w.heap.size + 1) #[.int .i64 m] 3 := by rw [hW2]; have h := Box.new (w.alloc (.cells #[.int .i64 a, .int .i64 n] 32)) #[.int .i64 m] 3; simpa using h
  rw [← hW2]
  clear hW2
  have x0_0 := X0.cell 0
  have x0_1 := X0.cell 1
  have x1_0 := X1.cell 0
  simp only [List.getElem?_toArray, List.getElem?_cons_zero, List.getElem?_cons_succ] at x0_0 x0_1 x1_0
  clear X0 X1
  go_region_held3 (fun w' => w'.cell? ⟨w.heap.size, 0, none⟩ = some (.int .i64 a) ∧ w'.cell? ⟨w.heap.size, 1, none⟩ = some (.int .i64 n) ∧ w'.cell? ⟨w.heap.size + 1, 0, none⟩ = some (.int .i64 m))
    (first | (go_keep; done) | ((repeat' apply And.intro) <;> go_keep) | (refine ⟨keep_cell ?_ x0_0, keep_cell ?_ x0_1, keep_cell ?_ x1_0⟩ <;> repeat (first | exact Adds.refl _ | exact hb9 | exact hbm | apply Adds.drew | apply Adds.drewN | apply Adds.alloc | refine Adds.trans ?_ hb9 | refine Adds.trans ?_ hbm)))
    ((first
      | (go_simp; go_at_call 64; refine (members_one _ m _ (by go_simp)).mono ?_; rintro e w' ⟨rfl, rfl⟩)
      | (go_simp; go_at_call 80; refine (make_held m _).mono ?_; rintro e wm ⟨xm, rfl, hxm, hbm⟩)
      | (go_simp; go_at_call 74; refine (change_nil a n _ _ _ _ _ _).mono ?_; rintro e w9 ⟨rfl, hb9⟩)))
  all_goals
    go_wp2
    go_ret
    exact ⟨rfl, A2.trans (by repeat (first | exact Adds.refl _ | exact hb9 | exact hbm | apply Adds.drew | apply Adds.drewN | apply Adds.alloc | refine Adds.trans ?_ hb9 | refine Adds.trans ?_ hbm))⟩

set_option maxRecDepth 100000 in
set_option maxHeartbeats 1000000 in
theorem pledge_nil (a n m k : Int) (w : World) : Calls Try.prog 34 #[.pointer none, .agg #[.int .i64 a, .int .i64 n], .int .i64 m, .int .i64 k] w fun e w' => e = .returned (.int .i64 3) ∧ Adds w w' := by
  go_enter Try.func34, Try.ntmps34
  go_upto_region 1 with fail
  obtain ⟨W2, hW2⟩ : ∃ V, V = ((w.alloc (.cells #[.int .i64 a, .int .i64 n] 32)).alloc (.cells #[.int .i64 k] 3)) := ⟨_, rfl⟩
  have A2 : Adds w W2 := by rw [hW2]; exact ((Adds.refl w).alloc _).alloc _
  have X0 : Box W2 (w.heap.size) #[.int .i64 a, .int .i64 n] 32 := by rw [hW2]; have h := (Box.new w #[.int .i64 a, .int .i64 n] 32).alloc (.cells #[.int .i64 k] 3); simpa using h
  have X1 : Box W2 (w.heap.size + 1) #[.int .i64 k] 3 := by rw [hW2]; have h := Box.new (w.alloc (.cells #[.int .i64 a, .int .i64 n] 32)) #[.int .i64 k] 3; simpa using h
  rw [← hW2]
  clear hW2
  have x0_0 := X0.cell 0
  have x0_1 := X0.cell 1
  have x1_0 := X1.cell 0
  simp only [List.getElem?_toArray, List.getElem?_cons_zero, List.getElem?_cons_succ] at x0_0 x0_1 x1_0
  clear X0 X1
  go_region_held3 (fun w' => w'.cell? ⟨w.heap.size, 0, none⟩ = some (.int .i64 a) ∧ w'.cell? ⟨w.heap.size, 1, none⟩ = some (.int .i64 n) ∧ w'.cell? ⟨w.heap.size + 1, 0, none⟩ = some (.int .i64 k))
    (first | (go_keep; done) | ((repeat' apply And.intro) <;> go_keep) | (refine ⟨keep_cell ?_ x0_0, keep_cell ?_ x0_1, keep_cell ?_ x1_0⟩ <;> repeat (first | exact Adds.refl _ | exact hb9 | exact hbm | apply Adds.drew | apply Adds.drewN | apply Adds.alloc | refine Adds.trans ?_ hb9 | refine Adds.trans ?_ hbm)))
    ((first
      | (go_simp; go_at_call 64; refine (members_two _ m k _ (by go_simp) (by go_simp)).mono ?_; rintro e w' ⟨rfl, rfl⟩)
      | (go_simp; go_at_call 77; refine (make_free m _).mono ?_; rintro e wm ⟨xm, rfl, hxm, hbm⟩)
      | (go_simp; go_at_call 74; refine (change_nil a n _ _ _ _ _ _).mono ?_; rintro e w9 ⟨rfl, hb9⟩)))
  all_goals
    go_wp2
    go_ret
    exact ⟨rfl, A2.trans (by repeat (first | exact Adds.refl _ | exact hb9 | exact hbm | apply Adds.drew | apply Adds.drewN | apply Adds.alloc | refine Adds.trans ?_ hb9 | refine Adds.trans ?_ hbm))⟩


end Go.Proofs.Ytjmdagpafjmccaa
