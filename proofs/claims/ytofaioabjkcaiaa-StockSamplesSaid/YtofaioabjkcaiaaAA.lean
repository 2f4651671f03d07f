/- span; holds. -/
import Derived.Test.YtofaioabjkcaiaaR
import Derived.Test.YtofaioabjkcaiaaQ
namespace Go.Proofs.Ytofaioabjkcaiaa
open Go.RowKit

attribute [local go_sem] Oper.semAt_some

set_option maxHeartbeats 1000000 in
theorem span_any (a c : Int) (w : World) (ha : 1 ≤ a) (hc : c ≤ 1000000) (hac : a ≤ c) :
    Calls Try.prog 71 #[.agg #[.int .i64 a, .int .i64 c]] w fun e w' => e = .returned (.agg #[.int .i64 a, .int .i64 (c - a + 1)]) ∧ Adds w w' := by
  go_enter Try.func71, Try.ntmps71
  go_upto_region 1 with fail
  obtain ⟨W2, hW2⟩ : ∃ V, V = (w.alloc (.cells #[.int .i64 a, .int .i64 c] 124)).alloc (.cells #[.int .i64 0, .int .i64 0] 32) := ⟨_, rfl⟩
  have A2 : Adds w W2 := by rw [hW2]; exact ((Adds.refl w).alloc _).alloc _
  have X0 : Box W2 w.heap.size #[.int .i64 a, .int .i64 c] 124 := by rw [hW2]; exact (Box.new w _ _).alloc _
  have X1 : Box W2 (w.heap.size + 1) #[.int .i64 0, .int .i64 0] 32 := by rw [hW2]; have := Box.new (w.alloc (.cells #[.int .i64 a, .int .i64 c] 124)) #[.int .i64 0, .int .i64 0] 32; simpa using this
  rw [← hW2]
  clear hW2
  have x0 := X0.cell 0
  have x1 := X0.cell 1
  simp only [List.getElem?_toArray, List.getElem?_cons_zero, List.getElem?_cons_succ] at x0 x1
  have HX1 := Lib.hid X1
  clear X0 X1
  refine wp_region_held_drew (S := fun w' => w'.cell? ⟨w.heap.size, 0, none⟩ = some (.int .i64 a) ∧ w'.cell? ⟨w.heap.size, 1, none⟩ = some (.int .i64 c)) (by kernel_rfl) ⟨x0, x1⟩ (fun hHeld => ?_)
  refine wpAnyH_take (i := 0) (oi := ⟨some 3, _, _, _, _, _⟩) (v := ?v1) rfl (by kernel_rfl) (by kernel_rfl) (by kernel_rfl) (fun _ _ _ h => h) (Or.inl ⟨by rfl, ?hy1⟩) (by assumption) ?rest1
  case hy1 => (intro w hSw; (try dsimp only at hSw); go_simp; try with_reducible rfl)
  try simp only [Act.put, List.setIfInBounds_toArray, List.set_cons_zero, List.set_cons_succ]
  refine wpAnyH_take (i := 1) (oi := ⟨some 4, _, _, _, _, _⟩) (v := ?v2) rfl (by kernel_rfl) (by kernel_rfl) (by kernel_rfl) (fun _ _ _ h => h) (Or.inl ⟨by rfl, ?hy2⟩) (by assumption) ?rest2
  case hy2 => (intro w hSw; (try dsimp only at hSw); go_simp; try with_reducible rfl)
  try simp only [Act.put, List.setIfInBounds_toArray, List.set_cons_zero, List.set_cons_succ]
  refine wpAnyH_take (i := 2) (oi := ⟨some 5, _, _, _, _, _⟩) (v := ?v3) rfl (by kernel_rfl) (by kernel_rfl) (by kernel_rfl) (fun _ _ _ h => h) (Or.inl ⟨by rfl, ?hy3⟩) (by assumption) ?rest3
  case hy3 => (intro w hSw; (try dsimp only at hSw); go_simp; try with_reducible rfl)
  try simp only [Act.put, List.setIfInBounds_toArray, List.set_cons_zero, List.set_cons_succ]
  refine wpAnyH_ready (rs := [3]) (by kernel_rfl) (by simp) ?_
  refine AllReadyH.cons (o := ⟨some 6, _, _, _, _, _⟩) rfl (fun K hK => ?_) AllReadyH.nil
  go_simp
  (go_at_call 67; refine (count_any a c _ (by omega) (by omega) (by omega) (by omega)).mono ?_; rintro e w3 ⟨rfl, hb⟩)
  refine hK.out _ _ ?_ (fun hHeld => ?_)
  · exact ⟨keep_cell ((Adds.refl W2).drew.trans hb) x0, keep_cell ((Adds.refl W2).drew.trans hb) x1⟩
  clear hK K
  try simp only [Act.put, List.setIfInBounds_toArray, List.set_cons_zero, List.set_cons_succ]
  have Y1 : Box w3 (w.heap.size + 1) #[.int .i64 0, .int .i64 0] 32 := (HX1.out.later (Adds.refl _).drew).later hb
  have y0 := Y1.cell 0
  have y1 := Y1.cell 1
  have f0 := Y1.free 0
  have f1 := Y1.free 1
  simp only [List.getElem?_toArray, List.getElem?_cons_zero, List.getElem?_cons_succ] at y0 y1
  have HY1 := Lib.hid Y1
  clear Y1
  refine wpAnyH_take (i := 4) (oi := ⟨some 7, _, _, _, _, _⟩) (v := ?v4) rfl (by kernel_rfl) (by kernel_rfl) (by kernel_rfl) (fun _ _ _ h => h) (Or.inl ⟨by rfl, ?hy4⟩) (by assumption) ?rest4
  case hy4 => (intro w hSw; (try dsimp only at hSw); go_simp; try with_reducible rfl)
  try simp only [Act.put, List.setIfInBounds_toArray, List.set_cons_zero, List.set_cons_succ]
  refine wpAnyH_ready (rs := [5]) (by kernel_rfl) (by simp) ?_
  refine AllReadyH.cons (o := ⟨none, _, _, _, _, _⟩) rfl (fun K hK => ?_) AllReadyH.nil
  go_simp
  have z0 := keep_cell ((Adds.refl W2).drew.trans hb) x0
  have z1 := keep_cell ((Adds.refl W2).drew.trans hb) x1
  have Z1 := (HY1.out.set 0 (.int .i64 a)).set 1 (.int .i64 (c - a + 1))
  have HZ1 := Lib.hid Z1
  have e0 := Z1.cell 0
  have e1 := Z1.cell 1
  simp at e0 e1
  clear Z1
  refine hK.out _ _ ⟨by rw [World.cell?_setCell_far _ _ _ _ (by simp), World.cell?_setCell_far _ _ _ _ (by simp)]; exact z0, by rw [World.cell?_setCell_far _ _ _ _ (by simp), World.cell?_setCell_far _ _ _ _ (by simp)]; exact z1⟩ (fun hHeld => ?_)
  clear hK K
  try simp only [Act.put, List.setIfInBounds_toArray, List.set_cons_zero, List.set_cons_succ]
  refine wpAnyH_done (by kernel_rfl) ?_ _
  go_wp2
  refine bodyPost_ret (v := .agg #[.int .i64 a, .int .i64 (c - a + 1)]) ?_ rfl ⟨rfl, ?_⟩
  · simp [results, Try.results71, go_sem, e0, e1]
  · exact (((A2.drew).trans hb).set (p := ⟨w.heap.size + 1, 0, none⟩) (by show w.heap.size ≤ w.heap.size + 1; omega) _).set (p := ⟨w.heap.size + 1, 1, none⟩) (by show w.heap.size ≤ w.heap.size + 1; omega) _

end Go.Proofs.Ytofaioabjkcaiaa
