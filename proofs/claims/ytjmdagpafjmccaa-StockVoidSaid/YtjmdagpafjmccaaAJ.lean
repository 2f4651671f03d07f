/- StockVoid: the walk. -/
import Derived.Test.YtjmdagpafjmccaaAI
import Derived.Test.YtjmdagpafjmccaaAF
import Derived.Test.YtjmdagpafjmccaaAH
namespace Go.Proofs.Ytjmdagpafjmccaa
open Go.RowKit

set_option maxRecDepth 100000 in
set_option maxHeartbeats 4000000 in
theorem void_any (k a n l b c ver : Int) (w : World) : Calls Try.prog 8 #[.agg #[.int .i64 k, .int .i64 a, .int .i64 n, .int .i64 l, .int .i64 b, .int .i64 c], .int .i64 ver] w fun e w' => e = .returned (.bool true) ∧ Adds w w' := by
  go_enter Try.func8, Try.ntmps8
  go_wp2_with fail
  obtain ⟨W2, hW2⟩ : ∃ V, V = (w.alloc (.cells #[.int .i64 k, .int .i64 a, .int .i64 n, .int .i64 l, .int .i64 b, .int .i64 c] 34)) := ⟨_, rfl⟩
  have A2 : Adds w W2 := by rw [hW2]; exact (Adds.refl w).alloc _
  have X0 : Box W2 (w.heap.size) #[.int .i64 k, .int .i64 a, .int .i64 n, .int .i64 l, .int .i64 b, .int .i64 c] 34 := by rw [hW2]; have h := Box.new w #[.int .i64 k, .int .i64 a, .int .i64 n, .int .i64 l, .int .i64 b, .int .i64 c] 34; simpa using h
  rw [← hW2]
  clear hW2
  have x0_0 := X0.cell 0
  have x0_1 := X0.cell 1
  have x0_2 := X0.cell 2
  have x0_3 := X0.cell 3
  have x0_4 := X0.cell 4
  have x0_5 := X0.cell 5
  simp only [List.getElem?_toArray, List.getElem?_cons_zero, List.getElem?_cons_succ] at x0_0 x0_1 x0_2 x0_3 x0_4 x0_5
  clear X0
  go_at_call 21
  refine (pocket_nil _ _ _).mono ?_
  rintro e w1 ⟨rfl, hb⟩
  go_wp2_with fail
  obtain ⟨W3, hW3⟩ : ∃ V, V = (w1.alloc (.cells #[.int .i64 0, .int .i64 0, .int .i64 0, .int .i64 0] 44)) := ⟨_, rfl⟩
  have hb : Adds W2 W3 := by rw [hW3]; exact hb.alloc _
  have Y : Box W3 w1.heap.size #[.int .i64 0, .int .i64 0, .int .i64 0, .int .i64 0] 44 := by rw [hW3]; exact Box.new w1 _ _
  rw [← hW3]
  clear hW3
  have A2 := A2.trans hb
  have x0_0 := keep_cell hb x0_0
  have x0_1 := keep_cell hb x0_1
  have x0_2 := keep_cell hb x0_2
  have x0_3 := keep_cell hb x0_3
  have x0_4 := keep_cell hb x0_4
  have x0_5 := keep_cell hb x0_5
  have y0 := Y.cell 0
  have y1 := Y.cell 1
  have y2 := Y.cell 2
  have y3 := Y.cell 3
  simp only [List.getElem?_toArray, List.getElem?_cons_zero, List.getElem?_cons_succ] at y0 y1 y2 y3
  clear Y hb
  generalize w1.heap.size = g at *
  go_wp2_with (first
    | (go_at_call 21; refine (pocket_nil _ _ _).mono ?_; rintro e w1 ⟨rfl, hb⟩; have A2 := A2.trans hb; have x0_0 := keep_cell hb x0_0; have x0_1 := keep_cell hb x0_1; have x0_2 := keep_cell hb x0_2; have x0_3 := keep_cell hb x0_3; have x0_4 := keep_cell hb x0_4; have x0_5 := keep_cell hb x0_5; have y0 := keep_cell hb y0; have y1 := keep_cell hb y1; have y2 := keep_cell hb y2; have y3 := keep_cell hb y3; clear hb)
    | (go_at_call 22; refine (Holds_nil _ _ _).mono ?_; rintro e w1 ⟨rfl, hb⟩; have A2 := A2.trans hb; have x0_0 := keep_cell hb x0_0; have x0_1 := keep_cell hb x0_1; have x0_2 := keep_cell hb x0_2; have x0_3 := keep_cell hb x0_3; have x0_4 := keep_cell hb x0_4; have x0_5 := keep_cell hb x0_5; have y0 := keep_cell hb y0; have y1 := keep_cell hb y1; have y2 := keep_cell hb y2; have y3 := keep_cell hb y3; clear hb)
    | (go_at_call 23; refine (Pledged_nil _ _ _).mono ?_; rintro e w1 ⟨rfl, hb⟩; have A2 := A2.trans hb; have x0_0 := keep_cell hb x0_0; have x0_1 := keep_cell hb x0_1; have x0_2 := keep_cell hb x0_2; have x0_3 := keep_cell hb x0_3; have x0_4 := keep_cell hb x0_4; have x0_5 := keep_cell hb x0_5; have y0 := keep_cell hb y0; have y1 := keep_cell hb y1; have y2 := keep_cell hb y2; have y3 := keep_cell hb y3; clear hb)
    | (go_at_call 24; refine (Count_nil _ _ _).mono ?_; rintro e w1 ⟨rfl, hb⟩; have A2 := A2.trans hb; have x0_0 := keep_cell hb x0_0; have x0_1 := keep_cell hb x0_1; have x0_2 := keep_cell hb x0_2; have x0_3 := keep_cell hb x0_3; have x0_4 := keep_cell hb x0_4; have x0_5 := keep_cell hb x0_5; have y0 := keep_cell hb y0; have y1 := keep_cell hb y1; have y2 := keep_cell hb y2; have y3 := keep_cell hb y3; clear hb)
    | (go_at_call 25; refine (Find_nil _).mono ?_; rintro e w1 ⟨rfl, hb⟩; have A2 := A2.trans hb; have x0_0 := keep_cell hb x0_0; have x0_1 := keep_cell hb x0_1; have x0_2 := keep_cell hb x0_2; have x0_3 := keep_cell hb x0_3; have x0_4 := keep_cell hb x0_4; have x0_5 := keep_cell hb x0_5; have y0 := keep_cell hb y0; have y1 := keep_cell hb y1; have y2 := keep_cell hb y2; have y3 := keep_cell hb y3; clear hb)
    | (go_at_call 28; refine (Changed_nil _ _ _).mono ?_; rintro e w1 ⟨rfl, hb⟩; have A2 := A2.trans hb; have x0_0 := keep_cell hb x0_0; have x0_1 := keep_cell hb x0_1; have x0_2 := keep_cell hb x0_2; have x0_3 := keep_cell hb x0_3; have x0_4 := keep_cell hb x0_4; have x0_5 := keep_cell hb x0_5; have y0 := keep_cell hb y0; have y1 := keep_cell hb y1; have y2 := keep_cell hb y2; have y3 := keep_cell hb y3; clear hb)
    | (go_at_call 32; refine (enter_nil _ _ _ _ _).mono ?_; rintro e w1 ⟨rfl, hb⟩; have A2 := A2.trans hb; have x0_0 := keep_cell hb x0_0; have x0_1 := keep_cell hb x0_1; have x0_2 := keep_cell hb x0_2; have x0_3 := keep_cell hb x0_3; have x0_4 := keep_cell hb x0_4; have x0_5 := keep_cell hb x0_5; have y0 := keep_cell hb y0; have y1 := keep_cell hb y1; have y2 := keep_cell hb y2; have y3 := keep_cell hb y3; clear hb)
    | (go_at_call 33; refine (move_nil _ _ _ _ _).mono ?_; rintro e w1 ⟨rfl, hb⟩; have A2 := A2.trans hb; have x0_0 := keep_cell hb x0_0; have x0_1 := keep_cell hb x0_1; have x0_2 := keep_cell hb x0_2; have x0_3 := keep_cell hb x0_3; have x0_4 := keep_cell hb x0_4; have x0_5 := keep_cell hb x0_5; have y0 := keep_cell hb y0; have y1 := keep_cell hb y1; have y2 := keep_cell hb y2; have y3 := keep_cell hb y3; clear hb)
    | (go_at_call 34; refine (pledge_nil _ _ _ _ _).mono ?_; rintro e w1 ⟨rfl, hb⟩; have A2 := A2.trans hb; have x0_0 := keep_cell hb x0_0; have x0_1 := keep_cell hb x0_1; have x0_2 := keep_cell hb x0_2; have x0_3 := keep_cell hb x0_3; have x0_4 := keep_cell hb x0_4; have x0_5 := keep_cell hb x0_5; have y0 := keep_cell hb y0; have y1 := keep_cell hb y1; have y2 := keep_cell hb y2; have y3 := keep_cell hb y3; clear hb)
    | (go_at_call 35; refine (release_nil _ _ _ _).mono ?_; rintro e w1 ⟨rfl, hb⟩; have A2 := A2.trans hb; have x0_0 := keep_cell hb x0_0; have x0_1 := keep_cell hb x0_1; have x0_2 := keep_cell hb x0_2; have x0_3 := keep_cell hb x0_3; have x0_4 := keep_cell hb x0_4; have x0_5 := keep_cell hb x0_5; have y0 := keep_cell hb y0; have y1 := keep_cell hb y1; have y2 := keep_cell hb y2; have y3 := keep_cell hb y3; clear hb)
    | (go_at_call 36; refine (seize_nil _ _ _ _).mono ?_; rintro e w1 ⟨rfl, hb⟩; have A2 := A2.trans hb; have x0_0 := keep_cell hb x0_0; have x0_1 := keep_cell hb x0_1; have x0_2 := keep_cell hb x0_2; have x0_3 := keep_cell hb x0_3; have x0_4 := keep_cell hb x0_4; have x0_5 := keep_cell hb x0_5; have y0 := keep_cell hb y0; have y1 := keep_cell hb y1; have y2 := keep_cell hb y2; have y3 := keep_cell hb y3; clear hb)
    | (go_at_call 37; refine (leave_nil _ _ _ _).mono ?_; rintro e w1 ⟨rfl, hb⟩; have A2 := A2.trans hb; have x0_0 := keep_cell hb x0_0; have x0_1 := keep_cell hb x0_1; have x0_2 := keep_cell hb x0_2; have x0_3 := keep_cell hb x0_3; have x0_4 := keep_cell hb x0_4; have x0_5 := keep_cell hb x0_5; have y0 := keep_cell hb y0; have y1 := keep_cell hb y1; have y2 := keep_cell hb y2; have y3 := keep_cell hb y3; clear hb)
    | (go_at_call 19; refine (awake_any _).mono ?_; rintro e w1 ⟨rfl, hb⟩; have A2 := A2.trans hb; have x0_0 := keep_cell hb x0_0; have x0_1 := keep_cell hb x0_1; have x0_2 := keep_cell hb x0_2; have x0_3 := keep_cell hb x0_3; have x0_4 := keep_cell hb x0_4; have x0_5 := keep_cell hb x0_5; have y0 := keep_cell hb y0; have y1 := keep_cell hb y1; have y2 := keep_cell hb y2; have y3 := keep_cell hb y3; clear hb)
    | (go_at_call 16; refine (version_nil _).mono ?_; rintro e w1 ⟨rfl, rfl⟩)
    | (go_at_call 31; refine (Fork_nil _).mono ?_; rintro e w1 ⟨rfl, rfl⟩))
  go_ret
  exact ⟨rfl, A2⟩

end Go.Proofs.Ytjmdagpafjmccaa
