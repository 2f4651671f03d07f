/- Scores of spots: the closures of least; slices.MinFunc. -/
import Derived.Test.YtigpghmbeldakaaG
namespace Go.Proofs.Ytigpghmbeldakaa
open Go.RowKit

/-- What is known of a function value that scores spots of a list, in the worlds K. -/
structure Scores (K : World → Prop) (g : Nat) (lb : Array Value) (f : Sp → Int) (l : List Sp) : Prop where
  enter : ∀ (args : Array Value) (w : World), (callFunc g args).run Try.prog w = .ok (.enter g args) w
  call : ∀ a b c, (a, b, c) ∈ l → ∀ W, K W → Calls Try.prog g (#[.agg #[.int .i64 a, .int .i64 b, .int .i64 c]] ++ lb) W fun e w' => e = .returned (.int .i64 (f (a, b, c))) ∧ Adds W w'
  keep : ∀ W W', K W → Adds W W' → K W'

theorem bcell {W w1 : World} (hb : Below W.heap.size W w1) : (∀ b o, b < W.heap.size → w1.cell? ⟨b, o, none⟩ = W.cell? ⟨b, o, none⟩) ∧ (∀ b o, b < W.heap.size → w1.frozen? ⟨b, o, none⟩ = W.frozen? ⟨b, o, none⟩) :=
  ⟨fun b o h => hb.cell (p := ⟨b, o, none⟩) h, fun b o h => hb.frozen (p := ⟨b, o, none⟩) h⟩

set_option maxHeartbeats 2000000 in
theorem scmp_any (K : World → Prop) (g sb : Nat) (lb : Array Value) (f : Sp → Int) (l : List Sp) (hS : Scores K g lb f l) (a b c x y z : Int) (ha : (a, b, c) ∈ l) (hx : (x, y, z) ∈ l) (w : World) (hK : K w) (hc : w.cell? ⟨sb, 0, none⟩ = some (.func (.func g) #[] lb)) :
    Calls Try.prog 59 #[.agg #[.int .i64 a, .int .i64 b, .int .i64 c], .agg #[.int .i64 x, .int .i64 y, .int .i64 z], .pointer (some ⟨sb, 0, none⟩)] w fun e w' => e = .returned (.int .i64 (cmpT (f (a, b, c)) (f (x, y, z)))) ∧ Adds w w' := by
  have hcmp := fun W' => cmp_i (f (a, b, c)) (f (x, y, z)) W'
  have he := hS.enter
  have HS := Lib.hid hS
  have HK := Lib.hid hK
  have hlt := cell_lt hc
  clear hS hK
  go_enter Try.func59, Try.ntmps59
  go_upto_region 1 with fail
  obtain ⟨W3, hW3⟩ : ∃ V, V = (w.alloc (.cells #[.int .i64 a, .int .i64 b, .int .i64 c] 80)).alloc (.cells #[.int .i64 x, .int .i64 y, .int .i64 z] 80) := ⟨_, rfl⟩
  have A3 : Adds w W3 := by rw [hW3]; exact ((Adds.refl w).alloc _).alloc _
  have X0 : Box W3 w.heap.size #[.int .i64 a, .int .i64 b, .int .i64 c] 80 := by rw [hW3]; exact (Box.new w _ _).alloc _
  have X1 : Box W3 (w.heap.size + 1) #[.int .i64 x, .int .i64 y, .int .i64 z] 80 := by rw [hW3]; have := Box.new (w.alloc (.cells #[.int .i64 a, .int .i64 b, .int .i64 c] 80)) #[.int .i64 x, .int .i64 y, .int .i64 z] 80; simpa using this
  rw [← hW3]
  clear hW3
  have c0 := keep_cell A3 hc
  have x0 := X0.cell 0
  have x1 := X0.cell 1
  have x2 := X0.cell 2
  have y0 := X1.cell 0
  have y1 := X1.cell 1
  have y2 := X1.cell 2
  simp only [List.getElem?_toArray, List.getElem?_cons_zero, List.getElem?_cons_succ] at x0 x1 x2 y0 y1 y2
  have HA3 := Lib.hid A3
  have HX := Lib.hid ha
  have HY := Lib.hid hx
  clear X0 X1 hc A3 ha hx
  go_region_held3 (fun w' => w'.cell? ⟨sb, 0, none⟩ = some (.func (.func g) #[] lb) ∧ w'.cell? ⟨w.heap.size, 0, none⟩ = some (.int .i64 a) ∧ w'.cell? ⟨w.heap.size, 1, none⟩ = some (.int .i64 b) ∧ w'.cell? ⟨w.heap.size, 2, none⟩ = some (.int .i64 c) ∧ w'.cell? ⟨w.heap.size + 1, 0, none⟩ = some (.int .i64 x) ∧ w'.cell? ⟨w.heap.size + 1, 1, none⟩ = some (.int .i64 y) ∧ w'.cell? ⟨w.heap.size + 1, 2, none⟩ = some (.int .i64 z) ∧ Hid (Adds W3 w'))
    (first | (refine ⟨?_, ?_, ?_, ?_, ?_, ?_, ?_, Lib.hid (Adds.refl _).drew⟩ <;> go_keep; done) | (have hq := Lib.hid (Adds.trans hh.2.2.2.2.2.2.2.out hb1); exact ⟨keep_cell hq.out c0, keep_cell hq.out x0, keep_cell hq.out x1, keep_cell hq.out x2, keep_cell hq.out y0, keep_cell hq.out y1, keep_cell hq.out y2, hq⟩))
    ((first | (go_simp; go_at_call 60; refine (hcmp _).mono ?_; rintro e w1 ⟨rfl, rfl⟩) | (go_simp; go_at_fn g; rename_i hh _ _; refine (HS.out.call _ _ _ (by first | exact HX.out | exact HY.out) _ (HS.out.keep _ _ HK.out (HA3.out.trans hh.2.2.2.2.2.2.2.out))).mono ?_; rintro e w1 ⟨rfl, hb1⟩)))
  go_wp2
  go_ret
  exact ⟨rfl, HA3.out.trans (hh.2.2.2.2.2.2.2.out.trans hb1)⟩

set_option maxHeartbeats 2000000 in
theorem cut_any (K : World → Prop) (g sb mb : Nat) (lb : Array Value) (f : Sp → Int) (l : List Sp) (hS : Scores K g lb f l) (a b c m : Int) (ha : (a, b, c) ∈ l) (w : World) (hK : K w) (hc : w.cell? ⟨sb, 0, none⟩ = some (.func (.func g) #[] lb))
    (hm : w.cell? ⟨mb, 0, none⟩ = some (.int .i64 m)) :
    Calls Try.prog 62 #[.agg #[.int .i64 a, .int .i64 b, .int .i64 c], .pointer (some ⟨sb, 0, none⟩), .pointer (some ⟨mb, 0, none⟩)] w fun e w' => e = .returned (.bool (decide (m < f (a, b, c)))) ∧ Adds w w' := by
  have he := hS.enter
  have HS := Lib.hid hS
  have HK := Lib.hid hK
  have hlt := cell_lt hc
  have hlt2 := cell_lt hm
  clear hS hK
  go_enter Try.func62, Try.ntmps62
  go_upto_region 1 with fail
  obtain ⟨W3, hW3⟩ : ∃ V, V = w.alloc (.cells #[.int .i64 a, .int .i64 b, .int .i64 c] 80) := ⟨_, rfl⟩
  have A3 : Adds w W3 := by rw [hW3]; exact (Adds.refl w).alloc _
  have X0 : Box W3 w.heap.size #[.int .i64 a, .int .i64 b, .int .i64 c] 80 := by rw [hW3]; exact Box.new w _ _
  rw [← hW3]
  clear hW3
  have c0 := keep_cell A3 hc
  have c1 := keep_cell A3 hm
  have x0 := X0.cell 0
  have x1 := X0.cell 1
  have x2 := X0.cell 2
  simp only [List.getElem?_toArray, List.getElem?_cons_zero, List.getElem?_cons_succ] at x0 x1 x2
  have HA3 := Lib.hid A3
  have HX := Lib.hid ha
  clear X0 hc A3 ha hm
  go_region_held3 (fun w' => w'.cell? ⟨sb, 0, none⟩ = some (.func (.func g) #[] lb) ∧ w'.cell? ⟨mb, 0, none⟩ = some (.int .i64 m) ∧ w'.cell? ⟨w.heap.size, 0, none⟩ = some (.int .i64 a) ∧ w'.cell? ⟨w.heap.size, 1, none⟩ = some (.int .i64 b) ∧ w'.cell? ⟨w.heap.size, 2, none⟩ = some (.int .i64 c) ∧ Hid (Adds W3 w'))
    (first | (refine ⟨?_, ?_, ?_, ?_, ?_, Lib.hid (Adds.refl _).drew⟩ <;> go_keep; done) | (have hq := Lib.hid (Adds.trans hh.2.2.2.2.2.out hb1); exact ⟨keep_cell hq.out c0, keep_cell hq.out c1, keep_cell hq.out x0, keep_cell hq.out x1, keep_cell hq.out x2, hq⟩))
    ((go_simp; go_at_fn g; rename_i hh _ _; refine (HS.out.call _ _ _ HX.out _ (HS.out.keep _ _ HK.out (HA3.out.trans hh.2.2.2.2.2.out))).mono ?_; rintro e w1 ⟨rfl, hb1⟩))
  all_goals
    go_wp2
    go_ret
    exact ⟨rfl, HA3.out.trans (hh.2.2.2.2.2.out.trans hb1)⟩

theorem cmpT_neg (a b : Int) : decide (cmpT a b < 0) = decide (a < b) := by
  unfold cmpT
  by_cases h : a < b
  · simp [h]
  · by_cases h' : b < a <;> simp [h, h']

end Go.Proofs.Ytigpghmbeldakaa
