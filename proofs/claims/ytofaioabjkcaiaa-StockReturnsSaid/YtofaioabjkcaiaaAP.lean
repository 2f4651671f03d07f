/- The tame calls of StockKeeps and StockReturns. -/
import Derived.Test.YtofaioabjkcaiaaY
namespace Go.Proofs.Ytofaioabjkcaiaa
open Go.RowKit

theorem w64_in (n : Int) (h : -9223372036854775808 ≤ n ∧ n ≤ 9223372036854775807) : wrap64 n = n := by unfold wrap64; omega

theorem tame_num (a m : Int) (h1 : 1 ≤ m) (h2 : m ≤ 1000) : 1 ≤ wrap64 (1 + wrap64 ((IntKind.u64.wrap a).tmod m)) ∧ wrap64 (1 + wrap64 ((IntKind.u64.wrap a).tmod m)) ≤ m := by
  have h0 : 0 ≤ IntKind.u64.wrap a := by
    have : IntKind.u64.wrap a = a % 18446744073709551616 := by simp [IntKind.wrap, IntKind.signed, IntKind.bits]
    rw [this]; omega
  have k1 := Int.tmod_nonneg m h0
  have k2 := Int.tmod_lt_of_pos (IntKind.u64.wrap a) (show 0 < m by omega)
  generalize (IntKind.u64.wrap a).tmod m = y at *
  have e1 : wrap64 y = y := w64_in _ ⟨by omega, by omega⟩
  rw [e1, w64_in _ ⟨by omega, by omega⟩]
  omega

theorem i64_w (n : Int) : IntKind.i64.wrap n = wrap64 n := by rw [IntKind.wrap_i64]; unfold wrap64; rfl

/-- What small returns. -/
def SmallGot (w : World) (e : Ending) (w' : World) : Prop :=
  ∃ x y : Int, e = .returned (.agg #[.int .i64 x, .int .i64 y]) ∧ 1 ≤ x ∧ x ≤ 60 ∧ 1 ≤ y ∧ y ≤ 15 ∧ Adds w w'

set_option maxHeartbeats 400000 in
theorem small_any (a n : Int) (w : World) : Calls Try.prog 84 #[.agg #[.int .i64 a, .int .i64 n]] w (SmallGot w) := by
  go_enter Try.func84, Try.ntmps84
  go_wp2
  have h1 := tame_num a 60 (by omega) (by omega)
  have h2 := tame_num n 15 (by omega) (by omega)
  generalize wrap64 (1 + wrap64 ((IntKind.u64.wrap a).tmod 60)) = x at *
  generalize wrap64 (1 + wrap64 ((IntKind.u64.wrap n).tmod 15)) = y at *
  refine bodyPost_ret (v := .agg #[.int .i64 x, .int .i64 y]) ?_ rfl ⟨x, y, rfl, h1.1, h1.2, h2.1, h2.2, ((Adds.refl w).alloc _).alloc _⟩
  simp [results, Try.results84, go_sem]

/-- What tame returns. -/
def TameGot (w : World) (k : Int) (e : Ending) (w' : World) : Prop :=
  ∃ x y l a b : Int, e = .returned (.agg #[.int .i64 k, .int .i64 x, .int .i64 y, .int .i64 l, .int .i64 a, .int .i64 b]) ∧ 1 ≤ x ∧ x ≤ 60 ∧ 1 ≤ y ∧ y ≤ 15 ∧ 1 ≤ l ∧ l ≤ 3 ∧ 1 ≤ a ∧ a ≤ 4 ∧ 1 ≤ b ∧ b ≤ 4 ∧ Adds w w'

set_option maxRecDepth 100000 in
set_option maxHeartbeats 1000000 in
theorem tame_any (k a n l b c : Int) (w : World) : Calls Try.prog 38 #[.agg #[.int .i64 k, .int .i64 a, .int .i64 n, .int .i64 l, .int .i64 b, .int .i64 c]] w (TameGot w k) := by
  go_enter Try.func38, Try.ntmps38
  go_upto_region 1 with fail
  obtain ⟨W2, hW2⟩ : ∃ V, V = (w.alloc (.cells #[.int .i64 k, .int .i64 a, .int .i64 n, .int .i64 l, .int .i64 b, .int .i64 c] 34)).alloc (.cells #[.int .i64 0, .int .i64 0, .int .i64 0, .int .i64 0, .int .i64 0, .int .i64 0] 34) := ⟨_, rfl⟩
  have A2 : Adds w W2 := by rw [hW2]; exact ((Adds.refl w).alloc _).alloc _
  have X0 : Box W2 w.heap.size #[.int .i64 k, .int .i64 a, .int .i64 n, .int .i64 l, .int .i64 b, .int .i64 c] 34 := by rw [hW2]; exact (Box.new w _ _).alloc _
  have X1 : Box W2 (w.heap.size + 1) #[.int .i64 0, .int .i64 0, .int .i64 0, .int .i64 0, .int .i64 0, .int .i64 0] 34 := by rw [hW2]; have := Box.new (w.alloc (.cells #[.int .i64 k, .int .i64 a, .int .i64 n, .int .i64 l, .int .i64 b, .int .i64 c] 34)) #[.int .i64 0, .int .i64 0, .int .i64 0, .int .i64 0, .int .i64 0, .int .i64 0] 34; simpa using this
  rw [← hW2]
  clear hW2
  have x0 := X0.cell 0
  have x1 := X0.cell 1
  have x2 := X0.cell 2
  have x3 := X0.cell 3
  have x4 := X0.cell 4
  have x5 := X0.cell 5
  simp only [List.getElem?_toArray, List.getElem?_cons_zero, List.getElem?_cons_succ] at x0 x1 x2 x3 x4 x5
  have HX1 := Lib.hid X1
  clear X0 X1
  go_region_held3 (fun w' => w'.cell? ⟨w.heap.size, 0, none⟩ = some (.int .i64 k) ∧ w'.cell? ⟨w.heap.size, 1, none⟩ = some (.int .i64 a) ∧ w'.cell? ⟨w.heap.size, 2, none⟩ = some (.int .i64 n) ∧ w'.cell? ⟨w.heap.size, 3, none⟩ = some (.int .i64 l) ∧ w'.cell? ⟨w.heap.size, 4, none⟩ = some (.int .i64 b) ∧ w'.cell? ⟨w.heap.size, 5, none⟩ = some (.int .i64 c))
    (first | (go_keep; done) | (refine ⟨keep_cell ?_ x0, keep_cell ?_ x1, keep_cell ?_ x2, keep_cell ?_ x3, keep_cell ?_ x4, keep_cell ?_ x5⟩ <;> (repeat (first | exact Adds.refl _ | apply Adds.drew | apply Adds.drewN | apply Adds.alloc | refine Adds.trans ?_ hb))) | ((repeat' apply And.intro) <;> go_keep))
    ((first
      | (go_simp; go_at_call 84; refine (small_any _ _ _).mono ?_; rintro e w1 ⟨x, y, rfl, hx1, hx2, hy1, hy2, hb⟩; have Y := Box.later (show Box W2 _ _ _ from HX1.out) (show Adds W2 w1 by (repeat (first | exact hb | exact Adds.refl _ | refine Adds.trans ?_ hb | apply Adds.drew))); have c0 := Y.cell 0; have f0 := Y.free 0; have c1 := Y.cell 1; have f1 := Y.free 1; have c2 := Y.cell 2; have f2 := Y.free 2; have c3 := Y.cell 3; have f3 := Y.free 3; have c4 := Y.cell 4; have f4 := Y.free 4; have c5 := Y.cell 5; have f5 := Y.free 5; simp only [List.getElem?_toArray, List.getElem?_cons_zero, List.getElem?_cons_succ] at c0 c1 c2 c3 c4 c5; have HY := Lib.hid Y; clear Y)))
  all_goals
    go_wp2
    simp only [i64_w]
    have h1 := tame_num l 3 (by omega) (by omega)
    have h2 := tame_num b 4 (by omega) (by omega)
    have h3 := tame_num c 4 (by omega) (by omega)
    generalize wrap64 (1 + wrap64 ((IntKind.u64.wrap l).tmod 3)) = zl at *
    generalize wrap64 (1 + wrap64 ((IntKind.u64.wrap b).tmod 4)) = zb at *
    generalize wrap64 (1 + wrap64 ((IntKind.u64.wrap c).tmod 4)) = zc at *
    have hb9 : Adds w w1 := A2.trans ((Adds.refl W2).drew.trans hb)
    refine bodyPost_ret (v := .agg #[.int .i64 k, .int .i64 x, .int .i64 y, .int .i64 zl, .int .i64 zb, .int .i64 zc]) ?_ rfl ⟨x, y, zl, zb, zc, rfl, hx1, hx2, hy1, hy2, h1.1, h1.2, h2.1, h2.2, h3.1, h3.2, ?_⟩
    · simp [results, Try.results38, go_sem, c0, c1, c2, c3, c4, c5]
    · exact (((((hb9.set (by simp) _).set (by simp) _).set (by simp) _).set (by simp) _).set (by simp) _).set (by simp) _

end Go.Proofs.Ytofaioabjkcaiaa
