/- A nil register. -/
import Derived.Test.YtjmdagpafjmccaaY
namespace Go.Proofs.Ytjmdagpafjmccaa
open Go.RowKit

theorem marks_ret2 {fn : Func} {R : Ending → World → Prop} {a : Act} {w : World} {v : Value} (hd : a.defers = []) (hr : (results fn a.tmps).run Try.prog w = .ok v w) (hR : R (.returned v) w) : bodyPostM Fence.wide 0 Try.prog fn R .ret a w := marks_ret hd hr hR

set_option maxHeartbeats 400000 in
theorem pocket_nil (n ver : Int) (w : World) : Calls Try.prog 21 #[.pointer none, .int .i64 n, .int .i64 ver] w fun e w' => e = .returned (.tuple #[.agg #[.int .i64 0, .int .i64 0, .int .i64 0, .int .i64 0], .int .i64 3]) ∧ Adds w w' := by
  go_enter Try.func21, Try.ntmps21
  go_wp2_with (first
    | (go_at_call 59; refine (isPocket_any n _).mono ?_; rintro e w' ⟨rfl, rfl⟩)
    | (go_at_call 58; refine (tree_nil ver (inB 1000000 n) _).mono ?_; rintro e w' ⟨rfl, rfl⟩))
  refine bodyPost_ret (v := .tuple #[.agg #[.int .i64 0, .int .i64 0, .int .i64 0, .int .i64 0], .int .i64 3]) ?_ rfl ⟨rfl, ?_⟩
  · simp [results, Try.results21, go_sem]
  · repeat (first | exact Adds.refl _ | apply Adds.alloc)

set_option maxRecDepth 100000 in
set_option maxHeartbeats 1000000 in
theorem holds_nil (m ver : Int) (gw : Nat) (w : World) : Calls Try.prog 61 #[.pointer none, .int .i64 m, .int .i64 ver, .func (.func gw) #[] #[]] w fun e w' => e = .returned (.tuple #[.slice none 0 0, .int .i64 3]) ∧ Adds w w' := by
  refine calls_marks Try.func61 rfl ?_
  simp only [Try.ntmps61, List.size_toArray, List.length_cons, List.length_nil, Nat.reduceAdd, Nat.reduceSub, Array.replicate_succ, Array.replicate_zero, List.push_toArray, List.append_toArray, List.nil_append, List.cons_append]
  go_wp2_with (first
    | (go_at_call 64; refine (members_one _ m _ (by go_simp)).mono ?_; rintro e w' ⟨rfl, rfl⟩)
    | (go_at_call 58; refine (tree_nil ver (inB 1000 m) _).mono ?_; rintro e w' ⟨rfl, rfl⟩))
  refine marks_ret (v := .tuple #[.slice none 0 0, .int .i64 3]) rfl ?_ ⟨rfl, ?_⟩
  · simp [results, Try.results61, go_sem]
  · repeat (first | exact Adds.refl _ | apply Adds.alloc)

set_option maxHeartbeats 400000 in
theorem Holds_nil (m ver : Int) (w : World) : Calls Try.prog 22 #[.pointer none, .int .i64 m, .int .i64 ver] w fun e w' => e = .returned (.tuple #[.slice none 0 0, .int .i64 3]) ∧ Adds w w' := by
  go_enter Try.func22, Try.ntmps22
  go_wp2_with (go_at_call 61; refine (holds_nil m ver 62 _).mono ?_; rintro e w' ⟨rfl, hb⟩)
  go_ret2
  exact ⟨rfl, hb⟩

set_option maxHeartbeats 400000 in
theorem Pledged_nil (m ver : Int) (w : World) : Calls Try.prog 23 #[.pointer none, .int .i64 m, .int .i64 ver] w fun e w' => e = .returned (.tuple #[.slice none 0 0, .int .i64 3]) ∧ Adds w w' := by
  go_enter Try.func23, Try.ntmps23
  go_wp2_with (go_at_call 61; refine (holds_nil m ver 63 _).mono ?_; rintro e w' ⟨rfl, hb⟩)
  go_ret2
  exact ⟨rfl, hb⟩

set_option maxHeartbeats 400000 in
theorem Count_nil (m ver : Int) (w : World) : Calls Try.prog 24 #[.pointer none, .int .i64 m, .int .i64 ver] w fun e w' => e = .returned (.tuple #[.int .i64 0, .int .i64 3]) ∧ Adds w w' := by
  go_enter Try.func24, Try.ntmps24
  go_wp2_with (go_at_call 22; refine (Holds_nil m ver _).mono ?_; rintro e w' ⟨rfl, hb⟩)
  refine wp_loop_once ?_
  go_wp2
  go_ret2
  exact ⟨rfl, hb⟩

set_option maxRecDepth 100000 in
set_option maxHeartbeats 1000000 in
theorem Find_nil (w : World) : Calls Try.prog 25 #[.pointer none, .int .i64 1, .int .i64 1, .int .i64 1] w fun e w' => e = .returned (.tuple #[.slice none 0 0, .int .i64 3]) ∧ Adds w w' := by
  have m1 : inB 1000 1 = true := by decide
  have m2 : inB 1000000 1 = true := by decide
  refine calls_marks Try.func25 rfl ?_
  simp only [Try.ntmps25, List.size_toArray, List.length_cons, List.length_nil, Nat.reduceAdd, Nat.reduceSub, Array.replicate_succ, Array.replicate_zero, List.push_toArray, List.append_toArray, List.nil_append, List.cons_append]
  go_wp2_with (first
    | (go_at_call 16; refine (version_nil _).mono ?_; rintro e w' ⟨rfl, rfl⟩)
    | (go_at_call 64; refine (members_one _ 1 _ (by go_simp)).mono ?_; rintro e w' ⟨rfl, rfl⟩; simp only [m1])
    | (go_at_call 65; refine (isLot_any 1 _).mono ?_; rintro e w' ⟨rfl, rfl⟩; simp only [m2])
    | (go_at_call 59; refine (isPocket_any 1 _).mono ?_; rintro e w' ⟨rfl, rfl⟩; simp only [m2])
    | (go_at_call 58; refine (tree_nil 0 true _).mono ?_; rintro e w' ⟨rfl, rfl⟩))
  refine marks_ret (v := .tuple #[.slice none 0 0, .int .i64 3]) rfl ?_ ⟨rfl, ?_⟩
  · simp [results, Try.results25, go_sem]
  · repeat (first | exact Adds.refl _ | apply Adds.alloc)

set_option maxRecDepth 100000 in
set_option maxHeartbeats 1000000 in
theorem Changed_nil (a b : Int) (w : World) : Calls Try.prog 28 #[.pointer none, .int .i64 a, .int .i64 b] w fun e w' => e = .returned (.tuple #[.slice none 0 0, .int .i64 3]) ∧ Adds w w' := by
  refine calls_marks Try.func28 rfl ?_
  simp only [Try.ntmps28, List.size_toArray, List.length_cons, List.length_nil, Nat.reduceAdd, Nat.reduceSub, Array.replicate_succ, Array.replicate_zero, List.push_toArray, List.append_toArray, List.nil_append, List.cons_append]
  go_wp2_with (go_at_call 58; refine (tree_nil a true _).mono ?_; rintro e w' ⟨rfl, rfl⟩)
  refine marks_ret (v := .tuple #[.slice none 0 0, .int .i64 3]) rfl ?_ ⟨rfl, ?_⟩
  · simp [results, Try.results28, go_sem]
  · exact Adds.refl _

set_option maxHeartbeats 400000 in
theorem Fork_nil (w : World) : Calls Try.prog 31 #[.pointer none] w fun e w' => e = .returned (.pointer none) ∧ w = w' := by
  go_enter Try.func31, Try.ntmps31
  go_wp2
  go_ret
  exact ⟨rfl, rfl⟩

end Go.Proofs.Ytjmdagpafjmccaa
