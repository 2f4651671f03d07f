/- Where change refuses; the methods that call it. -/
import Derived.Test.YtofaioabjkcaiaaQ
namespace Go.Proofs.Ytofaioabjkcaiaa
open Go.RowKit

theorem third_cell {w w1 : World} {A C : Obj} {x y : Value} (hb : Adds (((w.alloc A).alloc C).alloc (.cells #[x] 45)) w1) : (w1.setCell ⟨w.heap.size + 1 + 1, 0, none⟩ y).cell? ⟨w.heap.size + 1 + 1, 0, none⟩ = some y := by
  have h : Box (((w.alloc A).alloc C).alloc (.cells #[x] 45)) (w.heap.size + 1 + 1) #[x] 45 := by have := Box.new ((w.alloc A).alloc C) #[x] 45; simpa using this
  have := ((h.later hb).set 0 y).cell 0
  simpa using this

theorem marks_ret {fn : Func} {R : Ending → World → Prop} {a : Act} {w : World} {v : Value} (hd : a.defers = []) (hr : (results fn a.tmps).run Try.prog w = .ok v w) (hR : R (.returned v) w) : bodyPostM Fence.wide 0 Try.prog fn R .ret a w := by
  show LeavesInM Fence.wide 0 Try.prog fn a.tmps R a.defers .returning w
  rw [hd]
  exact ⟨v, hr, hR⟩

set_option maxRecDepth 100000 in
set_option maxHeartbeats 1000000 in
theorem change_nil (a n : Int) (r : Bool) (gr ga : Nat) (lr la : Array Value) (w : World) :
    Calls Try.prog 74 #[.pointer none, .agg #[.int .i64 a, .int .i64 n], .bool r, .func (.func gr) #[] lr, .func (.func ga) #[] la] w fun e w' => e = .returned (.int .i64 3) ∧ Adds w w' := by
  refine calls_marks Try.func74 rfl ?_
  simp only [Try.ntmps74, List.size_toArray, List.length_cons, List.length_nil, Nat.reduceAdd, Nat.reduceSub, Array.replicate_succ, Array.replicate_zero, List.push_toArray, List.append_toArray, List.nil_append, List.cons_append]
  cases r
  · go_wp2_with (first
      | (go_at_call 16; refine (version_nil _).mono ?_; rintro e w' ⟨rfl, rfl⟩)
      | (go_at_call 58; refine (tree_nil 0 false _).mono ?_; rintro e w' ⟨rfl, rfl⟩))
    refine marks_ret (v := .int .i64 3) rfl ?_ ⟨rfl, ?_⟩
    · simp [results, Try.results74, go_sem]
    · repeat (first | exact Adds.refl _ | apply Adds.alloc)
  · go_wp2_with (first
      | (go_at_call 16; refine (version_nil _).mono ?_; rintro e w' ⟨rfl, rfl⟩)
      | (go_at_call 104; refine (isValid_any a n _).mono ?_; rintro e w1 ⟨rfl, hb⟩; obtain ⟨hc, hf⟩ := bcell hb; have hz : w.heap.size + 1 + 1 < w1.heap.size := (by have := hb.size; simp at this; omega))
      | (go_at_call 58; refine (tree_nil 0 (validB a n) _).mono ?_; rintro e w' ⟨rfl, rfl⟩))
    refine marks_ret (v := .int .i64 3) rfl ?_ ⟨rfl, ?_⟩
    · simp [results, Try.results74, go_sem, hz, third_cell hb]
    · refine Adds.set (p := ⟨w.heap.size + 1 + 1, 0, none⟩) ?_ (by show w.heap.size ≤ w.heap.size + 1 + 1; omega) _
      exact ((((Adds.refl w).alloc _).alloc _).alloc _).trans hb

set_option maxRecDepth 100000 in
set_option maxHeartbeats 1000000 in
theorem change_arg (B s : Nat) (v : Value) (bs : List Nat) (Ts : List Tree) (a n : Int) (r : Bool) (gr ga : Nat) (lr la : Array Value) (w : World) (h : StockAt B w s v bs Ts) (hr : (r && validB a n) = false) :
    Calls Try.prog 74 #[.pointer (some ⟨s, 0, none⟩), .agg #[.int .i64 a, .int .i64 n], .bool r, .func (.func gr) #[] lr, .func (.func ga) #[] la] w fun e w' => e = .returned (.int .i64 1) ∧ Adds w w' := by
  have HS := Lib.hid h
  clear h
  refine calls_marks Try.func74 rfl ?_
  simp only [Try.ntmps74, List.size_toArray, List.length_cons, List.length_nil, Nat.reduceAdd, Nat.reduceSub, Array.replicate_succ, Array.replicate_zero, List.push_toArray, List.append_toArray, List.nil_append, List.cons_append]
  cases r
  · clear hr
    go_wp2_with (first
      | (go_at_call 16; refine (version_any B s v bs Ts _ (HS.out.later (((Adds.refl w).alloc _).alloc _ |>.alloc _))).mono ?_; rintro e w' ⟨rfl, rfl⟩)
      | (go_at_call 58; refine (tree_arg B s v bs Ts bs.length _ (HS.out.later (((Adds.refl w).alloc _).alloc _ |>.alloc _)) (by omega) (by omega)).mono ?_; rintro e w' ⟨rfl, rfl⟩))
    refine marks_ret (v := .int .i64 1) rfl ?_ ⟨rfl, ?_⟩
    · simp [results, Try.results74, go_sem]
    · repeat (first | exact Adds.refl _ | apply Adds.alloc)
  · have hv : validB a n = false := by simpa using hr
    clear hr
    go_wp2_with (first
      | (go_at_call 16; refine (version_any B s v bs Ts _ (HS.out.later (((Adds.refl w).alloc _).alloc _ |>.alloc _))).mono ?_; rintro e w' ⟨rfl, rfl⟩)
      | (go_at_call 104; refine (isValid_any a n _).mono ?_; rintro e w1 ⟨rfl, hb⟩; obtain ⟨hc, hf⟩ := bcell hb; have hz : w.heap.size + 1 + 1 < w1.heap.size := (by have := hb.size; simp at this; omega))
      | (go_at_call 58; refine (tree_arg B s v bs Ts bs.length _ ((HS.out.later (((Adds.refl w).alloc _).alloc _ |>.alloc _)).later hb) (by omega) (by omega)).mono ?_; rintro e w' ⟨rfl, rfl⟩))
    refine marks_ret (v := .int .i64 1) rfl ?_ ⟨rfl, ?_⟩
    · simp [results, Try.results74, go_sem, hz, third_cell hb]
    · refine Adds.set (p := ⟨w.heap.size + 1 + 1, 0, none⟩) ?_ (by show w.heap.size ≤ w.heap.size + 1 + 1; omega) _
      exact ((((Adds.refl w).alloc _).alloc _).alloc _).trans hb

end Go.Proofs.Ytofaioabjkcaiaa
