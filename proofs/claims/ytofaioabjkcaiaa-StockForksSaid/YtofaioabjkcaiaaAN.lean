/- Pocket of a register: the state of one pocket at a version, or the error. -/
import Derived.Test.YtofaioabjkcaiaaP
import Derived.Test.YtofaioabjkcaiaaF
namespace Go.Proofs.Ytofaioabjkcaiaa
open Go.RowKit

theorem inB_iff {M n : Int} : inB M n = true ↔ 1 ≤ n ∧ n ≤ M := by simp [inB]

set_option maxHeartbeats 1000000 in
theorem Pocket_ok (B s : Nat) (v : Value) (bs : List Nat) (Ts : List Tree) (n : Int) (ver : Nat) (w : World) (hS : StockAt B w s v bs Ts) (hver : ver ≤ bs.length) (hn : inB 1000000 n = true) :
    Calls Try.prog 21 #[.pointer (some ⟨s, 0, none⟩), .int .i64 n, .int .i64 ver] w fun e w' => e = .returned (.tuple #[((treeOf Ts ver).look n).val, .int .i64 0]) ∧ Adds w w' := by
  have HS := Lib.hid hS
  have HN := Lib.hid hn
  have HV := Lib.hid hver
  clear hS hver
  go_enter Try.func21, Try.ntmps21
  go_wp2_with (first
    | (go_at_call 59; refine (isPocket_any n _).mono ?_; rintro e w' ⟨rfl, rfl⟩; simp only [hn])
    | (go_at_call 58; refine (tree_any B s v bs Ts ver _ (by exact HS.out.later (by repeat (first | exact Adds.refl _ | apply Adds.alloc))) HV.out).mono ?_; rintro e w1 ⟨b, rfl, ht, hok, hb⟩; have HT := Lib.hid ht; have HO := Lib.hid hok; clear ht hok)
    | (go_at_call 60; refine (at_any n _ b 1 1000000 _ HT.out.tree HO.out (inB_iff.1 HN.out).1 (inB_iff.1 HN.out).2).mono ?_; rintro e w2 ⟨rfl, hb2⟩
       have X := ((Box.new w #[.int .i64 0, .int .i64 0, .int .i64 0, .int .i64 0] 44).later hb).later hb2
       have c0 := X.cell 0
       have c1 := X.cell 1
       have c2 := X.cell 2
       have c3 := X.cell 3
       have f0 := X.free 0
       have f1 := X.free 1
       have f2 := X.free 2
       have f3 := X.free 3
       simp only [List.getElem?_toArray, List.getElem?_cons_zero, List.getElem?_cons_succ] at c0 c1 c2 c3
       clear X))
  refine bodyPost_ret (v := .tuple #[((treeOf Ts ver).look n).val, .int .i64 0]) ?_ rfl ⟨rfl, ?_⟩
  · simp [results, Try.results21, go_sem, c0, c1, c2, c3, Pk.val]
  · have hb3 : Adds w w2 := (((Adds.refl w).alloc _).trans hb).trans hb2
    exact (((hb3.set (Nat.le_refl _) _).set (Nat.le_refl _) _).set (Nat.le_refl _) _).set (Nat.le_refl _) _

set_option maxHeartbeats 1000000 in
theorem Pocket_arg (B s : Nat) (v : Value) (bs : List Nat) (Ts : List Tree) (n : Int) (ver : Nat) (w : World) (hS : StockAt B w s v bs Ts) (hver : ver ≤ bs.length) (hn : inB 1000000 n = false) :
    Calls Try.prog 21 #[.pointer (some ⟨s, 0, none⟩), .int .i64 n, .int .i64 ver] w fun e w' => e = .returned (.tuple #[pk0.val, .int .i64 1]) ∧ Adds w w' := by
  have HS := Lib.hid hS
  have HV := Lib.hid hver
  clear hS hver
  go_enter Try.func21, Try.ntmps21
  go_wp2_with (first
    | (go_at_call 59; refine (isPocket_any n _).mono ?_; rintro e w' ⟨rfl, rfl⟩; simp only [hn])
    | (go_at_call 58; refine (tree_arg B s v bs Ts ver _ (by exact HS.out.later (by repeat (first | exact Adds.refl _ | apply Adds.alloc))) (by omega) (by have := HV.out; omega)).mono ?_; rintro e w1 ⟨rfl, rfl⟩))
  refine bodyPost_ret (v := .tuple #[pk0.val, .int .i64 1]) ?_ rfl ⟨rfl, (Adds.refl w).alloc _⟩
  · simp [results, Try.results21, go_sem, pk0, Pk.val]

set_option maxHeartbeats 1000000 in
theorem Pocket_none (B s : Nat) (v : Value) (bs : List Nat) (Ts : List Tree) (n ver : Int) (w : World) (hS : StockAt B w s v bs Ts) (hver : ver < 0 ∨ bs.length < ver) :
    Calls Try.prog 21 #[.pointer (some ⟨s, 0, none⟩), .int .i64 n, .int .i64 ver] w fun e w' => e = .returned (.tuple #[pk0.val, .int .i64 4]) ∧ Adds w w' := by
  have HS := Lib.hid hS
  have HV := Lib.hid hver
  clear hS hver
  go_enter Try.func21, Try.ntmps21
  go_wp2_with (first
    | (go_at_call 59; refine (isPocket_any n _).mono ?_; rintro e w' ⟨rfl, rfl⟩)
    | (go_at_call 58; refine (tree_none B s v bs Ts ver (inB 1000000 n) _ (by exact HS.out.later (by repeat (first | exact Adds.refl _ | apply Adds.alloc))) HV.out).mono ?_; rintro e w1 ⟨rfl, rfl⟩))
  refine bodyPost_ret (v := .tuple #[pk0.val, .int .i64 4]) ?_ rfl ⟨rfl, (Adds.refl w).alloc _⟩
  · simp [results, Try.results21, go_sem, pk0, Pk.val]

end Go.Proofs.Ytofaioabjkcaiaa
