/- Contracts of the small functions of package stock. -/
import Derived.Test.YtofaioabjkcaiaaRows
import Derived.WalkKit
import Derived.WalkSpells
import Derived.WalkLawsBesides
import Derived.BigQuiet
import Derived.Deep.QuietTactic
import Derived.Deep.RegionHeld3
import Derived.Lib.Hide
namespace Go.Proofs.Ytofaioabjkcaiaa
open Go.RowKit

/-- A world that only has new blocks. -/
abbrev Adds (w w' : World) : Prop := Below w.heap.size w w'

theorem Adds.refl (w : World) : Adds w w := Below.refl _ _
theorem Adds.trans {a b c : World} (h : Adds a b) (k : Adds b c) : Adds a c := Below.trans h (k.mono h.size)
theorem Adds.drew {a b : World} (h : Adds a b) : Adds a b.drew := Below.drew h
theorem Adds.drewN {a b : World} (h : Adds a b) (n : Nat) : Adds a (b.drewN n) := Below.trans h ⟨rfl, rfl, rfl, Nat.le_refl _, fun _ _ => rfl⟩
theorem Adds.alloc {a b : World} (h : Adds a b) (o : Obj) : Adds a (b.alloc o) := Below.alloc h h.size o
theorem Adds.set {a b : World} (h : Adds a b) {p : Addr} (hp : a.heap.size ≤ p.block) (u : Value) : Adds a (b.setCell p u) := Below.setCell h hp u

theorem ret_int {k : IntKind} {a b : Int} (h : a = b) : Ending.returned (.int k a) = .returned (.int k b) := by rw [h]
theorem ret_bool {a b : Bool} (h : a = b) : Ending.returned (.bool a) = .returned (.bool b) := by rw [h]

set_option maxHeartbeats 400000 in
theorem count_any (a b : Int) (w : World) (ha : -10000000 ≤ a) (ha' : a ≤ 10000000) (hb : -10000000 ≤ b) (hb' : b ≤ 10000000) :
    Calls Try.prog 67 #[.agg #[.int .i64 a, .int .i64 b]] w fun e w' => e = .returned (.int .i64 (b - a + 1)) ∧ Adds w w' := by
  go_enter Try.func67, Try.ntmps67
  go_wp2
  go_ret
  exact ⟨rfl, (Below.refl _ _).alloc (Nat.le_refl _) _⟩

set_option maxHeartbeats 400000 in
theorem uniform_leaf (b : Nat) (w : World) (hl : w.cell? ⟨b, 6, none⟩ = some (.pointer none)) :
    Calls Try.prog 98 #[.pointer (some ⟨b, 0, none⟩)] w fun e w' => e = .returned (.bool true) ∧ w = w' := by
  go_enter Try.func98, Try.ntmps98
  go_wp2
  go_ret
  exact ⟨rfl, rfl⟩

set_option maxHeartbeats 400000 in
theorem uniform_node (b l : Nat) (w : World) (hl : w.cell? ⟨b, 6, none⟩ = some (.pointer (some ⟨l, 0, none⟩))) :
    Calls Try.prog 98 #[.pointer (some ⟨b, 0, none⟩)] w fun e w' => e = .returned (.bool false) ∧ w = w' := by
  go_enter Try.func98, Try.ntmps98
  go_wp2
  go_ret
  exact ⟨rfl, rfl⟩

theorem ret_ends {a b c d : Int} (h : a = c) (k : b = d) : Ending.returned (.agg #[.int .i64 a, .int .i64 b]) = .returned (.agg #[.int .i64 c, .int .i64 d]) := by rw [h, k]

set_option maxHeartbeats 400000 in
theorem common_any (a b c d : Int) (w : World) :
    Calls Try.prog 114 #[.agg #[.int .i64 a, .int .i64 b], .agg #[.int .i64 c, .int .i64 d]] w fun e w' => e = .returned (.agg #[.int .i64 (max a c), .int .i64 (min b d)]) ∧ Adds w w' := by
  go_enter Try.func114, Try.ntmps114
  go_wp2
  all_goals
    refine bodyPost_ret (v := .agg #[.int .i64 (max a c), .int .i64 (min b d)]) ?_ rfl ⟨rfl, (((Below.refl _ _).alloc (Nat.le_refl _) _).alloc (by simp) _).alloc (by simp; omega) _⟩
    simp [results, Try.results114, go_sem]
    omega

/-- From 1 to m. -/
def inB (m n : Int) : Bool := decide (1 ≤ n ∧ n ≤ m)

set_option maxHeartbeats 400000 in
theorem isPocket_any (n : Int) (w : World) :
    Calls Try.prog 59 #[.int .i64 n] w fun e w' => e = .returned (.bool (inB 1000000 n)) ∧ w = w' := by
  go_enter Try.func59, Try.ntmps59
  go_wp2
  all_goals
    go_ret
    exact ⟨ret_bool (by unfold inB; simp <;> omega), rfl⟩

set_option maxHeartbeats 400000 in
theorem isLot_any (n : Int) (w : World) :
    Calls Try.prog 65 #[.int .i64 n] w fun e w' => e = .returned (.bool (inB 1000000 n)) ∧ w = w' := by
  go_enter Try.func65, Try.ntmps65
  go_wp2
  all_goals
    go_ret
    exact ⟨ret_bool (by unfold inB; simp <;> omega), rfl⟩

set_option maxHeartbeats 400000 in
theorem endsOf_any (a n : Int) (w : World) (ha : -10000000 ≤ a) (ha' : a ≤ 10000000) (hb : -10000000 ≤ n) (hb' : n ≤ 10000000) :
    Calls Try.prog 105 #[.agg #[.int .i64 a, .int .i64 n]] w fun e w' => e = .returned (.agg #[.int .i64 a, .int .i64 (a + n - 1)]) ∧ Adds w w' := by
  go_enter Try.func105, Try.ntmps105
  go_wp2
  refine bodyPost_ret (v := .agg #[.int .i64 a, .int .i64 (a + n - 1)]) ?_ rfl ⟨rfl, ?_⟩
  · simp [results, Try.results105, go_sem]
  · repeat (first | exact Below.refl _ _ | refine Below.alloc ?_ (by simp) _)

set_option maxHeartbeats 400000 in
theorem version_nil (w : World) : Calls Try.prog 16 #[.pointer none] w fun e w' => e = .returned (.int .i64 0) ∧ w = w' := by
  go_enter Try.func16, Try.ntmps16
  go_wp2
  go_ret
  exact ⟨rfl, rfl⟩

end Go.Proofs.Ytofaioabjkcaiaa
