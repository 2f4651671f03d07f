/- Basic notions, and the contracts of the small functions of package call and its reference. -/
import Derived.Test.YtigpghmbeldakaaRows
import Derived.WalkKit
import Derived.WalkSpells
import Derived.WalkLawsBesides
import Derived.BigQuiet
import Derived.Deep.QuietTactic
import Derived.Deep.RegionHeld3
import Derived.Lib.Hide
import Derived.OwnWalk
import Derived.RangeFuncRecord
namespace Go.Proofs.Ytigpghmbeldakaa
open Go.RowKit

/-- A world that only has new blocks. -/
abbrev Adds (w w' : World) : Prop := Below w.heap.size w w'

theorem Adds.refl (w : World) : Adds w w := Below.refl _ _
theorem Adds.trans {a b c : World} (h : Adds a b) (k : Adds b c) : Adds a c := Below.trans h (k.mono h.size)
theorem Adds.drew {a b : World} (h : Adds a b) : Adds a b.drew := Below.drew h
theorem Adds.drewN {a b : World} (h : Adds a b) (n : Nat) : Adds a (b.drewN n) := Below.trans h ⟨rfl, rfl, rfl, Nat.le_refl _, fun _ _ => rfl⟩
theorem Adds.alloc {a b : World} (h : Adds a b) (o : Obj) : Adds a (b.alloc o) := Below.alloc h h.size o
theorem Adds.set {a b : World} (h : Adds a b) {p : Addr} (hp : a.heap.size ≤ p.block) (u : Value) : Adds a (b.setCell p u) := Below.setCell h hp u

theorem ret_int {k : IntKind} {a b : Int} (h : a = b) : Ending.returned (.int k a) = .returned (.int k b) := by rw [h]
theorem ret_bool {a b : Bool} (h : a = b) : Ending.returned (.bool a) = .returned (.bool b) := by rw [h]

theorem cell_lt {w : World} {b o : Nat} {v : Value} (h : w.cell? ⟨b, o, none⟩ = some v) : b < w.heap.size := World.block_lt_of_cell? w _ h
theorem keep_cell {w w' : World} (hb : Adds w w') {b o : Nat} {v : Value} (h : w.cell? ⟨b, o, none⟩ = some v) : w'.cell? ⟨b, o, none⟩ = some v :=
  (hb.cell (p := ⟨b, o, none⟩) (cell_lt h)).trans h
theorem keep_free {w w' : World} (hb : Adds w w') {b o : Nat} {v : Value} (h : w.cell? ⟨b, o, none⟩ = some v) (hf : w.frozen? ⟨b, o, none⟩ = false) : w'.frozen? ⟨b, o, none⟩ = false :=
  (hb.frozen (p := ⟨b, o, none⟩) (cell_lt h)).trans hf

/-- A block of cells that may be written. -/
def Box (w : World) (b : Nat) (vs : Array Value) (t : TypeId) : Prop := w.heap[b]? = some (.cells vs t (0, 0))

theorem Box.lt {w : World} {b : Nat} {vs : Array Value} {t : TypeId} (h : Box w b vs t) : b < w.heap.size := (Array.getElem?_eq_some_iff.1 h).1
theorem Box.cell {w : World} {b : Nat} {vs : Array Value} {t : TypeId} (h : Box w b vs t) (i : Nat) : w.cell? ⟨b, i, none⟩ = vs[i]? := by
  unfold Box at h
  simp [World.cell?, h]
theorem Box.free {w : World} {b : Nat} {vs : Array Value} {t : TypeId} (h : Box w b vs t) (i : Nat) : w.frozen? ⟨b, i, none⟩ = false := by
  unfold Box at h
  simp [World.frozen?, h]
theorem Box.alloc {w : World} {b : Nat} {vs : Array Value} {t : TypeId} (h : Box w b vs t) (o : Obj) : Box (w.alloc o) b vs t := (Below.heap_alloc w o b h.lt).trans h
theorem Box.far {w : World} {b : Nat} {vs : Array Value} {t : TypeId} (h : Box w b vs t) {p : Addr} (hp : b ≠ p.block) (u : Value) : Box (w.setCell p u) b vs t := (Below.heap_setCell w p u b hp).trans h
theorem Box.set {w : World} {b : Nat} {vs : Array Value} {t : TypeId} (h : Box w b vs t) (i : Nat) (u : Value) : Box (w.setCell ⟨b, i, none⟩ u) b (vs.setIfInBounds i u) t := by
  unfold Box at h ⊢
  have hlt := (Array.getElem?_eq_some_iff.1 h).1
  have he := (Array.getElem?_eq_some_iff.1 h).2
  simp [World.setCell, Array.getElem?_modify, h]
theorem Box.same {w w' : World} {b : Nat} {vs : Array Value} {t : TypeId} (h : Box w b vs t) (e : w'.heap[b]? = w.heap[b]?) : Box w' b vs t := e.trans h
theorem Box.later {w w' : World} {b : Nat} {vs : Array Value} {t : TypeId} (h : Box w b vs t) (e : Adds w w') : Box w' b vs t := (e.block b h.lt).trans h
theorem Box.new (w : World) (vs : Array Value) (t : TypeId) : Box (w.alloc (.cells vs t)) w.heap.size vs t := World.alloc_heap_new w _
theorem Box.drew {w : World} {b : Nat} {vs : Array Value} {t : TypeId} (h : Box w b vs t) : Box w.drew b vs t := h

/-- Nothing that was there turns, but blocks in O. -/
structure Touch (O : Nat → Prop) (w w' : World) : Prop where
  os : w'.os = w.os
  tape : w'.tape = w.tape
  output : w'.output = w.output
  size : w.heap.size ≤ w'.heap.size
  same : ∀ k, k < w.heap.size → ¬ O k → w'.heap[k]? = w.heap[k]?

theorem Touch.of_adds {w w' : World} (h : Adds w w') (O : Nat → Prop) : Touch O w w' := ⟨h.os, h.tape, h.output, h.size, fun k hk _ => h.block k hk⟩
theorem Touch.refl (O : Nat → Prop) (w : World) : Touch O w w := .of_adds (Adds.refl w) O
theorem Touch.trans {O : Nat → Prop} {a b c : World} (h : Touch O a b) (k : Touch O b c) : Touch O a c :=
  ⟨k.os.trans h.os, k.tape.trans h.tape, k.output.trans h.output, Nat.le_trans h.size k.size, fun i hi ho => (k.same i (Nat.lt_of_lt_of_le hi h.size) ho).trans (h.same i hi ho)⟩
theorem Touch.adds {O : Nat → Prop} {a b c : World} (h : Adds a b) (k : Touch O b c) (hO : ∀ i, O i → a.heap.size ≤ i) : Adds a c :=
  ⟨k.os.trans h.os, k.tape.trans h.tape, k.output.trans h.output, Nat.le_trans h.size k.size, fun i hi => (k.same i (Nat.lt_of_lt_of_le hi h.size) (fun ho => by have := hO i ho; omega)).trans (h.block i hi)⟩
theorem Touch.set {O : Nat → Prop} {a b : World} (h : Touch O a b) {p : Addr} (hp : O p.block) (u : Value) : Touch O a (b.setCell p u) :=
  ⟨h.os, h.tape, h.output, by have := h.size; simp [World.setCell]; exact this, fun k hk hn => (Below.heap_setCell _ _ _ _ (fun e => hn (by rw [e]; exact hp))).trans (h.same k hk hn)⟩
theorem Touch.behind {O : Nat → Prop} {a b c : World} (k : Touch O a b) (h : Adds b c) : Touch O a c :=
  ⟨h.os.trans k.os, h.tape.trans k.tape, h.output.trans k.output, Nat.le_trans k.size h.size, fun i hi ho => (h.block i (Nat.lt_of_lt_of_le hi k.size)).trans (k.same i hi ho)⟩
theorem touch_cell {O : Nat → Prop} {w w' : World} (h : Touch O w w') {b o : Nat} {v : Value} (hn : ¬ O b) (hc : w.cell? ⟨b, o, none⟩ = some v) : w'.cell? ⟨b, o, none⟩ = some v :=
  (World.cell?_of_block (w := w) (a := ⟨b, o, none⟩) (h.same b (cell_lt hc) hn)).trans hc

/-- A bid: its side, its price, its quantity. -/
abbrev Bd := Int × Int × Int
/-- A spot: its price, the demand, the supply. -/
abbrev Sp := Int × Int × Int
/-- Three numbers as cells. -/
def enc3 (x : Int × Int × Int) : List Value := [.int .i64 x.1, .int .i64 x.2.1, .int .i64 x.2.2]
/-- Three numbers as a value. -/
abbrev agg3 (x : Int × Int × Int) : Value := .agg #[.int .i64 x.1, .int .i64 x.2.1, .int .i64 x.2.2]

/-- From 1 to m. -/
def inB (m n : Int) : Bool := decide (1 ≤ n ∧ n ≤ m)

set_option maxHeartbeats 400000 in
theorem isPrice_any (n : Int) (w : World) :
    Calls Try.prog 42 #[.int .i64 n] w fun e w' => e = .returned (.bool (inB 1000000 n)) ∧ w = w' := by
  go_enter Try.func42, Try.ntmps42
  go_wp2
  all_goals
    go_ret
    exact ⟨ret_bool (by unfold inB; simp <;> omega), rfl⟩

/-- A valid bid. -/
def okB (b : Bd) : Bool := decide ((b.1 = 1 ∨ b.1 = 2) ∧ (1 ≤ b.2.1 ∧ b.2.1 ≤ 1000000) ∧ 1 ≤ b.2.2 ∧ b.2.2 ≤ 1000000000)

theorem inB_iff {m n : Int} : inB m n = true ↔ 1 ≤ n ∧ n ≤ m := by simp [inB]
theorem okB_iff {b : Bd} : okB b = true ↔ (b.1 = 1 ∨ b.1 = 2) ∧ (1 ≤ b.2.1 ∧ b.2.1 ≤ 1000000) ∧ 1 ≤ b.2.2 ∧ b.2.2 ≤ 1000000000 := by simp [okB]

set_option maxHeartbeats 1000000 in
theorem wrong_any (s p q : Int) (w : World) :
    Calls Try.prog 41 #[.agg #[.int .i64 s, .int .i64 p, .int .i64 q]] w fun e w' => e = .returned (.bool (!okB (s, p, q))) ∧ Adds w w' := by
  have h0 : ∀ W, Calls Try.prog 42 #[.int .i64 p] W fun e w' => e = .returned (.bool (inB 1000000 p)) ∧ W = w' := fun W => isPrice_any p W
  cases hp : inB 1000000 p with
  | true =>
    rw [hp] at h0
    have HP := Lib.hid (inB_iff.1 hp)
    clear hp
    go_enter Try.func41, Try.ntmps41
    go_wp2_with (go_at_call 42; refine (h0 _).mono ?_; rintro e w' ⟨rfl, rfl⟩)
    all_goals
      go_ret
      exact ⟨ret_bool (by have := HP.out; rw [Bool.eq_iff_iff]; simp [okB]; try omega), (Adds.refl _).alloc _⟩
  | false =>
    rw [hp] at h0
    have HP := Lib.hid (show ¬ (1 ≤ p ∧ p ≤ 1000000) from fun h => by rw [inB_iff.2 h] at hp; cases hp)
    clear hp
    go_enter Try.func41, Try.ntmps41
    go_wp2_with (go_at_call 42; refine (h0 _).mono ?_; rintro e w' ⟨rfl, rfl⟩)
    all_goals
      go_ret
      exact ⟨ret_bool (by have := HP.out; rw [Bool.eq_iff_iff]; simp [okB]; try omega), (Adds.refl _).alloc _⟩

set_option maxHeartbeats 1000000 in
theorem Valid_any (s p q : Int) (w : World) :
    Calls Try.prog 39 #[.agg #[.int .i64 s, .int .i64 p, .int .i64 q]] w fun e w' => e = .returned (.bool (okB (s, p, q))) ∧ Adds w w' := by
  go_enter Try.func39, Try.ntmps39
  go_wp2
  all_goals
    go_ret
    exact ⟨ret_bool (by rw [Bool.eq_iff_iff]; simp [okB]; try omega), (Adds.refl _).alloc _⟩

/-- A bid takes part at a price. -/
def takesB (b : Bd) (p : Int) : Bool := if b.1 = 1 then decide (p ≤ b.2.1) else decide (b.2.1 ≤ p)

set_option maxHeartbeats 400000 in
theorem takes_any (s p q x : Int) (w : World) :
    Calls Try.prog 57 #[.agg #[.int .i64 s, .int .i64 p, .int .i64 q], .int .i64 x] w fun e w' => e = .returned (.bool (takesB (s, p, q) x)) ∧ Adds w w' := by
  go_enter Try.func57, Try.ntmps57
  go_wp2
  all_goals
    go_ret
    exact ⟨ret_bool (by simp_all [takesB]), (Adds.refl _).alloc _⟩

set_option maxHeartbeats 400000 in
theorem volume_any (p d s : Int) (w : World) :
    Calls Try.prog 47 #[.agg #[.int .i64 p, .int .i64 d, .int .i64 s]] w fun e w' => e = .returned (.int .i64 (min d s)) ∧ Adds w w' := by
  go_enter Try.func47, Try.ntmps47
  go_wp2
  all_goals
    go_ret
    exact ⟨ret_int (by omega), (Adds.refl _).alloc _⟩

set_option maxHeartbeats 400000 in
theorem missed_any (p d s : Int) (w : World) (hd : 0 ≤ d) (hs : 0 ≤ s) (hd' : d ≤ 10000000000000) (hs' : s ≤ 10000000000000) :
    Calls Try.prog 46 #[.agg #[.int .i64 p, .int .i64 d, .int .i64 s]] w fun e w' => e = .returned (.int .i64 (-(min d s))) ∧ Adds w w' := by
  obtain ⟨m, hm⟩ : ∃ m, m = min d s := ⟨_, rfl⟩
  have hm0 : 0 ≤ m := by omega
  have hm1 : m ≤ 10000000000000 := by omega
  have hc : ∀ W, Calls Try.prog 47 #[.agg #[.int .i64 p, .int .i64 d, .int .i64 s]] W fun e w' => e = .returned (.int .i64 m) ∧ Adds W w' := fun W => by rw [hm]; exact volume_any p d s W
  rw [← hm]
  clear hm
  go_enter Try.func46, Try.ntmps46
  go_wp2_with (go_at_call 47; refine (hc _).mono ?_; rintro e w1 ⟨rfl, hb⟩)
  all_goals
    go_ret
    exact ⟨ret_int (by omega), ((Adds.refl _).alloc _).trans hb⟩

set_option maxHeartbeats 400000 in
theorem surplus_any (p d s : Int) (w : World) (hd : 0 ≤ d) (hs : 0 ≤ s) (hd' : d ≤ 10000000000000) (hs' : s ≤ 10000000000000) :
    Calls Try.prog 69 #[.agg #[.int .i64 p, .int .i64 d, .int .i64 s]] w fun e w' => e = .returned (.int .i64 (d - s)) ∧ Adds w w' := by
  go_enter Try.func69, Try.ntmps69
  go_wp2
  all_goals
    go_ret
    exact ⟨ret_int (by omega), (Adds.refl _).alloc _⟩

set_option maxHeartbeats 400000 in
theorem abs_any (n : Int) (w : World) (hd : -10000000000000 ≤ n) (hd' : n ≤ 10000000000000) :
    Calls Try.prog 68 #[.int .i64 n] w fun e w' => e = .returned (.int .i64 (max n (-n))) ∧ w = w' := by
  go_enter Try.func68, Try.ntmps68
  go_wp2
  all_goals
    go_ret
    exact ⟨ret_int (by omega), rfl⟩

set_option maxHeartbeats 400000 in
theorem size_any (n : Int) (w : World) (hd : -10000000000000 ≤ n) (hd' : n ≤ 10000000000000) :
    Calls Try.prog 51 #[.int .i64 n] w fun e w' => e = .returned (.int .i64 (max n (-n))) ∧ w = w' := by
  go_enter Try.func51, Try.ntmps51
  go_wp2
  all_goals
    go_ret
    exact ⟨ret_int (by omega), rfl⟩

/-- What cmp.Compare returns. -/
def cmpT (a b : Int) : Int := if a < b then -1 else if b < a then 1 else 0

set_option maxHeartbeats 400000 in
theorem nan_i (n : Int) (w : World) : Calls Try.prog 82 #[.int .i64 n] w fun e w' => e = .returned (.bool false) ∧ w = w' := by
  go_enter Try.func82, Try.ntmps82
  go_wp2
  go_ret
  exact ⟨rfl, rfl⟩

set_option maxHeartbeats 400000 in
theorem nan_u (n : Int) (w : World) : Calls Try.prog 95 #[.int .u64 n] w fun e w' => e = .returned (.bool false) ∧ w = w' := by
  go_enter Try.func95, Try.ntmps95
  go_wp2
  go_ret
  exact ⟨rfl, rfl⟩

set_option maxHeartbeats 400000 in
theorem cmp_i (a b : Int) (w : World) : Calls Try.prog 60 #[.int .i64 a, .int .i64 b] w fun e w' => e = .returned (.int .i64 (cmpT a b)) ∧ w = w' := by
  go_enter Try.func60, Try.ntmps60
  go_wp2_with (go_at_call 82; refine (nan_i _ _).mono ?_; rintro e w1 ⟨rfl, rfl⟩)
  all_goals
    go_ret
    exact ⟨ret_int (by unfold cmpT; (repeat split) <;> first | rfl | omega), rfl⟩

set_option maxHeartbeats 400000 in
theorem cmp_u (a b : Int) (w : World) : Calls Try.prog 81 #[.int .u64 a, .int .u64 b] w fun e w' => e = .returned (.int .i64 (cmpT a b)) ∧ w = w' := by
  go_enter Try.func81, Try.ntmps81
  go_wp2_with (go_at_call 95; refine (nan_u _ _).mono ?_; rintro e w1 ⟨rfl, rfl⟩)
  all_goals
    go_ret
    exact ⟨ret_int (by unfold cmpT; (repeat split) <;> first | rfl | omega), rfl⟩

end Go.Proofs.Ytigpghmbeldakaa
