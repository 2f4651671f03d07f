/- Basic notions: worlds, blocks, rows of numbers. -/
import Derived.Test.YtkofnhimgegcnaaRows
import Derived.WalkKit
import Derived.WalkSpells
import Derived.WalkLawsBesides
import Derived.BigQuiet
import Derived.Deep.QuietTactic
import Derived.Deep.RegionHeld3
import Derived.Lib.Hide
import Derived.OwnWalk
import Derived.RangeFuncRecord
namespace Go.Proofs.Ytkofnhimgegcnaa
open Go.RowKit

/-- A world that only has new blocks. -/
abbrev Adds (w w' : World) : Prop := Below w.heap.size w w'

theorem Adds.refl (w : World) : Adds w w := Below.refl _ _
theorem Adds.trans {a b c : World} (h : Adds a b) (k : Adds b c) : Adds a c := Below.trans h (k.mono h.size)
theorem Adds.drew {a b : World} (h : Adds a b) : Adds a b.drew := Below.drew h
theorem Adds.drewN {a b : World} (h : Adds a b) (n : Nat) : Adds a (b.drewN n) := Below.trans h ⟨rfl, rfl, rfl, Nat.le_refl _, fun _ _ => rfl⟩
theorem Adds.alloc {a b : World} (h : Adds a b) (o : Obj) : Adds a (b.alloc o) := Below.alloc h h.size o
theorem Adds.set {a b : World} (h : Adds a b) {p : Addr} (hp : a.heap.size ≤ p.block) (u : Value) : Adds a (b.setCell p u) := Below.setCell h hp u

theorem ret_int {k : IntKind} {a b : Int} (h : a = b) : Ending.returned (.int k a) = .returned (.int k b) := by rw [h]
theorem ret_bool {a b : Bool} (h : a = b) : Ending.returned (.bool a) = .returned (.bool b) := by rw [h]

theorem cell_lt {w : World} {b o : Nat} {v : Value} (h : w.cell? ⟨b, o, none⟩ = some v) : b < w.heap.size := World.block_lt_of_cell? w _ h
theorem keep_cell {w w' : World} (hb : Adds w w') {b o : Nat} {v : Value} (h : w.cell? ⟨b, o, none⟩ = some v) : w'.cell? ⟨b, o, none⟩ = some v :=
  (hb.cell (p := ⟨b, o, none⟩) (cell_lt h)).trans h
theorem keep_free {w w' : World} (hb : Adds w w') {b o : Nat} {v : Value} (h : w.cell? ⟨b, o, none⟩ = some v) (hf : w.frozen? ⟨b, o, none⟩ = false) : w'.frozen? ⟨b, o, none⟩ = false :=
  (hb.frozen (p := ⟨b, o, none⟩) (cell_lt h)).trans hf

/-- A block of cells that may be written. -/
def Box (w : World) (b : Nat) (vs : Array Value) (t : TypeId) : Prop := w.heap[b]? = some (.cells vs t (0, 0))

theorem Box.lt {w : World} {b : Nat} {vs : Array Value} {t : TypeId} (h : Box w b vs t) : b < w.heap.size := (Array.getElem?_eq_some_iff.1 h).1
theorem Box.cell {w : World} {b : Nat} {vs : Array Value} {t : TypeId} (h : Box w b vs t) (i : Nat) : w.cell? ⟨b, i, none⟩ = vs[i]? := by
  unfold Box at h
  simp [World.cell?, h]
theorem Box.free {w : World} {b : Nat} {vs : Array Value} {t : TypeId} (h : Box w b vs t) (i : Nat) : w.frozen? ⟨b, i, none⟩ = false := by
  unfold Box at h
  simp [World.frozen?, h]
theorem Box.alloc {w : World} {b : Nat} {vs : Array Value} {t : TypeId} (h : Box w b vs t) (o : Obj) : Box (w.alloc o) b vs t := (Below.heap_alloc w o b h.lt).trans h
theorem Box.far {w : World} {b : Nat} {vs : Array Value} {t : TypeId} (h : Box w b vs t) {p : Addr} (hp : b ≠ p.block) (u : Value) : Box (w.setCell p u) b vs t := (Below.heap_setCell w p u b hp).trans h
theorem Box.set {w : World} {b : Nat} {vs : Array Value} {t : TypeId} (h : Box w b vs t) (i : Nat) (u : Value) : Box (w.setCell ⟨b, i, none⟩ u) b (vs.setIfInBounds i u) t := by
  unfold Box at h ⊢
  have hlt := (Array.getElem?_eq_some_iff.1 h).1
  have he := (Array.getElem?_eq_some_iff.1 h).2
  simp [World.setCell, Array.getElem?_modify, h]
theorem Box.same {w w' : World} {b : Nat} {vs : Array Value} {t : TypeId} (h : Box w b vs t) (e : w'.heap[b]? = w.heap[b]?) : Box w' b vs t := e.trans h
theorem Box.later {w w' : World} {b : Nat} {vs : Array Value} {t : TypeId} (h : Box w b vs t) (e : Adds w w') : Box w' b vs t := (e.block b h.lt).trans h
theorem Box.new (w : World) (vs : Array Value) (t : TypeId) : Box (w.alloc (.cells vs t)) w.heap.size vs t := World.alloc_heap_new w _
theorem Box.drew {w : World} {b : Nat} {vs : Array Value} {t : TypeId} (h : Box w b vs t) : Box w.drew b vs t := h

/-- Nothing that was there turns, but blocks in O. -/
structure Touch (O : Nat → Prop) (w w' : World) : Prop where
  os : w'.os = w.os
  tape : w'.tape = w.tape
  output : w'.output = w.output
  size : w.heap.size ≤ w'.heap.size
  same : ∀ k, k < w.heap.size → ¬ O k → w'.heap[k]? = w.heap[k]?

theorem Touch.of_adds {w w' : World} (h : Adds w w') (O : Nat → Prop) : Touch O w w' := ⟨h.os, h.tape, h.output, h.size, fun k hk _ => h.block k hk⟩
theorem Touch.refl (O : Nat → Prop) (w : World) : Touch O w w := .of_adds (Adds.refl w) O
theorem Touch.trans {O : Nat → Prop} {a b c : World} (h : Touch O a b) (k : Touch O b c) : Touch O a c :=
  ⟨k.os.trans h.os, k.tape.trans h.tape, k.output.trans h.output, Nat.le_trans h.size k.size, fun i hi ho => (k.same i (Nat.lt_of_lt_of_le hi h.size) ho).trans (h.same i hi ho)⟩
theorem Touch.adds {O : Nat → Prop} {a b c : World} (h : Adds a b) (k : Touch O b c) (hO : ∀ i, O i → a.heap.size ≤ i) : Adds a c :=
  ⟨k.os.trans h.os, k.tape.trans h.tape, k.output.trans h.output, Nat.le_trans h.size k.size, fun i hi => (k.same i (Nat.lt_of_lt_of_le hi h.size) (fun ho => by have := hO i ho; omega)).trans (h.block i hi)⟩
theorem Touch.set {O : Nat → Prop} {a b : World} (h : Touch O a b) {p : Addr} (hp : O p.block) (u : Value) : Touch O a (b.setCell p u) :=
  ⟨h.os, h.tape, h.output, by have := h.size; simp [World.setCell]; exact this, fun k hk hn => (Below.heap_setCell _ _ _ _ (fun e => hn (by rw [e]; exact hp))).trans (h.same k hk hn)⟩
theorem Touch.behind {O : Nat → Prop} {a b c : World} (k : Touch O a b) (h : Adds b c) : Touch O a c :=
  ⟨h.os.trans k.os, h.tape.trans k.tape, h.output.trans k.output, Nat.le_trans k.size h.size, fun i hi ho => (h.block i (Nat.lt_of_lt_of_le hi k.size)).trans (k.same i hi ho)⟩
theorem touch_cell {O : Nat → Prop} {w w' : World} (h : Touch O w w') {b o : Nat} {v : Value} (hn : ¬ O b) (hc : w.cell? ⟨b, o, none⟩ = some v) : w'.cell? ⟨b, o, none⟩ = some v :=
  (World.cell?_of_block (w := w) (a := ⟨b, o, none⟩) (h.same b (cell_lt hc) hn)).trans hc

/-- A row of numbers in a block that the call has made. -/
def RowI (t : TypeId) (k : IntKind) (w : World) (g cap : Nat) (l : List Int) : Prop :=
  ∃ cur : Array Value, w.heap[g]? = some (.cells cur t (0, 0)) ∧ cur.size = cap ∧ l.length ≤ cap ∧ cap ≤ maxLen ∧ cur.toList.take l.length = l.map (Value.int k)

section
variable {t : TypeId} {k : IntKind} {w w' : World} {g cap : Nat} {l : List Int}

theorem RowI.lt (h : RowI t k w g cap l) : g < w.heap.size := by
  obtain ⟨cur, hg, _⟩ := h
  exact (Array.getElem?_eq_some_iff.1 hg).1
theorem RowI.free (h : RowI t k w g cap l) (o : Nat) : w.frozen? ⟨g, o, none⟩ = false := by
  obtain ⟨cur, hg, _⟩ := h
  simp [World.frozen?, hg]
theorem RowI.same (h : RowI t k w g cap l) (e : w'.heap[g]? = w.heap[g]?) : RowI t k w' g cap l := by
  obtain ⟨cur, hg, r⟩ := h
  exact ⟨cur, e.trans hg, r⟩
theorem RowI.later (h : RowI t k w g cap l) (hb : Adds w w') : RowI t k w' g cap l := h.same (hb.block g h.lt)
theorem RowI.touch {O : Nat → Prop} (h : RowI t k w g cap l) (hb : Touch O w w') (hn : ¬ O g) : RowI t k w' g cap l := h.same (hb.same g h.lt hn)
theorem RowI.far (h : RowI t k w g cap l) {p : Addr} (hp : g ≠ p.block) (u : Value) : RowI t k (w.setCell p u) g cap l := h.same (Below.heap_setCell w p u g hp)
theorem RowI.len (h : RowI t k w g cap l) : l.length ≤ cap ∧ cap ≤ maxLen := by
  obtain ⟨cur, _, _, h1, h2, _⟩ := h
  exact ⟨h1, h2⟩
theorem RowI.cell (h : RowI t k w g cap l) {j : Nat} {x : Int} (hj : l[j]? = some x) : w.cell? ⟨g, j, none⟩ = some (.int k x) := by
  obtain ⟨cur, hg, hs, hl, hm, ht⟩ := h
  have hlt := (List.getElem?_eq_some_iff.1 hj).1
  have : (cur.toList.take l.length)[j]? = some (.int k x) := by rw [ht, List.getElem?_map, hj]; rfl
  rw [List.getElem?_take, if_pos hlt] at this
  have : cur[j]? = some (.int k x) := by simpa using this
  simp [World.cell?, hg, this]
theorem RowI.own {base : Nat} (h : RowI t k w g cap l) (hb : base ≤ g) : w.ownsRow base t 1 (.slice (some ⟨g, 0, none⟩) l.length cap) l.length (l.map (Value.int k)) := by
  obtain ⟨cur, hg, hs, hl, hm, ht⟩ := h
  exact ⟨by simp, Or.inr ⟨g, cap, cur, rfl, hb, hg, hl, hm, by omega, by rw [Nat.mul_one]; exact ht⟩⟩
theorem own_rowI {base n : Nat} {v : Value} (h : w.ownsRow base t 1 v n (l.map (Value.int k))) :
    n = l.length ∧ ((v = .slice none 0 0 ∧ l = []) ∨ ∃ g cap, v = .slice (some ⟨g, 0, none⟩) l.length cap ∧ base ≤ g ∧ RowI t k w g cap l) := by
  obtain ⟨h1, h2⟩ := h
  rw [List.length_map] at h1
  have hn : n = l.length := by omega
  subst hn
  refine ⟨rfl, ?_⟩
  rcases h2 with ⟨hv, hz⟩ | ⟨g, cap, cur, hv, hb, hg, hl, hm, hs, ht⟩
  · exact Or.inl ⟨hv, List.length_eq_zero_iff.1 hz⟩
  · exact Or.inr ⟨g, cap, hv, hb, cur, hg, by omega, hl, hm, by rw [Nat.mul_one] at ht; exact ht⟩
theorem RowI.put (h : RowI t k w g cap l) (j : Nat) (x : Int) : RowI t k (w.setCell ⟨g, j, none⟩ (.int k x)) g cap (l.set j x) := by
  obtain ⟨cur, hg, hs, hl, hm, ht⟩ := h
  refine ⟨_, Box.set (t := t) hg j (.int k x), by simpa using hs, by simpa using hl, hm, ?_⟩
  rw [List.length_set, Array.toList_setIfInBounds, List.take_set, ht]
  simp [List.map_set]
theorem RowI.pre {m : List Int} (h : RowI t k w g cap (l ++ m)) : RowI t k w g cap l := by
  obtain ⟨cur, hg, hs, hl, hm, ht⟩ := h
  refine ⟨cur, hg, hs, by simp at hl; omega, hm, ?_⟩
  have : (cur.toList.take (l ++ m).length).take l.length = ((l ++ m).map (Value.int k)).take l.length := by rw [ht]
  rw [List.take_take, Nat.min_eq_left (by simp), List.map_append] at this
  have e : (l.map (Value.int k) ++ m.map (Value.int k)).take l.length = l.map (Value.int k) := by
    have := List.take_left (l₁ := l.map (Value.int k)) (l₂ := m.map (Value.int k))
    rwa [List.length_map] at this
  rw [e] at this
  exact this
end

theorem made_row {t : TypeId} {k : IntKind} {w : World} {base n : Nat} {v : Value} (h : w.ownsRow base t 1 v n (madeCells (Value.int k 0).cells (n * 1)).toList) : w.ownsRow base t 1 v n ((List.replicate n 0).map (Value.int k)) := by
  have e : (madeCells (Value.int k 0).cells (n * 1)).toList = (List.replicate n 0).map (Value.int k) := by
    rw [Nat.mul_one, List.map_replicate]
    exact toList_madeCells_one _ _
  rw [← e]
  exact h



/-- Numbers by a function, in a block that may be written. -/
def IntsAt (w : World) (g N : Nat) (F : Nat → Int) : Prop := ∃ cur : Array Value, w.heap[g]? = some (.cells cur 3 (0, 0)) ∧ ∀ v, v < N → cur[v]? = some (.int .i64 (F v))

section
variable {w w' : World} {g N : Nat} {F : Nat → Int}
theorem IntsAt.lt (h : IntsAt w g N F) : g < w.heap.size := by
  obtain ⟨cur, hg, _⟩ := h
  exact (Array.getElem?_eq_some_iff.1 hg).1
theorem IntsAt.cell (h : IntsAt w g N F) {v : Nat} (hv : v < N) : w.cell? ⟨g, v, none⟩ = some (.int .i64 (F v)) := by
  obtain ⟨cur, hg, hc⟩ := h
  simp [World.cell?, hg, hc v hv]
theorem IntsAt.free (h : IntsAt w g N F) (o : Nat) : w.frozen? ⟨g, o, none⟩ = false := by
  obtain ⟨cur, hg, _⟩ := h
  simp [World.frozen?, hg]
theorem IntsAt.same (h : IntsAt w g N F) (e : w'.heap[g]? = w.heap[g]?) : IntsAt w' g N F := by
  obtain ⟨cur, hg, r⟩ := h
  exact ⟨cur, e.trans hg, r⟩
theorem IntsAt.put (h : IntsAt w g N F) {v : Nat} (x : Int) : IntsAt (w.setCell ⟨g, v, none⟩ (.int .i64 x)) g N (fun u => if u = v then x else F u) := by
  obtain ⟨cur, hg, hc⟩ := h
  refine ⟨_, Box.set (t := 3) hg v (.int .i64 x), fun u hu => ?_⟩
  have := hc u hu
  have hlt := (Array.getElem?_eq_some_iff.1 this).1
  rw [Array.getElem?_setIfInBounds]
  split
  · next e => subst e; simp [hlt]
  · next e => have e' : u ≠ v := fun x => e x.symm
              simp only [if_neg e']; exact this
theorem IntsAt.congr (h : IntsAt w g N F) {G : Nat → Int} (e : ∀ v, v < N → F v = G v) : IntsAt w g N G := by
  obtain ⟨cur, hg, hc⟩ := h
  exact ⟨cur, hg, fun v hv => by rw [← e v hv]; exact hc v hv⟩
theorem RowI.ints {cap : Nat} {l : List Int} (h : RowI 3 .i64 w g cap l) : IntsAt w g l.length (fun v => l[v]?.getD 0) := by
  obtain ⟨cur, hg, hs, hl, hm, ht⟩ := h
  refine ⟨cur, hg, fun v hv => ?_⟩
  have : (cur.toList.take l.length)[v]? = some (.int .i64 (l[v]?.getD 0)) := by rw [ht, List.getElem?_map, List.getElem?_eq_getElem hv]; rfl
  rw [List.getElem?_take, if_pos hv] at this
  simpa using this
end

end Go.Proofs.Ytkofnhimgegcnaa
