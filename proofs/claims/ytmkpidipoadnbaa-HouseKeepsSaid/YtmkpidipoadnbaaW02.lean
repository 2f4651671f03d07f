/- The house: basic notions: worlds, blocks, rows. -/
import Derived.Test.YtmkpidipoadnbaaRows
import Derived.WalkKit
import Derived.WalkSpells
import Derived.WalkLawsBesides
import Derived.BigQuiet
import Derived.Deep.QuietTactic
import Derived.Deep.RegionHeld3
import Derived.Deep.DeepCutAuto
import Derived.Deep.Upon
import Derived.Lib.Hide
import Derived.OwnWalk
import Derived.RangeFuncRecord
import Derived.Outline
namespace Go.Proofs.Ytmkpidipoadnbaa
open Go.RowKit

/-- A world that only has new blocks. -/
abbrev Adds (w w' : World) : Prop := Below w.heap.size w w'

theorem Adds.refl (w : World) : Adds w w := Below.refl _ _
theorem Adds.trans {a b c : World} (h : Adds a b) (k : Adds b c) : Adds a c := Below.trans h (k.mono h.size)
theorem Adds.drew {a b : World} (h : Adds a b) : Adds a b.drew := Below.drew h
theorem Adds.drewN {a b : World} (h : Adds a b) (n : Nat) : Adds a (b.drewN n) := Below.trans h ⟨rfl, rfl, rfl, Nat.le_refl _, fun _ _ => rfl⟩
theorem Adds.alloc {a b : World} (h : Adds a b) (o : Obj) : Adds a (b.alloc o) := Below.alloc h h.size o
theorem Adds.set {a b : World} (h : Adds a b) {p : Addr} (hp : a.heap.size ≤ p.block) (u : Value) : Adds a (b.setCell p u) := Below.setCell h hp u

theorem ret_int {k : IntKind} {a b : Int} (h : a = b) : Ending.returned (.int k a) = .returned (.int k b) := by rw [h]
theorem ret_bool {a b : Bool} (h : a = b) : Ending.returned (.bool a) = .returned (.bool b) := by rw [h]

theorem cell_lt {w : World} {b o : Nat} {v : Value} (h : w.cell? ⟨b, o, none⟩ = some v) : b < w.heap.size := World.block_lt_of_cell? w _ h
theorem keep_cell {w w' : World} (hb : Adds w w') {b o : Nat} {v : Value} (h : w.cell? ⟨b, o, none⟩ = some v) : w'.cell? ⟨b, o, none⟩ = some v :=
  (hb.cell (p := ⟨b, o, none⟩) (cell_lt h)).trans h
theorem keep_free {w w' : World} (hb : Adds w w') {b o : Nat} {v : Value} (h : w.cell? ⟨b, o, none⟩ = some v) (hf : w.frozen? ⟨b, o, none⟩ = false) : w'.frozen? ⟨b, o, none⟩ = false :=
  (hb.frozen (p := ⟨b, o, none⟩) (cell_lt h)).trans hf

/-- A block of cells that may be written. -/
def Box (w : World) (b : Nat) (vs : Array Value) (t : TypeId) : Prop := w.heap[b]? = some (.cells vs t (0, 0))

theorem Box.lt {w : World} {b : Nat} {vs : Array Value} {t : TypeId} (h : Box w b vs t) : b < w.heap.size := (Array.getElem?_eq_some_iff.1 h).1
theorem Box.cell {w : World} {b : Nat} {vs : Array Value} {t : TypeId} (h : Box w b vs t) (i : Nat) : w.cell? ⟨b, i, none⟩ = vs[i]? := by
  unfold Box at h
  simp [World.cell?, h]
theorem Box.free {w : World} {b : Nat} {vs : Array Value} {t : TypeId} (h : Box w b vs t) (i : Nat) : w.frozen? ⟨b, i, none⟩ = false := by
  unfold Box at h
  simp [World.frozen?, h]
theorem Box.alloc {w : World} {b : Nat} {vs : Array Value} {t : TypeId} (h : Box w b vs t) (o : Obj) : Box (w.alloc o) b vs t := (Below.heap_alloc w o b h.lt).trans h
theorem Box.far {w : World} {b : Nat} {vs : Array Value} {t : TypeId} (h : Box w b vs t) {p : Addr} (hp : b ≠ p.block) (u : Value) : Box (w.setCell p u) b vs t := (Below.heap_setCell w p u b hp).trans h
theorem Box.set {w : World} {b : Nat} {vs : Array Value} {t : TypeId} (h : Box w b vs t) (i : Nat) (u : Value) : Box (w.setCell ⟨b, i, none⟩ u) b (vs.setIfInBounds i u) t := by
  unfold Box at h ⊢
  have hlt := (Array.getElem?_eq_some_iff.1 h).1
  have he := (Array.getElem?_eq_some_iff.1 h).2
  simp [World.setCell, Array.getElem?_modify, h]
theorem Box.same {w w' : World} {b : Nat} {vs : Array Value} {t : TypeId} (h : Box w b vs t) (e : w'.heap[b]? = w.heap[b]?) : Box w' b vs t := e.trans h
theorem Box.later {w w' : World} {b : Nat} {vs : Array Value} {t : TypeId} (h : Box w b vs t) (e : Adds w w') : Box w' b vs t := (e.block b h.lt).trans h
theorem Box.new (w : World) (vs : Array Value) (t : TypeId) : Box (w.alloc (.cells vs t)) w.heap.size vs t := World.alloc_heap_new w _
theorem Box.drew {w : World} {b : Nat} {vs : Array Value} {t : TypeId} (h : Box w b vs t) : Box w.drew b vs t := h

/-- Nothing that was there turns, but blocks in O. -/
structure Touch (O : Nat → Prop) (w w' : World) : Prop where
  os : w'.os = w.os
  tape : w'.tape = w.tape
  output : w'.output = w.output
  size : w.heap.size ≤ w'.heap.size
  same : ∀ k, k < w.heap.size → ¬ O k → w'.heap[k]? = w.heap[k]?

theorem Touch.of_adds {w w' : World} (h : Adds w w') (O : Nat → Prop) : Touch O w w' := ⟨h.os, h.tape, h.output, h.size, fun k hk _ => h.block k hk⟩
theorem Touch.refl (O : Nat → Prop) (w : World) : Touch O w w := .of_adds (Adds.refl w) O
theorem Touch.trans {O : Nat → Prop} {a b c : World} (h : Touch O a b) (k : Touch O b c) : Touch O a c :=
  ⟨k.os.trans h.os, k.tape.trans h.tape, k.output.trans h.output, Nat.le_trans h.size k.size, fun i hi ho => (k.same i (Nat.lt_of_lt_of_le hi h.size) ho).trans (h.same i hi ho)⟩
theorem Touch.adds {O : Nat → Prop} {a b c : World} (h : Adds a b) (k : Touch O b c) (hO : ∀ i, O i → a.heap.size ≤ i) : Adds a c :=
  ⟨k.os.trans h.os, k.tape.trans h.tape, k.output.trans h.output, Nat.le_trans h.size k.size, fun i hi => (k.same i (Nat.lt_of_lt_of_le hi h.size) (fun ho => by have := hO i ho; omega)).trans (h.block i hi)⟩
theorem Touch.set {O : Nat → Prop} {a b : World} (h : Touch O a b) {p : Addr} (hp : O p.block) (u : Value) : Touch O a (b.setCell p u) :=
  ⟨h.os, h.tape, h.output, by have := h.size; simp [World.setCell]; exact this, fun k hk hn => (Below.heap_setCell _ _ _ _ (fun e => hn (by rw [e]; exact hp))).trans (h.same k hk hn)⟩
theorem Touch.behind {O : Nat → Prop} {a b c : World} (k : Touch O a b) (h : Adds b c) : Touch O a c :=
  ⟨h.os.trans k.os, h.tape.trans k.tape, h.output.trans k.output, Nat.le_trans k.size h.size, fun i hi ho => (h.block i (Nat.lt_of_lt_of_le hi k.size)).trans (k.same i hi ho)⟩
theorem touch_cell {O : Nat → Prop} {w w' : World} (h : Touch O w w') {b o : Nat} {v : Value} (hn : ¬ O b) (hc : w.cell? ⟨b, o, none⟩ = some v) : w'.cell? ⟨b, o, none⟩ = some v :=
  (World.cell?_of_block (w := w) (a := ⟨b, o, none⟩) (h.same b (cell_lt hc) hn)).trans hc

/-- A row of numbers in a block that the call has made. -/
def RowI (t : TypeId) (k : IntKind) (w : World) (g cap : Nat) (l : List Int) : Prop :=
  ∃ cur : Array Value, w.heap[g]? = some (.cells cur t (0, 0)) ∧ cur.size = cap ∧ l.length ≤ cap ∧ cap ≤ maxLen ∧ cur.toList.take l.length = l.map (Value.int k)

section
variable {t : TypeId} {k : IntKind} {w w' : World} {g cap : Nat} {l : List Int}

theorem RowI.lt (h : RowI t k w g cap l) : g < w.heap.size := by
  obtain ⟨cur, hg, _⟩ := h
  exact (Array.getElem?_eq_some_iff.1 hg).1
theorem RowI.free (h : RowI t k w g cap l) (o : Nat) : w.frozen? ⟨g, o, none⟩ = false := by
  obtain ⟨cur, hg, _⟩ := h
  simp [World.frozen?, hg]
theorem RowI.same (h : RowI t k w g cap l) (e : w'.heap[g]? = w.heap[g]?) : RowI t k w' g cap l := by
  obtain ⟨cur, hg, r⟩ := h
  exact ⟨cur, e.trans hg, r⟩
theorem RowI.later (h : RowI t k w g cap l) (hb : Adds w w') : RowI t k w' g cap l := h.same (hb.block g h.lt)
theorem RowI.touch {O : Nat → Prop} (h : RowI t k w g cap l) (hb : Touch O w w') (hn : ¬ O g) : RowI t k w' g cap l := h.same (hb.same g h.lt hn)
theorem RowI.far (h : RowI t k w g cap l) {p : Addr} (hp : g ≠ p.block) (u : Value) : RowI t k (w.setCell p u) g cap l := h.same (Below.heap_setCell w p u g hp)
theorem RowI.len (h : RowI t k w g cap l) : l.length ≤ cap ∧ cap ≤ maxLen := by
  obtain ⟨cur, _, _, h1, h2, _⟩ := h
  exact ⟨h1, h2⟩
theorem RowI.cell (h : RowI t k w g cap l) {j : Nat} {x : Int} (hj : l[j]? = some x) : w.cell? ⟨g, j, none⟩ = some (.int k x) := by
  obtain ⟨cur, hg, hs, hl, hm, ht⟩ := h
  have hlt := (List.getElem?_eq_some_iff.1 hj).1
  have : (cur.toList.take l.length)[j]? = some (.int k x) := by rw [ht, List.getElem?_map, hj]; rfl
  rw [List.getElem?_take, if_pos hlt] at this
  have : cur[j]? = some (.int k x) := by simpa using this
  simp [World.cell?, hg, this]
theorem RowI.own {base : Nat} (h : RowI t k w g cap l) (hb : base ≤ g) : w.ownsRow base t 1 (.slice (some ⟨g, 0, none⟩) l.length cap) l.length (l.map (Value.int k)) := by
  obtain ⟨cur, hg, hs, hl, hm, ht⟩ := h
  exact ⟨by simp, Or.inr ⟨g, cap, cur, rfl, hb, hg, hl, hm, by omega, by rw [Nat.mul_one]; exact ht⟩⟩
theorem own_rowI {base n : Nat} {v : Value} (h : w.ownsRow base t 1 v n (l.map (Value.int k))) :
    n = l.length ∧ ((v = .slice none 0 0 ∧ l = []) ∨ ∃ g cap, v = .slice (some ⟨g, 0, none⟩) l.length cap ∧ base ≤ g ∧ RowI t k w g cap l) := by
  obtain ⟨h1, h2⟩ := h
  rw [List.length_map] at h1
  have hn : n = l.length := by omega
  subst hn
  refine ⟨rfl, ?_⟩
  rcases h2 with ⟨hv, hz⟩ | ⟨g, cap, cur, hv, hb, hg, hl, hm, hs, ht⟩
  · exact Or.inl ⟨hv, List.length_eq_zero_iff.1 hz⟩
  · exact Or.inr ⟨g, cap, hv, hb, cur, hg, by omega, hl, hm, by rw [Nat.mul_one] at ht; exact ht⟩
theorem RowI.put (h : RowI t k w g cap l) (j : Nat) (x : Int) : RowI t k (w.setCell ⟨g, j, none⟩ (.int k x)) g cap (l.set j x) := by
  obtain ⟨cur, hg, hs, hl, hm, ht⟩ := h
  refine ⟨_, Box.set (t := t) hg j (.int k x), by simpa using hs, by simpa using hl, hm, ?_⟩
  rw [List.length_set, Array.toList_setIfInBounds, List.take_set, ht]
  simp [List.map_set]
theorem RowI.pre {m : List Int} (h : RowI t k w g cap (l ++ m)) : RowI t k w g cap l := by
  obtain ⟨cur, hg, hs, hl, hm, ht⟩ := h
  refine ⟨cur, hg, hs, by simp at hl; omega, hm, ?_⟩
  have : (cur.toList.take (l ++ m).length).take l.length = ((l ++ m).map (Value.int k)).take l.length := by rw [ht]
  rw [List.take_take, Nat.min_eq_left (by simp), List.map_append] at this
  have e : (l.map (Value.int k) ++ m.map (Value.int k)).take l.length = l.map (Value.int k) := by
    have := List.take_left (l₁ := l.map (Value.int k)) (l₂ := m.map (Value.int k))
    rwa [List.length_map] at this
  rw [e] at this
  exact this
end

theorem made_row {t : TypeId} {k : IntKind} {w : World} {base n : Nat} {v : Value} (h : w.ownsRow base t 1 v n (madeCells (Value.int k 0).cells (n * 1)).toList) : w.ownsRow base t 1 v n ((List.replicate n 0).map (Value.int k)) := by
  have e : (madeCells (Value.int k 0).cells (n * 1)).toList = (List.replicate n 0).map (Value.int k) := by
    rw [Nat.mul_one, List.map_replicate]
    exact toList_madeCells_one _ _
  rw [← e]
  exact h



theorem own_same {w w' : World} {base t size n : Nat} {v : Value} {xs : List Value} (h : w.ownsRow base t size v n xs) (hs : ∀ g, v.ownBlock = some g → w'.heap[g]? = w.heap[g]?) : w'.ownsRow base t size v n xs := by
  obtain ⟨h1, h2⟩ := h
  refine ⟨h1, ?_⟩
  rcases h2 with h2 | ⟨g, cap, cur, hv, hb, hg, r⟩
  · exact Or.inl h2
  · exact Or.inr ⟨g, cap, cur, hv, hb, (hs g (by rw [hv]; rfl)).trans hg, r⟩
theorem own_slice {w : World} {base t size n : Nat} {v : Value} {xs : List Value} (h : w.ownsRow base t size v n xs) : ∃ p c, v = .slice p n c := by
  obtain ⟨h1, h2⟩ := h
  rcases h2 with ⟨hv, hn⟩ | ⟨g, cap, cur, hv, _⟩
  · exact ⟨none, 0, by rw [hv, hn]⟩
  · exact ⟨_, _, hv⟩
theorem own_block {w : World} {base t size n g : Nat} {v : Value} {xs : List Value} (h : w.ownsRow base t size v n xs) (hg : v.ownBlock = some g) : base ≤ g ∧ ∃ cur, w.heap[g]? = some (.cells cur t (0, 0)) := by
  obtain ⟨h1, h2⟩ := h
  rcases h2 with ⟨hv, hn⟩ | ⟨g', cap, cur, hv, hb, hg', _⟩
  · rw [hv] at hg; cases hg
  · rw [hv] at hg
    have : g' = g := by simpa [Value.ownBlock] using hg
    subst this
    exact ⟨hb, cur, hg'⟩

/-- Rows of numbers in blocks of their own. -/
theorem own_cell {w : World} {base t size n g cap j : Nat} {xs : List Value} {u : Value} (h : w.ownsRow base t size (.slice (some ⟨g, 0, none⟩) n cap) n xs) (hj : xs[j]? = some u) : w.cell? ⟨g, j, none⟩ = some u ∧ w.frozen? ⟨g, j, none⟩ = false := by
  obtain ⟨h1, h2⟩ := h
  rcases h2 with ⟨h2, _⟩ | ⟨g', cap', cur, hv, hb, hg, hle, hmx, hsz, htk⟩
  · cases h2
  · simp only [Value.slice.injEq, Option.some.injEq, Addr.mk.injEq] at hv
    obtain ⟨⟨rfl, -, -⟩, -, -⟩ := hv
    have hjl := (List.getElem?_eq_some_iff.1 hj).1
    have : (cur.toList.take (n * size))[j]? = some u := by rw [htk]; exact hj
    rw [List.getElem?_take] at this
    split at this
    · refine ⟨?_, by simp [World.frozen?, hg]⟩
      have e : cur[j]? = some u := by simpa using this
      simp [World.cell?, hg, e]
    · cases this
theorem own_put {w : World} {base t size n g cap j : Nat} {xs : List Value} (h : w.ownsRow base t size (.slice (some ⟨g, 0, none⟩) n cap) n xs) (u : Value) : (w.setCell ⟨g, j, none⟩ u).ownsRow base t size (.slice (some ⟨g, 0, none⟩) n cap) n (xs.set j u) := by
  obtain ⟨h1, h2⟩ := h
  rcases h2 with ⟨h2, _⟩ | ⟨g', cap', cur, hv, hb, hg, hle, hmx, hsz, htk⟩
  · cases h2
  · simp only [Value.slice.injEq, Option.some.injEq, Addr.mk.injEq] at hv
    obtain ⟨⟨rfl, -, -⟩, -, rfl⟩ := hv
    refine ⟨by rw [List.length_set]; exact h1, Or.inr ⟨g, cap, _, rfl, hb, Box.set (t := t) hg j u, hle, hmx, by simpa using hsz, ?_⟩⟩
    rw [Array.toList_setIfInBounds, List.take_set, htk]
theorem own_base_le {w : World} {base base' t size n : Nat} {v : Value} {xs : List Value} (h : w.ownsRow base t size v n xs) (hb : base' ≤ base) : w.ownsRow base' t size v n xs := by
  obtain ⟨h1, h2⟩ := h
  refine ⟨h1, ?_⟩
  rcases h2 with h2 | ⟨g, cap, cur, hv, hbb, r⟩
  · exact Or.inl h2
  · exact Or.inr ⟨g, cap, cur, hv, Nat.le_trans hb hbb, r⟩
theorem own_some {w : World} {base t size n : Nat} {v : Value} {xs : List Value} (h : w.ownsRow base t size v n xs) (hn : 0 < n) : ∃ g cap, v = .slice (some ⟨g, 0, none⟩) n cap ∧ base ≤ g := by
  obtain ⟨h1, h2⟩ := h
  rcases h2 with ⟨_, h2⟩ | ⟨g', cap', cur, hv, hb, hg, hle, hmx, hsz, htk⟩
  · omega
  · exact ⟨g', cap', hv, hb⟩
theorem wpList_append_nil {P : Program} {w : World} {ops : Array Oper} {rest : List Oper} {o : Oper} {a : Act} {Q : Exit → Act → World → Prop} (hgd : o.guard = none) (s x : Operand) (t : TypeId)
    (ho : o.op = .call { callee := .builtin .append, args := #[s, x], argTypes := #[t, t] }) (e : TypeId) (i : TypeInfo) (ht : P.underlying t = some (.slice e)) (hi : P.info? e = some i)
    (base : Option Addr) (n cap : Nat) (hle : n ≤ cap) (hs : a.eval s = .slice base n cap) (u : Value) (hu : Src P i.size t u 0 [] w) (hx : a.eval x = u)
    (h : wpList P ops Q rest (a.put o.dst (.slice base n cap)) w) : wpList P ops Q (o :: rest) a w :=
  wpList_plain hgd fun _ hK => by
    have hr := run_append_nothing w t t o.type e i ht hi base n cap hle u hu
    unfold Oper.wp execOp
    simp only [ho, resolve, invoke, builtin, Sem.run_bind, Sem.run_pure, Result.andThen_ok, List.map_toArray, List.map_cons, List.map_nil, hs, hx, hr]
    exact hK _ _ h
theorem own_cap {w : World} {base t size n cap : Nat} {p : Option Addr} {xs : List Value} (h : w.ownsRow base t size (.slice p n cap) n xs) : n ≤ cap := by
  obtain ⟨h1, h2⟩ := h
  rcases h2 with ⟨hv, hn⟩ | ⟨g, cap', cur, hv, hb, hg, hle, r⟩
  · omega
  · injection hv with _ _ e
    omega

/-- The turns of the first q spans. -/
theorem addr_add (g j : Nat) : (⟨g, 0, none⟩ : Addr).add j = ⟨g, j, none⟩ := by unfold Addr.add; split <;> simp_all
theorem addr_add2 (g o j : Nat) : (⟨g, o, none⟩ : Addr).add j = ⟨g, o + j, none⟩ := by unfold Addr.add; split <;> simp_all
theorem own_later {w w' : World} {base t size n : Nat} {v : Value} {xs : List Value} (h : w.ownsRow base t size v n xs) (ha : Adds w w') : w'.ownsRow base t size v n xs := by
  obtain ⟨h1, h2⟩ := h
  refine ⟨h1, ?_⟩
  rcases h2 with h2 | ⟨g, cap, cur, hv, hb, hg, r⟩
  · exact Or.inl h2
  · exact Or.inr ⟨g, cap, cur, hv, hb, (ha.block g (Array.getElem?_eq_some_iff.1 hg).1).trans hg, r⟩

/-- Which loads were seen. -/
theorem own_caps {w : World} {base t size n c : Nat} {q : Option Addr} {xs : List Value} (h : w.ownsRow base t size (.slice q n c) n xs) : n ≤ c ∧ c ≤ maxLen := by
  obtain ⟨h1, h2⟩ := h
  rcases h2 with ⟨h2, _⟩ | ⟨g', cap', cur, hv, hb, hg, hle, hmx, hsz, htk⟩
  · injection h2 with e1 e2 e3
    subst e3 e2
    exact ⟨Nat.le_refl _, by unfold maxLen; omega⟩
  · injection hv with e1 e2 e3
    subst e3
    exact ⟨hle, hmx⟩

/-- What tame leaves, with its room. -/
theorem own_grow {W W' : World} {base t size n : Nat} {v : Value} {xs : List Value} {u : Option Nat} (h : W.ownsRow base t size v n xs) (hg : W.grownBy W' u) (hne : ∀ j, v.ownBlock = some j → u ≠ some j) : W'.ownsRow base t size v n xs :=
  own_same h (fun q hq => by
    obtain ⟨_, cur, hc⟩ := own_block h hq
    exact hg.block q (Array.getElem?_eq_some_iff.1 hc).1 (fun e => hne q hq e.symm))
theorem own_allocd {W : World} {base t size n : Nat} {v : Value} {xs : List Value} (h : W.ownsRow base t size v n xs) (o : Obj) : (W.alloc o).ownsRow base t size v n xs := h.alloc o
theorem own_drawn {W : World} {base t size n : Nat} {v : Value} {xs : List Value} (h : W.ownsRow base t size v n xs) : W.drew.ownsRow base t size v n xs := h
def CellsAt (w : World) (p : Option Addr) (xs : List Value) : Prop := ∀ j u, xs[j]? = some u → ∃ g off, p = some ⟨g, off, none⟩ ∧ w.cell? ⟨g, off + j, none⟩ = some u
theorem CellsAt.later {w w' : World} {p : Option Addr} {xs : List Value} (h : CellsAt w p xs) (ha : Adds w w') : CellsAt w' p xs := fun j u hj => by
  obtain ⟨g, off, hp, h0⟩ := h j u hj
  exact ⟨g, off, hp, keep_cell ha h0⟩
theorem CellsAt.pre {w : World} {p : Option Addr} {xs ys : List Value} (h : CellsAt w p (xs ++ ys)) : CellsAt w p xs := fun j u hj => h j u (by
  rw [List.getElem?_append_left (List.getElem?_eq_some_iff.1 hj).1]
  exact hj)
theorem CellsAt.take_flat {α : Type} {w : World} {p : Option Addr} {f : α → List Value} {l : List α} (k : Nat) (h : CellsAt w p (l.flatMap f)) : CellsAt w p ((l.take k).flatMap f) := by
  rw [← List.take_append_drop k l, List.flatMap_append] at h
  exact h.pre
theorem CellsAt.take_map {α : Type} {w : World} {p : Option Addr} {f : α → Value} {l : List α} (k : Nat) (h : CellsAt w p (l.map f)) : CellsAt w p ((l.take k).map f) := by
  rw [← List.take_append_drop k l, List.map_append] at h
  exact h.pre
/-- What an append asks of the slice that it adds. -/
theorem CellsAt.news {w : World} {g off : Nat} {xs : List Value} (h : CellsAt w (some ⟨g, off, none⟩) xs) : ∀ j u, xs[j]? = some u → w.cell? ((⟨g, off, none⟩ : Addr).add j) = some u := fun j u hj => by
  obtain ⟨g', off', e, hc⟩ := h j u hj
  injection e with e
  injection e with e1 e2
  subst e1; subst e2
  rw [addr_add2]
  exact hc
theorem CellsAt.addr {w : World} {p : Option Addr} {xs : List Value} (h : CellsAt w p xs) (h0 : 0 < xs.length) : ∃ g off, p = some ⟨g, off, none⟩ := by
  obtain ⟨g, off, hp, _⟩ := h 0 xs[0] (List.getElem?_eq_getElem h0)
  exact ⟨g, off, hp⟩
theorem ints_one (l : List Int) : ∀ u ∈ l.map (Value.int .i64), u.oneCell' = true := fun u hu => by
  obtain ⟨x, _, rfl⟩ := List.mem_map.1 hu
  rfl
theorem own_cells {w : World} {base t size n c : Nat} {p : Option Addr} {xs : List Value} (h : w.ownsRow base t size (.slice p n c) n xs) (hn : 0 < n) : CellsAt w p xs := fun j u hj => by
  obtain ⟨g, cap, e, _⟩ := own_some h hn
  simp only [Value.slice.injEq] at e
  obtain ⟨rfl, -, rfl⟩ := e
  exact ⟨g, 0, rfl, by rw [Nat.zero_add]; exact (own_cell h hj).1⟩

end Go.Proofs.Ytmkpidipoadnbaa
