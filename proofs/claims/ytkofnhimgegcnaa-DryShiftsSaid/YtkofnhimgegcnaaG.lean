/- slices.Sort and slices.Compact at numbers. -/
import Derived.Test.YtkofnhimgegcnaaTM
namespace Go.Proofs.Ytkofnhimgegcnaa
open Go.RowKit Go.Sort

theorem sortWorld_touch {α : Type} [Inhabited α] (enc : α → Value) (w : World) (g : Nat) (m : Nat) (d : Array α) (os : Array Obj) : Touch (fun k => k = g) w (sortWorld enc w g 0 m d os) := by
  have hput : (putRow enc (Sort.ahead w m) g 0 d).heap = w.heap.modify g (onCells (putCells enc 0 d)) := rfl
  have hsz : (putRow enc (Sort.ahead w m) g 0 d).heap.size = w.heap.size := by rw [hput, Array.size_modify]
  refine ⟨rfl, rfl, rfl, ?_, ?_⟩
  · show w.heap.size ≤ ((putRow enc (Sort.ahead w m) g 0 d).heap ++ os).size
    rw [Array.size_append]; omega
  · intro k hk hn
    show ((putRow enc (Sort.ahead w m) g 0 d).heap ++ os)[k]? = _
    rw [Array.getElem?_append_left (by omega), hput, Array.getElem?_modify, if_neg (fun e => hn e.symm)]

theorem RowI.sorted {t : TypeId} {k : IntKind} {w : World} {g cap : Nat} {l : List Int} (h : RowI t k w g cap l) {α : Type} [Inhabited α] (f : α → Int) (d' : Array α) (hd : d'.size = l.length) (m : Nat) (os : Array Obj) :
    RowI t k (sortWorld (fun x => .int k (f x)) w g 0 m d' os) g cap (d'.toList.map f) := by
  have hlt := h.lt
  obtain ⟨cur, hg, hs, hl, hm, ht⟩ := h
  have hput : (putRow (fun x => Value.int k (f x)) (Sort.ahead w m) g 0 d').heap = w.heap.modify g (onCells (putCells (fun x => Value.int k (f x)) 0 d')) := rfl
  have hgp : (putRow (fun x => Value.int k (f x)) (Sort.ahead w m) g 0 d').heap[g]? = some (.cells (putCells (fun x => Value.int k (f x)) 0 d' cur) t (0, 0)) := by
    rw [hput, Array.getElem?_modify, if_pos rfl, hg]
    rfl
  have hsz : (putRow (fun x => Value.int k (f x)) (Sort.ahead w m) g 0 d').heap.size = w.heap.size := by rw [hput, Array.size_modify]
  refine ⟨putCells (fun x => Value.int k (f x)) 0 d' cur, ?_, by simp [putCells, hs], by simp [hd, hl], hm, ?_⟩
  · show ((putRow (fun x => Value.int k (f x)) (Sort.ahead w m) g 0 d').heap ++ os)[g]? = _
    rw [Array.getElem?_append_left (by omega)]
    exact hgp
  · apply List.ext_getElem?
    intro j
    rw [List.getElem?_take, List.length_map, Array.length_toList, List.map_map, List.getElem?_map, Array.getElem?_toList, Array.getElem?_toList]
    split
    · rename_i hj
      unfold putCells
      rw [Array.getElem?_mapIdx, Array.getElem?_eq_getElem (show j < cur.size by omega), Array.getElem?_eq_getElem hj]
      simp [hj]
    · rename_i hj
      rw [Array.getElem?_eq_none (by omega)]
      rfl


theorem RowI.holds {w : World} {g cap : Nat} {l : List Int} (h : RowI 3 .i64 w g cap l) : Holds (Value.int .i64) w g 0 l.toArray := fun j hj => by
  have hj' : j < l.length := by simpa using hj
  rw [Nat.zero_add]
  refine ⟨?_, h.free j⟩
  rw [getElem!_pos l.toArray j hj]
  have : (l.toArray)[j] = l[j] := by simp
  rw [this]
  exact h.cell (List.getElem?_eq_getElem hj')

theorem sort_any (g cap : Nat) (l : List Int) (w : World) (h : RowI 3 .i64 w g cap l) (hl : l.length ≤ 1000000) :
    Calls Try.prog 69 #[.slice (some ⟨g, 0, none⟩) l.length cap] w fun e w' => e = .returned (.tuple #[]) ∧ RowI 3 .i64 w' g cap (l.mergeSort fun x y => decide (x ≤ y)) ∧ Touch (fun k => k = g) w w' := by
  refine (slices_Sort_int g 0 cap l w h.holds h.lt (by omega)).mono ?_
  rintro e w' ⟨rfl, n, os, rfl⟩
  have hp := List.mergeSort_perm l (fun x y => decide (x ≤ y))
  refine ⟨rfl, ?_, sortWorld_touch (Value.int .i64) w g n _ os⟩
  have h1 := h.sorted (f := id) (l.mergeSort fun x y => decide (x ≤ y)).toArray (by simp) n os
  have e1 : (l.mergeSort fun x y => decide (x ≤ y)).toArray.toList.map id = l.mergeSort fun x y => decide (x ≤ y) := by simp
  rw [e1] at h1
  exact h1

theorem compact_len (l : List Int) : (Lib.compact l).length ≤ l.length := by
  unfold Lib.compact Lib.compactUpTo
  rw [List.length_map]
  have := List.length_filter_le (Lib.keeps l.toArray) (List.range l.length)
  rwa [List.length_range] at this

theorem compact_any (g cap : Nat) (l : List Int) (w : World) (h : RowI 3 .i64 w g cap l) (hl : l.length ≤ 1000000) :
    Calls Try.prog 75 #[.slice (some ⟨g, 0, none⟩) l.length cap] w fun e w' => e = .returned (.slice (some ⟨g, 0, none⟩) (Lib.compact l).length cap) ∧ RowI 3 .i64 w' g cap (Lib.compact l) ∧ Touch (fun k => k = g) w w' := by
  have hlen := compact_len l
  refine (slices_Compact_int g 0 cap l w h.holds (by omega) h.len.1).mono ?_
  rintro e w' ⟨rfl, q, rfl⟩
  obtain ⟨d, hd⟩ : ∃ d, d = Lib.compact l ++ List.replicate (l.length - (Lib.compact l).length) 0 := ⟨_, rfl⟩
  have hdl : d.toArray.size = l.length := by rw [hd]; simp; omega
  have h1 := h.sorted (f := id) d.toArray hdl q #[]
  have h2 := sortWorld_touch (Value.int .i64) w g q d.toArray #[]
  have e1 : ∀ W : World, grow W #[] = W := fun W => by simp [grow]
  have e2 : sortWorld (Value.int .i64) w g 0 q d.toArray #[] = putRow (Value.int .i64) (Sort.ahead w q) g 0 d.toArray := e1 _
  rw [← hd]
  refine ⟨rfl, ?_, ?_⟩
  · have h3 : RowI 3 .i64 (putRow (Value.int .i64) (Sort.ahead w q) g 0 d.toArray) g cap d := by
      rw [← e2]
      have e3 : d.toArray.toList.map id = d := by simp
      rw [e3] at h1
      exact h1
    rw [hd] at h3 ⊢
    exact h3.pre
  · rw [← e2]; exact h2

end Go.Proofs.Ytkofnhimgegcnaa
