/- Rows of turns that a call has made. -/
import Derived.Test.YtkofnhimgegcnaaR
import Derived.Shelf.GgSortFunc.InsertionK
import Derived.Lib.SliceRun
namespace Go.Proofs.Ytkofnhimgegcnaa
open Go Go.RowKit

/-- Three numbers as cells: a turn's load, from, to. -/
def enc3 (x : Int × Int × Int) : List Value := [.int .i64 x.1, .int .i64 x.2.1, .int .i64 x.2.2]

theorem flat3_len : ∀ (l : List (Int × Int × Int)), (l.flatMap enc3).length = l.length * 3
  | [] => rfl
  | x :: l => by rw [List.flatMap_cons, List.length_append, flat3_len l]; simp [enc3]; omega

theorem flat3_cell {l : List (Int × Int × Int)} : ∀ (k : Nat) (t : Int × Int × Int), l[k]? = some t → (l.flatMap enc3)[k * 3]? = some (.int .i64 t.1) ∧ (l.flatMap enc3)[k * 3 + 1]? = some (.int .i64 t.2.1) ∧ (l.flatMap enc3)[k * 3 + 2]? = some (.int .i64 t.2.2) := by
  induction l with
  | nil => intro k t h; simp at h
  | cons y l ih =>
    intro k t h
    cases k with
    | zero => simp at h; subst h; exact ⟨rfl, rfl, rfl⟩
    | succ k =>
      obtain ⟨h1, h2, h3⟩ := ih k t (by simpa using h)
      rw [show (k + 1) * 3 = k * 3 + 1 + 1 + 1 by omega]
      simp only [List.flatMap_cons, enc3, List.cons_append, List.nil_append, List.getElem?_cons_succ]
      exact ⟨h1, h2, h3⟩

theorem flat3_set (x : Int × Int × Int) : ∀ (l : List (Int × Int × Int)) (k : Nat), k < l.length → (l.set k x).flatMap enc3 = (((l.flatMap enc3).set (k * 3) (.int .i64 x.1)).set (k * 3 + 1) (.int .i64 x.2.1)).set (k * 3 + 2) (.int .i64 x.2.2)
  | [], k, h => by simp at h
  | y :: l, 0, _ => by simp [enc3]
  | y :: l, k + 1, h => by
    have ih := flat3_set x l k (by simpa using h)
    rw [show (k + 1) * 3 = k * 3 + 1 + 1 + 1 by omega, show k * 3 + 1 + 1 + 1 + 1 = (k * 3 + 1) + 1 + 1 + 1 by omega, show k * 3 + 1 + 1 + 1 + 2 = (k * 3 + 2) + 1 + 1 + 1 by omega]
    simp only [List.set_cons_succ, List.flatMap_cons, enc3, List.cons_append, List.nil_append]
    rw [← ih]

/-- A row of spots in a block that the call has made. -/
def Row3 (w : World) (g cap : Nat) (l : List (Int × Int × Int)) : Prop :=
  ∃ cur : Array Value, w.heap[g]? = some (.cells cur 41 (0, 0)) ∧ cur.size = cap * 3 ∧ l.length ≤ cap ∧ cap ≤ maxLen ∧ cur.toList.take (l.length * 3) = l.flatMap enc3

theorem Row3.lt {w : World} {g cap : Nat} {l : List (Int × Int × Int)} (h : Row3 w g cap l) : g < w.heap.size := by
  obtain ⟨cur, hg, _⟩ := h
  exact (Array.getElem?_eq_some_iff.1 hg).1
theorem Row3.free {w : World} {g cap : Nat} {l : List (Int × Int × Int)} (h : Row3 w g cap l) (o : Nat) : w.frozen? ⟨g, o, none⟩ = false := by
  obtain ⟨cur, hg, _⟩ := h
  simp [World.frozen?, hg]
theorem Row3.same {w w' : World} {g cap : Nat} {l : List (Int × Int × Int)} (h : Row3 w g cap l) (e : w'.heap[g]? = w.heap[g]?) : Row3 w' g cap l := by
  obtain ⟨cur, hg, r⟩ := h
  exact ⟨cur, e.trans hg, r⟩
theorem Row3.later {w w' : World} {g cap : Nat} {l : List (Int × Int × Int)} (h : Row3 w g cap l) (hb : Adds w w') : Row3 w' g cap l := h.same (hb.block g h.lt)
theorem Row3.touch {O : Nat → Prop} {w w' : World} {g cap : Nat} {l : List (Int × Int × Int)} (h : Row3 w g cap l) (hb : Touch O w w') (hn : ¬ O g) : Row3 w' g cap l := h.same (hb.same g h.lt hn)
theorem Row3.len {w : World} {g cap : Nat} {l : List (Int × Int × Int)} (h : Row3 w g cap l) : l.length ≤ cap ∧ cap ≤ maxLen := by
  obtain ⟨cur, _, _, h1, h2, _⟩ := h
  exact ⟨h1, h2⟩

theorem Row3.cells {w : World} {g cap : Nat} {l : List (Int × Int × Int)} (h : Row3 w g cap l) (j : Nat) (u : Value) (hj : (l.flatMap enc3)[j]? = some u) : w.cell? ⟨g, j, none⟩ = some u := by
  obtain ⟨cur, hg, hs, hl, hm, ht⟩ := h
  rw [← ht, List.getElem?_take] at hj
  split at hj
  · have : cur[j]? = some u := by simpa using hj
    simp [World.cell?, hg, this]
  · cases hj

theorem Row3.own {w : World} {g cap base : Nat} {l : List (Int × Int × Int)} (h : Row3 w g cap l) (hb : base ≤ g) : w.ownsRow base 41 3 (.slice (some ⟨g, 0, none⟩) l.length cap) l.length (l.flatMap enc3) := by
  obtain ⟨cur, hg, hs, hl, hm, ht⟩ := h
  exact ⟨flat3_len l, Or.inr ⟨g, cap, cur, rfl, hb, hg, hl, hm, hs, ht⟩⟩

theorem own_row3 {w : World} {base n : Nat} {v : Value} {l : List (Int × Int × Int)} (h : w.ownsRow base 41 3 v n (l.flatMap enc3)) :
    n = l.length ∧ ((v = .slice none 0 0 ∧ l = []) ∨ ∃ g cap, v = .slice (some ⟨g, 0, none⟩) l.length cap ∧ base ≤ g ∧ Row3 w g cap l) := by
  obtain ⟨h1, h2⟩ := h
  rw [flat3_len] at h1
  have hn : n = l.length := by omega
  subst hn
  refine ⟨rfl, ?_⟩
  rcases h2 with ⟨hv, hz⟩ | ⟨g, cap, cur, hv, hb, hg, hl, hm, hs, ht⟩
  · exact Or.inl ⟨hv, List.length_eq_zero_iff.1 hz⟩
  · exact Or.inr ⟨g, cap, hv, hb, cur, hg, hs, hl, hm, ht⟩

theorem Row3.set1 {w : World} {g _cap : Nat} {cur : Array Value} (hg : w.heap[g]? = some (.cells cur 41 (0, 0))) (p : Nat) (u : Value) : (w.setCell ⟨g, p, none⟩ u).heap[g]? = some (.cells (cur.setIfInBounds p u) 41 (0, 0)) := by
  have := Box.set (w := w) (b := g) (vs := cur) (t := 41) hg p u
  exact this

theorem Row3.put {w : World} {g cap : Nat} {l : List (Int × Int × Int)} (h : Row3 w g cap l) {k : Nat} (hk : k < l.length) (x : Int × Int × Int) :
    Row3 (((w.setCell ⟨g, k * 3, none⟩ (.int .i64 x.1)).setCell ⟨g, k * 3 + 1, none⟩ (.int .i64 x.2.1)).setCell ⟨g, k * 3 + 2, none⟩ (.int .i64 x.2.2)) g cap (l.set k x) := by
  obtain ⟨cur, hg, hs, hl, hm, ht⟩ := h
  have h1 := Row3.set1 (_cap := cap) hg (k * 3) (.int .i64 x.1)
  have h2 := Row3.set1 (_cap := cap) h1 (k * 3 + 1) (.int .i64 x.2.1)
  have h3 := Row3.set1 (_cap := cap) h2 (k * 3 + 2) (.int .i64 x.2.2)
  refine ⟨_, h3, by simpa using hs, by simpa using hl, hm, ?_⟩
  rw [List.length_set, flat3_set x l k hk, ← ht]
  simp only [Array.toList_setIfInBounds, List.take_set]

theorem Row3.pre {w : World} {g cap : Nat} {l m : List (Int × Int × Int)} (h : Row3 w g cap (l ++ m)) : Row3 w g cap l := by
  obtain ⟨cur, hg, hs, hl, hm, ht⟩ := h
  refine ⟨cur, hg, hs, by simp at hl; omega, hm, ?_⟩
  have : (cur.toList.take ((l ++ m).length * 3)).take (l.length * 3) = ((l ++ m).flatMap enc3).take (l.length * 3) := by rw [ht]
  have e : ((l ++ m).flatMap enc3).take (l.length * 3) = l.flatMap enc3 := by rw [List.flatMap_append, ← flat3_len l, List.take_left]
  rw [List.take_take, Nat.min_eq_left (by simp; omega), e] at this
  exact this

theorem flatK3 (d : Array (Int × Int × Int)) (j : Nat) (hj : j < d.size * 3) : (Sort.flatK enc3 3 d)[j]? = (d.toList.flatMap enc3)[j]? := by
  have h1 : (Sort.flatK enc3 3 d)[j]? = some ((enc3 d[j / 3]!)[j % 3]!) := by
    have := Sort.get_flatK enc3 3 d j hj
    rw [getElem!_pos _ j (by rw [Sort.size_flatK]; exact hj)] at this
    rw [Array.getElem?_eq_getElem (by rw [Sort.size_flatK]; exact hj), this]
  have hlt : j / 3 < d.size := by omega
  obtain ⟨h2, h3, h4⟩ := flat3_cell (l := d.toList) (j / 3) d[j / 3]! (by rw [getElem!_pos d (j / 3) hlt]; simp)
  rw [h1]
  have hm : j % 3 = 0 ∨ j % 3 = 1 ∨ j % 3 = 2 := by omega
  rcases hm with h | h | h
  · rw [h, show j = j / 3 * 3 by omega]; rw [show j / 3 * 3 / 3 = j / 3 by omega]; exact h2.symm
  · rw [h, show j = j / 3 * 3 + 1 by omega]; rw [show (j / 3 * 3 + 1) / 3 = j / 3 by omega]; exact h3.symm
  · rw [h, show j = j / 3 * 3 + 2 by omega]; rw [show (j / 3 * 3 + 2) / 3 = j / 3 by omega]; exact h4.symm

theorem Row3.holds {w : World} {g cap : Nat} {l : List (Int × Int × Int)} (h : Row3 w g cap l) : Sort.HoldsK enc3 3 w g 0 l.toArray := fun j hj => by
  rw [Sort.size_flatK] at hj
  have h0 := flatK3 l.toArray j hj
  rw [Array.getElem?_eq_getElem (by rw [Sort.size_flatK]; exact hj)] at h0
  refine ⟨?_, by rw [Nat.zero_add]; exact h.free j⟩
  rw [Nat.zero_add, getElem!_pos _ j (by rw [Sort.size_flatK]; exact hj)]
  exact h.cells j _ h0.symm

theorem Row3.sorted {w : World} {g cap : Nat} {l : List (Int × Int × Int)} (h : Row3 w g cap l) (d' : Array (Int × Int × Int)) (hd : d'.size = l.length) (m : Nat) (os : Array Obj) :
    Row3 (sortWorldK enc3 3 w g 0 m d' os) g cap d'.toList ∧ Touch (fun k => k = g) w (sortWorldK enc3 3 w g 0 m d' os) := by
  have hlt := h.lt
  obtain ⟨cur, hg, hs, hl, hm, ht⟩ := h
  have hput : (Sort.putRowK enc3 3 (Sort.ahead w m) g 0 d').heap = w.heap.modify g (Sort.onCells (Sort.putCells id 0 (Sort.flatK enc3 3 d'))) := rfl
  have hgp : (Sort.putRowK enc3 3 (Sort.ahead w m) g 0 d').heap[g]? = some (.cells (Sort.putCells id 0 (Sort.flatK enc3 3 d') cur) 41 (0, 0)) := by
    rw [hput, Array.getElem?_modify, if_pos rfl, hg]
    rfl
  have hsz : (Sort.putRowK enc3 3 (Sort.ahead w m) g 0 d').heap.size = w.heap.size := by rw [hput, Array.size_modify]
  refine ⟨⟨Sort.putCells id 0 (Sort.flatK enc3 3 d') cur, ?_, by simp [Sort.putCells, hs], by simp [hd, hl], hm, ?_⟩, ⟨rfl, rfl, rfl, ?_, ?_⟩⟩
  · show ((Sort.putRowK enc3 3 (Sort.ahead w m) g 0 d').heap ++ os)[g]? = _
    rw [Array.getElem?_append_left (by omega)]
    exact hgp
  · apply List.ext_getElem?
    intro j
    rw [List.getElem?_take]
    split
    · rename_i hj
      have hj' : j < d'.size * 3 := by simpa using hj
      rw [← flatK3 d' j hj', Array.getElem?_toList]
      have hjc : j < cur.size := by
        have : d'.size * 3 ≤ cap * 3 := Nat.mul_le_mul_right 3 (by omega)
        omega
      unfold Sort.putCells
      rw [Array.getElem?_mapIdx, Array.getElem?_eq_getElem hjc]
      simp only [Option.map_some, Nat.zero_le, Nat.zero_add, true_and, Sort.size_flatK, hj', if_true, Nat.sub_zero, id]
      rw [getElem!_pos _ j (by rw [Sort.size_flatK]; exact hj'), Array.getElem?_eq_getElem (by rw [Sort.size_flatK]; exact hj')]
    · rename_i hj
      rw [List.getElem?_eq_none (by rw [flat3_len]; omega)]
  · show w.heap.size ≤ ((Sort.putRowK enc3 3 (Sort.ahead w m) g 0 d').heap ++ os).size
    rw [Array.size_append]; omega
  · intro k hk hn
    show ((Sort.putRowK enc3 3 (Sort.ahead w m) g 0 d').heap ++ os)[k]? = _
    rw [Array.getElem?_append_left (by omega), hput, Array.getElem?_modify, if_neg (fun e => hn e.symm)]

end Go.Proofs.Ytkofnhimgegcnaa
