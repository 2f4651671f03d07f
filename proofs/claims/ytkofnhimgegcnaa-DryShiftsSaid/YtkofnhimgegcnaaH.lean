/- add: a way and the way back. -/
import Derived.Test.YtkofnhimgegcnaaG
namespace Go.Proofs.Ytkofnhimgegcnaa
open Go.RowKit

theorem own_same {w w' : World} {base t size n : Nat} {v : Value} {xs : List Value} (h : w.ownsRow base t size v n xs) (hs : ∀ g, v.ownBlock = some g → w'.heap[g]? = w.heap[g]?) : w'.ownsRow base t size v n xs := by
  obtain ⟨h1, h2⟩ := h
  refine ⟨h1, ?_⟩
  rcases h2 with h2 | ⟨g, cap, cur, hv, hb, hg, r⟩
  · exact Or.inl h2
  · exact Or.inr ⟨g, cap, cur, hv, hb, (hs g (by rw [hv]; rfl)).trans hg, r⟩

theorem own_slice {w : World} {base t size n : Nat} {v : Value} {xs : List Value} (h : w.ownsRow base t size v n xs) : ∃ p c, v = .slice p n c := by
  obtain ⟨h1, h2⟩ := h
  rcases h2 with ⟨hv, hn⟩ | ⟨g, cap, cur, hv, _⟩
  · exact ⟨none, 0, by rw [hv, hn]⟩
  · exact ⟨_, _, hv⟩

theorem own_block {w : World} {base t size n g : Nat} {v : Value} {xs : List Value} (h : w.ownsRow base t size v n xs) (hg : v.ownBlock = some g) : base ≤ g ∧ ∃ cur, w.heap[g]? = some (.cells cur t (0, 0)) := by
  obtain ⟨h1, h2⟩ := h
  rcases h2 with ⟨hv, hn⟩ | ⟨g', cap, cur, hv, hb, hg', _⟩
  · rw [hv] at hg; cases hg
  · rw [hv] at hg
    have : g' = g := by simpa [Value.ownBlock] using hg
    subst this
    exact ⟨hb, cur, hg'⟩

/-- Rows of numbers in blocks of their own. -/
structure RowsAt (w : World) (go base N : Nat) (L : Nat → List Nat) (vs : Nat → Value) : Prop where
  box : ∃ cur : Array Value, w.heap[go]? = some (.cells cur 35 (0, 0)) ∧ ∀ v, v < N → cur[v]? = some (vs v)
  own : ∀ v, v < N → w.ownsRow base 3 1 (vs v) (L v).length ((numsI (L v)).map (Value.int .i64))
  apart : ∀ u v, u < N → v < N → u ≠ v → ∀ g, (vs u).ownBlock = some g → (vs v).ownBlock ≠ some g

theorem RowsAt.cell {w : World} {go base N : Nat} {L : Nat → List Nat} {vs : Nat → Value} (h : RowsAt w go base N L vs) {v : Nat} (hv : v < N) : w.cell? ⟨go, v, none⟩ = some (vs v) := by
  obtain ⟨cur, h1, h2⟩ := h.box
  simp [World.cell?, h1, h2 v hv]
theorem RowsAt.free {w : World} {go base N : Nat} {L : Nat → List Nat} {vs : Nat → Value} (h : RowsAt w go base N L vs) (v : Nat) : w.frozen? ⟨go, v, none⟩ = false := by
  obtain ⟨cur, h1, h2⟩ := h.box
  simp [World.frozen?, h1]
theorem RowsAt.lt {w : World} {go base N : Nat} {L : Nat → List Nat} {vs : Nat → Value} (h : RowsAt w go base N L vs) : go < w.heap.size := by
  obtain ⟨cur, h1, h2⟩ := h.box
  exact (Array.getElem?_eq_some_iff.1 h1).1

/-- All that these rows lie in is as before. -/
theorem RowsAt.same {w w' : World} {go base N : Nat} {L : Nat → List Nat} {vs : Nat → Value} (h : RowsAt w go base N L vs) (hg : w'.heap[go]? = w.heap[go]?) (hs : ∀ v g, v < N → (vs v).ownBlock = some g → w'.heap[g]? = w.heap[g]?) : RowsAt w' go base N L vs := by
  obtain ⟨cur, h1, h2⟩ := h.box
  exact ⟨⟨cur, hg.trans h1, h2⟩, fun v hv => own_same (h.own v hv) (fun g hv' => hs v g hv hv'), h.apart⟩

/-- A row grows by a number. -/
theorem RowsAt.grow {w w1 w2 : World} {go base N u g cap : Nat} {L : Nat → List Nat} {vs : Nat → Value} {x : Nat} (h : RowsAt w go base N L vs) (hu : u < N) (hgo : go < base) (hA : Adds w w1)
    (hown : w2.ownsRow base 3 1 (.slice (some ⟨g, 0, none⟩) ((L u).length + 1) cap) ((L u).length + 1) ((numsI (L u)).map (Value.int .i64) ++ [.int .i64 x]))
    (hgr : w1.grownBy w2 (vs u).ownBlock) (hlie : (vs u).ownBlock = some g ∨ g = w1.heap.size) :
    RowsAt (w2.setCell ⟨go, u, none⟩ (.slice (some ⟨g, 0, none⟩) ((L u).length + 1) cap)) go base N (fun v => if v = u then L u ++ [x] else L v) (fun v => if v = u then .slice (some ⟨g, 0, none⟩) ((L u).length + 1) cap else vs v) := by
  obtain ⟨cur, h1, h2⟩ := h.box
  have hlt := h.lt
  have hgo2 : w2.heap[go]? = some (.cells cur 35 (0, 0)) := by
    rw [hgr.block go (by have := hA.size; omega) (fun e => by have := (own_block (h.own u hu) e.symm).1; omega), hA.block go hlt]
    exact h1
  have hsafe : ∀ v, v < N → v ≠ u → ∀ k, (vs v).ownBlock = some k → (w2.setCell ⟨go, u, none⟩ (.slice (some ⟨g, 0, none⟩) ((L u).length + 1) cap)).heap[k]? = w.heap[k]? := fun v hv hne k hk => by
    obtain ⟨b1, c1, b2⟩ := own_block (h.own v hv) hk
    have hkl : k < w.heap.size := (Array.getElem?_eq_some_iff.1 b2).1
    rw [Below.heap_setCell _ _ _ _ (by simp; omega), hgr.block k (by have := hA.size; omega) (fun e => h.apart v u hv hu hne k hk e.symm), hA.block k hkl]
  refine ⟨⟨_, Box.set (t := 35) hgo2 u _, fun v hv => ?_⟩, fun v hv => ?_, fun v v' hv hv' hne k hk => ?_⟩
  · have := h2 v hv
    have hl := (Array.getElem?_eq_some_iff.1 this).1
    by_cases e : v = u
    · subst e; simp [hl]
    · rw [Array.getElem?_setIfInBounds, if_neg (fun x => e x.symm)]
      simp only [if_neg e]; exact this
  · by_cases e : v = u
    · subst e
      simp only [if_true]
      have := own_same hown (w' := w2.setCell ⟨go, v, none⟩ (.slice (some ⟨g, 0, none⟩) ((L v).length + 1) cap)) (fun k hk => Below.heap_setCell _ _ _ _ (by have := (own_block hown hk).1; simp; omega))
      simpa using this
    · simp only [if_neg e]
      exact own_same (h.own v hv) (hsafe v hv e)
  · have hnew : ∀ v, v < N → v ≠ u → (vs v).ownBlock ≠ some g := fun v hv hne he => by
      rcases hlie with hl | hl
      · exact h.apart v u hv hu hne g he hl
      · obtain ⟨_, c1, b2⟩ := own_block (h.own v hv) he
        have := (Array.getElem?_eq_some_iff.1 b2).1
        have := hA.size
        omega
    by_cases e : v = u
    · subst e
      simp only [if_true] at hk
      have e2 : v' ≠ v := fun x => hne x.symm
      simp only [if_neg e2]
      have : g = k := by simpa [Value.ownBlock] using hk
      subst this
      exact hnew v' hv' e2
    · simp only [if_neg e] at hk
      by_cases e2 : v' = u
      · subst e2
        simp only [if_true]
        intro he
        have : g = k := by simpa [Value.ownBlock] using he
        subst this
        exact hnew v hv e hk
      · simp only [if_neg e2]
        exact h.apart v v' hv hv' hne k hk

theorem outE_snoc (E : List Edge) (e : Edge) (v : Nat) : outE (E ++ [e]) v = (outE E v ++ if v = e.1 then [2 * E.length] else []) ++ if v = e.2.1 then [2 * E.length + 1] else [] := by
  have h0 : ∀ i, i < 2 * E.length → tailE (E ++ [e]) i = tailE E i := fun i hi => by
    have : eAt (E ++ [e]) (i / 2) = eAt E (i / 2) := by unfold eAt; rw [List.getElem?_append_left (by omega)]
    unfold tailE; rw [this]
  have h1 : eAt (E ++ [e]) E.length = e := by unfold eAt; simp
  have h2 : tailE (E ++ [e]) (2 * E.length) = e.1 := by
    unfold tailE
    rw [if_pos (by omega), show 2 * E.length / 2 = E.length by omega, h1]
  have h3 : tailE (E ++ [e]) (2 * E.length + 1) = e.2.1 := by
    unfold tailE
    rw [if_neg (by omega), show (2 * E.length + 1) / 2 = E.length by omega, h1]
  unfold outE
  rw [List.length_append, List.length_singleton, show 2 * (E.length + 1) = 2 * E.length + 1 + 1 by omega, List.range_succ, List.range_succ, List.filter_append, List.filter_append]
  congr 1
  · congr 1
    · exact List.filter_congr (fun i hi => by rw [h0 i (List.mem_range.1 hi)])
    · by_cases a : v = e.1
      · simp [a, h2]
      · have : ¬ e.1 = v := fun x => a x.symm
        simp [a, h2, this]
  · by_cases a : v = e.2.1
    · simp [a, h3]
    · have : ¬ e.2.1 = v := fun x => a x.symm
      simp [a, h3, this]

/-- The ways of edges, when nothing flows. -/
def wayCells (E : List Edge) : List Value := E.flatMap (fun e => [.int .i64 (e.2.1 : Int), .int .i64 e.2.2, .int .i64 (e.1 : Int), .int .i64 0])

theorem wayCells_len (E : List Edge) : (wayCells E).length = 2 * E.length * 2 := by
  induction E with
  | nil => rfl
  | cons e E ih => simp only [wayCells, List.flatMap_cons, List.length_append, List.length_cons, List.length_nil] at ih ⊢; omega

/-- A network that is being laid. -/
structure LaidAt (b go base N : Nat) (E : List Edge) (w : World) (vl vt vw v4 : Value) (co : Nat) : Prop where
  net : Box w b #[vl, vt, vw, .slice (some ⟨go, 0, none⟩) N co, v4] 100
  ways : w.ownsRow base 125 2 vw (2 * E.length) (wayCells E)
  rows : ∃ vs, RowsAt w go base N (outE E) vs
  lt : b < base ∧ go < base ∧ b ≠ go

end Go.Proofs.Ytkofnhimgegcnaa
