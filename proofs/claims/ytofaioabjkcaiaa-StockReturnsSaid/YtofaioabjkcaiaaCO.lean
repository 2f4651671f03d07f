/- Holds in memory. -/
import Derived.Test.YtofaioabjkcaiaaAD
import Derived.Test.YtofaioabjkcaiaaBT
namespace Go.Proofs.Ytofaioabjkcaiaa
open Go.RowKit

/-- Holds that can be read. -/
def HoldAt (w : World) (v : Value) (l : List Piece) : Prop :=
  ∃ p cap, v = .slice p l.length cap ∧ ∀ (i : Nat) (x : Piece), l[i]? = some x → ∃ g, p = some ⟨g, 0, none⟩ ∧
    w.cell? ⟨g, i * 5, none⟩ = some (.int .i64 x.1) ∧ w.cell? ⟨g, i * 5 + 1, none⟩ = some (.int .i64 (x.2.1 - x.1 + 1)) ∧ w.cell? ⟨g, i * 5 + 2, none⟩ = some (.int .i64 x.2.2.lot) ∧
    w.cell? ⟨g, i * 5 + 3, none⟩ = some (.int .i64 x.2.2.own) ∧ w.cell? ⟨g, i * 5 + 4, none⟩ = some (.int .i64 x.2.2.hold)

theorem HoldAt.later {w w' : World} {v : Value} {l : List Piece} (h : HoldAt w v l) (ha : Adds w w') : HoldAt w' v l := by
  obtain ⟨p, cap, hv, hc⟩ := h
  refine ⟨p, cap, hv, fun i x hx => ?_⟩
  obtain ⟨g, hp, h0, h1, h2, h3, h4⟩ := hc i x hx
  exact ⟨g, hp, keep_cell ha h0, keep_cell ha h1, keep_cell ha h2, keep_cell ha h3, keep_cell ha h4⟩

theorem HoldAt.touch {O : Nat → Prop} {w w' : World} {v : Value} {l : List Piece} (h : HoldAt w v l) (ht : Touch O w w') (hO : ∀ g, v.ownBlock = some g → ¬ O g) : HoldAt w' v l := by
  obtain ⟨p, cap, hv, hc⟩ := h
  refine ⟨p, cap, hv, fun i x hx => ?_⟩
  obtain ⟨g, hp, h0, h1, h2, h3, h4⟩ := hc i x hx
  have hn : ¬ O g := hO g (by rw [hv, hp]; rfl)
  exact ⟨g, hp, touch_cell ht hn h0, touch_cell ht hn h1, touch_cell ht hn h2, touch_cell ht hn h3, touch_cell ht hn h4⟩

theorem hold_len (l : List Piece) : (l.flatMap holdCells).length = 5 * l.length := by
  induction l with
  | nil => rfl
  | cons x l ih => rw [List.flatMap_cons, List.length_append, ih]; simp [holdCells]; omega

theorem own_holdAt {w : World} {base : Nat} {hv : Value} {l : List Piece} (h : w.ownsRow base 79 5 hv l.length (l.flatMap holdCells)) : HoldAt w hv l ∧ ∀ g, hv.ownBlock = some g → base ≤ g ∧ g < w.heap.size := by
  refine ⟨?_, fun g hg => h.lt g hg⟩
  obtain ⟨h1, h2⟩ := h
  rcases h2 with ⟨hv, hn⟩ | ⟨g, cap, cur, hv, hg, hh, hn, hcap, hs, ht⟩
  · obtain rfl := List.length_eq_zero_iff.1 hn
    exact ⟨none, 0, hv, fun i x hx => by simp at hx⟩
  · refine ⟨some ⟨g, 0, none⟩, cap, hv, fun i x hx => ⟨g, rfl, ?_⟩⟩
    have hi := (List.getElem?_eq_some_iff.1 hx).1
    have hc : ∀ j, j < 5 → w.cell? ⟨g, i * 5 + j, none⟩ = (holdCells x)[j]? := fun j hj => by
      have e := holds_cell i x hx j hj
      have : (cur.toList.take (l.length * 5))[i * 5 + j]? = (holdCells x)[j]? := by rw [ht]; exact e
      rw [List.getElem?_take, if_pos (by omega), Array.getElem?_toList] at this
      simp [World.cell?, hh, this]
    exact ⟨hc 0 (by omega), hc 1 (by omega), hc 2 (by omega), hc 3 (by omega), hc 4 (by omega)⟩

theorem HoldAt.cells {w : World} {g n cap : Nat} {l : List Piece} {i : Nat} {x : Piece} (h : HoldAt w (.slice (some ⟨g, 0, none⟩) n cap) l) (hx : l[i]? = some x) :
    w.cell? ⟨g, i * 5, none⟩ = some (.int .i64 x.1) ∧ w.cell? ⟨g, i * 5 + 1, none⟩ = some (.int .i64 (x.2.1 - x.1 + 1)) ∧ w.cell? ⟨g, i * 5 + 2, none⟩ = some (.int .i64 x.2.2.lot) ∧
    w.cell? ⟨g, i * 5 + 3, none⟩ = some (.int .i64 x.2.2.own) ∧ w.cell? ⟨g, i * 5 + 4, none⟩ = some (.int .i64 x.2.2.hold) := by
  obtain ⟨p, cap', hv, hc⟩ := h
  obtain ⟨g', hp, r⟩ := hc i x hx
  simp only [Value.slice.injEq] at hv
  obtain ⟨hv, _, _⟩ := hv
  rw [hp] at hv
  simp only [Option.some.injEq, Addr.mk.injEq, and_true] at hv
  rw [hv]
  exact r

theorem adds_touch2 {w a b : World} {O : Nat → Prop} (h : Adds w a) (g : Touch O a b) (hO : ∀ k, O k → w.heap.size ≤ k) : Adds w b :=
  ⟨g.os.trans h.os, g.tape.trans h.tape, g.output.trans h.output, Nat.le_trans h.size g.size, fun k hk => (g.same k (Nat.lt_of_lt_of_le hk h.size) (fun ho => by have := hO k ho; omega)).trans (h.block k hk)⟩

end Go.Proofs.Ytofaioabjkcaiaa
