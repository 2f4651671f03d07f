/- The register's runs without those of state 0 are canonical; the holds of a member told from either; holds in memory. -/
import Derived.Test.YtofaioabjkcaiaaBR
import Derived.Test.YtofaioabjkcaiaaAD
import Derived.Test.YtofaioabjkcaiaaBT
namespace Go.Proofs.Ytofaioabjkcaiaa

theorem cover_mem {f : Int → Pk} {l : List Piece} {a c : Int} (hc : Cover f a c l) {x : Piece} (hx : x ∈ l) : a ≤ x.1 ∧ x.1 ≤ x.2.1 ∧ x.2.1 ≤ c ∧ ∀ k, x.1 ≤ k → k ≤ x.2.1 → f k = x.2.2 := by
  obtain ⟨pre, rest, rfl⟩ := List.append_of_mem hx
  obtain ⟨mm, c1, c2⟩ := hc.split
  obtain ⟨d1, d2, d3, d4⟩ := c2
  have hle := c1.le
  have hle2 := d4.le
  exact ⟨by omega, d2, by omega, d3⟩

theorem cover_all {f : Int → Pk} : ∀ {l : List Piece} {a c : Int}, Cover f a c l → ∀ k, a ≤ k → k ≤ c → ∃ x ∈ l, x.1 ≤ k ∧ k ≤ x.2.1
  | [], a, c, h, k, h1, h2 => by have : c + 1 = a := h; omega
  | x :: l, a, c, ⟨h1, h2, h3, h4⟩, k, k1, k2 => by
    by_cases hk : k ≤ x.2.1
    · exact ⟨x, by simp, by omega, hk⟩
    · obtain ⟨y, hy, h⟩ := cover_all h4 k (by omega) k2
      exact ⟨y, by simp [hy], h⟩

theorem cover_pairs {f : Int → Pk} : ∀ {l : List Piece} {a c : Int}, Cover f a c l → Parted l → l.Pairwise Apart
  | [], _, _, _, _ => List.Pairwise.nil
  | [x], _, _, _, _ => by simp
  | x :: y :: l, a, c, ⟨h1, h2, h3, h4⟩, hp => by
    refine List.Pairwise.cons (fun z hz => ?_) (cover_pairs h4 hp.2)
    have hz' := cover_mem h4 hz
    refine ⟨by omega, fun he => ?_⟩
    obtain ⟨k1, k2, k3, k4⟩ := h4
    rcases List.mem_cons.1 hz with rfl | hz2
    · exact hp.1
    · have := (cover_mem k4 hz2).1
      omega

theorem runs_can {f : Int → Pk} {l L : List Piece} (hc : Cover f 1 1000000 l) (hp : Parted l) (hL : Can f L 1000001) : L = l.filter fun x => decide (x.2.2.st ≠ 0) := by
  refine hL.unique ⟨fun x hx => ?_, fun k k1 k2 => ?_, (cover_pairs hc hp).filter _⟩
  · have hm := List.mem_filter.1 hx
    obtain ⟨h1, h2, h3, h4⟩ := cover_mem hc hm.1
    exact ⟨h1, h2, by omega, by simpa using hm.2, h4⟩
  · obtain ⟨x, hx, h1, h2⟩ := cover_all hc k k1 (by omega)
    by_cases hs : x.2.2.st = 0
    · left
      rcases hL.all k k1 k2 with h | ⟨y, hy, y1, y2⟩
      · exact h
      · have hy' := hL.one y hy
        have := hy'.2.2.2.2 k y1 y2
        rw [(cover_mem hc hx).2.2.2 k h1 h2] at this
        exact (hy'.2.2.2.1 (by rw [← this]; exact hs)).elim
    · exact Or.inr ⟨x, List.mem_filter.2 ⟨hx, by simpa using hs⟩, h1, h2⟩

/-- A member's runs of the reference. -/
def memb (wh : Pk → Int) (m : Int) (L : List Piece) : List Piece := L.filter fun x => decide (x.2.2.st = 1 ∧ wh x.2.2 = m)

theorem memb_owned {f : Int → Pk} {l L : List Piece} {wh : Pk → Int} {m : Int} (hc : Cover f 1 1000000 l) (hp : Parted l) (hL : Can f L 1000001) (hw : ∀ k, 1 ≤ k → k ≤ 1000000 → wh (f k) = m → (f k).st = 1) : memb wh m L = ownedBy wh m l := by
  rw [runs_can hc hp hL]
  unfold memb ownedBy
  rw [List.filter_filter]
  refine List.filter_congr (fun x hx => ?_)
  obtain ⟨h1, h2, h3, h4⟩ := cover_mem hc hx
  have e := h4 x.1 (by omega) h2
  have := hw x.1 h1 (by omega)
  rw [e] at this
  by_cases hm : wh x.2.2 = m
  · simp [hm, this hm]
  · simp [hm]

end Go.Proofs.Ytofaioabjkcaiaa

namespace Go.Proofs.Ytofaioabjkcaiaa
open Go.RowKit

/-- Holds that can be read. -/
def HoldAt (w : World) (v : Value) (l : List Piece) : Prop :=
  ∃ p cap, v = .slice p l.length cap ∧ ∀ (i : Nat) (x : Piece), l[i]? = some x → ∃ g, p = some ⟨g, 0, none⟩ ∧
    w.cell? ⟨g, i * 5, none⟩ = some (.int .i64 x.1) ∧ w.cell? ⟨g, i * 5 + 1, none⟩ = some (.int .i64 (x.2.1 - x.1 + 1)) ∧ w.cell? ⟨g, i * 5 + 2, none⟩ = some (.int .i64 x.2.2.lot) ∧
    w.cell? ⟨g, i * 5 + 3, none⟩ = some (.int .i64 x.2.2.own) ∧ w.cell? ⟨g, i * 5 + 4, none⟩ = some (.int .i64 x.2.2.hold)

theorem HoldAt.later {w w' : World} {v : Value} {l : List Piece} (h : HoldAt w v l) (ha : Adds w w') : HoldAt w' v l := by
  obtain ⟨p, cap, hv, hc⟩ := h
  refine ⟨p, cap, hv, fun i x hx => ?_⟩
  obtain ⟨g, hp, h0, h1, h2, h3, h4⟩ := hc i x hx
  exact ⟨g, hp, keep_cell ha h0, keep_cell ha h1, keep_cell ha h2, keep_cell ha h3, keep_cell ha h4⟩

theorem HoldAt.touch {O : Nat → Prop} {w w' : World} {v : Value} {l : List Piece} (h : HoldAt w v l) (ht : Touch O w w') (hO : ∀ g, v.ownBlock = some g → ¬ O g) : HoldAt w' v l := by
  obtain ⟨p, cap, hv, hc⟩ := h
  refine ⟨p, cap, hv, fun i x hx => ?_⟩
  obtain ⟨g, hp, h0, h1, h2, h3, h4⟩ := hc i x hx
  have hn : ¬ O g := hO g (by rw [hv, hp]; rfl)
  exact ⟨g, hp, touch_cell ht hn h0, touch_cell ht hn h1, touch_cell ht hn h2, touch_cell ht hn h3, touch_cell ht hn h4⟩

theorem hold_len (l : List Piece) : (l.flatMap holdCells).length = 5 * l.length := by
  induction l with
  | nil => rfl
  | cons x l ih => rw [List.flatMap_cons, List.length_append, ih]; simp [holdCells]; omega

theorem own_holdAt {w : World} {base : Nat} {hv : Value} {l : List Piece} (h : w.ownsRow base 79 5 hv l.length (l.flatMap holdCells)) : HoldAt w hv l ∧ ∀ g, hv.ownBlock = some g → base ≤ g ∧ g < w.heap.size := by
  refine ⟨?_, fun g hg => h.lt g hg⟩
  obtain ⟨h1, h2⟩ := h
  rcases h2 with ⟨hv, hn⟩ | ⟨g, cap, cur, hv, hg, hh, hn, hcap, hs, ht⟩
  · obtain rfl := List.length_eq_zero_iff.1 hn
    exact ⟨none, 0, hv, fun i x hx => by simp at hx⟩
  · refine ⟨some ⟨g, 0, none⟩, cap, hv, fun i x hx => ⟨g, rfl, ?_⟩⟩
    have hi := (List.getElem?_eq_some_iff.1 hx).1
    have hc : ∀ j, j < 5 → w.cell? ⟨g, i * 5 + j, none⟩ = (holdCells x)[j]? := fun j hj => by
      have e := holds_cell i x hx j hj
      have : (cur.toList.take (l.length * 5))[i * 5 + j]? = (holdCells x)[j]? := by rw [ht]; exact e
      rw [List.getElem?_take, if_pos (by omega), Array.getElem?_toList] at this
      simp [World.cell?, hh, this]
    exact ⟨hc 0 (by omega), hc 1 (by omega), hc 2 (by omega), hc 3 (by omega), hc 4 (by omega)⟩

theorem HoldAt.cells {w : World} {g n cap : Nat} {l : List Piece} {i : Nat} {x : Piece} (h : HoldAt w (.slice (some ⟨g, 0, none⟩) n cap) l) (hx : l[i]? = some x) :
    w.cell? ⟨g, i * 5, none⟩ = some (.int .i64 x.1) ∧ w.cell? ⟨g, i * 5 + 1, none⟩ = some (.int .i64 (x.2.1 - x.1 + 1)) ∧ w.cell? ⟨g, i * 5 + 2, none⟩ = some (.int .i64 x.2.2.lot) ∧
    w.cell? ⟨g, i * 5 + 3, none⟩ = some (.int .i64 x.2.2.own) ∧ w.cell? ⟨g, i * 5 + 4, none⟩ = some (.int .i64 x.2.2.hold) := by
  obtain ⟨p, cap', hv, hc⟩ := h
  obtain ⟨g', hp, r⟩ := hc i x hx
  simp only [Value.slice.injEq] at hv
  obtain ⟨hv, _, _⟩ := hv
  rw [hp] at hv
  simp only [Option.some.injEq, Addr.mk.injEq, and_true] at hv
  rw [hv]
  exact r

theorem adds_touch2 {w a b : World} {O : Nat → Prop} (h : Adds w a) (g : Touch O a b) (hO : ∀ k, O k → w.heap.size ≤ k) : Adds w b :=
  ⟨g.os.trans h.os, g.tape.trans h.tape, g.output.trans h.output, Nat.le_trans h.size g.size, fun k hk => (g.same k (Nat.lt_of_lt_of_le hk h.size) (fun ho => by have := hO k ho; omega)).trans (h.block k hk)⟩

end Go.Proofs.Ytofaioabjkcaiaa
