/- The pieces of a member in their order: what StockKeeps asks of holds. No Go here. -/
import Derived.Test.YtofaioabjkcaiaaAO
namespace Go.Proofs.Ytofaioabjkcaiaa

theorem Cover.inside {f : Int → Pk} : ∀ {l : List Piece} {a c : Int}, Cover f a c l → ∀ x ∈ l, a ≤ x.1 ∧ x.1 ≤ x.2.1 ∧ x.2.1 ≤ c ∧ ∀ n, x.1 ≤ n → n ≤ x.2.1 → f n = x.2.2
  | [], _, _, _, x, hx => by simp at hx
  | y :: l, a, c, ⟨h1, h2, h3, h4⟩, x, hx => by
    have := h4.le
    rcases List.mem_cons.1 hx with rfl | hx
    · exact ⟨by omega, h2, by omega, h3⟩
    · obtain ⟨k1, k2, k3, k4⟩ := h4.inside x hx
      exact ⟨by omega, k2, k3, k4⟩

theorem Cover.sorted {f : Int → Pk} : ∀ {l : List Piece} {a c : Int}, Cover f a c l → l.Pairwise (fun x y => x.2.1 < y.1)
  | [], _, _, _ => List.Pairwise.nil
  | y :: l, a, c, ⟨h1, h2, h3, h4⟩ => List.Pairwise.cons (fun x hx => by have := (h4.inside x hx).1; omega) h4.sorted

theorem parted_next {f : Int → Pk} : ∀ {l : List Piece} {a c : Int}, Cover f a c l → Parted l → ∀ x ∈ l, ∀ y ∈ l, x.2.1 + 1 = y.1 → x.2.2 ≠ y.2.2
  | [], _, _, _, _, x, hx, _, _, _ => by simp at hx
  | z :: l, a, c, ⟨h1, h2, h3, h4⟩, hp, x, hx, y, hy, he => by
    rcases List.mem_cons.1 hy with ey | hy2
    · rcases List.mem_cons.1 hx with ex | hx2
      · rw [ex, ey] at he; omega
      · have := h4.inside x hx2
        rw [ey] at he
        omega
    · rcases List.mem_cons.1 hx with ex | hx2
      · rw [ex] at he ⊢
        cases l with
        | nil => simp at hy2
        | cons z2 l =>
          obtain ⟨k1, k2, k3, k4⟩ := h4
          rcases List.mem_cons.1 hy2 with ey | hy3
          · rw [ey]; exact hp.1
          · have := k4.inside y hy3
            omega
      · have hp' : Parted l := by
          cases l with
          | nil => trivial
          | cons z2 l => exact hp.2
        exact parted_next h4 hp' x hx2 y hy2 he

/-- The pieces of a member: in order, apart, and neighbours that touch differ in lot or holder. -/
theorem owned_order {f : Int → Pk} {l : List Piece} {a c m : Int} (hc : Cover f a c l) {i j : Nat} {x y : Piece} (hi : (ownedBy (fun p => p.own) m l)[i]? = some x) (hj : (ownedBy (fun p => p.own) m l)[j]? = some y) (hij : i < j) : x.2.1 < y.1 := by
  have hs : (ownedBy (fun p => p.own) m l).Pairwise (fun x y => x.2.1 < y.1) := hc.sorted.sublist List.filter_sublist
  rw [List.pairwise_iff_getElem] at hs
  obtain ⟨h1, rfl⟩ := List.getElem?_eq_some_iff.1 hi
  obtain ⟨h2, rfl⟩ := List.getElem?_eq_some_iff.1 hj
  exact hs i j h1 h2 hij

theorem owned_piece {f : Int → Pk} {l : List Piece} {a c m : Int} (hc : Cover f a c l) {i : Nat} {x : Piece} (hi : (ownedBy (fun p => p.own) m l)[i]? = some x) : x ∈ l ∧ x.2.2.own = m ∧ a ≤ x.1 ∧ x.1 ≤ x.2.1 ∧ x.2.1 ≤ c ∧ ∀ n, x.1 ≤ n → n ≤ x.2.1 → f n = x.2.2 := by
  have hm := List.mem_of_getElem? hi
  unfold ownedBy at hm
  obtain ⟨h1, h2⟩ := List.mem_filter.1 hm
  exact ⟨h1, of_decide_eq_true h2, hc.inside x h1⟩

/-- Pieces of one member that touch are not in the same state. -/
theorem owned_touch {l : List Piece} {f : Int → Pk} {tot m : Int} (hc : Cover f 1 1000000 l) (hp : Parted l) (hk : Kept f tot) (hm : 1 ≤ m) {i j : Nat} {x y : Piece} (hi : (ownedBy (fun p => p.own) m l)[i]? = some x) (hj : (ownedBy (fun p => p.own) m l)[j]? = some y)
    (he : x.2.1 + 1 = y.1) : ¬ (x.2.2.lot = y.2.2.lot ∧ x.2.2.hold = y.2.2.hold) := by
  obtain ⟨x1, x2, x3, x4, x5, x6⟩ := owned_piece hc hi
  obtain ⟨y1, y2, y3, y4, y5, y6⟩ := owned_piece hc hj
  have hne := parted_next hc hp x x1 y y1 he
  rintro ⟨h1, h2⟩
  have ex := x6 x.1 (by omega) (by omega)
  have ey := y6 y.1 (by omega) (by omega)
  have sx : x.2.2.st = 1 := by
    rcases hk.1 x.1 (by omega) (by omega) with ⟨h, _⟩ | ⟨_, h⟩
    · rw [← ex]; exact h
    · rw [ex] at h; omega
  have sy : y.2.2.st = 1 := by
    rcases hk.1 y.1 (by omega) (by omega) with ⟨h, _⟩ | ⟨_, h⟩
    · rw [← ey]; exact h
    · rw [ey] at h; omega
  apply hne
  generalize x.2.2 = p at *
  generalize y.2.2 = q at *
  cases p; cases q
  simp_all

/-- A member's pieces lie among the first pockets. -/
theorem owned_first {l : List Piece} {f : Int → Pk} {tot m : Int} (hc : Cover f 1 1000000 l) (hk : Kept f tot) (hm : 1 ≤ m) {i : Nat} {x : Piece} (hi : (ownedBy (fun p => p.own) m l)[i]? = some x) : 1 ≤ x.1 ∧ x.1 ≤ x.2.1 ∧ x.2.1 ≤ 74 := by
  obtain ⟨x1, x2, x3, x4, x5, x6⟩ := owned_piece hc hi
  refine ⟨x3, x4, ?_⟩
  have ex := x6 x.2.1 (by omega) (by omega)
  rcases hk.1 x.2.1 (by omega) (by omega) with ⟨_, _, _, h⟩ | ⟨_, h⟩
  · exact h
  · rw [ex] at h; omega

/-- Whom the list of owners names behind the members below m. -/
def ownTo (f : Int → Pk) (m k : Int) : Int := if 1 ≤ k ∧ 1 ≤ (f k).own ∧ (f k).own < m then (f k).own else 0

/-- The same behind the first i pieces of member m. -/
def ownIn (f : Int → Pk) (m : Int) (h : List Piece) (i : Nat) (k : Int) : Int := if 1 ≤ k ∧ (f k).own = m ∧ (∃ x ∈ h.take i, x.1 ≤ k ∧ k ≤ x.2.1) then m else ownTo f m k

/-- The pieces of a cover have every pocket. -/
theorem Cover.has {f : Int → Pk} : ∀ {l : List Piece} {a c : Int}, Cover f a c l → ∀ k, a ≤ k → k ≤ c → ∃ x ∈ l, x.1 ≤ k ∧ k ≤ x.2.1
  | [], a, c, h, k, k1, k2 => by have : c + 1 = a := h; omega
  | y :: l, a, c, ⟨h1, h2, h3, h4⟩, k, k1, k2 => by
    by_cases hk : k ≤ y.2.1
    · exact ⟨y, List.mem_cons_self, by omega, hk⟩
    · obtain ⟨x, hx, hx1⟩ := h4.has k (by omega) k2
      exact ⟨x, List.mem_cons_of_mem _ hx, hx1⟩

theorem ownIn_all {f : Int → Pk} {l : List Piece} {m k : Int} (hc : Cover f 1 1000000 l) (hm : 1 ≤ m) (hk : k ≤ 1000000) : ownIn f m (ownedBy (fun p => p.own) m l) (ownedBy (fun p => p.own) m l).length k = ownTo f (m + 1) k := by
  unfold ownIn
  rw [List.take_length]
  by_cases h1 : 1 ≤ k
  · by_cases h2 : (f k).own = m
    · obtain ⟨x, hx, hx1⟩ := hc.has k h1 hk
      have he := (hc.inside x hx).2.2.2 k hx1.1 hx1.2
      rw [if_pos ⟨h1, h2, x, by unfold ownedBy; exact List.mem_filter.2 ⟨hx, by rw [← he]; exact decide_eq_true h2⟩, hx1⟩]
      unfold ownTo
      rw [if_pos ⟨h1, by omega, by omega⟩, h2]
    · rw [if_neg (fun h => h2 h.2.1)]
      unfold ownTo
      by_cases h3 : 1 ≤ (f k).own ∧ (f k).own < m
      · rw [if_pos ⟨h1, h3.1, h3.2⟩, if_pos ⟨h1, h3.1, by omega⟩]
      · rw [if_neg (fun h => h3 h.2), if_neg (fun h => h3 ⟨h.2.1, by omega⟩)]
  · rw [if_neg (fun h => h1 h.1)]
    unfold ownTo
    rw [if_neg (fun h => h1 h.1), if_neg (fun h => h1 h.1)]

theorem ownIn_none {f : Int → Pk} {h : List Piece} {m k : Int} : ownIn f m h 0 k = ownTo f m k := by
  unfold ownIn
  rw [if_neg (by simp)]

end Go.Proofs.Ytofaioabjkcaiaa
