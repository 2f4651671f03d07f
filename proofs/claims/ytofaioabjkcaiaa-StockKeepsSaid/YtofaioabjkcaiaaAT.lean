/- What StockKeeps asks of a member's holds, one by one. No Go here. -/
import Derived.Test.YtofaioabjkcaiaaAS
import Derived.Test.YtofaioabjkcaiaaAQ
namespace Go.Proofs.Ytofaioabjkcaiaa

/-- How many pockets the first m members have. -/
def sumTo (R : List Piece) : Nat → Int
  | 0 => 0
  | m + 1 => sumTo R m + countOf (ownedBy (fun p => p.own) ((m : Int) + 1) R)

section
variable {f : Int → Pk} {R : List Piece} {tot m : Int}

theorem count_own (hc : Cover f 1 1000000 R) (m : Int) : countOf (ownedBy (fun p => p.own) m R) = cnt (fun k => decide ((f k).own = m)) 1 1000000 := by
  have h := count_cnt (q := fun p => decide (p.own = m)) hc
  rw [show ((1000000 : Int) + 1 - 1).toNat = 1000000 by rfl] at h
  exact h

theorem count_own_bd (hc : Cover f 1 1000000 R) (m : Int) : 0 ≤ countOf (ownedBy (fun p => p.own) m R) ∧ countOf (ownedBy (fun p => p.own) m R) ≤ 1000000 := by
  rw [count_own hc]
  have h := cnt_bounds (P := fun k => decide ((f k).own = m)) (a := 1) (n := 1000000)
  omega

theorem sum_four (hc : Cover f 1 1000000 R) (hk : Kept f tot) : sumTo R 4 = tot := by
  have h := cnt_four (f := f) (a := 1) (n := 1000000) (fun k k1 k2 => by
    rcases hk.1 k k1 (by omega) with ⟨h1, h2, h3, _⟩ | h
    · exact Or.inl ⟨h1, h2, h3⟩
    · exact Or.inr h)
  rw [hk.2, ← h]
  simp only [sumTo, count_own hc]
  simp

theorem sum_bd (hc : Cover f 1 1000000 R) (hk : Kept f tot) {j : Nat} (hj : j ≤ 4) : 0 ≤ sumTo R j ∧ sumTo R j ≤ 1000000 := by
  have h4 := sum_four hc hk
  have hb := hk.bounds
  have c1 := count_own_bd hc (((0 : Nat) : Int) + 1)
  have c2 := count_own_bd hc (((1 : Nat) : Int) + 1)
  have c3 := count_own_bd hc (((2 : Nat) : Int) + 1)
  have c4 := count_own_bd hc (((3 : Nat) : Int) + 1)
  simp only [sumTo] at h4
  have e0 : sumTo R 0 = 0 := rfl
  have e1 : sumTo R 1 = 0 + countOf (ownedBy (fun p => p.own) (((0 : Nat) : Int) + 1) R) := rfl
  have e2 : sumTo R 2 = sumTo R 1 + countOf (ownedBy (fun p => p.own) (((1 : Nat) : Int) + 1) R) := rfl
  have e3 : sumTo R 3 = sumTo R 2 + countOf (ownedBy (fun p => p.own) (((2 : Nat) : Int) + 1) R) := rfl
  have e4 : sumTo R 4 = sumTo R 3 + countOf (ownedBy (fun p => p.own) (((3 : Nat) : Int) + 1) R) := rfl
  have : j = 0 ∨ j = 1 ∨ j = 2 ∨ j = 3 ∨ j = 4 := by omega
  rcases this with rfl | rfl | rfl | rfl | rfl <;> omega

theorem owned_le (hc : Cover f 1 1000000 R) (m : Int) : ∀ x ∈ ownedBy (fun p => p.own) m R, x.1 ≤ x.2.1 := fun x hx => (hc.inside x (List.mem_filter.1 hx).1).2.1

theorem piece_facts (hc : Cover f 1 1000000 R) (hk : Kept f tot) (hm : 1 ≤ m) {q : Nat} {x : Piece} (hx : (ownedBy (fun p => p.own) m R)[q]? = some x) : x.2.2.own = m ∧ 1 ≤ x.1 ∧ x.1 ≤ x.2.1 ∧ x.2.1 ≤ 74 :=
  ⟨(owned_piece hc hx).2.1, owned_first hc hk hm hx⟩

theorem prev_facts (hc : Cover f 1 1000000 R) (hp : Parted R) (hk : Kept f tot) (hm : 1 ≤ m) {q : Nat} {x y : Piece} (hy : (ownedBy (fun p => p.own) m R)[q]? = some y) (hx : (ownedBy (fun p => p.own) m R)[q + 1]? = some x) :
    y.2.1 < x.1 ∧ (y.2.1 + 1 ≠ x.1 ∨ (y.2.1 + 1 = x.1 ∧ (y.2.2.lot ≠ x.2.2.lot ∨ (y.2.2.lot = x.2.2.lot ∧ y.2.2.hold ≠ x.2.2.hold)))) := by
  refine ⟨owned_order hc hy hx (by omega), ?_⟩
  by_cases h1 : y.2.1 + 1 = x.1
  · by_cases h2 : y.2.2.lot = x.2.2.lot
    · exact Or.inr ⟨h1, Or.inr ⟨h2, fun h3 => owned_touch hc hp hk hm hy hx h1 ⟨h2, h3⟩⟩⟩
    · exact Or.inr ⟨h1, Or.inl h2⟩
  · exact Or.inl h1

/-- The list of owners within a piece: pockets of it before i are named. -/
def ownAt (f : Int → Pk) (m : Int) (h : List Piece) (q : Nat) (x : Piece) (i k : Int) : Int := if x.1 ≤ k ∧ k < i then m else ownIn f m h q k

theorem ownIn_zero (hc : Cover f 1 1000000 R) {q : Nat} {x : Piece} (hx : (ownedBy (fun p => p.own) m R)[q]? = some x) {k : Int} (h1 : x.1 ≤ k) (h2 : k ≤ x.2.1) : ownIn f m (ownedBy (fun p => p.own) m R) q k = 0 := by
  obtain ⟨x1, x2, x3, x4, x5, x6⟩ := owned_piece hc hx
  have he := x6 k h1 h2
  unfold ownIn
  rw [if_neg]
  · unfold ownTo
    rw [if_neg]
    rintro ⟨_, _, h⟩
    rw [he] at h
    omega
  · rintro ⟨_, _, y, hy, hy1, hy2⟩
    obtain ⟨i, hi, e⟩ := List.getElem_of_mem hy
    have hi' : i < q := by have := List.length_take_le q (ownedBy (fun p => p.own) m R); omega
    have hy' : (ownedBy (fun p => p.own) m R)[i]? = some y := by
      rw [← e, List.getElem_take]
      exact List.getElem?_eq_getElem _
    have := owned_order hc hy' hx hi'
    omega

theorem ownAt_first (hx1 : 1 ≤ m) {q : Nat} {x : Piece} {k : Int} : ownAt f m R q x x.1 k = ownIn f m R q k := by
  unfold ownAt
  rw [if_neg (by omega)]

theorem ownAt_next {q : Nat} {x : Piece} {i k : Int} (hi : x.1 ≤ i) : ownAt f m R q x (i + 1) k = if k = i then m else ownAt f m R q x i k := by
  unfold ownAt
  by_cases h : k = i
  · rw [if_pos h, if_pos (by omega)]
  · rw [if_neg h]
    by_cases h2 : x.1 ≤ k ∧ k < i
    · rw [if_pos h2, if_pos (by omega)]
    · rw [if_neg h2, if_neg (by omega)]

theorem ownAt_free (hc : Cover f 1 1000000 R) {q : Nat} {x : Piece} (hx : (ownedBy (fun p => p.own) m R)[q]? = some x) {i : Int} (h1 : x.1 ≤ i) (h2 : i ≤ x.2.1) : ownAt f m (ownedBy (fun p => p.own) m R) q x i i = 0 := by
  unfold ownAt
  rw [if_neg (by omega)]
  exact ownIn_zero hc hx h1 h2

theorem ownAt_last (hc : Cover f 1 1000000 R) {q : Nat} {x : Piece} (hx : (ownedBy (fun p => p.own) m R)[q]? = some x) {k : Int} : ownAt f m (ownedBy (fun p => p.own) m R) q x (x.2.1 + 1) k = ownIn f m (ownedBy (fun p => p.own) m R) (q + 1) k := by
  obtain ⟨x1, x2, x3, x4, x5, x6⟩ := owned_piece hc hx
  obtain ⟨hq, ex⟩ := List.getElem?_eq_some_iff.1 hx
  have ht : (ownedBy (fun p => p.own) m R).take (q + 1) = (ownedBy (fun p => p.own) m R).take q ++ [x] := by rw [List.take_succ_eq_append_getElem hq, ex]
  unfold ownAt
  by_cases h : x.1 ≤ k ∧ k ≤ x.2.1
  · rw [if_pos (by omega)]
    unfold ownIn
    rw [if_pos ⟨by omega, by rw [x6 k h.1 h.2]; exact x2, x, by rw [ht]; simp, h⟩]
  · rw [if_neg (by omega)]
    unfold ownIn
    have : (∃ y ∈ (ownedBy (fun p => p.own) m R).take (q + 1), y.1 ≤ k ∧ k ≤ y.2.1) ↔ (∃ y ∈ (ownedBy (fun p => p.own) m R).take q, y.1 ≤ k ∧ k ≤ y.2.1) := by
      rw [ht]
      constructor
      · rintro ⟨y, hy, hy1⟩
        rcases List.mem_append.1 hy with hy | hy
        · exact ⟨y, hy, hy1⟩
        · simp at hy; subst hy; exact (h hy1).elim
      · rintro ⟨y, hy, hy1⟩
        exact ⟨y, List.mem_append_left _ hy, hy1⟩
    simp only [this]

end

end Go.Proofs.Ytofaioabjkcaiaa
