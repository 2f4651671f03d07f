/- Shares by largest remainders: the mathematics. No Go here. -/
import Derived.Test.YtigpghmbeldakaaAW
namespace Go.Proofs.Ytigpghmbeldakaa
open Go.RowKit

/-- The numbers below n. -/
def numsT (n : Nat) : List Int := (List.range n).map Int.ofNat
/-- How many come before the i-th. -/
def rankOf (key : Nat → Int) (n i : Nat) : Nat := ((List.range n).filter fun j => decide (key j < key i ∨ key j = key i ∧ j < i)).length

theorem numsT_mem {n : Nat} {x : Int} : x ∈ numsT n ↔ 0 ≤ x ∧ x < n := by
  unfold numsT
  rw [List.mem_map]
  constructor
  · rintro ⟨j, hj, rfl⟩
    have := List.mem_range.1 hj
    simp only [Int.ofNat_eq_natCast]
    omega
  · intro h
    exact ⟨x.toNat, List.mem_range.2 (by omega), by simp only [Int.ofNat_eq_natCast]; omega⟩
theorem numsT_len (n : Nat) : (numsT n).length = n := by simp [numsT]
theorem numsT_asc (n : Nat) : (numsT n).Pairwise fun x y => x < y := by
  unfold numsT
  rw [List.pairwise_map]
  exact List.Pairwise.imp (fun {a b} h => by simp only [Int.ofNat_eq_natCast]; omega) (List.pairwise_lt_range (n := n))

theorem lexLt_irrefl {key : Nat → Int} {x : Int} : ¬ lexLt key x x := by unfold lexLt; omega

instance (key : Nat → Int) (x y : Int) : Decidable (lexLt key x y) := by unfold lexLt; infer_instance

theorem rank_perm {key : Nat → Int} {n i : Nat} {R : List Int} (hR : R.Perm (numsT n)) : rankOf key n i = (R.filter fun x => decide (lexLt key x i)).length := by
  have h1 : (R.filter fun x => decide (lexLt key x i)).length = ((numsT n).filter fun x => decide (lexLt key x i)).length := (hR.filter _).length_eq
  rw [h1]
  unfold rankOf numsT
  rw [List.filter_map, List.length_map]
  congr 1
  apply List.filter_congr
  intro j _
  show _ = decide (lexLt key (Int.ofNat j) i)
  rw [decide_eq_decide]
  unfold lexLt
  simp only [Int.ofNat_eq_natCast, Int.toNat_natCast]
  constructor
  · rintro (h | ⟨h1, h2⟩)
    · exact Or.inl h
    · exact Or.inr ⟨h1, by omega⟩
  · rintro (h | ⟨h1, h2⟩)
    · exact Or.inl h
    · exact Or.inr ⟨h1, by omega⟩

/-- In a list that is ordered, the first k are those of a rank below k. -/
theorem mem_take_iff {key : Nat → Int} {n i k : Nat} {R : List Int} (hR : R.Perm (numsT n)) (hs : R.Pairwise (lexLt key)) (hi : i < n) : (i : Int) ∈ R.take k ↔ rankOf key n i < k := by
  have hmem : (i : Int) ∈ R := hR.mem_iff.2 (numsT_mem.2 (by omega))
  obtain ⟨p, hp, hpe⟩ := List.getElem_of_mem hmem
  have hpw := List.pairwise_iff_getElem.1 hs
  have hr : rankOf key n i = p := by
    rw [rank_perm hR]
    have e : R = R.take p ++ R.drop p := (List.take_append_drop p R).symm
    rw [e, List.filter_append, List.length_append]
    have a1 : (R.take p).filter (fun x => decide (lexLt key x i)) = R.take p := by
      rw [List.filter_eq_self]
      intro x hx
      obtain ⟨q, hq, rfl⟩ := List.getElem_of_mem hx
      rw [List.length_take] at hq
      rw [List.getElem_take]
      have := hpw q p (by omega) hp (by omega)
      rw [hpe] at this
      exact decide_eq_true this
    have a2 : (R.drop p).filter (fun x => decide (lexLt key x i)) = [] := by
      rw [List.filter_eq_nil_iff]
      intro x hx hc
      have hc := of_decide_eq_true hc
      obtain ⟨q, hq, rfl⟩ := List.getElem_of_mem hx
      rw [List.length_drop] at hq
      rw [List.getElem_drop] at hc
      rcases Nat.eq_zero_or_pos q with h0 | h0
      · subst h0
        simp only [Nat.add_zero, hpe] at hc
        exact lexLt_irrefl hc
      · have := hpw p (p + q) hp (by omega) (by omega)
        rw [hpe] at this
        exact lexLt_irrefl (this.trans hc)
    rw [a1, a2, List.length_take]
    simp
    omega
  rw [hr]
  constructor
  · intro h
    obtain ⟨q, hq, hqe⟩ := List.getElem_of_mem h
    rw [List.length_take] at hq
    rw [List.getElem_take] at hqe
    rcases Nat.lt_trichotomy q p with h1 | h1 | h1
    · have := hpw q p (by omega) hp h1
      rw [hpe, hqe] at this
      exact absurd this lexLt_irrefl
    · omega
    · have := hpw p q hp (by omega) h1
      rw [hpe, hqe] at this
      exact absurd this lexLt_irrefl
  · intro h
    rw [List.mem_take_iff_getElem]
    exact ⟨p, by omega, hpe⟩

/-- There is such an order. -/
theorem order_ex (key : Nat → Int) (n : Nat) : ∃ R : List Int, R.Perm (numsT n) ∧ R.Pairwise (lexLt key) := by
  have hex : ∀ l : List Int, l.Nodup → ∃ R : List Int, R.Perm l ∧ R.Pairwise (lexLt key) := by
    intro l
    induction l with
    | nil => intro _; exact ⟨[], List.Perm.refl _, List.Pairwise.nil⟩
    | cons x l ih =>
      intro hnd
      obtain ⟨hx, hl⟩ := List.nodup_cons.1 hnd
      obtain ⟨R, h1, h2⟩ := ih hl
      have hnx : x ∉ R := fun h => hx (h1.mem_iff.1 h)
      have : ∀ R : List Int, x ∉ R → R.Pairwise (lexLt key) → ∃ R' : List Int, R'.Perm (x :: R) ∧ R'.Pairwise (lexLt key) := by
        intro R
        induction R with
        | nil => intro _ _; exact ⟨[x], List.Perm.refl _, by simp⟩
        | cons y R ihR =>
          intro hn hp
          obtain ⟨hp1, hp2⟩ := List.pairwise_cons.1 hp
          have hxy : x ≠ y := fun h => hn (by simp [h])
          by_cases hc : lexLt key x y
          · exact ⟨x :: y :: R, List.Perm.refl _, List.pairwise_cons.2 ⟨fun z hz => by
              rcases List.mem_cons.1 hz with rfl | hz
              · exact hc
              · exact hc.trans (hp1 z hz), hp⟩⟩
          · have hc' : lexLt key y x := by unfold lexLt at *; omega
            obtain ⟨R', q1, q2⟩ := ihR (fun h => hn (by simp [h])) hp2
            refine ⟨y :: R', ((List.perm_cons y).2 q1).trans (List.Perm.swap x y R), List.pairwise_cons.2 ⟨fun z hz => ?_, q2⟩⟩
            rcases List.mem_cons.1 (q1.mem_iff.1 hz) with rfl | hz
            · exact hc'
            · exact hp1 z hz
      obtain ⟨R', q1, q2⟩ := this R hnx h2
      exact ⟨R', q1.trans ((List.perm_cons x).2 h1), q2⟩
  exact hex _ ((numsT_asc n).imp (fun {a b} h => by omega))

/-- By what the shares are rounded. -/
def shareKey (t : Int) (ws : List Int) (i : Nat) : Int := -(t * ws[i]! % ws.sum)
/-- What the rounding leaves. -/
def shareLeft (t : Int) (ws : List Int) : Int := t - (ws.map fun x => t * x / ws.sum).sum
/-- The shares of a total by weights. -/
def shareT (t : Int) (ws : List Int) : List Int := (List.range ws.length).map fun i => t * ws[i]! / ws.sum + if (rankOf (shareKey t ws) ws.length i : Int) < shareLeft t ws then 1 else 0

theorem shareT_len (t : Int) (ws : List Int) : (shareT t ws).length = ws.length := by simp [shareT]
theorem shareT_at {t : Int} {ws : List Int} {i : Nat} {x : Int} (h : ws[i]? = some x) : (shareT t ws)[i]? = some (t * x / ws.sum + if (rankOf (shareKey t ws) ws.length i : Int) < shareLeft t ws then 1 else 0) := by
  obtain ⟨h1, h2⟩ := List.getElem?_eq_some_iff.1 h
  unfold shareT
  rw [List.getElem?_map, List.getElem?_range h1, Option.map_some, getElem!_pos ws i h1, h2]

theorem sum_mul (t : Int) : ∀ l : List Int, (l.map fun x => t * x).sum = t * l.sum
  | [] => by simp
  | x :: l => by simp only [List.map_cons, List.sum_cons, sum_mul t l, Int.mul_add]

/-- Quotients and remainders add up. -/
theorem sum_split (t S : Int) : ∀ l : List Int, (l.map fun x => t * x).sum = S * (l.map fun x => t * x / S).sum + (l.map fun x => t * x % S).sum
  | [] => by simp
  | x :: l => by
    have h := sum_split t S l
    simp only [List.map_cons, List.sum_cons, Int.mul_add, h]
    have := Int.mul_ediv_add_emod (t * x) S
    omega

theorem sum_rest_bd (t S : Int) (hS : 0 < S) : ∀ l : List Int, 0 ≤ (l.map fun x => t * x % S).sum ∧ (l.map fun x => t * x % S).sum ≤ (l.length : Int) * (S - 1)
  | [] => by simp
  | x :: l => by
    have h := sum_rest_bd t S hS l
    have h1 := Int.emod_nonneg (t * x) (show S ≠ 0 by omega)
    have h2 := Int.emod_lt_of_pos (t * x) hS
    simp only [List.map_cons, List.sum_cons, List.length_cons, Int.natCast_add, Int.natCast_one, Int.add_mul, Int.one_mul]
    omega

theorem left_eq (t : Int) (ws : List Int) : ws.sum * shareLeft t ws = (ws.map fun x => t * x % ws.sum).sum := by
  have h1 := sum_split t ws.sum ws
  rw [sum_mul] at h1
  unfold shareLeft
  rw [Int.mul_sub, Int.mul_comm ws.sum t]
  omega

theorem left_bd2 {t : Int} {ws : List Int} (hS : 0 < ws.sum) : 0 ≤ shareLeft t ws ∧ shareLeft t ws < ws.length := by
  have h1 := left_eq t ws
  obtain ⟨h2, h3⟩ := sum_rest_bd t ws.sum hS ws
  have hn : 0 < (ws.length : Int) := by
    cases ws with
    | nil => simp at hS
    | cons x l => simp only [List.length_cons]; omega
  constructor
  · refine Int.not_lt.1 fun h => ?_
    have := Int.mul_neg_of_pos_of_neg hS h
    omega
  · refine Int.lt_of_mul_lt_mul_left (a := ws.sum) ?_ (by omega)
    rw [h1]
    have : ws.sum * (ws.length : Int) = (ws.length : Int) * (ws.sum - 1) + ws.length := by rw [Int.mul_sub, Int.mul_comm]; omega
    omega

end Go.Proofs.Ytigpghmbeldakaa
