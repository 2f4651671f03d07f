/- Shares by largest remainders: the mathematics (after stage 3's texts). No Go here but for the order of a sort. -/
import Derived.Test.YtmkpidipoadnbaaW30
namespace Go.Proofs.Ytmkpidipoadnbaa
open Go Go.RowKit Go.Sort

theorem perm_sum' {l l' : List Int} (h : l.Perm l') : l.sum = l'.sum := by
  induction h with
  | nil => rfl
  | cons x _ ih => simp [ih]
  | swap x y l => simp only [List.sum_cons]; omega
  | trans _ _ ih1 ih2 => exact ih1.trans ih2
/-- By a key, of equal ones the first. -/
def lexLt (key : Nat → Int) (x y : Int) : Prop := key x.toNat < key y.toNat ∨ key x.toNat = key y.toNat ∧ x < y
theorem lexLt.trans {key : Nat → Int} {x y z : Int} (h : lexLt key x y) (k : lexLt key y z) : lexLt key x z := by
  unfold lexLt at *; omega
/-- The numbers below n. -/
def numsT (n : Nat) : List Int := (List.range n).map Int.ofNat
/-- How many come before the i-th. -/
def rankOf (key : Nat → Int) (n i : Nat) : Nat := ((List.range n).filter fun j => decide (key j < key i ∨ key j = key i ∧ j < i)).length

theorem numsT_mem {n : Nat} {x : Int} : x ∈ numsT n ↔ 0 ≤ x ∧ x < n := by
  unfold numsT
  rw [List.mem_map]
  constructor
  · rintro ⟨j, hj, rfl⟩
    have := List.mem_range.1 hj
    simp only [Int.ofNat_eq_natCast]
    omega
  · intro h
    exact ⟨x.toNat, List.mem_range.2 (by omega), by simp only [Int.ofNat_eq_natCast]; omega⟩
theorem numsT_len (n : Nat) : (numsT n).length = n := by simp [numsT]
theorem numsT_asc (n : Nat) : (numsT n).Pairwise fun x y => x < y := by
  unfold numsT
  rw [List.pairwise_map]
  exact List.Pairwise.imp (fun {a b} h => by simp only [Int.ofNat_eq_natCast]; omega) (List.pairwise_lt_range (n := n))

theorem lexLt_irrefl {key : Nat → Int} {x : Int} : ¬ lexLt key x x := by unfold lexLt; omega

instance (key : Nat → Int) (x y : Int) : Decidable (lexLt key x y) := by unfold lexLt; infer_instance

theorem rank_perm {key : Nat → Int} {n i : Nat} {R : List Int} (hR : R.Perm (numsT n)) : rankOf key n i = (R.filter fun x => decide (lexLt key x i)).length := by
  have h1 : (R.filter fun x => decide (lexLt key x i)).length = ((numsT n).filter fun x => decide (lexLt key x i)).length := (hR.filter _).length_eq
  rw [h1]
  unfold rankOf numsT
  rw [List.filter_map, List.length_map]
  congr 1
  apply List.filter_congr
  intro j _
  show _ = decide (lexLt key (Int.ofNat j) i)
  rw [decide_eq_decide]
  unfold lexLt
  simp only [Int.ofNat_eq_natCast, Int.toNat_natCast]
  constructor
  · rintro (h | ⟨h1, h2⟩)
    · exact Or.inl h
    · exact Or.inr ⟨h1, by omega⟩
  · rintro (h | ⟨h1, h2⟩)
    · exact Or.inl h
    · exact Or.inr ⟨h1, by omega⟩

/-- In a list that is ordered, the first k are those of a rank below k. -/
theorem mem_take_iff {key : Nat → Int} {n i k : Nat} {R : List Int} (hR : R.Perm (numsT n)) (hs : R.Pairwise (lexLt key)) (hi : i < n) : (i : Int) ∈ R.take k ↔ rankOf key n i < k := by
  have hmem : (i : Int) ∈ R := hR.mem_iff.2 (numsT_mem.2 (by omega))
  obtain ⟨p, hp, hpe⟩ := List.getElem_of_mem hmem
  have hpw := List.pairwise_iff_getElem.1 hs
  have hr : rankOf key n i = p := by
    rw [rank_perm hR]
    have e : R = R.take p ++ R.drop p := (List.take_append_drop p R).symm
    rw [e, List.filter_append, List.length_append]
    have a1 : (R.take p).filter (fun x => decide (lexLt key x i)) = R.take p := by
      rw [List.filter_eq_self]
      intro x hx
      obtain ⟨q, hq, rfl⟩ := List.getElem_of_mem hx
      rw [List.length_take] at hq
      rw [List.getElem_take]
      have := hpw q p (by omega) hp (by omega)
      rw [hpe] at this
      exact decide_eq_true this
    have a2 : (R.drop p).filter (fun x => decide (lexLt key x i)) = [] := by
      rw [List.filter_eq_nil_iff]
      intro x hx hc
      have hc := of_decide_eq_true hc
      obtain ⟨q, hq, rfl⟩ := List.getElem_of_mem hx
      rw [List.length_drop] at hq
      rw [List.getElem_drop] at hc
      rcases Nat.eq_zero_or_pos q with h0 | h0
      · subst h0
        simp only [Nat.add_zero, hpe] at hc
        exact lexLt_irrefl hc
      · have := hpw p (p + q) hp (by omega) (by omega)
        rw [hpe] at this
        exact lexLt_irrefl (this.trans hc)
    rw [a1, a2, List.length_take]
    simp
    omega
  rw [hr]
  constructor
  · intro h
    obtain ⟨q, hq, hqe⟩ := List.getElem_of_mem h
    rw [List.length_take] at hq
    rw [List.getElem_take] at hqe
    rcases Nat.lt_trichotomy q p with h1 | h1 | h1
    · have := hpw q p (by omega) hp h1
      rw [hpe, hqe] at this
      exact absurd this lexLt_irrefl
    · omega
    · have := hpw p q hp (by omega) h1
      rw [hpe, hqe] at this
      exact absurd this lexLt_irrefl
  · intro h
    rw [List.mem_take_iff_getElem]
    exact ⟨p, by omega, hpe⟩

/-- There is such an order. -/
theorem order_ex (key : Nat → Int) (n : Nat) : ∃ R : List Int, R.Perm (numsT n) ∧ R.Pairwise (lexLt key) := by
  have hex : ∀ l : List Int, l.Nodup → ∃ R : List Int, R.Perm l ∧ R.Pairwise (lexLt key) := by
    intro l
    induction l with
    | nil => intro _; exact ⟨[], List.Perm.refl _, List.Pairwise.nil⟩
    | cons x l ih =>
      intro hnd
      obtain ⟨hx, hl⟩ := List.nodup_cons.1 hnd
      obtain ⟨R, h1, h2⟩ := ih hl
      have hnx : x ∉ R := fun h => hx (h1.mem_iff.1 h)
      have : ∀ R : List Int, x ∉ R → R.Pairwise (lexLt key) → ∃ R' : List Int, R'.Perm (x :: R) ∧ R'.Pairwise (lexLt key) := by
        intro R
        induction R with
        | nil => intro _ _; exact ⟨[x], List.Perm.refl _, by simp⟩
        | cons y R ihR =>
          intro hn hp
          obtain ⟨hp1, hp2⟩ := List.pairwise_cons.1 hp
          have hxy : x ≠ y := fun h => hn (by simp [h])
          by_cases hc : lexLt key x y
          · exact ⟨x :: y :: R, List.Perm.refl _, List.pairwise_cons.2 ⟨fun z hz => by
              rcases List.mem_cons.1 hz with rfl | hz
              · exact hc
              · exact hc.trans (hp1 z hz), hp⟩⟩
          · have hc' : lexLt key y x := by unfold lexLt at *; omega
            obtain ⟨R', q1, q2⟩ := ihR (fun h => hn (by simp [h])) hp2
            refine ⟨y :: R', ((List.perm_cons y).2 q1).trans (List.Perm.swap x y R), List.pairwise_cons.2 ⟨fun z hz => ?_, q2⟩⟩
            rcases List.mem_cons.1 (q1.mem_iff.1 hz) with rfl | hz
            · exact hc'
            · exact hp1 z hz
      obtain ⟨R', q1, q2⟩ := this R hnx h2
      exact ⟨R', q1.trans ((List.perm_cons x).2 h1), q2⟩
  exact hex _ ((numsT_asc n).imp (fun {a b} h => by omega))

/-- By what the shares are rounded. -/
def shareKey (t : Int) (ws : List Int) (i : Nat) : Int := -(t * ws[i]! % ws.sum)
/-- What the rounding leaves. -/
def shareLeft (t : Int) (ws : List Int) : Int := t - (ws.map fun x => t * x / ws.sum).sum
/-- The shares of a total by weights. -/
def shareT (t : Int) (ws : List Int) : List Int := (List.range ws.length).map fun i => t * ws[i]! / ws.sum + if (rankOf (shareKey t ws) ws.length i : Int) < shareLeft t ws then 1 else 0

theorem shareT_len (t : Int) (ws : List Int) : (shareT t ws).length = ws.length := by simp [shareT]
theorem shareT_at {t : Int} {ws : List Int} {i : Nat} {x : Int} (h : ws[i]? = some x) : (shareT t ws)[i]? = some (t * x / ws.sum + if (rankOf (shareKey t ws) ws.length i : Int) < shareLeft t ws then 1 else 0) := by
  obtain ⟨h1, h2⟩ := List.getElem?_eq_some_iff.1 h
  unfold shareT
  rw [List.getElem?_map, List.getElem?_range h1, Option.map_some, getElem!_pos ws i h1, h2]

theorem sum_mul (t : Int) : ∀ l : List Int, (l.map fun x => t * x).sum = t * l.sum
  | [] => by simp
  | x :: l => by simp only [List.map_cons, List.sum_cons, sum_mul t l, Int.mul_add]

/-- Quotients and remainders add up. -/
theorem sum_split (t S : Int) : ∀ l : List Int, (l.map fun x => t * x).sum = S * (l.map fun x => t * x / S).sum + (l.map fun x => t * x % S).sum
  | [] => by simp
  | x :: l => by
    have h := sum_split t S l
    simp only [List.map_cons, List.sum_cons, Int.mul_add, h]
    have := Int.mul_ediv_add_emod (t * x) S
    omega

theorem sum_rest_bd (t S : Int) (hS : 0 < S) : ∀ l : List Int, 0 ≤ (l.map fun x => t * x % S).sum ∧ (l.map fun x => t * x % S).sum ≤ (l.length : Int) * (S - 1)
  | [] => by simp
  | x :: l => by
    have h := sum_rest_bd t S hS l
    have h1 := Int.emod_nonneg (t * x) (show S ≠ 0 by omega)
    have h2 := Int.emod_lt_of_pos (t * x) hS
    simp only [List.map_cons, List.sum_cons, List.length_cons, Int.natCast_add, Int.natCast_one, Int.add_mul, Int.one_mul]
    omega

theorem left_eq (t : Int) (ws : List Int) : ws.sum * shareLeft t ws = (ws.map fun x => t * x % ws.sum).sum := by
  have h1 := sum_split t ws.sum ws
  rw [sum_mul] at h1
  unfold shareLeft
  rw [Int.mul_sub, Int.mul_comm ws.sum t]
  omega

theorem left_bd2 {t : Int} {ws : List Int} (hS : 0 < ws.sum) : 0 ≤ shareLeft t ws ∧ shareLeft t ws < ws.length := by
  have h1 := left_eq t ws
  obtain ⟨h2, h3⟩ := sum_rest_bd t ws.sum hS ws
  have hn : 0 < (ws.length : Int) := by
    cases ws with
    | nil => simp at hS
    | cons x l => simp only [List.length_cons]; omega
  constructor
  · refine Int.not_lt.1 fun h => ?_
    have := Int.mul_neg_of_pos_of_neg hS h
    omega
  · refine Int.lt_of_mul_lt_mul_left (a := ws.sum) ?_ (by omega)
    rw [h1]
    have : ws.sum * (ws.length : Int) = (ws.length : Int) * (ws.sum - 1) + ws.length := by rw [Int.mul_sub, Int.mul_comm]; omega
    omega


theorem left_k_bd {S t : Int} {ws : List Int} {k : Nat} (hS : 0 < S) (hSe : S = ws.sum) (ht : 0 ≤ t) (hw : ∀ x ∈ ws, 0 ≤ x) :
    0 ≤ t - ((ws.take k).map fun x => t * x / S).sum ∧ t - ((ws.take k).map fun x => t * x / S).sum ≤ t := by
  have hnn : ∀ l : List Int, (∀ x ∈ l, 0 ≤ x) → 0 ≤ (l.map fun x => t * x / S).sum := by
    intro l
    induction l with
    | nil => intro _; simp
    | cons x l ih =>
      intro h
      have h1 := ih (fun y hy => h y (by simp [hy]))
      have h2 : 0 ≤ t * x / S := Int.ediv_nonneg (Int.mul_nonneg ht (h x (by simp))) (by omega)
      simp only [List.map_cons, List.sum_cons]
      omega
  have h1 := hnn (ws.take k) (fun x hx => hw x (List.mem_of_mem_take hx))
  have h2 := hnn (ws.drop k) (fun x hx => hw x (List.mem_of_mem_drop hx))
  have h3 : (ws.map fun x => t * x / S).sum = ((ws.take k).map fun x => t * x / S).sum + ((ws.drop k).map fun x => t * x / S).sum := by
    rw [← List.sum_append, ← List.map_append, List.take_append_drop]
  have h4 := (left_bd2 (t := t) (ws := ws) (by omega)).1
  unfold shareLeft at h4
  rw [← hSe] at h4
  omega

theorem numsT_succ (n : Nat) : numsT (n + 1) = numsT n ++ [(n : Int)] := by
  unfold numsT
  rw [List.range_succ, List.map_append]
  rfl
/-- Some of them, raised by one. -/
def bumpT (Q R : List Int) (j : Nat) : List Int := (List.range Q.length).map fun i : Nat => Q[i]! + if (i : Int) ∈ R.take j then 1 else 0

theorem bumpT_len (Q R : List Int) (j : Nat) : (bumpT Q R j).length = Q.length := by simp [bumpT]
theorem bumpT_at {Q R : List Int} {j i : Nat} (h : i < Q.length) : (bumpT Q R j)[i]? = some (Q[i]! + if (i : Int) ∈ R.take j then 1 else 0) := by
  unfold bumpT
  rw [List.getElem?_map, List.getElem?_range h, Option.map_some]
theorem bumpT_zero (Q R : List Int) : bumpT Q R 0 = Q := by
  apply List.ext_getElem?
  intro i
  by_cases h : i < Q.length
  · rw [bumpT_at h, List.take_zero, getElem!_pos Q i h, List.getElem?_eq_getElem h]
    simp
  · rw [List.getElem?_eq_none (by rw [bumpT_len]; omega), List.getElem?_eq_none (by omega)]
theorem bumpT_next {Q R : List Int} {j m : Nat} (hR : R.Nodup) (hj : R[j]? = some (m : Int)) (hm : m < Q.length) : (bumpT Q R j)[m]? = some Q[m]! ∧ (bumpT Q R j).set m (Q[m]! + 1) = bumpT Q R (j + 1) := by
  obtain ⟨h1, h2⟩ := List.getElem?_eq_some_iff.1 hj
  have hn : (m : Int) ∉ R.take j := by
    intro h
    obtain ⟨i, hi, he⟩ := List.getElem_of_mem h
    rw [List.length_take] at hi
    rw [List.getElem_take] at he
    have := (List.pairwise_iff_getElem.1 hR) i j (by omega) h1 (by omega)
    exact this (by rw [he, h2])
  constructor
  · rw [bumpT_at hm, if_neg hn, Int.add_zero]
  · apply List.ext_getElem?
    intro i
    by_cases hi : i < Q.length
    · rw [List.getElem?_set, bumpT_at hi, bumpT_len, bumpT_at hi]
      have ht : R.take (j + 1) = R.take j ++ [(m : Int)] := by rw [List.take_succ_eq_append_getElem h1, h2]
      by_cases he : m = i
      · subst he
        rw [if_pos rfl, if_pos hi, ht]
        simp
      · rw [if_neg he, ht]
        have : ((i : Int) ∈ R.take j ++ [(m : Int)]) ↔ (i : Int) ∈ R.take j := by
          rw [List.mem_append, List.mem_singleton]
          constructor
          · rintro (h | h)
            · exact h
            · omega
          · exact Or.inl
        simp only [this]
    · rw [List.getElem?_eq_none (by rw [List.length_set, bumpT_len]; omega), List.getElem?_eq_none (by rw [bumpT_len]; omega)]
theorem bumpT_share {t : Int} {ws R : List Int} {z : Nat} (hR : R.Perm (numsT ws.length)) (hs : R.Pairwise (lexLt (shareKey t ws))) (hz : (z : Int) = shareLeft t ws) : bumpT (ws.map fun x => t * x / ws.sum) R z = shareT t ws := by
  unfold bumpT shareT
  rw [List.length_map]
  apply List.map_congr_left
  intro i hi
  have hi := List.mem_range.1 hi
  rw [← hz, getElem!_pos ws i hi, getElem!_pos (ws.map fun x => t * x / ws.sum) i (by rw [List.length_map]; exact hi), List.getElem_map]
  congr 1
  have := mem_take_iff (k := z) hR hs hi
  by_cases h : rankOf (shareKey t ws) ws.length i < z
  · rw [if_pos (this.2 h), if_pos (by omega)]
  · rw [if_neg (fun h2 => h (this.1 h2)), if_neg (by omega)]


theorem sum_set_succ : ∀ (l : List Int) (i : Nat) (v : Int), l[i]? = some v → (l.set i (v + 1)).sum = l.sum + 1
  | [], i, v, h => by simp at h
  | x :: l, 0, v, h => by
    simp only [List.getElem?_cons_zero, Option.some.injEq] at h
    subst h
    simp only [List.set_cons_zero, List.sum_cons]
    omega
  | x :: l, i + 1, v, h => by
    have := sum_set_succ l i v (by simpa using h)
    simp only [List.set_cons_succ, List.sum_cons, this]
    omega

theorem bumpT_sum {Q R : List Int} (hR : R.Perm (numsT Q.length)) : ∀ z, z ≤ R.length → (bumpT Q R z).sum = Q.sum + z
  | 0, _ => by rw [bumpT_zero]; simp
  | z + 1, h => by
    have hnd : R.Nodup := hR.nodup_iff.2 ((numsT_asc Q.length).imp (fun {a b} h => by omega))
    obtain ⟨y, hy⟩ : ∃ y, R[z]? = some y := ⟨_, List.getElem?_eq_getElem (by omega)⟩
    have hb := numsT_mem.1 (hR.mem_iff.1 (List.mem_of_getElem? hy))
    obtain ⟨i, rfl⟩ : ∃ i : Nat, y = (i : Int) := ⟨y.toNat, by omega⟩
    obtain ⟨b1, b2⟩ := bumpT_next hnd hy (show i < Q.length by omega)
    rw [← b2, sum_set_succ _ _ _ b1, bumpT_sum hR z (by omega)]
    omega

theorem nums_map_get (ws : List Int) (f : Int → Int) : (numsT ws.length).map (fun n => f ws[n.toNat]!) = ws.map f := by
  apply List.ext_getElem?
  intro i
  unfold numsT
  rw [List.map_map, List.getElem?_map, List.getElem?_map]
  by_cases h : i < ws.length
  · rw [List.getElem?_range h, List.getElem?_eq_getElem h]
    simp [h]
  · rw [List.getElem?_eq_none (by simpa using h), List.getElem?_eq_none (by omega)]
    rfl

/-- Whoever gets one more has a remainder. -/
theorem rest_pos {t : Int} {ws R : List Int} {z i : Nat} (hS : 0 < ws.sum) (hR : R.Perm (numsT ws.length)) (hs : R.Pairwise (lexLt (shareKey t ws))) (hz : (z : Int) = shareLeft t ws) (hi : (i : Int) ∈ R.take z) : 0 < t * ws[i]! % ws.sum := by
  have hnn := Int.emod_nonneg (t * ws[i]!) (show ws.sum ≠ 0 by omega)
  refine Classical.byContradiction fun hc => ?_
  have h0 : t * ws[i]! % ws.sum = 0 := by omega
  have hzR : z ≤ R.length := by
    have := (left_bd2 (t := t) hS).2
    rw [hR.length_eq, numsT_len]
    omega
  obtain ⟨p, hp, hpe⟩ := List.getElem_of_mem hi
  rw [List.length_take] at hp
  rw [List.getElem_take] at hpe
  have hsum : (R.map fun n => t * ws[n.toNat]! % ws.sum).sum = ws.sum * z := by
    rw [perm_sum' (hR.map _), nums_map_get ws (fun x => t * x % ws.sum), ← left_eq, hz]
  have hsplit : (R.map fun n => t * ws[n.toNat]! % ws.sum).sum = ((R.take p).map fun n => t * ws[n.toNat]! % ws.sum).sum + ((R.drop p).map fun n => t * ws[n.toNat]! % ws.sum).sum := by
    rw [← List.sum_append, ← List.map_append, List.take_append_drop]
  have hdrop : ((R.drop p).map fun n => t * ws[n.toNat]! % ws.sum).sum = 0 := by
    have : ∀ l : List Int, (∀ n ∈ l, t * ws[n.toNat]! % ws.sum = 0) → (l.map fun n => t * ws[n.toNat]! % ws.sum).sum = 0 := by
      intro l
      induction l with
      | nil => intro _; rfl
      | cons x l ih => intro h; simp only [List.map_cons, List.sum_cons, h x (by simp), ih (fun n hn => h n (by simp [hn]))]; rfl
    refine this _ fun n hn => ?_
    obtain ⟨q, hq, rfl⟩ := List.getElem_of_mem hn
    rw [List.length_drop] at hq
    rw [List.getElem_drop]
    rcases Nat.eq_zero_or_pos q with hq0 | hq0
    · subst hq0
      simp only [Nat.add_zero, hpe, Int.toNat_natCast]
      exact h0
    · have hl := (List.pairwise_iff_getElem.1 hs) p (p + q) (by omega) (by omega) (by omega)
      rw [hpe] at hl
      unfold lexLt shareKey at hl
      have := Int.emod_nonneg (t * ws[(R[p + q]).toNat]!) (show ws.sum ≠ 0 by omega)
      rw [Int.toNat_natCast, h0] at hl
      omega
  have htake : ((R.take p).map fun n => t * ws[n.toNat]! % ws.sum).sum ≤ (p : Int) * (ws.sum - 1) := by
    have : ∀ l : List Int, (l.map fun n => t * ws[n.toNat]! % ws.sum).sum ≤ (l.length : Int) * (ws.sum - 1) := by
      intro l
      induction l with
      | nil => simp
      | cons x l ih =>
        have := Int.emod_lt_of_pos (t * ws[x.toNat]!) hS
        simp only [List.map_cons, List.sum_cons, List.length_cons, Int.natCast_add, Int.natCast_one, Int.add_mul, Int.one_mul]
        omega
    have h2 := this (R.take p)
    rw [List.length_take, Nat.min_eq_left (by omega)] at h2
    exact h2
  have hpz : (p : Int) + 1 ≤ z := by omega
  have h3 : (p : Int) * (ws.sum - 1) = p * ws.sum - p := by rw [Int.mul_sub, Int.mul_one]
  have h4 : ((p : Int) + 1) * ws.sum ≤ z * ws.sum := Int.mul_le_mul_of_nonneg_right hpz (by omega)
  rw [Int.add_mul, Int.one_mul] at h4
  rw [Int.mul_comm ws.sum] at hsum
  omega

theorem shareT_sum {t : Int} {ws : List Int} (hS : 0 < ws.sum) : (shareT t ws).sum = t := by
  obtain ⟨R, hR, hs⟩ := order_ex (shareKey t ws) ws.length
  obtain ⟨b1, b2⟩ := left_bd2 (t := t) hS
  obtain ⟨z, hz⟩ : ∃ z : Nat, (z : Int) = shareLeft t ws := ⟨(shareLeft t ws).toNat, by omega⟩
  rw [← bumpT_share hR hs hz, bumpT_sum (by rw [List.length_map]; exact hR) z (by rw [hR.length_eq, numsT_len]; omega), hz]
  unfold shareLeft
  omega

theorem shareT_bd {t x : Int} {ws : List Int} {i : Nat} (hS : 0 < ws.sum) (ht : 0 ≤ t) (htS : t ≤ ws.sum) (hx : ws[i]? = some x) (hx0 : 0 ≤ x) : ∃ y, (shareT t ws)[i]? = some y ∧ 0 ≤ y ∧ y ≤ x := by
  refine ⟨_, shareT_at hx, ?_, ?_⟩
  · have : 0 ≤ t * x / ws.sum := Int.ediv_nonneg (Int.mul_nonneg ht hx0) (by omega)
    split <;> omega
  · have hle : t * x ≤ ws.sum * x := Int.mul_le_mul_of_nonneg_right htS hx0
    have hdm := Int.mul_ediv_add_emod (t * x) ws.sum
    have hmn := Int.emod_nonneg (t * x) (show ws.sum ≠ 0 by omega)
    split
    · rename_i hr
      obtain ⟨R, hR, hs⟩ := order_ex (shareKey t ws) ws.length
      obtain ⟨b1, b2⟩ := left_bd2 (t := t) hS
      obtain ⟨z, hz⟩ : ∃ z : Nat, (z : Int) = shareLeft t ws := ⟨(shareLeft t ws).toNat, by omega⟩
      have hin : i < ws.length := (List.getElem?_eq_some_iff.1 hx).1
      have hmem := (mem_take_iff (k := z) hR hs hin).2 (by omega)
      have hp := rest_pos hS hR hs hz hmem
      have hwi : ws[i]! = x := by rw [List.getElem!_eq_getElem?_getD, hx]; rfl
      rw [hwi] at hp
      have hlt : ws.sum * (t * x / ws.sum) < ws.sum * x := by omega
      have := Int.lt_of_mul_lt_mul_left hlt (by omega)
      omega
    · have hlt : ws.sum * (t * x / ws.sum) ≤ ws.sum * x := by omega
      have := Int.le_of_mul_le_mul_left hlt hS
      omega


/-- An order by the greater remainders is one by the keys of shares. -/
theorem sorted_lex {v key : Nat → Int} {n : Nat} {X : Nat → Nat} (h : SortedW v n X) (hk : ∀ i, i < n → key i = -v i) : (lstX X n).Pairwise (lexLt key) := by
  unfold lstX
  rw [List.pairwise_map]
  refine List.Pairwise.imp_of_mem ?_ (List.pairwise_lt_range (n := n))
  intro a b ha hb hab
  have hb' := List.mem_range.1 hb
  have h1 := h.2.2 a b hab hb'
  have ka := hk (X a) (h.1 a (by omega))
  have kb := hk (X b) (h.1 b hb')
  unfold lexLt
  rw [Int.toNat_natCast, Int.toNat_natCast]
  unfold bef at h1
  omega
theorem inj_surj : ∀ (n : Nat) (f : Nat → Nat), (∀ a, a < n → f a < n) → (∀ a b, a < n → b < n → f a = f b → a = b) → ∀ i, i < n → ∃ a, a < n ∧ f a = i
  | 0, _, _, _, i, hi => by omega
  | n + 1, f, h1, h2, i, hi => by
    obtain ⟨m, hm⟩ : ∃ m, m = f n := ⟨_, rfl⟩
    have hmn := h1 n (by omega)
    by_cases c : i = m
    · exact ⟨n, by omega, by omega⟩
    · have hg : ∀ a, a < n → (if f a = n then m else f a) < n := fun a ha => by
        have := h1 a (by omega)
        have := h2 a n (by omega) (by omega)
        split <;> omega
      have hinj : ∀ a b, a < n → b < n → (if f a = n then m else f a) = (if f b = n then m else f b) → a = b := fun a b ha hb e => by
        have k1 := h2 a b (by omega) (by omega)
        have k2 := h2 a n (by omega) (by omega)
        have k3 := h2 b n (by omega) (by omega)
        split at e <;> split at e <;> omega
      obtain ⟨a, ha, e⟩ := inj_surj n (fun a => if f a = n then m else f a) hg hinj (if i = n then m else i) (by split <;> omega)
      refine ⟨a, by omega, ?_⟩
      have k2 := h2 a n (by omega) (by omega)
      split at e <;> split at e <;> omega
theorem sorted_perm {v : Nat → Int} {n : Nat} {X : Nat → Nat} (h : SortedW v n X) : (lstX X n).Perm (numsT n) := by
  have hnd : (lstX X n).Nodup := by
    unfold lstX
    refine (List.pairwise_map.2 ?_)
    refine List.Pairwise.imp_of_mem ?_ (List.pairwise_lt_range (n := n))
    intro a b ha hb hab e
    have := h.2.1 a b (List.mem_range.1 ha) (List.mem_range.1 hb) (by omega)
    omega
  have hnn : (numsT n).Nodup := (numsT_asc n).imp fun h => by omega
  refine (List.perm_ext_iff_of_nodup hnd hnn).2 fun x => ?_
  rw [numsT_mem]
  constructor
  · intro hx
    unfold lstX at hx
    obtain ⟨i, hi, rfl⟩ := List.mem_map.1 hx
    have := h.1 i (List.mem_range.1 hi)
    omega
  · intro hx
    obtain ⟨a, ha, e⟩ := inj_surj n X h.1 h.2.1 x.toNat (by omega)
    unfold lstX
    exact List.mem_map.2 ⟨a, List.mem_range.2 ha, by omega⟩
/-- The shares of an amount, or of as much as there is. -/
def shareU (A : Int) (ws : List Int) : List Int := shareT (min A ws.sum) ws
theorem shareT_zero (ws : List Int) : shareT 0 ws = List.replicate ws.length 0 := by
  have h0 : shareLeft 0 ws = 0 := by
    unfold shareLeft
    have : (ws.map fun x => 0 * x / ws.sum) = ws.map fun _ => 0 := List.map_congr_left fun x _ => by rw [Int.zero_mul, Int.zero_ediv]
    rw [this]
    have : ∀ l : List Int, (l.map fun _ => (0 : Int)).sum = 0 := fun l => by induction l with
      | nil => rfl
      | cons x l ih => rw [List.map_cons, List.sum_cons, ih]; rfl
    rw [this]
    rfl
  unfold shareT
  rw [h0]
  refine List.ext_getElem (by simp) fun i h1 h2 => ?_
  rw [List.getElem_map, List.getElem_replicate, List.getElem_range, Int.zero_mul, Int.zero_ediv, if_neg (by omega)]
  rfl
theorem sum_nonneg : ∀ {ws : List Int}, (∀ x ∈ ws, 0 ≤ x) → 0 ≤ ws.sum
  | [], _ => by simp
  | x :: l, h => by
    have := sum_nonneg (ws := l) (fun y hy => h y (by simp [hy]))
    have := h x (by simp)
    rw [List.sum_cons]
    omega
theorem sum_take_le : ∀ {ws : List Int} (k : Nat), (∀ x ∈ ws, 0 ≤ x) → (ws.take k).sum ≤ ws.sum := fun {ws} k h => by
  have h1 : ws.sum = (ws.take k).sum + (ws.drop k).sum := by rw [← List.sum_append, List.take_append_drop]
  have := sum_nonneg (ws := ws.drop k) (fun x hx => h x (List.mem_of_mem_drop hx))
  omega
theorem sum_bd {B : Int} : ∀ {ws : List Int}, (∀ x ∈ ws, x ≤ B) → ws.sum ≤ ws.length * B
  | [], _ => by simp
  | x :: l, h => by
    have h1 := sum_bd (ws := l) (fun y hy => h y (by simp [hy]))
    have h2 := h x (by simp)
    rw [List.sum_cons, List.length_cons, Int.natCast_add, Int.natCast_one, Int.add_mul]
    omega

end Go.Proofs.Ytmkpidipoadnbaa
