/- What judging a plan and a crush needs. No Go. -/
import Derived.Test.YtkofnhimgegcnaaAN
namespace Go.Proofs.Ytkofnhimgegcnaa
open Go Go.RowKit Go.Sort

theorem PlanT.len {l : List Ld} {K : Int} {P : List Tn} (h : PlanT l K P) (hn : l.length ≤ 256) : P.length ≤ 1000000 := by
  obtain ⟨f, l', hf, hp, _, hq, _⟩ := h
  have h1 := hq.length_eq
  have h2 := addJ_lens l'
  have h3 := hp.length_eq
  have h4 := allT_le (netE (timesOf l) K l) f (timesOf l) l.length ((timesOf l).length - 1)
  have h5 := netE_len (timesOf l) K l
  have h6 := timesOf_len l
  have h7 : l.length * ((timesOf l).length + 1) ≤ 256 * 513 := Nat.mul_le_mul hn (by omega)
  omega
theorem PlanT.sorted {l : List Ld} {K : Int} {P : List Tn} (h : PlanT l K P) : P.Pairwise (fun x y => ltOf cfF y x = false) := by
  obtain ⟨f, l', hf, hp, _, hq, hs⟩ := h
  exact hs

theorem sumT_nonneg {μ : Tn → Int} {P : List Tn} (h : ∀ t ∈ P, 0 ≤ μ t) : 0 ≤ sumT μ P := by
  induction P with
  | nil => exact Int.le_refl _
  | cons x P ih =>
    rw [sumT_cons]
    have := h x (by simp)
    have := ih (fun t ht => h t (by simp [ht]))
    omega
theorem sumT_mem {μ : Tn → Int} {P : List Tn} (h : ∀ t ∈ P, 0 ≤ μ t) {x : Tn} (hx : x ∈ P) : μ x ≤ sumT μ P := by
  induction P with
  | nil => cases hx
  | cons y P ih =>
    rw [sumT_cons]
    have h0 := h y (by simp)
    have h1 := sumT_nonneg (P := P) (fun t ht => h t (by simp [ht]))
    rcases List.mem_cons.1 hx with rfl | hx
    · omega
    · have := ih (fun t ht => h t (by simp [ht])) hx
      omega
theorem sumT_take {μ : Tn → Int} {P : List Tn} (h : ∀ t ∈ P, 0 ≤ μ t) (k : Nat) : 0 ≤ sumT μ (P.take k) ∧ sumT μ (P.take k) ≤ sumT μ P := by
  have h1 := sumT_nonneg (P := P.take k) (fun t ht => h t (List.mem_of_mem_take ht))
  have h2 := sumT_nonneg (P := P.drop k) (fun t ht => h t (List.mem_of_mem_drop ht))
  have h3 : sumT μ P = sumT μ (P.take k) + sumT μ (P.drop k) := by rw [← sumT_append, List.take_append_drop]
  omega
theorem sumT_next {μ : Tn → Int} {P : List Tn} {k : Nat} {x : Tn} (h : P[k]? = some x) : sumT μ (P.take (k + 1)) = sumT μ (P.take k) + μ x := by
  have hk' : k < P.length := (List.getElem?_eq_some_iff.1 h).1
  have e : P[k] = x := (List.getElem?_eq_some_iff.1 h).2
  rw [List.take_succ_eq_append_getElem hk', sumT_append, e]
  simp [sumT]
theorem sumT_two' {μ : Tn → Int} {P : List Tn} (h : ∀ t ∈ P, 0 ≤ μ t) {i k : Nat} {x y : Tn} (hik : i < k) (hx : P[i]? = some x) (hy : P[k]? = some y) : μ x + μ y ≤ sumT μ P := by
  have h1 := sumT_next (μ := μ) hy
  have h2 := (sumT_take h (k + 1)).2
  have h3 : x ∈ P.take k := List.mem_of_getElem? (i := i) (by rw [List.getElem?_take, if_pos hik]; exact hx)
  have h4 := sumT_mem (μ := μ) (P := P.take k) (fun t ht => h t (List.mem_of_mem_take ht)) h3
  omega
theorem sumT_two {μ : Tn → Int} {P : List Tn} (h : ∀ t ∈ P, 0 ≤ μ t) {i k : Nat} {x y : Tn} (hik : i ≠ k) (hx : P[i]? = some x) (hy : P[k]? = some y) : μ x + μ y ≤ sumT μ P := by
  rcases Nat.lt_or_gt_of_ne hik with h' | h'
  · exact sumT_two' h h' hx hy
  · have := sumT_two' h h' hy hx
    omega

theorem cov1_bd (h : Int) (t : Tn) : 0 ≤ cov1 h t ∧ cov1 h t ≤ 1 := by unfold cov1; split <;> omega
theorem cov_le (h : Int) : ∀ P : List Tn, 0 ≤ sumT (cov1 h) P ∧ sumT (cov1 h) P ≤ P.length
  | [] => by simp [sumT]
  | x :: P => by
    have ih := cov_le h P
    have := cov1_bd h x
    rw [sumT_cons, List.length_cons]
    omega

/-- No other turn of the same load. -/
theorem PlanOK.other {l : List Ld} {K : Int} {P : List Tn} (h : PlanOK l K P) {i k : Nat} {x y : Tn} (hik : k ≠ i) (hx : P[i]? = Option.some x) (hy : P[k]? = Option.some y) (h1 : y.2.1 ≤ x.2.1 ∧ x.2.1 < y.2.2) (h2 : y.1 = x.1) : False := by
  have h3 := sumT_two (μ := covL1 x.1 x.2.1) (P := P) (fun t _ => by unfold covL1; split <;> omega) hik hy hx
  have h4 := h.one x.1 x.2.1
  have h5 := h.lt x (List.mem_of_getElem? hx)
  have h6 : covL1 x.1 x.2.1 x = 1 := by unfold covL1; rw [if_pos ⟨rfl, by omega, by omega⟩]
  have h7 : covL1 x.1 x.2.1 y = 1 := by unfold covL1; rw [if_pos ⟨h2, h1.1, h1.2⟩]
  omega

/-- The hours of each load in the first k turns. -/
def sumsL (n : Nat) (P : List Tn) : List Int := (List.range n).map (fun (j : Nat) => sumT (len1 (j : Int)) P)
theorem sumsL_len (n : Nat) (P : List Tn) : (sumsL n P).length = n := by simp [sumsL]
theorem sumsL_get {n j : Nat} (P : List Tn) (hj : j < n) : (sumsL n P)[j]? = some (sumT (len1 (j : Int)) P) := by simp [sumsL, hj]
theorem sumsL_nil (n : Nat) : sumsL n [] = List.replicate n 0 := by
  refine List.ext_getElem? (fun j => ?_)
  by_cases hj : j < n
  · rw [sumsL_get _ hj]; simp [hj, sumT]
  · rw [List.getElem?_eq_none (by rw [sumsL_len]; omega), List.getElem?_eq_none (by simp; omega)]
theorem sumsL_next {n k j : Nat} {P : List Tn} {x : Tn} (h : P[k]? = some x) (hj : x.1 = (j : Int)) (hjn : j < n) : sumsL n (P.take (k + 1)) = (sumsL n (P.take k)).set j (sumT (len1 (j : Int)) (P.take k) + (x.2.2 - x.2.1)) := by
  refine List.ext_getElem? (fun i => ?_)
  by_cases hi : i < n
  · rw [sumsL_get _ hi, sumT_next h]
    by_cases e : i = j
    · subst e
      rw [List.getElem?_set_self (by rw [sumsL_len]; exact hi)]
      unfold len1; rw [if_pos hj]
    · rw [List.getElem?_set_ne (fun h => e h.symm), sumsL_get _ hi]
      unfold len1; rw [if_neg (fun h => e (by omega))]; simp
  · rw [List.getElem?_eq_none (by rw [sumsL_len]; omega), List.getElem?_eq_none (by rw [List.length_set, sumsL_len]; omega)]

theorem PlanOK.sum_bd {l : List Ld} {K : Int} {P : List Tn} (h : PlanOK l K P) (hok : ∀ x ∈ l, okN x) {j : Nat} (hj : j < l.length) (k : Nat) : 0 ≤ sumT (len1 (j : Int)) (P.take k) ∧ sumT (len1 (j : Int)) (P.take k) ≤ 1000000 := by
  obtain ⟨x, hx⟩ : ∃ x, l[j]? = Option.some x := ⟨_, List.getElem?_eq_getElem hj⟩
  have h1 := sumT_take (μ := len1 (j : Int)) (P := P) (fun t ht => by have := h.lt t ht; unfold len1; split <;> omega) k
  rw [h.len j x hx] at h1
  have := hok x (List.mem_of_getElem? hx)
  unfold okN at this
  omega

/-- What a load of a crush needs in the hours of the crush. -/
def needL (l : List Ld) (H : List (Int × Int)) (i : Nat) : Int :=
  match l[i]? with
  | some x => max 0 (x.2.2.1 - (x.2.1 - x.1 - withinL x H))
  | none => 0
def needsL (l : List Ld) (H : List (Int × Int)) (L : List Nat) : Int := (L.map (needL l H)).sum

theorem needsL_next {l : List Ld} {H : List (Int × Int)} {L : List Nat} {k i : Nat} (h : L[k]? = some i) : needsL l H (L.take (k + 1)) = needsL l H (L.take k) + needL l H i := by
  have hk' : k < L.length := (List.getElem?_eq_some_iff.1 h).1
  have e : L[k] = i := (List.getElem?_eq_some_iff.1 h).2
  unfold needsL
  rw [List.take_succ_eq_append_getElem hk', List.map_append, List.sum_append, e]
  simp

theorem needs_sum (S : Nat → Bool) (n : Nat) (T : List Int) : ∀ (l : List Ld) (j : Nat), needs S n T l j = sumN l.length (fun i => if S (2 + (j + i)) = true then (match l[i]? with | some x => x.2.2.1 - outL S n T x | none => 0) else 0)
  | [], _ => rfl
  | x :: l, j => by
    rw [needs, needs_sum S n T l (j + 1), List.length_cons, Nat.add_comm l.length 1, sumN_split]
    have e : sumN 1 (fun i => if S (2 + (j + i)) = true then (match (x :: l)[i]? with | some x => x.2.2.1 - outL S n T x | none => 0) else 0) = if S (2 + j) = true then x.2.2.1 - outL S n T x else 0 := by simp [sumN]
    rw [e]
    congr 1
    refine sumN_congr (fun i _ => ?_)
    rw [show 2 + (j + 1 + i) = 2 + (j + (1 + i)) by omega, Nat.add_comm 1 i, List.getElem?_cons_succ]

theorem metL_sum (g : Nat → Int) (lev : Nat → Int) (n : Nat) : ((metL lev n).map g).sum = sumN n (fun i => if metS lev (2 + i) = true then g i else 0) := by
  induction n with
  | zero => rfl
  | succ n ih =>
    rw [metL_next, sumN, ← ih]
    by_cases h : 0 ≤ lev (2 + n)
    · rw [if_pos h, List.map_append, List.sum_append, if_pos (by simp [metS, h])]; simp
    · rw [if_neg h, if_neg (by simp [metS, h])]; simp

/-- The loads of a crush need more than the kilns have in its hours. -/
theorem crush_needs {l : List Ld} {K val : Int} {f lev : Nat → Int} {N : Nat} (hF : Flow (netE (timesOf l) K l) f val) (hE : Ends (netE (timesOf l) K l) N) (hN : 1 < N) (hV : Lev (netE (timesOf l) K l) N f lev) (h1 : lev 1 < 0) (hlt : val < totalL l) (hok : ∀ x ∈ l, okN x) (h0 : 0 < (timesOf l).length) :
    sumH (fun h => h.2 - h.1) (metH lev l.length (timesOf l) ((timesOf l).length - 1)) * K < needsL l (metH lev l.length (timesOf l) ((timesOf l).length - 1)) (metL lev l.length) := by
  have h2 := crush hF hE hN hV h1 hlt
  have hT := timesOf_spec l
  rw [hours_met hT.lt h0]
  unfold needsL
  rw [metL_sum]
  rw [needs_sum] at h2
  rw [Int.mul_comm]
  refine Int.lt_of_lt_of_le h2 (sumN_le (fun i hi => ?_))
  rw [Nat.zero_add]
  split
  · obtain ⟨x, hx⟩ : ∃ x, l[i]? = some x := ⟨_, List.getElem?_eq_getElem hi⟩
    have hxm := List.mem_of_getElem? hx
    have hb := hok x hxm
    unfold okN at hb
    have := out_within (lev := lev) hT hxm hb.2.1
    unfold needL
    rw [hx]
    dsimp only
    omega
  · exact Int.le_refl _

end Go.Proofs.Ytkofnhimgegcnaa
