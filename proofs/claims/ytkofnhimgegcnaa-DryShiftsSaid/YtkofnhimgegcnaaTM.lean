/- Times: sorted numbers without repeats. -/
import Derived.Test.YtkofnhimgegcnaaSH
import Derived.Test.YtkofnhimgegcnaaF
namespace Go.Proofs.Ytkofnhimgegcnaa
open Go.RowKit Go.Lib

theorem compact_up (d : Array Int) (hs : ∀ i j, i < j → j < d.size → d[i]! ≤ d[j]!) : ∀ m : Nat, m ≤ d.size →
    (compactUpTo d m).Pairwise (· < ·) ∧ (∀ x ∈ compactUpTo d m, ∃ j, j < m ∧ x = d[j]!) ∧ (∀ j, j < m → d[j]! ∈ compactUpTo d m) := by
  intro m
  induction m with
  | zero => intro _; exact ⟨by simp [compactUpTo], fun x hx => by simp [compactUpTo] at hx, fun j hj => by omega⟩
  | succ m ih =>
    intro hm
    obtain ⟨h1, h2, h3⟩ := ih (by omega)
    rw [compactUpTo_succ]
    by_cases hk : keeps d m = true
    · rw [if_pos hk]
      refine ⟨?_, ?_, ?_⟩
      · rw [List.pairwise_append]
        refine ⟨h1, by simp, fun x hx y hy => ?_⟩
        simp at hy
        subst hy
        obtain ⟨j, hj, rfl⟩ := h2 x hx
        have a := hs j m hj (by omega)
        by_cases e : d[j]! = d[m]!
        · exfalso
          have hm0 : 0 < m := by omega
          have b1 : d[m - 1]! ≤ d[m]! := hs (m - 1) m (by omega) (by omega)
          have b2 : d[j]! ≤ d[m - 1]! := by
            by_cases e2 : j = m - 1
            · rw [e2]; exact Int.le_refl _
            · exact hs j (m - 1) (by omega) (by omega)
          have b3 : d[m]! = d[m - 1]! := by omega
          rw [keeps_neg hm0 b3] at hk
          cases hk
        · omega
      · intro x hx
        rw [List.mem_append] at hx
        rcases hx with hx | hx
        · obtain ⟨j, hj, e⟩ := h2 x hx
          exact ⟨j, by omega, e⟩
        · simp at hx
          exact ⟨m, by omega, hx⟩
      · intro j hj
        rw [List.mem_append]
        by_cases e : j = m
        · subst e; right; simp
        · exact Or.inl (h3 j (by omega))
    · rw [if_neg hk, List.append_nil]
      refine ⟨h1, fun x hx => ?_, fun j hj => ?_⟩
      · obtain ⟨j, hj, e⟩ := h2 x hx
        exact ⟨j, by omega, e⟩
      · by_cases e : j = m
        · subst e
          have hj0 : 0 < j := by
            rcases Nat.eq_zero_or_pos j with h | h
            · subst h
              exact absurd (keeps_lt_one d 0 (by omega)) hk
            · exact h
          have : d[j]! = d[j - 1]! := Decidable.byContradiction fun hne => hk (keeps_pos hne)
          rw [this]
          exact h3 (j - 1) (by omega)
        · exact h3 j (by omega)

/-- The times that occur, rising. -/
structure Times (T : List Int) (l : List Int) : Prop where
  lt : T.Pairwise (· < ·)
  mem : ∀ x, x ∈ T ↔ x ∈ l

theorem times_of (l : List Int) : Times (Lib.compact (l.mergeSort fun x y => decide (x ≤ y))) l := by
  obtain ⟨z, hz⟩ : ∃ z, z = l.mergeSort fun x y => decide (x ≤ y) := ⟨_, rfl⟩
  have hp : z.Perm l := by rw [hz]; exact List.mergeSort_perm _ _
  have hs : z.Pairwise (fun x y => decide (x ≤ y) = true) := by
    rw [hz]
    exact List.pairwise_mergeSort (fun a b c h1 h2 => by simp at *; omega) (fun a b => by simp; omega) _
  rw [← hz]
  have hsz : z.toArray.size = z.length := by simp
  have key := compact_up z.toArray (fun i j hij hj => by
    have hj' : j < z.length := by simpa using hj
    rw [getElem!_pos z.toArray i (by simp; omega), getElem!_pos z.toArray j (by simpa using hj)]
    have := List.pairwise_iff_getElem.1 hs i j (by omega) hj' hij
    simpa using this) z.length (by simp)
  obtain ⟨h1, h2, h3⟩ := key
  refine ⟨h1, fun x => ?_⟩
  rw [← hp.mem_iff]
  constructor
  · intro hx
    obtain ⟨j, hj, rfl⟩ := h2 x hx
    rw [getElem!_pos z.toArray j (by simpa using hj)]
    simp
  · intro hx
    obtain ⟨j, hj, rfl⟩ := List.getElem_of_mem hx
    have := h3 j hj
    rw [getElem!_pos z.toArray j (by simpa using hj)] at this
    have e : z.toArray[j]'(by simpa using hj) = z[j] := by simp
    rw [e] at this
    exact this

end Go.Proofs.Ytkofnhimgegcnaa
