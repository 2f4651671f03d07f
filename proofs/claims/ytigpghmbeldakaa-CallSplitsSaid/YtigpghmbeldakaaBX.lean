/- Shares of the reference: the mathematics. No Go here. -/
import Derived.Test.YtigpghmbeldakaaBH
namespace Go.Proofs.Ytigpghmbeldakaa
open Go.RowKit

/-- The remainders of which the first z of an order are gone. -/
def maskT (M R : List Int) (z : Nat) : List Int := (List.range M.length).map fun i : Nat => if (i : Int) ∈ R.take z then -1 else M[i]!
theorem maskT_len (M R : List Int) (z : Nat) : (maskT M R z).length = M.length := by simp [maskT]
theorem maskT_at {M R : List Int} {z i : Nat} (h : i < M.length) : (maskT M R z)[i]? = some (if (i : Int) ∈ R.take z then -1 else M[i]!) := by
  unfold maskT
  rw [List.getElem?_map, List.getElem?_range h, Option.map_some]
theorem maskT_zero (M R : List Int) : maskT M R 0 = M := by
  apply List.ext_getElem?
  intro i
  by_cases h : i < M.length
  · rw [maskT_at h, if_neg (by simp), getElem!_pos M i h, List.getElem?_eq_getElem h]
  · rw [List.getElem?_eq_none (by rw [maskT_len]; omega), List.getElem?_eq_none (by omega)]
theorem maskT_next {M R : List Int} {z m : Nat} (hz : R[z]? = some (m : Int)) (hm : m < M.length) : (maskT M R z).set m (-1) = maskT M R (z + 1) := by
  apply List.ext_getElem?
  intro i
  by_cases h : i < M.length
  · rw [List.getElem?_set, maskT_at h, maskT_at h, maskT_len]
    have ht := take_next hz
    by_cases he : m = i
    · subst he
      rw [if_pos rfl, if_pos hm, if_pos (by rw [ht]; simp)]
    · rw [if_neg he, ht]
      have : ((i : Int) ∈ R.take z ++ [(m : Int)]) ↔ (i : Int) ∈ R.take z := by
        rw [List.mem_append, List.mem_singleton]
        constructor
        · rintro (h | h)
          · exact h
          · omega
        · exact Or.inl
      by_cases hc : (i : Int) ∈ R.take z
      · rw [if_pos hc, if_pos (this.2 hc)]
      · rw [if_neg hc, if_neg (fun h => hc (this.1 h))]
  · rw [List.getElem?_eq_none (by rw [List.length_set, maskT_len]; omega), List.getElem?_eq_none (by rw [maskT_len]; omega)]

/-- The first of the greatest. -/
def FirstMax (M : List Int) (k b : Nat) : Prop := b < M.length ∧ ∀ j, j < k → M[j]! < M[b]! ∨ M[j]! = M[b]! ∧ b ≤ j

theorem FirstMax.skip {M : List Int} {k b : Nat} (h : FirstMax M k b) (hk : M[k]! ≤ M[b]!) (hb : b ≤ k) : FirstMax M (k + 1) b := by
  refine ⟨h.1, fun j hj => ?_⟩
  rcases Nat.lt_or_ge j k with h1 | h1
  · exact h.2 j h1
  · have : j = k := by omega
    subst this
    omega
theorem FirstMax.take {M : List Int} {k b : Nat} (h : FirstMax M k b) (hk : M[b]! < M[k]!) (hl : k < M.length) : FirstMax M (k + 1) k := by
  refine ⟨hl, fun j hj => ?_⟩
  rcases Nat.lt_or_ge j k with h1 | h1
  · have := h.2 j h1
    omega
  · have : j = k := by omega
    subst this
    omega

/-- What is picked next is the next one of the order. -/
theorem pick_next {key : Nat → Int} {M R : List Int} {z b : Nat} (hk : ∀ i, i < M.length → key i = -M[i]!) (hM : ∀ i, i < M.length → 0 ≤ M[i]!) (hR : R.Perm (numsT M.length)) (hs : R.Pairwise (lexLt key)) (hz : z < M.length) (hb : FirstMax (maskT M R z) M.length b) : R[z]? = some (b : Int) := by
  have hRl : R.length = M.length := by rw [hR.length_eq, numsT_len]
  obtain ⟨hbl, hmax⟩ := hb
  rw [maskT_len] at hbl
  have gM : ∀ i, i < M.length → (maskT M R z)[i]! = if (i : Int) ∈ R.take z then -1 else M[i]! := fun i hi => by
    rw [List.getElem!_eq_getElem?_getD, maskT_at hi]
    rfl
  have hnd : R.Nodup := hR.nodup_iff.2 ((numsT_asc _).imp (fun {a b} h => by omega))
  have hmem : R[z]'(by omega) ∈ R := List.getElem_mem _
  have hin := numsT_mem.1 (hR.mem_iff.1 hmem)
  obtain ⟨m, hm⟩ : ∃ m : Nat, R[z]'(by omega) = (m : Int) := ⟨(R[z]'(by omega)).toNat, by omega⟩
  have hml : m < M.length := by rw [hm] at hin; omega
  have hnt : (m : Int) ∉ R.take z := fun h => by
    obtain ⟨q, hq, hqe⟩ := List.getElem_of_mem h
    rw [List.length_take] at hq
    rw [List.getElem_take] at hqe
    have hqe' := hqe.trans hm.symm
    exact (List.pairwise_iff_getElem.1 hnd) q z (by omega) (by omega) (by omega) hqe'
  have h1 := hmax m hml
  rw [gM m hml, gM b hbl, if_neg hnt] at h1
  have hM0 := hM m hml
  have hbt : (b : Int) ∉ R.take z := fun h => by
    rw [if_pos h] at h1
    omega
  rw [if_neg hbt] at h1
  have hbR : (b : Int) ∈ R := hR.mem_iff.2 (numsT_mem.2 (by omega))
  obtain ⟨p, hp, hpe⟩ := List.getElem_of_mem hbR
  have hzp : z ≤ p := by
    refine Nat.not_lt.1 fun hc => hbt ?_
    rw [List.mem_take_iff_getElem]
    exact ⟨p, by omega, hpe⟩
  rcases Nat.lt_or_ge z p with h2 | h2
  · have := (List.pairwise_iff_getElem.1 hs) z p (by omega) hp h2
    rw [hm, hpe] at this
    unfold lexLt at this
    simp only [Int.toNat_natCast, hk m hml, hk b hbl] at this
    omega
  · have : p = z := by omega
    subst this
    rw [List.getElem?_eq_getElem hp, hpe]

end Go.Proofs.Ytigpghmbeldakaa
