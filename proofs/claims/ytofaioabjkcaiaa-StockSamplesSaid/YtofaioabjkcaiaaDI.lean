/- What is sampled (no Go). -/
import Derived.Test.YtofaioabjkcaiaaDH
namespace Go.Proofs.Ytofaioabjkcaiaa
open Go.RowKit

/-- Behind i rounds from x0: the generator's state, who is where, what was drawn. -/
inductive Samp (n x0 : Int) : Nat → Int → (Int → Int) → List Int → Prop
  | zero : Samp n x0 0 x0 (fun i => i) []
  | step {i : Nat} {x x' v : Int} {F : Int → Int} {l : List Int} : Samp n x0 i x F l → (i : Int) < n → Drawn (limT (n - i)) (n - i) x x' v → Samp n x0 (i + 1) x' (updF F (i + v) (F i)) (l ++ [F (i + v)])

theorem Drawn.bd {L m x x' v : Int} (h : Drawn L m x x' v) (hm : 1 ≤ m) : 0 ≤ v ∧ v < m := by
  obtain ⟨t, _, _, _, _, rfl⟩ := h
  exact ⟨Int.emod_nonneg _ (by omega), Int.emod_lt_of_pos _ (by omega)⟩

theorem Drawn.st {L m x x' v : Int} (h : Drawn L m x x' v) (h1 : 0 ≤ x) (h2 : x < 18446744073709551616) : 0 ≤ x' ∧ x' < 18446744073709551616 := by
  obtain ⟨t, _, rfl, _, _, _⟩ := h
  exact stepN_bd h1 h2 t

theorem Samp.st {n x0 : Int} {i : Nat} {x : Int} {F : Int → Int} {l : List Int} (h0 : 0 ≤ x0) (h1 : x0 < 18446744073709551616) (h : Samp n x0 i x F l) : 0 ≤ x ∧ x < 18446744073709551616 := by
  induction h with
  | zero => exact ⟨h0, h1⟩
  | step _ _ hd ih => exact hd.st ih.1 ih.2

theorem Samp.unique {n x0 : Int} {i : Nat} {x x2 : Int} {F F2 : Int → Int} {l l2 : List Int} (h : Samp n x0 i x F l) (h2 : Samp n x0 i x2 F2 l2) : x = x2 ∧ F = F2 ∧ l = l2 := by
  induction h generalizing x2 F2 l2 with
  | zero => cases h2; exact ⟨rfl, rfl, rfl⟩
  | step hs hi hd ih =>
    cases h2 with
    | step hs2 hi2 hd2 =>
      obtain ⟨rfl, rfl, rfl⟩ := ih hs2
      obtain ⟨rfl, rfl⟩ := hd.unique hd2
      exact ⟨rfl, rfl, rfl⟩

theorem Samp.length {n x0 : Int} {i : Nat} {x : Int} {F : Int → Int} {l : List Int} (h : Samp n x0 i x F l) : l.length = i := by
  induction h with
  | zero => rfl
  | step _ _ _ ih => simp [ih]

theorem Samp.upto {n x0 : Int} {i : Nat} {x : Int} {F : Int → Int} {l : List Int} (h : Samp n x0 i x F l) (j : Nat) (hj : j ≤ i) : ∃ x2 F2, Samp n x0 j x2 F2 (l.take j) := by
  induction h with
  | zero => 
    have : j = 0 := by omega
    subst this
    exact ⟨_, _, .zero⟩
  | @step i x x' v F l hs hi hd ih =>
    by_cases e : j = i + 1
    · subst e
      refine ⟨x', updF F (i + v) (F i), ?_⟩
      rw [List.take_of_length_le (by simp [hs.length])]
      exact .step hs hi hd
    · obtain ⟨x2, F2, h2⟩ := ih (by omega)
      refine ⟨x2, F2, ?_⟩
      rw [List.take_append_of_le_length (by rw [hs.length]; omega)]
      exact h2

/-- What is drawn are different numbers below n; so are those that are not drawn yet. -/
theorem Samp.apart {n x0 : Int} {i : Nat} {x : Int} {F : Int → Int} {l : List Int} (h : Samp n x0 i x F l) :
    l.Nodup ∧ (∀ a ∈ l, 0 ≤ a ∧ a < n) ∧ (∀ a, (i : Int) ≤ a → a < n → 0 ≤ F a ∧ F a < n ∧ F a ∉ l) ∧ (∀ a b, (i : Int) ≤ a → a < n → (i : Int) ≤ b → b < n → F a = F b → a = b) := by
  induction h with
  | zero => exact ⟨List.nodup_nil, by simp, fun a h1 h2 => ⟨by simpa using h1, h2, by simp⟩, fun a b _ _ _ _ e => e⟩
  | @step i x x' v F l hs hi hd ih =>
    obtain ⟨h1, h2, h3, h4⟩ := ih
    obtain ⟨v0, v1⟩ := hd.bd (by omega)
    have hiv := h3 (i + v) (by omega) (by omega)
    refine ⟨?_, ?_, ?_, ?_⟩
    · rw [List.nodup_append]
      refine ⟨h1, by simp, fun a ha b hb e => ?_⟩
      simp only [List.mem_singleton] at hb
      subst hb; subst e
      exact hiv.2.2 ha
    · intro a ha
      simp only [List.mem_append, List.mem_singleton] at ha
      rcases ha with ha | rfl
      · exact h2 a ha
      · exact ⟨hiv.1, hiv.2.1⟩
    · intro a a1 a2
      have a1' : (i : Int) + 1 ≤ a := by simpa using a1
      unfold updF
      by_cases e : a = i + v
      · rw [if_pos e]
        have := h3 i (by omega) (by omega)
        refine ⟨this.1, this.2.1, ?_⟩
        simp only [List.mem_append, List.mem_singleton, not_or]
        refine ⟨this.2.2, fun x => ?_⟩
        have := h4 i (i + v) (by omega) (by omega) (by omega) (by omega) x
        omega
      · rw [if_neg e]
        have := h3 a (by omega) (by omega)
        refine ⟨this.1, this.2.1, ?_⟩
        simp only [List.mem_append, List.mem_singleton, not_or]
        refine ⟨this.2.2, fun x => e (h4 a (i + v) (by omega) (by omega) (by omega) (by omega) x)⟩
    · intro a b a1 a2 b1 b2 hab
      have a1' : (i : Int) + 1 ≤ a := by simpa using a1
      have b1' : (i : Int) + 1 ≤ b := by simpa using b1
      unfold updF at hab
      by_cases e : a = i + v
      · by_cases e2 : b = i + v
        · omega
        · rw [if_pos e, if_neg e2] at hab
          have := h4 i b (by omega) (by omega) (by omega) (by omega) hab
          omega
      · by_cases e2 : b = i + v
        · rw [if_neg e, if_pos e2] at hab
          have := h4 a i (by omega) (by omega) (by omega) (by omega) hab
          omega
        · rw [if_neg e, if_neg e2] at hab
          exact h4 a b (by omega) (by omega) (by omega) (by omega) hab

end Go.Proofs.Ytofaioabjkcaiaa
