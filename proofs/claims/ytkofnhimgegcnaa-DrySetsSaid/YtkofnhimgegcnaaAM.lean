/- The hours of a crush. No Go. -/
import Derived.Test.YtkofnhimgegcnaaAL
namespace Go.Proofs.Ytkofnhimgegcnaa
open Go Go.RowKit Go.Sort

/-- A sum over spans. -/
def sumH (μ : Int × Int → Int) (H : List (Int × Int)) : Int := (H.map μ).sum
theorem sumH_append (μ : Int × Int → Int) (H G : List (Int × Int)) : sumH μ (H ++ G) = sumH μ H + sumH μ G := by simp [sumH]
theorem sumH_cons (μ : Int × Int → Int) (h : Int × Int) (H : List (Int × Int)) : sumH μ (h :: H) = μ h + sumH μ H := by simp [sumH]
theorem sumH_set (μ : Int × Int → Int) : ∀ {l : List (Int × Int)} {z : Nat} {x : Int × Int} (y : Int × Int), l[z]? = some x → sumH μ (l.set z y) = sumH μ l - μ x + μ y
  | [], _, _, _, h => by simp at h
  | x' :: l, 0, x, y, h => by simp at h; subst h; simp only [List.set_cons_zero, sumH_cons]; omega
  | x' :: l, z + 1, x, y, h => by
    have ih := sumH_set μ (l := l) (z := z) y (by simpa using h)
    simp only [List.set_cons_succ, sumH_cons, ih]; omega

/-- Spans that rise, each with an hour, all within two times. -/
structure Rising (lo hi : Int) (H : List (Int × Int)) : Prop where
  inn : ∀ h ∈ H, lo ≤ h.1 ∧ h.1 < h.2 ∧ h.2 ≤ hi
  up : ∀ i x y, H[i]? = some x → H[i + 1]? = some y → x.2 ≤ y.1

theorem Rising.more {lo hi hi' : Int} {H : List (Int × Int)} (h : Rising lo hi H) (hh : hi ≤ hi') : Rising lo hi' H :=
  ⟨fun x hx => by obtain ⟨a, b, c⟩ := h.inn x hx; exact ⟨a, b, by omega⟩, h.up⟩

theorem Rising.add {lo a b : Int} {H : List (Int × Int)} (h : Rising lo a H) (hl : lo ≤ a) (hab : a < b) : Rising lo b (addH H a b) := by
  unfold addH
  split
  · rename_i x hx
    have hm : x ∈ H := List.mem_of_getLast? hx
    have hx' : H[H.length - 1]? = some x := by rw [← List.getLast?_eq_getElem?]; exact hx
    have hlen := (List.getElem?_eq_some_iff.1 hx').1
    obtain ⟨x1, x2, x3⟩ := h.inn x hm
    split
    · rename_i e
      refine ⟨fun y hy => ?_, fun i y z hy hz => ?_⟩
      · rcases List.mem_or_eq_of_mem_set hy with hy | rfl
        · obtain ⟨a1, a2, a3⟩ := h.inn y hy
          exact ⟨a1, a2, by omega⟩
        · dsimp only; omega
      · have hi : i + 1 < H.length := by have := (List.getElem?_eq_some_iff.1 hz).1; simpa using this
        rw [List.getElem?_set_ne (by omega)] at hy
        by_cases hz' : i + 1 = H.length - 1
        · rw [hz', List.getElem?_set_self (by omega)] at hz
          cases hz
          exact h.up i y x hy (by rw [hz']; exact hx')
        · rw [List.getElem?_set_ne (by omega)] at hz
          exact h.up i y z hy hz
    · rename_i e
      refine ⟨fun y hy => ?_, fun i y z hy hz => ?_⟩
      · rcases List.mem_append.1 hy with hy | hy
        · obtain ⟨a1, a2, a3⟩ := h.inn y hy
          exact ⟨a1, a2, by omega⟩
        · rw [List.mem_singleton.1 hy]; dsimp only; omega
      · have hi : i + 1 < H.length + 1 := by have := (List.getElem?_eq_some_iff.1 hz).1; simpa using this
        rw [List.getElem?_append_left (by omega)] at hy
        by_cases hz' : i + 1 < H.length
        · rw [List.getElem?_append_left hz'] at hz
          exact h.up i y z hy hz
        · rw [List.getElem?_append_right (by omega), show i + 1 - H.length = 0 by omega] at hz
          simp at hz
          subst hz
          obtain ⟨a1, a2, a3⟩ := h.inn y (List.mem_of_getElem? hy)
          exact a3
  · refine ⟨fun y hy => ?_, fun i y z hy hz => ?_⟩
    · rw [List.mem_singleton.1 hy]; dsimp only; omega
    · simp at hz

theorem addH_sum (μ : Int × Int → Int) (hμ : ∀ a b c, a ≤ b → b ≤ c → μ (a, c) = μ (a, b) + μ (b, c)) {lo a b : Int} {H : List (Int × Int)} (h : Rising lo a H) (hab : a < b) : sumH μ (addH H a b) = sumH μ H + μ (a, b) := by
  unfold addH
  split
  · rename_i x hx
    have hm : x ∈ H := List.mem_of_getLast? hx
    have hx' : H[H.length - 1]? = some x := by rw [← List.getLast?_eq_getElem?]; exact hx
    obtain ⟨x1, x2, x3⟩ := h.inn x hm
    split
    · rename_i e
      rw [sumH_set μ _ hx']
      obtain ⟨p, q⟩ := x
      dsimp only at *
      subst e
      have := hμ p q b (by omega) (by omega)
      omega
    · rw [sumH_append]; simp [sumH]
  · rename_i hn
    have : H = [] := List.getLast?_eq_none_iff.1 hn
    rw [this]; simp [sumH]

theorem metH_rising {lev : Nat → Int} {n : Nat} {T : List Int} (hT : T.Pairwise (· < ·)) : ∀ s, s < T.length → Rising (T[0]?.getD 0) (T[s]?.getD 0) (metH lev n T s)
  | 0, _ => ⟨fun _ h => (by cases h), fun i x y h => (by simp [metH] at h)⟩
  | s + 1, hs => by
    have ih := metH_rising hT (lev := lev) (n := n) s (by omega)
    have hmono : ∀ i j, i < j → j < T.length → T[i]?.getD 0 < T[j]?.getD 0 := fun i j hij hj => by
      rw [List.getElem?_eq_getElem hj, List.getElem?_eq_getElem (show i < T.length by omega)]
      exact List.pairwise_iff_getElem.1 hT i j (by omega) hj hij
    have h1 := hmono s (s + 1) (by omega) hs
    have h0 : T[0]?.getD 0 ≤ T[s]?.getD 0 := by
      rcases Nat.eq_zero_or_pos s with e | e
      · rw [e]; exact Int.le_refl _
      · exact Int.le_of_lt (hmono 0 s e (by omega))
    rw [metH]
    split
    · exact ih.add h0 h1
    · exact ih.more (by omega)

theorem metH_sum (μ : Int × Int → Int) (hμ : ∀ a b c, a ≤ b → b ≤ c → μ (a, c) = μ (a, b) + μ (b, c)) {lev : Nat → Int} {n : Nat} {T : List Int} (hT : T.Pairwise (· < ·)) : ∀ s, s < T.length →
    sumH μ (metH lev n T s) = ((List.range s).map (fun q => if metS lev (2 + n + q) = true then μ (T[q]?.getD 0, T[q + 1]?.getD 0) else 0)).sum
  | 0, _ => rfl
  | s + 1, hs => by
    have ih := metH_sum μ hμ hT (lev := lev) (n := n) s (by omega)
    have hr := metH_rising hT (lev := lev) (n := n) s (by omega)
    have h1 : T[s]?.getD 0 < T[s + 1]?.getD 0 := by
      rw [List.getElem?_eq_getElem hs, List.getElem?_eq_getElem (show s < T.length by omega)]
      exact List.pairwise_iff_getElem.1 hT s (s + 1) (by omega) hs (by omega)
    rw [metH, List.range_succ, List.map_append, List.sum_append, ← ih]
    simp only [List.map_cons, List.map_nil, List.sum_cons, List.sum_nil]
    by_cases hm : 0 ≤ lev (2 + n + s)
    · rw [if_pos hm, if_pos (by simp [metS, hm]), addH_sum μ hμ hr h1]; omega
    · rw [if_neg hm, if_neg (by simp [metS, hm])]; omega

end Go.Proofs.Ytkofnhimgegcnaa
