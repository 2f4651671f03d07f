/- What join and sorting keep of turns. -/
import Derived.Test.YtkofnhimgegcnaaX
namespace Go.Proofs.Ytkofnhimgegcnaa
open Go Go.RowKit Go.Sort

/-- A sum over turns. -/
def sumT (μ : Tn → Int) (l : List Tn) : Int := (l.map μ).sum

theorem sumT_append (μ : Tn → Int) (l m : List Tn) : sumT μ (l ++ m) = sumT μ l + sumT μ m := by simp [sumT]
theorem sumT_cons (μ : Tn → Int) (x : Tn) (l : List Tn) : sumT μ (x :: l) = μ x + sumT μ l := by simp [sumT]
theorem sumT_nil (μ : Tn → Int) : sumT μ [] = 0 := rfl
theorem sumT_perm (μ : Tn → Int) {l m : List Tn} (h : l.Perm m) : sumT μ l = sumT μ m := by
  induction h with
  | nil => rfl
  | cons x _ ih => rw [sumT_cons, sumT_cons, ih]
  | swap x y l => simp only [sumT_cons]; omega
  | trans _ _ ih1 ih2 => exact ih1.trans ih2
theorem sumT_set (μ : Tn → Int) : ∀ {l : List Tn} {z : Nat} {x : Tn} (y : Tn), l[z]? = some x → sumT μ (l.set z y) = sumT μ l - μ x + μ y
  | [], _, _, _, h => by simp at h
  | x' :: l, 0, x, y, h => by simp at h; subst h; simp only [List.set_cons_zero, sumT_cons]; omega
  | x' :: l, z + 1, x, y, h => by
    have ih := sumT_set μ (l := l) (z := z) y (by simpa using h)
    simp only [List.set_cons_succ, sumT_cons, ih]; omega

/-- What holds for two turns that follow on each other holds for both as one. -/
def Joins (Q : Tn → Prop) : Prop := ∀ a f c d, Q (a, f, c) → Q (a, c, d) → Q (a, f, d)

theorem addJ_all {Q : Tn → Prop} (hQ : Joins Q) {J : List Tn} {t : Tn} (hJ : ∀ x ∈ J, Q x) (ht : Q t) : ∀ x ∈ addJ J t, Q x := by
  unfold addJ
  split
  · rename_i x hx
    have hm : x ∈ J := List.mem_of_getLast? hx
    split
    · rename_i hc
      intro y hy
      rcases List.mem_or_eq_of_mem_set hy with h | h
      · exact hJ y h
      · subst h
        obtain ⟨a, f, c⟩ := x
        obtain ⟨b, g, d⟩ := t
        dsimp only at hc ⊢
        obtain ⟨rfl, rfl⟩ := hc
        exact hQ _ _ _ _ (hJ _ hm) ht
    · intro y hy
      rcases List.mem_append.1 hy with h | h
      · exact hJ y h
      · rw [List.mem_singleton.1 h]; exact ht
  · intro y hy
    rw [List.mem_singleton.1 hy]; exact ht

theorem addJ_sum (μ : Tn → Int) (hμ : ∀ a f c d, f < c → c < d → μ (a, f, d) = μ (a, f, c) + μ (a, c, d)) {J : List Tn} {t : Tn} (hJ : ∀ x ∈ J, x.2.1 < x.2.2) (ht : t.2.1 < t.2.2) : sumT μ (addJ J t) = sumT μ J + μ t := by
  unfold addJ
  split
  · rename_i x hx
    have hm : x ∈ J := List.mem_of_getLast? hx
    split
    · rename_i hc
      have hx' : J[J.length - 1]? = some x := by rw [← List.getLast?_eq_getElem?]; exact hx
      rw [sumT_set μ _ hx']
      have h1 := hJ x hm
      obtain ⟨a, f, c⟩ := x
      obtain ⟨b, g, d⟩ := t
      dsimp only at hc h1 ht ⊢
      obtain ⟨rfl, rfl⟩ := hc
      have := hμ a f c d h1 ht
      omega
    · rw [sumT_append, sumT_cons, sumT_nil, Int.add_zero]
  · rename_i hn
    have : J = [] := List.getLast?_eq_none_iff.1 hn
    rw [this, sumT_cons, sumT_nil]; omega

theorem joins_lt : Joins (fun t => t.2.1 < t.2.2) := fun a f c d h1 h2 => by dsimp only at *; omega

theorem foldJ_all {Q : Tn → Prop} (hQ : Joins Q) : ∀ (l J : List Tn), (∀ x ∈ J, Q x) → (∀ x ∈ l, Q x) → ∀ x ∈ l.foldl addJ J, Q x
  | [], J, hJ, _ => hJ
  | t :: l, J, hJ, hl => foldJ_all hQ l (addJ J t) (addJ_all hQ hJ (hl t (by simp))) (fun x hx => hl x (by simp [hx]))
theorem joinT_all {Q : Tn → Prop} (hQ : Joins Q) {l : List Tn} (hl : ∀ x ∈ l, Q x) : ∀ x ∈ joinT l, Q x := foldJ_all hQ l [] (fun _ h => by cases h) hl

theorem foldJ_sum (μ : Tn → Int) (hμ : ∀ a f c d, f < c → c < d → μ (a, f, d) = μ (a, f, c) + μ (a, c, d)) : ∀ (l J : List Tn), (∀ x ∈ J, x.2.1 < x.2.2) → (∀ x ∈ l, x.2.1 < x.2.2) → sumT μ (l.foldl addJ J) = sumT μ J + sumT μ l
  | [], J, _, _ => by simp [sumT_nil]
  | t :: l, J, hJ, hl => by
    have ht := hl t (by simp)
    rw [List.foldl_cons, foldJ_sum μ hμ l (addJ J t) (addJ_all joins_lt hJ ht) (fun x hx => hl x (by simp [hx])), addJ_sum μ hμ hJ ht, sumT_cons]
    omega
theorem joinT_sum (μ : Tn → Int) (hμ : ∀ a f c d, f < c → c < d → μ (a, f, d) = μ (a, f, c) + μ (a, c, d)) {l : List Tn} (hl : ∀ x ∈ l, x.2.1 < x.2.2) : sumT μ (joinT l) = sumT μ l := by
  have := foldJ_sum μ hμ l [] (fun _ h => by cases h) hl
  rw [sumT_nil] at this
  unfold joinT
  omega

/-- 1 where a turn covers an hour. -/
def cov1 (h : Int) (t : Tn) : Int := if t.2.1 ≤ h ∧ h < t.2.2 then 1 else 0
/-- .. and is of a load. -/
def covL1 (i h : Int) (t : Tn) : Int := if t.1 = i ∧ t.2.1 ≤ h ∧ h < t.2.2 then 1 else 0
/-- The hours of a turn of a load. -/
def len1 (i : Int) (t : Tn) : Int := if t.1 = i then t.2.2 - t.2.1 else 0

theorem cov1_add (h : Int) : ∀ a f c d : Int, f < c → c < d → cov1 h (a, f, d) = cov1 h (a, f, c) + cov1 h (a, c, d) := fun a f c d h1 h2 => by
  unfold cov1
  dsimp only
  split <;> split <;> split <;> omega
theorem covL1_add (i h : Int) : ∀ a f c d : Int, f < c → c < d → covL1 i h (a, f, d) = covL1 i h (a, f, c) + covL1 i h (a, c, d) := fun a f c d h1 h2 => by
  unfold covL1
  dsimp only
  split <;> split <;> split <;> omega
theorem len1_add (i : Int) : ∀ a f c d : Int, f < c → c < d → len1 i (a, f, d) = len1 i (a, f, c) + len1 i (a, c, d) := fun a f c d h1 h2 => by
  unfold len1
  dsimp only
  split <;> omega

end Go.Proofs.Ytkofnhimgegcnaa
