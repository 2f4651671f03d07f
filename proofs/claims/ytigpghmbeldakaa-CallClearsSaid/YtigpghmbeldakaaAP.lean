/- Price of the reference. -/
import Derived.Test.YtigpghmbeldakaaAM
import Derived.Test.YtigpghmbeldakaaP
namespace Go.Proofs.Ytigpghmbeldakaa
open Go.RowKit

theorem few_fold : ∀ (L : List Iv) (m : Int), L.foldl (fun m i => min m (absT i.2.2.2)) m ≤ m ∧ (∀ i ∈ L, L.foldl (fun m i => min m (absT i.2.2.2)) m ≤ absT i.2.2.2) ∧ (L.foldl (fun m i => min m (absT i.2.2.2)) m = m ∨ ∃ i ∈ L, absT i.2.2.2 = L.foldl (fun m i => min m (absT i.2.2.2)) m)
  | [], m => ⟨Int.le_refl _, fun i hi => by simp at hi, .inl rfl⟩
  | c :: L, m => by
    rw [List.foldl_cons]
    obtain ⟨h1, h2, h3⟩ := few_fold L (min m (absT c.2.2.2))
    refine ⟨by omega, fun i hi => ?_, ?_⟩
    · rcases List.mem_cons.1 hi with rfl | hi
      · omega
      · exact h2 i hi
    · rcases h3 with h3 | ⟨i, hi, h3⟩
      · rw [h3]
        by_cases hm : m ≤ absT c.2.2.2
        · exact .inl (by omega)
        · exact .inr ⟨c, by simp, by omega⟩
      · exact .inr ⟨i, by simp [hi], h3⟩

/-- The least surplus, from one that stands. -/
def fewT (m : Int) (L : List Iv) : Int := L.foldl (fun m i => min m (absT i.2.2.2)) m
theorem fewT_next (m : Int) (L : List Iv) (i : Iv) : fewT m (L ++ [i]) = min (fewT m L) (absT i.2.2.2) := by simp [fewT, List.foldl_append]

def fewI (m : Int) (L : List Iv) : List Iv := L.filter (fun i => decide (absT i.2.2.2 = m))
theorem fewI_next (m : Int) (L : List Iv) (i : Iv) : fewI m (L ++ [i]) = fewI m L ++ if absT i.2.2.2 = m then [i] else [] := by
  unfold fewI
  rw [List.filter_append]
  by_cases h : absT i.2.2.2 = m
  · simp [h]
  · simp [h]

/-- The stretches with the least surplus. -/
structure IvFew (l : List Bd) (F : List Iv) : Prop where
  each : ∀ i ∈ F, 1 ≤ i.1 ∧ i.1 ≤ i.2.1 ∧ i.2.1 ≤ 1000000 ∧ ∀ x, i.1 ≤ x → x ≤ i.2.1 → FewAt l x ∧ surAt l x = i.2.2.2 ∧ 0 < volAt l x
  sorted : F.Pairwise fun a b => a.2.1 < b.1
  cover : ∀ y, FewAt l y → ∃ i ∈ F, i.1 ≤ y ∧ y ≤ i.2.1
  some : F ≠ []

theorem best_few {l : List Bd} {B : List Iv} (h : IvBest l B) {b0 : Iv} (h0 : B[0]? = some b0) : IvFew l (fewI (fewT (absT b0.2.2.2) B) B) := by
  obtain ⟨m1, m2, m3⟩ := few_fold B (absT b0.2.2.2)
  have hb0 := List.mem_of_getElem? h0
  have hm : ∃ i ∈ B, absT i.2.2.2 = fewT (absT b0.2.2.2) B := by
    rcases m3 with m3 | m3
    · exact ⟨b0, hb0, m3.symm⟩
    · exact m3
  change fewT (absT b0.2.2.2) B ≤ _ at m1
  change ∀ i ∈ B, fewT (absT b0.2.2.2) B ≤ _ at m2
  generalize fewT (absT b0.2.2.2) B = m at *
  have hv0 := h.first h0
  have hsur : ∀ y, BestAt l y → m ≤ absT (surAt l y) := fun y hy => by
    obtain ⟨j, hj, h1, h2⟩ := h.cover y hy (by have := hy.2 _ hv0.1.1; omega)
    rw [((h.each j hj).2.2.2 y h1 h2).2.2.1]
    exact m2 j hj
  refine ⟨fun i hi => ?_, List.Pairwise.sublist List.filter_sublist h.sorted, fun y hy => ?_, ?_⟩
  · obtain ⟨hi, he⟩ := List.mem_filter.1 hi
    rw [decide_eq_true_eq] at he
    obtain ⟨a1, a2, a3, a4⟩ := h.each i hi
    refine ⟨a1, a2, a3, fun x h1 h2 => ?_⟩
    obtain ⟨b1, b2, b3, b4⟩ := a4 x h1 h2
    exact ⟨⟨b1, fun y hy => by rw [b3, he]; exact hsur y hy⟩, b3, b4⟩
  · obtain ⟨j, hj, h1, h2⟩ := h.cover y hy.1 (by have := hy.1.2 _ hv0.1.1; omega)
    refine ⟨j, List.mem_filter.2 ⟨hj, ?_⟩, h1, h2⟩
    rw [decide_eq_true_eq]
    obtain ⟨i, hi, hm⟩ := hm
    obtain ⟨a1, a2, a3, a4⟩ := h.each i hi
    obtain ⟨b1, b2, b3, b4⟩ := a4 i.1 (Int.le_refl _) a2
    have e1 := hy.2 i.1 b1
    rw [b3, hm, ((h.each j hj).2.2.2 y h1 h2).2.2.1] at e1
    exact Int.le_antisymm e1 (m2 j hj)
  · obtain ⟨i, hi, hm⟩ := hm
    intro he
    have : i ∈ fewI m B := List.mem_filter.2 ⟨hi, by rw [decide_eq_true_eq]; exact hm⟩
    rw [he] at this
    simp at this

/-- The nearest price to ref in stretches, the lower of two. -/
def NearAt (ref : Int) (F : List Iv) (c : Int) : Prop :=
  (∃ i ∈ F, i.1 ≤ c ∧ c ≤ i.2.1) ∧ ∀ i ∈ F, ∀ y, i.1 ≤ y → y ≤ i.2.1 → absT (c - ref) < absT (y - ref) ∨ absT (c - ref) = absT (y - ref) ∧ c ≤ y
def Near (ref : Int) (F : List Iv) (c : Int) : Prop := (F = [] ∧ c = 0) ∨ (1 ≤ c ∧ c ≤ 1000000 ∧ NearAt ref F c)

theorem near_next {ref c : Int} {P : List Iv} {i : Iv} (h : Near ref P c) (hs : ∀ j ∈ P, j.2.1 < i.1) (h1 : 1 ≤ i.1 ∧ i.1 ≤ i.2.1 ∧ i.2.1 ≤ 1000000) :
    Near ref (P ++ [i]) (if c = 0 ∨ absT (min (max ref i.1) i.2.1 - ref) < absT (c - ref) then min (max ref i.1) i.2.1 else c) := by
  have hp : ∀ y, i.1 ≤ y → y ≤ i.2.1 → absT (min (max ref i.1) i.2.1 - ref) < absT (y - ref) ∨ absT (min (max ref i.1) i.2.1 - ref) = absT (y - ref) ∧ min (max ref i.1) i.2.1 ≤ y := fun y h2 h3 => by
    unfold absT
    omega
  have hpi : i.1 ≤ min (max ref i.1) i.2.1 ∧ min (max ref i.1) i.2.1 ≤ i.2.1 := by omega
  generalize min (max ref i.1) i.2.1 = p at *
  right
  rcases h with ⟨rfl, rfl⟩ | ⟨c1, c2, ⟨j, hj, j1, j2⟩, hn⟩
  · rw [if_pos (.inl rfl)]
    refine ⟨by omega, by omega, ⟨i, by simp, hpi⟩, fun k hk => ?_⟩
    simp only [List.nil_append, List.mem_singleton] at hk
    subst hk
    exact hp
  · have hc0 : ¬ c = 0 := by omega
    by_cases hlt : absT (p - ref) < absT (c - ref)
    · rw [if_pos (.inr hlt)]
      refine ⟨by omega, by omega, ⟨i, by simp, hpi⟩, fun k hk y h2 h3 => ?_⟩
      rcases List.mem_append.1 hk with hk | hk
      · have := hn k hk y h2 h3
        omega
      · rw [List.mem_singleton] at hk
        subst hk
        exact hp y h2 h3
    · rw [if_neg (fun h => h.elim hc0 hlt)]
      refine ⟨c1, c2, ⟨j, List.mem_append_left _ hj, j1, j2⟩, fun k hk y h2 h3 => ?_⟩
      rcases List.mem_append.1 hk with hk | hk
      · exact hn k hk y h2 h3
      · rw [List.mem_singleton] at hk
        subst hk
        have := hp y h2 h3
        have := hs j hj
        omega

theorem sorted_le_last {F : List Iv} (hs : F.Pairwise fun a b => a.2.1 < b.1) (he : ∀ i ∈ F, i.1 ≤ i.2.1) {t : Iv} (ht : F[F.length - 1]? = some t) : ∀ i ∈ F, i.2.1 ≤ t.2.1 := by
  intro i hi
  obtain ⟨k, hk⟩ := List.mem_iff_getElem?.1 hi
  have hkl := (List.getElem?_eq_some_iff.1 hk).1
  by_cases hke : k = F.length - 1
  · subst hke
    rw [ht] at hk
    cases hk
    exact Int.le_refl _
  · have := List.pairwise_iff_getElem.1 hs k (F.length - 1) hkl (List.getElem?_eq_some_iff.1 ht).1 (by omega)
    rw [(List.getElem?_eq_some_iff.1 ht).2, (List.getElem?_eq_some_iff.1 hk).2] at this
    have := he t (List.mem_of_getElem? ht)
    omega
theorem sorted_ge_first {F : List Iv} (hs : F.Pairwise fun a b => a.2.1 < b.1) (he : ∀ i ∈ F, i.1 ≤ i.2.1) {t : Iv} (ht : F[0]? = some t) : ∀ i ∈ F, t.1 ≤ i.1 := by
  intro i hi
  obtain ⟨k, hk⟩ := List.mem_iff_getElem?.1 hi
  have hkl := (List.getElem?_eq_some_iff.1 hk).1
  cases k with
  | zero =>
    rw [ht] at hk
    cases hk
    exact Int.le_refl _
  | succ k =>
    have := List.pairwise_iff_getElem.1 hs 0 (k + 1) (List.getElem?_eq_some_iff.1 ht).1 hkl (by omega)
    rw [(List.getElem?_eq_some_iff.1 ht).2, (List.getElem?_eq_some_iff.1 hk).2] at this
    have := he t (List.mem_of_getElem? ht)
    omega

def upT (F : List Iv) : Bool := F.all fun i => decide (0 < i.2.2.2)
def downT (F : List Iv) : Bool := F.all fun i => decide (i.2.2.2 < 0)

theorem up_iff {l : List Bd} {F : List Iv} (h : IvFew l F) : upT F = true ↔ Above l := by
  unfold upT Above
  rw [List.all_eq_true]
  constructor
  · intro ha y hy
    obtain ⟨i, hi, h1, h2⟩ := h.cover y hy
    have := ha i hi
    rw [decide_eq_true_eq] at this
    rw [((h.each i hi).2.2.2 y h1 h2).2.1]
    exact this
  · intro ha i hi
    obtain ⟨a1, a2, a3, a4⟩ := h.each i hi
    obtain ⟨b1, b2, _⟩ := a4 i.1 (Int.le_refl _) a2
    rw [decide_eq_true_eq, ← b2]
    exact ha _ b1
theorem down_iff {l : List Bd} {F : List Iv} (h : IvFew l F) : downT F = true ↔ Under l := by
  unfold downT Under
  rw [List.all_eq_true]
  constructor
  · intro ha y hy
    obtain ⟨i, hi, h1, h2⟩ := h.cover y hy
    have := ha i hi
    rw [decide_eq_true_eq] at this
    rw [((h.each i hi).2.2.2 y h1 h2).2.1]
    exact this
  · intro ha i hi
    obtain ⟨a1, a2, a3, a4⟩ := h.each i hi
    obtain ⟨b1, b2, _⟩ := a4 i.1 (Int.le_refl _) a2
    rw [decide_eq_true_eq, ← b2]
    exact ha _ b1

theorem price_up {l : List Bd} {F : List Iv} (h : IvFew l F) (hu : upT F = true) {t : Iv} (ht : F[F.length - 1]? = some t) (ref : Int) : PriceAt l ref t.2.1 ∧ 0 < volAt l t.2.1 := by
  have ha := (up_iff h).1 hu
  have hm := List.mem_of_getElem? ht
  obtain ⟨a1, a2, a3, a4⟩ := h.each t hm
  obtain ⟨b1, b2, b3⟩ := a4 t.2.1 a2 (Int.le_refl _)
  refine ⟨⟨b1, fun _ y hy => ?_, fun hn => ?_, fun hn => absurd ha hn⟩, b3⟩
  · obtain ⟨i, hi, h1, h2⟩ := h.cover y hy
    have := sorted_le_last h.sorted (fun i hi => (h.each i hi).2.1) ht i hi
    omega
  · have h1 := ha _ b1
    have h2 := hn _ b1
    omega
theorem price_down {l : List Bd} {F : List Iv} (h : IvFew l F) (hu : downT F = true) {t : Iv} (ht : F[0]? = some t) (ref : Int) : PriceAt l ref t.1 ∧ 0 < volAt l t.1 := by
  have ha := (down_iff h).1 hu
  have hm := List.mem_of_getElem? ht
  obtain ⟨a1, a2, a3, a4⟩ := h.each t hm
  obtain ⟨b1, b2, b3⟩ := a4 t.1 (Int.le_refl _) a2
  refine ⟨⟨b1, fun hn => ?_, fun _ y hy => ?_, fun _ hn => absurd ha hn⟩, b3⟩
  · have h1 := ha _ b1
    have h2 := hn _ b1
    omega
  · obtain ⟨i, hi, h1, h2⟩ := h.cover y hy
    have := sorted_ge_first h.sorted (fun i hi => (h.each i hi).2.1) ht i hi
    omega
theorem price_near {l : List Bd} {F : List Iv} (h : IvFew l F) (hu : upT F = false) (hd : downT F = false) {ref c : Int} (hc : Near ref F c) : PriceAt l ref c ∧ 0 < volAt l c := by
  rcases hc with ⟨he, _⟩ | ⟨c1, c2, ⟨i, hi, h1, h2⟩, hn⟩
  · exact absurd he h.some
  · obtain ⟨a1, a2, a3, a4⟩ := h.each i hi
    obtain ⟨b1, b2, b3⟩ := a4 c h1 h2
    refine ⟨⟨b1, fun ha => ?_, fun ha => ?_, fun _ _ y hy => ?_⟩, b3⟩
    · rw [(up_iff h).2 ha] at hu
      cases hu
    · rw [(down_iff h).2 ha] at hd
      cases hd
    · obtain ⟨j, hj, j1, j2⟩ := h.cover y hy
      exact hn j hj y j1 j2

end Go.Proofs.Ytigpghmbeldakaa
