/- The price of an auction by its definition. -/
import Derived.Test.YtigpghmbeldakaaN
namespace Go.Proofs.Ytigpghmbeldakaa
open Go.RowKit

def volAt (l : List Bd) (x : Int) : Int := min (dem l x) (sup l x)
def surAt (l : List Bd) (x : Int) : Int := dem l x - sup l x
def absT (n : Int) : Int := max n (-n)
def InR (x : Int) : Prop := 1 ≤ x ∧ x ≤ 1000000
/-- A price with the greatest volume. -/
def BestAt (l : List Bd) (x : Int) : Prop := InR x ∧ ∀ y, InR y → volAt l y ≤ volAt l x
/-- Of these, one with the least surplus. -/
def FewAt (l : List Bd) (x : Int) : Prop := BestAt l x ∧ ∀ y, BestAt l y → absT (surAt l x) ≤ absT (surAt l y)
def Above (l : List Bd) : Prop := ∀ y, FewAt l y → 0 < surAt l y
def Under (l : List Bd) : Prop := ∀ y, FewAt l y → surAt l y < 0
/-- The price by the chapter's four rules. -/
structure PriceAt (l : List Bd) (ref x : Int) : Prop where
  few : FewAt l x
  above : Above l → ∀ y, FewAt l y → y ≤ x
  under : Under l → ∀ y, FewAt l y → x ≤ y
  near : ¬ Above l → ¬ Under l → ∀ y, FewAt l y → absT (x - ref) < absT (y - ref) ∨ absT (x - ref) = absT (y - ref) ∧ x ≤ y

theorem PriceAt.unique {l : List Bd} {ref x y : Int} (h : PriceAt l ref x) (k : PriceAt l ref y) : x = y := by
  by_cases ha : Above l
  · have := h.above ha y k.few; have := k.above ha x h.few; omega
  · by_cases hu : Under l
    · have := h.under hu y k.few; have := k.under hu x h.few; omega
    · have h1 := h.near ha hu y k.few
      have h2 := k.near ha hu x h.few
      omega

theorem sorted_first {L : List Sp} (hs : Sorted3 L) {s : Sp} (h0 : L[0]? = some s) : ∀ t ∈ L, s.1 ≤ t.1 := by
  cases L with
  | nil => simp at h0
  | cons a L =>
    simp at h0
    subst h0
    intro t ht
    rcases List.mem_cons.1 ht with rfl | ht
    · exact Int.le_refl _
    · exact (List.pairwise_cons.1 hs).1 t ht

theorem sorted_last {L : List Sp} (hs : Sorted3 L) {s : Sp} (hl : L[L.length - 1]? = some s) : ∀ t ∈ L, t.1 ≤ s.1 := by
  intro t ht
  obtain ⟨i, hi, rfl⟩ := List.mem_iff_getElem.1 ht
  obtain ⟨hj, rfl⟩ := List.getElem?_eq_some_iff.1 hl
  rcases Nat.lt_or_ge i (L.length - 1) with h | h
  · exact List.pairwise_iff_getElem.1 hs i _ hi hj h
  · have : i = L.length - 1 := by omega
    subst this; exact Int.le_refl _

theorem leastT_sorted {f : Sp → Int} {L : List Sp} (h : Sorted3 L) : Sorted3 (leastT f L) := List.Pairwise.sublist (List.filter_sublist) h
theorem stT_sorted {ref : Int} {S : List Sp} (h : Sorted3 S) : ∀ k, Sorted3 (stT ref S k)
  | 0 => h
  | k + 1 => by
    unfold stT
    split
    · exact leastT_sorted (stT_sorted h k)
    · exact stT_sorted h k

section
variable {l : List Bd} {ref : Int} {S : List Sp}

theorem best_iff (h : Spots l ref S) {s : Sp} (hs : s ∈ S) : s ∈ leastT (scT ref 0) S ↔ BestAt l s.1 := by
  obtain ⟨h1, h2, h3, h4⟩ := h.right s hs
  rw [mem_leastT]
  constructor
  · rintro ⟨_, hl⟩
    refine ⟨⟨h1, h2⟩, fun y hy => ?_⟩
    obtain ⟨lo, hi, _, _, hm, _⟩ := h.cover y hy.1 hy.2
    have := hl _ (hm (lo, dem l y, sup l y) (by simp [three]))
    simp only [scT, h3, h4] at this
    unfold volAt
    omega
  · rintro ⟨_, hb⟩
    refine ⟨hs, fun t ht => ?_⟩
    obtain ⟨t1, t2, t3, t4⟩ := h.right t ht
    have := hb t.1 ⟨t1, t2⟩
    simp only [scT, h3, h4, t3, t4]
    unfold volAt at this
    omega

theorem vol_same {x y : Int} (h1 : dem l y = dem l x) (h2 : sup l y = sup l x) : volAt l y = volAt l x ∧ surAt l y = surAt l x := by
  unfold volAt surAt
  rw [h1, h2]
  exact ⟨rfl, rfl⟩
theorem best_same {x y : Int} (hx : BestAt l x) (hy : InR y) (h1 : dem l y = dem l x) (h2 : sup l y = sup l x) : BestAt l y := by
  obtain ⟨v, _⟩ := vol_same h1 h2
  exact ⟨hy, fun z hz => by rw [v]; exact hx.2 z hz⟩
theorem few_same {x y : Int} (hx : FewAt l x) (hy : InR y) (h1 : dem l y = dem l x) (h2 : sup l y = sup l x) : FewAt l y := by
  obtain ⟨_, s⟩ := vol_same h1 h2
  exact ⟨best_same hx.1 hy h1 h2, fun z hz => by rw [s]; exact hx.2 z hz⟩

theorem few_iff (h : Spots l ref S) {s : Sp} (hs : s ∈ S) : s ∈ leastT (scT ref 1) (leastT (scT ref 0) S) ↔ FewAt l s.1 := by
  obtain ⟨h1, h2, h3, h4⟩ := h.right s hs
  rw [mem_leastT, best_iff h hs]
  constructor
  · rintro ⟨hb, hl⟩
    refine ⟨hb, fun y hy => ?_⟩
    obtain ⟨lo, hi, a1, a2, hm, a3, a4, hsame⟩ := h.cover y hy.1.1 hy.1.2
    have hmem := hm (lo, dem l y, sup l y) (by simp [three])
    obtain ⟨b1, b2⟩ := hsame lo (Int.le_refl _) (by omega)
    have hbest : BestAt l lo := best_same hy ⟨a3, by omega⟩ b1 b2
    have := hl _ ((best_iff h hmem).2 hbest)
    simp only [scT, h3, h4] at this
    exact this
  · rintro ⟨hb, hl⟩
    refine ⟨hb, fun t ht => ?_⟩
    have htS := leastT_sub t ht
    obtain ⟨t1, t2, t3, t4⟩ := h.right t htS
    have := hl t.1 ((best_iff h htS).1 ht)
    simp only [scT, h3, h4, t3, t4]
    exact this

theorem st2 (ref : Int) (S : List Sp) : stT ref S 2 = leastT (scT ref 1) (leastT (scT ref 0) S) := by
  have a : ∀ L : List Sp, L.all (whT 0) = true := fun L => by simp [whT]
  have b : ∀ L : List Sp, L.all (whT 1) = true := fun L => by simp [whT]
  simp [stT, a, b]

theorem all_few (h : Spots l ref S) (p : Int → Prop) [DecidablePred p] (wh : Sp → Bool) (hw : ∀ s, wh s = decide (p (s.2.1 - s.2.2))) :
    ((stT ref S 2).all wh = true) ↔ ∀ y, FewAt l y → p (surAt l y) := by
  rw [st2, List.all_eq_true]
  constructor
  · intro ha y hy
    obtain ⟨lo, hi, a1, a2, hm, a3, a4, hsame⟩ := h.cover y hy.1.1.1 hy.1.1.2
    have hmem := hm (lo, dem l y, sup l y) (by simp [three])
    obtain ⟨b1, b2⟩ := hsame lo (Int.le_refl _) (by omega)
    have hf : FewAt l lo := few_same hy ⟨a3, by omega⟩ b1 b2
    have := ha _ ((few_iff h hmem).2 hf)
    rw [hw] at this
    simpa [surAt] using this
  · intro hp s hs
    have hsS : s ∈ S := leastT_sub s (leastT_sub s hs)
    obtain ⟨_, _, h3, h4⟩ := h.right s hsS
    have := hp s.1 ((few_iff h hsS).1 hs)
    rw [hw, h3, h4]
    simpa [surAt] using this

theorem price_of (h : Spots l ref S) {s : Sp} (h0 : (stT ref S 5)[0]? = some s) : PriceAt l ref s.1 ∧ s.2.1 = dem l s.1 ∧ s.2.2 = sup l s.1 := by
  have hm5 : s ∈ stT ref S 5 := List.mem_of_getElem? h0
  have hsS := stT_sub ref S 5 s hm5
  have hfirst := sorted_first (stT_sorted h.sorted 5) h0
  have hpos := h.pos
  have hne : S ≠ [] := List.length_pos_iff.1 hpos
  have hA := all_few h (fun n => 0 < n) (whT 2) (fun s => rfl)
  have hU := all_few h (fun n => n < 0) (whT 3) (fun s => rfl)
  have e5 : stT ref S 5 = leastT (scT ref 4) (stT ref S 4) := by
    have a : (stT ref S 4).all (whT 4) = true := by simp [whT]
    rw [stT, if_pos a]
  have few2 : ∀ t ∈ stT ref S 2, FewAt l t.1 ∧ t ∈ S := fun t ht => by
    rw [st2] at ht
    have htS : t ∈ S := leastT_sub t (leastT_sub t ht)
    exact ⟨(few_iff h htS).1 ht, htS⟩
  have in2 : ∀ t ∈ S, FewAt l t.1 → t ∈ stT ref S 2 := fun t ht hf => by rw [st2]; exact (few_iff h ht).2 hf
  refine ⟨?_, (h.right s hsS).2.2.1, (h.right s hsS).2.2.2⟩
  by_cases ha : Above l
  · -- the greatest one
    have a3 : (stT ref S 2).all (whT 2) = true := hA.2 ha
    have e3 : stT ref S 3 = leastT (scT ref 2) (stT ref S 2) := by rw [stT, if_pos a3]
    have m3 : ∀ t ∈ stT ref S 3, FewAt l t.1 ∧ ∀ y, FewAt l y → y ≤ t.1 := fun t ht => by
      rw [e3, mem_leastT] at ht
      obtain ⟨ht2, hl⟩ := ht
      refine ⟨(few2 t ht2).1, fun y hy => ?_⟩
      obtain ⟨lo, hi, b1, b2, hm, b3, b4, hsame⟩ := h.cover y hy.1.1.1 hy.1.1.2
      have hmem := hm (hi, dem l y, sup l y) (by simp [three])
      obtain ⟨c1, c2⟩ := hsame hi (by omega) (Int.le_refl _)
      have hf : FewAt l hi := few_same hy ⟨by omega, b4⟩ c1 c2
      have := hl _ (in2 _ hmem hf)
      simp only [scT] at this
      omega
    have a4 : ¬ (stT ref S 3).all (whT 3) = true := by
      intro hall
      have hn3 := stT_ne ref S hne 3
      obtain ⟨t, ht⟩ := List.exists_mem_of_ne_nil _ hn3
      have h1 := List.all_eq_true.1 hall t ht
      have h2 := ha t.1 (m3 t ht).1
      have h3 := h.right t (stT_sub ref S 3 t ht)
      simp only [whT, h3.2.2.1, h3.2.2.2, decide_eq_true_eq] at h1
      unfold surAt at h2
      omega
    have e4 : stT ref S 4 = stT ref S 3 := by rw [stT, if_neg a4]
    have hs3 : s ∈ stT ref S 3 := by rw [e5, e4] at hm5; exact leastT_sub s hm5
    refine ⟨(m3 s hs3).1, fun _ => (m3 s hs3).2, fun hu => ?_, fun hn => absurd ha hn⟩
    have f := (m3 s hs3).1
    have := ha s.1 f; have := hu s.1 f; omega
  · have a3 : ¬ (stT ref S 2).all (whT 2) = true := fun hh => ha (hA.1 hh)
    have e3 : stT ref S 3 = stT ref S 2 := by rw [stT, if_neg a3]
    by_cases hu : Under l
    · have a4 : (stT ref S 3).all (whT 3) = true := by rw [e3]; exact hU.2 hu
      have e4 : stT ref S 4 = leastT (scT ref 3) (stT ref S 2) := by rw [stT, if_pos a4, e3]
      have m4 : ∀ t ∈ stT ref S 4, FewAt l t.1 ∧ ∀ y, FewAt l y → t.1 ≤ y := fun t ht => by
        rw [e4, mem_leastT] at ht
        obtain ⟨ht2, hl⟩ := ht
        refine ⟨(few2 t ht2).1, fun y hy => ?_⟩
        obtain ⟨lo, hi, b1, b2, hm, b3, b4, hsame⟩ := h.cover y hy.1.1.1 hy.1.1.2
        have hmem := hm (lo, dem l y, sup l y) (by simp [three])
        obtain ⟨c1, c2⟩ := hsame lo (Int.le_refl _) (by omega)
        have hf : FewAt l lo := few_same hy ⟨b3, by omega⟩ c1 c2
        have := hl _ (in2 _ hmem hf)
        simp only [scT] at this
        omega
      have hs4 : s ∈ stT ref S 4 := by rw [e5] at hm5; exact leastT_sub s hm5
      exact ⟨(m4 s hs4).1, fun hn => absurd hn ha, fun _ => (m4 s hs4).2, fun _ hn => absurd hu hn⟩
    · have a4 : ¬ (stT ref S 3).all (whT 3) = true := by rw [e3]; exact fun hh => hu (hU.1 hh)
      have e4 : stT ref S 4 = stT ref S 2 := by rw [stT, if_neg a4, e3]
      have hm2 : s ∈ stT ref S 2 ∧ ∀ t ∈ stT ref S 2, scT ref 4 s ≤ scT ref 4 t := by rw [e5, e4, mem_leastT] at hm5; exact hm5
      refine ⟨(few2 s hm2.1).1, fun hn => absurd hn ha, fun hn => absurd hn hu, fun _ _ y hy => ?_⟩
      obtain ⟨lo, hi, b1, b2, hm, b3, b4, hsame⟩ := h.cover y hy.1.1.1 hy.1.1.2
      have hmem := hm (min (max ref lo) hi, dem l y, sup l y) (by simp [three])
      obtain ⟨c1, c2⟩ := hsame (min (max ref lo) hi) (by omega) (by omega)
      have hf : FewAt l (min (max ref lo) hi) := few_same hy ⟨by omega, by omega⟩ c1 c2
      have hle := hm2.2 _ (in2 _ hmem hf)
      simp only [scT] at hle
      have hnear : absT (min (max ref lo) hi - ref) < absT (y - ref) ∨ min (max ref lo) hi = y := by unfold absT; omega
      rcases hnear with hn | hn
      · left
        unfold absT at hn ⊢
        omega
      · rw [hn] at hle
        by_cases heq : absT (s.1 - ref) = absT (y - ref)
        · right
          refine ⟨heq, ?_⟩
          have : ((min (max ref lo) hi, dem l y, sup l y) : Sp) ∈ stT ref S 5 := by
            rw [e5, e4, mem_leastT]
            refine ⟨in2 _ hmem hf, fun t ht => ?_⟩
            have h1 := hm2.2 t ht
            simp only [scT] at h1 ⊢
            rw [hn]
            unfold absT at heq
            omega
          have := hfirst _ this
          simp only at this
          omega
        · left
          unfold absT at heq ⊢
          omega

end
end Go.Proofs.Ytigpghmbeldakaa
