/- Bids mirrored: the mathematics. No Go here. -/
import Derived.Test.YtigpghmbeldakaaBM
namespace Go.Proofs.Ytigpghmbeldakaa
open Go.RowKit

/-- A buyer at p becomes a seller at 1000001 less p, and a seller a buyer. -/
def mirB (b : Bd) : Bd := (3 - b.1, 1000001 - b.2.1, b.2.2)
def mirL (l : List Bd) : List Bd := l.map mirB

theorem mirL_len (l : List Bd) : (mirL l).length = l.length := by simp [mirL]
theorem mirL_ok {l : List Bd} (h : ∀ b ∈ l, okB b = true) : ∀ b ∈ mirL l, okB b = true := by
  intro b hb
  obtain ⟨c, hc, rfl⟩ := List.mem_map.1 hb
  have := okB_iff.1 (h c hc)
  rw [okB_iff]
  simp only [mirB]
  omega
theorem mirL_at {l : List Bd} {i : Nat} (h : i < l.length) : (mirL l)[i]! = mirB l[i]! := by
  rw [getElem!_pos _ i (by rw [mirL_len]; exact h), getElem!_pos l i h]
  unfold mirL
  rw [List.getElem_map]

theorem dem_mir (l : List Bd) (x : Int) : dem (mirL l) x = sup l (1000001 - x) := by
  unfold dem sup mirL
  rw [List.map_map]
  congr 1
  apply List.map_congr_left
  intro b _
  show (if (mirB b).1 = 1 ∧ x ≤ (mirB b).2.1 then (mirB b).2.2 else 0) = _
  have m1 : (mirB b).1 = 3 - b.1 := rfl
  have m2 : (mirB b).2.1 = 1000001 - b.2.1 := rfl
  by_cases h : b.1 = 2 ∧ b.2.1 ≤ 1000001 - x
  · rw [if_pos h, if_pos (by omega)]; rfl
  · rw [if_neg h, if_neg (by omega)]
theorem sup_mir (l : List Bd) (x : Int) : sup (mirL l) x = dem l (1000001 - x) := by
  unfold dem sup mirL
  rw [List.map_map]
  congr 1
  apply List.map_congr_left
  intro b _
  show (if (mirB b).1 = 2 ∧ (mirB b).2.1 ≤ x then (mirB b).2.2 else 0) = _
  have m1 : (mirB b).1 = 3 - b.1 := rfl
  have m2 : (mirB b).2.1 = 1000001 - b.2.1 := rfl
  by_cases h : b.1 = 1 ∧ 1000001 - x ≤ b.2.1
  · rw [if_pos h, if_pos (by omega)]; rfl
  · rw [if_neg h, if_neg (by omega)]
theorem vol_mir (l : List Bd) (x : Int) : volAt (mirL l) x = volAt l (1000001 - x) := by
  unfold volAt
  rw [dem_mir, sup_mir, Int.min_comm]
theorem best_mir {l : List Bd} {x : Int} (h : BestAt l x) : BestAt (mirL l) (1000001 - x) := by
  obtain ⟨⟨h1, h2⟩, h3⟩ := h
  refine ⟨⟨by omega, by omega⟩, fun y hy => ?_⟩
  rw [vol_mir, vol_mir, show (1000001 : Int) - (1000001 - x) = x by omega]
  obtain ⟨y1, y2⟩ := hy
  exact h3 _ ⟨by omega, by omega⟩
theorem best_mir' {l : List Bd} {x : Int} (h : BestAt (mirL l) x) : BestAt l (1000001 - x) := by
  obtain ⟨⟨h1, h2⟩, h3⟩ := h
  refine ⟨⟨by omega, by omega⟩, fun y hy => ?_⟩
  obtain ⟨y1, y2⟩ := hy
  have := h3 (1000001 - y) ⟨by omega, by omega⟩
  rw [vol_mir, vol_mir, show (1000001 : Int) - (1000001 - y) = y by omega] at this
  exact this

theorem bests_mir {l : List Bd} {lo hi v er a b w f : Int} (h0 : checkT l = 0) (h1 : checkT (mirL l) = 0) (h : BestRes l lo hi v er) (k : BestRes (mirL l) a b w f) :
    (er = 0 ∧ f = 0 ∧ v = w ∧ a = 1000001 - hi ∧ b = 1000001 - lo) ∨ (er ≠ 0 ∧ er = f) := by
  by_cases he : er = 0
  · obtain ⟨b1, b2, b3, b4, b5⟩ := h.some h0 he
    by_cases hf : f = 0
    · obtain ⟨c1, c2, c3, c4, c5⟩ := k.some h1 hf
      have d1 := c3 _ (best_mir b1)
      have d2 := c3 _ (best_mir b2)
      have d3 := b3 _ (best_mir' c1)
      have d4 := b3 _ (best_mir' c2)
      have e1 := b1.2 _ (best_mir' c1).1
      have e2 := (best_mir' c1).2 _ b1.1
      rw [vol_mir] at c4
      exact Or.inl ⟨he, hf, by omega, by omega, by omega⟩
    · obtain ⟨_, _, _, _, c5⟩ := k.none h1 hf
      have := c5 _ (best_mir b1).1
      rw [vol_mir, show (1000001 : Int) - (1000001 - lo) = lo by omega] at this
      omega
  · obtain ⟨_, _, _, b4, b5⟩ := h.none h0 he
    by_cases hf : f = 0
    · obtain ⟨c1, c2, c3, c4, c5⟩ := k.some h1 hf
      have := b5 _ (best_mir' c1).1
      rw [vol_mir] at c4
      omega
    · obtain ⟨_, _, _, c4, _⟩ := k.none h1 hf
      exact Or.inr ⟨he, by omega⟩

theorem side_mir {l : List Bd} (F : List Int) (side : Int) : sideSum (mirL l) F side l.length = sideSum l F (3 - side) l.length := by
  rw [side_sumN l F, show sideSum (mirL l) F side l.length = sumN l.length fun i => if ((mirL l)[i]!).1 = side then F[i]! else 0 from rfl]
  refine sumN_congr _ fun i hi => ?_
  rw [mirL_at hi]
  have m1 : (mirB l[i]!).1 = 3 - (l[i]!).1 := rfl
  by_cases h : (l[i]!).1 = 3 - side
  · rw [if_pos h, if_pos (by omega)]
  · rw [if_neg h, if_neg (by omega)]

theorem gain_mir {l : List Bd} (hok : ∀ b ∈ l, okB b = true) {G : List Int} (hG : sideSum l G 1 l.length = sideSum l G 2 l.length) : gainN (mirL l) G = gainN l G := by
  unfold gainN
  rw [mirL_len]
  have e : (sumN l.length fun i => worthT (mirL l)[i]! G[i]!) = sumN l.length fun i => worthT l[i]! G[i]! + (1000001 * (if (l[i]!).1 = 2 then G[i]! else 0) + (-1000001) * (if (l[i]!).1 = 1 then G[i]! else 0)) := by
    refine sumN_congr _ fun i hi => ?_
    rw [mirL_at hi]
    unfold worthT
    have m1 : (mirB l[i]!).1 = 3 - (l[i]!).1 := rfl
    have m2 : (mirB l[i]!).2.1 = 1000001 - (l[i]!).2.1 := rfl
    rcases side_of hok hi with h | h
    · rw [if_pos (by omega), if_neg (by omega), if_neg (by omega), if_pos h, m2, Int.sub_mul]
      omega
    · rw [if_neg (by omega), if_pos h, if_pos h, if_neg (by omega), m2, Int.sub_mul]
      omega
  rw [e, sumN_add, sumN_add, sumN_mul, sumN_mul, ← side_sumN, ← side_sumN, hG]
  omega

theorem qty_mir {l : List Bd} {i : Nat} (h : i < l.length) : qtyOf (mirL l) i = qtyOf l i := by
  unfold qtyOf
  rw [mirL_at h]
  rfl

/-- The greatest gain of the mirrored bids is the same. -/
theorem gains_mir {l : List Bd} (hok : ∀ b ∈ l, okB b = true) {x y : Int} {F G : List Int} (hx : BestAt l x) (hF : FillOk l x (volAt l x) F) (hy : BestAt (mirL l) y) (hG : FillOk (mirL l) y (volAt (mirL l) y) G) : gainN l F = gainN (mirL l) G := by
  have bF : sideSum l F 1 l.length = sideSum l F 2 l.length := by
    rw [← sum_of_part hF.out l.length (Nat.le_refl _), ← sum_of_part hF.out l.length (Nat.le_refl _), hF.buy, hF.sell]
  have bG : sideSum (mirL l) G 1 (mirL l).length = sideSum (mirL l) G 2 (mirL l).length := by
    rw [← sum_of_part hG.out _ (Nat.le_refl _), ← sum_of_part hG.out _ (Nat.le_refl _), hG.buy, hG.sell]
  have bF' : sideSum (mirL l) F 1 (mirL l).length = sideSum (mirL l) F 2 (mirL l).length := by
    rw [mirL_len, side_mir, side_mir]; exact bF.symm
  have bG' : sideSum l G 1 l.length = sideSum l G 2 l.length := by
    rw [mirL_len, side_mir, side_mir] at bG; exact bG.symm
  have hG' : ∀ i, i < l.length → 0 ≤ G[i]! ∧ G[i]! ≤ qtyOf l i := fun i hi => by
    have := hG.bd i (by rw [mirL_len]; exact hi)
    rwa [qty_mir hi] at this
  have hF' : ∀ i, i < (mirL l).length → 0 ≤ F[i]! ∧ F[i]! ≤ qtyOf (mirL l) i := fun i hi => by
    rw [mirL_len] at hi
    rw [qty_mir hi]
    exact hF.bd i hi
  have h1 := fill_max hok hx hF hG' bG'
  have h2 := fill_max (mirL_ok hok) hy hG hF' bF'
  rw [gain_mir hok bF] at h2
  rw [gain_mir hok bG'] at h2 ⊢
  omega

/-- Bids that have a price with a volume are cleared. -/
theorem clear_yes {l : List Bd} {ref rule px v sr er z : Int} {fv : Value} {w w' : World} (h : ClearRes (PriceAt l ref) l rule px v sr fv er w w') (hz : BestAt l z) (hv : 0 < volAt l z) : er = 0 := by
  refine Classical.byContradiction fun hc => ?_
  obtain ⟨_, _, _, _, _, x, hP, hx⟩ := h.no hc
  have := hP.few.1.2 z hz.1
  omega

theorem fit_of_ok {l : List Bd} {x V : Int} {F : List Int} (h : FillOk l x V F) : (l.zip F).all fitB = true := by
  rw [List.all_eq_true]
  intro z hz
  obtain ⟨i, hi, rfl⟩ := List.getElem_of_mem hz
  have hl := h.len
  rw [List.length_zip] at hi
  rw [List.getElem_zip]
  have hb := h.bd i (by omega)
  unfold qtyOf at hb
  rw [getElem!_pos l i (by omega), getElem!_pos F i (by omega)] at hb
  unfold fitB
  exact decide_eq_true hb

theorem gainR_ok {l : List Bd} {x V : Int} {F : List Int} (h0 : checkT l = 0) (h : FillOk l x V F) : gainR l F = (gainN l F, 0) := by
  unfold gainR
  rw [if_neg (by omega), if_pos ⟨h.len, fit_of_ok h⟩, gainT_eq h.len]

end Go.Proofs.Ytigpghmbeldakaa
