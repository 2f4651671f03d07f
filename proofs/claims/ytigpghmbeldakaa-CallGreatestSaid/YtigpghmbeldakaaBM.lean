/- The fills at the price of an auction have the greatest gain of all that are balanced. No Go here. -/
import Derived.Test.YtigpghmbeldakaaBK
namespace Go.Proofs.Ytigpghmbeldakaa
open Go.RowKit

/-- A sum over the first n numbers. -/
def sumN (n : Nat) (f : Nat → Int) : Int := ((List.range n).map f).sum

theorem sumN_succ (n : Nat) (f : Nat → Int) : sumN (n + 1) f = sumN n f + f n := by
  unfold sumN
  rw [List.range_succ, List.map_append, List.sum_append]
  simp
theorem sumN_le {f g : Nat → Int} : ∀ n, (∀ i, i < n → f i ≤ g i) → sumN n f ≤ sumN n g
  | 0, _ => by simp [sumN]
  | n + 1, h => by
    have h1 := sumN_le n (fun i hi => h i (by omega))
    have h2 := h n (by omega)
    rw [sumN_succ, sumN_succ]
    omega
theorem sumN_lt {f g : Nat → Int} : ∀ n, (∀ i, i < n → f i ≤ g i) → (∃ u, u < n ∧ f u < g u) → sumN n f < sumN n g
  | 0, _, h => by obtain ⟨u, hu, _⟩ := h; omega
  | n + 1, h, ⟨u, hu, hlt⟩ => by
    have h1 := sumN_le n (fun i hi => h i (by omega))
    have h2 := h n (by omega)
    rw [sumN_succ, sumN_succ]
    rcases Nat.lt_or_ge u n with hc | hc
    · have h3 := sumN_lt n (fun i hi => h i (by omega)) ⟨u, hc, hlt⟩
      omega
    · have : u = n := by omega
      subst this
      omega
theorem sumN_congr {f g : Nat → Int} : ∀ n, (∀ i, i < n → f i = g i) → sumN n f = sumN n g
  | 0, _ => rfl
  | n + 1, h => by rw [sumN_succ, sumN_succ, sumN_congr n (fun i hi => h i (by omega)), h n (by omega)]
theorem sumN_add (f g : Nat → Int) : ∀ n, sumN n (fun i => f i + g i) = sumN n f + sumN n g
  | 0 => by simp [sumN]
  | n + 1 => by rw [sumN_succ, sumN_succ, sumN_succ, sumN_add f g n]; omega
theorem sumN_mul (c : Int) (f : Nat → Int) : ∀ n, sumN n (fun i => c * f i) = c * sumN n f
  | 0 => by simp [sumN]
  | n + 1 => by rw [sumN_succ, sumN_succ, sumN_mul c f n, Int.mul_add]
theorem sum_map_sumN {α : Type} [Inhabited α] (g : α → Int) : ∀ l : List α, (l.map g).sum = sumN l.length fun i => g l[i]! := by
  intro l
  have : ∀ n, n ≤ l.length → ((l.take n).map g).sum = sumN n fun i => g l[i]! := by
    intro n
    induction n with
    | zero => intro _; simp [sumN]
    | succ n ih =>
      intro h
      have hx : l[n]? = some l[n]! := by rw [getElem!_pos l n (by omega)]; exact List.getElem?_eq_getElem _
      rw [take_next hx, List.map_append, List.sum_append, ih (by omega), sumN_succ]
      simp
  have h := this l.length (Nat.le_refl _)
  rwa [List.take_length] at h

/-- Of those with a property one has the least key. -/
theorem least_ex (P : Nat → Prop) (key : Nat → Int) : ∀ n, (∃ i, i < n ∧ P i) → ∃ i, i < n ∧ P i ∧ ∀ j, j < n → P j → key i ≤ key j
  | 0, h => by obtain ⟨i, hi, _⟩ := h; omega
  | n + 1, h => by
    by_cases hs : ∃ i, i < n ∧ P i
    · obtain ⟨i, hi, hp, hm⟩ := least_ex P key n hs
      by_cases hn : P n ∧ key n < key i
      · refine ⟨n, by omega, hn.1, fun j hj hpj => ?_⟩
        rcases Nat.lt_or_ge j n with h1 | h1
        · have := hm j h1 hpj; omega
        · have : j = n := by omega
          subst this
          omega
      · refine ⟨i, by omega, hp, fun j hj hpj => ?_⟩
        rcases Nat.lt_or_ge j n with h1 | h1
        · exact hm j h1 hpj
        · have : j = n := by omega
          subst this
          exact Int.not_lt.1 fun hlt => hn ⟨hpj, hlt⟩
    · obtain ⟨i, hi, hp⟩ := h
      have hin : i = n := by
        rcases Nat.lt_or_ge i n with h1 | h1
        · exact absurd ⟨i, h1, hp⟩ hs
        · omega
      subst hin
      refine ⟨i, by omega, hp, fun j hj hpj => ?_⟩
      rcases Nat.lt_or_ge j i with h1 | h1
      · exact absurd ⟨j, h1, hpj⟩ hs
      · have : j = i := by omega
        subst this
        omega

theorem dem_sumN (l : List Bd) (x : Int) : dem l x = sumN l.length fun i => if (l[i]!).1 = 1 ∧ x ≤ priceOf l i then qtyOf l i else 0 := sum_map_sumN _ l
theorem sup_sumN (l : List Bd) (x : Int) : sup l x = sumN l.length fun i => if (l[i]!).1 = 2 ∧ priceOf l i ≤ x then qtyOf l i else 0 := sum_map_sumN _ l
theorem side_sumN (l : List Bd) (F : List Int) (side : Int) : sideSum l F side l.length = sumN l.length fun i => if (l[i]!).1 = side then F[i]! else 0 := rfl

theorem takes_buy {l : List Bd} {x : Int} {i : Nat} (h : (l[i]!).1 = 1) : takesB l[i]! x = decide (x ≤ priceOf l i) := by unfold takesB; rw [if_pos h]; rfl
theorem takes_sell {l : List Bd} {x : Int} {i : Nat} (h : (l[i]!).1 = 2) : takesB l[i]! x = decide (priceOf l i ≤ x) := by unfold takesB; rw [if_neg (by omega)]; rfl

/-- A price at which the fills are just what all would choose. -/
structure Dual (l : List Bd) (F : List Int) (y : Int) : Prop where
  buyUp : ∀ i, i < l.length → (l[i]!).1 = 1 → y < priceOf l i → F[i]! = qtyOf l i
  buyDown : ∀ i, i < l.length → (l[i]!).1 = 1 → priceOf l i < y → F[i]! = 0
  sellDown : ∀ i, i < l.length → (l[i]!).1 = 2 → priceOf l i < y → F[i]! = qtyOf l i
  sellUp : ∀ i, i < l.length → (l[i]!).1 = 2 → y < priceOf l i → F[i]! = 0

theorem price_in {l : List Bd} (hok : ∀ b ∈ l, okB b = true) {i : Nat} (hi : i < l.length) : InR (priceOf l i) := by
  have := okB_iff.1 (hok l[i]! (by rw [getElem!_pos l i hi]; exact List.getElem_mem hi))
  exact this.2.1

theorem dual_ex {l : List Bd} (hok : ∀ b ∈ l, okB b = true) {x : Int} {F : List Int} (hx : BestAt l x) (hF : FillOk l x (volAt l x) F) : ∃ y, Dual l F y := by
  have hq : ∀ i, i < l.length → 1 ≤ qtyOf l i := fun i hi => qty_nn hok hi
  have hb := sum_of_part hF.out l.length (Nat.le_refl _) (side := 1)
  have hs := sum_of_part hF.out l.length (Nat.le_refl _) (side := 2)
  rw [hF.buy, side_sumN] at hb
  rw [hF.sell, side_sumN] at hs
  have zb : ∀ i, i < l.length → (l[i]!).1 = 1 → priceOf l i < x → F[i]! = 0 := fun i hi h1 h2 => hF.out i hi (by rw [takes_buy h1]; exact decide_eq_false (by omega))
  have zs : ∀ i, i < l.length → (l[i]!).1 = 2 → x < priceOf l i → F[i]! = 0 := fun i hi h1 h2 => hF.out i hi (by rw [takes_sell h1]; exact decide_eq_false (by omega))
  have kb : ∀ i, keyT l 1 i = -priceOf l i := fun i => by unfold keyT; rw [if_pos rfl]
  have ks : ∀ i, keyT l 2 i = priceOf l i := fun i => by unfold keyT; rw [if_neg (by omega)]
  -- the greatest volume is less than what some other price would trade
  have big : ∀ p, InR p → volAt l x < dem l p → volAt l x < sup l p → False := fun p hp h1 h2 => by
    have := hx.2 p hp
    have e : volAt l p = min (dem l p) (sup l p) := rfl
    omega
  rcases Int.le_total (dem l x) (sup l x) with hc | hc
  · have hfull := served_full hF (Or.inl rfl) (by rw [if_pos rfl]; unfold volAt; omega)
    have fb : ∀ i, i < l.length → (l[i]!).1 = 1 → x ≤ priceOf l i → F[i]! = qtyOf l i := fun i hi h1 h2 => hfull i hi (part_buy h1 h2)
    by_cases hU : ∃ u, u < l.length ∧ ((l[u]!).1 = 2 ∧ priceOf l u ≤ x ∧ F[u]! < qtyOf l u)
    · obtain ⟨u, hu, ⟨u1, u2, u3⟩, hmin⟩ := least_ex _ (priceOf l) l.length hU
      refine ⟨priceOf l u, ?_, ?_, ?_, ?_⟩
      · intro i hi h1 h2
        rcases Int.lt_or_le (priceOf l i) x with h3 | h3
        · exfalso
          refine (fun h : volAt l x < dem l (priceOf l i) ∧ volAt l x < sup l (priceOf l i) => big (priceOf l i) (price_in hok hi) h.1 h.2) ?_
          have hFi := zb i hi h1 h3
          have hqi := hq i hi
          constructor
          · rw [hb, dem_sumN]
            refine sumN_lt _ (fun j hj => ?_) ⟨i, hi, ?_⟩
            · by_cases hj1 : (l[j]!).1 = 1
              · rw [if_pos hj1]
                by_cases hj2 : priceOf l i ≤ priceOf l j
                · rw [if_pos ⟨hj1, hj2⟩]; exact (hF.bd j hj).2
                · rw [if_neg (fun h => hj2 h.2), zb j hj hj1 (by omega)]; omega
              · rw [if_neg hj1, if_neg (fun h => hj1 h.1)]; omega
            · rw [if_pos h1, if_pos ⟨h1, Int.le_refl _⟩, hFi]; omega
          · rw [hs, sup_sumN]
            refine sumN_lt _ (fun j hj => ?_) ⟨u, hu, ?_⟩
            · by_cases hj1 : (l[j]!).1 = 2
              · rw [if_pos hj1]
                by_cases hj2 : priceOf l j ≤ priceOf l i
                · rw [if_pos ⟨hj1, hj2⟩]; exact (hF.bd j hj).2
                · rw [if_neg (fun h => hj2 h.2)]
                  have hj0 : F[j]! ≤ 0 := by
                    refine Int.not_lt.1 fun hpos => ?_
                    have hjx : priceOf l j ≤ x := Int.not_lt.1 fun h => by rw [zs j hj hj1 h] at hpos; omega
                    have := hF.prio 2 (Or.inr rfl) u j hu hj (part_sell u1 u2) (part_sell hj1 hjx) (by rw [ks, ks]; omega) hpos
                    omega
                  exact hj0
              · rw [if_neg hj1, if_neg (fun h => hj1 h.1)]; omega
            · rw [if_pos u1, if_pos ⟨u1, by omega⟩]; exact u3
        · exact fb i hi h1 h3
      · intro i hi h1 h2
        exact zb i hi h1 (by omega)
      · intro i hi h1 h2
        refine Int.le_antisymm (hF.bd i hi).2 (Int.not_lt.1 fun hlt => ?_)
        have := hmin i hi ⟨h1, by omega, hlt⟩
        omega
      · intro i hi h1 h2
        refine Int.le_antisymm (Int.not_lt.1 fun hpos => ?_) (hF.bd i hi).1
        have hix : priceOf l i ≤ x := Int.not_lt.1 fun h => by rw [zs i hi h1 h] at hpos; omega
        have := hF.prio 2 (Or.inr rfl) u i hu hi (part_sell u1 u2) (part_sell h1 hix) (by rw [ks, ks]; omega) hpos
        omega
    · refine ⟨x, fun i hi h1 h2 => fb i hi h1 (by omega), zb, fun i hi h1 h2 => ?_, zs⟩
      exact Int.le_antisymm (hF.bd i hi).2 (Int.not_lt.1 fun hlt => hU ⟨i, hi, h1, by omega, hlt⟩)
  · have hfull := served_full hF (Or.inr rfl) (by rw [if_neg (by omega)]; unfold volAt; omega)
    have fs : ∀ i, i < l.length → (l[i]!).1 = 2 → priceOf l i ≤ x → F[i]! = qtyOf l i := fun i hi h1 h2 => hfull i hi (part_sell h1 h2)
    by_cases hU : ∃ u, u < l.length ∧ ((l[u]!).1 = 1 ∧ x ≤ priceOf l u ∧ F[u]! < qtyOf l u)
    · obtain ⟨u, hu, ⟨u1, u2, u3⟩, hmin⟩ := least_ex _ (fun i => -priceOf l i) l.length hU
      refine ⟨priceOf l u, ?_, ?_, ?_, ?_⟩
      · intro i hi h1 h2
        refine Int.le_antisymm (hF.bd i hi).2 (Int.not_lt.1 fun hlt => ?_)
        have := hmin i hi ⟨h1, by omega, hlt⟩
        omega
      · intro i hi h1 h2
        refine Int.le_antisymm (Int.not_lt.1 fun hpos => ?_) (hF.bd i hi).1
        have hix : x ≤ priceOf l i := Int.not_lt.1 fun h => by rw [zb i hi h1 h] at hpos; omega
        have := hF.prio 1 (Or.inl rfl) u i hu hi (part_buy u1 u2) (part_buy h1 hix) (by rw [kb, kb]; omega) hpos
        omega
      · intro i hi h1 h2
        rcases Int.lt_or_le x (priceOf l i) with h3 | h3
        · exfalso
          refine (fun h : volAt l x < dem l (priceOf l i) ∧ volAt l x < sup l (priceOf l i) => big (priceOf l i) (price_in hok hi) h.1 h.2) ?_
          have hFi := zs i hi h1 h3
          have hqi := hq i hi
          constructor
          · rw [hb, dem_sumN]
            refine sumN_lt _ (fun j hj => ?_) ⟨u, hu, ?_⟩
            · by_cases hj1 : (l[j]!).1 = 1
              · rw [if_pos hj1]
                by_cases hj2 : priceOf l i ≤ priceOf l j
                · rw [if_pos ⟨hj1, hj2⟩]; exact (hF.bd j hj).2
                · rw [if_neg (fun h => hj2 h.2)]
                  have hj0 : F[j]! ≤ 0 := by
                    refine Int.not_lt.1 fun hpos => ?_
                    have hjx : x ≤ priceOf l j := Int.not_lt.1 fun h => by rw [zb j hj hj1 h] at hpos; omega
                    have := hF.prio 1 (Or.inl rfl) u j hu hj (part_buy u1 u2) (part_buy hj1 hjx) (by rw [kb, kb]; omega) hpos
                    omega
                  exact hj0
              · rw [if_neg hj1, if_neg (fun h => hj1 h.1)]; omega
            · rw [if_pos u1, if_pos ⟨u1, by omega⟩]; exact u3
          · rw [hs, sup_sumN]
            refine sumN_lt _ (fun j hj => ?_) ⟨i, hi, ?_⟩
            · by_cases hj1 : (l[j]!).1 = 2
              · rw [if_pos hj1]
                by_cases hj2 : priceOf l j ≤ priceOf l i
                · rw [if_pos ⟨hj1, hj2⟩]; exact (hF.bd j hj).2
                · rw [if_neg (fun h => hj2 h.2), zs j hj hj1 (by omega)]; omega
              · rw [if_neg hj1, if_neg (fun h => hj1 h.1)]; omega
            · rw [if_pos h1, if_pos ⟨h1, Int.le_refl _⟩, hFi]; omega
        · exact fs i hi h1 h3
      · intro i hi h1 h2
        exact zs i hi h1 (by omega)
    · refine ⟨x, fun i hi h1 h2 => ?_, zb, fun i hi h1 h2 => fs i hi h1 (by omega), zs⟩
      exact Int.le_antisymm (hF.bd i hi).2 (Int.not_lt.1 fun hlt => hU ⟨i, hi, h1, by omega, hlt⟩)

/-- What a bid gains by what it trades. -/
def gainN (l : List Bd) (F : List Int) : Int := sumN l.length fun i => worthT l[i]! F[i]!

theorem gainT_eq {l : List Bd} {F : List Int} (h : F.length = l.length) : gainT l F = gainN l F := by
  unfold gainT gainN
  rw [sum_map_sumN (fun p : Bd × Int => worthT p.1 p.2), List.length_zip, h, Nat.min_self]
  refine sumN_congr _ fun i hi => ?_
  rw [getElem!_pos (l.zip F) i (by rw [List.length_zip]; omega), List.getElem_zip, getElem!_pos l i hi, getElem!_pos F i (by omega)]

/-- No balanced fills gain more. -/
theorem dual_max {l : List Bd} (hok : ∀ b ∈ l, okB b = true) {F G : List Int} {y : Int} (hd : Dual l F y) (hF : ∀ i, i < l.length → 0 ≤ F[i]! ∧ F[i]! ≤ qtyOf l i) (hG : ∀ i, i < l.length → 0 ≤ G[i]! ∧ G[i]! ≤ qtyOf l i)
    (bF : sideSum l F 1 l.length = sideSum l F 2 l.length) (bG : sideSum l G 1 l.length = sideSum l G 2 l.length) : gainN l G ≤ gainN l F := by
  -- the gain is what all gain against the price y
  have key : ∀ H : List Int, sideSum l H 1 l.length = sideSum l H 2 l.length → gainN l H = sumN l.length fun i => if (l[i]!).1 = 1 then (priceOf l i - y) * H[i]! else (y - priceOf l i) * H[i]! := fun H hH => by
    have e1 : (sumN l.length fun i => if (l[i]!).1 = 1 then (priceOf l i - y) * H[i]! else (y - priceOf l i) * H[i]!) = sumN l.length (fun i => worthT l[i]! H[i]! + (-y * (if (l[i]!).1 = 1 then H[i]! else 0) + y * (if (l[i]!).1 = 2 then H[i]! else 0))) := by
      refine sumN_congr _ fun i hi => ?_
      unfold worthT priceOf
      rcases side_of hok hi with h | h
      · rw [if_pos h, if_neg (by omega), if_pos h, if_neg (by omega), Int.sub_mul, Int.mul_zero, Int.neg_mul]; omega
      · rw [if_neg (by omega), if_pos h, if_neg (by omega), if_pos h, Int.sub_mul, Int.mul_zero]; omega
    rw [e1, sumN_add, sumN_add, sumN_mul, sumN_mul, ← side_sumN, ← side_sumN, hH]
    unfold gainN
    rw [Int.neg_mul]
    omega
  rw [key F bF, key G bG]
  refine sumN_le _ fun i hi => ?_
  obtain ⟨f1, f2⟩ := hF i hi
  obtain ⟨g1, g2⟩ := hG i hi
  have pm : ∀ a b c : Int, 0 ≤ a → b ≤ c → a * b ≤ a * c := fun a b c h1 h2 => Int.mul_le_mul_of_nonneg_left h2 h1
  rcases side_of hok hi with h | h
  · rw [if_pos h, if_pos h]
    rcases Int.lt_trichotomy y (priceOf l i) with h1 | h1 | h1
    · rw [hd.buyUp i hi h h1]; exact pm _ _ _ (by omega) g2
    · rw [← h1, Int.sub_self]; omega
    · rw [hd.buyDown i hi h h1]
      have := pm (y - priceOf l i) 0 G[i]! (by omega) g1
      have e : (priceOf l i - y) * G[i]! = -((y - priceOf l i) * G[i]!) := by rw [← Int.neg_mul, Int.neg_sub]
      omega
  · rw [if_neg (by omega), if_neg (by omega)]
    rcases Int.lt_trichotomy y (priceOf l i) with h1 | h1 | h1
    · rw [hd.sellUp i hi h h1]
      have := pm (priceOf l i - y) 0 G[i]! (by omega) g1
      have e : (y - priceOf l i) * G[i]! = -((priceOf l i - y) * G[i]!) := by rw [← Int.neg_mul, Int.neg_sub]
      omega
    · rw [← h1, Int.sub_self]; omega
    · rw [hd.sellDown i hi h h1]; exact pm _ _ _ (by omega) g2

theorem fill_max {l : List Bd} (hok : ∀ b ∈ l, okB b = true) {x : Int} {F G : List Int} (hx : BestAt l x) (hF : FillOk l x (volAt l x) F) (hG : ∀ i, i < l.length → 0 ≤ G[i]! ∧ G[i]! ≤ qtyOf l i) (bG : sideSum l G 1 l.length = sideSum l G 2 l.length) : gainN l G ≤ gainN l F := by
  obtain ⟨y, hd⟩ := dual_ex hok hx hF
  refine dual_max hok hd hF.bd hG ?_ bG
  rw [← sum_of_part hF.out l.length (Nat.le_refl _), ← sum_of_part hF.out l.length (Nat.le_refl _), hF.buy, hF.sell]

end Go.Proofs.Ytigpghmbeldakaa
