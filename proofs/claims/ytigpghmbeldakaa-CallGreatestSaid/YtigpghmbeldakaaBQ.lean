/- The greatest gain by pairing the best: the mathematics. No Go here. -/
import Derived.Test.YtigpghmbeldakaaBN
namespace Go.Proofs.Ytigpghmbeldakaa
open Go.RowKit

theorem sumN_at (f g : Nat → Int) (u : Nat) : ∀ n, u < n → (∀ i, i < n → i ≠ u → g i = f i) → sumN n g = sumN n f + (g u - f u)
  | 0, h, _ => by omega
  | n + 1, h, he => by
    rw [sumN_succ, sumN_succ]
    by_cases hu : u = n
    · subst hu
      rw [sumN_congr u (fun i hi => he i (by omega) (by omega))]
      omega
    · rw [sumN_at f g u n (by omega) (fun i hi hne => he i (by omega) hne), he n (by omega) (by omega)]
      omega

/-- What is served, where A is left. -/
def servedL (l : List Bd) (A : List Int) : List Int := (List.range l.length).map fun i : Nat => qtyOf l i - A[i]!
theorem servedL_at {l : List Bd} {A : List Int} {i : Nat} (h : i < l.length) : (servedL l A)[i]! = qtyOf l i - A[i]! := by
  unfold servedL
  rw [getElem!_pos _ i (by simpa using h), List.getElem_map, List.getElem_range]

/-- The best are paired, as far as A is left. -/
structure Greedy (l : List Bd) (A : List Int) : Prop where
  len : A.length = l.length
  bd : ∀ i, i < l.length → 0 ≤ A[i]! ∧ A[i]! ≤ qtyOf l i
  bal : sideSum l (servedL l A) 1 l.length = sideSum l (servedL l A) 2 l.length
  i1 : ∀ i j, i < l.length → j < l.length → (l[i]!).1 = 1 → (l[j]!).1 = 1 → priceOf l j < priceOf l i → A[j]! < qtyOf l j → A[i]! = 0
  i2 : ∀ i j, i < l.length → j < l.length → (l[i]!).1 = 2 → (l[j]!).1 = 2 → priceOf l i < priceOf l j → A[j]! < qtyOf l j → A[i]! = 0
  i3 : ∀ i j, i < l.length → j < l.length → (l[i]!).1 = 1 → (l[j]!).1 = 2 → A[i]! < qtyOf l i → A[j]! < qtyOf l j → priceOf l j < priceOf l i

/-- The best buyer, or seller, of the first k that has something left. -/
structure Best1 (l : List Bd) (A : List Int) (k b : Nat) : Prop where
  lt : b < k
  side : (l[b]!).1 = 1
  left : A[b]! ≠ 0
  best : ∀ j, j < k → (l[j]!).1 = 1 → A[j]! ≠ 0 → priceOf l j ≤ priceOf l b
structure Best2 (l : List Bd) (A : List Int) (k s : Nat) : Prop where
  lt : s < k
  side : (l[s]!).1 = 2
  left : A[s]! ≠ 0
  best : ∀ j, j < k → (l[j]!).1 = 2 → A[j]! ≠ 0 → priceOf l s ≤ priceOf l j

theorem greedy_start {l : List Bd} (hok : ∀ b ∈ l, okB b = true) {A : List Int} (hl : A.length = l.length) (hA : ∀ i, i < l.length → A[i]! = qtyOf l i) : Greedy l A ∧ gainN l (servedL l A) = 0 := by
  have hz : ∀ i, i < l.length → (servedL l A)[i]! = 0 := fun i hi => by rw [servedL_at hi, hA i hi]; omega
  have hs : ∀ side, sideSum l (servedL l A) side l.length = 0 := fun side => by
    rw [side_sumN, sumN_congr (g := fun _ => 0) _ (fun i hi => by rw [hz i hi]; simp)]
    have : ∀ n, sumN n (fun _ => (0 : Int)) = 0 := fun n => by
      induction n with
      | zero => simp [sumN]
      | succ n ih => rw [sumN_succ, ih]; omega
    exact this _
  refine ⟨⟨hl, fun i hi => ?_, by rw [hs, hs], ?_, ?_, ?_⟩, ?_⟩
  · have := qty_nn hok hi
    rw [hA i hi]
    omega
  · intro i j _ hj _ _ _ h; rw [hA j hj] at h; omega
  · intro i j _ hj _ _ _ h; rw [hA j hj] at h; omega
  · intro i j hi _ _ _ h _; rw [hA i hi] at h; omega
  · unfold gainN
    rw [sumN_congr (g := fun _ => 0) _ (fun i hi => by rw [hz i hi]; unfold worthT; split <;> simp)]
    have : ∀ n, sumN n (fun _ => (0 : Int)) = 0 := fun n => by
      induction n with
      | zero => simp [sumN]
      | succ n ih => rw [sumN_succ, ih]; omega
    exact this _

theorem greedy_step {l : List Bd} {A : List Int} {b s : Nat} {m : Int} (h : Greedy l A) (hb : Best1 l A l.length b) (hs : Best2 l A l.length s) (hp : priceOf l s < priceOf l b) (hm : m = min A[b]! A[s]!) :
    Greedy l ((A.set b (A[b]! - m)).set s (A[s]! - m)) ∧ gainN l (servedL l ((A.set b (A[b]! - m)).set s (A[s]! - m))) = gainN l (servedL l A) + m * (priceOf l b - priceOf l s) ∧ 0 < m := by
  have hbs : b ≠ s := fun e => by have := hb.side; have h2 := hs.side; rw [e] at this; omega
  have bl := hb.lt
  have sl := hs.lt
  have b0 := h.bd b bl
  have s0 := h.bd s sl
  have hb1 := hb.left
  have hs1 := hs.left
  have hm0 : 0 < m := by omega
  obtain ⟨A', hA'⟩ : ∃ A', A' = (A.set b (A[b]! - m)).set s (A[s]! - m) := ⟨_, rfl⟩
  rw [← hA']
  have hlen : A'.length = l.length := by rw [hA', List.length_set, List.length_set, h.len]
  have ab : A'[b]! = A[b]! - m := by
    rw [hA', get!_set (by rw [List.length_set, h.len]; exact sl), if_neg (fun e => hbs e.symm), get!_set (by rw [h.len]; exact bl), if_pos rfl]
  have az : A'[s]! = A[s]! - m := by
    rw [hA', get!_set (by rw [List.length_set, h.len]; exact sl), if_pos rfl]
  have ao : ∀ i, i ≠ b → i ≠ s → A'[i]! = A[i]! := fun i h1 h2 => by
    rw [hA', get!_set (by rw [List.length_set, h.len]; exact sl), if_neg (fun e => h2 e.symm), get!_set (by rw [h.len]; exact bl), if_neg (fun e => h1 e.symm)]
  clear hA'
  have hval : ∀ i, A'[i]! = if i = b then A[b]! - m else if i = s then A[s]! - m else A[i]! := fun i => by
    by_cases e1 : i = b
    · subst e1; rw [if_pos rfl, ab]
    · by_cases e2 : i = s
      · subst e2; rw [if_neg e1, if_pos rfl, az]
      · rw [if_neg e1, if_neg e2, ao i e1 e2]
  have sb := hb.side
  have ss := hs.side
  -- sums that turn at two places
  have two : ∀ f : Nat → Int → Int, sumN l.length (fun i => f i (servedL l A')[i]!) = sumN l.length (fun i => f i (servedL l A)[i]!) + (f b (qtyOf l b - A[b]! + m) - f b (qtyOf l b - A[b]!)) + (f s (qtyOf l s - A[s]! + m) - f s (qtyOf l s - A[s]!)) := fun f => by
    have e1 := sumN_at (fun i => f i (servedL l A)[i]!) (fun i => if i = b then f b (qtyOf l b - A[b]! + m) else f i (servedL l A)[i]!) b l.length bl (fun i _ hne => if_neg hne)
    have e2 := sumN_at (fun i => if i = b then f b (qtyOf l b - A[b]! + m) else f i (servedL l A)[i]!) (fun i => f i (servedL l A')[i]!) s l.length sl (fun i hi hne => by
      show f i (servedL l A')[i]! = if i = b then _ else _
      rw [servedL_at hi]
      by_cases e : i = b
      · subst e
        rw [if_pos rfl, ab]
        congr 1
        omega
      · rw [if_neg e, ao i e hne, servedL_at hi])
    simp only [if_pos, if_neg (show ¬ s = b from fun e => hbs e.symm), servedL_at bl, servedL_at sl] at e1 e2
    rw [az] at e2
    rw [e2, e1]
    have e3 : qtyOf l s - (A[s]! - m) = qtyOf l s - A[s]! + m := by omega
    rw [e3]
  refine ⟨⟨hlen, ?_, ?_, ?_, ?_, ?_⟩, ?_, hm0⟩
  · intro i hi
    have := h.bd i hi
    rw [hval]
    split
    · rename_i e; subst e; omega
    · split
      · rename_i e; subst e; omega
      · omega
  · have t1 := two (fun i y => if (l[i]!).1 = 1 then y else 0)
    have t2 := two (fun i y => if (l[i]!).1 = 2 then y else 0)
    rw [side_sumN, side_sumN]
    rw [t1, t2, ← side_sumN, ← side_sumN, h.bal]
    rw [if_pos sb, if_pos sb, if_neg (by omega), if_neg (by omega), if_neg (by omega), if_neg (by omega), if_pos ss, if_pos ss]
    omega
  · intro i j hi hj hi1 hj1 hpr hjs
    have his : i ≠ s := fun e => by rw [e] at hi1; omega
    have hjs' : j ≠ s := fun e => by rw [e] at hj1; omega
    by_cases ej : j = b
    · subst ej
      have eib : i ≠ j := fun e => by rw [e] at hpr; omega
      rw [ao i eib his]
      refine Classical.byContradiction fun hc => ?_
      have := hb.best i hi hi1 hc
      omega
    · rw [ao j ej hjs'] at hjs
      have hz := h.i1 i j hi hj hi1 hj1 hpr hjs
      by_cases ei : i = b
      · subst ei; exact absurd hz hb1
      · rw [ao i ei his]; exact hz
  · intro i j hi hj hi2 hj2 hpr hjs
    have hib : i ≠ b := fun e => by rw [e] at hi2; omega
    have hjb : j ≠ b := fun e => by rw [e] at hj2; omega
    by_cases ej : j = s
    · subst ej
      have eis : i ≠ j := fun e => by rw [e] at hpr; omega
      rw [ao i hib eis]
      refine Classical.byContradiction fun hc => ?_
      have := hs.best i hi hi2 hc
      omega
    · rw [ao j hjb ej] at hjs
      have hz := h.i2 i j hi hj hi2 hj2 hpr hjs
      by_cases ei : i = s
      · subst ei; exact absurd hz hs1
      · rw [ao i hib ei]; exact hz
  · intro i j hi hj hi1 hj2 his hjs
    have his' : i ≠ s := fun e => by rw [e] at hi1; omega
    have hjb : j ≠ b := fun e => by rw [e] at hj2; omega
    have p1 : priceOf l b ≤ priceOf l i := by
      by_cases ei : i = b
      · rw [ei]; omega
      · rw [ao i ei his'] at his
        refine Int.not_lt.1 fun hlt => ?_
        exact hb1 (h.i1 b i bl hi sb hi1 hlt his)
    have p2 : priceOf l j ≤ priceOf l s := by
      by_cases ej : j = s
      · rw [ej]; omega
      · rw [ao j hjb ej] at hjs
        refine Int.not_lt.1 fun hlt => ?_
        exact hs1 (h.i2 s j sl hj ss hj2 hlt hjs)
    omega
  · have t := two (fun i y => worthT l[i]! y)
    have wb : ∀ X, worthT l[b]! (X + m) - worthT l[b]! X = priceOf l b * m := fun X => by
      unfold worthT priceOf
      rw [if_neg (by omega), if_neg (by omega), Int.mul_add]
      omega
    have ws : ∀ X, worthT l[s]! (X + m) - worthT l[s]! X = -(priceOf l s * m) := fun X => by
      unfold worthT priceOf
      rw [if_pos ss, if_pos ss, Int.mul_add]
      omega
    unfold gainN
    rw [t, wb, ws, Int.mul_sub, Int.mul_comm m (priceOf l b), Int.mul_comm m (priceOf l s)]
    omega

/-- No buyer that has something left would pay more than a seller that has. -/
def Closed (l : List Bd) (A : List Int) : Prop := ∀ i j, i < l.length → j < l.length → (l[i]!).1 = 1 → (l[j]!).1 = 2 → A[i]! ≠ 0 → A[j]! ≠ 0 → priceOf l i ≤ priceOf l j

theorem greedy_dual {l : List Bd} (hok : ∀ b ∈ l, okB b = true) {A : List Int} (h : Greedy l A) (hc : Closed l A) : ∃ y, Dual l (servedL l A) y := by
  have full : ∀ i, i < l.length → A[i]! = 0 → (servedL l A)[i]! = qtyOf l i := fun i hi hz => by rw [servedL_at hi, hz]; omega
  have none : ∀ i, i < l.length → ¬ A[i]! < qtyOf l i → (servedL l A)[i]! = 0 := fun i hi hz => by rw [servedL_at hi]; have := h.bd i hi; omega
  by_cases hU : ∃ u, u < l.length ∧ (((l[u]!).1 = 2 ∧ A[u]! < qtyOf l u) ∨ ((l[u]!).1 = 1 ∧ A[u]! ≠ 0))
  · obtain ⟨u, hu, hp, hmax⟩ := least_ex _ (fun i => -priceOf l i) l.length hU
    refine ⟨priceOf l u, ?_, ?_, ?_, ?_⟩
    · intro i hi h1 h2
      refine full i hi (Classical.byContradiction fun hz => ?_)
      have := hmax i hi (Or.inr ⟨h1, hz⟩)
      omega
    · intro i hi h1 h2
      refine none i hi fun hlt => ?_
      rcases hp with ⟨p1, p2⟩ | ⟨p1, p2⟩
      · have := h.i3 i u hi hu h1 p1 hlt p2
        omega
      · exact p2 (h.i1 u i hu hi p1 h1 h2 hlt)
    · intro i hi h1 h2
      refine full i hi (Classical.byContradiction fun hz => ?_)
      rcases hp with ⟨p1, p2⟩ | ⟨p1, p2⟩
      · exact hz (h.i2 i u hi hu h1 p1 h2 p2)
      · have := hc u i hu hi p1 h1 p2 hz
        omega
    · intro i hi h1 h2
      refine none i hi fun hlt => ?_
      have := hmax i hi (Or.inl ⟨h1, hlt⟩)
      omega
  · refine ⟨0, ?_, ?_, ?_, ?_⟩
    · intro i hi h1 _
      exact full i hi (Classical.byContradiction fun hz => hU ⟨i, hi, Or.inr ⟨h1, hz⟩⟩)
    · intro i hi _ h2
      have := price_in hok hi
      unfold InR at this
      omega
    · intro i hi _ h2
      have := price_in hok hi
      unfold InR at this
      omega
    · intro i hi h1 _
      exact none i hi fun hlt => hU ⟨i, hi, Or.inl ⟨h1, hlt⟩⟩

/-- The greatest gain is that of the fills at the price of an auction. -/
theorem greedy_best {l : List Bd} (hok : ∀ b ∈ l, okB b = true) {A : List Int} (h : Greedy l A) (hc : Closed l A) {x : Int} {F : List Int} (hx : BestAt l x) (hF : FillOk l x (volAt l x) F) : gainN l (servedL l A) = gainN l F := by
  obtain ⟨y, hd⟩ := greedy_dual hok h hc
  have hb : ∀ i, i < l.length → 0 ≤ (servedL l A)[i]! ∧ (servedL l A)[i]! ≤ qtyOf l i := fun i hi => by rw [servedL_at hi]; have := h.bd i hi; omega
  have bF : sideSum l F 1 l.length = sideSum l F 2 l.length := by
    rw [← sum_of_part hF.out l.length (Nat.le_refl _), ← sum_of_part hF.out l.length (Nat.le_refl _), hF.buy, hF.sell]
  have h1 := fill_max hok hx hF hb h.bal
  have h2 := dual_max hok hd hb hF.bd h.bal bF
  omega

/-- Where nothing can trade nothing is gained. -/
theorem greedy_none {l : List Bd} (hok : ∀ b ∈ l, okB b = true) {A : List Int} (h : Greedy l A) (hv : ∀ x, InR x → volAt l x ≤ 0) : gainN l (servedL l A) = 0 := by
  have hb : ∀ i, i < l.length → 0 ≤ (servedL l A)[i]! := fun i hi => by rw [servedL_at hi]; have := h.bd i hi; omega
  have zero : ∀ n, sumN n (fun _ => (0 : Int)) = 0 := fun n => by
    induction n with
    | zero => simp [sumN]
    | succ n ih => rw [sumN_succ, ih]; omega
  have both : ∀ i j, i < l.length → j < l.length → (l[i]!).1 = 1 → (l[j]!).1 = 2 → 0 < (servedL l A)[i]! → 0 < (servedL l A)[j]! → False := fun i j hi hj h1 h2 g1 g2 => by
    rw [servedL_at hi] at g1
    rw [servedL_at hj] at g2
    have hp := h.i3 i j hi hj h1 h2 (by omega) (by omega)
    have := hv (priceOf l j) (price_in hok hj)
    have qi := qty_nn hok hi
    have qj := qty_nn hok hj
    have d : 0 < dem l (priceOf l j) := by
      rw [dem_sumN]
      refine Int.lt_of_le_of_lt (Int.le_of_eq (zero l.length).symm) ?_
      refine sumN_lt _ (fun k hk => ?_) ⟨i, hi, ?_⟩
      · have := qty_nn hok hk
        split <;> omega
      · rw [if_pos ⟨h1, by omega⟩]; omega
    have s : 0 < sup l (priceOf l j) := by
      rw [sup_sumN]
      refine Int.lt_of_le_of_lt (Int.le_of_eq (zero l.length).symm) ?_
      refine sumN_lt _ (fun k hk => ?_) ⟨j, hj, ?_⟩
      · have := qty_nn hok hk
        split <;> omega
      · rw [if_pos ⟨h2, Int.le_refl _⟩]; omega
    unfold volAt at this
    omega
  have pos : ∀ side i, i < l.length → (l[i]!).1 = side → 0 < (servedL l A)[i]! → 0 < sideSum l (servedL l A) side l.length := fun side i hi h1 g1 => by
    rw [side_sumN]
    refine Int.lt_of_le_of_lt (Int.le_of_eq (zero l.length).symm) ?_
    refine sumN_lt _ (fun k hk => ?_) ⟨i, hi, ?_⟩
    · have := hb k hk
      split <;> omega
    · rw [if_pos h1]; exact g1
  have neg : ∀ side, (∀ i, i < l.length → (l[i]!).1 = side → (servedL l A)[i]! ≤ 0) → sideSum l (servedL l A) side l.length ≤ 0 := fun side hz => by
    rw [side_sumN]
    refine Int.le_trans ?_ (Int.le_of_eq (zero l.length))
    refine sumN_le _ (fun k hk => ?_)
    split
    · exact hz k hk ‹_›
    · omega
  have all0 : ∀ i, i < l.length → (servedL l A)[i]! = 0 := fun i hi => by
    refine Int.le_antisymm (Int.not_lt.1 fun hpos => ?_) (hb i hi)
    have hbal := h.bal
    rcases side_of hok hi with h1 | h1
    · have p1 := pos 1 i hi h1 hpos
      have := neg 2 (fun j hj h2 => Int.not_lt.1 fun g2 => both i j hi hj h1 h2 hpos g2)
      omega
    · have p1 := pos 2 i hi h1 hpos
      have := neg 1 (fun j hj h2 => Int.not_lt.1 fun g2 => both j i hj hi h2 h1 g2 hpos)
      omega
  unfold gainN
  rw [sumN_congr (g := fun _ => 0) _ (fun i hi => by rw [all0 i hi]; unfold worthT; split <;> simp), zero]

end Go.Proofs.Ytigpghmbeldakaa
