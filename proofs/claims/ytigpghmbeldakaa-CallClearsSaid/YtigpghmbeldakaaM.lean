/- What the spots say of demand and supply. -/
import Derived.Test.YtigpghmbeldakaaF
namespace Go.Proofs.Ytigpghmbeldakaa
open Go.RowKit Go.Sort

theorem perm_sum {l l' : List Int} (h : l.Perm l') : l.sum = l'.sum := by
  induction h with
  | nil => rfl
  | cons x _ ih => simp [ih]
  | swap x y l => simp only [List.sum_cons]; omega
  | trans _ _ ih1 ih2 => exact ih1.trans ih2

/-- A sum over the events up to a price. -/
def upTo (f : Sp → Int) (E : List Sp) (x : Int) : Int := ((E.filter fun e => decide (e.1 ≤ x)).map f).sum

theorem upTo_perm (f : Sp → Int) {E E' : List Sp} (h : E.Perm E') (x : Int) : upTo f E x = upTo f E' x := perm_sum ((h.filter _).map f)
theorem upTo_append (f : Sp → Int) (E E' : List Sp) (x : Int) : upTo f (E ++ E') x = upTo f E x + upTo f E' x := by simp [upTo]
theorem upTo_cons (f : Sp → Int) (e : Sp) (E : List Sp) (x : Int) : upTo f (e :: E) x = (if e.1 ≤ x then f e else 0) + upTo f E x := by
  unfold upTo
  by_cases h : e.1 ≤ x <;> simp [List.filter_cons, h]

theorem upTo_evs (l : List Bd) (h : ∀ b ∈ l, okB b = true) (x : Int) (h1 : 1 ≤ x) (h2 : x ≤ 1000000) :
    upTo (fun e => e.2.1) (evs l) x = dem l x ∧ upTo (fun e => e.2.2) (evs l) x = sup l x := by
  have key : ∀ (l : List Bd), (∀ b ∈ l, okB b = true) → upTo (fun e => e.2.1) (l.flatMap evOf) x = dem l x ∧ upTo (fun e => e.2.2) (l.flatMap evOf) x = sup l x := by
    intro l
    induction l with
    | nil => intro _; exact ⟨rfl, rfl⟩
    | cons b l ih =>
      intro h
      obtain ⟨i1, i2⟩ := ih (fun c hc => h c (by simp [hc]))
      have hb := okB_iff.1 (h b (by simp))
      rw [List.flatMap_cons, upTo_append, upTo_append, i1, i2]
      simp only [dem, sup, List.map_cons, List.sum_cons]
      obtain ⟨s, p, q⟩ := b
      simp only at hb
      obtain ⟨hs, hp, hq⟩ := hb
      rcases hs with rfl | rfl
      · simp only [evOf, if_true, upTo_cons]
        have e0 : upTo (fun e => e.2.1) [] x = 0 := rfl
        have e1 : upTo (fun e => e.2.2) [] x = 0 := rfl
        rw [e0, e1]
        simp only [h1, if_true]
        constructor
        · by_cases hx : x ≤ p
          · rw [if_neg (by omega), if_pos (by simpa using hx)]; omega
          · rw [if_pos (by omega), if_neg (by omega)]; omega
        · rw [if_neg (show ¬ ((1 : Int) = 2 ∧ p ≤ x) by omega)]
          split <;> omega
      · simp only [evOf, show ¬ ((2 : Int) = 1) by omega, if_false, upTo_cons]
        have e0 : upTo (fun e => e.2.1) [] x = 0 := rfl
        have e1 : upTo (fun e => e.2.2) [] x = 0 := rfl
        rw [e0, e1]
        constructor
        · rw [if_neg (show ¬ (False ∧ x ≤ p) by simp)]
          split <;> omega
        · by_cases hx : p ≤ x
          · rw [if_pos hx, if_pos ⟨trivial, hx⟩]; omega
          · rw [if_neg hx, if_neg (by simpa using hx)]; omega
  obtain ⟨k1, k2⟩ := key l h
  unfold evs
  rw [upTo_cons, upTo_cons, upTo_cons, upTo_cons, k1, k2]
  simp only
  constructor <;> (split <;> split <;> omega)

theorem get!_of {l : List Sp} {k : Nat} (h : k < l.length) : l[k]! = l[k] := getElem!_pos l k h

/-- In a sorted row: what lies up to a price between the k-th and the next. -/
theorem upTo_take (f : Sp → Int) {E : List Sp} (hs : Sorted3 E) {k : Nat} (hk : k + 1 < E.length) {x : Int} (h1 : E[k]!.1 ≤ x) (h2 : x < E[k + 1]!.1) : upTo f E x = ((E.take (k + 1)).map f).sum := by
  have hp := List.pairwise_iff_getElem.1 hs
  have e : E.filter (fun e => decide (e.1 ≤ x)) = E.take (k + 1) := by
    conv => lhs; rw [← List.take_append_drop (k + 1) E]
    rw [List.filter_append]
    have a1 : (E.take (k + 1)).filter (fun e => decide (e.1 ≤ x)) = E.take (k + 1) := by
      rw [List.filter_eq_self]
      intro e he
      obtain ⟨i, hi, rfl⟩ := List.mem_iff_getElem.1 he
      have hi' : i < k + 1 := by rw [List.length_take] at hi; omega
      simp only [List.getElem_take, decide_eq_true_eq]
      rw [get!_of (by omega)] at h1
      rcases Nat.lt_or_ge i k with h | h
      · have := hp i k (by omega) (by omega) h; omega
      · have : i = k := by omega
        subst this; exact h1
    have a2 : (E.drop (k + 1)).filter (fun e => decide (e.1 ≤ x)) = [] := by
      rw [List.filter_eq_nil_iff]
      intro e he
      obtain ⟨i, hi, rfl⟩ := List.mem_iff_getElem.1 he
      rw [List.length_drop] at hi
      simp only [List.getElem_drop, decide_eq_true_eq]
      rw [get!_of (by omega)] at h2
      rcases Nat.eq_zero_or_pos i with h | h
      · subst h; simp only [Nat.add_zero]; omega
      · have := hp (k + 1) (k + 1 + i) (by omega) (by omega) (by omega); omega
    rw [a1, a2, List.append_nil]
  unfold upTo
  rw [e]

/-- What is known of the spots of bids. -/
structure Spots (l : List Bd) (ref : Int) (S : List Sp) : Prop where
  right : ∀ s ∈ S, 1 ≤ s.1 ∧ s.1 ≤ 1000000 ∧ s.2.1 = dem l s.1 ∧ s.2.2 = sup l s.1
  cover : ∀ x, 1 ≤ x → x ≤ 1000000 → ∃ lo hi, lo ≤ x ∧ x ≤ hi ∧ (∀ s ∈ three ref lo hi (dem l x) (sup l x), s ∈ S) ∧ 1 ≤ lo ∧ hi ≤ 1000000 ∧ ∀ y, lo ≤ y → y ≤ hi → dem l y = dem l x ∧ sup l y = sup l x
  sorted : Sorted3 S

theorem least_above {E : List Sp} {x : Int} : ∀ (n : Nat), n < E.length → x < E[n]!.1 → E[0]!.1 ≤ x → ∃ k, k + 1 ≤ n ∧ E[k]!.1 ≤ x ∧ x < E[k + 1]!.1
  | 0, _, h, h0 => by omega
  | n + 1, hn, h, h0 => by
    by_cases hx : x < E[n]!.1
    · obtain ⟨k, h1, h2, h3⟩ := least_above n (by omega) hx h0
      exact ⟨k, by omega, h2, h3⟩
    · exact ⟨n, Nat.le_refl _, by omega, h⟩

theorem spots_of (l : List Bd) (hok : ∀ b ∈ l, okB b = true) (ref : Int) (E : List Sp) (hp : E.Perm (evs l)) (hs : Sorted3 E) : Spots l ref (accT ref E (E.length - 1)) := by
  have hev : ∀ e ∈ E, evOk e := fun e he => evs_ok l hok e (hp.mem_iff.1 he)
  have hpw := List.pairwise_iff_getElem.1 hs
  have hD : ∀ k, k + 1 < E.length → ∀ x, 1 ≤ x → x ≤ 1000000 → E[k]!.1 ≤ x → x < E[k + 1]!.1 → sumD E (k + 1) = dem l x ∧ sumS E (k + 1) = sup l x := by
    intro k hk x h1 h2 h3 h4
    obtain ⟨a1, a2⟩ := upTo_evs l hok x h1 h2
    rw [← upTo_perm _ hp, upTo_take _ hs hk h3 h4] at a1 a2
    exact ⟨a1, a2⟩
  have hin : ∀ k, k < E.length → 1 ≤ E[k]!.1 ∧ E[k]!.1 ≤ 1000001 := fun k hk => by
    have := hev E[k]! (by rw [get!_of hk]; exact List.getElem_mem hk)
    unfold evOk at this; omega
  have hst : ∀ k, k + 1 < E.length → ∀ s ∈ stretch ref E k, E[k]!.1 ≤ s.1 ∧ s.1 ≤ E[k + 1]!.1 - 1 ∧ s.2.1 = dem l s.1 ∧ s.2.2 = sup l s.1 := by
    intro k hk s hm
    have i1 := hin k (by omega)
    have i2 := hin (k + 1) hk
    unfold stretch at hm
    split at hm
    · rename_i hle
      simp only [three, List.mem_cons, List.not_mem_nil, or_false] at hm
      have hz : E[k]!.1 ≤ s.1 ∧ s.1 ≤ E[k + 1]!.1 - 1 ∧ s.2.1 = sumD E (k + 1) ∧ s.2.2 = sumS E (k + 1) := by
        rcases hm with rfl | rfl | rfl
        · exact ⟨Int.le_refl _, hle, rfl, rfl⟩
        · exact ⟨by show _ ≤ min _ _; omega, by show min _ _ ≤ _; omega, rfl, rfl⟩
        · exact ⟨hle, Int.le_refl _, rfl, rfl⟩
      obtain ⟨z1, z2, z3, z4⟩ := hz
      obtain ⟨y1, y2⟩ := hD k hk s.1 (by omega) (by omega) z1 (by omega)
      exact ⟨z1, z2, z3.trans y1, z4.trans y2⟩
    · simp at hm
  have hacc : ∀ k, k < E.length → (∀ s ∈ accT ref E k, 1 ≤ s.1 ∧ s.1 ≤ E[k]!.1 - 1 ∧ s.2.1 = dem l s.1 ∧ s.2.2 = sup l s.1) ∧ Sorted3 (accT ref E k) := by
    intro k
    induction k with
    | zero => intro _; exact ⟨fun s hm => by simp [accT] at hm, by simp [accT, Sorted3]⟩
    | succ k ih =>
      intro hk
      obtain ⟨r, so⟩ := ih (by omega)
      have hmono : E[k]!.1 ≤ E[k + 1]!.1 := by
        rw [get!_of (by omega), get!_of hk]; exact hpw k (k + 1) (by omega) hk (by omega)
      have i1 := hin k (by omega)
      constructor
      · intro s hm
        rw [accT, List.mem_append] at hm
        rcases hm with hm | hm
        · obtain ⟨a1, a2, a3⟩ := r s hm; exact ⟨a1, by omega, a3⟩
        · obtain ⟨a1, a2, a3⟩ := hst k hk s hm; exact ⟨by omega, a2, a3⟩
      · rw [accT, Sorted3, List.pairwise_append]
        refine ⟨so, ?_, fun a ha b hb => ?_⟩
        · unfold stretch
          split
          · rename_i hle
            simp only [three, List.pairwise_cons, List.mem_cons, List.not_mem_nil, or_false, List.Pairwise.nil, and_true]
            refine ⟨fun a ha => ?_, fun a ha => ?_, fun a ha => ha.elim⟩
            · rcases ha with rfl | rfl
              · show _ ≤ min _ _; omega
              · exact hle
            · subst ha; show min _ _ ≤ _; omega
          · exact List.Pairwise.nil
        · have := r a ha; have := hst k hk b hb; omega
  have h1m : ((1, 0, 0) : Sp) ∈ E := hp.mem_iff.2 (by simp [evs])
  have h2m : ((1000001, 0, 0) : Sp) ∈ E := hp.mem_iff.2 (by simp [evs])
  obtain ⟨i1, hi1, e1⟩ := List.mem_iff_getElem.1 h1m
  obtain ⟨i2, hi2, e2⟩ := List.mem_iff_getElem.1 h2m
  have hn : 0 < E.length := by omega
  obtain ⟨n, hnn⟩ : ∃ n, E.length = n + 1 := ⟨E.length - 1, by omega⟩
  have h0 : E[0]!.1 = 1 := by
    have a := (hin 0 hn).1
    have b : E[0]!.1 ≤ E[i1].1 := by
      rw [get!_of hn]
      rcases Nat.eq_zero_or_pos i1 with h | h
      · subst h; exact Int.le_refl _
      · exact hpw 0 i1 hn hi1 h
    rw [e1] at b
    simp only at b
    omega
  have hl : E[n]!.1 = 1000001 := by
    have a := (hin n (by omega)).2
    have b : E[i2].1 ≤ E[n]!.1 := by
      rw [get!_of (by omega)]
      rcases Nat.lt_or_ge i2 n with h | h
      · exact hpw i2 n hi2 (by omega) h
      · have : i2 = n := by omega
        subst this; exact Int.le_refl _
    rw [e2] at b
    simp only at b
    omega
  have hmem : ∀ m k, k < m → ∀ s ∈ stretch ref E k, s ∈ accT ref E m := by
    intro m
    induction m with
    | zero => intro k hk; omega
    | succ m ih =>
      intro k hk s hm
      rw [accT, List.mem_append]
      rcases Nat.lt_or_ge k m with h | h
      · exact Or.inl (ih k h s hm)
      · have : k = m := by omega
        subst this; exact Or.inr hm
  rw [hnn, Nat.add_sub_cancel]
  obtain ⟨r, so⟩ := hacc n (by omega)
  refine ⟨fun s hm => ?_, fun x hx1 hx2 => ?_, so⟩
  · obtain ⟨a1, a2, a3, a4⟩ := r s hm
    exact ⟨a1, by omega, a3, a4⟩
  · obtain ⟨k, k1, k2, k3⟩ := least_above (E := E) (x := x) n (by omega) (by omega) (by omega)
    have hk : k + 1 < E.length := by omega
    obtain ⟨d1, d2⟩ := hD k hk x hx1 hx2 k2 k3
    have b1 := hin k (by omega)
    have b2 := hin (k + 1) hk
    refine ⟨E[k]!.1, E[k + 1]!.1 - 1, k2, by omega, fun s hm => ?_, by omega, by omega, fun y hy1 hy2 => ?_⟩
    · refine hmem n k (by omega) s ?_
      unfold stretch
      rw [if_pos (by omega), d1, d2]
      exact hm
    · obtain ⟨c1, c2⟩ := hD k hk y (by omega) (by omega) hy1 (by omega)
      exact ⟨c1.symm.trans d1, c2.symm.trans d2⟩

theorem Spots.pos {l : List Bd} {ref : Int} {S : List Sp} (h : Spots l ref S) : 0 < S.length := by
  obtain ⟨lo, hi, _, _, hm, _⟩ := h.cover 1 (by omega) (by omega)
  have := hm (lo, dem l 1, sup l 1) (by simp [three])
  exact List.length_pos_of_mem this

end Go.Proofs.Ytigpghmbeldakaa
