/- Plan's turns are a plan. No Go. -/
import Derived.Test.YtkofnhimgegcnaaAA
namespace Go.Proofs.Ytkofnhimgegcnaa
open Go Go.RowKit Go.Sort

theorem sumN_eq {g h : Nat → Int} : ∀ {n : Nat}, (∀ k, k < n → g k ≤ h k) → sumN n g = sumN n h → ∀ k, k < n → g k = h k
  | 0, _, _, k, hk => by omega
  | n + 1, hle, he, k, hk => by
    rw [sumN, sumN] at he
    have h1 := sumN_le (n := n) (fun k hk => hle k (by omega))
    have h2 := hle n (by omega)
    by_cases e : k = n
    · subst e; omega
    · exact sumN_eq (n := n) (fun k hk => hle k (by omega)) (by omega) k (by omega)

/-- A flow of all loads. -/
structure Dry (l : List Ld) (K : Int) (T : List Int) (f : Nat → Int) : Prop where
  times : Times T (timesL l)
  ok : ∀ x ∈ l, okN x
  flow : Flow (netE T K l) f (totalL l)

section
variable {l : List Ld} {K : Int} {T : List Int} {f : Nat → Int}

theorem Dry.span {_E : Edge} (_h : Dry l K T f) {k : Nat} (hk : k < (netE T K l).length) {s : Nat} (hs : (eAt (netE T K l) k).2.1 = 2 + l.length + s) :
    ∃ i x, l[i]? = some x ∧ (eAt (netE T K l) k) = (2 + i, 2 + l.length + s, spanL T s) ∧ posT T x.1 ≤ s ∧ s < posT T x.2.1 := by
  rcases netE_kind (eAt_mem hk) with ⟨i, x, hx, e⟩ | ⟨i, x, q, hx, hq, e⟩ | ⟨s', _, e⟩
  · have := (List.getElem?_eq_some_iff.1 hx).1
    rw [e] at hs; dsimp only at hs; omega
  · rw [e] at hs
    dsimp only at hs
    have hsq : posT T x.1 + q = s := by omega
    unfold spansOf at hq
    exact ⟨i, x, hx, by rw [e, hsq], by omega, by omega⟩
  · rw [e] at hs; dsimp only at hs; omega

theorem Dry.sink (_h : Dry l K T f) {k : Nat} (hk : k < (netE T K l).length) {s : Nat} (hs : (eAt (netE T K l) k).1 = 2 + l.length + s) : (eAt (netE T K l) k).2.1 = 1 := by
  rcases netE_kind (eAt_mem hk) with ⟨i, x, hx, e⟩ | ⟨i, x, q, hx, hq, e⟩ | ⟨s', _, e⟩
  · rw [e] at hs; dsimp only at hs; omega
  · have := (List.getElem?_eq_some_iff.1 hx).1
    rw [e] at hs; dsimp only at hs; omega
  · rw [e]

theorem Dry.way (h : Dry l K T f) {s j : Nat} (hj : j ∈ outE (netE T K l) (2 + l.length + s)) :
    (headE (netE T K l) j = 1) ∨ ∃ k i x, j = 2 * k + 1 ∧ k < (netE T K l).length ∧ l[i]? = some x ∧ (eAt (netE T K l) k) = (2 + i, 2 + l.length + s, spanL T s) ∧ posT T x.1 ≤ s ∧ s < posT T x.2.1 ∧ headE (netE T K l) j = 2 + i ∧ roomE (netE T K l) f j = f k := by
  unfold outE at hj
  rw [List.mem_filter, List.mem_range] at hj
  obtain ⟨h1, h2⟩ := hj
  have h2 := of_decide_eq_true h2
  rcases Nat.mod_two_eq_zero_or_one j with hm | hm
  · obtain ⟨k, rfl⟩ : ∃ k, j = 2 * k := ⟨j / 2, by omega⟩
    left
    rw [tailE_even] at h2
    rw [headE_even]
    exact h.sink (by omega) h2
  · obtain ⟨k, rfl⟩ : ∃ k, j = 2 * k + 1 := ⟨j / 2, by omega⟩
    right
    rw [tailE_odd] at h2
    obtain ⟨i, x, hx, e, h3, h4⟩ := h.span (_E := (0, 0, 0)) (by omega) h2
    exact ⟨k, i, x, rfl, by omega, hx, e, h3, h4, by rw [headE_odd, e], roomE_odd _ _ _⟩

theorem Dry.rooms (h : Dry l K T f) {s j : Nat} (hj : j ∈ outE (netE T K l) (2 + l.length + s)) : 0 ≤ roomE (netE T K l) f j ∧ (headE (netE T K l) j ≠ 1 → roomE (netE T K l) f j ≤ spanL T s) := by
  obtain ⟨hp, hq⟩ := List.mem_iff_getElem?.1 hj
  have hj2 := (outE_mem hq).1
  have ho := h.flow.ok (j / 2) (by omega)
  refine ⟨by unfold roomE; split <;> omega, fun hne => ?_⟩
  rcases h.way hj with h1 | ⟨k, i, x, rfl, hk, hx, e, _, _, _, hr⟩
  · exact absurd h1 hne
  · rw [hr]
    have := h.flow.ok k hk
    rw [e] at this
    exact this.2

theorem Dry.div (h : Dry l K T f) (v : Nat) (h0 : v ≠ 0) (h1 : v ≠ 1) : sumN (netE T K l).length (fun k => if (eAt (netE T K l) k).1 = v then f k else 0) = sumN (netE T K l).length (fun k => if (eAt (netE T K l) k).2.1 = v then f k else 0) := by
  have := h.flow.div v
  rw [if_neg h0, if_neg h1] at this
  unfold divE at this
  rw [sumN_sub] at this
  omega

/-- What flows through a span. -/
theorem Dry.through (h : Dry l K T f) {s : Nat} (hs : s < T.length - 1) : sumJ (gR (netE T K l) f) (outE (netE T K l) (2 + l.length + s)) ≤ K * spanL T s := by
  rw [outE_sum]
  have e1 : sumN (netE T K l).length (fun k => (if (eAt (netE T K l) k).1 = 2 + l.length + s then gR (netE T K l) f (2 * k) else 0) + (if (eAt (netE T K l) k).2.1 = 2 + l.length + s then gR (netE T K l) f (2 * k + 1) else 0)) = sumN (netE T K l).length (fun k => if (eAt (netE T K l) k).2.1 = 2 + l.length + s then f k else 0) := by
    refine sumN_congr (fun k hk => ?_)
    have a1 : (if (eAt (netE T K l) k).1 = 2 + l.length + s then gR (netE T K l) f (2 * k) else 0) = 0 := by
      split
      · rename_i ht
        unfold gR
        rw [headE_even, h.sink hk ht, if_pos rfl]
      · rfl
    rw [a1, Int.zero_add]
    split
    · rename_i ht
      obtain ⟨i, x, hx, e, _⟩ := h.span (_E := (0, 0, 0)) hk ht
      unfold gR
      rw [headE_odd, e, if_neg (by dsimp only; omega), roomE_odd]
    · rfl
  rw [e1, ← h.div _ (by omega) (by omega), ← net_cap (K := K) (l := l) hs, ← sumN_list (fun e => if e.1 = 2 + l.length + s then e.2.2 else 0)]
  refine sumN_le (fun k hk => ?_)
  have := h.flow.ok k hk
  split
  · exact this.2
  · exact Int.le_refl _

/-- What a span has of a load. -/
theorem Dry.part (h : Dry l K T f) (i s : Nat) : sumJ (gRi (netE T K l) f i) (outE (netE T K l) (2 + l.length + s)) = sumN (netE T K l).length (fun k => if (eAt (netE T K l) k).1 = 2 + i ∧ (eAt (netE T K l) k).2.1 = 2 + l.length + s then f k else 0) := by
  rw [outE_sum]
  refine sumN_congr (fun k hk => ?_)
  have a1 : (if (eAt (netE T K l) k).1 = 2 + l.length + s then gRi (netE T K l) f i (2 * k) else 0) = 0 := by
    split
    · rename_i ht
      unfold gRi
      rw [headE_even, h.sink hk ht, if_pos rfl]
    · rfl
  rw [a1, Int.zero_add]
  by_cases ht : (eAt (netE T K l) k).2.1 = 2 + l.length + s
  · obtain ⟨i', x, hx, e, _⟩ := h.span (_E := (0, 0, 0)) hk ht
    rw [if_pos ht]
    unfold gRi
    rw [headE_odd, e, if_neg (by dsimp only; omega), roomE_odd]
    dsimp only
    by_cases hi : i' = i
    · rw [if_pos (by omega), if_pos ⟨by omega, rfl⟩]
    · rw [if_neg (by omega), if_neg (by omega)]
  · rw [if_neg ht, if_neg (fun hh => ht hh.2)]

theorem Dry.once (h : Dry l K T f) (i : Int) (s : Nat) : sumJ (gNi (netE T K l) f i) (outE (netE T K l) (2 + l.length + s)) ≤ 1 := by
  rw [outE_sum]
  refine Int.le_trans ?_ (net_once (T := T) (K := K) (l := l) (i := i.toNat) (s := s))
  rw [← sumN_list (fun e => if e.1 = 2 + i.toNat ∧ e.2.1 = 2 + l.length + s then (1 : Int) else 0)]
  refine sumN_le (fun k hk => ?_)
  have a1 : (if (eAt (netE T K l) k).1 = 2 + l.length + s then gNi (netE T K l) f i (2 * k) else 0) = 0 := by
    split
    · rename_i ht
      unfold gNi
      rw [headE_even, h.sink hk ht, if_pos rfl]
    · rfl
  rw [a1, Int.zero_add]
  by_cases ht : (eAt (netE T K l) k).2.1 = 2 + l.length + s
  · obtain ⟨i', x, hx, e, _⟩ := h.span (_E := (0, 0, 0)) hk ht
    rw [if_pos ht]
    unfold gNi
    rw [headE_odd, e, if_neg (by dsimp only; omega)]
    dsimp only
    split
    · rw [if_pos ⟨by omega, rfl⟩]; omega
    · split <;> omega
  · rw [if_neg ht]
    split <;> omega

/-- All that a load needs flows. -/
theorem Dry.full (h : Dry l K T f) {i : Nat} {x : Ld} (hx : l[i]? = some x) : sumN (netE T K l).length (fun k => if (eAt (netE T K l) k).1 = 2 + i then f k else 0) = x.2.2.1 := by
  have hi := (List.getElem?_eq_some_iff.1 hx).1
  rw [h.div _ (by omega) (by omega), ← net_load (T := T) (K := K) hx, ← sumN_list (fun e => if e.2.1 = 2 + i then e.2.2 else 0)]
  have hsat : ∀ k, k < (netE T K l).length → (eAt (netE T K l) k).1 = 0 → f k = (eAt (netE T K l) k).2.2 := fun k hk h0 => by
    have h1 := h.flow.div 0
    rw [if_pos rfl, if_neg (by omega), Int.sub_zero, ← netE_cap T K l] at h1
    unfold divE at h1
    rw [sumN_sub] at h1
    have h2 : sumN (netE T K l).length (fun k => if (eAt (netE T K l) k).2.1 = 0 then f k else 0) = 0 := by
      refine (sumN_congr (h := fun _ => 0) (fun k hk => ?_)).trans (sumN_zero _)
      rcases netE_kind (eAt_mem hk) with ⟨i, x, hx, e⟩ | ⟨i, x, q, hx, hq, e⟩ | ⟨s', _, e⟩ <;> rw [e, if_neg (by dsimp only; omega)]
    rw [h2, Int.sub_zero] at h1
    have h3 := sumN_eq (fun k hk => ?_) h1 k hk
    · rw [if_pos h0, if_pos h0] at h3
      exact h3
    · have := h.flow.ok k hk
      split
      · exact this.2
      · exact Int.le_refl _
  refine sumN_congr (fun k hk => ?_)
  split
  · rename_i ht
    refine hsat k hk ?_
    rcases netE_kind (eAt_mem hk) with ⟨i, x, hx, e⟩ | ⟨i, x, q, hx, hq, e⟩ | ⟨s', _, e⟩
    · rw [e]
    · rw [e] at ht; dsimp only at ht; omega
    · rw [e] at ht; dsimp only at ht; omega
  · rfl

theorem Dry.parts (h : Dry l K T f) {i : Nat} {x : Ld} (hx : l[i]? = some x) : sumN (T.length - 1) (fun s => sumJ (gRi (netE T K l) f i) (outE (netE T K l) (2 + l.length + s))) = x.2.2.1 := by
  rw [sumN_congr (fun s _ => h.part i s), sumN_swap, ← h.full hx]
  refine sumN_congr (fun k hk => ?_)
  by_cases ht : (eAt (netE T K l) k).1 = 2 + i
  · have hi := (List.getElem?_eq_some_iff.1 hx).1
    rcases netE_kind (eAt_mem hk) with ⟨i', x', hx', e⟩ | ⟨i', x', q, hx', hq, e⟩ | ⟨s', _, e⟩
    · rw [e] at ht; dsimp only at ht; omega
    · rw [if_pos ht]
      have hxm := List.mem_of_getElem? hx'
      have hpb := posT_spec ((h.times.mem _).2 (timesL_mem hxm).2)
      unfold spansOf at hq
      have hc : sumN (T.length - 1) (fun s => if (eAt (netE T K l) k).1 = 2 + i ∧ (eAt (netE T K l) k).2.1 = 2 + l.length + s then f k else 0) = sumN (T.length - 1) (fun s => if s = posT T x'.1 + q then f k else 0) := by
        refine sumN_congr (fun s _ => ?_)
        rw [e] at ht ⊢
        dsimp only at ht ⊢
        by_cases hs : s = posT T x'.1 + q
        · rw [if_pos ⟨ht, by omega⟩, if_pos hs]
        · rw [if_neg (by omega), if_neg hs]
      rw [hc, sumN_one, if_pos (by omega)]
    · rw [e] at ht; dsimp only at ht; omega
  · rw [if_neg ht]
    exact (sumN_congr (h := fun _ => 0) (fun s _ => by rw [if_neg (fun hh => ht hh.1)])).trans (sumN_zero _)

end

/-- Turns that dry all loads. -/
structure PlanOK (l : List Ld) (K : Int) (P : List Tn) : Prop where
  inn : ∀ t ∈ P, ∃ (i : Nat) (x : Ld), t.1 = (i : Int) ∧ l[i]? = some x ∧ x.1 ≤ t.2.1 ∧ t.2.1 < t.2.2 ∧ t.2.2 ≤ x.2.1
  len : ∀ (i : Nat) (x : Ld), l[i]? = some x → sumT (len1 i) P = x.2.2.1
  few : ∀ h, sumT (cov1 h) P ≤ K
  one : ∀ i h, sumT (covL1 i h) P ≤ 1

section
variable {l : List Ld} {K : Int} {T : List Int} {f : Nat → Int}

/-- A span's turns. -/
def spanT (l : List Ld) (K : Int) (T : List Int) (f : Nat → Int) (s : Nat) : List Tn := (dealL (netE T K l) f (T[s]?.getD 0) (spanL T s) (outE (netE T K l) (2 + l.length + s))).1

theorem Dry.dealt (h : Dry l K T f) {s : Nat} (hs : s < T.length - 1) : ∃ q, Dealt (netE T K l) f (T[s]?.getD 0) (spanL T s) (outE (netE T K l) (2 + l.length + s)) (dealL (netE T K l) f (T[s]?.getD 0) (spanL T s) (outE (netE T K l) (2 + l.length + s))) q :=
  Ytkofnhimgegcnaa.dealt (span_pos h.times (by omega)) _ (fun j hj => h.rooms hj)

theorem allT_sum (μ : Tn → Int) : ∀ q, sumT μ (allT (netE T K l) f T l.length q) = sumN q (fun s => sumT μ (spanT l K T f s))
  | 0 => rfl
  | q + 1 => by rw [allT_next, sumT_append, allT_sum μ q]; rfl

theorem allT_mem {t : Tn} {q : Nat} (h : t ∈ allT (netE T K l) f T l.length q) : ∃ s, s < q ∧ t ∈ spanT l K T f s := by
  unfold allT at h
  obtain ⟨s, hs, ht⟩ := List.mem_flatMap.1 h
  exact ⟨s, List.mem_range.1 hs, ht⟩

theorem sumT_none {μ : Tn → Int} {P : List Tn} (h : ∀ t ∈ P, μ t = 0) : sumT μ P = 0 := sum_zero_of μ P h

/-- At most one span has an hour. -/
theorem spans_one {g : Nat → Int} {c : Int} (hc : 0 ≤ c) (hT : T.Pairwise (· < ·)) (h : Int) (hg : ∀ s, s < T.length - 1 → (g s = 0 ∨ (T[s]?.getD 0 ≤ h ∧ h < T[s]?.getD 0 + spanL T s ∧ g s ≤ c))) : sumN (T.length - 1) g ≤ c := by
  have hmono : ∀ i j, i < j → j < T.length → T[i]?.getD 0 < T[j]?.getD 0 := fun i j hij hj => by
    rw [List.getElem?_eq_getElem hj, List.getElem?_eq_getElem (show i < T.length by omega)]
    exact List.pairwise_iff_getElem.1 hT i j (by omega) hj hij
  have hspan : ∀ s, T[s]?.getD 0 + spanL T s = T[s + 1]?.getD 0 := fun s => by unfold spanL; omega
  by_cases hex : ∃ s, s < T.length - 1 ∧ T[s]?.getD 0 ≤ h ∧ h < T[s]?.getD 0 + spanL T s
  · obtain ⟨s0, h0, h1, h2⟩ := hex
    rw [hspan] at h2
    have h3 : sumN (T.length - 1) g ≤ sumN (T.length - 1) (fun k => if k = s0 then c else 0) := sumN_le (fun s hs => by
      rcases hg s hs with e | ⟨e1, e2, e3⟩
      · rw [e]; split <;> omega
      · rw [hspan] at e2
        have : s = s0 := by
          rcases Nat.lt_trichotomy s s0 with hh | hh | hh
          · exfalso
            rcases Nat.lt_or_ge (s + 1) s0 with h' | h'
            · have := hmono (s + 1) s0 h' (by omega); omega
            · have : s + 1 = s0 := by omega
              rw [this] at e2; omega
          · exact hh
          · exfalso
            rcases Nat.lt_or_ge (s0 + 1) s with h' | h'
            · have := hmono (s0 + 1) s h' (by omega); omega
            · have : s0 + 1 = s := by omega
              rw [this] at h2; omega
        rw [if_pos this]; exact e3)
    rw [sumN_one, if_pos h0] at h3
    exact h3
  · have : sumN (T.length - 1) g = 0 := (sumN_congr (h := fun _ => 0) (fun s hs => by
      rcases hg s hs with e | ⟨e1, e2, _⟩
      · exact e
      · exact absurd ⟨s, hs, e1, e2⟩ hex)).trans (sumN_zero _)
    omega

theorem Dry.all (h : Dry l K T f) (hK : 0 ≤ K) : PlanOK l K (allT (netE T K l) f T l.length (T.length - 1)) where
  inn := fun t ht => by
    obtain ⟨s, hs, ht⟩ := allT_mem ht
    obtain ⟨q, hd⟩ := h.dealt hs
    obtain ⟨a1, a2, a3⟩ := hd.inn t ht
    obtain ⟨j, hj, hne, hr, e⟩ := hd.load t ht
    rcases h.way hj with h1 | ⟨k, i, x, _, hk, hx, _, p1, p2, hh, _⟩
    · exact absurd h1 hne
    · have hxm := List.mem_of_getElem? hx
      obtain ⟨r1, r2⟩ := posT_spec ((h.times.mem _).2 (timesL_mem hxm).1)
      obtain ⟨d1, d2⟩ := posT_spec ((h.times.mem _).2 (timesL_mem hxm).2)
      have hmono : ∀ i j, i ≤ j → j < T.length → T[i]?.getD 0 ≤ T[j]?.getD 0 := fun i j hij hj => by
        rcases Nat.lt_or_ge i j with h' | h'
        · rw [List.getElem?_eq_getElem hj, List.getElem?_eq_getElem (show i < T.length by omega)]
          exact Int.le_of_lt (List.pairwise_iff_getElem.1 h.times.lt i j (by omega) hj h')
        · have : i = j := by omega
          rw [this]; exact Int.le_refl _
      have m1 := hmono _ _ p1 (by omega)
      have m2 := hmono (s + 1) _ (show s + 1 ≤ posT T x.2.1 by omega) (by omega)
      rw [r2] at m1
      rw [d2] at m2
      have hspan : T[s]?.getD 0 + spanL T s = T[s + 1]?.getD 0 := by unfold spanL; omega
      refine ⟨i, x, by rw [e, hh]; omega, hx, ?_, a2, ?_⟩
      · exact Int.le_trans m1 a1
      · rw [hspan] at a3
        exact Int.le_trans a3 m2
  len := fun i x hx => by
    rw [allT_sum, ← h.parts hx]
    refine sumN_congr (fun s hs => ?_)
    obtain ⟨q, hd⟩ := h.dealt hs
    exact hd.len i
  few := fun hour => by
    rw [allT_sum]
    refine spans_one hK h.times.lt hour (fun s hs => ?_)
    obtain ⟨q, hd⟩ := h.dealt hs
    by_cases hin : T[s]?.getD 0 ≤ hour ∧ hour < T[s]?.getD 0 + spanL T s
    · refine Or.inr ⟨hin.1, hin.2, ?_⟩
      have h1 := hd.cov (hour - T[s]?.getD 0) (by omega) (by omega)
      rw [show T[s]?.getD 0 + (hour - T[s]?.getD 0) = hour by omega] at h1
      unfold spanT
      rw [h1]
      have h2 := h.through hs
      rw [hd.sum] at h2
      have hl := span_pos h.times (show s + 1 < T.length by omega)
      have hc := hd.c
      split
      · have : q * spanL T s < K * spanL T s := by omega
        have := Int.lt_of_mul_lt_mul_right this (by omega)
        omega
      · have : q * spanL T s ≤ K * spanL T s := by omega
        have := Int.le_of_mul_le_mul_right this hl
        omega
    · refine Or.inl (sumT_none (fun t ht => ?_))
      obtain ⟨a1, a2, a3⟩ := hd.inn t ht
      unfold cov1
      rw [if_neg (by omega)]
  one := fun i hour => by
    rw [allT_sum]
    refine spans_one (by omega) h.times.lt hour (fun s hs => ?_)
    obtain ⟨q, hd⟩ := h.dealt hs
    by_cases hin : T[s]?.getD 0 ≤ hour ∧ hour < T[s]?.getD 0 + spanL T s
    · exact Or.inr ⟨hin.1, hin.2, Int.le_trans (hd.few i hour) (h.once i s)⟩
    · refine Or.inl (sumT_none (fun t ht => ?_))
      obtain ⟨a1, a2, a3⟩ := hd.inn t ht
      unfold covL1
      rw [if_neg (by omega)]

theorem PlanOK.perm {P Q : List Tn} (h : PlanOK l K P) (hp : Q.Perm P) : PlanOK l K Q :=
  ⟨fun t ht => h.inn t (hp.mem_iff.1 ht), fun i x hx => by rw [sumT_perm _ hp]; exact h.len i x hx, fun hour => by rw [sumT_perm _ hp]; exact h.few hour, fun i hour => by rw [sumT_perm _ hp]; exact h.one i hour⟩

theorem PlanOK.lt {P : List Tn} (h : PlanOK l K P) : ∀ t ∈ P, t.2.1 < t.2.2 := fun t ht => by
  obtain ⟨_, _, _, _, _, h1, _⟩ := h.inn t ht
  exact h1

theorem PlanOK.join {P : List Tn} (h : PlanOK l K P) : PlanOK l K (joinT P) := by
  refine ⟨?_, fun i x hx => by rw [joinT_sum _ (len1_add _) h.lt]; exact h.len i x hx, fun hour => by rw [joinT_sum _ (cov1_add _) h.lt]; exact h.few hour, fun i hour => by rw [joinT_sum _ (covL1_add _ _) h.lt]; exact h.one i hour⟩
  refine joinT_all (Q := fun t => ∃ (i : Nat) (x : Ld), t.1 = (i : Int) ∧ l[i]? = some x ∧ x.1 ≤ t.2.1 ∧ t.2.1 < t.2.2 ∧ t.2.2 ≤ x.2.1) (fun a g c d h1 h2 => ?_) h.inn
  obtain ⟨i, x, e1, e2, e3, e4, e5⟩ := h1
  obtain ⟨i', x', e1', e2', e3', e4', e5'⟩ := h2
  dsimp only at *
  have : i = i' := by omega
  subst this
  rw [e2] at e2'
  cases e2'
  exact ⟨i, x, e1, e2, e3, by omega, e5'⟩

end

/-- What Plan returns is a plan. -/
theorem PlanT.ok {l : List Ld} {K : Int} {P : List Tn} (h : PlanT l K P) (hok : ∀ x ∈ l, okN x) (hK : 0 ≤ K) : PlanOK l K P := by
  obtain ⟨f, l', hf, hp, _, hq, _⟩ := h
  have hd : Dry l K (timesOf l) f := ⟨timesOf_spec l, hok, hf⟩
  exact ((hd.all hK).perm hp).join.perm hq

end Go.Proofs.Ytkofnhimgegcnaa
