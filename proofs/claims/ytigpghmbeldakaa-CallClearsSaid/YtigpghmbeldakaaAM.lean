/- Best of the reference: the stretches with the greatest volume. -/
import Derived.Test.YtigpghmbeldakaaAL
namespace Go.Proofs.Ytigpghmbeldakaa
open Go.RowKit

/-- Quadruples of numbers in memory. -/
def At4 (w : World) (p : Option Addr) (l : List Iv) : Prop :=
  ∀ i x, l[i]? = some x → ∃ g, p = some ⟨g, 0, none⟩ ∧ g < w.heap.size ∧ w.cell? ⟨g, i * 4, none⟩ = some (.int .i64 x.1) ∧ w.cell? ⟨g, i * 4 + 1, none⟩ = some (.int .i64 x.2.1) ∧ w.cell? ⟨g, i * 4 + 2, none⟩ = some (.int .i64 x.2.2.1) ∧ w.cell? ⟨g, i * 4 + 3, none⟩ = some (.int .i64 x.2.2.2)

theorem At4.later {w w' : World} {p : Option Addr} {l : List Iv} (h : At4 w p l) (hb : Adds w w') : At4 w' p l := fun i x hx => by
  obtain ⟨g, e, hl, h0, h1, h2, h3⟩ := h i x hx
  exact ⟨g, e, Nat.lt_of_lt_of_le hl hb.size, keep_cell hb h0, keep_cell hb h1, keep_cell hb h2, keep_cell hb h3⟩

theorem own_at4 {w : World} {base : Nat} {t : TypeId} {v : Value} {l : List Iv} (h : w.ownsRow base t 4 v l.length (l.flatMap enc4)) : ∃ p cap, v = .slice p l.length cap ∧ At4 w p l := by
  have h' := h
  rcases h.2 with ⟨rfl, hz⟩ | ⟨g, cap, cur, rfl, hb, hg, _⟩
  · have : l = [] := List.length_eq_zero_iff.1 hz
    subst this
    exact ⟨none, 0, rfl, fun i x hx => by simp at hx⟩
  · refine ⟨some ⟨g, 0, none⟩, cap, rfl, fun i x hx => ?_⟩
    obtain ⟨f0, f1, f2, f3⟩ := flat4_cell i x hx
    have hi := (List.getElem?_eq_some_iff.1 hx).1
    refine ⟨g, rfl, (Array.getElem?_eq_some_iff.1 hg).1, ?_, ?_, ?_, ?_⟩
    · rw [h'.cellAt _ (by omega)]; exact f0
    · rw [h'.cellAt _ (by omega)]; exact f1
    · rw [h'.cellAt _ (by omega)]; exact f2
    · rw [h'.cellAt _ (by omega)]; exact f3

theorem own_base {w : World} {base base' n size : Nat} {t : TypeId} {v : Value} {xs : List Value} (h : w.ownsRow base t size v n xs) (hb : base' ≤ base) : w.ownsRow base' t size v n xs := by
  refine ⟨h.1, ?_⟩
  rcases h.2 with hn | ⟨g, cap, cur, e, h1, r⟩
  · exact .inl hn
  · exact .inr ⟨g, cap, cur, e, Nat.le_trans hb h1, r⟩

/-- The greatest volume. -/
def mostT (L : List Iv) : Int := L.foldl (fun m i => max m i.2.2.1) 0
theorem mostT_next (L : List Iv) (i : Iv) : mostT (L ++ [i]) = max (mostT L) i.2.2.1 := by simp [mostT, List.foldl_append]
theorem most_fold : ∀ (L : List Iv) (m : Int), m ≤ L.foldl (fun m i => max m i.2.2.1) m ∧ (∀ i ∈ L, i.2.2.1 ≤ L.foldl (fun m i => max m i.2.2.1) m) ∧ (L.foldl (fun m i => max m i.2.2.1) m = m ∨ ∃ i ∈ L, i.2.2.1 = L.foldl (fun m i => max m i.2.2.1) m)
  | [], m => ⟨Int.le_refl _, fun i hi => by simp at hi, .inl rfl⟩
  | c :: L, m => by
    rw [List.foldl_cons]
    obtain ⟨h1, h2, h3⟩ := most_fold L (max m c.2.2.1)
    refine ⟨by omega, fun i hi => ?_, ?_⟩
    · rcases List.mem_cons.1 hi with rfl | hi
      · omega
      · exact h2 i hi
    · rcases h3 with h3 | ⟨i, hi, h3⟩
      · rw [h3]
        by_cases hm : c.2.2.1 ≤ m
        · exact .inl (by omega)
        · exact .inr ⟨c, by simp, by omega⟩
      · exact .inr ⟨i, by simp [hi], h3⟩
theorem most_in (L : List Iv) : 0 ≤ mostT L ∧ (∀ i ∈ L, i.2.2.1 ≤ mostT L) ∧ (mostT L = 0 ∨ ∃ i ∈ L, i.2.2.1 = mostT L) := most_fold L 0

/-- The stretches with the greatest volume. -/
def bestI (L : List Iv) : List Iv := if 0 < mostT L then L.filter (fun i => decide (i.2.2.1 = mostT L)) else []

/-- What the list of best stretches says. -/
structure IvBest (l : List Bd) (B : List Iv) : Prop where
  each : ∀ i ∈ B, 1 ≤ i.1 ∧ i.1 ≤ i.2.1 ∧ i.2.1 ≤ 1000000 ∧ ∀ x, i.1 ≤ x → x ≤ i.2.1 → BestAt l x ∧ volAt l x = i.2.2.1 ∧ surAt l x = i.2.2.2 ∧ 0 < volAt l x
  sorted : B.Pairwise fun a b => a.2.1 < b.1
  cover : ∀ y, BestAt l y → 0 < volAt l y → ∃ i ∈ B, i.1 ≤ y ∧ y ≤ i.2.1
  none : B = [] → ∀ x, InR x → volAt l x ≤ 0
  few : B.length ≤ 1000000

theorem ivs_best {l : List Bd} {L : List Iv} (h : Ivs l 1000001 L) : IvBest l (bestI L) := by
  obtain ⟨m1, m2, m3⟩ := most_in L
  have hall : ∀ y, InR y → volAt l y ≤ mostT L := fun y hy => by
    obtain ⟨j, hj, h1, h2⟩ := h.cover y hy.1 (by have := hy.2; omega)
    have := ((h.each j hj).2.2.2 y h1 h2).1
    have := m2 j hj
    omega
  refine ⟨fun i hi => ?_, ?_, fun y hy hv => ?_, fun hB x hx => ?_, ?_⟩
  · unfold bestI at hi
    split at hi
    · rename_i hm
      obtain ⟨hi, he⟩ := List.mem_filter.1 hi
      rw [decide_eq_true_eq] at he
      obtain ⟨a1, a2, a3, a4⟩ := h.each i hi
      refine ⟨a1, a2, by omega, fun x h1 h2 => ?_⟩
      obtain ⟨b1, b2⟩ := a4 x h1 h2
      exact ⟨⟨⟨by omega, by omega⟩, fun y hy => by have := hall y hy; omega⟩, b1, b2, by omega⟩
    · simp at hi
  · unfold bestI
    split
    · exact List.Pairwise.sublist List.filter_sublist h.sorted
    · exact List.Pairwise.nil
  · obtain ⟨j, hj, h1, h2⟩ := h.cover y hy.1.1 (by have := hy.1.2; omega)
    have e1 := ((h.each j hj).2.2.2 y h1 h2).1
    have e2 := m2 j hj
    have e3 : mostT L ≤ j.2.2.1 := by
      rcases m3 with m3 | ⟨i, hi, m3⟩
      · omega
      · obtain ⟨a1, a2, a3, a4⟩ := h.each i hi
        have := (a4 i.1 (Int.le_refl _) a2).1
        have := hy.2 i.1 ⟨a1, by omega⟩
        omega
    refine ⟨j, ?_, h1, h2⟩
    unfold bestI
    rw [if_pos (by omega)]
    exact List.mem_filter.2 ⟨hj, by rw [decide_eq_true_eq]; omega⟩
  · have := hall x hx
    by_cases hm : 0 < mostT L
    · rcases m3 with m3 | ⟨i, hi, m3⟩
      · omega
      · unfold bestI at hB
        rw [if_pos hm] at hB
        have : i ∈ L.filter (fun i => decide (i.2.2.1 = mostT L)) := List.mem_filter.2 ⟨hi, by rw [decide_eq_true_eq]; exact m3⟩
        rw [hB] at this
        simp at this
    · omega
  · have := h.few
    unfold bestI
    split
    · have := List.length_filter_le (fun i => decide (i.2.2.1 = mostT L)) L
      omega
    · simp

theorem IvBest.first {l : List Bd} {B : List Iv} (h : IvBest l B) {i : Iv} (h0 : B[0]? = some i) : BestAt l i.1 ∧ (∀ y, BestAt l y → i.1 ≤ y) ∧ volAt l i.1 = i.2.2.1 ∧ 0 < i.2.2.1 := by
  have hi := List.mem_of_getElem? h0
  obtain ⟨a1, a2, a3, a4⟩ := h.each i hi
  obtain ⟨b1, b2, b3, b4⟩ := a4 i.1 (Int.le_refl _) a2
  refine ⟨b1, fun y hy => ?_, b2, by omega⟩
  have hv := hy.2 i.1 b1.1
  obtain ⟨j, hj, h1, h2⟩ := h.cover y hy (by omega)
  obtain ⟨k, hk⟩ := List.mem_iff_getElem?.1 hj
  cases k with
  | zero => rw [h0] at hk; cases hk; exact h1
  | succ k =>
    have hs := List.pairwise_iff_getElem.1 h.sorted 0 (k + 1) (List.getElem?_eq_some_iff.1 h0).1 (List.getElem?_eq_some_iff.1 hk).1 (by omega)
    rw [(List.getElem?_eq_some_iff.1 h0).2, (List.getElem?_eq_some_iff.1 hk).2] at hs
    omega
theorem IvBest.last {l : List Bd} {B : List Iv} (h : IvBest l B) {i : Iv} (h0 : B[B.length - 1]? = some i) : BestAt l i.2.1 ∧ (∀ y, BestAt l y → y ≤ i.2.1) := by
  have hi := List.mem_of_getElem? h0
  obtain ⟨a1, a2, a3, a4⟩ := h.each i hi
  obtain ⟨b1, b2, b3, b4⟩ := a4 i.2.1 a2 (Int.le_refl _)
  refine ⟨b1, fun y hy => ?_⟩
  have hv := hy.2 i.2.1 b1.1
  obtain ⟨j, hj, h1, h2⟩ := h.cover y hy (by omega)
  obtain ⟨k, hk⟩ := List.mem_iff_getElem?.1 hj
  have hkl := (List.getElem?_eq_some_iff.1 hk).1
  by_cases hke : k = B.length - 1
  · subst hke
    rw [h0] at hk
    cases hk
    exact h2
  · have hs := List.pairwise_iff_getElem.1 h.sorted k (B.length - 1) hkl (List.getElem?_eq_some_iff.1 h0).1 (by omega)
    rw [(List.getElem?_eq_some_iff.1 h0).2, (List.getElem?_eq_some_iff.1 hk).2] at hs
    omega

/-- The best stretches, in a row of the call's own. -/
def RBestGot (l : List Bd) (w : World) (e : Ending) (w' : World) : Prop :=
  ∃ v B, e = .returned v ∧ IvBest l B ∧ w'.ownsRow w.heap.size 50 4 v B.length (B.flatMap enc4) ∧ Adds w w'

set_option maxRecDepth 100000 in
set_option maxHeartbeats 4000000 in
theorem RBest_any (p : Option Addr) (cap : Nat) (l : List Bd) (w : World) (hN : l.length ≤ 5000) (hL : At3 w p l) (hok : ∀ b ∈ l, okB b = true) :
    Calls Try.prog 28 #[.slice p l.length cap] w (RBestGot l w) := by
  obtain ⟨j0, hj, hj0, hj1, hj2⟩ := info_parts info50
  have HJ := Lib.hid hj
  have HJ0 := Lib.hid hj0
  have HJ1 := Lib.hid hj1
  have HJ2 := Lib.hid hj2
  have HC := Lib.hid (Intervals_any p cap l w hN hL hok)
  generalize l.length = N at *
  clear hj hj0 hj1 hj2 hL hok hN
  go_enter Try.func28, Try.ntmps28
  go_wp2_with (go_at_call 50; refine HC.out.mono ?_; rintro e w1 ⟨v3, L, rfl, hiv, hro, hb1⟩; have HIV := Lib.hid hiv; have HB1 := Lib.hid hb1; obtain ⟨p3, c3, rfl, ha3⟩ := own_at4 hro; have HA3 := Lib.hid ha3; clear hiv hb1 hro ha3)
  obtain ⟨M, hM⟩ : ∃ M, M = L.length := ⟨_, rfl⟩
  have hM6 : M ≤ 1000000 := by have := HIV.out.few; omega
  rw [← hM]
  have HM := Lib.hid hM
  clear hM
  go_loopw [4, 5] (fun m i wr => ∃ k : Nat, k ≤ M ∧ i = .int .i64 k ∧ m = .int .i64 (mostT (L.take k)) ∧ w1 = wr) (fun _ i _ => M - (intOf i).toNat)
  case atStart => exact ⟨0, by omega, rfl, by simp [mostT], rfl⟩
  case round =>
    obtain ⟨k, hk, rfl, rfl, rfl⟩ := hrel
    by_cases hlt : k < M
    · obtain ⟨⟨a, b, c, d⟩, hb3⟩ : ∃ t, L[k]? = some t := ⟨_, List.getElem?_eq_getElem (by have := HM.out; omega)⟩
      obtain ⟨g, rfl, hgl, c0, c1, c2, c3'⟩ := HA3.out k _ hb3
      have HT : Hid (mostT (L.take (k + 1)) = max (mostT (L.take k)) c) := Lib.hid (by rw [take_next hb3, mostT_next])
      simp only at c0 c1 c2 c3'
      generalize mostT (L.take k) = mm at *
      clear hb3
      go_wp2
      exact ⟨⟨k + 1, by omega, by go_num, by rw [HT.out], trivial⟩, by simp [intOf]; omega⟩
    · have hkz : L.take k = L := List.take_of_length_le (by have := HM.out; omega)
      rw [hkz]
      obtain ⟨mo, hmo⟩ : ∃ m, m = mostT L := ⟨_, rfl⟩
      rw [← hmo]
      have HMO := Lib.hid hmo
      clear hkz hmo
      by_cases hpos : 0 < mo
      · have HBI : Hid (bestI L = L.filter (fun i => decide (i.2.2.1 = mo))) := Lib.hid (by unfold bestI; rw [← HMO.out, if_pos hpos])
        go_wp2
        go_loopw [6, 7] (fun v i wr => ∃ k : Nat, k ≤ M ∧ i = .int .i64 k ∧ Hid (wr.ownsRow w1.heap.size 50 4 v ((L.take k).filter (fun i => decide (i.2.2.1 = mo))).length (((L.take k).filter (fun i => decide (i.2.2.1 = mo))).flatMap enc4)) ∧ Adds w1 wr) (fun _ i _ => M - (intOf i).toNat)
        case atStart => exact ⟨0, by omega, rfl, Lib.hid (by simpa using World.ownsRow_nil _ _ _ _), Adds.refl w1⟩
        case round =>
          obtain ⟨k2, hk2, rfl, hrow, hb⟩ := hrel
          have HB := Lib.hid hb
          clear hb
          by_cases hlt2 : k2 < M
          · obtain ⟨⟨a, b, c, d⟩, hb3⟩ : ∃ t, L[k2]? = some t := ⟨_, List.getElem?_eq_getElem (by have := HM.out; omega)⟩
            obtain ⟨g, rfl, hgl, d0, d1, d2, d3⟩ := HA3.out k2 _ hb3
            have c0 := keep_cell HB.out d0
            have c1 := keep_cell HB.out d1
            have c2 := keep_cell HB.out d2
            have c3' := keep_cell HB.out d3
            have HT : Hid ((L.take (k2 + 1)).filter (fun i => decide (i.2.2.1 = mo)) = (L.take k2).filter (fun i => decide (i.2.2.1 = mo)) ++ if c = mo then [(a, b, c, d)] else []) := Lib.hid (by
              rw [take_next hb3, List.filter_append]
              by_cases hcm : c = mo
              · simp [hcm]
              · simp [hcm])
            have hfl : ((L.take k2).filter (fun i => decide (i.2.2.1 = mo))).length ≤ 1000000 := by
              have h1 := List.length_filter_le (fun i : Iv => decide (i.2.2.1 = mo)) (L.take k2)
              have h2 := List.length_take_le k2 L
              omega
            simp only at c0 c1 c2 c3'
            generalize (L.take k2).filter (fun i => decide (i.2.2.1 = mo)) = FL at *
            have hz := HB.out.size
            clear d0 d1 d2 d3 hb3
            by_cases hcm : c = mo
            · have HT2 : Hid ((L.take (k2 + 1)).filter (fun i => decide (i.2.2.1 = mo)) = FL ++ [(a, b, c, d)]) := Lib.hid (by rw [HT.out, if_pos hcm])
              have HLN : Hid ((FL ++ [(a, b, c, d)]).length = FL.length + 1) := Lib.hid (by simp)
              have HFL : Hid ((FL ++ [(a, b, c, d)]).flatMap enc4 = FL.flatMap enc4 ++ enc4 (a, b, c, d)) := Lib.hid (by simp)
              clear HT
              subst hcm
              go_wp2_with (at_builtin; ((refine wpList_append_own _ rfl _ _ 47 rfl w1.heap.size 50 j0 (.agg #[.int .i64 0, .int .i64 0, .int .i64 0, .int .i64 0]) 4 32 Try.underlying47 HJ.out HJ0.out HJ1.out HJ2.out rfl (by decide) u6 FL.length _ rfl (hrow.out.alloc _) ⟨wr.heap.size, 0, none⟩ 1 1 (enc4 (a, b, c, d)) rfl rfl (World.news_of_block (Box.new wr #[.int .i64 a, .int .i64 b, .int .i64 c, .int .i64 d] 50)) (by simp [enc4, Value.oneCell']) (by unfold maxLen; omega) (by omega) (by simp; omega) ?_); intro va1 w2 hra1 hg1 _; have HR1 := Lib.hid hra1; have HG1 := Lib.hid hg1; clear hra1 hg1))
              refine ⟨⟨k2 + 1, by omega, by go_num, Lib.hid ?_, Below.grown (HB.out.alloc _) HG1.out (by simp; omega) (fun j hj => (hrow.out.lt j hj).1)⟩, by simp [intOf]; omega⟩
              rw [HT2.out, HLN.out, HFL.out]
              exact HR1.out
            · have HT2 : Hid ((L.take (k2 + 1)).filter (fun i => decide (i.2.2.1 = mo)) = FL) := Lib.hid (by rw [HT.out, if_neg hcm, List.append_nil])
              clear HT
              go_wp2
              refine ⟨⟨k2 + 1, by omega, by go_num, ?_, HB.out⟩, by simp [intOf]; omega⟩
              rw [HT2.out]
              exact hrow
          · have hkz : L.take k2 = L := List.take_of_length_le (by have := HM.out; omega)
            rw [hkz] at hrow
            clear hkz
            go_wp2
            go_ret
            exact ⟨_, bestI L, rfl, ivs_best HIV.out, by rw [HBI.out]; exact own_base hrow.out HB1.out.size, HB1.out.trans HB.out⟩
      · have HBI : Hid (bestI L = []) := Lib.hid (by unfold bestI; rw [← HMO.out, if_neg hpos])
        go_wp2
        go_loopw [6, 7] (fun v i wr => v = .slice none 0 0 ∧ i = .int .i64 0 ∧ w1 = wr) (fun _ i _ => 0)
        case atStart => exact ⟨rfl, rfl, rfl⟩
        case round =>
          obtain ⟨rfl, rfl, rfl⟩ := hrel
          by_cases hz : (0 : Int) < (M : Int)
          · go_wp2
            go_ret
            exact ⟨_, bestI L, rfl, ivs_best HIV.out, by rw [HBI.out]; exact World.ownsRow_nil _ _ _ _, HB1.out⟩
          · go_wp2
            go_ret
            exact ⟨_, bestI L, rfl, ivs_best HIV.out, by rw [HBI.out]; exact World.ownsRow_nil _ _ _ _, HB1.out⟩

end Go.Proofs.Ytigpghmbeldakaa
