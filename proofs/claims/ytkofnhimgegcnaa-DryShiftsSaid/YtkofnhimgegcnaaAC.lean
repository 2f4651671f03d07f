/- Three loads: what awake asks of them. No Go. -/
import Derived.Test.YtkofnhimgegcnaaAB
namespace Go.Proofs.Ytkofnhimgegcnaa
open Go Go.RowKit Go.Sort

/-- The loads of awake. -/
abbrev three : List Ld := [(0, 2, 2, 0), (0, 2, 1, 0), (0, 2, 1, 0)]

theorem up_unique : ∀ {T U : List Int}, T.Pairwise (· < ·) → U.Pairwise (· < ·) → (∀ x, x ∈ T ↔ x ∈ U) → T = U
  | [], [], _, _, _ => rfl
  | [], u :: U, _, _, h => by have := (h u).2 (by simp); cases this
  | t :: T, [], _, _, h => by have := (h t).1 (by simp); cases this
  | t :: T, u :: U, hT, hU, h => by
    rw [List.pairwise_cons] at hT hU
    have e : t = u := by
      have h1 := (h t).1 (by simp)
      have h2 := (h u).2 (by simp)
      rw [List.mem_cons] at h1 h2
      rcases h1 with h1 | h1
      · exact h1
      · rcases h2 with h2 | h2
        · exact h2.symm
        · have := hU.1 t h1
          have := hT.1 u h2
          omega
    subst e
    rw [up_unique hT.2 hU.2 (fun x => ⟨fun hx => ?_, fun hx => ?_⟩)]
    · have := (h x).1 (by simp [hx])
      rcases List.mem_cons.1 this with e | e
      · have := hT.1 x hx; omega
      · exact e
    · have := (h x).2 (by simp [hx])
      rcases List.mem_cons.1 this with e | e
      · have := hU.1 x hx; omega
      · exact e

theorem three_times : timesOf three = [0, 2] := by
  have h := timesOf_spec three
  refine up_unique h.lt (by simp) (fun x => ?_)
  rw [h.mem]
  simp [timesL]
  omega
theorem three_net (K : Int) : netE (timesOf three) K three = [(0, 2, 2), (2, 5, 2), (0, 3, 1), (3, 5, 2), (0, 4, 1), (4, 5, 2), (5, 1, K * 2)] := by
  rw [three_times]
  rfl
theorem three_total : totalL three = 4 := by kernel_rfl
theorem three_check (K : Int) (h : 1 ≤ K ∧ K ≤ 64) : checkK three K = 0 := by
  have : checkL three = 0 := by kernel_rfl
  unfold checkK
  rw [if_pos this, if_pos h]

theorem three_two : CanDry three 2 := by
  refine ⟨fun k => match k with | 0 => 2 | 1 => 2 | 2 => 1 | 3 => 1 | 4 => 1 | 5 => 1 | 6 => 4 | _ => 0, ?_⟩
  rw [three_net, three_total]
  refine ⟨fun k hk => ?_, fun v => ?_⟩
  · have : k = 0 ∨ k = 1 ∨ k = 2 ∨ k = 3 ∨ k = 4 ∨ k = 5 ∨ k = 6 := by simp at hk; omega
    rcases this with rfl | rfl | rfl | rfl | rfl | rfl | rfl <;> simp [eAt]
  · unfold divE
    simp only [List.length_cons, List.length_nil, sumN, eAt, List.getElem?_cons_zero, List.getElem?_cons_succ, Option.getD_some]
    have : v = 0 ∨ v = 1 ∨ v = 2 ∨ v = 3 ∨ v = 4 ∨ v = 5 ∨ 6 ≤ v := by omega
    rcases this with rfl | rfl | rfl | rfl | rfl | rfl | h
    · decide
    · decide
    · decide
    · decide
    · decide
    · decide
    · have h0 : ¬ 0 = v := by omega
      have h1 : ¬ 1 = v := by omega
      have h2 : ¬ 2 = v := by omega
      have h3 : ¬ 3 = v := by omega
      have h4 : ¬ 4 = v := by omega
      have h5 : ¬ 5 = v := by omega
      have g0 : ¬ v = 0 := by omega
      have g1 : ¬ v = 1 := by omega
      simp [h0, h1, h2, h3, h4, h5, g0, g1]

theorem three_one : ¬ CanDry three 1 := fun ⟨f, hf⟩ => by
  rw [three_net, three_total] at hf
  have h1 := hf.div 1
  have h2 := hf.ok 6 (by simp)
  unfold divE at h1
  simp [sumN, eAt] at h1 h2
  omega

/-- Each load has a turn. -/
theorem PlanOK.some {l : List Ld} {K : Int} {P : List Tn} (h : PlanOK l K P) {i : Nat} {x : Ld} (hx : l[i]? = some x) (h1 : 1 ≤ x.2.2.1) : ∃ t ∈ P, t.1 = (i : Int) := by
  rcases Classical.em (∃ t ∈ P, t.1 = (i : Int)) with h0 | h0
  · exact h0
  · have := h.len i x hx
    rw [sumT_none (fun t ht => by unfold len1; rw [if_neg (fun e => h0 ⟨t, ht, e⟩)])] at this
    omega

theorem three_turns {K : Int} {P : List Tn} (h : PlanOK three K P) : 2 < P.length := by
  obtain ⟨a, ha, ea⟩ := h.some (i := 0) rfl (by decide)
  obtain ⟨b, hb, eb⟩ := h.some (i := 1) rfl (by decide)
  obtain ⟨c, hc, ec⟩ := h.some (i := 2) rfl (by decide)
  match P, ha, hb, hc with
  | [], ha, _, _ => cases ha
  | [x], ha, hb, _ =>
    rw [List.mem_singleton] at ha hb
    rw [ha] at ea; rw [hb] at eb
    omega
  | [x, y], ha, hb, hc =>
    simp only [List.mem_cons, List.not_mem_nil, or_false] at ha hb hc
    exfalso
    rcases ha with rfl | rfl <;> rcases hb with rfl | rfl <;> rcases hc with rfl | rfl <;> omega
  | x :: y :: z :: P, _, _, _ => simp

/-- A crush has a load. -/
theorem met_some {l : List Ld} {K val : Int} {T : List Int} {f lev : Nat → Int} (hF : Flow (netE T K l) f val) (hV : Lev (netE T K l) (2 + l.length + T.length) f lev) (hne : val ≠ totalL l) : 0 < (metL lev l.length).length := by
  rcases Classical.em (∃ k, k < (netE T K l).length ∧ (eAt (netE T K l) k).1 = 0 ∧ f k < (eAt (netE T K l) k).2.2) with h0 | h0
  · obtain ⟨k, hk, ht, hlt⟩ := h0
    rcases netE_kind (eAt_mem hk) with ⟨i, x, hx, e⟩ | ⟨i, x, q, hx, hq, e⟩ | ⟨s', _, e⟩
    · have hi := (List.getElem?_eq_some_iff.1 hx).1
      have h1 := hV.clo (2 * k) (by omega) (by unfold roomE; rw [if_pos (by omega), show 2 * k / 2 = k by omega]; omega) (by rw [tailE_even, ht, hV.src]; omega)
      rw [headE_even, e] at h1
      refine List.length_pos_of_mem (a := i) ?_
      unfold metL
      rw [List.mem_filter, List.mem_range]
      exact ⟨hi, decide_eq_true h1⟩
    · rw [e] at ht; dsimp only at ht; omega
    · rw [e] at ht; dsimp only at ht; omega
  · exfalso
    refine hne ?_
    rw [← netE_cap T K l]
    have h1 := hF.div 0
    rw [if_pos rfl, if_neg (by omega), Int.sub_zero] at h1
    unfold divE at h1
    rw [sumN_sub] at h1
    have h2 : sumN (netE T K l).length (fun k => if (eAt (netE T K l) k).2.1 = 0 then f k else 0) = 0 := by
      refine (sumN_congr (h := fun _ => 0) (fun k hk => ?_)).trans (sumN_zero _)
      rcases netE_kind (eAt_mem hk) with ⟨i, x, hx, e⟩ | ⟨i, x, q, hx, hq, e⟩ | ⟨s', _, e⟩ <;> rw [e, if_neg (by dsimp only; omega)]
    rw [h2, Int.sub_zero] at h1
    rw [← h1]
    unfold capE
    refine sumN_congr (fun k hk => ?_)
    split
    · rename_i ht
      have := (hF.ok k hk).2
      rcases Int.lt_or_le (f k) (eAt (netE T K l) k).2.2 with h' | h'
      · exact absurd ⟨k, hk, ht, h'⟩ h0
      · omega
    · rfl

end Go.Proofs.Ytkofnhimgegcnaa
