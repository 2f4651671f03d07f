/- A crush proves. No Go. -/
import Derived.Test.YtkofnhimgegcnaaAM
namespace Go.Proofs.Ytkofnhimgegcnaa
open Go Go.RowKit Go.Sort

theorem range_sumN (g : Nat → Int) : ∀ q : Nat, ((List.range q).map g).sum = sumN q g
  | 0 => rfl
  | q + 1 => by rw [List.range_succ, List.map_append, List.sum_append, range_sumN g q, sumN]; simp

theorem sumN_part {p d m : Nat} (h1 : p ≤ d) (h2 : d ≤ m) (g : Nat → Int) : sumN m (fun q => if p ≤ q ∧ q < d then g q else 0) = sumN (d - p) (fun q => g (p + q)) := by
  have e : m = (p + (d - p)) + (m - d) := by omega
  rw [e, sumN_split, sumN_split]
  have z1 : sumN p (fun q => if p ≤ q ∧ q < d then g q else 0) = 0 := (sumN_congr (h := fun _ => 0) (fun k hk => by rw [if_neg (by omega)])).trans (sumN_zero _)
  have z2 : sumN (m - d) (fun k => if p ≤ p + (d - p) + k ∧ p + (d - p) + k < d then g (p + (d - p) + k) else 0) = 0 := (sumN_congr (h := fun _ => 0) (fun k hk => by rw [if_neg (by omega)])).trans (sumN_zero _)
  have z3 : sumN (d - p) (fun k => if p ≤ p + k ∧ p + k < d then g (p + k) else 0) = sumN (d - p) (fun q => g (p + q)) := sumN_congr (fun k hk => by rw [if_pos (by omega)])
  rw [z1, z2, z3]; omega

theorem span_tele (T : List Int) (p : Nat) : ∀ k : Nat, sumN k (fun q => spanL T (p + q)) = T[p + k]?.getD 0 - T[p]?.getD 0
  | 0 => by simp [sumN]
  | k + 1 => by rw [sumN, span_tele T p k, show p + (k + 1) = p + k + 1 by omega]; unfold spanL; omega

theorem lap_add (x : Ld) : ∀ a b c : Int, a ≤ b → b ≤ c → lapL x (a, c) = lapL x (a, b) + lapL x (b, c) := fun a b c h1 h2 => by
  unfold lapL
  dsimp only
  omega

/-- Outside a crush a load has so many hours. -/
theorem out_within {l : List Ld} {T : List Int} {lev : Nat → Int} (hT : Times T (timesL l)) {x : Ld} (hx : x ∈ l) (hlt : x.1 < x.2.1) : outL (metS lev) l.length T x = x.2.1 - x.1 - withinL x (metH lev l.length T (T.length - 1)) := by
  have hm := timesL_mem hx
  obtain ⟨r1, r2⟩ := posT_spec ((hT.mem _).2 hm.1)
  obtain ⟨d1, d2⟩ := posT_spec ((hT.mem _).2 hm.2)
  have hpd := posT_le hT.lt ((hT.mem _).2 hm.1) ((hT.mem _).2 hm.2) hlt
  have hmono : ∀ i j, i ≤ j → j < T.length → T[i]?.getD 0 ≤ T[j]?.getD 0 := fun i j hij hj => by
    rcases Nat.lt_or_ge i j with h' | h'
    · rw [List.getElem?_eq_getElem hj, List.getElem?_eq_getElem (show i < T.length by omega)]
      exact Int.le_of_lt (List.pairwise_iff_getElem.1 hT.lt i j (by omega) hj h')
    · have : i = j := by omega
      rw [this]; exact Int.le_refl _
  have hw : withinL x (metH lev l.length T (T.length - 1)) = sumH (lapL x) (metH lev l.length T (T.length - 1)) := rfl
  rw [hw, metH_sum (lapL x) (lap_add x) hT.lt (T.length - 1) (by omega), range_sumN]
  have hlap : sumN (T.length - 1) (fun q => if metS lev (2 + l.length + q) = true then lapL x (T[q]?.getD 0, T[q + 1]?.getD 0) else 0) = sumN (T.length - 1) (fun q => if posT T x.1 ≤ q ∧ q < posT T x.2.1 then (if metS lev (2 + l.length + q) = true then spanL T q else 0) else 0) := by
    refine sumN_congr (fun q hq => ?_)
    have a1 : T[posT T x.1]?.getD 0 = x.1 := by rw [r2]; rfl
    have a2 : T[posT T x.2.1]?.getD 0 = x.2.1 := by rw [d2]; rfl
    have a3 := hmono q (q + 1) (by omega) (by omega)
    have hl : lapL x (T[q]?.getD 0, T[q + 1]?.getD 0) = if posT T x.1 ≤ q ∧ q < posT T x.2.1 then spanL T q else 0 := by
      unfold lapL spanL
      dsimp only
      by_cases c1 : posT T x.1 ≤ q
      · have := hmono _ _ c1 (by omega)
        by_cases c2 : q < posT T x.2.1
        · have := hmono (q + 1) _ c2 (by omega)
          rw [if_pos ⟨c1, c2⟩]; omega
        · have := hmono (posT T x.2.1) q (by omega) (by omega)
          rw [if_neg (fun h => c2 h.2)]; omega
      · have := hmono (q + 1) (posT T x.1) (by omega) (by omega)
        rw [if_neg (fun h => c1 h.1)]; omega
    rw [hl]
    by_cases c : posT T x.1 ≤ q ∧ q < posT T x.2.1
    · rw [if_pos c, if_pos c]
    · rw [if_neg c, if_neg c]; split <;> rfl
  rw [hlap, sumN_part (by omega) (by omega)]
  have ht := span_tele T (posT T x.1) (posT T x.2.1 - posT T x.1)
  rw [show posT T x.1 + (posT T x.2.1 - posT T x.1) = posT T x.2.1 by omega, r2, d2] at ht
  unfold outL spansOf
  rw [range_sumN]
  have hs : sumN (posT T x.2.1 - posT T x.1) (fun q => spanL T (posT T x.1 + q)) = sumN (posT T x.2.1 - posT T x.1) (fun q => (if metS lev (2 + l.length + (posT T x.1 + q)) = false then spanL T (posT T x.1 + q) else 0) + (if metS lev (2 + l.length + (posT T x.1 + q)) = true then spanL T (posT T x.1 + q) else 0)) := sumN_congr (fun q _ => by cases metS lev (2 + l.length + (posT T x.1 + q)) <;> simp)
  rw [hs, sumN_add] at ht
  simp only [Option.getD_some] at ht
  omega

/-- The hours of a crush. -/
theorem hours_met {T : List Int} {lev : Nat → Int} {n : Nat} (hT : T.Pairwise (· < ·)) (h0 : 0 < T.length) : sumH (fun h => h.2 - h.1) (metH lev n T (T.length - 1)) = hoursS (metS lev) n T (T.length - 1) := by
  rw [metH_sum (fun h => h.2 - h.1) (fun a b c _ _ => by dsimp only; omega) hT (T.length - 1) (by omega)]
  rfl

end Go.Proofs.Ytkofnhimgegcnaa
