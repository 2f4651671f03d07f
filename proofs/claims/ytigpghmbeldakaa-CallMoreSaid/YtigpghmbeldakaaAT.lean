/- One bid more: what cannot grow less. -/
import Derived.Test.YtigpghmbeldakaaAR
namespace Go.Proofs.Ytigpghmbeldakaa
open Go.RowKit

theorem vol_more {l : List Bd} {b : Bd} (hb : okB b = true) (x : Int) : volAt l x ≤ volAt (l ++ [b]) x := by
  have hv := okB_iff.1 hb
  unfold volAt
  rw [dem_next, sup_next]
  split <;> split <;> omega

theorem price_mono {l : List Bd} {r s x y : Int} (hx : PriceAt l r x) (hy : PriceAt l s y) (h : r ≤ s) : x ≤ y := by
  by_cases ha : Above l
  · exact hy.above ha x hx.few
  · by_cases hu : Under l
    · exact hx.under hu y hy.few
    · have h1 := hx.near ha hu y hy.few
      have h2 := hy.near ha hu x hx.few
      unfold absT at h1 h2
      omega

theorem best_more {l : List Bd} {b : Bd} (hb : okB b = true) {lo hi v er lo' hi' v' er' : Int} (h0 : checkT l = 0) (h0' : checkT (l ++ [b]) = 0) (h : BestRes l lo hi v er) (h' : BestRes (l ++ [b]) lo' hi' v' er') :
    v ≤ v' ∧ (er = 0 → er' = 0) := by
  by_cases hz : er = 0
  · obtain ⟨a1, _, _, a4, a5⟩ := h.some h0 hz
    have hm := vol_more (l := l) hb lo
    by_cases hz' : er' = 0
    · obtain ⟨b1, _, _, b4, _⟩ := h'.some h0' hz'
      have := b1.2 lo a1.1
      exact ⟨by omega, fun _ => hz'⟩
    · obtain ⟨_, _, _, _, b5⟩ := h'.none h0' hz'
      have := b5 lo a1.1
      omega
  · obtain ⟨_, _, a3, _⟩ := h.none h0 hz
    refine ⟨?_, fun h => absurd h hz⟩
    by_cases hz' : er' = 0
    · obtain ⟨_, _, _, _, b5⟩ := h'.some h0' hz'
      omega
    · obtain ⟨_, _, b3, _⟩ := h'.none h0' hz'
      omega

/-- Two references and the ends of the best prices. -/
theorem price_between {l : List Bd} {lo hi v er r p pe s q qe : Int} (h0 : checkT l = 0) (h : BestRes l lo hi v er) (hp : PriceRes l r p pe) (hq : PriceRes l s q qe) (hr : 1 ≤ r ∧ r ≤ 1000000) (hs : 1 ≤ s ∧ s ≤ 1000000) (hrs : r ≤ s) :
    (er ≠ 0 ∧ pe = 30 ∧ qe = 30) ∨ (er = 0 ∧ pe = 0 ∧ qe = 0 ∧ p ≤ q ∧ lo ≤ p ∧ q ≤ hi) := by
  have i1 : inB 1000000 r = true := inB_iff.2 hr
  have i2 : inB 1000000 s = true := inB_iff.2 hs
  by_cases hz : er = 0
  · obtain ⟨a1, a2, a3, a4, a5⟩ := h.some h0 hz
    have e1 : pe = 0 := by
      by_cases hpe : pe = 0
      · exact hpe
      · have := (hp.none h0 i1 hpe).2.2 lo a1.1
        omega
    have e2 : qe = 0 := by
      by_cases hqe : qe = 0
      · exact hqe
      · have := (hq.none h0 i2 hqe).2.2 lo a1.1
        omega
    obtain ⟨p1, _⟩ := hp.some h0 i1 e1
    obtain ⟨q1, _⟩ := hq.some h0 i2 e2
    exact .inr ⟨hz, e1, e2, price_mono p1 q1 hrs, (a3 p p1.few.1).1, (a3 q q1.few.1).2⟩
  · obtain ⟨_, _, _, _, a5⟩ := h.none h0 hz
    refine .inl ⟨hz, ?_, ?_⟩
    · by_cases hpe : pe = 0
      · obtain ⟨p1, p2⟩ := hp.some h0 i1 hpe
        have := a5 p p1.few.1.1
        omega
      · exact (hp.none h0 i1 hpe).2.1
    · by_cases hqe : qe = 0
      · obtain ⟨q1, q2⟩ := hq.some h0 i2 hqe
        have := a5 q q1.few.1.1
        omega
      · exact (hq.none h0 i2 hqe).2.1

end Go.Proofs.Ytigpghmbeldakaa
