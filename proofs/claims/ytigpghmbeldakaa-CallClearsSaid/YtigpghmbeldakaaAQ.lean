/- Price of the reference: its walk. -/
import Derived.Test.YtigpghmbeldakaaAP
namespace Go.Proofs.Ytigpghmbeldakaa
open Go.RowKit

def RPriceGot (l : List Bd) (ref : Int) (w : World) (e : Ending) (w' : World) : Prop :=
  ∃ x, e = .returned (.int .i64 x) ∧ ((x = 0 ∧ ∀ y, InR y → volAt l y ≤ 0) ∨ (PriceAt l ref x ∧ 0 < volAt l x)) ∧ Adds w w'

theorem upT_next (F : List Iv) (i : Iv) : upT (F ++ [i]) = (upT F && decide (0 < i.2.2.2)) := by simp [upT]
theorem downT_next (F : List Iv) (i : Iv) : downT (F ++ [i]) = (downT F && decide (i.2.2.2 < 0)) := by simp [downT]

theorem best_sur {l : List Bd} {B : List Iv} (h : IvBest l B) (hN : l.length ≤ 5000) (hok : ∀ b ∈ l, okB b = true) {i : Iv} (hi : i ∈ B) : -5000000000000 ≤ i.2.2.2 ∧ i.2.2.2 ≤ 5000000000000 := by
  obtain ⟨a1, a2, a3, a4⟩ := h.each i hi
  obtain ⟨_, _, b3, _⟩ := a4 i.1 (Int.le_refl _) a2
  have h1 := dem_bd i.1 l hok
  have h2 := sup_bd i.1 l hok
  rw [← b3]
  unfold surAt
  omega

set_option maxRecDepth 100000 in
set_option maxHeartbeats 4000000 in
theorem RPrice_any (p : Option Addr) (cap : Nat) (l : List Bd) (ref : Int) (w : World) (hN : l.length ≤ 5000) (hL : At3 w p l) (hok : ∀ b ∈ l, okB b = true) (hr : 1 ≤ ref ∧ ref ≤ 1000000) :
    Calls Try.prog 29 #[.slice p l.length cap, .int .i64 ref] w (RPriceGot l ref w) := by
  obtain ⟨j0, hj, hj0, hj1, hj2⟩ := info_parts info50
  have HJ := Lib.hid hj
  have HJ0 := Lib.hid hj0
  have HJ1 := Lib.hid hj1
  have HJ2 := Lib.hid hj2
  have HC := Lib.hid (RBest_any p cap l w hN hL hok)
  have HSU : Hid (∀ B, IvBest l B → ∀ i ∈ B, -5000000000000 ≤ i.2.2.2 ∧ i.2.2.2 ≤ 5000000000000) := Lib.hid (fun B hB i hi => best_sur hB hN hok hi)
  generalize l.length = N at *
  obtain ⟨hr1, hr2⟩ := hr
  clear hj hj0 hj1 hj2 hL hok hN
  go_enter Try.func29, Try.ntmps29
  go_upto_region 2 with (go_at_call 28; refine HC.out.mono ?_; rintro e w1 ⟨v5, B, rfl, hib, hro, hb1⟩; have HIB := Lib.hid hib; have HB1 := Lib.hid hb1; obtain ⟨p5, c5, rfl, ha5⟩ := own_at4 hro; have HA5 := Lib.hid ha5; clear hib hb1 hro ha5)
  obtain ⟨M, hM⟩ : ∃ M, M = B.length := ⟨_, rfl⟩
  have hM6 : M ≤ 1000000 := by rw [hM]; exact HIB.out.few
  rw [← hM]
  have HM := Lib.hid hM
  have HSB := Lib.hid (HSU.out B HIB.out)
  clear hM HSU
  by_cases hM0 : M = 0
  · subst hM0
    have HBE : Hid (B = []) := Lib.hid (List.length_eq_zero_iff.1 HM.out.symm)
    go_wp2
    go_ret
    exact ⟨0, rfl, .inl ⟨rfl, HIB.out.none HBE.out⟩, HB1.out⟩
  · obtain ⟨⟨s0, s1, s2, s3⟩, hb0⟩ : ∃ t, B[0]? = some t := ⟨_, List.getElem?_eq_getElem (by have := HM.out; omega)⟩
    obtain ⟨g, rfl, hgl, c0, c1, c2, c3⟩ := HA5.out 0 _ hb0
    have hs3 := HSB.out _ (List.mem_of_getElem? hb0)
    have HIF := Lib.hid (best_few HIB.out hb0)
    simp only [Nat.zero_mul, Nat.zero_add] at c0 c1 c2 c3 hs3
    obtain ⟨hs3a, hs3b⟩ := hs3
    have hMp : (0 : Int) < (M : Int) := by omega
    clear hb0
    go_wp2_with (go_at_call 51; refine (size_any _ _ (by omega) (by omega)).mono ?_; rintro e w2 ⟨rfl, rfl⟩)
    obtain ⟨f0, hf0⟩ : ∃ f, f = max s3 (-s3) := ⟨_, rfl⟩
    have HF0 : Hid (f0 = absT s3) := Lib.hid hf0
    rw [← hf0]
    rw [show absT ((s0, s1, s2, s3) : Iv).2.2.2 = f0 from HF0.out.symm] at HIF
    clear hf0 c0 c1 c2 c3 hs3a hs3b
    go_loopw [6, 7] (fun m i wr => ∃ k : Nat, k ≤ M ∧ i = .int .i64 k ∧ m = .int .i64 (fewT f0 (B.take k)) ∧ w1 = wr) (fun _ i _ => M - (intOf i).toNat)
    case atStart => exact ⟨0, by omega, rfl, by simp [fewT], rfl⟩
    case round =>
      obtain ⟨k, hk, rfl, rfl, rfl⟩ := hrel
      by_cases hlt : k < M
      · obtain ⟨⟨a, b, c, d⟩, hb3⟩ : ∃ t, B[k]? = some t := ⟨_, List.getElem?_eq_getElem (by have := HM.out; omega)⟩
        obtain ⟨g', he, _, c0, c1, c2, c3⟩ := HA5.out k _ hb3
        cases he
        have hd := HSB.out _ (List.mem_of_getElem? hb3)
        have HT : Hid (fewT f0 (B.take (k + 1)) = min (fewT f0 (B.take k)) (max d (-d))) := Lib.hid (by rw [take_next hb3, fewT_next]; rfl)
        simp only at c0 c1 c2 c3 hd
        obtain ⟨hd1, hd2⟩ := hd
        generalize fewT f0 (B.take k) = mm at *
        clear hb3
        go_wp2_with (go_at_call 51; refine (size_any _ _ (by omega) (by omega)).mono ?_; rintro e w2 ⟨rfl, rfl⟩)
        exact ⟨⟨k + 1, by omega, by go_num, by rw [HT.out], trivial⟩, by simp [intOf]; omega⟩
      · have hkz : B.take k = B := List.take_of_length_le (by have := HM.out; omega)
        rw [hkz]
        obtain ⟨fw, hfw⟩ : ∃ f, f = fewT f0 B := ⟨_, rfl⟩
        rw [← hfw] at HIF ⊢
        clear hkz hfw
        go_wp2
        go_loopw [8, 9, 10, 11] (fun v up dn i wr => ∃ k : Nat, k ≤ M ∧ i = .int .i64 k ∧ Hid (wr.ownsRow w1.heap.size 50 4 v (fewI fw (B.take k)).length ((fewI fw (B.take k)).flatMap enc4)) ∧ up = .bool (upT (fewI fw (B.take k))) ∧ dn = .bool (downT (fewI fw (B.take k))) ∧ Adds w1 wr) (fun _ _ _ i _ => M - (intOf i).toNat)
        case atStart => exact ⟨0, by omega, rfl, Lib.hid (by simpa [fewI] using World.ownsRow_nil _ _ _ _), by simp [fewI, upT], by simp [fewI, downT], Adds.refl w1⟩
        case round =>
          obtain ⟨k2, hk2, rfl, hrow, rfl, rfl, hb⟩ := hrel
          have HB := Lib.hid hb
          clear hb
          by_cases hlt2 : k2 < M
          · obtain ⟨⟨a, b, c, d⟩, hb3⟩ : ∃ t, B[k2]? = some t := ⟨_, List.getElem?_eq_getElem (by have := HM.out; omega)⟩
            obtain ⟨g', he, _, d0, d1, d2, d3⟩ := HA5.out k2 _ hb3
            cases he
            have c0 := keep_cell HB.out d0
            have c1 := keep_cell HB.out d1
            have c2 := keep_cell HB.out d2
            have c3 := keep_cell HB.out d3
            have hd := HSB.out _ (List.mem_of_getElem? hb3)
            have HT : Hid (fewI fw (B.take (k2 + 1)) = fewI fw (B.take k2) ++ if absT d = fw then [(a, b, c, d)] else []) := Lib.hid (by rw [take_next hb3, fewI_next])
            have hfl : (fewI fw (B.take k2)).length ≤ 1000000 := by
              have h1 := List.length_filter_le (fun i : Iv => decide (absT i.2.2.2 = fw)) (B.take k2)
              have h2 := List.length_take_le k2 B
              unfold fewI
              omega
            simp only at c0 c1 c2 c3 hd
            obtain ⟨hd1, hd2⟩ := hd
            generalize fewI fw (B.take k2) = FL at *
            have hz := HB.out.size
            obtain ⟨ad, had⟩ : ∃ x, x = max d (-d) := ⟨_, rfl⟩
            have HAD : Hid (absT d = ad) := Lib.hid had.symm
            have hsz : ∀ W, Calls Try.prog 51 #[.int .i64 d] W fun e w' => e = .returned (.int .i64 ad) ∧ W = w' := fun W => by rw [had]; exact size_any d W (by omega) (by omega)
            simp only at d3
            clear d0 d1 d2 hb3 had
            by_cases hcm : ad = fw
            · subst hcm
              have HT2 : Hid (fewI ad (B.take (k2 + 1)) = FL ++ [(a, b, c, d)]) := Lib.hid (by rw [HT.out, if_pos HAD.out])
              have HLN : Hid ((FL ++ [(a, b, c, d)]).length = FL.length + 1) := Lib.hid (by simp)
              have HFL : Hid ((FL ++ [(a, b, c, d)]).flatMap enc4 = FL.flatMap enc4 ++ enc4 (a, b, c, d)) := Lib.hid (by simp)
              have HU := Lib.hid (upT_next FL (a, b, c, d))
              have HD := Lib.hid (downT_next FL (a, b, c, d))
              generalize upT FL = up at *
              generalize downT FL = dn at *
              clear HT
              cases up <;> cases dn <;> (
                go_wp2_with (first
                  | (go_at_call 51; refine (hsz _).mono ?_; rintro e w2 ⟨rfl, rfl⟩)
                  | (at_builtin; ((refine wpList_append_own _ rfl _ _ 47 rfl w1.heap.size 50 j0 (.agg #[.int .i64 0, .int .i64 0, .int .i64 0, .int .i64 0]) 4 32 Try.underlying47 HJ.out HJ0.out HJ1.out HJ2.out rfl (by decide) u8 FL.length _ rfl (hrow.out.alloc _) ⟨wr.heap.size, 0, none⟩ 1 1 (enc4 (a, b, c, d)) rfl rfl (World.news_of_block (Box.new wr #[.int .i64 a, .int .i64 b, .int .i64 c, .int .i64 d] 50)) (by simp [enc4, Value.oneCell']) (by unfold maxLen; omega) (by omega) (by simp; omega) ?_); intro va1 w2 hra1 hg1 _; have HR1 := Lib.hid hra1; have HG1 := Lib.hid hg1; have HB2 : Hid (Adds w1 w2) := Lib.hid (Below.grown (HB.out.alloc _) HG1.out (by simp; omega) (fun j hj => (hrow.out.lt j hj).1)); have c3' := keep_cell HB2.out d3; clear hra1 hg1)))
                refine ⟨⟨k2 + 1, by omega, by go_num, Lib.hid (by rw [HT2.out, HLN.out, HFL.out]; exact HR1.out), by rw [HT2.out, HU.out]; rfl, by rw [HT2.out, HD.out]; rfl, HB2.out⟩, by simp [intOf]; omega⟩)
            · have HT2 : Hid (fewI fw (B.take (k2 + 1)) = FL) := Lib.hid (by rw [HT.out, if_neg (by rw [HAD.out]; exact hcm), List.append_nil])
              clear HT
              go_wp2_with (go_at_call 51; refine (hsz _).mono ?_; rintro e w2 ⟨rfl, rfl⟩)
              refine ⟨⟨k2 + 1, by omega, by go_num, ?_, ?_, ?_, HB.out⟩, by simp [intOf]; omega⟩
              · rw [HT2.out]
                exact hrow
              · rw [HT2.out]
              · rw [HT2.out]
          · have hkz : B.take k2 = B := List.take_of_length_le (by have := HM.out; omega)
            rw [hkz] at hrow ⊢
            clear hkz
            obtain ⟨F, hF⟩ : ∃ F, F = fewI fw B := ⟨_, rfl⟩
            have hflb : F.length ≤ 1000000 := by
              have h1 := List.length_filter_le (fun i : Iv => decide (absT i.2.2.2 = fw)) B
              rw [hF]
              unfold fewI
              have := HM.out
              omega
            rw [← hF] at HIF hrow ⊢
            obtain ⟨p8, c8, rfl, ha8⟩ := own_at4 hrow.out
            have HA8 := Lib.hid ha8
            have hne : F.length ≠ 0 := fun h => HIF.out.some (List.length_eq_zero_iff.1 h)
            obtain ⟨m, hm⟩ : ∃ m, m + 1 = F.length := ⟨F.length - 1, by omega⟩
            have HMF := Lib.hid hm
            have hm6 : m ≤ 1000000 := by omega
            have HW := Lib.hid (HB1.out.trans HB.out)
            have hml : (F.length : Int) = (m : Int) + 1 := by omega
            obtain ⟨⟨a0, a1, a2, a3⟩, hi0⟩ : ∃ t, F[0]? = some t := ⟨_, List.getElem?_eq_getElem (by omega)⟩
            obtain ⟨⟨b0, b1, b2, b3⟩, hj0⟩ : ∃ t, F[m]? = some t := ⟨_, List.getElem?_eq_getElem (by omega)⟩
            rw [← hm]
            have HU : Hid (upT F = true → PriceAt l ref b1 ∧ 0 < volAt l b1) := Lib.hid (fun h => price_up HIF.out h (t := (b0, b1, b2, b3)) (by rw [← hm]; exact hj0) ref)
            have HD : Hid (downT F = true → PriceAt l ref a0 ∧ 0 < volAt l a0) := Lib.hid (fun h => price_down HIF.out h (t := (a0, a1, a2, a3)) hi0 ref)
            have HNR : Hid (upT F = false → downT F = false → ∀ c, Near ref F c → PriceAt l ref c ∧ 0 < volAt l c) := Lib.hid (fun h1 h2 c hc => price_near HIF.out h1 h2 hc)
            obtain ⟨g8, rfl, hg8, x0, x1, x2, x3⟩ := HA8.out 0 _ hi0
            obtain ⟨g9, he, _, y0, y1, y2, y3⟩ := HA8.out m _ hj0
            cases he
            simp only [Nat.zero_mul, Nat.zero_add] at x0 x1 x2 x3 y0 y1 y2 y3
            generalize hup : upT F = up at *
            generalize hdn : downT F = dn at *
            clear hF hflb hne hm hml hi0 hj0 ha8 hrow hup hdn
            cases up with
            | true =>
              obtain ⟨q1, q2⟩ := HU.out rfl
              have Q := Lib.hid (And.intro q1 q2)
              clear q1 q2
              go_wp2
              go_ret
              exact ⟨_, rfl, .inr Q.out, HW.out⟩
            | false =>
              cases dn with
              | true =>
                obtain ⟨q1, q2⟩ := HD.out rfl
                have Q := Lib.hid (And.intro q1 q2)
                clear q1 q2
                go_wp2
                go_ret
                exact ⟨_, rfl, .inr Q.out, HW.out⟩
              | false =>
                have HNN := Lib.hid (HNR.out rfl rfl)
                clear HNR HU HD x0 x1 x2 x3 y0 y1 y2 y3
                go_wp2
                go_loopw [12, 13] (fun c i ws => ∃ (k : Nat) (x : Int), k ≤ m + 1 ∧ i = .int .i64 k ∧ c = .int .i64 x ∧ Hid (Near ref (F.take k) x) ∧ Hid (At4 ws (some ⟨g8, 0, none⟩) F) ∧ Hid (Adds w ws)) (fun _ i _ => m + 1 - (intOf i).toNat)
                case atStart => exact ⟨0, 0, by omega, rfl, rfl, Lib.hid (.inl ⟨by simp, rfl⟩), HA8, HW⟩
                case round =>
                  obtain ⟨k3, x, hk3, rfl, rfl, hnear, har, hbw⟩ := hrel
                  by_cases hlt3 : k3 < m + 1
                  · obtain ⟨⟨lo, hi, c, d⟩, hb3⟩ : ∃ t, F[k3]? = some t := ⟨_, List.getElem?_eq_getElem (by have := HMF.out; omega)⟩
                    obtain ⟨g7, he, _, c0, c1, c2, c3⟩ := har.out k3 _ hb3
                    cases he
                    have hee := HIF.out.each _ (List.mem_of_getElem? hb3)
                    have hlo : 1 ≤ lo ∧ lo ≤ hi ∧ hi ≤ 1000000 := ⟨hee.1, hee.2.1, hee.2.2.1⟩
                    have hsrt : ∀ j ∈ F.take k3, j.2.1 < lo := by
                      have h1 : (F.take (k3 + 1)).Pairwise fun a b => a.2.1 < b.1 := List.Pairwise.sublist (List.take_sublist _ _) HIF.out.sorted
                      rw [take_next hb3, List.pairwise_append] at h1
                      exact fun j hj => h1.2.2 j hj _ (List.mem_singleton.2 rfl)
                    have HNX : Hid (Near ref (F.take (k3 + 1)) (if x = 0 ∨ absT (min (max ref lo) hi - ref) < absT (x - ref) then min (max ref lo) hi else x)) := Lib.hid (by
                      rw [take_next hb3]
                      exact near_next hnear.out hsrt hlo)
                    have hxb : 0 ≤ x ∧ x ≤ 1000000 := by
                      rcases hnear.out with ⟨_, h⟩ | ⟨h1, h2, _⟩ <;> omega
                    obtain ⟨h1, h2, h3⟩ := hlo
                    obtain ⟨h4, h5⟩ := hxb
                    obtain ⟨q, hq⟩ : ∃ q, min (max ref lo) hi = q := ⟨_, rfl⟩
                    rw [hq] at HNX
                    have hq1 : 1 ≤ q := by omega
                    have hq2 : q ≤ 1000000 := by omega
                    have hklt : (k3 : Int) < (m : Int) + 1 := by omega
                    simp only at c0 c1 c2 c3
                    clear hb3 hee hsrt
                    go_upto_region 26 with fail
                    go_quiet (fail)
                    clear hq
                    by_cases hx0 : x = 0
                    · have HN2 : Hid (Near ref (F.take (k3 + 1)) q) := Lib.hid (by have := HNX.out; rw [if_pos (.inl hx0)] at this; exact this)
                      subst hx0
                      go_wp2
                      refine ⟨⟨k3 + 1, q, by omega, by go_num, rfl, HN2, Lib.hid (har.out.later ((Adds.refl _).drewN _)), Lib.hid (hbw.out.drewN _)⟩, by simp [intOf]; omega⟩
                    · have hx0b : (x == 0) = false := beq_eq_false_iff_ne.2 hx0
                      obtain ⟨dq, hdq⟩ : ∃ y, max (q - ref) (-(q - ref)) = y := ⟨_, rfl⟩
                      obtain ⟨dx, hdx⟩ : ∃ y, max (x - ref) (-(x - ref)) = y := ⟨_, rfl⟩
                      have HDQ := Lib.hid hdq
                      have HDX := Lib.hid hdx
                      by_cases hcl : dq < dx
                      · have HN2 : Hid (Near ref (F.take (k3 + 1)) q) := Lib.hid (by have := HNX.out; rw [if_pos (.inr (by unfold absT; rw [hdq, hdx]; exact hcl))] at this; exact this)
                        clear hdq hdx
                        go_wp2_with (go_at_call 51; refine (size_any _ _ (by omega) (by omega)).mono ?_; rintro e w2 ⟨rfl, rfl⟩; first | rw [HDQ.out] | rw [HDX.out])
                        refine ⟨⟨k3 + 1, q, by omega, by go_num, rfl, HN2, Lib.hid (har.out.later ((Adds.refl _).drewN _)), Lib.hid (hbw.out.drewN _)⟩, by simp [intOf]; omega⟩
                      · have HN2 : Hid (Near ref (F.take (k3 + 1)) x) := Lib.hid (by have := HNX.out; rw [if_neg (fun h => h.elim hx0 (fun h => hcl (by unfold absT at h; rw [hdq, hdx] at h; exact h)))] at this; exact this)
                        clear hdq hdx
                        go_wp2_with (go_at_call 51; refine (size_any _ _ (by omega) (by omega)).mono ?_; rintro e w2 ⟨rfl, rfl⟩; first | rw [HDQ.out] | rw [HDX.out])
                        refine ⟨⟨k3 + 1, x, by omega, by go_num, rfl, HN2, Lib.hid (har.out.later ((Adds.refl _).drewN _)), Lib.hid (hbw.out.drewN _)⟩, by simp [intOf]; omega⟩
                  · have hkz : F.take k3 = F := List.take_of_length_le (by have := HMF.out; omega)
                    rw [hkz] at hnear
                    have Q := Lib.hid (HNN.out x hnear.out)
                    have hkge : ¬ ((k3 : Int) < (m : Int) + 1) := by omega
                    clear hkz
                    go_wp2
                    go_ret
                    exact ⟨_, rfl, .inr Q.out, hbw.out⟩

end Go.Proofs.Ytigpghmbeldakaa
