/- Alpha of the reference. -/
import Derived.Test.YtofaioabjkcaiaaAE
import Derived.Test.YtofaioabjkcaiaaBG
import Derived.Deep.CutBlock
namespace Go.Proofs.Ytofaioabjkcaiaa
open Go.RowKit

theorem nearest_twice {a b : Int} : nearestT a b = if 2 * (a % b) > b ∨ (2 * (a % b) = b ∧ a / b % 2 = 1) then a / b + 1 else a / b := by
  unfold nearestT
  by_cases h : a % b > b - a % b ∨ (a % b = b - a % b ∧ a / b % 2 = 1)
  · rw [if_pos h, if_pos (h.elim (fun k => Or.inl (by omega)) (fun k => Or.inr ⟨by omega, k.2⟩))]
  · rw [if_neg h, if_neg (fun k => h (k.elim (fun k => Or.inl (by omega)) (fun k => Or.inr ⟨by omega, k.2⟩)))]

theorem alpha_bad {l : List (Int × Int)} {k : Nat} {t : Int × Int} (hbig : ¬ 4096 < l.length) (he : l ≠ []) (h : l[k]? = some t) (ht : testB t = false) : alphaT l = (0, 1) := by
  unfold alphaT
  rw [if_neg hbig, if_neg he, all_take_bad h ht]
  rfl

/-- What Alpha returns. -/
def AlphaGot (l : List (Int × Int)) (w : World) (e : Ending) (w' : World) : Prop := e = .returned (.tuple #[.int .i64 (alphaT l).1, .int .i64 (alphaT l).2]) ∧ Adds w w'

set_option maxRecDepth 100000 in
set_option maxHeartbeats 4000000 in
theorem RAlpha_any (l : List (Int × Int)) (v : Value) (w : World) (hv : (v = .slice none 0 0 ∧ l = []) ∨ ∃ g cap, v = .slice (some ⟨g, 0, none⟩) l.length cap ∧ (∀ k t, l[k]? = some t → w.cell? ⟨g, k * 2, none⟩ = some (.int .i64 t.1) ∧ w.cell? ⟨g, k * 2 + 1, none⟩ = some (.int .i64 t.2))) (hlen : l.length ≤ 1000000) :
    Calls Try.prog 43 #[v] w (AlphaGot l w) := by
  rcases hv with ⟨rfl, rfl⟩ | ⟨g, cap, rfl, hc⟩
  · go_enter Try.func43, Try.ntmps43
    go_wp2
    go_ret2
    exact ⟨rfl, Adds.refl w⟩
  · by_cases hbig : 4096 < l.length
    · have HA : Hid (alphaT l = (0, 2)) := Lib.hid (by unfold alphaT; rw [if_pos hbig])
      clear hc
      go_enter Try.func43, Try.ntmps43
      go_wp2
      go_ret2
      exact ⟨by rw [HA.out]; rfl, Adds.refl w⟩
    · by_cases he : l = []
      · subst he
        clear hc
        simp only [List.length_nil] at hbig hlen ⊢
        go_enter Try.func43, Try.ntmps43
        go_wp2
        go_ret2
        exact ⟨rfl, Adds.refl w⟩
      · have hpos : 0 < l.length := List.length_pos_iff.2 he
        have hne : ((l.length : Int) == 0) = false := by rw [beq_eq_false_iff_ne]; omega
        have HC := Lib.hid hc
        have HE := Lib.hid he
        clear hc he
        go_enter Try.func43, Try.ntmps43
        go_wp2
        go_loopw [4, 5, 6] (fun gm sm i wr => ∃ k : Nat, k ≤ l.length ∧ i = .int .i64 k ∧ (l.take k).all testB = true ∧ sm = .int .i64 (sumT (l.take k)) ∧ gm = .int .i64 (gramsT (l.take k)) ∧ Adds w wr) (fun _ _ i _ => l.length - (intOf i).toNat)
        case atStart => exact ⟨0, Nat.zero_le _, rfl, rfl, rfl, rfl, Adds.refl w⟩
        case round =>
          obtain ⟨k, hk, rfl, hall, rfl, rfl, ha⟩ := hrel
          have HALL := Lib.hid hall
          have hsb := sum_bound _ hall
          have hlt0 : (l.take k).length ≤ 4096 := by simp; omega
          clear hall
          by_cases hlt : k < l.length
          · have hx : l[k]? = some (l[k]'hlt) := List.getElem?_eq_getElem hlt
            obtain ⟨c0, c1⟩ := HC.out k _ hx
            have d0 := keep_cell0 ha c0
            have d1 := keep_cell0 ha c1
            have hsnoc : l.take (k + 1) = l.take k ++ [l[k]'hlt] := List.take_succ_eq_append_getElem hlt
            generalize l[k]'hlt = t at *
            have HX := Lib.hid hx
            have HS := Lib.hid hsnoc
            clear hx hsnoc c0 c1
            obtain ⟨t1, t2⟩ := t
            simp only at d0 d1
            by_cases h1 : 1 ≤ t1
            · by_cases h2 : t1 ≤ 1000000000
              · by_cases h3 : 0 ≤ t2
                · by_cases h4 : t2 ≤ 3000
                  · have m0 : 0 ≤ t1 * t2 := Int.mul_nonneg (by omega) h3
                    have m1 : t1 * t2 ≤ 1000000000 * 3000 := Int.mul_le_mul h2 h4 h3 (by omega)
                    have HT : Hid (testB (t1, t2) = true) := Lib.hid (by simp [testB, alphaB, h1, h2, h3, h4])
                    have p1 : IntKind.i64.wrap (t1 * t2) = t1 * t2 := IntWalk.i64_in _ (by omega)
                    have p2 : IntKind.i64.wrap (sumT (l.take k) + t1 * t2) = sumT (l.take k) + t1 * t2 := IntWalk.i64_in _ (by omega)
                    go_upto_region 12 with fail
                    go_quiet (fail)
                    go_wp2
                    refine ⟨⟨k + 1, by omega, by go_num, ?_, ?_, ?_, ha.drewN _⟩, by simp [intOf]; omega⟩
                    · rw [HS.out, List.all_append, HALL.out]; simp [HT.out]
                    · rw [HS.out]; simp [sumT]
                    · rw [HS.out]; simp [gramsT]
                  · have HT : Hid (alphaT l = (0, 1)) := Lib.hid (alpha_bad hbig HE.out HX.out (by simp [testB, alphaB, h4]))
                    clear hsb hlt0
                    go_wp2
                    go_ret2
                    exact ⟨by rw [HT.out]; rfl, ha⟩
                · have HT : Hid (alphaT l = (0, 1)) := Lib.hid (alpha_bad hbig HE.out HX.out (by simp [testB, alphaB, h3]))
                  clear hsb hlt0
                  go_wp2
                  go_ret2
                  exact ⟨by rw [HT.out]; rfl, ha⟩
              · have HT : Hid (alphaT l = (0, 1)) := Lib.hid (alpha_bad hbig HE.out HX.out (by simp [testB, h2]))
                clear hsb hlt0
                go_wp2
                go_ret2
                exact ⟨by rw [HT.out]; rfl, ha⟩
            · have HT : Hid (alphaT l = (0, 1)) := Lib.hid (alpha_bad hbig HE.out HX.out (by simp [testB, h1]))
              clear hsb hlt0
              go_wp2
              go_ret2
              exact ⟨by rw [HT.out]; rfl, ha⟩
          · have HT : Hid (l.all testB = true) := Lib.hid (by have := HALL.out; rwa [List.take_of_length_le (by omega)] at this)
            have e1 : l.take k = l := List.take_of_length_le (by omega)
            rw [e1] at hsb ⊢
            have HAL : Hid (alphaT l = (nearestT (sumT l) (gramsT l), 0)) := Lib.hid (by unfold alphaT; rw [if_neg hbig, if_neg HE.out, if_pos HT.out])
            have s0 : 0 ≤ sumT l := hsb.2.2.1
            have s1 : sumT l ≤ 1000000000000000000 := by have := hsb.2.2.2; omega
            have g0 : 1 ≤ gramsT l := by omega
            have g1 : gramsT l ≤ 1000000000000000000 := by omega
            clear hlt0 e1 hsb
            generalize sumT l = a at *
            generalize gramsT l = b at *
            have q1 : a.tdiv b = a / b := Int.tdiv_eq_ediv_of_nonneg s0
            have q2 : a.tmod b = a % b := Int.tmod_eq_emod_of_nonneg s0
            have r0 : 0 ≤ a % b := Int.emod_nonneg _ (by omega)
            have r1 : a % b < b := Int.emod_lt_of_pos _ (by omega)
            have d0 : 0 ≤ a / b := Int.ediv_nonneg s0 (by omega)
            have d1 : a / b ≤ a := Int.ediv_le_self _ s0
            have q3 : (a / b).tmod 2 = a / b % 2 := Int.tmod_eq_emod_of_nonneg d0
            have HN : Hid (nearestT a b = if 2 * (a % b) > b ∨ (2 * (a % b) = b ∧ a / b % 2 = 1) then a / b + 1 else a / b) := Lib.hid nearest_twice
            have w1 : IntKind.i64.wrap (a / b) = a / b := IntWalk.i64_in _ (by omega)
            have w2 : IntKind.i64.wrap (a % b) = a % b := IntWalk.i64_in _ (by omega)
            generalize hq : a / b = q at *
            generalize hr : a % b = r at *
            clear hq hr
            go_upto_region 13 with fail
            go_quiet (fail)
            by_cases h1 : 2 * r > b
            · go_wp2
              go_ret2
              exact ⟨by rw [HAL.out, HN.out, if_pos (Or.inl h1)]; rfl, ha.drewN _⟩
            · by_cases h2 : 2 * r = b
              · have k2 : (2 * r == b) = true := beq_iff_eq.2 h2
                have H2 := Lib.hid h2
                clear h2
                by_cases h3 : q % 2 = 1
                · have k3 : (q % 2 == 1) = true := beq_iff_eq.2 h3
                  have H3 := Lib.hid h3
                  clear h3
                  go_wp2
                  go_ret2
                  exact ⟨by rw [HAL.out, HN.out, if_pos (Or.inr ⟨H2.out, H3.out⟩)]; rfl, ha.drewN _⟩
                · have k3 : (q % 2 == 1) = false := beq_eq_false_iff_ne.2 h3
                  have H3 := Lib.hid h3
                  clear h3
                  go_wp2
                  go_ret2
                  exact ⟨by rw [HAL.out, HN.out, if_neg (fun h => h.elim (fun h => by omega) (fun h => H3.out h.2))]; rfl, ha.drewN _⟩
              · have k2 : (2 * r == b) = false := beq_eq_false_iff_ne.2 h2
                have H2 := Lib.hid h2
                clear h2
                go_wp2
                go_ret2
                exact ⟨by rw [HAL.out, HN.out, if_neg (fun h => h.elim (fun h => by omega) (fun h => H2.out h.1))]; rfl, ha.drewN _⟩

end Go.Proofs.Ytofaioabjkcaiaa
