/- Check of the reference. -/
import Derived.Test.YtkofnhimgegcnaaAF
namespace Go.Proofs.Ytkofnhimgegcnaa
open Go Go.RowKit Go.Sort

set_option maxRecDepth 100000 in
set_option maxHeartbeats 4000000 in
theorem RCheck_any (p : Option Addr) (cl : Nat) (l : List Ld) (w : World) (hL : LoadsAt w p l) (hN : l.length ≤ maxLen) :
    Calls Try.prog 26 #[.slice p l.length cl] w fun e w' => e = .returned (.int .i64 (checkL l)) ∧ Adds w w' := by
  obtain ⟨n, hn⟩ : ∃ n, n = l.length := ⟨_, rfl⟩
  unfold maxLen at hN
  rw [← hn] at hN ⊢
  by_cases h256 : 256 < n
  · have HC : Hid (checkL l = 2) := Lib.hid (by unfold checkL; rw [if_pos (by omega)])
    rw [HC.out]
    clear hL hn
    have h2 : (256 : Int) < (n : Int) := by omega
    go_enter Try.func26, Try.ntmps26
    go_wp2
    go_ret
    exact ⟨rfl, Adds.refl _⟩
  · have HC : Hid (checkL l = if l.all okB then 0 else 1) := Lib.hid (by unfold checkL; rw [if_neg (by omega)])
    have HN := Lib.hid hn
    have HL := Lib.hid hL
    clear hL hn
    have h2 : (n : Int) ≤ 256 := by omega
    have BAD : Hid (∀ k x, l[k]? = some x → okB x = false → checkL l = 1) := Lib.hid (fun k x hx hb => by
      rw [HC.out, if_neg (fun h => by rw [List.all_eq_true] at h; rw [h x (List.mem_of_getElem? hx)] at hb; cases hb)])
    have GOOD : Hid ((∀ k x, k < n → l[k]? = some x → okB x = true) → checkL l = 0) := Lib.hid (fun h => by
      rw [HC.out, if_pos]
      rw [List.all_eq_true]
      intro x hx
      obtain ⟨k, hk⟩ := List.mem_iff_getElem?.1 hx
      exact h k x (by have := (List.getElem?_eq_some_iff.1 hk).1; have := HN.out; omega) hk)
    obtain ⟨r, hr⟩ : ∃ r, r = checkL l := ⟨_, rfl⟩
    rw [← hr] at BAD GOOD ⊢
    clear HC hr
    go_enter Try.func26, Try.ntmps26
    go_upto_region 4 with fail
    go_loopw [3] (fun v3 wr => ∃ k : Nat, k ≤ n ∧ v3 = .int .i64 k ∧ Hid (∀ i x, i < k → l[i]? = some x → okB x = true) ∧ Hid (Adds w wr)) (fun v3 _ => n - (intOf v3).toNat)
    case atStart => exact ⟨0, by omega, rfl, Lib.hid (fun i x hi => by omega), Lib.hid (Adds.refl _)⟩
    case round =>
      obtain ⟨k, hk, rfl, HG, HAD⟩ := hrel
      by_cases hlt : k < n
      · have hlt2 : (k : Int) < (n : Int) := by omega
        obtain ⟨⟨x0, x1, x2, x3⟩, hx⟩ : ∃ x, l[k]? = some x := ⟨_, List.getElem?_eq_getElem (by have := HN.out; omega)⟩
        obtain ⟨g, off, rfl, d0, d1, d2, d3⟩ := HL.out.later HAD.out k _ hx
        dsimp only at d0 d1 d2 d3
        have HX := Lib.hid hx
        clear hx
        go_upto_region 7 with fail
        obtain ⟨xb, hxb⟩ : ∃ b, b = wr.heap.size := ⟨_, rfl⟩
        obtain ⟨W2, hW2⟩ : ∃ V, V = wr.alloc (.cells #[.int .i64 x0, .int .i64 x1, .int .i64 x2, .int .i64 x3] 72) := ⟨_, rfl⟩
        rw [← hW2, ← hxb]
        have HA2 : Hid (Adds w W2) := Lib.hid (by rw [hW2]; exact HAD.out.alloc _)
        have hX2 : Box W2 xb #[.int .i64 x0, .int .i64 x1, .int .i64 x2, .int .i64 x3] 72 := by rw [hW2, hxb]; exact Box.new _ _ _
        have k0 : W2.cell? ⟨xb, 0, none⟩ = some (.int .i64 x0) := hX2.cell 0
        have k1 : W2.cell? ⟨xb, 1, none⟩ = some (.int .i64 x1) := hX2.cell 1
        have k2 : W2.cell? ⟨xb, 2, none⟩ = some (.int .i64 x2) := hX2.cell 2
        have k3 : W2.cell? ⟨xb, 3, none⟩ = some (.int .i64 x3) := hX2.cell 3
        clear hW2 hxb hX2 d0 d1 d2 d3 HAD
        by_cases c0 : x0 < 0
        · have HB : Hid (r = 1) := Lib.hid (BAD.out k _ HX.out (by unfold okB; dsimp only; rw [decide_eq_false_iff_not]; omega))
          go_wp2
          go_ret
          exact ⟨ret_int HB.out.symm, HA2.out⟩
        
        · skip
          by_cases c1 : x1 ≤ x0
          · have HB : Hid (r = 1) := Lib.hid (BAD.out k _ HX.out (by unfold okB; dsimp only; rw [decide_eq_false_iff_not]; omega))
            go_wp2
            go_ret
            exact ⟨ret_int HB.out.symm, HA2.out⟩
          
          · skip
            by_cases c2 : 1000000 < x1
            · have HB : Hid (r = 1) := Lib.hid (BAD.out k _ HX.out (by unfold okB; dsimp only; rw [decide_eq_false_iff_not]; omega))
              go_wp2
              go_ret
              exact ⟨ret_int HB.out.symm, HA2.out⟩
            
            · skip
              by_cases c3 : x2 < 1
              · have HB : Hid (r = 1) := Lib.hid (BAD.out k _ HX.out (by unfold okB; dsimp only; rw [decide_eq_false_iff_not]; omega))
                go_wp2
                go_ret
                exact ⟨ret_int HB.out.symm, HA2.out⟩
              
              · skip
                by_cases c4 : x1 - x0 < x2
                · have HB : Hid (r = 1) := Lib.hid (BAD.out k _ HX.out (by unfold okB; dsimp only; rw [decide_eq_false_iff_not]; omega))
                  go_wp2
                  go_ret
                  exact ⟨ret_int HB.out.symm, HA2.out⟩
                
                · skip
                  by_cases c5 : x3 < 0
                  · have HB : Hid (r = 1) := Lib.hid (BAD.out k _ HX.out (by unfold okB; dsimp only; rw [decide_eq_false_iff_not]; omega))
                    go_wp2
                    go_ret
                    exact ⟨ret_int HB.out.symm, HA2.out⟩
                  
                  · skip
                    by_cases c6 : 1000000 < x3
                    · have HB : Hid (r = 1) := Lib.hid (BAD.out k _ HX.out (by unfold okB; dsimp only; rw [decide_eq_false_iff_not]; omega))
                      go_wp2
                      go_ret
                      exact ⟨ret_int HB.out.symm, HA2.out⟩
                    
                    · skip
                      have HK : Hid (okB (x0, x1, x2, x3) = true) := Lib.hid (by unfold okB; dsimp only; rw [decide_eq_true_iff]; omega)
                      go_wp2
                      refine ⟨⟨k + 1, by omega, by go_num, Lib.hid (fun i x hi hx => ?_), HA2⟩, by simp [intOf]; omega⟩
                      by_cases e : i = k
                      · subst e
                        rw [HX.out] at hx
                        cases hx
                        exact HK.out
                      · exact HG.out i x (by omega) hx
      · have hdq : decide ((k : Int) < (n : Int)) = false := decide_eq_false (by omega)
        have HR : Hid (r = 0) := Lib.hid (GOOD.out (fun i x hi hx => HG.out i x (by omega) hx))
        go_wp2
        go_ret
        exact ⟨ret_int HR.out.symm, HAD.out⟩

end Go.Proofs.Ytkofnhimgegcnaa
