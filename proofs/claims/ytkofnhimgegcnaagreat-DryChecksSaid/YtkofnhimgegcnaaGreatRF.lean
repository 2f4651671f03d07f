/- What the calls say of loads that are not valid, or of numbers of kilns that there may not be. -/
import Derived.Test.YtkofnhimgegcnaaGreatAG
namespace Go.Proofs.YtkofnhimgegcnaaGreat
open Go Go.RowKit Go.Sort

section
variable {p : Option Addr} {cl : Nat} {l : List Ld} {k : Int} {w : World}

set_option maxHeartbeats 1000000 in
theorem delay_bad (hN : l.length ≤ maxLen) (hL : LoadsAt w p l) (h0 : checkK l k ≠ 0) :
    Calls Tryz.prog 13 #[.slice p l.length cl, .int .i64 k] w fun e w' => e = .returned (.tuple #[.int .i64 0, .int .i64 (checkK l k)]) ∧ Adds w w' := by
  have hc := fun W (hW : Adds w W) => check_any p cl l k W hN (hL.later hW)
  generalize checkK l k = c at *
  have g0 : (c != 0) = true := by simp [bne, h0]
  have HC := Lib.hid hc
  generalize l.length = n at *
  clear hL h0 hc
  go_enter Tryz.func13, Tryz.ntmps13
  have hA1 : Adds w ((w.alloc (.cells #[.slice p n cl] 24)).alloc (.cells #[.int .i64 k] 3)) := ((Adds.refl w).alloc _).alloc _
  go_wp2_with (go_at_call 21; refine (HC.out _ hA1).mono ?_; rintro e w1 ⟨rfl, hb1⟩; have HB1 := Lib.hid hb1; clear hb1)
  go_ret2
  exact ⟨rfl, hA1.trans HB1.out⟩

set_option maxHeartbeats 1000000 in
theorem short_bad (hN : l.length ≤ maxLen) (hL : LoadsAt w p l) (h0 : checkK l k ≠ 0) :
    Calls Tryz.prog 36 #[.slice p l.length cl, .int .i64 k] w fun e w' => e = .returned (.int .i64 (checkK l k)) ∧ Adds w w' := by
  have hc := check_any p cl l k w hN hL
  generalize checkK l k = c at *
  have g0 : (c != 0) = true := by simp [bne, h0]
  have HC := Lib.hid hc
  generalize l.length = n at *
  clear hL h0 hc
  go_enter Tryz.func36, Tryz.ntmps36
  go_wp2_with (go_at_call 21; refine HC.out.mono ?_; rintro e w1 ⟨rfl, hb1⟩; have HB1 := Lib.hid hb1; clear hb1)
  go_ret
  exact ⟨rfl, HB1.out⟩

set_option maxHeartbeats 1000000 in
theorem early_bad (hN : l.length ≤ maxLen) (hL : LoadsAt w p l) (h0 : checkK l k ≠ 0) :
    Calls Tryz.prog 14 #[.slice p l.length cl, .int .i64 k] w fun e w' => e = .returned (.tuple #[nilV, .int .i64 (checkK l k)]) ∧ Adds w w' := by
  have hc := short_bad (cl := cl) hN hL h0
  generalize checkK l k = c at *
  have g0 : (c != 0) = true := by simp [bne, h0]
  have HC := Lib.hid hc
  generalize l.length = n at *
  clear hL h0 hc
  go_enter Tryz.func14, Tryz.ntmps14
  go_wp2_with (go_at_call 36; refine HC.out.mono ?_; rintro e w1 ⟨rfl, hb1⟩; have HB1 := Lib.hid hb1; clear hb1)
  go_ret2
  exact ⟨rfl, HB1.out⟩

set_option maxHeartbeats 1000000 in
theorem best_bad (hN : l.length ≤ maxLen) (hL : LoadsAt w p l) (h0 : checkK l k ≠ 0) :
    Calls Tryz.prog 15 #[.slice p l.length cl, .int .i64 k] w fun e w' => e = .returned (.tuple #[nilV, .int .i64 0, .int .i64 (checkK l k)]) ∧ Adds w w' := by
  have hc := fun W (hW : Adds w W) => short_bad (cl := cl) (w := W) hN (hL.later hW) h0
  generalize checkK l k = c at *
  have g0 : (c != 0) = true := by simp [bne, h0]
  have HC := Lib.hid hc
  generalize l.length = n at *
  clear hL h0 hc
  go_enter Tryz.func15, Tryz.ntmps15
  have hA1 : Adds w (w.alloc (.cells #[.slice p n cl] 24)) := (Adds.refl w).alloc _
  go_wp2_with (go_at_call 36; refine (HC.out _ hA1).mono ?_; rintro e w1 ⟨rfl, hb1⟩; have HB1 := Lib.hid hb1; clear hb1)
  refine bodyPost_ret (v := .tuple #[nilV, .int .i64 0, .int .i64 c]) ?_ rfl ⟨rfl, hA1.trans HB1.out⟩
  simp [results, Tryz.results15, go_sem, nilV]

set_option maxHeartbeats 1000000 in
theorem busy_bad (hN : l.length ≤ maxLen) (hL : LoadsAt w p l) (h0 : checkL l ≠ 0) :
    Calls Tryz.prog 19 #[.slice p l.length cl] w fun e w' => e = .returned (.tuple #[nilV, .int .i64 (checkL l)]) ∧ Adds w w' := by
  have hc := Check_any p cl l w hN hL
  generalize checkL l = c at *
  have g0 : (c != 0) = true := by simp [bne, h0]
  have HC := Lib.hid hc
  generalize l.length = n at *
  clear hL h0 hc
  go_enter Tryz.func19, Tryz.ntmps19
  go_wp2_with (go_at_call 7; refine HC.out.mono ?_; rintro e w1 ⟨rfl, hb1⟩; have HB1 := Lib.hid hb1; clear hb1)
  go_ret2
  exact ⟨rfl, HB1.out⟩

set_option maxHeartbeats 1000000 in
theorem isplan_bad (v : Value) (hN : l.length ≤ maxLen) (hL : LoadsAt w p l) (h0 : checkK l k ≠ 0) :
    Calls Tryz.prog 16 #[.slice p l.length cl, .int .i64 k, v] w fun e w' => e = .returned (.bool false) ∧ Adds w w' := by
  have hc := check_any p cl l k w hN hL
  generalize checkK l k = c at *
  have g0 : (c != 0) = true := by simp [bne, h0]
  have HC := Lib.hid hc
  generalize l.length = n at *
  clear hL h0 hc
  go_enter Tryz.func16, Tryz.ntmps16
  go_wp2_with (go_at_call 21; refine HC.out.mono ?_; rintro e w1 ⟨rfl, hb1⟩; have HB1 := Lib.hid hb1; clear hb1)
  go_ret
  exact ⟨rfl, HB1.out⟩

set_option maxHeartbeats 1000000 in
theorem proves_bad (v1 v2 : Value) (hN : l.length ≤ maxLen) (hL : LoadsAt w p l) (h0 : checkK l k ≠ 0) :
    Calls Tryz.prog 17 #[.slice p l.length cl, .int .i64 k, .agg #[v1, v2]] w fun e w' => e = .returned (.bool false) ∧ Adds w w' := by
  have hc := fun W (hW : Adds w W) => check_any p cl l k W hN (hL.later hW)
  generalize checkK l k = c at *
  have g0 : (c != 0) = true := by simp [bne, h0]
  have HC := Lib.hid hc
  generalize l.length = n at *
  clear hL h0 hc
  go_enter Tryz.func17, Tryz.ntmps17
  have hA1 : Adds w (w.alloc (.cells #[v1, v2] 39)) := (Adds.refl w).alloc _
  go_wp2_with (go_at_call 21; refine (HC.out _ hA1).mono ?_; rintro e w1 ⟨rfl, hb1⟩; have HB1 := Lib.hid hb1; clear hb1)
  go_ret
  exact ⟨rfl, hA1.trans HB1.out⟩

set_option maxHeartbeats 1000000 in
theorem rkilns_any : Calls Tryz.prog 8 #[.int .i64 k] w fun e w' => e = .returned (.bool (decide (1 ≤ k ∧ k ≤ 64))) ∧ w = w' := by
  by_cases h1 : 1 ≤ k
  · by_cases h2 : k ≤ 64
    · have e : decide (1 ≤ k ∧ k ≤ 64) = true := decide_eq_true ⟨h1, h2⟩
      rw [e]
      go_enter Tryz.func8, Tryz.ntmps8
      go_wp2
      go_ret
      exact ⟨rfl, rfl⟩
    · have e : decide (1 ≤ k ∧ k ≤ 64) = false := decide_eq_false (fun h => h2 h.2)
      have g2 : decide (k ≤ 64) = false := decide_eq_false h2
      rw [e]
      go_enter Tryz.func8, Tryz.ntmps8
      go_wp2
      go_ret
      exact ⟨rfl, rfl⟩
  · have e : decide (1 ≤ k ∧ k ≤ 64) = false := decide_eq_false (fun h => h1 h.1)
    have g1 : decide (1 ≤ k) = false := decide_eq_false h1
    rw [e]
    go_enter Tryz.func8, Tryz.ntmps8
    go_wp2
    go_ret
    exact ⟨rfl, rfl⟩
end

end Go.Proofs.YtkofnhimgegcnaaGreat
