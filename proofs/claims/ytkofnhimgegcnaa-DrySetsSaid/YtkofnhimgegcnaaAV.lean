/- The laws DryKilns and DryPlans, walked. -/
import Derived.Test.YtkofnhimgegcnaaAT
namespace Go.Proofs.Ytkofnhimgegcnaa
open Go Go.RowKit Go.Sort

theorem planned_any (p : Option Addr) (cl : Nat) (l : List Ld) (K : Int) (w : World) (hL : LoadsAt w p l) (hn : l.length ≤ 256) (hok : ∀ x ∈ l, okB x = true) (hK : 1 ≤ K ∧ K ≤ 64) :
    Calls Try.prog 14 #[.slice p l.length cl, .int .i64 K] w fun e w' => ∃ b, e = .returned (.tuple #[.bool b, .bool true]) ∧ (b = true ↔ CanDry l K) ∧ Adds w w' := by
  by_cases hc : CanDry l K
  · exact (planned_yes p cl l K w hL hn hok hK hc).mono (by
      rintro e w' ⟨rfl, h⟩
      exact ⟨true, rfl, ⟨fun _ => hc, fun _ => rfl⟩, h⟩)
  · exact (planned_no p cl l K w hL hn hok hK hc).mono (by
      rintro e w' ⟨rfl, h⟩
      exact ⟨false, rfl, ⟨(fun e => by cases e), fun h => absurd h hc⟩, h⟩)

/-- What tame leaves, in plain words. -/
theorem tame_at (p : Option Addr) (cl most : Nat) (l : List Ld) (w : World) (hL : LoadsAt w p l) (hm : most ≤ 256) (hcl : l.length ≤ cl) (hmx : cl ≤ maxLen) :
    Calls Try.prog 13 #[.slice p l.length cl, .int .i64 most, .bool false] w fun e w' => ∃ c q l', e = .returned (.slice q (List.length l') c) ∧ LoadsAt w' q l' ∧ l'.length ≤ most ∧ (∀ x ∈ l', okB x = true) ∧ (0 < l.length → 0 < most → 0 < l'.length) ∧ Adds w w' :=
  (tame_any p cl most false l w hL (by omega) hcl hmx).mono (by
    rintro e w' ⟨c, q, l', h1, h2, rfl, h3, h4⟩
    exact ⟨c, q, l', rfl, h3.at, by omega, fun x hx => (h2 x hx).1, by omega, h4⟩)

set_option maxRecDepth 100000 in
set_option maxHeartbeats 4000000 in
theorem kilns_law (p : Option Addr) (cl : Nat) (l : List Ld) (w : World) (hL : LoadsAt w p l) (hcl : l.length ≤ cl) (hmx : cl ≤ maxLen) :
    Calls Try.prog 5 #[.slice p l.length cl] w fun e w' => e = .returned (.bool true) ∧ Adds w w' := by
  have HTM := Lib.hid (tame_at p cl 40 l w hL (by omega) hcl hmx)
  generalize l.length = N at *
  clear hL hcl hmx
  go_enter Try.func5, Try.ntmps5
  go_upto_region 2 with (go_at_call 13; refine HTM.out.mono ?_; rintro e w1 ⟨c, q, l', rfl, h1, h2, h3, _, hb1⟩; have HL := Lib.hid h1; have HOK := Lib.hid h3; have HB1 := Lib.hid hb1; clear h1 h3 hb1)
  have hcl0 : checkL l' = 0 := checkL_zero.2 ⟨by omega, HOK.out⟩
  have HGV := Lib.hid (give_at q c l' w1 HL.out (by omega))
  have HKI : Hid (∀ (q2 : Option Addr) (c2 : Nat) (W : World), LoadsAt W q2 l' → Calls Try.prog 24 #[.slice q2 l'.length c2] W fun e w' => ∃ r, e = .returned (.tuple #[.int .i64 r, .int .i64 0]) ∧ LeastGot (CanDry l') 0 l'.length r ∧ Adds W w') := Lib.hid (fun q2 c2 W hq => (Kilns_any q2 c2 l' W (by unfold maxLen; omega) hq).mono (by
    rintro e w' ⟨r, rfl, _, h4, h5⟩
    exact ⟨r, by rw [hcl0], h4 hcl0, h5⟩))
  have HPN := Lib.hid (fun (K : Int) (W : World) (hW : Adds w1 W) (hK : 1 ≤ K ∧ K ≤ 64) => planned_any q c l' K W (HL.out.later hW) (by omega) HOK.out hK)
  have hokN : ∀ x ∈ l', okN x := fun x hx => okB_okN (HOK.out x hx)
  have HALL := Lib.hid (dry_all w hokN (by omega))
  have HNON := Lib.hid (fun h => dry_none w hokN (by omega) (l := l') h)
  obtain ⟨m, hm⟩ : ∃ m, m = l'.length := ⟨_, rfl⟩
  rw [← hm] at h2 HGV HKI HPN HALL ⊢
  have HM := Lib.hid hm
  clear hm hokN hcl0 HTM
  go_upto_region 3 with (first
    | (go_at_call 16; refine HGV.out.mono ?_; rintro e w2 ⟨c2, q2, rfl, hq2, hb2⟩; have HQ2 := Lib.hid hq2; have HB2 := Lib.hid hb2; clear hq2 hb2)
    | (go_at_call 24; refine (HKI.out _ _ _ HQ2.out).mono ?_; rintro e w3 ⟨r, rfl, hr, hb3⟩; have HR := Lib.hid hr; have HB3 := Lib.hid hb3; clear hr hb3))
  have HA3 := Lib.hid (HB1.out.trans (HB2.out.trans HB3.out))
  have HA13 := Lib.hid (HB2.out.trans HB3.out)
  obtain ⟨r1, r2, r3, r4⟩ := HR.out
  have hyes : CanDry l' r := by
    rcases r4 with h | h
    · rw [h]; exact HALL.out
    · exact h
  have hno : 2 ≤ r → ¬ CanDry l' (r - 1) := fun h2 => by
    rcases r3 with h | h
    · omega
    · exact h
  have hzr : r = 0 → m = 0 := fun h => by
    rw [h] at hyes
    have := HNON.out hyes
    have := HM.out
    rw [‹l' = []›] at this
    exact this
  have g1 : decide (r < 0) = false := decide_eq_false (by omega)
  have g2 : decide ((m : Int) < r) = false := decide_eq_false (by omega)
  have HYES := Lib.hid hyes
  have HNO := Lib.hid hno
  clear HKI HGV HALL HNON hyes hno r3 r4 HR HQ2
  by_cases hz : m = 0
  · have hr0 : r = 0 := by omega
    subst hr0
    subst hz
    clear hzr
    go_wp2_with (go_at_call 17; go_must (refine (awake_any _).mono ?_); rintro e w4 ⟨rfl, hb4⟩)
    go_ret
    exact ⟨rfl, HA3.out.trans hb4⟩
  · have hr1 : 1 ≤ r := by
      rcases Int.lt_or_le 0 r with h | h
      · omega
      · exact absurd (hzr (by omega)) hz
    have g3 : (r == 0) = false := beq_eq_false_iff_ne.2 (by omega)
    have g4 : ((m : Int) == 0) = false := beq_eq_false_iff_ne.2 (by omega)
    have g5 : (m == 0) = false := beq_eq_false_iff_ne.2 (by omega)
    have HP1 := Lib.hid (HPN.out r _ HA13.out ⟨hr1, by omega⟩)
    clear hzr hz
    go_upto_region 7 with (go_at_call 14; refine HP1.out.mono ?_; rintro e w4 ⟨b4, rfl, hb, hb4⟩; have hb5 : b4 = true := hb.2 HYES.out; subst hb5; have HB4 := Lib.hid hb4; clear hb4 hb)
    by_cases h2r : 2 ≤ r
    · have HP2 := Lib.hid (HPN.out (r - 1) _ (HA13.out.trans HB4.out) ⟨by omega, by omega⟩)
      go_wp2_with (first
        | (go_at_call 14; refine HP2.out.mono ?_; rintro e w5 ⟨b5, rfl, hb, hb5⟩; have hb6 : b5 = false := (by cases b5 with | false => rfl | true => exact absurd (hb.1 rfl) (HNO.out h2r)); subst hb6; have HB5 := Lib.hid hb5; clear hb5 hb)
        | (go_at_call 17; refine (awake_any _).mono ?_; rintro e w6 ⟨rfl, hb6⟩))
      go_ret
      exact ⟨rfl, ((HA3.out.trans HB4.out).trans HB5.out).trans hb6⟩
    · have g6 : decide (2 ≤ r) = false := decide_eq_false h2r
      go_wp2_with (go_at_call 17; refine (awake_any _).mono ?_; rintro e w6 ⟨rfl, hb6⟩)
      go_ret
      exact ⟨rfl, (HA3.out.trans HB4.out).trans hb6⟩

end Go.Proofs.Ytkofnhimgegcnaa
