/- The law DryPlans, walked. -/
import Derived.Test.YtkofnhimgegcnaaAV
namespace Go.Proofs.Ytkofnhimgegcnaa
open Go Go.RowKit Go.Sort

set_option maxRecDepth 100000 in
set_option maxHeartbeats 4000000 in
theorem plans_law (p : Option Addr) (cl : Nat) (l : List Ld) (x : Int) (w : World) (hL : LoadsAt w p l) (hcl : l.length ≤ cl) (hmx : cl ≤ maxLen) :
    Calls Try.prog 3 #[.slice p l.length cl, .int .i64 x] w fun e w' => e = .returned (.bool true) ∧ Adds w w' := by
  have HTM := Lib.hid (tame_at p cl 40 l w hL (by omega) hcl hmx)
  generalize l.length = N at *
  clear hL hcl hmx
  go_enter Try.func3, Try.ntmps3
  go_upto_region 2 with (go_at_call 13; refine HTM.out.mono ?_; rintro e w1 ⟨c, q, l', rfl, h1, h2, h3, _, hb1⟩; have HL := Lib.hid h1; have HOK := Lib.hid h3; have HB1 := Lib.hid hb1; clear h1 h3 hb1)
  have HGV := Lib.hid (fun (W : World) (hW : Adds w1 W) => give_at q c l' W (HL.out.later hW) (by omega))
  have HPN := Lib.hid (fun (K : Int) (W : World) (hW : Adds w1 W) (hK : 1 ≤ K ∧ K ≤ 64) => planned_any q c l' K W (HL.out.later hW) (by omega) HOK.out hK)
  have HFT : Hid (∀ (q2 : Option Addr) (c2 : Nat) (K : Int) (W : World), 1 ≤ K ∧ K ≤ 64 → LoadsAt W q2 l' → Calls Try.prog 15 #[.slice q2 l'.length c2, .int .i64 K] W fun e w' => ∃ v, e = .returned (.tuple #[.bool v, .int .i64 0]) ∧ (v = true ↔ CanDry l' K) ∧ Adds W w') := Lib.hid (fun q2 c2 K W hK hq => (Fits_any q2 c2 l' K W (by unfold maxLen; omega) hq).mono (by
    rintro e w' ⟨v, rfl, _, h4, h5⟩
    have h0 := checkK_ok (by omega) HOK.out hK (l := l')
    exact ⟨v, by rw [h0], h4 h0, h5⟩))
  obtain ⟨m, hm⟩ : ∃ m, m = l'.length := ⟨_, rfl⟩
  rw [← hm] at h2 HGV HPN HFT ⊢
  clear hm HTM
  obtain ⟨hx0, hx1⟩ := wmod x 64 (by omega) (by omega)
  go_upto_region 3 with fail
  obtain ⟨K, hK⟩ : ∃ K, K = 1 + wrap64 ((IntKind.u64.wrap x).tmod 64) := ⟨_, rfl⟩
  simp only [← hK]
  have hKb : 1 ≤ K ∧ K ≤ 64 := by omega
  clear hK hx0 hx1
  go_upto_region 4 with (go_at_call 14; refine (HPN.out K _ (Adds.refl _) hKb).mono ?_; rintro e w2 ⟨b, rfl, hb, hb2⟩; have HB := Lib.hid hb; have HB2 := Lib.hid hb2; clear hb hb2)
  go_upto_region 5 with (first
    | (go_at_call 16; refine (HGV.out _ HB2.out).mono ?_; rintro e w3 ⟨c3, q3, rfl, hq3, hb3⟩; have HQ3 := Lib.hid hq3; have HB3 := Lib.hid hb3; clear hq3 hb3)
    | (go_at_call 15; refine (HFT.out _ _ K _ hKb HQ3.out).mono ?_; rintro e w4 ⟨v, rfl, hv, hb4⟩; have HV := Lib.hid hv; have HB4 := Lib.hid hb4; clear hv hb4))
  have hvb : v = b := by
    have h1 := HB.out
    have h2 := HV.out
    cases v <;> cases b <;> simp_all
  have hbb : (b == b) = true := by simp
  clear HB HV
  subst hvb
  go_wp2_with (go_at_call 17; refine (awake_any _).mono ?_; rintro e w6 ⟨rfl, hb6⟩)
  go_ret
  exact ⟨rfl, (((HB1.out.trans HB2.out).trans HB3.out).trans HB4.out).trans hb6⟩

end Go.Proofs.Ytkofnhimgegcnaa
