/- The law DryChecks, walked. -/
import Derived.Test.YtkofnhimgegcnaaGreatRF
namespace Go.Proofs.YtkofnhimgegcnaaGreat
open Go Go.RowKit Go.Sort

set_option maxRecDepth 100000 in
set_option maxHeartbeats 8000000 in
theorem checks_law (p : Option Addr) (cl : Nat) (l : List Ld) (k : Int) (w : World) (hL : LoadsAt w p l) (hcl : l.length ≤ cl) (hmx : cl ≤ maxLen) :
    Calls Tryz.prog 3 #[.slice p l.length cl, .int .i64 k] w fun e w' => e = .returned (.bool true) ∧ Adds w w' := by
  have hsm := (some_any p cl 257 l w hL (by omega) hcl hmx).mono (R' := fun e w' => ∃ c q, e = .returned (.slice q (l.take 257).length c) ∧ LoadsAt w' q (l.take 257) ∧ Adds w w') (by
    rintro e w' ⟨c, q, rfl, h1, h2⟩
    exact ⟨c, q, rfl, h1.at, h2⟩)
  have hOl : (l.take 257).length ≤ 257 := by rw [List.length_take]; omega
  obtain ⟨O, hO⟩ : ∃ O, O = l.take 257 := ⟨_, rfl⟩
  rw [← hO] at hsm hOl
  have HSM := Lib.hid hsm
  generalize l.length = N at *
  clear hL hcl hmx hsm hO
  go_enter Tryz.func3, Tryz.ntmps3
  go_upto_region 2 with (go_at_call 4; refine HSM.out.mono ?_; rintro e w1 ⟨c, q, rfl, h1, hb1⟩; have HO := Lib.hid h1; have HB1 := Lib.hid hb1; clear h1 hb1)
  have HGV := Lib.hid ((give_any q c O w1 HO.out (by omega)).mono (R' := fun e w' => ∃ c q, e = .returned (.slice q O.length c) ∧ LoadsAt w' q O ∧ Adds w1 w') (by
    rintro e w' ⟨c, q, rfl, h1, h2⟩
    exact ⟨c, q, rfl, h1.at, h2⟩))
  clear HSM
  go_upto_region 3 with (go_at_call 5; refine HGV.out.mono ?_; rintro e w2 ⟨c2, q2, rfl, h1, hb2⟩; have HX := Lib.hid h1; have HB0 := Lib.hid (HB1.out.trans hb2); have HB2 := Lib.hid hb2; clear h1 hb2)
  have hOm : O.length ≤ maxLen := by unfold maxLen; omega
  have hrc := RCheck_any q c O w2 (HO.out.later HB2.out) hOm
  have hck := fun W (hW : Adds w2 W) => Check_any q2 c2 O W hOm (HX.out.later hW)
  obtain ⟨n, hn⟩ : ∃ n, n = O.length := ⟨_, rfl⟩
  obtain ⟨z, hz⟩ : ∃ z, z = checkL O := ⟨_, rfl⟩
  rw [← hn, ← hz] at hrc
  rw [← hn, ← hz] at hck
  rw [← hn]
  have HRC := Lib.hid hrc
  have HCK := Lib.hid hck
  have gzz : (z != z) = false := by simp
  have HZ := Lib.hid hz
  have HNN := Lib.hid hn
  clear hrc hck HGV hz hn
  go_upto_region 6 with (first
    | (go_at_call 6; refine HRC.out.mono ?_; rintro e w3 ⟨rfl, hb3⟩; have HA2 := Lib.hid hb3; clear hb3)
    | (go_at_call 7; refine (HCK.out _ HA2.out).mono ?_; rintro e w4 ⟨rfl, hb4⟩; have HA3 := Lib.hid (HA2.out.trans hb4); clear hb4))
  clear HRC HCK
  by_cases h0 : z = 0
  · by_cases hk : 1 ≤ k ∧ k ≤ 64
    · have HKV : Hid (∀ W : World, Calls Tryz.prog 8 #[.int .i64 k] W fun e w' => e = .returned (.bool true) ∧ W = w') := Lib.hid (fun W => by
        have h := rkilns_any (k := k) (w := W)
        rw [decide_eq_true hk] at h
        exact h)
      subst h0
      clear hk
      go_wp2_with (first
        | (go_at_call 8; refine (HKV.out _).mono ?_; rintro e w5 ⟨rfl, rfl⟩)
        | (go_at_call 9; refine (awake_any _).mono ?_; rintro e w16 ⟨rfl, hb16⟩))
      go_ret
      exact ⟨rfl, HB0.out.trans (HA3.out.trans hb16)⟩
    have HKV : Hid (∀ W : World, Calls Tryz.prog 8 #[.int .i64 k] W fun e w' => e = .returned (.bool false) ∧ W = w') := Lib.hid (fun W => by
      have h := rkilns_any (k := k) (w := W)
      rw [decide_eq_false hk] at h
      exact h)
    have hz := HZ.out
    have hn := HNN.out
    have hD : checkK O k = 1 := by
      unfold checkK
      rw [← hz, if_pos h0, if_neg hk]
    have hne : checkK O k ≠ 0 := by rw [hD]; decide
    subst h0
    clear hz hk
    have HF : Hid (∀ W, Adds w2 W → Calls Tryz.prog 10 #[.slice q2 n c2, .int .i64 k] W fun e w' => e = .returned (.tuple #[.bool false, .int .i64 1]) ∧ Adds W w') := Lib.hid (fun W hW => by
      have h := (Fits_any q2 c2 O k W hOm (HX.out.later hW)).mono (R' := fun e w' => e = .returned (.tuple #[.bool false, .int .i64 1]) ∧ Adds W w') (by
        rintro e w' ⟨v, rfl, h1, _, h2⟩
        rw [h1 hne, hD]
        exact ⟨rfl, h2⟩)
      rw [← hn] at h
      exact h)
    have HP : Hid (∀ W, Adds w2 W → Calls Tryz.prog 11 #[.slice q2 n c2, .int .i64 k] W fun e w' => e = .returned (.tuple #[nilV, .int .i64 1]) ∧ Adds W w') := Lib.hid (fun W hW => by
      have h := (Plan_any q2 c2 O k W hOm (HX.out.later hW)).mono (R' := fun e w' => e = .returned (.tuple #[nilV, .int .i64 1]) ∧ Adds W w') (by
        rintro e w' ⟨u, P, cc, rfl, _, h2, h3, _⟩
        obtain ⟨rfl, rfl⟩ := h3 hne
        rw [hD]
        exact ⟨rfl, h2⟩)
      rw [← hn] at h
      exact h)
    have HR : Hid (∀ W, Adds w2 W → Calls Tryz.prog 12 #[.slice q2 n c2, .int .i64 k] W fun e w' => e = .returned (.tuple #[.agg #[nilV, nilV], .bool false]) ∧ Adds W w') := Lib.hid (fun W hW => by
      have h := (Proof_any q2 c2 O k W hOm (HX.out.later hW)).mono (R' := fun e w' => e = .returned (.tuple #[.agg #[nilV, nilV], .bool false]) ∧ Adds W w') (by
        rintro e w' ⟨v1, v2, ok, rfl, h1, h2, _⟩
        obtain ⟨rfl, rfl, rfl⟩ := h2 hne
        exact ⟨rfl, h1⟩)
      rw [← hn] at h
      exact h)
    have HDE : Hid (∀ W, Adds w2 W → Calls Tryz.prog 13 #[.slice q2 n c2, .int .i64 k] W fun e w' => e = .returned (.tuple #[.int .i64 0, .int .i64 1]) ∧ Adds W w') := Lib.hid (fun W hW => by
      have h := delay_bad (cl := c2) hOm (HX.out.later hW) hne
      rw [← hn, hD] at h
      exact h)
    have HE : Hid (∀ W, Adds w2 W → Calls Tryz.prog 14 #[.slice q2 n c2, .int .i64 k] W fun e w' => e = .returned (.tuple #[nilV, .int .i64 1]) ∧ Adds W w') := Lib.hid (fun W hW => by
      have h := early_bad (cl := c2) hOm (HX.out.later hW) hne
      rw [← hn, hD] at h
      exact h)
    have HB : Hid (∀ W, Adds w2 W → Calls Tryz.prog 15 #[.slice q2 n c2, .int .i64 k] W fun e w' => e = .returned (.tuple #[nilV, .int .i64 0, .int .i64 1]) ∧ Adds W w') := Lib.hid (fun W hW => by
      have h := best_bad (cl := c2) hOm (HX.out.later hW) hne
      rw [← hn, hD] at h
      exact h)
    have HI : Hid (∀ W, Adds w2 W → Calls Tryz.prog 16 #[.slice q2 n c2, .int .i64 k, .slice none 0 0] W fun e w' => e = .returned (.bool false) ∧ Adds W w') := Lib.hid (fun W hW => by
      have h := isplan_bad (cl := c2) (.slice none 0 0) hOm (HX.out.later hW) hne
      rw [← hn] at h
      exact h)
    have HV : Hid (∀ W, Adds w2 W → Calls Tryz.prog 17 #[.slice q2 n c2, .int .i64 k, .agg #[.slice none 0 0, .slice none 0 0]] W fun e w' => e = .returned (.bool false) ∧ Adds W w') := Lib.hid (fun W hW => by
      have h := proves_bad (cl := c2) (.slice none 0 0) (.slice none 0 0) hOm (HX.out.later hW) hne
      rw [← hn] at h
      exact h)
    skip
    clear hne hD hn
    go_upto_region 12 with (first | (go_at_call 8; refine (HKV.out _).mono ?_; rintro e w5 ⟨rfl, rfl⟩) | (go_at_call 10; refine (HF.out _ HA3.out).mono ?_; rintro e w5 ⟨rfl, hb5⟩; have HA5 := Lib.hid (HA3.out.trans hb5); clear hb5))
    go_upto_region 13 with (go_at_call 11; refine (HP.out _ HA5.out).mono ?_; rintro e w6 ⟨rfl, hb6⟩; have HA6 := Lib.hid (HA5.out.trans hb6); clear hb6)
    go_upto_region 14 with (go_at_call 12; refine (HR.out _ HA6.out).mono ?_; rintro e w7 ⟨rfl, hb7⟩; have HA7 := Lib.hid (HA6.out.trans hb7); clear hb7)
    obtain ⟨xb, hxb⟩ : ∃ b, b = w7.heap.size := ⟨_, rfl⟩
    obtain ⟨W8, hW8⟩ : ∃ V, V = w7.alloc (.cells #[nilV, nilV] 39) := ⟨_, rfl⟩
    rw [← hW8, ← hxb]
    have HBX : Hid (Box W8 xb #[nilV, nilV] 39) := Lib.hid (by rw [hW8, hxb]; exact Box.new _ _ _)
    have HA8 : Hid (Adds w2 W8) := Lib.hid (by rw [hW8]; exact HA7.out.alloc _)
    clear hW8 hxb
    go_upto_region 15 with (go_at_call 13; refine (HDE.out _ HA8.out).mono ?_; rintro e w9 ⟨rfl, hb9⟩; have HA9 := Lib.hid (HA8.out.trans hb9); have HX9 := Lib.hid (HBX.out.later hb9); clear hb9)
    go_upto_region 16 with (go_at_call 14; refine (HE.out _ HA9.out).mono ?_; rintro e w10 ⟨rfl, hb10⟩; have HA10 := Lib.hid (HA9.out.trans hb10); have HX10 := Lib.hid (HX9.out.later hb10); clear hb10)
    go_wp2_with (first
      | (go_at_call 15; refine (HB.out _ HA10.out).mono ?_; rintro e w11 ⟨rfl, hb11⟩; have HA11 := Lib.hid (HA10.out.trans hb11); have cc0 : w11.cell? ⟨xb, 0, none⟩ = some nilV := (HX10.out.later hb11).cell 0; have cc1 : w11.cell? ⟨xb, 1, none⟩ = some nilV := (HX10.out.later hb11).cell 1; clear hb11)
      | (go_at_call 16; refine (HI.out _ HA11.out).mono ?_; rintro e w12 ⟨rfl, hb12⟩; have HA12 := Lib.hid (HA11.out.trans hb12); clear hb12)
      | (go_at_call 17; refine (HV.out _ HA12.out).mono ?_; rintro e w13 ⟨rfl, hb13⟩; have HA13 := Lib.hid (HA12.out.trans hb13); clear hb13)
      | (go_at_call 9; refine (awake_any _).mono ?_; rintro e w16 ⟨rfl, hb16⟩))
    go_ret
    exact ⟨rfl, HB0.out.trans (HA13.out.trans hb16)⟩
  · have hz := HZ.out
    have hn := HNN.out
    have hne0 : checkL O ≠ 0 := by rw [← hz]; exact h0
    have hD : checkK O k = z := by
      unfold checkK
      rw [if_neg hne0, hz]
    have hne : checkK O k ≠ 0 := by rw [hD]; exact h0
    have gz0 : (z != 0) = true := by simp [bne, h0]
    have gz1 : (z == 0) = false := beq_eq_false_iff_ne.2 h0
    have gz2 : (z == z) = true := by simp
    have HF : Hid (∀ W, Adds w2 W → Calls Tryz.prog 10 #[.slice q2 n c2, .int .i64 k] W fun e w' => e = .returned (.tuple #[.bool false, .int .i64 z]) ∧ Adds W w') := Lib.hid (fun W hW => by
      have h := (Fits_any q2 c2 O k W hOm (HX.out.later hW)).mono (R' := fun e w' => e = .returned (.tuple #[.bool false, .int .i64 z]) ∧ Adds W w') (by
        rintro e w' ⟨v, rfl, h1, _, h2⟩
        rw [h1 hne, hD]
        exact ⟨rfl, h2⟩)
      rw [← hn] at h
      exact h)
    have HP : Hid (∀ W, Adds w2 W → Calls Tryz.prog 11 #[.slice q2 n c2, .int .i64 k] W fun e w' => e = .returned (.tuple #[nilV, .int .i64 z]) ∧ Adds W w') := Lib.hid (fun W hW => by
      have h := (Plan_any q2 c2 O k W hOm (HX.out.later hW)).mono (R' := fun e w' => e = .returned (.tuple #[nilV, .int .i64 z]) ∧ Adds W w') (by
        rintro e w' ⟨u, P, cc, rfl, _, h2, h3, _⟩
        obtain ⟨rfl, rfl⟩ := h3 hne
        rw [hD]
        exact ⟨rfl, h2⟩)
      rw [← hn] at h
      exact h)
    have HR : Hid (∀ W, Adds w2 W → Calls Tryz.prog 12 #[.slice q2 n c2, .int .i64 k] W fun e w' => e = .returned (.tuple #[.agg #[nilV, nilV], .bool false]) ∧ Adds W w') := Lib.hid (fun W hW => by
      have h := (Proof_any q2 c2 O k W hOm (HX.out.later hW)).mono (R' := fun e w' => e = .returned (.tuple #[.agg #[nilV, nilV], .bool false]) ∧ Adds W w') (by
        rintro e w' ⟨v1, v2, ok, rfl, h1, h2, _⟩
        obtain ⟨rfl, rfl, rfl⟩ := h2 hne
        exact ⟨rfl, h1⟩)
      rw [← hn] at h
      exact h)
    have HDE : Hid (∀ W, Adds w2 W → Calls Tryz.prog 13 #[.slice q2 n c2, .int .i64 k] W fun e w' => e = .returned (.tuple #[.int .i64 0, .int .i64 z]) ∧ Adds W w') := Lib.hid (fun W hW => by
      have h := delay_bad (cl := c2) hOm (HX.out.later hW) hne
      rw [← hn, hD] at h
      exact h)
    have HE : Hid (∀ W, Adds w2 W → Calls Tryz.prog 14 #[.slice q2 n c2, .int .i64 k] W fun e w' => e = .returned (.tuple #[nilV, .int .i64 z]) ∧ Adds W w') := Lib.hid (fun W hW => by
      have h := early_bad (cl := c2) hOm (HX.out.later hW) hne
      rw [← hn, hD] at h
      exact h)
    have HB : Hid (∀ W, Adds w2 W → Calls Tryz.prog 15 #[.slice q2 n c2, .int .i64 k] W fun e w' => e = .returned (.tuple #[nilV, .int .i64 0, .int .i64 z]) ∧ Adds W w') := Lib.hid (fun W hW => by
      have h := best_bad (cl := c2) hOm (HX.out.later hW) hne
      rw [← hn, hD] at h
      exact h)
    have HI : Hid (∀ W, Adds w2 W → Calls Tryz.prog 16 #[.slice q2 n c2, .int .i64 k, .slice none 0 0] W fun e w' => e = .returned (.bool false) ∧ Adds W w') := Lib.hid (fun W hW => by
      have h := isplan_bad (cl := c2) (.slice none 0 0) hOm (HX.out.later hW) hne
      rw [← hn] at h
      exact h)
    have HV : Hid (∀ W, Adds w2 W → Calls Tryz.prog 17 #[.slice q2 n c2, .int .i64 k, .agg #[.slice none 0 0, .slice none 0 0]] W fun e w' => e = .returned (.bool false) ∧ Adds W w') := Lib.hid (fun W hW => by
      have h := proves_bad (cl := c2) (.slice none 0 0) (.slice none 0 0) hOm (HX.out.later hW) hne
      rw [← hn] at h
      exact h)
    have HKI : Hid (∀ W, Adds w2 W → Calls Tryz.prog 18 #[.slice q2 n c2] W fun e w' => e = .returned (.tuple #[.int .i64 0, .int .i64 z]) ∧ Adds W w') := Lib.hid (fun W hW => by
      have h := (Kilns_any q2 c2 O W hOm (HX.out.later hW)).mono (R' := fun e w' => e = .returned (.tuple #[.int .i64 0, .int .i64 z]) ∧ Adds W w') (by
        rintro e w' ⟨r, rfl, h1, _, h2⟩
        rw [h1 hne0, ← hz]
        exact ⟨rfl, h2⟩)
      rw [← hn] at h
      exact h)
    have HBU : Hid (∀ W, Adds w2 W → Calls Tryz.prog 19 #[.slice q2 n c2] W fun e w' => e = .returned (.tuple #[nilV, .int .i64 z]) ∧ Adds W w') := Lib.hid (fun W hW => by
      have h := busy_bad (cl := c2) hOm (HX.out.later hW) hne0
      rw [← hn, ← hz] at h
      exact h)
    clear hne0 hz h0
    clear hne hD hn
    go_upto_region 12 with (go_at_call 10; refine (HF.out _ HA3.out).mono ?_; rintro e w5 ⟨rfl, hb5⟩; have HA5 := Lib.hid (HA3.out.trans hb5); clear hb5)
    go_upto_region 13 with (go_at_call 11; refine (HP.out _ HA5.out).mono ?_; rintro e w6 ⟨rfl, hb6⟩; have HA6 := Lib.hid (HA5.out.trans hb6); clear hb6)
    go_upto_region 14 with (go_at_call 12; refine (HR.out _ HA6.out).mono ?_; rintro e w7 ⟨rfl, hb7⟩; have HA7 := Lib.hid (HA6.out.trans hb7); clear hb7)
    obtain ⟨xb, hxb⟩ : ∃ b, b = w7.heap.size := ⟨_, rfl⟩
    obtain ⟨W8, hW8⟩ : ∃ V, V = w7.alloc (.cells #[nilV, nilV] 39) := ⟨_, rfl⟩
    rw [← hW8, ← hxb]
    have HBX : Hid (Box W8 xb #[nilV, nilV] 39) := Lib.hid (by rw [hW8, hxb]; exact Box.new _ _ _)
    have HA8 : Hid (Adds w2 W8) := Lib.hid (by rw [hW8]; exact HA7.out.alloc _)
    clear hW8 hxb
    go_upto_region 15 with (go_at_call 13; refine (HDE.out _ HA8.out).mono ?_; rintro e w9 ⟨rfl, hb9⟩; have HA9 := Lib.hid (HA8.out.trans hb9); have HX9 := Lib.hid (HBX.out.later hb9); clear hb9)
    go_upto_region 16 with (go_at_call 14; refine (HE.out _ HA9.out).mono ?_; rintro e w10 ⟨rfl, hb10⟩; have HA10 := Lib.hid (HA9.out.trans hb10); have HX10 := Lib.hid (HX9.out.later hb10); clear hb10)
    go_wp2_with (first
      | (go_at_call 15; refine (HB.out _ HA10.out).mono ?_; rintro e w11 ⟨rfl, hb11⟩; have HA11 := Lib.hid (HA10.out.trans hb11); have cc0 : w11.cell? ⟨xb, 0, none⟩ = some nilV := (HX10.out.later hb11).cell 0; have cc1 : w11.cell? ⟨xb, 1, none⟩ = some nilV := (HX10.out.later hb11).cell 1; clear hb11)
      | (go_at_call 16; refine (HI.out _ HA11.out).mono ?_; rintro e w12 ⟨rfl, hb12⟩; have HA12 := Lib.hid (HA11.out.trans hb12); clear hb12)
      | (go_at_call 17; refine (HV.out _ HA12.out).mono ?_; rintro e w13 ⟨rfl, hb13⟩; have HA13 := Lib.hid (HA12.out.trans hb13); clear hb13)
      | (go_at_call 18; refine (HKI.out _ HA13.out).mono ?_; rintro e w14 ⟨rfl, hb14⟩; have HA14 := Lib.hid (HA13.out.trans hb14); clear hb14)
      | (go_at_call 19; refine (HBU.out _ HA14.out).mono ?_; rintro e w15 ⟨rfl, hb15⟩; have HA15 := Lib.hid (HA14.out.trans hb15); clear hb15)
      | (go_at_call 9; refine (awake_any _).mono ?_; rintro e w16 ⟨rfl, hb16⟩))
    go_ret
    exact ⟨rfl, HB0.out.trans (HA15.out.trans hb16)⟩

end Go.Proofs.YtkofnhimgegcnaaGreat
