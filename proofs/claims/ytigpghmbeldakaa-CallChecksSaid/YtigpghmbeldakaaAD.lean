/- CallChecks: the walk. -/
import Derived.Test.YtigpghmbeldakaaAC
namespace Go.Proofs.Ytigpghmbeldakaa
open Go.RowKit

section
variable {l : List Bd} {c : Int} (hc : checkT l = c) (h : c ≠ 0) (p : Option Addr) (cap : Nat) (w : World) (hN : l.length ≤ maxLen) (hL : At3 w p l)
include hc h hN hL
theorem At_bad (x : Int) : Calls Try.prog 19 #[.slice p l.length cap, .int .i64 x] w fun e w' => e = .returned (.tuple #[.int .i64 0, .int .i64 0, .int .i64 c]) ∧ Adds w w' :=
  (At_any p cap l x w hN hL).mono fun e w' ⟨he, hb⟩ => by
    have e1 : atT l x = (0, 0, c) := by unfold atT; rw [hc, if_pos h]
    rw [e1] at he
    exact ⟨he, hb⟩
theorem Best_bad : Calls Try.prog 20 #[.slice p l.length cap] w fun e w' => e = .returned (.tuple #[.int .i64 0, .int .i64 0, .int .i64 0, .int .i64 c]) ∧ Adds w w' :=
  (Best_any p cap l w hN hL).mono fun e w' ⟨lo, hi, v, er, hr, he, hb⟩ => by
    obtain ⟨rfl, rfl, rfl, rfl⟩ := hr.bad (by rw [hc]; exact h)
    rw [hc] at he
    exact ⟨he, hb⟩
theorem Price_bad (x : Int) : Calls Try.prog 21 #[.slice p l.length cap, .int .i64 x] w fun e w' => e = .returned (.tuple #[.int .i64 0, .int .i64 c]) ∧ Adds w w' :=
  (Price_any p cap l x w hN hL).mono fun e w' ⟨px, er, hr, he, hb⟩ => by
    obtain ⟨rfl, rfl⟩ := hr.bad (by rw [hc]; exact h)
    rw [hc] at he
    exact ⟨he, hb⟩
theorem Clear_bad (x rule : Int) : Calls Try.prog 22 #[.slice p l.length cap, .int .i64 x, .int .i64 rule] w fun e w' => e = .returned (.tuple #[.agg #[.int .i64 0, .int .i64 0, .int .i64 0, .slice none 0 0], .int .i64 c]) ∧ Adds w w' :=
  (Clear_any 19 stable19 turnT x rule l (fun h0 => absurd (hc.symm.trans h0) h) turn_share p cap w hN (fun h0 => absurd (hc.symm.trans h0) h) hL).mono fun e w' ⟨px, v, sr, fv, er, hr, he, hb⟩ => by
    obtain ⟨rfl, rfl, rfl, rfl, rfl⟩ := hr.bad (by rw [hc]; exact h)
    rw [hc] at he
    exact ⟨he, hb⟩
theorem ClearAt_bad (x rule : Int) : Calls Try.prog 23 #[.slice p l.length cap, .int .i64 x, .int .i64 rule] w fun e w' => e = .returned (.tuple #[.agg #[.int .i64 0, .int .i64 0, .int .i64 0, .slice none 0 0], .int .i64 c]) ∧ Adds w w' :=
  (ClearAt_any 19 stable19 turnT x rule l (fun h0 => absurd (hc.symm.trans h0) h) turn_share p cap w hN (fun h0 => absurd (hc.symm.trans h0) h) hL).mono fun e w' ⟨px, v, sr, fv, er, hr, he, hb⟩ => by
    obtain ⟨rfl, rfl, rfl, rfl, rfl⟩ := hr.bad (by rw [hc]; exact h)
    rw [hc] at he
    exact ⟨he, hb⟩
theorem Gain_bad : Calls Try.prog 24 #[.slice p l.length cap, .slice none 0 0] w fun e w' => e = .returned (.tuple #[.int .i64 0, .int .i64 c]) ∧ Adds w w' :=
  (Gain_any p cap l none 0 [] w hN (Nat.zero_le _) hL (fun i x hx => by simp at hx)).mono fun e w' ⟨he, hb⟩ => by
    have e1 : gainR l [] = (0, c) := by unfold gainR; rw [hc, if_pos h]
    rw [e1] at he
    exact ⟨he, hb⟩
end

/-- The rest of the law, from the copy of the bids on. -/
theorem len_ok {l : List Bd} (h : l.length ≤ 5000) : l.length ≤ maxLen := by unfold maxLen; omega

set_option maxRecDepth 100000 in
set_option maxHeartbeats 1500000 in
theorem checks_any (p : Option Addr) (cap : Nat) (l : List Bd) (x : Int) (w : World) (hcap : l.length ≤ cap) (hcm : cap ≤ maxLen) (hp : p = none → cap = 0) (hL : At3 w p l) :
    Calls Try.prog 3 #[.slice p l.length cap, .int .i64 x] w fun e w' => e = .returned (.bool true) ∧ Adds w w' := by
  have h60 : Calls Try.prog 14 #[.slice p l.length cap, .int .i64 60] w (OwnGot 61 (l.take 60) w) := some_any p cap l 60 w hcap hcm hp (by omega) hL
  have hbig : ∀ W, Adds w W → Calls Try.prog 14 #[.slice p l.length cap, .int .i64 4097] W (OwnGot 61 (l.take 4097) W) := fun W hW => some_any p cap l 4097 W hcap hcm hp (by omega) (hL.later hW)
  have hlm := Nat.le_trans hcap hcm
  unfold maxLen at hlm
  obtain ⟨own, hown⟩ : ∃ own : List Bd, own = if 4096 < l.length then l.take 4097 else l.take 60 := ⟨_, rfl⟩
  have hol : own.length ≤ 5000 := by rw [hown]; split <;> (rw [List.length_take]; omega)
  obtain ⟨c, hc⟩ : ∃ c, checkT own = c := ⟨_, rfl⟩
  have HC := Lib.hid hc
  have HOL := Lib.hid hol
  have HBIG := Lib.hid hbig
  have hrck : Hid (∀ q qc W, At3 W q own → Calls Try.prog 15 #[.slice q own.length qc] W fun e w' => e = .returned (.int .i64 c) ∧ Adds W w') := Lib.hid (fun q qc W hW => by rw [← hc]; exact RCheck_any q qc own W (by omega) hW)
  have hck : Hid (∀ q qc W, At3 W q own → Calls Try.prog 17 #[.slice q own.length qc] W fun e w' => e = .returned (.int .i64 c) ∧ Adds W w') := Lib.hid (fun q qc W hW => by rw [← hc]; exact Check_any q qc own W (len_ok hol) hW)
  have hgv : Hid (∀ q qc W, At3 W q own → Calls Try.prog 16 #[.slice q own.length qc] W (OwnGot 75 own W)) := Lib.hid (fun q qc W hW => give_any q qc own W hol hW)
  have hcc : (c == c) = true := beq_self_eq_true c
  have hcn : (c != c) = false := by simp
  by_cases hbg : 4096 < l.length
  · rw [if_pos hbg] at hown
    rw [← hown] at HBIG
    by_cases h0 : c = 0
    · skip
      subst h0
      clear hL hc hol hbig hown
      go_enter Try.func3, Try.ntmps3
      go_wp2_with fail
      refine h60.mono ?_
      rintro e w0 ⟨v, rfl, ho, hb⟩
      have HB0 := Lib.hid hb
      clear ho hb
      go_wp2_with fail
      refine (HBIG.out _ HB0.out).mono ?_
      rintro e w1 ⟨v, rfl, ho, hb⟩
      obtain ⟨q1, k1, rfl, ha1, _⟩ := own_at3 ho
      have HA1 := Lib.hid ha1
      have HB1 := Lib.hid (HB0.out.trans hb)
      clear ho ha1 hb
      go_wp2_with (first
        | (go_at_call 15; refine (hrck.out _ _ _ HA1.out).mono ?_; rintro e w2 ⟨rfl, hb⟩; have HB2 := Lib.hid (HB1.out.trans hb); have hb2 := Lib.hid hb; clear hb)
        | (go_at_call 16; refine (hgv.out _ _ _ (HA1.out.later hb2.out)).mono ?_; rintro e w3 ⟨v, rfl, ho, hb⟩; obtain ⟨q3, k3, rfl, ha3, _⟩ := own_at3 ho; have HA3 := Lib.hid ha3; have HB3 := Lib.hid (HB2.out.trans hb); clear ho ha3 hb)
        | (go_at_call 17; refine (hck.out _ _ _ HA3.out).mono ?_; rintro e w4 ⟨rfl, hb⟩; have HB4 := Lib.hid (HB3.out.trans hb); have HA4 := Lib.hid (HA3.out.later hb); clear hb)
        | (go_at_call 18; refine (awake_any _).mono ?_; rintro e w5 ⟨rfl, hb⟩; have HB5 := Lib.hid hb; clear hb))
      go_ret
      exact ⟨rfl, HB4.out.trans HB5.out⟩
    · skip
      have HNZ := Lib.hid h0
      have hcz : (c == 0) = false := beq_eq_false_iff_ne.2 h0
      clear hL hc hol hbig hown h0
      go_enter Try.func3, Try.ntmps3
      go_wp2_with fail
      refine h60.mono ?_
      rintro e w0 ⟨v, rfl, ho, hb⟩
      have HB0 := Lib.hid hb
      clear ho hb
      go_wp2_with fail
      refine (HBIG.out _ HB0.out).mono ?_
      rintro e w1 ⟨v, rfl, ho, hb⟩
      obtain ⟨q1, k1, rfl, ha1, _⟩ := own_at3 ho
      have HA1 := Lib.hid ha1
      have HB1 := Lib.hid (HB0.out.trans hb)
      clear ho ha1 hb
      go_wp2_with (first
        | (go_at_call 15; refine (hrck.out _ _ _ HA1.out).mono ?_; rintro e w2 ⟨rfl, hb⟩; have HB2 := Lib.hid (HB1.out.trans hb); have hb2 := Lib.hid hb; clear hb)
        | (go_at_call 16; refine (hgv.out _ _ _ (HA1.out.later hb2.out)).mono ?_; rintro e w3 ⟨v, rfl, ho, hb⟩; obtain ⟨q3, k3, rfl, ha3, _⟩ := own_at3 ho; have HA3 := Lib.hid ha3; have HB3 := Lib.hid (HB2.out.trans hb); clear ho ha3 hb)
        | (go_at_call 17; refine (hck.out _ _ _ HA3.out).mono ?_; rintro e w4 ⟨rfl, hb⟩; have HB4 := Lib.hid (HB3.out.trans hb); have HA4 := Lib.hid (HA3.out.later hb); clear hb)
        | (go_at_call 19; refine (At_bad HC.out HNZ.out _ _ _ (len_ok HOL.out) HA4.out x).mono ?_; rintro e w5 ⟨rfl, hb⟩; have HB5 := Lib.hid (HB4.out.trans hb); have HA5 := Lib.hid (HA4.out.later hb); clear hb)
        | (go_at_call 20; refine (Best_bad HC.out HNZ.out _ _ _ (len_ok HOL.out) HA5.out).mono ?_; rintro e w6 ⟨rfl, hb⟩; have HB6 := Lib.hid (HB5.out.trans hb); have HA6 := Lib.hid (HA5.out.later hb); clear hb)
        | (go_at_call 21; refine (Price_bad HC.out HNZ.out _ _ _ (len_ok HOL.out) HA6.out x).mono ?_; rintro e w7 ⟨rfl, hb⟩; have HB7 := Lib.hid (HB6.out.trans hb); have HA7 := Lib.hid (HA6.out.later hb); clear hb)
        | (go_at_call 22; refine (Clear_bad HC.out HNZ.out _ _ _ (len_ok HOL.out) HA7.out x 1).mono ?_; rintro e w8 ⟨rfl, hb⟩; have HB8 := Lib.hid (HB7.out.trans hb); have HA8 := Lib.hid (HA7.out.later hb); clear hb)
        | (go_at_call 23; refine (ClearAt_bad HC.out HNZ.out _ _ _ (len_ok HOL.out) (HA8.out.later ((Adds.refl w8).alloc _)) x 2).mono ?_; rintro e w9 ⟨rfl, hb⟩; have HB9 := Lib.hid ((HB8.out.alloc _).trans hb); have HA9 := Lib.hid ((HA8.out.later ((Adds.refl w8).alloc _)).later hb); have hb9 := Lib.hid hb; have X := (Box.new w8 #[.int .i64 0, .int .i64 0, .int .i64 0, .slice none 0 0] 38).later hb; have x0 := X.cell 0; have x1 := X.cell 1; have x2 := X.cell 2; have x3 := X.cell 3; simp only [List.getElem?_toArray, List.getElem?_cons_zero, List.getElem?_cons_succ] at x0 x1 x2 x3; have hx8 := X.lt; clear X hb)
        | (go_at_call 24; refine (Gain_bad HC.out HNZ.out _ _ _ (len_ok HOL.out) (HA9.out.later ((Adds.refl w9).alloc _))).mono ?_; rintro e w10 ⟨rfl, hb⟩; have HB10 := Lib.hid ((HB9.out.alloc _).trans hb); have Y := (Box.new w9 #[.int .i64 0, .int .i64 0, .int .i64 0, .slice none 0 0] 38).later hb; have y0 := Y.cell 0; have y1 := Y.cell 1; have y2 := Y.cell 2; have y3 := Y.cell 3; simp only [List.getElem?_toArray, List.getElem?_cons_zero, List.getElem?_cons_succ] at y0 y1 y2 y3; have z0 := keep_cell ((((Adds.refl w9).alloc (.cells #[.int .i64 0, .int .i64 0, .int .i64 0, .slice none 0 0] 38))).trans hb) x0; have z1 := keep_cell ((((Adds.refl w9).alloc (.cells #[.int .i64 0, .int .i64 0, .int .i64 0, .slice none 0 0] 38))).trans hb) x1; have z2 := keep_cell ((((Adds.refl w9).alloc (.cells #[.int .i64 0, .int .i64 0, .int .i64 0, .slice none 0 0] 38))).trans hb) x2; have z3 := keep_cell ((((Adds.refl w9).alloc (.cells #[.int .i64 0, .int .i64 0, .int .i64 0, .slice none 0 0] 38))).trans hb) x3; have hy9 := Y.lt; clear Y hb)
        | (go_at_call 25; refine (nothing_zero _).mono ?_; rintro e w11 ⟨rfl, hb⟩; (first | (have HB13 := Lib.hid (HB11.out.trans hb)) | (have HB11 := Lib.hid (HB10.out.trans hb); have u0 := keep_cell hb y0; have u1 := keep_cell hb y1; have u2 := keep_cell hb y2; have u3 := keep_cell hb y3)); clear hb)
        | (go_at_call 18; refine (awake_any _).mono ?_; rintro e w12 ⟨rfl, hb⟩; have HB12 := Lib.hid hb; clear hb))
      go_ret
      exact ⟨rfl, (by first | exact HB13.out.trans HB12.out | exact HB11.out.trans HB12.out | exact HB10.out.trans HB12.out)⟩
  · rw [if_neg hbg] at hown
    rw [← hown] at h60
    by_cases h0 : c = 0
    · skip
      subst h0
      clear hL hc hol hbig hown
      go_enter Try.func3, Try.ntmps3
      go_wp2_with fail
      refine h60.mono ?_
      rintro e w1 ⟨v, rfl, ho, hb⟩
      obtain ⟨q1, k1, rfl, ha1, _⟩ := own_at3 ho
      have HA1 := Lib.hid ha1
      have HB1 := Lib.hid hb
      clear ho ha1 hb
      go_wp2_with (first
        | (go_at_call 15; refine (hrck.out _ _ _ HA1.out).mono ?_; rintro e w2 ⟨rfl, hb⟩; have HB2 := Lib.hid (HB1.out.trans hb); have hb2 := Lib.hid hb; clear hb)
        | (go_at_call 16; refine (hgv.out _ _ _ (HA1.out.later hb2.out)).mono ?_; rintro e w3 ⟨v, rfl, ho, hb⟩; obtain ⟨q3, k3, rfl, ha3, _⟩ := own_at3 ho; have HA3 := Lib.hid ha3; have HB3 := Lib.hid (HB2.out.trans hb); clear ho ha3 hb)
        | (go_at_call 17; refine (hck.out _ _ _ HA3.out).mono ?_; rintro e w4 ⟨rfl, hb⟩; have HB4 := Lib.hid (HB3.out.trans hb); have HA4 := Lib.hid (HA3.out.later hb); clear hb)
        | (go_at_call 18; refine (awake_any _).mono ?_; rintro e w5 ⟨rfl, hb⟩; have HB5 := Lib.hid hb; clear hb))
      go_ret
      exact ⟨rfl, HB4.out.trans HB5.out⟩
    · skip
      have HNZ := Lib.hid h0
      have hcz : (c == 0) = false := beq_eq_false_iff_ne.2 h0
      clear hL hc hol hbig hown h0
      go_enter Try.func3, Try.ntmps3
      go_wp2_with fail
      refine h60.mono ?_
      rintro e w1 ⟨v, rfl, ho, hb⟩
      obtain ⟨q1, k1, rfl, ha1, _⟩ := own_at3 ho
      have HA1 := Lib.hid ha1
      have HB1 := Lib.hid hb
      clear ho ha1 hb
      go_wp2_with (first
        | (go_at_call 15; refine (hrck.out _ _ _ HA1.out).mono ?_; rintro e w2 ⟨rfl, hb⟩; have HB2 := Lib.hid (HB1.out.trans hb); have hb2 := Lib.hid hb; clear hb)
        | (go_at_call 16; refine (hgv.out _ _ _ (HA1.out.later hb2.out)).mono ?_; rintro e w3 ⟨v, rfl, ho, hb⟩; obtain ⟨q3, k3, rfl, ha3, _⟩ := own_at3 ho; have HA3 := Lib.hid ha3; have HB3 := Lib.hid (HB2.out.trans hb); clear ho ha3 hb)
        | (go_at_call 17; refine (hck.out _ _ _ HA3.out).mono ?_; rintro e w4 ⟨rfl, hb⟩; have HB4 := Lib.hid (HB3.out.trans hb); have HA4 := Lib.hid (HA3.out.later hb); clear hb)
        | (go_at_call 19; refine (At_bad HC.out HNZ.out _ _ _ (len_ok HOL.out) HA4.out x).mono ?_; rintro e w5 ⟨rfl, hb⟩; have HB5 := Lib.hid (HB4.out.trans hb); have HA5 := Lib.hid (HA4.out.later hb); clear hb)
        | (go_at_call 20; refine (Best_bad HC.out HNZ.out _ _ _ (len_ok HOL.out) HA5.out).mono ?_; rintro e w6 ⟨rfl, hb⟩; have HB6 := Lib.hid (HB5.out.trans hb); have HA6 := Lib.hid (HA5.out.later hb); clear hb)
        | (go_at_call 21; refine (Price_bad HC.out HNZ.out _ _ _ (len_ok HOL.out) HA6.out x).mono ?_; rintro e w7 ⟨rfl, hb⟩; have HB7 := Lib.hid (HB6.out.trans hb); have HA7 := Lib.hid (HA6.out.later hb); clear hb)
        | (go_at_call 22; refine (Clear_bad HC.out HNZ.out _ _ _ (len_ok HOL.out) HA7.out x 1).mono ?_; rintro e w8 ⟨rfl, hb⟩; have HB8 := Lib.hid (HB7.out.trans hb); have HA8 := Lib.hid (HA7.out.later hb); clear hb)
        | (go_at_call 23; refine (ClearAt_bad HC.out HNZ.out _ _ _ (len_ok HOL.out) (HA8.out.later ((Adds.refl w8).alloc _)) x 2).mono ?_; rintro e w9 ⟨rfl, hb⟩; have HB9 := Lib.hid ((HB8.out.alloc _).trans hb); have HA9 := Lib.hid ((HA8.out.later ((Adds.refl w8).alloc _)).later hb); have hb9 := Lib.hid hb; have X := (Box.new w8 #[.int .i64 0, .int .i64 0, .int .i64 0, .slice none 0 0] 38).later hb; have x0 := X.cell 0; have x1 := X.cell 1; have x2 := X.cell 2; have x3 := X.cell 3; simp only [List.getElem?_toArray, List.getElem?_cons_zero, List.getElem?_cons_succ] at x0 x1 x2 x3; have hx8 := X.lt; clear X hb)
        | (go_at_call 24; refine (Gain_bad HC.out HNZ.out _ _ _ (len_ok HOL.out) (HA9.out.later ((Adds.refl w9).alloc _))).mono ?_; rintro e w10 ⟨rfl, hb⟩; have HB10 := Lib.hid ((HB9.out.alloc _).trans hb); have Y := (Box.new w9 #[.int .i64 0, .int .i64 0, .int .i64 0, .slice none 0 0] 38).later hb; have y0 := Y.cell 0; have y1 := Y.cell 1; have y2 := Y.cell 2; have y3 := Y.cell 3; simp only [List.getElem?_toArray, List.getElem?_cons_zero, List.getElem?_cons_succ] at y0 y1 y2 y3; have z0 := keep_cell ((((Adds.refl w9).alloc (.cells #[.int .i64 0, .int .i64 0, .int .i64 0, .slice none 0 0] 38))).trans hb) x0; have z1 := keep_cell ((((Adds.refl w9).alloc (.cells #[.int .i64 0, .int .i64 0, .int .i64 0, .slice none 0 0] 38))).trans hb) x1; have z2 := keep_cell ((((Adds.refl w9).alloc (.cells #[.int .i64 0, .int .i64 0, .int .i64 0, .slice none 0 0] 38))).trans hb) x2; have z3 := keep_cell ((((Adds.refl w9).alloc (.cells #[.int .i64 0, .int .i64 0, .int .i64 0, .slice none 0 0] 38))).trans hb) x3; have hy9 := Y.lt; clear Y hb)
        | (go_at_call 25; refine (nothing_zero _).mono ?_; rintro e w11 ⟨rfl, hb⟩; (first | (have HB13 := Lib.hid (HB11.out.trans hb)) | (have HB11 := Lib.hid (HB10.out.trans hb); have u0 := keep_cell hb y0; have u1 := keep_cell hb y1; have u2 := keep_cell hb y2; have u3 := keep_cell hb y3)); clear hb)
        | (go_at_call 18; refine (awake_any _).mono ?_; rintro e w12 ⟨rfl, hb⟩; have HB12 := Lib.hid hb; clear hb))
      go_ret
      exact ⟨rfl, (by first | exact HB13.out.trans HB12.out | exact HB11.out.trans HB12.out | exact HB10.out.trans HB12.out)⟩

end Go.Proofs.Ytigpghmbeldakaa
