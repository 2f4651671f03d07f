/- CallPrices' walk. -/
import Derived.Test.YtigpghmbeldakaaAQ
import Derived.Test.YtigpghmbeldakaaAN
namespace Go.Proofs.Ytigpghmbeldakaa
open Go.RowKit

theorem price_bad {l : List Bd} {ref p er : Int} (h0 : checkT l = 0) (h : PriceRes l ref p er) (hr : ¬ (1 ≤ ref ∧ ref ≤ 1000000)) : p = 0 ∧ er = 1 :=
  h.arg h0 (by cases hh : inB 1000000 ref with
    | true => exact absurd (inB_iff.1 hh) hr
    | false => rfl)
theorem price_same {l : List Bd} {ref p er x : Int} (h0 : checkT l = 0) (h : PriceRes l ref p er) (hr : 1 ≤ ref ∧ ref ≤ 1000000)
    (hx : (x = 0 ∧ ∀ y, InR y → volAt l y ≤ 0) ∨ (PriceAt l ref x ∧ 0 < volAt l x)) : (x = 0 ∧ p = 0 ∧ er = 30) ∨ (0 < x ∧ p = x ∧ er = 0) := by
  have hin : inB 1000000 ref = true := inB_iff.2 hr
  by_cases hz : er = 0
  · obtain ⟨a1, a2⟩ := h.some h0 hin hz
    rcases hx with ⟨_, h2⟩ | ⟨h1, _⟩
    · have := h2 p a1.few.1.1
      omega
    · have := a1.unique h1
      have := h1.few.1.1.1
      exact .inr ⟨by omega, by omega, hz⟩
  · obtain ⟨a1, a2, a3⟩ := h.none h0 hin hz
    rcases hx with ⟨h1, _⟩ | ⟨h1, h2⟩
    · exact .inl ⟨h1, a1, a2⟩
    · have := a3 x h1.few.1.1
      omega

set_option maxRecDepth 100000 in
set_option maxHeartbeats 4000000 in
theorem prices_any (p : Option Addr) (cap : Nat) (l : List Bd) (x0 : Int) (w : World) (hcap : l.length ≤ cap) (hcm : cap ≤ maxLen) (hp : p = none → cap = 0) (hL : At3 w p l) :
    Calls Try.prog 5 #[.slice p l.length cap, .int .i64 x0] w fun e w' => e = .returned (.bool true) ∧ Adds w w' := by
  have htame := tame_any p cap l 40 w hcap hcm hp (by omega) hL
  obtain ⟨L, hLd⟩ : ∃ L, L = tameL l 40 := ⟨_, rfl⟩
  have hok : ∀ b ∈ L, okB b = true := by rw [hLd]; exact tameL_ok l 40
  have hLn : L.length ≤ 40 := by rw [hLd, tameL_len]; omega
  rw [← hLd] at htame
  have hck0 : checkT L = 0 := check_zero.2 ⟨by omega, hok⟩
  obtain ⟨n, hn⟩ : ∃ n, n = L.length := ⟨_, rfl⟩
  have HN := Lib.hid hn
  have HCK := Lib.hid hck0
  have hgv : Hid (∀ q qc W, At3 W q L → Calls Try.prog 16 #[.slice q n qc] W (OwnGot 75 L W)) := Lib.hid (fun q qc W hW => by rw [hn]; exact give_any q qc L W (by omega) hW)
  have hpr : Hid (∀ q qc x W, At3 W q L → Calls Try.prog 21 #[.slice q n qc, .int .i64 x] W (PriceGot L x W)) := Lib.hid (fun q qc x W hW => by rw [hn]; exact Price_any q qc L x W (by unfold maxLen; omega) hW)
  have hrp : Hid (∀ q qc x W, 1 ≤ x ∧ x ≤ 1000000 → At3 W q L → Calls Try.prog 29 #[.slice q n qc, .int .i64 x] W (RPriceGot L x W)) := Lib.hid (fun q qc x W hx hW => by rw [hn]; exact RPrice_any q qc L x W (by omega) hW hok hx)
  have HTM := Lib.hid htame
  generalize l.length = N1 at *
  clear htame hLd hok hLn hck0 hn hL hcap hcm hp
  go_enter Try.func5, Try.ntmps5
  go_wp2_with (first
    | (go_at_call 26; refine HTM.out.mono ?_; rintro e w1 ⟨v5, rfl, hro, hb1⟩; obtain ⟨p5, c5, rfl, ha5, _⟩ := own_at3 hro; have HB1 := Lib.hid hb1; have HA5 := Lib.hid ha5; rw [← HN.out]; clear hro ha5 hb1)
    | (go_at_call 16; refine (hgv.out _ _ _ HA5.out).mono ?_; rintro e w2 ⟨v6, rfl, hro, hb2⟩; obtain ⟨p6, c6, rfl, ha6, _⟩ := own_at3 hro; have HB2 := Lib.hid (HB1.out.trans hb2); have HA6 := Lib.hid ha6; have HA5' := Lib.hid (HA5.out.later hb2); rw [← HN.out]; clear hro ha6 hb2))
  clear HTM
  go_loopw [1, 7] (fun x i wr => ∃ (k : Nat) (x' : Int), k ≤ 2 ∧ i = .int .i64 k ∧ x = .int .i64 x' ∧ Adds w2 wr) (fun _ i _ => 2 - (intOf i).toNat)
  case atStart => exact ⟨0, x0, by omega, rfl, rfl, Adds.refl w2⟩
  case round =>
    obtain ⟨k, x, hk, rfl, rfl, hb⟩ := hrel
    have HB := Lib.hid hb
    have H5 := Lib.hid (HA5'.out.later hb)
    have H6 := Lib.hid (HA6.out.later hb)
    clear hb
    by_cases hlt : k < 2
    · by_cases hin : 1 ≤ x ∧ x ≤ 1000000
      · have HIN := Lib.hid hin
        have hx1 : ¬ (x < 1) := by omega
        have hx2 : ¬ (1000000 < x) := by omega
        clear hin
        go_upto_region 9 with (first
          | (go_at_call 21; refine (hpr.out _ _ _ _ H6.out).mono ?_; rintro e y1 ⟨pr, er, hres, rfl, hb⟩; have Y1 := Lib.hid hb; have HRES := Lib.hid hres; clear hb hres)
          | (go_at_call 29; refine (hrp.out _ _ _ _ HIN.out (H5.out.later Y1.out)).mono ?_; rintro e y2 ⟨want, rfl, hw, hb⟩; have Y2 := Lib.hid (Y1.out.trans hb); have HW := Lib.hid hw; clear hw hb))
        rcases price_same HCK.out HRES.out HIN.out HW.out with ⟨rfl, rfl, rfl⟩ | ⟨hpos, rfl, rfl⟩
        · go_wp2
          refine ⟨⟨k + 1, _, by omega, by go_num, rfl, HB.out.trans Y2.out⟩, by simp [intOf]; omega⟩
        · have hne : (pr == 0) = false := beq_eq_false_iff_ne.2 (by omega)
          have hne2 : ¬ (pr = 0) := by omega
          go_wp2
          refine ⟨⟨k + 1, _, by omega, by go_num, rfl, HB.out.trans Y2.out⟩, by simp [intOf]; omega⟩
      · have HIN := Lib.hid hin
        by_cases hx1 : x < 1
        · go_wp2_with (go_at_call 21; refine (hpr.out _ _ _ _ H6.out).mono ?_; rintro e y1 ⟨pr, er, hres, rfl, hb⟩; have Y1 := Lib.hid hb; obtain ⟨rfl, rfl⟩ := price_bad HCK.out hres HIN.out; clear hb hres)
          refine ⟨⟨k + 1, _, by omega, by go_num, rfl, HB.out.trans Y1.out⟩, by simp [intOf]; omega⟩
        · have hx2 : 1000000 < x := by omega
          go_wp2_with (go_at_call 21; refine (hpr.out _ _ _ _ H6.out).mono ?_; rintro e y1 ⟨pr, er, hres, rfl, hb⟩; have Y1 := Lib.hid hb; obtain ⟨rfl, rfl⟩ := price_bad HCK.out hres HIN.out; clear hb hres)
          refine ⟨⟨k + 1, _, by omega, by go_num, rfl, HB.out.trans Y1.out⟩, by simp [intOf]; omega⟩
    · have hk2 : k = 2 := by omega
      subst hk2
      go_wp2_with (go_at_call 18; refine (awake_any _).mono ?_; rintro e w5 ⟨rfl, hb⟩; have HB5 := Lib.hid hb; clear hb)
      go_ret
      exact ⟨rfl, (HB2.out.trans HB.out).trans HB5.out⟩

end Go.Proofs.Ytigpghmbeldakaa
