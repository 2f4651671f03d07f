/- CallCurves' walk. -/
import Derived.Test.YtigpghmbeldakaaAM
import Derived.Test.YtigpghmbeldakaaQ
namespace Go.Proofs.Ytigpghmbeldakaa
open Go.RowKit

theorem at_in {l : List Bd} {x : Int} (h0 : checkT l = 0) (h : 1 ≤ x ∧ x ≤ 1000000) : atT l x = (dem l x, sup l x, 0) := by
  unfold atT
  rw [if_neg (by simpa using h0), if_pos (inB_iff.2 h)]
theorem at_out {l : List Bd} {x : Int} (h0 : checkT l = 0) (h : ¬ (1 ≤ x ∧ x ≤ 1000000)) : atT l x = (0, 0, 1) := by
  unfold atT
  rw [if_neg (by simpa using h0), if_neg (fun k => h (inB_iff.1 k))]

/-- No trade: the two answers agree. -/
theorem best_none {l : List Bd} {lo hi v er : Int} (h0 : checkT l = 0) (h : BestRes l lo hi v er) {B : List Iv} (hB : IvBest l B) (he : B = []) : lo = 0 ∧ hi = 0 ∧ v = 0 ∧ er = 30 := by
  by_cases hz : er = 0
  · obtain ⟨a1, _, _, a4, a5⟩ := h.some h0 hz
    have := hB.none he lo a1.1
    omega
  · obtain ⟨a1, a2, a3, a4, _⟩ := h.none h0 hz
    exact ⟨a1, a2, a3, a4⟩
/-- Trade: the two answers agree. -/
theorem best_some {l : List Bd} {lo hi v er : Int} (h0 : checkT l = 0) (h : BestRes l lo hi v er) {B : List Iv} (hB : IvBest l B) {i j : Iv} (hi0 : B[0]? = some i) (hj0 : B[B.length - 1]? = some j) : lo = i.1 ∧ hi = j.2.1 ∧ v = i.2.2.1 ∧ er = 0 := by
  obtain ⟨b1, b2, b3, b4⟩ := hB.first hi0
  obtain ⟨c1, c2⟩ := hB.last hj0
  by_cases hz : er = 0
  · obtain ⟨a1, a2, a3, a4, a5⟩ := h.some h0 hz
    have e1 : lo = i.1 := Int.le_antisymm (a3 _ b1).1 (b2 _ a1)
    have e2 : hi = j.2.1 := Int.le_antisymm (c2 _ a2) (a3 _ c1).2
    exact ⟨e1, e2, by rw [a4, e1, b3], hz⟩
  · obtain ⟨_, _, _, _, a5⟩ := h.none h0 hz
    have := a5 i.1 b1.1
    omega

set_option maxRecDepth 100000 in
set_option maxHeartbeats 4000000 in
theorem curves_any (p : Option Addr) (cap : Nat) (l : List Bd) (x0 : Int) (w : World) (hcap : l.length ≤ cap) (hcm : cap ≤ maxLen) (hp : p = none → cap = 0) (hL : At3 w p l) :
    Calls Try.prog 4 #[.slice p l.length cap, .int .i64 x0] w fun e w' => e = .returned (.bool true) ∧ Adds w w' := by
  have htame := tame_any p cap l 40 w hcap hcm hp (by omega) hL
  obtain ⟨L, hLd⟩ : ∃ L, L = tameL l 40 := ⟨_, rfl⟩
  have hok : ∀ b ∈ L, okB b = true := by rw [hLd]; exact tameL_ok l 40
  have hLn : L.length ≤ 40 := by rw [hLd, tameL_len]; omega
  rw [← hLd] at htame
  have hck0 : checkT L = 0 := check_zero.2 ⟨by omega, hok⟩
  obtain ⟨n, hn⟩ : ∃ n, n = L.length := ⟨_, rfl⟩
  have HN := Lib.hid hn
  have HOK := Lib.hid hok
  have HCK := Lib.hid hck0
  have hgv : Hid (∀ q qc W, At3 W q L → Calls Try.prog 16 #[.slice q n qc] W (OwnGot 75 L W)) := Lib.hid (fun q qc W hW => by rw [hn]; exact give_any q qc L W (by omega) hW)
  have hat : Hid (∀ q qc x W, At3 W q L → Calls Try.prog 19 #[.slice q n qc, .int .i64 x] W (AtGot L x W)) := Lib.hid (fun q qc x W hW => by rw [hn]; exact At_any q qc L x W (by unfold maxLen; omega) hW)
  have hra : Hid (∀ q qc x W, At3 W q L → Calls Try.prog 27 #[.slice q n qc, .int .i64 x] W fun e w' => e = .returned (.tuple #[.int .i64 (dem L x), .int .i64 (sup L x)]) ∧ Adds W w') := Lib.hid (fun q qc x W hW => by rw [hn]; exact RAt_any q qc L x W (by omega) hW hok)
  have hbs : Hid (∀ q qc W, At3 W q L → Calls Try.prog 20 #[.slice q n qc] W (BestGot L W)) := Lib.hid (fun q qc W hW => by rw [hn]; exact Best_any q qc L W (by unfold maxLen; omega) hW)
  have hrb : Hid (∀ q qc W, At3 W q L → Calls Try.prog 28 #[.slice q n qc] W (RBestGot L W)) := Lib.hid (fun q qc W hW => by rw [hn]; exact RBest_any q qc L W (by omega) hW hok)
  have HTM := Lib.hid htame
  generalize l.length = N1 at *
  clear htame hLd hok hLn hck0 hn hL hcap hcm hp
  go_enter Try.func4, Try.ntmps4
  go_wp2_with (first
    | (go_at_call 26; refine HTM.out.mono ?_; rintro e w1 ⟨v5, rfl, hro, hb1⟩; obtain ⟨p5, c5, rfl, ha5, _⟩ := own_at3 hro; have HB1 := Lib.hid hb1; have HA5 := Lib.hid ha5; rw [← HN.out]; clear hro ha5 hb1)
    | (go_at_call 16; refine (hgv.out _ _ _ HA5.out).mono ?_; rintro e w2 ⟨v6, rfl, hro, hb2⟩; obtain ⟨p6, c6, rfl, ha6, _⟩ := own_at3 hro; have HB2 := Lib.hid (HB1.out.trans hb2); have HA6 := Lib.hid ha6; have HA5' := Lib.hid (HA5.out.later hb2); rw [← HN.out]; clear hro ha6 hb2))
  clear HTM
  go_loopw [1, 7] (fun x i wr => ∃ (k : Nat) (x' : Int), k ≤ 2 ∧ i = .int .i64 k ∧ x = .int .i64 x' ∧ Adds w2 wr) (fun _ i _ => 2 - (intOf i).toNat)
  case atStart => exact ⟨0, x0, by omega, rfl, rfl, Adds.refl w2⟩
  case round =>
    obtain ⟨k, x, hk, rfl, rfl, hb⟩ := hrel
    have HB := Lib.hid hb
    have H5 := Lib.hid (HA5'.out.later hb)
    have H6 := Lib.hid (HA6.out.later hb)
    clear hb
    by_cases hlt : k < 2
    · by_cases hin : 1 ≤ x ∧ x ≤ 1000000
      · have HAT : Hid (∀ q qc W, At3 W q L → Calls Try.prog 19 #[.slice q n qc, .int .i64 x] W (fun e w' => e = .returned (.tuple #[.int .i64 (dem L x), .int .i64 (sup L x), .int .i64 0]) ∧ Adds W w')) := Lib.hid (fun q qc W hW => (hat.out q qc x W hW).mono (by rintro e w' ⟨rfl, h⟩; rw [at_in HCK.out hin]; exact ⟨rfl, h⟩))
        have HRA := Lib.hid (fun q qc W => hra.out q qc x W)
        generalize dem L x = dd at *
        generalize sup L x = ss at *
        have hx1 : ¬ (x < 1) := by omega
        have hx2 : ¬ (1000000 < x) := by omega
        have hdd : (dd != dd) = false := by simp
        have hss : (ss != ss) = false := by simp
        clear hat
        go_wp2_with (first
          | (go_at_call 19; refine (HAT.out _ _ _ H6.out).mono ?_; rintro e y1 ⟨rfl, hb⟩; have Y1 := Lib.hid hb; clear hb)
          | (go_at_call 27; refine (HRA.out _ _ _ (H5.out.later Y1.out)).mono ?_; rintro e y2 ⟨rfl, hb⟩; have Y2 := Lib.hid (Y1.out.trans hb); clear hb))
        refine ⟨⟨k + 1, _, by omega, by go_num, rfl, HB.out.trans Y2.out⟩, by simp [intOf]; omega⟩
      · have HAT : Hid (∀ q qc W, At3 W q L → Calls Try.prog 19 #[.slice q n qc, .int .i64 x] W (fun e w' => e = .returned (.tuple #[.int .i64 0, .int .i64 0, .int .i64 1]) ∧ Adds W w')) := Lib.hid (fun q qc W hW => (hat.out q qc x W hW).mono (by rintro e w' ⟨rfl, h⟩; rw [at_out HCK.out hin]; exact ⟨rfl, h⟩))
        clear hat
        by_cases hx1 : x < 1
        · go_wp2_with (go_at_call 19; refine (HAT.out _ _ _ H6.out).mono ?_; rintro e y1 ⟨rfl, hb⟩; have Y1 := Lib.hid hb; clear hb)
          refine ⟨⟨k + 1, _, by omega, by go_num, rfl, HB.out.trans Y1.out⟩, by simp [intOf]; omega⟩
        · have hx2 : 1000000 < x := by omega
          go_wp2_with (go_at_call 19; refine (HAT.out _ _ _ H6.out).mono ?_; rintro e y1 ⟨rfl, hb⟩; have Y1 := Lib.hid hb; clear hb)
          refine ⟨⟨k + 1, _, by omega, by go_num, rfl, HB.out.trans Y1.out⟩, by simp [intOf]; omega⟩
    · have hk2 : k = 2 := by omega
      subst hk2
      go_upto_region 16 with (first
        | (go_at_call 20; refine (hbs.out _ _ _ H6.out).mono ?_; rintro e y1 ⟨lo, hi, v, er, hbr, rfl, hb⟩; have HBR := Lib.hid hbr; have Y1 := Lib.hid hb; clear hbr hb)
        | (go_at_call 28; refine (hrb.out _ _ _ (H5.out.later Y1.out)).mono ?_; rintro e y2 ⟨v17, B, rfl, hib, hro, hb⟩; obtain ⟨p7, c7, rfl, ha7⟩ := own_at4 hro; have HIB := Lib.hid hib; have HA7 := Lib.hid ha7; have Y2 := Lib.hid (Y1.out.trans hb); clear hro hib ha7 hb))
      obtain ⟨m, hm⟩ : ∃ m, m = B.length := ⟨_, rfl⟩
      have hm6 : m ≤ 1000000 := by rw [hm]; exact HIB.out.few
      have HM := Lib.hid hm
      rw [← hm]
      clear hm
      have HW2 : Hid (Adds w y2) := Lib.hid ((HB2.out.trans HB.out).trans Y2.out)
      cases m with
      | zero =>
        obtain ⟨rfl, rfl, rfl, rfl⟩ := best_none HCK.out HBR.out HIB.out (List.length_eq_zero_iff.1 HM.out.symm)
        go_wp2_with (go_at_call 18; refine (awake_any _).mono ?_; rintro e w5 ⟨rfl, hb⟩; have HB5 := Lib.hid hb; clear hb)
        go_ret
        exact ⟨rfl, HW2.out.trans HB5.out⟩
      | succ m =>
        obtain ⟨⟨a0, a1, a2, a3⟩, hi0⟩ : ∃ t, B[0]? = some t := ⟨_, List.getElem?_eq_getElem (by have := HM.out; omega)⟩
        obtain ⟨⟨b0, b1, b2, b3⟩, hj0⟩ : ∃ t, B[m]? = some t := ⟨_, List.getElem?_eq_getElem (by have := HM.out; omega)⟩
        obtain ⟨r1, r2, r3, r4⟩ := best_some HCK.out HBR.out HIB.out hi0 (by rw [← HM.out]; exact hj0)
        simp only at r1 r2 r3
        subst r1 r2 r3 r4
        obtain ⟨g, rfl, hgl, c0, c1, c2, c3⟩ := HA7.out 0 _ hi0
        obtain ⟨g', he, _, d0, d1, d2, d3⟩ := HA7.out m _ hj0
        cases he
        simp only [Nat.zero_mul, Nat.zero_add] at c0 c1 c2 c3 d0 d1 d2 d3
        clear hi0 hj0
        go_wp2_with (go_at_call 18; refine (awake_any _).mono ?_; rintro e w5 ⟨rfl, hb⟩; have HB5 := Lib.hid hb; clear hb)
        go_ret
        exact ⟨rfl, HW2.out.trans HB5.out⟩

end Go.Proofs.Ytigpghmbeldakaa
