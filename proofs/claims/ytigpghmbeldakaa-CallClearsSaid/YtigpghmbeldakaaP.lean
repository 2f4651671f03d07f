/- At, Best and Price. -/
import Derived.Test.YtigpghmbeldakaaO
import Derived.RegionTactic
import Derived.ChangeAlike
namespace Go.Proofs.Ytigpghmbeldakaa
open Go.RowKit

theorem ret3 {a b c a' b' c' : Int} (h : a = a') (k : b = b') (j : c = c') : Ending.returned (.tuple #[.int .i64 a, .int .i64 b, .int .i64 c]) = .returned (.tuple #[.int .i64 a', .int .i64 b', .int .i64 c']) := by rw [h, k, j]

/-- What At says. -/
def atT (l : List Bd) (x : Int) : Int × Int × Int := if checkT l ≠ 0 then (0, 0, checkT l) else if inB 1000000 x then (dem l x, sup l x, 0) else (0, 0, 1)

def AtGot (l : List Bd) (x : Int) (w : World) (e : Ending) (w' : World) : Prop :=
  e = .returned (.tuple #[.int .i64 (atT l x).1, .int .i64 (atT l x).2.1, .int .i64 (atT l x).2.2]) ∧ Adds w w'

set_option maxRecDepth 100000 in
set_option maxHeartbeats 1000000 in
theorem At_any (p : Option Addr) (cap : Nat) (l : List Bd) (x : Int) (w : World) (hN : l.length ≤ maxLen) (hL : At3 w p l) :
    Calls Try.prog 19 #[.slice p l.length cap, .int .i64 x] w (AtGot l x w) := by
  have hck := Check_any p cap l w hN hL
  have HL := Lib.hid hL
  by_cases h0 : checkT l = 0
  · obtain ⟨c1, c2⟩ := check_zero.1 h0
    have HO := Lib.hid c2
    have HN := Lib.hid c1
    rw [h0] at hck
    cases hx : inB 1000000 x with
    | true =>
      have hpr := fun W => isPrice_any x W
      rw [hx] at hpr
      have HE : Hid (atT l x = (dem l x, sup l x, 0)) := Lib.hid (by unfold atT; rw [if_neg (by simpa using h0), if_pos hx])
      clear hL hN c1 c2 h0 hx
      go_enter Try.func19, Try.ntmps19
      go_wp2_with (first
        | (go_at_call 17; refine hck.mono ?_; rintro e w1 ⟨rfl, hb1⟩)
        | (go_at_call 42; refine (hpr _).mono ?_; rintro e w2 ⟨rfl, rfl⟩)
        | (go_at_call 43; refine (spotAt_any p cap l x _ (by have := HN.out; omega) (HL.out.later hb1) HO.out).mono ?_; rintro e w3 ⟨rfl, hb3⟩))
      go_quiet (fail)
      go_wp2
      go_ret3
      exact ⟨by rw [HE.out]; rfl, ((hb1.trans hb3).alloc _).drewN _⟩
    | false =>
      have hpr := fun W => isPrice_any x W
      rw [hx] at hpr
      have HE : Hid (atT l x = (0, 0, 1)) := Lib.hid (by unfold atT; rw [if_neg (by simpa using h0), if_neg (by rw [hx]; simp)])
      clear hL hN c1 c2 h0 hx
      go_enter Try.func19, Try.ntmps19
      go_wp2_with (first
        | (go_at_call 17; refine hck.mono ?_; rintro e w1 ⟨rfl, hb1⟩)
        | (go_at_call 42; refine (hpr _).mono ?_; rintro e w2 ⟨rfl, rfl⟩))
      go_ret3
      exact ⟨by rw [HE.out]; rfl, hb1⟩
  · have HE : Hid (atT l x = (0, 0, checkT l)) := Lib.hid (by unfold atT; rw [if_pos h0])
    generalize checkT l = c at *
    clear hL hN
    go_enter Try.func19, Try.ntmps19
    go_wp2_with (go_at_call 17; refine hck.mono ?_; rintro e w1 ⟨rfl, hb1⟩)
    go_ret3
    exact ⟨by rw [HE.out]; rfl, hb1⟩

/-- What Price says. -/
structure PriceRes (l : List Bd) (ref p er : Int) : Prop where
  bad : checkT l ≠ 0 → p = 0 ∧ er = checkT l
  arg : checkT l = 0 → inB 1000000 ref = false → p = 0 ∧ er = 1
  none : checkT l = 0 → inB 1000000 ref = true → er ≠ 0 → p = 0 ∧ er = 30 ∧ ∀ x, InR x → volAt l x ≤ 0
  some : checkT l = 0 → inB 1000000 ref = true → er = 0 → PriceAt l ref p ∧ 0 < volAt l p

def PriceGot (l : List Bd) (ref : Int) (w : World) (e : Ending) (w' : World) : Prop :=
  ∃ p er, PriceRes l ref p er ∧ e = .returned (.tuple #[.int .i64 p, .int .i64 er]) ∧ Adds w w'

theorem vol_nonneg {l : List Bd} (hok : ∀ b ∈ l, okB b = true) (x : Int) : 0 ≤ volAt l x := by
  have h1 := dem_bd x l hok
  have h2 := sup_bd x l hok
  unfold volAt
  omega

set_option maxRecDepth 100000 in
set_option maxHeartbeats 1000000 in
theorem Price_any (p : Option Addr) (cap : Nat) (l : List Bd) (ref : Int) (w : World) (hN : l.length ≤ maxLen) (hL : At3 w p l) :
    Calls Try.prog 21 #[.slice p l.length cap, .int .i64 ref] w (PriceGot l ref w) := by
  have hck := Check_any p cap l w hN hL
  have HL := Lib.hid hL
  by_cases h0 : checkT l = 0
  · obtain ⟨c1, c2⟩ := check_zero.1 h0
    have HO := Lib.hid c2
    have HN := Lib.hid c1
    have H0 := Lib.hid h0
    rw [h0] at hck
    cases hx : inB 1000000 ref with
    | true =>
      have hpr := fun W => isPrice_any ref W
      rw [hx] at hpr
      have HX := Lib.hid hx
      have HB := Lib.hid (inB_iff.1 hx)
      clear hL hN c1 c2 h0 hx
      go_enter Try.func21, Try.ntmps21
      go_wp2_with (first
        | (go_at_call 17; refine hck.mono ?_; rintro e w1 ⟨rfl, hb1⟩)
        | (go_at_call 42; refine (hpr _).mono ?_; rintro e w2 ⟨rfl, rfl⟩)
        | (go_at_call 48; fail))
      refine (auction_any p cap l ref _ (by have := HN.out; omega) (HL.out.later hb1) HO.out HB.out.1 HB.out.2).mono ?_
      rintro e w3 ⟨S, a, b, c, hS, h5, rfl, hb3⟩
      obtain ⟨q1, q2, q3⟩ := price_of hS h5
      have hR := hS.right _ (stT_sub ref S 5 _ (List.mem_of_getElem? h5))
      have HQ := Lib.hid q1
      have HV : Hid (min b c = volAt l a) := Lib.hid (by simp only at q2 q3; rw [q2, q3]; rfl)
      obtain ⟨v, hv⟩ : ∃ v, v = min b c := ⟨_, rfl⟩
      have hvol : ∀ W, Calls Try.prog 47 #[.agg #[.int .i64 a, .int .i64 b, .int .i64 c]] W fun e w' => e = .returned (.int .i64 v) ∧ Adds W w' := fun W => by rw [hv]; exact volume_any a b c W
      have HVV := Lib.hid hv
      clear hS h5 q1 q2 q3 hR hv
      have X := Box.new w3 #[.int .i64 a, .int .i64 b, .int .i64 c] 80
      by_cases hv0 : v = 0
      · subst hv0
        go_wp2_with (go_at_call 47; refine (hvol _).mono ?_; rintro e w4 ⟨rfl, hb4⟩)
        go_ret2
        refine ⟨0, 30, ⟨fun h => absurd H0.out h, fun _ h => ?_, fun _ _ _ => ⟨rfl, rfl, fun x hx => ?_⟩, fun _ _ h => by cases h⟩, rfl, ((hb1.trans hb3).alloc _).trans hb4⟩
        · rw [HX.out] at h; cases h
        · have := HQ.out.few.1.2 x hx
          rw [← HV.out, ← HVV.out] at this
          exact this
      · have hne : (v == 0) = false := beq_eq_false_iff_ne.2 hv0
        have HNZ := Lib.hid hv0
        clear hv0
        go_wp2_with (go_at_call 47; refine (hvol _).mono ?_; rintro e w4 ⟨rfl, hb4⟩; have d0 := keep_cell (v := .int .i64 a) hb4 (X.cell 0))
        go_ret2
        refine ⟨a, 0, ⟨fun h => absurd H0.out h, fun _ h => ?_, fun _ _ h => absurd rfl h, fun _ _ _ => ⟨HQ.out, ?_⟩⟩, rfl, ((hb1.trans hb3).alloc _).trans hb4⟩
        · rw [HX.out] at h; cases h
        · have := vol_nonneg HO.out a
          have := HNZ.out
          rw [HVV.out, HV.out] at this
          omega
    | false =>
      have hpr := fun W => isPrice_any ref W
      rw [hx] at hpr
      have HX := Lib.hid hx
      clear hL hN c1 c2 h0 hx
      go_enter Try.func21, Try.ntmps21
      go_wp2_with (first
        | (go_at_call 17; refine hck.mono ?_; rintro e w1 ⟨rfl, hb1⟩)
        | (go_at_call 42; refine (hpr _).mono ?_; rintro e w2 ⟨rfl, rfl⟩))
      go_ret2
      refine ⟨0, 1, ⟨fun h => absurd H0.out h, fun _ _ => ⟨rfl, rfl⟩, fun _ h => ?_, fun _ h => ?_⟩, rfl, hb1⟩
      · rw [HX.out] at h; cases h
      · rw [HX.out] at h; cases h
  · have H0 := Lib.hid h0
    obtain ⟨c, hc⟩ : ∃ c, c = checkT l := ⟨_, rfl⟩
    rw [← hc] at hck h0
    have HC := Lib.hid hc
    clear hL hN hc
    go_enter Try.func21, Try.ntmps21
    go_wp2_with (go_at_call 17; refine hck.mono ?_; rintro e w1 ⟨rfl, hb1⟩)
    go_ret2
    exact ⟨0, c, ⟨fun _ => ⟨rfl, HC.out⟩, fun h => absurd h H0.out, fun h => absurd h H0.out, fun h => absurd h H0.out⟩, rfl, hb1⟩

end Go.Proofs.Ytigpghmbeldakaa
