/- longs of the laws; muldiv of the reference. -/
import Derived.Test.YtigpghmbeldakaaS
import Derived.Deep.LoopGhost
namespace Go.Proofs.Ytigpghmbeldakaa
open Go.RowKit

set_option maxRecDepth 100000 in
set_option maxHeartbeats 1000000 in
theorem longs_any (p : Option Addr) (cap : Nat) (A : List Int) (q : Option Addr) (cap2 : Nat) (B : List Int) (w : World) (hN : A.length ≤ 5000) (hA : At1 .i64 w p A) (hB : At1 .i64 w q B) :
    Calls Try.prog 36 #[.slice p A.length cap, .slice q B.length cap2] w fun e w' => e = .returned (.bool (decide (A = B))) ∧ Adds w w' := by
  have HA := Lib.hid hA
  have HB := Lib.hid hB
  by_cases hlen : A.length = B.length
  · obtain ⟨N, hNl⟩ : ∃ N, N = A.length := ⟨_, rfl⟩
    have hBl : B.length = N := by omega
    rw [hBl, ← hNl]
    have HN := Lib.hid hNl
    have HBN := Lib.hid hBl
    have hN5 : N ≤ 5000 := by omega
    clear hA hB hN hlen hNl hBl
    go_enter Try.func36, Try.ntmps36
    go_wp2
    go_loopw [5] (fun i wr => ∃ k : Nat, k ≤ N ∧ i = .int .i64 k ∧ Hid (A.take k = B.take k) ∧ Adds w wr) (fun i _ => N - (intOf i).toNat)
    case atStart => exact ⟨0, by omega, rfl, Lib.hid (by simp), Adds.refl w⟩
    case round =>
      obtain ⟨k, hk, rfl, hall, hb⟩ := hrel
      by_cases hlt : k < N
      · obtain ⟨x, hx⟩ : ∃ t, A[k]? = some t := ⟨_, List.getElem?_eq_getElem (by have := HN.out; omega)⟩
        obtain ⟨y, hy⟩ : ∃ t, B[k]? = some t := ⟨_, List.getElem?_eq_getElem (by have := HBN.out; omega)⟩
        obtain ⟨gg, off, rfl, d0⟩ := HA.out k _ hx
        obtain ⟨g2, off2, rfl, e0⟩ := HB.out k _ hy
        have c0 := keep_cell hb d0
        have cx := keep_cell hb e0
        have HTA := Lib.hid (take_next hx)
        have HTB := Lib.hid (take_next hy)
        have HX := Lib.hid hx
        have HY := Lib.hid hy
        have HADD := Lib.hid hb
        have hkn : (k : Int) < (N : Int) := by omega
        clear d0 e0 hx hy hb
        go_upto_region 6 with fail
        by_cases hxy : x = y
        · subst hxy
          have hd : (x != x) = false := by simp
          go_quiet (fail)
          go_wp2
          refine ⟨⟨k + 1, by omega, by go_num, Lib.hid (by rw [HTA.out, HTB.out, hall.out]), HADD.out.drewN _⟩, by simp [intOf]; omega⟩
        · have hd : (x != y) = true := bne_iff_ne.2 hxy
          have HNE : Hid (decide (A = B) = false) := Lib.hid (decide_eq_false (fun h => by
            have h1 := HX.out
            rw [h, HY.out] at h1
            exact hxy (Option.some.inj h1).symm))
          go_quiet (fail)
          go_wp2
          go_ret
          exact ⟨ret_bool HNE.out.symm, HADD.out.drewN _⟩
      · have HE : Hid (decide (A = B) = true) := Lib.hid (decide_eq_true (by
          have := hall.out
          rw [List.take_of_length_le (by have := HN.out; omega), List.take_of_length_le (by have := HBN.out; omega)] at this
          exact this))
        go_wp2
        go_ret
        exact ⟨ret_bool HE.out.symm, hb⟩
  · obtain ⟨N, hNl⟩ : ∃ N, N = A.length := ⟨_, rfl⟩
    obtain ⟨M, hMl⟩ : ∃ M, M = B.length := ⟨_, rfl⟩
    have HNE : Hid (decide (A = B) = false) := Lib.hid (decide_eq_false (fun h => hlen (by rw [h])))
    have hNM : ((N : Int) != (M : Int)) = true := bne_iff_ne.2 (by omega)
    rw [← hNl, ← hMl]
    clear hA hB hN hlen hNl hMl
    go_enter Try.func36, Try.ntmps36
    go_wp2
    go_ret
    exact ⟨ret_bool HNE.out.symm, Adds.refl w⟩

/-- Doubling and subtracting. -/
theorem half_bit (b : Int) (k : Nat) (hb : 0 ≤ b) : b / 2 ^ k = 2 * (b / 2 ^ (k + 1)) + b / 2 ^ k % 2 := by
  have e : b / 2 ^ (k + 1) = b / 2 ^ k / 2 := by
    rw [Int.pow_succ, Int.ediv_ediv_of_nonneg (Int.le_of_lt (Int.pow_pos (by omega)))]
  rw [e]
  omega

/-- Quotient and remainder by their property. -/
theorem div_of {a d q r : Int} (h : q * d + r = a) (h0 : 0 ≤ r) (h1 : r < d) : q = a / d ∧ r = a % d := by
  have hd : 0 < d := by omega
  have e : a = r + d * q := by rw [← h, Int.mul_comm d q]; omega
  constructor
  · rw [e, Int.add_mul_ediv_left _ _ (by omega), Int.ediv_eq_zero_of_lt h0 h1]; omega
  · rw [e, Int.add_mul_emod_self_left, Int.emod_eq_of_lt h0 h1]

theorem quo_le {a b c d q r : Int} (h : q * d + r = a * c) (h0 : 0 ≤ r) (ha : 0 ≤ a) (had : a ≤ d) (hd : 0 < d) (hc : 0 ≤ c) (hcb : c ≤ b) : q ≤ b := by
  have h1 : q * d ≤ b * d := by
    have h2 : a * c ≤ d * b := Int.mul_le_mul had hcb hc (by omega)
    rw [Int.mul_comm b d]
    omega
  exact Int.le_of_mul_le_mul_right h1 hd

/-- The binary digits of b from bit k on. -/
def highT (b : Int) (k : Nat) : Int := b / 2 ^ k
theorem high_zero (b : Int) : highT b 0 = b := by unfold highT; omega
theorem high_63 {b : Int} (h0 : 0 ≤ b) (h1 : b < 9223372036854775808) : highT b 63 = 0 := by
  unfold highT
  exact Int.ediv_eq_zero_of_lt h0 (by omega)
theorem high_next {b : Int} (k : Nat) (h : 0 ≤ b) : highT b k = 2 * highT b (k + 1) + highT b k % 2 := half_bit b k h
theorem high_bd {b : Int} (k : Nat) (h : 0 ≤ b) : 0 ≤ highT b k ∧ highT b k ≤ b := by
  unfold highT
  exact ⟨Int.ediv_nonneg h (Int.le_of_lt (Int.pow_pos (by omega))), Int.ediv_le_self _ h⟩

/-- The state of a division bit by bit. -/
structure Dividing (a b d q r : Int) (c : Int) : Prop where
  eq : q * d + r = a * c
  r0 : 0 ≤ r
  q0 : 0 ≤ q

set_option maxRecDepth 100000 in
set_option maxHeartbeats 2000000 in
theorem muldiv_any (a b d : Int) (w : World) (ha : 0 ≤ a) (had : a ≤ d) (hb : 0 ≤ b) (hbd : b ≤ d) (hd : 0 < d) (hd2 : d ≤ 1000000000000000) :
    Calls Try.prog 77 #[.int .i64 a, .int .i64 b, .int .i64 d] w fun e w' => e = .returned (.tuple #[.int .i64 (a * b / d), .int .i64 (a * b % d)]) ∧ w = w' := by
  have HB0 := Lib.hid hb
  have h63 : Hid (Dividing a b d 0 0 (highT b 63)) := Lib.hid ⟨by rw [high_63 hb (by omega)]; simp, by omega, by omega⟩
  obtain ⟨z0, hz0⟩ : ∃ z : Int, z = 62 := ⟨_, rfl⟩
  go_enter Try.func77, Try.ntmps77
  go_wp2
  go_loopw [8, 9, 10] (fun v8 v9 v10 wr => ∃ (c : Nat) (z q r : Int), c ≤ 63 ∧ v8 = .int .i64 q ∧ v9 = .int .i64 r ∧ v10 = .int .i64 z ∧ Hid (z = (c : Int) - 1) ∧ r < d ∧ Hid (Dividing a b d q r (highT b c)) ∧ w = wr) (fun _ _ v10 _ => (intOf v10 + 1).toNat)
  case atStart => exact ⟨63, 62, 0, 0, by omega, rfl, rfl, rfl, Lib.hid (by omega), hd, h63, rfl⟩
  case round =>
    obtain ⟨c, z, q, r, hc, rfl, rfl, rfl, hz, hrd, hdv, rfl⟩ := hrel
    clear h63 hz0
    by_cases hlt : 0 < c
    · obtain ⟨k, rfl⟩ : ∃ k : Nat, z = (k : Int) := ⟨z.toNat, by have := hz.out; omega⟩
      have hck : c = k + 1 := by have := hz.out; omega
      subst hck
      obtain ⟨H, hH⟩ : ∃ H, H = highT b k := ⟨_, rfl⟩
      have hHb := high_bd k HB0.out
      have hnx := high_next k HB0.out
      rw [← hH] at hHb hnx
      obtain ⟨bit, hbit⟩ : ∃ y, y = H % 2 := ⟨_, rfl⟩
      rw [← hbit] at hnx
      have htm : H.tmod 2 = bit := by rw [hbit]; exact Int.tmod_eq_emod_of_nonneg hHb.1
      have hqb : q ≤ b := quo_le hdv.out.eq hdv.out.r0 ha had hd (high_bd (k + 1) HB0.out).1 (high_bd (k + 1) HB0.out).2
      have hq0 := hdv.out.q0
      have hr0 := hdv.out.r0
      have heq := hdv.out.eq
      have h01 : bit = 0 ∨ bit = 1 := by omega
      have hH2 : b / 2 ^ k = H := hH.symm
      have HHB := Lib.hid hHb
      have hw1 : IntKind.i64.wrap (2 * q) = 2 * q := IntWalk.i64_in _ (by omega)
      have hw2 : IntKind.i64.wrap (2 * r) = 2 * r := IntWalk.i64_in _ (by omega)
      have HQ0 := Lib.hid hq0
      have HR0 := Lib.hid hr0
      have HHH := Lib.hid hH
      rcases h01 with h01 | h01
      · subst h01
        have hdd : Hid (Dividing a b d (2 * q) (2 * r) H) := Lib.hid ⟨by
          have e : H = 2 * highT b (k + 1) := by omega
          rw [e, Int.mul_left_comm, ← heq, Int.mul_assoc]; omega, by omega, by omega⟩
        have HTM := Lib.hid htm
        clear hH hHb hnx hbit heq
        go_wp2
        go_loopw [8, 9] (fun v8 v9 wr => ∃ q2 r2 : Int, v8 = .int .i64 q2 ∧ v9 = .int .i64 r2 ∧ r2 ≤ 3 * d ∧ Hid (Dividing a b d q2 r2 H) ∧ wr = w) (fun _ v9 _ => (intOf v9).toNat)
        case atStart => exact ⟨2 * q, 2 * r, rfl, rfl, by omega, hdd, rfl⟩
        case round =>
          obtain ⟨q2, r2, rfl, rfl, hr3, hdv2, rfl⟩ := hrel
          have hqb2 : q2 ≤ b := quo_le hdv2.out.eq hdv2.out.r0 ha had hd HHB.out.1 HHB.out.2
          have hq2 := hdv2.out.q0
          have hr2 := hdv2.out.r0
          by_cases hge : d ≤ r2
          · go_wp2
            go_roundw
            case rel => exact ⟨q2 + 1, r2 - d, rfl, rfl, by omega, Lib.hid ⟨by have := hdv2.out.eq; rw [Int.add_mul]; omega, by omega, by omega⟩, trivial⟩
            case measure => simp [intOf]; omega
          · have hlt2 : r2 < d := by omega
            go_wp2
            go_roundw
            case rel => exact ⟨k, (k : Int) - 1, q2, r2, by omega, rfl, rfl, rfl, Lib.hid rfl, hlt2, by rw [← HHH.out]; exact hdv2, trivial⟩
            case measure => simp [intOf]
      · subst h01
        have hdd : Hid (Dividing a b d (2 * q) (2 * r + a) H) := Lib.hid ⟨by
          have e : H = 2 * highT b (k + 1) + 1 := by omega
          rw [e, Int.mul_add, Int.mul_left_comm, ← heq, Int.mul_assoc]; omega, by omega, by omega⟩
        have HTM := Lib.hid htm
        clear hH hHb hnx hbit heq
        go_wp2
        go_loopw [8, 9] (fun v8 v9 wr => ∃ q2 r2 : Int, v8 = .int .i64 q2 ∧ v9 = .int .i64 r2 ∧ r2 ≤ 3 * d ∧ Hid (Dividing a b d q2 r2 H) ∧ wr = w) (fun _ v9 _ => (intOf v9).toNat)
        case atStart => exact ⟨2 * q, 2 * r + a, rfl, rfl, by omega, hdd, rfl⟩
        case round =>
          obtain ⟨q2, r2, rfl, rfl, hr3, hdv2, rfl⟩ := hrel
          have hqb2 : q2 ≤ b := quo_le hdv2.out.eq hdv2.out.r0 ha had hd HHB.out.1 HHB.out.2
          have hq2 := hdv2.out.q0
          have hr2 := hdv2.out.r0
          by_cases hge : d ≤ r2
          · go_wp2
            go_roundw
            case rel => exact ⟨q2 + 1, r2 - d, rfl, rfl, by omega, Lib.hid ⟨by have := hdv2.out.eq; rw [Int.add_mul]; omega, by omega, by omega⟩, trivial⟩
            case measure => simp [intOf]; omega
          · have hlt2 : r2 < d := by omega
            go_wp2
            go_roundw
            case rel => exact ⟨k, (k : Int) - 1, q2, r2, by omega, rfl, rfl, rfl, Lib.hid rfl, hlt2, by rw [← HHH.out]; exact hdv2, trivial⟩
            case measure => simp [intOf]
    · have hc0 : c = 0 := by omega
      subst hc0
      have hzn : z < 0 := by have := hz.out; omega
      have hzn2 : ¬ (0 ≤ z) := by omega
      have hzd : decide (0 ≤ z) = false := decide_eq_false hzn2
      have hh := hdv.out.eq
      rw [high_zero] at hh
      obtain ⟨e1, e2⟩ := div_of hh hdv.out.r0 hrd
      have E1 := Lib.hid e1
      have E2 := Lib.hid e2
      clear hh e1 e2
      go_wp2
      go_ret2
      exact ⟨by rw [E1.out, E2.out]; rfl, rfl⟩

end Go.Proofs.Ytigpghmbeldakaa
