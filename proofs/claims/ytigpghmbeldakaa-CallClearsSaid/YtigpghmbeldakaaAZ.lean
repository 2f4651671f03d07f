/- bits.Div64 where the divisor is great and the quotient is small: the walk. -/
import Derived.Test.YtigpghmbeldakaaAY
import Derived.Test.YtigpghmbeldakaaA
import Derived.Test.YtigpghmbeldakaaSH
import Derived.Deep.DeepCutAuto
import Derived.Deep.CutBlock
namespace Go.Proofs.Ytigpghmbeldakaa
open Go.RowKit

/-- What Div64 returns: the quotient and the remainder. -/
def QuoRem (q r : Nat) (w : World) (e : Ending) (w' : World) : Prop := e = .returned (.tuple #[.int .u64 (q : Int), .int .u64 (r : Int)]) ∧ ∃ n, w' = w.drewN n

theorem quorem_mk {q r : Nat} {a b : Int} {w : World} (h : a = (q : Int)) (k : b = (r : Int)) : QuoRem q r w (.returned (.tuple #[.int .u64 a, .int .u64 b])) w := ⟨by rw [h, k], 0, rfl⟩

set_option maxRecDepth 100000 in
set_option maxHeartbeats 2000000 in
theorem div64_low (lo y : Nat) (w : World) (hlo : lo < 18446744073709551616) (hy : 0 < y) (hy2 : y < 18446744073709551616) :
    Calls Try.prog 93 #[.int .u64 0, .int .u64 lo, .int .u64 y] w (QuoRem (lo / y) (lo % y) w) := by
  have hy0 : ((y : Int) == 0) = false := beq_eq_false_iff_ne.2 (by omega)
  have hy00 : decide (y = 0) = false := decide_eq_false (by omega)
  have hyl : decide (y ≤ 0) = false := decide_eq_false (by omega)
  have hw : IntKind.u64.wrap ((lo : Int) / (y : Int)) = ((lo / y : Nat) : Int) := by rw [← Int.natCast_ediv]; exact Mul64.wrapN _ (Nat.lt_of_le_of_lt (Nat.div_le_self _ _) hlo)
  have HW := Lib.hid hw
  clear hw
  go_enter Try.func93, Try.ntmps93
  go_wp2
  go_quiet (fail)
  go_wp2
  go_ret2
  refine ⟨?_, _, rfl⟩
  show Ending.returned (.tuple #[.int .u64 (IntKind.u64.wrap ((lo : Int) / (y : Int))), .int .u64 ((lo : Int) % (y : Int))]) = _
  rw [HW.out, Int.natCast_emod]

theorem lt_bitLen : ∀ (y : Nat), y < 2 ^ 64 → y < 2 ^ Lib.bitLen y := by
  intro y
  induction y using Nat.strongRecOn with
  | _ y ih =>
    intro h
    by_cases h0 : y = 0
    · subst h0; decide
    · have h1 := ih (y / 2) (by omega) (by omega)
      rw [Lib.bitLen_half y h0 h, Nat.pow_add]
      omega

theorem bitLen_le' : ∀ (y : Nat), 0 < y → y < 2 ^ 64 → 2 ^ Lib.bitLen y ≤ 2 * y := by
  intro y
  induction y using Nat.strongRecOn with
  | _ y ih =>
    intro h0 h
    rw [Lib.bitLen_half y (by omega) h, Nat.pow_add]
    by_cases h1 : y / 2 = 0
    · have : y = 1 := by omega
      subst this
      decide
    · have := ih (y / 2) (by omega) (by omega) (by omega)
      omega

/-- Such a division in words of the machine. -/
structure GreatW (hi lo y s : Nat) (Yp yn1 yn0 un32 L un1 un0 Q Rm N : Nat) : Prop where
  f1 : IntKind.u64.wrap ((y : Int) * 2 ^ s) = (Yp : Int)
  f2 : bits .and .u64 (Yp : Int) 4294967295 = (yn0 : Int)
  f3 : bits .or .u64 (IntKind.u64.wrap ((hi : Int) * 2 ^ s)) ((lo : Int) / 2 ^ (64 - s)) = (un32 : Int)
  f6 : IntKind.u64.wrap ((lo : Int) * 2 ^ s) = (L : Int)
  f7 : (L : Int) / 4294967296 = (un1 : Int)
  f8 : bits .and .u64 (L : Int) 4294967295 = (un0 : Int)
  f9 : (Yp : Int) / 4294967296 = (yn1 : Int)
  g : Great hi lo y (2 ^ s) (2 ^ (64 - s)) Yp yn1 yn0 un32 L un1 un0 Q Rm N
  sh : ((Rm * 2 ^ s : Nat) : Int) / 2 ^ s = (Rm : Int)

theorem greatw_mk {hi lo y s : Nat} (hhi : hi < y) (hlo : lo < 18446744073709551616) (hs1 : 1 ≤ s) (hs2 : s ≤ 63) (hY1 : 9223372036854775808 ≤ y * 2 ^ s) (hY2 : y * 2 ^ s < 18446744073709551616) (hq : (hi * 18446744073709551616 + lo) / y < 2147483648) :
    ∃ Yp yn1 yn0 un32 L un1 un0 N, GreatW hi lo y s Yp yn1 yn0 un32 L un1 un0 ((hi * 18446744073709551616 + lo) / y) ((hi * 18446744073709551616 + lo) % y) N := by
  have hPT : 2 ^ s * 2 ^ (64 - s) = 18446744073709551616 := by rw [← Nat.pow_add, show s + (64 - s) = 64 by omega]
  have hP : 0 < 2 ^ s := Nat.two_pow_pos s
  have hT : 0 < 2 ^ (64 - s) := Nat.two_pow_pos _
  have c1 : ((2 : Int) ^ s) = ((2 ^ s : Nat) : Int) := by push_cast; rfl
  have c2 : ((2 : Int) ^ (64 - s)) = ((2 ^ (64 - s) : Nat) : Int) := by push_cast; rfl
  have hor : ∀ a b, b < 2 ^ s → (a * 2 ^ s) ||| b = a * 2 ^ s + b := fun a b hb => by
    have := Nat.shiftLeft_add_eq_or_of_lt hb a
    rw [Nat.shiftLeft_eq] at this
    exact this.symm
  have hG := great_mk (hi := hi) (lo := lo) (y := y) (P := 2 ^ s) (T := 2 ^ (64 - s)) (B := 18446744073709551616) rfl hPT hP (by omega) rfl hY1 hY2 rfl rfl rfl rfl rfl rfl hq
  have hL : lo * 2 ^ s % 18446744073709551616 = lo % 2 ^ (64 - s) * 2 ^ s := by
    have e1 : lo = lo / 2 ^ (64 - s) * 2 ^ (64 - s) + lo % 2 ^ (64 - s) := by have := Nat.div_add_mod lo (2 ^ (64 - s)); rw [Nat.mul_comm] at this; exact this.symm
    have e2 : lo * 2 ^ s = lo / 2 ^ (64 - s) * 18446744073709551616 + lo % 2 ^ (64 - s) * 2 ^ s := by
      conv => lhs; rw [e1]
      rw [Nat.add_mul, Nat.mul_assoc, Nat.mul_comm (2 ^ (64 - s)) (2 ^ s), hPT]
    have e3 : lo % 2 ^ (64 - s) * 2 ^ s < 18446744073709551616 := by
      rw [← hPT, Nat.mul_comm (2 ^ s) (2 ^ (64 - s))]
      exact Nat.mul_lt_mul_of_pos_right (Nat.mod_lt _ hT) hP
    rw [e2, Nat.mul_comm (lo / 2 ^ (64 - s)), Nat.mul_add_mod, Nat.mod_eq_of_lt e3]
  have hlt : lo / 2 ^ (64 - s) < 2 ^ s := Nat.div_lt_of_lt_mul (by rw [Nat.mul_comm, hPT]; exact hlo)
  have hH : (hi + 1) * 2 ^ s ≤ y * 2 ^ s := Nat.mul_le_mul_right (2 ^ s) hhi
  rw [Nat.add_mul, Nat.one_mul] at hH
  have hLb : lo % 2 ^ (64 - s) * 2 ^ s < 18446744073709551616 := by rw [← hL]; exact Nat.mod_lt _ (by omega)
  refine ⟨_, _, _, _, _, _, _, _, ?_, ?_, ?_, ?_, ?_, ?_, ?_, hG, ?_⟩
  · rw [c1, ← Int.natCast_mul, Mul64.wrapN _ hY2]
  · exact Mul64.maskN _ hY2
  · rw [c1, c2, ← Int.natCast_mul, Mul64.wrapN _ (by omega), ← Int.natCast_ediv, bits_or_u64_nat _ _ (by omega) (by omega), hor _ _ hlt]
  · rw [c1, ← Int.natCast_mul, Mul64.wrapM, hL]
  · exact (Int.natCast_ediv _ _).symm
  · exact Mul64.maskN _ hLb
  · exact (Int.natCast_ediv _ _).symm
  · rw [c1, ← Int.natCast_ediv, Nat.mul_div_cancel _ hP]

set_option maxRecDepth 100000 in
set_option maxHeartbeats 8000000 in
theorem div64_great (hi lo y s : Nat) (w : World) (hhi : 0 < hi) (hhy : hi < y) (hlo : lo < 18446744073709551616) (hy : y < 9223372036854775808) (hs : s = 64 - Lib.bitLen y) (hs1 : 1 ≤ s) (hs2 : s ≤ 63) (hY1 : 9223372036854775808 ≤ y * 2 ^ s) (hY2 : y * 2 ^ s < 18446744073709551616) (hq : (hi * 18446744073709551616 + lo) / y < 2147483648) :
    Calls Try.prog 93 #[.int .u64 hi, .int .u64 lo, .int .u64 y] w (QuoRem ((hi * 18446744073709551616 + lo) / y) ((hi * 18446744073709551616 + lo) % y) w) := by
  have hy0 : ((y : Int) == 0) = false := beq_eq_false_iff_ne.2 (by omega)
  have hh0 : ((hi : Int) == 0) = false := beq_eq_false_iff_ne.2 (by omega)
  have hyh : decide (y ≤ hi) = false := decide_eq_false (by omega)
  obtain ⟨Yp, yn1, yn0, un32, L, un1, un0, N, hsh⟩ := greatw_mk hhy hlo hs1 hs2 hY1 hY2 hq
  generalize (hi * 18446744073709551616 + lo) / y = Q at hsh hq ⊢
  generalize (hi * 18446744073709551616 + lo) % y = Rm at hsh ⊢
  have HSH := Lib.hid hsh
  have hl : Lib.bitLen y ≤ 64 := by omega
  have e1 : (64 : Int) - (Lib.bitLen y : Int) = (s : Int) := by omega
  have E1 := Lib.hid e1
  clear hs hl e1 hsh hY1 hY2
  go_enter Try.func93, Try.ntmps93
  go_upto_region 15 with (go_at_call 102; refine (bits_LeadingZeros64 _ _ (by omega) (by omega)).mono ?_; rintro e w' ⟨rfl, rfl⟩; rw [Int.toNat_natCast, E1.out])
  simp only [HSH.out.f1, HSH.out.f2, HSH.out.f3, HSH.out.f6, HSH.out.f7, HSH.out.f8, HSH.out.f9]
  have y1 := HSH.out.g.yn1hi
  have y1l := HSH.out.g.yn1lo
  have y0 := HSH.out.g.yn0hi
  have u32 := HSH.out.g.u32
  have u1 := HSH.out.g.u1
  have u0 := HSH.out.g.u0
  have hc : ((un32 : Int) / (yn1 : Int)) = 0 := Int.ediv_eq_zero_of_lt (by omega) (by omega)
  have HC := Lib.hid hc
  clear hc
  go_upto_region 16 with fail
  rw [HC.out]
  simp only [show IntKind.u64.wrap 0 = 0 from rfl]
  obtain ⟨V, hV⟩ : ∃ V, V = un32 * 4294967296 + un1 := ⟨_, rfl⟩
  have hVi : (un32 : Int) * 4294967296 + (un1 : Int) = (V : Int) := by omega
  have hVi2 : 4294967296 * (un32 : Int) + (un1 : Int) = (V : Int) := by omega
  have hVb : V < 9223372036854775808 := by omega
  have hv0 : IntKind.u64.wrap ((un32 : Int) * 4294967296) = (un32 : Int) * 4294967296 := by rw [IntKind.wrap_u64]; omega
  have hv : IntKind.u64.wrap (4294967296 * (un32 : Int)) = 4294967296 * (un32 : Int) := by rw [IntKind.wrap_u64]; omega
  have hvw : IntKind.u64.wrap (V : Int) = (V : Int) := by rw [IntKind.wrap_u64]; omega
  have hvn : decide ((V : Int) < 0) = false := decide_eq_false (by omega)
  have HV := Lib.hid hV
  clear hV
  go_wp2
  refine wp_loop_once ?_
  go_upto_region 22 with fail
  obtain ⟨q0, hq0⟩ : ∃ q0, q0 = V / yn1 := ⟨_, rfl⟩
  obtain ⟨r0, hr0⟩ : ∃ r0, r0 = V % yn1 := ⟨_, rfl⟩
  obtain ⟨m0, hm0⟩ : ∃ m0, m0 = q0 * yn1 := ⟨_, rfl⟩
  have hq0i : (V : Int) / (yn1 : Int) = (q0 : Int) := by rw [← Int.natCast_ediv, hq0]
  have hVm : V = m0 + r0 := by rw [hm0, hq0, hr0]; have := Nat.div_add_mod V yn1; rw [Nat.mul_comm] at this; exact this.symm
  have hm0w : IntKind.u64.wrap ((q0 : Int) * (yn1 : Int)) = (m0 : Int) := by rw [← Int.natCast_mul, ← hm0]; exact Mul64.wrapN _ (by omega)
  have hr0i : (V : Int) - (m0 : Int) = (r0 : Int) := by omega
  have hq0b : q0 < 4294967296 := by rw [hq0, HV.out]; exact HSH.out.g.d0
  have hr0b : r0 < 4294967296 := by rw [hr0]; have := Nat.mod_lt V (show 0 < yn1 by omega); omega
  have hdig : Hid (Digit Yp yn1 yn0 V un0 Q q0 r0) := Lib.hid (by rw [hq0, hr0, HV.out]; exact HSH.out.g.dig)
  have hq0w : IntKind.u64.wrap (q0 : Int) = (q0 : Int) := by rw [IntKind.wrap_u64]; omega
  have hr0w : IntKind.u64.wrap (r0 : Int) = (r0 : Int) := by rw [IntKind.wrap_u64]; omega
  obtain ⟨RP, hRP⟩ : ∃ RP, RP = Rm * 2 ^ s := ⟨_, rfl⟩
  have HSHR : Hid ((RP : Int) / 2 ^ s = (Rm : Int)) := Lib.hid (by rw [hRP]; exact HSH.out.sh)
  have hNN : N = V * 4294967296 + un0 := by rw [HV.out]; exact HSH.out.g.nw
  have hNR : N = Q * Yp + RP := by rw [hRP]; exact HSH.out.g.rem
  have hRPb : RP < 18446744073709551616 := by have h1 := HSH.out.g.remlt; have h2 := HSH.out.g.yp; rw [← hRP] at h1; omega
  obtain ⟨QY, hQY⟩ : ∃ QY, QY = Q * Yp := ⟨_, rfl⟩
  rw [← hQY] at hNR
  obtain ⟨A, hA⟩ : ∃ A : Nat, A = V * 4294967296 % 18446744073709551616 := ⟨_, rfl⟩
  obtain ⟨A2, hA2⟩ : ∃ A2 : Nat, A2 = (A + un0) % 18446744073709551616 := ⟨_, rfl⟩
  obtain ⟨Bv, hB⟩ : ∃ Bv : Nat, Bv = QY % 18446744073709551616 := ⟨_, rfl⟩
  have hAw : IntKind.u64.wrap ((V : Int) * 4294967296) = (A : Int) := by rw [hA, ← Mul64.wrapM, Int.natCast_mul]; rfl
  have hA2w : IntKind.u64.wrap ((A : Int) + (un0 : Int)) = (A2 : Int) := by rw [hA2, ← Mul64.wrapM, Int.natCast_add]
  have hBw : IntKind.u64.wrap ((Q : Int) * (Yp : Int)) = (Bv : Int) := by rw [hB, hQY, ← Mul64.wrapM, Int.natCast_mul]
  have hFw : IntKind.u64.wrap ((A2 : Int) - (Bv : Int)) = (RP : Int) := by rw [IntKind.wrap_u64]; omega
  have HAw := Lib.hid hAw
  have HA2w := Lib.hid hA2w
  have HBw := Lib.hid hBw
  have HFw := Lib.hid hFw
  have HVV := Lib.hid hVi
  have HNN := Lib.hid hNN
  clear hq0 hr0 hm0 hVm hRP hNN hNR hRPb hQY hA hA2 hB hAw hA2w hBw hFw hv0 hv hVi hVi2 hvn
  go_wp2
  have HQ := Lib.hid hq
  have HHY := Lib.hid hhy
  have HLO := Lib.hid hlo
  clear hq hhy hlo hq0i hm0w hr0i hvw
  go_loop [18, 16] (fun v18 v16 => ∃ q r : Nat, v18 = .int .u64 q ∧ v16 = .int .u64 r ∧ q < 4294967296 ∧ r < 4294967296 ∧ Hid (Digit Yp yn1 yn0 V un0 Q q r)) (fun v18 _ => (intOf v18).toNat)
  case atStart => exact ⟨q0, r0, rfl, rfl, hq0b, hr0b, hdig⟩
  case round =>
    obtain ⟨q, r, rfl, rfl, hqb, hrb, hd⟩ := hrel
    clear hq0b hr0b hdig hq0w hr0w
    obtain ⟨z, hz⟩ : ∃ z, z = q * yn0 := ⟨_, rfl⟩
    have hzb : z < 18446744073709551616 := by rw [hz]; exact mul_lt_word hqb y0
    have hzw : IntKind.u64.wrap ((q : Int) * (yn0 : Int)) = (z : Int) := by rw [← Int.natCast_mul, ← hz]; exact Mul64.wrapN _ hzb
    have b1 : decide ((4294967296 : Int) ≤ (q : Int)) = false := decide_eq_false (by omega)
    have b2 : decide (4294967296 ≤ q) = false := decide_eq_false (by omega)
    obtain ⟨R, hR⟩ : ∃ R, R = 4294967296 * r + un0 := ⟨_, rfl⟩
    have hv : IntKind.u64.wrap (4294967296 * (r : Int)) = 4294967296 * (r : Int) := by rw [IntKind.wrap_u64]; omega
    have hRi : 4294967296 * (r : Int) + (un0 : Int) = (R : Int) := by omega
    have hRw : IntKind.u64.wrap (R : Int) = (R : Int) := by rw [IntKind.wrap_u64]; omega
    by_cases ht : R < z
    · have hlq := hd.out.gt HSH.out.g.yp HNN.out HSH.out.g.qlo (by rw [← hR, ← hz]; exact ht)
      have hd2 := hd.out.step hlq
      obtain ⟨q', hq'⟩ : ∃ q', q = q' + 1 := ⟨q - 1, by omega⟩
      rw [hq', Nat.add_sub_cancel] at hd2
      have hti : (R : Int) < (z : Int) := by omega
      have htd : decide ((R : Int) < (z : Int)) = true := decide_eq_true hti
      have hq'i : (q : Int) - 1 = (q' : Int) := by omega
      have hq'w : IntKind.u64.wrap (q' : Int) = (q' : Int) := by rw [IntKind.wrap_u64]; omega
      obtain ⟨r', hr'⟩ : ∃ r', r' = r + yn1 := ⟨_, rfl⟩
      rw [← hr'] at hd2
      have hr'i : (r : Int) + (yn1 : Int) = (r' : Int) := by omega
      have hr'w : IntKind.u64.wrap (r' : Int) = (r' : Int) := by rw [IntKind.wrap_u64]; omega
      have HD2 := Lib.hid hd2
      have hmes : q' < q := by omega
      have hq'b : q' < 4294967296 := by omega
      clear hd2 hlq hz hR hq' hd ht
      by_cases hbr : r' < 4294967296
      · have hbi : (r' : Int) < 4294967296 := by omega
        have hbd : decide ((4294967296 : Int) ≤ (r' : Int)) = false := decide_eq_false (by omega)
        clear hr'
        go_wp2
        go_round
        case rel => exact ⟨q', r', rfl, rfl, hq'b, hbr, HD2⟩
        case measure => simp [intOf]; omega
      · have hbi : ¬ (r' : Int) < 4294967296 := by omega
        have hbd : decide ((4294967296 : Int) ≤ (r' : Int)) = true := decide_eq_true (by omega)
        have hQ : q' = Q := HD2.out.eq_of HSH.out.g.yp HNN.out HSH.out.g.qhi (by have := mul_lt_word hq'b y0; omega)
        subst hQ
        clear hr'
        go_wp2
        simp only [HAw.out, HA2w.out, HBw.out, HFw.out, HSHR.out]
        go_ret2
        exact quorem_mk rfl rfl
    · have hti : ¬ (R : Int) < (z : Int) := by omega
      have htd : decide ((R : Int) < (z : Int)) = false := decide_eq_false hti
      have hQ : q = Q := hd.out.eq_of HSH.out.g.yp HNN.out HSH.out.g.qhi (by rw [← hR, ← hz]; omega)
      subst hQ
      have hqw : IntKind.u64.wrap (q : Int) = (q : Int) := by rw [IntKind.wrap_u64]; omega
      clear hz hR ht hd
      go_wp2
      simp only [HAw.out, HA2w.out, HBw.out, HFw.out, HSHR.out]
      go_ret2
      exact quorem_mk rfl rfl

/-- Div64 where the quotient is small. -/
theorem div64_any (hi lo y : Nat) (w : World) (hhy : hi < y) (hlo : lo < 18446744073709551616) (hy : y < 9223372036854775808) (hq : 0 < hi → (hi * 18446744073709551616 + lo) / y < 2147483648) :
    Calls Try.prog 93 #[.int .u64 hi, .int .u64 lo, .int .u64 y] w (QuoRem ((hi * 18446744073709551616 + lo) / y) ((hi * 18446744073709551616 + lo) % y) w) := by
  by_cases h : hi = 0
  · subst h
    rw [Nat.zero_mul, Nat.zero_add]
    exact div64_low lo y w hlo (by omega) (by omega)
  · have l1 := lt_bitLen y (by omega)
    have l2 := bitLen_le' y (by omega) (by omega)
    have l3 : Lib.bitLen y ≤ 63 := Lib.bitLen_le y 63 (by omega) (by omega)
    have l4 : 1 ≤ Lib.bitLen y := by
      rcases Nat.eq_zero_or_pos (Lib.bitLen y) with h0 | h0
      · rw [h0] at l1; omega
      · exact h0
    have e : 2 ^ Lib.bitLen y * 2 ^ (64 - Lib.bitLen y) = 18446744073709551616 := by rw [← Nat.pow_add, show Lib.bitLen y + (64 - Lib.bitLen y) = 64 by omega]
    have h1 : y * 2 ^ (64 - Lib.bitLen y) < 18446744073709551616 := by rw [← e]; exact Nat.mul_lt_mul_of_pos_right l1 (Nat.two_pow_pos _)
    have h2 : 18446744073709551616 ≤ 2 * (y * 2 ^ (64 - Lib.bitLen y)) := by rw [← e, ← Nat.mul_assoc]; exact Nat.mul_le_mul_right _ l2
    exact div64_great hi lo y (64 - Lib.bitLen y) w (by omega) hhy hlo hy rfl (by omega) (by omega) (by omega) h1 (hq (by omega))

end Go.Proofs.Ytigpghmbeldakaa
