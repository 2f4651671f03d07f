/- bits.Div64 where the divisor is small. -/
import Derived.Test.YtofaioabjkcaiaaBE
import Derived.Test.YtofaioabjkcaiaaBM
import Derived.Deep.DeepCutAuto
import Derived.Deep.CutBlock
namespace Go.Proofs.Ytofaioabjkcaiaa
open Go.RowKit

theorem lt_bitLen : ∀ (y : Nat), y < 2 ^ 64 → y < 2 ^ Lib.bitLen y := by
  intro y
  induction y using Nat.strongRecOn with
  | _ y ih =>
    intro h
    by_cases h0 : y = 0
    · subst h0; decide
    · have h1 := ih (y / 2) (by omega) (by omega)
      rw [Lib.bitLen_half y h0 h, Nat.pow_add]
      omega

theorem two_le {y : Nat} (h : 2 ≤ y) (h2 : y < 4294967296) : 2 ≤ Lib.bitLen y := by
  rw [Lib.bitLen_half y (by omega) (by omega), Lib.bitLen_half (y / 2) (by omega) (by omega)]
  omega

theorem bit_shift {y : Nat} (h : y < 4294967296) (hl : Lib.bitLen y ≤ 32) : y * 2 ^ (64 - Lib.bitLen y) < 18446744073709551616 := by
  have h1 := lt_bitLen y (by omega)
  have h2 : 2 ^ Lib.bitLen y * 2 ^ (64 - Lib.bitLen y) = 18446744073709551616 := by rw [← Nat.pow_add, show Lib.bitLen y + (64 - Lib.bitLen y) = 64 by omega]
  rw [← h2]
  exact Nat.mul_lt_mul_of_pos_right h1 (Nat.two_pow_pos _)

/-- What Div64 returns: the quotient, and something. -/
def QuoGot (q : Nat) (w : World) (e : Ending) (w' : World) : Prop := (∃ r, e = .returned (.tuple #[.int .u64 (q : Int), .int .u64 r])) ∧ ∃ n, w' = w.drewN n

theorem quo_mk {q : Nat} {a r : Int} {w : World} (h : a = (q : Int)) : QuoGot q w (.returned (.tuple #[.int .u64 a, .int .u64 r])) w := ⟨⟨r, by rw [h]⟩, 0, rfl⟩

set_option maxRecDepth 100000 in
set_option maxHeartbeats 2000000 in
theorem div64_low (lo y : Nat) (w : World) (hlo : lo < 18446744073709551616) (hy : 0 < y) (hy2 : y < 4294967296) :
    Calls Try.prog 92 #[.int .u64 0, .int .u64 lo, .int .u64 y] w (QuoGot (lo / y) w) := by
  have hy0 : ((y : Int) == 0) = false := beq_eq_false_iff_ne.2 (by omega)
  have hy00 : decide (y = 0) = false := decide_eq_false (by omega)
  have hyl : decide (y ≤ 0) = false := decide_eq_false (by omega)
  have hw : IntKind.u64.wrap ((lo : Int) / (y : Int)) = ((lo / y : Nat) : Int) := by rw [← Int.natCast_ediv]; exact Mul64.wrapN _ (Nat.lt_of_le_of_lt (Nat.div_le_self _ _) hlo)
  generalize lo / y = q at *
  go_enter Try.func92, Try.ntmps92
  go_wp2
  go_quiet (fail)
  go_wp2
  go_ret2
  exact ⟨⟨_, rfl⟩, _, rfl⟩

/-- The numbers of a division by a small divisor, shifted. -/
structure Shifted (hi lo y s : Nat) (yn1 Yp un32 L un1 un0 : Nat) : Prop where
  f1 : IntKind.u64.wrap ((y : Int) * 2 ^ s) = (Yp : Int)
  f2 : bits .and .u64 (Yp : Int) 4294967295 = 0
  f3 : bits .or .u64 (IntKind.u64.wrap ((hi : Int) * 2 ^ s)) ((lo : Int) / 2 ^ (64 - s)) = (un32 : Int)
  f6 : IntKind.u64.wrap ((lo : Int) * 2 ^ s) = (L : Int)
  f7 : (L : Int) / 4294967296 = (un1 : Int)
  f8 : bits .and .u64 (L : Int) 4294967295 = (un0 : Int)
  f9 : (Yp : Int) / 4294967296 = (yn1 : Int)
  yp : Yp = yn1 * 4294967296
  y0 : 0 < yn1
  y1 : yn1 < 4294967296
  u32 : un32 < yn1 * 4294967296
  u1 : un1 < 4294967296
  u0 : un0 < 4294967296
  eq : ∀ q1 r q0 r0, un32 = q1 * yn1 + r → r * 4294967296 + un1 = q0 * yn1 + r0 → r0 < yn1 → (hi * 18446744073709551616 + lo) / y = q1 * 4294967296 + q0

theorem shifted_mk {hi lo y s : Nat} (hhy : hi < y) (hlo : lo < 18446744073709551616) (hs1 : 32 ≤ s) (hs2 : s ≤ 62) (hys : y * 2 ^ s < 18446744073709551616) :
    ∃ yn1 Yp un32 L un1 un0, Shifted hi lo y s yn1 Yp un32 L un1 un0 := by
  have hPT : 2 ^ s * 2 ^ (64 - s) = 18446744073709551616 := by rw [← Nat.pow_add, show s + (64 - s) = 64 by omega]
  have hP : 0 < 2 ^ s := Nat.two_pow_pos s
  have hs : 2 ^ s = 2 ^ (s - 32) * 4294967296 := by
    have : 2 ^ s = 2 ^ (s - 32) * 2 ^ 32 := by rw [← Nat.pow_add, show s - 32 + 32 = s by omega]
    rw [this]
  have hT : 0 < 2 ^ (64 - s) := Nat.two_pow_pos _
  have c1 : ((2 : Int) ^ s) = ((2 ^ s : Nat) : Int) := by push_cast; rfl
  have c2 : ((2 : Int) ^ (64 - s)) = ((2 ^ (64 - s) : Nat) : Int) := by push_cast; rfl
  have hor : ∀ a b, b < 2 ^ s → (a * 2 ^ s) ||| b = a * 2 ^ s + b := fun a b hb => by
    have := Nat.shiftLeft_add_eq_or_of_lt hb a
    rw [Nat.shiftLeft_eq] at this
    exact this.symm
  generalize hPe : 2 ^ s = P at *
  generalize hTe : 2 ^ (64 - s) = T at *
  have hlt : lo / T < P := Nat.div_lt_of_lt_mul (by rw [Nat.mul_comm, hPT]; exact hlo)
  have hH : (hi + 1) * P ≤ y * P := Nat.mul_le_mul_right P hhy
  rw [Nat.add_mul, Nat.one_mul] at hH
  have hY : y * P = y * 2 ^ (s - 32) * 4294967296 := by rw [hs, Nat.mul_assoc]
  have hL : lo * P % 18446744073709551616 = lo % T * P := by
    have e1 : lo = lo / T * T + lo % T := by have := Nat.div_add_mod lo T; rw [Nat.mul_comm] at this; exact this.symm
    have e2 : lo * P = lo / T * 18446744073709551616 + lo % T * P := by
      conv => lhs; rw [e1]
      rw [Nat.add_mul, Nat.mul_assoc, Nat.mul_comm T P, hPT]
    have e3 : lo % T * P < 18446744073709551616 := by
      rw [← hPT, Nat.mul_comm P T]
      exact Nat.mul_lt_mul_of_pos_right (Nat.mod_lt _ hT) hP
    rw [e2, Nat.mul_comm (lo / T), Nat.mul_add_mod, Nat.mod_eq_of_lt e3]
  have hLb : lo % T * P < 18446744073709551616 := by rw [← hL]; exact Nat.mod_lt _ (by omega)
  have hyn0 : 0 < y * 2 ^ (s - 32) := Nat.mul_pos (by omega) (Nat.two_pow_pos _)
  generalize hyn : y * 2 ^ (s - 32) = yn1 at *
  refine ⟨yn1, y * P, hi * P + lo / T, lo % T * P, lo % T * P / 4294967296, lo % T * P % 4294967296, ?_, ?_, ?_, ?_, ?_, ?_, ?_, hY, hyn0, by omega, by omega, by omega, by omega, ?_⟩
  · rw [c1, ← Int.natCast_mul, Mul64.wrapN _ hys]
  · rw [Mul64.maskN _ hys, hY, Nat.mul_mod_left]; rfl
  · rw [c1, c2, ← Int.natCast_mul, Mul64.wrapN _ (by omega), ← Int.natCast_ediv, bits_or_u64_nat _ _ (by omega) (by omega), hor _ _ hlt]
  · rw [c1, ← Int.natCast_mul, Mul64.wrapM, hL]
  · omega
  · exact Mul64.maskN _ (by omega)
  · rw [hY]; omega
  · intro q1 r q0 r0 h1 h2 h3
    exact div64_math (b := 4294967296) (by omega) (by rw [hPT]) hP hY rfl rfl (Nat.div_add_mod' _ _).symm (Nat.mod_lt _ (by omega)) h1 h2 h3

set_option maxRecDepth 100000 in
set_option maxHeartbeats 4000000 in
theorem div64_high (hi lo y s : Nat) (w : World) (hhi : 0 < hi) (hhy : hi < y) (hlo : lo < 18446744073709551616) (hy2 : y < 4294967296) (hs : s = 64 - Lib.bitLen y) (hs1 : 32 ≤ s) (hs2 : s ≤ 62) (hys : y * 2 ^ s < 18446744073709551616) :
    Calls Try.prog 92 #[.int .u64 hi, .int .u64 lo, .int .u64 y] w (QuoGot ((hi * 18446744073709551616 + lo) / y) w) := by
  have hy0 : ((y : Int) == 0) = false := beq_eq_false_iff_ne.2 (by omega)
  have hh0 : ((hi : Int) == 0) = false := beq_eq_false_iff_ne.2 (by omega)
  have hyh : decide (y ≤ hi) = false := decide_eq_false (by omega)
  obtain ⟨yn1, Yp, un32, L, un1, un0, hsh⟩ := shifted_mk hhy hlo hs1 hs2 hys
  have HSH := Lib.hid hsh
  have hl : Lib.bitLen y ≤ 64 := by omega
  have e1 : (64 : Int) - (Lib.bitLen y : Int) = (s : Int) := by omega
  have E1 := Lib.hid e1
  clear hys hs hl e1 hsh
  go_enter Try.func92, Try.ntmps92
  go_upto_region 15 with (go_at_call 111; refine (bits_LeadingZeros64 _ _ (by omega) (by omega)).mono ?_; rintro e w' ⟨rfl, rfl⟩; rw [Int.toNat_natCast, E1.out])
  simp only [HSH.out.f1, HSH.out.f2, HSH.out.f3, HSH.out.f6, HSH.out.f7, HSH.out.f8, HSH.out.f9]
  have y0 := HSH.out.y0
  have y1 := HSH.out.y1
  have u32 := HSH.out.u32
  have u1 := HSH.out.u1
  have u0 := HSH.out.u0
  have hq1 : un32 / yn1 < 4294967296 := quo_lt (by omega) u32
  have hr1 : un32 % yn1 < yn1 := Nat.mod_lt _ y0
  have hd1 : un32 = un32 / yn1 * yn1 + un32 % yn1 := by have := Nat.div_add_mod un32 yn1; rw [Nat.mul_comm] at this; exact this.symm
  obtain ⟨q1, hq1e⟩ : ∃ q1, un32 / yn1 = q1 := ⟨_, rfl⟩
  obtain ⟨r, hre⟩ : ∃ r, un32 % yn1 = r := ⟨_, rfl⟩
  have hc : ((un32 : Int) / (yn1 : Int)) = (q1 : Int) := by rw [← Int.natCast_ediv, hq1e]
  rw [hq1e] at hq1 hd1
  rw [hre] at hr1 hd1
  obtain ⟨m1, hm1⟩ : ∃ m1, m1 = q1 * yn1 := ⟨_, rfl⟩
  have hm1b : m1 + r < 18446744073709551616 := by rw [hm1, ← hd1]; omega
  have hwm : IntKind.u64.wrap ((q1 : Int) * (yn1 : Int)) = (m1 : Int) := by rw [← Int.natCast_mul, ← hm1]; exact Mul64.wrapN _ (by omega)
  have HD1 := Lib.hid hd1
  have HM1 := Lib.hid hm1
  have hun : un32 = m1 + r := by rw [hm1]; exact hd1
  clear hd1 hm1 hq1e hre
  have HC := Lib.hid hc
  clear hc
  have HUN := Lib.hid hun
  clear hun
  go_upto_region 16 with fail
  rw [HC.out]
  have hwq : IntKind.u64.wrap (q1 : Int) = (q1 : Int) := Mul64.wrapN _ (by omega)
  simp only [hwq]
  clear hwq
  have hun := HUN.out
  subst hun
  go_wp2
  rw [show (m1 : Int) + (r : Int) - (m1 : Int) = (r : Int) by omega]
  have HYP : Hid (q1 * Yp = m1 * 4294967296) := Lib.hid (by rw [HSH.out.yp, ← Nat.mul_assoc, ← HM1.out])
  obtain ⟨A, hA⟩ : ∃ A : Nat, IntKind.u64.wrap (((m1 : Int) + (r : Int)) * 4294967296) = (A : Int) ∧ A = (m1 + r) * 4294967296 % 18446744073709551616 := ⟨_, by rw [← Mul64.wrapM, Int.natCast_mul, Int.natCast_add]; rfl, rfl⟩
  obtain ⟨A2, hA2⟩ : ∃ A2 : Nat, IntKind.u64.wrap ((A : Int) + (un1 : Int)) = (A2 : Int) ∧ A2 = (A + un1) % 18446744073709551616 := ⟨_, by rw [← Mul64.wrapM, Int.natCast_add], rfl⟩
  obtain ⟨Bv, hB⟩ : ∃ Bv : Nat, IntKind.u64.wrap ((q1 : Int) * (Yp : Int)) = (Bv : Int) ∧ Bv = m1 * 4294967296 % 18446744073709551616 := ⟨_, by rw [← Int.natCast_mul, HYP.out, Mul64.wrapM], rfl⟩
  obtain ⟨U, hU⟩ : ∃ U : Nat, U = r * 4294967296 + un1 := ⟨_, rfl⟩
  have hC4 : IntKind.u64.wrap ((A2 : Int) - (Bv : Int)) = (U : Int) := by rw [IntKind.wrap_u64]; omega
  have hA1 := hA.1
  have hA21 := hA2.1
  have hB1 := hB.1
  have HU := Lib.hid hU
  have HLO := Lib.hid hlo
  have HMB := Lib.hid hm1b
  have hU2 : U < yn1 * 4294967296 := by
    have : (r + 1) * 4294967296 ≤ yn1 * 4294967296 := Nat.mul_le_mul_right _ hr1
    rw [Nat.add_mul] at this
    omega
  clear hA hA2 hB hU hlo hm1b
  refine wp_loop_once ?_
  go_upto_region 17 with fail
  have b1 : decide ((4294967296 : Int) ≤ (q1 : Int)) = false := decide_eq_false (by omega)
  have b2 : decide (4294967296 ≤ q1) = false := decide_eq_false (by omega)
  have hz : IntKind.u64.wrap ((q1 : Int) * 0) = 0 := by rw [Int.mul_zero]; rfl
  have hv : IntKind.u64.wrap (4294967296 * (r : Int)) = 4294967296 * (r : Int) := by rw [IntKind.wrap_u64]; omega
  have hv2 : IntKind.u64.wrap (4294967296 * (r : Int) + (un1 : Int)) = 4294967296 * (r : Int) + (un1 : Int) := by rw [IntKind.wrap_u64]; omega
  have b3 : decide (4294967296 * (r : Int) + (un1 : Int) < 0) = false := decide_eq_false (by omega)
  have HQ1 := Lib.hid hq1
  have HR1 := Lib.hid hr1
  have HY1 := Lib.hid y1
  have HU32 := Lib.hid u32
  have HU1 := Lib.hid u1
  have HU0 := Lib.hid u0
  have HY2 := Lib.hid hy2
  have HU2 := Lib.hid hU2
  have HA1 := Lib.hid hA1
  have HA21 := Lib.hid hA21
  have HB1 := Lib.hid hB1
  have HC4 := Lib.hid hC4
  clear hA1 hA21 hB1 hC4 hq1 hr1 y1 u32 u1 u0 hy2 hU2
  go_upto_region 22 with fail
  rw [HA1.out, HA21.out, HB1.out, HC4.out]
  have hq0 : U / yn1 < 4294967296 := quo_lt (by omega) HU2.out
  have hr0 : U % yn1 < yn1 := Nat.mod_lt _ y0
  have hd0 : U = U / yn1 * yn1 + U % yn1 := by have := Nat.div_add_mod U yn1; rw [Nat.mul_comm] at this; exact this.symm
  obtain ⟨q0, hq0e⟩ : ∃ q0, U / yn1 = q0 := ⟨_, rfl⟩
  obtain ⟨r0, hr0e⟩ : ∃ r0, U % yn1 = r0 := ⟨_, rfl⟩
  have hc0 : IntKind.u64.wrap ((U : Int) / (yn1 : Int)) = (q0 : Int) := by rw [← Int.natCast_ediv, hq0e]; exact Mul64.wrapN _ (by omega)
  have hc0' : ((U : Int) / (yn1 : Int)) = (q0 : Int) := by rw [← Int.natCast_ediv, hq0e]
  rw [hq0e] at hq0 hd0
  rw [hr0e] at hr0 hd0
  obtain ⟨m0, hm0⟩ : ∃ m0, m0 = q0 * yn1 := ⟨_, rfl⟩
  have hm0b : m0 + r0 < 18446744073709551616 := by have h1 := HU2.out; have h2 := HY1.out; rw [hm0, ← hd0]; omega
  have hwm0 : IntKind.u64.wrap ((q0 : Int) * (yn1 : Int)) = (m0 : Int) := by rw [← Int.natCast_mul, ← hm0]; exact Mul64.wrapN _ (by omega)
  have hwq0 : IntKind.u64.wrap (q0 : Int) = (q0 : Int) := Mul64.wrapN _ (by omega)
  have hun0 : U = m0 + r0 := by rw [hm0]; exact hd0
  have hsub : IntKind.u64.wrap ((U : Int) - (m0 : Int)) = (r0 : Int) := by rw [hun0, Int.natCast_add, show (m0 : Int) + (r0 : Int) - (m0 : Int) = (r0 : Int) by omega]; exact Mul64.wrapN _ (by omega)
  have HD0 := Lib.hid hd0
  have HC0 := Lib.hid hc0
  have HC0' := Lib.hid hc0'
  have HSUB := Lib.hid hsub
  have HWM0 := Lib.hid hwm0
  have HWQ0 := Lib.hid hwq0
  have HQ0 := Lib.hid hq0
  have HR0 := Lib.hid hr0
  clear hd0 hc0 hc0' hsub hwm0 hwq0 hq0 hr0 hm0b hm0 hq0e hr0e hun0
  go_upto_region 23 with fail
  simp only [HC0'.out, HWQ0.out]
  go_wp2
  simp only [HWM0.out, HSUB.out]
  have c1 : decide ((4294967296 : Int) ≤ (q0 : Int)) = false := decide_eq_false (by have := HQ0.out; omega)
  have c2 : decide (4294967296 ≤ q0) = false := decide_eq_false (by have := HQ0.out; omega)
  have cz : IntKind.u64.wrap ((q0 : Int) * 0) = 0 := by rw [Int.mul_zero]; rfl
  have cv : IntKind.u64.wrap (4294967296 * (r0 : Int)) = 4294967296 * (r0 : Int) := by have h1 := HR0.out; have h2 := HY1.out; rw [IntKind.wrap_u64]; omega
  have cv2 : IntKind.u64.wrap (4294967296 * (r0 : Int) + (un0 : Int)) = 4294967296 * (r0 : Int) + (un0 : Int) := by have h1 := HR0.out; have h2 := HY1.out; have h3 := HU0.out; rw [IntKind.wrap_u64]; omega
  have c3 : decide (4294967296 * (r0 : Int) + (un0 : Int) < 0) = false := decide_eq_false (by omega)
  refine wp_loop_once ?_
  go_wp2
  have hfin : IntKind.u64.wrap (IntKind.u64.wrap ((q1 : Int) * 4294967296) + (q0 : Int)) = (((hi * 18446744073709551616 + lo) / y : Nat) : Int) := by
    rw [HSH.out.eq q1 r q0 r0 HD1.out (by rw [← HU.out]; exact HD0.out) HR0.out, Int.natCast_add, Int.natCast_mul]
    have h1 := HQ1.out
    have h2 := HQ0.out
    rw [IntKind.wrap_u64, IntKind.wrap_u64]
    omega
  have HFIN := Lib.hid hfin
  clear hfin
  go_ret2
  exact quo_mk HFIN.out

/-- Div64 where the divisor is small and the quotient fits. -/
theorem div64_any (hi lo y : Nat) (w : World) (hhy : hi < y) (hlo : lo < 18446744073709551616) (hy2 : y < 4294967296) :
    Calls Try.prog 92 #[.int .u64 hi, .int .u64 lo, .int .u64 y] w (QuoGot ((hi * 18446744073709551616 + lo) / y) w) := by
  by_cases h : hi = 0
  · subst h
    rw [Nat.zero_mul, Nat.zero_add]
    exact div64_low lo y w hlo (by omega) hy2
  · have l1 : Lib.bitLen y ≤ 32 := Lib.bitLen_le y 32 (by omega) (by omega)
    have l2 : 2 ≤ Lib.bitLen y := two_le (by omega) hy2
    exact div64_high hi lo y (64 - Lib.bitLen y) w (by omega) hhy hlo hy2 rfl (by omega) (by omega) (bit_shift hy2 l1)

end Go.Proofs.Ytofaioabjkcaiaa
