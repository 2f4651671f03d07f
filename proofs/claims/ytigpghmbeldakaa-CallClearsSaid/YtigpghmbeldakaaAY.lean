/- bits.Div64 where the divisor is great and the quotient is small: the arithmetic. No Go here. -/
namespace Go.Proofs.Ytigpghmbeldakaa

/-- Shifted, the dividend is the high part and the low part. -/
theorem shift_eq {hi lo P T b un32 L : Nat} (hPT : P * T = b) (hu : un32 = hi * P + lo / T) (hL : L = lo % T * P) : (hi * b + lo) * P = un32 * b + L := by
  have e1 : lo = lo / T * T + lo % T := by have := Nat.div_add_mod lo T; rw [Nat.mul_comm] at this; exact this.symm
  have e2 : lo * P = lo / T * b + L := by
    rw [hL, ← hPT]
    conv => lhs; rw [e1]
    rw [Nat.add_mul, Nat.mul_assoc, Nat.mul_comm T P]
  rw [Nat.add_mul, e2, hu, Nat.add_mul, ← Nat.add_assoc]
  congr 2
  rw [Nat.mul_assoc, Nat.mul_comm b P, ← Nat.mul_assoc]

/-- One place of the long division: the quotient that is tried, against the true one. -/
structure Digit (Yp yn1 yn0 un21 un0 Q q r : Nat) : Prop where
  eq : q * yn1 + r = un21
  ge : Q ≤ q

section
variable {Yp yn1 yn0 un21 un0 Q q r N : Nat}

theorem Digit.mul (h : Digit Yp yn1 yn0 un21 un0 Q q r) (hy : Yp = yn1 * 4294967296 + yn0) : q * Yp + r * 4294967296 = un21 * 4294967296 + q * yn0 := by
  rw [hy, ← h.eq, Nat.mul_add, Nat.add_mul, Nat.mul_assoc]
  omega
theorem Digit.gt (h : Digit Yp yn1 yn0 un21 un0 Q q r) (hy : Yp = yn1 * 4294967296 + yn0) (hN : N = un21 * 4294967296 + un0) (hQ : Q * Yp ≤ N) (ht : 4294967296 * r + un0 < q * yn0) : Q < q := by
  have hm := h.mul hy
  have : Q * Yp < q * Yp := by omega
  exact Nat.lt_of_mul_lt_mul_right this
theorem Digit.eq_of (h : Digit Yp yn1 yn0 un21 un0 Q q r) (hy : Yp = yn1 * 4294967296 + yn0) (hN : N = un21 * 4294967296 + un0) (hQ : N < (Q + 1) * Yp) (ht : q * yn0 ≤ 4294967296 * r + un0) : q = Q := by
  have hm := h.mul hy
  have h1 : q * Yp < (Q + 1) * Yp := by omega
  have h2 := Nat.lt_of_mul_lt_mul_right h1
  have := h.ge
  omega
theorem Digit.step (h : Digit Yp yn1 yn0 un21 un0 Q q r) (hl : Q < q) : Digit Yp yn1 yn0 un21 un0 Q (q - 1) (r + yn1) := by
  refine ⟨?_, by omega⟩
  obtain ⟨k, rfl⟩ : ∃ k, q = k + 1 := ⟨q - 1, by omega⟩
  have := h.eq
  rw [Nat.add_mul, Nat.one_mul] at this
  simp only [Nat.add_sub_cancel]
  omega
end

theorem mul_lt_word {a b : Nat} (ha : a < 4294967296) (hb : b < 4294967296) : a * b < 18446744073709551616 := by
  have h1 : a * b ≤ 4294967295 * 4294967295 := Nat.mul_le_mul (by omega) (by omega)
  omega

/-- The numbers of such a division. -/
structure Great (hi lo y P T Yp yn1 yn0 un32 L un1 un0 Q Rm N : Nat) : Prop where
  yp : Yp = yn1 * 4294967296 + yn0
  yn1lo : 2147483648 ≤ yn1
  yn1hi : yn1 < 4294967296
  yn0hi : yn0 < 4294967296
  u32 : un32 < 2147483648
  u1 : un1 < 4294967296
  u0 : un0 < 4294967296
  lw : L = un1 * 4294967296 + un0
  nw : N = (un32 * 4294967296 + un1) * 4294967296 + un0
  qlo : Q * Yp ≤ N
  qhi : N < (Q + 1) * Yp
  q : Q < 2147483648
  rem : N = Q * Yp + Rm * P
  remlt : Rm * P < Yp
  d0 : (un32 * 4294967296 + un1) / yn1 < 4294967296
  dig : Digit Yp yn1 yn0 (un32 * 4294967296 + un1) un0 Q ((un32 * 4294967296 + un1) / yn1) ((un32 * 4294967296 + un1) % yn1)

theorem words {N un32 L un1 un0 V : Nat} (h : N = un32 * 18446744073709551616 + L) (h2 : L = un1 * 4294967296 + un0) (hV : V = un32 * 4294967296 + un1) : N = V * 4294967296 + un0 := by
  have e : un32 * 18446744073709551616 = un32 * 4294967296 * 4294967296 := by rw [Nat.mul_assoc]
  rw [h, h2, hV, e, Nat.add_mul, Nat.add_assoc]

theorem great_mk {hi lo y P T B U Q Rm Yp un32 L N : Nat} (hB : B = 18446744073709551616) (hPT : P * T = B) (hP : 0 < P) (hy0 : 0 < y) (hYp : Yp = y * P) (hY1 : 9223372036854775808 ≤ Yp) (hY2 : Yp < 18446744073709551616)
    (hU : U = hi * B + lo) (hQ : Q = U / y) (hR : Rm = U % y) (hu : un32 = hi * P + lo / T) (hLe : L = lo % T * P) (hNe : N = U * P) (hq : Q < 2147483648) :
    Great hi lo y P T Yp (Yp / 4294967296) (Yp % 4294967296) un32 L (L / 4294967296) (L % 4294967296) Q Rm N := by
  have hT : 0 < T := Nat.pos_of_ne_zero (fun h => by rw [h, Nat.mul_zero] at hPT; omega)
  have hL : L < B := by
    rw [hLe, ← hPT, Nat.mul_comm P T]
    exact Nat.mul_lt_mul_of_pos_right (Nat.mod_lt _ hT) hP
  have hN : N = un32 * B + L := by rw [hNe, hU]; exact shift_eq hPT hu hLe
  have hdm : U = Q * y + Rm := by rw [hQ, hR]; have := Nat.div_add_mod U y; rw [Nat.mul_comm] at this; exact this.symm
  have hrm : Rm < y := by rw [hR]; exact Nat.mod_lt _ hy0
  have hrem : N = Q * Yp + Rm * P := by rw [hNe, hdm, Nat.add_mul, Nat.mul_assoc, hYp]
  have hrl : Rm * P < Yp := by rw [hYp]; exact Nat.mul_lt_mul_of_pos_right hrm hP
  have hhi : N < (Q + 1) * Yp := by have e : (Q + 1) * Yp = Q * Yp + Yp := Nat.succ_mul Q Yp
                                    rw [e, hrem]; exact Nat.add_lt_add_left hrl _
  subst hB
  clear hu hLe hNe hU hQ hR hYp hPT hdm hrm
  have hb : (Q + 1) * Yp ≤ 2147483648 * Yp := Nat.mul_le_mul_right _ (by omega)
  have h32 : un32 < 2147483648 := by omega
  have h1e : Yp = Yp / 4294967296 * 4294967296 + Yp % 4294967296 := by omega
  have h1b : Yp % 4294967296 < 4294967296 := by omega
  have h2e : L = L / 4294967296 * 4294967296 + L % 4294967296 := by omega
  have h2b : L % 4294967296 < 4294967296 := by omega
  have h2c : L / 4294967296 < 4294967296 := by omega
  have h1c : Yp / 4294967296 < 4294967296 := by omega
  generalize Yp / 4294967296 = yn1 at *
  generalize Yp % 4294967296 = yn0 at *
  generalize L / 4294967296 = un1 at *
  generalize L % 4294967296 = un0 at *
  have hy1 : 2147483648 ≤ yn1 := by omega
  obtain ⟨V, hV⟩ : ∃ V, V = un32 * 4294967296 + un1 := ⟨_, rfl⟩
  have hN2 : N = V * 4294967296 + un0 := words hN h2e hV
  have hg : Q ≤ V / yn1 := by
    rw [Nat.le_div_iff_mul_le (by omega)]
    have h1 : Q * yn1 * 4294967296 ≤ Q * Yp := by
      rw [Nat.mul_assoc]
      exact Nat.mul_le_mul_left _ (by omega)
    omega
  refine ⟨h1e, hy1, h1c, h1b, h32, h2c, h2b, h2e, by rw [← hV]; exact hN2, by omega, hhi, hq, hrem, hrl, ?_, ⟨?_, by rw [← hV]; exact hg⟩⟩
  · rw [← hV]
    refine Nat.div_lt_of_lt_mul ?_
    have : 2147483648 * 4294967296 ≤ yn1 * 4294967296 := Nat.mul_le_mul_right _ hy1
    omega
  · rw [← hV]
    have := Nat.div_add_mod V yn1
    rw [Nat.mul_comm] at this
    exact this

end Go.Proofs.Ytigpghmbeldakaa
