/- The arithmetic of bits.Div64 where the divisor is small. No Go here. -/
namespace Go.Proofs.Ytofaioabjkcaiaa

/-- Words: B = 2^32 (b) and its square. -/
theorem div64_math {hi lo y P T yn1 un32 L un1 un0 q1 r q0 r0 b : Nat} (hb : 0 < b) (hPT : P * T = b * b) (hP : 0 < P) (hy : y * P = yn1 * b) (hu : un32 = hi * P + lo / T) (hL : L = lo % T * P) (hL1 : L = un1 * b + un0) (h0 : un0 < b)
    (h1 : un32 = q1 * yn1 + r) (h2 : r * b + un1 = q0 * yn1 + r0) (h3 : r0 < yn1) : (hi * (b * b) + lo) / y = q1 * b + q0 := by
  have e1 : lo = lo / T * T + lo % T := by have := Nat.div_add_mod lo T; rw [Nat.mul_comm] at this; exact this.symm
  have e2 : lo * P = lo / T * (b * b) + L := by
    rw [hL, ← hPT]
    conv => lhs; rw [e1]
    rw [Nat.add_mul, Nat.mul_assoc, Nat.mul_comm T P]
  have e3 : (hi * (b * b) + lo) * P = yn1 * b * (q1 * b + q0) + (r0 * b + un0) := by
    have k1 : (hi * (b * b) + lo) * P = un32 * (b * b) + L := by
      rw [Nat.add_mul, e2, hu, Nat.add_mul, ← Nat.add_assoc]
      congr 2
      rw [Nat.mul_assoc, Nat.mul_comm (b * b) P, ← Nat.mul_assoc]
    have k2 : un32 * (b * b) + L = q1 * yn1 * (b * b) + (r * b + un1) * b + un0 := by
      rw [h1, hL1, Nat.add_mul, Nat.add_mul (r * b), Nat.mul_assoc r b b]
      omega
    rw [k1, k2, h2, Nat.mul_add, Nat.add_mul]
    have k3 : q1 * yn1 * (b * b) = yn1 * b * (q1 * b) := by
      rw [Nat.mul_comm q1 yn1, Nat.mul_assoc, Nat.mul_assoc, ← Nat.mul_assoc q1 b b, Nat.mul_comm (q1 * b) b]
    have k4 : q0 * yn1 * b = yn1 * b * q0 := by
      rw [Nat.mul_comm q0 yn1, Nat.mul_assoc, Nat.mul_assoc, Nat.mul_comm q0 b]
    rw [k3, k4]
    omega
  have e4 : r0 * b + un0 < yn1 * b := by
    have : (r0 + 1) * b ≤ yn1 * b := Nat.mul_le_mul_right b h3
    rw [Nat.add_mul] at this
    omega
  have e5 : (hi * (b * b) + lo) / y = ((hi * (b * b) + lo) * P) / (y * P) := (Nat.mul_div_mul_right _ _ hP).symm
  rw [e5, e3, hy, Nat.mul_add_div (by omega), Nat.div_eq_of_lt e4, Nat.add_zero]

theorem quo_lt {un32 yn1 b : Nat} (hb : 0 < b) (h : un32 < yn1 * b) : un32 / yn1 < b :=
  Nat.div_lt_of_lt_mul h

end Go.Proofs.Ytofaioabjkcaiaa
