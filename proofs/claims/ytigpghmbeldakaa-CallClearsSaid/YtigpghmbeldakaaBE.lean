/- portion: a product divided, beyond 64 bits. -/
import Derived.Test.YtigpghmbeldakaaAZ
import Derived.Test.YtigpghmbeldakaaR
namespace Go.Proofs.Ytigpghmbeldakaa
open Go.RowKit

/-- What portion returns. -/
def PortGot (q r : Int) (w : World) (e : Ending) (w' : World) : Prop := e = .returned (.tuple #[.int .i64 q, .int .u64 r]) ∧ ∃ n, w' = w.drewN n

theorem port_div {t x S : Nat} (hS : 0 < S) (hx : x ≤ 1000000000) (ht : t ≤ S) (hb : S ≤ 5000000000000) :
    t * x / 18446744073709551616 < S ∧ (t * x / 18446744073709551616) * 18446744073709551616 + t * x % 18446744073709551616 = t * x ∧ t * x / S < 2147483648 := by
  have h1 : t * x ≤ S * 1000000000 := Nat.mul_le_mul ht hx
  refine ⟨?_, ?_, ?_⟩
  · refine Nat.div_lt_of_lt_mul ?_
    omega
  · have := Nat.div_add_mod (t * x) 18446744073709551616
    rw [Nat.mul_comm] at this
    exact this
  · have : t * x / S ≤ 1000000000 := by
      refine Nat.div_le_of_le_mul ?_
      exact h1
    omega

set_option maxRecDepth 100000 in
set_option maxHeartbeats 2000000 in
theorem portion_any (t x S : Nat) (w : World) (hS : 0 < S) (hx : x ≤ 1000000000) (ht : t ≤ S) (hb : S ≤ 5000000000000) :
    Calls Try.prog 78 #[.int .i64 t, .int .i64 x, .int .i64 S] w (PortGot ((t * x / S : Nat) : Int) ((t * x % S : Nat) : Int) w) := by
  obtain ⟨d1, d2, d3⟩ := port_div hS hx ht hb
  have hm := fun W => bits_Mul64 t x (by omega) (by omega) W
  have hd := fun W => div64_any (t * x / 18446744073709551616) (t * x % 18446744073709551616) S W d1 (Nat.mod_lt _ (by omega)) (by omega) (fun _ => by rw [d2]; exact d3)
  rw [d2] at hd
  have d4 : t * x % S < 5000000000000 := Nat.lt_of_lt_of_le (Nat.mod_lt _ hS) hb
  generalize t * x / 18446744073709551616 = hi at *
  generalize t * x % 18446744073709551616 = lo at *
  generalize t * x / S = q at *
  generalize t * x % S = r at *
  have HM := Lib.hid hm
  have HD := Lib.hid hd
  clear hm hd d1 d2
  have hti : (t : Int) ≤ 5000000000000 := by omega
  have hxi : (x : Int) ≤ 1000000000 := by omega
  have hSi : (S : Int) ≤ 5000000000000 := by omega
  have hqi : (q : Int) ≤ 2147483648 := by omega
  clear hS hx ht hb d3 d4
  go_enter Try.func78, Try.ntmps78
  go_wp2_with (first | (go_at_call 92; refine (HM.out _).mono ?_; rintro e w1 ⟨rfl, rfl⟩) | (go_at_call 93; refine (HD.out _).mono ?_; rintro e w2 ⟨rfl, n, rfl⟩))
  go_ret2
  exact ⟨rfl, n, rfl⟩

end Go.Proofs.Ytigpghmbeldakaa
