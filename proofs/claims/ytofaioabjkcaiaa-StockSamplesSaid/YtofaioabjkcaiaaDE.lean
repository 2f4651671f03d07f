/- The generator: one draw of the register's and of the reference's; that draws come to 0. -/
import Derived.Test.YtofaioabjkcaiaaBQ
namespace Go.Proofs.Ytofaioabjkcaiaa
open Go.RowKit

/-- What is drawn of a state. -/
def mixT (y : Int) : Int :=
  bits BinOp.xor IntKind.u64 (IntKind.u64.wrap (bits BinOp.xor IntKind.u64 (IntKind.u64.wrap (bits BinOp.xor IntKind.u64 y (y / 1073741824) * 13787848793156543929)) (IntKind.u64.wrap (bits BinOp.xor IntKind.u64 y (y / 1073741824) * 13787848793156543929) / 134217728) * 10723151780598845931))
    (IntKind.u64.wrap (bits BinOp.xor IntKind.u64 (IntKind.u64.wrap (bits BinOp.xor IntKind.u64 y (y / 1073741824) * 13787848793156543929)) (IntKind.u64.wrap (bits BinOp.xor IntKind.u64 y (y / 1073741824) * 13787848793156543929) / 134217728) * 10723151780598845931) / 2147483648)

/-- The state behind a draw. -/
def stepT (x : Int) : Int := IntKind.u64.wrap (x + 11400714819323198485)

theorem u64_w (n : Int) : IntKind.u64.wrap n = n % 18446744073709551616 := by simp [IntKind.wrap, IntKind.signed, IntKind.bits]

theorem stepT_bd (x : Int) : 0 ≤ stepT x ∧ stepT x < 18446744073709551616 := by unfold stepT; rw [u64_w]; omega

theorem mixT_zero : mixT 0 = 0 := by kernel_rfl

theorem mixT_bd (y : Int) : 0 ≤ mixT y ∧ mixT y < 18446744073709551616 := by
  unfold mixT
  generalize IntKind.u64.wrap _ = a
  unfold bits
  simp only [u64_w]
  omega

/-- The states behind draws. -/
def stepN : Nat → Int → Int
  | 0, x => x
  | n + 1, x => stepT (stepN n x)

theorem stepN_eq {x : Int} (h : 0 ≤ x) (h2 : x < 18446744073709551616) : ∀ n : Nat, stepN n x = (x + n * 11400714819323198485) % 18446744073709551616
  | 0 => by simp [stepN]; omega
  | n + 1 => by
    rw [stepN, stepN_eq h h2 n]
    unfold stepT
    rw [u64_w]
    omega

theorem stepN_bd {x : Int} (h : 0 ≤ x) (h2 : x < 18446744073709551616) (n : Nat) : 0 ≤ stepN n x ∧ stepN n x < 18446744073709551616 := by
  rw [stepN_eq h h2]; omega

theorem inv_eq (x q : Int) : x + (-(x * 17428512612931826493) - 18446744073709551616 * q) * 11400714819323198485 = 18446744073709551616 * (-(x * 10771413168148108919) - q * 11400714819323198485) := by omega

theorem hr_ex (a : Int) : ∃ r : Nat, (r : Int) = a % 18446744073709551616 := ⟨(a % 18446744073709551616).toNat, by omega⟩

theorem last_eq (x : Int) (r t : Nat) (hd : (x + (r : Int) * 11400714819323198485) % 18446744073709551616 = 0) (ht : (t : Int) = r + 18446744073709551616) : (x + (t : Int) * 11400714819323198485) % 18446744073709551616 = 0 := by
  rw [ht]; omega

theorem ex_t (r : Nat) : ∃ t : Nat, 1 ≤ t ∧ (t : Int) = r + 18446744073709551616 :=
  ⟨r + 18446744073709551616, Nat.le_trans (by decide) (Nat.le_add_left _ _), by rw [Int.natCast_add]; rfl⟩

/-- The states come to 0. -/
theorem stepN_zero {x : Int} (h : 0 ≤ x) (h2 : x < 18446744073709551616) : ∃ t : Nat, 1 ≤ t ∧ stepN t x = 0 := by
  obtain ⟨r, hr⟩ := hr_ex (-(x * 17428512612931826493))
  obtain ⟨t, t1, t2⟩ := ex_t r
  refine ⟨t, t1, (stepN_eq h h2 t).trans (last_eq x r t ?_ t2)⟩
  rw [hr, Int.emod_def (-(x * 17428512612931826493)), inv_eq]
  exact Int.mul_emod_right _ _

/-- How many draws it is to the state 0. -/
def distT (s : Int) : Nat := if s = 0 then 18446744073709551616 else ((-(s * 17428512612931826493)) % 18446744073709551616).toNat

theorem dist_eqs (s a b c s' r r' : Int) (h : 0 ≤ s) (h2 : s < 18446744073709551616) (hs' : s' = s + 11400714819323198485 - 18446744073709551616 * a) (hr : r = -(s * 17428512612931826493) - 18446744073709551616 * b) (hr' : r' = -(s' * 17428512612931826493) - 18446744073709551616 * c)
    (r0 : 0 ≤ r) (r1 : r < 18446744073709551616) (r2 : 0 ≤ r') (r3 : r' < 18446744073709551616) (hne : s ≠ 0) : r' < r := by
  have e1 : r' = r - 1 + 18446744073709551616 * (b - 10771413168148108919 + a * 17428512612931826493 - c) := by subst hr hr' hs'; omega
  have e2 : s = 18446744073709551616 * (-(b * 11400714819323198485) - s * 10771413168148108919) - r * 11400714819323198485 := by subst hr; omega
  generalize b - 10771413168148108919 + a * 17428512612931826493 - c = k at e1
  generalize -(b * 11400714819323198485) - s * 10771413168148108919 = k2 at e2
  clear hs' hr hr'
  by_cases hz : r = 0
  · subst hz
    omega
  · omega

theorem dist_less {s : Int} (h : 0 ≤ s) (h2 : s < 18446744073709551616) (hne : stepT s ≠ 0) : distT (stepT s) < distT s := by
  unfold distT
  rw [if_neg hne]
  have q0 := Int.emod_nonneg (-(stepT s * 17428512612931826493)) (show (18446744073709551616 : Int) ≠ 0 by decide)
  have q1 := Int.emod_lt_of_pos (-(stepT s * 17428512612931826493)) (show (0 : Int) < 18446744073709551616 by decide)
  by_cases hs : s = 0
  · rw [if_pos hs]
    generalize -(stepT s * 17428512612931826493) % 18446744073709551616 = z at *
    clear h h2 hne hs
    omega
  · rw [if_neg hs]
    have p0 := Int.emod_nonneg (-(s * 17428512612931826493)) (show (18446744073709551616 : Int) ≠ 0 by decide)
    have p1 := Int.emod_lt_of_pos (-(s * 17428512612931826493)) (show (0 : Int) < 18446744073709551616 by decide)
    have e := dist_eqs s ((s + 11400714819323198485) / 18446744073709551616) (-(s * 17428512612931826493) / 18446744073709551616) (-(stepT s * 17428512612931826493) / 18446744073709551616) (stepT s) _ _ h h2 (by unfold stepT; rw [u64_w, Int.emod_def]) (Int.emod_def _ _) (Int.emod_def _ _) p0 p1 q0 q1 hs
    generalize -(stepT s * 17428512612931826493) % 18446744073709551616 = z at *
    generalize -(s * 17428512612931826493) % 18446744073709551616 = y at *
    clear h h2 hne hs
    omega

set_option maxHeartbeats 1000000 in
theorem Draw_any (x : Int) (w : World) (h : 0 ≤ x) (h2 : x < 18446744073709551616) : Calls Try.prog 110 #[.int .u64 x] w fun e w' => e = .returned (.tuple #[.int .u64 (stepT x), .int .u64 (mixT (stepT x))]) ∧ w = w' := by
  go_enter Try.func110, Try.ntmps110
  go_wp2
  go_ret2
  exact ⟨rfl, rfl⟩

set_option maxHeartbeats 1000000 in
theorem next_any (x : Int) (b : Nat) (w : World) (h : 0 ≤ x) (h2 : x < 18446744073709551616) (hb : Box w b #[.int .u64 x] 139) : Calls Try.prog 109 #[.pointer (some ⟨b, 0, none⟩)] w fun e w' => e = .returned (.int .u64 (mixT (stepT x))) ∧ w' = w.setCell ⟨b, 0, none⟩ (.int .u64 (stepT x)) := by
  have c0 := hb.cell 0
  have f0 := hb.free 0
  simp only [List.getElem?_toArray, List.getElem?_cons_zero] at c0
  go_enter Try.func109, Try.ntmps109
  go_wp2
  go_ret
  exact ⟨rfl, rfl⟩

/-- The first draw that is not passed over: the state behind it, and its remainder. -/
def Drawn (L m x x' v : Int) : Prop := ∃ t : Nat, 1 ≤ t ∧ x' = stepN t x ∧ mixT (stepN t x) ≤ L ∧ (∀ j, 1 ≤ j → j < t → L < mixT (stepN j x)) ∧ v = mixT (stepN t x) % m

theorem Drawn.unique {L m x x1 v1 x2 v2 : Int} (h : Drawn L m x x1 v1) (h' : Drawn L m x x2 v2) : x1 = x2 ∧ v1 = v2 := by
  obtain ⟨t, t1, rfl, t3, t4, rfl⟩ := h
  obtain ⟨s, s1, rfl, s3, s4, rfl⟩ := h'
  rcases Nat.lt_trichotomy t s with hlt | rfl | hlt
  · have := s4 t t1 hlt; omega
  · exact ⟨rfl, rfl⟩
  · have := t4 s s1 hlt; omega

/-- The greatest number that is not passed over. -/
def limT (m : Int) : Int := 18446744073709551615 - ((18446744073709551615 : Int).tmod m + 1).tmod m

theorem limT_bd {m : Int} (h : 1 ≤ m) (h2 : m ≤ 1000000) : 0 ≤ limT m ∧ limT m ≤ 18446744073709551615 ∧ 0 ≤ (18446744073709551615 : Int).tmod m ∧ (18446744073709551615 : Int).tmod m < m ∧ 0 ≤ ((18446744073709551615 : Int).tmod m + 1).tmod m ∧ ((18446744073709551615 : Int).tmod m + 1).tmod m < m := by
  have a1 := Int.tmod_nonneg m (show (0 : Int) ≤ 18446744073709551615 by decide)
  have a2 := Int.tmod_lt_of_pos 18446744073709551615 (show 0 < m by omega)
  have a3 := Int.tmod_nonneg m (show 0 ≤ (18446744073709551615 : Int).tmod m + 1 by omega)
  have a4 := Int.tmod_lt_of_pos ((18446744073709551615 : Int).tmod m + 1) (show 0 < m by omega)
  unfold limT
  generalize ((18446744073709551615 : Int).tmod m + 1).tmod m = z at *
  generalize (18446744073709551615 : Int).tmod m = y at *
  omega

end Go.Proofs.Ytofaioabjkcaiaa
