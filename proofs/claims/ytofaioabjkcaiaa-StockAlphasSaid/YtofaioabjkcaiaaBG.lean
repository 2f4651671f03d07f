/- Worth: what a delivery is worth, in the register's package and in the reference. -/
import Derived.Test.YtofaioabjkcaiaaBF
import Derived.Test.YtofaioabjkcaiaaAE
namespace Go.Proofs.Ytofaioabjkcaiaa
open Go.RowKit

theorem ret2_of {a b c : Int} (h : a = b) : Value.tuple #[.int .i64 a, .int .i64 c] = .tuple #[.int .i64 b, .int .i64 c] := by rw [h]

def worthB (p g a s : Int) : Bool := decide (0 ≤ p ∧ p ≤ 1000000000 ∧ 0 ≤ g ∧ g ≤ 1000000000 ∧ 0 ≤ a ∧ a ≤ 3000 ∧ 1 ≤ s ∧ s ≤ 3000)

/-- What a delivery is worth, or the error. -/
def worthT (p g a s : Int) : Int × Int := if worthB p g a s then (p * g * a / (1000 * s), 0) else (0, 1)

theorem worth_bad {p g a s : Int} (h : ¬ (0 ≤ p ∧ p ≤ 1000000000 ∧ 0 ≤ g ∧ g ≤ 1000000000 ∧ 0 ≤ a ∧ a ≤ 3000 ∧ 1 ≤ s ∧ s ≤ 3000)) : worthT p g a s = (0, 1) := by
  unfold worthT worthB
  rw [decide_eq_false h]
  rfl

theorem worth_good {p g a s : Nat} (h : p ≤ 1000000000 ∧ g ≤ 1000000000 ∧ a ≤ 3000 ∧ 1 ≤ s ∧ s ≤ 3000) : worthT p g a s = (((p * g * a / (1000 * s) : Nat) : Int), 0) := by
  unfold worthT worthB
  rw [decide_eq_true (by omega), if_pos rfl, Int.natCast_ediv, Int.natCast_mul, Int.natCast_mul, Int.natCast_mul]
  rfl

theorem alphaB_iff {a : Int} : alphaB a = true ↔ 0 ≤ a ∧ a ≤ 3000 := by simp [alphaB]
theorem alphaB_no {a : Int} (h : ¬ alphaB a = true) : alphaB a = false ∧ ¬ (0 ≤ a ∧ a ≤ 3000) := ⟨by simpa using h, fun k => h (alphaB_iff.2 k)⟩

theorem mul_bd {a b A B : Nat} (ha : a ≤ A) (hb : b ≤ B) : a * b ≤ A * B := Nat.mul_le_mul ha hb

/-- What Worth returns. -/
def WorthGot (p g a s : Int) (w : World) (e : Ending) (w' : World) : Prop := e = .returned (.tuple #[.int .i64 (worthT p g a s).1, .int .i64 (worthT p g a s).2]) ∧ Adds w w'

theorem worth_no {p g a s : Int} {w : World} (h : worthT p g a s = (0, 1)) : WorthGot p g a s w (.returned (.tuple #[.int .i64 0, .int .i64 1])) w := ⟨by rw [h], Adds.refl w⟩

theorem wrap_in0 (n : Int) (h1 : -9223372036854775808 ≤ n) (h2 : n ≤ 9223372036854775807) : IntKind.i64.wrap n = n := IntWalk.i64_in _ (by omega)

set_option maxRecDepth 100000 in
set_option maxHeartbeats 2000000 in
theorem Worth_bad (p g a s : Int) (w : World) (h : ¬ (0 ≤ p ∧ p ≤ 1000000000 ∧ 0 ≤ g ∧ g ≤ 1000000000 ∧ 0 ≤ a ∧ a ≤ 3000 ∧ 1 ≤ s ∧ s ≤ 3000)) : Calls Try.prog 44 #[.int .i64 p, .int .i64 g, .int .i64 a, .int .i64 s] w (WorthGot p g a s w) := by
  have HBAD := Lib.hid h
  clear h
  by_cases c0 : 0 ≤ p
  · skip
    by_cases c1 : p ≤ 1000000000
    · skip
      by_cases c2 : 0 ≤ g
      · skip
        by_cases c3 : g ≤ 1000000000
        · skip
          by_cases ha : alphaB a = true
          · have ca := alphaB_iff.1 ha
            by_cases hs : alphaB s = true
            · have cs := alphaB_iff.1 hs
              have hs0 : s = 0 := by have := HBAD.out; omega
              subst hs0
              have HB : Hid (worthT p g a 0 = (0, 1)) := Lib.hid (worth_bad (by omega))
              go_enter Try.func44, Try.ntmps44
              go_wp2_with (go_at_call 89; refine (isAlpha_any _ _).mono ?_; rintro e w1 ⟨rfl, rfl⟩; (try simp only [ha]); (try simp only [hs]))
              go_ret2
              exact worth_no HB.out
            · obtain ⟨hs, cs⟩ := alphaB_no hs
              have HB : Hid (worthT p g a s = (0, 1)) := Lib.hid (worth_bad (fun k => cs ⟨by omega, k.2.2.2.2.2.2.2⟩))
              have HCS := Lib.hid cs
              clear cs
              go_enter Try.func44, Try.ntmps44
              go_wp2_with (go_at_call 89; refine (isAlpha_any _ _).mono ?_; rintro e w1 ⟨rfl, rfl⟩; (try simp only [ha]); (try simp only [hs]))
              go_ret2
              exact worth_no HB.out
          · obtain ⟨ha, ca⟩ := alphaB_no ha
            have HB : Hid (worthT p g a s = (0, 1)) := Lib.hid (worth_bad (fun k => ca ⟨k.2.2.2.2.1, k.2.2.2.2.2.1⟩))
            have HCA := Lib.hid ca
            clear ca
            go_enter Try.func44, Try.ntmps44
            go_wp2_with (go_at_call 89; refine (isAlpha_any _ _).mono ?_; rintro e w1 ⟨rfl, rfl⟩; (try simp only [ha]); (try simp only [hs]))
            go_ret2
            exact worth_no HB.out
        · skip
          have HB : Hid (worthT p g a s = (0, 1)) := Lib.hid (worth_bad (by omega))
          go_enter Try.func44, Try.ntmps44
          go_wp2_with (go_at_call 89; refine (isAlpha_any _ _).mono ?_; rintro e w1 ⟨rfl, rfl⟩; (try simp only [ha]); (try simp only [hs]))
          go_ret2
          exact worth_no HB.out
      · skip
        have HB : Hid (worthT p g a s = (0, 1)) := Lib.hid (worth_bad (by omega))
        go_enter Try.func44, Try.ntmps44
        go_wp2_with (go_at_call 89; refine (isAlpha_any _ _).mono ?_; rintro e w1 ⟨rfl, rfl⟩; (try simp only [ha]); (try simp only [hs]))
        go_ret2
        exact worth_no HB.out
    · skip
      have HB : Hid (worthT p g a s = (0, 1)) := Lib.hid (worth_bad (by omega))
      go_enter Try.func44, Try.ntmps44
      go_wp2_with (go_at_call 89; refine (isAlpha_any _ _).mono ?_; rintro e w1 ⟨rfl, rfl⟩; (try simp only [ha]); (try simp only [hs]))
      go_ret2
      exact worth_no HB.out
  · skip
    have HB : Hid (worthT p g a s = (0, 1)) := Lib.hid (worth_bad (by omega))
    go_enter Try.func44, Try.ntmps44
    go_wp2_with (go_at_call 89; refine (isAlpha_any _ _).mono ?_; rintro e w1 ⟨rfl, rfl⟩; (try simp only [ha]); (try simp only [hs]))
    go_ret2
    exact worth_no HB.out

set_option maxRecDepth 100000 in
set_option maxHeartbeats 2000000 in
theorem RWorth_bad (p g a s : Int) (w : World) (h : ¬ (0 ≤ p ∧ p ≤ 1000000000 ∧ 0 ≤ g ∧ g ≤ 1000000000 ∧ 0 ≤ a ∧ a ≤ 3000 ∧ 1 ≤ s ∧ s ≤ 3000)) : Calls Try.prog 45 #[.int .i64 p, .int .i64 g, .int .i64 a, .int .i64 s] w (WorthGot p g a s w) := by
  have HBAD := Lib.hid h
  clear h
  by_cases c0 : 0 ≤ p
  · skip
    by_cases c1 : p ≤ 1000000000
    · skip
      by_cases c2 : 0 ≤ g
      · skip
        by_cases c3 : g ≤ 1000000000
        · skip
          by_cases c4 : 0 ≤ a
          · skip
            by_cases c5 : a ≤ 3000
            · skip
              by_cases c6 : 1 ≤ s
              · skip
                by_cases c7 : s ≤ 3000
                · skip
                  exact absurd ⟨c0, c1, c2, c3, c4, c5, c6, c7⟩ HBAD.out
                · skip
                  have HB : Hid (worthT p g a s = (0, 1)) := Lib.hid (worth_bad (by omega))
                  go_enter Try.func45, Try.ntmps45
                  go_wp2
                  go_ret2
                  exact worth_no HB.out
              · skip
                have HB : Hid (worthT p g a s = (0, 1)) := Lib.hid (worth_bad (by omega))
                go_enter Try.func45, Try.ntmps45
                go_wp2
                go_ret2
                exact worth_no HB.out
            · skip
              have HB : Hid (worthT p g a s = (0, 1)) := Lib.hid (worth_bad (by omega))
              go_enter Try.func45, Try.ntmps45
              go_wp2
              go_ret2
              exact worth_no HB.out
          · skip
            have HB : Hid (worthT p g a s = (0, 1)) := Lib.hid (worth_bad (by omega))
            go_enter Try.func45, Try.ntmps45
            go_wp2
            go_ret2
            exact worth_no HB.out
        · skip
          have HB : Hid (worthT p g a s = (0, 1)) := Lib.hid (worth_bad (by omega))
          go_enter Try.func45, Try.ntmps45
          go_wp2
          go_ret2
          exact worth_no HB.out
      · skip
        have HB : Hid (worthT p g a s = (0, 1)) := Lib.hid (worth_bad (by omega))
        go_enter Try.func45, Try.ntmps45
        go_wp2
        go_ret2
        exact worth_no HB.out
    · skip
      have HB : Hid (worthT p g a s = (0, 1)) := Lib.hid (worth_bad (by omega))
      go_enter Try.func45, Try.ntmps45
      go_wp2
      go_ret2
      exact worth_no HB.out
  · skip
    have HB : Hid (worthT p g a s = (0, 1)) := Lib.hid (worth_bad (by omega))
    go_enter Try.func45, Try.ntmps45
    go_wp2
    go_ret2
    exact worth_no HB.out

set_option maxRecDepth 100000 in
set_option maxHeartbeats 2000000 in
theorem Worth_good (p g a s : Nat) (w : World) (hp : p ≤ 1000000000) (hg : g ≤ 1000000000) (ha0 : a ≤ 3000) (hs1 : 1 ≤ s) (hs3 : s ≤ 3000) : Calls Try.prog 44 #[.int .i64 p, .int .i64 g, .int .i64 a, .int .i64 s] w (WorthGot p g a s w) := by
  have HT := Lib.hid (worth_good (p := p) (g := g) (a := a) (s := s) ⟨hp, hg, ha0, hs1, hs3⟩)
  have ha : alphaB (a : Int) = true := alphaB_iff.2 (by omega)
  have hs : alphaB (s : Int) = true := alphaB_iff.2 (by omega)
  have hs0 : ((s : Int) == 0) = false := beq_eq_false_iff_ne.2 (by omega)
  obtain ⟨x, hx⟩ : ∃ x, x = p * g := ⟨_, rfl⟩
  obtain ⟨d, hd⟩ : ∃ d, d = 1000 * s := ⟨_, rfl⟩
  have hxb : x ≤ 1000000000 * 1000000000 := by rw [hx]; exact mul_bd hp hg
  have hxa : x * a ≤ 1000000000 * 1000000000 * 3000 := mul_bd hxb ha0
  have hmw : IntKind.i64.wrap ((p : Int) * (g : Int)) = (x : Int) := by rw [← Int.natCast_mul, ← hx]; exact wrap_in0 _ (by omega) (by omega)
  have hux : IntKind.u64.wrap (x : Int) = (x : Int) := Mul64.wrapN _ (by omega)
  have hda : (1000 * (s : Int)) = (d : Int) := by omega
  have HHI : Hid (x * a / 18446744073709551616 < d) := Lib.hid (by omega)
  have HLO : Hid (x * a % 18446744073709551616 < 18446744073709551616) := Lib.hid (Nat.mod_lt _ (by omega))
  have HD : Hid (d < 4294967296) := Lib.hid (by omega)
  have HX : Hid (x < 18446744073709551616) := Lib.hid (by omega)
  have HA : Hid (a < 18446744073709551616) := Lib.hid (by omega)
  have HQ : Hid (x * a / 18446744073709551616 * 18446744073709551616 + x * a % 18446744073709551616 = x * a) := Lib.hid (Nat.div_add_mod' _ _)
  obtain ⟨qq, hqq⟩ : ∃ qq, qq = x * a / d := ⟨_, rfl⟩
  have hqb : qq ≤ 1000000000 * 1000000000 * 3000 / 1000 := by
    rw [hqq]
    exact Nat.le_trans (Nat.div_le_div_left (show 1000 ≤ d by omega) (by omega)) (Nat.div_le_div_right hxa)
  have HR : Hid (wrap64 (qq : Int) = (qq : Int)) := Lib.hid (by unfold wrap64; omega)
  have HTE : Hid (worthT p g a s = ((qq : Int), 0)) := Lib.hid (by rw [HT.out, ← hx, ← hd, ← hqq])
  have HQE : Hid ((x * a / 18446744073709551616 * 18446744073709551616 + x * a % 18446744073709551616) / d = qq) := Lib.hid (by rw [HQ.out, hqq])
  have HDA := Lib.hid hda
  have HUX := Lib.hid hux
  clear hxb hxa hx hd hda hux HT hqq hqb
  go_enter Try.func44, Try.ntmps44
  go_upto_region 3 with (go_at_call 89; refine (isAlpha_any _ _).mono ?_; rintro e w1 ⟨rfl, rfl⟩; (try simp only [ha]); (try simp only [hs]))
  trace "R3"
  go_wp2_with (first
    | (go_at_call 91; rw [HUX.out]; refine (bits_Mul64 x a HX.out HA.out _).mono ?_; rintro e w1 ⟨rfl, rfl⟩)
    | (go_at_call 92; rw [HDA.out]; refine (div64_any _ _ d _ HHI.out HLO.out HD.out).mono ?_; rintro e w1 ⟨⟨r, rfl⟩, n, rfl⟩; rw [HQE.out]))
  go_ret2
  exact ⟨by rw [HTE.out]; exact congrArg Ending.returned (ret2_of (by first | rfl | exact HR.out)), (Adds.refl _).drewN _⟩

theorem rworth_math {x a d : Nat} (hd : 0 < d) : x / d * a + x % d * a / d = x * a / d := by
  have h := Nat.div_add_mod x d
  have e : x * a = d * (x / d * a) + x % d * a := by
    conv => lhs; rw [← h]
    rw [Nat.add_mul, Nat.mul_assoc]
  rw [e, Nat.mul_add_div hd]

set_option maxRecDepth 100000 in
set_option maxHeartbeats 2000000 in
theorem RWorth_good (p g a s : Nat) (w : World) (hp : p ≤ 1000000000) (hg : g ≤ 1000000000) (ha0 : a ≤ 3000) (hs1 : 1 ≤ s) (hs3 : s ≤ 3000) : Calls Try.prog 45 #[.int .i64 p, .int .i64 g, .int .i64 a, .int .i64 s] w (WorthGot p g a s w) := by
  have HT := Lib.hid (worth_good (p := p) (g := g) (a := a) (s := s) ⟨hp, hg, ha0, hs1, hs3⟩)
  obtain ⟨x, hx⟩ : ∃ x, x = p * g := ⟨_, rfl⟩
  obtain ⟨d, hd⟩ : ∃ d, d = 1000 * s := ⟨_, rfl⟩
  have hxb : x ≤ 1000000000 * 1000000000 := by rw [hx]; exact mul_bd hp hg
  have hxa : x * a ≤ 1000000000 * 1000000000 * 3000 := mul_bd hxb ha0
  have hmw : IntKind.i64.wrap ((p : Int) * (g : Int)) = (x : Int) := by rw [← Int.natCast_mul, ← hx]; exact wrap_in0 _ (by omega) (by omega)
  have hda : (1000 * (s : Int)) = (d : Int) := by omega
  have hd0 : 1000 ≤ d := by omega
  have hd1 : d ≤ 3000000 := by omega
  have hm := rworth_math (x := x) (a := a) (d := d) (by omega)
  have hrb : x % d < d := Nat.mod_lt _ (by omega)
  have hqx : x / d * a ≤ x * a / d := by rw [← hm]; exact Nat.le_add_right _ _
  have hqd : x * a / d ≤ 1000000000 * 1000000000 * 3000 / 1000 := Nat.le_trans (Nat.div_le_div_left hd0 (by omega)) (Nat.div_le_div_right hxa)
  have hra : x % d * a ≤ 3000000 * 3000 := mul_bd (by omega) ha0
  obtain ⟨Q, hQ⟩ : ∃ Q, Q = x / d := ⟨_, rfl⟩
  obtain ⟨Rm, hR⟩ : ∃ Rm, Rm = x % d := ⟨_, rfl⟩
  obtain ⟨Qa, hQa⟩ : ∃ Qa, Qa = Q * a := ⟨_, rfl⟩
  obtain ⟨Ra, hRa⟩ : ∃ Ra, Ra = Rm * a := ⟨_, rfl⟩
  obtain ⟨Rq, hRq⟩ : ∃ Rq, Rq = Ra / d := ⟨_, rfl⟩
  have f1 : (x : Int).tdiv (d : Int) = (Q : Int) := by rw [Int.tdiv_eq_ediv_of_nonneg (by omega), ← Int.natCast_ediv, hQ]
  have f1' : ((x : Int) / (d : Int)) = (Q : Int) := by rw [← Int.natCast_ediv, hQ]
  have f2 : (x : Int).tmod (d : Int) = (Rm : Int) := by rw [Int.tmod_eq_emod_of_nonneg (by omega), ← Int.natCast_emod, hR]
  have f2' : ((x : Int) % (d : Int)) = (Rm : Int) := by rw [← Int.natCast_emod, hR]
  have hQx : Q ≤ x := by rw [hQ]; exact Nat.div_le_self _ _
  have hRx : Rm < d := by rw [hR]; exact hrb
  have f3 : IntKind.i64.wrap (Q : Int) = (Q : Int) := wrap_in0 _ (by omega) (by omega)
  have f4 : IntKind.i64.wrap (Rm : Int) = (Rm : Int) := wrap_in0 _ (by omega) (by omega)
  rw [← hQ] at hqx hm
  rw [← hR] at hra hm
  rw [← hQa] at hqx hm
  rw [← hRa] at hra hm
  rw [← hRq] at hm
  have hRqb : Rq ≤ Ra := by rw [hRq]; exact Nat.div_le_self _ _
  have f5 : IntKind.i64.wrap ((Q : Int) * (a : Int)) = (Qa : Int) := by rw [← Int.natCast_mul, ← hQa]; exact wrap_in0 _ (by omega) (by omega)
  have f6 : IntKind.i64.wrap ((Rm : Int) * (a : Int)) = (Ra : Int) := by rw [← Int.natCast_mul, ← hRa]; exact wrap_in0 _ (by omega) (by omega)
  have f7 : (Ra : Int).tdiv (d : Int) = (Rq : Int) := by rw [Int.tdiv_eq_ediv_of_nonneg (by omega), ← Int.natCast_ediv, hRq]
  have f7' : ((Ra : Int) / (d : Int)) = (Rq : Int) := by rw [← Int.natCast_ediv, hRq]
  have f8 : IntKind.i64.wrap (Rq : Int) = (Rq : Int) := wrap_in0 _ (by omega) (by omega)
  have f9 : IntKind.i64.wrap ((Qa : Int) + (Rq : Int)) = (Qa : Int) + (Rq : Int) := wrap_in0 _ (by omega) (by omega)
  have hdz : ((d : Int) == 0) = false := beq_eq_false_iff_ne.2 (by omega)
  have HTE : Hid (worthT p g a s = ((Qa : Int) + (Rq : Int), 0)) := Lib.hid (by rw [HT.out, ← hx, ← hd, ← hm, Int.natCast_add])
  have HDA := Lib.hid hda
  clear hxb hxa hx hd hda HT hm hrb hqx hqd hra hQ hR hQa hRa hRq hQx hRx hRqb hd1
  go_enter Try.func45, Try.ntmps45
  go_upto_region 4 with fail
  rw [HDA.out]
  trace "R4"
  go_quiet (fail)
  go_outline
  go_wp2
  go_ret2
  exact ⟨by rw [HTE.out]; rfl, (Adds.refl _).drewN _⟩

theorem Worth_any (p g a s : Int) (w : World) : Calls Try.prog 44 #[.int .i64 p, .int .i64 g, .int .i64 a, .int .i64 s] w (WorthGot p g a s w) := by
  by_cases h : 0 ≤ p ∧ p ≤ 1000000000 ∧ 0 ≤ g ∧ g ≤ 1000000000 ∧ 0 ≤ a ∧ a ≤ 3000 ∧ 1 ≤ s ∧ s ≤ 3000
  · have := Worth_good p.toNat g.toNat a.toNat s.toNat w (by omega) (by omega) (by omega) (by omega) (by omega)
    rw [Int.toNat_of_nonneg (by omega), Int.toNat_of_nonneg (by omega), Int.toNat_of_nonneg (by omega), Int.toNat_of_nonneg (by omega)] at this
    exact this
  · exact Worth_bad p g a s w h

theorem RWorth_any (p g a s : Int) (w : World) : Calls Try.prog 45 #[.int .i64 p, .int .i64 g, .int .i64 a, .int .i64 s] w (WorthGot p g a s w) := by
  by_cases h : 0 ≤ p ∧ p ≤ 1000000000 ∧ 0 ≤ g ∧ g ≤ 1000000000 ∧ 0 ≤ a ∧ a ≤ 3000 ∧ 1 ≤ s ∧ s ≤ 3000
  · have := RWorth_good p.toNat g.toNat a.toNat s.toNat w (by omega) (by omega) (by omega) (by omega) (by omega)
    rw [Int.toNat_of_nonneg (by omega), Int.toNat_of_nonneg (by omega), Int.toNat_of_nonneg (by omega), Int.toNat_of_nonneg (by omega)] at this
    exact this
  · exact RWorth_bad p g a s w h

end Go.Proofs.Ytofaioabjkcaiaa
