/- What the fills are behind a side; fills are one. No Go here. -/
import Derived.Test.YtigpghmbeldakaaS
import Derived.Deep.LoopGhost
import Derived.Test.YtigpghmbeldakaaBH
import Derived.Test.YtigpghmbeldakaaBJ
import Derived.Test.YtigpghmbeldakaaBI
import Derived.Test.YtigpghmbeldakaaAK
namespace Go.Proofs.Ytigpghmbeldakaa
open Go.RowKit

set_option maxRecDepth 100000 in
set_option maxHeartbeats 1000000 in
theorem longs_any (p : Option Addr) (cap : Nat) (A : List Int) (q : Option Addr) (cap2 : Nat) (B : List Int) (w : World) (hN : A.length ≤ 5000) (hA : At1 .i64 w p A) (hB : At1 .i64 w q B) :
    Calls Try.prog 36 #[.slice p A.length cap, .slice q B.length cap2] w fun e w' => e = .returned (.bool (decide (A = B))) ∧ Adds w w' := by
  have HA := Lib.hid hA
  have HB := Lib.hid hB
  by_cases hlen : A.length = B.length
  · obtain ⟨N, hNl⟩ : ∃ N, N = A.length := ⟨_, rfl⟩
    have hBl : B.length = N := by omega
    rw [hBl, ← hNl]
    have HN := Lib.hid hNl
    have HBN := Lib.hid hBl
    have hN5 : N ≤ 5000 := by omega
    clear hA hB hN hlen hNl hBl
    go_enter Try.func36, Try.ntmps36
    go_wp2
    go_loopw [5] (fun i wr => ∃ k : Nat, k ≤ N ∧ i = .int .i64 k ∧ Hid (A.take k = B.take k) ∧ Adds w wr) (fun i _ => N - (intOf i).toNat)
    case atStart => exact ⟨0, by omega, rfl, Lib.hid (by simp), Adds.refl w⟩
    case round =>
      obtain ⟨k, hk, rfl, hall, hb⟩ := hrel
      by_cases hlt : k < N
      · obtain ⟨x, hx⟩ : ∃ t, A[k]? = some t := ⟨_, List.getElem?_eq_getElem (by have := HN.out; omega)⟩
        obtain ⟨y, hy⟩ : ∃ t, B[k]? = some t := ⟨_, List.getElem?_eq_getElem (by have := HBN.out; omega)⟩
        obtain ⟨gg, off, rfl, d0⟩ := HA.out k _ hx
        obtain ⟨g2, off2, rfl, e0⟩ := HB.out k _ hy
        have c0 := keep_cell hb d0
        have cx := keep_cell hb e0
        have HTA := Lib.hid (take_next hx)
        have HTB := Lib.hid (take_next hy)
        have HX := Lib.hid hx
        have HY := Lib.hid hy
        have HADD := Lib.hid hb
        have hkn : (k : Int) < (N : Int) := by omega
        clear d0 e0 hx hy hb
        go_upto_region 6 with fail
        by_cases hxy : x = y
        · subst hxy
          have hd : (x != x) = false := by simp
          go_quiet (fail)
          go_wp2
          refine ⟨⟨k + 1, by omega, by go_num, Lib.hid (by rw [HTA.out, HTB.out, hall.out]), HADD.out.drewN _⟩, by simp [intOf]; omega⟩
        · have hd : (x != y) = true := bne_iff_ne.2 hxy
          have HNE : Hid (decide (A = B) = false) := Lib.hid (decide_eq_false (fun h => by
            have h1 := HX.out
            rw [h, HY.out] at h1
            exact hxy (Option.some.inj h1).symm))
          go_quiet (fail)
          go_wp2
          go_ret
          exact ⟨ret_bool HNE.out.symm, HADD.out.drewN _⟩
      · have HE : Hid (decide (A = B) = true) := Lib.hid (decide_eq_true (by
          have := hall.out
          rw [List.take_of_length_le (by have := HN.out; omega), List.take_of_length_le (by have := HBN.out; omega)] at this
          exact this))
        go_wp2
        go_ret
        exact ⟨ret_bool HE.out.symm, hb⟩
  · obtain ⟨N, hNl⟩ : ∃ N, N = A.length := ⟨_, rfl⟩
    obtain ⟨M, hMl⟩ : ∃ M, M = B.length := ⟨_, rfl⟩
    have HNE : Hid (decide (A = B) = false) := Lib.hid (decide_eq_false (fun h => hlen (by rw [h])))
    have hNM : ((N : Int) != (M : Int)) = true := bne_iff_ne.2 (by omega)
    rw [← hNl, ← hMl]
    clear hA hB hN hlen hNl hMl
    go_enter Try.func36, Try.ntmps36
    go_wp2
    go_ret
    exact ⟨ret_bool HNE.out.symm, Adds.refl w⟩

/-- Doubling and subtracting. -/
theorem half_bit (b : Int) (k : Nat) (hb : 0 ≤ b) : b / 2 ^ k = 2 * (b / 2 ^ (k + 1)) + b / 2 ^ k % 2 := by
  have e : b / 2 ^ (k + 1) = b / 2 ^ k / 2 := by
    rw [Int.pow_succ, Int.ediv_ediv_of_nonneg (Int.le_of_lt (Int.pow_pos (by omega)))]
  rw [e]
  omega

/-- Quotient and remainder by their property. -/
theorem div_of {a d q r : Int} (h : q * d + r = a) (h0 : 0 ≤ r) (h1 : r < d) : q = a / d ∧ r = a % d := by
  have hd : 0 < d := by omega
  have e : a = r + d * q := by rw [← h, Int.mul_comm d q]; omega
  constructor
  · rw [e, Int.add_mul_ediv_left _ _ (by omega), Int.ediv_eq_zero_of_lt h0 h1]; omega
  · rw [e, Int.add_mul_emod_self_left, Int.emod_eq_of_lt h0 h1]

theorem quo_le {a b c d q r : Int} (h : q * d + r = a * c) (h0 : 0 ≤ r) (ha : 0 ≤ a) (had : a ≤ d) (hd : 0 < d) (hc : 0 ≤ c) (hcb : c ≤ b) : q ≤ b := by
  have h1 : q * d ≤ b * d := by
    have h2 : a * c ≤ d * b := Int.mul_le_mul had hcb hc (by omega)
    rw [Int.mul_comm b d]
    omega
  exact Int.le_of_mul_le_mul_right h1 hd

/-- The binary digits of b from bit k on. -/
def highT (b : Int) (k : Nat) : Int := b / 2 ^ k
theorem high_zero (b : Int) : highT b 0 = b := by unfold highT; omega
theorem high_63 {b : Int} (h0 : 0 ≤ b) (h1 : b < 9223372036854775808) : highT b 63 = 0 := by
  unfold highT
  exact Int.ediv_eq_zero_of_lt h0 (by omega)
theorem high_next {b : Int} (k : Nat) (h : 0 ≤ b) : highT b k = 2 * highT b (k + 1) + highT b k % 2 := half_bit b k h
theorem high_bd {b : Int} (k : Nat) (h : 0 ≤ b) : 0 ≤ highT b k ∧ highT b k ≤ b := by
  unfold highT
  exact ⟨Int.ediv_nonneg h (Int.le_of_lt (Int.pow_pos (by omega))), Int.ediv_le_self _ h⟩

/-- The state of a division bit by bit. -/
structure Dividing (a b d q r : Int) (c : Int) : Prop where
  eq : q * d + r = a * c
  r0 : 0 ≤ r
  q0 : 0 ≤ q

set_option maxRecDepth 100000 in
set_option maxHeartbeats 2000000 in
theorem muldiv_any (a b d : Int) (w : World) (ha : 0 ≤ a) (had : a ≤ d) (hb : 0 ≤ b) (hbd : b ≤ d) (hd : 0 < d) (hd2 : d ≤ 1000000000000000) :
    Calls Try.prog 77 #[.int .i64 a, .int .i64 b, .int .i64 d] w fun e w' => e = .returned (.tuple #[.int .i64 (a * b / d), .int .i64 (a * b % d)]) ∧ w = w' := by
  have HB0 := Lib.hid hb
  have h63 : Hid (Dividing a b d 0 0 (highT b 63)) := Lib.hid ⟨by rw [high_63 hb (by omega)]; simp, by omega, by omega⟩
  obtain ⟨z0, hz0⟩ : ∃ z : Int, z = 62 := ⟨_, rfl⟩
  go_enter Try.func77, Try.ntmps77
  go_wp2
  go_loopw [8, 9, 10] (fun v8 v9 v10 wr => ∃ (c : Nat) (z q r : Int), c ≤ 63 ∧ v8 = .int .i64 q ∧ v9 = .int .i64 r ∧ v10 = .int .i64 z ∧ Hid (z = (c : Int) - 1) ∧ r < d ∧ Hid (Dividing a b d q r (highT b c)) ∧ w = wr) (fun _ _ v10 _ => (intOf v10 + 1).toNat)
  case atStart => exact ⟨63, 62, 0, 0, by omega, rfl, rfl, rfl, Lib.hid (by omega), hd, h63, rfl⟩
  case round =>
    obtain ⟨c, z, q, r, hc, rfl, rfl, rfl, hz, hrd, hdv, rfl⟩ := hrel
    clear h63 hz0
    by_cases hlt : 0 < c
    · obtain ⟨k, rfl⟩ : ∃ k : Nat, z = (k : Int) := ⟨z.toNat, by have := hz.out; omega⟩
      have hck : c = k + 1 := by have := hz.out; omega
      subst hck
      obtain ⟨H, hH⟩ : ∃ H, H = highT b k := ⟨_, rfl⟩
      have hHb := high_bd k HB0.out
      have hnx := high_next k HB0.out
      rw [← hH] at hHb hnx
      obtain ⟨bit, hbit⟩ : ∃ y, y = H % 2 := ⟨_, rfl⟩
      rw [← hbit] at hnx
      have htm : H.tmod 2 = bit := by rw [hbit]; exact Int.tmod_eq_emod_of_nonneg hHb.1
      have hqb : q ≤ b := quo_le hdv.out.eq hdv.out.r0 ha had hd (high_bd (k + 1) HB0.out).1 (high_bd (k + 1) HB0.out).2
      have hq0 := hdv.out.q0
      have hr0 := hdv.out.r0
      have heq := hdv.out.eq
      have h01 : bit = 0 ∨ bit = 1 := by omega
      have hH2 : b / 2 ^ k = H := hH.symm
      have HHB := Lib.hid hHb
      have hw1 : IntKind.i64.wrap (2 * q) = 2 * q := IntWalk.i64_in _ (by omega)
      have hw2 : IntKind.i64.wrap (2 * r) = 2 * r := IntWalk.i64_in _ (by omega)
      have HQ0 := Lib.hid hq0
      have HR0 := Lib.hid hr0
      have HHH := Lib.hid hH
      rcases h01 with h01 | h01
      · subst h01
        have hdd : Hid (Dividing a b d (2 * q) (2 * r) H) := Lib.hid ⟨by
          have e : H = 2 * highT b (k + 1) := by omega
          rw [e, Int.mul_left_comm, ← heq, Int.mul_assoc]; omega, by omega, by omega⟩
        have HTM := Lib.hid htm
        clear hH hHb hnx hbit heq
        go_wp2
        go_loopw [8, 9] (fun v8 v9 wr => ∃ q2 r2 : Int, v8 = .int .i64 q2 ∧ v9 = .int .i64 r2 ∧ r2 ≤ 3 * d ∧ Hid (Dividing a b d q2 r2 H) ∧ wr = w) (fun _ v9 _ => (intOf v9).toNat)
        case atStart => exact ⟨2 * q, 2 * r, rfl, rfl, by omega, hdd, rfl⟩
        case round =>
          obtain ⟨q2, r2, rfl, rfl, hr3, hdv2, rfl⟩ := hrel
          have hqb2 : q2 ≤ b := quo_le hdv2.out.eq hdv2.out.r0 ha had hd HHB.out.1 HHB.out.2
          have hq2 := hdv2.out.q0
          have hr2 := hdv2.out.r0
          by_cases hge : d ≤ r2
          · go_wp2
            go_roundw
            case rel => exact ⟨q2 + 1, r2 - d, rfl, rfl, by omega, Lib.hid ⟨by have := hdv2.out.eq; rw [Int.add_mul]; omega, by omega, by omega⟩, trivial⟩
            case measure => simp [intOf]; omega
          · have hlt2 : r2 < d := by omega
            go_wp2
            go_roundw
            case rel => exact ⟨k, (k : Int) - 1, q2, r2, by omega, rfl, rfl, rfl, Lib.hid rfl, hlt2, by rw [← HHH.out]; exact hdv2, trivial⟩
            case measure => simp [intOf]
      · subst h01
        have hdd : Hid (Dividing a b d (2 * q) (2 * r + a) H) := Lib.hid ⟨by
          have e : H = 2 * highT b (k + 1) + 1 := by omega
          rw [e, Int.mul_add, Int.mul_left_comm, ← heq, Int.mul_assoc]; omega, by omega, by omega⟩
        have HTM := Lib.hid htm
        clear hH hHb hnx hbit heq
        go_wp2
        go_loopw [8, 9] (fun v8 v9 wr => ∃ q2 r2 : Int, v8 = .int .i64 q2 ∧ v9 = .int .i64 r2 ∧ r2 ≤ 3 * d ∧ Hid (Dividing a b d q2 r2 H) ∧ wr = w) (fun _ v9 _ => (intOf v9).toNat)
        case atStart => exact ⟨2 * q, 2 * r + a, rfl, rfl, by omega, hdd, rfl⟩
        case round =>
          obtain ⟨q2, r2, rfl, rfl, hr3, hdv2, rfl⟩ := hrel
          have hqb2 : q2 ≤ b := quo_le hdv2.out.eq hdv2.out.r0 ha had hd HHB.out.1 HHB.out.2
          have hq2 := hdv2.out.q0
          have hr2 := hdv2.out.r0
          by_cases hge : d ≤ r2
          · go_wp2
            go_roundw
            case rel => exact ⟨q2 + 1, r2 - d, rfl, rfl, by omega, Lib.hid ⟨by have := hdv2.out.eq; rw [Int.add_mul]; omega, by omega, by omega⟩, trivial⟩
            case measure => simp [intOf]; omega
          · have hlt2 : r2 < d := by omega
            go_wp2
            go_roundw
            case rel => exact ⟨k, (k : Int) - 1, q2, r2, by omega, rfl, rfl, rfl, Lib.hid rfl, hlt2, by rw [← HHH.out]; exact hdv2, trivial⟩
            case measure => simp [intOf]
    · have hc0 : c = 0 := by omega
      subst hc0
      have hzn : z < 0 := by have := hz.out; omega
      have hzn2 : ¬ (0 ≤ z) := by omega
      have hzd : decide (0 ≤ z) = false := decide_eq_false hzn2
      have hh := hdv.out.eq
      rw [high_zero] at hh
      obtain ⟨e1, e2⟩ := div_of hh hdv.out.r0 hrd
      have E1 := Lib.hid e1
      have E2 := Lib.hid e2
      clear hh e1 e2
      go_wp2
      go_ret2
      exact ⟨by rw [E1.out, E2.out]; rfl, rfl⟩

end Go.Proofs.Ytigpghmbeldakaa

namespace Go.Proofs.Ytigpghmbeldakaa
open Go.RowKit

/-- The remainders of which the first z of an order are gone. -/
def maskT (M R : List Int) (z : Nat) : List Int := (List.range M.length).map fun i : Nat => if (i : Int) ∈ R.take z then -1 else M[i]!
theorem maskT_len (M R : List Int) (z : Nat) : (maskT M R z).length = M.length := by simp [maskT]
theorem maskT_at {M R : List Int} {z i : Nat} (h : i < M.length) : (maskT M R z)[i]? = some (if (i : Int) ∈ R.take z then -1 else M[i]!) := by
  unfold maskT
  rw [List.getElem?_map, List.getElem?_range h, Option.map_some]
theorem maskT_zero (M R : List Int) : maskT M R 0 = M := by
  apply List.ext_getElem?
  intro i
  by_cases h : i < M.length
  · rw [maskT_at h, if_neg (by simp), getElem!_pos M i h, List.getElem?_eq_getElem h]
  · rw [List.getElem?_eq_none (by rw [maskT_len]; omega), List.getElem?_eq_none (by omega)]
theorem maskT_next {M R : List Int} {z m : Nat} (hz : R[z]? = some (m : Int)) (hm : m < M.length) : (maskT M R z).set m (-1) = maskT M R (z + 1) := by
  apply List.ext_getElem?
  intro i
  by_cases h : i < M.length
  · rw [List.getElem?_set, maskT_at h, maskT_at h, maskT_len]
    have ht := take_next hz
    by_cases he : m = i
    · subst he
      rw [if_pos rfl, if_pos hm, if_pos (by rw [ht]; simp)]
    · rw [if_neg he, ht]
      have : ((i : Int) ∈ R.take z ++ [(m : Int)]) ↔ (i : Int) ∈ R.take z := by
        rw [List.mem_append, List.mem_singleton]
        constructor
        · rintro (h | h)
          · exact h
          · omega
        · exact Or.inl
      by_cases hc : (i : Int) ∈ R.take z
      · rw [if_pos hc, if_pos (this.2 hc)]
      · rw [if_neg hc, if_neg (fun h => hc (this.1 h))]
  · rw [List.getElem?_eq_none (by rw [List.length_set, maskT_len]; omega), List.getElem?_eq_none (by rw [maskT_len]; omega)]

/-- The first of the greatest. -/
def FirstMax (M : List Int) (k b : Nat) : Prop := b < M.length ∧ ∀ j, j < k → M[j]! < M[b]! ∨ M[j]! = M[b]! ∧ b ≤ j

theorem FirstMax.skip {M : List Int} {k b : Nat} (h : FirstMax M k b) (hk : M[k]! ≤ M[b]!) (hb : b ≤ k) : FirstMax M (k + 1) b := by
  refine ⟨h.1, fun j hj => ?_⟩
  rcases Nat.lt_or_ge j k with h1 | h1
  · exact h.2 j h1
  · have : j = k := by omega
    subst this
    omega
theorem FirstMax.take {M : List Int} {k b : Nat} (h : FirstMax M k b) (hk : M[b]! < M[k]!) (hl : k < M.length) : FirstMax M (k + 1) k := by
  refine ⟨hl, fun j hj => ?_⟩
  rcases Nat.lt_or_ge j k with h1 | h1
  · have := h.2 j h1
    omega
  · have : j = k := by omega
    subst this
    omega

/-- What is picked next is the next one of the order. -/
theorem pick_next {key : Nat → Int} {M R : List Int} {z b : Nat} (hk : ∀ i, i < M.length → key i = -M[i]!) (hM : ∀ i, i < M.length → 0 ≤ M[i]!) (hR : R.Perm (numsT M.length)) (hs : R.Pairwise (lexLt key)) (hz : z < M.length) (hb : FirstMax (maskT M R z) M.length b) : R[z]? = some (b : Int) := by
  have hRl : R.length = M.length := by rw [hR.length_eq, numsT_len]
  obtain ⟨hbl, hmax⟩ := hb
  rw [maskT_len] at hbl
  have gM : ∀ i, i < M.length → (maskT M R z)[i]! = if (i : Int) ∈ R.take z then -1 else M[i]! := fun i hi => by
    rw [List.getElem!_eq_getElem?_getD, maskT_at hi]
    rfl
  have hnd : R.Nodup := hR.nodup_iff.2 ((numsT_asc _).imp (fun {a b} h => by omega))
  have hmem : R[z]'(by omega) ∈ R := List.getElem_mem _
  have hin := numsT_mem.1 (hR.mem_iff.1 hmem)
  obtain ⟨m, hm⟩ : ∃ m : Nat, R[z]'(by omega) = (m : Int) := ⟨(R[z]'(by omega)).toNat, by omega⟩
  have hml : m < M.length := by rw [hm] at hin; omega
  have hnt : (m : Int) ∉ R.take z := fun h => by
    obtain ⟨q, hq, hqe⟩ := List.getElem_of_mem h
    rw [List.length_take] at hq
    rw [List.getElem_take] at hqe
    have hqe' := hqe.trans hm.symm
    exact (List.pairwise_iff_getElem.1 hnd) q z (by omega) (by omega) (by omega) hqe'
  have h1 := hmax m hml
  rw [gM m hml, gM b hbl, if_neg hnt] at h1
  have hM0 := hM m hml
  have hbt : (b : Int) ∉ R.take z := fun h => by
    rw [if_pos h] at h1
    omega
  rw [if_neg hbt] at h1
  have hbR : (b : Int) ∈ R := hR.mem_iff.2 (numsT_mem.2 (by omega))
  obtain ⟨p, hp, hpe⟩ := List.getElem_of_mem hbR
  have hzp : z ≤ p := by
    refine Nat.not_lt.1 fun hc => hbt ?_
    rw [List.mem_take_iff_getElem]
    exact ⟨p, by omega, hpe⟩
  rcases Nat.lt_or_ge z p with h2 | h2
  · have := (List.pairwise_iff_getElem.1 hs) z p (by omega) hp h2
    rw [hm, hpe] at this
    unfold lexLt at this
    simp only [Int.toNat_natCast, hk m hml, hk b hbl] at this
    omega
  · have : p = z := by omega
    subst this
    rw [List.getElem?_eq_getElem hp, hpe]

end Go.Proofs.Ytigpghmbeldakaa

namespace Go.Proofs.Ytigpghmbeldakaa
open Go.RowKit

theorem le_sum : ∀ {ws : List Int}, (∀ x ∈ ws, 0 ≤ x) → ∀ x ∈ ws, x ≤ ws.sum
  | [], _ => fun x hx => by simp at hx
  | y :: ws, h => fun x hx => by
    have hs : 0 ≤ ws.sum := by
      have : ∀ l : List Int, (∀ x ∈ l, 0 ≤ x) → 0 ≤ l.sum := by
        intro l
        induction l with
        | nil => intro _; simp
        | cons z l ih => intro h; have := h z (by simp); have := ih (fun x hx => h x (by simp [hx])); simp only [List.sum_cons]; omega
      exact this ws (fun x hx => h x (by simp [hx]))
    have hy := h y (by simp)
    simp only [List.sum_cons]
    rcases List.mem_cons.1 hx with rfl | hx
    · omega
    · have := le_sum (ws := ws) (fun x hx => h x (by simp [hx])) x hx
      omega

theorem FirstMax.start {M : List Int} (h : 0 < M.length) : FirstMax M 1 0 := by
  refine ⟨h, fun j hj => ?_⟩
  have : j = 0 := by omega
  subst this
  omega

/-- The rows of the reference's sharing. -/
structure RSharing (W w : World) (t S : Int) (ws : List Int) (bl br N k : Nat) : Prop where
  l : RowI 2 .i64 w bl N (Filled ((ws.take k).map fun x => t * x / S) N)
  r : RowI 2 .i64 w br N (Filled ((ws.take k).map fun x => t * x % S) N)
  adds : Adds W w

set_option maxRecDepth 100000 in
set_option maxHeartbeats 4000000 in
theorem RShare_any (t : Int) (p : Option Addr) (cap : Nat) (ws : List Int) (w : World) (hN : ws.length ≤ 5000) (hL : At1 .i64 w p ws) (hq : qOk ws) (h0 : 0 ≤ t) (h1 : t ≤ ws.sum) :
    Calls Try.prog 52 #[.int .i64 t, .slice p ws.length cap] w (RowGot 2 (shareT t ws) w) := by
  obtain ⟨j0, hj, hj0, hj1, hj2⟩ := info_parts info2
  have HJ := Lib.hid hj
  have HJ0 := Lib.hid hj0
  have HJ1 := Lib.hid hj1
  have HJ2 := Lib.hid hj2
  have hSb := (sum_take_bd ws hq)
  obtain ⟨S, hS⟩ : ∃ S : Int, S = ws.sum := ⟨_, rfl⟩
  obtain ⟨N, hNl⟩ : ∃ N, N = ws.length := ⟨_, rfl⟩
  rw [← hS] at h1 hSb
  rw [← hNl] at hN hSb ⊢
  have HSE := Lib.hid hS
  have HN := Lib.hid hNl
  have HL := Lib.hid hL
  have HQ := Lib.hid hq
  have hS1 : S ≤ 5000000000000 := by omega
  have hS0 : 0 ≤ S := hSb.1
  clear hj hj0 hj1 hj2 hS hNl hL hq hSb
  go_enter Try.func52, Try.ntmps52
  go_wp2
  go_loopw [5, 6] (fun v5 v6 wr => ∃ k : Nat, k ≤ N ∧ v6 = .int .i64 k ∧ v5 = .int .i64 (ws.take k).sum ∧ w = wr) (fun _ v6 _ => N - (intOf v6).toNat)
  case atStart => exact ⟨0, by omega, rfl, by simp, rfl⟩
  case round =>
    obtain ⟨k, hk, rfl, rfl, rfl⟩ := hrel
    by_cases hlt : k < N
    · obtain ⟨x, hx⟩ : ∃ x, ws[k]? = some x := ⟨_, List.getElem?_eq_getElem (by have := HN.out; omega)⟩
      obtain ⟨gp, offp, rfl, d0⟩ := HL.out k _ hx
      have hb1 := sum_take_bd _ (HQ.out.take k)
      have hlen : ((ws.take k).length : Int) ≤ 5000 := by rw [List.length_take]; omega
      have hxb := HQ.out x (List.mem_of_getElem? hx)
      have HT : Hid ((ws.take (k + 1)).sum = (ws.take k).sum + x) := Lib.hid (by rw [take_next hx, List.sum_append]; simp)
      generalize (ws.take k).sum = sk at *
      have hs0 : 0 ≤ sk := hb1.1
      have hs1 : sk ≤ 5000000000000 := by have := hb1.2; omega
      clear hx hb1 hlen
      go_wp2
      exact ⟨⟨k + 1, by omega, by go_num, by rw [HT.out], trivial⟩, by simp [intOf]; omega⟩
    · have hkN : k = N := by omega
      have hfull : (ws.take k).sum = S := by rw [List.take_of_length_le (by have := HN.out; omega)]; exact HSE.out.symm
      rw [hfull]
      clear hfull hlt hk
      subst hkN
      go_upto_region 7 with (refine wpList_make_full _ rfl _ _ 36 rfl w.heap.size 2 j0 (.int .i64 0) 1 Try.underlying36 HJ.out HJ0.out HJ1.out .i64 .i64 (k : Int) (k : Int) k rfl rfl rfl rfl (by rw [HJ2.out]; omega) (by unfold maxLen; omega) (Nat.le_refl _) ?_; intro w1 ho hg; have HO := Lib.hid (made_rowI ho); have HA : Hid (Adds w w1) := Lib.hid ⟨hg.os, hg.tape, hg.output, hg.size, fun k hk => hg.block k hk (by simp)⟩; clear ho hg)
      by_cases hSz : S = 0
      · have ht0 : t = 0 := by omega
        have HSH : Hid (shareT t ws = List.replicate k 0) := Lib.hid (by rw [HN.out]; exact shareT_zero (Or.inr trivial) t ht0)
        subst hSz
        clear ht0
        go_wp2
        go_ret
        exact ⟨w.heap.size, k, by rw [HSH.out, List.length_replicate]; rfl, Nat.le_refl _, by rw [HSH.out]; exact HO.out, HA.out⟩
      · have hSp : 0 < S := by omega
        have hSd : (S == 0) = false := beq_eq_false_iff_ne.2 hSz
        have hN0 : 0 < k := by
          rcases Nat.eq_zero_or_pos k with h | h
          · have h1 := HN.out
            rw [h] at h1
            have : ws = [] := List.length_eq_zero_iff.1 h1.symm
            have h2 := HSE.out
            rw [this] at h2
            simp at h2
            omega
          · exact h
        clear hSz
        obtain ⟨bl, hbl⟩ : ∃ b, b = w.heap.size := ⟨_, rfl⟩
        have HBL := Lib.hid hbl
        rw [← hbl] at HO ⊢
        clear hbl
        have hl1 := HO.out.lt
        go_upto_region 11 with (refine wpList_make_full _ rfl _ _ 36 rfl w1.heap.size 2 j0 (.int .i64 0) 1 Try.underlying36 HJ.out HJ0.out HJ1.out .i64 .i64 (k : Int) (k : Int) k rfl rfl rfl rfl (by rw [HJ2.out]; omega) (by unfold maxLen; omega) (Nat.le_refl _) ?_; intro w2 ho hg; have HO2 := Lib.hid (made_rowI ho); have HA2 : Hid (Adds w1 w2) := Lib.hid ⟨hg.os, hg.tape, hg.output, hg.size, fun k hk => hg.block k hk (by simp)⟩; clear ho hg)
        obtain ⟨br, hbr⟩ : ∃ b, b = w1.heap.size := ⟨_, rfl⟩
        have HBR : Hid (w.heap.size ≤ br) := Lib.hid (by rw [hbr]; exact HA.out.size)
        rw [← hbr] at HO2 hl1 ⊢
        have hne : bl ≠ br := by omega
        have hne2 : br ≠ bl := by omega
        have hsh : Hid (RSharing w w2 t S ws bl br k 0) := Lib.hid ⟨by simpa [Filled] using HO.out.later HA2.out, by simpa [Filled] using HO2.out, HA.out.trans HA2.out⟩
        have h00 : Hid (t = t - ((ws.take 0).map fun x => t * x / S).sum) := Lib.hid (by simp)
        clear hbr HO HO2 HA HA2 hl1
        go_wp2
        go_loopw [9, 10] (fun v9 v10 wr => ∃ (i : Nat) (z : Int), i ≤ k ∧ v10 = .int .i64 i ∧ v9 = .int .i64 z ∧ Hid (z = t - ((ws.take i).map fun x => t * x / S).sum) ∧ Hid (RSharing w wr t S ws bl br k i)) (fun _ v10 _ => k - (intOf v10).toNat)
        case atStart => exact ⟨0, t, by omega, rfl, rfl, h00, hsh⟩
        case round =>
          obtain ⟨i, z, hi, rfl, rfl, hz, hs⟩ := hrel
          clear hsh h00
          by_cases hlt : i < k
          · obtain ⟨x, hx⟩ : ∃ x, ws[i]? = some x := ⟨_, List.getElem?_eq_getElem (by have := HN.out; omega)⟩
            have hxb := HQ.out x (List.mem_of_getElem? hx)
            have hxS : x ≤ S := by rw [HSE.out]; exact le_sum (fun y hy => (HQ.out y hy).1) x (List.mem_of_getElem? hx)
            obtain ⟨gp, offp, rfl, d0⟩ := HL.out i _ hx
            have c0 := keep_cell hs.out.adds d0
            obtain ⟨q, hqe⟩ : ∃ q, q = t * x / S := ⟨_, rfl⟩
            obtain ⟨r, hre⟩ : ∃ r, r = t * x % S := ⟨_, rfl⟩
            have hport := fun W => muldiv_any t x S W h0 h1 hxb.1 hxS hSp (by omega)
            rw [← hqe, ← hre] at hport
            have HQI : Hid (t * x / S = q) := Lib.hid hqe.symm
            have HRI : Hid (t * x % S = r) := Lib.hid hre.symm
            have HP := Lib.hid hport
            have lf := hs.out.l.free i
            have rf := hs.out.r.free i
            have HLK : Hid (((ws.take i).map fun x => t * x / S).length = i ∧ ((ws.take i).map fun x => t * x % S).length = i) := Lib.hid (by constructor <;> (rw [List.length_map, List.length_take]; have := HN.out; omega))
            have lc := hs.out.l.cell (j := i) (x := 0) (Filled.at HLK.out.1 hlt)
            have rc := hs.out.r.cell (j := i) (x := 0) (Filled.at HLK.out.2 hlt)
            have HNX : Hid (∀ f : Int → Int, (ws.take (i + 1)).map f = (ws.take i).map f ++ [f x]) := Lib.hid (fun f => by rw [take_next hx, List.map_append]; rfl)
            have hzb := left_k_bd (k := i) hSp HSE.out h0 (fun y hy => (HQ.out y hy).1)
            rw [← hz.out] at hzb
            obtain ⟨hzb1, hzb2⟩ := hzb
            have hqb : 0 ≤ q ∧ q ≤ t := by
              have h1 := left_k_bd (k := i + 1) hSp HSE.out h0 (fun y hy => (HQ.out y hy).1)
              rw [HNX.out, List.sum_append] at h1
              simp only [List.sum_cons, List.sum_nil, Int.add_zero, HQI.out] at h1
              have h2 := hz.out
              refine ⟨?_, by omega⟩
              rw [hqe]
              exact Int.ediv_nonneg (Int.mul_nonneg h0 hxb.1) (by omega)
            obtain ⟨hqb1, hqb2⟩ := hqb
            have HR1 := Lib.hid ((hs.out.l.put i q).far (p := ⟨br, i, none⟩) hne (.int .i64 r))
            have HR2 := Lib.hid ((hs.out.r.far (p := ⟨bl, i, none⟩) hne2 (.int .i64 q)).put i r)
            have hki : (i : Int) < (k : Int) := by omega
            clear hport hqe hre d0 hxb hx
            go_wp2_with (go_at_call 77; refine (HP.out _).mono ?_; rintro e w1 ⟨rfl, rfl⟩)
            go_roundw
            case rel =>
              exact ⟨i + 1, z - q, by omega, by go_num, rfl, Lib.hid (by rw [HNX.out, List.sum_append, hz.out]; simp only [List.sum_cons, List.sum_nil, Int.add_zero, HQI.out]; omega),
                Lib.hid ⟨by rw [HNX.out, HQI.out, ← Filled.next HLK.out.1 hlt]; exact HR1.out, by rw [HNX.out, HRI.out, ← Filled.next HLK.out.2 hlt]; exact HR2.out, (hs.out.adds.set (by have := HBL.out; show w.heap.size ≤ bl; omega) _).set (by have := HBR.out; show w.heap.size ≤ br; omega) _⟩⟩
            case measure => simp [intOf]; omega
          · have hik : i = k := by omega
            subst hik
            have hlenq : (ws.map fun x => t * x / S).length = i := by rw [List.length_map]; exact HN.out.symm
            have hlenr : (ws.map fun x => t * x % S).length = i := by rw [List.length_map]; exact HN.out.symm
            have hl := hs.out.l
            have hr := hs.out.r
            rw [List.take_of_length_le (by rw [← HN.out]; omega), Filled.full hlenq] at hl
            rw [List.take_of_length_le (by rw [← HN.out]; omega), Filled.full hlenr] at hr
            have hZ : z = shareLeft t ws := by rw [hz.out, List.take_of_length_le (by rw [← HN.out]; omega)]; unfold shareLeft; rw [← HSE.out]
            have hzb := left_bd2 (t := t) (ws := ws) (by rw [← HSE.out]; exact hSp)
            rw [← hZ, ← HN.out] at hzb
            obtain ⟨zl, rfl⟩ : ∃ zl : Nat, z = (zl : Int) := ⟨z.toNat, by omega⟩
            have hzi : zl < i := by omega
            obtain ⟨R, hR1, hR2⟩ := order_ex (shareKey t ws) i
            have HRP := Lib.hid hR1
            have HRS := Lib.hid hR2
            have HND : Hid (R.Nodup) := Lib.hid (hR1.nodup_iff.2 ((numsT_asc i).imp (fun {a b} h => by omega)))
            have hgw : ∀ j, j < i → ∃ x, ws[j]? = some x ∧ ws[j]! = x ∧ 0 ≤ x ∧ x ≤ 1000000000 := fun j hj => by
              obtain ⟨x, hx⟩ : ∃ x, ws[j]? = some x := ⟨_, List.getElem?_eq_getElem (by have := HN.out; omega)⟩
              have := HQ.out x (List.mem_of_getElem? hx)
              exact ⟨x, hx, by rw [List.getElem!_eq_getElem?_getD, hx]; rfl, this.1, this.2⟩
            have hgm : ∀ j, j < i → (ws.map fun x => t * x % S)[j]! = t * ws[j]! % S ∧ (ws.map fun x => t * x / S)[j]! = t * ws[j]! / S := fun j hj => by
              obtain ⟨x, hx, hx2, _⟩ := hgw j hj
              constructor <;> (rw [List.getElem!_eq_getElem?_getD, List.getElem?_map, hx, hx2]; rfl)
            have HMB : Hid (∀ j, j < (ws.map fun x => t * x % S).length → 0 ≤ (ws.map fun x => t * x % S)[j]!) := Lib.hid (fun j hj => by rw [(hgm j (by omega)).1]; exact Int.emod_nonneg _ (by omega))
            have HMB2 : Hid (∀ j, j < i → (ws.map fun x => t * x % S)[j]! ≤ 5000000000000) := Lib.hid (fun j hj => by rw [(hgm j hj).1]; have := Int.emod_lt_of_pos (t * ws[j]!) hSp; omega)
            have HKEY : Hid (∀ j, j < (ws.map fun x => t * x % S).length → shareKey t ws j = -(ws.map fun x => t * x % S)[j]!) := Lib.hid (fun j hj => by rw [(hgm j (by omega)).1]; unfold shareKey; rw [← HSE.out])
            have HQB : Hid (∀ j, j < i → 0 ≤ (ws.map fun x => t * x / S)[j]! ∧ (ws.map fun x => t * x / S)[j]! ≤ 1000000000) := Lib.hid (fun j hj => by
              obtain ⟨x, hx, hx2, hx3, hx4⟩ := hgw j hj
              rw [(hgm j hj).2, hx2]
              refine ⟨Int.ediv_nonneg (Int.mul_nonneg h0 hx3) (by omega), ?_⟩
              refine Int.ediv_le_of_le_mul hSp ?_
              rw [Int.mul_comm]
              exact Int.mul_le_mul hx4 h1 (by omega) (by omega))
            have HSH : Hid (bumpT (ws.map fun x => t * x / S) R zl = shareT t ws) := Lib.hid (by
              have := bumpT_share (t := t) (ws := ws) (R := R) (z := zl) (by rw [← HN.out]; exact hR1) hR2 hZ
              rw [← HSE.out] at this
              exact this)
            obtain ⟨Q, hQ⟩ : ∃ Q, Q = ws.map fun x => t * x / S := ⟨_, rfl⟩
            obtain ⟨M, hM⟩ : ∃ M, M = ws.map fun x => t * x % S := ⟨_, rfl⟩
            rw [← hQ] at hl hlenq HQB HSH
            rw [← hM] at hr hlenr HMB HMB2 HKEY
            have HLQ := Lib.hid hlenq
            have HLM := Lib.hid hlenr
            have HL0 : Hid (RowI 2 .i64 wr bl i (bumpT Q R 0)) := Lib.hid (by rw [bumpT_zero]; exact hl)
            have HM0 : Hid (RowI 2 .i64 wr br i (maskT M R 0)) := Lib.hid (by rw [maskT_zero]; exact hr)
            have HAW := Lib.hid hs.out.adds
            obtain ⟨z0, hz0⟩ : ∃ z0 : Int, z0 = (zl : Int) := ⟨_, rfl⟩
            rw [← hz0]
            have HZ0 := Lib.hid hz0
            clear hl hr hZ hzb hR1 hR2 hgw hgm hQ hM hlenq hlenr hs hz hz0 hlt hi
            go_wp2
            go_loopw [9] (fun v9 wr => ∃ (a : Nat) (y : Int), a ≤ zl ∧ v9 = .int .i64 y ∧ Hid (y = (zl : Int) - a) ∧ Hid (RowI 2 .i64 wr bl i (bumpT Q R a)) ∧ Hid (RowI 2 .i64 wr br i (maskT M R a)) ∧ Hid (Adds w wr)) (fun v9 _ => (intOf v9).toNat)
            case atStart => exact ⟨0, z0, by omega, rfl, Lib.hid (by have := HZ0.out; omega), HL0, HM0, HAW⟩
            case round =>
              obtain ⟨a, y, ha, rfl, hy, hrl, hrm, hadd⟩ := hrel
              rename World => wo
              clear HL0 HM0 HAW HZ0
              by_cases hy0 : 0 < y
              · have hai : a < i := by have := hy.out; omega
                have hy1 : y ≤ 5000 := by have := hy.out; omega
                have HF1 : Hid (FirstMax (maskT M R a) 1 0) := Lib.hid (FirstMax.start (by rw [maskT_len, HLM.out]; exact hN0))
                go_wp2
                go_loopw [13, 14] (fun v13 v14 wx => ∃ (u j : Nat), u < i ∧ j ≤ i ∧ u ≤ j ∧ v13 = .int .i64 u ∧ v14 = .int .i64 j ∧ Hid (FirstMax (maskT M R a) j u) ∧ Hid (Adds wo wx)) (fun _ v14 _ => i - (intOf v14).toNat)
                case atStart => exact ⟨0, 1, hN0, by omega, by omega, rfl, rfl, HF1, Lib.hid (Adds.refl _)⟩
                case round =>
                  obtain ⟨u, j, hu, hj, huj, rfl, rfl, hfm, hax⟩ := hrel
                  clear HF1
                  have hrm2 := hrm.out.later hax.out
                  by_cases hlt : j < i
                  · obtain ⟨mj, hmj⟩ : ∃ x, (maskT M R a)[j]? = some x := ⟨_, List.getElem?_eq_getElem (by rw [maskT_len, HLM.out]; exact hlt)⟩
                    obtain ⟨mu, hmu⟩ : ∃ x, (maskT M R a)[u]? = some x := ⟨_, List.getElem?_eq_getElem (by rw [maskT_len, HLM.out]; exact hu)⟩
                    have c1 := hrm2.cell hmj
                    have c2 := hrm2.cell hmu
                    have HJ1' : Hid ((maskT M R a)[j]! = mj) := Lib.hid (by rw [List.getElem!_eq_getElem?_getD, hmj]; rfl)
                    have HU1 : Hid ((maskT M R a)[u]! = mu) := Lib.hid (by rw [List.getElem!_eq_getElem?_getD, hmu]; rfl)
                    have hji : (j : Int) < (i : Int) := by omega
                    have hui : (u : Int) < (i : Int) := by omega
                    clear hmj hmu hrm2
                    go_upto_region 24 with fail
                    by_cases hc : mu < mj
                    · have hd : decide (mu < mj) = true := decide_eq_true hc
                      have HFN := Lib.hid (hfm.out.take (by rw [HJ1'.out, HU1.out]; exact hc) (by rw [maskT_len, HLM.out]; exact hlt))
                      go_quiet (fail)
                      go_wp2
                      go_roundw
                      case rel => exact ⟨j, j + 1, hlt, by omega, by omega, rfl, by go_num, HFN, Lib.hid (hax.out.drewN _)⟩
                      case measure => simp [intOf]; omega
                    · have hd : decide (mu < mj) = false := decide_eq_false hc
                      have HFN := Lib.hid (hfm.out.skip (by rw [HJ1'.out, HU1.out]; omega) huj)
                      go_quiet (fail)
                      go_wp2
                      go_roundw
                      case rel => exact ⟨u, j + 1, hu, by omega, by omega, rfl, by go_num, HFN, Lib.hid (hax.out.drewN _)⟩
                      case measure => simp [intOf]; omega
                  · have hji : j = i := by omega
                    subst hji
                    have hpk : R[a]? = some (u : Int) := pick_next HKEY.out HMB.out (by rw [HLM.out]; exact HRP.out) HRS.out (by rw [HLM.out]; exact hai) (by rw [HLM.out]; exact hfm.out)
                    obtain ⟨b1, b2⟩ := bumpT_next (Q := Q) HND.out hpk (by rw [HLQ.out]; exact hu)
                    have b3 := maskT_next (M := M) hpk (by rw [HLM.out]; exact hu)
                    have hqb := HQB.out u hu
                    obtain ⟨mu, hmu⟩ : ∃ x, (maskT M R a)[u]? = some x := ⟨_, List.getElem?_eq_getElem (by rw [maskT_len, HLM.out]; exact hu)⟩
                    have hrl2 := hrl.out.later hax.out
                    have c1 := hrl2.cell b1
                    have c2 := hrm2.cell hmu
                    have f1 := hrl2.free u
                    have f2 := hrm2.free u
                    obtain ⟨qu, hqu⟩ : ∃ x, x = Q[u]! := ⟨_, rfl⟩
                    rw [← hqu] at c1 b2 hqb
                    have HR1 := Lib.hid ((hrl2.put u (qu + 1)).far (p := ⟨br, u, none⟩) hne (.int .i64 (-1)))
                    have HR2 := Lib.hid ((hrm2.far (p := ⟨bl, u, none⟩) hne2 (.int .i64 (qu + 1))).put u (-1))
                    have HAX : Hid (Adds w wr) := Lib.hid (hadd.out.trans hax.out)
                    rw [b2] at HR1
                    rw [b3] at HR2
                    obtain ⟨hq0, hq1⟩ := hqb
                    have hui : (u : Int) < (j : Int) := by omega
                    clear hpk b1 b2 b3 hmu hqu hrl2 hrm2
                    go_wp2
                    go_roundw
                    case rel => exact ⟨a + 1, y - 1, by have := hy.out; omega, rfl, Lib.hid (by have := hy.out; omega), HR1, HR2, Lib.hid ((HAX.out.set (by have := HBL.out; show w.heap.size ≤ bl; omega) _).set (by have := HBR.out; show w.heap.size ≤ br; omega) _)⟩
                    case measure => simp [intOf]; omega
              · have haz : a = zl := by have := hy.out; omega
                subst haz
                have hrl2 := hrl.out
                rw [HSH.out] at hrl2
                have HRL := Lib.hid hrl2
                have hyd : decide (0 < y) = false := decide_eq_false hy0
                clear hrl2
                go_wp2
                go_ret
                exact ⟨bl, i, by rw [shareT_len, ← HN.out]; rfl, by have := HBL.out; omega, HRL.out, hadd.out⟩

end Go.Proofs.Ytigpghmbeldakaa

namespace Go.Proofs.Ytigpghmbeldakaa
open Go.RowKit

/-- Of two equal weights the later one is given as much as the earlier one, or 1 less. -/
def FEven (f : Int → List Int → List Int) : Prop := ∀ t ws, 0 ≤ t → qOk ws → ∀ (a b : Nat) x, a < b → ws[a]? = some x → ws[b]? = some x → ∃ y z, (f t ws)[a]? = some y ∧ (f t ws)[b]? = some z ∧ z ≤ y ∧ y ≤ z + 1

theorem rank_mono {key : Nat → Int} {n a b : Nat} (h : a < b) (hk : key a = key b) : rankOf key n a ≤ rankOf key n b := by
  unfold rankOf
  rw [← List.countP_eq_length_filter, ← List.countP_eq_length_filter]
  refine List.countP_mono_left fun j _ hj => ?_
  have := of_decide_eq_true hj
  refine decide_eq_true ?_
  rw [← hk]
  omega

theorem share_even : FEven shareAll := by
  intro t ws ht hq a b x hab ha hb
  unfold shareAll
  have h1 := shareT_at (t := min t ws.sum) ha
  have h2 := shareT_at (t := min t ws.sum) hb
  refine ⟨_, _, h1, h2, ?_⟩
  have hk : shareKey (min t ws.sum) ws a = shareKey (min t ws.sum) ws b := by
    unfold shareKey
    rw [List.getElem!_eq_getElem?_getD, List.getElem!_eq_getElem?_getD, ha, hb]
  have hr := rank_mono (n := ws.length) hab hk
  split <;> split <;> omega

theorem drop_while_sorted {k : Int → Int} (c : Int) : ∀ (Q : List Int), (Q.Pairwise fun a b => k a ≤ k b) → (∀ a ∈ Q, c ≤ k a) → ∀ j ∈ Q.drop (Q.takeWhile fun i => decide (k i = c)).length, k j ≠ c
  | [], _, _ => fun j hj => by simp at hj
  | a :: Q, hp, hc => by
    intro j hj
    obtain ⟨h1, h2⟩ := List.pairwise_cons.1 hp
    by_cases ha : k a = c
    · rw [List.takeWhile_cons, if_pos (decide_eq_true ha), List.length_cons, List.drop_succ_cons] at hj
      exact drop_while_sorted c Q h2 (fun b hb => hc b (List.mem_cons_of_mem a hb)) j hj
    · rw [List.takeWhile_cons, if_neg (by simp [ha]), List.length_nil, List.drop_zero] at hj
      have := hc a (by simp)
      rcases List.mem_cons.1 hj with rfl | hj
      · exact ha
      · have := h1 j hj
        omega

theorem grp_apart {l : List Bd} {side x : Int} {Q Q' : List Int} (hQ : Q = x :: Q') (hs : LexSorted (keyT l side) Q) : ∀ j ∈ Q.drop (grpT l Q).length, priceOf l j.toNat ≠ priceOf l x.toNat := by
  have hle : Q.Pairwise fun a b : Int => keyT l side a.toNat ≤ keyT l side b.toNat := hs.imp (fun {a b} h => by omega)
  have hfun : (fun i : Int => decide (priceOf l i.toNat = priceOf l x.toNat)) = fun i : Int => decide (keyT l side i.toNat = keyT l side x.toNat) := by
    funext i
    rw [decide_eq_decide]
    unfold keyT
    split <;> omega
  have hmin : ∀ a ∈ Q, keyT l side x.toNat ≤ keyT l side a.toNat := by
    intro a ha
    rw [hQ] at ha hle
    rcases List.mem_cons.1 ha with rfl | ha
    · omega
    · exact (List.pairwise_cons.1 hle).1 a ha
  intro j hj
  have hg : grpT l Q = Q.takeWhile fun i => decide (keyT l side i.toNat = keyT l side x.toNat) := by
    rw [← hfun, hQ]
    rfl
  rw [hg] at hj
  have := drop_while_sorted (k := fun i => keyT l side i.toNat) _ Q hle hmin j hj
  intro he
  refine this ?_
  show keyT l side j.toNat = keyT l side x.toNat
  unfold keyT
  rw [he]

/-- Equal bids of one price. -/
def Even (l : List Bd) (F : List Int) (i j : Int) : Prop := priceOf l i.toNat = priceOf l j.toNat → qtyOf l i.toNat = qtyOf l j.toNat → F[j.toNat]! ≤ F[i.toNat]! ∧ F[i.toNat]! ≤ F[j.toNat]! + 1

theorem serve_even (f : Int → List Int → List Int) (hf : FShare f) (hu : FUpTo f) (he : FEven f) (l : List Bd) (hok : ∀ b ∈ l, okB b = true) (side : Int) : ∀ (n : Nat) (left : Int) (Q F : List Int), Q.length ≤ n → 0 ≤ left → left ≤ (qtyT l Q).sum → Q.Nodup → (∀ i ∈ Q, 0 ≤ i ∧ i < l.length) → F.length = l.length → (∀ i ∈ Q, F[i.toNat]! = 0) → LexSorted (keyT l side) Q →
    Q.Pairwise (Even l (serveT f l n left Q F))
  | 0, left, Q, F, hn, h0, h1, hnd, hin, hl, hz, hs => by
    have hQ : Q = [] := List.length_eq_zero_iff.1 (by omega)
    subst hQ
    exact List.Pairwise.nil
  | n + 1, left, Q, F, hn, h0, h1, hnd, hin, hl, hz, hs => by
    rw [serveT]
    by_cases hleft : 0 < left
    · rw [if_pos hleft]
      cases hQ : Q with
      | nil => exact List.Pairwise.nil
      | cons x Q' =>
        rw [← hQ]
        have hap := grp_apart hQ hs
        have hsp := grp_split l Q
        have hpos := grp_pos (l := l) (Q := Q) (by rw [hQ]; simp)
        obtain ⟨g, hg⟩ : ∃ g, g = grpT l Q := ⟨_, rfl⟩
        obtain ⟨r, hr⟩ : ∃ r, r = Q.drop (grpT l Q).length := ⟨_, rfl⟩
        have hgp := grp_price (l := l) hQ
        have hrl : r.length < Q.length := by rw [hr, List.length_drop]; have : 0 < Q.length := by rw [hQ]; simp
                                             omega
        rw [← hr] at hsp hap ⊢
        rw [← hg] at hsp hpos hgp ⊢
        have hsp' : Q = g ++ r := hsp.symm
        clear hr
        have hq1 : (qtyT l Q).sum = (qtyT l g).sum + (qtyT l r).sum := by rw [hsp']; simp [qtyT]
        rw [hsp'] at hnd hin hz hs
        obtain ⟨hnd1, hnd2, hnd3⟩ := List.nodup_append.1 hnd
        have hing := fun i hi => hin i (List.mem_append_left r hi)
        have hinr := fun i hi => hin i (List.mem_append_right g hi)
        have hqok := qty_ok (l := l) hok (Q := g) hing
        obtain ⟨f1, f2, f3⟩ := hf left (qtyT l g) h0 hqok
        have hfe := he left (qtyT l g) h0 hqok
        have hr0 := (sum_take_bd _ (qty_ok (l := l) hok (Q := r) hinr)).1
        obtain ⟨v, hv⟩ : ∃ v, v = f left (qtyT l g) := ⟨_, rfl⟩
        rw [← hv] at f1 f2 f3 hfe ⊢
        have hgl : (qtyT l g).length = g.length := by simp [qtyT]
        obtain ⟨p1, p2⟩ := putT_spec g v F hnd1 (by omega) (fun n hn => by rw [hl]; exact hing n hn)
        have hlen := putT_len (g.zip v) F
        obtain ⟨F1, hF1⟩ : ∃ F1, F1 = putT F (g.zip v) := ⟨_, rfl⟩
        rw [← hF1] at p1 p2 hlen ⊢
        have hnotg : ∀ i ∈ r, (i.toNat : Int) ∉ g := fun i hi h => by
          have := hinr i hi
          rw [show ((i.toNat : Nat) : Int) = i by omega] at h
          exact hnd3 i h i hi rfl
        have hz1 : ∀ i ∈ r, F1[i.toNat]! = 0 := fun i hi => by rw [p1 _ (hnotg i hi)]; exact hz i (List.mem_append_right g hi)
        have ih := serve_even f hf hu he l hok side n (left - v.sum) r F1 (by omega) (by rw [f2]; omega) (by rw [f2]; omega) hnd2 hinr (by rw [hlen, hl]) hz1 (List.pairwise_append.1 hs).2.1
        have i2 := (serve_spec f hf hu l hok n (left - v.sum) r F1 (by omega) (by rw [f2]; omega) (by rw [f2]; omega) hnd2 hinr (by rw [hlen, hl]) hz1).out
        obtain ⟨F2, hF2⟩ : ∃ F2, F2 = serveT f l n (left - v.sum) r F1 := ⟨_, rfl⟩
        rw [← hF2] at ih i2 ⊢
        have hnotr : ∀ i ∈ g, (i.toNat : Int) ∉ r := fun i hi h => by
          have := hing i hi
          rw [show ((i.toNat : Nat) : Int) = i by omega] at h
          exact hnd3 i hi i h rfl
        have hsame : ∀ i ∈ g, F2[i.toNat]! = F1[i.toNat]! := fun i hi => i2 _ (hnotr i hi)
        rw [hsp']
        refine List.pairwise_append.2 ⟨?_, ih, ?_⟩
        · rw [List.pairwise_iff_getElem]
          intro a b ha hb hab _ hqe
          rw [hsame _ (List.getElem_mem ha), hsame _ (List.getElem_mem hb)]
          have ga : g[a]? = some g[a] := List.getElem?_eq_getElem ha
          have gb : g[b]? = some g[b] := List.getElem?_eq_getElem hb
          obtain ⟨y, z, e1, e2, e3, e4⟩ := hfe a b (qtyOf l (g[a]).toNat) hab (by rw [qtyT_eq, List.getElem?_map, ga]; rfl) (by rw [qtyT_eq, List.getElem?_map, gb, hqe]; rfl)
          rw [p2 a _ _ ga e1, p2 b _ _ gb e2]
          exact ⟨e3, e4⟩
        · intro i hi j hj hpe
          exact absurd ((hgp i hi).symm.trans hpe).symm (hap j hj)
    · rw [if_neg hleft]
      rw [List.pairwise_iff_getElem]
      intro a b ha hb _ _ _
      rw [hz _ (List.getElem_mem ha), hz _ (List.getElem_mem hb)]
      omega

/-- Of two numbers of one key the lesser one stands first. -/
theorem rank_before {l : List Bd} {x side : Int} {R : List Int} {P : Int → Int → Prop} (hR : RankOf l x side R) (hp : R.Pairwise P) {i k : Nat} (hk : k < i) (mi : (i : Int) ∈ R) (mk : (k : Int) ∈ R) (he : keyT l side i = keyT l side k) : P k i := by
  obtain ⟨a, ha, hae⟩ := List.getElem_of_mem mi
  obtain ⟨b, hb, hbe⟩ := List.getElem_of_mem mk
  have hba : b < a := by
    rcases Nat.lt_trichotomy a b with h | h | h
    · have := (List.pairwise_iff_getElem.1 hR.2) a b ha hb h
      rw [hae, hbe] at this
      simp only [Int.toNat_natCast] at this
      omega
    · subst h
      rw [hae] at hbe
      omega
    · exact h
  have := (List.pairwise_iff_getElem.1 hp) b a hb ha hba
  rwa [hae, hbe] at this

/-- Of two equal bids the later one trades as much as the earlier one, or 1 less. -/
theorem fill_even {f : Int → List Int → List Int} (hf : FShare f) (hu : FUpTo f) (he : FEven f) {l : List Bd} (hok : ∀ b ∈ l, okB b = true) {x V : Int} {F : List Int} (h : FillAt f l x V 2 F) (h0 : 0 ≤ V) (h1 : V ≤ dem l x) (h2 : V ≤ sup l x) {i k : Nat} (hk : k < i) (hi : i < l.length) (heq : l[i]! = l[k]!) : F[i]! ≤ F[k]! ∧ F[k]! ≤ F[i]! + 1 := by
  unfold FillAt at h
  obtain ⟨R, R', hR, hR', rfl⟩ := h
  have s1 : (qtyT l R).sum = dem l x := by rw [rank_sum hR (Or.inl rfl), if_pos rfl]
  have s2 : (qtyT l R').sum = sup l x := by rw [rank_sum hR' (Or.inr rfl), if_neg (by omega)]
  have nd1 : R.Nodup := hR.1.nodup_iff.2 (part_nodup _ _ _ _)
  have nd2 : R'.Nodup := hR'.1.nodup_iff.2 (part_nodup _ _ _ _)
  have z0 : ∀ i : Nat, (List.replicate l.length (0 : Int))[i]! = 0 := fun i => by
    rw [List.getElem!_eq_getElem?_getD, List.getElem?_replicate]
    split <;> rfl
  have a1 := serve_spec f hf hu l hok R.length V R (List.replicate l.length 0) (Nat.le_refl _) h0 (by omega) nd1 (rank_in hR) (by simp) (fun i _ => z0 _)
  have e1 := serve_even f hf hu he l hok 1 R.length V R (List.replicate l.length 0) (Nat.le_refl _) h0 (by omega) nd1 (rank_in hR) (by simp) (fun i _ => z0 _) hR.2
  obtain ⟨F1, hF1⟩ : ∃ F1, F1 = serveT f l R.length V R (List.replicate l.length 0) := ⟨_, rfl⟩
  rw [← hF1] at a1 e1 ⊢
  have hnot : ∀ i : Nat, (i : Int) ∈ R' → (i : Int) ∉ R := fun i hi hi2 => sides_apart ((rank_mem hR).1 hi2).2 ((rank_mem hR').1 hi).2
  have hz : ∀ i ∈ R', F1[i.toNat]! = 0 := fun i hi => by
    have := rank_in hR' i hi
    obtain ⟨k, rfl⟩ : ∃ k : Nat, i = (k : Int) := ⟨i.toNat, by omega⟩
    rw [Int.toNat_natCast, a1.out k (hnot k hi), z0]
  have a2 := serve_spec f hf hu l hok R'.length V R' F1 (Nat.le_refl _) h0 (by omega) nd2 (rank_in hR') (by rw [a1.len]; simp) hz
  have e2 := serve_even f hf hu he l hok 2 R'.length V R' F1 (Nat.le_refl _) h0 (by omega) nd2 (rank_in hR') (by rw [a1.len]; simp) hz hR'.2
  obtain ⟨F2, hF2⟩ : ∃ F2, F2 = serveT f l R'.length V R' F1 := ⟨_, rfl⟩
  rw [← hF2] at a2 e2 ⊢
  have hpr : priceOf l k = priceOf l i := by unfold priceOf; rw [heq]
  have hqt : qtyOf l k = qtyOf l i := by unfold qtyOf; rw [heq]
  have hpart : ∀ side, partB l x side k = partB l x side i := fun side => by unfold partB; rw [heq]
  have hkey : ∀ side, keyT l side i = keyT l side k := fun side => by unfold keyT; rw [hpr]
  have hkl : k < l.length := by omega
  by_cases m2 : (i : Int) ∈ R'
  · have mk : (k : Int) ∈ R' := (rank_mem hR').2 ⟨hkl, by rw [hpart]; exact ((rank_mem hR').1 m2).2⟩
    have := rank_before hR' e2 hk m2 mk (hkey 2)
    unfold Even at this
    simp only [Int.toNat_natCast] at this
    exact this hpr hqt
  · have mk2 : (k : Int) ∉ R' := fun h => m2 ((rank_mem hR').2 ⟨hi, by rw [← hpart]; exact ((rank_mem hR').1 h).2⟩)
    rw [a2.out i m2, a2.out k mk2]
    by_cases m1 : (i : Int) ∈ R
    · have mk : (k : Int) ∈ R := (rank_mem hR).2 ⟨hkl, by rw [hpart]; exact ((rank_mem hR).1 m1).2⟩
      have := rank_before hR e1 hk m1 mk (hkey 1)
      unfold Even at this
      simp only [Int.toNat_natCast] at this
      exact this hpr hqt
    · have mk : (k : Int) ∉ R := fun h => m1 ((rank_mem hR).2 ⟨hi, by rw [← hpart]; exact ((rank_mem hR).1 h).2⟩)
      rw [a1.out i m1, a1.out k mk, z0, z0]
      omega

/-- The order of the bids counts for nothing. -/
theorem dem_rev (l : List Bd) (x : Int) : dem l.reverse x = dem l x := by unfold dem; exact perm_sum' ((List.reverse_perm l).map _)
theorem sup_rev (l : List Bd) (x : Int) : sup l.reverse x = sup l x := by unfold sup; exact perm_sum' ((List.reverse_perm l).map _)
theorem vol_rev (l : List Bd) : volAt l.reverse = volAt l := by funext x; unfold volAt; rw [dem_rev, sup_rev]
theorem sur_rev (l : List Bd) : surAt l.reverse = surAt l := by funext x; unfold surAt; rw [dem_rev, sup_rev]
theorem best_rev (l : List Bd) : BestAt l.reverse = BestAt l := by funext x; unfold BestAt; rw [vol_rev]
theorem few_rev (l : List Bd) : FewAt l.reverse = FewAt l := by funext x; unfold FewAt; rw [best_rev, sur_rev]
theorem price_rev {l : List Bd} {p x : Int} (h : PriceAt l.reverse p x) : PriceAt l p x := by
  have ha : Above l.reverse = Above l := by unfold Above; rw [few_rev, sur_rev]
  have hu : Under l.reverse = Under l := by unfold Under; rw [few_rev, sur_rev]
  obtain ⟨h1, h2, h3, h4⟩ := h
  rw [ha, few_rev] at h2
  rw [hu, few_rev] at h3
  rw [ha, hu, few_rev] at h4
  rw [few_rev] at h1
  exact ⟨h1, h2, h3, h4⟩

theorem orders_res {L : List Bd} {p r1 r2 px v sr er px2 v2 sr2 er2 : Int} {fv fv2 : Value} {w w1 w2 w3 : World} (h1 : ClearRes (PriceAt L p) L r1 px v sr fv er w w1) (h2 : ClearRes (PriceAt L.reverse p) L.reverse r2 px2 v2 sr2 fv2 er2 w2 w3) : er = er2 ∧ px = px2 ∧ v = v2 ∧ sr = sr2 := by
  by_cases e1 : er = 0
  · obtain ⟨a1, a2, a3, a4, _⟩ := h1.yes e1
    by_cases e2 : er2 = 0
    · obtain ⟨b1, b2, b3, b4, _⟩ := h2.yes e2
      have := a1.unique (price_rev b1)
      subst this
      rw [vol_rev] at b2
      rw [sur_rev] at b4
      exact ⟨by omega, rfl, by omega, by omega⟩
    · obtain ⟨_, _, _, _, _, x, hx, hv⟩ := h2.no e2
      have := a1.unique (price_rev hx)
      subst this
      rw [vol_rev] at hv
      omega
  · obtain ⟨c1, c2, c3, c4, _, x, hx, hv⟩ := h1.no e1
    by_cases e2 : er2 = 0
    · obtain ⟨b1, b2, b3, b4, _⟩ := h2.yes e2
      have := hx.unique (price_rev b1)
      subst this
      rw [vol_rev] at b2
      omega
    · obtain ⟨d1, d2, d3, d4, _⟩ := h2.no e2
      omega

end Go.Proofs.Ytigpghmbeldakaa

namespace Go.Proofs.Ytigpghmbeldakaa
open Go.RowKit

/-- The numbers that are picked, and the weights with zeros for the others. -/
def pickN (p : Nat → Bool) (n : Nat) : List Nat := (List.range n).filter p
def padW (p : Nat → Bool) (q : Nat → Int) (n : Nat) : List Int := (List.range n).map fun i => if p i = true then q i else 0

theorem padW_len (p : Nat → Bool) (q : Nat → Int) (n : Nat) : (padW p q n).length = n := by simp [padW]
theorem padW_at {p : Nat → Bool} {q : Nat → Int} {n i : Nat} (h : i < n) : (padW p q n)[i]! = if p i = true then q i else 0 := by
  unfold padW
  rw [List.getElem!_eq_getElem?_getD, List.getElem?_map, List.getElem?_range h]
  rfl
theorem pick_asc (p : Nat → Bool) (n : Nat) : (pickN p n).Pairwise fun a b => a < b := List.Pairwise.filter _ List.pairwise_lt_range
theorem pick_mem {p : Nat → Bool} {n i : Nat} : i ∈ pickN p n ↔ i < n ∧ p i = true := by unfold pickN; rw [List.mem_filter, List.mem_range]

theorem pad_sum_list (p : Nat → Bool) (q : Nat → Int) (f : Int → Int) (hf : f 0 = 0) : ∀ L : List Nat, (L.map fun i => f (if p i = true then q i else 0)).sum = ((L.filter p).map fun i => f (q i)).sum
  | [] => rfl
  | a :: L => by
    have ih := pad_sum_list p q f hf L
    cases ha : p a with
    | true =>
      rw [List.filter_cons_of_pos ha]
      simp only [List.map_cons, List.sum_cons, ha, if_true, ih]
    | false =>
      rw [List.filter_cons_of_neg (by simp [ha])]
      simp only [List.map_cons, List.sum_cons, ha, Bool.false_eq_true, if_false, ih, hf]
      omega
theorem pad_sum (p : Nat → Bool) (q : Nat → Int) (n : Nat) : (padW p q n).sum = ((pickN p n).map q).sum := pad_sum_list p q (fun x => x) rfl _
theorem pad_sumf (p : Nat → Bool) (q : Nat → Int) (n : Nat) (f : Int → Int) (hf : f 0 = 0) : ((padW p q n).map f).sum = (((pickN p n).map q).map f).sum := by
  have := pad_sum_list p q f hf (List.range n)
  unfold padW pickN
  rw [List.map_map, List.map_map]
  exact this

theorem asc_get {G : List Nat} (h : G.Pairwise fun a b => a < b) {a b : Nat} (ha : a < G.length) (hb : b < G.length) : G[a]! < G[b]! ↔ a < b := by
  rw [getElem!_pos G a ha, getElem!_pos G b hb]
  have h1 := List.pairwise_iff_getElem.1 h
  constructor
  · intro hlt
    rcases Nat.lt_trichotomy a b with hc | hc | hc
    · exact hc
    · subst hc; omega
    · have := h1 b a hb ha hc; omega
  · intro hlt
    exact h1 a b ha hb hlt

theorem map_get_range (G : List Nat) : G = (List.range G.length).map fun k => G[k]! := by
  apply List.ext_getElem?
  intro k
  by_cases h : k < G.length
  · rw [List.getElem?_map, List.getElem?_range h, Option.map_some, getElem!_pos G k h, List.getElem?_eq_getElem h]
  · rw [List.getElem?_eq_none (by omega), List.getElem?_eq_none (by simp; omega)]

/-- Nobody whose quota is whole is given more. -/
theorem no_bump {t : Int} {ws : List Int} {i : Nat} (hS : 0 < ws.sum) (hi : i < ws.length) (hz : t * ws[i]! % ws.sum = 0) : ¬ ((rankOf (shareKey t ws) ws.length i : Int) < shareLeft t ws) := by
  intro hc
  obtain ⟨R, hR, hs⟩ := order_ex (shareKey t ws) ws.length
  have hb := left_bd2 (t := t) hS
  obtain ⟨z, hzz⟩ : ∃ z : Nat, (z : Int) = shareLeft t ws := ⟨(shareLeft t ws).toNat, by omega⟩
  have hm : (i : Int) ∈ R.take z := (mem_take_iff hR hs hi).2 (by omega)
  have := rest_pos hS hR hs hzz hm
  omega

section
variable {p : Nat → Bool} {q : Nat → Int} {n : Nat} {t : Int}

theorem pad_left (t : Int) : shareLeft t (padW p q n) = shareLeft t ((pickN p n).map q) := by
  unfold shareLeft
  rw [pad_sum, pad_sumf p q n (fun x => t * x / ((pickN p n).map q).sum) (by simp)]

theorem pick_get {k : Nat} (hk : k < (pickN p n).length) : (pickN p n)[k]! < n ∧ p (pickN p n)[k]! = true := by
  rw [getElem!_pos _ k hk]
  exact pick_mem.1 (List.getElem_mem hk)
theorem pickq_get {k : Nat} (hk : k < (pickN p n).length) : ((pickN p n).map q)[k]! = q (pickN p n)[k]! := by
  rw [getElem!_pos _ k (by simpa using hk), List.getElem_map, getElem!_pos _ k hk]
theorem pad_key {k : Nat} (hk : k < (pickN p n).length) : shareKey t (padW p q n) (pickN p n)[k]! = shareKey t ((pickN p n).map q) k := by
  obtain ⟨h1, h2⟩ := pick_get hk
  unfold shareKey
  rw [padW_at h1, if_pos h2, pad_sum, pickq_get hk]

theorem pad_rank (hS : 0 < (padW p q n).sum) {k : Nat} (hk : k < (pickN p n).length) (hr : 0 < t * q (pickN p n)[k]! % (padW p q n).sum) :
    rankOf (shareKey t (padW p q n)) n (pickN p n)[k]! = rankOf (shareKey t ((pickN p n).map q)) (pickN p n).length k := by
  obtain ⟨h1, h2⟩ := pick_get hk
  have hkey : shareKey t (padW p q n) (pickN p n)[k]! < 0 := by
    unfold shareKey
    rw [padW_at h1, if_pos h2]
    omega
  unfold rankOf
  have e1 : (List.range n).filter (fun j => decide (shareKey t (padW p q n) j < shareKey t (padW p q n) (pickN p n)[k]! ∨ shareKey t (padW p q n) j = shareKey t (padW p q n) (pickN p n)[k]! ∧ j < (pickN p n)[k]!))
      = (pickN p n).filter (fun j => decide (shareKey t (padW p q n) j < shareKey t (padW p q n) (pickN p n)[k]! ∨ shareKey t (padW p q n) j = shareKey t (padW p q n) (pickN p n)[k]! ∧ j < (pickN p n)[k]!)) := by
    show _ = ((List.range n).filter p).filter _
    rw [List.filter_filter]
    apply List.filter_congr
    intro j hj
    cases hp : p j with
    | true => simp
    | false =>
      have hz : shareKey t (padW p q n) j = 0 := by
        unfold shareKey
        rw [padW_at (List.mem_range.1 hj), if_neg (by simp [hp])]
        simp
      rw [Bool.and_false, hz]
      exact decide_eq_false (by omega)
  rw [e1]
  have e2 : (pickN p n).filter (fun j => decide (shareKey t (padW p q n) j < shareKey t (padW p q n) (pickN p n)[k]! ∨ shareKey t (padW p q n) j = shareKey t (padW p q n) (pickN p n)[k]! ∧ j < (pickN p n)[k]!))
      = ((List.range (pickN p n).length).filter (fun j => decide (shareKey t ((pickN p n).map q) j < shareKey t ((pickN p n).map q) k ∨ shareKey t ((pickN p n).map q) j = shareKey t ((pickN p n).map q) k ∧ j < k))).map fun j => (pickN p n)[j]! := by
    conv => lhs; arg 2; rw [map_get_range (pickN p n)]
    rw [List.filter_map]
    congr 1
    apply List.filter_congr
    intro j hj
    have hj := List.mem_range.1 hj
    simp only [Function.comp_apply, decide_eq_decide]
    have a1 := pad_key (t := t) (q := q) hj
    have a2 := pad_key (t := t) (q := q) hk
    have a3 := asc_get (pick_asc p n) hj hk
    rw [a1, a2]
    omega
  rw [e2, List.length_map]

theorem getT {t : Int} {ws : List Int} {i : Nat} (hi : i < ws.length) : (shareT t ws)[i]! = t * ws[i]! / ws.sum + if (rankOf (shareKey t ws) ws.length i : Int) < shareLeft t ws then 1 else 0 := by
  rw [List.getElem!_eq_getElem?_getD, shareT_at (x := ws[i]!) (by rw [getElem!_pos ws i hi]; exact List.getElem?_eq_getElem hi)]
  rfl

/-- Zeros among the weights change no share. -/
theorem share_pad (hS : 0 < (padW p q n).sum) (hq : ∀ i, i < n → 0 ≤ q i) (ht : 0 ≤ t) :
    (∀ i, i < n → p i = false → (shareT t (padW p q n))[i]! = 0) ∧ ∀ k, k < (pickN p n).length → (shareT t (padW p q n))[(pickN p n)[k]!]! = (shareT t ((pickN p n).map q))[k]! := by
  constructor
  · intro i hi hp
    have hw : (padW p q n)[i]! = 0 := by rw [padW_at hi, if_neg (by simp [hp])]
    rw [getT (by rw [padW_len]; exact hi), if_neg (no_bump hS (by rw [padW_len]; exact hi) (by rw [hw]; simp)), hw]
    simp
  · intro k hk
    obtain ⟨h1, h2⟩ := pick_get hk
    have hw : (padW p q n)[(pickN p n)[k]!]! = q (pickN p n)[k]! := by rw [padW_at h1, if_pos h2]
    have hl : (pickN p n)[k]! < (padW p q n).length := by rw [padW_len]; exact h1
    have hk2 : k < ((pickN p n).map q).length := by simpa using hk
    have hw2 : ((pickN p n).map q)[k]! = q (pickN p n)[k]! := pickq_get hk
    rw [getT hl, getT hk2, hw, hw2]
    have hS2 := hS
    rw [pad_sum] at hS2
    by_cases hr : t * q (pickN p n)[k]! % (padW p q n).sum = 0
    · rw [if_neg (no_bump hS hl (by rw [hw]; exact hr)), if_neg (no_bump hS2 hk2 (by rw [hw2, ← pad_sum]; exact hr)), pad_sum]
    · have h0 := Int.emod_nonneg (t * q (pickN p n)[k]!) (show (padW p q n).sum ≠ 0 by omega)
      have hrk := pad_rank hS hk (t := t) (by omega)
      rw [padW_len, hrk, List.length_map, pad_left, pad_sum]

/-- One after the other, with zeros among the weights. -/
theorem turn_pad_list (hq : ∀ i, 0 ≤ q i) : ∀ (L : List Nat) (t : Int), 0 ≤ t →
    (∀ i x, (i, x) ∈ L.zip (turnT t (L.map fun i => if p i = true then q i else 0)) → p i = false → x = 0) ∧
    (L.zip (turnT t (L.map fun i => if p i = true then q i else 0))).filter (fun z => p z.1) = (L.filter p).zip (turnT t ((L.filter p).map q))
  | [], t, _ => ⟨fun i x h => by simp at h, rfl⟩
  | a :: L, t, ht => by
    cases ha : p a with
    | true =>
      have hqa := hq a
      obtain ⟨i1, i2⟩ := turn_pad_list hq L (t - min (q a) t) (by omega)
      rw [List.filter_cons_of_pos ha]
      simp only [List.map_cons, ha, if_true, turnT, List.zip_cons_cons]
      constructor
      · intro i x h hp
        rcases List.mem_cons.1 h with h | h
        · cases h
          rw [ha] at hp
          cases hp
        · exact i1 i x h hp
      · rw [List.filter_cons_of_pos (p := fun z : Nat × Int => p z.1) (a := (a, min (q a) t)) ha, i2]
    | false =>
      obtain ⟨i1, i2⟩ := turn_pad_list hq L t ht
      rw [List.filter_cons_of_neg (by simp [ha])]
      have hm : min 0 t = 0 := by omega
      simp only [List.map_cons, ha, Bool.false_eq_true, if_false, turnT, List.zip_cons_cons, hm, Int.sub_zero]
      constructor
      · intro i x h hp
        rcases List.mem_cons.1 h with h | h
        · cases h
          rfl
        · exact i1 i x h hp
      · rw [List.filter_cons_of_neg (p := fun z : Nat × Int => p z.1) (a := (a, 0)) (by simp [ha]), i2]

theorem turn_pad (hq : ∀ i, 0 ≤ q i) (ht : 0 ≤ t) :
    (∀ i, i < n → p i = false → (turnT t (padW p q n))[i]! = 0) ∧ ∀ k, k < (pickN p n).length → (turnT t (padW p q n))[(pickN p n)[k]!]! = (turnT t ((pickN p n).map q))[k]! := by
  obtain ⟨h1, h2⟩ := turn_pad_list (p := p) hq (List.range n) t ht
  have hl : (turnT t (padW p q n)).length = n := by rw [turnT_len, padW_len]
  constructor
  · intro i hi hp
    refine h1 i _ ?_ hp
    have e1 : (List.range n)[i]? = some i := List.getElem?_range hi
    have e2 : (turnT t (padW p q n))[i]? = some (turnT t (padW p q n))[i]! := by rw [getElem!_pos _ i (by omega)]; exact List.getElem?_eq_getElem _
    exact List.mem_of_getElem? (List.getElem?_zip_eq_some.2 ⟨e1, e2⟩)
  · intro k hk
    have hk2 : k < (turnT t ((pickN p n).map q)).length := by rw [turnT_len, List.length_map]; exact hk
    have e1 : (pickN p n)[k]? = some (pickN p n)[k]! := by rw [getElem!_pos _ k hk]; exact List.getElem?_eq_getElem _
    have e2 : (turnT t ((pickN p n).map q))[k]? = some (turnT t ((pickN p n).map q))[k]! := by rw [getElem!_pos _ k hk2]; exact List.getElem?_eq_getElem _
    have hm : ((pickN p n)[k]!, (turnT t ((pickN p n).map q))[k]!) ∈ (pickN p n).zip (turnT t ((pickN p n).map q)) := List.mem_of_getElem? (List.getElem?_zip_eq_some.2 ⟨e1, e2⟩)
    have hm2 : ((pickN p n)[k]!, (turnT t ((pickN p n).map q))[k]!) ∈ (List.range n).zip (turnT t (padW p q n)) := by
      have : (pickN p n).zip (turnT t ((pickN p n).map q)) = _ := h2.symm
      rw [this] at hm
      exact (List.mem_filter.1 hm).1
    obtain ⟨i, hi⟩ := List.getElem?_of_mem hm2
    obtain ⟨e3, e4⟩ := List.getElem?_zip_eq_some.1 hi
    have hin : i < n := by have := (List.getElem?_eq_some_iff.1 e3).1; simpa using this
    rw [List.getElem?_range hin] at e3
    have : i = (pickN p n)[k]! := Option.some.inj e3
    rw [← this, List.getElem!_eq_getElem?_getD, e4]
    rfl
end

/-- All that is asked is given where there is enough. -/
theorem share_full {f : Int → List Int → List Int} (hf : FShare f) (hu : FUpTo f) {t : Int} {ws : List Int} (ht : 0 ≤ t) (hq : qOk ws) (h : ws.sum ≤ t) : f t ws = ws := by
  obtain ⟨h1, h2, _⟩ := hf t ws ht hq
  rw [Int.min_eq_right h] at h2
  have hb := hu t ws ht hq
  have hget : ∀ i : Nat, i < ws.length → (f t ws)[i]! ≤ ws[i]! := fun i hi => by
    obtain ⟨y, a, _, c⟩ := hb i ws[i] (List.getElem?_eq_getElem hi)
    rw [List.getElem!_eq_getElem?_getD, a, getElem!_pos ws i hi]
    exact c
  have e1 := nums_map_get (f t ws) (fun x => x)
  have e2 := nums_map_get ws (fun x => x)
  rw [h1] at e1
  have hall := full_of_sum (numsT ws.length) (fun m => (f t ws)[m.toNat]!) (fun m => ws[m.toNat]!) (fun m hm => by
    have := numsT_mem.1 hm
    exact hget m.toNat (by omega)) (by rw [e1, e2, List.map_id', List.map_id', h2])
  apply List.ext_getElem?
  intro i
  by_cases hi : i < ws.length
  · have := hall (i : Int) (numsT_mem.2 (by omega))
    simp only [Int.toNat_natCast] at this
    rw [getElem!_pos _ i (by omega), getElem!_pos ws i hi] at this
    rw [List.getElem?_eq_getElem (by omega), List.getElem?_eq_getElem hi, this]
  · rw [List.getElem?_eq_none (by omega), List.getElem?_eq_none (by omega)]

/-- What the reference gives. -/
def partsT (rule left : Int) (ws : List Int) : List Int := if left < ws.sum then (if rule = 2 then shareT left ws else turnT left ws) else ws
theorem partsT_len (rule left : Int) (ws : List Int) : (partsT rule left ws).length = ws.length := by
  unfold partsT
  split
  · split
    · exact shareT_len _ _
    · exact turnT_len _ _
  · rfl

/-- Two rising lists with the same members are one. -/
theorem asc_ext : ∀ {a b : List Int}, (a.Pairwise fun x y => x < y) → (b.Pairwise fun x y => x < y) → (∀ x, x ∈ a ↔ x ∈ b) → a = b
  | [], [], _, _, _ => rfl
  | [], y :: b, _, _, h => by have := (h y).2 (by simp); simp at this
  | x :: a, [], _, _, h => by have := (h x).1 (by simp); simp at this
  | x :: a, y :: b, ha, hb, h => by
    obtain ⟨a1, a2⟩ := List.pairwise_cons.1 ha
    obtain ⟨b1, b2⟩ := List.pairwise_cons.1 hb
    have hxy : x = y := by
      have h1 := (h x).1 (by simp)
      have h2 := (h y).2 (by simp)
      rcases List.mem_cons.1 h1 with h1 | h1
      · exact h1
      · rcases List.mem_cons.1 h2 with h2 | h2
        · exact h2.symm
        · have := a1 y h2
          have := b1 x h1
          omega
    subst hxy
    rw [asc_ext a2 b2 (fun z => ?_)]
    constructor
    · intro hz
      rcases List.mem_cons.1 ((h z).1 (by simp [hz])) with e | e
      · subst e
        have := a1 z hz
        omega
      · exact e
    · intro hz
      rcases List.mem_cons.1 ((h z).2 (by simp [hz])) with e | e
      · subst e
        have := b1 z hz
        omega
      · exact e

end Go.Proofs.Ytigpghmbeldakaa

namespace Go.Proofs.Ytigpghmbeldakaa
open Go.RowKit

/-- The bids of a side at a price. -/
def sideP (l : List Bd) (side best : Int) (i : Nat) : Bool := decide ((l[i]!).1 = side ∧ priceOf l i = best)
/-- Their quantities, 0 for the others. -/
def sideW (l : List Bd) (side best : Int) : List Int := padW (sideP l side best) (qtyOf l) l.length
/-- Two rows added. -/
def addT (F P : List Int) : List Int := (List.range F.length).map fun i => F[i]! + P[i]!

theorem addT_len (F P : List Int) : (addT F P).length = F.length := by simp [addT]
theorem addT_at {F P : List Int} {i : Nat} (h : i < F.length) : (addT F P)[i]! = F[i]! + P[i]! := by
  unfold addT
  rw [List.getElem!_eq_getElem?_getD, List.getElem?_map, List.getElem?_range h]
  rfl
theorem qty_all {l : List Bd} (hok : ∀ b ∈ l, okB b = true) (i : Nat) : 0 ≤ qtyOf l i := by
  by_cases h : i < l.length
  · have := qty_nn hok h; omega
  · unfold qtyOf
    rw [List.getElem!_eq_getElem?_getD, List.getElem?_eq_none (by omega)]
    decide

/-- What the reference gives is what the rule gives. -/
theorem parts_rule {rule left : Int} {p : Nat → Bool} {q : Nat → Int} {n : Nat} (hr : rule = 1 ∨ rule = 2) (hl : 0 < left) (hq : ∀ i, 0 ≤ q i) (hqo : qOk ((pickN p n).map q)) :
    (∀ i, i < n → p i = false → (partsT rule left (padW p q n))[i]! = 0) ∧ ∀ k, k < (pickN p n).length → (partsT rule left (padW p q n))[(pickN p n)[k]!]! = (ruleF rule left ((pickN p n).map q))[k]! := by
  unfold partsT
  by_cases hs : left < (padW p q n).sum
  · rw [if_pos hs]
    rcases hr with rfl | rfl
    · rw [if_neg (by omega)]
      have := turn_pad (p := p) (n := n) hq (show 0 ≤ left by omega)
      unfold ruleF
      rw [if_pos rfl]
      exact this
    · rw [if_pos rfl]
      have := share_pad (p := p) (q := q) (n := n) (t := left) (by omega) (fun i _ => hq i) (by omega)
      unfold ruleF
      rw [if_neg (by omega)]
      unfold shareAll
      rw [Int.min_eq_left (by rw [← pad_sum]; omega)]
      exact this
  · rw [if_neg hs]
    have hf := share_full (ruleF_share rule) (ruleF_upto rule) (t := left) (by omega) hqo (by rw [← pad_sum]; omega)
    rw [hf]
    constructor
    · intro i hi hp
      rw [padW_at hi, if_neg (by simp [hp])]
    · intro k hk
      obtain ⟨h1, h2⟩ := pick_get hk
      rw [padW_at h1, if_pos h2, pickq_get hk]

/-- How far a side has been served. -/
structure RServe (l : List Bd) (px side : Int) (f : Int → List Int → List Int) (FIN : List Int) (left : Int) (Q F : List Int) : Prop where
  ins : ∀ i ∈ Q, 0 ≤ i ∧ i < l.length ∧ partB l px side i.toNat = true
  sorted : LexSorted (keyT l side) Q
  nodup : Q.Nodup
  closed : ∀ i : Nat, i < l.length → partB l px side i = true → (i : Int) ∉ Q → ∀ j ∈ Q, keyT l side i < keyT l side j.toNat
  zero : ∀ i ∈ Q, F[i.toNat]! = 0
  pos : 0 < left → ∀ i : Nat, i < l.length → partB l px side i = true → (i : Int) ∉ Q → 0 < F[i]!
  fin : ∃ m, Q.length ≤ m ∧ serveT f l m left Q F = FIN
  left0 : 0 ≤ left
  left1 : left ≤ (qtyT l Q).sum
  len : F.length = l.length
  bd : ∀ i, i < l.length → 0 ≤ F[i]! ∧ F[i]! ≤ 1000000000

theorem key_price {l : List Bd} {side : Int} {i j : Nat} : keyT l side i = keyT l side j ↔ priceOf l i = priceOf l j := by
  unfold keyT
  split <;> omega

theorem part_same {l : List Bd} {px side : Int} {i j : Nat} (hi : (l[i]!).1 = side) (hp : priceOf l i = priceOf l j) (hj : partB l px side j = true) : partB l px side i = true := by
  unfold partB at hj ⊢
  rw [Bool.and_eq_true, decide_eq_true_eq] at hj
  obtain ⟨h1, h2⟩ := hj
  rw [decide_eq_true hi, Bool.true_and]
  unfold takesB at h2 ⊢
  unfold priceOf at hp
  rw [hi, hp]
  rw [h1] at h2
  exact h2

/-- The first ones of a queue are the bids at the best price. -/
theorem grp_pick {l : List Bd} {px side : Int} {f : Int → List Int → List Int} {FIN : List Int} {left x : Int} {Q Q' F : List Int} (h : RServe l px side f FIN left Q F) (hQ : Q = x :: Q') :
    grpT l Q = (pickN (sideP l side (priceOf l x.toNat)) l.length).map Int.ofNat := by
  have hx := h.ins x (by rw [hQ]; simp)
  have hsp := grp_split l Q
  have hgp := grp_price (l := l) hQ
  have hap := grp_apart hQ h.sorted
  have hsub : (grpT l Q).Sublist Q := by
    have := List.sublist_append_left (grpT l Q) (Q.drop (grpT l Q).length)
    rw [hsp] at this
    exact this
  have hxp := hx.2.2
  unfold partB at hxp
  rw [Bool.and_eq_true, decide_eq_true_eq] at hxp
  apply asc_ext
  · have hs := List.pairwise_iff_getElem.1 (h.sorted.sublist hsub)
    rw [List.pairwise_iff_getElem]
    intro a b ha hb hab
    have h1 := hs a b ha hb hab
    have e := key_price (l := l) (side := side).2 ((hgp _ (List.getElem_mem ha)).trans (hgp _ (List.getElem_mem hb)).symm)
    omega
  · rw [List.pairwise_map]
    exact (pick_asc _ _).imp (fun {a b} hab => by simp only [Int.ofNat_eq_natCast]; omega)
  · intro y
    constructor
    · intro hy
      have hyQ := hsub.subset hy
      obtain ⟨y0, y1, y2⟩ := h.ins y hyQ
      unfold partB at y2
      rw [Bool.and_eq_true, decide_eq_true_eq] at y2
      refine List.mem_map.2 ⟨y.toNat, pick_mem.2 ⟨by omega, decide_eq_true ⟨y2.1, hgp y hy⟩⟩, by simp only [Int.ofNat_eq_natCast]; omega⟩
    · intro hy
      obtain ⟨i, hi, rfl⟩ := List.mem_map.1 hy
      obtain ⟨i1, i2⟩ := pick_mem.1 hi
      have i3 := of_decide_eq_true i2
      simp only [Int.ofNat_eq_natCast] at hy ⊢
      have hiQ : (i : Int) ∈ Q := by
        refine Classical.byContradiction fun hn => ?_
        have := h.closed i i1 (part_same i3.1 i3.2 hx.2.2) hn x (by rw [hQ]; simp)
        have e := key_price (l := l) (side := side).2 i3.2
        omega
      rw [← hsp] at hiQ
      rcases List.mem_append.1 hiQ with hg | hg
      · exact hg
      · have := hap _ hg
        rw [Int.toNat_natCast] at this
        exact absurd i3.2 this

theorem qty_pick {l : List Bd} (p : Nat → Bool) : qtyT l ((pickN p l.length).map Int.ofNat) = (pickN p l.length).map (qtyOf l) := by
  unfold qtyT
  rw [List.map_map]
  rfl

/-- One price served. -/
theorem rserve_step {l : List Bd} {px side rule : Int} {FIN : List Int} {left x : Int} {Q Q' F : List Int} (hok : ∀ b ∈ l, okB b = true) (hr : rule = 1 ∨ rule = 2) (h : RServe l px side (ruleF rule) FIN left Q F) (hl : 0 < left) (hQ : Q = x :: Q') :
    RServe l px side (ruleF rule) FIN (left - min left (sideW l side (priceOf l x.toNat)).sum) (Q.drop (grpT l Q).length) (addT F (partsT rule left (sideW l side (priceOf l x.toNat)))) := by
  have hf := ruleF_share rule
  have hu := ruleF_upto rule
  obtain ⟨f, hfe⟩ : ∃ f, f = ruleF rule := ⟨_, rfl⟩
  have hgk := grp_pick h hQ
  have hap := grp_apart hQ h.sorted
  have hgp := grp_price (l := l) hQ
  have hsp := grp_split l Q
  have hpos := grp_pos (l := l) (Q := Q) (by rw [hQ]; simp)
  have hqg : qtyT l (grpT l Q) = (pickN (sideP l side (priceOf l x.toNat)) l.length).map (qtyOf l) := by rw [hgk, qty_pick]
  have hing0 : ∀ i ∈ Q, 0 ≤ i ∧ i < l.length := fun i hi => ⟨(h.ins i hi).1, (h.ins i hi).2.1⟩
  obtain ⟨g, hg⟩ : ∃ g, g = grpT l Q := ⟨_, rfl⟩
  obtain ⟨r, hrr⟩ : ∃ r, r = Q.drop (grpT l Q).length := ⟨_, rfl⟩
  rw [← hrr] at hap hsp ⊢
  rw [← hg] at hgk hgp hsp hpos hqg
  have hQs : Q = g ++ r := hsp.symm
  have hrl : r.length < Q.length := by
    rw [hQs, List.length_append]; omega
  have hsorted := h.sorted
  have hnd := h.nodup
  have hin := h.ins
  have hzz := h.zero
  have hl1 := h.left1
  rw [hQs] at hsorted hnd hin hzz hl1
  obtain ⟨hnd1, hnd2, hnd3⟩ := List.nodup_append.1 hnd
  obtain ⟨hs1, hs2, hs3⟩ := List.pairwise_append.1 hsorted
  have hq1 : (qtyT l (g ++ r)).sum = (qtyT l g).sum + (qtyT l r).sum := by simp [qtyT]
  have hqok := qty_ok (l := l) hok (Q := g) (fun i hi => hing0 i (by rw [hQs]; exact List.mem_append_left r hi))
  have hqor := qty_ok (l := l) hok (Q := r) (fun i hi => hing0 i (by rw [hQs]; exact List.mem_append_right g hi))
  have hr0 := (sum_take_bd _ hqor).1
  obtain ⟨f1, f2, f3⟩ := hf left (qtyT l g) h.left0 hqok
  have hfu := hu left (qtyT l g) h.left0 hqok
  have hpr := parts_rule (rule := rule) (left := left) (p := sideP l side (priceOf l x.toNat)) (q := qtyOf l) (n := l.length) hr hl (qty_all hok) (by rw [← hqg]; exact hqok)
  have hWs : (sideW l side (priceOf l x.toNat)).sum = (qtyT l g).sum := by unfold sideW; rw [pad_sum, hqg]
  rw [← hqg] at hpr
  obtain ⟨v, hv⟩ : ∃ v, v = ruleF rule left (qtyT l g) := ⟨_, rfl⟩
  rw [← hv] at f1 f2 f3 hfu hpr
  have hgl : (qtyT l g).length = g.length := by simp [qtyT]
  have hinl : ∀ n ∈ g, 0 ≤ n ∧ n < F.length := fun n hn => by
    have := hin n (List.mem_append_left r hn)
    rw [h.len]
    exact ⟨this.1, this.2.1⟩
  obtain ⟨p1, p2⟩ := putT_spec g v F hnd1 (by omega) hinl
  have hlen := putT_len (g.zip v) F
  obtain ⟨P, hP⟩ : ∃ P, P = partsT rule left (sideW l side (priceOf l x.toNat)) := ⟨_, rfl⟩
  have hPe : partsT rule left (padW (sideP l side (priceOf l x.toNat)) (qtyOf l) l.length) = P := by rw [hP]; rfl
  rw [hPe] at hpr
  rw [← hP]
  obtain ⟨pz, pk⟩ := hpr
  have hmg : ∀ i : Nat, i < l.length → (sideP l side (priceOf l x.toNat) i = true ↔ (i : Int) ∈ g) := fun i hi => by
    rw [hgk, List.mem_map]
    constructor
    · intro hp
      exact ⟨i, pick_mem.2 ⟨hi, hp⟩, rfl⟩
    · rintro ⟨j, hj, he⟩
      simp only [Int.ofNat_eq_natCast] at he
      have : j = i := by omega
      subst this
      exact (pick_mem.1 hj).2
  have hgk2 : ∀ k, k < g.length → k < (pickN (sideP l side (priceOf l x.toNat)) l.length).length ∧ g[k]? = some (((pickN (sideP l side (priceOf l x.toNat)) l.length)[k]! : Nat) : Int) := fun k hk => by
    have hk2 : k < (pickN (sideP l side (priceOf l x.toNat)) l.length).length := by rw [hgk, List.length_map] at hk; exact hk
    refine ⟨hk2, ?_⟩
    rw [hgk, List.getElem?_map, List.getElem?_eq_getElem hk2, getElem!_pos _ k hk2]
    rfl
  -- the served members of the group
  have hserv : ∀ k, k < g.length → ∃ i : Nat, g[k]? = some (i : Int) ∧ i < l.length ∧ (addT F P)[i]! = v[k]! ∧ (putT F (g.zip v))[i]! = v[k]! := fun k hk => by
    obtain ⟨hk2, hgk3⟩ := hgk2 k hk
    obtain ⟨b1, b2⟩ := pick_get hk2
    have hz := hzz _ (List.mem_append_left r (List.mem_of_getElem? hgk3))
    rw [Int.toNat_natCast] at hz
    refine ⟨_, hgk3, b1, ?_, ?_⟩
    · rw [addT_at (by rw [h.len]; exact b1), hz, pk k hk2]
      omega
    · have := p2 k _ v[k]! hgk3 (by rw [getElem!_pos v k (by omega)]; exact List.getElem?_eq_getElem _)
      rwa [Int.toNat_natCast] at this
  have hother : ∀ i : Nat, i < l.length → (i : Int) ∉ g → (addT F P)[i]! = F[i]! := fun i hi hn => by
    rw [addT_at (by rw [h.len]; exact hi), pz i hi (by
      cases hc : sideP l side (priceOf l x.toNat) i with
      | false => rfl
      | true => exact absurd ((hmg i hi).1 hc) hn)]
    omega
  have hput : addT F P = putT F (g.zip v) := by
    apply List.ext_getElem?
    intro i
    by_cases hi : i < l.length
    · have e : (addT F P)[i]! = (putT F (g.zip v))[i]! := by
        by_cases hm : (i : Int) ∈ g
        · obtain ⟨k, hk, hke⟩ := List.getElem_of_mem hm
          obtain ⟨j, hj, _, h1, h2⟩ := hserv k hk
          rw [List.getElem?_eq_getElem hk, hke] at hj
          have : i = j := by have := Option.some.inj hj; omega
          subst this
          rw [h1, h2]
        · rw [hother i hi hm, p1 i hm]
      have l1 : i < (addT F P).length := by rw [addT_len, h.len]; exact hi
      have l2 : i < (putT F (g.zip v)).length := by rw [hlen, h.len]; exact hi
      rw [getElem!_pos _ i l1, getElem!_pos _ i l2] at e
      rw [List.getElem?_eq_getElem l1, List.getElem?_eq_getElem l2, e]
    · rw [List.getElem?_eq_none (by rw [addT_len, h.len]; omega), List.getElem?_eq_none (by rw [hlen, h.len]; omega)]
  have hvs : left - min left (sideW l side (priceOf l x.toNat)).sum = left - v.sum := by rw [hWs, f2]
  have hnotg : ∀ i ∈ r, (i.toNat : Int) ∉ g := fun i hi hm => by
    have := hin i (List.mem_append_right g hi)
    rw [show ((i.toNat : Nat) : Int) = i by omega] at hm
    exact hnd3 i hm i hi rfl
  have hmem : ∀ k, k < g.length → ∃ y, v[k]? = some y ∧ v[k]! = y ∧ 0 ≤ y ∧ y ≤ qtyOf l (g[k]!).toNat := fun k hk => by
    obtain ⟨y, b1, b2, b3⟩ := hfu k (qtyOf l (g[k]!).toNat) (by
      rw [qtyT_eq, List.getElem?_map, List.getElem?_eq_getElem hk, getElem!_pos g k hk]; rfl)
    exact ⟨y, b1, by rw [List.getElem!_eq_getElem?_getD, b1]; rfl, b2, b3⟩
  refine ⟨fun i hi => hin i (List.mem_append_right g hi), hs2, hnd2, ?_, ?_, ?_, ?_, ?_, ?_, ?_, ?_⟩
  · intro i hi hpt hn j hj
    by_cases hq : (i : Int) ∈ Q
    · have hig : (i : Int) ∈ g := by
        rw [hQs] at hq
        rcases List.mem_append.1 hq with hq | hq
        · exact hq
        · exact absurd hq hn
      have h1 := hs3 _ hig j hj
      rw [Int.toNat_natCast] at h1
      have hne := hap j hj
      have hpi := hgp _ hig
      rw [Int.toNat_natCast] at hpi
      rcases h1 with h1 | h1
      · exact h1
      · have := key_price.1 h1.1
        omega
    · exact h.closed i hi hpt hq j (by rw [hQs]; exact List.mem_append_right g hj)
  · intro i hi
    have hii := hin i (List.mem_append_right g hi)
    rw [hother i.toNat (by omega) (hnotg i hi)]
    exact hzz i (List.mem_append_right g hi)
  · intro hl2 i hi hpt hn
    by_cases hq : (i : Int) ∈ Q
    · have hig : (i : Int) ∈ g := by
        rw [hQs] at hq
        rcases List.mem_append.1 hq with hq | hq
        · exact hq
        · exact absurd hq hn
      obtain ⟨k, hk, hke⟩ := List.getElem_of_mem hig
      obtain ⟨j, hj, _, h1, _⟩ := hserv k hk
      rw [List.getElem?_eq_getElem hk, hke] at hj
      have hij : i = j := by have := Option.some.inj hj; omega
      subst hij
      rw [h1]
      have hfull : v = qtyT l g := by rw [hv]; exact share_full hf hu h.left0 hqok (by omega)
      rw [hfull, getElem!_pos _ k (by omega), List.getElem_of_eq (qtyT_eq l g) (by omega), List.getElem_map, hke, Int.toNat_natCast]
      have := qty_nn hok hi
      omega
    · rw [hother i hi (fun hg => hq (by rw [hQs]; exact List.mem_append_left r hg))]
      exact h.pos hl i hi hpt hq
  · obtain ⟨m, hm1, hm2⟩ := h.fin
    cases m with
    | zero => omega
    | succ m =>
      rw [serveT, if_pos hl, ← hg, ← hv] at hm2
      refine ⟨m, by omega, ?_⟩
      rw [hvs, hput, hrr, ← hg]
      exact hm2
  · rw [hvs, f2]; omega
  · rw [hvs, f2]; omega
  · rw [addT_len, h.len]
  · intro i hi
    by_cases hig : (i : Int) ∈ g
    · obtain ⟨k, hk, hke⟩ := List.getElem_of_mem hig
      obtain ⟨j, hj, _, h1, _⟩ := hserv k hk
      rw [List.getElem?_eq_getElem hk, hke] at hj
      have hij : i = j := by have := Option.some.inj hj; omega
      subst hij
      obtain ⟨y, _, hy, hy0, hy1⟩ := hmem k hk
      rw [h1, hy]
      rw [getElem!_pos g k hk, hke, Int.toNat_natCast] at hy1
      have := qty_of hok hi
      omega
    · rw [hother i hi hig]
      exact h.bd i hi

theorem rserve_end {l : List Bd} {px side : Int} {f : Int → List Int → List Int} {FIN : List Int} {left : Int} {Q F : List Int} (h : RServe l px side f FIN left Q F) (hl : ¬ 0 < left) : F = FIN := by
  obtain ⟨m, _, hs⟩ := h.fin
  cases m with
  | zero => rw [serveT] at hs; exact hs
  | succ m => rw [serveT, if_neg hl] at hs; exact hs

theorem rserve_start {l : List Bd} {px side V : Int} {f : Int → List Int → List Int} {R F : List Int} (hR : RankOf l px side R) (h0 : 0 ≤ V) (h1 : V ≤ (qtyT l R).sum) (hl : F.length = l.length) (hz : ∀ i ∈ R, F[i.toNat]! = 0) (hb : ∀ i, i < l.length → 0 ≤ F[i]! ∧ F[i]! ≤ 1000000000) :
    RServe l px side f (serveT f l R.length V R F) V R F := by
  have hin := rank_in hR
  refine ⟨fun i hi => ⟨(hin i hi).1, (hin i hi).2, ?_⟩, hR.2, hR.1.nodup_iff.2 (part_nodup _ _ _ _), ?_, hz, ?_, ⟨R.length, Nat.le_refl _, rfl⟩, h0, h1, hl, hb⟩
  · have := hin i hi
    have hm := (rank_mem hR (i := i.toNat)).1 (by rw [show ((i.toNat : Nat) : Int) = i by omega]; exact hi)
    exact hm.2
  · intro i hi hp hn
    exact absurd ((rank_mem hR).2 ⟨hi, hp⟩) hn
  · intro _ i hi hp hn
    exact absurd ((rank_mem hR).2 ⟨hi, hp⟩) hn

end Go.Proofs.Ytigpghmbeldakaa

namespace Go.Proofs.Ytigpghmbeldakaa
open Go.RowKit

set_option maxRecDepth 100000 in
set_option maxHeartbeats 2000000 in
theorem inTurn_any (tt : Int) (p : Option Addr) (cap : Nat) (l : List Int) (w : World) (hN : l.length ≤ 5000) (hL : At1 .i64 w p l) (hq : qOk l) (ht : 0 ≤ tt) (ht2 : tt ≤ 5000000000000) :
    Calls Try.prog 53 #[.int .i64 tt, .slice p l.length cap] w (RowGot 2 (turnT tt l) w) := by
  obtain ⟨j0, hj, hj0, hj1, hj2⟩ := info_parts info2
  have HJ := Lib.hid hj
  have HJ0 := Lib.hid hj0
  have HJ1 := Lib.hid hj1
  have HJ2 := Lib.hid hj2
  obtain ⟨N, hNl⟩ : ∃ N, N = l.length := ⟨_, rfl⟩
  have HL := Lib.hid hL
  have HQ := Lib.hid hq
  rw [← hNl] at hN ⊢
  have HN := Lib.hid hNl
  clear hL hq hNl hj hj0 hj1 hj2
  go_enter Try.func53, Try.ntmps53
  go_wp2_with (refine wpList_make_full _ rfl _ _ 36 rfl w.heap.size 2 j0 (.int .i64 0) 1 Try.underlying36 HJ.out HJ0.out HJ1.out .i64 .i64 (N : Int) (N : Int) N rfl rfl rfl rfl (by rw [HJ2.out]; omega) (by unfold maxLen; omega) (Nat.le_refl _) ?_; intro w1 ho hg; have HR := Lib.hid (made_rowI ho); have HA : Hid (Adds w w1) := Lib.hid ⟨hg.os, hg.tape, hg.output, hg.size, fun k hk => hg.block k hk (by simp)⟩; clear ho hg)
  go_loopw [0, 6] (fun vt i wr => ∃ k : Nat, k ≤ N ∧ i = .int .i64 k ∧ vt = .int .i64 (leftT tt l k) ∧ Hid (RowI 2 .i64 wr w.heap.size N (Filled ((turnT tt l).take k) N)) ∧ Hid (Adds w wr)) (fun _ i _ => N - (intOf i).toNat)
  case atStart => exact ⟨0, by omega, rfl, by simp [leftT], Lib.hid (by simpa [Filled] using HR.out), HA⟩
  case round =>
    obtain ⟨k, hk, rfl, rfl, hrow, hb⟩ := hrel
    have hkl : ((turnT tt l).take k).length = k := by rw [List.length_take, turnT_len]; have := HN.out; omega
    by_cases hlt : k < N
    · obtain ⟨x, hx⟩ : ∃ t, l[k]? = some t := ⟨_, List.getElem?_eq_getElem (by have := HN.out; omega)⟩
      obtain ⟨g, off, rfl, d0⟩ := HL.out k _ hx
      have c0 := keep_cell hb.out d0
      have hxb := HQ.out x (List.mem_of_getElem? hx)
      have hlb := left_bd ht HQ.out k
      have HTN := Lib.hid (turn_next (t := tt) hx)
      have HLN := Lib.hid (take_turn (t := tt) hx)
      have o0 := hrow.out.cell (j := k) (x := 0) (Filled.at hkl hlt)
      have o1 := hrow.out.free k
      have HR2 : Hid (∀ u, RowI 2 .i64 (wr.setCell ⟨w.heap.size, k, none⟩ (.int .i64 u)) w.heap.size N ((Filled ((turnT tt l).take k) N).set k u)) := Lib.hid (fun u => hrow.out.put k u)
      generalize hlft : leftT tt l k = lf at *
      obtain ⟨hx1, hx2⟩ := hxb
      obtain ⟨hl1, hl2⟩ := hlb
      have hkl' := Lib.hid hkl
      have HMC : Hid (min lf x = min x lf) := Lib.hid (by omega)
      have hmm : min lf x = min x lf := by omega
      obtain ⟨mn, hmn⟩ : ∃ m, min x lf = m := ⟨_, rfl⟩
      rw [hmn] at HTN HLN hmm
      have hmn0 : 0 ≤ lf - mn := by omega
      have hmn1 : 0 ≤ mn := by omega
      have hmn2 : mn ≤ 1000000000 := by omega
      clear hx d0 hlft hkl hmn HMC
      go_wp2
      go_roundw
      case rel =>
        refine ⟨k + 1, by omega, by go_num, by rw [HLN.out], Lib.hid ?_, Lib.hid (hb.out.set (Nat.le_refl _) _)⟩
        rw [take_next HTN.out, ← Filled.next hkl'.out hlt]
        exact HR2.out _
      case measure => simp [intOf]; omega
    · have hkN : k = N := by omega
      have hfull : Filled ((turnT tt l).take k) N = turnT tt l := by
        rw [List.take_of_length_le (by rw [turnT_len]; have := HN.out; omega)]
        exact Filled.full (by rw [turnT_len]; exact HN.out.symm)
      rw [hfull] at hrow
      clear hkN hfull hkl
      go_wp2
      go_ret
      exact ⟨w.heap.size, N, by rw [turnT_len, ← HN.out]; rfl, Nat.le_refl _, hrow.out, hb.out⟩

/-- A zero put in leaves a row as it is. -/
theorem filled_zero {d : List Int} {n k : Nat} (hk : d.length = k) (h : k < n) : Filled (d ++ [0]) n = Filled d n := by
  rw [← Filled.next hk h]
  apply List.ext_getElem?
  intro i
  rw [List.getElem?_set]
  have hl : (Filled d n).length = n := Filled.len (by omega)
  split
  · rename_i he
    subst he
    rw [if_pos (by rw [hl]; exact h), Filled.at hk h]
  · rfl

/-- What the scan for the best price has found. -/
def ScanQ (l : List Bd) (side : Int) (Q : List Int) (k : Nat) (b : Int) : Prop :=
  (b = 0 ∧ ∀ j : Nat, j < k → (j : Int) ∉ Q) ∨ ∃ u : Nat, u < k ∧ (u : Int) ∈ Q ∧ b = priceOf l u ∧ ∀ j : Nat, j < k → (j : Int) ∈ Q → keyT l side u ≤ keyT l side j

theorem ScanQ.skip {l : List Bd} {side : Int} {Q : List Int} {k : Nat} {b : Int} (h : ScanQ l side Q k b) (hk : (k : Int) ∉ Q) : ScanQ l side Q (k + 1) b := by
  rcases h with ⟨h1, h2⟩ | ⟨u, h1, h2, h3, h4⟩
  · refine Or.inl ⟨h1, fun j hj => ?_⟩
    rcases Nat.lt_or_ge j k with h | h
    · exact h2 j h
    · have : j = k := by omega
      subst this
      exact hk
  · refine Or.inr ⟨u, by omega, h2, h3, fun j hj hm => ?_⟩
    rcases Nat.lt_or_ge j k with h | h
    · exact h4 j h hm
    · have : j = k := by omega
      subst this
      exact absurd hm hk
theorem ScanQ.take {l : List Bd} {side : Int} {Q : List Int} {k : Nat} {b : Int} (h : ScanQ l side Q k b) (hk : (k : Int) ∈ Q) (hb : ∀ u : Nat, b = priceOf l u → (u : Int) ∈ Q → keyT l side k ≤ keyT l side u) : ScanQ l side Q (k + 1) (priceOf l k) := by
  refine Or.inr ⟨k, by omega, hk, rfl, fun j hj hm => ?_⟩
  rcases Nat.lt_or_ge j k with hl | hl
  · rcases h with ⟨_, h2⟩ | ⟨u, h1, h2, h3, h4⟩
    · exact absurd hm (h2 j hl)
    · have := hb u h3 h2
      have := h4 j hl hm
      omega
  · have : j = k := by omega
    subst this
    omega
theorem ScanQ.keep {l : List Bd} {side : Int} {Q : List Int} {k : Nat} {b : Int} (h : ScanQ l side Q k b) (hb0 : b ≠ 0) (hb : ∀ u : Nat, b = priceOf l u → (u : Int) ∈ Q → keyT l side u ≤ keyT l side k) : ScanQ l side Q (k + 1) b := by
  rcases h with ⟨h1, _⟩ | ⟨u, h1, h2, h3, h4⟩
  · exact absurd h1 hb0
  · refine Or.inr ⟨u, by omega, h2, h3, fun j hj hm => ?_⟩
    rcases Nat.lt_or_ge j k with hl | hl
    · exact h4 j hl hm
    · have : j = k := by omega
      subst this
      exact hb u h3 h2

/-- The best price is that of the queue's first one. -/
theorem scan_best {l : List Bd} {px side : Int} {f : Int → List Int → List Int} {FIN : List Int} {left x b : Int} {Q Q' F : List Int} (h : RServe l px side f FIN left Q F) (hQ : Q = x :: Q') (hs : ScanQ l side Q l.length b) : b = priceOf l x.toNat := by
  have hx := h.ins x (by rw [hQ]; simp)
  have hxe : ((x.toNat : Nat) : Int) = x := by omega
  rcases hs with ⟨_, h2⟩ | ⟨u, h1, h2, h3, h4⟩
  · exact absurd (by rw [hxe, hQ]; simp) (h2 x.toNat (by omega))
  · rw [h3]
    have h5 := h4 x.toNat (by omega) (by rw [hxe, hQ]; simp)
    have h6 : keyT l side x.toNat ≤ keyT l side u := by
      have hso := h.sorted
      rw [hQ] at h2 hso
      rcases List.mem_cons.1 h2 with he | he
      · rw [← he, Int.toNat_natCast]; omega
      · have := (List.pairwise_cons.1 hso).1 u he
        rw [Int.toNat_natCast] at this
        omega
    exact key_price.1 (show keyT l side u = keyT l side x.toNat by omega)

theorem rserve_queue {l : List Bd} {px side : Int} {f : Int → List Int → List Int} {FIN : List Int} {left : Int} {Q F : List Int} (h : RServe l px side f FIN left Q F) (hl : 0 < left) : ∃ x Q', Q = x :: Q' := by
  cases hQ : Q with
  | nil => have := h.left1; rw [hQ] at this; simp [qtyT] at this; omega
  | cons x Q' => exact ⟨x, Q', rfl⟩

/-- Who is in the queue. -/
theorem rserve_mem {l : List Bd} {px side : Int} {f : Int → List Int → List Int} {FIN : List Int} {left : Int} {Q F : List Int} (h : RServe l px side f FIN left Q F) (hl : 0 < left) {i : Nat} (hi : i < l.length) : (i : Int) ∈ Q ↔ partB l px side i = true ∧ F[i]! = 0 := by
  constructor
  · intro hm
    have h1 := h.ins i hm
    have h2 := h.zero i hm
    rw [Int.toNat_natCast] at h1 h2
    exact ⟨h1.2.2, h2⟩
  · rintro ⟨h1, h2⟩
    refine Classical.byContradiction fun hn => ?_
    have := h.pos hl i hi h1 hn
    omega

theorem sideW_len (l : List Bd) (side best : Int) : (sideW l side best).length = l.length := padW_len _ _ _
theorem sideW_at {l : List Bd} {side best : Int} {i : Nat} (h : i < l.length) : (sideW l side best)[i]? = some (if (l[i]!).1 = side ∧ priceOf l i = best then qtyOf l i else 0) := by
  have := padW_at (p := sideP l side best) (q := qtyOf l) h
  have hl : i < (padW (sideP l side best) (qtyOf l) l.length).length := by rw [padW_len]; exact h
  unfold sideW
  rw [List.getElem?_eq_getElem hl, ← getElem!_pos _ i hl, this]
  congr 1
  unfold sideP
  by_cases hc : (l[i]!).1 = side ∧ priceOf l i = best
  · rw [if_pos (decide_eq_true hc), if_pos hc]
  · rw [if_neg (by simpa using hc), if_neg hc]
theorem sideW_ok {l : List Bd} (hok : ∀ b ∈ l, okB b = true) (side best : Int) : qOk (sideW l side best) := by
  intro x hx
  obtain ⟨i, hi, rfl⟩ := List.getElem_of_mem hx
  rw [sideW_len] at hi
  have := sideW_at (side := side) (best := best) hi
  rw [List.getElem?_eq_getElem (by rw [sideW_len]; exact hi)] at this
  rw [Option.some.inj this]
  have h1 := qty_nn hok hi
  have h2 := qty_of hok hi
  split <;> omega
theorem sideW_pos {l : List Bd} {px side : Int} {f : Int → List Int → List Int} {FIN : List Int} {left x : Int} {Q Q' F : List Int} (hok : ∀ b ∈ l, okB b = true) (h : RServe l px side f FIN left Q F) (hQ : Q = x :: Q') : 0 < (sideW l side (priceOf l x.toNat)).sum := by
  have hx := h.ins x (by rw [hQ]; simp)
  have hp := hx.2.2
  unfold partB at hp
  rw [Bool.and_eq_true, decide_eq_true_eq] at hp
  have ha := sideW_at (side := side) (best := priceOf l x.toNat) (show x.toNat < l.length by omega)
  rw [if_pos ⟨hp.1, rfl⟩] at ha
  have h1 := qty_nn hok (show x.toNat < l.length by omega)
  have h2 := le_sum (fun y hy => ((sideW_ok hok side (priceOf l x.toNat)) y hy).1) _ (List.mem_of_getElem? ha)
  omega

/-- A row of which the first k have been added to. -/
def addK (F P : List Int) (k : Nat) : List Int := (addT F P).take k ++ F.drop k
theorem addK_len {F P : List Int} {k : Nat} (hk : k ≤ F.length) : (addK F P k).length = F.length := by
  unfold addK
  rw [List.length_append, List.length_take, List.length_drop, addT_len]
  omega
theorem addK_zero (F P : List Int) : addK F P 0 = F := by simp [addK]
theorem addK_full {F P : List Int} : addK F P F.length = addT F P := by
  unfold addK
  rw [List.take_of_length_le (by rw [addT_len]; exact Nat.le_refl _), List.drop_of_length_le (Nat.le_refl _), List.append_nil]
theorem addK_get {F P : List Int} {k : Nat} (hk : k < F.length) : (addK F P k)[k]? = some F[k]! := by
  unfold addK
  rw [List.getElem?_append_right (by rw [List.length_take, addT_len]; omega), List.length_take, addT_len, Nat.min_eq_left (by omega), Nat.sub_self, List.getElem?_drop, Nat.add_zero, List.getElem?_eq_getElem hk, getElem!_pos F k hk]
theorem addK_next {F P : List Int} {k : Nat} (hk : k < F.length) : (addK F P k).set k (F[k]! + P[k]!) = addK F P (k + 1) := by
  have ha : (addT F P)[k]? = some (F[k]! + P[k]!) := by
    have h := addT_at (P := P) hk
    have hl : k < (addT F P).length := by rw [addT_len]; exact hk
    rw [List.getElem?_eq_getElem hl, ← getElem!_pos _ k hl, h]
  unfold addK
  have hl : ((addT F P).take k).length = k := by rw [List.length_take, addT_len]; omega
  rw [take_next ha, List.append_assoc, List.set_append_right _ _ (by omega), hl, Nat.sub_self, List.drop_eq_getElem_cons hk]
  rfl

end Go.Proofs.Ytigpghmbeldakaa

namespace Go.Proofs.Ytigpghmbeldakaa
open Go.RowKit

theorem rank_ex (l : List Bd) (x side : Int) : ∃ R, RankOf l x side R := by
  obtain ⟨R, h1, h2⟩ := order_ex (keyT l side) l.length
  refine ⟨R.filter fun i => partB l x side i.toNat, ?_, List.Pairwise.filter _ h2⟩
  have e : partT l x side l.length = (numsT l.length).filter fun i => partB l x side i.toNat := by
    unfold partT numsT
    rw [List.filter_map]
    congr 1
  rw [e]
  exact h1.filter _

theorem rank_one {l : List Bd} {x side : Int} {R R' : List Int} (h : RankOf l x side R) (k : RankOf l x side R') : R = R' :=
  List.Perm.eq_of_pairwise (fun a b _ _ h1 h2 => by omega) h.2 k.2 (h.1.trans k.1.symm)

theorem fill_one {f : Int → List Int → List Int} {l : List Bd} {x V : Int} {F F' : List Int} (h : FillAt f l x V 2 F) (k : FillAt f l x V 2 F') : F = F' := by
  unfold FillAt at h k
  obtain ⟨R, R', h1, h2, rfl⟩ := h
  obtain ⟨S, S', k1, k2, rfl⟩ := k
  have e1 := rank_one h1 k1
  have e2 := rank_one h2 k2
  subst e1
  subst e2
  rfl

/-- The fills ahead of a side. -/
structure SideS (l : List Bd) (px V rule : Int) (k : Nat) (F : List Int) : Prop where
  fill : FillAt (ruleF rule) l px V k F
  bd : ∀ i, i < l.length → 0 ≤ F[i]! ∧ F[i]! ≤ 1000000000
  zero : ∀ i, i < l.length → (k : Int) < (l[i]!).1 → F[i]! = 0

theorem rep0 (n i : Nat) : (List.replicate n (0 : Int))[i]! = 0 := by
  rw [List.getElem!_eq_getElem?_getD, List.getElem?_replicate]
  split <;> rfl

theorem SideS.start (l : List Bd) (px V rule : Int) : SideS l px V rule 0 (List.replicate l.length 0) :=
  ⟨rfl, fun i _ => by rw [rep0]; omega, fun i _ _ => rep0 _ _⟩

theorem SideS.serve {l : List Bd} {px V rule : Int} {k : Nat} {F : List Int} (hok : ∀ b ∈ l, okB b = true) (h : SideS l px V rule k F) (hk : k < 2) (h0 : 0 ≤ V) (h1 : V ≤ dem l px) (h2 : V ≤ sup l px) :
    ∃ FIN Q, RServe l px ((k : Int) + 1) (ruleF rule) FIN V Q F ∧ SideS l px V rule (k + 1) FIN := by
  obtain ⟨R, hR⟩ := rank_ex l px ((k : Int) + 1)
  have hsd : (k : Int) + 1 = 1 ∨ (k : Int) + 1 = 2 := by omega
  have hsum : V ≤ (qtyT l R).sum := by
    rw [rank_sum hR hsd]
    split <;> assumption
  have hin := rank_in hR
  have hside : ∀ i ∈ R, (l[i.toNat]!).1 = (k : Int) + 1 := fun i hi => by
    have := hin i hi
    have hm := (rank_mem hR (i := i.toNat)).1 (by rw [show ((i.toNat : Nat) : Int) = i by omega]; exact hi)
    have h3 := hm.2
    unfold partB at h3
    rw [Bool.and_eq_true, decide_eq_true_eq] at h3
    exact h3.1
  have hz : ∀ i ∈ R, F[i.toNat]! = 0 := fun i hi => h.zero i.toNat (by have := hin i hi; omega) (by rw [hside i hi]; omega)
  have hlen := h.fill.len
  have hs := rserve_start (f := ruleF rule) hR h0 hsum hlen hz h.bd
  have sp := serve_spec (ruleF rule) (ruleF_share rule) (ruleF_upto rule) l hok R.length V R F (Nat.le_refl _) h0 hsum (hR.1.nodup_iff.2 (part_nodup _ _ _ _)) hin hlen hz
  refine ⟨_, R, hs, ?_, ?_, ?_⟩
  · have hf := h.fill
    match k, hk with
    | 0, _ =>
      unfold FillAt at hf
      show FillAt (ruleF rule) l px V 1 _
      unfold FillAt
      exact ⟨R, hR, by rw [hf]⟩
    | 1, _ =>
      unfold FillAt at hf
      obtain ⟨R1, hR1, rfl⟩ := hf
      show FillAt (ruleF rule) l px V 2 _
      unfold FillAt
      exact ⟨R1, R, hR1, hR, rfl⟩
  · intro i hi
    by_cases hm : (i : Int) ∈ R
    · have := sp.bd _ hm
      rw [Int.toNat_natCast] at this
      have := qty_of hok hi
      omega
    · rw [sp.out i hm]
      exact h.bd i hi
  · intro i hi hlt
    have hm : (i : Int) ∉ R := fun hm => by
      have := hside _ hm
      rw [Int.toNat_natCast] at this
      omega
    rw [sp.out i hm]
    exact h.zero i hi (by omega)

theorem vol_bd {l : List Bd} (hok : ∀ b ∈ l, okB b = true) (hn : l.length ≤ 5000) (x : Int) : 0 ≤ volAt l x ∧ volAt l x ≤ dem l x ∧ volAt l x ≤ sup l x ∧ volAt l x ≤ 5000000000000 := by
  have h1 := dem_bd x l hok
  have h2 := sup_bd x l hok
  unfold volAt
  omega

end Go.Proofs.Ytigpghmbeldakaa
