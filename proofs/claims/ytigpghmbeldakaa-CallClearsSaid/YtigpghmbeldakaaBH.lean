/- The shares of byShare: their sum, their bounds; share by either rule. -/
import Derived.Test.YtigpghmbeldakaaBG
import Derived.Test.YtigpghmbeldakaaW
namespace Go.Proofs.Ytigpghmbeldakaa
open Go.RowKit

theorem sum_set_succ : ∀ (l : List Int) (i : Nat) (v : Int), l[i]? = some v → (l.set i (v + 1)).sum = l.sum + 1
  | [], i, v, h => by simp at h
  | x :: l, 0, v, h => by
    simp only [List.getElem?_cons_zero, Option.some.injEq] at h
    subst h
    simp only [List.set_cons_zero, List.sum_cons]
    omega
  | x :: l, i + 1, v, h => by
    have := sum_set_succ l i v (by simpa using h)
    simp only [List.set_cons_succ, List.sum_cons, this]
    omega

theorem bumpT_sum {Q R : List Int} (hR : R.Perm (numsT Q.length)) : ∀ z, z ≤ R.length → (bumpT Q R z).sum = Q.sum + z
  | 0, _ => by rw [bumpT_zero]; simp
  | z + 1, h => by
    have hnd : R.Nodup := hR.nodup_iff.2 ((numsT_asc Q.length).imp (fun {a b} h => by omega))
    obtain ⟨y, hy⟩ : ∃ y, R[z]? = some y := ⟨_, List.getElem?_eq_getElem (by omega)⟩
    have hb := numsT_mem.1 (hR.mem_iff.1 (List.mem_of_getElem? hy))
    obtain ⟨i, rfl⟩ : ∃ i : Nat, y = (i : Int) := ⟨y.toNat, by omega⟩
    obtain ⟨b1, b2⟩ := bumpT_next hnd hy (show i < Q.length by omega)
    rw [← b2, sum_set_succ _ _ _ b1, bumpT_sum hR z (by omega)]
    omega

theorem nums_map_get (ws : List Int) (f : Int → Int) : (numsT ws.length).map (fun n => f ws[n.toNat]!) = ws.map f := by
  apply List.ext_getElem?
  intro i
  unfold numsT
  rw [List.map_map, List.getElem?_map, List.getElem?_map]
  by_cases h : i < ws.length
  · rw [List.getElem?_range h, List.getElem?_eq_getElem h]
    simp [getElem!_pos, h]
  · rw [List.getElem?_eq_none (by simpa using h), List.getElem?_eq_none (by omega)]
    rfl

/-- Whoever gets one more has a remainder. -/
theorem rest_pos {t : Int} {ws R : List Int} {z i : Nat} (hS : 0 < ws.sum) (hR : R.Perm (numsT ws.length)) (hs : R.Pairwise (lexLt (shareKey t ws))) (hz : (z : Int) = shareLeft t ws) (hi : (i : Int) ∈ R.take z) : 0 < t * ws[i]! % ws.sum := by
  have hnn := Int.emod_nonneg (t * ws[i]!) (show ws.sum ≠ 0 by omega)
  refine Classical.byContradiction fun hc => ?_
  have h0 : t * ws[i]! % ws.sum = 0 := by omega
  have hzR : z ≤ R.length := by
    have := (left_bd2 (t := t) hS).2
    rw [hR.length_eq, numsT_len]
    omega
  obtain ⟨p, hp, hpe⟩ := List.getElem_of_mem hi
  rw [List.length_take] at hp
  rw [List.getElem_take] at hpe
  have hsum : (R.map fun n => t * ws[n.toNat]! % ws.sum).sum = ws.sum * z := by
    rw [perm_sum' (hR.map _), nums_map_get ws (fun x => t * x % ws.sum), ← left_eq, hz]
  have hsplit : (R.map fun n => t * ws[n.toNat]! % ws.sum).sum = ((R.take p).map fun n => t * ws[n.toNat]! % ws.sum).sum + ((R.drop p).map fun n => t * ws[n.toNat]! % ws.sum).sum := by
    rw [← List.sum_append, ← List.map_append, List.take_append_drop]
  have hdrop : ((R.drop p).map fun n => t * ws[n.toNat]! % ws.sum).sum = 0 := by
    have : ∀ l : List Int, (∀ n ∈ l, t * ws[n.toNat]! % ws.sum = 0) → (l.map fun n => t * ws[n.toNat]! % ws.sum).sum = 0 := by
      intro l
      induction l with
      | nil => intro _; rfl
      | cons x l ih => intro h; simp only [List.map_cons, List.sum_cons, h x (by simp), ih (fun n hn => h n (by simp [hn]))]; rfl
    refine this _ fun n hn => ?_
    obtain ⟨q, hq, rfl⟩ := List.getElem_of_mem hn
    rw [List.length_drop] at hq
    rw [List.getElem_drop]
    rcases Nat.eq_zero_or_pos q with hq0 | hq0
    · subst hq0
      simp only [Nat.add_zero, hpe, Int.toNat_natCast]
      exact h0
    · have hl := (List.pairwise_iff_getElem.1 hs) p (p + q) (by omega) (by omega) (by omega)
      rw [hpe] at hl
      unfold lexLt shareKey at hl
      have := Int.emod_nonneg (t * ws[(R[p + q]).toNat]!) (show ws.sum ≠ 0 by omega)
      rw [Int.toNat_natCast, h0] at hl
      omega
  have htake : ((R.take p).map fun n => t * ws[n.toNat]! % ws.sum).sum ≤ (p : Int) * (ws.sum - 1) := by
    have : ∀ l : List Int, (l.map fun n => t * ws[n.toNat]! % ws.sum).sum ≤ (l.length : Int) * (ws.sum - 1) := by
      intro l
      induction l with
      | nil => simp
      | cons x l ih =>
        have := Int.emod_lt_of_pos (t * ws[x.toNat]!) hS
        simp only [List.map_cons, List.sum_cons, List.length_cons, Int.natCast_add, Int.natCast_one, Int.add_mul, Int.one_mul]
        omega
    have h2 := this (R.take p)
    rw [List.length_take, Nat.min_eq_left (by omega)] at h2
    exact h2
  have hpz : (p : Int) + 1 ≤ z := by omega
  have h3 : (p : Int) * (ws.sum - 1) = p * ws.sum - p := by rw [Int.mul_sub, Int.mul_one]
  have h4 : ((p : Int) + 1) * ws.sum ≤ z * ws.sum := Int.mul_le_mul_of_nonneg_right hpz (by omega)
  rw [Int.add_mul, Int.one_mul] at h4
  rw [Int.mul_comm ws.sum] at hsum
  omega

theorem shareT_sum {t : Int} {ws : List Int} (hS : 0 < ws.sum) : (shareT t ws).sum = t := by
  obtain ⟨R, hR, hs⟩ := order_ex (shareKey t ws) ws.length
  obtain ⟨b1, b2⟩ := left_bd2 (t := t) hS
  obtain ⟨z, hz⟩ : ∃ z : Nat, (z : Int) = shareLeft t ws := ⟨(shareLeft t ws).toNat, by omega⟩
  rw [← bumpT_share hR hs hz, bumpT_sum (by rw [List.length_map]; exact hR) z (by rw [hR.length_eq, numsT_len]; omega), hz]
  unfold shareLeft
  omega

theorem shareT_bd {t x : Int} {ws : List Int} {i : Nat} (hS : 0 < ws.sum) (ht : 0 ≤ t) (htS : t ≤ ws.sum) (hx : ws[i]? = some x) (hx0 : 0 ≤ x) : ∃ y, (shareT t ws)[i]? = some y ∧ 0 ≤ y ∧ y ≤ x := by
  refine ⟨_, shareT_at hx, ?_, ?_⟩
  · have : 0 ≤ t * x / ws.sum := Int.ediv_nonneg (Int.mul_nonneg ht hx0) (by omega)
    split <;> omega
  · have hle : t * x ≤ ws.sum * x := Int.mul_le_mul_of_nonneg_right htS hx0
    have hdm := Int.mul_ediv_add_emod (t * x) ws.sum
    have hmn := Int.emod_nonneg (t * x) (show ws.sum ≠ 0 by omega)
    split
    · rename_i hr
      obtain ⟨R, hR, hs⟩ := order_ex (shareKey t ws) ws.length
      obtain ⟨b1, b2⟩ := left_bd2 (t := t) hS
      obtain ⟨z, hz⟩ : ∃ z : Nat, (z : Int) = shareLeft t ws := ⟨(shareLeft t ws).toNat, by omega⟩
      have hin : i < ws.length := (List.getElem?_eq_some_iff.1 hx).1
      have hmem := (mem_take_iff (k := z) hR hs hin).2 (by omega)
      have hp := rest_pos hS hR hs hz hmem
      have hwi : ws[i]! = x := by rw [List.getElem!_eq_getElem?_getD, hx]; rfl
      rw [hwi] at hp
      have hlt : ws.sum * (t * x / ws.sum) < ws.sum * x := by omega
      have := Int.lt_of_mul_lt_mul_left hlt (by omega)
      omega
    · have hlt : ws.sum * (t * x / ws.sum) ≤ ws.sum * x := by omega
      have := Int.le_of_mul_le_mul_left hlt hS
      omega

/-- The shares of a total, or of all that the weights take. -/
def shareAll (t : Int) (ws : List Int) : List Int := shareT (min t ws.sum) ws

theorem shareT_zero {ws : List Int} (h : ws.sum = 0 ∨ True) (t : Int) (ht : t = 0) : shareT t ws = List.replicate ws.length 0 := by
  subst ht
  have hl : shareLeft 0 ws = 0 := by
    unfold shareLeft
    have : (ws.map fun x => 0 * x / ws.sum) = List.replicate ws.length 0 := by
      rw [List.eq_replicate_iff]
      refine ⟨by simp, fun b hb => ?_⟩
      obtain ⟨y, _, rfl⟩ := List.mem_map.1 hb
      simp
    rw [this]
    simp
  rw [List.eq_replicate_iff]
  refine ⟨shareT_len _ _, fun b hb => ?_⟩
  unfold shareT at hb
  obtain ⟨i, _, rfl⟩ := List.mem_map.1 hb
  rw [hl, if_neg (by omega)]
  simp

theorem share_share : FShare shareAll := by
  intro t ws ht hq
  have hs := sum_take_bd ws hq
  refine ⟨shareT_len _ _, ?_, ?_⟩
  · unfold shareAll
    rcases Int.lt_or_le 0 ws.sum with h | h
    · exact shareT_sum h
    · rw [shareT_zero (Or.inr trivial) _ (by omega)]
      simp
      omega
  · unfold shareAll
    rcases Int.lt_or_le 0 ws.sum with h | h
    · intro y hy
      obtain ⟨i, hi, rfl⟩ := List.getElem_of_mem hy
      rw [shareT_len] at hi
      obtain ⟨y, h1, h2, h3⟩ := shareT_bd (t := min t ws.sum) h (by omega) (by omega) (List.getElem?_eq_getElem hi) (hq _ (List.getElem_mem hi)).1
      obtain ⟨_, h4⟩ := List.getElem?_eq_some_iff.1 h1
      rw [h4]
      have := (hq _ (List.getElem_mem hi)).2
      omega
    · rw [shareT_zero (Or.inr trivial) _ (by omega)]
      intro y hy
      have := List.eq_of_mem_replicate hy
      omega

set_option maxRecDepth 100000 in
set_option maxHeartbeats 1000000 in
theorem byShare_zero (p : Option Addr) (cap : Nat) (ws : List Int) (w : World) (hN : ws.length ≤ 5000) :
    Calls Try.prog 55 #[.int .i64 0, .slice p ws.length cap] w (RowGot 2 (shareT 0 ws) w) := by
  obtain ⟨j0, hj, hj0, hj1, hj2⟩ := info_parts info2
  have HJ := Lib.hid hj
  have HJ0 := Lib.hid hj0
  have HJ1 := Lib.hid hj1
  have HJ2 := Lib.hid hj2
  rw [shareT_zero (Or.inr trivial) 0 rfl]
  obtain ⟨N, hNl⟩ : ∃ N, N = ws.length := ⟨_, rfl⟩
  rw [← hNl] at hN ⊢
  clear hj hj0 hj1 hj2 hNl
  go_enter Try.func55, Try.ntmps55
  go_wp2_with (refine wpList_make_full _ rfl _ _ 36 rfl w.heap.size 2 j0 (.int .i64 0) 1 Try.underlying36 HJ.out HJ0.out HJ1.out .i64 .i64 (N : Int) (N : Int) N rfl rfl rfl rfl (by rw [HJ2.out]; omega) (by unfold maxLen; omega) (Nat.le_refl _) ?_; intro w1 ho hg; have HO := Lib.hid (made_rowI ho); have HA : Hid (Adds w w1) := Lib.hid ⟨hg.os, hg.tape, hg.output, hg.size, fun k hk => hg.block k hk (by simp)⟩; clear ho hg)
  go_ret
  exact ⟨w.heap.size, N, by rw [List.length_replicate]; rfl, Nat.le_refl _, HO.out, HA.out⟩

set_option maxRecDepth 100000 in
set_option maxHeartbeats 1000000 in
theorem shareShare : ShareAt 40 2 shareAll := by
  intro t p cap ws w hN hL hq h0 h1
  have hs := sum_take_bd ws hq
  have hsum := fun W hW => sum_any p cap ws W (by omega) hW hq
  obtain ⟨S, hS⟩ : ∃ S, S = ws.sum := ⟨_, rfl⟩
  have hbt : ∀ W, At1 .i64 W p ws → Calls Try.prog 55 #[.int .i64 (min t S), .slice p ws.length cap] W (RowGot 2 (shareAll t ws) W) := fun W hW => by
    unfold shareAll
    rw [hS]
    rcases Int.lt_or_le 0 (min t ws.sum) with h | h
    · obtain ⟨n, hn⟩ : ∃ n : Nat, min t ws.sum = (n : Int) := ⟨(min t ws.sum).toNat, by omega⟩
      rw [hn] at h ⊢
      exact byShare_any 40 stable40 (by omega) n p cap ws W hN hW hq (by omega) (by omega)
    · rw [show min t ws.sum = 0 by omega]
      exact byShare_zero p cap ws W (by omega)
  rw [← hS] at hsum
  have HL := Lib.hid hL
  have HB := Lib.hid hbt
  have HS := Lib.hid hsum
  have hfl : (shareAll t ws).length = ws.length := (share_share t ws h0 hq).1
  obtain ⟨N, hNl⟩ : ∃ N, N = ws.length := ⟨_, rfl⟩
  rw [← hNl] at HB HS hN ⊢
  have hS0 : 0 ≤ S := by omega
  have hSS : S ≤ 5000000000000 := by omega
  clear hL hbt hsum hS hs hNl hq hfl
  go_enter Try.func90, Try.ntmps90
  go_wp2_with (first | (go_at_call 54; refine (HS.out _ HL.out).mono ?_; rintro e w1 ⟨rfl, rfl⟩) | (go_at_call 55; refine (HB.out _ HL.out).mono ?_; rintro e w2 ⟨g, cap', rfl, r1, r2, r3⟩; have R1 := Lib.hid r1; have R2 := Lib.hid r2; have R3 := Lib.hid r3; clear r1 r2 r3))
  go_ret
  exact ⟨g, cap', rfl, R1.out, R2.out, R3.out⟩

end Go.Proofs.Ytigpghmbeldakaa
