/- monthly.times: the sum of the products, walked. -/
import Derived.Test.YtmkpidipoadnbaaW03
namespace Go.Proofs.Ytmkpidipoadnbaa
open Go Go.RowKit Go.Sort

theorem InW.of_mul {x y : Int} (hx : -4611686018427387904 ≤ x ∧ x ≤ 4611686018427387904) (hy : -4611686018427387904 ≤ y ∧ y ≤ 4611686018427387904) : InW (x * y) := by
  have h1 : x * y ≤ 4611686018427387904 * 4611686018427387904 := by
    rcases Int.le_total 0 x with h | h
    · exact Int.le_trans (Int.mul_le_mul_of_nonneg_left hy.2 h) (Int.mul_le_mul_of_nonneg_right hx.2 (by omega))
    · have : x * y = (-x) * (-y) := by rw [Int.neg_mul_neg]
      rw [this]
      exact Int.le_trans (Int.mul_le_mul_of_nonneg_left (by omega : -y ≤ 4611686018427387904) (by omega)) (Int.mul_le_mul_of_nonneg_right (by omega) (by omega))
  have h2 : -(4611686018427387904 * 4611686018427387904) ≤ x * y := by
    have h3 : (-x) * y ≤ 4611686018427387904 * 4611686018427387904 := by
      rcases Int.le_total 0 (-x) with h | h
      · exact Int.le_trans (Int.mul_le_mul_of_nonneg_left hy.2 h) (Int.mul_le_mul_of_nonneg_right (by omega) (by omega))
      · have : (-x) * y = x * (-y) := by rw [Int.neg_mul, Int.mul_neg]
        rw [this]
        exact Int.le_trans (Int.mul_le_mul_of_nonneg_left (by omega : -y ≤ 4611686018427387904) (by omega)) (Int.mul_le_mul_of_nonneg_right (by omega) (by omega))
    rw [Int.neg_mul] at h3
    omega
  unfold InW
  omega

theorem abs_mul (x y : Int) : ((decide (x < 0) != decide (y < 0)) = true ∧ 0 - max x (-x) * max y (-y) = x * y) ∨ ((decide (x < 0) != decide (y < 0)) = false ∧ max x (-x) * max y (-y) = x * y) := by
  by_cases hx : x < 0 <;> by_cases hy : y < 0
  · refine Or.inr ⟨by simp [hx, hy], ?_⟩
    rw [show max x (-x) = -x by omega, show max y (-y) = -y by omega, Int.neg_mul_neg]
  · refine Or.inl ⟨by simp [hx, hy], ?_⟩
    rw [show max x (-x) = -x by omega, show max y (-y) = y by omega, Int.neg_mul]; omega
  · refine Or.inl ⟨by simp [hx, hy], ?_⟩
    rw [show max x (-x) = x by omega, show max y (-y) = -y by omega, Int.mul_neg]; omega
  · refine Or.inr ⟨by simp [hx, hy], ?_⟩
    rw [show max x (-x) = x by omega, show max y (-y) = y by omega]

set_option maxRecDepth 100000 in
set_option maxHeartbeats 1000000 in
theorem product_any (x y : Int) (w : World) (hx : -4611686018427387904 ≤ x ∧ x ≤ 4611686018427387904) (hy : -4611686018427387904 ≤ y ∧ y ≤ 4611686018427387904) :
    Calls Try.prog 67 #[.int .i64 x, .int .i64 y] w fun e w' => e = .returned (wideV (x * y)) ∧ Adds w w' := by
  have HS1 := Lib.hid (fun w => size_any x w (by omega) (by omega))
  have HS2 := Lib.hid (fun w => size_any y w (by omega) (by omega))
  have hk := abs_mul x y
  have hm : InW (max x (-x) * max y (-y)) := InW.of_mul (by omega) (by omega)
  have HT := Lib.hid (fun w => times_any (max x (-x)) (max y (-y)) w (by omega) (by omega) (by omega) (by omega) hm)
  have HN := Lib.hid (fun w => minus_any 0 (max x (-x) * max y (-y)) w (by unfold InW; omega) hm)
  generalize max x (-x) = s at *
  generalize max y (-y) = t at *
  generalize s * t = p at *
  clear hm hx hy
  unfold wideV at *
  rw [hi_zero, lo_zero] at HN
  have he : (decide (x < 0) != decide (y < 0)) = (!decide (x < 0) == decide (y < 0)) := by cases decide (x < 0) <;> cases decide (y < 0) <;> rfl
  rw [he] at hk
  clear he
  rcases hk with ⟨hz, hm⟩ | ⟨hz, hm⟩
  · have HR := Lib.hid hm
    clear hm
    have HAZ : Hid (Adds w (w.alloc (.cells #[.int .i64 0, .int .u64 0] 89))) := Lib.hid ((Adds.refl _).alloc _)
    go_enter Try.func67, Try.ntmps67
    go_wp2_with (first
      | (go_at_call 44; first | (with_reducible refine (HS1.out _).mono ?_); rintro e w1 ⟨rfl, rfl⟩ | (with_reducible refine (HS2.out _).mono ?_); rintro e w1 ⟨rfl, rfl⟩)
      | (go_at_call 73; refine (HT.out _).mono ?_; rintro e w1 ⟨rfl, ha⟩; obtain ⟨hc1, hf1⟩ := bcell ha; have hs1 := size_step ha; have KB := Lib.hid ((Box.new w #[.int .i64 0, .int .u64 0] 89).later ha); have HA1 := Lib.hid ha; clear ha)
      | (go_at_call 66; refine (HN.out _).mono ?_; rintro e w2 ⟨rfl, ha⟩; obtain ⟨hc2, hf2⟩ := bcell ha; have hs2 := size_step ha; have kb := (KB.out.alloc _).later ha; have d0 : w2.cell? ⟨w.heap.size, 0, none⟩ = some (.int .i64 0) := kb.cell 0; have d1 : w2.cell? ⟨w.heap.size, 1, none⟩ = some (.int .u64 0) := kb.cell 1; have KB2 := Lib.hid kb; clear kb; have HA2 := Lib.hid ha; clear ha))
    have HW := Lib.hid (((HAZ.out.trans HA1.out).alloc _).trans HA2.out)
    refine post_wide rfl rfl rfl (((KB2.out.set 0 _).set 1 _)) ⟨by rw [← HR.out]; simp, (HW.out.set (Nat.le_refl _) _).set (Nat.le_refl _) _⟩
  · have HR := Lib.hid hm
    clear hm
    have HAZ : Hid (Adds w (w.alloc (.cells #[.int .i64 0, .int .u64 0] 89))) := Lib.hid ((Adds.refl _).alloc _)
    go_enter Try.func67, Try.ntmps67
    go_wp2_with (first
      | (go_at_call 44; first | (with_reducible refine (HS1.out _).mono ?_); rintro e w1 ⟨rfl, rfl⟩ | (with_reducible refine (HS2.out _).mono ?_); rintro e w1 ⟨rfl, rfl⟩)
      | (go_at_call 73; refine (HT.out _).mono ?_; rintro e w1 ⟨rfl, ha⟩; obtain ⟨hc1, hf1⟩ := bcell ha; have hs1 := size_step ha; have KB := Lib.hid ((Box.new w #[.int .i64 0, .int .u64 0] 89).later ha); have HA1 := Lib.hid ha; clear ha))
    have HW := Lib.hid (HAZ.out.trans HA1.out)
    refine post_wide rfl rfl rfl (((KB.out.set 0 _).set 1 _).alloc _) ⟨by rw [← HR.out], ((HW.out.set (Nat.le_refl _) _).set (Nat.le_refl _) _).alloc _⟩

set_option maxRecDepth 100000 in
set_option maxHeartbeats 1000000 in
theorem widen_any (x : Int) (w : World) (h1 : -9223372036854775808 ≤ x) (h2 : x ≤ 9223372036854775807) :
    Calls Try.prog 40 #[.int .i64 x] w fun e w' => e = .returned (wideV x) ∧ Adds w w' := by
  have e1 : x / 9223372036854775808 = hiW x := by unfold hiW; omega
  have E1 := Lib.hid e1
  clear e1
  go_enter Try.func40, Try.ntmps40
  go_wp2
  rw [E1.out]
  exact post_wide rfl rfl rfl (Box.new _ _ _) ⟨rfl, (Adds.refl w).alloc _⟩

set_option maxRecDepth 100000 in
set_option maxHeartbeats 1000000 in
theorem narrow_any (x : Int) (w : World) (h1 : -9223372036854775808 ≤ x) (h2 : x ≤ 9223372036854775807) :
    Calls Try.prog 52 #[wideV x] w fun e w' => e = .returned (.int .i64 x) ∧ Adds w w' := by
  unfold wideV
  go_enter Try.func52, Try.ntmps52
  go_wp2
  go_ret
  exact ⟨ret_int (by unfold wrap64 loW; omega), (Adds.refl w).alloc _⟩

end Go.Proofs.Ytmkpidipoadnbaa

namespace Go.Proofs.Ytmkpidipoadnbaa
open Go Go.RowKit Go.Sort

/-- The sum of the products. -/
def dotT : List Int → List Int → Int
  | x :: l, y :: m => x * y + dotT l m
  | _, _ => 0

/-- Twelve numbers by value. -/
abbrev monthV (l : List Int) : Value := .agg (l.map (Value.int .i64)).toArray

theorem dotT_nil (m : List Int) : dotT [] m = 0 := by cases m <;> rfl
theorem dotT_snoc : ∀ (l m : List Int) (x y : Int), l.length = m.length → dotT (l ++ [x]) (m ++ [y]) = dotT l m + x * y
  | [], [], x, y, _ => by simp [dotT]
  | a :: l, b :: m, x, y, h => by
    have ih := dotT_snoc l m x y (by simpa using h)
    simp only [List.cons_append, dotT]
    rw [ih]; omega
  | [], _ :: _, _, _, h => by simp at h
  | _ :: _, [], _, _, h => by simp at h

/-- Positions that are not too great. -/
def Few (b : Int) (l : List Int) : Prop := ∀ x ∈ l, -b ≤ x ∧ x ≤ b

theorem mul_le_mul2 {x y a b : Int} (hx : -a ≤ x ∧ x ≤ a) (hy : -b ≤ y ∧ y ≤ b) : -(a * b) ≤ x * y ∧ x * y ≤ a * b := by
  have ha : 0 ≤ a := by omega
  have hb : 0 ≤ b := by omega
  have key : ∀ x y : Int, -a ≤ x ∧ x ≤ a → -b ≤ y ∧ y ≤ b → x * y ≤ a * b := fun x y hx hy => by
    rcases Int.le_total 0 x with h | h
    · exact Int.le_trans (Int.mul_le_mul_of_nonneg_left hy.2 h) (Int.mul_le_mul_of_nonneg_right hx.2 hb)
    · have : x * y = (-x) * (-y) := by rw [Int.neg_mul_neg]
      rw [this]
      exact Int.le_trans (Int.mul_le_mul_of_nonneg_left (by omega : -y ≤ b) (by omega)) (Int.mul_le_mul_of_nonneg_right (by omega) hb)
  refine ⟨?_, key x y hx hy⟩
  have := key (-x) y ⟨by omega, by omega⟩ hy
  rw [Int.neg_mul] at this
  omega

theorem dot_bd {a b : Int} (ha : 0 ≤ a) (hb : 0 ≤ b) : ∀ (l m : List Int), Few a l → Few b m → -(l.length * (a * b)) ≤ dotT l m ∧ dotT l m ≤ l.length * (a * b)
  | [], m, _, _ => by rw [dotT_nil]; simp
  | x :: l, [], _, _ => by
    have h : 0 ≤ ((x :: l).length : Int) * (a * b) := Int.mul_nonneg (by omega) (Int.mul_nonneg ha hb)
    simp only [dotT]
    omega
  | x :: l, y :: m, hl, hm => by
    have ih := dot_bd ha hb l m (fun z hz => hl z (by simp [hz])) (fun z hz => hm z (by simp [hz]))
    have h := mul_le_mul2 (hl x (by simp)) (hm y (by simp))
    simp only [dotT, List.length_cons]
    rw [show (((l.length + 1 : Nat) : Int)) = (l.length : Int) + 1 by omega, Int.add_mul]
    omega

end Go.Proofs.Ytmkpidipoadnbaa

namespace Go.Proofs.Ytmkpidipoadnbaa
open Go Go.RowKit Go.Sort

theorem month_box {w : World} {b : Nat} {l : List Int} {T : TypeId} (h : Box w b (l.map (Value.int .i64)).toArray T) {i : Nat} {x : Int} (hx : l[i]? = some x) : w.cell? ⟨b, i, none⟩ = some (.int .i64 x) := by
  rw [h.cell i]
  simp [hx]

theorem take_dot {l m : List Int} {k : Nat} {x y : Int} (hl : l[k]? = some x) (hm : m[k]? = some y) : dotT (l.take (k + 1)) (m.take (k + 1)) = dotT (l.take k) (m.take k) + x * y := by
  have h1 := (List.getElem?_eq_some_iff.1 hl)
  have h2 := (List.getElem?_eq_some_iff.1 hm)
  obtain ⟨a1, a2⟩ := h1
  obtain ⟨b1, b2⟩ := h2
  rw [List.take_succ_eq_append_getElem a1, List.take_succ_eq_append_getElem b1, a2, b2, dotT_snoc _ _ _ _ (by simp; omega)]

theorem dot_in {l m : List Int} (hl : Few 2305843009213693952 l) (hm : Few 4294967296 m) (h : l.length ≤ 12) (k : Nat) : InW (dotT (l.take k) (m.take k)) := by
  have := dot_bd (a := 2305843009213693952) (b := 4294967296) (by omega) (by omega) (l.take k) (m.take k) (fun z hz => hl z (List.mem_of_mem_take hz)) (fun z hz => hm z (List.mem_of_mem_take hz))
  have hk : (l.take k).length ≤ 12 := by rw [List.length_take]; omega
  unfold InW
  omega

set_option maxRecDepth 100000 in
set_option maxHeartbeats 4000000 in
theorem times12_any (l m : List Int) (w : World) (hl : l.length = 12) (hm : m.length = 12) (hbl : Few 2305843009213693952 l) (hbm : Few 4294967296 m) :
    Calls Try.prog 55 #[monthV l, monthV m] w fun e w' => e = .returned (wideV (dotT l m)) ∧ Adds w w' := by
  have HIN := Lib.hid (fun k => dot_in hbl hbm (by omega) k)
  have HBL := Lib.hid hbl
  have HBM := Lib.hid hbm
  have HL := Lib.hid hl
  have HM := Lib.hid hm
  have hz1 : ∀ w, (sizeOf 61).run Try.prog w = .ok 12 w := fun _ => by kernel_rfl
  unfold monthV
  obtain ⟨av, hav⟩ : ∃ v, v = (l.map (Value.int .i64)).toArray := ⟨_, rfl⟩
  obtain ⟨bv, hbv⟩ : ∃ v, v = (m.map (Value.int .i64)).toArray := ⟨_, rfl⟩
  rw [← hav, ← hbv]
  have HAV := Lib.hid hav
  have HBV := Lib.hid hbv
  clear hl hm hbl hbm hz1 hav hbv
  go_enter Try.func55, Try.ntmps55
  go_upto_region 3 with fail
  have k0 := (((Box.new w av 61).alloc (.cells bv 61)).alloc (.cells #[.int .i64 0, .int .u64 0] 89)).alloc (.cells #[.int .i64 0, .int .u64 0] 89)
  have k1 := ((Box.new (w.alloc (.cells av 61)) bv 61).alloc (.cells #[.int .i64 0, .int .u64 0] 89)).alloc (.cells #[.int .i64 0, .int .u64 0] 89)
  have k2 := (Box.new ((w.alloc (.cells av 61)).alloc (.cells bv 61)) #[.int .i64 0, .int .u64 0] 89).alloc (.cells #[.int .i64 0, .int .u64 0] 89)
  have k3 := Box.new (((w.alloc (.cells av 61)).alloc (.cells bv 61)).alloc (.cells #[.int .i64 0, .int .u64 0] 89)) #[.int .i64 0, .int .u64 0] 89
  have hA : Adds w ((((w.alloc (.cells av 61)).alloc (.cells bv 61)).alloc (.cells #[.int .i64 0, .int .u64 0] 89)).alloc (.cells #[.int .i64 0, .int .u64 0] 89)) := ((((Adds.refl w).alloc _).alloc _).alloc _).alloc _
  rw [World.size_alloc] at k1
  rw [World.size_alloc, World.size_alloc] at k2
  rw [World.size_alloc, World.size_alloc, World.size_alloc] at k3
  obtain ⟨W, hW⟩ : ∃ V, V = (((w.alloc (.cells av 61)).alloc (.cells bv 61)).alloc (.cells #[.int .i64 0, .int .u64 0] 89)).alloc (.cells #[.int .i64 0, .int .u64 0] 89) := ⟨_, rfl⟩
  rw [← hW] at k0 k1 k2 k3 hA ⊢
  have HA := Lib.hid hA
  clear hW hA
  obtain ⟨s, hs⟩ : ∃ s, s = w.heap.size := ⟨_, rfl⟩
  rw [← hs] at k0 k1 k2 k3 ⊢
  have K0 := Lib.hid k0
  have K1 := Lib.hid k1
  have K2 := Lib.hid k2
  have K3 := Lib.hid k3
  have HS := Lib.hid hs
  clear hs k0 k1 k2 k3
  go_loopw [7] (fun v7 wr => ∃ k : Nat, k ≤ 12 ∧ v7 = .int .i64 k ∧ Hid (Box wr s av 61) ∧ Hid (Box wr (s + 1) bv 61) ∧ Hid (Box wr (s + 1 + 1) #[.int .i64 0, .int .u64 0] 89) ∧ Hid (Box wr (s + 1 + 1 + 1) #[.int .i64 (hiW (dotT (l.take k) (m.take k))), .int .u64 (loW (dotT (l.take k) (m.take k)))] 89) ∧ Hid (Adds w wr)) (fun v7 _ => 12 - (intOf v7).toNat)
  case atStart => exact ⟨0, by omega, rfl, K0, K1, K2, Lib.hid (by rw [List.take_zero, List.take_zero, dotT_nil, hi_zero, lo_zero]; exact K3.out), HA⟩
  case round =>
    obtain ⟨k, hk, rfl, R0, R1, R2, R3, RA⟩ := hrel
    clear K0 K1 K2 K3 HA
    by_cases hlt : k < 12
    · have hlt2 : (k : Int) < 12 := by omega
      obtain ⟨x, hx⟩ : ∃ x, l[k]? = some x := ⟨_, List.getElem?_eq_getElem (by have := HL.out; omega)⟩
      obtain ⟨y, hy⟩ : ∃ x, m[k]? = some x := ⟨_, List.getElem?_eq_getElem (by have := HM.out; omega)⟩
      have HNX := Lib.hid (take_dot hx hy)
      have hbx := HBL.out x (List.mem_of_getElem? hx)
      have hby := HBM.out y (List.mem_of_getElem? hy)
      have HP := Lib.hid (fun w => product_any x y w (by omega) (by omega))
      have HPP := Lib.hid (fun w => plus_any (dotT (l.take k) (m.take k)) (x * y) w (HIN.out k) (InW.of_mul (by omega) (by omega)))
      rw [← HNX.out] at HPP
      have d0 : wr.cell? ⟨s, k, none⟩ = some (.int .i64 x) := month_box (l := l) (by rw [← HAV.out]; exact R0.out) hx
      have d1 : wr.cell? ⟨s + 1, k, none⟩ = some (.int .i64 y) := month_box (l := m) (by rw [← HBV.out]; exact R1.out) hy
      have d2 : wr.cell? ⟨s + 1 + 1 + 1, 0, none⟩ = some (.int .i64 (hiW (dotT (l.take k) (m.take k)))) := R3.out.cell 0
      have d3 : wr.cell? ⟨s + 1 + 1 + 1, 1, none⟩ = some (.int .u64 (loW (dotT (l.take k) (m.take k)))) := R3.out.cell 1
      have hk0 : (0 : Int) ≤ (k : Int) := by omega
      unfold wideV at HP HPP
      generalize dotT (l.take k) (m.take k) = z at *
      obtain ⟨z', hz'⟩ : ∃ z', z' = dotT (l.take (k + 1)) (m.take (k + 1)) := ⟨_, rfl⟩
      rw [← hz'] at HPP HNX
      have HZ := Lib.hid hz'
      clear hz'
      generalize x * y = q at *
      clear hx hy hbx hby
      go_upto_region 5 with fail
      go_region_with (first
        | (go_at_call 67; refine (HP.out _).mono ?_; rintro e w1 ⟨rfl, ha1⟩; have hA1 : Adds wr w1 := (by first | exact ha1 | exact (Adds.refl wr).drew.trans ha1); have HA1 := Lib.hid hA1; have e2 : w1.cell? ⟨s + 1 + 1 + 1, 0, none⟩ = some (.int .i64 (hiW z)) := (R3.out.later hA1).cell 0; have e3 : w1.cell? ⟨s + 1 + 1 + 1, 1, none⟩ = some (.int .u64 (loW z)) := (R3.out.later hA1).cell 1; clear ha1 hA1)
        | (go_at_call 41; refine (HPP.out _).mono ?_; rintro e w2 ⟨rfl, ha2⟩; have hA2 : Adds wr w2 := HA1.out.trans ha2; have HA2 := Lib.hid hA2; have g2 : w2.cell? ⟨s + 1 + 1 + 1, 0, none⟩ = some (.int .i64 (hiW z)) := (R3.out.later hA2).cell 0; have g3 : w2.cell? ⟨s + 1 + 1 + 1, 1, none⟩ = some (.int .u64 (loW z)) := (R3.out.later hA2).cell 1; have g4 : w2.frozen? ⟨s + 1 + 1 + 1, 0, none⟩ = false := (R3.out.later hA2).free 0; have g5 : w2.frozen? ⟨s + 1 + 1 + 1, 1, none⟩ = false := (R3.out.later hA2).free 1; clear ha2 hA2))
      all_goals
        go_wp2
        exact ⟨⟨k + 1, by omega, by go_num, Lib.hid (((R0.out.later HA2.out).far (by show s ≠ s + 1 + 1 + 1; omega) _).far (by show s ≠ s + 1 + 1 + 1; omega) _), Lib.hid (((R1.out.later HA2.out).far (by show s + 1 ≠ s + 1 + 1 + 1; omega) _).far (by show s + 1 ≠ s + 1 + 1 + 1; omega) _), Lib.hid (((R2.out.later HA2.out).far (by show s + 1 + 1 ≠ s + 1 + 1 + 1; omega) _).far (by show s + 1 + 1 ≠ s + 1 + 1 + 1; omega) _), Lib.hid (by rw [← HZ.out]; exact ((R3.out.later HA2.out).set 0 _).set 1 _), Lib.hid (((RA.out.trans HA2.out).set (by have := HS.out; show _ ≤ s + 1 + 1 + 1; omega) _).set (by have := HS.out; show _ ≤ s + 1 + 1 + 1; omega) _)⟩, by simp [intOf]; omega⟩
    · have hkk : k = 12 := by omega
      subst hkk
      have e1 : l.take 12 = l := List.take_of_length_le (by have := HL.out; omega)
      have e2 : m.take 12 = m := List.take_of_length_le (by have := HM.out; omega)
      rw [e1, e2] at R3
      clear e1 e2 hlt
      have d2 : wr.cell? ⟨s + 1 + 1 + 1, 0, none⟩ = some (.int .i64 (hiW (dotT l m))) := R3.out.cell 0
      have d3 : wr.cell? ⟨s + 1 + 1 + 1, 1, none⟩ = some (.int .u64 (loW (dotT l m))) := R3.out.cell 1
      have g0 : wr.cell? ⟨s + 1 + 1, 0, none⟩ = some (.int .i64 0) := R2.out.cell 0
      have g1 : wr.cell? ⟨s + 1 + 1, 1, none⟩ = some (.int .u64 0) := R2.out.cell 1
      have g4 : wr.frozen? ⟨s + 1 + 1, 0, none⟩ = false := R2.out.free 0
      have g5 : wr.frozen? ⟨s + 1 + 1, 1, none⟩ = false := R2.out.free 1
      go_wp2
      refine post_wide rfl rfl rfl ((R2.out.set 0 _).set 1 _) ⟨rfl, (RA.out.set (by have := HS.out; show _ ≤ s + 1 + 1; omega) _).set (by have := HS.out; show _ ≤ s + 1 + 1; omega) _⟩

end Go.Proofs.Ytmkpidipoadnbaa
