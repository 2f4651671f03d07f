/- Whole numbers of 128 bits: max, products of numbers, sums of products. -/
import Derived.Test.YtmkpidipoadnbaaW01
import Derived.Test.YtmkpidipoadnbaaW02
namespace Go.Proofs.Ytmkpidipoadnbaa
open Go Go.RowKit

/-- The two halves of a number of 128 bits. -/
def hiW (x : Int) : Int := x / 18446744073709551616
def loW (x : Int) : Int := x % 18446744073709551616
abbrev wideV (x : Int) : Value := .agg #[.int .i64 (hiW x), .int .u64 (loW x)]
/-- Far from the ends of 128 bits. -/
def InW (x : Int) : Prop := -42535295865117307932921825928971026432 < x ∧ x < 42535295865117307932921825928971026432

theorem hi_lo {x : Int} (h : InW x) : -2305843009213693953 ≤ hiW x := by unfold InW at h; unfold hiW; omega
theorem hi_hi {x : Int} (h : InW x) : hiW x ≤ 2305843009213693952 := by unfold InW at h; unfold hiW; omega
theorem lo_lo (x : Int) : 0 ≤ loW x := by unfold loW; omega
theorem lo_hi (x : Int) : loW x ≤ 18446744073709551615 := by unfold loW; omega
theorem hi_wide (x : Int) : hiW x * 18446744073709551616 + loW x = x := by unfold hiW loW; omega
theorem hi_zero : hiW 0 = 0 := rfl
theorem lo_zero : loW 0 = 0 := rfl
theorem hi_small {x : Int} (h : 0 ≤ x) (h2 : x ≤ 18446744073709551615) : hiW x = 0 := by unfold hiW; omega
theorem lo_small {x : Int} (h : 0 ≤ x) (h2 : x ≤ 18446744073709551615) : loW x = x := by unfold loW; omega

theorem add_hi (x y : Int) : hiW (x + y) = hiW x + hiW y + (loW x + loW y) / 18446744073709551616 := by unfold hiW loW; omega
theorem add_lo (x y : Int) : loW (x + y) = (loW x + loW y) % 18446744073709551616 := by unfold loW; omega
theorem sub_hi (x y : Int) : hiW (x - y) = hiW x - hiW y - (if loW x < loW y then 1 else 0) := by unfold hiW loW; split <;> omega
theorem sub_lo (x y : Int) : loW (x - y) = (loW x + 18446744073709551616 - loW y) % 18446744073709551616 := by unfold loW; omega

theorem add64 (x y : Int) (hx : 0 ≤ x) (hx2 : x ≤ 18446744073709551615) (hy : 0 ≤ y) (hy2 : y ≤ 18446744073709551615) (w : World) :
    (callFunc 59 #[.int .u64 x, .int .u64 y, .int .u64 0]).run Try.prog w = .ok (.value (.tuple #[.int .u64 ((x + y) % 18446744073709551616), .int .u64 ((x + y) / 18446744073709551616)])) w := by
  obtain ⟨n, rfl⟩ : ∃ n : Nat, x = n := ⟨x.toNat, by omega⟩
  obtain ⟨m, rfl⟩ : ∃ n : Nat, y = n := ⟨y.toNat, by omega⟩
  have h := Any7.bits_Add64 lays7_25 n m 0 (by omega) w
  have e1 : (((n + m + 0) % 18446744073709551616 : Nat) : Int) = ((n : Int) + m) % 18446744073709551616 := by omega
  have e2 : (((n + m + 0) / 18446744073709551616 : Nat) : Int) = ((n : Int) + m) / 18446744073709551616 := by omega
  rw [e1, e2] at h
  exact h
theorem sub64 (x y : Int) (hx : 0 ≤ x) (hx2 : x ≤ 18446744073709551615) (hy : 0 ≤ y) (hy2 : y ≤ 18446744073709551615) (w : World) :
    (callFunc 76 #[.int .u64 x, .int .u64 y, .int .u64 0]).run Try.prog w = .ok (.value (.tuple #[.int .u64 ((x + 18446744073709551616 - y) % 18446744073709551616), .int .u64 (if x < y then 1 else 0)])) w := by
  obtain ⟨n, rfl⟩ : ∃ n : Nat, x = n := ⟨x.toNat, by omega⟩
  obtain ⟨m, rfl⟩ : ∃ n : Nat, y = n := ⟨y.toNat, by omega⟩
  have h := Any7.bits_Sub64 lays7_26 n m 0 (by omega) w
  have e1 : (((n + 18446744073709551616 - m - 0) % 18446744073709551616 : Nat) : Int) = ((n : Int) + 18446744073709551616 - m) % 18446744073709551616 := by omega
  have e2 : ((if n < m + 0 then 1 else 0 : Nat) : Int) = if (n : Int) < m then 1 else 0 := by split <;> split <;> omega
  rw [e1, e2] at h
  exact h

set_option maxRecDepth 100000 in
set_option maxHeartbeats 1000000 in
theorem plus_any (x y : Int) (w : World) (hx : InW x) (hy : InW y) :
    Calls Try.prog 41 #[wideV x, wideV y] w fun e w' => e = .returned (wideV (x + y)) ∧ Adds w w' := by
  have HA := Lib.hid (fun w => add64 (loW x) (loW y) (lo_lo x) (lo_hi x) (lo_lo y) (lo_hi y) w)
  have a1 := hi_lo hx
  have a2 := hi_hi hx
  have a3 := hi_lo hy
  have a4 := hi_hi hy
  obtain ⟨t, ht⟩ : ∃ t, t = (loW x + loW y) / 18446744073709551616 := ⟨_, rfl⟩
  have t1 : 0 ≤ t := by have := lo_lo x; have := lo_lo y; omega
  have t2 : t ≤ 1 := by have := lo_hi x; have := lo_hi y; omega
  have HR : Hid (hiW (x + y) = hiW x + hiW y + t) := Lib.hid (by rw [ht]; exact add_hi x y)
  have HS : Hid (loW (x + y) = (loW x + loW y) % 18446744073709551616) := Lib.hid (add_lo x y)
  obtain ⟨s, hs⟩ : ∃ s, s = (loW x + loW y) % 18446744073709551616 := ⟨_, rfl⟩
  rw [← hs] at HA HS
  rw [← ht] at HA
  clear ht hs hx hy
  unfold wideV
  generalize hiW x = a at *
  generalize hiW y = b at *
  generalize loW x = c at *
  generalize loW y = d at *
  go_enter Try.func41, Try.ntmps41
  go_wp2_with (simp only [HA.out])
  exact bodyPost_ret (v := .agg #[.int .i64 (a + b + t), .int .u64 s]) (by simp [results, Try.results41, go_sem]) rfl ⟨by rw [HR.out, HS.out], (((Adds.refl w).alloc _).alloc _).alloc _⟩

set_option maxRecDepth 100000 in
set_option maxHeartbeats 1000000 in
theorem minus_any (x y : Int) (w : World) (hx : InW x) (hy : InW y) :
    Calls Try.prog 66 #[wideV x, wideV y] w fun e w' => e = .returned (wideV (x - y)) ∧ Adds w w' := by
  have HA := Lib.hid (fun w => sub64 (loW x) (loW y) (lo_lo x) (lo_hi x) (lo_lo y) (lo_hi y) w)
  have a1 := hi_lo hx
  have a2 := hi_hi hx
  have a3 := hi_lo hy
  have a4 := hi_hi hy
  obtain ⟨t, ht⟩ : ∃ t : Int, t = if loW x < loW y then 1 else 0 := ⟨_, rfl⟩
  have t1 : 0 ≤ t := by rw [ht]; split <;> omega
  have t2 : t ≤ 1 := by rw [ht]; split <;> omega
  have HR : Hid (hiW (x - y) = hiW x - hiW y - t) := Lib.hid (by rw [ht]; exact sub_hi x y)
  have HS : Hid (loW (x - y) = (loW x + 18446744073709551616 - loW y) % 18446744073709551616) := Lib.hid (sub_lo x y)
  obtain ⟨s, hs⟩ : ∃ s, s = (loW x + 18446744073709551616 - loW y) % 18446744073709551616 := ⟨_, rfl⟩
  rw [← hs] at HA HS
  rw [← ht] at HA
  clear ht hs hx hy
  unfold wideV
  generalize hiW x = a at *
  generalize hiW y = b at *
  generalize loW x = c at *
  generalize loW y = d at *
  go_enter Try.func66, Try.ntmps66
  go_wp2_with (simp only [HA.out])
  exact bodyPost_ret (v := .agg #[.int .i64 (a - b - t), .int .u64 s]) (by simp [results, Try.results66, go_sem]) rfl ⟨by rw [HR.out, HS.out], (((Adds.refl w).alloc _).alloc _).alloc _⟩

set_option maxRecDepth 100000 in
set_option maxHeartbeats 1000000 in
theorem size_any (x : Int) (w : World) (h1 : -9223372036854775807 ≤ x) (h2 : x ≤ 9223372036854775807) :
    Calls Try.prog 44 #[.int .i64 x] w fun e w' => e = .returned (.int .u64 (max x (-x))) ∧ w = w' := by
  by_cases h : x < 0
  · have HM : Hid (max x (-x) = -x) := Lib.hid (by omega)
    have hw : IntKind.u64.wrap (-IntKind.u64.wrap x) = -x := by
      show (-(x % 18446744073709551616)) % 18446744073709551616 = -x
      omega
    go_enter Try.func44, Try.ntmps44
    go_wp2
    go_ret
    refine ⟨?_, rfl⟩
    rw [HM.out]
    first | rfl | (simp [hw]) | exact ret_int hw
  · have HM : Hid (max x (-x) = x) := Lib.hid (by omega)
    have h0 : 0 ≤ x := by omega
    clear h
    go_enter Try.func44, Try.ntmps44
    go_wp2
    go_ret
    exact ⟨ret_int HM.out.symm, rfl⟩

end Go.Proofs.Ytmkpidipoadnbaa

namespace Go.Proofs.Ytmkpidipoadnbaa
open Go Go.RowKit Go.Sort

/-- What cmp.Compare returns. -/
def cmpT (a b : Int) : Int := if a < b then -1 else if b < a then 1 else 0
/-- What cmp.Or returns. -/
def orT (a b : Int) : Int := if a = 0 then b else a

theorem cmp_wide (x y : Int) : orT (cmpT (hiW x) (hiW y)) (cmpT (loW x) (loW y)) = cmpT x y := by
  have h1 := hi_wide x
  have h2 := hi_wide y
  have := lo_lo x
  have := lo_lo y
  have := lo_hi x
  have := lo_hi y
  generalize hiW x = a at *
  generalize hiW y = b at *
  generalize loW x = c at *
  generalize loW y = d at *
  subst h1 h2
  unfold orT cmpT
  (repeat' split) <;> omega

theorem grow_adds (w : World) (q : Nat) (os : Array Obj) : Adds w (grow (w.drewN q) os) := by
  refine ⟨rfl, rfl, rfl, by simp [grow, World.drewN], fun k hk => ?_⟩
  simp [grow, World.drewN]
  rw [Array.getElem?_append_left hk]

set_option maxHeartbeats 400000 in
theorem nan_i (n : Int) (w : World) : Calls Try.prog 71 #[.int .i64 n] w fun e w' => e = .returned (.bool false) ∧ w = w' := by
  go_enter Try.func71, Try.ntmps71
  go_wp2
  go_ret
  exact ⟨rfl, rfl⟩
set_option maxHeartbeats 400000 in
theorem nan_u (n : Int) (w : World) : Calls Try.prog 72 #[.int .u64 n] w fun e w' => e = .returned (.bool false) ∧ w = w' := by
  go_enter Try.func72, Try.ntmps72
  go_wp2
  go_ret
  exact ⟨rfl, rfl⟩
set_option maxHeartbeats 400000 in
theorem cmp_i (a b : Int) (w : World) : Calls Try.prog 61 #[.int .i64 a, .int .i64 b] w fun e w' => e = .returned (.int .i64 (cmpT a b)) ∧ w = w' := by
  go_enter Try.func61, Try.ntmps61
  go_wp2_with (go_at_call 71; refine (nan_i _ _).mono ?_; rintro e w1 ⟨rfl, rfl⟩)
  all_goals
    go_ret
    exact ⟨ret_int (by unfold cmpT; (repeat split) <;> first | rfl | omega), rfl⟩
set_option maxHeartbeats 400000 in
theorem cmp_u (a b : Int) (w : World) : Calls Try.prog 62 #[.int .u64 a, .int .u64 b] w fun e w' => e = .returned (.int .i64 (cmpT a b)) ∧ w = w' := by
  go_enter Try.func62, Try.ntmps62
  go_wp2_with (go_at_call 72; refine (nan_u _ _).mono ?_; rintro e w1 ⟨rfl, rfl⟩)
  all_goals
    go_ret
    exact ⟨ret_int (by unfold cmpT; (repeat split) <;> first | rfl | omega), rfl⟩

set_option maxHeartbeats 400000 in
theorem Or_any (g c : Nat) (a b : Int) (w : World) (h0 : w.cell? ⟨g, 0, none⟩ = some (.int .i64 a)) (h1 : w.cell? ⟨g, 1, none⟩ = some (.int .i64 b)) :
    Calls Try.prog 60 #[.slice (some ⟨g, 0, none⟩) 2 c] w fun e w' => e = .returned (.int .i64 (orT a b)) ∧ w = w' := by
  have H0 := Lib.hid h0
  have H1 := Lib.hid h1
  clear h0 h1
  go_enter Try.func60, Try.ntmps60
  go_wp2
  go_loopw [8] (fun i wr => ∃ k : Nat, k ≤ 2 ∧ i = .int .i64 k ∧ Hid (1 ≤ k → a = 0) ∧ Hid (2 ≤ k → b = 0) ∧ Hid (w = wr)) (fun i _ => 2 - (intOf i).toNat)
  case atStart => exact ⟨0, by omega, rfl, Lib.hid (fun h => by omega), Lib.hid (fun h => by omega), Lib.hid rfl⟩
  case round =>
    obtain ⟨k, hk, rfl, hA, hB, hW⟩ := hrel
    have c0 : wr.cell? ⟨g, 0, none⟩ = some (.int .i64 a) := by rw [← hW.out]; exact H0.out
    have c1 : wr.cell? ⟨g, 1, none⟩ = some (.int .i64 b) := by rw [← hW.out]; exact H1.out
    have hkk : k = 0 ∨ k = 1 ∨ k = 2 := by omega
    rcases hkk with rfl | rfl | rfl
    · by_cases ha : a = 0
      · have hg : (a != 0) = false := by rw [ha]; rfl
        have HA := Lib.hid ha
        clear ha hA hB
        go_wp2
        exact ⟨⟨1, by omega, rfl, Lib.hid (fun _ => HA.out), Lib.hid (fun h => by omega), hW⟩, by simp [intOf]⟩
      · have hg : (a != 0) = true := by simp [bne, ha]
        have HA := Lib.hid ha
        clear ha hA hB
        go_wp2
        go_ret
        exact ⟨ret_int (by unfold orT; rw [if_neg HA.out]), hW.out⟩
    · have HA0 := Lib.hid (hA.out (Nat.le_refl _))
      by_cases hb : b = 0
      · have hg : (b != 0) = false := by rw [hb]; rfl
        have HB := Lib.hid hb
        clear hb hA hB
        go_wp2
        exact ⟨⟨2, by omega, rfl, Lib.hid (fun _ => HA0.out), Lib.hid (fun _ => HB.out), hW⟩, by simp [intOf]⟩
      · have hg : (b != 0) = true := by simp [bne, hb]
        clear hb hA hB
        go_wp2
        go_ret
        exact ⟨ret_int (by unfold orT; rw [if_pos HA0.out]), hW.out⟩
    · have HA0 := Lib.hid (hA.out (by omega))
      have HB0 := Lib.hid (hB.out (by omega))
      clear hA hB
      go_wp2
      go_ret
      exact ⟨ret_int (by unfold orT; rw [if_pos HA0.out, HB0.out]), hW.out⟩


set_option maxRecDepth 100000 in
set_option maxHeartbeats 2000000 in
theorem compare_any (x y : Int) (w : World) : Calls Try.prog 42 #[wideV x, wideV y] w fun e w' => e = .returned (.int .i64 (cmpT x y)) ∧ ∃ q os', w' = grow (w.drewN q) os' := by
  have HE := Lib.hid (cmp_wide x y)
  unfold wideV
  generalize hiW x = a at *
  generalize hiW y = c at *
  generalize loW x = b at *
  generalize loW y = d at *
  go_enter Try.func42, Try.ntmps42
  go_upto_region 1 with fail
  have hb1 := Box.new w #[.int .i64 a, .int .u64 b] 89
  have hb2 := Box.new (w.alloc (.cells #[.int .i64 a, .int .u64 b] 89)) #[.int .i64 c, .int .u64 d] 89
  rw [World.size_alloc] at hb2
  have hb1 := hb1.alloc (.cells #[.int .i64 c, .int .u64 d] 89)
  obtain ⟨W, hW⟩ : ∃ V, V = (w.alloc (.cells #[.int .i64 a, .int .u64 b] 89)).alloc (.cells #[.int .i64 c, .int .u64 d] 89) := ⟨_, rfl⟩
  rw [← hW] at hb1 hb2 ⊢
  have HWW := Lib.hid hW
  obtain ⟨bx, hbx⟩ : ∃ b, b = w.heap.size := ⟨_, rfl⟩
  rw [← hbx] at hb1 hb2 ⊢
  have k0 : W.cell? ⟨bx, 0, none⟩ = some (.int .i64 a) := hb1.cell 0
  have k1 : W.cell? ⟨bx, 1, none⟩ = some (.int .u64 b) := hb1.cell 1
  have l0 : W.cell? ⟨bx + 1, 0, none⟩ = some (.int .i64 c) := hb2.cell 0
  have l1 : W.cell? ⟨bx + 1, 1, none⟩ = some (.int .u64 d) := hb2.cell 1
  clear hbx hW hb1 hb2
  go_region_held3 (fun w' => w'.cell? ⟨bx, 0, none⟩ = some (.int .i64 a) ∧ w'.cell? ⟨bx, 1, none⟩ = some (.int .u64 b) ∧ w'.cell? ⟨bx + 1, 0, none⟩ = some (.int .i64 c) ∧ w'.cell? ⟨bx + 1, 1, none⟩ = some (.int .u64 d))
    (first | (go_keep; done))
    ((first
      | (go_simp; go_at_call 61; refine (cmp_i _ _ _).mono ?_; rintro e w1 ⟨rfl, rfl⟩)
      | (go_simp; go_at_call 62; refine (cmp_u _ _ _).mono ?_; rintro e w1 ⟨rfl, rfl⟩)
      | (go_simp; go_at_call 60; refine (Or_any W.heap.size 2 (cmpT a c) (cmpT b d) _ ((Box.new W _ 3).drew.cell 0) ((Box.new W _ 3).drew.cell 1)).mono ?_; rintro e w1 ⟨rfl, rfl⟩)))
  all_goals
    go_wp2
    go_ret
    exact ⟨ret_int HE.out, 1, _, by rw [HWW.out, alloc_eq_grow, alloc_eq_grow, alloc_eq_grow, grow_grow, grow_grow]; rfl⟩

end Go.Proofs.Ytmkpidipoadnbaa

namespace Go.Proofs.Ytmkpidipoadnbaa
open Go Go.RowKit Go.Sort

theorem compare_adds (x y : Int) (w : World) : Calls Try.prog 42 #[wideV x, wideV y] w fun e w' => e = .returned (.int .i64 (cmpT x y)) ∧ Adds w w' := (compare_any x y w).mono (by
  rintro e w' ⟨rfl, q, os, rfl⟩
  exact ⟨rfl, grow_adds w q os⟩)
theorem cmp_max (x y : Int) : (decide (cmpT x y < 0) = true ∧ max x y = y) ∨ (decide (cmpT x y < 0) = false ∧ max x y = x) := by
  unfold cmpT
  by_cases h : x < y
  · exact Or.inl ⟨by rw [if_pos h]; rfl, by omega⟩
  · refine Or.inr ⟨?_, by omega⟩
    rw [if_neg h]
    split <;> rfl

set_option maxRecDepth 100000 in
set_option maxHeartbeats 1000000 in
theorem max_any (x y : Int) (w : World) : Calls Try.prog 70 #[wideV x, wideV y] w fun e w' => e = .returned (wideV (max x y)) ∧ Adds w w' := by
  have HC := Lib.hid (fun w => compare_adds x y w)
  have hk := cmp_max x y
  generalize cmpT x y = z at *
  generalize max x y = m at *
  unfold wideV at *
  rcases hk with ⟨hz, hm⟩ | ⟨hz, hm⟩
  all_goals
    rw [hm]
    clear hm
    generalize hiW x = a at *
    generalize hiW y = c at *
    generalize loW x = b at *
    generalize loW y = d at *
    go_enter Try.func70, Try.ntmps70
    have HA : Hid (Adds w (((w.alloc (.cells #[.int .i64 a, .int .u64 b] 89)).alloc (.cells #[.int .i64 c, .int .u64 d] 89)).alloc (.cells #[.int .i64 0, .int .u64 0] 89))) := Lib.hid ((((Adds.refl w).alloc _).alloc _).alloc _)
    go_upto_region 1 with fail
    have k2 := Box.new ((w.alloc (.cells #[.int .i64 a, .int .u64 b] 89)).alloc (.cells #[.int .i64 c, .int .u64 d] 89)) #[.int .i64 0, .int .u64 0] 89
    have k1 := (Box.new (w.alloc (.cells #[.int .i64 a, .int .u64 b] 89)) #[.int .i64 c, .int .u64 d] 89).alloc (.cells #[.int .i64 0, .int .u64 0] 89)
    have k0 := ((Box.new w #[.int .i64 a, .int .u64 b] 89).alloc (.cells #[.int .i64 c, .int .u64 d] 89)).alloc (.cells #[.int .i64 0, .int .u64 0] 89)
    rw [World.size_alloc] at k1
    rw [World.size_alloc, World.size_alloc] at k2
    obtain ⟨W, hW⟩ : ∃ V, V = ((w.alloc (.cells #[.int .i64 a, .int .u64 b] 89)).alloc (.cells #[.int .i64 c, .int .u64 d] 89)).alloc (.cells #[.int .i64 0, .int .u64 0] 89) := ⟨_, rfl⟩
    rw [← hW] at k0 k1 k2 HA ⊢
    clear hW
    have K0 := Lib.hid k0
    have K1 := Lib.hid k1
    have K2 := Lib.hid k2
    obtain ⟨s, hs⟩ : ∃ s, s = w.heap.size := ⟨_, rfl⟩
    have HS := Lib.hid hs
    rw [← hs] at k0 k1 k2 K0 K1 K2 ⊢
    have c00 : W.cell? ⟨s, 0, none⟩ = some (.int .i64 a) := k0.cell 0
    have c01 : W.cell? ⟨s, 1, none⟩ = some (.int .u64 b) := k0.cell 1
    have c10 : W.cell? ⟨s + 1, 0, none⟩ = some (.int .i64 c) := k1.cell 0
    have c11 : W.cell? ⟨s + 1, 1, none⟩ = some (.int .u64 d) := k1.cell 1
    clear hs k0 k1 k2
    go_wp2_with (go_at_call 42; refine (HC.out _).mono ?_; rintro e w1 ⟨rfl, ha⟩; have HA1 := Lib.hid ha; have d00 : w1.cell? ⟨s, 0, none⟩ = some (.int .i64 a) := (K0.out.later ha).cell 0; have d01 : w1.cell? ⟨s, 1, none⟩ = some (.int .u64 b) := (K0.out.later ha).cell 1; have d10 : w1.cell? ⟨s + 1, 0, none⟩ = some (.int .i64 c) := (K1.out.later ha).cell 0; have d11 : w1.cell? ⟨s + 1, 1, none⟩ = some (.int .u64 d) := (K1.out.later ha).cell 1; have d20 : w1.cell? ⟨s + 1 + 1, 0, none⟩ = some (.int .i64 0) := (K2.out.later ha).cell 0; have d21 : w1.cell? ⟨s + 1 + 1, 1, none⟩ = some (.int .u64 0) := (K2.out.later ha).cell 1; have e0 : w1.frozen? ⟨s + 1 + 1, 0, none⟩ = false := (K2.out.later ha).free 0; have e1 : w1.frozen? ⟨s + 1 + 1, 1, none⟩ = false := (K2.out.later ha).free 1; clear ha)
    first
      | exact bodyPost_ret (v := .agg #[.int .i64 c, .int .u64 d]) (by simp [results, Try.results70, go_sem, d20, d21]) rfl ⟨rfl, ((HA.out.trans HA1.out).set (by have := HS.out; simp; omega) _).set (by have := HS.out; simp; omega) _⟩
      | exact bodyPost_ret (v := .agg #[.int .i64 a, .int .u64 b]) (by simp [results, Try.results70, go_sem, d20, d21]) rfl ⟨rfl, ((HA.out.trans HA1.out).set (by have := HS.out; simp; omega) _).set (by have := HS.out; simp; omega) _⟩

theorem bcell {W w1 : World} (hb : Adds W w1) : (∀ b o, b < W.heap.size → w1.cell? ⟨b, o, none⟩ = W.cell? ⟨b, o, none⟩) ∧ (∀ b o, b < W.heap.size → w1.frozen? ⟨b, o, none⟩ = W.frozen? ⟨b, o, none⟩) :=
  ⟨fun b o h => hb.cell (p := ⟨b, o, none⟩) h, fun b o h => hb.frozen (p := ⟨b, o, none⟩) h⟩

/-- A result of two cells, read out of its block. -/
theorem post_wide {f : Func} {Q : Ending → World → Prop} {a : Act} {W : World} {b i : Nat} {u v : Value} (hr : f.results = #[ResultVar.cell i 89]) (hd : a.defers = []) (hp : a.tmps[i]? = some (.pointer (some ⟨b, 0, none⟩)))
    (hb : Box W b #[u, v] 89) (hq : Q (.returned (.agg #[u, v])) W) : bodyPost Try.prog f Q .ret a W := by
  have e0 : W.cell? ⟨b, 0, none⟩ = some u := hb.cell 0
  have e1 : W.cell? ⟨b, 1, none⟩ = some v := hb.cell 1
  exact bodyPost_ret (v := .agg #[u, v]) (by simp [results, hr, go_sem, hp, e0, e1]) hd hq

theorem size_step {w w1 : World} {o : Obj} (h : Adds (w.alloc o) w1) : w.heap.size < w1.heap.size := by
  have := h.size
  rw [World.size_alloc] at this
  omega

theorem mul_parts (x y : Nat) : ((x * y / 18446744073709551616 : Nat) : Int) = hiW ((x : Int) * y) ∧ ((x * y % 18446744073709551616 : Nat) : Int) = loW ((x : Int) * y) := by
  unfold hiW loW
  rw [← Int.natCast_mul]
  omega

set_option maxRecDepth 100000 in
set_option maxHeartbeats 1000000 in
/-- The product of two numbers without a sign. -/
theorem times_any (x y : Int) (w : World) (hx : 0 ≤ x) (hx2 : x ≤ 18446744073709551615) (hy : 0 ≤ y) (hy2 : y ≤ 18446744073709551615) (hm : InW (x * y)) :
    Calls Try.prog 73 #[.int .u64 x, .int .u64 y] w fun e w' => e = .returned (wideV (x * y)) ∧ Adds w w' := by
  obtain ⟨n, rfl⟩ : ∃ n : Nat, x = n := ⟨x.toNat, by omega⟩
  obtain ⟨m, rfl⟩ : ∃ n : Nat, y = n := ⟨y.toNat, by omega⟩
  have HC := Lib.hid (fun w => bits_Mul64 n m (by omega) (by omega) w)
  have h1 := hi_lo hm
  have h2 := hi_hi hm
  have h3 : 0 ≤ hiW ((n : Int) * m) := by
    have : 0 ≤ (n : Int) * m := Int.mul_nonneg hx hy
    unfold hiW
    omega
  rw [(mul_parts n m).1, (mul_parts n m).2] at HC
  unfold wideV
  generalize hiW ((n : Int) * m) = a at *
  generalize loW ((n : Int) * m) = b at *
  clear hm hx hx2 hy hy2
  go_enter Try.func73, Try.ntmps73
  go_wp2_with (go_at_call 78; refine (HC.out _).mono ?_; rintro e w1 ⟨rfl, rfl⟩)
  exact bodyPost_ret (v := .agg #[.int .i64 a, .int .u64 b]) (by simp [results, Try.results73, go_sem]) rfl ⟨rfl, (Adds.refl w).alloc _⟩

end Go.Proofs.Ytmkpidipoadnbaa
