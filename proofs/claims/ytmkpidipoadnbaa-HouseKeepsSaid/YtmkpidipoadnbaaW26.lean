/- Trade of a house in memory: the seller may not. -/
import Derived.Test.YtmkpidipoadnbaaW22
namespace Go.Proofs.Ytmkpidipoadnbaa
open Go Go.RowKit Go.Sort

section
variable {w : World} {base b ga ca cm ck : Nat} {pm pk : Option Addr} {h : Hs}
set_option maxRecDepth 100000 in
set_option maxHeartbeats 8000000 in
theorem trade_2 (hh : HouseAt w base b ga ca pm cm pk ck h) (hs : Sound h) {iu ju m : Nat} {a1 a2 : Ac} (q p g : Int) (hf : ∀ W, Adds w W → CheckTo (.pointer (some ⟨b, 0, none⟩)) ((iu : Int) + 1) ((ju : Int) + 1) m q p W 0) (hq : 1 ≤ q ∧ q ≤ 1000000) (hp : 1 ≤ p ∧ p ≤ 1000000) (g1 : h.ac[iu]? = some a1) (g2 : h.ac[ju]? = some a2) (_hij : iu ≠ ju) (hm : m < 12) (hg : g = q * (h.prices.getD m 0 - p)) (f1 : Few 1152921504606846976 (a1.pos.set m (a1.pos[m]! + q))) (f2 : Few 1152921504606846976 (a2.pos.set m (a2.pos[m]! + -q))) (hB1 : allowsB h a1 m q g = true) (hB2 : allowsB h a2 m (-q) (-g) = false) :
    TradeTo (.pointer (some ⟨b, 0, none⟩)) ((iu : Int) + 1) ((ju : Int) + 1) m q p w fun r w' => r = .returned (.tuple #[.int .i64 0, .int .i64 90]) ∧ Adds w w' := by
  have hq1 := hq.1
  have hq2 := hq.2
  have hp1 := hp.1
  have hp2 := hp.2
  have s1 := (hs.acs a1 (List.mem_of_getElem? g1)).1
  have s2 := (hs.acs a2 (List.mem_of_getElem? g2)).1
  have hpl := hs.calm.prices
  have hx : h.prices[m]? = some (h.prices.getD m 0) := by rw [List.getD_eq_getElem?_getD, List.getElem?_eq_getElem (by omega)]; rfl
  obtain ⟨x, hxe⟩ : ∃ x, x = h.prices.getD m 0 := ⟨_, rfl⟩
  rw [← hxe] at hx hg
  have hxb := hs.calm.price x (List.mem_of_getElem? hx)
  have hx0 := hxb.1
  have hx1 := hxb.2
  have hgb := mul_bd (A := 1000000) (B := 2000000) (show 0 ≤ q by omega) hq2 (show -2000000 ≤ x - p by omega) (show x - p ≤ 2000000 by omega)
  rw [← hg] at hgb
  have hgb1 := hgb.1
  have hgb2 := hgb.2
  have hw1 : IntKind.i64.wrap (x - p) = x - p := by rw [IntKind.wrap_i64]; omega
  have hw2 : IntKind.i64.wrap (q * (x - p)) = g := by rw [← hg, IntKind.wrap_i64]; omega
  have hw3 : IntKind.i64.wrap (-q) = -q := by rw [IntKind.wrap_i64]; omega
  have hw4 : IntKind.i64.wrap (-g) = -g := by rw [IntKind.wrap_i64]; omega
  have hw5 : IntKind.i64.wrap ((iu : Int) + 1 - 1) = iu := by rw [IntKind.wrap_i64]; have := (List.getElem?_eq_some_iff.1 g1).1; have := hs.few; omega
  have hw7 : IntKind.i64.wrap (iu : Int) = iu := by rw [IntKind.wrap_i64]; have := (List.getElem?_eq_some_iff.1 g1).1; have := hs.few; omega
  have hw8 : IntKind.i64.wrap (ju : Int) = ju := by rw [IntKind.wrap_i64]; have := (List.getElem?_eq_some_iff.1 g2).1; have := hs.few; omega
  have hw6 : IntKind.i64.wrap ((ju : Int) + 1 - 1) = ju := by rw [IntKind.wrap_i64]; have := (List.getElem?_eq_some_iff.1 g2).1; have := hs.few; omega
  have HF := Lib.hid hf
  have HC := Lib.hid (fun W (hW : Adds w W) => (hh.later hW).c0)
  have HR1 := Lib.hid (fun W (hW : Adds w W) => (hh.later hW).acc g1)
  have HR2 := Lib.hid (fun W (hW : Adds w W) => (hh.later hW).acc g2)
  have HPX := Lib.hid (fun W (hW : Adds w W) => (hh.later hW).pr m (.int .i64 x) (by rw [List.getElem?_map, hx]; rfl))
  have HA1 := Lib.hid (fun W (hW : Adds w W) => allows_any b cm pm h a1 m q g W hs.calm ((hh.later hW).r hpl) s1 hm ⟨by omega, by omega⟩ f1 ⟨by omega, by omega⟩)
  have HA2 := Lib.hid (fun W (hW : Adds w W) => allows_any b cm pm h a2 m (-q) (-g) W hs.calm ((hh.later hW).r hpl) s2 hm ⟨by omega, by omega⟩ f2 ⟨by omega, by omega⟩)
  rw [hB1] at HA1
  rw [hB2] at HA2
  have i0 := (List.getElem?_eq_some_iff.1 g1).1
  have j0 := (List.getElem?_eq_some_iff.1 g2).1
  have hn := hs.few
  have i2 : (0 : Int) ≤ (iu : Int) := by omega
  have i3 : (iu : Int) < (h.ac.length : Int) := by omega
  have j2 : (0 : Int) ≤ (ju : Int) := by omega
  have j3 : (ju : Int) < (h.ac.length : Int) := by omega
  have m2 : (0 : Int) ≤ (m : Int) := by omega
  have m3 : (m : Int) < 12 := by omega
  have hgaw : ga < w.heap.size := by obtain ⟨_, _, e⟩ := hh.blk; exact (Array.getElem?_eq_some_iff.1 e).1
  have hbw : b < w.heap.size := hh.bx.lt
  unfold TradeTo ktV
  unfold CheckTo ktV at HF
  unfold accV at *
  generalize hnn : h.ac.length = n at *
  have HNN := Lib.hid hnn
  clear hnn
  clear hh hs hq hp g1 g2 hxb hgb hg hpl hx hxe s1 s2 f1 f2 hB1 hf hB2 _hij
  go_enter Try.func11, Try.ntmps11
  go_upto_region 1 with fail
  have k0 := Box.new w #[.int .i64 ((iu : Int) + 1), .int .i64 ((ju : Int) + 1), .int .i64 (m : Int), .int .i64 q, .int .i64 p] 42
  have hA : Adds w (w.alloc (.cells #[.int .i64 ((iu : Int) + 1), .int .i64 ((ju : Int) + 1), .int .i64 (m : Int), .int .i64 q, .int .i64 p] 42)) := (Adds.refl w).alloc _
  obtain ⟨W, hW⟩ : ∃ V, V = w.alloc (.cells #[.int .i64 ((iu : Int) + 1), .int .i64 ((ju : Int) + 1), .int .i64 (m : Int), .int .i64 q, .int .i64 p] 42) := ⟨_, rfl⟩
  rw [← hW] at k0 hA ⊢
  obtain ⟨s, hss⟩ : ∃ s, s = w.heap.size := ⟨_, rfl⟩
  rw [← hss] at k0 ⊢
  have hsg : s ≠ ga := by omega
  have hsb : s ≠ b := by omega
  have HSW := Lib.hid hss
  have HA := Lib.hid hA
  have K0 := Lib.hid k0
  have d0 : W.cell? ⟨s, 0, none⟩ = some (.int .i64 ((iu : Int) + 1)) := k0.cell 0
  have d1 : W.cell? ⟨s, 1, none⟩ = some (.int .i64 ((ju : Int) + 1)) := k0.cell 1
  have d2 : W.cell? ⟨s, 2, none⟩ = some (.int .i64 (m : Int)) := k0.cell 2
  have d3 : W.cell? ⟨s, 3, none⟩ = some (.int .i64 q) := k0.cell 3
  have d4 : W.cell? ⟨s, 4, none⟩ = some (.int .i64 p) := k0.cell 4
  clear hW hss k0 hA
  go_upto_region 4 with (go_at_call 23; refine (HF.out _ HA.out).mono ?_; rintro r w1 ⟨rfl, ha⟩; have HAB := Lib.hid (HA.out.trans ha); have K1 := Lib.hid (K0.out.later ha); clear ha)
  clear d0 d1 d2 d3 d4
  have d2 : w1.cell? ⟨s, 2, none⟩ = some (.int .i64 (m : Int)) := K1.out.cell 2
  have d3 : w1.cell? ⟨s, 3, none⟩ = some (.int .i64 q) := K1.out.cell 3
  have d4 : w1.cell? ⟨s, 4, none⟩ = some (.int .i64 p) := K1.out.cell 4
  have dx := HPX.out w1 HAB.out
  go_quiet (fail)
  clear d2 d3 d4 dx HA K0 HF
  obtain ⟨w2, hw2'⟩ : ∃ V, V = w1.drewN nq := ⟨_, rfl⟩
  have HA0 : Hid (Adds w w2) := Lib.hid (by rw [hw2']; exact HAB.out.drewN _)
  have HK0 : Hid (Box w2 s #[.int .i64 ((iu : Int) + 1), .int .i64 ((ju : Int) + 1), .int .i64 (m : Int), .int .i64 q, .int .i64 p] 42) := Lib.hid (by rw [hw2']; exact K1.out.later ((Adds.refl _).drewN _))
  rw [← hw2']
  clear hw2' HAB K1
  go_upto_region 5 with fail
  refine wp_region_rules (fun i => i != i) (fun wq => Hid (Box wq s #[.int .i64 ((iu : Int) + 1), .int .i64 ((ju : Int) + 1), .int .i64 (m : Int), .int .i64 q, .int .i64 p] 42) ∧ Hid (Adds w wq)) Adds (fun i v wq => match i with | 0 => v = .pointer (some ⟨b, 0, none⟩) | 1 => v = .pointer (some ⟨b, 0, none⟩) | 2 => v = .pointer (some ⟨b, 0, none⟩) | 3 => v = .pointer (some ⟨b, 0, none⟩) | 4 => v = .slice (some ⟨ga, 0, none⟩) n ca | 5 => v = .pointer (some ⟨s, 0, none⟩) | 6 => v = .int .i64 ((iu : Int) + 1) | 7 => v = .int .i64 (iu : Int) | 8 => v = .pointer (some ⟨ga, iu * 15, none⟩) | 9 => v = .agg (encA a1).toArray | 10 => v = .pointer (some ⟨s, 2, none⟩) | 11 => v = .int .i64 (m : Int) | 12 => v = .pointer (some ⟨s, 3, none⟩) | 13 => v = .int .i64 q | 14 => v = .int .i64 g | 15 => v = .bool true | 16 => v = .bool false | 17 => v = .bool false | 18 => v = .pointer (some ⟨b, 0, none⟩) | 19 => v = .pointer (some ⟨b, 0, none⟩) | 20 => v = .pointer (some ⟨b, 0, none⟩) | 21 => v = .pointer (some ⟨b, 0, none⟩) | 22 => v = .slice (some ⟨ga, 0, none⟩) n ca | 23 => v = .pointer (some ⟨s, 1, none⟩) | 24 => v = .int .i64 ((ju : Int) + 1) | 25 => v = .int .i64 (ju : Int) | 26 => v = .pointer (some ⟨ga, ju * 15, none⟩) | 27 => v = .agg (encA a2).toArray | 28 => v = .pointer (some ⟨s, 2, none⟩) | 29 => v = .int .i64 (m : Int) | 30 => v = .pointer (some ⟨s, 3, none⟩) | 31 => v = .int .i64 q | 32 => v = .int .i64 (-q) | 33 => v = .int .i64 g | 34 => v = .int .i64 (-g) | 35 => v = .bool false | 36 => v = .bool true | 37 => v = .bool true | _ => True) (by kernel_rfl) (by kernel_rfl) (by kernel_rfl) (by kernel_rfl) 38 (by kernel_rfl) [some 27, some 28, some 29, some 30, some 31, some 32, some 33, some 34, some 35, some 36, some 37, some 38, some 39, some 40, some 41, some 42, some 43, some 44, some 45, some 46, some 47, some 48, some 49, some 50, some 51, some 52, some 53, some 54, some 55, some 56, some 57, some 58, some 59, some 60, some 61, some 62, some 63, some 64] (by kernel_rfl) 0 #[true, true, true, true, true, true, true, true, true, true, true, true, true, true, true, true, true, true, true, true, true, true, true, true, true, true, true, true, true, true, true, true, true, true, true, true, true, true] (by kernel_rfl) (by kernel_rfl) ?hS ?hstab ?hrules ?hrest
  case hS => exact ⟨Lib.hid HK0.out.drew, Lib.hid HA0.out.drew⟩
  case hstab =>
    intro j v w1 w2 hst _ h
    match j, h with
    | 0, h => exact h
    | 1, h => exact h
    | 2, h => exact h
    | 3, h => exact h
    | 4, h => exact h
    | 5, h => exact h
    | 6, h => exact h
    | 7, h => exact h
    | 8, h => exact h
    | 9, h => exact h
    | 10, h => exact h
    | 11, h => exact h
    | 12, h => exact h
    | 13, h => exact h
    | 14, h => exact h
    | 15, h => exact h
    | 16, h => exact h
    | 17, h => exact h
    | 18, h => exact h
    | 19, h => exact h
    | 20, h => exact h
    | 21, h => exact h
    | 22, h => exact h
    | 23, h => exact h
    | 24, h => exact h
    | 25, h => exact h
    | 26, h => exact h
    | 27, h => exact h
    | 28, h => exact h
    | 29, h => exact h
    | 30, h => exact h
    | 31, h => exact h
    | 32, h => exact h
    | 33, h => exact h
    | 34, h => exact h
    | 35, h => exact h
    | 36, h => exact h
    | 37, h => exact h
    | _ + 38, h => trivial
  case hrules =>
    refine rules_cons (n := 38) (ds := [some 27, some 28, some 29, some 30, some 31, some 32, some 33, some 34, some 35, some 36, some 37, some 38, some 39, some 40, some 41, some 42, some 43, some 44, some 45, some 46, some 47, some 48, some 49, some 50, some 51, some 52, some 53, some 54, some 55, some 56, some 57, some 58, some 59, some 60, some 61, some 62, some 63, some 64]) (by kernel_rfl) (by kernel_rfl) [] rfl (by kernel_rfl) ?_ ?_
    · intro x wq hx hS hdep K hK
      obtain ⟨x0, x1, x2, x3, x4, x5, x6, x7, x8, x9, x10, x11, x12, x13, x14, x15, x16, x17, x18, x19, x20, x21, x22, x23, x24, x25, x26, x27, x28, x29, x30, x31, x32, x33, x34, x35, x36, x37, rfl⟩ := len38 hx
      have s0 := hS.1
      have sA := hS.2
      clear hdep hx hS
      simp only [putD, Act.put, List.setIfInBounds_toArray, List.set_cons_zero, List.set_cons_succ]
      go_simp
      have hk := hK.out (.pointer (some ⟨b, 0, none⟩)) _ (Adds.refl wq) ⟨s0, sA⟩ rfl (fun _ _ _ _ => ⟨trivial, trivial⟩)
      simp only [putD, Act.put, List.setIfInBounds_toArray, List.set_cons_zero, List.set_cons_succ] at hk
      exact hk
    refine rules_cons (n := 38) (ds := [some 27, some 28, some 29, some 30, some 31, some 32, some 33, some 34, some 35, some 36, some 37, some 38, some 39, some 40, some 41, some 42, some 43, some 44, some 45, some 46, some 47, some 48, some 49, some 50, some 51, some 52, some 53, some 54, some 55, some 56, some 57, some 58, some 59, some 60, some 61, some 62, some 63, some 64]) (by kernel_rfl) (by kernel_rfl) [] rfl (by kernel_rfl) ?_ ?_
    · intro x wq hx hS hdep K hK
      obtain ⟨x0, x1, x2, x3, x4, x5, x6, x7, x8, x9, x10, x11, x12, x13, x14, x15, x16, x17, x18, x19, x20, x21, x22, x23, x24, x25, x26, x27, x28, x29, x30, x31, x32, x33, x34, x35, x36, x37, rfl⟩ := len38 hx
      have s0 := hS.1
      have sA := hS.2
      clear hdep hx hS
      simp only [putD, Act.put, List.setIfInBounds_toArray, List.set_cons_zero, List.set_cons_succ]
      go_simp
      have hk := hK.out (.pointer (some ⟨b, 0, none⟩)) _ (Adds.refl wq) ⟨s0, sA⟩ rfl (fun _ _ _ _ => ⟨trivial, trivial⟩)
      simp only [putD, Act.put, List.setIfInBounds_toArray, List.set_cons_zero, List.set_cons_succ] at hk
      exact hk
    refine rules_cons (n := 38) (ds := [some 27, some 28, some 29, some 30, some 31, some 32, some 33, some 34, some 35, some 36, some 37, some 38, some 39, some 40, some 41, some 42, some 43, some 44, some 45, some 46, some 47, some 48, some 49, some 50, some 51, some 52, some 53, some 54, some 55, some 56, some 57, some 58, some 59, some 60, some 61, some 62, some 63, some 64]) (by kernel_rfl) (by kernel_rfl) [1] rfl (by kernel_rfl) ?_ ?_
    · intro x wq hx hS hdep K hK
      obtain ⟨x0, x1, x2, x3, x4, x5, x6, x7, x8, x9, x10, x11, x12, x13, x14, x15, x16, x17, x18, x19, x20, x21, x22, x23, x24, x25, x26, x27, x28, x29, x30, x31, x32, x33, x34, x35, x36, x37, rfl⟩ := len38 hx
      obtain rfl : x1 = .pointer (some ⟨b, 0, none⟩) := hdep 1 (by simp)
      have s0 := hS.1
      have sA := hS.2
      clear hdep hx hS
      simp only [putD, Act.put, List.setIfInBounds_toArray, List.set_cons_zero, List.set_cons_succ]
      go_simp
      have hk := hK.out (.pointer (some ⟨b, 0, none⟩)) _ (Adds.refl wq) ⟨s0, sA⟩ rfl (fun _ _ _ _ => ⟨trivial, trivial⟩)
      simp only [putD, Act.put, List.setIfInBounds_toArray, List.set_cons_zero, List.set_cons_succ] at hk
      exact hk
    refine rules_cons (n := 38) (ds := [some 27, some 28, some 29, some 30, some 31, some 32, some 33, some 34, some 35, some 36, some 37, some 38, some 39, some 40, some 41, some 42, some 43, some 44, some 45, some 46, some 47, some 48, some 49, some 50, some 51, some 52, some 53, some 54, some 55, some 56, some 57, some 58, some 59, some 60, some 61, some 62, some 63, some 64]) (by kernel_rfl) (by kernel_rfl) [2] rfl (by kernel_rfl) ?_ ?_
    · intro x wq hx hS hdep K hK
      obtain ⟨x0, x1, x2, x3, x4, x5, x6, x7, x8, x9, x10, x11, x12, x13, x14, x15, x16, x17, x18, x19, x20, x21, x22, x23, x24, x25, x26, x27, x28, x29, x30, x31, x32, x33, x34, x35, x36, x37, rfl⟩ := len38 hx
      obtain rfl : x2 = .pointer (some ⟨b, 0, none⟩) := hdep 2 (by simp)
      have s0 := hS.1
      have sA := hS.2
      clear hdep hx hS
      simp only [putD, Act.put, List.setIfInBounds_toArray, List.set_cons_zero, List.set_cons_succ]
      go_simp
      have hk := hK.out (.pointer (some ⟨b, 0, none⟩)) _ (Adds.refl wq) ⟨s0, sA⟩ rfl (fun _ _ _ _ => ⟨trivial, trivial⟩)
      simp only [putD, Act.put, List.setIfInBounds_toArray, List.set_cons_zero, List.set_cons_succ] at hk
      exact hk
    refine rules_cons (n := 38) (ds := [some 27, some 28, some 29, some 30, some 31, some 32, some 33, some 34, some 35, some 36, some 37, some 38, some 39, some 40, some 41, some 42, some 43, some 44, some 45, some 46, some 47, some 48, some 49, some 50, some 51, some 52, some 53, some 54, some 55, some 56, some 57, some 58, some 59, some 60, some 61, some 62, some 63, some 64]) (by kernel_rfl) (by kernel_rfl) [3] rfl (by kernel_rfl) ?_ ?_
    · intro x wq hx hS hdep K hK
      obtain ⟨x0, x1, x2, x3, x4, x5, x6, x7, x8, x9, x10, x11, x12, x13, x14, x15, x16, x17, x18, x19, x20, x21, x22, x23, x24, x25, x26, x27, x28, x29, x30, x31, x32, x33, x34, x35, x36, x37, rfl⟩ := len38 hx
      obtain rfl : x3 = .pointer (some ⟨b, 0, none⟩) := hdep 3 (by simp)
      have s0 := hS.1
      have sA := hS.2
      clear hdep hx hS
      simp only [putD, Act.put, List.setIfInBounds_toArray, List.set_cons_zero, List.set_cons_succ]
      have c0 := HC.out wq sA.out
      go_simp
      have hk := hK.out (.slice (some ⟨ga, 0, none⟩) n ca) _ (Adds.refl wq) ⟨s0, sA⟩ rfl (fun _ _ _ _ => ⟨trivial, trivial⟩)
      simp only [putD, Act.put, List.setIfInBounds_toArray, List.set_cons_zero, List.set_cons_succ] at hk
      exact hk
    refine rules_cons (n := 38) (ds := [some 27, some 28, some 29, some 30, some 31, some 32, some 33, some 34, some 35, some 36, some 37, some 38, some 39, some 40, some 41, some 42, some 43, some 44, some 45, some 46, some 47, some 48, some 49, some 50, some 51, some 52, some 53, some 54, some 55, some 56, some 57, some 58, some 59, some 60, some 61, some 62, some 63, some 64]) (by kernel_rfl) (by kernel_rfl) [] rfl (by kernel_rfl) ?_ ?_
    · intro x wq hx hS hdep K hK
      obtain ⟨x0, x1, x2, x3, x4, x5, x6, x7, x8, x9, x10, x11, x12, x13, x14, x15, x16, x17, x18, x19, x20, x21, x22, x23, x24, x25, x26, x27, x28, x29, x30, x31, x32, x33, x34, x35, x36, x37, rfl⟩ := len38 hx
      have s0 := hS.1
      have sA := hS.2
      clear hdep hx hS
      simp only [putD, Act.put, List.setIfInBounds_toArray, List.set_cons_zero, List.set_cons_succ]
      go_simp
      have hk := hK.out (.pointer (some ⟨s, 0, none⟩)) _ (Adds.refl wq) ⟨s0, sA⟩ rfl (fun _ _ _ _ => ⟨trivial, trivial⟩)
      simp only [putD, Act.put, List.setIfInBounds_toArray, List.set_cons_zero, List.set_cons_succ] at hk
      exact hk
    refine rules_cons (n := 38) (ds := [some 27, some 28, some 29, some 30, some 31, some 32, some 33, some 34, some 35, some 36, some 37, some 38, some 39, some 40, some 41, some 42, some 43, some 44, some 45, some 46, some 47, some 48, some 49, some 50, some 51, some 52, some 53, some 54, some 55, some 56, some 57, some 58, some 59, some 60, some 61, some 62, some 63, some 64]) (by kernel_rfl) (by kernel_rfl) [5] rfl (by kernel_rfl) ?_ ?_
    · intro x wq hx hS hdep K hK
      obtain ⟨x0, x1, x2, x3, x4, x5, x6, x7, x8, x9, x10, x11, x12, x13, x14, x15, x16, x17, x18, x19, x20, x21, x22, x23, x24, x25, x26, x27, x28, x29, x30, x31, x32, x33, x34, x35, x36, x37, rfl⟩ := len38 hx
      obtain rfl : x5 = .pointer (some ⟨s, 0, none⟩) := hdep 5 (by simp)
      have s0 := hS.1
      have sA := hS.2
      clear hdep hx hS
      simp only [putD, Act.put, List.setIfInBounds_toArray, List.set_cons_zero, List.set_cons_succ]
      have dd : wq.cell? ⟨s, 0, none⟩ = some (.int .i64 ((iu : Int) + 1)) := s0.out.cell 0
      go_simp
      have hk := hK.out (.int .i64 ((iu : Int) + 1)) _ (Adds.refl wq) ⟨s0, sA⟩ rfl (fun _ _ _ _ => ⟨trivial, trivial⟩)
      simp only [putD, Act.put, List.setIfInBounds_toArray, List.set_cons_zero, List.set_cons_succ] at hk
      exact hk
    refine rules_cons (n := 38) (ds := [some 27, some 28, some 29, some 30, some 31, some 32, some 33, some 34, some 35, some 36, some 37, some 38, some 39, some 40, some 41, some 42, some 43, some 44, some 45, some 46, some 47, some 48, some 49, some 50, some 51, some 52, some 53, some 54, some 55, some 56, some 57, some 58, some 59, some 60, some 61, some 62, some 63, some 64]) (by kernel_rfl) (by kernel_rfl) [6] rfl (by kernel_rfl) ?_ ?_
    · intro x wq hx hS hdep K hK
      obtain ⟨x0, x1, x2, x3, x4, x5, x6, x7, x8, x9, x10, x11, x12, x13, x14, x15, x16, x17, x18, x19, x20, x21, x22, x23, x24, x25, x26, x27, x28, x29, x30, x31, x32, x33, x34, x35, x36, x37, rfl⟩ := len38 hx
      obtain rfl : x6 = .int .i64 ((iu : Int) + 1) := hdep 6 (by simp)
      have s0 := hS.1
      have sA := hS.2
      clear hdep hx hS
      simp only [putD, Act.put, List.setIfInBounds_toArray, List.set_cons_zero, List.set_cons_succ]
      go_simp
      have hk := hK.out (.int .i64 (iu : Int)) _ (Adds.refl wq) ⟨s0, sA⟩ rfl (fun _ _ _ _ => ⟨trivial, trivial⟩)
      simp only [putD, Act.put, List.setIfInBounds_toArray, List.set_cons_zero, List.set_cons_succ] at hk
      exact hk
    refine rules_cons (n := 38) (ds := [some 27, some 28, some 29, some 30, some 31, some 32, some 33, some 34, some 35, some 36, some 37, some 38, some 39, some 40, some 41, some 42, some 43, some 44, some 45, some 46, some 47, some 48, some 49, some 50, some 51, some 52, some 53, some 54, some 55, some 56, some 57, some 58, some 59, some 60, some 61, some 62, some 63, some 64]) (by kernel_rfl) (by kernel_rfl) [4, 7] rfl (by kernel_rfl) ?_ ?_
    · intro x wq hx hS hdep K hK
      obtain ⟨x0, x1, x2, x3, x4, x5, x6, x7, x8, x9, x10, x11, x12, x13, x14, x15, x16, x17, x18, x19, x20, x21, x22, x23, x24, x25, x26, x27, x28, x29, x30, x31, x32, x33, x34, x35, x36, x37, rfl⟩ := len38 hx
      obtain rfl : x4 = .slice (some ⟨ga, 0, none⟩) n ca := hdep 4 (by simp)
      obtain rfl : x7 = .int .i64 (iu : Int) := hdep 7 (by simp)
      have s0 := hS.1
      have sA := hS.2
      clear hdep hx hS
      simp only [putD, Act.put, List.setIfInBounds_toArray, List.set_cons_zero, List.set_cons_succ]
      go_simp
      have hk := hK.out (.pointer (some ⟨ga, iu * 15, none⟩)) _ (Adds.refl wq) ⟨s0, sA⟩ rfl (fun _ _ _ _ => ⟨trivial, trivial⟩)
      simp only [putD, Act.put, List.setIfInBounds_toArray, List.set_cons_zero, List.set_cons_succ] at hk
      exact hk
    refine rules_cons (n := 38) (ds := [some 27, some 28, some 29, some 30, some 31, some 32, some 33, some 34, some 35, some 36, some 37, some 38, some 39, some 40, some 41, some 42, some 43, some 44, some 45, some 46, some 47, some 48, some 49, some 50, some 51, some 52, some 53, some 54, some 55, some 56, some 57, some 58, some 59, some 60, some 61, some 62, some 63, some 64]) (by kernel_rfl) (by kernel_rfl) [8] rfl (by kernel_rfl) ?_ ?_
    · intro x wq hx hS hdep K hK
      obtain ⟨x0, x1, x2, x3, x4, x5, x6, x7, x8, x9, x10, x11, x12, x13, x14, x15, x16, x17, x18, x19, x20, x21, x22, x23, x24, x25, x26, x27, x28, x29, x30, x31, x32, x33, x34, x35, x36, x37, rfl⟩ := len38 hx
      obtain rfl : x8 = .pointer (some ⟨ga, iu * 15, none⟩) := hdep 8 (by simp)
      have s0 := hS.1
      have sA := hS.2
      clear hdep hx hS
      simp only [putD, Act.put, List.setIfInBounds_toArray, List.set_cons_zero, List.set_cons_succ]
      refine wp_load_mid 72 _ rfl ga (iu * 15) rfl (encA a1) _ (HR1.out wq sA.out) Try.underlying72 rfl (by rw [info_acc, encA_len]) ?_
      have hk := hK.out (.agg (encA a1).toArray) _ (Adds.refl wq) ⟨s0, sA⟩ rfl (fun _ _ _ _ => ⟨trivial, trivial⟩)
      simp only [putD, Act.put, List.setIfInBounds_toArray, List.set_cons_zero, List.set_cons_succ] at hk
      exact hk
    refine rules_cons (n := 38) (ds := [some 27, some 28, some 29, some 30, some 31, some 32, some 33, some 34, some 35, some 36, some 37, some 38, some 39, some 40, some 41, some 42, some 43, some 44, some 45, some 46, some 47, some 48, some 49, some 50, some 51, some 52, some 53, some 54, some 55, some 56, some 57, some 58, some 59, some 60, some 61, some 62, some 63, some 64]) (by kernel_rfl) (by kernel_rfl) [] rfl (by kernel_rfl) ?_ ?_
    · intro x wq hx hS hdep K hK
      obtain ⟨x0, x1, x2, x3, x4, x5, x6, x7, x8, x9, x10, x11, x12, x13, x14, x15, x16, x17, x18, x19, x20, x21, x22, x23, x24, x25, x26, x27, x28, x29, x30, x31, x32, x33, x34, x35, x36, x37, rfl⟩ := len38 hx
      have s0 := hS.1
      have sA := hS.2
      clear hdep hx hS
      simp only [putD, Act.put, List.setIfInBounds_toArray, List.set_cons_zero, List.set_cons_succ]
      go_simp
      have hk := hK.out (.pointer (some ⟨s, 2, none⟩)) _ (Adds.refl wq) ⟨s0, sA⟩ rfl (fun _ _ _ _ => ⟨trivial, trivial⟩)
      simp only [putD, Act.put, List.setIfInBounds_toArray, List.set_cons_zero, List.set_cons_succ] at hk
      exact hk
    refine rules_cons (n := 38) (ds := [some 27, some 28, some 29, some 30, some 31, some 32, some 33, some 34, some 35, some 36, some 37, some 38, some 39, some 40, some 41, some 42, some 43, some 44, some 45, some 46, some 47, some 48, some 49, some 50, some 51, some 52, some 53, some 54, some 55, some 56, some 57, some 58, some 59, some 60, some 61, some 62, some 63, some 64]) (by kernel_rfl) (by kernel_rfl) [10] rfl (by kernel_rfl) ?_ ?_
    · intro x wq hx hS hdep K hK
      obtain ⟨x0, x1, x2, x3, x4, x5, x6, x7, x8, x9, x10, x11, x12, x13, x14, x15, x16, x17, x18, x19, x20, x21, x22, x23, x24, x25, x26, x27, x28, x29, x30, x31, x32, x33, x34, x35, x36, x37, rfl⟩ := len38 hx
      obtain rfl : x10 = .pointer (some ⟨s, 2, none⟩) := hdep 10 (by simp)
      have s0 := hS.1
      have sA := hS.2
      clear hdep hx hS
      simp only [putD, Act.put, List.setIfInBounds_toArray, List.set_cons_zero, List.set_cons_succ]
      have dd : wq.cell? ⟨s, 2, none⟩ = some (.int .i64 (m : Int)) := s0.out.cell 2
      go_simp
      have hk := hK.out (.int .i64 (m : Int)) _ (Adds.refl wq) ⟨s0, sA⟩ rfl (fun _ _ _ _ => ⟨trivial, trivial⟩)
      simp only [putD, Act.put, List.setIfInBounds_toArray, List.set_cons_zero, List.set_cons_succ] at hk
      exact hk
    refine rules_cons (n := 38) (ds := [some 27, some 28, some 29, some 30, some 31, some 32, some 33, some 34, some 35, some 36, some 37, some 38, some 39, some 40, some 41, some 42, some 43, some 44, some 45, some 46, some 47, some 48, some 49, some 50, some 51, some 52, some 53, some 54, some 55, some 56, some 57, some 58, some 59, some 60, some 61, some 62, some 63, some 64]) (by kernel_rfl) (by kernel_rfl) [] rfl (by kernel_rfl) ?_ ?_
    · intro x wq hx hS hdep K hK
      obtain ⟨x0, x1, x2, x3, x4, x5, x6, x7, x8, x9, x10, x11, x12, x13, x14, x15, x16, x17, x18, x19, x20, x21, x22, x23, x24, x25, x26, x27, x28, x29, x30, x31, x32, x33, x34, x35, x36, x37, rfl⟩ := len38 hx
      have s0 := hS.1
      have sA := hS.2
      clear hdep hx hS
      simp only [putD, Act.put, List.setIfInBounds_toArray, List.set_cons_zero, List.set_cons_succ]
      go_simp
      have hk := hK.out (.pointer (some ⟨s, 3, none⟩)) _ (Adds.refl wq) ⟨s0, sA⟩ rfl (fun _ _ _ _ => ⟨trivial, trivial⟩)
      simp only [putD, Act.put, List.setIfInBounds_toArray, List.set_cons_zero, List.set_cons_succ] at hk
      exact hk
    refine rules_cons (n := 38) (ds := [some 27, some 28, some 29, some 30, some 31, some 32, some 33, some 34, some 35, some 36, some 37, some 38, some 39, some 40, some 41, some 42, some 43, some 44, some 45, some 46, some 47, some 48, some 49, some 50, some 51, some 52, some 53, some 54, some 55, some 56, some 57, some 58, some 59, some 60, some 61, some 62, some 63, some 64]) (by kernel_rfl) (by kernel_rfl) [12] rfl (by kernel_rfl) ?_ ?_
    · intro x wq hx hS hdep K hK
      obtain ⟨x0, x1, x2, x3, x4, x5, x6, x7, x8, x9, x10, x11, x12, x13, x14, x15, x16, x17, x18, x19, x20, x21, x22, x23, x24, x25, x26, x27, x28, x29, x30, x31, x32, x33, x34, x35, x36, x37, rfl⟩ := len38 hx
      obtain rfl : x12 = .pointer (some ⟨s, 3, none⟩) := hdep 12 (by simp)
      have s0 := hS.1
      have sA := hS.2
      clear hdep hx hS
      simp only [putD, Act.put, List.setIfInBounds_toArray, List.set_cons_zero, List.set_cons_succ]
      have dd : wq.cell? ⟨s, 3, none⟩ = some (.int .i64 q) := s0.out.cell 3
      go_simp
      have hk := hK.out (.int .i64 q) _ (Adds.refl wq) ⟨s0, sA⟩ rfl (fun _ _ _ _ => ⟨trivial, trivial⟩)
      simp only [putD, Act.put, List.setIfInBounds_toArray, List.set_cons_zero, List.set_cons_succ] at hk
      exact hk
    refine rules_cons (n := 38) (ds := [some 27, some 28, some 29, some 30, some 31, some 32, some 33, some 34, some 35, some 36, some 37, some 38, some 39, some 40, some 41, some 42, some 43, some 44, some 45, some 46, some 47, some 48, some 49, some 50, some 51, some 52, some 53, some 54, some 55, some 56, some 57, some 58, some 59, some 60, some 61, some 62, some 63, some 64]) (by kernel_rfl) (by kernel_rfl) [] rfl (by kernel_rfl) ?_ ?_
    · intro x wq hx hS hdep K hK
      obtain ⟨x0, x1, x2, x3, x4, x5, x6, x7, x8, x9, x10, x11, x12, x13, x14, x15, x16, x17, x18, x19, x20, x21, x22, x23, x24, x25, x26, x27, x28, x29, x30, x31, x32, x33, x34, x35, x36, x37, rfl⟩ := len38 hx
      have s0 := hS.1
      have sA := hS.2
      clear hdep hx hS
      simp only [putD, Act.put, List.setIfInBounds_toArray, List.set_cons_zero, List.set_cons_succ]
      go_simp
      have hk := hK.out (.int .i64 g) _ (Adds.refl wq) ⟨s0, sA⟩ rfl (fun _ _ _ _ => ⟨trivial, trivial⟩)
      simp only [putD, Act.put, List.setIfInBounds_toArray, List.set_cons_zero, List.set_cons_succ] at hk
      exact hk
    refine rules_cons (n := 38) (ds := [some 27, some 28, some 29, some 30, some 31, some 32, some 33, some 34, some 35, some 36, some 37, some 38, some 39, some 40, some 41, some 42, some 43, some 44, some 45, some 46, some 47, some 48, some 49, some 50, some 51, some 52, some 53, some 54, some 55, some 56, some 57, some 58, some 59, some 60, some 61, some 62, some 63, some 64]) (by kernel_rfl) (by kernel_rfl) [0, 9, 11, 13, 14] rfl (by kernel_rfl) ?_ ?_
    · intro x wq hx hS hdep K hK
      obtain ⟨x0, x1, x2, x3, x4, x5, x6, x7, x8, x9, x10, x11, x12, x13, x14, x15, x16, x17, x18, x19, x20, x21, x22, x23, x24, x25, x26, x27, x28, x29, x30, x31, x32, x33, x34, x35, x36, x37, rfl⟩ := len38 hx
      obtain rfl : x0 = .pointer (some ⟨b, 0, none⟩) := hdep 0 (by simp)
      obtain rfl : x9 = .agg (encA a1).toArray := hdep 9 (by simp)
      obtain rfl : x11 = .int .i64 (m : Int) := hdep 11 (by simp)
      obtain rfl : x13 = .int .i64 q := hdep 13 (by simp)
      obtain rfl : x14 = .int .i64 g := hdep 14 (by simp)
      have s0 := hS.1
      have sA := hS.2
      clear hdep hx hS
      simp only [putD, Act.put, List.setIfInBounds_toArray, List.set_cons_zero, List.set_cons_succ]
      go_simp
      go_at_call 24
      refine (HA1.out _ sA.out).mono ?_
      rintro e w1 ⟨rfl, ha⟩
      have hk := hK.out (.bool true) _ ha ⟨Lib.hid (s0.out.later ha), Lib.hid (sA.out.trans ha)⟩ rfl (fun _ _ _ _ => ⟨trivial, trivial⟩)
      simp only [putD, Act.put, List.setIfInBounds_toArray, List.set_cons_zero, List.set_cons_succ] at hk
      exact hk
    refine rules_cons (n := 38) (ds := [some 27, some 28, some 29, some 30, some 31, some 32, some 33, some 34, some 35, some 36, some 37, some 38, some 39, some 40, some 41, some 42, some 43, some 44, some 45, some 46, some 47, some 48, some 49, some 50, some 51, some 52, some 53, some 54, some 55, some 56, some 57, some 58, some 59, some 60, some 61, some 62, some 63, some 64]) (by kernel_rfl) (by kernel_rfl) [15] rfl (by kernel_rfl) ?_ ?_
    · intro x wq hx hS hdep K hK
      obtain ⟨x0, x1, x2, x3, x4, x5, x6, x7, x8, x9, x10, x11, x12, x13, x14, x15, x16, x17, x18, x19, x20, x21, x22, x23, x24, x25, x26, x27, x28, x29, x30, x31, x32, x33, x34, x35, x36, x37, rfl⟩ := len38 hx
      obtain rfl : x15 = .bool true := hdep 15 (by simp)
      have s0 := hS.1
      have sA := hS.2
      clear hdep hx hS
      simp only [putD, Act.put, List.setIfInBounds_toArray, List.set_cons_zero, List.set_cons_succ]
      go_simp
      have hk := hK.out (.bool false) _ (Adds.refl wq) ⟨s0, sA⟩ rfl (fun _ _ _ _ => ⟨trivial, trivial⟩)
      simp only [putD, Act.put, List.setIfInBounds_toArray, List.set_cons_zero, List.set_cons_succ] at hk
      exact hk
    refine rules_cons (n := 38) (ds := [some 27, some 28, some 29, some 30, some 31, some 32, some 33, some 34, some 35, some 36, some 37, some 38, some 39, some 40, some 41, some 42, some 43, some 44, some 45, some 46, some 47, some 48, some 49, some 50, some 51, some 52, some 53, some 54, some 55, some 56, some 57, some 58, some 59, some 60, some 61, some 62, some 63, some 64]) (by kernel_rfl) (by kernel_rfl) [16] rfl (by kernel_rfl) ?_ ?_
    · intro x wq hx hS hdep K hK
      obtain ⟨x0, x1, x2, x3, x4, x5, x6, x7, x8, x9, x10, x11, x12, x13, x14, x15, x16, x17, x18, x19, x20, x21, x22, x23, x24, x25, x26, x27, x28, x29, x30, x31, x32, x33, x34, x35, x36, x37, rfl⟩ := len38 hx
      obtain rfl : x16 = .bool false := hdep 16 (by simp)
      have s0 := hS.1
      have sA := hS.2
      clear hdep hx hS
      simp only [putD, Act.put, List.setIfInBounds_toArray, List.set_cons_zero, List.set_cons_succ]
      go_simp
      have hk := hK.out (.bool false) _ (Adds.refl wq) ⟨s0, sA⟩ rfl (fun _ _ _ _ => ⟨trivial, trivial⟩)
      simp only [putD, Act.put, List.setIfInBounds_toArray, List.set_cons_zero, List.set_cons_succ] at hk
      exact hk
    refine rules_wanted (n := 38) (ds := [some 27, some 28, some 29, some 30, some 31, some 32, some 33, some 34, some 35, some 36, some 37, some 38, some 39, some 40, some 41, some 42, some 43, some 44, some 45, some 46, some 47, some 48, some 49, some 50, some 51, some 52, some 53, some 54, some 55, some 56, some 57, some 58, some 59, some 60, some 61, some 62, some 63, some 64]) (by kernel_rfl) (by kernel_rfl) [17] (by kernel_rfl) (fun x wq hx hS hdep => by obtain ⟨x0, x1, x2, x3, x4, x5, x6, x7, x8, x9, x10, x11, x12, x13, x14, x15, x16, x17, x18, x19, x20, x21, x22, x23, x24, x25, x26, x27, x28, x29, x30, x31, x32, x33, x34, x35, x36, x37, rfl⟩ := len38 hx; obtain rfl : x17 = .bool false := hdep 17 (by simp); exact (wanted_val (g := 17) (d := 44) rfl (by kernel_rfl) (by simp only [putD, Act.put, List.setIfInBounds_toArray, List.set_cons_zero, List.set_cons_succ]; rfl)).trans rfl) ?_ ?_
    · intro x wq hx hS hdep K hK
      obtain ⟨x0, x1, x2, x3, x4, x5, x6, x7, x8, x9, x10, x11, x12, x13, x14, x15, x16, x17, x18, x19, x20, x21, x22, x23, x24, x25, x26, x27, x28, x29, x30, x31, x32, x33, x34, x35, x36, x37, rfl⟩ := len38 hx
      obtain rfl : x17 = .bool false := hdep 17 (by simp)
      have s0 := hS.1
      have sA := hS.2
      clear hdep hx hS
      simp only [putD, Act.put, List.setIfInBounds_toArray, List.set_cons_zero, List.set_cons_succ]
      go_simp
      have hk := hK.out (.pointer (some ⟨b, 0, none⟩)) _ (Adds.refl wq) ⟨s0, sA⟩ rfl (fun _ _ _ _ => ⟨trivial, trivial⟩)
      simp only [putD, Act.put, List.setIfInBounds_toArray, List.set_cons_zero, List.set_cons_succ] at hk
      exact hk
    refine rules_wanted (n := 38) (ds := [some 27, some 28, some 29, some 30, some 31, some 32, some 33, some 34, some 35, some 36, some 37, some 38, some 39, some 40, some 41, some 42, some 43, some 44, some 45, some 46, some 47, some 48, some 49, some 50, some 51, some 52, some 53, some 54, some 55, some 56, some 57, some 58, some 59, some 60, some 61, some 62, some 63, some 64]) (by kernel_rfl) (by kernel_rfl) [17] (by kernel_rfl) (fun x wq hx hS hdep => by obtain ⟨x0, x1, x2, x3, x4, x5, x6, x7, x8, x9, x10, x11, x12, x13, x14, x15, x16, x17, x18, x19, x20, x21, x22, x23, x24, x25, x26, x27, x28, x29, x30, x31, x32, x33, x34, x35, x36, x37, rfl⟩ := len38 hx; obtain rfl : x17 = .bool false := hdep 17 (by simp); exact (wanted_val (g := 17) (d := 44) rfl (by kernel_rfl) (by simp only [putD, Act.put, List.setIfInBounds_toArray, List.set_cons_zero, List.set_cons_succ]; rfl)).trans rfl) ?_ ?_
    · intro x wq hx hS hdep K hK
      obtain ⟨x0, x1, x2, x3, x4, x5, x6, x7, x8, x9, x10, x11, x12, x13, x14, x15, x16, x17, x18, x19, x20, x21, x22, x23, x24, x25, x26, x27, x28, x29, x30, x31, x32, x33, x34, x35, x36, x37, rfl⟩ := len38 hx
      obtain rfl : x17 = .bool false := hdep 17 (by simp)
      have s0 := hS.1
      have sA := hS.2
      clear hdep hx hS
      simp only [putD, Act.put, List.setIfInBounds_toArray, List.set_cons_zero, List.set_cons_succ]
      go_simp
      have hk := hK.out (.pointer (some ⟨b, 0, none⟩)) _ (Adds.refl wq) ⟨s0, sA⟩ rfl (fun _ _ _ _ => ⟨trivial, trivial⟩)
      simp only [putD, Act.put, List.setIfInBounds_toArray, List.set_cons_zero, List.set_cons_succ] at hk
      exact hk
    refine rules_wanted (n := 38) (ds := [some 27, some 28, some 29, some 30, some 31, some 32, some 33, some 34, some 35, some 36, some 37, some 38, some 39, some 40, some 41, some 42, some 43, some 44, some 45, some 46, some 47, some 48, some 49, some 50, some 51, some 52, some 53, some 54, some 55, some 56, some 57, some 58, some 59, some 60, some 61, some 62, some 63, some 64]) (by kernel_rfl) (by kernel_rfl) [17, 19] (by kernel_rfl) (fun x wq hx hS hdep => by obtain ⟨x0, x1, x2, x3, x4, x5, x6, x7, x8, x9, x10, x11, x12, x13, x14, x15, x16, x17, x18, x19, x20, x21, x22, x23, x24, x25, x26, x27, x28, x29, x30, x31, x32, x33, x34, x35, x36, x37, rfl⟩ := len38 hx; obtain rfl : x17 = .bool false := hdep 17 (by simp); exact (wanted_val (g := 17) (d := 44) rfl (by kernel_rfl) (by simp only [putD, Act.put, List.setIfInBounds_toArray, List.set_cons_zero, List.set_cons_succ]; rfl)).trans rfl) ?_ ?_
    · intro x wq hx hS hdep K hK
      obtain ⟨x0, x1, x2, x3, x4, x5, x6, x7, x8, x9, x10, x11, x12, x13, x14, x15, x16, x17, x18, x19, x20, x21, x22, x23, x24, x25, x26, x27, x28, x29, x30, x31, x32, x33, x34, x35, x36, x37, rfl⟩ := len38 hx
      obtain rfl : x17 = .bool false := hdep 17 (by simp)
      obtain rfl : x19 = .pointer (some ⟨b, 0, none⟩) := hdep 19 (by simp)
      have s0 := hS.1
      have sA := hS.2
      clear hdep hx hS
      simp only [putD, Act.put, List.setIfInBounds_toArray, List.set_cons_zero, List.set_cons_succ]
      go_simp
      have hk := hK.out (.pointer (some ⟨b, 0, none⟩)) _ (Adds.refl wq) ⟨s0, sA⟩ rfl (fun _ _ _ _ => ⟨trivial, trivial⟩)
      simp only [putD, Act.put, List.setIfInBounds_toArray, List.set_cons_zero, List.set_cons_succ] at hk
      exact hk
    refine rules_wanted (n := 38) (ds := [some 27, some 28, some 29, some 30, some 31, some 32, some 33, some 34, some 35, some 36, some 37, some 38, some 39, some 40, some 41, some 42, some 43, some 44, some 45, some 46, some 47, some 48, some 49, some 50, some 51, some 52, some 53, some 54, some 55, some 56, some 57, some 58, some 59, some 60, some 61, some 62, some 63, some 64]) (by kernel_rfl) (by kernel_rfl) [17, 20] (by kernel_rfl) (fun x wq hx hS hdep => by obtain ⟨x0, x1, x2, x3, x4, x5, x6, x7, x8, x9, x10, x11, x12, x13, x14, x15, x16, x17, x18, x19, x20, x21, x22, x23, x24, x25, x26, x27, x28, x29, x30, x31, x32, x33, x34, x35, x36, x37, rfl⟩ := len38 hx; obtain rfl : x17 = .bool false := hdep 17 (by simp); exact (wanted_val (g := 17) (d := 44) rfl (by kernel_rfl) (by simp only [putD, Act.put, List.setIfInBounds_toArray, List.set_cons_zero, List.set_cons_succ]; rfl)).trans rfl) ?_ ?_
    · intro x wq hx hS hdep K hK
      obtain ⟨x0, x1, x2, x3, x4, x5, x6, x7, x8, x9, x10, x11, x12, x13, x14, x15, x16, x17, x18, x19, x20, x21, x22, x23, x24, x25, x26, x27, x28, x29, x30, x31, x32, x33, x34, x35, x36, x37, rfl⟩ := len38 hx
      obtain rfl : x17 = .bool false := hdep 17 (by simp)
      obtain rfl : x20 = .pointer (some ⟨b, 0, none⟩) := hdep 20 (by simp)
      have s0 := hS.1
      have sA := hS.2
      clear hdep hx hS
      simp only [putD, Act.put, List.setIfInBounds_toArray, List.set_cons_zero, List.set_cons_succ]
      go_simp
      have hk := hK.out (.pointer (some ⟨b, 0, none⟩)) _ (Adds.refl wq) ⟨s0, sA⟩ rfl (fun _ _ _ _ => ⟨trivial, trivial⟩)
      simp only [putD, Act.put, List.setIfInBounds_toArray, List.set_cons_zero, List.set_cons_succ] at hk
      exact hk
    refine rules_wanted (n := 38) (ds := [some 27, some 28, some 29, some 30, some 31, some 32, some 33, some 34, some 35, some 36, some 37, some 38, some 39, some 40, some 41, some 42, some 43, some 44, some 45, some 46, some 47, some 48, some 49, some 50, some 51, some 52, some 53, some 54, some 55, some 56, some 57, some 58, some 59, some 60, some 61, some 62, some 63, some 64]) (by kernel_rfl) (by kernel_rfl) [17, 21] (by kernel_rfl) (fun x wq hx hS hdep => by obtain ⟨x0, x1, x2, x3, x4, x5, x6, x7, x8, x9, x10, x11, x12, x13, x14, x15, x16, x17, x18, x19, x20, x21, x22, x23, x24, x25, x26, x27, x28, x29, x30, x31, x32, x33, x34, x35, x36, x37, rfl⟩ := len38 hx; obtain rfl : x17 = .bool false := hdep 17 (by simp); exact (wanted_val (g := 17) (d := 44) rfl (by kernel_rfl) (by simp only [putD, Act.put, List.setIfInBounds_toArray, List.set_cons_zero, List.set_cons_succ]; rfl)).trans rfl) ?_ ?_
    · intro x wq hx hS hdep K hK
      obtain ⟨x0, x1, x2, x3, x4, x5, x6, x7, x8, x9, x10, x11, x12, x13, x14, x15, x16, x17, x18, x19, x20, x21, x22, x23, x24, x25, x26, x27, x28, x29, x30, x31, x32, x33, x34, x35, x36, x37, rfl⟩ := len38 hx
      obtain rfl : x17 = .bool false := hdep 17 (by simp)
      obtain rfl : x21 = .pointer (some ⟨b, 0, none⟩) := hdep 21 (by simp)
      have s0 := hS.1
      have sA := hS.2
      clear hdep hx hS
      simp only [putD, Act.put, List.setIfInBounds_toArray, List.set_cons_zero, List.set_cons_succ]
      have c0 := HC.out wq sA.out
      go_simp
      have hk := hK.out (.slice (some ⟨ga, 0, none⟩) n ca) _ (Adds.refl wq) ⟨s0, sA⟩ rfl (fun _ _ _ _ => ⟨trivial, trivial⟩)
      simp only [putD, Act.put, List.setIfInBounds_toArray, List.set_cons_zero, List.set_cons_succ] at hk
      exact hk
    refine rules_wanted (n := 38) (ds := [some 27, some 28, some 29, some 30, some 31, some 32, some 33, some 34, some 35, some 36, some 37, some 38, some 39, some 40, some 41, some 42, some 43, some 44, some 45, some 46, some 47, some 48, some 49, some 50, some 51, some 52, some 53, some 54, some 55, some 56, some 57, some 58, some 59, some 60, some 61, some 62, some 63, some 64]) (by kernel_rfl) (by kernel_rfl) [17] (by kernel_rfl) (fun x wq hx hS hdep => by obtain ⟨x0, x1, x2, x3, x4, x5, x6, x7, x8, x9, x10, x11, x12, x13, x14, x15, x16, x17, x18, x19, x20, x21, x22, x23, x24, x25, x26, x27, x28, x29, x30, x31, x32, x33, x34, x35, x36, x37, rfl⟩ := len38 hx; obtain rfl : x17 = .bool false := hdep 17 (by simp); exact (wanted_val (g := 17) (d := 44) rfl (by kernel_rfl) (by simp only [putD, Act.put, List.setIfInBounds_toArray, List.set_cons_zero, List.set_cons_succ]; rfl)).trans rfl) ?_ ?_
    · intro x wq hx hS hdep K hK
      obtain ⟨x0, x1, x2, x3, x4, x5, x6, x7, x8, x9, x10, x11, x12, x13, x14, x15, x16, x17, x18, x19, x20, x21, x22, x23, x24, x25, x26, x27, x28, x29, x30, x31, x32, x33, x34, x35, x36, x37, rfl⟩ := len38 hx
      obtain rfl : x17 = .bool false := hdep 17 (by simp)
      have s0 := hS.1
      have sA := hS.2
      clear hdep hx hS
      simp only [putD, Act.put, List.setIfInBounds_toArray, List.set_cons_zero, List.set_cons_succ]
      go_simp
      have hk := hK.out (.pointer (some ⟨s, 1, none⟩)) _ (Adds.refl wq) ⟨s0, sA⟩ rfl (fun _ _ _ _ => ⟨trivial, trivial⟩)
      simp only [putD, Act.put, List.setIfInBounds_toArray, List.set_cons_zero, List.set_cons_succ] at hk
      exact hk
    refine rules_wanted (n := 38) (ds := [some 27, some 28, some 29, some 30, some 31, some 32, some 33, some 34, some 35, some 36, some 37, some 38, some 39, some 40, some 41, some 42, some 43, some 44, some 45, some 46, some 47, some 48, some 49, some 50, some 51, some 52, some 53, some 54, some 55, some 56, some 57, some 58, some 59, some 60, some 61, some 62, some 63, some 64]) (by kernel_rfl) (by kernel_rfl) [17, 23] (by kernel_rfl) (fun x wq hx hS hdep => by obtain ⟨x0, x1, x2, x3, x4, x5, x6, x7, x8, x9, x10, x11, x12, x13, x14, x15, x16, x17, x18, x19, x20, x21, x22, x23, x24, x25, x26, x27, x28, x29, x30, x31, x32, x33, x34, x35, x36, x37, rfl⟩ := len38 hx; obtain rfl : x17 = .bool false := hdep 17 (by simp); exact (wanted_val (g := 17) (d := 44) rfl (by kernel_rfl) (by simp only [putD, Act.put, List.setIfInBounds_toArray, List.set_cons_zero, List.set_cons_succ]; rfl)).trans rfl) ?_ ?_
    · intro x wq hx hS hdep K hK
      obtain ⟨x0, x1, x2, x3, x4, x5, x6, x7, x8, x9, x10, x11, x12, x13, x14, x15, x16, x17, x18, x19, x20, x21, x22, x23, x24, x25, x26, x27, x28, x29, x30, x31, x32, x33, x34, x35, x36, x37, rfl⟩ := len38 hx
      obtain rfl : x17 = .bool false := hdep 17 (by simp)
      obtain rfl : x23 = .pointer (some ⟨s, 1, none⟩) := hdep 23 (by simp)
      have s0 := hS.1
      have sA := hS.2
      clear hdep hx hS
      simp only [putD, Act.put, List.setIfInBounds_toArray, List.set_cons_zero, List.set_cons_succ]
      have dd : wq.cell? ⟨s, 1, none⟩ = some (.int .i64 ((ju : Int) + 1)) := s0.out.cell 1
      go_simp
      have hk := hK.out (.int .i64 ((ju : Int) + 1)) _ (Adds.refl wq) ⟨s0, sA⟩ rfl (fun _ _ _ _ => ⟨trivial, trivial⟩)
      simp only [putD, Act.put, List.setIfInBounds_toArray, List.set_cons_zero, List.set_cons_succ] at hk
      exact hk
    refine rules_wanted (n := 38) (ds := [some 27, some 28, some 29, some 30, some 31, some 32, some 33, some 34, some 35, some 36, some 37, some 38, some 39, some 40, some 41, some 42, some 43, some 44, some 45, some 46, some 47, some 48, some 49, some 50, some 51, some 52, some 53, some 54, some 55, some 56, some 57, some 58, some 59, some 60, some 61, some 62, some 63, some 64]) (by kernel_rfl) (by kernel_rfl) [17, 24] (by kernel_rfl) (fun x wq hx hS hdep => by obtain ⟨x0, x1, x2, x3, x4, x5, x6, x7, x8, x9, x10, x11, x12, x13, x14, x15, x16, x17, x18, x19, x20, x21, x22, x23, x24, x25, x26, x27, x28, x29, x30, x31, x32, x33, x34, x35, x36, x37, rfl⟩ := len38 hx; obtain rfl : x17 = .bool false := hdep 17 (by simp); exact (wanted_val (g := 17) (d := 44) rfl (by kernel_rfl) (by simp only [putD, Act.put, List.setIfInBounds_toArray, List.set_cons_zero, List.set_cons_succ]; rfl)).trans rfl) ?_ ?_
    · intro x wq hx hS hdep K hK
      obtain ⟨x0, x1, x2, x3, x4, x5, x6, x7, x8, x9, x10, x11, x12, x13, x14, x15, x16, x17, x18, x19, x20, x21, x22, x23, x24, x25, x26, x27, x28, x29, x30, x31, x32, x33, x34, x35, x36, x37, rfl⟩ := len38 hx
      obtain rfl : x17 = .bool false := hdep 17 (by simp)
      obtain rfl : x24 = .int .i64 ((ju : Int) + 1) := hdep 24 (by simp)
      have s0 := hS.1
      have sA := hS.2
      clear hdep hx hS
      simp only [putD, Act.put, List.setIfInBounds_toArray, List.set_cons_zero, List.set_cons_succ]
      go_simp
      have hk := hK.out (.int .i64 (ju : Int)) _ (Adds.refl wq) ⟨s0, sA⟩ rfl (fun _ _ _ _ => ⟨trivial, trivial⟩)
      simp only [putD, Act.put, List.setIfInBounds_toArray, List.set_cons_zero, List.set_cons_succ] at hk
      exact hk
    refine rules_wanted (n := 38) (ds := [some 27, some 28, some 29, some 30, some 31, some 32, some 33, some 34, some 35, some 36, some 37, some 38, some 39, some 40, some 41, some 42, some 43, some 44, some 45, some 46, some 47, some 48, some 49, some 50, some 51, some 52, some 53, some 54, some 55, some 56, some 57, some 58, some 59, some 60, some 61, some 62, some 63, some 64]) (by kernel_rfl) (by kernel_rfl) [17, 22, 25] (by kernel_rfl) (fun x wq hx hS hdep => by obtain ⟨x0, x1, x2, x3, x4, x5, x6, x7, x8, x9, x10, x11, x12, x13, x14, x15, x16, x17, x18, x19, x20, x21, x22, x23, x24, x25, x26, x27, x28, x29, x30, x31, x32, x33, x34, x35, x36, x37, rfl⟩ := len38 hx; obtain rfl : x17 = .bool false := hdep 17 (by simp); exact (wanted_val (g := 17) (d := 44) rfl (by kernel_rfl) (by simp only [putD, Act.put, List.setIfInBounds_toArray, List.set_cons_zero, List.set_cons_succ]; rfl)).trans rfl) ?_ ?_
    · intro x wq hx hS hdep K hK
      obtain ⟨x0, x1, x2, x3, x4, x5, x6, x7, x8, x9, x10, x11, x12, x13, x14, x15, x16, x17, x18, x19, x20, x21, x22, x23, x24, x25, x26, x27, x28, x29, x30, x31, x32, x33, x34, x35, x36, x37, rfl⟩ := len38 hx
      obtain rfl : x17 = .bool false := hdep 17 (by simp)
      obtain rfl : x22 = .slice (some ⟨ga, 0, none⟩) n ca := hdep 22 (by simp)
      obtain rfl : x25 = .int .i64 (ju : Int) := hdep 25 (by simp)
      have s0 := hS.1
      have sA := hS.2
      clear hdep hx hS
      simp only [putD, Act.put, List.setIfInBounds_toArray, List.set_cons_zero, List.set_cons_succ]
      go_simp
      have hk := hK.out (.pointer (some ⟨ga, ju * 15, none⟩)) _ (Adds.refl wq) ⟨s0, sA⟩ rfl (fun _ _ _ _ => ⟨trivial, trivial⟩)
      simp only [putD, Act.put, List.setIfInBounds_toArray, List.set_cons_zero, List.set_cons_succ] at hk
      exact hk
    refine rules_wanted (n := 38) (ds := [some 27, some 28, some 29, some 30, some 31, some 32, some 33, some 34, some 35, some 36, some 37, some 38, some 39, some 40, some 41, some 42, some 43, some 44, some 45, some 46, some 47, some 48, some 49, some 50, some 51, some 52, some 53, some 54, some 55, some 56, some 57, some 58, some 59, some 60, some 61, some 62, some 63, some 64]) (by kernel_rfl) (by kernel_rfl) [17, 26] (by kernel_rfl) (fun x wq hx hS hdep => by obtain ⟨x0, x1, x2, x3, x4, x5, x6, x7, x8, x9, x10, x11, x12, x13, x14, x15, x16, x17, x18, x19, x20, x21, x22, x23, x24, x25, x26, x27, x28, x29, x30, x31, x32, x33, x34, x35, x36, x37, rfl⟩ := len38 hx; obtain rfl : x17 = .bool false := hdep 17 (by simp); exact (wanted_val (g := 17) (d := 44) rfl (by kernel_rfl) (by simp only [putD, Act.put, List.setIfInBounds_toArray, List.set_cons_zero, List.set_cons_succ]; rfl)).trans rfl) ?_ ?_
    · intro x wq hx hS hdep K hK
      obtain ⟨x0, x1, x2, x3, x4, x5, x6, x7, x8, x9, x10, x11, x12, x13, x14, x15, x16, x17, x18, x19, x20, x21, x22, x23, x24, x25, x26, x27, x28, x29, x30, x31, x32, x33, x34, x35, x36, x37, rfl⟩ := len38 hx
      obtain rfl : x17 = .bool false := hdep 17 (by simp)
      obtain rfl : x26 = .pointer (some ⟨ga, ju * 15, none⟩) := hdep 26 (by simp)
      have s0 := hS.1
      have sA := hS.2
      clear hdep hx hS
      simp only [putD, Act.put, List.setIfInBounds_toArray, List.set_cons_zero, List.set_cons_succ]
      refine wp_load_mid 72 _ rfl ga (ju * 15) rfl (encA a2) _ (HR2.out wq sA.out) Try.underlying72 rfl (by rw [info_acc, encA_len]) ?_
      have hk := hK.out (.agg (encA a2).toArray) _ (Adds.refl wq) ⟨s0, sA⟩ rfl (fun _ _ _ _ => ⟨trivial, trivial⟩)
      simp only [putD, Act.put, List.setIfInBounds_toArray, List.set_cons_zero, List.set_cons_succ] at hk
      exact hk
    refine rules_wanted (n := 38) (ds := [some 27, some 28, some 29, some 30, some 31, some 32, some 33, some 34, some 35, some 36, some 37, some 38, some 39, some 40, some 41, some 42, some 43, some 44, some 45, some 46, some 47, some 48, some 49, some 50, some 51, some 52, some 53, some 54, some 55, some 56, some 57, some 58, some 59, some 60, some 61, some 62, some 63, some 64]) (by kernel_rfl) (by kernel_rfl) [17] (by kernel_rfl) (fun x wq hx hS hdep => by obtain ⟨x0, x1, x2, x3, x4, x5, x6, x7, x8, x9, x10, x11, x12, x13, x14, x15, x16, x17, x18, x19, x20, x21, x22, x23, x24, x25, x26, x27, x28, x29, x30, x31, x32, x33, x34, x35, x36, x37, rfl⟩ := len38 hx; obtain rfl : x17 = .bool false := hdep 17 (by simp); exact (wanted_val (g := 17) (d := 44) rfl (by kernel_rfl) (by simp only [putD, Act.put, List.setIfInBounds_toArray, List.set_cons_zero, List.set_cons_succ]; rfl)).trans rfl) ?_ ?_
    · intro x wq hx hS hdep K hK
      obtain ⟨x0, x1, x2, x3, x4, x5, x6, x7, x8, x9, x10, x11, x12, x13, x14, x15, x16, x17, x18, x19, x20, x21, x22, x23, x24, x25, x26, x27, x28, x29, x30, x31, x32, x33, x34, x35, x36, x37, rfl⟩ := len38 hx
      obtain rfl : x17 = .bool false := hdep 17 (by simp)
      have s0 := hS.1
      have sA := hS.2
      clear hdep hx hS
      simp only [putD, Act.put, List.setIfInBounds_toArray, List.set_cons_zero, List.set_cons_succ]
      go_simp
      have hk := hK.out (.pointer (some ⟨s, 2, none⟩)) _ (Adds.refl wq) ⟨s0, sA⟩ rfl (fun _ _ _ _ => ⟨trivial, trivial⟩)
      simp only [putD, Act.put, List.setIfInBounds_toArray, List.set_cons_zero, List.set_cons_succ] at hk
      exact hk
    refine rules_wanted (n := 38) (ds := [some 27, some 28, some 29, some 30, some 31, some 32, some 33, some 34, some 35, some 36, some 37, some 38, some 39, some 40, some 41, some 42, some 43, some 44, some 45, some 46, some 47, some 48, some 49, some 50, some 51, some 52, some 53, some 54, some 55, some 56, some 57, some 58, some 59, some 60, some 61, some 62, some 63, some 64]) (by kernel_rfl) (by kernel_rfl) [17, 28] (by kernel_rfl) (fun x wq hx hS hdep => by obtain ⟨x0, x1, x2, x3, x4, x5, x6, x7, x8, x9, x10, x11, x12, x13, x14, x15, x16, x17, x18, x19, x20, x21, x22, x23, x24, x25, x26, x27, x28, x29, x30, x31, x32, x33, x34, x35, x36, x37, rfl⟩ := len38 hx; obtain rfl : x17 = .bool false := hdep 17 (by simp); exact (wanted_val (g := 17) (d := 44) rfl (by kernel_rfl) (by simp only [putD, Act.put, List.setIfInBounds_toArray, List.set_cons_zero, List.set_cons_succ]; rfl)).trans rfl) ?_ ?_
    · intro x wq hx hS hdep K hK
      obtain ⟨x0, x1, x2, x3, x4, x5, x6, x7, x8, x9, x10, x11, x12, x13, x14, x15, x16, x17, x18, x19, x20, x21, x22, x23, x24, x25, x26, x27, x28, x29, x30, x31, x32, x33, x34, x35, x36, x37, rfl⟩ := len38 hx
      obtain rfl : x17 = .bool false := hdep 17 (by simp)
      obtain rfl : x28 = .pointer (some ⟨s, 2, none⟩) := hdep 28 (by simp)
      have s0 := hS.1
      have sA := hS.2
      clear hdep hx hS
      simp only [putD, Act.put, List.setIfInBounds_toArray, List.set_cons_zero, List.set_cons_succ]
      have dd : wq.cell? ⟨s, 2, none⟩ = some (.int .i64 (m : Int)) := s0.out.cell 2
      go_simp
      have hk := hK.out (.int .i64 (m : Int)) _ (Adds.refl wq) ⟨s0, sA⟩ rfl (fun _ _ _ _ => ⟨trivial, trivial⟩)
      simp only [putD, Act.put, List.setIfInBounds_toArray, List.set_cons_zero, List.set_cons_succ] at hk
      exact hk
    refine rules_wanted (n := 38) (ds := [some 27, some 28, some 29, some 30, some 31, some 32, some 33, some 34, some 35, some 36, some 37, some 38, some 39, some 40, some 41, some 42, some 43, some 44, some 45, some 46, some 47, some 48, some 49, some 50, some 51, some 52, some 53, some 54, some 55, some 56, some 57, some 58, some 59, some 60, some 61, some 62, some 63, some 64]) (by kernel_rfl) (by kernel_rfl) [17] (by kernel_rfl) (fun x wq hx hS hdep => by obtain ⟨x0, x1, x2, x3, x4, x5, x6, x7, x8, x9, x10, x11, x12, x13, x14, x15, x16, x17, x18, x19, x20, x21, x22, x23, x24, x25, x26, x27, x28, x29, x30, x31, x32, x33, x34, x35, x36, x37, rfl⟩ := len38 hx; obtain rfl : x17 = .bool false := hdep 17 (by simp); exact (wanted_val (g := 17) (d := 44) rfl (by kernel_rfl) (by simp only [putD, Act.put, List.setIfInBounds_toArray, List.set_cons_zero, List.set_cons_succ]; rfl)).trans rfl) ?_ ?_
    · intro x wq hx hS hdep K hK
      obtain ⟨x0, x1, x2, x3, x4, x5, x6, x7, x8, x9, x10, x11, x12, x13, x14, x15, x16, x17, x18, x19, x20, x21, x22, x23, x24, x25, x26, x27, x28, x29, x30, x31, x32, x33, x34, x35, x36, x37, rfl⟩ := len38 hx
      obtain rfl : x17 = .bool false := hdep 17 (by simp)
      have s0 := hS.1
      have sA := hS.2
      clear hdep hx hS
      simp only [putD, Act.put, List.setIfInBounds_toArray, List.set_cons_zero, List.set_cons_succ]
      go_simp
      have hk := hK.out (.pointer (some ⟨s, 3, none⟩)) _ (Adds.refl wq) ⟨s0, sA⟩ rfl (fun _ _ _ _ => ⟨trivial, trivial⟩)
      simp only [putD, Act.put, List.setIfInBounds_toArray, List.set_cons_zero, List.set_cons_succ] at hk
      exact hk
    refine rules_wanted (n := 38) (ds := [some 27, some 28, some 29, some 30, some 31, some 32, some 33, some 34, some 35, some 36, some 37, some 38, some 39, some 40, some 41, some 42, some 43, some 44, some 45, some 46, some 47, some 48, some 49, some 50, some 51, some 52, some 53, some 54, some 55, some 56, some 57, some 58, some 59, some 60, some 61, some 62, some 63, some 64]) (by kernel_rfl) (by kernel_rfl) [17, 30] (by kernel_rfl) (fun x wq hx hS hdep => by obtain ⟨x0, x1, x2, x3, x4, x5, x6, x7, x8, x9, x10, x11, x12, x13, x14, x15, x16, x17, x18, x19, x20, x21, x22, x23, x24, x25, x26, x27, x28, x29, x30, x31, x32, x33, x34, x35, x36, x37, rfl⟩ := len38 hx; obtain rfl : x17 = .bool false := hdep 17 (by simp); exact (wanted_val (g := 17) (d := 44) rfl (by kernel_rfl) (by simp only [putD, Act.put, List.setIfInBounds_toArray, List.set_cons_zero, List.set_cons_succ]; rfl)).trans rfl) ?_ ?_
    · intro x wq hx hS hdep K hK
      obtain ⟨x0, x1, x2, x3, x4, x5, x6, x7, x8, x9, x10, x11, x12, x13, x14, x15, x16, x17, x18, x19, x20, x21, x22, x23, x24, x25, x26, x27, x28, x29, x30, x31, x32, x33, x34, x35, x36, x37, rfl⟩ := len38 hx
      obtain rfl : x17 = .bool false := hdep 17 (by simp)
      obtain rfl : x30 = .pointer (some ⟨s, 3, none⟩) := hdep 30 (by simp)
      have s0 := hS.1
      have sA := hS.2
      clear hdep hx hS
      simp only [putD, Act.put, List.setIfInBounds_toArray, List.set_cons_zero, List.set_cons_succ]
      have dd : wq.cell? ⟨s, 3, none⟩ = some (.int .i64 q) := s0.out.cell 3
      go_simp
      have hk := hK.out (.int .i64 q) _ (Adds.refl wq) ⟨s0, sA⟩ rfl (fun _ _ _ _ => ⟨trivial, trivial⟩)
      simp only [putD, Act.put, List.setIfInBounds_toArray, List.set_cons_zero, List.set_cons_succ] at hk
      exact hk
    refine rules_wanted (n := 38) (ds := [some 27, some 28, some 29, some 30, some 31, some 32, some 33, some 34, some 35, some 36, some 37, some 38, some 39, some 40, some 41, some 42, some 43, some 44, some 45, some 46, some 47, some 48, some 49, some 50, some 51, some 52, some 53, some 54, some 55, some 56, some 57, some 58, some 59, some 60, some 61, some 62, some 63, some 64]) (by kernel_rfl) (by kernel_rfl) [17, 31] (by kernel_rfl) (fun x wq hx hS hdep => by obtain ⟨x0, x1, x2, x3, x4, x5, x6, x7, x8, x9, x10, x11, x12, x13, x14, x15, x16, x17, x18, x19, x20, x21, x22, x23, x24, x25, x26, x27, x28, x29, x30, x31, x32, x33, x34, x35, x36, x37, rfl⟩ := len38 hx; obtain rfl : x17 = .bool false := hdep 17 (by simp); exact (wanted_val (g := 17) (d := 44) rfl (by kernel_rfl) (by simp only [putD, Act.put, List.setIfInBounds_toArray, List.set_cons_zero, List.set_cons_succ]; rfl)).trans rfl) ?_ ?_
    · intro x wq hx hS hdep K hK
      obtain ⟨x0, x1, x2, x3, x4, x5, x6, x7, x8, x9, x10, x11, x12, x13, x14, x15, x16, x17, x18, x19, x20, x21, x22, x23, x24, x25, x26, x27, x28, x29, x30, x31, x32, x33, x34, x35, x36, x37, rfl⟩ := len38 hx
      obtain rfl : x17 = .bool false := hdep 17 (by simp)
      obtain rfl : x31 = .int .i64 q := hdep 31 (by simp)
      have s0 := hS.1
      have sA := hS.2
      clear hdep hx hS
      simp only [putD, Act.put, List.setIfInBounds_toArray, List.set_cons_zero, List.set_cons_succ]
      go_simp
      have hk := hK.out (.int .i64 (-q)) _ (Adds.refl wq) ⟨s0, sA⟩ rfl (fun _ _ _ _ => ⟨trivial, trivial⟩)
      simp only [putD, Act.put, List.setIfInBounds_toArray, List.set_cons_zero, List.set_cons_succ] at hk
      exact hk
    refine rules_wanted (n := 38) (ds := [some 27, some 28, some 29, some 30, some 31, some 32, some 33, some 34, some 35, some 36, some 37, some 38, some 39, some 40, some 41, some 42, some 43, some 44, some 45, some 46, some 47, some 48, some 49, some 50, some 51, some 52, some 53, some 54, some 55, some 56, some 57, some 58, some 59, some 60, some 61, some 62, some 63, some 64]) (by kernel_rfl) (by kernel_rfl) [17] (by kernel_rfl) (fun x wq hx hS hdep => by obtain ⟨x0, x1, x2, x3, x4, x5, x6, x7, x8, x9, x10, x11, x12, x13, x14, x15, x16, x17, x18, x19, x20, x21, x22, x23, x24, x25, x26, x27, x28, x29, x30, x31, x32, x33, x34, x35, x36, x37, rfl⟩ := len38 hx; obtain rfl : x17 = .bool false := hdep 17 (by simp); exact (wanted_val (g := 17) (d := 44) rfl (by kernel_rfl) (by simp only [putD, Act.put, List.setIfInBounds_toArray, List.set_cons_zero, List.set_cons_succ]; rfl)).trans rfl) ?_ ?_
    · intro x wq hx hS hdep K hK
      obtain ⟨x0, x1, x2, x3, x4, x5, x6, x7, x8, x9, x10, x11, x12, x13, x14, x15, x16, x17, x18, x19, x20, x21, x22, x23, x24, x25, x26, x27, x28, x29, x30, x31, x32, x33, x34, x35, x36, x37, rfl⟩ := len38 hx
      obtain rfl : x17 = .bool false := hdep 17 (by simp)
      have s0 := hS.1
      have sA := hS.2
      clear hdep hx hS
      simp only [putD, Act.put, List.setIfInBounds_toArray, List.set_cons_zero, List.set_cons_succ]
      go_simp
      have hk := hK.out (.int .i64 g) _ (Adds.refl wq) ⟨s0, sA⟩ rfl (fun _ _ _ _ => ⟨trivial, trivial⟩)
      simp only [putD, Act.put, List.setIfInBounds_toArray, List.set_cons_zero, List.set_cons_succ] at hk
      exact hk
    refine rules_wanted (n := 38) (ds := [some 27, some 28, some 29, some 30, some 31, some 32, some 33, some 34, some 35, some 36, some 37, some 38, some 39, some 40, some 41, some 42, some 43, some 44, some 45, some 46, some 47, some 48, some 49, some 50, some 51, some 52, some 53, some 54, some 55, some 56, some 57, some 58, some 59, some 60, some 61, some 62, some 63, some 64]) (by kernel_rfl) (by kernel_rfl) [17, 33] (by kernel_rfl) (fun x wq hx hS hdep => by obtain ⟨x0, x1, x2, x3, x4, x5, x6, x7, x8, x9, x10, x11, x12, x13, x14, x15, x16, x17, x18, x19, x20, x21, x22, x23, x24, x25, x26, x27, x28, x29, x30, x31, x32, x33, x34, x35, x36, x37, rfl⟩ := len38 hx; obtain rfl : x17 = .bool false := hdep 17 (by simp); exact (wanted_val (g := 17) (d := 44) rfl (by kernel_rfl) (by simp only [putD, Act.put, List.setIfInBounds_toArray, List.set_cons_zero, List.set_cons_succ]; rfl)).trans rfl) ?_ ?_
    · intro x wq hx hS hdep K hK
      obtain ⟨x0, x1, x2, x3, x4, x5, x6, x7, x8, x9, x10, x11, x12, x13, x14, x15, x16, x17, x18, x19, x20, x21, x22, x23, x24, x25, x26, x27, x28, x29, x30, x31, x32, x33, x34, x35, x36, x37, rfl⟩ := len38 hx
      obtain rfl : x17 = .bool false := hdep 17 (by simp)
      obtain rfl : x33 = .int .i64 g := hdep 33 (by simp)
      have s0 := hS.1
      have sA := hS.2
      clear hdep hx hS
      simp only [putD, Act.put, List.setIfInBounds_toArray, List.set_cons_zero, List.set_cons_succ]
      go_simp
      have hk := hK.out (.int .i64 (-g)) _ (Adds.refl wq) ⟨s0, sA⟩ rfl (fun _ _ _ _ => ⟨trivial, trivial⟩)
      simp only [putD, Act.put, List.setIfInBounds_toArray, List.set_cons_zero, List.set_cons_succ] at hk
      exact hk
    refine rules_wanted (n := 38) (ds := [some 27, some 28, some 29, some 30, some 31, some 32, some 33, some 34, some 35, some 36, some 37, some 38, some 39, some 40, some 41, some 42, some 43, some 44, some 45, some 46, some 47, some 48, some 49, some 50, some 51, some 52, some 53, some 54, some 55, some 56, some 57, some 58, some 59, some 60, some 61, some 62, some 63, some 64]) (by kernel_rfl) (by kernel_rfl) [17, 18, 27, 29, 32, 34] (by kernel_rfl) (fun x wq hx hS hdep => by obtain ⟨x0, x1, x2, x3, x4, x5, x6, x7, x8, x9, x10, x11, x12, x13, x14, x15, x16, x17, x18, x19, x20, x21, x22, x23, x24, x25, x26, x27, x28, x29, x30, x31, x32, x33, x34, x35, x36, x37, rfl⟩ := len38 hx; obtain rfl : x17 = .bool false := hdep 17 (by simp); exact (wanted_val (g := 17) (d := 44) rfl (by kernel_rfl) (by simp only [putD, Act.put, List.setIfInBounds_toArray, List.set_cons_zero, List.set_cons_succ]; rfl)).trans rfl) ?_ ?_
    · intro x wq hx hS hdep K hK
      obtain ⟨x0, x1, x2, x3, x4, x5, x6, x7, x8, x9, x10, x11, x12, x13, x14, x15, x16, x17, x18, x19, x20, x21, x22, x23, x24, x25, x26, x27, x28, x29, x30, x31, x32, x33, x34, x35, x36, x37, rfl⟩ := len38 hx
      obtain rfl : x17 = .bool false := hdep 17 (by simp)
      obtain rfl : x18 = .pointer (some ⟨b, 0, none⟩) := hdep 18 (by simp)
      obtain rfl : x27 = .agg (encA a2).toArray := hdep 27 (by simp)
      obtain rfl : x29 = .int .i64 (m : Int) := hdep 29 (by simp)
      obtain rfl : x32 = .int .i64 (-q) := hdep 32 (by simp)
      obtain rfl : x34 = .int .i64 (-g) := hdep 34 (by simp)
      have s0 := hS.1
      have sA := hS.2
      clear hdep hx hS
      simp only [putD, Act.put, List.setIfInBounds_toArray, List.set_cons_zero, List.set_cons_succ]
      go_simp
      go_at_call 24
      refine (HA2.out _ sA.out).mono ?_
      rintro e w1 ⟨rfl, ha⟩
      have hk := hK.out (.bool false) _ ha ⟨Lib.hid (s0.out.later ha), Lib.hid (sA.out.trans ha)⟩ rfl (fun _ _ _ _ => ⟨trivial, trivial⟩)
      simp only [putD, Act.put, List.setIfInBounds_toArray, List.set_cons_zero, List.set_cons_succ] at hk
      exact hk
    refine rules_wanted (n := 38) (ds := [some 27, some 28, some 29, some 30, some 31, some 32, some 33, some 34, some 35, some 36, some 37, some 38, some 39, some 40, some 41, some 42, some 43, some 44, some 45, some 46, some 47, some 48, some 49, some 50, some 51, some 52, some 53, some 54, some 55, some 56, some 57, some 58, some 59, some 60, some 61, some 62, some 63, some 64]) (by kernel_rfl) (by kernel_rfl) [17, 35] (by kernel_rfl) (fun x wq hx hS hdep => by obtain ⟨x0, x1, x2, x3, x4, x5, x6, x7, x8, x9, x10, x11, x12, x13, x14, x15, x16, x17, x18, x19, x20, x21, x22, x23, x24, x25, x26, x27, x28, x29, x30, x31, x32, x33, x34, x35, x36, x37, rfl⟩ := len38 hx; obtain rfl : x17 = .bool false := hdep 17 (by simp); exact (wanted_val (g := 17) (d := 44) rfl (by kernel_rfl) (by simp only [putD, Act.put, List.setIfInBounds_toArray, List.set_cons_zero, List.set_cons_succ]; rfl)).trans rfl) ?_ ?_
    · intro x wq hx hS hdep K hK
      obtain ⟨x0, x1, x2, x3, x4, x5, x6, x7, x8, x9, x10, x11, x12, x13, x14, x15, x16, x17, x18, x19, x20, x21, x22, x23, x24, x25, x26, x27, x28, x29, x30, x31, x32, x33, x34, x35, x36, x37, rfl⟩ := len38 hx
      obtain rfl : x17 = .bool false := hdep 17 (by simp)
      obtain rfl : x35 = .bool false := hdep 35 (by simp)
      have s0 := hS.1
      have sA := hS.2
      clear hdep hx hS
      simp only [putD, Act.put, List.setIfInBounds_toArray, List.set_cons_zero, List.set_cons_succ]
      go_simp
      have hk := hK.out (.bool true) _ (Adds.refl wq) ⟨s0, sA⟩ rfl (fun _ _ _ _ => ⟨trivial, trivial⟩)
      simp only [putD, Act.put, List.setIfInBounds_toArray, List.set_cons_zero, List.set_cons_succ] at hk
      exact hk
    refine rules_cons (n := 38) (ds := [some 27, some 28, some 29, some 30, some 31, some 32, some 33, some 34, some 35, some 36, some 37, some 38, some 39, some 40, some 41, some 42, some 43, some 44, some 45, some 46, some 47, some 48, some 49, some 50, some 51, some 52, some 53, some 54, some 55, some 56, some 57, some 58, some 59, some 60, some 61, some 62, some 63, some 64]) (by kernel_rfl) (by kernel_rfl) [17, 36] rfl (by kernel_rfl) ?_ ?_
    · intro x wq hx hS hdep K hK
      obtain ⟨x0, x1, x2, x3, x4, x5, x6, x7, x8, x9, x10, x11, x12, x13, x14, x15, x16, x17, x18, x19, x20, x21, x22, x23, x24, x25, x26, x27, x28, x29, x30, x31, x32, x33, x34, x35, x36, x37, rfl⟩ := len38 hx
      obtain rfl : x17 = .bool false := hdep 17 (by simp)
      obtain rfl : x36 = .bool true := hdep 36 (by simp)
      have s0 := hS.1
      have sA := hS.2
      clear hdep hx hS
      simp only [putD, Act.put, List.setIfInBounds_toArray, List.set_cons_zero, List.set_cons_succ]
      go_simp
      have hk := hK.out (.bool true) _ (Adds.refl wq) ⟨s0, sA⟩ rfl (fun _ _ _ _ => ⟨trivial, trivial⟩)
      simp only [putD, Act.put, List.setIfInBounds_toArray, List.set_cons_zero, List.set_cons_succ] at hk
      exact hk
    exact rules_nil
  case hrest =>
    intro x wq hx hS hP
    obtain ⟨x0, x1, x2, x3, x4, x5, x6, x7, x8, x9, x10, x11, x12, x13, x14, x15, x16, x17, x18, x19, x20, x21, x22, x23, x24, x25, x26, x27, x28, x29, x30, x31, x32, x33, x34, x35, x36, x37, rfl⟩ := len38 hx
    obtain rfl : x0 = .pointer (some ⟨b, 0, none⟩) := hP 0 (by decide) (by rfl)
    obtain rfl : x1 = .pointer (some ⟨b, 0, none⟩) := hP 1 (by decide) (by rfl)
    obtain rfl : x2 = .pointer (some ⟨b, 0, none⟩) := hP 2 (by decide) (by rfl)
    obtain rfl : x3 = .pointer (some ⟨b, 0, none⟩) := hP 3 (by decide) (by rfl)
    obtain rfl : x4 = .slice (some ⟨ga, 0, none⟩) n ca := hP 4 (by decide) (by rfl)
    obtain rfl : x5 = .pointer (some ⟨s, 0, none⟩) := hP 5 (by decide) (by rfl)
    obtain rfl : x6 = .int .i64 ((iu : Int) + 1) := hP 6 (by decide) (by rfl)
    obtain rfl : x7 = .int .i64 (iu : Int) := hP 7 (by decide) (by rfl)
    obtain rfl : x8 = .pointer (some ⟨ga, iu * 15, none⟩) := hP 8 (by decide) (by rfl)
    obtain rfl : x9 = .agg (encA a1).toArray := hP 9 (by decide) (by rfl)
    obtain rfl : x10 = .pointer (some ⟨s, 2, none⟩) := hP 10 (by decide) (by rfl)
    obtain rfl : x11 = .int .i64 (m : Int) := hP 11 (by decide) (by rfl)
    obtain rfl : x12 = .pointer (some ⟨s, 3, none⟩) := hP 12 (by decide) (by rfl)
    obtain rfl : x13 = .int .i64 q := hP 13 (by decide) (by rfl)
    obtain rfl : x14 = .int .i64 g := hP 14 (by decide) (by rfl)
    obtain rfl : x15 = .bool true := hP 15 (by decide) (by rfl)
    obtain rfl : x16 = .bool false := hP 16 (by decide) (by rfl)
    obtain rfl : x17 = .bool false := hP 17 (by decide) (by rfl)
    obtain rfl : x18 = .pointer (some ⟨b, 0, none⟩) := hP 18 (by decide) (by rfl)
    obtain rfl : x19 = .pointer (some ⟨b, 0, none⟩) := hP 19 (by decide) (by rfl)
    obtain rfl : x20 = .pointer (some ⟨b, 0, none⟩) := hP 20 (by decide) (by rfl)
    obtain rfl : x21 = .pointer (some ⟨b, 0, none⟩) := hP 21 (by decide) (by rfl)
    obtain rfl : x22 = .slice (some ⟨ga, 0, none⟩) n ca := hP 22 (by decide) (by rfl)
    obtain rfl : x23 = .pointer (some ⟨s, 1, none⟩) := hP 23 (by decide) (by rfl)
    obtain rfl : x24 = .int .i64 ((ju : Int) + 1) := hP 24 (by decide) (by rfl)
    obtain rfl : x25 = .int .i64 (ju : Int) := hP 25 (by decide) (by rfl)
    obtain rfl : x26 = .pointer (some ⟨ga, ju * 15, none⟩) := hP 26 (by decide) (by rfl)
    obtain rfl : x27 = .agg (encA a2).toArray := hP 27 (by decide) (by rfl)
    obtain rfl : x28 = .pointer (some ⟨s, 2, none⟩) := hP 28 (by decide) (by rfl)
    obtain rfl : x29 = .int .i64 (m : Int) := hP 29 (by decide) (by rfl)
    obtain rfl : x30 = .pointer (some ⟨s, 3, none⟩) := hP 30 (by decide) (by rfl)
    obtain rfl : x31 = .int .i64 q := hP 31 (by decide) (by rfl)
    obtain rfl : x32 = .int .i64 (-q) := hP 32 (by decide) (by rfl)
    obtain rfl : x33 = .int .i64 g := hP 33 (by decide) (by rfl)
    obtain rfl : x34 = .int .i64 (-g) := hP 34 (by decide) (by rfl)
    obtain rfl : x35 = .bool false := hP 35 (by decide) (by rfl)
    obtain rfl : x36 = .bool true := hP 36 (by decide) (by rfl)
    obtain rfl : x37 = .bool true := hP 37 (by decide) (by rfl)
    have s0 := hS.1
    have sA := hS.2
    clear hP hx hS
    simp only [putD, Act.put, List.setIfInBounds_toArray, List.set_cons_zero, List.set_cons_succ]
    refine rest_done (by kernel_rfl) ?_ _
    go_wp2
    go_ret2
    exact ⟨rfl, sA.out⟩

end

end Go.Proofs.Ytmkpidipoadnbaa
