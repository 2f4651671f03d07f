/- allows: whether an account may change a position and its cash. -/
import Derived.Test.YtmkpidipoadnbaaW13
namespace Go.Proofs.Ytmkpidipoadnbaa
open Go Go.RowKit Go.Sort

theorem cmp_ge (x y : Int) : decide (0 ≤ cmpT x y) = decide (y ≤ x) := by
  unfold cmpT
  rw [decide_eq_decide]
  split
  · omega
  · split <;> omega
theorem cmp_le2 (x y : Int) : decide (cmpT x y ≤ 0) = decide (x ≤ y) := by
  unfold cmpT
  rw [decide_eq_decide]
  split
  · omega
  · split <;> omega
/-- Whether the owner of an account may change a position and its cash. -/
def allowsB (h : Hs) (a : Ac) (m : Nat) (qty gain : Int) : Bool :=
  decide (marginT h.moves h.rate (a.pos.set m (a.pos[m]! + qty)) h.prices ≤ a.cash + gain) || (decide (0 ≤ gain) && decide (marginT h.moves h.rate (a.pos.set m (a.pos[m]! + qty)) h.prices ≤ marginT h.moves h.rate a.pos h.prices))

set_option maxRecDepth 100000 in
set_option maxHeartbeats 8000000 in
theorem allows_any (b cm : Nat) (pm : Option Addr) (h : Hs) (a : Ac) (m : Nat) (qty gain : Int) (w : World) (hc : Calm h) (hR : HouseR w b h pm cm) (hca : CalmA a) (hm : m < 12) (hq : -1000000000000 ≤ qty ∧ qty ≤ 1000000000000) (hfq : Few 1152921504606846976 (a.pos.set m (a.pos[m]! + qty))) (hg : -4611686018427387904 ≤ gain ∧ gain ≤ 4611686018427387904) :
    Calls Try.prog 24 #[.pointer (some ⟨b, 0, none⟩), accV a, .int .i64 (m : Int), .int .i64 qty, .int .i64 gain] w fun e w' => e = .returned (.bool (allowsB h a m qty gain)) ∧ Adds w w' := by
  have hq1 := hq.1
  have hq2 := hq.2
  have hg1 := hg.1
  have hg2 := hg.2
  obtain ⟨y, hy⟩ : ∃ y, a.pos[m]? = some y := ⟨_, List.getElem?_eq_getElem (by have := hca.len; omega)⟩
  have hyb := hca.few y (List.mem_of_getElem? hy)
  have hyb1 := hyb.1
  have hyb2 := hyb.2
  have hye : a.pos[m]! = y := by rw [List.getElem!_eq_getElem?_getD, hy]; rfl
  unfold allowsB
  rw [hye] at hfq ⊢
  obtain ⟨ps, hps⟩ : ∃ ps, ps = a.pos.set m (y + qty) := ⟨_, rfl⟩
  rw [← hps] at hfq ⊢
  have hpl : ps.length = 12 := by rw [hps, List.length_set]; exact hca.len
  have hm1 := margin_in hc hpl hfq hc.prices hc.price
  have hm2 := margin_in hc hca.len hca.few hc.prices hc.price
  have HM1 := Lib.hid (fun (W : World) (hW : Adds w W) => margin_any b cm pm h ps h.prices W hc (hR.later hW).m14 (hR.later hW).r15 (hR.later hW).mv hpl hfq hc.prices hc.price)
  have HM2 := Lib.hid (fun (W : World) (hW : Adds w W) => margin_any b cm pm h a.pos h.prices W hc (hR.later hW).m14 (hR.later hW).r15 (hR.later hW).mv hca.len hca.few hc.prices hc.price)
  obtain ⟨mn, hmn⟩ : ∃ x, x = marginT h.moves h.rate ps h.prices := ⟨_, rfl⟩
  obtain ⟨mo, hmo⟩ : ∃ x, x = marginT h.moves h.rate a.pos h.prices := ⟨_, rfl⟩
  rw [← hmn] at HM1 hm1 ⊢
  rw [← hmo] at HM2 hm2 ⊢
  obtain ⟨c, hcc⟩ : ∃ c, c = a.cash := ⟨_, rfl⟩
  have hc0 := hca.cash0
  have hc1 := hca.cash1
  rw [← hcc] at hc0 hc1 ⊢
  have HW1 := Lib.hid (fun w => widen_any c w (by omega) (by omega))
  have HW2 := Lib.hid (fun w => widen_any gain w (by omega) (by omega))
  have HPU := Lib.hid (fun w => plus_any c gain w (by unfold InW; omega) (by unfold InW; omega))
  obtain ⟨cg, hcg⟩ : ∃ x, x = c + gain := ⟨_, rfl⟩
  rw [← hcg] at HPU ⊢
  have HC1 := Lib.hid (fun w => compare_adds cg mn w)
  have HC2 := Lib.hid (fun w => compare_adds mn mo w)
  rw [← cmp_ge cg mn, ← cmp_le2 mn mo]
  have HR := Lib.hid hR
  have hlt := cell_lt hR.m14
  have HCH := Lib.hid hc.prices
  have HPS := Lib.hid hps
  have HPL := Lib.hid hpl
  have HCC := Lib.hid hcc
  have HAL := Lib.hid hca.len
  have HY := Lib.hid hy
  unfold wideV accV monthV at *
  obtain ⟨av, hav⟩ : ∃ v, v = (encA a).toArray := ⟨_, rfl⟩
  rw [← hav]
  have HAV := Lib.hid hav
  generalize cmpT cg mn = k1 at *
  generalize cmpT mn mo = k2 at *
  have HPO : Hid ((a.pos.map (Value.int .i64)).length = 12) := Lib.hid (by rw [List.length_map]; exact HAL.out)
  have HM0 : (0 : Int) ≤ (m : Int) := by omega
  have HM12 : (m : Int) < 12 := by omega
  clear hc hR hca hfq hm1 hm2 hmn hmo hcc hcg hps hpl hav hye hy hyb hq hg
  go_enter Try.func24, Try.ntmps24
  go_upto_region 1 with fail
  have k0 := Box.new w av 72
  have hA : Adds w (w.alloc (.cells av 72)) := (Adds.refl w).alloc _
  obtain ⟨W, hW⟩ : ∃ V, V = w.alloc (.cells av 72) := ⟨_, rfl⟩
  rw [← hW] at k0 hA ⊢
  obtain ⟨s, hs⟩ : ∃ s, s = w.heap.size := ⟨_, rfl⟩
  rw [← hs] at k0 ⊢
  have HA := Lib.hid hA
  have K0 := Lib.hid k0
  have HS := Lib.hid hs
  have KP := Lib.hid (box_range k0 (o := 2) (cs := a.pos.map (Value.int .i64)) (by rw [HAV.out]; exact encA_pos HAL.out))
  clear hW hs k0 hA
  go_upto_region 2 with (first
    | (refine wpList_load_mid rfl 61 _ rfl s 2 rfl (a.pos.map (Value.int .i64)) _ KP.out Try.underlying61 rfl (by rw [info_month, HPO.out]) ?_)
    | (refine wpList_store_mid rfl 61 _ _ rfl W.heap.size 0 (a.pos.map (Value.int .i64)).toArray rfl rfl ((Box.new W _ _).there 0 _ (by rw [List.size_toArray, HPO.out]; simp)) (by rw [info_month, List.size_toArray, HPO.out]) (months_one _) ?_))
  have kx := (Box.new W #[.int .i64 0, .int .i64 0, .int .i64 0, .int .i64 0, .int .i64 0, .int .i64 0, .int .i64 0, .int .i64 0, .int .i64 0, .int .i64 0, .int .i64 0, .int .i64 0] 61).setCells (a.pos.map (Value.int .i64)).toArray.toList 0
  rw [putAt_whole _ _ (by rw [Array.length_toList, List.size_toArray, HPO.out]; rfl), Array.toArray_toList] at kx
  have hAX : Adds W ((W.alloc (.cells #[.int .i64 0, .int .i64 0, .int .i64 0, .int .i64 0, .int .i64 0, .int .i64 0, .int .i64 0, .int .i64 0, .int .i64 0, .int .i64 0, .int .i64 0, .int .i64 0] 61)).setCells W.heap.size 0 (a.pos.map (Value.int .i64)).toArray.toList) := Adds.setCells (Nat.le_refl _) _ _ ((Adds.refl W).alloc _)
  obtain ⟨W2, hW2⟩ : ∃ V, V = (W.alloc (.cells #[.int .i64 0, .int .i64 0, .int .i64 0, .int .i64 0, .int .i64 0, .int .i64 0, .int .i64 0, .int .i64 0, .int .i64 0, .int .i64 0, .int .i64 0, .int .i64 0] 61)).setCells W.heap.size 0 (a.pos.map (Value.int .i64)).toArray.toList := ⟨_, rfl⟩
  rw [← hW2] at kx hAX ⊢
  obtain ⟨X, hX⟩ : ∃ X, X = W.heap.size := ⟨_, rfl⟩
  rw [← hX] at kx ⊢
  have KX := Lib.hid kx
  have HAX := Lib.hid hAX
  have HSX : Hid (s < X) := Lib.hid (by rw [hX]; exact K0.out.lt)
  have d0 : W2.cell? ⟨X, m, none⟩ = some (.int .i64 y) := month_box kx HY.out
  have d1 : W2.frozen? ⟨X, m, none⟩ = false := kx.free m
  clear hW2 hX kx hAX
  go_upto_region 3 with fail
  have ky := KX.out.set m (.int .i64 (y + qty))
  rw [set_ints, ← HPS.out] at ky
  have hAY : Adds W2 (W2.setCell ⟨X, m, none⟩ (.int .i64 (y + qty))) ∨ True := Or.inr trivial
  obtain ⟨W3, hW3⟩ : ∃ V, V = W2.setCell ⟨X, m, none⟩ (.int .i64 (y + qty)) := ⟨_, rfl⟩
  have hsA : Adds w W3 := by rw [hW3]; exact (HA.out.trans HAX.out).set (by have := HSX.out; have := HS.out; show _ ≤ X; omega) _
  have hsP : Box W3 s av 72 := by rw [hW3]; exact (K0.out.later HAX.out).far (by have := HSX.out; show s ≠ X; omega) _
  rw [← hW3] at ky ⊢
  have KY := Lib.hid ky
  have SA := Lib.hid hsA
  have SP := Lib.hid hsP
  have SR := Lib.hid (box_range hsP (o := 2) (cs := a.pos.map (Value.int .i64)) (by rw [HAV.out]; exact encA_pos HAL.out))
  have SC := Lib.hid (show W3.cell? ⟨s, 0, none⟩ = some (.int .i64 c) by rw [hsP.cell, HAV.out, encA_cash, HCC.out])
  clear hW3 ky hAY hsA hsP d0 d1 KX HAX K0 KP HA
  go_cut [12] from 22 to 28 (fun s12 wc => ∃ g12, s12 = .pointer (some ⟨g12, 0, none⟩) ∧ Hid (Box wc g12 #[.int .i64 (hiW mn), .int .u64 (loW mn)] 89) ∧ Hid (Adds W3 wc))
  case first =>
    refine wp_region_rules (fun i => i == 8) (fun wq => Hid (Box wq X (ps.map (Value.int .i64)).toArray 61) ∧ Hid (Adds w wq) ∧ Hid (Adds W3 wq)) Adds (fun i v wq => match i with | 0 => v = .pointer (some ⟨b, 0, none⟩) | 1 => v = .agg (ps.map (Value.int .i64)).toArray | 2 => v = .pointer (some ⟨b, 0, none⟩) | 3 => v = .pointer (some ⟨b, 0, none⟩) | 4 => v = .pointer (some ⟨b, 2, none⟩) | 5 => v = .agg (h.prices.map (Value.int .i64)).toArray | 6 => v = .agg #[.int .i64 (hiW mn), .int .u64 (loW mn)] | 7 => ∃ g, v = .pointer (some ⟨g, 0, none⟩) ∧ Box wq g #[.int .i64 0, .int .u64 0] 89 ∧ W3.heap.size ≤ g | _ => True) (by kernel_rfl) (by kernel_rfl) (by kernel_rfl) (by kernel_rfl) 9 (by kernel_rfl) [some 22, some 23, some 24, some 25, some 26, some 27, some 28, some 12, none] (by kernel_rfl) 1 #[true, true, true, true, true, true, true, true, false] (by kernel_rfl) (by kernel_rfl) ?hS ?hstab ?hrules ?hrest
    case hS => exact ⟨Lib.hid KY.out.drew, Lib.hid SA.out.drew, Lib.hid (Adds.refl W3).drew⟩
    case hstab =>
      intro j v w1 w2 hst _ h
      match j, h with
      | 7, h => exact (by obtain ⟨g, h1, h2, h3⟩ := h; exact ⟨g, h1, h2.later hst, h3⟩)
      | 0, h => exact h
      | 1, h => exact h
      | 2, h => exact h
      | 3, h => exact h
      | 4, h => exact h
      | 5, h => exact h
      | 6, h => exact h
      | 8, h => trivial
      | _ + 9, h => trivial
    case hrules =>
      refine rules_cons (n := 9) (ds := [some 22, some 23, some 24, some 25, some 26, some 27, some 28, some 12, none]) (by kernel_rfl) (by kernel_rfl) [] rfl (by kernel_rfl) ?_ ?_
      · intro x wq hx hS hdep K hK
        obtain ⟨x0, x1, x2, x3, x4, x5, x6, x7, x8, rfl⟩ := len9 hx
        have s0 := hS.1
        have sA := hS.2.1
        have sB := hS.2.2
        clear hdep hx hS
        simp only [putD, Act.put, List.setIfInBounds_toArray, List.set_cons_zero, List.set_cons_succ]
        go_simp
        have hk := hK.out (.pointer (some ⟨b, 0, none⟩)) _ (Adds.refl wq) ⟨s0, sA, sB⟩ rfl (fun _ _ _ _ => ⟨trivial, trivial⟩)
        simp only [putD, Act.put, List.setIfInBounds_toArray, List.set_cons_zero, List.set_cons_succ] at hk
        exact hk
      refine rules_cons (n := 9) (ds := [some 22, some 23, some 24, some 25, some 26, some 27, some 28, some 12, none]) (by kernel_rfl) (by kernel_rfl) [] rfl (by kernel_rfl) ?_ ?_
      · intro x wq hx hS hdep K hK
        obtain ⟨x0, x1, x2, x3, x4, x5, x6, x7, x8, rfl⟩ := len9 hx
        have s0 := hS.1
        have sA := hS.2.1
        have sB := hS.2.2
        clear hdep hx hS
        simp only [putD, Act.put, List.setIfInBounds_toArray, List.set_cons_zero, List.set_cons_succ]
        refine wp_load_row 61 _ rfl X rfl 61 (ps.map (Value.int .i64)).toArray (0, 0) _ s0.out Try.underlying61 rfl (by rw [info_month]; simp [HPL.out]) ?_
        have hk := hK.out (.agg (ps.map (Value.int .i64)).toArray) _ (Adds.refl wq) ⟨s0, sA, sB⟩ rfl (fun _ _ _ _ => ⟨trivial, trivial⟩)
        simp only [putD, Act.put, List.setIfInBounds_toArray, List.set_cons_zero, List.set_cons_succ] at hk
        exact hk
      refine rules_cons (n := 9) (ds := [some 22, some 23, some 24, some 25, some 26, some 27, some 28, some 12, none]) (by kernel_rfl) (by kernel_rfl) [] rfl (by kernel_rfl) ?_ ?_
      · intro x wq hx hS hdep K hK
        obtain ⟨x0, x1, x2, x3, x4, x5, x6, x7, x8, rfl⟩ := len9 hx
        have s0 := hS.1
        have sA := hS.2.1
        have sB := hS.2.2
        clear hdep hx hS
        simp only [putD, Act.put, List.setIfInBounds_toArray, List.set_cons_zero, List.set_cons_succ]
        go_simp
        have hk := hK.out (.pointer (some ⟨b, 0, none⟩)) _ (Adds.refl wq) ⟨s0, sA, sB⟩ rfl (fun _ _ _ _ => ⟨trivial, trivial⟩)
        simp only [putD, Act.put, List.setIfInBounds_toArray, List.set_cons_zero, List.set_cons_succ] at hk
        exact hk
      refine rules_cons (n := 9) (ds := [some 22, some 23, some 24, some 25, some 26, some 27, some 28, some 12, none]) (by kernel_rfl) (by kernel_rfl) [2] rfl (by kernel_rfl) ?_ ?_
      · intro x wq hx hS hdep K hK
        obtain ⟨x0, x1, x2, x3, x4, x5, x6, x7, x8, rfl⟩ := len9 hx
        obtain rfl : x2 = .pointer (some ⟨b, 0, none⟩) := hdep 2 (by simp)
        have s0 := hS.1
        have sA := hS.2.1
        have sB := hS.2.2
        clear hdep hx hS
        simp only [putD, Act.put, List.setIfInBounds_toArray, List.set_cons_zero, List.set_cons_succ]
        go_simp
        have hk := hK.out (.pointer (some ⟨b, 0, none⟩)) _ (Adds.refl wq) ⟨s0, sA, sB⟩ rfl (fun _ _ _ _ => ⟨trivial, trivial⟩)
        simp only [putD, Act.put, List.setIfInBounds_toArray, List.set_cons_zero, List.set_cons_succ] at hk
        exact hk
      refine rules_cons (n := 9) (ds := [some 22, some 23, some 24, some 25, some 26, some 27, some 28, some 12, none]) (by kernel_rfl) (by kernel_rfl) [3] rfl (by kernel_rfl) ?_ ?_
      · intro x wq hx hS hdep K hK
        obtain ⟨x0, x1, x2, x3, x4, x5, x6, x7, x8, rfl⟩ := len9 hx
        obtain rfl : x3 = .pointer (some ⟨b, 0, none⟩) := hdep 3 (by simp)
        have s0 := hS.1
        have sA := hS.2.1
        have sB := hS.2.2
        clear hdep hx hS
        simp only [putD, Act.put, List.setIfInBounds_toArray, List.set_cons_zero, List.set_cons_succ]
        go_simp
        have hk := hK.out (.pointer (some ⟨b, 2, none⟩)) _ (Adds.refl wq) ⟨s0, sA, sB⟩ rfl (fun _ _ _ _ => ⟨trivial, trivial⟩)
        simp only [putD, Act.put, List.setIfInBounds_toArray, List.set_cons_zero, List.set_cons_succ] at hk
        exact hk
      refine rules_cons (n := 9) (ds := [some 22, some 23, some 24, some 25, some 26, some 27, some 28, some 12, none]) (by kernel_rfl) (by kernel_rfl) [4] rfl (by kernel_rfl) ?_ ?_
      · intro x wq hx hS hdep K hK
        obtain ⟨x0, x1, x2, x3, x4, x5, x6, x7, x8, rfl⟩ := len9 hx
        obtain rfl : x4 = .pointer (some ⟨b, 2, none⟩) := hdep 4 (by simp)
        have s0 := hS.1
        have sA := hS.2.1
        have sB := hS.2.2
        clear hdep hx hS
        simp only [putD, Act.put, List.setIfInBounds_toArray, List.set_cons_zero, List.set_cons_succ]
        refine wp_load_mid 61 _ rfl b 2 rfl (h.prices.map (Value.int .i64)) _ (HR.out.later sA.out).pr Try.underlying61 rfl (by rw [info_month, List.length_map, HCH.out]) ?_
        have hk := hK.out (.agg (h.prices.map (Value.int .i64)).toArray) _ (Adds.refl wq) ⟨s0, sA, sB⟩ rfl (fun _ _ _ _ => ⟨trivial, trivial⟩)
        simp only [putD, Act.put, List.setIfInBounds_toArray, List.set_cons_zero, List.set_cons_succ] at hk
        exact hk
      refine rules_cons (n := 9) (ds := [some 22, some 23, some 24, some 25, some 26, some 27, some 28, some 12, none]) (by kernel_rfl) (by kernel_rfl) [0, 1, 5] rfl (by kernel_rfl) ?_ ?_
      · intro x wq hx hS hdep K hK
        obtain ⟨x0, x1, x2, x3, x4, x5, x6, x7, x8, rfl⟩ := len9 hx
        obtain rfl : x0 = .pointer (some ⟨b, 0, none⟩) := hdep 0 (by simp)
        obtain rfl : x1 = .agg (ps.map (Value.int .i64)).toArray := hdep 1 (by simp)
        obtain rfl : x5 = .agg (h.prices.map (Value.int .i64)).toArray := hdep 5 (by simp)
        have s0 := hS.1
        have sA := hS.2.1
        have sB := hS.2.2
        clear hdep hx hS
        simp only [putD, Act.put, List.setIfInBounds_toArray, List.set_cons_zero, List.set_cons_succ]
        go_simp
        go_at_call 39
        refine (HM1.out _ sA.out).mono ?_
        rintro e w1 ⟨rfl, ha⟩
        have hk := hK.out (.agg #[.int .i64 (hiW mn), .int .u64 (loW mn)]) _ ha ⟨Lib.hid (s0.out.later ha), Lib.hid (sA.out.trans ha), Lib.hid (sB.out.trans ha)⟩ rfl (fun _ _ _ _ => ⟨trivial, trivial⟩)
        simp only [putD, Act.put, List.setIfInBounds_toArray, List.set_cons_zero, List.set_cons_succ] at hk
        exact hk
      refine rules_cons (n := 9) (ds := [some 22, some 23, some 24, some 25, some 26, some 27, some 28, some 12, none]) (by kernel_rfl) (by kernel_rfl) [] rfl (by kernel_rfl) ?_ ?_
      · intro x wq hx hS hdep K hK
        obtain ⟨x0, x1, x2, x3, x4, x5, x6, x7, x8, rfl⟩ := len9 hx
        have s0 := hS.1
        have sA := hS.2.1
        have sB := hS.2.2
        clear hdep hx hS
        simp only [putD, Act.put, List.setIfInBounds_toArray, List.set_cons_zero, List.set_cons_succ]
        go_simp
        have ha := (Adds.refl wq).alloc (.cells #[.int .i64 0, .int .u64 0] 89)
        have hk := hK.out (.pointer (some ⟨wq.heap.size, 0, none⟩)) _ ha ⟨Lib.hid (s0.out.later ha), Lib.hid (sA.out.trans ha), Lib.hid (sB.out.trans ha)⟩ ⟨wq.heap.size, rfl, Box.new _ _ _, sB.out.size⟩ (fun _ _ _ _ => ⟨trivial, trivial⟩)
        simp only [putD, Act.put, List.setIfInBounds_toArray, List.set_cons_zero, List.set_cons_succ] at hk
        exact hk
      refine rules_skip rfl ?_
      exact rules_nil
    case hrest =>
      intro x wq hx hS hP
      obtain ⟨x0, x1, x2, x3, x4, x5, x6, x7, x8, rfl⟩ := len9 hx
      obtain rfl : x0 = .pointer (some ⟨b, 0, none⟩) := hP 0 (by decide) (by rfl)
      obtain rfl : x1 = .agg (ps.map (Value.int .i64)).toArray := hP 1 (by decide) (by rfl)
      obtain rfl : x2 = .pointer (some ⟨b, 0, none⟩) := hP 2 (by decide) (by rfl)
      obtain rfl : x3 = .pointer (some ⟨b, 0, none⟩) := hP 3 (by decide) (by rfl)
      obtain rfl : x4 = .pointer (some ⟨b, 2, none⟩) := hP 4 (by decide) (by rfl)
      obtain rfl : x5 = .agg (h.prices.map (Value.int .i64)).toArray := hP 5 (by decide) (by rfl)
      obtain rfl : x6 = .agg #[.int .i64 (hiW mn), .int .u64 (loW mn)] := hP 6 (by decide) (by rfl)
      obtain ⟨g12, rfl, b12, l12⟩ : ∃ g, x7 = .pointer (some ⟨g, 0, none⟩) ∧ Box wq g #[.int .i64 0, .int .u64 0] 89 ∧ W3.heap.size ≤ g := hP 7 (by decide) (by rfl)
      have s0 := hS.1
      have sA := hS.2.1
      have sB := hS.2.2
      clear hP hx hS
      simp only [putD, Act.put, List.setIfInBounds_toArray, List.set_cons_zero, List.set_cons_succ]
      have z0 : wq.cell? ⟨g12, 0, none⟩ = some (.int .i64 0) := b12.cell 0
      have z1 : wq.cell? ⟨g12, 1, none⟩ = some (.int .u64 0) := b12.cell 1
      have z2 : wq.frozen? ⟨g12, 0, none⟩ = false := b12.free 0
      have z3 : wq.frozen? ⟨g12, 1, none⟩ = false := b12.free 1
      refine rest_loud (i := 8) (o := ⟨none, _, _, _, _, _⟩) (by kernel_rfl) rfl (fun K hK => ?_)
      go_simp
      refine hK.out _ _ ?_
      clear hK K
      try simp only [List.setIfInBounds_toArray, List.set_cons_zero, List.set_cons_succ]
      refine rest_done (by kernel_rfl) ?_ _
      go_wp2
      go_meet
      exact ⟨g12, rfl, Lib.hid ((b12.set 0 _).set 1 _), Lib.hid ((sB.out.set l12 _).set l12 _)⟩
  case rest =>
    obtain ⟨g12, rfl, B12, A12⟩ := hcut
    have e0 : wc.cell? ⟨s, 0, none⟩ = some (.int .i64 c) := keep_cell A12.out SC.out
    go_upto_region 5 with (first
      | (go_at_call 40; first | ((with_reducible refine (HW1.out _).mono ?_); rintro e w1 ⟨rfl, ha⟩; have HA1 := Lib.hid ha; clear ha) | ((with_reducible refine (HW2.out _).mono ?_); rintro e w2 ⟨rfl, ha⟩; have HA2 := Lib.hid ha; clear ha))
      | (go_at_call 41; refine (HPU.out _).mono ?_; rintro e w3 ⟨rfl, ha⟩; have HA3 := Lib.hid ha; clear ha))
    have kz := Box.new w3 #[.int .i64 (hiW cg), .int .u64 (loW cg)] 89
    have hAZ := (((A12.out.trans HA1.out).trans HA2.out).trans HA3.out).trans ((Adds.refl w3).alloc (.cells #[.int .i64 (hiW cg), .int .u64 (loW cg)] 89))
    have hBZ := (((HA1.out).trans HA2.out).trans HA3.out).trans ((Adds.refl w3).alloc (.cells #[.int .i64 (hiW cg), .int .u64 (loW cg)] 89))
    obtain ⟨W5, hW5⟩ : ∃ V, V = w3.alloc (.cells #[.int .i64 (hiW cg), .int .u64 (loW cg)] 89) := ⟨_, rfl⟩
    rw [← hW5] at kz hAZ hBZ ⊢
    obtain ⟨g13, hg13⟩ : ∃ g, g = w3.heap.size := ⟨_, rfl⟩
    rw [← hg13] at kz ⊢
    have KZ := Lib.hid kz
    have YP := Lib.hid (range_later SR.out hAZ)
    have YA := Lib.hid (SA.out.trans hAZ)
    have Y12 := Lib.hid (B12.out.later hBZ)
    clear hW5 hg13 kz hAZ hBZ HW1 HW2 HPU HM1 e0
    clear HA1 HA2 HA3
    by_cases hk : 0 ≤ k1
    · have hk1 : decide (0 ≤ k1) = true := decide_eq_true hk
      clear hk
      refine wp_region_rules (fun i => i != i) (fun wq => Hid (Box wq g13 #[.int .i64 (hiW cg), .int .u64 (loW cg)] 89) ∧ Hid (Box wq g12 #[.int .i64 (hiW mn), .int .u64 (loW mn)] 89) ∧ Hid (wq.rangeAt s 2 (a.pos.map (Value.int .i64))) ∧ Hid (Adds w wq)) Adds (fun i v wq => match i with | 0 => v = .agg #[.int .i64 (hiW cg), .int .u64 (loW cg)] | 1 => v = .agg #[.int .i64 (hiW mn), .int .u64 (loW mn)] | 2 => v = .int .i64 k1 | 3 => v = .bool true | 4 => v = .bool true | 5 => v = undef | 6 => v = undef | 7 => v = undef | 8 => v = undef | 9 => v = undef | 10 => v = undef | 11 => v = undef | 12 => v = undef | 13 => v = undef | 14 => v = undef | 15 => v = undef | 16 => v = undef | 17 => v = undef | 18 => v = undef | 19 => v = undef | 20 => v = .bool true | 21 => v = .bool true | _ => True) (by kernel_rfl) (by kernel_rfl) (by kernel_rfl) (by kernel_rfl) 22 (by kernel_rfl) [some 35, some 36, some 37, some 38, some 39, some 40, some 41, some 42, some 43, some 44, some 45, some 46, some 47, some 48, some 49, some 50, some 51, some 52, some 53, some 54, some 55, some 10] (by kernel_rfl) 0 #[true, true, true, true, true, true, true, true, true, true, true, true, true, true, true, true, true, true, true, true, true, true] (by kernel_rfl) (by kernel_rfl) ?hS ?hstab ?hrules ?hrest
      case hS => exact ⟨Lib.hid KZ.out.drew, Lib.hid Y12.out.drew, Lib.hid YP.out, Lib.hid YA.out.drew⟩
      case hstab =>
        intro j v w1 w2 hst _ h
        match j, h with
        | 0, h => exact h
        | 1, h => exact h
        | 2, h => exact h
        | 3, h => exact h
        | 4, h => exact h
        | 5, h => exact h
        | 6, h => exact h
        | 7, h => exact h
        | 8, h => exact h
        | 9, h => exact h
        | 10, h => exact h
        | 11, h => exact h
        | 12, h => exact h
        | 13, h => exact h
        | 14, h => exact h
        | 15, h => exact h
        | 16, h => exact h
        | 17, h => exact h
        | 18, h => exact h
        | 19, h => exact h
        | 20, h => exact h
        | 21, h => exact h
        | _ + 22, h => trivial
      case hrules =>
        refine rules_cons (n := 22) (ds := [some 35, some 36, some 37, some 38, some 39, some 40, some 41, some 42, some 43, some 44, some 45, some 46, some 47, some 48, some 49, some 50, some 51, some 52, some 53, some 54, some 55, some 10]) (by kernel_rfl) (by kernel_rfl) [] rfl (by kernel_rfl) ?_ ?_
        · intro x wq hx hS hdep K hK
          obtain ⟨x0, x1, x2, x3, x4, x5, x6, x7, x8, x9, x10, x11, x12, x13, x14, x15, x16, x17, x18, x19, x20, x21, rfl⟩ := len22 hx
          have s0 := hS.1
          have s1 := hS.2.1
          have s2 := hS.2.2.1
          have sA := hS.2.2.2
          clear hdep hx hS
          simp only [putD, Act.put, List.setIfInBounds_toArray, List.set_cons_zero, List.set_cons_succ]
          have c0 : wq.cell? ⟨g13, 0, none⟩ = some (.int .i64 (hiW cg)) := s0.out.cell 0
          have c1 : wq.cell? ⟨g13, 1, none⟩ = some (.int .u64 (loW cg)) := s0.out.cell 1
          go_simp
          have hk := hK.out (.agg #[.int .i64 (hiW cg), .int .u64 (loW cg)]) _ (Adds.refl wq) ⟨s0, s1, s2, sA⟩ rfl (fun _ _ _ _ => ⟨trivial, trivial⟩)
          simp only [putD, Act.put, List.setIfInBounds_toArray, List.set_cons_zero, List.set_cons_succ] at hk
          exact hk
        refine rules_cons (n := 22) (ds := [some 35, some 36, some 37, some 38, some 39, some 40, some 41, some 42, some 43, some 44, some 45, some 46, some 47, some 48, some 49, some 50, some 51, some 52, some 53, some 54, some 55, some 10]) (by kernel_rfl) (by kernel_rfl) [] rfl (by kernel_rfl) ?_ ?_
        · intro x wq hx hS hdep K hK
          obtain ⟨x0, x1, x2, x3, x4, x5, x6, x7, x8, x9, x10, x11, x12, x13, x14, x15, x16, x17, x18, x19, x20, x21, rfl⟩ := len22 hx
          have s0 := hS.1
          have s1 := hS.2.1
          have s2 := hS.2.2.1
          have sA := hS.2.2.2
          clear hdep hx hS
          simp only [putD, Act.put, List.setIfInBounds_toArray, List.set_cons_zero, List.set_cons_succ]
          have c0 : wq.cell? ⟨g12, 0, none⟩ = some (.int .i64 (hiW mn)) := s1.out.cell 0
          have c1 : wq.cell? ⟨g12, 1, none⟩ = some (.int .u64 (loW mn)) := s1.out.cell 1
          go_simp
          have hk := hK.out (.agg #[.int .i64 (hiW mn), .int .u64 (loW mn)]) _ (Adds.refl wq) ⟨s0, s1, s2, sA⟩ rfl (fun _ _ _ _ => ⟨trivial, trivial⟩)
          simp only [putD, Act.put, List.setIfInBounds_toArray, List.set_cons_zero, List.set_cons_succ] at hk
          exact hk
        refine rules_cons (n := 22) (ds := [some 35, some 36, some 37, some 38, some 39, some 40, some 41, some 42, some 43, some 44, some 45, some 46, some 47, some 48, some 49, some 50, some 51, some 52, some 53, some 54, some 55, some 10]) (by kernel_rfl) (by kernel_rfl) [0, 1] rfl (by kernel_rfl) ?_ ?_
        · intro x wq hx hS hdep K hK
          obtain ⟨x0, x1, x2, x3, x4, x5, x6, x7, x8, x9, x10, x11, x12, x13, x14, x15, x16, x17, x18, x19, x20, x21, rfl⟩ := len22 hx
          obtain rfl : x0 = .agg #[.int .i64 (hiW cg), .int .u64 (loW cg)] := hdep 0 (by simp)
          obtain rfl : x1 = .agg #[.int .i64 (hiW mn), .int .u64 (loW mn)] := hdep 1 (by simp)
          have s0 := hS.1
          have s1 := hS.2.1
          have s2 := hS.2.2.1
          have sA := hS.2.2.2
          clear hdep hx hS
          simp only [putD, Act.put, List.setIfInBounds_toArray, List.set_cons_zero, List.set_cons_succ]
          go_simp
          go_at_call 42
          refine (HC1.out _).mono ?_
          rintro e w1 ⟨rfl, ha⟩
          have hk := hK.out (.int .i64 k1) _ ha ⟨Lib.hid (s0.out.later ha), Lib.hid (s1.out.later ha), Lib.hid (range_later s2.out ha), Lib.hid (sA.out.trans ha)⟩ rfl (fun _ _ _ _ => ⟨trivial, trivial⟩)
          simp only [putD, Act.put, List.setIfInBounds_toArray, List.set_cons_zero, List.set_cons_succ] at hk
          exact hk
        refine rules_cons (n := 22) (ds := [some 35, some 36, some 37, some 38, some 39, some 40, some 41, some 42, some 43, some 44, some 45, some 46, some 47, some 48, some 49, some 50, some 51, some 52, some 53, some 54, some 55, some 10]) (by kernel_rfl) (by kernel_rfl) [2] rfl (by kernel_rfl) ?_ ?_
        · intro x wq hx hS hdep K hK
          obtain ⟨x0, x1, x2, x3, x4, x5, x6, x7, x8, x9, x10, x11, x12, x13, x14, x15, x16, x17, x18, x19, x20, x21, rfl⟩ := len22 hx
          obtain rfl : x2 = .int .i64 k1 := hdep 2 (by simp)
          have s0 := hS.1
          have s1 := hS.2.1
          have s2 := hS.2.2.1
          have sA := hS.2.2.2
          clear hdep hx hS
          simp only [putD, Act.put, List.setIfInBounds_toArray, List.set_cons_zero, List.set_cons_succ]
          go_simp
          have hk := hK.out (.bool true) _ (Adds.refl wq) ⟨s0, s1, s2, sA⟩ rfl (fun _ _ _ _ => ⟨trivial, trivial⟩)
          simp only [putD, Act.put, List.setIfInBounds_toArray, List.set_cons_zero, List.set_cons_succ] at hk
          exact hk
        refine rules_cons (n := 22) (ds := [some 35, some 36, some 37, some 38, some 39, some 40, some 41, some 42, some 43, some 44, some 45, some 46, some 47, some 48, some 49, some 50, some 51, some 52, some 53, some 54, some 55, some 10]) (by kernel_rfl) (by kernel_rfl) [3] rfl (by kernel_rfl) ?_ ?_
        · intro x wq hx hS hdep K hK
          obtain ⟨x0, x1, x2, x3, x4, x5, x6, x7, x8, x9, x10, x11, x12, x13, x14, x15, x16, x17, x18, x19, x20, x21, rfl⟩ := len22 hx
          obtain rfl : x3 = .bool true := hdep 3 (by simp)
          have s0 := hS.1
          have s1 := hS.2.1
          have s2 := hS.2.2.1
          have sA := hS.2.2.2
          clear hdep hx hS
          simp only [putD, Act.put, List.setIfInBounds_toArray, List.set_cons_zero, List.set_cons_succ]
          go_simp
          have hk := hK.out (.bool true) _ (Adds.refl wq) ⟨s0, s1, s2, sA⟩ rfl (fun _ _ _ _ => ⟨trivial, trivial⟩)
          simp only [putD, Act.put, List.setIfInBounds_toArray, List.set_cons_zero, List.set_cons_succ] at hk
          exact hk
        refine rules_unwanted (n := 22) (ds := [some 35, some 36, some 37, some 38, some 39, some 40, some 41, some 42, some 43, some 44, some 45, some 46, some 47, some 48, some 49, some 50, some 51, some 52, some 53, some 54, some 55, some 10]) (by kernel_rfl) (by kernel_rfl) [4] (by kernel_rfl) (fun x wq hx hS hdep => by obtain ⟨x0, x1, x2, x3, x4, x5, x6, x7, x8, x9, x10, x11, x12, x13, x14, x15, x16, x17, x18, x19, x20, x21, rfl⟩ := len22 hx; obtain rfl : x4 = .bool true := hdep 4 (by simp); exact (wanted_val (g := 4) (d := 39) rfl (by kernel_rfl) (by simp only [putD, Act.put, List.setIfInBounds_toArray, List.set_cons_zero, List.set_cons_succ]; rfl)).trans rfl) (fun wq _ => ⟨Adds.refl wq, rfl, fun _ _ _ _ => ⟨trivial, trivial⟩⟩) ?_
        refine rules_unwanted (n := 22) (ds := [some 35, some 36, some 37, some 38, some 39, some 40, some 41, some 42, some 43, some 44, some 45, some 46, some 47, some 48, some 49, some 50, some 51, some 52, some 53, some 54, some 55, some 10]) (by kernel_rfl) (by kernel_rfl) [4] (by kernel_rfl) (fun x wq hx hS hdep => by obtain ⟨x0, x1, x2, x3, x4, x5, x6, x7, x8, x9, x10, x11, x12, x13, x14, x15, x16, x17, x18, x19, x20, x21, rfl⟩ := len22 hx; obtain rfl : x4 = .bool true := hdep 4 (by simp); exact (wanted_val (g := 4) (d := 39) rfl (by kernel_rfl) (by simp only [putD, Act.put, List.setIfInBounds_toArray, List.set_cons_zero, List.set_cons_succ]; rfl)).trans rfl) (fun wq _ => ⟨Adds.refl wq, rfl, fun _ _ _ _ => ⟨trivial, trivial⟩⟩) ?_
        refine rules_unwanted (n := 22) (ds := [some 35, some 36, some 37, some 38, some 39, some 40, some 41, some 42, some 43, some 44, some 45, some 46, some 47, some 48, some 49, some 50, some 51, some 52, some 53, some 54, some 55, some 10]) (by kernel_rfl) (by kernel_rfl) [4] (by kernel_rfl) (fun x wq hx hS hdep => by obtain ⟨x0, x1, x2, x3, x4, x5, x6, x7, x8, x9, x10, x11, x12, x13, x14, x15, x16, x17, x18, x19, x20, x21, rfl⟩ := len22 hx; obtain rfl : x4 = .bool true := hdep 4 (by simp); exact (wanted_val (g := 4) (d := 39) rfl (by kernel_rfl) (by simp only [putD, Act.put, List.setIfInBounds_toArray, List.set_cons_zero, List.set_cons_succ]; rfl)).trans rfl) (fun wq _ => ⟨Adds.refl wq, rfl, fun _ _ _ _ => ⟨trivial, trivial⟩⟩) ?_
        refine rules_unwanted (n := 22) (ds := [some 35, some 36, some 37, some 38, some 39, some 40, some 41, some 42, some 43, some 44, some 45, some 46, some 47, some 48, some 49, some 50, some 51, some 52, some 53, some 54, some 55, some 10]) (by kernel_rfl) (by kernel_rfl) [7] (by kernel_rfl) (fun x wq hx hS hdep => by obtain ⟨x0, x1, x2, x3, x4, x5, x6, x7, x8, x9, x10, x11, x12, x13, x14, x15, x16, x17, x18, x19, x20, x21, rfl⟩ := len22 hx; obtain rfl : x7 = undef := hdep 7 (by simp); exact wanted_undef (g := 7) (d := 42) rfl (by kernel_rfl) (by simp only [putD, Act.put, List.setIfInBounds_toArray, List.set_cons_zero, List.set_cons_succ]; rfl)) (fun wq _ => ⟨Adds.refl wq, rfl, fun _ _ _ _ => ⟨trivial, trivial⟩⟩) ?_
        refine rules_unwanted (n := 22) (ds := [some 35, some 36, some 37, some 38, some 39, some 40, some 41, some 42, some 43, some 44, some 45, some 46, some 47, some 48, some 49, some 50, some 51, some 52, some 53, some 54, some 55, some 10]) (by kernel_rfl) (by kernel_rfl) [7] (by kernel_rfl) (fun x wq hx hS hdep => by obtain ⟨x0, x1, x2, x3, x4, x5, x6, x7, x8, x9, x10, x11, x12, x13, x14, x15, x16, x17, x18, x19, x20, x21, rfl⟩ := len22 hx; obtain rfl : x7 = undef := hdep 7 (by simp); exact wanted_undef (g := 7) (d := 42) rfl (by kernel_rfl) (by simp only [putD, Act.put, List.setIfInBounds_toArray, List.set_cons_zero, List.set_cons_succ]; rfl)) (fun wq _ => ⟨Adds.refl wq, rfl, fun _ _ _ _ => ⟨trivial, trivial⟩⟩) ?_
        refine rules_unwanted (n := 22) (ds := [some 35, some 36, some 37, some 38, some 39, some 40, some 41, some 42, some 43, some 44, some 45, some 46, some 47, some 48, some 49, some 50, some 51, some 52, some 53, some 54, some 55, some 10]) (by kernel_rfl) (by kernel_rfl) [7] (by kernel_rfl) (fun x wq hx hS hdep => by obtain ⟨x0, x1, x2, x3, x4, x5, x6, x7, x8, x9, x10, x11, x12, x13, x14, x15, x16, x17, x18, x19, x20, x21, rfl⟩ := len22 hx; obtain rfl : x7 = undef := hdep 7 (by simp); exact wanted_undef (g := 7) (d := 42) rfl (by kernel_rfl) (by simp only [putD, Act.put, List.setIfInBounds_toArray, List.set_cons_zero, List.set_cons_succ]; rfl)) (fun wq _ => ⟨Adds.refl wq, rfl, fun _ _ _ _ => ⟨trivial, trivial⟩⟩) ?_
        refine rules_unwanted (n := 22) (ds := [some 35, some 36, some 37, some 38, some 39, some 40, some 41, some 42, some 43, some 44, some 45, some 46, some 47, some 48, some 49, some 50, some 51, some 52, some 53, some 54, some 55, some 10]) (by kernel_rfl) (by kernel_rfl) [7] (by kernel_rfl) (fun x wq hx hS hdep => by obtain ⟨x0, x1, x2, x3, x4, x5, x6, x7, x8, x9, x10, x11, x12, x13, x14, x15, x16, x17, x18, x19, x20, x21, rfl⟩ := len22 hx; obtain rfl : x7 = undef := hdep 7 (by simp); exact wanted_undef (g := 7) (d := 42) rfl (by kernel_rfl) (by simp only [putD, Act.put, List.setIfInBounds_toArray, List.set_cons_zero, List.set_cons_succ]; rfl)) (fun wq _ => ⟨Adds.refl wq, rfl, fun _ _ _ _ => ⟨trivial, trivial⟩⟩) ?_
        refine rules_unwanted (n := 22) (ds := [some 35, some 36, some 37, some 38, some 39, some 40, some 41, some 42, some 43, some 44, some 45, some 46, some 47, some 48, some 49, some 50, some 51, some 52, some 53, some 54, some 55, some 10]) (by kernel_rfl) (by kernel_rfl) [7] (by kernel_rfl) (fun x wq hx hS hdep => by obtain ⟨x0, x1, x2, x3, x4, x5, x6, x7, x8, x9, x10, x11, x12, x13, x14, x15, x16, x17, x18, x19, x20, x21, rfl⟩ := len22 hx; obtain rfl : x7 = undef := hdep 7 (by simp); exact wanted_undef (g := 7) (d := 42) rfl (by kernel_rfl) (by simp only [putD, Act.put, List.setIfInBounds_toArray, List.set_cons_zero, List.set_cons_succ]; rfl)) (fun wq _ => ⟨Adds.refl wq, rfl, fun _ _ _ _ => ⟨trivial, trivial⟩⟩) ?_
        refine rules_unwanted (n := 22) (ds := [some 35, some 36, some 37, some 38, some 39, some 40, some 41, some 42, some 43, some 44, some 45, some 46, some 47, some 48, some 49, some 50, some 51, some 52, some 53, some 54, some 55, some 10]) (by kernel_rfl) (by kernel_rfl) [7] (by kernel_rfl) (fun x wq hx hS hdep => by obtain ⟨x0, x1, x2, x3, x4, x5, x6, x7, x8, x9, x10, x11, x12, x13, x14, x15, x16, x17, x18, x19, x20, x21, rfl⟩ := len22 hx; obtain rfl : x7 = undef := hdep 7 (by simp); exact wanted_undef (g := 7) (d := 42) rfl (by kernel_rfl) (by simp only [putD, Act.put, List.setIfInBounds_toArray, List.set_cons_zero, List.set_cons_succ]; rfl)) (fun wq _ => ⟨Adds.refl wq, rfl, fun _ _ _ _ => ⟨trivial, trivial⟩⟩) ?_
        refine rules_unwanted (n := 22) (ds := [some 35, some 36, some 37, some 38, some 39, some 40, some 41, some 42, some 43, some 44, some 45, some 46, some 47, some 48, some 49, some 50, some 51, some 52, some 53, some 54, some 55, some 10]) (by kernel_rfl) (by kernel_rfl) [7] (by kernel_rfl) (fun x wq hx hS hdep => by obtain ⟨x0, x1, x2, x3, x4, x5, x6, x7, x8, x9, x10, x11, x12, x13, x14, x15, x16, x17, x18, x19, x20, x21, rfl⟩ := len22 hx; obtain rfl : x7 = undef := hdep 7 (by simp); exact wanted_undef (g := 7) (d := 42) rfl (by kernel_rfl) (by simp only [putD, Act.put, List.setIfInBounds_toArray, List.set_cons_zero, List.set_cons_succ]; rfl)) (fun wq _ => ⟨Adds.refl wq, rfl, fun _ _ _ _ => ⟨trivial, trivial⟩⟩) ?_
        refine rules_unwanted (n := 22) (ds := [some 35, some 36, some 37, some 38, some 39, some 40, some 41, some 42, some 43, some 44, some 45, some 46, some 47, some 48, some 49, some 50, some 51, some 52, some 53, some 54, some 55, some 10]) (by kernel_rfl) (by kernel_rfl) [7] (by kernel_rfl) (fun x wq hx hS hdep => by obtain ⟨x0, x1, x2, x3, x4, x5, x6, x7, x8, x9, x10, x11, x12, x13, x14, x15, x16, x17, x18, x19, x20, x21, rfl⟩ := len22 hx; obtain rfl : x7 = undef := hdep 7 (by simp); exact wanted_undef (g := 7) (d := 42) rfl (by kernel_rfl) (by simp only [putD, Act.put, List.setIfInBounds_toArray, List.set_cons_zero, List.set_cons_succ]; rfl)) (fun wq _ => ⟨Adds.refl wq, rfl, fun _ _ _ _ => ⟨trivial, trivial⟩⟩) ?_
        refine rules_unwanted (n := 22) (ds := [some 35, some 36, some 37, some 38, some 39, some 40, some 41, some 42, some 43, some 44, some 45, some 46, some 47, some 48, some 49, some 50, some 51, some 52, some 53, some 54, some 55, some 10]) (by kernel_rfl) (by kernel_rfl) [7] (by kernel_rfl) (fun x wq hx hS hdep => by obtain ⟨x0, x1, x2, x3, x4, x5, x6, x7, x8, x9, x10, x11, x12, x13, x14, x15, x16, x17, x18, x19, x20, x21, rfl⟩ := len22 hx; obtain rfl : x7 = undef := hdep 7 (by simp); exact wanted_undef (g := 7) (d := 42) rfl (by kernel_rfl) (by simp only [putD, Act.put, List.setIfInBounds_toArray, List.set_cons_zero, List.set_cons_succ]; rfl)) (fun wq _ => ⟨Adds.refl wq, rfl, fun _ _ _ _ => ⟨trivial, trivial⟩⟩) ?_
        refine rules_unwanted (n := 22) (ds := [some 35, some 36, some 37, some 38, some 39, some 40, some 41, some 42, some 43, some 44, some 45, some 46, some 47, some 48, some 49, some 50, some 51, some 52, some 53, some 54, some 55, some 10]) (by kernel_rfl) (by kernel_rfl) [7] (by kernel_rfl) (fun x wq hx hS hdep => by obtain ⟨x0, x1, x2, x3, x4, x5, x6, x7, x8, x9, x10, x11, x12, x13, x14, x15, x16, x17, x18, x19, x20, x21, rfl⟩ := len22 hx; obtain rfl : x7 = undef := hdep 7 (by simp); exact wanted_undef (g := 7) (d := 42) rfl (by kernel_rfl) (by simp only [putD, Act.put, List.setIfInBounds_toArray, List.set_cons_zero, List.set_cons_succ]; rfl)) (fun wq _ => ⟨Adds.refl wq, rfl, fun _ _ _ _ => ⟨trivial, trivial⟩⟩) ?_
        refine rules_unwanted (n := 22) (ds := [some 35, some 36, some 37, some 38, some 39, some 40, some 41, some 42, some 43, some 44, some 45, some 46, some 47, some 48, some 49, some 50, some 51, some 52, some 53, some 54, some 55, some 10]) (by kernel_rfl) (by kernel_rfl) [7] (by kernel_rfl) (fun x wq hx hS hdep => by obtain ⟨x0, x1, x2, x3, x4, x5, x6, x7, x8, x9, x10, x11, x12, x13, x14, x15, x16, x17, x18, x19, x20, x21, rfl⟩ := len22 hx; obtain rfl : x7 = undef := hdep 7 (by simp); exact wanted_undef (g := 7) (d := 42) rfl (by kernel_rfl) (by simp only [putD, Act.put, List.setIfInBounds_toArray, List.set_cons_zero, List.set_cons_succ]; rfl)) (fun wq _ => ⟨Adds.refl wq, rfl, fun _ _ _ _ => ⟨trivial, trivial⟩⟩) ?_
        refine rules_unwanted (n := 22) (ds := [some 35, some 36, some 37, some 38, some 39, some 40, some 41, some 42, some 43, some 44, some 45, some 46, some 47, some 48, some 49, some 50, some 51, some 52, some 53, some 54, some 55, some 10]) (by kernel_rfl) (by kernel_rfl) [4] (by kernel_rfl) (fun x wq hx hS hdep => by obtain ⟨x0, x1, x2, x3, x4, x5, x6, x7, x8, x9, x10, x11, x12, x13, x14, x15, x16, x17, x18, x19, x20, x21, rfl⟩ := len22 hx; obtain rfl : x4 = .bool true := hdep 4 (by simp); exact (wanted_val (g := 4) (d := 39) rfl (by kernel_rfl) (by simp only [putD, Act.put, List.setIfInBounds_toArray, List.set_cons_zero, List.set_cons_succ]; rfl)).trans rfl) (fun wq _ => ⟨Adds.refl wq, rfl, fun _ _ _ _ => ⟨trivial, trivial⟩⟩) ?_
        refine rules_cons (n := 22) (ds := [some 35, some 36, some 37, some 38, some 39, some 40, some 41, some 42, some 43, some 44, some 45, some 46, some 47, some 48, some 49, some 50, some 51, some 52, some 53, some 54, some 55, some 10]) (by kernel_rfl) (by kernel_rfl) [4, 19] rfl (by kernel_rfl) ?_ ?_
        · intro x wq hx hS hdep K hK
          obtain ⟨x0, x1, x2, x3, x4, x5, x6, x7, x8, x9, x10, x11, x12, x13, x14, x15, x16, x17, x18, x19, x20, x21, rfl⟩ := len22 hx
          obtain rfl : x4 = .bool true := hdep 4 (by simp)
          obtain rfl : x19 = undef := hdep 19 (by simp)
          have s0 := hS.1
          have s1 := hS.2.1
          have s2 := hS.2.2.1
          have sA := hS.2.2.2
          clear hdep hx hS
          simp only [putD, Act.put, List.setIfInBounds_toArray, List.set_cons_zero, List.set_cons_succ]
          go_simp
          have hk := hK.out (.bool true) _ (Adds.refl wq) ⟨s0, s1, s2, sA⟩ rfl (fun _ _ _ _ => ⟨trivial, trivial⟩)
          simp only [putD, Act.put, List.setIfInBounds_toArray, List.set_cons_zero, List.set_cons_succ] at hk
          exact hk
        refine rules_cons (n := 22) (ds := [some 35, some 36, some 37, some 38, some 39, some 40, some 41, some 42, some 43, some 44, some 45, some 46, some 47, some 48, some 49, some 50, some 51, some 52, some 53, some 54, some 55, some 10]) (by kernel_rfl) (by kernel_rfl) [20] rfl (by kernel_rfl) ?_ ?_
        · intro x wq hx hS hdep K hK
          obtain ⟨x0, x1, x2, x3, x4, x5, x6, x7, x8, x9, x10, x11, x12, x13, x14, x15, x16, x17, x18, x19, x20, x21, rfl⟩ := len22 hx
          obtain rfl : x20 = .bool true := hdep 20 (by simp)
          have s0 := hS.1
          have s1 := hS.2.1
          have s2 := hS.2.2.1
          have sA := hS.2.2.2
          clear hdep hx hS
          simp only [putD, Act.put, List.setIfInBounds_toArray, List.set_cons_zero, List.set_cons_succ]
          go_simp
          have hk := hK.out (.bool true) _ (Adds.refl wq) ⟨s0, s1, s2, sA⟩ rfl (fun _ _ _ _ => ⟨trivial, trivial⟩)
          simp only [putD, Act.put, List.setIfInBounds_toArray, List.set_cons_zero, List.set_cons_succ] at hk
          exact hk
        exact rules_nil
      case hrest =>
        intro x wq hx hS hP
        obtain ⟨x0, x1, x2, x3, x4, x5, x6, x7, x8, x9, x10, x11, x12, x13, x14, x15, x16, x17, x18, x19, x20, x21, rfl⟩ := len22 hx
        obtain rfl : x0 = .agg #[.int .i64 (hiW cg), .int .u64 (loW cg)] := hP 0 (by decide) (by rfl)
        obtain rfl : x1 = .agg #[.int .i64 (hiW mn), .int .u64 (loW mn)] := hP 1 (by decide) (by rfl)
        obtain rfl : x2 = .int .i64 k1 := hP 2 (by decide) (by rfl)
        obtain rfl : x3 = .bool true := hP 3 (by decide) (by rfl)
        obtain rfl : x4 = .bool true := hP 4 (by decide) (by rfl)
        obtain rfl : x5 = undef := hP 5 (by decide) (by rfl)
        obtain rfl : x6 = undef := hP 6 (by decide) (by rfl)
        obtain rfl : x7 = undef := hP 7 (by decide) (by rfl)
        obtain rfl : x8 = undef := hP 8 (by decide) (by rfl)
        obtain rfl : x9 = undef := hP 9 (by decide) (by rfl)
        obtain rfl : x10 = undef := hP 10 (by decide) (by rfl)
        obtain rfl : x11 = undef := hP 11 (by decide) (by rfl)
        obtain rfl : x12 = undef := hP 12 (by decide) (by rfl)
        obtain rfl : x13 = undef := hP 13 (by decide) (by rfl)
        obtain rfl : x14 = undef := hP 14 (by decide) (by rfl)
        obtain rfl : x15 = undef := hP 15 (by decide) (by rfl)
        obtain rfl : x16 = undef := hP 16 (by decide) (by rfl)
        obtain rfl : x17 = undef := hP 17 (by decide) (by rfl)
        obtain rfl : x18 = undef := hP 18 (by decide) (by rfl)
        obtain rfl : x19 = undef := hP 19 (by decide) (by rfl)
        obtain rfl : x20 = .bool true := hP 20 (by decide) (by rfl)
        obtain rfl : x21 = .bool true := hP 21 (by decide) (by rfl)
        have s0 := hS.1
        have s1 := hS.2.1
        have s2 := hS.2.2.1
        have sA := hS.2.2.2
        clear hP hx hS
        simp only [putD, Act.put, List.setIfInBounds_toArray, List.set_cons_zero, List.set_cons_succ]
        refine rest_done (by kernel_rfl) ?_ _
        go_wp2
        go_ret
        exact ⟨ret_bool (by rw [hk1]; simp), sA.out⟩
    · have hk1 : decide (0 ≤ k1) = false := decide_eq_false hk
      clear hk
      by_cases hgn : 0 ≤ gain
      · have hgn1 : decide (0 ≤ gain) = true := decide_eq_true hgn
        clear hgn
        refine wp_region_rules (fun i => i != i) (fun wq => Hid (Box wq g13 #[.int .i64 (hiW cg), .int .u64 (loW cg)] 89) ∧ Hid (Box wq g12 #[.int .i64 (hiW mn), .int .u64 (loW mn)] 89) ∧ Hid (wq.rangeAt s 2 (a.pos.map (Value.int .i64))) ∧ Hid (Adds w wq)) Adds (fun i v wq => match i with | 0 => v = .agg #[.int .i64 (hiW cg), .int .u64 (loW cg)] | 1 => v = .agg #[.int .i64 (hiW mn), .int .u64 (loW mn)] | 2 => v = .int .i64 k1 | 3 => v = .bool false | 4 => v = .bool false | 5 => v = .int .i64 gain | 6 => v = .bool true | 7 => v = .bool true | 8 => v = .agg #[.int .i64 (hiW mn), .int .u64 (loW mn)] | 9 => v = .pointer (some ⟨b, 0, none⟩) | 10 => v = .pointer (some ⟨s, 2, none⟩) | 11 => v = .agg (a.pos.map (Value.int .i64)).toArray | 12 => v = .pointer (some ⟨b, 0, none⟩) | 13 => v = .pointer (some ⟨b, 0, none⟩) | 14 => v = .pointer (some ⟨b, 2, none⟩) | 15 => v = .agg (h.prices.map (Value.int .i64)).toArray | 16 => v = .agg #[.int .i64 (hiW mo), .int .u64 (loW mo)] | 17 => v = .int .i64 k2 | 18 => v = .bool (decide (k2 ≤ 0)) | 19 => v = .bool (decide (k2 ≤ 0)) | 20 => v = .bool (decide (k2 ≤ 0)) | 21 => v = .bool (decide (k2 ≤ 0)) | _ => True) (by kernel_rfl) (by kernel_rfl) (by kernel_rfl) (by kernel_rfl) 22 (by kernel_rfl) [some 35, some 36, some 37, some 38, some 39, some 40, some 41, some 42, some 43, some 44, some 45, some 46, some 47, some 48, some 49, some 50, some 51, some 52, some 53, some 54, some 55, some 10] (by kernel_rfl) 0 #[true, true, true, true, true, true, true, true, true, true, true, true, true, true, true, true, true, true, true, true, true, true] (by kernel_rfl) (by kernel_rfl) ?hS ?hstab ?hrules ?hrest
        case hS => exact ⟨Lib.hid KZ.out.drew, Lib.hid Y12.out.drew, Lib.hid YP.out, Lib.hid YA.out.drew⟩
        case hstab =>
          intro j v w1 w2 hst _ h
          match j, h with
          | 0, h => exact h
          | 1, h => exact h
          | 2, h => exact h
          | 3, h => exact h
          | 4, h => exact h
          | 5, h => exact h
          | 6, h => exact h
          | 7, h => exact h
          | 8, h => exact h
          | 9, h => exact h
          | 10, h => exact h
          | 11, h => exact h
          | 12, h => exact h
          | 13, h => exact h
          | 14, h => exact h
          | 15, h => exact h
          | 16, h => exact h
          | 17, h => exact h
          | 18, h => exact h
          | 19, h => exact h
          | 20, h => exact h
          | 21, h => exact h
          | _ + 22, h => trivial
        case hrules =>
          refine rules_cons (n := 22) (ds := [some 35, some 36, some 37, some 38, some 39, some 40, some 41, some 42, some 43, some 44, some 45, some 46, some 47, some 48, some 49, some 50, some 51, some 52, some 53, some 54, some 55, some 10]) (by kernel_rfl) (by kernel_rfl) [] rfl (by kernel_rfl) ?_ ?_
          · intro x wq hx hS hdep K hK
            obtain ⟨x0, x1, x2, x3, x4, x5, x6, x7, x8, x9, x10, x11, x12, x13, x14, x15, x16, x17, x18, x19, x20, x21, rfl⟩ := len22 hx
            have s0 := hS.1
            have s1 := hS.2.1
            have s2 := hS.2.2.1
            have sA := hS.2.2.2
            clear hdep hx hS
            simp only [putD, Act.put, List.setIfInBounds_toArray, List.set_cons_zero, List.set_cons_succ]
            have c0 : wq.cell? ⟨g13, 0, none⟩ = some (.int .i64 (hiW cg)) := s0.out.cell 0
            have c1 : wq.cell? ⟨g13, 1, none⟩ = some (.int .u64 (loW cg)) := s0.out.cell 1
            go_simp
            have hk := hK.out (.agg #[.int .i64 (hiW cg), .int .u64 (loW cg)]) _ (Adds.refl wq) ⟨s0, s1, s2, sA⟩ rfl (fun _ _ _ _ => ⟨trivial, trivial⟩)
            simp only [putD, Act.put, List.setIfInBounds_toArray, List.set_cons_zero, List.set_cons_succ] at hk
            exact hk
          refine rules_cons (n := 22) (ds := [some 35, some 36, some 37, some 38, some 39, some 40, some 41, some 42, some 43, some 44, some 45, some 46, some 47, some 48, some 49, some 50, some 51, some 52, some 53, some 54, some 55, some 10]) (by kernel_rfl) (by kernel_rfl) [] rfl (by kernel_rfl) ?_ ?_
          · intro x wq hx hS hdep K hK
            obtain ⟨x0, x1, x2, x3, x4, x5, x6, x7, x8, x9, x10, x11, x12, x13, x14, x15, x16, x17, x18, x19, x20, x21, rfl⟩ := len22 hx
            have s0 := hS.1
            have s1 := hS.2.1
            have s2 := hS.2.2.1
            have sA := hS.2.2.2
            clear hdep hx hS
            simp only [putD, Act.put, List.setIfInBounds_toArray, List.set_cons_zero, List.set_cons_succ]
            have c0 : wq.cell? ⟨g12, 0, none⟩ = some (.int .i64 (hiW mn)) := s1.out.cell 0
            have c1 : wq.cell? ⟨g12, 1, none⟩ = some (.int .u64 (loW mn)) := s1.out.cell 1
            go_simp
            have hk := hK.out (.agg #[.int .i64 (hiW mn), .int .u64 (loW mn)]) _ (Adds.refl wq) ⟨s0, s1, s2, sA⟩ rfl (fun _ _ _ _ => ⟨trivial, trivial⟩)
            simp only [putD, Act.put, List.setIfInBounds_toArray, List.set_cons_zero, List.set_cons_succ] at hk
            exact hk
          refine rules_cons (n := 22) (ds := [some 35, some 36, some 37, some 38, some 39, some 40, some 41, some 42, some 43, some 44, some 45, some 46, some 47, some 48, some 49, some 50, some 51, some 52, some 53, some 54, some 55, some 10]) (by kernel_rfl) (by kernel_rfl) [0, 1] rfl (by kernel_rfl) ?_ ?_
          · intro x wq hx hS hdep K hK
            obtain ⟨x0, x1, x2, x3, x4, x5, x6, x7, x8, x9, x10, x11, x12, x13, x14, x15, x16, x17, x18, x19, x20, x21, rfl⟩ := len22 hx
            obtain rfl : x0 = .agg #[.int .i64 (hiW cg), .int .u64 (loW cg)] := hdep 0 (by simp)
            obtain rfl : x1 = .agg #[.int .i64 (hiW mn), .int .u64 (loW mn)] := hdep 1 (by simp)
            have s0 := hS.1
            have s1 := hS.2.1
            have s2 := hS.2.2.1
            have sA := hS.2.2.2
            clear hdep hx hS
            simp only [putD, Act.put, List.setIfInBounds_toArray, List.set_cons_zero, List.set_cons_succ]
            go_simp
            go_at_call 42
            refine (HC1.out _).mono ?_
            rintro e w1 ⟨rfl, ha⟩
            have hk := hK.out (.int .i64 k1) _ ha ⟨Lib.hid (s0.out.later ha), Lib.hid (s1.out.later ha), Lib.hid (range_later s2.out ha), Lib.hid (sA.out.trans ha)⟩ rfl (fun _ _ _ _ => ⟨trivial, trivial⟩)
            simp only [putD, Act.put, List.setIfInBounds_toArray, List.set_cons_zero, List.set_cons_succ] at hk
            exact hk
          refine rules_cons (n := 22) (ds := [some 35, some 36, some 37, some 38, some 39, some 40, some 41, some 42, some 43, some 44, some 45, some 46, some 47, some 48, some 49, some 50, some 51, some 52, some 53, some 54, some 55, some 10]) (by kernel_rfl) (by kernel_rfl) [2] rfl (by kernel_rfl) ?_ ?_
          · intro x wq hx hS hdep K hK
            obtain ⟨x0, x1, x2, x3, x4, x5, x6, x7, x8, x9, x10, x11, x12, x13, x14, x15, x16, x17, x18, x19, x20, x21, rfl⟩ := len22 hx
            obtain rfl : x2 = .int .i64 k1 := hdep 2 (by simp)
            have s0 := hS.1
            have s1 := hS.2.1
            have s2 := hS.2.2.1
            have sA := hS.2.2.2
            clear hdep hx hS
            simp only [putD, Act.put, List.setIfInBounds_toArray, List.set_cons_zero, List.set_cons_succ]
            go_simp
            have hk := hK.out (.bool false) _ (Adds.refl wq) ⟨s0, s1, s2, sA⟩ rfl (fun _ _ _ _ => ⟨trivial, trivial⟩)
            simp only [putD, Act.put, List.setIfInBounds_toArray, List.set_cons_zero, List.set_cons_succ] at hk
            exact hk
          refine rules_cons (n := 22) (ds := [some 35, some 36, some 37, some 38, some 39, some 40, some 41, some 42, some 43, some 44, some 45, some 46, some 47, some 48, some 49, some 50, some 51, some 52, some 53, some 54, some 55, some 10]) (by kernel_rfl) (by kernel_rfl) [3] rfl (by kernel_rfl) ?_ ?_
          · intro x wq hx hS hdep K hK
            obtain ⟨x0, x1, x2, x3, x4, x5, x6, x7, x8, x9, x10, x11, x12, x13, x14, x15, x16, x17, x18, x19, x20, x21, rfl⟩ := len22 hx
            obtain rfl : x3 = .bool false := hdep 3 (by simp)
            have s0 := hS.1
            have s1 := hS.2.1
            have s2 := hS.2.2.1
            have sA := hS.2.2.2
            clear hdep hx hS
            simp only [putD, Act.put, List.setIfInBounds_toArray, List.set_cons_zero, List.set_cons_succ]
            go_simp
            have hk := hK.out (.bool false) _ (Adds.refl wq) ⟨s0, s1, s2, sA⟩ rfl (fun _ _ _ _ => ⟨trivial, trivial⟩)
            simp only [putD, Act.put, List.setIfInBounds_toArray, List.set_cons_zero, List.set_cons_succ] at hk
            exact hk
          refine rules_wanted (n := 22) (ds := [some 35, some 36, some 37, some 38, some 39, some 40, some 41, some 42, some 43, some 44, some 45, some 46, some 47, some 48, some 49, some 50, some 51, some 52, some 53, some 54, some 55, some 10]) (by kernel_rfl) (by kernel_rfl) [4] (by kernel_rfl) (fun x wq hx hS hdep => by obtain ⟨x0, x1, x2, x3, x4, x5, x6, x7, x8, x9, x10, x11, x12, x13, x14, x15, x16, x17, x18, x19, x20, x21, rfl⟩ := len22 hx; obtain rfl : x4 = .bool false := hdep 4 (by simp); exact (wanted_val (g := 4) (d := 39) rfl (by kernel_rfl) (by simp only [putD, Act.put, List.setIfInBounds_toArray, List.set_cons_zero, List.set_cons_succ]; rfl)).trans rfl) ?_ ?_
          · intro x wq hx hS hdep K hK
            obtain ⟨x0, x1, x2, x3, x4, x5, x6, x7, x8, x9, x10, x11, x12, x13, x14, x15, x16, x17, x18, x19, x20, x21, rfl⟩ := len22 hx
            obtain rfl : x4 = .bool false := hdep 4 (by simp)
            have s0 := hS.1
            have s1 := hS.2.1
            have s2 := hS.2.2.1
            have sA := hS.2.2.2
            clear hdep hx hS
            simp only [putD, Act.put, List.setIfInBounds_toArray, List.set_cons_zero, List.set_cons_succ]
            go_simp
            have hk := hK.out (.int .i64 gain) _ (Adds.refl wq) ⟨s0, s1, s2, sA⟩ rfl (fun _ _ _ _ => ⟨trivial, trivial⟩)
            simp only [putD, Act.put, List.setIfInBounds_toArray, List.set_cons_zero, List.set_cons_succ] at hk
            exact hk
          refine rules_wanted (n := 22) (ds := [some 35, some 36, some 37, some 38, some 39, some 40, some 41, some 42, some 43, some 44, some 45, some 46, some 47, some 48, some 49, some 50, some 51, some 52, some 53, some 54, some 55, some 10]) (by kernel_rfl) (by kernel_rfl) [4, 5] (by kernel_rfl) (fun x wq hx hS hdep => by obtain ⟨x0, x1, x2, x3, x4, x5, x6, x7, x8, x9, x10, x11, x12, x13, x14, x15, x16, x17, x18, x19, x20, x21, rfl⟩ := len22 hx; obtain rfl : x4 = .bool false := hdep 4 (by simp); exact (wanted_val (g := 4) (d := 39) rfl (by kernel_rfl) (by simp only [putD, Act.put, List.setIfInBounds_toArray, List.set_cons_zero, List.set_cons_succ]; rfl)).trans rfl) ?_ ?_
          · intro x wq hx hS hdep K hK
            obtain ⟨x0, x1, x2, x3, x4, x5, x6, x7, x8, x9, x10, x11, x12, x13, x14, x15, x16, x17, x18, x19, x20, x21, rfl⟩ := len22 hx
            obtain rfl : x4 = .bool false := hdep 4 (by simp)
            obtain rfl : x5 = .int .i64 gain := hdep 5 (by simp)
            have s0 := hS.1
            have s1 := hS.2.1
            have s2 := hS.2.2.1
            have sA := hS.2.2.2
            clear hdep hx hS
            simp only [putD, Act.put, List.setIfInBounds_toArray, List.set_cons_zero, List.set_cons_succ]
            go_simp
            have hk := hK.out (.bool true) _ (Adds.refl wq) ⟨s0, s1, s2, sA⟩ rfl (fun _ _ _ _ => ⟨trivial, trivial⟩)
            simp only [putD, Act.put, List.setIfInBounds_toArray, List.set_cons_zero, List.set_cons_succ] at hk
            exact hk
          refine rules_wanted (n := 22) (ds := [some 35, some 36, some 37, some 38, some 39, some 40, some 41, some 42, some 43, some 44, some 45, some 46, some 47, some 48, some 49, some 50, some 51, some 52, some 53, some 54, some 55, some 10]) (by kernel_rfl) (by kernel_rfl) [4, 6] (by kernel_rfl) (fun x wq hx hS hdep => by obtain ⟨x0, x1, x2, x3, x4, x5, x6, x7, x8, x9, x10, x11, x12, x13, x14, x15, x16, x17, x18, x19, x20, x21, rfl⟩ := len22 hx; obtain rfl : x4 = .bool false := hdep 4 (by simp); exact (wanted_val (g := 4) (d := 39) rfl (by kernel_rfl) (by simp only [putD, Act.put, List.setIfInBounds_toArray, List.set_cons_zero, List.set_cons_succ]; rfl)).trans rfl) ?_ ?_
          · intro x wq hx hS hdep K hK
            obtain ⟨x0, x1, x2, x3, x4, x5, x6, x7, x8, x9, x10, x11, x12, x13, x14, x15, x16, x17, x18, x19, x20, x21, rfl⟩ := len22 hx
            obtain rfl : x4 = .bool false := hdep 4 (by simp)
            obtain rfl : x6 = .bool true := hdep 6 (by simp)
            have s0 := hS.1
            have s1 := hS.2.1
            have s2 := hS.2.2.1
            have sA := hS.2.2.2
            clear hdep hx hS
            simp only [putD, Act.put, List.setIfInBounds_toArray, List.set_cons_zero, List.set_cons_succ]
            go_simp
            have hk := hK.out (.bool true) _ (Adds.refl wq) ⟨s0, s1, s2, sA⟩ rfl (fun _ _ _ _ => ⟨trivial, trivial⟩)
            simp only [putD, Act.put, List.setIfInBounds_toArray, List.set_cons_zero, List.set_cons_succ] at hk
            exact hk
          refine rules_wanted (n := 22) (ds := [some 35, some 36, some 37, some 38, some 39, some 40, some 41, some 42, some 43, some 44, some 45, some 46, some 47, some 48, some 49, some 50, some 51, some 52, some 53, some 54, some 55, some 10]) (by kernel_rfl) (by kernel_rfl) [7] (by kernel_rfl) (fun x wq hx hS hdep => by obtain ⟨x0, x1, x2, x3, x4, x5, x6, x7, x8, x9, x10, x11, x12, x13, x14, x15, x16, x17, x18, x19, x20, x21, rfl⟩ := len22 hx; obtain rfl : x7 = .bool true := hdep 7 (by simp); exact (wanted_val (g := 7) (d := 42) rfl (by kernel_rfl) (by simp only [putD, Act.put, List.setIfInBounds_toArray, List.set_cons_zero, List.set_cons_succ]; rfl)).trans rfl) ?_ ?_
          · intro x wq hx hS hdep K hK
            obtain ⟨x0, x1, x2, x3, x4, x5, x6, x7, x8, x9, x10, x11, x12, x13, x14, x15, x16, x17, x18, x19, x20, x21, rfl⟩ := len22 hx
            obtain rfl : x7 = .bool true := hdep 7 (by simp)
            have s0 := hS.1
            have s1 := hS.2.1
            have s2 := hS.2.2.1
            have sA := hS.2.2.2
            clear hdep hx hS
            simp only [putD, Act.put, List.setIfInBounds_toArray, List.set_cons_zero, List.set_cons_succ]
            have c0 : wq.cell? ⟨g12, 0, none⟩ = some (.int .i64 (hiW mn)) := s1.out.cell 0
            have c1 : wq.cell? ⟨g12, 1, none⟩ = some (.int .u64 (loW mn)) := s1.out.cell 1
            go_simp
            have hk := hK.out (.agg #[.int .i64 (hiW mn), .int .u64 (loW mn)]) _ (Adds.refl wq) ⟨s0, s1, s2, sA⟩ rfl (fun _ _ _ _ => ⟨trivial, trivial⟩)
            simp only [putD, Act.put, List.setIfInBounds_toArray, List.set_cons_zero, List.set_cons_succ] at hk
            exact hk
          refine rules_wanted (n := 22) (ds := [some 35, some 36, some 37, some 38, some 39, some 40, some 41, some 42, some 43, some 44, some 45, some 46, some 47, some 48, some 49, some 50, some 51, some 52, some 53, some 54, some 55, some 10]) (by kernel_rfl) (by kernel_rfl) [7] (by kernel_rfl) (fun x wq hx hS hdep => by obtain ⟨x0, x1, x2, x3, x4, x5, x6, x7, x8, x9, x10, x11, x12, x13, x14, x15, x16, x17, x18, x19, x20, x21, rfl⟩ := len22 hx; obtain rfl : x7 = .bool true := hdep 7 (by simp); exact (wanted_val (g := 7) (d := 42) rfl (by kernel_rfl) (by simp only [putD, Act.put, List.setIfInBounds_toArray, List.set_cons_zero, List.set_cons_succ]; rfl)).trans rfl) ?_ ?_
          · intro x wq hx hS hdep K hK
            obtain ⟨x0, x1, x2, x3, x4, x5, x6, x7, x8, x9, x10, x11, x12, x13, x14, x15, x16, x17, x18, x19, x20, x21, rfl⟩ := len22 hx
            obtain rfl : x7 = .bool true := hdep 7 (by simp)
            have s0 := hS.1
            have s1 := hS.2.1
            have s2 := hS.2.2.1
            have sA := hS.2.2.2
            clear hdep hx hS
            simp only [putD, Act.put, List.setIfInBounds_toArray, List.set_cons_zero, List.set_cons_succ]
            go_simp
            have hk := hK.out (.pointer (some ⟨b, 0, none⟩)) _ (Adds.refl wq) ⟨s0, s1, s2, sA⟩ rfl (fun _ _ _ _ => ⟨trivial, trivial⟩)
            simp only [putD, Act.put, List.setIfInBounds_toArray, List.set_cons_zero, List.set_cons_succ] at hk
            exact hk
          refine rules_wanted (n := 22) (ds := [some 35, some 36, some 37, some 38, some 39, some 40, some 41, some 42, some 43, some 44, some 45, some 46, some 47, some 48, some 49, some 50, some 51, some 52, some 53, some 54, some 55, some 10]) (by kernel_rfl) (by kernel_rfl) [7] (by kernel_rfl) (fun x wq hx hS hdep => by obtain ⟨x0, x1, x2, x3, x4, x5, x6, x7, x8, x9, x10, x11, x12, x13, x14, x15, x16, x17, x18, x19, x20, x21, rfl⟩ := len22 hx; obtain rfl : x7 = .bool true := hdep 7 (by simp); exact (wanted_val (g := 7) (d := 42) rfl (by kernel_rfl) (by simp only [putD, Act.put, List.setIfInBounds_toArray, List.set_cons_zero, List.set_cons_succ]; rfl)).trans rfl) ?_ ?_
          · intro x wq hx hS hdep K hK
            obtain ⟨x0, x1, x2, x3, x4, x5, x6, x7, x8, x9, x10, x11, x12, x13, x14, x15, x16, x17, x18, x19, x20, x21, rfl⟩ := len22 hx
            obtain rfl : x7 = .bool true := hdep 7 (by simp)
            have s0 := hS.1
            have s1 := hS.2.1
            have s2 := hS.2.2.1
            have sA := hS.2.2.2
            clear hdep hx hS
            simp only [putD, Act.put, List.setIfInBounds_toArray, List.set_cons_zero, List.set_cons_succ]
            go_simp
            have hk := hK.out (.pointer (some ⟨s, 2, none⟩)) _ (Adds.refl wq) ⟨s0, s1, s2, sA⟩ rfl (fun _ _ _ _ => ⟨trivial, trivial⟩)
            simp only [putD, Act.put, List.setIfInBounds_toArray, List.set_cons_zero, List.set_cons_succ] at hk
            exact hk
          refine rules_wanted (n := 22) (ds := [some 35, some 36, some 37, some 38, some 39, some 40, some 41, some 42, some 43, some 44, some 45, some 46, some 47, some 48, some 49, some 50, some 51, some 52, some 53, some 54, some 55, some 10]) (by kernel_rfl) (by kernel_rfl) [7, 10] (by kernel_rfl) (fun x wq hx hS hdep => by obtain ⟨x0, x1, x2, x3, x4, x5, x6, x7, x8, x9, x10, x11, x12, x13, x14, x15, x16, x17, x18, x19, x20, x21, rfl⟩ := len22 hx; obtain rfl : x7 = .bool true := hdep 7 (by simp); exact (wanted_val (g := 7) (d := 42) rfl (by kernel_rfl) (by simp only [putD, Act.put, List.setIfInBounds_toArray, List.set_cons_zero, List.set_cons_succ]; rfl)).trans rfl) ?_ ?_
          · intro x wq hx hS hdep K hK
            obtain ⟨x0, x1, x2, x3, x4, x5, x6, x7, x8, x9, x10, x11, x12, x13, x14, x15, x16, x17, x18, x19, x20, x21, rfl⟩ := len22 hx
            obtain rfl : x7 = .bool true := hdep 7 (by simp)
            obtain rfl : x10 = .pointer (some ⟨s, 2, none⟩) := hdep 10 (by simp)
            have s0 := hS.1
            have s1 := hS.2.1
            have s2 := hS.2.2.1
            have sA := hS.2.2.2
            clear hdep hx hS
            simp only [putD, Act.put, List.setIfInBounds_toArray, List.set_cons_zero, List.set_cons_succ]
            refine wp_load_mid 61 _ rfl s 2 rfl (a.pos.map (Value.int .i64)) _ s2.out Try.underlying61 rfl (by rw [info_month, HPO.out]) ?_
            have hk := hK.out (.agg (a.pos.map (Value.int .i64)).toArray) _ (Adds.refl wq) ⟨s0, s1, s2, sA⟩ rfl (fun _ _ _ _ => ⟨trivial, trivial⟩)
            simp only [putD, Act.put, List.setIfInBounds_toArray, List.set_cons_zero, List.set_cons_succ] at hk
            exact hk
          refine rules_wanted (n := 22) (ds := [some 35, some 36, some 37, some 38, some 39, some 40, some 41, some 42, some 43, some 44, some 45, some 46, some 47, some 48, some 49, some 50, some 51, some 52, some 53, some 54, some 55, some 10]) (by kernel_rfl) (by kernel_rfl) [7] (by kernel_rfl) (fun x wq hx hS hdep => by obtain ⟨x0, x1, x2, x3, x4, x5, x6, x7, x8, x9, x10, x11, x12, x13, x14, x15, x16, x17, x18, x19, x20, x21, rfl⟩ := len22 hx; obtain rfl : x7 = .bool true := hdep 7 (by simp); exact (wanted_val (g := 7) (d := 42) rfl (by kernel_rfl) (by simp only [putD, Act.put, List.setIfInBounds_toArray, List.set_cons_zero, List.set_cons_succ]; rfl)).trans rfl) ?_ ?_
          · intro x wq hx hS hdep K hK
            obtain ⟨x0, x1, x2, x3, x4, x5, x6, x7, x8, x9, x10, x11, x12, x13, x14, x15, x16, x17, x18, x19, x20, x21, rfl⟩ := len22 hx
            obtain rfl : x7 = .bool true := hdep 7 (by simp)
            have s0 := hS.1
            have s1 := hS.2.1
            have s2 := hS.2.2.1
            have sA := hS.2.2.2
            clear hdep hx hS
            simp only [putD, Act.put, List.setIfInBounds_toArray, List.set_cons_zero, List.set_cons_succ]
            go_simp
            have hk := hK.out (.pointer (some ⟨b, 0, none⟩)) _ (Adds.refl wq) ⟨s0, s1, s2, sA⟩ rfl (fun _ _ _ _ => ⟨trivial, trivial⟩)
            simp only [putD, Act.put, List.setIfInBounds_toArray, List.set_cons_zero, List.set_cons_succ] at hk
            exact hk
          refine rules_wanted (n := 22) (ds := [some 35, some 36, some 37, some 38, some 39, some 40, some 41, some 42, some 43, some 44, some 45, some 46, some 47, some 48, some 49, some 50, some 51, some 52, some 53, some 54, some 55, some 10]) (by kernel_rfl) (by kernel_rfl) [7, 12] (by kernel_rfl) (fun x wq hx hS hdep => by obtain ⟨x0, x1, x2, x3, x4, x5, x6, x7, x8, x9, x10, x11, x12, x13, x14, x15, x16, x17, x18, x19, x20, x21, rfl⟩ := len22 hx; obtain rfl : x7 = .bool true := hdep 7 (by simp); exact (wanted_val (g := 7) (d := 42) rfl (by kernel_rfl) (by simp only [putD, Act.put, List.setIfInBounds_toArray, List.set_cons_zero, List.set_cons_succ]; rfl)).trans rfl) ?_ ?_
          · intro x wq hx hS hdep K hK
            obtain ⟨x0, x1, x2, x3, x4, x5, x6, x7, x8, x9, x10, x11, x12, x13, x14, x15, x16, x17, x18, x19, x20, x21, rfl⟩ := len22 hx
            obtain rfl : x7 = .bool true := hdep 7 (by simp)
            obtain rfl : x12 = .pointer (some ⟨b, 0, none⟩) := hdep 12 (by simp)
            have s0 := hS.1
            have s1 := hS.2.1
            have s2 := hS.2.2.1
            have sA := hS.2.2.2
            clear hdep hx hS
            simp only [putD, Act.put, List.setIfInBounds_toArray, List.set_cons_zero, List.set_cons_succ]
            go_simp
            have hk := hK.out (.pointer (some ⟨b, 0, none⟩)) _ (Adds.refl wq) ⟨s0, s1, s2, sA⟩ rfl (fun _ _ _ _ => ⟨trivial, trivial⟩)
            simp only [putD, Act.put, List.setIfInBounds_toArray, List.set_cons_zero, List.set_cons_succ] at hk
            exact hk
          refine rules_wanted (n := 22) (ds := [some 35, some 36, some 37, some 38, some 39, some 40, some 41, some 42, some 43, some 44, some 45, some 46, some 47, some 48, some 49, some 50, some 51, some 52, some 53, some 54, some 55, some 10]) (by kernel_rfl) (by kernel_rfl) [7, 13] (by kernel_rfl) (fun x wq hx hS hdep => by obtain ⟨x0, x1, x2, x3, x4, x5, x6, x7, x8, x9, x10, x11, x12, x13, x14, x15, x16, x17, x18, x19, x20, x21, rfl⟩ := len22 hx; obtain rfl : x7 = .bool true := hdep 7 (by simp); exact (wanted_val (g := 7) (d := 42) rfl (by kernel_rfl) (by simp only [putD, Act.put, List.setIfInBounds_toArray, List.set_cons_zero, List.set_cons_succ]; rfl)).trans rfl) ?_ ?_
          · intro x wq hx hS hdep K hK
            obtain ⟨x0, x1, x2, x3, x4, x5, x6, x7, x8, x9, x10, x11, x12, x13, x14, x15, x16, x17, x18, x19, x20, x21, rfl⟩ := len22 hx
            obtain rfl : x7 = .bool true := hdep 7 (by simp)
            obtain rfl : x13 = .pointer (some ⟨b, 0, none⟩) := hdep 13 (by simp)
            have s0 := hS.1
            have s1 := hS.2.1
            have s2 := hS.2.2.1
            have sA := hS.2.2.2
            clear hdep hx hS
            simp only [putD, Act.put, List.setIfInBounds_toArray, List.set_cons_zero, List.set_cons_succ]
            go_simp
            have hk := hK.out (.pointer (some ⟨b, 2, none⟩)) _ (Adds.refl wq) ⟨s0, s1, s2, sA⟩ rfl (fun _ _ _ _ => ⟨trivial, trivial⟩)
            simp only [putD, Act.put, List.setIfInBounds_toArray, List.set_cons_zero, List.set_cons_succ] at hk
            exact hk
          refine rules_wanted (n := 22) (ds := [some 35, some 36, some 37, some 38, some 39, some 40, some 41, some 42, some 43, some 44, some 45, some 46, some 47, some 48, some 49, some 50, some 51, some 52, some 53, some 54, some 55, some 10]) (by kernel_rfl) (by kernel_rfl) [7, 14] (by kernel_rfl) (fun x wq hx hS hdep => by obtain ⟨x0, x1, x2, x3, x4, x5, x6, x7, x8, x9, x10, x11, x12, x13, x14, x15, x16, x17, x18, x19, x20, x21, rfl⟩ := len22 hx; obtain rfl : x7 = .bool true := hdep 7 (by simp); exact (wanted_val (g := 7) (d := 42) rfl (by kernel_rfl) (by simp only [putD, Act.put, List.setIfInBounds_toArray, List.set_cons_zero, List.set_cons_succ]; rfl)).trans rfl) ?_ ?_
          · intro x wq hx hS hdep K hK
            obtain ⟨x0, x1, x2, x3, x4, x5, x6, x7, x8, x9, x10, x11, x12, x13, x14, x15, x16, x17, x18, x19, x20, x21, rfl⟩ := len22 hx
            obtain rfl : x7 = .bool true := hdep 7 (by simp)
            obtain rfl : x14 = .pointer (some ⟨b, 2, none⟩) := hdep 14 (by simp)
            have s0 := hS.1
            have s1 := hS.2.1
            have s2 := hS.2.2.1
            have sA := hS.2.2.2
            clear hdep hx hS
            simp only [putD, Act.put, List.setIfInBounds_toArray, List.set_cons_zero, List.set_cons_succ]
            refine wp_load_mid 61 _ rfl b 2 rfl (h.prices.map (Value.int .i64)) _ (HR.out.later sA.out).pr Try.underlying61 rfl (by rw [info_month, List.length_map, HCH.out]) ?_
            have hk := hK.out (.agg (h.prices.map (Value.int .i64)).toArray) _ (Adds.refl wq) ⟨s0, s1, s2, sA⟩ rfl (fun _ _ _ _ => ⟨trivial, trivial⟩)
            simp only [putD, Act.put, List.setIfInBounds_toArray, List.set_cons_zero, List.set_cons_succ] at hk
            exact hk
          refine rules_wanted (n := 22) (ds := [some 35, some 36, some 37, some 38, some 39, some 40, some 41, some 42, some 43, some 44, some 45, some 46, some 47, some 48, some 49, some 50, some 51, some 52, some 53, some 54, some 55, some 10]) (by kernel_rfl) (by kernel_rfl) [7, 9, 11, 15] (by kernel_rfl) (fun x wq hx hS hdep => by obtain ⟨x0, x1, x2, x3, x4, x5, x6, x7, x8, x9, x10, x11, x12, x13, x14, x15, x16, x17, x18, x19, x20, x21, rfl⟩ := len22 hx; obtain rfl : x7 = .bool true := hdep 7 (by simp); exact (wanted_val (g := 7) (d := 42) rfl (by kernel_rfl) (by simp only [putD, Act.put, List.setIfInBounds_toArray, List.set_cons_zero, List.set_cons_succ]; rfl)).trans rfl) ?_ ?_
          · intro x wq hx hS hdep K hK
            obtain ⟨x0, x1, x2, x3, x4, x5, x6, x7, x8, x9, x10, x11, x12, x13, x14, x15, x16, x17, x18, x19, x20, x21, rfl⟩ := len22 hx
            obtain rfl : x7 = .bool true := hdep 7 (by simp)
            obtain rfl : x9 = .pointer (some ⟨b, 0, none⟩) := hdep 9 (by simp)
            obtain rfl : x11 = .agg (a.pos.map (Value.int .i64)).toArray := hdep 11 (by simp)
            obtain rfl : x15 = .agg (h.prices.map (Value.int .i64)).toArray := hdep 15 (by simp)
            have s0 := hS.1
            have s1 := hS.2.1
            have s2 := hS.2.2.1
            have sA := hS.2.2.2
            clear hdep hx hS
            simp only [putD, Act.put, List.setIfInBounds_toArray, List.set_cons_zero, List.set_cons_succ]
            go_simp
            go_at_call 39
            refine (HM2.out _ sA.out).mono ?_
            rintro e w1 ⟨rfl, ha⟩
            have hk := hK.out (.agg #[.int .i64 (hiW mo), .int .u64 (loW mo)]) _ ha ⟨Lib.hid (s0.out.later ha), Lib.hid (s1.out.later ha), Lib.hid (range_later s2.out ha), Lib.hid (sA.out.trans ha)⟩ rfl (fun _ _ _ _ => ⟨trivial, trivial⟩)
            simp only [putD, Act.put, List.setIfInBounds_toArray, List.set_cons_zero, List.set_cons_succ] at hk
            exact hk
          refine rules_wanted (n := 22) (ds := [some 35, some 36, some 37, some 38, some 39, some 40, some 41, some 42, some 43, some 44, some 45, some 46, some 47, some 48, some 49, some 50, some 51, some 52, some 53, some 54, some 55, some 10]) (by kernel_rfl) (by kernel_rfl) [7, 8, 16] (by kernel_rfl) (fun x wq hx hS hdep => by obtain ⟨x0, x1, x2, x3, x4, x5, x6, x7, x8, x9, x10, x11, x12, x13, x14, x15, x16, x17, x18, x19, x20, x21, rfl⟩ := len22 hx; obtain rfl : x7 = .bool true := hdep 7 (by simp); exact (wanted_val (g := 7) (d := 42) rfl (by kernel_rfl) (by simp only [putD, Act.put, List.setIfInBounds_toArray, List.set_cons_zero, List.set_cons_succ]; rfl)).trans rfl) ?_ ?_
          · intro x wq hx hS hdep K hK
            obtain ⟨x0, x1, x2, x3, x4, x5, x6, x7, x8, x9, x10, x11, x12, x13, x14, x15, x16, x17, x18, x19, x20, x21, rfl⟩ := len22 hx
            obtain rfl : x7 = .bool true := hdep 7 (by simp)
            obtain rfl : x8 = .agg #[.int .i64 (hiW mn), .int .u64 (loW mn)] := hdep 8 (by simp)
            obtain rfl : x16 = .agg #[.int .i64 (hiW mo), .int .u64 (loW mo)] := hdep 16 (by simp)
            have s0 := hS.1
            have s1 := hS.2.1
            have s2 := hS.2.2.1
            have sA := hS.2.2.2
            clear hdep hx hS
            simp only [putD, Act.put, List.setIfInBounds_toArray, List.set_cons_zero, List.set_cons_succ]
            go_simp
            go_at_call 42
            refine (HC2.out _).mono ?_
            rintro e w1 ⟨rfl, ha⟩
            have hk := hK.out (.int .i64 k2) _ ha ⟨Lib.hid (s0.out.later ha), Lib.hid (s1.out.later ha), Lib.hid (range_later s2.out ha), Lib.hid (sA.out.trans ha)⟩ rfl (fun _ _ _ _ => ⟨trivial, trivial⟩)
            simp only [putD, Act.put, List.setIfInBounds_toArray, List.set_cons_zero, List.set_cons_succ] at hk
            exact hk
          refine rules_wanted (n := 22) (ds := [some 35, some 36, some 37, some 38, some 39, some 40, some 41, some 42, some 43, some 44, some 45, some 46, some 47, some 48, some 49, some 50, some 51, some 52, some 53, some 54, some 55, some 10]) (by kernel_rfl) (by kernel_rfl) [7, 17] (by kernel_rfl) (fun x wq hx hS hdep => by obtain ⟨x0, x1, x2, x3, x4, x5, x6, x7, x8, x9, x10, x11, x12, x13, x14, x15, x16, x17, x18, x19, x20, x21, rfl⟩ := len22 hx; obtain rfl : x7 = .bool true := hdep 7 (by simp); exact (wanted_val (g := 7) (d := 42) rfl (by kernel_rfl) (by simp only [putD, Act.put, List.setIfInBounds_toArray, List.set_cons_zero, List.set_cons_succ]; rfl)).trans rfl) ?_ ?_
          · intro x wq hx hS hdep K hK
            obtain ⟨x0, x1, x2, x3, x4, x5, x6, x7, x8, x9, x10, x11, x12, x13, x14, x15, x16, x17, x18, x19, x20, x21, rfl⟩ := len22 hx
            obtain rfl : x7 = .bool true := hdep 7 (by simp)
            obtain rfl : x17 = .int .i64 k2 := hdep 17 (by simp)
            have s0 := hS.1
            have s1 := hS.2.1
            have s2 := hS.2.2.1
            have sA := hS.2.2.2
            clear hdep hx hS
            simp only [putD, Act.put, List.setIfInBounds_toArray, List.set_cons_zero, List.set_cons_succ]
            go_simp
            have hk := hK.out (.bool (decide (k2 ≤ 0))) _ (Adds.refl wq) ⟨s0, s1, s2, sA⟩ rfl (fun _ _ _ _ => ⟨trivial, trivial⟩)
            simp only [putD, Act.put, List.setIfInBounds_toArray, List.set_cons_zero, List.set_cons_succ] at hk
            exact hk
          refine rules_wanted (n := 22) (ds := [some 35, some 36, some 37, some 38, some 39, some 40, some 41, some 42, some 43, some 44, some 45, some 46, some 47, some 48, some 49, some 50, some 51, some 52, some 53, some 54, some 55, some 10]) (by kernel_rfl) (by kernel_rfl) [4, 7, 18] (by kernel_rfl) (fun x wq hx hS hdep => by obtain ⟨x0, x1, x2, x3, x4, x5, x6, x7, x8, x9, x10, x11, x12, x13, x14, x15, x16, x17, x18, x19, x20, x21, rfl⟩ := len22 hx; obtain rfl : x4 = .bool false := hdep 4 (by simp); exact (wanted_val (g := 4) (d := 39) rfl (by kernel_rfl) (by simp only [putD, Act.put, List.setIfInBounds_toArray, List.set_cons_zero, List.set_cons_succ]; rfl)).trans rfl) ?_ ?_
          · intro x wq hx hS hdep K hK
            obtain ⟨x0, x1, x2, x3, x4, x5, x6, x7, x8, x9, x10, x11, x12, x13, x14, x15, x16, x17, x18, x19, x20, x21, rfl⟩ := len22 hx
            obtain rfl : x4 = .bool false := hdep 4 (by simp)
            obtain rfl : x7 = .bool true := hdep 7 (by simp)
            obtain rfl : x18 = .bool (decide (k2 ≤ 0)) := hdep 18 (by simp)
            have s0 := hS.1
            have s1 := hS.2.1
            have s2 := hS.2.2.1
            have sA := hS.2.2.2
            clear hdep hx hS
            simp only [putD, Act.put, List.setIfInBounds_toArray, List.set_cons_zero, List.set_cons_succ]
            go_simp
            have hk := hK.out (.bool (decide (k2 ≤ 0))) _ (Adds.refl wq) ⟨s0, s1, s2, sA⟩ rfl (fun _ _ _ _ => ⟨trivial, trivial⟩)
            simp only [putD, Act.put, List.setIfInBounds_toArray, List.set_cons_zero, List.set_cons_succ] at hk
            exact hk
          refine rules_cons (n := 22) (ds := [some 35, some 36, some 37, some 38, some 39, some 40, some 41, some 42, some 43, some 44, some 45, some 46, some 47, some 48, some 49, some 50, some 51, some 52, some 53, some 54, some 55, some 10]) (by kernel_rfl) (by kernel_rfl) [4, 19] rfl (by kernel_rfl) ?_ ?_
          · intro x wq hx hS hdep K hK
            obtain ⟨x0, x1, x2, x3, x4, x5, x6, x7, x8, x9, x10, x11, x12, x13, x14, x15, x16, x17, x18, x19, x20, x21, rfl⟩ := len22 hx
            obtain rfl : x4 = .bool false := hdep 4 (by simp)
            obtain rfl : x19 = .bool (decide (k2 ≤ 0)) := hdep 19 (by simp)
            have s0 := hS.1
            have s1 := hS.2.1
            have s2 := hS.2.2.1
            have sA := hS.2.2.2
            clear hdep hx hS
            simp only [putD, Act.put, List.setIfInBounds_toArray, List.set_cons_zero, List.set_cons_succ]
            go_simp
            have hk := hK.out (.bool (decide (k2 ≤ 0))) _ (Adds.refl wq) ⟨s0, s1, s2, sA⟩ rfl (fun _ _ _ _ => ⟨trivial, trivial⟩)
            simp only [putD, Act.put, List.setIfInBounds_toArray, List.set_cons_zero, List.set_cons_succ] at hk
            exact hk
          refine rules_cons (n := 22) (ds := [some 35, some 36, some 37, some 38, some 39, some 40, some 41, some 42, some 43, some 44, some 45, some 46, some 47, some 48, some 49, some 50, some 51, some 52, some 53, some 54, some 55, some 10]) (by kernel_rfl) (by kernel_rfl) [20] rfl (by kernel_rfl) ?_ ?_
          · intro x wq hx hS hdep K hK
            obtain ⟨x0, x1, x2, x3, x4, x5, x6, x7, x8, x9, x10, x11, x12, x13, x14, x15, x16, x17, x18, x19, x20, x21, rfl⟩ := len22 hx
            obtain rfl : x20 = .bool (decide (k2 ≤ 0)) := hdep 20 (by simp)
            have s0 := hS.1
            have s1 := hS.2.1
            have s2 := hS.2.2.1
            have sA := hS.2.2.2
            clear hdep hx hS
            simp only [putD, Act.put, List.setIfInBounds_toArray, List.set_cons_zero, List.set_cons_succ]
            go_simp
            have hk := hK.out (.bool (decide (k2 ≤ 0))) _ (Adds.refl wq) ⟨s0, s1, s2, sA⟩ rfl (fun _ _ _ _ => ⟨trivial, trivial⟩)
            simp only [putD, Act.put, List.setIfInBounds_toArray, List.set_cons_zero, List.set_cons_succ] at hk
            exact hk
          exact rules_nil
        case hrest =>
          intro x wq hx hS hP
          obtain ⟨x0, x1, x2, x3, x4, x5, x6, x7, x8, x9, x10, x11, x12, x13, x14, x15, x16, x17, x18, x19, x20, x21, rfl⟩ := len22 hx
          obtain rfl : x0 = .agg #[.int .i64 (hiW cg), .int .u64 (loW cg)] := hP 0 (by decide) (by rfl)
          obtain rfl : x1 = .agg #[.int .i64 (hiW mn), .int .u64 (loW mn)] := hP 1 (by decide) (by rfl)
          obtain rfl : x2 = .int .i64 k1 := hP 2 (by decide) (by rfl)
          obtain rfl : x3 = .bool false := hP 3 (by decide) (by rfl)
          obtain rfl : x4 = .bool false := hP 4 (by decide) (by rfl)
          obtain rfl : x5 = .int .i64 gain := hP 5 (by decide) (by rfl)
          obtain rfl : x6 = .bool true := hP 6 (by decide) (by rfl)
          obtain rfl : x7 = .bool true := hP 7 (by decide) (by rfl)
          obtain rfl : x8 = .agg #[.int .i64 (hiW mn), .int .u64 (loW mn)] := hP 8 (by decide) (by rfl)
          obtain rfl : x9 = .pointer (some ⟨b, 0, none⟩) := hP 9 (by decide) (by rfl)
          obtain rfl : x10 = .pointer (some ⟨s, 2, none⟩) := hP 10 (by decide) (by rfl)
          obtain rfl : x11 = .agg (a.pos.map (Value.int .i64)).toArray := hP 11 (by decide) (by rfl)
          obtain rfl : x12 = .pointer (some ⟨b, 0, none⟩) := hP 12 (by decide) (by rfl)
          obtain rfl : x13 = .pointer (some ⟨b, 0, none⟩) := hP 13 (by decide) (by rfl)
          obtain rfl : x14 = .pointer (some ⟨b, 2, none⟩) := hP 14 (by decide) (by rfl)
          obtain rfl : x15 = .agg (h.prices.map (Value.int .i64)).toArray := hP 15 (by decide) (by rfl)
          obtain rfl : x16 = .agg #[.int .i64 (hiW mo), .int .u64 (loW mo)] := hP 16 (by decide) (by rfl)
          obtain rfl : x17 = .int .i64 k2 := hP 17 (by decide) (by rfl)
          obtain rfl : x18 = .bool (decide (k2 ≤ 0)) := hP 18 (by decide) (by rfl)
          obtain rfl : x19 = .bool (decide (k2 ≤ 0)) := hP 19 (by decide) (by rfl)
          obtain rfl : x20 = .bool (decide (k2 ≤ 0)) := hP 20 (by decide) (by rfl)
          obtain rfl : x21 = .bool (decide (k2 ≤ 0)) := hP 21 (by decide) (by rfl)
          have s0 := hS.1
          have s1 := hS.2.1
          have s2 := hS.2.2.1
          have sA := hS.2.2.2
          clear hP hx hS
          simp only [putD, Act.put, List.setIfInBounds_toArray, List.set_cons_zero, List.set_cons_succ]
          refine rest_done (by kernel_rfl) ?_ _
          go_wp2
          go_ret
          exact ⟨ret_bool (by rw [hk1, hgn1]; simp), sA.out⟩
      · have hgn1 : decide (0 ≤ gain) = false := decide_eq_false hgn
        clear hgn
        refine wp_region_rules (fun i => i != i) (fun wq => Hid (Box wq g13 #[.int .i64 (hiW cg), .int .u64 (loW cg)] 89) ∧ Hid (Box wq g12 #[.int .i64 (hiW mn), .int .u64 (loW mn)] 89) ∧ Hid (wq.rangeAt s 2 (a.pos.map (Value.int .i64))) ∧ Hid (Adds w wq)) Adds (fun i v wq => match i with | 0 => v = .agg #[.int .i64 (hiW cg), .int .u64 (loW cg)] | 1 => v = .agg #[.int .i64 (hiW mn), .int .u64 (loW mn)] | 2 => v = .int .i64 k1 | 3 => v = .bool false | 4 => v = .bool false | 5 => v = .int .i64 gain | 6 => v = .bool false | 7 => v = .bool false | 8 => v = undef | 9 => v = undef | 10 => v = undef | 11 => v = undef | 12 => v = undef | 13 => v = undef | 14 => v = undef | 15 => v = undef | 16 => v = undef | 17 => v = undef | 18 => v = undef | 19 => v = .bool false | 20 => v = .bool false | 21 => v = .bool false | _ => True) (by kernel_rfl) (by kernel_rfl) (by kernel_rfl) (by kernel_rfl) 22 (by kernel_rfl) [some 35, some 36, some 37, some 38, some 39, some 40, some 41, some 42, some 43, some 44, some 45, some 46, some 47, some 48, some 49, some 50, some 51, some 52, some 53, some 54, some 55, some 10] (by kernel_rfl) 0 #[true, true, true, true, true, true, true, true, true, true, true, true, true, true, true, true, true, true, true, true, true, true] (by kernel_rfl) (by kernel_rfl) ?hS ?hstab ?hrules ?hrest
        case hS => exact ⟨Lib.hid KZ.out.drew, Lib.hid Y12.out.drew, Lib.hid YP.out, Lib.hid YA.out.drew⟩
        case hstab =>
          intro j v w1 w2 hst _ h
          match j, h with
          | 0, h => exact h
          | 1, h => exact h
          | 2, h => exact h
          | 3, h => exact h
          | 4, h => exact h
          | 5, h => exact h
          | 6, h => exact h
          | 7, h => exact h
          | 8, h => exact h
          | 9, h => exact h
          | 10, h => exact h
          | 11, h => exact h
          | 12, h => exact h
          | 13, h => exact h
          | 14, h => exact h
          | 15, h => exact h
          | 16, h => exact h
          | 17, h => exact h
          | 18, h => exact h
          | 19, h => exact h
          | 20, h => exact h
          | 21, h => exact h
          | _ + 22, h => trivial
        case hrules =>
          refine rules_cons (n := 22) (ds := [some 35, some 36, some 37, some 38, some 39, some 40, some 41, some 42, some 43, some 44, some 45, some 46, some 47, some 48, some 49, some 50, some 51, some 52, some 53, some 54, some 55, some 10]) (by kernel_rfl) (by kernel_rfl) [] rfl (by kernel_rfl) ?_ ?_
          · intro x wq hx hS hdep K hK
            obtain ⟨x0, x1, x2, x3, x4, x5, x6, x7, x8, x9, x10, x11, x12, x13, x14, x15, x16, x17, x18, x19, x20, x21, rfl⟩ := len22 hx
            have s0 := hS.1
            have s1 := hS.2.1
            have s2 := hS.2.2.1
            have sA := hS.2.2.2
            clear hdep hx hS
            simp only [putD, Act.put, List.setIfInBounds_toArray, List.set_cons_zero, List.set_cons_succ]
            have c0 : wq.cell? ⟨g13, 0, none⟩ = some (.int .i64 (hiW cg)) := s0.out.cell 0
            have c1 : wq.cell? ⟨g13, 1, none⟩ = some (.int .u64 (loW cg)) := s0.out.cell 1
            go_simp
            have hk := hK.out (.agg #[.int .i64 (hiW cg), .int .u64 (loW cg)]) _ (Adds.refl wq) ⟨s0, s1, s2, sA⟩ rfl (fun _ _ _ _ => ⟨trivial, trivial⟩)
            simp only [putD, Act.put, List.setIfInBounds_toArray, List.set_cons_zero, List.set_cons_succ] at hk
            exact hk
          refine rules_cons (n := 22) (ds := [some 35, some 36, some 37, some 38, some 39, some 40, some 41, some 42, some 43, some 44, some 45, some 46, some 47, some 48, some 49, some 50, some 51, some 52, some 53, some 54, some 55, some 10]) (by kernel_rfl) (by kernel_rfl) [] rfl (by kernel_rfl) ?_ ?_
          · intro x wq hx hS hdep K hK
            obtain ⟨x0, x1, x2, x3, x4, x5, x6, x7, x8, x9, x10, x11, x12, x13, x14, x15, x16, x17, x18, x19, x20, x21, rfl⟩ := len22 hx
            have s0 := hS.1
            have s1 := hS.2.1
            have s2 := hS.2.2.1
            have sA := hS.2.2.2
            clear hdep hx hS
            simp only [putD, Act.put, List.setIfInBounds_toArray, List.set_cons_zero, List.set_cons_succ]
            have c0 : wq.cell? ⟨g12, 0, none⟩ = some (.int .i64 (hiW mn)) := s1.out.cell 0
            have c1 : wq.cell? ⟨g12, 1, none⟩ = some (.int .u64 (loW mn)) := s1.out.cell 1
            go_simp
            have hk := hK.out (.agg #[.int .i64 (hiW mn), .int .u64 (loW mn)]) _ (Adds.refl wq) ⟨s0, s1, s2, sA⟩ rfl (fun _ _ _ _ => ⟨trivial, trivial⟩)
            simp only [putD, Act.put, List.setIfInBounds_toArray, List.set_cons_zero, List.set_cons_succ] at hk
            exact hk
          refine rules_cons (n := 22) (ds := [some 35, some 36, some 37, some 38, some 39, some 40, some 41, some 42, some 43, some 44, some 45, some 46, some 47, some 48, some 49, some 50, some 51, some 52, some 53, some 54, some 55, some 10]) (by kernel_rfl) (by kernel_rfl) [0, 1] rfl (by kernel_rfl) ?_ ?_
          · intro x wq hx hS hdep K hK
            obtain ⟨x0, x1, x2, x3, x4, x5, x6, x7, x8, x9, x10, x11, x12, x13, x14, x15, x16, x17, x18, x19, x20, x21, rfl⟩ := len22 hx
            obtain rfl : x0 = .agg #[.int .i64 (hiW cg), .int .u64 (loW cg)] := hdep 0 (by simp)
            obtain rfl : x1 = .agg #[.int .i64 (hiW mn), .int .u64 (loW mn)] := hdep 1 (by simp)
            have s0 := hS.1
            have s1 := hS.2.1
            have s2 := hS.2.2.1
            have sA := hS.2.2.2
            clear hdep hx hS
            simp only [putD, Act.put, List.setIfInBounds_toArray, List.set_cons_zero, List.set_cons_succ]
            go_simp
            go_at_call 42
            refine (HC1.out _).mono ?_
            rintro e w1 ⟨rfl, ha⟩
            have hk := hK.out (.int .i64 k1) _ ha ⟨Lib.hid (s0.out.later ha), Lib.hid (s1.out.later ha), Lib.hid (range_later s2.out ha), Lib.hid (sA.out.trans ha)⟩ rfl (fun _ _ _ _ => ⟨trivial, trivial⟩)
            simp only [putD, Act.put, List.setIfInBounds_toArray, List.set_cons_zero, List.set_cons_succ] at hk
            exact hk
          refine rules_cons (n := 22) (ds := [some 35, some 36, some 37, some 38, some 39, some 40, some 41, some 42, some 43, some 44, some 45, some 46, some 47, some 48, some 49, some 50, some 51, some 52, some 53, some 54, some 55, some 10]) (by kernel_rfl) (by kernel_rfl) [2] rfl (by kernel_rfl) ?_ ?_
          · intro x wq hx hS hdep K hK
            obtain ⟨x0, x1, x2, x3, x4, x5, x6, x7, x8, x9, x10, x11, x12, x13, x14, x15, x16, x17, x18, x19, x20, x21, rfl⟩ := len22 hx
            obtain rfl : x2 = .int .i64 k1 := hdep 2 (by simp)
            have s0 := hS.1
            have s1 := hS.2.1
            have s2 := hS.2.2.1
            have sA := hS.2.2.2
            clear hdep hx hS
            simp only [putD, Act.put, List.setIfInBounds_toArray, List.set_cons_zero, List.set_cons_succ]
            go_simp
            have hk := hK.out (.bool false) _ (Adds.refl wq) ⟨s0, s1, s2, sA⟩ rfl (fun _ _ _ _ => ⟨trivial, trivial⟩)
            simp only [putD, Act.put, List.setIfInBounds_toArray, List.set_cons_zero, List.set_cons_succ] at hk
            exact hk
          refine rules_cons (n := 22) (ds := [some 35, some 36, some 37, some 38, some 39, some 40, some 41, some 42, some 43, some 44, some 45, some 46, some 47, some 48, some 49, some 50, some 51, some 52, some 53, some 54, some 55, some 10]) (by kernel_rfl) (by kernel_rfl) [3] rfl (by kernel_rfl) ?_ ?_
          · intro x wq hx hS hdep K hK
            obtain ⟨x0, x1, x2, x3, x4, x5, x6, x7, x8, x9, x10, x11, x12, x13, x14, x15, x16, x17, x18, x19, x20, x21, rfl⟩ := len22 hx
            obtain rfl : x3 = .bool false := hdep 3 (by simp)
            have s0 := hS.1
            have s1 := hS.2.1
            have s2 := hS.2.2.1
            have sA := hS.2.2.2
            clear hdep hx hS
            simp only [putD, Act.put, List.setIfInBounds_toArray, List.set_cons_zero, List.set_cons_succ]
            go_simp
            have hk := hK.out (.bool false) _ (Adds.refl wq) ⟨s0, s1, s2, sA⟩ rfl (fun _ _ _ _ => ⟨trivial, trivial⟩)
            simp only [putD, Act.put, List.setIfInBounds_toArray, List.set_cons_zero, List.set_cons_succ] at hk
            exact hk
          refine rules_wanted (n := 22) (ds := [some 35, some 36, some 37, some 38, some 39, some 40, some 41, some 42, some 43, some 44, some 45, some 46, some 47, some 48, some 49, some 50, some 51, some 52, some 53, some 54, some 55, some 10]) (by kernel_rfl) (by kernel_rfl) [4] (by kernel_rfl) (fun x wq hx hS hdep => by obtain ⟨x0, x1, x2, x3, x4, x5, x6, x7, x8, x9, x10, x11, x12, x13, x14, x15, x16, x17, x18, x19, x20, x21, rfl⟩ := len22 hx; obtain rfl : x4 = .bool false := hdep 4 (by simp); exact (wanted_val (g := 4) (d := 39) rfl (by kernel_rfl) (by simp only [putD, Act.put, List.setIfInBounds_toArray, List.set_cons_zero, List.set_cons_succ]; rfl)).trans rfl) ?_ ?_
          · intro x wq hx hS hdep K hK
            obtain ⟨x0, x1, x2, x3, x4, x5, x6, x7, x8, x9, x10, x11, x12, x13, x14, x15, x16, x17, x18, x19, x20, x21, rfl⟩ := len22 hx
            obtain rfl : x4 = .bool false := hdep 4 (by simp)
            have s0 := hS.1
            have s1 := hS.2.1
            have s2 := hS.2.2.1
            have sA := hS.2.2.2
            clear hdep hx hS
            simp only [putD, Act.put, List.setIfInBounds_toArray, List.set_cons_zero, List.set_cons_succ]
            go_simp
            have hk := hK.out (.int .i64 gain) _ (Adds.refl wq) ⟨s0, s1, s2, sA⟩ rfl (fun _ _ _ _ => ⟨trivial, trivial⟩)
            simp only [putD, Act.put, List.setIfInBounds_toArray, List.set_cons_zero, List.set_cons_succ] at hk
            exact hk
          refine rules_wanted (n := 22) (ds := [some 35, some 36, some 37, some 38, some 39, some 40, some 41, some 42, some 43, some 44, some 45, some 46, some 47, some 48, some 49, some 50, some 51, some 52, some 53, some 54, some 55, some 10]) (by kernel_rfl) (by kernel_rfl) [4, 5] (by kernel_rfl) (fun x wq hx hS hdep => by obtain ⟨x0, x1, x2, x3, x4, x5, x6, x7, x8, x9, x10, x11, x12, x13, x14, x15, x16, x17, x18, x19, x20, x21, rfl⟩ := len22 hx; obtain rfl : x4 = .bool false := hdep 4 (by simp); exact (wanted_val (g := 4) (d := 39) rfl (by kernel_rfl) (by simp only [putD, Act.put, List.setIfInBounds_toArray, List.set_cons_zero, List.set_cons_succ]; rfl)).trans rfl) ?_ ?_
          · intro x wq hx hS hdep K hK
            obtain ⟨x0, x1, x2, x3, x4, x5, x6, x7, x8, x9, x10, x11, x12, x13, x14, x15, x16, x17, x18, x19, x20, x21, rfl⟩ := len22 hx
            obtain rfl : x4 = .bool false := hdep 4 (by simp)
            obtain rfl : x5 = .int .i64 gain := hdep 5 (by simp)
            have s0 := hS.1
            have s1 := hS.2.1
            have s2 := hS.2.2.1
            have sA := hS.2.2.2
            clear hdep hx hS
            simp only [putD, Act.put, List.setIfInBounds_toArray, List.set_cons_zero, List.set_cons_succ]
            go_simp
            have hk := hK.out (.bool false) _ (Adds.refl wq) ⟨s0, s1, s2, sA⟩ rfl (fun _ _ _ _ => ⟨trivial, trivial⟩)
            simp only [putD, Act.put, List.setIfInBounds_toArray, List.set_cons_zero, List.set_cons_succ] at hk
            exact hk
          refine rules_wanted (n := 22) (ds := [some 35, some 36, some 37, some 38, some 39, some 40, some 41, some 42, some 43, some 44, some 45, some 46, some 47, some 48, some 49, some 50, some 51, some 52, some 53, some 54, some 55, some 10]) (by kernel_rfl) (by kernel_rfl) [4, 6] (by kernel_rfl) (fun x wq hx hS hdep => by obtain ⟨x0, x1, x2, x3, x4, x5, x6, x7, x8, x9, x10, x11, x12, x13, x14, x15, x16, x17, x18, x19, x20, x21, rfl⟩ := len22 hx; obtain rfl : x4 = .bool false := hdep 4 (by simp); exact (wanted_val (g := 4) (d := 39) rfl (by kernel_rfl) (by simp only [putD, Act.put, List.setIfInBounds_toArray, List.set_cons_zero, List.set_cons_succ]; rfl)).trans rfl) ?_ ?_
          · intro x wq hx hS hdep K hK
            obtain ⟨x0, x1, x2, x3, x4, x5, x6, x7, x8, x9, x10, x11, x12, x13, x14, x15, x16, x17, x18, x19, x20, x21, rfl⟩ := len22 hx
            obtain rfl : x4 = .bool false := hdep 4 (by simp)
            obtain rfl : x6 = .bool false := hdep 6 (by simp)
            have s0 := hS.1
            have s1 := hS.2.1
            have s2 := hS.2.2.1
            have sA := hS.2.2.2
            clear hdep hx hS
            simp only [putD, Act.put, List.setIfInBounds_toArray, List.set_cons_zero, List.set_cons_succ]
            go_simp
            have hk := hK.out (.bool false) _ (Adds.refl wq) ⟨s0, s1, s2, sA⟩ rfl (fun _ _ _ _ => ⟨trivial, trivial⟩)
            simp only [putD, Act.put, List.setIfInBounds_toArray, List.set_cons_zero, List.set_cons_succ] at hk
            exact hk
          refine rules_unwanted (n := 22) (ds := [some 35, some 36, some 37, some 38, some 39, some 40, some 41, some 42, some 43, some 44, some 45, some 46, some 47, some 48, some 49, some 50, some 51, some 52, some 53, some 54, some 55, some 10]) (by kernel_rfl) (by kernel_rfl) [7] (by kernel_rfl) (fun x wq hx hS hdep => by obtain ⟨x0, x1, x2, x3, x4, x5, x6, x7, x8, x9, x10, x11, x12, x13, x14, x15, x16, x17, x18, x19, x20, x21, rfl⟩ := len22 hx; obtain rfl : x7 = .bool false := hdep 7 (by simp); exact (wanted_val (g := 7) (d := 42) rfl (by kernel_rfl) (by simp only [putD, Act.put, List.setIfInBounds_toArray, List.set_cons_zero, List.set_cons_succ]; rfl)).trans rfl) (fun wq _ => ⟨Adds.refl wq, rfl, fun _ _ _ _ => ⟨trivial, trivial⟩⟩) ?_
          refine rules_unwanted (n := 22) (ds := [some 35, some 36, some 37, some 38, some 39, some 40, some 41, some 42, some 43, some 44, some 45, some 46, some 47, some 48, some 49, some 50, some 51, some 52, some 53, some 54, some 55, some 10]) (by kernel_rfl) (by kernel_rfl) [7] (by kernel_rfl) (fun x wq hx hS hdep => by obtain ⟨x0, x1, x2, x3, x4, x5, x6, x7, x8, x9, x10, x11, x12, x13, x14, x15, x16, x17, x18, x19, x20, x21, rfl⟩ := len22 hx; obtain rfl : x7 = .bool false := hdep 7 (by simp); exact (wanted_val (g := 7) (d := 42) rfl (by kernel_rfl) (by simp only [putD, Act.put, List.setIfInBounds_toArray, List.set_cons_zero, List.set_cons_succ]; rfl)).trans rfl) (fun wq _ => ⟨Adds.refl wq, rfl, fun _ _ _ _ => ⟨trivial, trivial⟩⟩) ?_
          refine rules_unwanted (n := 22) (ds := [some 35, some 36, some 37, some 38, some 39, some 40, some 41, some 42, some 43, some 44, some 45, some 46, some 47, some 48, some 49, some 50, some 51, some 52, some 53, some 54, some 55, some 10]) (by kernel_rfl) (by kernel_rfl) [7] (by kernel_rfl) (fun x wq hx hS hdep => by obtain ⟨x0, x1, x2, x3, x4, x5, x6, x7, x8, x9, x10, x11, x12, x13, x14, x15, x16, x17, x18, x19, x20, x21, rfl⟩ := len22 hx; obtain rfl : x7 = .bool false := hdep 7 (by simp); exact (wanted_val (g := 7) (d := 42) rfl (by kernel_rfl) (by simp only [putD, Act.put, List.setIfInBounds_toArray, List.set_cons_zero, List.set_cons_succ]; rfl)).trans rfl) (fun wq _ => ⟨Adds.refl wq, rfl, fun _ _ _ _ => ⟨trivial, trivial⟩⟩) ?_
          refine rules_unwanted (n := 22) (ds := [some 35, some 36, some 37, some 38, some 39, some 40, some 41, some 42, some 43, some 44, some 45, some 46, some 47, some 48, some 49, some 50, some 51, some 52, some 53, some 54, some 55, some 10]) (by kernel_rfl) (by kernel_rfl) [7] (by kernel_rfl) (fun x wq hx hS hdep => by obtain ⟨x0, x1, x2, x3, x4, x5, x6, x7, x8, x9, x10, x11, x12, x13, x14, x15, x16, x17, x18, x19, x20, x21, rfl⟩ := len22 hx; obtain rfl : x7 = .bool false := hdep 7 (by simp); exact (wanted_val (g := 7) (d := 42) rfl (by kernel_rfl) (by simp only [putD, Act.put, List.setIfInBounds_toArray, List.set_cons_zero, List.set_cons_succ]; rfl)).trans rfl) (fun wq _ => ⟨Adds.refl wq, rfl, fun _ _ _ _ => ⟨trivial, trivial⟩⟩) ?_
          refine rules_unwanted (n := 22) (ds := [some 35, some 36, some 37, some 38, some 39, some 40, some 41, some 42, some 43, some 44, some 45, some 46, some 47, some 48, some 49, some 50, some 51, some 52, some 53, some 54, some 55, some 10]) (by kernel_rfl) (by kernel_rfl) [7] (by kernel_rfl) (fun x wq hx hS hdep => by obtain ⟨x0, x1, x2, x3, x4, x5, x6, x7, x8, x9, x10, x11, x12, x13, x14, x15, x16, x17, x18, x19, x20, x21, rfl⟩ := len22 hx; obtain rfl : x7 = .bool false := hdep 7 (by simp); exact (wanted_val (g := 7) (d := 42) rfl (by kernel_rfl) (by simp only [putD, Act.put, List.setIfInBounds_toArray, List.set_cons_zero, List.set_cons_succ]; rfl)).trans rfl) (fun wq _ => ⟨Adds.refl wq, rfl, fun _ _ _ _ => ⟨trivial, trivial⟩⟩) ?_
          refine rules_unwanted (n := 22) (ds := [some 35, some 36, some 37, some 38, some 39, some 40, some 41, some 42, some 43, some 44, some 45, some 46, some 47, some 48, some 49, some 50, some 51, some 52, some 53, some 54, some 55, some 10]) (by kernel_rfl) (by kernel_rfl) [7] (by kernel_rfl) (fun x wq hx hS hdep => by obtain ⟨x0, x1, x2, x3, x4, x5, x6, x7, x8, x9, x10, x11, x12, x13, x14, x15, x16, x17, x18, x19, x20, x21, rfl⟩ := len22 hx; obtain rfl : x7 = .bool false := hdep 7 (by simp); exact (wanted_val (g := 7) (d := 42) rfl (by kernel_rfl) (by simp only [putD, Act.put, List.setIfInBounds_toArray, List.set_cons_zero, List.set_cons_succ]; rfl)).trans rfl) (fun wq _ => ⟨Adds.refl wq, rfl, fun _ _ _ _ => ⟨trivial, trivial⟩⟩) ?_
          refine rules_unwanted (n := 22) (ds := [some 35, some 36, some 37, some 38, some 39, some 40, some 41, some 42, some 43, some 44, some 45, some 46, some 47, some 48, some 49, some 50, some 51, some 52, some 53, some 54, some 55, some 10]) (by kernel_rfl) (by kernel_rfl) [7] (by kernel_rfl) (fun x wq hx hS hdep => by obtain ⟨x0, x1, x2, x3, x4, x5, x6, x7, x8, x9, x10, x11, x12, x13, x14, x15, x16, x17, x18, x19, x20, x21, rfl⟩ := len22 hx; obtain rfl : x7 = .bool false := hdep 7 (by simp); exact (wanted_val (g := 7) (d := 42) rfl (by kernel_rfl) (by simp only [putD, Act.put, List.setIfInBounds_toArray, List.set_cons_zero, List.set_cons_succ]; rfl)).trans rfl) (fun wq _ => ⟨Adds.refl wq, rfl, fun _ _ _ _ => ⟨trivial, trivial⟩⟩) ?_
          refine rules_unwanted (n := 22) (ds := [some 35, some 36, some 37, some 38, some 39, some 40, some 41, some 42, some 43, some 44, some 45, some 46, some 47, some 48, some 49, some 50, some 51, some 52, some 53, some 54, some 55, some 10]) (by kernel_rfl) (by kernel_rfl) [7] (by kernel_rfl) (fun x wq hx hS hdep => by obtain ⟨x0, x1, x2, x3, x4, x5, x6, x7, x8, x9, x10, x11, x12, x13, x14, x15, x16, x17, x18, x19, x20, x21, rfl⟩ := len22 hx; obtain rfl : x7 = .bool false := hdep 7 (by simp); exact (wanted_val (g := 7) (d := 42) rfl (by kernel_rfl) (by simp only [putD, Act.put, List.setIfInBounds_toArray, List.set_cons_zero, List.set_cons_succ]; rfl)).trans rfl) (fun wq _ => ⟨Adds.refl wq, rfl, fun _ _ _ _ => ⟨trivial, trivial⟩⟩) ?_
          refine rules_unwanted (n := 22) (ds := [some 35, some 36, some 37, some 38, some 39, some 40, some 41, some 42, some 43, some 44, some 45, some 46, some 47, some 48, some 49, some 50, some 51, some 52, some 53, some 54, some 55, some 10]) (by kernel_rfl) (by kernel_rfl) [7] (by kernel_rfl) (fun x wq hx hS hdep => by obtain ⟨x0, x1, x2, x3, x4, x5, x6, x7, x8, x9, x10, x11, x12, x13, x14, x15, x16, x17, x18, x19, x20, x21, rfl⟩ := len22 hx; obtain rfl : x7 = .bool false := hdep 7 (by simp); exact (wanted_val (g := 7) (d := 42) rfl (by kernel_rfl) (by simp only [putD, Act.put, List.setIfInBounds_toArray, List.set_cons_zero, List.set_cons_succ]; rfl)).trans rfl) (fun wq _ => ⟨Adds.refl wq, rfl, fun _ _ _ _ => ⟨trivial, trivial⟩⟩) ?_
          refine rules_unwanted (n := 22) (ds := [some 35, some 36, some 37, some 38, some 39, some 40, some 41, some 42, some 43, some 44, some 45, some 46, some 47, some 48, some 49, some 50, some 51, some 52, some 53, some 54, some 55, some 10]) (by kernel_rfl) (by kernel_rfl) [7] (by kernel_rfl) (fun x wq hx hS hdep => by obtain ⟨x0, x1, x2, x3, x4, x5, x6, x7, x8, x9, x10, x11, x12, x13, x14, x15, x16, x17, x18, x19, x20, x21, rfl⟩ := len22 hx; obtain rfl : x7 = .bool false := hdep 7 (by simp); exact (wanted_val (g := 7) (d := 42) rfl (by kernel_rfl) (by simp only [putD, Act.put, List.setIfInBounds_toArray, List.set_cons_zero, List.set_cons_succ]; rfl)).trans rfl) (fun wq _ => ⟨Adds.refl wq, rfl, fun _ _ _ _ => ⟨trivial, trivial⟩⟩) ?_
          refine rules_unwanted (n := 22) (ds := [some 35, some 36, some 37, some 38, some 39, some 40, some 41, some 42, some 43, some 44, some 45, some 46, some 47, some 48, some 49, some 50, some 51, some 52, some 53, some 54, some 55, some 10]) (by kernel_rfl) (by kernel_rfl) [7] (by kernel_rfl) (fun x wq hx hS hdep => by obtain ⟨x0, x1, x2, x3, x4, x5, x6, x7, x8, x9, x10, x11, x12, x13, x14, x15, x16, x17, x18, x19, x20, x21, rfl⟩ := len22 hx; obtain rfl : x7 = .bool false := hdep 7 (by simp); exact (wanted_val (g := 7) (d := 42) rfl (by kernel_rfl) (by simp only [putD, Act.put, List.setIfInBounds_toArray, List.set_cons_zero, List.set_cons_succ]; rfl)).trans rfl) (fun wq _ => ⟨Adds.refl wq, rfl, fun _ _ _ _ => ⟨trivial, trivial⟩⟩) ?_
          refine rules_wanted (n := 22) (ds := [some 35, some 36, some 37, some 38, some 39, some 40, some 41, some 42, some 43, some 44, some 45, some 46, some 47, some 48, some 49, some 50, some 51, some 52, some 53, some 54, some 55, some 10]) (by kernel_rfl) (by kernel_rfl) [4, 7, 18] (by kernel_rfl) (fun x wq hx hS hdep => by obtain ⟨x0, x1, x2, x3, x4, x5, x6, x7, x8, x9, x10, x11, x12, x13, x14, x15, x16, x17, x18, x19, x20, x21, rfl⟩ := len22 hx; obtain rfl : x4 = .bool false := hdep 4 (by simp); exact (wanted_val (g := 4) (d := 39) rfl (by kernel_rfl) (by simp only [putD, Act.put, List.setIfInBounds_toArray, List.set_cons_zero, List.set_cons_succ]; rfl)).trans rfl) ?_ ?_
          · intro x wq hx hS hdep K hK
            obtain ⟨x0, x1, x2, x3, x4, x5, x6, x7, x8, x9, x10, x11, x12, x13, x14, x15, x16, x17, x18, x19, x20, x21, rfl⟩ := len22 hx
            obtain rfl : x4 = .bool false := hdep 4 (by simp)
            obtain rfl : x7 = .bool false := hdep 7 (by simp)
            obtain rfl : x18 = undef := hdep 18 (by simp)
            have s0 := hS.1
            have s1 := hS.2.1
            have s2 := hS.2.2.1
            have sA := hS.2.2.2
            clear hdep hx hS
            simp only [putD, Act.put, List.setIfInBounds_toArray, List.set_cons_zero, List.set_cons_succ]
            go_simp
            have hk := hK.out (.bool false) _ (Adds.refl wq) ⟨s0, s1, s2, sA⟩ rfl (fun _ _ _ _ => ⟨trivial, trivial⟩)
            simp only [putD, Act.put, List.setIfInBounds_toArray, List.set_cons_zero, List.set_cons_succ] at hk
            exact hk
          refine rules_cons (n := 22) (ds := [some 35, some 36, some 37, some 38, some 39, some 40, some 41, some 42, some 43, some 44, some 45, some 46, some 47, some 48, some 49, some 50, some 51, some 52, some 53, some 54, some 55, some 10]) (by kernel_rfl) (by kernel_rfl) [4, 19] rfl (by kernel_rfl) ?_ ?_
          · intro x wq hx hS hdep K hK
            obtain ⟨x0, x1, x2, x3, x4, x5, x6, x7, x8, x9, x10, x11, x12, x13, x14, x15, x16, x17, x18, x19, x20, x21, rfl⟩ := len22 hx
            obtain rfl : x4 = .bool false := hdep 4 (by simp)
            obtain rfl : x19 = .bool false := hdep 19 (by simp)
            have s0 := hS.1
            have s1 := hS.2.1
            have s2 := hS.2.2.1
            have sA := hS.2.2.2
            clear hdep hx hS
            simp only [putD, Act.put, List.setIfInBounds_toArray, List.set_cons_zero, List.set_cons_succ]
            go_simp
            have hk := hK.out (.bool false) _ (Adds.refl wq) ⟨s0, s1, s2, sA⟩ rfl (fun _ _ _ _ => ⟨trivial, trivial⟩)
            simp only [putD, Act.put, List.setIfInBounds_toArray, List.set_cons_zero, List.set_cons_succ] at hk
            exact hk
          refine rules_cons (n := 22) (ds := [some 35, some 36, some 37, some 38, some 39, some 40, some 41, some 42, some 43, some 44, some 45, some 46, some 47, some 48, some 49, some 50, some 51, some 52, some 53, some 54, some 55, some 10]) (by kernel_rfl) (by kernel_rfl) [20] rfl (by kernel_rfl) ?_ ?_
          · intro x wq hx hS hdep K hK
            obtain ⟨x0, x1, x2, x3, x4, x5, x6, x7, x8, x9, x10, x11, x12, x13, x14, x15, x16, x17, x18, x19, x20, x21, rfl⟩ := len22 hx
            obtain rfl : x20 = .bool false := hdep 20 (by simp)
            have s0 := hS.1
            have s1 := hS.2.1
            have s2 := hS.2.2.1
            have sA := hS.2.2.2
            clear hdep hx hS
            simp only [putD, Act.put, List.setIfInBounds_toArray, List.set_cons_zero, List.set_cons_succ]
            go_simp
            have hk := hK.out (.bool false) _ (Adds.refl wq) ⟨s0, s1, s2, sA⟩ rfl (fun _ _ _ _ => ⟨trivial, trivial⟩)
            simp only [putD, Act.put, List.setIfInBounds_toArray, List.set_cons_zero, List.set_cons_succ] at hk
            exact hk
          exact rules_nil
        case hrest =>
          intro x wq hx hS hP
          obtain ⟨x0, x1, x2, x3, x4, x5, x6, x7, x8, x9, x10, x11, x12, x13, x14, x15, x16, x17, x18, x19, x20, x21, rfl⟩ := len22 hx
          obtain rfl : x0 = .agg #[.int .i64 (hiW cg), .int .u64 (loW cg)] := hP 0 (by decide) (by rfl)
          obtain rfl : x1 = .agg #[.int .i64 (hiW mn), .int .u64 (loW mn)] := hP 1 (by decide) (by rfl)
          obtain rfl : x2 = .int .i64 k1 := hP 2 (by decide) (by rfl)
          obtain rfl : x3 = .bool false := hP 3 (by decide) (by rfl)
          obtain rfl : x4 = .bool false := hP 4 (by decide) (by rfl)
          obtain rfl : x5 = .int .i64 gain := hP 5 (by decide) (by rfl)
          obtain rfl : x6 = .bool false := hP 6 (by decide) (by rfl)
          obtain rfl : x7 = .bool false := hP 7 (by decide) (by rfl)
          obtain rfl : x8 = undef := hP 8 (by decide) (by rfl)
          obtain rfl : x9 = undef := hP 9 (by decide) (by rfl)
          obtain rfl : x10 = undef := hP 10 (by decide) (by rfl)
          obtain rfl : x11 = undef := hP 11 (by decide) (by rfl)
          obtain rfl : x12 = undef := hP 12 (by decide) (by rfl)
          obtain rfl : x13 = undef := hP 13 (by decide) (by rfl)
          obtain rfl : x14 = undef := hP 14 (by decide) (by rfl)
          obtain rfl : x15 = undef := hP 15 (by decide) (by rfl)
          obtain rfl : x16 = undef := hP 16 (by decide) (by rfl)
          obtain rfl : x17 = undef := hP 17 (by decide) (by rfl)
          obtain rfl : x18 = undef := hP 18 (by decide) (by rfl)
          obtain rfl : x19 = .bool false := hP 19 (by decide) (by rfl)
          obtain rfl : x20 = .bool false := hP 20 (by decide) (by rfl)
          obtain rfl : x21 = .bool false := hP 21 (by decide) (by rfl)
          have s0 := hS.1
          have s1 := hS.2.1
          have s2 := hS.2.2.1
          have sA := hS.2.2.2
          clear hP hx hS
          simp only [putD, Act.put, List.setIfInBounds_toArray, List.set_cons_zero, List.set_cons_succ]
          refine rest_done (by kernel_rfl) ?_ _
          go_wp2
          go_ret
          exact ⟨ret_bool (by rw [hk1, hgn1]; simp), sA.out⟩

end Go.Proofs.Ytmkpidipoadnbaa
