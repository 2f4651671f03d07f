/- find and Margin of a house in memory. -/
import Derived.Test.YtmkpidipoadnbaaW23
namespace Go.Proofs.Ytmkpidipoadnbaa
open Go Go.RowKit Go.Sort

/-- What find answers of a house. -/
def findE (h : Hs) (x : Int) : Int := match accOf h x with | none => 4 | some _ => 0
theorem findE_some {h : Hs} {x : Int} {a : Ac} (e : accOf h x = some a) : findE h x = 0 := by unfold findE; rw [e]
theorem findE_none {h : Hs} {x : Int} (e : accOf h x = none) : findE h x = 4 := by unfold findE; rw [e]
/-- A member's margin. -/
def marginH (h : Hs) (a : Ac) : Int := marginT h.moves h.rate a.pos h.prices

section
variable {w : World} {base b ga ca cm ck : Nat} {pm pk : Option Addr} {h : Hs}
theorem find_got (hh : HouseAt w base b ga ca pm cm pk ck h) (hn : h.ac.length ≤ 64) {x : Int} {a : Ac} (e : accOf h x = some a) : FindTo (.pointer (some ⟨b, 0, none⟩)) x w (accP ga (accI x)) 0 := by
  obtain ⟨h1, h2, h3⟩ := accOf_some e
  have := find_ok b _ ca ga (accI x) w hh.c0 h3 hn
  rw [← h1] at this
  exact this
theorem find_not (hh : HouseAt w base b ga ca pm cm pk ck h) {x : Int} (e : accOf h x = none) : FindTo (.pointer (some ⟨b, 0, none⟩)) x w none 4 := find_bad b _ ca _ x w hh.c0 (accOf_none e)
set_option maxRecDepth 100000 in
theorem margin_bad (v : Value) (x e : Int) (w : World) (he : e ≠ 0) (hf : FindTo v x w none e) : Calls Try.prog 34 #[v, .int .i64 x] w fun r w' => r = .returned (.tuple #[.int .i64 0, .int .i64 e]) ∧ Adds w w' := by
  have HF := Lib.hid hf
  have hne : (e == 0) = false := by rw [beq_eq_false_iff_ne]; exact he
  clear hf
  go_enter Try.func34, Try.ntmps34
  go_wp2_with (go_at_call 32; refine HF.out.mono ?_; rintro e w1 ⟨rfl, ha⟩; have HA := Lib.hid ha; clear ha)
  go_ret2
  exact ⟨rfl, HA.out⟩
set_option maxRecDepth 100000 in
set_option maxHeartbeats 2000000 in
theorem margin_okk (x : Int) (b cm ga iu : Nat) (pm : Option Addr) (h : Hs) (a : Ac) (w : World) (hc : Calm h) (hR : HouseR w b h pm cm) (hca : CalmA a) (hr : w.rangeAt ga (iu * 15) (encA a)) (hf : FindTo (.pointer (some ⟨b, 0, none⟩)) x w (accP ga iu) 0) (hm : marginH h a ≤ 9223372036854775807) :
    Calls Try.prog 34 #[.pointer (some ⟨b, 0, none⟩), .int .i64 x] w fun r w' => r = .returned (.tuple #[.int .i64 (marginH h a), .int .i64 0]) ∧ Adds w w' := by
  have HF := Lib.hid hf
  have HMI := Lib.hid (fun (W : World) (hW : Adds w W) => margin_any b cm pm h a.pos h.prices W hc (hR.later hW).m14 (hR.later hW).r15 (hR.later hW).mv hca.len hca.few hc.prices hc.price)
  have h0 := (margin_in hc hca.len hca.few hc.prices hc.price).1
  have HR := Lib.hid hR
  have hr2 : w.rangeAt ga (iu * 15 + 2) (a.pos.map (Value.int .i64)) := fun j v hj => by
    have := hr (2 + j) v (by rw [← List.getElem?_toArray]; exact encA_pos hca.len j v hj)
    rw [Nat.add_assoc]
    exact this
  have HAC := Lib.hid (fun W (hW : Adds w W) => range_later hr2 hW)
  have HPL := Lib.hid hca.len
  have HCH := Lib.hid hc.prices
  unfold marginH at *
  obtain ⟨M, hM⟩ : ∃ m, m = marginT h.moves h.rate a.pos h.prices := ⟨_, rfl⟩
  rw [← hM] at HMI hm h0 ⊢
  have HNA := Lib.hid (fun W => narrow_any M W (by omega) hm)
  unfold wideV monthV accP at *
  obtain ⟨pv, hpv⟩ : ∃ v, v = (a.pos.map (Value.int .i64)).toArray := ⟨_, rfl⟩
  have HPV := Lib.hid hpv
  rw [← hpv] at HMI
  clear hc hR hca hr hf hM h0 hm hr2 hpv
  go_enter Try.func34, Try.ntmps34
  go_upto_region 4 with (go_at_call 32; refine HF.out.mono ?_; rintro e w1 ⟨rfl, ha⟩; have HA := Lib.hid ha; clear ha)
  refine wp_region_rules (fun i => i != i) (fun wq => Hid (Adds w wq) ∧ True) Adds (fun i v wq => match i with | 0 => v = .pointer (some ⟨b, 0, none⟩) | 1 => v = .pointer (some ⟨ga, iu * 15, none⟩) | 2 => v = .pointer (some ⟨ga, iu * 15, none⟩) | 3 => v = .pointer (some ⟨ga, iu * 15 + 2, none⟩) | 4 => v = .agg pv | 5 => v = .pointer (some ⟨b, 0, none⟩) | 6 => v = .pointer (some ⟨b, 0, none⟩) | 7 => v = .pointer (some ⟨b, 2, none⟩) | 8 => v = .agg (h.prices.map (Value.int .i64)).toArray | 9 => v = .agg #[.int .i64 (hiW M), .int .u64 (loW M)] | 10 => v = .int .i64 M | 11 => v = .int .i64 M | 12 => v = .int .i64 0 | _ => True) (by kernel_rfl) (by kernel_rfl) (by kernel_rfl) (by kernel_rfl) 13 (by kernel_rfl) [some 17, some 18, some 19, some 20, some 21, some 22, some 23, some 24, some 25, some 26, some 27, some 4, some 5] (by kernel_rfl) 0 #[true, true, true, true, true, true, true, true, true, true, true, true, true] (by kernel_rfl) (by kernel_rfl) ?hS ?hstab ?hrules ?hrest
  case hS => exact ⟨Lib.hid HA.out.drew, trivial⟩
  case hstab =>
    intro j v w1 w2 hst _ h
    match j, h with
    | 0, h => exact h
    | 1, h => exact h
    | 2, h => exact h
    | 3, h => exact h
    | 4, h => exact h
    | 5, h => exact h
    | 6, h => exact h
    | 7, h => exact h
    | 8, h => exact h
    | 9, h => exact h
    | 10, h => exact h
    | 11, h => exact h
    | 12, h => exact h
    | _ + 13, h => trivial
  case hrules =>
    refine rules_cons (n := 13) (ds := [some 17, some 18, some 19, some 20, some 21, some 22, some 23, some 24, some 25, some 26, some 27, some 4, some 5]) (by kernel_rfl) (by kernel_rfl) [] rfl (by kernel_rfl) ?_ ?_
    · intro x wq hx hS hdep K hK
      obtain ⟨x0, x1, x2, x3, x4, x5, x6, x7, x8, x9, x10, x11, x12, rfl⟩ := len13 hx
      have sA := hS.1
      have sT := hS.2
      clear hdep hx hS
      simp only [putD, Act.put, List.setIfInBounds_toArray, List.set_cons_zero, List.set_cons_succ]
      go_simp
      have hk := hK.out (.pointer (some ⟨b, 0, none⟩)) _ (Adds.refl wq) ⟨sA, sT⟩ rfl (fun _ _ _ _ => ⟨trivial, trivial⟩)
      simp only [putD, Act.put, List.setIfInBounds_toArray, List.set_cons_zero, List.set_cons_succ] at hk
      exact hk
    refine rules_cons (n := 13) (ds := [some 17, some 18, some 19, some 20, some 21, some 22, some 23, some 24, some 25, some 26, some 27, some 4, some 5]) (by kernel_rfl) (by kernel_rfl) [] rfl (by kernel_rfl) ?_ ?_
    · intro x wq hx hS hdep K hK
      obtain ⟨x0, x1, x2, x3, x4, x5, x6, x7, x8, x9, x10, x11, x12, rfl⟩ := len13 hx
      have sA := hS.1
      have sT := hS.2
      clear hdep hx hS
      simp only [putD, Act.put, List.setIfInBounds_toArray, List.set_cons_zero, List.set_cons_succ]
      go_simp
      have hk := hK.out (.pointer (some ⟨ga, iu * 15, none⟩)) _ (Adds.refl wq) ⟨sA, sT⟩ rfl (fun _ _ _ _ => ⟨trivial, trivial⟩)
      simp only [putD, Act.put, List.setIfInBounds_toArray, List.set_cons_zero, List.set_cons_succ] at hk
      exact hk
    refine rules_cons (n := 13) (ds := [some 17, some 18, some 19, some 20, some 21, some 22, some 23, some 24, some 25, some 26, some 27, some 4, some 5]) (by kernel_rfl) (by kernel_rfl) [1] rfl (by kernel_rfl) ?_ ?_
    · intro x wq hx hS hdep K hK
      obtain ⟨x0, x1, x2, x3, x4, x5, x6, x7, x8, x9, x10, x11, x12, rfl⟩ := len13 hx
      obtain rfl : x1 = .pointer (some ⟨ga, iu * 15, none⟩) := hdep 1 (by simp)
      have sA := hS.1
      have sT := hS.2
      clear hdep hx hS
      simp only [putD, Act.put, List.setIfInBounds_toArray, List.set_cons_zero, List.set_cons_succ]
      go_simp
      have hk := hK.out (.pointer (some ⟨ga, iu * 15, none⟩)) _ (Adds.refl wq) ⟨sA, sT⟩ rfl (fun _ _ _ _ => ⟨trivial, trivial⟩)
      simp only [putD, Act.put, List.setIfInBounds_toArray, List.set_cons_zero, List.set_cons_succ] at hk
      exact hk
    refine rules_cons (n := 13) (ds := [some 17, some 18, some 19, some 20, some 21, some 22, some 23, some 24, some 25, some 26, some 27, some 4, some 5]) (by kernel_rfl) (by kernel_rfl) [2] rfl (by kernel_rfl) ?_ ?_
    · intro x wq hx hS hdep K hK
      obtain ⟨x0, x1, x2, x3, x4, x5, x6, x7, x8, x9, x10, x11, x12, rfl⟩ := len13 hx
      obtain rfl : x2 = .pointer (some ⟨ga, iu * 15, none⟩) := hdep 2 (by simp)
      have sA := hS.1
      have sT := hS.2
      clear hdep hx hS
      simp only [putD, Act.put, List.setIfInBounds_toArray, List.set_cons_zero, List.set_cons_succ]
      go_simp
      have hk := hK.out (.pointer (some ⟨ga, iu * 15 + 2, none⟩)) _ (Adds.refl wq) ⟨sA, sT⟩ rfl (fun _ _ _ _ => ⟨trivial, trivial⟩)
      simp only [putD, Act.put, List.setIfInBounds_toArray, List.set_cons_zero, List.set_cons_succ] at hk
      exact hk
    refine rules_cons (n := 13) (ds := [some 17, some 18, some 19, some 20, some 21, some 22, some 23, some 24, some 25, some 26, some 27, some 4, some 5]) (by kernel_rfl) (by kernel_rfl) [3] rfl (by kernel_rfl) ?_ ?_
    · intro x wq hx hS hdep K hK
      obtain ⟨x0, x1, x2, x3, x4, x5, x6, x7, x8, x9, x10, x11, x12, rfl⟩ := len13 hx
      obtain rfl : x3 = .pointer (some ⟨ga, iu * 15 + 2, none⟩) := hdep 3 (by simp)
      have sA := hS.1
      have sT := hS.2
      clear hdep hx hS
      simp only [putD, Act.put, List.setIfInBounds_toArray, List.set_cons_zero, List.set_cons_succ]
      refine wp_load_mid 61 _ rfl ga (iu * 15 + 2) rfl (a.pos.map (Value.int .i64)) _ (HAC.out _ sA.out) Try.underlying61 rfl (by rw [info_month, List.length_map, HPL.out]) ?_
      rw [← HPV.out]
      have hk := hK.out (.agg pv) _ (Adds.refl wq) ⟨sA, trivial⟩ rfl (fun _ _ _ _ => ⟨trivial, trivial⟩)
      simp only [putD, Act.put, List.setIfInBounds_toArray, List.set_cons_zero, List.set_cons_succ] at hk
      exact hk
    refine rules_cons (n := 13) (ds := [some 17, some 18, some 19, some 20, some 21, some 22, some 23, some 24, some 25, some 26, some 27, some 4, some 5]) (by kernel_rfl) (by kernel_rfl) [] rfl (by kernel_rfl) ?_ ?_
    · intro x wq hx hS hdep K hK
      obtain ⟨x0, x1, x2, x3, x4, x5, x6, x7, x8, x9, x10, x11, x12, rfl⟩ := len13 hx
      have sA := hS.1
      have sT := hS.2
      clear hdep hx hS
      simp only [putD, Act.put, List.setIfInBounds_toArray, List.set_cons_zero, List.set_cons_succ]
      go_simp
      have hk := hK.out (.pointer (some ⟨b, 0, none⟩)) _ (Adds.refl wq) ⟨sA, sT⟩ rfl (fun _ _ _ _ => ⟨trivial, trivial⟩)
      simp only [putD, Act.put, List.setIfInBounds_toArray, List.set_cons_zero, List.set_cons_succ] at hk
      exact hk
    refine rules_cons (n := 13) (ds := [some 17, some 18, some 19, some 20, some 21, some 22, some 23, some 24, some 25, some 26, some 27, some 4, some 5]) (by kernel_rfl) (by kernel_rfl) [5] rfl (by kernel_rfl) ?_ ?_
    · intro x wq hx hS hdep K hK
      obtain ⟨x0, x1, x2, x3, x4, x5, x6, x7, x8, x9, x10, x11, x12, rfl⟩ := len13 hx
      obtain rfl : x5 = .pointer (some ⟨b, 0, none⟩) := hdep 5 (by simp)
      have sA := hS.1
      have sT := hS.2
      clear hdep hx hS
      simp only [putD, Act.put, List.setIfInBounds_toArray, List.set_cons_zero, List.set_cons_succ]
      go_simp
      have hk := hK.out (.pointer (some ⟨b, 0, none⟩)) _ (Adds.refl wq) ⟨sA, sT⟩ rfl (fun _ _ _ _ => ⟨trivial, trivial⟩)
      simp only [putD, Act.put, List.setIfInBounds_toArray, List.set_cons_zero, List.set_cons_succ] at hk
      exact hk
    refine rules_cons (n := 13) (ds := [some 17, some 18, some 19, some 20, some 21, some 22, some 23, some 24, some 25, some 26, some 27, some 4, some 5]) (by kernel_rfl) (by kernel_rfl) [6] rfl (by kernel_rfl) ?_ ?_
    · intro x wq hx hS hdep K hK
      obtain ⟨x0, x1, x2, x3, x4, x5, x6, x7, x8, x9, x10, x11, x12, rfl⟩ := len13 hx
      obtain rfl : x6 = .pointer (some ⟨b, 0, none⟩) := hdep 6 (by simp)
      have sA := hS.1
      have sT := hS.2
      clear hdep hx hS
      simp only [putD, Act.put, List.setIfInBounds_toArray, List.set_cons_zero, List.set_cons_succ]
      go_simp
      have hk := hK.out (.pointer (some ⟨b, 2, none⟩)) _ (Adds.refl wq) ⟨sA, sT⟩ rfl (fun _ _ _ _ => ⟨trivial, trivial⟩)
      simp only [putD, Act.put, List.setIfInBounds_toArray, List.set_cons_zero, List.set_cons_succ] at hk
      exact hk
    refine rules_cons (n := 13) (ds := [some 17, some 18, some 19, some 20, some 21, some 22, some 23, some 24, some 25, some 26, some 27, some 4, some 5]) (by kernel_rfl) (by kernel_rfl) [7] rfl (by kernel_rfl) ?_ ?_
    · intro x wq hx hS hdep K hK
      obtain ⟨x0, x1, x2, x3, x4, x5, x6, x7, x8, x9, x10, x11, x12, rfl⟩ := len13 hx
      obtain rfl : x7 = .pointer (some ⟨b, 2, none⟩) := hdep 7 (by simp)
      have sA := hS.1
      have sT := hS.2
      clear hdep hx hS
      simp only [putD, Act.put, List.setIfInBounds_toArray, List.set_cons_zero, List.set_cons_succ]
      refine wp_load_mid 61 _ rfl b 2 rfl (h.prices.map (Value.int .i64)) _ (HR.out.later sA.out).pr Try.underlying61 rfl (by rw [info_month, List.length_map, HCH.out]) ?_
      have hk := hK.out (.agg (h.prices.map (Value.int .i64)).toArray) _ (Adds.refl wq) ⟨sA, trivial⟩ rfl (fun _ _ _ _ => ⟨trivial, trivial⟩)
      simp only [putD, Act.put, List.setIfInBounds_toArray, List.set_cons_zero, List.set_cons_succ] at hk
      exact hk
    refine rules_cons (n := 13) (ds := [some 17, some 18, some 19, some 20, some 21, some 22, some 23, some 24, some 25, some 26, some 27, some 4, some 5]) (by kernel_rfl) (by kernel_rfl) [0, 4, 8] rfl (by kernel_rfl) ?_ ?_
    · intro x wq hx hS hdep K hK
      obtain ⟨x0, x1, x2, x3, x4, x5, x6, x7, x8, x9, x10, x11, x12, rfl⟩ := len13 hx
      obtain rfl : x0 = .pointer (some ⟨b, 0, none⟩) := hdep 0 (by simp)
      obtain rfl : x4 = .agg pv := hdep 4 (by simp)
      obtain rfl : x8 = .agg (h.prices.map (Value.int .i64)).toArray := hdep 8 (by simp)
      have sA := hS.1
      have sT := hS.2
      clear hdep hx hS
      simp only [putD, Act.put, List.setIfInBounds_toArray, List.set_cons_zero, List.set_cons_succ]
      go_simp
      go_at_call 39
      refine (HMI.out _ sA.out).mono ?_
      rintro e w1 ⟨rfl, ha⟩
      have hk := hK.out (.agg #[.int .i64 (hiW M), .int .u64 (loW M)]) _ ha ⟨Lib.hid (sA.out.trans ha), trivial⟩ rfl (fun _ _ _ _ => ⟨trivial, trivial⟩)
      simp only [putD, Act.put, List.setIfInBounds_toArray, List.set_cons_zero, List.set_cons_succ] at hk
      exact hk
    refine rules_cons (n := 13) (ds := [some 17, some 18, some 19, some 20, some 21, some 22, some 23, some 24, some 25, some 26, some 27, some 4, some 5]) (by kernel_rfl) (by kernel_rfl) [9] rfl (by kernel_rfl) ?_ ?_
    · intro x wq hx hS hdep K hK
      obtain ⟨x0, x1, x2, x3, x4, x5, x6, x7, x8, x9, x10, x11, x12, rfl⟩ := len13 hx
      obtain rfl : x9 = .agg #[.int .i64 (hiW M), .int .u64 (loW M)] := hdep 9 (by simp)
      have sA := hS.1
      have sT := hS.2
      clear hdep hx hS
      simp only [putD, Act.put, List.setIfInBounds_toArray, List.set_cons_zero, List.set_cons_succ]
      go_simp
      go_at_call 52
      refine (HNA.out _).mono ?_
      rintro e w1 ⟨rfl, ha⟩
      have hk := hK.out (.int .i64 M) _ ha ⟨Lib.hid (sA.out.trans ha), trivial⟩ rfl (fun _ _ _ _ => ⟨trivial, trivial⟩)
      simp only [putD, Act.put, List.setIfInBounds_toArray, List.set_cons_zero, List.set_cons_succ] at hk
      exact hk
    refine rules_cons (n := 13) (ds := [some 17, some 18, some 19, some 20, some 21, some 22, some 23, some 24, some 25, some 26, some 27, some 4, some 5]) (by kernel_rfl) (by kernel_rfl) [10] rfl (by kernel_rfl) ?_ ?_
    · intro x wq hx hS hdep K hK
      obtain ⟨x0, x1, x2, x3, x4, x5, x6, x7, x8, x9, x10, x11, x12, rfl⟩ := len13 hx
      obtain rfl : x10 = .int .i64 M := hdep 10 (by simp)
      have sA := hS.1
      have sT := hS.2
      clear hdep hx hS
      simp only [putD, Act.put, List.setIfInBounds_toArray, List.set_cons_zero, List.set_cons_succ]
      go_simp
      have hk := hK.out (.int .i64 M) _ (Adds.refl wq) ⟨sA, sT⟩ rfl (fun _ _ _ _ => ⟨trivial, trivial⟩)
      simp only [putD, Act.put, List.setIfInBounds_toArray, List.set_cons_zero, List.set_cons_succ] at hk
      exact hk
    refine rules_cons (n := 13) (ds := [some 17, some 18, some 19, some 20, some 21, some 22, some 23, some 24, some 25, some 26, some 27, some 4, some 5]) (by kernel_rfl) (by kernel_rfl) [] rfl (by kernel_rfl) ?_ ?_
    · intro x wq hx hS hdep K hK
      obtain ⟨x0, x1, x2, x3, x4, x5, x6, x7, x8, x9, x10, x11, x12, rfl⟩ := len13 hx
      have sA := hS.1
      have sT := hS.2
      clear hdep hx hS
      simp only [putD, Act.put, List.setIfInBounds_toArray, List.set_cons_zero, List.set_cons_succ]
      go_simp
      have hk := hK.out (.int .i64 0) _ (Adds.refl wq) ⟨sA, sT⟩ rfl (fun _ _ _ _ => ⟨trivial, trivial⟩)
      simp only [putD, Act.put, List.setIfInBounds_toArray, List.set_cons_zero, List.set_cons_succ] at hk
      exact hk
    exact rules_nil
  case hrest =>
    intro x wq hx hS hP
    obtain ⟨x0, x1, x2, x3, x4, x5, x6, x7, x8, x9, x10, x11, x12, rfl⟩ := len13 hx
    obtain rfl : x0 = .pointer (some ⟨b, 0, none⟩) := hP 0 (by decide) (by rfl)
    obtain rfl : x1 = .pointer (some ⟨ga, iu * 15, none⟩) := hP 1 (by decide) (by rfl)
    obtain rfl : x2 = .pointer (some ⟨ga, iu * 15, none⟩) := hP 2 (by decide) (by rfl)
    obtain rfl : x3 = .pointer (some ⟨ga, iu * 15 + 2, none⟩) := hP 3 (by decide) (by rfl)
    obtain rfl : x4 = .agg pv := hP 4 (by decide) (by rfl)
    obtain rfl : x5 = .pointer (some ⟨b, 0, none⟩) := hP 5 (by decide) (by rfl)
    obtain rfl : x6 = .pointer (some ⟨b, 0, none⟩) := hP 6 (by decide) (by rfl)
    obtain rfl : x7 = .pointer (some ⟨b, 2, none⟩) := hP 7 (by decide) (by rfl)
    obtain rfl : x8 = .agg (h.prices.map (Value.int .i64)).toArray := hP 8 (by decide) (by rfl)
    obtain rfl : x9 = .agg #[.int .i64 (hiW M), .int .u64 (loW M)] := hP 9 (by decide) (by rfl)
    obtain rfl : x10 = .int .i64 M := hP 10 (by decide) (by rfl)
    obtain rfl : x11 = .int .i64 M := hP 11 (by decide) (by rfl)
    obtain rfl : x12 = .int .i64 0 := hP 12 (by decide) (by rfl)
    have sA := hS.1
    have sT := hS.2
    clear hP hx hS
    simp only [putD, Act.put, List.setIfInBounds_toArray, List.set_cons_zero, List.set_cons_succ]
    refine rest_done (by kernel_rfl) ?_ _
    go_wp2
    go_ret2
    exact ⟨rfl, sA.out⟩
theorem Margin_none (hh : HouseAt w base b ga ca pm cm pk ck h) {x : Int} (e : accOf h x = none) : Calls Try.prog 34 #[.pointer (some ⟨b, 0, none⟩), .int .i64 x] w fun r w' => r = .returned (.tuple #[.int .i64 0, .int .i64 4]) ∧ Adds w w' := margin_bad _ x 4 w (by omega) (find_not hh e)
theorem Margin_some (hh : HouseAt w base b ga ca pm cm pk ck h) (hs : Sound h) {x : Int} {a : Ac} (e : accOf h x = some a) (hm : marginH h a ≤ 9223372036854775807) : Calls Try.prog 34 #[.pointer (some ⟨b, 0, none⟩), .int .i64 x] w fun r w' => r = .returned (.tuple #[.int .i64 (marginH h a), .int .i64 0]) ∧ Adds w w' :=
  margin_okk x b cm ga (accI x) pm h a w hs.calm (hh.r hs.calm.prices) (hs.acs a (List.mem_of_getElem? (accOf_some e).2.1)).1 (hh.acc (accOf_some e).2.1) (find_got hh hs.few e) hm
end

end Go.Proofs.Ytmkpidipoadnbaa
