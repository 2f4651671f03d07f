/- covers: whether an account's cash is at least its margin. -/
import Derived.Test.YtmkpidipoadnbaaW12
namespace Go.Proofs.Ytmkpidipoadnbaa
open Go Go.RowKit Go.Sort

theorem info_acc : (Try.prog.info? 72).map (·.size) = some 15 := by kernel_rfl
theorem cmp_le (x : Int) : decide (cmpT x 0 ≤ 0) = decide (x ≤ 0) := by
  unfold cmpT
  rw [decide_eq_decide]
  split
  · omega
  · split <;> omega
theorem prices_ok {h : Hs} (hc : Calm h) : ∀ p ∈ h.prices, 0 ≤ p ∧ p ≤ 2000000 := hc.price
def coversB (h : Hs) (a : Ac) : Bool := decide (missT h a h.prices ≤ 0)

set_option maxRecDepth 100000 in
set_option maxHeartbeats 4000000 in
theorem covers_any (b cm : Nat) (pm : Option Addr) (h : Hs) (a : Ac) (w : World) (hc : Calm h) (hR : HouseR w b h pm cm) (hca : CalmA a) :
    Calls Try.prog 37 #[.pointer (some ⟨b, 0, none⟩), accV a] w fun e w' => e = .returned (.bool (coversB h a)) ∧ Adds w w' := by
  have HMI := Lib.hid (fun (W : World) (hW : Adds w W) => missing_any b cm pm h a h.prices W hc (hR.later hW) hca hc.prices hc.price)
  have HR := Lib.hid hR
  have hlt := cell_lt hR.m14
  have HCH := Lib.hid hc.prices
  obtain ⟨ms, hms⟩ : ∃ m, m = missT h a h.prices := ⟨_, rfl⟩
  have HCP := Lib.hid (fun w => compare_adds ms 0 w)
  have HRES : Hid (decide (cmpT ms 0 ≤ 0) = coversB h a) := Lib.hid (by rw [cmp_le, hms]; rfl)
  rw [← hms] at HMI
  unfold wideV accV monthV at *
  rw [hi_zero, lo_zero] at HCP
  have HSZ : Hid ((encA a).toArray.size = 15) := Lib.hid (by simp [encA_len])
  obtain ⟨av, hav⟩ : ∃ v, v = (encA a).toArray := ⟨_, rfl⟩
  rw [← hav] at HMI HSZ ⊢
  generalize cmpT ms 0 = cc at *
  clear hc hR hca hms hav
  go_enter Try.func37, Try.ntmps37
  go_upto_region 1 with fail
  have k0 := Box.new w av 72
  have hA : Adds w (w.alloc (.cells av 72)) := (Adds.refl w).alloc _
  obtain ⟨W, hW⟩ : ∃ V, V = w.alloc (.cells av 72) := ⟨_, rfl⟩
  rw [← hW] at k0 hA ⊢
  obtain ⟨s, hs⟩ : ∃ s, s = w.heap.size := ⟨_, rfl⟩
  rw [← hs] at k0 ⊢
  have HA := Lib.hid hA
  have K0 := Lib.hid k0
  clear hW hs k0 hA
  refine wp_region_rules (fun i => i != i) (fun wq => Hid (Box wq s av 72) ∧ Hid (Adds w wq)) Adds (fun i v wq => match i with | 0 => v = .pointer (some ⟨b, 0, none⟩) | 1 => v = .agg av | 2 => v = .pointer (some ⟨b, 0, none⟩) | 3 => v = .pointer (some ⟨b, 0, none⟩) | 4 => v = .pointer (some ⟨b, 2, none⟩) | 5 => v = .agg (h.prices.map (Value.int .i64)).toArray | 6 => v = .agg #[.int .i64 (hiW ms), .int .u64 (loW ms)] | 7 => v = .agg #[.int .i64 0, .int .u64 0] | 8 => v = .int .i64 cc | 9 => v = .bool (decide (cc ≤ 0)) | 10 => v = .bool (decide (cc ≤ 0)) | _ => True) (by kernel_rfl) (by kernel_rfl) (by kernel_rfl) (by kernel_rfl) 11 (by kernel_rfl) [some 5, some 6, some 7, some 8, some 9, some 10, some 11, some 12, some 13, some 14, some 4] (by kernel_rfl) 0 #[true, true, true, true, true, true, true, true, true, true, true] (by kernel_rfl) (by kernel_rfl) ?hS ?hstab ?hrules ?hrest
  case hS => exact ⟨Lib.hid K0.out.drew, Lib.hid HA.out.drew⟩
  case hstab =>
    intro j v w1 w2 hst _ h
    match j, h with
    | 0, h => exact h
    | 1, h => exact h
    | 2, h => exact h
    | 3, h => exact h
    | 4, h => exact h
    | 5, h => exact h
    | 6, h => exact h
    | 7, h => exact h
    | 8, h => exact h
    | 9, h => exact h
    | 10, h => exact h
    | _ + 11, h => trivial
  case hrules =>
    refine rules_cons (n := 11) (ds := [some 5, some 6, some 7, some 8, some 9, some 10, some 11, some 12, some 13, some 14, some 4]) (by kernel_rfl) (by kernel_rfl) [] rfl (by kernel_rfl) ?_ ?_
    · intro x wq hx hS hdep K hK
      obtain ⟨x0, x1, x2, x3, x4, x5, x6, x7, x8, x9, x10, rfl⟩ := len11 hx
      have s0 := hS.1
      have sA := hS.2
      clear hdep hx hS
      simp only [putD, Act.put, List.setIfInBounds_toArray, List.set_cons_zero, List.set_cons_succ]
      go_simp
      have hk := hK.out (.pointer (some ⟨b, 0, none⟩)) _ (Adds.refl wq) ⟨s0, sA⟩ rfl (fun _ _ _ _ => ⟨trivial, trivial⟩)
      simp only [putD, Act.put, List.setIfInBounds_toArray, List.set_cons_zero, List.set_cons_succ] at hk
      exact hk
    refine rules_cons (n := 11) (ds := [some 5, some 6, some 7, some 8, some 9, some 10, some 11, some 12, some 13, some 14, some 4]) (by kernel_rfl) (by kernel_rfl) [] rfl (by kernel_rfl) ?_ ?_
    · intro x wq hx hS hdep K hK
      obtain ⟨x0, x1, x2, x3, x4, x5, x6, x7, x8, x9, x10, rfl⟩ := len11 hx
      have s0 := hS.1
      have sA := hS.2
      clear hdep hx hS
      simp only [putD, Act.put, List.setIfInBounds_toArray, List.set_cons_zero, List.set_cons_succ]
      refine wp_load_row 72 _ rfl s rfl 72 av (0, 0) _ s0.out Try.underlying72 rfl (by rw [info_acc, HSZ.out]) ?_
      have hk := hK.out (.agg av) _ (Adds.refl wq) ⟨s0, sA⟩ rfl (fun _ _ _ _ => ⟨trivial, trivial⟩)
      simp only [putD, Act.put, List.setIfInBounds_toArray, List.set_cons_zero, List.set_cons_succ] at hk
      exact hk
    refine rules_cons (n := 11) (ds := [some 5, some 6, some 7, some 8, some 9, some 10, some 11, some 12, some 13, some 14, some 4]) (by kernel_rfl) (by kernel_rfl) [] rfl (by kernel_rfl) ?_ ?_
    · intro x wq hx hS hdep K hK
      obtain ⟨x0, x1, x2, x3, x4, x5, x6, x7, x8, x9, x10, rfl⟩ := len11 hx
      have s0 := hS.1
      have sA := hS.2
      clear hdep hx hS
      simp only [putD, Act.put, List.setIfInBounds_toArray, List.set_cons_zero, List.set_cons_succ]
      go_simp
      have hk := hK.out (.pointer (some ⟨b, 0, none⟩)) _ (Adds.refl wq) ⟨s0, sA⟩ rfl (fun _ _ _ _ => ⟨trivial, trivial⟩)
      simp only [putD, Act.put, List.setIfInBounds_toArray, List.set_cons_zero, List.set_cons_succ] at hk
      exact hk
    refine rules_cons (n := 11) (ds := [some 5, some 6, some 7, some 8, some 9, some 10, some 11, some 12, some 13, some 14, some 4]) (by kernel_rfl) (by kernel_rfl) [2] rfl (by kernel_rfl) ?_ ?_
    · intro x wq hx hS hdep K hK
      obtain ⟨x0, x1, x2, x3, x4, x5, x6, x7, x8, x9, x10, rfl⟩ := len11 hx
      obtain rfl : x2 = .pointer (some ⟨b, 0, none⟩) := hdep 2 (by simp)
      have s0 := hS.1
      have sA := hS.2
      clear hdep hx hS
      simp only [putD, Act.put, List.setIfInBounds_toArray, List.set_cons_zero, List.set_cons_succ]
      go_simp
      have hk := hK.out (.pointer (some ⟨b, 0, none⟩)) _ (Adds.refl wq) ⟨s0, sA⟩ rfl (fun _ _ _ _ => ⟨trivial, trivial⟩)
      simp only [putD, Act.put, List.setIfInBounds_toArray, List.set_cons_zero, List.set_cons_succ] at hk
      exact hk
    refine rules_cons (n := 11) (ds := [some 5, some 6, some 7, some 8, some 9, some 10, some 11, some 12, some 13, some 14, some 4]) (by kernel_rfl) (by kernel_rfl) [3] rfl (by kernel_rfl) ?_ ?_
    · intro x wq hx hS hdep K hK
      obtain ⟨x0, x1, x2, x3, x4, x5, x6, x7, x8, x9, x10, rfl⟩ := len11 hx
      obtain rfl : x3 = .pointer (some ⟨b, 0, none⟩) := hdep 3 (by simp)
      have s0 := hS.1
      have sA := hS.2
      clear hdep hx hS
      simp only [putD, Act.put, List.setIfInBounds_toArray, List.set_cons_zero, List.set_cons_succ]
      go_simp
      have hk := hK.out (.pointer (some ⟨b, 2, none⟩)) _ (Adds.refl wq) ⟨s0, sA⟩ rfl (fun _ _ _ _ => ⟨trivial, trivial⟩)
      simp only [putD, Act.put, List.setIfInBounds_toArray, List.set_cons_zero, List.set_cons_succ] at hk
      exact hk
    refine rules_cons (n := 11) (ds := [some 5, some 6, some 7, some 8, some 9, some 10, some 11, some 12, some 13, some 14, some 4]) (by kernel_rfl) (by kernel_rfl) [4] rfl (by kernel_rfl) ?_ ?_
    · intro x wq hx hS hdep K hK
      obtain ⟨x0, x1, x2, x3, x4, x5, x6, x7, x8, x9, x10, rfl⟩ := len11 hx
      obtain rfl : x4 = .pointer (some ⟨b, 2, none⟩) := hdep 4 (by simp)
      have s0 := hS.1
      have sA := hS.2
      clear hdep hx hS
      simp only [putD, Act.put, List.setIfInBounds_toArray, List.set_cons_zero, List.set_cons_succ]
      refine wp_load_mid 61 _ rfl b 2 rfl (h.prices.map (Value.int .i64)) _ (HR.out.later sA.out).pr Try.underlying61 rfl (by rw [info_month, List.length_map, HCH.out]) ?_
      have hk := hK.out (.agg (h.prices.map (Value.int .i64)).toArray) _ (Adds.refl wq) ⟨s0, sA⟩ rfl (fun _ _ _ _ => ⟨trivial, trivial⟩)
      simp only [putD, Act.put, List.setIfInBounds_toArray, List.set_cons_zero, List.set_cons_succ] at hk
      exact hk
    refine rules_cons (n := 11) (ds := [some 5, some 6, some 7, some 8, some 9, some 10, some 11, some 12, some 13, some 14, some 4]) (by kernel_rfl) (by kernel_rfl) [0, 1, 5] rfl (by kernel_rfl) ?_ ?_
    · intro x wq hx hS hdep K hK
      obtain ⟨x0, x1, x2, x3, x4, x5, x6, x7, x8, x9, x10, rfl⟩ := len11 hx
      obtain rfl : x0 = .pointer (some ⟨b, 0, none⟩) := hdep 0 (by simp)
      obtain rfl : x1 = .agg av := hdep 1 (by simp)
      obtain rfl : x5 = .agg (h.prices.map (Value.int .i64)).toArray := hdep 5 (by simp)
      have s0 := hS.1
      have sA := hS.2
      clear hdep hx hS
      simp only [putD, Act.put, List.setIfInBounds_toArray, List.set_cons_zero, List.set_cons_succ]
      go_simp
      go_at_call 53
      refine (HMI.out _ sA.out).mono ?_
      rintro e w1 ⟨rfl, ha⟩
      have hk := hK.out (.agg #[.int .i64 (hiW ms), .int .u64 (loW ms)]) _ ha ⟨Lib.hid (s0.out.later ha), Lib.hid (sA.out.trans ha)⟩ rfl (fun _ _ _ _ => ⟨trivial, trivial⟩)
      simp only [putD, Act.put, List.setIfInBounds_toArray, List.set_cons_zero, List.set_cons_succ] at hk
      exact hk
    refine rules_cons (n := 11) (ds := [some 5, some 6, some 7, some 8, some 9, some 10, some 11, some 12, some 13, some 14, some 4]) (by kernel_rfl) (by kernel_rfl) [] rfl (by kernel_rfl) ?_ ?_
    · intro x wq hx hS hdep K hK
      obtain ⟨x0, x1, x2, x3, x4, x5, x6, x7, x8, x9, x10, rfl⟩ := len11 hx
      have s0 := hS.1
      have sA := hS.2
      clear hdep hx hS
      simp only [putD, Act.put, List.setIfInBounds_toArray, List.set_cons_zero, List.set_cons_succ]
      go_simp
      have hk := hK.out (.agg #[.int .i64 0, .int .u64 0]) _ (Adds.refl wq) ⟨s0, sA⟩ rfl (fun _ _ _ _ => ⟨trivial, trivial⟩)
      simp only [putD, Act.put, List.setIfInBounds_toArray, List.set_cons_zero, List.set_cons_succ] at hk
      exact hk
    refine rules_cons (n := 11) (ds := [some 5, some 6, some 7, some 8, some 9, some 10, some 11, some 12, some 13, some 14, some 4]) (by kernel_rfl) (by kernel_rfl) [6, 7] rfl (by kernel_rfl) ?_ ?_
    · intro x wq hx hS hdep K hK
      obtain ⟨x0, x1, x2, x3, x4, x5, x6, x7, x8, x9, x10, rfl⟩ := len11 hx
      obtain rfl : x6 = .agg #[.int .i64 (hiW ms), .int .u64 (loW ms)] := hdep 6 (by simp)
      obtain rfl : x7 = .agg #[.int .i64 0, .int .u64 0] := hdep 7 (by simp)
      have s0 := hS.1
      have sA := hS.2
      clear hdep hx hS
      simp only [putD, Act.put, List.setIfInBounds_toArray, List.set_cons_zero, List.set_cons_succ]
      go_simp
      go_at_call 42
      refine (HCP.out _).mono ?_
      rintro e w1 ⟨rfl, ha⟩
      have hk := hK.out (.int .i64 cc) _ ha ⟨Lib.hid (s0.out.later ha), Lib.hid (sA.out.trans ha)⟩ rfl (fun _ _ _ _ => ⟨trivial, trivial⟩)
      simp only [putD, Act.put, List.setIfInBounds_toArray, List.set_cons_zero, List.set_cons_succ] at hk
      exact hk
    refine rules_cons (n := 11) (ds := [some 5, some 6, some 7, some 8, some 9, some 10, some 11, some 12, some 13, some 14, some 4]) (by kernel_rfl) (by kernel_rfl) [8] rfl (by kernel_rfl) ?_ ?_
    · intro x wq hx hS hdep K hK
      obtain ⟨x0, x1, x2, x3, x4, x5, x6, x7, x8, x9, x10, rfl⟩ := len11 hx
      obtain rfl : x8 = .int .i64 cc := hdep 8 (by simp)
      have s0 := hS.1
      have sA := hS.2
      clear hdep hx hS
      simp only [putD, Act.put, List.setIfInBounds_toArray, List.set_cons_zero, List.set_cons_succ]
      go_simp
      have hk := hK.out (.bool (decide (cc ≤ 0))) _ (Adds.refl wq) ⟨s0, sA⟩ rfl (fun _ _ _ _ => ⟨trivial, trivial⟩)
      simp only [putD, Act.put, List.setIfInBounds_toArray, List.set_cons_zero, List.set_cons_succ] at hk
      exact hk
    refine rules_cons (n := 11) (ds := [some 5, some 6, some 7, some 8, some 9, some 10, some 11, some 12, some 13, some 14, some 4]) (by kernel_rfl) (by kernel_rfl) [9] rfl (by kernel_rfl) ?_ ?_
    · intro x wq hx hS hdep K hK
      obtain ⟨x0, x1, x2, x3, x4, x5, x6, x7, x8, x9, x10, rfl⟩ := len11 hx
      obtain rfl : x9 = .bool (decide (cc ≤ 0)) := hdep 9 (by simp)
      have s0 := hS.1
      have sA := hS.2
      clear hdep hx hS
      simp only [putD, Act.put, List.setIfInBounds_toArray, List.set_cons_zero, List.set_cons_succ]
      go_simp
      have hk := hK.out (.bool (decide (cc ≤ 0))) _ (Adds.refl wq) ⟨s0, sA⟩ rfl (fun _ _ _ _ => ⟨trivial, trivial⟩)
      simp only [putD, Act.put, List.setIfInBounds_toArray, List.set_cons_zero, List.set_cons_succ] at hk
      exact hk
    exact rules_nil
  case hrest =>
    intro x wq hx hS hP
    obtain ⟨x0, x1, x2, x3, x4, x5, x6, x7, x8, x9, x10, rfl⟩ := len11 hx
    obtain rfl : x0 = .pointer (some ⟨b, 0, none⟩) := hP 0 (by decide) (by rfl)
    obtain rfl : x1 = .agg av := hP 1 (by decide) (by rfl)
    obtain rfl : x2 = .pointer (some ⟨b, 0, none⟩) := hP 2 (by decide) (by rfl)
    obtain rfl : x3 = .pointer (some ⟨b, 0, none⟩) := hP 3 (by decide) (by rfl)
    obtain rfl : x4 = .pointer (some ⟨b, 2, none⟩) := hP 4 (by decide) (by rfl)
    obtain rfl : x5 = .agg (h.prices.map (Value.int .i64)).toArray := hP 5 (by decide) (by rfl)
    obtain rfl : x6 = .agg #[.int .i64 (hiW ms), .int .u64 (loW ms)] := hP 6 (by decide) (by rfl)
    obtain rfl : x7 = .agg #[.int .i64 0, .int .u64 0] := hP 7 (by decide) (by rfl)
    obtain rfl : x8 = .int .i64 cc := hP 8 (by decide) (by rfl)
    obtain rfl : x9 = .bool (decide (cc ≤ 0)) := hP 9 (by decide) (by rfl)
    obtain rfl : x10 = .bool (decide (cc ≤ 0)) := hP 10 (by decide) (by rfl)
    have s0 := hS.1
    have sA := hS.2
    clear hP hx hS
    simp only [putD, Act.put, List.setIfInBounds_toArray, List.set_cons_zero, List.set_cons_succ]
    refine rest_done (by kernel_rfl) ?_ _
    go_wp2
    go_ret
    exact ⟨ret_bool HRES.out, sA.out⟩

end Go.Proofs.Ytmkpidipoadnbaa
