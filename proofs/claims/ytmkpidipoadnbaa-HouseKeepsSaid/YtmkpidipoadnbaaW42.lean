/- Account of a house in memory. -/
import Derived.Test.YtmkpidipoadnbaaW41
namespace Go.Proofs.Ytmkpidipoadnbaa
open Go Go.RowKit Go.Sort

theorem arr24 {L : Array Bool} (h : L.size = 24) : ∃ l0 l1 l2 l3 l4 l5 l6 l7 l8 l9 l10 l11 l12 l13 l14 l15 l16 l17 l18 l19 l20 l21 l22 l23, L = #[l0, l1, l2, l3, l4, l5, l6, l7, l8, l9, l10, l11, l12, l13, l14, l15, l16, l17, l18, l19, l20, l21, l22, l23] := by
  obtain ⟨L⟩ := L
  match L, h with
  | [l0, l1, l2, l3, l4, l5, l6, l7, l8, l9, l10, l11, l12, l13, l14, l15, l16, l17, l18, l19, l20, l21, l22, l23], _ => exact ⟨_, _, _, _, _, _, _, _, _, _, _, _, _, _, _, _, _, _, _, _, _, _, _, _, rfl⟩
theorem info_acct : (Try.prog.info? 53).map (·.size) = some 4 := by kernel_rfl
def acctV (a : Ac) (q : Option Addr) (mo d : Nat) : Value := .agg #[.int .i64 a.cash, .int .i64 a.fund, .slice q mo d, .bool a.out]
set_option maxRecDepth 100000 in
theorem account_bad (v : Value) (x e : Int) (w : World) (he : e ≠ 0) (hf : ∀ W, Adds w W → FindTo v x W none e) : Calls Try.prog 16 #[v, .int .i64 x] w fun r w' => r = .returned (.tuple #[.agg #[.int .i64 0, .int .i64 0, .slice none 0 0, .bool false], .int .i64 e]) ∧ Adds w w' := by
  have HF := Lib.hid hf
  have hne : (e == 0) = false := by rw [beq_eq_false_iff_ne]; exact he
  clear hf
  obtain ⟨s, hs⟩ : ∃ s, s = w.heap.size := ⟨_, rfl⟩
  have HS := Lib.hid hs
  go_enter Try.func16, Try.ntmps16
  go_upto_region 2 with (go_at_call 32; refine (HF.out _ ((Adds.refl w).alloc _)).mono ?_; rintro e w1 ⟨rfl, ha⟩; have HA := Lib.hid ha; clear ha)
  rw [← hs]
  have bx : Box w1 s #[.int .i64 0, .int .i64 0, .slice none 0 0, .bool false] 53 := (box_new hs).later HA.out
  have BX := Lib.hid bx
  have e0 := bx.cell 0
  have e1 := bx.cell 1
  have e2 := bx.cell 2
  have e3 := bx.cell 3
  have g0 := bx.free 0
  have g1 := bx.free 1
  have g2 := bx.free 2
  have g3 := bx.free 3
  clear bx hs
  go_wp2
  have HA2 : Adds w w1 := ((Adds.refl w).alloc _).trans HA.out
  have bF : Box (w1.setCells s 0 [.int .i64 0, .int .i64 0, .slice none 0 0, .bool false]) s #[.int .i64 0, .int .i64 0, .slice none 0 0, .bool false] 53 := BX.out.setCells [.int .i64 0, .int .i64 0, .slice none 0 0, .bool false] 0
  refine post_row2 (vs := #[.int .i64 0, .int .i64 0, .slice none 0 0, .bool false]) (v := .int .i64 e) rfl rfl rfl rfl rfl Try.underlying53 info_acct bF ⟨rfl, ?_⟩
  show Adds w (w1.setCells s 0 [.int .i64 0, .int .i64 0, .slice none 0 0, .bool false])
  exact Adds.setCells (b := s) (by have := HS.out; omega) _ 0 HA2
set_option maxRecDepth 100000 in
set_option maxHeartbeats 4000000 in
theorem account_ok (x : Int) (b ga iu mo : Nat) (a : Ac) (w : World) (hr : w.rangeAt ga (iu * 15) (encA a)) (h1 : w.cell? ⟨b, 1, none⟩ = some (.int .i64 (mo : Int))) (hl : a.pos.length = 12) (hm0 : 0 < mo) (hm1 : mo ≤ 12) (hf : ∀ W, Adds w W → FindTo (.pointer (some ⟨b, 0, none⟩)) x W (accP ga iu) 0) :
    Calls Try.prog 16 #[.pointer (some ⟨b, 0, none⟩), .int .i64 x] w fun r w' => ∃ q d, r = .returned (.tuple #[acctV a q mo d, .int .i64 0]) ∧ w'.ownsRow w.heap.size 2 1 (.slice q mo d) mo ((a.pos.take mo).map (Value.int .i64)) ∧ Adds w w' := by
  have HF := Lib.hid hf
  have HC0 := Lib.hid (fun W (hW : Adds w W) => range_later hr hW 0 _ rfl)
  have HC1 := Lib.hid (fun W (hW : Adds w W) => range_later hr hW 1 _ rfl)
  have HC14 := Lib.hid (fun W (hW : Adds w W) => range_later hr hW 14 _ (encA_out a))
  have HMO := Lib.hid (fun W (hW : Adds w W) => keep_cell hW h1)
  have hr2 : w.rangeAt ga (iu * 15 + 2) ((a.pos.take mo).map (Value.int .i64)) := fun j v hj => by
    rw [List.map_take, List.getElem?_take] at hj
    split at hj
    case isFalse => cases hj
    have := hr (2 + j) v (by rw [← List.getElem?_toArray]; exact encA_pos hl j v hj)
    rw [Nat.add_assoc]
    exact this
  have hlt : (a.pos.take mo).length = mo := by rw [List.length_take]; omega
  have HCL := Lib.hid (fun W (hW : Adds w W) => clone_any ga (iu * 15 + 2) 12 (a.pos.take mo) W (range_later hr2 hW) (by omega) (by omega))
  rw [hlt] at HCL
  unfold acctV accP at *
  obtain ⟨cash, hca⟩ : ∃ c, c = a.cash := ⟨_, rfl⟩
  obtain ⟨fund, hfu⟩ : ∃ c, c = a.fund := ⟨_, rfl⟩
  obtain ⟨ou, hou⟩ : ∃ c, c = a.out := ⟨_, rfl⟩
  obtain ⟨XL, hXL⟩ : ∃ c, c = (a.pos.take mo).map (Value.int .i64) := ⟨_, rfl⟩
  rw [← hca] at HC0 ⊢
  rw [← hfu] at HC1 ⊢
  rw [← hou] at HC14 ⊢
  rw [← hXL] at HCL ⊢
  clear hf hr h1 hl hr2 hlt hca hfu hou hXL
  simp only [Nat.add_zero] at HC0
  obtain ⟨s, hs⟩ : ∃ s, s = w.heap.size := ⟨_, rfl⟩
  have HS := Lib.hid hs
  go_enter Try.func16, Try.ntmps16
  go_upto_region 4 with (go_at_call 32; refine (HF.out _ ((Adds.refl w).alloc _)).mono ?_; rintro e w1 ⟨rfl, ha⟩; have HA := Lib.hid ha; clear ha)
  rw [← hs]
  have BX : Hid (Box w1 s #[.int .i64 0, .int .i64 0, .slice none 0 0, .bool false] 53) := Lib.hid ((box_new hs).later HA.out)
  have HA2 : Hid (Adds w w1) := Lib.hid (((Adds.refl w).alloc _).trans HA.out)
  have hm2 : (0 : Int) ≤ (mo : Int) := by omega
  have hm3 : (mo : Int) ≤ 12 := by omega
  clear hs HA HF
  refine wp_region_rules (fun i => i == 22 || i == 23) (fun wq => Hid (Box wq s #[.int .i64 0, .int .i64 0, .slice none 0 0, .bool false] 53) ∧ Hid (Adds w wq)) Adds (fun i v wq => match i with | 0 => v = .pointer (some ⟨ga, iu * 15, none⟩) | 1 => v = .pointer (some ⟨ga, iu * 15, none⟩) | 2 => v = .pointer (some ⟨ga, iu * 15, none⟩) | 3 => v = .int .i64 cash | 4 => v = .pointer (some ⟨ga, iu * 15, none⟩) | 5 => v = .pointer (some ⟨ga, iu * 15, none⟩) | 6 => v = .pointer (some ⟨ga, iu * 15 + 1, none⟩) | 7 => v = .int .i64 fund | 8 => v = .pointer (some ⟨ga, iu * 15, none⟩) | 9 => v = .pointer (some ⟨ga, iu * 15, none⟩) | 10 => v = .pointer (some ⟨ga, iu * 15 + 2, none⟩) | 11 => v = .pointer (some ⟨b, 0, none⟩) | 12 => v = .pointer (some ⟨b, 0, none⟩) | 13 => v = .pointer (some ⟨b, 1, none⟩) | 14 => v = .int .i64 (mo : Int) | 15 => v = .slice (some ⟨ga, iu * 15 + 2, none⟩) mo 12 | 16 => ∃ q d, v = .slice q mo d ∧ Hid (World.ownsRow wq w.heap.size 2 1 (.slice q mo d) mo XL) | 17 => v = .pointer (some ⟨ga, iu * 15, none⟩) | 18 => v = .pointer (some ⟨ga, iu * 15, none⟩) | 19 => v = .pointer (some ⟨ga, iu * 15 + 14, none⟩) | 20 => v = .bool ou | 21 => ∃ q d, v = .agg #[.int .i64 cash, .int .i64 fund, .slice q mo d, .bool ou] ∧ Hid (World.ownsRow wq w.heap.size 2 1 (.slice q mo d) mo XL) | _ => True) (by kernel_rfl) (by kernel_rfl) (by kernel_rfl) (by kernel_rfl) 24 (by kernel_rfl) [some 18, some 19, some 20, some 21, some 22, some 23, some 24, some 25, some 26, some 27, some 28, some 29, some 30, some 31, some 32, some 33, some 34, some 35, some 36, some 37, some 38, some 39, none, some 5] (by kernel_rfl) 2 #[true, true, true, true, true, true, true, true, true, true, true, true, true, true, true, true, true, true, true, true, true, true, false, false] (by kernel_rfl) (by kernel_rfl) ?hS ?hstab ?hrules ?hrest
  case hS => exact ⟨Lib.hid BX.out.drew, Lib.hid HA2.out.drew⟩
  case hstab =>
    intro j v w1 w2 hst _ h
    match j, h with
    | 16, h => exact h.elim fun q e => e.elim fun d e => ⟨q, d, e.1, Lib.hid (own_later e.2.out hst)⟩
    | 21, h => exact h.elim fun q e => e.elim fun d e => ⟨q, d, e.1, Lib.hid (own_later e.2.out hst)⟩
    | 0, h => exact h
    | 1, h => exact h
    | 2, h => exact h
    | 3, h => exact h
    | 4, h => exact h
    | 5, h => exact h
    | 6, h => exact h
    | 7, h => exact h
    | 8, h => exact h
    | 9, h => exact h
    | 10, h => exact h
    | 11, h => exact h
    | 12, h => exact h
    | 13, h => exact h
    | 14, h => exact h
    | 15, h => exact h
    | 17, h => exact h
    | 18, h => exact h
    | 19, h => exact h
    | 20, h => exact h
    | 22, h => trivial
    | 23, h => trivial
    | _ + 24, h => trivial
  case hrules =>
    refine rules_cons (n := 24) (ds := [some 18, some 19, some 20, some 21, some 22, some 23, some 24, some 25, some 26, some 27, some 28, some 29, some 30, some 31, some 32, some 33, some 34, some 35, some 36, some 37, some 38, some 39, none, some 5]) (by kernel_rfl) (by kernel_rfl) [] rfl (by kernel_rfl) ?_ ?_
    · intro x wq hx hS hdep K hK
      obtain ⟨x0, x1, x2, x3, x4, x5, x6, x7, x8, x9, x10, x11, x12, x13, x14, x15, x16, x17, x18, x19, x20, x21, x22, x23, rfl⟩ := len24 hx
      have s0 := hS.1
      have sA := hS.2
      clear hdep hx hS
      simp only [putD, Act.put, List.setIfInBounds_toArray, List.set_cons_zero, List.set_cons_succ]
      go_simp
      have hk := hK.out (.pointer (some ⟨ga, iu * 15, none⟩)) _ (Adds.refl wq) ⟨s0, sA⟩ rfl (fun _ _ _ _ => ⟨trivial, trivial⟩)
      simp only [putD, Act.put, List.setIfInBounds_toArray, List.set_cons_zero, List.set_cons_succ] at hk
      exact hk
    refine rules_cons (n := 24) (ds := [some 18, some 19, some 20, some 21, some 22, some 23, some 24, some 25, some 26, some 27, some 28, some 29, some 30, some 31, some 32, some 33, some 34, some 35, some 36, some 37, some 38, some 39, none, some 5]) (by kernel_rfl) (by kernel_rfl) [0] rfl (by kernel_rfl) ?_ ?_
    · intro x wq hx hS hdep K hK
      obtain ⟨x0, x1, x2, x3, x4, x5, x6, x7, x8, x9, x10, x11, x12, x13, x14, x15, x16, x17, x18, x19, x20, x21, x22, x23, rfl⟩ := len24 hx
      obtain rfl : x0 = .pointer (some ⟨ga, iu * 15, none⟩) := hdep 0 (by simp)
      have s0 := hS.1
      have sA := hS.2
      clear hdep hx hS
      simp only [putD, Act.put, List.setIfInBounds_toArray, List.set_cons_zero, List.set_cons_succ]
      go_simp
      have hk := hK.out (.pointer (some ⟨ga, iu * 15, none⟩)) _ (Adds.refl wq) ⟨s0, sA⟩ rfl (fun _ _ _ _ => ⟨trivial, trivial⟩)
      simp only [putD, Act.put, List.setIfInBounds_toArray, List.set_cons_zero, List.set_cons_succ] at hk
      exact hk
    refine rules_cons (n := 24) (ds := [some 18, some 19, some 20, some 21, some 22, some 23, some 24, some 25, some 26, some 27, some 28, some 29, some 30, some 31, some 32, some 33, some 34, some 35, some 36, some 37, some 38, some 39, none, some 5]) (by kernel_rfl) (by kernel_rfl) [1] rfl (by kernel_rfl) ?_ ?_
    · intro x wq hx hS hdep K hK
      obtain ⟨x0, x1, x2, x3, x4, x5, x6, x7, x8, x9, x10, x11, x12, x13, x14, x15, x16, x17, x18, x19, x20, x21, x22, x23, rfl⟩ := len24 hx
      obtain rfl : x1 = .pointer (some ⟨ga, iu * 15, none⟩) := hdep 1 (by simp)
      have s0 := hS.1
      have sA := hS.2
      clear hdep hx hS
      simp only [putD, Act.put, List.setIfInBounds_toArray, List.set_cons_zero, List.set_cons_succ]
      go_simp
      have hk := hK.out (.pointer (some ⟨ga, iu * 15, none⟩)) _ (Adds.refl wq) ⟨s0, sA⟩ rfl (fun _ _ _ _ => ⟨trivial, trivial⟩)
      simp only [putD, Act.put, List.setIfInBounds_toArray, List.set_cons_zero, List.set_cons_succ] at hk
      exact hk
    refine rules_cons (n := 24) (ds := [some 18, some 19, some 20, some 21, some 22, some 23, some 24, some 25, some 26, some 27, some 28, some 29, some 30, some 31, some 32, some 33, some 34, some 35, some 36, some 37, some 38, some 39, none, some 5]) (by kernel_rfl) (by kernel_rfl) [2] rfl (by kernel_rfl) ?_ ?_
    · intro x wq hx hS hdep K hK
      obtain ⟨x0, x1, x2, x3, x4, x5, x6, x7, x8, x9, x10, x11, x12, x13, x14, x15, x16, x17, x18, x19, x20, x21, x22, x23, rfl⟩ := len24 hx
      obtain rfl : x2 = .pointer (some ⟨ga, iu * 15, none⟩) := hdep 2 (by simp)
      have s0 := hS.1
      have sA := hS.2
      clear hdep hx hS
      simp only [putD, Act.put, List.setIfInBounds_toArray, List.set_cons_zero, List.set_cons_succ]
      have c0 := HC0.out wq sA.out
      go_simp
      have hk := hK.out (.int .i64 cash) _ (Adds.refl wq) ⟨s0, sA⟩ rfl (fun _ _ _ _ => ⟨trivial, trivial⟩)
      simp only [putD, Act.put, List.setIfInBounds_toArray, List.set_cons_zero, List.set_cons_succ] at hk
      exact hk
    refine rules_cons (n := 24) (ds := [some 18, some 19, some 20, some 21, some 22, some 23, some 24, some 25, some 26, some 27, some 28, some 29, some 30, some 31, some 32, some 33, some 34, some 35, some 36, some 37, some 38, some 39, none, some 5]) (by kernel_rfl) (by kernel_rfl) [] rfl (by kernel_rfl) ?_ ?_
    · intro x wq hx hS hdep K hK
      obtain ⟨x0, x1, x2, x3, x4, x5, x6, x7, x8, x9, x10, x11, x12, x13, x14, x15, x16, x17, x18, x19, x20, x21, x22, x23, rfl⟩ := len24 hx
      have s0 := hS.1
      have sA := hS.2
      clear hdep hx hS
      simp only [putD, Act.put, List.setIfInBounds_toArray, List.set_cons_zero, List.set_cons_succ]
      go_simp
      have hk := hK.out (.pointer (some ⟨ga, iu * 15, none⟩)) _ (Adds.refl wq) ⟨s0, sA⟩ rfl (fun _ _ _ _ => ⟨trivial, trivial⟩)
      simp only [putD, Act.put, List.setIfInBounds_toArray, List.set_cons_zero, List.set_cons_succ] at hk
      exact hk
    refine rules_cons (n := 24) (ds := [some 18, some 19, some 20, some 21, some 22, some 23, some 24, some 25, some 26, some 27, some 28, some 29, some 30, some 31, some 32, some 33, some 34, some 35, some 36, some 37, some 38, some 39, none, some 5]) (by kernel_rfl) (by kernel_rfl) [4] rfl (by kernel_rfl) ?_ ?_
    · intro x wq hx hS hdep K hK
      obtain ⟨x0, x1, x2, x3, x4, x5, x6, x7, x8, x9, x10, x11, x12, x13, x14, x15, x16, x17, x18, x19, x20, x21, x22, x23, rfl⟩ := len24 hx
      obtain rfl : x4 = .pointer (some ⟨ga, iu * 15, none⟩) := hdep 4 (by simp)
      have s0 := hS.1
      have sA := hS.2
      clear hdep hx hS
      simp only [putD, Act.put, List.setIfInBounds_toArray, List.set_cons_zero, List.set_cons_succ]
      go_simp
      have hk := hK.out (.pointer (some ⟨ga, iu * 15, none⟩)) _ (Adds.refl wq) ⟨s0, sA⟩ rfl (fun _ _ _ _ => ⟨trivial, trivial⟩)
      simp only [putD, Act.put, List.setIfInBounds_toArray, List.set_cons_zero, List.set_cons_succ] at hk
      exact hk
    refine rules_cons (n := 24) (ds := [some 18, some 19, some 20, some 21, some 22, some 23, some 24, some 25, some 26, some 27, some 28, some 29, some 30, some 31, some 32, some 33, some 34, some 35, some 36, some 37, some 38, some 39, none, some 5]) (by kernel_rfl) (by kernel_rfl) [5] rfl (by kernel_rfl) ?_ ?_
    · intro x wq hx hS hdep K hK
      obtain ⟨x0, x1, x2, x3, x4, x5, x6, x7, x8, x9, x10, x11, x12, x13, x14, x15, x16, x17, x18, x19, x20, x21, x22, x23, rfl⟩ := len24 hx
      obtain rfl : x5 = .pointer (some ⟨ga, iu * 15, none⟩) := hdep 5 (by simp)
      have s0 := hS.1
      have sA := hS.2
      clear hdep hx hS
      simp only [putD, Act.put, List.setIfInBounds_toArray, List.set_cons_zero, List.set_cons_succ]
      go_simp
      have hk := hK.out (.pointer (some ⟨ga, iu * 15 + 1, none⟩)) _ (Adds.refl wq) ⟨s0, sA⟩ rfl (fun _ _ _ _ => ⟨trivial, trivial⟩)
      simp only [putD, Act.put, List.setIfInBounds_toArray, List.set_cons_zero, List.set_cons_succ] at hk
      exact hk
    refine rules_cons (n := 24) (ds := [some 18, some 19, some 20, some 21, some 22, some 23, some 24, some 25, some 26, some 27, some 28, some 29, some 30, some 31, some 32, some 33, some 34, some 35, some 36, some 37, some 38, some 39, none, some 5]) (by kernel_rfl) (by kernel_rfl) [6] rfl (by kernel_rfl) ?_ ?_
    · intro x wq hx hS hdep K hK
      obtain ⟨x0, x1, x2, x3, x4, x5, x6, x7, x8, x9, x10, x11, x12, x13, x14, x15, x16, x17, x18, x19, x20, x21, x22, x23, rfl⟩ := len24 hx
      obtain rfl : x6 = .pointer (some ⟨ga, iu * 15 + 1, none⟩) := hdep 6 (by simp)
      have s0 := hS.1
      have sA := hS.2
      clear hdep hx hS
      simp only [putD, Act.put, List.setIfInBounds_toArray, List.set_cons_zero, List.set_cons_succ]
      have c0 := HC1.out wq sA.out
      go_simp
      have hk := hK.out (.int .i64 fund) _ (Adds.refl wq) ⟨s0, sA⟩ rfl (fun _ _ _ _ => ⟨trivial, trivial⟩)
      simp only [putD, Act.put, List.setIfInBounds_toArray, List.set_cons_zero, List.set_cons_succ] at hk
      exact hk
    refine rules_cons (n := 24) (ds := [some 18, some 19, some 20, some 21, some 22, some 23, some 24, some 25, some 26, some 27, some 28, some 29, some 30, some 31, some 32, some 33, some 34, some 35, some 36, some 37, some 38, some 39, none, some 5]) (by kernel_rfl) (by kernel_rfl) [] rfl (by kernel_rfl) ?_ ?_
    · intro x wq hx hS hdep K hK
      obtain ⟨x0, x1, x2, x3, x4, x5, x6, x7, x8, x9, x10, x11, x12, x13, x14, x15, x16, x17, x18, x19, x20, x21, x22, x23, rfl⟩ := len24 hx
      have s0 := hS.1
      have sA := hS.2
      clear hdep hx hS
      simp only [putD, Act.put, List.setIfInBounds_toArray, List.set_cons_zero, List.set_cons_succ]
      go_simp
      have hk := hK.out (.pointer (some ⟨ga, iu * 15, none⟩)) _ (Adds.refl wq) ⟨s0, sA⟩ rfl (fun _ _ _ _ => ⟨trivial, trivial⟩)
      simp only [putD, Act.put, List.setIfInBounds_toArray, List.set_cons_zero, List.set_cons_succ] at hk
      exact hk
    refine rules_cons (n := 24) (ds := [some 18, some 19, some 20, some 21, some 22, some 23, some 24, some 25, some 26, some 27, some 28, some 29, some 30, some 31, some 32, some 33, some 34, some 35, some 36, some 37, some 38, some 39, none, some 5]) (by kernel_rfl) (by kernel_rfl) [8] rfl (by kernel_rfl) ?_ ?_
    · intro x wq hx hS hdep K hK
      obtain ⟨x0, x1, x2, x3, x4, x5, x6, x7, x8, x9, x10, x11, x12, x13, x14, x15, x16, x17, x18, x19, x20, x21, x22, x23, rfl⟩ := len24 hx
      obtain rfl : x8 = .pointer (some ⟨ga, iu * 15, none⟩) := hdep 8 (by simp)
      have s0 := hS.1
      have sA := hS.2
      clear hdep hx hS
      simp only [putD, Act.put, List.setIfInBounds_toArray, List.set_cons_zero, List.set_cons_succ]
      go_simp
      have hk := hK.out (.pointer (some ⟨ga, iu * 15, none⟩)) _ (Adds.refl wq) ⟨s0, sA⟩ rfl (fun _ _ _ _ => ⟨trivial, trivial⟩)
      simp only [putD, Act.put, List.setIfInBounds_toArray, List.set_cons_zero, List.set_cons_succ] at hk
      exact hk
    refine rules_cons (n := 24) (ds := [some 18, some 19, some 20, some 21, some 22, some 23, some 24, some 25, some 26, some 27, some 28, some 29, some 30, some 31, some 32, some 33, some 34, some 35, some 36, some 37, some 38, some 39, none, some 5]) (by kernel_rfl) (by kernel_rfl) [9] rfl (by kernel_rfl) ?_ ?_
    · intro x wq hx hS hdep K hK
      obtain ⟨x0, x1, x2, x3, x4, x5, x6, x7, x8, x9, x10, x11, x12, x13, x14, x15, x16, x17, x18, x19, x20, x21, x22, x23, rfl⟩ := len24 hx
      obtain rfl : x9 = .pointer (some ⟨ga, iu * 15, none⟩) := hdep 9 (by simp)
      have s0 := hS.1
      have sA := hS.2
      clear hdep hx hS
      simp only [putD, Act.put, List.setIfInBounds_toArray, List.set_cons_zero, List.set_cons_succ]
      go_simp
      have hk := hK.out (.pointer (some ⟨ga, iu * 15 + 2, none⟩)) _ (Adds.refl wq) ⟨s0, sA⟩ rfl (fun _ _ _ _ => ⟨trivial, trivial⟩)
      simp only [putD, Act.put, List.setIfInBounds_toArray, List.set_cons_zero, List.set_cons_succ] at hk
      exact hk
    refine rules_cons (n := 24) (ds := [some 18, some 19, some 20, some 21, some 22, some 23, some 24, some 25, some 26, some 27, some 28, some 29, some 30, some 31, some 32, some 33, some 34, some 35, some 36, some 37, some 38, some 39, none, some 5]) (by kernel_rfl) (by kernel_rfl) [] rfl (by kernel_rfl) ?_ ?_
    · intro x wq hx hS hdep K hK
      obtain ⟨x0, x1, x2, x3, x4, x5, x6, x7, x8, x9, x10, x11, x12, x13, x14, x15, x16, x17, x18, x19, x20, x21, x22, x23, rfl⟩ := len24 hx
      have s0 := hS.1
      have sA := hS.2
      clear hdep hx hS
      simp only [putD, Act.put, List.setIfInBounds_toArray, List.set_cons_zero, List.set_cons_succ]
      go_simp
      have hk := hK.out (.pointer (some ⟨b, 0, none⟩)) _ (Adds.refl wq) ⟨s0, sA⟩ rfl (fun _ _ _ _ => ⟨trivial, trivial⟩)
      simp only [putD, Act.put, List.setIfInBounds_toArray, List.set_cons_zero, List.set_cons_succ] at hk
      exact hk
    refine rules_cons (n := 24) (ds := [some 18, some 19, some 20, some 21, some 22, some 23, some 24, some 25, some 26, some 27, some 28, some 29, some 30, some 31, some 32, some 33, some 34, some 35, some 36, some 37, some 38, some 39, none, some 5]) (by kernel_rfl) (by kernel_rfl) [11] rfl (by kernel_rfl) ?_ ?_
    · intro x wq hx hS hdep K hK
      obtain ⟨x0, x1, x2, x3, x4, x5, x6, x7, x8, x9, x10, x11, x12, x13, x14, x15, x16, x17, x18, x19, x20, x21, x22, x23, rfl⟩ := len24 hx
      obtain rfl : x11 = .pointer (some ⟨b, 0, none⟩) := hdep 11 (by simp)
      have s0 := hS.1
      have sA := hS.2
      clear hdep hx hS
      simp only [putD, Act.put, List.setIfInBounds_toArray, List.set_cons_zero, List.set_cons_succ]
      go_simp
      have hk := hK.out (.pointer (some ⟨b, 0, none⟩)) _ (Adds.refl wq) ⟨s0, sA⟩ rfl (fun _ _ _ _ => ⟨trivial, trivial⟩)
      simp only [putD, Act.put, List.setIfInBounds_toArray, List.set_cons_zero, List.set_cons_succ] at hk
      exact hk
    refine rules_cons (n := 24) (ds := [some 18, some 19, some 20, some 21, some 22, some 23, some 24, some 25, some 26, some 27, some 28, some 29, some 30, some 31, some 32, some 33, some 34, some 35, some 36, some 37, some 38, some 39, none, some 5]) (by kernel_rfl) (by kernel_rfl) [12] rfl (by kernel_rfl) ?_ ?_
    · intro x wq hx hS hdep K hK
      obtain ⟨x0, x1, x2, x3, x4, x5, x6, x7, x8, x9, x10, x11, x12, x13, x14, x15, x16, x17, x18, x19, x20, x21, x22, x23, rfl⟩ := len24 hx
      obtain rfl : x12 = .pointer (some ⟨b, 0, none⟩) := hdep 12 (by simp)
      have s0 := hS.1
      have sA := hS.2
      clear hdep hx hS
      simp only [putD, Act.put, List.setIfInBounds_toArray, List.set_cons_zero, List.set_cons_succ]
      go_simp
      have hk := hK.out (.pointer (some ⟨b, 1, none⟩)) _ (Adds.refl wq) ⟨s0, sA⟩ rfl (fun _ _ _ _ => ⟨trivial, trivial⟩)
      simp only [putD, Act.put, List.setIfInBounds_toArray, List.set_cons_zero, List.set_cons_succ] at hk
      exact hk
    refine rules_cons (n := 24) (ds := [some 18, some 19, some 20, some 21, some 22, some 23, some 24, some 25, some 26, some 27, some 28, some 29, some 30, some 31, some 32, some 33, some 34, some 35, some 36, some 37, some 38, some 39, none, some 5]) (by kernel_rfl) (by kernel_rfl) [13] rfl (by kernel_rfl) ?_ ?_
    · intro x wq hx hS hdep K hK
      obtain ⟨x0, x1, x2, x3, x4, x5, x6, x7, x8, x9, x10, x11, x12, x13, x14, x15, x16, x17, x18, x19, x20, x21, x22, x23, rfl⟩ := len24 hx
      obtain rfl : x13 = .pointer (some ⟨b, 1, none⟩) := hdep 13 (by simp)
      have s0 := hS.1
      have sA := hS.2
      clear hdep hx hS
      simp only [putD, Act.put, List.setIfInBounds_toArray, List.set_cons_zero, List.set_cons_succ]
      have c0 := HMO.out wq sA.out
      go_simp
      have hk := hK.out (.int .i64 (mo : Int)) _ (Adds.refl wq) ⟨s0, sA⟩ rfl (fun _ _ _ _ => ⟨trivial, trivial⟩)
      simp only [putD, Act.put, List.setIfInBounds_toArray, List.set_cons_zero, List.set_cons_succ] at hk
      exact hk
    refine rules_cons (n := 24) (ds := [some 18, some 19, some 20, some 21, some 22, some 23, some 24, some 25, some 26, some 27, some 28, some 29, some 30, some 31, some 32, some 33, some 34, some 35, some 36, some 37, some 38, some 39, none, some 5]) (by kernel_rfl) (by kernel_rfl) [10, 14] rfl (by kernel_rfl) ?_ ?_
    · intro x wq hx hS hdep K hK
      obtain ⟨x0, x1, x2, x3, x4, x5, x6, x7, x8, x9, x10, x11, x12, x13, x14, x15, x16, x17, x18, x19, x20, x21, x22, x23, rfl⟩ := len24 hx
      obtain rfl : x10 = .pointer (some ⟨ga, iu * 15 + 2, none⟩) := hdep 10 (by simp)
      obtain rfl : x14 = .int .i64 (mo : Int) := hdep 14 (by simp)
      have s0 := hS.1
      have sA := hS.2
      clear hdep hx hS
      simp only [putD, Act.put, List.setIfInBounds_toArray, List.set_cons_zero, List.set_cons_succ]
      go_simp
      have hk := hK.out (.slice (some ⟨ga, iu * 15 + 2, none⟩) mo 12) _ (Adds.refl wq) ⟨s0, sA⟩ rfl (fun _ _ _ _ => ⟨trivial, trivial⟩)
      simp only [putD, Act.put, List.setIfInBounds_toArray, List.set_cons_zero, List.set_cons_succ] at hk
      exact hk
    refine rules_cons (n := 24) (ds := [some 18, some 19, some 20, some 21, some 22, some 23, some 24, some 25, some 26, some 27, some 28, some 29, some 30, some 31, some 32, some 33, some 34, some 35, some 36, some 37, some 38, some 39, none, some 5]) (by kernel_rfl) (by kernel_rfl) [15] rfl (by kernel_rfl) ?_ ?_
    · intro x wq hx hS hdep K hK
      obtain ⟨x0, x1, x2, x3, x4, x5, x6, x7, x8, x9, x10, x11, x12, x13, x14, x15, x16, x17, x18, x19, x20, x21, x22, x23, rfl⟩ := len24 hx
      obtain rfl : x15 = .slice (some ⟨ga, iu * 15 + 2, none⟩) mo 12 := hdep 15 (by simp)
      have s0 := hS.1
      have sA := hS.2
      clear hdep hx hS
      simp only [putD, Act.put, List.setIfInBounds_toArray, List.set_cons_zero, List.set_cons_succ]
      go_simp
      go_at_call 33
      refine (HCL.out _ sA.out).mono ?_
      rintro e w2 ⟨q, d, rfl, ho, ha⟩
      have hk := hK.out (.slice q mo d) _ ha ⟨Lib.hid (s0.out.later ha), Lib.hid (sA.out.trans ha)⟩ ⟨q, d, rfl, Lib.hid (own_base_le ho sA.out.size)⟩ (fun _ _ _ _ => ⟨trivial, trivial⟩)
      simp only [putD, Act.put, List.setIfInBounds_toArray, List.set_cons_zero, List.set_cons_succ] at hk
      exact hk
    refine rules_cons (n := 24) (ds := [some 18, some 19, some 20, some 21, some 22, some 23, some 24, some 25, some 26, some 27, some 28, some 29, some 30, some 31, some 32, some 33, some 34, some 35, some 36, some 37, some 38, some 39, none, some 5]) (by kernel_rfl) (by kernel_rfl) [] rfl (by kernel_rfl) ?_ ?_
    · intro x wq hx hS hdep K hK
      obtain ⟨x0, x1, x2, x3, x4, x5, x6, x7, x8, x9, x10, x11, x12, x13, x14, x15, x16, x17, x18, x19, x20, x21, x22, x23, rfl⟩ := len24 hx
      have s0 := hS.1
      have sA := hS.2
      clear hdep hx hS
      simp only [putD, Act.put, List.setIfInBounds_toArray, List.set_cons_zero, List.set_cons_succ]
      go_simp
      have hk := hK.out (.pointer (some ⟨ga, iu * 15, none⟩)) _ (Adds.refl wq) ⟨s0, sA⟩ rfl (fun _ _ _ _ => ⟨trivial, trivial⟩)
      simp only [putD, Act.put, List.setIfInBounds_toArray, List.set_cons_zero, List.set_cons_succ] at hk
      exact hk
    refine rules_cons (n := 24) (ds := [some 18, some 19, some 20, some 21, some 22, some 23, some 24, some 25, some 26, some 27, some 28, some 29, some 30, some 31, some 32, some 33, some 34, some 35, some 36, some 37, some 38, some 39, none, some 5]) (by kernel_rfl) (by kernel_rfl) [17] rfl (by kernel_rfl) ?_ ?_
    · intro x wq hx hS hdep K hK
      obtain ⟨x0, x1, x2, x3, x4, x5, x6, x7, x8, x9, x10, x11, x12, x13, x14, x15, x16, x17, x18, x19, x20, x21, x22, x23, rfl⟩ := len24 hx
      obtain rfl : x17 = .pointer (some ⟨ga, iu * 15, none⟩) := hdep 17 (by simp)
      have s0 := hS.1
      have sA := hS.2
      clear hdep hx hS
      simp only [putD, Act.put, List.setIfInBounds_toArray, List.set_cons_zero, List.set_cons_succ]
      go_simp
      have hk := hK.out (.pointer (some ⟨ga, iu * 15, none⟩)) _ (Adds.refl wq) ⟨s0, sA⟩ rfl (fun _ _ _ _ => ⟨trivial, trivial⟩)
      simp only [putD, Act.put, List.setIfInBounds_toArray, List.set_cons_zero, List.set_cons_succ] at hk
      exact hk
    refine rules_cons (n := 24) (ds := [some 18, some 19, some 20, some 21, some 22, some 23, some 24, some 25, some 26, some 27, some 28, some 29, some 30, some 31, some 32, some 33, some 34, some 35, some 36, some 37, some 38, some 39, none, some 5]) (by kernel_rfl) (by kernel_rfl) [18] rfl (by kernel_rfl) ?_ ?_
    · intro x wq hx hS hdep K hK
      obtain ⟨x0, x1, x2, x3, x4, x5, x6, x7, x8, x9, x10, x11, x12, x13, x14, x15, x16, x17, x18, x19, x20, x21, x22, x23, rfl⟩ := len24 hx
      obtain rfl : x18 = .pointer (some ⟨ga, iu * 15, none⟩) := hdep 18 (by simp)
      have s0 := hS.1
      have sA := hS.2
      clear hdep hx hS
      simp only [putD, Act.put, List.setIfInBounds_toArray, List.set_cons_zero, List.set_cons_succ]
      go_simp
      have hk := hK.out (.pointer (some ⟨ga, iu * 15 + 14, none⟩)) _ (Adds.refl wq) ⟨s0, sA⟩ rfl (fun _ _ _ _ => ⟨trivial, trivial⟩)
      simp only [putD, Act.put, List.setIfInBounds_toArray, List.set_cons_zero, List.set_cons_succ] at hk
      exact hk
    refine rules_cons (n := 24) (ds := [some 18, some 19, some 20, some 21, some 22, some 23, some 24, some 25, some 26, some 27, some 28, some 29, some 30, some 31, some 32, some 33, some 34, some 35, some 36, some 37, some 38, some 39, none, some 5]) (by kernel_rfl) (by kernel_rfl) [19] rfl (by kernel_rfl) ?_ ?_
    · intro x wq hx hS hdep K hK
      obtain ⟨x0, x1, x2, x3, x4, x5, x6, x7, x8, x9, x10, x11, x12, x13, x14, x15, x16, x17, x18, x19, x20, x21, x22, x23, rfl⟩ := len24 hx
      obtain rfl : x19 = .pointer (some ⟨ga, iu * 15 + 14, none⟩) := hdep 19 (by simp)
      have s0 := hS.1
      have sA := hS.2
      clear hdep hx hS
      simp only [putD, Act.put, List.setIfInBounds_toArray, List.set_cons_zero, List.set_cons_succ]
      have c0 := HC14.out wq sA.out
      go_simp
      have hk := hK.out (.bool ou) _ (Adds.refl wq) ⟨s0, sA⟩ rfl (fun _ _ _ _ => ⟨trivial, trivial⟩)
      simp only [putD, Act.put, List.setIfInBounds_toArray, List.set_cons_zero, List.set_cons_succ] at hk
      exact hk
    refine rules_cons (n := 24) (ds := [some 18, some 19, some 20, some 21, some 22, some 23, some 24, some 25, some 26, some 27, some 28, some 29, some 30, some 31, some 32, some 33, some 34, some 35, some 36, some 37, some 38, some 39, none, some 5]) (by kernel_rfl) (by kernel_rfl) [3, 7, 16, 20] rfl (by kernel_rfl) ?_ ?_
    · intro x wq hx hS hdep K hK
      obtain ⟨x0, x1, x2, x3, x4, x5, x6, x7, x8, x9, x10, x11, x12, x13, x14, x15, x16, x17, x18, x19, x20, x21, x22, x23, rfl⟩ := len24 hx
      obtain rfl : x3 = .int .i64 cash := hdep 3 (by simp)
      obtain rfl : x7 = .int .i64 fund := hdep 7 (by simp)
      obtain ⟨q, d, rfl, HO⟩ : ∃ q d, x16 = .slice q mo d ∧ Hid (World.ownsRow wq w.heap.size 2 1 (.slice q mo d) mo XL) := hdep 16 (by simp)
      obtain rfl : x20 = .bool ou := hdep 20 (by simp)
      have s0 := hS.1
      have sA := hS.2
      clear hdep hx hS
      simp only [putD, Act.put, List.setIfInBounds_toArray, List.set_cons_zero, List.set_cons_succ]
      go_simp
      have hk := hK.out (.agg #[.int .i64 cash, .int .i64 fund, .slice q mo d, .bool ou]) _ (Adds.refl wq) ⟨s0, sA⟩ ⟨q, d, rfl, HO⟩ (fun _ _ _ _ => ⟨trivial, trivial⟩)
      simp only [putD, Act.put, List.setIfInBounds_toArray, List.set_cons_zero, List.set_cons_succ] at hk
      exact hk
    refine rules_skip rfl ?_
    refine rules_skip rfl ?_
    exact rules_nil
  case hrest =>
    intro x wq hx hS hP
    obtain ⟨x0, x1, x2, x3, x4, x5, x6, x7, x8, x9, x10, x11, x12, x13, x14, x15, x16, x17, x18, x19, x20, x21, x22, x23, rfl⟩ := len24 hx
    obtain rfl : x0 = .pointer (some ⟨ga, iu * 15, none⟩) := hP 0 (by decide) (by rfl)
    obtain rfl : x1 = .pointer (some ⟨ga, iu * 15, none⟩) := hP 1 (by decide) (by rfl)
    obtain rfl : x2 = .pointer (some ⟨ga, iu * 15, none⟩) := hP 2 (by decide) (by rfl)
    obtain rfl : x3 = .int .i64 cash := hP 3 (by decide) (by rfl)
    obtain rfl : x4 = .pointer (some ⟨ga, iu * 15, none⟩) := hP 4 (by decide) (by rfl)
    obtain rfl : x5 = .pointer (some ⟨ga, iu * 15, none⟩) := hP 5 (by decide) (by rfl)
    obtain rfl : x6 = .pointer (some ⟨ga, iu * 15 + 1, none⟩) := hP 6 (by decide) (by rfl)
    obtain rfl : x7 = .int .i64 fund := hP 7 (by decide) (by rfl)
    obtain rfl : x8 = .pointer (some ⟨ga, iu * 15, none⟩) := hP 8 (by decide) (by rfl)
    obtain rfl : x9 = .pointer (some ⟨ga, iu * 15, none⟩) := hP 9 (by decide) (by rfl)
    obtain rfl : x10 = .pointer (some ⟨ga, iu * 15 + 2, none⟩) := hP 10 (by decide) (by rfl)
    obtain rfl : x11 = .pointer (some ⟨b, 0, none⟩) := hP 11 (by decide) (by rfl)
    obtain rfl : x12 = .pointer (some ⟨b, 0, none⟩) := hP 12 (by decide) (by rfl)
    obtain rfl : x13 = .pointer (some ⟨b, 1, none⟩) := hP 13 (by decide) (by rfl)
    obtain rfl : x14 = .int .i64 (mo : Int) := hP 14 (by decide) (by rfl)
    obtain rfl : x15 = .slice (some ⟨ga, iu * 15 + 2, none⟩) mo 12 := hP 15 (by decide) (by rfl)
    obtain ⟨q, d, rfl, HO⟩ : ∃ q d, x16 = .slice q mo d ∧ Hid (World.ownsRow wq w.heap.size 2 1 (.slice q mo d) mo XL) := hP 16 (by decide) (by rfl)
    obtain rfl : x17 = .pointer (some ⟨ga, iu * 15, none⟩) := hP 17 (by decide) (by rfl)
    obtain rfl : x18 = .pointer (some ⟨ga, iu * 15, none⟩) := hP 18 (by decide) (by rfl)
    obtain rfl : x19 = .pointer (some ⟨ga, iu * 15 + 14, none⟩) := hP 19 (by decide) (by rfl)
    obtain rfl : x20 = .bool ou := hP 20 (by decide) (by rfl)
    obtain ⟨q, d, rfl, HO2⟩ : ∃ q d, x21 = .agg #[.int .i64 cash, .int .i64 fund, .slice q mo d, .bool ou] ∧ Hid (World.ownsRow wq w.heap.size 2 1 (.slice q mo d) mo XL) := hP 21 (by decide) (by rfl)
    have s0 := hS.1
    have sA := hS.2
    clear hP hx hS
    simp only [putD, Act.put, List.setIfInBounds_toArray, List.set_cons_zero, List.set_cons_succ]
    have e0 := s0.out.cell 0
    have e1 := s0.out.cell 1
    have e2 := s0.out.cell 2
    have e3 := s0.out.cell 3
    have g0 := s0.out.free 0
    have g1 := s0.out.free 1
    have g2 := s0.out.free 2
    have g3 := s0.out.free 3
    refine rest_loud (i := 22) (o := ⟨none, _, _, _, _, _⟩) (by kernel_rfl) rfl (fun K hK => ?_)
    go_simp
    refine hK.out _ _ ?_
    clear hK K
    try simp only [List.setIfInBounds_toArray, List.set_cons_zero, List.set_cons_succ]
    refine rest_loud (i := 23) (o := ⟨some 5, _, _, _, _, _⟩) (by kernel_rfl) rfl (fun K hK => ?_)
    go_simp
    refine hK.out _ _ ?_
    clear hK K
    try simp only [List.setIfInBounds_toArray, List.set_cons_zero, List.set_cons_succ]
    refine rest_done (by kernel_rfl) ?_ _
    go_wp2
    have bF : Box (wq.setCells s 0 [.int .i64 cash, .int .i64 fund, .slice q mo d, .bool ou]) s #[.int .i64 cash, .int .i64 fund, .slice q mo d, .bool ou] 53 := s0.out.setCells [.int .i64 cash, .int .i64 fund, .slice q mo d, .bool ou] 0
    refine post_row2 (vs := #[.int .i64 cash, .int .i64 fund, .slice q mo d, .bool ou]) (v := .int .i64 0) rfl rfl rfl rfl rfl Try.underlying53 info_acct bF ⟨q, d, rfl, ?_, ?_⟩
    · exact own_heap (w' := wq.setCells s 0 [.int .i64 cash, .int .i64 fund, .slice q mo d, .bool ou]) HO2.out s0.out (by decide) (fun k hk => heap_setCells _ _ k hk)
    · show Adds w (wq.setCells s 0 [.int .i64 cash, .int .i64 fund, .slice q mo d, .bool ou])
      exact Adds.setCells (b := s) (by have := HS.out; omega) _ 0 sA.out

section
variable {w : World} {base b ga ca cm ck : Nat} {pm pk : Option Addr} {h : Hs}
theorem Account_none (hh : HouseAt w base b ga ca pm cm pk ck h) {x : Int} (e : accOf h x = none) : Calls Try.prog 16 #[.pointer (some ⟨b, 0, none⟩), .int .i64 x] w fun r w' => r = .returned (.tuple #[.agg #[.int .i64 0, .int .i64 0, .slice none 0 0, .bool false], .int .i64 4]) ∧ Adds w w' := account_bad _ x 4 w (by omega) fun W hW => find_not (hh.later hW) e
theorem Account_some (hh : HouseAt w base b ga ca pm cm pk ck h) (hs : Sound h) (hm0 : 0 < h.months) (hm1 : h.months ≤ 12) {x : Int} {a : Ac} (e : accOf h x = some a) : Calls Try.prog 16 #[.pointer (some ⟨b, 0, none⟩), .int .i64 x] w fun r w' => ∃ q d, r = .returned (.tuple #[acctV a q h.months d, .int .i64 0]) ∧ w'.ownsRow w.heap.size 2 1 (.slice q h.months d) h.months ((a.pos.take h.months).map (Value.int .i64)) ∧ Adds w w' :=
  account_ok x b ga (accI x) h.months a w (hh.acc (accOf_some e).2.1) hh.c1 (hs.acs a (List.mem_of_getElem? (accOf_some e).2.1)).1.len hm0 hm1 fun _W hW => find_got (hh.later hW) hs.few e
end

end Go.Proofs.Ytmkpidipoadnbaa
