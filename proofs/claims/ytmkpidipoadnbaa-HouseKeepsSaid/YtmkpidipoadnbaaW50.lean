/- tame. -/
import Derived.Test.YtmkpidipoadnbaaW49
namespace Go.Proofs.Ytmkpidipoadnbaa
open Go Go.RowKit Go.Sort

def tameP (l : List Int) (k : Nat) : Int := match l[k]? with | some x => 1 + smallT (x - 1) 199 | none => 100
def tameM (l : List Int) (k : Nat) : Int := match l[k]? with | some x => x.tmod 300 | none => 0
def tameMo (c : Cfg) : Nat := (1 + c.months % 18446744073709551616 % 3).toNat
/-- A configuration made tame. -/
def tameT (c : Cfg) : Cfg := ⟨2 + c.members % 18446744073709551616 % 4, (tameMo c : Int), (List.range (tameMo c)).map (tameP c.prices), (c.moves.take 5).map fun r => (List.range (tameMo c)).map (tameM r), smallT c.rate 1000, smallT c.cap 1000⟩
theorem small_wrap (x most : Int) : smallT (wrap64 x) most = smallT x most := by
  unfold smallT wrap64
  congr 1
  omega
theorem tame_full {r : List Int} {mo j : Nat} (h : r.length ≤ j) : ((List.range mo).map fun i => if i < j then tameM r i else 0) = (List.range mo).map (tameM r) := by
  apply List.map_congr_left
  intro i _
  by_cases hi : i < j
  · rw [if_pos hi]
  · rw [if_neg hi]
    unfold tameM
    rw [List.getElem?_eq_none (by omega)]
theorem tame_all {r : List Int} (mo : Nat) : ((List.range mo).map fun i => if i < mo then tameM r i else 0) = (List.range mo).map (tameM r) := by
  apply List.map_congr_left
  intro i hi
  rw [if_pos (List.mem_range.1 hi)]
theorem tame_step {r : List Int} {mo j : Nat} (x : Int) (hx : tameM r j = x) : ((List.range mo).map fun i => if i < j then tameM r i else 0).set j x = (List.range mo).map fun i => if i < j + 1 then tameM r i else 0 := by
  apply List.ext_getElem?
  intro i
  rw [List.getElem?_set]
  by_cases hi : j = i
  · subst hi
    by_cases hm : j < mo
    · simp [hm, hx]
    · simp [hm]
  · rw [if_neg hi]
    by_cases hm : i < mo
    · simp only [List.getElem?_map, List.getElem?_range hm, Option.map_some]
      by_cases hlt : i < j
      · rw [if_pos hlt, if_pos (by omega)]
      · rw [if_neg hlt, if_neg (by omega)]
    · rw [List.getElem?_eq_none (by simp; omega), List.getElem?_eq_none (by simp; omega)]
theorem range_snoc {α : Type} (f : Nat → α) (k : Nat) : (List.range (k + 1)).map f = (List.range k).map f ++ [f k] := by rw [List.range_succ, List.map_append]; rfl
def blkL (n : Nat) : Obj := .cells (madeCells (Value.int .i64 0).cells (n * 1)) 2
theorem run_makeL (n : Nat) (hn : n ≤ 1000) (W : World) : (Instr.makeSlice 22 (.int .i64 n) (.int .i64 n)).run Try.prog W = .ok (.slice (some ⟨W.heap.size, 0, none⟩) n n) (W.alloc (blkL n)) := by
  obtain ⟨j0, hj, hj0, hj1, hj2⟩ := info_parts info_long
  have hr := run_make (P := Try.prog) W 22 2 j0 (.int .i64 0) Try.underlying22 hj hj0 .i64 .i64 n n (by omega) (Int.le_refl _) (by rw [hj2]; omega) (by omega)
  simp only [Int.toNat_natCast, hj1] at hr
  exact hr
theorem made_L {W : World} {n base b : Nat} (hb : b = W.heap.size) (hbs : base ≤ b) (hn : n ≤ 1000) : (W.alloc (blkL n)).ownsRow base 2 1 (.slice (some ⟨b, 0, none⟩) n n) n ((List.replicate n (0 : Int)).map (Value.int .i64)) := by
  subst hb
  have h := own_made (W := W) (t := 2) (n := n) (size := 1) (cs := madeCells (Value.int .i64 0).cells (n * 1)) (base := base) (made_flat (f := fun x : Int => [Value.int .i64 x]) (k := 1) 0 rfl (by omega)) (by unfold madeCells; simp) hbs (by unfold maxLen; omega)
  rw [List.map_eq_flatMap]
  exact h
set_option maxRecDepth 100000 in
set_option maxHeartbeats 8000000 in
theorem tame_any (c : Cfg) (pp : Option Addr) (cp : Nat) (mp : Option Addr) (cm : Nat) (w : World) (hb : ∀ x ∈ [c.members, c.months, c.rate, c.cap], -9223372036854775808 ≤ x ∧ x ≤ 9223372036854775807) (hP : SrcAt w pp c.prices.length cp (c.prices.map (Value.int .i64))) (hM : MovesS w mp cm c.moves) (hlp : c.prices.length ≤ 9223372036854775807) (hlm : c.moves.length ≤ 9223372036854775807) (hlr : ∀ m ∈ c.moves, m.length ≤ 9223372036854775807) :
    Calls Try.prog 4 #[.agg (cfgCells c pp cp mp cm)] w fun r w' => ∃ pp' cp' mp' cm', r = .returned (.agg (cfgCells (tameT c) pp' cp' mp' cm')) ∧ w'.ownsRow w.heap.size 2 1 (.slice pp' (tameT c).prices.length cp') (tameT c).prices.length ((tameT c).prices.map (Value.int .i64)) ∧ MovesO w' w.heap.size mp' cm' (tameT c).moves ∧ Adds w w' := by
  obtain ⟨members, months, prices, moves, rate, cap⟩ := c
  have HP := Lib.hid hP
  have HM := Lib.hid hM
  have h1 := hb members (by simp)
  have h2 := hb months (by simp)
  have h3 := hb rate (by simp)
  have h4 := hb cap (by simp)
  have HR := Lib.hid (fun W => small_any rate 1000 W (by omega) (by omega) h3.1 h3.2)
  have HCA := Lib.hid (fun W => small_any cap 1000 W (by omega) (by omega) h4.1 h4.2)
  unfold cfgCells tameT tameMo at *
  dsimp only at *
  obtain ⟨um, hum⟩ : ∃ x, x = members % 18446744073709551616 := ⟨_, rfl⟩
  obtain ⟨uo, huo⟩ : ∃ x, x = months % 18446744073709551616 := ⟨_, rfl⟩
  have HU0 : Hid (IntKind.u64.wrap members = um) := Lib.hid (by rw [IntKind.wrap_u64, hum])
  have HU1 : Hid (IntKind.u64.wrap months = uo) := Lib.hid (by rw [IntKind.wrap_u64, huo])
  rw [← hum, ← huo]
  have hum0 : 0 ≤ um := by omega
  have huo0 : 0 ≤ uo := by omega
  obtain ⟨m4, hm4⟩ : ∃ x, x = um % 4 := ⟨_, rfl⟩
  obtain ⟨o3, ho3⟩ : ∃ x, x = uo % 3 := ⟨_, rfl⟩
  have HT0 : Hid (Int.tmod um 4 = m4) := Lib.hid (by rw [hm4, Int.tmod_eq_emod_of_nonneg hum0])
  have HT1 : Hid (Int.tmod uo 3 = o3) := Lib.hid (by rw [ho3, Int.tmod_eq_emod_of_nonneg huo0])
  rw [← hm4, ← ho3]
  have hb4 : 0 ≤ m4 ∧ m4 ≤ 3 := by omega
  have hb3 : 0 ≤ o3 ∧ o3 ≤ 2 := by omega
  obtain ⟨nmem, hnm⟩ : ∃ x, x = 2 + m4 := ⟨_, rfl⟩
  obtain ⟨mo, hmo⟩ : ∃ x, x = (1 + o3).toNat := ⟨_, rfl⟩
  have HW0 : Hid (IntKind.u64.wrap m4 = m4 ∧ IntKind.i64.wrap m4 = m4 ∧ 2 + m4 = nmem ∧ IntKind.i64.wrap nmem = nmem ∧ 0 ≤ m4 ∧ m4 ≤ 3) := Lib.hid (by rw [IntKind.wrap_u64, IntKind.wrap_i64, IntKind.wrap_i64]; omega)
  have HW1 : Hid (IntKind.u64.wrap o3 = o3 ∧ IntKind.i64.wrap o3 = o3 ∧ 1 + o3 = (mo : Int) ∧ IntKind.i64.wrap (mo : Int) = (mo : Int) ∧ 0 ≤ o3 ∧ o3 ≤ 2) := Lib.hid (by rw [IntKind.wrap_u64, IntKind.wrap_i64, IntKind.wrap_i64]; omega)
  rw [← hnm, ← hmo]
  have hmo3 : mo ≤ 3 := by omega
  have HMO := Lib.hid hmo3
  obtain ⟨rt, hrt⟩ : ∃ x, x = smallT rate 1000 := ⟨_, rfl⟩
  obtain ⟨ca, hca⟩ : ∃ x, x = smallT cap 1000 := ⟨_, rfl⟩
  rw [← hrt] at HR ⊢
  rw [← hca] at HCA ⊢
  obtain ⟨n, hn⟩ : ∃ n, n = prices.length := ⟨_, rfl⟩
  obtain ⟨nm, hnm2⟩ : ∃ n, n = moves.length := ⟨_, rfl⟩
  rw [← hn] at HP hlp ⊢
  rw [← hnm2] at hlm ⊢
  have HN := Lib.hid hn
  have HNM := Lib.hid hnm2
  have HLR := Lib.hid hlr
  obtain ⟨s, hs⟩ : ∃ s, s = w.heap.size := ⟨_, rfl⟩
  have HS := Lib.hid hs
  have B0 : Hid (Box ((w.alloc (.cells #[.int .i64 members, .int .i64 months, .slice pp n cp, .slice mp nm cm, .int .i64 rate, .int .i64 cap] 25)).alloc (.cells #[.int .i64 0, .int .i64 0, .slice none 0 0, .slice none 0 0, .int .i64 0, .int .i64 0] 25)) s #[.int .i64 members, .int .i64 months, .slice pp n cp, .slice mp nm cm, .int .i64 rate, .int .i64 cap] 25) := Lib.hid ((box_new hs).alloc _)
  have B1 : Hid (Box ((w.alloc (.cells #[.int .i64 members, .int .i64 months, .slice pp n cp, .slice mp nm cm, .int .i64 rate, .int .i64 cap] 25)).alloc (.cells #[.int .i64 0, .int .i64 0, .slice none 0 0, .slice none 0 0, .int .i64 0, .int .i64 0] 25)) (s + 1) #[.int .i64 0, .int .i64 0, .slice none 0 0, .slice none 0 0, .int .i64 0, .int .i64 0] 25) := Lib.hid (box_new (by simp [hs]))
  have A1 : Hid (Adds w ((w.alloc (.cells #[.int .i64 members, .int .i64 months, .slice pp n cp, .slice mp nm cm, .int .i64 rate, .int .i64 cap] 25)).alloc (.cells #[.int .i64 0, .int .i64 0, .slice none 0 0, .slice none 0 0, .int .i64 0, .int .i64 0] 25))) := Lib.hid (((Adds.refl w).alloc _).alloc _)
  clear hb hP hM h1 h2 h3 h4 hum huo hum0 huo0 hm4 ho3 hb4 hb3 hnm hmo hrt hca hn hnm2 hlr
  go_enter Try.func4, Try.ntmps4
  go_upto_region 1 with fail
  rw [← HS.out]
  obtain ⟨X0, hX0⟩ : ∃ V, V = (w.alloc (.cells #[.int .i64 members, .int .i64 months, .slice pp n cp, .slice mp nm cm, .int .i64 rate, .int .i64 cap] 25)).alloc (.cells #[.int .i64 0, .int .i64 0, .slice none 0 0, .slice none 0 0, .int .i64 0, .int .i64 0] 25) := ⟨_, rfl⟩
  rw [← hX0] at B0 B1 A1 ⊢
  clear hX0 hs
  refine wp_region_rules (fun i => i == 20) (fun wq => Hid (Box wq s #[.int .i64 members, .int .i64 months, .slice pp n cp, .slice mp nm cm, .int .i64 rate, .int .i64 cap] 25) ∧ Hid (Box wq (s + 1) #[.int .i64 0, .int .i64 0, .slice none 0 0, .slice none 0 0, .int .i64 0, .int .i64 0] 25) ∧ Hid (Adds w wq)) Adds (fun i v wq => match i with | 0 => v = .pointer (some ⟨s, 0, none⟩) | 1 => v = .int .i64 members | 2 => v = .int .u64 um | 3 => v = .int .u64 m4 | 4 => v = .int .i64 m4 | 5 => v = .int .i64 nmem | 6 => v = .pointer (some ⟨s, 1, none⟩) | 7 => v = .int .i64 months | 8 => v = .int .u64 uo | 9 => v = .int .u64 o3 | 10 => v = .int .i64 o3 | 11 => v = .int .i64 (mo : Int) | 12 => v = .pointer (some ⟨s, 4, none⟩) | 13 => v = .int .i64 rate | 14 => v = .int .i64 rt | 15 => v = .pointer (some ⟨s, 5, none⟩) | 16 => v = .int .i64 cap | 17 => v = .int .i64 ca | 18 => v = .agg #[.int .i64 nmem, .int .i64 (mo : Int), .slice none 0 0, .slice none 0 0, .int .i64 rt, .int .i64 ca] | 19 => ∃ q, v = .pointer (some ⟨q, 0, none⟩) ∧ Hid (Box wq q #[.int .i64 0, .int .i64 0, .slice none 0 0, .slice none 0 0, .int .i64 0, .int .i64 0] 25) ∧ w.heap.size ≤ q ∧ s + 1 < q | _ => True) (by kernel_rfl) (by kernel_rfl) (by kernel_rfl) (by kernel_rfl) 21 (by kernel_rfl) [some 11, some 12, some 13, some 14, some 15, some 16, some 17, some 18, some 19, some 20, some 21, some 22, some 23, some 24, some 25, some 26, some 27, some 28, some 29, some 3, none] (by kernel_rfl) 1 #[true, true, true, true, true, true, true, true, true, true, true, true, true, true, true, true, true, true, true, true, false] (by kernel_rfl) (by kernel_rfl) ?hS ?hstab ?hrules ?hrest
  case hS => exact ⟨Lib.hid B0.out.drew, Lib.hid B1.out.drew, Lib.hid A1.out.drew⟩
  case hstab =>
    intro j v w1 w2 hst _ h
    match j, h with
    | 19, h => exact h.elim fun q e => ⟨q, e.1, Lib.hid (e.2.1.out.later hst), e.2.2⟩
    | 0, h => exact h
    | 1, h => exact h
    | 2, h => exact h
    | 3, h => exact h
    | 4, h => exact h
    | 5, h => exact h
    | 6, h => exact h
    | 7, h => exact h
    | 8, h => exact h
    | 9, h => exact h
    | 10, h => exact h
    | 11, h => exact h
    | 12, h => exact h
    | 13, h => exact h
    | 14, h => exact h
    | 15, h => exact h
    | 16, h => exact h
    | 17, h => exact h
    | 18, h => exact h
    | 20, h => trivial
    | _ + 21, h => trivial
  case hrules =>
    refine rules_cons (n := 21) (ds := [some 11, some 12, some 13, some 14, some 15, some 16, some 17, some 18, some 19, some 20, some 21, some 22, some 23, some 24, some 25, some 26, some 27, some 28, some 29, some 3, none]) (by kernel_rfl) (by kernel_rfl) [] rfl (by kernel_rfl) ?_ ?_
    · intro x wq hx hS hdep K hK
      obtain ⟨x0, x1, x2, x3, x4, x5, x6, x7, x8, x9, x10, x11, x12, x13, x14, x15, x16, x17, x18, x19, x20, rfl⟩ := len21 hx
      have s0 := hS.1
      have s1 := hS.2.1
      have sA := hS.2.2
      clear hdep hx hS
      simp only [putD, Act.put, List.setIfInBounds_toArray, List.set_cons_zero, List.set_cons_succ]
      go_simp
      have hk := hK.out (.pointer (some ⟨s, 0, none⟩)) _ (Adds.refl wq) ⟨s0, s1, sA⟩ rfl (fun _ _ _ _ => ⟨trivial, trivial⟩)
      simp only [putD, Act.put, List.setIfInBounds_toArray, List.set_cons_zero, List.set_cons_succ] at hk
      exact hk
    refine rules_cons (n := 21) (ds := [some 11, some 12, some 13, some 14, some 15, some 16, some 17, some 18, some 19, some 20, some 21, some 22, some 23, some 24, some 25, some 26, some 27, some 28, some 29, some 3, none]) (by kernel_rfl) (by kernel_rfl) [0] rfl (by kernel_rfl) ?_ ?_
    · intro x wq hx hS hdep K hK
      obtain ⟨x0, x1, x2, x3, x4, x5, x6, x7, x8, x9, x10, x11, x12, x13, x14, x15, x16, x17, x18, x19, x20, rfl⟩ := len21 hx
      obtain rfl : x0 = .pointer (some ⟨s, 0, none⟩) := hdep 0 (by simp)
      have s0 := hS.1
      have s1 := hS.2.1
      have sA := hS.2.2
      clear hdep hx hS
      simp only [putD, Act.put, List.setIfInBounds_toArray, List.set_cons_zero, List.set_cons_succ]
      have c0 := s0.out.cell 0
      go_simp
      have hk := hK.out (.int .i64 members) _ (Adds.refl wq) ⟨s0, s1, sA⟩ rfl (fun _ _ _ _ => ⟨trivial, trivial⟩)
      simp only [putD, Act.put, List.setIfInBounds_toArray, List.set_cons_zero, List.set_cons_succ] at hk
      exact hk
    refine rules_cons (n := 21) (ds := [some 11, some 12, some 13, some 14, some 15, some 16, some 17, some 18, some 19, some 20, some 21, some 22, some 23, some 24, some 25, some 26, some 27, some 28, some 29, some 3, none]) (by kernel_rfl) (by kernel_rfl) [1] rfl (by kernel_rfl) ?_ ?_
    · intro x wq hx hS hdep K hK
      obtain ⟨x0, x1, x2, x3, x4, x5, x6, x7, x8, x9, x10, x11, x12, x13, x14, x15, x16, x17, x18, x19, x20, rfl⟩ := len21 hx
      obtain rfl : x1 = .int .i64 members := hdep 1 (by simp)
      have s0 := hS.1
      have s1 := hS.2.1
      have sA := hS.2.2
      clear hdep hx hS
      simp only [putD, Act.put, List.setIfInBounds_toArray, List.set_cons_zero, List.set_cons_succ]
      have h := HU0.out
      go_simp
      have hk := hK.out (.int .u64 um) _ (Adds.refl wq) ⟨s0, s1, sA⟩ rfl (fun _ _ _ _ => ⟨trivial, trivial⟩)
      simp only [putD, Act.put, List.setIfInBounds_toArray, List.set_cons_zero, List.set_cons_succ] at hk
      exact hk
    refine rules_cons (n := 21) (ds := [some 11, some 12, some 13, some 14, some 15, some 16, some 17, some 18, some 19, some 20, some 21, some 22, some 23, some 24, some 25, some 26, some 27, some 28, some 29, some 3, none]) (by kernel_rfl) (by kernel_rfl) [2] rfl (by kernel_rfl) ?_ ?_
    · intro x wq hx hS hdep K hK
      obtain ⟨x0, x1, x2, x3, x4, x5, x6, x7, x8, x9, x10, x11, x12, x13, x14, x15, x16, x17, x18, x19, x20, rfl⟩ := len21 hx
      obtain rfl : x2 = .int .u64 um := hdep 2 (by simp)
      have s0 := hS.1
      have s1 := hS.2.1
      have sA := hS.2.2
      clear hdep hx hS
      simp only [putD, Act.put, List.setIfInBounds_toArray, List.set_cons_zero, List.set_cons_succ]
      have h := HT0.out
      have h2 := HW0.out.1
      go_simp
      have hk := hK.out (.int .u64 m4) _ (Adds.refl wq) ⟨s0, s1, sA⟩ rfl (fun _ _ _ _ => ⟨trivial, trivial⟩)
      simp only [putD, Act.put, List.setIfInBounds_toArray, List.set_cons_zero, List.set_cons_succ] at hk
      exact hk
    refine rules_cons (n := 21) (ds := [some 11, some 12, some 13, some 14, some 15, some 16, some 17, some 18, some 19, some 20, some 21, some 22, some 23, some 24, some 25, some 26, some 27, some 28, some 29, some 3, none]) (by kernel_rfl) (by kernel_rfl) [3] rfl (by kernel_rfl) ?_ ?_
    · intro x wq hx hS hdep K hK
      obtain ⟨x0, x1, x2, x3, x4, x5, x6, x7, x8, x9, x10, x11, x12, x13, x14, x15, x16, x17, x18, x19, x20, rfl⟩ := len21 hx
      obtain rfl : x3 = .int .u64 m4 := hdep 3 (by simp)
      have s0 := hS.1
      have s1 := hS.2.1
      have sA := hS.2.2
      clear hdep hx hS
      simp only [putD, Act.put, List.setIfInBounds_toArray, List.set_cons_zero, List.set_cons_succ]
      have h := HW0.out.2.1
      go_simp
      have hk := hK.out (.int .i64 m4) _ (Adds.refl wq) ⟨s0, s1, sA⟩ rfl (fun _ _ _ _ => ⟨trivial, trivial⟩)
      simp only [putD, Act.put, List.setIfInBounds_toArray, List.set_cons_zero, List.set_cons_succ] at hk
      exact hk
    refine rules_cons (n := 21) (ds := [some 11, some 12, some 13, some 14, some 15, some 16, some 17, some 18, some 19, some 20, some 21, some 22, some 23, some 24, some 25, some 26, some 27, some 28, some 29, some 3, none]) (by kernel_rfl) (by kernel_rfl) [4] rfl (by kernel_rfl) ?_ ?_
    · intro x wq hx hS hdep K hK
      obtain ⟨x0, x1, x2, x3, x4, x5, x6, x7, x8, x9, x10, x11, x12, x13, x14, x15, x16, x17, x18, x19, x20, rfl⟩ := len21 hx
      obtain rfl : x4 = .int .i64 m4 := hdep 4 (by simp)
      have s0 := hS.1
      have s1 := hS.2.1
      have sA := hS.2.2
      clear hdep hx hS
      simp only [putD, Act.put, List.setIfInBounds_toArray, List.set_cons_zero, List.set_cons_succ]
      have h := HW0.out.2.2.1
      have h2 := HW0.out.2.2.2.1
      go_simp
      have hk := hK.out (.int .i64 nmem) _ (Adds.refl wq) ⟨s0, s1, sA⟩ rfl (fun _ _ _ _ => ⟨trivial, trivial⟩)
      simp only [putD, Act.put, List.setIfInBounds_toArray, List.set_cons_zero, List.set_cons_succ] at hk
      exact hk
    refine rules_cons (n := 21) (ds := [some 11, some 12, some 13, some 14, some 15, some 16, some 17, some 18, some 19, some 20, some 21, some 22, some 23, some 24, some 25, some 26, some 27, some 28, some 29, some 3, none]) (by kernel_rfl) (by kernel_rfl) [] rfl (by kernel_rfl) ?_ ?_
    · intro x wq hx hS hdep K hK
      obtain ⟨x0, x1, x2, x3, x4, x5, x6, x7, x8, x9, x10, x11, x12, x13, x14, x15, x16, x17, x18, x19, x20, rfl⟩ := len21 hx
      have s0 := hS.1
      have s1 := hS.2.1
      have sA := hS.2.2
      clear hdep hx hS
      simp only [putD, Act.put, List.setIfInBounds_toArray, List.set_cons_zero, List.set_cons_succ]
      go_simp
      have hk := hK.out (.pointer (some ⟨s, 1, none⟩)) _ (Adds.refl wq) ⟨s0, s1, sA⟩ rfl (fun _ _ _ _ => ⟨trivial, trivial⟩)
      simp only [putD, Act.put, List.setIfInBounds_toArray, List.set_cons_zero, List.set_cons_succ] at hk
      exact hk
    refine rules_cons (n := 21) (ds := [some 11, some 12, some 13, some 14, some 15, some 16, some 17, some 18, some 19, some 20, some 21, some 22, some 23, some 24, some 25, some 26, some 27, some 28, some 29, some 3, none]) (by kernel_rfl) (by kernel_rfl) [6] rfl (by kernel_rfl) ?_ ?_
    · intro x wq hx hS hdep K hK
      obtain ⟨x0, x1, x2, x3, x4, x5, x6, x7, x8, x9, x10, x11, x12, x13, x14, x15, x16, x17, x18, x19, x20, rfl⟩ := len21 hx
      obtain rfl : x6 = .pointer (some ⟨s, 1, none⟩) := hdep 6 (by simp)
      have s0 := hS.1
      have s1 := hS.2.1
      have sA := hS.2.2
      clear hdep hx hS
      simp only [putD, Act.put, List.setIfInBounds_toArray, List.set_cons_zero, List.set_cons_succ]
      have c0 := s0.out.cell 1
      go_simp
      have hk := hK.out (.int .i64 months) _ (Adds.refl wq) ⟨s0, s1, sA⟩ rfl (fun _ _ _ _ => ⟨trivial, trivial⟩)
      simp only [putD, Act.put, List.setIfInBounds_toArray, List.set_cons_zero, List.set_cons_succ] at hk
      exact hk
    refine rules_cons (n := 21) (ds := [some 11, some 12, some 13, some 14, some 15, some 16, some 17, some 18, some 19, some 20, some 21, some 22, some 23, some 24, some 25, some 26, some 27, some 28, some 29, some 3, none]) (by kernel_rfl) (by kernel_rfl) [7] rfl (by kernel_rfl) ?_ ?_
    · intro x wq hx hS hdep K hK
      obtain ⟨x0, x1, x2, x3, x4, x5, x6, x7, x8, x9, x10, x11, x12, x13, x14, x15, x16, x17, x18, x19, x20, rfl⟩ := len21 hx
      obtain rfl : x7 = .int .i64 months := hdep 7 (by simp)
      have s0 := hS.1
      have s1 := hS.2.1
      have sA := hS.2.2
      clear hdep hx hS
      simp only [putD, Act.put, List.setIfInBounds_toArray, List.set_cons_zero, List.set_cons_succ]
      have h := HU1.out
      go_simp
      have hk := hK.out (.int .u64 uo) _ (Adds.refl wq) ⟨s0, s1, sA⟩ rfl (fun _ _ _ _ => ⟨trivial, trivial⟩)
      simp only [putD, Act.put, List.setIfInBounds_toArray, List.set_cons_zero, List.set_cons_succ] at hk
      exact hk
    refine rules_cons (n := 21) (ds := [some 11, some 12, some 13, some 14, some 15, some 16, some 17, some 18, some 19, some 20, some 21, some 22, some 23, some 24, some 25, some 26, some 27, some 28, some 29, some 3, none]) (by kernel_rfl) (by kernel_rfl) [8] rfl (by kernel_rfl) ?_ ?_
    · intro x wq hx hS hdep K hK
      obtain ⟨x0, x1, x2, x3, x4, x5, x6, x7, x8, x9, x10, x11, x12, x13, x14, x15, x16, x17, x18, x19, x20, rfl⟩ := len21 hx
      obtain rfl : x8 = .int .u64 uo := hdep 8 (by simp)
      have s0 := hS.1
      have s1 := hS.2.1
      have sA := hS.2.2
      clear hdep hx hS
      simp only [putD, Act.put, List.setIfInBounds_toArray, List.set_cons_zero, List.set_cons_succ]
      have h := HT1.out
      have h2 := HW1.out.1
      go_simp
      have hk := hK.out (.int .u64 o3) _ (Adds.refl wq) ⟨s0, s1, sA⟩ rfl (fun _ _ _ _ => ⟨trivial, trivial⟩)
      simp only [putD, Act.put, List.setIfInBounds_toArray, List.set_cons_zero, List.set_cons_succ] at hk
      exact hk
    refine rules_cons (n := 21) (ds := [some 11, some 12, some 13, some 14, some 15, some 16, some 17, some 18, some 19, some 20, some 21, some 22, some 23, some 24, some 25, some 26, some 27, some 28, some 29, some 3, none]) (by kernel_rfl) (by kernel_rfl) [9] rfl (by kernel_rfl) ?_ ?_
    · intro x wq hx hS hdep K hK
      obtain ⟨x0, x1, x2, x3, x4, x5, x6, x7, x8, x9, x10, x11, x12, x13, x14, x15, x16, x17, x18, x19, x20, rfl⟩ := len21 hx
      obtain rfl : x9 = .int .u64 o3 := hdep 9 (by simp)
      have s0 := hS.1
      have s1 := hS.2.1
      have sA := hS.2.2
      clear hdep hx hS
      simp only [putD, Act.put, List.setIfInBounds_toArray, List.set_cons_zero, List.set_cons_succ]
      have h := HW1.out.2.1
      go_simp
      have hk := hK.out (.int .i64 o3) _ (Adds.refl wq) ⟨s0, s1, sA⟩ rfl (fun _ _ _ _ => ⟨trivial, trivial⟩)
      simp only [putD, Act.put, List.setIfInBounds_toArray, List.set_cons_zero, List.set_cons_succ] at hk
      exact hk
    refine rules_cons (n := 21) (ds := [some 11, some 12, some 13, some 14, some 15, some 16, some 17, some 18, some 19, some 20, some 21, some 22, some 23, some 24, some 25, some 26, some 27, some 28, some 29, some 3, none]) (by kernel_rfl) (by kernel_rfl) [10] rfl (by kernel_rfl) ?_ ?_
    · intro x wq hx hS hdep K hK
      obtain ⟨x0, x1, x2, x3, x4, x5, x6, x7, x8, x9, x10, x11, x12, x13, x14, x15, x16, x17, x18, x19, x20, rfl⟩ := len21 hx
      obtain rfl : x10 = .int .i64 o3 := hdep 10 (by simp)
      have s0 := hS.1
      have s1 := hS.2.1
      have sA := hS.2.2
      clear hdep hx hS
      simp only [putD, Act.put, List.setIfInBounds_toArray, List.set_cons_zero, List.set_cons_succ]
      have h := HW1.out.2.2.1
      have h2 := HW1.out.2.2.2.1
      go_simp
      have hk := hK.out (.int .i64 (mo : Int)) _ (Adds.refl wq) ⟨s0, s1, sA⟩ rfl (fun _ _ _ _ => ⟨trivial, trivial⟩)
      simp only [putD, Act.put, List.setIfInBounds_toArray, List.set_cons_zero, List.set_cons_succ] at hk
      exact hk
    refine rules_cons (n := 21) (ds := [some 11, some 12, some 13, some 14, some 15, some 16, some 17, some 18, some 19, some 20, some 21, some 22, some 23, some 24, some 25, some 26, some 27, some 28, some 29, some 3, none]) (by kernel_rfl) (by kernel_rfl) [] rfl (by kernel_rfl) ?_ ?_
    · intro x wq hx hS hdep K hK
      obtain ⟨x0, x1, x2, x3, x4, x5, x6, x7, x8, x9, x10, x11, x12, x13, x14, x15, x16, x17, x18, x19, x20, rfl⟩ := len21 hx
      have s0 := hS.1
      have s1 := hS.2.1
      have sA := hS.2.2
      clear hdep hx hS
      simp only [putD, Act.put, List.setIfInBounds_toArray, List.set_cons_zero, List.set_cons_succ]
      go_simp
      have hk := hK.out (.pointer (some ⟨s, 4, none⟩)) _ (Adds.refl wq) ⟨s0, s1, sA⟩ rfl (fun _ _ _ _ => ⟨trivial, trivial⟩)
      simp only [putD, Act.put, List.setIfInBounds_toArray, List.set_cons_zero, List.set_cons_succ] at hk
      exact hk
    refine rules_cons (n := 21) (ds := [some 11, some 12, some 13, some 14, some 15, some 16, some 17, some 18, some 19, some 20, some 21, some 22, some 23, some 24, some 25, some 26, some 27, some 28, some 29, some 3, none]) (by kernel_rfl) (by kernel_rfl) [12] rfl (by kernel_rfl) ?_ ?_
    · intro x wq hx hS hdep K hK
      obtain ⟨x0, x1, x2, x3, x4, x5, x6, x7, x8, x9, x10, x11, x12, x13, x14, x15, x16, x17, x18, x19, x20, rfl⟩ := len21 hx
      obtain rfl : x12 = .pointer (some ⟨s, 4, none⟩) := hdep 12 (by simp)
      have s0 := hS.1
      have s1 := hS.2.1
      have sA := hS.2.2
      clear hdep hx hS
      simp only [putD, Act.put, List.setIfInBounds_toArray, List.set_cons_zero, List.set_cons_succ]
      have c0 := s0.out.cell 4
      go_simp
      have hk := hK.out (.int .i64 rate) _ (Adds.refl wq) ⟨s0, s1, sA⟩ rfl (fun _ _ _ _ => ⟨trivial, trivial⟩)
      simp only [putD, Act.put, List.setIfInBounds_toArray, List.set_cons_zero, List.set_cons_succ] at hk
      exact hk
    refine rules_cons (n := 21) (ds := [some 11, some 12, some 13, some 14, some 15, some 16, some 17, some 18, some 19, some 20, some 21, some 22, some 23, some 24, some 25, some 26, some 27, some 28, some 29, some 3, none]) (by kernel_rfl) (by kernel_rfl) [13] rfl (by kernel_rfl) ?_ ?_
    · intro x wq hx hS hdep K hK
      obtain ⟨x0, x1, x2, x3, x4, x5, x6, x7, x8, x9, x10, x11, x12, x13, x14, x15, x16, x17, x18, x19, x20, rfl⟩ := len21 hx
      obtain rfl : x13 = .int .i64 rate := hdep 13 (by simp)
      have s0 := hS.1
      have s1 := hS.2.1
      have sA := hS.2.2
      clear hdep hx hS
      simp only [putD, Act.put, List.setIfInBounds_toArray, List.set_cons_zero, List.set_cons_succ]
      go_simp
      go_at_call 7
      refine (HR.out _).mono ?_
      rintro e w2 ⟨rfl, ha⟩
      have hk := hK.out (.int .i64 rt) _ ha ⟨Lib.hid (s0.out.later ha), Lib.hid (s1.out.later ha), Lib.hid (sA.out.trans ha)⟩ rfl (fun _ _ _ _ => ⟨trivial, trivial⟩)
      simp only [putD, Act.put, List.setIfInBounds_toArray, List.set_cons_zero, List.set_cons_succ] at hk
      exact hk
    refine rules_cons (n := 21) (ds := [some 11, some 12, some 13, some 14, some 15, some 16, some 17, some 18, some 19, some 20, some 21, some 22, some 23, some 24, some 25, some 26, some 27, some 28, some 29, some 3, none]) (by kernel_rfl) (by kernel_rfl) [] rfl (by kernel_rfl) ?_ ?_
    · intro x wq hx hS hdep K hK
      obtain ⟨x0, x1, x2, x3, x4, x5, x6, x7, x8, x9, x10, x11, x12, x13, x14, x15, x16, x17, x18, x19, x20, rfl⟩ := len21 hx
      have s0 := hS.1
      have s1 := hS.2.1
      have sA := hS.2.2
      clear hdep hx hS
      simp only [putD, Act.put, List.setIfInBounds_toArray, List.set_cons_zero, List.set_cons_succ]
      go_simp
      have hk := hK.out (.pointer (some ⟨s, 5, none⟩)) _ (Adds.refl wq) ⟨s0, s1, sA⟩ rfl (fun _ _ _ _ => ⟨trivial, trivial⟩)
      simp only [putD, Act.put, List.setIfInBounds_toArray, List.set_cons_zero, List.set_cons_succ] at hk
      exact hk
    refine rules_cons (n := 21) (ds := [some 11, some 12, some 13, some 14, some 15, some 16, some 17, some 18, some 19, some 20, some 21, some 22, some 23, some 24, some 25, some 26, some 27, some 28, some 29, some 3, none]) (by kernel_rfl) (by kernel_rfl) [15] rfl (by kernel_rfl) ?_ ?_
    · intro x wq hx hS hdep K hK
      obtain ⟨x0, x1, x2, x3, x4, x5, x6, x7, x8, x9, x10, x11, x12, x13, x14, x15, x16, x17, x18, x19, x20, rfl⟩ := len21 hx
      obtain rfl : x15 = .pointer (some ⟨s, 5, none⟩) := hdep 15 (by simp)
      have s0 := hS.1
      have s1 := hS.2.1
      have sA := hS.2.2
      clear hdep hx hS
      simp only [putD, Act.put, List.setIfInBounds_toArray, List.set_cons_zero, List.set_cons_succ]
      have c0 := s0.out.cell 5
      go_simp
      have hk := hK.out (.int .i64 cap) _ (Adds.refl wq) ⟨s0, s1, sA⟩ rfl (fun _ _ _ _ => ⟨trivial, trivial⟩)
      simp only [putD, Act.put, List.setIfInBounds_toArray, List.set_cons_zero, List.set_cons_succ] at hk
      exact hk
    refine rules_cons (n := 21) (ds := [some 11, some 12, some 13, some 14, some 15, some 16, some 17, some 18, some 19, some 20, some 21, some 22, some 23, some 24, some 25, some 26, some 27, some 28, some 29, some 3, none]) (by kernel_rfl) (by kernel_rfl) [16] rfl (by kernel_rfl) ?_ ?_
    · intro x wq hx hS hdep K hK
      obtain ⟨x0, x1, x2, x3, x4, x5, x6, x7, x8, x9, x10, x11, x12, x13, x14, x15, x16, x17, x18, x19, x20, rfl⟩ := len21 hx
      obtain rfl : x16 = .int .i64 cap := hdep 16 (by simp)
      have s0 := hS.1
      have s1 := hS.2.1
      have sA := hS.2.2
      clear hdep hx hS
      simp only [putD, Act.put, List.setIfInBounds_toArray, List.set_cons_zero, List.set_cons_succ]
      go_simp
      go_at_call 7
      refine (HCA.out _).mono ?_
      rintro e w2 ⟨rfl, ha⟩
      have hk := hK.out (.int .i64 ca) _ ha ⟨Lib.hid (s0.out.later ha), Lib.hid (s1.out.later ha), Lib.hid (sA.out.trans ha)⟩ rfl (fun _ _ _ _ => ⟨trivial, trivial⟩)
      simp only [putD, Act.put, List.setIfInBounds_toArray, List.set_cons_zero, List.set_cons_succ] at hk
      exact hk
    refine rules_cons (n := 21) (ds := [some 11, some 12, some 13, some 14, some 15, some 16, some 17, some 18, some 19, some 20, some 21, some 22, some 23, some 24, some 25, some 26, some 27, some 28, some 29, some 3, none]) (by kernel_rfl) (by kernel_rfl) [5, 11, 14, 17] rfl (by kernel_rfl) ?_ ?_
    · intro x wq hx hS hdep K hK
      obtain ⟨x0, x1, x2, x3, x4, x5, x6, x7, x8, x9, x10, x11, x12, x13, x14, x15, x16, x17, x18, x19, x20, rfl⟩ := len21 hx
      obtain rfl : x5 = .int .i64 nmem := hdep 5 (by simp)
      obtain rfl : x11 = .int .i64 (mo : Int) := hdep 11 (by simp)
      obtain rfl : x14 = .int .i64 rt := hdep 14 (by simp)
      obtain rfl : x17 = .int .i64 ca := hdep 17 (by simp)
      have s0 := hS.1
      have s1 := hS.2.1
      have sA := hS.2.2
      clear hdep hx hS
      simp only [putD, Act.put, List.setIfInBounds_toArray, List.set_cons_zero, List.set_cons_succ]
      go_simp
      have hk := hK.out (.agg #[.int .i64 nmem, .int .i64 (mo : Int), .slice none 0 0, .slice none 0 0, .int .i64 rt, .int .i64 ca]) _ (Adds.refl wq) ⟨s0, s1, sA⟩ rfl (fun _ _ _ _ => ⟨trivial, trivial⟩)
      simp only [putD, Act.put, List.setIfInBounds_toArray, List.set_cons_zero, List.set_cons_succ] at hk
      exact hk
    refine rules_cons (n := 21) (ds := [some 11, some 12, some 13, some 14, some 15, some 16, some 17, some 18, some 19, some 20, some 21, some 22, some 23, some 24, some 25, some 26, some 27, some 28, some 29, some 3, none]) (by kernel_rfl) (by kernel_rfl) [] rfl (by kernel_rfl) ?_ ?_
    · intro x wq hx hS hdep K hK
      obtain ⟨x0, x1, x2, x3, x4, x5, x6, x7, x8, x9, x10, x11, x12, x13, x14, x15, x16, x17, x18, x19, x20, rfl⟩ := len21 hx
      have s0 := hS.1
      have s1 := hS.2.1
      have sA := hS.2.2
      clear hdep hx hS
      simp only [putD, Act.put, List.setIfInBounds_toArray, List.set_cons_zero, List.set_cons_succ]
      go_simp
      have hlt := s1.out.lt
      have hk := hK.out (.pointer (some ⟨wq.heap.size, 0, none⟩)) _ ((Adds.refl wq).alloc _) ⟨Lib.hid (s0.out.alloc _), Lib.hid (s1.out.alloc _), Lib.hid (sA.out.alloc _)⟩ ⟨wq.heap.size, rfl, Lib.hid (Box.new _ _ _), sA.out.size, hlt⟩ (fun _ _ _ _ => ⟨trivial, trivial⟩)
      simp only [putD, Act.put, List.setIfInBounds_toArray, List.set_cons_zero, List.set_cons_succ] at hk
      exact hk
    refine rules_skip rfl ?_
    exact rules_nil
  case hrest =>
    intro x wq hx hS hP
    obtain ⟨x0, x1, x2, x3, x4, x5, x6, x7, x8, x9, x10, x11, x12, x13, x14, x15, x16, x17, x18, x19, x20, rfl⟩ := len21 hx
    obtain rfl : x0 = .pointer (some ⟨s, 0, none⟩) := hP 0 (by decide) (by rfl)
    obtain rfl : x1 = .int .i64 members := hP 1 (by decide) (by rfl)
    obtain rfl : x2 = .int .u64 um := hP 2 (by decide) (by rfl)
    obtain rfl : x3 = .int .u64 m4 := hP 3 (by decide) (by rfl)
    obtain rfl : x4 = .int .i64 m4 := hP 4 (by decide) (by rfl)
    obtain rfl : x5 = .int .i64 nmem := hP 5 (by decide) (by rfl)
    obtain rfl : x6 = .pointer (some ⟨s, 1, none⟩) := hP 6 (by decide) (by rfl)
    obtain rfl : x7 = .int .i64 months := hP 7 (by decide) (by rfl)
    obtain rfl : x8 = .int .u64 uo := hP 8 (by decide) (by rfl)
    obtain rfl : x9 = .int .u64 o3 := hP 9 (by decide) (by rfl)
    obtain rfl : x10 = .int .i64 o3 := hP 10 (by decide) (by rfl)
    obtain rfl : x11 = .int .i64 (mo : Int) := hP 11 (by decide) (by rfl)
    obtain rfl : x12 = .pointer (some ⟨s, 4, none⟩) := hP 12 (by decide) (by rfl)
    obtain rfl : x13 = .int .i64 rate := hP 13 (by decide) (by rfl)
    obtain rfl : x14 = .int .i64 rt := hP 14 (by decide) (by rfl)
    obtain rfl : x15 = .pointer (some ⟨s, 5, none⟩) := hP 15 (by decide) (by rfl)
    obtain rfl : x16 = .int .i64 cap := hP 16 (by decide) (by rfl)
    obtain rfl : x17 = .int .i64 ca := hP 17 (by decide) (by rfl)
    obtain rfl : x18 = .agg #[.int .i64 nmem, .int .i64 (mo : Int), .slice none 0 0, .slice none 0 0, .int .i64 rt, .int .i64 ca] := hP 18 (by decide) (by rfl)
    obtain ⟨q, rfl, HQ, hql, hqs⟩ : ∃ q, x19 = .pointer (some ⟨q, 0, none⟩) ∧ Hid (Box wq q #[.int .i64 0, .int .i64 0, .slice none 0 0, .slice none 0 0, .int .i64 0, .int .i64 0] 25) ∧ w.heap.size ≤ q ∧ s + 1 < q := hP 19 (by decide) (by rfl)
    have s0 := hS.1
    have s1 := hS.2.1
    have sA := hS.2.2
    clear hP hx hS
    simp only [putD, Act.put, List.setIfInBounds_toArray, List.set_cons_zero, List.set_cons_succ]
    have qb := HQ.out
    have z0 := qb.cell 0
    have g0 := qb.free 0
    have z1 := qb.cell 1
    have g1 := qb.free 1
    have z2 := qb.cell 2
    have g2 := qb.free 2
    have z3 := qb.cell 3
    have g3 := qb.free 3
    have z4 := qb.cell 4
    have g4 := qb.free 4
    have z5 := qb.cell 5
    have g5 := qb.free 5
    clear qb
    refine rest_loud (i := 20) (o := ⟨none, _, _, _, _, _⟩) (by kernel_rfl) rfl (fun K hK => ?_)
    go_simp
    refine hK.out _ _ ?_
    clear hK K
    try simp only [List.setIfInBounds_toArray, List.set_cons_zero, List.set_cons_succ]
    refine rest_done (by kernel_rfl) ?_ _
    have bx := HQ.out.setCells [.int .i64 nmem, .int .i64 (mo : Int), .slice none 0 0, .slice none 0 0, .int .i64 rt, .int .i64 ca] 0
    have X1B0 : Hid (Box (wq.setCells q 0 [.int .i64 nmem, .int .i64 (mo : Int), .slice none 0 0, .slice none 0 0, .int .i64 rt, .int .i64 ca]) s #[.int .i64 members, .int .i64 months, .slice pp n cp, .slice mp nm cm, .int .i64 rate, .int .i64 cap] 25) := Lib.hid (Box.setCells_far (by omega) _ 0 s0.out)
    have X1B1 : Hid (Box (wq.setCells q 0 [.int .i64 nmem, .int .i64 (mo : Int), .slice none 0 0, .slice none 0 0, .int .i64 rt, .int .i64 ca]) (s + 1) #[.int .i64 0, .int .i64 0, .slice none 0 0, .slice none 0 0, .int .i64 0, .int .i64 0] 25) := Lib.hid (Box.setCells_far (by omega) _ 0 s1.out)
    have X1B2 : Hid (Box (wq.setCells q 0 [.int .i64 nmem, .int .i64 (mo : Int), .slice none 0 0, .slice none 0 0, .int .i64 rt, .int .i64 ca]) q #[.int .i64 nmem, .int .i64 (mo : Int), .slice none 0 0, .slice none 0 0, .int .i64 rt, .int .i64 ca] 25) := Lib.hid bx
    have X1A : Hid (Adds w (wq.setCells q 0 [.int .i64 nmem, .int .i64 (mo : Int), .slice none 0 0, .slice none 0 0, .int .i64 rt, .int .i64 ca])) := Lib.hid (Adds.setCells (b := q) hql _ 0 sA.out)
    obtain ⟨X1, hX1⟩ : ∃ V, V = wq.setCells q 0 [.int .i64 nmem, .int .i64 (mo : Int), .slice none 0 0, .slice none 0 0, .int .i64 rt, .int .i64 ca] := ⟨_, rfl⟩
    rw [← hX1] at X1B0 X1B1 X1B2 X1A
    show Exit.then _ _ _ _ (wq.setCells q 0 [.int .i64 nmem, .int .i64 (mo : Int), .slice none 0 0, .slice none 0 0, .int .i64 rt, .int .i64 ca])
    rw [← hX1]
    obtain ⟨j1, hj, hj0, hj1, hj2⟩ := info_parts info_long
    have HI := Lib.hid hj
    have HI0 := Lib.hid hj0
    have HI1 := Lib.hid hj1
    have HI2 := Lib.hid hj2
    clear hX1 bx hj hj0 hj1 hj2 HR HCA s0 s1 sA HQ B0 B1 A1 HU0 HU1 HT0 HT1 HW0 HW1
    go_upto_region 3 with fail
    go_loopw [4] (fun v4 wr => ∃ (k : Nat) (p2 : Option Addr) (d2 : Nat), k ≤ mo ∧ v4 = .int .i64 k ∧ Hid (Box wr s #[.int .i64 members, .int .i64 months, .slice pp n cp, .slice mp nm cm, .int .i64 rate, .int .i64 cap] 25) ∧ Hid (Box wr (s + 1) #[.int .i64 0, .int .i64 0, .slice none 0 0, .slice none 0 0, .int .i64 0, .int .i64 0] 25) ∧ Hid (Box wr q #[.int .i64 nmem, .int .i64 (mo : Int), .slice p2 k d2, .slice none 0 0, .int .i64 rt, .int .i64 ca] 25) ∧ Hid (World.ownsRow wr w.heap.size 2 1 (.slice p2 k d2) k (((List.range k).map (tameP prices)).map (Value.int .i64))) ∧ Hid (Adds w wr)) (fun v4 _ => mo - (intOf v4).toNat)
    case atStart => exact ⟨0, none, 0, by omega, rfl, X1B0, X1B1, X1B2, Lib.hid (World.ownsRow_nil _ _ _ _), X1A⟩
    case round =>
      obtain ⟨k, p2, d2, hk, rfl, R0, R1, R2, RO, RA⟩ := hrel
      clear X1B0 X1B1 X1B2 X1A
      by_cases hlt : k < mo
      · have hlt2 : (k : Int) < (mo : Int) := by omega
        have hk0 : (0 : Int) ≤ (k : Int) := by omega
        have c1 := R2.out.cell 1
        have c2s := R0.out.cell 2
        by_cases hp : k < n
        · have hp2 : (k : Int) < (n : Int) := by omega
          obtain ⟨x, hx⟩ : ∃ x, prices[k]? = some x := ⟨_, List.getElem?_eq_getElem (by have := HN.out; omega)⟩
          obtain ⟨g, o, e, hc⟩ := HP.out.1 k (.int .i64 x) (by rw [List.getElem?_map, hx]; rfl)
          subst e
          have hc2 : wr.cell? ⟨g, o + k, none⟩ = some (.int .i64 x) := keep_cell RA.out hc
          have hsb : 0 ≤ smallT (x - 1) 199 ∧ smallT (x - 1) 199 ≤ 199 := small_bd (by omega)
          have HSM := Lib.hid (fun W => by
            have := small_any (wrap64 (x - 1)) 199 W (by omega) (by omega) (by unfold wrap64; omega) (by unfold wrap64; omega)
            rw [small_wrap] at this
            exact this)
          have HTP : Hid (tameP prices k = 1 + smallT (x - 1) 199) := Lib.hid (by unfold tameP; rw [hx])
          obtain ⟨sv, hsv⟩ : ∃ v, v = smallT (x - 1) 199 := ⟨_, rfl⟩
          rw [← hsv] at HSM HTP hsb
          have hs0 := hsb.1
          have hs1 := hsb.2
          clear hsv hx hc hsb
          go_upto_region 8 with (go_at_call 7; refine (HSM.out _).mono ?_; rintro e w2 ⟨rfl, ha⟩; have HA2 := Lib.hid ha; clear ha)
          have R02 := Lib.hid (R0.out.later HA2.out)
          have R12 := Lib.hid (R1.out.later HA2.out)
          have R22 := Lib.hid (R2.out.later HA2.out)
          have RO2 := Lib.hid (own_later RO.out HA2.out)
          have RA2 := Lib.hid (RA.out.trans HA2.out)
          have c2 := R22.out.cell 2
          have c3 := hlt2
          clear c1 c2s hc2 R0 R1 R2 RO RA HA2 HSM
          go_upto_region 9 with fail
          clear c2 c3
          go_upto_region 10 with (at_builtin; ((refine wpList_append_lies _ rfl _ _ 22 rfl w.heap.size 2 j1 (.int .i64 0) 1 8 Try.underlying22 HI.out HI0.out HI1.out HI2.out rfl (by decide) (.slice p2 k d2) k (((List.range k).map (tameP prices)).map (Value.int .i64)) rfl (own_allocd RO2.out _) ⟨w2.heap.size, 0, none⟩ 1 1 [.int .i64 (1 + sv)] rfl rfl (World.news_of_block (Box.new w2 _ 2)) (by simp [Value.oneCell']) (by omega) (by have := HMO.out; unfold maxLen; omega) (by have := HMO.out; omega) (by have := RA2.out.size; simp; omega) (w2.heap.size + 1) (by simp) ?_); intro g7 c7 w7 ho hg hor hl7; have HO7 := Lib.hid ho; have HG7 := Lib.hid hg; clear ho hg hor hl7))
          have hblk : ∀ (p : Nat) (vs : Array Value), Box w2 p vs 25 → (Value.slice p2 k d2).ownBlock ≠ some p := fun p vs hb e => by
            obtain ⟨_, cur, hcur⟩ := own_block RO2.out e
            unfold Box at hb
            rw [hb] at hcur
            simp only [Option.some.injEq, Obj.cells.injEq] at hcur
            exact absurd hcur.2.1 (by decide)
          have B7 := Lib.hid (box_grow (R02.out.alloc (.cells #[.int .i64 (1 + sv)] 2)) HG7.out (hblk _ _ R02.out))
          have B71 := Lib.hid (box_grow (R12.out.alloc (.cells #[.int .i64 (1 + sv)] 2)) HG7.out (hblk _ _ R12.out))
          have b72 := box_grow (R22.out.alloc (.cells #[.int .i64 (1 + sv)] 2)) HG7.out (hblk _ _ R22.out)
          have B72 := Lib.hid b72
          have A7 : Hid (Adds w w7) := Lib.hid (Below.grown (RA2.out.alloc _) HG7.out (by have := RA2.out.size; simp; omega) (fun j hj => (own_block RO2.out hj).1))
          have c2 := b72.cell 2
          have g2 := b72.free 2
          clear HG7 R02 R12 R22 hblk b72 RA2 RO2
          go_wp2
          refine ⟨⟨k + 1, some ⟨g7, 0, none⟩, c7, by omega, by go_num, Lib.hid ?_, Lib.hid ?_, Lib.hid ?_, Lib.hid ?_, Lib.hid ?_⟩, by simp [intOf]; omega⟩
          · exact B7.out.far (by show s ≠ q; omega) _
          · exact B71.out.far (by show s + 1 ≠ q; omega) _
          · exact B72.out.set 2 _
          · rw [range_snoc, List.map_append, HTP.out]
            exact own_heap HO7.out B72.out (by decide) (fun kk hk => Below.heap_setCell w7 _ _ kk hk)
          · exact A7.out.set (p := ⟨q, 2, none⟩) hql _
        · have hdn : decide ((k : Int) < (n : Int)) = false := decide_eq_false (by omega)
          have HTP : Hid (tameP prices k = 100) := Lib.hid (by unfold tameP; rw [List.getElem?_eq_none (by have := HN.out; omega)])
          go_upto_region 8 with fail
          have R02 := R0
          have R12 := R1
          have R22 := R2
          have RO2 := RO
          have RA2 := RA
          have c2 := R22.out.cell 2
          have c3 := hlt2
          clear c1 c2s R0 R1 R2 RO RA
          go_upto_region 9 with fail
          clear c2 c3
          go_upto_region 10 with (at_builtin; ((refine wpList_append_lies _ rfl _ _ 22 rfl w.heap.size 2 j1 (.int .i64 0) 1 8 Try.underlying22 HI.out HI0.out HI1.out HI2.out rfl (by decide) (.slice p2 k d2) k (((List.range k).map (tameP prices)).map (Value.int .i64)) rfl (own_allocd RO2.out _) ⟨wr.heap.size, 0, none⟩ 1 1 [.int .i64 100] rfl rfl (World.news_of_block (Box.new wr _ 2)) (by simp [Value.oneCell']) (by omega) (by have := HMO.out; unfold maxLen; omega) (by have := HMO.out; omega) (by have := RA2.out.size; simp; omega) (wr.heap.size + 1) (by simp) ?_); intro g7 c7 w7 ho hg hor hl7; have HO7 := Lib.hid ho; have HG7 := Lib.hid hg; clear ho hg hor hl7))
          have hblk : ∀ (p : Nat) (vs : Array Value), Box wr p vs 25 → (Value.slice p2 k d2).ownBlock ≠ some p := fun p vs hb e => by
            obtain ⟨_, cur, hcur⟩ := own_block RO2.out e
            unfold Box at hb
            rw [hb] at hcur
            simp only [Option.some.injEq, Obj.cells.injEq] at hcur
            exact absurd hcur.2.1 (by decide)
          have B7 := Lib.hid (box_grow (R02.out.alloc (.cells #[.int .i64 100] 2)) HG7.out (hblk _ _ R02.out))
          have B71 := Lib.hid (box_grow (R12.out.alloc (.cells #[.int .i64 100] 2)) HG7.out (hblk _ _ R12.out))
          have b72 := box_grow (R22.out.alloc (.cells #[.int .i64 100] 2)) HG7.out (hblk _ _ R22.out)
          have B72 := Lib.hid b72
          have A7 : Hid (Adds w w7) := Lib.hid (Below.grown (RA2.out.alloc _) HG7.out (by have := RA2.out.size; simp; omega) (fun j hj => (own_block RO2.out hj).1))
          have c2 := b72.cell 2
          have g2 := b72.free 2
          clear HG7 R02 R12 R22 hblk b72 RA2 RO2
          go_wp2
          refine ⟨⟨k + 1, some ⟨g7, 0, none⟩, c7, by omega, by go_num, Lib.hid ?_, Lib.hid ?_, Lib.hid ?_, Lib.hid ?_, Lib.hid ?_⟩, by simp [intOf]; omega⟩
          · exact B7.out.far (by show s ≠ q; omega) _
          · exact B71.out.far (by show s + 1 ≠ q; omega) _
          · exact B72.out.set 2 _
          · rw [range_snoc, List.map_append, HTP.out]
            exact own_heap HO7.out B72.out (by decide) (fun kk hk => Below.heap_setCell w7 _ _ kk hk)
          · exact A7.out.set (p := ⟨q, 2, none⟩) hql _
      · have hkm : mo = k := by omega
        subst hkm
        have hdq : decide ((mo : Int) < (mo : Int)) = false := decide_eq_false (by omega)
        have c1 := R2.out.cell 1
        go_upto_region 12 with fail
        obtain ⟨j0, hj, hj0, hj1, hj2⟩ := info_parts info_row
        have HJ := Lib.hid hj
        have HJ0 := Lib.hid hj0
        have HJ1 := Lib.hid hj1
        have HJ2 := Lib.hid hj2
        have HMK := Lib.hid (run_makeL mo (by have := HMO.out; omega))
        have hm0 : (0 : Int) ≤ (mo : Int) := by omega
        clear hj hj0 hj1 hj2 c1 hdq hlt hk
        go_loopw [7] (fun v7 wr => ∃ (k2 : Nat) (m2 : Option Addr) (d3 : Nat), k2 ≤ nm ∧ k2 ≤ 5 ∧ v7 = .int .i64 k2 ∧ Hid (Box wr s #[.int .i64 members, .int .i64 months, .slice pp n cp, .slice mp nm cm, .int .i64 rate, .int .i64 cap] 25) ∧ Hid (Box wr (s + 1) #[.int .i64 0, .int .i64 0, .slice none 0 0, .slice none 0 0, .int .i64 0, .int .i64 0] 25) ∧ Hid (Box wr q #[.int .i64 nmem, .int .i64 (mo : Int), .slice p2 mo d2, .slice m2 k2 d3, .int .i64 rt, .int .i64 ca] 25) ∧ Hid (World.ownsRow wr w.heap.size 2 1 (.slice p2 mo d2) mo (((List.range mo).map (tameP prices)).map (Value.int .i64))) ∧ Hid (MovesO wr w.heap.size m2 d3 ((moves.take k2).map fun r => (List.range mo).map (tameM r))) ∧ Hid (Adds w wr)) (fun v7 _ => nm - (intOf v7).toNat)
        case atStart => exact ⟨0, none, 0, by omega, by omega, rfl, R0, R1, R2, RO, Lib.hid ⟨[], rfl, World.ownsRow_nil _ _ _ _, fun i s m a b => by simp at a⟩, RA⟩
        case round =>
          obtain ⟨k2, m2, d3, hk2, hk5, rfl, S0, S1, S2, SO, SM, SA⟩ := hrel
          clear R0 R1 R2 RO RA
          by_cases hlt : k2 < nm
          · have hlt2 : (k2 : Int) < (nm : Int) := by omega
            have hk0 : (0 : Int) ≤ (k2 : Int) := by omega
            have c3s := S0.out.cell 3
            by_cases hl5 : k2 < 5
            · have hl52 : (k2 : Int) < 5 := by omega
              have hd5 : decide ((k2 : Int) < 5) = true := decide_eq_true hl52
              have c1 := S2.out.cell 1
              obtain ⟨r, hr⟩ : ∃ m, moves[k2]? = some m := ⟨_, List.getElem?_eq_getElem (by have := HNM.out; omega)⟩
              obtain ⟨g0, o0, u, e, hmp, hc, hcl⟩ := HM.out.get hr
              subst hmp
              have HX := Lib.hid hr
              have HRC := Lib.hid hc
              have HRL := Lib.hid hcl
              obtain ⟨ml, hml⟩ : ∃ l, l = r.length := ⟨_, rfl⟩
              rw [← hml] at HRC
              have HML := Lib.hid hml
              have hmk := HMK.out wr
              clear hr hc hcl hml
              go_upto_region 16 with fail
              obtain ⟨g, hg⟩ : ∃ g, g = wr.heap.size := ⟨_, rfl⟩
              rw [← hg]
              have YW : Hid (Adds wr (wr.alloc (blkL mo))) := Lib.hid ((Adds.refl wr).alloc (blkL mo))
              have HGW : Hid (wr.heap.size ≤ g) := Lib.hid (by omega)
              have YR : Hid (World.ownsRow (wr.alloc (blkL mo)) w.heap.size 2 1 (.slice (some ⟨g, 0, none⟩) mo mo) mo (((List.range mo).map fun i => if i < 0 then tameM r i else 0).map (Value.int .i64))) := Lib.hid (by
                have := made_L (W := wr) (n := mo) (base := w.heap.size) hg (by rw [hg]; exact SA.out.size) (by have := HMO.out; omega)
                have e : ((List.range mo).map fun i => if i < 0 then tameM r i else 0) = List.replicate mo 0 := by
                  apply List.ext_getElem?
                  intro i
                  by_cases hi : i < mo
                  · simp [hi]
                  · rw [List.getElem?_eq_none (by simp; omega), List.getElem?_eq_none (by simp; omega)]
                rw [e]
                exact this)
              obtain ⟨Y, hY⟩ : ∃ V, V = wr.alloc (blkL mo) := ⟨_, rfl⟩
              rw [← hY] at YW YR ⊢
              clear hY hg hmk c1 c3s
              go_loopw [9] (fun v9 wt => ∃ j : Nat, j ≤ mo ∧ j ≤ ml ∧ v9 = .int .i64 j ∧ Hid (Adds wr wt) ∧ Hid (World.ownsRow wt w.heap.size 2 1 (.slice (some ⟨g, 0, none⟩) mo mo) mo (((List.range mo).map fun i => if i < j then tameM r i else 0).map (Value.int .i64)))) (fun v9 _ => mo - (intOf v9).toNat)
              case atStart => exact ⟨0, by omega, by omega, rfl, YW, YR⟩
              case round =>
                obtain ⟨j, hj, hjl, rfl, TW, TR⟩ := hrel
                clear YW YR
                have T0 := Lib.hid (S0.out.later TW.out)
                have T1 := Lib.hid (S1.out.later TW.out)
                have T2 := Lib.hid (S2.out.later TW.out)
                have TO := Lib.hid (own_later SO.out TW.out)
                have TM := Lib.hid (SM.out.later TW.out)
                have TA := Lib.hid (SA.out.trans TW.out)
                have hj0 : (0 : Int) ≤ (j : Int) := by omega
                have c1 := T2.out.cell 1
                have c3s := T0.out.cell 3
                have c3r : wr.cell? ⟨g0, o0 + k2, none⟩ = some (.slice u ml e) := keep_cell TA.out HRC.out
                by_cases hjm : j < mo
                · have hjm2 : (j : Int) < (mo : Int) := by omega
                  by_cases hjr : j < ml
                  · have hjr2 : (j : Int) < (ml : Int) := by omega
                    obtain ⟨x, hx⟩ : ∃ x, r[j]? = some x := ⟨_, List.getElem?_eq_getElem (by have := HML.out; omega)⟩
                    obtain ⟨g2, o2, eu, hcx⟩ := HRL.out.1 j (.int .i64 x) (by rw [List.getElem?_map, hx]; rfl)
                    subst eu
                    have hcx2 : wr.cell? ⟨g2, o2 + j, none⟩ = some (.int .i64 x) := keep_cell TA.out hcx
                    have hgj : (((List.range mo).map fun i => if i < j then tameM r i else 0).map (Value.int .i64))[j]? = some (.int .i64 0) := by simp [hjm]
                    have hown := own_cell TR.out hgj
                    have hg0 := hown.1
                    have hg1 := hown.2
                    have htm : IntKind.i64.wrap (x.tmod 300) = x.tmod 300 := by
                      rw [IntKind.wrap_i64]
                      have h1 := Int.tmod_lt_of_pos x (b := 300) (by omega)
                      have h2 := Int.lt_tmod_of_pos x (b := 300) (by omega)
                      omega
                    have HTM : Hid (tameM r j = x.tmod 300) := Lib.hid (by unfold tameM; rw [hx])
                    clear hx hcx hown hgj
                    go_wp2
                    refine ⟨⟨j + 1, by omega, by omega, by go_num, Lib.hid ?_, Lib.hid ?_⟩, by simp [intOf]; omega⟩
                    · exact TW.out.set (p := ⟨g, j, none⟩) HGW.out _
                    · have hp := own_put (j := j) TR.out (.int .i64 (x.tmod 300))
                      rw [← List.map_set, tame_step _ HTM.out] at hp
                      exact hp
                  · have hdr : decide ((j : Int) < (ml : Int)) = false := decide_eq_false (by omega)
                    have TRR : Hid (World.ownsRow wr w.heap.size 2 1 (.slice (some ⟨g, 0, none⟩) mo mo) mo (((List.range mo).map (tameM r)).map (Value.int .i64))) := Lib.hid (by
                      rw [← tame_full (j := j) (by rw [← HML.out]; omega)]
                      exact TR.out)
                    have c3 := T2.out.cell 3
                    clear TR
                    go_upto_region 20 with fail
                    clear c3 c3s c1 c3r
                    have hlen : ((moves.take k2).map fun r => (List.range mo).map (tameM r)).length = k2 := by rw [List.length_map, List.length_take, ← HNM.out]; omega
                    have HLE := Lib.hid hlen
                    obtain ⟨sl, h1, h2, h3⟩ := TM.out
                    rw [hlen] at h1 h2
                    have H1 := Lib.hid h1
                    have H2 := Lib.hid h2
                    have H3 := Lib.hid h3
                    obtain ⟨XS, hXS⟩ : ∃ xs, xs = List.zipWith (fun s m => Value.slice s.1 (List.length m) s.2) sl ((moves.take k2).map fun r => (List.range mo).map (tameM r)) := ⟨_, rfl⟩
                    have HXS := Lib.hid hXS
                    rw [← hXS] at H2
                    have hA6 := TA.out.size
                    clear h1 h2 h3 hXS hlen TM
                    go_upto_region 21 with (at_builtin; ((refine wpList_append_lies _ rfl _ _ 23 rfl w.heap.size 22 j0 (.slice none 0 0) 1 24 Try.underlying23 HJ.out HJ0.out HJ1.out HJ2.out rfl (by decide) (.slice m2 k2 d3) k2 XS rfl (own_allocd H2.out _) ⟨wr.heap.size, 0, none⟩ 1 1 [.slice (some ⟨g, 0, none⟩) mo mo] rfl rfl (World.news_of_block (Box.new wr _ 22)) (by simp [Value.oneCell']) (by omega) (by unfold maxLen; omega) (by omega) (by simp; omega) (wr.heap.size + 1) (by simp) ?_); intro g7 c7 w7 ho hg hor hl7; have HO7 := Lib.hid ho; have HG7 := Lib.hid hg; clear ho hg hor hl7))
                    have hblk : ∀ (p : Nat) (vs : Array Value), Box wr p vs 25 → (Value.slice m2 k2 d3).ownBlock ≠ some p := fun p vs hb e => by
                      obtain ⟨_, cur, hcur⟩ := own_block H2.out e
                      unfold Box at hb
                      rw [hb] at hcur
                      simp only [Option.some.injEq, Obj.cells.injEq] at hcur
                      exact absurd hcur.2.1 (by decide)
                    have B7 := Lib.hid (box_grow (T0.out.alloc (.cells #[.slice (some ⟨g, 0, none⟩) mo mo] 22)) HG7.out (hblk _ _ T0.out))
                    have B71 := Lib.hid (box_grow (T1.out.alloc (.cells #[.slice (some ⟨g, 0, none⟩) mo mo] 22)) HG7.out (hblk _ _ T1.out))
                    have b72 := box_grow (T2.out.alloc (.cells #[.slice (some ⟨g, 0, none⟩) mo mo] 22)) HG7.out (hblk _ _ T2.out)
                    have B72 := Lib.hid b72
                    have hty : ∀ j, (Value.slice m2 k2 d3).ownBlock = some j → ∃ cur, (wr.alloc (.cells #[.slice (some ⟨g, 0, none⟩) mo mo] 22)).heap[j]? = some (.cells cur 22 (0, 0)) := fun j hj => (own_block (own_allocd H2.out _) hj).2
                    have O7 := Lib.hid (own_apart (own_allocd TO.out (.cells #[.slice (some ⟨g, 0, none⟩) mo mo] 22)) HG7.out hty (by decide))
                    have N7 := Lib.hid (own_apart (own_allocd TRR.out (.cells #[.slice (some ⟨g, 0, none⟩) mo mo] 22)) HG7.out hty (by decide))
                    have R7 := Lib.hid (fun (i : Nat) (s : Option Addr × Nat) (m : List Int) (a : sl[i]? = some s) (b : ((moves.take k2).map fun r => (List.range mo).map (tameM r))[i]? = some m) => own_apart (own_allocd (H3.out i s m a b) (.cells #[.slice (some ⟨g, 0, none⟩) mo mo] 22)) HG7.out hty (by decide))
                    have A7 : Hid (Adds w w7) := Lib.hid (Below.grown (TA.out.alloc _) HG7.out (by simp; omega) (fun j hj => (own_block H2.out hj).1))
                    have c3 := b72.cell 3
                    have g3 := b72.free 3
                    clear HG7 T0 T1 T2 TO TRR hty hblk H2 H3 b72 TA
                    go_wp2
                    have e1 : (moves.take (k2 + 1)).map (fun r => (List.range mo).map (tameM r)) = (moves.take k2).map (fun r => (List.range mo).map (tameM r)) ++ [(List.range mo).map (tameM r)] := by
                      obtain ⟨h1, h2⟩ := List.getElem?_eq_some_iff.1 HX.out
                      rw [List.take_succ_eq_append_getElem h1, h2, List.map_append]
                      rfl
                    refine ⟨⟨k2 + 1, some ⟨g7, 0, none⟩, c7, by omega, by omega, by go_num, Lib.hid ?_, Lib.hid ?_, Lib.hid ?_, Lib.hid ?_, Lib.hid ?_, Lib.hid ?_⟩, by simp [intOf]; omega⟩
                    · exact B7.out.far (by show s ≠ q; omega) _
                    · exact B71.out.far (by show s + 1 ≠ q; omega) _
                    · exact B72.out.set 3 _
                    · exact own_heap O7.out B72.out (by decide) (fun kk hk => Below.heap_setCell w7 _ _ kk hk)
                    · rw [e1]
                      have hm7 : MovesO w7 w.heap.size (some ⟨g7, 0, none⟩) c7 ((moves.take k2).map (fun r => (List.range mo).map (tameM r)) ++ [(List.range mo).map (tameM r)]) := by
                        refine moves_snoc (sl := sl) (p := some ⟨g, 0, none⟩) (c := mo) (by rw [H1.out, HLE.out]) ?_ R7.out ?_
                        · rw [HLE.out, ← HXS.out, List.length_map, List.length_range]
                          exact HO7.out
                        · rw [List.length_map, List.length_range]
                          exact N7.out
                      exact hm7.heap B72.out (by decide) (by decide) (fun kk hk => Below.heap_setCell w7 _ _ kk hk)
                    · exact A7.out.set (p := ⟨q, 3, none⟩) hql _
                · have hjj : mo = j := by omega
                  subst hjj
                  have hdq : decide ((mo : Int) < (mo : Int)) = false := decide_eq_false (by omega)
                  have TRR : Hid (World.ownsRow wr w.heap.size 2 1 (.slice (some ⟨g, 0, none⟩) mo mo) mo (((List.range mo).map (tameM r)).map (Value.int .i64))) := Lib.hid (by
                    rw [← tame_all mo]
                    exact TR.out)
                  have c3 := T2.out.cell 3
                  clear TR
                  go_upto_region 20 with fail
                  clear c3 c3s c1 c3r
                  have hlen : ((moves.take k2).map fun r => (List.range mo).map (tameM r)).length = k2 := by rw [List.length_map, List.length_take, ← HNM.out]; omega
                  have HLE := Lib.hid hlen
                  obtain ⟨sl, h1, h2, h3⟩ := TM.out
                  rw [hlen] at h1 h2
                  have H1 := Lib.hid h1
                  have H2 := Lib.hid h2
                  have H3 := Lib.hid h3
                  obtain ⟨XS, hXS⟩ : ∃ xs, xs = List.zipWith (fun s m => Value.slice s.1 (List.length m) s.2) sl ((moves.take k2).map fun r => (List.range mo).map (tameM r)) := ⟨_, rfl⟩
                  have HXS := Lib.hid hXS
                  rw [← hXS] at H2
                  have hA6 := TA.out.size
                  clear h1 h2 h3 hXS hlen TM
                  go_upto_region 21 with (at_builtin; ((refine wpList_append_lies _ rfl _ _ 23 rfl w.heap.size 22 j0 (.slice none 0 0) 1 24 Try.underlying23 HJ.out HJ0.out HJ1.out HJ2.out rfl (by decide) (.slice m2 k2 d3) k2 XS rfl (own_allocd H2.out _) ⟨wr.heap.size, 0, none⟩ 1 1 [.slice (some ⟨g, 0, none⟩) mo mo] rfl rfl (World.news_of_block (Box.new wr _ 22)) (by simp [Value.oneCell']) (by omega) (by unfold maxLen; omega) (by omega) (by simp; omega) (wr.heap.size + 1) (by simp) ?_); intro g7 c7 w7 ho hg hor hl7; have HO7 := Lib.hid ho; have HG7 := Lib.hid hg; clear ho hg hor hl7))
                  have hblk : ∀ (p : Nat) (vs : Array Value), Box wr p vs 25 → (Value.slice m2 k2 d3).ownBlock ≠ some p := fun p vs hb e => by
                    obtain ⟨_, cur, hcur⟩ := own_block H2.out e
                    unfold Box at hb
                    rw [hb] at hcur
                    simp only [Option.some.injEq, Obj.cells.injEq] at hcur
                    exact absurd hcur.2.1 (by decide)
                  have B7 := Lib.hid (box_grow (T0.out.alloc (.cells #[.slice (some ⟨g, 0, none⟩) mo mo] 22)) HG7.out (hblk _ _ T0.out))
                  have B71 := Lib.hid (box_grow (T1.out.alloc (.cells #[.slice (some ⟨g, 0, none⟩) mo mo] 22)) HG7.out (hblk _ _ T1.out))
                  have b72 := box_grow (T2.out.alloc (.cells #[.slice (some ⟨g, 0, none⟩) mo mo] 22)) HG7.out (hblk _ _ T2.out)
                  have B72 := Lib.hid b72
                  have hty : ∀ j, (Value.slice m2 k2 d3).ownBlock = some j → ∃ cur, (wr.alloc (.cells #[.slice (some ⟨g, 0, none⟩) mo mo] 22)).heap[j]? = some (.cells cur 22 (0, 0)) := fun j hj => (own_block (own_allocd H2.out _) hj).2
                  have O7 := Lib.hid (own_apart (own_allocd TO.out (.cells #[.slice (some ⟨g, 0, none⟩) mo mo] 22)) HG7.out hty (by decide))
                  have N7 := Lib.hid (own_apart (own_allocd TRR.out (.cells #[.slice (some ⟨g, 0, none⟩) mo mo] 22)) HG7.out hty (by decide))
                  have R7 := Lib.hid (fun (i : Nat) (s : Option Addr × Nat) (m : List Int) (a : sl[i]? = some s) (b : ((moves.take k2).map fun r => (List.range mo).map (tameM r))[i]? = some m) => own_apart (own_allocd (H3.out i s m a b) (.cells #[.slice (some ⟨g, 0, none⟩) mo mo] 22)) HG7.out hty (by decide))
                  have A7 : Hid (Adds w w7) := Lib.hid (Below.grown (TA.out.alloc _) HG7.out (by simp; omega) (fun j hj => (own_block H2.out hj).1))
                  have c3 := b72.cell 3
                  have g3 := b72.free 3
                  clear HG7 T0 T1 T2 TO TRR hty hblk H2 H3 b72 TA
                  go_wp2
                  have e1 : (moves.take (k2 + 1)).map (fun r => (List.range mo).map (tameM r)) = (moves.take k2).map (fun r => (List.range mo).map (tameM r)) ++ [(List.range mo).map (tameM r)] := by
                    obtain ⟨h1, h2⟩ := List.getElem?_eq_some_iff.1 HX.out
                    rw [List.take_succ_eq_append_getElem h1, h2, List.map_append]
                    rfl
                  refine ⟨⟨k2 + 1, some ⟨g7, 0, none⟩, c7, by omega, by omega, by go_num, Lib.hid ?_, Lib.hid ?_, Lib.hid ?_, Lib.hid ?_, Lib.hid ?_, Lib.hid ?_⟩, by simp [intOf]; omega⟩
                  · exact B7.out.far (by show s ≠ q; omega) _
                  · exact B71.out.far (by show s + 1 ≠ q; omega) _
                  · exact B72.out.set 3 _
                  · exact own_heap O7.out B72.out (by decide) (fun kk hk => Below.heap_setCell w7 _ _ kk hk)
                  · rw [e1]
                    have hm7 : MovesO w7 w.heap.size (some ⟨g7, 0, none⟩) c7 ((moves.take k2).map (fun r => (List.range mo).map (tameM r)) ++ [(List.range mo).map (tameM r)]) := by
                      refine moves_snoc (sl := sl) (p := some ⟨g, 0, none⟩) (c := mo) (by rw [H1.out, HLE.out]) ?_ R7.out ?_
                      · rw [HLE.out, ← HXS.out, List.length_map, List.length_range]
                        exact HO7.out
                      · rw [List.length_map, List.length_range]
                        exact N7.out
                    exact hm7.heap B72.out (by decide) (by decide) (fun kk hk => Below.heap_setCell w7 _ _ kk hk)
                  · exact A7.out.set (p := ⟨q, 3, none⟩) hql _
            · have hd5 : decide ((k2 : Int) < 5) = false := decide_eq_false (by omega)
              have hT : (moves.take 5).map (fun r => (List.range mo).map (tameM r)) = (moves.take k2).map (fun r => (List.range mo).map (tameM r)) := by rw [show k2 = 5 by omega]
              have hlen : ((moves.take k2).map fun r => (List.range mo).map (tameM r)).length = k2 := by rw [List.length_map, List.length_take, ← HNM.out]; omega
              have v0 := S2.out.cell 0
              have v1 := S2.out.cell 1
              have v2 := S2.out.cell 2
              have v3 := S2.out.cell 3
              have v4 := S2.out.cell 4
              have v5 := S2.out.cell 5
              have z0 := S1.out.cell 0
              have g0 := S1.out.free 0
              have z1 := S1.out.cell 1
              have g1 := S1.out.free 1
              have z2 := S1.out.cell 2
              have g2 := S1.out.free 2
              have z3 := S1.out.cell 3
              have g3 := S1.out.free 3
              have z4 := S1.out.cell 4
              have g4 := S1.out.free 4
              have z5 := S1.out.cell 5
              have g5 := S1.out.free 5
              go_wp2
              have bF : Box (wr.setCells (s + 1) 0 [.int .i64 nmem, .int .i64 (mo : Int), .slice p2 mo d2, .slice m2 k2 d3, .int .i64 rt, .int .i64 ca]) (s + 1) #[.int .i64 nmem, .int .i64 (mo : Int), .slice p2 mo d2, .slice m2 k2 d3, .int .i64 rt, .int .i64 ca] 25 := S1.out.setCells [.int .i64 nmem, .int .i64 (mo : Int), .slice p2 mo d2, .slice m2 k2 d3, .int .i64 rt, .int .i64 ca] 0
              refine post_row (vs := #[.int .i64 nmem, .int .i64 (mo : Int), .slice p2 mo d2, .slice m2 k2 d3, .int .i64 rt, .int .i64 ca]) rfl rfl rfl rfl Try.underlying25 info_cfg bF ⟨p2, d2, m2, d3, ?_, ?_, ?_, ?_⟩
              · rw [hT, hlen, List.length_map, List.length_range]
              · rw [List.length_map, List.length_range]
                exact own_heap (w' := wr.setCells (s + 1) 0 [.int .i64 nmem, .int .i64 (mo : Int), .slice p2 mo d2, .slice m2 k2 d3, .int .i64 rt, .int .i64 ca]) SO.out S1.out (by decide) (fun kk hk => heap_setCells _ _ kk hk)
              · rw [hT]
                exact MovesO.heap (w' := wr.setCells (s + 1) 0 [.int .i64 nmem, .int .i64 (mo : Int), .slice p2 mo d2, .slice m2 k2 d3, .int .i64 rt, .int .i64 ca]) SM.out S1.out (by decide) (by decide) (fun kk hk => heap_setCells _ _ kk hk)
              · exact (show Adds w (wr.setCells (s + 1) 0 [.int .i64 nmem, .int .i64 (mo : Int), .slice p2 mo d2, .slice m2 k2 d3, .int .i64 rt, .int .i64 ca]) from Adds.setCells (b := s + 1) (by have := HS.out; omega) _ 0 SA.out)
          · have hkn : nm = k2 := by omega
            subst hkn
            have hdq : decide ((nm : Int) < (nm : Int)) = false := decide_eq_false (by omega)
            have c3s := S0.out.cell 3
            have hT : (moves.take 5).map (fun r => (List.range mo).map (tameM r)) = (moves.take nm).map (fun r => (List.range mo).map (tameM r)) := by rw [List.take_of_length_le (by rw [← HNM.out]; omega), List.take_of_length_le (by rw [← HNM.out]; omega)]
            have hlen : ((moves.take nm).map fun r => (List.range mo).map (tameM r)).length = nm := by rw [List.length_map, List.length_take, ← HNM.out]; omega
            have v0 := S2.out.cell 0
            have v1 := S2.out.cell 1
            have v2 := S2.out.cell 2
            have v3 := S2.out.cell 3
            have v4 := S2.out.cell 4
            have v5 := S2.out.cell 5
            have z0 := S1.out.cell 0
            have g0 := S1.out.free 0
            have z1 := S1.out.cell 1
            have g1 := S1.out.free 1
            have z2 := S1.out.cell 2
            have g2 := S1.out.free 2
            have z3 := S1.out.cell 3
            have g3 := S1.out.free 3
            have z4 := S1.out.cell 4
            have g4 := S1.out.free 4
            have z5 := S1.out.cell 5
            have g5 := S1.out.free 5
            go_wp2
            have bF : Box (wr.setCells (s + 1) 0 [.int .i64 nmem, .int .i64 (mo : Int), .slice p2 mo d2, .slice m2 nm d3, .int .i64 rt, .int .i64 ca]) (s + 1) #[.int .i64 nmem, .int .i64 (mo : Int), .slice p2 mo d2, .slice m2 nm d3, .int .i64 rt, .int .i64 ca] 25 := S1.out.setCells [.int .i64 nmem, .int .i64 (mo : Int), .slice p2 mo d2, .slice m2 nm d3, .int .i64 rt, .int .i64 ca] 0
            refine post_row (vs := #[.int .i64 nmem, .int .i64 (mo : Int), .slice p2 mo d2, .slice m2 nm d3, .int .i64 rt, .int .i64 ca]) rfl rfl rfl rfl Try.underlying25 info_cfg bF ⟨p2, d2, m2, d3, ?_, ?_, ?_, ?_⟩
            · rw [hT, hlen, List.length_map, List.length_range]
            · rw [List.length_map, List.length_range]
              exact own_heap (w' := wr.setCells (s + 1) 0 [.int .i64 nmem, .int .i64 (mo : Int), .slice p2 mo d2, .slice m2 nm d3, .int .i64 rt, .int .i64 ca]) SO.out S1.out (by decide) (fun kk hk => heap_setCells _ _ kk hk)
            · rw [hT]
              exact MovesO.heap (w' := wr.setCells (s + 1) 0 [.int .i64 nmem, .int .i64 (mo : Int), .slice p2 mo d2, .slice m2 nm d3, .int .i64 rt, .int .i64 ca]) SM.out S1.out (by decide) (by decide) (fun kk hk => heap_setCells _ _ kk hk)
            · exact (show Adds w (wr.setCells (s + 1) 0 [.int .i64 nmem, .int .i64 (mo : Int), .slice p2 mo d2, .slice m2 nm d3, .int .i64 rt, .int .i64 ca]) from Adds.setCells (b := s + 1) (by have := HS.out; omega) _ 0 SA.out)

end Go.Proofs.Ytmkpidipoadnbaa
