/- New: a house made. -/
import Derived.Test.YtmkpidipoadnbaaW29
import Derived.Test.YtmkpidipoadnbaaW39
namespace Go.Proofs.Ytmkpidipoadnbaa
open Go Go.RowKit Go.Sort

def acc0 : Ac := ⟨0, 0, List.replicate 12 0, false⟩
/-- A house that was just made. -/
def newH (c : Cfg) : Hs := ⟨List.replicate c.members.toNat acc0, c.months.toNat, padM c.prices, c.moves.map padM, c.rate, c.cap, 0, []⟩
theorem info_account : (Try.prog.info? 72).map (fun i => (i.zero, i.size, i.bytes)) = some (some (.agg (encA acc0).toArray), 15, 120) := by kernel_rfl
theorem info_monthly : (Try.prog.info? 61).map (fun i => (i.zero, i.size, i.bytes)) = some (some (.agg zero12), 12, 96) := by kernel_rfl
def blkA (n : Nat) : Obj := .cells (madeCells (encA acc0).toArray (n * 15)) 72
theorem run_makeA (n : Nat) (hn : n ≤ 64) (W : World) : (Instr.makeSlice 59 (.int .i64 n) (.int .i64 n)).run Try.prog W = .ok (.slice (some ⟨W.heap.size, 0, none⟩) n n) (W.alloc (blkA n)) := by
  obtain ⟨j0, hj, hj0, hj1, hj2⟩ := info_parts info_account
  have hr := run_make (P := Try.prog) W 59 72 j0 (.agg (encA acc0).toArray) Try.underlying59 hj hj0 .i64 .i64 n n (by omega) (Int.le_refl _) (by rw [hj2]; omega) (by omega)
  simp only [Int.toNat_natCast, hj1] at hr
  exact hr
theorem made_A {W : World} {n base : Nat} (hb : base ≤ W.heap.size) (hn : n ≤ 64) : (W.alloc (blkA n)).ownsRow base 72 15 (.slice (some ⟨W.heap.size, 0, none⟩) n n) n ((List.replicate n acc0).flatMap encA) :=
  own_made (n := n) (size := 15) (cs := madeCells (encA acc0).toArray (n * 15)) (made_flat (f := encA) (k := 15) acc0 rfl (by omega)) (by unfold madeCells; simp) hb (by unfold maxLen; omega)

set_option maxRecDepth 100000 in
theorem new_bad (c : Cfg) (pp : Option Addr) (cp : Nat) (mp : Option Addr) (cm : Nat) (w : World) (hP : CellsAt w pp (c.prices.map (Value.int .i64))) (hM : MovesAt w mp c.moves) (hlp : c.prices.length ≤ 1000000) (hlm : c.moves.length ≤ 1000000) (hlr : ∀ m ∈ c.moves, m.length ≤ 1000000) (he : cfgE c ≠ 0) :
    Calls Try.prog 5 #[.agg (cfgCells c pp cp mp cm)] w fun r w' => r = .returned (.tuple #[.pointer none, .int .i64 (cfgE c)]) ∧ Adds w w' := by
  have HF := Lib.hid (fun W (hW : Adds w W) => checkConfig_any c pp cp mp cm W (hP.later hW) (hM.later hW) hlp hlm hlr)
  obtain ⟨e, hee⟩ : ∃ e, e = cfgE c := ⟨_, rfl⟩
  rw [← hee] at HF he ⊢
  have hne : (e == 0) = false := by rw [beq_eq_false_iff_ne]; exact he
  unfold cfgCells at *
  clear hP hM hlp hlm hlr hee
  go_enter Try.func5, Try.ntmps5
  go_wp2_with (go_at_call 18; refine (HF.out _ ((Adds.refl w).alloc _)).mono ?_; rintro e w1 ⟨rfl, ha⟩; have HA := Lib.hid ha; clear ha)
  go_ret2
  exact ⟨rfl, ((Adds.refl w).alloc _).trans HA.out⟩
theorem cfg_ok {c : Cfg} (e : cfgE c = 0) : inB c.members 2 64 = true ∧ inB c.months 1 12 = true ∧ inB c.rate 0 1000 = true ∧ inB c.cap 0 1000000000000 = true ∧ (c.prices.length : Int) = c.months ∧ c.moves.length ≤ 64 ∧ (∀ m ∈ c.moves, (m.length : Int) = c.months) ∧ allIn c.prices 1 1000000 = true ∧ ∀ m ∈ c.moves, allIn m (-1000000) 1000000 = true := by
  unfold cfgE at e
  split at e
  · omega
  rename_i h1
  split at e
  · omega
  rename_i h2
  split at e
  · omega
  rename_i h3
  split at e
  · omega
  rename_i h4
  split at e
  · omega
  rename_i h5
  simp only [Bool.not_eq_false, Bool.and_eq_true, Bool.or_eq_true, not_or, bne_iff_ne, Decidable.not_not, decide_eq_true_eq] at h1 h2 h3 h4 h5
  rw [List.all_eq_true] at h3 h5
  exact ⟨h1.1.1.1, h1.1.1.2, h1.1.2, h1.2, h2.1, by omega, fun m hm => by have := h3 m hm; unfold lenIs at this; exact beq_iff_eq.1 this, h4, h5⟩
set_option maxRecDepth 100000 in
set_option maxHeartbeats 8000000 in
theorem new_ok (c : Cfg) (pp : Option Addr) (cp : Nat) (mp : Option Addr) (cm : Nat) (w : World) (hP : CellsAt w pp (c.prices.map (Value.int .i64))) (hM : MovesAt w mp c.moves) (he : cfgE c = 0) :
    Calls Try.prog 5 #[.agg (cfgCells c pp cp mp cm)] w fun r w' => ∃ b ga ca pm cm', r = .returned (.tuple #[.pointer (some ⟨b, 0, none⟩), .int .i64 0]) ∧ HouseAt w' w.heap.size b ga ca pm cm' none 0 (newH c) ∧ OwnK w' w.heap.size none 0 [] ∧ Adds w w' := by
  obtain ⟨k1, k2, k3, k4, k5, k6, k7, k8, k9⟩ := cfg_ok he
  have HF := Lib.hid (fun W (hW : Adds w W) => checkConfig_any c pp cp mp cm W (hP.later hW) (hM.later hW) (by unfold inB at k2; simp at k2; omega) (by omega) (fun m hm => by have := k7 m hm; unfold inB at k2; simp at k2; omega))
  rw [he] at HF
  have hn : c.members = ((c.members.toNat : Nat) : Int) := by unfold inB at k1; simp at k1; omega
  have hmo : c.months = ((c.months.toNat : Nat) : Int) := by unfold inB at k2; simp at k2; omega
  have hn64 : c.members.toNat ≤ 64 := by unfold inB at k1; simp at k1; omega
  have hmo12 : c.months.toNat ≤ 12 := by unfold inB at k2; simp at k2; omega
  have hpl : c.prices.length = c.months.toNat := by omega
  obtain ⟨p0, p1, p2, p3, p4, p5, p6, p7, p8, p9, p10, p11, hp⟩ := ints12 (padM_len c.prices)
  have HMP := Lib.hid (fun W (hW : Adds w W) => monthlyOf_any pp cp c.prices W (hP.later hW) (by omega))
  rw [hp, hpl] at HMP
  have HMS := Lib.hid (fun W (hW : Adds w W) => hM.later hW)
  have HMR := Lib.hid (fun m (hm : m ∈ c.moves) q d W (hL : CellsAt W q (m.map (Value.int .i64))) => monthlyOf_any q d m W hL (by have := k7 m hm; omega))
  have HNH : Hid (newH c = ⟨List.replicate c.members.toNat acc0, c.months.toNat, [p0, p1, p2, p3, p4, p5, p6, p7, p8, p9, p10, p11], c.moves.map padM, c.rate, c.cap, 0, []⟩) := Lib.hid (by unfold newH; rw [hp])
  rw [HNH.out]
  unfold cfgCells monthV at *
  rw [hpl] at HF ⊢
  obtain ⟨n, hnn⟩ : ∃ n, n = c.members.toNat := ⟨_, rfl⟩
  obtain ⟨mo, hmm⟩ : ∃ n, n = c.months.toNat := ⟨_, rfl⟩
  rw [← hnn] at hn hn64 ⊢
  rw [← hmm] at hmo hmo12 hpl HF HMP ⊢
  rw [hn, hmo] at HF ⊢
  obtain ⟨moves, hmv⟩ : ∃ m, m = c.moves := ⟨_, rfl⟩
  rw [← hmv] at HF HMS HMR k6 ⊢
  obtain ⟨rate, hrt⟩ : ∃ m, m = c.rate := ⟨_, rfl⟩
  obtain ⟨cap, hcp⟩ : ∃ m, m = c.cap := ⟨_, rfl⟩
  rw [← hrt, ← hcp] at HF ⊢
  obtain ⟨nm, hnm⟩ : ∃ m, m = moves.length := ⟨_, rfl⟩
  rw [← hnm] at HF k6 ⊢
  have HNM := Lib.hid hnm
  have HMK := Lib.hid (run_makeA n hn64)
  have HNN := Lib.hid hn64
  have HFC := Lib.hid (HF.out (w.alloc (.cells #[.int .i64 (n : Int), .int .i64 (mo : Int), .slice pp mo cp, .slice mp nm cm, .int .i64 rate, .int .i64 cap] 32)) ((Adds.refl w).alloc _))
  clear HF hP hM he k1 k2 k3 k4 k5 k7 k8 k9 hn hmo hmo12 hpl hp HNH hnn hmm hmv hrt hcp hnm
  simp only [List.map_cons, List.map_nil] at HMP
  go_enter Try.func5, Try.ntmps5
  go_upto_region 4 with (go_at_call 18; refine HFC.out.mono ?_; rintro e w1 ⟨rfl, ha⟩; have HA := Lib.hid ha; clear ha)
  obtain ⟨s, hs⟩ : ∃ s, s = w.heap.size := ⟨_, rfl⟩
  rw [← hs]
  have K0 : Hid (Box w1 s #[.int .i64 (n : Int), .int .i64 (mo : Int), .slice pp mo cp, .slice mp nm cm, .int .i64 rate, .int .i64 cap] 32) := Lib.hid ((box_new hs).later HA.out)
  have HA1 : Hid (Adds w w1) := Lib.hid (((Adds.refl w).alloc _).trans HA.out)
  have HS := Lib.hid hs
  clear HA HFC hs
  refine wp_region_rules (fun i => i != i) (fun wq => Hid (Box wq s #[.int .i64 (n : Int), .int .i64 (mo : Int), .slice pp mo cp, .slice mp nm cm, .int .i64 rate, .int .i64 cap] 32) ∧ Hid (Adds w wq)) Adds (fun i v wq => match i with | 0 => v = .pointer (some ⟨s, 0, none⟩) | 1 => v = .int .i64 (n : Int) | 2 => ∃ g, v = .slice (some ⟨g, 0, none⟩) n n ∧ Hid (World.ownsRow wq w.heap.size 72 15 (.slice (some ⟨g, 0, none⟩) n n) n ((List.replicate n acc0).flatMap encA)) | 3 => v = .pointer (some ⟨s, 1, none⟩) | 4 => v = .int .i64 (mo : Int) | 5 => v = .pointer (some ⟨s, 2, none⟩) | 6 => v = .slice pp mo cp | 7 => v = .agg #[.int .i64 p0, .int .i64 p1, .int .i64 p2, .int .i64 p3, .int .i64 p4, .int .i64 p5, .int .i64 p6, .int .i64 p7, .int .i64 p8, .int .i64 p9, .int .i64 p10, .int .i64 p11] | 8 => v = .pointer (some ⟨s, 4, none⟩) | 9 => v = .int .i64 rate | 10 => v = .pointer (some ⟨s, 5, none⟩) | 11 => v = .int .i64 cap | 12 => ∃ g, v = .agg #[.slice (some ⟨g, 0, none⟩) n n, .int .i64 (mo : Int), .int .i64 p0, .int .i64 p1, .int .i64 p2, .int .i64 p3, .int .i64 p4, .int .i64 p5, .int .i64 p6, .int .i64 p7, .int .i64 p8, .int .i64 p9, .int .i64 p10, .int .i64 p11, .slice none 0 0, .int .i64 rate, .int .i64 cap, .int .i64 0, .slice none 0 0] ∧ Hid (World.ownsRow wq w.heap.size 72 15 (.slice (some ⟨g, 0, none⟩) n n) n ((List.replicate n acc0).flatMap encA)) | 13 => ∃ g q, v = .pointer (some ⟨q, 0, none⟩) ∧ Hid (World.ownsRow wq w.heap.size 72 15 (.slice (some ⟨g, 0, none⟩) n n) n ((List.replicate n acc0).flatMap encA)) ∧ Hid (Box wq q #[.slice (some ⟨g, 0, none⟩) n n, .int .i64 (mo : Int), .int .i64 p0, .int .i64 p1, .int .i64 p2, .int .i64 p3, .int .i64 p4, .int .i64 p5, .int .i64 p6, .int .i64 p7, .int .i64 p8, .int .i64 p9, .int .i64 p10, .int .i64 p11, .slice none 0 0, .int .i64 rate, .int .i64 cap, .int .i64 0, .slice none 0 0] 66) ∧ w.heap.size ≤ q | 14 => ∃ g q, v = .pointer (some ⟨q, 0, none⟩) ∧ Hid (World.ownsRow wq w.heap.size 72 15 (.slice (some ⟨g, 0, none⟩) n n) n ((List.replicate n acc0).flatMap encA)) ∧ Hid (Box wq q #[.slice (some ⟨g, 0, none⟩) n n, .int .i64 (mo : Int), .int .i64 p0, .int .i64 p1, .int .i64 p2, .int .i64 p3, .int .i64 p4, .int .i64 p5, .int .i64 p6, .int .i64 p7, .int .i64 p8, .int .i64 p9, .int .i64 p10, .int .i64 p11, .slice none 0 0, .int .i64 rate, .int .i64 cap, .int .i64 0, .slice none 0 0] 66) ∧ w.heap.size ≤ q | _ => True) (by kernel_rfl) (by kernel_rfl) (by kernel_rfl) (by kernel_rfl) 15 (by kernel_rfl) [some 13, some 14, some 15, some 16, some 17, some 18, some 19, some 20, some 21, some 22, some 23, some 24, some 25, some 26, some 5] (by kernel_rfl) 0 #[true, true, true, true, true, true, true, true, true, true, true, true, true, true, true] (by kernel_rfl) (by kernel_rfl) ?hS ?hstab ?hrules ?hrest
  case hS => exact ⟨Lib.hid K0.out.drew, Lib.hid HA1.out.drew⟩
  case hstab =>
    intro j v w1 w2 hst _ h
    match j, h with
    | 2, h => exact h.elim fun g e => ⟨g, e.1, Lib.hid (own_later e.2.out hst)⟩
    | 12, h => exact h.elim fun g e => ⟨g, e.1, Lib.hid (own_later e.2.out hst)⟩
    | 13, h => exact h.elim fun g e => e.elim fun q e => ⟨g, q, e.1, Lib.hid (own_later e.2.1.out hst), Lib.hid (e.2.2.1.out.later hst), e.2.2.2⟩
    | 14, h => exact h.elim fun g e => e.elim fun q e => ⟨g, q, e.1, Lib.hid (own_later e.2.1.out hst), Lib.hid (e.2.2.1.out.later hst), e.2.2.2⟩
    | 0, h => exact h
    | 1, h => exact h
    | 3, h => exact h
    | 4, h => exact h
    | 5, h => exact h
    | 6, h => exact h
    | 7, h => exact h
    | 8, h => exact h
    | 9, h => exact h
    | 10, h => exact h
    | 11, h => exact h
    | _ + 15, h => trivial
  case hrules =>
    refine rules_cons (n := 15) (ds := [some 13, some 14, some 15, some 16, some 17, some 18, some 19, some 20, some 21, some 22, some 23, some 24, some 25, some 26, some 5]) (by kernel_rfl) (by kernel_rfl) [] rfl (by kernel_rfl) ?_ ?_
    · intro x wq hx hS hdep K hK
      obtain ⟨x0, x1, x2, x3, x4, x5, x6, x7, x8, x9, x10, x11, x12, x13, x14, rfl⟩ := len15 hx
      have s0 := hS.1
      have sA := hS.2
      clear hdep hx hS
      simp only [putD, Act.put, List.setIfInBounds_toArray, List.set_cons_zero, List.set_cons_succ]
      go_simp
      have hk := hK.out (.pointer (some ⟨s, 0, none⟩)) _ (Adds.refl wq) ⟨s0, sA⟩ rfl (fun _ _ _ _ => ⟨trivial, trivial⟩)
      simp only [putD, Act.put, List.setIfInBounds_toArray, List.set_cons_zero, List.set_cons_succ] at hk
      exact hk
    refine rules_cons (n := 15) (ds := [some 13, some 14, some 15, some 16, some 17, some 18, some 19, some 20, some 21, some 22, some 23, some 24, some 25, some 26, some 5]) (by kernel_rfl) (by kernel_rfl) [0] rfl (by kernel_rfl) ?_ ?_
    · intro x wq hx hS hdep K hK
      obtain ⟨x0, x1, x2, x3, x4, x5, x6, x7, x8, x9, x10, x11, x12, x13, x14, rfl⟩ := len15 hx
      obtain rfl : x0 = .pointer (some ⟨s, 0, none⟩) := hdep 0 (by simp)
      have s0 := hS.1
      have sA := hS.2
      clear hdep hx hS
      simp only [putD, Act.put, List.setIfInBounds_toArray, List.set_cons_zero, List.set_cons_succ]
      have c0 := s0.out.cell 0
      go_simp
      have hk := hK.out (.int .i64 (n : Int)) _ (Adds.refl wq) ⟨s0, sA⟩ rfl (fun _ _ _ _ => ⟨trivial, trivial⟩)
      simp only [putD, Act.put, List.setIfInBounds_toArray, List.set_cons_zero, List.set_cons_succ] at hk
      exact hk
    refine rules_cons (n := 15) (ds := [some 13, some 14, some 15, some 16, some 17, some 18, some 19, some 20, some 21, some 22, some 23, some 24, some 25, some 26, some 5]) (by kernel_rfl) (by kernel_rfl) [1] rfl (by kernel_rfl) ?_ ?_
    · intro x wq hx hS hdep K hK
      obtain ⟨x0, x1, x2, x3, x4, x5, x6, x7, x8, x9, x10, x11, x12, x13, x14, rfl⟩ := len15 hx
      obtain rfl : x1 = .int .i64 (n : Int) := hdep 1 (by simp)
      have s0 := hS.1
      have sA := hS.2
      clear hdep hx hS
      simp only [putD, Act.put, List.setIfInBounds_toArray, List.set_cons_zero, List.set_cons_succ]
      have hmk := HMK.out wq
      go_simp
      have hk := hK.out (.slice (some ⟨wq.heap.size, 0, none⟩) n n) _ ((Adds.refl wq).alloc _) ⟨Lib.hid (s0.out.alloc _), Lib.hid (sA.out.alloc _)⟩ ⟨wq.heap.size, rfl, Lib.hid (made_A sA.out.size HNN.out)⟩ (fun _ _ _ _ => ⟨trivial, trivial⟩)
      simp only [putD, Act.put, List.setIfInBounds_toArray, List.set_cons_zero, List.set_cons_succ] at hk
      exact hk
    refine rules_cons (n := 15) (ds := [some 13, some 14, some 15, some 16, some 17, some 18, some 19, some 20, some 21, some 22, some 23, some 24, some 25, some 26, some 5]) (by kernel_rfl) (by kernel_rfl) [] rfl (by kernel_rfl) ?_ ?_
    · intro x wq hx hS hdep K hK
      obtain ⟨x0, x1, x2, x3, x4, x5, x6, x7, x8, x9, x10, x11, x12, x13, x14, rfl⟩ := len15 hx
      have s0 := hS.1
      have sA := hS.2
      clear hdep hx hS
      simp only [putD, Act.put, List.setIfInBounds_toArray, List.set_cons_zero, List.set_cons_succ]
      go_simp
      have hk := hK.out (.pointer (some ⟨s, 1, none⟩)) _ (Adds.refl wq) ⟨s0, sA⟩ rfl (fun _ _ _ _ => ⟨trivial, trivial⟩)
      simp only [putD, Act.put, List.setIfInBounds_toArray, List.set_cons_zero, List.set_cons_succ] at hk
      exact hk
    refine rules_cons (n := 15) (ds := [some 13, some 14, some 15, some 16, some 17, some 18, some 19, some 20, some 21, some 22, some 23, some 24, some 25, some 26, some 5]) (by kernel_rfl) (by kernel_rfl) [3] rfl (by kernel_rfl) ?_ ?_
    · intro x wq hx hS hdep K hK
      obtain ⟨x0, x1, x2, x3, x4, x5, x6, x7, x8, x9, x10, x11, x12, x13, x14, rfl⟩ := len15 hx
      obtain rfl : x3 = .pointer (some ⟨s, 1, none⟩) := hdep 3 (by simp)
      have s0 := hS.1
      have sA := hS.2
      clear hdep hx hS
      simp only [putD, Act.put, List.setIfInBounds_toArray, List.set_cons_zero, List.set_cons_succ]
      have c0 := s0.out.cell 1
      go_simp
      have hk := hK.out (.int .i64 (mo : Int)) _ (Adds.refl wq) ⟨s0, sA⟩ rfl (fun _ _ _ _ => ⟨trivial, trivial⟩)
      simp only [putD, Act.put, List.setIfInBounds_toArray, List.set_cons_zero, List.set_cons_succ] at hk
      exact hk
    refine rules_cons (n := 15) (ds := [some 13, some 14, some 15, some 16, some 17, some 18, some 19, some 20, some 21, some 22, some 23, some 24, some 25, some 26, some 5]) (by kernel_rfl) (by kernel_rfl) [] rfl (by kernel_rfl) ?_ ?_
    · intro x wq hx hS hdep K hK
      obtain ⟨x0, x1, x2, x3, x4, x5, x6, x7, x8, x9, x10, x11, x12, x13, x14, rfl⟩ := len15 hx
      have s0 := hS.1
      have sA := hS.2
      clear hdep hx hS
      simp only [putD, Act.put, List.setIfInBounds_toArray, List.set_cons_zero, List.set_cons_succ]
      go_simp
      have hk := hK.out (.pointer (some ⟨s, 2, none⟩)) _ (Adds.refl wq) ⟨s0, sA⟩ rfl (fun _ _ _ _ => ⟨trivial, trivial⟩)
      simp only [putD, Act.put, List.setIfInBounds_toArray, List.set_cons_zero, List.set_cons_succ] at hk
      exact hk
    refine rules_cons (n := 15) (ds := [some 13, some 14, some 15, some 16, some 17, some 18, some 19, some 20, some 21, some 22, some 23, some 24, some 25, some 26, some 5]) (by kernel_rfl) (by kernel_rfl) [5] rfl (by kernel_rfl) ?_ ?_
    · intro x wq hx hS hdep K hK
      obtain ⟨x0, x1, x2, x3, x4, x5, x6, x7, x8, x9, x10, x11, x12, x13, x14, rfl⟩ := len15 hx
      obtain rfl : x5 = .pointer (some ⟨s, 2, none⟩) := hdep 5 (by simp)
      have s0 := hS.1
      have sA := hS.2
      clear hdep hx hS
      simp only [putD, Act.put, List.setIfInBounds_toArray, List.set_cons_zero, List.set_cons_succ]
      have c0 := s0.out.cell 2
      go_simp
      have hk := hK.out (.slice pp mo cp) _ (Adds.refl wq) ⟨s0, sA⟩ rfl (fun _ _ _ _ => ⟨trivial, trivial⟩)
      simp only [putD, Act.put, List.setIfInBounds_toArray, List.set_cons_zero, List.set_cons_succ] at hk
      exact hk
    refine rules_cons (n := 15) (ds := [some 13, some 14, some 15, some 16, some 17, some 18, some 19, some 20, some 21, some 22, some 23, some 24, some 25, some 26, some 5]) (by kernel_rfl) (by kernel_rfl) [6] rfl (by kernel_rfl) ?_ ?_
    · intro x wq hx hS hdep K hK
      obtain ⟨x0, x1, x2, x3, x4, x5, x6, x7, x8, x9, x10, x11, x12, x13, x14, rfl⟩ := len15 hx
      obtain rfl : x6 = .slice pp mo cp := hdep 6 (by simp)
      have s0 := hS.1
      have sA := hS.2
      clear hdep hx hS
      simp only [putD, Act.put, List.setIfInBounds_toArray, List.set_cons_zero, List.set_cons_succ]
      go_simp
      go_at_call 19
      refine (HMP.out _ sA.out).mono ?_
      rintro e w2 ⟨rfl, ha⟩
      have hk := hK.out (.agg #[.int .i64 p0, .int .i64 p1, .int .i64 p2, .int .i64 p3, .int .i64 p4, .int .i64 p5, .int .i64 p6, .int .i64 p7, .int .i64 p8, .int .i64 p9, .int .i64 p10, .int .i64 p11]) _ ha ⟨Lib.hid (s0.out.later ha), Lib.hid (sA.out.trans ha)⟩ rfl (fun _ _ _ _ => ⟨trivial, trivial⟩)
      simp only [putD, Act.put, List.setIfInBounds_toArray, List.set_cons_zero, List.set_cons_succ] at hk
      exact hk
    refine rules_cons (n := 15) (ds := [some 13, some 14, some 15, some 16, some 17, some 18, some 19, some 20, some 21, some 22, some 23, some 24, some 25, some 26, some 5]) (by kernel_rfl) (by kernel_rfl) [] rfl (by kernel_rfl) ?_ ?_
    · intro x wq hx hS hdep K hK
      obtain ⟨x0, x1, x2, x3, x4, x5, x6, x7, x8, x9, x10, x11, x12, x13, x14, rfl⟩ := len15 hx
      have s0 := hS.1
      have sA := hS.2
      clear hdep hx hS
      simp only [putD, Act.put, List.setIfInBounds_toArray, List.set_cons_zero, List.set_cons_succ]
      go_simp
      have hk := hK.out (.pointer (some ⟨s, 4, none⟩)) _ (Adds.refl wq) ⟨s0, sA⟩ rfl (fun _ _ _ _ => ⟨trivial, trivial⟩)
      simp only [putD, Act.put, List.setIfInBounds_toArray, List.set_cons_zero, List.set_cons_succ] at hk
      exact hk
    refine rules_cons (n := 15) (ds := [some 13, some 14, some 15, some 16, some 17, some 18, some 19, some 20, some 21, some 22, some 23, some 24, some 25, some 26, some 5]) (by kernel_rfl) (by kernel_rfl) [8] rfl (by kernel_rfl) ?_ ?_
    · intro x wq hx hS hdep K hK
      obtain ⟨x0, x1, x2, x3, x4, x5, x6, x7, x8, x9, x10, x11, x12, x13, x14, rfl⟩ := len15 hx
      obtain rfl : x8 = .pointer (some ⟨s, 4, none⟩) := hdep 8 (by simp)
      have s0 := hS.1
      have sA := hS.2
      clear hdep hx hS
      simp only [putD, Act.put, List.setIfInBounds_toArray, List.set_cons_zero, List.set_cons_succ]
      have c0 := s0.out.cell 4
      go_simp
      have hk := hK.out (.int .i64 rate) _ (Adds.refl wq) ⟨s0, sA⟩ rfl (fun _ _ _ _ => ⟨trivial, trivial⟩)
      simp only [putD, Act.put, List.setIfInBounds_toArray, List.set_cons_zero, List.set_cons_succ] at hk
      exact hk
    refine rules_cons (n := 15) (ds := [some 13, some 14, some 15, some 16, some 17, some 18, some 19, some 20, some 21, some 22, some 23, some 24, some 25, some 26, some 5]) (by kernel_rfl) (by kernel_rfl) [] rfl (by kernel_rfl) ?_ ?_
    · intro x wq hx hS hdep K hK
      obtain ⟨x0, x1, x2, x3, x4, x5, x6, x7, x8, x9, x10, x11, x12, x13, x14, rfl⟩ := len15 hx
      have s0 := hS.1
      have sA := hS.2
      clear hdep hx hS
      simp only [putD, Act.put, List.setIfInBounds_toArray, List.set_cons_zero, List.set_cons_succ]
      go_simp
      have hk := hK.out (.pointer (some ⟨s, 5, none⟩)) _ (Adds.refl wq) ⟨s0, sA⟩ rfl (fun _ _ _ _ => ⟨trivial, trivial⟩)
      simp only [putD, Act.put, List.setIfInBounds_toArray, List.set_cons_zero, List.set_cons_succ] at hk
      exact hk
    refine rules_cons (n := 15) (ds := [some 13, some 14, some 15, some 16, some 17, some 18, some 19, some 20, some 21, some 22, some 23, some 24, some 25, some 26, some 5]) (by kernel_rfl) (by kernel_rfl) [10] rfl (by kernel_rfl) ?_ ?_
    · intro x wq hx hS hdep K hK
      obtain ⟨x0, x1, x2, x3, x4, x5, x6, x7, x8, x9, x10, x11, x12, x13, x14, rfl⟩ := len15 hx
      obtain rfl : x10 = .pointer (some ⟨s, 5, none⟩) := hdep 10 (by simp)
      have s0 := hS.1
      have sA := hS.2
      clear hdep hx hS
      simp only [putD, Act.put, List.setIfInBounds_toArray, List.set_cons_zero, List.set_cons_succ]
      have c0 := s0.out.cell 5
      go_simp
      have hk := hK.out (.int .i64 cap) _ (Adds.refl wq) ⟨s0, sA⟩ rfl (fun _ _ _ _ => ⟨trivial, trivial⟩)
      simp only [putD, Act.put, List.setIfInBounds_toArray, List.set_cons_zero, List.set_cons_succ] at hk
      exact hk
    refine rules_cons (n := 15) (ds := [some 13, some 14, some 15, some 16, some 17, some 18, some 19, some 20, some 21, some 22, some 23, some 24, some 25, some 26, some 5]) (by kernel_rfl) (by kernel_rfl) [2, 4, 7, 9, 11] rfl (by kernel_rfl) ?_ ?_
    · intro x wq hx hS hdep K hK
      obtain ⟨x0, x1, x2, x3, x4, x5, x6, x7, x8, x9, x10, x11, x12, x13, x14, rfl⟩ := len15 hx
      obtain ⟨g, rfl, HG⟩ : ∃ g, x2 = .slice (some ⟨g, 0, none⟩) n n ∧ Hid (World.ownsRow wq w.heap.size 72 15 (.slice (some ⟨g, 0, none⟩) n n) n ((List.replicate n acc0).flatMap encA)) := hdep 2 (by simp)
      obtain rfl : x4 = .int .i64 (mo : Int) := hdep 4 (by simp)
      obtain rfl : x7 = .agg #[.int .i64 p0, .int .i64 p1, .int .i64 p2, .int .i64 p3, .int .i64 p4, .int .i64 p5, .int .i64 p6, .int .i64 p7, .int .i64 p8, .int .i64 p9, .int .i64 p10, .int .i64 p11] := hdep 7 (by simp)
      obtain rfl : x9 = .int .i64 rate := hdep 9 (by simp)
      obtain rfl : x11 = .int .i64 cap := hdep 11 (by simp)
      have s0 := hS.1
      have sA := hS.2
      clear hdep hx hS
      simp only [putD, Act.put, List.setIfInBounds_toArray, List.set_cons_zero, List.set_cons_succ]
      go_simp
      have hk := hK.out (.agg #[.slice (some ⟨g, 0, none⟩) n n, .int .i64 (mo : Int), .int .i64 p0, .int .i64 p1, .int .i64 p2, .int .i64 p3, .int .i64 p4, .int .i64 p5, .int .i64 p6, .int .i64 p7, .int .i64 p8, .int .i64 p9, .int .i64 p10, .int .i64 p11, .slice none 0 0, .int .i64 rate, .int .i64 cap, .int .i64 0, .slice none 0 0]) _ (Adds.refl wq) ⟨s0, sA⟩ ⟨g, rfl, HG⟩ (fun _ _ _ _ => ⟨trivial, trivial⟩)
      simp only [putD, Act.put, List.setIfInBounds_toArray, List.set_cons_zero, List.set_cons_succ] at hk
      exact hk
    refine rules_cons (n := 15) (ds := [some 13, some 14, some 15, some 16, some 17, some 18, some 19, some 20, some 21, some 22, some 23, some 24, some 25, some 26, some 5]) (by kernel_rfl) (by kernel_rfl) [12] rfl (by kernel_rfl) ?_ ?_
    · intro x wq hx hS hdep K hK
      obtain ⟨x0, x1, x2, x3, x4, x5, x6, x7, x8, x9, x10, x11, x12, x13, x14, rfl⟩ := len15 hx
      obtain ⟨g, rfl, HG⟩ : ∃ g, x12 = .agg #[.slice (some ⟨g, 0, none⟩) n n, .int .i64 (mo : Int), .int .i64 p0, .int .i64 p1, .int .i64 p2, .int .i64 p3, .int .i64 p4, .int .i64 p5, .int .i64 p6, .int .i64 p7, .int .i64 p8, .int .i64 p9, .int .i64 p10, .int .i64 p11, .slice none 0 0, .int .i64 rate, .int .i64 cap, .int .i64 0, .slice none 0 0] ∧ Hid (World.ownsRow wq w.heap.size 72 15 (.slice (some ⟨g, 0, none⟩) n n) n ((List.replicate n acc0).flatMap encA)) := hdep 12 (by simp)
      have s0 := hS.1
      have sA := hS.2
      clear hdep hx hS
      simp only [putD, Act.put, List.setIfInBounds_toArray, List.set_cons_zero, List.set_cons_succ]
      go_simp
      have hk := hK.out (.pointer (some ⟨wq.heap.size, 0, none⟩)) _ ((Adds.refl wq).alloc _) ⟨Lib.hid (s0.out.alloc _), Lib.hid (sA.out.alloc _)⟩ ⟨g, wq.heap.size, rfl, Lib.hid (own_allocd HG.out _), Lib.hid (Box.new _ _ _), sA.out.size⟩ (fun _ _ _ _ => ⟨trivial, trivial⟩)
      simp only [putD, Act.put, List.setIfInBounds_toArray, List.set_cons_zero, List.set_cons_succ] at hk
      exact hk
    refine rules_cons (n := 15) (ds := [some 13, some 14, some 15, some 16, some 17, some 18, some 19, some 20, some 21, some 22, some 23, some 24, some 25, some 26, some 5]) (by kernel_rfl) (by kernel_rfl) [13] rfl (by kernel_rfl) ?_ ?_
    · intro x wq hx hS hdep K hK
      obtain ⟨x0, x1, x2, x3, x4, x5, x6, x7, x8, x9, x10, x11, x12, x13, x14, rfl⟩ := len15 hx
      obtain ⟨g, q, rfl, HG, HQ, hql⟩ : ∃ g q, x13 = .pointer (some ⟨q, 0, none⟩) ∧ Hid (World.ownsRow wq w.heap.size 72 15 (.slice (some ⟨g, 0, none⟩) n n) n ((List.replicate n acc0).flatMap encA)) ∧ Hid (Box wq q #[.slice (some ⟨g, 0, none⟩) n n, .int .i64 (mo : Int), .int .i64 p0, .int .i64 p1, .int .i64 p2, .int .i64 p3, .int .i64 p4, .int .i64 p5, .int .i64 p6, .int .i64 p7, .int .i64 p8, .int .i64 p9, .int .i64 p10, .int .i64 p11, .slice none 0 0, .int .i64 rate, .int .i64 cap, .int .i64 0, .slice none 0 0] 66) ∧ w.heap.size ≤ q := hdep 13 (by simp)
      have s0 := hS.1
      have sA := hS.2
      clear hdep hx hS
      simp only [putD, Act.put, List.setIfInBounds_toArray, List.set_cons_zero, List.set_cons_succ]
      go_simp
      have hk := hK.out (.pointer (some ⟨q, 0, none⟩)) _ (Adds.refl wq) ⟨s0, sA⟩ ⟨g, q, rfl, HG, HQ, hql⟩ (fun _ _ _ _ => ⟨trivial, trivial⟩)
      simp only [putD, Act.put, List.setIfInBounds_toArray, List.set_cons_zero, List.set_cons_succ] at hk
      exact hk
    exact rules_nil
  case hrest =>
    intro x wq hx hS hP
    obtain ⟨x0, x1, x2, x3, x4, x5, x6, x7, x8, x9, x10, x11, x12, x13, x14, rfl⟩ := len15 hx
    obtain rfl : x0 = .pointer (some ⟨s, 0, none⟩) := hP 0 (by decide) (by rfl)
    obtain rfl : x1 = .int .i64 (n : Int) := hP 1 (by decide) (by rfl)
    obtain ⟨g, rfl, HG⟩ : ∃ g, x2 = .slice (some ⟨g, 0, none⟩) n n ∧ Hid (World.ownsRow wq w.heap.size 72 15 (.slice (some ⟨g, 0, none⟩) n n) n ((List.replicate n acc0).flatMap encA)) := hP 2 (by decide) (by rfl)
    obtain rfl : x3 = .pointer (some ⟨s, 1, none⟩) := hP 3 (by decide) (by rfl)
    obtain rfl : x4 = .int .i64 (mo : Int) := hP 4 (by decide) (by rfl)
    obtain rfl : x5 = .pointer (some ⟨s, 2, none⟩) := hP 5 (by decide) (by rfl)
    obtain rfl : x6 = .slice pp mo cp := hP 6 (by decide) (by rfl)
    obtain rfl : x7 = .agg #[.int .i64 p0, .int .i64 p1, .int .i64 p2, .int .i64 p3, .int .i64 p4, .int .i64 p5, .int .i64 p6, .int .i64 p7, .int .i64 p8, .int .i64 p9, .int .i64 p10, .int .i64 p11] := hP 7 (by decide) (by rfl)
    obtain rfl : x8 = .pointer (some ⟨s, 4, none⟩) := hP 8 (by decide) (by rfl)
    obtain rfl : x9 = .int .i64 rate := hP 9 (by decide) (by rfl)
    obtain rfl : x10 = .pointer (some ⟨s, 5, none⟩) := hP 10 (by decide) (by rfl)
    obtain rfl : x11 = .int .i64 cap := hP 11 (by decide) (by rfl)
    obtain ⟨g, rfl, HG⟩ : ∃ g, x12 = .agg #[.slice (some ⟨g, 0, none⟩) n n, .int .i64 (mo : Int), .int .i64 p0, .int .i64 p1, .int .i64 p2, .int .i64 p3, .int .i64 p4, .int .i64 p5, .int .i64 p6, .int .i64 p7, .int .i64 p8, .int .i64 p9, .int .i64 p10, .int .i64 p11, .slice none 0 0, .int .i64 rate, .int .i64 cap, .int .i64 0, .slice none 0 0] ∧ Hid (World.ownsRow wq w.heap.size 72 15 (.slice (some ⟨g, 0, none⟩) n n) n ((List.replicate n acc0).flatMap encA)) := hP 12 (by decide) (by rfl)
    obtain ⟨g, q, rfl, HG, HQ, hql⟩ : ∃ g q, x13 = .pointer (some ⟨q, 0, none⟩) ∧ Hid (World.ownsRow wq w.heap.size 72 15 (.slice (some ⟨g, 0, none⟩) n n) n ((List.replicate n acc0).flatMap encA)) ∧ Hid (Box wq q #[.slice (some ⟨g, 0, none⟩) n n, .int .i64 (mo : Int), .int .i64 p0, .int .i64 p1, .int .i64 p2, .int .i64 p3, .int .i64 p4, .int .i64 p5, .int .i64 p6, .int .i64 p7, .int .i64 p8, .int .i64 p9, .int .i64 p10, .int .i64 p11, .slice none 0 0, .int .i64 rate, .int .i64 cap, .int .i64 0, .slice none 0 0] 66) ∧ w.heap.size ≤ q := hP 13 (by decide) (by rfl)
    obtain ⟨g2, q2, rfl, HG2, HQ2, hql2⟩ : ∃ g q, x14 = .pointer (some ⟨q, 0, none⟩) ∧ Hid (World.ownsRow wq w.heap.size 72 15 (.slice (some ⟨g, 0, none⟩) n n) n ((List.replicate n acc0).flatMap encA)) ∧ Hid (Box wq q #[.slice (some ⟨g, 0, none⟩) n n, .int .i64 (mo : Int), .int .i64 p0, .int .i64 p1, .int .i64 p2, .int .i64 p3, .int .i64 p4, .int .i64 p5, .int .i64 p6, .int .i64 p7, .int .i64 p8, .int .i64 p9, .int .i64 p10, .int .i64 p11, .slice none 0 0, .int .i64 rate, .int .i64 cap, .int .i64 0, .slice none 0 0] 66) ∧ w.heap.size ≤ q := hP 14 (by decide) (by rfl)
    have s0 := hS.1
    have sA := hS.2
    clear hP hx hS
    simp only [putD, Act.put, List.setIfInBounds_toArray, List.set_cons_zero, List.set_cons_succ]
    refine rest_done (by kernel_rfl) ?_ _
    have HG := HG2
    have c3 := s0.out.cell 3
    go_upto_region 6 with fail
    have KB : Hid (Box wq q2 #[.slice (some ⟨g2, 0, none⟩) n n, .int .i64 (mo : Int), .int .i64 p0, .int .i64 p1, .int .i64 p2, .int .i64 p3, .int .i64 p4, .int .i64 p5, .int .i64 p6, .int .i64 p7, .int .i64 p8, .int .i64 p9, .int .i64 p10, .int .i64 p11, .slice none 0 0, .int .i64 rate, .int .i64 cap, .int .i64 0, .slice none 0 0] 66) := HQ2
    obtain ⟨j0, hj, hj0, hj1, hj2⟩ := info_parts info_monthly
    have HJ := Lib.hid hj
    have HJ0 := Lib.hid hj0
    have HJ1 := Lib.hid hj1
    have HJ2 := Lib.hid hj2
    clear hj hj0 hj1 hj2 c3 HG2 HQ2 HMP HMK
    go_loopw [30] (fun v30 wr => ∃ (k : Nat) (pm : Option Addr) (d : Nat), k ≤ nm ∧ v30 = .int .i64 k ∧ Hid (Box wr q2 #[.slice (some ⟨g2, 0, none⟩) n n, .int .i64 (mo : Int), .int .i64 p0, .int .i64 p1, .int .i64 p2, .int .i64 p3, .int .i64 p4, .int .i64 p5, .int .i64 p6, .int .i64 p7, .int .i64 p8, .int .i64 p9, .int .i64 p10, .int .i64 p11, .slice pm k d, .int .i64 rate, .int .i64 cap, .int .i64 0, .slice none 0 0] 66) ∧ Hid (World.ownsRow wr w.heap.size 72 15 (.slice (some ⟨g2, 0, none⟩) n n) n ((List.replicate n acc0).flatMap encA)) ∧ Hid (World.ownsRow wr w.heap.size 61 12 (.slice pm k d) k (((moves.take k).map padM).flatMap encM)) ∧ Hid (Adds w wr)) (fun v30 _ => nm - (intOf v30).toNat)
    case atStart => exact ⟨0, none, 0, by omega, rfl, KB, HG, Lib.hid (World.ownsRow_nil _ _ _ _), sA⟩
    case round =>
      obtain ⟨k, pm, d, hk, rfl, RB, RG, RM, RA⟩ := hrel
      clear KB HG s0 sA
      by_cases hlt : k < nm
      · have hlt2 : (k : Int) < (nm : Int) := by omega
        have hk0 : (0 : Int) ≤ (k : Int) := by omega
        obtain ⟨m, hm⟩ : ∃ m, moves[k]? = some m := ⟨_, List.getElem?_eq_getElem (by have := HNM.out; omega)⟩
        have HX := Lib.hid hm
        obtain ⟨g, o, u, e, rfl, hc, hcl⟩ := (HMS.out wr RA.out).get hm
        have HCL := Lib.hid hcl
        have HMR2 := Lib.hid (fun W (hW : CellsAt W u (m.map (Value.int .i64))) => HMR.out m (List.mem_of_getElem? hm) u e W hW)
        obtain ⟨ml, hml⟩ : ∃ l, l = m.length := ⟨_, rfl⟩
        rw [← hml] at hc HMR2
        obtain ⟨r0, r1, r2, r3, r4, r5, r6, r7, r8, r9, r10, r11, hq⟩ := ints12 (padM_len m)
        rw [hq] at HMR2
        simp only [List.map_cons, List.map_nil] at HMR2
        have HQ := Lib.hid hq
        clear hm hml hcl hq
        go_upto_region 8 with fail
        refine wp_region_rulesE (fun i => i == 8 || i == 9 || i == 10 || i == 11) (fun i => i == 0) (fun wq => Hid (Box wq q2 #[.slice (some ⟨g2, 0, none⟩) n n, .int .i64 (mo : Int), .int .i64 p0, .int .i64 p1, .int .i64 p2, .int .i64 p3, .int .i64 p4, .int .i64 p5, .int .i64 p6, .int .i64 p7, .int .i64 p8, .int .i64 p9, .int .i64 p10, .int .i64 p11, .slice pm k d, .int .i64 rate, .int .i64 cap, .int .i64 0, .slice none 0 0] 66) ∧ Hid (Adds wr wq) ∧ Hid (World.ownsRow wq w.heap.size 61 12 (.slice pm k d) k (((moves.take k).map padM).flatMap encM)) ∧ Hid (World.ownsRow wq w.heap.size 72 15 (.slice (some ⟨g2, 0, none⟩) n n) n ((List.replicate n acc0).flatMap encA))) Adds (fun i v wq => match i with | 0 => v = .pointer (some ⟨q2, 0, none⟩) | 1 => v = .pointer (some ⟨q2, 0, none⟩) | 2 => v = .pointer (some ⟨q2, 0, none⟩) | 3 => v = .pointer (some ⟨q2, 14, none⟩) | 4 => v = .slice pm k d | 5 => v = .slice u ml e | 6 => v = .agg #[.int .i64 r0, .int .i64 r1, .int .i64 r2, .int .i64 r3, .int .i64 r4, .int .i64 r5, .int .i64 r6, .int .i64 r7, .int .i64 r8, .int .i64 r9, .int .i64 r10, .int .i64 r11] | 7 => ∃ t, v = .slice (some ⟨t, 0, none⟩) 1 1 ∧ Hid (Box wq t #[.int .i64 r0, .int .i64 r1, .int .i64 r2, .int .i64 r3, .int .i64 r4, .int .i64 r5, .int .i64 r6, .int .i64 r7, .int .i64 r8, .int .i64 r9, .int .i64 r10, .int .i64 r11] 61) | _ => True) (fun _ _ _ _ => True) (by kernel_rfl) (by kernel_rfl) (by kernel_rfl) (by kernel_rfl) 12 (by kernel_rfl) [some 34, some 35, some 36, some 37, some 38, some 39, some 40, some 41, some 42, some 43, some 44, none] (by kernel_rfl) ?hS ?hstab ?hrules ?hrest
        case hS => exact ⟨Lib.hid RB.out.drew, Lib.hid (Adds.refl wr).drew, Lib.hid (own_drawn RM.out), Lib.hid (own_drawn RG.out)⟩
        case hstab =>
          intro j v w1 w2 hst _ h
          match j, h with
          | 7, h => exact h.elim fun t e => ⟨t, e.1, Lib.hid (e.2.out.later hst)⟩
          | 0, h => exact h
          | 1, h => exact h
          | 2, h => exact h
          | 3, h => exact h
          | 4, h => exact h
          | 5, h => exact h
          | 6, h => exact h
          | 8, h => trivial
          | 9, h => trivial
          | 10, h => trivial
          | 11, h => trivial
          | _ + 12, h => trivial
        case hrules =>
          refine rules_cons (n := 12) (ds := [some 34, some 35, some 36, some 37, some 38, some 39, some 40, some 41, some 42, some 43, some 44, none]) (by kernel_rfl) (by kernel_rfl) [] rfl (by kernel_rfl) ?_ ?_
          · intro x wq hx hS hdep K hK
            obtain ⟨x0, x1, x2, x3, x4, x5, x6, x7, x8, x9, x10, x11, rfl⟩ := len12 hx
            have s0 := hS.1
            have sA := hS.2.1
            have sR := hS.2.2.1
            have sG := hS.2.2.2
            clear hdep hx hS
            simp only [putD, Act.put, List.setIfInBounds_toArray, List.set_cons_zero, List.set_cons_succ]
            go_simp
            have hk := hK.out (.pointer (some ⟨q2, 0, none⟩)) _ (Adds.refl wq) ⟨s0, sA, sR, sG⟩ rfl (fun _ _ _ _ => ⟨trivial, trivial⟩)
            simp only [putD, Act.put, List.setIfInBounds_toArray, List.set_cons_zero, List.set_cons_succ] at hk
            exact hk
          refine rules_cons (n := 12) (ds := [some 34, some 35, some 36, some 37, some 38, some 39, some 40, some 41, some 42, some 43, some 44, none]) (by kernel_rfl) (by kernel_rfl) [] rfl (by kernel_rfl) ?_ ?_
          · intro x wq hx hS hdep K hK
            obtain ⟨x0, x1, x2, x3, x4, x5, x6, x7, x8, x9, x10, x11, rfl⟩ := len12 hx
            have s0 := hS.1
            have sA := hS.2.1
            have sR := hS.2.2.1
            have sG := hS.2.2.2
            clear hdep hx hS
            simp only [putD, Act.put, List.setIfInBounds_toArray, List.set_cons_zero, List.set_cons_succ]
            go_simp
            have hk := hK.out (.pointer (some ⟨q2, 0, none⟩)) _ (Adds.refl wq) ⟨s0, sA, sR, sG⟩ rfl (fun _ _ _ _ => ⟨trivial, trivial⟩)
            simp only [putD, Act.put, List.setIfInBounds_toArray, List.set_cons_zero, List.set_cons_succ] at hk
            exact hk
          refine rules_cons (n := 12) (ds := [some 34, some 35, some 36, some 37, some 38, some 39, some 40, some 41, some 42, some 43, some 44, none]) (by kernel_rfl) (by kernel_rfl) [1] rfl (by kernel_rfl) ?_ ?_
          · intro x wq hx hS hdep K hK
            obtain ⟨x0, x1, x2, x3, x4, x5, x6, x7, x8, x9, x10, x11, rfl⟩ := len12 hx
            obtain rfl : x1 = .pointer (some ⟨q2, 0, none⟩) := hdep 1 (by simp)
            have s0 := hS.1
            have sA := hS.2.1
            have sR := hS.2.2.1
            have sG := hS.2.2.2
            clear hdep hx hS
            simp only [putD, Act.put, List.setIfInBounds_toArray, List.set_cons_zero, List.set_cons_succ]
            go_simp
            have hk := hK.out (.pointer (some ⟨q2, 0, none⟩)) _ (Adds.refl wq) ⟨s0, sA, sR, sG⟩ rfl (fun _ _ _ _ => ⟨trivial, trivial⟩)
            simp only [putD, Act.put, List.setIfInBounds_toArray, List.set_cons_zero, List.set_cons_succ] at hk
            exact hk
          refine rules_cons (n := 12) (ds := [some 34, some 35, some 36, some 37, some 38, some 39, some 40, some 41, some 42, some 43, some 44, none]) (by kernel_rfl) (by kernel_rfl) [2] rfl (by kernel_rfl) ?_ ?_
          · intro x wq hx hS hdep K hK
            obtain ⟨x0, x1, x2, x3, x4, x5, x6, x7, x8, x9, x10, x11, rfl⟩ := len12 hx
            obtain rfl : x2 = .pointer (some ⟨q2, 0, none⟩) := hdep 2 (by simp)
            have s0 := hS.1
            have sA := hS.2.1
            have sR := hS.2.2.1
            have sG := hS.2.2.2
            clear hdep hx hS
            simp only [putD, Act.put, List.setIfInBounds_toArray, List.set_cons_zero, List.set_cons_succ]
            go_simp
            have hk := hK.out (.pointer (some ⟨q2, 14, none⟩)) _ (Adds.refl wq) ⟨s0, sA, sR, sG⟩ rfl (fun _ _ _ _ => ⟨trivial, trivial⟩)
            simp only [putD, Act.put, List.setIfInBounds_toArray, List.set_cons_zero, List.set_cons_succ] at hk
            exact hk
          refine rules_cons (n := 12) (ds := [some 34, some 35, some 36, some 37, some 38, some 39, some 40, some 41, some 42, some 43, some 44, none]) (by kernel_rfl) (by kernel_rfl) [3] rfl (by kernel_rfl) ?_ ?_
          · intro x wq hx hS hdep K hK
            obtain ⟨x0, x1, x2, x3, x4, x5, x6, x7, x8, x9, x10, x11, rfl⟩ := len12 hx
            obtain rfl : x3 = .pointer (some ⟨q2, 14, none⟩) := hdep 3 (by simp)
            have s0 := hS.1
            have sA := hS.2.1
            have sR := hS.2.2.1
            have sG := hS.2.2.2
            clear hdep hx hS
            simp only [putD, Act.put, List.setIfInBounds_toArray, List.set_cons_zero, List.set_cons_succ]
            have c0 := s0.out.cell 14
            go_simp
            have hk := hK.out (.slice pm k d) _ (Adds.refl wq) ⟨s0, sA, sR, sG⟩ rfl (fun _ _ _ _ => ⟨trivial, trivial⟩)
            simp only [putD, Act.put, List.setIfInBounds_toArray, List.set_cons_zero, List.set_cons_succ] at hk
            exact hk
          refine rules_cons (n := 12) (ds := [some 34, some 35, some 36, some 37, some 38, some 39, some 40, some 41, some 42, some 43, some 44, none]) (by kernel_rfl) (by kernel_rfl) [] rfl (by kernel_rfl) ?_ ?_
          · intro x wq hx hS hdep K hK
            obtain ⟨x0, x1, x2, x3, x4, x5, x6, x7, x8, x9, x10, x11, rfl⟩ := len12 hx
            have s0 := hS.1
            have sA := hS.2.1
            have sR := hS.2.2.1
            have sG := hS.2.2.2
            clear hdep hx hS
            simp only [putD, Act.put, List.setIfInBounds_toArray, List.set_cons_zero, List.set_cons_succ]
            go_simp
            have hk := hK.out (.slice u ml e) _ (Adds.refl wq) ⟨s0, sA, sR, sG⟩ rfl (fun _ _ _ _ => ⟨trivial, trivial⟩)
            simp only [putD, Act.put, List.setIfInBounds_toArray, List.set_cons_zero, List.set_cons_succ] at hk
            exact hk
          refine rules_cons (n := 12) (ds := [some 34, some 35, some 36, some 37, some 38, some 39, some 40, some 41, some 42, some 43, some 44, none]) (by kernel_rfl) (by kernel_rfl) [5] rfl (by kernel_rfl) ?_ ?_
          · intro x wq hx hS hdep K hK
            obtain ⟨x0, x1, x2, x3, x4, x5, x6, x7, x8, x9, x10, x11, rfl⟩ := len12 hx
            obtain rfl : x5 = .slice u ml e := hdep 5 (by simp)
            have s0 := hS.1
            have sA := hS.2.1
            have sR := hS.2.2.1
            have sG := hS.2.2.2
            clear hdep hx hS
            simp only [putD, Act.put, List.setIfInBounds_toArray, List.set_cons_zero, List.set_cons_succ]
            go_simp
            go_at_call 19
            refine (HMR2.out _ (HCL.out.later sA.out)).mono ?_
            rintro e w2 ⟨rfl, ha⟩
            have hk := hK.out (.agg #[.int .i64 r0, .int .i64 r1, .int .i64 r2, .int .i64 r3, .int .i64 r4, .int .i64 r5, .int .i64 r6, .int .i64 r7, .int .i64 r8, .int .i64 r9, .int .i64 r10, .int .i64 r11]) _ ha ⟨Lib.hid (s0.out.later ha), Lib.hid (sA.out.trans ha), Lib.hid (own_later sR.out ha), Lib.hid (own_later sG.out ha)⟩ rfl (fun _ _ _ _ => ⟨trivial, trivial⟩)
            simp only [putD, Act.put, List.setIfInBounds_toArray, List.set_cons_zero, List.set_cons_succ] at hk
            exact hk
          refine rules_cons (n := 12) (ds := [some 34, some 35, some 36, some 37, some 38, some 39, some 40, some 41, some 42, some 43, some 44, none]) (by kernel_rfl) (by kernel_rfl) [6] rfl (by kernel_rfl) ?_ ?_
          · intro x wq hx hS hdep K hK
            obtain ⟨x0, x1, x2, x3, x4, x5, x6, x7, x8, x9, x10, x11, rfl⟩ := len12 hx
            obtain rfl : x6 = .agg #[.int .i64 r0, .int .i64 r1, .int .i64 r2, .int .i64 r3, .int .i64 r4, .int .i64 r5, .int .i64 r6, .int .i64 r7, .int .i64 r8, .int .i64 r9, .int .i64 r10, .int .i64 r11] := hdep 6 (by simp)
            have s0 := hS.1
            have sA := hS.2.1
            have sR := hS.2.2.1
            have sG := hS.2.2.2
            clear hdep hx hS
            simp only [putD, Act.put, List.setIfInBounds_toArray, List.set_cons_zero, List.set_cons_succ]
            go_simp
            have hk := hK.out (.slice (some ⟨wq.heap.size, 0, none⟩) 1 1) _ ((Adds.refl wq).alloc _) ⟨Lib.hid (s0.out.alloc _), Lib.hid (sA.out.alloc _), Lib.hid (own_allocd sR.out _), Lib.hid (own_allocd sG.out _)⟩ ⟨wq.heap.size, rfl, Lib.hid (Box.new _ _ _)⟩ (fun _ _ _ _ => ⟨trivial, trivial⟩)
            simp only [putD, Act.put, List.setIfInBounds_toArray, List.set_cons_zero, List.set_cons_succ] at hk
            exact hk
          refine rules_skip rfl ?_
          refine rules_skip rfl ?_
          refine rules_skip rfl ?_
          refine rules_skip rfl ?_
          exact rules_nil
        case hrest =>
          intro x wq L hx hS hLs hLT hLF hP hR
          obtain ⟨x0, x1, x2, x3, x4, x5, x6, x7, x8, x9, x10, x11, rfl⟩ := len12 hx
          obtain ⟨l0, l1, l2, l3, l4, l5, l6, l7, l8, l9, l10, l11, rfl⟩ := arr12 hLs
          obtain rfl : l1 = true := hLT 1 (by decide) rfl rfl
          obtain rfl : l2 = true := hLT 2 (by decide) rfl rfl
          obtain rfl : l3 = true := hLT 3 (by decide) rfl rfl
          obtain rfl : l4 = true := hLT 4 (by decide) rfl rfl
          obtain rfl : l5 = true := hLT 5 (by decide) rfl rfl
          obtain rfl : l6 = true := hLT 6 (by decide) rfl rfl
          obtain rfl : l7 = true := hLT 7 (by decide) rfl rfl
          obtain rfl : l8 = false := by cases hq : l8 with | false => rfl | true => (subst hq; exact absurd (hLF 8 rfl) (by decide))
          obtain rfl : l9 = false := by cases hq : l9 with | false => rfl | true => (subst hq; exact absurd (hLF 9 rfl) (by decide))
          obtain rfl : l10 = false := by cases hq : l10 with | false => rfl | true => (subst hq; exact absurd (hLF 10 rfl) (by decide))
          obtain rfl : l11 = false := by cases hq : l11 with | false => rfl | true => (subst hq; exact absurd (hLF 11 rfl) (by decide))
          obtain rfl : x1 = .pointer (some ⟨q2, 0, none⟩) := hP 1 rfl
          obtain rfl : x2 = .pointer (some ⟨q2, 0, none⟩) := hP 2 rfl
          obtain rfl : x3 = .pointer (some ⟨q2, 14, none⟩) := hP 3 rfl
          obtain rfl : x4 = .slice pm k d := hP 4 rfl
          obtain rfl : x5 = .slice u ml e := hP 5 rfl
          obtain rfl : x6 = .agg #[.int .i64 r0, .int .i64 r1, .int .i64 r2, .int .i64 r3, .int .i64 r4, .int .i64 r5, .int .i64 r6, .int .i64 r7, .int .i64 r8, .int .i64 r9, .int .i64 r10, .int .i64 r11] := hP 6 rfl
          obtain ⟨t, rfl, HT⟩ : ∃ t, x7 = .slice (some ⟨t, 0, none⟩) 1 1 ∧ Hid (Box wq t #[.int .i64 r0, .int .i64 r1, .int .i64 r2, .int .i64 r3, .int .i64 r4, .int .i64 r5, .int .i64 r6, .int .i64 r7, .int .i64 r8, .int .i64 r9, .int .i64 r10, .int .i64 r11] 61) := hP 7 rfl
          have s0 := hS.1
          have sA := hS.2.1
          have sR := hS.2.2.1
          have sG := hS.2.2.2
          clear hx hS hLs hLT hLF
          have HMX : Hid (k ≤ 64) := Lib.hid (by omega)
          have HBQ := s0.out.lt
          cases l0 with
          | true =>
            obtain rfl : x0 = .pointer (some ⟨q2, 0, none⟩) := hP 0 rfl
            clear hP hR
            simp only [putD, Act.put, List.setIfInBounds_toArray, List.set_cons_zero, List.set_cons_succ]
            rw [show 12 - cntN #[true, true, true, true, true, true, true, true, false, false, false, false] = 4 by kernel_rfl]
            refine rest_loud (i := 8) (o := ⟨some 42, _, _, _, _, _⟩) (by kernel_rfl) rfl (fun K hK => ?_)
            refine wp_append_lies _ _ _ 63 rfl w.heap.size 61 j0 (.agg zero12) 12 96 Try.underlying63 HJ.out HJ0.out HJ1.out HJ2.out rfl (by decide) (.slice pm k d) k (((moves.take k).map padM).flatMap encM) rfl sR.out ⟨t, 0, none⟩ 1 1 [.int .i64 r0, .int .i64 r1, .int .i64 r2, .int .i64 r3, .int .i64 r4, .int .i64 r5, .int .i64 r6, .int .i64 r7, .int .i64 r8, .int .i64 r9, .int .i64 r10, .int .i64 r11] rfl rfl (World.news_of_block HT.out) (by simp [Value.oneCell']) (by omega) (by have := HMX.out; unfold maxLen; omega) (by have := HMX.out; omega) (RA.out.trans sA.out).size _ rfl ?_
            intro g7 c7 w7 ho hg hor hl7
            have hne : (Value.slice pm k d).ownBlock ≠ some q2 := fun e => by
              obtain ⟨_, cur, hcur⟩ := own_block sR.out e
              have hb2 := s0.out
              unfold Box at hb2
              rw [hb2] at hcur
              simp only [Option.some.injEq, Obj.cells.injEq] at hcur
              exact absurd hcur.2.1 (by decide)
            have hb7 := box_grow s0.out hg hne
            have c14 := hb7.cell 14
            have f14 := hb7.free 14
            have HB7 := Lib.hid hb7
            have HO7 := Lib.hid ho
            have HA7 : Hid (Adds w w7) := Lib.hid (Below.grown (RA.out.trans sA.out) hg (by omega) (fun j hj => (own_block sR.out hj).1))
            have HG7 := Lib.hid (own_apart sG.out hg (fun j hj => (own_block sR.out hj).2) (by decide))
            clear ho hg hor hl7 hne hb7
            refine hK.out _ _ ?_
            clear hK K
            try simp only [Act.put, List.setIfInBounds_toArray, List.set_cons_zero, List.set_cons_succ]
            refine rest_loud (i := 9) (o := ⟨some 43, _, _, _, _, _⟩) (by kernel_rfl) rfl (fun K hK => ?_)
            go_simp
            refine hK.out _ _ ?_
            clear hK K
            try simp only [List.setIfInBounds_toArray, List.set_cons_zero, List.set_cons_succ]
            refine rest_loud (i := 10) (o := ⟨some 44, _, _, _, _, _⟩) (by kernel_rfl) rfl (fun K hK => ?_)
            go_simp
            refine hK.out _ _ ?_
            clear hK K
            try simp only [List.setIfInBounds_toArray, List.set_cons_zero, List.set_cons_succ]
            refine rest_loud (i := 11) (o := ⟨none, _, _, _, _, _⟩) (by kernel_rfl) rfl (fun K hK => ?_)
            go_simp
            refine hK.out _ _ ?_
            clear hK K
            try simp only [List.setIfInBounds_toArray, List.set_cons_zero, List.set_cons_succ]
            refine rest_done (by kernel_rfl) ?_ _
            go_wp2
            refine ⟨⟨k + 1, some ⟨g7, 0, none⟩, c7, by omega, by go_num, Lib.hid ?_, Lib.hid ?_, Lib.hid ?_, Lib.hid ?_⟩, by simp [intOf]; omega⟩
            · exact HB7.out.set 14 _
            · exact own_heap HG7.out HB7.out (by decide) (fun k hk => Below.heap_setCell w7 _ _ k hk)
            · have ho := own_heap (w' := w7.setCell ⟨q2, 14, none⟩ (.slice (some ⟨g7, 0, none⟩) (k + 1) c7)) HO7.out HB7.out (by decide) (fun kk hk => Below.heap_setCell w7 _ _ kk hk)
              have e : ((moves.take (k + 1)).map padM).flatMap encM = ((moves.take k).map padM).flatMap encM ++ [.int .i64 r0, .int .i64 r1, .int .i64 r2, .int .i64 r3, .int .i64 r4, .int .i64 r5, .int .i64 r6, .int .i64 r7, .int .i64 r8, .int .i64 r9, .int .i64 r10, .int .i64 r11] := by
                obtain ⟨h1, h2⟩ := List.getElem?_eq_some_iff.1 HX.out
                rw [List.take_succ_eq_append_getElem h1, h2, List.map_append, List.flatMap_append]
                congr 1
                simp only [List.map_cons, List.map_nil, List.flatMap_cons, List.flatMap_nil, List.append_nil]
                rw [HQ.out]
                rfl
              rw [e]
              exact ho
            · exact HA7.out.set (p := ⟨q2, 14, none⟩) hql2 _
          | false =>
            clear hP hR
            simp only [putD, Act.put, List.setIfInBounds_toArray, List.set_cons_zero, List.set_cons_succ]
            rw [show 12 - cntN #[false, true, true, true, true, true, true, true, false, false, false, false] = 5 by kernel_rfl]
            refine rest_two (i := 0) (j := 8) (o := ⟨some 34, _, _, _, _, _⟩) (o2 := ⟨some 42, _, _, _, _, _⟩) (by kernel_rfl) rfl rfl (fun K hK => ?_) (fun K hK => ?_)
            · go_simp
              refine hK.out _ _ ?_
              clear hK K
              try simp only [List.setIfInBounds_toArray, List.set_cons_zero]
              refine rest_loud (i := 8) (o := ⟨some 42, _, _, _, _, _⟩) (by kernel_rfl) rfl (fun K hK => ?_)
              refine wp_append_lies _ _ _ 63 rfl w.heap.size 61 j0 (.agg zero12) 12 96 Try.underlying63 HJ.out HJ0.out HJ1.out HJ2.out rfl (by decide) (.slice pm k d) k (((moves.take k).map padM).flatMap encM) rfl sR.out ⟨t, 0, none⟩ 1 1 [.int .i64 r0, .int .i64 r1, .int .i64 r2, .int .i64 r3, .int .i64 r4, .int .i64 r5, .int .i64 r6, .int .i64 r7, .int .i64 r8, .int .i64 r9, .int .i64 r10, .int .i64 r11] rfl rfl (World.news_of_block HT.out) (by simp [Value.oneCell']) (by omega) (by have := HMX.out; unfold maxLen; omega) (by have := HMX.out; omega) (RA.out.trans sA.out).size _ rfl ?_
              intro g7 c7 w7 ho hg hor hl7
              have hne : (Value.slice pm k d).ownBlock ≠ some q2 := fun e => by
                obtain ⟨_, cur, hcur⟩ := own_block sR.out e
                have hb2 := s0.out
                unfold Box at hb2
                rw [hb2] at hcur
                simp only [Option.some.injEq, Obj.cells.injEq] at hcur
                exact absurd hcur.2.1 (by decide)
              have hb7 := box_grow s0.out hg hne
              have c14 := hb7.cell 14
              have f14 := hb7.free 14
              have HB7 := Lib.hid hb7
              have HO7 := Lib.hid ho
              have HA7 : Hid (Adds w w7) := Lib.hid (Below.grown (RA.out.trans sA.out) hg (by omega) (fun j hj => (own_block sR.out hj).1))
              have HG7 := Lib.hid (own_apart sG.out hg (fun j hj => (own_block sR.out hj).2) (by decide))
              clear ho hg hor hl7 hne hb7
              refine hK.out _ _ ?_
              clear hK K
              try simp only [Act.put, List.setIfInBounds_toArray, List.set_cons_zero, List.set_cons_succ]
              refine rest_loud (i := 9) (o := ⟨some 43, _, _, _, _, _⟩) (by kernel_rfl) rfl (fun K hK => ?_)
              go_simp
              refine hK.out _ _ ?_
              clear hK K
              try simp only [List.setIfInBounds_toArray, List.set_cons_zero, List.set_cons_succ]
              refine rest_loud (i := 10) (o := ⟨some 44, _, _, _, _, _⟩) (by kernel_rfl) rfl (fun K hK => ?_)
              go_simp
              refine hK.out _ _ ?_
              clear hK K
              try simp only [List.setIfInBounds_toArray, List.set_cons_zero, List.set_cons_succ]
              refine rest_loud (i := 11) (o := ⟨none, _, _, _, _, _⟩) (by kernel_rfl) rfl (fun K hK => ?_)
              go_simp
              refine hK.out _ _ ?_
              clear hK K
              try simp only [List.setIfInBounds_toArray, List.set_cons_zero, List.set_cons_succ]
              refine rest_done (by kernel_rfl) ?_ _
              go_wp2
              refine ⟨⟨k + 1, some ⟨g7, 0, none⟩, c7, by omega, by go_num, Lib.hid ?_, Lib.hid ?_, Lib.hid ?_, Lib.hid ?_⟩, by simp [intOf]; omega⟩
              · exact HB7.out.set 14 _
              · exact own_heap HG7.out HB7.out (by decide) (fun k hk => Below.heap_setCell w7 _ _ k hk)
              · have ho := own_heap (w' := w7.setCell ⟨q2, 14, none⟩ (.slice (some ⟨g7, 0, none⟩) (k + 1) c7)) HO7.out HB7.out (by decide) (fun kk hk => Below.heap_setCell w7 _ _ kk hk)
                have e : ((moves.take (k + 1)).map padM).flatMap encM = ((moves.take k).map padM).flatMap encM ++ [.int .i64 r0, .int .i64 r1, .int .i64 r2, .int .i64 r3, .int .i64 r4, .int .i64 r5, .int .i64 r6, .int .i64 r7, .int .i64 r8, .int .i64 r9, .int .i64 r10, .int .i64 r11] := by
                  obtain ⟨h1, h2⟩ := List.getElem?_eq_some_iff.1 HX.out
                  rw [List.take_succ_eq_append_getElem h1, h2, List.map_append, List.flatMap_append]
                  congr 1
                  simp only [List.map_cons, List.map_nil, List.flatMap_cons, List.flatMap_nil, List.append_nil]
                  rw [HQ.out]
                  rfl
                rw [e]
                exact ho
              · exact HA7.out.set (p := ⟨q2, 14, none⟩) hql2 _
            · refine wp_append_lies _ _ _ 63 rfl w.heap.size 61 j0 (.agg zero12) 12 96 Try.underlying63 HJ.out HJ0.out HJ1.out HJ2.out rfl (by decide) (.slice pm k d) k (((moves.take k).map padM).flatMap encM) rfl sR.out ⟨t, 0, none⟩ 1 1 [.int .i64 r0, .int .i64 r1, .int .i64 r2, .int .i64 r3, .int .i64 r4, .int .i64 r5, .int .i64 r6, .int .i64 r7, .int .i64 r8, .int .i64 r9, .int .i64 r10, .int .i64 r11] rfl rfl (World.news_of_block HT.out) (by simp [Value.oneCell']) (by omega) (by have := HMX.out; unfold maxLen; omega) (by have := HMX.out; omega) (RA.out.trans sA.out).size _ rfl ?_
              intro g7 c7 w7 ho hg hor hl7
              have hne : (Value.slice pm k d).ownBlock ≠ some q2 := fun e => by
                obtain ⟨_, cur, hcur⟩ := own_block sR.out e
                have hb2 := s0.out
                unfold Box at hb2
                rw [hb2] at hcur
                simp only [Option.some.injEq, Obj.cells.injEq] at hcur
                exact absurd hcur.2.1 (by decide)
              have hb7 := box_grow s0.out hg hne
              have c14 := hb7.cell 14
              have f14 := hb7.free 14
              have HB7 := Lib.hid hb7
              have HO7 := Lib.hid ho
              have HA7 : Hid (Adds w w7) := Lib.hid (Below.grown (RA.out.trans sA.out) hg (by omega) (fun j hj => (own_block sR.out hj).1))
              have HG7 := Lib.hid (own_apart sG.out hg (fun j hj => (own_block sR.out hj).2) (by decide))
              clear ho hg hor hl7 hne hb7
              refine hK.out _ _ ?_
              clear hK K
              try simp only [Act.put, List.setIfInBounds_toArray, List.set_cons_zero, List.set_cons_succ]
              refine rest_loud (i := 0) (o := ⟨some 34, _, _, _, _, _⟩) (by kernel_rfl) rfl (fun K hK => ?_)
              go_simp
              refine hK.out _ _ ?_
              clear hK K
              try simp only [List.setIfInBounds_toArray, List.set_cons_zero]
              refine rest_loud (i := 9) (o := ⟨some 43, _, _, _, _, _⟩) (by kernel_rfl) rfl (fun K hK => ?_)
              go_simp
              refine hK.out _ _ ?_
              clear hK K
              try simp only [List.setIfInBounds_toArray, List.set_cons_zero, List.set_cons_succ]
              refine rest_loud (i := 10) (o := ⟨some 44, _, _, _, _, _⟩) (by kernel_rfl) rfl (fun K hK => ?_)
              go_simp
              refine hK.out _ _ ?_
              clear hK K
              try simp only [List.setIfInBounds_toArray, List.set_cons_zero, List.set_cons_succ]
              refine rest_loud (i := 11) (o := ⟨none, _, _, _, _, _⟩) (by kernel_rfl) rfl (fun K hK => ?_)
              go_simp
              refine hK.out _ _ ?_
              clear hK K
              try simp only [List.setIfInBounds_toArray, List.set_cons_zero, List.set_cons_succ]
              refine rest_done (by kernel_rfl) ?_ _
              go_wp2
              refine ⟨⟨k + 1, some ⟨g7, 0, none⟩, c7, by omega, by go_num, Lib.hid ?_, Lib.hid ?_, Lib.hid ?_, Lib.hid ?_⟩, by simp [intOf]; omega⟩
              · exact HB7.out.set 14 _
              · exact own_heap HG7.out HB7.out (by decide) (fun k hk => Below.heap_setCell w7 _ _ k hk)
              · have ho := own_heap (w' := w7.setCell ⟨q2, 14, none⟩ (.slice (some ⟨g7, 0, none⟩) (k + 1) c7)) HO7.out HB7.out (by decide) (fun kk hk => Below.heap_setCell w7 _ _ kk hk)
                have e : ((moves.take (k + 1)).map padM).flatMap encM = ((moves.take k).map padM).flatMap encM ++ [.int .i64 r0, .int .i64 r1, .int .i64 r2, .int .i64 r3, .int .i64 r4, .int .i64 r5, .int .i64 r6, .int .i64 r7, .int .i64 r8, .int .i64 r9, .int .i64 r10, .int .i64 r11] := by
                  obtain ⟨h1, h2⟩ := List.getElem?_eq_some_iff.1 HX.out
                  rw [List.take_succ_eq_append_getElem h1, h2, List.map_append, List.flatMap_append]
                  congr 1
                  simp only [List.map_cons, List.map_nil, List.flatMap_cons, List.flatMap_nil, List.append_nil]
                  rw [HQ.out]
                  rfl
                rw [e]
                exact ho
              · exact HA7.out.set (p := ⟨q2, 14, none⟩) hql2 _
      · have hkn : k = nm := by omega
        subst hkn
        go_wp2
        go_ret2
        have hT : moves.take k = moves := by rw [HNM.out, List.take_length]
        refine ⟨q2, g2, n, pm, d, rfl, ⟨?_, ?_, ?_, .inl (World.ownsRow_nil _ _ _ _), hql2⟩, World.ownsRow_nil _ _ _ _, RA.out⟩
        · have hb := RB.out
          unfold houseCells
          simp only [List.length_replicate, List.length_map, ← HNM.out]
          exact hb
        · simp only [List.length_replicate]
          exact RG.out
        · have hm := RM.out
          rw [hT] at hm
          simp only [List.length_map, ← HNM.out]
          exact hm

end Go.Proofs.Ytmkpidipoadnbaa
