/- Fit, Gain and At of the reference. -/
import Derived.Test.YtigpghmbeldakaaAG
namespace Go.Proofs.Ytigpghmbeldakaa
open Go.RowKit

/-- Fills fit bids. -/
def fitT (l : List Bd) (F : List Int) : Bool := decide (F.length = l.length) && (l.zip F).all fitB

set_option maxRecDepth 100000 in
set_option maxHeartbeats 2000000 in
theorem RFit_any (p : Option Addr) (cap : Nat) (l : List Bd) (q : Option Addr) (cap2 : Nat) (F : List Int) (w : World) (hN : l.length ≤ 5000) (hFN : F.length ≤ 5000) (hL : At3 w p l) (hF : At1 .i64 w q F) :
    Calls Try.prog 32 #[.slice p l.length cap, .slice q F.length cap2] w fun e w' => e = .returned (.bool (fitT l F)) ∧ Adds w w' := by
  have HL := Lib.hid hL
  have HF := Lib.hid hF
  by_cases hlen : F.length = l.length
  · obtain ⟨N, hNl⟩ : ∃ N, N = l.length := ⟨_, rfl⟩
    have hFl : F.length = N := by omega
    have HE : Hid (fitT l F = (l.zip F).all fitB) := Lib.hid (by unfold fitT; rw [decide_eq_true hlen, Bool.true_and])
    rw [HE.out, hFl, ← hNl]
    have HN := Lib.hid hNl
    have HFL := Lib.hid hFl
    have HZL : Hid ((l.zip F).length = N) := Lib.hid (by rw [List.length_zip]; omega)
    have hN5 : N ≤ 5000 := by omega
    clear hL hF hN hFN hlen hNl hFl HE
    go_enter Try.func32, Try.ntmps32
    go_wp2
    go_loopw [5] (fun i wr => ∃ k : Nat, k ≤ N ∧ i = .int .i64 k ∧ Hid (((l.zip F).take k).all fitB = true) ∧ Adds w wr) (fun i _ => N - (intOf i).toNat)
    case atStart => exact ⟨0, by omega, rfl, Lib.hid (by simp), Adds.refl w⟩
    case round =>
      obtain ⟨k, hk, rfl, hall, hb⟩ := hrel
      by_cases hlt : k < N
      · obtain ⟨⟨s, pp, qq⟩, hb3⟩ : ∃ t, l[k]? = some t := ⟨_, List.getElem?_eq_getElem (by have := HN.out; omega)⟩
        obtain ⟨x, hb4⟩ : ∃ t, F[k]? = some t := ⟨_, List.getElem?_eq_getElem (by have := HFL.out; omega)⟩
        obtain ⟨gg, off, rfl, d0, d1, d2⟩ := HL.out k _ hb3
        obtain ⟨g2, off2, rfl, e0⟩ := HF.out k _ hb4
        have c0 := keep_cell hb d0
        have c1 := keep_cell hb d1
        have c2 := keep_cell hb d2
        have cx := keep_cell hb e0
        have hzip : (l.zip F)[k]? = some ((s, pp, qq), x) := by rw [List.getElem?_zip_eq_some]; exact ⟨hb3, hb4⟩
        have HTN := Lib.hid (take_next hzip)
        have HMZ := Lib.hid (List.mem_of_getElem? hzip)
        simp only at c0 c1 c2
        have HB := Lib.hid hb
        clear d0 d1 d2 e0 hb3 hb4 hzip hb
        go_upto_region 6 with fail
        by_cases hx0 : x < 0
        · have hd : decide (x < 0) = true := decide_eq_true hx0
          have HNF : Hid ((l.zip F).all fitB = false) := Lib.hid (by
            rw [List.all_eq_false]
            exact ⟨_, HMZ.out, by simp only [fitB, decide_eq_true_eq]; omega⟩)
          go_quiet (fail)
          go_wp2
          go_ret
          exact ⟨ret_bool HNF.out.symm, HB.out.drewN _⟩
        · have hd : decide (x < 0) = false := decide_eq_false hx0
          by_cases hxq : qq < x
          · have hd2 : decide (qq < x) = true := decide_eq_true hxq
            have HNF : Hid ((l.zip F).all fitB = false) := Lib.hid (by
              rw [List.all_eq_false]
              exact ⟨_, HMZ.out, by simp only [fitB, decide_eq_true_eq]; omega⟩)
            go_quiet (fail)
            go_wp2
            go_ret
            exact ⟨ret_bool HNF.out.symm, HB.out.drewN _⟩
          · have hd2 : decide (qq < x) = false := decide_eq_false hxq
            have HFI : Hid (((l.zip F).take (k + 1)).all fitB = true) := Lib.hid (by
              rw [HTN.out, List.all_append, hall.out]
              simp [fitB]
              omega)
            go_quiet (fail)
            go_wp2
            refine ⟨⟨k + 1, by omega, by go_num, HFI, HB.out.drewN _⟩, by simp [intOf]; omega⟩
      · have HE : Hid ((l.zip F).all fitB = true) := Lib.hid (by
          have := hall.out
          rw [List.take_of_length_le (by rw [HZL.out]; omega)] at this
          exact this)
        go_wp2
        go_ret
        exact ⟨ret_bool HE.out.symm, hb⟩
  · have HE : Hid (fitT l F = false) := Lib.hid (by unfold fitT; rw [decide_eq_false hlen, Bool.false_and])
    rw [HE.out]
    have hne : ((F.length : Int) == (l.length : Int)) = false := beq_eq_false_iff_ne.2 (by omega)
    have hne2 : ((F.length : Int) != (l.length : Int)) = true := by simp [bne, hne]
    generalize F.length = M at *
    generalize l.length = N at *
    clear hL hF HL HF HE
    go_enter Try.func32, Try.ntmps32
    go_wp2
    go_ret
    exact ⟨rfl, Adds.refl w⟩

set_option maxRecDepth 100000 in
set_option maxHeartbeats 4000000 in
theorem RGain_any (p : Option Addr) (cap : Nat) (l : List Bd) (q : Option Addr) (cap2 : Nat) (F : List Int) (w : World) (hN : l.length ≤ 4096) (hL : At3 w p l) (hF : At1 .i64 w q F) (hok : ∀ b ∈ l, okB b = true) (hfit : fitT l F = true) :
    Calls Try.prog 33 #[.slice p l.length cap, .slice q F.length cap2] w fun e w' => e = .returned (.int .i64 (gainT l F)) ∧ Adds w w' := by
  have HL := Lib.hid hL
  have HF := Lib.hid hF
  have HO := Lib.hid hok
  obtain ⟨hlen, hall⟩ : F.length = l.length ∧ (l.zip F).all fitB = true := by
    unfold fitT at hfit
    rw [Bool.and_eq_true, decide_eq_true_eq] at hfit
    exact hfit
  obtain ⟨N, hNl⟩ : ∃ N, N = l.length := ⟨_, rfl⟩
  have hFl : F.length = N := by omega
  rw [hFl, ← hNl]
  have HN := Lib.hid hNl
  have HFL := Lib.hid hFl
  have HALL := Lib.hid hall
  have HZL : Hid ((l.zip F).length = N) := Lib.hid (by rw [List.length_zip]; omega)
  have hN4 : N ≤ 4096 := by omega
  clear hL hF hN hlen hNl hFl hok hfit hall
  go_enter Try.func33, Try.ntmps33
  go_wp2
  go_loopw [5, 6] (fun g i wr => ∃ k : Nat, k ≤ N ∧ i = .int .i64 k ∧ g = .int .i64 (((l.zip F).take k).map fun p => worthT p.1 p.2).sum ∧ Adds w wr) (fun _ i _ => N - (intOf i).toNat)
  case atStart => exact ⟨0, by omega, rfl, by simp, Adds.refl w⟩
  case round =>
    obtain ⟨k, hk, rfl, rfl, hb⟩ := hrel
    by_cases hlt : k < N
    · obtain ⟨⟨s, pp, qq⟩, hb3⟩ : ∃ t, l[k]? = some t := ⟨_, List.getElem?_eq_getElem (by have := HN.out; omega)⟩
      obtain ⟨x, hb4⟩ : ∃ t, F[k]? = some t := ⟨_, List.getElem?_eq_getElem (by have := HFL.out; omega)⟩
      obtain ⟨gg, off, rfl, d0, d1, d2⟩ := HL.out k _ hb3
      obtain ⟨g2, off2, rfl, e0⟩ := HF.out k _ hb4
      have c0 := keep_cell hb d0
      have c1 := keep_cell hb d1
      have c2 := keep_cell hb d2
      have cx := keep_cell hb e0
      have hzip : (l.zip F)[k]? = some ((s, pp, qq), x) := by rw [List.getElem?_zip_eq_some]; exact ⟨hb3, hb4⟩
      have hv := HO.out _ (List.mem_of_getElem? hb3)
      have hvv := okB_iff.1 hv
      have HTN := Lib.hid (take_next hzip)
      have hfx := List.all_eq_true.1 HALL.out _ (List.mem_of_getElem? hzip)
      simp only [fitB, decide_eq_true_eq] at hfx
      have hgb := gain_bd ((l.zip F).take k) (fun p hp => by
        have hm := List.mem_of_mem_take hp
        have h1 := List.all_eq_true.1 HALL.out p hm
        simp only [fitB, decide_eq_true_eq] at h1
        exact ⟨HO.out _ (List.of_mem_zip hm).1, h1⟩)
      have hgl : ((l.zip F).take k).length ≤ 4096 := by have := List.length_take_le k (l.zip F); omega
      have HS : Hid ((((l.zip F).take (k + 1)).map fun p => worthT p.1 p.2).sum = (((l.zip F).take k).map fun p => worthT p.1 p.2).sum + worthT (s, pp, qq) x) := Lib.hid (by rw [HTN.out]; simp)
      have hw := worth_bd (b := (s, pp, qq)) (x := x) hv ⟨by omega, by simp only; omega⟩
      generalize (((l.zip F).take k).map fun p => worthT p.1 p.2).sum = gs at *
      have g1 : -4096000000000000000 ≤ gs := by omega
      have g2' : gs ≤ 4096000000000000000 := by omega
      have HW2 : Hid (worthT (s, pp, qq) x = if s = 2 then -(pp * x) else pp * x) := Lib.hid rfl
      obtain ⟨m, hm⟩ : ∃ m, m = pp * x := ⟨_, rfl⟩
      rw [← hm] at HW2
      simp only at hw
      rw [← hm] at hw
      obtain ⟨_, _, hw3, hw4⟩ := hw
      have hmul : IntKind.i64.wrap (pp * x) = m := by rw [← hm]; exact IntWalk.i64_in _ (by omega)
      have hmul2 : wrap64 (pp * x) = m := by rw [← hm]; unfold wrap64; omega
      simp only at c0 c1 c2 hvv
      have hklt : (k : Int) < (N : Int) := by omega
      have HB := Lib.hid hb
      clear d0 d1 d2 e0 hb3 hb4 hzip hv hgb hgl hb hm
      rcases hvv.1 with rfl | rfl
      · go_wp2
        go_quiet (fail)
        go_wp2
        refine ⟨⟨k + 1, by omega, by go_num, by rw [HS.out, HW2.out, if_neg (by omega)], HB.out.drewN _⟩, by simp [intOf]; omega⟩
      · go_wp2
        go_quiet (fail)
        go_wp2
        refine ⟨⟨k + 1, by omega, by go_num, by rw [HS.out, HW2.out, if_pos trivial]; exact congrArg _ (by omega), HB.out.drewN _⟩, by simp [intOf]; omega⟩
    · have hkz : (l.zip F).take k = l.zip F := List.take_of_length_le (by rw [HZL.out]; omega)
      have HGT : Hid ((((l.zip F).take k).map fun p => worthT p.1 p.2).sum = gainT l F) := Lib.hid (by rw [hkz]; rfl)
      clear hkz
      go_wp2
      go_ret
      exact ⟨ret_int HGT.out, hb⟩

end Go.Proofs.Ytigpghmbeldakaa
