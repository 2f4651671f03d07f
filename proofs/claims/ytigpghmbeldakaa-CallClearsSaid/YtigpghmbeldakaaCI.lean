/- ClearAt of the reference: its walk. -/
import Derived.Test.YtigpghmbeldakaaML
import Derived.StillTailTactics
import Derived.Deep.DeepCutAuto
import Derived.Deep.CutBlock
namespace Go.Proofs.Ytigpghmbeldakaa
open Go.RowKit

/-- Where things lie in ClearAt of the reference. -/
structure LayC (w wr : World) (g o b N : Nat) (px V sr : Int) (F : List Int) : Prop where
  adds : Adds w wr
  row : RowI 2 .i64 wr g N F
  out : Box wr o #[.int .i64 px, .int .i64 V, .int .i64 sr, .slice (some ⟨g, 0, none⟩) N N] 54
  res : Box wr b #[.int .i64 0, .int .i64 0, .int .i64 0, .slice none 0 0] 54

theorem LayC.later {w wr wr' : World} {g o b N : Nat} {px V sr : Int} {F : List Int} (h : LayC w wr g o b N px V sr F) (ha : Adds wr wr') : LayC w wr' g o b N px V sr F :=
  ⟨h.adds.trans ha, h.row.later ha, h.out.later ha, h.res.later ha⟩
theorem LayC.put {w wr : World} {g o b N : Nat} {px V sr : Int} {F : List Int} (h : LayC w wr g o b N px V sr F) (hw : w.heap.size ≤ g) (hgo : o ≠ g) (hgb : b ≠ g) (i : Nat) (x : Int) : LayC w (wr.setCell ⟨g, i, none⟩ (.int .i64 x)) g o b N px V sr (F.set i x) :=
  ⟨h.adds.set hw _, h.row.put i x, h.out.far hgo _, h.res.far hgb _⟩
theorem LayC.drew {w wr : World} {g o b N : Nat} {px V sr : Int} {F : List Int} (h : LayC w wr g o b N px V sr F) : LayC w wr.drew g o b N px V sr F := h.later ((Adds.refl _).drew)

/-- What ClearAt of the reference returns. -/
def RClearGot (l : List Bd) (px rule : Int) (w : World) (e : Ending) (w' : World) : Prop :=
  ∃ g F, e = .returned (.agg #[.int .i64 px, .int .i64 (volAt l px), .int .i64 (surAt l px), .slice (some ⟨g, 0, none⟩) l.length l.length]) ∧ FillAt (ruleF rule) l px (volAt l px) 2 F ∧ RowI 2 .i64 w' g l.length F ∧ Adds w w'

theorem parts_bd {rule left : Int} {ws : List Int} (hr : rule = 1 ∨ rule = 2) (h0 : 0 ≤ left) (hq : qOk ws) {i : Nat} (hi : i < ws.length) : 0 ≤ (partsT rule left ws)[i]! ∧ (partsT rule left ws)[i]! ≤ 1000000000 := by
  have hx : ws[i]? = some ws[i] := List.getElem?_eq_getElem hi
  have hb := hq ws[i] (List.getElem_mem hi)
  unfold partsT
  split
  · split
    · obtain ⟨y, h1, h2, h3⟩ := shareT_bd (t := left) (ws := ws) (by omega) h0 (by omega) hx hb.1
      rw [List.getElem!_eq_getElem?_getD, h1]
      simp only [Option.getD_some]
      omega
    · obtain ⟨y, h1, h2, h3⟩ := turn_upto left ws h0 hq i _ hx
      rw [List.getElem!_eq_getElem?_getD, h1]
      simp only [Option.getD_some]
      omega
  · rw [getElem!_pos ws i hi]
    exact hb

theorem key_le1 {l : List Bd} {j u : Nat} {a b : Int} (h1 : priceOf l j = a) (h2 : b = priceOf l u) (h : b ≤ a) : keyT l 1 j ≤ keyT l 1 u := by
  unfold keyT
  rw [if_pos rfl, if_pos rfl]
  omega
theorem key_le2 {l : List Bd} {j u : Nat} {a b : Int} (h1 : priceOf l j = a) (h2 : b = priceOf l u) (h : a ≤ b) : keyT l 2 j ≤ keyT l 2 u := by
  unfold keyT
  rw [if_neg (by omega), if_neg (by omega)]
  omega

set_option maxRecDepth 100000 in
set_option maxHeartbeats 8000000 in
theorem RClearAt_any (p : Option Addr) (cap : Nat) (l : List Bd) (px rule : Int) (w : World) (hn : l.length ≤ 40) (hL : At3 w p l) (hok : ∀ b ∈ l, okB b = true) (hr : rule = 1 ∨ rule = 2) :
    Calls Try.prog 31 #[.slice p l.length cap, .int .i64 px, .int .i64 rule] w (RClearGot l px rule w) := by
  obtain ⟨j0, hj, hj0, hj1, hj2⟩ := info_parts info2
  have HJ := Lib.hid hj
  have HJ0 := Lib.hid hj0
  have HJ1 := Lib.hid hj1
  have HJ2 := Lib.hid hj2
  obtain ⟨N, hNl⟩ : ∃ N, N = l.length := ⟨_, rfl⟩
  obtain ⟨d, hd⟩ : ∃ d, d = dem l px := ⟨_, rfl⟩
  obtain ⟨s0, hs0⟩ : ∃ s, s = sup l px := ⟨_, rfl⟩
  obtain ⟨V, hV⟩ : ∃ V, V = volAt l px := ⟨_, rfl⟩
  have hmn : min d s0 = V := by rw [hd, hs0, hV]; rfl
  have hdb := dem_bd px l hok
  have hsb := sup_bd px l hok
  have hvb := vol_bd hok (by omega) px
  rw [← hd] at hdb hvb
  rw [← hs0] at hsb hvb
  rw [← hV] at hvb
  have HAT : Hid (∀ W, At3 W p l → Calls Try.prog 27 #[.slice p N cap, .int .i64 px] W fun e w' => e = .returned (.tuple #[.int .i64 d, .int .i64 s0]) ∧ Adds W w') := Lib.hid (fun W hW => by rw [hNl, hd, hs0]; exact RAt_any p cap l px W (by omega) hW hok)
  have HSUR : Hid (d - s0 = surAt l px) := Lib.hid (by rw [hd, hs0]; rfl)
  have HV := Lib.hid hV
  have HD := Lib.hid hd
  have HS0 := Lib.hid hs0
  have HL := Lib.hid hL
  have HOK := Lib.hid hok
  have HN := Lib.hid hNl
  have HR := Lib.hid hr
  have hN40 : N ≤ 40 := by omega
  obtain ⟨hd0, hd1⟩ := hdb
  obtain ⟨hs00, hs01⟩ := hsb
  obtain ⟨hv0, hv1, hv2, hv3⟩ := hvb
  have hd2 : d ≤ 5000000000000 := by omega
  have hs02 : s0 ≤ 5000000000000 := by omega
  rw [← hNl]
  clear hL hok hNl hj hj0 hj1 hj2 hn hd hs0 hV hd1 hs01 hr
  obtain ⟨b, hb0⟩ : ∃ b, b = w.heap.size := ⟨_, rfl⟩
  have HB0 := Lib.hid hb0
  have A0 := Lib.hid ((Adds.refl w).alloc (.cells #[.int .i64 0, .int .i64 0, .int .i64 0, .slice none 0 0] 54))
  have X0 : Box (w.alloc (.cells #[.int .i64 0, .int .i64 0, .int .i64 0, .slice none 0 0] 54)) b #[.int .i64 0, .int .i64 0, .int .i64 0, .slice none 0 0] 54 := by rw [hb0]; exact Box.new w _ _
  have HX0 := Lib.hid X0
  clear X0 hb0
  go_enter Try.func31, Try.ntmps31
  go_upto_region 3 with (first
    | (go_at_call 27; refine (HAT.out _ (HL.out.later A0.out)).mono ?_; rintro e w1 ⟨rfl, hb⟩; have HB1 := Lib.hid hb; clear hb)
    | (refine wpList_make_full _ rfl _ _ 36 rfl w1.heap.size 2 j0 (.int .i64 0) 1 Try.underlying36 HJ.out HJ0.out HJ1.out .i64 .i64 (N : Int) (N : Int) N rfl rfl rfl rfl (by rw [HJ2.out]; omega) (by unfold maxLen; omega) (Nat.le_refl _) ?_; intro w2 ho hg; have HO := Lib.hid (made_rowI ho); have HA2 : Hid (Adds w1 w2) := Lib.hid ⟨hg.os, hg.tape, hg.output, hg.size, fun k hk => hg.block k hk (by simp)⟩; clear ho hg))
  obtain ⟨g, hg⟩ : ∃ g, g = w1.heap.size := ⟨_, rfl⟩
  obtain ⟨o, ho⟩ : ∃ o, o = w2.heap.size := ⟨_, rfl⟩
  rw [← hg] at HO ⊢
  rw [← ho, ← HB0.out]
  have hlo := HO.out.lt
  have hb1 := HX0.out.lt
  have hb2 := HB1.out.size
  have HGB : Hid (w.heap.size ≤ g) := Lib.hid (by have := HB0.out; omega)
  have hgo : o ≠ g := by omega
  have hgb : b ≠ g := by omega
  have hgo2 : g ≠ o := by omega
  have HGO := Lib.hid hgo
  have HGBN := Lib.hid hgb
  obtain ⟨sr, hsr⟩ : ∃ sr, sr = d - s0 := ⟨_, rfl⟩
  rw [← hsr] at HSUR ⊢
  obtain ⟨wa, hwa⟩ : ∃ W, W = w2.alloc (.cells #[.int .i64 px, .int .i64 V, .int .i64 sr, .slice (some ⟨g, 0, none⟩) N N] 54) := ⟨_, rfl⟩
  have HLAY : Hid (LayC w wa g o b N px V sr (List.replicate N 0)) := Lib.hid (by
    rw [hwa]
    have a2 : Adds w w2 := (A0.out.trans HB1.out).trans HA2.out
    refine ⟨a2.alloc _, HO.out.later ((Adds.refl w2).alloc _), ?_, ((HX0.out.later HB1.out).later HA2.out).alloc _⟩
    rw [ho]
    exact Box.new w2 _ _)
  rw [← hwa]
  have HST : Hid (SideS l px V rule 0 (List.replicate N 0)) := Lib.hid (by rw [HN.out]; exact SideS.start l px V rule)
  clear hwa HO HX0 HB1 HA2 A0 hg ho hlo hb1 hb2 hsr HAT hmn
  go_wp2
  go_loopw [10] (fun v10 wr => ∃ (k : Nat) (F : List Int), k ≤ 2 ∧ v10 = .int .i64 ((k : Int) + 1) ∧ Hid (SideS l px V rule k F) ∧ Hid (LayC w wr g o b N px V sr F)) (fun v10 _ => 3 - (intOf v10).toNat)
  case atStart => exact ⟨0, List.replicate N 0, by omega, rfl, HST, HLAY⟩
  case round => as_aux_lemma =>
    obtain ⟨k, F0, hk, rfl, hS, hLay0⟩ := hrel
    clear HST HLAY
    obtain ⟨s, hs⟩ : ∃ s : Int, s = (k : Int) + 1 := ⟨_, rfl⟩
    rw [← hs]
    by_cases hlt : k < 2
    · obtain ⟨FIN, Q0, hRS, hSN⟩ := hS.out.serve HOK.out hlt hv0 (by rw [← HD.out]; exact hv1) (by rw [← HS0.out]; exact hv2)
      rw [← hs] at hRS
      have hsd : s = 1 ∨ s = 2 := by omega
      have HRS := Lib.hid hRS
      have HSN := Lib.hid hSN
      have HSK := Lib.hid hs
      have hs2 : s ≤ 2 := by omega
      have o1 := hLay0.out.out.cell 1
      simp only [List.getElem?_toArray, List.getElem?_cons_zero, List.getElem?_cons_succ] at o1
      clear hRS hSN hs hS
      go_wp2
      clear o1
      go_loopw [11] (fun v11 wx => ∃ (left : Int) (Q F : List Int), v11 = .int .i64 left ∧ left ≤ 5000000000000 ∧ Hid (RServe l px s (ruleF rule) FIN left Q F) ∧ Hid (LayC w wx g o b N px V sr F)) (fun v11 _ => (intOf v11).toNat)
      case atStart => exact ⟨V, Q0, F0, rfl, hv3, HRS, hLay0⟩
      case round => as_aux_lemma =>
        obtain ⟨left, Q, F, rfl, hleft, hrs, hlay⟩ := hrel
        clear HRS hLay0
        by_cases hl0 : 0 < left
        · rename World => wo
          have HPP : Hid (∀ u : Nat, (u : Int) ∈ Q → priceOf l u ≠ 0) := Lib.hid (fun u hu => by
            have h1 := hrs.out.ins u hu
            have h2 := okB_iff.1 (HOK.out l[u]! (by rw [getElem!_pos l u (by omega)]; exact List.getElem_mem _))
            unfold priceOf
            omega)
          have HF : Hid (F.length = N) := Lib.hid (by have := hrs.out.len; have := HN.out; omega)
          go_wp2
          go_loopw [12, 13] (fun v12 v13 wx => ∃ (j : Nat) (bst : Int), j ≤ N ∧ v12 = .int .i64 bst ∧ v13 = .int .i64 j ∧ Hid (ScanQ l s Q j bst) ∧ Hid (Adds wo wx)) (fun _ v13 _ => N - (intOf v13).toNat)
          case atStart => exact ⟨0, 0, by omega, rfl, rfl, Lib.hid (Or.inl ⟨rfl, fun j hj => by omega⟩), Lib.hid (Adds.refl _)⟩
          case round => as_aux_lemma =>
            obtain ⟨j, bst, hj, rfl, rfl, hsc, hax⟩ := hrel
            by_cases hlt2 : j < N
            · obtain ⟨⟨sd, pp, qq⟩, hb3⟩ : ∃ t, l[j]? = some t := ⟨_, List.getElem?_eq_getElem (by have := HN.out; omega)⟩
              obtain ⟨y, hy⟩ : ∃ y, F[j]? = some y := ⟨_, List.getElem?_eq_getElem (by have := HF.out; omega)⟩
              obtain ⟨g5, off5, rfl, d0, d1, _⟩ := HL.out j _ hb3
              have hlj := hlay.out.later hax.out
              have a0 := hlj.row.cell hy
              have o3 := hlj.out.cell 3
              simp only [List.getElem?_toArray, List.getElem?_cons_zero, List.getElem?_cons_succ] at o3
              simp only at d0 d1
              have c0 := keep_cell hlj.adds d0
              have c1 := keep_cell hlj.adds d1
              have hjl : j < l.length := by have := HN.out; omega
              have hlk : l[j]! = (sd, pp, qq) := get!_some hb3
              have hsdb := side_of HOK.out hjl
              rw [hlk] at hsdb
              have HFY : Hid (F[j]! = y) := Lib.hid (by rw [List.getElem!_eq_getElem?_getD, hy]; rfl)
              have hyb := hrs.out.bd j hjl
              rw [HFY.out] at hyb
              obtain ⟨hy0, hy1⟩ := hyb
              have HPJ : Hid (priceOf l j = pp) := Lib.hid (by unfold priceOf; rw [hlk])
              have HMEM : Hid ((j : Int) ∈ Q ↔ (sd = s ∧ takesB (sd, pp, qq) px = true) ∧ y = 0) := Lib.hid (by
                have := rserve_mem hrs.out hl0 hjl
                rw [this, HFY.out]
                unfold partB
                rw [hlk, Bool.and_eq_true, decide_eq_true_eq])
              have hji : (j : Int) < (N : Int) := by omega
              simp only at hsdb
              clear hb3 hy d0 d1 hlk hlj hjl
              rcases hsd with rfl | rfl
              all_goals rcases hsdb with rfl | rfl
              · by_cases hyz : y = 0
                · subst hyz
                  by_cases hw : pp < px
                  · clear HFY
                    go_wp2
                    go_roundw
                    case rel => exact ⟨j + 1, bst, by omega, rfl, by go_num, Lib.hid (hsc.out.skip (fun h => by have := (HMEM.out.1 h).1.2; unfold takesB at this; simp at this; omega)), hax⟩
                    case measure => simp [intOf]; omega
                  · have HIN : Hid (((1 : Int) = 1 ∧ takesB (1, pp, qq) px = true) ∧ (0 : Int) = 0) := Lib.hid ⟨⟨rfl, by unfold takesB; simp; omega⟩, rfl⟩
                    by_cases hbz : bst = 0
                    · subst hbz
                      go_wp2
                      go_roundw
                      case rel => exact ⟨j + 1, pp, by omega, rfl, by go_num, Lib.hid (by have := hsc.out.take (HMEM.out.2 HIN.out) (fun u hu hm => absurd hu.symm (HPP.out u hm)); rw [HPJ.out] at this; exact this), hax⟩
                      case measure => simp [intOf]; omega
                    · have hbn : (bst == 0) = false := beq_eq_false_iff_ne.2 hbz
                      have HB0N := Lib.hid hbz
                      by_cases hbt : bst < pp
                      · have HBT := Lib.hid hbt
                        go_wp2
                        go_roundw
                        case rel => exact ⟨j + 1, pp, by omega, rfl, by go_num, Lib.hid (by have := hsc.out.take (HMEM.out.2 HIN.out) (fun u hu hm => key_le1 HPJ.out hu (by have := HBT.out; omega)); rw [HPJ.out] at this; exact this), hax⟩
                        case measure => simp [intOf]; omega
                      · have HBT := Lib.hid hbt
                        go_wp2
                        go_roundw
                        case rel => exact ⟨j + 1, bst, by omega, rfl, by go_num, Lib.hid (hsc.out.keep HB0N.out (fun u hu hm => key_le1 hu.symm HPJ.out.symm (by have := HBT.out; omega))), hax⟩
                        case measure => simp [intOf]; omega
                · have hyp : 0 < y := by omega
                  have HYP := Lib.hid hyz
                  clear hyz
                  go_wp2
                  go_roundw
                  case rel => exact ⟨j + 1, bst, by omega, rfl, by go_num, Lib.hid (hsc.out.skip (fun h => HYP.out (HMEM.out.1 h).2)), hax⟩
                  case measure => simp [intOf]; omega
              · clear hy0 hy1
                go_wp2
                go_roundw
                case rel => exact ⟨j + 1, bst, by omega, rfl, by go_num, Lib.hid (hsc.out.skip (fun h => by have := (HMEM.out.1 h).1.1; omega)), hax⟩
                case measure => simp [intOf]; omega
              · clear hy0 hy1
                go_wp2
                go_roundw
                case rel => exact ⟨j + 1, bst, by omega, rfl, by go_num, Lib.hid (hsc.out.skip (fun h => by have := (HMEM.out.1 h).1.1; omega)), hax⟩
                case measure => simp [intOf]; omega
              · by_cases hyz : y = 0
                · subst hyz
                  by_cases hw : px < pp
                  · clear HFY
                    go_wp2
                    go_roundw
                    case rel => exact ⟨j + 1, bst, by omega, rfl, by go_num, Lib.hid (hsc.out.skip (fun h => by have := (HMEM.out.1 h).1.2; unfold takesB at this; simp at this; omega)), hax⟩
                    case measure => simp [intOf]; omega
                  · have HIN : Hid (((2 : Int) = 2 ∧ takesB (2, pp, qq) px = true) ∧ (0 : Int) = 0) := Lib.hid ⟨⟨rfl, by unfold takesB; simp; omega⟩, rfl⟩
                    by_cases hbz : bst = 0
                    · subst hbz
                      go_wp2
                      go_roundw
                      case rel => exact ⟨j + 1, pp, by omega, rfl, by go_num, Lib.hid (by have := hsc.out.take (HMEM.out.2 HIN.out) (fun u hu hm => absurd hu.symm (HPP.out u hm)); rw [HPJ.out] at this; exact this), hax⟩
                      case measure => simp [intOf]; omega
                    · have hbn : (bst == 0) = false := beq_eq_false_iff_ne.2 hbz
                      have HB0N := Lib.hid hbz
                      by_cases hbt : pp < bst
                      · have HBT := Lib.hid hbt
                        go_wp2
                        go_roundw
                        case rel => exact ⟨j + 1, pp, by omega, rfl, by go_num, Lib.hid (by have := hsc.out.take (HMEM.out.2 HIN.out) (fun u hu hm => key_le2 HPJ.out hu (by have := HBT.out; omega)); rw [HPJ.out] at this; exact this), hax⟩
                        case measure => simp [intOf]; omega
                      · have HBT := Lib.hid hbt
                        go_wp2
                        go_roundw
                        case rel => exact ⟨j + 1, bst, by omega, rfl, by go_num, Lib.hid (hsc.out.keep HB0N.out (fun u hu hm => key_le2 hu.symm HPJ.out.symm (by have := HBT.out; omega))), hax⟩
                        case measure => simp [intOf]; omega
                · have hyp : 0 < y := by omega
                  have HYP := Lib.hid hyz
                  clear hyz
                  go_wp2
                  go_roundw
                  case rel => exact ⟨j + 1, bst, by omega, rfl, by go_num, Lib.hid (hsc.out.skip (fun h => HYP.out (HMEM.out.1 h).2)), hax⟩
                  case measure => simp [intOf]; omega
            · have hjN : j = N := by omega
              subst hjN
              have HSC : Hid (ScanQ l s Q l.length bst) := Lib.hid (by rw [← HN.out]; exact hsc.out)
              obtain ⟨x, Q', hQ⟩ := rserve_queue hrs.out hl0
              have hbx : bst = priceOf l x.toNat := scan_best hrs.out hQ HSC.out
              have hWp := sideW_pos HOK.out hrs.out hQ
              have hstep := rserve_step HOK.out HR.out hrs.out hl0 hQ
              rw [← hbx] at hWp hstep
              have hWq := sideW_ok HOK.out s bst
              have hWl := sideW_len l s bst
              have hWat : Hid (∀ i, i < l.length → (sideW l s bst)[i]? = some (if (l[i]!).1 = s ∧ priceOf l i = bst then qtyOf l i else 0)) := Lib.hid (fun i hi => sideW_at hi)
              have hWs := sum_take_bd (sideW l s bst) hWq
              obtain ⟨W, hW⟩ : ∃ W, W = sideW l s bst := ⟨_, rfl⟩
              rw [← hW] at hWp hstep hWq hWl hWat hWs
              have hWl2 : W.length = j := by have := HN.out; omega
              have HWL := Lib.hid hWl2
              have HWQ := Lib.hid hWq
              have HSTEP := Lib.hid hstep
              have HWT : Hid (∀ i, 0 ≤ (W.take i).sum ∧ (W.take i).sum ≤ 5000000000000) := Lib.hid (fun i => by
                have h1 := sum_take_bd (W.take i) (hWq.take i)
                have h2 : (W.take i).length ≤ 40 := by rw [List.length_take]; omega
                omega)
              have HAW := hax
              have HWP := Lib.hid hWp
              clear hsc HSC hbx hWp hstep hWq hWl hWs hW hQ hWl2 hax
              rename World => wm
              go_upto_region 17 with (refine wpList_make_full _ rfl _ _ 36 rfl wm.heap.size 2 j0 (.int .i64 0) 1 Try.underlying36 HJ.out HJ0.out HJ1.out .i64 .i64 (j : Int) (j : Int) j rfl rfl rfl rfl (by rw [HJ2.out]; omega) (by unfold maxLen; omega) (Nat.le_refl _) ?_; intro w4 ho hg; have HO4 := Lib.hid (made_rowI ho); have HA4 : Hid (Adds wm w4) := Lib.hid ⟨hg.os, hg.tape, hg.output, hg.size, fun k hk => hg.block k hk (by simp)⟩; clear ho hg)
              obtain ⟨gw, hgw⟩ : ∃ b, b = wm.heap.size := ⟨_, rfl⟩
              rw [← hgw] at HO4 ⊢
              have hgw2 : wo.heap.size ≤ gw := by have := HAW.out.size; omega
              have hglt := hlay.out.row.lt
              have hgwg : gw ≠ g := by omega
              have HGW := Lib.hid hgw2
              have HAWO : Hid (Adds wo w4) := Lib.hid (HAW.out.trans HA4.out)
              have h00 : Hid ((0 : Int) = (W.take 0).sum) := Lib.hid (by simp)
              have hf0 : Hid (RowI 2 .i64 w4 gw j (Filled (W.take 0) j)) := Lib.hid (by simpa [Filled] using HO4.out)
              clear HO4 HA4 HAW hgw hgw2 hglt
              go_wp2
              go_loopw [16, 17] (fun v16 v17 wx => ∃ (i : Nat) (z : Int), i ≤ j ∧ v17 = .int .i64 i ∧ v16 = .int .i64 z ∧ Hid (z = (W.take i).sum) ∧ Hid (RowI 2 .i64 wx gw j (Filled (W.take i) j)) ∧ Hid (Adds wo wx)) (fun _ v17 _ => j - (intOf v17).toNat)
              case atStart => exact ⟨0, 0, by omega, rfl, rfl, h00, hf0, HAWO⟩
              case round => as_aux_lemma =>
                obtain ⟨i, z, hi, rfl, rfl, hz, hrw, hay⟩ := hrel
                clear h00 hf0 HAWO
                have hzb := HWT.out i
                rw [← hz.out] at hzb
                obtain ⟨hz0, hz1⟩ := hzb
                by_cases hlt3 : i < j
                · obtain ⟨⟨sd, pp, qq⟩, hb3⟩ : ∃ t, l[i]? = some t := ⟨_, List.getElem?_eq_getElem (by have := HN.out; omega)⟩
                  obtain ⟨g5, off5, rfl, d0, d1, d2⟩ := HL.out i _ hb3
                  have hlk : l[i]! = (sd, pp, qq) := get!_some hb3
                  have hil : i < l.length := by have := HN.out; omega
                  have hwi := hWat.out i hil
                  have hqb := qty_of HOK.out hil
                  have hqb2 := qty_nn HOK.out hil
                  have e1 : (l[i]!).1 = sd := by rw [hlk]
                  have e2 : priceOf l i = pp := by unfold priceOf; rw [hlk]
                  have e3 : qtyOf l i = qq := by unfold qtyOf; rw [hlk]
                  rw [e1, e2, e3] at hwi
                  rw [e3] at hqb hqb2
                  simp only at d0 d1 d2
                  have hlj := hlay.out.later hay.out
                  have c0 := keep_cell hlj.adds d0
                  have c1 := keep_cell hlj.adds d1
                  have c2 := keep_cell hlj.adds d2
                  have hkl : (W.take i).length = i := by rw [List.length_take]; have := HWL.out; omega
                  have r0 := hrw.out.free i
                  have r1 := hrw.out.cell (j := i) (x := 0) (Filled.at hkl hlt3)
                  have hij : (i : Int) < (j : Int) := by omega
                  by_cases hc : sd = s ∧ pp = bst
                  · rw [if_pos hc] at hwi
                    obtain ⟨hc1, hc2⟩ := hc
                    subst hc1
                    subst hc2
                    have HPUT := Lib.hid (hrw.out.put i qq)
                    have HTN := Lib.hid (take_next hwi)
                    have HFN := Lib.hid (Filled.next (x := qq) hkl hlt3)
                    clear hb3 hlk hwi e1 e2 e3 d0 d1 d2 hlj hkl hil
                    go_wp2
                    go_roundw
                    case rel => exact ⟨i + 1, z + qq, by omega, by go_num, rfl, Lib.hid (by rw [HTN.out, List.sum_append, hz.out]; simp), Lib.hid (by rw [HTN.out, ← HFN.out]; exact HPUT.out), Lib.hid (hay.out.set HGW.out _)⟩
                    case measure => simp [intOf]; omega
                  · rw [if_neg hc] at hwi
                    have HTN := Lib.hid (take_next hwi)
                    have HFN := Lib.hid (filled_zero hkl hlt3)
                    have hcc : (sd == s) = false ∨ ((sd == s) = true ∧ (pp == bst) = false) := by
                      by_cases h1 : sd = s
                      · exact Or.inr ⟨beq_iff_eq.2 h1, beq_eq_false_iff_ne.2 (fun h2 => hc ⟨h1, h2⟩)⟩
                      · exact Or.inl (beq_eq_false_iff_ne.2 h1)
                    clear hb3 hlk hwi e1 e2 e3 d0 d1 d2 hlj hkl hil hc
                    rcases hcc with h1 | ⟨h1, h2⟩
                    all_goals
                      go_wp2
                      go_roundw
                      case rel => exact ⟨i + 1, z, by omega, by go_num, rfl, Lib.hid (by rw [HTN.out, List.sum_append, hz.out]; simp), Lib.hid (by rw [HTN.out, HFN.out]; exact hrw.out), hay⟩
                      case measure => simp [intOf]; omega
                · have hij : i = j := by omega
                  subst hij
                  have hzW : z = W.sum := by rw [hz.out, List.take_of_length_le (by rw [HWL.out]; omega)]
                  have hrW := hrw.out
                  rw [List.take_of_length_le (by rw [HWL.out]; omega), Filled.full HWL.out] at hrW
                  have HRW := Lib.hid hrW
                  have hzp : 0 < z := by rw [hzW]; exact HWP.out
                  have HZW := Lib.hid hzW
                  have HPB : Hid (∀ i, i < W.length → 0 ≤ (partsT rule left W)[i]! ∧ (partsT rule left W)[i]! ≤ 1000000000) := Lib.hid (fun i hi => parts_bd HR.out (by omega) HWQ.out hi)
                  have HPL : Hid ((partsT rule left W).length = i) := Lib.hid (by rw [partsT_len, HWL.out])
                  have HPE : Hid (partsT rule left W = if left < z then (if rule = 2 then shareT left W else turnT left W) else W) := Lib.hid (by rw [hzW]; rfl)
                  have HSH : Hid (left < z → ∀ X, At1 .i64 X (some ⟨gw, 0, none⟩) W → Calls Try.prog 52 #[.int .i64 left, .slice (some ⟨gw, 0, none⟩) i i] X (RowGotN 2 i (shareT left W) X)) := Lib.hid (fun hz X hX => by
                    have := RShare_any left (some ⟨gw, 0, none⟩) i W X (by rw [HWL.out]; omega) hX HWQ.out (by omega) (by omega)
                    rw [HWL.out] at this
                    refine this.mono ?_
                    rintro e w' ⟨a, b, h1, h2⟩
                    rw [shareT_len, HWL.out] at h1
                    exact ⟨a, b, h1, h2⟩)
                  have HIT : Hid (∀ X, At1 .i64 X (some ⟨gw, 0, none⟩) W → Calls Try.prog 53 #[.int .i64 left, .slice (some ⟨gw, 0, none⟩) i i] X (RowGotN 2 i (turnT left W) X)) := Lib.hid (fun X hX => by
                    have := inTurn_any left (some ⟨gw, 0, none⟩) i W X (by rw [HWL.out]; omega) hX HWQ.out (by omega) hleft
                    rw [HWL.out] at this
                    refine this.mono ?_
                    rintro e w' ⟨a, b, h1, h2⟩
                    rw [turnT_len, HWL.out] at h1
                    exact ⟨a, b, h1, h2⟩)
                  obtain ⟨m, hm⟩ : ∃ m, min left z = m := ⟨_, rfl⟩
                  have HST2 : Hid (RServe l px s (ruleF rule) FIN (left - m) (Q.drop (grpT l Q).length) (addT F (partsT rule left W))) := Lib.hid (by rw [← hm, hzW]; exact HSTEP.out)
                  obtain ⟨P, hP⟩ : ∃ P, P = partsT rule left W := ⟨_, rfl⟩
                  rw [← hP] at HPB HPL HPE HST2
                  have HFB : Hid (∀ q, q < i → 0 ≤ F[q]! ∧ F[q]! ≤ 1000000000) := Lib.hid (fun q hq => hrs.out.bd q (by rw [← HN.out]; exact hq))
                  rename World => wf
                  have HM := Lib.hid hm
                  clear hm hz hrw hzW hrW HSTEP hP hWat
                  by_cases hlz : left < z
                  · have hrl := HR.out
                    rcases hrl with hr1 | hr2
                    · have hPe : P = turnT left W := by rw [HPE.out, if_pos hlz, if_neg (by omega)]
                      have HPe := Lib.hid hPe
                      have hrb : (rule == 2) = false := beq_eq_false_iff_ne.2 (by omega)
                      have hrb2 : (rule == 1) = true := beq_iff_eq.2 hr1
                      clear hPe HSH HPE hr1
                      go_upto_region 29 with (go_at_call 53; refine (HIT.out _ HRW.out.at1).mono ?_; rintro e wy ⟨gp, cp, rfl, hgp, hrp, hb⟩; have HRP := Lib.hid hrp; have HGP := Lib.hid hgp; have HYB := Lib.hid hb; clear hrp hgp hb)
                      rw [← HPe.out] at HRP
                      have HGPW : Hid (wo.heap.size ≤ gp) := Lib.hid (by have := HGP.out; have := hay.out.size; omega)
                      have HAY : Hid (Adds wo wy) := Lib.hid (hay.out.trans HYB.out)
                      have hgpg : gp ≠ g := by have := hlay.out.row.lt; have := HGPW.out; omega
                      have HGPG := Lib.hid hgpg
                      have HL0 : Hid (LayC w wy g o b i px V sr (addK F P 0)) := Lib.hid (by rw [addK_zero]; exact hlay.out.later HAY.out)
                      go_wp2
                      go_loopw [19] (fun v19 wx => ∃ q : Nat, q ≤ i ∧ v19 = .int .i64 q ∧ Hid (RowI 2 .i64 wx gp cp P) ∧ Hid (LayC w wx g o b i px V sr (addK F P q))) (fun v19 _ => i - (intOf v19).toNat)
                      case atStart => exact ⟨0, by omega, rfl, HRP, HL0⟩
                      case round => as_aux_lemma =>
                        obtain ⟨q, hq, rfl, hrp, hlq⟩ := hrel
                        clear HL0 HRP HAY
                        by_cases hqi : q < i
                        · have hqF : q < F.length := by rw [HF.out]; exact hqi
                          have a0 := hlq.out.row.cell (addK_get (P := P) hqF)
                          have a1 := hlq.out.row.free q
                          have p0 := hrp.out.cell (j := q) (x := P[q]!) (by rw [getElem!_pos P q (by rw [HPL.out]; exact hqi)]; exact List.getElem?_eq_getElem _)
                          have o3 := hlq.out.out.cell 3
                          simp only [List.getElem?_toArray, List.getElem?_cons_zero, List.getElem?_cons_succ] at o3
                          obtain ⟨hf0, hf1⟩ := HFB.out q hqi
                          obtain ⟨hp0, hp1⟩ := HPB.out q (by rw [HWL.out]; exact hqi)
                          have HNX := Lib.hid (addK_next (F := F) (P := P) hqF)
                          have HPT := Lib.hid (fun x => hlq.out.put HGB.out HGO.out HGBN.out q x)
                          have HPF := Lib.hid (fun x => hrp.out.far (p := ⟨g, q, none⟩) HGPG.out (.int .i64 x))
                          obtain ⟨fq, hfq⟩ : ∃ fq, fq = F[q]! := ⟨_, rfl⟩
                          obtain ⟨pq, hpq⟩ : ∃ pq, pq = P[q]! := ⟨_, rfl⟩
                          rw [← hfq] at a0 hf0 hf1 HNX
                          rw [← hpq] at p0 hp0 hp1 HNX
                          have hqi2 : (q : Int) < (i : Int) := by omega
                          clear hqF hfq hpq
                          go_upto_region 32 with fail
                          go_still_tail 14, (by kernel_rfl)
                          change wpList _ _ _ _ _ wr.drew
                          go_wp2
                          go_roundw
                          case rel => exact ⟨q + 1, by omega, by go_num, Lib.hid (HPF.out _).drew, Lib.hid (by rw [← HNX.out]; exact (HPT.out _).drew)⟩
                          case measure => simp [intOf]; omega
                        · have hqi2 : q = i := by omega
                          subst hqi2
                          have HFU : Hid (addK F P q = addT F P) := Lib.hid (by rw [← HF.out]; exact addK_full)
                          have HLQ : Hid (LayC w wr g o b q px V sr (addT F P)) := Lib.hid (by rw [← HFU.out]; exact hlq.out)
                          have hml : m = left := by have := HM.out; omega
                          have HST3 : Hid (RServe l px s (ruleF rule) FIN 0 (List.drop (grpT l Q).length Q) (addT F P)) := Lib.hid (by have := HST2.out; rw [hml, Int.sub_self] at this; exact this)
                          have hmin : min left z = left := by have := HM.out; omega
                          have hsub : left - left = 0 := by omega
                          clear HST2 hml HFU hlq
                          go_wp2
                          go_roundw
                          case rel => exact ⟨_, _, _, rfl, by omega, HST3, HLQ⟩
                          case measure => simp [intOf]; omega
                    · have hPe : P = shareT left W := by rw [HPE.out, if_pos hlz, if_pos hr2]
                      have HPe := Lib.hid hPe
                      have hrb : (rule == 2) = true := beq_iff_eq.2 hr2
                      have hrb2 : (rule == 1) = false := beq_eq_false_iff_ne.2 (by omega)
                      clear hPe HIT HPE hr2
                      go_upto_region 29 with (go_at_call 52; refine (HSH.out hlz _ HRW.out.at1).mono ?_; rintro e wy ⟨gp, cp, rfl, hgp, hrp, hb⟩; have HRP := Lib.hid hrp; have HGP := Lib.hid hgp; have HYB := Lib.hid hb; clear hrp hgp hb)
                      rw [← HPe.out] at HRP
                      have HGPW : Hid (wo.heap.size ≤ gp) := Lib.hid (by have := HGP.out; have := hay.out.size; omega)
                      have HAY : Hid (Adds wo wy) := Lib.hid (hay.out.trans HYB.out)
                      have hgpg : gp ≠ g := by have := hlay.out.row.lt; have := HGPW.out; omega
                      have HGPG := Lib.hid hgpg
                      have HL0 : Hid (LayC w wy g o b i px V sr (addK F P 0)) := Lib.hid (by rw [addK_zero]; exact hlay.out.later HAY.out)
                      go_wp2
                      go_loopw [19] (fun v19 wx => ∃ q : Nat, q ≤ i ∧ v19 = .int .i64 q ∧ Hid (RowI 2 .i64 wx gp cp P) ∧ Hid (LayC w wx g o b i px V sr (addK F P q))) (fun v19 _ => i - (intOf v19).toNat)
                      case atStart => exact ⟨0, by omega, rfl, HRP, HL0⟩
                      case round => as_aux_lemma =>
                        obtain ⟨q, hq, rfl, hrp, hlq⟩ := hrel
                        clear HL0 HRP HAY
                        by_cases hqi : q < i
                        · have hqF : q < F.length := by rw [HF.out]; exact hqi
                          have a0 := hlq.out.row.cell (addK_get (P := P) hqF)
                          have a1 := hlq.out.row.free q
                          have p0 := hrp.out.cell (j := q) (x := P[q]!) (by rw [getElem!_pos P q (by rw [HPL.out]; exact hqi)]; exact List.getElem?_eq_getElem _)
                          have o3 := hlq.out.out.cell 3
                          simp only [List.getElem?_toArray, List.getElem?_cons_zero, List.getElem?_cons_succ] at o3
                          obtain ⟨hf0, hf1⟩ := HFB.out q hqi
                          obtain ⟨hp0, hp1⟩ := HPB.out q (by rw [HWL.out]; exact hqi)
                          have HNX := Lib.hid (addK_next (F := F) (P := P) hqF)
                          have HPT := Lib.hid (fun x => hlq.out.put HGB.out HGO.out HGBN.out q x)
                          have HPF := Lib.hid (fun x => hrp.out.far (p := ⟨g, q, none⟩) HGPG.out (.int .i64 x))
                          obtain ⟨fq, hfq⟩ : ∃ fq, fq = F[q]! := ⟨_, rfl⟩
                          obtain ⟨pq, hpq⟩ : ∃ pq, pq = P[q]! := ⟨_, rfl⟩
                          rw [← hfq] at a0 hf0 hf1 HNX
                          rw [← hpq] at p0 hp0 hp1 HNX
                          have hqi2 : (q : Int) < (i : Int) := by omega
                          clear hqF hfq hpq
                          go_upto_region 32 with fail
                          go_still_tail 14, (by kernel_rfl)
                          change wpList _ _ _ _ _ wr.drew
                          go_wp2
                          go_roundw
                          case rel => exact ⟨q + 1, by omega, by go_num, Lib.hid (HPF.out _).drew, Lib.hid (by rw [← HNX.out]; exact (HPT.out _).drew)⟩
                          case measure => simp [intOf]; omega
                        · have hqi2 : q = i := by omega
                          subst hqi2
                          have HFU : Hid (addK F P q = addT F P) := Lib.hid (by rw [← HF.out]; exact addK_full)
                          have HLQ : Hid (LayC w wr g o b q px V sr (addT F P)) := Lib.hid (by rw [← HFU.out]; exact hlq.out)
                          have hml : m = left := by have := HM.out; omega
                          have HST3 : Hid (RServe l px s (ruleF rule) FIN 0 (List.drop (grpT l Q).length Q) (addT F P)) := Lib.hid (by have := HST2.out; rw [hml, Int.sub_self] at this; exact this)
                          have hmin : min left z = left := by have := HM.out; omega
                          have hsub : left - left = 0 := by omega
                          clear HST2 hml HFU hlq
                          go_wp2
                          go_roundw
                          case rel => exact ⟨_, _, _, rfl, by omega, HST3, HLQ⟩
                          case measure => simp [intOf]; omega
                  · have hPe : P = W := by rw [HPE.out, if_neg hlz]
                    rw [← hPe] at HRW
                    have HGPW := HGW
                    have HAY := hay
                    have HRP : Hid (RowI 2 .i64 wf gw i P) := HRW
                    clear hPe HSH HIT HPE
                    go_upto_region 29 with fail
                    have hgpg : gw ≠ g := by have := hlay.out.row.lt; have := HGPW.out; omega
                    have HGPG := Lib.hid hgpg
                    have HL0 : Hid (LayC w wf g o b i px V sr (addK F P 0)) := Lib.hid (by rw [addK_zero]; exact hlay.out.later HAY.out)
                    go_wp2
                    go_loopw [19] (fun v19 wx => ∃ q : Nat, q ≤ i ∧ v19 = .int .i64 q ∧ Hid (RowI 2 .i64 wx gw i P) ∧ Hid (LayC w wx g o b i px V sr (addK F P q))) (fun v19 _ => i - (intOf v19).toNat)
                    case atStart => exact ⟨0, by omega, rfl, HRP, HL0⟩
                    case round => as_aux_lemma =>
                      obtain ⟨q, hq, rfl, hrp, hlq⟩ := hrel
                      clear HL0 HRP HAY
                      by_cases hqi : q < i
                      · have hqF : q < F.length := by rw [HF.out]; exact hqi
                        have a0 := hlq.out.row.cell (addK_get (P := P) hqF)
                        have a1 := hlq.out.row.free q
                        have p0 := hrp.out.cell (j := q) (x := P[q]!) (by rw [getElem!_pos P q (by rw [HPL.out]; exact hqi)]; exact List.getElem?_eq_getElem _)
                        have o3 := hlq.out.out.cell 3
                        simp only [List.getElem?_toArray, List.getElem?_cons_zero, List.getElem?_cons_succ] at o3
                        obtain ⟨hf0, hf1⟩ := HFB.out q hqi
                        obtain ⟨hp0, hp1⟩ := HPB.out q (by rw [HWL.out]; exact hqi)
                        have HNX := Lib.hid (addK_next (F := F) (P := P) hqF)
                        have HPT := Lib.hid (fun x => hlq.out.put HGB.out HGO.out HGBN.out q x)
                        have HPF := Lib.hid (fun x => hrp.out.far (p := ⟨g, q, none⟩) HGPG.out (.int .i64 x))
                        obtain ⟨fq, hfq⟩ : ∃ fq, fq = F[q]! := ⟨_, rfl⟩
                        obtain ⟨pq, hpq⟩ : ∃ pq, pq = P[q]! := ⟨_, rfl⟩
                        rw [← hfq] at a0 hf0 hf1 HNX
                        rw [← hpq] at p0 hp0 hp1 HNX
                        have hqi2 : (q : Int) < (i : Int) := by omega
                        clear hqF hfq hpq
                        go_upto_region 32 with fail
                        go_still_tail 14, (by kernel_rfl)
                        change wpList _ _ _ _ _ wr.drew
                        go_wp2
                        go_roundw
                        case rel => exact ⟨q + 1, by omega, by go_num, Lib.hid (HPF.out _).drew, Lib.hid (by rw [← HNX.out]; exact (HPT.out _).drew)⟩
                        case measure => simp [intOf]; omega
                      · have hqi2 : q = i := by omega
                        subst hqi2
                        have HFU : Hid (addK F P q = addT F P) := Lib.hid (by rw [← HF.out]; exact addK_full)
                        have HLQ : Hid (LayC w wr g o b q px V sr (addT F P)) := Lib.hid (by rw [← HFU.out]; exact hlq.out)
                        have hml : m = z := by have := HM.out; omega
                        have HST3 : Hid (RServe l px s (ruleF rule) FIN (left - z) (List.drop (grpT l Q).length Q) (addT F P)) := Lib.hid (by have := HST2.out; rw [hml] at this; exact this)
                        have hmin : min left z = z := by have := HM.out; omega
                        clear HST2 hml HFU hlq
                        go_wp2
                        go_roundw
                        case rel => exact ⟨_, _, _, rfl, by omega, HST3, HLQ⟩
                        case measure => simp [intOf]; omega
        · have HEND := Lib.hid (rserve_end hrs.out hl0)
          go_wp2
          go_roundw
          case rel => exact ⟨k + 1, F, by omega, by have := HSK.out; go_num, by rw [HEND.out]; exact HSN, hlay⟩
          case measure => have := HSK.out; simp [intOf]; omega
    · have hk2 : k = 2 := by omega
      subst hk2
      have hs3 : s = 3 := by omega
      subst hs3
      have HFA := Lib.hid hS.out.fill
      have HLY := hLay0
      have X := hLay0.out.out
      have b0 := X.cell 0
      have b1 := X.cell 1
      have b2 := X.cell 2
      have b3 := X.cell 3
      have Y := hLay0.out.res
      have f0 := Y.free 0
      have f1 := Y.free 1
      have f2 := Y.free 2
      have f3 := Y.free 3
      have e0 := Y.cell 0
      have e1 := Y.cell 1
      have e2 := Y.cell 2
      have e3 := Y.cell 3
      have hlt := Y.lt
      simp only [List.getElem?_toArray, List.getElem?_cons_zero, List.getElem?_cons_succ] at b0 b1 b2 b3 e0 e1 e2 e3
      have HXB := Lib.hid Y
      have HBW : Hid (w.heap.size ≤ b) := Lib.hid (by rw [HB0.out]; exact Nat.le_refl _)
      have HGBNE : Hid (g ≠ b) := Lib.hid (fun h => HGBN.out h.symm)
      clear X Y hS
      go_wp2
      refine bodyPost_ret (v := .agg #[.int .i64 px, .int .i64 V, .int .i64 sr, .slice (some ⟨g, 0, none⟩) N N]) ?_ rfl ⟨g, F0, by rw [HV.out, HSUR.out, HN.out], by rw [← HV.out]; exact HFA.out, by rw [← HN.out]; exact (((HLY.out.row.far HGBNE.out _).far HGBNE.out _).far HGBNE.out _).far HGBNE.out _, (((HLY.out.adds.set HBW.out _).set HBW.out _).set HBW.out _).set HBW.out _⟩
      obtain ⟨q0, q1, q2, q3⟩ := HXB.out.put4 (.int .i64 px) (.int .i64 V) (.int .i64 sr) (.slice (some ⟨g, 0, none⟩) N N)
      simp [results, Try.results31, go_sem, q0, q1, q2, q3]

end Go.Proofs.Ytigpghmbeldakaa
