/- fills. -/
import Derived.Test.YtigpghmbeldakaaW
namespace Go.Proofs.Ytigpghmbeldakaa
open Go.RowKit

def sliceLen : Value → Nat
  | .slice _ n _ => n
  | _ => 0

/-- What fills returns. -/
def FillsGot (f : Int → List Int → List Int) (l : List Bd) (x V : Int) (w : World) (e : Ending) (w' : World) : Prop :=
  ∃ g F, FillAt f l x V 2 F ∧ e = .returned (.slice (some ⟨g, 0, none⟩) l.length l.length) ∧ w.heap.size ≤ g ∧ RowI 2 .i64 w' g l.length F ∧ Adds w w'

/-- A row of numbers of length n that a call returns. -/
def RowGotN (t : TypeId) (n : Nat) (l : List Int) (w : World) (e : Ending) (w' : World) : Prop :=
  ∃ g cap, e = .returned (.slice (some ⟨g, 0, none⟩) n cap) ∧ w.heap.size ≤ g ∧ RowI t .i64 w' g cap l ∧ Adds w w'

theorem side0 (w : World) : (Instr.index 115 (.agg #[.int .i64 1, .int .i64 2]) (.int .i64 0)).run Try.prog w = .ok (.int .i64 1) w := by
  simp [Instr.index, run_underlying Try.underlying115, asIntOf, go_sem, part, Try.sizeOf3, Try.isAgg3]
theorem side1 (w : World) : (Instr.index 115 (.agg #[.int .i64 1, .int .i64 2]) (.int .i64 1)).run Try.prog w = .ok (.int .i64 2) w := by
  simp [Instr.index, run_underlying Try.underlying115, asIntOf, go_sem, part, Try.sizeOf3, Try.isAgg3]

set_option maxRecDepth 100000 in
set_option maxHeartbeats 8000000 in
theorem fills_any (m : Nat) (hst : StableUpTo m) (rule : Int) (f : Int → List Int → List Int) (hsh : ShareAt m rule f) (hfs : FShare f) (p : Option Addr) (cap : Nat) (l : List Bd) (x d s : Int) (w : World) (hN : l.length ≤ 5000) (hm : l.length ≤ m) (hL : At3 w p l) (hok : ∀ b ∈ l, okB b = true) (hd : d = dem l x) (hs : s = sup l x) :
    Calls Try.prog 76 #[.slice p l.length cap, .agg #[.int .i64 x, .int .i64 d, .int .i64 s], .int .i64 rule] w (FillsGot f l x (min d s) w) := by
  obtain ⟨j0, hj, hj0, hj1, hj2⟩ := info_parts info2
  have HJ := Lib.hid hj
  have HJ0 := Lib.hid hj0
  have HJ1 := Lib.hid hj1
  have HJ2 := Lib.hid hj2
  have HL := Lib.hid hL
  have HO := Lib.hid hok
  have HST := Lib.hid hst
  have HSH := Lib.hid hsh
  have HFS := Lib.hid hfs
  have HMM := Lib.hid hm
  obtain ⟨V, hV⟩ : ∃ V, V = min d s := ⟨_, rfl⟩
  have HV := Lib.hid hV
  have HD := Lib.hid hd
  have HS := Lib.hid hs
  have hvol : ∀ W, Calls Try.prog 47 #[.agg #[.int .i64 x, .int .i64 d, .int .i64 s]] W fun e w' => e = .returned (.int .i64 V) ∧ Adds W w' := fun W => by rw [hV]; exact volume_any x d s W
  rw [← hV]
  clear hL hok hst hsh hfs hm hj hj0 hj1 hj2 hV hd hs
  go_enter Try.func76, Try.ntmps76
  go_wp2_with (refine wpList_make_full _ rfl _ _ 36 rfl w.heap.size 2 j0 (.int .i64 0) 1 Try.underlying36 HJ.out HJ0.out HJ1.out .i64 .i64 (l.length : Int) (l.length : Int) l.length rfl rfl rfl rfl (by rw [HJ2.out]; omega) (by unfold maxLen; omega) (by simp) ?_; intro w1 ho hg; have HMO := Lib.hid (made_row ho); have HMG := Lib.hid hg; clear ho hg)
  have hor := (own_rowI HMO.out).2
  have hr1 : RowI 2 .i64 w1 (w.heap.size + 1) l.length (List.replicate l.length 0) := by
    rcases hor with ⟨h, _⟩ | ⟨g', cap', h, _, h2⟩
    · simp at h
    · simp only [Value.slice.injEq, Option.some.injEq, Addr.mk.injEq, and_true, World.size_alloc] at h
      obtain ⟨h3, _, h4⟩ := h
      rw [← h3, ← h4] at h2
      exact h2
  have HR := Lib.hid hr1
  have HA0 : Hid (Adds (w.alloc (.cells #[.int .i64 x, .int .i64 d, .int .i64 s] 80)) w1) := Lib.hid ⟨HMG.out.os, HMG.out.tape, HMG.out.output, HMG.out.size, fun k hk => HMG.out.block k hk (by simp)⟩
  have HA : Hid (Adds w w1) := Lib.hid (((Adds.refl w).alloc _).trans HA0.out)
  have HBX := Lib.hid ((Box.new w #[.int .i64 x, .int .i64 d, .int .i64 s] 80).later HA0.out)
  clear hor hr1 HMO HMG
  go_loopw [20] (fun i wr => ∃ k : Nat, k ≤ 2 ∧ i = .int .i64 k ∧ Hid (∃ F, FillAt f l x V k F ∧ RowI 2 .i64 wr (w.heap.size + 1) l.length F) ∧ Hid (Box wr w.heap.size #[.int .i64 x, .int .i64 d, .int .i64 s] 80) ∧ Adds w wr) (fun i _ => 2 - (intOf i).toNat)
  case atStart => exact ⟨0, by omega, rfl, Lib.hid ⟨_, rfl, HR.out⟩, HBX, HA.out⟩
  case round =>
    obtain ⟨k, hk, rfl, hfill, hbox, hb⟩ := hrel
    obtain ⟨F, hfa, hrw⟩ := hfill.out
    by_cases hlt : k < 2
    · have HRW := Lib.hid hrw
      have HFL := Lib.hid hfa.len
      have hk01 : k = 0 ∨ k = 1 := by omega
      have x0 := hbox.out.cell 0
      simp only [List.getElem?_toArray, List.getElem?_cons_zero] at x0
      have hx0 := hbox.out.lt
      clear hrw hfill
      rcases hk01 with rfl | rfl
      all_goals have HFA := Lib.hid hfa
      all_goals clear hfa
      all_goals simp only [Int.natCast_zero, Int.natCast_one]
      · have hsx := side0
        go_upto_region 7 with (first
          | (go_at_call 88; refine (ranked_any m HST.out p cap l x 1 _ hN HMM.out (HL.out.later hb) HO.out).mono ?_; rintro e w2 ⟨v, R, r1, rfl, r2, r3⟩; have HRK := Lib.hid r1; have HRO := Lib.hid r2; have HB2 := Lib.hid r3; have HBX2 := Lib.hid (hbox.out.later r3); have b0 := HBX2.out.cell 0; have b1 := HBX2.out.cell 1; have b2 := HBX2.out.cell 2; simp only [List.getElem?_toArray, List.getElem?_cons_zero, List.getElem?_cons_succ] at b0 b1 b2; clear r1 r2 r3)
          | (go_at_call 47; refine (hvol _).mono ?_; rintro e w3 ⟨rfl, hb3⟩; have HB3 := Lib.hid (HB2.out.trans hb3); have HQ3 := Lib.hid hb3; clear hb3))
        clear hsx
        have hrow3 := HRW.out.later HB3.out
        have hz1 := HRW.out.lt
        have hsv : ∃ qp qcap, v = .slice qp R.length qcap ∧ Serving f l (w.heap.size + 1) (serveT f l R.length V R F) V R qp qcap w3 := by
          have hsum := rank_sum HRK.out (by omega)
          have hd0 := dem_bd x l HO.out
          have hs0 := sup_bd x l HO.out
          have hvv : V ≤ (qtyT l R).sum ∧ 0 ≤ V := by
            rw [hsum, HV.out, HD.out, HS.out]
            simp only [if_true]
            omega
          rcases (own_rowI HRO.out).2 with ⟨hv, hnil⟩ | ⟨g, qcap, hv, hbase, hri⟩
          · subst hnil
            exact ⟨none, 0, hv, ⟨⟨F, _, Nat.le_refl _, rfl, HFL.out, hrow3⟩, (fun i y hy => by simp at hy), (fun g off h => by cases h), Nat.le_refl _, hvv.2, hvv.1, (fun n hn => by simp at hn), Nat.zero_le _⟩⟩
          · exact ⟨some ⟨g, 0, none⟩, qcap, hv, ⟨⟨F, _, Nat.le_refl _, rfl, HFL.out, hrow3⟩, (hri.later HQ3.out).at1, (fun g' off h => by cases h; omega), hri.len.1, hvv.2, hvv.1, rank_in HRK.out, rank_len HRK.out⟩⟩
        obtain ⟨qp, qcap, rfl, hsv⟩ := hsv
        have HSV := Lib.hid hsv
        have HBX3 := Lib.hid (HBX2.out.later HQ3.out)
        have HA3 := Lib.hid (hb.trans HB3.out)
        have HFI : Hid (serveT f l R.length V R F = serveT f l R.length V R F) := Lib.hid rfl
        obtain ⟨FIN, hFIN⟩ : ∃ FIN, FIN = serveT f l R.length V R F := ⟨_, rfl⟩
        rw [← hFIN] at HSV
        have HFK := Lib.hid hFIN
        clear hFIN hsv hrow3 hz1 b0 b1 b2 HFI HRO
        go_loopw [10, 11] (fun vq vl wr => ∃ left Q qp qcap, vl = .int .i64 left ∧ vq = .slice qp Q.length qcap ∧ Hid (Serving f l (w.heap.size + 1) FIN left Q qp qcap wr) ∧ Hid (Box wr w.heap.size #[.int .i64 x, .int .i64 d, .int .i64 s] 80) ∧ Adds w wr) (fun vq _ _ => sliceLen vq)
        case atStart => exact ⟨V, R, qp, qcap, rfl, rfl, HSV, HBX3, HA3.out⟩
        case round =>
          obtain ⟨left, Q, qp', qcap', rfl, rfl, hsv, hbx, hb4⟩ := hrel
          by_cases hleft : 0 < left
          · obtain ⟨⟨F4, n4, hn4, hs4, hl4, hr4⟩, hq4, hap4, hcap4, hl0, hl1, hin4, hsh4⟩ := hsv.out
            have hQp : 0 < Q.length := by
              cases Q with
              | nil => simp [qtyT] at hl1; omega
              | cons a b => simp
            have hQL : Q.length ≤ 5000 := by omega
            have hGp := grp_pos (l := l) hQp
            have hGl := grp_le l Q
            have hGin : ∀ n ∈ grpT l Q, 0 ≤ n ∧ n < l.length := fun n hn => hin4 n (by rw [grp_take] at hn; exact List.mem_of_mem_take hn)
            have hGat : At1 .i64 wr qp' (grpT l Q) := fun i y hy => hq4 i y (by rw [grp_take, List.getElem?_take] at hy; split at hy <;> first | exact hy | cases hy)
            have hqok := qty_ok HO.out hGin
            have hleftb : left ≤ 5000000000000 := by have := sum_take_bd _ (qty_ok HO.out hin4); have e : (qtyT l Q).length = Q.length := by simp [qtyT]
                                                     omega
            have hqsplit := qty_split l Q
            obtain ⟨hf1, hf2, hf3⟩ := HFS.out left (qtyT l (grpT l Q)) hl0 hqok
            have hqlen : (qtyT l (grpT l Q)).length = (grpT l Q).length := by simp [qtyT]
            have HSAME := Lib.hid (same_any l p cap qp' qcap' Q wr hN hQL (HL.out.later hb4) hq4 hin4 hQp hcap4)
            have HQTY := Lib.hid (fun (W : World) (hW : Adds wr W) => quantities_any p cap l qp' qcap' (grpT l Q) W (by omega) hN (HL.out.later (hb4.trans hW)) (hGat.later hW) hGin)
            have HGATT := Lib.hid hGat
            have HGIN := Lib.hid hGin
            have HQOK := Lib.hid hqok
            have HF1 := Lib.hid hf1
            have HF2 := Lib.hid hf2
            have HF3 := Lib.hid hf3
            have HQL := Lib.hid hqlen
            have HSPL := Lib.hid hqsplit
            obtain ⟨n5, rfl⟩ : ∃ n5, n4 = n5 + 1 := ⟨n4 - 1, by omega⟩
            rw [serveT, if_pos hleft] at hs4
            have HS4 := Lib.hid hs4
            have HL4 := Lib.hid hl4
            have HR4 := Lib.hid hr4
            have HQ4 := Lib.hid hq4
            have HAP4 := Lib.hid hap4
            have HIN4 := Lib.hid hin4
            have HL1 := Lib.hid hl1
            have hsumok : Hid ((f left (qtyT l (grpT l Q))).sum ≤ left) := Lib.hid (by rw [HF2.out]; omega)
            have hsum0 : Hid (0 ≤ (f left (qtyT l (grpT l Q))).sum) := Lib.hid (sum_take_bd _ hf3).1
            have hglen : Hid ((f left (qtyT l (grpT l Q))).length = (grpT l Q).length) := Lib.hid (hf1.trans hqlen)
            obtain ⟨GV, hGV⟩ : ∃ GV, GV = f left (qtyT l (grpT l Q)) := ⟨_, rfl⟩
            rw [← hGV] at HS4 HF1 HF2 HF3 hsumok hsum0 hglen
            have HGV := Lib.hid hGV
            obtain ⟨gn, hgn⟩ : ∃ gn, gn = (grpT l Q).length := ⟨_, rfl⟩
            rw [← hgn] at hGp hGl HSAME HQL hglen HS4
            have HGN := Lib.hid hgn
            have HQTY2 : Hid (∀ W, Adds wr W → Calls Try.prog 91 #[.slice p l.length cap, .slice qp' gn qcap'] W (RowGotN 2 gn (qtyT l (grpT l Q)) W)) := Lib.hid (fun W hW => by
              have h1 := HQTY.out W hW
              rw [← HGN.out] at h1
              have e1 : ((grpT l Q).map fun n => (l[n.toNat]!).2.2).length = gn := HQL.out
              unfold RowGot at h1
              rw [e1] at h1
              exact h1)
            have HSH2 : Hid (∀ g6 cap6 W, RowI 2 .i64 W g6 cap6 (qtyT l (grpT l Q)) → Calls Try.prog 90 #[.int .i64 left, .slice (some ⟨g6, 0, none⟩) gn cap6, .int .i64 rule] W (RowGotN 2 gn GV W)) := Lib.hid (fun g6 cap6 W hW => by
              have h1 := HSH.out left (some ⟨g6, 0, none⟩) cap6 (qtyT l (grpT l Q)) W (by have := HMM.out; rw [HQL.out]; omega) hW.at1 HQOK.out hl0 hleftb
              rw [HQL.out, ← HGV.out] at h1
              unfold RowGot at h1
              rw [hglen.out] at h1
              exact h1)
            clear hGin hGat hqok hf1 hf2 hf3 hqlen hqsplit hs4 hl4 hr4 hq4 hap4 hin4 hl1 hGV hgn hsv
            go_upto_region 10 with (first
              | (go_at_call 89; refine HSAME.out.mono ?_; rintro e w5 ⟨rfl, hb5⟩; have B5 := Lib.hid hb5; clear hb5)
              | (go_at_call 91; refine (HQTY2.out _ B5.out).mono ?_; rintro e w6 ⟨g6, cap6, rfl, r1, r2, r3⟩; have R61 := Lib.hid r1; have R62 := Lib.hid r2; have B6 := Lib.hid (B5.out.trans r3); clear r1 r2 r3)
              | (go_at_call 90; refine (HSH2.out g6 cap6 _ R62.out).mono ?_; rintro e w7 ⟨g7, cap7, rfl, r1, r2, r3⟩; have R71 := Lib.hid r1; have R72 := Lib.hid r2; have B7 := Lib.hid (B6.out.trans r3); clear r1 r2 r3))
            have hgF : w.heap.size + 1 < wr.heap.size := HR4.out.lt
            have hz6 := B6.out.size
            have hg7 := R71.out
            have hq1 : ∃ gq oq, qp' = some ⟨gq, oq, none⟩ := by
              obtain ⟨y, hy⟩ : ∃ t, (grpT l Q)[0]? = some t := ⟨_, List.getElem?_eq_getElem (by rw [← HGN.out]; exact hGp)⟩
              obtain ⟨a, b, e, _⟩ := HGATT.out 0 y hy
              exact ⟨a, b, e⟩
            obtain ⟨gq, oq, rfl⟩ := hq1
            have hgq : ¬ gq = w.heap.size + 1 := HAP4.out _ _ rfl
            have hg7F : ¬ g7 = w.heap.size + 1 := by omega
            have HR7 := Lib.hid (HR4.out.later B7.out)
            have HTK : Hid (((grpT l Q).zip GV).take gn = (grpT l Q).zip GV) := Lib.hid (List.take_of_length_le (by rw [List.length_zip, ← HGN.out, hglen.out]; omega))
            go_wp2
            go_loopw [43] (fun vj wz => ∃ j : Nat, j ≤ gn ∧ vj = .int .i64 j ∧ Hid (RowI 2 .i64 wz (w.heap.size + 1) l.length (putT F4 (((grpT l Q).zip GV).take j))) ∧ Touch (fun k => k = w.heap.size + 1) w7 wz) (fun vj _ => gn - (intOf vj).toNat)
            case atStart => exact ⟨0, by omega, rfl, Lib.hid (by simpa [putT] using HR7.out), Touch.refl _ w7⟩
            case round =>
              obtain ⟨j, hj, rfl, hrj, htj⟩ := hrel
              by_cases hlj : j < gn
              · obtain ⟨n, hn⟩ : ∃ t, (grpT l Q)[j]? = some t := ⟨_, List.getElem?_eq_getElem (by rw [← HGN.out]; exact hlj)⟩
                obtain ⟨y, hy⟩ : ∃ t, GV[j]? = some t := ⟨_, List.getElem?_eq_getElem (by rw [hglen.out]; exact hlj)⟩
                obtain ⟨hn1, hn2⟩ := HGIN.out n (List.mem_of_getElem? hn)
                obtain ⟨mm, rfl⟩ : ∃ mm : Nat, n = (mm : Int) := ⟨n.toNat, by omega⟩
                obtain ⟨_, _, e', d0⟩ := HGATT.out j _ hn
                cases e'
                have c0 := touch_cell htj hgq (keep_cell B7.out d0)
                have c1 := touch_cell htj hg7F (R72.out.cell hy)
                have hzip : ((grpT l Q).zip GV)[j]? = some ((mm : Int), y) := by rw [List.getElem?_zip_eq_some]; exact ⟨hn, hy⟩
                have hlm : mm < l.length := by omega
                have hpl : (putT F4 (((grpT l Q).zip GV).take j)).length = l.length := by rw [putT_len]; exact HL4.out
                obtain ⟨old, hold⟩ : ∃ t, (putT F4 (((grpT l Q).zip GV).take j))[mm]? = some t := ⟨_, List.getElem?_eq_getElem (by rw [hpl]; exact hlm)⟩
                have o0 := hrj.out.cell hold
                have o1 := hrj.out.free mm
                have HPUT := Lib.hid (hrj.out.put mm y)
                have HPN := Lib.hid (putT_next F4 hzip)
                have hlmi : (mm : Int) < (l.length : Int) := by omega
                have hlji : (j : Int) < (gn : Int) := by omega
                clear hn hy hn1 hn2 d0 hzip hpl hold
                go_wp2
                refine ⟨⟨j + 1, by omega, by go_num, Lib.hid ?_, htj.set rfl _⟩, by simp [intOf]; omega⟩
                rw [HPN.out, Int.toNat_natCast]
                exact HPUT.out
              · have hje : j = gn := by omega
                subst hje
                rw [HTK.out] at hrj
                have hsumc : ∀ W, RowI 2 .i64 W g7 cap7 GV → Calls Try.prog 54 #[.slice (some ⟨g7, 0, none⟩) j cap7] W fun e w' => e = .returned (.int .i64 GV.sum) ∧ W = w' := fun W hW => by
                  have := sum_any (some ⟨g7, 0, none⟩) cap7 GV W (by rw [hglen.out]; omega) hW.at1 HF3.out
                  rw [hglen.out] at this
                  exact this
                have HSC := Lib.hid hsumc
                have hsa := hsumok.out
                have hsb := hsum0.out
                obtain ⟨gs, hgs⟩ : ∃ gs, gs = GV.sum := ⟨_, rfl⟩
                rw [← hgs] at hsa hsb HSC
                have HGS := Lib.hid hgs
                have R7z := Lib.hid (R72.out.touch htj hg7F)
                have hqlz : Hid ((Q.drop j).length = Q.length - j) := Lib.hid List.length_drop
                have hbz : Hid (Box _ w.heap.size #[.int .i64 x, .int .i64 d, .int .i64 s] 80) := Lib.hid (by
                  have h1 := hbx.out.later B7.out
                  exact h1.same (htj.same _ h1.lt (by show ¬ w.heap.size = w.heap.size + 1; omega)))
                have hAz : Hid (Adds w wr) := Lib.hid (Touch.adds (hb4.trans B7.out) htj (fun i hi => by rw [hi]; omega))
                have hadd : Hid (∀ i, oq + j + i = oq + (j + i)) := Lib.hid (fun i => by omega)
                have hQ' : Hid (At1 .i64 wr (some ⟨gq, oq + j, none⟩) (Q.drop j)) := Lib.hid (fun i y hy => by
                  rw [List.getElem?_drop] at hy
                  obtain ⟨_, _, e', d0⟩ := HQ4.out _ y hy
                  cases e'
                  exact ⟨gq, oq + j, rfl, by rw [hadd.out]; exact touch_cell htj hgq (keep_cell B7.out d0)⟩)
                have HINS : Hid (∀ n ∈ Q.drop j, 0 ≤ n ∧ n < l.length) := Lib.hid (fun n hn => HIN4.out n (List.mem_of_mem_drop hn))
                have HSPL2 : Hid (left - gs ≤ (qtyT l (Q.drop j)).sum) := Lib.hid (by
                  have h1 := HSPL.out
                  have h2 := HL1.out
                  have h3 := HF2.out
                  have h4 := HGS.out
                  rw [← HGN.out] at h1
                  have h5 := (sum_take_bd _ (qty_ok HO.out HINS.out)).1
                  omega)
                have HROW : Hid (∃ F n, (Q.drop j).length ≤ n ∧ serveT f l n (left - gs) (Q.drop j) F = FIN ∧ F.length = l.length ∧ RowI 2 .i64 wr (w.heap.size + 1) l.length F) := Lib.hid ⟨_, n5, by rw [hqlz.out]; omega, by rw [HGS.out]; exact HS4.out, by rw [putT_len]; exact HL4.out, hrj.out⟩
                clear hsumc hgs
                by_cases hqc : qcap' = j
                · have HE0 : Hid (Q.drop j = []) := Lib.hid (List.drop_eq_nil_of_le (by omega))
                  have hql0 : Hid (Q.length - j = 0) := Lib.hid (by omega)
                  subst hqc
                  go_wp2_with (go_at_call 54; refine (HSC.out _ R7z.out).mono ?_; rintro e w8 ⟨rfl, rfl⟩)
                  refine ⟨⟨left - gs, Q.drop qcap', some ⟨gq, oq, none⟩, 0, rfl, by first | (rw [hqlz.out, hql0.out]; done) | (rw [hqlz.out, hql0.out]; rfl) | (rw [hqlz.out]; simp; omega), Lib.hid ⟨HROW.out, (fun i y hy => by rw [HE0.out] at hy; simp at hy), HAP4.out, by rw [hqlz.out, hql0.out]; exact Nat.le_refl _, by omega, HSPL2.out, HINS.out, by rw [hqlz.out]; omega⟩, hbz, hAz.out⟩, by simp [sliceLen]; omega⟩
                · have hqc2 : j ≤ qcap' := by omega
                  go_wp2_with (go_at_call 54; refine (HSC.out _ R7z.out).mono ?_; rintro e w8 ⟨rfl, rfl⟩)
                  refine ⟨⟨left - gs, Q.drop j, some ⟨gq, oq + j, none⟩, qcap' - j, rfl, by first | (rw [hqlz.out]; done) | (rw [hqlz.out]; rfl) | (rw [hqlz.out]; simp), Lib.hid ⟨HROW.out, hQ'.out, (fun g off h => by cases h; exact hgq), by rw [hqlz.out]; omega, by omega, HSPL2.out, HINS.out, by rw [hqlz.out]; omega⟩, hbz, hAz.out⟩, by simp [sliceLen]; omega⟩
          · have hend := serving_end hsv.out hleft
            go_wp2
            refine ⟨⟨1, by omega, by go_num, Lib.hid ⟨FIN, ⟨R, HRK.out, by rw [HFK.out]; have := HFA.out; unfold FillAt at this; rw [this]⟩, hend⟩, hbx, hb4⟩, by simp [intOf]⟩
      · have hsx := side1
        go_upto_region 7 with (first
          | (go_at_call 88; refine (ranked_any m HST.out p cap l x 2 _ hN HMM.out (HL.out.later hb) HO.out).mono ?_; rintro e w2 ⟨v, R, r1, rfl, r2, r3⟩; have HRK := Lib.hid r1; have HRO := Lib.hid r2; have HB2 := Lib.hid r3; have HBX2 := Lib.hid (hbox.out.later r3); have b0 := HBX2.out.cell 0; have b1 := HBX2.out.cell 1; have b2 := HBX2.out.cell 2; simp only [List.getElem?_toArray, List.getElem?_cons_zero, List.getElem?_cons_succ] at b0 b1 b2; clear r1 r2 r3)
          | (go_at_call 47; refine (hvol _).mono ?_; rintro e w3 ⟨rfl, hb3⟩; have HB3 := Lib.hid (HB2.out.trans hb3); have HQ3 := Lib.hid hb3; clear hb3))
        clear hsx
        have hrow3 := HRW.out.later HB3.out
        have hz1 := HRW.out.lt
        have hsv : ∃ qp qcap, v = .slice qp R.length qcap ∧ Serving f l (w.heap.size + 1) (serveT f l R.length V R F) V R qp qcap w3 := by
          have hsum := rank_sum HRK.out (by omega)
          have hd0 := dem_bd x l HO.out
          have hs0 := sup_bd x l HO.out
          have hvv : V ≤ (qtyT l R).sum ∧ 0 ≤ V := by
            rw [hsum, HV.out, HD.out, HS.out]
            simp only [show ¬ ((2 : Int) = 1) by omega, if_false]
            omega
          rcases (own_rowI HRO.out).2 with ⟨hv, hnil⟩ | ⟨g, qcap, hv, hbase, hri⟩
          · subst hnil
            exact ⟨none, 0, hv, ⟨⟨F, _, Nat.le_refl _, rfl, HFL.out, hrow3⟩, (fun i y hy => by simp at hy), (fun g off h => by cases h), Nat.le_refl _, hvv.2, hvv.1, (fun n hn => by simp at hn), Nat.zero_le _⟩⟩
          · exact ⟨some ⟨g, 0, none⟩, qcap, hv, ⟨⟨F, _, Nat.le_refl _, rfl, HFL.out, hrow3⟩, (hri.later HQ3.out).at1, (fun g' off h => by cases h; omega), hri.len.1, hvv.2, hvv.1, rank_in HRK.out, rank_len HRK.out⟩⟩
        obtain ⟨qp, qcap, rfl, hsv⟩ := hsv
        have HSV := Lib.hid hsv
        have HBX3 := Lib.hid (HBX2.out.later HQ3.out)
        have HA3 := Lib.hid (hb.trans HB3.out)
        have HFI : Hid (serveT f l R.length V R F = serveT f l R.length V R F) := Lib.hid rfl
        obtain ⟨FIN, hFIN⟩ : ∃ FIN, FIN = serveT f l R.length V R F := ⟨_, rfl⟩
        rw [← hFIN] at HSV
        have HFK := Lib.hid hFIN
        clear hFIN hsv hrow3 hz1 b0 b1 b2 HFI HRO
        go_loopw [10, 11] (fun vq vl wr => ∃ left Q qp qcap, vl = .int .i64 left ∧ vq = .slice qp Q.length qcap ∧ Hid (Serving f l (w.heap.size + 1) FIN left Q qp qcap wr) ∧ Hid (Box wr w.heap.size #[.int .i64 x, .int .i64 d, .int .i64 s] 80) ∧ Adds w wr) (fun vq _ _ => sliceLen vq)
        case atStart => exact ⟨V, R, qp, qcap, rfl, rfl, HSV, HBX3, HA3.out⟩
        case round =>
          obtain ⟨left, Q, qp', qcap', rfl, rfl, hsv, hbx, hb4⟩ := hrel
          by_cases hleft : 0 < left
          · obtain ⟨⟨F4, n4, hn4, hs4, hl4, hr4⟩, hq4, hap4, hcap4, hl0, hl1, hin4, hsh4⟩ := hsv.out
            have hQp : 0 < Q.length := by
              cases Q with
              | nil => simp [qtyT] at hl1; omega
              | cons a b => simp
            have hQL : Q.length ≤ 5000 := by omega
            have hGp := grp_pos (l := l) hQp
            have hGl := grp_le l Q
            have hGin : ∀ n ∈ grpT l Q, 0 ≤ n ∧ n < l.length := fun n hn => hin4 n (by rw [grp_take] at hn; exact List.mem_of_mem_take hn)
            have hGat : At1 .i64 wr qp' (grpT l Q) := fun i y hy => hq4 i y (by rw [grp_take, List.getElem?_take] at hy; split at hy <;> first | exact hy | cases hy)
            have hqok := qty_ok HO.out hGin
            have hleftb : left ≤ 5000000000000 := by have := sum_take_bd _ (qty_ok HO.out hin4); have e : (qtyT l Q).length = Q.length := by simp [qtyT]
                                                     omega
            have hqsplit := qty_split l Q
            obtain ⟨hf1, hf2, hf3⟩ := HFS.out left (qtyT l (grpT l Q)) hl0 hqok
            have hqlen : (qtyT l (grpT l Q)).length = (grpT l Q).length := by simp [qtyT]
            have HSAME := Lib.hid (same_any l p cap qp' qcap' Q wr hN hQL (HL.out.later hb4) hq4 hin4 hQp hcap4)
            have HQTY := Lib.hid (fun (W : World) (hW : Adds wr W) => quantities_any p cap l qp' qcap' (grpT l Q) W (by omega) hN (HL.out.later (hb4.trans hW)) (hGat.later hW) hGin)
            have HGATT := Lib.hid hGat
            have HGIN := Lib.hid hGin
            have HQOK := Lib.hid hqok
            have HF1 := Lib.hid hf1
            have HF2 := Lib.hid hf2
            have HF3 := Lib.hid hf3
            have HQL := Lib.hid hqlen
            have HSPL := Lib.hid hqsplit
            obtain ⟨n5, rfl⟩ : ∃ n5, n4 = n5 + 1 := ⟨n4 - 1, by omega⟩
            rw [serveT, if_pos hleft] at hs4
            have HS4 := Lib.hid hs4
            have HL4 := Lib.hid hl4
            have HR4 := Lib.hid hr4
            have HQ4 := Lib.hid hq4
            have HAP4 := Lib.hid hap4
            have HIN4 := Lib.hid hin4
            have HL1 := Lib.hid hl1
            have hsumok : Hid ((f left (qtyT l (grpT l Q))).sum ≤ left) := Lib.hid (by rw [HF2.out]; omega)
            have hsum0 : Hid (0 ≤ (f left (qtyT l (grpT l Q))).sum) := Lib.hid (sum_take_bd _ hf3).1
            have hglen : Hid ((f left (qtyT l (grpT l Q))).length = (grpT l Q).length) := Lib.hid (hf1.trans hqlen)
            obtain ⟨GV, hGV⟩ : ∃ GV, GV = f left (qtyT l (grpT l Q)) := ⟨_, rfl⟩
            rw [← hGV] at HS4 HF1 HF2 HF3 hsumok hsum0 hglen
            have HGV := Lib.hid hGV
            obtain ⟨gn, hgn⟩ : ∃ gn, gn = (grpT l Q).length := ⟨_, rfl⟩
            rw [← hgn] at hGp hGl HSAME HQL hglen HS4
            have HGN := Lib.hid hgn
            have HQTY2 : Hid (∀ W, Adds wr W → Calls Try.prog 91 #[.slice p l.length cap, .slice qp' gn qcap'] W (RowGotN 2 gn (qtyT l (grpT l Q)) W)) := Lib.hid (fun W hW => by
              have h1 := HQTY.out W hW
              rw [← HGN.out] at h1
              have e1 : ((grpT l Q).map fun n => (l[n.toNat]!).2.2).length = gn := HQL.out
              unfold RowGot at h1
              rw [e1] at h1
              exact h1)
            have HSH2 : Hid (∀ g6 cap6 W, RowI 2 .i64 W g6 cap6 (qtyT l (grpT l Q)) → Calls Try.prog 90 #[.int .i64 left, .slice (some ⟨g6, 0, none⟩) gn cap6, .int .i64 rule] W (RowGotN 2 gn GV W)) := Lib.hid (fun g6 cap6 W hW => by
              have h1 := HSH.out left (some ⟨g6, 0, none⟩) cap6 (qtyT l (grpT l Q)) W (by have := HMM.out; rw [HQL.out]; omega) hW.at1 HQOK.out hl0 hleftb
              rw [HQL.out, ← HGV.out] at h1
              unfold RowGot at h1
              rw [hglen.out] at h1
              exact h1)
            clear hGin hGat hqok hf1 hf2 hf3 hqlen hqsplit hs4 hl4 hr4 hq4 hap4 hin4 hl1 hGV hgn hsv
            go_upto_region 10 with (first
              | (go_at_call 89; refine HSAME.out.mono ?_; rintro e w5 ⟨rfl, hb5⟩; have B5 := Lib.hid hb5; clear hb5)
              | (go_at_call 91; refine (HQTY2.out _ B5.out).mono ?_; rintro e w6 ⟨g6, cap6, rfl, r1, r2, r3⟩; have R61 := Lib.hid r1; have R62 := Lib.hid r2; have B6 := Lib.hid (B5.out.trans r3); clear r1 r2 r3)
              | (go_at_call 90; refine (HSH2.out g6 cap6 _ R62.out).mono ?_; rintro e w7 ⟨g7, cap7, rfl, r1, r2, r3⟩; have R71 := Lib.hid r1; have R72 := Lib.hid r2; have B7 := Lib.hid (B6.out.trans r3); clear r1 r2 r3))
            have hgF : w.heap.size + 1 < wr.heap.size := HR4.out.lt
            have hz6 := B6.out.size
            have hg7 := R71.out
            have hq1 : ∃ gq oq, qp' = some ⟨gq, oq, none⟩ := by
              obtain ⟨y, hy⟩ : ∃ t, (grpT l Q)[0]? = some t := ⟨_, List.getElem?_eq_getElem (by rw [← HGN.out]; exact hGp)⟩
              obtain ⟨a, b, e, _⟩ := HGATT.out 0 y hy
              exact ⟨a, b, e⟩
            obtain ⟨gq, oq, rfl⟩ := hq1
            have hgq : ¬ gq = w.heap.size + 1 := HAP4.out _ _ rfl
            have hg7F : ¬ g7 = w.heap.size + 1 := by omega
            have HR7 := Lib.hid (HR4.out.later B7.out)
            have HTK : Hid (((grpT l Q).zip GV).take gn = (grpT l Q).zip GV) := Lib.hid (List.take_of_length_le (by rw [List.length_zip, ← HGN.out, hglen.out]; omega))
            go_wp2
            go_loopw [43] (fun vj wz => ∃ j : Nat, j ≤ gn ∧ vj = .int .i64 j ∧ Hid (RowI 2 .i64 wz (w.heap.size + 1) l.length (putT F4 (((grpT l Q).zip GV).take j))) ∧ Touch (fun k => k = w.heap.size + 1) w7 wz) (fun vj _ => gn - (intOf vj).toNat)
            case atStart => exact ⟨0, by omega, rfl, Lib.hid (by simpa [putT] using HR7.out), Touch.refl _ w7⟩
            case round =>
              obtain ⟨j, hj, rfl, hrj, htj⟩ := hrel
              by_cases hlj : j < gn
              · obtain ⟨n, hn⟩ : ∃ t, (grpT l Q)[j]? = some t := ⟨_, List.getElem?_eq_getElem (by rw [← HGN.out]; exact hlj)⟩
                obtain ⟨y, hy⟩ : ∃ t, GV[j]? = some t := ⟨_, List.getElem?_eq_getElem (by rw [hglen.out]; exact hlj)⟩
                obtain ⟨hn1, hn2⟩ := HGIN.out n (List.mem_of_getElem? hn)
                obtain ⟨mm, rfl⟩ : ∃ mm : Nat, n = (mm : Int) := ⟨n.toNat, by omega⟩
                obtain ⟨_, _, e', d0⟩ := HGATT.out j _ hn
                cases e'
                have c0 := touch_cell htj hgq (keep_cell B7.out d0)
                have c1 := touch_cell htj hg7F (R72.out.cell hy)
                have hzip : ((grpT l Q).zip GV)[j]? = some ((mm : Int), y) := by rw [List.getElem?_zip_eq_some]; exact ⟨hn, hy⟩
                have hlm : mm < l.length := by omega
                have hpl : (putT F4 (((grpT l Q).zip GV).take j)).length = l.length := by rw [putT_len]; exact HL4.out
                obtain ⟨old, hold⟩ : ∃ t, (putT F4 (((grpT l Q).zip GV).take j))[mm]? = some t := ⟨_, List.getElem?_eq_getElem (by rw [hpl]; exact hlm)⟩
                have o0 := hrj.out.cell hold
                have o1 := hrj.out.free mm
                have HPUT := Lib.hid (hrj.out.put mm y)
                have HPN := Lib.hid (putT_next F4 hzip)
                have hlmi : (mm : Int) < (l.length : Int) := by omega
                have hlji : (j : Int) < (gn : Int) := by omega
                clear hn hy hn1 hn2 d0 hzip hpl hold
                go_wp2
                refine ⟨⟨j + 1, by omega, by go_num, Lib.hid ?_, htj.set rfl _⟩, by simp [intOf]; omega⟩
                rw [HPN.out, Int.toNat_natCast]
                exact HPUT.out
              · have hje : j = gn := by omega
                subst hje
                rw [HTK.out] at hrj
                have hsumc : ∀ W, RowI 2 .i64 W g7 cap7 GV → Calls Try.prog 54 #[.slice (some ⟨g7, 0, none⟩) j cap7] W fun e w' => e = .returned (.int .i64 GV.sum) ∧ W = w' := fun W hW => by
                  have := sum_any (some ⟨g7, 0, none⟩) cap7 GV W (by rw [hglen.out]; omega) hW.at1 HF3.out
                  rw [hglen.out] at this
                  exact this
                have HSC := Lib.hid hsumc
                have hsa := hsumok.out
                have hsb := hsum0.out
                obtain ⟨gs, hgs⟩ : ∃ gs, gs = GV.sum := ⟨_, rfl⟩
                rw [← hgs] at hsa hsb HSC
                have HGS := Lib.hid hgs
                have R7z := Lib.hid (R72.out.touch htj hg7F)
                have hqlz : Hid ((Q.drop j).length = Q.length - j) := Lib.hid List.length_drop
                have hbz : Hid (Box _ w.heap.size #[.int .i64 x, .int .i64 d, .int .i64 s] 80) := Lib.hid (by
                  have h1 := hbx.out.later B7.out
                  exact h1.same (htj.same _ h1.lt (by show ¬ w.heap.size = w.heap.size + 1; omega)))
                have hAz : Hid (Adds w wr) := Lib.hid (Touch.adds (hb4.trans B7.out) htj (fun i hi => by rw [hi]; omega))
                have hadd : Hid (∀ i, oq + j + i = oq + (j + i)) := Lib.hid (fun i => by omega)
                have hQ' : Hid (At1 .i64 wr (some ⟨gq, oq + j, none⟩) (Q.drop j)) := Lib.hid (fun i y hy => by
                  rw [List.getElem?_drop] at hy
                  obtain ⟨_, _, e', d0⟩ := HQ4.out _ y hy
                  cases e'
                  exact ⟨gq, oq + j, rfl, by rw [hadd.out]; exact touch_cell htj hgq (keep_cell B7.out d0)⟩)
                have HINS : Hid (∀ n ∈ Q.drop j, 0 ≤ n ∧ n < l.length) := Lib.hid (fun n hn => HIN4.out n (List.mem_of_mem_drop hn))
                have HSPL2 : Hid (left - gs ≤ (qtyT l (Q.drop j)).sum) := Lib.hid (by
                  have h1 := HSPL.out
                  have h2 := HL1.out
                  have h3 := HF2.out
                  have h4 := HGS.out
                  rw [← HGN.out] at h1
                  have h5 := (sum_take_bd _ (qty_ok HO.out HINS.out)).1
                  omega)
                have HROW : Hid (∃ F n, (Q.drop j).length ≤ n ∧ serveT f l n (left - gs) (Q.drop j) F = FIN ∧ F.length = l.length ∧ RowI 2 .i64 wr (w.heap.size + 1) l.length F) := Lib.hid ⟨_, n5, by rw [hqlz.out]; omega, by rw [HGS.out]; exact HS4.out, by rw [putT_len]; exact HL4.out, hrj.out⟩
                clear hsumc hgs
                by_cases hqc : qcap' = j
                · have HE0 : Hid (Q.drop j = []) := Lib.hid (List.drop_eq_nil_of_le (by omega))
                  have hql0 : Hid (Q.length - j = 0) := Lib.hid (by omega)
                  subst hqc
                  go_wp2_with (go_at_call 54; refine (HSC.out _ R7z.out).mono ?_; rintro e w8 ⟨rfl, rfl⟩)
                  refine ⟨⟨left - gs, Q.drop qcap', some ⟨gq, oq, none⟩, 0, rfl, by first | (rw [hqlz.out, hql0.out]; done) | (rw [hqlz.out, hql0.out]; rfl) | (rw [hqlz.out]; simp; omega), Lib.hid ⟨HROW.out, (fun i y hy => by rw [HE0.out] at hy; simp at hy), HAP4.out, by rw [hqlz.out, hql0.out]; exact Nat.le_refl _, by omega, HSPL2.out, HINS.out, by rw [hqlz.out]; omega⟩, hbz, hAz.out⟩, by simp [sliceLen]; omega⟩
                · have hqc2 : j ≤ qcap' := by omega
                  go_wp2_with (go_at_call 54; refine (HSC.out _ R7z.out).mono ?_; rintro e w8 ⟨rfl, rfl⟩)
                  refine ⟨⟨left - gs, Q.drop j, some ⟨gq, oq + j, none⟩, qcap' - j, rfl, by first | (rw [hqlz.out]; done) | (rw [hqlz.out]; rfl) | (rw [hqlz.out]; simp), Lib.hid ⟨HROW.out, hQ'.out, (fun g off h => by cases h; exact hgq), by rw [hqlz.out]; omega, by omega, HSPL2.out, HINS.out, by rw [hqlz.out]; omega⟩, hbz, hAz.out⟩, by simp [sliceLen]; omega⟩
          · have hend := serving_end hsv.out hleft
            go_wp2
            refine ⟨⟨2, by omega, by go_num, Lib.hid ⟨FIN, by obtain ⟨R0, q1, q2⟩ := HFA.out; exact ⟨R0, R, q1, HRK.out, by rw [HFK.out, q2]⟩, hend⟩, hbx, hb4⟩, by simp [intOf]⟩
    · have hk2 : k = 2 := by omega
      subst hk2
      have HFA := Lib.hid hfa
      have HRW := Lib.hid hrw
      clear hfa hrw hfill
      go_wp2
      go_ret
      exact ⟨w.heap.size + 1, F, HFA.out, rfl, by omega, HRW.out, hb⟩

end Go.Proofs.Ytigpghmbeldakaa
