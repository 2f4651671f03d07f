/- shows: a version of a register against runs. -/
import Derived.Test.YtofaioabjkcaiaaCP
import Derived.Test.YtofaioabjkcaiaaCB
import Derived.Test.YtofaioabjkcaiaaBZ
import Derived.Test.YtofaioabjkcaiaaAN
import Derived.Deep.QuietTactic
import Derived.Deep.RegionHeld3
import Derived.Deep.DeepCutAuto
import Derived.Deep.CutBlock
import Derived.BigRegion
namespace Go.Proofs.Ytofaioabjkcaiaa
open Go.RowKit

/-- The four places next to a run. -/
def fourAt (a c : Int) (j : Nat) : Int := if j = 0 then a - 1 else if j = 1 then a else if j = 2 then c else c + 1

theorem four_cells {W : World} {b : Nat} {a c : Int} {t : TypeId} (h : Box W b #[.int .i64 (a - 1), .int .i64 a, .int .i64 c, .int .i64 (c + 1)] t) {j : Nat} (hj : j < 4) : W.cell? ⟨b, j, none⟩ = some (.int .i64 (fourAt a c j)) := by
  match j, hj with
  | 0, _ => exact h.cell 0
  | 1, _ => exact h.cell 1
  | 2, _ => exact h.cell 2
  | 3, _ => exact h.cell 3

theorem tree_cover {B : Nat} {w : World} {s : Nat} {v : Value} {bs : List Nat} {Ts : List Tree} (h : StockAt B w s v bs Ts) {a : Nat} (ha : a ≤ bs.length) : (treeOf Ts a).ok 1 1000000 := by
  unfold treeOf
  split
  · exact ⟨rfl, rfl, by omega⟩
  · have hl := h.len
    have e1 : bs[a - 1]? = some (bs[a - 1]'(by omega)) := List.getElem?_eq_getElem _
    have e2 : Ts[a - 1]? = some (Ts[a - 1]'(by omega)) := List.getElem?_eq_getElem _
    rw [List.getD_eq_getElem?_getD, e2]
    exact (h.tree _ _ _ e1 e2).2

set_option maxRecDepth 100000 in
set_option maxHeartbeats 8000000 in
theorem shows_any (s : Nat) (v : Value) (bs : List Nat) (Ts : List Tree) (ver : Nat) (lv : Value) (L : List Piece) (w : World) (hS : StockAt w.heap.size w s v bs Ts) (hver : ver ≤ bs.length) (hL : RunsAt w lv L) (hC : Can (treeOf Ts ver).look L 1000001) (hG : ∀ k, 1 ≤ k → k ≤ 1000000 → GoodP ((treeOf Ts ver).look k)) :
    Calls Try.prog 17 #[.pointer (some ⟨s, 0, none⟩), .int .i64 ver, lv] w fun e w' => e = .returned (.bool true) ∧ Adds w w' := by
  have HS := Lib.hid hS
  have HL := Lib.hid hL
  have HC := Lib.hid hC
  have HG := Lib.hid hG
  have HV := Lib.hid hver
  have HOK := Lib.hid (tree_cover hS hver)
  have hlen := hC.len
  have hAt : Hid (∀ (y : Int) (W : World), 1 ≤ y → y ≤ 1000000 → Adds w W → Calls Try.prog 52 #[lv, .int .i64 y] W fun e w' => e = .returned ((treeOf Ts ver).look y).val ∧ Adds W w') := Lib.hid (fun y W h1 h2 hA => At_R lv L y _ W (hL.later hA) hC h1 h2)
  have hMem : Hid (∀ (W : World), Adds w W → Calls Try.prog 53 #[lv] W fun e w' => ∃ u ms, e = .returned u ∧ NumsAt w' u ms ∧ (∀ m ∈ ms, 0 ≤ m ∧ m ≤ 1000) ∧ ms.length ≤ 2000001 ∧ Adds W w') := Lib.hid (fun W hA => members_any lv L W (hL.later hA) hC.len (fun x hx => by
    obtain ⟨x1, x2, x3, _, x5⟩ := hC.one x hx
    have := hG x.1 x1 (by omega)
    rw [x5 x.1 (by omega) x2] at this
    exact ⟨⟨this.2.1, this.2.2.1⟩, this.2.2.2.1, this.2.2.2.2⟩))
  clear hS hC hG hver hL
  obtain ⟨p, cap, rfl, hc⟩ := HL.out
  obtain ⟨n, hn⟩ : ∃ n, n = L.length := ⟨_, rfl⟩
  rw [← hn] at hlen HL hAt hMem ⊢
  have HNL := Lib.hid hn
  have HCL := Lib.hid hc
  clear hn hc
  go_enter Try.func17, Try.ntmps17
  go_upto_block 0 with fail
  go_cut [] (fun wc => Hid (Adds w wc))
  case first =>
    go_wp2_with fail
    go_loopw [7] (fun v7 wr => ∃ k : Nat, k ≤ n ∧ v7 = .int .i64 k ∧ Hid (Adds w wr)) (fun v7 _ => n - (intOf v7).toNat)
    case atStart => exact ⟨0, by omega, rfl, Lib.hid (Adds.refl _)⟩
    case round =>
      obtain ⟨k, hk, rfl, hadd⟩ := hrel
      by_cases hlt : k < n
      · obtain ⟨x, hx⟩ : ∃ x, L[k]? = some x := ⟨_, List.getElem?_eq_getElem (by have := HNL.out; omega)⟩
        obtain ⟨g, rfl, c0, c1, _, _, _, _⟩ := HCL.out k x hx
        have hxb := HC.out.one x (List.mem_of_getElem? hx)
        replace c0 := keep_cell hadd.out c0
        replace c1 := keep_cell hadd.out c1
        obtain ⟨xa, xc, xp⟩ := x
        obtain ⟨h1, h2, h3, -, -⟩ := hxb
        simp only at c0 c1 h1 h2 h3
        have e1 : IntKind.i64.wrap (xa - 1) = xa - 1 := by rw [i64_w']; exact w64_in' _ ⟨by omega, by omega⟩
        have e2 : IntKind.i64.wrap (xc + 1) = xc + 1 := by rw [i64_w']; exact w64_in' _ ⟨by omega, by omega⟩
        have e3 : wrap64 (xa - 1) = xa - 1 := w64_in' _ ⟨by omega, by omega⟩
        have e4 : wrap64 (xc + 1) = xc + 1 := w64_in' _ ⟨by omega, by omega⟩
        clear hx
        have A1 : Adds wr (wr.alloc (.cells #[.int .i64 0, .int .i64 0, .int .i64 0, .int .i64 0] 106)).drew := ((Adds.refl wr).alloc _).drew
        have A2 : Adds wr (wr.drew.alloc (.cells #[.int .i64 0, .int .i64 0, .int .i64 0, .int .i64 0] 106)) := ((Adds.refl wr).drew).alloc _
        have d0 := keep_cell A1 c0
        have d1 := keep_cell A1 c1
        have d2 := keep_cell A2 c0
        have d3 := keep_cell A2 c1
        go_upto_region 4 with fail
        go_region
        clear d0 d1 d2 d3 A1 A2 e1 e2 e3 e4 c0 c1
        obtain ⟨ab, hab⟩ : ∃ b, b = wr.heap.size := ⟨_, rfl⟩
        obtain ⟨W1, hW1⟩ : ∃ V, V = (wr.alloc (.cells #[.int .i64 (xa - 1), .int .i64 xa, .int .i64 xc, .int .i64 (xc + 1)] 106)).drew := ⟨_, rfl⟩
        have A1 : Adds wr W1 := by rw [hW1]; exact ((Adds.refl wr).alloc _).drew
        have X1 : Box W1 ab #[.int .i64 (xa - 1), .int .i64 xa, .int .i64 xc, .int .i64 (xc + 1)] 106 := by rw [hW1, hab]; exact Box.later (Box.new wr _ _) (Adds.refl _).drew
        rw [← hW1, ← hab]
        have HX1 := Lib.hid X1
        have HA1 := Lib.hid (hadd.out.trans A1)
        clear hW1 hab A1 X1
        go_wp2_with fail
        go_loopw [9] (fun v9 wi => ∃ j : Nat, j ≤ 4 ∧ v9 = .int .i64 j ∧ Hid (Adds W1 wi)) (fun v9 _ => 4 - (intOf v9).toNat)
        case atStart => exact ⟨0, by omega, rfl, Lib.hid (Adds.refl _)⟩
        case round =>
          obtain ⟨j, hj, rfl, hai⟩ := hrel
          by_cases hj4 : j < 4
          · obtain ⟨y, hy⟩ : ∃ y, y = fourAt xa xc j := ⟨_, rfl⟩
            have cy := four_cells (HX1.out.later hai.out) hj4
            rw [← hy] at cy
            clear hy
            rename World => wi
            by_cases hin : inB 1000000 y = true
            · have hy1 := (inB_iff.1 hin).1
              have hy2 := (inB_iff.1 hin).2
              obtain ⟨q, hq⟩ : ∃ q, q = (treeOf Ts ver).look y := ⟨_, rfl⟩
              have HQ := Lib.hid hq
              clear hq
              obtain ⟨st, lot, ow, hd⟩ := q
              go_upto_region 9 with (go_at_call 21; refine (Pocket_ok _ s v bs Ts y ver _ (HS.out.later (HA1.out.trans hai.out)) HV.out hin).mono ?_; rintro e w3 ⟨rfl, hb3⟩; rw [← HQ.out]; simp only [Pk.val]; replace cy := keep_cell hb3 cy; have HB3 := Lib.hid ((HA1.out.trans hai.out).trans hb3); have HI3 := Lib.hid (hai.out.trans hb3); clear hb3)
              obtain ⟨pb, hpb⟩ : ∃ b, b = w3.heap.size := ⟨_, rfl⟩
              obtain ⟨W4, hW4⟩ : ∃ V, V = w3.alloc (.cells #[.int .i64 st, .int .i64 lot, .int .i64 ow, .int .i64 hd] 44) := ⟨_, rfl⟩
              have A4 : Adds w3 W4 := by rw [hW4]; exact (Adds.refl _).alloc _
              have X4 : Box W4 pb #[.int .i64 st, .int .i64 lot, .int .i64 ow, .int .i64 hd] 44 := by rw [hW4, hpb]; exact Box.new _ _ _
              rw [← hW4, ← hpb]
              replace cy := keep_cell A4 cy
              have p0 := X4.cell 0
              have p1 := X4.cell 1
              have p2 := X4.cell 2
              have p3 := X4.cell 3
              simp only [List.getElem?_toArray, List.getElem?_cons_zero, List.getElem?_cons_succ] at p0 p1 p2 p3
              have HB4 := Lib.hid (HB3.out.trans A4)
              have HI4 := Lib.hid (HI3.out.trans A4)
              clear hW4 hpb A4 X4
              have n1 : (st != st) = false := by simp
              have n2 : (lot != lot) = false := by simp
              have n3 : (ow != ow) = false := by simp
              have n4 : (hd != hd) = false := by simp
              have s1 := beq_self_eq_true st
              have s2 := beq_self_eq_true lot
              have s3 := beq_self_eq_true ow
              have s4 := beq_self_eq_true hd
              go_upto_region 12 with fail
              go_region_held3 (fun w' => w'.cell? ⟨pb, 0, none⟩ = some (.int .i64 st) ∧ w'.cell? ⟨pb, 1, none⟩ = some (.int .i64 lot) ∧ w'.cell? ⟨pb, 2, none⟩ = some (.int .i64 ow) ∧ w'.cell? ⟨pb, 3, none⟩ = some (.int .i64 hd) ∧ w'.cell? ⟨ab, j, none⟩ = some (.int .i64 y))
                (first | (go_keep; done) | (refine ⟨keep_cell ?_ p0, keep_cell ?_ p1, keep_cell ?_ p2, keep_cell ?_ p3, keep_cell ?_ cy⟩ <;> (repeat (first | exact Adds.refl _ | exact hb9 | apply Adds.drew | apply Adds.drewN | apply Adds.alloc | refine Adds.trans ?_ hb9))) | ((repeat' apply And.intro) <;> go_keep))
                ((first
                  | (go_simp; go_at_call 52; refine (hAt.out y _ hy1 hy2 (HB4.out.trans (show Adds W4 _ by (repeat (first | exact Adds.refl _ | apply Adds.drew))))).mono ?_; rintro e w9 ⟨rfl, hb9⟩; rw [← HQ.out]; simp only [Pk.val])))
              all_goals
                go_wp2_with fail
                exact ⟨⟨j + 1, by omega, by go_num, Lib.hid (HI4.out.trans ((Adds.refl W4).drew.trans hb9))⟩, by simp [intOf]; omega⟩
            · have hin' : inB 1000000 y = false := by simpa using hin
              have hy0 : y < 1 ∨ 1000000 < y := by
                by_cases h1 : y < 1
                · exact Or.inl h1
                · by_cases h2 : 1000000 < y
                  · exact Or.inr h2
                  · exact (hin (inB_iff.2 ⟨by omega, by omega⟩)).elim
              go_upto_region 9 with (go_at_call 21; refine (Pocket_arg _ s v bs Ts y ver _ (HS.out.later (HA1.out.trans hai.out)) HV.out hin').mono ?_; rintro e w3 ⟨rfl, hb3⟩; simp only [Pk.val, pk0]; replace cy := keep_cell hb3 cy; have HI3 := Lib.hid (hai.out.trans hb3); clear hb3)
              have A4 : Adds w3 (w3.alloc (.cells #[.int .i64 0, .int .i64 0, .int .i64 0, .int .i64 0] 44)) := (Adds.refl _).alloc _
              replace cy := keep_cell A4 cy
              have HI4 := Lib.hid (HI3.out.trans A4)
              clear A4
              rcases hy0 with hy0 | hy0
              · go_wp2_with fail
                exact ⟨⟨j + 1, by omega, by go_num, HI4⟩, by simp [intOf]; omega⟩
              · go_wp2_with fail
                exact ⟨⟨j + 1, by omega, by go_num, HI4⟩, by simp [intOf]; omega⟩
          · go_wp2_with fail
            exact ⟨⟨k + 1, by omega, by go_num, Lib.hid (HA1.out.trans hai.out)⟩, by simp [intOf]; omega⟩
      · go_wp2_with fail
        go_meet
        exact hadd
  case rest =>
    rename World => w1
    have HA1 := Lib.hid hcut.out
    clear hcut
    go_upto_region 15 with (go_at_call 53; refine (hMem.out _ HA1.out).mono ?_; rintro e w2 ⟨u, ms, rfl, hnum, hms, hml, hb2⟩; have HNU := Lib.hid hnum; have HMS := Lib.hid hms; have HA2 := Lib.hid (HA1.out.trans hb2); clear hnum hms hb2)
    clear hMem hAt HA1
    obtain ⟨mp, mcap, rfl, hmc⟩ := HNU.out
    obtain ⟨M, hM⟩ : ∃ M, M = ms.length := ⟨_, rfl⟩
    rw [← hM] at hml HNU ⊢
    have HMC := Lib.hid hmc
    have HM := Lib.hid hM
    clear hmc hM
    go_wp2_with fail
    go_loopw [13] (fun v13 wr => ∃ i : Nat, i ≤ M ∧ i ≤ 12 ∧ v13 = .int .i64 i ∧ Hid (Adds w2 wr)) (fun v13 _ => M - (intOf v13).toNat)
    case atStart => exact ⟨0, by omega, by omega, rfl, Lib.hid (Adds.refl _)⟩
    case round =>
      obtain ⟨i, hi, hi12, rfl, hadd⟩ := hrel
      by_cases h1 : i < M
      · by_cases h2 : i < 12
        · obtain ⟨m, hm⟩ : ∃ m, ms[i]? = some m := ⟨_, List.getElem?_eq_getElem (by have := HM.out; omega)⟩
          obtain ⟨g, rfl, cm⟩ := HMC.out i m hm
          have hmb := HMS.out m (List.mem_of_getElem? hm)
          clear hm
          replace cm := keep_cell hadd.out cm
          have HB := Lib.hid (HA2.out.trans hadd.out)
          have HW := Lib.hid (show Adds w2 wr from hadd.out)
          clear hadd
          by_cases hm0 : m < 1
          · have hma : inB 1000 m = false := by simp [inB]; omega
            go_wp2_with (first
              | (go_at_call 22; refine (Holds_arg _ s v bs Ts m ver _ (HS.out.later HB.out) hma (by omega) (by have := HV.out; omega)).mono ?_; rintro e w5 ⟨rfl, hb⟩; replace cm := keep_cell hb cm; replace HB := Lib.hid (HB.out.trans hb); replace HW := Lib.hid (HW.out.trans hb); clear hb)
              | (go_at_call 23; refine (Pledged_arg _ s v bs Ts m ver _ (HS.out.later HB.out) hma (by omega) (by have := HV.out; omega)).mono ?_; rintro e w6 ⟨rfl, hb⟩; replace cm := keep_cell hb cm; replace HB := Lib.hid (HB.out.trans hb); replace HW := Lib.hid (HW.out.trans hb); clear hb)
              | (go_at_call 24; refine (Count_arg _ s v bs Ts m ver _ (HS.out.later HB.out) hma (by omega) (by have := HV.out; omega)).mono ?_; rintro e w7 ⟨rfl, hb⟩; replace cm := keep_cell hb cm; replace HB := Lib.hid (HB.out.trans hb); replace HW := Lib.hid (HW.out.trans hb); clear hb))
            exact ⟨⟨i + 1, by omega, by omega, by go_num, HW⟩, by simp [intOf]; omega⟩
          · have hma : inB 1000 m = true := by simp [inB]; omega
            have hcov := runs_cover (a := 1) (c := 1000000) HOK.out (by omega) (by omega) (by omega)
            have hpar := runs_parted (a := 1) (c := 1000000) (t := treeOf Ts ver)
            obtain ⟨OW, hOW⟩ : ∃ l, l = ownedBy (fun p => p.own) m (runsT 1 1000000 (treeOf Ts ver)) := ⟨_, rfl⟩
            obtain ⟨PL, hPL⟩ : ∃ l, l = ownedBy (fun p => p.hold) m (runsT 1 1000000 (treeOf Ts ver)) := ⟨_, rfl⟩
            obtain ⟨z, hz⟩ : ∃ z, z = countOf OW := ⟨_, rfl⟩
            have EO : Hid (memb (fun p => p.own) m L = OW) := Lib.hid (by rw [hOW]; exact memb_owned hcov hpar HC.out (fun k k1 k2 hk => by have := (HG.out k k1 k2).1; omega))
            have EP : Hid (memb (fun p => p.hold) m L = PL) := Lib.hid (by rw [hPL]; exact memb_owned hcov hpar HC.out (fun k k1 k2 hk => by have := (HG.out k k1 k2).1; omega))
            have BO : Hid (∀ x ∈ OW, 1 ≤ x.1 ∧ x.1 ≤ x.2.1 ∧ x.2.1 ≤ 1000000) := Lib.hid (fun x hx => by rw [hOW] at hx; have := cover_mem hcov (List.mem_filter.1 hx).1; exact ⟨this.1, this.2.1, this.2.2.1⟩)
            have BP : Hid (∀ x ∈ PL, 1 ≤ x.1 ∧ x.1 ≤ x.2.1 ∧ x.2.1 ≤ 1000000) := Lib.hid (fun x hx => by rw [hPL] at hx; have := cover_mem hcov (List.mem_filter.1 hx).1; exact ⟨this.1, this.2.1, this.2.2.1⟩)
            have hrl := hcov.length
            have LO : OW.length ≤ 1000000 := by have : OW.length ≤ _ := by { rw [hOW]; exact List.length_filter_le _ _ }; omega
            have LP : PL.length ≤ 1000000 := by have : PL.length ≤ _ := by { rw [hPL]; exact List.length_filter_le _ _ }; omega
            have HOW := Lib.hid hOW
            have HPL := Lib.hid hPL
            have HZ := Lib.hid hz
            have n1 : (z != z) = false := by simp
            clear hOW hPL hz hcov hpar hrl
            go_upto_region 24 with (first
              | (go_at_call 22; refine (Holds_ok _ s v bs Ts m ver _ (HS.out.later HB.out) HV.out hma).mono ?_; rintro e w5 ⟨va, rfl, hr, hb⟩; rw [← HOW.out] at hr; have HVA := Lib.hid (own_holdAt hr).1; replace cm := keep_cell hb cm; replace HB := Lib.hid (HB.out.trans hb); replace HW := Lib.hid (HW.out.trans hb); clear hb hr)
              | (go_at_call 23; refine (Pledged_ok _ s v bs Ts m ver _ (HS.out.later HB.out) HV.out hma).mono ?_; rintro e w6 ⟨vp, rfl, hr, hb⟩; rw [← HPL.out] at hr; have HVP := Lib.hid (own_holdAt hr).1; replace HVA := Lib.hid (HVA.out.later hb); replace cm := keep_cell hb cm; replace HB := Lib.hid (HB.out.trans hb); replace HW := Lib.hid (HW.out.trans hb); clear hb hr)
              | (go_at_call 24; refine (Count_ok _ s v bs Ts m ver _ (HS.out.later HB.out) HV.out hma HOK.out).mono ?_; rintro e w7 ⟨rfl, hb⟩; rw [← HOW.out, ← HZ.out]; replace HVA := Lib.hid (HVA.out.later hb); replace HVP := Lib.hid (HVP.out.later hb); replace cm := keep_cell hb cm; replace HB := Lib.hid (HB.out.trans hb); replace HW := Lib.hid (HW.out.trans hb); clear hb))
            go_wp2_with (first
              | (go_at_call 57; refine (RCount_any _ OW _ HR3.out LO BO.out).mono ?_; rintro e w13 ⟨rfl, hb⟩; rw [← HZ.out]; replace cm := keep_cell hb cm; replace HB := Lib.hid (HB.out.trans hb); replace HW := Lib.hid (HW.out.trans hb); clear hb)
              | (go_at_call 54; refine (holds_same vp _ PL _ HVP.out HR2.out LP BP.out).mono ?_; rintro e w11 ⟨rfl, hb⟩; have HS2 := Lib.hid True.intro; replace cm := keep_cell hb cm; replace HB := Lib.hid (HB.out.trans hb); replace HW := Lib.hid (HW.out.trans hb); clear hb)
              | (go_at_call 54; refine (holds_same va _ OW _ HVA.out HR1.out LO BO.out).mono ?_; rintro e w9 ⟨rfl, hb⟩; replace HVP := Lib.hid (HVP.out.later hb); replace cm := keep_cell hb cm; replace HB := Lib.hid (HB.out.trans hb); replace HW := Lib.hid (HW.out.trans hb); clear hb)
              | (go_at_call 56; refine (RPledged_any _ L m _ (HL.out.later HB.out) (by have := HNL.out; omega)).mono ?_; rintro e w10 ⟨u2, rfl, hr, hb⟩; rw [EP.out] at hr; have HR2 := Lib.hid hr.at; replace HVP := Lib.hid (HVP.out.later hb); replace cm := keep_cell hb cm; replace HB := Lib.hid (HB.out.trans hb); replace HW := Lib.hid (HW.out.trans hb); clear hb hr)
              | (go_at_call 55; refine (RHolds_any _ L m _ (HL.out.later HB.out) (by have := HNL.out; have := HS2.out; omega)).mono ?_; rintro e w12 ⟨u3, rfl, hr, hb⟩; rw [EO.out] at hr; have HR3 := Lib.hid hr.at; replace cm := keep_cell hb cm; replace HB := Lib.hid (HB.out.trans hb); replace HW := Lib.hid (HW.out.trans hb); clear hb hr)
              | (go_at_call 55; refine (RHolds_any _ L m _ (HL.out.later HB.out) (by have := HNL.out; omega)).mono ?_; rintro e w8 ⟨u1, rfl, hr, hb⟩; rw [EO.out] at hr; have HR1 := Lib.hid hr.at; replace HVA := Lib.hid (HVA.out.later hb); replace HVP := Lib.hid (HVP.out.later hb); replace cm := keep_cell hb cm; replace HB := Lib.hid (HB.out.trans hb); replace HW := Lib.hid (HW.out.trans hb); clear hb hr))
            exact ⟨⟨i + 1, by omega, by omega, by go_num, HW⟩, by simp [intOf]; omega⟩
        · go_wp2_with fail
          go_ret
          exact ⟨rfl, HA2.out.trans hadd.out⟩
      · go_wp2_with fail
        go_ret
        exact ⟨rfl, HA2.out.trans hadd.out⟩

/-- One version of the reference. -/
theorem ref_ver {w : World} {g n c k : Nat} {Ls : List (List Piece)} (h : RefAt w (.agg #[.slice (some ⟨g, 0, none⟩) n c]) Ls) (hk : k < n) : ∃ u L, Ls[k]? = some L ∧ w.cell? ⟨g, k, none⟩ = some u ∧ RunsAt w u L := by
  obtain ⟨p, cap, vs, hx, h1, h2, h3, h4, h5⟩ := h
  simp only [Value.agg.injEq, Array.mk.injEq, List.cons.injEq, Value.slice.injEq, and_true] at hx
  obtain ⟨hp, hn, _⟩ := hx
  have e1 : vs[k]? = some (vs[k]'(by omega)) := List.getElem?_eq_getElem _
  have e2 : Ls[k]? = some (Ls[k]'(by omega)) := List.getElem?_eq_getElem _
  obtain ⟨g', hp', hc⟩ := h4 k _ e1
  rw [← hp] at hp'
  simp only [Option.some.injEq, Addr.mk.injEq, and_true] at hp'
  subst hp'
  exact ⟨_, _, e2, hc, h5 k _ _ e1 e2⟩

theorem ref_len' {w : World} {g n c : Nat} {Ls : List (List Piece)} (h : RefAt w (.agg #[.slice (some ⟨g, 0, none⟩) n c]) Ls) : n = Ls.length ∧ 0 < n ∧ n ≤ 1000000 := by
  obtain ⟨p, cap, vs, hx, h1, h2, h3, _, _⟩ := h
  simp only [Value.agg.injEq, Array.mk.injEq, List.cons.injEq, Value.slice.injEq, and_true] at hx
  omega

/-- shows over what goes together. -/
theorem Link.shows {w wr : World} {s : Nat} {v : Value} {bs : List Nat} {Ts : List Tree} {g0 n0 c0 : Nat} {Ls : List (List Piece)} (h : Link w s v bs Ts g0 n0 c0 Ls) (hA : Adds w wr) {k : Nat} {u : Value} {L : List Piece} (hk : Ls[k]? = some L) (hu : RunsAt wr u L) :
    Calls Try.prog 17 #[.pointer (some ⟨s, 0, none⟩), .int .i64 k, u] wr fun e w' => e = .returned (.bool true) ∧ Adds wr w' := by
  have hkl : k ≤ bs.length := by have := (List.getElem?_eq_some_iff.1 hk).1; have := h.len; omega
  exact shows_any s v bs Ts k u L wr (h.stock.later hA).tight hkl hu (h.can k L hk) (fun j j1 j2 => h.good k j hkl j1 j2)

end Go.Proofs.Ytofaioabjkcaiaa
