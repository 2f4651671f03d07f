/- StockReturns: the law's walk. -/
import Derived.Test.YtofaioabjkcaiaaCK
import Derived.Test.YtofaioabjkcaiaaAF
import Derived.Deep.DeepCutAuto
import Derived.Deep.CutBlock
namespace Go.Proofs.Ytofaioabjkcaiaa
open Go.RowKit

set_option maxRecDepth 100000 in
set_option maxHeartbeats 8000000 in
theorem returns_any (p : Option Addr) (N cap : Nat) (f : Nat → Nat → Int) (x0 x1 x2 : Int) (w : World) (hN : N ≤ maxLen) (hL : ActsAt w p N f) : Calls Try.prog 10 #[.slice p N cap, .agg #[.int .i64 x0, .int .i64 x1, .int .i64 x2]] w fun e w' => e = .returned (.bool true) ∧ Adds w w' := by
  have HL := Lib.hid hL
  clear hL
  go_enter Try.func10, Try.ntmps10
  go_upto_region 1 with fail
  obtain ⟨b3, hb3⟩ : ∃ k, k = w.heap.size := ⟨_, rfl⟩
  obtain ⟨W1, hW1⟩ : ∃ V, V = w.alloc (.cells #[.int .i64 x0, .int .i64 x1, .int .i64 x2] 54) := ⟨_, rfl⟩
  have A1 : Adds w W1 := by rw [hW1]; exact (Adds.refl w).alloc _
  have X3 : Box W1 b3 #[.int .i64 x0, .int .i64 x1, .int .i64 x2] 54 := by rw [hW1, hb3]; exact Box.new _ _ _
  have hw3 : w.heap.size ≤ b3 := by omega
  rw [← hW1, ← hb3]
  have HA1 := Lib.hid A1
  have HX3 := Lib.hid X3
  clear hW1 hb3 A1 X3
  go_upto_region 2 with (go_at_call 13; refine (new_any _).mono ?_; rintro e w2 ⟨s, rfl, hS, hs, hb2⟩; have HS := Lib.hid hS; have HB2 := Lib.hid hb2; clear hS hb2)
  have hws : w.heap.size ≤ s := Nat.le_trans HA1.out.size hs
  have hbs : b3 ≠ s := by have := HX3.out.lt; omega
  have hbW : b3 < w2.heap.size := Nat.lt_of_lt_of_le HX3.out.lt HB2.out.size
  have hwW : w.heap.size ≤ w2.heap.size := Nat.le_trans HA1.out.size HB2.out.size
  have HF0 : Hid (First w w2 s b3 x0 x1 x2 0 (.slice none 0 0) [] [] w2) := Lib.hid ⟨HS.out, by simp, ⟨_, kept_new⟩, HX3.out.later HB2.out, fun k hk => by simp [Value.ownBlock] at hk, HA1.out.trans HB2.out, Nat.le_refl _⟩
  clear HS HB2 HX3 HA1 hs
  go_upto_block 0 with fail
  go_cut [] (fun wc => ∃ v bs Ts, Hid (First w w2 s b3 x0 x1 x2 15 v bs Ts wc))
  case first =>
    go_wp2_with fail
    go_loopw [6] (fun v6 wr => ∃ (k : Nat) (v : Value) (bs : List Nat) (Ts : List Tree), k ≤ N ∧ k ≤ 15 ∧ v6 = .int .i64 k ∧ Hid (First w w2 s b3 x0 x1 x2 k v bs Ts wr)) (fun v6 _ => N - (intOf v6).toNat)
    case atStart => exact ⟨0, _, [], [], by omega, by omega, rfl, HF0⟩
    case round =>
      obtain ⟨k, v, bs, Ts, hk, hk2, rfl, hF⟩ := hrel
      by_cases h1 : k < N
      · by_cases h2 : k < 15
        · obtain ⟨g, off, rfl, hc⟩ := HL.out k h1
          have d0 := keep_cell hF.out.adds (hc 0 (by omega))
          have d1 := keep_cell hF.out.adds (hc 1 (by omega))
          have d2 := keep_cell hF.out.adds (hc 2 (by omega))
          have d3 := keep_cell hF.out.adds (hc 3 (by omega))
          have d4 := keep_cell hF.out.adds (hc 4 (by omega))
          have d5 := keep_cell hF.out.adds (hc 5 (by omega))
          have hgw : g < w.heap.size := cell_lt (hc 0 (by omega))
          have hng : Hid (¬ (g = s ∨ v.ownBlock = some g)) := Lib.hid (fun h => h.elim (fun h => by omega) (fun h => by have := hF.out.own g h; omega))
          simp only [Nat.add_zero] at d0
          have hswr : s < wr.heap.size := hF.out.stock.box.lt
          clear hc
          go_upto_region 7 with fail
          refine wp_region_held_drew (S := (fun w' => w'.cell? ⟨g, off + k * 6, none⟩ = some (.int .i64 (f k 0)) ∧ w'.cell? ⟨g, off + k * 6 + 1, none⟩ = some (.int .i64 (f k 1)) ∧ w'.cell? ⟨g, off + k * 6 + 2, none⟩ = some (.int .i64 (f k 2)) ∧ w'.cell? ⟨g, off + k * 6 + 3, none⟩ = some (.int .i64 (f k 3)) ∧ w'.cell? ⟨g, off + k * 6 + 4, none⟩ = some (.int .i64 (f k 4)) ∧ w'.cell? ⟨g, off + k * 6 + 5, none⟩ = some (.int .i64 (f k 5)))) (by kernel_rfl) ⟨d0, d1, d2, d3, d4, d5⟩ (fun hHeld => ?_)
          refine wpAnyH_take (i := 0) (oi := ⟨some 35, _, _, _, _, _⟩) (v := ?v1) rfl (by kernel_rfl) (by kernel_rfl) (by kernel_rfl) (fun _ _ _ h => h) (Or.inl ⟨by rfl, ?hy1⟩) (by assumption) ?rest1
          case hy1 => (intro w hSw; (try dsimp only at hSw); go_simp; try with_reducible rfl)
          try simp only [Act.put, List.setIfInBounds_toArray, List.set_cons_zero, List.set_cons_succ]
          refine wpAnyH_take (i := 2) (oi := ⟨some 37, _, _, _, _, _⟩) (v := ?v2) rfl (by kernel_rfl) (by kernel_rfl) (by kernel_rfl) (fun _ _ _ h => h) (Or.inl ⟨by rfl, ?hy2⟩) (by assumption) ?rest2
          case hy2 => (intro w hSw; (try dsimp only at hSw); go_simp; try with_reducible rfl)
          try simp only [Act.put, List.setIfInBounds_toArray, List.set_cons_zero, List.set_cons_succ]
          refine wpAnyH_take (i := 3) (oi := ⟨some 38, _, _, _, _, _⟩) (v := ?v3) rfl (by kernel_rfl) (by kernel_rfl) (by kernel_rfl) (fun _ _ _ h => h) (Or.inl ⟨by rfl, ?hy3⟩) (by assumption) ?rest3
          case hy3 => (intro w hSw; (try dsimp only at hSw); go_simp; try with_reducible rfl)
          try simp only [Act.put, List.setIfInBounds_toArray, List.set_cons_zero, List.set_cons_succ]
          refine wpAnyH_take (i := 4) (oi := ⟨some 39, _, _, _, _, _⟩) (v := ?v4) rfl (by kernel_rfl) (by kernel_rfl) (by kernel_rfl) (fun _ _ _ h => h) (Or.inl ⟨by rfl, ?hy4⟩) (by assumption) ?rest4
          case hy4 => (intro w hSw; (try dsimp only at hSw); go_simp; try with_reducible rfl)
          try simp only [Act.put, List.setIfInBounds_toArray, List.set_cons_zero, List.set_cons_succ]
          refine wpAnyH_take (i := 5) (oi := ⟨some 40, _, _, _, _, _⟩) (v := ?v5) rfl (by kernel_rfl) (by kernel_rfl) (by kernel_rfl) (fun _ _ _ h => h) (Or.inl ⟨by rfl, ?hy5⟩) (by assumption) ?rest5
          case hy5 => (intro w hSw; (try dsimp only at hSw); go_simp; try with_reducible rfl)
          try simp only [Act.put, List.setIfInBounds_toArray, List.set_cons_zero, List.set_cons_succ]
          obtain ⟨tot, hkp⟩ := hF.out.kept
          have HKP := Lib.hid hkp
          clear hkp
          refine wpAnyH_ready (rs := [1]) (by kernel_rfl) (by simp) ?_
          refine AllReadyH.cons (o := ⟨some 36, _, _, _, _, _⟩) rfl (fun K hK => ?_) AllReadyH.nil
          go_simp
          refine (RNew2_any _).mono ?_
          rintro e wn ⟨gn, rfl, hgn, hRn, hbn⟩
          have hA1 : Adds wr wn := (Adds.refl wr).drew.trans hbn
          refine hK.out _ _ ⟨keep_cell hA1 d0, keep_cell hA1 d1, keep_cell hA1 d2, keep_cell hA1 d3, keep_cell hA1 d4, keep_cell hA1 d5⟩ (fun hHeld => ?_)
          clear hK K
          try simp only [Act.put, List.setIfInBounds_toArray, List.set_cons_zero, List.set_cons_succ]
          refine wpAnyH_ready (rs := [6]) (by kernel_rfl) (by simp) ?_
          refine AllReadyH.cons (o := ⟨some 41, _, _, _, _, _⟩) rfl (fun K hK => ?_) AllReadyH.nil
          go_simp
          refine (tame_any _ _ _ _ _ _ _).mono ?_
          rintro e wt ⟨x, y, lo, ma, mb, rfl, hx, hx2, hy, hy2, hl1, hl2, ha1, ha2, hb1, hb2, hbt⟩
          have hA2 : Adds wr wt := hA1.trans hbt
          refine hK.out _ _ ⟨keep_cell hA2 d0, keep_cell hA2 d1, keep_cell hA2 d2, keep_cell hA2 d3, keep_cell hA2 d4, keep_cell hA2 d5⟩ (fun hHeld => ?_)
          clear hK K
          try simp only [Act.put, List.setIfInBounds_toArray, List.set_cons_zero, List.set_cons_succ]
          refine wpAnyH_ready (rs := [7]) (by kernel_rfl) (by simp) ?_
          refine AllReadyH.cons (o := ⟨some 42, _, _, _, _, _⟩) rfl (fun K hK => ?_) AllReadyH.nil
          have AW : Adds wr wt := hA2
          have AW0 : Adds wr wr.drew := (Adds.refl wr).drew
          have RW := hRn.later hbt
          go_simp
          refine (do_kept s v bs Ts gn 1 1 tot _ x y lo ma mb _ (hF.out.stock.later AW).tight (by have := hF.out.few; omega) RW (by have := AW0.size; omega) HKP.out hx hx2 hy hy2 ha1 ha2 hb1 hb2).mono ?_
          rintro e w8 hd8
          obtain ⟨r0, rb, v', bs', Ts', rfl, hF', ht'⟩ := hF.out.next hws hw3 hbs hbW hwW AW hd8
          have HF' := Lib.hid hF'
          clear hF' hd8
          refine hK.out _ _ ⟨touch_cell ht' hng.out d0, touch_cell ht' hng.out d1, touch_cell ht' hng.out d2, touch_cell ht' hng.out d3, touch_cell ht' hng.out d4, touch_cell ht' hng.out d5⟩ (fun hHeld => ?_)
          clear hK K
          try simp only [Act.put, List.setIfInBounds_toArray, List.set_cons_zero, List.set_cons_succ]
          refine wpAnyH_done (by kernel_rfl) ?_ _
          clear hHeld
          go_wp2_with fail
          exact ⟨⟨k + 1, v', bs', Ts', by omega, by omega, by go_num, HF'⟩, by simp [intOf]; omega⟩
        · have HFE : Hid (First w w2 s b3 x0 x1 x2 15 v bs Ts wr) := Lib.hid ⟨hF.out.stock, by have := hF.out.few; omega, hF.out.kept, hF.out.box, hF.out.own, hF.out.adds, hF.out.size⟩
          go_wp2_with fail
          go_meet
          exact ⟨v, bs, Ts, HFE⟩
      · have HFE : Hid (First w w2 s b3 x0 x1 x2 15 v bs Ts wr) := Lib.hid ⟨hF.out.stock, by have := hF.out.few; omega, hF.out.kept, hF.out.box, hF.out.own, hF.out.adds, hF.out.size⟩
        go_wp2_with fail
        go_meet
        exact ⟨v, bs, Ts, HFE⟩
  case rest =>
    obtain ⟨v, bs, Ts, hF⟩ := hcut
    rename World => wf
    have z0 := hF.out.box.cell 0
    simp only [List.getElem?_toArray, List.getElem?_cons_zero] at z0
    have hm1 := tame_num x0 4 (by omega) (by omega)
    go_upto_region 9 with fail
    obtain ⟨m, hm⟩ : ∃ m, m = wrap64 (1 + wrap64 ((IntKind.u64.wrap x0).tmod 4)) := ⟨_, rfl⟩
    rw [← hm] at hm1
    rw [← hm]
    clear hm z0
    go_upto_region 10 with fail
    obtain ⟨o, ho⟩ : ∃ o, o = 1 + m % 4 := ⟨_, rfl⟩
    rw [← ho]
    have hmo : m ≠ o := by omega
    have ho1 : 1 ≤ o := by omega
    have ho4 : o ≤ 4 := by omega
    have hm4 := hm1.2
    replace hm1 := hm1.1
    clear ho
    obtain ⟨v0, hv0⟩ : ∃ n, n = bs.length := ⟨_, rfl⟩
    obtain ⟨T0, hT0⟩ : ∃ T, T = treeOf Ts v0 := ⟨_, rfl⟩
    have HV0 := Lib.hid hv0
    have HT0 := Lib.hid hT0
    clear hv0 hT0
    have hok : T0.ok 1 1000000 := by rw [HT0.out]; exact treeOf_ok hF.out.stock (by have := HV0.out; omega)
    have hcov := runs_cover (a := 1) (c := 1000000) hok (by omega) (by omega) (by omega)
    obtain ⟨hs, hhs⟩ : ∃ l, l = ownedBy (fun p => p.own) m (runsT 1 1000000 T0) := ⟨_, rfl⟩
    have HHS := Lib.hid hhs
    have HCOV := Lib.hid hcov
    have hkp : ∃ tot, Kept T0.look tot := by rw [HT0.out, HV0.out]; exact hF.out.kept
    obtain ⟨tot, hkp⟩ := hkp
    have HKP := Lib.hid hkp
    have hfew : hs.length ≤ 74 := by rw [hhs]; exact few_holds hkp hcov hm1
    have hv15 : v0 ≤ 15 := by have := HV0.out; have := hF.out.few; omega
    clear hhs hcov hkp hok
    go_upto_region 12 with (first
      | (go_at_call 16; refine (version_is _ s v bs Ts v0 _ hF.out.stock (by have := HV0.out; omega)).mono ?_; rintro e w' ⟨rfl, rfl⟩)
      | (go_at_call 22; refine (Holds_ok _ s v bs Ts m v0 _ hF.out.stock (by have := HV0.out; omega) (by simp [inB]; omega)).mono ?_; rintro e w3 ⟨hv, rfl, hrow, hb3⟩; rw [← HT0.out, ← HHS.out] at hrow; obtain ⟨hat, hbl⟩ := own_holdAt hrow; have HAT := Lib.hid hat; have HBL := Lib.hid hbl; have HB3 := Lib.hid hb3; clear hrow hat hbl hb3))
    obtain ⟨pp, hcap, rfl, -⟩ := HAT.out
    obtain ⟨L, hL⟩ : ∃ L, L = hs.length := ⟨_, rfl⟩
    rw [← hL] at HAT HBL hfew ⊢
    have HLN := Lib.hid hL
    clear hL
    have hsw := hF.out.stock.box.lt
    have HS0 : Hid (Second w s v0 T0 (.slice pp L hcap) hs 15 v bs Ts w3) := Lib.hid ⟨(hF.out.stock.later HB3.out).tight, hF.out.few, ⟨by have := HV0.out; omega, HT0.out.symm⟩, fun k _ _ => by rw [HT0.out, HV0.out], ⟨HAT.out, fun g hg => by
      have hh := HBL.out g hg
      exact ⟨by omega, fun hvg => by have := (hF.out.stock.row.lt g hvg).2; omega, hh.2⟩, fun k hk => by have := hF.out.own k hk; omega, hF.out.adds.trans HB3.out⟩⟩
    clear HAT HBL HB3 hF HV0 HT0
    clear hsw
    go_wp2_with fail
    go_loopw [12] (fun v12 wr => ∃ (i : Nat) (v : Value) (bs : List Nat) (Ts : List Tree), i ≤ L ∧ v12 = .int .i64 i ∧ Hid (Second w s v0 T0 (.slice pp L hcap) hs (15 + 4 * i) v bs Ts wr)) (fun v12 _ => L - (intOf v12).toNat)
    case atStart => exact ⟨0, v, bs, Ts, by omega, rfl, HS0⟩
    case round =>
      clear HS0
      obtain ⟨i, v, bs, Ts, hi, rfl, hS⟩ := hrel
      by_cases hlt : i < L
      · obtain ⟨x, hx⟩ : ∃ x, hs[i]? = some x := ⟨_, List.getElem?_eq_getElem (by have := HLN.out; omega)⟩
        have hxin : x ∈ ownedBy (fun p => p.own) m (runsT 1 1000000 T0) := by rw [← HHS.out]; exact List.mem_of_getElem? hx
        obtain ⟨hx1, hx2, hx3, hx4, hx5, hx6⟩ := hold_in HKP.out HCOV.out hm1 hxin
        obtain ⟨g, hpp⟩ : ∃ g, pp = some ⟨g, 0, none⟩ := by
          obtain ⟨p', c', he, hc⟩ := hS.out.side.holds
          obtain ⟨g, hp, _⟩ := hc i x hx
          simp only [Value.slice.injEq] at he
          exact ⟨g, he.1.trans hp⟩
        subst hpp
        obtain ⟨xa, xc, xs, xl, xo, xh⟩ := x
        simp only at hx1 hx2 hx3 hx4 hx5 hx6
        replace hx4 := hx4.symm
        subst hx4 hx5
        have HX := Lib.hid hx
        obtain ⟨c0, c1, c2, c3, c4⟩ := hS.out.side.holds.cells hx
        simp only at c0 c1 c2 c3 c4
        have HX6 := Lib.hid hx6
        clear hx hxin hx6
        have hb12 := hS.out.few
        by_cases hh : xh = 0
        · subst hh
          have hz : ((0 : Int) != 0) = false := rfl
          have HP0 : Hid (∀ k, xa ≤ k → k ≤ xc → (treeOf Ts bs.length).look k = ⟨1, xl, m, 0⟩) := Lib.hid (fun k k1 k2 => by rw [hS.out.same k (by omega) (by omega)]; exact HX6.out k k1 k2)
          go_upto_region 20 with (first
            | (go_at_call 35; refine (release_step s v3 _ _ xa xc m o 1 xl _ HS3.out (by simp; omega) hx1 hx2 hx3 ho1 (by omega) rfl HP3.out).mono ?_; rintro e w4 ⟨v4, b4, T4, rfl, hS4, hl4, ht4, ho4⟩
               have HS4 := Lib.hid hS4; have HL4 := Lib.hid hl4; have HD4 := Lib.hid (HD3.out.step hws hS4.sep ht4 ho4); clear hS4 hl4 ht4 ho4 c0 c1; obtain ⟨c0, c1, -, -, -⟩ := HD4.out.holds.cells HX.out; simp only at c0 c1)
            | (go_at_call 34; refine (pledge_step s v2 _ _ xa xc m o 1 xl _ HS2.out (by simp; omega) hx1 hx2 hx3 hm1 (by omega) ho1 (by omega) rfl HP2.out).mono ?_; rintro e w3 ⟨v3, b3', T3, rfl, hS3, hl3, ht3, ho3⟩
               have HS3 := Lib.hid hS3; have HL3 := Lib.hid hl3; have HP3 := Lib.hid (step_look hS3 hx1 hx3 hl3); have HD3 := Lib.hid (HD2.out.step hws hS3.sep ht3 ho3); clear hS3 hl3 ht3 ho3 c0 c1; obtain ⟨c0, c1, -, -, -⟩ := HD3.out.holds.cells HX.out; simp only at c0 c1)
            | (go_at_call 33; refine (move_step s v1 _ _ xa xc o m 1 xl _ HS1.out (by simp; omega) hx1 hx2 hx3 ho1 (by omega) hm1 (by omega) (Ne.symm hmo) rfl HP1.out).mono ?_; rintro e w2 ⟨v2, b2, T2, rfl, hS2, hl2, ht2, ho2⟩
               have HS2 := Lib.hid hS2; have HL2 := Lib.hid hl2; have HP2 := Lib.hid (step_look hS2 hx1 hx3 hl2); have HD2 := Lib.hid (HD1.out.step hws hS2.sep ht2 ho2); clear hS2 hl2 ht2 ho2 c0 c1; obtain ⟨c0, c1, -, -, -⟩ := HD2.out.holds.cells HX.out; simp only at c0 c1)
            | (go_at_call 33; refine (move_step s v _ _ xa xc m o 1 xl _ hS.out.stock (by omega) hx1 hx2 hx3 hm1 (by omega) ho1 (by omega) hmo rfl HP0.out).mono ?_; rintro e w1 ⟨v1, b1, T1, rfl, hS1, hl1, ht1, ho1'⟩
               have HS1 := Lib.hid hS1; have HL1 := Lib.hid hl1; have HP1 := Lib.hid (step_look hS1 hx1 hx3 hl1); have HD1 := Lib.hid (hS.out.side.step hws hS1.sep ht1 ho1'); clear hS1 hl1 ht1 ho1' c0 c1; obtain ⟨c0, c1, -, -, -⟩ := HD1.out.holds.cells HX.out; simp only at c0 c1))
          obtain ⟨bs4, Ts4, hT⟩ : ∃ bs4 Ts4, Turned w4 s bs Ts xa xc v4 bs4 Ts4 :=
            ⟨_, _, turned HS4.out hx1 hx2 hx3 hmo (by omega) HP0.out HL1.out (fun k k1 k2 => by rw [HL2.out k k1 k2, last_look HS1.out]) (fun k k1 k2 => by rw [HL3.out k k1 k2, last_look HS2.out]) (fun k k1 k2 => by rw [HL4.out k k1 k2, last_look HS3.out])⟩
          have HT := Lib.hid hT
          have hl4 := hT.len
          clear hT HS1 HS2 HS3 HS4 HL1 HL2 HL3 HL4 HP0 HP1 HP2 HP3 HD1 HD2 HD3
          obtain ⟨u, hu⟩ : ∃ u, u = xc - xa + 1 := ⟨_, rfl⟩
          rw [← hu] at c1
          rw [← hu]
          obtain ⟨n, hn⟩ : ∃ n, n = bs.length := ⟨_, rfl⟩
          have HU := Lib.hid hu
          have HN := Lib.hid hn
          rw [← hn] at hl4 hb12
          have HL4 := Lib.hid hl4
          clear hu hn hl4
          go_upto_region 21 with (go_at_call 16; refine (version_is _ s v4 bs4 Ts4 ((n : Int) + 4) _ HT.out.stock (by have := HL4.out; omega)).mono ?_; rintro e w5 ⟨rfl, rfl⟩)
          go_upto_region 22 with (go_at_call 28; refine (changed_no s v4 bs4 Ts4 n (n + 4) _ _ _ HT.out.stock (by have := HL4.out; omega) (by have := HL4.out; omega) (by first | omega | go_num) (by first | omega | go_num) (by rw [HN.out]; exact HT.out.whole)).mono ?_; rintro e w5 ⟨pa, ca, rfl, hb5⟩; have HB5 := Lib.hid hb5; replace c0 := keep_cell hb5 c0; replace c1 := keep_cell hb5 c1; clear hb5)
          go_upto_region 23 with (go_at_call 28; refine (changed_one s v4 bs4 Ts4 n (n + 1) _ _ xa xc _ (HT.out.stock.later HB5.out).tight (by have := HL4.out; omega) (by have := HL4.out; omega) (by first | omega | go_num) (by first | omega | go_num) (by rw [HN.out]; exact HT.out.moved)).mono ?_; rintro e w6 ⟨gb, cb, rfl, ⟨p0, p1⟩, hb6⟩; have HB6 := Lib.hid (HB5.out.trans hb6); replace c0 := keep_cell hb6 c0; replace c1 := keep_cell hb6 c1; rw [← HU.out] at p1; clear hb6)
          go_upto_region 24 with (go_at_call 28; refine (changed_one s v4 bs4 Ts4 (n + 3) (n + 2) _ _ xa xc _ (HT.out.stock.later HB6.out).tight (by have := HL4.out; omega) (by have := HL4.out; omega) (by first | omega | go_num) (by first | omega | go_num) (by rw [HN.out]; exact HT.out.freed)).mono ?_; rintro e w7 ⟨gc, cc, rfl, ⟨q0, q1⟩, hb7⟩; have HB7 := Lib.hid (HB6.out.trans hb7); replace c0 := keep_cell hb7 c0; replace c1 := keep_cell hb7 c1; replace p0 := keep_cell hb7 p0; replace p1 := keep_cell hb7 p1; rw [← HU.out] at q1; clear hb7)
          have s1 := beq_self_eq_true xa
          have s2 := beq_self_eq_true u
          go_quiet (fail)
          go_wp2_with fail
          refine ⟨⟨i + 1, v4, bs4, Ts4, by omega, by go_num, Lib.hid ?_⟩, by simp [intOf]; omega⟩
          have h := hS.out.next HT.out HD4.out (HB7.out.drewN nq)
          rwa [show 15 + 4 * i + 4 = 15 + 4 * (i + 1) by omega] at h
        · have hz : (xh != 0) = true := bne_iff_ne.2 hh
          go_wp2_with fail
          refine ⟨⟨i + 1, v, bs, Ts, by omega, by go_num, Lib.hid ⟨hS.out.stock, by omega, hS.out.old, hS.out.same, hS.out.side⟩⟩, by simp [intOf]; omega⟩
      · go_wp2_with (first
          | (go_at_call 16; refine (version_is _ s v bs Ts bs.length _ hS.out.stock rfl).mono ?_; rintro e w5 ⟨rfl, rfl⟩)
          | (go_at_call 28; refine (changed_no s v bs Ts v0 bs.length _ _ _ hS.out.stock hS.out.old.1 (Nat.le_refl _) rfl rfl hS.out.done).mono ?_; rintro e w6 ⟨pa, ca, rfl, hb6⟩; have HB6 := Lib.hid hb6; clear hb6)
          | (go_at_call 19; refine (awake_any _).mono ?_; rintro e w9 ⟨rfl, hb9⟩))
        go_ret
        exact ⟨rfl, (hS.out.side.adds.trans HB6.out).trans hb9⟩
end Go.Proofs.Ytofaioabjkcaiaa
