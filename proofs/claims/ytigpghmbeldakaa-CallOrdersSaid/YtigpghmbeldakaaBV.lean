/- CallOrders' walk. -/
import Derived.Test.YtigpghmbeldakaaCA
import Derived.Deep.DeepCutAuto
import Derived.Deep.CutBlock
namespace Go.Proofs.Ytigpghmbeldakaa
open Go.RowKit

theorem clear_slice {P : Int → Prop} {l : List Bd} {rule px v sr er : Int} {fv : Value} {w w' : World} (h : ClearRes P l rule px v sr fv er w w') : ∃ q n c, fv = .slice q n c := by
  by_cases hz : er = 0
  · obtain ⟨_, _, _, _, g, F, _, _, hv, _⟩ := h.yes hz
    exact ⟨_, _, _, hv⟩
  · obtain ⟨_, _, _, _, hv, _⟩ := h.no hz
    exact ⟨_, _, _, hv⟩

theorem own_opening {w : World} {base n : Nat} {t : TypeId} {v : Value} {l : List (Int × Int × Int)} (h : w.ownsRow base t 3 v n (l.flatMap enc3)) :
    ∃ p c, v = .slice p l.length c ∧ At3 w p l ∧ l.length ≤ c ∧ c ≤ maxLen ∧ (p = none → c = 0) := by
  rcases (own_rowT h).2 with ⟨hv, hn⟩ | ⟨g, cap, hv, _, hr⟩
  · subst hn
    exact ⟨none, 0, hv, (fun i x hx => by simp at hx), by simp, by simp [maxLen], fun _ => rfl⟩
  · exact ⟨some ⟨g, 0, none⟩, cap, hv, hr.at3, hr.len.1, hr.len.2, fun h => by cases h⟩

theorem rev_get {l : List Bd} {k m : Nat} (hk : k < l.length) (hm : m = l.length - 1 - k) : l.reverse[k]? = l[m]? := by
  rw [List.getElem?_reverse hk, hm]

set_option maxRecDepth 100000 in
set_option maxHeartbeats 4000000 in
theorem orders_any (p : Option Addr) (cap : Nat) (l : List Bd) (r0 : Int) (w : World) (hcap : l.length ≤ cap) (hcm : cap ≤ maxLen) (hp : p = none → cap = 0) (hL : At3 w p l) :
    Calls Try.prog 13 #[.slice p l.length cap, .int .i64 r0] w fun e w' => e = .returned (.bool true) ∧ Adds w w' := by
  obtain ⟨j0, hj, hj0, hj1, hj2⟩ := info_parts info61
  have HJ := Lib.hid hj
  have HJ0 := Lib.hid hj0
  have HJ1 := Lib.hid hj1
  have HJ2 := Lib.hid hj2
  have htame := tame_any p cap l 30 w hcap hcm hp (by omega) hL
  obtain ⟨L, hLd⟩ : ∃ L, L = tameL l 30 := ⟨_, rfl⟩
  have hok : ∀ b ∈ L, okB b = true := by rw [hLd]; exact tameL_ok l 30
  have hLn : L.length ≤ 30 := by rw [hLd, tameL_len]; omega
  rw [← hLd] at htame
  obtain ⟨n, hn⟩ : ∃ n, n = L.length := ⟨_, rfl⟩
  have HN := Lib.hid hn
  have HOK := Lib.hid hok
  have hn30 : n ≤ 30 := by omega
  have hn2 : n = L.reverse.length := by rw [List.length_reverse]; exact hn
  have HN2 := Lib.hid hn2
  have hokr : ∀ b ∈ L.reverse, okB b = true := fun b hb => hok b (List.mem_reverse.1 hb)
  have hpb := tnum_in r0 120 (by omega) (by omega)
  have hgv1 : Hid (∀ q qc W, At3 W q L → Calls Try.prog 16 #[.slice q n qc] W (OwnGot 75 L W)) := Lib.hid (fun q qc W hW => by rw [hn]; exact give_any q qc L W (by omega) hW)
  have hgv2 : Hid (∀ q qc W, At3 W q L.reverse → Calls Try.prog 16 #[.slice q n qc] W (OwnGot 75 L.reverse W)) := Lib.hid (fun q qc W hW => by rw [hn2]; exact give_any q qc L.reverse W (by omega) hW)
  have hcl1 : Hid (∀ q qc W, At3 W q L → Calls Try.prog 22 #[.slice q n qc, .int .i64 (wrap64 (1 + wrap64 ((IntKind.u64.wrap r0).tmod 120))), .int .i64 2] W (ClearGot (PriceAt L (tnum r0 120)) L 2 W)) := Lib.hid (fun q qc W hW => by rw [hn]; exact Clear_tame q qc L (tnum r0 120) 2 W (by omega) hok (by omega) (Or.inr rfl) hW)
  have hcl2 : Hid (∀ q qc W, At3 W q L.reverse → Calls Try.prog 22 #[.slice q n qc, .int .i64 (wrap64 (1 + wrap64 ((IntKind.u64.wrap r0).tmod 120))), .int .i64 1] W (ClearGot (PriceAt L.reverse (tnum r0 120)) L.reverse 1 W)) := Lib.hid (fun q qc W hW => by rw [hn2]; exact Clear_tame q qc L.reverse (tnum r0 120) 1 W (by omega) hokr (by omega) (Or.inl rfl) hW)
  have HTM := Lib.hid htame
  generalize l.length = N1 at *
  clear htame hLd hok hokr hLn hn hL hcap hcm hp hn2 hpb hj hj0 hj1 hj2
  go_enter Try.func13, Try.ntmps13
  go_wp2_with (go_at_call 26; refine HTM.out.mono ?_; rintro e w1 ⟨v5, rfl, hro, hb1⟩; obtain ⟨p5, c5, rfl, ha5, _⟩ := own_opening hro; have HB1 := Lib.hid hb1; have HA5 := Lib.hid ha5; rw [← HN.out]; clear hro ha5 hb1)
  clear HTM
  obtain ⟨z0, hz0⟩ : ∃ z : Int, z = (n : Int) - 1 := ⟨_, rfl⟩
  rw [← hz0]
  go_loopw [7, 8] (fun v7 v8 wr => ∃ (k : Nat) (z : Int), k ≤ n ∧ v8 = .int .i64 z ∧ Hid (z = (n : Int) - 1 - k) ∧ Hid (wr.ownsRow w1.heap.size 61 3 v7 k ((L.reverse.take k).flatMap enc3)) ∧ Adds w1 wr) (fun _ v8 _ => (intOf v8 + 1).toNat)
  case atStart => exact ⟨0, z0, by omega, rfl, Lib.hid (by omega), Lib.hid (World.ownsRow_nil _ _ _ _), Adds.refl w1⟩
  case round =>
    obtain ⟨k, z, hk, rfl, hz, hrow, hb⟩ := hrel
    clear hz0
    by_cases hlt : k < n
    · obtain ⟨m, rfl⟩ : ∃ m : Nat, z = (m : Int) := ⟨z.toNat, by have := hz.out; omega⟩
      have hm : m = n - 1 - k := by have := hz.out; omega
      obtain ⟨⟨s, pp, q⟩, hb3⟩ : ∃ t, L[m]? = some t := ⟨_, List.getElem?_eq_getElem (by have := HN.out; omega)⟩
      obtain ⟨g, off, rfl, d0, d1, d2⟩ := HA5.out m _ hb3
      have c0 := keep_cell hb d0
      have c1 := keep_cell hb d1
      have c2 := keep_cell hb d2
      have hr3 : L.reverse[k]? = some (s, pp, q) := (rev_get (m := m) (by rw [← HN.out]; exact hlt) (by rw [← HN.out]; exact hm)).trans hb3
      have HT := Lib.hid (take_next hr3)
      simp only at c0 c1 c2
      have HB := Lib.hid hb
      have hsz := hb.size
      have hmn : (m : Int) < (n : Int) := by omega
      clear d0 d1 d2 hb3 hb hr3 hm
      go_wp2_with (at_builtin; ((refine wpList_append_own _ rfl _ _ 22 rfl w1.heap.size 61 j0 (.agg #[.int .i64 0, .int .i64 0, .int .i64 0]) 3 24 Try.underlying22 HJ.out HJ0.out HJ1.out HJ2.out rfl (by decide) u7 k _ rfl (hrow.out.alloc _) ⟨wr.heap.size, 0, none⟩ 1 1 (enc3 (s, pp, q)) rfl rfl (World.news_of_block (Box.new wr #[.int .i64 s, .int .i64 pp, .int .i64 q] 61)) (by simp [enc3, Value.oneCell']) (by unfold maxLen; omega) (by omega) (by simp; omega) ?_); intro va1 w2 hra1 hg1 _; have HR1 := Lib.hid hra1; have HG1 := Lib.hid hg1; clear hra1 hg1))
      refine ⟨⟨k + 1, (m : Int) - 1, by omega, by go_num, Lib.hid (by have := hz.out; omega), Lib.hid ?_, Below.grown (HB.out.alloc _) HG1.out (by simp; omega) (fun j hj => (hrow.out.lt j hj).1)⟩, by simp [intOf]⟩
      rw [HT.out, List.flatMap_append, List.flatMap_cons, List.flatMap_nil, List.append_nil]
      exact HR1.out
    · have hkN : k = n := by omega
      have hzn : z < 0 := by have := hz.out; omega
      have hzn2 : ¬ (0 ≤ z) := by omega
      have hfull : L.reverse.take k = L.reverse := List.take_of_length_le (by have := HN2.out; omega)
      rw [hfull] at hrow
      obtain ⟨p7, c7, rfl, ha7, _⟩ := own_opening hrow.out
      rw [← HN2.out]
      have HA7 := Lib.hid ha7
      have HB := Lib.hid hb
      have HA5b := Lib.hid (HA5.out.later hb)
      clear hfull hkN hz hrow ha7 hb hlt
      go_upto_region 10 with (first
        | (go_at_call 16; refine (hgv1.out _ _ _ HA5b.out).mono ?_; rintro e w2 ⟨v6, rfl, hro, hb2⟩; obtain ⟨p6, c6, rfl, ha6, _⟩ := own_at3 hro; have HB2 := Lib.hid hb2; have HA6 := Lib.hid ha6; rw [← HN.out]; clear hro ha6 hb2)
        | (go_at_call 22; refine (hcl1.out _ _ _ HA6.out).mono ?_; rintro e w3 ⟨px, v, sr, fv, er, hres, rfl, hb3⟩; obtain ⟨q3, n3, c3, rfl⟩ := clear_slice hres; have HRES := Lib.hid hres; have HB3 := Lib.hid (HB2.out.trans hb3); clear hres hb3))
      obtain ⟨W4, hW4⟩ : ∃ V, V = w3.alloc (.cells #[.int .i64 px, .int .i64 v, .int .i64 sr, .slice q3 n3 c3] 38) := ⟨_, rfl⟩
      obtain ⟨b4, hb4⟩ : ∃ b, b = w3.heap.size := ⟨_, rfl⟩
      have X4 : Hid (Box W4 b4 #[.int .i64 px, .int .i64 v, .int .i64 sr, .slice q3 n3 c3] 38) := Lib.hid (by rw [hW4, hb4]; exact Box.new _ _ _)
      have A34 : Hid (Adds w3 W4) := Lib.hid (by rw [hW4]; exact (Adds.refl _).alloc _)
      have HB4 := Lib.hid (HB3.out.trans A34.out)
      rw [← hW4, ← hb4]
      clear hW4 hb4
      go_upto_region 11 with (first
        | (go_at_call 16; refine (hgv2.out _ _ _ (HA7.out.later HB4.out)).mono ?_; rintro e w5 ⟨v6, rfl, hro, hb2⟩; obtain ⟨p8, c8, rfl, ha8, _⟩ := own_at3 hro; have HB5 := Lib.hid hb2; have HA8 := Lib.hid ha8; rw [← HN2.out]; clear hro ha8 hb2)
        | (go_at_call 22; refine (hcl2.out _ _ _ HA8.out).mono ?_; rintro e w6 ⟨px2, v2, sr2, fv2, er2, hres, rfl, hb3⟩; obtain ⟨q6, n6, c9, rfl⟩ := clear_slice hres; have HRES2 := Lib.hid hres; have HB6 := Lib.hid (HB5.out.trans hb3); clear hres hb3))
      obtain ⟨W7, hW7⟩ : ∃ V, V = w6.alloc (.cells #[.int .i64 px2, .int .i64 v2, .int .i64 sr2, .slice q6 n6 c9] 38) := ⟨_, rfl⟩
      obtain ⟨b7, hb7⟩ : ∃ b, b = w6.heap.size := ⟨_, rfl⟩
      have X7 : Hid (Box W7 b7 #[.int .i64 px2, .int .i64 v2, .int .i64 sr2, .slice q6 n6 c9] 38) := Lib.hid (by rw [hW7, hb7]; exact Box.new _ _ _)
      have A67 : Hid (Adds w6 W7) := Lib.hid (by rw [hW7]; exact (Adds.refl _).alloc _)
      have HB7 : Hid (Adds W4 W7) := Lib.hid (HB6.out.trans A67.out)
      have HBW : Hid (Adds wr W7) := Lib.hid (HB4.out.trans HB7.out)
      rw [← hW7, ← hb7]
      clear hW7 hb7
      obtain ⟨rfl, rfl, rfl, rfl⟩ := orders_res HRES.out HRES2.out
      have x0 := keep_cell HB7.out (X4.out.cell 0)
      have x1 := keep_cell HB7.out (X4.out.cell 1)
      have x2 := keep_cell HB7.out (X4.out.cell 2)
      have x3 := keep_cell HB7.out (X4.out.cell 3)
      have y0 := X7.out.cell 0
      have y1 := X7.out.cell 1
      have y2 := X7.out.cell 2
      have y3 := X7.out.cell 3
      simp only [List.getElem?_toArray, List.getElem?_cons_zero, List.getElem?_cons_succ] at x0 x1 x2 x3 y0 y1 y2 y3
      by_cases hz : er = 0
      · subst hz
        obtain ⟨hP, hv, hv0, hsr, g, F, hF, hfok, hfv, hg, hrow⟩ := HRES.out.yes rfl
        obtain ⟨_, _, _, _, g2, F2, _, _, hfv2, _, _⟩ := HRES2.out.yes rfl
        simp only [Value.slice.injEq] at hfv hfv2
        obtain ⟨rfl, rfl, rfl⟩ := hfv
        obtain ⟨rfl, rfl, rfl⟩ := hfv2
        rw [← HN.out] at x3 hrow
        rw [← HN2.out] at y3
        have hvl := vol_le L px
        have HEV : Hid (∀ i k : Nat, k < i → i < n → L[i]! = L[k]! → F[i]! ≤ F[k]! ∧ F[k]! ≤ F[i]! + 1) := Lib.hid (fun i k h1 h2 h3 => fill_even (ruleF_share 2) (ruleF_upto 2) (by unfold ruleF; rw [if_neg (by omega)]; exact share_even) HOK.out hF (by omega) (by omega) (by omega) h1 (by rw [← HN.out]; exact h2) h3)
        have HFB : Hid (∀ i, i < n → 0 ≤ F[i]! ∧ F[i]! ≤ 1000000000) := Lib.hid (fun i hi => by
          have h1 := hfok.bd i (by rw [← HN.out]; exact hi)
          have h2 := qty_of HOK.out (i := i) (by rw [← HN.out]; exact hi)
          omega)
        have hFl : F.length = n := by rw [hfok.len, ← HN.out]
        have HFL := Lib.hid hFl
        have HROW : Hid (RowI 2 .i64 W7 g n F) := Lib.hid ((hrow.later A34.out).later HB7.out)
        have HA9 : Hid (At3 W7 p5 L) := Lib.hid (HA5b.out.later HBW.out)
        clear hP hv hv0 hsr hF hfok hg hrow hvl hFl HRES HRES2
        go_wp2_with fail
        go_loopw [14] (fun v14 wx => ∃ i : Nat, i ≤ n ∧ v14 = .int .i64 i ∧ Hid (Adds W7 wx)) (fun v14 _ => n - (intOf v14).toNat)
        case atStart => exact ⟨0, by omega, rfl, Lib.hid (Adds.refl _)⟩
        case round =>
          obtain ⟨i, hi, rfl, ha1⟩ := hrel
          clear x0 x1 x2 y0 y1 y2 y3
          by_cases hlt : i < n
          · have hii : (i : Int) < (n : Int) := by omega
            go_wp2_with fail
            go_loopw [15] (fun v15 wx => ∃ k : Nat, k ≤ i ∧ v15 = .int .i64 k ∧ Hid (Adds W7 wx)) (fun v15 _ => i - (intOf v15).toNat)
            case atStart => exact ⟨0, by omega, rfl, ha1⟩
            case round =>
              obtain ⟨k, hk, rfl, ha2⟩ := hrel
              clear ha1
              by_cases hki : k < i
              · obtain ⟨⟨s1, p1, q1⟩, hb1⟩ : ∃ t, L[i]? = some t := ⟨_, List.getElem?_eq_getElem (by have := HN.out; omega)⟩
                obtain ⟨⟨s2, p2, q2⟩, hb2⟩ : ∃ t, L[k]? = some t := ⟨_, List.getElem?_eq_getElem (by have := HN.out; omega)⟩
                obtain ⟨fi, hfi⟩ : ∃ t, F[i]? = some t := ⟨_, List.getElem?_eq_getElem (by have := HFL.out; omega)⟩
                obtain ⟨fk, hfk⟩ : ∃ t, F[k]? = some t := ⟨_, List.getElem?_eq_getElem (by have := HFL.out; omega)⟩
                obtain ⟨g5, off5, rfl, d0, d1, d2⟩ := HA9.out i _ hb1
                obtain ⟨_, _, he, e0, e1, e2⟩ := HA9.out k _ hb2
                cases he
                simp only at d0 d1 d2 e0 e1 e2
                have HX3 := Lib.hid x3
                have hkn : (k : Int) < (n : Int) := by omega
                have hki' : (k : Int) < (i : Int) := by omega
                have hFi : F[i]! = fi := by rw [List.getElem!_eq_getElem?_getD, hfi]; rfl
                have hFk : F[k]! = fk := by rw [List.getElem!_eq_getElem?_getD, hfk]; rfl
                have hLi : L[i]! = (s1, p1, q1) := get!_some hb1
                have hLk : L[k]! = (s2, p2, q2) := get!_some hb2
                have hbi := HFB.out i (by omega)
                have hbk := HFB.out k (by omega)
                rw [hFi] at hbi
                rw [hFk] at hbk
                have HEV2 : Hid ((s1, p1, q1) = (s2, p2, q2) → fi ≤ fk ∧ fk ≤ fi + 1) := Lib.hid (fun h => by
                  have := HEV.out i k hki (by omega) (by rw [hLi, hLk]; exact h)
                  rw [hFi, hFk] at this
                  exact this)
                have x3' := keep_cell ha2.out x3
                have ci := (HROW.out.later ha2.out).cell hfi
                have ck := (HROW.out.later ha2.out).cell hfk
                obtain ⟨dd, hdd⟩ : ∃ d, d = fi - fk := ⟨_, rfl⟩
                have hD := hdd.symm
                have hDw : IntKind.i64.wrap dd = dd := IntWalk.i64_in _ (by omega)
                have hdb1 : -1000000000 ≤ dd := by omega
                have hdb2 : dd ≤ 1000000000 := by omega
                have HD0 := Lib.hid hdd
                clear hb1 hb2 hfi hfk hFi hFk hLi hLk hbi hbk hdd x3
                go_upto_region 21 with fail
                go_quiet (fail)
                go_upto_region 22 with fail
                obtain ⟨w9, hw9⟩ : ∃ V, V = wr.drewN nq := ⟨_, rfl⟩
                have HA29 : Hid (Adds W7 w9) := Lib.hid (by rw [hw9]; exact ha2.out.drewN nq)
                rw [← hw9]
                clear hw9 ci ck x3'
                have c0 := keep_cell HA29.out d0
                have c1 := keep_cell HA29.out d1
                have c2 := keep_cell HA29.out d2
                have b0 := keep_cell HA29.out e0
                have b1 := keep_cell HA29.out e1
                have b2 := keep_cell HA29.out e2
                clear d0 d1 d2 e0 e1 e2
                by_cases heq : (s1, p1, q1) = (s2, p2, q2)
                · have hdf := HEV2.out heq
                  have hdz := HD0.out
                  have hd1 : decide (0 < dd) = false := decide_eq_false (by omega)
                  have hd2 : decide (dd < -1) = false := decide_eq_false (by omega)
                  simp only [Prod.mk.injEq] at heq
                  obtain ⟨rfl, rfl, rfl⟩ := heq
                  clear hdf hdz
                  have hE : ∀ W, (binOp .eql 61 (.agg #[.int .i64 s1, .int .i64 p1, .int .i64 q1]) (.agg #[.int .i64 s1, .int .i64 p1, .int .i64 q1])).run Try.prog W = .ok (.bool true) W := fun W => by
                    rw [eql61 (s1, p1, q1) (s1, p1, q1) W, decide_eq_true rfl]
                  have hG : ∀ x y W, (eqGuard .eql 61 x y (.agg #[.int .i64 s1, .int .i64 p1, .int .i64 q1]) (.agg #[.int .i64 s1, .int .i64 p1, .int .i64 q1])).run Try.prog W = .ok () W := fun x y W => eqg61 x y _ _ W
                  go_quiet (fail)
                  go_wp2
                  exact ⟨⟨k + 1, by omega, by go_num, Lib.hid (HA29.out.drewN _)⟩, by simp [intOf]; omega⟩
                · have hE : ∀ W, (binOp .eql 61 (.agg #[.int .i64 s1, .int .i64 p1, .int .i64 q1]) (.agg #[.int .i64 s2, .int .i64 p2, .int .i64 q2])).run Try.prog W = .ok (.bool false) W := fun W => by
                    rw [eql61 (s1, p1, q1) (s2, p2, q2) W, decide_eq_false heq]
                  have hG : ∀ x y W, (eqGuard .eql 61 x y (.agg #[.int .i64 s1, .int .i64 p1, .int .i64 q1]) (.agg #[.int .i64 s2, .int .i64 p2, .int .i64 q2])).run Try.prog W = .ok () W := fun x y W => eqg61 x y _ _ W
                  clear heq
                  go_quiet (fail)
                  go_wp2
                  exact ⟨⟨k + 1, by omega, by go_num, Lib.hid (HA29.out.drewN _)⟩, by simp [intOf]; omega⟩
              · have hkk : k = i := by omega
                subst hkk
                go_wp2
                exact ⟨⟨k + 1, by omega, by go_num, ha2⟩, by simp [intOf]; omega⟩
          · go_wp2_with (go_at_call 18; refine (awake_any _).mono ?_; rintro e w8 ⟨rfl, hb⟩; have HB8 := Lib.hid hb; clear hb)
            go_ret
            exact ⟨rfl, (((HB1.out.trans HB.out).trans HBW.out).trans ha1.out).trans HB8.out⟩
      · have he' : (er == 0) = false := beq_eq_false_iff_ne.2 hz
        clear hz
        go_wp2_with (go_at_call 18; refine (awake_any _).mono ?_; rintro e w8 ⟨rfl, hb⟩; have HB8 := Lib.hid hb; clear hb)
        go_ret
        exact ⟨rfl, ((HB1.out.trans HB.out).trans HBW.out).trans HB8.out⟩

end Go.Proofs.Ytigpghmbeldakaa
