/- Plan of the reference: true of a plan. -/
import Derived.Test.YtkofnhimgegcnaaAO
import Derived.StillTailTactics
namespace Go.Proofs.Ytkofnhimgegcnaa
open Go Go.RowKit Go.Sort

set_option maxRecDepth 100000 in
set_option maxHeartbeats 4000000 in
theorem RPlan_any (lp : Option Addr) (lc : Nat) (l : List Ld) (K : Int) (p : Option Addr) (cl base : Nat) (P : List Tn) (w : World) (hl : LoadsAt w lp l) (hn : l.length ≤ 1000) (hok : ∀ x ∈ l, okN x)
    (hP : TurnsR w base (.slice p P.length cl) P) (hm : P.length ≤ 1000000) (hpl : PlanOK l K P) :
    Calls Try.prog 19 #[.slice lp l.length lc, .int .i64 K, .slice p P.length cl] w fun e w' => e = .returned (.bool true) ∧ Adds w w' := by
  obtain ⟨j0, hj, hj0, hj1, hj2⟩ := info_parts info3
  have HJ := Lib.hid hj
  have HJ0 := Lib.hid hj0
  have HJ1 := Lib.hid hj1
  have HJ2 := Lib.hid hj2
  clear hj hj0 hj1 hj2
  unfold TurnsR at hP
  obtain ⟨n, hn'⟩ : ∃ n, n = l.length := ⟨_, rfl⟩
  obtain ⟨m, hm'⟩ : ∃ m, m = P.length := ⟨_, rfl⟩
  rw [← hn'] at hn ⊢
  rw [← hm'] at hm hP ⊢
  have HN := Lib.hid hn'
  have HM := Lib.hid hm'
  have HL := Lib.hid hl
  have HP := Lib.hid hP
  have HPL := Lib.hid hpl
  have HOK := Lib.hid hok
  have HBD : Hid (∀ (j : Nat), j < n → ∀ k, 0 ≤ sumT (len1 (j : Int)) (P.take k) ∧ sumT (len1 (j : Int)) (P.take k) ≤ 1000000) := Lib.hid (fun j hj k => hpl.sum_bd hok (by omega) k)
  clear hl hP hpl hok hn' hm'
  go_enter Try.func19, Try.ntmps19
  go_upto_region 2 with (refine wpList_make_full _ rfl _ _ 35 rfl w.heap.size 3 j0 (.int .i64 0) 1 Try.underlying35 HJ.out HJ0.out HJ1.out .i64 .i64 (n : Int) (n : Int) n rfl rfl rfl rfl (by rw [HJ2.out]; omega) (by unfold maxLen; omega) (by simp) ?_; intro y5 ho hg; have HO := Lib.hid (made_row ho); have HG := Lib.hid hg; clear ho hg)
  obtain ⟨g, hg⟩ : ∃ g, g = w.heap.size := ⟨_, rfl⟩
  have HGW := Lib.hid hg
  rw [← hg] at HO ⊢
  have HROW : Hid (RowI 3 .i64 y5 g n (sumsL n (P.take 0))) := Lib.hid (by
    obtain ⟨e1, e2⟩ := own_rowI HO.out
    rcases e2 with ⟨e2, _⟩ | ⟨g', cap, e2, _, e3⟩
    · cases e2
    · injection e2 with e4 e5 e6
      injection e4 with e4
      injection e4 with e4
      subst e6
      subst e4
      rw [List.take_zero, sumsL_nil]
      exact e3)
  have HA0 : Hid (Adds w y5) := Lib.hid ((Adds.refl w).grown HG.out (Nat.le_refl _) (fun j hj => by cases hj))
  clear HO HG hg
  go_upto_region 3 with fail
  go_loopw [8] (fun v8 wr => ∃ i : Nat, i ≤ m ∧ v8 = .int .i64 i ∧ Hid (RowI 3 .i64 wr g n (sumsL n (P.take i))) ∧ Hid (Adds w wr)) (fun v8 _ => m - (intOf v8).toNat)
  case atStart => exact ⟨0, by omega, rfl, HROW, HA0⟩
  case round =>
    obtain ⟨i, hi, rfl, HR, HAD⟩ := hrel
    by_cases hlt : i < m
    · have hlt2 : (i : Int) < (m : Int) := by omega
      obtain ⟨⟨x0, x1, x2⟩, hx⟩ : ∃ x, P[i]? = some x := ⟨_, List.getElem?_eq_getElem (by have := HM.out; omega)⟩
      obtain ⟨j, ⟨y0, y1, y2, y3⟩, ex, hy, b1, b2, b3⟩ := HPL.out.inn _ (List.mem_of_getElem? hx)
      dsimp only at ex b1 b2 b3
      subst ex
      have hjn : j < n := by have := (List.getElem?_eq_some_iff.1 hy).1; have := HN.out; omega
      have hok := HOK.out _ (List.mem_of_getElem? hy)
      unfold okN at hok
      dsimp only at hok
      obtain ⟨o1, o2, o3, o4, o5, o6⟩ := hok
      obtain ⟨tg, c', e, _⟩ := own_some HP.out (by omega)
      injection e with e1 e2 e3
      subst e1
      clear e2 e3
      obtain ⟨f0, f1, f2⟩ := flat3_cell i _ hx
      have d0 := keep_cell HAD.out (own_cell HP.out f0).1
      have d1 := keep_cell HAD.out (own_cell HP.out f1).1
      have d2 := keep_cell HAD.out (own_cell HP.out f2).1
      dsimp only at d0 d1 d2
      obtain ⟨lg, off, rfl, e0, e1, e2, e3⟩ := HL.out.later HAD.out j _ hy
      dsimp only at e0 e1 e2 e3
      have HX := Lib.hid hx
      have HY := Lib.hid hy
      clear hx hy f0 f1 f2 e2 e3
      go_upto_region 6 with fail
      obtain ⟨xb, hxb⟩ : ∃ b, b = wr.heap.size := ⟨_, rfl⟩
      obtain ⟨W2, hW2⟩ : ∃ V, V = wr.alloc (.cells #[.int .i64 (j : Int), .int .i64 x1, .int .i64 x2] 42) := ⟨_, rfl⟩
      rw [← hW2, ← hxb]
      have hgl := HR.out.lt
      have hA2 : Adds wr W2 := by rw [hW2]; exact (Adds.refl _).alloc _
      have HA2 : Hid (Adds w W2) := Lib.hid (HAD.out.trans hA2)
      have HX2 : Hid (Box W2 xb #[.int .i64 (j : Int), .int .i64 x1, .int .i64 x2] 42) := Lib.hid (by rw [hW2, hxb]; exact Box.new _ _ _)
      have HR2 : Hid (RowI 3 .i64 W2 g n (sumsL n (P.take i))) := Lib.hid (HR.out.later hA2)
      have hgx : g ≠ xb := by omega
      have k0 : W2.cell? ⟨xb, 0, none⟩ = some (.int .i64 (j : Int)) := HX2.out.cell 0
      have k1 : W2.cell? ⟨xb, 1, none⟩ = some (.int .i64 x1) := HX2.out.cell 1
      have k2 : W2.cell? ⟨xb, 2, none⟩ = some (.int .i64 x2) := HX2.out.cell 2
      have u0 := keep_cell hA2 e0
      have u1 := keep_cell hA2 e1
      have g1 : decide ((j : Int) < 0) = false := decide_eq_false (by omega)
      have g2 : decide ((n : Int) ≤ (j : Int)) = false := decide_eq_false (by omega)
      have g3 : decide (x2 ≤ x1) = false := decide_eq_false (by omega)
      have g4 : decide (x1 < y0) = false := decide_eq_false (by omega)
      have g5 : decide (y1 < x2) = false := decide_eq_false (by omega)
      have q0 : (0 : Int) ≤ (j : Int) := by omega
      have q1 : (j : Int) < (n : Int) := by omega
      clear hW2 hxb hA2 d0 d1 d2 e0 e1 HAD HR hgl
      go_quiet (fail)
      go_upto_region 8 with fail
      obtain ⟨W3, hW3⟩ : ∃ V, V = W2.drewN nq := ⟨_, rfl⟩
      rw [← hW3]
      have hA3 : Adds W2 W3 := by rw [hW3]; exact (Adds.refl _).drewN _
      have HA3 : Hid (Adds w W3) := Lib.hid (HA2.out.trans hA3)
      have HX3 : Hid (Box W3 xb #[.int .i64 (j : Int), .int .i64 x1, .int .i64 x2] 42) := Lib.hid (HX2.out.later hA3)
      have HR3 : Hid (RowI 3 .i64 W3 g n (sumsL n (P.take i))) := Lib.hid (HR2.out.later hA3)
      obtain ⟨s0, s1⟩ := HBD.out j hjn i
      obtain ⟨s, hs⟩ : ∃ s, s = sumT (len1 (j : Int)) (P.take i) := ⟨_, rfl⟩
      rw [← hs] at s0 s1
      have k3 : W3.cell? ⟨g, j, none⟩ = some (.int .i64 s) := HR3.out.cell (by rw [sumsL_get _ hjn, hs])
      have kf : W3.frozen? ⟨g, j, none⟩ = false := HR3.out.free j
      clear hW3 hA3 k0 k1 k2 u0 u1 g1 g2 g3 g4 g5
      have k0 : W3.cell? ⟨xb, 0, none⟩ = some (.int .i64 (j : Int)) := HX3.out.cell 0
      have k1 : W3.cell? ⟨xb, 1, none⟩ = some (.int .i64 x1) := HX3.out.cell 1
      have k2 : W3.cell? ⟨xb, 2, none⟩ = some (.int .i64 x2) := HX3.out.cell 2
      have hw1 : IntKind.i64.wrap (s + x2) = s + x2 := by rw [IntKind.wrap_i64]; omega
      have hw2 : IntKind.i64.wrap (s + x2 - x1) = s + x2 - x1 := by rw [IntKind.wrap_i64]; omega
      have HNS : Hid (sumsL n (P.take (i + 1)) = (sumsL n (P.take i)).set j (s + x2 - x1)) := Lib.hid (by rw [sumsL_next HX.out rfl hjn, hs]; dsimp only; congr 1; omega)
      clear hs
      go_still_tail 15, (by kernel_rfl)
      change wpList _ _ _ _ _ W3.drew
      go_upto_region 9 with fail
      obtain ⟨W4, hW4⟩ : ∃ V, V = (W3.setCell ⟨g, j, none⟩ (.int .i64 (s + x2 - x1))).drew := ⟨_, rfl⟩
      rw [← hW4]
      have HA4 : Hid (Adds w W4) := Lib.hid (by rw [hW4]; exact (HA3.out.set (p := ⟨g, j, none⟩) (by have := HGW.out; simp; omega) _).drew)
      have HR4 : Hid (RowI 3 .i64 W4 g n (sumsL n (P.take (i + 1)))) := Lib.hid (by
        rw [hW4, HNS.out]
        have h1 := HR3.out.put j (s + x2 - x1)
        exact h1.same rfl)
      have HX4 : Hid (Box W4 xb #[.int .i64 (j : Int), .int .i64 x1, .int .i64 x2] 42) := Lib.hid (by rw [hW4]; exact (HX3.out.far (by simp; omega) _).drew)
      clear hW4 k0 k1 k2 k3 kf hw1 hw2 s0 s1
      go_upto_region 11 with fail
      go_loopw [10, 11] (fun v10 v11 wi => ∃ k : Nat, k ≤ m ∧ v11 = .int .i64 k ∧ v10 = .int .i64 (sumT (cov1 x1) (P.take k)) ∧ Hid (Adds W4 wi)) (fun _ v11 _ => m - (intOf v11).toNat)
      case atStart => exact ⟨0, by omega, rfl, rfl, Lib.hid (Adds.refl _)⟩
      case round =>
        obtain ⟨k, hk, rfl, rfl, HAI⟩ := hrel
        by_cases hkl : k < m
        · have hkl2 : (k : Int) < (m : Int) := by omega
          obtain ⟨⟨z0, z1, z2⟩, hz⟩ : ∃ x, P[k]? = some x := ⟨_, List.getElem?_eq_getElem (by have := HM.out; omega)⟩
          obtain ⟨f0, f1, f2⟩ := flat3_cell k _ hz
          have hA := HA4.out.trans HAI.out
          have d0 := keep_cell hA (own_cell HP.out f0).1
          have d1 := keep_cell hA (own_cell HP.out f1).1
          have d2 := keep_cell hA (own_cell HP.out f2).1
          dsimp only at d0 d1 d2
          have k0 : wr.cell? ⟨xb, 0, none⟩ = some (.int .i64 (j : Int)) := (HX4.out.later HAI.out).cell 0
          have k1 : wr.cell? ⟨xb, 1, none⟩ = some (.int .i64 x1) := (HX4.out.later HAI.out).cell 1
          have HZ := Lib.hid hz
          have HNX : Hid (sumT (cov1 x1) (P.take (k + 1)) = sumT (cov1 x1) (P.take k) + cov1 x1 (z0, z1, z2)) := Lib.hid (sumT_next hz)
          obtain ⟨c0, c1⟩ := cov_le x1 (P.take k)
          have hcl : ((P.take k).length : Int) ≤ (k : Int) := by rw [List.length_take]; omega
          obtain ⟨c, hc⟩ : ∃ c, c = sumT (cov1 x1) (P.take k) := ⟨_, rfl⟩
          rw [← hc] at c0 c1 HNX ⊢
          have cb : c ≤ 1000000 := by omega
          clear hz f0 f1 f2 hA hc c1 hcl
          by_cases b1 : z1 ≤ x1
          · have g1 : decide (z1 ≤ x1) = true := decide_eq_true b1
            by_cases b2 : x1 < z2
            · have g2 : decide (x1 < z2) = true := decide_eq_true b2
              have HN1 : Hid (sumT (cov1 x1) (P.take (k + 1)) = c + 1) := Lib.hid (by rw [HNX.out]; unfold cov1; rw [if_pos ⟨b1, b2⟩])
              by_cases hki : k = i
              · have g3 : ((k : Int) != (i : Int)) = false := by simp [hki]
                clear hki
                go_upto_region 13 with fail
                go_quiet (fail)
                go_upto_region 15 with fail
                go_quiet (fail)
                go_wp2
                exact ⟨⟨k + 1, by omega, by go_num, by rw [HN1.out], Lib.hid (HAI.out.drewN _)⟩, by simp [intOf]; omega⟩
              · have g3 : ((k : Int) != (i : Int)) = true := by simp; omega
                have g4 : (z0 == (j : Int)) = false := by
                  rw [beq_eq_false_iff_ne]
                  intro e
                  exact HPL.out.other hki HX.out HZ.out ⟨b1, b2⟩ e
                clear hki
                go_upto_region 13 with fail
                go_quiet (fail)
                go_upto_region 15 with fail
                obtain ⟨W5, hW5⟩ : ∃ V, V = wr.drewN nq := ⟨_, rfl⟩
                rw [← hW5]
                have hd5 : Adds wr W5 := by rw [hW5]; exact (Adds.refl _).drewN _
                have m0 := keep_cell hd5 d0
                have m1 := keep_cell hd5 k0
                have HA5 := Lib.hid (HAI.out.trans hd5)
                clear hW5 hd5 d0 d1 d2 k0 k1
                go_quiet (fail)
                go_wp2
                exact ⟨⟨k + 1, by omega, by go_num, by rw [HN1.out], Lib.hid (HA5.out.drewN _)⟩, by simp [intOf]; omega⟩
            · have g2 : decide (x1 < z2) = false := decide_eq_false b2
              have HN1 : Hid (sumT (cov1 x1) (P.take (k + 1)) = c) := Lib.hid (by rw [HNX.out]; unfold cov1; rw [if_neg (fun h => b2 h.2)]; omega)
              go_upto_region 13 with fail
              go_quiet (fail)
              go_wp2
              exact ⟨⟨k + 1, by omega, by go_num, by rw [HN1.out], Lib.hid (HAI.out.drewN _)⟩, by simp [intOf]; omega⟩
          · have g1 : decide (z1 ≤ x1) = false := decide_eq_false b1
            have HN1 : Hid (sumT (cov1 x1) (P.take (k + 1)) = c) := Lib.hid (by rw [HNX.out]; unfold cov1; rw [if_neg (fun h => b1 h.1)]; omega)
            go_upto_region 13 with fail
            go_quiet (fail)
            go_wp2
            exact ⟨⟨k + 1, by omega, by go_num, by rw [HN1.out], Lib.hid (HAI.out.drewN _)⟩, by simp [intOf]; omega⟩
        · have hdq : decide ((k : Int) < (m : Int)) = false := decide_eq_false (by omega)
          have e1 : P.take k = P := List.take_of_length_le (by have := HM.out; omega)
          rw [e1]
          have hfew := HPL.out.few x1
          obtain ⟨c, hc⟩ : ∃ c, c = sumT (cov1 x1) P := ⟨_, rfl⟩
          rw [← hc] at hfew ⊢
          have g1 : decide (K < c) = false := decide_eq_false (by omega)
          clear e1 hc
          go_wp2
          exact ⟨⟨i + 1, by omega, by go_num, Lib.hid (HR4.out.later HAI.out), Lib.hid (HA4.out.trans HAI.out)⟩, by simp [intOf]; omega⟩
    · have hdq : decide ((i : Int) < (m : Int)) = false := decide_eq_false (by omega)
      have e1 : P.take i = P := List.take_of_length_le (by have := HM.out; omega)
      rw [e1] at HR
      clear e1
      go_upto_region 20 with fail
      go_loopw [12] (fun v12 wi => ∃ q : Nat, q ≤ n ∧ v12 = .int .i64 q ∧ Hid (Adds wr wi)) (fun v12 _ => n - (intOf v12).toNat)
      case atStart => exact ⟨0, by omega, rfl, Lib.hid (Adds.refl _)⟩
      case round =>
        rename_i wo _ _ _ _ _ _
        obtain ⟨q, hq, rfl, HAI⟩ := hrel
        by_cases hql : q < n
        · have hql2 : (q : Int) < (n : Int) := by omega
          obtain ⟨⟨y0, y1, y2, y3⟩, hy⟩ : ∃ x, l[q]? = some x := ⟨_, List.getElem?_eq_getElem (by have := HN.out; omega)⟩
          have hln := HPL.out.len q _ hy
          dsimp only at hln
          obtain ⟨lg, off, rfl, e0, e1, e2, e3⟩ := HL.out.later (HAD.out.trans HAI.out) q _ hy
          dsimp only at e2
          have ks : wr.cell? ⟨g, q, none⟩ = some (.int .i64 y2) := (HR.out.later HAI.out).cell (by rw [sumsL_get _ hql, hln])
          have g1 : (y2 != y2) = false := by simp
          clear hy hln e0 e1 e3
          go_upto_region 22 with fail
          go_quiet (fail)
          go_wp2
          exact ⟨⟨q + 1, by omega, by go_num, Lib.hid (HAI.out.drewN _)⟩, by simp [intOf]; omega⟩
        · have hdq : decide ((q : Int) < (n : Int)) = false := decide_eq_false (by omega)
          go_wp2
          go_ret
          exact ⟨rfl, HAD.out.trans HAI.out⟩

end Go.Proofs.Ytkofnhimgegcnaa
