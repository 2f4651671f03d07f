/- join: one turn of those of a load that follow on each other. -/
import Derived.Test.YtkofnhimgegcnaaT
namespace Go.Proofs.Ytkofnhimgegcnaa
open Go Go.RowKit Go.Sort

abbrev Tn := Int × Int × Int

/-- A turn more. -/
def addJ (J : List Tn) (t : Tn) : List Tn :=
  match J.getLast? with
  | some x => if x.1 = t.1 ∧ x.2.2 = t.2.1 then J.set (J.length - 1) (x.1, x.2.1, t.2.2) else J ++ [t]
  | none => [t]
def joinT (l : List Tn) : List Tn := l.foldl addJ []

theorem joinT_next {l : List Tn} {k : Nat} {t : Tn} (h : l[k]? = some t) : joinT (l.take (k + 1)) = addJ (joinT (l.take k)) t := by
  have hk' : k < l.length := (List.getElem?_eq_some_iff.1 h).1
  have e : l[k] = t := (List.getElem?_eq_some_iff.1 h).2
  unfold joinT
  rw [List.take_succ_eq_append_getElem hk', List.foldl_append, e]
  rfl
theorem addJ_len (J : List Tn) (t : Tn) : (addJ J t).length ≤ J.length + 1 := by
  unfold addJ
  split
  · split
    · rw [List.length_set]; omega
    · simp
  · simp
theorem joinT_len (l : List Tn) : ∀ k, (joinT (l.take k)).length ≤ k := by
  intro k
  induction k with
  | zero => simp [joinT]
  | succ k ih =>
    by_cases h : k < l.length
    · obtain ⟨t, ht⟩ : ∃ t, l[k]? = some t := ⟨_, List.getElem?_eq_getElem h⟩
      rw [joinT_next ht]
      have := addJ_len (joinT (l.take k)) t
      omega
    · rw [List.take_of_length_le (by omega)]
      rw [List.take_of_length_le (by omega)] at ih
      omega

theorem info41 : (Try.prog.info? 41).map (fun i => (i.zero, i.size, i.bytes)) = some (some (.agg #[.int .i64 0, .int .i64 0, .int .i64 0]), 3, 24) := by kernel_rfl

theorem flat3_set2 : ∀ {J : List Tn} {z : Nat} {xa xf xc b : Int}, J[z]? = some (xa, xf, xc) → (J.flatMap enc3).set (z * 3 + 2) (.int .i64 b) = (J.set z (xa, xf, b)).flatMap enc3
  | [], z, _, _, _, _, h => by simp at h
  | y :: J, 0, xa, xf, xc, b, h => by simp at h; subst h; simp [enc3]
  | y :: J, z + 1, xa, xf, xc, b, h => by
    have ih := flat3_set2 (J := J) (z := z) (b := b) (by simpa using h)
    rw [show (z + 1) * 3 + 2 = (z * 3 + 2) + 1 + 1 + 1 by omega]
    simp only [List.set_cons_succ, List.flatMap_cons, enc3, List.cons_append, List.nil_append]
    rw [← ih]

/-- What join leaves. -/
def JoinGot (g : Nat) (l : List Tn) (w : World) (e : Ending) (w' : World) : Prop :=
  ∃ l' v, l'.Perm l ∧ l'.Pairwise (fun x y => ltOf cfL y x = false) ∧ e = .returned v ∧ w'.ownsRow w.heap.size 41 3 v (joinT l').length ((joinT l').flatMap enc3) ∧ Touch (fun k => k = g) w w'

set_option maxRecDepth 100000 in
set_option maxHeartbeats 4000000 in
theorem join_any (g cap : Nat) (l : List Tn) (w : World) (hr : Row3 w g cap l) (hl : l.length ≤ 1000000) : Calls Try.prog 54 #[.slice (some ⟨g, 0, none⟩) l.length cap] w (JoinGot g l w) := by
  have hsort := sortL_any g cap l w hr hl
  obtain ⟨n, hn⟩ : ∃ n, n = l.length := ⟨_, rfl⟩
  rw [← hn] at hsort hl ⊢
  have HN := Lib.hid hn
  obtain ⟨i0, hi, hi0, hi1, hi2⟩ := info_parts info41
  have HI := Lib.hid hi
  have HI0 := Lib.hid hi0
  have HI1 := Lib.hid hi1
  have HI2 := Lib.hid hi2
  have hgl := hr.lt
  have HGL : Hid (g < w.heap.size) := Lib.hid hgl
  clear hi hi0 hi1 hi2 hn hr hgl
  go_enter Try.func54, Try.ntmps54
  go_upto_region 4 with (go_at_call 55; refine hsort.mono ?_; rintro e w1 ⟨rfl, l', hp, hs, hr1, ht1⟩; have HP := Lib.hid hp; have HS := Lib.hid hs; have HR1 := Lib.hid hr1; have HT1 := Lib.hid ht1; clear hp hs hr1 ht1)
  have hn' : l'.length = n := by rw [HP.out.length_eq]; exact HN.out.symm
  have HN' := Lib.hid hn'
  clear hn' hsort
  go_loopw [3, 11] (fun v3 v11 wr => ∃ k : Nat, k ≤ n ∧ v11 = .int .i64 k ∧ Hid (wr.ownsRow w1.heap.size 41 3 v3 (joinT (l'.take k)).length ((joinT (l'.take k)).flatMap enc3)) ∧ Hid (Adds w1 wr)) (fun _ v11 _ => n - (intOf v11).toNat)
  case atStart => exact ⟨0, by omega, rfl, Lib.hid (World.ownsRow_nil _ _ _ _), Lib.hid (Adds.refl _)⟩
  case round =>
    obtain ⟨k, hk, rfl, HO, HAD⟩ := hrel
    by_cases hlt : k < n
    · have hlt2 : (k : Int) < (n : Int) := by omega
      obtain ⟨tt, ht⟩ : ∃ t, l'[k]? = some t := ⟨_, List.getElem?_eq_getElem (by have := HN'.out; omega)⟩
      have HNX := Lib.hid (joinT_next ht)
      have hml := joinT_len l' k
      obtain ⟨t0, t1, t2⟩ := tt
      have hrow := HR1.out.later HAD.out
      obtain ⟨f0, f1, f2⟩ := flat3_cell k _ ht
      have d0 := hrow.cells _ _ f0
      have d1 := hrow.cells _ _ f1
      have d2 := hrow.cells _ _ f2
      dsimp only at d0 d1 d2
      obtain ⟨J, hJ⟩ : ∃ J, J = joinT (l'.take k) := ⟨_, rfl⟩
      rw [← hJ] at HO HNX hml
      obtain ⟨m, hm⟩ : ∃ m, m = J.length := ⟨_, rfl⟩
      rw [← hm] at HO hml
      have HM := Lib.hid hm
      have HJ := Lib.hid hJ
      clear f0 f1 f2 ht hrow hm hJ
      obtain ⟨pj, cj, rfl⟩ := own_slice HO.out
      go_upto_region 7 with fail
      obtain ⟨xb, hxb⟩ : ∃ b, b = wr.heap.size := ⟨_, rfl⟩
      obtain ⟨W2, hW2⟩ : ∃ V, V = wr.alloc (.cells #[.int .i64 t0, .int .i64 t1, .int .i64 t2] 41) := ⟨_, rfl⟩
      rw [← hW2, ← hxb]
      have hA2 : Adds wr W2 := by rw [hW2]; exact (Adds.refl _).alloc _
      have HX2 : Hid (Box W2 xb #[.int .i64 t0, .int .i64 t1, .int .i64 t2] 41) := Lib.hid (by rw [hW2, hxb]; exact Box.new _ _ _)
      have HO2 := Lib.hid (own_same (w' := W2) HO.out (fun q hq => hA2.block q (by obtain ⟨_, _, e⟩ := own_block HO.out hq; exact (Array.getElem?_eq_some_iff.1 e).1)))
      have HA2 := Lib.hid (HAD.out.trans hA2)
      have hxb2 : ∀ q, (Value.slice pj m cj).ownBlock = some q → q < xb := fun q hq => by rw [hxb]; obtain ⟨_, _, e⟩ := own_block HO.out hq; exact (Array.getElem?_eq_some_iff.1 e).1
      have HXB := Lib.hid hxb2
      clear hA2 hW2 hxb d0 d1 d2 HO HAD hxb2
      have kx0 : W2.cell? ⟨xb, 0, none⟩ = some (.int .i64 t0) := HX2.out.cell 0
      have kx1 : W2.cell? ⟨xb, 1, none⟩ = some (.int .i64 t1) := HX2.out.cell 1
      by_cases hm0 : m = 0
      · have hmi : (m : Int) - 1 = -1 := by omega
        rw [hmi]
        have HNEXT : Hid (joinT (l'.take (k + 1)) = J ++ [(t0, t1, t2)]) := Lib.hid (by
          have hJ0 : J = [] := List.length_eq_zero_iff.1 (by rw [← HM.out]; exact hm0)
          rw [HNX.out, hJ0]; rfl)
        clear hmi hm0
        go_quiet (fail)
        go_upto_region 9 with fail
        obtain ⟨W7, hW7⟩ : ∃ V, V = W2.drewN nq := ⟨_, rfl⟩
        rw [← hW7]
        have hd7 : Adds W2 W7 := by rw [hW7]; exact (Adds.refl _).drewN _
        have HA7 := Lib.hid (HA2.out.trans hd7)
        have HX7 := Lib.hid (HX2.out.later hd7)
        have HO7 := Lib.hid (own_same (w' := W7) HO2.out (fun q hq => hd7.block q (by obtain ⟨_, _, e⟩ := own_block HO2.out hq; exact (Array.getElem?_eq_some_iff.1 e).1)))
        clear hW7 hd7
        have r0 : W7.cell? ⟨xb, 0, none⟩ = some (.int .i64 t0) := HX7.out.cell 0
        have r1 : W7.cell? ⟨xb, 1, none⟩ = some (.int .i64 t1) := HX7.out.cell 1
        have r2 : W7.cell? ⟨xb, 2, none⟩ = some (.int .i64 t2) := HX7.out.cell 2
        have hs7 := HA7.out.size
        go_wp2_with (at_builtin; ((refine wpList_append_lies _ rfl _ _ 39 rfl w1.heap.size 41 i0 (.agg #[.int .i64 0, .int .i64 0, .int .i64 0]) 3 24 Try.underlying39 HI.out HI0.out HI1.out HI2.out rfl (by decide) (.slice pj m cj) m _ rfl (HO7.out.alloc _) ⟨W7.heap.size, 0, none⟩ 1 1 [.int .i64 t0, .int .i64 t1, .int .i64 t2] rfl rfl (World.news_of_block (Box.new W7 _ 41)) (by simp [Value.oneCell']) (by omega) (by unfold maxLen; omega) (by omega) (by simp; omega) (W7.heap.size + 1) (by simp) ?_); intro g6 c6 w6 ho6 hg6 hl6 hs6; have HO6 := Lib.hid ho6; have HG6 := Lib.hid hg6; clear ho6 hg6 hl6))
        refine ⟨⟨k + 1, by omega, by go_num, Lib.hid ?_, Lib.hid (Below.grown (HA7.out.alloc _) HG6.out (by simp; omega) (fun j hj => (own_block HO7.out hj).1))⟩, by simp [intOf]; omega⟩
        have e1 : (J ++ [(t0, t1, t2)]).length = m + 1 := by rw [List.length_append, ← HM.out]; rfl
        have e2 : (J ++ [(t0, t1, t2)]).flatMap enc3 = J.flatMap enc3 ++ [.int .i64 t0, .int .i64 t1, .int .i64 t2] := by simp [enc3]
        rw [HNEXT.out, e1, e2]
        exact HO6.out
      · obtain ⟨z, hz⟩ : ∃ z : Nat, m = z + 1 := ⟨m - 1, by omega⟩
        have hzi : (m : Int) - 1 = (z : Int) := by omega
        rw [hzi]
        obtain ⟨g2, c2', hp2, hg2⟩ := own_some HO2.out (by omega)
        simp only [Value.slice.injEq] at hp2
        obtain ⟨rfl, -, rfl⟩ := hp2
        obtain ⟨⟨xa, xf, xc⟩, hx⟩ : ∃ x, J[z]? = some x := ⟨_, List.getElem?_eq_getElem (by have := HM.out; omega)⟩
        have hlast : J.getLast? = some (xa, xf, xc) := by
          rw [List.getLast?_eq_getElem?, show J.length - 1 = z by have := HM.out; omega]
          exact hx
        obtain ⟨f0, f1, f2⟩ := flat3_cell z _ hx
        have kj0 : W2.cell? ⟨g2, z * 3, none⟩ = some (.int .i64 xa) := (own_cell HO2.out f0).1
        have kj2 : W2.cell? ⟨g2, z * 3 + 2, none⟩ = some (.int .i64 xc) := (own_cell HO2.out f2).1
        have hzm : (z : Int) < (m : Int) := by omega
        have hge : decide ((0 : Int) ≤ (z : Int)) = true := decide_eq_true (by omega)
        have HLAST := Lib.hid hlast
        have HZ := Lib.hid hz
        have HJX := Lib.hid hx
        have HF2 := Lib.hid f2
        clear hz hzi hx hlast hm0 f0 f1 f2
        by_cases hxa : xa = t0
        · have heq : (xa == t0) = true := by rw [hxa]; simp
          by_cases hxc : xc = t1
          · have heq2 : (xc == t1) = true := by rw [hxc]; simp
            have HNEXT : Hid (joinT (l'.take (k + 1)) = J.set z (xa, xf, t2)) := Lib.hid (by
              rw [HNX.out]
              unfold addJ
              rw [HLAST.out]
              dsimp only
              rw [if_pos ⟨hxa, hxc⟩, ← HM.out, HZ.out, Nat.add_sub_cancel])
            clear hxa hxc
            go_quiet (fail)
            go_upto_region 8 with fail
            obtain ⟨W7, hW7⟩ : ∃ V, V = W2.drewN nq := ⟨_, rfl⟩
            rw [← hW7]
            have hd7 : Adds W2 W7 := by rw [hW7]; exact (Adds.refl _).drewN _
            have HA7 := Lib.hid (HA2.out.trans hd7)
            have HX7 := Lib.hid (HX2.out.later hd7)
            have HO7 := Lib.hid (own_same (w' := W7) HO2.out (fun q hq => hd7.block q (by obtain ⟨_, _, e⟩ := own_block HO2.out hq; exact (Array.getElem?_eq_some_iff.1 e).1)))
            clear hW7 hd7 kx0 kx1 kj0 kj2
            have kx2 : W7.cell? ⟨xb, 2, none⟩ = some (.int .i64 t2) := HX7.out.cell 2
            have hcx := own_cell HO7.out HF2.out
            have kj : W7.cell? ⟨g2, z * 3 + 2, none⟩ = some (.int .i64 xc) := hcx.1
            have kjf : W7.frozen? ⟨g2, z * 3 + 2, none⟩ = false := hcx.2
            clear hcx
            go_wp2
            have hop := own_put (j := z * 3 + 2) HO7.out (.int .i64 t2)
            rw [flat3_set2 HJX.out] at hop
            have hln : (J.set z (xa, xf, t2)).length = m := by rw [List.length_set]; exact HM.out.symm
            refine ⟨⟨k + 1, by omega, by go_num, Lib.hid (by rw [HNEXT.out, hln]; exact hop), Lib.hid (HA7.out.set (p := ⟨g2, z * 3 + 2, none⟩) (by simpa using hg2) _)⟩, by simp [intOf]; omega⟩
          · have heq2 : (xc == t1) = false := by simpa using hxc
            have HNEXT : Hid (joinT (l'.take (k + 1)) = J ++ [(t0, t1, t2)]) := Lib.hid (by
              rw [HNX.out]
              unfold addJ
              rw [HLAST.out]
              dsimp only
              rw [if_neg (fun h => hxc h.2)])
            clear hxa hxc
            go_quiet (fail)
            go_upto_region 9 with fail
            obtain ⟨W7, hW7⟩ : ∃ V, V = W2.drewN nq := ⟨_, rfl⟩
            rw [← hW7]
            have hd7 : Adds W2 W7 := by rw [hW7]; exact (Adds.refl _).drewN _
            have HA7 := Lib.hid (HA2.out.trans hd7)
            have HX7 := Lib.hid (HX2.out.later hd7)
            have HO7 := Lib.hid (own_same (w' := W7) HO2.out (fun q hq => hd7.block q (by obtain ⟨_, _, e⟩ := own_block HO2.out hq; exact (Array.getElem?_eq_some_iff.1 e).1)))
            clear hW7 hd7
            have r0 : W7.cell? ⟨xb, 0, none⟩ = some (.int .i64 t0) := HX7.out.cell 0
            have r1 : W7.cell? ⟨xb, 1, none⟩ = some (.int .i64 t1) := HX7.out.cell 1
            have r2 : W7.cell? ⟨xb, 2, none⟩ = some (.int .i64 t2) := HX7.out.cell 2
            have hs7 := HA7.out.size
            go_wp2_with (at_builtin; ((refine wpList_append_lies _ rfl _ _ 39 rfl w1.heap.size 41 i0 (.agg #[.int .i64 0, .int .i64 0, .int .i64 0]) 3 24 Try.underlying39 HI.out HI0.out HI1.out HI2.out rfl (by decide) (.slice (some ⟨g2, 0, none⟩) m cj) m _ rfl (HO7.out.alloc _) ⟨W7.heap.size, 0, none⟩ 1 1 [.int .i64 t0, .int .i64 t1, .int .i64 t2] rfl rfl (World.news_of_block (Box.new W7 _ 41)) (by simp [Value.oneCell']) (by omega) (by unfold maxLen; omega) (by omega) (by simp; omega) (W7.heap.size + 1) (by simp) ?_); intro g6 c6 w6 ho6 hg6 hl6 hs6; have HO6 := Lib.hid ho6; have HG6 := Lib.hid hg6; clear ho6 hg6 hl6))
            refine ⟨⟨k + 1, by omega, by go_num, Lib.hid ?_, Lib.hid (Below.grown (HA7.out.alloc _) HG6.out (by simp; omega) (fun j hj => (own_block HO7.out hj).1))⟩, by simp [intOf]; omega⟩
            have e1 : (J ++ [(t0, t1, t2)]).length = m + 1 := by rw [List.length_append, ← HM.out]; rfl
            have e2 : (J ++ [(t0, t1, t2)]).flatMap enc3 = J.flatMap enc3 ++ [.int .i64 t0, .int .i64 t1, .int .i64 t2] := by simp [enc3]
            rw [HNEXT.out, e1, e2]
            exact HO6.out
        · have heq : (xa == t0) = false := by simpa using hxa
          have HNEXT : Hid (joinT (l'.take (k + 1)) = J ++ [(t0, t1, t2)]) := Lib.hid (by
            rw [HNX.out]
            unfold addJ
            rw [HLAST.out]
            dsimp only
            rw [if_neg (fun h => hxa h.1)])
          clear hxa
          go_quiet (fail)
          go_upto_region 9 with fail
          obtain ⟨W7, hW7⟩ : ∃ V, V = W2.drewN nq := ⟨_, rfl⟩
          rw [← hW7]
          have hd7 : Adds W2 W7 := by rw [hW7]; exact (Adds.refl _).drewN _
          have HA7 := Lib.hid (HA2.out.trans hd7)
          have HX7 := Lib.hid (HX2.out.later hd7)
          have HO7 := Lib.hid (own_same (w' := W7) HO2.out (fun q hq => hd7.block q (by obtain ⟨_, _, e⟩ := own_block HO2.out hq; exact (Array.getElem?_eq_some_iff.1 e).1)))
          clear hW7 hd7
          have r0 : W7.cell? ⟨xb, 0, none⟩ = some (.int .i64 t0) := HX7.out.cell 0
          have r1 : W7.cell? ⟨xb, 1, none⟩ = some (.int .i64 t1) := HX7.out.cell 1
          have r2 : W7.cell? ⟨xb, 2, none⟩ = some (.int .i64 t2) := HX7.out.cell 2
          have hs7 := HA7.out.size
          go_wp2_with (at_builtin; ((refine wpList_append_lies _ rfl _ _ 39 rfl w1.heap.size 41 i0 (.agg #[.int .i64 0, .int .i64 0, .int .i64 0]) 3 24 Try.underlying39 HI.out HI0.out HI1.out HI2.out rfl (by decide) (.slice (some ⟨g2, 0, none⟩) m cj) m _ rfl (HO7.out.alloc _) ⟨W7.heap.size, 0, none⟩ 1 1 [.int .i64 t0, .int .i64 t1, .int .i64 t2] rfl rfl (World.news_of_block (Box.new W7 _ 41)) (by simp [Value.oneCell']) (by omega) (by unfold maxLen; omega) (by omega) (by simp; omega) (W7.heap.size + 1) (by simp) ?_); intro g6 c6 w6 ho6 hg6 hl6 hs6; have HO6 := Lib.hid ho6; have HG6 := Lib.hid hg6; clear ho6 hg6 hl6))
          refine ⟨⟨k + 1, by omega, by go_num, Lib.hid ?_, Lib.hid (Below.grown (HA7.out.alloc _) HG6.out (by simp; omega) (fun j hj => (own_block HO7.out hj).1))⟩, by simp [intOf]; omega⟩
          have e1 : (J ++ [(t0, t1, t2)]).length = m + 1 := by rw [List.length_append, ← HM.out]; rfl
          have e2 : (J ++ [(t0, t1, t2)]).flatMap enc3 = J.flatMap enc3 ++ [.int .i64 t0, .int .i64 t1, .int .i64 t2] := by simp [enc3]
          rw [HNEXT.out, e1, e2]
          exact HO6.out
    · have hkn : k = n := by omega
      have e1 : l'.take k = l' := List.take_of_length_le (by have := HN'.out; omega)
      rw [e1] at HO
      clear e1
      have hdq : decide ((k : Int) < (n : Int)) = false := decide_eq_false (by omega)
      clear hkn
      go_wp2
      go_ret
      exact ⟨l', _, HP.out, HS.out, rfl, own_base_le HO.out HT1.out.size, HT1.out.behind HAD.out⟩

end Go.Proofs.Ytkofnhimgegcnaa
