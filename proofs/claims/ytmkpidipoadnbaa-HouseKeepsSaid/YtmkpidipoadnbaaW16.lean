/- pay: what is taken from a member's cash. -/
import Derived.Test.YtmkpidipoadnbaaW15
namespace Go.Proofs.Ytmkpidipoadnbaa
open Go Go.RowKit Go.Sort

abbrev PayTo (v : Value) (x y : Int) (w : World) (Q : Ending → World → Prop) : Prop := Calls Try.prog 22 #[v, .int .i64 x, .int .i64 y] w Q

set_option maxRecDepth 100000 in
theorem pay_bad (v : Value) (x y e : Int) (w : World) (he : e ≠ 0) (hf : PayerTo v x y w none e) : PayTo v x y w fun r w' => r = .returned (pairV none e) ∧ Adds w w' := by
  have HF := Lib.hid hf
  have hne : (e == 0) = false := by rw [beq_eq_false_iff_ne]; exact he
  clear hf
  go_enter Try.func22, Try.ntmps22
  go_wp2_with (go_at_call 21; refine HF.out.mono ?_; rintro e w1 ⟨rfl, ha⟩; have HA := Lib.hid ha; clear ha)
  go_ret2
  exact ⟨rfl, HA.out⟩

set_option maxRecDepth 100000 in
theorem pay_funds (v : Value) (x y c : Int) (ga i : Nat) (w : World) (hf : PayerTo v x y w (accP ga i) 0) (h0 : w.cell? ⟨ga, i * 15, none⟩ = some (.int .i64 c)) (hlt : c < y) : PayTo v x y w fun r w' => r = .returned (pairV none 9) ∧ Adds w w' := by
  have HF := Lib.hid hf
  have H0 := Lib.hid (fun w' (ha : Adds w w') => keep_cell ha h0)
  clear hf
  unfold accP at HF
  go_enter Try.func22, Try.ntmps22
  go_wp2_with (go_at_call 21; refine HF.out.mono ?_; rintro e w1 ⟨rfl, ha⟩; have c0 := H0.out w1 ha; have HA := Lib.hid ha; clear ha)
  go_ret2
  exact ⟨rfl, HA.out⟩

theorem there_later {w w' : World} {b o n : Nat} (h : w.there b o n) (hn : 0 < n) (ha : Adds w w') : w'.there b o n := by
  have hlt : b < w.heap.size := by
    have h1 := (h 0 hn).1
    rw [Option.isSome_iff_exists] at h1
    obtain ⟨v, hv⟩ := h1
    exact cell_lt hv
  intro j hj
  have h1 := h j hj
  have e1 : w'.cell? ⟨b, o + j, none⟩ = w.cell? ⟨b, o + j, none⟩ := ha.cell (p := ⟨b, o + j, none⟩) hlt
  have e2 : w'.frozen? ⟨b, o + j, none⟩ = w.frozen? ⟨b, o + j, none⟩ := ha.frozen (p := ⟨b, o + j, none⟩) hlt
  rw [e1, e2]
  exact h1
theorem encA_one (a : Ac) : ((encA a).toArray).all (·.oneCell') = true := by
  refine all_oneCell_toArray fun v hv => ?_
  unfold encA encM at hv
  rcases List.mem_cons.1 hv with rfl | hv
  · rfl
  · rcases List.mem_cons.1 hv with rfl | hv
    · rfl
    · rcases List.mem_append.1 hv with hv | hv
      · rcases List.mem_append.1 hv with hv | hv
        · exact ints_one _ v (List.mem_of_mem_take hv)
        · rw [(List.mem_replicate.1 hv).2]
          rfl
      · rw [List.mem_singleton.1 hv]
        rfl
theorem encA_cash_set (a : Ac) (c : Int) : (encA a).toArray.setIfInBounds 0 (.int .i64 c) = (encA { a with cash := c }).toArray := by
  simp [encA]


set_option maxRecDepth 100000 in
set_option maxHeartbeats 4000000 in
theorem pay_margin (x y : Int) (b cm ga i : Nat) (pm : Option Addr) (h : Hs) (a : Ac) (w : World) (hc : Calm h) (hR : HouseR w b h pm cm) (hca : CalmA a) (hacc : w.rangeAt ga (i * 15) (encA a)) (hf : PayerTo (.pointer (some ⟨b, 0, none⟩)) x y w (accP ga i) 0) (hy1 : 1 ≤ y) (hy2 : y ≤ a.cash) (hno : coversB h { a with cash := a.cash - y } = false) :
    PayTo (.pointer (some ⟨b, 0, none⟩)) x y w fun r w' => r = .returned (pairV none 90) ∧ Adds w w' := by
  have hca2 : CalmA { a with cash := a.cash - y } := ⟨hca.len, hca.few, by have := hca.cash0; show _ ≤ a.cash - y; omega, by have := hca.cash1; show a.cash - y ≤ _; omega⟩
  have HCO := Lib.hid (fun (W : World) (hW : Adds w W) => covers_any b cm pm h { a with cash := a.cash - y } W hc (hR.later hW) hca2)
  rw [hno] at HCO
  have HSZ : Hid ((encA a).length = 15) := Lib.hid (encA_len a)
  have H0 : Hid (∀ w', Adds w w' → w'.cell? ⟨ga, i * 15, none⟩ = some (.int .i64 a.cash)) := Lib.hid (fun w' ha => keep_cell ha (hacc 0 _ rfl))
  have HA0 := Lib.hid hacc
  have HF := Lib.hid hf
  have hc0 := hca.cash0
  have hc1 := hca.cash1
  have HST := Lib.hid (encA_cash_set a)
  obtain ⟨av, hav⟩ : ∃ v, v = encA a := ⟨_, rfl⟩
  have HE := Lib.hid (show (encA a).toArray[0]? = some (.int .i64 a.cash) from encA_cash a)
  have HON := Lib.hid (encA_one a)
  unfold accV at HCO
  obtain ⟨bv, hbv⟩ : ∃ v, v = (encA { a with cash := a.cash - y }).toArray := ⟨_, rfl⟩
  have HBV : Hid (av.toArray.setIfInBounds 0 (.int .i64 (a.cash - y)) = bv) := Lib.hid (by rw [hbv, hav]; exact encA_cash_set a _)
  have HBL : Hid (bv.size = 15) := Lib.hid (by rw [hbv]; simp [encA_len])
  rw [← hbv] at HCO
  rw [← hav] at HSZ HA0 HE HON
  obtain ⟨c, hcc⟩ : ∃ c, c = a.cash := ⟨_, rfl⟩
  rw [← hcc] at hy2 hc0 hc1 H0 HE HBV
  have hyc : decide (c < y) = false := decide_eq_false (by omega)
  clear hc hR hca hacc hf hno hca2 HST hav hbv hcc
  unfold accP at HF
  go_enter Try.func22, Try.ntmps22
  go_upto_region 6 with (go_at_call 21; refine HF.out.mono ?_; rintro e w1 ⟨rfl, ha⟩; have c0 := H0.out w1 ha; have HA := Lib.hid ha; have HR := Lib.hid (range_later HA0.out ha); clear ha)
  go_upto_region 7 with (first
    | (refine wpList_load_mid rfl 72 _ rfl ga (i * 15) rfl av _ HR.out Try.underlying72 rfl (by rw [info_acc, HSZ.out]) ?_)
    | (refine wpList_store_mid rfl 72 _ _ rfl w1.heap.size 0 av.toArray rfl rfl ((Box.new w1 _ 72).there 0 _ (by simp [HSZ.out])) (by rw [info_acc]; simp [HSZ.out]) HON.out ?_))
  have k0 := (Box.new w1 #[.int .i64 0, .int .i64 0, .int .i64 0, .int .i64 0, .int .i64 0, .int .i64 0, .int .i64 0, .int .i64 0, .int .i64 0, .int .i64 0, .int .i64 0, .int .i64 0, .int .i64 0, .int .i64 0, .bool false] 72).setCells av 0
  rw [putAt_whole _ _ (by simp [HSZ.out])] at k0
  have hA := Adds.setCells (Nat.le_refl _) av 0 ((Adds.refl w1).alloc (.cells #[.int .i64 0, .int .i64 0, .int .i64 0, .int .i64 0, .int .i64 0, .int .i64 0, .int .i64 0, .int .i64 0, .int .i64 0, .int .i64 0, .int .i64 0, .int .i64 0, .int .i64 0, .int .i64 0, .bool false] 72))
  obtain ⟨W, hW⟩ : ∃ V, V = (w1.alloc (.cells #[.int .i64 0, .int .i64 0, .int .i64 0, .int .i64 0, .int .i64 0, .int .i64 0, .int .i64 0, .int .i64 0, .int .i64 0, .int .i64 0, .int .i64 0, .int .i64 0, .int .i64 0, .int .i64 0, .bool false] 72)).setCells w1.heap.size 0 av := ⟨_, rfl⟩
  rw [← hW] at k0 hA ⊢
  obtain ⟨s, hs⟩ : ∃ s, s = w1.heap.size := ⟨_, rfl⟩
  rw [← hs] at k0 ⊢
  have hsw : w.heap.size ≤ s := by rw [hs]; exact HA.out.size
  have d0 : W.cell? ⟨s, 0, none⟩ = some (.int .i64 c) := by rw [k0.cell]; exact HE.out
  have d1 : W.frozen? ⟨s, 0, none⟩ = false := k0.free 0
  have K0 := Lib.hid k0
  have HB := Lib.hid (HA.out.trans hA)
  have HSW := Lib.hid hsw
  clear hW k0 hA hs hsw
  go_upto_region 8 with fail
  have k1 := K0.out.set 0 (.int .i64 (c - y))
  have hB := Adds.set HB.out (p := ⟨s, 0, none⟩) HSW.out (.int .i64 (c - y))
  rw [HBV.out] at k1
  obtain ⟨V, hV⟩ : ∃ V, V = W.setCell ⟨s, 0, none⟩ (.int .i64 (c - y)) := ⟨_, rfl⟩
  rw [← hV] at k1 hB ⊢
  have K1 := Lib.hid k1
  have HD := Lib.hid hB
  clear hV k1 hB d0 d1 K0 HB c0
  go_wp2_with (first
    | (refine wpList_load_row rfl 72 _ rfl s rfl 72 bv (0, 0) _ K1.out Try.underlying72 rfl (by rw [info_acc, HBL.out]) ?_)
    | (go_at_call 37; refine (HCO.out _ HD.out).mono ?_; rintro e w2 ⟨rfl, ha⟩; have HG := Lib.hid (HD.out.trans ha); have K2 := Lib.hid (K1.out.later ha); clear ha))
  go_ret2
  exact ⟨rfl, HG.out⟩

set_option maxRecDepth 100000 in
set_option maxHeartbeats 4000000 in
theorem pay_ok (x y : Int) (b cm ga i : Nat) (pm : Option Addr) (h : Hs) (a : Ac) (w : World) (hc : Calm h) (hR : HouseR w b h pm cm) (hca : CalmA a) (hacc : w.rangeAt ga (i * 15) (encA a)) (hth : w.there ga (i * 15) 15) (hf : PayerTo (.pointer (some ⟨b, 0, none⟩)) x y w (accP ga i) 0) (hy1 : 1 ≤ y) (hy2 : y ≤ a.cash) (hno : coversB h { a with cash := a.cash - y } = true) :
    PayTo (.pointer (some ⟨b, 0, none⟩)) x y w fun r w' => r = .returned (pairV (accP ga i) 0) ∧ ∃ w1, Adds w w1 ∧ w' = w1.setCells ga (i * 15) (encA { a with cash := a.cash - y }) := by
  have hca2 : CalmA { a with cash := a.cash - y } := ⟨hca.len, hca.few, by have := hca.cash0; show _ ≤ a.cash - y; omega, by have := hca.cash1; show a.cash - y ≤ _; omega⟩
  have HCO := Lib.hid (fun (W : World) (hW : Adds w W) => covers_any b cm pm h { a with cash := a.cash - y } W hc (hR.later hW) hca2)
  rw [hno] at HCO
  have HSZ : Hid ((encA a).length = 15) := Lib.hid (encA_len a)
  have H0 : Hid (∀ w', Adds w w' → w'.cell? ⟨ga, i * 15, none⟩ = some (.int .i64 a.cash)) := Lib.hid (fun w' ha => keep_cell ha (hacc 0 _ rfl))
  have HA0 := Lib.hid hacc
  have HF := Lib.hid hf
  have hc0 := hca.cash0
  have hc1 := hca.cash1
  have HST := Lib.hid (encA_cash_set a)
  obtain ⟨av, hav⟩ : ∃ v, v = encA a := ⟨_, rfl⟩
  have HE := Lib.hid (show (encA a).toArray[0]? = some (.int .i64 a.cash) from encA_cash a)
  have HON := Lib.hid (encA_one a)
  unfold accV at HCO
  obtain ⟨bv, hbv⟩ : ∃ v, v = (encA { a with cash := a.cash - y }).toArray := ⟨_, rfl⟩
  have HBV : Hid (av.toArray.setIfInBounds 0 (.int .i64 (a.cash - y)) = bv) := Lib.hid (by rw [hbv, hav]; exact encA_cash_set a _)
  have HBL : Hid (bv.size = 15) := Lib.hid (by rw [hbv]; simp [encA_len])
  rw [← hbv] at HCO
  have HBO : Hid (bv.all (·.oneCell') = true) := Lib.hid (by rw [hbv]; exact encA_one _)
  have HTH := Lib.hid (fun (W : World) (hW : Adds w W) => there_later hth (by omega) hW)
  have HBE : Hid (bv.toList = encA { a with cash := a.cash - y }) := Lib.hid (by rw [hbv])
  rw [← hav] at HSZ HA0 HE HON
  obtain ⟨c, hcc⟩ : ∃ c, c = a.cash := ⟨_, rfl⟩
  rw [← hcc] at hy2 hc0 hc1 H0 HE HBV
  have hyc : decide (c < y) = false := decide_eq_false (by omega)
  clear hth hc hR hca hacc hf hno hca2 HST hav hbv hcc
  unfold accP at HF ⊢
  go_enter Try.func22, Try.ntmps22
  go_upto_region 6 with (go_at_call 21; refine HF.out.mono ?_; rintro e w1 ⟨rfl, ha⟩; have c0 := H0.out w1 ha; have HA := Lib.hid ha; have HR := Lib.hid (range_later HA0.out ha); clear ha)
  go_upto_region 7 with (first
    | (refine wpList_load_mid rfl 72 _ rfl ga (i * 15) rfl av _ HR.out Try.underlying72 rfl (by rw [info_acc, HSZ.out]) ?_)
    | (refine wpList_store_mid rfl 72 _ _ rfl w1.heap.size 0 av.toArray rfl rfl ((Box.new w1 _ 72).there 0 _ (by simp [HSZ.out])) (by rw [info_acc]; simp [HSZ.out]) HON.out ?_))
  have k0 := (Box.new w1 #[.int .i64 0, .int .i64 0, .int .i64 0, .int .i64 0, .int .i64 0, .int .i64 0, .int .i64 0, .int .i64 0, .int .i64 0, .int .i64 0, .int .i64 0, .int .i64 0, .int .i64 0, .int .i64 0, .bool false] 72).setCells av 0
  rw [putAt_whole _ _ (by simp [HSZ.out])] at k0
  have hA := Adds.setCells (Nat.le_refl _) av 0 ((Adds.refl w1).alloc (.cells #[.int .i64 0, .int .i64 0, .int .i64 0, .int .i64 0, .int .i64 0, .int .i64 0, .int .i64 0, .int .i64 0, .int .i64 0, .int .i64 0, .int .i64 0, .int .i64 0, .int .i64 0, .int .i64 0, .bool false] 72))
  obtain ⟨W, hW⟩ : ∃ V, V = (w1.alloc (.cells #[.int .i64 0, .int .i64 0, .int .i64 0, .int .i64 0, .int .i64 0, .int .i64 0, .int .i64 0, .int .i64 0, .int .i64 0, .int .i64 0, .int .i64 0, .int .i64 0, .int .i64 0, .int .i64 0, .bool false] 72)).setCells w1.heap.size 0 av := ⟨_, rfl⟩
  rw [← hW] at k0 hA ⊢
  obtain ⟨s, hs⟩ : ∃ s, s = w1.heap.size := ⟨_, rfl⟩
  rw [← hs] at k0 ⊢
  have hsw : w.heap.size ≤ s := by rw [hs]; exact HA.out.size
  have d0 : W.cell? ⟨s, 0, none⟩ = some (.int .i64 c) := by rw [k0.cell]; exact HE.out
  have d1 : W.frozen? ⟨s, 0, none⟩ = false := k0.free 0
  have K0 := Lib.hid k0
  have HB := Lib.hid (HA.out.trans hA)
  have HSW := Lib.hid hsw
  clear hW k0 hA hs hsw
  go_upto_region 8 with fail
  have k1 := K0.out.set 0 (.int .i64 (c - y))
  have hB := Adds.set HB.out (p := ⟨s, 0, none⟩) HSW.out (.int .i64 (c - y))
  rw [HBV.out] at k1
  obtain ⟨V, hV⟩ : ∃ V, V = W.setCell ⟨s, 0, none⟩ (.int .i64 (c - y)) := ⟨_, rfl⟩
  rw [← hV] at k1 hB ⊢
  have K1 := Lib.hid k1
  have HD := Lib.hid hB
  clear hV k1 hB d0 d1 K0 HB c0
  go_wp2_with (first
    | (refine wpList_load_row rfl 72 _ rfl s rfl 72 bv (0, 0) _ K1.out Try.underlying72 rfl (by rw [info_acc, HBL.out]) ?_)
    | (go_at_call 37; refine (HCO.out _ HD.out).mono ?_; rintro e w2 ⟨rfl, ha⟩; have HG := Lib.hid (HD.out.trans ha); have K2 := Lib.hid (K1.out.later ha); clear ha)
    | (refine wpList_load_row rfl 72 _ rfl s rfl 72 bv (0, 0) _ K2.out Try.underlying72 rfl (by rw [info_acc, HBL.out]) ?_)
    | (refine wpList_store_mid rfl 72 _ _ rfl ga (i * 15) bv rfl rfl (by rw [HBL.out]; exact HTH.out _ HG.out) (by rw [info_acc, HBL.out]) HBO.out ?_))
  go_ret2
  exact ⟨rfl, w2, HG.out, by rw [HBE.out]⟩

end Go.Proofs.Ytmkpidipoadnbaa
