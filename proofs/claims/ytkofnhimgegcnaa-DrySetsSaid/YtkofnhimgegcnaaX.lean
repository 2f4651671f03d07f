/- Plan. -/
import Derived.Test.YtkofnhimgegcnaaW
namespace Go.Proofs.Ytkofnhimgegcnaa
open Go Go.RowKit Go.Sort

theorem span_pos {T : List Int} {l : List Int} (hT : Times T l) {s : Nat} (hs : s + 1 < T.length) : 0 < spanL T s := by
  unfold spanL
  rw [List.getElem?_eq_getElem hs, List.getElem?_eq_getElem (show s < T.length by omega)]
  have := List.pairwise_iff_getElem.1 hT.lt s (s + 1) (by omega) hs (by omega)
  simp
  omega

theorem netE_len (T : List Int) (K : Int) (l : List Ld) : (netE T K l).length ≤ l.length * (T.length + 1) + T.length := by
  unfold netE
  rw [List.length_append, sinkE_len]
  have := loadsE_len l.length T l 0
  omega

theorem Laid.timesV {l : List Ld} {kq : Int} {vl : Value} {w w' : World} {K : Plot} (h : Laid l kq vl w w' K) : ∃ pt ct, K.vt = .slice pt (timesOf l).length ct ∧ (1 < (timesOf l).length → ∃ gt, pt = some ⟨gt, 0, none⟩ ∧ RowI 3 .i64 w' gt ct (timesOf l) ∧ gt ≠ K.b ∧ gt ≠ K.gw) := by
  by_cases h0 : l.length = 0
  · have hl : l = [] := List.length_eq_zero_iff.1 h0
    subst hl
    refine ⟨none, 0, ?_, fun h1 => ?_⟩
    · rw [h.nil h0, timesOf_nil]; rfl
    · rw [timesOf_nil] at h1; simp at h1
  · obtain ⟨gt, ct, h1, h2, h3, h4, _⟩ := h.times (by omega)
    exact ⟨_, ct, h1, fun _ => ⟨gt, rfl, h2, h3, h4⟩⟩

theorem NetAt.later {K : Plot} {E : List Edge} {N : Nat} {w w' : World} {f : Nat → Int} {vs : Value} (h : NetAt K E N w f vs) (ha : Adds w w') : NetAt K E N w' f vs :=
  ⟨h.net.later ha, h.out.touch (Touch.of_adds ha (fun _ => False)) (fun _ _ h => h.elim), h.ways.same (fun hE => ha.block _ (h.ways.lt hE)), h.d⟩

theorem addr_add (g j : Nat) : (⟨g, 0, none⟩ : Addr).add j = ⟨g, j, none⟩ := by unfold Addr.add; split <;> simp_all

theorem flat3_one (l : List Tn) : ∀ u ∈ l.flatMap enc3, u.oneCell' = true := fun u hu => by
  rw [List.mem_flatMap] at hu
  obtain ⟨x, _, hx⟩ := hu
  simp [enc3] at hx
  rcases hx with rfl | rfl | rfl <;> rfl

/-- What a plan's turns are. -/
def PlanT (l : List Ld) (kq : Int) (P : List Tn) : Prop :=
  ∃ f l', Flow (netE (timesOf l) kq l) f (totalL l) ∧ l'.Perm (allT (netE (timesOf l) kq l) f (timesOf l) l.length ((timesOf l).length - 1)) ∧ l'.Pairwise (fun x y => ltOf cfL y x = false) ∧
    P.Perm (joinT l') ∧ P.Pairwise (fun x y => ltOf cfF y x = false)

def PlanGot (l : List Ld) (kq : Int) (w : World) (e : Ending) (w' : World) : Prop :=
  ∃ u P c, e = .returned (.tuple #[u, .int .i64 c]) ∧ Turns w' w.heap.size u P ∧ Adds w w' ∧ (checkK l kq ≠ 0 → c = checkK l kq ∧ u = nilV) ∧ (checkK l kq = 0 → (CanDry l kq → c = 0 ∧ PlanT l kq P) ∧ (¬ CanDry l kq → c = 70 ∧ u = nilV))

set_option maxRecDepth 100000 in
set_option maxHeartbeats 4000000 in
theorem Plan_any (p : Option Addr) (cl : Nat) (l : List Ld) (kq : Int) (w : World) (hN : l.length ≤ maxLen) (hL : LoadsAt w p l) :
    Calls Try.prog 22 #[.slice p l.length cl, .int .i64 kq] w (PlanGot l kq w) := by
  have hc := check_any p cl l kq w hN hL
  have HPG : Hid (∀ e w', PlanGot l kq w e w' ↔ PlanGot l kq w e w') := Lib.hid (fun _ _ => Iff.rfl)
  by_cases h0 : checkK l kq = 0
  · obtain ⟨o1, o2, o3, o4⟩ := okB_all h0
    have hlay := fun W (hW : Adds w W) => lay_laid p cl l kq W (hL.later hW) o2 o1 (by omega) (by omega)
    have htot := fun W (hW : Adds w W) => total_any p cl l W o1 (hL.later hW) o2
    have hS := laid_sane (kq := kq) o2 o1 (by omega) (by omega)
    have hTT := timesOf_spec l
    have hbd := (span_bd hTT o2).1
    have hTL := timesOf_len l
    have hEl := netE_len (timesOf l) kq l
    obtain ⟨E, hE⟩ : ∃ E, E = netE (timesOf l) kq l := ⟨_, rfl⟩
    obtain ⟨T, hT⟩ : ∃ T, T = timesOf l := ⟨_, rfl⟩
    obtain ⟨n, hn⟩ : ∃ n, n = l.length := ⟨_, rfl⟩
    obtain ⟨TL, hTl⟩ : ∃ n, n = T.length := ⟨_, rfl⟩
    have hS' : Sane E (2 + n + TL) := by rw [hE, hn, hTl, hT]; exact hS
    have hEb : E.length ≤ 200000 := by
      have e1 : l.length * ((timesOf l).length + 1) ≤ 256 * 513 := Nat.mul_le_mul o1 (by omega)
      rw [hE]; omega
    have hTLb : TL ≤ 512 := by rw [hTl, hT]; omega
    have hnb : n ≤ 256 := by omega
    rw [h0] at hc
    rw [← hn] at hc hlay htot ⊢
    obtain ⟨t, ht⟩ : ∃ t, t = totalL l := ⟨_, rfl⟩
    rw [← ht] at htot
    have HT := Lib.hid ht
    have HS := Lib.hid hS'
    have HLAY := Lib.hid hlay
    have HTOT := Lib.hid htot
    have HTT := Lib.hid hTT
    have HBD := Lib.hid hbd
    have HE := Lib.hid hE
    have HTE := Lib.hid hT
    have HNE := Lib.hid hn
    have HTL := Lib.hid hTl
    have H0 := Lib.hid h0
    obtain ⟨i0, hi, hi0, hi1, hi2⟩ := info_parts info41
    have HI := Lib.hid hi
    have HI0 := Lib.hid hi0
    have HI1 := Lib.hid hi1
    have HI2 := Lib.hid hi2
    have HOK := Lib.hid o2
    clear hi hi0 hi1 hi2 hL hlay htot hS hS' hTT hbd hTL hEl hE hT hn hTl h0 ht o1 o2 hN HPG
    by_cases hcd : CanDry l kq
    · have HCD := Lib.hid hcd
      clear hcd
      go_enter Try.func22, Try.ntmps22
      go_upto_region 7 with (first
        | (go_at_call 41; refine hc.mono ?_; rintro e w1 ⟨rfl, hb1⟩; have HB1 := Lib.hid hb1; clear hb1)
        | (go_at_call 50; refine (HLAY.out _ HB1.out).mono ?_; rintro e w2 ⟨K, rfl, hk⟩; have HK := Lib.hid hk; clear hk)
        | (go_at_call 51; refine (fill_any K E (2 + n + TL) nilV _ HS.out (by rw [HE.out, HNE.out, HTL.out, HTE.out]; exact HK.out.net)).mono ?_; rintro e w3 ⟨val, f, lev, gs, rfl, h1, h2, h3, h4, h5, h6, h7, h8⟩; have HM0 := (max_iff (by have := HS.out; rw [HE.out, HNE.out, HTL.out, HTE.out] at this; exact this) ⟨f, lev, by rw [← HE.out]; exact h1, by rw [← HE.out, ← HNE.out, ← HTE.out, ← HTL.out]; exact h3, h4⟩).2.2 HCD.out; rw [← HT.out] at HM0; subst HM0; have HA : Hid (Adds w w3) := Lib.hid (HB1.out.trans (Touch.adds HK.out.adds h8 (fun i hi => by have := HK.out.low; rcases hi with hi | hi <;> omega))); have HFL := Lib.hid h1; have HN3 := Lib.hid h7; have HT3 := Lib.hid h8; clear h1 h2 h3 h4 h5 h6 h7 h8)
        | (go_at_call 52; refine (HTOT.out _ HA.out).mono ?_; rintro e w4 ⟨rfl, hb⟩; have HB := Lib.hid hb; clear hb))
      have hsz4 : w3.heap.size ≤ w4.heap.size := HB.out.size
      have HK2 := Lib.hid HK.out.timesV
      obtain ⟨b, go, gw, co, cw, pw, vl, vt⟩ := K
      have hvl := HK.out.loads
      obtain ⟨pt, ct, hvt, htm⟩ := HK2.out
      dsimp only at hvl hvt htm HN3 HT3
      rw [← HTE.out, ← HTL.out] at hvt
      subst hvl hvt
      have HN4 : Hid (NetAt ⟨b, go, gw, co, cw, pw, .slice p n cl, .slice pt TL ct⟩ E (2 + n + TL) w4 f (.slice (some ⟨gs, 0, none⟩) (2 + n + TL) (2 + n + TL))) := Lib.hid (HN3.out.later HB.out)
      have HTM : Hid (1 < TL → ∃ gt, pt = some ⟨gt, 0, none⟩ ∧ RowI 3 .i64 w4 gt ct T) := Lib.hid (fun h => by
        rw [← HTE.out, ← HTL.out] at htm
        obtain ⟨gt, e1, e2, e3, e4⟩ := htm h
        exact ⟨gt, e1, ((e2.same (HT3.out.same _ e2.lt (by rintro (h | h) <;> omega))).later HB.out)⟩)
      have HA4 : Hid (Adds w w4) := Lib.hid (HA.out.trans HB.out)
      have kb1 : w4.cell? ⟨b, 1, none⟩ = some (.slice pt TL ct) := HN4.out.net.cell 1
      clear htm HK HK2 HN3 HT3 HA HB hsz4 HLAY HTOT hc HB1
      go_upto_region 9 with fail
      clear kb1
      go_loopw [8, 30] (fun v8 v30 wr => ∃ k : Nat, (k = 0 ∨ k < TL) ∧ v30 = .int .i64 k ∧ Hid (Turns wr w4.heap.size v8 (allT E f T n k)) ∧ Hid (Adds w4 wr)) (fun _ v30 _ => TL - (intOf v30).toNat)
      case atStart => exact ⟨0, Or.inl rfl, rfl, Lib.hid (World.ownsRow_nil _ _ _ _), Lib.hid (Adds.refl _)⟩
      case round =>
        obtain ⟨k, hk, rfl, HO, HAD⟩ := hrel
        have hml := allT_le E f T n k
        by_cases hlt : k + 1 < TL
        · have hlt2 : (k : Int) < (TL : Int) - 1 := by omega
          obtain ⟨gt, rfl, hrt⟩ := HTM.out (by omega)
          have hup : 0 < spanL T k := by
            have h1 := HTT.out
            rw [← HTE.out] at h1
            exact span_pos h1 (by rw [← HTL.out]; exact hlt)
          have hbd : ∀ t ∈ T, 0 ≤ t ∧ t ≤ 1000000000 := by rw [HTE.out]; exact HBD.out
          have hdeal := deal_any ⟨b, go, gw, co, cw, pw, .slice p n cl, .slice (some ⟨gt, 0, none⟩) TL ct⟩ E (2 + n + TL) n k gt ct cl p T f _ wr HS.out HFL.out.ok (HN4.out.later HAD.out) rfl (by rw [HTL.out]) (hrt.later HAD.out) (by rw [← HTL.out]; exact hlt) (by rw [← HTL.out]; omega) hbd hup hnb (by omega)
          have HNX := Lib.hid (allT_next E f T n k)
          obtain ⟨J, hJ⟩ : ∃ J, J = allT E f T n k := ⟨_, rfl⟩
          have HMD : Hid ((allT E f T n (k + 1)).length ≤ 4 * E.length) := Lib.hid (allT_le E f T n (k + 1))
          obtain ⟨D, hD⟩ : ∃ D, D = (dealL E f (T[k]?.getD 0) (spanL T k) (outE E (2 + n + k))).1 := ⟨_, rfl⟩
          unfold DealGot at hdeal
          rw [← hD] at hdeal HNX
          rw [← hJ] at HO hml HNX
          obtain ⟨m, hm⟩ : ∃ m, m = J.length := ⟨_, rfl⟩
          obtain ⟨d, hd⟩ : ∃ m, m = D.length := ⟨_, rfl⟩
          have hlen : m + d ≤ 4 * E.length := by
            have h1 := HMD.out
            rw [HNX.out, List.length_append, ← hm, ← hd] at h1
            exact h1
          have hcn : (allT E f T n (k + 1)).length = m + d := by rw [HNX.out, List.length_append, ← hm, ← hd]
          have HO' : Hid (wr.ownsRow w4.heap.size 41 3 _ m (J.flatMap enc3)) := Lib.hid (by have := HO.out; unfold Turns at this; rw [← hm] at this; exact this)
          rw [← hd] at hdeal
          have HD := Lib.hid hd
          have HCN := Lib.hid hcn
          have hws := HA4.out.size
          have hws2 := HAD.out.size
          have HDL := Lib.hid hdeal
          clear hJ hD hm hd hcn HO hrt hup hbd hdeal HMD
          obtain ⟨pj, cj, rfl⟩ := own_slice HO'.out
          by_cases hz : d = 0
          · have hD0 : D = [] := List.length_eq_zero_iff.1 (by rw [← HD.out]; exact hz)
            subst hD0
            have HNX2 : Hid (allT E f T n (k + 1) = J) := Lib.hid (by rw [HNX.out, List.append_nil])
            subst hz
            go_upto_region 12 with (first
              | (go_at_call 53; refine HDL.out.mono ?_; rintro e w5 ⟨u, rfl, hu, ha⟩; obtain ⟨pu, cu, rfl⟩ := own_slice hu; have HSR := Lib.hid (src_none hu); have HA5 := Lib.hid ha; have HO5 := Lib.hid (own_same (w' := w5) HO'.out (fun q hq => ha.block q (by obtain ⟨_, _, e⟩ := own_block HO'.out hq; exact (Array.getElem?_eq_some_iff.1 e).1))); clear hu ha)
              | (at_builtin; refine wpList_append_nil (P := Try.prog) rfl _ _ 39 rfl 41 i0 Try.underlying39 HI.out pj m cj (own_cap HO'.out) rfl _ (by rw [HI1.out]; exact HSR.out) rfl ?_))
            go_wp2
            refine ⟨⟨k + 1, Or.inr (by omega), by go_num, Lib.hid ?_, Lib.hid (HAD.out.trans HA5.out)⟩, by simp [intOf]; omega⟩
            unfold Turns
            rw [HCN.out, HNX2.out]
            exact HO5.out
          · have hd0 : 0 < d := by omega
            go_upto_region 12 with (first
              | (go_at_call 53; refine HDL.out.mono ?_; rintro e w5 ⟨u, rfl, hu, ha⟩; obtain ⟨gd, cd, rfl, hgd⟩ := own_some hu hd0; have HU := Lib.hid hu; have hsz := ha.size; have HA5 := Lib.hid ha; have HO5 := Lib.hid (own_same (w' := w5) HO'.out (fun q hq => ha.block q (by obtain ⟨_, _, e⟩ := own_block HO'.out hq; exact (Array.getElem?_eq_some_iff.1 e).1))); clear hu ha)
              | (at_builtin; ((refine wpList_append_lies _ rfl _ _ 39 rfl w4.heap.size 41 i0 (.agg #[.int .i64 0, .int .i64 0, .int .i64 0]) 3 24 Try.underlying39 HI.out HI0.out HI1.out HI2.out rfl (by decide) (.slice pj m cj) m _ rfl HO5.out ⟨gd, 0, none⟩ d cd (D.flatMap enc3) rfl (by rw [flat3_len, HD.out]) (fun j u hj => by rw [addr_add]; exact (own_cell HU.out hj).1) (flat3_one D) hd0 (by unfold maxLen; omega) (by omega) (by omega) w5.heap.size rfl ?_); intro g6 c6 w6 ho6 hg6 hl6 hs6; have HO6 := Lib.hid ho6; have HG6 := Lib.hid hg6; clear ho6 hg6 hl6)))
            go_wp2
            have HAW5 : Hid (Adds w w5) := Lib.hid ((HA4.out.trans HAD.out).trans HA5.out)
            refine ⟨⟨k + 1, Or.inr (by omega), by go_num, Lib.hid ?_, Lib.hid (Below.grown (HAD.out.trans HA5.out) HG6.out (by omega) (fun j hj => (own_block HO'.out hj).1))⟩, by simp [intOf]; omega⟩
            unfold Turns
            rw [HCN.out, HNX.out, List.flatMap_append]
            exact HO6.out
        · have hkn : k = TL - 1 := by omega
          have hdq : decide ((k : Int) < (TL : Int) - 1) = false := decide_eq_false (by omega)
          have hws := HA4.out.size
          have hws2 := HAD.out.size
          have hll : (allT E f T n k).length ≤ 1000000 := by omega
          have HKN := Lib.hid hkn
          obtain ⟨J, hJ⟩ : ∃ J, J = allT E f T n k := ⟨_, rfl⟩
          rw [← hJ] at HO hll
          obtain ⟨m, hm⟩ : ∃ m, m = J.length := ⟨_, rfl⟩
          have HO' : Hid (wr.ownsRow w4.heap.size 41 3 _ m (J.flatMap enc3)) := Lib.hid (by have := HO.out; unfold Turns at this; rw [← hm] at this; exact this)
          have HM := Lib.hid hm
          have HJ := Lib.hid hJ
          clear hJ hkn hml HO hm
          obtain ⟨pj, cj, rfl⟩ := own_slice HO'.out
          have hjoin := join_row w.heap.size (.slice pj m cj) J wr (by unfold Turns; rw [← HM.out]; exact own_base_le HO'.out hws) (by omega) hll
          have HJN := Lib.hid hjoin
          clear hjoin
          go_wp2_with (first
            | (go_at_call 54; refine HJN.out.mono ?_; rintro e w5 ⟨l', u, hp1, hs1, rfl, hr1, ht1⟩; have HP1 := Lib.hid hp1; have HS1 := Lib.hid hs1; have HT1 := Lib.hid ht1; have hsf := sortF_row w.heap.size u (joinT l') w5 hr1 (by have := addJ_lens l'; have := hp1.length_eq; omega); have HSF := Lib.hid hsf; clear hp1 hs1 ht1 hr1 hsf)
            | (go_at_call 55; refine HSF.out.mono ?_; rintro e w6 ⟨rfl, P, hp2, hs2, hr2, ht2⟩; have HP2 := Lib.hid hp2; have HS2 := Lib.hid hs2; have HR2 := Lib.hid hr2; have HT2 := Lib.hid ht2; clear hp2 hs2 hr2 ht2))
          go_ret2
          have hA1 : Adds w w5 := Touch.adds (HA4.out.trans HAD.out) HT1.out (fun i hi => hi)
          refine ⟨u, P, 0, rfl, HR2.out, Touch.adds hA1 HT2.out (fun i hi => hi), fun h => absurd H0.out h, fun _ => ⟨fun _ => ⟨rfl, f, l', ?_, ?_, HS1.out, HP2.out, HS2.out⟩, fun h => absurd HCD.out h⟩⟩
          · rw [← HE.out, ← HT.out]; exact HFL.out
          · rw [← HE.out, ← HTE.out, ← HNE.out, ← HTL.out, ← HKN.out, ← HJ.out]; exact HP1.out
    · have HCD := Lib.hid hcd
      clear hcd
      go_enter Try.func22, Try.ntmps22
      go_wp2_with (first
        | (go_at_call 41; refine hc.mono ?_; rintro e w1 ⟨rfl, hb1⟩; have HB1 := Lib.hid hb1; clear hb1)
        | (go_at_call 50; refine (HLAY.out _ HB1.out).mono ?_; rintro e w2 ⟨K, rfl, hk⟩; have HK := Lib.hid hk; clear hk)
        | (go_at_call 51; refine (fill_any K E (2 + n + TL) nilV _ HS.out (by rw [HE.out, HNE.out, HTL.out, HTE.out]; exact HK.out.net)).mono ?_; rintro e w3 ⟨val, f, lev, gs, rfl, h1, h2, h3, h4, h5, h6, h7, h8⟩; have hlt : val < t := (by
              have hM := max_iff (by have := HS.out; rw [HE.out, HNE.out, HTL.out, HTE.out] at this; exact this) ⟨f, lev, by rw [← HE.out]; exact h1, by rw [← HE.out, ← HNE.out, ← HTE.out, ← HTL.out]; exact h3, h4⟩
              rw [← HT.out] at hM
              have hne : ¬ val = t := fun e => HCD.out (hM.2.1 e)
              have := hM.1
              omega); have HA : Hid (Adds w w3) := Lib.hid (HB1.out.trans (Touch.adds HK.out.adds h8 (fun i hi => by have := HK.out.low; rcases hi with hi | hi <;> omega))); clear h1 h2 h3 h4 h5 h6 h7 h8)
        | (go_at_call 52; refine (HTOT.out _ HA.out).mono ?_; rintro e w4 ⟨rfl, hb⟩; have HB := Lib.hid hb; clear hb))
      go_ret2
      exact ⟨_, [], 70, rfl, World.ownsRow_nil _ _ _ _, HA.out.trans HB.out, fun h => absurd H0.out h, fun _ => ⟨fun h => absurd h HCD.out, fun _ => ⟨rfl, rfl⟩⟩⟩
  · generalize hck : checkK l kq = c at *
    have g0 : (c != 0) = true := by simp [bne, h0]
    have H0 := Lib.hid h0
    have HCK := Lib.hid hck
    obtain ⟨n, hn⟩ : ∃ n, n = l.length := ⟨_, rfl⟩
    rw [← hn] at hc ⊢
    clear hL h0 hck hn hN HPG
    go_enter Try.func22, Try.ntmps22
    go_wp2_with (go_at_call 41; refine hc.mono ?_; rintro e w1 ⟨rfl, hb1⟩; have HB1 := Lib.hid hb1; clear hb1)
    go_ret2
    exact ⟨_, [], c, rfl, World.ownsRow_nil _ _ _ _, HB1.out, fun _ => ⟨HCK.out.symm, rfl⟩, fun h => absurd (HCK.out.symm.trans h) H0.out⟩

end Go.Proofs.Ytkofnhimgegcnaa
