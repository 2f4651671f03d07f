/- CallMore's walk. -/
import Derived.Test.YtigpghmbeldakaaAT
import Derived.Deep.AppendLies
import Derived.Deep.RegionLaw
namespace Go.Proofs.Ytigpghmbeldakaa
open Go.RowKit

theorem at3_one (W : World) (s pp q : Int) : At3 (W.alloc (.cells #[.int .i64 s, .int .i64 pp, .int .i64 q] 61)) (some ⟨W.heap.size, 0, none⟩) [(s, pp, q)] := by
  intro i x hx
  have hi : i = 0 := by have := (List.getElem?_eq_some_iff.1 hx).1; simpa using this
  subst hi
  simp only [List.getElem?_cons_zero, Option.some.injEq] at hx
  subst hx
  have X := Box.new W #[.int .i64 s, .int .i64 pp, .int .i64 q] 61
  exact ⟨W.heap.size, 0, rfl, X.cell 0, X.cell 1, X.cell 2⟩

theorem own_open {w : World} {base n : Nat} {t : TypeId} {v : Value} {l : List (Int × Int × Int)} (h : w.ownsRow base t 3 v n (l.flatMap enc3)) :
    ∃ p c, v = .slice p l.length c ∧ At3 w p l ∧ l.length ≤ c ∧ c ≤ maxLen ∧ (p = none → c = 0) := by
  rcases (own_rowT h).2 with ⟨hv, hn⟩ | ⟨g, cap, hv, hb, hr⟩
  · subst hn
    exact ⟨none, 0, hv, (fun i x hx => by simp at hx), by simp, by simp [maxLen], fun _ => rfl⟩
  · exact ⟨some ⟨g, 0, none⟩, cap, hv, hr.at3, hr.len.1, hr.len.2, fun h => by cases h⟩

set_option maxRecDepth 100000 in
set_option maxHeartbeats 4000000 in
theorem more_any (p : Option Addr) (cap : Nat) (l : List Bd) (s pp q x0 x1 : Int) (w : World) (hcap : l.length ≤ cap) (hcm : cap ≤ maxLen) (hp : p = none → cap = 0) (hL : At3 w p l) :
    Calls Try.prog 11 #[.slice p l.length cap, .agg #[.int .i64 s, .int .i64 pp, .int .i64 q], .agg #[.int .i64 x0, .int .i64 x1]] w fun e w' => e = .returned (.bool true) ∧ Adds w w' := by
  obtain ⟨j0, hj, hj0, hj1, hj2⟩ := info_parts info61
  have HJ := Lib.hid hj
  have HJ0 := Lib.hid hj0
  have HJ1 := Lib.hid hj1
  have HJ2 := Lib.hid hj2
  clear hj hj0 hj1 hj2
  obtain ⟨L, hLd⟩ : ∃ L, L = tameL l 30 := ⟨_, rfl⟩
  have htame : Hid (∀ W, Adds w W → Calls Try.prog 26 #[.slice p l.length cap, .int .i64 30] W (OwnGot 61 L W)) := Lib.hid (fun W hW => by rw [hLd]; exact tame_any p cap l 30 W hcap hcm hp (by omega) (hL.later hW))
  have hok : ∀ b ∈ L, okB b = true := by rw [hLd]; exact tameL_ok l 30
  have HLN : Hid (L.length ≤ 30) := Lib.hid (by rw [hLd, tameL_len]; omega)
  have hLn : L.length ≤ 30 := by rw [hLd, tameL_len]; omega
  obtain ⟨n, hn⟩ : ∃ n, n = L.length := ⟨_, rfl⟩
  have HN := Lib.hid hn
  obtain ⟨tb, htb⟩ : ∃ b, b = tameB (s, pp, q) := ⟨_, rfl⟩
  have HTB : Hid (okB tb = true) := Lib.hid (by rw [htb]; exact tameB_ok _)
  have hone : Hid (∀ a c W, At3 W a [(s, pp, q)] → (a = none → c = 0) → 1 ≤ c → c ≤ maxLen → Calls Try.prog 26 #[.slice a 1 c, .int .i64 1] W (OwnGot 61 [tb] W)) := Lib.hid (fun a c W hW h1 h2 h3 => by
    have := tame_any a c [(s, pp, q)] 1 W (by simpa using h2) h3 h1 (by omega) hW
    rw [htb]
    simpa [tameL] using this)
  have hsm : Hid (∀ a c W, At3 W a L → n ≤ c → c ≤ maxLen → (a = none → c = 0) → Calls Try.prog 14 #[.slice a n c, .int .i64 30] W (OwnGot 61 L W)) := Lib.hid (fun a c W hW h1 h2 h3 => by
    have := some_any a c L 30 W (by omega) h2 h3 (by omega) hW
    rw [List.take_of_length_le hLn, ← hn] at this
    exact this)
  have HLB : Hid ((L ++ [tb]).length = n + 1) := Lib.hid (by rw [List.length_append, ← hn]; rfl)
  have hok2 : ∀ b ∈ L ++ [tb], okB b = true := fun b hb => by
    rcases List.mem_append.1 hb with hb | hb
    · exact hok b hb
    · rw [List.mem_singleton] at hb
      rw [hb]
      exact HTB.out
  have HCK1 : Hid (checkT L = 0) := Lib.hid (check_zero.2 ⟨by omega, hok⟩)
  have HCK2 : Hid (checkT (L ++ [tb]) = 0) := Lib.hid (check_zero.2 ⟨by rw [HLB.out]; omega, hok2⟩)
  have hgv1 : Hid (∀ q qc W, At3 W q L → Calls Try.prog 16 #[.slice q n qc] W (OwnGot 75 L W)) := Lib.hid (fun q qc W hW => by rw [hn]; exact give_any q qc L W (by omega) hW)
  have hgv2 : Hid (∀ q qc W, At3 W q (L ++ [tb]) → Calls Try.prog 16 #[.slice q (n + 1) qc] W (OwnGot 75 (L ++ [tb]) W)) := Lib.hid (fun q qc W hW => by rw [← HLB.out]; exact give_any q qc (L ++ [tb]) W (by rw [HLB.out]; omega) hW)
  have hbs1 : Hid (∀ q qc W, At3 W q L → Calls Try.prog 20 #[.slice q n qc] W (BestGot L W)) := Lib.hid (fun q qc W hW => by rw [hn]; exact Best_any q qc L W (by unfold maxLen; omega) hW)
  have hbs2 : Hid (∀ q qc W, At3 W q (L ++ [tb]) → Calls Try.prog 20 #[.slice q (n + 1) qc] W (BestGot (L ++ [tb]) W)) := Lib.hid (fun q qc W hW => by rw [← HLB.out]; exact Best_any q qc (L ++ [tb]) W (by rw [HLB.out]; unfold maxLen; omega) hW)
  have hpr2 : Hid (∀ q qc x W, At3 W q (L ++ [tb]) → Calls Try.prog 21 #[.slice q (n + 1) qc, .int .i64 x] W (PriceGot (L ++ [tb]) x W)) := Lib.hid (fun q qc x W hW => by rw [← HLB.out]; exact Price_any q qc (L ++ [tb]) x W (by rw [HLB.out]; unfold maxLen; omega) hW)
  generalize l.length = N1 at *
  clear hok2 hLd hok hLn hn hL hcap hcm hp htb
  go_enter Try.func11, Try.ntmps11
  go_upto_region 2 with (go_at_call 26; refine (htame.out _ (((Adds.refl w).alloc _).alloc _)).mono ?_; rintro e w1 ⟨v7, rfl, hro, hb1⟩; obtain ⟨p7, c7, rfl, ha7, hl7, hm7, hp7⟩ := own_open hro; have HA7 := Lib.hid ha7; have HL7 := Lib.hid hl7; have HM7 := Lib.hid hm7; have HP7 := Lib.hid hp7; have HB1 := Lib.hid hb1; clear hro ha7 hl7 hm7 hp7 hb1)
  rw [← HN.out] at HL7 ⊢
  have X := ((Box.new w #[.int .i64 s, .int .i64 pp, .int .i64 q] 61).alloc (.cells #[.int .i64 x0, .int .i64 x1] 52)).later HB1.out
  have b0 := X.cell 0
  have b1 := X.cell 1
  have b2 := X.cell 2
  have X2 := (Box.new (w.alloc (.cells #[.int .i64 s, .int .i64 pp, .int .i64 q] 61)) #[.int .i64 x0, .int .i64 x1] 52).later HB1.out
  have y0 := X2.cell 0
  have y1 := X2.cell 1
  simp only [List.getElem?_toArray, List.getElem?_cons_zero, List.getElem?_cons_succ] at b0 b1 b2 y0 y1
  simp only [World.size_alloc] at y0 y1
  clear X X2
  have hz1 : w.heap.size + 2 ≤ w1.heap.size := by have := HB1.out.size; simpa using this
  have hn30 : n ≤ 30 := by rw [HN.out]; exact HLN.out
  go_region_law (first
    | (go_simp; go_at_call 14; refine (hsm.out _ _ _ (HA7.out.later (by first | exact Adds.refl _ | exact (Adds.refl _).drew | exact ((Adds.refl _).alloc _).drew | exact ((Adds.refl _).drew.alloc _))) HL7.out HM7.out HP7.out).mono ?_; rintro e w2 ⟨v26, rfl, hro, hb2⟩; have HR26 : Hid (w2.ownsRow w1.heap.size 61 3 v26 n (L.flatMap enc3)) := Lib.hid (by rw [HN.out]; exact own_base hro (by first | exact Nat.le_refl _ | (simp; done) | (simp; omega))); have HB2 := Lib.hid hb2; have HA12 : Adds w1 w2 := (by first | exact hb2 | exact (Adds.refl _).drew.trans hb2 | exact ((Adds.refl _).alloc _).drew.trans hb2 | exact ((Adds.refl _).drew.alloc _).trans hb2); have z0 := keep_cell HA12 b0; have z1 := keep_cell HA12 b1; have z2 := keep_cell HA12 b2; have HAX := Lib.hid HA12; clear hro hb2 HA12)
    | (go_simp; go_at_call 26; refine (hone.out _ _ _ (by first | exact at3_one _ _ _ _ | exact (at3_one _ _ _ _).later HB2.out | exact (at3_one _ _ _ _).later (((Adds.refl _).drew).trans HB2.out)) (fun h => by cases h) (by omega) (by unfold maxLen; omega)).mono ?_; rintro e w3 ⟨v29, rfl, hro, hb3⟩; obtain ⟨g9, c9, rfl, hg9, hg9'⟩ := World.ownsRow.form (n := 1) hro (by omega); have HR29 := Lib.hid hro; have HB23 : Hid (Adds w2 w3) := Lib.hid (by first | exact hb3 | exact ((Adds.refl _).alloc _).trans hb3); have HRR := Lib.hid (own_later HR26.out HB23.out); have hz3 := HB23.out.size; have hz2 := HAX.out.size; clear hro hb3)
    | (refine step_append_lies _ rfl _ _ 22 rfl w1.heap.size 61 j0 (.agg #[.int .i64 0, .int .i64 0, .int .i64 0]) 3 24 Try.underlying22 HJ.out HJ0.out HJ1.out HJ2.out rfl (by decide) v26 n (L.flatMap enc3) rfl HRR.out ⟨g9, 0, none⟩ 1 c9 ([tb].flatMap enc3) rfl rfl (HR29.out.cells rfl) (by simp [enc3, Value.oneCell']) (by omega) (by unfold maxLen; omega) (by omega) (by omega) _ rfl ?_; intro g30 c30 w4 ho30 hg30 _ hlt30; have HR30 := Lib.hid ho30; have HG30 := Lib.hid hg30; clear ho30 hg30))
  all_goals
    have HA14 : Hid (Adds w1 w4) := Lib.hid (Below.grown (HAX.out.trans HB23.out) HG30.out (by omega) (fun j hj => (HR26.out.lt j hj).1))
    have HW4 : Hid (Adds w w4) := Lib.hid ((((Adds.refl w).alloc _).alloc _).trans (HB1.out.trans HA14.out))
    have HA7' : Hid (At3 w4 p7 L) := Lib.hid (HA7.out.later HA14.out)
    have HA8 : Hid (At3 w4 (some ⟨g30, 0, none⟩) (L ++ [tb])) := Lib.hid (by
      obtain ⟨p', c', he, ha, _⟩ := own_at3 (l := L ++ [tb]) (n := n + 1) (by have := HR30.out; rw [← List.flatMap_append] at this; exact this)
      simp only [Value.slice.injEq] at he
      obtain ⟨rfl, _, _⟩ := he
      exact ha)
    have z8 := keep_cell HA14.out y0
    have z9 := keep_cell HA14.out y1
    clear b0 b1 b2 y0 y1 z0 z1 z2
    go_upto_region 3 with fail
    go_quiet (fail)
    have ha := tnum_in x0 120 (by omega) (by omega)
    have hb := tnum_in x1 120 (by omega) (by omega)
    unfold tnum at ha hb
    go_upto_region 4 with fail
    have HRA : Hid (1 ≤ min (wrap64 (1 + wrap64 ((IntKind.u64.wrap x0).tmod 120))) (wrap64 (1 + wrap64 ((IntKind.u64.wrap x1).tmod 120))) ∧ min (wrap64 (1 + wrap64 ((IntKind.u64.wrap x0).tmod 120))) (wrap64 (1 + wrap64 ((IntKind.u64.wrap x1).tmod 120))) ≤ 1000000) := Lib.hid (by omega)
    have HRB : Hid (1 ≤ max (wrap64 (1 + wrap64 ((IntKind.u64.wrap x0).tmod 120))) (wrap64 (1 + wrap64 ((IntKind.u64.wrap x1).tmod 120))) ∧ max (wrap64 (1 + wrap64 ((IntKind.u64.wrap x0).tmod 120))) (wrap64 (1 + wrap64 ((IntKind.u64.wrap x1).tmod 120))) ≤ 1000000) := Lib.hid (by omega)
    have HRR2 : Hid (min (wrap64 (1 + wrap64 ((IntKind.u64.wrap x0).tmod 120))) (wrap64 (1 + wrap64 ((IntKind.u64.wrap x1).tmod 120))) ≤ max (wrap64 (1 + wrap64 ((IntKind.u64.wrap x0).tmod 120))) (wrap64 (1 + wrap64 ((IntKind.u64.wrap x1).tmod 120)))) := Lib.hid (by omega)
    clear ha hb
    clear z8 z9
    go_upto_region 5 with fail
    go_upto_region 6 with (first
      | (go_at_call 16; refine (hgv1.out _ _ _ (HA7'.out.later (by first | exact Adds.refl _ | exact (Adds.refl _).drewN _ | exact (Adds.refl _).drew))).mono ?_; rintro e w5 ⟨v, rfl, ho, hb⟩; obtain ⟨q5, k5, rfl, ha5, _⟩ := own_at3 ho; rw [← HN.out]; have HA5 := Lib.hid ha5; have HB5 : Hid (Adds w4 w5) := Lib.hid (Adds.trans (by first | exact Adds.refl _ | exact (Adds.refl _).drewN _ | exact (Adds.refl _).drew) hb); clear ho ha5 hb)
      | (go_at_call 20; refine (hbs1.out _ _ _ HA5.out).mono ?_; rintro e w6 ⟨lo, hi, v, er, hbr, rfl, hb⟩; have HBR := Lib.hid hbr; have HB6 := Lib.hid (HB5.out.trans hb); clear hbr hb))
    go_upto_region 7 with (first
      | (go_at_call 16; refine (hgv2.out _ _ _ (HA8.out.later (by first | exact HB6.out | exact (Adds.refl _).drewN _ | exact (Adds.refl _).drew))).mono ?_; rintro e w7 ⟨v, rfl, ho, hb⟩; obtain ⟨q5, k5, rfl, ha5, _⟩ := own_at3 ho; rw [HLB.out]; have HA9 := Lib.hid ha5; have HB7 : Hid (Adds w4 w7) := Lib.hid (Adds.trans (by first | exact HB6.out | exact (Adds.refl _).drewN _ | exact (Adds.refl _).drew) hb); clear ho ha5 hb)
      | (go_at_call 20; refine (hbs2.out _ _ _ HA9.out).mono ?_; rintro e w8 ⟨lo2, hi2, v2, er2, hbr, rfl, hb⟩; have HBR2 := Lib.hid hbr; have HB8 := Lib.hid (HB7.out.trans hb); clear hbr hb))
    obtain ⟨hv, he⟩ := best_more HTB.out HCK1.out HCK2.out HBR.out HBR2.out
    have hv' : ¬ (v2 < v) := by omega
    by_cases hz2 : er2 = 0
    · subst hz2
      by_cases hz : er = 0
      · subst hz
        clear he
        go_upto_region 10 with (first
          | (go_at_call 16; refine (hgv2.out _ _ _ (HA8.out.later (by first | exact HB8.out | exact HB8.out))).mono ?_; rintro e w9 ⟨v, rfl, ho, hb⟩; obtain ⟨q5, k5, rfl, ha5, _⟩ := own_at3 ho; rw [HLB.out]; have HA11 := Lib.hid ha5; have HB11 : Hid (Adds w4 w9) := Lib.hid (Adds.trans (by first | exact HB8.out | exact HB8.out) hb); clear ho ha5 hb)
          | (go_at_call 21; refine (hpr2.out _ _ _ _ HA11.out).mono ?_; rintro e w10 ⟨pr, pe, hres, rfl, hb⟩; have HPR := Lib.hid hres; have HB10 := Lib.hid (HB11.out.trans hb); clear hres hb))
        go_upto_region 11 with (first
          | (go_at_call 16; refine (hgv2.out _ _ _ (HA8.out.later (by first | exact HB10.out | exact HB10.out))).mono ?_; rintro e w11 ⟨v, rfl, ho, hb⟩; obtain ⟨q5, k5, rfl, ha5, _⟩ := own_at3 ho; rw [HLB.out]; have HA11 := Lib.hid ha5; have HB11 : Hid (Adds w4 w11) := Lib.hid (Adds.trans (by first | exact HB10.out | exact HB10.out) hb); clear ho ha5 hb)
          | (go_at_call 21; refine (hpr2.out _ _ _ _ HA11.out).mono ?_; rintro e w12 ⟨pr2, pe2, hres, rfl, hb⟩; have HPR2 := Lib.hid hres; have HB12 := Lib.hid (HB11.out.trans hb); clear hres hb))
        rcases price_between HCK2.out HBR2.out HPR.out HPR2.out HRA.out HRB.out HRR2.out with ⟨h, rfl, rfl⟩ | ⟨h, rfl, rfl, h1, h2, h3⟩
        · exact absurd rfl h
        · clear h
          go_wp2_with (go_at_call 18; refine (awake_any _).mono ?_; rintro e w13 ⟨rfl, hb⟩; have HB13 := Lib.hid hb; clear hb)
          go_ret
          exact ⟨rfl, (HW4.out.trans HB12.out).trans HB13.out⟩
      · have hzb : (er == 0) = false := beq_eq_false_iff_ne.2 hz
        clear he
        go_upto_region 10 with (first
          | (go_at_call 16; refine (hgv2.out _ _ _ (HA8.out.later (by first | exact HB8.out | exact HB8.out))).mono ?_; rintro e w9 ⟨v, rfl, ho, hb⟩; obtain ⟨q5, k5, rfl, ha5, _⟩ := own_at3 ho; rw [HLB.out]; have HA11 := Lib.hid ha5; have HB11 : Hid (Adds w4 w9) := Lib.hid (Adds.trans (by first | exact HB8.out | exact HB8.out) hb); clear ho ha5 hb)
          | (go_at_call 21; refine (hpr2.out _ _ _ _ HA11.out).mono ?_; rintro e w10 ⟨pr, pe, hres, rfl, hb⟩; have HPR := Lib.hid hres; have HB10 := Lib.hid (HB11.out.trans hb); clear hres hb))
        go_upto_region 11 with (first
          | (go_at_call 16; refine (hgv2.out _ _ _ (HA8.out.later (by first | exact HB10.out | exact HB10.out))).mono ?_; rintro e w11 ⟨v, rfl, ho, hb⟩; obtain ⟨q5, k5, rfl, ha5, _⟩ := own_at3 ho; rw [HLB.out]; have HA11 := Lib.hid ha5; have HB11 : Hid (Adds w4 w11) := Lib.hid (Adds.trans (by first | exact HB10.out | exact HB10.out) hb); clear ho ha5 hb)
          | (go_at_call 21; refine (hpr2.out _ _ _ _ HA11.out).mono ?_; rintro e w12 ⟨pr2, pe2, hres, rfl, hb⟩; have HPR2 := Lib.hid hres; have HB12 := Lib.hid (HB11.out.trans hb); clear hres hb))
        rcases price_between HCK2.out HBR2.out HPR.out HPR2.out HRA.out HRB.out HRR2.out with ⟨h, rfl, rfl⟩ | ⟨h, rfl, rfl, h1, h2, h3⟩
        · exact absurd rfl h
        · clear h
          go_wp2_with (go_at_call 18; refine (awake_any _).mono ?_; rintro e w13 ⟨rfl, hb⟩; have HB13 := Lib.hid hb; clear hb)
          go_ret
          exact ⟨rfl, (HW4.out.trans HB12.out).trans HB13.out⟩
    · have hz : er ≠ 0 := fun h => hz2 (he h)
      have hzb : (er == 0) = false := beq_eq_false_iff_ne.2 hz
      have hzb2 : (er2 == 0) = false := beq_eq_false_iff_ne.2 hz2
      have hzn2 : (er2 != 0) = true := by simp [bne, hzb2]
      clear he
      go_upto_region 10 with (first
        | (go_at_call 16; refine (hgv2.out _ _ _ (HA8.out.later (by first | exact HB8.out | exact HB8.out))).mono ?_; rintro e w9 ⟨v, rfl, ho, hb⟩; obtain ⟨q5, k5, rfl, ha5, _⟩ := own_at3 ho; rw [HLB.out]; have HA11 := Lib.hid ha5; have HB11 : Hid (Adds w4 w9) := Lib.hid (Adds.trans (by first | exact HB8.out | exact HB8.out) hb); clear ho ha5 hb)
        | (go_at_call 21; refine (hpr2.out _ _ _ _ HA11.out).mono ?_; rintro e w10 ⟨pr, pe, hres, rfl, hb⟩; have HPR := Lib.hid hres; have HB10 := Lib.hid (HB11.out.trans hb); clear hres hb))
      go_upto_region 11 with (first
        | (go_at_call 16; refine (hgv2.out _ _ _ (HA8.out.later (by first | exact HB10.out | exact HB10.out))).mono ?_; rintro e w11 ⟨v, rfl, ho, hb⟩; obtain ⟨q5, k5, rfl, ha5, _⟩ := own_at3 ho; rw [HLB.out]; have HA11 := Lib.hid ha5; have HB11 : Hid (Adds w4 w11) := Lib.hid (Adds.trans (by first | exact HB10.out | exact HB10.out) hb); clear ho ha5 hb)
        | (go_at_call 21; refine (hpr2.out _ _ _ _ HA11.out).mono ?_; rintro e w12 ⟨pr2, pe2, hres, rfl, hb⟩; have HPR2 := Lib.hid hres; have HB12 := Lib.hid (HB11.out.trans hb); clear hres hb))
      rcases price_between HCK2.out HBR2.out HPR.out HPR2.out HRA.out HRB.out HRR2.out with ⟨h, rfl, rfl⟩ | ⟨h, rfl, rfl, h1, h2, h3⟩
      · go_wp2_with (go_at_call 18; refine (awake_any _).mono ?_; rintro e w13 ⟨rfl, hb⟩; have HB13 := Lib.hid hb; clear hb)
        go_ret
        exact ⟨rfl, (HW4.out.trans HB12.out).trans HB13.out⟩
      · exact absurd h hz2

end Go.Proofs.Ytigpghmbeldakaa
