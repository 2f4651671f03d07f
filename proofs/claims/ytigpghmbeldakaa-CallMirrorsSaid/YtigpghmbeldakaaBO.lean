/- CallMirrors' walk. -/
import Derived.Test.YtigpghmbeldakaaBN
import Derived.Deep.DeepCutAuto
import Derived.Deep.CutBlock
namespace Go.Proofs.Ytigpghmbeldakaa
open Go.RowKit

/-- The row behind k rounds. -/
def mirK (m : List Bd) (k : Nat) : List Bd := (m.take k).map mirB ++ m.drop k
theorem mirK_len (m : List Bd) (k : Nat) : (mirK m k).length = m.length := by simp [mirK]; omega
theorem mirK_get {m : List Bd} {k : Nat} (hk : k < m.length) : (mirK m k)[k]? = m[k]? := by
  unfold mirK
  rw [List.getElem?_append_right (by simp; omega)]
  simp [Nat.min_eq_left (Nat.le_of_lt hk)]
theorem mirK_next {m : List Bd} {k : Nat} {b : Bd} (hb : m[k]? = some b) : (mirK m k).set k (mirB b) = mirK m (k + 1) := by
  have hk := (List.getElem?_eq_some_iff.1 hb).1
  unfold mirK
  rw [take_next hb, List.map_append, List.append_assoc, List.set_append_right _ _ (by simp; omega)]
  congr 1
  have e : m.drop k = b :: m.drop (k + 1) := by
    rw [List.drop_eq_getElem_cons hk]
    congr 1
    exact (List.getElem?_eq_some_iff.1 hb).2
  rw [e]
  simp [Nat.min_eq_left (Nat.le_of_lt hk)]

theorem own_slice {w : World} {base n : Nat} {t : TypeId} {v : Value} {l : List (Int × Int × Int)} (h : w.ownsRow base t 3 v n (l.flatMap enc3)) : ∃ p c, v = .slice p n c := by
  rcases (own_rowT h).2 with ⟨hv, hn⟩ | ⟨g, cap, hv, _, _⟩
  · have := (own_rowT h).1
    subst hn
    rw [this]
    exact ⟨_, _, hv⟩
  · rw [(own_rowT h).1]
    exact ⟨_, _, hv⟩

theorem own_opens {w : World} {base n : Nat} {t : TypeId} {v : Value} {l : List (Int × Int × Int)} (h : w.ownsRow base t 3 v n (l.flatMap enc3)) :
    ∃ p c, v = .slice p l.length c ∧ At3 w p l ∧ l.length ≤ c ∧ c ≤ maxLen ∧ (p = none → c = 0) := by
  rcases (own_rowT h).2 with ⟨hv, hn⟩ | ⟨g, cap, hv, _, hr⟩
  · subst hn
    exact ⟨none, 0, hv, (fun i x hx => by simp at hx), by simp, by simp [maxLen], fun _ => rfl⟩
  · exact ⟨some ⟨g, 0, none⟩, cap, hv, hr.at3, hr.len.1, hr.len.2, fun h => by cases h⟩

set_option maxRecDepth 100000 in
set_option maxHeartbeats 4000000 in
theorem mirrors_any (p : Option Addr) (cap : Nat) (l : List Bd) (r0 : Int) (w : World) (hcap : l.length ≤ cap) (hcm : cap ≤ maxLen) (hp : p = none → cap = 0) (hL : At3 w p l) :
    Calls Try.prog 12 #[.slice p l.length cap, .int .i64 r0] w fun e w' => e = .returned (.bool true) ∧ Adds w w' := by
  have htame := tame_any p cap l 30 w hcap hcm hp (by omega) hL
  obtain ⟨L, hLd⟩ : ∃ L, L = tameL l 30 := ⟨_, rfl⟩
  have hok : ∀ b ∈ L, okB b = true := by rw [hLd]; exact tameL_ok l 30
  have hLn : L.length ≤ 30 := by rw [hLd, tameL_len]; omega
  rw [← hLd] at htame
  obtain ⟨n, hn⟩ : ∃ n, n = L.length := ⟨_, rfl⟩
  have HN := Lib.hid hn
  have HOK := Lib.hid hok
  have hn30 : n ≤ 30 := by omega
  have hn2 : n = (mirL L).length := by rw [mirL_len]; exact hn
  have HN2 := Lib.hid hn2
  have HC1 : Hid (checkT L = 0) := Lib.hid (check_zero.2 ⟨by omega, hok⟩)
  have HC2 : Hid (checkT (mirL L) = 0) := Lib.hid (check_zero.2 ⟨by omega, mirL_ok hok⟩)
  have hsm : Hid (∀ a c W, At3 W a L → n ≤ c → c ≤ maxLen → (a = none → c = 0) → Calls Try.prog 14 #[.slice a n c, .int .i64 30] W (OwnGot 61 L W)) := Lib.hid (fun a c W hW h1 h2 h3 => by
    have := some_any a c L 30 W (by omega) h2 h3 (by omega) hW
    rw [List.take_of_length_le hLn, ← hn] at this
    exact this)
  have hgv1 : Hid (∀ q qc W, At3 W q L → Calls Try.prog 16 #[.slice q n qc] W (OwnGot 75 L W)) := Lib.hid (fun q qc W hW => by rw [hn]; exact give_any q qc L W (by omega) hW)
  have hgv2 : Hid (∀ q qc W, At3 W q (mirL L) → Calls Try.prog 16 #[.slice q n qc] W (OwnGot 75 (mirL L) W)) := Lib.hid (fun q qc W hW => by rw [hn2]; exact give_any q qc (mirL L) W (by omega) hW)
  have hbs1 : Hid (∀ q qc W, At3 W q L → Calls Try.prog 20 #[.slice q n qc] W (BestGot L W)) := Lib.hid (fun q qc W hW => by rw [hn]; exact Best_any q qc L W (by unfold maxLen; omega) hW)
  have hbs2 : Hid (∀ q qc W, At3 W q (mirL L) → Calls Try.prog 20 #[.slice q n qc] W (BestGot (mirL L) W)) := Lib.hid (fun q qc W hW => by rw [hn2]; exact Best_any q qc (mirL L) W (by unfold maxLen; omega) hW)
  have hcl1 : Hid (∀ q qc W z, At3 W q L → 1 ≤ z ∧ z ≤ 1000000 → Calls Try.prog 22 #[.slice q n qc, .int .i64 z, .int .i64 (wrap64 (1 + wrap64 ((IntKind.u64.wrap r0).tmod 2)))] W (ClearGot (PriceAt L z) L (tnum r0 2) W)) := Lib.hid (fun q qc W z hW hz => by rw [hn]; exact Clear_tame q qc L z (tnum r0 2) W (by omega) hok hz (rule_in r0) hW)
  have hcl2 : Hid (∀ q qc W z, At3 W q (mirL L) → 1 ≤ z ∧ z ≤ 1000000 → Calls Try.prog 22 #[.slice q n qc, .int .i64 z, .int .i64 (wrap64 (1 + wrap64 ((IntKind.u64.wrap r0).tmod 2)))] W (ClearGot (PriceAt (mirL L) z) (mirL L) (tnum r0 2) W)) := Lib.hid (fun q qc W z hW hz => by rw [hn2]; exact Clear_tame q qc (mirL L) z (tnum r0 2) W (by omega) (mirL_ok hok) hz (rule_in r0) hW)
  have HTM := Lib.hid htame
  generalize l.length = N1 at *
  clear htame hLd hok hLn hn hL hcap hcm hp hn2
  go_enter Try.func12, Try.ntmps12
  go_upto_region 3 with (first
    | (go_at_call 26; refine HTM.out.mono ?_; rintro e w1 ⟨v5, rfl, hro, hb1⟩; obtain ⟨p5, c5, rfl, ha5, hl5, hm5, hp5⟩ := own_opens hro; have HB1 := Lib.hid hb1; have HA5 := Lib.hid ha5; rw [← HN.out] at hl5 ⊢; have HL5 := Lib.hid hl5; have HM5 := Lib.hid hm5; have HP5 := Lib.hid hp5; clear hro ha5 hb1 hl5 hm5 hp5)
    | (go_at_call 14; refine (hsm.out _ _ _ HA5.out HL5.out HM5.out HP5.out).mono ?_; rintro e w2 ⟨v6, rfl, hro, hb2⟩; rw [← HN.out] at hro; obtain ⟨p6, c6, hv6⟩ := own_slice hro; subst hv6; have HRO := Lib.hid hro; have HB2 := Lib.hid (HB1.out.trans hb2); have HA5' := Lib.hid (HA5.out.later hb2); have HB2b := Lib.hid hb2; clear hro hb2))
  clear HTM
  go_upto_block 0 with fail
  go_cut [] (fun wc => Hid (At3 wc p6 (mirL L)) ∧ Hid (Adds w1 wc))
  case first => as_aux_lemma =>
    go_wp2_with fail
    rcases (own_rowT HRO.out).2 with ⟨hv, hnil⟩ | ⟨g, gc, hv, hbg, hrow⟩
    · have hn0 : n = 0 := by rw [HN.out, hnil]; rfl
      have HE : Hid (mirL L = []) := Lib.hid (by rw [hnil]; rfl)
      subst hn0
      clear hv hnil
      go_loopw [7] (fun i wr => i = .int .i64 0 ∧ wr = w2) (fun _ _ => 0)
      case atStart => exact ⟨rfl, rfl⟩
      case round =>
        obtain ⟨rfl, rfl⟩ := hrel
        go_wp2
        go_meet
        exact ⟨Lib.hid (by rw [HE.out]; intro i x hx; simp at hx), HB2b⟩
    · simp only [Value.slice.injEq] at hv
      obtain ⟨rfl, _, rfl⟩ := hv
      have HBG := Lib.hid hbg
      have HROW := Lib.hid hrow
      clear hrow hbg
      go_loopw [7] (fun i wr => ∃ k : Nat, k ≤ n ∧ i = .int .i64 k ∧ Hid (RowT 61 wr g c6 (mirK L k)) ∧ Hid (Adds w1 wr)) (fun i _ => n - (intOf i).toNat)
      case atStart => exact ⟨0, by omega, rfl, Lib.hid (by simpa [mirK] using HROW.out), HB2b⟩
      case round =>
        obtain ⟨k, hk, rfl, hr, hb⟩ := hrel
        by_cases hltk : k < n
        · obtain ⟨⟨s, pp, q⟩, hb3⟩ : ∃ t, L[k]? = some t := ⟨_, List.getElem?_eq_getElem (by have := HN.out; omega)⟩
          have hkm : k < L.length := by have := HN.out; omega
          obtain ⟨_, _, he, c0, c1, c2⟩ := hr.out.at3 k _ ((mirK_get hkm).trans hb3)
          cases he
          simp only [Nat.zero_add] at c0 c1 c2
          have hgw := hr.out.lt
          have f0 := hr.out.free (k * 3)
          have f1 := hr.out.free (k * 3 + 1)
          have f2 := hr.out.free (k * 3 + 2)
          have hbok := okB_iff.1 (HOK.out _ (List.mem_of_getElem? hb3))
          simp only at hbok
          obtain ⟨hs1, ⟨hp1, hp2⟩, hq1, hq2⟩ := hbok
          have hs0 : 1 ≤ s := by omega
          have hs3 : s ≤ 2 := by omega
          have HNX := Lib.hid (mirK_next hb3)
          have HPL : Hid ((mirK L k).length = n) := Lib.hid (by rw [mirK_len]; exact HN.out.symm)
          clear hb3 hkm hs1
          go_wp2
          refine ⟨⟨k + 1, by omega, by go_num, Lib.hid ?_, Lib.hid ((((hb.out.set HBG.out _).set HBG.out _).set HBG.out _).alloc _)⟩, by simp [intOf]; omega⟩
          rw [← HNX.out]
          exact (hr.out.put (by rw [HPL.out]; exact hltk) (3 - s, 1000001 - pp, q)).later ((Adds.refl _).alloc _)
        · have hkn : k = n := by omega
          have hfull : mirK L k = mirL L := by
            unfold mirK mirL
            rw [List.take_of_length_le (by have := HN.out; omega), List.drop_of_length_le (by have := HN.out; omega), List.append_nil]
          rw [hfull] at hr
          have HR := Lib.hid hr.out.at3
          subst hkn
          clear hfull
          go_wp2
          go_meet
          exact ⟨HR, hb⟩
  case rest => as_aux_lemma =>
    obtain ⟨HA6, HBC⟩ := hcut
    have HA5'' := Lib.hid (HA5.out.later HBC.out)
    rename World => w3
    go_upto_region 11 with (first
      | (go_at_call 16; refine (hgv1.out _ _ _ HA5''.out).mono ?_; rintro e w4 ⟨v, rfl, ho, hb⟩; obtain ⟨q4, k4, rfl, ha4, _⟩ := own_at3 ho; rw [← HN.out]; have HA4 := Lib.hid ha4; have HT4 := Lib.hid hb; clear ho ha4 hb)
      | (go_at_call 20; refine (hbs1.out _ _ _ HA4.out).mono ?_; rintro e w5 ⟨lo, hi, v, er, hbr, rfl, hb⟩; have HBR := Lib.hid hbr; have HT45 := Lib.hid (HT4.out.trans hb); clear hbr hb))
    go_upto_region 12 with (first
      | (go_at_call 16; refine (hgv2.out _ _ _ (HA6.out.later (by have h1 := HT45.out; exact h1))).mono ?_; rintro e w6 ⟨v, rfl, ho, hb⟩; obtain ⟨q6, k6, rfl, ha6, _⟩ := own_at3 ho; rw [← HN2.out]; have HA7 := Lib.hid ha6; have HT6 := Lib.hid hb; clear ho ha6 hb)
      | (go_at_call 20; refine (hbs2.out _ _ _ HA7.out).mono ?_; rintro e w7 ⟨a, b, v2, f, hbr, rfl, hb⟩; have HBR2 := Lib.hid hbr; have HT7 := Lib.hid (HT6.out.trans hb); clear hbr hb))
    have A37 : Hid (Adds w3 w7) := Lib.hid (HT45.out.trans HT7.out)
    rcases bests_mir HC1.out HC2.out HBR.out HBR2.out with ⟨rfl, rfl, rfl, rfl, rfl⟩ | ⟨he, rfl⟩
    · obtain ⟨hb1, -, -, hv, hv0⟩ := HBR.out.some HC1.out rfl
      obtain ⟨hb2, -, -, -, -⟩ := HBR2.out.some HC2.out rfl
      have HB1' := Lib.hid hb1
      have HB2' := Lib.hid hb2
      have HV1 : Hid (0 < volAt L lo) := Lib.hid (by omega)
      have HV2 : Hid (0 < volAt (mirL L) (1000001 - hi)) := Lib.hid (by
        have := hb2.2 _ (best_mir hb1).1
        rw [vol_mir, show (1000001 : Int) - (1000001 - lo) = lo by omega] at this
        omega)
      have hlo := hb1.1
      have hhi := hb2.1
      unfold InR at hlo hhi
      have HLO := Lib.hid hlo
      have HHI := Lib.hid hhi
      obtain ⟨hlo1, hlo2⟩ := hlo
      obtain ⟨hhi1, hhi2⟩ := hhi
      clear hb1 hb2 hv hv0
      go_upto_region 18 with (first
        | (go_at_call 16; refine (hgv1.out _ _ _ (HA5''.out.later A37.out)).mono ?_; rintro e w8 ⟨v, rfl, ho, hb⟩; obtain ⟨q8, k8, rfl, ha8, _⟩ := own_at3 ho; rw [← HN.out]; have HA8 := Lib.hid ha8; have HT8 := Lib.hid (A37.out.trans hb); clear ho ha8 hb)
        | (go_at_call 22; refine (hcl1.out _ _ _ _ HA8.out HLO.out).mono ?_; rintro e w9 ⟨px1, v1, sr1, fv1, er1, hres, rfl, hb⟩; obtain rfl := clear_yes hres HB1'.out HV1.out; obtain ⟨hP1, hv1, -, -, g1, F1, -, hF1, rfl, -, hrow1⟩ := hres.yes rfl; rw [← HN.out] at hrow1 ⊢; have HP1 := Lib.hid hP1; have HW1 := Lib.hid hv1; have HF1 := Lib.hid hF1; have HR1 := Lib.hid hrow1; have HT9 := Lib.hid (HT8.out.trans hb); clear hP1 hv1 hF1 hrow1 hres hb))
      obtain ⟨W1, hW1⟩ : ∃ V, V = w9.alloc (.cells #[.int .i64 px1, .int .i64 v1, .int .i64 sr1, .slice (some ⟨g1, 0, none⟩) n n] 38) := ⟨_, rfl⟩
      obtain ⟨b1, hb1⟩ : ∃ b, b = w9.heap.size := ⟨_, rfl⟩
      have X1 : Hid (W1.cell? ⟨b1, 3, none⟩ = some (.slice (some ⟨g1, 0, none⟩) n n)) := Lib.hid (by rw [hW1, hb1]; exact (Box.new w9 #[.int .i64 px1, .int .i64 v1, .int .i64 sr1, .slice (some ⟨g1, 0, none⟩) n n] 38).cell 3)
      have T1 : Hid (Adds w3 W1) := Lib.hid (by rw [hW1]; exact HT9.out.alloc _)
      have R1 : Hid (RowI 2 .i64 W1 g1 n F1) := Lib.hid (by rw [hW1]; exact HR1.out.later ((Adds.refl _).alloc _))
      rw [← hW1, ← hb1]
      clear hW1 hb1
      go_upto_region 19 with (first
        | (go_at_call 16; refine (hgv2.out _ _ _ (HA6.out.later T1.out)).mono ?_; rintro e w10 ⟨v, rfl, ho, hb⟩; obtain ⟨q10, k10, rfl, ha10, _⟩ := own_at3 ho; rw [← HN2.out]; have HA10 := Lib.hid ha10; have HT10 := Lib.hid hb; clear ho ha10 hb)
        | (go_at_call 22; refine (hcl2.out _ _ _ _ HA10.out HHI.out).mono ?_; rintro e w11 ⟨px2, v2, sr2, fv2, er2, hres, rfl, hb⟩; obtain rfl := clear_yes hres HB2'.out HV2.out; obtain ⟨hP2, hv2, -, -, g2, F2, -, hF2, rfl, -, hrow2⟩ := hres.yes rfl; rw [← HN2.out] at hrow2 ⊢; have HP2 := Lib.hid hP2; have HW2 := Lib.hid hv2; have HF2 := Lib.hid hF2; have HR2 := Lib.hid hrow2; have HT11 := Lib.hid (HT10.out.trans hb); clear hP2 hv2 hF2 hrow2 hres hb))
      obtain ⟨W2, hW2⟩ : ∃ V, V = w11.alloc (.cells #[.int .i64 px2, .int .i64 v2, .int .i64 sr2, .slice (some ⟨g2, 0, none⟩) n n] 38) := ⟨_, rfl⟩
      obtain ⟨b2, hb2⟩ : ∃ b, b = w11.heap.size := ⟨_, rfl⟩
      have x2 : W2.cell? ⟨b2, 3, none⟩ = some (.slice (some ⟨g2, 0, none⟩) n n) := by rw [hW2, hb2]; exact (Box.new w11 #[.int .i64 px2, .int .i64 v2, .int .i64 sr2, .slice (some ⟨g2, 0, none⟩) n n] 38).cell 3
      have T12 : Hid (Adds W1 W2) := Lib.hid (by rw [hW2]; exact HT11.out.alloc _)
      have R2 : Hid (RowI 2 .i64 W2 g2 n F2) := Lib.hid (by rw [hW2]; exact HR2.out.later ((Adds.refl _).alloc _))
      have x1 := keep_cell T12.out X1.out
      have R1' := Lib.hid (R1.out.later T12.out)
      have T2 := Lib.hid (T1.out.trans T12.out)
      rw [← hW2, ← hb2]
      clear hW2 hb2
      have hgn : Hid (gainN L F1 = gainN (mirL L) F2) := Lib.hid (gains_mir HOK.out HP1.out.few.1 (by rw [← HW1.out]; exact HF1.out) HP2.out.few.1 (by rw [← HW2.out]; exact HF2.out))
      have hgc1 : Hid (∀ q qc W, At3 W q L → At1 .i64 W (some ⟨g1, 0, none⟩) F1 → Calls Try.prog 24 #[.slice q n qc, .slice (some ⟨g1, 0, none⟩) n n] W fun e w' => e = .returned (.tuple #[.int .i64 (gainN L F1), .int .i64 0]) ∧ Adds W w') := Lib.hid (fun q qc W h1 h2 => by
        have hl := HF1.out.len
        have := Gain_any q qc L (some ⟨g1, 0, none⟩) n F1 W (by rw [← HN.out]; unfold maxLen; omega) (by rw [hl, ← HN.out]; unfold maxLen; omega) h1 h2
        unfold GainGot at this
        rw [gainR_ok HC1.out HF1.out, hl, ← HN.out] at this
        exact this)
      have hgc2 : Hid (∀ q qc W, At3 W q (mirL L) → At1 .i64 W (some ⟨g2, 0, none⟩) F2 → Calls Try.prog 24 #[.slice q n qc, .slice (some ⟨g2, 0, none⟩) n n] W fun e w' => e = .returned (.tuple #[.int .i64 (gainN L F1), .int .i64 0]) ∧ Adds W w') := Lib.hid (fun q qc W h1 h2 => by
        have hl := HF2.out.len
        have := Gain_any q qc (mirL L) (some ⟨g2, 0, none⟩) n F2 W (by rw [← HN2.out]; unfold maxLen; omega) (by rw [hl, ← HN2.out]; unfold maxLen; omega) h1 h2
        unfold GainGot at this
        rw [gainR_ok HC2.out HF2.out, hl, ← HN2.out, ← hgn.out] at this
        exact this)
      generalize gainN L F1 = gn at hgc1 hgc2
      have HA12 := Lib.hid (HA5''.out.later T2.out)
      have HA13 := Lib.hid (HA6.out.later T2.out)
      clear hgn
      go_upto_region 21 with fail
      go_cut [22, 23] (fun s22 s23 wc => s22 = .int .i64 gn ∧ s23 = .int .i64 0 ∧ Hid (Adds W2 wc))
      case first => as_aux_lemma =>
        go_region_law (first
          | (go_simp; go_at_call 16; refine (hgv1.out _ _ _ (HA12.out.later (by first | exact Adds.refl _ | exact (Adds.refl _).drew))).mono ?_; rintro e w14 ⟨v, rfl, ho, hb⟩; obtain ⟨q14, k14, rfl, ha14, _⟩ := own_at3 ho; rw [← HN.out]; have HA14 := Lib.hid ha14; have HT14 : Hid (Adds W2 w14) := Lib.hid (Adds.trans (by first | exact Adds.refl _ | exact (Adds.refl _).drew) hb); have y1 := keep_cell HT14.out x1; clear ho ha14 hb)
          | (go_simp; go_at_call 24; refine (hgc1.out _ _ _ (HA14.out) (R1'.out.later HT14.out).at1).mono ?_; rintro e w15 ⟨rfl, hb⟩; have HT15 := Lib.hid (HT14.out.trans hb); clear hb))
        all_goals
          go_wp2_with fail
          go_meet
          exact ⟨rfl, rfl, HT15⟩
      case rest => as_aux_lemma =>
        obtain ⟨rfl, rfl, HTC⟩ := hcut
        rename World => W3
        have z2 := keep_cell HTC.out x2
        clear x1 x2
        have HA15 := Lib.hid (HA13.out.later HTC.out)
        have R3 := Lib.hid (R2.out.later HTC.out)
        have T3 := Lib.hid (T2.out.trans HTC.out)
        go_upto_region 22 with fail
        go_cut [24, 25] (fun s24 s25 wd => s24 = .int .i64 gn ∧ s25 = .int .i64 0 ∧ Hid (Adds W3 wd))
        case first => as_aux_lemma =>
          go_region_law (first
            | (go_simp; go_at_call 16; refine (hgv2.out _ _ _ (HA15.out.later (by first | exact Adds.refl _ | exact (Adds.refl _).drew))).mono ?_; rintro e w14 ⟨v, rfl, ho, hb⟩; obtain ⟨q14, k14, rfl, ha14, _⟩ := own_at3 ho; rw [← HN2.out]; have HA14 := Lib.hid ha14; have HT14 : Hid (Adds W3 w14) := Lib.hid (Adds.trans (by first | exact Adds.refl _ | exact (Adds.refl _).drew) hb); have y1 := keep_cell HT14.out z2; clear ho ha14 hb)
            | (go_simp; go_at_call 24; refine (hgc2.out _ _ _ (HA14.out) (R3.out.later HT14.out).at1).mono ?_; rintro e w15 ⟨rfl, hb⟩; have HT15 := Lib.hid (HT14.out.trans hb); clear hb))
          all_goals
            go_wp2_with fail
            go_meet
            exact ⟨rfl, rfl, HT15⟩
        case rest => as_aux_lemma =>
          obtain ⟨rfl, rfl, HTD⟩ := hcut
          clear z2
          go_wp2_with (go_at_call 18; refine (awake_any _).mono ?_; rintro e w18 ⟨rfl, hb⟩; have HB8 := Lib.hid hb; clear hb)
          go_ret
          exact ⟨rfl, (((HB1.out.trans HBC.out).trans T3.out).trans HTD.out).trans HB8.out⟩
    · have he' : (er == 0) = false := beq_eq_false_iff_ne.2 he
      clear he
      go_wp2_with (go_at_call 18; refine (awake_any _).mono ?_; rintro e w8 ⟨rfl, hb⟩; have HB8 := Lib.hid hb; clear hb)
      go_ret
      exact ⟨rfl, ((HB1.out.trans HBC.out).trans A37.out).trans HB8.out⟩

end Go.Proofs.Ytigpghmbeldakaa
