/- CallBalances' walk. -/
import Derived.Test.YtigpghmbeldakaaBJ
namespace Go.Proofs.Ytigpghmbeldakaa
open Go.RowKit

theorem ClearRes.slice {P : Int → Prop} {l : List Bd} {rule px v sr er : Int} {fv : Value} {w w' : World} (h : ClearRes P l rule px v sr fv er w w') : ∃ q n c, fv = .slice q n c := by
  by_cases hz : er = 0
  · obtain ⟨_, _, _, _, g, F, _, _, hv, _⟩ := h.yes hz
    exact ⟨_, _, _, hv⟩
  · obtain ⟨_, _, _, _, hv, _⟩ := h.no hz
    exact ⟨_, _, _, hv⟩

/-- What CallBalances' flags say of the first k bids. -/
structure Flags (l : List Bd) (F : List Int) (px : Int) (k : Nat) (b12 b13 b14 b15 : Bool) : Prop where
  buyers : b12 = true ↔ ∀ i, i < k → (l[i]!).1 = 1 → F[i]! = qtyOf l i ∨ priceOf l i < px
  sellers : b13 = true ↔ ∀ i, i < k → (l[i]!).1 = 2 → F[i]! = qtyOf l i ∨ px < priceOf l i
  eager : b14 = true → ∃ i, i < k ∧ (l[i]!).1 = 1 ∧ F[i]! ≠ qtyOf l i ∧ px < priceOf l i
  cheap : b15 = true → ∃ i, i < k ∧ (l[i]!).1 = 2 ∧ F[i]! ≠ qtyOf l i ∧ priceOf l i < px

theorem all_next {P : Nat → Prop} {k : Nat} : (∀ i, i < k + 1 → P i) ↔ (∀ i, i < k → P i) ∧ P k :=
  ⟨fun h => ⟨fun i hi => h i (by omega), h k (by omega)⟩, fun h i hi => by
    rcases Nat.lt_or_ge i k with h1 | h1
    · exact h.1 i h1
    · have : i = k := by omega
      subst this
      exact h.2⟩

theorem Flags.buy {l : List Bd} {F : List Int} {px pp qq y : Int} {k : Nat} {b12 b13 b14 b15 fullB ltB gtB : Bool} (h : Flags l F px k b12 b13 b14 b15) (hl : l[k]! = (1, pp, qq)) (hF : F[k]! = y) (h1 : (y == qq) = fullB) (h2 : decide (pp < px) = ltB) (h3 : decide (px < pp) = gtB) :
    Flags l F px (k + 1) (b12 && (fullB || ltB)) b13 (b14 || (!fullB && gtB)) b15 := by
  have hq : qtyOf l k = qq := by unfold qtyOf; rw [hl]
  have hp : priceOf l k = pp := by unfold priceOf; rw [hl]
  subst h1; subst h2; subst h3
  refine ⟨?_, ?_, ?_, ?_⟩
  · rw [all_next, Bool.and_eq_true, h.buyers, hl, hF, hq, hp]
    simp
  · rw [all_next, h.sellers, hl]
    simp
  · intro hb
    rw [Bool.or_eq_true] at hb
    rcases hb with hb | hb
    · obtain ⟨i, a1, a2⟩ := h.eager hb
      exact ⟨i, by omega, a2⟩
    · refine ⟨k, by omega, ?_⟩
      rw [hl, hF, hq, hp]
      simpa using hb
  · intro hb
    obtain ⟨i, a1, a2⟩ := h.cheap hb
    exact ⟨i, by omega, a2⟩

theorem Flags.sell {l : List Bd} {F : List Int} {px pp qq y : Int} {k : Nat} {b12 b13 b14 b15 fullB ltB gtB : Bool} (h : Flags l F px k b12 b13 b14 b15) (hl : l[k]! = (2, pp, qq)) (hF : F[k]! = y) (h1 : (y == qq) = fullB) (h2 : decide (pp < px) = ltB) (h3 : decide (px < pp) = gtB) :
    Flags l F px (k + 1) b12 (b13 && (fullB || gtB)) b14 (b15 || (!fullB && ltB)) := by
  have hq : qtyOf l k = qq := by unfold qtyOf; rw [hl]
  have hp : priceOf l k = pp := by unfold priceOf; rw [hl]
  subst h1; subst h2; subst h3
  refine ⟨?_, ?_, ?_, ?_⟩
  · rw [all_next, h.buyers, hl]
    simp
  · rw [all_next, Bool.and_eq_true, h.sellers, hl, hF, hq, hp]
    simp
  · intro hb
    obtain ⟨i, a1, a2⟩ := h.eager hb
    exact ⟨i, by omega, a2⟩
  · intro hb
    rw [Bool.or_eq_true] at hb
    rcases hb with hb | hb
    · obtain ⟨i, a1, a2⟩ := h.cheap hb
      exact ⟨i, by omega, a2⟩
    · refine ⟨k, by omega, ?_⟩
      rw [hl, hF, hq, hp]
      simpa using hb

/-- The side that has no more than the volume is served in full. -/
theorem served_full {l : List Bd} {x V side : Int} {F : List Int} (h : FillOk l x V F) (hs : side = 1 ∨ side = 2) (hV : V = if side = 1 then dem l x else sup l x) : ∀ i, i < l.length → partB l x side i = true → F[i]! = qtyOf l i := by
  intro i hi hp
  have hsum : ((partT l x side l.length).map fun n => F[n.toNat]!).sum = ((partT l x side l.length).map fun n => qtyOf l n.toNat).sum := by
    have e1 : ((partT l x side l.length).map fun n => F[n.toNat]!).sum = V := by
      rcases hs with rfl | rfl
      · exact h.buy
      · exact h.sell
    obtain ⟨R, hR⟩ : ∃ R, RankOf l x side R := by
      obtain ⟨O, o1, o2⟩ := order_ex (keyT l side) l.length
      have hf : (O.filter fun n => partB l x side n.toNat).Perm (partT l x side l.length) := by
        have := o1.filter (fun n => partB l x side n.toNat)
        refine this.trans ?_
        unfold partT numsT
        rw [List.filter_map]
        exact List.Perm.refl _
      exact ⟨_, hf, o2.filter _⟩
    have e2 := rank_sum hR hs
    rw [← hV] at e2
    have e3 : ((partT l x side l.length).map fun n => qtyOf l n.toNat).sum = (qtyT l R).sum := (perm_sum' (hR.1.map _)).symm
    rw [e1, e3, e2]
  have := full_of_sum _ (fun n => F[n.toNat]!) (fun n => qtyOf l n.toNat) (fun n hn => by
    have := partT_in l x side l.length n hn
    exact (h.bd n.toNat (by omega)).2) hsum (i : Int) (part_mem.2 ⟨hi, hp⟩)
  simpa using this

theorem part_buy {l : List Bd} {x : Int} {i : Nat} (h : (l[i]!).1 = 1) (hp : x ≤ (l[i]!).2.1) : partB l x 1 i = true := by
  unfold partB takesB
  rw [Bool.and_eq_true, decide_eq_true_eq, if_pos h, decide_eq_true_eq]
  exact ⟨h, hp⟩
theorem part_sell {l : List Bd} {x : Int} {i : Nat} (h : (l[i]!).1 = 2) (hp : (l[i]!).2.1 ≤ x) : partB l x 2 i = true := by
  unfold partB takesB
  rw [Bool.and_eq_true, decide_eq_true_eq, if_neg (by omega), decide_eq_true_eq]
  exact ⟨h, hp⟩

theorem Flags.done {l : List Bd} {F : List Int} {px V : Int} {k : Nat} {b12 b13 b14 b15 : Bool} (h : Flags l F px k b12 b13 b14 b15) (hok : ∀ b ∈ l, okB b = true) (hF : FillOk l px V F) (hk : k = l.length) (hV : V = volAt l px) : (b14 && b15) = false ∧ (b12 || b13) = true := by
  subst hk
  unfold volAt at hV
  rcases Int.le_total (dem l px) (sup l px) with hc | hc
  · have hs := served_full hF (Or.inl rfl) (by rw [if_pos rfl]; omega)
    have hb : b12 = true := h.buyers.2 fun i hi hsd => by
      by_cases hp : priceOf l i < px
      · exact Or.inr hp
      · refine Or.inl (hs i hi ?_)
        exact part_buy hsd (by unfold priceOf at hp; omega)
    refine ⟨?_, by rw [hb]; rfl⟩
    cases hb14 : b14 with
    | false => rfl
    | true =>
      obtain ⟨i, hi, hsd, hne, hp⟩ := h.eager hb14
      refine absurd (hs i hi ?_) hne
      exact part_buy hsd (by unfold priceOf at hp; omega)
  · have hs := served_full hF (Or.inr rfl) (by rw [if_neg (by omega)]; omega)
    have hb : b13 = true := h.sellers.2 fun i hi hsd => by
      by_cases hp : px < priceOf l i
      · exact Or.inr hp
      · refine Or.inl (hs i hi ?_)
        exact part_sell hsd (by unfold priceOf at hp; omega)
    refine ⟨?_, by rw [hb]; simp⟩
    cases hb15 : b15 with
    | false => simp
    | true =>
      obtain ⟨i, hi, hsd, hne, hp⟩ := h.cheap hb15
      refine absurd (hs i hi ?_) hne
      exact part_sell hsd (by unfold priceOf at hp; omega)

theorem rule_in (a : Int) : tnum a 2 = 1 ∨ tnum a 2 = 2 := by have := tnum_in a 2 (by omega) (by omega); omega

set_option maxRecDepth 100000 in
set_option maxHeartbeats 4000000 in
theorem balances_any (p : Option Addr) (cap : Nat) (l : List Bd) (x0 r0 : Int) (w : World) (hcap : l.length ≤ cap) (hcm : cap ≤ maxLen) (hp : p = none → cap = 0) (hL : At3 w p l) :
    Calls Try.prog 9 #[.slice p l.length cap, .int .i64 x0, .int .i64 r0] w fun e w' => e = .returned (.bool true) ∧ Adds w w' := by
  have htame := tame_any p cap l 40 w hcap hcm hp (by omega) hL
  obtain ⟨L, hLd⟩ : ∃ L, L = tameL l 40 := ⟨_, rfl⟩
  have hok : ∀ b ∈ L, okB b = true := by rw [hLd]; exact tameL_ok l 40
  have hLn : L.length ≤ 40 := by rw [hLd, tameL_len]; omega
  rw [← hLd] at htame
  obtain ⟨n, hn⟩ : ∃ n, n = L.length := ⟨_, rfl⟩
  have HN := Lib.hid hn
  have HOK := Lib.hid hok
  have hn40 : n ≤ 40 := by omega
  have hpb := tnum_in x0 120 (by omega) (by omega)
  have hgv : Hid (∀ q qc W, At3 W q L → Calls Try.prog 16 #[.slice q n qc] W (OwnGot 75 L W)) := Lib.hid (fun q qc W hW => by rw [hn]; exact give_any q qc L W (by omega) hW)
  have hcl : Hid (∀ q qc W, At3 W q L → Calls Try.prog 22 #[.slice q n qc, .int .i64 (wrap64 (1 + wrap64 ((IntKind.u64.wrap x0).tmod 120))), .int .i64 (wrap64 (1 + wrap64 ((IntKind.u64.wrap r0).tmod 2)))] W (ClearGot (PriceAt L (tnum x0 120)) L (tnum r0 2) W)) := Lib.hid (fun q qc W hW => by rw [hn]; exact Clear_tame q qc L (tnum x0 120) (tnum r0 2) W hLn hok (by omega) (rule_in r0) hW)
  have HTM := Lib.hid htame
  generalize l.length = N1 at *
  clear htame hLd hok hLn hn hL hcap hcm hp hpb
  go_enter Try.func9, Try.ntmps9
  go_upto_region 3 with (first
    | (go_at_call 26; refine HTM.out.mono ?_; rintro e w1 ⟨v5, rfl, hro, hb1⟩; obtain ⟨p5, c5, rfl, ha5, _⟩ := own_at3 hro; have HB1 := Lib.hid hb1; have HA5 := Lib.hid ha5; rw [← HN.out]; clear hro ha5 hb1)
    | (go_at_call 16; refine (hgv.out _ _ _ HA5.out).mono ?_; rintro e w2 ⟨v6, rfl, hro, hb2⟩; obtain ⟨p6, c6, rfl, ha6, _⟩ := own_at3 hro; have HB2 := Lib.hid (HB1.out.trans hb2); have HA6 := Lib.hid ha6; have HA5' := Lib.hid (HA5.out.later hb2); rw [← HN.out]; clear hro ha6 hb2)
    | (go_at_call 22; refine (hcl.out _ _ _ HA6.out).mono ?_; rintro e w3 ⟨px, v, sr, fv, er, hres, rfl, hb3⟩; obtain ⟨q3, n3, c3, rfl⟩ := hres.slice; have HRES := Lib.hid hres; have HB3 := Lib.hid (HB2.out.trans hb3); have HA3 := Lib.hid (HA5'.out.later hb3); clear hres hb3))
  obtain ⟨W4, hW4⟩ : ∃ V, V = w3.alloc (.cells #[.int .i64 px, .int .i64 v, .int .i64 sr, .slice q3 n3 c3] 38) := ⟨_, rfl⟩
  obtain ⟨b, hb⟩ : ∃ b, b = w3.heap.size := ⟨_, rfl⟩
  have X0 : Box W4 b #[.int .i64 px, .int .i64 v, .int .i64 sr, .slice q3 n3 c3] 38 := by rw [hW4, hb]; exact Box.new _ _ _
  have A34 : Hid (Adds w3 W4) := Lib.hid (by rw [hW4]; exact (Adds.refl _).alloc _)
  have HB4 := Lib.hid (HB3.out.trans A34.out)
  have HA4 := Lib.hid (HA3.out.later A34.out)
  rw [← hW4, ← hb]
  have HX := Lib.hid X0
  have x0' := X0.cell 0
  have x1' := X0.cell 1
  have x2' := X0.cell 2
  have x3' := X0.cell 3
  simp only [List.getElem?_toArray, List.getElem?_cons_zero, List.getElem?_cons_succ] at x0' x1' x2' x3'
  clear hW4 hb X0 HTM
  by_cases hz : er = 0
  · subst hz
    obtain ⟨hP, hv, hv0, hsr, g, F, hF, hok, hfv, hg, hrow⟩ := HRES.out.yes rfl
    simp only [Value.slice.injEq] at hfv
    obtain ⟨rfl, rfl, rfl⟩ := hfv
    rw [← HN.out] at x3' hrow ⊢
    have hnL := HN.out
    have HVV := Lib.hid hv
    have HFO := Lib.hid hok
    have HROW := Lib.hid (hrow.later A34.out)
    have hFl : F.length = n := by rw [hok.len, ← HN.out]
    have HFL := Lib.hid hFl
    have hfit : fitT L F = true := by
      unfold fitT
      rw [decide_eq_true (by omega), Bool.true_and, List.all_eq_true]
      intro z hz
      obtain ⟨i, hi, rfl⟩ := List.getElem_of_mem hz
      rw [List.length_zip] at hi
      rw [List.getElem_zip]
      have hb := hok.bd i (by omega)
      unfold qtyOf at hb
      rw [getElem!_pos L i (by omega), getElem!_pos F i (by omega)] at hb
      unfold fitB
      exact decide_eq_true hb
    have hFb : ∀ i, i < L.length → 0 ≤ F[i]! ∧ F[i]! ≤ 1000000000 := fun i hi => by
      have h1 := hok.bd i hi
      have h2 := qty_of HOK.out hi
      omega
    have s1 := hok.buy
    have s2 := hok.sell
    rw [sum_of_part hok.out L.length (Nat.le_refl _)] at s1 s2
    have hfc : Hid (∀ W, At3 W p5 L → At1 .i64 W (some ⟨g, 0, none⟩) F → Calls Try.prog 32 #[.slice p5 n c5, .slice (some ⟨g, 0, none⟩) n n] W fun e w' => e = .returned (.bool true) ∧ Adds W w') := Lib.hid (fun W h1 h2 => by
      have := RFit_any p5 c5 L (some ⟨g, 0, none⟩) n F W (by omega) (by omega) h1 h2
      rw [hfit, hFl, ← HN.out] at this
      exact this)
    have hsc : Hid (∀ W, At3 W p5 L → At1 .i64 W (some ⟨g, 0, none⟩) F → Calls Try.prog 37 #[.slice p5 n c5, .slice (some ⟨g, 0, none⟩) n n] W fun e w' => e = .returned (.tuple #[.int .i64 v, .int .i64 v]) ∧ W = w') := Lib.hid (fun W h1 h2 => by
      have := sums_any p5 c5 L (some ⟨g, 0, none⟩) n F W (by omega) (by omega) h1 h2 HOK.out hFb
      rw [s1, s2, hFl, ← HN.out] at this
      exact this)
    have hv1 : ¬ v < 1 := by omega
    clear hok hrow hfit hFb s1 s2 hF hP hv hsr hFl hg HRES hnL
    go_upto_region 10 with (first
      | (go_at_call 32; refine (hfc.out _ HA4.out HROW.out.at1).mono ?_; rintro e w5 ⟨rfl, hb5⟩; have HB5 := Lib.hid hb5; have y0 := keep_cell hb5 x0'; have y1 := keep_cell hb5 x1'; have y2 := keep_cell hb5 x2'; have y3 := keep_cell hb5 x3'; clear hb5)
      | (go_at_call 37; refine (hsc.out _ (HA4.out.later HB5.out) (HROW.out.later HB5.out).at1).mono ?_; rintro e w6 ⟨rfl, rfl⟩))
    have hv1d : decide (v < 1) = false := decide_eq_false (by omega)
    have HFI : Hid (Flags L F px 0 true true false false) := Lib.hid ⟨by simp, by simp, by simp, by simp⟩
    go_wp2
    go_loopw [12, 13, 14, 15, 16] (fun v12 v13 v14 v15 v16 wr => ∃ (k : Nat) (b12 b13 b14 b15 : Bool), k ≤ n ∧ v16 = .int .i64 k ∧ v12 = .bool b12 ∧ v13 = .bool b13 ∧ v14 = .bool b14 ∧ v15 = .bool b15 ∧ Hid (Flags L F px k b12 b13 b14 b15) ∧ Adds w5 wr) (fun _ _ _ _ v16 _ => n - (intOf v16).toNat)
    case atStart => exact ⟨0, true, true, false, false, by omega, rfl, rfl, rfl, rfl, rfl, HFI, Adds.refl _⟩
    case round =>
      obtain ⟨k, b12, b13, b14, b15, hk, rfl, rfl, rfl, rfl, rfl, hfl, hadd⟩ := hrel
      clear HFI
      by_cases hlt : k < n
      · obtain ⟨⟨s, pp, qq⟩, hb3⟩ : ∃ t, L[k]? = some t := ⟨_, List.getElem?_eq_getElem (by have := HN.out; omega)⟩
        obtain ⟨y, hy⟩ : ∃ y, F[k]? = some y := ⟨_, List.getElem?_eq_getElem (by have := HFL.out; omega)⟩
        obtain ⟨g5, off5, rfl, d0, d1, d2⟩ := (HA4.out.later HB5.out) k _ hb3
        have e0 := (HROW.out.later HB5.out).cell hy
        have hsd := side_of HOK.out (show k < L.length by rw [← HN.out]; exact hlt)
        have hlk : L[k]! = (s, pp, qq) := get!_some hb3
        have hFk : F[k]! = y := by rw [List.getElem!_eq_getElem?_getD, hy]; rfl
        have HLK := Lib.hid hlk
        have HFK := Lib.hid hFk
        rw [hlk] at hsd
        simp only at hsd d0 d1 d2
        have hki : (k : Int) < (n : Int) := by omega
        obtain ⟨fullB, hfull⟩ : ∃ B, (y == qq) = B := ⟨_, rfl⟩
        obtain ⟨ltB, hltB⟩ : ∃ B, decide (pp < px) = B := ⟨_, rfl⟩
        obtain ⟨gtB, hgtB⟩ : ∃ B, decide (px < pp) = B := ⟨_, rfl⟩
        obtain ⟨posB, hpos⟩ : ∃ B, decide (0 < y) = B := ⟨_, rfl⟩
        have HADD := Lib.hid hadd
        have hout := HFO.out.out k (by rw [← HN.out]; exact hlt)
        rw [hlk, hFk] at hout
        clear hadd hb3 hy hlk hFk
        have c0 := keep_cell HADD.out d0
        have c1 := keep_cell HADD.out d1
        have c2 := keep_cell HADD.out d2
        have f0 := keep_cell HADD.out e0
        have k0 := keep_cell HADD.out y0
        have k3 := keep_cell HADD.out y3
        rcases hsd with rfl | rfl
        · have HOUT : Hid ((ltB && posB) = false) := Lib.hid (by
            rw [← hltB, ← hpos]
            by_cases h : pp < px
            · rw [hout (by unfold takesB; simp; omega)]
              simp
            · simp [h])
          clear hout
          go_upto_region 15 with fail
          go_quiet (fail)
          go_wp2_with fail
          have HADD' := Lib.hid (HADD.out.drewN nq)
          obtain ⟨w9, hw9⟩ : ∃ V, V = wr.drewN nq := ⟨_, rfl⟩
          rw [← hw9] at HADD' ⊢
          clear hw9
          clear HADD c0 c1 c2 f0 k0 k3
          have HADD := HADD'
          clear HADD'
          have c0 := keep_cell HADD.out d0
          have c1 := keep_cell HADD.out d1
          have c2 := keep_cell HADD.out d2
          have f0 := keep_cell HADD.out e0
          have k0 := keep_cell HADD.out y0
          have k3 := keep_cell HADD.out y3
          go_upto_region 17 with fail
          go_cut [112] (fun s112 wc => s112 = .bool (ltB && posB) ∧ Adds w5 wc)
          case first => as_aux_lemma =>
            cases ltB with
            | true =>
              go_quiet (fail)
              go_wp2_with fail
              go_meet
              exact ⟨rfl, HADD.out.drewN _⟩
            | false =>
              go_quiet (fail)
              go_wp2_with fail
              go_meet
              exact ⟨rfl, HADD.out.drewN _⟩
          case rest => as_aux_lemma =>
            obtain ⟨rfl, hadd⟩ := hcut
            clear c0 c1 c2 f0 k0 k3
            have HADD := Lib.hid hadd
            clear hadd
            have c0 := keep_cell HADD.out d0
            have c1 := keep_cell HADD.out d1
            have c2 := keep_cell HADD.out d2
            have f0 := keep_cell HADD.out e0
            have k0 := keep_cell HADD.out y0
            have k3 := keep_cell HADD.out y3
            rw [HOUT.out]
            go_upto_region 19 with fail
            go_cut [12] (fun s12 wc => s12 = .bool (b12 && (fullB || ltB)) ∧ Adds w5 wc)
            case first => as_aux_lemma =>
              cases b12 with
              | true =>
                cases fullB with
                | true =>
                  go_quiet (fail)
                  go_wp2_with fail
                  go_meet
                  exact ⟨rfl, HADD.out.drewN _⟩
                | false =>
                  go_quiet (fail)
                  go_wp2_with fail
                  go_meet
                  exact ⟨rfl, HADD.out.drewN _⟩
              | false =>
                go_quiet (fail)
                go_wp2_with fail
                go_meet
                exact ⟨rfl, HADD.out.drewN _⟩
            case rest => as_aux_lemma =>
              obtain ⟨rfl, hadd⟩ := hcut
              clear c0 c1 c2 f0 k0 k3
              have HADD := Lib.hid hadd
              clear hadd
              have c0 := keep_cell HADD.out d0
              have c1 := keep_cell HADD.out d1
              have c2 := keep_cell HADD.out d2
              have f0 := keep_cell HADD.out e0
              have k0 := keep_cell HADD.out y0
              have k3 := keep_cell HADD.out y3
              go_upto_region 20 with fail
              cases b14 with
              | true => as_aux_lemma =>
                go_quiet (fail)
                go_wp2
                go_roundw
                case rel => exact ⟨k + 1, b12 && (fullB || ltB), b13, true || (!fullB && gtB), b15, by omega, by go_num, rfl, rfl, rfl, rfl, Lib.hid (hfl.out.buy HLK.out HFK.out hfull hltB hgtB), HADD.out.drewN _⟩
                case measure => simp [intOf]; omega
              | false =>
                cases fullB with
                | true => as_aux_lemma =>
                  go_quiet (fail)
                  go_wp2
                  go_roundw
                  case rel => exact ⟨k + 1, b12 && (true || ltB), b13, false || (!true && gtB), b15, by omega, by go_num, rfl, rfl, rfl, rfl, Lib.hid (hfl.out.buy HLK.out HFK.out hfull hltB hgtB), HADD.out.drewN _⟩
                  case measure => simp [intOf]; omega
                | false => as_aux_lemma =>
                  go_quiet (fail)
                  go_wp2
                  go_roundw
                  case rel => exact ⟨k + 1, b12 && (false || ltB), b13, false || (!false && gtB), b15, by omega, by go_num, rfl, rfl, rfl, rfl, Lib.hid (hfl.out.buy HLK.out HFK.out hfull hltB hgtB), HADD.out.drewN _⟩
                  case measure => simp [intOf]; omega
        · have HOUT : Hid ((gtB && posB) = false) := Lib.hid (by
            rw [← hgtB, ← hpos]
            by_cases h : px < pp
            · rw [hout (by unfold takesB; simp; omega)]
              simp
            · simp [h])
          clear hout
          go_upto_region 15 with fail
          go_quiet (fail)
          go_wp2_with fail
          have HADD' := Lib.hid (HADD.out.drewN nq)
          obtain ⟨w9, hw9⟩ : ∃ V, V = wr.drewN nq := ⟨_, rfl⟩
          rw [← hw9] at HADD' ⊢
          clear hw9
          clear HADD c0 c1 c2 f0 k0 k3
          have HADD := HADD'
          clear HADD'
          have c0 := keep_cell HADD.out d0
          have c1 := keep_cell HADD.out d1
          have c2 := keep_cell HADD.out d2
          have f0 := keep_cell HADD.out e0
          have k0 := keep_cell HADD.out y0
          have k3 := keep_cell HADD.out y3
          go_upto_region 21 with fail
          go_cut [157] (fun s157 wc => s157 = .bool (gtB && posB) ∧ Adds w5 wc)
          case first => as_aux_lemma =>
            cases gtB with
            | true =>
              go_quiet (fail)
              go_wp2_with fail
              go_meet
              exact ⟨rfl, HADD.out.drewN _⟩
            | false =>
              go_quiet (fail)
              go_wp2_with fail
              go_meet
              exact ⟨rfl, HADD.out.drewN _⟩
          case rest => as_aux_lemma =>
            obtain ⟨rfl, hadd⟩ := hcut
            clear c0 c1 c2 f0 k0 k3
            have HADD := Lib.hid hadd
            clear hadd
            have c0 := keep_cell HADD.out d0
            have c1 := keep_cell HADD.out d1
            have c2 := keep_cell HADD.out d2
            have f0 := keep_cell HADD.out e0
            have k0 := keep_cell HADD.out y0
            have k3 := keep_cell HADD.out y3
            rw [HOUT.out]
            go_upto_region 23 with fail
            go_cut [13] (fun s13 wc => s13 = .bool (b13 && (fullB || gtB)) ∧ Adds w5 wc)
            case first => as_aux_lemma =>
              cases b13 with
              | true =>
                cases fullB with
                | true =>
                  go_quiet (fail)
                  go_wp2_with fail
                  go_meet
                  exact ⟨rfl, HADD.out.drewN _⟩
                | false =>
                  go_quiet (fail)
                  go_wp2_with fail
                  go_meet
                  exact ⟨rfl, HADD.out.drewN _⟩
              | false =>
                go_quiet (fail)
                go_wp2_with fail
                go_meet
                exact ⟨rfl, HADD.out.drewN _⟩
            case rest => as_aux_lemma =>
              obtain ⟨rfl, hadd⟩ := hcut
              clear c0 c1 c2 f0 k0 k3
              have HADD := Lib.hid hadd
              clear hadd
              have c0 := keep_cell HADD.out d0
              have c1 := keep_cell HADD.out d1
              have c2 := keep_cell HADD.out d2
              have f0 := keep_cell HADD.out e0
              have k0 := keep_cell HADD.out y0
              have k3 := keep_cell HADD.out y3
              go_upto_region 24 with fail
              cases b15 with
              | true => as_aux_lemma =>
                go_quiet (fail)
                go_wp2
                go_roundw
                case rel => exact ⟨k + 1, b12, b13 && (fullB || gtB), b14, true || (!fullB && ltB), by omega, by go_num, rfl, rfl, rfl, rfl, Lib.hid (hfl.out.sell HLK.out HFK.out hfull hltB hgtB), HADD.out.drewN _⟩
                case measure => simp [intOf]; omega
              | false =>
                cases fullB with
                | true => as_aux_lemma =>
                  go_quiet (fail)
                  go_wp2
                  go_roundw
                  case rel => exact ⟨k + 1, b12, b13 && (true || gtB), b14, false || (!true && ltB), by omega, by go_num, rfl, rfl, rfl, rfl, Lib.hid (hfl.out.sell HLK.out HFK.out hfull hltB hgtB), HADD.out.drewN _⟩
                  case measure => simp [intOf]; omega
                | false => as_aux_lemma =>
                  go_quiet (fail)
                  go_wp2
                  go_roundw
                  case rel => exact ⟨k + 1, b12, b13 && (false || gtB), b14, false || (!false && ltB), by omega, by go_num, rfl, rfl, rfl, rfl, Lib.hid (hfl.out.sell HLK.out HFK.out hfull hltB hgtB), HADD.out.drewN _⟩
                  case measure => simp [intOf]; omega
      · have hkn : k = n := by omega
        have HEND := Lib.hid (hfl.out.done HOK.out HFO.out (by rw [hkn, HN.out]) HVV.out)
        have HADD := Lib.hid hadd
        clear hadd hfl
        obtain ⟨h1, h2⟩ := HEND.out
        clear HEND
        cases b14 <;> cases b15 <;> cases b12 <;> cases b13 <;> first
          | (exfalso; revert h1; decide)
          | (exfalso; revert h2; decide)
          | (clear h1 h2
             go_wp2_with (go_at_call 18; refine (awake_any _).mono ?_; rintro e w6 ⟨rfl, hb⟩; have HB6 := Lib.hid hb; clear hb)
             go_ret
             exact ⟨rfl, ((HB4.out.trans HB5.out).trans HADD.out).trans HB6.out⟩)
  · obtain ⟨rfl, rfl, rfl, rfl, hfv, _⟩ := HRES.out.no hz
    simp only [Value.slice.injEq] at hfv
    obtain ⟨rfl, rfl, rfl⟩ := hfv
    clear hz
    go_wp2_with (first
      | (go_at_call 25; refine (nothing_zero _).mono ?_; rintro e w5 ⟨rfl, hb5⟩; have HB5 := Lib.hid hb5; clear hb5)
      | (go_at_call 18; refine (awake_any _).mono ?_; rintro e w6 ⟨rfl, hb⟩; have HB6 := Lib.hid hb; clear hb))
    go_ret
    exact ⟨rfl, (HB4.out.trans HB5.out).trans HB6.out⟩

end Go.Proofs.Ytigpghmbeldakaa
