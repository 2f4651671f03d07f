/- CallGreatest's walk. -/
import Derived.Test.YtigpghmbeldakaaBR
import Derived.StillTailTactics
import Derived.IntWalk
namespace Go.Proofs.Ytigpghmbeldakaa
open Go.RowKit

/-- Fills within the quantities. -/
structure Within (l : List Bd) (O : List Int) : Prop where
  len : O.length = l.length
  bd : ∀ i, i < l.length → 0 ≤ O[i]! ∧ O[i]! ≤ qtyOf l i

theorem Within.set {l : List Bd} {O : List Int} (h : Within l O) {k : Nat} {y : Int} (h0 : 0 ≤ y) (h1 : y ≤ qtyOf l k) : Within l (O.set k y) :=
  ⟨by rw [List.length_set, h.len], fun i hi => by
    rw [List.getElem!_eq_getElem?_getD, List.getElem?_set]
    by_cases e : k = i
    · subst e
      rw [if_pos rfl, if_pos (by rw [h.len]; exact hi)]
      exact ⟨h0, h1⟩
    · rw [if_neg e, ← List.getElem!_eq_getElem?_getD]
      exact h.bd i hi⟩

theorem within_zero {l : List Bd} (hok : ∀ b ∈ l, okB b = true) : Within l (List.replicate l.length 0) :=
  ⟨by simp, fun i hi => by
    have := qty_nn hok hi
    rw [List.getElem!_eq_getElem?_getD, List.getElem?_replicate, if_pos hi]
    show (0 : Int) ≤ 0 ∧ (0 : Int) ≤ qtyOf l i
    omega⟩

/-- A sum of a side where one number has turned. -/
theorem side_set {l : List Bd} {O : List Int} {side : Int} {k : Nat} {y : Int} (hl : O.length = l.length) (hk : k < l.length) : sideSum l (O.set k y) side l.length = sideSum l O side l.length + if (l[k]!).1 = side then y - O[k]! else 0 := by
  rw [side_sumN, side_sumN]
  have e := sumN_at (fun i => if (l[i]!).1 = side then O[i]! else 0) (fun i => if (l[i]!).1 = side then (O.set k y)[i]! else 0) k l.length hk (fun i _ hne => by
    show (if (l[i]!).1 = side then (O.set k y)[i]! else 0) = if (l[i]!).1 = side then O[i]! else 0
    rw [get!_set (by rw [hl]; exact hk), if_neg (show ¬ k = i from fun e => hne e.symm)])
  rw [e, get!_set (by rw [hl]; exact hk), if_pos rfl]
  split <;> omega

/-- Fills on the way to balance: those behind i of the side that has more are given up. -/
structure Level (l : List Bd) (O : List Int) (b s : Int) (i : Nat) : Prop where
  w : Within l O
  eb : b = sideSum l O 1 l.length
  es : s = sideSum l O 2 l.length
  more : s < b → ∀ j, i ≤ j → j < l.length → (l[j]!).1 = 1 → O[j]! = 0
  less : b < s → ∀ j, i ≤ j → j < l.length → (l[j]!).1 = 2 → O[j]! = 0

theorem Level.done {l : List Bd} {O : List Int} {b s : Int} (h : Level l O b s 0) : b = s := by
  have z : ∀ side, (∀ j, j < l.length → (l[j]!).1 = side → O[j]! = 0) → sideSum l O side l.length = 0 := fun side hz => by
    rw [side_sumN, sumN_congr (g := fun _ => 0) _ (fun i hi => by split; exact hz i hi ‹_›; rfl)]
    have : ∀ n, sumN n (fun _ => (0 : Int)) = 0 := fun n => by
      induction n with
      | zero => simp [sumN]
      | succ n ih => rw [sumN_succ, ih]; omega
    exact this _
  have nn : ∀ side, 0 ≤ sideSum l O side l.length := fun side => by
    have : ∀ n, n ≤ l.length → 0 ≤ sumN n (fun i => if (l[i]!).1 = side then O[i]! else 0) := fun n => by
      induction n with
      | zero => intro _; simp [sumN]
      | succ n ih =>
        intro hn
        have h1 := ih (by omega)
        have h2 := (h.w.bd n (by omega)).1
        rw [sumN_succ]
        split <;> omega
    rw [side_sumN]
    exact this _ (Nat.le_refl _)
  rcases Int.lt_trichotomy b s with h1 | h1 | h1
  · have := z 2 (fun j hj hs => h.less h1 j (by omega) hj hs)
    have := nn 1
    have := h.eb
    have := h.es
    omega
  · exact h1
  · have := z 1 (fun j hj hs => h.more h1 j (by omega) hj hs)
    have := nn 2
    have := h.eb
    have := h.es
    omega

theorem Level.keep {l : List Bd} {O : List Int} {b s : Int} {i : Nat} (h : Level l O b s (i + 1)) (h1 : s < b → (l[i]!).1 ≠ 1) (h2 : b < s → (l[i]!).1 ≠ 2) : Level l O b s i :=
  ⟨h.w, h.eb, h.es, fun hc j hj hjl hs => by
    rcases Nat.lt_or_ge i j with h3 | h3
    · exact h.more hc j (by omega) hjl hs
    · have : j = i := by omega
      subst this
      exact absurd hs (h1 hc), fun hc j hj hjl hs => by
    rcases Nat.lt_or_ge i j with h3 | h3
    · exact h.less hc j (by omega) hjl hs
    · have : j = i := by omega
      subst this
      exact absurd hs (h2 hc)⟩

theorem Level.buy {l : List Bd} {O : List Int} {b s x n : Int} {i : Nat} (h : Level l O b s (i + 1)) (hi : i < l.length) (hs : (l[i]!).1 = 1) (hc : s < b) (hx : O[i]! = x) (hn : n = min (b - s) x) : Level l (O.set i (x - n)) (b - n) s i := by
  have hb := h.w.bd i hi
  rw [hx] at hb
  refine ⟨h.w.set (by omega) (by omega), ?_, ?_, fun hc2 j hj hjl hsj => ?_, fun hc2 => by omega⟩
  · rw [side_set h.w.len hi, if_pos hs, ← h.eb, hx]; omega
  · rw [side_set h.w.len hi, if_neg (by omega), ← h.es]; omega
  · rw [get!_set (by rw [h.w.len]; exact hi)]
    by_cases e : i = j
    · rw [if_pos e]; omega
    · rw [if_neg e]; exact h.more hc j (by omega) hjl hsj

theorem Level.sell {l : List Bd} {O : List Int} {b s x n : Int} {i : Nat} (h : Level l O b s (i + 1)) (hi : i < l.length) (hs : (l[i]!).1 = 2) (hc : b < s) (hx : O[i]! = x) (hn : n = min (s - b) x) : Level l (O.set i (x - n)) b (s - n) i := by
  have hb := h.w.bd i hi
  rw [hx] at hb
  refine ⟨h.w.set (by omega) (by omega), ?_, ?_, fun hc2 => by omega, fun hc2 j hj hjl hsj => ?_⟩
  · rw [side_set h.w.len hi, if_neg (by omega), ← h.eb]; omega
  · rw [side_set h.w.len hi, if_pos hs, ← h.es, hx]; omega
  · rw [get!_set (by rw [h.w.len]; exact hi)]
    by_cases e : i = j
    · rw [if_pos e]; omega
    · rw [if_neg e]; exact h.less hc j (by omega) hjl hsj

theorem gainR_within {l : List Bd} {O : List Int} (h0 : checkT l = 0) (h : Within l O) : gainR l O = (gainN l O, 0) := by
  have hf : (l.zip O).all fitB = true := by
    rw [List.all_eq_true]
    intro z hz
    obtain ⟨i, hi, rfl⟩ := List.getElem_of_mem hz
    have hl := h.len
    rw [List.length_zip] at hi
    rw [List.getElem_zip]
    have hb := h.bd i (by omega)
    unfold qtyOf at hb
    rw [getElem!_pos l i (by omega), getElem!_pos O i (by omega)] at hb
    unfold fitB
    exact decide_eq_true hb
  unfold gainR
  rw [if_neg (by omega), if_pos ⟨h.len, hf⟩, gainT_eq h.len]

theorem rem_in (x q : Int) (h1 : 1 ≤ q) (h2 : q ≤ 1000000000) : 0 ≤ wrap64 ((IntKind.u64.wrap x).tmod (q + 1)) ∧ wrap64 ((IntKind.u64.wrap x).tmod (q + 1)) ≤ q := by
  have h0 : 0 ≤ IntKind.u64.wrap x := by
    have : IntKind.u64.wrap x = x % 18446744073709551616 := by simp [IntKind.wrap, IntKind.signed, IntKind.bits]
    omega
  have k1 := Int.tmod_nonneg (q + 1) h0
  have k2 := Int.tmod_lt_of_pos (IntKind.u64.wrap x) (show 0 < q + 1 by omega)
  generalize (IntKind.u64.wrap x).tmod (q + 1) = y at *
  unfold wrap64
  omega

set_option maxRecDepth 100000 in
set_option maxHeartbeats 8000000 in
theorem greatest_any (p : Option Addr) (cap : Nat) (l : List Bd) (fp : Option Addr) (fcap : Nat) (fl : List Int) (r0 : Int) (w : World) (hcap : l.length ≤ cap) (hcm : cap ≤ maxLen) (hp : p = none → cap = 0) (hL : At3 w p l) (hfl : fl.length ≤ maxLen) (hF : At1 .i64 w fp fl) :
    Calls Try.prog 10 #[.slice p l.length cap, .slice fp fl.length fcap, .int .i64 r0] w fun e w' => e = .returned (.bool true) ∧ Adds w w' := by
  obtain ⟨j0, hj, hj0, hj1, hj2⟩ := info_parts info2
  have HJ := Lib.hid hj
  have HJ0 := Lib.hid hj0
  have HJ1 := Lib.hid hj1
  have HJ2 := Lib.hid hj2
  have htame := tame_any p cap l 30 w hcap hcm hp (by omega) hL
  obtain ⟨L, hLd⟩ : ∃ L, L = tameL l 30 := ⟨_, rfl⟩
  have hok : ∀ b ∈ L, okB b = true := by rw [hLd]; exact tameL_ok l 30
  have hLn : L.length ≤ 30 := by rw [hLd, tameL_len]; omega
  rw [← hLd] at htame
  obtain ⟨n, hn⟩ : ∃ n, n = L.length := ⟨_, rfl⟩
  obtain ⟨M, hM⟩ : ∃ M, M = fl.length := ⟨_, rfl⟩
  have HN := Lib.hid hn
  have HMF := Lib.hid hM
  have HOK := Lib.hid hok
  have HFL := Lib.hid hF
  have hn30 : n ≤ 30 := by omega
  have hMl : M ≤ maxLen := by omega
  have HC1 : Hid (checkT L = 0) := Lib.hid (check_zero.2 ⟨by omega, hok⟩)
  have hgv1 : Hid (∀ q qc W, At3 W q L → Calls Try.prog 16 #[.slice q n qc] W (OwnGot 75 L W)) := Lib.hid (fun q qc W hW => by rw [hn]; exact give_any q qc L W (by omega) hW)
  have hcl : Hid (∀ q qc W, At3 W q L → Calls Try.prog 22 #[.slice q n qc, .int .i64 50, .int .i64 (wrap64 (1 + wrap64 ((IntKind.u64.wrap r0).tmod 2)))] W (ClearGot (PriceAt L 50) L (tnum r0 2) W)) := Lib.hid (fun q qc W hW => by rw [hn]; exact Clear_tame q qc L 50 (tnum r0 2) W (by omega) hok (by omega) (rule_in r0) hW)
  have hrg : Hid (∀ q qc W, At3 W q L → Calls Try.prog 38 #[.slice q n qc] W (GreatGot L W)) := Lib.hid (fun q qc W hW => by rw [hn]; exact RGreatest_any q qc L W (by omega) hW hok)
  have HTM := Lib.hid htame
  rw [← hM]
  generalize l.length = N1 at *
  unfold maxLen at hMl
  clear htame hLd hok hLn hn hL hcap hcm hp hF hM hfl hj hj0 hj1 hj2
  go_enter Try.func10, Try.ntmps10
  go_upto_region 3 with (first
    | (go_at_call 26; refine HTM.out.mono ?_; rintro e w1 ⟨v5, rfl, hro, hb1⟩; obtain ⟨p5, c5, rfl, ha5, _⟩ := own_at3 hro; have HB1 := Lib.hid hb1; have HA5 := Lib.hid ha5; rw [← HN.out]; clear hro ha5 hb1)
    | (go_at_call 16; refine (hgv1.out _ _ _ HA5.out).mono ?_; rintro e w2 ⟨v6, rfl, hro, hb2⟩; obtain ⟨p6, c6, rfl, ha6, _⟩ := own_at3 hro; have HB2 := Lib.hid (HB1.out.trans hb2); have HA6 := Lib.hid ha6; have HA5' := Lib.hid (HA5.out.later hb2); rw [← HN.out]; clear hro ha6 hb2)
    | (go_at_call 22; refine (hcl.out _ _ _ HA6.out).mono ?_; rintro e w3 ⟨px, v, sr, fv, er, hres, rfl, hb3⟩; obtain ⟨q3, n3, c3, rfl⟩ := hres.slice; have HRES := Lib.hid hres; have HB3 := Lib.hid (HB2.out.trans hb3); have HA3 := Lib.hid (HA5'.out.later hb3); clear hres hb3))
  obtain ⟨W4, hW4⟩ : ∃ V, V = w3.alloc (.cells #[.int .i64 px, .int .i64 v, .int .i64 sr, .slice q3 n3 c3] 38) := ⟨_, rfl⟩
  obtain ⟨b, hb⟩ : ∃ b, b = w3.heap.size := ⟨_, rfl⟩
  have x3' : W4.cell? ⟨b, 3, none⟩ = some (.slice q3 n3 c3) := by rw [hW4, hb]; exact (Box.new w3 #[.int .i64 px, .int .i64 v, .int .i64 sr, .slice q3 n3 c3] 38).cell 3
  have A34 : Hid (Adds w3 W4) := Lib.hid (by rw [hW4]; exact (Adds.refl _).alloc _)
  have HB4 := Lib.hid (HB3.out.trans A34.out)
  have HA4 := Lib.hid (HA3.out.later A34.out)
  rw [← hW4, ← hb]
  clear hW4 hb HTM
  by_cases hz : er = 0
  · subst hz
    obtain ⟨hP, hv, -, -, g, F, -, hFok, hfv, -, hrow⟩ := HRES.out.yes rfl
    simp only [Value.slice.injEq] at hfv
    obtain ⟨rfl, rfl, rfl⟩ := hfv
    rw [← HN.out] at x3' hrow ⊢
    rw [hv] at hFok
    have HBA := Lib.hid hP.few.1
    have HFO := Lib.hid hFok
    have HROW := Lib.hid (hrow.later A34.out)
    obtain ⟨gn, hgn⟩ : ∃ z, z = gainN L F := ⟨_, rfl⟩
    have HGN := Lib.hid hgn
    have hgc1 : Hid (∀ q qc W, At3 W q L → At1 .i64 W (some ⟨g, 0, none⟩) F → Calls Try.prog 24 #[.slice q n qc, .slice (some ⟨g, 0, none⟩) n n] W fun e w' => e = .returned (.tuple #[.int .i64 gn, .int .i64 0]) ∧ Adds W w') := Lib.hid (fun q qc W h1 h2 => by
      have hl := hFok.len
      have := Gain_any q qc L (some ⟨g, 0, none⟩) n F W (by rw [← HN.out]; unfold maxLen; omega) (by rw [hl, ← HN.out]; unfold maxLen; omega) h1 h2
      unfold GainGot at this
      rw [gainR_ok HC1.out hFok, hl, ← HN.out, ← hgn] at this
      exact this)
    clear hP hv hFok hrow HRES hgn
    go_upto_region 5 with fail
    go_cut [10, 11] (fun s10 s11 wc => s10 = .int .i64 gn ∧ s11 = .int .i64 0 ∧ Hid (Adds W4 wc))
    case first => as_aux_lemma =>
      go_region_law (first
        | (go_simp; go_at_call 16; refine (hgv1.out _ _ _ (HA4.out.later (by first | exact Adds.refl _ | exact (Adds.refl _).drew))).mono ?_; rintro e w14 ⟨v, rfl, ho, hb⟩; obtain ⟨q14, k14, rfl, ha14, _⟩ := own_at3 ho; rw [← HN.out]; have HA14 := Lib.hid ha14; have HT14 : Hid (Adds W4 w14) := Lib.hid (Adds.trans (by first | exact Adds.refl _ | exact (Adds.refl _).drew) hb); have y1 := keep_cell HT14.out x3'; clear ho ha14 hb)
        | (go_simp; go_at_call 24; refine (hgc1.out _ _ _ (HA14.out) (HROW.out.later HT14.out).at1).mono ?_; rintro e w15 ⟨rfl, hb⟩; have HT15 := Lib.hid (HT14.out.trans hb); clear hb))
      all_goals
        go_wp2_with fail
        go_meet
        exact ⟨rfl, rfl, HT15⟩
    case rest => as_aux_lemma =>
      obtain ⟨rfl, rfl, HTC⟩ := hcut
      rename World => W5
      clear x3'
      have HA5c := Lib.hid (HA4.out.later HTC.out)
      go_upto_region 8 with (go_at_call 38; refine (hrg.out _ _ _ HA5c.out).mono ?_; rintro e w6 ⟨A, hA1, hA2, rfl, hb⟩; have HGA := Lib.hid ((greedy_best HOK.out hA1 hA2 HBA.out HFO.out).trans HGN.out.symm); have HB6 := Lib.hid hb; rw [HGA.out]; clear hA1 hA2 hb)
      have A56 : Hid (Adds w w6) := Lib.hid ((HB4.out.trans HTC.out).trans HB6.out)
      go_upto_region 9 with (refine wpList_make_full _ rfl _ _ 36 rfl w6.heap.size 2 j0 (.int .i64 0) 1 Try.underlying36 HJ.out HJ0.out HJ1.out .i64 .i64 (n : Int) (n : Int) n rfl rfl rfl rfl (by rw [HJ2.out]; omega) (by unfold maxLen; omega) (Nat.le_refl _) ?_; intro w7 ho hg; have HO := Lib.hid (made_rowI ho); have HA7 : Hid (Adds w6 w7) := Lib.hid ⟨hg.os, hg.tape, hg.output, hg.size, fun k hk => hg.block k hk (by simp)⟩; clear ho hg)
      obtain ⟨bo, hbo⟩ : ∃ b, b = w6.heap.size := ⟨_, rfl⟩
      have HBO : Hid (w6.heap.size ≤ bo) := Lib.hid (by omega)
      rw [← hbo] at HO ⊢
      have HA5d := Lib.hid (HA5c.out.later HB6.out)
      have HF6 := Lib.hid (HFL.out.later A56.out)
      have HW0 := Lib.hid (within_zero HOK.out)
      have HO' : Hid (RowI 2 .i64 w7 bo n (List.replicate L.length 0)) := Lib.hid (by rw [← HN.out]; exact HO.out)
      clear hbo HO
      go_upto_block 0 with fail
      go_cut [] (fun wc => ∃ O : List Int, Hid (Within L O) ∧ Hid (RowI 2 .i64 wc bo n O) ∧ Hid (Adds w6 wc))
      case first => as_aux_lemma =>
        go_wp2_with fail
        go_loopw [13] (fun i wr => ∃ (k : Nat) (O : List Int), k ≤ n ∧ i = .int .i64 k ∧ Hid (Within L O) ∧ Hid (RowI 2 .i64 wr bo n O) ∧ Hid (Adds w6 wr)) (fun i _ => n - (intOf i).toNat)
        case atStart => exact ⟨0, _, by omega, rfl, HW0, HO', HA7⟩
        case round =>
          obtain ⟨j, O, hj, rfl, hW, hrj, hbj⟩ := hrel
          clear HW0 HO'
          by_cases hjn : j < n
          · obtain ⟨⟨s, pp, qq⟩, hb3⟩ : ∃ t, L[j]? = some t := ⟨_, List.getElem?_eq_getElem (by have := HN.out; omega)⟩
            obtain ⟨old, hold⟩ : ∃ t, O[j]? = some t := ⟨_, List.getElem?_eq_getElem (by have := hW.out.len; have := HN.out; omega)⟩
            have hv := okB_iff.1 (HOK.out _ (List.mem_of_getElem? hb3))
            obtain ⟨gg, off, rfl, d0, d1, d2⟩ := HA5d.out j _ hb3
            have c2 := keep_cell hbj.out d2
            have o0 := hrj.out.cell hold
            have o1 := hrj.out.free j
            have HPUT : Hid (∀ y, RowI 2 .i64 (wr.setCell ⟨bo, j, none⟩ (.int .i64 y)) bo n (O.set j y)) := Lib.hid (fun y => hrj.out.put j y)
            simp only at c2 hv
            obtain ⟨_, _, hv1, hv2⟩ := hv
            have hqj : qtyOf L j = qq := by unfold qtyOf; rw [get!_some hb3]
            have HQJ := Lib.hid hqj
            have hw1 : IntKind.i64.wrap (qq + 1) = qq + 1 := IntWalk.i64_in _ ⟨by omega, by omega⟩
            have hw2 : IntKind.u64.wrap (qq + 1) = qq + 1 := by
              have e2 : IntKind.u64.wrap (qq + 1) = (qq + 1) % 18446744073709551616 := by simp [IntKind.wrap, IntKind.signed, IntKind.bits]
              rw [e2]
              omega
            have hq1 : ¬ (qq + 1 = 0) := by omega
            have hq2 : ((qq + 1) == 0) = false := beq_eq_false_iff_ne.2 (by omega)
            have hjlt : (j : Int) < (n : Int) := by omega
            clear hb3 hold d0 d1 d2 hqj
            by_cases hj0 : j < M
            · obtain ⟨x, hx⟩ : ∃ t, fl[j]? = some t := ⟨_, List.getElem?_eq_getElem (by have := HMF.out; omega)⟩
              obtain ⟨g2, off2, he, e0⟩ := HF6.out j _ hx
              subst he
              have cx := keep_cell hbj.out e0
              have hj0' : (j : Int) < (M : Int) := by omega
              have HRM := Lib.hid (rem_in x qq hv1 hv2)
              clear hx e0
              go_upto_region 12 with fail
              go_still_tail 17, (by kernel_rfl)
              change wpList _ _ _ _ _ wr.drew
              go_wp2
              refine ⟨⟨j + 1, O.set j (wrap64 ((IntKind.u64.wrap x).tmod (qq + 1))), by omega, by go_num, Lib.hid (hW.out.set HRM.out.1 (by rw [HQJ.out]; exact HRM.out.2)), Lib.hid ((HPUT.out _).same rfl), Lib.hid (hbj.out.set HBO.out _).drew⟩, by simp [intOf]; omega⟩
            · have hj0' : ¬ ((j : Int) < (M : Int)) := by omega
              go_wp2
              go_meet
              exact ⟨O, hW, hrj, hbj⟩
          · have hjn2 : j = n := by omega
            subst hjn2
            go_wp2
            go_meet
            exact ⟨O, hW, hrj, hbj⟩
      case rest => as_aux_lemma =>
        obtain ⟨O, hW, hrO, hbO⟩ := hcut
        rename World => w8
        clear HW0 HO' HA7
        have hl := hW.out.len
        have hsm : Hid (Calls Try.prog 37 #[.slice p5 n c5, .slice (some ⟨bo, 0, none⟩) n n] w8 fun e w' => e = .returned (.tuple #[.int .i64 (sideSum L O 1 L.length), .int .i64 (sideSum L O 2 L.length)]) ∧ w8 = w') := Lib.hid (by
          have := sums_any p5 c5 L (some ⟨bo, 0, none⟩) n O w8 (by have := HN.out; omega) hl (HA5d.out.later hbO.out) hrO.out.at1 HOK.out (fun i hi => by have h1 := hW.out.bd i hi; have h2 := qty_of HOK.out hi; omega)
          rw [hl, ← HN.out] at this
          rw [← HN.out]
          exact this)
        have HLV : Hid (Level L O (sideSum L O 1 L.length) (sideSum L O 2 L.length) n) := Lib.hid ⟨hW.out, rfl, rfl, fun _ j h1 h2 => by have := HN.out; omega, fun _ j h1 h2 => by have := HN.out; omega⟩
        generalize sideSum L O 1 L.length = b0 at hsm HLV
        generalize sideSum L O 2 L.length = s0 at hsm HLV
        clear hW hl
        go_upto_region 14 with (go_at_call 37; refine hsm.out.mono ?_; rintro e w9 ⟨rfl, rfl⟩)
        go_wp2_with fail
        go_loopw [14, 15, 16] (fun v14 v15 v16 wr => ∃ (m : Nat) (O : List Int) (b s z : Int), v14 = .int .i64 b ∧ v15 = .int .i64 s ∧ v16 = .int .i64 z ∧ z = (m : Int) - 1 ∧ m ≤ n ∧ Hid (Level L O b s m) ∧ Hid (RowI 2 .i64 wr bo n O) ∧ Hid (Adds w6 wr)) (fun _ _ i _ => (intOf i + 1).toNat)
        case atStart => exact ⟨n, O, b0, s0, (n : Int) - 1, rfl, rfl, by go_num, rfl, Nat.le_refl _, HLV, hrO, hbO⟩
        case round =>
          obtain ⟨m, O, b, s, z, rfl, rfl, rfl, hz, hm, HLV, hrO, hbO⟩ := hrel
          by_cases hm0 : m = 0
          · subst hm0
            have hz0 : z < 0 := by omega
            have hz1 : ¬ (0 ≤ z) := by omega
            clear hz
            have hbs := HLV.out.done
            subst hbs
            have hbal := HLV.out.eb.symm.trans HLV.out.es
            have hle := fill_max HOK.out HBA.out HFO.out HLV.out.w.bd hbal
            rw [← HGN.out] at hle
            obtain ⟨hn2, hhn⟩ : ∃ z, z = gainN L O := ⟨_, rfl⟩
            rw [← hhn] at hle
            have hgc2 : Hid (∀ q qc W, At3 W q L → At1 .i64 W (some ⟨bo, 0, none⟩) O → Calls Try.prog 24 #[.slice q n qc, .slice (some ⟨bo, 0, none⟩) n n] W fun e w' => e = .returned (.tuple #[.int .i64 hn2, .int .i64 0]) ∧ Adds W w') := Lib.hid (fun q qc W h1 h2 => by
              have hl := HLV.out.w.len
              have := Gain_any q qc L (some ⟨bo, 0, none⟩) n O W (by rw [← HN.out]; unfold maxLen; omega) (by rw [hl, ← HN.out]; unfold maxLen; omega) h1 h2
              unfold GainGot at this
              rw [gainR_within HC1.out HLV.out.w, hl, ← HN.out, ← hhn] at this
              exact this)
            have HA9 := Lib.hid (HA5d.out.later hbO.out)
            clear hbal hhn
            go_wp2_with (first
              | (go_at_call 16; refine (hgv1.out _ _ _ HA9.out).mono ?_; rintro e w14 ⟨v, rfl, ho, hb⟩; obtain ⟨q14, k14, rfl, ha14, _⟩ := own_at3 ho; rw [← HN.out]; have HA14 := Lib.hid ha14; have HT14 := Lib.hid hb; clear ho ha14 hb)
              | (go_at_call 24; refine (hgc2.out _ _ _ HA14.out (hrO.out.later HT14.out).at1).mono ?_; rintro e w15 ⟨rfl, hb⟩; have HT15 := Lib.hid hb; clear hb)
              | (go_at_call 18; refine (awake_any _).mono ?_; rintro e w16 ⟨rfl, hb⟩; have HT16 := Lib.hid hb; clear hb))
            first | (go_ret; exact ⟨rfl, (((A56.out.trans hbO.out).trans HT14.out).trans HT15.out).trans HT16.out⟩) | (go_ret2; exact ⟨rfl, (((A56.out.trans hbO.out).trans HT14.out).trans HT15.out).trans HT16.out⟩)
          · obtain ⟨k, rfl⟩ : ∃ k, m = k + 1 := ⟨m - 1, by omega⟩
            have hzk : z = (k : Int) := by omega
            subst hzk
            have hkn : k < n := by omega
            have hkL : Hid (k < L.length) := Lib.hid (by rw [← HN.out]; exact hkn)
            obtain ⟨⟨sd, pp, qq⟩, hb3⟩ : ∃ t, L[k]? = some t := ⟨_, List.getElem?_eq_getElem hkL.out⟩
            obtain ⟨x, hx⟩ : ∃ t, O[k]? = some t := ⟨_, List.getElem?_eq_getElem (by rw [HLV.out.w.len]; exact hkL.out)⟩
            have hsd := side_of HOK.out hkL.out
            have hls : (L[k]!).1 = sd := by rw [get!_some hb3]
            rw [hls] at hsd
            have HLS := Lib.hid hls
            have hOx : O[k]! = x := by rw [List.getElem!_eq_getElem?_getD, hx]; rfl
            have HOX := Lib.hid hOx
            have hxb := HLV.out.w.bd k hkL.out
            have hqb := qty_of HOK.out hkL.out
            rw [hOx] at hxb
            have hx0 : 0 ≤ x := by omega
            have hx1 : x ≤ 1000000000 := by omega
            have hbd : ∀ i, i < L.length → 0 ≤ O[i]! ∧ O[i]! ≤ 1000000000 := fun i hi => by have h1 := HLV.out.w.bd i hi; have h2 := qty_of HOK.out hi; omega
            have t1 := sideSum_bd (l := L) (F := O) (side := 1) L.length hbd
            have t2 := sideSum_bd (l := L) (F := O) (side := 2) L.length hbd
            rw [← HLV.out.eb, ← HN.out] at t1
            rw [← HLV.out.es, ← HN.out] at t2
            have hn30' : (n : Int) ≤ 30 := by omega
            obtain ⟨b1, b2'⟩ := t1
            obtain ⟨s1, s2'⟩ := t2
            have b2 : b ≤ 30000000000 := by omega
            have s2 : s ≤ 30000000000 := by omega
            obtain ⟨gg, off, rfl, d0, d1, d2⟩ := HA5d.out k _ hb3
            have c0 := keep_cell hbO.out d0
            have o0 := hrO.out.cell hx
            have o1 := hrO.out.free k
            have HPUT : Hid (∀ y, RowI 2 .i64 (wr.setCell ⟨bo, k, none⟩ (.int .i64 y)) bo n (O.set k y)) := Lib.hid (fun y => hrO.out.put k y)
            have hklt : (k : Int) < (n : Int) := by omega
            have hk0 : 0 ≤ (k : Int) := by omega
            simp only at c0
            have HC0 : ∀ y, (wr.setCell ⟨bo, k, none⟩ y).cell? _ = _ := fun y => keep_cell (hbO.out.set HBO.out y) d0
            simp only at HC0
            have HSET : Hid (∀ y, Adds w6 (wr.setCell ⟨bo, k, none⟩ y)) := Lib.hid (fun y => hbO.out.set HBO.out y)
            clear hb3 hx hls hOx hxb hqb hbd b2' s2' d0 d1 d2 hm0 hz hm
            by_cases hsb : s < b
            · have q1 : ¬ b < s := by omega
              rcases hsd with rfl | rfl
              · by_cases hmn : b - s ≤ x
                · have q2 : min (b - s) x = b - s := by omega
                  go_wp2_with fail
                  exact ⟨⟨k, O.set k (x - (b - s)), b - (b - s), s, (k : Int) - 1, rfl, rfl, by first | rfl | go_num, rfl, by omega, Lib.hid (HLV.out.buy hkL.out HLS.out hsb HOX.out (by omega)), Lib.hid (HPUT.out _), Lib.hid (HSET.out _)⟩, by simp [intOf]⟩
                · have q2 : min (b - s) x = x := by omega
                  go_wp2_with fail
                  exact ⟨⟨k, O.set k 0, b - x, s, (k : Int) - 1, rfl, rfl, by first | rfl | go_num, rfl, by omega, Lib.hid (by have hh := HLV.out.buy (n := x) hkL.out HLS.out hsb HOX.out (by omega); rwa [Int.sub_self] at hh), Lib.hid (HPUT.out _), Lib.hid (HSET.out _)⟩, by simp [intOf]⟩
              · skip
                go_wp2_with fail
                exact ⟨⟨k, O, b, s, (k : Int) - 1, rfl, rfl, by first | rfl | go_num, rfl, by omega, Lib.hid (HLV.out.keep (fun _ => by rw [HLS.out]; omega) (fun h => absurd h q1)), hrO, hbO⟩, by simp [intOf]⟩
            · rcases hsd with rfl | rfl
              · skip
                go_wp2_with fail
                exact ⟨⟨k, O, b, s, (k : Int) - 1, rfl, rfl, by first | rfl | go_num, rfl, by omega, Lib.hid (HLV.out.keep (fun h => absurd h hsb) (fun _ => by rw [HLS.out]; omega)), hrO, hbO⟩, by simp [intOf]⟩
              · by_cases hsc : b < s
                · by_cases hmn : s - b ≤ x
                  · have q2 : min (s - b) x = s - b := by omega
                    go_wp2_with fail
                    exact ⟨⟨k, O.set k (x - (s - b)), b, s - (s - b), (k : Int) - 1, rfl, rfl, by first | rfl | go_num, rfl, by omega, Lib.hid (HLV.out.sell hkL.out HLS.out hsc HOX.out (by omega)), Lib.hid (HPUT.out _), Lib.hid (HSET.out _)⟩, by simp [intOf]⟩
                  · have q2 : min (s - b) x = x := by omega
                    go_wp2_with fail
                    exact ⟨⟨k, O.set k 0, b, s - x, (k : Int) - 1, rfl, rfl, by first | rfl | go_num, rfl, by omega, Lib.hid (by have hh := HLV.out.sell (n := x) hkL.out HLS.out hsc HOX.out (by omega); rwa [Int.sub_self] at hh), Lib.hid (HPUT.out _), Lib.hid (HSET.out _)⟩, by simp [intOf]⟩
                · skip
                  go_wp2_with fail
                  exact ⟨⟨k, O, b, s, (k : Int) - 1, rfl, rfl, by first | rfl | go_num, rfl, by omega, Lib.hid (HLV.out.keep (fun h => absurd h hsb) (fun h => absurd h hsc)), hrO, hbO⟩, by simp [intOf]⟩
  · obtain ⟨rfl, rfl, rfl, rfl, hfv, x, hPx, hx0⟩ := HRES.out.no hz
    simp only [Value.slice.injEq] at hfv
    obtain ⟨rfl, rfl, rfl⟩ := hfv
    have HV : Hid (∀ y, InR y → volAt L y ≤ 0) := Lib.hid (fun y hy => by have := hPx.few.1.2 y hy; omega)
    clear hz hPx hx0
    go_wp2_with (first
      | (go_at_call 38; refine (hrg.out _ _ _ HA4.out).mono ?_; rintro e w5 ⟨A, hA1, _, rfl, hb⟩; have HZ := Lib.hid (greedy_none HOK.out hA1 HV.out); rw [HZ.out]; have HB5 := Lib.hid hb; clear hA1 hb)
      | (go_at_call 18; refine (awake_any _).mono ?_; rintro e w6 ⟨rfl, hb⟩; have HB6 := Lib.hid hb; clear hb))
    go_ret
    exact ⟨rfl, (HB4.out.trans HB5.out).trans HB6.out⟩

end Go.Proofs.Ytigpghmbeldakaa
