/- CallSplits' walk. -/
import Derived.Test.YtigpghmbeldakaaBZ
import Derived.Test.YtigpghmbeldakaaAA
import Derived.Test.YtigpghmbeldakaaBI
import Derived.Deep.DeepCutAuto
import Derived.Deep.CutBlock
namespace Go.Proofs.Ytigpghmbeldakaa
open Go.RowKit

theorem own_ints {t : TypeId} {k : IntKind} {w : World} {base n : Nat} {v : Value} {l : List Int} (h : w.ownsRow base t 1 v n (l.map (Value.int k))) : ∃ p cap, v = .slice p l.length cap ∧ At1 k w p l ∧ l.length ≤ cap ∧ cap ≤ maxLen ∧ (p = none → cap = 0) := by
  rcases (own_rowI h).2 with ⟨hv, hn⟩ | ⟨g, cap, hv, _, hr⟩
  · subst hn
    exact ⟨none, 0, hv, (fun i x hx => by simp at hx), by simp, by simp [maxLen], fun _ => rfl⟩
  · exact ⟨some ⟨g, 0, none⟩, cap, hv, hr.at1, hr.len.1, hr.len.2, fun h => by cases h⟩

theorem own_cut {t : TypeId} {k : IntKind} {w : World} {base n c : Nat} {p : Option Addr} {l : List Int} (h : w.ownsRow base t 1 (.slice p n c) n (l.map (Value.int k))) (m : Nat) (hm : m ≤ n) : w.ownsRow base t 1 (.slice p m c) m ((l.take m).map (Value.int k)) := by
  obtain ⟨hn, h2⟩ := own_rowI h
  rcases h2 with ⟨hv, hl⟩ | ⟨g, cap, hv, hb, hr⟩
  · subst hl
    simp only [Value.slice.injEq] at hv
    obtain ⟨rfl, rfl, rfl⟩ := hv
    have : m = 0 := by omega
    subst this
    exact World.ownsRow_nil _ _ _ _
  · simp only [Value.slice.injEq] at hv
    obtain ⟨rfl, hnl, rfl⟩ := hv
    have hr2 : RowI t k w g c (l.take m) := RowI.pre (m := l.drop m) (by rw [List.take_append_drop]; exact hr)
    have := hr2.own hb
    rw [List.length_take, Nat.min_eq_left (by omega)] at this
    exact this

theorem own_later {t : TypeId} {k : IntKind} {w w' : World} {base n : Nat} {v : Value} {l : List Int} (h : w.ownsRow base t 1 v n (l.map (Value.int k))) (hb : Adds w w') : w'.ownsRow base t 1 v n (l.map (Value.int k)) := by
  obtain ⟨hn, h2⟩ := own_rowI h
  subst hn
  rcases h2 with ⟨hv, hl⟩ | ⟨g, cap, hv, hg, hr⟩
  · subst hl
    subst hv
    exact World.ownsRow_nil _ _ _ _
  · subst hv
    exact (hr.later hb).own hg

theorem at1_cells {k : IntKind} {w : World} {a : Addr} {l : List Int} (h : At1 k w (some a) l) : ∀ j u, (l.map (Value.int k))[j]? = some u → w.cell? (a.add j) = some u := by
  intro j u hu
  rw [List.getElem?_map] at hu
  obtain ⟨x, hx, rfl⟩ := Option.map_eq_some_iff.1 hu
  obtain ⟨g, off, e, c⟩ := h j x hx
  cases e
  have hadd : (⟨g, off, none⟩ : Addr).add j = ⟨g, off + j, none⟩ := by unfold Addr.add; split <;> simp_all
  rw [hadd]
  exact c

/-- Numbers of the law's own. -/
def OwnI (B : Nat) (W : World) (v : Value) : Prop := ∃ O : List Int, (O.length ≤ 40 ∨ 4096 < O.length ∧ O.length ≤ 4097) ∧ W.ownsRow B 2 1 v O.length (O.map (Value.int .i64))

/-- A number below m. -/
def unum (x m : Int) : Int := wrap64 ((IntKind.u64.wrap x).tmod m)
theorem unum_in (x m : Int) (h1 : 1 ≤ m) (h2 : m ≤ 1000000) : 0 ≤ unum x m ∧ unum x m < m := by
  have h0 : 0 ≤ IntKind.u64.wrap x := by
    have : IntKind.u64.wrap x = x % 18446744073709551616 := by simp [IntKind.wrap, IntKind.signed, IntKind.bits]
    omega
  have h3 : (IntKind.u64.wrap x).tmod m = IntKind.u64.wrap x % m := Int.tmod_eq_emod_of_nonneg h0
  have h4 := Int.emod_nonneg (IntKind.u64.wrap x) (show m ≠ 0 by omega)
  have h5 := Int.emod_lt_of_pos (IntKind.u64.wrap x) (show 0 < m by omega)
  unfold unum
  rw [h3]
  have : wrap64 (IntKind.u64.wrap x % m) = IntKind.u64.wrap x % m := IntWalk.wrap64_in _ (by omega)
  rw [this]
  exact ⟨h4, h5⟩

set_option maxRecDepth 100000 in
set_option maxHeartbeats 4000000 in
theorem splits_any (t0 : Int) (q : Option Addr) (cap2 : Nat) (F0 : List Int) (w : World) (hcap2 : F0.length ≤ cap2) (hcm2 : cap2 ≤ maxLen) (hp2 : q = none → cap2 = 0) (hF : At1 .i64 w q F0) :
    Calls Try.prog 8 #[.int .i64 t0, .slice q F0.length cap2] w fun e w' => e = .returned (.bool true) ∧ Adds w w' := by
  obtain ⟨j0, hj, hj0, hj1, hj2⟩ := info_parts info2
  have HJ := Lib.hid hj
  have HJ0 := Lib.hid hj0
  have HJ1 := Lib.hid hj1
  have HJ2 := Lib.hid hj2
  obtain ⟨N0, hN0⟩ : ∃ N0, N0 = F0.length := ⟨_, rfl⟩
  have HN0 := Lib.hid hN0
  have HF := Lib.hid hF
  have HP2 := Lib.hid hp2
  rw [← hN0] at hcap2 ⊢
  obtain ⟨m1, hm1⟩ : ∃ m, m = min N0 40 := ⟨_, rfl⟩
  obtain ⟨m2, hm2⟩ : ∃ m, m = if 4096 < N0 then 4097 else m1 := ⟨_, rfl⟩
  have hmin : min (N0 : Int) 40 = (m1 : Int) := by omega
  have hm1c : m1 ≤ cap2 := by omega
  have hm2n : m2 ≤ N0 := by rw [hm2]; split <;> omega
  have hm2s : m2 ≤ 40 ∨ 4096 < m2 ∧ m2 ≤ 4097 := by rw [hm2]; split <;> omega
  have HM2S := Lib.hid hm2s
  have HM2 := Lib.hid hm2
  have HM2N := Lib.hid hm2n
  have hcm3 : cap2 ≤ 9223372036854775807 := by unfold maxLen at hcm2; omega
  have HCM := Lib.hid hcm2
  clear hj hj0 hj1 hj2 hN0 hF hp2 hm1 hm2 hm2s hm2n hcm2
  go_enter Try.func8, Try.ntmps8
  go_upto_region 1 with fail
  go_cut [5] (fun s5 wc => s5 = .slice q m1 cap2 ∧ w = wc)
  case first =>
    cases q with
    | none =>
      have hc0 := HP2.out rfl
      subst hc0
      have hz : N0 = 0 := by omega
      subst hz
      have hz2 : m1 = 0 := by omega
      subst hz2
      go_wp2_with fail
      go_meet
      exact ⟨rfl, rfl⟩
    | some a =>
      go_wp2_with fail
      go_meet
      exact ⟨rfl, rfl⟩
  case rest =>
    obtain ⟨rfl, rfl⟩ := hcut
    go_upto_if 22 with fail
    go_cut [5] (fun s5 wc => s5 = .slice q m2 cap2 ∧ w = wc)
    case first =>
      by_cases hbig : 4096 < N0
      · have hm : m2 = 4097 := by rw [HM2.out, if_pos hbig]
        subst hm
        have hbig' : (4096 : Int) < (N0 : Int) := by omega
        cases q with
        | none =>
          have hc0 := HP2.out rfl
          omega
        | some a =>
          go_wp2_with fail
          go_meet
          exact ⟨rfl, rfl⟩
      · have hm : m2 = m1 := by rw [HM2.out, if_neg hbig]
        subst hm
        have hbig' : ¬ (4096 : Int) < (N0 : Int) := by omega
        go_wp2_with fail
        go_meet
        exact ⟨rfl, rfl⟩
    case rest =>
      obtain ⟨rfl, rfl⟩ := hcut
      go_upto_region 5 with fail
      go_cut [6] (fun s6 wc => Hid (OwnI w.heap.size wc s6) ∧ Hid (Adds w wc))
      case first =>
        cases q with
        | none =>
          have hc0 := HP2.out rfl
          subst hc0
          have hz : m2 = 0 := by have := HM2N.out; omega
          subst hz
          go_wp2_with fail
          go_meet
          exact ⟨Lib.hid ⟨[], by simp, World.ownsRow_nil _ _ _ _⟩, Lib.hid (Adds.refl _)⟩
        | some a =>
          have HKL : Hid ((F0.take m2).length = m2) := Lib.hid (by rw [List.length_take, ← HN0.out]; have := HM2N.out; omega)
          have HNW : Hid (∀ W, Adds w W → ∀ j u, ((F0.take m2).map (Value.int .i64))[j]? = some u → W.cell? (a.add j) = some u) := Lib.hid (fun W hW => at1_cells (k := .i64) (fun i x hx => by
            have hx' : F0[i]? = some x := by rw [List.getElem?_take] at hx; split at hx <;> first | exact hx | cases hx
            exact (HF.out.later hW) i x hx'))
          go_wp2_with (at_builtin; ((refine wpList_append_own _ rfl _ _ 36 rfl w.heap.size 2 j0 (.int .i64 0) 1 8 Try.underlying36 HJ.out HJ0.out HJ1.out HJ2.out rfl (by decide) (.slice none 0 0) 0 [] rfl (World.ownsRow_nil _ _ _ _) a m2 cap2 ((F0.take m2).map (Value.int .i64)) rfl (by rw [List.length_map, HKL.out]; omega) (HNW.out _ (Adds.refl _)) (by intro u hu; obtain ⟨x, _, rfl⟩ := List.mem_map.1 hu; rfl) (by have := HM2S.out; unfold maxLen; omega) (by have := HM2S.out; omega) (Nat.le_refl _) ?_); intro va1 w2 hra1 hg1 _; have HR1 := Lib.hid hra1; have HG1 := Lib.hid hg1; clear hra1 hg1))
          go_meet
          exact ⟨Lib.hid ⟨F0.take m2, by rw [HKL.out]; exact HM2S.out, by rw [HKL.out]; have := HR1.out; rw [Nat.zero_add, List.nil_append] at this; exact this⟩, Lib.hid ⟨HG1.out.os, HG1.out.tape, HG1.out.output, HG1.out.size, fun k hk => HG1.out.block k hk (by simp [Value.ownBlock])⟩⟩
      case rest =>
        obtain ⟨HOW, HAD⟩ := hcut
        clear HN0 HF HP2 HM2S HM2 HM2N HCM hmin hm1c hcm3 hcap2
        go_wp2_with fail
        go_loopw [0, 6, 7] (fun v0 v6 v7 wr => ∃ (k : Nat) (T : Int), k ≤ 2 ∧ v7 = .int .i64 k ∧ v0 = .int .i64 T ∧ Hid (OwnI w.heap.size wr v6) ∧ Hid (Adds w wr)) (fun _ _ v7 _ => 2 - (intOf v7).toNat)
        case atStart => exact ⟨0, t0, by omega, rfl, rfl, HOW, HAD⟩
        case round =>
          obtain ⟨k, T, hk, rfl, rfl, hown, hadd⟩ := hrel
          clear HOW HAD
          by_cases hlt : k < 2
          · obtain ⟨O, hOs, hOo⟩ := hown.out
            obtain ⟨p6, c6, rfl, ha6, hl6, hm6, hp6⟩ := own_ints hOo
            obtain ⟨n, hn⟩ : ∃ n, n = O.length := ⟨_, rfl⟩
            have hs34 := fun W (hW : At1 .i64 W p6 O) => Split_any T p6 c6 O W (by omega) hW
            have hs35 := fun W (hW : At1 .i64 W p6 O) => RSplit_any T p6 c6 O W (by omega) hW
            have hAb : ∀ (i : Nat) (x : Int), (splitA T O)[i]? = some x → ∃ z, O[i]? = some z ∧ 0 ≤ x ∧ x ≤ z ∧ x ≤ 1000000000 := fun i x hx => by
              by_cases hE : splitE T O = 0
              · unfold splitA at hx
                rw [if_pos hE] at hx
                have hok : qOk O ∧ 0 ≤ T ∧ T ≤ O.sum := by
                  unfold splitE at hE
                  split at hE
                  · omega
                  · split at hE
                    · assumption
                    · omega
                have hi := (List.getElem?_eq_some_iff.1 hx).1
                rw [shareT_len] at hi
                obtain ⟨y, h1, h2, h3⟩ := share_upto T O hok.2.1 hok.1 i O[i] (List.getElem?_eq_getElem hi)
                unfold shareAll at h1
                rw [Int.min_eq_left hok.2.2, hx] at h1
                cases h1
                have := hok.1 O[i] (List.getElem_mem hi)
                exact ⟨O[i], List.getElem?_eq_getElem hi, h2, h3, by omega⟩
              · unfold splitA at hx
                rw [if_neg hE] at hx
                simp at hx
            have hAs : splitE T O = 0 → (splitA T O).sum = T := fun hE => by
              have hok : qOk O ∧ 0 ≤ T ∧ T ≤ O.sum := by
                unfold splitE at hE
                split at hE
                · omega
                · split at hE
                  · assumption
                  · omega
              have := (share_share T O hok.2.1 hok.1).2.1
              unfold splitA
              rw [if_pos hE]
              unfold shareAll at this
              rw [Int.min_eq_left hok.2.2] at this
              exact this
            have hAl : (splitA T O).length ≤ n ∧ (splitA T O).length ≤ 40 := by
              unfold splitA
              split
              · rename_i hE
                rw [shareT_len]
                refine ⟨by omega, ?_⟩
                unfold splitE at hE
                split at hE
                · omega
                · omega
              · simp
            obtain ⟨er, her⟩ : ∃ e, e = splitE T O := ⟨_, rfl⟩
            have HS34 : Hid (∀ W, At1 .i64 W p6 O → Calls Try.prog 34 #[.int .i64 T, .slice p6 n c6] W (SplitGot T O W)) := Lib.hid (by rw [hn]; exact hs34)
            have HS35 : Hid (∀ W, At1 .i64 W p6 O → Calls Try.prog 35 #[.int .i64 T, .slice p6 n c6] W (SplitGot T O W)) := Lib.hid (by rw [hn]; exact hs35)
            obtain ⟨A, hA⟩ : ∃ A, A = splitA T O := ⟨_, rfl⟩
            have HGOT : Hid (∀ W e W', SplitGot T O W e W' → ∃ p c, e = .returned (.tuple #[.slice p A.length c, .int .i64 er]) ∧ At1 .i64 W' p A ∧ Adds W W') := Lib.hid (fun W e W' h => by rw [hA, her]; exact h)
            rw [← hA] at hAb hAs hAl
            rw [← her] at hAs
            obtain ⟨M, hM⟩ : ∃ M, M = A.length := ⟨_, rfl⟩
            have HM := Lib.hid hM
            rw [← hM] at hAl HGOT
            obtain ⟨hMn, hM40⟩ := hAl
            have HAB := Lib.hid hAb
            have hlg : Hid (∀ a ac b bc W, At1 .i64 W a A → At1 .i64 W b A → Calls Try.prog 36 #[.slice a M ac, .slice b M bc] W fun e w' => e = .returned (.bool true) ∧ Adds W w') := Lib.hid (fun a ac b bc W h1 h2 => by
              have := longs_any a ac A b bc A W (by omega) h1 h2
              rw [decide_eq_true rfl, ← hM] at this
              exact this)
            have HN := Lib.hid hn
            have HA6 := Lib.hid ha6
            have HOO : Hid (wr.ownsRow w.heap.size 2 1 (.slice p6 n c6) n (O.map (Value.int .i64))) := Lib.hid (by rw [hn]; exact hOo)
            have HSUM := Lib.hid hAs
            rw [← hn] at hl6 hOs ⊢
            have hernn : (er != er) = false := by simp
            have hm6' : c6 ≤ 9223372036854775807 := by unfold maxLen at hm6; omega
            clear hs34 hs35 hAb hAs her hA hM hn ha6 hOo hown hm6
            go_upto_region 12 with (first
              | (go_at_call 34; refine (HS34.out _ HA6.out).mono ?_; rintro e w1 hg; obtain ⟨pa, ca, rfl, h1, h2⟩ := HGOT.out _ _ _ hg; have HA1 := Lib.hid h1; have HB1 := Lib.hid h2; clear hg h1 h2)
              | (go_at_call 35; refine (HS35.out _ (HA6.out.later HB1.out)).mono ?_; rintro e w2 hg; obtain ⟨pb, cb, rfl, h1, h2⟩ := HGOT.out _ _ _ hg; have HA2 := Lib.hid h1; have HB2 := Lib.hid (HB1.out.trans h2); have HA1' := Lib.hid (HA1.out.later h2); clear hg h1 h2)
              | (go_at_call 36; refine (hlg.out _ _ _ _ _ HA1'.out HA2.out).mono ?_; rintro e w3 ⟨rfl, hb⟩; have HB3 := Lib.hid (HB2.out.trans hb); have HA3 := Lib.hid (HA1'.out.later hb); clear hb))
            have h00 : Hid ((0 : Int) = (A.take 0).sum) := Lib.hid (by simp)
            have HAD3 := Lib.hid (hadd.out.trans HB3.out)
            have HO3 := Lib.hid (HA6.out.later HB3.out)
            have HOO3 : Hid (w3.ownsRow w.heap.size 2 1 (.slice p6 n c6) n (O.map (Value.int .i64))) := Lib.hid (own_later HOO.out HB3.out)
            go_wp2_with fail
            go_loopw [12, 13] (fun v12 v13 wr => ∃ (i : Nat) (s : Int), i ≤ M ∧ v13 = .int .i64 i ∧ v12 = .int .i64 s ∧ Hid (s = (A.take i).sum) ∧ 0 ≤ s ∧ s ≤ (i : Int) * 1000000000 ∧ Hid (Adds w3 wr)) (fun _ v13 _ => M - (intOf v13).toNat)
            case atStart => exact ⟨0, 0, by omega, rfl, rfl, h00, by omega, by omega, Lib.hid (Adds.refl _)⟩
            case round =>
              obtain ⟨i, s, hi, rfl, rfl, hs, hs0, hs1, ha3⟩ := hrel
              clear h00
              by_cases hlt2 : i < M
              · obtain ⟨y, hy⟩ : ∃ y, A[i]? = some y := ⟨_, List.getElem?_eq_getElem (by have := HM.out; omega)⟩
                obtain ⟨z, hz, hy0, hyz, hy1⟩ := HAB.out i y hy
                obtain ⟨ga, offa, rfl, d0⟩ := HA3.out i _ hy
                obtain ⟨go, offo, rfl, e0⟩ := HO3.out i _ hz
                have c0 := keep_cell ha3.out d0
                have c1 := keep_cell ha3.out e0
                have hd1 : decide (y < 0) = false := decide_eq_false (by omega)
                have hd2 : decide (z < y) = false := decide_eq_false (by omega)
                have hiM : (i : Int) < (M : Int) := by omega
                have hin : (i : Int) < (n : Int) := by omega
                have HSN : Hid (s + y = (A.take (i + 1)).sum) := Lib.hid (by rw [take_next hy, List.sum_append, hs.out]; simp)
                clear hy hz d0 e0
                go_upto_region 18 with fail
                go_quiet (fail)
                go_wp2
                go_roundw
                case rel => exact ⟨i + 1, s + y, by omega, by go_num, rfl, HSN, by omega, by omega, Lib.hid (ha3.out.drewN _)⟩
                case measure => simp [intOf]; omega
              · have hiM : i = M := by omega
                subst hiM
                have hsA : s = A.sum := by rw [hs.out, List.take_of_length_le (by rw [← HM.out]; omega)]
                have hcase : (er == 0) = false ∨ ((er == 0) = true ∧ (s != T) = false) := by
                  by_cases h : er = 0
                  · right
                    have := HSUM.out h
                    refine ⟨beq_iff_eq.2 h, ?_⟩
                    rw [hsA, this]
                    simp
                  · left
                    exact beq_eq_false_iff_ne.2 h
                have HOO4 : Hid (wr.ownsRow w.heap.size 2 1 (.slice p6 n c6) n (O.map (Value.int .i64))) := Lib.hid (own_later HOO3.out ha3.out)
                have HAD4 := Lib.hid (HAD3.out.trans ha3.out)
                obtain ⟨m, hm⟩ : ∃ m, m = min n 40 := ⟨_, rfl⟩
                have hmin2 : min (n : Int) 40 = (m : Int) := by omega
                have hmn : m ≤ n := by omega
                have hm40 : m ≤ 40 := by omega
                have hmc : m ≤ c6 := by omega
                have HOO5 := Lib.hid (own_cut HOO4.out m hmn)
                have HPN := Lib.hid hp6
                rename World => wm
                clear hs hsA HOO4 hm HSUM hs0 hs1
                rcases hcase with he | ⟨he, hst⟩
                all_goals
                  go_upto_region 22 with fail
                  rcases p6 with _ | a
                  · have hc0 := HPN.out rfl
                    subst hc0
                    have hn0 : n = 0 := by omega
                    subst hn0
                    have hm0 : m = 0 := by omega
                    subst hm0
                    have h1 : IntKind.u64.wrap 1 = 1 := rfl
                    go_wp2_with fail
                    go_loopw [12, 14] (fun v12 v14 wx => v12 = .int .i64 0 ∧ v14 = .int .i64 0 ∧ wx = wm) (fun _ _ _ => 0)
                    case atStart => exact ⟨rfl, rfl, rfl⟩
                    case round =>
                      obtain ⟨rfl, rfl, rfl⟩ := hrel
                      go_wp2
                      go_roundw
                      case rel => exact ⟨k + 1, _, by omega, by go_num, rfl, Lib.hid ⟨[], by simp, World.ownsRow_nil _ _ _ _⟩, HAD4⟩
                      case measure => simp [intOf]; omega
                  · go_wp2_with fail
                    go_loopw [12, 14] (fun v12 v14 wx => ∃ (j : Nat) (G : List Int) (s : Int), j ≤ m ∧ v14 = .int .i64 j ∧ v12 = .int .i64 s ∧ 0 ≤ s ∧ s ≤ 50 * (j : Int) ∧ Hid (G.length = m) ∧ Hid (wx.ownsRow w.heap.size 2 1 (.slice (some a) m c6) m (G.map (Value.int .i64))) ∧ Hid (Adds w wx)) (fun _ v14 _ => m - (intOf v14).toNat)
                    case atStart => exact ⟨0, O.take m, 0, by omega, rfl, rfl, by omega, by omega, Lib.hid (by rw [List.length_take, ← HN.out]; omega), HOO5, HAD4⟩
                    case round =>
                      obtain ⟨j, G, s2, hj, rfl, rfl, hs20, hs21, hG, hro, hax⟩ := hrel
                      by_cases hjm : j < m
                      · obtain ⟨x, hx⟩ : ∃ x, G[j]? = some x := ⟨_, List.getElem?_eq_getElem (by have := hG.out; omega)⟩
                        obtain ⟨_, hor⟩ := own_rowI hro.out
                        rcases hor with ⟨hv, _⟩ | ⟨g, cg, hv, hbg, hrow⟩
                        · cases hv
                        · simp only [Value.slice.injEq, Option.some.injEq] at hv
                          obtain ⟨rfl, _, rfl⟩ := hv
                          have HBG := Lib.hid hbg
                          have HR := Lib.hid hrow
                          have c0 := hrow.cell hx
                          have f0 := hrow.free j
                          obtain ⟨y, hy⟩ : ∃ y, wrap64 ((IntKind.u64.wrap x).tmod 50) = y := ⟨_, rfl⟩
                          have hyb := unum_in x 50 (by omega) (by omega)
                          unfold unum at hyb
                          rw [hy] at hyb
                          obtain ⟨hy0, hy1⟩ := hyb
                          have hjmi : (j : Int) < (m : Int) := by omega
                          clear hx hrow hbg
                          go_wp2
                          go_roundw
                          case rel => exact ⟨j + 1, G.set j y, s2 + y, by omega, by go_num, rfl, by omega, by omega, Lib.hid (by rw [List.length_set]; exact hG.out), Lib.hid (by
                            have h1 := (HR.out.put j y).own HBG.out
                            rw [List.length_set, hG.out] at h1
                            exact h1), Lib.hid (hax.out.set HBG.out _)⟩
                          case measure => simp [intOf]; omega
                      · have hjm2 : j = m := by omega
                        subst hjm2
                        have hw1 : IntKind.i64.wrap (s2 + 1) = s2 + 1 := IntWalk.i64_in _ (by omega)
                        have hw2 : IntKind.u64.wrap (s2 + 1) = s2 + 1 := by
                          have e2 : IntKind.u64.wrap (s2 + 1) = (s2 + 1) % 18446744073709551616 := by simp [IntKind.wrap, IntKind.signed, IntKind.bits]
                          rw [e2]
                          omega
                        have hq1 : ¬ (s2 + 1 = 0) := by omega
                        have hq2 : ((s2 + 1) == 0) = false := beq_eq_false_iff_ne.2 (by omega)
                        go_wp2
                        go_roundw
                        case rel => exact ⟨k + 1, _, by omega, by go_num, rfl, Lib.hid ⟨G, by rw [hG.out]; omega, by rw [hG.out]; exact hro.out⟩, hax⟩
                        case measure => simp [intOf]; omega
          · have hk2 : k = 2 := by omega
            subst hk2
            go_wp2_with (go_at_call 18; refine (awake_any _).mono ?_; rintro e w5 ⟨rfl, hb⟩; have HB5 := Lib.hid hb; clear hb)
            go_ret
            exact ⟨rfl, hadd.out.trans HB5.out⟩

end Go.Proofs.Ytigpghmbeldakaa
