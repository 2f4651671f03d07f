/- CallGains' walk. -/
import Derived.Test.YtigpghmbeldakaaAH
import Derived.StillTailTactics
namespace Go.Proofs.Ytigpghmbeldakaa
open Go.RowKit

theorem own_at1 {t : TypeId} {k : IntKind} {w : World} {base n : Nat} {v : Value} {l : List Int} (h : w.ownsRow base t 1 v n (l.map (Value.int k))) : ∃ p cap, v = .slice p l.length cap ∧ At1 k w p l := by
  rcases (own_rowI h).2 with ⟨hv, hn⟩ | ⟨g, cap, hv, _, hr⟩
  · subst hn
    exact ⟨none, 0, hv, fun i x hx => by simp at hx⟩
  · exact ⟨some ⟨g, 0, none⟩, cap, hv, hr.at1⟩

theorem at1_news {k : IntKind} {w : World} {a : Addr} {l : List Int} (h : At1 k w (some a) l) : ∀ j u, (l.map (Value.int k))[j]? = some u → w.cell? (a.add j) = some u := by
  intro j u hu
  rw [List.getElem?_map] at hu
  obtain ⟨x, hx, rfl⟩ := Option.map_eq_some_iff.1 hu
  obtain ⟨g, off, e, c⟩ := h j x hx
  cases e
  have hadd : (⟨g, off, none⟩ : Addr).add j = ⟨g, off + j, none⟩ := by unfold Addr.add; split <;> simp_all
  rw [hadd]
  exact c

/-- A copy of fills, or fills that the law has made. -/
def FillRow (B : Nat) (W : World) (v : Value) : Prop := ∃ F : List Int, F.length ≤ 32 ∧ W.ownsRow B 2 1 v F.length (F.map (Value.int .i64))

theorem FillRow.nil (B : Nat) (W : World) : FillRow B W (.slice none 0 0) := ⟨[], by simp, World.ownsRow_nil _ _ _ _⟩

theorem gain_fit {L : List Bd} {F : List Int} (h0 : checkT L = 0) : gainR L F = if fitT L F = true then (gainT L F, 0) else (0, 1) := by
  unfold gainR fitT
  rw [if_neg (by simpa using h0)]
  by_cases h : F.length = L.length ∧ (L.zip F).all fitB = true
  · rw [if_pos h, if_pos (by rw [Bool.and_eq_true, decide_eq_true_eq]; exact h)]
  · rw [if_neg h, if_neg (by rw [Bool.and_eq_true, decide_eq_true_eq]; exact h)]

set_option maxRecDepth 100000 in
set_option maxHeartbeats 4000000 in
theorem gains_any (p : Option Addr) (cap : Nat) (l : List Bd) (q : Option Addr) (cap2 : Nat) (F0 : List Int) (w : World) (hcap : l.length ≤ cap) (hcm : cap ≤ maxLen) (hp : p = none → cap = 0) (hL : At3 w p l)
    (hcap2 : F0.length ≤ cap2) (hcm2 : cap2 ≤ maxLen) (hp2 : q = none → cap2 = 0) (hF : At1 .i64 w q F0) :
    Calls Try.prog 7 #[.slice p l.length cap, .slice q F0.length cap2] w fun e w' => e = .returned (.bool true) ∧ Adds w w' := by
  have htame := tame_any p cap l 30 w hcap hcm hp (by omega) hL
  obtain ⟨L, hLd⟩ : ∃ L, L = tameL l 30 := ⟨_, rfl⟩
  have hok : ∀ b ∈ L, okB b = true := by rw [hLd]; exact tameL_ok l 30
  have hLn : L.length ≤ 30 := by rw [hLd, tameL_len]; omega
  rw [← hLd] at htame
  have hck0 : checkT L = 0 := check_zero.2 ⟨by omega, hok⟩
  obtain ⟨n, hn⟩ : ∃ n, n = L.length := ⟨_, rfl⟩
  have HN := Lib.hid hn
  have HOK := Lib.hid hok
  have hn30 : n ≤ 30 := by omega
  have HGR : Hid (∀ F, gainR L F = if fitT L F = true then (gainT L F, 0) else (0, 1)) := Lib.hid (fun F => gain_fit hck0)
  have hgv : Hid (∀ q qc W, At3 W q L → Calls Try.prog 16 #[.slice q n qc] W (OwnGot 75 L W)) := Lib.hid (fun q qc W hW => by rw [hn]; exact give_any q qc L W (by omega) hW)
  have hgn : Hid (∀ a ac F b bc W m, m = F.length → m ≤ 32 → At3 W a L → At1 .i64 W b F → Calls Try.prog 24 #[.slice a n ac, .slice b m bc] W (GainGot L F W)) := Lib.hid (fun a ac F b bc W m hm h32 h1 h2 => by subst hm; rw [hn]; exact Gain_any a ac L b bc F W (by unfold maxLen; omega) (by unfold maxLen; omega) h1 h2)
  have hft : Hid (∀ a ac F b bc W m, m = F.length → m ≤ 32 → At3 W a L → At1 .i64 W b F → Calls Try.prog 32 #[.slice a n ac, .slice b m bc] W fun e w' => e = .returned (.bool (fitT L F)) ∧ Adds W w') := Lib.hid (fun a ac F b bc W m hm h32 h1 h2 => by subst hm; rw [hn]; exact RFit_any a ac L b bc F W (by omega) (by omega) h1 h2)
  have hrg : Hid (∀ a ac F b bc W m, m = F.length → fitT L F = true → At3 W a L → At1 .i64 W b F → Calls Try.prog 33 #[.slice a n ac, .slice b m bc] W fun e w' => e = .returned (.int .i64 (gainT L F)) ∧ Adds W w') := Lib.hid (fun a ac F b bc W m hm hf h1 h2 => by subst hm; rw [hn]; exact RGain_any a ac L b bc F W (by omega) h1 h2 hok hf)
  have HTM := Lib.hid htame
  have HF := Lib.hid hF
  obtain ⟨j0, hj, hj0, hj1, hj2⟩ := info_parts info2
  have HJ := Lib.hid hj
  have HJ0 := Lib.hid hj0
  have HJ1 := Lib.hid hj1
  have HJ2 := Lib.hid hj2
  obtain ⟨N0, hN0⟩ : ∃ N0, N0 = F0.length := ⟨_, rfl⟩
  have HN0 := Lib.hid hN0
  rw [← hN0] at hcap2 ⊢
  have HTG := Lib.hid (hgn.out)
  clear HTG
  have htm : Hid (∀ P, OwnGot 61 L w = P → Calls Try.prog 26 #[.slice p l.length cap, .int .i64 30] w P) := Lib.hid (fun P h => by rw [← h]; exact HTM.out)
  generalize l.length = N1 at *
  unfold maxLen at hcm2
  clear htame hLd hok hLn hck0 hn hj hj0 hj1 hj2 hN0 hL hF hcap hcm hp
  cases q with
  | none =>
    have hc0 := hp2 rfl
    have hz : N0 = 0 := by omega
    subst hz
    subst hc0
    clear hp2 hcap2 hcm2
    go_enter Try.func7, Try.ntmps7
    go_wp2_with (go_at_call 26; refine HTM.out.mono ?_; rintro e w1 ⟨v5, rfl, hro, hb1⟩; obtain ⟨p5, c5, rfl, ha5, _⟩ := own_at3 hro; have HB1 := Lib.hid hb1; have HA5 := Lib.hid ha5; have hlt1 := hb1.size; rw [← HN.out]; clear hro ha5 hb1)
    have HST : Hid (∃ v6, FillRow w.heap.size w1 v6) := Lib.hid ⟨_, FillRow.nil _ _⟩
    have HS0 := Lib.hid (FillRow.nil w.heap.size w1)
    have HB2 := HB1
    have HA6 := HA5
    clear HTM htm
    go_loopw [6, 7] (fun v i wr => ∃ k : Nat, k ≤ 2 ∧ i = .int .i64 k ∧ Hid (FillRow w.heap.size wr v) ∧ Hid (At3 wr p5 L) ∧ Adds w wr) (fun _ i _ => 2 - (intOf i).toNat)
    case atStart => exact ⟨0, by omega, rfl, HS0, HA6, HB2.out⟩
    case round =>
      obtain ⟨k', hk', rfl, hfr, har, hb⟩ := hrel
      have HB := Lib.hid hb
      clear hb
      by_cases hlt : k' < 2
      · obtain ⟨F, hF32, hFo⟩ := hfr.out
        obtain ⟨b6, c6, rfl, hf6⟩ := own_at1 hFo
        obtain ⟨m, hm⟩ : ∃ m, m = F.length := ⟨_, rfl⟩
        rw [← hm] at hF32 ⊢
        have HM := Lib.hid hm
        have HF6 := Lib.hid hf6
        clear hFo hm hf6
        cases hfit : fitT L F with
        | true =>
          have hgr : gainR L F = (gainT L F, 0) := by rw [HGR.out F, if_pos hfit]
          have HFIT := Lib.hid hfit
          have HGN : Hid (∀ a ac b bc W, At3 W a L → At1 .i64 W b F → Calls Try.prog 24 #[.slice a n ac, .slice b m bc] W (fun e w' => e = .returned (.tuple #[.int .i64 (gainT L F), .int .i64 0]) ∧ Adds W w')) := Lib.hid (fun a ac b bc W h1 h2 => (hgn.out a ac F b bc W m HM.out hF32 h1 h2).mono (by rintro e w' ⟨rfl, h⟩; rw [hgr]; exact ⟨rfl, h⟩))
          have HFT : Hid (∀ a ac b bc W, At3 W a L → At1 .i64 W b F → Calls Try.prog 32 #[.slice a n ac, .slice b m bc] W (fun e w' => e = .returned (.bool true) ∧ Adds W w')) := Lib.hid (fun a ac b bc W h1 h2 => (hft.out a ac F b bc W m HM.out hF32 h1 h2).mono (by rintro e w' ⟨rfl, h⟩; rw [hfit]; exact ⟨rfl, h⟩))
          have HRG : Hid (∀ a ac b bc W, At3 W a L → At1 .i64 W b F → Calls Try.prog 33 #[.slice a n ac, .slice b m bc] W (fun e w' => e = .returned (.int .i64 (gainT L F)) ∧ Adds W w')) := Lib.hid (fun a ac b bc W h1 h2 => hrg.out a ac F b bc W m HM.out hfit h1 h2)
          generalize gainT L F = gt at *
          have hgg : (gt != gt) = false := by simp
          clear hfit hgr
          go_wp2_with (first
            | (go_at_call 16; refine (hgv.out _ _ _ har.out).mono ?_; rintro e y1 ⟨v, rfl, ho, hb⟩; obtain ⟨q3, k3, rfl, ha3, _⟩ := own_at3 ho; rw [← HN.out]; have HA3 := Lib.hid ha3; have Y1 := Lib.hid hb; clear ho ha3 hb)
            | (go_at_call 24; refine (HGN.out _ _ _ _ _ HA3.out (HF6.out.later Y1.out)).mono ?_; rintro e y2 ⟨rfl, hb⟩; have Y2 := Lib.hid (Y1.out.trans hb); clear hb)
            | (go_at_call 32; refine (HFT.out _ _ _ _ _ (har.out.later Y2.out) (HF6.out.later Y2.out)).mono ?_; rintro e y3 ⟨rfl, hb⟩; have Y3 := Lib.hid (Y2.out.trans hb); clear hb)
            | (go_at_call 33; refine (HRG.out _ _ _ _ _ (har.out.later Y3.out) (HF6.out.later Y3.out)).mono ?_; rintro e y4 ⟨rfl, hb⟩; have Y4 := Lib.hid (Y3.out.trans hb); have hlt4 := (HB.out.trans Y4.out).size; clear hb)
            | (refine wpList_make_full _ rfl _ _ 36 rfl w.heap.size 2 j0 (.int .i64 0) 1 Try.underlying36 HJ.out HJ0.out HJ1.out .i64 .i64 (n : Int) (n : Int) n rfl rfl rfl rfl (by rw [HJ2.out]; omega) (by unfold maxLen; omega) hlt4 ?_; intro y5 ho hg; have HO := Lib.hid (made_row ho); have HG := Lib.hid hg; clear ho hg))
          have hor := (own_rowI HO.out).2
          have hr1 : RowI 2 .i64 y5 y4.heap.size n (List.replicate n 0) := by
            rcases hor with ⟨h, _⟩ | ⟨g', cap', h, _, h2⟩
            · simp at h
            · simp only [Value.slice.injEq, Option.some.injEq, Addr.mk.injEq, and_true] at h
              obtain ⟨rfl, h3, rfl⟩ := h
              exact h2
          have HR := Lib.hid hr1
          have HA45 : Hid (Adds y4 y5) := Lib.hid ⟨HG.out.os, HG.out.tape, HG.out.output, HG.out.size, fun k hk => HG.out.block k hk (by simp)⟩
          have HA7 : Hid (At3 y4 p5 L) := Lib.hid (har.out.later Y4.out)
          have HWY : Hid (Adds w y4) := Lib.hid (HB.out.trans Y4.out)
          have HNE : Hid (w.heap.size ≤ y4.heap.size) := Lib.hid HWY.out.size
          clear hor hr1 HO HG
          go_loopw [10] (fun i ws => ∃ (j : Nat) (G : List Int), j ≤ n ∧ i = .int .i64 j ∧ Hid (G.length = n) ∧ Hid (RowI 2 .i64 ws y4.heap.size n G) ∧ Hid (Adds y4 ws)) (fun i _ => n - (intOf i).toNat)
          case atStart => exact ⟨0, List.replicate n 0, by omega, rfl, Lib.hid (by simp), HR, HA45⟩
          case round =>
            obtain ⟨j, G, hj, rfl, hG, hrj, hbj⟩ := hrel
            by_cases hjn : j < n
            · obtain ⟨⟨s, pp, qq⟩, hb3⟩ : ∃ t, L[j]? = some t := ⟨_, List.getElem?_eq_getElem (by have := HN.out; omega)⟩
              obtain ⟨old, hold⟩ : ∃ t, G[j]? = some t := ⟨_, List.getElem?_eq_getElem (by have := hG.out; omega)⟩
              have hv := okB_iff.1 (HOK.out _ (List.mem_of_getElem? hb3))
              obtain ⟨gg, off, rfl, d0, d1, d2⟩ := HA7.out j _ hb3
              have c2 := keep_cell hbj.out d2
              have o0 := hrj.out.cell hold
              have o1 := hrj.out.free j
              have HPUT : Hid (∀ y, RowI 2 .i64 (wr.setCell ⟨y4.heap.size, j, none⟩ (.int .i64 y)) y4.heap.size n (G.set j y)) := Lib.hid (fun y => hrj.out.put j y)
              simp only at c2 hv
              obtain ⟨_, _, hv1, hv2⟩ := hv
              have hw1 : IntKind.i64.wrap (qq + 1) = qq + 1 := IntWalk.i64_in _ ⟨by omega, by omega⟩
              have hw2 : IntKind.u64.wrap (qq + 1) = qq + 1 := by
                have e2 : IntKind.u64.wrap (qq + 1) = (qq + 1) % 18446744073709551616 := by simp [IntKind.wrap, IntKind.signed, IntKind.bits]
                rw [e2]
                omega
              have hq1 : ¬ (qq + 1 = 0) := by omega
              have hq2 : ((qq + 1) == 0) = false := beq_eq_false_iff_ne.2 (by omega)
              have hjlt : (j : Int) < (n : Int) := by omega
              clear hb3 hold d0 d1 d2
              have hnn : ¬ ((j : Int) < 0) := by omega
              go_wp2
              refine ⟨⟨j + 1, G, by omega, by go_num, hG, hrj, hbj⟩, by simp [intOf]; omega⟩
            · have hjn2 : j = n := by omega
              subst hjn2
              go_wp2
              refine ⟨⟨k' + 1, by omega, by go_num, Lib.hid ⟨G, by rw [hG.out]; omega, by rw [hG.out]; have := hrj.out.own HNE.out; rw [hG.out] at this; exact this⟩, Lib.hid (HA7.out.later hbj.out), HWY.out.trans hbj.out⟩, by simp [intOf]; omega⟩
        | false =>
          have hgr : gainR L F = (0, 1) := by rw [HGR.out F, if_neg (by rw [hfit]; simp)]
          have HGN : Hid (∀ a ac b bc W, At3 W a L → At1 .i64 W b F → Calls Try.prog 24 #[.slice a n ac, .slice b m bc] W (fun e w' => e = .returned (.tuple #[.int .i64 0, .int .i64 1]) ∧ Adds W w')) := Lib.hid (fun a ac b bc W h1 h2 => (hgn.out a ac F b bc W m HM.out hF32 h1 h2).mono (by rintro e w' ⟨rfl, h⟩; rw [hgr]; exact ⟨rfl, h⟩))
          have HFT : Hid (∀ a ac b bc W, At3 W a L → At1 .i64 W b F → Calls Try.prog 32 #[.slice a n ac, .slice b m bc] W (fun e w' => e = .returned (.bool false) ∧ Adds W w')) := Lib.hid (fun a ac b bc W h1 h2 => (hft.out a ac F b bc W m HM.out hF32 h1 h2).mono (by rintro e w' ⟨rfl, h⟩; rw [hfit]; exact ⟨rfl, h⟩))
          clear hfit hgr
          go_wp2_with (first
            | (go_at_call 16; refine (hgv.out _ _ _ har.out).mono ?_; rintro e y1 ⟨v, rfl, ho, hb⟩; obtain ⟨q3, k3, rfl, ha3, _⟩ := own_at3 ho; rw [← HN.out]; have HA3 := Lib.hid ha3; have Y1 := Lib.hid hb; clear ho ha3 hb)
            | (go_at_call 24; refine (HGN.out _ _ _ _ _ HA3.out (HF6.out.later Y1.out)).mono ?_; rintro e y2 ⟨rfl, hb⟩; have Y2 := Lib.hid (Y1.out.trans hb); clear hb)
            | (go_at_call 32; refine (HFT.out _ _ _ _ _ (har.out.later Y2.out) (HF6.out.later Y2.out)).mono ?_; rintro e y4 ⟨rfl, hb⟩; have Y4 := Lib.hid (Y2.out.trans hb); have hlt4 := (HB.out.trans Y4.out).size; clear hb)
            | (refine wpList_make_full _ rfl _ _ 36 rfl w.heap.size 2 j0 (.int .i64 0) 1 Try.underlying36 HJ.out HJ0.out HJ1.out .i64 .i64 (n : Int) (n : Int) n rfl rfl rfl rfl (by rw [HJ2.out]; omega) (by unfold maxLen; omega) hlt4 ?_; intro y5 ho hg; have HO := Lib.hid (made_row ho); have HG := Lib.hid hg; clear ho hg))
          have hor := (own_rowI HO.out).2
          have hr1 : RowI 2 .i64 y5 y4.heap.size n (List.replicate n 0) := by
            rcases hor with ⟨h, _⟩ | ⟨g', cap', h, _, h2⟩
            · simp at h
            · simp only [Value.slice.injEq, Option.some.injEq, Addr.mk.injEq, and_true] at h
              obtain ⟨rfl, h3, rfl⟩ := h
              exact h2
          have HR := Lib.hid hr1
          have HA45 : Hid (Adds y4 y5) := Lib.hid ⟨HG.out.os, HG.out.tape, HG.out.output, HG.out.size, fun k hk => HG.out.block k hk (by simp)⟩
          have HA7 : Hid (At3 y4 p5 L) := Lib.hid (har.out.later Y4.out)
          have HWY : Hid (Adds w y4) := Lib.hid (HB.out.trans Y4.out)
          have HNE : Hid (w.heap.size ≤ y4.heap.size) := Lib.hid HWY.out.size
          clear hor hr1 HO HG
          go_loopw [10] (fun i ws => ∃ (j : Nat) (G : List Int), j ≤ n ∧ i = .int .i64 j ∧ Hid (G.length = n) ∧ Hid (RowI 2 .i64 ws y4.heap.size n G) ∧ Hid (Adds y4 ws)) (fun i _ => n - (intOf i).toNat)
          case atStart => exact ⟨0, List.replicate n 0, by omega, rfl, Lib.hid (by simp), HR, HA45⟩
          case round =>
            obtain ⟨j, G, hj, rfl, hG, hrj, hbj⟩ := hrel
            by_cases hjn : j < n
            · obtain ⟨⟨s, pp, qq⟩, hb3⟩ : ∃ t, L[j]? = some t := ⟨_, List.getElem?_eq_getElem (by have := HN.out; omega)⟩
              obtain ⟨old, hold⟩ : ∃ t, G[j]? = some t := ⟨_, List.getElem?_eq_getElem (by have := hG.out; omega)⟩
              have hv := okB_iff.1 (HOK.out _ (List.mem_of_getElem? hb3))
              obtain ⟨gg, off, rfl, d0, d1, d2⟩ := HA7.out j _ hb3
              have c2 := keep_cell hbj.out d2
              have o0 := hrj.out.cell hold
              have o1 := hrj.out.free j
              have HPUT : Hid (∀ y, RowI 2 .i64 (wr.setCell ⟨y4.heap.size, j, none⟩ (.int .i64 y)) y4.heap.size n (G.set j y)) := Lib.hid (fun y => hrj.out.put j y)
              simp only at c2 hv
              obtain ⟨_, _, hv1, hv2⟩ := hv
              have hw1 : IntKind.i64.wrap (qq + 1) = qq + 1 := IntWalk.i64_in _ ⟨by omega, by omega⟩
              have hw2 : IntKind.u64.wrap (qq + 1) = qq + 1 := by
                have e2 : IntKind.u64.wrap (qq + 1) = (qq + 1) % 18446744073709551616 := by simp [IntKind.wrap, IntKind.signed, IntKind.bits]
                rw [e2]
                omega
              have hq1 : ¬ (qq + 1 = 0) := by omega
              have hq2 : ((qq + 1) == 0) = false := beq_eq_false_iff_ne.2 (by omega)
              have hjlt : (j : Int) < (n : Int) := by omega
              clear hb3 hold d0 d1 d2
              have hnn : ¬ ((j : Int) < 0) := by omega
              go_wp2
              refine ⟨⟨j + 1, G, by omega, by go_num, hG, hrj, hbj⟩, by simp [intOf]; omega⟩
            · have hjn2 : j = n := by omega
              subst hjn2
              go_wp2
              refine ⟨⟨k' + 1, by omega, by go_num, Lib.hid ⟨G, by rw [hG.out]; omega, by rw [hG.out]; have := hrj.out.own HNE.out; rw [hG.out] at this; exact this⟩, Lib.hid (HA7.out.later hbj.out), HWY.out.trans hbj.out⟩, by simp [intOf]; omega⟩
      · have hk2 : k' = 2 := by omega
        subst hk2
        go_wp2_with (go_at_call 18; refine (awake_any _).mono ?_; rintro e w5 ⟨rfl, hb⟩; have HB5 := Lib.hid hb; clear hb)
        go_ret
        exact ⟨rfl, HB.out.trans HB5.out⟩
  | some a =>
    obtain ⟨k, hk⟩ : ∃ k, k = min N0 32 := ⟨_, rfl⟩
    have hmin : min (N0 : Int) 32 = (k : Int) := by omega
    have hk32 : k ≤ 32 := by omega
    have hkc : k ≤ cap2 := by omega
    have HKL : Hid ((F0.take 32).length = k) := Lib.hid (by rw [List.length_take, ← HN0.out]; omega)
    have HNW : Hid (∀ W, Adds w W → ∀ j u, ((F0.take 32).map (Value.int .i64))[j]? = some u → W.cell? (a.add j) = some u) := Lib.hid (fun W hW => at1_news (k := .i64) (fun i x hx => by
      have hx' : F0[i]? = some x := by rw [List.getElem?_take] at hx; split at hx <;> first | exact hx | cases hx
      exact (HF.out.later hW) i x hx'))
    clear hp2 hk
    go_enter Try.func7, Try.ntmps7
    go_wp2_with (first
      | (go_at_call 26; refine HTM.out.mono ?_; rintro e w1 ⟨v5, rfl, hro, hb1⟩; obtain ⟨p5, c5, rfl, ha5, _⟩ := own_at3 hro; have HB1 := Lib.hid hb1; have HA5 := Lib.hid ha5; have hlt1 := hb1.size; rw [← HN.out]; clear hro ha5 hb1)
      | (at_builtin; ((refine wpList_append_own _ rfl _ _ 36 rfl w.heap.size 2 j0 (.int .i64 0) 1 8 Try.underlying36 HJ.out HJ0.out HJ1.out HJ2.out rfl (by decide) (.slice none 0 0) 0 [] rfl (World.ownsRow_nil _ _ _ _) a k cap2 ((F0.take 32).map (Value.int .i64)) rfl (by rw [List.length_map, HKL.out]; omega) (HNW.out _ HB1.out) (by intro u hu; obtain ⟨x, _, rfl⟩ := List.mem_map.1 hu; rfl) (by unfold maxLen; omega) (by omega) hlt1 ?_); intro va1 w2 hra1 hg1 _; have HR1 := Lib.hid hra1; have HG1 := Lib.hid hg1; clear hra1 hg1)))
    have HB12 : Hid (Adds w1 w2) := Lib.hid ⟨HG1.out.os, HG1.out.tape, HG1.out.output, HG1.out.size, fun k hk => HG1.out.block k hk (by simp [Value.ownBlock])⟩
    have HB2 : Hid (Adds w w2) := Lib.hid (HB1.out.trans HB12.out)
    have HA6 : Hid (At3 w2 p5 L) := Lib.hid (HA5.out.later HB12.out)
    have HS0 : Hid (FillRow w.heap.size w2 va1) := Lib.hid ⟨F0.take 32, by rw [HKL.out]; omega, by rw [HKL.out]; have := HR1.out; rw [Nat.zero_add, List.nil_append] at this; exact this⟩
    clear HTM htm
    go_loopw [6, 7] (fun v i wr => ∃ k : Nat, k ≤ 2 ∧ i = .int .i64 k ∧ Hid (FillRow w.heap.size wr v) ∧ Hid (At3 wr p5 L) ∧ Adds w wr) (fun _ i _ => 2 - (intOf i).toNat)
    case atStart => exact ⟨0, by omega, rfl, HS0, HA6, HB2.out⟩
    case round =>
      obtain ⟨k', hk', rfl, hfr, har, hb⟩ := hrel
      have HB := Lib.hid hb
      clear hb
      by_cases hlt : k' < 2
      · obtain ⟨F, hF32, hFo⟩ := hfr.out
        obtain ⟨b6, c6, rfl, hf6⟩ := own_at1 hFo
        obtain ⟨m, hm⟩ : ∃ m, m = F.length := ⟨_, rfl⟩
        rw [← hm] at hF32 ⊢
        have HM := Lib.hid hm
        have HF6 := Lib.hid hf6
        clear hFo hm hf6
        cases hfit : fitT L F with
        | true =>
          have hgr : gainR L F = (gainT L F, 0) := by rw [HGR.out F, if_pos hfit]
          have HFIT := Lib.hid hfit
          have HGN : Hid (∀ a ac b bc W, At3 W a L → At1 .i64 W b F → Calls Try.prog 24 #[.slice a n ac, .slice b m bc] W (fun e w' => e = .returned (.tuple #[.int .i64 (gainT L F), .int .i64 0]) ∧ Adds W w')) := Lib.hid (fun a ac b bc W h1 h2 => (hgn.out a ac F b bc W m HM.out hF32 h1 h2).mono (by rintro e w' ⟨rfl, h⟩; rw [hgr]; exact ⟨rfl, h⟩))
          have HFT : Hid (∀ a ac b bc W, At3 W a L → At1 .i64 W b F → Calls Try.prog 32 #[.slice a n ac, .slice b m bc] W (fun e w' => e = .returned (.bool true) ∧ Adds W w')) := Lib.hid (fun a ac b bc W h1 h2 => (hft.out a ac F b bc W m HM.out hF32 h1 h2).mono (by rintro e w' ⟨rfl, h⟩; rw [hfit]; exact ⟨rfl, h⟩))
          have HRG : Hid (∀ a ac b bc W, At3 W a L → At1 .i64 W b F → Calls Try.prog 33 #[.slice a n ac, .slice b m bc] W (fun e w' => e = .returned (.int .i64 (gainT L F)) ∧ Adds W w')) := Lib.hid (fun a ac b bc W h1 h2 => hrg.out a ac F b bc W m HM.out hfit h1 h2)
          generalize gainT L F = gt at *
          have hgg : (gt != gt) = false := by simp
          clear hfit hgr
          go_wp2_with (first
            | (go_at_call 16; refine (hgv.out _ _ _ har.out).mono ?_; rintro e y1 ⟨v, rfl, ho, hb⟩; obtain ⟨q3, k3, rfl, ha3, _⟩ := own_at3 ho; rw [← HN.out]; have HA3 := Lib.hid ha3; have Y1 := Lib.hid hb; clear ho ha3 hb)
            | (go_at_call 24; refine (HGN.out _ _ _ _ _ HA3.out (HF6.out.later Y1.out)).mono ?_; rintro e y2 ⟨rfl, hb⟩; have Y2 := Lib.hid (Y1.out.trans hb); clear hb)
            | (go_at_call 32; refine (HFT.out _ _ _ _ _ (har.out.later Y2.out) (HF6.out.later Y2.out)).mono ?_; rintro e y3 ⟨rfl, hb⟩; have Y3 := Lib.hid (Y2.out.trans hb); clear hb)
            | (go_at_call 33; refine (HRG.out _ _ _ _ _ (har.out.later Y3.out) (HF6.out.later Y3.out)).mono ?_; rintro e y4 ⟨rfl, hb⟩; have Y4 := Lib.hid (Y3.out.trans hb); have hlt4 := (HB.out.trans Y4.out).size; clear hb)
            | (refine wpList_make_full _ rfl _ _ 36 rfl w.heap.size 2 j0 (.int .i64 0) 1 Try.underlying36 HJ.out HJ0.out HJ1.out .i64 .i64 (n : Int) (n : Int) n rfl rfl rfl rfl (by rw [HJ2.out]; omega) (by unfold maxLen; omega) hlt4 ?_; intro y5 ho hg; have HO := Lib.hid (made_row ho); have HG := Lib.hid hg; clear ho hg))
          have hor := (own_rowI HO.out).2
          have hr1 : RowI 2 .i64 y5 y4.heap.size n (List.replicate n 0) := by
            rcases hor with ⟨h, _⟩ | ⟨g', cap', h, _, h2⟩
            · simp at h
            · simp only [Value.slice.injEq, Option.some.injEq, Addr.mk.injEq, and_true] at h
              obtain ⟨rfl, h3, rfl⟩ := h
              exact h2
          have HR := Lib.hid hr1
          have HA45 : Hid (Adds y4 y5) := Lib.hid ⟨HG.out.os, HG.out.tape, HG.out.output, HG.out.size, fun k hk => HG.out.block k hk (by simp)⟩
          have HA7 : Hid (At3 y4 p5 L) := Lib.hid (har.out.later Y4.out)
          have HWY : Hid (Adds w y4) := Lib.hid (HB.out.trans Y4.out)
          have HNE : Hid (w.heap.size ≤ y4.heap.size) := Lib.hid HWY.out.size
          clear hor hr1 HO HG
          go_loopw [10] (fun i ws => ∃ (j : Nat) (G : List Int), j ≤ n ∧ i = .int .i64 j ∧ Hid (G.length = n) ∧ Hid (RowI 2 .i64 ws y4.heap.size n G) ∧ Hid (Adds y4 ws)) (fun i _ => n - (intOf i).toNat)
          case atStart => exact ⟨0, List.replicate n 0, by omega, rfl, Lib.hid (by simp), HR, HA45⟩
          case round =>
            obtain ⟨j, G, hj, rfl, hG, hrj, hbj⟩ := hrel
            by_cases hjn : j < n
            · obtain ⟨⟨s, pp, qq⟩, hb3⟩ : ∃ t, L[j]? = some t := ⟨_, List.getElem?_eq_getElem (by have := HN.out; omega)⟩
              obtain ⟨old, hold⟩ : ∃ t, G[j]? = some t := ⟨_, List.getElem?_eq_getElem (by have := hG.out; omega)⟩
              have hv := okB_iff.1 (HOK.out _ (List.mem_of_getElem? hb3))
              obtain ⟨gg, off, rfl, d0, d1, d2⟩ := HA7.out j _ hb3
              have c2 := keep_cell hbj.out d2
              have o0 := hrj.out.cell hold
              have o1 := hrj.out.free j
              have HPUT : Hid (∀ y, RowI 2 .i64 (wr.setCell ⟨y4.heap.size, j, none⟩ (.int .i64 y)) y4.heap.size n (G.set j y)) := Lib.hid (fun y => hrj.out.put j y)
              simp only at c2 hv
              obtain ⟨_, _, hv1, hv2⟩ := hv
              have hw1 : IntKind.i64.wrap (qq + 1) = qq + 1 := IntWalk.i64_in _ ⟨by omega, by omega⟩
              have hw2 : IntKind.u64.wrap (qq + 1) = qq + 1 := by
                have e2 : IntKind.u64.wrap (qq + 1) = (qq + 1) % 18446744073709551616 := by simp [IntKind.wrap, IntKind.signed, IntKind.bits]
                rw [e2]
                omega
              have hq1 : ¬ (qq + 1 = 0) := by omega
              have hq2 : ((qq + 1) == 0) = false := beq_eq_false_iff_ne.2 (by omega)
              have hjlt : (j : Int) < (n : Int) := by omega
              clear hb3 hold d0 d1 d2
              by_cases hj0 : j < N0
              · obtain ⟨x, hx⟩ : ∃ t, F0[j]? = some t := ⟨_, List.getElem?_eq_getElem (by have := HN0.out; omega)⟩
                obtain ⟨g2, off2, he, e0⟩ := HF.out j _ hx
                cases he
                have cx := keep_cell (HWY.out.trans hbj.out) e0
                have hj0' : (j : Int) < (N0 : Int) := by omega
                clear hx e0
                go_upto_region 18 with fail
                go_still_tail 17, (by kernel_rfl)
                change wpList _ _ _ _ _ wr.drew
                go_wp2
                refine ⟨⟨j + 1, G.set j (wrap64 ((IntKind.u64.wrap x).tmod (qq + 1))), by omega, by go_num, Lib.hid (by rw [List.length_set]; exact hG.out), Lib.hid ((HPUT.out _).same rfl), Lib.hid (hbj.out.set (Nat.le_refl _) _).drew⟩, by simp [intOf]; omega⟩
              · have hj0' : ¬ ((j : Int) < (N0 : Int)) := by omega
                go_wp2
                refine ⟨⟨j + 1, G, by omega, by go_num, hG, hrj, hbj⟩, by simp [intOf]; omega⟩
            · have hjn2 : j = n := by omega
              subst hjn2
              go_wp2
              refine ⟨⟨k' + 1, by omega, by go_num, Lib.hid ⟨G, by rw [hG.out]; omega, by rw [hG.out]; have := hrj.out.own HNE.out; rw [hG.out] at this; exact this⟩, Lib.hid (HA7.out.later hbj.out), HWY.out.trans hbj.out⟩, by simp [intOf]; omega⟩
        | false =>
          have hgr : gainR L F = (0, 1) := by rw [HGR.out F, if_neg (by rw [hfit]; simp)]
          have HGN : Hid (∀ a ac b bc W, At3 W a L → At1 .i64 W b F → Calls Try.prog 24 #[.slice a n ac, .slice b m bc] W (fun e w' => e = .returned (.tuple #[.int .i64 0, .int .i64 1]) ∧ Adds W w')) := Lib.hid (fun a ac b bc W h1 h2 => (hgn.out a ac F b bc W m HM.out hF32 h1 h2).mono (by rintro e w' ⟨rfl, h⟩; rw [hgr]; exact ⟨rfl, h⟩))
          have HFT : Hid (∀ a ac b bc W, At3 W a L → At1 .i64 W b F → Calls Try.prog 32 #[.slice a n ac, .slice b m bc] W (fun e w' => e = .returned (.bool false) ∧ Adds W w')) := Lib.hid (fun a ac b bc W h1 h2 => (hft.out a ac F b bc W m HM.out hF32 h1 h2).mono (by rintro e w' ⟨rfl, h⟩; rw [hfit]; exact ⟨rfl, h⟩))
          clear hfit hgr
          go_wp2_with (first
            | (go_at_call 16; refine (hgv.out _ _ _ har.out).mono ?_; rintro e y1 ⟨v, rfl, ho, hb⟩; obtain ⟨q3, k3, rfl, ha3, _⟩ := own_at3 ho; rw [← HN.out]; have HA3 := Lib.hid ha3; have Y1 := Lib.hid hb; clear ho ha3 hb)
            | (go_at_call 24; refine (HGN.out _ _ _ _ _ HA3.out (HF6.out.later Y1.out)).mono ?_; rintro e y2 ⟨rfl, hb⟩; have Y2 := Lib.hid (Y1.out.trans hb); clear hb)
            | (go_at_call 32; refine (HFT.out _ _ _ _ _ (har.out.later Y2.out) (HF6.out.later Y2.out)).mono ?_; rintro e y4 ⟨rfl, hb⟩; have Y4 := Lib.hid (Y2.out.trans hb); have hlt4 := (HB.out.trans Y4.out).size; clear hb)
            | (refine wpList_make_full _ rfl _ _ 36 rfl w.heap.size 2 j0 (.int .i64 0) 1 Try.underlying36 HJ.out HJ0.out HJ1.out .i64 .i64 (n : Int) (n : Int) n rfl rfl rfl rfl (by rw [HJ2.out]; omega) (by unfold maxLen; omega) hlt4 ?_; intro y5 ho hg; have HO := Lib.hid (made_row ho); have HG := Lib.hid hg; clear ho hg))
          have hor := (own_rowI HO.out).2
          have hr1 : RowI 2 .i64 y5 y4.heap.size n (List.replicate n 0) := by
            rcases hor with ⟨h, _⟩ | ⟨g', cap', h, _, h2⟩
            · simp at h
            · simp only [Value.slice.injEq, Option.some.injEq, Addr.mk.injEq, and_true] at h
              obtain ⟨rfl, h3, rfl⟩ := h
              exact h2
          have HR := Lib.hid hr1
          have HA45 : Hid (Adds y4 y5) := Lib.hid ⟨HG.out.os, HG.out.tape, HG.out.output, HG.out.size, fun k hk => HG.out.block k hk (by simp)⟩
          have HA7 : Hid (At3 y4 p5 L) := Lib.hid (har.out.later Y4.out)
          have HWY : Hid (Adds w y4) := Lib.hid (HB.out.trans Y4.out)
          have HNE : Hid (w.heap.size ≤ y4.heap.size) := Lib.hid HWY.out.size
          clear hor hr1 HO HG
          go_loopw [10] (fun i ws => ∃ (j : Nat) (G : List Int), j ≤ n ∧ i = .int .i64 j ∧ Hid (G.length = n) ∧ Hid (RowI 2 .i64 ws y4.heap.size n G) ∧ Hid (Adds y4 ws)) (fun i _ => n - (intOf i).toNat)
          case atStart => exact ⟨0, List.replicate n 0, by omega, rfl, Lib.hid (by simp), HR, HA45⟩
          case round =>
            obtain ⟨j, G, hj, rfl, hG, hrj, hbj⟩ := hrel
            by_cases hjn : j < n
            · obtain ⟨⟨s, pp, qq⟩, hb3⟩ : ∃ t, L[j]? = some t := ⟨_, List.getElem?_eq_getElem (by have := HN.out; omega)⟩
              obtain ⟨old, hold⟩ : ∃ t, G[j]? = some t := ⟨_, List.getElem?_eq_getElem (by have := hG.out; omega)⟩
              have hv := okB_iff.1 (HOK.out _ (List.mem_of_getElem? hb3))
              obtain ⟨gg, off, rfl, d0, d1, d2⟩ := HA7.out j _ hb3
              have c2 := keep_cell hbj.out d2
              have o0 := hrj.out.cell hold
              have o1 := hrj.out.free j
              have HPUT : Hid (∀ y, RowI 2 .i64 (wr.setCell ⟨y4.heap.size, j, none⟩ (.int .i64 y)) y4.heap.size n (G.set j y)) := Lib.hid (fun y => hrj.out.put j y)
              simp only at c2 hv
              obtain ⟨_, _, hv1, hv2⟩ := hv
              have hw1 : IntKind.i64.wrap (qq + 1) = qq + 1 := IntWalk.i64_in _ ⟨by omega, by omega⟩
              have hw2 : IntKind.u64.wrap (qq + 1) = qq + 1 := by
                have e2 : IntKind.u64.wrap (qq + 1) = (qq + 1) % 18446744073709551616 := by simp [IntKind.wrap, IntKind.signed, IntKind.bits]
                rw [e2]
                omega
              have hq1 : ¬ (qq + 1 = 0) := by omega
              have hq2 : ((qq + 1) == 0) = false := beq_eq_false_iff_ne.2 (by omega)
              have hjlt : (j : Int) < (n : Int) := by omega
              clear hb3 hold d0 d1 d2
              by_cases hj0 : j < N0
              · obtain ⟨x, hx⟩ : ∃ t, F0[j]? = some t := ⟨_, List.getElem?_eq_getElem (by have := HN0.out; omega)⟩
                obtain ⟨g2, off2, he, e0⟩ := HF.out j _ hx
                cases he
                have cx := keep_cell (HWY.out.trans hbj.out) e0
                have hj0' : (j : Int) < (N0 : Int) := by omega
                clear hx e0
                go_upto_region 18 with fail
                go_still_tail 17, (by kernel_rfl)
                change wpList _ _ _ _ _ wr.drew
                go_wp2
                refine ⟨⟨j + 1, G.set j (wrap64 ((IntKind.u64.wrap x).tmod (qq + 1))), by omega, by go_num, Lib.hid (by rw [List.length_set]; exact hG.out), Lib.hid ((HPUT.out _).same rfl), Lib.hid (hbj.out.set (Nat.le_refl _) _).drew⟩, by simp [intOf]; omega⟩
              · have hj0' : ¬ ((j : Int) < (N0 : Int)) := by omega
                go_wp2
                refine ⟨⟨j + 1, G, by omega, by go_num, hG, hrj, hbj⟩, by simp [intOf]; omega⟩
            · have hjn2 : j = n := by omega
              subst hjn2
              go_wp2
              refine ⟨⟨k' + 1, by omega, by go_num, Lib.hid ⟨G, by rw [hG.out]; omega, by rw [hG.out]; have := hrj.out.own HNE.out; rw [hG.out] at this; exact this⟩, Lib.hid (HA7.out.later hbj.out), HWY.out.trans hbj.out⟩, by simp [intOf]; omega⟩
      · have hk2 : k' = 2 := by omega
        subst hk2
        go_wp2_with (go_at_call 18; refine (awake_any _).mono ?_; rintro e w5 ⟨rfl, hb⟩; have HB5 := Lib.hid hb; clear hb)
        go_ret
        exact ⟨rfl, HB.out.trans HB5.out⟩
end Go.Proofs.Ytigpghmbeldakaa
