/- For every input the law CallClears of package oastlaw03 returns true (how any bids are cleared by either rule, at the price of the auction or at any price, or the errors), and its inputs read afterwards as they did before.
   Conditions: none beyond those of the given statement. -/
import Derived.Test.YtigpghmbeldakaaCI
import Derived.Test.YtigpghmbeldakaaML
import Derived.Test.YtigpghmbeldakaaAQ
import Derived.Test.YtigpghmbeldakaaAA
import Derived.Test.YtigpghmbeldakaaAE
namespace Go.Proofs.Ytigpghmbeldakaa
open Go.RowKit

set_option maxRecDepth 100000 in
set_option maxHeartbeats 2000000 in
theorem same30_any (px V sr : Int) (fp : Option Addr) (fc : Nat) (gp : Option Addr) (gc : Nat) (F : List Int) (w : World) (hF : F.length ≤ 5000) (h1 : At1 .i64 w fp F) (h2 : At1 .i64 w gp F) :
    Calls Try.prog 30 #[.agg #[.int .i64 px, .int .i64 V, .int .i64 sr, .slice fp F.length fc], .agg #[.int .i64 px, .int .i64 V, .int .i64 sr, .slice gp F.length gc]] w fun e w' => e = .returned (.bool true) ∧ Adds w w' := by
  obtain ⟨N, hN⟩ : ∃ N, N = F.length := ⟨_, rfl⟩
  have HLG : Hid (∀ W, Adds w W → Calls Try.prog 36 #[.slice fp N fc, .slice gp N gc] W fun e w' => e = .returned (.bool true) ∧ Adds W w') := Lib.hid (fun W hW => by
    have := longs_any fp fc F gp gc F W hF (h1.later hW) (h2.later hW)
    rw [decide_eq_true rfl, ← hN] at this
    exact this)
  rw [← hN]
  clear hN h1 h2 hF
  go_enter Try.func30, Try.ntmps30
  go_wp2_with (go_at_call 36; refine (HLG.out _ (((Adds.refl w).alloc _).alloc _)).mono ?_; rintro e w1 ⟨rfl, hb⟩; have HB1 := Lib.hid hb; clear hb)
  go_ret
  exact ⟨rfl, (((Adds.refl w).alloc _).alloc _).trans HB1.out⟩

/-- Bids that lie behind block b. -/
def At3F (b : Nat) (w : World) (p : Option Addr) (l : List (Int × Int × Int)) : Prop := At3 w p l ∧ ∀ g off, p = some ⟨g, off, none⟩ → b < g
theorem At3F.later {b : Nat} {w w' : World} {p : Option Addr} {l : List (Int × Int × Int)} (h : At3F b w p l) (hb : Adds w w') : At3F b w' p l := ⟨h.1.later hb, h.2⟩
theorem At3F.touch {b : Nat} {w w' : World} {p : Option Addr} {l : List (Int × Int × Int)} (h : At3F b w p l) (hb : Touch (fun k => k = b) w w') : At3F b w' p l := ⟨fun i x hx => by
  obtain ⟨g, off, e, h0, h1, h2⟩ := h.1 i x hx
  have hg := h.2 g off e
  have hn : ¬ (g = b) := by omega
  exact ⟨g, off, e, touch_cell hb hn h0, touch_cell hb hn h1, touch_cell hb hn h2⟩, h.2⟩

set_option maxRecDepth 100000 in
set_option maxHeartbeats 8000000 in
theorem clears_any (p : Option Addr) (cap : Nat) (l : List Bd) (x00 x10 r0 : Int) (w : World) (hcap : l.length ≤ cap) (hcm : cap ≤ maxLen) (hp : p = none → cap = 0) (hL : At3 w p l) :
    Calls Try.prog 6 #[.slice p l.length cap, .agg #[.int .i64 x00, .int .i64 x10], .int .i64 r0] w fun e w' => e = .returned (.bool true) ∧ Adds w w' := by
  obtain ⟨L, hLd⟩ : ∃ L, L = tameL l 30 := ⟨_, rfl⟩
  have htame : Hid (∀ W, Adds w W → Calls Try.prog 26 #[.slice p l.length cap, .int .i64 30] W (OwnGot 61 L W)) := Lib.hid (fun W hW => by rw [hLd]; exact tame_any p cap l 30 W hcap hcm hp (by omega) (hL.later hW))
  have hok : ∀ b ∈ L, okB b = true := by rw [hLd]; exact tameL_ok l 30
  have hLn : L.length ≤ 30 := by rw [hLd, tameL_len]; omega
  obtain ⟨n, hn⟩ : ∃ n, n = L.length := ⟨_, rfl⟩
  have HN := Lib.hid hn
  have hck : checkT L = 0 := check_zero.2 ⟨by omega, hok⟩
  have HCK := Lib.hid hck
  have hgv : Hid (∀ q qc W, At3 W q L → Calls Try.prog 16 #[.slice q n qc] W (OwnGot 75 L W)) := Lib.hid (fun q qc W hW => by rw [hn]; exact give_any q qc L W (by omega) hW)
  have hcl : Hid (∀ q qc x r W, At3 W q L → Calls Try.prog 22 #[.slice q n qc, .int .i64 x, .int .i64 r] W (TradeGot (ruleF r) (PriceAt L x) L x r W)) := Lib.hid (fun q qc x r W hW => by rw [hn]; exact Clear_any 40 stable40 (ruleF r) x r L (fun _ h => ruleF_at h) (ruleF_share r) q qc W (by unfold maxLen; omega) (fun _ => by omega) hW)
  have hca : Hid (∀ q qc x r W, At3 W q L → Calls Try.prog 23 #[.slice q n qc, .int .i64 x, .int .i64 r] W (TradeGot (ruleF r) (fun y => y = x) L x r W)) := Lib.hid (fun q qc x r W hW => by rw [hn]; exact ClearAt_any 40 stable40 (ruleF r) x r L (fun _ h => ruleF_at h) (ruleF_share r) q qc W (by unfold maxLen; omega) (fun _ => by omega) hW)
  have hrp : Hid (∀ q qc x W, 1 ≤ x ∧ x ≤ 1000000 → At3 W q L → Calls Try.prog 29 #[.slice q n qc, .int .i64 x] W (RPriceGot L x W)) := Lib.hid (fun q qc x W hx hW => by rw [hn]; exact RPrice_any q qc L x W (by omega) hW hok hx)
  have hrc : Hid (∀ q qc x r W, (r = 1 ∨ r = 2) → At3 W q L → Calls Try.prog 31 #[.slice q n qc, .int .i64 x, .int .i64 r] W (RClearGot L x r W)) := Lib.hid (fun q qc x r W hr hW => by rw [hn]; exact RClearAt_any q qc L x r W (by omega) hW hok hr)
  have hat : Hid (∀ q qc x W, At3 W q L → Calls Try.prog 27 #[.slice q n qc, .int .i64 x] W fun e w' => e = .returned (.tuple #[.int .i64 (dem L x), .int .i64 (sup L x)]) ∧ Adds W w') := Lib.hid (fun q qc x W hW => by rw [hn]; exact RAt_any q qc L x W (by omega) hW hok)
  have HVB : Hid (∀ x, 0 ≤ volAt L x) := Lib.hid (fun x => (vol_bd hok (by omega) x).1)
  have hsm : Hid (∀ px V sr F a b c W, F.length = n → At1 .i64 W a F → At1 .i64 W c F → Calls Try.prog 30 #[.agg #[.int .i64 px, .int .i64 V, .int .i64 sr, .slice a n b], .agg #[.int .i64 px, .int .i64 V, .int .i64 sr, .slice c n n]] W fun e w' => e = .returned (.bool true) ∧ Adds W w') := Lib.hid (fun px V sr F a b c W hF h1 h2 => by
    have := same30_any px V sr a b c n F W (by omega) h1 h2
    rw [hF] at this
    exact this)
  obtain ⟨bo, hbo⟩ : ∃ b, b = w.heap.size := ⟨_, rfl⟩
  have HBO := Lib.hid hbo
  have X0 : Box (w.alloc (.cells #[.int .i64 x00, .int .i64 x10] 52)) bo #[.int .i64 x00, .int .i64 x10] 52 := by rw [hbo]; exact Box.new w _ _
  have HX0 := Lib.hid X0
  generalize l.length = N1 at *
  clear hLd hok hLn hck hn hL hcap hcm hp hbo X0
  go_enter Try.func6, Try.ntmps6
  go_upto_region 3 with (first
    | (go_at_call 26; refine (htame.out _ ((Adds.refl w).alloc _)).mono ?_; rintro e w1 ⟨v7, rfl, hro, hb1⟩; obtain ⟨p7, c7, rfl, ha7, hg7⟩ := own_at3 hro; have HB1 := Lib.hid hb1; have HA7 : Hid (At3F bo w1 p7 L) := Lib.hid ⟨ha7, fun g off h => by have := hg7 g off h; have := HX0.out.lt; omega⟩; clear hro ha7 hb1 hg7)
    | (go_at_call 16; rw [← HN.out]; refine (hgv.out _ _ _ HA7.out.1).mono ?_; rintro e w2 ⟨v8, rfl, hro, hb2⟩; obtain ⟨p8, c8, rfl, ha8, hg8⟩ := own_at3 hro; have HB2 := Lib.hid hb2; have HA8 : Hid (At3F bo w2 p8 L) := Lib.hid ⟨ha8, fun g off h => by have := hg8 g off h; have := HX0.out.lt; have := HB1.out.size; omega⟩; clear hro ha8 hb2 hg8))
  rw [← HN.out, ← HBO.out]
  have HA7' : Hid (At3F bo w2 p7 L) := Lib.hid (HA7.out.later HB2.out)
  have HX2 : Hid (Box w2 bo #[.int .i64 x00, .int .i64 x10] 52) := Lib.hid ((HX0.out.later HB1.out).later HB2.out)
  have HW2 : Hid (Adds w w2) := Lib.hid ((((Adds.refl w).alloc _).trans HB1.out).trans HB2.out)
  clear HA7 HX0 HB1 HB2 htame hgv
  go_wp2
  go_loopw [2, 9] (fun v2 v9 wr => ∃ (k : Nat) (x0 x1 r : Int), k ≤ 2 ∧ v9 = .int .i64 k ∧ v2 = .int .i64 r ∧ Hid (Box wr bo #[.int .i64 x0, .int .i64 x1] 52) ∧ Hid (At3F bo wr p7 L) ∧ Hid (At3F bo wr p8 L) ∧ Hid (Adds w wr)) (fun _ v9 _ => 2 - (intOf v9).toNat)
  case atStart => exact ⟨0, x00, x10, r0, by omega, rfl, rfl, HX2, HA7', HA8, HW2⟩
  case round =>
    obtain ⟨k, x0, x1, r, hk, rfl, rfl, hbx, h7, h8, had⟩ := hrel
    clear HX2 HA7' HA8 HW2
    rename World => wl
    by_cases hlt : k < 2
    · have y0 := hbx.out.cell 0
      have y1 := hbx.out.cell 1
      simp only [List.getElem?_toArray, List.getElem?_cons_zero, List.getElem?_cons_succ] at y0 y1
      go_upto_region 8 with (first
        | (go_at_call 22; refine (hcl.out _ _ _ _ _ h8.out.1).mono ?_; rintro e u1 ⟨px, v, sr, fv, er, hres, rfl, hb1⟩; obtain ⟨fq, fn, fc, rfl⟩ := hres.slice; have HR1 := Lib.hid hres; have U1 := Lib.hid hb1; clear hb1 hres y0 y1; have Y := hbx.out.later (U1.out.alloc (.cells #[.int .i64 px, .int .i64 v, .int .i64 sr, .slice fq fn fc] 38)); have y1 := Y.cell 1; simp only [List.getElem?_toArray, List.getElem?_cons_zero, List.getElem?_cons_succ] at y1; clear Y)
        | (go_at_call 23; refine (hca.out _ _ _ _ _ (h8.out.later (U1.out.alloc _)).1).mono ?_; rintro e u2 ⟨qx, qv, qs, qf, qe, hres, rfl, hb1⟩; obtain ⟨gq, gn, gc, rfl⟩ := hres.slice; have HR2 := Lib.hid hres; have U2 := Lib.hid hb1; clear hb1 hres y1))
      obtain ⟨b10, hb10⟩ : ∃ b, b = u1.heap.size := ⟨_, rfl⟩
      obtain ⟨b12, hb12⟩ : ∃ b, b = u2.heap.size := ⟨_, rfl⟩
      rw [← hb10, ← hb12]
      obtain ⟨u3, hu3⟩ : ∃ W, W = u2.alloc (.cells #[.int .i64 qx, .int .i64 qv, .int .i64 qs, .slice gq gn gc] 38) := ⟨_, rfl⟩
      have hw1 : Adds wl u2 := (U1.out.alloc _).trans U2.out
      have HW3 : Hid (Adds wl u3) := Lib.hid (by rw [hu3]; exact hw1.alloc _)
      have HV1 : Hid (Adds u1 u3) := Lib.hid (by rw [hu3]; exact (((Adds.refl u1).alloc _).trans U2.out).alloc _)
      have HV2 : Hid (Adds u2 u3) := Lib.hid (by rw [hu3]; exact (Adds.refl u2).alloc _)
      have HB10 : Hid (Box u3 b10 #[.int .i64 px, .int .i64 v, .int .i64 sr, .slice fq fn fc] 38) := Lib.hid (by rw [hu3, hb10]; exact ((Box.new u1 _ 38).later U2.out).alloc _)
      have HB12 : Hid (Box u3 b12 #[.int .i64 qx, .int .i64 qv, .int .i64 qs, .slice gq gn gc] 38) := Lib.hid (by rw [hu3, hb12]; exact Box.new u2 _ 38)
      rw [← hu3]
      have HBX := Lib.hid (hbx.out.later HW3.out)
      have H7 := Lib.hid (h7.out.later HW3.out)
      clear hw1 hb10 hb12 hu3 U1 U2
      obtain ⟨bad, hbad⟩ : ∃ b : Bool, b = (!(decide (r = 1) || decide (r = 2))) := ⟨_, rfl⟩
      have HBAD := Lib.hid hbad
      clear hbad
      go_cut [14] (fun s14 wc => s14 = .bool bad ∧ u3 = wc)
      case first =>
        by_cases hr1 : r = 1
        · have hb : bad = false := by rw [HBAD.out]; simp [hr1]
          have h1 : (r != 1) = false := by simp [hr1]
          subst hb
          clear hr1
          go_wp2_with fail
          go_meet
          exact ⟨rfl, rfl⟩
        · have h1 : (r != 1) = true := by simp [hr1]
          by_cases hr2 : r = 2
          · have hb : bad = false := by rw [HBAD.out]; simp [hr2]
            have h2 : (r != 2) = false := by simp [hr2]
            subst hb
            clear hr1 hr2
            go_wp2_with fail
            go_meet
            exact ⟨rfl, rfl⟩
          · have hb : bad = true := by rw [HBAD.out]; simp [hr1, hr2]
            have h2 : (r != 2) = true := by simp [hr2]
            subst hb
            clear hr1 hr2
            go_wp2_with fail
            go_meet
            exact ⟨rfl, rfl⟩
      case rest =>
        obtain ⟨rfl, rfl⟩ := hcut
        go_upto_region 9 with fail
        obtain ⟨ok0, hok0⟩ : ∃ b : Bool, b = (!(inB 1000000 x0 && !bad)) := ⟨_, rfl⟩
        have HOK0 := Lib.hid hok0
        have z0 := HBX.out.cell 0
        simp only [List.getElem?_toArray, List.getElem?_cons_zero, List.getElem?_cons_succ] at z0
        clear hok0
        go_cut [58] (fun s wc => s = .bool ok0 ∧ u3 = wc)
        case first =>
          cases hbd : bad with
          | true =>
            have hb : ok0 = true := by rw [HOK0.out, hbd]; simp
            subst hb
            subst hbd
            go_wp2_with fail
            go_meet
            exact ⟨rfl, rfl⟩
          | false =>
            subst hbd
            by_cases h1 : x0 < 1
            · have hb : ok0 = true := by
                rw [HOK0.out]
                have : inB 1000000 x0 = false := by unfold inB; exact decide_eq_false (by omega)
                rw [this]
                rfl
              subst hb
              go_wp2_with fail
              go_meet
              exact ⟨rfl, rfl⟩
            · by_cases h2 : 1000000 < x0
              · have hb : ok0 = true := by
                  rw [HOK0.out]
                  have : inB 1000000 x0 = false := by unfold inB; exact decide_eq_false (by omega)
                  rw [this]
                  rfl
                subst hb
                go_wp2_with fail
                go_meet
                exact ⟨rfl, rfl⟩
              · have hb : ok0 = false := by
                  rw [HOK0.out]
                  have : inB 1000000 x0 = true := by unfold inB; exact decide_eq_true (by omega)
                  rw [this]
                  rfl
                subst hb
                go_wp2_with fail
                go_meet
                exact ⟨rfl, rfl⟩
        case rest =>
          obtain ⟨rfl, rfl⟩ := hcut
          have HARG0 : Hid ((inB 1000000 x0 && (decide (r = 1) || decide (r = 2))) = !ok0) := Lib.hid (by
            rw [HOK0.out, HBAD.out]
            cases inB 1000000 x0 <;> cases (decide (r = 1) || decide (r = 2)) <;> rfl)
          have HBB := Lib.hid (HB10.out)
          go_upto_if 58 with fail
          go_cut [] (fun wc => Hid (Adds u3 wc))
          case first => as_aux_lemma =>
            have b0 := HBB.out.cell 0
            have b1 := HBB.out.cell 1
            have b2 := HBB.out.cell 2
            have b3 := HBB.out.cell 3
            simp only [List.getElem?_toArray, List.getElem?_cons_zero, List.getElem?_cons_succ] at b0 b1 b2 b3
            cases hok : ok0 with
            | true =>
              obtain ⟨e1, e2, e3, e4, e5⟩ := HR1.out.arg HCK.out (by rw [HARG0.out, hok]; rfl)
              simp only [Value.slice.injEq] at e4
              obtain ⟨e4, e6, e7⟩ := e4
              subst e1 e2 e3 e4 e5 e6 e7 hok
              clear hcl hca hrp hrc hat hsm HBAD
              go_wp2_with (go_at_call 25; refine (nothing_zero _).mono ?_; rintro e y1 ⟨rfl, hb⟩; have Y1 := Lib.hid hb; clear hb)
              go_meet
              exact Y1
            | false =>
              obtain ⟨xx, hP, hh⟩ := HR1.out.fine HCK.out (by rw [HARG0.out, hok]; rfl)
              have hand := HARG0.out
              rw [hok, Bool.not_false, Bool.and_eq_true, Bool.or_eq_true, decide_eq_true_eq, decide_eq_true_eq, inB_iff] at hand
              obtain ⟨hx0, hrr⟩ := hand
              have HXR := Lib.hid hx0
              have HRR := Lib.hid hrr
              have HH := Lib.hid hh
              have HP := Lib.hid hP
              subst hok
              clear hcl hca hh hP hx0 hrr HBAD HARG0
              go_upto_region 13 with (go_at_call 29; refine (hrp.out _ _ _ _ HXR.out (H7.out.1.later (Adds.refl u3))).mono ?_; rintro e y1 ⟨z, rfl, hz, hb⟩; have HZ := Lib.hid hz; have Y1 := Lib.hid hb; clear hz hb)
              have HB2 := Lib.hid (HBB.out.later Y1.out)
              have H72 := Lib.hid (H7.out.1.later (Adds.trans (Adds.refl u3) Y1.out))
              clear b0 b1 b2 b3 hrp
              have b0 := HB2.out.cell 0
              have b1 := HB2.out.cell 1
              have b2 := HB2.out.cell 2
              have b3 := HB2.out.cell 3
              simp only [List.getElem?_toArray, List.getElem?_cons_zero, List.getElem?_cons_succ] at b0 b1 b2 b3
              rcases HZ.out with ⟨hz0, hall⟩ | ⟨hPz, hvz⟩
              · rcases HH.out with ⟨_, e1, e2, e3, e4, e5⟩ | ⟨hpos, _⟩
                · simp only [Value.slice.injEq] at e4
                  obtain ⟨e4, e6, e7⟩ := e4
                  subst e1 e2 e3 e4 e5 e6 e7 hz0
                  clear hrc hat hsm hall HH HP HZ
                  go_wp2_with (go_at_call 25; refine (nothing_zero _).mono ?_; rintro e y2 ⟨rfl, hb⟩; have Y2 := Lib.hid hb; clear hb)
                  go_meet
                  exact Lib.hid (Y1.out.trans Y2.out)
                · have := hall xx HP.out.few.1.1
                  omega
              · have hxz : xx = z := HP.out.unique hPz
                have hz1 : 1 ≤ z := hPz.few.1.1.1
                subst hxz
                rcases HH.out with ⟨h0, _⟩ | ⟨_, e1, e2, e3, e5, gp, F, hF, hfv, _, hrow⟩
                · omega
                · rw [← HN.out] at hfv hrow
                  simp only [Value.slice.injEq] at hfv
                  obtain ⟨e4, e6, e7⟩ := hfv
                  replace e6 := e6.symm
                  replace e7 := e7.symm
                  subst e1 e2 e3 e4 e5 e6 e7
                  have HFL : Hid (F.length = n) := Lib.hid (by rw [hF.len, HN.out])
                  have HF := Lib.hid hF
                  have HROW := Lib.hid (hrow.later (HV1.out.trans Y1.out))
                  have hzz : (px == 0) = false := beq_eq_false_iff_ne.2 (by omega)
                  clear hF hrow hPz hvz hz1 HH HP HZ hat
                  have zz := ((HBX.out.later (Adds.refl u3)).later Y1.out).cell 1
                  simp only [List.getElem?_toArray, List.getElem?_cons_zero, List.getElem?_cons_succ] at zz
                  go_upto_region 16 with fail
                  go_region_held3 (fun w' => w'.cell? ⟨b10, 0, none⟩ = some (.int .i64 px) ∧ w'.cell? ⟨b10, 1, none⟩ = some (.int .i64 (volAt L px)) ∧ w'.cell? ⟨b10, 2, none⟩ = some (.int .i64 (surAt L px)) ∧ w'.cell? ⟨b10, 3, none⟩ = some (.slice (some ⟨gp, 0, none⟩) n n) ∧ w'.cell? ⟨bo, 1, none⟩ = some (.int .i64 x1) ∧ Hid (Adds y1 w'))
                    (first | (refine ⟨?_, ?_, ?_, ?_, ?_, Lib.hid (Adds.refl _).drew⟩ <;> go_keep; done) | exact ⟨keep_cell (Y2.out.trans hb30) b0, keep_cell (Y2.out.trans hb30) b1, keep_cell (Y2.out.trans hb30) b2, keep_cell (Y2.out.trans hb30) b3, keep_cell (Y2.out.trans hb30) zz, Lib.hid (Y2.out.trans hb30)⟩ | exact ⟨keep_cell Y2.out b0, keep_cell Y2.out b1, keep_cell Y2.out b2, keep_cell Y2.out b3, keep_cell Y2.out zz, Y2⟩)
                    ((first
                      | (go_simp; go_at_call 31; rename_i hh _ _; refine (hrc.out _ _ _ _ _ HRR.out (H72.out.later hh.2.2.2.2.2.out)).mono ?_; rintro e y2 ⟨gr, FR, rfl, hfr, hro, hb31⟩; have hFF := fill_one hfr HF.out; subst hFF; have Y2 : Hid (Adds y1 y2) := Lib.hid (Adds.trans hh.2.2.2.2.2.out hb31); have HRO := Lib.hid hro; rw [← HN.out] at HRO; rw [← HN.out]; clear hfr hro)
                      | (go_simp; go_at_call 30; refine (hsm.out _ _ _ _ _ _ _ _ HFL.out (HROW.out.later Y2.out).at1 HRO.out.at1).mono ?_; rintro e y3 ⟨rfl, hb30⟩)))
                  go_wp2_with fail
                  go_meet
                  exact Lib.hid (Y1.out.trans (Y2.out.trans hb30))
          case rest =>
          go_upto_region 18 with fail
          rename World => u4
          have hc1 := hcut
          clear hcut
          obtain ⟨ok1, hok1⟩ : ∃ b : Bool, b = (!(inB 1000000 x1 && !bad)) := ⟨_, rfl⟩
          have HOK1 := Lib.hid hok1
          have z1 := (HBX.out.later hc1.out).cell 1
          simp only [List.getElem?_toArray, List.getElem?_cons_zero, List.getElem?_cons_succ] at z1
          clear hok1
          go_cut [100] (fun s wc => s = .bool ok1 ∧ u4 = wc)
          case first =>
            cases hbd : bad with
            | true =>
              have hb : ok1 = true := by rw [HOK1.out, hbd]; simp
              subst hb
              subst hbd
              go_wp2_with fail
              go_meet
              exact ⟨rfl, rfl⟩
            | false =>
              subst hbd
              by_cases h1 : x1 < 1
              · have hb : ok1 = true := by
                  rw [HOK1.out]
                  have : inB 1000000 x1 = false := by unfold inB; exact decide_eq_false (by omega)
                  rw [this]
                  rfl
                subst hb
                go_wp2_with fail
                go_meet
                exact ⟨rfl, rfl⟩
              · by_cases h2 : 1000000 < x1
                · have hb : ok1 = true := by
                    rw [HOK1.out]
                    have : inB 1000000 x1 = false := by unfold inB; exact decide_eq_false (by omega)
                    rw [this]
                    rfl
                  subst hb
                  go_wp2_with fail
                  go_meet
                  exact ⟨rfl, rfl⟩
                · have hb : ok1 = false := by
                    rw [HOK1.out]
                    have : inB 1000000 x1 = true := by unfold inB; exact decide_eq_true (by omega)
                    rw [this]
                    rfl
                  subst hb
                  go_wp2_with fail
                  go_meet
                  exact ⟨rfl, rfl⟩
          case rest =>
            obtain ⟨rfl, rfl⟩ := hcut
            have HARG1 : Hid ((inB 1000000 x1 && (decide (r = 1) || decide (r = 2))) = !ok1) := Lib.hid (by
              rw [HOK1.out, HBAD.out]
              cases inB 1000000 x1 <;> cases (decide (r = 1) || decide (r = 2)) <;> rfl)
            have HBB := Lib.hid (HB12.out.later hc1.out)
            go_upto_if 100 with fail
            go_cut [] (fun wc => Hid (Adds u4 wc))
            case first => as_aux_lemma =>
              have b0 := HBB.out.cell 0
              have b1 := HBB.out.cell 1
              have b2 := HBB.out.cell 2
              have b3 := HBB.out.cell 3
              simp only [List.getElem?_toArray, List.getElem?_cons_zero, List.getElem?_cons_succ] at b0 b1 b2 b3
              cases hok : ok1 with
              | true =>
                obtain ⟨e1, e2, e3, e4, e5⟩ := HR2.out.arg HCK.out (by rw [HARG1.out, hok]; rfl)
                simp only [Value.slice.injEq] at e4
                obtain ⟨e4, e6, e7⟩ := e4
                subst e1 e2 e3 e4 e5 e6 e7 hok
                clear hcl hca hrp hrc hat hsm HBAD
                go_wp2_with (go_at_call 25; refine (nothing_zero _).mono ?_; rintro e y1 ⟨rfl, hb⟩; have Y1 := Lib.hid hb; clear hb)
                go_meet
                exact Y1
              | false =>
                obtain ⟨xx, hP, hh⟩ := HR2.out.fine HCK.out (by rw [HARG1.out, hok]; rfl)
                have hand := HARG1.out
                rw [hok, Bool.not_false, Bool.and_eq_true, Bool.or_eq_true, decide_eq_true_eq, decide_eq_true_eq, inB_iff] at hand
                obtain ⟨hx0, hrr⟩ := hand
                have HXR := Lib.hid hx0
                have HRR := Lib.hid hrr
                have HH := Lib.hid hh
                have HP := Lib.hid hP
                subst hok
                clear hcl hca hh hP hx0 hrr HBAD HARG1
                obtain ⟨vv, hvv⟩ : ∃ v, v = volAt L x1 := ⟨_, rfl⟩
                have hmv : min (dem L x1) (sup L x1) = vv := by rw [hvv]; rfl
                have HVV := Lib.hid hvv
                have hxz : xx = x1 := HP.out
                subst hxz
                have HVN := Lib.hid (HVB.out xx)
                clear hvv
                by_cases hv0 : vv = 0
                · have hvl : volAt L xx = 0 := by rw [← HVV.out]; exact hv0
                  rcases HH.out with ⟨_, e1, e2, e3, e4, e5⟩ | ⟨hpos, _⟩
                  · simp only [Value.slice.injEq] at e4
                    obtain ⟨e4, e6, e7⟩ := e4
                    subst e1 e2 e3 e4 e5 e6 e7 hv0
                    clear hrc hsm hrp hvl HH HP HVV
                    go_wp2_with (first
                      | (go_at_call 27; refine (hat.out _ _ _ _ (H7.out.1.later hc1.out)).mono ?_; rintro e y1 ⟨rfl, hb⟩; have Y1 := Lib.hid hb; clear hb; have HB2 := HBB.out.later Y1.out; have d0 := HB2.cell 0; have d1 := HB2.cell 1; have d2 := HB2.cell 2; have d3 := HB2.cell 3; simp only [List.getElem?_toArray, List.getElem?_cons_zero, List.getElem?_cons_succ] at d0 d1 d2 d3; clear HB2)
                      | (go_at_call 25; refine (nothing_zero _).mono ?_; rintro e y2 ⟨rfl, hb⟩; have Y2 := Lib.hid hb; clear hb))
                    go_meet
                    exact Lib.hid (Y1.out.trans Y2.out)
                  · omega
                · have hvl : ¬ (volAt L xx = 0) := by rw [← HVV.out]; exact hv0
                  have hzz : (vv == 0) = false := beq_eq_false_iff_ne.2 hv0
                  rcases HH.out with ⟨h0, _⟩ | ⟨_, e1, e2, e3, e5, gp, F, hF, hfv, _, hrow⟩
                  · exact absurd h0 hvl
                  · rw [← HN.out] at hfv hrow
                    simp only [Value.slice.injEq] at hfv
                    obtain ⟨e4, e6, e7⟩ := hfv
                    replace e6 := e6.symm
                    replace e7 := e7.symm
                    have HFL : Hid (F.length = n) := Lib.hid (by rw [hF.len, HN.out])
                    have HF := Lib.hid hF
                    subst e1 e2 e3 e4 e5 e6 e7
                    clear hvl HH HP HVV HVN hv0
                    go_upto_region 22 with (go_at_call 27; refine (hat.out _ _ _ _ (H7.out.1.later hc1.out)).mono ?_; rintro e y1 ⟨rfl, hb⟩; have Y1 := Lib.hid hb; clear hb)
                    have HROW := Lib.hid (hrow.later ((HV2.out.trans hc1.out).trans Y1.out))
                    have HB2 := Lib.hid (HBB.out.later Y1.out)
                    have H72 := Lib.hid (H7.out.1.later (Adds.trans hc1.out Y1.out))
                    have HBX2 := (HBX.out.later hc1.out).later Y1.out
                    clear b0 b1 b2 b3 hF hrow hat hrp z1
                    have b0 := HB2.out.cell 0
                    have b1 := HB2.out.cell 1
                    have b2 := HB2.out.cell 2
                    have b3 := HB2.out.cell 3
                    have z1 := HBX2.cell 1
                    simp only [List.getElem?_toArray, List.getElem?_cons_zero, List.getElem?_cons_succ] at b0 b1 b2 b3 z1
                    have zz := z1
                    clear HBX2
                    go_upto_region 25 with fail
                    go_region_held3 (fun w' => w'.cell? ⟨b12, 0, none⟩ = some (.int .i64 qx) ∧ w'.cell? ⟨b12, 1, none⟩ = some (.int .i64 (volAt L qx)) ∧ w'.cell? ⟨b12, 2, none⟩ = some (.int .i64 (surAt L qx)) ∧ w'.cell? ⟨b12, 3, none⟩ = some (.slice (some ⟨gp, 0, none⟩) n n) ∧ w'.cell? ⟨bo, 1, none⟩ = some (.int .i64 qx) ∧ Hid (Adds y1 w'))
                      (first | (refine ⟨?_, ?_, ?_, ?_, ?_, Lib.hid (Adds.refl _).drew⟩ <;> go_keep; done) | exact ⟨keep_cell (Y2.out.trans hb30) b0, keep_cell (Y2.out.trans hb30) b1, keep_cell (Y2.out.trans hb30) b2, keep_cell (Y2.out.trans hb30) b3, keep_cell (Y2.out.trans hb30) zz, Lib.hid (Y2.out.trans hb30)⟩ | exact ⟨keep_cell Y2.out b0, keep_cell Y2.out b1, keep_cell Y2.out b2, keep_cell Y2.out b3, keep_cell Y2.out zz, Y2⟩)
                      ((first
                        | (go_simp; go_at_call 31; rename_i hh _ _; refine (hrc.out _ _ _ _ _ HRR.out (H72.out.later hh.2.2.2.2.2.out)).mono ?_; rintro e y2 ⟨gr, FR, rfl, hfr, hro, hb31⟩; have hFF := fill_one hfr HF.out; subst hFF; have Y2 : Hid (Adds y1 y2) := Lib.hid (Adds.trans hh.2.2.2.2.2.out hb31); have HRO := Lib.hid hro; rw [← HN.out] at HRO; rw [← HN.out]; clear hfr hro)
                        | (go_simp; go_at_call 30; refine (hsm.out _ _ _ _ _ _ _ _ HFL.out (HROW.out.later Y2.out).at1 HRO.out.at1).mono ?_; rintro e y3 ⟨rfl, hb30⟩)))
                    go_wp2_with fail
                    go_meet
                    exact Lib.hid (Y1.out.trans (Y2.out.trans hb30))
            case rest =>
            rename World => u5
            have HBE := Lib.hid (HBX.out.later (hc1.out.trans hcut.out))
            have HWE := Lib.hid (HW3.out.trans (hc1.out.trans hcut.out))
            have z0 := HBE.out.cell 0
            have z1 := HBE.out.cell 1
            have f0 := HBE.out.free 0
            have f1 := HBE.out.free 1
            simp only [List.getElem?_toArray, List.getElem?_cons_zero, List.getElem?_cons_succ] at z0 z1
            have HPB : Hid (∀ a c, Box ((u5.setCell ⟨bo, 0, none⟩ (.int .i64 a)).setCell ⟨bo, 1, none⟩ (.int .i64 c)) bo #[.int .i64 a, .int .i64 c] 52) := Lib.hid (fun a c => by simpa using (HBE.out.set 0 (.int .i64 a)).set 1 (.int .i64 c))
            have HPT : Hid (∀ a c, Touch (fun k => k = bo) u5 ((u5.setCell ⟨bo, 0, none⟩ (.int .i64 a)).setCell ⟨bo, 1, none⟩ (.int .i64 c))) := Lib.hid (fun a c => ((Touch.refl (fun k => k = bo) u5).set (p := ⟨bo, 0, none⟩) rfl _).set (p := ⟨bo, 1, none⟩) rfl _)
            have H7E := Lib.hid (h7.out.later HWE.out)
            have H8E := Lib.hid (h8.out.later HWE.out)
            have HAE : Hid (∀ a c, Adds w ((u5.setCell ⟨bo, 0, none⟩ (.int .i64 a)).setCell ⟨bo, 1, none⟩ (.int .i64 c))) := Lib.hid (fun a c => ((had.out.trans HWE.out).set (by rw [HBO.out]; exact Nat.le_refl _) _).set (by rw [HBO.out]; exact Nat.le_refl _) _)
            clear hcl hca hrp hrc hat hsm HB10 HB12 HR1 HR2 HBX HW3 HV1 HV2 hc1 hcut hbx h7 h8 had H7
            go_wp2
            go_roundw
            case rel => exact ⟨k + 1, _, _, _, by omega, by go_num, rfl, Lib.hid (HPB.out _ _), Lib.hid (H7E.out.touch (HPT.out _ _)), Lib.hid (H8E.out.touch (HPT.out _ _)), Lib.hid (HAE.out _ _)⟩
            case measure => simp [intOf]; omega
    · have hk2 : k = 2 := by omega
      subst hk2
      go_wp2_with (go_at_call 18; refine (awake_any _).mono ?_; rintro e w5 ⟨rfl, hb⟩; have HB5 := Lib.hid hb; clear hb)
      go_ret
      exact ⟨rfl, had.out.trans HB5.out⟩

end Go.Proofs.Ytigpghmbeldakaa

namespace Go.Proofs.Ytigpghmbeldakaa
open Go.ChangeShapes Go.WideShapes Go.ChangeAt Go.RowKit Go.Deep

set_option maxRecDepth 100000 in
/-- A pair of numbers, opened. -/
theorem open_pair {H : Type} {enc : TypeId × Value → H} {w : World} {r : Reach} {b0 : Nat} {v : Value} {d : DataW H} {p : List MemPlace}
    (hv : Value.okWide Try.prog w r b0 52 v) (h : DataW.Trod enc Try.prog w 0 (fun _ => true) true 52 v d p) : ∃ x y : Int, v = .agg #[.int .i64 x, .int .i64 y] := by
  simp only [Value.okWide, Try.underlying52] at hv
  obtain ⟨cs, rfl, hsz, _⟩ := hv
  obtain ⟨l⟩ := cs
  match l, hsz.trans cells52 with
  | [c0, c1], _ =>
    obtain ⟨fuel, hf⟩ := h
    obtain ⟨xs, n, _, hx, _, hlen, hg⟩ := DataW.trod_array Try.underlying52 hf
    match xs, hlen with
    | [y0, y1], _ =>
      have g0 := hg 0 (by omega)
      have g1 := hg 1 (by omega)
      simp [cells2, Value.cells] at g0 g1
      obtain ⟨a, e0, _, _⟩ := DataW.trod_int Try.underlying2 g0
      obtain ⟨b, e1, _, _⟩ := DataW.trod_int Try.underlying2 g1
      simp only [List.cons.injEq, and_true] at e0 e1
      subst e0 e1
      exact ⟨a, b, rfl⟩

set_option maxRecDepth 100000 in
theorem clears_lifted (os : Os) (started : os.Started) (H : Type) (enc : TypeId × Value → H) :
    ReturnsInHanded {} Try.checked os 6 .any (Rows.callClearsSpec.pre6 enc Try.prog Try.f6 Rows.callClearsRow.domain false) (Rows.callClearsSpec.post enc Try.prog Try.f6 false true false false) := by
  refine returnsInHanded_of_change (C := Try.checked) own started (by kernel_rfl) Try.func6
    (ChangeSpec.witness6 (enc := enc) (C := Try.checked) false ⟨#[], #[.slice none 0 0, .agg #[.int .i64 0, .int .i64 0], .int .i64 0], []⟩ 3 (by kernel_rfl) (by kernel_rfl) (by kernel_rfl) (by kernel_rfl)) ?_
  intro W base args ds gs before hval0 hW hcnd _
  have hval : ∀ (j : Nat) t v, Try.f6.params[j]? = some t → args[j]? = some v → Value.okWide Try.prog W .any base t v := hval0
  have hW' := hW
  obtain ⟨p, q, hA0, hV, rfl, hfz, hnd⟩ := hW
  have hA : DataW.TrodAll enc Try.prog W 0 (fun _ => true) true Try.f6.params.toList args.toList ds p := hA0
  rw [Try.params6] at hA hval
  obtain ⟨v0, v1, v2, d0, d1, d2, p0, p1, p2, rfl, rfl, rfl, h0, h1, h2⟩ := trodAll_three hA
  obtain ⟨rfl, rfl⟩ := trodVars_none hV
  obtain ⟨a, cap, l, rfl, hcap, hcm, hnil, hbids⟩ := open_bids (hval 0 22 v0 rfl rfl) h0
  obtain ⟨x, y, rfl⟩ := open_pair (hval 1 52 v1 rfl rfl) h1
  obtain ⟨z, rfl⟩ := okWide_int Try.underlying3 (hval 2 3 v2 rfl rfl)
  clear hA0 hval0
  simp only [List.append_nil] at hW'
  refine (clears_any a cap l x y z W hcap hcm hnil hbids).mono fun e W' ⟨he, hb⟩ => ?_
  subst he
  have hlt : ∀ x ∈ p0 ++ p1 ++ p2, x.block < W.heap.size := fun x hx => hW'.lt x hx
  exact ⟨_, rfl, post_of_adds (pa := p0 ++ (p1 ++ p2)) (pv := []) hW' (fun _ _ _ => trodAll_mk1 (shut_bool Try.underlying4 _))
    (fun sp hs => trodAll_mk3 (arg_stays (by kernel_rfl) (of_decide_eq_true (by kernel_rfl)) h0 hb (fun x hx => hlt x (by simp [hx])) (fun x hx => hs x (by simp [hx])))
      (arg_stays (by kernel_rfl) (of_decide_eq_true (by kernel_rfl)) h1 hb (fun x hx => hlt x (by simp [hx])) (fun x hx => hs x (by simp [hx])))
      (arg_stays (by kernel_rfl) (of_decide_eq_true (by kernel_rfl)) h2 hb (fun x hx => hlt x (by simp [hx])) (fun x hx => hs x (by simp [hx])))) (fun _ _ => rfl) (by simp)
    hb (ok_one (by kernel_rfl) rfl (okWide_bool_mk Try.underlying4 _))⟩

theorem clears_holds : Rows.CallClearsSaid :=
  OpenClaim.holds_of_wide 6 Try.f6 rfl rfl rfl rfl rfl rfl rfl ⟨rfl, rfl, rfl, rfl, rfl⟩ rfl rfl rfl rfl rfl (by kernel_rfl) Try.func6 (by kernel_rfl)
    (of_decide_eq_true (by kernel_rfl)) (by unfold Func.isWrapper; first | (rw [if_pos (by decide +kernel)]; kernel_rfl) | (rw [if_neg (by decide +kernel)]; exact ⟨rfl, rfl⟩))
    (fun os started H enc _ => clears_lifted os started H enc)

end Go.Proofs.Ytigpghmbeldakaa
