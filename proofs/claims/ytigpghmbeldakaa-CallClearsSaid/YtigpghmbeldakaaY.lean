/- trade, Clear and ClearAt. -/
import Derived.Test.YtigpghmbeldakaaX
import Derived.Test.YtigpghmbeldakaaQ
namespace Go.Proofs.Ytigpghmbeldakaa
open Go.RowKit

attribute [local go_sem] Oper.semAt_some

/-- A result of a trade, in memory: none, or fills. -/
def FillsIn (f : Int → List Int → List Int) (l : List Bd) (x V : Int) (fv : Value) (w w' : World) : Prop :=
  ∃ g F, FillAt f l x V 2 F ∧ fv = .slice (some ⟨g, 0, none⟩) l.length l.length ∧ w.heap.size ≤ g ∧ RowI 2 .i64 w' g l.length F

/-- What a trade at what find makes of a price says. -/
structure TradeRes (f : Int → List Int → List Int) (P : Int → Prop) (l : List Bd) (price rule : Int) (px v sr : Int) (fv : Value) (er : Int) (w w' : World) : Prop where
  bad : checkT l ≠ 0 → px = 0 ∧ v = 0 ∧ sr = 0 ∧ fv = .slice none 0 0 ∧ er = checkT l
  arg : checkT l = 0 → (inB 1000000 price && (decide (rule = 1) || decide (rule = 2))) = false → px = 0 ∧ v = 0 ∧ sr = 0 ∧ fv = .slice none 0 0 ∧ er = 1
  fine : checkT l = 0 → (inB 1000000 price && (decide (rule = 1) || decide (rule = 2))) = true → ∃ x, P x ∧ ((volAt l x = 0 ∧ px = 0 ∧ v = 0 ∧ sr = 0 ∧ fv = .slice none 0 0 ∧ er = 30) ∨ (0 < volAt l x ∧ px = x ∧ v = volAt l x ∧ sr = surAt l x ∧ er = 0 ∧ FillsIn f l x (volAt l x) fv w w'))

def TradeGot (f : Int → List Int → List Int) (P : Int → Prop) (l : List Bd) (price rule : Int) (w : World) (e : Ending) (w' : World) : Prop :=
  ∃ px v sr fv er, TradeRes f P l price rule px v sr fv er w w' ∧ e = .returned (.tuple #[.agg #[.int .i64 px, .int .i64 v, .int .i64 sr, fv], .int .i64 er]) ∧ Adds w w'

/-- What finds a spot. -/
def FindGot (P : Int → Prop) (l : List Bd) (w : World) (e : Ending) (w' : World) : Prop :=
  ∃ a b c, P a ∧ b = dem l a ∧ c = sup l a ∧ e = .returned (.agg #[.int .i64 a, .int .i64 b, .int .i64 c]) ∧ Adds w w'

theorem Box.put4 {w : World} {b : Nat} {t : TypeId} {a0 a1 a2 a3 : Value} (h : Box w b #[a0, a1, a2, a3] t) (u0 u1 u2 u3 : Value) :
    (w.setCell ⟨b, 0, none⟩ u0).cell? ⟨b, 0, none⟩ = some u0 ∧ ((w.setCell ⟨b, 0, none⟩ u0).setCell ⟨b, 1, none⟩ u1).cell? ⟨b, 1, none⟩ = some u1 ∧
      (((w.setCell ⟨b, 0, none⟩ u0).setCell ⟨b, 1, none⟩ u1).setCell ⟨b, 2, none⟩ u2).cell? ⟨b, 2, none⟩ = some u2 ∧
      ((((w.setCell ⟨b, 0, none⟩ u0).setCell ⟨b, 1, none⟩ u1).setCell ⟨b, 2, none⟩ u2).setCell ⟨b, 3, none⟩ u3).cell? ⟨b, 3, none⟩ = some u3 := by
  refine ⟨?_, ?_, ?_, ?_⟩
  · simpa using (h.set 0 u0).cell 0
  · simpa using ((h.set 0 u0).set 1 u1).cell 1
  · simpa using (((h.set 0 u0).set 1 u1).set 2 u2).cell 2
  · simpa using ((((h.set 0 u0).set 1 u1).set 2 u2).set 3 u3).cell 3

set_option maxRecDepth 100000 in
set_option maxHeartbeats 4000000 in
theorem trade_any (m : Nat) (hst : StableUpTo m) (f : Int → List Int → List Int) (price rule : Int) (l : List Bd) (hsh : checkT l = 0 → (rule = 1 ∨ rule = 2) → ShareAt m rule f) (hfs : FShare f) (P : Int → Prop) (fid : Nat) (p : Option Addr) (cap : Nat) (w : World) (hN : l.length ≤ maxLen) (hm : checkT l = 0 → l.length ≤ m) (hL : At3 w p l)
    (he : ∀ (args : Array Value) (w : World), (callFunc fid args).run Try.prog w = .ok (.enter fid args) w)
    (hfind : checkT l = 0 → inB 1000000 price = true → ∀ W, Adds w W → Calls Try.prog fid #[.slice p l.length cap, .int .i64 price] W (FindGot P l W)) :
    Calls Try.prog 49 #[.slice p l.length cap, .int .i64 price, .int .i64 rule, .func (.func fid) #[] #[]] w (TradeGot f P l price rule w) := by
  have HL := Lib.hid hL
  have hB0 : Box (w.alloc (.cells #[.int .i64 0, .int .i64 0, .int .i64 0, .slice none 0 0] 38)) w.heap.size #[.int .i64 0, .int .i64 0, .int .i64 0, .slice none 0 0] 38 := Box.new w _ _
  have A0 := Lib.hid ((Adds.refl w).alloc (.cells #[.int .i64 0, .int .i64 0, .int .i64 0, .slice none 0 0] 38))
  have hck := Check_any p cap l (w.alloc (.cells #[.int .i64 0, .int .i64 0, .int .i64 0, .slice none 0 0] 38)) hN (HL.out.later A0.out)
  have HB0 := Lib.hid hB0
  clear hB0
  by_cases h0 : checkT l = 0
  · obtain ⟨c1, c2⟩ := check_zero.1 h0
    have HO := Lib.hid c2
    have HN := Lib.hid c1
    have HM := Lib.hid (hm h0)
    have H0 := Lib.hid h0
    have HFD := Lib.hid (hfind h0)
    have HSH := Lib.hid (hsh h0)
    have HST := Lib.hid hst
    have HFS := Lib.hid hfs
    have hpr := fun W => isPrice_any price W
    rw [h0] at hck
    clear hL hN c1 c2 h0 hfind hsh hst hfs hm
    by_cases hg : (inB 1000000 price && (decide (rule = 1) || decide (rule = 2))) = true
    · simp only [Bool.and_eq_true, Bool.or_eq_true, decide_eq_true_eq] at hg
      obtain ⟨hx, hr⟩ := hg
      rw [hx] at hpr
      have HX := Lib.hid hx
      have HRU := Lib.hid hr
      have HGD : Hid ((inB 1000000 price && (decide (rule = 1) || decide (rule = 2))) = true) := Lib.hid (by simp only [Bool.and_eq_true, Bool.or_eq_true, decide_eq_true_eq]; exact ⟨hx, hr⟩)
      have hd1 : Hid ((!decide (rule = 1) && !decide (rule = 2)) = false) := Lib.hid (by rcases hr with rfl | rfl <;> simp)
      clear hx
      have hr1 : (rule == 1 || rule == 2) = true := by rcases HRU.out with rfl | rfl <;> rfl
      rcases HRU.out with hr | hr
      all_goals subst hr
      all_goals clear hr1 hd1
      · go_enter Try.func49, Try.ntmps49
        go_upto_region 6 with (first
          | (go_at_call 17; refine hck.mono ?_; rintro e w1 ⟨rfl, hb1⟩)
          | (go_at_call 42; refine (hpr _).mono ?_; rintro e w2 ⟨rfl, rfl⟩))
        go_wp2_with fail
        refine (HFD.out HX.out _ (A0.out.trans hb1)).mono ?_
        rintro e w3 ⟨a, b, c, hP, hbd, hcs, rfl, hb3⟩
        have HP := Lib.hid hP
        have HBD := Lib.hid hbd
        have HCS := Lib.hid hcs
        have hvv : volAt l a = min b c := by rw [hbd, hcs]; rfl
        have hss : surAt l a = b - c := by rw [hbd, hcs]; rfl
        have hdb := dem_bd a l HO.out
        have hsb := sup_bd a l HO.out
        rw [← hbd] at hdb
        rw [← hcs] at hsb
        obtain ⟨v, hv⟩ : ∃ v, v = min b c := ⟨_, rfl⟩
        obtain ⟨sr, hsr⟩ : ∃ sr, sr = b - c := ⟨_, rfl⟩
        have hvol : ∀ W, Calls Try.prog 47 #[.agg #[.int .i64 a, .int .i64 b, .int .i64 c]] W fun e w' => e = .returned (.int .i64 v) ∧ Adds W w' := fun W => by rw [hv]; exact volume_any a b c W
        have hsur : ∀ W, Calls Try.prog 69 #[.agg #[.int .i64 a, .int .i64 b, .int .i64 c]] W fun e w' => e = .returned (.int .i64 sr) ∧ Adds W w' := fun W => by rw [hsr]; exact surplus_any a b c W hdb.1 hsb.1 (by have := HN.out; omega) (by have := HN.out; omega)
        have hfil : ∀ W, At3 W p l → Calls Try.prog 76 #[.slice p l.length cap, .agg #[.int .i64 a, .int .i64 b, .int .i64 c], .int .i64 1] W (FillsGot f l a v W) := fun W hW => by rw [hv]; exact fills_any m HST.out 1 f (HSH.out (by omega)) HFS.out p cap l a b c W (by have := HN.out; omega) HM.out hW HO.out HBD.out HCS.out
        have HVV : Hid (volAt l a = v) := Lib.hid (hvv.trans hv.symm)
        have HSS : Hid (surAt l a = sr) := Lib.hid (hss.trans hsr.symm)
        have HFIL := Lib.hid hfil
        have hvn : 0 ≤ v := by omega
        clear hP hbd hcs hvv hss hdb hsb hv hsr hfil
        have X := (HB0.out.later hb1).later hb3
        have b0 := X.cell 0; have b1 := X.cell 1; have b2 := X.cell 2; have b3 := X.cell 3; have f0 := X.free 0; have f1 := X.free 1; have f2 := X.free 2; have f3 := X.free 3; have hlt := X.lt; simp only [List.getElem?_toArray, List.getElem?_cons_zero, List.getElem?_cons_succ] at b0 b1 b2 b3; have HXB := Lib.hid X; clear X
        have A3 : Hid (Adds w w3) := Lib.hid ((A0.out.trans hb1).trans hb3)
        have X2 := Box.new w3 #[.int .i64 a, .int .i64 b, .int .i64 c] 80
        by_cases hv0 : v = 0
        · subst hv0
          clear X2
          go_wp2_with (go_at_call 47; refine (hvol _).mono ?_; rintro e w4 ⟨rfl, hb4⟩; have XX := (HXB.out.alloc (.cells #[.int .i64 a, .int .i64 b, .int .i64 c] 80)).later hb4; have A4 := Lib.hid ((A3.out.alloc (.cells #[.int .i64 a, .int .i64 b, .int .i64 c] 80)).trans hb4); clear b0 b1 b2 b3 f0 f1 f2 f3 hlt HXB; have X := XX; have b0 := X.cell 0; have b1 := X.cell 1; have b2 := X.cell 2; have b3 := X.cell 3; have f0 := X.free 0; have f1 := X.free 1; have f2 := X.free 2; have f3 := X.free 3; have hlt := X.lt; simp only [List.getElem?_toArray, List.getElem?_cons_zero, List.getElem?_cons_succ] at b0 b1 b2 b3; have HXB := Lib.hid X; clear X; clear XX)
          refine bodyPost_ret (v := .tuple #[.agg #[.int .i64 0, .int .i64 0, .int .i64 0, .slice none 0 0], .int .i64 30]) ?_ rfl ⟨0, 0, 0, .slice none 0 0, 30, ⟨(fun h => absurd H0.out h), (fun _ h => by simp [HX.out] at h), (fun _ _ => ⟨a, HP.out, Or.inl ⟨HVV.out, rfl, rfl, rfl, rfl, rfl⟩⟩)⟩, rfl, (((((A4.out).set (by simp) _).set (by simp) _).set (by simp) _).set (by simp) _)⟩
          · obtain ⟨q0, q1, q2, q3⟩ := HXB.out.put4 (.int .i64 (0)) (.int .i64 (0)) (.int .i64 (0)) (.slice none 0 0)
            simp [results, Try.results49, go_sem, q0, q1, q2, q3]
        · have hne : (v == 0) = false := beq_eq_false_iff_ne.2 hv0
          have HNZ : Hid (0 < v) := Lib.hid (by omega)
          clear hv0
          go_upto_region 9 with (go_at_call 47; refine (hvol _).mono ?_; rintro e w4 ⟨rfl, hb4⟩)
          have X4 := (HXB.out.alloc (.cells #[.int .i64 a, .int .i64 b, .int .i64 c] 80)).later hb4
          have Y4 := X2.later hb4
          have A4 := Lib.hid ((A3.out.alloc (.cells #[.int .i64 a, .int .i64 b, .int .i64 c] 80)).trans hb4)
          have hz4 : w.heap.size < w3.heap.size := HXB.out.lt
          clear b0 b1 b2 b3 f0 f1 f2 f3 hlt X2 HXB
          have b0' := Y4.cell 0
          have b1' := Y4.cell 1
          have b2' := Y4.cell 2
          simp only [List.getElem?_toArray, List.getElem?_cons_zero, List.getElem?_cons_succ] at b0' b1' b2'
          have HX4 := Lib.hid X4
          clear X4 Y4 hb4
          refine wp_region_held_drew (S := fun w' => w'.cell? ⟨w3.heap.size, 0, none⟩ = some (.int .i64 a) ∧ w'.cell? ⟨w3.heap.size, 1, none⟩ = some (.int .i64 b) ∧ w'.cell? ⟨w3.heap.size, 2, none⟩ = some (.int .i64 c) ∧ Hid (Touch (fun k => k = w.heap.size) w4 w')) (by kernel_rfl) ⟨b0', b1', b2', Lib.hid (Touch.of_adds (Adds.refl w4).drew _)⟩ (fun hHeld => ?_)
          refine wpAnyH_take (i := 0) (oi := ⟨some 38, _, _, _, _, _⟩) (v := ?v1) rfl (by kernel_rfl) (by kernel_rfl) (by kernel_rfl) (fun _ _ _ h => h) (Or.inl ⟨by rfl, ?hy1⟩) (by assumption) ?rest1
          case hy1 => (intro w hSw; (try dsimp only at hSw); go_simp; try with_reducible rfl)
          try simp only [Act.put, List.setIfInBounds_toArray, List.set_cons_zero, List.set_cons_succ]
          refine wpAnyH_take (i := 1) (oi := ⟨some 39, _, _, _, _, _⟩) (v := ?v2) rfl (by kernel_rfl) (by kernel_rfl) (by kernel_rfl) (fun _ _ _ h => h) (Or.inl ⟨by rfl, ?hy2⟩) (by assumption) ?rest2
          case hy2 => (intro w hSw; (try dsimp only at hSw); go_simp; try with_reducible rfl)
          try simp only [Act.put, List.setIfInBounds_toArray, List.set_cons_zero, List.set_cons_succ]
          refine wpAnyH_take (i := 2) (oi := ⟨some 40, _, _, _, _, _⟩) (v := ?v3) rfl (by kernel_rfl) (by kernel_rfl) (by kernel_rfl) (fun _ _ _ h => h) (Or.inl ⟨by rfl, ?hy3⟩) (by assumption) ?rest3
          case hy3 => (intro w hSw; (try dsimp only at hSw); go_simp; try with_reducible rfl)
          try simp only [Act.put, List.setIfInBounds_toArray, List.set_cons_zero, List.set_cons_succ]
          refine wpAnyH_take (i := 4) (oi := ⟨some 42, _, _, _, _, _⟩) (v := ?v4) rfl (by kernel_rfl) (by kernel_rfl) (by kernel_rfl) (fun _ _ _ h => h) (Or.inl ⟨by rfl, ?hy4⟩) (by assumption) ?rest4
          case hy4 => (intro w hSw; (try dsimp only at hSw); go_simp; try with_reducible rfl)
          try simp only [Act.put, List.setIfInBounds_toArray, List.set_cons_zero, List.set_cons_succ]
          refine wpAnyH_take (i := 6) (oi := ⟨some 44, _, _, _, _, _⟩) (v := ?v5) rfl (by kernel_rfl) (by kernel_rfl) (by kernel_rfl) (fun _ _ _ h => h) (Or.inl ⟨by rfl, ?hy5⟩) (by assumption) ?rest5
          case hy5 => (intro w hSw; (try dsimp only at hSw); go_simp; try with_reducible rfl)
          try simp only [Act.put, List.setIfInBounds_toArray, List.set_cons_zero, List.set_cons_succ]
          refine wpAnyH_take (i := 7) (oi := ⟨some 45, _, _, _, _, _⟩) (v := ?v6) rfl (by kernel_rfl) (by kernel_rfl) (by kernel_rfl) (fun _ _ _ h => h) (Or.inl ⟨by rfl, ?hy6⟩) (by assumption) ?rest6
          case hy6 => (intro w hSw; (try dsimp only at hSw); go_simp; try with_reducible rfl)
          try simp only [Act.put, List.setIfInBounds_toArray, List.set_cons_zero, List.set_cons_succ]
          refine wpAnyH_take (i := 8) (oi := ⟨some 46, _, _, _, _, _⟩) (v := ?v7) rfl (by kernel_rfl) (by kernel_rfl) (by kernel_rfl) (fun _ _ _ h => h) (Or.inl ⟨by rfl, ?hy7⟩) (by assumption) ?rest7
          case hy7 => (intro w hSw; (try dsimp only at hSw); go_simp; try with_reducible rfl)
          try simp only [Act.put, List.setIfInBounds_toArray, List.set_cons_zero, List.set_cons_succ]
          refine wpAnyH_ready (rs := [3]) (by kernel_rfl) (by simp) ?_
          refine AllReadyH.cons (o := ⟨some 41, _, _, _, _, _⟩) rfl (fun K hK => ?_) AllReadyH.nil
          go_simp
          refine (hvol _).mono ?_; rintro e w5 ⟨rfl, hb5⟩; have T5 : Adds w4 w5 := (Adds.refl w4).drew.trans hb5
          refine hK.out _ _ ?_ (fun hHeld => ?_)
          · exact ⟨touch_cell (Touch.of_adds T5 (fun k => k = w.heap.size)) (by omega) b0', touch_cell (Touch.of_adds T5 (fun k => k = w.heap.size)) (by omega) b1', touch_cell (Touch.of_adds T5 (fun k => k = w.heap.size)) (by omega) b2', Lib.hid (Touch.of_adds T5 (fun k => k = w.heap.size))⟩
          clear hK K
          try simp only [Act.put, List.setIfInBounds_toArray, List.set_cons_zero, List.set_cons_succ]
          refine wpAnyH_ready (rs := [5]) (by kernel_rfl) (by simp) ?_
          refine AllReadyH.cons (o := ⟨some 43, _, _, _, _, _⟩) rfl (fun K hK => ?_) AllReadyH.nil
          go_simp
          refine (hsur _).mono ?_; rintro e w6 ⟨rfl, hb6⟩; have T6 : Adds w4 w6 := T5.trans hb6
          refine hK.out _ _ ?_ (fun hHeld => ?_)
          · exact ⟨touch_cell (Touch.of_adds T6 (fun k => k = w.heap.size)) (by omega) b0', touch_cell (Touch.of_adds T6 (fun k => k = w.heap.size)) (by omega) b1', touch_cell (Touch.of_adds T6 (fun k => k = w.heap.size)) (by omega) b2', Lib.hid (Touch.of_adds T6 (fun k => k = w.heap.size))⟩
          clear hK K
          try simp only [Act.put, List.setIfInBounds_toArray, List.set_cons_zero, List.set_cons_succ]
          refine wpAnyH_ready (rs := [9]) (by kernel_rfl) (by simp) ?_
          refine AllReadyH.cons (o := ⟨some 47, _, _, _, _, _⟩) rfl (fun K hK => ?_) AllReadyH.nil
          go_simp
          refine (HFIL.out _ (HL.out.later (A4.out.trans T6))).mono ?_; rintro e w7 ⟨g7, F7, hf7, rfl, hg7, hr7, hb7⟩; have T7 : Adds w4 w7 := T6.trans hb7; have HF7 := Lib.hid hf7; have HG7 := Lib.hid hg7; have HR7 := Lib.hid hr7; clear hf7 hg7 hr7
          refine hK.out _ _ ?_ (fun hHeld => ?_)
          · exact ⟨touch_cell (Touch.of_adds T7 (fun k => k = w.heap.size)) (by omega) b0', touch_cell (Touch.of_adds T7 (fun k => k = w.heap.size)) (by omega) b1', touch_cell (Touch.of_adds T7 (fun k => k = w.heap.size)) (by omega) b2', Lib.hid (Touch.of_adds T7 (fun k => k = w.heap.size))⟩
          clear hK K
          try simp only [Act.put, List.setIfInBounds_toArray, List.set_cons_zero, List.set_cons_succ]
          refine wpAnyH_take (i := 10) (oi := ⟨some 48, _, _, _, _, _⟩) (v := ?v8) rfl (by kernel_rfl) (by kernel_rfl) (by kernel_rfl) (fun _ _ _ h => h) (Or.inl ⟨by rfl, ?hy8⟩) (by assumption) ?rest8
          case hy8 => (intro w hSw; (try dsimp only at hSw); go_simp; try with_reducible rfl)
          try simp only [Act.put, List.setIfInBounds_toArray, List.set_cons_zero, List.set_cons_succ]
          have X := HX4.out.later T7
          have b0 := X.cell 0; have b1 := X.cell 1; have b2 := X.cell 2; have b3 := X.cell 3; have f0 := X.free 0; have f1 := X.free 1; have f2 := X.free 2; have f3 := X.free 3; have hlt := X.lt; simp only [List.getElem?_toArray, List.getElem?_cons_zero, List.getElem?_cons_succ] at b0 b1 b2 b3; have HXB := Lib.hid X; clear X
          refine wpAnyH_ready (rs := [11]) (by kernel_rfl) (by simp) ?_
          refine AllReadyH.cons (o := _) rfl (fun K hK => ?_) AllReadyH.nil
          go_simp
          skip
          refine hK.out _ _ ?_ (fun hHeld => ?_)
          · exact ⟨touch_cell (O := fun k => k = w.heap.size) (((((Touch.of_adds T7 (fun k => k = w.heap.size)).set rfl _).set rfl _).set rfl _).set rfl _) (by omega) b0', touch_cell (O := fun k => k = w.heap.size) (((((Touch.of_adds T7 (fun k => k = w.heap.size)).set rfl _).set rfl _).set rfl _).set rfl _) (by omega) b1', touch_cell (O := fun k => k = w.heap.size) (((((Touch.of_adds T7 (fun k => k = w.heap.size)).set rfl _).set rfl _).set rfl _).set rfl _) (by omega) b2', Lib.hid (((((Touch.of_adds T7 (fun k => k = w.heap.size)).set rfl _).set rfl _).set rfl _).set rfl _)⟩
          clear hK K
          try simp only [Act.put, List.setIfInBounds_toArray, List.set_cons_zero, List.set_cons_succ]
          refine wpAnyH_take (i := 12) (oi := ⟨some 9, _, _, _, _, _⟩) (v := ?v9) rfl (by kernel_rfl) (by kernel_rfl) (by kernel_rfl) (fun _ _ _ h => h) (Or.inl ⟨by rfl, ?hy9⟩) (by assumption) ?rest9
          case hy9 => (intro w hSw; (try dsimp only at hSw); go_simp; try with_reducible rfl)
          try simp only [Act.put, List.setIfInBounds_toArray, List.set_cons_zero, List.set_cons_succ]
          refine wpAnyH_done (by kernel_rfl) ?_ _
          go_wp2
          refine bodyPost_ret (v := .tuple #[.agg #[.int .i64 a, .int .i64 v, .int .i64 sr, .slice (some ⟨g7, 0, none⟩) l.length l.length], .int .i64 0]) ?_ rfl ⟨a, v, sr, .slice (some ⟨g7, 0, none⟩) l.length l.length, 0, ⟨(fun h => absurd H0.out h), (fun _ h => by simp [HX.out] at h), (fun _ _ => ⟨a, HP.out, Or.inr ⟨by rw [HVV.out]; exact HNZ.out, rfl, HVV.out.symm, HSS.out.symm, rfl, by rw [HVV.out]; exact ⟨g7, F7, HF7.out, rfl, by have := (A4.out.trans T6).size; have := HG7.out; omega, ((((HR7.out.far (by have := HX4.out.lt; have := T6.size; have := HG7.out; show g7 ≠ w.heap.size; omega) _).far (by have := HX4.out.lt; have := T6.size; have := HG7.out; show g7 ≠ w.heap.size; omega) _).far (by have := HX4.out.lt; have := T6.size; have := HG7.out; show g7 ≠ w.heap.size; omega) _).far (by have := HX4.out.lt; have := T6.size; have := HG7.out; show g7 ≠ w.heap.size; omega) _)⟩⟩⟩)⟩, rfl, (((((A4.out.trans T7).set (by simp) _).set (by simp) _).set (by simp) _).set (by simp) _)⟩
          · obtain ⟨q0, q1, q2, q3⟩ := HXB.out.put4 (.int .i64 (a)) (.int .i64 (v)) (.int .i64 (sr)) (.slice (some ⟨g7, 0, none⟩) l.length l.length)
            simp [results, Try.results49, go_sem, q0, q1, q2, q3]
      · go_enter Try.func49, Try.ntmps49
        go_upto_region 6 with (first
          | (go_at_call 17; refine hck.mono ?_; rintro e w1 ⟨rfl, hb1⟩)
          | (go_at_call 42; refine (hpr _).mono ?_; rintro e w2 ⟨rfl, rfl⟩))
        go_wp2_with fail
        refine (HFD.out HX.out _ (A0.out.trans hb1)).mono ?_
        rintro e w3 ⟨a, b, c, hP, hbd, hcs, rfl, hb3⟩
        have HP := Lib.hid hP
        have HBD := Lib.hid hbd
        have HCS := Lib.hid hcs
        have hvv : volAt l a = min b c := by rw [hbd, hcs]; rfl
        have hss : surAt l a = b - c := by rw [hbd, hcs]; rfl
        have hdb := dem_bd a l HO.out
        have hsb := sup_bd a l HO.out
        rw [← hbd] at hdb
        rw [← hcs] at hsb
        obtain ⟨v, hv⟩ : ∃ v, v = min b c := ⟨_, rfl⟩
        obtain ⟨sr, hsr⟩ : ∃ sr, sr = b - c := ⟨_, rfl⟩
        have hvol : ∀ W, Calls Try.prog 47 #[.agg #[.int .i64 a, .int .i64 b, .int .i64 c]] W fun e w' => e = .returned (.int .i64 v) ∧ Adds W w' := fun W => by rw [hv]; exact volume_any a b c W
        have hsur : ∀ W, Calls Try.prog 69 #[.agg #[.int .i64 a, .int .i64 b, .int .i64 c]] W fun e w' => e = .returned (.int .i64 sr) ∧ Adds W w' := fun W => by rw [hsr]; exact surplus_any a b c W hdb.1 hsb.1 (by have := HN.out; omega) (by have := HN.out; omega)
        have hfil : ∀ W, At3 W p l → Calls Try.prog 76 #[.slice p l.length cap, .agg #[.int .i64 a, .int .i64 b, .int .i64 c], .int .i64 2] W (FillsGot f l a v W) := fun W hW => by rw [hv]; exact fills_any m HST.out 2 f (HSH.out (by omega)) HFS.out p cap l a b c W (by have := HN.out; omega) HM.out hW HO.out HBD.out HCS.out
        have HVV : Hid (volAt l a = v) := Lib.hid (hvv.trans hv.symm)
        have HSS : Hid (surAt l a = sr) := Lib.hid (hss.trans hsr.symm)
        have HFIL := Lib.hid hfil
        have hvn : 0 ≤ v := by omega
        clear hP hbd hcs hvv hss hdb hsb hv hsr hfil
        have X := (HB0.out.later hb1).later hb3
        have b0 := X.cell 0; have b1 := X.cell 1; have b2 := X.cell 2; have b3 := X.cell 3; have f0 := X.free 0; have f1 := X.free 1; have f2 := X.free 2; have f3 := X.free 3; have hlt := X.lt; simp only [List.getElem?_toArray, List.getElem?_cons_zero, List.getElem?_cons_succ] at b0 b1 b2 b3; have HXB := Lib.hid X; clear X
        have A3 : Hid (Adds w w3) := Lib.hid ((A0.out.trans hb1).trans hb3)
        have X2 := Box.new w3 #[.int .i64 a, .int .i64 b, .int .i64 c] 80
        by_cases hv0 : v = 0
        · subst hv0
          clear X2
          go_wp2_with (go_at_call 47; refine (hvol _).mono ?_; rintro e w4 ⟨rfl, hb4⟩; have XX := (HXB.out.alloc (.cells #[.int .i64 a, .int .i64 b, .int .i64 c] 80)).later hb4; have A4 := Lib.hid ((A3.out.alloc (.cells #[.int .i64 a, .int .i64 b, .int .i64 c] 80)).trans hb4); clear b0 b1 b2 b3 f0 f1 f2 f3 hlt HXB; have X := XX; have b0 := X.cell 0; have b1 := X.cell 1; have b2 := X.cell 2; have b3 := X.cell 3; have f0 := X.free 0; have f1 := X.free 1; have f2 := X.free 2; have f3 := X.free 3; have hlt := X.lt; simp only [List.getElem?_toArray, List.getElem?_cons_zero, List.getElem?_cons_succ] at b0 b1 b2 b3; have HXB := Lib.hid X; clear X; clear XX)
          refine bodyPost_ret (v := .tuple #[.agg #[.int .i64 0, .int .i64 0, .int .i64 0, .slice none 0 0], .int .i64 30]) ?_ rfl ⟨0, 0, 0, .slice none 0 0, 30, ⟨(fun h => absurd H0.out h), (fun _ h => by simp [HX.out] at h), (fun _ _ => ⟨a, HP.out, Or.inl ⟨HVV.out, rfl, rfl, rfl, rfl, rfl⟩⟩)⟩, rfl, (((((A4.out).set (by simp) _).set (by simp) _).set (by simp) _).set (by simp) _)⟩
          · obtain ⟨q0, q1, q2, q3⟩ := HXB.out.put4 (.int .i64 (0)) (.int .i64 (0)) (.int .i64 (0)) (.slice none 0 0)
            simp [results, Try.results49, go_sem, q0, q1, q2, q3]
        · have hne : (v == 0) = false := beq_eq_false_iff_ne.2 hv0
          have HNZ : Hid (0 < v) := Lib.hid (by omega)
          clear hv0
          go_upto_region 9 with (go_at_call 47; refine (hvol _).mono ?_; rintro e w4 ⟨rfl, hb4⟩)
          have X4 := (HXB.out.alloc (.cells #[.int .i64 a, .int .i64 b, .int .i64 c] 80)).later hb4
          have Y4 := X2.later hb4
          have A4 := Lib.hid ((A3.out.alloc (.cells #[.int .i64 a, .int .i64 b, .int .i64 c] 80)).trans hb4)
          have hz4 : w.heap.size < w3.heap.size := HXB.out.lt
          clear b0 b1 b2 b3 f0 f1 f2 f3 hlt X2 HXB
          have b0' := Y4.cell 0
          have b1' := Y4.cell 1
          have b2' := Y4.cell 2
          simp only [List.getElem?_toArray, List.getElem?_cons_zero, List.getElem?_cons_succ] at b0' b1' b2'
          have HX4 := Lib.hid X4
          clear X4 Y4 hb4
          refine wp_region_held_drew (S := fun w' => w'.cell? ⟨w3.heap.size, 0, none⟩ = some (.int .i64 a) ∧ w'.cell? ⟨w3.heap.size, 1, none⟩ = some (.int .i64 b) ∧ w'.cell? ⟨w3.heap.size, 2, none⟩ = some (.int .i64 c) ∧ Hid (Touch (fun k => k = w.heap.size) w4 w')) (by kernel_rfl) ⟨b0', b1', b2', Lib.hid (Touch.of_adds (Adds.refl w4).drew _)⟩ (fun hHeld => ?_)
          refine wpAnyH_take (i := 0) (oi := ⟨some 38, _, _, _, _, _⟩) (v := ?v10) rfl (by kernel_rfl) (by kernel_rfl) (by kernel_rfl) (fun _ _ _ h => h) (Or.inl ⟨by rfl, ?hy10⟩) (by assumption) ?rest10
          case hy10 => (intro w hSw; (try dsimp only at hSw); go_simp; try with_reducible rfl)
          try simp only [Act.put, List.setIfInBounds_toArray, List.set_cons_zero, List.set_cons_succ]
          refine wpAnyH_take (i := 1) (oi := ⟨some 39, _, _, _, _, _⟩) (v := ?v11) rfl (by kernel_rfl) (by kernel_rfl) (by kernel_rfl) (fun _ _ _ h => h) (Or.inl ⟨by rfl, ?hy11⟩) (by assumption) ?rest11
          case hy11 => (intro w hSw; (try dsimp only at hSw); go_simp; try with_reducible rfl)
          try simp only [Act.put, List.setIfInBounds_toArray, List.set_cons_zero, List.set_cons_succ]
          refine wpAnyH_take (i := 2) (oi := ⟨some 40, _, _, _, _, _⟩) (v := ?v12) rfl (by kernel_rfl) (by kernel_rfl) (by kernel_rfl) (fun _ _ _ h => h) (Or.inl ⟨by rfl, ?hy12⟩) (by assumption) ?rest12
          case hy12 => (intro w hSw; (try dsimp only at hSw); go_simp; try with_reducible rfl)
          try simp only [Act.put, List.setIfInBounds_toArray, List.set_cons_zero, List.set_cons_succ]
          refine wpAnyH_take (i := 4) (oi := ⟨some 42, _, _, _, _, _⟩) (v := ?v13) rfl (by kernel_rfl) (by kernel_rfl) (by kernel_rfl) (fun _ _ _ h => h) (Or.inl ⟨by rfl, ?hy13⟩) (by assumption) ?rest13
          case hy13 => (intro w hSw; (try dsimp only at hSw); go_simp; try with_reducible rfl)
          try simp only [Act.put, List.setIfInBounds_toArray, List.set_cons_zero, List.set_cons_succ]
          refine wpAnyH_take (i := 6) (oi := ⟨some 44, _, _, _, _, _⟩) (v := ?v14) rfl (by kernel_rfl) (by kernel_rfl) (by kernel_rfl) (fun _ _ _ h => h) (Or.inl ⟨by rfl, ?hy14⟩) (by assumption) ?rest14
          case hy14 => (intro w hSw; (try dsimp only at hSw); go_simp; try with_reducible rfl)
          try simp only [Act.put, List.setIfInBounds_toArray, List.set_cons_zero, List.set_cons_succ]
          refine wpAnyH_take (i := 7) (oi := ⟨some 45, _, _, _, _, _⟩) (v := ?v15) rfl (by kernel_rfl) (by kernel_rfl) (by kernel_rfl) (fun _ _ _ h => h) (Or.inl ⟨by rfl, ?hy15⟩) (by assumption) ?rest15
          case hy15 => (intro w hSw; (try dsimp only at hSw); go_simp; try with_reducible rfl)
          try simp only [Act.put, List.setIfInBounds_toArray, List.set_cons_zero, List.set_cons_succ]
          refine wpAnyH_take (i := 8) (oi := ⟨some 46, _, _, _, _, _⟩) (v := ?v16) rfl (by kernel_rfl) (by kernel_rfl) (by kernel_rfl) (fun _ _ _ h => h) (Or.inl ⟨by rfl, ?hy16⟩) (by assumption) ?rest16
          case hy16 => (intro w hSw; (try dsimp only at hSw); go_simp; try with_reducible rfl)
          try simp only [Act.put, List.setIfInBounds_toArray, List.set_cons_zero, List.set_cons_succ]
          refine wpAnyH_ready (rs := [3]) (by kernel_rfl) (by simp) ?_
          refine AllReadyH.cons (o := ⟨some 41, _, _, _, _, _⟩) rfl (fun K hK => ?_) AllReadyH.nil
          go_simp
          refine (hvol _).mono ?_; rintro e w5 ⟨rfl, hb5⟩; have T5 : Adds w4 w5 := (Adds.refl w4).drew.trans hb5
          refine hK.out _ _ ?_ (fun hHeld => ?_)
          · exact ⟨touch_cell (Touch.of_adds T5 (fun k => k = w.heap.size)) (by omega) b0', touch_cell (Touch.of_adds T5 (fun k => k = w.heap.size)) (by omega) b1', touch_cell (Touch.of_adds T5 (fun k => k = w.heap.size)) (by omega) b2', Lib.hid (Touch.of_adds T5 (fun k => k = w.heap.size))⟩
          clear hK K
          try simp only [Act.put, List.setIfInBounds_toArray, List.set_cons_zero, List.set_cons_succ]
          refine wpAnyH_ready (rs := [5]) (by kernel_rfl) (by simp) ?_
          refine AllReadyH.cons (o := ⟨some 43, _, _, _, _, _⟩) rfl (fun K hK => ?_) AllReadyH.nil
          go_simp
          refine (hsur _).mono ?_; rintro e w6 ⟨rfl, hb6⟩; have T6 : Adds w4 w6 := T5.trans hb6
          refine hK.out _ _ ?_ (fun hHeld => ?_)
          · exact ⟨touch_cell (Touch.of_adds T6 (fun k => k = w.heap.size)) (by omega) b0', touch_cell (Touch.of_adds T6 (fun k => k = w.heap.size)) (by omega) b1', touch_cell (Touch.of_adds T6 (fun k => k = w.heap.size)) (by omega) b2', Lib.hid (Touch.of_adds T6 (fun k => k = w.heap.size))⟩
          clear hK K
          try simp only [Act.put, List.setIfInBounds_toArray, List.set_cons_zero, List.set_cons_succ]
          refine wpAnyH_ready (rs := [9]) (by kernel_rfl) (by simp) ?_
          refine AllReadyH.cons (o := ⟨some 47, _, _, _, _, _⟩) rfl (fun K hK => ?_) AllReadyH.nil
          go_simp
          refine (HFIL.out _ (HL.out.later (A4.out.trans T6))).mono ?_; rintro e w7 ⟨g7, F7, hf7, rfl, hg7, hr7, hb7⟩; have T7 : Adds w4 w7 := T6.trans hb7; have HF7 := Lib.hid hf7; have HG7 := Lib.hid hg7; have HR7 := Lib.hid hr7; clear hf7 hg7 hr7
          refine hK.out _ _ ?_ (fun hHeld => ?_)
          · exact ⟨touch_cell (Touch.of_adds T7 (fun k => k = w.heap.size)) (by omega) b0', touch_cell (Touch.of_adds T7 (fun k => k = w.heap.size)) (by omega) b1', touch_cell (Touch.of_adds T7 (fun k => k = w.heap.size)) (by omega) b2', Lib.hid (Touch.of_adds T7 (fun k => k = w.heap.size))⟩
          clear hK K
          try simp only [Act.put, List.setIfInBounds_toArray, List.set_cons_zero, List.set_cons_succ]
          refine wpAnyH_take (i := 10) (oi := ⟨some 48, _, _, _, _, _⟩) (v := ?v17) rfl (by kernel_rfl) (by kernel_rfl) (by kernel_rfl) (fun _ _ _ h => h) (Or.inl ⟨by rfl, ?hy17⟩) (by assumption) ?rest17
          case hy17 => (intro w hSw; (try dsimp only at hSw); go_simp; try with_reducible rfl)
          try simp only [Act.put, List.setIfInBounds_toArray, List.set_cons_zero, List.set_cons_succ]
          have X := HX4.out.later T7
          have b0 := X.cell 0; have b1 := X.cell 1; have b2 := X.cell 2; have b3 := X.cell 3; have f0 := X.free 0; have f1 := X.free 1; have f2 := X.free 2; have f3 := X.free 3; have hlt := X.lt; simp only [List.getElem?_toArray, List.getElem?_cons_zero, List.getElem?_cons_succ] at b0 b1 b2 b3; have HXB := Lib.hid X; clear X
          refine wpAnyH_ready (rs := [11]) (by kernel_rfl) (by simp) ?_
          refine AllReadyH.cons (o := _) rfl (fun K hK => ?_) AllReadyH.nil
          go_simp
          skip
          refine hK.out _ _ ?_ (fun hHeld => ?_)
          · exact ⟨touch_cell (O := fun k => k = w.heap.size) (((((Touch.of_adds T7 (fun k => k = w.heap.size)).set rfl _).set rfl _).set rfl _).set rfl _) (by omega) b0', touch_cell (O := fun k => k = w.heap.size) (((((Touch.of_adds T7 (fun k => k = w.heap.size)).set rfl _).set rfl _).set rfl _).set rfl _) (by omega) b1', touch_cell (O := fun k => k = w.heap.size) (((((Touch.of_adds T7 (fun k => k = w.heap.size)).set rfl _).set rfl _).set rfl _).set rfl _) (by omega) b2', Lib.hid (((((Touch.of_adds T7 (fun k => k = w.heap.size)).set rfl _).set rfl _).set rfl _).set rfl _)⟩
          clear hK K
          try simp only [Act.put, List.setIfInBounds_toArray, List.set_cons_zero, List.set_cons_succ]
          refine wpAnyH_take (i := 12) (oi := ⟨some 9, _, _, _, _, _⟩) (v := ?v18) rfl (by kernel_rfl) (by kernel_rfl) (by kernel_rfl) (fun _ _ _ h => h) (Or.inl ⟨by rfl, ?hy18⟩) (by assumption) ?rest18
          case hy18 => (intro w hSw; (try dsimp only at hSw); go_simp; try with_reducible rfl)
          try simp only [Act.put, List.setIfInBounds_toArray, List.set_cons_zero, List.set_cons_succ]
          refine wpAnyH_done (by kernel_rfl) ?_ _
          go_wp2
          refine bodyPost_ret (v := .tuple #[.agg #[.int .i64 a, .int .i64 v, .int .i64 sr, .slice (some ⟨g7, 0, none⟩) l.length l.length], .int .i64 0]) ?_ rfl ⟨a, v, sr, .slice (some ⟨g7, 0, none⟩) l.length l.length, 0, ⟨(fun h => absurd H0.out h), (fun _ h => by simp [HX.out] at h), (fun _ _ => ⟨a, HP.out, Or.inr ⟨by rw [HVV.out]; exact HNZ.out, rfl, HVV.out.symm, HSS.out.symm, rfl, by rw [HVV.out]; exact ⟨g7, F7, HF7.out, rfl, by have := (A4.out.trans T6).size; have := HG7.out; omega, ((((HR7.out.far (by have := HX4.out.lt; have := T6.size; have := HG7.out; show g7 ≠ w.heap.size; omega) _).far (by have := HX4.out.lt; have := T6.size; have := HG7.out; show g7 ≠ w.heap.size; omega) _).far (by have := HX4.out.lt; have := T6.size; have := HG7.out; show g7 ≠ w.heap.size; omega) _).far (by have := HX4.out.lt; have := T6.size; have := HG7.out; show g7 ≠ w.heap.size; omega) _)⟩⟩⟩)⟩, rfl, (((((A4.out.trans T7).set (by simp) _).set (by simp) _).set (by simp) _).set (by simp) _)⟩
          · obtain ⟨q0, q1, q2, q3⟩ := HXB.out.put4 (.int .i64 (a)) (.int .i64 (v)) (.int .i64 (sr)) (.slice (some ⟨g7, 0, none⟩) l.length l.length)
            simp [results, Try.results49, go_sem, q0, q1, q2, q3]
    · have hg' : (inB 1000000 price && (decide (rule = 1) || decide (rule = 2))) = false := by simpa using hg
      have HGD := Lib.hid hg'
      clear hg hg'
      cases hx : inB 1000000 price with
      | false =>
        rw [hx] at hpr
        have HX := Lib.hid hx
        clear hx
        go_enter Try.func49, Try.ntmps49
        go_wp2_with (first
          | (go_at_call 17; refine hck.mono ?_; rintro e w1 ⟨rfl, hb1⟩; have X := HB0.out.later hb1; have b0 := X.cell 0; have b1 := X.cell 1; have b2 := X.cell 2; have b3 := X.cell 3; have f0 := X.free 0; have f1 := X.free 1; have f2 := X.free 2; have f3 := X.free 3; have hlt := X.lt; simp only [List.getElem?_toArray, List.getElem?_cons_zero, List.getElem?_cons_succ] at b0 b1 b2 b3; have HXB := Lib.hid X; clear X)
          | (go_at_call 42; refine (hpr _).mono ?_; rintro e w2 ⟨rfl, rfl⟩))
        refine bodyPost_ret (v := .tuple #[.agg #[.int .i64 0, .int .i64 0, .int .i64 0, .slice none 0 0], .int .i64 1]) ?_ rfl ⟨0, 0, 0, .slice none 0 0, 1, ⟨fun h => absurd H0.out h, fun _ _ => ⟨rfl, rfl, rfl, rfl, rfl⟩, fun _ h => by rw [HGD.out] at h; cases h⟩, rfl, (((((A0.out.trans hb1).set (by simp) _).set (by simp) _).set (by simp) _).set (by simp) _)⟩
        · obtain ⟨q0, q1, q2, q3⟩ := HXB.out.put4 (.int .i64 (0)) (.int .i64 (0)) (.int .i64 (0)) (.slice none 0 0)
          simp [results, Try.results49, go_sem, q0, q1, q2, q3]
      | true =>
        rw [hx] at hpr
        have hr1 : (rule == 1) = false := beq_eq_false_iff_ne.2 (fun h => by have := HGD.out; rw [hx, h] at this; simp at this)
        have hr2 : (rule == 2) = false := beq_eq_false_iff_ne.2 (fun h => by have := HGD.out; rw [hx, h] at this; simp at this)
        have hn1 : (rule != 1) = true := by simp [bne, hr1]
        have hn2 : (rule != 2) = true := by simp [bne, hr2]
        have HX := Lib.hid hx
        clear hx hr1 hr2
        go_enter Try.func49, Try.ntmps49
        go_wp2_with (first
          | (go_at_call 17; refine hck.mono ?_; rintro e w1 ⟨rfl, hb1⟩; have X := HB0.out.later hb1; have b0 := X.cell 0; have b1 := X.cell 1; have b2 := X.cell 2; have b3 := X.cell 3; have f0 := X.free 0; have f1 := X.free 1; have f2 := X.free 2; have f3 := X.free 3; have hlt := X.lt; simp only [List.getElem?_toArray, List.getElem?_cons_zero, List.getElem?_cons_succ] at b0 b1 b2 b3; have HXB := Lib.hid X; clear X)
          | (go_at_call 42; refine (hpr _).mono ?_; rintro e w2 ⟨rfl, rfl⟩))
        refine bodyPost_ret (v := .tuple #[.agg #[.int .i64 0, .int .i64 0, .int .i64 0, .slice none 0 0], .int .i64 1]) ?_ rfl ⟨0, 0, 0, .slice none 0 0, 1, ⟨fun h => absurd H0.out h, fun _ _ => ⟨rfl, rfl, rfl, rfl, rfl⟩, fun _ h => by rw [HGD.out] at h; cases h⟩, rfl, (((((A0.out.trans hb1).set (by simp) _).set (by simp) _).set (by simp) _).set (by simp) _)⟩
        · obtain ⟨q0, q1, q2, q3⟩ := HXB.out.put4 (.int .i64 (0)) (.int .i64 (0)) (.int .i64 (0)) (.slice none 0 0)
          simp [results, Try.results49, go_sem, q0, q1, q2, q3]
  · have H0 := Lib.hid h0
    obtain ⟨c, hc⟩ : ∃ c, c = checkT l := ⟨_, rfl⟩
    rw [← hc] at hck h0
    have HC := Lib.hid hc
    have hc0 : (c == 0) = false := beq_eq_false_iff_ne.2 h0
    clear hL hN hc hfind hsh hst hfs hm
    go_enter Try.func49, Try.ntmps49
    go_wp2_with (go_at_call 17; refine hck.mono ?_; rintro e w1 ⟨rfl, hb1⟩; have X := HB0.out.later hb1; have b0 := X.cell 0; have b1 := X.cell 1; have b2 := X.cell 2; have b3 := X.cell 3; have f0 := X.free 0; have f1 := X.free 1; have f2 := X.free 2; have f3 := X.free 3; have hlt := X.lt; simp only [List.getElem?_toArray, List.getElem?_cons_zero, List.getElem?_cons_succ] at b0 b1 b2 b3; have HXB := Lib.hid X; clear X)
    refine bodyPost_ret (v := .tuple #[.agg #[.int .i64 0, .int .i64 0, .int .i64 0, .slice none 0 0], .int .i64 c]) ?_ rfl ⟨0, 0, 0, .slice none 0 0, c, ⟨fun _ => ⟨rfl, rfl, rfl, rfl, HC.out⟩, fun h => absurd h H0.out, fun h => absurd h H0.out⟩, rfl, (((((A0.out.trans hb1).set (by simp) _).set (by simp) _).set (by simp) _).set (by simp) _)⟩
    · obtain ⟨q0, q1, q2, q3⟩ := HXB.out.put4 (.int .i64 (0)) (.int .i64 (0)) (.int .i64 (0)) (.slice none 0 0)
      simp [results, Try.results49, go_sem, q0, q1, q2, q3]

end Go.Proofs.Ytigpghmbeldakaa
