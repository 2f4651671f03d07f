/- Default of a house in memory. -/
import Derived.Test.YtmkpidipoadnbaaW38
namespace Go.Proofs.Ytmkpidipoadnbaa
open Go Go.RowKit Go.Sort

abbrev outA (a : Ac) : Ac := { a with out := true }
/-- The house once a member was taken out and its positions are dealt. -/
def dealtH (h : Hs) (i : Nat) (a : Ac) : Hs := handK { h with ac := h.ac.set i (outA a) } i a.pos 12
def defaultV (h : Hs) (i : Nat) (a : Ac) : Cv := coverR (dealtH h i a) i
def defaultT (h : Hs) (x : Int) : Hs := if traderE h x = 0 then (match accOf h x with | none => h | some a => (defaultV h (accI x) a).h) else h
def defaultL (h : Hs) (x : Int) : List Int := if traderE h x = 0 then (match accOf h x with | none => [0, 0, 0, 0, 0] | some a => (defaultV h (accI x) a).nums) else [0, 0, 0, 0, 0]

theorem handK_rest (h : Hs) (i : Nat) (ps : List Int) : ∀ k, (handK h i ps k).months = h.months ∧ (handK h i ps k).prices = h.prices ∧ (handK h i ps k).moves = h.moves ∧ (handK h i ps k).rate = h.rate ∧ (handK h i ps k).ks = h.ks ∧ (handK h i ps k).capital = h.capital ∧ (handK h i ps k).hole = h.hole
  | 0 => ⟨rfl, rfl, rfl, rfl, rfl, rfl, rfl⟩
  | k + 1 => handK_rest h i ps k
/-- What stays true of every account as positions come nearer to 0. -/
theorem handK_acs {P : Ac → Prop} {B : Int} (hB : 0 ≤ B) (h1 : ∀ a, P a → ∀ x ∈ a.pos, -B ≤ x ∧ x ≤ B) (h2 : ∀ a m x, P a → -B ≤ x ∧ x ≤ B → P (updP m a x)) {h : Hs} (i : Nat) (ps : List Int) (hp : ∀ a ∈ h.ac, P a) : ∀ k, ∀ a ∈ (handK h i ps k).ac, P a
  | 0 => hp
  | k + 1 => by
    have ih := handK_acs hB h1 h2 (h := h) i ps hp k
    have hg : ∀ a ∈ (handK h i ps k).ac, -B ≤ valP k a ∧ valP k a ≤ B := fun a ha => by
      show -B ≤ a.pos.getD k 0 ∧ a.pos.getD k 0 ≤ B
      rw [List.getD_eq_getElem?_getD]
      cases e : a.pos[k]? with
      | none => simp; omega
      | some x => exact h1 a (ih a ha) x (List.mem_of_getElem? e)
    have hd : ∀ a ∈ (drawH (handK h i ps k) (decide (ps.getD k 0 < 0)) (valP k) (updP k) (max (ps.getD k 0) (-(ps.getD k 0)))).ac, P a :=
      putAcs_all (Q := fun x => -B ≤ x ∧ x ≤ B) (fun a x h hx => h2 a k x h hx) _ _ ih (fun y hy => near_bd (by omega) (potV_bd hB hg _) y.2 (List.of_mem_zip hy).2)
    show ∀ a ∈ (zeroA (drawH (handK h i ps k) (decide (ps.getD k 0 < 0)) (valP k) (updP k) (max (ps.getD k 0) (-(ps.getD k 0)))) i k).ac, P a
    generalize drawH (handK h i ps k) (decide (ps.getD k 0 < 0)) (valP k) (updP k) (max (ps.getD k 0) (-(ps.getD k 0))) = D at hd
    unfold zeroA
    dsimp only
    split
    case h_1 a ha =>
      intro c hc
      rcases List.mem_or_eq_of_mem_set hc with e | e
      · exact hd c e
      · rw [e]; exact h2 a k 0 (hd a (List.mem_of_getElem? ha)) (by omega)
    case h_2 => exact hd
theorem dealt_len (h : Hs) (i : Nat) (a : Ac) : (dealtH h i a).ac.length = h.ac.length := by
  unfold dealtH
  rw [handK_len]
  show (h.ac.set i _).length = _
  rw [List.length_set]
theorem dealt_ok {h : Hs} (ok : CovOK h) (hp : PosOK h.ac) (i : Nat) (a : Ac) (ha : a ∈ h.ac) : CovOK (dealtH h i a) := by
  have hr := handK_rest { h with ac := h.ac.set i (outA a) } i a.pos 12
  have key := handK_acs (P := fun c => (c.pos.length = 12 ∧ ∀ x ∈ c.pos, -4611686018427387904 ≤ x ∧ x ≤ 4611686018427387904) ∧ (-4611686018427387904 ≤ valC c ∧ valC c ≤ 4611686018427387904) ∧ (-4611686018427387904 ≤ valF c ∧ valF c ≤ 4611686018427387904)) (B := 4611686018427387904) (by omega) (fun a h x hx => h.1.2 x hx) (fun a m x h hx => ⟨posOK_upd h.1 hx, h.2⟩) (h := { h with ac := h.ac.set i (outA a) }) i a.pos (fun c hc => by
    have hc : c ∈ h.ac.set i (outA a) := hc
    rcases List.mem_or_eq_of_mem_set hc with e | e
    · exact ⟨hp c e, ok.cash c e, ok.fund c e⟩
    · rw [e]; exact ⟨hp a ha, ok.cash a ha, ok.fund a ha⟩) 12
  exact ⟨fun a ha => (key a ha).1.1, by rw [dealt_len]; exact ok.few, by unfold dealtH; rw [hr.2.1]; exact ok.pr, fun a ha => (key a ha).2.1, fun a ha => (key a ha).2.2, by unfold dealtH; rw [hr.2.2.2.2.2.1]; exact ok.cap⟩

section
variable {w : World} {base b ga ca cm ck : Nat} {pm pk : Option Addr} {h : Hs}
set_option maxRecDepth 100000 in
theorem default_bad (v : Value) (x e : Int) (w : World) (he : e ≠ 0) (hf : ∀ W, Adds w W → TraderTo v x W none e) : Calls Try.prog 14 #[v, .int .i64 x] w fun r w' => r = .returned (.tuple #[.agg (five [0, 0, 0, 0, 0]), .int .i64 e]) ∧ Adds w w' := by
  have HF := Lib.hid hf
  have hne : (e == 0) = false := by rw [beq_eq_false_iff_ne]; exact he
  clear hf
  obtain ⟨s, hs⟩ : ∃ s, s = w.heap.size := ⟨_, rfl⟩
  have HS := Lib.hid hs
  go_enter Try.func14, Try.ntmps14
  go_upto_region 2 with (go_at_call 29; refine (HF.out _ ((Adds.refl w).alloc _)).mono ?_; rintro e w1 ⟨rfl, ha⟩; have HA := Lib.hid ha; clear ha)
  rw [← hs]
  have bx : Box w1 s #[.int .i64 0, .int .i64 0, .int .i64 0, .int .i64 0, .int .i64 0] 48 := (box_new hs).later HA.out
  have BX := Lib.hid bx
  have e0 := bx.cell 0
  have e1 := bx.cell 1
  have e2 := bx.cell 2
  have e3 := bx.cell 3
  have e4 := bx.cell 4
  have g0 := bx.free 0
  have g1 := bx.free 1
  have g2 := bx.free 2
  have g3 := bx.free 3
  have g4 := bx.free 4
  clear bx hs
  go_wp2
  have HA2 : Adds w w1 := ((Adds.refl w).alloc _).trans HA.out
  have bF : Box (w1.setCells s 0 [.int .i64 0, .int .i64 0, .int .i64 0, .int .i64 0, .int .i64 0]) s #[.int .i64 0, .int .i64 0, .int .i64 0, .int .i64 0, .int .i64 0] 48 := BX.out.setCells [.int .i64 0, .int .i64 0, .int .i64 0, .int .i64 0, .int .i64 0] 0
  refine post_row2 (vs := #[.int .i64 0, .int .i64 0, .int .i64 0, .int .i64 0, .int .i64 0]) (v := .int .i64 e) rfl rfl rfl rfl rfl Try.underlying48 info_loss bF ⟨rfl, ?_⟩
  show Adds w (w1.setCells s 0 [.int .i64 0, .int .i64 0, .int .i64 0, .int .i64 0, .int .i64 0])
  exact Adds.setCells (b := s) (by have := HS.out; omega) _ 0 HA2
set_option maxRecDepth 100000 in
set_option maxHeartbeats 2000000 in
theorem default_ok (hh : HouseAt w base b ga ca pm cm pk ck h) (ok : CovOK h) (hp : PosOK h.ac) (hh0 : 0 ≤ h.hole) (hh1 : h.hole < 4611686018427387904) (x : Int) (i : Nat) (a : Ac) (ha : h.ac[i]? = some a) (hf : ∀ W, Adds w W → TraderTo (.pointer (some ⟨b, 0, none⟩)) x W (accP ga i) 0) :
    Calls Try.prog 14 #[.pointer (some ⟨b, 0, none⟩), .int .i64 x] w fun r w' => r = .returned (.tuple #[.agg (five (defaultV h i a).nums), .int .i64 0]) ∧ HouseAt w' base b ga ca pm cm pk ck (defaultV h i a).h ∧ Touch (fun k => k = ga ∨ k = b) w w' := by
  have hgb := hh.blk.2.elim fun _ e => (Array.getElem?_eq_some_iff.1 e).1
  have HGB := Lib.hid hgb
  have HBB := Lib.hid hh.bx.lt
  have HF := Lib.hid hf
  have HOUT := Lib.hid (fun W (hW : Adds w W) => (hh.later hW).acc ha 14 _ (encA_out a))
  have HFR := Lib.hid (fun W (hW : Adds w W) => ((hh.later hW).there ha 14 (by omega)).2)
  have HPUT := Lib.hid (fun W (hW : Adds w W) => (hh.later hW).put (j := 14) (a' := outA a) (u := .bool true) ha (by omega) (by
    show encA (outA a) = _
    unfold encA
    rw [show 14 = 12 + 1 + 1 by rfl, List.set_cons_succ, List.set_cons_succ, List.set_append_right _ _ (by rw [encM_len]; omega), encM_len]
    rfl))
  have HHA := Lib.hid (fun W (hW : HouseAt W base b ga ca pm cm pk ck { h with ac := h.ac.set i (outA a) }) => handOver_any hW (by show (h.ac.set i _).length ≤ 20; rw [List.length_set]; exact ok.few) (by
    intro c hc
    rcases List.mem_or_eq_of_mem_set hc with e | e
    · exact hp c e
    · rw [e]; exact hp a (List.mem_of_getElem? ha)) i (outA a) (by show (h.ac.set i _)[i]? = _; rw [List.getElem?_set_self (List.getElem?_eq_some_iff.1 ha).1]))
  have HCO := Lib.hid (fun W (hW : HouseAt W base b ga ca pm cm pk ck (dealtH h i a)) => cover_any hW (dealt_ok ok hp i a (List.mem_of_getElem? ha)) i (by rw [dealt_len]; exact (List.getElem?_eq_some_iff.1 ha).1) (by unfold dealtH; rw [(handK_rest _ i a.pos 12).2.2.2.2.2.2]; exact hh0) (by unfold dealtH; rw [(handK_rest _ i a.pos 12).2.2.2.2.2.2]; exact hh1))
  obtain ⟨G1, hG1⟩ : ∃ G, G = { h with ac := h.ac.set i (outA a) } := ⟨_, rfl⟩
  rw [← hG1] at HPUT HHA
  have HG2 : Hid (handK G1 i (outA a).pos 12 = dealtH h i a) := Lib.hid (by rw [hG1]; rfl)
  rw [HG2.out] at HHA
  obtain ⟨y0, y1, y2, y3, y4, hy⟩ := five_open (defaultV h i a).nums
  have hv : coverR (dealtH h i a) i = defaultV h i a := rfl
  rw [hv, hy] at HCO
  have HY := Lib.hid hy
  obtain ⟨ob, hob⟩ : ∃ o, o = a.out := ⟨_, rfl⟩
  rw [← hob] at HOUT
  clear hh ok hp hh0 hh1 ha hf hgb hy hob hG1 hv HG2
  obtain ⟨G2, hG2⟩ : ∃ G, G = dealtH h i a := ⟨_, rfl⟩
  rw [← hG2] at HHA HCO
  clear hG2
  obtain ⟨s, hs⟩ : ∃ s, s = w.heap.size := ⟨_, rfl⟩
  have HS := Lib.hid hs
  unfold accP at HF
  go_enter Try.func14, Try.ntmps14
  go_upto_region 4 with (go_at_call 29; refine (HF.out _ ((Adds.refl w).alloc _)).mono ?_; rintro e w1 ⟨rfl, ha⟩; have HA := Lib.hid ha; clear ha)
  rw [← hs]
  have bx : Box w1 s #[.int .i64 0, .int .i64 0, .int .i64 0, .int .i64 0, .int .i64 0] 48 := (box_new hs).later HA.out
  have BX := Lib.hid bx
  have HA2 : Hid (Adds w w1) := Lib.hid (((Adds.refl w).alloc _).trans HA.out)
  have d0 := HOUT.out w1 HA2.out
  have d1 := HFR.out w1 HA2.out
  clear bx hs HA
  go_upto_region 5 with fail
  have h2 := HPUT.out w1 HA2.out
  have t2 : Touch (fun k => (k = ga ∨ k = b) ∨ w.heap.size ≤ k) w (w1.setCell ⟨ga, i * 15 + 14, none⟩ (.bool true)) := (Touch.of_adds HA2.out _).set (p := ⟨ga, i * 15 + 14, none⟩) (.inl (.inl rfl)) _
  have b2 := BX.out.far (p := ⟨ga, i * 15 + 14, none⟩) (by have := HGB.out; have := HS.out; show s ≠ ga; omega) (.bool true)
  obtain ⟨W2, hW2⟩ : ∃ V, V = w1.setCell ⟨ga, i * 15 + 14, none⟩ (.bool true) := ⟨_, rfl⟩
  rw [← hW2] at h2 t2 b2 ⊢
  have H2 := Lib.hid h2
  have T2 := Lib.hid t2
  have B2 := Lib.hid b2
  clear h2 t2 b2 hW2 d0 d1 BX HPUT HOUT HFR
  have HSG : Hid (s ≠ ga ∧ s ≠ b ∧ w.heap.size ≤ s) := Lib.hid (by have := HGB.out; have := HS.out; have := HBB.out; omega)
  go_upto_region 6 with (go_at_call 30; refine (HHA.out _ H2.out).mono ?_; rintro e w3 ⟨rfl, h3, t3⟩; have H3 := Lib.hid h3; have T3 := Lib.hid t3; clear h3 t3)
  have B3 : Hid (Box w3 s #[.int .i64 0, .int .i64 0, .int .i64 0, .int .i64 0, .int .i64 0] 48) := Lib.hid (B2.out.same (T3.out.same s B2.out.lt HSG.out.1))
  have TT3 : Hid (Touch (fun k => (k = ga ∨ k = b) ∨ w.heap.size ≤ k) w w3) := Lib.hid (T2.out.trans (T3.out.mono fun k hk => .inl (.inl hk)))
  clear HHA T3 B2 H2 T2
  go_wp2_with (go_at_call 31; refine (HCO.out _ H3.out).mono ?_; rintro e w4 ⟨rfl, h4, t4⟩; have H4 := Lib.hid h4; have T4 := Lib.hid t4; have b4 : Box w4 s #[.int .i64 0, .int .i64 0, .int .i64 0, .int .i64 0, .int .i64 0] 48 := B3.out.same (T4.out.same s B3.out.lt (by have := HSG.out; omega)); have B4 := Lib.hid b4; have e0 := b4.cell 0; have e1 := b4.cell 1; have e2 := b4.cell 2; have e3 := b4.cell 3; have e4 := b4.cell 4; have g0 := b4.free 0; have g1 := b4.free 1; have g2 := b4.free 2; have g3 := b4.free 3; have g4 := b4.free 4; clear h4 t4 b4)
  have TT4 : Touch (fun k => (k = ga ∨ k = b) ∨ w.heap.size ≤ k) w w4 := TT3.out.trans (T4.out.mono fun k hk => .inl hk)
  have bF : Box (w4.setCells s 0 [.int .i64 y0, .int .i64 y1, .int .i64 y2, .int .i64 y3, .int .i64 y4]) s #[.int .i64 y0, .int .i64 y1, .int .i64 y2, .int .i64 y3, .int .i64 y4] 48 := B4.out.setCells [.int .i64 y0, .int .i64 y1, .int .i64 y2, .int .i64 y3, .int .i64 y4] 0
  have hF := H4.out.aparts B4.out HSG.out.1 HSG.out.2.1 [.int .i64 y0, .int .i64 y1, .int .i64 y2, .int .i64 y3, .int .i64 y4] 0
  have tF : Touch (fun k => (k = ga ∨ k = b) ∨ w.heap.size ≤ k) w (w4.setCells s 0 [.int .i64 y0, .int .i64 y1, .int .i64 y2, .int .i64 y3, .int .i64 y4]) := Touch.setCells (O := fun k => (k = ga ∨ k = b) ∨ w.heap.size ≤ k) (g := s) (.inr HSG.out.2.2) _ _ TT4
  refine post_row2 (vs := #[.int .i64 y0, .int .i64 y1, .int .i64 y2, .int .i64 y3, .int .i64 y4]) (v := .int .i64 0) rfl rfl rfl rfl rfl Try.underlying48 info_loss bF ⟨?_, hF, tF.fresh⟩
  rw [HY.out]
theorem Default_any (hh : HouseAt w base b ga ca pm cm pk ck h) (ok : CovOK h) (hp : PosOK h.ac) (hh0 : 0 ≤ h.hole) (hh1 : h.hole < 4611686018427387904) (x : Int) :
    Calls Try.prog 14 #[.pointer (some ⟨b, 0, none⟩), .int .i64 x] w fun r w' => r = .returned (.tuple #[.agg (five (defaultL h x)), .int .i64 (traderE h x)]) ∧ HouseAt w' base b ga ca pm cm pk ck (defaultT h x) ∧ Touch (fun k => k = ga ∨ k = b) w w' := by
  have hf : ∀ W, Adds w W → TraderTo (.pointer (some ⟨b, 0, none⟩)) x W (ptrOf ga x (traderE h x)) (traderE h x) := fun W hW => trader_any (hh.later hW) (by have := ok.few; omega) x
  unfold defaultL defaultT
  by_cases h0 : traderE h x = 0
  · rw [if_pos h0, if_pos h0]
    rw [h0] at hf ⊢
    cases e : accOf h x with
    | none => unfold traderE at h0; rw [e] at h0; cases h0
    | some a => exact default_ok hh ok hp hh0 hh1 x (accI x) a (accOf_some e).2.1 hf
  · rw [if_neg h0, if_neg h0]
    have e0 : ptrOf ga x (traderE h x) = none := by unfold ptrOf; rw [if_neg h0]
    rw [e0] at hf
    refine (default_bad _ x _ w h0 hf).mono ?_
    rintro r w' ⟨rfl, hA⟩
    exact ⟨rfl, hh.later hA, Touch.of_adds hA _⟩
end

end Go.Proofs.Ytmkpidipoadnbaa
