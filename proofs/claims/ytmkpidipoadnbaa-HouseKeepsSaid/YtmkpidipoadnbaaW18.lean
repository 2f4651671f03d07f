/- pay, Deposit, Withdraw, Contribute of a house in memory. -/
import Derived.Test.YtmkpidipoadnbaaW17
namespace Go.Proofs.Ytmkpidipoadnbaa
open Go Go.RowKit Go.Sort

def accI (x : Int) : Nat := (x - 1).toNat
def accOf (h : Hs) (x : Int) : Option Ac := if inB x 1 h.ac.length then h.ac[accI x]? else none
theorem accOf_some {h : Hs} {x : Int} {a : Ac} (e : accOf h x = some a) : x = (accI x : Int) + 1 ∧ h.ac[accI x]? = some a ∧ accI x < h.ac.length := by
  unfold accOf at e
  split at e
  case isTrue hb =>
    unfold inB at hb
    simp at hb
    exact ⟨by unfold accI; omega, e, (List.getElem?_eq_some_iff.1 e).1⟩
  case isFalse => cases e
theorem accOf_none {h : Hs} {x : Int} (e : accOf h x = none) : inB x 1 h.ac.length = false := by
  unfold accOf at e
  split at e
  case isTrue hb =>
    unfold inB at hb
    simp at hb
    rw [List.getElem?_eq_none_iff] at e
    unfold accI at e
    omega
  case isFalse hb => simpa using hb
theorem encA_out (a : Ac) : (encA a)[14]? = some (.bool a.out) := by
  unfold encA
  rw [show 14 = 12 + 1 + 1 by rfl, List.getElem?_cons_succ, List.getElem?_cons_succ, List.getElem?_append_right (by rw [encM_len]; omega), encM_len]
  rfl

/-- A house with numbers that can be reckoned with. -/
structure Sound (h : Hs) : Prop where
  calm : Calm h
  few : h.ac.length ≤ 64
  acs : ∀ a ∈ h.ac, CalmA a ∧ -4611686018427387904 ≤ a.fund ∧ a.fund ≤ 4611686018427387904

/-- What refuses a trader, a payer. -/
def traderE (h : Hs) (x : Int) : Int := match accOf h x with | none => 4 | some a => if a.out then 5 else 0
def payerE (h : Hs) (x y : Int) : Int := if traderE h x = 0 then (if inB y 1 1000000000000 then 0 else 1) else traderE h x
def payE (h : Hs) (x y : Int) : Int := if payerE h x y = 0 then (match accOf h x with | none => 0 | some a => if a.cash < y then 9 else if coversB h { a with cash := a.cash - y } then 0 else 90) else payerE h x y
/-- A house in which a member's account is another. -/
def turnA (h : Hs) (x : Int) (f : Ac → Ac) : Hs := match accOf h x with | none => h | some a => { h with ac := h.ac.set (accI x) (f a) }
def ptrOf (ga : Nat) (x e : Int) : Option Addr := if e = 0 then accP ga (accI x) else none

section
variable {w : World} {base b ga ca cm ck : Nat} {pm pk : Option Addr} {h : Hs}
theorem trader_any (hh : HouseAt w base b ga ca pm cm pk ck h) (hn : h.ac.length ≤ 64) (x : Int) : TraderTo (.pointer (some ⟨b, 0, none⟩)) x w (ptrOf ga x (traderE h x)) (traderE h x) := by
  cases e : accOf h x with
  | none =>
    have e4 : traderE h x = 4 := by unfold traderE; rw [e]
    rw [e4]
    exact trader_bad _ x 4 w (by omega) (find_bad b _ ca _ x w hh.c0 (accOf_none e))
  | some a =>
    obtain ⟨h1, h2, h3⟩ := accOf_some e
    have hf : FindTo (.pointer (some ⟨b, 0, none⟩)) x w (accP ga (accI x)) 0 := by
      have := find_ok b _ ca ga (accI x) w hh.c0 h3 hn
      rw [← h1] at this
      exact this
    have ho : w.cell? ⟨ga, accI x * 15 + 14, none⟩ = some (.bool a.out) := hh.acc h2 14 _ (encA_out a)
    cases hb : a.out with
    | true =>
      have e5 : traderE h x = 5 := by unfold traderE; rw [e]; simp [hb]
      rw [e5]
      rw [hb] at ho
      exact trader_out _ x ga (accI x) w hf ho
    | false =>
      have e0 : traderE h x = 0 := by unfold traderE; rw [e]; simp [hb]
      rw [e0]
      rw [hb] at ho
      exact trader_ok _ x ga (accI x) w hf ho
theorem payer_any (hh : HouseAt w base b ga ca pm cm pk ck h) (hn : h.ac.length ≤ 64) (x y : Int) : PayerTo (.pointer (some ⟨b, 0, none⟩)) x y w (ptrOf ga x (payerE h x y)) (payerE h x y) := by
  have ht := trader_any hh hn x
  by_cases h0 : traderE h x = 0
  · rw [h0] at ht
    cases hy : inB y 1 1000000000000 with
    | true =>
      have e0 : payerE h x y = 0 := by unfold payerE; rw [if_pos h0, hy]; rfl
      rw [e0]
      exact payer_ok _ x y _ w hy ht
    | false =>
      have e1 : payerE h x y = 1 := by unfold payerE; rw [if_pos h0, hy]; rfl
      rw [e1]
      exact payer_arg _ x y _ w hy ht
  · have e1 : payerE h x y = traderE h x := by unfold payerE; rw [if_neg h0]
    have e2 : ptrOf ga x (traderE h x) = none := by unfold ptrOf; rw [if_neg h0]
    rw [e1, e2]
    rw [e2] at ht
    exact payer_bad _ x y _ w h0 ht
theorem payer_acc {x y : Int} (e : payerE h x y = 0) : ∃ a, accOf h x = some a ∧ a.out = false ∧ 1 ≤ y ∧ y ≤ 1000000000000 := by
  unfold payerE at e
  split at e
  case isTrue h0 =>
    split at e
    case isTrue hy =>
      unfold traderE at h0
      cases ha : accOf h x with
      | none => rw [ha] at h0; simp at h0
      | some a =>
        rw [ha] at h0
        refine ⟨a, rfl, ?_, ?_⟩
        · cases ho : a.out with
          | false => rfl
          | true => simp [ho] at h0
        · unfold inB at hy
          simp at hy
          exact hy
    case isFalse => omega
  case isFalse h0 => exact absurd e h0
end

end Go.Proofs.Ytmkpidipoadnbaa

namespace Go.Proofs.Ytmkpidipoadnbaa
open Go Go.RowKit Go.Sort

def lessA (y : Int) (a : Ac) : Ac := { a with cash := a.cash - y }
def moreA (y : Int) (a : Ac) : Ac := { a with cash := a.cash + y }
def giveA (y : Int) (a : Ac) : Ac := { a with cash := a.cash - y, fund := a.fund + y }
def withdrawT (h : Hs) (x y : Int) : Hs := if payE h x y = 0 then turnA h x (lessA y) else h
def depositT (h : Hs) (x y : Int) : Hs := if payerE h x y = 0 then turnA h x (moreA y) else h
def contributeT (h : Hs) (x y : Int) : Hs := if payE h x y = 0 then turnA h x (giveA y) else h
theorem turnA_some {h : Hs} {x : Int} {f : Ac → Ac} {a : Ac} (e : accOf h x = some a) : turnA h x f = { h with ac := h.ac.set (accI x) (f a) } := by unfold turnA; rw [e]

section
variable {w : World} {base b ga ca cm ck : Nat} {pm pk : Option Addr} {h : Hs}
theorem Touch.setCells {O : Nat → Prop} {g : Nat} (hg : O g) : ∀ (vs : List Value) (o : Nat) {a b : World}, Touch O a b → Touch O a (b.setCells g o vs)
  | [], _, _, _, h => h
  | v :: r, o, _, _, h => Touch.setCells hg r (o + 1) (h.set (p := ⟨g, o, none⟩) hg v)
theorem pay_any (hh : HouseAt w base b ga ca pm cm pk ck h) (hs : Sound h) (x y : Int) :
    PayTo (.pointer (some ⟨b, 0, none⟩)) x y w fun r w' => r = .returned (pairV (ptrOf ga x (payE h x y)) (payE h x y)) ∧ HouseAt w' base b ga ca pm cm pk ck (withdrawT h x y) ∧ Touch (fun k => k = ga) w w' := by
  have hp := payer_any hh hs.few x y
  by_cases h0 : payerE h x y = 0
  · obtain ⟨a, ha, _, hy1, hy2⟩ := payer_acc h0
    obtain ⟨h1, h2, h3⟩ := accOf_some ha
    have hca := (hs.acs a (List.mem_of_getElem? h2)).1
    have e0 : ptrOf ga x (payerE h x y) = accP ga (accI x) := by unfold ptrOf; rw [if_pos h0]
    rw [e0, h0] at hp
    by_cases hlt : a.cash < y
    · have e9 : payE h x y = 9 := by unfold payE; rw [if_pos h0, ha]; simp [hlt]
      have et : withdrawT h x y = h := by unfold withdrawT; rw [e9]; rfl
      rw [e9, et]
      refine (pay_funds _ x y a.cash ga (accI x) w hp (hh.acc h2 0 _ rfl) hlt).mono ?_
      rintro e w1 ⟨rfl, hA⟩
      exact ⟨rfl, hh.later hA, Touch.of_adds hA _⟩
    · cases hc : coversB h { a with cash := a.cash - y } with
      | false =>
        have e9 : payE h x y = 90 := by unfold payE; rw [if_pos h0, ha]; simp [hlt, hc]
        have et : withdrawT h x y = h := by unfold withdrawT; rw [e9]; rfl
        rw [e9, et]
        refine (pay_margin x y b cm ga (accI x) pm h a w hs.calm (hh.r hs.calm.prices) hca (hh.acc h2) hp hy1 (by omega) hc).mono ?_
        rintro e w1 ⟨rfl, hA⟩
        exact ⟨rfl, hh.later hA, Touch.of_adds hA _⟩
      | true =>
        have e9 : payE h x y = 0 := by unfold payE; rw [if_pos h0, ha]; simp [hlt, hc]
        have et : withdrawT h x y = { h with ac := h.ac.set (accI x) (lessA y a) } := by unfold withdrawT; rw [if_pos e9, turnA_some ha]
        have ep : ptrOf ga x 0 = accP ga (accI x) := rfl
        rw [e9, et, ep]
        refine (pay_ok x y b cm ga (accI x) pm h a w hs.calm (hh.r hs.calm.prices) hca (hh.acc h2) (hh.there h2) hp hy1 (by omega) hc).mono ?_
        rintro e w1 ⟨rfl, w2, hA, rfl⟩
        exact ⟨rfl, (hh.later hA).puts (lessA y a) h3, Touch.setCells (O := fun k => k = ga) (g := ga) rfl _ _ (Touch.of_adds hA _)⟩
  · have e0 : ptrOf ga x (payerE h x y) = none := by unfold ptrOf; rw [if_neg h0]
    have e9 : payE h x y = payerE h x y := by unfold payE; rw [if_neg h0]
    have et : withdrawT h x y = h := by unfold withdrawT; rw [e9, if_neg h0]
    rw [e9, et, e0]
    rw [e0] at hp
    refine (pay_bad _ x y _ w h0 hp).mono ?_
    rintro e w1 ⟨rfl, hA⟩
    exact ⟨rfl, hh.later hA, Touch.of_adds hA _⟩

set_option maxRecDepth 100000 in
theorem Withdraw_any (hh : HouseAt w base b ga ca pm cm pk ck h) (hs : Sound h) (x y : Int) :
    Calls Try.prog 9 #[.pointer (some ⟨b, 0, none⟩), .int .i64 x, .int .i64 y] w fun r w' => r = .returned (.int .i64 (payE h x y)) ∧ HouseAt w' base b ga ca pm cm pk ck (withdrawT h x y) ∧ Touch (fun k => k = ga) w w' := by
  have HP := Lib.hid (pay_any hh hs x y)
  generalize payE h x y = pe at *
  generalize ptrOf ga x pe = pt at *
  generalize withdrawT h x y = hw at *
  clear hh hs
  go_enter Try.func9, Try.ntmps9
  go_wp2_with (go_at_call 22; refine HP.out.mono ?_; rintro e w1 ⟨rfl, ha, hb⟩; have HA := Lib.hid ha; have HB := Lib.hid hb; clear ha hb)
  go_ret
  exact ⟨rfl, HA.out, HB.out⟩

set_option maxRecDepth 100000 in
theorem Deposit_any (hh : HouseAt w base b ga ca pm cm pk ck h) (hs : Sound h) (x y : Int) :
    Calls Try.prog 8 #[.pointer (some ⟨b, 0, none⟩), .int .i64 x, .int .i64 y] w fun r w' => r = .returned (.int .i64 (payerE h x y)) ∧ HouseAt w' base b ga ca pm cm pk ck (depositT h x y) ∧ Touch (fun k => k = ga) w w' := by
  have hp := payer_any hh hs.few x y
  by_cases h0 : payerE h x y = 0
  · obtain ⟨a, ha, _, hy1, hy2⟩ := payer_acc h0
    obtain ⟨h1, h2, h3⟩ := accOf_some ha
    have hca := (hs.acs a (List.mem_of_getElem? h2)).1
    have e0 : ptrOf ga x (payerE h x y) = accP ga (accI x) := by unfold ptrOf; rw [if_pos h0]
    have et : depositT h x y = { h with ac := h.ac.set (accI x) (moreA y a) } := by unfold depositT; rw [if_pos h0, turnA_some ha]
    rw [e0, h0] at hp
    rw [h0, et]
    have HP := Lib.hid hp
    have HH := Lib.hid (fun w' (hA : Adds w w') => hh.later hA)
    have H0 := Lib.hid (fun w' (hA : Adds w w') => (hh.later hA).acc h2 0 _ rfl)
    have H1 := Lib.hid (fun w' (hA : Adds w w') => ((hh.later hA).there h2 0 (by omega)).2)
    have HE := Lib.hid h2
    have hc0 := hca.cash0
    have hc1 := hca.cash1
    obtain ⟨c, hc⟩ : ∃ c, c = a.cash := ⟨_, rfl⟩
    rw [← hc] at hc0 hc1
    have HC := Lib.hid hc
    clear hp hh hs hca h0 e0 et h1 h2 h3 ha hc
    unfold accP at HP
    go_enter Try.func8, Try.ntmps8
    go_wp2_with (go_at_call 21; refine HP.out.mono ?_; rintro e w1 ⟨rfl, ha⟩; have c0 : w1.cell? ⟨ga, accI x * 15, none⟩ = some (.int .i64 c) := (H0.out w1 ha).trans (by rw [HC.out]); have c1 : w1.frozen? ⟨ga, accI x * 15, none⟩ = false := H1.out w1 ha; have HA := Lib.hid ha; clear ha)
    go_ret
    have hput := (HH.out w1 HA.out).put (j := 0) (a' := moreA y a) (u := .int .i64 (c + y)) HE.out (by omega) (by rw [HC.out]; rfl)
    exact ⟨rfl, hput, Touch.set (O := fun k => k = ga) (p := ⟨ga, accI x * 15, none⟩) (Touch.of_adds HA.out _) rfl _⟩
  · have e0 : ptrOf ga x (payerE h x y) = none := by unfold ptrOf; rw [if_neg h0]
    have et : depositT h x y = h := by unfold depositT; rw [if_neg h0]
    rw [et]
    rw [e0] at hp
    have HP := Lib.hid hp
    have HH := Lib.hid (fun w' (hA : Adds w w') => hh.later hA)
    generalize payerE h x y = pe at *
    have hne : (pe == 0) = false := by rw [beq_eq_false_iff_ne]; exact h0
    clear hp hh hs e0 et
    go_enter Try.func8, Try.ntmps8
    go_wp2_with (go_at_call 21; refine HP.out.mono ?_; rintro e w1 ⟨rfl, ha⟩; have HA := Lib.hid ha; clear ha)
    go_ret
    exact ⟨rfl, HH.out _ HA.out, Touch.of_adds HA.out _⟩

set_option maxRecDepth 100000 in
theorem Contribute_any (hh : HouseAt w base b ga ca pm cm pk ck h) (hs : Sound h) (x y : Int) :
    Calls Try.prog 10 #[.pointer (some ⟨b, 0, none⟩), .int .i64 x, .int .i64 y] w fun r w' => r = .returned (.int .i64 (payE h x y)) ∧ HouseAt w' base b ga ca pm cm pk ck (contributeT h x y) ∧ Touch (fun k => k = ga) w w' := by
  have hp := pay_any hh hs x y
  by_cases h0 : payE h x y = 0
  · have hpy : payerE h x y = 0 := by
      by_cases hq : payerE h x y = 0
      · exact hq
      · unfold payE at h0; rw [if_neg hq] at h0; exact h0
    obtain ⟨a, ha, _, hy1, hy2⟩ := payer_acc hpy
    obtain ⟨h1, h2, h3⟩ := accOf_some ha
    have hfa := (hs.acs a (List.mem_of_getElem? h2)).2
    have e0 : ptrOf ga x (payE h x y) = accP ga (accI x) := by unfold ptrOf; rw [if_pos h0]
    have ew : withdrawT h x y = { h with ac := h.ac.set (accI x) (lessA y a) } := by unfold withdrawT; rw [if_pos h0, turnA_some ha]
    have et : contributeT h x y = { h with ac := h.ac.set (accI x) (giveA y a) } := by unfold contributeT; rw [if_pos h0, turnA_some ha]
    rw [e0, h0, ew] at hp
    rw [h0, et]
    have HP := Lib.hid hp
    have hf0 := hfa.1
    have hf1 := hfa.2
    have H3 : Hid ((h.ac.set (accI x) (lessA y a))[accI x]? = some (lessA y a)) := Lib.hid (by simp [h3])
    have HSS : Hid ((h.ac.set (accI x) (lessA y a)).set (accI x) (giveA y a) = h.ac.set (accI x) (giveA y a)) := Lib.hid (by simp)
    obtain ⟨c, hc⟩ : ∃ c, c = a.fund := ⟨_, rfl⟩
    rw [← hc] at hf0 hf1
    have HC := Lib.hid hc
    clear hp hh hs hfa h0 hpy e0 ew et h1 h2 h3 ha hc
    unfold accP at HP
    go_enter Try.func10, Try.ntmps10
    go_wp2_with (go_at_call 22; refine HP.out.mono ?_; rintro e w1 ⟨rfl, ha, hb⟩; have c0 : w1.cell? ⟨ga, accI x * 15 + 1, none⟩ = some (.int .i64 c) := (ha.acc H3.out 1 _ rfl).trans (by rw [HC.out]; rfl); have c1 : w1.frozen? ⟨ga, accI x * 15 + 1, none⟩ = false := (ha.there H3.out 1 (by omega)).2; have HA := Lib.hid ha; have HB := Lib.hid hb; clear ha hb)
    go_ret
    have hput := HA.out.put (j := 1) (a' := giveA y a) (u := .int .i64 (c + y)) H3.out (by omega) (by rw [HC.out]; rfl)
    simp only [HSS.out] at hput
    exact ⟨rfl, hput, Touch.set (O := fun k => k = ga) (p := ⟨ga, accI x * 15 + 1, none⟩) HB.out rfl _⟩
  · have e0 : ptrOf ga x (payE h x y) = none := by unfold ptrOf; rw [if_neg h0]
    have ew : withdrawT h x y = h := by unfold withdrawT; rw [if_neg h0]
    have et : contributeT h x y = h := by unfold contributeT; rw [if_neg h0]
    rw [et]
    rw [e0, ew] at hp
    have HP := Lib.hid hp
    generalize payE h x y = pe at *
    have hne : (pe == 0) = false := by rw [beq_eq_false_iff_ne]; exact h0
    clear hp hh hs e0 ew et
    go_enter Try.func10, Try.ntmps10
    go_wp2_with (go_at_call 22; refine HP.out.mono ?_; rintro e w1 ⟨rfl, ha, hb⟩; have HA := Lib.hid ha; have HB := Lib.hid hb; clear ha hb)
    go_ret
    exact ⟨rfl, HA.out, HB.out⟩
end

end Go.Proofs.Ytmkpidipoadnbaa
