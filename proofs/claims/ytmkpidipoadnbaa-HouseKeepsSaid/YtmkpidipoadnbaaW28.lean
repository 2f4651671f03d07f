/- Trade and Mark of a house in memory, whatever is asked. -/
import Derived.Test.YtmkpidipoadnbaaW23
import Derived.StillTailTactics
import Derived.Test.YtmkpidipoadnbaaW24
import Derived.Test.YtmkpidipoadnbaaW25
import Derived.Test.YtmkpidipoadnbaaW26
import Derived.Test.YtmkpidipoadnbaaW27
namespace Go.Proofs.Ytmkpidipoadnbaa
open Go Go.RowKit Go.Sort

/-- A house of which the first i members are marked. -/
def markK (h : Hs) (m : Nat) (d : Int) (i : Nat) : Hs := { h with ac := (h.ac.take i).map (markA m d) ++ h.ac.drop i }
section
variable {w : World} {base b ga ca cm ck : Nat} {pm pk : Option Addr} {h : Hs}
set_option maxRecDepth 100000 in
set_option maxHeartbeats 2000000 in
theorem mark_ok {B : Nat} (hh : HouseAt w base b ga ca pm cm pk ck h) (ht : Tame B h) (hB : B ≤ 199) (hmo : h.months ≤ 12) (m : Nat) (p : Int) (hm : m < h.months) (hp : 1 ≤ p ∧ p ≤ 1000000) :
    Calls Try.prog 13 #[.pointer (some ⟨b, 0, none⟩), .int .i64 (m : Int), .int .i64 p] w fun r w' => ∃ q c, r = .returned (.tuple #[.slice q (callL (markT h m p) h.ac.length).length c, .int .i64 0]) ∧ HouseAt w' base b ga ca pm cm pk ck (markT h m p) ∧ w'.ownsRow w.heap.size 3 1 (.slice q (callL (markT h m p) h.ac.length).length c) (callL (markT h m p) h.ac.length).length ((callL (markT h m p) h.ac.length).map (Value.int .i64)) ∧ Touch (fun k => k = ga ∨ k = b) w w' := by
  have hpl := ht.calm.prices
  have hm12 : m < 12 := by omega
  have hx : h.prices[m]? = some (h.prices.getD m 0) := by rw [List.getD_eq_getElem?_getD, List.getElem?_eq_getElem (by omega)]; rfl
  have hTM := (markT_tame ht (by omega) m p hp).sound (by omega)
  have hE : markT h m p = { (markK h m (p - h.prices.getD m 0) h.ac.length) with prices := h.prices.set m p } := by
    unfold markT markK
    rw [List.take_length, List.drop_length, List.append_nil]
  rw [hE] at hTM ⊢
  obtain ⟨x, hxe⟩ : ∃ x, x = h.prices.getD m 0 := ⟨_, rfl⟩
  rw [← hxe] at hx hTM ⊢
  have hxb := ht.calm.price x (List.mem_of_getElem? hx)
  have hx0 := hxb.1
  have hx1 := hxb.2
  have hp1 := hp.1
  have hp2 := hp.2
  have HM := Lib.hid (fun W (hW : Adds w W) => month_any b h.months m W (hh.later hW).c1)
  have HP := Lib.hid (fun W => price_any p W)
  rw [show belowB (m : Int) h.months = true by unfold belowB; simp; omega] at HM
  rw [show inB p 1 1000000 = true by unfold inB; simp; omega] at HP
  have hn := ht.few
  have HBK := Lib.hid (fun (W : World) (i : Nat) (a : Ac) (hi : h.ac[i]? = some a) (hW : HouseAt W base b ga ca pm cm pk ck (markK h m (p - x) i)) => by
    have ha := List.mem_of_getElem? hi
    have h1 := pos_getD ht ha m
    have h2 := mul_bd2 (A := 1000000 * 200) (B := 2000000) (y := a.pos.getD m 0) (d := p - x) (by omega) (by omega) (by omega) (by omega)
    have h3 := ht.cash a ha
    have := book_at (i := i) (m := m) (a := a) hW 0 (a.pos.getD m 0 * (p - x)) (get_mid _ hi) (ht.len a ha) hm12 (by omega) (by omega) (by omega) (by omega)
    rw [show { markK h m (p - x) i with ac := (markK h m (p - x) i).ac.set i (bookA m 0 (a.pos.getD m 0 * (p - x)) a) } = markK h m (p - x) (i + 1) by
      unfold markK
      rw [← set_mid (markA m (p - x)) hi]
      rfl] at this
    exact this)
  have HPC := Lib.hid (fun (W : World) (i : Nat) (a : Ac) (hi : h.ac[i]? = some a) (hW : HouseAt W base b ga ca pm cm pk ck (markK h m (p - x) i)) => hW.posc (m := m) (get_mid _ hi) (ht.len a (List.mem_of_getElem? hi)) hm12)
  have HPB := Lib.hid (fun (i : Nat) (a : Ac) (hi : h.ac[i]? = some a) => pos_getD ht (List.mem_of_getElem? hi) m)
  have HC0 := Lib.hid (fun (W : World) (i : Nat) (hW : HouseAt W base b ga ca pm cm pk ck (markK h m (p - x) i)) => hW.c0)
  have HPX := Lib.hid (fun (W : World) (i : Nat) (hW : HouseAt W base b ga ca pm cm pk ck (markK h m (p - x) i)) => hW.pr m (.int .i64 x) (by show (List.map _ h.prices)[m]? = _; rw [List.getElem?_map, hx]; rfl))
  have HPR := Lib.hid (fun (W : World) (hW : HouseAt W base b ga ca pm cm pk ck (markK h m (p - x) h.ac.length)) => hW.price m p (by show m < h.prices.length; omega))
  have HCL := Lib.hid (fun (W : World) (hW : HouseAt W base b ga ca pm cm pk ck { (markK h m (p - x) h.ac.length) with prices := h.prices.set m p }) => Calls_any hW hTM)
  have HLN : Hid (∀ i, (markK h m (p - x) i).ac.length = h.ac.length) := Lib.hid (fun i => len_mid _ _ _)
  have HH0 : Hid (HouseAt w base b ga ca pm cm pk ck (markK h m (p - x) 0)) := Lib.hid (by unfold markK; exact hh)
  have HFB := Lib.hid (fun (W : World) (hW : HouseAt W base b ga ca pm cm pk ck (markK h m (p - x) h.ac.length)) => hW.bx.free (2 + m))
  obtain ⟨n, hnn⟩ : ∃ n, n = h.ac.length := ⟨_, rfl⟩
  have HNN := Lib.hid hnn
  rw [← hnn] at hn HCL HPR HFB HLN ⊢
  have HIN : Hid (∀ i, i < n → ∃ a, h.ac[i]? = some a) := Lib.hid (fun i hi => ⟨_, List.getElem?_eq_getElem (by rw [← hnn]; exact hi)⟩)
  have hcl : ({ (markK h m (p - x) n) with prices := h.prices.set m p } : Hs).ac.length = n := HLN.out n
  simp only [hcl] at HCL
  have m2 : (0 : Int) ≤ (m : Int) := by omega
  have m3 : (m : Int) < 12 := by omega
  have hw1 : IntKind.i64.wrap (p - x) = p - x := by rw [IntKind.wrap_i64]; omega
  clear hh ht hpl hx hTM hE hxe hxb hp hm hmo hnn hcl
  go_enter Try.func13, Try.ntmps13
  go_upto_region 7 with (first
    | (go_at_call 26; refine (HM.out _ (Adds.refl _)).mono ?_; rintro e w1 ⟨rfl, ha⟩; have HA := Lib.hid ha; clear ha)
    | (go_at_call 27; refine (HP.out _).mono ?_; rintro e w2 ⟨rfl, ha⟩; have HA2 := Lib.hid (HA.out.trans ha); clear ha))
  have HH2 := Lib.hid (HH0.out.later HA2.out)
  have c0 : w2.cell? ⟨b, 0, none⟩ = some (.slice (some ⟨ga, 0, none⟩) n ca) := by have := HC0.out w2 0 HH2.out; rw [HLN.out] at this; exact this
  go_upto_region 8 with fail
  clear c0 HM HP
  go_loopw [27] (fun v27 wr => ∃ i : Nat, i ≤ n ∧ v27 = .int .i64 i ∧ Hid (HouseAt wr base b ga ca pm cm pk ck (markK h m (p - x) i)) ∧ Hid (Touch (fun k => k = ga) w2 wr)) (fun v27 _ => n - (intOf v27).toNat)
  case atStart => exact ⟨0, by omega, rfl, HH2, Lib.hid (Touch.refl _ _)⟩
  case round =>
    obtain ⟨i, hi, rfl, HHI, HT⟩ := hrel
    by_cases hlt : i < n
    · have i2 : (i : Int) < (n : Int) := by omega
      have i3 : (0 : Int) ≤ (i : Int) := by omega
      obtain ⟨a, ha⟩ : ∃ a, h.ac[i]? = some a := HIN.out i hlt
      have c0 : wr.cell? ⟨b, 0, none⟩ = some (.slice (some ⟨ga, 0, none⟩) n ca) := by have := HC0.out wr i HHI.out; rw [HLN.out] at this; exact this
      have dp := HPC.out wr i a ha HHI.out
      have dx := HPX.out wr i HHI.out
      have hyb := HPB.out i a ha
      have HB := Lib.hid (fun W hW => HBK.out W i a ha hW)
      obtain ⟨y, hy⟩ : ∃ y, y = a.pos.getD m 0 := ⟨_, rfl⟩
      rw [← hy] at dp hyb HB
      have hmb := mul_bd2 (A := 1000000 * 200) (B := 2000000) (y := y) (d := p - x) (by omega) (by omega) (by omega) (by omega)
      obtain ⟨g, hg⟩ : ∃ g, g = y * (p - x) := ⟨_, rfl⟩
      have hw2 : IntKind.i64.wrap (y * (p - x)) = g := by rw [← hg, IntKind.wrap_i64]; omega
      rw [← hg] at HB
      clear hy hg hmb ha hyb
      go_upto_region 11 with fail
      go_still_tail 17, (by kernel_rfl)
      change wpList _ _ _ _ _ wr.drew
      go_wp2_with (go_at_call 25; refine (HB.out _ HHI.out.drew).mono ?_; rintro e w4 ⟨rfl, hc, hd⟩; have K1 := Lib.hid hc; have T1 := Lib.hid hd; clear hc hd)
      exact ⟨⟨i + 1, by omega, by go_num, K1, Lib.hid ((HT.out.behind ((Adds.refl wr).drew)).trans T1.out)⟩, by simp [intOf]; omega⟩
    · have hin : n = i := by omega
      subst hin
      have dx := HPX.out wr n HHI.out
      have df := HFB.out wr HHI.out
      have HF := Lib.hid (HPR.out wr HHI.out)
      go_wp2_with (go_at_call 28; refine (HCL.out _ HF.out).mono ?_; rintro e w5 ⟨q, c, rfl, h1, h2⟩; have HO5 := Lib.hid h1; have HA5 := Lib.hid h2; clear h1 h2)
      go_ret2
      have hT : Touch (fun k => k = ga ∨ k = b) w w5 := (((Touch.of_adds HA2.out _).trans (HT.out.mono (fun k hk => .inl hk))).set (p := ⟨b, 2 + m, none⟩) (.inr rfl) (.int .i64 p)).behind HA5.out
      exact ⟨q, c, rfl, HF.out.later HA5.out, own_base_le HO5.out (by have := hT.size; have h3 := HA2.out.size; have h4 := HT.out.size; simp [World.setCell]; omega), hT⟩
end

end Go.Proofs.Ytmkpidipoadnbaa

namespace Go.Proofs.Ytmkpidipoadnbaa
open Go Go.RowKit Go.Sort

/-- What a contract gains at once. -/
def tradeG (h : Hs) (mo q pr : Int) : Int := q * (h.prices.getD mo.toNat 0 - pr)
def tradeE (h : Hs) (bu se mo q pr : Int) : Int :=
  if contractE h bu se mo q pr = 0 then
    (match accOf h bu, accOf h se with
    | some a1, some a2 => if allowsB h a1 mo.toNat q (tradeG h mo q pr) = true ∧ allowsB h a2 mo.toNat (-q) (-(tradeG h mo q pr)) = true then 0 else 90
    | _, _ => 4)
  else contractE h bu se mo q pr
def tradeT (h : Hs) (bu se mo q pr : Int) : Hs :=
  if tradeE h bu se mo q pr = 0 then
    { turnA (turnA h bu (bookA mo.toNat q (tradeG h mo q pr))) se (bookA mo.toNat (-q) (-(tradeG h mo q pr))) with ks := h.ks ++ [(bu, se, mo, q, pr)] }
  else h
def tradeN (h : Hs) (bu se mo q pr : Int) : Int := if tradeE h bu se mo q pr = 0 then (h.ks.length : Int) + 1 else 0
/-- A house's own row of contracts. -/
abbrev OwnK (w : World) (base : Nat) (pk : Option Addr) (ck : Nat) (l : List Kt) : Prop := w.ownsRow base 42 5 (.slice pk l.length ck) l.length (l.flatMap encK)

theorem tame_few {B : Nat} {h : Hs} (t : Tame B h) (hB : B ≤ 200) {a : Ac} (ha : a ∈ h.ac) (m : Nat) (q : Int) (hq : -1000000 ≤ q ∧ q ≤ 1000000) : Few 1152921504606846976 (a.pos.set m (a.pos[m]! + q)) := by
  intro x hx
  rcases List.mem_or_eq_of_mem_set hx with e | e
  · have := t.pos a ha x e
    omega
  · have h1 := pos_getD t ha m
    have e2 : a.pos[m]! = a.pos.getD m 0 := by rw [List.getD_eq_getElem?_getD, List.getElem!_eq_getElem?_getD]; rfl
    rw [e, e2]
    omega

section
variable {w : World} {base b ga ca cm ck : Nat} {pm pk : Option Addr} {h : Hs}
theorem own_trans {w w' : World} {base t size n : Nat} {v : Value} {xs : List Value} {O : Nat → Prop} (h : w.ownsRow base t size v n xs) (ht : Touch O w w') (hO : ∀ k, v.ownBlock = some k → ¬ O k) : w'.ownsRow base t size v n xs :=
  own_same h fun k hk => by
    obtain ⟨_, cur2, h2⟩ := own_block h hk
    exact ht.same k (Array.getElem?_eq_some_iff.1 h2).1 (hO k hk)
theorem Trade_any {B : Nat} (hh : HouseAt w base b ga ca pm cm pk ck h) (ht : Tame B h) (hB : B ≤ 199) (hmo : h.months ≤ 12) (hko : OwnK w base pk ck h.ks) (hkn : h.ks.length ≤ 1000) (bu se mo q pr : Int) :
    TradeTo (.pointer (some ⟨b, 0, none⟩)) bu se mo q pr w fun r w' => ∃ pk' ck', r = .returned (.tuple #[.int .i64 (tradeN h bu se mo q pr), .int .i64 (tradeE h bu se mo q pr)]) ∧ HouseAt w' base b ga ca pm cm pk' ck' (tradeT h bu se mo q pr) ∧ OwnK w' base pk' ck' (tradeT h bu se mo q pr).ks ∧ Touch (fun k => k = ga ∨ k = b ∨ (Value.slice pk h.ks.length ck).ownBlock = some k) w w' := by
  have hs := ht.sound (by omega)
  have hck : ∀ W, Adds w W → CheckTo (.pointer (some ⟨b, 0, none⟩)) bu se mo q pr W (contractE h bu se mo q pr) := fun W hW => check_any (hh.later hW) hs.few bu se mo q pr
  have stay : ∀ e : Int, e ≠ 0 → tradeE h bu se mo q pr = e → (TradeTo (.pointer (some ⟨b, 0, none⟩)) bu se mo q pr w fun r w' => r = .returned (.tuple #[.int .i64 0, .int .i64 e]) ∧ Adds w w') →
      TradeTo (.pointer (some ⟨b, 0, none⟩)) bu se mo q pr w fun r w' => ∃ pk' ck', r = .returned (.tuple #[.int .i64 (tradeN h bu se mo q pr), .int .i64 (tradeE h bu se mo q pr)]) ∧ HouseAt w' base b ga ca pm cm pk' ck' (tradeT h bu se mo q pr) ∧ OwnK w' base pk' ck' (tradeT h bu se mo q pr).ks ∧ Touch (fun k => k = ga ∨ k = b ∨ (Value.slice pk h.ks.length ck).ownBlock = some k) w w' := fun e he ee hc => by
    have e1 : tradeT h bu se mo q pr = h := by unfold tradeT; rw [if_neg (by rw [ee]; exact he)]
    have e2 : tradeN h bu se mo q pr = 0 := by unfold tradeN; rw [if_neg (by rw [ee]; exact he)]
    rw [e1, e2, ee]
    refine hc.mono ?_
    rintro r w' ⟨rfl, hA⟩
    exact ⟨pk, ck, rfl, hh.later hA, own_later hko hA, Touch.of_adds hA _⟩
  by_cases h0 : contractE h bu se mo q pr = 0
  · obtain ⟨a1, a2, e1, e2, _, _, hne, hm, hq, hp⟩ := check_ok h0
    obtain ⟨x1, x2, x3⟩ := accOf_some e1
    obtain ⟨y1, y2, y3⟩ := accOf_some e2
    have hmt : mo = ((mo.toNat : Nat) : Int) := by omega
    have hm12 : mo.toNat < 12 := by omega
    have hij : accI bu ≠ accI se := by omega
    rw [h0] at hck
    have f1 := tame_few ht (by omega) (List.mem_of_getElem? x2) mo.toNat q (by omega)
    have f2 := tame_few ht (by omega) (List.mem_of_getElem? y2) mo.toNat (-q) (by omega)
    have ee : tradeE h bu se mo q pr = if allowsB h a1 mo.toNat q (tradeG h mo q pr) = true ∧ allowsB h a2 mo.toNat (-q) (-(tradeG h mo q pr)) = true then 0 else 90 := by
      unfold tradeE; rw [if_pos h0, e1, e2]
    have hck2 : ∀ W, Adds w W → CheckTo (.pointer (some ⟨b, 0, none⟩)) ((accI bu : Int) + 1) ((accI se : Int) + 1) (mo.toNat : Int) q pr W 0 := fun W hW => by
      rw [← x1, ← y1, ← hmt]
      exact hck W hW
    have hT : ∀ Q, TradeTo (.pointer (some ⟨b, 0, none⟩)) ((accI bu : Int) + 1) ((accI se : Int) + 1) (mo.toNat : Int) q pr w Q → TradeTo (.pointer (some ⟨b, 0, none⟩)) bu se mo q pr w Q := fun Q hQ => by
      rw [← x1, ← y1, ← hmt] at hQ
      exact hQ
    cases c1 : allowsB h a1 mo.toNat q (tradeG h mo q pr) with
    | false =>
      refine stay 90 (by omega) (by rw [ee, c1]; rfl) ?_
      exact hT _ (trade_1 hh hs q pr (tradeG h mo q pr) hck2 hq hp x2 y2 hij hm12 rfl f1 f2 c1)
    | true =>
      cases c2 : allowsB h a2 mo.toNat (-q) (-(tradeG h mo q pr)) with
      | false =>
        refine stay 90 (by omega) (by rw [ee, c1, c2]; rfl) ?_
        exact hT _ (trade_2 hh hs q pr (tradeG h mo q pr) hck2 hq hp x2 y2 hij hm12 rfl f1 f2 c1 c2)
      | true =>
        have e0 : tradeE h bu se mo q pr = 0 := by rw [ee, c1, c2]; rfl
        have en : tradeN h bu se mo q pr = (h.ks.length : Int) + 1 := by unfold tradeN; rw [if_pos e0]
        have et : tradeT h bu se mo q pr = { h with ac := (h.ac.set (accI bu) (bookA mo.toNat q (tradeG h mo q pr) a1)).set (accI se) (bookA mo.toNat (-q) (-(tradeG h mo q pr)) a2), ks := h.ks ++ [((accI bu : Int) + 1, (accI se : Int) + 1, (mo.toNat : Int), q, pr)] } := by
          unfold tradeT
          rw [if_pos e0, turnA_some (accOf_turn e1 e2 hne), turnA_some e1, ← x1, ← y1, ← hmt]
        rw [e0, en, et]
        refine (hT _ (trade_ok hh hs q pr (tradeG h mo q pr) hck2 hq hp x2 y2 hij hm12 rfl f1 f2 c1 c2 hko hkn)).mono ?_
        rintro r w' ⟨pk', ck', rfl, hH, hK, hTo⟩
        refine ⟨pk', ck', rfl, hH, ?_, hTo⟩
        have hl : (h.ks ++ [((accI bu : Int) + 1, (accI se : Int) + 1, (mo.toNat : Int), q, pr)]).length = h.ks.length + 1 := by simp
        show World.ownsRow w' base _ 5 (.slice pk' (h.ks ++ [((accI bu : Int) + 1, (accI se : Int) + 1, (mo.toNat : Int), q, pr)]).length ck') _ _
        rw [hl]
        exact hK
  · have ee : tradeE h bu se mo q pr = contractE h bu se mo q pr := by unfold tradeE; rw [if_neg h0]
    exact stay _ h0 ee (trade_bad _ bu se mo q pr _ w h0 hck)

/-- Mark's answer and the house behind it. -/
def markR (h : Hs) (m p : Int) : Hs := if markE h m p = 0 then markT h m.toNat p else h
def markL (h : Hs) (m p : Int) : List Int := if markE h m p = 0 then callL (markT h m.toNat p) h.ac.length else []
theorem Mark_any {B : Nat} (hh : HouseAt w base b ga ca pm cm pk ck h) (ht : Tame B h) (hB : B ≤ 199) (hmo : h.months ≤ 12) (m p : Int) :
    Calls Try.prog 13 #[.pointer (some ⟨b, 0, none⟩), .int .i64 m, .int .i64 p] w fun r w' => ∃ q c, r = .returned (.tuple #[.slice q (markL h m p).length c, .int .i64 (markE h m p)]) ∧ HouseAt w' base b ga ca pm cm pk ck (markR h m p) ∧ w'.ownsRow w.heap.size 3 1 (.slice q (markL h m p).length c) (markL h m p).length ((markL h m p).map (Value.int .i64)) ∧ Touch (fun k => k = ga ∨ k = b) w w' := by
  cases hb : belowB m h.months with
  | false =>
    have e4 : markE h m p = 4 := by unfold markE; rw [hb]; rfl
    have eL : markL h m p = [] := by unfold markL; rw [e4]; rfl
    have eR : markR h m p = h := by unfold markR; rw [e4]; rfl
    rw [e4, eL, eR]
    refine (mark_none hh m p hb).mono ?_
    rintro r w' ⟨rfl, hA⟩
    exact ⟨none, 0, rfl, hh.later hA, World.ownsRow_nil _ _ _ _, Touch.of_adds hA _⟩
  | true =>
    cases hp : inB p 1 1000000 with
    | false =>
      have e4 : markE h m p = 1 := by unfold markE; rw [hb, hp]; rfl
      have eL : markL h m p = [] := by unfold markL; rw [e4]; rfl
      have eR : markR h m p = h := by unfold markR; rw [e4]; rfl
      rw [e4, eL, eR]
      refine (mark_arg hh m p hb hp).mono ?_
      rintro r w' ⟨rfl, hA⟩
      exact ⟨none, 0, rfl, hh.later hA, World.ownsRow_nil _ _ _ _, Touch.of_adds hA _⟩
    | true =>
      have e4 : markE h m p = 0 := by unfold markE; rw [hb, hp]; rfl
      have eL : markL h m p = callL (markT h m.toNat p) h.ac.length := by unfold markL; rw [e4]; rfl
      have eR : markR h m p = markT h m.toNat p := by unfold markR; rw [e4]; rfl
      have hb2 : 0 ≤ m ∧ m < h.months := by unfold belowB at hb; simp at hb; omega
      have hp2 : 1 ≤ p ∧ p ≤ 1000000 := by unfold inB at hp; simp at hp; omega
      have hmt : m = ((m.toNat : Nat) : Int) := by omega
      rw [e4, eL, eR]
      have := mark_ok hh ht hB hmo m.toNat p (by omega) hp2
      rw [← hmt] at this
      exact this
end

end Go.Proofs.Ytmkpidipoadnbaa
