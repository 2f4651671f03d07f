/- A default leaves a house's numbers small. -/
import Derived.Test.YtmkpidipoadnbaaW42
namespace Go.Proofs.Ytmkpidipoadnbaa
open Go Go.RowKit Go.Sort

/-- A house that may be used on: its numbers are small. -/
structure Good (B : Nat) (h : Hs) : Prop where
  t : Tame B h
  few : h.ac.length ≤ 20
  mo0 : 0 < h.months
  mo1 : h.months ≤ 12
  cap0 : 0 ≤ h.capital
  cap1 : h.capital ≤ 4611686018427387904
  hole0 : 0 ≤ h.hole
  hole1 : h.hole ≤ 1000000000000000 * ((B : Int) * (B : Int))
  ks : h.ks.length ≤ B
theorem sq_step (B : Nat) : ((B + 1 : Nat) : Int) * ((B + 1 : Nat) : Int) = (B : Int) * (B : Int) + 2 * (B : Int) + 1 := by
  rw [show ((B + 1 : Nat) : Int) = (B : Int) + 1 by omega, Int.add_mul, Int.mul_add]
  omega
theorem Tame.up {B : Nat} {h : Hs} (t : Tame B h) : Tame (B + 1) h :=
  ⟨t.calm, t.few, t.len, fun a ha x hx => by have := t.pos a ha x hx; omega, fun a ha => by have := t.cash a ha; omega, fun a ha => by have := t.fund a ha; omega⟩
theorem Good.up {B : Nat} {h : Hs} (g : Good B h) : Good (B + 1) h :=
  ⟨g.t.up, g.few, g.mo0, g.mo1, g.cap0, g.cap1, g.hole0, by have := g.hole1; rw [sq_step]; omega, by have := g.ks; omega⟩
/-- One account changed by little. -/
theorem Tame.set {B : Nat} {h : Hs} (t : Tame B h) (i : Nat) (a' : Ac) (hl : a'.pos.length = 12) (hp : ∀ x ∈ a'.pos, -(1000000 * ((B + 1 : Nat) : Int)) ≤ x ∧ x ≤ 1000000 * ((B + 1 : Nat) : Int)) (hc : -(1000000000000000 * ((B + 1 : Nat) : Int)) ≤ a'.cash ∧ a'.cash ≤ 1000000000000000 * ((B + 1 : Nat) : Int)) (hf : -(1000000000000000 * ((B + 1 : Nat) : Int)) ≤ a'.fund ∧ a'.fund ≤ 1000000000000000 * ((B + 1 : Nat) : Int)) : Tame (B + 1) { h with ac := h.ac.set i a' } := by
  have u := t.up
  refine ⟨⟨t.calm.prices, t.calm.moves, t.calm.few, t.calm.rate0, t.calm.rate1, t.calm.price⟩, by show (h.ac.set i a').length ≤ 64; rw [List.length_set]; exact t.few, fun a ha => ?_, fun a ha => ?_, fun a ha => ?_, fun a ha => ?_⟩
  all_goals rcases List.mem_or_eq_of_mem_set ha with e | e
  · exact t.len a e
  · rw [e]; exact hl
  · exact u.pos a e
  · rw [e]; exact hp
  · exact u.cash a e
  · rw [e]; exact hc
  · exact u.fund a e
  · rw [e]; exact hf
theorem Good.set {B : Nat} {h : Hs} (g : Good B h) (i : Nat) (a' : Ac) (ht : Tame (B + 1) { h with ac := h.ac.set i a' }) : Good (B + 1) { h with ac := h.ac.set i a' } :=
  ⟨ht, by show (h.ac.set i a').length ≤ 20; rw [List.length_set]; exact g.few, g.mo0, g.mo1, g.cap0, g.cap1, g.hole0, g.up.hole1, g.up.ks⟩
theorem Good.deposit {B : Nat} {h : Hs} (g : Good B h) (x y : Int) : Good (B + 1) (depositT h x y) := by
  unfold depositT
  split
  case isFalse => exact g.up
  case isTrue h0 =>
    obtain ⟨a, ha, _, hy1, hy2⟩ := payer_acc h0
    have hm := List.mem_of_getElem? (accOf_some ha).2.1
    rw [turnA_some ha]
    refine g.set _ _ (g.t.set _ _ (g.t.len a hm) (g.t.up.pos a hm) ?_ (g.t.up.fund a hm))
    have := g.t.cash a hm
    show _ ≤ a.cash + y ∧ a.cash + y ≤ _
    omega
theorem pay_acc {h : Hs} {x y : Int} (h0 : payE h x y = 0) : ∃ a, accOf h x = some a ∧ 1 ≤ y ∧ y ≤ 1000000000000 ∧ y ≤ a.cash ∧ a.out = false ∧ coversB h { a with cash := a.cash - y } = true := by
  have hp : payerE h x y = 0 := by
    by_cases hq : payerE h x y = 0
    · exact hq
    · unfold payE at h0; rw [if_neg hq] at h0; exact h0
  obtain ⟨a, ha, ho, hy1, hy2⟩ := payer_acc hp
  unfold payE at h0
  rw [if_pos hp, ha] at h0
  dsimp only at h0
  split at h0
  · omega
  · rename_i hlt
    split at h0
    · rename_i hc
      exact ⟨a, ha, hy1, hy2, by omega, ho, hc⟩
    · omega
theorem Good.withdraw {B : Nat} {h : Hs} (g : Good B h) (x y : Int) : Good (B + 1) (withdrawT h x y) := by
  unfold withdrawT
  split
  case isFalse => exact g.up
  case isTrue h0 =>
    obtain ⟨a, ha, hy1, hy2, hy3, _, _⟩ := pay_acc h0
    have hm := List.mem_of_getElem? (accOf_some ha).2.1
    rw [turnA_some ha]
    refine g.set _ _ (g.t.set _ _ (g.t.len a hm) (g.t.up.pos a hm) ?_ (g.t.up.fund a hm))
    have := g.t.cash a hm
    show _ ≤ a.cash - y ∧ a.cash - y ≤ _
    omega
theorem Good.contribute {B : Nat} {h : Hs} (g : Good B h) (x y : Int) : Good (B + 1) (contributeT h x y) := by
  unfold contributeT
  split
  case isFalse => exact g.up
  case isTrue h0 =>
    obtain ⟨a, ha, hy1, hy2, hy3, _, _⟩ := pay_acc h0
    have hm := List.mem_of_getElem? (accOf_some ha).2.1
    rw [turnA_some ha]
    refine g.set _ _ (g.t.set _ _ (g.t.len a hm) (g.t.up.pos a hm) ?_ ?_)
    · have := g.t.cash a hm
      show _ ≤ a.cash - y ∧ a.cash - y ≤ _
      omega
    · have := g.t.fund a hm
      show _ ≤ a.fund + y ∧ a.fund + y ≤ _
      omega
/-- What is asked of each account. -/
def AcIn (B : Nat) (a : Ac) : Prop := a.pos.length = 12 ∧ (∀ x ∈ a.pos, -(1000000 * (B : Int)) ≤ x ∧ x ≤ 1000000 * (B : Int)) ∧ (-(1000000000000000 * (B : Int)) ≤ a.cash ∧ a.cash ≤ 1000000000000000 * (B : Int)) ∧ (-(1000000000000000 * (B : Int)) ≤ a.fund ∧ a.fund ≤ 1000000000000000 * (B : Int))
theorem Tame.ac {B : Nat} {h : Hs} (t : Tame B h) {a : Ac} (ha : a ∈ h.ac) : AcIn B a := ⟨t.len a ha, t.pos a ha, t.cash a ha, t.fund a ha⟩
theorem Tame.of {B : Nat} {h' : Hs} (hc : Calm h') (hl : h'.ac.length ≤ 64) (hb : ∀ a ∈ h'.ac, AcIn B a) : Tame B h' := ⟨hc, hl, fun a ha => (hb a ha).1, fun a ha => (hb a ha).2.1, fun a ha => (hb a ha).2.2.1, fun a ha => (hb a ha).2.2.2⟩
theorem Calm.of {h h' : Hs} (c : Calm h) (h1 : h'.prices = h.prices) (h2 : h'.moves = h.moves) (h3 : h'.rate = h.rate) : Calm h' := ⟨by rw [h1]; exact c.prices, by rw [h2]; exact c.moves, by rw [h2]; exact c.few, by rw [h3]; exact c.rate0, by rw [h3]; exact c.rate1, by rw [h1]; exact c.price⟩
theorem AcIn.book {B : Nat} {h : Hs} (t : Tame B h) (m : Nat) (q d : Int) {a : Ac} (ha : a ∈ h.ac) (hq : -1000000 ≤ q ∧ q ≤ 1000000) (hd : -1000000000000000 ≤ d ∧ d ≤ 1000000000000000) : AcIn (B + 1) (bookA m q d a) := by
  refine ⟨by show (a.pos.set m _).length = 12; rw [List.length_set]; exact t.len a ha, fun x hx => ?_, ?_, t.up.fund a ha⟩
  · rcases mem_bookA hx with e | e
    · have := t.pos a ha x e; omega
    · have := pos_getD t ha m; omega
  · have := t.cash a ha
    show _ ≤ a.cash + d ∧ a.cash + d ≤ _
    omega
theorem mem_set2 {l : List Ac} {i j : Nat} {x y a : Ac} (h : a ∈ (l.set i x).set j y) : a ∈ l ∨ a = x ∨ a = y := by
  rcases List.mem_or_eq_of_mem_set h with e | e
  · rcases List.mem_or_eq_of_mem_set e with e | e
    · exact .inl e
    · exact .inr (.inl e)
  · exact .inr (.inr e)
theorem two_booked {h : Hs} {x y : Int} {a1 a2 : Ac} {f g : Ac → Ac} (e1 : accOf h x = some a1) (e2 : accOf h y = some a2) (hne : x ≠ y) : turnA (turnA h x f) y g = { h with ac := (h.ac.set (accI x) (f a1)).set (accI y) (g a2) } := by
  rw [turnA_some (accOf_turn e1 e2 hne), turnA_some e1]
theorem Good.two {B : Nat} {h : Hs} (g : Good B h) (i j : Nat) (x y : Ac) (hx : AcIn (B + 1) x) (hy : AcIn (B + 1) y) (l : List Kt) (hl : l.length ≤ B + 1) : Good (B + 1) { h with ac := (h.ac.set i x).set j y, ks := l } := by
  have hlen : ((h.ac.set i x).set j y).length = h.ac.length := by rw [List.length_set, List.length_set]
  refine ⟨Tame.of (g.t.calm.of rfl rfl rfl) (by show ((h.ac.set i x).set j y).length ≤ 64; rw [hlen]; exact g.t.few) (fun a ha => ?_), by show ((h.ac.set i x).set j y).length ≤ 20; rw [hlen]; exact g.few, g.mo0, g.mo1, g.cap0, g.cap1, g.hole0, g.up.hole1, hl⟩
  rcases mem_set2 ha with e | e | e
  · exact g.t.up.ac e
  · rw [e]; exact hx
  · rw [e]; exact hy
theorem price_bd {h : Hs} (c : Calm h) (m : Nat) : 0 ≤ h.prices.getD m 0 ∧ h.prices.getD m 0 ≤ 2000000 := by
  rw [List.getD_eq_getElem?_getD]
  cases e : h.prices[m]? with
  | none => simp
  | some x => exact c.price x (List.mem_of_getElem? e)
theorem trade_gain {h : Hs} (c : Calm h) (mo : Int) {q pr : Int} (hq : 1 ≤ q ∧ q ≤ 1000000) (hp : 1 ≤ pr ∧ pr ≤ 1000000) : -2000000000000 ≤ tradeG h mo q pr ∧ tradeG h mo q pr ≤ 2000000000000 := by
  have h1 := price_bd c mo.toNat
  have := mul_bd (A := 1000000) (B := 2000000) (q := q) (d := h.prices.getD mo.toNat 0 - pr) (by omega) hq.2 (by omega) (by omega)
  unfold tradeG
  omega
/-- What a trade that is made says. -/
theorem trade_got {h : Hs} {bu se mo q pr : Int} (e : tradeE h bu se mo q pr = 0) : ∃ a1 a2, accOf h bu = some a1 ∧ accOf h se = some a2 ∧ a1.out = false ∧ a2.out = false ∧ bu ≠ se ∧ (0 ≤ mo ∧ mo < h.months) ∧ (1 ≤ q ∧ q ≤ 1000000) ∧ (1 ≤ pr ∧ pr ≤ 1000000) ∧ tradeT h bu se mo q pr = { h with ac := (h.ac.set (accI bu) (bookA mo.toNat q (tradeG h mo q pr) a1)).set (accI se) (bookA mo.toNat (-q) (-(tradeG h mo q pr)) a2), ks := h.ks ++ [(bu, se, mo, q, pr)] } := by
  have h0 : contractE h bu se mo q pr = 0 := by
    by_cases hz : contractE h bu se mo q pr = 0
    · exact hz
    · unfold tradeE at e; rw [if_neg hz] at e; exact e
  obtain ⟨a1, a2, e1, e2, o1, o2, hne, hm, hq, hp⟩ := check_ok h0
  exact ⟨a1, a2, e1, e2, o1, o2, hne, hm, hq, hp, by unfold tradeT; rw [if_pos e, two_booked e1 e2 hne]⟩
theorem Good.trade {B : Nat} {h : Hs} (g : Good B h) (bu se mo q pr : Int) : Good (B + 1) (tradeT h bu se mo q pr) := by
  by_cases e : tradeE h bu se mo q pr = 0
  · obtain ⟨a1, a2, e1, e2, _, _, hne, hm, hq, hp, et⟩ := trade_got e
    have hg := trade_gain g.t.calm mo hq hp
    rw [et]
    exact g.two _ _ _ _ (AcIn.book g.t _ _ _ (List.mem_of_getElem? (accOf_some e1).2.1) (by omega) (by omega)) (AcIn.book g.t _ _ _ (List.mem_of_getElem? (accOf_some e2).2.1) (by omega) (by omega)) _ (by rw [List.length_append]; have := g.ks; simp; omega)
  · unfold tradeT
    rw [if_neg e]
    exact g.up
theorem deliver_got {h : Hs} {x y m q : Int} (e : deliverE h x y m q = 0) : ∃ a1 a2, accOf h x = some a1 ∧ accOf h y = some a2 ∧ a1.out = false ∧ a2.out = false ∧ x ≠ y ∧ (0 ≤ m ∧ m < h.months) ∧ (1 ≤ q ∧ q ≤ 1000000) ∧ q ≤ a1.pos.getD m.toNat 0 ∧ a2.pos.getD m.toNat 0 ≤ -q ∧ deliverT h x y m q = { h with ac := (h.ac.set (accI x) (bookA m.toNat (-q) 0 a1)).set (accI y) (bookA m.toNat q 0 a2) } := by
  have h0 : contractE h x y m q 1 = 0 := by
    by_cases hz : contractE h x y m q 1 = 0
    · exact hz
    · unfold deliverE at e; rw [if_neg hz] at e; exact e
  obtain ⟨a1, a2, e1, e2, o1, o2, hne, hm, hq, _⟩ := check_ok h0
  have e3 := e
  unfold deliverE at e3
  rw [if_pos h0, e1, e2] at e3
  dsimp only at e3
  split at e3
  · omega
  · rename_i hn
    exact ⟨a1, a2, e1, e2, o1, o2, hne, hm, hq, by omega, by omega, by unfold deliverT; rw [if_pos e, two_booked e1 e2 hne]⟩
theorem Good.deliver {B : Nat} {h : Hs} (g : Good B h) (x y m q : Int) : Good (B + 1) (deliverT h x y m q) := by
  by_cases e : deliverE h x y m q = 0
  · obtain ⟨a1, a2, e1, e2, _, _, hne, hm, hq, _, _, et⟩ := deliver_got e
    rw [et]
    exact g.two _ _ _ _ (AcIn.book g.t _ _ _ (List.mem_of_getElem? (accOf_some e1).2.1) (by omega) (by omega)) (AcIn.book g.t _ _ _ (List.mem_of_getElem? (accOf_some e2).2.1) (by omega) (by omega)) h.ks (by have := g.ks; omega)
  · unfold deliverT
    rw [if_neg e]
    exact g.up
theorem mark_got {h : Hs} {m p : Int} (e : markE h m p = 0) : (0 ≤ m ∧ m < h.months) ∧ (1 ≤ p ∧ p ≤ 1000000) ∧ markR h m p = markT h m.toNat p := by
  refine ⟨?_, ?_, by unfold markR; rw [if_pos e]⟩
  · unfold markE at e
    split at e
    · rename_i hb; unfold belowB at hb; simp at hb; omega
    · omega
  · unfold markE at e
    split at e
    · split at e
      · rename_i hb; unfold inB at hb; simp at hb; omega
      · omega
    · omega
theorem Good.mark {B : Nat} {h : Hs} (g : Good B h) (hB : B ≤ 200) (m p : Int) : Good (B + 1) (markR h m p) := by
  by_cases e : markE h m p = 0
  · obtain ⟨hm, hp, et⟩ := mark_got e
    rw [et]
    exact ⟨markT_tame g.t hB m.toNat p hp, by show (h.ac.map _).length ≤ 20; rw [List.length_map]; exact g.few, g.mo0, g.mo1, g.cap0, g.cap1, g.hole0, g.up.hole1, g.up.ks⟩
  · unfold markR
    rw [if_neg e]
    exact g.up

end Go.Proofs.Ytmkpidipoadnbaa

namespace Go.Proofs.Ytmkpidipoadnbaa
open Go Go.RowKit Go.Sort

theorem AcIn.up {B : Nat} {a : Ac} (h : AcIn B a) : AcIn (B + 1) a := ⟨h.1, fun x hx => by have := h.2.1 x hx; omega, by have := h.2.2.1; omega, by have := h.2.2.2; omega⟩
/-- One number drawn at alone comes nearer to 0 by what was taken. -/
theorem one_sum {A v f : Int} (hA : 0 ≤ A) (e : oneF A v = [f]) : f = min A (max v (-v)) := by
  have h := shareU_sum hA (sizes_pos [v])
  have e2 : shareU A (sizeL [v]) = [f] := e
  rw [e2] at h
  simp [sizeL] at h
  exact h
theorem cover_cap {h : Hs} {i : Nat} {A : Int} (hA : 0 ≤ A) (hc : 0 ≤ h.capital) (k : Nat) : 0 ≤ (coverN h i A k).capital ∧ (coverN h i A k).capital ≤ h.capital := by
  match k with
  | 0 => exact ⟨hc, Int.le_refl _⟩
  | 1 =>
    obtain ⟨f, hf⟩ := one_ex A h.capital
    have e := one_sum hA hf
    show 0 ≤ nearV h.capital ((oneF A h.capital).getD 0 0) ∧ nearV h.capital ((oneF A h.capital).getD 0 0) ≤ h.capital
    rw [hf]
    show 0 ≤ nearV h.capital f ∧ nearV h.capital f ≤ h.capital
    unfold nearV
    rw [if_neg (by omega)]
    omega
  | 2 => exact ⟨hc, Int.le_refl _⟩
  | 3 => exact ⟨hc, Int.le_refl _⟩
  | k + 4 => exact ⟨hc, Int.le_refl _⟩
theorem coverS_acs {B : Nat} {h : Hs} (hb : ∀ a ∈ h.ac, AcIn B a) (ok : CovOK h) (i : Nat) {L : Int} (hL : 0 ≤ L) : ∀ k, ∀ a ∈ (coverS h i L k).h.ac, AcIn B a
  | 0 => hb
  | k + 1 => by
    have ih := coverS_acs hb ok i hL k
    have r := coverS_ok ok i hL k
    exact coverN_acs (P := AcIn B) (B := 1000000000000000 * (B : Int)) (by omega) r.l0 (fun a ha => (ih a ha).2.2.2) (fun a ha => (ih a ha).2.2.1) (fun a x p hx => ⟨p.1, p.2.1, p.2.2.1, hx⟩) (fun a x p hx => ⟨p.1, p.2.1, hx, p.2.2.2⟩) ih k
theorem coverS_rest (h : Hs) (i : Nat) (L : Int) : ∀ k, (coverS h i L k).h.months = h.months ∧ (coverS h i L k).h.prices = h.prices ∧ (coverS h i L k).h.moves = h.moves ∧ (coverS h i L k).h.rate = h.rate ∧ (coverS h i L k).h.ks = h.ks
  | 0 => ⟨rfl, rfl, rfl, rfl, rfl⟩
  | k + 1 => by
    obtain ⟨h1, h2, h3, h4, h5⟩ := coverS_rest h i L k
    obtain ⟨k1, k2, k3, k4, k5⟩ := coverN_rest (coverS h i L k).h i (coverS h i L k).left k
    exact ⟨k1.trans h1, k2.trans h2, k3.trans h3, k4.trans h4, k5.trans h5⟩
theorem coverS_cap {h : Hs} (ok : CovOK h) (hc : 0 ≤ h.capital) (i : Nat) {L : Int} (hL : 0 ≤ L) : ∀ k, 0 ≤ (coverS h i L k).h.capital ∧ (coverS h i L k).h.capital ≤ h.capital
  | 0 => ⟨hc, Int.le_refl _⟩
  | k + 1 => by
    have ih := coverS_cap ok hc i hL k
    have := cover_cap (h := (coverS h i L k).h) (i := i) (coverS_ok ok i hL k).l0 ih.1 k
    exact ⟨this.1, Int.le_trans this.2 ih.2⟩
theorem coverS_hole {h : Hs} (ok : CovOK h) (i : Nat) {L : Int} (hL : 0 ≤ L) : (coverS h i L 5).h.hole = h.hole + (coverS h i L 4).left ∧ (coverS h i L 5).left = 0 := by
  have r := coverS_ok ok i hL 4
  refine ⟨?_, ?_⟩
  · show (coverS h i L 4).h.hole + (coverS h i L 4).left = _
    rw [r.hole (by omega)]
  · show (coverS h i L 4).left - (coverS h i L 4).left = 0
    omega
theorem upA_acs {B : Nat} {h : Hs} (hb : ∀ a ∈ h.ac, AcIn B a) (i : Nat) : ∀ a ∈ (upA h i).ac, AcIn B a := by
  unfold upA
  dsimp only
  split
  case h_1 c hc =>
    intro a ha
    rcases List.mem_or_eq_of_mem_set ha with e | e
    · exact hb a e
    · have := hb c (List.mem_of_getElem? hc)
      rw [e]
      refine ⟨this.1, this.2.1, ?_, this.2.2.2⟩
      have := this.2.2.1
      show _ ≤ max c.cash 0 ∧ max c.cash 0 ≤ _
      omega
  case h_2 => exact hb
theorem upA_len (h : Hs) (i : Nat) : (upA h i).ac.length = h.ac.length := by
  unfold upA
  dsimp only
  split
  · rw [List.length_set]
  · rfl
theorem good_cov {B : Nat} {h : Hs} (g : Good B h) (hB : B ≤ 200) : CovOK h ∧ PosOK h.ac :=
  ⟨⟨g.t.len, g.few, g.t.calm.prices, fun a ha => by have := g.t.cash a ha; show _ ≤ a.cash ∧ a.cash ≤ _; omega, fun a ha => by have := g.t.fund a ha; show _ ≤ a.fund ∧ a.fund ≤ _; omega, by have := g.cap0; have := g.cap1; omega⟩,
   fun a ha => ⟨g.t.len a ha, fun x hx => by have := g.t.pos a ha x hx; omega⟩⟩
theorem upA_cov {h : Hs} (ok : CovOK h) (i : Nat) : CovOK (upA h i) := by
  refine ⟨?_, by rw [upA_len]; exact ok.few, ok.pr, ?_, ?_, ok.cap⟩
  all_goals
    unfold upA
    dsimp only
    split
    case h_2 => first | exact ok.len | exact ok.cash | exact ok.fund
    case h_1 c hc =>
      intro a ha
      have hm := List.mem_of_getElem? hc
      rcases List.mem_or_eq_of_mem_set ha with e | e
      · first | exact ok.len a e | exact ok.cash a e | exact ok.fund a e
      · rw [e]
        first
          | exact ok.len c hm
          | (have h1 := ok.cash c hm
             have h2 : valC c = c.cash := rfl
             show _ ≤ max c.cash 0 ∧ max c.cash 0 ≤ _
             omega)
          | exact ok.fund c hm
theorem dealt_acs {B : Nat} {h : Hs} (hb : ∀ a ∈ h.ac, AcIn B a) (i : Nat) {a : Ac} (ha : a ∈ h.ac) : ∀ c ∈ (dealtH h i a).ac, AcIn B c :=
  handK_acs (P := AcIn B) (B := 1000000 * (B : Int)) (by omega) (fun c p => p.2.1) (fun c m x p hx => ⟨by show (c.pos.set m x).length = 12; rw [List.length_set]; exact p.1, fun y hy => by
    rcases List.mem_or_eq_of_mem_set hy with e | e
    · exact p.2.1 y e
    · rw [e]; exact hx, p.2.2⟩) i a.pos (fun c hc => by
    rcases List.mem_or_eq_of_mem_set hc with e | e
    · exact hb c e
    · rw [e]; exact hb a ha) 12
theorem lack_bd {B : Nat} {h : Hs} (hb : ∀ a ∈ h.ac, AcIn B a) (i : Nat) : 0 ≤ lackI h i ∧ lackI h i ≤ 1000000000000000 * (B : Int) := by
  unfold lackI cashI
  cases e : h.ac[i]? with
  | none => simp; omega
  | some a =>
    have := (hb a (List.mem_of_getElem? e)).2.2.1
    show 0 ≤ max 0 (-a.cash) ∧ max 0 (-a.cash) ≤ _
    omega
theorem coverR_rest (h : Hs) (i : Nat) : (coverR h i).h.months = h.months ∧ (coverR h i).h.prices = h.prices ∧ (coverR h i).h.moves = h.moves ∧ (coverR h i).h.rate = h.rate ∧ (coverR h i).h.ks = h.ks := coverS_rest (upA h i) i (lackI h i) 5
theorem dealt_rest (h : Hs) (i : Nat) (a : Ac) : (dealtH h i a).months = h.months ∧ (dealtH h i a).prices = h.prices ∧ (dealtH h i a).moves = h.moves ∧ (dealtH h i a).rate = h.rate ∧ (dealtH h i a).ks = h.ks ∧ (dealtH h i a).capital = h.capital ∧ (dealtH h i a).hole = h.hole := handK_rest _ i a.pos 12
theorem default_got {h : Hs} {x : Int} (e : traderE h x = 0) : ∃ a, accOf h x = some a ∧ a.out = false ∧ defaultT h x = (defaultV h (accI x) a).h ∧ defaultL h x = (defaultV h (accI x) a).nums := by
  have e2 := e
  unfold traderE at e2
  split at e2
  · omega
  · rename_i a ha
    refine ⟨a, ha, ?_, by unfold defaultT; rw [if_pos e, ha], by unfold defaultL; rw [if_pos e, ha]⟩
    split at e2
    · omega
    · rename_i ho; simpa using ho
theorem Good.default {B : Nat} {h : Hs} (g : Good B h) (hB : B ≤ 200) (x : Int) : Good (B + 1) (defaultT h x) := by
  by_cases e : traderE h x = 0
  · obtain ⟨a, ha, _, et, _⟩ := default_got e
    rw [et]
    have hm := List.mem_of_getElem? (accOf_some ha).2.1
    have hb : ∀ a ∈ h.ac, AcIn B a := fun a ha => g.t.ac ha
    obtain ⟨ok, pk⟩ := good_cov g hB
    have od := dealt_ok ok pk (accI x) a hm
    have bd := dealt_acs hb (accI x) hm
    obtain ⟨d1, d2, d3, d4, d5, d6, d7⟩ := dealt_rest h (accI x) a
    obtain ⟨r1, r2, r3, r4, r5⟩ := coverR_rest (dealtH h (accI x) a) (accI x)
    have hl := lack_bd bd (accI x)
    have hlen : (defaultV h (accI x) a).h.ac.length = h.ac.length := by
      have := (coverS_ok (upA_cov od (accI x)) (accI x) hl.1 5).acs
      rw [upA_len, dealt_len] at this
      exact this
    have hacs : ∀ c ∈ (defaultV h (accI x) a).h.ac, AcIn B c := coverS_acs (upA_acs bd (accI x)) (upA_cov od (accI x)) (accI x) hl.1 5
    have hcap := coverS_cap (upA_cov od (accI x)) (by show 0 ≤ (dealtH h (accI x) a).capital; rw [d6]; exact g.cap0) (accI x) hl.1 5
    have hhole := (coverS_hole (upA_cov od (accI x)) (accI x) hl.1).1
    have hleft := coverS_ok (upA_cov od (accI x)) (accI x) hl.1 4
    have hh : (upA (dealtH h (accI x) a) (accI x)).hole = h.hole := d7
    have hc : (upA (dealtH h (accI x) a) (accI x)).capital = h.capital := d6
    rw [hc] at hcap
    rw [hh] at hhole
    have hho : (defaultV h (accI x) a).h.hole = h.hole + (coverS (upA (dealtH h (accI x) a) (accI x)) (accI x) (lackI (dealtH h (accI x) a) (accI x)) 4).left := hhole
    refine ⟨Tame.of (g.t.calm.of (r2.trans d2) (r3.trans d3) (r4.trans d4)) (by rw [hlen]; exact g.t.few) (fun c hc => (hacs c hc).up), by rw [hlen]; exact g.few, ?_, ?_, hcap.1, Int.le_trans hcap.2 g.cap1, ?_, ?_, ?_⟩
    · show 0 < (coverR (dealtH h (accI x) a) (accI x)).h.months
      rw [r1, d1]; exact g.mo0
    · show (coverR (dealtH h (accI x) a) (accI x)).h.months ≤ 12
      rw [r1, d1]; exact g.mo1
    · rw [hho]
      have := g.hole0
      have := hleft.l0
      omega
    · rw [hho, sq_step]
      have := g.hole1
      have := hleft.l1
      have := hl.2
      omega
    · show (coverR (dealtH h (accI x) a) (accI x)).h.ks.length ≤ B + 1
      rw [r5, d5]
      have := g.ks
      omega
  · unfold defaultT
    rw [if_neg e]
    exact g.up

end Go.Proofs.Ytmkpidipoadnbaa
