/- What a house keeps: its money, the sum of each month's positions. -/
import Derived.Test.YtmkpidipoadnbaaW44
namespace Go.Proofs.Ytmkpidipoadnbaa
open Go Go.RowKit Go.Sort

def cashF (a : Ac) : Int := a.cash + a.fund
def moneyT (h : Hs) : Int := h.capital - h.hole + sumG cashF h.ac
theorem foldl_sum (l : List Ac) : ∀ s : Int, l.foldl (fun s a => s + (a.cash + a.fund)) s = s + sumG cashF l := by
  induction l with
  | nil => intro s; simp [sumG]
  | cons a l ih => intro s; rw [List.foldl_cons, ih]; simp only [sumG, List.map_cons, List.sum_cons, cashF]; omega
theorem total_money (h : Hs) : totalT h = wrap64 (moneyT h) := by
  unfold totalT sumA moneyT
  rw [foldl_sum]
  congr 1
  omega
structure Kept (h : Hs) : Prop where
  out0 : ∀ a ∈ h.ac, a.out = true → ∀ m, valP m a = 0
  sum0 : ∀ m, sumG (valP m) h.ac = 0
  fund0 : ∀ a ∈ h.ac, 0 ≤ a.fund
theorem Kept.set {h : Hs} (k : Kept h) {i : Nat} {a b : Ac} (ha : h.ac[i]? = some a) (hp : b.pos = a.pos) (ho : b.out = a.out) (hf : 0 ≤ b.fund) : Kept { h with ac := h.ac.set i b } := by
  have hm := List.mem_of_getElem? ha
  refine ⟨fun c hc o m => ?_, fun m => ?_, fun c hc => ?_⟩
  · rcases List.mem_or_eq_of_mem_set hc with e | e
    · exact k.out0 c e o m
    · rw [e] at o ⊢
      show b.pos.getD m 0 = 0
      rw [hp]
      exact k.out0 a hm (by rw [← ho]; exact o) m
  · show sumG (valP m) (h.ac.set i b) = 0
    have : valP m b = valP m a := by show b.pos.getD m 0 = a.pos.getD m 0; rw [hp]
    rw [sum_set ha, this, k.sum0 m]
    omega
  · rcases List.mem_or_eq_of_mem_set hc with e | e
    · exact k.fund0 c e
    · rw [e]; exact hf
theorem money_set {h : Hs} {i : Nat} {a : Ac} (ha : h.ac[i]? = some a) (b : Ac) : moneyT { h with ac := h.ac.set i b } = moneyT h - cashF a + cashF b := by
  show h.capital - h.hole + sumG cashF (h.ac.set i b) = _
  rw [sum_set ha]
  unfold moneyT
  omega
theorem valP_book {a : Ac} {m : Nat} (q g : Int) (hl : m < a.pos.length) (m' : Nat) : valP m' (bookA m q g a) = valP m' a + if m' = m then q else 0 := by
  show (a.pos.set m (a.pos.getD m 0 + q)).getD m' 0 = a.pos.getD m' 0 + _
  simp only [List.getD_eq_getElem?_getD, List.getElem?_set]
  by_cases e : m = m'
  · subst e
    rw [if_pos rfl, if_pos hl, if_pos rfl]
    rfl
  · rw [if_neg e, if_neg (fun h => e h.symm)]
    omega
theorem Kept.two {h : Hs} (k : Kept h) {i j : Nat} {a1 a2 : Ac} (h1 : h.ac[i]? = some a1) (h2 : h.ac[j]? = some a2) (hij : i ≠ j) (o1 : a1.out = false) (o2 : a2.out = false) (l1 : a1.pos.length = 12) (l2 : a2.pos.length = 12) {m : Nat} (hm : m < 12) (q g : Int) (l : List Kt) :
    Kept { h with ac := (h.ac.set i (bookA m q g a1)).set j (bookA m (-q) (-g) a2), ks := l } ∧ moneyT { h with ac := (h.ac.set i (bookA m q g a1)).set j (bookA m (-q) (-g) a2), ks := l } = moneyT h := by
  have h2' : (h.ac.set i (bookA m q g a1))[j]? = some a2 := by rw [List.getElem?_set_ne hij]; exact h2
  refine ⟨⟨fun c hc o m' => ?_, fun m' => ?_, fun c hc => ?_⟩, ?_⟩
  · rcases mem_set2 hc with e | e | e
    · exact k.out0 c e o m'
    · rw [e] at o
      have : a1.out = true := o
      rw [o1] at this
      cases this
    · rw [e] at o
      have : a2.out = true := o
      rw [o2] at this
      cases this
  · show sumG (valP m') ((h.ac.set i (bookA m q g a1)).set j (bookA m (-q) (-g) a2)) = 0
    rw [sum_set h2', sum_set h1, k.sum0 m', valP_book q g (by omega), valP_book (-q) (-g) (by omega)]
    split <;> omega
  · rcases mem_set2 hc with e | e | e
    · exact k.fund0 c e
    · rw [e]; exact k.fund0 a1 (List.mem_of_getElem? h1)
    · rw [e]; exact k.fund0 a2 (List.mem_of_getElem? h2)
  · show h.capital - h.hole + sumG cashF ((h.ac.set i (bookA m q g a1)).set j (bookA m (-q) (-g) a2)) = _
    rw [sum_set h2', sum_set h1]
    unfold moneyT cashF bookA
    dsimp only
    omega
theorem Kept.deposit {h : Hs} (k : Kept h) (x y : Int) : Kept (depositT h x y) ∧ moneyT (depositT h x y) = moneyT h + if payerE h x y = 0 then y else 0 := by
  unfold depositT
  by_cases h0 : payerE h x y = 0
  · rw [if_pos h0, if_pos h0]
    obtain ⟨a, ha, _, hy1, hy2⟩ := payer_acc h0
    have h2 := (accOf_some ha).2.1
    rw [turnA_some ha]
    refine ⟨k.set h2 rfl rfl (k.fund0 a (List.mem_of_getElem? h2)), ?_⟩
    rw [money_set h2]
    unfold cashF moreA
    dsimp only
    omega
  · rw [if_neg h0, if_neg h0]
    exact ⟨k, by omega⟩
theorem Kept.withdraw {h : Hs} (k : Kept h) (x y : Int) : Kept (withdrawT h x y) ∧ moneyT (withdrawT h x y) = moneyT h - if payE h x y = 0 then y else 0 := by
  unfold withdrawT
  by_cases h0 : payE h x y = 0
  · rw [if_pos h0, if_pos h0]
    obtain ⟨a, ha, hy1, hy2, hy3, _, _⟩ := pay_acc h0
    have h2 := (accOf_some ha).2.1
    rw [turnA_some ha]
    refine ⟨k.set h2 rfl rfl (k.fund0 a (List.mem_of_getElem? h2)), ?_⟩
    rw [money_set h2]
    unfold cashF lessA
    dsimp only
    omega
  · rw [if_neg h0, if_neg h0]
    exact ⟨k, by omega⟩
theorem Kept.contribute {h : Hs} (k : Kept h) (x y : Int) : Kept (contributeT h x y) ∧ moneyT (contributeT h x y) = moneyT h := by
  unfold contributeT
  by_cases h0 : payE h x y = 0
  · rw [if_pos h0]
    obtain ⟨a, ha, hy1, hy2, hy3, _, _⟩ := pay_acc h0
    have h2 := (accOf_some ha).2.1
    have hf := k.fund0 a (List.mem_of_getElem? h2)
    rw [turnA_some ha]
    refine ⟨k.set h2 rfl rfl (by show 0 ≤ a.fund + y; omega), ?_⟩
    rw [money_set h2]
    unfold cashF giveA
    dsimp only
    omega
  · rw [if_neg h0]
    exact ⟨k, rfl⟩
theorem Kept.trade {B : Nat} {h : Hs} (k : Kept h) (t : Tame B h) (hmo : h.months ≤ 12) (bu se mo q pr : Int) : Kept (tradeT h bu se mo q pr) ∧ moneyT (tradeT h bu se mo q pr) = moneyT h := by
  by_cases e : tradeE h bu se mo q pr = 0
  · obtain ⟨a1, a2, e1, e2, o1, o2, hne, hm, hq, hp, et⟩ := trade_got e
    obtain ⟨x1, x2, _⟩ := accOf_some e1
    obtain ⟨y1, y2, _⟩ := accOf_some e2
    rw [et]
    exact k.two x2 y2 (by omega) o1 o2 (t.len a1 (List.mem_of_getElem? x2)) (t.len a2 (List.mem_of_getElem? y2)) (by omega) q _ _
  · unfold tradeT
    rw [if_neg e]
    exact ⟨k, rfl⟩
theorem Kept.deliver {B : Nat} {h : Hs} (k : Kept h) (t : Tame B h) (hmo : h.months ≤ 12) (x y m q : Int) : Kept (deliverT h x y m q) ∧ moneyT (deliverT h x y m q) = moneyT h := by
  by_cases e : deliverE h x y m q = 0
  · obtain ⟨a1, a2, e1, e2, o1, o2, hne, hm, hq, _, _, et⟩ := deliver_got e
    obtain ⟨x1, x2, _⟩ := accOf_some e1
    obtain ⟨y1, y2, _⟩ := accOf_some e2
    rw [et]
    have := k.two x2 y2 (by omega) o1 o2 (t.len a1 (List.mem_of_getElem? x2)) (t.len a2 (List.mem_of_getElem? y2)) (m := m.toNat) (by omega) (-q) 0 h.ks
    rw [Int.neg_neg] at this
    exact this
  · unfold deliverT
    rw [if_neg e]
    exact ⟨k, rfl⟩
theorem sum_map {g : Ac → Int} {f : Ac → Ac} {d : Ac → Int} (hd : ∀ a, g (f a) = g a + d a) : ∀ l : List Ac, sumG g (l.map f) = sumG g l + sumG d l
  | [] => by simp [sumG]
  | a :: l => by
    have ih := sum_map hd l
    simp only [sumG, List.map_cons, List.sum_cons, List.map_map] at ih ⊢
    rw [hd]
    omega
theorem sum_scale (g : Ac → Int) (d : Int) : ∀ l : List Ac, sumG (fun a => g a * d) l = sumG g l * d
  | [] => by simp [sumG]
  | a :: l => by
    have ih := sum_scale g d l
    simp only [sumG, List.map_cons, List.sum_cons] at ih ⊢
    rw [ih, Int.add_mul]
theorem valP_mark (m : Nat) (d : Int) (a : Ac) (m' : Nat) : valP m' (markA m d a) = valP m' a := by
  show (a.pos.set m (a.pos.getD m 0 + 0)).getD m' 0 = a.pos.getD m' 0
  rw [Int.add_zero]
  simp only [List.getD_eq_getElem?_getD, List.getElem?_set]
  by_cases e : m = m'
  · subst e
    rw [if_pos rfl]
    by_cases hl : m < a.pos.length
    · rw [if_pos hl]; simp [List.getElem?_eq_getElem hl]
    · rw [if_neg hl, List.getElem?_eq_none (by omega)]
  · rw [if_neg e]
theorem Kept.mark {h : Hs} (k : Kept h) (m p : Int) : Kept (markR h m p) ∧ moneyT (markR h m p) = moneyT h := by
  by_cases e : markE h m p = 0
  · obtain ⟨hm, hp, et⟩ := mark_got e
    rw [et]
    refine ⟨⟨fun c hc o m' => ?_, fun m' => ?_, fun c hc => ?_⟩, ?_⟩
    · obtain ⟨b, hb, rfl⟩ := List.mem_map.1 hc
      rw [valP_mark]
      exact k.out0 b hb o m'
    · show sumG (valP m') (h.ac.map _) = 0
      rw [sum_map (d := fun _ => 0) (fun a => by rw [valP_mark]; omega), k.sum0 m']
      have : ∀ l : List Ac, sumG (fun _ => (0 : Int)) l = 0 := fun l => by induction l with
        | nil => rfl
        | cons _ _ ih => simp only [sumG, List.map_cons, List.sum_cons] at ih ⊢; omega
      rw [this]
      omega
    · obtain ⟨b, hb, rfl⟩ := List.mem_map.1 hc
      exact k.fund0 b hb
    · show h.capital - h.hole + sumG cashF (h.ac.map _) = _
      rw [sum_map (d := fun a => valP m.toNat a * (p - h.prices.getD m.toNat 0)) (fun a => by unfold cashF markA bookA valP; dsimp only; omega), sum_scale (valP m.toNat), k.sum0]
      unfold moneyT
      omega
  · unfold markR
    rw [if_neg e]
    exact ⟨k, rfl⟩
theorem new_kept (c : Cfg) : Kept (newH c) ∧ moneyT (newH c) = c.cap := by
  have hr : ∀ n : Nat, ∀ g : Ac → Int, g acc0 = 0 → sumG g (List.replicate n acc0) = 0 := fun n g hg => by
    induction n with
    | zero => rfl
    | succ n ih => simp only [sumG, List.replicate_succ, List.map_cons, List.sum_cons] at ih ⊢; omega
  have hz : ∀ m, valP m acc0 = 0 := fun m => by
    show (List.replicate 12 (0 : Int)).getD m 0 = 0
    rw [List.getD_eq_getElem?_getD]
    by_cases h : m < 12
    · rw [List.getElem?_replicate, if_pos h]; rfl
    · rw [List.getElem?_eq_none (by rw [List.length_replicate]; omega)]; rfl
  refine ⟨⟨fun a ha _ m => ?_, fun m => hr _ _ (hz m), fun a ha => ?_⟩, ?_⟩
  · have : a = acc0 := List.eq_of_mem_replicate ha
    rw [this]; exact hz m
  · have : a = acc0 := List.eq_of_mem_replicate ha
    rw [this]; exact Int.le_refl _
  · show c.cap - 0 + sumG cashF (List.replicate _ acc0) = c.cap
    rw [hr _ _ rfl]
    omega

end Go.Proofs.Ytmkpidipoadnbaa
