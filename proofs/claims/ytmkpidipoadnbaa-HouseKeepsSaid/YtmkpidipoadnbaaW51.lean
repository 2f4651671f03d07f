/- Months and members stay. -/
import Derived.Test.YtmkpidipoadnbaaW47
import Derived.Test.YtmkpidipoadnbaaW50
namespace Go.Proofs.Ytmkpidipoadnbaa
open Go Go.RowKit Go.Sort

theorem mo_bd (c : Cfg) : 1 ≤ tameMo c ∧ tameMo c ≤ 3 := by unfold tameMo; omega
theorem inB_true {x a b : Int} (h1 : a ≤ x) (h2 : x ≤ b) : inB x a b = true := by unfold inB; simp [h1, h2]
theorem tameP_bd (l : List Int) (k : Nat) : 1 ≤ tameP l k ∧ tameP l k ≤ 200 := by
  unfold tameP
  split
  · rename_i x _
    have := small_bd (n := x - 1) (most := 199) (by omega)
    omega
  · omega
theorem tameM_bd (l : List Int) (k : Nat) : -300 ≤ tameM l k ∧ tameM l k ≤ 300 := by
  unfold tameM
  split
  · rename_i x _
    have h1 := Int.tmod_lt_of_pos x (b := 300) (by omega)
    have h2 := Int.lt_tmod_of_pos x (b := 300) (by omega)
    omega
  · omega
theorem tame_ok (c : Cfg) : cfgE (tameT c) = 0 := by
  have hm := mo_bd c
  have r1 := small_bd (n := c.rate) (most := 1000) (by omega)
  have r2 := small_bd (n := c.cap) (most := 1000) (by omega)
  have a1 : allIn ((List.range (tameMo c)).map (tameP c.prices)) 1 1000000 = true := by
    unfold allIn
    rw [List.all_eq_true]
    intro x hx
    obtain ⟨k, _, rfl⟩ := List.mem_map.1 hx
    have := tameP_bd c.prices k
    exact inB_true (by omega) (by omega)
  have a2 : (((c.moves.take 5).map fun r => (List.range (tameMo c)).map (tameM r)).all fun m => allIn m (-1000000) 1000000) = true := by
    rw [List.all_eq_true]
    intro m hm
    obtain ⟨r, _, rfl⟩ := List.mem_map.1 hm
    unfold allIn
    rw [List.all_eq_true]
    intro x hx
    obtain ⟨k, _, rfl⟩ := List.mem_map.1 hx
    have := tameM_bd r k
    exact inB_true (by omega) (by omega)
  have a3 : ((c.moves.take 5).map fun r => (List.range (tameMo c)).map (tameM r)).all (lenIs (tameT c)) = true := by
    rw [List.all_eq_true]
    intro m hm
    obtain ⟨r, _, rfl⟩ := List.mem_map.1 hm
    unfold lenIs tameT
    simp
  have a4 : decide (64 < ((c.moves.take 5).map fun r => (List.range (tameMo c)).map (tameM r)).length) = false := by
    rw [List.length_map, List.length_take]
    simp
    omega
  have b1 : inB (2 + c.members % 18446744073709551616 % 4) 2 64 = true := inB_true (by omega) (by omega)
  have b2 : inB (tameMo c : Int) 1 12 = true := inB_true (by omega) (by omega)
  have b3 : inB (smallT c.rate 1000) 0 1000 = true := inB_true (by omega) (by omega)
  have b4 : inB (smallT c.cap 1000) 0 1000000000000 = true := inB_true (by omega) (by omega)
  have b5 : ((((List.range (tameMo c)).map (tameP c.prices)).length : Int) != (tameMo c : Int)) = false := by simp
  unfold cfgE
  rw [if_neg (by show ¬ (inB (2 + c.members % 18446744073709551616 % 4) 2 64 && inB (tameMo c : Int) 1 12 && inB (smallT c.rate 1000) 0 1000 && inB (smallT c.cap 1000) 0 1000000000000) = false; rw [b1, b2, b3, b4]; decide)]
  rw [if_neg (by show ¬ ((((List.range (tameMo c)).map (tameP c.prices)).length : Int) != (tameMo c : Int) || decide (64 < ((c.moves.take 5).map fun r => (List.range (tameMo c)).map (tameM r)).length)) = true; rw [b5, a4]; decide)]
  rw [if_neg (by show ¬ ((c.moves.take 5).map fun r => (List.range (tameMo c)).map (tameM r)).all (lenIs (tameT c)) = false; rw [a3]; decide)]
  rw [if_neg (by show ¬ allIn ((List.range (tameMo c)).map (tameP c.prices)) 1 1000000 = false; rw [a1]; decide)]
  rw [if_neg (by show ¬ (((c.moves.take 5).map fun r => (List.range (tameMo c)).map (tameM r)).all fun m => allIn m (-1000000) 1000000) = false; rw [a2]; decide)]
theorem tame_copy (c : Cfg) : copyT (tameT c) = tameT c := by
  have hm := mo_bd c
  unfold copyT
  have e1 : (tameT c).prices.take 20 = (tameT c).prices := List.take_of_length_le (by show ((List.range _).map _).length ≤ 20; rw [List.length_map, List.length_range]; omega)
  have e2 : ((tameT c).moves.take 66).map (List.take 20) = (tameT c).moves := by
    rw [List.take_of_length_le (by show ((c.moves.take 5).map _).length ≤ 66; rw [List.length_map, List.length_take]; omega)]
    show (List.map _ (List.map _ _)) = _
    rw [List.map_map]
    apply List.map_congr_left
    intro r _
    exact List.take_of_length_le (by rw [List.length_map, List.length_range]; omega)
  rw [e1, e2]
theorem tame_members (c : Cfg) : 2 ≤ (tameT c).members ∧ (tameT c).members ≤ 5 := by
  show 2 ≤ 2 + c.members % 18446744073709551616 % 4 ∧ 2 + c.members % 18446744073709551616 % 4 ≤ 5
  omega
/-- The house that a tame configuration makes. -/
def tameH (c : Cfg) : Hs := newH (tameT c)
theorem tameH_good (c : Cfg) : Good 0 (tameH c) := new_good (tame_ok c) (by have := tame_members c; omega)
theorem tameH_kept (c : Cfg) : Kept (tameH c) ∧ moneyT (tameH c) = (tameT c).cap := new_kept _

/-- An act. -/
structure ActT where
  kind : Int
  a : Int
  b : Int
  month : Int
  qty : Int
  price : Int
  amount : Int
def encT (t : ActT) : List Value := [.int .i64 t.kind, .int .i64 t.a, .int .i64 t.b, .int .i64 t.month, .int .i64 t.qty, .int .i64 t.price, .int .i64 t.amount]
theorem encT_len (t : ActT) : (encT t).length = 7 := rfl
def I64 (x : Int) : Prop := -9223372036854775808 ≤ x ∧ x ≤ 9223372036854775807
def ActT.In (t : ActT) : Prop := I64 t.kind ∧ I64 t.a ∧ I64 t.b ∧ I64 t.month ∧ I64 t.qty ∧ I64 t.price ∧ I64 t.amount
def kdT (t : ActT) : Int := t.kind % 18446744073709551616 % 12
def quT (t : ActT) : Int := 1 + smallT t.qty 50
def prT (t : ActT) : Int := 1 + smallT t.price 300
/-- What HouseKeeps does to a house by an act. -/
def keepH (h : Hs) (t : ActT) : Hs :=
  if kdT t ≤ 1 then depositT h t.a t.amount
  else if kdT t = 2 then withdrawT h t.a t.amount
  else if kdT t = 3 then contributeT h t.a t.amount
  else if kdT t ≤ 7 then tradeT h t.a t.b t.month (quT t) (prT t)
  else if kdT t = 8 then deliverT h t.a t.b t.month (quT t)
  else if kdT t ≤ 10 then markR h t.month (prT t)
  else defaultT h t.a
theorem keep_good {B : Nat} {h : Hs} (g : Good B h) (hB : B ≤ 60) (t : ActT) : Good (B + 1) (keepH h t) := by
  unfold keepH
  split
  · exact g.deposit _ _
  split
  · exact g.withdraw _ _
  split
  · exact g.contribute _ _
  split
  · exact g.trade _ _ _ _ _
  split
  · exact g.deliver _ _ _ _
  split
  · exact g.mark (by omega) _ _
  · exact g.default (by omega) _
theorem keep_kept {B : Nat} {h : Hs} (k : Kept h) (g : Good B h) (hB : B ≤ 60) (t : ActT) : Kept (keepH h t) := by
  unfold keepH
  split
  · exact (k.deposit _ _).1
  split
  · exact (k.withdraw _ _).1
  split
  · exact (k.contribute _ _).1
  split
  · exact (k.trade g.t g.mo1 _ _ _ _ _).1
  split
  · exact (k.deliver g.t g.mo1 _ _ _ _).1
  split
  · exact (k.mark _ _).1
  · exact (k.default g (by omega) _).1
/-- The house after k acts. -/
def keepS (h : Hs) (l : List ActT) (k : Nat) : Hs := (l.take k).foldl keepH h
theorem keepS_next {h : Hs} {l : List ActT} {k : Nat} {t : ActT} (ht : l[k]? = some t) : keepS h l (k + 1) = keepH (keepS h l k) t := by
  obtain ⟨h1, h2⟩ := List.getElem?_eq_some_iff.1 ht
  unfold keepS
  rw [List.take_succ_eq_append_getElem h1, h2, List.foldl_append]
  rfl
theorem keepS_ok {h : Hs} (g : Good 0 h) (k : Kept h) (l : List ActT) : ∀ n, n ≤ 50 → n ≤ l.length → Good n (keepS h l n) ∧ Kept (keepS h l n)
  | 0, _, _ => ⟨g, k⟩
  | n + 1, hn, hl => by
    obtain ⟨g1, k1⟩ := keepS_ok g k l n (by omega) (by omega)
    obtain ⟨t, ht⟩ : ∃ t, l[n]? = some t := ⟨_, List.getElem?_eq_getElem (by omega)⟩
    rw [keepS_next ht]
    exact ⟨keep_good g1 (by omega) t, keep_kept k1 g1 (by omega) t⟩

end Go.Proofs.Ytmkpidipoadnbaa

namespace Go.Proofs.Ytmkpidipoadnbaa
open Go Go.RowKit Go.Sort

theorem turnA_rest (h : Hs) (x : Int) (f : Ac → Ac) : (turnA h x f).months = h.months ∧ (turnA h x f).ac.length = h.ac.length := by
  unfold turnA
  split
  · exact ⟨rfl, rfl⟩
  · exact ⟨rfl, by show (h.ac.set _ _).length = _; rw [List.length_set]⟩
theorem default_rest {B : Nat} {h : Hs} (g : Good B h) (hB : B ≤ 200) (x : Int) : (defaultT h x).months = h.months ∧ (defaultT h x).ac.length = h.ac.length := by
  by_cases e : traderE h x = 0
  · obtain ⟨a, ha, _, et, _⟩ := default_got e
    rw [et]
    have hm := List.mem_of_getElem? (accOf_some ha).2.1
    obtain ⟨ok, pk⟩ := good_cov g hB
    have od := dealt_ok ok pk (accI x) a hm
    refine ⟨(coverR_rest (dealtH h (accI x) a) (accI x)).1.trans (dealt_rest h (accI x) a).1, ?_⟩
    have hL : 0 ≤ lackI (dealtH h (accI x) a) (accI x) := by unfold lackI; omega
    have := (coverS_ok (upA_cov od (accI x)) (accI x) hL 5).acs
    rw [upA_len, dealt_len] at this
    exact this
  · unfold defaultT
    rw [if_neg e]
    exact ⟨rfl, rfl⟩
theorem keep_rest {B : Nat} {h : Hs} (g : Good B h) (hB : B ≤ 200) (t : ActT) : (keepH h t).months = h.months ∧ (keepH h t).ac.length = h.ac.length := by
  unfold keepH
  split
  · unfold depositT; split
    · exact turnA_rest _ _ _
    · exact ⟨rfl, rfl⟩
  split
  · unfold withdrawT; split
    · exact turnA_rest _ _ _
    · exact ⟨rfl, rfl⟩
  split
  · unfold contributeT; split
    · exact turnA_rest _ _ _
    · exact ⟨rfl, rfl⟩
  split
  · unfold tradeT; split
    · have h1 := turnA_rest h t.a (bookA t.month.toNat (quT t) (tradeG h t.month (quT t) (prT t)))
      have h2 := turnA_rest (turnA h t.a (bookA t.month.toNat (quT t) (tradeG h t.month (quT t) (prT t)))) t.b (bookA t.month.toNat (-(quT t)) (-(tradeG h t.month (quT t) (prT t))))
      exact ⟨h2.1.trans h1.1, h2.2.trans h1.2⟩
    · exact ⟨rfl, rfl⟩
  split
  · unfold deliverT; split
    · have h1 := turnA_rest h t.a (bookA t.month.toNat (-(quT t)) 0)
      have h2 := turnA_rest (turnA h t.a (bookA t.month.toNat (-(quT t)) 0)) t.b (bookA t.month.toNat (quT t) 0)
      exact ⟨h2.1.trans h1.1, h2.2.trans h1.2⟩
    · exact ⟨rfl, rfl⟩
  split
  · unfold markR; split
    · exact ⟨rfl, by show (h.ac.map _).length = _; rw [List.length_map]⟩
    · exact ⟨rfl, rfl⟩
  · exact default_rest g hB _
theorem keepS_rest {h : Hs} (g : Good 0 h) (k : Kept h) (l : List ActT) : ∀ n, n ≤ 50 → n ≤ l.length → (keepS h l n).months = h.months ∧ (keepS h l n).ac.length = h.ac.length
  | 0, _, _ => ⟨rfl, rfl⟩
  | n + 1, hn, hl => by
    obtain ⟨t, ht⟩ : ∃ t, l[n]? = some t := ⟨_, List.getElem?_eq_getElem (by omega)⟩
    rw [keepS_next ht]
    have h1 := keep_rest (keepS_ok g k l n (by omega) (by omega)).1 (by omega) t
    have h2 := keepS_rest g k l n (by omega) (by omega)
    exact ⟨h1.1.trans h2.1, h1.2.trans h2.2⟩
section
variable {w W w' : World} {bs b ga ca cm ck : Nat} {pm pk : Option Addr} {h : Hs}
theorem account_st {B : Nat} (hh : HouseSt W bs b ga ca pm cm h) (g : Good B h) (hB : B ≤ 200) {i : Nat} {a : Ac} (hi : h.ac[i]? = some a) : Calls Try.prog 16 #[.pointer (some ⟨b, 0, none⟩), .int .i64 ((i : Int) + 1)] W fun r w' => ∃ q d, r = .returned (.tuple #[acctV a q h.months d, .int .i64 0]) ∧ w'.ownsRow W.heap.size 2 1 (.slice q h.months d) h.months ((a.pos.take h.months).map (Value.int .i64)) ∧ Adds W w' := by
  obtain ⟨pk, ck, h1, h2⟩ := hh
  have hl := (List.getElem?_eq_some_iff.1 hi).1
  have e : accOf h ((i : Int) + 1) = some a := by
    unfold accOf
    rw [if_pos (inB_of hl)]
    have : accI ((i : Int) + 1) = i := by unfold accI; omega
    rw [this]; exact hi
  exact Account_some h1 (g.t.sound hB) g.mo0 g.mo1 e
end
theorem sumG_next {g : Ac → Int} {l : List Ac} {i : Nat} {a : Ac} (h : l[i]? = some a) : sumG g (l.take (i + 1)) = sumG g (l.take i) + g a := by
  obtain ⟨h1, h2⟩ := List.getElem?_eq_some_iff.1 h
  unfold sumG
  rw [List.take_succ_eq_append_getElem h1, h2, List.map_append, List.sum_append]
  simp

end Go.Proofs.Ytmkpidipoadnbaa
