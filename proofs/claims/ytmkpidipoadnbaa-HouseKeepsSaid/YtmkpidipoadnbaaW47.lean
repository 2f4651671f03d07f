/- A row appended to nothing; copied. -/
import Derived.Test.YtmkpidipoadnbaaW46
import Derived.Test.YtmkpidipoadnbaaW28
import Derived.Test.YtmkpidipoadnbaaW44
import Derived.Laws.OwnMore
import Derived.BigRegion
import Derived.RegionTactic
namespace Go.Proofs.Ytmkpidipoadnbaa
open Go Go.RowKit Go.Sort

/-- A house in memory, its contracts its own. -/
def HouseSt (w : World) (bs b ga ca : Nat) (pm : Option Addr) (cm : Nat) (h : Hs) : Prop := ∃ pk ck, HouseAt w bs b ga ca pm cm pk ck h ∧ OwnK w bs pk ck h.ks
/-- What a call on a house leaves as it was. -/
structure After (bs : Nat) (W w' : World) : Prop where
  box : ∀ p vs u, Box W p vs u → u ≠ 72 → u ≠ 66 → u ≠ 42 → Box w' p vs u
  adds : ∀ w, w.heap.size ≤ bs → Adds w W → Adds w w'
section
variable {w W w' : World} {bs b ga ca cm ck : Nat} {pm pk : Option Addr} {h : Hs}
theorem HouseSt.later (hh : HouseSt W bs b ga ca pm cm h) (ha : Adds W w') : HouseSt w' bs b ga ca pm cm h := by
  obtain ⟨pk, ck, h1, h2⟩ := hh
  exact ⟨pk, ck, h1.later ha, own_later h2 ha⟩
theorem After.refl (bs : Nat) (W : World) : After bs W W := ⟨fun _ _ _ h _ _ _ => h, fun _ _ h => h⟩
theorem After.of_adds (h : Adds W w') : After bs W w' := ⟨fun _ _ _ hb _ _ _ => hb.later h, fun _ _ ha => ha.trans h⟩
theorem After.trans {w'' : World} (h : After bs W w') (k : After bs w' w'') : After bs W w'' := ⟨fun p vs u hb a1 a2 a3 => k.box p vs u (h.box p vs u hb a1 a2 a3) a1 a2 a3, fun w hs ha => k.adds w hs (h.adds w hs ha)⟩
theorem After.of (hh : HouseAt W bs b ga ca pm cm pk ck h) (hk : OwnK W bs pk ck h.ks) (ht : Touch (fun k => k = ga ∨ k = b ∨ (Value.slice pk h.ks.length ck).ownBlock = some k) W w') : After bs W w' := by
  obtain ⟨hga, cura, ha⟩ := hh.blk
  have hb := hh.bx
  unfold Box at hb
  refine ⟨fun p vs u hp a1 a2 a3 => hp.same (ht.same p hp.lt fun e => ?_), fun w hs hA => Touch.adds hA ht fun k hk2 => ?_⟩
  · unfold Box at hp
    rcases e with e | e | e
    · subst e
      rw [ha] at hp
      simp only [Option.some.injEq, Obj.cells.injEq] at hp
      exact a1 hp.2.1.symm
    · subst e
      rw [hb] at hp
      simp only [Option.some.injEq, Obj.cells.injEq] at hp
      exact a2 hp.2.1.symm
    · obtain ⟨_, curk, h3⟩ := own_block hk e
      rw [h3] at hp
      simp only [Option.some.injEq, Obj.cells.injEq] at hp
      exact a3 hp.2.1.symm
  · rcases hk2 with e | e | e
    · rw [e]; exact Nat.le_trans hs hga
    · rw [e]; exact Nat.le_trans hs hh.lo
    · exact Nat.le_trans hs (own_block hk e).1
theorem OwnK.stay (hh : HouseAt W bs b ga ca pm cm pk ck h) (hk : OwnK W bs pk ck h.ks) (ht : Touch (fun k => k = ga ∨ k = b) W w') : OwnK w' bs pk ck h.ks :=
  own_trans hk ht fun k hk2 e => by
    obtain ⟨_, cura, ha⟩ := hh.blk
    have hb := hh.bx
    unfold Box at hb
    obtain ⟨_, curk, h3⟩ := own_block hk hk2
    rcases e with e | e
    · subst e
      rw [ha] at h3
      simp only [Option.some.injEq, Obj.cells.injEq] at h3
      exact absurd h3.2.1 (by decide)
    · subst e
      rw [hb] at h3
      simp only [Option.some.injEq, Obj.cells.injEq] at h3
      exact absurd h3.2.1 (by decide)
/-- What a call says of the house that it leaves. -/
def Left (bs b ga ca : Nat) (pm : Option Addr) (cm : Nat) (W : World) (h' : Hs) (w' : World) : Prop := HouseSt w' bs b ga ca pm cm h' ∧ After bs W w'
theorem left_of {h' : Hs} (hh : HouseAt W bs b ga ca pm cm pk ck h) (hk : OwnK W bs pk ck h.ks) (hks : h'.ks = h.ks) (h2 : HouseAt w' bs b ga ca pm cm pk ck h') (ht : Touch (fun k => k = ga ∨ k = b) W w') : Left bs b ga ca pm cm W h' w' :=
  ⟨⟨pk, ck, h2, by rw [hks]; exact OwnK.stay hh hk ht⟩, After.of hh hk (ht.mono fun k e => by rcases e with e | e <;> simp [e])⟩
theorem turnA_ks (h : Hs) (x : Int) (f : Ac → Ac) : (turnA h x f).ks = h.ks := by unfold turnA; split <;> rfl
theorem deposit_st (hh : HouseSt W bs b ga ca pm cm h) (hs : Sound h) (x y : Int) : Calls Try.prog 8 #[.pointer (some ⟨b, 0, none⟩), .int .i64 x, .int .i64 y] W fun r w' => r = .returned (.int .i64 (payerE h x y)) ∧ Left bs b ga ca pm cm W (depositT h x y) w' := by
  obtain ⟨pk, ck, h1, h2⟩ := hh
  refine (Deposit_any h1 hs x y).mono ?_
  rintro r w' ⟨rfl, h3, h4⟩
  exact ⟨rfl, left_of h1 h2 (by unfold depositT; split; exact turnA_ks _ _ _; rfl) h3 (h4.mono fun k e => .inl e)⟩
theorem withdraw_st (hh : HouseSt W bs b ga ca pm cm h) (hs : Sound h) (x y : Int) : Calls Try.prog 9 #[.pointer (some ⟨b, 0, none⟩), .int .i64 x, .int .i64 y] W fun r w' => r = .returned (.int .i64 (payE h x y)) ∧ Left bs b ga ca pm cm W (withdrawT h x y) w' := by
  obtain ⟨pk, ck, h1, h2⟩ := hh
  refine (Withdraw_any h1 hs x y).mono ?_
  rintro r w' ⟨rfl, h3, h4⟩
  exact ⟨rfl, left_of h1 h2 (by unfold withdrawT; split; exact turnA_ks _ _ _; rfl) h3 (h4.mono fun k e => .inl e)⟩
theorem contribute_st (hh : HouseSt W bs b ga ca pm cm h) (hs : Sound h) (x y : Int) : Calls Try.prog 10 #[.pointer (some ⟨b, 0, none⟩), .int .i64 x, .int .i64 y] W fun r w' => r = .returned (.int .i64 (payE h x y)) ∧ Left bs b ga ca pm cm W (contributeT h x y) w' := by
  obtain ⟨pk, ck, h1, h2⟩ := hh
  refine (Contribute_any h1 hs x y).mono ?_
  rintro r w' ⟨rfl, h3, h4⟩
  exact ⟨rfl, left_of h1 h2 (by unfold contributeT; split; exact turnA_ks _ _ _; rfl) h3 (h4.mono fun k e => .inl e)⟩
theorem deliver_st (hh : HouseSt W bs b ga ca pm cm h) (hs : Sound h) (hmo : h.months ≤ 12) (x y m q : Int) : DeliverTo (.pointer (some ⟨b, 0, none⟩)) x y m q W fun r w' => r = .returned (.int .i64 (deliverE h x y m q)) ∧ Left bs b ga ca pm cm W (deliverT h x y m q) w' := by
  obtain ⟨pk, ck, h1, h2⟩ := hh
  refine Calls.mono (Deliver_any h1 hs hmo x y m q) ?_
  rintro r w' ⟨rfl, h3, h4⟩
  exact ⟨rfl, left_of h1 h2 (by unfold deliverT; split; rw [turnA_ks, turnA_ks]; rfl) h3 (h4.mono fun k e => .inl e)⟩
theorem trade_st {B : Nat} (hh : HouseSt W bs b ga ca pm cm h) (g : Good B h) (hB : B ≤ 199) (bu se mo q pr : Int) : TradeTo (.pointer (some ⟨b, 0, none⟩)) bu se mo q pr W fun r w' => r = .returned (.tuple #[.int .i64 (tradeN h bu se mo q pr), .int .i64 (tradeE h bu se mo q pr)]) ∧ Left bs b ga ca pm cm W (tradeT h bu se mo q pr) w' := by
  obtain ⟨pk, ck, h1, h2⟩ := hh
  refine Calls.mono (Trade_any h1 g.t hB g.mo1 h2 (by have := g.ks; omega) bu se mo q pr) ?_
  rintro r w' ⟨pk', ck', rfl, h3, h4, h5⟩
  exact ⟨rfl, ⟨pk', ck', h3, h4⟩, After.of h1 h2 h5⟩
theorem mark_st {B : Nat} (hh : HouseSt W bs b ga ca pm cm h) (g : Good B h) (hB : B ≤ 199) (m p : Int) : Calls Try.prog 13 #[.pointer (some ⟨b, 0, none⟩), .int .i64 m, .int .i64 p] W fun r w' => ∃ q c, r = .returned (.tuple #[.slice q (markL h m p).length c, .int .i64 (markE h m p)]) ∧ w'.ownsRow W.heap.size 3 1 (.slice q (markL h m p).length c) (markL h m p).length ((markL h m p).map (Value.int .i64)) ∧ Left bs b ga ca pm cm W (markR h m p) w' := by
  obtain ⟨pk, ck, h1, h2⟩ := hh
  refine (Mark_any h1 g.t hB g.mo1 m p).mono ?_
  rintro r w' ⟨q, c, rfl, h3, h4, h5⟩
  exact ⟨q, c, rfl, h4, left_of h1 h2 (by unfold markR; split; rfl; rfl) h3 h5⟩
theorem default_ks {B : Nat} (_g : Good B h) (x : Int) : (defaultT h x).ks = h.ks := by
  by_cases e : traderE h x = 0
  · obtain ⟨a, ha, _, et, _⟩ := default_got e
    rw [et]
    exact (coverR_rest (dealtH h (accI x) a) (accI x)).2.2.2.2.trans (dealt_rest h (accI x) a).2.2.2.2.1
  · unfold defaultT
    rw [if_neg e]
theorem good_hole {B : Nat} (g : Good B h) (hB : B ≤ 60) : h.hole < 4611686018427387904 := by
  have h1 := g.hole1
  have h2 : (B : Int) * (B : Int) ≤ 60 * 60 := Int.mul_le_mul (by omega) (by omega) (by omega) (by omega)
  omega
theorem default_st {B : Nat} (hh : HouseSt W bs b ga ca pm cm h) (g : Good B h) (hB : B ≤ 60) (x : Int) : Calls Try.prog 14 #[.pointer (some ⟨b, 0, none⟩), .int .i64 x] W fun r w' => r = .returned (.tuple #[.agg (five (defaultL h x)), .int .i64 (traderE h x)]) ∧ Left bs b ga ca pm cm W (defaultT h x) w' := by
  obtain ⟨pk, ck, h1, h2⟩ := hh
  obtain ⟨ok, pok⟩ := good_cov g (by omega)
  refine (Default_any h1 ok pok g.hole0 (good_hole g hB) x).mono ?_
  rintro r w' ⟨rfl, h3, h4⟩
  exact ⟨rfl, left_of h1 h2 (default_ks g x) h3 h4⟩
theorem total_st {B : Nat} (hh : HouseSt W bs b ga ca pm cm h) (g : Good B h) : Calls Try.prog 15 #[.pointer (some ⟨b, 0, none⟩)] W fun r w' => r = .returned (.int .i64 (wrap64 (moneyT h))) ∧ Adds W w' := by
  obtain ⟨pk, ck, h1, h2⟩ := hh
  have := Total_any h1 g.t.calm.prices g.t.few
  rw [total_money] at this
  exact this
end

end Go.Proofs.Ytmkpidipoadnbaa

namespace Go.Proofs.Ytmkpidipoadnbaa
open Go Go.RowKit Go.Sort

def smallT (n most : Int) : Int := n % 18446744073709551616 % (most + 1)
theorem small_bd {n most : Int} (h : 0 ≤ most) : 0 ≤ smallT n most ∧ smallT n most ≤ most := by
  unfold smallT
  have h1 := Int.emod_nonneg (n % 18446744073709551616) (b := most + 1) (by omega)
  have h2 := Int.emod_lt_of_pos (n % 18446744073709551616) (b := most + 1) (by omega)
  omega
set_option maxRecDepth 100000 in
theorem small_any (n most : Int) (w : World) (h0 : 0 ≤ most) (h1 : most ≤ 1000000000) (_hn0 : -9223372036854775808 ≤ n) (_hn1 : n ≤ 9223372036854775807) :
    Calls Try.prog 7 #[.int .i64 n, .int .i64 most] w fun r w' => r = .returned (.int .i64 (smallT n most)) ∧ Adds w w' := by
  have hb := small_bd (n := n) h0
  have hw : IntKind.i64.wrap (most + 1) = most + 1 := by rw [IntKind.wrap_i64]; omega
  have hw2 : IntKind.u64.wrap (most + 1) = most + 1 := by rw [IntKind.wrap_u64]; omega
  have hu : IntKind.u64.wrap n = n % 18446744073709551616 := by rw [IntKind.wrap_u64]
  have ht : Int.tmod (n % 18446744073709551616) (most + 1) = smallT n most := by
    unfold smallT
    rw [Int.tmod_eq_emod_of_nonneg (by omega)]
  have hne : (most + 1 == 0) = false := by rw [beq_eq_false_iff_ne]; omega
  have hw3 : IntKind.i64.wrap (smallT n most) = smallT n most := by rw [IntKind.wrap_i64]; omega
  have hw4 : IntKind.u64.wrap (smallT n most) = smallT n most := by rw [IntKind.wrap_u64]; omega
  go_enter Try.func7, Try.ntmps7
  go_wp2
  go_ret
  exact ⟨rfl, Adds.refl w⟩

end Go.Proofs.Ytmkpidipoadnbaa

namespace Go.Proofs.Ytmkpidipoadnbaa
open Go Go.RowKit Go.Sort

section
variable {P : Program} {W : World}
/-- append(nil, xs...), whatever xs are. -/
theorem append_src (t e ty : TypeId) (i : TypeInfo) (z : Value) (size bytes : Nat) (ht : P.underlying t = some (.slice e)) (hi : P.info? e = some i) (hz : i.zero = some z) (hsize : i.size = size) (hby : i.bytes = bytes) (hzs : z.cells.size = size) (hsz : 0 < size) (hbs : bytes ≤ 1000)
    (p : Option Addr) (m c : Nat) (xs : List Value) (hl : xs.length = m * size) (hc : CellsAt W p xs) (hn : p = none → c = 0 ∧ m = 0) (h1 : ∀ u ∈ xs, u.oneCell' = true) (hm : m ≤ 1000000) :
    ∃ q d W', (Builtin.append_ #[t, t] ty #[.slice none 0 0, .slice p m c]).run P W = .ok (.slice q m d) W' ∧ W'.ownsRow W.heap.size e size (.slice q m d) m xs ∧ Adds W W' ∧ (q = none → d = 0 ∧ m = 0) := by
  have hnil : W.ownsRow W.heap.size e size (.slice none 0 0) 0 [] := World.ownsRow_nil _ _ _ _
  cases p with
  | none =>
    obtain ⟨rfl, rfl⟩ := hn rfl
    have hx : xs = [] := List.eq_nil_of_length_eq_zero (by omega)
    subst hx
    exact ⟨none, 0, W, run_append_owned_none W W.heap.size t ty e i size ht hi _ 0 [] hnil, hnil, Adds.refl W, fun _ => ⟨rfl, rfl⟩⟩
  | some a =>
    obtain ⟨v', w', hr, h2, h3, h4, h5⟩ := run_append_own_at (P := P) (w := W) W.heap.size t ty e i z size bytes ht hi hz hsize hby hzs hsz _ 0 [] hnil a m c xs hl (fun j u hj => by
      obtain ⟨g2, o2, e2, hc2⟩ := hc j u hj
      injection e2 with e2
      subst e2
      by_cases hj0 : j = 0
      · subst hj0; exact hc2
      · simp only [Addr.add, if_neg hj0]; exact hc2) h1 (by unfold maxLen; omega) (by
        have : (0 + m) * bytes ≤ 1000000 * 1000 := Nat.mul_le_mul (by omega) hbs
        omega) (Nat.le_refl _)
    rw [Nat.zero_add, List.nil_append] at h2
    obtain ⟨q, d, rfl⟩ := own_slice h2
    refine ⟨q, d, w', hr, h2, Below.grown (Adds.refl W) h3 (Nat.le_refl _) (fun j hj => by cases hj), fun hq => ?_⟩
    subst hq
    rcases h2.2 with ⟨hv, h0⟩ | ⟨g, cap, cur, hv, _⟩
    · injection hv with _ _ hv
      exact ⟨hv, h0⟩
    · cases hv
end

section
variable {P : Program}
theorem wp_append_run {o : Oper} {a : Act} {w : World} {K : Act → World → Prop} {Q : Exit → Act → World → Prop} (s x : Operand) (t : TypeId) (ho : o.op = .call { callee := .builtin .append, args := #[s, x], argTypes := #[t, t] }) (v u : Value) (hs : a.eval s = v) (hx : a.eval x = u) (r : Value) (w' : World) (hr : (Builtin.append_ #[t, t] o.type #[v, u]).run P w = .ok r w') (h : K (a.put o.dst r) w') : o.wp P a w K Q := by
  unfold Oper.wp execOp
  simp only [ho, resolve, invoke, builtin, Sem.run_bind, Sem.run_pure, Result.andThen_ok, List.map_toArray, List.map_cons, List.map_nil, hs, hx, hr]
  exact h
theorem wpList_append_run {w : World} {ops : Array Oper} {rest : List Oper} {o : Oper} {a : Act} {Q : Exit → Act → World → Prop} (hgd : o.guard = none) (s x : Operand) (t : TypeId) (ho : o.op = .call { callee := .builtin .append, args := #[s, x], argTypes := #[t, t] }) (v u : Value) (hs : a.eval s = v) (hx : a.eval x = u) (r : Value) (w' : World) (hr : (Builtin.append_ #[t, t] o.type #[v, u]).run P w = .ok r w') (h : wpList P ops Q rest (a.put o.dst r) w') : wpList P ops Q (o :: rest) a w :=
  wpList_plain hgd fun _ hK => wp_append_run s x t ho v u hs hx r w' hr (hK _ _ h)
theorem step_append_run {w : World} {ops : Array Oper} {o : Oper} {a : Act} {K : Act → World → Prop} {Q : Exit → Act → World → Prop} {E : Prop} (hgd : o.guard = none) (s x : Operand) (t : TypeId) (ho : o.op = .call { callee := .builtin .append, args := #[s, x], argTypes := #[t, t] }) (v u : Value) (hs : a.eval s = v) (hx : a.eval x = u) (r : Value) (w' : World) (hr : (Builtin.append_ #[t, t] o.type #[v, u]).run P w = .ok r w') (h : K (a.put o.dst r) w') : if Region.wanted o (yielded ops a.tmps) = true then Oper.wp P o a w K Q else E := by
  have hw : Region.wanted o (yielded ops a.tmps) = true := by simp [Region.wanted, hgd]
  rw [if_pos hw]
  exact wp_append_run s x t ho v u hs hx r w' hr h
end

/-- Numbers that lie somewhere, as a slice. -/
def SrcAt (w : World) (p : Option Addr) (n c : Nat) (l : List Value) : Prop := CellsAt w p l ∧ (p = none → c = 0 ∧ n = 0) ∧ n ≤ c
section
variable {w w' : World} {mp : Option Addr} {cm base base' : Nat} {moves : List (List Int)}
theorem SrcAt.later {w w' : World} {p : Option Addr} {n c : Nat} {l : List Value} (h : SrcAt w p n c l) (ha : Adds w w') : SrcAt w' p n c l := ⟨h.1.later ha, h.2⟩
theorem SrcAt.take {w : World} {p : Option Addr} {n c : Nat} {l : List Value} (h : SrcAt w p n c l) (k : Nat) (hk : k ≤ n) : SrcAt w p k c (l.take k) := ⟨fun j u hj => h.1 j u (by
  rw [List.getElem?_take] at hj
  split at hj
  · exact hj
  · cases hj), fun e => ⟨(h.2.1 e).1, by have := (h.2.1 e).2; omega⟩, by have := h.2.2; omega⟩
theorem own_src {w : World} {base t size n c : Nat} {p : Option Addr} {xs : List Value} (h : w.ownsRow base t size (.slice p n c) n xs) : SrcAt w p n c xs := by
  refine ⟨own_cellsAt h, fun e => ?_, ?_⟩
  · subst e
    rcases h.2 with ⟨hv, h0⟩ | ⟨g, cap, cur, hv, _⟩
    · injection hv with _ _ hv
      exact ⟨hv, h0⟩
    · cases hv
  · rcases h.2 with ⟨hv, h0⟩ | ⟨g, cap, cur, hv, _, _, hle, _⟩
    · omega
    · injection hv with _ _ hv
      omega
/-- Rows of numbers, as slices. -/
def MovesS (w : World) (mp : Option Addr) (cm : Nat) (moves : List (List Int)) : Prop :=
  ∃ sl : List (Option Addr × Nat), sl.length = moves.length ∧ SrcAt w mp moves.length cm (List.zipWith (fun s m => Value.slice s.1 (List.length m) s.2) sl moves) ∧ ∀ (i : Nat) (s : Option Addr × Nat) (m : List Int), sl[i]? = some s → moves[i]? = some m → SrcAt w s.1 m.length s.2 (List.map (Value.int .i64) m)
theorem MovesS.at (h : MovesS w mp cm moves) : MovesAt w mp moves := by
  obtain ⟨sl, h1, h2, h3⟩ := h
  exact ⟨sl, h1, h2.1, fun i s m a b => (h3 i s m a b).1⟩
theorem MovesS.later (h : MovesS w mp cm moves) (ha : Adds w w') : MovesS w' mp cm moves := by
  obtain ⟨sl, h1, h2, h3⟩ := h
  exact ⟨sl, h1, h2.later ha, fun i s m a b => (h3 i s m a b).later ha⟩
theorem MovesS.get (h : MovesS w mp cm moves) {i : Nat} {m : List Int} (hi : moves[i]? = some m) : ∃ g o p c, mp = some ⟨g, o, none⟩ ∧ w.cell? ⟨g, o + i, none⟩ = some (.slice p m.length c) ∧ SrcAt w p m.length c (m.map (Value.int .i64)) := by
  obtain ⟨sl, h1, h2, h3⟩ := h
  have hl := (List.getElem?_eq_some_iff.1 hi).1
  obtain ⟨s, hs⟩ : ∃ s, sl[i]? = some s := ⟨_, List.getElem?_eq_getElem (by omega)⟩
  obtain ⟨g, o, e, hc⟩ := h2.1 i (.slice s.1 m.length s.2) (by rw [List.getElem?_zipWith, hs, hi])
  exact ⟨g, o, s.1, s.2, e, hc, h3 i s m hs hi⟩
/-- Rows of numbers of the program's own. -/
def MovesO (w : World) (base : Nat) (mp : Option Addr) (cm : Nat) (moves : List (List Int)) : Prop :=
  ∃ sl : List (Option Addr × Nat), sl.length = moves.length ∧ w.ownsRow base 22 1 (.slice mp moves.length cm) moves.length (List.zipWith (fun s m => Value.slice s.1 (List.length m) s.2) sl moves) ∧ ∀ (i : Nat) (s : Option Addr × Nat) (m : List Int), sl[i]? = some s → moves[i]? = some m → w.ownsRow base 2 1 (.slice s.1 m.length s.2) m.length (List.map (Value.int .i64) m)
theorem MovesO.src (h : MovesO w base mp cm moves) : MovesS w mp cm moves := by
  obtain ⟨sl, h1, h2, h3⟩ := h
  exact ⟨sl, h1, own_src h2, fun i s m a b => own_src (h3 i s m a b)⟩
theorem MovesO.later (h : MovesO w base mp cm moves) (ha : Adds w w') : MovesO w' base mp cm moves := by
  obtain ⟨sl, h1, h2, h3⟩ := h
  exact ⟨sl, h1, own_later h2 ha, fun i s m a b => own_later (h3 i s m a b) ha⟩
theorem MovesO.le (h : MovesO w base mp cm moves) (hb : base' ≤ base) : MovesO w base' mp cm moves := by
  obtain ⟨sl, h1, h2, h3⟩ := h
  exact ⟨sl, h1, own_base_le h2 hb, fun i s m a b => own_base_le (h3 i s m a b) hb⟩
theorem MovesO.heap (h : MovesO w base mp cm moves) {g : Nat} {cur : Array Value} {u : TypeId} (hg : w.heap[g]? = some (.cells cur u (0, 0))) (hn1 : 22 ≠ u) (hn2 : 2 ≠ u) (hs : ∀ k, k ≠ g → w'.heap[k]? = w.heap[k]?) : MovesO w' base mp cm moves := by
  obtain ⟨sl, h1, h2, h3⟩ := h
  exact ⟨sl, h1, own_heap h2 hg hn1 hs, fun i s m a b => own_heap (h3 i s m a b) hg hn2 hs⟩
end

theorem append_ints (W : World) (p : Option Addr) (m c : Nat) (l : List Int) (hl : l.length = m) (h : SrcAt W p m c (l.map (Value.int .i64))) (hm : m ≤ 1000000) :
    ∃ q d W', (Builtin.append_ #[22, 22] 22 #[.slice none 0 0, .slice p m c]).run Try.prog W = .ok (.slice q m d) W' ∧ W'.ownsRow W.heap.size 2 1 (.slice q m d) m (l.map (Value.int .i64)) ∧ Adds W W' := by
  obtain ⟨j0, hj, hj0, hj1, hj2⟩ := info_parts info_long
  obtain ⟨q, d, W', h1, h2, h3, _⟩ := append_src (P := Try.prog) (W := W) 22 2 22 j0 (.int .i64 0) 1 8 Try.underlying22 hj hj0 hj1 hj2 rfl (by omega) (by omega) p m c (l.map (Value.int .i64)) (by rw [List.length_map, Nat.mul_one]; exact hl) h.1 h.2.1 (ints_one l) hm
  exact ⟨q, d, W', h1, h2, h3⟩

end Go.Proofs.Ytmkpidipoadnbaa
