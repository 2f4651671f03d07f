/- What stays of a house when its row of contracts grows. -/
import Derived.Test.YtmkpidipoadnbaaW21
import Derived.StillTailTactics
import Derived.Deep.AppendLies
namespace Go.Proofs.Ytmkpidipoadnbaa
open Go Go.RowKit Go.Sort

def deliverE (h : Hs) (x y m q : Int) : Int :=
  if contractE h x y m q 1 = 0 then
    match accOf h x, accOf h y with
    | some a1, some a2 => if a1.pos.getD m.toNat 0 < q ∨ -q < a2.pos.getD m.toNat 0 then 9 else 0
    | _, _ => 0
  else contractE h x y m q 1
def deliverT (h : Hs) (x y m q : Int) : Hs := if deliverE h x y m q = 0 then turnA (turnA h x (bookA m.toNat (-q) 0)) y (bookA m.toNat q 0) else h
theorem accOf_turn {h : Hs} {x y : Int} {f : Ac → Ac} {a1 a2 : Ac} (e1 : accOf h x = some a1) (e2 : accOf h y = some a2) (hne : x ≠ y) : accOf (turnA h x f) y = some a2 := by
  obtain ⟨x1, x2, x3⟩ := accOf_some e1
  obtain ⟨y1, y2, y3⟩ := accOf_some e2
  have hb := accOf_in e2
  rw [turnA_some e1]
  unfold accOf
  simp only [List.length_set]
  rw [if_pos hb, List.getElem?_set_ne (by omega)]
  exact y2

section
variable {w : World} {base b ga ca cm ck : Nat} {pm pk : Option Addr} {h : Hs}
theorem Deliver_any (hh : HouseAt w base b ga ca pm cm pk ck h) (hs : Sound h) (hmo : h.months ≤ 12) (x y m q : Int) :
    DeliverTo (.pointer (some ⟨b, 0, none⟩)) x y m q w fun r w' => r = .returned (.int .i64 (deliverE h x y m q)) ∧ HouseAt w' base b ga ca pm cm pk ck (deliverT h x y m q) ∧ Touch (fun k => k = ga) w w' := by
  have hck := check_any hh hs.few x y m q 1
  by_cases h0 : contractE h x y m q 1 = 0
  · obtain ⟨a1, a2, e1, e2, _, _, hne, hm, hq, _⟩ := check_ok h0
    obtain ⟨x1, x2, x3⟩ := accOf_some e1
    obtain ⟨y1, y2, y3⟩ := accOf_some e2
    have s1 := (hs.acs a1 (List.mem_of_getElem? x2)).1
    have s2 := (hs.acs a2 (List.mem_of_getElem? y2)).1
    have hmt : m = ((m.toNat : Nat) : Int) := by omega
    have hm12 : m.toNat < 12 := by omega
    have hij : accI x ≠ accI y := by omega
    rw [h0] at hck
    have hE : deliverE h x y m q = if a1.pos.getD m.toNat 0 < q ∨ -q < a2.pos.getD m.toNat 0 then 9 else 0 := by unfold deliverE; rw [if_pos h0, e1, e2]
    obtain ⟨i, hi⟩ : ∃ i, i = accI x := ⟨_, rfl⟩
    obtain ⟨j, hj⟩ : ∃ j, j = accI y := ⟨_, rfl⟩
    obtain ⟨k, hk⟩ : ∃ k, k = m.toNat := ⟨_, rfl⟩
    have hck2 : CheckTo (.pointer (some ⟨b, 0, none⟩)) ((i : Int) + 1) ((j : Int) + 1) (k : Int) q 1 w 0 := by
      rw [hi, hj, hk, ← x1, ← y1, ← hmt]; exact hck
    have goal_eq : ∀ Q, DeliverTo (.pointer (some ⟨b, 0, none⟩)) ((i : Int) + 1) ((j : Int) + 1) (k : Int) q w Q → DeliverTo (.pointer (some ⟨b, 0, none⟩)) x y m q w Q := fun Q hQ => by
      rw [hi, hj, hk, ← x1, ← y1, ← hmt] at hQ; exact hQ
    rw [← hi] at x2 hij
    rw [← hj] at y2 hij
    rw [← hk] at hm12 hE
    by_cases c1 : a1.pos.getD k 0 < q
    · have e9 : deliverE h x y m q = 9 := by rw [hE, if_pos (.inl c1)]
      have et : deliverT h x y m q = h := by unfold deliverT; rw [e9]; rfl
      rw [e9, et]
      refine goal_eq _ ((deliver_1 hh hs.few q hck2 hq x2 y2 hij hm12 s1 s2 c1).mono ?_)
      rintro e w1 ⟨rfl, hA⟩
      exact ⟨rfl, hh.later hA, Touch.of_adds hA _⟩
    · by_cases c2 : -q < a2.pos.getD k 0
      · have e9 : deliverE h x y m q = 9 := by rw [hE, if_pos (.inr c2)]
        have et : deliverT h x y m q = h := by unfold deliverT; rw [e9]; rfl
        rw [e9, et]
        refine goal_eq _ ((deliver_2 hh hs.few q hck2 hq x2 y2 hij hm12 s1 s2 (by omega) c2).mono ?_)
        rintro e w1 ⟨rfl, hA⟩
        exact ⟨rfl, hh.later hA, Touch.of_adds hA _⟩
      · have e9 : deliverE h x y m q = 0 := by rw [hE, if_neg (by rintro (c | c) <;> omega)]
        have et : deliverT h x y m q = { h with ac := (h.ac.set i (bookA k (-q) 0 a1)).set j (bookA k q 0 a2) } := by
          unfold deliverT
          rw [if_pos e9, turnA_some (accOf_turn e1 e2 hne), turnA_some e1, hi, hj, hk]
        rw [e9, et]
        exact goal_eq _ (deliver_ok hh hs.few q hck2 hq x2 y2 hij hm12 s1 s2 (by omega) (by omega))
  · have e9 : deliverE h x y m q = contractE h x y m q 1 := by unfold deliverE; rw [if_neg h0]
    have et : deliverT h x y m q = h := by unfold deliverT; rw [e9, if_neg h0]
    rw [e9, et]
    refine (deliver_bad _ x y m q _ w h0 hck).mono ?_
    rintro e w1 ⟨rfl, hA⟩
    exact ⟨rfl, hh.later hA, Touch.of_adds hA _⟩
end

end Go.Proofs.Ytmkpidipoadnbaa

namespace Go.Proofs.Ytmkpidipoadnbaa
open Go Go.RowKit Go.Sort

def priceE (h : Hs) (m : Int) : Int := if belowB m h.months = true then 0 else 4
def priceT (h : Hs) (m : Int) : Int := if belowB m h.months = true then h.prices.getD m.toNat 0 else 0

section
variable {w : World} {base b ga ca cm ck : Nat} {pm pk : Option Addr} {h : Hs}
end

end Go.Proofs.Ytmkpidipoadnbaa

namespace Go.Proofs.Ytmkpidipoadnbaa
open Go Go.RowKit Go.Sort

def sumA (l : List Ac) : Int := l.foldl (fun s a => s + (a.cash + a.fund)) 0
def totalT (h : Hs) : Int := wrap64 (h.capital - h.hole + sumA h.ac)
theorem sumA_next {l : List Ac} {k : Nat} {a : Ac} (h : l[k]? = some a) : sumA (l.take (k + 1)) = sumA (l.take k) + (a.cash + a.fund) := by
  obtain ⟨h1, e1⟩ := List.getElem?_eq_some_iff.1 h
  unfold sumA
  rw [List.take_succ_eq_append_getElem h1, e1, List.foldl_append]
  rfl

section
variable {w : World} {base b ga ca cm ck : Nat} {pm pk : Option Addr} {h : Hs}
set_option maxRecDepth 100000 in
theorem total_nil (w : World) : Calls Try.prog 15 #[.pointer none] w fun r w' => r = .returned (.int .i64 0) ∧ Adds w w' := by
  go_enter Try.func15, Try.ntmps15
  go_wp2
  go_ret
  exact ⟨rfl, Adds.refl w⟩
set_option maxRecDepth 100000 in
set_option maxHeartbeats 2000000 in
theorem Total_any (hh : HouseAt w base b ga ca pm cm pk ck h) (hp : h.prices.length = 12) (hn : h.ac.length ≤ 64) :
    Calls Try.prog 15 #[.pointer (some ⟨b, 0, none⟩)] w fun r w' => r = .returned (.int .i64 (totalT h)) ∧ Adds w w' := by
  have c0 := hh.ctail hp 2 _ rfl
  have c1 := hh.ctail hp 3 _ rfl
  have c2 := hh.c0
  have HH := Lib.hid hh
  have HACC := Lib.hid (fun W (hW : Adds w W) i a (hi : h.ac[i]? = some a) => (hh.later hW).acc hi)
  unfold totalT
  obtain ⟨x, hx⟩ : ∃ x, x = h.capital := ⟨_, rfl⟩
  obtain ⟨y, hy⟩ : ∃ x, x = h.hole := ⟨_, rfl⟩
  obtain ⟨n, hnn⟩ : ∃ x, x = h.ac.length := ⟨_, rfl⟩
  rw [← hx] at c0 ⊢
  rw [← hy] at c1 ⊢
  rw [← hnn] at c2 hn
  have HN := Lib.hid hnn
  clear hh hp hx hy hnn
  go_enter Try.func15, Try.ntmps15
  go_upto_region 3 with fail
  go_quiet (fail)
  have hA := (Adds.refl w).drewN nq
  have HA := Lib.hid hA
  clear hA
  go_upto_region 5 with fail
  go_loopw [3, 22] (fun v3 v22 wr => ∃ k : Nat, k ≤ n ∧ v22 = .int .i64 k ∧ v3 = .int .i64 (wrap64 (x - y + sumA (h.ac.take k))) ∧ Hid (Adds w wr)) (fun _ v22 _ => n - (intOf v22).toNat)
  case atStart => exact ⟨0, by omega, rfl, by simp [sumA], HA⟩
  case round =>
    obtain ⟨k, hk, rfl, rfl, RA⟩ := hrel
    by_cases hlt : k < n
    · have hlt2 : (k : Int) < (n : Int) := by omega
      have hk0 : (0 : Int) ≤ (k : Int) := by omega
      obtain ⟨a, ha⟩ : ∃ a, h.ac[k]? = some a := ⟨_, List.getElem?_eq_getElem (by have := HN.out; omega)⟩
      have HR := Lib.hid (HACC.out wr RA.out k a ha)
      have HSN := Lib.hid (sumA_next ha)
      obtain ⟨av, hav⟩ : ∃ v, v = encA a := ⟨_, rfl⟩
      have HSZ : Hid (av.length = 15) := Lib.hid (by rw [hav]; exact encA_len a)
      have HON : Hid ((av.toArray).all (·.oneCell') = true) := Lib.hid (by rw [hav]; exact encA_one a)
      have E0 : Hid (av.toArray[0]? = some (.int .i64 a.cash)) := Lib.hid (by rw [hav]; exact encA_cash a)
      have E1 : Hid (av.toArray[1]? = some (.int .i64 a.fund)) := Lib.hid (by rw [hav]; simp [encA])
      rw [← hav] at HR
      clear ha hav
      go_upto_region 7 with (first
        | (refine wpList_load_mid rfl 72 _ rfl ga (k * 15) rfl av _ HR.out Try.underlying72 rfl (by rw [info_acc, HSZ.out]) ?_)
        | (refine wpList_store_mid rfl 72 _ _ rfl wr.heap.size 0 av.toArray rfl rfl ((Box.new wr _ 72).there 0 _ (by simp [HSZ.out])) (by rw [info_acc]; simp [HSZ.out]) HON.out ?_))
      have k0 := (Box.new wr #[.int .i64 0, .int .i64 0, .int .i64 0, .int .i64 0, .int .i64 0, .int .i64 0, .int .i64 0, .int .i64 0, .int .i64 0, .int .i64 0, .int .i64 0, .int .i64 0, .int .i64 0, .int .i64 0, .bool false] 72).setCells av 0
      rw [putAt_whole _ _ (by simp [HSZ.out])] at k0
      have hB := Adds.setCells (Nat.le_refl _) av 0 ((Adds.refl wr).alloc (.cells #[.int .i64 0, .int .i64 0, .int .i64 0, .int .i64 0, .int .i64 0, .int .i64 0, .int .i64 0, .int .i64 0, .int .i64 0, .int .i64 0, .int .i64 0, .int .i64 0, .int .i64 0, .int .i64 0, .bool false] 72))
      obtain ⟨W, hW⟩ : ∃ V, V = (wr.alloc (.cells #[.int .i64 0, .int .i64 0, .int .i64 0, .int .i64 0, .int .i64 0, .int .i64 0, .int .i64 0, .int .i64 0, .int .i64 0, .int .i64 0, .int .i64 0, .int .i64 0, .int .i64 0, .int .i64 0, .bool false] 72)).setCells wr.heap.size 0 av := ⟨_, rfl⟩
      rw [← hW] at k0 hB ⊢
      obtain ⟨s, hs⟩ : ∃ s, s = wr.heap.size := ⟨_, rfl⟩
      rw [← hs] at k0 ⊢
      have d0 : W.cell? ⟨s, 0, none⟩ = some (.int .i64 a.cash) := by rw [k0.cell]; exact E0.out
      have d1 : W.cell? ⟨s, 1, none⟩ = some (.int .i64 a.fund) := by rw [k0.cell]; exact E1.out
      have HB := Lib.hid (RA.out.trans hB)
      clear hW k0 hB hs
      generalize a.cash = p at *
      generalize a.fund = q at *
      go_wp2
      exact ⟨⟨k + 1, by omega, by go_num, by rw [HSN.out]; generalize sumA (h.ac.take k) = z; exact congrArg (Value.int .i64) (by unfold wrap64; omega), HB⟩, by simp [intOf]; omega⟩
    · have hkk : k = n := by omega
      have hdq : decide ((k : Int) < (n : Int)) = false := decide_eq_false (by omega)
      have e1 : h.ac.take k = h.ac := List.take_of_length_le (by have := HN.out; omega)
      go_wp2
      go_ret
      refine ⟨?_, RA.out⟩
      rw [e1]
      rfl
end

end Go.Proofs.Ytmkpidipoadnbaa

namespace Go.Proofs.Ytmkpidipoadnbaa
open Go Go.RowKit Go.Sort

theorem own_touch {w w' : World} {base t size n : Nat} {v : Value} {xs : List Value} {g : Nat} {cur : Array Value} {u : TypeId} (h : w.ownsRow base t size v n xs) (hg : w.heap[g]? = some (.cells cur u (0, 0))) (hne : t ≠ u) (ht : Touch (fun k => k = g) w w') : w'.ownsRow base t size v n xs :=
  own_same h fun k hk => by
    obtain ⟨_, cur2, h2⟩ := own_block h hk
    refine ht.same k (Array.getElem?_eq_some_iff.1 h2).1 fun e => ?_
    subst e
    rw [hg] at h2
    simp only [Option.some.injEq, Obj.cells.injEq] at h2
    exact hne h2.2.1.symm
theorem box_touch {w w' : World} {b : Nat} {vs : Array Value} {t : TypeId} {O : Nat → Prop} (h : Box w b vs t) (ht : Touch O w w') (hn : ¬ O b) : Box w' b vs t := h.same (ht.same b h.lt hn)
theorem box_grow {W w' : World} {b t : Nat} {vs : Array Value} {row : Option Nat} (h : Box W b vs t) (hg : W.grownBy w' row) (hne : row ≠ some b) : Box w' b vs t := h.same (hg.block b h.lt (fun e => hne e.symm))
theorem info_kt : (Try.prog.info? 42).map (fun i => (i.zero, i.size, i.bytes)) = some (some (.agg #[.int .i64 0, .int .i64 0, .int .i64 0, .int .i64 0, .int .i64 0]), 5, 40) := by kernel_rfl
abbrev TradeTo (v : Value) (bu se mo q pr : Int) (w : World) (Q : Ending → World → Prop) : Prop := Calls Try.prog 11 #[v, ktV bu se mo q pr] w Q
theorem mul_bd {q d A B : Int} (h0 : 0 ≤ q) (h1 : q ≤ A) (h2 : -B ≤ d) (h3 : d ≤ B) : -(A * B) ≤ q * d ∧ q * d ≤ A * B := by
  have hB : 0 ≤ B := by omega
  have a1 : q * d ≤ q * B := Int.mul_le_mul_of_nonneg_left h3 h0
  have a2 : q * B ≤ A * B := Int.mul_le_mul_of_nonneg_right h1 hB
  have a3 : q * -B ≤ q * d := Int.mul_le_mul_of_nonneg_left h2 h0
  rw [Int.mul_neg] at a3
  omega
theorem len38 {l : List Value} (h : l.length = 38) : ∃ x0 x1 x2 x3 x4 x5 x6 x7 x8 x9 x10 x11 x12 x13 x14 x15 x16 x17 x18 x19 x20 x21 x22 x23 x24 x25 x26 x27 x28 x29 x30 x31 x32 x33 x34 x35 x36 x37, l = x0 :: x1 :: x2 :: x3 :: x4 :: x5 :: x6 :: x7 :: x8 :: x9 :: x10 :: x11 :: x12 :: x13 :: x14 :: x15 :: x16 :: x17 :: x18 :: x19 :: x20 :: x21 :: x22 :: x23 :: x24 :: x25 :: x26 :: x27 :: x28 :: x29 :: x30 :: x31 :: x32 :: x33 :: x34 :: x35 :: x36 :: x37 :: [] := by
  match l, h with
  | x0 :: x1 :: x2 :: x3 :: x4 :: x5 :: x6 :: x7 :: x8 :: x9 :: x10 :: x11 :: x12 :: x13 :: x14 :: x15 :: x16 :: x17 :: x18 :: x19 :: x20 :: x21 :: x22 :: x23 :: x24 :: x25 :: x26 :: x27 :: x28 :: x29 :: x30 :: x31 :: x32 :: x33 :: x34 :: x35 :: x36 :: x37 :: [], _ => exact ⟨_, _, _, _, _, _, _, _, _, _, _, _, _, _, _, _, _, _, _, _, _, _, _, _, _, _, _, _, _, _, _, _, _, _, _, _, _, _, rfl⟩
theorem houseCells_ks {h : Hs} (hp : h.prices.length = 12) (ga ca : Nat) (pm : Option Addr) (cm : Nat) (pk : Option Addr) (ck : Nat) (pk2 : Option Addr) (ck2 : Nat) (l : List Kt) : (houseCells h ga ca pm cm pk ck).setIfInBounds 18 (.slice pk2 l.length ck2) = houseCells { h with ks := l } ga ca pm cm pk2 ck2 := by
  unfold houseCells
  rw [List.setIfInBounds_toArray, show 18 = (12 + 4) + 1 + 1 by rfl, List.set_cons_succ, List.set_cons_succ, List.set_append_right _ _ (by simp [hp]), List.length_map, hp]
  rfl

set_option maxRecDepth 100000 in
set_option maxHeartbeats 2000000 in
theorem trade_bad (v : Value) (x y m q p e : Int) (w : World) (he : e ≠ 0) (hf : ∀ W, Adds w W → CheckTo v x y m q p W e) : TradeTo v x y m q p w fun r w' => r = .returned (.tuple #[.int .i64 0, .int .i64 e]) ∧ Adds w w' := by
  have hne : (e == 0) = false := by rw [beq_eq_false_iff_ne]; exact he
  have hne2 : (e != 0) = true := by rw [bne_iff_ne]; exact he
  unfold TradeTo ktV
  unfold CheckTo ktV at hf
  have HF := Lib.hid hf
  clear hf
  go_enter Try.func11, Try.ntmps11
  go_upto_region 1 with fail
  have k0 := Box.new w #[.int .i64 x, .int .i64 y, .int .i64 m, .int .i64 q, .int .i64 p] 42
  have hA : Adds w (w.alloc (.cells #[.int .i64 x, .int .i64 y, .int .i64 m, .int .i64 q, .int .i64 p] 42)) := (Adds.refl w).alloc _
  obtain ⟨W, hW⟩ : ∃ V, V = w.alloc (.cells #[.int .i64 x, .int .i64 y, .int .i64 m, .int .i64 q, .int .i64 p] 42) := ⟨_, rfl⟩
  rw [← hW] at k0 hA ⊢
  obtain ⟨s, hs⟩ : ∃ s, s = w.heap.size := ⟨_, rfl⟩
  rw [← hs] at k0 ⊢
  have HA := Lib.hid hA
  have d0 : W.cell? ⟨s, 0, none⟩ = some (.int .i64 x) := k0.cell 0
  have d1 : W.cell? ⟨s, 1, none⟩ = some (.int .i64 y) := k0.cell 1
  have d2 : W.cell? ⟨s, 2, none⟩ = some (.int .i64 m) := k0.cell 2
  have d3 : W.cell? ⟨s, 3, none⟩ = some (.int .i64 q) := k0.cell 3
  have d4 : W.cell? ⟨s, 4, none⟩ = some (.int .i64 p) := k0.cell 4
  clear hW hs k0 hA
  go_wp2_with (go_at_call 23; refine (HF.out _ HA.out).mono ?_; rintro r w1 ⟨rfl, ha⟩; have HA1 := Lib.hid ha; clear ha)
  go_ret2
  exact ⟨rfl, HA.out.trans HA1.out⟩

section
variable {w : World} {base b ga ca cm ck : Nat} {pm pk : Option Addr} {h : Hs}
end

end Go.Proofs.Ytmkpidipoadnbaa

namespace Go.Proofs.Ytmkpidipoadnbaa
open Go Go.RowKit Go.Sort

theorem box_new {w : World} {b : Nat} {vs : Array Value} {t : TypeId} (h : b = w.heap.size) : Box (w.alloc (.cells vs t)) b vs t := by subst h; exact Box.new _ _ _
theorem Touch.mono {O O' : Nat → Prop} {w w' : World} (h : Touch O w w') (hO : ∀ k, O k → O' k) : Touch O' w w' := ⟨h.os, h.tape, h.output, h.size, fun k hk hn => h.same k hk fun e => hn (hO k e)⟩
theorem Touch.grown {O : Nat → Prop} {a w w' : World} {row : Option Nat} (h : Touch O a w) (hg : w.grownBy w' row) (hr : ∀ k, row = some k → O k) : Touch O a w' :=
  ⟨hg.os.trans h.os, hg.tape.trans h.tape, hg.output.trans h.output, Nat.le_trans h.size hg.size, fun k hk hn => (hg.block k (Nat.lt_of_lt_of_le hk h.size) (fun e => hn (hr k e.symm))).trans (h.same k hk hn)⟩
theorem own_apart {W w7 : World} {base t size n : Nat} {v : Value} {xs : List Value} {row : Option Nat} {u : TypeId} (h : W.ownsRow base t size v n xs) (hg : W.grownBy w7 row) (hr : ∀ k, row = some k → ∃ cur, W.heap[k]? = some (.cells cur u (0, 0))) (hne : t ≠ u) : w7.ownsRow base t size v n xs :=
  own_same h fun k hk => by
    obtain ⟨_, cur2, h2⟩ := own_block h hk
    refine hg.block k (Array.getElem?_eq_some_iff.1 h2).1 fun e => ?_
    obtain ⟨cur, h3⟩ := hr k e.symm
    rw [h2] at h3
    simp only [Option.some.injEq, Obj.cells.injEq] at h3
    exact hne h3.2.1
theorem houseCells_18 {h : Hs} (hp : h.prices.length = 12) (ga ca : Nat) (pm : Option Addr) (cm : Nat) (pk : Option Addr) (ck : Nat) : (houseCells h ga ca pm cm pk ck)[18]? = some (.slice pk h.ks.length ck) := by
  unfold houseCells
  rw [List.getElem?_toArray, show 18 = (12 + 4) + 1 + 1 by rfl, List.getElem?_cons_succ, List.getElem?_cons_succ, List.getElem?_append_right (by simp [hp]), List.length_map, hp]
  rfl

section
variable {w5 W w7 : World} {base b ga ca cm ck g7 c7 : Nat} {pm pk : Option Addr} {h : Hs} {l : List Kt}
/-- A house whose contracts are now a row that has grown. -/
theorem HouseAt.traded (K : HouseAt w5 base b ga ca pm cm pk ck h) (hp : h.prices.length = 12) (hA : Adds w5 W) (hk : w5.ownsRow base 42 5 (.slice pk h.ks.length ck) h.ks.length (h.ks.flatMap encK)) (hne : (Value.slice pk h.ks.length ck).ownBlock ≠ some b)
    (hg : W.grownBy w7 (Value.slice pk h.ks.length ck).ownBlock) (ho : w7.ownsRow base 42 5 (.slice (some ⟨g7, 0, none⟩) l.length c7) l.length (l.flatMap encK)) :
    HouseAt (w7.setCell ⟨b, 18, none⟩ (.slice (some ⟨g7, 0, none⟩) l.length c7)) base b ga ca pm cm (some ⟨g7, 0, none⟩) c7 { h with ks := l } ∧ (w7.setCell ⟨b, 18, none⟩ (.slice (some ⟨g7, 0, none⟩) l.length c7)).ownsRow base 42 5 (.slice (some ⟨g7, 0, none⟩) l.length c7) l.length (l.flatMap encK) := by
  have hb7 : Box w7 b (houseCells h ga ca pm cm pk ck) 66 := box_grow (K.bx.later hA) hg hne
  have hr : ∀ k, (Value.slice pk h.ks.length ck).ownBlock = some k → ∃ cur, W.heap[k]? = some (.cells cur 42 (0, 0)) := fun k e => (own_block (own_later hk hA) e).2
  have hsame : ∀ k, k ≠ b → (w7.setCell ⟨b, 18, none⟩ (.slice (some ⟨g7, 0, none⟩) l.length c7)).heap[k]? = w7.heap[k]? := fun k hk => Below.heap_setCell w7 ⟨b, 18, none⟩ _ k hk
  have hko := own_heap ho hb7 (by decide) hsame
  refine ⟨⟨?_, own_heap (own_apart (own_later K.ac hA) hg hr (by decide)) hb7 (by decide) hsame, own_heap (own_apart (own_later K.mv hA) hg hr (by decide)) hb7 (by decide) hsame, .inl hko, K.lo⟩, hko⟩
  have := hb7.set 18 (.slice (some ⟨g7, 0, none⟩) l.length c7)
  rw [houseCells_ks hp] at this
  exact this
end

end Go.Proofs.Ytmkpidipoadnbaa
