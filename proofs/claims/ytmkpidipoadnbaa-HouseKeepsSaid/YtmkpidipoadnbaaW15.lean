/- find, findTrader, findPayer. -/
import Derived.Test.YtmkpidipoadnbaaW14
namespace Go.Proofs.Ytmkpidipoadnbaa
open Go Go.RowKit Go.Sort

def moveT (p m : List Int) : List Int := List.zipWith (fun x y => max (x + y) 1) p m
def moveK (p m : List Int) (k : Nat) : List Int := moveT (p.take k) (m.take k) ++ p.drop k
theorem moveT_len {p m : List Int} (hp : p.length = 12) (hm : m.length = 12) : (moveT p m).length = 12 := by simp [moveT, hp, hm]
theorem move_step {p m : List Int} {k : Nat} {x y : Int} (hp : p[k]? = some x) (hm : m[k]? = some y) : (moveK p m k).set k (max (x + y) 1) = moveK p m (k + 1) ∧ (moveK p m k)[k]? = some x := by
  obtain ⟨h1, e1⟩ := List.getElem?_eq_some_iff.1 hp
  obtain ⟨h2, e2⟩ := List.getElem?_eq_some_iff.1 hm
  have hl : (moveT (p.take k) (m.take k)).length = k := by simp [moveT]; omega
  have hd : p.drop k = x :: p.drop (k + 1) := by rw [List.drop_eq_getElem_cons h1, e1]
  unfold moveK
  refine ⟨?_, ?_⟩
  · rw [hd, List.set_append_right _ _ (by omega), hl, Nat.sub_self, List.set_cons_zero, List.take_succ_eq_append_getElem h1, List.take_succ_eq_append_getElem h2, e1, e2]
    unfold moveT
    rw [List.zipWith_append (by simp; omega)]
    simp
  · rw [List.getElem?_append_right (by omega), hl, Nat.sub_self, hd]
    rfl
theorem move_in {p m : List Int} (hp : ∀ x ∈ p, 0 ≤ x ∧ x ≤ 1000000) (hm : ∀ y ∈ m, y ≤ 1000000) : ∀ z ∈ moveT p m, 0 ≤ z ∧ z ≤ 2000000 := fun z hz => by
  obtain ⟨i, hi, rfl⟩ := List.getElem_of_mem hz
  have hi' : i < min p.length m.length := by rw [← List.length_zipWith (f := fun x y : Int => max (x + y) 1)]; exact hi
  have h1 := hp _ (List.getElem_mem (show i < p.length by omega))
  have h2 := hm _ (List.getElem_mem (show i < m.length by omega))
  simp only [moveT, List.getElem_zipWith]
  omega

end Go.Proofs.Ytmkpidipoadnbaa

namespace Go.Proofs.Ytmkpidipoadnbaa
open Go Go.RowKit Go.Sort

def inB (x a b : Int) : Bool := decide (a ≤ x) && decide (x ≤ b)

set_option maxRecDepth 100000 in
theorem within_any (x a b : Int) (w : World) : Calls Try.prog 35 #[.int .i64 x, .int .i64 a, .int .i64 b] w fun e w' => e = .returned (.bool (inB x a b)) ∧ Adds w w' := by
  by_cases h1 : a ≤ x
  · have d1 : decide (x ≥ a) = true := by simp; omega
    have h3 : inB x a b = decide (x ≤ b) := by unfold inB; simp [h1]
    rw [h3]
    go_enter Try.func35, Try.ntmps35
    go_wp2
    go_ret
    exact ⟨rfl, Adds.refl w⟩
  · have d1 : decide (x ≥ a) = false := by simp; omega
    have h3 : inB x a b = false := by unfold inB; simp [h1]
    rw [h3]
    go_enter Try.func35, Try.ntmps35
    go_wp2
    go_ret
    exact ⟨rfl, Adds.refl w⟩

set_option maxRecDepth 100000 in
theorem price_any (x : Int) (w : World) : Calls Try.prog 27 #[.int .i64 x] w fun e w' => e = .returned (.bool (inB x 1 1000000)) ∧ Adds w w' := by
  have HW := Lib.hid (fun w => within_any x 1 1000000 w)
  go_enter Try.func27, Try.ntmps27
  go_wp2_with (go_at_call 35; refine (HW.out _).mono ?_; rintro e w1 ⟨rfl, ha⟩; have HA := Lib.hid ha; clear ha)
  go_ret
  exact ⟨rfl, HA.out⟩

set_option maxRecDepth 100000 in
theorem member_any (b n ca : Nat) (q : Option Addr) (x : Int) (w : World) (h0 : w.cell? ⟨b, 0, none⟩ = some (.slice q n ca)) :
    Calls Try.prog 38 #[.pointer (some ⟨b, 0, none⟩), .int .i64 x] w fun e w' => e = .returned (.bool (inB x 1 n)) ∧ Adds w w' := by
  by_cases h1 : 1 ≤ x
  · have d1 : decide (x ≥ 1) = true := by simp; omega
    have h3 : inB x 1 n = decide (x ≤ n) := by unfold inB; simp [h1]
    rw [h3]
    go_enter Try.func38, Try.ntmps38
    go_wp2
    go_ret
    exact ⟨rfl, Adds.refl w⟩
  · have d1 : decide (x ≥ 1) = false := by simp; omega
    have h3 : inB x 1 n = false := by unfold inB; simp [h1]
    rw [h3]
    go_enter Try.func38, Try.ntmps38
    go_wp2
    go_ret
    exact ⟨rfl, Adds.refl w⟩

def belowB (x : Int) (n : Nat) : Bool := decide (0 ≤ x) && decide (x < (n : Int))
set_option maxRecDepth 100000 in
theorem month_any (b n : Nat) (x : Int) (w : World) (h0 : w.cell? ⟨b, 1, none⟩ = some (.int .i64 n)) :
    Calls Try.prog 26 #[.pointer (some ⟨b, 0, none⟩), .int .i64 x] w fun e w' => e = .returned (.bool (belowB x n)) ∧ Adds w w' := by
  by_cases h1 : 0 ≤ x
  · have d1 : decide (x ≥ 0) = true := by simp; omega
    have h3 : belowB x n = decide (x < (n : Int)) := by unfold belowB; simp [h1]
    rw [h3]
    go_enter Try.func26, Try.ntmps26
    go_wp2
    go_ret
    exact ⟨rfl, Adds.refl w⟩
  · have d1 : decide (x ≥ 0) = false := by simp; omega
    have h3 : belowB x n = false := by unfold belowB; simp [h1]
    rw [h3]
    go_enter Try.func26, Try.ntmps26
    go_wp2
    go_ret
    exact ⟨rfl, Adds.refl w⟩

def allIn (l : List Int) (a b : Int) : Bool := l.all fun x => inB x a b
theorem allIn_next {l : List Int} {a b : Int} {k : Nat} {x : Int} (h : l[k]? = some x) : allIn (l.take (k + 1)) a b = (allIn (l.take k) a b && inB x a b) := by
  obtain ⟨h1, e1⟩ := List.getElem?_eq_some_iff.1 h
  unfold allIn
  rw [List.take_succ_eq_append_getElem h1, e1, List.all_append]
  simp
theorem allIn_bad {l : List Int} {a b : Int} {k : Nat} {x : Int} (h : l[k]? = some x) (hb : inB x a b = false) : allIn l a b = false := by
  unfold allIn
  rw [List.all_eq_false]
  exact ⟨x, List.mem_of_getElem? h, by simp [hb]⟩

set_option maxRecDepth 100000 in
theorem areWithin_any (q : Option Addr) (c : Nat) (l : List Int) (a b : Int) (w : World) (hL : CellsAt w q (l.map (Value.int .i64))) (hl : l.length ≤ 1000000) :
    Calls Try.prog 36 #[.slice q l.length c, .int .i64 a, .int .i64 b] w fun e w' => e = .returned (.bool (allIn l a b)) ∧ Adds w w' := by
  have HW := Lib.hid (fun x w => within_any x a b w)
  have HL := Lib.hid hL
  obtain ⟨n, hn⟩ : ∃ n, n = l.length := ⟨_, rfl⟩
  rw [← hn]
  have hn1 : n ≤ 1000000 := by omega
  have HN := Lib.hid hn
  clear hL hn hl
  go_enter Try.func36, Try.ntmps36
  go_upto_region 2 with fail
  go_loopw [11] (fun v11 wr => ∃ k : Nat, k ≤ n ∧ v11 = .int .i64 k ∧ Hid (allIn (l.take k) a b = true) ∧ Hid (Adds w wr)) (fun v11 _ => n - (intOf v11).toNat)
  case atStart => exact ⟨0, by omega, rfl, Lib.hid rfl, Lib.hid (Adds.refl w)⟩
  case round =>
    obtain ⟨k, hk, rfl, RT, RA⟩ := hrel
    by_cases hlt : k < n
    · have hlt2 : (k : Int) < (n : Int) := by omega
      have hk0 : (0 : Int) ≤ (k : Int) := by omega
      obtain ⟨x, hx⟩ : ∃ x, l[k]? = some x := ⟨_, List.getElem?_eq_getElem (by have := HN.out; omega)⟩
      have hxv : (l.map (Value.int .i64))[k]? = some (.int .i64 x) := by rw [List.getElem?_map, hx]; rfl
      obtain ⟨g, o, rfl, hc⟩ := (HL.out.later RA.out) k _ hxv
      have HX := Lib.hid hx
      clear hx hxv
      cases hq : inB x a b
      · have HQ := Lib.hid hq
        have HB := Lib.hid (fun w => by have := HW.out x w; rw [hq] at this; exact this)
        clear hq
        go_wp2_with (go_at_call 35; refine (HB.out _).mono ?_; rintro e w1 ⟨rfl, ha⟩; have HA := Lib.hid ha; clear ha)
        go_ret
        exact ⟨ret_bool (allIn_bad HX.out HQ.out).symm, RA.out.trans HA.out⟩
      · have HQ := Lib.hid hq
        have HB := Lib.hid (fun w => by have := HW.out x w; rw [hq] at this; exact this)
        clear hq
        go_wp2_with (go_at_call 35; refine (HB.out _).mono ?_; rintro e w1 ⟨rfl, ha⟩; have HA := Lib.hid ha; clear ha)
        exact ⟨⟨k + 1, by omega, by go_num, Lib.hid (by rw [allIn_next HX.out, RT.out, HQ.out]; rfl), Lib.hid (RA.out.trans HA.out)⟩, by simp [intOf]; omega⟩
    · have hkk : k = n := by omega
      subst hkk
      have hT : allIn l a b = true := by rw [← RT.out, HN.out, List.take_length]
      have hdq : decide ((k : Int) < (k : Int)) = false := decide_eq_false (by omega)
      go_wp2
      go_ret
      exact ⟨ret_bool hT.symm, RA.out⟩

end Go.Proofs.Ytmkpidipoadnbaa

namespace Go.Proofs.Ytmkpidipoadnbaa
open Go Go.RowKit Go.Sort

abbrev pairV (p : Option Addr) (e : Int) : Value := .tuple #[.pointer p, .int .i64 e]
abbrev accP (ga i : Nat) : Option Addr := some ⟨ga, i * 15, none⟩

set_option maxRecDepth 100000 in
theorem find_nil (x : Int) (w : World) : Calls Try.prog 32 #[.pointer none, .int .i64 x] w fun e w' => e = .returned (pairV none 3) ∧ Adds w w' := by
  go_enter Try.func32, Try.ntmps32
  go_wp2
  go_ret2
  exact ⟨rfl, Adds.refl w⟩

set_option maxRecDepth 100000 in
theorem find_bad (b n ca : Nat) (q : Option Addr) (x : Int) (w : World) (h0 : w.cell? ⟨b, 0, none⟩ = some (.slice q n ca)) (hx : inB x 1 n = false) :
    Calls Try.prog 32 #[.pointer (some ⟨b, 0, none⟩), .int .i64 x] w fun e w' => e = .returned (pairV none 4) ∧ Adds w w' := by
  have HM := Lib.hid (member_any b n ca q x w h0)
  rw [hx] at HM
  clear hx
  go_enter Try.func32, Try.ntmps32
  go_wp2_with (go_at_call 38; refine HM.out.mono ?_; rintro e w1 ⟨rfl, ha⟩; have HA := Lib.hid ha; clear ha)
  go_ret2
  exact ⟨rfl, HA.out⟩

theorem inB_of {n i : Nat} (hi : i < n) : inB ((i : Int) + 1) 1 n = true := by unfold inB; simp; omega

set_option maxRecDepth 100000 in
theorem find_ok (b n ca ga i : Nat) (w : World) (h0 : w.cell? ⟨b, 0, none⟩ = some (.slice (some ⟨ga, 0, none⟩) n ca)) (hi : i < n) (hn : n ≤ 64) :
    Calls Try.prog 32 #[.pointer (some ⟨b, 0, none⟩), .int .i64 ((i : Int) + 1)] w fun e w' => e = .returned (pairV (accP ga i) 0) ∧ Adds w w' := by
  have HM := Lib.hid (member_any b n ca _ ((i : Int) + 1) w h0)
  rw [inB_of hi] at HM
  have H0 := Lib.hid (fun w' (ha : Adds w w') => keep_cell ha h0)
  have h1 : (i : Int) + 1 - 1 = i := by omega
  have h2 : (0 : Int) ≤ (i : Int) := by omega
  have h3 : (i : Int) < (n : Int) := by omega
  unfold accP
  go_enter Try.func32, Try.ntmps32
  go_wp2_with (go_at_call 38; refine HM.out.mono ?_; rintro e w1 ⟨rfl, ha⟩; have c0 := H0.out w1 ha; have HA := Lib.hid ha; clear ha)
  go_ret2
  exact ⟨rfl, HA.out⟩

/-- What find answers, as findTrader takes it. -/
abbrev FindTo (v : Value) (x : Int) (w : World) (p : Option Addr) (e : Int) : Prop := Calls Try.prog 32 #[v, .int .i64 x] w fun r w' => r = .returned (pairV p e) ∧ Adds w w'
abbrev TraderTo (v : Value) (x : Int) (w : World) (p : Option Addr) (e : Int) : Prop := Calls Try.prog 29 #[v, .int .i64 x] w fun r w' => r = .returned (pairV p e) ∧ Adds w w'
abbrev PayerTo (v : Value) (x y : Int) (w : World) (p : Option Addr) (e : Int) : Prop := Calls Try.prog 21 #[v, .int .i64 x, .int .i64 y] w fun r w' => r = .returned (pairV p e) ∧ Adds w w'

set_option maxRecDepth 100000 in
theorem trader_bad (v : Value) (x e : Int) (w : World) (he : e ≠ 0) (hf : FindTo v x w none e) : TraderTo v x w none e := by
  have HF := Lib.hid hf
  have hne : (e == 0) = false := by rw [beq_eq_false_iff_ne]; exact he
  clear hf
  go_enter Try.func29, Try.ntmps29
  go_wp2_with (go_at_call 32; refine HF.out.mono ?_; rintro e w1 ⟨rfl, ha⟩; have HA := Lib.hid ha; clear ha)
  go_ret2
  exact ⟨rfl, HA.out⟩

set_option maxRecDepth 100000 in
theorem trader_out (v : Value) (x : Int) (ga i : Nat) (w : World) (hf : FindTo v x w (accP ga i) 0) (ho : w.cell? ⟨ga, i * 15 + 14, none⟩ = some (.bool true)) : TraderTo v x w none 5 := by
  have HF := Lib.hid hf
  have H0 := Lib.hid (fun w' (ha : Adds w w') => keep_cell ha ho)
  clear hf
  unfold accP at HF
  go_enter Try.func29, Try.ntmps29
  go_wp2_with (go_at_call 32; refine HF.out.mono ?_; rintro e w1 ⟨rfl, ha⟩; have c0 := H0.out w1 ha; have HA := Lib.hid ha; clear ha)
  go_ret2
  exact ⟨rfl, HA.out⟩

set_option maxRecDepth 100000 in
theorem trader_ok (v : Value) (x : Int) (ga i : Nat) (w : World) (hf : FindTo v x w (accP ga i) 0) (ho : w.cell? ⟨ga, i * 15 + 14, none⟩ = some (.bool false)) : TraderTo v x w (accP ga i) 0 := by
  have HF := Lib.hid hf
  have H0 := Lib.hid (fun w' (ha : Adds w w') => keep_cell ha ho)
  clear hf
  unfold TraderTo accP at *
  go_enter Try.func29, Try.ntmps29
  go_wp2_with (go_at_call 32; refine HF.out.mono ?_; rintro e w1 ⟨rfl, ha⟩; have c0 := H0.out w1 ha; have HA := Lib.hid ha; clear ha)
  go_ret2
  exact ⟨rfl, HA.out⟩

set_option maxRecDepth 100000 in
theorem payer_bad (v : Value) (x y e : Int) (w : World) (he : e ≠ 0) (hf : TraderTo v x w none e) : PayerTo v x y w none e := by
  have HF := Lib.hid hf
  have hne : (e == 0) = false := by rw [beq_eq_false_iff_ne]; exact he
  clear hf
  go_enter Try.func21, Try.ntmps21
  go_wp2_with (go_at_call 29; refine HF.out.mono ?_; rintro e w1 ⟨rfl, ha⟩; have HA := Lib.hid ha; clear ha)
  go_ret2
  exact ⟨rfl, HA.out⟩

set_option maxRecDepth 100000 in
theorem payer_arg (v : Value) (x y : Int) (p : Option Addr) (w : World) (hy : inB y 1 1000000000000 = false) (hf : TraderTo v x w p 0) : PayerTo v x y w none 1 := by
  have HF := Lib.hid hf
  have HW := Lib.hid (fun w => within_any y 1 1000000000000 w)
  rw [hy] at HW
  clear hf hy
  go_enter Try.func21, Try.ntmps21
  go_wp2_with (first
    | (go_at_call 29; refine HF.out.mono ?_; rintro e w1 ⟨rfl, ha⟩; have HA := Lib.hid ha; clear ha)
    | (go_at_call 35; refine (HW.out _).mono ?_; rintro e w2 ⟨rfl, ha⟩; have HB := Lib.hid (HA.out.trans ha); clear ha))
  go_ret2
  exact ⟨rfl, HB.out⟩

set_option maxRecDepth 100000 in
theorem payer_ok (v : Value) (x y : Int) (p : Option Addr) (w : World) (hy : inB y 1 1000000000000 = true) (hf : TraderTo v x w p 0) : PayerTo v x y w p 0 := by
  have HF := Lib.hid hf
  have HW := Lib.hid (fun w => within_any y 1 1000000000000 w)
  rw [hy] at HW
  clear hf hy
  go_enter Try.func21, Try.ntmps21
  go_wp2_with (first
    | (go_at_call 29; refine HF.out.mono ?_; rintro e w1 ⟨rfl, ha⟩; have HA := Lib.hid ha; clear ha)
    | (go_at_call 35; refine (HW.out _).mono ?_; rintro e w2 ⟨rfl, ha⟩; have HB := Lib.hid (HA.out.trans ha); clear ha))
  go_ret2
  exact ⟨rfl, HB.out⟩

end Go.Proofs.Ytmkpidipoadnbaa
