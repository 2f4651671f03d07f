/- samePrice; share by rule ByTime. -/
import Derived.Test.YtigpghmbeldakaaU
namespace Go.Proofs.Ytigpghmbeldakaa
open Go.RowKit

/-- What is known of a function value that judges numbers of a list. -/
structure JudgeI (w0 : World) (g : Nat) (lb : Array Value) (pr : Int → Bool) (l : List Int) : Prop where
  enter : ∀ (args : Array Value) (w : World), (callFunc g args).run Try.prog w = .ok (.enter g args) w
  call : ∀ x ∈ l, ∀ W, Adds w0 W → Calls Try.prog g (#[.int .i64 x] ++ lb) W fun e w' => e = .returned (.bool (pr x)) ∧ Adds W w'

set_option maxHeartbeats 1000000 in
theorem index_i (p : Option Addr) (cap g : Nat) (lb : Array Value) (pr : Int → Bool) (l : List Int) (w : World) (hN : l.length ≤ maxLen) (hL : At1 .i64 w p l) (hJ : JudgeI w g lb pr l) :
    Calls Try.prog 99 #[.slice p l.length cap, .func (.func g) #[] lb] w fun e w' => e = .returned (.int .i64 (idxT pr l)) ∧ Adds w w' := by
  unfold maxLen at hN
  obtain ⟨N, hNl⟩ : ∃ N, N = l.length := ⟨_, rfl⟩
  rw [← hNl] at hN ⊢
  have HL := Lib.hid hL
  have HJ := Lib.hid hJ
  have HN := Lib.hid hNl
  have he := hJ.enter
  clear hL hNl hJ
  go_enter Try.func99, Try.ntmps99
  go_wp2
  go_loopw [8] (fun i wr => ∃ k : Nat, k ≤ N ∧ i = .int .i64 k ∧ Hid ((l.take k).any pr = false) ∧ Adds w wr) (fun i _ => N - (intOf i).toNat)
  case atStart => exact ⟨0, by omega, rfl, Lib.hid (by simp), Adds.refl w⟩
  case round =>
    obtain ⟨k, hk, rfl, hany, hb⟩ := hrel
    by_cases hlt : k < N
    · obtain ⟨x, hb3⟩ : ∃ t, l[k]? = some t := ⟨_, List.getElem?_eq_getElem (by have := HN.out; omega)⟩
      obtain ⟨gg, off, rfl, d0⟩ := HL.out k _ hb3
      have c0 := keep_cell hb d0
      have hc := HJ.out.call _ (List.mem_of_getElem? hb3)
      have HK := Lib.hid hb3
      clear d0 hb3
      cases ht : pr x with
      | true =>
        rw [ht] at hc
        have HC := Lib.hid hc
        have HT := Lib.hid ht
        clear ht hc
        go_wp2_with (go_at_fn g; refine (HC.out _ hb).mono ?_; rintro e w1 ⟨rfl, hb1⟩)
        go_ret
        exact ⟨ret_int (by rw [idx_hit hany.out HK.out HT.out]), hb.trans hb1⟩
      | false =>
        rw [ht] at hc
        have HC := Lib.hid hc
        have HT := Lib.hid ht
        clear ht hc
        go_wp2_with (go_at_fn g; refine (HC.out _ hb).mono ?_; rintro e w1 ⟨rfl, hb1⟩)
        exact ⟨⟨k + 1, by omega, by go_num, Lib.hid (any_next hany.out HK.out HT.out), hb.trans hb1⟩, by simp [intOf]; omega⟩
    · have hkN : k = N := by omega
      have HE : Hid (l.any pr = false) := Lib.hid (by have := hany.out; rwa [List.take_of_length_le (by have := HN.out; omega)] at this)
      clear hkN
      go_wp2
      go_ret
      exact ⟨ret_int (by rw [idx_miss HE.out]), hb⟩

set_option maxRecDepth 100000 in
set_option maxHeartbeats 1000000 in
theorem same1_any (l : List Bd) (p : Option Addr) (cap xb qb : Nat) (q : Option Addr) (qcap : Nat) (Q : List Int) (i h : Nat) (hi : i < l.length) (hh : h < l.length) (hQ : Q[0]? = some (h : Int)) (w : World) (hN : l.length ≤ 5000) (hL : At3 w p l) (hI : At1 .i64 w q Q)
    (hx : w.cell? ⟨xb, 0, none⟩ = some (.slice p l.length cap)) (hq : w.cell? ⟨qb, 0, none⟩ = some (.slice q Q.length qcap)) :
    Calls Try.prog 100 #[.int .i64 i, .pointer (some ⟨xb, 0, none⟩), .pointer (some ⟨qb, 0, none⟩)] w fun e w' => e = .returned (.bool (decide (priceOf l i ≠ priceOf l h))) ∧ Adds w w' := by
  obtain ⟨⟨s1, p1, q1⟩, h1⟩ : ∃ t, l[i]? = some t := ⟨_, List.getElem?_eq_getElem hi⟩
  obtain ⟨⟨s2, p2, q2⟩, h2⟩ : ∃ t, l[h]? = some t := ⟨_, List.getElem?_eq_getElem hh⟩
  obtain ⟨g, off, rfl, _, c1, _⟩ := hL i _ h1
  obtain ⟨_, _, e', _, d1, _⟩ := hL h _ h2
  cases e'
  obtain ⟨gq, offq, rfl, x0⟩ := hI 0 _ hQ
  have HK : Hid (priceOf l i = p1) := Lib.hid (by unfold priceOf; rw [get!_some h1])
  have HK2 : Hid (priceOf l h = p2) := Lib.hid (by unfold priceOf; rw [get!_some h2])
  obtain ⟨N, hN'⟩ : ∃ N, N = l.length := ⟨_, rfl⟩
  obtain ⟨M, hM'⟩ : ∃ M, M = Q.length := ⟨_, rfl⟩
  have hM0 : 0 < M := by have := (List.getElem?_eq_some_iff.1 hQ).1; omega
  rw [← hN'] at hi hh hN hx
  rw [← hM'] at hq
  simp only [Nat.add_zero] at c1 d1 x0
  clear h1 h2 hL hN' hI hQ hM'
  have hii : (i : Int) < (N : Int) := by omega
  have hjj : (h : Int) < (N : Int) := by omega
  have hm : (0 : Int) < (M : Int) := by omega
  go_enter Try.func100, Try.ntmps100
  go_wp2
  go_quiet (fail)
  go_wp2
  go_ret
  refine ⟨?_, (Adds.refl w).drewN _⟩
  rw [HK.out, HK2.out]
  refine ret_bool ?_
  by_cases he : p1 = p2 <;> simp [he]

/-- The first ones of a queue of one price. -/
def grpT (l : List Bd) (Q : List Int) : List Int :=
  match Q with
  | [] => []
  | h :: _ => Q.takeWhile fun i => decide (priceOf l i.toNat = priceOf l h.toNat)

theorem takeWhile_of_idx {pr : Int → Bool} : ∀ {Q : List Int}, (if idxT pr Q < 0 then Q else Q.take (idxT pr Q).toNat) = Q.takeWhile (fun i => !pr i)
  | [] => by simp [idxT]
  | x :: Q => by
    have ih := takeWhile_of_idx (pr := pr) (Q := Q)
    by_cases hx : pr x = true
    · simp [idxT, hx, List.findIdx_cons]
    · have hx' : pr x = false := by simpa using hx
      simp only [List.takeWhile_cons, hx', Bool.not_false, if_true]
      cases ha : Q.any pr with
      | false =>
        have e1 : idxT pr Q = -1 := idx_miss ha
        have e2 : idxT pr (x :: Q) = -1 := idx_miss (by simp [hx', ha])
        rw [e1] at ih
        rw [e2]
        simp at ih ⊢
        exact ih
      | true =>
        have e1 : idxT pr Q = (Q.findIdx pr : Int) := by simp [idxT, ha]
        have e2 : idxT pr (x :: Q) = ((Q.findIdx pr + 1 : Nat) : Int) := by simp [idxT, ha, hx', List.findIdx_cons]
        rw [e1, if_neg (by omega), Int.toNat_natCast] at ih
        rw [e2, if_neg (by omega), Int.toNat_natCast, List.take_succ_cons, ih]

set_option maxRecDepth 100000 in
set_option maxHeartbeats 2000000 in
theorem same_any (l : List Bd) (p : Option Addr) (cap : Nat) (q : Option Addr) (qcap : Nat) (Q : List Int) (w : World) (hN : l.length ≤ 5000) (hQN : Q.length ≤ 5000) (hL : At3 w p l) (hI : At1 .i64 w q Q) (hin : ∀ n ∈ Q, 0 ≤ n ∧ n < l.length) (hne : 0 < Q.length) (hcap : Q.length ≤ qcap) :
    Calls Try.prog 89 #[.slice p l.length cap, .slice q Q.length qcap] w fun e w' => e = .returned (.slice q (grpT l Q).length qcap) ∧ Adds w w' := by
  obtain ⟨h0, Q', rfl⟩ : ∃ h Q', Q = h :: Q' := by
    cases Q with
    | nil => simp at hne
    | cons h Q' => exact ⟨h, Q', rfl⟩
  obtain ⟨hh1, hh2⟩ := hin h0 (by simp)
  obtain ⟨hn, rfl⟩ : ∃ n : Nat, h0 = (n : Int) := ⟨h0.toNat, by omega⟩
  obtain ⟨pr, hpr⟩ : ∃ pr : Int → Bool, pr = fun i => decide (priceOf l i.toNat ≠ priceOf l hn) := ⟨_, rfl⟩
  have hgrp : (if idxT pr ((hn : Int) :: Q') < 0 then ((hn : Int) :: Q') else ((hn : Int) :: Q').take (idxT pr ((hn : Int) :: Q')).toNat) = grpT l ((hn : Int) :: Q') := by
    rw [takeWhile_of_idx]
    unfold grpT
    congr 1
    funext i
    rw [hpr, Int.toNat_natCast]
    by_cases he : priceOf l i.toNat = priceOf l hn <;> simp [he]
  obtain ⟨W2, hW2⟩ : ∃ V, V = (w.alloc (.cells #[.slice p l.length cap] 25)).alloc (.cells #[.slice q ((hn : Int) :: Q').length qcap] 107) := ⟨_, rfl⟩
  have A2 : Adds w W2 := by rw [hW2]; exact ((Adds.refl w).alloc _).alloc _
  have X0 : Box W2 w.heap.size #[.slice p l.length cap] 25 := by rw [hW2]; exact (Box.new w _ _).alloc _
  have X1 : Box W2 (w.heap.size + 1) #[.slice q ((hn : Int) :: Q').length qcap] 107 := by rw [hW2]; have := Box.new (w.alloc (.cells #[.slice p l.length cap] 25)) #[.slice q ((hn : Int) :: Q').length qcap] 107; simpa using this
  have hcon := index_i q qcap 100 #[.pointer (some ⟨w.heap.size, 0, none⟩), .pointer (some ⟨w.heap.size + 1, 0, none⟩)] pr ((hn : Int) :: Q') W2 (by unfold maxLen; omega) (hI.later A2)
    ⟨fun args w => enters_of Try.func100 (by kernel_rfl) rfl args w, fun x hx W hW => by
      obtain ⟨a1, a2⟩ := hin x hx
      obtain ⟨m, rfl⟩ : ∃ n : Nat, x = (n : Int) := ⟨x.toNat, by omega⟩
      have := same1_any l p cap w.heap.size (w.heap.size + 1) q qcap ((hn : Int) :: Q') m hn (by omega) (by omega) rfl W hN (hL.later (A2.trans hW)) (hI.later (A2.trans hW)) (keep_cell hW (X0.cell 0)) (keep_cell hW (X1.cell 0))
      rw [hpr]
      exact this⟩
  have HG := Lib.hid hgrp
  have x1 := X1.cell 0
  simp only [List.getElem?_toArray, List.getElem?_cons_zero] at x1
  have hz : W2.heap.size = w.heap.size + 1 + 1 := by rw [hW2]; simp
  have hzz : w.heap.size + 1 < W2.heap.size := by omega
  obtain ⟨N, hN'⟩ : ∃ N, N = l.length := ⟨_, rfl⟩
  obtain ⟨M, hM'⟩ : ∃ M, M = ((hn : Int) :: Q').length := ⟨_, rfl⟩
  have HM := Lib.hid hM'
  obtain ⟨r, hr⟩ : ∃ r, r = idxT pr ((hn : Int) :: Q') := ⟨_, rfl⟩
  have hrM : r < (M : Int) := by
    rw [hr]
    unfold idxT
    split
    · rename_i ha
      have := List.findIdx_lt_length_of_exists (p := pr) (xs := (hn : Int) :: Q') (by obtain ⟨x, hx, hp⟩ := List.any_eq_true.1 ha; exact ⟨x, hx, hp⟩)
      rw [hM']; omega
    · omega
  rw [← hr] at hcon HG
  rw [← hM'] at hcon x1 hW2 hcap hQN hne ⊢
  rw [← hN'] at hW2 ⊢
  have HA2 := Lib.hid A2
  have HGL : Hid ((grpT l ((hn : Int) :: Q')).length = if r < 0 then M else r.toNat) := Lib.hid (by
    rw [← HG.out]
    split
    · exact HM.out.symm
    · rw [List.length_take, ← HM.out]; omega)
  generalize (grpT l ((hn : Int) :: Q')).length = G at HGL ⊢
  clear hgrp HG A2 X0 X1 hz hN' hM' HM hr hL hI hin hpr
  go_enter Try.func89, Try.ntmps89
  go_upto_region 1 with fail
  rw [← hW2]
  clear hW2
  by_cases hneg : r < 0
  · have HGE : Hid (G = M) := Lib.hid (by rw [HGL.out, if_pos hneg])
    go_wp2_with (go_at_call 99; refine hcon.mono ?_; rintro e w1 ⟨rfl, hb1⟩; have x1' := keep_cell hb1 x1)
    go_ret
    exact ⟨by rw [HGE.out]; rfl, HA2.out.trans hb1⟩
  · obtain ⟨m, rfl⟩ : ∃ m : Nat, r = (m : Int) := ⟨r.toNat, by omega⟩
    have HGE : Hid (G = m) := Lib.hid (by rw [HGL.out, if_neg hneg]; omega)
    have hmc : m ≤ qcap := by omega
    go_wp2_with (go_at_call 99; refine hcon.mono ?_; rintro e w1 ⟨rfl, hb1⟩; have x1' := keep_cell hb1 x1)
    go_ret
    exact ⟨by rw [HGE.out]; rfl, HA2.out.trans hb1⟩

/-- What a rule of sharing is known to do. -/
def ShareAt (m : Nat) (rule : Int) (f : Int → List Int → List Int) : Prop :=
  ∀ (t : Int) (p : Option Addr) (cap : Nat) (ws : List Int) (w : World), ws.length ≤ m → At1 .i64 w p ws → qOk ws → 0 ≤ t → t ≤ 5000000000000 → Calls Try.prog 90 #[.int .i64 t, .slice p ws.length cap, .int .i64 rule] w (RowGot 2 (f t ws) w)

theorem turn_min (t : Int) (ws : List Int) (h : 0 ≤ t) (hq : qOk ws) : turnT (min t ws.sum) ws = turnT t ws := by
  induction ws generalizing t with
  | nil => rfl
  | cons x ws ih =>
    have hx := hq x (by simp)
    have hs := sum_take_bd ws (fun y hy => hq y (by simp [hy]))
    have e : min x (min t (x :: ws).sum) = min x t := by simp only [List.sum_cons]; omega
    simp only [turnT, e]
    rw [← ih (t - min x t) (by omega) (fun y hy => hq y (by simp [hy]))]
    congr 1
    have : min t (x :: ws).sum - min x t = min (t - min x t) ws.sum ∨ True := Or.inr trivial
    simp only [List.sum_cons]
    by_cases hc : t ≤ x + ws.sum
    · rw [show min t (x + ws.sum) = t by omega]
      rw [← ih (t - min x t) (by omega) (fun y hy => hq y (by simp [hy]))]
    · rw [show min t (x + ws.sum) = x + ws.sum by omega]
      congr 1
      omega

set_option maxRecDepth 100000 in
set_option maxHeartbeats 1000000 in
theorem shareTime (m : Nat) (hm : m ≤ 5000) : ShareAt m 1 turnT := by
  intro t p cap ws w hN0 hL hq h0 h1
  have hN : ws.length ≤ 5000 := by omega
  clear hN0 hm
  have hs := sum_take_bd ws hq
  have hsum := fun W hW => sum_any p cap ws W hN hW hq
  obtain ⟨S, hS⟩ : ∃ S, S = ws.sum := ⟨_, rfl⟩
  have HE : Hid (turnT (min t S) ws = turnT t ws) := Lib.hid (by rw [hS]; exact turn_min t ws h0 hq)
  have hbt := fun W hW => byTime_any (min t S) p cap ws W hN hW hq (by omega) (by omega)
  rw [← hS] at hsum
  rw [HE.out] at hbt
  have HL := Lib.hid hL
  have HB := Lib.hid hbt
  have HS := Lib.hid hsum
  obtain ⟨N, hNl⟩ : ∃ N, N = ws.length := ⟨_, rfl⟩
  rw [← hNl] at HB HS ⊢
  clear hL hbt hsum hS hs hNl hq
  go_enter Try.func90, Try.ntmps90
  go_wp2_with (first | (go_at_call 54; refine (HS.out _ HL.out).mono ?_; rintro e w1 ⟨rfl, rfl⟩) | (go_at_call 101; refine (HB.out _ HL.out).mono ?_; rintro e w2 ⟨g, cap', rfl, r1, r2, r3⟩; have R1 := Lib.hid r1; have R2 := Lib.hid r2; have R3 := Lib.hid r3; clear r1 r2 r3))
  go_ret
  exact ⟨g, cap', rfl, R1.out, R2.out, R3.out⟩

end Go.Proofs.Ytigpghmbeldakaa
