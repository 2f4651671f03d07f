/- slices.IndexFunc and slices.ContainsFunc at bids and at spots; Check; At. -/
import Derived.Test.YtigpghmbeldakaaB
import Derived.Shelf.Abstract
namespace Go.Proofs.Ytigpghmbeldakaa
open Go.RowKit

/-- What is known of a function value that judges triples of a list. -/
structure Judge (w0 : World) (g : Nat) (lb : Array Value) (pr : Int × Int × Int → Bool) (l : List (Int × Int × Int)) : Prop where
  enter : ∀ (args : Array Value) (w : World), (callFunc g args).run Try.prog w = .ok (.enter g args) w
  call : ∀ x ∈ l, ∀ W, Adds w0 W → Calls Try.prog g (#[.agg #[.int .i64 x.1, .int .i64 x.2.1, .int .i64 x.2.2]] ++ lb) W fun e w' => e = .returned (.bool (pr x)) ∧ Adds W w'

/-- The place of the first one, or -1. -/
def idxT {α : Type} (pr : α → Bool) (l : List α) : Int := if l.any pr then (l.findIdx pr : Int) else -1

theorem idx_hit {α : Type} {pr : α → Bool} : ∀ {l : List α} {k : Nat} {x : α}, (l.take k).any pr = false → l[k]? = some x → pr x = true → idxT pr l = (k : Int)
  | [], k, x, _, h, _ => by simp at h
  | y :: l, 0, x, _, h, hx => by simp at h; subst h; simp [idxT, hx, List.findIdx_cons]
  | y :: l, k + 1, x, h, h1, hx => by
    simp only [List.take_succ_cons, List.any_cons, Bool.or_eq_false_iff] at h
    have ih := idx_hit (l := l) h.2 (by simpa using h1) hx
    have hm : l.any pr = true := List.any_eq_true.2 ⟨x, List.mem_of_getElem? (by simpa using h1), hx⟩
    simp only [idxT, hm, if_true] at ih
    simp only [idxT, List.any_cons, h.1, hm, Bool.false_or, if_true, List.findIdx_cons, cond_false]
    omega
theorem idx_miss {α : Type} {pr : α → Bool} {l : List α} (h : l.any pr = false) : idxT pr l = -1 := by simp [idxT, h]
theorem idx_nonneg {α : Type} (pr : α → Bool) (l : List α) : decide (0 ≤ idxT pr l) = l.any pr := by
  unfold idxT
  cases h : l.any pr <;> simp

theorem any_next {α : Type} {pr : α → Bool} {l : List α} {k : Nat} {x : α} (h : (l.take k).any pr = false) (h1 : l[k]? = some x) (hx : pr x = false) : (l.take (k + 1)).any pr = false := by
  rw [take_next h1, List.any_append, h]; simp [hx]


set_option maxHeartbeats 1000000 in
theorem index_b (p : Option Addr) (cap g : Nat) (lb : Array Value) (pr : Int × Int × Int → Bool) (l : List (Int × Int × Int)) (w : World) (hN : l.length ≤ maxLen) (hL : At3 w p l) (hJ : Judge w g lb pr l) :
    Calls Try.prog 56 #[.slice p l.length cap, .func (.func g) #[] lb] w fun e w' => e = .returned (.int .i64 (idxT pr l)) ∧ Adds w w' := by
  unfold maxLen at hN
  obtain ⟨N, hNl⟩ : ∃ N, N = l.length := ⟨_, rfl⟩
  rw [← hNl] at hN ⊢
  have HL := Lib.hid hL
  have HJ := Lib.hid hJ
  have HN := Lib.hid hNl
  have he := hJ.enter
  clear hL hNl hJ
  go_enter Try.func56, Try.ntmps56
  go_wp2
  go_loopw [8] (fun i wr => ∃ k : Nat, k ≤ N ∧ i = .int .i64 k ∧ Hid ((l.take k).any pr = false) ∧ Adds w wr) (fun i _ => N - (intOf i).toNat)
  case atStart => exact ⟨0, by omega, rfl, Lib.hid (by simp), Adds.refl w⟩
  case round =>
    obtain ⟨k, hk, rfl, hany, hb⟩ := hrel
    by_cases hlt : k < N
    · obtain ⟨⟨s, pp, q⟩, hb3⟩ : ∃ t, l[k]? = some t := ⟨_, List.getElem?_eq_getElem (by have := HN.out; omega)⟩
      obtain ⟨gg, off, rfl, d0, d1, d2⟩ := HL.out k _ hb3
      have c0 := keep_cell hb d0
      have c1 := keep_cell hb d1
      have c2 := keep_cell hb d2
      have hc := HJ.out.call _ (List.mem_of_getElem? hb3)
      have HK := Lib.hid hb3
      simp only at c0 c1 c2
      clear d0 d1 d2 hb3
      cases ht : pr (s, pp, q) with
      | true =>
        rw [ht] at hc
        have HC := Lib.hid hc
        have HT := Lib.hid ht
        clear ht hc
        go_wp2_with (go_at_fn g; refine (HC.out _ (by first | exact hb | (exact hb.drew))).mono ?_; rintro e w1 ⟨rfl, hb1⟩)
        go_ret
        exact ⟨ret_int (by rw [idx_hit hany.out HK.out HT.out]), hb.trans hb1⟩
      | false =>
        rw [ht] at hc
        have HC := Lib.hid hc
        have HT := Lib.hid ht
        clear ht hc
        go_wp2_with (go_at_fn g; refine (HC.out _ (by first | exact hb | (exact hb.drew))).mono ?_; rintro e w1 ⟨rfl, hb1⟩)
        exact ⟨⟨k + 1, by omega, by go_num, Lib.hid (any_next hany.out HK.out HT.out), hb.trans hb1⟩, by simp [intOf]; omega⟩
    · have hkN : k = N := by omega
      have HE : Hid (l.any pr = false) := Lib.hid (by have := hany.out; rwa [List.take_of_length_le (by have := HN.out; omega)] at this)
      clear hkN
      go_wp2
      go_ret
      exact ⟨ret_int (by rw [idx_miss HE.out]), hb⟩

set_option maxHeartbeats 1000000 in
theorem contains_b (p : Option Addr) (cap g : Nat) (lb : Array Value) (pr : Int × Int × Int → Bool) (l : List (Int × Int × Int)) (w : World) (hN : l.length ≤ maxLen) (hL : At3 w p l) (hJ : Judge w g lb pr l) :
    Calls Try.prog 40 #[.slice p l.length cap, .func (.func g) #[] lb] w fun e w' => e = .returned (.bool (l.any pr)) ∧ Adds w w' := by
  have hc := index_b p cap g lb pr l w hN hL hJ
  have H0 := Lib.hid (idx_nonneg pr l)
  generalize idxT pr l = r at hc H0
  clear hN hL hJ
  go_enter Try.func40, Try.ntmps40
  go_wp2_with (go_at_call 56; refine hc.mono ?_; rintro e w1 ⟨rfl, hb1⟩)
  go_ret
  exact ⟨ret_bool H0.out, hb1⟩

set_option maxHeartbeats 1000000 in
theorem index_s (p : Option Addr) (cap g : Nat) (lb : Array Value) (pr : Int × Int × Int → Bool) (l : List (Int × Int × Int)) (w : World) (hN : l.length ≤ maxLen) (hL : At3 w p l) (hJ : Judge w g lb pr l) :
    Calls Try.prog 83 #[.slice p l.length cap, .func (.func g) #[] lb] w fun e w' => e = .returned (.int .i64 (idxT pr l)) ∧ Adds w w' := by
  unfold maxLen at hN
  obtain ⟨N, hNl⟩ : ∃ N, N = l.length := ⟨_, rfl⟩
  rw [← hNl] at hN ⊢
  have HL := Lib.hid hL
  have HJ := Lib.hid hJ
  have HN := Lib.hid hNl
  have he := hJ.enter
  clear hL hNl hJ
  go_enter Try.func83, Try.ntmps83
  go_wp2
  go_loopw [8] (fun i wr => ∃ k : Nat, k ≤ N ∧ i = .int .i64 k ∧ Hid ((l.take k).any pr = false) ∧ Adds w wr) (fun i _ => N - (intOf i).toNat)
  case atStart => exact ⟨0, by omega, rfl, Lib.hid (by simp), Adds.refl w⟩
  case round =>
    obtain ⟨k, hk, rfl, hany, hb⟩ := hrel
    by_cases hlt : k < N
    · obtain ⟨⟨s, pp, q⟩, hb3⟩ : ∃ t, l[k]? = some t := ⟨_, List.getElem?_eq_getElem (by have := HN.out; omega)⟩
      obtain ⟨gg, off, rfl, d0, d1, d2⟩ := HL.out k _ hb3
      have c0 := keep_cell hb d0
      have c1 := keep_cell hb d1
      have c2 := keep_cell hb d2
      have hc := HJ.out.call _ (List.mem_of_getElem? hb3)
      have HK := Lib.hid hb3
      simp only at c0 c1 c2
      clear d0 d1 d2 hb3
      cases ht : pr (s, pp, q) with
      | true =>
        rw [ht] at hc
        have HC := Lib.hid hc
        have HT := Lib.hid ht
        clear ht hc
        go_wp2_with (go_at_fn g; refine (HC.out _ (by first | exact hb | (exact hb.drew))).mono ?_; rintro e w1 ⟨rfl, hb1⟩)
        go_ret
        exact ⟨ret_int (by rw [idx_hit hany.out HK.out HT.out]), hb.trans hb1⟩
      | false =>
        rw [ht] at hc
        have HC := Lib.hid hc
        have HT := Lib.hid ht
        clear ht hc
        go_wp2_with (go_at_fn g; refine (HC.out _ (by first | exact hb | (exact hb.drew))).mono ?_; rintro e w1 ⟨rfl, hb1⟩)
        exact ⟨⟨k + 1, by omega, by go_num, Lib.hid (any_next hany.out HK.out HT.out), hb.trans hb1⟩, by simp [intOf]; omega⟩
    · have hkN : k = N := by omega
      have HE : Hid (l.any pr = false) := Lib.hid (by have := hany.out; rwa [List.take_of_length_le (by have := HN.out; omega)] at this)
      clear hkN
      go_wp2
      go_ret
      exact ⟨ret_int (by rw [idx_miss HE.out]), hb⟩

set_option maxHeartbeats 1000000 in
theorem contains_s (p : Option Addr) (cap g : Nat) (lb : Array Value) (pr : Int × Int × Int → Bool) (l : List (Int × Int × Int)) (w : World) (hN : l.length ≤ maxLen) (hL : At3 w p l) (hJ : Judge w g lb pr l) :
    Calls Try.prog 86 #[.slice p l.length cap, .func (.func g) #[] lb] w fun e w' => e = .returned (.bool (l.any pr)) ∧ Adds w w' := by
  have hc := index_s p cap g lb pr l w hN hL hJ
  have H0 := Lib.hid (idx_nonneg pr l)
  generalize idxT pr l = r at hc H0
  clear hN hL hJ
  go_enter Try.func86, Try.ntmps86
  go_wp2_with (go_at_call 83; refine hc.mono ?_; rintro e w1 ⟨rfl, hb1⟩)
  go_ret
  exact ⟨ret_bool H0.out, hb1⟩

/-- What Check returns. -/
def checkT (l : List Bd) : Int := if 4096 < l.length then 2 else if l.any (fun b => !okB b) then 1 else 0

theorem enter41 (args : Array Value) (w : World) : (callFunc 41 args).run Try.prog w = .ok (.enter 41 args) w := enters_of Try.func41 (by kernel_rfl) rfl args w

theorem judge_wrong (w : World) (l : List Bd) : Judge w 41 #[] (fun b => !okB b) l := ⟨enter41, fun x _ W _ => by
  obtain ⟨a, b, c⟩ := x
  exact wrong_any a b c W⟩

set_option maxHeartbeats 1000000 in
theorem Check_any (p : Option Addr) (cap : Nat) (l : List Bd) (w : World) (hN : l.length ≤ maxLen) (hL : At3 w p l) :
    Calls Try.prog 17 #[.slice p l.length cap] w fun e w' => e = .returned (.int .i64 (checkT l)) ∧ Adds w w' := by
  have hc := contains_b p cap 41 #[] (fun b => !okB b) l w hN hL (judge_wrong w l)
  unfold maxLen at hN
  by_cases hbig : 4096 < l.length
  · have H0 : Hid (checkT l = 2) := Lib.hid (by unfold checkT; rw [if_pos hbig])
    clear hc hL
    go_enter Try.func17, Try.ntmps17
    go_wp2
    go_ret
    exact ⟨ret_int H0.out.symm, Adds.refl w⟩
  · cases ha : l.any (fun b => !okB b) with
    | true =>
      have H0 : Hid (checkT l = 1) := Lib.hid (by unfold checkT; rw [if_neg hbig, ha]; rfl)
      rw [ha] at hc
      clear hL ha
      go_enter Try.func17, Try.ntmps17
      go_wp2_with (go_at_call 40; refine hc.mono ?_; rintro e w1 ⟨rfl, hb1⟩)
      go_ret
      exact ⟨ret_int H0.out.symm, hb1⟩
    | false =>
      have H0 : Hid (checkT l = 0) := Lib.hid (by unfold checkT; rw [if_neg hbig, ha]; rfl)
      rw [ha] at hc
      clear hL ha
      go_enter Try.func17, Try.ntmps17
      go_wp2_with (go_at_call 40; refine hc.mono ?_; rintro e w1 ⟨rfl, hb1⟩)
      go_ret
      exact ⟨ret_int H0.out.symm, hb1⟩

theorem check_zero {l : List Bd} : checkT l = 0 ↔ l.length ≤ 4096 ∧ ∀ b ∈ l, okB b = true := by
  unfold checkT
  split
  · constructor
    · intro h; cases h
    · rintro ⟨h, _⟩; omega
  · rename_i hb
    cases ha : l.any (fun b => !okB b) with
    | true =>
      obtain ⟨b, hm, hb'⟩ := List.any_eq_true.1 ha
      simp only [if_true]
      constructor
      · intro h; cases h
      · rintro ⟨_, h⟩; rw [h b hm] at hb'; cases hb'
    | false =>
      simp only [Bool.false_eq_true, if_false, true_iff]
      exact ⟨by omega, fun b hm => by have := List.any_eq_false.1 ha b hm; simpa using this⟩

end Go.Proofs.Ytigpghmbeldakaa
