/- Check, total, fits. -/
import Derived.Test.YtkofnhimgegcnaaN
namespace Go.Proofs.Ytkofnhimgegcnaa
open Go Go.RowKit

/-- A load as a list of loads may have it. -/
def okB (x : Ld) : Bool := decide (0 ≤ x.1 ∧ x.1 < x.2.1 ∧ x.2.1 ≤ 1000000 ∧ 1 ≤ x.2.2.1 ∧ x.2.2.1 ≤ x.2.1 - x.1 ∧ 0 ≤ x.2.2.2 ∧ x.2.2.2 ≤ 1000000)

theorem okB_iff {x : Ld} : okB x = true ↔ 0 ≤ x.1 ∧ x.1 < x.2.1 ∧ x.2.1 ≤ 1000000 ∧ 1 ≤ x.2.2.1 ∧ x.2.2.1 ≤ x.2.1 - x.1 ∧ 0 ≤ x.2.2.2 ∧ x.2.2.2 ≤ 1000000 := by simp [okB]
theorem okB_okN {x : Ld} (h : okB x = true) : okN x := by
  rw [okB_iff] at h
  unfold okN
  omega

/-- A load as a value. -/
abbrev aggL (x : Ld) : Value := .agg #[.int .i64 x.1, .int .i64 x.2.1, .int .i64 x.2.2.1, .int .i64 x.2.2.2]

set_option maxHeartbeats 2000000 in
theorem isLoad_any (x0 x1 x2 x3 : Int) (w : World) : Calls Try.prog 83 #[.agg #[.int .i64 x0, .int .i64 x1, .int .i64 x2, .int .i64 x3]] w fun e w' => e = .returned (.bool (okB (x0, x1, x2, x3))) ∧ Adds w w' := by
  go_enter Try.func83, Try.ntmps83
  go_wp2
  all_goals
    go_ret
    exact ⟨ret_bool (by rw [Bool.eq_iff_iff]; simp [okB]; try omega), (Adds.refl _).alloc _⟩

/-- What Check returns. -/
def checkL (l : List Ld) : Int := if 256 < l.length then 2 else if l.all okB then 0 else 1

set_option maxHeartbeats 1000000 in
theorem Check_any (p : Option Addr) (cap : Nat) (l : List Ld) (w : World) (hN : l.length ≤ maxLen) (hL : LoadsAt w p l) :
    Calls Try.prog 60 #[.slice p l.length cap] w fun e w' => e = .returned (.int .i64 (checkL l)) ∧ Adds w w' := by
  unfold maxLen at hN
  obtain ⟨N, hNl⟩ : ∃ N, N = l.length := ⟨_, rfl⟩
  rw [← hNl] at hN ⊢
  have HL := Lib.hid hL
  have HN := Lib.hid hNl
  by_cases hbig : 256 < N
  · have H0 : Hid (checkL l = 2) := Lib.hid (by unfold checkL; rw [if_pos (by omega)])
    clear hL hNl
    go_enter Try.func60, Try.ntmps60
    go_wp2
    go_ret
    exact ⟨ret_int H0.out.symm, Adds.refl w⟩
  · have hbd : decide ((256 : Int) < (N : Int)) = false := decide_eq_false (by omega)
    clear hL hNl
    go_enter Try.func60, Try.ntmps60
    go_wp2
    go_loopw [10] (fun i wr => ∃ k : Nat, k ≤ N ∧ i = .int .i64 k ∧ Hid ((l.take k).all okB = true) ∧ Hid (Adds w wr)) (fun i _ => N - (intOf i).toNat)
    case atStart => exact ⟨0, by omega, rfl, Lib.hid (by simp), Lib.hid (Adds.refl w)⟩
    case round =>
      obtain ⟨k, hk, rfl, hall, hb⟩ := hrel
      by_cases hlt : k < N
      · obtain ⟨x, hx⟩ : ∃ x, l[k]? = some x := ⟨_, List.getElem?_eq_getElem (by have := HN.out; omega)⟩
        have hnext : (l.take (k + 1)).all okB = (okB x) := by
          have hk' : k < l.length := (List.getElem?_eq_some_iff.1 hx).1
          have e : l[k] = x := (List.getElem?_eq_some_iff.1 hx).2
          rw [List.take_succ_eq_append_getElem hk', List.all_append, hall.out, e]
          simp
        have hmem := List.mem_of_getElem? hx
        obtain ⟨x0, x1, x2, x3⟩ := x
        obtain ⟨g, off, rfl, c0, c1, c2, c3⟩ := HL.out k _ hx
        have d0 := keep_cell hb.out c0
        have d1 := keep_cell hb.out c1
        have d2 := keep_cell hb.out c2
        have d3 := keep_cell hb.out c3
        have hc := fun W => isLoad_any x0 x1 x2 x3 W
        have HM := Lib.hid hmem
        have HNX := Lib.hid hnext
        dsimp only at d0 d1 d2 d3
        clear c0 c1 c2 c3 hx hmem hnext
        cases ht : okB (x0, x1, x2, x3) with
        | true =>
          rw [ht] at hc HNX
          clear ht
          go_wp2_with (go_at_call 83; refine (hc _).mono ?_; rintro e w1 ⟨rfl, hb1⟩; have HB1 := Lib.hid hb1; clear hb1)
          exact ⟨⟨k + 1, by omega, by go_num, HNX, Lib.hid ((hb.out.alloc _).trans HB1.out)⟩, by simp [intOf]; omega⟩
        | false =>
          rw [ht] at hc
          have HT := Lib.hid ht
          clear ht
          go_wp2_with (go_at_call 83; refine (hc _).mono ?_; rintro e w1 ⟨rfl, hb1⟩; have HB1 := Lib.hid hb1; clear hb1)
          go_ret
          refine ⟨ret_int ?_, (hb.out.alloc _).trans HB1.out⟩
          unfold checkL
          rw [if_neg (by have := HN.out; omega), if_neg]
          intro hal
          rw [List.all_eq_true] at hal
          have := hal _ HM.out
          rw [HT.out] at this
          cases this
      · have hkN : k = N := by omega
        have HE : Hid (checkL l = 0) := Lib.hid (by
          have := hall.out
          rw [List.take_of_length_le (by have := HN.out; omega)] at this
          unfold checkL
          rw [if_neg (by have := HN.out; omega), if_pos this])
        clear hkN
        go_wp2
        go_ret
        exact ⟨ret_int HE.out.symm, hb.out⟩

theorem checkL_zero {l : List Ld} : checkL l = 0 ↔ l.length ≤ 256 ∧ ∀ x ∈ l, okB x = true := by
  unfold checkL
  by_cases h : 256 < l.length
  · rw [if_pos h]; constructor
    · intro e; cases e
    · rintro ⟨e, _⟩; omega
  · rw [if_neg h]
    by_cases ha : l.all okB = true
    · rw [if_pos ha]; rw [List.all_eq_true] at ha; exact ⟨fun _ => ⟨by omega, ha⟩, fun _ => rfl⟩
    · rw [if_neg ha]
      constructor
      · intro e; cases e
      · rintro ⟨_, e⟩; exact absurd (List.all_eq_true.2 e) ha

/-- What check returns. -/
def checkK (l : List Ld) (k : Int) : Int := if checkL l = 0 then (if 1 ≤ k ∧ k ≤ 64 then 0 else 1) else checkL l

set_option maxHeartbeats 1000000 in
theorem check_any (p : Option Addr) (cap : Nat) (l : List Ld) (k : Int) (w : World) (hN : l.length ≤ maxLen) (hL : LoadsAt w p l) :
    Calls Try.prog 41 #[.slice p l.length cap, .int .i64 k] w fun e w' => e = .returned (.int .i64 (checkK l k)) ∧ Adds w w' := by
  have hc := Check_any p cap l w hN hL
  have hd : checkK l k = if checkL l = 0 then (if 1 ≤ k ∧ k ≤ 64 then 0 else 1) else checkL l := rfl
  generalize checkK l k = r at hd
  generalize checkL l = c at hc hd
  generalize l.length = n at hc ⊢
  by_cases h0 : c = 0
  · subst h0
    rw [if_pos rfl] at hd
    have HD := Lib.hid hd
    clear hd hL hN
    by_cases h1 : 1 ≤ k
    · have g1 : decide (k < 1) = false := decide_eq_false (by omega)
      by_cases h2 : k ≤ 64
      · have g2 : decide (64 < k) = false := decide_eq_false (by omega)
        have HR : Hid (r = 0) := Lib.hid (by rw [HD.out, if_pos ⟨h1, h2⟩])
        clear HD
        go_enter Try.func41, Try.ntmps41
        go_wp2_with (go_at_call 60; refine hc.mono ?_; rintro e w1 ⟨rfl, hb1⟩)
        go_ret
        exact ⟨ret_int HR.out.symm, hb1⟩
      · have g2 : decide (64 < k) = true := decide_eq_true (by omega)
        have HR : Hid (r = 1) := Lib.hid (by rw [HD.out, if_neg (fun h => h2 h.2)])
        clear HD
        go_enter Try.func41, Try.ntmps41
        go_wp2_with (go_at_call 60; refine hc.mono ?_; rintro e w1 ⟨rfl, hb1⟩)
        go_ret
        exact ⟨ret_int HR.out.symm, hb1⟩
    · have g1 : decide (k < 1) = true := decide_eq_true (by omega)
      have HR : Hid (r = 1) := Lib.hid (by rw [HD.out, if_neg (fun h => h1 h.1)])
      clear HD
      go_enter Try.func41, Try.ntmps41
      go_wp2_with (go_at_call 60; refine hc.mono ?_; rintro e w1 ⟨rfl, hb1⟩)
      go_ret
      exact ⟨ret_int HR.out.symm, hb1⟩
  · rw [if_neg h0] at hd
    have g0 : (c != 0) = true := by simp [bne, h0]
    have HD := Lib.hid hd
    clear hd h0 hL hN
    go_enter Try.func41, Try.ntmps41
    go_wp2_with (go_at_call 60; refine hc.mono ?_; rintro e w1 ⟨rfl, hb1⟩)
    go_ret
    exact ⟨ret_int HD.out.symm, hb1⟩

/-- How many hours loads need. -/
def totalL (l : List Ld) : Int := (l.map (fun x => x.2.2.1)).sum

theorem totalL_next {l : List Ld} {k : Nat} {x : Ld} (h : l[k]? = some x) : totalL (l.take (k + 1)) = totalL (l.take k) + x.2.2.1 := by
  have hk' : k < l.length := (List.getElem?_eq_some_iff.1 h).1
  have e : l[k] = x := (List.getElem?_eq_some_iff.1 h).2
  unfold totalL
  rw [List.take_succ_eq_append_getElem hk', List.map_append, List.sum_append, e]
  simp

set_option maxHeartbeats 1000000 in
theorem total_any (p : Option Addr) (cap : Nat) (l : List Ld) (w : World) (hN : l.length ≤ 256) (hL : LoadsAt w p l) (hok : ∀ x ∈ l, okN x) :
    Calls Try.prog 52 #[.slice p l.length cap] w fun e w' => e = .returned (.int .i64 (totalL l)) ∧ Adds w w' := by
  obtain ⟨N, hNl⟩ : ∃ N, N = l.length := ⟨_, rfl⟩
  rw [← hNl] at hN ⊢
  have HL := Lib.hid hL
  have HN := Lib.hid hNl
  have HOK := Lib.hid hok
  clear hL hNl hok
  go_enter Try.func52, Try.ntmps52
  go_wp2
  go_loopw [3, 8] (fun v i wr => ∃ (k : Nat) (s : Int), k ≤ N ∧ i = .int .i64 k ∧ v = .int .i64 s ∧ Hid (s = totalL (l.take k)) ∧ 0 ≤ s ∧ s ≤ 1000000 * (k : Int) ∧ Hid (Adds w wr)) (fun _ i _ => N - (intOf i).toNat)
  case atStart => exact ⟨0, 0, by omega, rfl, rfl, Lib.hid rfl, by omega, by omega, Lib.hid (Adds.refl w)⟩
  case round =>
    obtain ⟨k, s, hk, rfl, rfl, hs, hs0, hs1, hb⟩ := hrel
    by_cases hlt : k < N
    · obtain ⟨x, hx⟩ : ∃ x, l[k]? = some x := ⟨_, List.getElem?_eq_getElem (by have := HN.out; omega)⟩
      have hox := HOK.out x (List.mem_of_getElem? hx)
      have HNX := Lib.hid (totalL_next hx)
      obtain ⟨x0, x1, x2, x3⟩ := x
      obtain ⟨g, off, rfl, c0, c1, c2, c3⟩ := HL.out k _ hx
      have d0 := keep_cell hb.out c0
      have d1 := keep_cell hb.out c1
      have d2 := keep_cell hb.out c2
      have d3 := keep_cell hb.out c3
      obtain ⟨o1, o2, o3, o4, o5, o6⟩ := hox
      dsimp only at d0 d1 d2 d3 o1 o2 o3 o4 o5 o6
      clear c0 c1 c2 c3 hx
      go_wp2
      exact ⟨⟨k + 1, s + x2, by omega, by go_num, rfl, Lib.hid (by rw [HNX.out, ← hs.out]), by omega, by omega, Lib.hid (hb.out.alloc _)⟩, by simp [intOf]; omega⟩
    · have HE : Hid (totalL l = s) := Lib.hid (by
        have := hs.out
        rw [List.take_of_length_le (by have := HN.out; omega)] at this
        exact this.symm)
      have hkN : decide ((k : Int) < (N : Int)) = false := decide_eq_false (by omega)
      go_wp2
      go_ret
      exact ⟨ret_int HE.out.symm, hb.out⟩

end Go.Proofs.Ytkofnhimgegcnaa
