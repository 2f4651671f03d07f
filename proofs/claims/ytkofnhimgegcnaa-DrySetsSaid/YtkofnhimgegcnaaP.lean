/- fits, Fits. -/
import Derived.Test.YtkofnhimgegcnaaO
namespace Go.Proofs.Ytkofnhimgegcnaa
open Go Go.RowKit

/-- Loads that can all be dried, as the network has it. -/
def CanDry (l : List Ld) (K : Int) : Prop := ∃ f, Flow (netE (timesOf l) K l) f (totalL l)

theorem sum_zero_of {α : Type} (g : α → Int) : ∀ (l : List α), (∀ x ∈ l, g x = 0) → (l.map g).sum = 0
  | [], _ => rfl
  | x :: l, h => by rw [List.map_cons, List.sum_cons, h x (by simp), sum_zero_of g l (fun y hy => h y (by simp [hy]))]; rfl

theorem loadsE_cap (n : Nat) (T : List Int) : ∀ (l : List Ld) (j : Nat), ((loadsE n T l j).map (fun e => if e.1 = 0 then e.2.2 else 0)).sum = totalL l
  | [], _ => rfl
  | x :: l, j => by
    rw [loadsE, List.map_append, List.sum_append, loadsE_cap n T l (j + 1), loadE, List.map_cons, List.sum_cons]
    rw [sum_zero_of]
    · simp [totalL]
    · intro e he
      rw [List.mem_map] at he
      obtain ⟨q, _, rfl⟩ := he
      rw [if_neg (by dsimp only; omega)]

theorem netE_cap (T : List Int) (K : Int) (l : List Ld) : capE (netE T K l) = totalL l := by
  unfold capE
  have h := sumN_list (fun e => if e.1 = 0 then e.2.2 else 0) (netE T K l)
  rw [h]
  unfold netE
  rw [List.map_append, List.sum_append, loadsE_cap, sum_zero_of]
  · omega
  · intro e he
    unfold sinkE at he
    rw [List.mem_map] at he
    obtain ⟨s, _, rfl⟩ := he
    rw [if_neg (by dsimp only; omega)]

/-- What fill has found. -/
theorem max_iff {l : List Ld} {K val : Int} (hS : Sane (netE (timesOf l) K l) (2 + l.length + (timesOf l).length)) (h : IsMax (netE (timesOf l) K l) (2 + l.length + (timesOf l).length) val) : val ≤ totalL l ∧ (val = totalL l ↔ CanDry l K) := by
  have hle : val ≤ totalL l := by
    obtain ⟨f, lev, hf, _⟩ := h
    rw [← netE_cap (timesOf l) K l]
    exact hf.bound
  refine ⟨hle, fun e => ?_, fun hc => ?_⟩
  · obtain ⟨f, lev, hf, _⟩ := h
    rw [e] at hf
    exact ⟨f, hf⟩
  · obtain ⟨f, hf⟩ := hc
    have := h.ge hf hS.ends hS.two
    omega

set_option maxHeartbeats 1000000 in
theorem fits_any (p : Option Addr) (cl : Nat) (l : List Ld) (kq : Int) (w : World) (hL : LoadsAt w p l) (hok : ∀ x ∈ l, okN x) (hn : l.length ≤ 256) (hK0 : 0 ≤ kq) (hK1 : kq ≤ 256) :
    Calls Try.prog 42 #[.slice p l.length cl, .int .i64 kq] w fun e w' => ∃ v, e = .returned (.bool v) ∧ (v = true ↔ CanDry l kq) ∧ Adds w w' := by
  have hlay := lay_laid p cl l kq w hL hok hn hK0 hK1
  have htot := fun W (hW : Adds w W) => total_any p cl l W hn (hL.later hW) hok
  have hS := laid_sane (kq := kq) hok hn hK0 hK1
  obtain ⟨N, hNl⟩ : ∃ N, N = l.length := ⟨_, rfl⟩
  rw [← hNl] at hlay htot ⊢
  have HS := Lib.hid hS
  obtain ⟨t, ht⟩ : ∃ t, t = totalL l := ⟨_, rfl⟩
  rw [← ht] at htot
  have HT := Lib.hid ht
  have HTOT := Lib.hid htot
  clear hL hok hS hNl ht htot
  go_enter Try.func42, Try.ntmps42
  go_wp2_with (first
    | (go_at_call 50; refine hlay.mono ?_; rintro e w1 ⟨K, rfl, hk⟩; have HK := Lib.hid hk; clear hk)
    | (go_at_call 51; refine (fill_any K _ _ nilV _ HS.out HK.out.net).mono ?_; rintro e w2 ⟨val, f, lev, gs, rfl, h1, h2, h3, h4, h5, h6, h7, h8⟩; have HM := Lib.hid (max_iff HS.out ⟨f, lev, h1, h3, h4⟩); have HA : Hid (Adds w w2) := Lib.hid (Touch.adds HK.out.adds h8 (fun i hi => by have := HK.out.low; rcases hi with hi | hi <;> omega)); clear h1 h2 h3 h4 h5 h6 h7 h8)
    | (go_at_call 52; refine (HTOT.out _ HA.out).mono ?_; rintro e w3 ⟨rfl, hb⟩; have HB := Lib.hid hb; clear hb))
  go_ret
  refine ⟨_, rfl, ?_, HA.out.trans HB.out⟩
  have := HM.out.2
  rw [← HT.out] at this
  rw [← this]
  simp

theorem okB_all {l : List Ld} {k : Int} (h : checkK l k = 0) : l.length ≤ 256 ∧ (∀ x ∈ l, okN x) ∧ 1 ≤ k ∧ k ≤ 64 := by
  unfold checkK at h
  by_cases hc : checkL l = 0
  · rw [if_pos hc] at h
    obtain ⟨h1, h2⟩ := checkL_zero.1 hc
    by_cases hk : 1 ≤ k ∧ k ≤ 64
    · exact ⟨h1, fun x hx => okB_okN (h2 x hx), hk⟩
    · rw [if_neg hk] at h; cases h
  · rw [if_neg hc] at h; exact absurd h hc

set_option maxHeartbeats 1000000 in
theorem Fits_any (p : Option Addr) (cl : Nat) (l : List Ld) (kq : Int) (w : World) (hN : l.length ≤ maxLen) (hL : LoadsAt w p l) :
    Calls Try.prog 15 #[.slice p l.length cl, .int .i64 kq] w fun e w' => ∃ v, e = .returned (.tuple #[.bool v, .int .i64 (checkK l kq)]) ∧ (checkK l kq ≠ 0 → v = false) ∧ (checkK l kq = 0 → (v = true ↔ CanDry l kq)) ∧ Adds w w' := by
  have hc := check_any p cl l kq w hN hL
  by_cases h0 : checkK l kq = 0
  · obtain ⟨o1, o2, o3, o4⟩ := okB_all h0
    have hf := fun W (hW : Adds w W) => fits_any p cl l kq W (hL.later hW) o2 o1 (by omega) (by omega)
    rw [h0] at hc ⊢
    have HF := Lib.hid hf
    generalize l.length = n at *
    clear hL hf h0 o2
    go_enter Try.func15, Try.ntmps15
    go_wp2_with (first
      | (go_at_call 41; refine hc.mono ?_; rintro e w1 ⟨rfl, hb1⟩; have HB1 := Lib.hid hb1; clear hb1)
      | (go_at_call 42; refine (HF.out _ HB1.out).mono ?_; rintro e w2 ⟨v, rfl, hv, hb2⟩; have HV := Lib.hid hv; have HB2 := Lib.hid hb2; clear hv hb2))
    go_ret2
    exact ⟨v, rfl, fun h => absurd rfl h, fun _ => HV.out, HB1.out.trans HB2.out⟩
  · generalize checkK l kq = c at *
    have g0 : (c != 0) = true := by simp [bne, h0]
    have H0 := Lib.hid h0
    generalize l.length = n at *
    clear hL h0
    go_enter Try.func15, Try.ntmps15
    go_wp2_with (go_at_call 41; refine hc.mono ?_; rintro e w1 ⟨rfl, hb1⟩; have HB1 := Lib.hid hb1; clear hb1)
    go_ret2
    exact ⟨false, rfl, fun _ => rfl, fun h => absurd h H0.out, HB1.out⟩

end Go.Proofs.Ytkofnhimgegcnaa
