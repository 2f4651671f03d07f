/- awake. -/
import Derived.Test.YtkofnhimgegcnaaAC
namespace Go.Proofs.Ytkofnhimgegcnaa
open Go Go.RowKit Go.Sort

set_option maxRecDepth 100000 in
set_option maxHeartbeats 4000000 in
theorem awake_any (w : World) : Calls Try.prog 17 #[] w fun e w' => e = .returned (.bool true) ∧ Adds w w' := by
  have hL : ∀ W : World, Box W w.heap.size #[.int .i64 0, .int .i64 2, .int .i64 2, .int .i64 0, .int .i64 0, .int .i64 2, .int .i64 1, .int .i64 0, .int .i64 0, .int .i64 2, .int .i64 1, .int .i64 0] 84 → LoadsAt W (some ⟨w.heap.size, 0, none⟩) three := fun W hb i x hx => by
    have : i = 0 ∨ i = 1 ∨ i = 2 := by have := (List.getElem?_eq_some_iff.1 hx).1; simp at this; omega
    refine ⟨w.heap.size, 0, rfl, ?_⟩
    rcases this with rfl | rfl | rfl
    · simp at hx; subst hx
      exact ⟨hb.cell 0, hb.cell 1, hb.cell 2, hb.cell 3⟩
    · simp at hx; subst hx
      exact ⟨hb.cell 4, hb.cell 5, hb.cell 6, hb.cell 7⟩
    · simp at hx; subst hx
      exact ⟨hb.cell 8, hb.cell 9, hb.cell 10, hb.cell 11⟩
  have hN : (three : List Ld).length ≤ maxLen := by unfold maxLen; simp
  have hok : ∀ x ∈ three, okN x := fun x hx => by simp at hx; rcases hx with rfl | rfl | rfl <;> simp [okN]
  have hp := fun (W : World) hb => Plan_any (some ⟨w.heap.size, 0, none⟩) 3 three 2 W hN (hL W hb)
  have hq := fun (W : World) hb => Proof_any (some ⟨w.heap.size, 0, none⟩) 3 three 1 W hN (hL W hb)
  have hk := fun (W : World) hb => Kilns_any (some ⟨w.heap.size, 0, none⟩) 3 three W hN (hL W hb)
  have hp2 : ∀ (W : World), Box W w.heap.size _ 84 → Calls Try.prog 22 #[.slice (some ⟨w.heap.size, 0, none⟩) 3 3, .int .i64 2] W fun e w' => ∃ pu c P, e = .returned (.tuple #[.slice pu P c, .int .i64 0]) ∧ 2 < P ∧ Adds W w' := fun W hb => (hp W hb).mono (by
    rintro e w' ⟨u, P, c, rfl, h1, h2, _, h3⟩
    obtain ⟨h4, _⟩ := h3 (three_check 2 (by omega))
    obtain ⟨rfl, h5⟩ := h4 three_two
    obtain ⟨pu, cu, rfl⟩ := own_slice h1
    exact ⟨pu, cu, _, rfl, three_turns (h5.ok hok (by omega)), h2⟩)
  have hq2 : ∀ (W : World), Box W w.heap.size _ 84 → Calls Try.prog 23 #[.slice (some ⟨w.heap.size, 0, none⟩) 3 3, .int .i64 1] W fun e w' => ∃ p1 n1 c1 p2 n2 c2, e = .returned (.tuple #[.agg #[.slice p1 n1 c1, .slice p2 n2 c2], .bool true]) ∧ 0 < n1 ∧ Adds W w' := fun W hb => (hq W hb).mono (by
    rintro e w' ⟨v1, v2, ok, rfl, h1, _, h3⟩
    obtain ⟨val, f, lev, h4, h5, _, _, h6⟩ := h3 (three_check 1 (by omega))
    have hne : val ≠ totalL three := fun e => three_one ⟨f, by rw [← e]; exact h4⟩
    obtain ⟨rfl, h7, h8⟩ := h6 hne
    obtain ⟨p1, c1, rfl⟩ := own_slice h7
    obtain ⟨p2, c2, rfl⟩ := own_slice h8
    exact ⟨p1, _, c1, p2, _, c2, rfl, met_some h4 h5 hne, h1⟩)
  have hk2 : ∀ (W : World), Box W w.heap.size _ 84 → Calls Try.prog 24 #[.slice (some ⟨w.heap.size, 0, none⟩) 3 3] W fun e w' => e = .returned (.tuple #[.int .i64 2, .int .i64 0]) ∧ Adds W w' := fun W hb => (hk W hb).mono (by
    rintro e w' ⟨r, rfl, _, h2, h3⟩
    have hc : checkL three = 0 := by kernel_rfl
    obtain ⟨h4, h5, h6, h7⟩ := h2 hc
    rw [hc]
    have h0 : ¬ CanDry three 0 := fun ⟨f, hf⟩ => by
      rw [three_net, three_total] at hf
      have h1 := hf.div 1
      have h2 := hf.ok 6 (by simp)
      unfold divE at h1
      simp [sumN, eAt] at h1 h2
      omega
    have hr : r = 2 := by
      simp at h5
      have : r = 0 ∨ r = 1 ∨ r = 2 ∨ r = 3 := by omega
      rcases this with rfl | rfl | rfl | rfl
      · rcases h7 with h7 | h7
        · simp at h7
        · exact absurd h7 h0
      · rcases h7 with h7 | h7
        · simp at h7
        · exact absurd h7 three_one
      · rfl
      · rcases h6 with h6 | h6
        · omega
        · exact absurd three_two h6
    rw [hr]
    exact ⟨rfl, h3⟩)
  have HP := Lib.hid hp2
  have HQ := Lib.hid hq2
  have HK := Lib.hid hk2
  clear hL hN hok hp hq hk hp2 hq2 hk2
  go_enter Try.func17, Try.ntmps17
  go_upto_region 2 with fail
  obtain ⟨W1, hW1⟩ : ∃ V, V = w.alloc (.cells #[.int .i64 0, .int .i64 2, .int .i64 2, .int .i64 0, .int .i64 0, .int .i64 2, .int .i64 1, .int .i64 0, .int .i64 0, .int .i64 2, .int .i64 1, .int .i64 0] 84) := ⟨_, rfl⟩
  rw [← hW1]
  have HB1 : Hid (Box W1 w.heap.size #[.int .i64 0, .int .i64 2, .int .i64 2, .int .i64 0, .int .i64 0, .int .i64 2, .int .i64 1, .int .i64 0, .int .i64 0, .int .i64 2, .int .i64 1, .int .i64 0] 84) := Lib.hid (by rw [hW1]; exact Box.new _ _ _)
  have HA1 : Hid (Adds w W1) := Lib.hid (by rw [hW1]; exact (Adds.refl _).alloc _)
  clear hW1
  obtain ⟨g, hg⟩ : ∃ g, g = w.heap.size := ⟨_, rfl⟩
  rw [← hg] at HP HQ HK HB1 ⊢
  clear hg
  go_upto_region 4 with (first
    | (go_at_call 22; refine (HP.out _ HB1.out).mono ?_; rintro e w2 ⟨pu, cu, np, rfl, hnp, ha2⟩; have HA2 := Lib.hid ha2; clear ha2)
    | (go_at_call 23; refine (HQ.out _ (HB1.out.later HA2.out)).mono ?_; rintro e w3 ⟨p1, n1, c1, p2, n2, c2, rfl, hn1, ha3⟩; have HA3 := Lib.hid ha3; clear ha3))
  obtain ⟨x, hx⟩ : ∃ x, x = w3.heap.size := ⟨_, rfl⟩
  obtain ⟨W4, hW4⟩ : ∃ V, V = w3.alloc (.cells #[.slice p1 n1 c1, .slice p2 n2 c2] 46) := ⟨_, rfl⟩
  rw [← hW4, ← hx]
  have HX4 : Hid (Box W4 x #[.slice p1 n1 c1, .slice p2 n2 c2] 46) := Lib.hid (by rw [hW4, hx]; exact Box.new _ _ _)
  have HA4 : Hid (Adds w3 W4) := Lib.hid (by rw [hW4]; exact (Adds.refl _).alloc _)
  clear hW4 hx
  have hnp2 : (2 : Int) < (np : Int) := by omega
  have hn12 : (0 : Int) < (n1 : Int) := by omega
  go_upto_region 5 with (go_at_call 24; refine (HK.out _ (((HB1.out.later HA2.out).later HA3.out).later HA4.out)).mono ?_; rintro e w5 ⟨rfl, ha5⟩; have HA5 := Lib.hid ha5; clear ha5)
  have kx0 : w5.cell? ⟨x, 0, none⟩ = some (.slice p1 n1 c1) := (HX4.out.later HA5.out).cell 0
  go_wp2
  go_ret
  exact ⟨rfl, (((HA1.out.trans HA2.out).trans HA3.out).trans HA4.out).trans HA5.out⟩

end Go.Proofs.Ytkofnhimgegcnaa
