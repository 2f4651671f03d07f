/- Split of the program and of the reference. -/
import Derived.Test.YtigpghmbeldakaaBY
namespace Go.Proofs.Ytigpghmbeldakaa
open Go.RowKit

instance (l : List Int) : Decidable (qOk l) := by unfold qOk; infer_instance

/-- The error of Split. -/
def splitE (t : Int) (ws : List Int) : Int := if 4096 < ws.length then 2 else if qOk ws ∧ 0 ≤ t ∧ t ≤ ws.sum then 0 else 1
/-- What Split returns. -/
def splitA (t : Int) (ws : List Int) : List Int := if splitE t ws = 0 then shareT t ws else []
def SplitGot (t : Int) (ws : List Int) (w : World) (e : Ending) (w' : World) : Prop :=
  ∃ p c, e = .returned (.tuple #[.slice p (splitA t ws).length c, .int .i64 (splitE t ws)]) ∧ At1 .i64 w' p (splitA t ws) ∧ Adds w w'

theorem split_fail {t : Int} {ws : List Int} {er : Int} {w w' : World} (h : splitE t ws = er) (h0 : er ≠ 0) (hb : Adds w w') : SplitGot t ws w (.returned (.tuple #[.slice none 0 0, .int .i64 er])) w' := by
  have e : splitA t ws = [] := by unfold splitA; rw [h, if_neg h0]
  refine ⟨none, 0, by rw [e, h]; rfl, ?_, hb⟩
  rw [e]
  intro i x hx
  simp at hx

theorem split_good {t : Int} {ws : List Int} {g cap : Nat} {w w' : World} (h : splitE t ws = 0) (hr : RowI 2 .i64 w' g cap (shareT t ws)) (hb : Adds w w') : SplitGot t ws w (.returned (.tuple #[.slice (some ⟨g, 0, none⟩) (shareT t ws).length cap, .int .i64 0])) w' := by
  have e : splitA t ws = shareT t ws := by unfold splitA; rw [if_pos h]
  exact ⟨some ⟨g, 0, none⟩, cap, by rw [e, h], by rw [e]; exact hr.at1, hb⟩

theorem splitE_bad {t : Int} {ws : List Int} (hl : ws.length ≤ 4096) (h : ¬ (qOk ws ∧ 0 ≤ t ∧ t ≤ ws.sum)) : splitE t ws = 1 := by
  unfold splitE; rw [if_neg (by omega), if_neg h]
theorem splitE_ok {t : Int} {ws : List Int} (hl : ws.length ≤ 4096) (h : qOk ws ∧ 0 ≤ t ∧ t ≤ ws.sum) : splitE t ws = 0 := by
  unfold splitE; rw [if_neg (by omega), if_pos h]

set_option maxRecDepth 100000 in
set_option maxHeartbeats 2000000 in
theorem Split_any (t : Int) (p : Option Addr) (cap : Nat) (ws : List Int) (w : World) (hN : ws.length ≤ 40 ∨ 4096 < ws.length ∧ ws.length ≤ 5000) (hL : At1 .i64 w p ws) :
    Calls Try.prog 34 #[.int .i64 t, .slice p ws.length cap] w (SplitGot t ws w) := by
  obtain ⟨N, hNl⟩ : ∃ N, N = ws.length := ⟨_, rfl⟩
  have HN := Lib.hid hNl
  rw [← hNl] at hN ⊢
  rcases hN with h40 | hbig
  · have HL := Lib.hid hL
    have HSM : Hid (qOk ws → ∀ W, At1 .i64 W p ws → Calls Try.prog 54 #[.slice p N cap] W fun e w' => e = .returned (.int .i64 ws.sum) ∧ W = w') := Lib.hid (fun hq W hW => by rw [hNl]; exact sum_any p cap ws W (by omega) hW hq)
    have HBS : Hid (qOk ws → 0 ≤ t → t ≤ ws.sum → ∀ W, At1 .i64 W p ws → Calls Try.prog 55 #[.int .i64 t, .slice p N cap] W (RowGot 2 (shareT t ws) W)) := Lib.hid (fun hq h0 h1 W hW => by
      rw [hNl]
      rcases Int.lt_or_eq_of_le h0 with h | h
      · obtain ⟨m, rfl⟩ : ∃ m : Nat, t = (m : Int) := ⟨t.toNat, by omega⟩
        exact byShare_any 40 stable40 (by omega) m p cap ws W (by omega) hW hq (by omega) h1
      · subst h
        exact byShare_zero p cap ws W (by omega))
    have HE1 : Hid (¬ (qOk ws ∧ 0 ≤ t ∧ t ≤ ws.sum) → splitE t ws = 1) := Lib.hid (splitE_bad (by omega))
    have HE0 : Hid (qOk ws ∧ 0 ≤ t ∧ t ≤ ws.sum → splitE t ws = 0) := Lib.hid (splitE_ok (by omega))
    have hN5 : (N : Int) ≤ 40 := by omega
    clear hL hNl h40
    go_enter Try.func34, Try.ntmps34
    go_wp2
    go_loopw [13] (fun v13 wr => ∃ k : Nat, k ≤ N ∧ v13 = .int .i64 k ∧ Hid (qOk (ws.take k)) ∧ w = wr) (fun v13 _ => N - (intOf v13).toNat)
    case atStart => exact ⟨0, by omega, rfl, Lib.hid (by simp [qOk]), rfl⟩
    case round =>
      obtain ⟨k, hk, rfl, hq, rfl⟩ := hrel
      by_cases hlt : k < N
      · obtain ⟨x, hx⟩ : ∃ x, ws[k]? = some x := ⟨_, List.getElem?_eq_getElem (by have := HN.out; omega)⟩
        obtain ⟨gp, offp, rfl, d0⟩ := HL.out k _ hx
        have HM := Lib.hid (List.mem_of_getElem? hx)
        have HT := Lib.hid (take_next hx)
        have hki : (k : Int) < (N : Int) := by omega
        clear hx
        by_cases hx0 : x < 0
        · have hd : decide (x < 0) = true := decide_eq_true hx0
          have HER : Hid (splitE t ws = 1) := Lib.hid (HE1.out (fun h => by have := h.1 x HM.out; omega))
          go_wp2
          go_ret2
          exact split_fail HER.out (by omega) (Adds.refl _)
        · have hd : decide (x < 0) = false := decide_eq_false hx0
          by_cases hx1 : 1000000000 < x
          · have hd1 : decide (1000000000 < x) = true := decide_eq_true hx1
            have HER : Hid (splitE t ws = 1) := Lib.hid (HE1.out (fun h => by have := h.1 x HM.out; omega))
            go_wp2
            go_ret2
            exact split_fail HER.out (by omega) (Adds.refl _)
          · have hd1 : decide (1000000000 < x) = false := decide_eq_false hx1
            have HQN : Hid (qOk (ws.take (k + 1))) := Lib.hid (by
              rw [HT.out]
              intro y hy
              rcases List.mem_append.1 hy with hy | hy
              · exact hq.out y hy
              · have := List.mem_singleton.1 hy
                omega)
            go_wp2
            exact ⟨⟨k + 1, by omega, by go_num, HQN, trivial⟩, by simp [intOf]; omega⟩
      · have hqk := hq.out
        rw [List.take_of_length_le (by have := HN.out; omega)] at hqk
        have HQ := Lib.hid hqk
        have hkN : k = N := by omega
        subst hkN
        clear hqk hq
        by_cases ht0 : t < 0
        · have hd : decide (t < 0) = true := decide_eq_true ht0
          have HER : Hid (splitE t ws = 1) := Lib.hid (HE1.out (fun h => by omega))
          go_wp2
          go_ret2
          exact split_fail HER.out (by omega) (Adds.refl _)
        · have hd : decide (t < 0) = false := decide_eq_false ht0
          obtain ⟨S, hS⟩ : ∃ S, S = ws.sum := ⟨_, rfl⟩
          have HS := HSM.out HQ.out
          have HBB := HBS.out HQ.out
          rw [← hS] at HS HBB HE1 HE0
          have HSC := Lib.hid HS
          have HBC := Lib.hid HBB
          clear HS HBB hS HSM HBS
          by_cases hSt : S < t
          · have hd1 : decide (S < t) = true := decide_eq_true hSt
            have HER : Hid (splitE t ws = 1) := Lib.hid (HE1.out (fun h => by omega))
            go_wp2_with (go_at_call 54; refine (HSC.out _ HL.out).mono ?_; rintro e w1 ⟨rfl, rfl⟩)
            go_ret2
            exact split_fail HER.out (by omega) (Adds.refl _)
          · have hd1 : decide (S < t) = false := decide_eq_false hSt
            have HER : Hid (splitE t ws = 0) := Lib.hid (HE0.out ⟨HQ.out, by omega, by omega⟩)
            have hcc : Hid (∀ W, At1 .i64 W p ws → Calls Try.prog 55 #[.int .i64 t, .slice p k cap] W (RowGot 2 (shareT t ws) W)) := Lib.hid (HBC.out (by omega) (by omega))
            go_wp2_with (first
              | (go_at_call 54; refine (HSC.out _ HL.out).mono ?_; rintro e w1 ⟨rfl, rfl⟩)
              | (go_at_call 55; refine (hcc.out _ HL.out).mono ?_; rintro e w2 ⟨g, cp, rfl, r1, r2, r3⟩; have R2 := Lib.hid r2; have R3 := Lib.hid r3; clear r1 r2 r3))
            go_ret2
            exact split_good HER.out R2.out R3.out
  · have HER : Hid (splitE t ws = 2) := Lib.hid (by unfold splitE; rw [if_pos (by omega)])
    have hN4 : (4096 : Int) < (N : Int) := by omega
    clear hL hNl hbig
    go_enter Try.func34, Try.ntmps34
    go_wp2
    go_ret2
    exact split_fail HER.out (by omega) (Adds.refl _)

set_option maxRecDepth 100000 in
set_option maxHeartbeats 2000000 in
theorem RSplit_any (t : Int) (p : Option Addr) (cap : Nat) (ws : List Int) (w : World) (hN : ws.length ≤ 40 ∨ 4096 < ws.length ∧ ws.length ≤ 5000) (hL : At1 .i64 w p ws) :
    Calls Try.prog 35 #[.int .i64 t, .slice p ws.length cap] w (SplitGot t ws w) := by
  obtain ⟨N, hNl⟩ : ∃ N, N = ws.length := ⟨_, rfl⟩
  have HN := Lib.hid hNl
  rw [← hNl] at hN ⊢
  rcases hN with h40 | hbig
  · have HL := Lib.hid hL
    have HBS : Hid (qOk ws → 0 ≤ t → t ≤ ws.sum → ∀ W, At1 .i64 W p ws → Calls Try.prog 52 #[.int .i64 t, .slice p N cap] W (RowGot 2 (shareT t ws) W)) := Lib.hid (fun hq h0 h1 W hW => by rw [hNl]; exact RShare_any t p cap ws W (by omega) hW hq h0 h1)
    have HE1 : Hid (¬ (qOk ws ∧ 0 ≤ t ∧ t ≤ ws.sum) → splitE t ws = 1) := Lib.hid (splitE_bad (by omega))
    have HE0 : Hid (qOk ws ∧ 0 ≤ t ∧ t ≤ ws.sum → splitE t ws = 0) := Lib.hid (splitE_ok (by omega))
    have hN5 : (N : Int) ≤ 40 := by omega
    clear hL hNl h40
    go_enter Try.func35, Try.ntmps35
    go_wp2
    go_loopw [6, 7] (fun v6 v7 wr => ∃ k : Nat, k ≤ N ∧ v7 = .int .i64 k ∧ v6 = .int .i64 (ws.take k).sum ∧ Hid (qOk (ws.take k)) ∧ w = wr) (fun _ v7 _ => N - (intOf v7).toNat)
    case atStart => exact ⟨0, by omega, rfl, by simp, Lib.hid (by simp [qOk]), rfl⟩
    case round =>
      obtain ⟨k, hk, rfl, rfl, hq, rfl⟩ := hrel
      have hsb := sum_take_bd _ hq.out
      have hlen : ((ws.take k).length : Int) ≤ 40 := by rw [List.length_take]; omega
      have hs0 : 0 ≤ (ws.take k).sum := hsb.1
      have hs1 : (ws.take k).sum ≤ 40000000000 := by have := hsb.2; omega
      clear hsb hlen
      by_cases hlt : k < N
      · obtain ⟨x, hx⟩ : ∃ x, ws[k]? = some x := ⟨_, List.getElem?_eq_getElem (by have := HN.out; omega)⟩
        obtain ⟨gp, offp, rfl, d0⟩ := HL.out k _ hx
        have HM := Lib.hid (List.mem_of_getElem? hx)
        have HT := Lib.hid (take_next hx)
        have HTS : Hid ((ws.take (k + 1)).sum = (ws.take k).sum + x) := Lib.hid (by rw [take_next hx, List.sum_append]; simp)
        have hki : (k : Int) < (N : Int) := by omega
        generalize (ws.take k).sum = sk at *
        clear hx
        by_cases hx0 : x < 0
        · have hd : decide (x < 0) = true := decide_eq_true hx0
          have HER : Hid (splitE t ws = 1) := Lib.hid (HE1.out (fun h => by have := h.1 x HM.out; omega))
          go_wp2
          go_ret2
          exact split_fail HER.out (by omega) (Adds.refl _)
        · have hd : decide (x < 0) = false := decide_eq_false hx0
          by_cases hx1 : 1000000000 < x
          · have hd1 : decide (1000000000 < x) = true := decide_eq_true hx1
            have HER : Hid (splitE t ws = 1) := Lib.hid (HE1.out (fun h => by have := h.1 x HM.out; omega))
            go_wp2
            go_ret2
            exact split_fail HER.out (by omega) (Adds.refl _)
          · have hd1 : decide (1000000000 < x) = false := decide_eq_false hx1
            have HQN : Hid (qOk (ws.take (k + 1))) := Lib.hid (by
              rw [HT.out]
              intro y hy
              rcases List.mem_append.1 hy with hy | hy
              · exact hq.out y hy
              · have := List.mem_singleton.1 hy
                omega)
            go_wp2
            exact ⟨⟨k + 1, by omega, by go_num, by rw [HTS.out], HQN, trivial⟩, by simp [intOf]; omega⟩
      · have hqk := hq.out
        rw [List.take_of_length_le (by have := HN.out; omega)] at hqk hs0 hs1 ⊢
        have HQ := Lib.hid hqk
        have hkN : k = N := by omega
        subst hkN
        clear hqk hq
        obtain ⟨S, hS⟩ : ∃ S, S = ws.sum := ⟨_, rfl⟩
        have HBB := HBS.out HQ.out
        rw [← hS] at HBB HE1 HE0 hs0 hs1 ⊢
        have HBC := Lib.hid HBB
        clear HBB hS HBS
        by_cases ht0 : t < 0
        · have hd : decide (t < 0) = true := decide_eq_true ht0
          have HER : Hid (splitE t ws = 1) := Lib.hid (HE1.out (fun h => by omega))
          go_wp2
          go_ret2
          exact split_fail HER.out (by omega) (Adds.refl _)
        · have hd : decide (t < 0) = false := decide_eq_false ht0
          by_cases hSt : S < t
          · have hd1 : decide (S < t) = true := decide_eq_true hSt
            have HER : Hid (splitE t ws = 1) := Lib.hid (HE1.out (fun h => by omega))
            go_wp2
            go_ret2
            exact split_fail HER.out (by omega) (Adds.refl _)
          · have hd1 : decide (S < t) = false := decide_eq_false hSt
            have HER : Hid (splitE t ws = 0) := Lib.hid (HE0.out ⟨HQ.out, by omega, by omega⟩)
            have hcc : Hid (∀ W, At1 .i64 W p ws → Calls Try.prog 52 #[.int .i64 t, .slice p k cap] W (RowGot 2 (shareT t ws) W)) := Lib.hid (HBC.out (by omega) (by omega))
            go_wp2_with (go_at_call 52; refine (hcc.out _ HL.out).mono ?_; rintro e w2 ⟨g, cp, rfl, r1, r2, r3⟩; have R2 := Lib.hid r2; have R3 := Lib.hid r3; clear r1 r2 r3)
            go_ret2
            exact split_good HER.out R2.out R3.out
  · have HER : Hid (splitE t ws = 2) := Lib.hid (by unfold splitE; rw [if_pos (by omega)])
    have hN4 : (4096 : Int) < (N : Int) := by omega
    clear hL hNl hbig
    go_enter Try.func35, Try.ntmps35
    go_wp2
    go_ret2
    exact split_fail HER.out (by omega) (Adds.refl _)

end Go.Proofs.Ytigpghmbeldakaa
