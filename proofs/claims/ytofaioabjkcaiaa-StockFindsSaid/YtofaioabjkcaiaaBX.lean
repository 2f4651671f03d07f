/- Enter of the reference. -/
import Derived.Test.YtofaioabjkcaiaaBW
import Derived.Test.YtofaioabjkcaiaaW
namespace Go.Proofs.Ytofaioabjkcaiaa
open Go.RowKit

theorem first_out {f : Int → Pk} {a : Int} : ∀ {d : Nat}, (f (a + d)).st ≠ 0 → ∃ k, a ≤ k ∧ k ≤ a + d ∧ (f k).st ≠ 0 ∧ ∀ j, a ≤ j → j < k → (f j).st = 0
  | 0, h => ⟨a, by omega, by omega, by simpa using h, fun j j1 j2 => by omega⟩
  | d + 1, h => by
    by_cases hd : ∃ i : Nat, i ≤ d ∧ (f (a + i)).st ≠ 0
    · obtain ⟨i, hi, hs⟩ := hd
      obtain ⟨k, k1, k2, k3, k4⟩ := first_out (d := i) hs
      exact ⟨k, k1, by omega, k3, k4⟩
    · refine ⟨a + ((d + 1 : Nat) : Int), by omega, by omega, h, fun j j1 j2 => ?_⟩
      by_cases hj : (f j).st = 0
      · exact hj
      · exact (hd ⟨(j - a).toNat, by omega, by rw [show a + ((j - a).toNat : Int) = j by omega]; exact hj⟩).elim

theorem out_err {f : Int → Pk} {a n k : Int} (k1 : a ≤ k) (k2 : k ≤ a + n - 1) (h : (f k).st ≠ 0) : FirstErr rfOut f a n 5 := by
  obtain ⟨j, j1, j2, j3, j4⟩ := first_out (f := f) (a := a) (d := (k - a).toNat) (by rw [show a + ((k - a).toNat : Int) = k by omega]; exact h)
  refine Or.inr ⟨j, j1, by omega, by simp [rfOut, j3], by omega, fun i i1 i2 => by simp [rfOut, j4 i i1 i2]⟩

/-- A run of the list lies partly within the pockets. -/
def hits (a n : Int) (x : Piece) : Prop := x.1 < a + n ∧ a ≤ x.2.1

theorem hit_err {f : Int → Pk} {l : List Piece} {a n : Int} {x : Piece} (h : Can f l 1000001) (hx : x ∈ l) (hh : hits a n x) (hn : 1 ≤ n) : FirstErr rfOut f a n 5 := by
  obtain ⟨h1, h2, h3, h4, h5⟩ := h.one x hx
  obtain ⟨k1, k2⟩ := hh
  exact out_err (k := max x.1 a) (by omega) (by omega) (by rw [h5 _ (by omega) (by omega)]; exact h4)

theorem miss_ok {f : Int → Pk} {l : List Piece} {a n : Int} (h : Can f l 1000001) (hv : validB a n = true) (hm : ∀ x ∈ l, ¬ hits a n x) : ∀ k, a ≤ k → k ≤ a + n - 1 → f k = pk0 := fun k k1 k2 => by
  obtain ⟨h1, h2, h3, h4⟩ := validB_iff.1 hv
  rcases h.all k (by omega) (by omega) with h0 | ⟨x, hx, x1, x2⟩
  · exact h0
  · exact (hm x hx ⟨by omega, by omega⟩).elim

theorem can_in {f : Int → Pk} {l : List Piece} {a n : Int} {t : Pk} (h : Can f l 1000001) (hv : validB a n = true) (ht : t.st ≠ 0) (hm : ∀ x ∈ l, ¬ hits a n x) :
    Can (chgF f a n (fun _ => t)) (chgGo a (a + n - 1) t 0 l [] false) 1000001 := by
  obtain ⟨h1, h2, h3, h4⟩ := validB_iff.1 hv
  exact can_enter (f := f) h1 (by omega) (by omega) ht (fun k k1 k2 => rfl) (miss_ok h hv hm) (can_nil _) (Int.le_refl _) (by omega) (fun h => by cases h) (fun _ => h1) h.rest

theorem runs_cells {w : World} {p : Option Addr} {n c : Nat} {l : List Piece} (h : RunsAt w (.slice p n c) l) : ∀ (i : Nat) (x : Piece), l[i]? = some x → ∃ g, p = some ⟨g, 0, none⟩ ∧ w.cell? ⟨g, i * 6, none⟩ = some (.int .i64 x.1) ∧ w.cell? ⟨g, i * 6 + 1, none⟩ = some (.int .i64 x.2.1) := fun i x hx => by
  obtain ⟨p', c', hv, hc⟩ := h
  simp only [Value.slice.injEq] at hv
  obtain ⟨g, hp, h0, h1, _⟩ := hc i x hx
  exact ⟨g, hv.1.trans hp, h0, h1⟩

/-- The world but for draws. -/
def Alike (w w' : World) : Prop := ∃ n, w' = w.drewN n

theorem miss_next {a n : Int} {L : List Piece} {j : Nat} {x : Piece} (h : ∀ y ∈ L.take j, ¬ hits a n y) (hx : L[j]? = some x) (hm : ¬ hits a n x) : ∀ y ∈ L.take (j + 1), ¬ hits a n y := by
  rw [take_next hx]
  intro y hy
  rcases List.mem_append.1 hy with hy | hy
  · exact h y hy
  · rw [List.mem_singleton.1 hy]; exact hm

set_option maxRecDepth 100000 in
set_option maxHeartbeats 4000000 in
theorem Enter_R (x : Value) (Ls : List (List Piece)) (f : Int → Pk) (a n m k : Int) (w : World) (h : RefAt w x Ls) (hC : Can f (Ls.getLastD []) 1000001) (hlen : Ls.length < 1000000) :
    Calls Try.prog 46 #[x, .agg #[.int .i64 a, .int .i64 n], .int .i64 m, .int .i64 k] w (RefGot f x Ls a n (inB 1000000 m && inB 1000 k) rfOut (fun _ => ⟨1, m, k, 0⟩) w) := by
  obtain ⟨p, nn, cap, rfl⟩ := h.form
  have HH := Lib.hid h
  obtain ⟨L, hL⟩ : ∃ L, L = Ls.getLastD [] := ⟨_, rfl⟩
  rw [← hL] at hC
  have HCAN := Lib.hid hC
  obtain ⟨N, hN⟩ : ∃ N, N = L.length := ⟨_, rfl⟩
  have hNl : N ≤ 1000000 := by rw [hN]; exact hC.len
  have HN := Lib.hid hN
  have hlast : Hid (∀ W, RefAt W (.agg #[.slice p nn cap]) Ls → Calls Try.prog 18 #[.agg #[.slice p nn cap]] W fun e w' => ∃ pl cl, e = .returned (.slice pl N cl) ∧ RunsAt w' (.slice pl N cl) L ∧ Adds W w') := Lib.hid (fun W hW => (RLast_any _ Ls W hW).mono fun e w' ⟨v, he, hr, hb⟩ => by
    rw [← hL] at hr
    obtain ⟨pl, cl, rfl, _⟩ := id hr
    rw [← hN] at he hr
    exact ⟨pl, cl, he, hr, hb⟩)
  clear h hC hL hN
  go_enter Try.func46, Try.ntmps46
  go_upto_region 1 with fail
  obtain ⟨bS, hbS⟩ : ∃ k, k = w.heap.size := ⟨_, rfl⟩
  obtain ⟨bP, hbP⟩ : ∃ k, k = w.heap.size + 1 := ⟨_, rfl⟩
  obtain ⟨bR, hbR⟩ : ∃ k, k = w.heap.size + 1 + 1 := ⟨_, rfl⟩
  obtain ⟨W3, hW3⟩ : ∃ V, V = ((w.alloc (.cells #[.slice p nn cap] 27)).alloc (.cells #[.int .i64 a, .int .i64 n] 32)).alloc (.cells #[.slice none 0 0] 27) := ⟨_, rfl⟩
  have A3 : Adds w W3 := by rw [hW3]; exact (((Adds.refl w).alloc _).alloc _).alloc _
  have XS : Box W3 bS #[.slice p nn cap] 27 := by rw [hW3, hbS]; exact Box.later (Box.new w _ _) (((Adds.refl _).alloc _).alloc _)
  have XP : Box W3 bP #[.int .i64 a, .int .i64 n] 32 := by rw [hW3, hbP]; exact Box.later (new_at (w := w.alloc (.cells #[.slice p nn cap] 27)) (by simp)) ((Adds.refl _).alloc _)
  have XR : Box W3 bR #[.slice none 0 0] 27 := by rw [hW3, hbR]; exact new_at (by simp)
  have hwR : w.heap.size ≤ bR := by omega
  have hRS : bR ≠ bS := by omega
  have hRP : bR ≠ bP := by omega
  rw [← hW3, ← hbR, ← hbP, ← hbS]
  have HA3 := Lib.hid A3
  have s0 := XS.cell 0
  have p0 := XP.cell 0
  have p1 := XP.cell 1
  have r0 := XR.cell 0
  have rf0 := XR.free 0
  simp only [List.getElem?_toArray, List.getElem?_cons_zero, List.getElem?_cons_succ] at s0 p0 p1 r0
  clear hW3 hbS hbP hbR A3 XS XP XR
  obtain ⟨vb, hvb⟩ : ∃ b, b = validB a n := ⟨_, rfl⟩
  obtain ⟨mb, hmb⟩ : ∃ b, b = inB 1000000 m := ⟨_, rfl⟩
  obtain ⟨kb, hkb⟩ : ∃ b, b = inB 1000 k := ⟨_, rfl⟩
  have HKB := Lib.hid hkb
  have HVB := Lib.hid hvb
  have HMB := Lib.hid hmb
  have hcv : Hid (∀ W, Calls Try.prog 93 #[.agg #[.int .i64 a, .int .i64 n]] W fun e w' => e = .returned (.bool vb) ∧ Adds W w') := Lib.hid (fun W => by rw [hvb]; exact RValid_any a n W)
  have hcm : Hid (∀ W, Calls Try.prog 69 #[.int .i64 m] W fun e w' => e = .returned (.bool mb) ∧ W = w') := Lib.hid (fun W => by rw [hmb]; exact Rlot_any m W)
  have hck : Hid (∀ W, Calls Try.prog 68 #[.int .i64 k] W fun e w' => e = .returned (.bool kb) ∧ W = w') := Lib.hid (fun W => by rw [hkb]; exact Rmember_any k W)
  clear hvb hmb hkb
  cases vb with
  | false =>
    go_wp2_with (first
      | (go_at_call 93; refine (hcv.out _).mono ?_; rintro e w4 ⟨rfl, hb4⟩; replace s0 := keep_cell hb4 s0; replace p0 := keep_cell hb4 p0; replace p1 := keep_cell hb4 p1; replace rf0 := keep_free hb4 r0 rf0; replace r0 := keep_cell hb4 r0; have HB4 := Lib.hid hb4; clear hb4)
      | (go_at_call 69; refine (hcm.out _).mono ?_; rintro e w' ⟨rfl, rfl⟩)
      | (go_at_call 68; refine (hck.out _).mono ?_; rintro e w' ⟨rfl, rfl⟩))
    refine bodyPost_ret (v := .tuple #[.agg #[.slice p nn cap], .int .i64 1]) ?_ rfl (Or.inl ⟨?_, rfl, ?_⟩)
    · simp [results, Try.results46, go_sem, r0]
    · have h1 := HVB.out
      have h2 := HMB.out
      have h3 := HKB.out
      simp [← h1, ← h2, ← h3]
    · exact (HA3.out.trans HB4.out).set hwR _
  | true =>
    cases mb with
    | false =>
      go_wp2_with (first
        | (go_at_call 93; refine (hcv.out _).mono ?_; rintro e w4 ⟨rfl, hb4⟩; replace s0 := keep_cell hb4 s0; replace p0 := keep_cell hb4 p0; replace p1 := keep_cell hb4 p1; replace rf0 := keep_free hb4 r0 rf0; replace r0 := keep_cell hb4 r0; have HB4 := Lib.hid hb4; clear hb4)
        | (go_at_call 69; refine (hcm.out _).mono ?_; rintro e w' ⟨rfl, rfl⟩)
        | (go_at_call 68; refine (hck.out _).mono ?_; rintro e w' ⟨rfl, rfl⟩))
      refine bodyPost_ret (v := .tuple #[.agg #[.slice p nn cap], .int .i64 1]) ?_ rfl (Or.inl ⟨?_, rfl, ?_⟩)
      · simp [results, Try.results46, go_sem, r0]
      · have h1 := HVB.out
        have h2 := HMB.out
        have h3 := HKB.out
        simp [← h1, ← h2, ← h3]
      · exact (HA3.out.trans HB4.out).set hwR _
    | true =>
      cases kb with
      | false =>
        go_wp2_with (first
          | (go_at_call 93; refine (hcv.out _).mono ?_; rintro e w4 ⟨rfl, hb4⟩; replace s0 := keep_cell hb4 s0; replace p0 := keep_cell hb4 p0; replace p1 := keep_cell hb4 p1; replace rf0 := keep_free hb4 r0 rf0; replace r0 := keep_cell hb4 r0; have HB4 := Lib.hid hb4; clear hb4)
          | (go_at_call 69; refine (hcm.out _).mono ?_; rintro e w' ⟨rfl, rfl⟩)
          | (go_at_call 68; refine (hck.out _).mono ?_; rintro e w' ⟨rfl, rfl⟩))
        refine bodyPost_ret (v := .tuple #[.agg #[.slice p nn cap], .int .i64 1]) ?_ rfl (Or.inl ⟨?_, rfl, ?_⟩)
        · simp [results, Try.results46, go_sem, r0]
        · have h1 := HVB.out
          have h2 := HMB.out
          have h3 := HKB.out
          simp [← h1, ← h2, ← h3]
        · exact (HA3.out.trans HB4.out).set hwR _
      | true =>
        go_upto_region 3 with (first
          | (go_at_call 93; refine (hcv.out _).mono ?_; rintro e w4 ⟨rfl, hb4⟩; replace s0 := keep_cell hb4 s0; replace p0 := keep_cell hb4 p0; replace p1 := keep_cell hb4 p1; replace rf0 := keep_free hb4 r0 rf0; replace r0 := keep_cell hb4 r0; have HB4 := Lib.hid hb4; clear hb4)
          | (go_at_call 69; refine (hcm.out _).mono ?_; rintro e w' ⟨rfl, rfl⟩)
          | (go_at_call 68; refine (hck.out _).mono ?_; rintro e w' ⟨rfl, rfl⟩))
        have hval : validB a n = true := HVB.out.symm
        obtain ⟨hv1, hv2, hv3, hv4⟩ := validB_iff.1 hval
        have HVAL := Lib.hid hval
        clear hval
        go_upto_region 4 with (go_at_call 18; refine (hlast.out _ (HH.out.later (HA3.out.trans HB4.out))).mono ?_; rintro e w5 ⟨pl, cl, rfl, hr5, hb5⟩; replace s0 := keep_cell hb5 s0; replace p0 := keep_cell hb5 p0; replace p1 := keep_cell hb5 p1; replace rf0 := keep_free hb5 r0 rf0; replace r0 := keep_cell hb5 r0; have HB5 := Lib.hid (HA3.out.trans (HB4.out.trans hb5)); have HR5 := Lib.hid hr5; clear hr5 hb5)
        have HCL := Lib.hid (runs_cells HR5.out)
        have HHM : Hid (RefAt w5 (.agg #[.slice p nn cap]) Ls) := Lib.hid (HH.out.later HB5.out)
        go_wp2_with fail
        go_loopw [11] (fun v11 wr => ∃ j : Nat, j ≤ N ∧ v11 = .int .i64 j ∧ Hid (∀ y ∈ L.take j, ¬ hits a n y) ∧ Hid (Adds w5 wr)) (fun v11 _ => N - (intOf v11).toNat)
        case atStart => exact ⟨0, by omega, rfl, Lib.hid (fun y hy => by simp at hy), Lib.hid (Adds.refl _)⟩
        case round =>
          obtain ⟨j, hj, rfl, hmiss, hal⟩ := hrel
          have A5 : Adds w5 wr := hal.out
          replace s0 := keep_cell A5 s0
          replace p0 := keep_cell A5 p0
          replace p1 := keep_cell A5 p1
          replace rf0 := keep_free A5 r0 rf0
          replace r0 := keep_cell A5 r0
          have HA5 := Lib.hid A5
          clear A5
          by_cases hlt : j < N
          · obtain ⟨⟨xa, xc, xs, xl, xo, xh⟩, hx⟩ : ∃ y, L[j]? = some y := ⟨_, List.getElem?_eq_getElem (by have := HN.out; omega)⟩
            obtain ⟨gg, rfl, c0, c1⟩ := HCL.out j _ hx
            replace c0 := keep_cell HA5.out c0
            replace c1 := keep_cell HA5.out c1
            simp only at c0 c1
            have HX := Lib.hid hx
            clear hx
            by_cases h1 : xa < a + n
            · have d1 : decide (xa < a + n) = true := decide_eq_true h1
              by_cases h2 : a ≤ xc
              · have HIT := Lib.hid (show hits a n (xa, xc, (⟨xs, xl, xo, xh⟩ : Pk)) from ⟨h1, h2⟩)
                go_upto_region 7 with fail
                go_quiet (fail)
                go_wp2
                refine bodyPost_ret (v := .tuple #[.agg #[.slice p nn cap], .int .i64 5]) ?_ rfl (Or.inr ⟨?_, 5, hit_err HCAN.out (List.mem_of_getElem? HX.out) HIT.out (by omega), Or.inl ⟨by omega, rfl, ?_⟩⟩)
                · simp [results, Try.results46, go_sem, r0]
                · have h1 := HVB.out
                  have h2 := HMB.out
                  have h3 := HKB.out
                  simp [← h1, ← h2, ← h3]
                · exact ((HB5.out.trans HA5.out).drewN _).set hwR _
              · have HMS := Lib.hid (show ¬ hits a n (xa, xc, (⟨xs, xl, xo, xh⟩ : Pk)) from fun h => h2 h.2)
                have h2' : xc < a := by omega
                have d2 : decide (a ≤ xc) = false := decide_eq_false h2
                go_upto_region 7 with fail
                go_quiet (fail)
                go_wp2
                refine ⟨⟨j + 1, by omega, by go_num, Lib.hid (miss_next hmiss.out HX.out HMS.out), Lib.hid (HA5.out.drewN _)⟩, by simp [intOf]; omega⟩
            · have HMS := Lib.hid (show ¬ hits a n (xa, xc, (⟨xs, xl, xo, xh⟩ : Pk)) from fun h => h1 h.1)
              have h1' : a + n ≤ xa := by omega
              have d1 : decide (xa < a + n) = false := decide_eq_false h1
              go_upto_region 7 with fail
              go_quiet (fail)
              go_wp2
              refine ⟨⟨j + 1, by omega, by go_num, Lib.hid (miss_next hmiss.out HX.out HMS.out), Lib.hid (HA5.out.drewN _)⟩, by simp [intOf]; omega⟩
          · have hfull : L.take j = L := List.take_of_length_le (by have := HN.out; omega)
            rw [hfull] at hmiss
            clear hfull
            go_upto_region 9 with fail
            refine wp_region_held_drew (S := (fun w' => w'.cell? ⟨bS, 0, none⟩ = some (.slice p nn cap) ∧ w'.cell? ⟨bP, 0, none⟩ = some (.int .i64 a) ∧ w'.cell? ⟨bP, 1, none⟩ = some (.int .i64 n))) (by kernel_rfl) ⟨s0, p0, p1⟩ (fun hHeld => ?_)
            refine wpAnyH_take (i := 0) (oi := ⟨some 56, _, _, _, _, _⟩) (v := ?v1) rfl (by kernel_rfl) (by kernel_rfl) (by kernel_rfl) (fun _ _ _ h => h) (Or.inl ⟨by rfl, ?hy1⟩) (by assumption) ?rest1
            case hy1 => (intro w hSw; (try dsimp only at hSw); go_simp; try with_reducible rfl)
            try simp only [Act.put, List.setIfInBounds_toArray, List.set_cons_zero, List.set_cons_succ]
            refine wpAnyH_take (i := 1) (oi := ⟨some 57, _, _, _, _, _⟩) (v := ?v2) rfl (by kernel_rfl) (by kernel_rfl) (by kernel_rfl) (fun _ _ _ h => h) (Or.inl ⟨by rfl, ?hy2⟩) (by assumption) ?rest2
            case hy2 => (intro w hSw; (try dsimp only at hSw); go_simp; try with_reducible rfl)
            try simp only [Act.put, List.setIfInBounds_toArray, List.set_cons_zero, List.set_cons_succ]
            refine wpAnyH_take (i := 2) (oi := ⟨some 58, _, _, _, _, _⟩) (v := ?v3) rfl (by kernel_rfl) (by kernel_rfl) (by kernel_rfl) (fun _ _ _ h => h) (Or.inl ⟨by rfl, ?hy3⟩) (by assumption) ?rest3
            case hy3 => (intro w hSw; (try dsimp only at hSw); go_simp; try with_reducible rfl)
            try simp only [Act.put, List.setIfInBounds_toArray, List.set_cons_zero, List.set_cons_succ]
            refine wpAnyH_take (i := 3) (oi := ⟨some 59, _, _, _, _, _⟩) (v := ?v4) rfl (by kernel_rfl) (by kernel_rfl) (by kernel_rfl) (fun _ _ _ h => h) (Or.inl ⟨by rfl, ?hy4⟩) (by assumption) ?rest4
            case hy4 => (intro w hSw; (try dsimp only at hSw); go_simp; try with_reducible rfl)
            try simp only [Act.put, List.setIfInBounds_toArray, List.set_cons_zero, List.set_cons_succ]
            refine wpAnyH_take (i := 4) (oi := ⟨some 60, _, _, _, _, _⟩) (v := ?v5) rfl (by kernel_rfl) (by kernel_rfl) (by kernel_rfl) (fun _ _ _ h => h) (Or.inl ⟨by rfl, ?hy5⟩) (by assumption) ?rest5
            case hy5 => (intro w hSw; (try dsimp only at hSw); go_simp; try with_reducible rfl)
            try simp only [Act.put, List.setIfInBounds_toArray, List.set_cons_zero, List.set_cons_succ]
            refine wpAnyH_take (i := 5) (oi := ⟨some 61, _, _, _, _, _⟩) (v := ?v6) rfl (by kernel_rfl) (by kernel_rfl) (by kernel_rfl) (fun _ _ _ h => h) (Or.inl ⟨by rfl, ?hy6⟩) (by assumption) ?rest6
            case hy6 => (intro w hSw; (try dsimp only at hSw); go_simp; try with_reducible rfl)
            try simp only [Act.put, List.setIfInBounds_toArray, List.set_cons_zero, List.set_cons_succ]
            refine wpAnyH_ready (rs := [6]) (by kernel_rfl) (by simp) ?_
            refine AllReadyH.cons (o := ⟨some 62, _, _, _, _, _⟩) rfl (fun K hK => ?_) AllReadyH.nil
            go_simp
            refine (change_R _ L a n 0 ⟨1, m, k, 0⟩ _ ((HR5.out.later HA5.out).later (Adds.refl _).drew) (can_bd HCAN.out) HCAN.out.len (by omega) (by omega) (by omega) (by omega) (by omega) (by omega)).mono ?_
            rintro e w8 ⟨v8, rfl, hr8, hb8'⟩
            have hb8 : Adds wr w8 := (Adds.refl wr).drew.trans hb8'
            replace s0 := keep_cell hb8 s0
            replace p0 := keep_cell hb8 p0
            replace p1 := keep_cell hb8 p1
            replace rf0 := keep_free hb8 r0 rf0
            replace r0 := keep_cell hb8 r0
            refine hK.out _ _ ⟨s0, p0, p1⟩ (fun hHeld => ?_)
            clear hK K
            try simp only [Act.put, List.setIfInBounds_toArray, List.set_cons_zero, List.set_cons_succ]
            refine wpAnyH_ready (rs := [7]) (by kernel_rfl) (by simp) ?_
            refine AllReadyH.cons (o := ⟨some 63, _, _, _, _, _⟩) rfl (fun K hK => ?_) AllReadyH.nil
            go_simp
            refine (Rnext_any _ v8 _ Ls _ ((HHM.out.later HA5.out).later hb8) hr8 (by omega)).mono ?_
            rintro e w9 ⟨g9, n9, c9, rfl, hx9, hg9, hb9⟩
            have hg9R : g9 ≠ bR := by have := cell_lt r0; omega
            have HX9 := Lib.hid hx9
            clear hx9
            replace s0 := keep_cell hb9 s0
            replace p0 := keep_cell hb9 p0
            replace p1 := keep_cell hb9 p1
            replace rf0 := keep_free hb9 r0 rf0
            replace r0 := keep_cell hb9 r0
            refine hK.out _ _ ⟨s0, p0, p1⟩ (fun hHeld => ?_)
            clear hK K
            try simp only [Act.put, List.setIfInBounds_toArray, List.set_cons_zero, List.set_cons_succ]
            refine wpAnyH_ready (rs := [8]) (by kernel_rfl) (by simp) ?_
            refine AllReadyH.cons (o := ⟨none, _, _, _, _, _⟩) rfl (fun K hK => ?_) AllReadyH.nil
            go_simp
            have k0 : (w9.setCell ⟨bR, 0, none⟩ (.slice (some ⟨g9, 0, none⟩) n9 c9)).cell? ⟨bS, 0, none⟩ = some (.slice p nn cap) := (World.cell?_setCell_far _ _ _ _ (by exact hRS)).trans s0
            have k1 : (w9.setCell ⟨bR, 0, none⟩ (.slice (some ⟨g9, 0, none⟩) n9 c9)).cell? ⟨bP, 0, none⟩ = some (.int .i64 a) := (World.cell?_setCell_far _ _ _ _ (by exact hRP)).trans p0
            have k2 : (w9.setCell ⟨bR, 0, none⟩ (.slice (some ⟨g9, 0, none⟩) n9 c9)).cell? ⟨bP, 1, none⟩ = some (.int .i64 n) := (World.cell?_setCell_far _ _ _ _ (by exact hRP)).trans p1
            refine hK.out _ _ ⟨k0, k1, k2⟩ (fun hHeld => ?_)
            clear hK K
            try simp only [Act.put, List.setIfInBounds_toArray, List.set_cons_zero, List.set_cons_succ]
            refine wpAnyH_take (i := 9) (oi := ⟨some 9, _, _, _, _, _⟩) (v := ?v7) rfl (by kernel_rfl) (by kernel_rfl) (by kernel_rfl) (fun _ _ _ h => h) (Or.inl ⟨by rfl, ?hy7⟩) (by assumption) ?rest7
            case hy7 => (intro w hSw; (try dsimp only at hSw); go_simp; try with_reducible rfl)
            try simp only [Act.put, List.setIfInBounds_toArray, List.set_cons_zero, List.set_cons_succ]
            refine wpAnyH_done (by kernel_rfl) ?_ _
            clear hHeld
            go_wp2_with fail
            have AA : Adds w (w9.setCell ⟨bR, 0, none⟩ (.slice (some ⟨g9, 0, none⟩) n9 c9)) := (((HB5.out.trans HA5.out).trans hb8).trans hb9).set hwR _
            have hz : FirstErr rfOut f a n 0 := Or.inl ⟨rfl, fun j j1 j2 => by rw [miss_ok HCAN.out HVAL.out hmiss.out j j1 j2]; rfl⟩
            refine bodyPost_ret (v := .tuple #[.agg #[.slice (some ⟨g9, 0, none⟩) n9 c9], .int .i64 0]) ?_ rfl (Or.inr ⟨?_, 0, hz, Or.inr ⟨rfl, g9, n9, c9, _, rfl, ?_, ?_, can_in HCAN.out HVAL.out (by simp) hmiss.out, AA⟩⟩)
            · simp [results, Try.results46, go_sem, r0]
            · have h1 := HVB.out
              have h2 := HMB.out
              have h3 := HKB.out
              simp [← h1, ← h2, ← h3]
            · have z1 := HB5.out.size
              have z2 := HA5.out.size
              have z3 := hb8.size
              omega
            · exact HX9.out.put hg9R r0
end Go.Proofs.Ytofaioabjkcaiaa
