/- Move, Pledge, Release, Seize and Leave of the reference. -/
import Derived.Test.YtofaioabjkcaiaaBU
import Derived.Test.YtofaioabjkcaiaaBV
namespace Go.Proofs.Ytofaioabjkcaiaa
open Go.RowKit

/-- The pockets behind a change. -/
def chgF (f : Int → Pk) (a n : Int) (F : Pk → Pk) (k : Int) : Pk := if a ≤ k ∧ k ≤ a + n - 1 then F (f k) else f k

/-- What a change of the reference gives. -/
def RefGot (f : Int → Pk) (x : Value) (Ls : List (List Piece)) (a n : Int) (r : Bool) (rf : Pk → Int) (F : Pk → Pk) (w : World) (e : Ending) (w' : World) : Prop :=
  ((r && validB a n) = false ∧ e = .returned (.tuple #[x, .int .i64 1]) ∧ Adds w w') ∨
  ((r && validB a n) = true ∧ ∃ c, FirstErr rf f a n c ∧ ((c ≠ 0 ∧ e = .returned (.tuple #[x, .int .i64 c]) ∧ Adds w w') ∨
    (c = 0 ∧ ∃ g n' c' L', e = .returned (.tuple #[.agg #[.slice (some ⟨g, 0, none⟩) n' c'], .int .i64 0]) ∧ w.heap.size ≤ g ∧ RefAt w' (.agg #[.slice (some ⟨g, 0, none⟩) n' c']) (Ls ++ [L']) ∧ Can (chgF f a n F) L' 1000001 ∧ Adds w w')))

theorem validB_iff {a n : Int} : validB a n = true ↔ 1 ≤ a ∧ a ≤ 1000000 ∧ 1 ≤ n ∧ n ≤ 1000000 - a + 1 := by unfold validB; simp

theorem can_what {f : Int → Pk} {l : List Piece} {a n what : Int} {t : Pk} {rf : Pk → Int} (h : Can f l 1000001) (hv : validB a n = true) (hw : what ≠ 0) (hrf : ∀ q, rf q = 0 → q.st ≠ 0) (hf : FirstErr rf f a n 0) :
    Can (chgF f a n (fun q => whatF q t what)) (chgGo a (a + n - 1) t what l [] false) 1000001 := by
  obtain ⟨h1, h2, h3, h4⟩ := validB_iff.1 hv
  refine can_chg (f := f) (by omega) hw (fun k k1 k2 => rfl) (fun k k1 k2 => ?_) (can_nil _) (Int.le_refl _) (by omega) h.rest
  rcases hf with ⟨_, hf⟩ | ⟨j, _, _, hj, hj0, _⟩
  · exact hrf _ (hf k k1 (by omega))
  · exact (hj0 rfl).elim

theorem can_bd {f : Int → Pk} {l : List Piece} (h : Can f l 1000001) : ∀ x ∈ l, 1 ≤ x.1 ∧ x.1 ≤ x.2.1 ∧ x.2.1 ≤ 1000000 := fun x hx => by
  obtain ⟨h1, h2, h3, _⟩ := h.one x hx; exact ⟨h1, h2, by omega⟩

theorem rfFree_st {m : Int} (q : Pk) (h : rfFree m q = 0) : q.st ≠ 0 := by
  unfold rfFree at h; split at h
  · omega
  · omega
theorem rfHeld_st {m : Int} (q : Pk) (h : rfHeld m q = 0) : q.st ≠ 0 := by
  unfold rfHeld at h; split at h
  · omega
  · omega

theorem RefAt.form {w : World} {x : Value} {Ls : List (List Piece)} (h : RefAt w x Ls) : ∃ p n cap, x = .agg #[.slice p n cap] := by
  obtain ⟨p, cap, vs, hx, _⟩ := h; exact ⟨p, vs.length, cap, hx⟩

theorem keep_free {w w' : World} (h : Adds w w') {b o : Nat} {v : Value} (hc : w.cell? ⟨b, o, none⟩ = some v) (hf : w.frozen? ⟨b, o, none⟩ = false) : w'.frozen? ⟨b, o, none⟩ = false := by
  have hb := h.block b (cell_lt hc)
  unfold World.frozen? at hf ⊢
  simp only at hf ⊢
  rw [hb]
  exact hf

set_option maxRecDepth 100000 in
set_option maxHeartbeats 4000000 in
theorem Move_R (x : Value) (Ls : List (List Piece)) (f : Int → Pk) (a n m k : Int) (w : World) (h : RefAt w x Ls) (hC : Can f (Ls.getLastD []) 1000001) (hlen : Ls.length < 1000000) :
    Calls Try.prog 47 #[x, .agg #[.int .i64 a, .int .i64 n], .int .i64 m, .int .i64 k] w (RefGot f x Ls a n ((inB 1000 m && inB 1000 k) && (m != k)) (rfFree m) (fun q => whatF q ⟨0, 0, k, 0⟩ 1) w) := by
  obtain ⟨p, nn, cap, rfl⟩ := h.form
  have HH := Lib.hid h
  have HCAN := Lib.hid hC
  clear h hC
  go_enter Try.func47, Try.ntmps47
  go_upto_region 1 with fail
  obtain ⟨bS, hbS⟩ : ∃ k, k = w.heap.size := ⟨_, rfl⟩
  obtain ⟨bP, hbP⟩ : ∃ k, k = w.heap.size + 1 := ⟨_, rfl⟩
  obtain ⟨bR, hbR⟩ : ∃ k, k = w.heap.size + 1 + 1 := ⟨_, rfl⟩
  obtain ⟨W3, hW3⟩ : ∃ V, V = ((w.alloc (.cells #[.slice p nn cap] 27)).alloc (.cells #[.int .i64 a, .int .i64 n] 32)).alloc (.cells #[.slice none 0 0] 27) := ⟨_, rfl⟩
  have A3 : Adds w W3 := by rw [hW3]; exact (((Adds.refl w).alloc _).alloc _).alloc _
  have XS : Box W3 bS #[.slice p nn cap] 27 := by rw [hW3, hbS]; exact Box.later (Box.new w _ _) (((Adds.refl _).alloc _).alloc _)
  have XP : Box W3 bP #[.int .i64 a, .int .i64 n] 32 := by rw [hW3, hbP]; exact Box.later (new_at (w := w.alloc (.cells #[.slice p nn cap] 27)) (by simp)) ((Adds.refl _).alloc _)
  have XR : Box W3 bR #[.slice none 0 0] 27 := by rw [hW3, hbR]; exact new_at (by simp)
  have hwR : w.heap.size ≤ bR := by omega
  have hRS : bR ≠ bS := by omega
  have hRP : bR ≠ bP := by omega
  rw [← hW3, ← hbR, ← hbP, ← hbS]
  have HA3 := Lib.hid A3
  have HXS := Lib.hid XS
  have HXP := Lib.hid XP
  have HXR := Lib.hid XR
  have s0 := XS.cell 0
  have p0 := XP.cell 0
  have p1 := XP.cell 1
  have r0 := XR.cell 0
  have rf0 := XR.free 0
  simp only [List.getElem?_toArray, List.getElem?_cons_zero, List.getElem?_cons_succ] at s0 p0 p1 r0
  have HHL : Hid (RefAt W3 (.agg #[.slice p nn cap]) Ls) := Lib.hid (HH.out.later A3)
  clear hW3 hbS hbP hbR A3 XS XP XR
  obtain ⟨vb, hvb⟩ : ∃ b, b = validB a n := ⟨_, rfl⟩
  obtain ⟨mb, hmb⟩ : ∃ b, b = inB 1000 m := ⟨_, rfl⟩
  obtain ⟨kb, hkb⟩ : ∃ b, b = inB 1000 k := ⟨_, rfl⟩
  have HKB := Lib.hid hkb
  have HVB := Lib.hid hvb
  have HMB := Lib.hid hmb
  have hcv : Hid (∀ W, Calls Try.prog 93 #[.agg #[.int .i64 a, .int .i64 n]] W fun e w' => e = .returned (.bool vb) ∧ Adds W w') := Lib.hid (fun W => by rw [hvb]; exact RValid_any a n W)
  have hcm : Hid (∀ W, Calls Try.prog 68 #[.int .i64 m] W fun e w' => e = .returned (.bool mb) ∧ W = w') := Lib.hid (fun W => by rw [hmb]; exact Rmember_any m W)
  have hck : Hid (∀ W, Calls Try.prog 68 #[.int .i64 k] W fun e w' => e = .returned (.bool kb) ∧ W = w') := Lib.hid (fun W => by rw [hkb]; exact Rmember_any k W)
  clear hvb hmb hkb
  cases vb with
  | false =>
    go_wp2_with (first
      | (go_at_call 93; refine (hcv.out _).mono ?_; rintro e w4 ⟨rfl, hb4⟩; replace s0 := keep_cell hb4 s0; replace p0 := keep_cell hb4 p0; replace p1 := keep_cell hb4 p1; replace rf0 := keep_free hb4 r0 rf0; replace r0 := keep_cell hb4 r0; have HB4 := Lib.hid hb4; clear hb4)
      | (go_at_call 68; refine (hcm.out _).mono ?_; rintro e w' ⟨rfl, rfl⟩)
      | (go_at_call 68; refine (hck.out _).mono ?_; rintro e w' ⟨rfl, rfl⟩))
    refine bodyPost_ret (v := .tuple #[.agg #[.slice p nn cap], .int .i64 1]) ?_ rfl (Or.inl ⟨?_, rfl, ?_⟩)
    · simp [results, Try.results47, go_sem, r0]
    · have h1 := HVB.out
      have h2 := HMB.out
      have h3 := HKB.out
      simp [← h1, ← h2, ← h3]
    · exact (HA3.out.trans HB4.out).set hwR _
  | true =>
    cases mb with
    | false =>
      go_wp2_with (first
        | (go_at_call 93; refine (hcv.out _).mono ?_; rintro e w4 ⟨rfl, hb4⟩; replace s0 := keep_cell hb4 s0; replace p0 := keep_cell hb4 p0; replace p1 := keep_cell hb4 p1; replace rf0 := keep_free hb4 r0 rf0; replace r0 := keep_cell hb4 r0; have HB4 := Lib.hid hb4; clear hb4)
        | (go_at_call 68; refine (hcm.out _).mono ?_; rintro e w' ⟨rfl, rfl⟩)
        | (go_at_call 68; refine (hck.out _).mono ?_; rintro e w' ⟨rfl, rfl⟩))
      refine bodyPost_ret (v := .tuple #[.agg #[.slice p nn cap], .int .i64 1]) ?_ rfl (Or.inl ⟨?_, rfl, ?_⟩)
      · simp [results, Try.results47, go_sem, r0]
      · have h1 := HVB.out
        have h2 := HMB.out
        have h3 := HKB.out
        simp [← h1, ← h2, ← h3]
      · exact (HA3.out.trans HB4.out).set hwR _
    | true =>
      cases kb with
      | false =>
        go_wp2_with (first
          | (go_at_call 93; refine (hcv.out _).mono ?_; rintro e w4 ⟨rfl, hb4⟩; replace s0 := keep_cell hb4 s0; replace p0 := keep_cell hb4 p0; replace p1 := keep_cell hb4 p1; replace rf0 := keep_free hb4 r0 rf0; replace r0 := keep_cell hb4 r0; have HB4 := Lib.hid hb4; clear hb4)
          | (go_at_call 68; refine (hcm.out _).mono ?_; rintro e w' ⟨rfl, rfl⟩)
          | (go_at_call 68; refine (hck.out _).mono ?_; rintro e w' ⟨rfl, rfl⟩))
        refine bodyPost_ret (v := .tuple #[.agg #[.slice p nn cap], .int .i64 1]) ?_ rfl (Or.inl ⟨?_, rfl, ?_⟩)
        · simp [results, Try.results47, go_sem, r0]
        · have h1 := HVB.out
          have h2 := HMB.out
          have h3 := HKB.out
          simp [← h1, ← h2, ← h3]
        · exact (HA3.out.trans HB4.out).set hwR _
      | true =>
        by_cases hmk : m = k
        · have hmk' : (m == k) = true := beq_iff_eq.2 hmk
          have HEB := Lib.hid (show (m != k) = false by simp [hmk])
          clear hmk
          go_wp2_with (first
            | (go_at_call 93; refine (hcv.out _).mono ?_; rintro e w4 ⟨rfl, hb4⟩; replace s0 := keep_cell hb4 s0; replace p0 := keep_cell hb4 p0; replace p1 := keep_cell hb4 p1; replace rf0 := keep_free hb4 r0 rf0; replace r0 := keep_cell hb4 r0; have HB4 := Lib.hid hb4; clear hb4)
            | (go_at_call 68; refine (hcm.out _).mono ?_; rintro e w' ⟨rfl, rfl⟩)
            | (go_at_call 68; refine (hck.out _).mono ?_; rintro e w' ⟨rfl, rfl⟩))
          refine bodyPost_ret (v := .tuple #[.agg #[.slice p nn cap], .int .i64 1]) ?_ rfl (Or.inl ⟨?_, rfl, ?_⟩)
          · simp [results, Try.results47, go_sem, r0]
          · have h1 := HVB.out
            have h2 := HMB.out
            have h3 := HKB.out
            have h4 := HEB.out
            simp [← h1, ← h2, ← h3, h4]
          · exact (HA3.out.trans HB4.out).set hwR _
        · have hmk' : (m == k) = false := beq_eq_false_iff_ne.2 hmk
          have HEB := Lib.hid (show (m != k) = true by simp [hmk])
          clear hmk
          go_upto_region 3 with (first
            | (go_at_call 93; refine (hcv.out _).mono ?_; rintro e w4 ⟨rfl, hb4⟩; replace s0 := keep_cell hb4 s0; replace p0 := keep_cell hb4 p0; replace p1 := keep_cell hb4 p1; replace rf0 := keep_free hb4 r0 rf0; replace r0 := keep_cell hb4 r0; have HB4 := Lib.hid hb4; clear hb4)
            | (go_at_call 68; refine (hcm.out _).mono ?_; rintro e w' ⟨rfl, rfl⟩)
            | (go_at_call 68; refine (hck.out _).mono ?_; rintro e w' ⟨rfl, rfl⟩))
          have hval : validB a n = true := HVB.out.symm
          obtain ⟨hv1, hv2, hv3, hv4⟩ := validB_iff.1 hval
          have HVAL := Lib.hid hval
          clear hval
          have hb4 := HB4.out
          refine wp_region_held_drew (S := (fun w' => w'.cell? ⟨bS, 0, none⟩ = some (.slice p nn cap) ∧ w'.cell? ⟨bP, 0, none⟩ = some (.int .i64 a) ∧ w'.cell? ⟨bP, 1, none⟩ = some (.int .i64 n))) (by kernel_rfl) ⟨s0, p0, p1⟩ (fun hHeld => ?_)
          refine wpAnyH_take (i := 0) (oi := ⟨some 30, _, _, _, _, _⟩) (v := ?v1) rfl (by kernel_rfl) (by kernel_rfl) (by kernel_rfl) (fun _ _ _ h => h) (Or.inl ⟨by rfl, ?hy1⟩) (by assumption) ?rest1
          case hy1 => (intro w hSw; (try dsimp only at hSw); go_simp; try with_reducible rfl)
          try simp only [Act.put, List.setIfInBounds_toArray, List.set_cons_zero, List.set_cons_succ]
          refine wpAnyH_take (i := 2) (oi := ⟨some 32, _, _, _, _, _⟩) (v := ?v2) rfl (by kernel_rfl) (by kernel_rfl) (by kernel_rfl) (fun _ _ _ h => h) (Or.inl ⟨by rfl, ?hy2⟩) (by assumption) ?rest2
          case hy2 => (intro w hSw; (try dsimp only at hSw); go_simp; try with_reducible rfl)
          try simp only [Act.put, List.setIfInBounds_toArray, List.set_cons_zero, List.set_cons_succ]
          refine wpAnyH_take (i := 3) (oi := ⟨some 33, _, _, _, _, _⟩) (v := ?v3) rfl (by kernel_rfl) (by kernel_rfl) (by kernel_rfl) (fun _ _ _ h => h) (Or.inl ⟨by rfl, ?hy3⟩) (by assumption) ?rest3
          case hy3 => (intro w hSw; (try dsimp only at hSw); go_simp; try with_reducible rfl)
          try simp only [Act.put, List.setIfInBounds_toArray, List.set_cons_zero, List.set_cons_succ]
          refine wpAnyH_ready (rs := [1]) (by kernel_rfl) (by simp) ?_
          refine AllReadyH.cons (o := ⟨some 31, _, _, _, _, _⟩) rfl (fun K hK => ?_) AllReadyH.nil
          go_simp
          refine (RLast_any _ Ls _ ((HHL.out.later hb4).later (Adds.refl _).drew)).mono ?_
          rintro e w5 ⟨v5, rfl, hr5, hb5'⟩
          have hb5 : Adds w4 w5 := (Adds.refl w4).drew.trans hb5'
          replace s0 := keep_cell hb5 s0
          replace p0 := keep_cell hb5 p0
          replace p1 := keep_cell hb5 p1
          replace rf0 := keep_free hb5 r0 rf0
          replace r0 := keep_cell hb5 r0
          refine hK.out _ _ ⟨s0, p0, p1⟩ (fun hHeld => ?_)
          clear hK K
          try simp only [Act.put, List.setIfInBounds_toArray, List.set_cons_zero, List.set_cons_succ]
          refine wpAnyH_ready (rs := [4]) (by kernel_rfl) (by simp) ?_
          refine AllReadyH.cons (o := ⟨some 34, _, _, _, _, _⟩) rfl (fun K hK => ?_) AllReadyH.nil
          go_simp
          refine (owned_R v5 (Ls.getLastD []) f a n m _ hr5 HCAN.out (by omega) (by omega) (by omega)).mono ?_
          rintro e w6 ⟨c, rfl, hfe, hb6⟩
          have HFE := Lib.hid hfe
          replace s0 := keep_cell hb6 s0
          replace p0 := keep_cell hb6 p0
          replace p1 := keep_cell hb6 p1
          replace rf0 := keep_free hb6 r0 rf0
          replace r0 := keep_cell hb6 r0
          refine hK.out _ _ ⟨s0, p0, p1⟩ (fun hHeld => ?_)
          clear hK K
          try simp only [Act.put, List.setIfInBounds_toArray, List.set_cons_zero, List.set_cons_succ]
          refine wpAnyH_take (i := 5) (oi := ⟨some 10, _, _, _, _, _⟩) (v := ?v4) rfl (by kernel_rfl) (by kernel_rfl) (by kernel_rfl) (fun _ _ _ h => h) (Or.inl ⟨by rfl, ?hy4⟩) (by assumption) ?rest4
          case hy4 => (intro w hSw; (try dsimp only at hSw); go_simp; try with_reducible rfl)
          try simp only [Act.put, List.setIfInBounds_toArray, List.set_cons_zero, List.set_cons_succ]
          refine wpAnyH_done (by kernel_rfl) ?_ _
          clear hHeld
          have HB6 : Hid (Adds w w6) := Lib.hid (((HA3.out.trans hb4).trans hb5).trans hb6)
          have HHM : Hid (RefAt w6 (.agg #[.slice p nn cap]) Ls) := Lib.hid (HH.out.later HB6.out)
          clear hb4 hb5 hb5' hb6 hfe hr5
          by_cases hc0 : c = 0
          · subst hc0
            go_upto_region 6 with fail
            refine wp_region_held_drew (S := (fun w' => w'.cell? ⟨bS, 0, none⟩ = some (.slice p nn cap) ∧ w'.cell? ⟨bP, 0, none⟩ = some (.int .i64 a) ∧ w'.cell? ⟨bP, 1, none⟩ = some (.int .i64 n))) (by kernel_rfl) ⟨s0, p0, p1⟩ (fun hHeld => ?_)
            refine wpAnyH_take (i := 0) (oi := ⟨some 39, _, _, _, _, _⟩) (v := ?v5) rfl (by kernel_rfl) (by kernel_rfl) (by kernel_rfl) (fun _ _ _ h => h) (Or.inl ⟨by rfl, ?hy5⟩) (by assumption) ?rest5
            case hy5 => (intro w hSw; (try dsimp only at hSw); go_simp; try with_reducible rfl)
            try simp only [Act.put, List.setIfInBounds_toArray, List.set_cons_zero, List.set_cons_succ]
            refine wpAnyH_take (i := 1) (oi := ⟨some 40, _, _, _, _, _⟩) (v := ?v6) rfl (by kernel_rfl) (by kernel_rfl) (by kernel_rfl) (fun _ _ _ h => h) (Or.inl ⟨by rfl, ?hy6⟩) (by assumption) ?rest6
            case hy6 => (intro w hSw; (try dsimp only at hSw); go_simp; try with_reducible rfl)
            try simp only [Act.put, List.setIfInBounds_toArray, List.set_cons_zero, List.set_cons_succ]
            refine wpAnyH_take (i := 3) (oi := ⟨some 42, _, _, _, _, _⟩) (v := ?v7) rfl (by kernel_rfl) (by kernel_rfl) (by kernel_rfl) (fun _ _ _ h => h) (Or.inl ⟨by rfl, ?hy7⟩) (by assumption) ?rest7
            case hy7 => (intro w hSw; (try dsimp only at hSw); go_simp; try with_reducible rfl)
            try simp only [Act.put, List.setIfInBounds_toArray, List.set_cons_zero, List.set_cons_succ]
            refine wpAnyH_take (i := 4) (oi := ⟨some 43, _, _, _, _, _⟩) (v := ?v8) rfl (by kernel_rfl) (by kernel_rfl) (by kernel_rfl) (fun _ _ _ h => h) (Or.inl ⟨by rfl, ?hy8⟩) (by assumption) ?rest8
            case hy8 => (intro w hSw; (try dsimp only at hSw); go_simp; try with_reducible rfl)
            try simp only [Act.put, List.setIfInBounds_toArray, List.set_cons_zero, List.set_cons_succ]
            refine wpAnyH_take (i := 5) (oi := ⟨some 44, _, _, _, _, _⟩) (v := ?v9) rfl (by kernel_rfl) (by kernel_rfl) (by kernel_rfl) (fun _ _ _ h => h) (Or.inl ⟨by rfl, ?hy9⟩) (by assumption) ?rest9
            case hy9 => (intro w hSw; (try dsimp only at hSw); go_simp; try with_reducible rfl)
            try simp only [Act.put, List.setIfInBounds_toArray, List.set_cons_zero, List.set_cons_succ]
            refine wpAnyH_ready (rs := [2]) (by kernel_rfl) (by simp) ?_
            refine AllReadyH.cons (o := ⟨some 41, _, _, _, _, _⟩) rfl (fun K hK => ?_) AllReadyH.nil
            go_simp
            refine (RLast_any _ Ls _ (HHM.out.later (Adds.refl _).drew)).mono ?_
            rintro e w7 ⟨v7, rfl, hr7, hb7'⟩
            have hb7 : Adds w6 w7 := (Adds.refl w6).drew.trans hb7'
            replace s0 := keep_cell hb7 s0
            replace p0 := keep_cell hb7 p0
            replace p1 := keep_cell hb7 p1
            replace rf0 := keep_free hb7 r0 rf0
            replace r0 := keep_cell hb7 r0
            refine hK.out _ _ ⟨s0, p0, p1⟩ (fun hHeld => ?_)
            clear hK K
            try simp only [Act.put, List.setIfInBounds_toArray, List.set_cons_zero, List.set_cons_succ]
            refine wpAnyH_ready (rs := [6]) (by kernel_rfl) (by simp) ?_
            refine AllReadyH.cons (o := ⟨some 45, _, _, _, _, _⟩) rfl (fun K hK => ?_) AllReadyH.nil
            go_simp
            refine (change_R v7 (Ls.getLastD []) a n 1 ⟨0, 0, k, 0⟩ _ hr7 (can_bd HCAN.out) HCAN.out.len (by omega) (by omega) (by omega) (by omega) (by omega) (by omega)).mono ?_
            rintro e w8 ⟨v8, rfl, hr8, hb8⟩
            replace s0 := keep_cell hb8 s0
            replace p0 := keep_cell hb8 p0
            replace p1 := keep_cell hb8 p1
            replace rf0 := keep_free hb8 r0 rf0
            replace r0 := keep_cell hb8 r0
            refine hK.out _ _ ⟨s0, p0, p1⟩ (fun hHeld => ?_)
            clear hK K
            try simp only [Act.put, List.setIfInBounds_toArray, List.set_cons_zero, List.set_cons_succ]
            refine wpAnyH_ready (rs := [7]) (by kernel_rfl) (by simp) ?_
            refine AllReadyH.cons (o := ⟨some 46, _, _, _, _, _⟩) rfl (fun K hK => ?_) AllReadyH.nil
            go_simp
            refine (Rnext_any _ v8 _ Ls _ ((HHM.out.later hb7).later hb8) hr8 (by omega)).mono ?_
            rintro e w9 ⟨g9, n9, c9, rfl, hx9, hg9, hb9⟩
            have hg9R : g9 ≠ bR := by have := cell_lt r0; omega
            have HX9 := Lib.hid hx9
            clear hx9
            replace s0 := keep_cell hb9 s0
            replace p0 := keep_cell hb9 p0
            replace p1 := keep_cell hb9 p1
            replace rf0 := keep_free hb9 r0 rf0
            replace r0 := keep_cell hb9 r0
            refine hK.out _ _ ⟨s0, p0, p1⟩ (fun hHeld => ?_)
            clear hK K
            try simp only [Act.put, List.setIfInBounds_toArray, List.set_cons_zero, List.set_cons_succ]
            refine wpAnyH_ready (rs := [8]) (by kernel_rfl) (by simp) ?_
            refine AllReadyH.cons (o := ⟨none, _, _, _, _, _⟩) rfl (fun K hK => ?_) AllReadyH.nil
            go_simp
            have k0 : (w9.setCell ⟨bR, 0, none⟩ (.slice (some ⟨g9, 0, none⟩) n9 c9)).cell? ⟨bS, 0, none⟩ = some (.slice p nn cap) := (World.cell?_setCell_far _ _ _ _ (by exact hRS)).trans s0
            have k1 : (w9.setCell ⟨bR, 0, none⟩ (.slice (some ⟨g9, 0, none⟩) n9 c9)).cell? ⟨bP, 0, none⟩ = some (.int .i64 a) := (World.cell?_setCell_far _ _ _ _ (by exact hRP)).trans p0
            have k2 : (w9.setCell ⟨bR, 0, none⟩ (.slice (some ⟨g9, 0, none⟩) n9 c9)).cell? ⟨bP, 1, none⟩ = some (.int .i64 n) := (World.cell?_setCell_far _ _ _ _ (by exact hRP)).trans p1
            refine hK.out _ _ ⟨k0, k1, k2⟩ (fun hHeld => ?_)
            clear hK K
            try simp only [Act.put, List.setIfInBounds_toArray, List.set_cons_zero, List.set_cons_succ]
            refine wpAnyH_take (i := 9) (oi := ⟨some 9, _, _, _, _, _⟩) (v := ?v10) rfl (by kernel_rfl) (by kernel_rfl) (by kernel_rfl) (fun _ _ _ h => h) (Or.inl ⟨by rfl, ?hy10⟩) (by assumption) ?rest10
            case hy10 => (intro w hSw; (try dsimp only at hSw); go_simp; try with_reducible rfl)
            try simp only [Act.put, List.setIfInBounds_toArray, List.set_cons_zero, List.set_cons_succ]
            refine wpAnyH_done (by kernel_rfl) ?_ _
            clear hHeld
            go_wp2_with fail
            have AA : Adds w (w9.setCell ⟨bR, 0, none⟩ (.slice (some ⟨g9, 0, none⟩) n9 c9)) := (((HB6.out.trans hb7).trans hb8).trans hb9).set hwR _
            refine bodyPost_ret (v := .tuple #[.agg #[.slice (some ⟨g9, 0, none⟩) n9 c9], .int .i64 0]) ?_ rfl (Or.inr ⟨?_, 0, HFE.out, Or.inr ⟨rfl, g9, n9, c9, _, rfl, ?_, ?_, can_what HCAN.out HVAL.out (by omega) rfFree_st HFE.out, AA⟩⟩)
            · simp [results, Try.results47, go_sem, r0]
            · have h1 := HVB.out
              have h2 := HMB.out
              have h3 := HKB.out
              have h4 := HEB.out
              simp [← h1, ← h2, ← h3, h4]
            · have z1 := HB6.out.size
              have z2 := hb7.size
              have z3 := hb8.size
              omega
            · exact HX9.out.put hg9R r0
          · have hc0' : (c != 0) = true := by simp [hc0]
            have HC0 := Lib.hid hc0
            clear hc0
            go_wp2_with fail
            refine bodyPost_ret (v := .tuple #[.agg #[.slice p nn cap], .int .i64 c]) ?_ rfl (Or.inr ⟨?_, c, HFE.out, Or.inl ⟨HC0.out, rfl, ?_⟩⟩)
            · simp [results, Try.results47, go_sem, r0]
            · have h1 := HVB.out
              have h2 := HMB.out
              have h3 := HKB.out
              have h4 := HEB.out
              simp [← h1, ← h2, ← h3, h4]
            · exact HB6.out.set hwR _

set_option maxRecDepth 100000 in
set_option maxHeartbeats 4000000 in
theorem Pledge_R (x : Value) (Ls : List (List Piece)) (f : Int → Pk) (a n m k : Int) (w : World) (h : RefAt w x Ls) (hC : Can f (Ls.getLastD []) 1000001) (hlen : Ls.length < 1000000) :
    Calls Try.prog 48 #[x, .agg #[.int .i64 a, .int .i64 n], .int .i64 m, .int .i64 k] w (RefGot f x Ls a n (inB 1000 m && inB 1000 k) (rfFree m) (fun q => whatF q ⟨0, 0, 0, k⟩ 2) w) := by
  obtain ⟨p, nn, cap, rfl⟩ := h.form
  have HH := Lib.hid h
  have HCAN := Lib.hid hC
  clear h hC
  go_enter Try.func48, Try.ntmps48
  go_upto_region 1 with fail
  obtain ⟨bS, hbS⟩ : ∃ k, k = w.heap.size := ⟨_, rfl⟩
  obtain ⟨bP, hbP⟩ : ∃ k, k = w.heap.size + 1 := ⟨_, rfl⟩
  obtain ⟨bR, hbR⟩ : ∃ k, k = w.heap.size + 1 + 1 := ⟨_, rfl⟩
  obtain ⟨W3, hW3⟩ : ∃ V, V = ((w.alloc (.cells #[.slice p nn cap] 27)).alloc (.cells #[.int .i64 a, .int .i64 n] 32)).alloc (.cells #[.slice none 0 0] 27) := ⟨_, rfl⟩
  have A3 : Adds w W3 := by rw [hW3]; exact (((Adds.refl w).alloc _).alloc _).alloc _
  have XS : Box W3 bS #[.slice p nn cap] 27 := by rw [hW3, hbS]; exact Box.later (Box.new w _ _) (((Adds.refl _).alloc _).alloc _)
  have XP : Box W3 bP #[.int .i64 a, .int .i64 n] 32 := by rw [hW3, hbP]; exact Box.later (new_at (w := w.alloc (.cells #[.slice p nn cap] 27)) (by simp)) ((Adds.refl _).alloc _)
  have XR : Box W3 bR #[.slice none 0 0] 27 := by rw [hW3, hbR]; exact new_at (by simp)
  have hwR : w.heap.size ≤ bR := by omega
  have hRS : bR ≠ bS := by omega
  have hRP : bR ≠ bP := by omega
  rw [← hW3, ← hbR, ← hbP, ← hbS]
  have HA3 := Lib.hid A3
  have HXS := Lib.hid XS
  have HXP := Lib.hid XP
  have HXR := Lib.hid XR
  have s0 := XS.cell 0
  have p0 := XP.cell 0
  have p1 := XP.cell 1
  have r0 := XR.cell 0
  have rf0 := XR.free 0
  simp only [List.getElem?_toArray, List.getElem?_cons_zero, List.getElem?_cons_succ] at s0 p0 p1 r0
  have HHL : Hid (RefAt W3 (.agg #[.slice p nn cap]) Ls) := Lib.hid (HH.out.later A3)
  clear hW3 hbS hbP hbR A3 XS XP XR
  obtain ⟨vb, hvb⟩ : ∃ b, b = validB a n := ⟨_, rfl⟩
  obtain ⟨mb, hmb⟩ : ∃ b, b = inB 1000 m := ⟨_, rfl⟩
  obtain ⟨kb, hkb⟩ : ∃ b, b = inB 1000 k := ⟨_, rfl⟩
  have HKB := Lib.hid hkb
  have HVB := Lib.hid hvb
  have HMB := Lib.hid hmb
  have hcv : Hid (∀ W, Calls Try.prog 93 #[.agg #[.int .i64 a, .int .i64 n]] W fun e w' => e = .returned (.bool vb) ∧ Adds W w') := Lib.hid (fun W => by rw [hvb]; exact RValid_any a n W)
  have hcm : Hid (∀ W, Calls Try.prog 68 #[.int .i64 m] W fun e w' => e = .returned (.bool mb) ∧ W = w') := Lib.hid (fun W => by rw [hmb]; exact Rmember_any m W)
  have hck : Hid (∀ W, Calls Try.prog 68 #[.int .i64 k] W fun e w' => e = .returned (.bool kb) ∧ W = w') := Lib.hid (fun W => by rw [hkb]; exact Rmember_any k W)
  clear hvb hmb hkb
  cases vb with
  | false =>
    go_wp2_with (first
      | (go_at_call 93; refine (hcv.out _).mono ?_; rintro e w4 ⟨rfl, hb4⟩; replace s0 := keep_cell hb4 s0; replace p0 := keep_cell hb4 p0; replace p1 := keep_cell hb4 p1; replace rf0 := keep_free hb4 r0 rf0; replace r0 := keep_cell hb4 r0; have HB4 := Lib.hid hb4; clear hb4)
      | (go_at_call 68; refine (hcm.out _).mono ?_; rintro e w' ⟨rfl, rfl⟩)
      | (go_at_call 68; refine (hck.out _).mono ?_; rintro e w' ⟨rfl, rfl⟩))
    refine bodyPost_ret (v := .tuple #[.agg #[.slice p nn cap], .int .i64 1]) ?_ rfl (Or.inl ⟨?_, rfl, ?_⟩)
    · simp [results, Try.results48, go_sem, r0]
    · have h1 := HVB.out
      have h2 := HMB.out
      have h3 := HKB.out
      simp [← h1, ← h2, ← h3]
    · exact (HA3.out.trans HB4.out).set hwR _
  | true =>
    cases mb with
    | false =>
      go_wp2_with (first
        | (go_at_call 93; refine (hcv.out _).mono ?_; rintro e w4 ⟨rfl, hb4⟩; replace s0 := keep_cell hb4 s0; replace p0 := keep_cell hb4 p0; replace p1 := keep_cell hb4 p1; replace rf0 := keep_free hb4 r0 rf0; replace r0 := keep_cell hb4 r0; have HB4 := Lib.hid hb4; clear hb4)
        | (go_at_call 68; refine (hcm.out _).mono ?_; rintro e w' ⟨rfl, rfl⟩)
        | (go_at_call 68; refine (hck.out _).mono ?_; rintro e w' ⟨rfl, rfl⟩))
      refine bodyPost_ret (v := .tuple #[.agg #[.slice p nn cap], .int .i64 1]) ?_ rfl (Or.inl ⟨?_, rfl, ?_⟩)
      · simp [results, Try.results48, go_sem, r0]
      · have h1 := HVB.out
        have h2 := HMB.out
        have h3 := HKB.out
        simp [← h1, ← h2, ← h3]
      · exact (HA3.out.trans HB4.out).set hwR _
    | true =>
      cases kb with
      | false =>
        go_wp2_with (first
          | (go_at_call 93; refine (hcv.out _).mono ?_; rintro e w4 ⟨rfl, hb4⟩; replace s0 := keep_cell hb4 s0; replace p0 := keep_cell hb4 p0; replace p1 := keep_cell hb4 p1; replace rf0 := keep_free hb4 r0 rf0; replace r0 := keep_cell hb4 r0; have HB4 := Lib.hid hb4; clear hb4)
          | (go_at_call 68; refine (hcm.out _).mono ?_; rintro e w' ⟨rfl, rfl⟩)
          | (go_at_call 68; refine (hck.out _).mono ?_; rintro e w' ⟨rfl, rfl⟩))
        refine bodyPost_ret (v := .tuple #[.agg #[.slice p nn cap], .int .i64 1]) ?_ rfl (Or.inl ⟨?_, rfl, ?_⟩)
        · simp [results, Try.results48, go_sem, r0]
        · have h1 := HVB.out
          have h2 := HMB.out
          have h3 := HKB.out
          simp [← h1, ← h2, ← h3]
        · exact (HA3.out.trans HB4.out).set hwR _
      | true =>
        go_upto_region 3 with (first
          | (go_at_call 93; refine (hcv.out _).mono ?_; rintro e w4 ⟨rfl, hb4⟩; replace s0 := keep_cell hb4 s0; replace p0 := keep_cell hb4 p0; replace p1 := keep_cell hb4 p1; replace rf0 := keep_free hb4 r0 rf0; replace r0 := keep_cell hb4 r0; have HB4 := Lib.hid hb4; clear hb4)
          | (go_at_call 68; refine (hcm.out _).mono ?_; rintro e w' ⟨rfl, rfl⟩)
          | (go_at_call 68; refine (hck.out _).mono ?_; rintro e w' ⟨rfl, rfl⟩))
        have hval : validB a n = true := HVB.out.symm
        obtain ⟨hv1, hv2, hv3, hv4⟩ := validB_iff.1 hval
        have HVAL := Lib.hid hval
        clear hval
        have hb4 := HB4.out
        refine wp_region_held_drew (S := (fun w' => w'.cell? ⟨bS, 0, none⟩ = some (.slice p nn cap) ∧ w'.cell? ⟨bP, 0, none⟩ = some (.int .i64 a) ∧ w'.cell? ⟨bP, 1, none⟩ = some (.int .i64 n))) (by kernel_rfl) ⟨s0, p0, p1⟩ (fun hHeld => ?_)
        refine wpAnyH_take (i := 0) (oi := ⟨some 25, _, _, _, _, _⟩) (v := ?v11) rfl (by kernel_rfl) (by kernel_rfl) (by kernel_rfl) (fun _ _ _ h => h) (Or.inl ⟨by rfl, ?hy11⟩) (by assumption) ?rest11
        case hy11 => (intro w hSw; (try dsimp only at hSw); go_simp; try with_reducible rfl)
        try simp only [Act.put, List.setIfInBounds_toArray, List.set_cons_zero, List.set_cons_succ]
        refine wpAnyH_take (i := 2) (oi := ⟨some 27, _, _, _, _, _⟩) (v := ?v12) rfl (by kernel_rfl) (by kernel_rfl) (by kernel_rfl) (fun _ _ _ h => h) (Or.inl ⟨by rfl, ?hy12⟩) (by assumption) ?rest12
        case hy12 => (intro w hSw; (try dsimp only at hSw); go_simp; try with_reducible rfl)
        try simp only [Act.put, List.setIfInBounds_toArray, List.set_cons_zero, List.set_cons_succ]
        refine wpAnyH_take (i := 3) (oi := ⟨some 28, _, _, _, _, _⟩) (v := ?v13) rfl (by kernel_rfl) (by kernel_rfl) (by kernel_rfl) (fun _ _ _ h => h) (Or.inl ⟨by rfl, ?hy13⟩) (by assumption) ?rest13
        case hy13 => (intro w hSw; (try dsimp only at hSw); go_simp; try with_reducible rfl)
        try simp only [Act.put, List.setIfInBounds_toArray, List.set_cons_zero, List.set_cons_succ]
        refine wpAnyH_ready (rs := [1]) (by kernel_rfl) (by simp) ?_
        refine AllReadyH.cons (o := ⟨some 26, _, _, _, _, _⟩) rfl (fun K hK => ?_) AllReadyH.nil
        go_simp
        refine (RLast_any _ Ls _ ((HHL.out.later hb4).later (Adds.refl _).drew)).mono ?_
        rintro e w5 ⟨v5, rfl, hr5, hb5'⟩
        have hb5 : Adds w4 w5 := (Adds.refl w4).drew.trans hb5'
        replace s0 := keep_cell hb5 s0
        replace p0 := keep_cell hb5 p0
        replace p1 := keep_cell hb5 p1
        replace rf0 := keep_free hb5 r0 rf0
        replace r0 := keep_cell hb5 r0
        refine hK.out _ _ ⟨s0, p0, p1⟩ (fun hHeld => ?_)
        clear hK K
        try simp only [Act.put, List.setIfInBounds_toArray, List.set_cons_zero, List.set_cons_succ]
        refine wpAnyH_ready (rs := [4]) (by kernel_rfl) (by simp) ?_
        refine AllReadyH.cons (o := ⟨some 29, _, _, _, _, _⟩) rfl (fun K hK => ?_) AllReadyH.nil
        go_simp
        refine (owned_R v5 (Ls.getLastD []) f a n m _ hr5 HCAN.out (by omega) (by omega) (by omega)).mono ?_
        rintro e w6 ⟨c, rfl, hfe, hb6⟩
        have HFE := Lib.hid hfe
        replace s0 := keep_cell hb6 s0
        replace p0 := keep_cell hb6 p0
        replace p1 := keep_cell hb6 p1
        replace rf0 := keep_free hb6 r0 rf0
        replace r0 := keep_cell hb6 r0
        refine hK.out _ _ ⟨s0, p0, p1⟩ (fun hHeld => ?_)
        clear hK K
        try simp only [Act.put, List.setIfInBounds_toArray, List.set_cons_zero, List.set_cons_succ]
        refine wpAnyH_take (i := 5) (oi := ⟨some 10, _, _, _, _, _⟩) (v := ?v14) rfl (by kernel_rfl) (by kernel_rfl) (by kernel_rfl) (fun _ _ _ h => h) (Or.inl ⟨by rfl, ?hy14⟩) (by assumption) ?rest14
        case hy14 => (intro w hSw; (try dsimp only at hSw); go_simp; try with_reducible rfl)
        try simp only [Act.put, List.setIfInBounds_toArray, List.set_cons_zero, List.set_cons_succ]
        refine wpAnyH_done (by kernel_rfl) ?_ _
        clear hHeld
        have HB6 : Hid (Adds w w6) := Lib.hid (((HA3.out.trans hb4).trans hb5).trans hb6)
        have HHM : Hid (RefAt w6 (.agg #[.slice p nn cap]) Ls) := Lib.hid (HH.out.later HB6.out)
        clear hb4 hb5 hb5' hb6 hfe hr5
        by_cases hc0 : c = 0
        · subst hc0
          go_upto_region 6 with fail
          refine wp_region_held_drew (S := (fun w' => w'.cell? ⟨bS, 0, none⟩ = some (.slice p nn cap) ∧ w'.cell? ⟨bP, 0, none⟩ = some (.int .i64 a) ∧ w'.cell? ⟨bP, 1, none⟩ = some (.int .i64 n))) (by kernel_rfl) ⟨s0, p0, p1⟩ (fun hHeld => ?_)
          refine wpAnyH_take (i := 0) (oi := ⟨some 34, _, _, _, _, _⟩) (v := ?v15) rfl (by kernel_rfl) (by kernel_rfl) (by kernel_rfl) (fun _ _ _ h => h) (Or.inl ⟨by rfl, ?hy15⟩) (by assumption) ?rest15
          case hy15 => (intro w hSw; (try dsimp only at hSw); go_simp; try with_reducible rfl)
          try simp only [Act.put, List.setIfInBounds_toArray, List.set_cons_zero, List.set_cons_succ]
          refine wpAnyH_take (i := 1) (oi := ⟨some 35, _, _, _, _, _⟩) (v := ?v16) rfl (by kernel_rfl) (by kernel_rfl) (by kernel_rfl) (fun _ _ _ h => h) (Or.inl ⟨by rfl, ?hy16⟩) (by assumption) ?rest16
          case hy16 => (intro w hSw; (try dsimp only at hSw); go_simp; try with_reducible rfl)
          try simp only [Act.put, List.setIfInBounds_toArray, List.set_cons_zero, List.set_cons_succ]
          refine wpAnyH_take (i := 3) (oi := ⟨some 37, _, _, _, _, _⟩) (v := ?v17) rfl (by kernel_rfl) (by kernel_rfl) (by kernel_rfl) (fun _ _ _ h => h) (Or.inl ⟨by rfl, ?hy17⟩) (by assumption) ?rest17
          case hy17 => (intro w hSw; (try dsimp only at hSw); go_simp; try with_reducible rfl)
          try simp only [Act.put, List.setIfInBounds_toArray, List.set_cons_zero, List.set_cons_succ]
          refine wpAnyH_take (i := 4) (oi := ⟨some 38, _, _, _, _, _⟩) (v := ?v18) rfl (by kernel_rfl) (by kernel_rfl) (by kernel_rfl) (fun _ _ _ h => h) (Or.inl ⟨by rfl, ?hy18⟩) (by assumption) ?rest18
          case hy18 => (intro w hSw; (try dsimp only at hSw); go_simp; try with_reducible rfl)
          try simp only [Act.put, List.setIfInBounds_toArray, List.set_cons_zero, List.set_cons_succ]
          refine wpAnyH_take (i := 5) (oi := ⟨some 39, _, _, _, _, _⟩) (v := ?v19) rfl (by kernel_rfl) (by kernel_rfl) (by kernel_rfl) (fun _ _ _ h => h) (Or.inl ⟨by rfl, ?hy19⟩) (by assumption) ?rest19
          case hy19 => (intro w hSw; (try dsimp only at hSw); go_simp; try with_reducible rfl)
          try simp only [Act.put, List.setIfInBounds_toArray, List.set_cons_zero, List.set_cons_succ]
          refine wpAnyH_ready (rs := [2]) (by kernel_rfl) (by simp) ?_
          refine AllReadyH.cons (o := ⟨some 36, _, _, _, _, _⟩) rfl (fun K hK => ?_) AllReadyH.nil
          go_simp
          refine (RLast_any _ Ls _ (HHM.out.later (Adds.refl _).drew)).mono ?_
          rintro e w7 ⟨v7, rfl, hr7, hb7'⟩
          have hb7 : Adds w6 w7 := (Adds.refl w6).drew.trans hb7'
          replace s0 := keep_cell hb7 s0
          replace p0 := keep_cell hb7 p0
          replace p1 := keep_cell hb7 p1
          replace rf0 := keep_free hb7 r0 rf0
          replace r0 := keep_cell hb7 r0
          refine hK.out _ _ ⟨s0, p0, p1⟩ (fun hHeld => ?_)
          clear hK K
          try simp only [Act.put, List.setIfInBounds_toArray, List.set_cons_zero, List.set_cons_succ]
          refine wpAnyH_ready (rs := [6]) (by kernel_rfl) (by simp) ?_
          refine AllReadyH.cons (o := ⟨some 40, _, _, _, _, _⟩) rfl (fun K hK => ?_) AllReadyH.nil
          go_simp
          refine (change_R v7 (Ls.getLastD []) a n 2 ⟨0, 0, 0, k⟩ _ hr7 (can_bd HCAN.out) HCAN.out.len (by omega) (by omega) (by omega) (by omega) (by omega) (by omega)).mono ?_
          rintro e w8 ⟨v8, rfl, hr8, hb8⟩
          replace s0 := keep_cell hb8 s0
          replace p0 := keep_cell hb8 p0
          replace p1 := keep_cell hb8 p1
          replace rf0 := keep_free hb8 r0 rf0
          replace r0 := keep_cell hb8 r0
          refine hK.out _ _ ⟨s0, p0, p1⟩ (fun hHeld => ?_)
          clear hK K
          try simp only [Act.put, List.setIfInBounds_toArray, List.set_cons_zero, List.set_cons_succ]
          refine wpAnyH_ready (rs := [7]) (by kernel_rfl) (by simp) ?_
          refine AllReadyH.cons (o := ⟨some 41, _, _, _, _, _⟩) rfl (fun K hK => ?_) AllReadyH.nil
          go_simp
          refine (Rnext_any _ v8 _ Ls _ ((HHM.out.later hb7).later hb8) hr8 (by omega)).mono ?_
          rintro e w9 ⟨g9, n9, c9, rfl, hx9, hg9, hb9⟩
          have hg9R : g9 ≠ bR := by have := cell_lt r0; omega
          have HX9 := Lib.hid hx9
          clear hx9
          replace s0 := keep_cell hb9 s0
          replace p0 := keep_cell hb9 p0
          replace p1 := keep_cell hb9 p1
          replace rf0 := keep_free hb9 r0 rf0
          replace r0 := keep_cell hb9 r0
          refine hK.out _ _ ⟨s0, p0, p1⟩ (fun hHeld => ?_)
          clear hK K
          try simp only [Act.put, List.setIfInBounds_toArray, List.set_cons_zero, List.set_cons_succ]
          refine wpAnyH_ready (rs := [8]) (by kernel_rfl) (by simp) ?_
          refine AllReadyH.cons (o := ⟨none, _, _, _, _, _⟩) rfl (fun K hK => ?_) AllReadyH.nil
          go_simp
          have k0 : (w9.setCell ⟨bR, 0, none⟩ (.slice (some ⟨g9, 0, none⟩) n9 c9)).cell? ⟨bS, 0, none⟩ = some (.slice p nn cap) := (World.cell?_setCell_far _ _ _ _ (by exact hRS)).trans s0
          have k1 : (w9.setCell ⟨bR, 0, none⟩ (.slice (some ⟨g9, 0, none⟩) n9 c9)).cell? ⟨bP, 0, none⟩ = some (.int .i64 a) := (World.cell?_setCell_far _ _ _ _ (by exact hRP)).trans p0
          have k2 : (w9.setCell ⟨bR, 0, none⟩ (.slice (some ⟨g9, 0, none⟩) n9 c9)).cell? ⟨bP, 1, none⟩ = some (.int .i64 n) := (World.cell?_setCell_far _ _ _ _ (by exact hRP)).trans p1
          refine hK.out _ _ ⟨k0, k1, k2⟩ (fun hHeld => ?_)
          clear hK K
          try simp only [Act.put, List.setIfInBounds_toArray, List.set_cons_zero, List.set_cons_succ]
          refine wpAnyH_take (i := 9) (oi := ⟨some 9, _, _, _, _, _⟩) (v := ?v20) rfl (by kernel_rfl) (by kernel_rfl) (by kernel_rfl) (fun _ _ _ h => h) (Or.inl ⟨by rfl, ?hy20⟩) (by assumption) ?rest20
          case hy20 => (intro w hSw; (try dsimp only at hSw); go_simp; try with_reducible rfl)
          try simp only [Act.put, List.setIfInBounds_toArray, List.set_cons_zero, List.set_cons_succ]
          refine wpAnyH_done (by kernel_rfl) ?_ _
          clear hHeld
          go_wp2_with fail
          have AA : Adds w (w9.setCell ⟨bR, 0, none⟩ (.slice (some ⟨g9, 0, none⟩) n9 c9)) := (((HB6.out.trans hb7).trans hb8).trans hb9).set hwR _
          refine bodyPost_ret (v := .tuple #[.agg #[.slice (some ⟨g9, 0, none⟩) n9 c9], .int .i64 0]) ?_ rfl (Or.inr ⟨?_, 0, HFE.out, Or.inr ⟨rfl, g9, n9, c9, _, rfl, ?_, ?_, can_what HCAN.out HVAL.out (by omega) rfFree_st HFE.out, AA⟩⟩)
          · simp [results, Try.results48, go_sem, r0]
          · have h1 := HVB.out
            have h2 := HMB.out
            have h3 := HKB.out
            simp [← h1, ← h2, ← h3]
          · have z1 := HB6.out.size
            have z2 := hb7.size
            have z3 := hb8.size
            omega
          · exact HX9.out.put hg9R r0
        · have hc0' : (c != 0) = true := by simp [hc0]
          have HC0 := Lib.hid hc0
          clear hc0
          go_wp2_with fail
          refine bodyPost_ret (v := .tuple #[.agg #[.slice p nn cap], .int .i64 c]) ?_ rfl (Or.inr ⟨?_, c, HFE.out, Or.inl ⟨HC0.out, rfl, ?_⟩⟩)
          · simp [results, Try.results48, go_sem, r0]
          · have h1 := HVB.out
            have h2 := HMB.out
            have h3 := HKB.out
            simp [← h1, ← h2, ← h3]
          · exact HB6.out.set hwR _

set_option maxRecDepth 100000 in
set_option maxHeartbeats 4000000 in
theorem Release_R (x : Value) (Ls : List (List Piece)) (f : Int → Pk) (a n m : Int) (w : World) (h : RefAt w x Ls) (hC : Can f (Ls.getLastD []) 1000001) (hlen : Ls.length < 1000000) :
    Calls Try.prog 49 #[x, .agg #[.int .i64 a, .int .i64 n], .int .i64 m] w (RefGot f x Ls a n (inB 1000 m) (rfHeld m) (fun q => whatF q ⟨0, 0, 0, 0⟩ 3) w) := by
  obtain ⟨p, nn, cap, rfl⟩ := h.form
  have HH := Lib.hid h
  have HCAN := Lib.hid hC
  clear h hC
  go_enter Try.func49, Try.ntmps49
  go_upto_region 1 with fail
  obtain ⟨bS, hbS⟩ : ∃ k, k = w.heap.size := ⟨_, rfl⟩
  obtain ⟨bP, hbP⟩ : ∃ k, k = w.heap.size + 1 := ⟨_, rfl⟩
  obtain ⟨bR, hbR⟩ : ∃ k, k = w.heap.size + 1 + 1 := ⟨_, rfl⟩
  obtain ⟨W3, hW3⟩ : ∃ V, V = ((w.alloc (.cells #[.slice p nn cap] 27)).alloc (.cells #[.int .i64 a, .int .i64 n] 32)).alloc (.cells #[.slice none 0 0] 27) := ⟨_, rfl⟩
  have A3 : Adds w W3 := by rw [hW3]; exact (((Adds.refl w).alloc _).alloc _).alloc _
  have XS : Box W3 bS #[.slice p nn cap] 27 := by rw [hW3, hbS]; exact Box.later (Box.new w _ _) (((Adds.refl _).alloc _).alloc _)
  have XP : Box W3 bP #[.int .i64 a, .int .i64 n] 32 := by rw [hW3, hbP]; exact Box.later (new_at (w := w.alloc (.cells #[.slice p nn cap] 27)) (by simp)) ((Adds.refl _).alloc _)
  have XR : Box W3 bR #[.slice none 0 0] 27 := by rw [hW3, hbR]; exact new_at (by simp)
  have hwR : w.heap.size ≤ bR := by omega
  have hRS : bR ≠ bS := by omega
  have hRP : bR ≠ bP := by omega
  rw [← hW3, ← hbR, ← hbP, ← hbS]
  have HA3 := Lib.hid A3
  have HXS := Lib.hid XS
  have HXP := Lib.hid XP
  have HXR := Lib.hid XR
  have s0 := XS.cell 0
  have p0 := XP.cell 0
  have p1 := XP.cell 1
  have r0 := XR.cell 0
  have rf0 := XR.free 0
  simp only [List.getElem?_toArray, List.getElem?_cons_zero, List.getElem?_cons_succ] at s0 p0 p1 r0
  have HHL : Hid (RefAt W3 (.agg #[.slice p nn cap]) Ls) := Lib.hid (HH.out.later A3)
  clear hW3 hbS hbP hbR A3 XS XP XR
  obtain ⟨vb, hvb⟩ : ∃ b, b = validB a n := ⟨_, rfl⟩
  obtain ⟨mb, hmb⟩ : ∃ b, b = inB 1000 m := ⟨_, rfl⟩
  have HVB := Lib.hid hvb
  have HMB := Lib.hid hmb
  have hcv : Hid (∀ W, Calls Try.prog 93 #[.agg #[.int .i64 a, .int .i64 n]] W fun e w' => e = .returned (.bool vb) ∧ Adds W w') := Lib.hid (fun W => by rw [hvb]; exact RValid_any a n W)
  have hcm : Hid (∀ W, Calls Try.prog 68 #[.int .i64 m] W fun e w' => e = .returned (.bool mb) ∧ W = w') := Lib.hid (fun W => by rw [hmb]; exact Rmember_any m W)
  clear hvb hmb
  cases vb with
  | false =>
    go_wp2_with (first
      | (go_at_call 93; refine (hcv.out _).mono ?_; rintro e w4 ⟨rfl, hb4⟩; replace s0 := keep_cell hb4 s0; replace p0 := keep_cell hb4 p0; replace p1 := keep_cell hb4 p1; replace rf0 := keep_free hb4 r0 rf0; replace r0 := keep_cell hb4 r0; have HB4 := Lib.hid hb4; clear hb4)
      | (go_at_call 68; refine (hcm.out _).mono ?_; rintro e w' ⟨rfl, rfl⟩))
    refine bodyPost_ret (v := .tuple #[.agg #[.slice p nn cap], .int .i64 1]) ?_ rfl (Or.inl ⟨?_, rfl, ?_⟩)
    · simp [results, Try.results49, go_sem, r0]
    · have h1 := HVB.out
      have h2 := HMB.out
      simp [← h1, ← h2]
    · exact (HA3.out.trans HB4.out).set hwR _
  | true =>
    cases mb with
    | false =>
      go_wp2_with (first
        | (go_at_call 93; refine (hcv.out _).mono ?_; rintro e w4 ⟨rfl, hb4⟩; replace s0 := keep_cell hb4 s0; replace p0 := keep_cell hb4 p0; replace p1 := keep_cell hb4 p1; replace rf0 := keep_free hb4 r0 rf0; replace r0 := keep_cell hb4 r0; have HB4 := Lib.hid hb4; clear hb4)
        | (go_at_call 68; refine (hcm.out _).mono ?_; rintro e w' ⟨rfl, rfl⟩))
      refine bodyPost_ret (v := .tuple #[.agg #[.slice p nn cap], .int .i64 1]) ?_ rfl (Or.inl ⟨?_, rfl, ?_⟩)
      · simp [results, Try.results49, go_sem, r0]
      · have h1 := HVB.out
        have h2 := HMB.out
        simp [← h1, ← h2]
      · exact (HA3.out.trans HB4.out).set hwR _
    | true =>
      go_upto_region 3 with (first
        | (go_at_call 93; refine (hcv.out _).mono ?_; rintro e w4 ⟨rfl, hb4⟩; replace s0 := keep_cell hb4 s0; replace p0 := keep_cell hb4 p0; replace p1 := keep_cell hb4 p1; replace rf0 := keep_free hb4 r0 rf0; replace r0 := keep_cell hb4 r0; have HB4 := Lib.hid hb4; clear hb4)
        | (go_at_call 68; refine (hcm.out _).mono ?_; rintro e w' ⟨rfl, rfl⟩))
      have hval : validB a n = true := HVB.out.symm
      obtain ⟨hv1, hv2, hv3, hv4⟩ := validB_iff.1 hval
      have HVAL := Lib.hid hval
      clear hval
      have hb4 := HB4.out
      refine wp_region_held_drew (S := (fun w' => w'.cell? ⟨bS, 0, none⟩ = some (.slice p nn cap) ∧ w'.cell? ⟨bP, 0, none⟩ = some (.int .i64 a) ∧ w'.cell? ⟨bP, 1, none⟩ = some (.int .i64 n))) (by kernel_rfl) ⟨s0, p0, p1⟩ (fun hHeld => ?_)
      refine wpAnyH_take (i := 0) (oi := ⟨some 18, _, _, _, _, _⟩) (v := ?v21) rfl (by kernel_rfl) (by kernel_rfl) (by kernel_rfl) (fun _ _ _ h => h) (Or.inl ⟨by rfl, ?hy21⟩) (by assumption) ?rest21
      case hy21 => (intro w hSw; (try dsimp only at hSw); go_simp; try with_reducible rfl)
      try simp only [Act.put, List.setIfInBounds_toArray, List.set_cons_zero, List.set_cons_succ]
      refine wpAnyH_take (i := 2) (oi := ⟨some 20, _, _, _, _, _⟩) (v := ?v22) rfl (by kernel_rfl) (by kernel_rfl) (by kernel_rfl) (fun _ _ _ h => h) (Or.inl ⟨by rfl, ?hy22⟩) (by assumption) ?rest22
      case hy22 => (intro w hSw; (try dsimp only at hSw); go_simp; try with_reducible rfl)
      try simp only [Act.put, List.setIfInBounds_toArray, List.set_cons_zero, List.set_cons_succ]
      refine wpAnyH_take (i := 3) (oi := ⟨some 21, _, _, _, _, _⟩) (v := ?v23) rfl (by kernel_rfl) (by kernel_rfl) (by kernel_rfl) (fun _ _ _ h => h) (Or.inl ⟨by rfl, ?hy23⟩) (by assumption) ?rest23
      case hy23 => (intro w hSw; (try dsimp only at hSw); go_simp; try with_reducible rfl)
      try simp only [Act.put, List.setIfInBounds_toArray, List.set_cons_zero, List.set_cons_succ]
      refine wpAnyH_ready (rs := [1]) (by kernel_rfl) (by simp) ?_
      refine AllReadyH.cons (o := ⟨some 19, _, _, _, _, _⟩) rfl (fun K hK => ?_) AllReadyH.nil
      go_simp
      refine (RLast_any _ Ls _ ((HHL.out.later hb4).later (Adds.refl _).drew)).mono ?_
      rintro e w5 ⟨v5, rfl, hr5, hb5'⟩
      have hb5 : Adds w4 w5 := (Adds.refl w4).drew.trans hb5'
      replace s0 := keep_cell hb5 s0
      replace p0 := keep_cell hb5 p0
      replace p1 := keep_cell hb5 p1
      replace rf0 := keep_free hb5 r0 rf0
      replace r0 := keep_cell hb5 r0
      refine hK.out _ _ ⟨s0, p0, p1⟩ (fun hHeld => ?_)
      clear hK K
      try simp only [Act.put, List.setIfInBounds_toArray, List.set_cons_zero, List.set_cons_succ]
      refine wpAnyH_ready (rs := [4]) (by kernel_rfl) (by simp) ?_
      refine AllReadyH.cons (o := ⟨some 22, _, _, _, _, _⟩) rfl (fun K hK => ?_) AllReadyH.nil
      go_simp
      refine (held_R v5 (Ls.getLastD []) f a n m _ hr5 HCAN.out (by omega) (by omega) (by omega)).mono ?_
      rintro e w6 ⟨c, rfl, hfe, hb6⟩
      have HFE := Lib.hid hfe
      replace s0 := keep_cell hb6 s0
      replace p0 := keep_cell hb6 p0
      replace p1 := keep_cell hb6 p1
      replace rf0 := keep_free hb6 r0 rf0
      replace r0 := keep_cell hb6 r0
      refine hK.out _ _ ⟨s0, p0, p1⟩ (fun hHeld => ?_)
      clear hK K
      try simp only [Act.put, List.setIfInBounds_toArray, List.set_cons_zero, List.set_cons_succ]
      refine wpAnyH_take (i := 5) (oi := ⟨some 8, _, _, _, _, _⟩) (v := ?v24) rfl (by kernel_rfl) (by kernel_rfl) (by kernel_rfl) (fun _ _ _ h => h) (Or.inl ⟨by rfl, ?hy24⟩) (by assumption) ?rest24
      case hy24 => (intro w hSw; (try dsimp only at hSw); go_simp; try with_reducible rfl)
      try simp only [Act.put, List.setIfInBounds_toArray, List.set_cons_zero, List.set_cons_succ]
      refine wpAnyH_done (by kernel_rfl) ?_ _
      clear hHeld
      have HB6 : Hid (Adds w w6) := Lib.hid (((HA3.out.trans hb4).trans hb5).trans hb6)
      have HHM : Hid (RefAt w6 (.agg #[.slice p nn cap]) Ls) := Lib.hid (HH.out.later HB6.out)
      clear hb4 hb5 hb5' hb6 hfe hr5
      by_cases hc0 : c = 0
      · subst hc0
        go_upto_region 6 with fail
        refine wp_region_held_drew (S := (fun w' => w'.cell? ⟨bS, 0, none⟩ = some (.slice p nn cap) ∧ w'.cell? ⟨bP, 0, none⟩ = some (.int .i64 a) ∧ w'.cell? ⟨bP, 1, none⟩ = some (.int .i64 n))) (by kernel_rfl) ⟨s0, p0, p1⟩ (fun hHeld => ?_)
        refine wpAnyH_take (i := 0) (oi := ⟨some 27, _, _, _, _, _⟩) (v := ?v25) rfl (by kernel_rfl) (by kernel_rfl) (by kernel_rfl) (fun _ _ _ h => h) (Or.inl ⟨by rfl, ?hy25⟩) (by assumption) ?rest25
        case hy25 => (intro w hSw; (try dsimp only at hSw); go_simp; try with_reducible rfl)
        try simp only [Act.put, List.setIfInBounds_toArray, List.set_cons_zero, List.set_cons_succ]
        refine wpAnyH_take (i := 1) (oi := ⟨some 28, _, _, _, _, _⟩) (v := ?v26) rfl (by kernel_rfl) (by kernel_rfl) (by kernel_rfl) (fun _ _ _ h => h) (Or.inl ⟨by rfl, ?hy26⟩) (by assumption) ?rest26
        case hy26 => (intro w hSw; (try dsimp only at hSw); go_simp; try with_reducible rfl)
        try simp only [Act.put, List.setIfInBounds_toArray, List.set_cons_zero, List.set_cons_succ]
        refine wpAnyH_take (i := 3) (oi := ⟨some 30, _, _, _, _, _⟩) (v := ?v27) rfl (by kernel_rfl) (by kernel_rfl) (by kernel_rfl) (fun _ _ _ h => h) (Or.inl ⟨by rfl, ?hy27⟩) (by assumption) ?rest27
        case hy27 => (intro w hSw; (try dsimp only at hSw); go_simp; try with_reducible rfl)
        try simp only [Act.put, List.setIfInBounds_toArray, List.set_cons_zero, List.set_cons_succ]
        refine wpAnyH_take (i := 4) (oi := ⟨some 31, _, _, _, _, _⟩) (v := ?v28) rfl (by kernel_rfl) (by kernel_rfl) (by kernel_rfl) (fun _ _ _ h => h) (Or.inl ⟨by rfl, ?hy28⟩) (by assumption) ?rest28
        case hy28 => (intro w hSw; (try dsimp only at hSw); go_simp; try with_reducible rfl)
        try simp only [Act.put, List.setIfInBounds_toArray, List.set_cons_zero, List.set_cons_succ]
        refine wpAnyH_ready (rs := [2]) (by kernel_rfl) (by simp) ?_
        refine AllReadyH.cons (o := ⟨some 29, _, _, _, _, _⟩) rfl (fun K hK => ?_) AllReadyH.nil
        go_simp
        refine (RLast_any _ Ls _ (HHM.out.later (Adds.refl _).drew)).mono ?_
        rintro e w7 ⟨v7, rfl, hr7, hb7'⟩
        have hb7 : Adds w6 w7 := (Adds.refl w6).drew.trans hb7'
        replace s0 := keep_cell hb7 s0
        replace p0 := keep_cell hb7 p0
        replace p1 := keep_cell hb7 p1
        replace rf0 := keep_free hb7 r0 rf0
        replace r0 := keep_cell hb7 r0
        refine hK.out _ _ ⟨s0, p0, p1⟩ (fun hHeld => ?_)
        clear hK K
        try simp only [Act.put, List.setIfInBounds_toArray, List.set_cons_zero, List.set_cons_succ]
        refine wpAnyH_ready (rs := [5]) (by kernel_rfl) (by simp) ?_
        refine AllReadyH.cons (o := ⟨some 32, _, _, _, _, _⟩) rfl (fun K hK => ?_) AllReadyH.nil
        go_simp
        refine (change_R v7 (Ls.getLastD []) a n 3 ⟨0, 0, 0, 0⟩ _ hr7 (can_bd HCAN.out) HCAN.out.len (by omega) (by omega) (by omega) (by omega) (by omega) (by omega)).mono ?_
        rintro e w8 ⟨v8, rfl, hr8, hb8⟩
        replace s0 := keep_cell hb8 s0
        replace p0 := keep_cell hb8 p0
        replace p1 := keep_cell hb8 p1
        replace rf0 := keep_free hb8 r0 rf0
        replace r0 := keep_cell hb8 r0
        refine hK.out _ _ ⟨s0, p0, p1⟩ (fun hHeld => ?_)
        clear hK K
        try simp only [Act.put, List.setIfInBounds_toArray, List.set_cons_zero, List.set_cons_succ]
        refine wpAnyH_ready (rs := [6]) (by kernel_rfl) (by simp) ?_
        refine AllReadyH.cons (o := ⟨some 33, _, _, _, _, _⟩) rfl (fun K hK => ?_) AllReadyH.nil
        go_simp
        refine (Rnext_any _ v8 _ Ls _ ((HHM.out.later hb7).later hb8) hr8 (by omega)).mono ?_
        rintro e w9 ⟨g9, n9, c9, rfl, hx9, hg9, hb9⟩
        have hg9R : g9 ≠ bR := by have := cell_lt r0; omega
        have HX9 := Lib.hid hx9
        clear hx9
        replace s0 := keep_cell hb9 s0
        replace p0 := keep_cell hb9 p0
        replace p1 := keep_cell hb9 p1
        replace rf0 := keep_free hb9 r0 rf0
        replace r0 := keep_cell hb9 r0
        refine hK.out _ _ ⟨s0, p0, p1⟩ (fun hHeld => ?_)
        clear hK K
        try simp only [Act.put, List.setIfInBounds_toArray, List.set_cons_zero, List.set_cons_succ]
        refine wpAnyH_ready (rs := [7]) (by kernel_rfl) (by simp) ?_
        refine AllReadyH.cons (o := ⟨none, _, _, _, _, _⟩) rfl (fun K hK => ?_) AllReadyH.nil
        go_simp
        have k0 : (w9.setCell ⟨bR, 0, none⟩ (.slice (some ⟨g9, 0, none⟩) n9 c9)).cell? ⟨bS, 0, none⟩ = some (.slice p nn cap) := (World.cell?_setCell_far _ _ _ _ (by exact hRS)).trans s0
        have k1 : (w9.setCell ⟨bR, 0, none⟩ (.slice (some ⟨g9, 0, none⟩) n9 c9)).cell? ⟨bP, 0, none⟩ = some (.int .i64 a) := (World.cell?_setCell_far _ _ _ _ (by exact hRP)).trans p0
        have k2 : (w9.setCell ⟨bR, 0, none⟩ (.slice (some ⟨g9, 0, none⟩) n9 c9)).cell? ⟨bP, 1, none⟩ = some (.int .i64 n) := (World.cell?_setCell_far _ _ _ _ (by exact hRP)).trans p1
        refine hK.out _ _ ⟨k0, k1, k2⟩ (fun hHeld => ?_)
        clear hK K
        try simp only [Act.put, List.setIfInBounds_toArray, List.set_cons_zero, List.set_cons_succ]
        refine wpAnyH_take (i := 8) (oi := ⟨some 7, _, _, _, _, _⟩) (v := ?v29) rfl (by kernel_rfl) (by kernel_rfl) (by kernel_rfl) (fun _ _ _ h => h) (Or.inl ⟨by rfl, ?hy29⟩) (by assumption) ?rest29
        case hy29 => (intro w hSw; (try dsimp only at hSw); go_simp; try with_reducible rfl)
        try simp only [Act.put, List.setIfInBounds_toArray, List.set_cons_zero, List.set_cons_succ]
        refine wpAnyH_done (by kernel_rfl) ?_ _
        clear hHeld
        go_wp2_with fail
        have AA : Adds w (w9.setCell ⟨bR, 0, none⟩ (.slice (some ⟨g9, 0, none⟩) n9 c9)) := (((HB6.out.trans hb7).trans hb8).trans hb9).set hwR _
        refine bodyPost_ret (v := .tuple #[.agg #[.slice (some ⟨g9, 0, none⟩) n9 c9], .int .i64 0]) ?_ rfl (Or.inr ⟨?_, 0, HFE.out, Or.inr ⟨rfl, g9, n9, c9, _, rfl, ?_, ?_, can_what HCAN.out HVAL.out (by omega) rfHeld_st HFE.out, AA⟩⟩)
        · simp [results, Try.results49, go_sem, r0]
        · have h1 := HVB.out
          have h2 := HMB.out
          simp [← h1, ← h2]
        · have z1 := HB6.out.size
          have z2 := hb7.size
          have z3 := hb8.size
          omega
        · exact HX9.out.put hg9R r0
      · have hc0' : (c != 0) = true := by simp [hc0]
        have HC0 := Lib.hid hc0
        clear hc0
        go_wp2_with fail
        refine bodyPost_ret (v := .tuple #[.agg #[.slice p nn cap], .int .i64 c]) ?_ rfl (Or.inr ⟨?_, c, HFE.out, Or.inl ⟨HC0.out, rfl, ?_⟩⟩)
        · simp [results, Try.results49, go_sem, r0]
        · have h1 := HVB.out
          have h2 := HMB.out
          simp [← h1, ← h2]
        · exact HB6.out.set hwR _

set_option maxRecDepth 100000 in
set_option maxHeartbeats 4000000 in
theorem Seize_R (x : Value) (Ls : List (List Piece)) (f : Int → Pk) (a n m : Int) (w : World) (h : RefAt w x Ls) (hC : Can f (Ls.getLastD []) 1000001) (hlen : Ls.length < 1000000) :
    Calls Try.prog 50 #[x, .agg #[.int .i64 a, .int .i64 n], .int .i64 m] w (RefGot f x Ls a n (inB 1000 m) (rfHeld m) (fun q => whatF q ⟨0, 0, 0, 0⟩ 4) w) := by
  obtain ⟨p, nn, cap, rfl⟩ := h.form
  have HH := Lib.hid h
  have HCAN := Lib.hid hC
  clear h hC
  go_enter Try.func50, Try.ntmps50
  go_upto_region 1 with fail
  obtain ⟨bS, hbS⟩ : ∃ k, k = w.heap.size := ⟨_, rfl⟩
  obtain ⟨bP, hbP⟩ : ∃ k, k = w.heap.size + 1 := ⟨_, rfl⟩
  obtain ⟨bR, hbR⟩ : ∃ k, k = w.heap.size + 1 + 1 := ⟨_, rfl⟩
  obtain ⟨W3, hW3⟩ : ∃ V, V = ((w.alloc (.cells #[.slice p nn cap] 27)).alloc (.cells #[.int .i64 a, .int .i64 n] 32)).alloc (.cells #[.slice none 0 0] 27) := ⟨_, rfl⟩
  have A3 : Adds w W3 := by rw [hW3]; exact (((Adds.refl w).alloc _).alloc _).alloc _
  have XS : Box W3 bS #[.slice p nn cap] 27 := by rw [hW3, hbS]; exact Box.later (Box.new w _ _) (((Adds.refl _).alloc _).alloc _)
  have XP : Box W3 bP #[.int .i64 a, .int .i64 n] 32 := by rw [hW3, hbP]; exact Box.later (new_at (w := w.alloc (.cells #[.slice p nn cap] 27)) (by simp)) ((Adds.refl _).alloc _)
  have XR : Box W3 bR #[.slice none 0 0] 27 := by rw [hW3, hbR]; exact new_at (by simp)
  have hwR : w.heap.size ≤ bR := by omega
  have hRS : bR ≠ bS := by omega
  have hRP : bR ≠ bP := by omega
  rw [← hW3, ← hbR, ← hbP, ← hbS]
  have HA3 := Lib.hid A3
  have HXS := Lib.hid XS
  have HXP := Lib.hid XP
  have HXR := Lib.hid XR
  have s0 := XS.cell 0
  have p0 := XP.cell 0
  have p1 := XP.cell 1
  have r0 := XR.cell 0
  have rf0 := XR.free 0
  simp only [List.getElem?_toArray, List.getElem?_cons_zero, List.getElem?_cons_succ] at s0 p0 p1 r0
  have HHL : Hid (RefAt W3 (.agg #[.slice p nn cap]) Ls) := Lib.hid (HH.out.later A3)
  clear hW3 hbS hbP hbR A3 XS XP XR
  obtain ⟨vb, hvb⟩ : ∃ b, b = validB a n := ⟨_, rfl⟩
  obtain ⟨mb, hmb⟩ : ∃ b, b = inB 1000 m := ⟨_, rfl⟩
  have HVB := Lib.hid hvb
  have HMB := Lib.hid hmb
  have hcv : Hid (∀ W, Calls Try.prog 93 #[.agg #[.int .i64 a, .int .i64 n]] W fun e w' => e = .returned (.bool vb) ∧ Adds W w') := Lib.hid (fun W => by rw [hvb]; exact RValid_any a n W)
  have hcm : Hid (∀ W, Calls Try.prog 68 #[.int .i64 m] W fun e w' => e = .returned (.bool mb) ∧ W = w') := Lib.hid (fun W => by rw [hmb]; exact Rmember_any m W)
  clear hvb hmb
  cases vb with
  | false =>
    go_wp2_with (first
      | (go_at_call 93; refine (hcv.out _).mono ?_; rintro e w4 ⟨rfl, hb4⟩; replace s0 := keep_cell hb4 s0; replace p0 := keep_cell hb4 p0; replace p1 := keep_cell hb4 p1; replace rf0 := keep_free hb4 r0 rf0; replace r0 := keep_cell hb4 r0; have HB4 := Lib.hid hb4; clear hb4)
      | (go_at_call 68; refine (hcm.out _).mono ?_; rintro e w' ⟨rfl, rfl⟩))
    refine bodyPost_ret (v := .tuple #[.agg #[.slice p nn cap], .int .i64 1]) ?_ rfl (Or.inl ⟨?_, rfl, ?_⟩)
    · simp [results, Try.results50, go_sem, r0]
    · have h1 := HVB.out
      have h2 := HMB.out
      simp [← h1, ← h2]
    · exact (HA3.out.trans HB4.out).set hwR _
  | true =>
    cases mb with
    | false =>
      go_wp2_with (first
        | (go_at_call 93; refine (hcv.out _).mono ?_; rintro e w4 ⟨rfl, hb4⟩; replace s0 := keep_cell hb4 s0; replace p0 := keep_cell hb4 p0; replace p1 := keep_cell hb4 p1; replace rf0 := keep_free hb4 r0 rf0; replace r0 := keep_cell hb4 r0; have HB4 := Lib.hid hb4; clear hb4)
        | (go_at_call 68; refine (hcm.out _).mono ?_; rintro e w' ⟨rfl, rfl⟩))
      refine bodyPost_ret (v := .tuple #[.agg #[.slice p nn cap], .int .i64 1]) ?_ rfl (Or.inl ⟨?_, rfl, ?_⟩)
      · simp [results, Try.results50, go_sem, r0]
      · have h1 := HVB.out
        have h2 := HMB.out
        simp [← h1, ← h2]
      · exact (HA3.out.trans HB4.out).set hwR _
    | true =>
      go_upto_region 3 with (first
        | (go_at_call 93; refine (hcv.out _).mono ?_; rintro e w4 ⟨rfl, hb4⟩; replace s0 := keep_cell hb4 s0; replace p0 := keep_cell hb4 p0; replace p1 := keep_cell hb4 p1; replace rf0 := keep_free hb4 r0 rf0; replace r0 := keep_cell hb4 r0; have HB4 := Lib.hid hb4; clear hb4)
        | (go_at_call 68; refine (hcm.out _).mono ?_; rintro e w' ⟨rfl, rfl⟩))
      have hval : validB a n = true := HVB.out.symm
      obtain ⟨hv1, hv2, hv3, hv4⟩ := validB_iff.1 hval
      have HVAL := Lib.hid hval
      clear hval
      have hb4 := HB4.out
      refine wp_region_held_drew (S := (fun w' => w'.cell? ⟨bS, 0, none⟩ = some (.slice p nn cap) ∧ w'.cell? ⟨bP, 0, none⟩ = some (.int .i64 a) ∧ w'.cell? ⟨bP, 1, none⟩ = some (.int .i64 n))) (by kernel_rfl) ⟨s0, p0, p1⟩ (fun hHeld => ?_)
      refine wpAnyH_take (i := 0) (oi := ⟨some 18, _, _, _, _, _⟩) (v := ?v30) rfl (by kernel_rfl) (by kernel_rfl) (by kernel_rfl) (fun _ _ _ h => h) (Or.inl ⟨by rfl, ?hy30⟩) (by assumption) ?rest30
      case hy30 => (intro w hSw; (try dsimp only at hSw); go_simp; try with_reducible rfl)
      try simp only [Act.put, List.setIfInBounds_toArray, List.set_cons_zero, List.set_cons_succ]
      refine wpAnyH_take (i := 2) (oi := ⟨some 20, _, _, _, _, _⟩) (v := ?v31) rfl (by kernel_rfl) (by kernel_rfl) (by kernel_rfl) (fun _ _ _ h => h) (Or.inl ⟨by rfl, ?hy31⟩) (by assumption) ?rest31
      case hy31 => (intro w hSw; (try dsimp only at hSw); go_simp; try with_reducible rfl)
      try simp only [Act.put, List.setIfInBounds_toArray, List.set_cons_zero, List.set_cons_succ]
      refine wpAnyH_take (i := 3) (oi := ⟨some 21, _, _, _, _, _⟩) (v := ?v32) rfl (by kernel_rfl) (by kernel_rfl) (by kernel_rfl) (fun _ _ _ h => h) (Or.inl ⟨by rfl, ?hy32⟩) (by assumption) ?rest32
      case hy32 => (intro w hSw; (try dsimp only at hSw); go_simp; try with_reducible rfl)
      try simp only [Act.put, List.setIfInBounds_toArray, List.set_cons_zero, List.set_cons_succ]
      refine wpAnyH_ready (rs := [1]) (by kernel_rfl) (by simp) ?_
      refine AllReadyH.cons (o := ⟨some 19, _, _, _, _, _⟩) rfl (fun K hK => ?_) AllReadyH.nil
      go_simp
      refine (RLast_any _ Ls _ ((HHL.out.later hb4).later (Adds.refl _).drew)).mono ?_
      rintro e w5 ⟨v5, rfl, hr5, hb5'⟩
      have hb5 : Adds w4 w5 := (Adds.refl w4).drew.trans hb5'
      replace s0 := keep_cell hb5 s0
      replace p0 := keep_cell hb5 p0
      replace p1 := keep_cell hb5 p1
      replace rf0 := keep_free hb5 r0 rf0
      replace r0 := keep_cell hb5 r0
      refine hK.out _ _ ⟨s0, p0, p1⟩ (fun hHeld => ?_)
      clear hK K
      try simp only [Act.put, List.setIfInBounds_toArray, List.set_cons_zero, List.set_cons_succ]
      refine wpAnyH_ready (rs := [4]) (by kernel_rfl) (by simp) ?_
      refine AllReadyH.cons (o := ⟨some 22, _, _, _, _, _⟩) rfl (fun K hK => ?_) AllReadyH.nil
      go_simp
      refine (held_R v5 (Ls.getLastD []) f a n m _ hr5 HCAN.out (by omega) (by omega) (by omega)).mono ?_
      rintro e w6 ⟨c, rfl, hfe, hb6⟩
      have HFE := Lib.hid hfe
      replace s0 := keep_cell hb6 s0
      replace p0 := keep_cell hb6 p0
      replace p1 := keep_cell hb6 p1
      replace rf0 := keep_free hb6 r0 rf0
      replace r0 := keep_cell hb6 r0
      refine hK.out _ _ ⟨s0, p0, p1⟩ (fun hHeld => ?_)
      clear hK K
      try simp only [Act.put, List.setIfInBounds_toArray, List.set_cons_zero, List.set_cons_succ]
      refine wpAnyH_take (i := 5) (oi := ⟨some 8, _, _, _, _, _⟩) (v := ?v33) rfl (by kernel_rfl) (by kernel_rfl) (by kernel_rfl) (fun _ _ _ h => h) (Or.inl ⟨by rfl, ?hy33⟩) (by assumption) ?rest33
      case hy33 => (intro w hSw; (try dsimp only at hSw); go_simp; try with_reducible rfl)
      try simp only [Act.put, List.setIfInBounds_toArray, List.set_cons_zero, List.set_cons_succ]
      refine wpAnyH_done (by kernel_rfl) ?_ _
      clear hHeld
      have HB6 : Hid (Adds w w6) := Lib.hid (((HA3.out.trans hb4).trans hb5).trans hb6)
      have HHM : Hid (RefAt w6 (.agg #[.slice p nn cap]) Ls) := Lib.hid (HH.out.later HB6.out)
      clear hb4 hb5 hb5' hb6 hfe hr5
      by_cases hc0 : c = 0
      · subst hc0
        go_upto_region 6 with fail
        refine wp_region_held_drew (S := (fun w' => w'.cell? ⟨bS, 0, none⟩ = some (.slice p nn cap) ∧ w'.cell? ⟨bP, 0, none⟩ = some (.int .i64 a) ∧ w'.cell? ⟨bP, 1, none⟩ = some (.int .i64 n))) (by kernel_rfl) ⟨s0, p0, p1⟩ (fun hHeld => ?_)
        refine wpAnyH_take (i := 0) (oi := ⟨some 27, _, _, _, _, _⟩) (v := ?v34) rfl (by kernel_rfl) (by kernel_rfl) (by kernel_rfl) (fun _ _ _ h => h) (Or.inl ⟨by rfl, ?hy34⟩) (by assumption) ?rest34
        case hy34 => (intro w hSw; (try dsimp only at hSw); go_simp; try with_reducible rfl)
        try simp only [Act.put, List.setIfInBounds_toArray, List.set_cons_zero, List.set_cons_succ]
        refine wpAnyH_take (i := 1) (oi := ⟨some 28, _, _, _, _, _⟩) (v := ?v35) rfl (by kernel_rfl) (by kernel_rfl) (by kernel_rfl) (fun _ _ _ h => h) (Or.inl ⟨by rfl, ?hy35⟩) (by assumption) ?rest35
        case hy35 => (intro w hSw; (try dsimp only at hSw); go_simp; try with_reducible rfl)
        try simp only [Act.put, List.setIfInBounds_toArray, List.set_cons_zero, List.set_cons_succ]
        refine wpAnyH_take (i := 3) (oi := ⟨some 30, _, _, _, _, _⟩) (v := ?v36) rfl (by kernel_rfl) (by kernel_rfl) (by kernel_rfl) (fun _ _ _ h => h) (Or.inl ⟨by rfl, ?hy36⟩) (by assumption) ?rest36
        case hy36 => (intro w hSw; (try dsimp only at hSw); go_simp; try with_reducible rfl)
        try simp only [Act.put, List.setIfInBounds_toArray, List.set_cons_zero, List.set_cons_succ]
        refine wpAnyH_take (i := 4) (oi := ⟨some 31, _, _, _, _, _⟩) (v := ?v37) rfl (by kernel_rfl) (by kernel_rfl) (by kernel_rfl) (fun _ _ _ h => h) (Or.inl ⟨by rfl, ?hy37⟩) (by assumption) ?rest37
        case hy37 => (intro w hSw; (try dsimp only at hSw); go_simp; try with_reducible rfl)
        try simp only [Act.put, List.setIfInBounds_toArray, List.set_cons_zero, List.set_cons_succ]
        refine wpAnyH_ready (rs := [2]) (by kernel_rfl) (by simp) ?_
        refine AllReadyH.cons (o := ⟨some 29, _, _, _, _, _⟩) rfl (fun K hK => ?_) AllReadyH.nil
        go_simp
        refine (RLast_any _ Ls _ (HHM.out.later (Adds.refl _).drew)).mono ?_
        rintro e w7 ⟨v7, rfl, hr7, hb7'⟩
        have hb7 : Adds w6 w7 := (Adds.refl w6).drew.trans hb7'
        replace s0 := keep_cell hb7 s0
        replace p0 := keep_cell hb7 p0
        replace p1 := keep_cell hb7 p1
        replace rf0 := keep_free hb7 r0 rf0
        replace r0 := keep_cell hb7 r0
        refine hK.out _ _ ⟨s0, p0, p1⟩ (fun hHeld => ?_)
        clear hK K
        try simp only [Act.put, List.setIfInBounds_toArray, List.set_cons_zero, List.set_cons_succ]
        refine wpAnyH_ready (rs := [5]) (by kernel_rfl) (by simp) ?_
        refine AllReadyH.cons (o := ⟨some 32, _, _, _, _, _⟩) rfl (fun K hK => ?_) AllReadyH.nil
        go_simp
        refine (change_R v7 (Ls.getLastD []) a n 4 ⟨0, 0, 0, 0⟩ _ hr7 (can_bd HCAN.out) HCAN.out.len (by omega) (by omega) (by omega) (by omega) (by omega) (by omega)).mono ?_
        rintro e w8 ⟨v8, rfl, hr8, hb8⟩
        replace s0 := keep_cell hb8 s0
        replace p0 := keep_cell hb8 p0
        replace p1 := keep_cell hb8 p1
        replace rf0 := keep_free hb8 r0 rf0
        replace r0 := keep_cell hb8 r0
        refine hK.out _ _ ⟨s0, p0, p1⟩ (fun hHeld => ?_)
        clear hK K
        try simp only [Act.put, List.setIfInBounds_toArray, List.set_cons_zero, List.set_cons_succ]
        refine wpAnyH_ready (rs := [6]) (by kernel_rfl) (by simp) ?_
        refine AllReadyH.cons (o := ⟨some 33, _, _, _, _, _⟩) rfl (fun K hK => ?_) AllReadyH.nil
        go_simp
        refine (Rnext_any _ v8 _ Ls _ ((HHM.out.later hb7).later hb8) hr8 (by omega)).mono ?_
        rintro e w9 ⟨g9, n9, c9, rfl, hx9, hg9, hb9⟩
        have hg9R : g9 ≠ bR := by have := cell_lt r0; omega
        have HX9 := Lib.hid hx9
        clear hx9
        replace s0 := keep_cell hb9 s0
        replace p0 := keep_cell hb9 p0
        replace p1 := keep_cell hb9 p1
        replace rf0 := keep_free hb9 r0 rf0
        replace r0 := keep_cell hb9 r0
        refine hK.out _ _ ⟨s0, p0, p1⟩ (fun hHeld => ?_)
        clear hK K
        try simp only [Act.put, List.setIfInBounds_toArray, List.set_cons_zero, List.set_cons_succ]
        refine wpAnyH_ready (rs := [7]) (by kernel_rfl) (by simp) ?_
        refine AllReadyH.cons (o := ⟨none, _, _, _, _, _⟩) rfl (fun K hK => ?_) AllReadyH.nil
        go_simp
        have k0 : (w9.setCell ⟨bR, 0, none⟩ (.slice (some ⟨g9, 0, none⟩) n9 c9)).cell? ⟨bS, 0, none⟩ = some (.slice p nn cap) := (World.cell?_setCell_far _ _ _ _ (by exact hRS)).trans s0
        have k1 : (w9.setCell ⟨bR, 0, none⟩ (.slice (some ⟨g9, 0, none⟩) n9 c9)).cell? ⟨bP, 0, none⟩ = some (.int .i64 a) := (World.cell?_setCell_far _ _ _ _ (by exact hRP)).trans p0
        have k2 : (w9.setCell ⟨bR, 0, none⟩ (.slice (some ⟨g9, 0, none⟩) n9 c9)).cell? ⟨bP, 1, none⟩ = some (.int .i64 n) := (World.cell?_setCell_far _ _ _ _ (by exact hRP)).trans p1
        refine hK.out _ _ ⟨k0, k1, k2⟩ (fun hHeld => ?_)
        clear hK K
        try simp only [Act.put, List.setIfInBounds_toArray, List.set_cons_zero, List.set_cons_succ]
        refine wpAnyH_take (i := 8) (oi := ⟨some 7, _, _, _, _, _⟩) (v := ?v38) rfl (by kernel_rfl) (by kernel_rfl) (by kernel_rfl) (fun _ _ _ h => h) (Or.inl ⟨by rfl, ?hy38⟩) (by assumption) ?rest38
        case hy38 => (intro w hSw; (try dsimp only at hSw); go_simp; try with_reducible rfl)
        try simp only [Act.put, List.setIfInBounds_toArray, List.set_cons_zero, List.set_cons_succ]
        refine wpAnyH_done (by kernel_rfl) ?_ _
        clear hHeld
        go_wp2_with fail
        have AA : Adds w (w9.setCell ⟨bR, 0, none⟩ (.slice (some ⟨g9, 0, none⟩) n9 c9)) := (((HB6.out.trans hb7).trans hb8).trans hb9).set hwR _
        refine bodyPost_ret (v := .tuple #[.agg #[.slice (some ⟨g9, 0, none⟩) n9 c9], .int .i64 0]) ?_ rfl (Or.inr ⟨?_, 0, HFE.out, Or.inr ⟨rfl, g9, n9, c9, _, rfl, ?_, ?_, can_what HCAN.out HVAL.out (by omega) rfHeld_st HFE.out, AA⟩⟩)
        · simp [results, Try.results50, go_sem, r0]
        · have h1 := HVB.out
          have h2 := HMB.out
          simp [← h1, ← h2]
        · have z1 := HB6.out.size
          have z2 := hb7.size
          have z3 := hb8.size
          omega
        · exact HX9.out.put hg9R r0
      · have hc0' : (c != 0) = true := by simp [hc0]
        have HC0 := Lib.hid hc0
        clear hc0
        go_wp2_with fail
        refine bodyPost_ret (v := .tuple #[.agg #[.slice p nn cap], .int .i64 c]) ?_ rfl (Or.inr ⟨?_, c, HFE.out, Or.inl ⟨HC0.out, rfl, ?_⟩⟩)
        · simp [results, Try.results50, go_sem, r0]
        · have h1 := HVB.out
          have h2 := HMB.out
          simp [← h1, ← h2]
        · exact HB6.out.set hwR _

set_option maxRecDepth 100000 in
set_option maxHeartbeats 4000000 in
theorem Leave_R (x : Value) (Ls : List (List Piece)) (f : Int → Pk) (a n m : Int) (w : World) (h : RefAt w x Ls) (hC : Can f (Ls.getLastD []) 1000001) (hlen : Ls.length < 1000000) :
    Calls Try.prog 51 #[x, .agg #[.int .i64 a, .int .i64 n], .int .i64 m] w (RefGot f x Ls a n (inB 1000 m) (rfFree m) (fun q => whatF q ⟨0, 0, 0, 0⟩ 5) w) := by
  obtain ⟨p, nn, cap, rfl⟩ := h.form
  have HH := Lib.hid h
  have HCAN := Lib.hid hC
  clear h hC
  go_enter Try.func51, Try.ntmps51
  go_upto_region 1 with fail
  obtain ⟨bS, hbS⟩ : ∃ k, k = w.heap.size := ⟨_, rfl⟩
  obtain ⟨bP, hbP⟩ : ∃ k, k = w.heap.size + 1 := ⟨_, rfl⟩
  obtain ⟨bR, hbR⟩ : ∃ k, k = w.heap.size + 1 + 1 := ⟨_, rfl⟩
  obtain ⟨W3, hW3⟩ : ∃ V, V = ((w.alloc (.cells #[.slice p nn cap] 27)).alloc (.cells #[.int .i64 a, .int .i64 n] 32)).alloc (.cells #[.slice none 0 0] 27) := ⟨_, rfl⟩
  have A3 : Adds w W3 := by rw [hW3]; exact (((Adds.refl w).alloc _).alloc _).alloc _
  have XS : Box W3 bS #[.slice p nn cap] 27 := by rw [hW3, hbS]; exact Box.later (Box.new w _ _) (((Adds.refl _).alloc _).alloc _)
  have XP : Box W3 bP #[.int .i64 a, .int .i64 n] 32 := by rw [hW3, hbP]; exact Box.later (new_at (w := w.alloc (.cells #[.slice p nn cap] 27)) (by simp)) ((Adds.refl _).alloc _)
  have XR : Box W3 bR #[.slice none 0 0] 27 := by rw [hW3, hbR]; exact new_at (by simp)
  have hwR : w.heap.size ≤ bR := by omega
  have hRS : bR ≠ bS := by omega
  have hRP : bR ≠ bP := by omega
  rw [← hW3, ← hbR, ← hbP, ← hbS]
  have HA3 := Lib.hid A3
  have HXS := Lib.hid XS
  have HXP := Lib.hid XP
  have HXR := Lib.hid XR
  have s0 := XS.cell 0
  have p0 := XP.cell 0
  have p1 := XP.cell 1
  have r0 := XR.cell 0
  have rf0 := XR.free 0
  simp only [List.getElem?_toArray, List.getElem?_cons_zero, List.getElem?_cons_succ] at s0 p0 p1 r0
  have HHL : Hid (RefAt W3 (.agg #[.slice p nn cap]) Ls) := Lib.hid (HH.out.later A3)
  clear hW3 hbS hbP hbR A3 XS XP XR
  obtain ⟨vb, hvb⟩ : ∃ b, b = validB a n := ⟨_, rfl⟩
  obtain ⟨mb, hmb⟩ : ∃ b, b = inB 1000 m := ⟨_, rfl⟩
  have HVB := Lib.hid hvb
  have HMB := Lib.hid hmb
  have hcv : Hid (∀ W, Calls Try.prog 93 #[.agg #[.int .i64 a, .int .i64 n]] W fun e w' => e = .returned (.bool vb) ∧ Adds W w') := Lib.hid (fun W => by rw [hvb]; exact RValid_any a n W)
  have hcm : Hid (∀ W, Calls Try.prog 68 #[.int .i64 m] W fun e w' => e = .returned (.bool mb) ∧ W = w') := Lib.hid (fun W => by rw [hmb]; exact Rmember_any m W)
  clear hvb hmb
  cases vb with
  | false =>
    go_wp2_with (first
      | (go_at_call 93; refine (hcv.out _).mono ?_; rintro e w4 ⟨rfl, hb4⟩; replace s0 := keep_cell hb4 s0; replace p0 := keep_cell hb4 p0; replace p1 := keep_cell hb4 p1; replace rf0 := keep_free hb4 r0 rf0; replace r0 := keep_cell hb4 r0; have HB4 := Lib.hid hb4; clear hb4)
      | (go_at_call 68; refine (hcm.out _).mono ?_; rintro e w' ⟨rfl, rfl⟩))
    refine bodyPost_ret (v := .tuple #[.agg #[.slice p nn cap], .int .i64 1]) ?_ rfl (Or.inl ⟨?_, rfl, ?_⟩)
    · simp [results, Try.results51, go_sem, r0]
    · have h1 := HVB.out
      have h2 := HMB.out
      simp [← h1, ← h2]
    · exact (HA3.out.trans HB4.out).set hwR _
  | true =>
    cases mb with
    | false =>
      go_wp2_with (first
        | (go_at_call 93; refine (hcv.out _).mono ?_; rintro e w4 ⟨rfl, hb4⟩; replace s0 := keep_cell hb4 s0; replace p0 := keep_cell hb4 p0; replace p1 := keep_cell hb4 p1; replace rf0 := keep_free hb4 r0 rf0; replace r0 := keep_cell hb4 r0; have HB4 := Lib.hid hb4; clear hb4)
        | (go_at_call 68; refine (hcm.out _).mono ?_; rintro e w' ⟨rfl, rfl⟩))
      refine bodyPost_ret (v := .tuple #[.agg #[.slice p nn cap], .int .i64 1]) ?_ rfl (Or.inl ⟨?_, rfl, ?_⟩)
      · simp [results, Try.results51, go_sem, r0]
      · have h1 := HVB.out
        have h2 := HMB.out
        simp [← h1, ← h2]
      · exact (HA3.out.trans HB4.out).set hwR _
    | true =>
      go_upto_region 3 with (first
        | (go_at_call 93; refine (hcv.out _).mono ?_; rintro e w4 ⟨rfl, hb4⟩; replace s0 := keep_cell hb4 s0; replace p0 := keep_cell hb4 p0; replace p1 := keep_cell hb4 p1; replace rf0 := keep_free hb4 r0 rf0; replace r0 := keep_cell hb4 r0; have HB4 := Lib.hid hb4; clear hb4)
        | (go_at_call 68; refine (hcm.out _).mono ?_; rintro e w' ⟨rfl, rfl⟩))
      have hval : validB a n = true := HVB.out.symm
      obtain ⟨hv1, hv2, hv3, hv4⟩ := validB_iff.1 hval
      have HVAL := Lib.hid hval
      clear hval
      have hb4 := HB4.out
      refine wp_region_held_drew (S := (fun w' => w'.cell? ⟨bS, 0, none⟩ = some (.slice p nn cap) ∧ w'.cell? ⟨bP, 0, none⟩ = some (.int .i64 a) ∧ w'.cell? ⟨bP, 1, none⟩ = some (.int .i64 n))) (by kernel_rfl) ⟨s0, p0, p1⟩ (fun hHeld => ?_)
      refine wpAnyH_take (i := 0) (oi := ⟨some 18, _, _, _, _, _⟩) (v := ?v39) rfl (by kernel_rfl) (by kernel_rfl) (by kernel_rfl) (fun _ _ _ h => h) (Or.inl ⟨by rfl, ?hy39⟩) (by assumption) ?rest39
      case hy39 => (intro w hSw; (try dsimp only at hSw); go_simp; try with_reducible rfl)
      try simp only [Act.put, List.setIfInBounds_toArray, List.set_cons_zero, List.set_cons_succ]
      refine wpAnyH_take (i := 2) (oi := ⟨some 20, _, _, _, _, _⟩) (v := ?v40) rfl (by kernel_rfl) (by kernel_rfl) (by kernel_rfl) (fun _ _ _ h => h) (Or.inl ⟨by rfl, ?hy40⟩) (by assumption) ?rest40
      case hy40 => (intro w hSw; (try dsimp only at hSw); go_simp; try with_reducible rfl)
      try simp only [Act.put, List.setIfInBounds_toArray, List.set_cons_zero, List.set_cons_succ]
      refine wpAnyH_take (i := 3) (oi := ⟨some 21, _, _, _, _, _⟩) (v := ?v41) rfl (by kernel_rfl) (by kernel_rfl) (by kernel_rfl) (fun _ _ _ h => h) (Or.inl ⟨by rfl, ?hy41⟩) (by assumption) ?rest41
      case hy41 => (intro w hSw; (try dsimp only at hSw); go_simp; try with_reducible rfl)
      try simp only [Act.put, List.setIfInBounds_toArray, List.set_cons_zero, List.set_cons_succ]
      refine wpAnyH_ready (rs := [1]) (by kernel_rfl) (by simp) ?_
      refine AllReadyH.cons (o := ⟨some 19, _, _, _, _, _⟩) rfl (fun K hK => ?_) AllReadyH.nil
      go_simp
      refine (RLast_any _ Ls _ ((HHL.out.later hb4).later (Adds.refl _).drew)).mono ?_
      rintro e w5 ⟨v5, rfl, hr5, hb5'⟩
      have hb5 : Adds w4 w5 := (Adds.refl w4).drew.trans hb5'
      replace s0 := keep_cell hb5 s0
      replace p0 := keep_cell hb5 p0
      replace p1 := keep_cell hb5 p1
      replace rf0 := keep_free hb5 r0 rf0
      replace r0 := keep_cell hb5 r0
      refine hK.out _ _ ⟨s0, p0, p1⟩ (fun hHeld => ?_)
      clear hK K
      try simp only [Act.put, List.setIfInBounds_toArray, List.set_cons_zero, List.set_cons_succ]
      refine wpAnyH_ready (rs := [4]) (by kernel_rfl) (by simp) ?_
      refine AllReadyH.cons (o := ⟨some 22, _, _, _, _, _⟩) rfl (fun K hK => ?_) AllReadyH.nil
      go_simp
      refine (owned_R v5 (Ls.getLastD []) f a n m _ hr5 HCAN.out (by omega) (by omega) (by omega)).mono ?_
      rintro e w6 ⟨c, rfl, hfe, hb6⟩
      have HFE := Lib.hid hfe
      replace s0 := keep_cell hb6 s0
      replace p0 := keep_cell hb6 p0
      replace p1 := keep_cell hb6 p1
      replace rf0 := keep_free hb6 r0 rf0
      replace r0 := keep_cell hb6 r0
      refine hK.out _ _ ⟨s0, p0, p1⟩ (fun hHeld => ?_)
      clear hK K
      try simp only [Act.put, List.setIfInBounds_toArray, List.set_cons_zero, List.set_cons_succ]
      refine wpAnyH_take (i := 5) (oi := ⟨some 8, _, _, _, _, _⟩) (v := ?v42) rfl (by kernel_rfl) (by kernel_rfl) (by kernel_rfl) (fun _ _ _ h => h) (Or.inl ⟨by rfl, ?hy42⟩) (by assumption) ?rest42
      case hy42 => (intro w hSw; (try dsimp only at hSw); go_simp; try with_reducible rfl)
      try simp only [Act.put, List.setIfInBounds_toArray, List.set_cons_zero, List.set_cons_succ]
      refine wpAnyH_done (by kernel_rfl) ?_ _
      clear hHeld
      have HB6 : Hid (Adds w w6) := Lib.hid (((HA3.out.trans hb4).trans hb5).trans hb6)
      have HHM : Hid (RefAt w6 (.agg #[.slice p nn cap]) Ls) := Lib.hid (HH.out.later HB6.out)
      clear hb4 hb5 hb5' hb6 hfe hr5
      by_cases hc0 : c = 0
      · subst hc0
        go_upto_region 6 with fail
        refine wp_region_held_drew (S := (fun w' => w'.cell? ⟨bS, 0, none⟩ = some (.slice p nn cap) ∧ w'.cell? ⟨bP, 0, none⟩ = some (.int .i64 a) ∧ w'.cell? ⟨bP, 1, none⟩ = some (.int .i64 n))) (by kernel_rfl) ⟨s0, p0, p1⟩ (fun hHeld => ?_)
        refine wpAnyH_take (i := 0) (oi := ⟨some 27, _, _, _, _, _⟩) (v := ?v43) rfl (by kernel_rfl) (by kernel_rfl) (by kernel_rfl) (fun _ _ _ h => h) (Or.inl ⟨by rfl, ?hy43⟩) (by assumption) ?rest43
        case hy43 => (intro w hSw; (try dsimp only at hSw); go_simp; try with_reducible rfl)
        try simp only [Act.put, List.setIfInBounds_toArray, List.set_cons_zero, List.set_cons_succ]
        refine wpAnyH_take (i := 1) (oi := ⟨some 28, _, _, _, _, _⟩) (v := ?v44) rfl (by kernel_rfl) (by kernel_rfl) (by kernel_rfl) (fun _ _ _ h => h) (Or.inl ⟨by rfl, ?hy44⟩) (by assumption) ?rest44
        case hy44 => (intro w hSw; (try dsimp only at hSw); go_simp; try with_reducible rfl)
        try simp only [Act.put, List.setIfInBounds_toArray, List.set_cons_zero, List.set_cons_succ]
        refine wpAnyH_take (i := 3) (oi := ⟨some 30, _, _, _, _, _⟩) (v := ?v45) rfl (by kernel_rfl) (by kernel_rfl) (by kernel_rfl) (fun _ _ _ h => h) (Or.inl ⟨by rfl, ?hy45⟩) (by assumption) ?rest45
        case hy45 => (intro w hSw; (try dsimp only at hSw); go_simp; try with_reducible rfl)
        try simp only [Act.put, List.setIfInBounds_toArray, List.set_cons_zero, List.set_cons_succ]
        refine wpAnyH_take (i := 4) (oi := ⟨some 31, _, _, _, _, _⟩) (v := ?v46) rfl (by kernel_rfl) (by kernel_rfl) (by kernel_rfl) (fun _ _ _ h => h) (Or.inl ⟨by rfl, ?hy46⟩) (by assumption) ?rest46
        case hy46 => (intro w hSw; (try dsimp only at hSw); go_simp; try with_reducible rfl)
        try simp only [Act.put, List.setIfInBounds_toArray, List.set_cons_zero, List.set_cons_succ]
        refine wpAnyH_ready (rs := [2]) (by kernel_rfl) (by simp) ?_
        refine AllReadyH.cons (o := ⟨some 29, _, _, _, _, _⟩) rfl (fun K hK => ?_) AllReadyH.nil
        go_simp
        refine (RLast_any _ Ls _ (HHM.out.later (Adds.refl _).drew)).mono ?_
        rintro e w7 ⟨v7, rfl, hr7, hb7'⟩
        have hb7 : Adds w6 w7 := (Adds.refl w6).drew.trans hb7'
        replace s0 := keep_cell hb7 s0
        replace p0 := keep_cell hb7 p0
        replace p1 := keep_cell hb7 p1
        replace rf0 := keep_free hb7 r0 rf0
        replace r0 := keep_cell hb7 r0
        refine hK.out _ _ ⟨s0, p0, p1⟩ (fun hHeld => ?_)
        clear hK K
        try simp only [Act.put, List.setIfInBounds_toArray, List.set_cons_zero, List.set_cons_succ]
        refine wpAnyH_ready (rs := [5]) (by kernel_rfl) (by simp) ?_
        refine AllReadyH.cons (o := ⟨some 32, _, _, _, _, _⟩) rfl (fun K hK => ?_) AllReadyH.nil
        go_simp
        refine (change_R v7 (Ls.getLastD []) a n 5 ⟨0, 0, 0, 0⟩ _ hr7 (can_bd HCAN.out) HCAN.out.len (by omega) (by omega) (by omega) (by omega) (by omega) (by omega)).mono ?_
        rintro e w8 ⟨v8, rfl, hr8, hb8⟩
        replace s0 := keep_cell hb8 s0
        replace p0 := keep_cell hb8 p0
        replace p1 := keep_cell hb8 p1
        replace rf0 := keep_free hb8 r0 rf0
        replace r0 := keep_cell hb8 r0
        refine hK.out _ _ ⟨s0, p0, p1⟩ (fun hHeld => ?_)
        clear hK K
        try simp only [Act.put, List.setIfInBounds_toArray, List.set_cons_zero, List.set_cons_succ]
        refine wpAnyH_ready (rs := [6]) (by kernel_rfl) (by simp) ?_
        refine AllReadyH.cons (o := ⟨some 33, _, _, _, _, _⟩) rfl (fun K hK => ?_) AllReadyH.nil
        go_simp
        refine (Rnext_any _ v8 _ Ls _ ((HHM.out.later hb7).later hb8) hr8 (by omega)).mono ?_
        rintro e w9 ⟨g9, n9, c9, rfl, hx9, hg9, hb9⟩
        have hg9R : g9 ≠ bR := by have := cell_lt r0; omega
        have HX9 := Lib.hid hx9
        clear hx9
        replace s0 := keep_cell hb9 s0
        replace p0 := keep_cell hb9 p0
        replace p1 := keep_cell hb9 p1
        replace rf0 := keep_free hb9 r0 rf0
        replace r0 := keep_cell hb9 r0
        refine hK.out _ _ ⟨s0, p0, p1⟩ (fun hHeld => ?_)
        clear hK K
        try simp only [Act.put, List.setIfInBounds_toArray, List.set_cons_zero, List.set_cons_succ]
        refine wpAnyH_ready (rs := [7]) (by kernel_rfl) (by simp) ?_
        refine AllReadyH.cons (o := ⟨none, _, _, _, _, _⟩) rfl (fun K hK => ?_) AllReadyH.nil
        go_simp
        have k0 : (w9.setCell ⟨bR, 0, none⟩ (.slice (some ⟨g9, 0, none⟩) n9 c9)).cell? ⟨bS, 0, none⟩ = some (.slice p nn cap) := (World.cell?_setCell_far _ _ _ _ (by exact hRS)).trans s0
        have k1 : (w9.setCell ⟨bR, 0, none⟩ (.slice (some ⟨g9, 0, none⟩) n9 c9)).cell? ⟨bP, 0, none⟩ = some (.int .i64 a) := (World.cell?_setCell_far _ _ _ _ (by exact hRP)).trans p0
        have k2 : (w9.setCell ⟨bR, 0, none⟩ (.slice (some ⟨g9, 0, none⟩) n9 c9)).cell? ⟨bP, 1, none⟩ = some (.int .i64 n) := (World.cell?_setCell_far _ _ _ _ (by exact hRP)).trans p1
        refine hK.out _ _ ⟨k0, k1, k2⟩ (fun hHeld => ?_)
        clear hK K
        try simp only [Act.put, List.setIfInBounds_toArray, List.set_cons_zero, List.set_cons_succ]
        refine wpAnyH_take (i := 8) (oi := ⟨some 7, _, _, _, _, _⟩) (v := ?v47) rfl (by kernel_rfl) (by kernel_rfl) (by kernel_rfl) (fun _ _ _ h => h) (Or.inl ⟨by rfl, ?hy47⟩) (by assumption) ?rest47
        case hy47 => (intro w hSw; (try dsimp only at hSw); go_simp; try with_reducible rfl)
        try simp only [Act.put, List.setIfInBounds_toArray, List.set_cons_zero, List.set_cons_succ]
        refine wpAnyH_done (by kernel_rfl) ?_ _
        clear hHeld
        go_wp2_with fail
        have AA : Adds w (w9.setCell ⟨bR, 0, none⟩ (.slice (some ⟨g9, 0, none⟩) n9 c9)) := (((HB6.out.trans hb7).trans hb8).trans hb9).set hwR _
        refine bodyPost_ret (v := .tuple #[.agg #[.slice (some ⟨g9, 0, none⟩) n9 c9], .int .i64 0]) ?_ rfl (Or.inr ⟨?_, 0, HFE.out, Or.inr ⟨rfl, g9, n9, c9, _, rfl, ?_, ?_, can_what HCAN.out HVAL.out (by omega) rfFree_st HFE.out, AA⟩⟩)
        · simp [results, Try.results51, go_sem, r0]
        · have h1 := HVB.out
          have h2 := HMB.out
          simp [← h1, ← h2]
        · have z1 := HB6.out.size
          have z2 := hb7.size
          have z3 := hb8.size
          omega
        · exact HX9.out.put hg9R r0
      · have hc0' : (c != 0) = true := by simp [hc0]
        have HC0 := Lib.hid hc0
        clear hc0
        go_wp2_with fail
        refine bodyPost_ret (v := .tuple #[.agg #[.slice p nn cap], .int .i64 c]) ?_ rfl (Or.inr ⟨?_, c, HFE.out, Or.inl ⟨HC0.out, rfl, ?_⟩⟩)
        · simp [results, Try.results51, go_sem, r0]
        · have h1 := HVB.out
          have h2 := HMB.out
          simp [← h1, ← h2]
        · exact HB6.out.set hwR _

end Go.Proofs.Ytofaioabjkcaiaa
