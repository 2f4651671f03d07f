/- Best. -/
import Derived.Test.YtigpghmbeldakaaP
namespace Go.Proofs.Ytigpghmbeldakaa
open Go.RowKit

/-- What Best says. -/
structure BestRes (l : List Bd) (lo hi v er : Int) : Prop where
  bad : checkT l ≠ 0 → lo = 0 ∧ hi = 0 ∧ v = 0 ∧ er = checkT l
  none : checkT l = 0 → er ≠ 0 → lo = 0 ∧ hi = 0 ∧ v = 0 ∧ er = 30 ∧ ∀ x, InR x → volAt l x ≤ 0
  some : checkT l = 0 → er = 0 → BestAt l lo ∧ BestAt l hi ∧ (∀ y, BestAt l y → lo ≤ y ∧ y ≤ hi) ∧ v = volAt l lo ∧ 0 < v

def BestGot (l : List Bd) (w : World) (e : Ending) (w' : World) : Prop :=
  ∃ lo hi v er, BestRes l lo hi v er ∧ e = .returned (.tuple #[.int .i64 lo, .int .i64 hi, .int .i64 v, .int .i64 er]) ∧ Adds w w'

theorem best_ends {l : List Bd} {ref : Int} {S : List Sp} (h : Spots l ref S) {s t : Sp} (h0 : (leastT (scT ref 0) S)[0]? = some s) (h1 : (leastT (scT ref 0) S)[(leastT (scT ref 0) S).length - 1]? = some t) :
    BestAt l s.1 ∧ BestAt l t.1 ∧ (∀ y, BestAt l y → s.1 ≤ y ∧ y ≤ t.1) ∧ min s.2.1 s.2.2 = volAt l s.1 := by
  have hs := List.mem_of_getElem? h0
  have ht := List.mem_of_getElem? h1
  have hsS := leastT_sub s hs
  have htS := leastT_sub t ht
  have f0 := sorted_first (leastT_sorted h.sorted) h0
  have f1 := sorted_last (leastT_sorted h.sorted) h1
  obtain ⟨_, _, a3, a4⟩ := h.right s hsS
  refine ⟨(best_iff h hsS).1 hs, (best_iff h htS).1 ht, fun y hy => ?_, by rw [a3, a4]; rfl⟩
  obtain ⟨lo, hi, b1, b2, hm, b3, b4, hsame⟩ := h.cover y hy.1.1 hy.1.2
  have m1 := hm (lo, dem l y, sup l y) (by simp [three])
  have m2 := hm (hi, dem l y, sup l y) (by simp [three])
  obtain ⟨c1, c2⟩ := hsame lo (Int.le_refl _) (by omega)
  obtain ⟨d1, d2⟩ := hsame hi (by omega) (Int.le_refl _)
  have g1 := f0 _ ((best_iff h m1).2 (best_same hy ⟨b3, by omega⟩ c1 c2))
  have g2 := f1 _ ((best_iff h m2).2 (best_same hy ⟨by omega, b4⟩ d1 d2))
  simp only at g1 g2
  constructor <;> omega

theorem ret4 {a b c d a' b' c' d' : Int} (h : a = a') (k : b = b') (j : c = c') (i : d = d') : Ending.returned (.tuple #[.int .i64 a, .int .i64 b, .int .i64 c, .int .i64 d]) = .returned (.tuple #[.int .i64 a', .int .i64 b', .int .i64 c', .int .i64 d']) := by rw [h, k, j, i]

set_option maxRecDepth 100000 in
set_option maxHeartbeats 2000000 in
theorem Best_any (p : Option Addr) (cap : Nat) (l : List Bd) (w : World) (hN : l.length ≤ maxLen) (hL : At3 w p l) :
    Calls Try.prog 20 #[.slice p l.length cap] w (BestGot l w) := by
  have hck := Check_any p cap l w hN hL
  have HL := Lib.hid hL
  by_cases h0 : checkT l = 0
  · obtain ⟨c1, c2⟩ := check_zero.1 h0
    have HO := Lib.hid c2
    have HN := Lib.hid c1
    have H0 := Lib.hid h0
    rw [h0] at hck
    clear hL hN c1 c2 h0
    go_enter Try.func20, Try.ntmps20
    go_upto_region 5 with (first
      | (go_at_call 17; refine hck.mono ?_; rintro e w1 ⟨rfl, hb1⟩)
      | (go_at_call 45; refine (spots_any p cap l 1 _ (by have := HN.out; omega) (HL.out.later hb1) HO.out).mono ?_; rintro e w2 ⟨g, cap', S, e1, e2, rfl, e3, e4, e5⟩; have HSP := Lib.hid e1; have HSL := Lib.hid e2; have HG := Lib.hid e3; have HRW := Lib.hid e4; have HB := Lib.hid e5; clear e1 e2 e3 e4 e5)
      | (go_at_call 44; refine (least_any (fun _ => True) 46 #[] (scT 1 0) g cap' S _ (by have := HSL.out; omega) HSP.out.pos HRW.out ⟨fun args w => enters_of Try.func46 (by kernel_rfl) rfl args w, fun a b c h W _ => missed_sp a b c W (spOk_of HO.out (by have := HN.out; omega) HSP.out _ h), fun _ _ _ _ => trivial⟩ (fun _ _ => trivial)).mono ?_; rintro e w3 ⟨rfl, r1, r2⟩; have R1 := Lib.hid r1; have R2 := Lib.hid r2; clear r1 r2))
    have hne : leastT (scT 1 0) S ≠ [] := leastT_ne (fun h => by have := HSP.out.pos; rw [h] at this; simp at this)
    have hpos := List.length_pos_iff.2 hne
    obtain ⟨⟨a, b, c⟩, h1⟩ : ∃ t, (leastT (scT 1 0) S)[0]? = some t := ⟨_, List.getElem?_eq_getElem hpos⟩
    obtain ⟨⟨x, y, z⟩, h2⟩ : ∃ t, (leastT (scT 1 0) S)[(leastT (scT 1 0) S).length - 1]? = some t := ⟨_, List.getElem?_eq_getElem (by omega)⟩
    have hlen := Nat.le_trans (leastT_len (scT 1 0) S) HSL.out
    have HBE := Lib.hid (best_ends HSP.out h1 h2)
    obtain ⟨_, _, e', d0, d1, d2⟩ := R1.out.at3 _ _ h1
    cases e'
    obtain ⟨_, _, e', x0, x1, x2⟩ := R1.out.at3 _ _ h2
    cases e'
    simp only [Nat.zero_mul, Nat.add_zero, Nat.zero_add] at d0 d1 d2 x0 x1 x2
    obtain ⟨N, hNl⟩ : ∃ N, N = (leastT (scT 1 0) S).length := ⟨_, rfl⟩
    rw [← hNl] at hpos hlen x0 x1 x2 ⊢
    have hgl := R1.out.lt
    have HA : Hid (Adds w w3) := Lib.hid (Touch.adds (hb1.trans HB.out) R2.out (fun i hi => by have := HG.out; have := hb1.size; omega))
    clear h1 h2 hne hNl hb1
    have q1 : IntKind.i64.wrap ((N : Int) - 1) = (N : Int) - 1 := IntWalk.i64_in _ (by omega)
    have q2 : ((N : Int) - 1).toNat = N - 1 := by omega
    have q3 : (0 : Int) ≤ (N : Int) - 1 := by omega
    have q4 : (N : Int) - 1 < (N : Int) := by omega
    obtain ⟨v, hv⟩ : ∃ v, v = min b c := ⟨_, rfl⟩
    have hvol : ∀ W, Calls Try.prog 47 #[.agg #[.int .i64 a, .int .i64 b, .int .i64 c]] W fun e w' => e = .returned (.int .i64 v) ∧ Adds W w' := fun W => by rw [hv]; exact volume_any a b c W
    have HVV := Lib.hid hv
    clear hv
    go_region
    all_goals clear q1 q2 q3 q4
    all_goals (go_wp2_with (go_at_call 47; fail))
    · obtain ⟨W4, hW4⟩ : ∃ V, V = ((w3.alloc (.cells #[.int .i64 a, .int .i64 b, .int .i64 c] 80)).alloc (.cells #[.int .i64 x, .int .i64 y, .int .i64 z] 80)).drew := ⟨_, rfl⟩
      have A4 : Adds w3 W4 := by rw [hW4]; exact (((Adds.refl w3).alloc _).alloc _).drew
      have BF : Box W4 w3.heap.size #[.int .i64 a, .int .i64 b, .int .i64 c] 80 := by rw [hW4]; exact (((Box.new w3 _ _).alloc _).drew)
      have BS : Box W4 (w3.heap.size + 1) #[.int .i64 x, .int .i64 y, .int .i64 z] 80 := by rw [hW4]; have := (Box.new (w3.alloc (.cells #[.int .i64 a, .int .i64 b, .int .i64 c] 80)) #[.int .i64 x, .int .i64 y, .int .i64 z] 80).drew; rw [World.size_alloc] at this; exact this
      rw [← hW4]
      clear hW4
      have HA4 := Lib.hid A4
      have HBA := Lib.hid BF
      have HBX := Lib.hid BS
      have y0 := BF.cell 0
      have y1 := BF.cell 1
      have y2 := BF.cell 2
      have y3 := BS.cell 0
      simp only [List.getElem?_toArray, List.getElem?_cons_zero, List.getElem?_cons_succ] at y0 y1 y2 y3
      have z1 := BF.lt
      have z2 := BS.lt
      clear A4 BF BS
      by_cases hv0 : v = 0
      · subst hv0
        refine (hvol _).mono ?_
        rintro e w5 ⟨rfl, hb5⟩
        go_wp2
        refine bodyPost_ret (v := .tuple #[.int .i64 0, .int .i64 0, .int .i64 0, .int .i64 30]) ?_ rfl ⟨0, 0, 0, 30, ⟨fun h => absurd H0.out h, fun _ _ => ⟨rfl, rfl, rfl, rfl, fun u hu => ?_⟩, fun _ h => by cases h⟩, rfl, (HA.out.trans HA4.out).trans hb5⟩
        · simp [results, Try.results20, go_sem]
        · obtain ⟨g1, g2, g3, g4⟩ := HBE.out
          have := g1.2 u hu
          rw [← g4, ← HVV.out] at this
          exact this
      · have hne : (v == 0) = false := beq_eq_false_iff_ne.2 hv0
        have HNZ := Lib.hid hv0
        clear hv0
        refine (hvol _).mono ?_
        rintro e w5 ⟨rfl, hb5⟩
        have c0 := keep_cell hb5 y0
        have c1 := keep_cell hb5 y1
        have c2 := keep_cell hb5 y2
        have c3 := keep_cell hb5 y3
        have HA5 := Lib.hid ((HA.out.trans HA4.out).trans hb5)
        have z5 := hb5.size
        clear y0 y1 y2 y3 hb5
        go_upto_region 8 with fail
        go_region_held3 (fun w' => w'.cell? ⟨w3.heap.size, 0, none⟩ = some (.int .i64 a) ∧ w'.cell? ⟨w3.heap.size, 1, none⟩ = some (.int .i64 b) ∧ w'.cell? ⟨w3.heap.size, 2, none⟩ = some (.int .i64 c) ∧ w'.cell? ⟨w3.heap.size + 1, 0, none⟩ = some (.int .i64 x) ∧ Hid (Adds w5 w'))
          (first | (refine ⟨?_, ?_, ?_, ?_, Lib.hid (Adds.refl _).drew⟩ <;> go_keep; done) | (have hq := Lib.hid (Adds.trans hh.2.2.2.2.out hb6); exact ⟨keep_cell hq.out c0, keep_cell hq.out c1, keep_cell hq.out c2, keep_cell hq.out c3, hq⟩))
          ((go_simp; go_at_call 47; rename_i hh _ _; refine (hvol _).mono ?_; rintro e w6 ⟨rfl, hb6⟩))
        go_wp2
        refine bodyPost_ret (v := .tuple #[.int .i64 a, .int .i64 x, .int .i64 v, .int .i64 0]) ?_ rfl ⟨a, x, v, 0, ⟨fun h => absurd H0.out h, fun _ h => absurd rfl h, fun _ _ => ?_⟩, rfl, HA5.out.trans (hh.2.2.2.2.out.trans hb6)⟩
        · simp [results, Try.results20, go_sem]
        · obtain ⟨g1, g2, g3, g4⟩ := HBE.out
          refine ⟨g1, g2, g3, HVV.out.trans g4, ?_⟩
          have := vol_nonneg HO.out a
          have := HNZ.out
          rw [HVV.out] at this ⊢
          try simp only at g4
          omega
    · obtain ⟨W4, hW4⟩ : ∃ V, V = ((w3.alloc (.cells #[.int .i64 x, .int .i64 y, .int .i64 z] 80)).alloc (.cells #[.int .i64 a, .int .i64 b, .int .i64 c] 80)).drew := ⟨_, rfl⟩
      have A4 : Adds w3 W4 := by rw [hW4]; exact (((Adds.refl w3).alloc _).alloc _).drew
      have BF : Box W4 w3.heap.size #[.int .i64 x, .int .i64 y, .int .i64 z] 80 := by rw [hW4]; exact (((Box.new w3 _ _).alloc _).drew)
      have BS : Box W4 (w3.heap.size + 1) #[.int .i64 a, .int .i64 b, .int .i64 c] 80 := by rw [hW4]; have := (Box.new (w3.alloc (.cells #[.int .i64 x, .int .i64 y, .int .i64 z] 80)) #[.int .i64 a, .int .i64 b, .int .i64 c] 80).drew; rw [World.size_alloc] at this; exact this
      rw [← hW4]
      clear hW4
      have HA4 := Lib.hid A4
      have HBA := Lib.hid BS
      have HBX := Lib.hid BF
      have y0 := BS.cell 0
      have y1 := BS.cell 1
      have y2 := BS.cell 2
      have y3 := BF.cell 0
      simp only [List.getElem?_toArray, List.getElem?_cons_zero, List.getElem?_cons_succ] at y0 y1 y2 y3
      have z1 := BF.lt
      have z2 := BS.lt
      clear A4 BF BS
      by_cases hv0 : v = 0
      · subst hv0
        refine (hvol _).mono ?_
        rintro e w5 ⟨rfl, hb5⟩
        go_wp2
        refine bodyPost_ret (v := .tuple #[.int .i64 0, .int .i64 0, .int .i64 0, .int .i64 30]) ?_ rfl ⟨0, 0, 0, 30, ⟨fun h => absurd H0.out h, fun _ _ => ⟨rfl, rfl, rfl, rfl, fun u hu => ?_⟩, fun _ h => by cases h⟩, rfl, (HA.out.trans HA4.out).trans hb5⟩
        · simp [results, Try.results20, go_sem]
        · obtain ⟨g1, g2, g3, g4⟩ := HBE.out
          have := g1.2 u hu
          rw [← g4, ← HVV.out] at this
          exact this
      · have hne : (v == 0) = false := beq_eq_false_iff_ne.2 hv0
        have HNZ := Lib.hid hv0
        clear hv0
        refine (hvol _).mono ?_
        rintro e w5 ⟨rfl, hb5⟩
        have c0 := keep_cell hb5 y0
        have c1 := keep_cell hb5 y1
        have c2 := keep_cell hb5 y2
        have c3 := keep_cell hb5 y3
        have HA5 := Lib.hid ((HA.out.trans HA4.out).trans hb5)
        have z5 := hb5.size
        clear y0 y1 y2 y3 hb5
        go_upto_region 8 with fail
        go_region_held3 (fun w' => w'.cell? ⟨w3.heap.size + 1, 0, none⟩ = some (.int .i64 a) ∧ w'.cell? ⟨w3.heap.size + 1, 1, none⟩ = some (.int .i64 b) ∧ w'.cell? ⟨w3.heap.size + 1, 2, none⟩ = some (.int .i64 c) ∧ w'.cell? ⟨w3.heap.size, 0, none⟩ = some (.int .i64 x) ∧ Hid (Adds w5 w'))
          (first | (refine ⟨?_, ?_, ?_, ?_, Lib.hid (Adds.refl _).drew⟩ <;> go_keep; done) | (have hq := Lib.hid (Adds.trans hh.2.2.2.2.out hb6); exact ⟨keep_cell hq.out c0, keep_cell hq.out c1, keep_cell hq.out c2, keep_cell hq.out c3, hq⟩))
          ((go_simp; go_at_call 47; rename_i hh _ _; refine (hvol _).mono ?_; rintro e w6 ⟨rfl, hb6⟩))
        go_wp2
        refine bodyPost_ret (v := .tuple #[.int .i64 a, .int .i64 x, .int .i64 v, .int .i64 0]) ?_ rfl ⟨a, x, v, 0, ⟨fun h => absurd H0.out h, fun _ h => absurd rfl h, fun _ _ => ?_⟩, rfl, HA5.out.trans (hh.2.2.2.2.out.trans hb6)⟩
        · simp [results, Try.results20, go_sem]
        · obtain ⟨g1, g2, g3, g4⟩ := HBE.out
          refine ⟨g1, g2, g3, HVV.out.trans g4, ?_⟩
          have := vol_nonneg HO.out a
          have := HNZ.out
          rw [HVV.out] at this ⊢
          try simp only at g4
          omega
  · have H0 := Lib.hid h0
    obtain ⟨c, hc⟩ : ∃ c, c = checkT l := ⟨_, rfl⟩
    rw [← hc] at hck h0
    have HC := Lib.hid hc
    clear hL hN hc
    go_enter Try.func20, Try.ntmps20
    go_wp2_with (go_at_call 17; refine hck.mono ?_; rintro e w1 ⟨rfl, hb1⟩)
    refine bodyPost_ret (v := .tuple #[.int .i64 0, .int .i64 0, .int .i64 0, .int .i64 c]) ?_ rfl ⟨0, 0, 0, c, ⟨fun _ => ⟨rfl, rfl, rfl, HC.out⟩, fun h => absurd h H0.out, fun h => absurd h H0.out⟩, rfl, hb1⟩
    simp [results, Try.results20, go_sem]

end Go.Proofs.Ytigpghmbeldakaa
