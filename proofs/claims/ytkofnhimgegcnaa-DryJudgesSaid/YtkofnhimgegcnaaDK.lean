/- The law DryJudges, walked. -/
import Derived.Test.YtkofnhimgegcnaaDJ
import Derived.Deep.DeepCutAuto
namespace Go.Proofs.Ytkofnhimgegcnaa
open Go Go.RowKit Go.Sort

/-- The hours of spans before a time. -/
def befL (H : List (Int × Int)) (t : Int) : Int := sumH (fun h => min t h.2 - min t h.1) H

theorem sumH_congr {μ ν : Int × Int → Int} {H : List (Int × Int)} (h : ∀ x ∈ H, μ x = ν x) : sumH μ H = sumH ν H := by
  have h1 := sumH_le (μ := μ) (ν := ν) (H := H) (fun x hx => by have := h x hx; omega)
  have h2 := sumH_le (μ := ν) (ν := μ) (H := H) (fun x hx => by have := h x hx; omega)
  omega
theorem sumH_zero {μ : Int × Int → Int} {H : List (Int × Int)} (h : ∀ x ∈ H, μ x = 0) : sumH μ H = 0 := by
  rw [sumH_congr (ν := fun _ => 0) h]
  induction H with
  | nil => simp [sumH]
  | cons x H ih => rw [sumH_cons, ih (fun y hy => h y (List.mem_cons_of_mem _ hy))]; rfl
theorem sumH_sub {μ ν : Int × Int → Int} : ∀ (H : List (Int × Int)), sumH (fun x => μ x - ν x) H = sumH μ H - sumH ν H
  | [] => by simp [sumH]
  | x :: H => by rw [sumH_cons, sumH_cons, sumH_cons, sumH_sub H]; omega

theorem rise_far {lo hi : Int} {H : List (Int × Int)} (hr : Rising lo hi H) {i : Nat} {x : Int × Int} (hx : H[i]? = some x) : ∀ (d : Nat) (y : Int × Int), H[i + 1 + d]? = some y → x.2 ≤ y.1
  | 0, y, hy => hr.up i x y hx hy
  | d + 1, y, hy => by
    have hd : i + 1 + d < H.length := by have := (List.getElem?_eq_some_iff.1 hy).1; omega
    have h1 := rise_far hr hx d _ (List.getElem?_eq_getElem hd)
    have h2 := hr.up (i + 1 + d) _ y (List.getElem?_eq_getElem hd) hy
    have h3 := hr.inn _ (List.getElem_mem hd)
    omega

/-- The span at i ends behind t. -/
def Past (H : List (Int × Int)) (t : Int) (k : Int) : Prop := ∃ h, H[k.toNat]? = some h ∧ t < h.2

/-- The hours before t in the span that t may cut. -/
def restB (t : Int) : Option (Int × Int) → Int
  | some h => t - min t h.1
  | none => 0

theorem bef_at {M : Int} {H : List (Int × Int)} (hr : Rising 0 M H) {t : Int} {r : Nat} (hg : LeastGot (Past H t) 0 H.length (r : Int)) :
    befL H t = sumH (fun h => h.2 - h.1) (H.take r) + restB t H[r]? := by
  obtain ⟨_, h1, h2, h3⟩ := hg
  have hlow : ∀ x ∈ H.take r, x.2 ≤ t := by
    intro x hx
    obtain ⟨j, hj⟩ := List.mem_iff_getElem?.1 hx
    rw [List.getElem?_take] at hj
    split at hj
    · rename_i hjr
      rcases h2 with h2 | h2
      · omega
      · have hz : r - 1 < H.length := by omega
        have hzz : ((r : Int) - 1).toNat = r - 1 := by omega
        have hno : ¬ t < (H[r - 1]).2 := fun h => h2 ⟨_, by rw [hzz]; exact List.getElem?_eq_getElem hz, h⟩
        by_cases hjz : j = r - 1
        · subst hjz
          rw [List.getElem?_eq_getElem hz] at hj
          cases hj
          omega
        · have := rise_far hr hj (r - 1 - j - 1) _ (by rw [show j + 1 + (r - 1 - j - 1) = r - 1 by omega]; exact List.getElem?_eq_getElem hz)
          have h4 := hr.inn _ (List.getElem_mem hz)
          omega
    · cases hj
  have hA : sumH (fun h => min t h.2 - min t h.1) (H.take r) = sumH (fun h => h.2 - h.1) (H.take r) := sumH_congr (fun x hx => by
    have := hlow x hx
    have := hr.inn x (List.mem_of_mem_take hx)
    omega)
  have hsp : befL H t = sumH (fun h => min t h.2 - min t h.1) (H.take r) + sumH (fun h => min t h.2 - min t h.1) (H.drop r) := by
    unfold befL
    rw [← sumH_append, List.take_append_drop]
  rw [hsp, hA]
  by_cases hrm : r < H.length
  · have hrg := List.getElem?_eq_getElem hrm
    have hp : t < (H[r]).2 := by
      rcases h3 with h3 | ⟨h, hh, hlt⟩
      · omega
      · rw [show ((r : Int)).toNat = r by omega, hrg] at hh
        cases hh
        exact hlt
    rw [hrg, List.drop_eq_getElem_cons hrm, sumH_cons]
    dsimp only [restB]
    rw [sumH_zero (H := H.drop (r + 1)) (fun x hx => by
      obtain ⟨j, hj⟩ := List.mem_iff_getElem?.1 hx
      rw [List.getElem?_drop] at hj
      have := rise_far hr hrg j x hj
      have := hr.inn x (List.mem_of_getElem? hj)
      omega)]
    omega
  · rw [List.getElem?_eq_none (by omega), List.drop_eq_nil_of_le (by omega)]
    simp [sumH, restB]

/-- What Proves takes for the hours of a load in the spans. -/
theorem bef_within {M : Int} {H : List (Int × Int)} (hr : Rising 0 M H) (x : Ld) (hx : x.1 ≤ x.2.1) : befL H x.2.1 - befL H x.1 = withinL x H := by
  rw [within_eq]
  unfold befL
  rw [← sumH_sub]
  refine sumH_congr (fun y hy => ?_)
  have := hr.inn y hy
  unfold lapL
  omega

set_option maxHeartbeats 1000000 in
theorem BeforeF_any (b1 b2 : Nat) (p : Option Addr) (c base : Nat) (H : List (Int × Int)) (t : Int) (i : Int) (w : World) (hc1 : w.cell? ⟨b1, 0, none⟩ = some (.slice p H.length c)) (hc2 : w.cell? ⟨b2, 0, none⟩ = some (.int .i64 t))
    (hH : w.ownsRow base 91 2 (.slice p H.length c) H.length (H.flatMap enc2)) (hi : 0 ≤ i ∧ i < H.length) :
    Calls Try.prog 74 (#[.int .i64 i] ++ #[.pointer (some ⟨b1, 0, none⟩), .pointer (some ⟨b2, 0, none⟩)]) w fun e w' => ∃ v, e = .returned (.bool v) ∧ (v = true ↔ Past H t i) ∧ Adds w w' := by
  obtain ⟨k, rfl⟩ : ∃ k : Nat, i = (k : Int) := ⟨i.toNat, by omega⟩
  obtain ⟨⟨a, b⟩, hh⟩ : ∃ x, H[k]? = some x := ⟨_, List.getElem?_eq_getElem (by omega)⟩
  obtain ⟨hg, c', e, _⟩ := own_some hH (by omega)
  injection e with e1 e2 e3
  subst e1
  clear e2 e3
  obtain ⟨f0, f1⟩ := flat2_get hh
  have d1 := (own_cell hH f1).1
  dsimp only at d1
  have HP : Hid (Past H t (k : Int) ↔ t < b) := Lib.hid ⟨fun h => by
      obtain ⟨y, hy, h⟩ := h
      rw [show ((k : Int)).toNat = k by omega, hh] at hy
      cases hy
      exact h, fun h => ⟨_, by rw [show ((k : Int)).toNat = k by omega]; exact hh, h⟩⟩
  obtain ⟨q0, q1⟩ := hi
  generalize H.length = m at *
  clear hH hh f0 f1
  go_enter Try.func74, Try.ntmps74
  go_upto_region 1 with fail
  by_cases h : t < b
  · have g : decide (t < b) = true := decide_eq_true h
    have HB := Lib.hid (HP.out.2 h)
    clear h
    go_quiet (fail)
    go_wp2
    go_ret
    exact ⟨true, rfl, ⟨fun _ => HB.out, fun _ => rfl⟩, (Adds.refl _).drewN _⟩
  · have g : decide (t < b) = false := decide_eq_false h
    have HB : Hid (¬ Past H t (k : Int)) := Lib.hid (fun h' => h (HP.out.1 h'))
    clear h
    go_quiet (fail)
    go_wp2
    go_ret
    exact ⟨false, rfl, ⟨(fun e => by cases e), fun h => absurd h HB.out⟩, (Adds.refl _).drewN _⟩

set_option maxRecDepth 100000 in
set_option maxHeartbeats 4000000 in
theorem before_any (p : Option Addr) (c base base2 : Nat) (v : Value) (H : List (Int × Int)) (t : Int) (w : World) (hH : w.ownsRow base 91 2 (.slice p H.length c) H.length (H.flatMap enc2)) (hm : H.length ≤ 1000) (hr : Rising 0 1000000 H)
    (hS : w.ownsRow base2 3 1 v (H.length + 1) ((sumsH H H.length).map (Value.int .i64))) (ht : 0 ≤ t ∧ t ≤ 1000000000) :
    Calls Try.prog 48 #[.slice p H.length c, v, .int .i64 t] w fun e w' => e = .returned (.int .i64 (befL H t)) ∧ Adds w w' := by
  have h74 : ∀ (args : Array Value) (w : World), (callFunc 74 args).run Try.prog w = .ok (.enter 74 args) w := fun args w => enters_of Try.func74 (by kernel_rfl) rfl args w
  have hsb := sumH_take_bd hr.inn
  have hls : ∀ (W : World) (b1 b2 : Nat), Adds w W → W.cell? ⟨b1, 0, none⟩ = some (.slice p H.length c) → W.cell? ⟨b2, 0, none⟩ = some (.int .i64 t) → Calls Try.prog 61 #[.int .i64 0, .int .i64 (H.length : Int), .func (.func 74) #[] #[.pointer (some ⟨b1, 0, none⟩), .pointer (some ⟨b2, 0, none⟩)]] W fun e w' => ∃ r, e = .returned (.int .i64 r) ∧ LeastGot (Past H t) 0 H.length r ∧ Adds W w' := fun W b1 b2 hW hc1 hc2 =>
    least_any 74 #[.pointer (some ⟨b1, 0, none⟩), .pointer (some ⟨b2, 0, none⟩)] (Past H t) 0 H.length W (by omega) (by omega) (by omega) h74 (fun k hk0 hk1 W2 hW2 => BeforeF_any b1 b2 p c base H t k W2 (keep_cell hW2 hc1) (keep_cell hW2 hc2) (own_later (own_later hH hW) hW2) ⟨hk0, hk1⟩)
  have hat := fun (r : Nat) => bef_at hr (t := t) (r := r)
  obtain ⟨g3, c3, rfl, _⟩ := own_some hS (by omega)
  have HSS := Lib.hid hS
  have hcS : ∀ r : Nat, r ≤ H.length → w.cell? ⟨g3, r, none⟩ = some (.int .i64 (sumH (fun h => h.2 - h.1) (H.take r))) := fun r hr => (own_cell (j := r) (u := .int .i64 (sumH (fun h => h.2 - h.1) (H.take r))) hS (by rw [List.getElem?_map, sumsH_get H (by omega)]; rfl)).1
  obtain ⟨m, hm'⟩ : ∃ m, m = H.length := ⟨_, rfl⟩
  rw [← hm'] at hH hm hls hat hcS ⊢
  obtain ⟨m1, hm1⟩ : ∃ m1, m1 = m + 1 := ⟨_, rfl⟩
  rw [← hm1]
  have HM := Lib.hid hm'
  have HM1 := Lib.hid hm1
  have HH := Lib.hid hH
  have HLS := Lib.hid hls
  have HAT := Lib.hid hat
  have HCS := Lib.hid hcS
  have HSB := Lib.hid hsb
  have HRI := Lib.hid hr
  obtain ⟨t0, t1⟩ := ht
  have hm1b : m < m1 := by omega
  clear hS HSS hH hls hat hcS hsb hr hm' hm1 h74
  go_enter Try.func48, Try.ntmps48
  have hA1 : Adds w ((w.alloc (.cells #[.slice p m c] 36)).alloc (.cells #[.int .i64 t] 3)) := ((Adds.refl w).alloc _).alloc _
  have hX1 : Box ((w.alloc (.cells #[.slice p m c] 36)).alloc (.cells #[.int .i64 t] 3)) w.heap.size #[.slice p m c] 36 := (Box.new _ _ _).alloc _
  have hX2 : Box ((w.alloc (.cells #[.slice p m c] 36)).alloc (.cells #[.int .i64 t] 3)) (w.heap.size + 1) #[.int .i64 t] 3 := by
    have := Box.new (w.alloc (.cells #[.slice p m c] 36)) #[.int .i64 t] 3
    rw [World.size_alloc] at this
    exact this
  go_upto_region 1 with fail
  obtain ⟨b1, hb1⟩ : ∃ b, b = w.heap.size := ⟨_, rfl⟩
  obtain ⟨b2, hb2⟩ : ∃ b, b = w.heap.size + 1 := ⟨_, rfl⟩
  obtain ⟨W1, hW1⟩ : ∃ V, V = (w.alloc (.cells #[.slice p m c] 36)).alloc (.cells #[.int .i64 t] 3) := ⟨_, rfl⟩
  rw [← hW1] at hA1 hX1 hX2
  rw [← hb1] at hX1
  rw [← hb2] at hX2
  rw [← hW1, ← hb2, ← hb1]
  have HA1 := Lib.hid hA1
  have HX1 := Lib.hid hX1
  have HX2 := Lib.hid hX2
  have k1 : W1.cell? ⟨b1, 0, none⟩ = some (.slice p m c) := hX1.cell 0
  have k2 : W1.cell? ⟨b2, 0, none⟩ = some (.int .i64 t) := hX2.cell 0
  have HK1 := Lib.hid k1
  have HK2 := Lib.hid k2
  clear hA1 hX1 hX2 hb1 hb2 hW1 k2
  go_upto_region 2 with (go_at_call 61; refine (HLS.out _ b1 b2 HA1.out HK1.out HK2.out).mono ?_; rintro e w2 ⟨r, rfl, hr, hb2⟩; have HR := Lib.hid hr; have HA2 := Lib.hid (HA1.out.trans hb2); have HB2 := Lib.hid hb2; clear hr hb2)
  clear k1
  obtain ⟨q, rfl⟩ : ∃ q : Nat, r = (q : Int) := ⟨r.toNat, by have := HR.out.1; omega⟩
  have hqm : q ≤ m := by have := HR.out.2.1; omega
  have HBF := Lib.hid (HAT.out q HR.out)
  obtain ⟨s0, s1⟩ := HSB.out q
  have dS := keep_cell HA2.out (HCS.out q hqm)
  obtain ⟨S, hS⟩ : ∃ S, S = sumH (fun h => h.2 - h.1) (H.take q) := ⟨_, rfl⟩
  rw [← hS] at HBF s0 s1 dS
  have k1 : w2.cell? ⟨b1, 0, none⟩ = some (.slice p m c) := keep_cell HB2.out HK1.out
  have k2 : w2.cell? ⟨b2, 0, none⟩ = some (.int .i64 t) := keep_cell HB2.out HK2.out
  have q0 : (0 : Int) ≤ (q : Int) := by omega
  have q1 : (q : Int) < (m1 : Int) := by omega
  have q1n : q < m1 := by omega
  clear hS HCS HSB HR
  by_cases hlt : q < m
  · have hlt2 : decide ((q : Int) < (m : Int)) = true := decide_eq_true (by omega)
    have hlt2n : decide (q < m) = true := decide_eq_true hlt
    have q2 : (q : Int) < (m : Int) := by omega
    obtain ⟨⟨a, b⟩, hh⟩ : ∃ x, H[q]? = some x := ⟨_, List.getElem?_eq_getElem (by have := HM.out; omega)⟩
    have hab := HRI.out.inn _ (List.mem_of_getElem? hh)
    dsimp only at hab
    obtain ⟨a0, a1, a2⟩ := hab
    have hbf := HBF.out
    rw [hh] at hbf
    dsimp only [restB] at hbf
    obtain ⟨hg, c', e, _⟩ := own_some HH.out (by omega)
    injection e with e1 e2 e3
    subst e1
    clear e2 e3
    obtain ⟨f0, f1⟩ := flat2_get hh
    have d0 := keep_cell HA2.out (own_cell HH.out f0).1
    dsimp only at d0
    clear hh f0 f1
    by_cases hat : a < t
    · have g : decide (a < t) = true := decide_eq_true hat
      have HRES : Hid (befL H t = S + t - a) := Lib.hid (by rw [hbf]; omega)
      have hw1 : IntKind.i64.wrap (S + t) = S + t := by rw [IntKind.wrap_i64]; omega
      have hw2 : IntKind.i64.wrap (S + t - a) = S + t - a := by rw [IntKind.wrap_i64]; omega
      clear hbf hat HBF
      go_quiet (fail)
      go_upto_region 3 with fail
      obtain ⟨W3, hW3⟩ : ∃ V, V = w2.drewN nq := ⟨_, rfl⟩
      rw [← hW3]
      have hA3 : Adds w2 W3 := by rw [hW3]; exact (Adds.refl _).drewN _
      have m0 := keep_cell hA3 d0
      have m1' := keep_cell hA3 k1
      have m2 := keep_cell hA3 k2
      have m3 := keep_cell hA3 dS
      have HA3 := Lib.hid (HA2.out.trans hA3)
      clear hW3 hA3 d0 k1 k2 dS
      go_quiet (fail)
      go_wp2
      go_ret
      exact ⟨by rw [HRES.out]; first | done | rfl, HA3.out.drewN _⟩
    · have g : decide (a < t) = false := decide_eq_false hat
      have HRES : Hid (befL H t = S) := Lib.hid (by rw [hbf]; omega)
      clear hbf hat HBF
      go_quiet (fail)
      obtain ⟨W3, hW3⟩ : ∃ V, V = w2.drewN nq := ⟨_, rfl⟩
      try rw [← hW3]
      have hA3 : Adds w2 W3 := by rw [hW3]; exact (Adds.refl _).drewN _
      have m3 := keep_cell hA3 dS
      have HA3 := Lib.hid (HA2.out.trans hA3)
      clear hW3 hA3 d0 k1 k2 dS
      go_wp2
      go_ret
      exact ⟨by rw [HRES.out]; first | done | rfl, HA3.out⟩
  · have hqe : q = m := by omega
    have hlt2 : decide ((q : Int) < (m : Int)) = false := decide_eq_false (by omega)
    have hlt2n : decide (q < m) = false := decide_eq_false hlt
    have HRES : Hid (befL H t = S) := Lib.hid (by
      have hbf := HBF.out
      rw [List.getElem?_eq_none (by have := HM.out; omega)] at hbf
      dsimp only [restB] at hbf
      omega)
    clear HBF hlt hqe
    go_quiet (fail)
    obtain ⟨W3, hW3⟩ : ∃ V, V = w2.drewN nq := ⟨_, rfl⟩
    try rw [← hW3]
    have hA3 : Adds w2 W3 := by rw [hW3]; exact (Adds.refl _).drewN _
    have m3 := keep_cell hA3 dS
    have HA3 := Lib.hid (HA2.out.trans hA3)
    clear hW3 hA3 k1 k2 dS
    go_wp2
    go_ret
    exact ⟨by rw [HRES.out]; first | done | rfl, HA3.out⟩

end Go.Proofs.Ytkofnhimgegcnaa

namespace Go.Proofs.Ytkofnhimgegcnaa
open Go Go.RowKit Go.Sort

/-- When a crush proves that there is no plan. -/
def ProvesOK (l : List Ld) (K : Int) (H : List (Int × Int)) (L : List Int) : Prop :=
  NumsOK l.length L ∧ Rising 0 1000000 H ∧ sumH (fun h => h.2 - h.1) H * K < needsL l H (L.map Int.toNat)

set_option maxRecDepth 100000 in
set_option maxHeartbeats 8000000 in
theorem Proves_any (lp : Option Addr) (lc : Nat) (l : List Ld) (K : Int) (p1 p2 : Option Addr) (c1 c2 base : Nat) (L : List Int) (H : List (Int × Int)) (w : World) (hl : LoadsAt w lp l) (hn : l.length ≤ 256) (hok : ∀ x ∈ l, okB x = true) (hK : 1 ≤ K ∧ K ≤ 64)
    (hL : w.ownsRow base 3 1 (.slice p1 L.length c1) L.length (L.map (Value.int .i64))) (hH : w.ownsRow base 91 2 (.slice p2 H.length c2) H.length (H.flatMap enc2)) (hLl : L.length ≤ 1000) (hHl : H.length ≤ 1000) :
    Calls Try.prog 20 #[.slice lp l.length lc, .int .i64 K, .agg #[.slice p1 L.length c1, .slice p2 H.length c2]] w fun e w' => ∃ b : Bool, e = .returned (.bool b) ∧ (b = true ↔ ProvesOK l K H L) ∧ Adds w w' := by
  have hokN : ∀ x ∈ l, okN x := fun x hx => okB_okN (hok x hx)
  have hck := fun (W : World) (hW : Adds w W) => check_any lp lc l K W (by unfold maxLen; omega) (hl.later hW)
  rw [checkK_ok hn hok hK] at hck
  have hnum := fun (W : World) (hW : Adds w W) => areNumbers_any p1 c1 base l.length L W (own_later hL hW) hn (by omega)
  have hspa := fun (W : World) (hW : Adds w W) => areSpans_any p2 c2 base H W (own_later hH hW) (by omega)
  by_cases hN : NumsOK l.length L
  · have hnum' : ∀ (W : World), Adds w W → Calls Try.prog 45 #[.slice p1 L.length c1, .int .i64 (l.length : Int)] W fun e w' => e = .returned (.bool true) ∧ Adds W w' := fun W hW => (hnum W hW).mono (by
      rintro e w' ⟨b, rfl, h1, h2⟩
      rw [h1.2 hN]
      exact ⟨rfl, h2⟩)
    by_cases hR : Rising 0 1000000 H
    · have hspa' : ∀ (W : World), Adds w W → Calls Try.prog 46 #[.slice p2 H.length c2] W fun e w' => e = .returned (.bool true) ∧ Adds W w' := fun W hW => (hspa W hW).mono (by
        rintro e w' ⟨b, rfl, h1, h2⟩
        rw [h1.2 hR]
        exact ⟨rfl, h2⟩)
      have hsum := fun (W : World) (hW : Adds w W) => sums_any p2 c2 base H W (own_later hH hW) hHl hR.inn
      have hbef : ∀ (W0 : World) (g3 c3 base2 : Nat), Adds w W0 → W0.ownsRow base2 3 1 (.slice (some ⟨g3, 0, none⟩) (H.length + 1) c3) (H.length + 1) ((sumsH H H.length).map (Value.int .i64)) → ∀ (t : Int), 0 ≤ t → t ≤ 1000000000 → ∀ W, Adds W0 W → Calls Try.prog 48 #[.slice p2 H.length c2, .slice (some ⟨g3, 0, none⟩) (H.length + 1) c3, .int .i64 t] W fun e w' => e = .returned (.int .i64 (befL H t)) ∧ Adds W w' := fun W0 g3 c3 base2 hW0 hS t ht0 ht1 W hW =>
        before_any p2 c2 base base2 _ H t W (own_later (own_later hH hW0) hW) hHl hR (own_later hS hW) ⟨ht0, ht1⟩
      have hwi := fun (x : Ld) (hx : okN x) => bef_within hR x (by unfold okN at hx; omega)
      have hsb := sumH_take_bd hR.inn
      have hnb := needsL_bd hokN (hR.more (by omega : (1000000 : Int) ≤ 1000000000)) (L := L.map Int.toNat)
      have hwb : ∀ (x : Ld), okN x → 0 ≤ withinL x H ∧ withinL x H ≤ 1000000000 := fun x hx => by
        have h1 := within_le hR x
        have h2 := within_span x (hR.more (by omega : (1000000 : Int) ≤ 1000000000)) (by omega)
        unfold okN at hx
        omega
      obtain ⟨n, hn'⟩ : ∃ n, n = l.length := ⟨_, rfl⟩
      obtain ⟨ml, hml⟩ : ∃ m, m = L.length := ⟨_, rfl⟩
      obtain ⟨mh, hmh⟩ : ∃ m, m = H.length := ⟨_, rfl⟩
      rw [← hn'] at hn hck hnum' ⊢
      rw [← hml] at hL hLl hnum' ⊢
      rw [← hmh] at hH hHl hspa' hsum hbef ⊢
      have HN := Lib.hid hn'
      have HML := Lib.hid hml
      have HMH := Lib.hid hmh
      have HL := Lib.hid hl
      have HLL := Lib.hid hL
      have HOK := Lib.hid hokN
      have HCK := Lib.hid hck
      have HNUM := Lib.hid hnum'
      have HSPA := Lib.hid hspa'
      have HSUM := Lib.hid hsum
      have HBEF := Lib.hid hbef
      have HWI := Lib.hid hwi
      have HSB := Lib.hid hsb
      have HNB := Lib.hid hnb
      have HWB := Lib.hid hwb
      have HNO := Lib.hid hN
      have HRI := Lib.hid hR
      obtain ⟨hK0, hK1⟩ := hK
      clear hl hL hH hok hokN hck hnum hnum' hspa hspa' hsum hbef hwi hsb hnb hwb hN hR hn' hml hmh
      go_enter Try.func20, Try.ntmps20
      go_upto_region 1 with fail
      obtain ⟨cb, hcb⟩ : ∃ b, b = w.heap.size := ⟨_, rfl⟩
      obtain ⟨W1, hW1⟩ : ∃ V, V = w.alloc (.cells #[.slice p1 ml c1, .slice p2 mh c2] 46) := ⟨_, rfl⟩
      try rw [← hW1, ← hcb]
      have HC1 : Hid (Box W1 cb #[.slice p1 ml c1, .slice p2 mh c2] 46) := Lib.hid (by rw [hW1, hcb]; exact Box.new _ _ _)
      have HA1 : Hid (Adds w W1) := Lib.hid (by rw [hW1]; exact (Adds.refl _).alloc _)
      clear hW1 hcb
      go_upto_region 3 with (first
        | (go_at_call 41; refine (HCK.out _ HA1.out).mono ?_; rintro e w2 ⟨rfl, hb2⟩; have HA2 := Lib.hid (HA1.out.trans hb2); have HB2 := Lib.hid hb2; have kc20 : w2.cell? ⟨cb, 0, none⟩ = some (.slice p1 ml c1) := (HC1.out.later hb2).cell 0; clear hb2)
        | (go_at_call 45; refine (HNUM.out _ HA2.out).mono ?_; rintro e w3 ⟨rfl, hb3⟩; have HA3 := Lib.hid (HA2.out.trans hb3); have HC3 := Lib.hid ((HC1.out.later HB2.out).later hb3); have kc31 : w3.cell? ⟨cb, 1, none⟩ = some (.slice p2 mh c2) := HC3.out.cell 1; clear hb3)
        | (go_at_call 46; refine (HSPA.out _ HA3.out).mono ?_; rintro e w4 ⟨rfl, hb4⟩; have HA4 := Lib.hid (HA3.out.trans hb4); have HC4 := Lib.hid (HC3.out.later hb4); have kc41 : w4.cell? ⟨cb, 1, none⟩ = some (.slice p2 mh c2) := HC4.out.cell 1; clear hb4))
      clear kc20 kc31
      go_upto_region 4 with (go_at_call 47; refine (HSUM.out _ HA4.out).mono ?_; rintro e w5 ⟨v5, rfl, hr5, hb5⟩; have HR5 := Lib.hid hr5; have HA5 := Lib.hid (HA4.out.trans hb5); have HC5 := Lib.hid (HC4.out.later hb5); clear hr5 hb5)
      clear kc41
      obtain ⟨g3, c3, rfl, _⟩ := own_some HR5.out (by omega)
      have HBE := Lib.hid (HBEF.out _ g3 c3 _ HA5.out HR5.out)
      have HT : Hid (w5.cell? ⟨g3, mh, none⟩ = some (.int .i64 (sumH (fun h => h.2 - h.1) H))) := Lib.hid (own_cell (j := mh) (u := .int .i64 (sumH (fun h => h.2 - h.1) H)) HR5.out (by
        rw [List.getElem?_map, sumsH_get H (by have := HMH.out; omega), List.take_of_length_le (by have := HMH.out; omega)]
        rfl)).1
      obtain ⟨mh1, hmh1⟩ : ∃ q, q = mh + 1 := ⟨_, rfl⟩
      rw [← hmh1] at HBE ⊢
      have kc50 : w5.cell? ⟨cb, 0, none⟩ = some (.slice p1 ml c1) := HC5.out.cell 0
      clear HBEF HSUM HR5
      have hmh2 : mh < mh1 := by omega
      have HMH1 := Lib.hid hmh1
      clear hmh1
      go_upto_region 6 with fail
      go_loopw [8, 38] (fun v8 v38 wr => ∃ q : Nat, q ≤ ml ∧ v38 = .int .i64 q ∧ v8 = .int .i64 (needsL l H ((L.map Int.toNat).take q)) ∧ Hid (Adds w5 wr)) (fun _ v38 _ => ml - (intOf v38).toNat)
      case atStart => exact ⟨0, by omega, rfl, rfl, Lib.hid (Adds.refl _)⟩
      case round =>
        obtain ⟨q, hq, rfl, rfl, HAQ⟩ := hrel
        obtain ⟨n0, n1⟩ := HNB.out q
        obtain ⟨N, hNN⟩ : ∃ N, N = needsL l H ((L.map Int.toNat).take q) := ⟨_, rfl⟩
        rw [← hNN] at n0 n1 ⊢
        have HNN := Lib.hid hNN
        clear hNN kc50
        by_cases hql : q < ml
        · have hql2 : (q : Int) < (ml : Int) := by omega
          obtain ⟨z, hz⟩ : ∃ z, L[q]? = some z := ⟨_, List.getElem?_eq_getElem (by have := HML.out; omega)⟩
          have hzb := HNO.out.1 z (List.mem_of_getElem? hz)
          obtain ⟨i, hi⟩ : ∃ i : Nat, z = (i : Int) := ⟨z.toNat, by omega⟩
          subst hi
          have hin : i < n := by have := HN.out; omega
          have hLi : (L.map Int.toNat)[q]? = some i := by rw [List.getElem?_map, hz]; rfl
          obtain ⟨⟨y0, y1, y2, y3⟩, hy⟩ : ∃ x, l[i]? = some x := ⟨_, List.getElem?_eq_getElem (by have := HN.out; omega)⟩
          have hoky := HOK.out _ (List.mem_of_getElem? hy)
          have HNX : Hid (needsL l H ((L.map Int.toNat).take (q + 1)) = N + max 0 (y2 - (y1 - y0 - withinL (y0, y1, y2, y3) H))) := Lib.hid (by
            rw [needsL_next hLi, ← HNN.out]
            unfold needL
            rw [hy])
          have HWB2 := HWB.out _ hoky
          have HWI2 := HWI.out _ hoky
          obtain ⟨wi, hwi⟩ : ∃ v, v = withinL (y0, y1, y2, y3) H := ⟨_, rfl⟩
          rw [← hwi] at HNX HWB2 HWI2
          dsimp only at HWI2
          have HWI3 := Lib.hid HWI2
          clear HWI2
          obtain ⟨wb0, wb1⟩ := HWB2
          unfold okN at hoky
          dsimp only at hoky
          obtain ⟨o1, o2, o3, o4, o5, o6⟩ := hoky
          obtain ⟨g1, c', e, _⟩ := own_some HLL.out (by omega)
          injection e with e1 e2 e3
          subst e1
          clear e2 e3
          have hA := HA5.out.trans HAQ.out
          have d0 := keep_cell hA (own_cell (j := q) (u := .int .i64 (i : Int)) HLL.out (by rw [List.getElem?_map, hz]; rfl)).1
          have q0 : (0 : Int) ≤ (i : Int) := by omega
          have q1 : (i : Int) < (n : Int) := by omega
          obtain ⟨lg, off, rfl, e0, e1, e2, e3⟩ := HL.out.later hA i _ hy
          dsimp only at e0 e1 e2 e3
          clear hz hzb hLi hwi hA hy
          go_upto_region 9 with fail
          obtain ⟨xb, hxb⟩ : ∃ b, b = wr.heap.size := ⟨_, rfl⟩
          obtain ⟨W6, hW6⟩ : ∃ V, V = wr.alloc (.cells #[.int .i64 y0, .int .i64 y1, .int .i64 y2, .int .i64 y3] 84) := ⟨_, rfl⟩
          rw [← hW6, ← hxb]
          have hA6 : Adds wr W6 := by rw [hW6]; exact (Adds.refl _).alloc _
          have HX6 : Hid (Box W6 xb #[.int .i64 y0, .int .i64 y1, .int .i64 y2, .int .i64 y3] 84) := Lib.hid (by rw [hW6, hxb]; exact Box.new _ _ _)
          have HA6 := Lib.hid (HAQ.out.trans hA6)
          have k0 : W6.cell? ⟨xb, 0, none⟩ = some (.int .i64 y0) := HX6.out.cell 0
          have k1 : W6.cell? ⟨xb, 1, none⟩ = some (.int .i64 y1) := HX6.out.cell 1
          have kc1 : W6.cell? ⟨cb, 1, none⟩ = some (.slice p2 mh c2) := (HC5.out.later HA6.out).cell 1
          clear hW6 hxb hA6 e0 e1 e2 e3 d0
          go_region_held3 (fun w' => w'.cell? ⟨xb, 0, none⟩ = some (.int .i64 y0) ∧ w'.cell? ⟨xb, 1, none⟩ = some (.int .i64 y1) ∧ w'.cell? ⟨cb, 1, none⟩ = some (.slice p2 mh c2) ∧ Hid (Adds W6 w'))
            (first | (refine ⟨?_, ?_, ?_, Lib.hid (Adds.refl _).drew⟩ <;> go_keep; done) | (have hqq := Lib.hid (Adds.trans hh.2.2.2.out hb6); exact ⟨keep_cell hqq.out k0, keep_cell hqq.out k1, keep_cell hqq.out kc1, hqq⟩))
            ((go_simp; go_at_call 48; rename_i hh _ _; refine (HBE.out _ (by omega) (by omega) _ (HA6.out.trans hh.2.2.2.out)).mono ?_; rintro e w6 ⟨rfl, hb6⟩))
          all_goals
            have hA7 : Adds W6 w6 := hh.2.2.2.out.trans hb6
            have HA7 := Lib.hid (HA6.out.trans hA7)
            have m0 : w6.cell? ⟨xb, 0, none⟩ = some (.int .i64 y0) := (HX6.out.later hA7).cell 0
            have m1 : w6.cell? ⟨xb, 1, none⟩ = some (.int .i64 y1) := (HX6.out.later hA7).cell 1
            have m2 : w6.cell? ⟨xb, 2, none⟩ = some (.int .i64 y2) := (HX6.out.later hA7).cell 2
            have hw0 : IntKind.i64.wrap (befL H y1 - befL H y0) = wi := by rw [HWI3.out, IntKind.wrap_i64]; omega
            obtain ⟨t, ht⟩ : ∃ t, t = max 0 (y2 - (y1 - y0 - wi)) := ⟨_, rfl⟩
            rw [← ht] at HNX
            have ht' : max 0 (y2 - (y1 - y0 - wi)) = t := ht.symm
            have hw1 : IntKind.i64.wrap (y1 - y0) = y1 - y0 := by rw [IntKind.wrap_i64]; omega
            have hw2 : IntKind.i64.wrap (y1 - y0 - wi) = y1 - y0 - wi := by rw [IntKind.wrap_i64]; omega
            have hw3 : IntKind.i64.wrap (y2 - (y1 - y0 - wi)) = y2 - (y1 - y0 - wi) := by rw [IntKind.wrap_i64]; omega
            have htb : 0 ≤ t ∧ t ≤ 2000000000 := by omega
            have hw4 : IntKind.i64.wrap (N + t) = N + t := by rw [IntKind.wrap_i64]; omega
            clear ht htb hA7
            go_wp2
            exact ⟨⟨q + 1, by omega, by go_num, by rw [HNX.out], HA7⟩, by simp [intOf]; omega⟩
        · have hdq : decide ((q : Int) < (ml : Int)) = false := decide_eq_false (by omega)
          have eN : N = needsL l H (L.map Int.toNat) := by rw [HNN.out, List.take_of_length_le (by rw [List.length_map]; have := HML.out; omega)]
          obtain ⟨s0, s1⟩ := HSB.out mh
          rw [List.take_of_length_le (by have := HMH.out; omega)] at s0 s1
          have kS := keep_cell HAQ.out HT.out
          obtain ⟨S, hS⟩ : ∃ S, S = sumH (fun h => h.2 - h.1) H := ⟨_, rfl⟩
          have HP : Hid (ProvesOK l K H L ↔ S * K < N) := Lib.hid (by
            unfold ProvesOK
            rw [← hS, ← eN]
            exact ⟨fun h => h.2.2, fun h => ⟨HNO.out, HRI.out, h⟩⟩)
          rw [← hS] at s0 s1 kS
          have hm1 : S * 1 ≤ S * K := Int.mul_le_mul_of_nonneg_left hK0 s0
          have hm2 : S * K ≤ S * 64 := Int.mul_le_mul_of_nonneg_left hK1 s0
          obtain ⟨p, hp⟩ : ∃ p, p = S * K := ⟨_, rfl⟩
          have hp' : K * S = p := by rw [hp, Int.mul_comm]
          rw [← hp] at HP hm1 hm2
          have hw : IntKind.i64.wrap p = p := by rw [IntKind.wrap_i64]; omega
          have kc1 : wr.cell? ⟨cb, 1, none⟩ = some (.slice p2 mh c2) := (HC5.out.later HAQ.out).cell 1
          have q0 : (0 : Int) ≤ (mh : Int) := by omega
          have q1 : (mh : Int) < (mh1 : Int) := by omega
          have HE := Lib.hid (HA5.out.trans HAQ.out)
          by_cases hg : p < N
          · have g : decide (p < N) = true := decide_eq_true hg
            have HB := Lib.hid (HP.out.2 hg)
            clear eN hS hp hm1 hm2 hg HP
            go_wp2
            go_ret
            exact ⟨true, rfl, ⟨fun _ => HB.out, fun _ => rfl⟩, HE.out⟩
          · have g : decide (p < N) = false := decide_eq_false hg
            have HB : Hid (¬ ProvesOK l K H L) := Lib.hid (fun h => hg (HP.out.1 h))
            clear eN hS hp hm1 hm2 hg HP
            go_wp2
            go_ret
            exact ⟨false, rfl, ⟨(fun e => by cases e), fun h => absurd h HB.out⟩, HE.out⟩
    · have hspa' : ∀ (W : World), Adds w W → Calls Try.prog 46 #[.slice p2 H.length c2] W fun e w' => e = .returned (.bool false) ∧ Adds W w' := fun W hW => (hspa W hW).mono (by
        rintro e w' ⟨b, rfl, h1, h2⟩
        have : b = false := (by cases b with | false => rfl | true => exact absurd (h1.1 rfl) hR)
        rw [this]
        exact ⟨rfl, h2⟩)
      have HBAD : Hid (¬ ProvesOK l K H L) := Lib.hid (fun h => hR h.2.1)
      have HCK := Lib.hid hck
      have HNUM := Lib.hid hnum'
      have HSPA := Lib.hid hspa'
      clear hl hL hH hok hokN hck hnum hnum' hspa hspa' hN hR
      generalize l.length = n at *
      generalize L.length = ml at *
      generalize H.length = mh at *
      go_enter Try.func20, Try.ntmps20
      go_upto_region 1 with fail
      obtain ⟨cb, hcb⟩ : ∃ b, b = w.heap.size := ⟨_, rfl⟩
      obtain ⟨W1, hW1⟩ : ∃ V, V = w.alloc (.cells #[.slice p1 ml c1, .slice p2 mh c2] 46) := ⟨_, rfl⟩
      try rw [← hW1, ← hcb]
      have HC1 : Hid (Box W1 cb #[.slice p1 ml c1, .slice p2 mh c2] 46) := Lib.hid (by rw [hW1, hcb]; exact Box.new _ _ _)
      have HA1 : Hid (Adds w W1) := Lib.hid (by rw [hW1]; exact (Adds.refl _).alloc _)
      clear hW1 hcb
      go_wp2_with (first
        | (go_at_call 41; refine (HCK.out _ HA1.out).mono ?_; rintro e w2 ⟨rfl, hb2⟩; have HA2 := Lib.hid (HA1.out.trans hb2); have HB2 := Lib.hid hb2; have kc20 : w2.cell? ⟨cb, 0, none⟩ = some (.slice p1 ml c1) := (HC1.out.later hb2).cell 0; clear hb2)
        | (go_at_call 45; refine (HNUM.out _ HA2.out).mono ?_; rintro e w3 ⟨rfl, hb3⟩; have HA3 := Lib.hid (HA2.out.trans hb3); have HC3 := Lib.hid ((HC1.out.later HB2.out).later hb3); have kc31 : w3.cell? ⟨cb, 1, none⟩ = some (.slice p2 mh c2) := HC3.out.cell 1; clear hb3)
        | (go_at_call 46; refine (HSPA.out _ HA3.out).mono ?_; rintro e w4 ⟨rfl, hb4⟩; have HA4 := Lib.hid (HA3.out.trans hb4); clear hb4))
      go_ret
      exact ⟨false, rfl, ⟨(fun e => by cases e), fun h => absurd h HBAD.out⟩, HA4.out⟩
  · have hnum' : ∀ (W : World), Adds w W → Calls Try.prog 45 #[.slice p1 L.length c1, .int .i64 (l.length : Int)] W fun e w' => e = .returned (.bool false) ∧ Adds W w' := fun W hW => (hnum W hW).mono (by
      rintro e w' ⟨b, rfl, h1, h2⟩
      have : b = false := (by cases b with | false => rfl | true => exact absurd (h1.1 rfl) hN)
      rw [this]
      exact ⟨rfl, h2⟩)
    have HBAD : Hid (¬ ProvesOK l K H L) := Lib.hid (fun h => hN h.1)
    have HCK := Lib.hid hck
    have HNUM := Lib.hid hnum'
    clear hl hL hH hok hokN hck hnum hnum' hspa hN
    generalize l.length = n at *
    generalize L.length = ml at *
    generalize H.length = mh at *
    go_enter Try.func20, Try.ntmps20
    go_upto_region 1 with fail
    obtain ⟨cb, hcb⟩ : ∃ b, b = w.heap.size := ⟨_, rfl⟩
    obtain ⟨W1, hW1⟩ : ∃ V, V = w.alloc (.cells #[.slice p1 ml c1, .slice p2 mh c2] 46) := ⟨_, rfl⟩
    try rw [← hW1, ← hcb]
    have HC1 : Hid (Box W1 cb #[.slice p1 ml c1, .slice p2 mh c2] 46) := Lib.hid (by rw [hW1, hcb]; exact Box.new _ _ _)
    have HA1 : Hid (Adds w W1) := Lib.hid (by rw [hW1]; exact (Adds.refl _).alloc _)
    clear hW1 hcb
    go_wp2_with (first
      | (go_at_call 41; refine (HCK.out _ HA1.out).mono ?_; rintro e w2 ⟨rfl, hb2⟩; have HA2 := Lib.hid (HA1.out.trans hb2); have HB2 := Lib.hid hb2; have kc20 : w2.cell? ⟨cb, 0, none⟩ = some (.slice p1 ml c1) := (HC1.out.later hb2).cell 0; clear hb2)
      | (go_at_call 45; refine (HNUM.out _ HA2.out).mono ?_; rintro e w3 ⟨rfl, hb3⟩; have HA3 := Lib.hid (HA2.out.trans hb3); clear hb3))
    go_ret
    exact ⟨false, rfl, ⟨(fun e => by cases e), fun h => absurd h HBAD.out⟩, HA3.out⟩

end Go.Proofs.Ytkofnhimgegcnaa

namespace Go.Proofs.Ytkofnhimgegcnaa
open Go Go.RowKit Go.Sort

theorem rise_step {M : Int} {H : List (Int × Int)} {k : Nat} {h : Int × Int} (hr : Rising 0 M (H.take k)) (hh : H[k]? = some h) (h1 : 0 ≤ h.1) (h2 : h.1 < h.2) (h3 : h.2 ≤ M) (hl : ∀ j x, k = j + 1 → H[j]? = some x → x.2 ≤ h.1) : Rising 0 M (H.take (k + 1)) := by
  have hk : k < H.length := (List.getElem?_eq_some_iff.1 hh).1
  have hs : H.take (k + 1) = H.take k ++ [h] := by
    rw [List.take_succ_eq_append_getElem hk, (List.getElem?_eq_some_iff.1 hh).2]
  constructor
  · intro y hy
    rw [hs] at hy
    rcases List.mem_append.1 hy with hy | hy
    · exact hr.inn y hy
    · cases List.mem_singleton.1 hy; omega
  · intro i x y hx hy
    have hi := (List.getElem?_eq_some_iff.1 hy).1
    rw [List.length_take] at hi
    by_cases hik : i + 1 < k
    · refine hr.up i x y ?_ ?_
      · rw [List.getElem?_take_of_lt (by omega)] at hx ⊢; exact hx
      · rw [List.getElem?_take_of_lt (by omega)] at hy ⊢; exact hy
    · have hik' : i + 1 = k := by omega
      rw [List.getElem?_take_of_lt (by omega)] at hx hy
      rw [hik', hh] at hy
      cases hy
      exact hl i x hik'.symm hx

theorem sum_bd_take {H : List (Int × Int)} {k : Nat} (hr : Rising 0 1000000 (H.take k)) : 0 ≤ sumH (fun h => h.2 - h.1) (H.take k) ∧ sumH (fun h => h.2 - h.1) (H.take k) ≤ k * 1000000 := by
  have := sumH_take_bd hr.inn k
  rwa [List.take_take, Nat.min_self] at this

set_option maxRecDepth 100000 in
set_option maxHeartbeats 8000000 in
theorem RProves_all (lp : Option Addr) (lc : Nat) (l : List Ld) (K : Int) (p1 p2 : Option Addr) (c1 c2 base : Nat) (L : List Int) (H : List (Int × Int)) (w : World) (hl : LoadsAt w lp l) (hn : l.length ≤ 256) (hok : ∀ x ∈ l, okN x) (hK : 1 ≤ K ∧ K ≤ 64)
    (hL : w.ownsRow base 3 1 (.slice p1 L.length c1) L.length (L.map (Value.int .i64))) (hH : w.ownsRow base 91 2 (.slice p2 H.length c2) H.length (H.flatMap enc2)) (hLl : L.length ≤ 1000) (hHl : H.length ≤ 1000) :
    Calls Try.prog 21 #[.slice lp l.length lc, .int .i64 K, .agg #[.slice p1 L.length c1, .slice p2 H.length c2]] w fun e w' => ∃ b : Bool, e = .returned (.bool b) ∧ (b = true ↔ ProvesOK l K H L) ∧ Adds w w' := by
  obtain ⟨j4, hj, hj0, hj1, hj2⟩ := info_parts (show (Try.prog.info? 4).map (fun i => (i.zero, i.size, i.bytes)) = some (some (.bool false), 1, 1) by kernel_rfl)
  have HJ := Lib.hid hj
  have HJ0 := Lib.hid hj0
  have HJ1 := Lib.hid hj1
  have HJ2 := Lib.hid hj2
  clear hj hj0 hj1 hj2
  have hwi : Rising 0 1000000 H → ∀ (x : Ld), okN x → ∀ W, Adds w W → Calls Try.prog 49 #[.agg #[.int .i64 x.1, .int .i64 x.2.1, .int .i64 x.2.2.1, .int .i64 x.2.2.2], .slice p2 H.length c2] W fun e w' => e = .returned (.int .i64 (withinL x H)) ∧ Adds W w' := fun hR x hx W hW =>
    within_any x p2 c2 base H W (by unfold okN at hx; omega) (own_later hH hW) hHl (fun h hh => by have := hR.inn h hh; omega)
  have hnb : Rising 0 1000000 H → ∀ k, 0 ≤ needsL l H ((L.map Int.toNat).take k) ∧ needsL l H ((L.map Int.toNat).take k) ≤ k * 1000000 := fun hR => needsL_bd hok (hR.more (by omega : (1000000 : Int) ≤ 1000000000)) (L := L.map Int.toNat)
  have hwb : Rising 0 1000000 H → ∀ (x : Ld), okN x → 0 ≤ withinL x H ∧ withinL x H ≤ 1000000000 := fun hR x hx => by
    have h1 := within_le hR x
    have h2 := within_span x (hR.more (by omega : (1000000 : Int) ≤ 1000000000)) (by omega)
    unfold okN at hx
    omega
  obtain ⟨n, hn'⟩ : ∃ n, n = l.length := ⟨_, rfl⟩
  obtain ⟨ml, hml⟩ : ∃ m, m = L.length := ⟨_, rfl⟩
  obtain ⟨mh, hmh⟩ : ∃ m, m = H.length := ⟨_, rfl⟩
  rw [← hn'] at hn ⊢
  rw [← hml] at hL hLl ⊢
  rw [← hmh] at hH hHl hwi ⊢
  have HN := Lib.hid hn'
  have HML := Lib.hid hml
  have HMH := Lib.hid hmh
  have HL := Lib.hid hl
  have HLL := Lib.hid hL
  have HHH := Lib.hid hH
  have HOK := Lib.hid hok
  have HWI0 := Lib.hid hwi
  have HNB0 := Lib.hid hnb
  have HWB0 := Lib.hid hwb
  obtain ⟨hK0, hK1⟩ := hK
  clear hl hL hH hok hwi hnb hwb hn' hml hmh
  go_enter Try.func21, Try.ntmps21
  go_upto_region 1 with fail
  obtain ⟨cb, hcb⟩ : ∃ b, b = w.heap.size := ⟨_, rfl⟩
  obtain ⟨W1, hW1⟩ : ∃ V, V = w.alloc (.cells #[.slice p1 ml c1, .slice p2 mh c2] 38) := ⟨_, rfl⟩
  try rw [← hW1, ← hcb]
  have HC1 : Hid (Box W1 cb #[.slice p1 ml c1, .slice p2 mh c2] 38) := Lib.hid (by rw [hW1, hcb]; exact Box.new _ _ _)
  have HA1 : Hid (Adds w W1) := Lib.hid (by rw [hW1]; exact (Adds.refl _).alloc _)
  have hcl := HC1.out.lt
  have hws := HA1.out.size
  clear hW1 hcb
  go_upto_region 2 with (refine wpList_make_full _ rfl _ _ 65 rfl W1.heap.size 4 j4 (.bool false) 1 Try.underlying65 HJ.out HJ0.out HJ1.out .i64 .i64 (n : Int) (n : Int) n rfl rfl rfl rfl (by rw [HJ2.out]; omega) (by unfold maxLen; omega) (by simp) ?_; intro y5 ho hg; have HO := Lib.hid (made_bools ho); have HG := Lib.hid hg; clear ho hg)
  obtain ⟨g, hg⟩ : ∃ g, g = W1.heap.size := ⟨_, rfl⟩
  rw [← hg] at HO ⊢
  have HGW := Lib.hid hg
  have hcg : cb < g := by omega
  have HA5 : Hid (Adds W1 y5) := Lib.hid ((Adds.refl W1).grown HG.out (Nat.le_refl _) (fun j hj => by cases hj))
  have HO0 : Hid (y5.ownsRow g 4 1 (.slice (some ⟨g, 0, none⟩) n n) n (seenL n ((L.map Int.toNat).take 0))) := Lib.hid (by rw [List.take_zero]; exact HO.out)
  clear HG HO hg hcl
  go_upto_region 4 with fail
  go_loopw [8, 9] (fun v8 v9 wr => ∃ k : Nat, k ≤ mh ∧ v9 = .int .i64 k ∧ v8 = .int .i64 (sumH (fun h => h.2 - h.1) (H.take k)) ∧ Hid (Rising 0 1000000 (H.take k)) ∧ Hid (Adds y5 wr)) (fun _ v9 _ => mh - (intOf v9).toNat)
  case atStart => exact ⟨0, by omega, rfl, rfl, Lib.hid ⟨fun h hh => by simp at hh, fun i x y hx => by simp at hx⟩, Lib.hid (Adds.refl _)⟩
  case round =>
    obtain ⟨k, hk, rfl, rfl, HRS, HAD⟩ := hrel
    obtain ⟨s0, s1⟩ := sum_bd_take HRS.out
    obtain ⟨S, hS⟩ : ∃ S, S = sumH (fun h => h.2 - h.1) (H.take k) := ⟨_, rfl⟩
    rw [← hS] at s0 s1 ⊢
    have HS := Lib.hid hS
    clear hS
    by_cases hlt : k < mh
    · have hlt2 : (k : Int) < (mh : Int) := by omega
      obtain ⟨⟨a, b⟩, hh⟩ : ∃ x, H[k]? = some x := ⟨_, List.getElem?_eq_getElem (by have := HMH.out; omega)⟩
      obtain ⟨hgg, c', e, _⟩ := own_some HHH.out (by omega)
      injection e with e1 e2 e3
      subst e1
      clear e2 e3
      have hA := (HA1.out.trans HA5.out).trans HAD.out
      obtain ⟨f0, f1⟩ := flat2_get hh
      have d0 := keep_cell hA (own_cell HHH.out f0).1
      have d1 := keep_cell hA (own_cell HHH.out f1).1
      dsimp only at d0 d1
      have kc : wr.cell? ⟨cb, 1, none⟩ = some (.slice (some ⟨hgg, 0, none⟩) mh c2) := (HC1.out.later (HA5.out.trans HAD.out)).cell 1
      have HNX : Hid (sumH (fun h => h.2 - h.1) (H.take (k + 1)) = S + b - a) := Lib.hid (by rw [sumH_next hh, ← HS.out]; dsimp only; omega)
      have HHK := Lib.hid hh
      clear hh f0 f1
      go_upto_region 7 with fail
      obtain ⟨xb, hxb⟩ : ∃ b, b = wr.heap.size := ⟨_, rfl⟩
      obtain ⟨W2, hW2⟩ : ∃ V, V = wr.alloc (.cells #[.int .i64 a, .int .i64 b] 91) := ⟨_, rfl⟩
      rw [← hW2, ← hxb]
      have hA2 : Adds wr W2 := by rw [hW2]; exact (Adds.refl _).alloc _
      have HX2 : Hid (Box W2 xb #[.int .i64 a, .int .i64 b] 91) := Lib.hid (by rw [hW2, hxb]; exact Box.new _ _ _)
      have HA2 : Hid (Adds y5 W2) := Lib.hid (HAD.out.trans hA2)
      have k0 : W2.cell? ⟨xb, 0, none⟩ = some (.int .i64 a) := HX2.out.cell 0
      have k1 : W2.cell? ⟨xb, 1, none⟩ = some (.int .i64 b) := HX2.out.cell 1
      have kc2 := keep_cell hA2 kc
      by_cases x1 : a < 0
      · have g1 : decide (a < 0) = true := decide_eq_true x1
        have HB : Hid (¬ ProvesOK l K H L) := Lib.hid (fun h => by have := h.2.1.inn _ (List.mem_of_getElem? HHK.out); dsimp only at this; omega)
        clear hW2 hxb d0 d1 kc hA hA2 x1
        go_quiet (fail)
        go_wp2
        go_ret
        exact ⟨false, rfl, ⟨(fun e => by cases e), fun h => absurd h HB.out⟩, ((HA1.out.trans HA5.out).trans HA2.out).drewN _⟩
      have g1 : decide (a < 0) = false := decide_eq_false x1
      by_cases x2 : b ≤ a
      · have g2 : decide (b ≤ a) = true := decide_eq_true x2
        have HB : Hid (¬ ProvesOK l K H L) := Lib.hid (fun h => by have := h.2.1.inn _ (List.mem_of_getElem? HHK.out); dsimp only at this; omega)
        clear hW2 hxb d0 d1 kc hA hA2 x1 x2
        go_quiet (fail)
        go_wp2
        go_ret
        exact ⟨false, rfl, ⟨(fun e => by cases e), fun h => absurd h HB.out⟩, ((HA1.out.trans HA5.out).trans HA2.out).drewN _⟩
      have g2 : decide (b ≤ a) = false := decide_eq_false x2
      by_cases x3 : 1000000 < b
      · have g3 : decide (1000000 < b) = true := decide_eq_true x3
        have HB : Hid (¬ ProvesOK l K H L) := Lib.hid (fun h => by have := h.2.1.inn _ (List.mem_of_getElem? HHK.out); dsimp only at this; omega)
        clear hW2 hxb d0 d1 kc hA hA2 x1 x2 x3
        go_quiet (fail)
        go_wp2
        go_ret
        exact ⟨false, rfl, ⟨(fun e => by cases e), fun h => absurd h HB.out⟩, ((HA1.out.trans HA5.out).trans HA2.out).drewN _⟩
      have g3 : decide (1000000 < b) = false := decide_eq_false x3
      by_cases hz : k = 0
      · have g4 : decide ((0 : Int) < (k : Int)) = false := decide_eq_false (by omega)
        have g4n : decide (0 < k) = false := decide_eq_false (by omega)
        have HRS2 : Hid (Rising 0 1000000 (H.take (k + 1))) := Lib.hid (rise_step HRS.out HHK.out (by dsimp only; omega) (by dsimp only; omega) (by dsimp only; omega) (fun j x hj => by omega))
        have hw1 : IntKind.i64.wrap (S + b) = S + b := by rw [IntKind.wrap_i64]; omega
        have hw2 : IntKind.i64.wrap (S + b - a) = S + b - a := by rw [IntKind.wrap_i64]; omega
        clear hW2 hxb d0 d1 kc hz hA hA2 x1 x2 x3
        go_quiet (fail)
        go_upto_region 9 with fail
        obtain ⟨W3, hW3⟩ : ∃ V, V = W2.drewN nq := ⟨_, rfl⟩
        rw [← hW3]
        have hA3 : Adds W2 W3 := by rw [hW3]; exact (Adds.refl _).drewN _
        have m0 := keep_cell hA3 k0
        have m1 := keep_cell hA3 k1
        have HA3 := Lib.hid (HA2.out.trans hA3)
        clear hW3 hA3 k0 k1 kc2 g1 g2 g3 g4 g4n
        go_wp2
        exact ⟨⟨k + 1, by omega, by go_num, by rw [HNX.out], HRS2, HA3⟩, by simp [intOf]; omega⟩
      · obtain ⟨z, hzk⟩ : ∃ z, k = z + 1 := ⟨k - 1, by omega⟩
        obtain ⟨⟨a', b'⟩, hh'⟩ : ∃ x, H[z]? = some x := ⟨_, List.getElem?_eq_getElem (by have := HMH.out; omega)⟩
        obtain ⟨f0, f1⟩ := flat2_get hh'
        have d3 := keep_cell (hA.trans hA2) (own_cell HHH.out f1).1
        dsimp only at d3
        have g4 : decide ((0 : Int) < (k : Int)) = true := decide_eq_true (by omega)
        have g4n : decide (0 < k) = true := decide_eq_true (by omega)
        have hw1 : IntKind.i64.wrap ((k : Int) - 1) = (z : Int) := by rw [IntKind.wrap_i64]; omega
        have hw2 : (k : Int) - 1 = (z : Int) := by omega
        have q0 : (0 : Int) ≤ (z : Int) := by omega
        have q1 : (z : Int) < (mh : Int) := by omega
        by_cases x4 : a < b'
        · have g5 : decide (a < b') = true := decide_eq_true x4
          have HB : Hid (¬ ProvesOK l K H L) := Lib.hid (fun h => by have := h.2.1.up z _ _ hh' (by rw [← hzk]; exact HHK.out); dsimp only at this; omega)
          clear hW2 hxb d0 d1 kc hz hA hA2 hh' f0 f1 hzk x1 x2 x3 x4
          go_quiet (fail)
          go_wp2
          go_ret
          exact ⟨false, rfl, ⟨(fun e => by cases e), fun h => absurd h HB.out⟩, ((HA1.out.trans HA5.out).trans HA2.out).drewN _⟩
        have g5 : decide (a < b') = false := decide_eq_false x4
        have HRS2 : Hid (Rising 0 1000000 (H.take (k + 1))) := Lib.hid (rise_step HRS.out HHK.out (by dsimp only; omega) (by dsimp only; omega) (by dsimp only; omega) (fun j x hj hx => by
          have : j = z := by omega
          subst this
          rw [hh'] at hx
          cases hx
          dsimp only
          omega))
        have hw3 : IntKind.i64.wrap (S + b) = S + b := by rw [IntKind.wrap_i64]; omega
        have hw4 : IntKind.i64.wrap (S + b - a) = S + b - a := by rw [IntKind.wrap_i64]; omega
        clear hW2 hxb d0 d1 kc hz hA hA2 hh' f0 f1 hzk x1 x2 x3 x4
        go_quiet (fail)
        go_upto_region 9 with fail
        obtain ⟨W3, hW3⟩ : ∃ V, V = W2.drewN nq := ⟨_, rfl⟩
        rw [← hW3]
        have hA3 : Adds W2 W3 := by rw [hW3]; exact (Adds.refl _).drewN _
        have m0 := keep_cell hA3 k0
        have m1 := keep_cell hA3 k1
        have HA3 := Lib.hid (HA2.out.trans hA3)
        clear hW3 hA3 k0 k1 kc2 g1 g2 g3 g4 g4n g5 d3 hw1 hw2 q0 q1
        go_wp2
        exact ⟨⟨k + 1, by omega, by go_num, by rw [HNX.out], HRS2, HA3⟩, by simp [intOf]; omega⟩
    · have hdq : decide ((k : Int) < (mh : Int)) = false := decide_eq_false (by omega)
      have HRI : Hid (Rising 0 1000000 H) := Lib.hid (by have h := HRS.out; rwa [List.take_of_length_le (by have := HMH.out; omega)] at h)
      have HWI := Lib.hid (HWI0.out HRI.out)
      have HNB := Lib.hid (HNB0.out HRI.out)
      have HWB := Lib.hid (HWB0.out HRI.out)
      have HSE : Hid (S = sumH (fun h => h.2 - h.1) H) := Lib.hid (by rw [HS.out, List.take_of_length_le (by have := HMH.out; omega)])
      have HO1 := Lib.hid (own_later HO0.out HAD.out)
      have HA6 := Lib.hid (HA5.out.trans HAD.out)
      have kcx : wr.cell? ⟨cb, 1, none⟩ = some (.slice p2 mh c2) := (HC1.out.later HA6.out).cell 1
      clear HS HAD HRS HWI0 HNB0 HWB0
      go_upto_region 12 with fail
      go_loopw [11, 12] (fun v11 v12 wi => ∃ q : Nat, q ≤ ml ∧ v12 = .int .i64 q ∧ v11 = .int .i64 (needsL l H ((L.map Int.toNat).take q)) ∧ Hid (∀ (i : Nat) (x : Int), i < q → L[i]? = some x → 0 ≤ x ∧ x < (n : Int)) ∧ Hid (((L.map Int.toNat).take q).Nodup) ∧ Hid (wi.ownsRow g 4 1 (.slice (some ⟨g, 0, none⟩) n n) n (seenL n ((L.map Int.toNat).take q))) ∧ Hid (Adds W1 wi)) (fun _ v12 _ => ml - (intOf v12).toNat)
      case atStart => exact ⟨0, by omega, rfl, rfl, Lib.hid (fun i x hi => by omega), Lib.hid (by simp), HO1, HA6⟩
      case round =>
        obtain ⟨q, hq, rfl, rfl, HIN, HND, HOQ, HAQ⟩ := hrel
        obtain ⟨n0, n1⟩ := HNB.out q
        obtain ⟨N, hNN⟩ : ∃ N, N = needsL l H ((L.map Int.toNat).take q) := ⟨_, rfl⟩
        rw [← hNN] at n0 n1 ⊢
        have HNN := Lib.hid hNN
        clear hNN
        have kc0 : wr.cell? ⟨cb, 0, none⟩ = some (.slice p1 ml c1) := (HC1.out.later HAQ.out).cell 0
        have kc1 : wr.cell? ⟨cb, 1, none⟩ = some (.slice p2 mh c2) := (HC1.out.later HAQ.out).cell 1
        by_cases hql : q < ml
        · have hql2 : (q : Int) < (ml : Int) := by omega
          obtain ⟨x, hx⟩ : ∃ x, L[q]? = some x := ⟨_, List.getElem?_eq_getElem (by have := HML.out; omega)⟩
          obtain ⟨g1, c', e, _⟩ := own_some HLL.out (by omega)
          injection e with e1 e2 e3
          subst e1
          clear e2 e3
          have hA := HA1.out.trans HAQ.out
          have d0 := keep_cell hA (own_cell (j := q) (u := .int .i64 x) HLL.out (by rw [List.getElem?_map, hx]; rfl)).1
          have HI := Lib.hid hx
          clear hx hA
          by_cases x0 : x < 0
          · have g1 : decide (x < 0) = true := decide_eq_true x0
            have HB : Hid (¬ ProvesOK l K H L) := Lib.hid (fun h => by have := h.1.1 _ (List.mem_of_getElem? HI.out); omega)
            clear x0
            go_wp2
            go_ret
            exact ⟨false, rfl, ⟨(fun e => by cases e), fun h => absurd h HB.out⟩, HA1.out.trans HAQ.out⟩
          have g1' : decide (x < 0) = false := decide_eq_false x0
          by_cases x1 : (n : Int) ≤ x
          · have g2 : decide ((n : Int) ≤ x) = true := decide_eq_true x1
            have HB : Hid (¬ ProvesOK l K H L) := Lib.hid (fun h => by have := h.1.1 _ (List.mem_of_getElem? HI.out); have := HN.out; omega)
            clear x0 x1
            go_wp2
            go_ret
            exact ⟨false, rfl, ⟨(fun e => by cases e), fun h => absurd h HB.out⟩, HA1.out.trans HAQ.out⟩
          obtain ⟨i, hi⟩ : ∃ i : Nat, x = (i : Int) := ⟨x.toNat, by omega⟩
          subst hi
          have hin : i < n := by omega
          have g2' : decide ((n : Int) ≤ (i : Int)) = false := decide_eq_false (by omega)
          have g2n : decide (n ≤ i) = false := decide_eq_false (by omega)
          have q0 : (0 : Int) ≤ (i : Int) := by omega
          have q1 : (i : Int) < (n : Int) := by omega
          have hLi : (L.map Int.toNat)[q]? = some i := by rw [List.getElem?_map, HI.out]; rfl
          obtain ⟨ks, kf⟩ := own_cell HOQ.out (seenL_get ((L.map Int.toNat).take q) hin)
          by_cases hs : i ∈ (L.map Int.toNat).take q
          · rw [decide_eq_true hs] at ks
            have HB : Hid (¬ ProvesOK l K H L) := Lib.hid (fun h => nums_seen h.1 HI.out hs)
            clear x0 x1 hs kf hLi
            go_wp2
            go_ret
            exact ⟨false, rfl, ⟨(fun e => by cases e), fun h => absurd h HB.out⟩, HA1.out.trans HAQ.out⟩
          rw [decide_eq_false hs] at ks
          have HND2 := Lib.hid (nums_next HND.out HI.out hs)
          have HIN2 : Hid (∀ (i' : Nat) (x : Int), i' < q + 1 → L[i']? = some x → 0 ≤ x ∧ x < (n : Int)) := Lib.hid (fun i' x hi' hx => by
            by_cases hii : i' = q
            · subst hii
              rw [HI.out] at hx
              cases hx
              omega
            · exact HIN.out i' x (by omega) hx)
          clear x0 x1 hs
          obtain ⟨⟨y0, y1, y2, y3⟩, hy⟩ : ∃ x, l[i]? = some x := ⟨_, List.getElem?_eq_getElem (by have := HN.out; omega)⟩
          have hoky := HOK.out _ (List.mem_of_getElem? hy)
          have HNX : Hid (needsL l H ((L.map Int.toNat).take (q + 1)) = N + max 0 (y2 - (y1 - y0 - withinL (y0, y1, y2, y3) H))) := Lib.hid (by
            rw [needsL_next hLi, ← HNN.out]
            unfold needL
            rw [hy])
          have HWB2 := HWB.out _ hoky
          have HWI2 := Lib.hid (HWI.out _ hoky)
          obtain ⟨wi, hwi⟩ : ∃ v, v = withinL (y0, y1, y2, y3) H := ⟨_, rfl⟩
          rw [← hwi] at HNX HWB2 HWI2
          dsimp only at HWI2
          obtain ⟨wb0, wb1⟩ := HWB2
          unfold okN at hoky
          dsimp only at hoky
          obtain ⟨o1, o2, o3, o4, o5, o6⟩ := hoky
          have HY := Lib.hid hy
          have HLI := Lib.hid hLi
          clear hy hwi hLi
          go_upto_region 17 with fail
          clear d0 kc0 kc1 g1' g2' g2n
          go_upto_region 18 with fail
          obtain ⟨W4, hW4⟩ : ∃ V, V = wr.setCell ⟨g, i, none⟩ (.bool true) := ⟨_, rfl⟩
          rw [← hW4]
          have HO4 : Hid (W4.ownsRow g 4 1 (.slice (some ⟨g, 0, none⟩) n n) n (seenL n ((L.map Int.toNat).take (q + 1)))) := Lib.hid (by
            rw [hW4, ← seenL_next HLI.out hin]
            exact own_put HOQ.out (.bool true))
          have HA4 : Hid (Adds W1 W4) := Lib.hid (by rw [hW4]; exact HAQ.out.set (p := ⟨g, i, none⟩) (by have := HGW.out; simp; omega) _)
          obtain ⟨lg, off, rfl, e0, e1, e2, e3⟩ := HL.out.later (HA1.out.trans HA4.out) i _ HY.out
          dsimp only at e0 e1 e2 e3
          clear hW4 ks kf
          go_upto_region 19 with fail
          obtain ⟨xb, hxb⟩ : ∃ b, b = W4.heap.size := ⟨_, rfl⟩
          obtain ⟨W5, hW5⟩ : ∃ V, V = W4.alloc (.cells #[.int .i64 y0, .int .i64 y1, .int .i64 y2, .int .i64 y3] 72) := ⟨_, rfl⟩
          rw [← hW5, ← hxb]
          have hA5 : Adds W4 W5 := by rw [hW5]; exact (Adds.refl _).alloc _
          have HX5 : Hid (Box W5 xb #[.int .i64 y0, .int .i64 y1, .int .i64 y2, .int .i64 y3] 72) := Lib.hid (by rw [hW5, hxb]; exact Box.new _ _ _)
          have HA5' := Lib.hid (HA4.out.trans hA5)
          have HO5 := Lib.hid (own_later HO4.out hA5)
          have k0 : W5.cell? ⟨xb, 0, none⟩ = some (.int .i64 y0) := HX5.out.cell 0
          have k1 : W5.cell? ⟨xb, 1, none⟩ = some (.int .i64 y1) := HX5.out.cell 1
          have k2 : W5.cell? ⟨xb, 2, none⟩ = some (.int .i64 y2) := HX5.out.cell 2
          have k3 : W5.cell? ⟨xb, 3, none⟩ = some (.int .i64 y3) := HX5.out.cell 3
          have kc1 : W5.cell? ⟨cb, 1, none⟩ = some (.slice p2 mh c2) := (HC1.out.later HA5'.out).cell 1
          obtain ⟨t, ht⟩ : ∃ t, t = max 0 (y2 - (y1 - y0 - wi)) := ⟨_, rfl⟩
          rw [← ht] at HNX
          have ht' : max 0 (y2 - (y1 - y0 - wi)) = t := ht.symm
          have hw1 : IntKind.i64.wrap (y1 - y0) = y1 - y0 := by rw [IntKind.wrap_i64]; omega
          have hw2 : IntKind.i64.wrap (y1 - y0 - wi) = y1 - y0 - wi := by rw [IntKind.wrap_i64]; omega
          have hw3 : IntKind.i64.wrap (y2 - (y1 - y0 - wi)) = y2 - (y1 - y0 - wi) := by rw [IntKind.wrap_i64]; omega
          have htb : 0 ≤ t ∧ t ≤ 2000000000 := by omega
          have hw4 : IntKind.i64.wrap (N + t) = N + t := by rw [IntKind.wrap_i64]; omega
          clear hW5 hxb hA5 ht e0 e1 e2 e3
          go_region_held3 (fun w' => w'.cell? ⟨xb, 0, none⟩ = some (.int .i64 y0) ∧ w'.cell? ⟨xb, 1, none⟩ = some (.int .i64 y1) ∧ w'.cell? ⟨xb, 2, none⟩ = some (.int .i64 y2) ∧ w'.cell? ⟨xb, 3, none⟩ = some (.int .i64 y3) ∧ w'.cell? ⟨cb, 1, none⟩ = some (.slice p2 mh c2) ∧ Hid (Adds W5 w'))
            (first | (refine ⟨?_, ?_, ?_, ?_, ?_, Lib.hid (Adds.refl _).drew⟩ <;> go_keep; done) | (have hqq := Lib.hid (Adds.trans hh.2.2.2.2.2.out hb6); exact ⟨keep_cell hqq.out k0, keep_cell hqq.out k1, keep_cell hqq.out k2, keep_cell hqq.out k3, keep_cell hqq.out kc1, hqq⟩))
            ((go_simp; go_at_call 49; rename_i hh _ _; refine (HWI2.out _ ((HA1.out.trans HA5'.out).trans hh.2.2.2.2.2.out)).mono ?_; rintro e w6 ⟨rfl, hb6⟩))
          go_wp2
          exact ⟨⟨q + 1, by omega, by go_num, by rw [HNX.out], HIN2, HND2, Lib.hid (own_later HO5.out (hh.2.2.2.2.2.out.trans hb6)), Lib.hid (HA5'.out.trans (hh.2.2.2.2.2.out.trans hb6))⟩, by simp [intOf]; omega⟩
        · have hdq : decide ((q : Int) < (ml : Int)) = false := decide_eq_false (by omega)
          have eN : N = needsL l H (L.map Int.toNat) := by rw [HNN.out, List.take_of_length_le (by rw [List.length_map]; have := HML.out; omega)]
          have hNO : NumsOK n L := nums_end (fun x hx => by
            obtain ⟨i', hi'⟩ := List.mem_iff_getElem?.1 hx
            exact HIN.out i' x (by have := (List.getElem?_eq_some_iff.1 hi').1; have := HML.out; omega) hi') (by
            have h := HND.out
            rw [List.take_of_length_le (by rw [List.length_map]; have := HML.out; omega)] at h
            exact h)
          have HP : Hid (ProvesOK l K H L ↔ S * K < N) := Lib.hid (by
            unfold ProvesOK
            rw [← HSE.out, ← eN, ← HN.out]
            exact ⟨fun h => h.2.2, fun h => ⟨hNO, HRI.out, h⟩⟩)
          have hm1 : S * 1 ≤ S * K := Int.mul_le_mul_of_nonneg_left hK0 s0
          have hm2 : S * K ≤ S * 64 := Int.mul_le_mul_of_nonneg_left hK1 s0
          obtain ⟨p, hp⟩ : ∃ p, p = S * K := ⟨_, rfl⟩
          have hp' : S * K = p := hp.symm
          rw [hp'] at HP hm1 hm2
          have hw : IntKind.i64.wrap p = p := by rw [IntKind.wrap_i64]; omega
          have HE := Lib.hid (HA1.out.trans HAQ.out)
          by_cases hg : p < N
          · have g' : decide (p < N) = true := decide_eq_true hg
            have HB := Lib.hid (HP.out.2 hg)
            clear eN hp hm1 hm2 hg HP hNO
            go_wp2
            go_ret
            exact ⟨true, rfl, ⟨fun _ => HB.out, fun _ => rfl⟩, HE.out⟩
          · have g' : decide (p < N) = false := decide_eq_false hg
            have HB : Hid (¬ ProvesOK l K H L) := Lib.hid (fun h => hg (HP.out.1 h))
            clear eN hp hm1 hm2 hg HP hNO
            go_wp2
            go_ret
            exact ⟨false, rfl, ⟨(fun e => by cases e), fun h => absurd h HB.out⟩, HE.out⟩

end Go.Proofs.Ytkofnhimgegcnaa

namespace Go.Proofs.Ytkofnhimgegcnaa
open Go Go.RowKit Go.Sort

theorem RPlan_all (lp : Option Addr) (lc : Nat) (l : List Ld) (K : Int) (p : Option Addr) (cl base : Nat) (P : List Tn) (w : World) (hl : LoadsAt w lp l) (hn : l.length ≤ 1000) (hok : ∀ x ∈ l, okN x)
    (hP : TurnsR w base (.slice p P.length cl) P) (hm : P.length ≤ 1000) (hK0 : 0 ≤ K) :
    Calls Try.prog 19 #[.slice lp l.length lc, .int .i64 K, .slice p P.length cl] w fun e w' => ∃ b : Bool, e = .returned (.bool b) ∧ (b = true ↔ PlanOK l K P) ∧ Adds w w' := by
  by_cases h : PlanOK l K P
  · exact (RPlan_any lp lc l K p cl base P w hl hn hok hP (by omega) h).mono (by
      rintro e w' ⟨rfl, h1⟩
      exact ⟨true, rfl, ⟨fun _ => h, fun _ => rfl⟩, h1⟩)
  · exact (RPlan_no lp lc l K p cl base P w hl hn hok hP hm hK0 h).mono (by
      rintro e w' ⟨rfl, h1⟩
      exact ⟨false, rfl, ⟨(fun e => by cases e), fun h' => absurd h' h⟩, h1⟩)

theorem crush_proves {l : List Ld} {K : Int} {H : List (Int × Int)} {L : List Nat} (h : Crush l K H L) (htop : ∀ x ∈ H, x.2 ≤ 1000000) : ProvesOK l K H (numsI L) := by
  have e : (numsI L).map Int.toNat = L := by
    refine List.ext_getElem? (fun i => ?_)
    rw [List.getElem?_map]
    cases hL : L[i]? with
    | none =>
      rw [List.getElem?_eq_none (by have := List.getElem?_eq_none_iff.1 hL; simp; exact this)]
      rfl
    | some a => rw [numsI_get hL]; rfl
  refine ⟨nums_end (fun x hx => ?_) ?_, ⟨fun x hx => ?_, h.rise.up⟩, ?_⟩
  · obtain ⟨i, hi⟩ := List.mem_iff_getElem?.1 hx
    have hlt : i < L.length := by have := (List.getElem?_eq_some_iff.1 hi).1; simpa using this
    rw [numsI_get (List.getElem?_eq_getElem hlt)] at hi
    cases hi
    have := h.mem _ (List.getElem_mem hlt)
    omega
  · rw [e]
    exact h.up.imp (fun h => Nat.ne_of_lt h)
  · have := h.rise.inn x hx
    have := htop x hx
    omega
  · rw [e]
    exact h.gt

end Go.Proofs.Ytkofnhimgegcnaa

namespace Go.Proofs.Ytkofnhimgegcnaa
open Go Go.RowKit Go.Sort

theorem PlanT.few {l : List Ld} {K : Int} {P : List Tn} (h : PlanT l K P) (hn : l.length ≤ 6) : P.length ≤ 1000 := by
  obtain ⟨f, l', hf, hp, _, hq, _⟩ := h
  have h1 := hq.length_eq
  have h2 := addJ_lens l'
  have h3 := hp.length_eq
  have h4 := allT_le (netE (timesOf l) K l) f (timesOf l) l.length ((timesOf l).length - 1)
  have h5 := netE_len (timesOf l) K l
  have h6 := timesOf_len l
  have h7 : l.length * ((timesOf l).length + 1) ≤ 6 * 13 := Nat.mul_le_mul hn (by omega)
  omega

section
variable {q : Option Addr} {c : Nat} {l : List Ld} {K : Nat} {W : World}

/-- Plan where there is one: turns that IsPlan says are a plan. -/
theorem plan_few (hL : LoadsAt W q l) (hn : l.length ≤ 6) (hok : ∀ x ∈ l, okB x = true) (hK : 1 ≤ K ∧ K ≤ 64) (hc : CanDry l K) :
    Calls Try.prog 22 #[.slice q l.length c, .int .i64 (K : Int)] W fun e w' => ∃ v : Value, e = .returned (.tuple #[v, .int .i64 0]) ∧ Adds W w' ∧
      ∀ W2, Adds w' W2 → Calls Try.prog 18 #[.slice q l.length c, .int .i64 (K : Int), v] W2 fun e w2 => e = .returned (.bool true) ∧ Adds W2 w2 :=
  (Plan_any q c l K W (by unfold maxLen; omega) hL).mono (by
    rintro e w' ⟨u, P, cc, rfl, h1, h2, _, h3⟩
    obtain ⟨h4, _⟩ := h3 (checkK_ok (by omega) hok (by omega))
    obtain ⟨rfl, h5⟩ := h4 hc
    refine ⟨u, rfl, h2, fun W2 hW2 => ?_⟩
    exact (IsPlan_any q c l K u W.heap.size P W2 (hL.later (h2.trans hW2)) (by omega) hok hK (own_later h1 hW2) (h5.few hn)).mono (by
      rintro e w2 ⟨b, rfl, h6, h7⟩
      rw [h6.2 (h5.ok (fun x hx => okB_okN (hok x hx)) (by omega))]
      exact ⟨rfl, h7⟩))

/-- Proof where there is no plan: a crush that Proves says is a proof. -/
theorem proof_few (hL : LoadsAt W q l) (hn : l.length ≤ 256) (hok : ∀ x ∈ l, okB x = true) (hK : 1 ≤ K ∧ K ≤ 64) (hc : ¬ CanDry l K) :
    Calls Try.prog 23 #[.slice q l.length c, .int .i64 (K : Int)] W fun e w' => ∃ v1 v2 : Value, e = .returned (.tuple #[.agg #[v1, v2], .bool true]) ∧ Adds W w' ∧
      ∀ W2, Adds w' W2 → Calls Try.prog 20 #[.slice q l.length c, .int .i64 (K : Int), .agg #[v1, v2]] W2 fun e w2 => e = .returned (.bool true) ∧ Adds W2 w2 :=
  (proof_no (c := c) hL hn hok (K := (K : Int)) (by omega) hc).mono (by
    rintro e w' ⟨p1, c1, L, p2, c2, H, rfl, h1, h2, h3, h4, h5, h6, h7⟩
    refine ⟨_, _, rfl, h7, fun W2 hW2 => ?_⟩
    have hl : (numsI L).length = L.length := by simp
    have h := Proves_any q c l K p1 p2 c1 c2 W.heap.size (numsI L) H W2 (hL.later (h7.trans hW2)) hn hok (by omega) (by rw [hl]; exact own_later h1 hW2) (own_later h2 hW2) (by rw [hl]; omega) h4
    rw [hl] at h
    exact h.mono (by
      rintro e w2 ⟨b, rfl, h8, h9⟩
      rw [h8.2 (crush_proves h3 h5)]
      exact ⟨rfl, h9⟩))
end

end Go.Proofs.Ytkofnhimgegcnaa

namespace Go.Proofs.Ytkofnhimgegcnaa
open Go Go.RowKit Go.Sort

/-- The cells that a slice shows. -/
def CellsAt (w : World) (p : Option Addr) (xs : List Value) : Prop := ∀ j u, xs[j]? = some u → ∃ g off, p = some ⟨g, off, none⟩ ∧ w.cell? ⟨g, off + j, none⟩ = some u

theorem CellsAt.later {w w' : World} {p : Option Addr} {xs : List Value} (h : CellsAt w p xs) (ha : Adds w w') : CellsAt w' p xs := fun j u hj => by
  obtain ⟨g, off, hp, h0⟩ := h j u hj
  exact ⟨g, off, hp, keep_cell ha h0⟩
theorem CellsAt.pre {w : World} {p : Option Addr} {xs ys : List Value} (h : CellsAt w p (xs ++ ys)) : CellsAt w p xs := fun j u hj => h j u (by
  rw [List.getElem?_append_left (List.getElem?_eq_some_iff.1 hj).1]
  exact hj)
theorem CellsAt.take_flat {α : Type} {w : World} {p : Option Addr} {f : α → List Value} {l : List α} (k : Nat) (h : CellsAt w p (l.flatMap f)) : CellsAt w p ((l.take k).flatMap f) := by
  rw [← List.take_append_drop k l, List.flatMap_append] at h
  exact h.pre
theorem CellsAt.take_map {α : Type} {w : World} {p : Option Addr} {f : α → Value} {l : List α} (k : Nat) (h : CellsAt w p (l.map f)) : CellsAt w p ((l.take k).map f) := by
  rw [← List.take_append_drop k l, List.map_append] at h
  exact h.pre
/-- What an append asks of the slice that it adds. -/
theorem CellsAt.news {w : World} {g off : Nat} {xs : List Value} (h : CellsAt w (some ⟨g, off, none⟩) xs) : ∀ j u, xs[j]? = some u → w.cell? ((⟨g, off, none⟩ : Addr).add j) = some u := fun j u hj => by
  obtain ⟨g', off', e, hc⟩ := h j u hj
  injection e with e
  injection e with e1 e2
  subst e1; subst e2
  rw [addr_add2]
  exact hc
theorem CellsAt.addr {w : World} {p : Option Addr} {xs : List Value} (h : CellsAt w p xs) (h0 : 0 < xs.length) : ∃ g off, p = some ⟨g, off, none⟩ := by
  obtain ⟨g, off, hp, _⟩ := h 0 xs[0] (List.getElem?_eq_getElem h0)
  exact ⟨g, off, hp⟩

theorem flat2_len : ∀ (l : List (Int × Int)), (l.flatMap enc2).length = l.length * 2
  | [] => rfl
  | x :: l => by rw [List.flatMap_cons, List.length_append, flat2_len l]; simp [enc2]; omega
theorem flat2_one (l : List (Int × Int)) : ∀ u ∈ l.flatMap enc2, u.oneCell' = true := fun u hu => by
  rw [List.mem_flatMap] at hu
  obtain ⟨x, _, hx⟩ := hu
  simp [enc2] at hx
  rcases hx with rfl | rfl <;> rfl
theorem ints_one (l : List Int) : ∀ u ∈ l.map (Value.int .i64), u.oneCell' = true := fun u hu => by
  obtain ⟨x, _, rfl⟩ := List.mem_map.1 hu
  rfl
theorem own_cells {w : World} {base t size n c : Nat} {p : Option Addr} {xs : List Value} (h : w.ownsRow base t size (.slice p n c) n xs) (hn : 0 < n) : CellsAt w p xs := fun j u hj => by
  obtain ⟨g, cap, e, _⟩ := own_some h hn
  simp only [Value.slice.injEq] at e
  obtain ⟨rfl, -, rfl⟩ := e
  exact ⟨g, 0, rfl, by rw [Nat.zero_add]; exact (own_cell h hj).1⟩

end Go.Proofs.Ytkofnhimgegcnaa

namespace Go.Proofs.Ytkofnhimgegcnaa
open Go Go.RowKit Go.Sort

theorem info42b : (Try.prog.info? 42).map (fun i => (i.zero, i.size, i.bytes)) = some (some (.agg #[.int .i64 0, .int .i64 0, .int .i64 0]), 3, 24) := by kernel_rfl
theorem info41b : (Try.prog.info? 41).map (fun i => (i.zero, i.size, i.bytes)) = some (some (.agg #[.int .i64 0, .int .i64 0, .int .i64 0]), 3, 24) := by kernel_rfl
theorem info91b : (Try.prog.info? 91).map (fun i => (i.zero, i.size, i.bytes)) = some (some (.agg #[.int .i64 0, .int .i64 0]), 2, 16) := by kernel_rfl

theorem proof_few2 {q : Option Addr} {c : Nat} {l : List Ld} {K : Nat} {W : World} (hL : LoadsAt W q l) (hn : l.length ≤ 256) (hok : ∀ x ∈ l, okB x = true) (hK : 1 ≤ K ∧ K ≤ 64) (hc : ¬ CanDry l K) :
    Calls Try.prog 23 #[.slice q l.length c, .int .i64 (K : Int)] W fun e w' => ∃ (pa : Option Addr) (na ca : Nat) (pb : Option Addr) (nb cb : Nat), e = .returned (.tuple #[.agg #[.slice pa na ca, .slice pb nb cb], .bool true]) ∧ Adds W w' ∧
      ∀ W2, Adds w' W2 → Calls Try.prog 20 #[.slice q l.length c, .int .i64 (K : Int), .agg #[.slice pa na ca, .slice pb nb cb]] W2 fun e w2 => e = .returned (.bool true) ∧ Adds W2 w2 :=
  (proof_no (c := c) hL hn hok (K := (K : Int)) (by omega) hc).mono (by
    rintro e w' ⟨p1, c1, L, p2, c2, H, rfl, h1, h2, h3, h4, h5, h6, h7⟩
    refine ⟨p1, _, c1, p2, _, c2, rfl, h7, fun W2 hW2 => ?_⟩
    have hl : (numsI L).length = L.length := by simp
    have h := Proves_any q c l K p1 p2 c1 c2 W.heap.size (numsI L) H W2 (hL.later (h7.trans hW2)) hn hok (by omega) (by rw [hl]; exact own_later h1 hW2) (own_later h2 hW2) (by rw [hl]; omega) h4
    rw [hl] at h
    exact h.mono (by
      rintro e w2 ⟨b, rfl, h8, h9⟩
      rw [h8.2 (crush_proves h3 h5)]
      exact ⟨rfl, h9⟩))

/-- What the calls of a round return, of n kilns. -/
def JudgeGot (wx : World) (l : List Ld) (n m mp ml mh : Nat) (q q4 p9 p10 p4 p5 : Option Addr) (c c4 c9 c10 c4' c5 : Nat) (bp bv : Bool) : Prop :=
  (∀ W, Adds wx W → Calls Try.prog 18 #[.slice q4 m c4, .int .i64 (n : Int), .slice p9 mp c9] W fun e w' => e = .returned (.bool bp) ∧ Adds W w') ∧
  (∀ W, Adds wx W → Calls Try.prog 19 #[.slice q m c, .int .i64 (n : Int), .slice p10 mp c10] W fun e w' => e = .returned (.bool bp) ∧ Adds W w') ∧
  (∀ W, Adds wx W → Calls Try.prog 20 #[.slice q4 m c4, .int .i64 (n : Int), .agg #[.slice p4 ml c4', .slice p5 mh c5]] W fun e w' => e = .returned (.bool bv) ∧ Adds W w') ∧
  (∀ W, Adds wx W → Calls Try.prog 21 #[.slice q m c, .int .i64 (n : Int), .agg #[.slice p4 ml c4', .slice p5 mh c5]] W fun e w' => e = .returned (.bool bv) ∧ Adds W w') ∧
  (CanDry l n → (∀ W, Adds wx W → Calls Try.prog 22 #[.slice q4 m c4, .int .i64 (n : Int)] W fun e w' => ∃ v : Value, e = .returned (.tuple #[v, .int .i64 0]) ∧ Adds W w' ∧ ∀ W2, Adds w' W2 → Calls Try.prog 18 #[.slice q4 m c4, .int .i64 (n : Int), v] W2 fun e w2 => e = .returned (.bool true) ∧ Adds W2 w2) ∧
    (∀ W, Adds wx W → Calls Try.prog 23 #[.slice q4 m c4, .int .i64 (n : Int)] W fun e w' => e = .returned (.tuple #[.agg #[nilV, nilV], .bool false]) ∧ Adds W w')) ∧
  (¬ CanDry l n → (∀ W, Adds wx W → Calls Try.prog 22 #[.slice q4 m c4, .int .i64 (n : Int)] W fun e w' => e = .returned (.tuple #[nilV, .int .i64 70]) ∧ Adds W w') ∧
    (∀ W, Adds wx W → Calls Try.prog 23 #[.slice q4 m c4, .int .i64 (n : Int)] W fun e w' => ∃ (pa : Option Addr) (na ca : Nat) (pb : Option Addr) (nb cb : Nat), e = .returned (.tuple #[.agg #[.slice pa na ca, .slice pb nb cb], .bool true]) ∧ Adds W w' ∧ ∀ W2, Adds w' W2 → Calls Try.prog 20 #[.slice q4 m c4, .int .i64 (n : Int), .agg #[.slice pa na ca, .slice pb nb cb]] W2 fun e w2 => e = .returned (.bool true) ∧ Adds W2 w2))

theorem judge_calls (wx : World) (l : List Ld) (n m mp ml mh : Nat) (q q4 p9 p10 p4 p5 : Option Addr) (c c4 c9 c10 c4' c5 B b0 : Nat) (P : List Tn) (L : List Int) (H : List (Int × Int))
    (hm : m = l.length) (hmp : mp = P.length) (hml : ml = L.length) (hmh : mh = H.length) (h6 : m ≤ 6) (hp : mp ≤ 14) (hl : ml ≤ 10) (hh : mh ≤ 10) (hok : ∀ x ∈ l, okB x = true) (hn : 1 ≤ n ∧ n ≤ 3)
    (hQ : LoadsAt wx q4 l) (hQR : LoadsAt wx q l) (hT9 : wx.ownsRow B 41 3 (.slice p9 mp c9) mp (P.flatMap enc3)) (hT10 : wx.ownsRow B 42 3 (.slice p10 mp c10) mp (P.flatMap enc3))
    (hO4 : wx.ownsRow b0 3 1 (.slice p4 ml c4') ml (L.map (Value.int .i64))) (hO5 : wx.ownsRow b0 91 2 (.slice p5 mh c5) mh (H.flatMap enc2)) :
    ∃ bp bv : Bool, JudgeGot wx l n m mp ml mh q q4 p9 p10 p4 p5 c c4 c9 c10 c4' c5 bp bv := by
  subst hm hmp hml hmh
  obtain ⟨bp, hbp⟩ : ∃ b : Bool, b = true ↔ PlanOK l n P := by classical exact ⟨decide (PlanOK l n P), by simp⟩
  obtain ⟨bv, hbv⟩ : ∃ b : Bool, b = true ↔ ProvesOK l n H L := by classical exact ⟨decide (ProvesOK l n H L), by simp⟩
  have hokN : ∀ x ∈ l, okN x := fun x hx => okB_okN (hok x hx)
  refine ⟨bp, bv, ?_, ?_, ?_, ?_, ?_, ?_⟩
  · intro W hW
    refine (IsPlan_any q4 c4 l n (.slice p9 P.length c9) B P W (hQ.later hW) (by omega) hok ⟨by omega, by omega⟩ (own_later hT9 hW) (by omega)).mono ?_
    rintro e w' ⟨b, rfl, h1, h2⟩
    rw [Bool.eq_iff_iff.2 (h1.trans hbp.symm)]
    exact ⟨rfl, h2⟩
  · intro W hW
    refine (RPlan_all q c l n p10 c10 B P W (hQR.later hW) (by omega) hokN (own_later hT10 hW) (by omega) (by omega)).mono ?_
    rintro e w' ⟨b, rfl, h1, h2⟩
    rw [Bool.eq_iff_iff.2 (h1.trans hbp.symm)]
    exact ⟨rfl, h2⟩
  · intro W hW
    refine (Proves_any q4 c4 l n p4 p5 c4' c5 b0 L H W (hQ.later hW) (by omega) hok ⟨by omega, by omega⟩ (own_later hO4 hW) (own_later hO5 hW) (by omega) (by omega)).mono ?_
    rintro e w' ⟨b, rfl, h1, h2⟩
    rw [Bool.eq_iff_iff.2 (h1.trans hbv.symm)]
    exact ⟨rfl, h2⟩
  · intro W hW
    refine (RProves_all q c l n p4 p5 c4' c5 b0 L H W (hQR.later hW) (by omega) hokN ⟨by omega, by omega⟩ (own_later hO4 hW) (own_later hO5 hW) (by omega) (by omega)).mono ?_
    rintro e w' ⟨b, rfl, h1, h2⟩
    rw [Bool.eq_iff_iff.2 (h1.trans hbv.symm)]
    exact ⟨rfl, h2⟩
  · intro hc
    exact ⟨fun W hW => plan_few (hQ.later hW) h6 hok ⟨by omega, by omega⟩ hc, fun W hW => proof_yes (hQ.later hW) (by omega) hok ⟨by omega, by omega⟩ hc⟩
  · intro hc
    exact ⟨fun W hW => plan_no (hQ.later hW) (by omega) hok ⟨by omega, by omega⟩ hc, fun W hW => proof_few2 (hQ.later hW) (by omega) hok ⟨by omega, by omega⟩ hc⟩

set_option maxRecDepth 100000 in
set_option maxHeartbeats 8000000 in
theorem judges_law (p : Option Addr) (cl : Nat) (l : List Ld) (pp : Option Addr) (pc : Nat) (Pa : List Tn) (p1 p2 : Option Addr) (c1 c2 : Nat) (La : List Int) (Ha : List (Int × Int)) (w : World) (hL : LoadsAt w p l) (hcl : l.length ≤ cl) (hmx : cl ≤ maxLen)
    (hP : CellsAt w pp (Pa.flatMap enc3)) (hLa : CellsAt w p1 (La.map (Value.int .i64))) (hHa : CellsAt w p2 (Ha.flatMap enc2)) (hc1 : La.length ≤ c1) (hc2 : Ha.length ≤ c2) (hpm : Pa.length ≤ maxLen) :
    Calls Try.prog 4 #[.slice p l.length cl, .slice pp Pa.length pc, .agg #[.slice p1 La.length c1, .slice p2 Ha.length c2]] w fun e w' => e = .returned (.bool true) ∧ Adds w w' := by
  obtain ⟨j0, hj, hj0, hj1, hj2⟩ := info_parts info3
  have HJ := Lib.hid hj
  have HJ0 := Lib.hid hj0
  have HJ1 := Lib.hid hj1
  have HJ2 := Lib.hid hj2
  obtain ⟨i0, hi, hi0, hi1, hi2⟩ := info_parts info91b
  have HI := Lib.hid hi
  have HI0 := Lib.hid hi0
  have HI1 := Lib.hid hi1
  have HI2 := Lib.hid hi2
  obtain ⟨t0, ht, ht0, ht1, ht2⟩ := info_parts info41b
  have HT := Lib.hid ht
  have HT0 := Lib.hid ht0
  have HT1 := Lib.hid ht1
  have HT2 := Lib.hid ht2
  obtain ⟨u0, hu, hu0, hu1, hu2⟩ := info_parts info42b
  have HU := Lib.hid hu
  have HU0 := Lib.hid hu0
  have HU1 := Lib.hid hu1
  have HU2 := Lib.hid hu2
  clear hj hj0 hj1 hj2 hi hi0 hi1 hi2 ht ht0 ht1 ht2 hu hu0 hu1 hu2
  have HTM := Lib.hid (fun (W : World) (hW : Adds w W) => tame_at p cl 6 l W (hL.later hW) (by omega) hcl hmx)
  obtain ⟨np, hnp⟩ : ∃ n, n = Pa.length := ⟨_, rfl⟩
  obtain ⟨P, hPP⟩ : ∃ P, P = Pa.take 14 := ⟨_, rfl⟩
  obtain ⟨mp, hmp⟩ : ∃ m, m = P.length := ⟨_, rfl⟩
  have hmp2 : mp = min 14 np := by rw [hmp, hPP, List.length_take, hnp]
  have HCP : Hid (CellsAt w pp (P.flatMap enc3)) := Lib.hid (by rw [hPP]; exact hP.take_flat 14)
  obtain ⟨nl, hnl⟩ : ∃ n, n = La.length := ⟨_, rfl⟩
  obtain ⟨L, hLL⟩ : ∃ L, L = La.take 10 := ⟨_, rfl⟩
  obtain ⟨ml, hml⟩ : ∃ m, m = L.length := ⟨_, rfl⟩
  have hml2 : ml = min 10 nl := by rw [hml, hLL, List.length_take, hnl]
  have HCL : Hid (CellsAt w p1 (L.map (Value.int .i64))) := Lib.hid (by rw [hLL]; exact hLa.take_map 10)
  obtain ⟨nh, hnh⟩ : ∃ n, n = Ha.length := ⟨_, rfl⟩
  obtain ⟨H, hHH⟩ : ∃ H, H = Ha.take 10 := ⟨_, rfl⟩
  obtain ⟨mh, hmh⟩ : ∃ m, m = H.length := ⟨_, rfl⟩
  have hmh2 : mh = min 10 nh := by rw [hmh, hHH, List.length_take, hnh]
  have HCH : Hid (CellsAt w p2 (H.flatMap enc2)) := Lib.hid (by rw [hHH]; exact hHa.take_flat 10)
  rw [← hnp, ← hnl, ← hnh]
  rw [← hnl] at hc1
  rw [← hnh] at hc2
  rw [← hnp] at hpm
  have HMP := Lib.hid hmp
  have HML := Lib.hid hml
  have HMH := Lib.hid hmh
  have hp1 : mp ≤ 14 := by omega
  have hp2 : mp ≤ np := by omega
  have hp3 : 14 ≤ mp ∨ np ≤ mp := by omega
  have hl1 : ml ≤ 10 := by omega
  have hl2 : ml ≤ nl := by omega
  have hh1 : mh ≤ 10 := by omega
  have hh2 : mh ≤ nh := by omega
  have HZ1 : Hid (min (nl : Int) 10 = (ml : Int)) := Lib.hid (by omega)
  have HZ2 : Hid (min (nh : Int) 10 = (mh : Int)) := Lib.hid (by omega)
  clear hmp2 hml2 hmh2
  generalize l.length = N at *
  clear hL hcl hmx hP hLa hHa hnp hPP hmp hnl hLL hml hnh hHH hmh
  go_enter Try.func4, Try.ntmps4
  go_upto_region 1 with fail
  obtain ⟨cb, hcb⟩ : ∃ b, b = w.heap.size := ⟨_, rfl⟩
  obtain ⟨W1, hW1⟩ : ∃ V, V = w.alloc (.cells #[.slice p1 nl c1, .slice p2 nh c2] 38) := ⟨_, rfl⟩
  try rw [← hW1, ← hcb]
  have HC1 : Hid (Box W1 cb #[.slice p1 nl c1, .slice p2 nh c2] 38) := Lib.hid (by rw [hW1, hcb]; exact Box.new _ _ _)
  have HA1 : Hid (Adds w W1) := Lib.hid (by rw [hW1]; exact (Adds.refl _).alloc _)
  clear hW1 hcb
  go_upto_region 2 with (go_at_call 13; refine (HTM.out _ HA1.out).mono ?_; rintro e w1 ⟨c, q, l', rfl, h1, h2, h3, _, hb1⟩; have HL := Lib.hid h1; have HOK := Lib.hid h3; have HB1 := Lib.hid hb1; clear h1 h3 hb1)
  have HGV := Lib.hid (give_at q c l' w1 HL.out (by omega))
  obtain ⟨m, hm⟩ : ∃ m, m = l'.length := ⟨_, rfl⟩
  rw [← hm] at h2 HGV ⊢
  have HM := Lib.hid hm
  clear hm HTM
  go_upto_region 6 with (go_at_call 16; refine HGV.out.mono ?_; rintro e w2 ⟨c4, q4, rfl, hq4, hb2⟩; have HQ4 := Lib.hid hq4; have HB2 := Lib.hid hb2; clear hq4 hb2)
  have HA2 : Hid (Adds w w2) := Lib.hid (HA1.out.trans (HB1.out.trans HB2.out))
  have HL2 := Lib.hid (HL.out.later HB2.out)
  have HC2 := Lib.hid (HC1.out.later (HB1.out.trans HB2.out))
  clear HGV HB2 HB1 HL HC1 HA1
  obtain ⟨B, hB⟩ : ∃ B, B = w2.heap.size := ⟨_, rfl⟩
  have HBW := Lib.hid hB
  clear hB
  go_loopw [9, 10, 11] (fun v9 v10 v11 wr => ∃ k : Nat, k ≤ mp ∧ v11 = .int .i64 k ∧ Hid (wr.ownsRow B 41 3 v9 k ((P.take k).flatMap enc3)) ∧ Hid (wr.ownsRow B 42 3 v10 k ((P.take k).flatMap enc3)) ∧ Hid (∀ j, v9.ownBlock = some j → v10.ownBlock ≠ some j) ∧ Hid (Adds w2 wr)) (fun _ _ v11 _ => mp - (intOf v11).toNat)
  case atStart => exact ⟨0, by omega, rfl, Lib.hid (World.ownsRow_nil _ _ _ _), Lib.hid (World.ownsRow_nil _ _ _ _), Lib.hid (fun j hj => by cases hj), Lib.hid (Adds.refl _)⟩
  case round =>
    obtain ⟨k, hk, rfl, HO9, HO10, HAP, HAD⟩ := hrel
    obtain ⟨p9, c9, rfl⟩ := own_slice HO9.out
    obtain ⟨p10, c10, rfl⟩ := own_slice HO10.out
    by_cases hlt : k < mp
    · have hlt2 : (k : Int) < (np : Int) := by omega
      have hlt3 : (k : Int) < 14 := by omega
      obtain ⟨⟨x0, x1, x2⟩, hx⟩ : ∃ x, P[k]? = some x := ⟨_, List.getElem?_eq_getElem (by have := HMP.out; omega)⟩
      obtain ⟨f0, f1, f2⟩ := flat3_cell k _ hx
      obtain ⟨pg, po, rfl, d0⟩ := (HCP.out.later (HA2.out.trans HAD.out)) _ _ f0
      have dd := (HCP.out.later (HA2.out.trans HAD.out)).news
      have d1 := dd _ _ f1
      have d2 := dd _ _ f2
      rw [addr_add2] at d1 d2
      dsimp only at d0 d1 d2
      rw [show po + (k * 3 + 1) = po + k * 3 + 1 by omega] at d1
      rw [show po + (k * 3 + 2) = po + k * 3 + 2 by omega] at d2
      have HNX := Lib.hid (take_flat3 hx)
      have HX := Lib.hid hx
      have hws := HAD.out.size
      have hbw := HBW.out
      clear hx f0 f1 f2 dd
      go_upto_region 9 with (at_builtin; ((refine wpList_append_lies _ rfl _ _ 39 rfl B 41 t0 (.agg #[.int .i64 0, .int .i64 0, .int .i64 0]) 3 24 Try.underlying39 HT.out HT0.out HT1.out HT2.out rfl (by decide) (.slice p9 k c9) k _ rfl (HO9.out.alloc _) ⟨wr.heap.size, 0, none⟩ 1 1 [.int .i64 x0, .int .i64 x1, .int .i64 x2] rfl rfl (World.news_of_block (Box.new wr _ 41)) (by simp [Value.oneCell']) (by omega) (by unfold maxLen; omega) (by omega) (by simp; omega) (wr.heap.size + 1) (by simp) ?_); intro g6 c6 w6 ho6 hg6 hl6 hs6; have HO6 := Lib.hid ho6; have HG6 := Lib.hid hg6; have HR6 := Lib.hid hl6; have HS6 := Lib.hid hs6; clear ho6 hg6 hl6 hs6))
      have hA6 : Adds w2 w6 := Below.grown (HAD.out.alloc _) HG6.out (by simp; omega) (fun j hj => by have := (own_block HO9.out hj).1; omega)
      have HA6 := Lib.hid hA6
      have HLT10 : Hid (∀ j, (Value.slice p10 k c10).ownBlock = some j → j < wr.heap.size) := Lib.hid (fun j hj => by obtain ⟨_, cur, hc⟩ := own_block HO10.out hj; exact (Array.getElem?_eq_some_iff.1 hc).1)
      have HN6 : Hid (∀ j, (Value.slice p10 k c10).ownBlock = some j → j ≠ g6) := Lib.hid (fun j hj e => by
        subst e
        rcases HR6.out with h | h
        · exact HAP.out _ h hj
        · have := HLT10.out _ hj; omega)
      have HO106 : Hid (w6.ownsRow B 42 3 (.slice p10 k c10) k ((P.take k).flatMap enc3)) := Lib.hid (own_grow (HO10.out.alloc _) HG6.out (fun j hj e => HAP.out j e hj))
      obtain ⟨f0, f1, f2⟩ := flat3_cell k _ HX.out
      have dd := (HCP.out.later (HA2.out.trans hA6)).news
      have e0 := dd _ _ f0
      have e1 := dd _ _ f1
      have e2 := dd _ _ f2
      rw [addr_add2] at e0 e1 e2
      dsimp only at e0 e1 e2
      rw [show po + (k * 3 + 1) = po + k * 3 + 1 by omega] at e1
      rw [show po + (k * 3 + 2) = po + k * 3 + 2 by omega] at e2
      have hws6 := hA6.size
      clear f0 f1 f2 dd d0 d1 d2 hA6
      go_wp2_with (at_builtin; ((refine wpList_append_lies _ rfl _ _ 34 rfl B 42 u0 (.agg #[.int .i64 0, .int .i64 0, .int .i64 0]) 3 24 Try.underlying34 HU.out HU0.out HU1.out HU2.out rfl (by decide) (.slice p10 k c10) k _ rfl (HO106.out.alloc _) ⟨w6.heap.size, 0, none⟩ 1 1 [.int .i64 x0, .int .i64 x1, .int .i64 x2] rfl rfl (World.news_of_block (Box.new w6 _ 42)) (by simp [Value.oneCell']) (by omega) (by unfold maxLen; omega) (by omega) (by simp; omega) (w6.heap.size + 1) (by simp) ?_); intro g8 c8 w8 ho8 hg8 hl8 hs8; have HO8 := Lib.hid ho8; have HG8 := Lib.hid hg8; have HR8 := Lib.hid hl8; clear ho8 hg8 hl8 hs8))
      refine ⟨⟨k + 1, by omega, by go_num, Lib.hid ?_, Lib.hid ?_, Lib.hid ?_, Lib.hid ?_⟩, by simp [intOf]; omega⟩
      · rw [HNX.out]
        exact own_grow (HO6.out.alloc _) HG8.out (fun j hj e => by simp [Value.ownBlock] at hj; exact HN6.out _ e hj.symm)
      · rw [HNX.out]
        exact HO8.out
      · intro j hj e
        simp [Value.ownBlock] at hj e
        have hs6 := HS6.out
        rcases HR8.out with h | h
        · exact HN6.out _ h (by omega)
        · omega
      · exact Below.grown (HA6.out.alloc _) HG8.out (by simp; omega) (fun j hj => by have := (own_block HO106.out hj).1; omega)
    · have hx : (decide ((k : Int) < (np : Int)) = false ∧ decide (k < np) = false) ∨ (decide ((k : Int) < (np : Int)) = true ∧ decide (k < np) = true ∧ decide ((k : Int) < 14) = false ∧ decide (k < 14) = false) := by
        by_cases h : (k : Int) < (np : Int)
        · exact Or.inr ⟨decide_eq_true h, decide_eq_true (by omega), decide_eq_false (by omega), decide_eq_false (by omega)⟩
        · exact Or.inl ⟨decide_eq_false h, decide_eq_false (by omega)⟩
      have hkm : k = mp := by omega
      subst hkm
      have eP : P.take k = P := List.take_of_length_le (by have := HMP.out; omega)
      rw [eP] at HO9 HO10
      have HW : Hid (Adds w wr) := Lib.hid (HA2.out.trans HAD.out)
      have k0 : wr.cell? ⟨cb, 0, none⟩ = some (.slice p1 nl c1) := (HC2.out.later HAD.out).cell 0
      have hmz1 : min (nl : Int) 10 = (ml : Int) := HZ1.out
      have hml0 : (0 : Int) ≤ (ml : Int) := by omega
      have hmlc : (ml : Int) ≤ (c1 : Int) := by omega
      rcases hx with ⟨hx, hx2⟩ | ⟨hx, hx2, hx3, hx4⟩
      all_goals
        go_upto_region 12 with fail
        go_cut [12] from 47 to 55 (fun s12 wc => ∃ p4 c4, s12 = .slice p4 ml c4 ∧ Hid (wc.ownsRow w.heap.size 3 1 (.slice p4 ml c4) ml (L.map (Value.int .i64))) ∧ Hid (Adds wr wc))
        case first =>
          by_cases hz : ml = 0
          · have HE : Hid (L = []) := Lib.hid (List.length_eq_zero_iff.1 (HML.out.symm.trans hz))
            have HSR : Hid (Src Try.prog j0.size 35 (.slice p1 0 c1) 0 [] wr) := Lib.hid (by
              cases p1 with
              | none => exact Src.ofNil wr Try.underlying35 c1
              | some a => exact Src.ofSlice wr Try.underlying35 a 0 c1 [] (by simp) (fun j u hj => by simp at hj) (fun u hu => by cases hu))
            clear HML
            subst hz
            go_wp2_with (at_builtin; refine wpList_append_nil (P := Try.prog) rfl _ _ 35 rfl 3 j0 Try.underlying35 HJ.out none 0 0 (Nat.le_refl _) rfl _ HSR.out rfl ?_)
            go_meet
            exact ⟨none, 0, rfl, Lib.hid (by rw [HE.out]; exact World.ownsRow_nil _ _ _ _), Lib.hid (Adds.refl _)⟩
          · obtain ⟨g, off, rfl⟩ := HCL.out.addr (by rw [List.length_map]; have := HML.out; omega)
            have hws := HW.out.size
            go_wp2_with (at_builtin; ((refine wpList_append_lies _ rfl _ _ 35 rfl w.heap.size 3 j0 (.int .i64 0) 1 8 Try.underlying35 HJ.out HJ0.out HJ1.out HJ2.out rfl (by decide) (.slice none 0 0) 0 [] rfl (World.ownsRow_nil _ _ _ _) ⟨g, off, none⟩ ml c1 (L.map (Value.int .i64)) rfl (by rw [List.length_map, HML.out, Nat.mul_one]) (HCL.out.later HW.out).news (ints_one _) (by omega) (by unfold maxLen; omega) (by omega) (by omega) wr.heap.size rfl ?_); intro g6 c6 w6 ho6 hg6 hl6 hs6; have HO6 := Lib.hid ho6; have HG6 := Lib.hid hg6; clear ho6 hg6 hl6 hs6))
            go_meet
            refine ⟨some ⟨g6, 0, none⟩, c6, by simp, Lib.hid ?_, Lib.hid ((Adds.refl wr).grown HG6.out (Nat.le_refl _) (fun j hj => by cases hj))⟩
            have := HO6.out
            rw [Nat.zero_add, List.nil_append] at this
            exact this
        case rest =>
          obtain ⟨p4, c4', rfl, HO4, HA4⟩ := hcut
          clear k0
          have k1 : wc.cell? ⟨cb, 1, none⟩ = some (.slice p2 nh c2) := (HC2.out.later (HAD.out.trans HA4.out)).cell 1
          have hmz2 : min (nh : Int) 10 = (mh : Int) := HZ2.out
          have hmh0 : (0 : Int) ≤ (mh : Int) := by omega
          have hmhc : (mh : Int) ≤ (c2 : Int) := by omega
          have HW4 : Hid (Adds w wc) := Lib.hid (HW.out.trans HA4.out)
          go_upto_region 13 with fail
          go_cut [13] from 56 to 64 (fun s13 wd => ∃ p5 c5, s13 = .slice p5 mh c5 ∧ Hid (wd.ownsRow w.heap.size 91 2 (.slice p5 mh c5) mh (H.flatMap enc2)) ∧ Hid (Adds wc wd))
          case first =>
            by_cases hz : mh = 0
            · have HE : Hid (H = []) := Lib.hid (List.length_eq_zero_iff.1 (HMH.out.symm.trans hz))
              have HSR : Hid (Src Try.prog i0.size 36 (.slice p2 0 c2) 0 [] wc) := Lib.hid (by
                cases p2 with
                | none => exact Src.ofNil wc Try.underlying36 c2
                | some a => exact Src.ofSlice wc Try.underlying36 a 0 c2 [] (by simp) (fun j u hj => by simp at hj) (fun u hu => by cases hu))
              clear HMH
              subst hz
              go_wp2_with (at_builtin; refine wpList_append_nil (P := Try.prog) rfl _ _ 36 rfl 91 i0 Try.underlying36 HI.out none 0 0 (Nat.le_refl _) rfl _ HSR.out rfl ?_)
              go_meet
              exact ⟨none, 0, rfl, Lib.hid (by rw [HE.out]; exact World.ownsRow_nil _ _ _ _), Lib.hid (Adds.refl _)⟩
            · obtain ⟨g, off, rfl⟩ := HCH.out.addr (by rw [flat2_len]; have := HMH.out; omega)
              have hws := HW4.out.size
              go_wp2_with (at_builtin; ((refine wpList_append_lies _ rfl _ _ 36 rfl w.heap.size 91 i0 (.agg #[.int .i64 0, .int .i64 0]) 2 16 Try.underlying36 HI.out HI0.out HI1.out HI2.out rfl (by decide) (.slice none 0 0) 0 [] rfl (World.ownsRow_nil _ _ _ _) ⟨g, off, none⟩ mh c2 (H.flatMap enc2) rfl (by rw [flat2_len, HMH.out]) (HCH.out.later HW4.out).news (flat2_one _) (by omega) (by unfold maxLen; omega) (by omega) (by omega) wc.heap.size rfl ?_); intro g6 c6 w6 ho6 hg6 hl6 hs6; have HO6 := Lib.hid ho6; have HG6 := Lib.hid hg6; clear ho6 hg6 hl6 hs6))
              go_meet
              refine ⟨some ⟨g6, 0, none⟩, c6, by simp, Lib.hid ?_, Lib.hid ((Adds.refl wc).grown HG6.out (Nat.le_refl _) (fun j hj => by cases hj))⟩
              have := HO6.out
              rw [Nat.zero_add, List.nil_append] at this
              exact this
          case rest =>
            obtain ⟨p5, c5, rfl, HO5, HA5⟩ := hcut
            obtain ⟨wx, hwx⟩ : ∃ V, V = wc := ⟨_, rfl⟩
            rw [← hwx] at HO5 HA5 ⊢
            clear hwx k1
            have HX : Hid (Adds w wx) := Lib.hid (HW4.out.trans HA5.out)
            have hX2 : Adds w2 wx := HAD.out.trans (HA4.out.trans HA5.out)
            have HJC := Lib.hid (fun (n : Nat) (hn : 1 ≤ n ∧ n ≤ 3) => judge_calls wx l' n m k ml mh q q4 p9 p10 p4 p5 c c4 c9 c10 c4' c5 B w.heap.size P L H HM.out HMP.out HML.out HMH.out h2 hp1 hl1 hh1 HOK.out hn (HQ4.out.later hX2) (HL2.out.later hX2) (own_later (own_later HO9.out HA4.out) HA5.out) (own_later (own_later HO10.out HA4.out) HA5.out) (own_later HO4.out HA5.out) HO5.out)
            clear hX2 HO4 HO5 HO9 HO10 HAP HA4 HA5 HW4 HQ4 HL2 HC2 HAD HW HMP HML HMH HM eP
            go_upto_region 15 with fail
            go_loopw [14] (fun v14 wr => ∃ n : Nat, 1 ≤ n ∧ n ≤ 4 ∧ v14 = .int .i64 n ∧ Hid (Adds wx wr)) (fun v14 _ => 4 - (intOf v14).toNat)
            case atStart => exact ⟨1, by omega, by omega, rfl, Lib.hid (Adds.refl _)⟩
            case round =>
              obtain ⟨n, hn1, hn4, rfl, HAR⟩ := hrel
              by_cases hn3 : n ≤ 3
              · have g1 : decide ((n : Int) ≤ 3) = true := decide_eq_true (by omega)
                have g2 : decide (n ≤ 3) = true := decide_eq_true hn3
                have hnn : 1 ≤ n ∧ n ≤ 3 := ⟨hn1, hn3⟩
                obtain ⟨bp, bv, k18, k19, k20, k21, kyes, kno⟩ := HJC.out n hnn
                have K18 := Lib.hid k18
                have K19 := Lib.hid k19
                have K20 := Lib.hid k20
                have K21 := Lib.hid k21
                have KY := Lib.hid kyes
                have KN := Lib.hid kno
                clear k18 k19 k20 k21 kyes kno
                by_cases hc : CanDry l' n
                · have KP := Lib.hid (KY.out hc).1
                  have KF := Lib.hid (KY.out hc).2
                  clear hc
                  go_upto_region 19 with (first
                    | (go_at_call 18; refine (K18.out _ HAR.out).mono ?_; rintro e w3 ⟨rfl, hb3⟩; have HA3 := Lib.hid (HAR.out.trans hb3); clear hb3)
                    | (go_at_call 19; refine (K19.out _ HA3.out).mono ?_; rintro e w4 ⟨rfl, hb4⟩; have HA4 := Lib.hid (HA3.out.trans hb4); clear hb4)
                    | (go_at_call 20; refine (K20.out _ HA4.out).mono ?_; rintro e w5 ⟨rfl, hb5⟩; have HA5 := Lib.hid (HA4.out.trans hb5); clear hb5)
                    | (go_at_call 21; refine (K21.out _ HA5.out).mono ?_; rintro e w6 ⟨rfl, hb6⟩; have HA6 := Lib.hid (HA5.out.trans hb6); clear hb6))
                  go_upto_region 20 with (go_at_call 22; refine (KP.out _ HA6.out).mono ?_; rintro e w7 ⟨v7, rfl, hb7, hk7⟩; have HA7 := Lib.hid (HA6.out.trans hb7); have HK7 := Lib.hid hk7; clear hb7 hk7)
                  go_upto_region 22 with (go_at_call 18; refine (HK7.out _ (Adds.refl _)).mono ?_; rintro e w8 ⟨rfl, hb8⟩; have HA8 := Lib.hid (HA7.out.trans hb8); clear hb8)
                  go_upto_region 23 with (go_at_call 23; refine (KF.out _ HA8.out).mono ?_; rintro e w9 ⟨rfl, hb9⟩; have HA9 := Lib.hid (HA8.out.trans hb9); clear hb9)
                  go_wp2
                  exact ⟨⟨n + 1, by omega, by omega, by go_num, Lib.hid (HA9.out.alloc _)⟩, by simp [intOf]; omega⟩
                · have KP := Lib.hid (KN.out hc).1
                  have KF := Lib.hid (KN.out hc).2
                  clear hc
                  go_upto_region 19 with (first
                    | (go_at_call 18; refine (K18.out _ HAR.out).mono ?_; rintro e w3 ⟨rfl, hb3⟩; have HA3 := Lib.hid (HAR.out.trans hb3); clear hb3)
                    | (go_at_call 19; refine (K19.out _ HA3.out).mono ?_; rintro e w4 ⟨rfl, hb4⟩; have HA4 := Lib.hid (HA3.out.trans hb4); clear hb4)
                    | (go_at_call 20; refine (K20.out _ HA4.out).mono ?_; rintro e w5 ⟨rfl, hb5⟩; have HA5 := Lib.hid (HA4.out.trans hb5); clear hb5)
                    | (go_at_call 21; refine (K21.out _ HA5.out).mono ?_; rintro e w6 ⟨rfl, hb6⟩; have HA6 := Lib.hid (HA5.out.trans hb6); clear hb6))
                  go_upto_region 22 with (go_at_call 22; refine (KP.out _ HA6.out).mono ?_; rintro e w7 ⟨rfl, hb7⟩; have HA7 := Lib.hid (HA6.out.trans hb7); clear hb7)
                  go_upto_region 23 with (go_at_call 23; refine (KF.out _ HA7.out).mono ?_; rintro e w9 ⟨pa, na, ca, pb, nb, cbb, rfl, hb9, hk9⟩; have HA9 := Lib.hid (HA7.out.trans hb9); have HK9 := Lib.hid hk9; clear hb9 hk9)
                  obtain ⟨xb, hxb⟩ : ∃ b, b = w9.heap.size := ⟨_, rfl⟩
                  obtain ⟨W2, hW2⟩ : ∃ V, V = w9.alloc (.cells #[.slice pa na ca, .slice pb nb cbb] 46) := ⟨_, rfl⟩
                  rw [← hW2, ← hxb]
                  have HX2 : Hid (Box W2 xb #[.slice pa na ca, .slice pb nb cbb] 46) := Lib.hid (by rw [hW2, hxb]; exact Box.new _ _ _)
                  have hA : Adds w9 W2 := by rw [hW2]; exact (Adds.refl _).alloc _
                  have HAW := Lib.hid (HA9.out.trans hA)
                  have KK := Lib.hid (HK9.out _ hA)
                  have e0 : W2.cell? ⟨xb, 0, none⟩ = some (.slice pa na ca) := HX2.out.cell 0
                  have e1 : W2.cell? ⟨xb, 1, none⟩ = some (.slice pb nb cbb) := HX2.out.cell 1
                  clear hW2 hxb hA
                  go_wp2_with (go_at_call 20; refine KK.out.mono ?_; rintro e w10 ⟨rfl, hb10⟩; have HB10 := Lib.hid hb10; clear hb10)
                  exact ⟨⟨n + 1, by omega, by omega, by go_num, Lib.hid (HAW.out.trans HB10.out)⟩, by simp [intOf]; omega⟩
              · have g1 : decide ((n : Int) ≤ 3) = false := decide_eq_false (by omega)
                have g2 : decide (n ≤ 3) = false := decide_eq_false hn3
                have HE := Lib.hid (HX.out.trans HAR.out)
                go_wp2_with (go_at_call 17; refine (awake_any _).mono ?_; rintro e w7 ⟨rfl, hb7⟩)
                go_ret
                exact ⟨rfl, HE.out.trans hb7⟩

end Go.Proofs.Ytkofnhimgegcnaa
