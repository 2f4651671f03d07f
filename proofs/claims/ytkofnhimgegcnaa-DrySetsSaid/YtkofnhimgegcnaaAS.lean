/- planned: whether there is a plan. -/
import Derived.Test.YtkofnhimgegcnaaAP
import Derived.Test.YtkofnhimgegcnaaAR
namespace Go.Proofs.Ytkofnhimgegcnaa
open Go Go.RowKit Go.Sort

theorem checkK_ok {l : List Ld} {K : Int} (hn : l.length ≤ 256) (hok : ∀ x ∈ l, okB x = true) (hK : 1 ≤ K ∧ K ≤ 64) : checkK l K = 0 := by
  unfold checkK
  rw [if_pos (checkL_zero.2 ⟨hn, hok⟩), if_pos hK]

theorem give_at (p : Option Addr) (cl : Nat) (l : List Ld) (w : World) (hL : LoadsAt w p l) (hl : l.length ≤ 1000) :
    Calls Try.prog 16 #[.slice p l.length cl] w fun e w' => ∃ c q, e = .returned (.slice q l.length c) ∧ LoadsAt w' q l ∧ Adds w w' :=
  (give_any p cl l w hL hl).mono (by
    rintro e w' ⟨c, q, rfl, h1, h2⟩
    exact ⟨c, q, rfl, h1.at, h2⟩)

section
variable {q : Option Addr} {c : Nat} {l : List Ld} {K : Int} {W : World}

theorem plan_yes (hL : LoadsAt W q l) (hn : l.length ≤ 256) (hok : ∀ x ∈ l, okB x = true) (hK : 1 ≤ K ∧ K ≤ 64) (hc : CanDry l K) :
    Calls Try.prog 22 #[.slice q l.length c, .int .i64 K] W fun e w' => ∃ pu cu P, e = .returned (.tuple #[.slice pu P.length cu, .int .i64 0]) ∧ Turns w' W.heap.size (.slice pu P.length cu) P ∧ PlanOK l K P ∧ P.length ≤ 1000000 ∧ P.Pairwise (fun x y => ltOf cfF y x = false) ∧ Adds W w' :=
  (Plan_any q c l K W (by unfold maxLen; omega) hL).mono (by
    rintro e w' ⟨u, P, cc, rfl, h1, h2, _, h3⟩
    obtain ⟨h4, _⟩ := h3 (checkK_ok hn hok hK)
    obtain ⟨rfl, h5⟩ := h4 hc
    obtain ⟨pu, cu, rfl⟩ := own_slice h1
    exact ⟨pu, cu, P, rfl, h1, h5.ok (fun x hx => okB_okN (hok x hx)) (by omega), h5.len hn, h5.sorted, h2⟩)

theorem plan_no (hL : LoadsAt W q l) (hn : l.length ≤ 256) (hok : ∀ x ∈ l, okB x = true) (hK : 1 ≤ K ∧ K ≤ 64) (hc : ¬ CanDry l K) :
    Calls Try.prog 22 #[.slice q l.length c, .int .i64 K] W fun e w' => e = .returned (.tuple #[nilV, .int .i64 70]) ∧ Adds W w' :=
  (Plan_any q c l K W (by unfold maxLen; omega) hL).mono (by
    rintro e w' ⟨u, P, cc, rfl, h1, h2, _, h3⟩
    obtain ⟨_, h4⟩ := h3 (checkK_ok hn hok hK)
    obtain ⟨rfl, rfl⟩ := h4 hc
    exact ⟨rfl, h2⟩)

theorem proof_yes (hL : LoadsAt W q l) (hn : l.length ≤ 256) (hok : ∀ x ∈ l, okB x = true) (hK : 1 ≤ K ∧ K ≤ 64) (hc : CanDry l K) :
    Calls Try.prog 23 #[.slice q l.length c, .int .i64 K] W fun e w' => e = .returned (.tuple #[.agg #[nilV, nilV], .bool false]) ∧ Adds W w' :=
  (Proof_any q c l K W (by unfold maxLen; omega) hL).mono (by
    rintro e w' ⟨v1, v2, ok, rfl, h1, _, h3⟩
    obtain ⟨val, f, lev, h4, h5, h6, h7, _⟩ := h3 (checkK_ok hn hok hK)
    have hm := (max_iff (laid_sane (fun x hx => okB_okN (hok x hx)) hn (by omega) (by omega)) ⟨f, lev, h4, h5, h6⟩).2.2 hc
    obtain ⟨rfl, rfl, rfl⟩ := h7 hm
    exact ⟨rfl, h1⟩)

theorem proof_no (hL : LoadsAt W q l) (hn : l.length ≤ 256) (hok : ∀ x ∈ l, okB x = true) (hK : 1 ≤ K ∧ K ≤ 64) (hc : ¬ CanDry l K) :
    Calls Try.prog 23 #[.slice q l.length c, .int .i64 K] W fun e w' => ∃ p1 c1 L p2 c2 H, e = .returned (.tuple #[.agg #[.slice p1 (List.length L) c1, .slice p2 (List.length H) c2], .bool true]) ∧ w'.ownsRow W.heap.size 3 1 (.slice p1 L.length c1) L.length ((numsI L).map (Value.int .i64)) ∧ w'.ownsRow W.heap.size 91 2 (.slice p2 H.length c2) H.length (H.flatMap enc2) ∧ Crush l K H L ∧ H.length ≤ 1000 ∧ (∀ h ∈ H, h.2 ≤ 1000000) ∧ L.length ≤ 256 ∧ Adds W w' :=
  (Proof_any q c l K W (by unfold maxLen; omega) hL).mono (by
    rintro e w' ⟨v1, v2, ok, rfl, h1, _, h3⟩
    obtain ⟨val, f, lev, h4, h5, h6, _, h8⟩ := h3 (checkK_ok hn hok hK)
    have hokN : ∀ x ∈ l, okN x := fun x hx => okB_okN (hok x hx)
    have hne : val ≠ totalL l := fun e => hc ⟨f, by rw [← e]; exact h4⟩
    obtain ⟨rfl, h9, h10⟩ := h8 hne
    have hcr := crush_of h4 h5 h6 hokN hn (by omega) (by omega) hne
    obtain ⟨p1, c1, rfl⟩ := own_slice h9
    obtain ⟨p2, c2, rfl⟩ := own_slice h10
    have hlen := metH_len lev l.length (timesOf l) ((timesOf l).length - 1)
    have hTl := timesOf_len l
    exact ⟨p1, c1, _, p2, c2, _, rfl, h9, h10, hcr, by omega, hcr.top 1000000 (fun x hx => by have := okB_iff.1 (hok x hx); omega), by have := hcr.short; omega, h1⟩)
end

set_option maxRecDepth 100000 in
set_option maxHeartbeats 4000000 in
theorem planned_yes (p : Option Addr) (cl : Nat) (l : List Ld) (K : Int) (w : World) (hL : LoadsAt w p l) (hn : l.length ≤ 256) (hok : ∀ x ∈ l, okB x = true) (hK : 1 ≤ K ∧ K ≤ 64) (hc : CanDry l K) :
    Calls Try.prog 14 #[.slice p l.length cl, .int .i64 K] w fun e w' => e = .returned (.tuple #[.bool true, .bool true]) ∧ Adds w w' := by
  have hg := give_at p cl l w hL (by omega)
  have hp := fun (q : Option Addr) (c : Nat) (W : World) (hq : LoadsAt W q l) => plan_yes (c := c) hq hn hok hK hc
  have hf := fun (q : Option Addr) (c : Nat) (W : World) (hq : LoadsAt W q l) => proof_yes (c := c) hq hn hok hK hc
  have hokN : ∀ x ∈ l, okN x := fun x hx => okB_okN (hok x hx)
  have hrp := fun (q : Option Addr) (c base : Nat) (P : List Tn) (W : World) (hW : Adds w W) (hq : TurnsR W base (.slice q P.length c) P) (hm : P.length ≤ 1000000) (hpl : PlanOK l K P) =>
    RPlan_any p cl l K q c base P W (hL.later hW) (by omega) hokN hq hm hpl
  generalize l.length = n at *
  have HG := Lib.hid hg
  have HP := Lib.hid hp
  have HF := Lib.hid hf
  have HRP := Lib.hid hrp
  obtain ⟨hK0, hK1⟩ := hK
  clear hg hp hf hrp hokN hok hc hL
  go_enter Try.func14, Try.ntmps14
  go_upto_region 4 with (first
    | (go_at_call 16; refine HG.out.mono ?_; rintro e w1 ⟨c, q, rfl, hr, hb1⟩; have HR := Lib.hid hr; have HB1 := Lib.hid hb1; clear hr hb1)
    | (go_at_call 22; refine (HP.out _ _ _ HR.out).mono ?_; rintro e w2 ⟨pu, cu, P, rfl, h1, h2, h3, h4, hb2⟩; have HT := Lib.hid h1; have HPL := Lib.hid h2; have HSO := Lib.hid h4; have HB2 := Lib.hid hb2; clear h1 h2 h4 hb2)
    | (go_at_call 23; refine (HF.out _ _ _ (HR.out.later HB2.out)).mono ?_; rintro e w3 ⟨rfl, hb3⟩; have HB3 := Lib.hid hb3; clear hb3))
  obtain ⟨xb, hxb⟩ : ∃ b, b = w3.heap.size := ⟨_, rfl⟩
  obtain ⟨W4, hW4⟩ : ∃ V, V = w3.alloc (.cells #[nilV, nilV] 46) := ⟨_, rfl⟩
  rw [← hW4, ← hxb]
  have HX4 : Hid (Box W4 xb #[nilV, nilV] 46) := Lib.hid (by rw [hW4, hxb]; exact Box.new _ _ _)
  have HA4 : Hid (Adds w2 W4) := Lib.hid (by rw [hW4]; exact HB3.out.alloc _)
  have k0 : W4.cell? ⟨xb, 0, none⟩ = some nilV := HX4.out.cell 0
  have k1 : W4.cell? ⟨xb, 1, none⟩ = some nilV := HX4.out.cell 1
  clear hW4 hxb
  go_upto_region 5 with fail
  obtain ⟨W5, hW5⟩ : ∃ V, V = W4.alloc (.cells #[nilV, nilV] 38) := ⟨_, rfl⟩
  rw [← hW5]
  have hA5 : Adds W4 W5 := by rw [hW5]; exact (Adds.refl _).alloc _
  have HX5 := Lib.hid (HX4.out.later hA5)
  have HA5 := Lib.hid (HA4.out.trans hA5)
  obtain ⟨ob, hob⟩ : ∃ b, b = W4.heap.size := ⟨_, rfl⟩
  rw [← hob]
  clear hW5 hA5 k0 k1 hob
  have HTU := Lib.hid (turns_any pu cu w1.heap.size P W5 (own_later HT.out HA5.out) h3)
  go_upto_region 7 with (go_at_call 39; refine HTU.out.mono ?_; rintro e w6 ⟨tc, tq, rfl, ht, hb6⟩; have HTR := Lib.hid ht; have HB6 := Lib.hid hb6; clear ht hb6)
  have HA6 := Lib.hid (((HB1.out.trans HB2.out).trans HA5.out).trans HB6.out)
  have k0 : w6.cell? ⟨xb, 0, none⟩ = some nilV := (HX5.out.later HB6.out).cell 0
  have k1 : w6.cell? ⟨xb, 1, none⟩ = some nilV := (HX5.out.later HB6.out).cell 1
  have HR19 := Lib.hid (fun (W : World) (hW : Adds w6 W) => HRP.out tq tc W5.heap.size P W (HA6.out.trans hW) (own_later HTR.out hW) h3 HPL.out)
  have HR40 := Lib.hid (fun (W : World) (hW : Adds w6 W) => ordered_any tq tc W5.heap.size P W (own_later HTR.out hW) h3 HSO.out)
  clear HRP HTU HT HX5 HX4 HR HG HP HF
  go_region_held3 (fun w' => w'.cell? ⟨xb, 0, none⟩ = some nilV ∧ w'.cell? ⟨xb, 1, none⟩ = some nilV ∧ Hid (Adds w6 w'))
    (first | (refine ⟨?_, ?_, Lib.hid (Adds.refl _).drew⟩ <;> go_keep; done) | (have hqq := Lib.hid (Adds.trans hh.2.2.out hb7); exact ⟨keep_cell hqq.out k0, keep_cell hqq.out k1, hqq⟩) | (have hqq := Lib.hid (Adds.trans hh.2.2.out hb8); exact ⟨keep_cell hqq.out k0, keep_cell hqq.out k1, hqq⟩))
    ((first
      | (go_simp; go_at_call 19; rename_i hh _ _; refine (HR19.out _ hh.2.2.out).mono ?_; rintro e w7 ⟨rfl, hb7⟩)
      | (go_simp; go_at_call 40; rename_i hh _ _; refine (HR40.out _ hh.2.2.out).mono ?_; rintro e w8 ⟨rfl, hb8⟩)))
  go_wp2
  go_ret2
  exact ⟨rfl, HA6.out.trans (hh.2.2.out.trans hb8)⟩

end Go.Proofs.Ytkofnhimgegcnaa
