/- planned: where there is no plan. -/
import Derived.Test.YtkofnhimgegcnaaAS
namespace Go.Proofs.Ytkofnhimgegcnaa
open Go Go.RowKit Go.Sort

set_option maxRecDepth 100000 in
set_option maxHeartbeats 4000000 in
theorem planned_no (p : Option Addr) (cl : Nat) (l : List Ld) (K : Int) (w : World) (hL : LoadsAt w p l) (hn : l.length ≤ 256) (hok : ∀ x ∈ l, okB x = true) (hK : 1 ≤ K ∧ K ≤ 64) (hc : ¬ CanDry l K) :
    Calls Try.prog 14 #[.slice p l.length cl, .int .i64 K] w fun e w' => e = .returned (.tuple #[.bool false, .bool true]) ∧ Adds w w' := by
  have hg := give_at p cl l w hL (by omega)
  have hp := fun (q : Option Addr) (c : Nat) (W : World) (hq : LoadsAt W q l) => plan_no (c := c) hq hn hok hK hc
  have hf := fun (q : Option Addr) (c : Nat) (W : World) (hq : LoadsAt W q l) => proof_no (c := c) hq hn hok hK hc
  have hokN : ∀ x ∈ l, okN x := fun x hx => okB_okN (hok x hx)
  have hrp := fun (p1 p2 : Option Addr) (c1 c2 base : Nat) (L : List Nat) (H : List (Int × Int)) (W : World) (hW : Adds w W) (h1) (h2) (h3) (h4) (h5) =>
    RProves_any p cl l K p1 p2 c1 c2 base L H W (hL.later hW) hn hokN hK h1 h2 h3 h4 h5
  generalize l.length = n at *
  have HG := Lib.hid hg
  have HP := Lib.hid hp
  have HF := Lib.hid hf
  have HRP := Lib.hid hrp
  obtain ⟨hK0, hK1⟩ := hK
  clear hg hp hf hrp hokN hok hc hL
  go_enter Try.func14, Try.ntmps14
  go_upto_region 4 with (first
    | (go_at_call 16; refine HG.out.mono ?_; rintro e w1 ⟨c, q, rfl, hr, hb1⟩; have HR := Lib.hid hr; have HB1 := Lib.hid hb1; clear hr hb1)
    | (go_at_call 22; refine (HP.out _ _ _ HR.out).mono ?_; rintro e w2 ⟨rfl, hb2⟩; have HB2 := Lib.hid hb2; clear hb2)
    | (go_at_call 23; refine (HF.out _ _ _ (HR.out.later HB2.out)).mono ?_; rintro e w3 ⟨p1, c1, L, p2, c2, H, rfl, h1, h2, h3, h4, h5, h6, hb3⟩; have H1 := Lib.hid h1; have H2 := Lib.hid h2; have H3 := Lib.hid h3; have H5 := Lib.hid h5; have HB3 := Lib.hid hb3; clear h1 h2 h3 h5 hb3))
  have HR21 := Lib.hid (fun (W : World) (hW : Adds w3 W) => HRP.out p1 p2 c1 c2 w2.heap.size L H W (((HB1.out.trans HB2.out).trans HB3.out).trans hW) (own_later H1.out hW) (own_later H2.out hW) h4 H5.out H3.out)
  obtain ⟨ml, hml⟩ : ∃ m, m = L.length := ⟨_, rfl⟩
  obtain ⟨mh, hmh⟩ : ∃ m, m = H.length := ⟨_, rfl⟩
  rw [← hml] at H1 HR21 ⊢
  rw [← hmh] at h4 H2 HR21 ⊢
  have HML := Lib.hid hml
  have HMH := Lib.hid hmh
  have hlm : ml ≤ 256 := by omega
  clear hml hmh HRP HG HP HF HR
  obtain ⟨xb, hxb⟩ : ∃ b, b = w3.heap.size := ⟨_, rfl⟩
  obtain ⟨W4, hW4⟩ : ∃ V, V = w3.alloc (.cells #[.slice p1 ml c1, .slice p2 mh c2] 46) := ⟨_, rfl⟩
  rw [← hW4, ← hxb]
  have HX4 : Hid (Box W4 xb #[.slice p1 ml c1, .slice p2 mh c2] 46) := Lib.hid (by rw [hW4, hxb]; exact Box.new _ _ _)
  have HA4 : Hid (Adds w3 W4) := Lib.hid (by rw [hW4]; exact (Adds.refl _).alloc _)
  have k0 : W4.cell? ⟨xb, 0, none⟩ = some (.slice p1 ml c1) := HX4.out.cell 0
  have k1 : W4.cell? ⟨xb, 1, none⟩ = some (.slice p2 mh c2) := HX4.out.cell 1
  clear hW4 hxb
  go_upto_region 5 with fail
  obtain ⟨ob, hob⟩ : ∃ b, b = W4.heap.size := ⟨_, rfl⟩
  obtain ⟨W5, hW5⟩ : ∃ V, V = W4.alloc (.cells #[.slice p1 ml c1, .slice p2 mh c2] 38) := ⟨_, rfl⟩
  rw [← hW5, ← hob]
  have hA5 : Adds W4 W5 := by rw [hW5]; exact (Adds.refl _).alloc _
  have HX5 := Lib.hid (HX4.out.later hA5)
  have HO5 : Hid (Box W5 ob #[.slice p1 ml c1, .slice p2 mh c2] 38) := Lib.hid (by rw [hW5, hob]; exact Box.new _ _ _)
  have HA5 := Lib.hid (HA4.out.trans hA5)
  clear hW5 hA5 k0 k1 hob HX4
  go_upto_region 9 with fail
  go_loopw [13] (fun v13 wr => ∃ z : Nat, (z = 0 ∨ z < ml) ∧ v13 = .int .i64 ((z : Int) + 1) ∧ Hid (Adds W5 wr)) (fun v13 _ => ml + 1 - (intOf v13).toNat)
  case atStart => exact ⟨0, Or.inl rfl, rfl, Lib.hid (Adds.refl _)⟩
  case round =>
    obtain ⟨z, hz, rfl, HAD⟩ := hrel
    have k0 : wr.cell? ⟨xb, 0, none⟩ = some (.slice p1 ml c1) := (HX5.out.later HAD.out).cell 0
    by_cases hlt : z + 1 < ml
    · have hlt2 : (z : Int) + 1 < (ml : Int) := by omega
      have hlt3 : (z : Int) < (ml : Int) := by omega
      have hz0 : (0 : Int) ≤ (z : Int) + 1 := by omega
      have hzz : (0 : Int) ≤ (z : Int) := by omega
      obtain ⟨a, ha⟩ : ∃ i, L[z]? = some i := ⟨_, List.getElem?_eq_getElem (by have := HML.out; omega)⟩
      obtain ⟨b, hb⟩ : ∃ i, L[z + 1]? = some i := ⟨_, List.getElem?_eq_getElem (by have := HML.out; omega)⟩
      have hab : a < b := by
        obtain ⟨h1, e1⟩ := List.getElem?_eq_some_iff.1 ha
        obtain ⟨h2, e2⟩ := List.getElem?_eq_some_iff.1 hb
        have := List.pairwise_iff_getElem.1 H3.out.up z (z + 1) h1 h2 (by omega)
        omega
      obtain ⟨g1, c', e, _⟩ := own_some H1.out (by omega)
      injection e with e1 e2 e3
      subst e1
      clear e2 e3
      have hA := HA5.out.trans HAD.out
      have d0 := keep_cell hA (own_cell (j := z) (u := .int .i64 (a : Int)) H1.out (by rw [List.getElem?_map, numsI_get ha]; rfl)).1
      have d1 := keep_cell hA (own_cell (j := z + 1) (u := .int .i64 (b : Int)) H1.out (by rw [List.getElem?_map, numsI_get hb]; rfl)).1
      obtain ⟨x, hx⟩ : ∃ x, x = (a : Int) := ⟨_, rfl⟩
      obtain ⟨y, hy⟩ : ∃ x, x = (b : Int) := ⟨_, rfl⟩
      rw [← hx] at d0
      rw [← hy] at d1
      have g2 : decide (y ≤ x) = false := decide_eq_false (by omega)
      have hw1 : IntKind.i64.wrap ((z : Int) + 1 - 1) = (z : Int) := by rw [IntKind.wrap_i64]; omega
      clear ha hb hab hx hy hA
      go_upto_region 11 with fail
      go_quiet (fail)
      go_wp2
      exact ⟨⟨z + 1, by omega, by go_num, Lib.hid (HAD.out.drewN _)⟩, by simp [intOf]; omega⟩
    · have hdq : decide ((z : Int) + 1 < (ml : Int)) = false := decide_eq_false (by omega)
      have HR21' := Lib.hid (HR21.out wr (HA5.out.trans HAD.out))
      have o0 : wr.cell? ⟨ob, 0, none⟩ = some (.slice p1 ml c1) := (HO5.out.later HAD.out).cell 0
      have o1 : wr.cell? ⟨ob, 1, none⟩ = some (.slice p2 mh c2) := (HO5.out.later HAD.out).cell 1
      have HA6 := Lib.hid ((((HB1.out.trans HB2.out).trans HB3.out).trans HA5.out).trans HAD.out)
      clear HR21
      go_wp2_with (go_at_call 21; refine HR21'.out.mono ?_; rintro e w7 ⟨rfl, hb7⟩)
      go_ret2
      exact ⟨rfl, HA6.out.trans hb7⟩

end Go.Proofs.Ytkofnhimgegcnaa
