/- fill: as much as can flow. -/
import Derived.Test.YtkofnhimgegcnaaE
namespace Go.Proofs.Ytkofnhimgegcnaa
open Go.RowKit

theorem capE_le {E : List Edge} {N : Nat} (h : Sane E N) : capE E ≤ 1000000000000 * E.length := by
  have h1 : ∀ n : Nat, n ≤ E.length → sumN n (fun k => if (eAt E k).1 = 0 then (eAt E k).2.2 else 0) ≤ 1000000000000 * (n : Int) := by
    intro n
    induction n with
    | zero => intro _; simp [sumN]
    | succ n ih =>
      intro hn
      have := ih (by omega)
      have := h.cap n (by omega)
      rw [sumN]
      split <;> omega
  exact h1 _ (Nat.le_refl _)

set_option maxRecDepth 100000 in
set_option maxHeartbeats 4000000 in
theorem fill_any (K : Plot) (E : List Edge) (N : Nat) (vs : Value) (w : World) (hS : Sane E N) (hK : NetAt K E N w (fun _ => 0) vs) :
    Calls Try.prog 51 #[.pointer (some ⟨K.b, 0, none⟩)] w fun e w' => ∃ val f lev gs, e = .returned (.int .i64 val) ∧ Flow E f val ∧ 0 ≤ val ∧ Lev E N f lev ∧ lev 1 < 0 ∧ IntsAt w' gs N lev ∧ w.heap.size ≤ gs ∧ NetAt K E N w' f (.slice (some ⟨gs, 0, none⟩) N N) ∧ Touch (fun k => k = K.b ∨ k = K.gw) w w' := by
  have HS := Lib.hid hS
  have hN := hS.n
  have hN2 := hS.two
  have hcap := capE_le hS
  have hm := hS.m
  have HF := Lib.hid (Flow.none (E := E) (fun k hk => (hS.cap k hk).1))
  have HK := Lib.hid hK
  clear hK hS
  go_enter Try.func51, Try.ntmps51
  go_wp2
  go_loopw [3] (fun v3 wr => ∃ (sum : Int) (f : Nat → Int) (vs : Value), v3 = .int .i64 sum ∧ 0 ≤ sum ∧ Hid (Flow E f sum) ∧ Hid (NetAt K E N wr f vs) ∧ Hid (Touch (fun k => k = K.b ∨ k = K.gw) w wr)) (fun v3 _ => (capE E - intOf v3).toNat)
  case atStart => exact ⟨0, _, vs, rfl, by omega, HF, HK, Lib.hid (Touch.refl _ _)⟩
  case round =>
    clear HK HF vs
    obtain ⟨sum, f, vs, rfl, h0, HF, HK, HTO⟩ := hrel
    have hsum := HF.out.bound
    go_upto_region 3 with (go_at_call 78; refine (look_any K E N f vs _ HS.out HF.out.ok HK.out).mono ?_; rintro e w1 ⟨rfl, lev, gs, hl, hi, hg, hk, ht⟩; have HL := Lib.hid hl; have HI := Lib.hid hi; have HG := Lib.hid hg; have HK1 := Lib.hid hk; have HT1 := Lib.hid ht; clear hl hi hg hk ht)
    have kb : w1.cell? ⟨K.b, 4, none⟩ = some (.slice (some ⟨gs, 0, none⟩) N N) := HK1.out.net.cell 4
    have ks : w1.cell? ⟨gs, 1, none⟩ = some (.int .i64 (lev 1)) := HI.out.cell hN2
    by_cases hl : lev 1 < 0
    · have hd : decide (lev 1 < 0) = true := decide_eq_true hl
      have HLL := Lib.hid hl
      clear hl
      go_wp2
      go_ret
      exact ⟨sum, f, lev, gs, rfl, HF.out, h0, HL.out, HLL.out, HI.out, Nat.le_trans HTO.out.size HG.out, HK1.out, HTO.out.trans ⟨HT1.out.os, HT1.out.tape, HT1.out.output, HT1.out.size, fun k hk hn => HT1.out.same k hk (fun e => hn (Or.inl e))⟩⟩
    · have hd : decide (lev 1 < 0) = false := decide_eq_false hl
      have HLL : Hid (0 ≤ lev 1) := Lib.hid (by omega)
      clear hl
      have hsend := send_any K E N lev f sum gs N w1 HS.out HL.out HF.out HI.out ⟨fun hE => by have := HK.out.ways.lt hE; have := HG.out; omega, by have := HK.out.net.lt; have := HG.out; omega⟩ HK1.out
      have HSD := Lib.hid hsend
      clear hsend
      go_wp2_with (go_at_call 79; refine HSD.out.mono ?_; rintro e w2 ⟨f2, s2, rfl, hs0, hs1, hf2, hk2, ht2⟩; have HS1 := Lib.hid hs1; have HB2 := Lib.hid hf2.bound; have HF2 := Lib.hid hf2; have HK2 := Lib.hid hk2; have HT2 := Lib.hid ht2; have hb2 := HB2.out; clear hs1 hf2 hk2 ht2)
      have hs3 := HS1.out HLL.out
      refine ⟨⟨sum + s2, f2, _, rfl, by omega, HF2, HK2, Lib.hid ?_⟩, by simp [intOf]; omega⟩
      have t1 : Touch (fun k => k = K.b ∨ k = K.gw) wr w1 := ⟨HT1.out.os, HT1.out.tape, HT1.out.output, HT1.out.size, fun k hk hn => HT1.out.same k hk (fun e => hn (Or.inl e))⟩
      have t2 : Touch (fun k => k = K.b ∨ k = K.gw) w1 w2 := ⟨HT2.out.os, HT2.out.tape, HT2.out.output, HT2.out.size, fun k hk hn => HT2.out.same k hk (fun e => hn (Or.inr e))⟩
      exact (HTO.out.trans t1).trans t2

end Go.Proofs.Ytkofnhimgegcnaa
