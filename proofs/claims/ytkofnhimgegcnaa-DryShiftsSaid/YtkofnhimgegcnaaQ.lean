/- least, Kilns. -/
import Derived.Test.YtkofnhimgegcnaaP
namespace Go.Proofs.Ytkofnhimgegcnaa
open Go Go.RowKit

/-- What a bisection leaves. -/
def LeastGot (P : Int → Prop) (lo hi r : Int) : Prop := lo ≤ r ∧ r ≤ hi ∧ (r = lo ∨ ¬ P (r - 1)) ∧ (r = hi ∨ P r)

set_option maxHeartbeats 1000000 in
theorem least_any (g : Nat) (lb : Array Value) (P : Int → Prop) (lo hi : Int) (w : World) (h0 : 0 ≤ lo) (h1 : lo ≤ hi) (h2 : hi ≤ 1000000000000) (he : ∀ (args : Array Value) (w : World), (callFunc g args).run Try.prog w = .ok (.enter g args) w)
    (hf : ∀ k, lo ≤ k → k < hi → ∀ W, Adds w W → Calls Try.prog g (#[.int .i64 k] ++ lb) W fun e w' => ∃ v, e = .returned (.bool v) ∧ (v = true ↔ P k) ∧ Adds W w') :
    Calls Try.prog 61 #[.int .i64 lo, .int .i64 hi, .func (.func g) #[] lb] w fun e w' => ∃ r, e = .returned (.int .i64 r) ∧ LeastGot P lo hi r ∧ Adds w w' := by
  have HF := Lib.hid hf
  clear hf
  go_enter Try.func61, Try.ntmps61
  go_wp2
  go_loopw [0, 1] (fun v0 v1 wr => ∃ a b : Int, v0 = .int .i64 a ∧ v1 = .int .i64 b ∧ lo ≤ a ∧ a ≤ b ∧ b ≤ hi ∧ Hid (a = lo ∨ ¬ P (a - 1)) ∧ Hid (b = hi ∨ P b) ∧ Hid (Adds w wr)) (fun v0 v1 _ => (intOf v1 - intOf v0).toNat)
  case atStart => exact ⟨lo, hi, rfl, rfl, Int.le_refl _, h1, Int.le_refl _, Lib.hid (Or.inl rfl), Lib.hid (Or.inl rfl), Lib.hid (Adds.refl _)⟩
  case round =>
    obtain ⟨a, b, rfl, rfl, ha, hab, hb, HA, HB, HW⟩ := hrel
    by_cases hlt : a < b
    · go_upto_region 3 with fail
      obtain ⟨m, hm⟩ : ∃ m, m = a + (b - a) / 2 := ⟨_, rfl⟩
      have hm1 : a ≤ m ∧ m < b := by omega
      obtain ⟨hm1, hm2⟩ := hm1
      simp only [← hm]
      clear hm
      have hcall := HF.out m (by omega) (by omega) wr HW.out
      have HC := Lib.hid hcall
      clear hcall
      go_wp2_with (go_at_fn g; refine HC.out.mono ?_; rintro e w1 ⟨v, rfl, hv, hb1⟩; have HV := Lib.hid hv; have HB1 := Lib.hid hb1; clear hv hb1; cases v)
      all_goals first
        | exact ⟨⟨a, m, rfl, rfl, ha, by omega, by omega, HA, Lib.hid (Or.inr (by simpa using HV.out)), Lib.hid (HW.out.trans HB1.out)⟩, by simp [intOf]; omega⟩
        | exact ⟨⟨m + 1, b, rfl, rfl, by omega, by omega, hb, Lib.hid (Or.inr (by rw [show m + 1 - 1 = m by omega]; have hv := HV.out; simpa using hv)), HB, Lib.hid (HW.out.trans HB1.out)⟩, by simp [intOf]; omega⟩
    · have hba : b = a := by omega
      subst hba
      go_wp2
      go_ret
      exact ⟨b, rfl, ⟨by omega, by omega, HA.out, HB.out⟩, HW.out⟩

set_option maxHeartbeats 1000000 in
theorem KilnsF_any (bx : Nat) (p : Option Addr) (cl : Nat) (l : List Ld) (k : Int) (w : World) (hc : w.cell? ⟨bx, 0, none⟩ = some (.slice p l.length cl)) (hL : LoadsAt w p l) (hok : ∀ x ∈ l, okN x) (hn : l.length ≤ 256) (hK0 : 0 ≤ k) (hK1 : k ≤ 256) :
    Calls Try.prog 62 (#[.int .i64 k] ++ #[.pointer (some ⟨bx, 0, none⟩)]) w fun e w' => ∃ v, e = .returned (.bool v) ∧ (v = true ↔ CanDry l k) ∧ Adds w w' := by
  have hf := fits_any p cl l k w hL hok hn hK0 hK1
  generalize l.length = n at hf hc
  clear hL hok
  go_enter Try.func62, Try.ntmps62
  go_wp2_with (go_at_call 42; refine hf.mono ?_; rintro e w1 ⟨v, rfl, hv, hb⟩; have HV := Lib.hid hv; have HB := Lib.hid hb; clear hv hb)
  go_ret
  exact ⟨v, rfl, HV.out, HB.out⟩

set_option maxHeartbeats 1000000 in
theorem Kilns_any (p : Option Addr) (cl : Nat) (l : List Ld) (w : World) (hN : l.length ≤ maxLen) (hL : LoadsAt w p l) :
    Calls Try.prog 24 #[.slice p l.length cl] w fun e w' => ∃ r, e = .returned (.tuple #[.int .i64 r, .int .i64 (checkL l)]) ∧ (checkL l ≠ 0 → r = 0) ∧ (checkL l = 0 → LeastGot (CanDry l) 0 l.length r) ∧ Adds w w' := by
  have hc := fun W (hW : Adds w W) => Check_any p cl l W hN (hL.later hW)
  have h62 : ∀ (args : Array Value) (w : World), (callFunc 62 args).run Try.prog w = .ok (.enter 62 args) w := fun args w => enters_of Try.func62 (by kernel_rfl) rfl args w
  by_cases h0 : checkL l = 0
  · obtain ⟨o1, o2⟩ := checkL_zero.1 h0
    have hok : ∀ x ∈ l, okN x := fun x hx => okB_okN (o2 x hx)
    have hls : ∀ (W : World) (bx : Nat), Adds w W → W.cell? ⟨bx, 0, none⟩ = some (.slice p l.length cl) → Calls Try.prog 61 #[.int .i64 0, .int .i64 (l.length : Int), .func (.func 62) #[] #[.pointer (some ⟨bx, 0, none⟩)]] W fun e w' => ∃ r, e = .returned (.int .i64 r) ∧ LeastGot (CanDry l) 0 l.length r ∧ Adds W w' := fun W bx hW hcl =>
      least_any 62 #[.pointer (some ⟨bx, 0, none⟩)] (CanDry l) 0 l.length W (by omega) (by omega) (by omega) h62 (fun k hk0 hk1 W2 hW2 => KilnsF_any bx p cl l k W2 (keep_cell hW2 hcl) ((hL.later hW).later hW2) hok o1 hk0 (by omega))
    rw [h0] at hc ⊢
    have HC := Lib.hid hc
    have HLS := Lib.hid hls
    generalize l.length = n at *
    clear hc hls hL o2 hok h62
    go_enter Try.func24, Try.ntmps24
    have hA1 : Adds w (w.alloc (.cells #[.slice p n cl] 30)) := (Adds.refl w).alloc _
    have hX1 : Box (w.alloc (.cells #[.slice p n cl] 30)) w.heap.size #[.slice p n cl] 30 := Box.new _ _ _
    go_wp2_with (first
      | (go_at_call 60; refine (HC.out _ hA1).mono ?_; rintro e w1 ⟨rfl, hb1⟩; have HB1 := Lib.hid hb1; have kx := (hX1.later hb1).cell 0; clear hb1)
      | (go_at_call 61; refine (HLS.out _ _ (hA1.trans HB1.out) kx).mono ?_; rintro e w2 ⟨r, rfl, hr, hb2⟩; have HR := Lib.hid hr; have HB2 := Lib.hid hb2; clear hr hb2))
    go_ret2
    exact ⟨r, rfl, fun h => absurd rfl h, fun _ => HR.out, (hA1.trans HB1.out).trans HB2.out⟩
  · generalize checkL l = c at *
    have g0 : (c != 0) = true := by simp [bne, h0]
    have H0 := Lib.hid h0
    have HC := Lib.hid hc
    generalize l.length = n at *
    clear hL h0 hc h62
    go_enter Try.func24, Try.ntmps24
    have hA1 : Adds w (w.alloc (.cells #[.slice p n cl] 30)) := (Adds.refl w).alloc _
    go_wp2_with (go_at_call 60; refine (HC.out _ hA1).mono ?_; rintro e w1 ⟨rfl, hb1⟩; have HB1 := Lib.hid hb1; clear hb1)
    go_ret2
    exact ⟨0, rfl, fun _ => rfl, fun h => absurd h H0.out, hA1.trans HB1.out⟩

end Go.Proofs.Ytkofnhimgegcnaa
