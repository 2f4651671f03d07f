/- A number below another one, drawn by either. -/
import Derived.Test.YtofaioabjkcaiaaDE
namespace Go.Proofs.Ytofaioabjkcaiaa
open Go.RowKit

set_option maxRecDepth 100000 in
set_option maxHeartbeats 2000000 in
theorem RBelow_any (x m : Int) (w : World) (h : 0 ≤ x) (h2 : x < 18446744073709551616) (hm : 1 ≤ m) (hm2 : m ≤ 1000000) :
    Calls Try.prog 87 #[.int .u64 x, .int .u64 m] w fun e w' => ∃ x' v, e = .returned (.tuple #[.int .u64 x', .int .u64 v]) ∧ Drawn (limT m) m x x' v ∧ Adds w w' := by
  obtain ⟨l0, l1, o0, o1, o2, o3⟩ := limT_bd hm hm2
  obtain ⟨y, hy⟩ : ∃ y, y = (18446744073709551615 : Int).tmod m := ⟨_, rfl⟩
  rw [← hy] at o0 o1 o2 o3
  obtain ⟨z, hz⟩ : ∃ z, z = (y + 1).tmod m := ⟨_, rfl⟩
  rw [← hz] at o2 o3
  obtain ⟨L, hL⟩ : ∃ L, L = limT m := ⟨_, rfl⟩
  have hLz : L = 18446744073709551615 - z := by rw [hL, hz, hy]; rfl
  rw [← hL] at l0 l1 ⊢
  have hw1 : IntKind.u64.wrap (y + 1) = y + 1 := by rw [u64_w]; omega
  have hw2 : IntKind.u64.wrap (18446744073709551615 - z) = L := by rw [u64_w, hLz]; omega
  have hm0 : (m = 0) = False := eq_false (by omega)
  have HST := Lib.hid (fun n => stepN_bd h h2 n)
  clear hL hLz
  have hy' := hy.symm
  have hz' := hz.symm
  clear hy hz
  go_enter Try.func87, Try.ntmps87
  go_wp2_with fail
  go_loopw [0] (fun v0 wr => ∃ (j : Nat) (s : Int), v0 = .int .u64 s ∧ Hid (s = stepN j x) ∧ Hid (∀ i, 1 ≤ i → i ≤ j → L < mixT (stepN i x)) ∧ w = wr) (fun v0 _ => distT (intOf v0))
  case atStart => exact ⟨0, x, rfl, Lib.hid rfl, Lib.hid (fun i h1 h2 => by omega), rfl⟩
  case round =>
    obtain ⟨j, s, rfl, hs, hno, rfl⟩ := hrel
    obtain ⟨hs0, hs1⟩ := HST.out j
    rw [← hs.out] at hs0 hs1
    obtain ⟨s', hs'⟩ : ∃ s', s' = stepT s := ⟨_, rfl⟩
    have HS' := Lib.hid hs'
    have hdr : Hid (Calls Try.prog 110 #[.int .u64 s] w fun e w' => e = .returned (.tuple #[.int .u64 s', .int .u64 (mixT s')]) ∧ w = w') := Lib.hid (by rw [hs']; exact Draw_any s w hs0 hs1)
    obtain ⟨u, hu⟩ : ∃ u, u = mixT s' := ⟨_, rfl⟩
    have hub := mixT_bd s'
    rw [← hu] at hdr hub
    have HU := Lib.hid hu
    clear hs' hu
    by_cases hacc : u ≤ L
    · go_upto_region 5 with (go_at_call 110; refine hdr.out.mono ?_; rintro e w' ⟨rfl, rfl⟩)
      go_region
      all_goals
        go_wp2_with fail
        go_ret2
        refine ⟨s', u % m, rfl, ⟨j + 1, by omega, ?_, ?_, fun i i1 i2 => hno.out i i1 (by omega), ?_⟩, ?_⟩
        · rw [HS'.out, hs.out]; rfl
        · show mixT (stepT (stepN j x)) ≤ L
          rw [← hs.out, ← HS'.out, ← HU.out]; exact hacc
        · show _ = mixT (stepT (stepN j x)) % m
          rw [← hs.out, ← HS'.out, ← HU.out]
        · first | exact Adds.refl _ | exact (Adds.refl _).drew | exact (Adds.refl _).drewN _
    · go_wp2_with (go_at_call 110; refine hdr.out.mono ?_; rintro e w' ⟨rfl, rfl⟩)
      refine ⟨⟨j + 1, s', rfl, Lib.hid (by rw [HS'.out, hs.out]; rfl), Lib.hid (fun i i1 i2 => ?_), trivial⟩, ?_⟩
      · by_cases hij : i ≤ j
        · exact hno.out i i1 hij
        · have : i = j + 1 := by omega
          subst this
          show L < mixT (stepT (stepN j x))
          rw [← hs.out, ← HS'.out, ← HU.out]; omega
      · show distT s' < distT s
        rw [HS'.out]
        refine dist_less hs0 hs1 (fun e => ?_)
        have e2 : u = 0 := by rw [HU.out, HS'.out, e]; exact mixT_zero
        omega

end Go.Proofs.Ytofaioabjkcaiaa
