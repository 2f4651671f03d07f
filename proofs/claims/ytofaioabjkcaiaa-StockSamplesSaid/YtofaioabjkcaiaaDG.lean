/- below of the register's generator. -/
import Derived.Test.YtofaioabjkcaiaaDF
namespace Go.Proofs.Ytofaioabjkcaiaa
open Go.RowKit

/-- How many draws it is from a state in memory to 0. -/
def stateDist (w : World) (b : Nat) : Nat := match w.cell? ⟨b, 0, none⟩ with
  | some (.int _ s) => distT s
  | _ => 0

theorem stateDist_box {w : World} {b : Nat} {s : Int} {t : TypeId} (h : Box w b #[.int .u64 s] t) : stateDist w b = distT s := by
  have := h.cell 0
  simp only [List.getElem?_toArray, List.getElem?_cons_zero] at this
  unfold stateDist
  rw [this]

set_option maxRecDepth 100000 in
set_option maxHeartbeats 2000000 in
theorem below_any (x m : Int) (b : Nat) (w0 : World) (h : 0 ≤ x) (h2 : x < 18446744073709551616) (hm : 1 ≤ m) (hm2 : m ≤ 1000000) (hbx : Box w0 b #[.int .u64 x] 139) :
    Calls Try.prog 86 #[.pointer (some ⟨b, 0, none⟩), .int .u64 m] w0 fun e w' => ∃ x' v, e = .returned (.int .u64 v) ∧ Drawn (limT m) m x x' v ∧ Box w' b #[.int .u64 x'] 139 ∧ Touch (fun k => k = b) w0 w' := by
  obtain ⟨l0, l1, o0, o1, o2, o3⟩ := limT_bd hm hm2
  obtain ⟨y, hy⟩ : ∃ y, y = (18446744073709551615 : Int).tmod m := ⟨_, rfl⟩
  rw [← hy] at o0 o1 o2 o3
  obtain ⟨z, hz⟩ : ∃ z, z = (y + 1).tmod m := ⟨_, rfl⟩
  rw [← hz] at o2 o3
  obtain ⟨L, hL⟩ : ∃ L, L = limT m := ⟨_, rfl⟩
  have hLz : L = 18446744073709551615 - z := by rw [hL, hz, hy]; rfl
  rw [← hL] at l0 l1 ⊢
  have hw1 : IntKind.u64.wrap (y + 1) = y + 1 := by rw [u64_w]; omega
  have hw2 : IntKind.u64.wrap (18446744073709551615 - z) = L := by rw [u64_w, hLz]; omega
  have hm0 : (m = 0) = False := eq_false (by omega)
  have HST := Lib.hid (fun n => stepN_bd h h2 n)
  have HBX := Lib.hid hbx
  clear hbx
  clear hL hLz
  have hy' := hy.symm
  have hz' := hz.symm
  clear hy hz
  go_enter Try.func86, Try.ntmps86
  go_wp2_with fail
  go_loopw [6] (fun v6 wr => ∃ (j : Nat) (s : Int), Hid (s = stepN j x) ∧ Hid (∀ i, 1 ≤ i → i ≤ j → L < mixT (stepN i x)) ∧ Hid (Box wr b #[.int .u64 s] 139) ∧ Hid (Touch (fun k => k = b) w0 wr)) (fun _ wr => stateDist wr b)
  case atStart => exact ⟨0, x, Lib.hid rfl, Lib.hid (fun i h1 h2 => by omega), HBX, Lib.hid (Touch.refl _ _)⟩
  case round =>
    clear HBX
    obtain ⟨j, s, hs, hno, hbx, htc⟩ := hrel
    obtain ⟨hs0, hs1⟩ := HST.out j
    rw [← hs.out] at hs0 hs1
    obtain ⟨s', hs'⟩ : ∃ s', s' = stepT s := ⟨_, rfl⟩
    have HS' := Lib.hid hs'
    have hdr : Hid (Calls Try.prog 109 #[.pointer (some ⟨b, 0, none⟩)] wr fun e w' => e = .returned (.int .u64 (mixT s')) ∧ w' = wr.setCell ⟨b, 0, none⟩ (.int .u64 s')) := Lib.hid (by rw [hs']; exact next_any s b wr hs0 hs1 hbx.out)
    obtain ⟨u, hu⟩ : ∃ u, u = mixT s' := ⟨_, rfl⟩
    have hub := mixT_bd s'
    rw [← hu] at hdr hub
    have HU := Lib.hid hu
    have HB2 : Hid (Box (wr.setCell ⟨b, 0, none⟩ (.int .u64 s')) b #[.int .u64 s'] 139) := Lib.hid (hbx.out.set 0 _)
    have HT2 : Hid (Touch (fun k => k = b) w0 (wr.setCell ⟨b, 0, none⟩ (.int .u64 s'))) := Lib.hid (htc.out.set (p := ⟨b, 0, none⟩) rfl _)
    have hd1 : stateDist wr b = distT s := stateDist_box hbx.out
    have hd2 : stateDist (wr.setCell ⟨b, 0, none⟩ (.int .u64 s')) b = distT s' := stateDist_box HB2.out
    clear hs' hu
    by_cases hacc : u ≤ L
    · go_wp2_with (go_at_call 109; refine hdr.out.mono ?_; rintro e w' ⟨rfl, rfl⟩)
      go_ret
      refine ⟨s', u % m, rfl, ⟨j + 1, by omega, ?_, ?_, fun i i1 i2 => hno.out i i1 (by omega), ?_⟩, HB2.out, HT2.out⟩
      · rw [HS'.out, hs.out]; rfl
      · show mixT (stepT (stepN j x)) ≤ L
        rw [← hs.out, ← HS'.out, ← HU.out]; exact hacc
      · show _ = mixT (stepT (stepN j x)) % m
        rw [← hs.out, ← HS'.out, ← HU.out]
    · have HD1 := Lib.hid hd1
      have HD2 := Lib.hid hd2
      clear hd1 hd2
      go_wp2_with (go_at_call 109; refine hdr.out.mono ?_; rintro e w' ⟨rfl, rfl⟩)
      refine ⟨⟨j + 1, s', Lib.hid (by rw [HS'.out, hs.out]; rfl), Lib.hid (fun i i1 i2 => ?_), HB2, HT2⟩, ?_⟩
      · by_cases hij : i ≤ j
        · exact hno.out i i1 hij
        · have : i = j + 1 := by omega
          subst this
          show L < mixT (stepT (stepN j x))
          rw [← hs.out, ← HS'.out, ← HU.out]; omega
      · rw [HD1.out, HD2.out, HS'.out]
        refine dist_less hs0 hs1 (fun e => ?_)
        have e2 : u = 0 := by rw [HU.out, HS'.out, e]; exact mixT_zero
        omega

end Go.Proofs.Ytofaioabjkcaiaa
