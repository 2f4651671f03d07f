/- At of the reference. -/
import Derived.Test.YtigpghmbeldakaaAH
namespace Go.Proofs.Ytigpghmbeldakaa
open Go.RowKit

set_option maxRecDepth 100000 in
set_option maxHeartbeats 2000000 in
theorem RAt_any (p : Option Addr) (cap : Nat) (l : List Bd) (x : Int) (w : World) (hN : l.length ≤ 5000) (hL : At3 w p l) (hok : ∀ b ∈ l, okB b = true) :
    Calls Try.prog 27 #[.slice p l.length cap, .int .i64 x] w fun e w' => e = .returned (.tuple #[.int .i64 (dem l x), .int .i64 (sup l x)]) ∧ Adds w w' := by
  obtain ⟨N, hNl⟩ : ∃ N, N = l.length := ⟨_, rfl⟩
  rw [← hNl] at hN ⊢
  have HL := Lib.hid hL
  have HO := Lib.hid hok
  have HN := Lib.hid hNl
  clear hL hok hNl
  go_enter Try.func27, Try.ntmps27
  go_wp2
  go_loopw [6, 7, 8] (fun d s i wr => ∃ k : Nat, k ≤ N ∧ i = .int .i64 k ∧ d = .int .i64 (dem (l.take k) x) ∧ s = .int .i64 (sup (l.take k) x) ∧ Adds w wr) (fun _ _ i _ => N - (intOf i).toNat)
  case atStart => exact ⟨0, by omega, rfl, by simp [dem], by simp [sup], Adds.refl w⟩
  case round =>
    obtain ⟨k, hk, rfl, rfl, rfl, hb⟩ := hrel
    by_cases hlt : k < N
    · obtain ⟨⟨s, pp, q⟩, hb3⟩ : ∃ t, l[k]? = some t := ⟨_, List.getElem?_eq_getElem (by have := HN.out; omega)⟩
      obtain ⟨g, off, rfl, d0, d1, d2⟩ := HL.out k _ hb3
      have c0 := keep_cell hb d0
      have c1 := keep_cell hb d1
      have c2 := keep_cell hb d2
      have hv := okB_iff.1 (HO.out _ (List.mem_of_getElem? hb3))
      have hd := dem_bd x _ (ok_take HO.out k)
      have hs := sup_bd x _ (ok_take HO.out k)
      have hlk : (l.take k).length ≤ 5000 := by have := List.length_take_le k l; omega
      simp only at hv c0 c1 c2
      obtain ⟨hs1, hp1, hq1, hq2⟩ := hv
      have HD : Hid (dem (l.take (k + 1)) x = dem (l.take k) x + if s = 1 ∧ x ≤ pp then q else 0) := Lib.hid (by rw [take_next hb3, dem_next])
      have HS : Hid (sup (l.take (k + 1)) x = sup (l.take k) x + if s = 2 ∧ pp ≤ x then q else 0) := Lib.hid (by rw [take_next hb3, sup_next])
      generalize dem (l.take k) x = dd at *
      generalize sup (l.take k) x = ss at *
      have hdd : dd ≤ 5000000000000 := by omega
      have hss : ss ≤ 5000000000000 := by omega
      have hklt : (k : Int) < (N : Int) := by omega
      have HB := Lib.hid hb
      clear d0 d1 d2 hb3 hb hlk
      rcases hs1 with rfl | rfl
      · by_cases hle : x ≤ pp
        · have HD2 : Hid (dem (l.take (k + 1)) x = dd + q) := Lib.hid (by rw [HD.out, if_pos ⟨rfl, hle⟩])
          have HS2 : Hid (sup (l.take (k + 1)) x = ss) := Lib.hid (by rw [HS.out, if_neg (by omega), Int.add_zero])
          go_wp2
          exact ⟨⟨k + 1, by omega, by go_num, by rw [HD2.out], by rw [HS2.out], HB.out⟩, by simp [intOf]; omega⟩
        · have HD2 : Hid (dem (l.take (k + 1)) x = dd) := Lib.hid (by rw [HD.out, if_neg (fun h => hle h.2), Int.add_zero])
          have HS2 : Hid (sup (l.take (k + 1)) x = ss) := Lib.hid (by rw [HS.out, if_neg (by omega), Int.add_zero])
          go_wp2
          exact ⟨⟨k + 1, by omega, by go_num, by rw [HD2.out], by rw [HS2.out], HB.out⟩, by simp [intOf]; omega⟩
      · by_cases hle : pp ≤ x
        · have HD2 : Hid (dem (l.take (k + 1)) x = dd) := Lib.hid (by rw [HD.out, if_neg (by omega), Int.add_zero])
          have HS2 : Hid (sup (l.take (k + 1)) x = ss + q) := Lib.hid (by rw [HS.out, if_pos ⟨rfl, hle⟩])
          go_wp2
          exact ⟨⟨k + 1, by omega, by go_num, by rw [HD2.out], by rw [HS2.out], HB.out⟩, by simp [intOf]; omega⟩
        · have HD2 : Hid (dem (l.take (k + 1)) x = dd) := Lib.hid (by rw [HD.out, if_neg (by omega), Int.add_zero])
          have HS2 : Hid (sup (l.take (k + 1)) x = ss) := Lib.hid (by rw [HS.out, if_neg (fun h => hle h.2), Int.add_zero])
          go_wp2
          exact ⟨⟨k + 1, by omega, by go_num, by rw [HD2.out], by rw [HS2.out], HB.out⟩, by simp [intOf]; omega⟩
    · have hkz : l.take k = l := List.take_of_length_le (by have := HN.out; omega)
      have HD : Hid (dem (l.take k) x = dem l x) := Lib.hid (by rw [hkz])
      have HS : Hid (sup (l.take k) x = sup l x) := Lib.hid (by rw [hkz])
      clear hkz
      go_wp2
      go_ret2
      exact ⟨by rw [← HD.out, ← HS.out]; rfl, hb⟩

end Go.Proofs.Ytigpghmbeldakaa
