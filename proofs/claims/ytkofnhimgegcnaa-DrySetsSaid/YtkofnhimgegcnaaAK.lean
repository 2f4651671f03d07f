/- within: the hours of a load that lie in spans. -/
import Derived.Test.YtkofnhimgegcnaaAJ
namespace Go.Proofs.Ytkofnhimgegcnaa
open Go Go.RowKit Go.Sort

/-- The hours of a load in a span. -/
def lapL (x : Ld) (h : Int × Int) : Int := max 0 (min x.2.1 h.2 - max x.1 h.1)
def withinL (x : Ld) (H : List (Int × Int)) : Int := (H.map (lapL x)).sum

theorem withinL_next {x : Ld} {H : List (Int × Int)} {k : Nat} {h : Int × Int} (hh : H[k]? = some h) : withinL x (H.take (k + 1)) = withinL x (H.take k) + lapL x h := by
  have hk' : k < H.length := (List.getElem?_eq_some_iff.1 hh).1
  have e : H[k] = h := (List.getElem?_eq_some_iff.1 hh).2
  unfold withinL
  rw [List.take_succ_eq_append_getElem hk', List.map_append, List.sum_append, e]
  simp

theorem withinL_bd {x : Ld} (h1 : 0 ≤ x.1 ∧ x.2.1 ≤ 1000000000) : ∀ (H : List (Int × Int)) (k : Nat), 0 ≤ withinL x (H.take k) ∧ withinL x (H.take k) ≤ k * 1000000000
  | H, 0 => by simp [withinL]
  | H, k + 1 => by
    have ih := withinL_bd h1 H k
    by_cases h : k < H.length
    · obtain ⟨t, ht⟩ : ∃ t, H[k]? = some t := ⟨_, List.getElem?_eq_getElem h⟩
      rw [withinL_next ht]
      have : 0 ≤ lapL x t ∧ lapL x t ≤ 1000000000 := by unfold lapL; omega
      omega
    · rw [List.take_of_length_le (by omega)]
      rw [List.take_of_length_le (by omega)] at ih
      omega

set_option maxRecDepth 100000 in
set_option maxHeartbeats 2000000 in
theorem within_any (x : Ld) (p : Option Addr) (cl base : Nat) (H : List (Int × Int)) (w : World) (hx : 0 ≤ x.1 ∧ x.1 ≤ 1000000000 ∧ 0 ≤ x.2.1 ∧ x.2.1 ≤ 1000000000) (hH : w.ownsRow base 91 2 (.slice p H.length cl) H.length (H.flatMap enc2)) (hl : H.length ≤ 1000) (hb : ∀ h ∈ H, 0 ≤ h.1 ∧ h.1 ≤ 1000000000 ∧ 0 ≤ h.2 ∧ h.2 ≤ 1000000000) :
    Calls Try.prog 49 #[.agg #[.int .i64 x.1, .int .i64 x.2.1, .int .i64 x.2.2.1, .int .i64 x.2.2.2], .slice p H.length cl] w fun e w' => e = .returned (.int .i64 (withinL x H)) ∧ Adds w w' := by
  obtain ⟨x0, x1, x2, x3⟩ := x
  dsimp only at hx ⊢
  obtain ⟨n, hn⟩ : ∃ n, n = H.length := ⟨_, rfl⟩
  rw [← hn] at hl hH ⊢
  have HN := Lib.hid hn
  have HH := Lib.hid hH
  have HB := Lib.hid hb
  obtain ⟨X, hX⟩ : ∃ X, X = (x0, x1, x2, x3) := ⟨_, rfl⟩
  rw [← hX]
  have HX := Lib.hid hX
  have HBD : Hid (∀ k, 0 ≤ withinL X (H.take k) ∧ withinL X (H.take k) ≤ k * 1000000000) := Lib.hid (by rw [hX]; exact withinL_bd (x := (x0, x1, x2, x3)) ⟨hx.1, hx.2.2.2⟩ H)
  obtain ⟨hx0, hx0', hx1, hx1'⟩ := hx
  clear hH hn hb hX
  go_enter Try.func49, Try.ntmps49
  go_upto_region 3 with fail
  obtain ⟨xb, hxb⟩ : ∃ b, b = w.heap.size := ⟨_, rfl⟩
  obtain ⟨W1, hW1⟩ : ∃ V, V = w.alloc (.cells #[.int .i64 x0, .int .i64 x1, .int .i64 x2, .int .i64 x3] 72) := ⟨_, rfl⟩
  try rw [← hW1, ← hxb]
  have HX1 : Hid (Box W1 xb #[.int .i64 x0, .int .i64 x1, .int .i64 x2, .int .i64 x3] 72) := Lib.hid (by rw [hW1, hxb]; exact Box.new _ _ _)
  have HA1 : Hid (Adds w W1) := Lib.hid (by rw [hW1]; exact (Adds.refl _).alloc _)
  clear hW1 hxb
  go_loopw [5, 6] (fun v5 v6 wr => ∃ k : Nat, k ≤ n ∧ v6 = .int .i64 k ∧ v5 = .int .i64 (withinL X (H.take k)) ∧ Hid (Adds W1 wr)) (fun _ v6 _ => n - (intOf v6).toNat)
  case atStart => exact ⟨0, by omega, rfl, rfl, Lib.hid (Adds.refl _)⟩
  case round =>
    obtain ⟨k, hk, rfl, rfl, HAD⟩ := hrel
    by_cases hlt : k < n
    · have hlt2 : (k : Int) < (n : Int) := by omega
      obtain ⟨⟨a, b⟩, hh⟩ : ∃ x, H[k]? = some x := ⟨_, List.getElem?_eq_getElem (by have := HN.out; omega)⟩
      obtain ⟨ba, ba', bb, bb'⟩ := HB.out _ (List.mem_of_getElem? hh)
      dsimp only at ba ba' bb bb'
      obtain ⟨g, c', e, _⟩ := own_some HH.out (by omega)
      injection e with e1 e2 e3
      subst e1
      clear e2 e3
      obtain ⟨f0, f1⟩ := flat2_get hh
      have hA := HA1.out.trans HAD.out
      have d0 := keep_cell hA (own_cell HH.out f0).1
      have d1 := keep_cell hA (own_cell HH.out f1).1
      have xx0 : wr.cell? ⟨xb, 0, none⟩ = some (.int .i64 x0) := (HX1.out.later HAD.out).cell 0
      have xx1 : wr.cell? ⟨xb, 1, none⟩ = some (.int .i64 x1) := (HX1.out.later HAD.out).cell 1
      dsimp only at d0 d1
      have HNX := Lib.hid (withinL_next (x := X) hh)
      obtain ⟨s0, s1⟩ := HBD.out k
      obtain ⟨S, hS⟩ : ∃ S, S = withinL X (H.take k) := ⟨_, rfl⟩
      rw [← hS] at s0 s1 HNX ⊢
      obtain ⟨u, hu⟩ : ∃ u, u = min x1 b := ⟨_, rfl⟩
      obtain ⟨v, hv⟩ : ∃ u, u = max x0 a := ⟨_, rfl⟩
      obtain ⟨t, ht⟩ : ∃ y, y = max 0 (u - v) := ⟨_, rfl⟩
      have HLAP : Hid (lapL X (a, b) = t) := Lib.hid (by rw [HX.out, ht, hu, hv]; rfl)
      have hu' : min x1 b = u := hu.symm
      have hv' : max x0 a = v := hv.symm
      have ht' : max 0 (u - v) = t := ht.symm
      have hub : 0 ≤ u ∧ u ≤ 1000000000 := by omega
      have hvb : 0 ≤ v ∧ v ≤ 1000000000 := by omega
      have htb : 0 ≤ t ∧ t ≤ 1000000000 := by omega
      clear hh f0 f1 hA hS hu hv ht
      go_upto_region 5 with fail
      go_quiet (fail)
      go_wp2
      refine ⟨⟨k + 1, by omega, by go_num, by rw [HNX.out, HLAP.out], Lib.hid (HAD.out.drewN _)⟩, by simp [intOf]; omega⟩
    · have hdq : decide ((k : Int) < (n : Int)) = false := decide_eq_false (by omega)
      have e1 : H.take k = H := List.take_of_length_le (by have := HN.out; omega)
      rw [e1]
      go_wp2
      go_ret
      exact ⟨rfl, HA1.out.trans HAD.out⟩

end Go.Proofs.Ytkofnhimgegcnaa
