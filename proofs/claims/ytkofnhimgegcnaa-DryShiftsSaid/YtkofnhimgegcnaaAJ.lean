/- Ordered: true of what is sorted. -/
import Derived.Test.YtkofnhimgegcnaaAI
namespace Go.Proofs.Ytkofnhimgegcnaa
open Go Go.RowKit Go.Sort

set_option maxRecDepth 100000 in
set_option maxHeartbeats 2000000 in
theorem ordered_any (p : Option Addr) (cl base : Nat) (l : List Tn) (w : World) (hL : TurnsR w base (.slice p l.length cl) l) (hl : l.length ≤ 1000000) (hs : l.Pairwise (fun x y => ltOf cfF y x = false)) :
    Calls Try.prog 40 #[.slice p l.length cl] w fun e w' => e = .returned (.bool true) ∧ Adds w w' := by
  unfold TurnsR at hL
  have hp : ∀ i x y, l[i]? = some x → l[i + 1]? = some y → x.2.1 ≤ y.2.1 ∧ (x.2.1 = y.2.1 → x.1 ≤ y.1) := fun i x y hx hy => by
    obtain ⟨h1, e1⟩ := List.getElem?_eq_some_iff.1 hx
    obtain ⟨h2, e2⟩ := List.getElem?_eq_some_iff.1 hy
    have := List.pairwise_iff_getElem.1 hs i (i + 1) h1 h2 (by omega)
    rw [e1, e2, ltF] at this
    simp at this
    omega
  obtain ⟨n, hn⟩ : ∃ n, n = l.length := ⟨_, rfl⟩
  rw [← hn] at hl hL ⊢
  have HN := Lib.hid hn
  have HL := Lib.hid hL
  have HP := Lib.hid hp
  clear hL hn hp hs
  go_enter Try.func40, Try.ntmps40
  go_upto_region 2 with fail
  go_loopw [3] (fun v3 wr => ∃ z : Nat, z ≤ n ∧ v3 = .int .i64 ((z : Int) + 1) ∧ Hid (Adds w wr)) (fun v3 _ => n + 1 - (intOf v3).toNat)
  case atStart => exact ⟨0, by omega, rfl, Lib.hid (Adds.refl _)⟩
  case round =>
    obtain ⟨z, hz, rfl, HAD⟩ := hrel
    by_cases hlt : z + 1 < n
    · have hlt2 : (z : Int) + 1 < (n : Int) := by omega
      have hlt3 : (z : Int) < (n : Int) := by omega
      have hz0 : (0 : Int) ≤ (z : Int) + 1 := by omega
      have hzz : (0 : Int) ≤ (z : Int) := by omega
      obtain ⟨⟨x0, x1, x2⟩, hx⟩ : ∃ x, l[z]? = some x := ⟨_, List.getElem?_eq_getElem (by have := HN.out; omega)⟩
      obtain ⟨⟨y0, y1, y2⟩, hy⟩ : ∃ x, l[z + 1]? = some x := ⟨_, List.getElem?_eq_getElem (by have := HN.out; omega)⟩
      obtain ⟨o1, o2⟩ := HP.out z _ _ hx hy
      dsimp only at o1 o2
      obtain ⟨g, c', e, _⟩ := own_some HL.out (by omega)
      injection e with e1 e2 e3
      subst e1
      clear e2 e3
      obtain ⟨f0, f1, f2⟩ := flat3_cell z _ hx
      obtain ⟨g0, g1, g2⟩ := flat3_cell (z + 1) _ hy
      have d0 := keep_cell HAD.out (own_cell HL.out f0).1
      have d1 := keep_cell HAD.out (own_cell HL.out f1).1
      have b0 := keep_cell HAD.out (own_cell HL.out g0).1
      have b1 := keep_cell HAD.out (own_cell HL.out g1).1
      dsimp only at d0 d1 b0 b1
      have hw1 : IntKind.i64.wrap ((z : Int) + 1 - 1) = (z : Int) := by rw [IntKind.wrap_i64]; omega
      have hgt : decide (y1 < x1) = false := decide_eq_false (by omega)
      clear hx hy f0 f1 f2 g0 g1 g2
      by_cases he : x1 = y1
      · have heq : (x1 == y1) = true := by rw [he]; simp
        have hgt2 : decide (y0 < x0) = false := decide_eq_false (by have := o2 he; omega)
        clear he o1 o2
        go_upto_region 4 with fail
        go_quiet (fail)
        go_wp2
        exact ⟨⟨z + 1, by omega, by go_num, Lib.hid (HAD.out.drewN _)⟩, by simp [intOf]; omega⟩
      · have heq : (x1 == y1) = false := by simpa using he
        clear he o1 o2
        go_upto_region 4 with fail
        go_quiet (fail)
        go_wp2
        exact ⟨⟨z + 1, by omega, by go_num, Lib.hid (HAD.out.drewN _)⟩, by simp [intOf]; omega⟩
    · have hdq : decide ((z : Int) + 1 < (n : Int)) = false := decide_eq_false (by omega)
      go_wp2
      go_ret
      exact ⟨rfl, HAD.out⟩

end Go.Proofs.Ytkofnhimgegcnaa
