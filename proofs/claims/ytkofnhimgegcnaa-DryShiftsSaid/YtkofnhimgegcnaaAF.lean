/- give: the reference's loads as the program's. -/
import Derived.Test.YtkofnhimgegcnaaAE
namespace Go.Proofs.Ytkofnhimgegcnaa
open Go Go.RowKit Go.Sort

theorem take_flat {l : List Ld} {k : Nat} {x : Ld} (h : l[k]? = some x) : (l.take (k + 1)).flatMap enc4 = (l.take k).flatMap enc4 ++ enc4 x := by
  have hk' : k < l.length := (List.getElem?_eq_some_iff.1 h).1
  have e : l[k] = x := (List.getElem?_eq_some_iff.1 h).2
  rw [List.take_succ_eq_append_getElem hk', List.flatMap_append, e]
  simp

set_option maxRecDepth 100000 in
set_option maxHeartbeats 2000000 in
theorem give_any (p : Option Addr) (cl : Nat) (l : List Ld) (w : World) (hL : LoadsAt w p l) (hl : l.length ≤ 1000) :
    Calls Try.prog 16 #[.slice p l.length cl] w fun e w' => ∃ c q, e = .returned (.slice q l.length c) ∧ Loads w' 84 w.heap.size (.slice q l.length c) l ∧ Adds w w' := by
  obtain ⟨i0, hi, hi0, hi1, hi2⟩ := info_parts info84
  have HI := Lib.hid hi
  have HI0 := Lib.hid hi0
  have HI1 := Lib.hid hi1
  have HI2 := Lib.hid hi2
  obtain ⟨n, hn⟩ : ∃ n, n = l.length := ⟨_, rfl⟩
  rw [← hn] at hl ⊢
  have HN := Lib.hid hn
  have HL := Lib.hid hL
  clear hi hi0 hi1 hi2 hL hn
  go_enter Try.func16, Try.ntmps16
  go_upto_region 3 with fail
  go_loopw [3, 4] (fun v3 v4 wr => ∃ k : Nat, k ≤ n ∧ v4 = .int .i64 k ∧ Hid (wr.ownsRow w.heap.size 84 4 v3 k ((l.take k).flatMap enc4)) ∧ Hid (Adds w wr)) (fun _ v4 _ => n - (intOf v4).toNat)
  case atStart => exact ⟨0, by omega, rfl, Lib.hid (World.ownsRow_nil _ _ _ _), Lib.hid (Adds.refl _)⟩
  case round =>
    obtain ⟨k, hk, rfl, HO, HAD⟩ := hrel
    by_cases hlt : k < n
    · have hlt2 : (k : Int) < (n : Int) := by omega
      obtain ⟨⟨x0, x1, x2, x3⟩, hx⟩ : ∃ x, l[k]? = some x := ⟨_, List.getElem?_eq_getElem (by have := HN.out; omega)⟩
      obtain ⟨g, off, rfl, d0, d1, d2, d3⟩ := HL.out.later HAD.out k _ hx
      dsimp only at d0 d1 d2 d3
      have HNX := Lib.hid (take_flat hx)
      have hws := HAD.out.size
      clear hx
      obtain ⟨pj, cj, rfl⟩ := own_slice HO.out
      go_wp2_with (at_builtin; ((refine wpList_append_lies _ rfl _ _ 30 rfl w.heap.size 84 i0 (.agg #[.int .i64 0, .int .i64 0, .int .i64 0, .int .i64 0]) 4 32 Try.underlying30 HI.out HI0.out HI1.out HI2.out rfl (by decide) (.slice pj k cj) k _ rfl (HO.out.alloc _) ⟨wr.heap.size, 0, none⟩ 1 1 [.int .i64 x0, .int .i64 x1, .int .i64 x2, .int .i64 x3] rfl rfl (World.news_of_block (Box.new wr _ 84)) (by simp [Value.oneCell']) (by omega) (by unfold maxLen; omega) (by omega) (by simp; omega) (wr.heap.size + 1) (by simp) ?_); intro g6 c6 w6 ho6 hg6 hl6 hs6; have HO6 := Lib.hid ho6; have HG6 := Lib.hid hg6; clear ho6 hg6 hl6))
      refine ⟨⟨k + 1, by omega, by go_num, Lib.hid ?_, Lib.hid (Below.grown (HAD.out.alloc _) HG6.out (by simp; omega) (fun j hj => (own_block HO.out hj).1))⟩, by simp [intOf]; omega⟩
      rw [HNX.out]
      exact HO6.out
    · have hkn : n = k := by omega
      subst hkn
      have e1 : l.take n = l := List.take_of_length_le (by have := HN.out; omega)
      rw [e1] at HO
      obtain ⟨pj, cj, rfl⟩ := own_slice HO.out
      go_wp2
      go_ret
      refine ⟨cj, pj, rfl, ?_, HAD.out⟩
      unfold Loads
      rw [← HN.out]
      exact HO.out

end Go.Proofs.Ytkofnhimgegcnaa
