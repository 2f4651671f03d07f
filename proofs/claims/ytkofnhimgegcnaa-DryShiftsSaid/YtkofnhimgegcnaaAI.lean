/- turns: the program's turns as the reference's. -/
import Derived.Test.YtkofnhimgegcnaaAH
namespace Go.Proofs.Ytkofnhimgegcnaa
open Go Go.RowKit Go.Sort

theorem info42 : (Try.prog.info? 42).map (fun i => (i.zero, i.size, i.bytes)) = some (some (.agg #[.int .i64 0, .int .i64 0, .int .i64 0]), 3, 24) := by kernel_rfl

theorem take_flat3 {l : List Tn} {k : Nat} {x : Tn} (h : l[k]? = some x) : (l.take (k + 1)).flatMap enc3 = (l.take k).flatMap enc3 ++ enc3 x := by
  have hk' : k < l.length := (List.getElem?_eq_some_iff.1 h).1
  have e : l[k] = x := (List.getElem?_eq_some_iff.1 h).2
  rw [List.take_succ_eq_append_getElem hk', List.flatMap_append, e]
  simp

/-- A row of the reference's turns. -/
def TurnsR (w : World) (base : Nat) (v : Value) (l : List Tn) : Prop := w.ownsRow base 42 3 v l.length (l.flatMap enc3)

set_option maxRecDepth 100000 in
set_option maxHeartbeats 2000000 in
theorem turns_any (p : Option Addr) (cl base : Nat) (l : List Tn) (w : World) (hL : Turns w base (.slice p l.length cl) l) (hl : l.length ≤ 1000000) :
    Calls Try.prog 39 #[.slice p l.length cl] w fun e w' => ∃ c q, e = .returned (.slice q l.length c) ∧ TurnsR w' w.heap.size (.slice q l.length c) l ∧ Adds w w' := by
  obtain ⟨i0, hi, hi0, hi1, hi2⟩ := info_parts info42
  have HI := Lib.hid hi
  have HI0 := Lib.hid hi0
  have HI1 := Lib.hid hi1
  have HI2 := Lib.hid hi2
  unfold Turns at hL
  obtain ⟨n, hn⟩ : ∃ n, n = l.length := ⟨_, rfl⟩
  rw [← hn] at hl hL ⊢
  have HN := Lib.hid hn
  have HL := Lib.hid hL
  clear hi hi0 hi1 hi2 hL hn
  go_enter Try.func39, Try.ntmps39
  go_upto_region 3 with fail
  go_loopw [3, 4] (fun v3 v4 wr => ∃ k : Nat, k ≤ n ∧ v4 = .int .i64 k ∧ Hid (wr.ownsRow w.heap.size 42 3 v3 k ((l.take k).flatMap enc3)) ∧ Hid (Adds w wr)) (fun _ v4 _ => n - (intOf v4).toNat)
  case atStart => exact ⟨0, by omega, rfl, Lib.hid (World.ownsRow_nil _ _ _ _), Lib.hid (Adds.refl _)⟩
  case round =>
    obtain ⟨k, hk, rfl, HO, HAD⟩ := hrel
    by_cases hlt : k < n
    · have hlt2 : (k : Int) < (n : Int) := by omega
      obtain ⟨⟨x0, x1, x2⟩, hx⟩ : ∃ x, l[k]? = some x := ⟨_, List.getElem?_eq_getElem (by have := HN.out; omega)⟩
      obtain ⟨g, c', e, _⟩ := own_some HL.out (by omega)
      injection e with e1 e2 e3
      subst e1
      clear e2 e3
      obtain ⟨f0, f1, f2⟩ := flat3_cell k _ hx
      have d0 := keep_cell HAD.out (own_cell HL.out f0).1
      have d1 := keep_cell HAD.out (own_cell HL.out f1).1
      have d2 := keep_cell HAD.out (own_cell HL.out f2).1
      dsimp only at d0 d1 d2
      have HNX := Lib.hid (take_flat3 hx)
      have hws := HAD.out.size
      clear hx f0 f1 f2
      obtain ⟨pj, cj, rfl⟩ := own_slice HO.out
      go_wp2_with (at_builtin; ((refine wpList_append_lies _ rfl _ _ 34 rfl w.heap.size 42 i0 (.agg #[.int .i64 0, .int .i64 0, .int .i64 0]) 3 24 Try.underlying34 HI.out HI0.out HI1.out HI2.out rfl (by decide) (.slice pj k cj) k _ rfl (HO.out.alloc _) ⟨wr.heap.size, 0, none⟩ 1 1 [.int .i64 x0, .int .i64 x1, .int .i64 x2] rfl rfl (World.news_of_block (Box.new wr _ 42)) (by simp [Value.oneCell']) (by omega) (by unfold maxLen; omega) (by omega) (by simp; omega) (wr.heap.size + 1) (by simp) ?_); intro g6 c6 w6 ho6 hg6 hl6 hs6; have HO6 := Lib.hid ho6; have HG6 := Lib.hid hg6; clear ho6 hg6 hl6))
      refine ⟨⟨k + 1, by omega, by go_num, Lib.hid ?_, Lib.hid (Below.grown (HAD.out.alloc _) HG6.out (by simp; omega) (fun j hj => (own_block HO.out hj).1))⟩, by simp [intOf]; omega⟩
      rw [HNX.out]
      exact HO6.out
    · have hkn : n = k := by omega
      subst hkn
      have e1 : l.take n = l := List.take_of_length_le (by have := HN.out; omega)
      rw [e1] at HO
      obtain ⟨pj, cj, rfl⟩ := own_slice HO.out
      go_wp2
      go_ret
      refine ⟨cj, pj, rfl, ?_, HAD.out⟩
      unfold TurnsR
      rw [← HN.out]
      exact HO.out

end Go.Proofs.Ytkofnhimgegcnaa
