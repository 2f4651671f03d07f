/- slices.Clone of numbers and of accounts, slices.Clip of contracts. -/
import Derived.Test.YtmkpidipoadnbaaW40
import Derived.WalkLawsBesides
namespace Go.Proofs.Ytmkpidipoadnbaa
open Go Go.RowKit Go.Sort

theorem info_long : (Try.prog.info? 2).map (fun i => (i.zero, i.size, i.bytes)) = some (some (.int .i64 0), 1, 8) := by kernel_rfl
theorem own_zero (w : World) (t size : Nat) : (w.alloc (.cells #[] t)).ownsRow w.heap.size t size (.slice (some ⟨w.heap.size, 0, none⟩) 0 0) 0 [] :=
  ⟨by simp, .inr ⟨w.heap.size, 0, #[], rfl, Nat.le_refl _, World.alloc_heap_new w _, Nat.le_refl _, by unfold maxLen; omega, by simp, by simp⟩⟩
theorem keep_add {w w' : World} {g o : Nat} {xs : List Value} (ha : Adds w w') (h : w.rangeAt g o xs) {j : Nat} {u : Value} (hj : xs[j]? = some u) : w'.cell? (Addr.add ⟨g, o, none⟩ j) = some u := by
  have h1 := keep_cell ha (h j u hj)
  by_cases hj0 : j = 0
  · subst hj0; exact h1
  · simp only [Addr.add, if_neg hj0]; exact h1
theorem ret_slice {q : Option Addr} {n n' c : Nat} (h : n = n') : Ending.returned (Value.slice q n c) = Ending.returned (Value.slice q n' c) := by rw [h]
set_option maxRecDepth 100000 in
theorem clone_any (g o c : Nat) (l : List Int) (w : World) (hL : w.rangeAt g o (l.map (Value.int .i64))) (h0 : 0 < l.length) (h1 : l.length ≤ 1000) :
    Calls Try.prog 33 #[.slice (some ⟨g, o, none⟩) l.length c] w fun r w' => ∃ q d, r = .returned (.slice q l.length d) ∧ w'.ownsRow w.heap.size 2 1 (.slice q l.length d) l.length (l.map (Value.int .i64)) ∧ Adds w w' := by
  obtain ⟨j0, hj, hj0, hj1, hj2⟩ := info_parts info_long
  have HJ := Lib.hid hj
  have HJ0 := Lib.hid hj0
  have HJ1 := Lib.hid hj1
  have HJ2 := Lib.hid hj2
  clear hj hj0 hj1 hj2
  have HL := Lib.hid hL
  obtain ⟨n, hn⟩ : ∃ n, n = l.length := ⟨_, rfl⟩
  rw [← hn] at h0 h1 ⊢
  have HN := Lib.hid hn
  have heq := Lib.run_eql_slice_nil (P := Try.prog) w 22 2 (some ⟨g, o, none⟩) n c 0 0 Try.underlying22
  clear hL hn
  go_enter Try.func33, Try.ntmps33
  go_wp2_with (at_builtin; ((refine wpList_append_lies _ rfl _ _ 22 rfl w.heap.size 2 j0 (.int .i64 0) 1 8 Try.underlying22 HJ.out HJ0.out HJ1.out HJ2.out rfl (by decide) (.slice (some ⟨w.heap.size, 0, none⟩) 0 0) 0 [] rfl (own_zero w 2 1) ⟨g, o, none⟩ n c (l.map (Value.int .i64)) rfl (by rw [List.length_map, HN.out, Nat.mul_one]) (fun j u hj => keep_add ((Adds.refl w).alloc _) HL.out hj) (ints_one l) h0 (by unfold maxLen; omega) (by omega) (by simp) _ rfl ?_); intro g7 c7 w7 ho hg hl hs7; have HO7 := Lib.hid ho; have HA7 : Hid (Adds w w7) := Lib.hid (Below.grown ((Adds.refl w).alloc _) hg (by simp) (fun j hj => (own_block (own_zero w 2 1) hj).1)); clear ho hg hl hs7))
  go_ret
  rw [Nat.zero_add] at HO7
  exact ⟨some ⟨g7, 0, none⟩, c7, ret_slice (by omega), HO7.out, HA7.out⟩

end Go.Proofs.Ytmkpidipoadnbaa
