/- Move. -/
import Derived.Test.YtofaioabjkcaiaaY
namespace Go.Proofs.Ytofaioabjkcaiaa
open Go.RowKit

set_option maxRecDepth 100000 in
set_option maxHeartbeats 2000000 in
theorem move_true (B s : Nat) (v : Value) (bs : List Nat) (Ts : List Tree) (a n fr dst : Int) (w : World) (hS : StockAt B w s v bs Ts) (hlen : bs.length ≤ 1000000) (hl : (inB 1000 fr && inB 1000 dst) = true) :
    Calls Try.prog 33 #[.pointer (some ⟨s, 0, none⟩), .agg #[.int .i64 a, .int .i64 n], .int .i64 fr, .int .i64 dst] w
      (ChangeAll w s v bs Ts a n ((inB 1000 fr && inB 1000 dst) && (fr != dst)) (rfFree fr) (fun q => ⟨q.st, q.lot, dst, q.hold⟩)) := by
    have HS := Lib.hid hS
    clear hS
    have HL := Lib.hid hl
    go_enter Try.func33, Try.ntmps33
    go_upto_region 1 with fail
    obtain ⟨W2, hW2⟩ : ∃ V, V = (w.alloc (.cells #[.int .i64 a, .int .i64 n] 32)).alloc (.cells #[.int .i64 dst] 3) := ⟨_, rfl⟩
    have A2 : Adds w W2 := by rw [hW2]; exact ((Adds.refl w).alloc _).alloc _
    have X0 : Box W2 w.heap.size #[.int .i64 a, .int .i64 n] 32 := by rw [hW2]; exact (Box.new w _ _).alloc _
    have X1 : Box W2 (w.heap.size + 1) #[.int .i64 dst] 3 := by rw [hW2]; have := Box.new (w.alloc (.cells #[.int .i64 a, .int .i64 n] 32)) #[.int .i64 dst] 3; simpa using this
    rw [← hW2]
    clear hW2
    have x0 := X0.cell 0
    have x1 := X0.cell 1
    have y0 := X1.cell 0
    simp only [List.getElem?_toArray, List.getElem?_cons_zero, List.getElem?_cons_succ] at x0 x1 y0
    have NS : Hid (∀ k, w.heap.size ≤ k → ¬ (k = s ∨ v.ownBlock = some k)) := Lib.hid (fun k hk h => h.elim (fun h => by have := HS.out.box.lt; omega) (fun h => by have := (HS.out.row.lt _ h).2; omega))
    clear X0 X1 hl
    have hl : (inB 1000 fr && inB 1000 dst) = true := HL.out
    go_region_held3 (fun w' => w'.cell? ⟨w.heap.size, 0, none⟩ = some (.int .i64 a) ∧ w'.cell? ⟨w.heap.size, 1, none⟩ = some (.int .i64 n) ∧ w'.cell? ⟨w.heap.size + 1, 0, none⟩ = some (.int .i64 dst))
      (first | (go_keep; done) | exact ⟨touch_cell htch (NS.out _ (by omega)) x0, touch_cell htch (NS.out _ (by omega)) x1, touch_cell htch (NS.out _ (by omega)) y0⟩ | ((repeat' apply And.intro) <;> go_keep) | (refine ⟨keep_cell ?_ x0, keep_cell ?_ x1, keep_cell ?_ y0⟩ <;> repeat (first | exact Adds.refl _ | exact hbm | apply Adds.drew | apply Adds.drewN | apply Adds.alloc | refine Adds.trans ?_ hbm)))
      ((first
        | (go_simp; go_at_call 64; refine (members_two _ fr dst _ (by go_simp) (by go_simp)).mono ?_; rintro e w' ⟨rfl, rfl⟩; simp only [hl])
        | (go_simp; go_at_call 77; refine (make_free fr _).mono ?_; rintro e wm ⟨xm, rfl, hxm, hbm⟩)
        | (go_simp; go_at_call 74; refine (change_ret B s v bs Ts a n (fr != dst) 107 78 _ _ (rfFree fr) (fun q => ⟨q.st, q.lot, dst, q.hold⟩) _ (by exact (HS.out.later A2).later (by repeat (first | exact Adds.refl _ | exact hbm | apply Adds.drew | apply Adds.drewN | apply Adds.alloc | refine Adds.trans ?_ hbm))) (by exact ref_free_ok (keep_cell (show Adds wm _ by repeat (first | exact Adds.refl _ | apply Adds.drew | apply Adds.alloc)) hxm)) (by exact clo_move_ok (keep_cell (show Adds W2 _ by repeat (first | exact Adds.refl _ | exact hbm | apply Adds.drew | apply Adds.drewN | apply Adds.alloc | refine Adds.trans ?_ hbm)) y0)) hlen).mono ?_; rintro e w9 ⟨c, rfl, hch⟩; have htch := (hch.touch).before (show Adds W2 _ by repeat (first | exact Adds.refl _ | exact hbm | apply Adds.drew | apply Adds.drewN | apply Adds.alloc | refine Adds.trans ?_ hbm)); have HCH := Lib.hid (hch.before (show Adds W2 _ by repeat (first | exact Adds.refl _ | exact hbm | apply Adds.drew | apply Adds.drewN | apply Adds.alloc | refine Adds.trans ?_ hbm))); clear hch)))
    all_goals
      go_wp2
      go_ret
      have h := HCH.out.before A2
      rw [HL.out, Bool.true_and]
      exact h

end Go.Proofs.Ytofaioabjkcaiaa
