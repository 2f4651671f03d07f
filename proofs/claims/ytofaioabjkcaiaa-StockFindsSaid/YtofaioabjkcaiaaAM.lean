/- Move, Pledge, Release, Seize and Leave of a register: what each does, for any arguments. -/
import Derived.Test.YtofaioabjkcaiaaZ
namespace Go.Proofs.Ytofaioabjkcaiaa
open Go.RowKit

set_option maxRecDepth 100000 in
set_option maxHeartbeats 1000000 in
theorem pledge_any (B s : Nat) (v : Value) (bs : List Nat) (Ts : List Tree) (a n m k : Int) (w : World) (hS : StockAt B w s v bs Ts) (hlen : bs.length ≤ 1000000) :
    Calls Try.prog 34 #[.pointer (some ⟨s, 0, none⟩), .agg #[.int .i64 a, .int .i64 n], .int .i64 m, .int .i64 k] w
      (ChangeAll w s v bs Ts a n (inB 1000 m && inB 1000 k) (rfFree m) (fun q => ⟨q.st, q.lot, q.own, k⟩)) := by
  have HS := Lib.hid hS
  clear hS
  go_enter Try.func34, Try.ntmps34
  go_upto_region 1 with fail
  obtain ⟨W2, hW2⟩ : ∃ V, V = (w.alloc (.cells #[.int .i64 a, .int .i64 n] 32)).alloc (.cells #[.int .i64 k] 3) := ⟨_, rfl⟩
  have A2 : Adds w W2 := by rw [hW2]; exact ((Adds.refl w).alloc _).alloc _
  have X0 : Box W2 w.heap.size #[.int .i64 a, .int .i64 n] 32 := by rw [hW2]; exact (Box.new w _ _).alloc _
  have X1 : Box W2 (w.heap.size + 1) #[.int .i64 k] 3 := by rw [hW2]; have := Box.new (w.alloc (.cells #[.int .i64 a, .int .i64 n] 32)) #[.int .i64 k] 3; simpa using this
  rw [← hW2]
  clear hW2
  have x0 := X0.cell 0
  have x1 := X0.cell 1
  have y0 := X1.cell 0
  simp only [List.getElem?_toArray, List.getElem?_cons_zero, List.getElem?_cons_succ] at x0 x1 y0
  have NS : Hid (∀ k, w.heap.size ≤ k → ¬ (k = s ∨ v.ownBlock = some k)) := Lib.hid (fun k hk h => h.elim (fun h => by have := HS.out.box.lt; omega) (fun h => by have := (HS.out.row.lt _ h).2; omega))
  clear X0 X1
  go_region_held3 (fun w' => w'.cell? ⟨w.heap.size, 0, none⟩ = some (.int .i64 a) ∧ w'.cell? ⟨w.heap.size, 1, none⟩ = some (.int .i64 n) ∧ w'.cell? ⟨w.heap.size + 1, 0, none⟩ = some (.int .i64 k))
    (first | (go_keep; done) | (exact ⟨touch_cell htch (NS.out _ (by omega)) x0, touch_cell htch (NS.out _ (by omega)) x1, touch_cell htch (NS.out _ (by omega)) y0⟩) | ((repeat' apply And.intro) <;> go_keep) | (refine ⟨keep_cell ?_ x0, keep_cell ?_ x1, keep_cell ?_ y0⟩ <;> repeat (first | exact Adds.refl _ | exact hbm | apply Adds.drew | apply Adds.drewN | apply Adds.alloc | refine Adds.trans ?_ hbm)))
    ((first
      | (go_simp; go_at_call 64; refine (members_two _ m k _ (by go_simp) (by go_simp)).mono ?_; rintro e w' ⟨rfl, rfl⟩)
      | (go_simp; go_at_call 77; refine (make_free m _).mono ?_; rintro e wm ⟨xm, rfl, hxm, hbm⟩)
      | (go_simp; go_at_call 74; refine (change_ret B s v bs Ts a n (inB 1000 m && inB 1000 k) 107 79 _ _ (rfFree m) (fun q => ⟨q.st, q.lot, q.own, k⟩) _ (by exact (HS.out.later A2).later (by repeat (first | exact Adds.refl _ | exact hbm | apply Adds.drew | apply Adds.drewN | apply Adds.alloc | refine Adds.trans ?_ hbm))) (by exact ref_free_ok (keep_cell (show Adds wm _ by repeat (first | exact Adds.refl _ | apply Adds.drew | apply Adds.alloc)) hxm)) (by exact clo_pledge_ok (keep_cell (show Adds W2 _ by repeat (first | exact Adds.refl _ | exact hbm | apply Adds.drew | apply Adds.drewN | apply Adds.alloc | refine Adds.trans ?_ hbm)) y0)) hlen).mono ?_; rintro e w9 ⟨c, rfl, hch⟩; have htch := (hch.touch).before (show Adds W2 _ by repeat (first | exact Adds.refl _ | exact hbm | apply Adds.drew | apply Adds.drewN | apply Adds.alloc | refine Adds.trans ?_ hbm)); have HCH := Lib.hid (hch.before (show Adds W2 _ by repeat (first | exact Adds.refl _ | exact hbm | apply Adds.drew | apply Adds.drewN | apply Adds.alloc | refine Adds.trans ?_ hbm))); clear hch)))
  all_goals
    go_wp2
    go_ret
    exact HCH.out.before A2

set_option maxRecDepth 100000 in
set_option maxHeartbeats 1000000 in
theorem release_any (B s : Nat) (v : Value) (bs : List Nat) (Ts : List Tree) (a n m : Int) (w : World) (hS : StockAt B w s v bs Ts) (hlen : bs.length ≤ 1000000) :
    Calls Try.prog 35 #[.pointer (some ⟨s, 0, none⟩), .agg #[.int .i64 a, .int .i64 n], .int .i64 m] w
      (ChangeAll w s v bs Ts a n (inB 1000 m) (rfHeld m) (fun q => ⟨q.st, q.lot, q.own, 0⟩)) := by
  have HS := Lib.hid hS
  clear hS
  go_enter Try.func35, Try.ntmps35
  go_upto_region 1 with fail
  obtain ⟨W2, hW2⟩ : ∃ V, V = (w.alloc (.cells #[.int .i64 a, .int .i64 n] 32)) := ⟨_, rfl⟩
  have A2 : Adds w W2 := by rw [hW2]; exact (Adds.refl w).alloc _
  have X0 : Box W2 w.heap.size #[.int .i64 a, .int .i64 n] 32 := by rw [hW2]; exact Box.new w _ _
  rw [← hW2]
  clear hW2
  have x0 := X0.cell 0
  have x1 := X0.cell 1
  simp only [List.getElem?_toArray, List.getElem?_cons_zero, List.getElem?_cons_succ] at x0 x1
  have NS : Hid (∀ k, w.heap.size ≤ k → ¬ (k = s ∨ v.ownBlock = some k)) := Lib.hid (fun k hk h => h.elim (fun h => by have := HS.out.box.lt; omega) (fun h => by have := (HS.out.row.lt _ h).2; omega))
  clear X0
  go_region_held3 (fun w' => w'.cell? ⟨w.heap.size, 0, none⟩ = some (.int .i64 a) ∧ w'.cell? ⟨w.heap.size, 1, none⟩ = some (.int .i64 n))
    (first | (go_keep; done) | (exact ⟨touch_cell htch (NS.out _ (by omega)) x0, touch_cell htch (NS.out _ (by omega)) x1⟩) | ((repeat' apply And.intro) <;> go_keep) | (refine ⟨keep_cell ?_ x0, keep_cell ?_ x1⟩ <;> repeat (first | exact Adds.refl _ | exact hbm | apply Adds.drew | apply Adds.drewN | apply Adds.alloc | refine Adds.trans ?_ hbm)))
    ((first
      | (go_simp; go_at_call 64; refine (members_one _ m _ (by go_simp)).mono ?_; rintro e w' ⟨rfl, rfl⟩)
      | (go_simp; go_at_call 80; refine (make_held m _).mono ?_; rintro e wm ⟨xm, rfl, hxm, hbm⟩)
      | (go_simp; go_at_call 74; refine (change_ret B s v bs Ts a n (inB 1000 m) 108 81 _ #[] (rfHeld m) (fun q => ⟨q.st, q.lot, q.own, 0⟩) _ (by exact (HS.out.later A2).later (by repeat (first | exact Adds.refl _ | exact hbm | apply Adds.drew | apply Adds.drewN | apply Adds.alloc | refine Adds.trans ?_ hbm))) (by exact ref_held_ok (keep_cell (show Adds wm _ by repeat (first | exact Adds.refl _ | apply Adds.drew | apply Adds.alloc)) hxm)) (by exact clo_release_ok _) hlen).mono ?_; rintro e w9 ⟨c, rfl, hch⟩; have htch := (hch.touch).before (show Adds W2 _ by repeat (first | exact Adds.refl _ | exact hbm | apply Adds.drew | apply Adds.drewN | apply Adds.alloc | refine Adds.trans ?_ hbm)); have HCH := Lib.hid (hch.before (show Adds W2 _ by repeat (first | exact Adds.refl _ | exact hbm | apply Adds.drew | apply Adds.drewN | apply Adds.alloc | refine Adds.trans ?_ hbm))); clear hch)))
  all_goals
    go_wp2
    go_ret
    exact HCH.out.before A2

set_option maxRecDepth 100000 in
set_option maxHeartbeats 1000000 in
theorem seize_any (B s : Nat) (v : Value) (bs : List Nat) (Ts : List Tree) (a n m : Int) (w : World) (hS : StockAt B w s v bs Ts) (hlen : bs.length ≤ 1000000) :
    Calls Try.prog 36 #[.pointer (some ⟨s, 0, none⟩), .agg #[.int .i64 a, .int .i64 n], .int .i64 m] w
      (ChangeAll w s v bs Ts a n (inB 1000 m) (rfHeld m) (fun q => ⟨q.st, q.lot, m, 0⟩)) := by
  have HS := Lib.hid hS
  clear hS
  go_enter Try.func36, Try.ntmps36
  go_upto_region 1 with fail
  obtain ⟨W2, hW2⟩ : ∃ V, V = (w.alloc (.cells #[.int .i64 a, .int .i64 n] 32)).alloc (.cells #[.int .i64 m] 3) := ⟨_, rfl⟩
  have A2 : Adds w W2 := by rw [hW2]; exact ((Adds.refl w).alloc _).alloc _
  have X0 : Box W2 w.heap.size #[.int .i64 a, .int .i64 n] 32 := by rw [hW2]; exact (Box.new w _ _).alloc _
  have X1 : Box W2 (w.heap.size + 1) #[.int .i64 m] 3 := by rw [hW2]; have := Box.new (w.alloc (.cells #[.int .i64 a, .int .i64 n] 32)) #[.int .i64 m] 3; simpa using this
  rw [← hW2]
  clear hW2
  have x0 := X0.cell 0
  have x1 := X0.cell 1
  have y0 := X1.cell 0
  simp only [List.getElem?_toArray, List.getElem?_cons_zero, List.getElem?_cons_succ] at x0 x1 y0
  have NS : Hid (∀ k, w.heap.size ≤ k → ¬ (k = s ∨ v.ownBlock = some k)) := Lib.hid (fun k hk h => h.elim (fun h => by have := HS.out.box.lt; omega) (fun h => by have := (HS.out.row.lt _ h).2; omega))
  clear X0 X1
  go_region_held3 (fun w' => w'.cell? ⟨w.heap.size, 0, none⟩ = some (.int .i64 a) ∧ w'.cell? ⟨w.heap.size, 1, none⟩ = some (.int .i64 n) ∧ w'.cell? ⟨w.heap.size + 1, 0, none⟩ = some (.int .i64 m))
    (first | (go_keep; done) | (exact ⟨touch_cell htch (NS.out _ (by omega)) x0, touch_cell htch (NS.out _ (by omega)) x1, touch_cell htch (NS.out _ (by omega)) y0⟩) | ((repeat' apply And.intro) <;> go_keep) | (refine ⟨keep_cell ?_ x0, keep_cell ?_ x1, keep_cell ?_ y0⟩ <;> repeat (first | exact Adds.refl _ | exact hbm | apply Adds.drew | apply Adds.drewN | apply Adds.alloc | refine Adds.trans ?_ hbm)))
    ((first
      | (go_simp; go_at_call 64; refine (members_one _ m _ (by go_simp)).mono ?_; rintro e w' ⟨rfl, rfl⟩)
      | (go_simp; go_at_call 80; refine (make_held m _).mono ?_; rintro e wm ⟨xm, rfl, hxm, hbm⟩)
      | (go_simp; go_at_call 74; refine (change_ret B s v bs Ts a n (inB 1000 m) 108 82 _ _ (rfHeld m) (fun q => ⟨q.st, q.lot, m, 0⟩) _ (by exact (HS.out.later A2).later (by repeat (first | exact Adds.refl _ | exact hbm | apply Adds.drew | apply Adds.drewN | apply Adds.alloc | refine Adds.trans ?_ hbm))) (by exact ref_held_ok (keep_cell (show Adds wm _ by repeat (first | exact Adds.refl _ | apply Adds.drew | apply Adds.alloc)) hxm)) (by exact clo_seize_ok (keep_cell (show Adds W2 _ by repeat (first | exact Adds.refl _ | exact hbm | apply Adds.drew | apply Adds.drewN | apply Adds.alloc | refine Adds.trans ?_ hbm)) y0)) hlen).mono ?_; rintro e w9 ⟨c, rfl, hch⟩; have htch := (hch.touch).before (show Adds W2 _ by repeat (first | exact Adds.refl _ | exact hbm | apply Adds.drew | apply Adds.drewN | apply Adds.alloc | refine Adds.trans ?_ hbm)); have HCH := Lib.hid (hch.before (show Adds W2 _ by repeat (first | exact Adds.refl _ | exact hbm | apply Adds.drew | apply Adds.drewN | apply Adds.alloc | refine Adds.trans ?_ hbm))); clear hch)))
  all_goals
    go_wp2
    go_ret
    exact HCH.out.before A2

set_option maxRecDepth 100000 in
set_option maxHeartbeats 1000000 in
theorem leave_any (B s : Nat) (v : Value) (bs : List Nat) (Ts : List Tree) (a n m : Int) (w : World) (hS : StockAt B w s v bs Ts) (hlen : bs.length ≤ 1000000) :
    Calls Try.prog 37 #[.pointer (some ⟨s, 0, none⟩), .agg #[.int .i64 a, .int .i64 n], .int .i64 m] w
      (ChangeAll w s v bs Ts a n (inB 1000 m) (rfFree m) (fun _ => ⟨2, 0, 0, 0⟩)) := by
  have HS := Lib.hid hS
  clear hS
  go_enter Try.func37, Try.ntmps37
  go_upto_region 1 with fail
  obtain ⟨W2, hW2⟩ : ∃ V, V = (w.alloc (.cells #[.int .i64 a, .int .i64 n] 32)) := ⟨_, rfl⟩
  have A2 : Adds w W2 := by rw [hW2]; exact (Adds.refl w).alloc _
  have X0 : Box W2 w.heap.size #[.int .i64 a, .int .i64 n] 32 := by rw [hW2]; exact Box.new w _ _
  rw [← hW2]
  clear hW2
  have x0 := X0.cell 0
  have x1 := X0.cell 1
  simp only [List.getElem?_toArray, List.getElem?_cons_zero, List.getElem?_cons_succ] at x0 x1
  have NS : Hid (∀ k, w.heap.size ≤ k → ¬ (k = s ∨ v.ownBlock = some k)) := Lib.hid (fun k hk h => h.elim (fun h => by have := HS.out.box.lt; omega) (fun h => by have := (HS.out.row.lt _ h).2; omega))
  clear X0
  go_region_held3 (fun w' => w'.cell? ⟨w.heap.size, 0, none⟩ = some (.int .i64 a) ∧ w'.cell? ⟨w.heap.size, 1, none⟩ = some (.int .i64 n))
    (first | (go_keep; done) | (exact ⟨touch_cell htch (NS.out _ (by omega)) x0, touch_cell htch (NS.out _ (by omega)) x1⟩) | ((repeat' apply And.intro) <;> go_keep) | (refine ⟨keep_cell ?_ x0, keep_cell ?_ x1⟩ <;> repeat (first | exact Adds.refl _ | exact hbm | apply Adds.drew | apply Adds.drewN | apply Adds.alloc | refine Adds.trans ?_ hbm)))
    ((first
      | (go_simp; go_at_call 64; refine (members_one _ m _ (by go_simp)).mono ?_; rintro e w' ⟨rfl, rfl⟩)
      | (go_simp; go_at_call 77; refine (make_free m _).mono ?_; rintro e wm ⟨xm, rfl, hxm, hbm⟩)
      | (go_simp; go_at_call 74; refine (change_ret B s v bs Ts a n (inB 1000 m) 107 83 _ #[] (rfFree m) (fun _ => ⟨2, 0, 0, 0⟩) _ (by exact (HS.out.later A2).later (by repeat (first | exact Adds.refl _ | exact hbm | apply Adds.drew | apply Adds.drewN | apply Adds.alloc | refine Adds.trans ?_ hbm))) (by exact ref_free_ok (keep_cell (show Adds wm _ by repeat (first | exact Adds.refl _ | apply Adds.drew | apply Adds.alloc)) hxm)) (by exact clo_leave_ok _) hlen).mono ?_; rintro e w9 ⟨c, rfl, hch⟩; have htch := (hch.touch).before (show Adds W2 _ by repeat (first | exact Adds.refl _ | exact hbm | apply Adds.drew | apply Adds.drewN | apply Adds.alloc | refine Adds.trans ?_ hbm)); have HCH := Lib.hid (hch.before (show Adds W2 _ by repeat (first | exact Adds.refl _ | exact hbm | apply Adds.drew | apply Adds.drewN | apply Adds.alloc | refine Adds.trans ?_ hbm))); clear hch)))
  all_goals
    go_wp2
    go_ret
    exact HCH.out.before A2

set_option maxRecDepth 100000 in
set_option maxHeartbeats 2000000 in
theorem move_any (B s : Nat) (v : Value) (bs : List Nat) (Ts : List Tree) (a n fr dst : Int) (w : World) (hS : StockAt B w s v bs Ts) (hlen : bs.length ≤ 1000000) :
    Calls Try.prog 33 #[.pointer (some ⟨s, 0, none⟩), .agg #[.int .i64 a, .int .i64 n], .int .i64 fr, .int .i64 dst] w
      (ChangeAll w s v bs Ts a n ((inB 1000 fr && inB 1000 dst) && (fr != dst)) (rfFree fr) (fun q => ⟨q.st, q.lot, dst, q.hold⟩)) := by
  rcases Bool.eq_false_or_eq_true (inB 1000 fr && inB 1000 dst) with hl | hl
  · exact move_true B s v bs Ts a n fr dst w hS hlen hl
  · have HS := Lib.hid hS
    clear hS
    have HL := Lib.hid hl
    go_enter Try.func33, Try.ntmps33
    go_upto_region 1 with fail
    obtain ⟨W2, hW2⟩ : ∃ V, V = (w.alloc (.cells #[.int .i64 a, .int .i64 n] 32)).alloc (.cells #[.int .i64 dst] 3) := ⟨_, rfl⟩
    have A2 : Adds w W2 := by rw [hW2]; exact ((Adds.refl w).alloc _).alloc _
    have X0 : Box W2 w.heap.size #[.int .i64 a, .int .i64 n] 32 := by rw [hW2]; exact (Box.new w _ _).alloc _
    have X1 : Box W2 (w.heap.size + 1) #[.int .i64 dst] 3 := by rw [hW2]; have := Box.new (w.alloc (.cells #[.int .i64 a, .int .i64 n] 32)) #[.int .i64 dst] 3; simpa using this
    rw [← hW2]
    clear hW2
    have x0 := X0.cell 0
    have x1 := X0.cell 1
    have y0 := X1.cell 0
    simp only [List.getElem?_toArray, List.getElem?_cons_zero, List.getElem?_cons_succ] at x0 x1 y0
    have NS : Hid (∀ k, w.heap.size ≤ k → ¬ (k = s ∨ v.ownBlock = some k)) := Lib.hid (fun k hk h => h.elim (fun h => by have := HS.out.box.lt; omega) (fun h => by have := (HS.out.row.lt _ h).2; omega))
    clear X0 X1
    clear hl
    have hl : (inB 1000 fr && inB 1000 dst) = false := HL.out
    refine wp_region_held_drew (S := (fun w' => w'.cell? ⟨w.heap.size, 0, none⟩ = some (.int .i64 a) ∧ w'.cell? ⟨w.heap.size, 1, none⟩ = some (.int .i64 n) ∧ w'.cell? ⟨w.heap.size + 1, 0, none⟩ = some (.int .i64 dst))) (by kernel_rfl) ⟨x0, x1, y0⟩ (fun hHeld => ?_)
    refine wpAnyH_take (i := 0) (oi := ⟨some 9, _, _, _, _, _⟩) (v := ?v1) rfl (by kernel_rfl) (by kernel_rfl) (by kernel_rfl) (fun _ _ _ h => h) (Or.inl ⟨by rfl, ?hy1⟩) (by assumption) ?rest1
    case hy1 => (intro w hSw; (try dsimp only at hSw); go_simp; try with_reducible rfl)
    try simp only [Act.put, List.setIfInBounds_toArray, List.set_cons_zero, List.set_cons_succ]
    refine wpAnyH_take (i := 1) (oi := ⟨some 10, _, _, _, _, _⟩) (v := ?v2) rfl (by kernel_rfl) (by kernel_rfl) (by kernel_rfl) (fun _ _ _ h => h) (Or.inl ⟨by rfl, ?hy2⟩) (by assumption) ?rest2
    case hy2 => (intro w hSw; (try dsimp only at hSw); go_simp; try with_reducible rfl)
    try simp only [Act.put, List.setIfInBounds_toArray, List.set_cons_zero, List.set_cons_succ]
    refine wpAnyH_take (i := 2) (oi := ⟨some 11, _, _, _, _, _⟩) (v := ?v3) rfl (by kernel_rfl) (by kernel_rfl) (by kernel_rfl) (fun _ _ _ h => h) (Or.inl ⟨by rfl, ?hy3⟩) (by assumption) ?rest3
    case hy3 => (intro w hSw; (try dsimp only at hSw); go_simp; try with_reducible rfl)
    try simp only [Act.put, List.setIfInBounds_toArray, List.set_cons_zero, List.set_cons_succ]
    refine wpAnyH_take (i := 3) (oi := ⟨some 12, _, _, _, _, _⟩) (v := ?v4) rfl (by kernel_rfl) (by kernel_rfl) (by kernel_rfl) (fun _ _ _ h => h) (Or.inl ⟨by rfl, ?hy4⟩) (by assumption) ?rest4
    case hy4 => (intro w hSw; (try dsimp only at hSw); go_simp; try with_reducible rfl)
    try simp only [Act.put, List.setIfInBounds_toArray, List.set_cons_zero, List.set_cons_succ]
    refine wpAnyH_take (i := 11) (oi := ⟨some 20, _, _, _, _, _⟩) (v := ?v5) rfl (by kernel_rfl) (by kernel_rfl) (by kernel_rfl) (fun _ _ _ h => h) (Or.inl ⟨by rfl, ?hy5⟩) (by assumption) ?rest5
    case hy5 => (intro w hSw; (try dsimp only at hSw); go_simp; try with_reducible rfl)
    try simp only [Act.put, List.setIfInBounds_toArray, List.set_cons_zero, List.set_cons_succ]
    refine wpAnyH_take (i := 13) (oi := ⟨some 22, _, _, _, _, _⟩) (v := ?v6) rfl (by kernel_rfl) (by kernel_rfl) (by kernel_rfl) (fun _ _ _ h => h) (Or.inl ⟨by rfl, ?hy6⟩) (by assumption) ?rest6
    case hy6 => (intro w hSw; (try dsimp only at hSw); go_simp; try with_reducible rfl)
    try simp only [Act.put, List.setIfInBounds_toArray, List.set_cons_zero, List.set_cons_succ]
    refine wpAnyH_ready (rs := [4]) (by kernel_rfl) (by simp) ?_
    refine AllReadyH.cons (o := ⟨some 13, _, _, _, _, _⟩) rfl (fun K hK => ?_) AllReadyH.nil
    go_simp
    skip
    refine hK.out _ _ ?_ (fun hHeld => ?_)
    · (first | exact ⟨touch_cell htch (NS.out _ (by omega)) x0, touch_cell htch (NS.out _ (by omega)) x1, touch_cell htch (NS.out _ (by omega)) y0⟩ | (refine ⟨keep_cell ?_ x0, keep_cell ?_ x1, keep_cell ?_ y0⟩ <;> repeat (first | exact Adds.refl _ | exact hbm | apply Adds.drew | apply Adds.drewN | apply Adds.alloc | refine Adds.trans ?_ hbm)))
    clear hK K
    try simp only [Act.put, List.setIfInBounds_toArray, List.set_cons_zero, List.set_cons_succ]
    refine wpAnyH_ready (rs := [5]) (by kernel_rfl) (by simp) ?_
    refine AllReadyH.cons (o := ⟨some 14, _, _, _, _, _⟩) rfl (fun K hK => ?_) AllReadyH.nil
    go_simp
    (go_at_call 64; refine (members_two _ fr dst _ (by go_simp) (by go_simp)).mono ?_; rintro e w' ⟨rfl, rfl⟩; simp only [hl])
    refine hK.out _ _ ?_ (fun hHeld => ?_)
    · (first | exact ⟨touch_cell htch (NS.out _ (by omega)) x0, touch_cell htch (NS.out _ (by omega)) x1, touch_cell htch (NS.out _ (by omega)) y0⟩ | (refine ⟨keep_cell ?_ x0, keep_cell ?_ x1, keep_cell ?_ y0⟩ <;> repeat (first | exact Adds.refl _ | exact hbm | apply Adds.drew | apply Adds.drewN | apply Adds.alloc | refine Adds.trans ?_ hbm)))
    clear hK K
    try simp only [Act.put, List.setIfInBounds_toArray, List.set_cons_zero, List.set_cons_succ]
    refine wpAnyH_take (i := 6) (oi := ⟨some 15, _, _, _, _, _⟩) (v := ?v7) rfl (by kernel_rfl) (by kernel_rfl) (by kernel_rfl) (fun _ _ _ h => h) (Or.inl ⟨by rfl, ?hy7⟩) (by assumption) ?rest7
    case hy7 => (intro w hSw; (try dsimp only at hSw); go_simp; try with_reducible rfl)
    try simp only [Act.put, List.setIfInBounds_toArray, List.set_cons_zero, List.set_cons_succ]
    refine wpAnyH_take (i := 7) (oi := ⟨some 16, _, _, _, _, _⟩) (v := undef) rfl (by kernel_rfl) (by kernel_rfl) (by kernel_rfl) (fun _ _ _ h => h) (Or.inr ⟨by rfl, rfl⟩) (by assumption) ?_
    try simp only [Act.put, List.setIfInBounds_toArray, List.set_cons_zero, List.set_cons_succ]
    refine wpAnyH_take (i := 8) (oi := ⟨some 17, _, _, _, _, _⟩) (v := undef) rfl (by kernel_rfl) (by kernel_rfl) (by kernel_rfl) (fun _ _ _ h => h) (Or.inr ⟨by rfl, rfl⟩) (by assumption) ?_
    try simp only [Act.put, List.setIfInBounds_toArray, List.set_cons_zero, List.set_cons_succ]
    refine wpAnyH_take (i := 9) (oi := ⟨some 18, _, _, _, _, _⟩) (v := undef) rfl (by kernel_rfl) (by kernel_rfl) (by kernel_rfl) (fun _ _ _ h => h) (Or.inr ⟨by rfl, rfl⟩) (by assumption) ?_
    try simp only [Act.put, List.setIfInBounds_toArray, List.set_cons_zero, List.set_cons_succ]
    refine wpAnyH_take (i := 10) (oi := ⟨some 19, _, _, _, _, _⟩) (v := ?v8) rfl (by kernel_rfl) (by kernel_rfl) (by kernel_rfl) (fun _ _ _ h => h) (Or.inl ⟨by rfl, ?hy8⟩) (by assumption) ?rest8
    case hy8 => (intro w hSw; (try dsimp only at hSw); go_simp; try with_reducible rfl)
    try simp only [Act.put, List.setIfInBounds_toArray, List.set_cons_zero, List.set_cons_succ]
    refine wpAnyH_ready (rs := [12]) (by kernel_rfl) (by simp) ?_
    refine AllReadyH.cons (o := ⟨some 21, _, _, _, _, _⟩) rfl (fun K hK => ?_) AllReadyH.nil
    go_simp
    (go_at_call 77; refine (make_free fr _).mono ?_; rintro e wm ⟨xm, rfl, hxm, hbm⟩)
    refine hK.out _ _ ?_ (fun hHeld => ?_)
    · (first | exact ⟨touch_cell htch (NS.out _ (by omega)) x0, touch_cell htch (NS.out _ (by omega)) x1, touch_cell htch (NS.out _ (by omega)) y0⟩ | (refine ⟨keep_cell ?_ x0, keep_cell ?_ x1, keep_cell ?_ y0⟩ <;> repeat (first | exact Adds.refl _ | exact hbm | apply Adds.drew | apply Adds.drewN | apply Adds.alloc | refine Adds.trans ?_ hbm)))
    clear hK K
    try simp only [Act.put, List.setIfInBounds_toArray, List.set_cons_zero, List.set_cons_succ]
    refine wpAnyH_ready (rs := [14]) (by kernel_rfl) (by simp) ?_
    refine AllReadyH.cons (o := ⟨some 23, _, _, _, _, _⟩) rfl (fun K hK => ?_) AllReadyH.nil
    go_simp
    (go_at_call 74; refine (change_ret B s v bs Ts a n false 107 78 _ _ (rfFree fr) (fun q => ⟨q.st, q.lot, dst, q.hold⟩) _ (by exact (HS.out.later A2).later (by repeat (first | exact Adds.refl _ | exact hbm | apply Adds.drew | apply Adds.drewN | apply Adds.alloc | refine Adds.trans ?_ hbm))) (by exact ref_free_ok (keep_cell (show Adds wm _ by repeat (first | exact Adds.refl _ | apply Adds.drew | apply Adds.alloc)) hxm)) (by exact clo_move_ok (keep_cell (show Adds W2 _ by repeat (first | exact Adds.refl _ | exact hbm | apply Adds.drew | apply Adds.drewN | apply Adds.alloc | refine Adds.trans ?_ hbm)) y0)) hlen).mono ?_; rintro e w9 ⟨c, rfl, hch⟩; have htch := (hch.touch).before (show Adds W2 _ by repeat (first | exact Adds.refl _ | exact hbm | apply Adds.drew | apply Adds.drewN | apply Adds.alloc | refine Adds.trans ?_ hbm)); have HCH := Lib.hid (hch.before (show Adds W2 _ by repeat (first | exact Adds.refl _ | exact hbm | apply Adds.drew | apply Adds.drewN | apply Adds.alloc | refine Adds.trans ?_ hbm))); clear hch)
    refine hK.out _ _ ?_ (fun hHeld => ?_)
    · (first | exact ⟨touch_cell htch (NS.out _ (by omega)) x0, touch_cell htch (NS.out _ (by omega)) x1, touch_cell htch (NS.out _ (by omega)) y0⟩ | (refine ⟨keep_cell ?_ x0, keep_cell ?_ x1, keep_cell ?_ y0⟩ <;> repeat (first | exact Adds.refl _ | exact hbm | apply Adds.drew | apply Adds.drewN | apply Adds.alloc | refine Adds.trans ?_ hbm)))
    clear hK K
    try simp only [Act.put, List.setIfInBounds_toArray, List.set_cons_zero, List.set_cons_succ]
    refine wpAnyH_take (i := 15) (oi := ⟨some 8, _, _, _, _, _⟩) (v := ?v9) rfl (by kernel_rfl) (by kernel_rfl) (by kernel_rfl) (fun _ _ _ h => h) (Or.inl ⟨by rfl, ?hy9⟩) (by assumption) ?rest9
    case hy9 => (intro w hSw; (try dsimp only at hSw); go_simp; try with_reducible rfl)
    try simp only [Act.put, List.setIfInBounds_toArray, List.set_cons_zero, List.set_cons_succ]
    refine wpAnyH_done (by kernel_rfl) ?_ _
    all_goals
      go_wp2
      go_ret
      have h := HCH.out.before A2
      rw [HL.out, Bool.false_and]
      exact h

end Go.Proofs.Ytofaioabjkcaiaa
