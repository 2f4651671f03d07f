/- Enter, Move and the others. -/
import Derived.Test.YtofaioabjkcaiaaW
namespace Go.Proofs.Ytofaioabjkcaiaa
open Go.RowKit

theorem members_one (g : Nat) (m : Int) (w : World) (hc : w.cell? ⟨g, 0, none⟩ = some (.int .i64 m)) :
    Calls Try.prog 64 #[.slice (some ⟨g, 0, none⟩) 1 1] w fun e w' => e = .returned (.bool (inB 1000 m)) ∧ w = w' := by
  have := areMembers_any g 1 [m] w (by simp) (fun i hi => by simp at hi; subst hi; exact hc)
  simpa [membersB] using this

theorem members_two (g : Nat) (m k : Int) (w : World) (hc : w.cell? ⟨g, 0, none⟩ = some (.int .i64 m)) (hc1 : w.cell? ⟨g, 1, none⟩ = some (.int .i64 k)) :
    Calls Try.prog 64 #[.slice (some ⟨g, 0, none⟩) 2 2] w fun e w' => e = .returned (.bool (inB 1000 m && inB 1000 k)) ∧ w = w' := by
  have := areMembers_any g 2 [m, k] w (by simp) (fun i hi => by
    have : i = 0 ∨ i = 1 := by simp at hi; omega
    rcases this with rfl | rfl
    · exact hc
    · exact hc1)
  simpa [membersB] using this

theorem ChangeAll.touch {w w' : World} {s : Nat} {v : Value} {bs : List Nat} {Ts : List Tree} {a n : Int} {r : Bool} {rf : Pk → Int} {F : Pk → Pk} {e : Ending} (h : ChangeAll w s v bs Ts a n r rf F e w') : Touch (fun k => k = s ∨ v.ownBlock = some k) w w' := by
  rcases h with ⟨h1, h2, h3⟩ | ⟨h1, ⟨k, k1, k2, k3, k4, k5, k6⟩ | ⟨k1, k2, v', b, T', k3, k4, k5⟩⟩
  · exact .of_adds h3 _
  · exact .of_adds k6 _
  · exact k5.1

/-- The same, the result laid open. -/
def ChangeRet (w : World) (s : Nat) (v : Value) (bs : List Nat) (Ts : List Tree) (a n : Int) (r : Bool) (rf : Pk → Int) (F : Pk → Pk) (e : Ending) (w' : World) : Prop :=
  ∃ c, e = .returned (.int .i64 c) ∧ ChangeAll w s v bs Ts a n r rf F (.returned (.int .i64 c)) w'

theorem change_ret (B s : Nat) (v : Value) (bs : List Nat) (Ts : List Tree) (a n : Int) (r : Bool) (gr ga : Nat) (lr la : Array Value) (rf : Pk → Int) (F : Pk → Pk) (w : World) (hS : StockAt B w s v bs Ts)
    (hr : Refuser w gr lr rf) (hF : Changer w ga la F) (hlen : bs.length ≤ 1000000) :
    Calls Try.prog 74 #[.pointer (some ⟨s, 0, none⟩), .agg #[.int .i64 a, .int .i64 n], .bool r, .func (.func gr) #[] lr, .func (.func ga) #[] la] w (ChangeRet w s v bs Ts a n r rf F) :=
  (change_any B s v bs Ts a n r gr ga lr la rf F w hS hr hF hlen).mono (fun e w' h => by
    have h' := h
    rcases h with ⟨h1, h2, h3⟩ | ⟨h1, ⟨k, k1, k2, k3, k4, k5, k6⟩ | ⟨k1, k2, v', b, T', k3, k4, k5⟩⟩
    · exact ⟨_, h2, h2 ▸ h'⟩
    · exact ⟨_, k5, k5 ▸ h'⟩
    · exact ⟨_, k2, k2 ▸ h'⟩)

theorem ref_out_ok (w : World) : Refuser w 75 #[] rfOut := ⟨fun args w => by go_simp, fun q w1 _ => ref_out q w1⟩
theorem ref_free_ok {w : World} {x : Nat} {m : Int} (hx : w.cell? ⟨x, 0, none⟩ = some (.int .i64 m)) : Refuser w 107 #[.pointer (some ⟨x, 0, none⟩)] (rfFree m) := ⟨fun args w => by go_simp, fun q w1 h => ref_free q x m w1 (keep_cell h hx)⟩
theorem ref_held_ok {w : World} {x : Nat} {m : Int} (hx : w.cell? ⟨x, 0, none⟩ = some (.int .i64 m)) : Refuser w 108 #[.pointer (some ⟨x, 0, none⟩)] (rfHeld m) := ⟨fun args w => by go_simp, fun q w1 h => ref_held q x m w1 (keep_cell h hx)⟩
theorem clo_enter_ok {w : World} {x : Nat} {m : Pk} (hx : PkAt w x m) : Changer w 76 #[.pointer (some ⟨x, 0, none⟩)] (fun _ => m) := ⟨fun args w => by go_simp, fun q w1 h => clo_enter q w1 x m ⟨keep_cell h hx.1, keep_cell h hx.2.1, keep_cell h hx.2.2.1, keep_cell h hx.2.2.2⟩⟩
theorem clo_move_ok {w : World} {x : Nat} {m : Int} (hx : w.cell? ⟨x, 0, none⟩ = some (.int .i64 m)) : Changer w 78 #[.pointer (some ⟨x, 0, none⟩)] (fun q => ⟨q.st, q.lot, m, q.hold⟩) := ⟨fun args w => by go_simp, fun q w1 h => clo_move q w1 x m (keep_cell h hx)⟩
theorem clo_pledge_ok {w : World} {x : Nat} {m : Int} (hx : w.cell? ⟨x, 0, none⟩ = some (.int .i64 m)) : Changer w 79 #[.pointer (some ⟨x, 0, none⟩)] (fun q => ⟨q.st, q.lot, q.own, m⟩) := ⟨fun args w => by go_simp, fun q w1 h => clo_pledge q w1 x m (keep_cell h hx)⟩
theorem clo_release_ok (w : World) : Changer w 81 #[] (fun q => ⟨q.st, q.lot, q.own, 0⟩) := ⟨fun args w => by go_simp, fun q w1 _ => clo_release q w1⟩
theorem clo_seize_ok {w : World} {x : Nat} {m : Int} (hx : w.cell? ⟨x, 0, none⟩ = some (.int .i64 m)) : Changer w 82 #[.pointer (some ⟨x, 0, none⟩)] (fun q => ⟨q.st, q.lot, m, 0⟩) := ⟨fun args w => by go_simp, fun q w1 h => clo_seize q w1 x m (keep_cell h hx)⟩
theorem clo_leave_ok (w : World) : Changer w 83 #[] (fun _ => ⟨2, 0, 0, 0⟩) := ⟨fun args w => by go_simp, fun q w1 _ => clo_leave q w1⟩

set_option maxRecDepth 100000 in
set_option maxHeartbeats 1000000 in
theorem enter_any (B s : Nat) (v : Value) (bs : List Nat) (Ts : List Tree) (a n lot own : Int) (w : World) (hS : StockAt B w s v bs Ts) (hlen : bs.length ≤ 1000000) :
    Calls Try.prog 32 #[.pointer (some ⟨s, 0, none⟩), .agg #[.int .i64 a, .int .i64 n], .int .i64 lot, .int .i64 own] w
      (ChangeAll w s v bs Ts a n (inB 1000000 lot && inB 1000 own) rfOut (fun _ => ⟨1, lot, own, 0⟩)) := by
  have HS := Lib.hid hS
  clear hS
  rcases Bool.eq_false_or_eq_true (inB 1000000 lot) with hl | hl
  · skip
    have HL := Lib.hid hl
    go_enter Try.func32, Try.ntmps32
    go_upto_region 2 with fail
    obtain ⟨W2, hW2⟩ : ∃ V, V = (w.alloc (.cells #[.int .i64 a, .int .i64 n] 32)).alloc (.cells #[.int .i64 1, .int .i64 lot, .int .i64 own, .int .i64 0] 44) := ⟨_, rfl⟩
    have A2 : Adds w W2 := by rw [hW2]; exact ((Adds.refl w).alloc _).alloc _
    have X0 : Box W2 w.heap.size #[.int .i64 a, .int .i64 n] 32 := by rw [hW2]; exact (Box.new w _ _).alloc _
    have X1 : Box W2 (w.heap.size + 1) #[.int .i64 1, .int .i64 lot, .int .i64 own, .int .i64 0] 44 := by rw [hW2]; have := Box.new (w.alloc (.cells #[.int .i64 a, .int .i64 n] 32)) #[.int .i64 1, .int .i64 lot, .int .i64 own, .int .i64 0] 44; simpa using this
    rw [← hW2]
    clear hW2
    have x0 := X0.cell 0
    have x1 := X0.cell 1
    simp only [List.getElem?_toArray, List.getElem?_cons_zero, List.getElem?_cons_succ] at x0 x1
    have HPK : Hid (PkAt W2 (w.heap.size + 1) ⟨1, lot, own, 0⟩) := Lib.hid ⟨by have := X1.cell 0; simpa using this, by have := X1.cell 1; simpa using this, by have := X1.cell 2; simpa using this, by have := X1.cell 3; simpa using this⟩
    have NS : Hid (¬ (w.heap.size = s ∨ v.ownBlock = some w.heap.size)) := Lib.hid (fun h => h.elim (fun h => by have := HS.out.box.lt; omega) (fun h => by have := (HS.out.row.lt _ h).2; omega))
    clear X0 X1 hl
    have hl : inB 1000000 lot = true := HL.out
    go_region_held3 (fun w' => w'.cell? ⟨w.heap.size, 0, none⟩ = some (.int .i64 a) ∧ w'.cell? ⟨w.heap.size, 1, none⟩ = some (.int .i64 n))
      (first | (go_keep; done) | ((repeat' apply And.intro) <;> go_keep) | exact ⟨touch_cell htch NS.out x0, touch_cell htch NS.out x1⟩)
      ((first
        | (go_simp; go_at_call 65; refine (isLot_any lot _).mono ?_; rintro e w' ⟨rfl, rfl⟩)
        | (go_simp; go_at_call 64; refine (members_one _ own _ (by go_simp)).mono ?_; rintro e w' ⟨rfl, rfl⟩)
        | (go_simp; go_at_call 74; refine (change_ret B s v bs Ts a n (inB 1000 own) 75 76 #[] _ rfOut (fun _ => ⟨1, lot, own, 0⟩) _ (by exact (HS.out.later A2).later (by repeat (first | exact Adds.refl _ | exact hbm | apply Adds.drew | apply Adds.drewN | apply Adds.alloc | refine Adds.trans ?_ hbm))) (ref_out_ok _) (by exact (fun h => clo_enter_ok ⟨keep_cell h HPK.out.1, keep_cell h HPK.out.2.1, keep_cell h HPK.out.2.2.1, keep_cell h HPK.out.2.2.2⟩) (by repeat (first | exact Adds.refl _ | exact hbm | apply Adds.drew | apply Adds.drewN | apply Adds.alloc | refine Adds.trans ?_ hbm))) hlen).mono ?_; rintro e w9 ⟨c, rfl, hch⟩; have htch := (hch.touch).before (show Adds W2 _ by repeat (first | exact Adds.refl _ | exact hbm | apply Adds.drew | apply Adds.drewN | apply Adds.alloc | refine Adds.trans ?_ hbm)); have HCH := Lib.hid (hch.before (show Adds W2 _ by repeat (first | exact Adds.refl _ | exact hbm | apply Adds.drew | apply Adds.drewN | apply Adds.alloc | refine Adds.trans ?_ hbm))); clear hch)))
    all_goals
      go_wp2
      go_ret
      have h := HCH.out.before A2
      rw [HL.out, Bool.true_and]
      exact h
  · skip
    have HL := Lib.hid hl
    go_enter Try.func32, Try.ntmps32
    go_upto_region 2 with fail
    obtain ⟨W2, hW2⟩ : ∃ V, V = (w.alloc (.cells #[.int .i64 a, .int .i64 n] 32)).alloc (.cells #[.int .i64 1, .int .i64 lot, .int .i64 own, .int .i64 0] 44) := ⟨_, rfl⟩
    have A2 : Adds w W2 := by rw [hW2]; exact ((Adds.refl w).alloc _).alloc _
    have X0 : Box W2 w.heap.size #[.int .i64 a, .int .i64 n] 32 := by rw [hW2]; exact (Box.new w _ _).alloc _
    have X1 : Box W2 (w.heap.size + 1) #[.int .i64 1, .int .i64 lot, .int .i64 own, .int .i64 0] 44 := by rw [hW2]; have := Box.new (w.alloc (.cells #[.int .i64 a, .int .i64 n] 32)) #[.int .i64 1, .int .i64 lot, .int .i64 own, .int .i64 0] 44; simpa using this
    rw [← hW2]
    clear hW2
    have x0 := X0.cell 0
    have x1 := X0.cell 1
    simp only [List.getElem?_toArray, List.getElem?_cons_zero, List.getElem?_cons_succ] at x0 x1
    have HPK : Hid (PkAt W2 (w.heap.size + 1) ⟨1, lot, own, 0⟩) := Lib.hid ⟨by have := X1.cell 0; simpa using this, by have := X1.cell 1; simpa using this, by have := X1.cell 2; simpa using this, by have := X1.cell 3; simpa using this⟩
    have NS : Hid (¬ (w.heap.size = s ∨ v.ownBlock = some w.heap.size)) := Lib.hid (fun h => h.elim (fun h => by have := HS.out.box.lt; omega) (fun h => by have := (HS.out.row.lt _ h).2; omega))
    clear X0 X1 hl
    have hl : inB 1000000 lot = false := HL.out
    refine wp_region_held_drew (S := (fun w' => w'.cell? ⟨w.heap.size, 0, none⟩ = some (.int .i64 a) ∧ w'.cell? ⟨w.heap.size, 1, none⟩ = some (.int .i64 n))) (by kernel_rfl) ⟨x0, x1⟩ (fun hHeld => ?_)
    refine wpAnyH_take (i := 0) (oi := ⟨some 13, _, _, _, _, _⟩) (v := ?v1) rfl (by kernel_rfl) (by kernel_rfl) (by kernel_rfl) (fun _ _ _ h => h) (Or.inl ⟨by rfl, ?hy1⟩) (by assumption) ?rest1
    case hy1 => (intro w hSw; (try dsimp only at hSw); go_simp; try with_reducible rfl)
    try simp only [Act.put, List.setIfInBounds_toArray, List.set_cons_zero, List.set_cons_succ]
    refine wpAnyH_take (i := 1) (oi := ⟨some 14, _, _, _, _, _⟩) (v := ?v2) rfl (by kernel_rfl) (by kernel_rfl) (by kernel_rfl) (fun _ _ _ h => h) (Or.inl ⟨by rfl, ?hy2⟩) (by assumption) ?rest2
    case hy2 => (intro w hSw; (try dsimp only at hSw); go_simp; try with_reducible rfl)
    try simp only [Act.put, List.setIfInBounds_toArray, List.set_cons_zero, List.set_cons_succ]
    refine wpAnyH_take (i := 2) (oi := ⟨some 15, _, _, _, _, _⟩) (v := ?v3) rfl (by kernel_rfl) (by kernel_rfl) (by kernel_rfl) (fun _ _ _ h => h) (Or.inl ⟨by rfl, ?hy3⟩) (by assumption) ?rest3
    case hy3 => (intro w hSw; (try dsimp only at hSw); go_simp; try with_reducible rfl)
    try simp only [Act.put, List.setIfInBounds_toArray, List.set_cons_zero, List.set_cons_succ]
    refine wpAnyH_take (i := 9) (oi := ⟨some 22, _, _, _, _, _⟩) (v := ?v4) rfl (by kernel_rfl) (by kernel_rfl) (by kernel_rfl) (fun _ _ _ h => h) (Or.inl ⟨by rfl, ?hy4⟩) (by assumption) ?rest4
    case hy4 => (intro w hSw; (try dsimp only at hSw); go_simp; try with_reducible rfl)
    try simp only [Act.put, List.setIfInBounds_toArray, List.set_cons_zero, List.set_cons_succ]
    refine wpAnyH_ready (rs := [3]) (by kernel_rfl) (by simp) ?_
    refine AllReadyH.cons (o := ⟨some 16, _, _, _, _, _⟩) rfl (fun K hK => ?_) AllReadyH.nil
    go_simp
    (go_at_call 65; refine (isLot_any lot _).mono ?_; rintro e w' ⟨rfl, rfl⟩; simp only [hl])
    refine hK.out _ _ ?_ (fun hHeld => ?_)
    · exact ⟨x0, x1⟩
    clear hK K
    try simp only [Act.put, List.setIfInBounds_toArray, List.set_cons_zero, List.set_cons_succ]
    refine wpAnyH_take (i := 4) (oi := ⟨some 17, _, _, _, _, _⟩) (v := ?v5) rfl (by kernel_rfl) (by kernel_rfl) (by kernel_rfl) (fun _ _ _ h => h) (Or.inl ⟨by rfl, ?hy5⟩) (by assumption) ?rest5
    case hy5 => (intro w hSw; (try dsimp only at hSw); go_simp; try with_reducible rfl)
    try simp only [Act.put, List.setIfInBounds_toArray, List.set_cons_zero, List.set_cons_succ]
    refine wpAnyH_take (i := 5) (oi := ⟨some 18, _, _, _, _, _⟩) (v := undef) rfl (by kernel_rfl) (by kernel_rfl) (by kernel_rfl) (fun _ _ _ h => h) (Or.inr ⟨by rfl, rfl⟩) (by assumption) ?_
    try simp only [Act.put, List.setIfInBounds_toArray, List.set_cons_zero, List.set_cons_succ]
    refine wpAnyH_take (i := 6) (oi := ⟨some 19, _, _, _, _, _⟩) (v := undef) rfl (by kernel_rfl) (by kernel_rfl) (by kernel_rfl) (fun _ _ _ h => h) (Or.inr ⟨by rfl, rfl⟩) (by assumption) ?_
    try simp only [Act.put, List.setIfInBounds_toArray, List.set_cons_zero, List.set_cons_succ]
    refine wpAnyH_take (i := 7) (oi := ⟨some 20, _, _, _, _, _⟩) (v := undef) rfl (by kernel_rfl) (by kernel_rfl) (by kernel_rfl) (fun _ _ _ h => h) (Or.inr ⟨by rfl, rfl⟩) (by assumption) ?_
    try simp only [Act.put, List.setIfInBounds_toArray, List.set_cons_zero, List.set_cons_succ]
    refine wpAnyH_take (i := 8) (oi := ⟨some 21, _, _, _, _, _⟩) (v := ?v6) rfl (by kernel_rfl) (by kernel_rfl) (by kernel_rfl) (fun _ _ _ h => h) (Or.inl ⟨by rfl, ?hy6⟩) (by assumption) ?rest6
    case hy6 => (intro w hSw; (try dsimp only at hSw); go_simp; try with_reducible rfl)
    try simp only [Act.put, List.setIfInBounds_toArray, List.set_cons_zero, List.set_cons_succ]
    refine wpAnyH_ready (rs := [10]) (by kernel_rfl) (by simp) ?_
    refine AllReadyH.cons (o := ⟨some 23, _, _, _, _, _⟩) rfl (fun K hK => ?_) AllReadyH.nil
    go_simp
    (refine (change_ret B s v bs Ts a n false 75 76 #[] _ rfOut (fun _ => ⟨1, lot, own, 0⟩) _ (by exact (HS.out.later A2).later (Adds.refl _).drew) (ref_out_ok _) (by exact clo_enter_ok HPK.out) hlen).mono ?_; rintro e w9 ⟨c, rfl, hch⟩; have htch := (hch.touch).before (show Adds W2 _ from (Adds.refl W2).drew); have HCH := Lib.hid (hch.before (show Adds W2 _ from (Adds.refl W2).drew)); clear hch)
    refine hK.out _ _ ?_ (fun hHeld => ?_)
    · exact ⟨touch_cell htch NS.out x0, touch_cell htch NS.out x1⟩
    clear hK K
    try simp only [Act.put, List.setIfInBounds_toArray, List.set_cons_zero, List.set_cons_succ]
    refine wpAnyH_take (i := 11) (oi := ⟨some 8, _, _, _, _, _⟩) (v := ?v7) rfl (by kernel_rfl) (by kernel_rfl) (by kernel_rfl) (fun _ _ _ h => h) (Or.inl ⟨by rfl, ?hy7⟩) (by assumption) ?rest7
    case hy7 => (intro w hSw; (try dsimp only at hSw); go_simp; try with_reducible rfl)
    try simp only [Act.put, List.setIfInBounds_toArray, List.set_cons_zero, List.set_cons_succ]
    refine wpAnyH_done (by kernel_rfl) ?_ _
    all_goals
      go_wp2
      go_ret
      have h := HCH.out.before A2
      rw [HL.out, Bool.false_and]
      exact h

end Go.Proofs.Ytofaioabjkcaiaa
