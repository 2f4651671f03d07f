/- change. -/
import Derived.Test.YtofaioabjkcaiaaP
import Derived.Test.YtofaioabjkcaiaaR
import Derived.RangeFuncLeaves
import Derived.RangeFuncCalls
import Derived.RangeFuncBound
import Derived.OwnWalkIn
import Derived.TacticsInMore
import Derived.Deep.AppendLies
import Derived.Deep.RegionHeld3
namespace Go.Proofs.Ytofaioabjkcaiaa
open Go.RowKit

attribute [local go_sem] Oper.semAt_some

/-- What is known of the function that refuses a pocket. -/
structure Refuser (w0 : World) (g : Nat) (lb : Array Value) (rf : Pk → Int) : Prop where
  enter : ∀ (args : Array Value) (w : World), (callFunc g args).run Try.prog w = .ok (.enter g args) w
  call : ∀ (q : Pk) (w1 : World), Adds w0 w1 → Calls Try.prog g (#[q.val] ++ lb) w1 fun e w2 => e = .returned (.int .i64 (rf q)) ∧ Adds w1 w2

theorem calls_marks {f : FuncId} {fn : Func} {c : Code} {args : Array Value} {w : World} {R : Ending → World → Prop}
    (hf : Try.prog.funcs[f]? = some fn) (hb : fn.body = some c)
    (h : c.wp Try.prog (bodyPostM Fence.wide 0 Try.prog fn R) { tmps := args ++ Array.replicate (fn.ntmps - args.size) undef, defers := [] } w) : Calls Try.prog f args w R :=
  callsIn_wide.1 (callsIn_of_wp_marks (n := 0) hf hb trivial (wpIn_wide.2 h))

theorem callsIn_inRound {l n : Nat} {f : FuncId} {args : Array Value} {w : World} {R : Ending → World → Prop} (h : Calls Try.prog f args w R) : CallsIn (Fence.wide.inRound l) n Try.prog f args w R :=
  (callsIn_wide (n := n)).2 h

/-- Between two rounds of change's loop. -/
def CI (W8 : World) (r u : Nat) (uv : Value) (rf : Pk → Int) (O : Nat → Prop) (pre : List Piece) (V : World) : Prop :=
  O = (fun k => k = r) ∧ (∀ x ∈ pre, rf x.2.2 = 0) ∧ Box V r #[.int .i64 0] 45 ∧ Box V u #[uv] 134 ∧ u < W8.heap.size ∧ Adds W8 V

/-- Where a round of change's loop has returned. -/
def CX (w : World) (r : Nat) (rf : Pk → Int) (c : Code) (O : Nat → Prop) (pre : List Piece) (V : World) : Prop :=
  c = .ret ∧ O = (fun k => k = r) ∧ ∃ init x, pre = init ++ [x] ∧ rf x.2.2 ≠ 0 ∧ (∀ y ∈ init, rf y.2.2 = 0) ∧ Box V r #[.int .i64 (rf x.2.2)] 45 ∧ Adds w V

theorem adds_keeps {W V V' : World} {B : Nat} {O : Nat → Prop} (h : Adds W V) (hB : W.heap.size ≤ B) (k : Keeps B O V V') : Adds W V' :=
  ⟨k.os.trans h.os, k.tape.trans h.tape, k.output.trans h.output, Nat.le_trans h.size k.size, fun i hi => (k.same i (Nat.lt_of_lt_of_le hi h.size) (Or.inl (Nat.lt_of_lt_of_le hi hB))).trans (h.block i hi)⟩

theorem info112 : (Try.prog.info? 112).map (fun i => (i.zero, i.size, i.bytes)) = some (some (.pointer none), 1, 8) := by kernel_rfl

/-- What change gives. -/
def ChangeGot (w : World) (s : Nat) (v : Value) (bs : List Nat) (Ts : List Tree) (a c : Int) (rf : Pk → Int) (F : Pk → Pk) (e : Ending) (w' : World) : Prop :=
  (∃ k, a ≤ k ∧ k ≤ c ∧ rf ((treeOf Ts bs.length).look k) ≠ 0 ∧ (∀ j, a ≤ j → j < k → rf ((treeOf Ts bs.length).look j) = 0) ∧ e = .returned (.int .i64 (rf ((treeOf Ts bs.length).look k))) ∧ Adds w w') ∨
  ((∀ k, a ≤ k → k ≤ c → rf ((treeOf Ts bs.length).look k) = 0) ∧ e = .returned (.int .i64 0) ∧ ∃ v' b T', StockAt w'.heap.size w' s v' (bs ++ [b]) (Ts ++ [T']) ∧
    (∀ k, 1 ≤ k → k ≤ 1000000 → T'.look k = if a ≤ k ∧ k ≤ c then F ((treeOf Ts bs.length).look k) else (treeOf Ts bs.length).look k) ∧
    Grow (fun k => k = s ∨ v.ownBlock = some k) w (fun k => k = s ∨ v'.ownBlock = some k) w')

set_option maxRecDepth 100000 in
set_option maxHeartbeats 1000000 in
theorem change_ok (s : Nat) (v : Value) (bs : List Nat) (Ts : List Tree) (a n : Int) (gr ga : Nat) (lr la : Array Value) (rf : Pk → Int) (F : Pk → Pk) (w : World) (B : Nat) (hS0 : StockAt B w s v bs Ts) (hv : validB a n = true)
    (hr : Refuser w gr lr rf) (hF : Changer w ga la F) (hlen : bs.length ≤ 1000000) :
    Calls Try.prog 74 #[.pointer (some ⟨s, 0, none⟩), .agg #[.int .i64 a, .int .i64 n], .bool true, .func (.func gr) #[] lr, .func (.func ga) #[] la] w (ChangeGot w s v bs Ts a (a + n - 1) rf F) := by
  have HS := Lib.hid hS0.tight
  have HR := Lib.hid hr
  have HF := Lib.hid hF
  clear hS0 hr hF
  refine calls_marks Try.func74 rfl ?_
  simp only [Try.ntmps74, List.size_toArray, List.length_cons, List.length_nil, Nat.reduceAdd, Nat.reduceSub, Array.replicate_succ, Array.replicate_zero, List.push_toArray, List.append_toArray, List.nil_append, List.cons_append]
  have hva : 1 ≤ a ∧ a ≤ 1000000 ∧ 1 ≤ n ∧ n ≤ 1000000 - a + 1 := by unfold validB at hv; simpa using hv
  go_upto_region 1 with fail
  obtain ⟨W3, hW3⟩ : ∃ V, V = ((w.alloc (.cells #[.int .i64 a, .int .i64 n] 32)).alloc (.cells #[.func (.func gr) #[] lr] 134)).alloc (.cells #[.int .i64 0] 45) := ⟨_, rfl⟩
  have A3 : Adds w W3 := by rw [hW3]; exact (((Adds.refl w).alloc _).alloc _).alloc _
  have z3 : W3.heap.size = w.heap.size + 1 + 1 + 1 := by rw [hW3]; simp
  have X0 : Box W3 w.heap.size #[.int .i64 a, .int .i64 n] 32 := by rw [hW3]; exact ((Box.new w _ _).alloc _).alloc _
  have X1 : Box W3 (w.heap.size + 1) #[.func (.func gr) #[] lr] 134 := by rw [hW3]; have := (Box.new (w.alloc (.cells #[.int .i64 a, .int .i64 n] 32)) #[.func (.func gr) #[] lr] 134).alloc (.cells #[.int .i64 0] 45); simpa using this
  have X2 : Box W3 (w.heap.size + 1 + 1) #[.int .i64 0] 45 := by rw [hW3]; have := Box.new ((w.alloc (.cells #[.int .i64 a, .int .i64 n] 32)).alloc (.cells #[.func (.func gr) #[] lr] 134)) #[.int .i64 0] 45; simpa using this
  rw [← hW3]
  clear hW3
  have x0 := X0.cell 0
  have x1 := X0.cell 1
  simp only [List.getElem?_toArray, List.getElem?_cons_zero, List.getElem?_cons_succ] at x0 x1
  have HX0 := Lib.hid X0
  have HX1 := Lib.hid X1
  have HX2 := Lib.hid X2
  have HZ := Lib.hid z3
  clear X0 X1 X2 z3
  go_upto_region 4 with (first
    | (go_at_call 16; refine (version_any w.heap.size s v bs Ts _ (HS.out.later A3)).mono ?_; rintro e w' ⟨rfl, rfl⟩)
    | (go_at_call 104; refine (isValid_any a n _).mono ?_; rintro e w1 ⟨rfl, hb⟩)
    | (go_at_call 58; refine (tree_any w.heap.size s v bs Ts bs.length _ (HS.out.later (A3.trans hb)) (Nat.le_refl _)).mono ?_; rintro e w5 ⟨b, rfl, ht, hok, hb5⟩))
  have A5 : Adds w w5 := A3.trans (hb.trans hb5)
  have B5 : Adds W3 w5 := hb.trans hb5
  have hz := HZ.out
  have hs1 := hb.size
  have HT := Lib.hid ht
  have HK := Lib.hid hok
  have y0 := keep_cell B5 x0
  have y1 := keep_cell B5 x1
  have HB := Lib.hid hb
  have HB5 := Lib.hid hb5
  have hb5s := hb5.size
  clear ht hok x0 x1 hb hb5 hz
  go_wp2_with (first
    | (go_at_call 105; refine (endsOf_any a n _ (by omega) (by omega) (by omega) (by omega)).mono ?_; rintro e w6 ⟨rfl, hb6⟩))
  obtain ⟨W7, hW7⟩ : ∃ V, V = w6.alloc (.cells #[.int .i64 a, .int .i64 (a + n - 1)] 124) := ⟨_, rfl⟩
  have A7 : Adds w5 W7 := by rw [hW7]; exact hb6.alloc _
  have X7 : Box W7 w6.heap.size #[.int .i64 a, .int .i64 (a + n - 1)] 124 := by rw [hW7]; exact Box.new _ _ _
  have HX7 := Lib.hid X7
  rw [← hW7]
  clear hW7 X7
  refine (runs_any b a (a + n - 1) _).mono ?_
  rintro e W8 ⟨pb, nb, rfl, htw, hnb, gp, gn, hb8⟩
  have HTW := Lib.hid htw
  have HNB := Lib.hid hnb
  have hs5 := hb5s
  have s57 := A7.size
  have s78 := hb8.size
  clear htw hnb y0 y1
  go_wp2_with fail
  have hit := runs_iter b pb nb (treeOf Ts bs.length) 1 1000000 a (a + n - 1) W8 (fun k => ((k ≠ s ∧ v.ownBlock ≠ some k ∧ k < w.heap.size) ∨ w1.heap.size ≤ k) ∨ k = pb ∨ k = nb)
    (((HT.out.mono (fun k hk => Or.inl hk)).later A7).later hb8) HK.out (by omega) (by omega) (by omega) (by omega) (by omega) HTW.out HNB.out (Or.inr (Or.inl rfl)) (Or.inr (Or.inr rfl))
  have HIT := Lib.hid hit
  clear hit
  have B8 : Adds W3 W8 := (B5.trans A7).trans hb8
  have w8 : Adds w W8 := A3.trans B8
  have z8 := B8.size
  have hz := HZ.out
  refine wp_rangeFunc_iter (w0 := W8) (xs := runsT a (a + n - 1) (treeOf Ts bs.length)) (encs := Piece.encs) rfl (fun args w => by go_simp) HIT.out (Adds.refl _) (fun x => rfl)
    (CI W8 (w.heap.size + 1 + 1) (w.heap.size + 1) (.func (.func gr) #[] lr) rf) (CX w (w.heap.size + 1 + 1) rf) (fun k => k = w.heap.size + 1 + 1) ?_ ?_ ?_ ?_ ?_ ?_ ?_ ?_
  · intro k hk he
    rcases hk with (⟨_, _, h⟩ | h) | h | h <;> omega
  · rintro O pre V ⟨rfl, _, h, _⟩ k rfl; exact h.lt
  · rintro O pre V V' ⟨rfl, h1, h2, h3, h4, h5⟩ hk
    exact ⟨rfl, h1, h2.same (hk.same _ h2.lt (Or.inr rfl)), h3.same (hk.same _ h3.lt (Or.inl h4)), h4, adds_keeps h5 (Nat.le_refl _) hk⟩
  · rintro c O pre V V' ⟨h0, rfl, init, x, h1, h2, h3, h4, h5⟩ hk
    exact ⟨h0, rfl, init, x, h1, h2, h3, h4.same (hk.same _ h4.lt (Or.inr rfl)), adds_keeps h5 w8.size hk⟩
  · exact ⟨rfl, by simp, HX2.out.later B8, HX1.out.later B8, by omega, Adds.refl _⟩
  · rintro l d O pre ⟨xa, xc, xp⟩ rest V hxs hl1 hd1 hl2 hd2 nol nod ⟨rfl, h1, h2, h3, h4, h5⟩
    have HH1 := Lib.hid h1
    clear h1
    simp only [Piece.encs, List.zip_toArray, List.zip_cons_cons, List.zip_nil_right, List.foldl_toArray, List.foldl_cons, List.foldl_nil, List.setIfInBounds_toArray, List.set_cons_zero, List.set_cons_succ]
    gi_wp2_with fail
    refine ⟨(Adds.refl V).alloc _, fun V2 e1 e2 hI hk => ?_⟩
    obtain ⟨_, _, g2, g3, _, g5⟩ := hI
    have x15 : Box V2 V.heap.size #[.int .i64 xp.st, .int .i64 xp.lot, .int .i64 xp.own, .int .i64 xp.hold] 44 := (Box.new V _ _).same (e2 _ (by omega))
    have r0 := g2.cell 0
    have rf0 := g2.free 0
    have u0 := g3.cell 0
    have p0 := x15.cell 0
    have p1 := x15.cell 1
    have p2 := x15.cell 2
    have p3 := x15.cell 3
    simp only [List.getElem?_toArray, List.getElem?_cons_zero, List.getElem?_cons_succ] at r0 u0 p0 p1 p2 p3
    have HE2 := Lib.hid e2
    have HG2 := Lib.hid g2
    have HG3 := Lib.hid g3
    have h5s := h5.size
    have g5s := g5.size
    clear e1 e2 g2 g3 x15 h2 h3
    have he := HR.out.enter
    have A2 : Adds w V2 := w8.trans g5
    have nz : w.heap.size + 1 + 1 < V2.heap.size := HG2.out.lt
    by_cases hq : rf xp = 0
    · have q1 : (rf xp != 0) = false := by simp [hq]
      have q2 : (rf xp == 0) = true := by simp [hq]
      have HQ := Lib.hid hq
      clear hq
      gi_wp2_with fail
      refine ⟨trivial, rfl, (callsIn_inRound (HR.out.call xp V2 A2)).mono ?_⟩
      rintro e W9 ⟨rfl, hb9⟩
      dsimp only
      gi_wp2_with fail
      refine ⟨_, ⟨rfl, fun y hy => ?_, HG2.out.later hb9, ?_, h4, g5.trans hb9⟩, Grow.of_adds hb9 _⟩
      · rcases List.mem_append.1 hy with hy | hy
        · exact HH1.out y hy
        · rw [List.mem_singleton.1 hy]; exact HQ.out
      · exact HG3.out.later hb9
    · have q1 : (rf xp != 0) = true := by simp [hq]
      have q2 : (rf xp == 0) = false := by simp [hq]
      have HQ := Lib.hid hq
      clear hq
      gi_wp2_with fail
      refine ⟨trivial, rfl, (callsIn_inRound (HR.out.call xp V2 A2)).mono ?_⟩
      rintro e W9 ⟨rfl, hb9⟩
      dsimp only
      have R9 := HG2.out.later hb9
      have t0 := R9.cell 0
      have tf := R9.free 0
      simp only [List.getElem?_toArray, List.getElem?_cons_zero] at t0
      have HR9 := Lib.hid R9
      clear R9
      gi_wp2_with fail
      refine ⟨_, ⟨rfl, rfl, pre, (xa, xc, xp), rfl, HQ.out, HH1.out, HR9.out.set 0 _, (A2.trans hb9).set (p := ⟨w.heap.size + 1 + 1, 0, none⟩) (Nat.le_trans (Nat.le_succ _) (Nat.le_succ _)) _⟩, ⟨(Touch.of_adds hb9 (fun k => k = w.heap.size + 1 + 1)).set (p := ⟨w.heap.size + 1 + 1, 0, none⟩) rfl _, fun _ => Or.inl⟩⟩
  · rintro D O V hD ⟨rfl, h1, h2, h3, h4, h5⟩ hVD nD
    have AV : Adds w V := w8.trans h5
    have HH1 := Lib.hid h1
    have H2 := Lib.hid h2
    have HVD := Lib.hid hVD
    have hDV : D < V.heap.size := (Array.getElem?_eq_some_iff.1 hVD).1
    have hall : Hid (∀ k, a ≤ k → k ≤ a + n - 1 → rf ((treeOf Ts bs.length).look k) = 0) := Lib.hid ((runs_cover HK.out (by omega) (by omega) (by omega)).all (Q := fun p => rf p = 0) h1)
    have s0 := (HS.out.later AV).box.cell 0
    have sf := (HS.out.later AV).box.free 0
    have X7V := (HX7.out.later hb8).later h5
    have t0 := X7V.cell 0
    have t1 := X7V.cell 1
    simp only [List.getElem?_toArray, List.getElem?_cons_zero, List.getElem?_cons_succ] at s0 t0 t1
    have hsw := HS.out.box.lt
    clear h1 h2 h3 hVD X7V
    go_upto_region 10 with fail
    refine wp_region_noPanic ?_
    refine wp_region_held_drew (S := fun w' => w'.cell? ⟨w6.heap.size, 0, none⟩ = some (.int .i64 a) ∧ w'.cell? ⟨w6.heap.size, 1, none⟩ = some (.int .i64 (a + n - 1))) (by kernel_rfl) ⟨t0, t1⟩ (fun hHeld => ?_)
    refine wpAnyH_take (i := 0) (oi := ⟨some 45, _, _, _, _, _⟩) (v := ?v1) rfl (by kernel_rfl) (by kernel_rfl) (by kernel_rfl) (fun _ _ _ h => h) (Or.inl ⟨by rfl, ?hy1⟩) (by assumption) ?rest1
    case hy1 => (intro w hSw; (try dsimp only at hSw); go_simp; try with_reducible rfl)
    try simp only [Act.put, List.setIfInBounds_toArray, List.set_cons_zero, List.set_cons_succ]
    refine wpAnyH_take (i := 1) (oi := ⟨some 46, _, _, _, _, _⟩) (v := ?v2) rfl (by kernel_rfl) (by kernel_rfl) (by kernel_rfl) (fun _ _ _ h => h) (Or.inl ⟨by rfl, ?hy2⟩) (by assumption) ?rest2
    case hy2 => (intro w hSw; (try dsimp only at hSw); go_simp; try with_reducible rfl)
    try simp only [Act.put, List.setIfInBounds_toArray, List.set_cons_zero, List.set_cons_succ]
    refine wpAnyH_take (i := 2) (oi := ⟨some 47, _, _, _, _, _⟩) (v := ?v3) rfl (by kernel_rfl) (by kernel_rfl) (by kernel_rfl) (fun _ _ _ h => h) (Or.inl ⟨by rfl, ?hy3⟩) (by assumption) ?rest3
    case hy3 => (intro w hSw; (try dsimp only at hSw); go_simp; try with_reducible rfl)
    try simp only [Act.put, List.setIfInBounds_toArray, List.set_cons_zero, List.set_cons_succ]
    refine wpAnyH_take (i := 3) (oi := ⟨some 48, _, _, _, _, _⟩) (v := ?v4) rfl (by kernel_rfl) (by kernel_rfl) (by kernel_rfl) (fun _ _ _ h => h) (Or.inl ⟨by rfl, ?hy4⟩) (by assumption) ?rest4
    case hy4 => (intro w hSw; (try dsimp only at hSw); go_simp; try with_reducible rfl)
    try simp only [Act.put, List.setIfInBounds_toArray, List.set_cons_zero, List.set_cons_succ]
    refine wpAnyH_take (i := 5) (oi := ⟨some 50, _, _, _, _, _⟩) (v := ?v5) rfl (by kernel_rfl) (by kernel_rfl) (by kernel_rfl) (fun _ _ _ h => h) (Or.inl ⟨by rfl, ?hy5⟩) (by assumption) ?rest5
    case hy5 => (intro w hSw; (try dsimp only at hSw); go_simp; try with_reducible rfl)
    try simp only [Act.put, List.setIfInBounds_toArray, List.set_cons_zero, List.set_cons_succ]
    refine wpAnyH_take (i := 6) (oi := ⟨some 51, _, _, _, _, _⟩) (v := ?v6) rfl (by kernel_rfl) (by kernel_rfl) (by kernel_rfl) (fun _ _ _ h => h) (Or.inl ⟨by rfl, ?hy6⟩) (by assumption) ?rest6
    case hy6 => (intro w hSw; (try dsimp only at hSw); go_simp; try with_reducible rfl)
    try simp only [Act.put, List.setIfInBounds_toArray, List.set_cons_zero, List.set_cons_succ]
    refine wpAnyH_take (i := 7) (oi := ⟨some 52, _, _, _, _, _⟩) (v := ?v7) rfl (by kernel_rfl) (by kernel_rfl) (by kernel_rfl) (fun _ _ _ h => h) (Or.inl ⟨by rfl, ?hy7⟩) (by assumption) ?rest7
    case hy7 => (intro w hSw; (try dsimp only at hSw); go_simp; try with_reducible rfl)
    try simp only [Act.put, List.setIfInBounds_toArray, List.set_cons_zero, List.set_cons_succ]
    clear hHeld
    have s0d : V.drew.cell? ⟨s, 0, none⟩ = some v := s0
    have t0d : V.drew.cell? ⟨w6.heap.size, 0, none⟩ = some (.int .i64 a) := t0
    have t1d : V.drew.cell? ⟨w6.heap.size, 1, none⟩ = some (.int .i64 (a + n - 1)) := t1
    refine wpAnyH_ready (rs := [4, 8]) (by kernel_rfl) (by simp) ?_
    refine AllReadyH.cons (o := ⟨some 49, _, _, _, _, _⟩) rfl (fun K hK => ?_) ?_
    · go_simp
      refine hK.out _ _ ⟨t0d, t1d⟩ (fun hHeld => ?_)
      clear hK K hHeld
      try simp only [Act.put, List.setIfInBounds_toArray, List.set_cons_zero, List.set_cons_succ]
      refine wpAnyH_ready (rs := [8]) (by kernel_rfl) (by simp) ?_
      refine AllReadyH.cons (o := ⟨some 53, _, _, _, _, _⟩) rfl (fun K hK => ?_) ?_
      · go_simp
        refine (with_any ga la F a (a + n - 1) (by omega) (by omega) (by omega) 1000001 (treeOf Ts bs.length) b 1 1000000 _ (by omega) (by exact ⟨HF.out.enter, fun q w1 hw => HF.out.call q w1 (AV.drew.trans hw)⟩) (by exact (((HT.out.tree.later A7).later hb8).later h5).later (Adds.refl _).drew) HK.out (by omega) (by omega)).mono ?_
        rintro e Va ⟨b', T', rfl, hWi, hok', hlook, hba⟩
        have Ab : Adds V Va := (Adds.refl V).drew.trans hba
        have r0 := keep_cell Ab s0
        have q0 := keep_cell Ab t0
        have q1 := keep_cell Ab t1
        have HW := Lib.hid hWi
        have HOK' := Lib.hid hok'
        have HLOOK := Lib.hid hlook
        clear hWi hok' hlook
        refine hK.out _ _ ⟨q0, q1⟩ (fun hHeld => ?_)
        clear hK K hHeld
        try simp only [Act.put, List.setIfInBounds_toArray, List.set_cons_zero, List.set_cons_succ]
        refine wpAnyH_ready (rs := [9]) (by kernel_rfl) (by simp) ?_
        refine AllReadyH.cons (o := ⟨some 54, _, _, _, _, _⟩) rfl (fun K hK => ?_) ?_
        · go_simp
          obtain ⟨Vb, hVb⟩ : ∃ X, X = Va.alloc (.cells #[.pointer (some ⟨b', 0, none⟩)] 112) := ⟨_, rfl⟩
          rw [← hVb]
          have Ac : Adds Va Vb := by rw [hVb]; exact (Adds.refl _).alloc _
          have X9 : Vb.heap[Va.heap.size]? = some (.cells #[.pointer (some ⟨b', 0, none⟩)] 112 (0, 0)) := by rw [hVb]; exact Box.new _ _ _
          have r0' := keep_cell Ac r0
          have q0' := keep_cell Ac q0
          have q1' := keep_cell Ac q1
          have HX9 := Lib.hid X9
          clear hVb X9
          refine hK.out _ _ ⟨q0', q1'⟩ (fun hHeld => ?_)
          clear hK K hHeld
          try simp only [Act.put, List.setIfInBounds_toArray, List.set_cons_zero, List.set_cons_succ]
          obtain ⟨i0, hi0, hz0, hz1, hz2⟩ := info_parts info112
          have hr9 := ((HS.out.later AV).later Ab).row
          have hr10 := (hr9.kept (row := none) ⟨Ac.os, Ac.tape, Ac.output, Ac.size, fun k hk _ => Ac.block k hk⟩ (by cases h' : v.ownBlock with | none => exact .inl rfl | some k => exact .inr (by simp)))
          have HR10 := Lib.hid hr10
          have hzb := Ac.size
          have hza := Ab.size
          have hzV := AV.size
          have hslt := HS.out.box.lt
          have hsep := HS.out.sep
          have hsp : some s ≠ v.ownBlock := fun e => hsep e.symm
          have hw6 : w.heap.size + 1 + 1 < w6.heap.size := by have := HB.out.size; have := hb6.size; omega
          have hown6 : some w6.heap.size ≠ v.ownBlock := fun e => by have := (HS.out.row.lt _ e.symm).2; omega
          have hX9l : Va.heap.size < Vb.heap.size := lt_of_block HX9.out
          clear hr9 hr10 hsep
          refine wpAnyH_ready (rs := [10]) (by kernel_rfl) (by simp) ?_
          refine AllReadyH.cons (o := ⟨some 55, _, _, _, _, _⟩) rfl (fun K hK => ?_) AllReadyH.nil
          refine step_append_lies _ (by rfl) _ _ _ (by rfl) 0 112 i0 (.pointer none) 1 8 Try.underlying100 hi0 hz0 hz1 hz2 rfl (by omega) v bs.length (bs.map fun b => .pointer (some ⟨b, 0, none⟩)) (by rfl) HR10.out ⟨Va.heap.size, 0, none⟩ 1 1 [.pointer (some ⟨b', 0, none⟩)] (by rfl) (by rfl) (World.news_of_block HX9.out) (by simp [Value.oneCell']) (by omega) (by unfold maxLen; omega) (by omega) (Nat.zero_le _) Vb.heap.size rfl ?_
          intro g cap Vc hownc hgrow hgat hglt
          have HOWN := Lib.hid hownc
          have HGAT := Lib.hid hgat
          have q2 := (hgrow.cell_far ⟨w6.heap.size, 0, none⟩ (by exact cell_lt q0') hown6).trans q0'
          have q3 := (hgrow.cell_far ⟨w6.heap.size, 1, none⟩ (by exact cell_lt q0') hown6).trans q1'
          have bS : Box Vc s #[v] 102 := (((HS.out.later AV).later Ab).box.later Ac).same (hgrow.block s (by omega) hsp)
          have HBS := Lib.hid bS
          have r1 := bS.cell 0
          have rf0 := bS.free 0
          simp only [List.getElem?_toArray, List.getElem?_cons_zero] at r1
          clear hownc bS hgat
          refine hK.out _ _ ⟨q2, q3⟩ (fun hHeld => ?_)
          clear hK K
          try simp only [Act.put, List.setIfInBounds_toArray, List.set_cons_zero, List.set_cons_succ]
          refine wpAnyH_take (i := 11) (oi := ⟨some 56, _, _, _, _, _⟩) (v := ?v8) rfl (by kernel_rfl) (by kernel_rfl) (by kernel_rfl) (fun _ _ _ h => h) (Or.inl ⟨by rfl, ?hy8⟩) (by assumption) ?rest8
          case hy8 => (intro w hSw; (try dsimp only at hSw); go_simp; try with_reducible rfl)
          try simp only [Act.put, List.setIfInBounds_toArray, List.set_cons_zero, List.set_cons_succ]
          refine wpAnyH_take (i := 12) (oi := ⟨some 57, _, _, _, _, _⟩) (v := ?v9) rfl (by kernel_rfl) (by kernel_rfl) (by kernel_rfl) (fun _ _ _ h => h) (Or.inl ⟨by rfl, ?hy9⟩) (by assumption) ?rest9
          case hy9 => (intro w hSw; (try dsimp only at hSw); go_simp; try with_reducible rfl)
          try simp only [Act.put, List.setIfInBounds_toArray, List.set_cons_zero, List.set_cons_succ]
          clear hHeld
          refine wpAnyH_ready (rs := [13]) (by kernel_rfl) (by simp) ?_
          refine AllReadyH.cons (o := ⟨none, _, _, _, _, _⟩) rfl (fun K hK => ?_) AllReadyH.nil
          go_simp
          have u6 : w6.heap.size ≠ s := by omega
          refine hK.out _ _ ⟨by rw [World.cell?_setCell_far _ _ _ _ (by exact (Ne.symm u6))]; exact q2, by rw [World.cell?_setCell_far _ _ _ _ (by exact (Ne.symm u6))]; exact q3⟩ (fun hHeld => ?_)
          clear hK K hHeld
          try simp only [Act.put, List.setIfInBounds_toArray, List.set_cons_zero, List.set_cons_succ]
          refine wpAnyH_done (by kernel_rfl) ?_ _
          refine NoPanic.normal ?_
          obtain ⟨Vd, hVd⟩ : ∃ X, X = Vc.setCell ⟨s, 0, none⟩ (.slice (some ⟨g, 0, none⟩) (bs.length + 1) cap) := ⟨_, rfl⟩
          have bT : Box Vd (w.heap.size + 1 + 1) #[.int .i64 0] 45 := by rw [hVd]; exact (((H2.out.later Ab).later Ac).same (hgrow.block _ (by have := H2.out.lt; omega) (fun e => by have := (HS.out.row.lt _ e.symm).2; omega))).far (p := ⟨s, 0, none⟩) (by show w.heap.size + 1 + 1 ≠ s; omega) _
          rw [← hVd]
          have e0 := bT.cell 0
          have f0 := bT.free 0
          simp only [List.getElem?_toArray, List.getElem?_cons_zero] at e0
          have HVd := Lib.hid hVd
          clear hVd r1 rf0 bT
          go_wp2
          have hfin := change_fin HS.out AV (Nat.le_trans w8.size hD) HVD.out (by omega) H2.out Ab HW.out HOK'.out Ac HOWN.out hgrow HGAT.out (.int .i64 0)
          rw [← HVd.out] at hfin
          obtain ⟨m1, m2, m3, m4⟩ := hfin
          exact ⟨by simp, Or.inl ⟨D, _, rfl, run_takeDeferred m4, ⟨.int .i64 0, by simp [results, Try.results74, go_sem, m3], Or.inr ⟨hall.out, rfl, _, b', T', m1, HLOOK.out, m2⟩⟩⟩⟩
        exact AllReadyH.nil
      exact AllReadyH.nil
    refine AllReadyH.cons (o := ⟨some 53, _, _, _, _, _⟩) rfl (fun K hK => ?_) ?_
    · go_simp
      refine (with_any ga la F a (a + n - 1) (by omega) (by omega) (by omega) 1000001 (treeOf Ts bs.length) b 1 1000000 _ (by omega) (by exact ⟨HF.out.enter, fun q w1 hw => HF.out.call q w1 (AV.drew.trans hw)⟩) (by exact (((HT.out.tree.later A7).later hb8).later h5).later (Adds.refl _).drew) HK.out (by omega) (by omega)).mono ?_
      rintro e Va ⟨b', T', rfl, hWi, hok', hlook, hba⟩
      have Ab : Adds V Va := (Adds.refl V).drew.trans hba
      have r0 := keep_cell Ab s0
      have q0 := keep_cell Ab t0
      have q1 := keep_cell Ab t1
      have HW := Lib.hid hWi
      have HOK' := Lib.hid hok'
      have HLOOK := Lib.hid hlook
      clear hWi hok' hlook
      refine hK.out _ _ ⟨q0, q1⟩ (fun hHeld => ?_)
      clear hK K hHeld
      try simp only [Act.put, List.setIfInBounds_toArray, List.set_cons_zero, List.set_cons_succ]
      refine wpAnyH_ready (rs := [4, 9]) (by kernel_rfl) (by simp) ?_
      refine AllReadyH.cons (o := ⟨some 49, _, _, _, _, _⟩) rfl (fun K hK => ?_) ?_
      · go_simp
        refine hK.out _ _ ⟨q0, q1⟩ (fun hHeld => ?_)
        clear hK K hHeld
        try simp only [Act.put, List.setIfInBounds_toArray, List.set_cons_zero, List.set_cons_succ]
        refine wpAnyH_ready (rs := [9]) (by kernel_rfl) (by simp) ?_
        refine AllReadyH.cons (o := ⟨some 54, _, _, _, _, _⟩) rfl (fun K hK => ?_) ?_
        · go_simp
          obtain ⟨Vb, hVb⟩ : ∃ X, X = Va.alloc (.cells #[.pointer (some ⟨b', 0, none⟩)] 112) := ⟨_, rfl⟩
          rw [← hVb]
          have Ac : Adds Va Vb := by rw [hVb]; exact (Adds.refl _).alloc _
          have X9 : Vb.heap[Va.heap.size]? = some (.cells #[.pointer (some ⟨b', 0, none⟩)] 112 (0, 0)) := by rw [hVb]; exact Box.new _ _ _
          have r0' := keep_cell Ac r0
          have q0' := keep_cell Ac q0
          have q1' := keep_cell Ac q1
          have HX9 := Lib.hid X9
          clear hVb X9
          refine hK.out _ _ ⟨q0', q1'⟩ (fun hHeld => ?_)
          clear hK K hHeld
          try simp only [Act.put, List.setIfInBounds_toArray, List.set_cons_zero, List.set_cons_succ]
          obtain ⟨i0, hi0, hz0, hz1, hz2⟩ := info_parts info112
          have hr9 := ((HS.out.later AV).later Ab).row
          have hr10 := (hr9.kept (row := none) ⟨Ac.os, Ac.tape, Ac.output, Ac.size, fun k hk _ => Ac.block k hk⟩ (by cases h' : v.ownBlock with | none => exact .inl rfl | some k => exact .inr (by simp)))
          have HR10 := Lib.hid hr10
          have hzb := Ac.size
          have hza := Ab.size
          have hzV := AV.size
          have hslt := HS.out.box.lt
          have hsep := HS.out.sep
          have hsp : some s ≠ v.ownBlock := fun e => hsep e.symm
          have hw6 : w.heap.size + 1 + 1 < w6.heap.size := by have := HB.out.size; have := hb6.size; omega
          have hown6 : some w6.heap.size ≠ v.ownBlock := fun e => by have := (HS.out.row.lt _ e.symm).2; omega
          have hX9l : Va.heap.size < Vb.heap.size := lt_of_block HX9.out
          clear hr9 hr10 hsep
          refine wpAnyH_ready (rs := [10]) (by kernel_rfl) (by simp) ?_
          refine AllReadyH.cons (o := ⟨some 55, _, _, _, _, _⟩) rfl (fun K hK => ?_) AllReadyH.nil
          refine step_append_lies _ (by rfl) _ _ _ (by rfl) 0 112 i0 (.pointer none) 1 8 Try.underlying100 hi0 hz0 hz1 hz2 rfl (by omega) v bs.length (bs.map fun b => .pointer (some ⟨b, 0, none⟩)) (by rfl) HR10.out ⟨Va.heap.size, 0, none⟩ 1 1 [.pointer (some ⟨b', 0, none⟩)] (by rfl) (by rfl) (World.news_of_block HX9.out) (by simp [Value.oneCell']) (by omega) (by unfold maxLen; omega) (by omega) (Nat.zero_le _) Vb.heap.size rfl ?_
          intro g cap Vc hownc hgrow hgat hglt
          have HOWN := Lib.hid hownc
          have HGAT := Lib.hid hgat
          have q2 := (hgrow.cell_far ⟨w6.heap.size, 0, none⟩ (by exact cell_lt q0') hown6).trans q0'
          have q3 := (hgrow.cell_far ⟨w6.heap.size, 1, none⟩ (by exact cell_lt q0') hown6).trans q1'
          have bS : Box Vc s #[v] 102 := (((HS.out.later AV).later Ab).box.later Ac).same (hgrow.block s (by omega) hsp)
          have HBS := Lib.hid bS
          have r1 := bS.cell 0
          have rf0 := bS.free 0
          simp only [List.getElem?_toArray, List.getElem?_cons_zero] at r1
          clear hownc bS hgat
          refine hK.out _ _ ⟨q2, q3⟩ (fun hHeld => ?_)
          clear hK K
          try simp only [Act.put, List.setIfInBounds_toArray, List.set_cons_zero, List.set_cons_succ]
          refine wpAnyH_take (i := 11) (oi := ⟨some 56, _, _, _, _, _⟩) (v := ?v10) rfl (by kernel_rfl) (by kernel_rfl) (by kernel_rfl) (fun _ _ _ h => h) (Or.inl ⟨by rfl, ?hy10⟩) (by assumption) ?rest10
          case hy10 => (intro w hSw; (try dsimp only at hSw); go_simp; try with_reducible rfl)
          try simp only [Act.put, List.setIfInBounds_toArray, List.set_cons_zero, List.set_cons_succ]
          refine wpAnyH_take (i := 12) (oi := ⟨some 57, _, _, _, _, _⟩) (v := ?v11) rfl (by kernel_rfl) (by kernel_rfl) (by kernel_rfl) (fun _ _ _ h => h) (Or.inl ⟨by rfl, ?hy11⟩) (by assumption) ?rest11
          case hy11 => (intro w hSw; (try dsimp only at hSw); go_simp; try with_reducible rfl)
          try simp only [Act.put, List.setIfInBounds_toArray, List.set_cons_zero, List.set_cons_succ]
          clear hHeld
          refine wpAnyH_ready (rs := [13]) (by kernel_rfl) (by simp) ?_
          refine AllReadyH.cons (o := ⟨none, _, _, _, _, _⟩) rfl (fun K hK => ?_) AllReadyH.nil
          go_simp
          have u6 : w6.heap.size ≠ s := by omega
          refine hK.out _ _ ⟨by rw [World.cell?_setCell_far _ _ _ _ (by exact (Ne.symm u6))]; exact q2, by rw [World.cell?_setCell_far _ _ _ _ (by exact (Ne.symm u6))]; exact q3⟩ (fun hHeld => ?_)
          clear hK K hHeld
          try simp only [Act.put, List.setIfInBounds_toArray, List.set_cons_zero, List.set_cons_succ]
          refine wpAnyH_done (by kernel_rfl) ?_ _
          refine NoPanic.normal ?_
          obtain ⟨Vd, hVd⟩ : ∃ X, X = Vc.setCell ⟨s, 0, none⟩ (.slice (some ⟨g, 0, none⟩) (bs.length + 1) cap) := ⟨_, rfl⟩
          have bT : Box Vd (w.heap.size + 1 + 1) #[.int .i64 0] 45 := by rw [hVd]; exact (((H2.out.later Ab).later Ac).same (hgrow.block _ (by have := H2.out.lt; omega) (fun e => by have := (HS.out.row.lt _ e.symm).2; omega))).far (p := ⟨s, 0, none⟩) (by show w.heap.size + 1 + 1 ≠ s; omega) _
          rw [← hVd]
          have e0 := bT.cell 0
          have f0 := bT.free 0
          simp only [List.getElem?_toArray, List.getElem?_cons_zero] at e0
          have HVd := Lib.hid hVd
          clear hVd r1 rf0 bT
          go_wp2
          have hfin := change_fin HS.out AV (Nat.le_trans w8.size hD) HVD.out (by omega) H2.out Ab HW.out HOK'.out Ac HOWN.out hgrow HGAT.out (.int .i64 0)
          rw [← HVd.out] at hfin
          obtain ⟨m1, m2, m3, m4⟩ := hfin
          exact ⟨by simp, Or.inl ⟨D, _, rfl, run_takeDeferred m4, ⟨.int .i64 0, by simp [results, Try.results74, go_sem, m3], Or.inr ⟨hall.out, rfl, _, b', T', m1, HLOOK.out, m2⟩⟩⟩⟩
        exact AllReadyH.nil
      refine AllReadyH.cons (o := ⟨some 54, _, _, _, _, _⟩) rfl (fun K hK => ?_) ?_
      · go_simp
        obtain ⟨Vb, hVb⟩ : ∃ X, X = Va.alloc (.cells #[.pointer (some ⟨b', 0, none⟩)] 112) := ⟨_, rfl⟩
        rw [← hVb]
        have Ac : Adds Va Vb := by rw [hVb]; exact (Adds.refl _).alloc _
        have X9 : Vb.heap[Va.heap.size]? = some (.cells #[.pointer (some ⟨b', 0, none⟩)] 112 (0, 0)) := by rw [hVb]; exact Box.new _ _ _
        have r0' := keep_cell Ac r0
        have q0' := keep_cell Ac q0
        have q1' := keep_cell Ac q1
        have HX9 := Lib.hid X9
        clear hVb X9
        refine hK.out _ _ ⟨q0', q1'⟩ (fun hHeld => ?_)
        clear hK K hHeld
        try simp only [Act.put, List.setIfInBounds_toArray, List.set_cons_zero, List.set_cons_succ]
        refine wpAnyH_ready (rs := [4]) (by kernel_rfl) (by simp) ?_
        refine AllReadyH.cons (o := ⟨some 49, _, _, _, _, _⟩) rfl (fun K hK => ?_) ?_
        · go_simp
          refine hK.out _ _ ⟨q0', q1'⟩ (fun hHeld => ?_)
          clear hK K hHeld
          try simp only [Act.put, List.setIfInBounds_toArray, List.set_cons_zero, List.set_cons_succ]
          obtain ⟨i0, hi0, hz0, hz1, hz2⟩ := info_parts info112
          have hr9 := ((HS.out.later AV).later Ab).row
          have hr10 := (hr9.kept (row := none) ⟨Ac.os, Ac.tape, Ac.output, Ac.size, fun k hk _ => Ac.block k hk⟩ (by cases h' : v.ownBlock with | none => exact .inl rfl | some k => exact .inr (by simp)))
          have HR10 := Lib.hid hr10
          have hzb := Ac.size
          have hza := Ab.size
          have hzV := AV.size
          have hslt := HS.out.box.lt
          have hsep := HS.out.sep
          have hsp : some s ≠ v.ownBlock := fun e => hsep e.symm
          have hw6 : w.heap.size + 1 + 1 < w6.heap.size := by have := HB.out.size; have := hb6.size; omega
          have hown6 : some w6.heap.size ≠ v.ownBlock := fun e => by have := (HS.out.row.lt _ e.symm).2; omega
          have hX9l : Va.heap.size < Vb.heap.size := lt_of_block HX9.out
          clear hr9 hr10 hsep
          refine wpAnyH_ready (rs := [10]) (by kernel_rfl) (by simp) ?_
          refine AllReadyH.cons (o := ⟨some 55, _, _, _, _, _⟩) rfl (fun K hK => ?_) AllReadyH.nil
          refine step_append_lies _ (by rfl) _ _ _ (by rfl) 0 112 i0 (.pointer none) 1 8 Try.underlying100 hi0 hz0 hz1 hz2 rfl (by omega) v bs.length (bs.map fun b => .pointer (some ⟨b, 0, none⟩)) (by rfl) HR10.out ⟨Va.heap.size, 0, none⟩ 1 1 [.pointer (some ⟨b', 0, none⟩)] (by rfl) (by rfl) (World.news_of_block HX9.out) (by simp [Value.oneCell']) (by omega) (by unfold maxLen; omega) (by omega) (Nat.zero_le _) Vb.heap.size rfl ?_
          intro g cap Vc hownc hgrow hgat hglt
          have HOWN := Lib.hid hownc
          have HGAT := Lib.hid hgat
          have q2 := (hgrow.cell_far ⟨w6.heap.size, 0, none⟩ (by exact cell_lt q0') hown6).trans q0'
          have q3 := (hgrow.cell_far ⟨w6.heap.size, 1, none⟩ (by exact cell_lt q0') hown6).trans q1'
          have bS : Box Vc s #[v] 102 := (((HS.out.later AV).later Ab).box.later Ac).same (hgrow.block s (by omega) hsp)
          have HBS := Lib.hid bS
          have r1 := bS.cell 0
          have rf0 := bS.free 0
          simp only [List.getElem?_toArray, List.getElem?_cons_zero] at r1
          clear hownc bS hgat
          refine hK.out _ _ ⟨q2, q3⟩ (fun hHeld => ?_)
          clear hK K
          try simp only [Act.put, List.setIfInBounds_toArray, List.set_cons_zero, List.set_cons_succ]
          refine wpAnyH_take (i := 11) (oi := ⟨some 56, _, _, _, _, _⟩) (v := ?v12) rfl (by kernel_rfl) (by kernel_rfl) (by kernel_rfl) (fun _ _ _ h => h) (Or.inl ⟨by rfl, ?hy12⟩) (by assumption) ?rest12
          case hy12 => (intro w hSw; (try dsimp only at hSw); go_simp; try with_reducible rfl)
          try simp only [Act.put, List.setIfInBounds_toArray, List.set_cons_zero, List.set_cons_succ]
          refine wpAnyH_take (i := 12) (oi := ⟨some 57, _, _, _, _, _⟩) (v := ?v13) rfl (by kernel_rfl) (by kernel_rfl) (by kernel_rfl) (fun _ _ _ h => h) (Or.inl ⟨by rfl, ?hy13⟩) (by assumption) ?rest13
          case hy13 => (intro w hSw; (try dsimp only at hSw); go_simp; try with_reducible rfl)
          try simp only [Act.put, List.setIfInBounds_toArray, List.set_cons_zero, List.set_cons_succ]
          clear hHeld
          refine wpAnyH_ready (rs := [13]) (by kernel_rfl) (by simp) ?_
          refine AllReadyH.cons (o := ⟨none, _, _, _, _, _⟩) rfl (fun K hK => ?_) AllReadyH.nil
          go_simp
          have u6 : w6.heap.size ≠ s := by omega
          refine hK.out _ _ ⟨by rw [World.cell?_setCell_far _ _ _ _ (by exact (Ne.symm u6))]; exact q2, by rw [World.cell?_setCell_far _ _ _ _ (by exact (Ne.symm u6))]; exact q3⟩ (fun hHeld => ?_)
          clear hK K hHeld
          try simp only [Act.put, List.setIfInBounds_toArray, List.set_cons_zero, List.set_cons_succ]
          refine wpAnyH_done (by kernel_rfl) ?_ _
          refine NoPanic.normal ?_
          obtain ⟨Vd, hVd⟩ : ∃ X, X = Vc.setCell ⟨s, 0, none⟩ (.slice (some ⟨g, 0, none⟩) (bs.length + 1) cap) := ⟨_, rfl⟩
          have bT : Box Vd (w.heap.size + 1 + 1) #[.int .i64 0] 45 := by rw [hVd]; exact (((H2.out.later Ab).later Ac).same (hgrow.block _ (by have := H2.out.lt; omega) (fun e => by have := (HS.out.row.lt _ e.symm).2; omega))).far (p := ⟨s, 0, none⟩) (by show w.heap.size + 1 + 1 ≠ s; omega) _
          rw [← hVd]
          have e0 := bT.cell 0
          have f0 := bT.free 0
          simp only [List.getElem?_toArray, List.getElem?_cons_zero] at e0
          have HVd := Lib.hid hVd
          clear hVd r1 rf0 bT
          go_wp2
          have hfin := change_fin HS.out AV (Nat.le_trans w8.size hD) HVD.out (by omega) H2.out Ab HW.out HOK'.out Ac HOWN.out hgrow HGAT.out (.int .i64 0)
          rw [← HVd.out] at hfin
          obtain ⟨m1, m2, m3, m4⟩ := hfin
          exact ⟨by simp, Or.inl ⟨D, _, rfl, run_takeDeferred m4, ⟨.int .i64 0, by simp [results, Try.results74, go_sem, m3], Or.inr ⟨hall.out, rfl, _, b', T', m1, HLOOK.out, m2⟩⟩⟩⟩
        exact AllReadyH.nil
      exact AllReadyH.nil
    exact AllReadyH.nil
  · rintro D c O pre rest V hxs hD ⟨rfl, rfl, init, x, rfl, hx1, hx2, hb, hA⟩ hVD nD
    have hcov := runs_cover (a := a) (c := a + n - 1) HK.out (by omega) (by omega) (by omega)
    rw [← hxs, List.append_assoc] at hcov
    obtain ⟨m, c1, c2⟩ := hcov.split
    obtain ⟨d1, d2, d3, d4⟩ := c2
    have hle := c1.le
    have hle2 := d4.le
    have e0 : (treeOf Ts bs.length).look x.1 = x.2.2 := d3 x.1 (by omega) d2
    have hfin : ChangeGot w s v bs Ts a (a + n - 1) rf F (.returned (.int .i64 (rf x.2.2))) (V.putObj D (.deferred none)) := by
      refine Or.inl ⟨x.1, by omega, by omega, by rw [e0]; exact hx1, fun j j1 j2 => ?_, by rw [e0], ⟨hA.os, hA.tape, hA.output, by simp; exact hA.size, fun k hk => (World.putObj_heap_other (by have := w8.size; omega)).trans (hA.block k hk)⟩⟩
      exact c1.all (Q := fun p => rf p = 0) hx2 j j1 (by omega)
    have nDt : D ≠ w.heap.size + 1 + 1 := fun e => nD e
    have hres : (V.putObj D (.deferred none)).cell? ⟨w.heap.size + 1 + 1, 0, none⟩ = some (.int .i64 (rf x.2.2)) := by
      have := (hb.same (World.putObj_heap_other (o := .deferred none) (Ne.symm nDt))).cell 0
      simpa using this
    have HF1 := Lib.hid hfin
    have HV1 := Lib.hid hVD
    have HR1 := Lib.hid hres
    clear hfin hVD hres hb hx1 hx2 hxs d3 e0
    go_wp2
    exact ⟨by simp, Or.inl ⟨D, _, rfl, run_takeDeferred HV1.out, ⟨.int .i64 (rf x.2.2), by simp [results, Try.results74, go_sem, HR1.out], HF1.out⟩⟩⟩
end Go.Proofs.Ytofaioabjkcaiaa
