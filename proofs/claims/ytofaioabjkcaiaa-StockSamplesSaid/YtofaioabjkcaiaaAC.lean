/- holds. -/
import Derived.Test.YtofaioabjkcaiaaAA
import Derived.Test.YtofaioabjkcaiaaAB
import Derived.Test.YtofaioabjkcaiaaY
namespace Go.Proofs.Ytofaioabjkcaiaa
open Go.RowKit

attribute [local go_sem] Oper.semAt_some

/-- The cells of a hold. -/
def holdCells (x : Piece) : List Value := [.int .i64 x.1, .int .i64 (x.2.1 - x.1 + 1), .int .i64 x.2.2.lot, .int .i64 x.2.2.own, .int .i64 x.2.2.hold]

/-- The pieces that are the member's. -/
def ownedBy (wh : Pk → Int) (m : Int) (l : List Piece) : List Piece := l.filter fun x => decide (wh x.2.2 = m)

theorem ownsRow_same {w w' : World} {base : Nat} {e : TypeId} {size : Nat} {v : Value} {n : Nat} {xs : List Value} (h : w.ownsRow base e size v n xs) (hb : ∀ g, v.ownBlock = some g → w'.heap[g]? = w.heap[g]?) : w'.ownsRow base e size v n xs := by
  obtain ⟨h1, h2⟩ := h
  refine ⟨h1, ?_⟩
  rcases h2 with h2 | ⟨g, cap, cur, hv, hg, hh, r⟩
  · exact Or.inl h2
  · exact Or.inr ⟨g, cap, cur, hv, hg, by rw [hb g (by rw [hv]; rfl)]; exact hh, r⟩

/-- Between two rounds of the loop. -/
def HI (w W8 : World) (lb mb ub gw : Nat) (m : Int) (wh : Pk → Int) (O : Nat → Prop) (pre : List Piece) (V : World) : Prop :=
  ∃ hv, O = (fun k => k = lb ∨ hv.ownBlock = some k) ∧ Box V lb #[hv] 48 ∧ V.ownsRow W8.heap.size 79 5 hv (ownedBy wh m pre).length ((ownedBy wh m pre).flatMap holdCells) ∧ lb < W8.heap.size ∧ mb < W8.heap.size ∧ ub < W8.heap.size ∧
    V.cell? ⟨mb, 0, none⟩ = some (.int .i64 m) ∧ V.cell? ⟨ub, 0, none⟩ = some (.func (.func gw) #[] #[]) ∧ Adds w V ∧ W8.heap.size ≤ V.heap.size

theorem HI.keeps {w W8 : World} {lb mb ub gw : Nat} {m : Int} {wh : Pk → Int} {O : Nat → Prop} {pre : List Piece} {V V' : World} (hw : w.heap.size ≤ W8.heap.size) (h : HI w W8 lb mb ub gw m wh O pre V) (hk : Keeps W8.heap.size O V V') : HI w W8 lb mb ub gw m wh O pre V' := by
  obtain ⟨hv, rfl, h1, h2, h3, h4, h5, h6, h7, h8, h9⟩ := h
  exact ⟨hv, rfl, h1.same (hk.same _ h1.lt (Or.inr (Or.inl rfl))), ownsRow_same h2 (fun g hg => hk.same g (h2.lt g hg).2 (Or.inr (Or.inr hg))), h3, h4, h5,
    (World.cell?_of_block (w := V) (a := ⟨mb, 0, none⟩) (hk.same mb (cell_lt h6) (Or.inl h4))).trans h6, (World.cell?_of_block (w := V) (a := ⟨ub, 0, none⟩) (hk.same ub (cell_lt h7) (Or.inl h5))).trans h7, adds_keeps h8 hw hk, Nat.le_trans h9 hk.size⟩

/-- The world behind the append of a hold. -/
theorem hold_fin {w W8 V2 Va Vb Vc : World} {lb mb ub gw g cap : Nat} {m : Int} {wh : Pk → Int} {hv : Value} {pre : List Piece} {x : Piece} (hx : wh x.2.2 = m) (hlw : w.heap.size ≤ lb)
    (h1 : Box V2 lb #[hv] 48) (h2 : V2.ownsRow W8.heap.size 79 5 hv (ownedBy wh m pre).length ((ownedBy wh m pre).flatMap holdCells)) (h3 : lb < W8.heap.size) (h4 : mb < W8.heap.size) (h5 : ub < W8.heap.size) (hml : mb ≠ lb) (hul : ub ≠ lb)
    (h6 : V2.cell? ⟨mb, 0, none⟩ = some (.int .i64 m)) (h7 : V2.cell? ⟨ub, 0, none⟩ = some (.func (.func gw) #[] #[])) (h8 : Adds w V2) (h9 : W8.heap.size ≤ V2.heap.size) (Aa : Adds V2 Va) (Ab : Adds Va Vb)
    (hown : Vc.ownsRow W8.heap.size 79 5 (.slice (some ⟨g, 0, none⟩) ((ownedBy wh m pre).length + 1) cap) ((ownedBy wh m pre).length + 1) ((ownedBy wh m pre).flatMap holdCells ++ holdCells x))
    (hgrow : Vb.grownBy Vc hv.ownBlock) (hgat : hv.ownBlock = some g ∨ g = Vb.heap.size) :
    ∃ O', HI w W8 lb mb ub gw m wh O' (pre ++ [x]) (Vc.setCell ⟨lb, 0, none⟩ (.slice (some ⟨g, 0, none⟩) ((ownedBy wh m pre).length + 1) cap)) ∧
      Grow (fun k => k = lb ∨ hv.ownBlock = some k) V2 O' (Vc.setCell ⟨lb, 0, none⟩ (.slice (some ⟨g, 0, none⟩) ((ownedBy wh m pre).length + 1) cap)) := by
  have z1 := Aa.size
  have z2 := Ab.size
  have z3 := hgrow.size
  have ho : ownedBy wh m (pre ++ [x]) = ownedBy wh m pre ++ [x] := by simp [ownedBy, hx]
  have hown2 : ∀ k, hv.ownBlock = some k → W8.heap.size ≤ k ∧ k < V2.heap.size := fun k hk => h2.lt k hk
  have ngl : ∀ k, k < W8.heap.size → some k ≠ hv.ownBlock := fun k hk e => by have := (hown2 k e.symm).1; omega
  have hg8 : W8.heap.size ≤ g := by rcases hgat with h | h; exact (hown2 g h).1; omega
  have A2 := Aa.trans Ab
  have cmb : Vc.cell? ⟨mb, 0, none⟩ = some (.int .i64 m) := (hgrow.cell_far ⟨mb, 0, none⟩ (by show mb < _; omega) (ngl mb h4)).trans (keep_cell A2 h6)
  have cub : Vc.cell? ⟨ub, 0, none⟩ = some (.func (.func gw) #[] #[]) := (hgrow.cell_far ⟨ub, 0, none⟩ (by show ub < _; omega) (ngl ub h5)).trans (keep_cell A2 h7)
  have bL : Box Vc lb #[hv] 48 := (h1.later A2).same (hgrow.block lb (by omega) (ngl lb h3))
  refine ⟨fun k => k = lb ∨ (Value.slice (some ⟨g, 0, none⟩) ((ownedBy wh m pre).length + 1) cap).ownBlock = some k, ⟨_, rfl, ?_, ?_, h3, h4, h5, ?_, ?_, ?_, ?_⟩, ⟨⟨?_, ?_, ?_, ?_, ?_⟩, ?_⟩⟩
  · exact bL.set 0 _
  · rw [ho]
    have := ownsRow_setCell_other hown (a := ⟨lb, 0, none⟩) (by simp [Value.ownBlock]; omega) (.slice (some ⟨g, 0, none⟩) ((ownedBy wh m pre).length + 1) cap)
    simpa using this
  · rw [World.cell?_setCell_far _ _ _ _ (by exact (Ne.symm hml))]; exact cmb
  · rw [World.cell?_setCell_far _ _ _ _ (by exact (Ne.symm hul))]; exact cub
  · refine Adds.set (a := w) (b := Vc) ⟨hgrow.os.trans (A2.os.trans h8.os), hgrow.tape.trans (A2.tape.trans h8.tape), hgrow.output.trans (A2.output.trans h8.output), by have := h8.size; omega, fun k hk => ?_⟩ hlw _
    have := h8.size
    rw [hgrow.block k (by omega) (fun e => by have := (hown2 k e.symm).1; omega), A2.block k (by omega)]
    exact h8.block k hk
  · simp [World.setCell]; omega
  · exact hgrow.os.trans A2.os
  · exact hgrow.tape.trans A2.tape
  · exact hgrow.output.trans A2.output
  · simp [World.setCell]; omega
  · intro k hk hn
    rw [Below.heap_setCell _ _ _ _ (fun e => hn (Or.inl e)), hgrow.block k (by omega) (fun e => hn (Or.inr e.symm))]
    exact A2.block k hk
  · rintro k (hk | hk)
    · exact Or.inl (Or.inl hk)
    · simp only [Value.ownBlock, Option.some.injEq] at hk
      subst hk
      rcases hgat with h | h
      · exact Or.inl (Or.inr h)
      · exact Or.inr (by omega)

theorem Cover.length {f : Int → Pk} : ∀ {l : List Piece} {a c : Int}, Cover f a c l → (l.length : Int) ≤ c + 1 - a
  | [], a, c, h => by have : c + 1 = a := h; simp; omega
  | x :: l, a, c, ⟨h1, h2, _, h4⟩ => by have := h4.length; simp; omega

theorem IsTree.root {w : World} {b : Nat} {t : Tree} {lo hi : Int} (h : IsTree w b t) (hok : t.ok lo hi) : TwoAt w b lo hi := by
  cases t with
  | leaf => obtain ⟨rfl, rfl, _⟩ := hok; exact ⟨h.1, h.2.1⟩
  | node => obtain ⟨rfl, rfl, _⟩ := hok; obtain ⟨_, _, h, _⟩ := h; exact ⟨h.1, h.2.1⟩

/-- What is known of the function that names a member. -/
structure Namer (w0 : World) (g : Nat) (wh : Pk → Int) : Prop where
  enter : ∀ (args : Array Value) (w : World), (callFunc g args).run Try.prog w = .ok (.enter g args) w
  call : ∀ (q : Pk) (w1 : World), Adds w0 w1 → Calls Try.prog g #[q.val] w1 fun e w2 => e = .returned (.int .i64 (wh q)) ∧ Adds w1 w2

theorem info79 : (Try.prog.info? 79).map (fun i => (i.zero, i.size, i.bytes)) = some (some (.agg #[.int .i64 0, .int .i64 0, .int .i64 0, .int .i64 0, .int .i64 0]), 5, 40) := by kernel_rfl

/-- What holds returns where there are holds to return. -/
def HoldsGot (w : World) (hs : List Piece) (e : Ending) (w' : World) : Prop :=
  ∃ hv, e = .returned (.tuple #[hv, .int .i64 0]) ∧ w'.ownsRow w.heap.size 79 5 hv hs.length (hs.flatMap holdCells) ∧ Adds w w'

set_option maxRecDepth 100000 in
set_option maxHeartbeats 2000000 in
theorem holds_ok (B s gw : Nat) (v : Value) (bs : List Nat) (Ts : List Tree) (m : Int) (ver : Nat) (wh : Pk → Int) (w : World) (hS0 : StockAt B w s v bs Ts) (hver : ver ≤ bs.length) (hm : inB 1000 m = true) (hW : Namer w gw wh) :
    Calls Try.prog 61 #[.pointer (some ⟨s, 0, none⟩), .int .i64 m, .int .i64 ver, .func (.func gw) #[] #[]] w (HoldsGot w (ownedBy wh m (runsT 1 1000000 (treeOf Ts ver)))) := by
  have HS := Lib.hid hS0.tight
  have HW := Lib.hid hW
  have HM := Lib.hid hm
  clear hS0 hW hm
  refine calls_marks Try.func61 rfl ?_
  simp only [Try.ntmps61, List.size_toArray, List.length_cons, List.length_nil, Nat.reduceAdd, Nat.reduceSub, Array.replicate_succ, Array.replicate_zero, List.push_toArray, List.append_toArray, List.nil_append, List.cons_append]
  go_upto_region 1 with fail
  obtain ⟨W3, hW3⟩ : ∃ V, V = (w.alloc (.cells #[.int .i64 m] 3)).alloc (.cells #[.func (.func gw) #[] #[]] 118) := ⟨_, rfl⟩
  have A3 : Adds w W3 := by rw [hW3]; exact ((Adds.refl w).alloc _).alloc _
  have z3 : W3.heap.size = w.heap.size + 1 + 1 := by rw [hW3]; simp
  have X0 : Box W3 w.heap.size #[.int .i64 m] 3 := by rw [hW3]; exact (Box.new w _ _).alloc _
  have X1 : Box W3 (w.heap.size + 1) #[.func (.func gw) #[] #[]] 118 := by rw [hW3]; have := Box.new (w.alloc (.cells #[.int .i64 m] 3)) #[.func (.func gw) #[] #[]] 118; simpa using this
  rw [← hW3]
  clear hW3
  have x0 := X0.cell 0
  simp only [List.getElem?_toArray, List.getElem?_cons_zero] at x0
  have HX0 := Lib.hid X0
  have HX1 := Lib.hid X1
  have HZ := Lib.hid z3
  clear X0 X1 z3
  have hm1 : inB 1000 m = true := HM.out
  go_upto_region 4 with (first
    | (go_at_call 64; refine (members_one _ m _ (by go_simp)).mono ?_; rintro e w' ⟨rfl, rfl⟩; simp only [hm1])
    | (go_at_call 58; refine (tree_any w.heap.size s v bs Ts ver _ (HS.out.later (A3.alloc _)) hver).mono ?_; rintro e w5 ⟨b, rfl, ht, hok, hb5⟩))
  obtain ⟨W6, hW6⟩ : ∃ V, V = w5.alloc (.cells #[.slice none 0 0] 48) := ⟨_, rfl⟩
  have A5 : Adds W3 w5 := ((Adds.refl W3).alloc _).trans hb5
  have A6 : Adds w5 W6 := by rw [hW6]; exact (Adds.refl _).alloc _
  have X6 : Box W6 w5.heap.size #[.slice none 0 0] 48 := by rw [hW6]; exact Box.new _ _ _
  have HX6 := Lib.hid X6
  have HT := Lib.hid ht
  have HK := Lib.hid hok
  obtain ⟨t0, t1⟩ := (ht.tree.later A6).root hok
  have z5 := A5.size
  have z6 := A6.size
  have z6' := X6.lt
  clear ht hok X6
  go_upto_region 5 with fail
  rw [← hW6]
  clear hW6
  go_wp2_with fail
  refine (runs_any b 1 1000000 _).mono ?_
  rintro e W8 ⟨pb, nb, rfl, htw, hnb, gp, gn, hb8⟩
  have HTW := Lib.hid htw
  have HNB := Lib.hid hnb
  have hzz := HZ.out
  have z8 := hb8.size
  have zt := A3.size
  have hb5z := hb5.size
  clear htw hnb t0 t1
  simp only [World.size_alloc] at hb5z
  go_wp2_with fail
  have hit := runs_iter b pb nb (treeOf Ts ver) 1 1000000 1 1000000 W8 (fun k => ((k ≠ s ∧ v.ownBlock ≠ some k ∧ k < w.heap.size) ∨ (W3.heap.size + 1 ≤ k ∧ k < w5.heap.size)) ∨ k = pb ∨ k = nb)
    ((((HT.out.lt.mono (fun k hk => Or.inl (hk.1.imp id (fun h => ⟨by simpa using h, hk.2⟩)))).later A6).later hb8)) HK.out (by omega) (by omega) (by omega) (by omega) (by omega) HTW.out HNB.out (Or.inr (Or.inl rfl)) (Or.inr (Or.inr rfl))
  have HIT := Lib.hid hit
  clear hit
  have B8 : Adds W3 W8 := (A5.trans A6).trans hb8
  have w8 : Adds w W8 := A3.trans B8
  have HW8 := Lib.hid w8
  refine wp_rangeFunc_iter (w0 := W8) (xs := runsT 1 1000000 (treeOf Ts ver)) (encs := Piece.encs) rfl (fun args w => by go_simp) HIT.out (Adds.refl _) (fun x => rfl)
    (HI w W8 w5.heap.size w.heap.size (w.heap.size + 1) gw m wh) (fun _ _ _ _ => False) (fun k => k = w5.heap.size) ?_ ?_ ?_ ?_ ?_ ?_ ?_ ?_
  · intro k hk he
    rcases hk with (⟨_, _, h⟩ | h) | h | h <;> omega
  · rintro O pre V ⟨hv, rfl, h1, h2, _⟩ k (rfl | hk)
    · exact h1.lt
    · exact (h2.lt k hk).2
  · intro O pre V V' h hk
    exact h.keeps w8.size hk
  · intro c O pre V V' h _; exact h
  · refine ⟨.slice none 0 0, by funext k; simp [Value.ownBlock], HX6.out.later hb8, World.ownsRow_nil _ _ _ _, by omega, by omega, by omega, ?_, ?_, w8, Nat.le_refl _⟩
    · have := (HX0.out.later B8).cell 0; simpa using this
    · have := (HX1.out.later B8).cell 0; simpa using this
  · rintro l d O pre ⟨xa, xc, xp⟩ rest V hxs hl1 hd1 hl2 hd2 nol nod hI0
    have hcov := runs_cover (a := 1) (c := 1000000) HK.out (by omega) (by omega) (by omega)
    rw [← hxs] at hcov
    obtain ⟨mm, c1, c2⟩ := hcov.split
    obtain ⟨d1, d2, d3, d4⟩ := c2
    have hle := c1.le
    have hle2 := d4.le
    simp only at d1 d2 hle2
    have hxa : 1 ≤ xa := by omega
    have hxc : xc ≤ 1000000 := by omega
    have HPL : Hid (pre.length ≤ 1000000) := Lib.hid (by have := c1.length; omega)
    clear hcov c1 d3 d4 hle hle2 d1
    have HXS := Lib.hid hxs
    clear hxs
    have hV8 : W8.heap.size ≤ V.heap.size := by obtain ⟨_, _, _, _, _, _, _, _, _, _, h⟩ := hI0; exact h
    have HI0 := Lib.hid hI0
    clear hI0
    simp only [Piece.encs, List.zip_toArray, List.zip_cons_cons, List.zip_nil_right, List.foldl_toArray, List.foldl_cons, List.foldl_nil, List.setIfInBounds_toArray, List.set_cons_zero, List.set_cons_succ]
    gi_wp2_with fail
    refine ⟨((Adds.refl V).alloc _).alloc _, fun V2 e1 e2 hI hk => ?_⟩
    obtain ⟨hv, rfl, h1, h2, h3, h4, h5, cm, cu, h8, h9⟩ := hI
    have x13 : Box V2 V.heap.size #[.int .i64 xa, .int .i64 xc] 124 := ((Box.new V #[.int .i64 xa, .int .i64 xc] 124).alloc (.cells #[.int .i64 xp.st, .int .i64 xp.lot, .int .i64 xp.own, .int .i64 xp.hold] 44)).same (e2 _ (by omega))
    have x14 : Box V2 (V.heap.size + 1) #[.int .i64 xp.st, .int .i64 xp.lot, .int .i64 xp.own, .int .i64 xp.hold] 44 := by
      have h := Box.new (V.alloc (.cells #[.int .i64 xa, .int .i64 xc] 124)) #[.int .i64 xp.st, .int .i64 xp.lot, .int .i64 xp.own, .int .i64 xp.hold] 44
      have h' := h.same (e2 _ (by simp; omega))
      simpa using h'
    have l0 := h1.cell 0
    have lf := h1.free 0
    have q0 := x13.cell 0
    have q1 := x13.cell 1
    have p0 := x14.cell 0
    have p1 := x14.cell 1
    have p2 := x14.cell 2
    have p3 := x14.cell 3
    simp only [List.getElem?_toArray, List.getElem?_cons_zero, List.getElem?_cons_succ] at l0 q0 q1 p0 p1 p2 p3
    have H1 := Lib.hid h1
    have H2 := Lib.hid h2
    have HA2 := Lib.hid h8
    have HNW := Lib.hid (show w.heap.size ≠ w5.heap.size ∧ w.heap.size + 1 ≠ w5.heap.size by omega)
    have HE1 := Lib.hid e1
    have HOV : Hid (∀ k, hv.ownBlock = some k → k < V.heap.size) := Lib.hid (fun k hk => by
      have hgk := h2.lt k hk
      obtain ⟨hv', hO, g1, g2, _⟩ := HI0.out
      have : (fun k => k = w5.heap.size ∨ hv.ownBlock = some k) k := Or.inr hk
      rw [hO] at this
      rcases this with h | h
      · omega
      · exact (g2.lt k h).2)
    have HLEN : Hid ((ownedBy wh m pre).length ≤ 1000000) := Lib.hid (by
      have a1 : (ownedBy wh m pre).length ≤ pre.length := List.length_filter_le _ _
      have a2 : pre.length ≤ 1000000 := HPL.out
      omega)
    clear e1 e2 h1 h2 x13 x14
    have he := HW.out.enter
    gi_wp2_with fail
    by_cases hq : wh xp = m
    · have k1 : (wh xp == m) = true := by simp [hq]
      have HQ := Lib.hid hq
      clear hq
      refine wpIn_region_held_drew (S := fun w' => w'.cell? ⟨w.heap.size + 1, 0, none⟩ = some (.func (.func gw) #[] #[]) ∧ w'.cell? ⟨w.heap.size, 0, none⟩ = some (.int .i64 m) ∧ w'.cell? ⟨V.heap.size + 1, 0, none⟩ = some (.int .i64 xp.st) ∧ w'.cell? ⟨V.heap.size + 1, 1, none⟩ = some (.int .i64 xp.lot) ∧ w'.cell? ⟨V.heap.size + 1, 2, none⟩ = some (.int .i64 xp.own) ∧ w'.cell? ⟨V.heap.size + 1, 3, none⟩ = some (.int .i64 xp.hold)) (by kernel_rfl) (by kernel_rfl) (by rintro ⟨_, _, h⟩; exact h) ⟨cu, cm, p0, p1, p2, p3⟩ (fun hHeld => ?_)
      refine wpAnyH_take (i := 0) (oi := ⟨some 35, _, _, _, _, _⟩) (v := ?v1) rfl (by kernel_rfl) (by kernel_rfl) (by kernel_rfl) (fun _ _ _ h => h) (Or.inl ⟨by rfl, ?hy1⟩) (by assumption) ?rest1
      case hy1 => (intro w hSw; (try dsimp only at hSw); go_simp; try with_reducible rfl)
      try simp only [Act.put, List.setIfInBounds_toArray, List.set_cons_zero, List.set_cons_succ]
      refine wpAnyH_take (i := 1) (oi := ⟨some 36, _, _, _, _, _⟩) (v := ?v2) rfl (by kernel_rfl) (by kernel_rfl) (by kernel_rfl) (fun _ _ _ h => h) (Or.inl ⟨by rfl, ?hy2⟩) (by assumption) ?rest2
      case hy2 => (intro w hSw; (try dsimp only at hSw); go_simp; try with_reducible rfl)
      try simp only [Act.put, List.setIfInBounds_toArray, List.set_cons_zero, List.set_cons_succ]
      refine wpAnyH_take (i := 3) (oi := ⟨some 38, _, _, _, _, _⟩) (v := ?v3) rfl (by kernel_rfl) (by kernel_rfl) (by kernel_rfl) (fun _ _ _ h => h) (Or.inl ⟨by rfl, ?hy3⟩) (by assumption) ?rest3
      case hy3 => (intro w hSw; (try dsimp only at hSw); go_simp; try with_reducible rfl)
      try simp only [Act.put, List.setIfInBounds_toArray, List.set_cons_zero, List.set_cons_succ]
      refine wpAnyH_ready (rs := [2]) (by kernel_rfl) (by simp) ?_
      refine AllReadyH.cons (o := ⟨some 37, _, _, _, _, _⟩) rfl (fun K hK => ?_) AllReadyH.nil
      go_simp
      (refine (HW.out.call xp _ (by exact (HA2.out).drew)).mono ?_; rintro e Ve ⟨rfl, hbe⟩)
      refine hK.out _ _ ?_ (fun hHeld => ?_)
      · exact ⟨keep_cell ((Adds.refl V2).drew.trans hbe) cu, keep_cell ((Adds.refl V2).drew.trans hbe) cm, keep_cell ((Adds.refl V2).drew.trans hbe) p0, keep_cell ((Adds.refl V2).drew.trans hbe) p1, keep_cell ((Adds.refl V2).drew.trans hbe) p2, keep_cell ((Adds.refl V2).drew.trans hbe) p3⟩
      clear hK K
      try simp only [Act.put, List.setIfInBounds_toArray, List.set_cons_zero, List.set_cons_succ]
      refine wpAnyH_take (i := 4) (oi := ⟨some 39, _, _, _, _, _⟩) (v := ?v4) rfl (by kernel_rfl) (by kernel_rfl) (by kernel_rfl) (fun _ _ _ h => h) (Or.inl ⟨by rfl, ?hy4⟩) (by assumption) ?rest4
      case hy4 => (intro w hSw; (try dsimp only at hSw); go_simp; try with_reducible rfl)
      try simp only [Act.put, List.setIfInBounds_toArray, List.set_cons_zero, List.set_cons_succ]
      refine wpAnyH_done (by kernel_rfl) ?_ _
      have hbb : Adds V2 Ve := (Adds.refl V2).drew.trans hbe
      have a0 := keep_cell hbb q0
      have a1 := keep_cell hbb q1
      have a3 := keep_cell hbb p1
      have a4 := keep_cell hbb p2
      have a5 := keep_cell hbb p3
      have l1 := keep_cell hbb l0
      clear hHeld
      gi_wp2_with fail
      refine wpIn_region_held_drew (S := fun w' => w'.cell? ⟨V.heap.size, 0, none⟩ = some (.int .i64 xa) ∧ w'.cell? ⟨V.heap.size, 1, none⟩ = some (.int .i64 xc) ∧ w'.cell? ⟨V.heap.size + 1, 1, none⟩ = some (.int .i64 xp.lot) ∧ w'.cell? ⟨V.heap.size + 1, 2, none⟩ = some (.int .i64 xp.own) ∧ w'.cell? ⟨V.heap.size + 1, 3, none⟩ = some (.int .i64 xp.hold)) (by kernel_rfl) (by kernel_rfl) (by rintro ⟨_, _, h⟩; exact h) ⟨a0, a1, a3, a4, a5⟩ (fun hHeld => ?_)
      refine wpAnyH_take (i := 1) (oi := ⟨some 41, _, _, _, _, _⟩) (v := ?v5) rfl (by kernel_rfl) (by kernel_rfl) (by kernel_rfl) (fun _ _ _ h => h) (Or.inl ⟨by rfl, ?hy5⟩) (by assumption) ?rest5
      case hy5 => (intro w hSw; (try dsimp only at hSw); go_simp; try with_reducible rfl)
      try simp only [Act.put, List.setIfInBounds_toArray, List.set_cons_zero, List.set_cons_succ]
      refine wpAnyH_take (i := 3) (oi := ⟨some 43, _, _, _, _, _⟩) (v := ?v6) rfl (by kernel_rfl) (by kernel_rfl) (by kernel_rfl) (fun _ _ _ h => h) (Or.inl ⟨by rfl, ?hy6⟩) (by assumption) ?rest6
      case hy6 => (intro w hSw; (try dsimp only at hSw); go_simp; try with_reducible rfl)
      try simp only [Act.put, List.setIfInBounds_toArray, List.set_cons_zero, List.set_cons_succ]
      refine wpAnyH_take (i := 4) (oi := ⟨some 44, _, _, _, _, _⟩) (v := ?v7) rfl (by kernel_rfl) (by kernel_rfl) (by kernel_rfl) (fun _ _ _ h => h) (Or.inl ⟨by rfl, ?hy7⟩) (by assumption) ?rest7
      case hy7 => (intro w hSw; (try dsimp only at hSw); go_simp; try with_reducible rfl)
      try simp only [Act.put, List.setIfInBounds_toArray, List.set_cons_zero, List.set_cons_succ]
      refine wpAnyH_take (i := 5) (oi := ⟨some 45, _, _, _, _, _⟩) (v := ?v8) rfl (by kernel_rfl) (by kernel_rfl) (by kernel_rfl) (fun _ _ _ h => h) (Or.inl ⟨by rfl, ?hy8⟩) (by assumption) ?rest8
      case hy8 => (intro w hSw; (try dsimp only at hSw); go_simp; try with_reducible rfl)
      try simp only [Act.put, List.setIfInBounds_toArray, List.set_cons_zero, List.set_cons_succ]
      refine wpAnyH_take (i := 6) (oi := ⟨some 46, _, _, _, _, _⟩) (v := ?v9) rfl (by kernel_rfl) (by kernel_rfl) (by kernel_rfl) (fun _ _ _ h => h) (Or.inl ⟨by rfl, ?hy9⟩) (by assumption) ?rest9
      case hy9 => (intro w hSw; (try dsimp only at hSw); go_simp; try with_reducible rfl)
      try simp only [Act.put, List.setIfInBounds_toArray, List.set_cons_zero, List.set_cons_succ]
      refine wpAnyH_take (i := 7) (oi := ⟨some 47, _, _, _, _, _⟩) (v := ?v10) rfl (by kernel_rfl) (by kernel_rfl) (by kernel_rfl) (fun _ _ _ h => h) (Or.inl ⟨by rfl, ?hy10⟩) (by assumption) ?rest10
      case hy10 => (intro w hSw; (try dsimp only at hSw); go_simp; try with_reducible rfl)
      try simp only [Act.put, List.setIfInBounds_toArray, List.set_cons_zero, List.set_cons_succ]
      refine wpAnyH_take (i := 8) (oi := ⟨some 48, _, _, _, _, _⟩) (v := ?v11) rfl (by kernel_rfl) (by kernel_rfl) (by kernel_rfl) (fun _ _ _ h => h) (Or.inl ⟨by rfl, ?hy11⟩) (by assumption) ?rest11
      case hy11 => (intro w hSw; (try dsimp only at hSw); go_simp; try with_reducible rfl)
      try simp only [Act.put, List.setIfInBounds_toArray, List.set_cons_zero, List.set_cons_succ]
      clear hHeld
      have l1d : Ve.drew.cell? ⟨w5.heap.size, 0, none⟩ = some hv := l1
      refine wpAnyH_ready (rs := [0, 2]) (by kernel_rfl) (by simp) ?_
      refine AllReadyH.cons (o := ⟨some 40, _, _, _, _, _⟩) rfl (fun K hK => ?_) ?_
      · go_simp
        refine hK.out _ _ ⟨a0, a1, a3, a4, a5⟩ (fun hHeld => ?_)
        clear hK K hHeld
        try simp only [Act.put, List.setIfInBounds_toArray, List.set_cons_zero, List.set_cons_succ]
        refine wpAnyH_ready (rs := [2]) (by kernel_rfl) (by simp) ?_
        refine AllReadyH.cons (o := ⟨some 42, _, _, _, _, _⟩) rfl (fun K hK => ?_) ?_
        · go_simp
          refine (span_any xa xc _ hxa hxc d2).mono ?_
          rintro e Vf ⟨rfl, hbf⟩
          have Af : Adds Ve Vf := (Adds.refl Ve).drew.trans hbf
          have b0 := keep_cell Af a0
          have b1 := keep_cell Af a1
          have b3 := keep_cell Af a3
          have b4 := keep_cell Af a4
          have b5 := keep_cell Af a5
          have l2 := keep_cell Af l1
          refine hK.out _ _ ⟨b0, b1, b3, b4, b5⟩ (fun hHeld => ?_)
          clear hK K
          try simp only [Act.put, List.setIfInBounds_toArray, List.set_cons_zero, List.set_cons_succ]
          refine wpAnyH_take (i := 9) (oi := ⟨some 49, _, _, _, _, _⟩) (v := ?v12) rfl (by kernel_rfl) (by kernel_rfl) (by kernel_rfl) (fun _ _ _ h => h) (Or.inl ⟨by rfl, ?hy12⟩) (by assumption) ?rest12
          case hy12 => (intro w hSw; (try dsimp only at hSw); go_simp; try with_reducible rfl)
          try simp only [Act.put, List.setIfInBounds_toArray, List.set_cons_zero, List.set_cons_succ]
          clear hHeld
          refine wpAnyH_ready (rs := [10]) (by kernel_rfl) (by simp) ?_
          refine AllReadyH.cons (o := ⟨some 50, _, _, _, _, _⟩) rfl (fun K hK => ?_) ?_
          · go_simp
            obtain ⟨Vb, hVb⟩ : ∃ X, X = Vf.alloc (.cells #[.int .i64 xa, .int .i64 (xc - xa + 1), .int .i64 xp.lot, .int .i64 xp.own, .int .i64 xp.hold] 79) := ⟨_, rfl⟩
            rw [← hVb]
            have Ab : Adds Vf Vb := by rw [hVb]; exact (Adds.refl _).alloc _
            have X9 : Vb.heap[Vf.heap.size]? = some (.cells #[.int .i64 xa, .int .i64 (xc - xa + 1), .int .i64 xp.lot, .int .i64 xp.own, .int .i64 xp.hold] 79 (0, 0)) := by rw [hVb]; exact Box.new _ _ _
            have c0 := keep_cell Ab b0
            have c1 := keep_cell Ab b1
            have c3 := keep_cell Ab b3
            have c4 := keep_cell Ab b4
            have c5 := keep_cell Ab b5
            have l3 := keep_cell Ab l2
            have HX9 := Lib.hid X9
            clear hVb X9
            refine hK.out _ _ ⟨c0, c1, c3, c4, c5⟩ (fun hHeld => ?_)
            clear hK K hHeld
            try simp only [Act.put, List.setIfInBounds_toArray, List.set_cons_zero, List.set_cons_succ]
            obtain ⟨i0, hi0, hz0, hz1, hz2⟩ := info_parts info79
            have HR10 := Lib.hid (ownsRow_same H2.out (fun g hg => ((hbb.trans Af).trans Ab).block g (H2.out.lt g hg).2))
            have hX9l : Vf.heap.size < Vb.heap.size := lt_of_block HX9.out
            have zab := ((hbb.trans Af).trans Ab).size
            have hno : ∀ k, V.heap.size ≤ k → k < Vb.heap.size → V2.heap.size ≤ k ∨ hv.ownBlock ≠ some k → True := fun _ _ _ _ => trivial
            have nown : ∀ k, V.heap.size ≤ k → some k ≠ hv.ownBlock := fun k hk e => by have := HOV.out k e.symm; omega
            refine wpAnyH_ready (rs := [11]) (by kernel_rfl) (by simp) ?_
            refine AllReadyH.cons (o := ⟨some 51, _, _, _, _, _⟩) rfl (fun K hK => ?_) AllReadyH.nil
            refine step_append_lies _ (by rfl) _ _ _ (by rfl) W8.heap.size 79 i0 _ 5 40 Try.underlying48 hi0 hz0 hz1 hz2 rfl (by omega) hv (ownedBy wh m pre).length ((ownedBy wh m pre).flatMap holdCells) (by rfl) HR10.out ⟨Vf.heap.size, 0, none⟩ 1 1 (holdCells (xa, xc, xp)) (by rfl) (by rfl) (World.news_of_block HX9.out) (by simp [Value.oneCell', holdCells]) (by omega) (by have := HLEN.out; unfold maxLen; omega) (by have := HLEN.out; omega) (by omega) Vb.heap.size rfl ?_
            intro g cap Vc hownc hgrow hgat hglt
            have HOWN := Lib.hid hownc
            have HGAT := Lib.hid hgat
            have d0' := (hgrow.cell_far ⟨V.heap.size, 0, none⟩ (by exact cell_lt c0) (nown _ (by show V.heap.size ≤ V.heap.size; omega))).trans c0
            have d1' := (hgrow.cell_far ⟨V.heap.size, 1, none⟩ (by exact cell_lt c0) (nown _ (by show V.heap.size ≤ V.heap.size; omega))).trans c1
            have d3' := (hgrow.cell_far ⟨V.heap.size + 1, 1, none⟩ (by exact cell_lt c3) (nown _ (by show V.heap.size ≤ V.heap.size + 1; omega))).trans c3
            have d4' := (hgrow.cell_far ⟨V.heap.size + 1, 2, none⟩ (by exact cell_lt c3) (nown _ (by show V.heap.size ≤ V.heap.size + 1; omega))).trans c4
            have d5' := (hgrow.cell_far ⟨V.heap.size + 1, 3, none⟩ (by exact cell_lt c3) (nown _ (by show V.heap.size ≤ V.heap.size + 1; omega))).trans c5
            have bL : Box Vc w5.heap.size #[hv] 48 := (H1.out.later ((hbb.trans Af).trans Ab)).same (hgrow.block _ (by have := H1.out.lt; omega) (fun e => by have := (H2.out.lt _ e.symm).1; omega))
            have HBL := Lib.hid bL
            have r1 := bL.cell 0
            have rf0 := bL.free 0
            simp only [List.getElem?_toArray, List.getElem?_cons_zero] at r1
            clear hownc bL hgat
            refine hK.out _ _ ⟨d0', d1', d3', d4', d5'⟩ (fun hHeld => ?_)
            clear hK K hHeld
            try simp only [Act.put, List.setIfInBounds_toArray, List.set_cons_zero, List.set_cons_succ]
            refine wpAnyH_ready (rs := [12]) (by kernel_rfl) (by simp) ?_
            refine AllReadyH.cons (o := ⟨none, _, _, _, _, _⟩) rfl (fun K hK => ?_) AllReadyH.nil
            go_simp
            have u1 : w5.heap.size ≠ V.heap.size := by omega
            have u2 : w5.heap.size ≠ V.heap.size + 1 := by omega
            refine hK.out _ _ ⟨by rw [World.cell?_setCell_far _ _ _ _ (by exact u1)]; exact d0', by rw [World.cell?_setCell_far _ _ _ _ (by exact u1)]; exact d1', by rw [World.cell?_setCell_far _ _ _ _ (by exact u2)]; exact d3', by rw [World.cell?_setCell_far _ _ _ _ (by exact u2)]; exact d4', by rw [World.cell?_setCell_far _ _ _ _ (by exact u2)]; exact d5'⟩ (fun hHeld => ?_)
            clear hK K hHeld
            try simp only [Act.put, List.setIfInBounds_toArray, List.set_cons_zero, List.set_cons_succ]
            refine wpAnyH_done (by kernel_rfl) ?_ _
            gi_wp2_with fail
            exact hold_fin (lb := w5.heap.size) HQ.out (by omega) H1.out H2.out h3 h4 h5 HNW.out.1 HNW.out.2 cm cu h8 h9 (hbb.trans Af) Ab HOWN.out hgrow HGAT.out
          exact AllReadyH.nil
        exact AllReadyH.nil
      refine AllReadyH.cons (o := ⟨some 42, _, _, _, _, _⟩) rfl (fun K hK => ?_) ?_
      · go_simp
        refine (span_any xa xc _ hxa hxc d2).mono ?_
        rintro e Vf ⟨rfl, hbf⟩
        have Af : Adds Ve Vf := (Adds.refl Ve).drew.trans hbf
        have b0 := keep_cell Af a0
        have b1 := keep_cell Af a1
        have b3 := keep_cell Af a3
        have b4 := keep_cell Af a4
        have b5 := keep_cell Af a5
        have l2 := keep_cell Af l1
        refine hK.out _ _ ⟨b0, b1, b3, b4, b5⟩ (fun hHeld => ?_)
        clear hK K
        try simp only [Act.put, List.setIfInBounds_toArray, List.set_cons_zero, List.set_cons_succ]
        refine wpAnyH_take (i := 9) (oi := ⟨some 49, _, _, _, _, _⟩) (v := ?v13) rfl (by kernel_rfl) (by kernel_rfl) (by kernel_rfl) (fun _ _ _ h => h) (Or.inl ⟨by rfl, ?hy13⟩) (by assumption) ?rest13
        case hy13 => (intro w hSw; (try dsimp only at hSw); go_simp; try with_reducible rfl)
        try simp only [Act.put, List.setIfInBounds_toArray, List.set_cons_zero, List.set_cons_succ]
        clear hHeld
        refine wpAnyH_ready (rs := [0, 10]) (by kernel_rfl) (by simp) ?_
        refine AllReadyH.cons (o := ⟨some 40, _, _, _, _, _⟩) rfl (fun K hK => ?_) ?_
        · go_simp
          refine hK.out _ _ ⟨b0, b1, b3, b4, b5⟩ (fun hHeld => ?_)
          clear hK K hHeld
          try simp only [Act.put, List.setIfInBounds_toArray, List.set_cons_zero, List.set_cons_succ]
          refine wpAnyH_ready (rs := [10]) (by kernel_rfl) (by simp) ?_
          refine AllReadyH.cons (o := ⟨some 50, _, _, _, _, _⟩) rfl (fun K hK => ?_) ?_
          · go_simp
            obtain ⟨Vb, hVb⟩ : ∃ X, X = Vf.alloc (.cells #[.int .i64 xa, .int .i64 (xc - xa + 1), .int .i64 xp.lot, .int .i64 xp.own, .int .i64 xp.hold] 79) := ⟨_, rfl⟩
            rw [← hVb]
            have Ab : Adds Vf Vb := by rw [hVb]; exact (Adds.refl _).alloc _
            have X9 : Vb.heap[Vf.heap.size]? = some (.cells #[.int .i64 xa, .int .i64 (xc - xa + 1), .int .i64 xp.lot, .int .i64 xp.own, .int .i64 xp.hold] 79 (0, 0)) := by rw [hVb]; exact Box.new _ _ _
            have c0 := keep_cell Ab b0
            have c1 := keep_cell Ab b1
            have c3 := keep_cell Ab b3
            have c4 := keep_cell Ab b4
            have c5 := keep_cell Ab b5
            have l3 := keep_cell Ab l2
            have HX9 := Lib.hid X9
            clear hVb X9
            refine hK.out _ _ ⟨c0, c1, c3, c4, c5⟩ (fun hHeld => ?_)
            clear hK K hHeld
            try simp only [Act.put, List.setIfInBounds_toArray, List.set_cons_zero, List.set_cons_succ]
            obtain ⟨i0, hi0, hz0, hz1, hz2⟩ := info_parts info79
            have HR10 := Lib.hid (ownsRow_same H2.out (fun g hg => ((hbb.trans Af).trans Ab).block g (H2.out.lt g hg).2))
            have hX9l : Vf.heap.size < Vb.heap.size := lt_of_block HX9.out
            have zab := ((hbb.trans Af).trans Ab).size
            have hno : ∀ k, V.heap.size ≤ k → k < Vb.heap.size → V2.heap.size ≤ k ∨ hv.ownBlock ≠ some k → True := fun _ _ _ _ => trivial
            have nown : ∀ k, V.heap.size ≤ k → some k ≠ hv.ownBlock := fun k hk e => by have := HOV.out k e.symm; omega
            refine wpAnyH_ready (rs := [11]) (by kernel_rfl) (by simp) ?_
            refine AllReadyH.cons (o := ⟨some 51, _, _, _, _, _⟩) rfl (fun K hK => ?_) AllReadyH.nil
            refine step_append_lies _ (by rfl) _ _ _ (by rfl) W8.heap.size 79 i0 _ 5 40 Try.underlying48 hi0 hz0 hz1 hz2 rfl (by omega) hv (ownedBy wh m pre).length ((ownedBy wh m pre).flatMap holdCells) (by rfl) HR10.out ⟨Vf.heap.size, 0, none⟩ 1 1 (holdCells (xa, xc, xp)) (by rfl) (by rfl) (World.news_of_block HX9.out) (by simp [Value.oneCell', holdCells]) (by omega) (by have := HLEN.out; unfold maxLen; omega) (by have := HLEN.out; omega) (by omega) Vb.heap.size rfl ?_
            intro g cap Vc hownc hgrow hgat hglt
            have HOWN := Lib.hid hownc
            have HGAT := Lib.hid hgat
            have d0' := (hgrow.cell_far ⟨V.heap.size, 0, none⟩ (by exact cell_lt c0) (nown _ (by show V.heap.size ≤ V.heap.size; omega))).trans c0
            have d1' := (hgrow.cell_far ⟨V.heap.size, 1, none⟩ (by exact cell_lt c0) (nown _ (by show V.heap.size ≤ V.heap.size; omega))).trans c1
            have d3' := (hgrow.cell_far ⟨V.heap.size + 1, 1, none⟩ (by exact cell_lt c3) (nown _ (by show V.heap.size ≤ V.heap.size + 1; omega))).trans c3
            have d4' := (hgrow.cell_far ⟨V.heap.size + 1, 2, none⟩ (by exact cell_lt c3) (nown _ (by show V.heap.size ≤ V.heap.size + 1; omega))).trans c4
            have d5' := (hgrow.cell_far ⟨V.heap.size + 1, 3, none⟩ (by exact cell_lt c3) (nown _ (by show V.heap.size ≤ V.heap.size + 1; omega))).trans c5
            have bL : Box Vc w5.heap.size #[hv] 48 := (H1.out.later ((hbb.trans Af).trans Ab)).same (hgrow.block _ (by have := H1.out.lt; omega) (fun e => by have := (H2.out.lt _ e.symm).1; omega))
            have HBL := Lib.hid bL
            have r1 := bL.cell 0
            have rf0 := bL.free 0
            simp only [List.getElem?_toArray, List.getElem?_cons_zero] at r1
            clear hownc bL hgat
            refine hK.out _ _ ⟨d0', d1', d3', d4', d5'⟩ (fun hHeld => ?_)
            clear hK K hHeld
            try simp only [Act.put, List.setIfInBounds_toArray, List.set_cons_zero, List.set_cons_succ]
            refine wpAnyH_ready (rs := [12]) (by kernel_rfl) (by simp) ?_
            refine AllReadyH.cons (o := ⟨none, _, _, _, _, _⟩) rfl (fun K hK => ?_) AllReadyH.nil
            go_simp
            have u1 : w5.heap.size ≠ V.heap.size := by omega
            have u2 : w5.heap.size ≠ V.heap.size + 1 := by omega
            refine hK.out _ _ ⟨by rw [World.cell?_setCell_far _ _ _ _ (by exact u1)]; exact d0', by rw [World.cell?_setCell_far _ _ _ _ (by exact u1)]; exact d1', by rw [World.cell?_setCell_far _ _ _ _ (by exact u2)]; exact d3', by rw [World.cell?_setCell_far _ _ _ _ (by exact u2)]; exact d4', by rw [World.cell?_setCell_far _ _ _ _ (by exact u2)]; exact d5'⟩ (fun hHeld => ?_)
            clear hK K hHeld
            try simp only [Act.put, List.setIfInBounds_toArray, List.set_cons_zero, List.set_cons_succ]
            refine wpAnyH_done (by kernel_rfl) ?_ _
            gi_wp2_with fail
            exact hold_fin (lb := w5.heap.size) HQ.out (by omega) H1.out H2.out h3 h4 h5 HNW.out.1 HNW.out.2 cm cu h8 h9 (hbb.trans Af) Ab HOWN.out hgrow HGAT.out
          exact AllReadyH.nil
        refine AllReadyH.cons (o := ⟨some 50, _, _, _, _, _⟩) rfl (fun K hK => ?_) ?_
        · go_simp
          obtain ⟨Vb, hVb⟩ : ∃ X, X = Vf.alloc (.cells #[.int .i64 xa, .int .i64 (xc - xa + 1), .int .i64 xp.lot, .int .i64 xp.own, .int .i64 xp.hold] 79) := ⟨_, rfl⟩
          rw [← hVb]
          have Ab : Adds Vf Vb := by rw [hVb]; exact (Adds.refl _).alloc _
          have X9 : Vb.heap[Vf.heap.size]? = some (.cells #[.int .i64 xa, .int .i64 (xc - xa + 1), .int .i64 xp.lot, .int .i64 xp.own, .int .i64 xp.hold] 79 (0, 0)) := by rw [hVb]; exact Box.new _ _ _
          have c0 := keep_cell Ab b0
          have c1 := keep_cell Ab b1
          have c3 := keep_cell Ab b3
          have c4 := keep_cell Ab b4
          have c5 := keep_cell Ab b5
          have l3 := keep_cell Ab l2
          have HX9 := Lib.hid X9
          clear hVb X9
          refine hK.out _ _ ⟨c0, c1, c3, c4, c5⟩ (fun hHeld => ?_)
          clear hK K hHeld
          try simp only [Act.put, List.setIfInBounds_toArray, List.set_cons_zero, List.set_cons_succ]
          refine wpAnyH_ready (rs := [0]) (by kernel_rfl) (by simp) ?_
          refine AllReadyH.cons (o := ⟨some 40, _, _, _, _, _⟩) rfl (fun K hK => ?_) ?_
          · go_simp
            refine hK.out _ _ ⟨c0, c1, c3, c4, c5⟩ (fun hHeld => ?_)
            clear hK K hHeld
            try simp only [Act.put, List.setIfInBounds_toArray, List.set_cons_zero, List.set_cons_succ]
            obtain ⟨i0, hi0, hz0, hz1, hz2⟩ := info_parts info79
            have HR10 := Lib.hid (ownsRow_same H2.out (fun g hg => ((hbb.trans Af).trans Ab).block g (H2.out.lt g hg).2))
            have hX9l : Vf.heap.size < Vb.heap.size := lt_of_block HX9.out
            have zab := ((hbb.trans Af).trans Ab).size
            have hno : ∀ k, V.heap.size ≤ k → k < Vb.heap.size → V2.heap.size ≤ k ∨ hv.ownBlock ≠ some k → True := fun _ _ _ _ => trivial
            have nown : ∀ k, V.heap.size ≤ k → some k ≠ hv.ownBlock := fun k hk e => by have := HOV.out k e.symm; omega
            refine wpAnyH_ready (rs := [11]) (by kernel_rfl) (by simp) ?_
            refine AllReadyH.cons (o := ⟨some 51, _, _, _, _, _⟩) rfl (fun K hK => ?_) AllReadyH.nil
            refine step_append_lies _ (by rfl) _ _ _ (by rfl) W8.heap.size 79 i0 _ 5 40 Try.underlying48 hi0 hz0 hz1 hz2 rfl (by omega) hv (ownedBy wh m pre).length ((ownedBy wh m pre).flatMap holdCells) (by rfl) HR10.out ⟨Vf.heap.size, 0, none⟩ 1 1 (holdCells (xa, xc, xp)) (by rfl) (by rfl) (World.news_of_block HX9.out) (by simp [Value.oneCell', holdCells]) (by omega) (by have := HLEN.out; unfold maxLen; omega) (by have := HLEN.out; omega) (by omega) Vb.heap.size rfl ?_
            intro g cap Vc hownc hgrow hgat hglt
            have HOWN := Lib.hid hownc
            have HGAT := Lib.hid hgat
            have d0' := (hgrow.cell_far ⟨V.heap.size, 0, none⟩ (by exact cell_lt c0) (nown _ (by show V.heap.size ≤ V.heap.size; omega))).trans c0
            have d1' := (hgrow.cell_far ⟨V.heap.size, 1, none⟩ (by exact cell_lt c0) (nown _ (by show V.heap.size ≤ V.heap.size; omega))).trans c1
            have d3' := (hgrow.cell_far ⟨V.heap.size + 1, 1, none⟩ (by exact cell_lt c3) (nown _ (by show V.heap.size ≤ V.heap.size + 1; omega))).trans c3
            have d4' := (hgrow.cell_far ⟨V.heap.size + 1, 2, none⟩ (by exact cell_lt c3) (nown _ (by show V.heap.size ≤ V.heap.size + 1; omega))).trans c4
            have d5' := (hgrow.cell_far ⟨V.heap.size + 1, 3, none⟩ (by exact cell_lt c3) (nown _ (by show V.heap.size ≤ V.heap.size + 1; omega))).trans c5
            have bL : Box Vc w5.heap.size #[hv] 48 := (H1.out.later ((hbb.trans Af).trans Ab)).same (hgrow.block _ (by have := H1.out.lt; omega) (fun e => by have := (H2.out.lt _ e.symm).1; omega))
            have HBL := Lib.hid bL
            have r1 := bL.cell 0
            have rf0 := bL.free 0
            simp only [List.getElem?_toArray, List.getElem?_cons_zero] at r1
            clear hownc bL hgat
            refine hK.out _ _ ⟨d0', d1', d3', d4', d5'⟩ (fun hHeld => ?_)
            clear hK K hHeld
            try simp only [Act.put, List.setIfInBounds_toArray, List.set_cons_zero, List.set_cons_succ]
            refine wpAnyH_ready (rs := [12]) (by kernel_rfl) (by simp) ?_
            refine AllReadyH.cons (o := ⟨none, _, _, _, _, _⟩) rfl (fun K hK => ?_) AllReadyH.nil
            go_simp
            have u1 : w5.heap.size ≠ V.heap.size := by omega
            have u2 : w5.heap.size ≠ V.heap.size + 1 := by omega
            refine hK.out _ _ ⟨by rw [World.cell?_setCell_far _ _ _ _ (by exact u1)]; exact d0', by rw [World.cell?_setCell_far _ _ _ _ (by exact u1)]; exact d1', by rw [World.cell?_setCell_far _ _ _ _ (by exact u2)]; exact d3', by rw [World.cell?_setCell_far _ _ _ _ (by exact u2)]; exact d4', by rw [World.cell?_setCell_far _ _ _ _ (by exact u2)]; exact d5'⟩ (fun hHeld => ?_)
            clear hK K hHeld
            try simp only [Act.put, List.setIfInBounds_toArray, List.set_cons_zero, List.set_cons_succ]
            refine wpAnyH_done (by kernel_rfl) ?_ _
            gi_wp2_with fail
            exact hold_fin (lb := w5.heap.size) HQ.out (by omega) H1.out H2.out h3 h4 h5 HNW.out.1 HNW.out.2 cm cu h8 h9 (hbb.trans Af) Ab HOWN.out hgrow HGAT.out
          exact AllReadyH.nil
        exact AllReadyH.nil
      exact AllReadyH.nil
    · have k1 : (wh xp == m) = false := by simp [hq]
      have HQ := Lib.hid hq
      clear hq
      refine wpIn_region_held_drew (S := fun w' => w'.cell? ⟨w.heap.size + 1, 0, none⟩ = some (.func (.func gw) #[] #[]) ∧ w'.cell? ⟨w.heap.size, 0, none⟩ = some (.int .i64 m) ∧ w'.cell? ⟨V.heap.size + 1, 0, none⟩ = some (.int .i64 xp.st) ∧ w'.cell? ⟨V.heap.size + 1, 1, none⟩ = some (.int .i64 xp.lot) ∧ w'.cell? ⟨V.heap.size + 1, 2, none⟩ = some (.int .i64 xp.own) ∧ w'.cell? ⟨V.heap.size + 1, 3, none⟩ = some (.int .i64 xp.hold)) (by kernel_rfl) (by kernel_rfl) (by rintro ⟨_, _, h⟩; exact h) ⟨cu, cm, p0, p1, p2, p3⟩ (fun hHeld => ?_)
      refine wpAnyH_take (i := 0) (oi := ⟨some 35, _, _, _, _, _⟩) (v := ?v14) rfl (by kernel_rfl) (by kernel_rfl) (by kernel_rfl) (fun _ _ _ h => h) (Or.inl ⟨by rfl, ?hy14⟩) (by assumption) ?rest14
      case hy14 => (intro w hSw; (try dsimp only at hSw); go_simp; try with_reducible rfl)
      try simp only [Act.put, List.setIfInBounds_toArray, List.set_cons_zero, List.set_cons_succ]
      refine wpAnyH_take (i := 1) (oi := ⟨some 36, _, _, _, _, _⟩) (v := ?v15) rfl (by kernel_rfl) (by kernel_rfl) (by kernel_rfl) (fun _ _ _ h => h) (Or.inl ⟨by rfl, ?hy15⟩) (by assumption) ?rest15
      case hy15 => (intro w hSw; (try dsimp only at hSw); go_simp; try with_reducible rfl)
      try simp only [Act.put, List.setIfInBounds_toArray, List.set_cons_zero, List.set_cons_succ]
      refine wpAnyH_take (i := 3) (oi := ⟨some 38, _, _, _, _, _⟩) (v := ?v16) rfl (by kernel_rfl) (by kernel_rfl) (by kernel_rfl) (fun _ _ _ h => h) (Or.inl ⟨by rfl, ?hy16⟩) (by assumption) ?rest16
      case hy16 => (intro w hSw; (try dsimp only at hSw); go_simp; try with_reducible rfl)
      try simp only [Act.put, List.setIfInBounds_toArray, List.set_cons_zero, List.set_cons_succ]
      refine wpAnyH_ready (rs := [2]) (by kernel_rfl) (by simp) ?_
      refine AllReadyH.cons (o := ⟨some 37, _, _, _, _, _⟩) rfl (fun K hK => ?_) AllReadyH.nil
      go_simp
      (refine (HW.out.call xp _ (by exact (HA2.out).drew)).mono ?_; rintro e Ve ⟨rfl, hbe⟩)
      refine hK.out _ _ ?_ (fun hHeld => ?_)
      · exact ⟨keep_cell ((Adds.refl V2).drew.trans hbe) cu, keep_cell ((Adds.refl V2).drew.trans hbe) cm, keep_cell ((Adds.refl V2).drew.trans hbe) p0, keep_cell ((Adds.refl V2).drew.trans hbe) p1, keep_cell ((Adds.refl V2).drew.trans hbe) p2, keep_cell ((Adds.refl V2).drew.trans hbe) p3⟩
      clear hK K
      try simp only [Act.put, List.setIfInBounds_toArray, List.set_cons_zero, List.set_cons_succ]
      refine wpAnyH_take (i := 4) (oi := ⟨some 39, _, _, _, _, _⟩) (v := ?v17) rfl (by kernel_rfl) (by kernel_rfl) (by kernel_rfl) (fun _ _ _ h => h) (Or.inl ⟨by rfl, ?hy17⟩) (by assumption) ?rest17
      case hy17 => (intro w hSw; (try dsimp only at hSw); go_simp; try with_reducible rfl)
      try simp only [Act.put, List.setIfInBounds_toArray, List.set_cons_zero, List.set_cons_succ]
      refine wpAnyH_done (by kernel_rfl) ?_ _
      gi_wp2_with fail
      have hbb : Adds V2 Ve := (Adds.refl V2).drew.trans hbe
      refine ⟨fun k => k = w5.heap.size ∨ hv.ownBlock = some k, ⟨hv, rfl, H1.out.later hbb, ?_, h3, h4, h5, keep_cell hbb cm, keep_cell hbb cu, h8.trans hbb, Nat.le_trans h9 hbb.size⟩, Grow.of_adds hbb _⟩
      have e0 : ownedBy wh m (pre ++ [(xa, xc, xp)]) = ownedBy wh m pre := by simp [ownedBy, HQ.out]
      rw [e0]
      exact ownsRow_same H2.out (fun g hg => hbb.block g (H2.out.lt g hg).2)
  · rintro D O V hD ⟨hv, rfl, h1, h2, h3, h4, h5, cm, cu, h8, h9⟩ hVD nD
    have l0 := h1.cell 0
    simp only [List.getElem?_toArray, List.getElem?_cons_zero] at l0
    have H2 := Lib.hid h2
    have HVD := Lib.hid hVD
    have HND := Lib.hid nD
    clear h1 h2 hVD nD cm cu
    go_wp2
    refine ⟨by simp, Or.inl ⟨D, _, rfl, run_takeDeferred HVD.out, ⟨.tuple #[hv, .int .i64 0], by simp [results, Try.results61, go_sem], hv, rfl, ?_, ?_⟩⟩⟩
    · have h := ownsRow_same (w' := V.putObj D (.deferred none)) H2.out (fun g hg => World.putObj_heap_other (fun e => HND.out (Or.inr (e ▸ hg))))
      obtain ⟨k1, k2⟩ := h
      refine ⟨k1, ?_⟩
      rcases k2 with k2 | ⟨g, cap, cur, hv', hg, r⟩
      · exact Or.inl k2
      · exact Or.inr ⟨g, cap, cur, hv', Nat.le_trans w8.size hg, r⟩
    · exact ⟨h8.os, h8.tape, h8.output, by simp; exact h8.size, fun k hk => (World.putObj_heap_other (by have := w8.size; omega)).trans (h8.block k hk)⟩
  · intro D c O pre rest V _ _ h
    exact h.elim
end Go.Proofs.Ytofaioabjkcaiaa
