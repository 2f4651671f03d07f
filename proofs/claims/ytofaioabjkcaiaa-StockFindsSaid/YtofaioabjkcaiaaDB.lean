/- Find of a register. -/
import Derived.Test.YtofaioabjkcaiaaDA
import Derived.Test.YtofaioabjkcaiaaAB
import Derived.Test.YtofaioabjkcaiaaAD
import Derived.OwnWalkIn
namespace Go.Proofs.Ytofaioabjkcaiaa
open Go.RowKit

attribute [local go_sem] Oper.semAt_some

/-- An append within a round: where the new slice lies. -/
theorem wpListIn_append_lies {F : Fence} {n : Nat} {P : Program} (w : World) {ops : Array Oper} {rest : List Oper} {o : Oper} {a : Act} {Q : Exit → Act → World → Prop}
    (hg : o.guard = none) (s x : Operand) (t : TypeId) (hop : o.op = Op.call { callee := Callee.builtin Builtin.append, args := #[s, x], argTypes := #[t, t] })
    (base : Nat) (e : TypeId) (i : TypeInfo) (z : Value) (size bytes : Nat) (h1 : P.underlying t = some (.slice e)) (h2 : P.info? e = some i) (h3 : i.zero = some z) (h4 : i.size = size) (h5 : i.bytes = bytes) (h6 : z.cells.size = size) (h7 : 0 < size)
    (v : Value) (k : Nat) (xs : List Value) (hs : a.eval s = v) (hown : w.ownsRow base e size v k xs) (ad : Addr) (m c : Nat) (news : List Value) (hx : a.eval x = .slice (some ad) m c) (hn : news.length = m * size)
    (hc : ∀ j u, news[j]? = some u → w.cell? (ad.add j) = some u) (h1c : ∀ u ∈ news, u.oneCell' = true) (hm : 0 < m) (b1 : k + m ≤ maxLen) (b2 : (k + m) * bytes ≤ 140737488355328) (b3 : base ≤ w.heap.size) (H : Nat) (hH : w.heap.size = H)
    (hK : ∀ g cap w', w'.ownsRow base e size (.slice (some ⟨g, 0, none⟩) (k + m) cap) (k + m) (xs ++ news) → w.grownBy w' v.ownBlock → (v.ownBlock = some g ∨ g = H) → g < w'.heap.size → wpListIn F n P ops Q rest (a.put o.dst (.slice (some ⟨g, 0, none⟩) (k + m) cap)) w') :
    wpListIn F n P ops Q (o :: rest) a w := by
  refine wpListIn_plain hg fun K hK' => ?_
  obtain ⟨g, cap, w', hrun, r1, r2, r3, r4⟩ := run_append_lies (P := P) w t o.type base e i z size bytes h1 h2 h3 h4 h5 h6 h7 v k xs hown ad m c news hn hc h1c hm b1 b2 b3 H hH
  unfold Oper.wpIn
  refine ⟨?_, ?_⟩
  · simp [Oper.about, hop, resolve, Target.leads, Sem.run_pure]
  · rw [Oper.semAt_plain F _ _ (by rw [hop]; intro c hc'; cases hc')]
    simp [execOp, hop, resolve, invoke, builtin, hs, hx, hrun, Result.andThen]
    exact hK' _ _ (hK g cap w' r1 r2 r3 r4)

/-- The blocks that Find writes. -/
def FO (nB rl re lb : Nat) (hv : Value) : Nat → Prop := fun k => (k = lb ∨ hv.ownBlock = some k) ∨ k = nB ∨ k = rl ∨ k = re

/-- Between two rounds of Find's loop. -/
structure FP (w W8 : World) (nB rl re lb wb : Nat) (lt ow n0 : Int) (hv : Value) (acc : List (Int × Int)) (z : Int) (pre : List Piece) (V : World) : Prop where
  fold : pre.foldl (stepF ⟨1, lt, ow, 0⟩) ([], n0) = (acc, z)
  pos : 0 < z ∧ z ≤ n0
  bn : Box V nB #[.int .i64 z] 3
  brl : Box V rl #[.slice none 0 0] 55
  bre : Box V re #[.int .i64 0] 45
  bl : Box V lb #[hv] 55
  bw : Box V wb #[.int .i64 1, .int .i64 lt, .int .i64 ow, .int .i64 0] 44
  row : V.ownsRow W8.heap.size 32 2 hv acc.length (acc.flatMap spanCells)
  lt8 : nB < W8.heap.size ∧ rl < W8.heap.size ∧ re < W8.heap.size ∧ lb < W8.heap.size ∧ wb < W8.heap.size
  adds : Adds w V
  size : W8.heap.size ≤ V.heap.size

def FI (w W8 : World) (nB rl re lb wb : Nat) (lt ow n0 : Int) (O : Nat → Prop) (pre : List Piece) (V : World) : Prop :=
  ∃ hv acc z, O = FO nB rl re lb hv ∧ FP w W8 nB rl re lb wb lt ow n0 hv acc z pre V

/-- Where a round has returned. -/
structure FX0 (w W8 : World) (nB rl re lb : Nat) (lt ow n0 : Int) (hv : Value) (acc : List (Int × Int)) (pre : List Piece) (V : World) : Prop where
  fold : pre.foldl (stepF ⟨1, lt, ow, 0⟩) ([], n0) = (acc, 0)
  brl : Box V rl #[hv] 55
  bre : Box V re #[.int .i64 0] 45
  row : V.ownsRow W8.heap.size 32 2 hv acc.length (acc.flatMap spanCells)
  lt8 : rl < W8.heap.size ∧ re < W8.heap.size
  adds : Adds w V

def FX (w W8 : World) (nB rl re lb : Nat) (lt ow n0 : Int) (c : Code) (O : Nat → Prop) (pre : List Piece) (V : World) : Prop :=
  c = .ret ∧ ∃ hv acc, O = FO nB rl re lb hv ∧ FX0 w W8 nB rl re lb lt ow n0 hv acc pre V

theorem FP.keeps {w W8 : World} {nB rl re lb wb : Nat} {lt ow n0 : Int} {hv : Value} {acc : List (Int × Int)} {z : Int} {pre : List Piece} {V V' : World} (hw : w.heap.size ≤ W8.heap.size) (h : FP w W8 nB rl re lb wb lt ow n0 hv acc z pre V) (hk : Keeps W8.heap.size (FO nB rl re lb hv) V V') : FP w W8 nB rl re lb wb lt ow n0 hv acc z pre V' := by
  obtain ⟨l1, l2, l3, l4, l5⟩ := h.lt8
  exact ⟨h.fold, h.pos, h.bn.same (hk.same _ h.bn.lt (Or.inl l1)), h.brl.same (hk.same _ h.brl.lt (Or.inl l2)), h.bre.same (hk.same _ h.bre.lt (Or.inl l3)), h.bl.same (hk.same _ h.bl.lt (Or.inl l4)), h.bw.same (hk.same _ h.bw.lt (Or.inl l5)),
    ownsRow_same h.row (fun g hg => hk.same g (h.row.lt g hg).2 (Or.inr (Or.inl (Or.inr hg)))), h.lt8, adds_keeps h.adds hw hk, Nat.le_trans h.size hk.size⟩

theorem FX0.keeps {w W8 : World} {nB rl re lb : Nat} {lt ow n0 : Int} {hv : Value} {acc : List (Int × Int)} {pre : List Piece} {V V' : World} (hw : w.heap.size ≤ W8.heap.size) (h : FX0 w W8 nB rl re lb lt ow n0 hv acc pre V) (hk : Keeps W8.heap.size (FO nB rl re lb hv) V V') : FX0 w W8 nB rl re lb lt ow n0 hv acc pre V' :=
  ⟨h.fold, h.brl.same (hk.same _ h.brl.lt (Or.inl h.lt8.1)), h.bre.same (hk.same _ h.bre.lt (Or.inl h.lt8.2)), ownsRow_same h.row (fun g hg => hk.same g (h.row.lt g hg).2 (Or.inr (Or.inl (Or.inr hg)))), h.lt8, adds_keeps h.adds hw hk⟩

/-- Behind the append of a round. -/
structure FM (w W8 : World) (nB rl re lb wb : Nat) (lt ow n0 : Int) (hv : Value) (acc' : List (Int × Int)) (z : Int) (new : Value) (V2 Vc : World) : Prop where
  bn : Box Vc nB #[.int .i64 z] 3
  brl : Box Vc rl #[.slice none 0 0] 55
  bre : Box Vc re #[.int .i64 0] 45
  bl : Box Vc lb #[hv] 55
  bw : Box Vc wb #[.int .i64 1, .int .i64 lt, .int .i64 ow, .int .i64 0] 44
  row : Vc.ownsRow W8.heap.size 32 2 new acc'.length (acc'.flatMap spanCells)
  lt8 : nB < W8.heap.size ∧ rl < W8.heap.size ∧ re < W8.heap.size ∧ lb < W8.heap.size ∧ wb < W8.heap.size
  adds : Adds w Vc
  size : W8.heap.size ≤ Vc.heap.size
  touch : Touch (FO nB rl re lb hv) V2 Vc
  own : ∀ k, new.ownBlock = some k → FO nB rl re lb hv k ∨ V2.heap.size ≤ k

theorem find_mid {w W8 V2 Vb Vc : World} {nB rl re lb wb g9 c9 : Nat} {lt ow n0 z xa T : Int} {hv : Value} {acc : List (Int × Int)} {pre : List Piece} (hwW : w.heap.size ≤ W8.heap.size) (h : FP w W8 nB rl re lb wb lt ow n0 hv acc z pre V2) (A : Adds V2 Vb)
    (hown : Vc.ownsRow W8.heap.size 32 2 (.slice (some ⟨g9, 0, none⟩) (acc.length + 1) c9) (acc.length + 1) (acc.flatMap spanCells ++ [.int .i64 xa, .int .i64 T])) (hgrow : Vb.grownBy Vc hv.ownBlock) (hgat : hv.ownBlock = some g9 ∨ g9 = Vb.heap.size) :
    FM w W8 nB rl re lb wb lt ow n0 hv (acc ++ [(xa, xa + T - 1)]) z (.slice (some ⟨g9, 0, none⟩) (acc.length + 1) c9) V2 Vc := by
  obtain ⟨l1, l2, l3, l4, l5⟩ := h.lt8
  have z1 := A.size
  have z3 := hgrow.size
  have hsz := h.size
  have hown2 : ∀ k, hv.ownBlock = some k → W8.heap.size ≤ k ∧ k < V2.heap.size := fun k hk => h.row.lt k hk
  have ngl : ∀ k, k < W8.heap.size → some k ≠ hv.ownBlock := fun k hk e => by have := (hown2 k e.symm).1; omega
  have keep : ∀ {b : Nat} {vs : Array Value} {t : TypeId}, b < W8.heap.size → Box V2 b vs t → Box Vc b vs t := fun hb hbx => (hbx.later A).same (hgrow.block _ (by omega) (ngl _ hb))
  refine ⟨keep l1 h.bn, keep l2 h.brl, keep l3 h.bre, keep l4 h.bl, keep l5 h.bw, span_row hown rfl, h.lt8, ⟨hgrow.os.trans (A.os.trans h.adds.os), hgrow.tape.trans (A.tape.trans h.adds.tape), hgrow.output.trans (A.output.trans h.adds.output), by have := h.adds.size; omega, fun k hk => ?_⟩, by omega, ⟨hgrow.os.trans A.os, hgrow.tape.trans A.tape, hgrow.output.trans A.output, by omega, fun k hk hn => ?_⟩, fun k hk => ?_⟩
  · rw [hgrow.block k (by have := h.adds.size; omega) (ngl k (by omega)), A.block k (by have := h.adds.size; omega)]
    exact h.adds.block k hk
  · rw [hgrow.block k (by omega) (fun e => hn (Or.inl (Or.inr e.symm)))]
    exact A.block k hk
  · simp only [Value.ownBlock, Option.some.injEq] at hk
    subst hk
    rcases hgat with hg | hg
    · exact Or.inl (Or.inl (Or.inr hg))
    · exact Or.inr (by omega)

theorem touch_set {O : Nat → Prop} {w w' : World} {b : Nat} {u : Value} (h : Touch O w w') (hb : O b) : Touch O w (w'.setCell ⟨b, 0, none⟩ u) := h.set (p := ⟨b, 0, none⟩) hb u

theorem row_far {w : World} {base b : Nat} {hv u : Value} {acc : List (Int × Int)} (h : w.ownsRow base 32 2 hv acc.length (acc.flatMap spanCells)) (hb : b < base) : (w.setCell ⟨b, 0, none⟩ u).ownsRow base 32 2 hv acc.length (acc.flatMap spanCells) :=
  ownsRow_setCell_other h (a := ⟨b, 0, none⟩) (fun e => by have := (h.lt b e).1; omega) u

/-- A round more. -/
theorem find_next {w W8 V2 Vc : World} {nB rl re lb wb : Nat} {lt ow n0 z z' : Int} {hv new : Value} {acc' : List (Int × Int)} {pre' : List Piece} (h : FM w W8 nB rl re lb wb lt ow n0 hv acc' z new V2 Vc) (hw : w.heap.size ≤ nB ∧ w.heap.size ≤ lb) (hne : nB ≠ lb ∧ nB ≠ rl ∧ nB ≠ re ∧ nB ≠ wb ∧ lb ≠ rl ∧ lb ≠ re ∧ lb ≠ wb)
    (hf : pre'.foldl (stepF ⟨1, lt, ow, 0⟩) ([], n0) = (acc', z')) (hp : 0 < z' ∧ z' ≤ n0) :
    FI w W8 nB rl re lb wb lt ow n0 (FO nB rl re lb new) pre' ((Vc.setCell ⟨lb, 0, none⟩ new).setCell ⟨nB, 0, none⟩ (.int .i64 z')) ∧ Grow (FO nB rl re lb hv) V2 (FO nB rl re lb new) ((Vc.setCell ⟨lb, 0, none⟩ new).setCell ⟨nB, 0, none⟩ (.int .i64 z')) := by
  obtain ⟨l1, l2, l3, l4, l5⟩ := h.lt8
  obtain ⟨e1, e2, e3, e4, e5, e6, e7⟩ := hne
  refine ⟨⟨new, acc', z', rfl, ⟨hf, hp, (h.bn.far (by exact e1) _).set 0 _, (h.brl.far (by exact Ne.symm e5) _).far (by exact Ne.symm e2) _, (h.bre.far (by exact Ne.symm e6) _).far (by exact Ne.symm e3) _, (h.bl.set 0 _).far (by exact Ne.symm e1) _, (h.bw.far (by exact Ne.symm e7) _).far (by exact Ne.symm e4) _, row_far (row_far h.row l4) l1, h.lt8, (h.adds.set hw.2 _).set hw.1 _, by have := h.size; simpa [World.setCell] using this⟩⟩,
    touch_set (touch_set h.touch (Or.inl (Or.inl rfl))) (Or.inr (Or.inl rfl)), fun k hk => ?_⟩
  rcases hk with (hk | hk) | hk
  · exact Or.inl (Or.inl (Or.inl hk))
  · exact h.own k hk
  · exact Or.inl (Or.inr hk)

/-- The last round. -/
theorem find_stop {w W8 V2 Vc : World} {nB rl re lb wb : Nat} {lt ow n0 z : Int} {hv new : Value} {acc' : List (Int × Int)} {pre' : List Piece} (h : FM w W8 nB rl re lb wb lt ow n0 hv acc' z new V2 Vc) (hw : w.heap.size ≤ nB ∧ w.heap.size ≤ lb ∧ w.heap.size ≤ rl ∧ w.heap.size ≤ re) (hne : lb ≠ rl ∧ lb ≠ re ∧ nB ≠ rl ∧ nB ≠ re ∧ rl ≠ re)
    (hf : pre'.foldl (stepF ⟨1, lt, ow, 0⟩) ([], n0) = (acc', 0)) :
    FX w W8 nB rl re lb lt ow n0 .ret (FO nB rl re lb new) pre' ((((Vc.setCell ⟨lb, 0, none⟩ new).setCell ⟨nB, 0, none⟩ (.int .i64 0)).setCell ⟨rl, 0, none⟩ new).setCell ⟨re, 0, none⟩ (.int .i64 0)) ∧
      Grow (FO nB rl re lb hv) V2 (FO nB rl re lb new) ((((Vc.setCell ⟨lb, 0, none⟩ new).setCell ⟨nB, 0, none⟩ (.int .i64 0)).setCell ⟨rl, 0, none⟩ new).setCell ⟨re, 0, none⟩ (.int .i64 0)) := by
  obtain ⟨l1, l2, l3, l4, l5⟩ := h.lt8
  obtain ⟨e1, e2, e3, e4, e5⟩ := hne
  refine ⟨⟨rfl, new, acc', rfl, ⟨hf, (((h.brl.far (by exact Ne.symm e1) _).far (by exact Ne.symm e3) _).set 0 _).far (by exact e5) _, (((h.bre.far (by exact Ne.symm e2) _).far (by exact Ne.symm e4) _).far (by exact Ne.symm e5) _).set 0 _, row_far (row_far (row_far (row_far h.row l4) l1) l2) l3, ⟨l2, l3⟩, (((h.adds.set hw.2.1 _).set hw.1 _).set hw.2.2.1 _).set hw.2.2.2 _⟩⟩,
    touch_set (touch_set (touch_set (touch_set h.touch (Or.inl (Or.inl rfl))) (Or.inr (Or.inl rfl))) (Or.inr (Or.inr (Or.inl rfl)))) (Or.inr (Or.inr (Or.inr rfl))), fun k hk => ?_⟩
  rcases hk with (hk | hk) | hk
  · exact Or.inl (Or.inl (Or.inl hk))
  · exact h.own k hk
  · exact Or.inl (Or.inr hk)

set_option maxRecDepth 100000 in
set_option maxHeartbeats 8000000 in
theorem Find_ok (s : Nat) (v : Value) (bs : List Nat) (Ts : List Tree) (ow lt n : Int) (w : World) (hS0 : StockAt w.heap.size w s v bs Ts) (h1 : inB 1000 ow = true) (h2 : inB 1000000 lt = true) (h3 : inB 1000000 n = true) :
    Calls Try.prog 25 #[.pointer (some ⟨s, 0, none⟩), .int .i64 ow, .int .i64 lt, .int .i64 n] w (FindGot true (findF ⟨1, lt, ow, 0⟩ n (runsT 1 1000000 (treeOf Ts bs.length))) w) := by
  have HS := Lib.hid hS0
  have hn12 : 1 ≤ n ∧ n ≤ 1000000 := by simpa [inB] using h3
  obtain ⟨hn1, hn2⟩ := hn12
  clear hS0
  refine calls_marks Try.func25 rfl ?_
  simp only [Try.ntmps25, List.size_toArray, List.length_cons, List.length_nil, Nat.reduceAdd, Nat.reduceSub, Array.replicate_succ, Array.replicate_zero, List.push_toArray, List.append_toArray, List.nil_append, List.cons_append]
  go_upto_region 1 with fail
  obtain ⟨nB, hnB⟩ : ∃ k, k = w.heap.size := ⟨_, rfl⟩
  obtain ⟨rl, hrl⟩ : ∃ k, k = w.heap.size + 1 := ⟨_, rfl⟩
  obtain ⟨re, hre⟩ : ∃ k, k = w.heap.size + 1 + 1 := ⟨_, rfl⟩
  obtain ⟨W3, hW3⟩ : ∃ V, V = ((w.alloc (.cells #[.int .i64 n] 3)).alloc (.cells #[.slice none 0 0] 55)).alloc (.cells #[.int .i64 0] 45) := ⟨_, rfl⟩
  have A3 : Adds w W3 := by rw [hW3]; exact (((Adds.refl w).alloc _).alloc _).alloc _
  have XN : Box W3 nB #[.int .i64 n] 3 := by rw [hW3, hnB]; exact Box.later (Box.new w _ _) (((Adds.refl _).alloc _).alloc _)
  have XL : Box W3 rl #[.slice none 0 0] 55 := by rw [hW3, hrl]; exact Box.later (new_at (w := w.alloc (.cells #[.int .i64 n] 3)) (by simp)) ((Adds.refl _).alloc _)
  have XE : Box W3 re #[.int .i64 0] 45 := by rw [hW3, hre]; exact new_at (by simp)
  have hwn : w.heap.size ≤ nB := by omega
  have hwl : w.heap.size ≤ rl := by omega
  have hwe : w.heap.size ≤ re := by omega
  have hne1 : nB ≠ rl := by omega
  have hne2 : nB ≠ re := by omega
  have hne3 : rl ≠ re := by omega
  rw [← hW3, ← hre, ← hrl, ← hnB]
  have n0 := XN.cell 0
  simp only [List.getElem?_toArray, List.getElem?_cons_zero] at n0
  have HXN := Lib.hid XN
  have HXL := Lib.hid XL
  have HXE := Lib.hid XE
  have HA3 := Lib.hid A3
  clear hW3 hnB hrl hre XN XL XE A3
  have A4 : Adds W3 (W3.alloc (.cells #[.int .i64 ow] 3)) := (Adds.refl W3).alloc _
  have n1 := keep_cell A4 n0
  go_upto_region 4 with (first
    | (go_at_call 16; refine (version_any _ s v bs Ts _ (HS.out.later HA3.out)).mono ?_; rintro e w' ⟨rfl, rfl⟩)
    | (go_at_call 64; refine (members_one _ ow _ (by go_simp)).mono ?_; rintro e w' ⟨rfl, rfl⟩; simp only [h1])
    | (go_at_call 65; refine (isLot_any lt _).mono ?_; rintro e w' ⟨rfl, rfl⟩; simp only [h2])
    | (go_at_call 59; refine (isPocket_any n _).mono ?_; rintro e w' ⟨rfl, rfl⟩; simp only [h3])
    | (go_at_call 58; refine (tree_any w.heap.size s v bs Ts bs.length _ (HS.out.later (HA3.out.alloc _)) (Nat.le_refl _)).mono ?_; rintro e w5 ⟨b, rfl, ht, hok, hb5⟩; have HT := Lib.hid ht; have HK := Lib.hid hok; have HB5 := Lib.hid hb5; clear ht hok hb5))
  clear n0 n1 A4
  obtain ⟨wb, hwb⟩ : ∃ k, k = w5.heap.size := ⟨_, rfl⟩
  obtain ⟨lb, hlb⟩ : ∃ k, k = w5.heap.size + 1 := ⟨_, rfl⟩
  obtain ⟨W6, hW6⟩ : ∃ V, V = (w5.alloc (.cells #[.int .i64 1, .int .i64 lt, .int .i64 ow, .int .i64 0] 44)).alloc (.cells #[.slice none 0 0] 55) := ⟨_, rfl⟩
  have A6 : Adds w5 W6 := by rw [hW6]; exact ((Adds.refl _).alloc _).alloc _
  have XW : Box W6 wb #[.int .i64 1, .int .i64 lt, .int .i64 ow, .int .i64 0] 44 := by rw [hW6, hwb]; exact Box.later (Box.new w5 _ _) ((Adds.refl _).alloc _)
  have XB : Box W6 lb #[.slice none 0 0] 55 := by rw [hW6, hlb]; exact new_at (by simp)
  obtain ⟨t0, t1⟩ := (HT.out.tree.later A6).root HK.out
  have z35 : W3.heap.size + 1 ≤ w5.heap.size := by have := HB5.out.size; simpa using this
  have xnl := HXN.out.lt
  have xll := HXL.out.lt
  have xel := HXE.out.lt
  have hz3 := HA3.out.size
  have hle5 : w5.heap.size ≤ wb ∧ w5.heap.size ≤ lb ∧ wb ≠ lb := by omega
  have HXW := Lib.hid XW
  have HXB := Lib.hid XB
  have HA6 := Lib.hid A6
  go_upto_region 6 with fail
  rw [← hW6, ← hlb, ← hwb]
  clear hW6 hlb hwb A6 XW XB
  go_wp2_with fail
  refine (runs_any b 1 1000000 _).mono ?_
  rintro e W8 ⟨pb, nb, rfl, htw, hnb, gp, gn, hb8⟩
  have HTW := Lib.hid htw
  have HNB := Lib.hid hnb
  have z8 := hb8.size
  have z6 := HA6.out.size
  have xwl := HXW.out.lt
  have xbl := HXB.out.lt
  clear htw hnb t0 t1
  go_wp2_with fail
  have A38 : Adds W3 W8 := (((Adds.refl W3).alloc _).trans HB5.out).trans (HA6.out.trans hb8)
  have hit := runs_iter b pb nb (treeOf Ts bs.length) 1 1000000 1 1000000 W8 (fun k => ((k ≠ s ∧ v.ownBlock ≠ some k ∧ k < w.heap.size) ∨ (W3.heap.size + 1 ≤ k ∧ k < w5.heap.size)) ∨ k = pb ∨ k = nb)
    ((((HT.out.lt.mono (fun k hk => Or.inl (hk.1.imp id (fun h => ⟨by simpa using h, hk.2⟩)))).later HA6.out).later hb8)) HK.out (by omega) (by omega) (by omega) (by omega) (by omega) HTW.out HNB.out (Or.inr (Or.inl rfl)) (Or.inr (Or.inr rfl))
  have HIT := Lib.hid hit
  clear hit
  have hcov := runs_cover (a := 1) (c := 1000000) HK.out (by omega) (by omega) (by omega)
  obtain ⟨XS, hXS⟩ : ∃ l, l = runsT 1 1000000 (treeOf Ts bs.length) := ⟨_, rfl⟩
  rw [← hXS] at HIT hcov ⊢
  have hxl := hcov.length
  have HCOV := Lib.hid hcov
  have w8 : Adds w W8 := HA3.out.trans A38
  have hw8 := Lib.hid w8.size
  have hne : Hid (nB ≠ lb ∧ nB ≠ rl ∧ nB ≠ re ∧ nB ≠ wb ∧ lb ≠ rl ∧ lb ≠ re ∧ lb ≠ wb ∧ rl ≠ re) := Lib.hid (by omega)
  have hwlb : w.heap.size ≤ lb := by omega
  have HXS := Lib.hid hXS
  have hIt0 : FI w W8 nB rl re lb wb lt ow n (FO nB rl re lb (.slice none 0 0)) [] W8 :=
    ⟨_, [], n, rfl, ⟨rfl, by omega, HXN.out.later A38, HXL.out.later A38, HXE.out.later A38, HXB.out.later hb8, HXW.out.later hb8, World.ownsRow_nil _ _ _ _, by omega, w8, Nat.le_refl _⟩⟩
  have HI0 := Lib.hid hIt0
  clear hIt0 hcov hXS
  obtain ⟨j0, hj, hj0, hj1, hj2⟩ := info_parts info32
  have HJ := Lib.hid hj
  have HJ0 := Lib.hid hj0
  have HJ1 := Lib.hid hj1
  have HJ2 := Lib.hid hj2
  clear hj hj0 hj1 hj2
  refine wp_rangeFunc_iter (w0 := W8) (xs := XS) (encs := Piece.encs) rfl (fun args w => by go_simp) HIT.out (Adds.refl _) (fun x => rfl)
    (FI w W8 nB rl re lb wb lt ow n) (FX w W8 nB rl re lb lt ow n) (FO nB rl re lb (.slice none 0 0)) ?_ ?_ ?_ ?_ HI0.out ?_ ?_ ?_
  · intro k hk he
    rcases he with (he | he) | he | he | he
    · rcases hk with (⟨_, _, h⟩ | h) | h | h <;> omega
    · simp [Value.ownBlock] at he
    · rcases hk with (⟨_, _, h⟩ | h) | h | h <;> omega
    · rcases hk with (⟨_, _, h⟩ | h) | h | h <;> omega
    · rcases hk with (⟨_, _, h⟩ | h) | h | h <;> omega
  · rintro O pre V ⟨hv, acc, z, rfl, h⟩ k ((rfl | hk) | rfl | rfl | rfl)
    · exact h.bl.lt
    · exact (h.row.lt k hk).2
    · exact h.bn.lt
    · exact h.brl.lt
    · exact h.bre.lt
  · rintro O pre V V' ⟨hv, acc, z, rfl, h⟩ hk
    exact ⟨hv, acc, z, rfl, h.keeps hw8.out hk⟩
  · rintro c O pre V V' ⟨hc, hv, acc, rfl, h⟩ hk
    exact ⟨hc, hv, acc, rfl, h.keeps hw8.out hk⟩
  · rintro l d O pre ⟨xa, xc, xp⟩ rest V hxs hl1 hd1 hl2 hd2 nol nod hI
    have hcov := HCOV.out
    rw [← hxs] at hcov
    obtain ⟨mm, c1, c2⟩ := hcov.split
    obtain ⟨d1, d2, d3, d4⟩ := c2
    have hle := c1.le
    have hle2 := d4.le
    simp only at d1 d2 hle2
    have hxa : 1 ≤ xa := by omega
    have hxc : xc ≤ 1000000 := by omega
    have hpl : pre.length ≤ 1000000 := by have := c1.length; omega
    clear hcov c1 d1 d3 d4 hle hle2
    have hV8 : W8.heap.size ≤ V.heap.size := by obtain ⟨_, _, _, _, h⟩ := hI; exact h.size
    clear hI hxs
    simp only [Piece.encs, List.zip_toArray, List.zip_cons_cons, List.zip_nil_right, List.foldl_toArray, List.foldl_cons, List.foldl_nil, List.setIfInBounds_toArray, List.set_cons_zero, List.set_cons_succ]
    gi_wp2_with fail
    refine ⟨((Adds.refl V).alloc _).alloc _, fun V2 e1 e2 hI hk => ?_⟩
    obtain ⟨hv, acc, z, rfl, hP⟩ := hI
    have x13 : Box V2 V.heap.size #[.int .i64 xa, .int .i64 xc] 124 := ((Box.new V #[.int .i64 xa, .int .i64 xc] 124).alloc (.cells #[.int .i64 xp.st, .int .i64 xp.lot, .int .i64 xp.own, .int .i64 xp.hold] 44)).same (e2 _ (by omega))
    have x14 : Box V2 (V.heap.size + 1) #[.int .i64 xp.st, .int .i64 xp.lot, .int .i64 xp.own, .int .i64 xp.hold] 44 := by
      have h := Box.new (V.alloc (.cells #[.int .i64 xa, .int .i64 xc] 124)) #[.int .i64 xp.st, .int .i64 xp.lot, .int .i64 xp.own, .int .i64 xp.hold] 44
      have h' := h.same (e2 _ (by simp; omega))
      simpa using h'
    have l0 := hP.bl.cell 0
    have m0 := hP.bn.cell 0
    have q0 := x13.cell 0
    have q1 := x13.cell 1
    have p0 := x14.cell 0
    have p1 := x14.cell 1
    have p2 := x14.cell 2
    have p3 := x14.cell 3
    have u0 := hP.bw.cell 0
    have u1 := hP.bw.cell 1
    have u2 := hP.bw.cell 2
    have u3 := hP.bw.cell 3
    simp only [List.getElem?_toArray, List.getElem?_cons_zero, List.getElem?_cons_succ] at l0 m0 q0 q1 p0 p1 p2 p3 u0 u1 u2 u3
    have HP := Lib.hid hP
    have hz := hP.pos
    have HAL : Hid (acc.length ≤ 1000000) := Lib.hid (by
      have h := findF_len (q := (⟨1, lt, ow, 0⟩ : Pk)) (l := pre) (s := ([], n))
      rw [hP.fold] at h
      simp at h
      omega)
    have HFN : Hid ((pre ++ [(xa, xc, xp)]).foldl (stepF ⟨1, lt, ow, 0⟩) ([], n) = stepF ⟨1, lt, ow, 0⟩ (acc, z) (xa, xc, xp)) := Lib.hid (by rw [List.foldl_append, hP.fold]; rfl)
    clear e1 e2 hP x13 x14 hk
    obtain ⟨hz0, hzn⟩ := hz
    obtain ⟨xs, xl, xo, xh⟩ := xp
    simp only at p0 p1 p2 p3
    by_cases hp : (⟨xs, xl, xo, xh⟩ : Pk) = ⟨1, lt, ow, 0⟩
    · have HPQ := Lib.hid hp
      simp only [Pk.mk.injEq] at hp
      obtain ⟨rfl, rfl, rfl, rfl⟩ := hp
      have s1 := beq_self_eq_true xl
      have s2 := beq_self_eq_true xo
      obtain ⟨ct, hct⟩ : ∃ c, c = xc - xa + 1 := ⟨_, rfl⟩
      have hcnt : Hid (∀ W, Calls Try.prog 67 #[.agg #[.int .i64 xa, .int .i64 xc]] W fun e w' => e = .returned (.int .i64 ct) ∧ Adds W w') := Lib.hid (fun W => by rw [hct]; exact count_any xa xc W (by omega) (by omega) (by omega) (by omega))
      have hc1 : 1 ≤ ct := by omega
      have HCT := Lib.hid hct
      clear hct
      by_cases hm : z ≤ ct
      · have hm1 : ¬ (ct < z) := by omega
        have hm2 : (ct < z) = False := eq_false hm1
        gi_wp2_with fail
        refine wpIn_region_held_drew (S := fun w' => w'.cell? ⟨nB, 0, none⟩ = some (.int .i64 z) ∧ w'.cell? ⟨V.heap.size, 0, none⟩ = some (.int .i64 xa) ∧ w'.cell? ⟨V.heap.size, 1, none⟩ = some (.int .i64 xc)) (by kernel_rfl) (by kernel_rfl) (by rintro ⟨_, _, h⟩; exact h) ⟨m0, q0, q1⟩ (fun hHeld => ?_)
        refine wpAnyH_take (i := 0) (oi := ⟨some 52, _, _, _, _, _⟩) (v := ?v1) rfl (by kernel_rfl) (by kernel_rfl) (by kernel_rfl) (fun _ _ _ h => h) (Or.inl ⟨by rfl, ?hy1⟩) (by assumption) ?rest1
        case hy1 => (intro w hSw; (try dsimp only at hSw); go_simp; try with_reducible rfl)
        try simp only [Act.put, List.setIfInBounds_toArray, List.set_cons_zero, List.set_cons_succ]
        refine wpAnyH_take (i := 1) (oi := ⟨some 53, _, _, _, _, _⟩) (v := ?v2) rfl (by kernel_rfl) (by kernel_rfl) (by kernel_rfl) (fun _ _ _ h => h) (Or.inl ⟨by rfl, ?hy2⟩) (by assumption) ?rest2
        case hy2 => (intro w hSw; (try dsimp only at hSw); go_simp; try with_reducible rfl)
        try simp only [Act.put, List.setIfInBounds_toArray, List.set_cons_zero, List.set_cons_succ]
        refine wpAnyH_ready (rs := [2]) (by kernel_rfl) (by simp) ?_
        refine AllReadyH.cons (o := ⟨some 54, _, _, _, _, _⟩) rfl (fun K hK => ?_) AllReadyH.nil
        go_simp
        (refine (hcnt.out _).mono ?_; rintro e Ve ⟨rfl, hbe⟩)
        have hbb : Adds V2 Ve := (Adds.refl V2).drew.trans hbe
        refine hK.out _ _ ⟨keep_cell hbb m0, keep_cell hbb q0, keep_cell hbb q1⟩ (fun hHeld => ?_)
        clear hK K
        try simp only [Act.put, List.setIfInBounds_toArray, List.set_cons_zero, List.set_cons_succ]
        refine wpAnyH_take (i := 3) (oi := ⟨some 55, _, _, _, _, _⟩) (v := ?v3) rfl (by kernel_rfl) (by kernel_rfl) (by kernel_rfl) (fun _ _ _ h => h) (Or.inl ⟨by rfl, ?hy3⟩) (by assumption) ?rest3
        case hy3 => (intro w hSw; (try dsimp only at hSw); go_simp; try with_reducible rfl)
        try simp only [Act.put, List.setIfInBounds_toArray, List.set_cons_zero, List.set_cons_succ]
        refine wpAnyH_take (i := 4) (oi := ⟨some 16, _, _, _, _, _⟩) (v := ?v4) rfl (by kernel_rfl) (by kernel_rfl) (by kernel_rfl) (fun _ _ _ h => h) (Or.inl ⟨by rfl, ?hy4⟩) (by assumption) ?rest4
        case hy4 => (intro w hSw; (try dsimp only at hSw); go_simp; try with_reducible rfl)
        try simp only [Act.put, List.setIfInBounds_toArray, List.set_cons_zero, List.set_cons_succ]
        refine wpAnyH_done (by kernel_rfl) ?_ _
        clear hHeld
        replace q0 := keep_cell hbb q0
        replace l0 := keep_cell hbb l0
        have HBB := Lib.hid hbb
        clear hbb m0 q1
        gi_wp2_with (refine wpListIn_append_lies _ rfl _ _ 55 rfl W8.heap.size 32 j0 (.agg #[.int .i64 0, .int .i64 0]) 2 16 Try.underlying55 HJ.out HJ0.out HJ1.out HJ2.out rfl (by decide) hv acc.length (acc.flatMap spanCells) rfl (ownsRow_same HP.out.row (fun g hg => (HBB.out.alloc _).block g (HP.out.row.lt g hg).2)) ⟨Ve.heap.size, 0, none⟩ 1 1 [.int .i64 xa, .int .i64 z] rfl rfl (World.news_of_block (new_at rfl)) (by simp [Value.oneCell']) (by omega) (by have := HAL.out; unfold maxLen; omega) (by have := HAL.out; omega) (by have h1 := HP.out.size; have h2 := HBB.out.size; simp; omega) _ rfl ?_; intro g9 c9 Vc hown hgrow hgat hglt; have HM := Lib.hid (find_mid hw8.out HP.out (HBB.out.alloc _) hown hgrow hgat); have lb0 := HM.out.bl.cell 0; have lbf := HM.out.bl.free 0; have nb0 := HM.out.bn.cell 0; have nbf := HM.out.bn.free 0; have rl0 := HM.out.brl.cell 0; have rlf := HM.out.brl.free 0; have re0 := HM.out.bre.cell 0; have ref := HM.out.bre.free 0; simp only [List.getElem?_toArray, List.getElem?_cons_zero] at lb0 nb0 rl0 re0; clear hown hgrow hgat)
        obtain ⟨hx, hg⟩ := find_stop (pre' := pre ++ [(xa, xc, (⟨1, xl, xo, 0⟩ : Pk))]) HM.out ⟨hwn, hwlb, hwl, hwe⟩ ⟨hne.out.2.2.2.2.1, hne.out.2.2.2.2.2.1, hne.out.2.1, hne.out.2.2.1, hne.out.2.2.2.2.2.2.2⟩ (by rw [HFN.out, stepF_yes (q := ⟨1, xl, xo, 0⟩) (s := (acc, z)) (x := (xa, xc, ⟨1, xl, xo, 0⟩)) hz0 rfl]; simp only; rw [← HCT.out, Int.min_eq_left hm, Int.sub_self])
        exact ⟨_, hx, hg⟩
      · have hm1 : ct < z := by omega
        have hm2 : (ct < z) = True := eq_true hm1
        have hb0 : (z - ct == 0) = false := beq_eq_false_iff_ne.2 (by omega)
        gi_wp2_with fail
        refine wpIn_region_held_drew (S := fun w' => w'.cell? ⟨nB, 0, none⟩ = some (.int .i64 z) ∧ w'.cell? ⟨V.heap.size, 0, none⟩ = some (.int .i64 xa) ∧ w'.cell? ⟨V.heap.size, 1, none⟩ = some (.int .i64 xc)) (by kernel_rfl) (by kernel_rfl) (by rintro ⟨_, _, h⟩; exact h) ⟨m0, q0, q1⟩ (fun hHeld => ?_)
        refine wpAnyH_take (i := 0) (oi := ⟨some 52, _, _, _, _, _⟩) (v := ?wv1) rfl (by kernel_rfl) (by kernel_rfl) (by kernel_rfl) (fun _ _ _ h => h) (Or.inl ⟨by rfl, ?hyy1⟩) (by assumption) ?resu1
        case hyy1 => (intro w hSw; (try dsimp only at hSw); go_simp; try with_reducible rfl)
        try simp only [Act.put, List.setIfInBounds_toArray, List.set_cons_zero, List.set_cons_succ]
        refine wpAnyH_take (i := 1) (oi := ⟨some 53, _, _, _, _, _⟩) (v := ?wv2) rfl (by kernel_rfl) (by kernel_rfl) (by kernel_rfl) (fun _ _ _ h => h) (Or.inl ⟨by rfl, ?hyy2⟩) (by assumption) ?resu2
        case hyy2 => (intro w hSw; (try dsimp only at hSw); go_simp; try with_reducible rfl)
        try simp only [Act.put, List.setIfInBounds_toArray, List.set_cons_zero, List.set_cons_succ]
        refine wpAnyH_ready (rs := [2]) (by kernel_rfl) (by simp) ?_
        refine AllReadyH.cons (o := ⟨some 54, _, _, _, _, _⟩) rfl (fun K hK => ?_) AllReadyH.nil
        go_simp
        (refine (hcnt.out _).mono ?_; rintro e Ve ⟨rfl, hbe⟩)
        have hbb : Adds V2 Ve := (Adds.refl V2).drew.trans hbe
        refine hK.out _ _ ⟨keep_cell hbb m0, keep_cell hbb q0, keep_cell hbb q1⟩ (fun hHeld => ?_)
        clear hK K
        try simp only [Act.put, List.setIfInBounds_toArray, List.set_cons_zero, List.set_cons_succ]
        refine wpAnyH_take (i := 3) (oi := ⟨some 55, _, _, _, _, _⟩) (v := ?wv3) rfl (by kernel_rfl) (by kernel_rfl) (by kernel_rfl) (fun _ _ _ h => h) (Or.inl ⟨by rfl, ?hyy3⟩) (by assumption) ?resu3
        case hyy3 => (intro w hSw; (try dsimp only at hSw); go_simp; try with_reducible rfl)
        try simp only [Act.put, List.setIfInBounds_toArray, List.set_cons_zero, List.set_cons_succ]
        refine wpAnyH_take (i := 4) (oi := ⟨some 16, _, _, _, _, _⟩) (v := ?wv4) rfl (by kernel_rfl) (by kernel_rfl) (by kernel_rfl) (fun _ _ _ h => h) (Or.inl ⟨by rfl, ?hyy4⟩) (by assumption) ?resu4
        case hyy4 => (intro w hSw; (try dsimp only at hSw); go_simp; try with_reducible rfl)
        try simp only [Act.put, List.setIfInBounds_toArray, List.set_cons_zero, List.set_cons_succ]
        refine wpAnyH_done (by kernel_rfl) ?_ _
        clear hHeld
        replace q0 := keep_cell hbb q0
        replace l0 := keep_cell hbb l0
        have HBB := Lib.hid hbb
        clear hbb m0 q1
        gi_wp2_with (refine wpListIn_append_lies _ rfl _ _ 55 rfl W8.heap.size 32 j0 (.agg #[.int .i64 0, .int .i64 0]) 2 16 Try.underlying55 HJ.out HJ0.out HJ1.out HJ2.out rfl (by decide) hv acc.length (acc.flatMap spanCells) rfl (ownsRow_same HP.out.row (fun g hg => (HBB.out.alloc _).block g (HP.out.row.lt g hg).2)) ⟨Ve.heap.size, 0, none⟩ 1 1 [.int .i64 xa, .int .i64 ct] rfl rfl (World.news_of_block (new_at rfl)) (by simp [Value.oneCell']) (by omega) (by have := HAL.out; unfold maxLen; omega) (by have := HAL.out; omega) (by have h1 := HP.out.size; have h2 := HBB.out.size; simp; omega) _ rfl ?_; intro g9 c9 Vc hown hgrow hgat hglt; have HM := Lib.hid (find_mid hw8.out HP.out (HBB.out.alloc _) hown hgrow hgat); have lb0 := HM.out.bl.cell 0; have lbf := HM.out.bl.free 0; have nb0 := HM.out.bn.cell 0; have nbf := HM.out.bn.free 0; have rl0 := HM.out.brl.cell 0; have rlf := HM.out.brl.free 0; have re0 := HM.out.bre.cell 0; have ref := HM.out.bre.free 0; simp only [List.getElem?_toArray, List.getElem?_cons_zero] at lb0 nb0 rl0 re0; clear hown hgrow hgat)
        obtain ⟨hx, hg⟩ := find_next (pre' := pre ++ [(xa, xc, (⟨1, xl, xo, 0⟩ : Pk))]) (z' := z - ct) HM.out ⟨hwn, hwlb⟩ ⟨hne.out.1, hne.out.2.1, hne.out.2.2.1, hne.out.2.2.2.1, hne.out.2.2.2.2.1, hne.out.2.2.2.2.2.1, hne.out.2.2.2.2.2.2.1⟩ (by rw [HFN.out, stepF_yes (q := ⟨1, xl, xo, 0⟩) (s := (acc, z)) (x := (xa, xc, ⟨1, xl, xo, 0⟩)) hz0 rfl]; simp only; rw [← HCT.out, Int.min_eq_right (by omega)]) (by omega)
        exact ⟨_, hx, hg⟩
    · rcases pk_split ⟨xs, xl, xo, xh⟩ ⟨1, lt, ow, 0⟩ with hs | hs | hs | hs | hs
      · exact (hp hs).elim
      all_goals
        have HPQ := Lib.hid hp
        clear hp
        simp only at hs
        gi_wp2_with fail
        refine ⟨_, ⟨hv, acc, z, rfl, ⟨by rw [HFN.out]; exact stepF_no HPQ.out, HP.out.pos, HP.out.bn, HP.out.brl, HP.out.bre, HP.out.bl, HP.out.bw, HP.out.row, HP.out.lt8, HP.out.adds, HP.out.size⟩⟩, Grow.refl _ _⟩
  · rintro D O V hD ⟨hv, acc, z, rfl, hP⟩ hVD nD
    have nDl : rl ≠ D := fun e => nD (Or.inr (Or.inr (Or.inl e.symm)))
    have nDe : re ≠ D := fun e => nD (Or.inr (Or.inr (Or.inr e.symm)))
    have r0 := hP.brl.cell 0
    have rf0 := hP.brl.free 0
    have e0 := hP.bre.cell 0
    have ef0 := hP.bre.free 0
    simp only [List.getElem?_toArray, List.getElem?_cons_zero] at r0 e0
    obtain ⟨V1, hV1⟩ : ∃ X, X = (V.setCell ⟨rl, 0, none⟩ (.slice none 0 0)).setCell ⟨re, 0, none⟩ (.int .i64 4) := ⟨_, rfl⟩
    have hVD1 : V1.heap[D]? = some (.deferred (some [])) := by
      rw [hV1, Below.heap_setCell _ _ _ _ (fun e => nDe (by exact e.symm)), Below.heap_setCell _ _ _ _ (fun e => nDl (by exact e.symm))]
      exact hVD
    have bR : Box V1 rl #[.slice none 0 0] 55 := by rw [hV1]; exact (hP.brl.set 0 _).far (by exact hne.out.2.2.2.2.2.2.2) _
    have bE : Box V1 re #[.int .i64 4] 45 := by rw [hV1]; exact (hP.bre.far (by exact Ne.symm hne.out.2.2.2.2.2.2.2) _).set 0 _
    have hA1 : Adds w V1 := by rw [hV1]; exact (hP.adds.set hwl _).set hwe _
    have hr1 : (V1.putObj D (.deferred none)).cell? ⟨rl, 0, none⟩ = some (.slice none 0 0) := by
      have := (bR.same (World.putObj_heap_other (o := .deferred none) nDl)).cell 0
      simpa using this
    have hr2 : (V1.putObj D (.deferred none)).cell? ⟨re, 0, none⟩ = some (.int .i64 4) := by
      have := (bE.same (World.putObj_heap_other (o := .deferred none) nDe)).cell 0
      simpa using this
    have hfin : FindGot true (findF ⟨1, lt, ow, 0⟩ n XS) w (.returned (.tuple #[.slice none 0 0, .int .i64 4])) (V1.putObj D (.deferred none)) :=
      ⟨Or.inr (Or.inl ⟨rfl, by unfold findF; rw [hP.fold]; exact hP.pos.1, rfl⟩), ⟨hA1.os, hA1.tape, hA1.output, by simp; exact hA1.size, fun k hk => (World.putObj_heap_other (by have := hw8.out; omega)).trans (hA1.block k hk)⟩⟩
    rw [HXS.out] at hfin
    have HF1 := Lib.hid hfin
    have HV1 := Lib.hid hVD1
    have HR1 := Lib.hid hr1
    have HR2 := Lib.hid hr2
    clear hfin hVD1 hr1 hr2 bR bE hA1 hP hVD nD
    go_wp2
    rw [← hV1]
    exact ⟨by simp, Or.inl ⟨D, _, rfl, run_takeDeferred HV1.out, ⟨.tuple #[.slice none 0 0, .int .i64 4], by simp [results, Try.results25, go_sem, HR1.out, HR2.out], HF1.out⟩⟩⟩
  · rintro D c O pre rest V hxs hD ⟨rfl, hv, acc, rfl, hX⟩ hVD nD
    have nDl : rl ≠ D := fun e => nD (Or.inr (Or.inr (Or.inl e.symm)))
    have nDe : re ≠ D := fun e => nD (Or.inr (Or.inr (Or.inr e.symm)))
    have nDo : ∀ k, hv.ownBlock = some k → k ≠ D := fun k hk e => nD (Or.inl (Or.inr (e ▸ hk)))
    have hA1 := hX.adds
    have hr1 : (V.putObj D (.deferred none)).cell? ⟨rl, 0, none⟩ = some hv := by
      have := (hX.brl.same (World.putObj_heap_other (o := .deferred none) nDl)).cell 0
      simpa using this
    have hr2 : (V.putObj D (.deferred none)).cell? ⟨re, 0, none⟩ = some (.int .i64 0) := by
      have := (hX.bre.same (World.putObj_heap_other (o := .deferred none) nDe)).cell 0
      simpa using this
    have hfe : findF ⟨1, lt, ow, 0⟩ n XS = (acc, 0) := by
      unfold findF
      rw [← hxs, List.foldl_append, hX.fold, findF_stop (by simp)]
    have hfin : FindGot true (findF ⟨1, lt, ow, 0⟩ n XS) w (.returned (.tuple #[hv, .int .i64 0])) (V.putObj D (.deferred none)) := by
      refine ⟨Or.inr (Or.inr ⟨rfl, by rw [hfe]; simp, W8.heap.size, hv, rfl, ?_⟩), ⟨hA1.os, hA1.tape, hA1.output, by simp; exact hA1.size, fun k hk => (World.putObj_heap_other (by have := hw8.out; omega)).trans (hA1.block k hk)⟩⟩
      rw [hfe]
      exact ownsRow_same hX.row (fun g hg => World.putObj_heap_other (nDo g hg))
    have HF1 := Lib.hid hfin
    have HV1 := Lib.hid hVD
    have HR1 := Lib.hid hr1
    have HR2 := Lib.hid hr2
    clear hfin hr1 hr2 hA1 hX hVD nD hxs hfe
    go_wp2
    exact ⟨by simp, Or.inl ⟨D, _, rfl, run_takeDeferred HV1.out, ⟨.tuple #[hv, .int .i64 0], by simp [results, Try.results25, go_sem, HR1.out, HR2.out], HF1.out⟩⟩⟩

end Go.Proofs.Ytofaioabjkcaiaa
