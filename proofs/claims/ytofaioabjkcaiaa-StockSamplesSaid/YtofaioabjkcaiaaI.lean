/- runs: the pieces of one state joined. -/
import Derived.Test.YtofaioabjkcaiaaH
import Derived.RangeFuncIn
import Derived.TacticsIn
import Derived.BigFrameIn
import Derived.RegionIn
namespace Go.Proofs.Ytofaioabjkcaiaa
open Go.RowKit

/-- Pieces joined as far as they have one state. -/
def mergeT : Piece → List Piece → List Piece
  | cur, [] => [cur]
  | cur, x :: l => if x.2.2 = cur.2.2 then mergeT (cur.1, x.2.1, cur.2.2) l else cur :: mergeT x l

/-- The runs of a tree between a and c. -/
def runsT (a c : Int) (t : Tree) : List Piece := mergeT (a, a - 1, t.look a) (piecesT a c t)

/-- A block of cells that may be written. -/
def Box (w : World) (b : Nat) (vs : Array Value) (t : TypeId) : Prop := w.heap[b]? = some (.cells vs t (0, 0))

theorem Box.lt {w : World} {b : Nat} {vs : Array Value} {t : TypeId} (h : Box w b vs t) : b < w.heap.size := (Array.getElem?_eq_some_iff.1 h).1
theorem Box.cell {w : World} {b : Nat} {vs : Array Value} {t : TypeId} (h : Box w b vs t) (i : Nat) : w.cell? ⟨b, i, none⟩ = vs[i]? := by
  unfold Box at h
  simp [World.cell?, h]
theorem Box.free {w : World} {b : Nat} {vs : Array Value} {t : TypeId} (h : Box w b vs t) (i : Nat) : w.frozen? ⟨b, i, none⟩ = false := by
  unfold Box at h
  simp [World.frozen?, h]
theorem Box.alloc {w : World} {b : Nat} {vs : Array Value} {t : TypeId} (h : Box w b vs t) (o : Obj) : Box (w.alloc o) b vs t := (Below.heap_alloc w o b h.lt).trans h
theorem Box.far {w : World} {b : Nat} {vs : Array Value} {t : TypeId} (h : Box w b vs t) {p : Addr} (hp : b ≠ p.block) (u : Value) : Box (w.setCell p u) b vs t := (Below.heap_setCell w p u b hp).trans h
theorem Box.set {w : World} {b : Nat} {vs : Array Value} {t : TypeId} (h : Box w b vs t) (i : Nat) (u : Value) : Box (w.setCell ⟨b, i, none⟩ u) b (vs.setIfInBounds i u) t := by
  unfold Box at h ⊢
  have hlt := (Array.getElem?_eq_some_iff.1 h).1
  have he := (Array.getElem?_eq_some_iff.1 h).2
  simp [World.setCell, Array.getElem?_modify, h]
theorem Box.same {w w' : World} {b : Nat} {vs : Array Value} {t : TypeId} (h : Box w b vs t) (e : w'.heap[b]? = w.heap[b]?) : Box w' b vs t := e.trans h
theorem Box.later {w w' : World} {b : Nat} {vs : Array Value} {t : TypeId} (h : Box w b vs t) (e : Adds w w') : Box w' b vs t := (e.block b h.lt).trans h
theorem Box.new (w : World) (vs : Array Value) (t : TypeId) : Box (w.alloc (.cells vs t)) w.heap.size vs t := World.alloc_heap_new w _
theorem Touch.refl (O : Nat → Prop) (w : World) : Touch O w w := .of_adds (Adds.refl w) O
theorem Touch.set {O : Nat → Prop} {a b : World} (h : Touch O a b) {p : Addr} (hp : O p.block) (u : Value) : Touch O a (b.setCell p u) :=
  ⟨h.os, h.tape, h.output, by have := h.size; simp [World.setCell]; exact this, fun k hk hn => (Below.heap_setCell _ _ _ _ (fun e => hn (by rw [e]; exact hp))).trans (h.same k hk hn)⟩
theorem Touch.drew {O : Nat → Prop} {a b : World} (h : Touch O a b) : Touch O a b.drew := h.behind (Adds.refl b).drew
theorem Box.drew {w : World} {b : Nat} {vs : Array Value} {t : TypeId} (h : Box w b vs t) : Box w.drew b vs t := h


theorem neq_pk (p s : Pk) (w : World) : (binOp .neq 44 p.val s.val).run Try.prog w = .ok (.bool (decide (p ≠ s))) w := by
  have e : ∀ (h : p.st = s.st ∧ p.lot = s.lot ∧ p.own = s.own ∧ p.hold = s.hold), p = s := fun h => by cases p; cases s; simp_all
  by_cases h : p = s
  · subst h
    simp [Pk.val, go_sem]
  · have hn := pk_ne h
    by_cases k0 : p.st = s.st
    · by_cases k1 : p.lot = s.lot
      · by_cases k2 : p.own = s.own
        · have k3 : p.hold ≠ s.hold := fun k3 => hn ⟨k0, k1, k2, k3⟩
          simp [Pk.val, go_sem, k0, k1, k2, k3, h]
        · simp [Pk.val, go_sem, k0, k1, k2, h]
      · simp [Pk.val, go_sem, k0, k1, h]
    · simp [Pk.val, go_sem, k0, h]

set_option maxRecDepth 100000 in
set_option maxHeartbeats 1000000 in
theorem step_same (a c : Int) (p : Pk) (sb yb rb : Nat) (x y : Int) (w : World) (h1 : Box w rb #[.int .i64 x, .int .i64 y] 124) (h2 : Box w sb #[.int .i64 p.st, .int .i64 p.lot, .int .i64 p.own, .int .i64 p.hold] 44) :
    Calls Try.prog 101 #[.agg #[.int .i64 a, .int .i64 c], p.val, .pointer (some ⟨sb, 0, none⟩), .pointer (some ⟨yb, 0, none⟩), .pointer (some ⟨rb, 0, none⟩)] w fun e w' => e = .returned (.bool true) ∧
      Box w' rb #[.int .i64 x, .int .i64 c] 124 ∧ Touch (fun k => k = rb) w w' := by
  have d0 := h2.cell 0
  have d1 := h2.cell 1
  have d2 := h2.cell 2
  have d3 := h2.cell 3
  have e1 := h1.cell 1
  have f1 := h1.free 1
  have hlt := h1.lt
  simp only [List.getElem?_toArray, List.getElem?_cons_zero, List.getElem?_cons_succ] at d0 d1 d2 d3 e1
  have hn : ∀ w', (binOp .neq 44 p.val p.val).run Try.prog w' = .ok (.bool false) w' := fun w' => by rw [neq_pk]; simp
  have q1 := h1.lt
  have q2 := h2.lt
  have m1 : w.heap.size ≠ rb := by omega
  have m2 : w.heap.size + 1 ≠ rb := by omega
  have m3 : w.heap.size ≠ sb := by omega
  have m4 : w.heap.size + 1 ≠ sb := by omega
  go_enter Try.func101, Try.ntmps101
  go_wp2
  go_ret
  have hb := ((h1.set 1 (.int .i64 c)).alloc (.cells #[.int .i64 a, .int .i64 c] 124)).alloc (.cells #[.int .i64 p.st, .int .i64 p.lot, .int .i64 p.own, .int .i64 p.hold] 44)
  refine ⟨rfl, hb, ⟨rfl, rfl, rfl, by simp [World.setCell]; omega, fun k hk hr => ?_⟩⟩
  exact ((((Adds.refl (w.setCell ⟨rb, 1, none⟩ (.int .i64 c))).alloc _).alloc _).block k (by simpa [World.setCell] using hk)).trans (Below.heap_setCell _ _ _ _ hr)

/-- What a step gives where the state is another one. -/
def Stepped (l : Nat) (J Jx : (Nat → Prop) → List Piece → World → Prop) (a c : Int) (p : Pk) (sb rb : Nat) (O : Nat → Prop) (xs : List Piece) (w : World) (e : Ending) (w' : World) : Prop :=
  ∃ (v : Bool) (O' : Nat → Prop) (w1 : World), e = .returned (.bool v) ∧ Touch (fun k => O k ∨ k = l) w w1 ∧ Touch (fun k => k = rb ∨ k = sb) w1 w' ∧ (v = true → J O' xs w1 ∧ Grow O w O' w1 ∧
    Box w' rb #[.int .i64 a, .int .i64 c] 124 ∧ Box w' sb #[.int .i64 p.st, .int .i64 p.lot, .int .i64 p.own, .int .i64 p.hold] 44) ∧ (v = false → w1 = w' ∧ Jx O' xs w1)

/-- What the store of a new run gives. -/
def Restarted (a c : Int) (p : Pk) (sb rb n : Nat) (w : World) (wc : World) : Prop :=
  Box wc rb #[.int .i64 a, .int .i64 c] 124 ∧ Box wc sb #[.int .i64 p.st, .int .i64 p.lot, .int .i64 p.own, .int .i64 p.hold] 44 ∧ Box wc n #[.int .i64 a, .int .i64 c] 124 ∧ Touch (fun k => k = rb ∨ k = sb) w wc

set_option maxRecDepth 100000 in
set_option maxHeartbeats 1000000 in
theorem step_other (l : Nat) (X : List Piece) (J Jx : (Nat → Prop) → List Piece → World → Prop) (a c : Int) (p s : Pk) (sb yb rb : Nat) (x y : Int) (O : Nat → Prop) (pre rest : List Piece) (w : World) (h1 : Box w rb #[.int .i64 x, .int .i64 y] 124) (h2 : Box w sb #[.int .i64 s.st, .int .i64 s.lot, .int .i64 s.own, .int .i64 s.hold] 44)
    (h3 : w.cell? ⟨yb, 0, none⟩ = some (.func (.yield l) #[] #[])) (hne : p ≠ s) (hX : pre ++ (x, y, s) :: rest = X) (hJ : J O pre w) (hst : ∀ O pre V V', J O pre V → Adds V V' → J O pre V')
    (hy : ∀ O pre x rest V, pre ++ x :: rest = X → J O pre V → YieldAt Fence.wide 0 Try.prog l (Piece.encs x) V (Yielded (fun k => k = l) J Jx O V (pre ++ [x])))
    (hlt : ∀ k, O k → k < w.heap.size) (hll : l < w.heap.size) (n1 : ¬ (O rb ∨ rb = l)) (n2 : ¬ (O sb ∨ sb = l)) (nrs : rb ≠ sb) :
    Calls Try.prog 101 #[.agg #[.int .i64 a, .int .i64 c], p.val, .pointer (some ⟨sb, 0, none⟩), .pointer (some ⟨yb, 0, none⟩), .pointer (some ⟨rb, 0, none⟩)] w (Stepped l J Jx a c p sb rb O (pre ++ [(x, y, s)]) w) := by
  have d0 := h2.cell 0
  have d1 := h2.cell 1
  have d2 := h2.cell 2
  have d3 := h2.cell 3
  have e0 := h1.cell 0
  have e1 := h1.cell 1
  simp only [List.getElem?_toArray, List.getElem?_cons_zero, List.getElem?_cons_succ] at d0 d1 d2 d3 e0 e1
  have hq : ∃ q : Bool, q = true := ⟨true, rfl⟩
  have HY := Lib.hid (hy O pre (x, y, s) rest)
  have HX := Lib.hid hX
  have HJ := Lib.hid hJ
  have HN := Lib.hid hne
  have HS := Lib.hid hst
  have hn : ∀ w', (binOp .neq 44 p.val s.val).run Try.prog w' = .ok (.bool true) w' := fun w' => by rw [neq_pk]; simp [hne]
  clear hy hX hJ hne hst
  have q1 := h1.lt
  have q2 := h2.lt
  have m1 : w.heap.size ≠ rb := by omega
  have m2 : w.heap.size + 1 ≠ rb := by omega
  have m3 : w.heap.size ≠ sb := by omega
  have m4 : w.heap.size + 1 ≠ sb := by omega
  go_enter Try.func101, Try.ntmps101
  have q3 := cell_lt h3
  have m5 : w.heap.size ≠ yb := by omega
  have m6 : w.heap.size + 1 ≠ yb := by omega
  go_upto_region 2 with fail
  obtain ⟨W2, hW2⟩ : ∃ W2, W2 = (w.alloc (.cells #[.int .i64 a, .int .i64 c] 124)).alloc (.cells #[.int .i64 p.st, .int .i64 p.lot, .int .i64 p.own, .int .i64 p.hold] 44) := ⟨_, rfl⟩
  have hA : Adds w W2 := by rw [hW2]; exact ((Adds.refl w).alloc _).alloc _
  have hP : Box W2 (w.heap.size + 1) #[.int .i64 p.st, .int .i64 p.lot, .int .i64 p.own, .int .i64 p.hold] 44 := by rw [hW2]; have := Box.new (w.alloc (.cells #[.int .i64 a, .int .i64 c] 124)) #[.int .i64 p.st, .int .i64 p.lot, .int .i64 p.own, .int .i64 p.hold] 44; simpa using this
  have hE : Box W2 w.heap.size #[.int .i64 a, .int .i64 c] 124 := by rw [hW2]; exact (Box.new w _ _).alloc _
  rw [← hW2]
  clear hW2
  have D0 := keep_cell hA d0
  have D1 := keep_cell hA d1
  have D2 := keep_cell hA d2
  have D3 := keep_cell hA d3
  have E0 := keep_cell hA e0
  have E1 := keep_cell hA e1
  have H3 := keep_cell hA h3
  clear d0 d1 d2 d3 e0 e1 h3
  obtain ⟨fn, tmps, assign, body, hrun, hR⟩ := HY.out W2 HX.out (HS.out _ _ _ _ HJ.out hA)
  refine (wpIn_wide (n := 1)).1 ?_
  gi_wp2_with fail
  refine hR.mono ?_
  rintro e W3 ⟨v, O', rfl, ht, hj, hx⟩
  have HJ3 := Lib.hid hj
  have HX3 := Lib.hid hx
  clear hj hx
  have bR := (h1.later hA).same (ht.same rb (by have := hA.size; omega) n1)
  have bS := (h2.later hA).same (ht.same sb (by have := hA.size; omega) n2)
  have hW2 := hA.size
  have np : ∀ k, k < W2.heap.size → w.heap.size ≤ k → ¬ (O k ∨ k = l) := fun k _ hk h => h.elim (fun h => by have := hlt k h; omega) (fun h => by omega)
  have bE := hE.same (ht.same _ hE.lt (np _ hE.lt (by omega)))
  have bP := hP.same (ht.same _ hP.lt (np _ hP.lt (by omega)))
  dsimp only
  cases v
  · have HX4 := Lib.hid (HX3.out rfl)
    clear HX3
    gi_wp2_with fail
    go_wp2
    go_ret
    exact ⟨false, O', W3, rfl, ht.before hA, .of_adds (Adds.refl _) _, fun e => Bool.noConfusion e, fun _ => ⟨rfl, HX4.out⟩⟩
  · obtain ⟨hJ3, hG3⟩ := HJ3.out rfl
    have HJ4 := Lib.hid hJ3
    have HG4 := Lib.hid (hG3.before hA)
    clear hJ3 hG3 HJ3 HX3 D0 D1 D2 D3 E0 E1 H3 hR hrun
    gi_wp2_with fail
    have BR := Lib.hid bR
    have BS := Lib.hid bS
    have BE := Lib.hid bE
    have BP := Lib.hid bP
    have r1 := bR.lt
    have r2 := bS.lt
    have r3 := bE.lt
    have r4 := bP.lt
    have g0 := bR.cell 0
    have g1 := bR.cell 1
    have fr0 := bR.free 0
    have fr1 := bR.free 1
    have s0 := bS.cell 0
    have s1 := bS.cell 1
    have s2 := bS.cell 2
    have s3 := bS.cell 3
    have fs0 := bS.free 0
    have fs1 := bS.free 1
    have fs2 := bS.free 2
    have fs3 := bS.free 3
    have c0 := bE.cell 0
    have c1 := bE.cell 1
    have k0 := bP.cell 0
    have k1 := bP.cell 1
    have k2 := bP.cell 2
    have k3 := bP.cell 3
    simp only [List.getElem?_toArray, List.getElem?_cons_zero, List.getElem?_cons_succ] at g0 g1 s0 s1 s2 s3 c0 c1 k0 k1 k2 k3
    have z1 : w.heap.size ≠ rb := by omega
    have z2 : w.heap.size ≠ sb := by omega
    have z3 : w.heap.size + 1 ≠ rb := by omega
    have z4 : w.heap.size + 1 ≠ sb := by omega
    clear bR bS bE bP
    go_upto_region 4 with fail
    go_cut [7] (fun s7 wc => s7 = .bool false ∧ Restarted a c p sb rb w.heap.size W3 wc)
    case first =>
      go_region
      all_goals
        go_wp2_with fail
        go_meet
        refine ⟨rfl, ?_, ?_, ?_, ?_⟩
        · exact ((((((BR.out.set 0 (.int .i64 a)).set 1 (.int .i64 c)).far (p := ⟨sb, 0, none⟩) nrs _).far (p := ⟨sb, 1, none⟩) nrs _).far (p := ⟨sb, 2, none⟩) nrs _).far (p := ⟨sb, 3, none⟩) nrs _).drew
        · exact ((((((BS.out.far (p := ⟨rb, 0, none⟩) nrs.symm _).far (p := ⟨rb, 1, none⟩) nrs.symm _).set 0 (.int .i64 p.st)).set 1 (.int .i64 p.lot)).set 2 (.int .i64 p.own)).set 3 (.int .i64 p.hold)).drew
        · exact ((((((BE.out.far (p := ⟨rb, 0, none⟩) z1 _).far (p := ⟨rb, 1, none⟩) z1 _).far (p := ⟨sb, 0, none⟩) z2 _).far (p := ⟨sb, 1, none⟩) z2 _).far (p := ⟨sb, 2, none⟩) z2 _).far (p := ⟨sb, 3, none⟩) z2 _).drew
        · exact (((((((Touch.refl _ W3).set (p := ⟨rb, 0, none⟩) (Or.inl rfl) _).set (p := ⟨rb, 1, none⟩) (Or.inl rfl) _).set (p := ⟨sb, 0, none⟩) (Or.inr rfl) _).set (p := ⟨sb, 1, none⟩) (Or.inr rfl) _).set (p := ⟨sb, 2, none⟩) (Or.inr rfl) _).set (p := ⟨sb, 3, none⟩) (Or.inr rfl) _).drew
    case rest =>
      obtain ⟨rfl, bR, bS, bE, hT⟩ := hcut
      have BR := Lib.hid bR
      have BS := Lib.hid bS
      have g1 := bR.cell 1
      have fr1 := bR.free 1
      have c1 := bE.cell 1
      simp only [List.getElem?_toArray, List.getElem?_cons_zero, List.getElem?_cons_succ] at g1 c1
      clear bR bS bE BE BP
      go_wp2
      go_ret
      exact ⟨true, O', W3, rfl, ht.before hA, hT.set (p := ⟨rb, 1, none⟩) (Or.inl rfl) _, fun _ => ⟨HJ4.out, HG4.out, BR.out.set 1 (.int .i64 c), BS.out.far (p := ⟨rb, 1, none⟩) nrs.symm _⟩, fun e => Bool.noConfusion e⟩
end Go.Proofs.Ytofaioabjkcaiaa
