/- A sample drawn by a map. -/
import Derived.Test.YtofaioabjkcaiaaDI
import Derived.Test.YtofaioabjkcaiaaCP
import Derived.StillTailTactics
namespace Go.Proofs.Ytofaioabjkcaiaa
open Go.RowKit Go.Maps

/-- A row of numbers in a block that the call has made. -/
def RowI (t : TypeId) (k : IntKind) (w : World) (g cap : Nat) (l : List Int) : Prop :=
  ∃ cur : Array Value, w.heap[g]? = some (.cells cur t (0, 0)) ∧ cur.size = cap ∧ l.length ≤ cap ∧ cap ≤ maxLen ∧ cur.toList.take l.length = l.map (Value.int k)

section
variable {t : TypeId} {k : IntKind} {w w' : World} {g cap : Nat} {l : List Int}

theorem RowI.lt (h : RowI t k w g cap l) : g < w.heap.size := by
  obtain ⟨cur, hg, _⟩ := h
  exact (Array.getElem?_eq_some_iff.1 hg).1
theorem RowI.free (h : RowI t k w g cap l) (o : Nat) : w.frozen? ⟨g, o, none⟩ = false := by
  obtain ⟨cur, hg, _⟩ := h
  simp [World.frozen?, hg]
theorem RowI.same (h : RowI t k w g cap l) (e : w'.heap[g]? = w.heap[g]?) : RowI t k w' g cap l := by
  obtain ⟨cur, hg, r⟩ := h
  exact ⟨cur, e.trans hg, r⟩
theorem RowI.later (h : RowI t k w g cap l) (hb : Adds w w') : RowI t k w' g cap l := h.same (hb.block g h.lt)
theorem RowI.touch {O : Nat → Prop} (h : RowI t k w g cap l) (hb : Touch O w w') (hn : ¬ O g) : RowI t k w' g cap l := h.same (hb.same g h.lt hn)
theorem RowI.far (h : RowI t k w g cap l) {p : Addr} (hp : g ≠ p.block) (u : Value) : RowI t k (w.setCell p u) g cap l := h.same (Below.heap_setCell w p u g hp)
theorem RowI.len (h : RowI t k w g cap l) : l.length ≤ cap ∧ cap ≤ maxLen := by
  obtain ⟨cur, _, _, h1, h2, _⟩ := h
  exact ⟨h1, h2⟩
theorem RowI.cell (h : RowI t k w g cap l) {j : Nat} {x : Int} (hj : l[j]? = some x) : w.cell? ⟨g, j, none⟩ = some (.int k x) := by
  obtain ⟨cur, hg, hs, hl, hm, ht⟩ := h
  have hlt := (List.getElem?_eq_some_iff.1 hj).1
  have : (cur.toList.take l.length)[j]? = some (.int k x) := by rw [ht, List.getElem?_map, hj]; rfl
  rw [List.getElem?_take, if_pos hlt] at this
  have : cur[j]? = some (.int k x) := by simpa using this
  simp [World.cell?, hg, this]
theorem RowI.own {base : Nat} (h : RowI t k w g cap l) (hb : base ≤ g) : w.ownsRow base t 1 (.slice (some ⟨g, 0, none⟩) l.length cap) l.length (l.map (Value.int k)) := by
  obtain ⟨cur, hg, hs, hl, hm, ht⟩ := h
  exact ⟨by simp, Or.inr ⟨g, cap, cur, rfl, hb, hg, hl, hm, by omega, by rw [Nat.mul_one]; exact ht⟩⟩
theorem own_rowI {base n : Nat} {v : Value} (h : w.ownsRow base t 1 v n (l.map (Value.int k))) :
    n = l.length ∧ ((v = .slice none 0 0 ∧ l = []) ∨ ∃ g cap, v = .slice (some ⟨g, 0, none⟩) l.length cap ∧ base ≤ g ∧ RowI t k w g cap l) := by
  obtain ⟨h1, h2⟩ := h
  rw [List.length_map] at h1
  have hn : n = l.length := by omega
  subst hn
  refine ⟨rfl, ?_⟩
  rcases h2 with ⟨hv, hz⟩ | ⟨g, cap, cur, hv, hb, hg, hl, hm, hs, ht⟩
  · exact Or.inl ⟨hv, List.length_eq_zero_iff.1 hz⟩
  · exact Or.inr ⟨g, cap, hv, hb, cur, hg, by omega, hl, hm, by rw [Nat.mul_one] at ht; exact ht⟩
theorem RowI.put (h : RowI t k w g cap l) (j : Nat) (x : Int) : RowI t k (w.setCell ⟨g, j, none⟩ (.int k x)) g cap (l.set j x) := by
  obtain ⟨cur, hg, hs, hl, hm, ht⟩ := h
  refine ⟨_, Box.set (t := t) hg j (.int k x), by simpa using hs, by simpa using hl, hm, ?_⟩
  rw [List.length_set, Array.toList_setIfInBounds, List.take_set, ht]
  simp [List.map_set]
theorem RowI.pre {m : List Int} (h : RowI t k w g cap (l ++ m)) : RowI t k w g cap l := by
  obtain ⟨cur, hg, hs, hl, hm, ht⟩ := h
  refine ⟨cur, hg, hs, by simp at hl; omega, hm, ?_⟩
  have : (cur.toList.take (l ++ m).length).take l.length = ((l ++ m).map (Value.int k)).take l.length := by rw [ht]
  rw [List.take_take, Nat.min_eq_left (by simp), List.map_append] at this
  have e : (l.map (Value.int k) ++ m.map (Value.int k)).take l.length = l.map (Value.int k) := by
    have := List.take_left (l₁ := l.map (Value.int k)) (l₂ := m.map (Value.int k))
    rwa [List.length_map] at this
  rw [e] at this
  exact this
end

theorem made_row {t : TypeId} {k : IntKind} {w : World} {base n : Nat} {v : Value} (h : w.ownsRow base t 1 v n (madeCells (Value.int k 0).cells (n * 1)).toList) : w.ownsRow base t 1 v n ((List.replicate n 0).map (Value.int k)) := by
  have e : (madeCells (Value.int k 0).cells (n * 1)).toList = (List.replicate n 0).map (Value.int k) := by
    rw [Nat.mul_one, List.map_replicate]
    exact toList_madeCells_one _ _
  rw [← e]
  exact h


theorem MapF.same {w w' : World} {bm n : Nat} {F : Int → Int} (h : MapF w bm n F) (e : w'.heap[bm]? = w.heap[bm]?) : MapF w' bm n F := by
  obtain ⟨D, ⟨es, c, h1, h2⟩, h3⟩ := h
  exact ⟨D, ⟨es, c, e.trans h1, h2⟩, h3⟩

theorem MapF.lt {w : World} {bm n : Nat} {F : Int → Int} (h : MapF w bm n F) : bm < w.heap.size := by
  obtain ⟨D, ⟨es, c, h1, h2⟩, h3⟩ := h
  exact (Array.getElem?_eq_some_iff.1 h1).1

theorem set_next {l : List Int} {m : Nat} {x : Int} (hm : 0 < m) : (l ++ List.replicate m 0).set l.length x = (l ++ [x]) ++ List.replicate (m - 1) 0 := by
  obtain ⟨k, rfl⟩ : ∃ k, m = k + 1 := ⟨m - 1, by omega⟩
  rw [List.replicate_succ, List.set_append_right _ _ (Nat.le_refl _), Nat.sub_self]
  simp

set_option maxRecDepth 100000 in
set_option maxHeartbeats 2000000 in
theorem Sample_ok (x0 : Int) (n k : Nat) (w : World) (h0 : 0 ≤ x0) (h1 : x0 < 18446744073709551616) (hk : k ≤ n) (hn : n ≤ 1000000) :
    Calls Try.prog 39 #[.int .u64 x0, .int .i64 n, .int .i64 k] w fun e w' => ∃ g x F l, e = .returned (.tuple #[.slice (some ⟨g, 0, none⟩) k k, .int .i64 0]) ∧ Samp n x0 k x F l ∧ RowI 3 .i64 w' g k l ∧ Adds w w' := by
  obtain ⟨j0, hj, hj0, hj1, hj2⟩ := info_parts info3'
  have HJ := Lib.hid hj
  have HJ0 := Lib.hid hj0
  have HJ1 := Lib.hid hj1
  have HJ2 := Lib.hid hj2
  clear hj hj0 hj1 hj2
  have hmm := @run_makeMap Try.prog
  have g1 : decide ((k : Int) < 0) = false := decide_eq_false (by omega)
  have g2 : decide ((n : Int) < (k : Int)) = false := decide_eq_false (by omega)
  have g3 : decide ((1000000 : Int) < (n : Int)) = false := decide_eq_false (by omega)
  go_enter Try.func39, Try.ntmps39
  go_wp2_with (first
    | (refine wpList_make_full _ rfl _ _ 77 rfl w.heap.size 3 j0 (.int .i64 0) 1 Try.underlying77 HJ.out HJ0.out HJ1.out .i64 .i64 (k : Int) (k : Int) k rfl rfl rfl rfl (by rw [HJ2.out]; omega) (by unfold maxLen; omega) (by simp; omega) ?_; intro y5 ho hg; have HO := Lib.hid (made_row ho); have HG := Lib.hid hg; clear ho hg)
    | go_in)
  have hz3 : (((w.alloc (Obj.cells #[Value.int IntKind.u64 x0] 139)).alloc (Obj.map #[] 0)).alloc (Obj.cells #[Value.map (some (w.heap.size + 1))] 140)).heap.size = w.heap.size + 3 := by simp
  have HBX : Hid (Box y5 w.heap.size #[.int .u64 x0] 139) := Lib.hid ((((Box.new w _ _).alloc _).alloc _).same (HG.out.block _ (by rw [hz3]; omega) (by simp)))
  have HMX : Hid (Box y5 (w.heap.size + 1 + 1) #[.map (some (w.heap.size + 1))] 140) := Lib.hid ((by
    have := Box.new ((w.alloc (Obj.cells #[Value.int IntKind.u64 x0] 139)).alloc (Obj.map #[] 0)) #[Value.map (some (w.heap.size + 1))] 140
    simpa using this : Box (((w.alloc (Obj.cells #[Value.int IntKind.u64 x0] 139)).alloc (Obj.map #[] 0)).alloc (Obj.cells #[Value.map (some (w.heap.size + 1))] 140)) (w.heap.size + 1 + 1) #[.map (some (w.heap.size + 1))] 140).same (HG.out.block _ (by rw [hz3]; omega) (by simp)))
  have HMF : Hid (MapF y5 (w.heap.size + 1) 0 (fun i => i)) := Lib.hid ((by
    have := MapF.made (w.alloc (Obj.cells #[Value.int IntKind.u64 x0] 139))
    have e : (w.alloc (Obj.cells #[Value.int IntKind.u64 x0] 139)).heap.size = w.heap.size + 1 := by simp
    rw [e] at this
    exact this.same (Below.heap_alloc _ _ _ (by simp)) : MapF (((w.alloc (Obj.cells #[Value.int IntKind.u64 x0] 139)).alloc (Obj.map #[] 0)).alloc (Obj.cells #[Value.map (some (w.heap.size + 1))] 140)) (w.heap.size + 1) 0 (fun i => i)).same (HG.out.block _ (by rw [hz3]; omega) (by simp)))
  have HRW : Hid (RowI 3 .i64 y5 (w.heap.size + 1 + 1 + 1) k (List.replicate k 0)) := Lib.hid (by
    obtain ⟨e1, e2⟩ := own_rowI HO.out
    rcases e2 with ⟨e2, _⟩ | ⟨g, cap, e2, _, e3⟩
    · cases e2
    · injection e2 with e4 e5 e6
      injection e4 with e4
      injection e4 with e4
      rw [hz3] at e4
      have e7 : g = w.heap.size + 1 + 1 + 1 := by omega
      subst e6
      rw [← e7]
      exact e3)
  have HAD : Hid (Adds w y5) := Lib.hid ((((Adds.refl w).alloc _).alloc _ |>.alloc _).grown HG.out (by simp; omega) (fun j hj => by cases hj))
  clear HO HG
  generalize hB : w.heap.size = B at *
  have HB := Lib.hid hB
  clear hB
  go_loopw [33] (fun v33 wr => ∃ (i : Nat) (x : Int) (F : Int → Int) (l : List Int), i ≤ k ∧ v33 = .int .i64 i ∧ Hid (Samp n x0 i x F l) ∧ Hid (Box wr B #[.int .u64 x] 139) ∧ Hid (Box wr (B + 1 + 1) #[.map (some (B + 1))] 140) ∧ Hid (MapF wr (B + 1) i F) ∧ Hid (RowI 3 .i64 wr (B + 1 + 1 + 1) k (l ++ List.replicate (k - i) 0)) ∧ Hid (Adds w wr)) (fun v33 _ => k - (intOf v33).toNat)
  case atStart => exact ⟨0, x0, _, [], Nat.zero_le _, rfl, Lib.hid .zero, HBX, HMX, HMF, HRW, HAD⟩
  case round =>
    clear HBX HMX HMF HRW HAD
    obtain ⟨i, x, F, l, hi, rfl, HS, hbx, hmx, hmf, hrw, had⟩ := hrel
    by_cases hik : i < k
    · have hik2 : (i : Int) < (k : Int) := by omega
      obtain ⟨s0, s1⟩ := HS.out.st h0 h1
      have hni : IntKind.u64.wrap ((n : Int) - (i : Int)) = (n : Int) - (i : Int) := by rw [u64_w]; omega
      go_upto_region 11 with (go_at_call 86; refine (below_any x ((n : Int) - (i : Int)) B wr s0 s1 (by omega) (by omega) hbx.out).mono ?_; rintro e w1 ⟨x', v, rfl, hd, hb1, ht1⟩; obtain ⟨v0, v1⟩ := hd.bd (by omega); have HD := Lib.hid hd; have HB1 := Lib.hid hb1; have HT1 := Lib.hid ht1; clear hd hb1 ht1)
      have hBw : w.heap.size = B := HB.out
      have hmxl := hmx.out.lt
      have hmfl := hmf.out.lt
      have hrwl := hrw.out.lt
      have hmx1 : Box w1 (B + 1 + 1) #[.map (some (B + 1))] 140 := hmx.out.same (HT1.out.same _ hmxl (by omega))
      have hmf1 : MapF w1 (B + 1) i F := hmf.out.same (HT1.out.same _ hmfl (by omega))
      have hrw1 : RowI 3 .i64 w1 (B + 1 + 1 + 1) k (l ++ List.replicate (k - i) 0) := hrw.out.touch HT1.out (by omega)
      have had1 : Adds w w1 := adds_touch2 had.out HT1.out (fun j hj => by omega)
      have hll := HS.out.length
      have hcz : (l ++ List.replicate (k - i) 0)[i]? = some (0 : Int) := by
        rw [List.getElem?_append_right (by omega), hll, Nat.sub_self, List.getElem?_replicate, if_pos (by omega)]
      have hcell : w1.cell? ⟨B + 1 + 1 + 1, i, none⟩ = some (.int .i64 0) := hrw1.cell hcz
      have hfree : w1.frozen? ⟨B + 1 + 1 + 1, i, none⟩ = false := hrw1.free i
      have hwf1 : (Lit.int .i64 ((i : Int) + v)).wf = true := WalkArith.wf_i64 (by omega)
      have hwf2 : (Lit.int .i64 (i : Int)).wf = true := WalkArith.wf_i64 (by omega)
      have hmc1 : w1.cell? ⟨B + 1 + 1, 0, none⟩ = some (.map (some (B + 1))) := by have := hmx1.cell 0; simpa using this
      obtain ⟨y, hy⟩ : ∃ y, y = F ((i : Int) + v) := ⟨_, rfl⟩
      have hel1 : Calls Try.prog 85 #[.int .i64 ((i : Int) + v), .pointer (some ⟨B + 1 + 1, 0, none⟩)] w1 fun e w' => e = .returned (.int .i64 y) ∧ w1 = w' := by rw [hy]; exact element_any _ _ _ _ _ _ hwf1 hmc1 hmf1
      have HEL1 := Lib.hid hel1
      have HY := Lib.hid hy
      have HMX1 := Lib.hid hmx1
      have HMF1 := Lib.hid hmf1
      have HRW1 := Lib.hid hrw1
      have HAD1 := Lib.hid had1
      clear hmx1 hmf1 hrw1 had1 hcz hel1 hy hmc1 hmx hmf hrw had hbx
      go_upto_region 12 with (go_at_call 85; refine HEL1.out.mono ?_; rintro e w' ⟨rfl, rfl⟩)
      clear hcell hfree
      obtain ⟨w2, hw2⟩ : ∃ w2, w2 = w1.setCell ⟨B + 1 + 1 + 1, i, none⟩ (.int .i64 y) := ⟨_, rfl⟩
      have hmx2 : Box w2 (B + 1 + 1) #[.map (some (B + 1))] 140 := by rw [hw2]; exact HMX1.out.far (by simp) _
      have hbx2 : Box w2 B #[.int .u64 x'] 139 := by rw [hw2]; exact HB1.out.far (by simp; omega) _
      have hmf2 : MapF w2 (B + 1) i F := by rw [hw2]; exact HMF1.out.same (Below.heap_setCell _ _ _ _ (by simp))
      have hrw2 : RowI 3 .i64 w2 (B + 1 + 1 + 1) k ((l ++ List.replicate (k - i) 0).set i y) := by rw [hw2]; exact HRW1.out.put i y
      have had2 : Adds w w2 := by rw [hw2]; exact HAD1.out.set (by simp; omega) _
      have hmc2 : w2.cell? ⟨B + 1 + 1, 0, none⟩ = some (.map (some (B + 1))) := by have := hmx2.cell 0; simpa using this
      have hel2 : Calls Try.prog 85 #[.int .i64 (i : Int), .pointer (some ⟨B + 1 + 1, 0, none⟩)] w2.drew fun e w' => e = .returned (.int .i64 (F i)) ∧ w' = w2.drew := (element_any _ _ _ _ _ w2.drew hwf2 hmc2 (hmf2.same rfl)).mono (by rintro e w' ⟨rfl, rfl⟩; exact ⟨rfl, rfl⟩)
      rw [← hw2]
      clear hw2
      have hkey : keyOf Try.prog 3 (.int .i64 ((i : Int) + v)) = some (.int .i64 ((i : Int) + v)) := keyOf_int_mk Try.underlying3 hwf1
      obtain ⟨D, hown, hD⟩ := hmf2
      have HOWN := Lib.hid hown.drew
      have HDD := Lib.hid hD
      have HBX2 := Lib.hid hbx2.drew
      have HMX2 := Lib.hid hmx2.drew
      have HRW2 := Lib.hid (hrw2.same (w' := w2.drew) rfl)
      have HAD2 := Lib.hid had2.drew
      clear hown hD hbx2 hmx2 hrw2 had2
      refine wp_region_still_tail 5 (by kernel_rfl) (by kernel_rfl) ?_
      simp only [List.take_succ_cons, List.take_zero, List.drop_succ_cons, List.drop_zero]
      repeat still_step
      still_call hel2
      repeat still_step
      try refine wpStill_nil ?_
      change wpList _ _ _ _ _ w2.drew
      clear hel2 hmc2
      obtain ⟨w3, hw3⟩ : ∃ w3, w3 = w2.drew := ⟨_, rfl⟩
      rw [← hw3] at HOWN HBX2 HMX2 HRW2 HAD2 ⊢
      clear hw3
      obtain ⟨a1, ha1⟩ : ∃ a1, a1 = F i := ⟨_, rfl⟩
      have hwfa : (Lit.int .i64 a1).wf = true := WalkArith.wf_i64 (by
        have := HS.out.apart.2.2.1 i (by omega) (by omega)
        rw [ha1]; omega)
      have HA1 := Lib.hid ha1
      rw [← ha1]
      clear ha1
      go_wp2_with (first
        | (at_mapUpdate; refine wpList_mapUpdate_own _ rfl _ _ _ 140 rfl 3 3 law3m und140 (plainElem (H := Unit) Try.prog 3) (B + 1) i D rfl HOWN.out (by unfold maxLen; omega) _ _ _ rfl rfl hkey _ [] (plainElem_int Try.underlying3 hwfa) ?_; intro w4 hown4 hgr4; have HW4 := Lib.hid hown4; have HG4 := Lib.hid hgr4; clear hown4 hgr4)
        | go_in)
      have hHY := HY.out
      have hHA := HA1.out
      refine ⟨⟨i + 1, x', updF F ((i : Int) + v) (F i), l ++ [F ((i : Int) + v)], by omega, by go_num, Lib.hid (.step HS.out (by omega) HD.out), ?_, ?_, ?_, ?_, ?_⟩, by simp [intOf]; omega⟩
      · exact Lib.hid (HBX2.out.same (HG4.out.block _ HBX2.out.lt (by simp)))
      · exact Lib.hid (HMX2.out.same (HG4.out.block _ HMX2.out.lt (by simp)))
      · refine Lib.hid ?_
        rw [← hHA]
        exact MapF.put HDD.out HOWN.out.isMap _ _ HW4.out
      · refine Lib.hid ?_
        have := HRW2.out.same (HG4.out.block _ HRW2.out.lt (by simp; omega))
        rw [← hll, set_next (by omega), hHY, hll] at this
        have e : k - i - 1 = k - (i + 1) := by omega
        rw [e] at this
        exact this
      · exact Lib.hid (HAD2.out.grown HG4.out HAD2.out.size (fun j hj => by injection hj with hj; omega))
    · have : i = k := by omega
      subst this
      go_wp2_with fail
      go_ret2
      have hll := HS.out.length
      refine ⟨_, x, F, l, rfl, HS.out, ?_, had.out⟩
      have := hrw.out
      rw [Nat.sub_self] at this
      simpa using this

end Go.Proofs.Ytofaioabjkcaiaa
