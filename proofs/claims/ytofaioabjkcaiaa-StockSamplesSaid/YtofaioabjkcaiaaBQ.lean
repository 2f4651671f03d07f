/- Changed of the register. -/
import Derived.Test.YtofaioabjkcaiaaBP
namespace Go.Proofs.Ytofaioabjkcaiaa
open Go.RowKit

attribute [local go_sem] Oper.semAt_some

theorem w64_in' (n : Int) (h : -9223372036854775808 ≤ n ∧ n ≤ 9223372036854775807) : wrap64 n = n := by unfold wrap64; omega
theorem i64_w' (n : Int) : IntKind.i64.wrap n = wrap64 n := by rw [IntKind.wrap_i64]; unfold wrap64; rfl

theorem keep_free {w w' : World} (h : Adds w w') {b o : Nat} {v : Value} (hc : w.cell? ⟨b, o, none⟩ = some v) (hf : w.frozen? ⟨b, o, none⟩ = false) : w'.frozen? ⟨b, o, none⟩ = false := by
  have hb := h.block b (cell_lt hc)
  unfold World.frozen? at hf ⊢
  simp only at hf ⊢
  rw [hb]
  exact hf

/-- Between two rounds of the loop. -/
def DI (w W8 : World) (lb : Nat) (O : Nat → Prop) (pre : List (Int × Int)) (V : World) : Prop :=
  ∃ hv, O = (fun k => k = lb ∨ hv.ownBlock = some k) ∧ Box V lb #[hv] 55 ∧ V.ownsRow W8.heap.size 32 2 hv (accT pre).length ((accT pre).flatMap spanCells) ∧ lb < W8.heap.size ∧ Adds w V ∧ W8.heap.size ≤ V.heap.size

theorem DI.keeps {w W8 : World} {lb : Nat} {O : Nat → Prop} {pre : List (Int × Int)} {V V' : World} (hw : w.heap.size ≤ W8.heap.size) (h : DI w W8 lb O pre V) (hk : Keeps W8.heap.size O V V') : DI w W8 lb O pre V' := by
  obtain ⟨hv, rfl, h1, h2, h3, h8, h9⟩ := h
  exact ⟨hv, rfl, h1.same (hk.same _ h1.lt (Or.inr (Or.inl rfl))), ownsRow_same h2 (fun g hg => hk.same g (h2.lt g hg).2 (Or.inr (Or.inr hg))), h3, adds_keeps h8 hw hk, Nat.le_trans h9 hk.size⟩

theorem info32 : (Try.prog.info? 32).map (fun i => (i.zero, i.size, i.bytes)) = some (some (.agg #[.int .i64 0, .int .i64 0]), 2, 16) := by kernel_rfl

/-- The world behind the append of a span. -/
theorem span_fin {w W8 V2 Va Vb Vc : World} {lb g cap : Nat} {hv : Value} {pre : List (Int × Int)} {x : Int × Int} (hx : accT (pre ++ [x]) = accT pre ++ [x]) (hlw : w.heap.size ≤ lb)
    (h1 : Box V2 lb #[hv] 55) (h2 : V2.ownsRow W8.heap.size 32 2 hv (accT pre).length ((accT pre).flatMap spanCells)) (h3 : lb < W8.heap.size) (h8 : Adds w V2) (h9 : W8.heap.size ≤ V2.heap.size) (Aa : Adds V2 Va) (Ab : Adds Va Vb)
    (hown : Vc.ownsRow W8.heap.size 32 2 (.slice (some ⟨g, 0, none⟩) ((accT pre).length + 1) cap) ((accT pre).length + 1) ((accT pre).flatMap spanCells ++ spanCells x))
    (hgrow : Vb.grownBy Vc hv.ownBlock) (hgat : hv.ownBlock = some g ∨ g = Vb.heap.size) :
    ∃ O', DI w W8 lb O' (pre ++ [x]) (Vc.setCell ⟨lb, 0, none⟩ (.slice (some ⟨g, 0, none⟩) ((accT pre).length + 1) cap)) ∧
      Grow (fun k => k = lb ∨ hv.ownBlock = some k) V2 O' (Vc.setCell ⟨lb, 0, none⟩ (.slice (some ⟨g, 0, none⟩) ((accT pre).length + 1) cap)) := by
  have z1 := Aa.size
  have z2 := Ab.size
  have z3 := hgrow.size
  have hown2 : ∀ k, hv.ownBlock = some k → W8.heap.size ≤ k ∧ k < V2.heap.size := fun k hk => h2.lt k hk
  have ngl : ∀ k, k < W8.heap.size → some k ≠ hv.ownBlock := fun k hk e => by have := (hown2 k e.symm).1; omega
  have hg8 : W8.heap.size ≤ g := by rcases hgat with h | h; exact (hown2 g h).1; omega
  have A2 := Aa.trans Ab
  have bL : Box Vc lb #[hv] 55 := (h1.later A2).same (hgrow.block lb (by omega) (ngl lb h3))
  refine ⟨fun k => k = lb ∨ (Value.slice (some ⟨g, 0, none⟩) ((accT pre).length + 1) cap).ownBlock = some k, ⟨_, rfl, ?_, ?_, h3, ?_, ?_⟩, ⟨⟨?_, ?_, ?_, ?_, ?_⟩, ?_⟩⟩
  · exact bL.set 0 _
  · rw [hx]
    have := ownsRow_setCell_other hown (a := ⟨lb, 0, none⟩) (by simp [Value.ownBlock]; omega) (.slice (some ⟨g, 0, none⟩) ((accT pre).length + 1) cap)
    simpa using this
  · refine Adds.set (a := w) (b := Vc) ⟨hgrow.os.trans (A2.os.trans h8.os), hgrow.tape.trans (A2.tape.trans h8.tape), hgrow.output.trans (A2.output.trans h8.output), by have := h8.size; omega, fun k hk => ?_⟩ hlw _
    have := h8.size
    rw [hgrow.block k (by omega) (fun e => by have := (hown2 k e.symm).1; omega), A2.block k (by omega)]
    exact h8.block k hk
  · simp [World.setCell]; omega
  · exact hgrow.os.trans A2.os
  · exact hgrow.tape.trans A2.tape
  · exact hgrow.output.trans A2.output
  · simp [World.setCell]; omega
  · intro k hk hn
    rw [Below.heap_setCell _ _ _ _ (fun e => hn (Or.inl e)), hgrow.block k (by omega) (fun e => hn (Or.inr e.symm))]
    exact A2.block k hk
  · rintro k (hk | hk)
    · exact Or.inl (Or.inl hk)
    · simp only [Value.ownBlock, Option.some.injEq] at hk
      subst hk
      rcases hgat with h | h
      · exact Or.inl (Or.inr h)
      · exact Or.inr (by omega)

/-- The world behind a span made longer. -/
theorem long_fin {w W8 V2 Va : World} {lb g cap m : Nat} {pre ini : List (Int × Int)} {x y : Int × Int} (hacc : accT pre = ini ++ [y]) (hm : ini.length = m) (hj : y.2 + 1 = x.1)
    (h1 : Box V2 lb #[.slice (some ⟨g, 0, none⟩) (m + 1) cap] 55) (h2 : V2.ownsRow W8.heap.size 32 2 (.slice (some ⟨g, 0, none⟩) (m + 1) cap) (accT pre).length ((accT pre).flatMap spanCells)) (h3 : lb < W8.heap.size) (hlw : w.heap.size ≤ W8.heap.size) (h8 : Adds w V2) (h9 : W8.heap.size ≤ V2.heap.size) (Aa : Adds V2 Va) :
    ∃ O', DI w W8 lb O' (pre ++ [x]) (Va.setCell ⟨g, m * 2 + 1, none⟩ (.int .i64 (x.2 - y.1 + 1))) ∧
      Grow (fun k => k = lb ∨ (Value.slice (some ⟨g, 0, none⟩) (m + 1) cap).ownBlock = some k) V2 O' (Va.setCell ⟨g, m * 2 + 1, none⟩ (.int .i64 (x.2 - y.1 + 1))) := by
  have hgb : W8.heap.size ≤ g ∧ g < V2.heap.size := h2.lt g rfl
  have hlen : (accT pre).length = m + 1 := by rw [hacc]; simp [hm]
  have hx : accT (pre ++ [x]) = ini ++ [(y.1, x.2)] := by
    rw [accT_snoc, hacc, joinAdd_last (by simp : (ini ++ [y]).getLast? = some y), if_pos hj, List.dropLast_concat]
  have h2a : Va.ownsRow W8.heap.size 32 2 (.slice (some ⟨g, 0, none⟩) (m + 1) cap) (accT pre).length ((accT pre).flatMap spanCells) := ownsRow_same h2 (fun k hk => Aa.block k (h2.lt k hk).2)
  refine ⟨fun k => k = lb ∨ (Value.slice (some ⟨g, 0, none⟩) (m + 1) cap).ownBlock = some k, ⟨_, rfl, ?_, ?_, h3, ?_, ?_⟩, ⟨⟨?_, ?_, ?_, ?_, ?_⟩, fun k hk => Or.inl hk⟩⟩
  · exact (h1.later Aa).far (by show lb ≠ g; omega) _
  · rw [hx]
    rw [hlen, hacc] at h2a
    have := owns_put (j := m * 2 + 1) (u := .int .i64 (x.2 - y.1 + 1)) h2a
    rw [show m * 2 + 1 = 2 * ini.length + 1 by omega, flat_set, ← show m * 2 + 1 = 2 * ini.length + 1 by omega] at this
    rw [show (ini ++ [(y.1, x.2)]).length = m + 1 by simp [hm]]
    exact this
  · exact (h8.trans Aa).set (by show w.heap.size ≤ g; omega) _
  · have := Aa.size
    simp [World.setCell]; omega
  · exact Aa.os
  · exact Aa.tape
  · exact Aa.output
  · have := Aa.size
    simp [World.setCell]; omega
  · intro k hk hn
    rw [Below.heap_setCell _ _ _ _ (fun e => hn (Or.inr (by simp [Value.ownBlock, e])))]
    exact Aa.block k hk

/-- What Changed returns where there are both versions. -/
def ChangedGot (w : World) (ds : List (Int × Int)) (e : Ending) (w' : World) : Prop :=
  ∃ hv, e = .returned (.tuple #[hv, .int .i64 0]) ∧ w'.ownsRow w.heap.size 32 2 hv ds.length (ds.flatMap spanCells) ∧ Adds w w'

set_option maxRecDepth 100000 in
set_option maxHeartbeats 4000000 in
theorem changed_ok (B s : Nat) (v : Value) (bs : List Nat) (Ts : List Tree) (a b : Nat) (w : World) (hS0 : StockAt B w s v bs Ts) (ha : a ≤ bs.length) (hb : b ≤ bs.length) :
    Calls Try.prog 28 #[.pointer (some ⟨s, 0, none⟩), .int .i64 a, .int .i64 b] w (ChangedGot w (joinD (diffT 1000000 (treeOf Ts a) (treeOf Ts b)))) := by
  have HS := Lib.hid hS0.tight
  clear hS0
  refine calls_marks Try.func28 rfl ?_
  simp only [Try.ntmps28, List.size_toArray, List.length_cons, List.length_nil, Nat.reduceAdd, Nat.reduceSub, Array.replicate_succ, Array.replicate_zero, List.push_toArray, List.append_toArray, List.nil_append, List.cons_append]
  go_upto_region 2 with (go_at_call 58; refine (tree_any w.heap.size s v bs Ts a _ HS.out ha).mono ?_; rintro e w5 ⟨b1, rfl, ht, hok, hb5⟩; have HT1 := Lib.hid ht; have HK1 := Lib.hid hok; have HB5 := Lib.hid hb5; clear ht hok hb5)
  go_upto_region 5 with (go_at_call 58; refine (tree_any w.heap.size s v bs Ts b _ (HS.out.later HB5.out) hb).mono ?_; rintro e w6 ⟨b2, rfl, ht, hok, hb6⟩; have HT2 := Lib.hid ht; have HK2 := Lib.hid hok; have HB6 := Lib.hid hb6; clear ht hok hb6)
  obtain ⟨T1, hT1⟩ : ∃ T, T = treeOf Ts a := ⟨_, rfl⟩
  obtain ⟨T2, hT2⟩ : ∃ T, T = treeOf Ts b := ⟨_, rfl⟩
  rw [← hT1] at HT1 HK1 ⊢
  rw [← hT2] at HT2 HK2 ⊢
  have HTE1 := Lib.hid hT1
  have HTE2 := Lib.hid hT2
  clear hT1 hT2 HS
  obtain ⟨lb, hlb⟩ : ∃ b, b = w6.heap.size := ⟨_, rfl⟩
  obtain ⟨W7, hW7⟩ : ∃ W, W = w6.alloc (.cells #[.slice none 0 0] 55) := ⟨_, rfl⟩
  have A7 : Adds w6 W7 := by rw [hW7]; exact (Adds.refl _).alloc _
  have X7 : Box W7 lb #[.slice none 0 0] 55 := by rw [hW7, hlb]; exact Box.new _ _ _
  have HLB := Lib.hid hlb
  have HA7 := Lib.hid A7
  have HX7 := Lib.hid X7
  go_upto_region 8 with fail
  rw [← hlb, ← hW7]
  clear hW7 hlb A7 X7
  go_wp2_with fail
  refine (diffs_any b1 b2 _).mono ?_
  rintro e W8 ⟨nb, ob, rfl, hnb, hob, gn, go, hb8⟩
  have HNB := Lib.hid hnb
  have HOB := Lib.hid hob
  have HB8 := Lib.hid hb8
  clear hnb hob hb8
  go_wp2_with fail
  have HIT := Lib.hid (diffs_iter b1 b2 nb ob T1 T2 W8 (fun k => k ≠ lb)
    (((((HT1.out.lt.mono (fun k hk => by have := hk.2; have := HB6.out.size; have := HLB.out; omega)).later HB6.out).later HA7.out).later HB8.out))
    ((((HT2.out.lt.mono (fun k hk => by have := hk.2; have := HLB.out; omega)).later HA7.out).later HB8.out))
    HK1.out HK2.out HNB.out HOB.out)
  have w8 : Adds w W8 := ((HB5.out.trans HB6.out).trans HA7.out).trans HB8.out
  have hl8 : lb < W8.heap.size := by have := HX7.out.lt; have := HB8.out.size; omega
  have hlw : w.heap.size ≤ lb := by have := HLB.out; have := (HB5.out.trans HB6.out).size; omega
  have hdo := diff_ok HK1.out HK2.out
  obtain ⟨XS, hXS⟩ : ∃ XS, XS = diffT 1000000 T1 T2 := ⟨_, rfl⟩
  rw [← hXS] at HIT hdo
  have HXS := Lib.hid hXS
  have HDO := Lib.hid hdo
  have HW8 := Lib.hid w8
  have HX8 := Lib.hid (HX7.out.later HB8.out)
  clear hdo hXS HT1 HT2 HK1 HK2 HNB HOB HB5 HB6 HA7 HB8 HX7 HLB
  refine wp_rangeFunc_iter (w0 := W8) (xs := XS) (encs := encD) rfl (fun args w => by go_simp) HIT.out (Adds.refl _) (fun x => rfl)
    (DI w W8 lb) (fun _ _ _ _ => False) (fun k => k = lb) ?_ ?_ ?_ ?_ ?_ ?_ ?_ ?_
  · intro k hk he
    exact hk he
  · rintro O pre V ⟨hv, rfl, h1, h2, _⟩ k (rfl | hk)
    · exact h1.lt
    · exact (h2.lt k hk).2
  · intro O pre V V' h hk
    exact h.keeps w8.size hk
  · intro c O pre V V' h _; exact h
  · exact ⟨.slice none 0 0, by funext k; simp [Value.ownBlock], HX8.out, World.ownsRow_nil _ _ _ _, hl8, w8, Nat.le_refl _⟩
  · rintro l d O pre ⟨xa, xc⟩ rest V hxs hl1 hd1 hl2 hd2 nol nod hI0
    have hpo : ∀ y ∈ pre, SpanOk y := fun y hy => HDO.out.2 y (by rw [← hxs]; simp [hy])
    have hxo : SpanOk (xa, xc) := HDO.out.2 _ (by rw [← hxs]; simp)
    have hpl : pre.length ≤ 1000000 := by have := HDO.out.1; rw [← hxs] at this; simp at this; omega
    obtain ⟨hacc, haccl⟩ := accT_ok hpo
    have HACC := Lib.hid hacc
    have hal : (accT pre).length ≤ 1000000 := by omega
    obtain ⟨hxa, hxc, hxm⟩ := hxo
    simp only at hxa hxc hxm
    clear hpo hxs hpl haccl hacc
    have hV8 : W8.heap.size ≤ V.heap.size := by obtain ⟨_, _, _, _, _, _, h⟩ := hI0; exact h
    have HI0 := Lib.hid hI0
    clear hI0
    simp only [encD, List.zip_toArray, List.zip_cons_cons, List.zip_nil_right, List.foldl_toArray, List.foldl_cons, List.foldl_nil, List.setIfInBounds_toArray, List.set_cons_zero, List.set_cons_succ]
    gi_wp2_with fail
    refine ⟨(Adds.refl V).alloc _, fun V2 e1 e2 hI hk => ?_⟩
    obtain ⟨hv, rfl, h1, h2, h3, h8, h9⟩ := hI
    have x13 : Box V2 V.heap.size #[.int .i64 xa, .int .i64 xc] 124 := (Box.new V #[.int .i64 xa, .int .i64 xc] 124).same (e2 _ (by omega))
    have l0 := h1.cell 0
    have lf := h1.free 0
    have q0 := x13.cell 0
    have q1 := x13.cell 1
    simp only [List.getElem?_toArray, List.getElem?_cons_zero, List.getElem?_cons_succ] at l0 q0 q1
    have H1 := Lib.hid h1
    have H2 := Lib.hid h2
    have HA2 := Lib.hid h8
    have HOV : Hid (∀ k, hv.ownBlock = some k → k < V.heap.size) := Lib.hid (fun k hk => by
      have hgk := h2.lt k hk
      obtain ⟨hv', hO, g1, g2, _⟩ := HI0.out
      have : (fun k => k = lb ∨ hv.ownBlock = some k) k := Or.inr hk
      rw [hO] at this
      rcases this with h | h
      · omega
      · exact (g2.lt k h).2)
    have HE1 := Lib.hid e1
    clear e1 e2 h1 x13 HI0
    rcases List.eq_nil_or_concat (accT pre) with hnil | ⟨ini, y, hac⟩
    · have hn0 : (accT pre).length = 0 := by rw [hnil]; rfl
      have hx : accT (pre ++ [(xa, xc)]) = accT pre ++ [(xa, xc)] := by rw [accT_snoc, joinAdd_none hnil, hnil]; rfl
      have hvv : hv = .slice none 0 0 ∨ ∃ g cap, hv = .slice (some ⟨g, 0, none⟩) 0 cap := by
        obtain ⟨_, h⟩ := h2
        rcases h with ⟨h, _⟩ | ⟨g, cap, cur, h, _⟩
        · exact Or.inl h
        · exact Or.inr ⟨g, cap, by rw [h, hn0]⟩
      have HXX := Lib.hid hx
      clear h2 hx
      have HAL := Lib.hid hal
      rcases hvv with rfl | ⟨g, cap, rfl⟩
      · gi_wp2_with fail
        refine wpIn_region_held_drew (S := fun w' => True) (by kernel_rfl) (by kernel_rfl) (by rintro ⟨_, _, h⟩; exact h) trivial (fun hHeld => ?_)
        refine wpAnyH_take (i := 0) (oi := ⟨some 39, _, _, _, _, _⟩) (v := ?v1) rfl (by kernel_rfl) (by kernel_rfl) (by kernel_rfl) (fun _ _ _ h => h) (Or.inl ⟨by rfl, ?hy1⟩) (by assumption) ?rest1
        case hy1 => (intro w hSw; (try dsimp only at hSw); go_simp; try with_reducible rfl)
        try simp only [Act.put, List.setIfInBounds_toArray, List.set_cons_zero, List.set_cons_succ]
        refine wpAnyH_take (i := 1) (oi := ⟨some 40, _, _, _, _, _⟩) (v := ?v2) rfl (by kernel_rfl) (by kernel_rfl) (by kernel_rfl) (fun _ _ _ h => h) (Or.inl ⟨by rfl, ?hy2⟩) (by assumption) ?rest2
        case hy2 => (intro w hSw; (try dsimp only at hSw); go_simp; try with_reducible rfl)
        try simp only [Act.put, List.setIfInBounds_toArray, List.set_cons_zero, List.set_cons_succ]
        refine wpAnyH_take (i := 2) (oi := ⟨some 41, _, _, _, _, _⟩) (v := ?v3) rfl (by kernel_rfl) (by kernel_rfl) (by kernel_rfl) (fun _ _ _ h => h) (Or.inl ⟨by rfl, ?hy3⟩) (by assumption) ?rest3
        case hy3 => (intro w hSw; (try dsimp only at hSw); go_simp; try with_reducible rfl)
        try simp only [Act.put, List.setIfInBounds_toArray, List.set_cons_zero, List.set_cons_succ]
        refine wpAnyH_take (i := 3) (oi := ⟨some 42, _, _, _, _, _⟩) (v := undef) rfl (by kernel_rfl) (by kernel_rfl) (by kernel_rfl) (fun _ _ _ h => h) (Or.inr ⟨by rfl, rfl⟩) (by assumption) ?_
        try simp only [Act.put, List.setIfInBounds_toArray, List.set_cons_zero, List.set_cons_succ]
        refine wpAnyH_take (i := 4) (oi := ⟨some 43, _, _, _, _, _⟩) (v := undef) rfl (by kernel_rfl) (by kernel_rfl) (by kernel_rfl) (fun _ _ _ h => h) (Or.inr ⟨by rfl, rfl⟩) (by assumption) ?_
        try simp only [Act.put, List.setIfInBounds_toArray, List.set_cons_zero, List.set_cons_succ]
        refine wpAnyH_take (i := 5) (oi := ⟨some 44, _, _, _, _, _⟩) (v := undef) rfl (by kernel_rfl) (by kernel_rfl) (by kernel_rfl) (fun _ _ _ h => h) (Or.inr ⟨by rfl, rfl⟩) (by assumption) ?_
        try simp only [Act.put, List.setIfInBounds_toArray, List.set_cons_zero, List.set_cons_succ]
        refine wpAnyH_take (i := 6) (oi := ⟨some 45, _, _, _, _, _⟩) (v := undef) rfl (by kernel_rfl) (by kernel_rfl) (by kernel_rfl) (fun _ _ _ h => h) (Or.inr ⟨by rfl, rfl⟩) (by assumption) ?_
        try simp only [Act.put, List.setIfInBounds_toArray, List.set_cons_zero, List.set_cons_succ]
        refine wpAnyH_take (i := 7) (oi := ⟨some 46, _, _, _, _, _⟩) (v := undef) rfl (by kernel_rfl) (by kernel_rfl) (by kernel_rfl) (fun _ _ _ h => h) (Or.inr ⟨by rfl, rfl⟩) (by assumption) ?_
        try simp only [Act.put, List.setIfInBounds_toArray, List.set_cons_zero, List.set_cons_succ]
        refine wpAnyH_take (i := 8) (oi := ⟨some 47, _, _, _, _, _⟩) (v := undef) rfl (by kernel_rfl) (by kernel_rfl) (by kernel_rfl) (fun _ _ _ h => h) (Or.inr ⟨by rfl, rfl⟩) (by assumption) ?_
        try simp only [Act.put, List.setIfInBounds_toArray, List.set_cons_zero, List.set_cons_succ]
        refine wpAnyH_take (i := 9) (oi := ⟨some 48, _, _, _, _, _⟩) (v := undef) rfl (by kernel_rfl) (by kernel_rfl) (by kernel_rfl) (fun _ _ _ h => h) (Or.inr ⟨by rfl, rfl⟩) (by assumption) ?_
        try simp only [Act.put, List.setIfInBounds_toArray, List.set_cons_zero, List.set_cons_succ]
        refine wpAnyH_take (i := 10) (oi := ⟨some 49, _, _, _, _, _⟩) (v := undef) rfl (by kernel_rfl) (by kernel_rfl) (by kernel_rfl) (fun _ _ _ h => h) (Or.inr ⟨by rfl, rfl⟩) (by assumption) ?_
        try simp only [Act.put, List.setIfInBounds_toArray, List.set_cons_zero, List.set_cons_succ]
        refine wpAnyH_take (i := 11) (oi := ⟨some 50, _, _, _, _, _⟩) (v := undef) rfl (by kernel_rfl) (by kernel_rfl) (by kernel_rfl) (fun _ _ _ h => h) (Or.inr ⟨by rfl, rfl⟩) (by assumption) ?_
        try simp only [Act.put, List.setIfInBounds_toArray, List.set_cons_zero, List.set_cons_succ]
        refine wpAnyH_take (i := 12) (oi := ⟨some 51, _, _, _, _, _⟩) (v := undef) rfl (by kernel_rfl) (by kernel_rfl) (by kernel_rfl) (fun _ _ _ h => h) (Or.inr ⟨by rfl, rfl⟩) (by assumption) ?_
        try simp only [Act.put, List.setIfInBounds_toArray, List.set_cons_zero, List.set_cons_succ]
        refine wpAnyH_take (i := 13) (oi := ⟨some 52, _, _, _, _, _⟩) (v := undef) rfl (by kernel_rfl) (by kernel_rfl) (by kernel_rfl) (fun _ _ _ h => h) (Or.inr ⟨by rfl, rfl⟩) (by assumption) ?_
        try simp only [Act.put, List.setIfInBounds_toArray, List.set_cons_zero, List.set_cons_succ]
        refine wpAnyH_take (i := 14) (oi := ⟨some 53, _, _, _, _, _⟩) (v := undef) rfl (by kernel_rfl) (by kernel_rfl) (by kernel_rfl) (fun _ _ _ h => h) (Or.inr ⟨by rfl, rfl⟩) (by assumption) ?_
        try simp only [Act.put, List.setIfInBounds_toArray, List.set_cons_zero, List.set_cons_succ]
        refine wpAnyH_take (i := 15) (oi := ⟨some 54, _, _, _, _, _⟩) (v := undef) rfl (by kernel_rfl) (by kernel_rfl) (by kernel_rfl) (fun _ _ _ h => h) (Or.inr ⟨by rfl, rfl⟩) (by assumption) ?_
        try simp only [Act.put, List.setIfInBounds_toArray, List.set_cons_zero, List.set_cons_succ]
        refine wpAnyH_take (i := 16) (oi := ⟨some 55, _, _, _, _, _⟩) (v := undef) rfl (by kernel_rfl) (by kernel_rfl) (by kernel_rfl) (fun _ _ _ h => h) (Or.inr ⟨by rfl, rfl⟩) (by assumption) ?_
        try simp only [Act.put, List.setIfInBounds_toArray, List.set_cons_zero, List.set_cons_succ]
        refine wpAnyH_take (i := 17) (oi := ⟨some 56, _, _, _, _, _⟩) (v := ?v4) rfl (by kernel_rfl) (by kernel_rfl) (by kernel_rfl) (fun _ _ _ h => h) (Or.inl ⟨by rfl, ?hy4⟩) (by assumption) ?rest4
        case hy4 => (intro w hSw; (try dsimp only at hSw); go_simp; try with_reducible rfl)
        try simp only [Act.put, List.setIfInBounds_toArray, List.set_cons_zero, List.set_cons_succ]
        refine wpAnyH_done (by kernel_rfl) ?_ _
        gi_wp2_with fail
        obtain ⟨V3, hV3⟩ : ∃ W, W = V2.drew := ⟨_, rfl⟩
        have A23 : Adds V2 V3 := by rw [hV3]; exact (Adds.refl V2).drew
        rw [← hV3]
        clear hV3
        have a0 := keep_cell A23 q0
        have a1 := keep_cell A23 q1
        have l1 := keep_cell A23 l0
        refine wpIn_region_held_drew (S := fun w' => w'.cell? ⟨V.heap.size, 0, none⟩ = some (.int .i64 xa) ∧ w'.cell? ⟨V.heap.size, 1, none⟩ = some (.int .i64 xc)) (by kernel_rfl) (by kernel_rfl) (by rintro ⟨_, _, h⟩; exact h) ⟨a0, a1⟩ (fun hHeld => ?_)
        refine wpAnyH_take (i := 1) (oi := ⟨some 68, _, _, _, _, _⟩) (v := ?v5) rfl (by kernel_rfl) (by kernel_rfl) (by kernel_rfl) (fun _ _ _ h => h) (Or.inl ⟨by rfl, ?hy5⟩) (by assumption) ?rest5
        case hy5 => (intro w hSw; (try dsimp only at hSw); go_simp; try with_reducible rfl)
        try simp only [Act.put, List.setIfInBounds_toArray, List.set_cons_zero, List.set_cons_succ]
        clear hHeld
        have l1d : V3.drew.cell? ⟨lb, 0, none⟩ = some (Value.slice none 0 0) := l1
        refine wpAnyH_ready (rs := [0, 2]) (by kernel_rfl) (by simp) ?_
        refine AllReadyH.cons (o := ⟨some 67, _, _, _, _, _⟩) rfl (fun K hK => ?_) ?_
        · go_simp
          refine hK.out _ _ ⟨a0, a1⟩ (fun hHeld => ?_)
          clear hK K hHeld
          try simp only [Act.put, List.setIfInBounds_toArray, List.set_cons_zero, List.set_cons_succ]
          refine wpAnyH_ready (rs := [2]) (by kernel_rfl) (by simp) ?_
          refine AllReadyH.cons (o := ⟨some 69, _, _, _, _, _⟩) rfl (fun K hK => ?_) AllReadyH.nil
          go_simp
          refine (span_any xa xc _ hxa hxm hxc).mono ?_
          rintro e Vf ⟨rfl, hbf⟩
          have Af : Adds V3 Vf := (Adds.refl V3).drew.trans hbf
          have b0 := keep_cell Af a0
          have b1 := keep_cell Af a1
          have l2 := keep_cell Af l1
          refine hK.out _ _ ⟨b0, b1⟩ (fun hHeld => ?_)
          clear hK K hHeld
          try simp only [Act.put, List.setIfInBounds_toArray, List.set_cons_zero, List.set_cons_succ]
          refine wpAnyH_ready (rs := [3]) (by kernel_rfl) (by simp) ?_
          refine AllReadyH.cons (o := ⟨some 70, _, _, _, _, _⟩) rfl (fun K hK => ?_) AllReadyH.nil
          go_simp
          obtain ⟨Vb, hVb⟩ : ∃ X, X = Vf.alloc (.cells #[.int .i64 xa, .int .i64 (xc - xa + 1)] 32) := ⟨_, rfl⟩
          rw [← hVb]
          have Ab : Adds Vf Vb := by rw [hVb]; exact (Adds.refl _).alloc _
          have X9 : Vb.heap[Vf.heap.size]? = some (.cells #[.int .i64 xa, .int .i64 (xc - xa + 1)] 32 (0, 0)) := by rw [hVb]; exact Box.new _ _ _
          have c0 := keep_cell Ab b0
          have c1 := keep_cell Ab b1
          have l3 := keep_cell Ab l2
          have HX9 := Lib.hid X9
          clear hVb X9
          refine hK.out _ _ ⟨c0, c1⟩ (fun hHeld => ?_)
          clear hK K hHeld
          try simp only [Act.put, List.setIfInBounds_toArray, List.set_cons_zero, List.set_cons_succ]
          obtain ⟨i0, hi0, hz0, hz1, hz2⟩ := info_parts info32
          have HR10 := Lib.hid (ownsRow_same H2.out (fun g hg => ((A23.trans Af).trans Ab).block g (H2.out.lt g hg).2))
          have hX9l : Vf.heap.size < Vb.heap.size := lt_of_block HX9.out
          have zab := ((A23.trans Af).trans Ab).size
          have nown : ∀ k, V.heap.size ≤ k → some k ≠ (Value.slice none 0 0).ownBlock := fun k hk e => by have := HOV.out k e.symm; omega
          refine wpAnyH_ready (rs := [4]) (by kernel_rfl) (by simp) ?_
          refine AllReadyH.cons (o := ⟨some 71, _, _, _, _, _⟩) rfl (fun K hK => ?_) AllReadyH.nil
          refine step_append_lies _ (by rfl) _ _ _ (by rfl) W8.heap.size 32 i0 _ 2 16 Try.underlying55 hi0 hz0 hz1 hz2 rfl (by omega) (Value.slice none 0 0) (accT pre).length ((accT pre).flatMap spanCells) (by rfl) HR10.out ⟨Vf.heap.size, 0, none⟩ 1 1 (spanCells (xa, xc)) (by rfl) (by rfl) (World.news_of_block HX9.out) (by simp [Value.oneCell', spanCells]) (by omega) (by have := HAL.out; unfold maxLen; omega) (by have := HAL.out; omega) (by omega) Vb.heap.size rfl ?_
          intro g9 cap9 Vc hownc hgrow hgat hglt
          have HOWN := Lib.hid hownc
          have HGAT := Lib.hid hgat
          have d0' := (hgrow.cell_far ⟨V.heap.size, 0, none⟩ (by exact cell_lt c0) (nown _ (by show V.heap.size ≤ V.heap.size; omega))).trans c0
          have d1' := (hgrow.cell_far ⟨V.heap.size, 1, none⟩ (by exact cell_lt c0) (nown _ (by show V.heap.size ≤ V.heap.size; omega))).trans c1
          have bL : Box Vc lb #[Value.slice none 0 0] 55 := (H1.out.later ((A23.trans Af).trans Ab)).same (hgrow.block _ (by have := H1.out.lt; omega) (fun e => by have := (H2.out.lt _ e.symm).1; omega))
          have r1' := bL.cell 0
          have rf0 := bL.free 0
          simp only [List.getElem?_toArray, List.getElem?_cons_zero] at r1'
          clear hownc bL hgat
          refine hK.out _ _ ⟨d0', d1'⟩ (fun hHeld => ?_)
          clear hK K hHeld
          try simp only [Act.put, List.setIfInBounds_toArray, List.set_cons_zero, List.set_cons_succ]
          refine wpAnyH_ready (rs := [5]) (by kernel_rfl) (by simp) ?_
          refine AllReadyH.cons (o := ⟨none, _, _, _, _, _⟩) rfl (fun K hK => ?_) AllReadyH.nil
          go_simp
          have u1 : lb ≠ V.heap.size := by omega
          refine hK.out _ _ ⟨by rw [World.cell?_setCell_far _ _ _ _ (by exact u1)]; exact d0', by rw [World.cell?_setCell_far _ _ _ _ (by exact u1)]; exact d1'⟩ (fun hHeld => ?_)
          clear hK K hHeld
          try simp only [Act.put, List.setIfInBounds_toArray, List.set_cons_zero, List.set_cons_succ]
          refine wpAnyH_done (by kernel_rfl) ?_ _
          gi_wp2_with fail
          have hfin := span_fin (lb := lb) HXX.out hlw H1.out H2.out h3 h8 h9 (A23.trans Af) Ab HOWN.out hgrow HGAT.out
          first | exact hfin | (rw [hn0] at hfin; exact hfin)
        · refine AllReadyH.cons (o := ⟨some 69, _, _, _, _, _⟩) rfl (fun K hK => ?_) AllReadyH.nil
          go_simp
          refine (span_any xa xc _ hxa hxm hxc).mono ?_
          rintro e Vf ⟨rfl, hbf⟩
          have Af : Adds V3 Vf := (Adds.refl V3).drew.trans hbf
          have b0 := keep_cell Af a0
          have b1 := keep_cell Af a1
          have l2 := keep_cell Af l1
          refine hK.out _ _ ⟨b0, b1⟩ (fun hHeld => ?_)
          clear hK K hHeld
          try simp only [Act.put, List.setIfInBounds_toArray, List.set_cons_zero, List.set_cons_succ]
          refine wpAnyH_ready (rs := [0, 3]) (by kernel_rfl) (by simp) ?_
          refine AllReadyH.cons (o := ⟨some 67, _, _, _, _, _⟩) rfl (fun K hK => ?_) ?_
          · go_simp
            refine hK.out _ _ ⟨b0, b1⟩ (fun hHeld => ?_)
            clear hK K hHeld
            try simp only [Act.put, List.setIfInBounds_toArray, List.set_cons_zero, List.set_cons_succ]
            refine wpAnyH_ready (rs := [3]) (by kernel_rfl) (by simp) ?_
            refine AllReadyH.cons (o := ⟨some 70, _, _, _, _, _⟩) rfl (fun K hK => ?_) AllReadyH.nil
            go_simp
            obtain ⟨Vb, hVb⟩ : ∃ X, X = Vf.alloc (.cells #[.int .i64 xa, .int .i64 (xc - xa + 1)] 32) := ⟨_, rfl⟩
            rw [← hVb]
            have Ab : Adds Vf Vb := by rw [hVb]; exact (Adds.refl _).alloc _
            have X9 : Vb.heap[Vf.heap.size]? = some (.cells #[.int .i64 xa, .int .i64 (xc - xa + 1)] 32 (0, 0)) := by rw [hVb]; exact Box.new _ _ _
            have c0 := keep_cell Ab b0
            have c1 := keep_cell Ab b1
            have l3 := keep_cell Ab l2
            have HX9 := Lib.hid X9
            clear hVb X9
            refine hK.out _ _ ⟨c0, c1⟩ (fun hHeld => ?_)
            clear hK K hHeld
            try simp only [Act.put, List.setIfInBounds_toArray, List.set_cons_zero, List.set_cons_succ]
            obtain ⟨i0, hi0, hz0, hz1, hz2⟩ := info_parts info32
            have HR10 := Lib.hid (ownsRow_same H2.out (fun g hg => ((A23.trans Af).trans Ab).block g (H2.out.lt g hg).2))
            have hX9l : Vf.heap.size < Vb.heap.size := lt_of_block HX9.out
            have zab := ((A23.trans Af).trans Ab).size
            have nown : ∀ k, V.heap.size ≤ k → some k ≠ (Value.slice none 0 0).ownBlock := fun k hk e => by have := HOV.out k e.symm; omega
            refine wpAnyH_ready (rs := [4]) (by kernel_rfl) (by simp) ?_
            refine AllReadyH.cons (o := ⟨some 71, _, _, _, _, _⟩) rfl (fun K hK => ?_) AllReadyH.nil
            refine step_append_lies _ (by rfl) _ _ _ (by rfl) W8.heap.size 32 i0 _ 2 16 Try.underlying55 hi0 hz0 hz1 hz2 rfl (by omega) (Value.slice none 0 0) (accT pre).length ((accT pre).flatMap spanCells) (by rfl) HR10.out ⟨Vf.heap.size, 0, none⟩ 1 1 (spanCells (xa, xc)) (by rfl) (by rfl) (World.news_of_block HX9.out) (by simp [Value.oneCell', spanCells]) (by omega) (by have := HAL.out; unfold maxLen; omega) (by have := HAL.out; omega) (by omega) Vb.heap.size rfl ?_
            intro g9 cap9 Vc hownc hgrow hgat hglt
            have HOWN := Lib.hid hownc
            have HGAT := Lib.hid hgat
            have d0' := (hgrow.cell_far ⟨V.heap.size, 0, none⟩ (by exact cell_lt c0) (nown _ (by show V.heap.size ≤ V.heap.size; omega))).trans c0
            have d1' := (hgrow.cell_far ⟨V.heap.size, 1, none⟩ (by exact cell_lt c0) (nown _ (by show V.heap.size ≤ V.heap.size; omega))).trans c1
            have bL : Box Vc lb #[Value.slice none 0 0] 55 := (H1.out.later ((A23.trans Af).trans Ab)).same (hgrow.block _ (by have := H1.out.lt; omega) (fun e => by have := (H2.out.lt _ e.symm).1; omega))
            have r1' := bL.cell 0
            have rf0 := bL.free 0
            simp only [List.getElem?_toArray, List.getElem?_cons_zero] at r1'
            clear hownc bL hgat
            refine hK.out _ _ ⟨d0', d1'⟩ (fun hHeld => ?_)
            clear hK K hHeld
            try simp only [Act.put, List.setIfInBounds_toArray, List.set_cons_zero, List.set_cons_succ]
            refine wpAnyH_ready (rs := [5]) (by kernel_rfl) (by simp) ?_
            refine AllReadyH.cons (o := ⟨none, _, _, _, _, _⟩) rfl (fun K hK => ?_) AllReadyH.nil
            go_simp
            have u1 : lb ≠ V.heap.size := by omega
            refine hK.out _ _ ⟨by rw [World.cell?_setCell_far _ _ _ _ (by exact u1)]; exact d0', by rw [World.cell?_setCell_far _ _ _ _ (by exact u1)]; exact d1'⟩ (fun hHeld => ?_)
            clear hK K hHeld
            try simp only [Act.put, List.setIfInBounds_toArray, List.set_cons_zero, List.set_cons_succ]
            refine wpAnyH_done (by kernel_rfl) ?_ _
            gi_wp2_with fail
            have hfin := span_fin (lb := lb) HXX.out hlw H1.out H2.out h3 h8 h9 (A23.trans Af) Ab HOWN.out hgrow HGAT.out
            first | exact hfin | (rw [hn0] at hfin; exact hfin)
          · refine AllReadyH.cons (o := ⟨some 70, _, _, _, _, _⟩) rfl (fun K hK => ?_) AllReadyH.nil
            go_simp
            obtain ⟨Vb, hVb⟩ : ∃ X, X = Vf.alloc (.cells #[.int .i64 xa, .int .i64 (xc - xa + 1)] 32) := ⟨_, rfl⟩
            rw [← hVb]
            have Ab : Adds Vf Vb := by rw [hVb]; exact (Adds.refl _).alloc _
            have X9 : Vb.heap[Vf.heap.size]? = some (.cells #[.int .i64 xa, .int .i64 (xc - xa + 1)] 32 (0, 0)) := by rw [hVb]; exact Box.new _ _ _
            have c0 := keep_cell Ab b0
            have c1 := keep_cell Ab b1
            have l3 := keep_cell Ab l2
            have HX9 := Lib.hid X9
            clear hVb X9
            refine hK.out _ _ ⟨c0, c1⟩ (fun hHeld => ?_)
            clear hK K hHeld
            try simp only [Act.put, List.setIfInBounds_toArray, List.set_cons_zero, List.set_cons_succ]
            refine wpAnyH_ready (rs := [0]) (by kernel_rfl) (by simp) ?_
            refine AllReadyH.cons (o := ⟨some 67, _, _, _, _, _⟩) rfl (fun K hK => ?_) AllReadyH.nil
            go_simp
            refine hK.out _ _ ⟨c0, c1⟩ (fun hHeld => ?_)
            clear hK K hHeld
            try simp only [Act.put, List.setIfInBounds_toArray, List.set_cons_zero, List.set_cons_succ]
            obtain ⟨i0, hi0, hz0, hz1, hz2⟩ := info_parts info32
            have HR10 := Lib.hid (ownsRow_same H2.out (fun g hg => ((A23.trans Af).trans Ab).block g (H2.out.lt g hg).2))
            have hX9l : Vf.heap.size < Vb.heap.size := lt_of_block HX9.out
            have zab := ((A23.trans Af).trans Ab).size
            have nown : ∀ k, V.heap.size ≤ k → some k ≠ (Value.slice none 0 0).ownBlock := fun k hk e => by have := HOV.out k e.symm; omega
            refine wpAnyH_ready (rs := [4]) (by kernel_rfl) (by simp) ?_
            refine AllReadyH.cons (o := ⟨some 71, _, _, _, _, _⟩) rfl (fun K hK => ?_) AllReadyH.nil
            refine step_append_lies _ (by rfl) _ _ _ (by rfl) W8.heap.size 32 i0 _ 2 16 Try.underlying55 hi0 hz0 hz1 hz2 rfl (by omega) (Value.slice none 0 0) (accT pre).length ((accT pre).flatMap spanCells) (by rfl) HR10.out ⟨Vf.heap.size, 0, none⟩ 1 1 (spanCells (xa, xc)) (by rfl) (by rfl) (World.news_of_block HX9.out) (by simp [Value.oneCell', spanCells]) (by omega) (by have := HAL.out; unfold maxLen; omega) (by have := HAL.out; omega) (by omega) Vb.heap.size rfl ?_
            intro g9 cap9 Vc hownc hgrow hgat hglt
            have HOWN := Lib.hid hownc
            have HGAT := Lib.hid hgat
            have d0' := (hgrow.cell_far ⟨V.heap.size, 0, none⟩ (by exact cell_lt c0) (nown _ (by show V.heap.size ≤ V.heap.size; omega))).trans c0
            have d1' := (hgrow.cell_far ⟨V.heap.size, 1, none⟩ (by exact cell_lt c0) (nown _ (by show V.heap.size ≤ V.heap.size; omega))).trans c1
            have bL : Box Vc lb #[Value.slice none 0 0] 55 := (H1.out.later ((A23.trans Af).trans Ab)).same (hgrow.block _ (by have := H1.out.lt; omega) (fun e => by have := (H2.out.lt _ e.symm).1; omega))
            have r1' := bL.cell 0
            have rf0 := bL.free 0
            simp only [List.getElem?_toArray, List.getElem?_cons_zero] at r1'
            clear hownc bL hgat
            refine hK.out _ _ ⟨d0', d1'⟩ (fun hHeld => ?_)
            clear hK K hHeld
            try simp only [Act.put, List.setIfInBounds_toArray, List.set_cons_zero, List.set_cons_succ]
            refine wpAnyH_ready (rs := [5]) (by kernel_rfl) (by simp) ?_
            refine AllReadyH.cons (o := ⟨none, _, _, _, _, _⟩) rfl (fun K hK => ?_) AllReadyH.nil
            go_simp
            have u1 : lb ≠ V.heap.size := by omega
            refine hK.out _ _ ⟨by rw [World.cell?_setCell_far _ _ _ _ (by exact u1)]; exact d0', by rw [World.cell?_setCell_far _ _ _ _ (by exact u1)]; exact d1'⟩ (fun hHeld => ?_)
            clear hK K hHeld
            try simp only [Act.put, List.setIfInBounds_toArray, List.set_cons_zero, List.set_cons_succ]
            refine wpAnyH_done (by kernel_rfl) ?_ _
            gi_wp2_with fail
            have hfin := span_fin (lb := lb) HXX.out hlw H1.out H2.out h3 h8 h9 (A23.trans Af) Ab HOWN.out hgrow HGAT.out
            first | exact hfin | (rw [hn0] at hfin; exact hfin)
      · gi_wp2_with fail
        refine wpIn_region_held_drew (S := fun w' => True) (by kernel_rfl) (by kernel_rfl) (by rintro ⟨_, _, h⟩; exact h) trivial (fun hHeld => ?_)
        refine wpAnyH_take (i := 0) (oi := ⟨some 39, _, _, _, _, _⟩) (v := ?v6) rfl (by kernel_rfl) (by kernel_rfl) (by kernel_rfl) (fun _ _ _ h => h) (Or.inl ⟨by rfl, ?hy6⟩) (by assumption) ?rest6
        case hy6 => (intro w hSw; (try dsimp only at hSw); go_simp; try with_reducible rfl)
        try simp only [Act.put, List.setIfInBounds_toArray, List.set_cons_zero, List.set_cons_succ]
        refine wpAnyH_take (i := 1) (oi := ⟨some 40, _, _, _, _, _⟩) (v := ?v7) rfl (by kernel_rfl) (by kernel_rfl) (by kernel_rfl) (fun _ _ _ h => h) (Or.inl ⟨by rfl, ?hy7⟩) (by assumption) ?rest7
        case hy7 => (intro w hSw; (try dsimp only at hSw); go_simp; try with_reducible rfl)
        try simp only [Act.put, List.setIfInBounds_toArray, List.set_cons_zero, List.set_cons_succ]
        refine wpAnyH_take (i := 2) (oi := ⟨some 41, _, _, _, _, _⟩) (v := ?v8) rfl (by kernel_rfl) (by kernel_rfl) (by kernel_rfl) (fun _ _ _ h => h) (Or.inl ⟨by rfl, ?hy8⟩) (by assumption) ?rest8
        case hy8 => (intro w hSw; (try dsimp only at hSw); go_simp; try with_reducible rfl)
        try simp only [Act.put, List.setIfInBounds_toArray, List.set_cons_zero, List.set_cons_succ]
        refine wpAnyH_take (i := 3) (oi := ⟨some 42, _, _, _, _, _⟩) (v := undef) rfl (by kernel_rfl) (by kernel_rfl) (by kernel_rfl) (fun _ _ _ h => h) (Or.inr ⟨by rfl, rfl⟩) (by assumption) ?_
        try simp only [Act.put, List.setIfInBounds_toArray, List.set_cons_zero, List.set_cons_succ]
        refine wpAnyH_take (i := 4) (oi := ⟨some 43, _, _, _, _, _⟩) (v := undef) rfl (by kernel_rfl) (by kernel_rfl) (by kernel_rfl) (fun _ _ _ h => h) (Or.inr ⟨by rfl, rfl⟩) (by assumption) ?_
        try simp only [Act.put, List.setIfInBounds_toArray, List.set_cons_zero, List.set_cons_succ]
        refine wpAnyH_take (i := 5) (oi := ⟨some 44, _, _, _, _, _⟩) (v := undef) rfl (by kernel_rfl) (by kernel_rfl) (by kernel_rfl) (fun _ _ _ h => h) (Or.inr ⟨by rfl, rfl⟩) (by assumption) ?_
        try simp only [Act.put, List.setIfInBounds_toArray, List.set_cons_zero, List.set_cons_succ]
        refine wpAnyH_take (i := 6) (oi := ⟨some 45, _, _, _, _, _⟩) (v := undef) rfl (by kernel_rfl) (by kernel_rfl) (by kernel_rfl) (fun _ _ _ h => h) (Or.inr ⟨by rfl, rfl⟩) (by assumption) ?_
        try simp only [Act.put, List.setIfInBounds_toArray, List.set_cons_zero, List.set_cons_succ]
        refine wpAnyH_take (i := 7) (oi := ⟨some 46, _, _, _, _, _⟩) (v := undef) rfl (by kernel_rfl) (by kernel_rfl) (by kernel_rfl) (fun _ _ _ h => h) (Or.inr ⟨by rfl, rfl⟩) (by assumption) ?_
        try simp only [Act.put, List.setIfInBounds_toArray, List.set_cons_zero, List.set_cons_succ]
        refine wpAnyH_take (i := 8) (oi := ⟨some 47, _, _, _, _, _⟩) (v := undef) rfl (by kernel_rfl) (by kernel_rfl) (by kernel_rfl) (fun _ _ _ h => h) (Or.inr ⟨by rfl, rfl⟩) (by assumption) ?_
        try simp only [Act.put, List.setIfInBounds_toArray, List.set_cons_zero, List.set_cons_succ]
        refine wpAnyH_take (i := 9) (oi := ⟨some 48, _, _, _, _, _⟩) (v := undef) rfl (by kernel_rfl) (by kernel_rfl) (by kernel_rfl) (fun _ _ _ h => h) (Or.inr ⟨by rfl, rfl⟩) (by assumption) ?_
        try simp only [Act.put, List.setIfInBounds_toArray, List.set_cons_zero, List.set_cons_succ]
        refine wpAnyH_take (i := 10) (oi := ⟨some 49, _, _, _, _, _⟩) (v := undef) rfl (by kernel_rfl) (by kernel_rfl) (by kernel_rfl) (fun _ _ _ h => h) (Or.inr ⟨by rfl, rfl⟩) (by assumption) ?_
        try simp only [Act.put, List.setIfInBounds_toArray, List.set_cons_zero, List.set_cons_succ]
        refine wpAnyH_take (i := 11) (oi := ⟨some 50, _, _, _, _, _⟩) (v := undef) rfl (by kernel_rfl) (by kernel_rfl) (by kernel_rfl) (fun _ _ _ h => h) (Or.inr ⟨by rfl, rfl⟩) (by assumption) ?_
        try simp only [Act.put, List.setIfInBounds_toArray, List.set_cons_zero, List.set_cons_succ]
        refine wpAnyH_take (i := 12) (oi := ⟨some 51, _, _, _, _, _⟩) (v := undef) rfl (by kernel_rfl) (by kernel_rfl) (by kernel_rfl) (fun _ _ _ h => h) (Or.inr ⟨by rfl, rfl⟩) (by assumption) ?_
        try simp only [Act.put, List.setIfInBounds_toArray, List.set_cons_zero, List.set_cons_succ]
        refine wpAnyH_take (i := 13) (oi := ⟨some 52, _, _, _, _, _⟩) (v := undef) rfl (by kernel_rfl) (by kernel_rfl) (by kernel_rfl) (fun _ _ _ h => h) (Or.inr ⟨by rfl, rfl⟩) (by assumption) ?_
        try simp only [Act.put, List.setIfInBounds_toArray, List.set_cons_zero, List.set_cons_succ]
        refine wpAnyH_take (i := 14) (oi := ⟨some 53, _, _, _, _, _⟩) (v := undef) rfl (by kernel_rfl) (by kernel_rfl) (by kernel_rfl) (fun _ _ _ h => h) (Or.inr ⟨by rfl, rfl⟩) (by assumption) ?_
        try simp only [Act.put, List.setIfInBounds_toArray, List.set_cons_zero, List.set_cons_succ]
        refine wpAnyH_take (i := 15) (oi := ⟨some 54, _, _, _, _, _⟩) (v := undef) rfl (by kernel_rfl) (by kernel_rfl) (by kernel_rfl) (fun _ _ _ h => h) (Or.inr ⟨by rfl, rfl⟩) (by assumption) ?_
        try simp only [Act.put, List.setIfInBounds_toArray, List.set_cons_zero, List.set_cons_succ]
        refine wpAnyH_take (i := 16) (oi := ⟨some 55, _, _, _, _, _⟩) (v := undef) rfl (by kernel_rfl) (by kernel_rfl) (by kernel_rfl) (fun _ _ _ h => h) (Or.inr ⟨by rfl, rfl⟩) (by assumption) ?_
        try simp only [Act.put, List.setIfInBounds_toArray, List.set_cons_zero, List.set_cons_succ]
        refine wpAnyH_take (i := 17) (oi := ⟨some 56, _, _, _, _, _⟩) (v := ?v9) rfl (by kernel_rfl) (by kernel_rfl) (by kernel_rfl) (fun _ _ _ h => h) (Or.inl ⟨by rfl, ?hy9⟩) (by assumption) ?rest9
        case hy9 => (intro w hSw; (try dsimp only at hSw); go_simp; try with_reducible rfl)
        try simp only [Act.put, List.setIfInBounds_toArray, List.set_cons_zero, List.set_cons_succ]
        refine wpAnyH_done (by kernel_rfl) ?_ _
        gi_wp2_with fail
        obtain ⟨V3, hV3⟩ : ∃ W, W = V2.drew := ⟨_, rfl⟩
        have A23 : Adds V2 V3 := by rw [hV3]; exact (Adds.refl V2).drew
        rw [← hV3]
        clear hV3
        have a0 := keep_cell A23 q0
        have a1 := keep_cell A23 q1
        have l1 := keep_cell A23 l0
        refine wpIn_region_held_drew (S := fun w' => w'.cell? ⟨V.heap.size, 0, none⟩ = some (.int .i64 xa) ∧ w'.cell? ⟨V.heap.size, 1, none⟩ = some (.int .i64 xc)) (by kernel_rfl) (by kernel_rfl) (by rintro ⟨_, _, h⟩; exact h) ⟨a0, a1⟩ (fun hHeld => ?_)
        refine wpAnyH_take (i := 1) (oi := ⟨some 68, _, _, _, _, _⟩) (v := ?v10) rfl (by kernel_rfl) (by kernel_rfl) (by kernel_rfl) (fun _ _ _ h => h) (Or.inl ⟨by rfl, ?hy10⟩) (by assumption) ?rest10
        case hy10 => (intro w hSw; (try dsimp only at hSw); go_simp; try with_reducible rfl)
        try simp only [Act.put, List.setIfInBounds_toArray, List.set_cons_zero, List.set_cons_succ]
        clear hHeld
        have l1d : V3.drew.cell? ⟨lb, 0, none⟩ = some (Value.slice (some ⟨g, 0, none⟩) 0 cap) := l1
        refine wpAnyH_ready (rs := [0, 2]) (by kernel_rfl) (by simp) ?_
        refine AllReadyH.cons (o := ⟨some 67, _, _, _, _, _⟩) rfl (fun K hK => ?_) ?_
        · go_simp
          refine hK.out _ _ ⟨a0, a1⟩ (fun hHeld => ?_)
          clear hK K hHeld
          try simp only [Act.put, List.setIfInBounds_toArray, List.set_cons_zero, List.set_cons_succ]
          refine wpAnyH_ready (rs := [2]) (by kernel_rfl) (by simp) ?_
          refine AllReadyH.cons (o := ⟨some 69, _, _, _, _, _⟩) rfl (fun K hK => ?_) AllReadyH.nil
          go_simp
          refine (span_any xa xc _ hxa hxm hxc).mono ?_
          rintro e Vf ⟨rfl, hbf⟩
          have Af : Adds V3 Vf := (Adds.refl V3).drew.trans hbf
          have b0 := keep_cell Af a0
          have b1 := keep_cell Af a1
          have l2 := keep_cell Af l1
          refine hK.out _ _ ⟨b0, b1⟩ (fun hHeld => ?_)
          clear hK K hHeld
          try simp only [Act.put, List.setIfInBounds_toArray, List.set_cons_zero, List.set_cons_succ]
          refine wpAnyH_ready (rs := [3]) (by kernel_rfl) (by simp) ?_
          refine AllReadyH.cons (o := ⟨some 70, _, _, _, _, _⟩) rfl (fun K hK => ?_) AllReadyH.nil
          go_simp
          obtain ⟨Vb, hVb⟩ : ∃ X, X = Vf.alloc (.cells #[.int .i64 xa, .int .i64 (xc - xa + 1)] 32) := ⟨_, rfl⟩
          rw [← hVb]
          have Ab : Adds Vf Vb := by rw [hVb]; exact (Adds.refl _).alloc _
          have X9 : Vb.heap[Vf.heap.size]? = some (.cells #[.int .i64 xa, .int .i64 (xc - xa + 1)] 32 (0, 0)) := by rw [hVb]; exact Box.new _ _ _
          have c0 := keep_cell Ab b0
          have c1 := keep_cell Ab b1
          have l3 := keep_cell Ab l2
          have HX9 := Lib.hid X9
          clear hVb X9
          refine hK.out _ _ ⟨c0, c1⟩ (fun hHeld => ?_)
          clear hK K hHeld
          try simp only [Act.put, List.setIfInBounds_toArray, List.set_cons_zero, List.set_cons_succ]
          obtain ⟨i0, hi0, hz0, hz1, hz2⟩ := info_parts info32
          have HR10 := Lib.hid (ownsRow_same H2.out (fun g hg => ((A23.trans Af).trans Ab).block g (H2.out.lt g hg).2))
          have hX9l : Vf.heap.size < Vb.heap.size := lt_of_block HX9.out
          have zab := ((A23.trans Af).trans Ab).size
          have nown : ∀ k, V.heap.size ≤ k → some k ≠ (Value.slice (some ⟨g, 0, none⟩) 0 cap).ownBlock := fun k hk e => by have := HOV.out k e.symm; omega
          refine wpAnyH_ready (rs := [4]) (by kernel_rfl) (by simp) ?_
          refine AllReadyH.cons (o := ⟨some 71, _, _, _, _, _⟩) rfl (fun K hK => ?_) AllReadyH.nil
          refine step_append_lies _ (by rfl) _ _ _ (by rfl) W8.heap.size 32 i0 _ 2 16 Try.underlying55 hi0 hz0 hz1 hz2 rfl (by omega) (Value.slice (some ⟨g, 0, none⟩) 0 cap) (accT pre).length ((accT pre).flatMap spanCells) (by rfl) HR10.out ⟨Vf.heap.size, 0, none⟩ 1 1 (spanCells (xa, xc)) (by rfl) (by rfl) (World.news_of_block HX9.out) (by simp [Value.oneCell', spanCells]) (by omega) (by have := HAL.out; unfold maxLen; omega) (by have := HAL.out; omega) (by omega) Vb.heap.size rfl ?_
          intro g9 cap9 Vc hownc hgrow hgat hglt
          have HOWN := Lib.hid hownc
          have HGAT := Lib.hid hgat
          have d0' := (hgrow.cell_far ⟨V.heap.size, 0, none⟩ (by exact cell_lt c0) (nown _ (by show V.heap.size ≤ V.heap.size; omega))).trans c0
          have d1' := (hgrow.cell_far ⟨V.heap.size, 1, none⟩ (by exact cell_lt c0) (nown _ (by show V.heap.size ≤ V.heap.size; omega))).trans c1
          have bL : Box Vc lb #[Value.slice (some ⟨g, 0, none⟩) 0 cap] 55 := (H1.out.later ((A23.trans Af).trans Ab)).same (hgrow.block _ (by have := H1.out.lt; omega) (fun e => by have := (H2.out.lt _ e.symm).1; omega))
          have r1' := bL.cell 0
          have rf0 := bL.free 0
          simp only [List.getElem?_toArray, List.getElem?_cons_zero] at r1'
          clear hownc bL hgat
          refine hK.out _ _ ⟨d0', d1'⟩ (fun hHeld => ?_)
          clear hK K hHeld
          try simp only [Act.put, List.setIfInBounds_toArray, List.set_cons_zero, List.set_cons_succ]
          refine wpAnyH_ready (rs := [5]) (by kernel_rfl) (by simp) ?_
          refine AllReadyH.cons (o := ⟨none, _, _, _, _, _⟩) rfl (fun K hK => ?_) AllReadyH.nil
          go_simp
          have u1 : lb ≠ V.heap.size := by omega
          refine hK.out _ _ ⟨by rw [World.cell?_setCell_far _ _ _ _ (by exact u1)]; exact d0', by rw [World.cell?_setCell_far _ _ _ _ (by exact u1)]; exact d1'⟩ (fun hHeld => ?_)
          clear hK K hHeld
          try simp only [Act.put, List.setIfInBounds_toArray, List.set_cons_zero, List.set_cons_succ]
          refine wpAnyH_done (by kernel_rfl) ?_ _
          gi_wp2_with fail
          have hfin := span_fin (lb := lb) HXX.out hlw H1.out H2.out h3 h8 h9 (A23.trans Af) Ab HOWN.out hgrow HGAT.out
          first | exact hfin | (rw [hn0] at hfin; exact hfin)
        · refine AllReadyH.cons (o := ⟨some 69, _, _, _, _, _⟩) rfl (fun K hK => ?_) AllReadyH.nil
          go_simp
          refine (span_any xa xc _ hxa hxm hxc).mono ?_
          rintro e Vf ⟨rfl, hbf⟩
          have Af : Adds V3 Vf := (Adds.refl V3).drew.trans hbf
          have b0 := keep_cell Af a0
          have b1 := keep_cell Af a1
          have l2 := keep_cell Af l1
          refine hK.out _ _ ⟨b0, b1⟩ (fun hHeld => ?_)
          clear hK K hHeld
          try simp only [Act.put, List.setIfInBounds_toArray, List.set_cons_zero, List.set_cons_succ]
          refine wpAnyH_ready (rs := [0, 3]) (by kernel_rfl) (by simp) ?_
          refine AllReadyH.cons (o := ⟨some 67, _, _, _, _, _⟩) rfl (fun K hK => ?_) ?_
          · go_simp
            refine hK.out _ _ ⟨b0, b1⟩ (fun hHeld => ?_)
            clear hK K hHeld
            try simp only [Act.put, List.setIfInBounds_toArray, List.set_cons_zero, List.set_cons_succ]
            refine wpAnyH_ready (rs := [3]) (by kernel_rfl) (by simp) ?_
            refine AllReadyH.cons (o := ⟨some 70, _, _, _, _, _⟩) rfl (fun K hK => ?_) AllReadyH.nil
            go_simp
            obtain ⟨Vb, hVb⟩ : ∃ X, X = Vf.alloc (.cells #[.int .i64 xa, .int .i64 (xc - xa + 1)] 32) := ⟨_, rfl⟩
            rw [← hVb]
            have Ab : Adds Vf Vb := by rw [hVb]; exact (Adds.refl _).alloc _
            have X9 : Vb.heap[Vf.heap.size]? = some (.cells #[.int .i64 xa, .int .i64 (xc - xa + 1)] 32 (0, 0)) := by rw [hVb]; exact Box.new _ _ _
            have c0 := keep_cell Ab b0
            have c1 := keep_cell Ab b1
            have l3 := keep_cell Ab l2
            have HX9 := Lib.hid X9
            clear hVb X9
            refine hK.out _ _ ⟨c0, c1⟩ (fun hHeld => ?_)
            clear hK K hHeld
            try simp only [Act.put, List.setIfInBounds_toArray, List.set_cons_zero, List.set_cons_succ]
            obtain ⟨i0, hi0, hz0, hz1, hz2⟩ := info_parts info32
            have HR10 := Lib.hid (ownsRow_same H2.out (fun g hg => ((A23.trans Af).trans Ab).block g (H2.out.lt g hg).2))
            have hX9l : Vf.heap.size < Vb.heap.size := lt_of_block HX9.out
            have zab := ((A23.trans Af).trans Ab).size
            have nown : ∀ k, V.heap.size ≤ k → some k ≠ (Value.slice (some ⟨g, 0, none⟩) 0 cap).ownBlock := fun k hk e => by have := HOV.out k e.symm; omega
            refine wpAnyH_ready (rs := [4]) (by kernel_rfl) (by simp) ?_
            refine AllReadyH.cons (o := ⟨some 71, _, _, _, _, _⟩) rfl (fun K hK => ?_) AllReadyH.nil
            refine step_append_lies _ (by rfl) _ _ _ (by rfl) W8.heap.size 32 i0 _ 2 16 Try.underlying55 hi0 hz0 hz1 hz2 rfl (by omega) (Value.slice (some ⟨g, 0, none⟩) 0 cap) (accT pre).length ((accT pre).flatMap spanCells) (by rfl) HR10.out ⟨Vf.heap.size, 0, none⟩ 1 1 (spanCells (xa, xc)) (by rfl) (by rfl) (World.news_of_block HX9.out) (by simp [Value.oneCell', spanCells]) (by omega) (by have := HAL.out; unfold maxLen; omega) (by have := HAL.out; omega) (by omega) Vb.heap.size rfl ?_
            intro g9 cap9 Vc hownc hgrow hgat hglt
            have HOWN := Lib.hid hownc
            have HGAT := Lib.hid hgat
            have d0' := (hgrow.cell_far ⟨V.heap.size, 0, none⟩ (by exact cell_lt c0) (nown _ (by show V.heap.size ≤ V.heap.size; omega))).trans c0
            have d1' := (hgrow.cell_far ⟨V.heap.size, 1, none⟩ (by exact cell_lt c0) (nown _ (by show V.heap.size ≤ V.heap.size; omega))).trans c1
            have bL : Box Vc lb #[Value.slice (some ⟨g, 0, none⟩) 0 cap] 55 := (H1.out.later ((A23.trans Af).trans Ab)).same (hgrow.block _ (by have := H1.out.lt; omega) (fun e => by have := (H2.out.lt _ e.symm).1; omega))
            have r1' := bL.cell 0
            have rf0 := bL.free 0
            simp only [List.getElem?_toArray, List.getElem?_cons_zero] at r1'
            clear hownc bL hgat
            refine hK.out _ _ ⟨d0', d1'⟩ (fun hHeld => ?_)
            clear hK K hHeld
            try simp only [Act.put, List.setIfInBounds_toArray, List.set_cons_zero, List.set_cons_succ]
            refine wpAnyH_ready (rs := [5]) (by kernel_rfl) (by simp) ?_
            refine AllReadyH.cons (o := ⟨none, _, _, _, _, _⟩) rfl (fun K hK => ?_) AllReadyH.nil
            go_simp
            have u1 : lb ≠ V.heap.size := by omega
            refine hK.out _ _ ⟨by rw [World.cell?_setCell_far _ _ _ _ (by exact u1)]; exact d0', by rw [World.cell?_setCell_far _ _ _ _ (by exact u1)]; exact d1'⟩ (fun hHeld => ?_)
            clear hK K hHeld
            try simp only [Act.put, List.setIfInBounds_toArray, List.set_cons_zero, List.set_cons_succ]
            refine wpAnyH_done (by kernel_rfl) ?_ _
            gi_wp2_with fail
            have hfin := span_fin (lb := lb) HXX.out hlw H1.out H2.out h3 h8 h9 (A23.trans Af) Ab HOWN.out hgrow HGAT.out
            first | exact hfin | (rw [hn0] at hfin; exact hfin)
          · refine AllReadyH.cons (o := ⟨some 70, _, _, _, _, _⟩) rfl (fun K hK => ?_) AllReadyH.nil
            go_simp
            obtain ⟨Vb, hVb⟩ : ∃ X, X = Vf.alloc (.cells #[.int .i64 xa, .int .i64 (xc - xa + 1)] 32) := ⟨_, rfl⟩
            rw [← hVb]
            have Ab : Adds Vf Vb := by rw [hVb]; exact (Adds.refl _).alloc _
            have X9 : Vb.heap[Vf.heap.size]? = some (.cells #[.int .i64 xa, .int .i64 (xc - xa + 1)] 32 (0, 0)) := by rw [hVb]; exact Box.new _ _ _
            have c0 := keep_cell Ab b0
            have c1 := keep_cell Ab b1
            have l3 := keep_cell Ab l2
            have HX9 := Lib.hid X9
            clear hVb X9
            refine hK.out _ _ ⟨c0, c1⟩ (fun hHeld => ?_)
            clear hK K hHeld
            try simp only [Act.put, List.setIfInBounds_toArray, List.set_cons_zero, List.set_cons_succ]
            refine wpAnyH_ready (rs := [0]) (by kernel_rfl) (by simp) ?_
            refine AllReadyH.cons (o := ⟨some 67, _, _, _, _, _⟩) rfl (fun K hK => ?_) AllReadyH.nil
            go_simp
            refine hK.out _ _ ⟨c0, c1⟩ (fun hHeld => ?_)
            clear hK K hHeld
            try simp only [Act.put, List.setIfInBounds_toArray, List.set_cons_zero, List.set_cons_succ]
            obtain ⟨i0, hi0, hz0, hz1, hz2⟩ := info_parts info32
            have HR10 := Lib.hid (ownsRow_same H2.out (fun g hg => ((A23.trans Af).trans Ab).block g (H2.out.lt g hg).2))
            have hX9l : Vf.heap.size < Vb.heap.size := lt_of_block HX9.out
            have zab := ((A23.trans Af).trans Ab).size
            have nown : ∀ k, V.heap.size ≤ k → some k ≠ (Value.slice (some ⟨g, 0, none⟩) 0 cap).ownBlock := fun k hk e => by have := HOV.out k e.symm; omega
            refine wpAnyH_ready (rs := [4]) (by kernel_rfl) (by simp) ?_
            refine AllReadyH.cons (o := ⟨some 71, _, _, _, _, _⟩) rfl (fun K hK => ?_) AllReadyH.nil
            refine step_append_lies _ (by rfl) _ _ _ (by rfl) W8.heap.size 32 i0 _ 2 16 Try.underlying55 hi0 hz0 hz1 hz2 rfl (by omega) (Value.slice (some ⟨g, 0, none⟩) 0 cap) (accT pre).length ((accT pre).flatMap spanCells) (by rfl) HR10.out ⟨Vf.heap.size, 0, none⟩ 1 1 (spanCells (xa, xc)) (by rfl) (by rfl) (World.news_of_block HX9.out) (by simp [Value.oneCell', spanCells]) (by omega) (by have := HAL.out; unfold maxLen; omega) (by have := HAL.out; omega) (by omega) Vb.heap.size rfl ?_
            intro g9 cap9 Vc hownc hgrow hgat hglt
            have HOWN := Lib.hid hownc
            have HGAT := Lib.hid hgat
            have d0' := (hgrow.cell_far ⟨V.heap.size, 0, none⟩ (by exact cell_lt c0) (nown _ (by show V.heap.size ≤ V.heap.size; omega))).trans c0
            have d1' := (hgrow.cell_far ⟨V.heap.size, 1, none⟩ (by exact cell_lt c0) (nown _ (by show V.heap.size ≤ V.heap.size; omega))).trans c1
            have bL : Box Vc lb #[Value.slice (some ⟨g, 0, none⟩) 0 cap] 55 := (H1.out.later ((A23.trans Af).trans Ab)).same (hgrow.block _ (by have := H1.out.lt; omega) (fun e => by have := (H2.out.lt _ e.symm).1; omega))
            have r1' := bL.cell 0
            have rf0 := bL.free 0
            simp only [List.getElem?_toArray, List.getElem?_cons_zero] at r1'
            clear hownc bL hgat
            refine hK.out _ _ ⟨d0', d1'⟩ (fun hHeld => ?_)
            clear hK K hHeld
            try simp only [Act.put, List.setIfInBounds_toArray, List.set_cons_zero, List.set_cons_succ]
            refine wpAnyH_ready (rs := [5]) (by kernel_rfl) (by simp) ?_
            refine AllReadyH.cons (o := ⟨none, _, _, _, _, _⟩) rfl (fun K hK => ?_) AllReadyH.nil
            go_simp
            have u1 : lb ≠ V.heap.size := by omega
            refine hK.out _ _ ⟨by rw [World.cell?_setCell_far _ _ _ _ (by exact u1)]; exact d0', by rw [World.cell?_setCell_far _ _ _ _ (by exact u1)]; exact d1'⟩ (fun hHeld => ?_)
            clear hK K hHeld
            try simp only [Act.put, List.setIfInBounds_toArray, List.set_cons_zero, List.set_cons_succ]
            refine wpAnyH_done (by kernel_rfl) ?_ _
            gi_wp2_with fail
            have hfin := span_fin (lb := lb) HXX.out hlw H1.out H2.out h3 h8 h9 (A23.trans Af) Ab HOWN.out hgrow HGAT.out
            first | exact hfin | (rw [hn0] at hfin; exact hfin)
    · rw [List.concat_eq_append] at hac
      obtain ⟨m, hm⟩ : ∃ m, m = ini.length := ⟨_, rfl⟩
      have hn0 : (accT pre).length = m + 1 := by rw [hac, hm]; simp
      have hy := HACC.out y (by rw [hac]; simp)
      obtain ⟨hy1, hy2, hy3⟩ := hy
      obtain ⟨_, hvv⟩ := id h2
      rcases hvv with ⟨_, h0⟩ | ⟨g, cap, cur, hvv, hbg, hcg, hncap, hcm, hsz, htk⟩
      · omega
      · rw [hn0] at hvv
        subst hvv
        have hcells : ∀ j u, ((accT pre).flatMap spanCells)[j]? = some u → V2.cell? ⟨g, j, none⟩ = some u := fun j u hu => by
          have hlt := (List.getElem?_eq_some_iff.1 hu).1
          rw [flat_len] at hlt
          have : (cur.toList.take ((accT pre).length * 2))[j]? = some u := by rw [htk]; exact hu
          rw [List.getElem?_take, if_pos (by omega), Array.getElem?_toList] at this
          simp [World.cell?, hcg, this]
        obtain ⟨hf1, hf2⟩ := flat_last ini y
        rw [← hac, ← hm, Nat.mul_comm] at hf1 hf2
        have r0 := hcells _ _ hf1
        have r1 := hcells _ _ hf2
        have rf : V2.frozen? ⟨g, m * 2 + 1, none⟩ = false := by simp [World.frozen?, hcg]
        have HACE := Lib.hid hac
        have HM := Lib.hid hm
        have HN0 := Lib.hid hn0
        have hm1 : m + 1 ≤ 1000000 := by omega
        have HWR2 := Lib.hid (show IntKind.i64.wrap (y.2 - y.1 + 1 + (xc - xa + 1)) = y.2 - y.1 + 1 + (xc - xa + 1) by rw [i64_w']; exact w64_in' _ ⟨by omega, by omega⟩)
        have hwr : IntKind.i64.wrap (y.1 + (y.2 - y.1 + 1)) = y.2 + 1 := by rw [i64_w', w64_in' _ ⟨by omega, by omega⟩]; omega
        have hlt9 : ((m : Int) < (m : Int) + 1) = True := eq_true (by omega)
        have hgV : g < V.heap.size := HOV.out g rfl
        have hsub : ((m + 1 : Nat) : Int) - 1 = (m : Int) := by omega
        have hlb9 : lb ≠ g := by omega
        have HAL := Lib.hid hal
        clear hcells hf1 hf2 htk hsz hcm hncap hcg hac hm hn0 h2 hal
        gi_wp2_with fail
        by_cases hj : y.2 + 1 = xa
        · have hje : (y.1 + (y.2 - y.1 + 1) == xa) = true := beq_iff_eq.2 (by omega)
          have hje3 : (y.2 + 1 == xa) = true := beq_iff_eq.2 hj
          refine wpIn_region_held_drew (S := fun w' => w'.cell? ⟨lb, 0, none⟩ = some (.slice (some ⟨g, 0, none⟩) (m + 1) cap) ∧ w'.cell? ⟨g, m * 2, none⟩ = some (.int .i64 y.1) ∧ w'.cell? ⟨g, m * 2 + 1, none⟩ = some (.int .i64 (y.2 - y.1 + 1)) ∧ w'.cell? ⟨V.heap.size, 0, none⟩ = some (.int .i64 xa)) (by kernel_rfl) (by kernel_rfl) (by rintro ⟨_, _, h⟩; exact h) ⟨l0, r0, r1, q0⟩ (fun hHeld => ?_)
          refine wpAnyH_take (i := 0) (oi := ⟨some 39, _, _, _, _, _⟩) (v := ?v11) rfl (by kernel_rfl) (by kernel_rfl) (by kernel_rfl) (fun _ _ _ h => h) (Or.inl ⟨by rfl, ?hy11⟩) (by assumption) ?rest11
          case hy11 => (intro w hSw; (try dsimp only at hSw); go_simp; try with_reducible rfl)
          try simp only [Act.put, List.setIfInBounds_toArray, List.set_cons_zero, List.set_cons_succ]
          refine wpAnyH_take (i := 1) (oi := ⟨some 40, _, _, _, _, _⟩) (v := ?v12) rfl (by kernel_rfl) (by kernel_rfl) (by kernel_rfl) (fun _ _ _ h => h) (Or.inl ⟨by rfl, ?hy12⟩) (by assumption) ?rest12
          case hy12 => (intro w hSw; (try dsimp only at hSw); go_simp; try with_reducible rfl)
          try simp only [Act.put, List.setIfInBounds_toArray, List.set_cons_zero, List.set_cons_succ]
          refine wpAnyH_take (i := 2) (oi := ⟨some 41, _, _, _, _, _⟩) (v := ?v13) rfl (by kernel_rfl) (by kernel_rfl) (by kernel_rfl) (fun _ _ _ h => h) (Or.inl ⟨by rfl, ?hy13⟩) (by assumption) ?rest13
          case hy13 => (intro w hSw; (try dsimp only at hSw); go_simp; try with_reducible rfl)
          try simp only [Act.put, List.setIfInBounds_toArray, List.set_cons_zero, List.set_cons_succ]
          refine wpAnyH_take (i := 3) (oi := ⟨some 42, _, _, _, _, _⟩) (v := ?v14) rfl (by kernel_rfl) (by kernel_rfl) (by kernel_rfl) (fun _ _ _ h => h) (Or.inl ⟨by rfl, ?hy14⟩) (by assumption) ?rest14
          case hy14 => (intro w hSw; (try dsimp only at hSw); go_simp; try with_reducible rfl)
          try simp only [Act.put, List.setIfInBounds_toArray, List.set_cons_zero, List.set_cons_succ]
          refine wpAnyH_take (i := 4) (oi := ⟨some 43, _, _, _, _, _⟩) (v := ?v15) rfl (by kernel_rfl) (by kernel_rfl) (by kernel_rfl) (fun _ _ _ h => h) (Or.inl ⟨by rfl, ?hy15⟩) (by assumption) ?rest15
          case hy15 => (intro w hSw; (try dsimp only at hSw); go_simp; try with_reducible rfl)
          try simp only [Act.put, List.setIfInBounds_toArray, List.set_cons_zero, List.set_cons_succ]
          refine wpAnyH_take (i := 5) (oi := ⟨some 44, _, _, _, _, _⟩) (v := ?v16) rfl (by kernel_rfl) (by kernel_rfl) (by kernel_rfl) (fun _ _ _ h => h) (Or.inl ⟨by rfl, ?hy16⟩) (by assumption) ?rest16
          case hy16 => (intro w hSw; (try dsimp only at hSw); go_simp; try with_reducible rfl)
          try simp only [Act.put, List.setIfInBounds_toArray, List.set_cons_zero, List.set_cons_succ]
          refine wpAnyH_take (i := 6) (oi := ⟨some 45, _, _, _, _, _⟩) (v := ?v17) rfl (by kernel_rfl) (by kernel_rfl) (by kernel_rfl) (fun _ _ _ h => h) (Or.inl ⟨by rfl, ?hy17⟩) (by assumption) ?rest17
          case hy17 => (intro w hSw; (try dsimp only at hSw); go_simp; try with_reducible rfl)
          try simp only [Act.put, List.setIfInBounds_toArray, List.set_cons_zero, List.set_cons_succ]
          refine wpAnyH_take (i := 7) (oi := ⟨some 46, _, _, _, _, _⟩) (v := ?v18) rfl (by kernel_rfl) (by kernel_rfl) (by kernel_rfl) (fun _ _ _ h => h) (Or.inl ⟨by rfl, ?hy18⟩) (by assumption) ?rest18
          case hy18 => (intro w hSw; (try dsimp only at hSw); go_simp; try with_reducible rfl)
          try simp only [Act.put, List.setIfInBounds_toArray, List.set_cons_zero, List.set_cons_succ]
          refine wpAnyH_take (i := 8) (oi := ⟨some 47, _, _, _, _, _⟩) (v := ?v19) rfl (by kernel_rfl) (by kernel_rfl) (by kernel_rfl) (fun _ _ _ h => h) (Or.inl ⟨by rfl, ?hy19⟩) (by assumption) ?rest19
          case hy19 => (intro w hSw; (try dsimp only at hSw); go_simp; try with_reducible rfl)
          try simp only [Act.put, List.setIfInBounds_toArray, List.set_cons_zero, List.set_cons_succ]
          refine wpAnyH_take (i := 9) (oi := ⟨some 48, _, _, _, _, _⟩) (v := ?v20) rfl (by kernel_rfl) (by kernel_rfl) (by kernel_rfl) (fun _ _ _ h => h) (Or.inl ⟨by rfl, ?hy20⟩) (by assumption) ?rest20
          case hy20 => (intro w hSw; (try dsimp only at hSw); go_simp; try with_reducible rfl)
          try simp only [Act.put, List.setIfInBounds_toArray, List.set_cons_zero, List.set_cons_succ]
          refine wpAnyH_take (i := 10) (oi := ⟨some 49, _, _, _, _, _⟩) (v := ?v21) rfl (by kernel_rfl) (by kernel_rfl) (by kernel_rfl) (fun _ _ _ h => h) (Or.inl ⟨by rfl, ?hy21⟩) (by assumption) ?rest21
          case hy21 => (intro w hSw; (try dsimp only at hSw); go_simp; try with_reducible rfl)
          try simp only [Act.put, List.setIfInBounds_toArray, List.set_cons_zero, List.set_cons_succ]
          refine wpAnyH_take (i := 11) (oi := ⟨some 50, _, _, _, _, _⟩) (v := ?v22) rfl (by kernel_rfl) (by kernel_rfl) (by kernel_rfl) (fun _ _ _ h => h) (Or.inl ⟨by rfl, ?hy22⟩) (by assumption) ?rest22
          case hy22 => (intro w hSw; (try dsimp only at hSw); go_simp; try with_reducible rfl)
          try simp only [Act.put, List.setIfInBounds_toArray, List.set_cons_zero, List.set_cons_succ]
          refine wpAnyH_take (i := 12) (oi := ⟨some 51, _, _, _, _, _⟩) (v := ?v23) rfl (by kernel_rfl) (by kernel_rfl) (by kernel_rfl) (fun _ _ _ h => h) (Or.inl ⟨by rfl, ?hy23⟩) (by assumption) ?rest23
          case hy23 => (intro w hSw; (try dsimp only at hSw); go_simp; try with_reducible rfl)
          try simp only [Act.put, List.setIfInBounds_toArray, List.set_cons_zero, List.set_cons_succ]
          refine wpAnyH_take (i := 13) (oi := ⟨some 52, _, _, _, _, _⟩) (v := ?v24) rfl (by kernel_rfl) (by kernel_rfl) (by kernel_rfl) (fun _ _ _ h => h) (Or.inl ⟨by rfl, ?hy24⟩) (by assumption) ?rest24
          case hy24 => (intro w hSw; (try dsimp only at hSw); go_simp; try with_reducible rfl)
          try simp only [Act.put, List.setIfInBounds_toArray, List.set_cons_zero, List.set_cons_succ]
          refine wpAnyH_take (i := 14) (oi := ⟨some 53, _, _, _, _, _⟩) (v := ?v25) rfl (by kernel_rfl) (by kernel_rfl) (by kernel_rfl) (fun _ _ _ h => h) (Or.inl ⟨by rfl, ?hy25⟩) (by assumption) ?rest25
          case hy25 => (intro w hSw; (try dsimp only at hSw); go_simp; try with_reducible rfl)
          try simp only [Act.put, List.setIfInBounds_toArray, List.set_cons_zero, List.set_cons_succ]
          refine wpAnyH_take (i := 15) (oi := ⟨some 54, _, _, _, _, _⟩) (v := ?v26) rfl (by kernel_rfl) (by kernel_rfl) (by kernel_rfl) (fun _ _ _ h => h) (Or.inl ⟨by rfl, ?hy26⟩) (by assumption) ?rest26
          case hy26 => (intro w hSw; (try dsimp only at hSw); go_simp; try with_reducible rfl)
          try simp only [Act.put, List.setIfInBounds_toArray, List.set_cons_zero, List.set_cons_succ]
          refine wpAnyH_take (i := 16) (oi := ⟨some 55, _, _, _, _, _⟩) (v := ?v27) rfl (by kernel_rfl) (by kernel_rfl) (by kernel_rfl) (fun _ _ _ h => h) (Or.inl ⟨by rfl, ?hy27⟩) (by assumption) ?rest27
          case hy27 => (intro w hSw; (try dsimp only at hSw); go_simp; try with_reducible rfl)
          try simp only [Act.put, List.setIfInBounds_toArray, List.set_cons_zero, List.set_cons_succ]
          refine wpAnyH_take (i := 17) (oi := ⟨some 56, _, _, _, _, _⟩) (v := ?v28) rfl (by kernel_rfl) (by kernel_rfl) (by kernel_rfl) (fun _ _ _ h => h) (Or.inl ⟨by rfl, ?hy28⟩) (by assumption) ?rest28
          case hy28 => (intro w hSw; (try dsimp only at hSw); go_simp; try with_reducible rfl)
          try simp only [Act.put, List.setIfInBounds_toArray, List.set_cons_zero, List.set_cons_succ]
          refine wpAnyH_done (by kernel_rfl) ?_ _
          gi_wp2_with fail
          obtain ⟨V3, hV3⟩ : ∃ W, W = V2.drew := ⟨_, rfl⟩
          have A23 : Adds V2 V3 := by rw [hV3]; exact (Adds.refl V2).drew
          rw [← hV3]
          clear hV3
          have a0 := keep_cell A23 q0
          have a1 := keep_cell A23 q1
          have l1 := keep_cell A23 l0
          have r2 := keep_cell A23 r1
          have rf2 := keep_free A23 r1 rf
          refine wpIn_region_held_drew (S := fun w' => w'.cell? ⟨lb, 0, none⟩ = some (.slice (some ⟨g, 0, none⟩) (m + 1) cap) ∧ w'.cell? ⟨V.heap.size, 0, none⟩ = some (.int .i64 xa) ∧ w'.cell? ⟨V.heap.size, 1, none⟩ = some (.int .i64 xc)) (by kernel_rfl) (by kernel_rfl) (by rintro ⟨_, _, h⟩; exact h) ⟨l1, a0, a1⟩ (fun hHeld => ?_)
          refine wpAnyH_take (i := 0) (oi := ⟨some 57, _, _, _, _, _⟩) (v := ?v29) rfl (by kernel_rfl) (by kernel_rfl) (by kernel_rfl) (fun _ _ _ h => h) (Or.inl ⟨by rfl, ?hy29⟩) (by assumption) ?rest29
          case hy29 => (intro w hSw; (try dsimp only at hSw); go_simp; try with_reducible rfl)
          try simp only [Act.put, List.setIfInBounds_toArray, List.set_cons_zero, List.set_cons_succ]
          refine wpAnyH_take (i := 1) (oi := ⟨some 58, _, _, _, _, _⟩) (v := ?v30) rfl (by kernel_rfl) (by kernel_rfl) (by kernel_rfl) (fun _ _ _ h => h) (Or.inl ⟨by rfl, ?hy30⟩) (by assumption) ?rest30
          case hy30 => (intro w hSw; (try dsimp only at hSw); go_simp; try with_reducible rfl)
          try simp only [Act.put, List.setIfInBounds_toArray, List.set_cons_zero, List.set_cons_succ]
          refine wpAnyH_take (i := 2) (oi := ⟨some 59, _, _, _, _, _⟩) (v := ?v31) rfl (by kernel_rfl) (by kernel_rfl) (by kernel_rfl) (fun _ _ _ h => h) (Or.inl ⟨by rfl, ?hy31⟩) (by assumption) ?rest31
          case hy31 => (intro w hSw; (try dsimp only at hSw); go_simp; try with_reducible rfl)
          try simp only [Act.put, List.setIfInBounds_toArray, List.set_cons_zero, List.set_cons_succ]
          refine wpAnyH_take (i := 3) (oi := ⟨some 60, _, _, _, _, _⟩) (v := ?v32) rfl (by kernel_rfl) (by kernel_rfl) (by kernel_rfl) (fun _ _ _ h => h) (Or.inl ⟨by rfl, ?hy32⟩) (by assumption) ?rest32
          case hy32 => (intro w hSw; (try dsimp only at hSw); go_simp; try with_reducible rfl)
          try simp only [Act.put, List.setIfInBounds_toArray, List.set_cons_zero, List.set_cons_succ]
          refine wpAnyH_take (i := 5) (oi := ⟨some 62, _, _, _, _, _⟩) (v := ?v33) rfl (by kernel_rfl) (by kernel_rfl) (by kernel_rfl) (fun _ _ _ h => h) (Or.inl ⟨by rfl, ?hy33⟩) (by assumption) ?rest33
          case hy33 => (intro w hSw; (try dsimp only at hSw); go_simp; try with_reducible rfl)
          try simp only [Act.put, List.setIfInBounds_toArray, List.set_cons_zero, List.set_cons_succ]
          clear hHeld
          have r2d : V3.drew.cell? ⟨g, m * 2 + 1, none⟩ = some (.int .i64 (y.2 - y.1 + 1)) := r2
          refine wpAnyH_ready (rs := [4, 6]) (by kernel_rfl) (by simp) ?_
          refine AllReadyH.cons (o := ⟨some 61, _, _, _, _, _⟩) rfl (fun K hK => ?_) ?_
          · go_simp
            refine hK.out _ _ ⟨l1, a0, a1⟩ (fun hHeld => ?_)
            clear hK K
            try simp only [Act.put, List.setIfInBounds_toArray, List.set_cons_zero, List.set_cons_succ]
            clear hHeld
            refine wpAnyH_ready (rs := [6]) (by kernel_rfl) (by simp) ?_
            refine AllReadyH.cons (o := ⟨some 63, _, _, _, _, _⟩) rfl (fun K hK => ?_) AllReadyH.nil
            go_simp
            refine (count_any xa xc _ (by omega) (by omega) (by omega) (by omega)).mono ?_
            rintro e Vf ⟨rfl, hbf⟩
            have Af : Adds V3 Vf := (Adds.refl V3).drew.trans hbf
            have b0 := keep_cell Af a0
            have b1 := keep_cell Af a1
            have l2 := keep_cell Af l1
            have rr := keep_cell Af r2
            have rrf := keep_free Af r2 rf2
            refine hK.out _ _ ⟨l2, b0, b1⟩ (fun hHeld => ?_)
            clear hK K
            try simp only [Act.put, List.setIfInBounds_toArray, List.set_cons_zero, List.set_cons_succ]
            refine wpAnyH_take (i := 7) (oi := ⟨some 64, _, _, _, _, _⟩) (v := ?v34) rfl (by kernel_rfl) (by kernel_rfl) (by kernel_rfl) (fun _ _ _ h => h) (Or.inl ⟨by rfl, ?hy34⟩) (by assumption) ?rest34
            case hy34 => (intro w hSw; (try dsimp only at hSw); go_simp; try with_reducible rfl)
            try simp only [Act.put, List.setIfInBounds_toArray, List.set_cons_zero, List.set_cons_succ]
            refine wpAnyH_take (i := 8) (oi := ⟨some 65, _, _, _, _, _⟩) (v := ?v35) rfl (by kernel_rfl) (by kernel_rfl) (by kernel_rfl) (fun _ _ _ h => h) (Or.inl ⟨by rfl, ?hy35⟩) (by assumption) ?rest35
            case hy35 => (intro w hSw; (try dsimp only at hSw); go_simp; try with_reducible rfl)
            try simp only [Act.put, List.setIfInBounds_toArray, List.set_cons_zero, List.set_cons_succ]
            refine wpAnyH_take (i := 9) (oi := ⟨some 66, _, _, _, _, _⟩) (v := ?v36) rfl (by kernel_rfl) (by kernel_rfl) (by kernel_rfl) (fun _ _ _ h => h) (Or.inl ⟨by rfl, ?hy36⟩) (by assumption) ?rest36
            case hy36 => (intro w hSw; (try dsimp only at hSw); go_simp; try with_reducible rfl)
            try simp only [Act.put, List.setIfInBounds_toArray, List.set_cons_zero, List.set_cons_succ]
            clear hHeld
            refine wpAnyH_ready (rs := [10]) (by kernel_rfl) (by simp) ?_
            refine AllReadyH.cons (o := ⟨none, _, _, _, _, _⟩) rfl (fun K hK => ?_) AllReadyH.nil
            go_simp
            have u1 : g ≠ V.heap.size := by omega
            have u2 : g ≠ lb := by omega
            refine hK.out _ _ ⟨by rw [World.cell?_setCell_far _ _ _ _ (by exact u2)]; exact l2, by rw [World.cell?_setCell_far _ _ _ _ (by exact u1)]; exact b0, by rw [World.cell?_setCell_far _ _ _ _ (by exact u1)]; exact b1⟩ (fun hHeld => ?_)
            clear hK K hHeld
            try simp only [Act.put, List.setIfInBounds_toArray, List.set_cons_zero, List.set_cons_succ]
            refine wpAnyH_done (by kernel_rfl) ?_ _
            gi_wp2_with fail
            have hfin := long_fin (x := (xa, xc)) HACE.out HM.out.symm hj H1.out H2.out h3 w8.size h8 h9 (A23.trans Af)
            rw [show ((xa, xc) : Int × Int).2 - y.1 + 1 = y.2 - y.1 + 1 + (xc - xa + 1) by simp only at hj ⊢; omega] at hfin
            rw [← HWR2.out] at hfin
            exact hfin
          · refine AllReadyH.cons (o := ⟨some 63, _, _, _, _, _⟩) rfl (fun K hK => ?_) AllReadyH.nil
            go_simp
            refine (count_any xa xc _ (by omega) (by omega) (by omega) (by omega)).mono ?_
            rintro e Vf ⟨rfl, hbf⟩
            have Af : Adds V3 Vf := (Adds.refl V3).drew.trans hbf
            have b0 := keep_cell Af a0
            have b1 := keep_cell Af a1
            have l2 := keep_cell Af l1
            have rr := keep_cell Af r2
            have rrf := keep_free Af r2 rf2
            refine hK.out _ _ ⟨l2, b0, b1⟩ (fun hHeld => ?_)
            clear hK K
            try simp only [Act.put, List.setIfInBounds_toArray, List.set_cons_zero, List.set_cons_succ]
            clear hHeld
            refine wpAnyH_ready (rs := [4]) (by kernel_rfl) (by simp) ?_
            refine AllReadyH.cons (o := ⟨some 61, _, _, _, _, _⟩) rfl (fun K hK => ?_) AllReadyH.nil
            go_simp
            refine hK.out _ _ ⟨l2, b0, b1⟩ (fun hHeld => ?_)
            clear hK K
            try simp only [Act.put, List.setIfInBounds_toArray, List.set_cons_zero, List.set_cons_succ]
            refine wpAnyH_take (i := 7) (oi := ⟨some 64, _, _, _, _, _⟩) (v := ?v37) rfl (by kernel_rfl) (by kernel_rfl) (by kernel_rfl) (fun _ _ _ h => h) (Or.inl ⟨by rfl, ?hy37⟩) (by assumption) ?rest37
            case hy37 => (intro w hSw; (try dsimp only at hSw); go_simp; try with_reducible rfl)
            try simp only [Act.put, List.setIfInBounds_toArray, List.set_cons_zero, List.set_cons_succ]
            refine wpAnyH_take (i := 8) (oi := ⟨some 65, _, _, _, _, _⟩) (v := ?v38) rfl (by kernel_rfl) (by kernel_rfl) (by kernel_rfl) (fun _ _ _ h => h) (Or.inl ⟨by rfl, ?hy38⟩) (by assumption) ?rest38
            case hy38 => (intro w hSw; (try dsimp only at hSw); go_simp; try with_reducible rfl)
            try simp only [Act.put, List.setIfInBounds_toArray, List.set_cons_zero, List.set_cons_succ]
            refine wpAnyH_take (i := 9) (oi := ⟨some 66, _, _, _, _, _⟩) (v := ?v39) rfl (by kernel_rfl) (by kernel_rfl) (by kernel_rfl) (fun _ _ _ h => h) (Or.inl ⟨by rfl, ?hy39⟩) (by assumption) ?rest39
            case hy39 => (intro w hSw; (try dsimp only at hSw); go_simp; try with_reducible rfl)
            try simp only [Act.put, List.setIfInBounds_toArray, List.set_cons_zero, List.set_cons_succ]
            clear hHeld
            refine wpAnyH_ready (rs := [10]) (by kernel_rfl) (by simp) ?_
            refine AllReadyH.cons (o := ⟨none, _, _, _, _, _⟩) rfl (fun K hK => ?_) AllReadyH.nil
            go_simp
            have u1 : g ≠ V.heap.size := by omega
            have u2 : g ≠ lb := by omega
            refine hK.out _ _ ⟨by rw [World.cell?_setCell_far _ _ _ _ (by exact u2)]; exact l2, by rw [World.cell?_setCell_far _ _ _ _ (by exact u1)]; exact b0, by rw [World.cell?_setCell_far _ _ _ _ (by exact u1)]; exact b1⟩ (fun hHeld => ?_)
            clear hK K hHeld
            try simp only [Act.put, List.setIfInBounds_toArray, List.set_cons_zero, List.set_cons_succ]
            refine wpAnyH_done (by kernel_rfl) ?_ _
            gi_wp2_with fail
            have hfin := long_fin (x := (xa, xc)) HACE.out HM.out.symm hj H1.out H2.out h3 w8.size h8 h9 (A23.trans Af)
            rw [show ((xa, xc) : Int × Int).2 - y.1 + 1 = y.2 - y.1 + 1 + (xc - xa + 1) by simp only at hj ⊢; omega] at hfin
            rw [← HWR2.out] at hfin
            exact hfin
        · have hje : (y.1 + (y.2 - y.1 + 1) == xa) = false := beq_eq_false_iff_ne.2 (by omega)
          have HXX : Hid (accT (pre ++ [(xa, xc)]) = accT pre ++ [(xa, xc)]) := Lib.hid (by rw [accT_snoc, joinAdd_last (y := y) (by rw [HACE.out]; simp), if_neg hj])
          have hje3 : (y.2 + 1 == xa) = false := beq_eq_false_iff_ne.2 hj
          refine wpIn_region_held_drew (S := fun w' => w'.cell? ⟨lb, 0, none⟩ = some (.slice (some ⟨g, 0, none⟩) (m + 1) cap) ∧ w'.cell? ⟨g, m * 2, none⟩ = some (.int .i64 y.1) ∧ w'.cell? ⟨g, m * 2 + 1, none⟩ = some (.int .i64 (y.2 - y.1 + 1)) ∧ w'.cell? ⟨V.heap.size, 0, none⟩ = some (.int .i64 xa)) (by kernel_rfl) (by kernel_rfl) (by rintro ⟨_, _, h⟩; exact h) ⟨l0, r0, r1, q0⟩ (fun hHeld => ?_)
          refine wpAnyH_take (i := 0) (oi := ⟨some 39, _, _, _, _, _⟩) (v := ?v40) rfl (by kernel_rfl) (by kernel_rfl) (by kernel_rfl) (fun _ _ _ h => h) (Or.inl ⟨by rfl, ?hy40⟩) (by assumption) ?rest40
          case hy40 => (intro w hSw; (try dsimp only at hSw); go_simp; try with_reducible rfl)
          try simp only [Act.put, List.setIfInBounds_toArray, List.set_cons_zero, List.set_cons_succ]
          refine wpAnyH_take (i := 1) (oi := ⟨some 40, _, _, _, _, _⟩) (v := ?v41) rfl (by kernel_rfl) (by kernel_rfl) (by kernel_rfl) (fun _ _ _ h => h) (Or.inl ⟨by rfl, ?hy41⟩) (by assumption) ?rest41
          case hy41 => (intro w hSw; (try dsimp only at hSw); go_simp; try with_reducible rfl)
          try simp only [Act.put, List.setIfInBounds_toArray, List.set_cons_zero, List.set_cons_succ]
          refine wpAnyH_take (i := 2) (oi := ⟨some 41, _, _, _, _, _⟩) (v := ?v42) rfl (by kernel_rfl) (by kernel_rfl) (by kernel_rfl) (fun _ _ _ h => h) (Or.inl ⟨by rfl, ?hy42⟩) (by assumption) ?rest42
          case hy42 => (intro w hSw; (try dsimp only at hSw); go_simp; try with_reducible rfl)
          try simp only [Act.put, List.setIfInBounds_toArray, List.set_cons_zero, List.set_cons_succ]
          refine wpAnyH_take (i := 3) (oi := ⟨some 42, _, _, _, _, _⟩) (v := ?v43) rfl (by kernel_rfl) (by kernel_rfl) (by kernel_rfl) (fun _ _ _ h => h) (Or.inl ⟨by rfl, ?hy43⟩) (by assumption) ?rest43
          case hy43 => (intro w hSw; (try dsimp only at hSw); go_simp; try with_reducible rfl)
          try simp only [Act.put, List.setIfInBounds_toArray, List.set_cons_zero, List.set_cons_succ]
          refine wpAnyH_take (i := 4) (oi := ⟨some 43, _, _, _, _, _⟩) (v := ?v44) rfl (by kernel_rfl) (by kernel_rfl) (by kernel_rfl) (fun _ _ _ h => h) (Or.inl ⟨by rfl, ?hy44⟩) (by assumption) ?rest44
          case hy44 => (intro w hSw; (try dsimp only at hSw); go_simp; try with_reducible rfl)
          try simp only [Act.put, List.setIfInBounds_toArray, List.set_cons_zero, List.set_cons_succ]
          refine wpAnyH_take (i := 5) (oi := ⟨some 44, _, _, _, _, _⟩) (v := ?v45) rfl (by kernel_rfl) (by kernel_rfl) (by kernel_rfl) (fun _ _ _ h => h) (Or.inl ⟨by rfl, ?hy45⟩) (by assumption) ?rest45
          case hy45 => (intro w hSw; (try dsimp only at hSw); go_simp; try with_reducible rfl)
          try simp only [Act.put, List.setIfInBounds_toArray, List.set_cons_zero, List.set_cons_succ]
          refine wpAnyH_take (i := 6) (oi := ⟨some 45, _, _, _, _, _⟩) (v := ?v46) rfl (by kernel_rfl) (by kernel_rfl) (by kernel_rfl) (fun _ _ _ h => h) (Or.inl ⟨by rfl, ?hy46⟩) (by assumption) ?rest46
          case hy46 => (intro w hSw; (try dsimp only at hSw); go_simp; try with_reducible rfl)
          try simp only [Act.put, List.setIfInBounds_toArray, List.set_cons_zero, List.set_cons_succ]
          refine wpAnyH_take (i := 7) (oi := ⟨some 46, _, _, _, _, _⟩) (v := ?v47) rfl (by kernel_rfl) (by kernel_rfl) (by kernel_rfl) (fun _ _ _ h => h) (Or.inl ⟨by rfl, ?hy47⟩) (by assumption) ?rest47
          case hy47 => (intro w hSw; (try dsimp only at hSw); go_simp; try with_reducible rfl)
          try simp only [Act.put, List.setIfInBounds_toArray, List.set_cons_zero, List.set_cons_succ]
          refine wpAnyH_take (i := 8) (oi := ⟨some 47, _, _, _, _, _⟩) (v := ?v48) rfl (by kernel_rfl) (by kernel_rfl) (by kernel_rfl) (fun _ _ _ h => h) (Or.inl ⟨by rfl, ?hy48⟩) (by assumption) ?rest48
          case hy48 => (intro w hSw; (try dsimp only at hSw); go_simp; try with_reducible rfl)
          try simp only [Act.put, List.setIfInBounds_toArray, List.set_cons_zero, List.set_cons_succ]
          refine wpAnyH_take (i := 9) (oi := ⟨some 48, _, _, _, _, _⟩) (v := ?v49) rfl (by kernel_rfl) (by kernel_rfl) (by kernel_rfl) (fun _ _ _ h => h) (Or.inl ⟨by rfl, ?hy49⟩) (by assumption) ?rest49
          case hy49 => (intro w hSw; (try dsimp only at hSw); go_simp; try with_reducible rfl)
          try simp only [Act.put, List.setIfInBounds_toArray, List.set_cons_zero, List.set_cons_succ]
          refine wpAnyH_take (i := 10) (oi := ⟨some 49, _, _, _, _, _⟩) (v := ?v50) rfl (by kernel_rfl) (by kernel_rfl) (by kernel_rfl) (fun _ _ _ h => h) (Or.inl ⟨by rfl, ?hy50⟩) (by assumption) ?rest50
          case hy50 => (intro w hSw; (try dsimp only at hSw); go_simp; try with_reducible rfl)
          try simp only [Act.put, List.setIfInBounds_toArray, List.set_cons_zero, List.set_cons_succ]
          refine wpAnyH_take (i := 11) (oi := ⟨some 50, _, _, _, _, _⟩) (v := ?v51) rfl (by kernel_rfl) (by kernel_rfl) (by kernel_rfl) (fun _ _ _ h => h) (Or.inl ⟨by rfl, ?hy51⟩) (by assumption) ?rest51
          case hy51 => (intro w hSw; (try dsimp only at hSw); go_simp; try with_reducible rfl)
          try simp only [Act.put, List.setIfInBounds_toArray, List.set_cons_zero, List.set_cons_succ]
          refine wpAnyH_take (i := 12) (oi := ⟨some 51, _, _, _, _, _⟩) (v := ?v52) rfl (by kernel_rfl) (by kernel_rfl) (by kernel_rfl) (fun _ _ _ h => h) (Or.inl ⟨by rfl, ?hy52⟩) (by assumption) ?rest52
          case hy52 => (intro w hSw; (try dsimp only at hSw); go_simp; try with_reducible rfl)
          try simp only [Act.put, List.setIfInBounds_toArray, List.set_cons_zero, List.set_cons_succ]
          refine wpAnyH_take (i := 13) (oi := ⟨some 52, _, _, _, _, _⟩) (v := ?v53) rfl (by kernel_rfl) (by kernel_rfl) (by kernel_rfl) (fun _ _ _ h => h) (Or.inl ⟨by rfl, ?hy53⟩) (by assumption) ?rest53
          case hy53 => (intro w hSw; (try dsimp only at hSw); go_simp; try with_reducible rfl)
          try simp only [Act.put, List.setIfInBounds_toArray, List.set_cons_zero, List.set_cons_succ]
          refine wpAnyH_take (i := 14) (oi := ⟨some 53, _, _, _, _, _⟩) (v := ?v54) rfl (by kernel_rfl) (by kernel_rfl) (by kernel_rfl) (fun _ _ _ h => h) (Or.inl ⟨by rfl, ?hy54⟩) (by assumption) ?rest54
          case hy54 => (intro w hSw; (try dsimp only at hSw); go_simp; try with_reducible rfl)
          try simp only [Act.put, List.setIfInBounds_toArray, List.set_cons_zero, List.set_cons_succ]
          refine wpAnyH_take (i := 15) (oi := ⟨some 54, _, _, _, _, _⟩) (v := ?v55) rfl (by kernel_rfl) (by kernel_rfl) (by kernel_rfl) (fun _ _ _ h => h) (Or.inl ⟨by rfl, ?hy55⟩) (by assumption) ?rest55
          case hy55 => (intro w hSw; (try dsimp only at hSw); go_simp; try with_reducible rfl)
          try simp only [Act.put, List.setIfInBounds_toArray, List.set_cons_zero, List.set_cons_succ]
          refine wpAnyH_take (i := 16) (oi := ⟨some 55, _, _, _, _, _⟩) (v := ?v56) rfl (by kernel_rfl) (by kernel_rfl) (by kernel_rfl) (fun _ _ _ h => h) (Or.inl ⟨by rfl, ?hy56⟩) (by assumption) ?rest56
          case hy56 => (intro w hSw; (try dsimp only at hSw); go_simp; try with_reducible rfl)
          try simp only [Act.put, List.setIfInBounds_toArray, List.set_cons_zero, List.set_cons_succ]
          refine wpAnyH_take (i := 17) (oi := ⟨some 56, _, _, _, _, _⟩) (v := ?v57) rfl (by kernel_rfl) (by kernel_rfl) (by kernel_rfl) (fun _ _ _ h => h) (Or.inl ⟨by rfl, ?hy57⟩) (by assumption) ?rest57
          case hy57 => (intro w hSw; (try dsimp only at hSw); go_simp; try with_reducible rfl)
          try simp only [Act.put, List.setIfInBounds_toArray, List.set_cons_zero, List.set_cons_succ]
          refine wpAnyH_done (by kernel_rfl) ?_ _
          gi_wp2_with fail
          obtain ⟨V3, hV3⟩ : ∃ W, W = V2.drew := ⟨_, rfl⟩
          have A23 : Adds V2 V3 := by rw [hV3]; exact (Adds.refl V2).drew
          rw [← hV3]
          clear hV3
          have a0 := keep_cell A23 q0
          have a1 := keep_cell A23 q1
          have l1 := keep_cell A23 l0
          have r2 := keep_cell A23 r1
          have rf2 := keep_free A23 r1 rf
          refine wpIn_region_held_drew (S := fun w' => w'.cell? ⟨V.heap.size, 0, none⟩ = some (.int .i64 xa) ∧ w'.cell? ⟨V.heap.size, 1, none⟩ = some (.int .i64 xc)) (by kernel_rfl) (by kernel_rfl) (by rintro ⟨_, _, h⟩; exact h) ⟨a0, a1⟩ (fun hHeld => ?_)
          refine wpAnyH_take (i := 1) (oi := ⟨some 68, _, _, _, _, _⟩) (v := ?v58) rfl (by kernel_rfl) (by kernel_rfl) (by kernel_rfl) (fun _ _ _ h => h) (Or.inl ⟨by rfl, ?hy58⟩) (by assumption) ?rest58
          case hy58 => (intro w hSw; (try dsimp only at hSw); go_simp; try with_reducible rfl)
          try simp only [Act.put, List.setIfInBounds_toArray, List.set_cons_zero, List.set_cons_succ]
          clear hHeld
          have l1d : V3.drew.cell? ⟨lb, 0, none⟩ = some (Value.slice (some ⟨g, 0, none⟩) (m + 1) cap) := l1
          refine wpAnyH_ready (rs := [0, 2]) (by kernel_rfl) (by simp) ?_
          refine AllReadyH.cons (o := ⟨some 67, _, _, _, _, _⟩) rfl (fun K hK => ?_) ?_
          · go_simp
            refine hK.out _ _ ⟨a0, a1⟩ (fun hHeld => ?_)
            clear hK K hHeld
            try simp only [Act.put, List.setIfInBounds_toArray, List.set_cons_zero, List.set_cons_succ]
            refine wpAnyH_ready (rs := [2]) (by kernel_rfl) (by simp) ?_
            refine AllReadyH.cons (o := ⟨some 69, _, _, _, _, _⟩) rfl (fun K hK => ?_) AllReadyH.nil
            go_simp
            refine (span_any xa xc _ hxa hxm hxc).mono ?_
            rintro e Vf ⟨rfl, hbf⟩
            have Af : Adds V3 Vf := (Adds.refl V3).drew.trans hbf
            have b0 := keep_cell Af a0
            have b1 := keep_cell Af a1
            have l2 := keep_cell Af l1
            refine hK.out _ _ ⟨b0, b1⟩ (fun hHeld => ?_)
            clear hK K hHeld
            try simp only [Act.put, List.setIfInBounds_toArray, List.set_cons_zero, List.set_cons_succ]
            refine wpAnyH_ready (rs := [3]) (by kernel_rfl) (by simp) ?_
            refine AllReadyH.cons (o := ⟨some 70, _, _, _, _, _⟩) rfl (fun K hK => ?_) AllReadyH.nil
            go_simp
            obtain ⟨Vb, hVb⟩ : ∃ X, X = Vf.alloc (.cells #[.int .i64 xa, .int .i64 (xc - xa + 1)] 32) := ⟨_, rfl⟩
            rw [← hVb]
            have Ab : Adds Vf Vb := by rw [hVb]; exact (Adds.refl _).alloc _
            have X9 : Vb.heap[Vf.heap.size]? = some (.cells #[.int .i64 xa, .int .i64 (xc - xa + 1)] 32 (0, 0)) := by rw [hVb]; exact Box.new _ _ _
            have c0 := keep_cell Ab b0
            have c1 := keep_cell Ab b1
            have l3 := keep_cell Ab l2
            have HX9 := Lib.hid X9
            clear hVb X9
            refine hK.out _ _ ⟨c0, c1⟩ (fun hHeld => ?_)
            clear hK K hHeld
            try simp only [Act.put, List.setIfInBounds_toArray, List.set_cons_zero, List.set_cons_succ]
            obtain ⟨i0, hi0, hz0, hz1, hz2⟩ := info_parts info32
            have HR10 := Lib.hid (ownsRow_same H2.out (fun g hg => ((A23.trans Af).trans Ab).block g (H2.out.lt g hg).2))
            have hX9l : Vf.heap.size < Vb.heap.size := lt_of_block HX9.out
            have zab := ((A23.trans Af).trans Ab).size
            have nown : ∀ k, V.heap.size ≤ k → some k ≠ (Value.slice (some ⟨g, 0, none⟩) (m + 1) cap).ownBlock := fun k hk e => by have := HOV.out k e.symm; omega
            refine wpAnyH_ready (rs := [4]) (by kernel_rfl) (by simp) ?_
            refine AllReadyH.cons (o := ⟨some 71, _, _, _, _, _⟩) rfl (fun K hK => ?_) AllReadyH.nil
            refine step_append_lies _ (by rfl) _ _ _ (by rfl) W8.heap.size 32 i0 _ 2 16 Try.underlying55 hi0 hz0 hz1 hz2 rfl (by omega) (Value.slice (some ⟨g, 0, none⟩) (m + 1) cap) (accT pre).length ((accT pre).flatMap spanCells) (by rfl) HR10.out ⟨Vf.heap.size, 0, none⟩ 1 1 (spanCells (xa, xc)) (by rfl) (by rfl) (World.news_of_block HX9.out) (by simp [Value.oneCell', spanCells]) (by omega) (by have := HAL.out; unfold maxLen; omega) (by have := HAL.out; omega) (by omega) Vb.heap.size rfl ?_
            intro g9 cap9 Vc hownc hgrow hgat hglt
            have HOWN := Lib.hid hownc
            have HGAT := Lib.hid hgat
            have d0' := (hgrow.cell_far ⟨V.heap.size, 0, none⟩ (by exact cell_lt c0) (nown _ (by show V.heap.size ≤ V.heap.size; omega))).trans c0
            have d1' := (hgrow.cell_far ⟨V.heap.size, 1, none⟩ (by exact cell_lt c0) (nown _ (by show V.heap.size ≤ V.heap.size; omega))).trans c1
            have bL : Box Vc lb #[Value.slice (some ⟨g, 0, none⟩) (m + 1) cap] 55 := (H1.out.later ((A23.trans Af).trans Ab)).same (hgrow.block _ (by have := H1.out.lt; omega) (fun e => by have := (H2.out.lt _ e.symm).1; omega))
            have r1' := bL.cell 0
            have rf0 := bL.free 0
            simp only [List.getElem?_toArray, List.getElem?_cons_zero] at r1'
            clear hownc bL hgat
            refine hK.out _ _ ⟨d0', d1'⟩ (fun hHeld => ?_)
            clear hK K hHeld
            try simp only [Act.put, List.setIfInBounds_toArray, List.set_cons_zero, List.set_cons_succ]
            refine wpAnyH_ready (rs := [5]) (by kernel_rfl) (by simp) ?_
            refine AllReadyH.cons (o := ⟨none, _, _, _, _, _⟩) rfl (fun K hK => ?_) AllReadyH.nil
            go_simp
            have u1 : lb ≠ V.heap.size := by omega
            refine hK.out _ _ ⟨by rw [World.cell?_setCell_far _ _ _ _ (by exact u1)]; exact d0', by rw [World.cell?_setCell_far _ _ _ _ (by exact u1)]; exact d1'⟩ (fun hHeld => ?_)
            clear hK K hHeld
            try simp only [Act.put, List.setIfInBounds_toArray, List.set_cons_zero, List.set_cons_succ]
            refine wpAnyH_done (by kernel_rfl) ?_ _
            gi_wp2_with fail
            have hfin := span_fin (lb := lb) HXX.out hlw H1.out H2.out h3 h8 h9 (A23.trans Af) Ab HOWN.out hgrow HGAT.out
            first | exact hfin | (rw [HN0.out] at hfin; exact hfin)
          · refine AllReadyH.cons (o := ⟨some 69, _, _, _, _, _⟩) rfl (fun K hK => ?_) AllReadyH.nil
            go_simp
            refine (span_any xa xc _ hxa hxm hxc).mono ?_
            rintro e Vf ⟨rfl, hbf⟩
            have Af : Adds V3 Vf := (Adds.refl V3).drew.trans hbf
            have b0 := keep_cell Af a0
            have b1 := keep_cell Af a1
            have l2 := keep_cell Af l1
            refine hK.out _ _ ⟨b0, b1⟩ (fun hHeld => ?_)
            clear hK K hHeld
            try simp only [Act.put, List.setIfInBounds_toArray, List.set_cons_zero, List.set_cons_succ]
            refine wpAnyH_ready (rs := [0, 3]) (by kernel_rfl) (by simp) ?_
            refine AllReadyH.cons (o := ⟨some 67, _, _, _, _, _⟩) rfl (fun K hK => ?_) ?_
            · go_simp
              refine hK.out _ _ ⟨b0, b1⟩ (fun hHeld => ?_)
              clear hK K hHeld
              try simp only [Act.put, List.setIfInBounds_toArray, List.set_cons_zero, List.set_cons_succ]
              refine wpAnyH_ready (rs := [3]) (by kernel_rfl) (by simp) ?_
              refine AllReadyH.cons (o := ⟨some 70, _, _, _, _, _⟩) rfl (fun K hK => ?_) AllReadyH.nil
              go_simp
              obtain ⟨Vb, hVb⟩ : ∃ X, X = Vf.alloc (.cells #[.int .i64 xa, .int .i64 (xc - xa + 1)] 32) := ⟨_, rfl⟩
              rw [← hVb]
              have Ab : Adds Vf Vb := by rw [hVb]; exact (Adds.refl _).alloc _
              have X9 : Vb.heap[Vf.heap.size]? = some (.cells #[.int .i64 xa, .int .i64 (xc - xa + 1)] 32 (0, 0)) := by rw [hVb]; exact Box.new _ _ _
              have c0 := keep_cell Ab b0
              have c1 := keep_cell Ab b1
              have l3 := keep_cell Ab l2
              have HX9 := Lib.hid X9
              clear hVb X9
              refine hK.out _ _ ⟨c0, c1⟩ (fun hHeld => ?_)
              clear hK K hHeld
              try simp only [Act.put, List.setIfInBounds_toArray, List.set_cons_zero, List.set_cons_succ]
              obtain ⟨i0, hi0, hz0, hz1, hz2⟩ := info_parts info32
              have HR10 := Lib.hid (ownsRow_same H2.out (fun g hg => ((A23.trans Af).trans Ab).block g (H2.out.lt g hg).2))
              have hX9l : Vf.heap.size < Vb.heap.size := lt_of_block HX9.out
              have zab := ((A23.trans Af).trans Ab).size
              have nown : ∀ k, V.heap.size ≤ k → some k ≠ (Value.slice (some ⟨g, 0, none⟩) (m + 1) cap).ownBlock := fun k hk e => by have := HOV.out k e.symm; omega
              refine wpAnyH_ready (rs := [4]) (by kernel_rfl) (by simp) ?_
              refine AllReadyH.cons (o := ⟨some 71, _, _, _, _, _⟩) rfl (fun K hK => ?_) AllReadyH.nil
              refine step_append_lies _ (by rfl) _ _ _ (by rfl) W8.heap.size 32 i0 _ 2 16 Try.underlying55 hi0 hz0 hz1 hz2 rfl (by omega) (Value.slice (some ⟨g, 0, none⟩) (m + 1) cap) (accT pre).length ((accT pre).flatMap spanCells) (by rfl) HR10.out ⟨Vf.heap.size, 0, none⟩ 1 1 (spanCells (xa, xc)) (by rfl) (by rfl) (World.news_of_block HX9.out) (by simp [Value.oneCell', spanCells]) (by omega) (by have := HAL.out; unfold maxLen; omega) (by have := HAL.out; omega) (by omega) Vb.heap.size rfl ?_
              intro g9 cap9 Vc hownc hgrow hgat hglt
              have HOWN := Lib.hid hownc
              have HGAT := Lib.hid hgat
              have d0' := (hgrow.cell_far ⟨V.heap.size, 0, none⟩ (by exact cell_lt c0) (nown _ (by show V.heap.size ≤ V.heap.size; omega))).trans c0
              have d1' := (hgrow.cell_far ⟨V.heap.size, 1, none⟩ (by exact cell_lt c0) (nown _ (by show V.heap.size ≤ V.heap.size; omega))).trans c1
              have bL : Box Vc lb #[Value.slice (some ⟨g, 0, none⟩) (m + 1) cap] 55 := (H1.out.later ((A23.trans Af).trans Ab)).same (hgrow.block _ (by have := H1.out.lt; omega) (fun e => by have := (H2.out.lt _ e.symm).1; omega))
              have r1' := bL.cell 0
              have rf0 := bL.free 0
              simp only [List.getElem?_toArray, List.getElem?_cons_zero] at r1'
              clear hownc bL hgat
              refine hK.out _ _ ⟨d0', d1'⟩ (fun hHeld => ?_)
              clear hK K hHeld
              try simp only [Act.put, List.setIfInBounds_toArray, List.set_cons_zero, List.set_cons_succ]
              refine wpAnyH_ready (rs := [5]) (by kernel_rfl) (by simp) ?_
              refine AllReadyH.cons (o := ⟨none, _, _, _, _, _⟩) rfl (fun K hK => ?_) AllReadyH.nil
              go_simp
              have u1 : lb ≠ V.heap.size := by omega
              refine hK.out _ _ ⟨by rw [World.cell?_setCell_far _ _ _ _ (by exact u1)]; exact d0', by rw [World.cell?_setCell_far _ _ _ _ (by exact u1)]; exact d1'⟩ (fun hHeld => ?_)
              clear hK K hHeld
              try simp only [Act.put, List.setIfInBounds_toArray, List.set_cons_zero, List.set_cons_succ]
              refine wpAnyH_done (by kernel_rfl) ?_ _
              gi_wp2_with fail
              have hfin := span_fin (lb := lb) HXX.out hlw H1.out H2.out h3 h8 h9 (A23.trans Af) Ab HOWN.out hgrow HGAT.out
              first | exact hfin | (rw [HN0.out] at hfin; exact hfin)
            · refine AllReadyH.cons (o := ⟨some 70, _, _, _, _, _⟩) rfl (fun K hK => ?_) AllReadyH.nil
              go_simp
              obtain ⟨Vb, hVb⟩ : ∃ X, X = Vf.alloc (.cells #[.int .i64 xa, .int .i64 (xc - xa + 1)] 32) := ⟨_, rfl⟩
              rw [← hVb]
              have Ab : Adds Vf Vb := by rw [hVb]; exact (Adds.refl _).alloc _
              have X9 : Vb.heap[Vf.heap.size]? = some (.cells #[.int .i64 xa, .int .i64 (xc - xa + 1)] 32 (0, 0)) := by rw [hVb]; exact Box.new _ _ _
              have c0 := keep_cell Ab b0
              have c1 := keep_cell Ab b1
              have l3 := keep_cell Ab l2
              have HX9 := Lib.hid X9
              clear hVb X9
              refine hK.out _ _ ⟨c0, c1⟩ (fun hHeld => ?_)
              clear hK K hHeld
              try simp only [Act.put, List.setIfInBounds_toArray, List.set_cons_zero, List.set_cons_succ]
              refine wpAnyH_ready (rs := [0]) (by kernel_rfl) (by simp) ?_
              refine AllReadyH.cons (o := ⟨some 67, _, _, _, _, _⟩) rfl (fun K hK => ?_) AllReadyH.nil
              go_simp
              refine hK.out _ _ ⟨c0, c1⟩ (fun hHeld => ?_)
              clear hK K hHeld
              try simp only [Act.put, List.setIfInBounds_toArray, List.set_cons_zero, List.set_cons_succ]
              obtain ⟨i0, hi0, hz0, hz1, hz2⟩ := info_parts info32
              have HR10 := Lib.hid (ownsRow_same H2.out (fun g hg => ((A23.trans Af).trans Ab).block g (H2.out.lt g hg).2))
              have hX9l : Vf.heap.size < Vb.heap.size := lt_of_block HX9.out
              have zab := ((A23.trans Af).trans Ab).size
              have nown : ∀ k, V.heap.size ≤ k → some k ≠ (Value.slice (some ⟨g, 0, none⟩) (m + 1) cap).ownBlock := fun k hk e => by have := HOV.out k e.symm; omega
              refine wpAnyH_ready (rs := [4]) (by kernel_rfl) (by simp) ?_
              refine AllReadyH.cons (o := ⟨some 71, _, _, _, _, _⟩) rfl (fun K hK => ?_) AllReadyH.nil
              refine step_append_lies _ (by rfl) _ _ _ (by rfl) W8.heap.size 32 i0 _ 2 16 Try.underlying55 hi0 hz0 hz1 hz2 rfl (by omega) (Value.slice (some ⟨g, 0, none⟩) (m + 1) cap) (accT pre).length ((accT pre).flatMap spanCells) (by rfl) HR10.out ⟨Vf.heap.size, 0, none⟩ 1 1 (spanCells (xa, xc)) (by rfl) (by rfl) (World.news_of_block HX9.out) (by simp [Value.oneCell', spanCells]) (by omega) (by have := HAL.out; unfold maxLen; omega) (by have := HAL.out; omega) (by omega) Vb.heap.size rfl ?_
              intro g9 cap9 Vc hownc hgrow hgat hglt
              have HOWN := Lib.hid hownc
              have HGAT := Lib.hid hgat
              have d0' := (hgrow.cell_far ⟨V.heap.size, 0, none⟩ (by exact cell_lt c0) (nown _ (by show V.heap.size ≤ V.heap.size; omega))).trans c0
              have d1' := (hgrow.cell_far ⟨V.heap.size, 1, none⟩ (by exact cell_lt c0) (nown _ (by show V.heap.size ≤ V.heap.size; omega))).trans c1
              have bL : Box Vc lb #[Value.slice (some ⟨g, 0, none⟩) (m + 1) cap] 55 := (H1.out.later ((A23.trans Af).trans Ab)).same (hgrow.block _ (by have := H1.out.lt; omega) (fun e => by have := (H2.out.lt _ e.symm).1; omega))
              have r1' := bL.cell 0
              have rf0 := bL.free 0
              simp only [List.getElem?_toArray, List.getElem?_cons_zero] at r1'
              clear hownc bL hgat
              refine hK.out _ _ ⟨d0', d1'⟩ (fun hHeld => ?_)
              clear hK K hHeld
              try simp only [Act.put, List.setIfInBounds_toArray, List.set_cons_zero, List.set_cons_succ]
              refine wpAnyH_ready (rs := [5]) (by kernel_rfl) (by simp) ?_
              refine AllReadyH.cons (o := ⟨none, _, _, _, _, _⟩) rfl (fun K hK => ?_) AllReadyH.nil
              go_simp
              have u1 : lb ≠ V.heap.size := by omega
              refine hK.out _ _ ⟨by rw [World.cell?_setCell_far _ _ _ _ (by exact u1)]; exact d0', by rw [World.cell?_setCell_far _ _ _ _ (by exact u1)]; exact d1'⟩ (fun hHeld => ?_)
              clear hK K hHeld
              try simp only [Act.put, List.setIfInBounds_toArray, List.set_cons_zero, List.set_cons_succ]
              refine wpAnyH_done (by kernel_rfl) ?_ _
              gi_wp2_with fail
              have hfin := span_fin (lb := lb) HXX.out hlw H1.out H2.out h3 h8 h9 (A23.trans Af) Ab HOWN.out hgrow HGAT.out
              first | exact hfin | (rw [HN0.out] at hfin; exact hfin)
  · rintro D O V hD ⟨hv, rfl, h1, h2, h3, h8, h9⟩ hVD nD
    have l0 := h1.cell 0
    simp only [List.getElem?_toArray, List.getElem?_cons_zero] at l0
    have H2 := Lib.hid h2
    have HVD := Lib.hid hVD
    have HND := Lib.hid nD
    clear h1 h2 hVD nD
    go_wp2
    refine ⟨by simp, Or.inl ⟨D, _, rfl, run_takeDeferred HVD.out, ⟨.tuple #[hv, .int .i64 0], by simp [results, Try.results28, go_sem], hv, rfl, ?_, ?_⟩⟩⟩
    · have h := ownsRow_same (w' := V.putObj D (.deferred none)) H2.out (fun g hg => World.putObj_heap_other (fun e => HND.out (Or.inr (e ▸ hg))))
      obtain ⟨k1, k2⟩ := h
      rw [← HTE1.out, ← HTE2.out, ← HXS.out, ← foldl_joinD]
      refine ⟨k1, ?_⟩
      rcases k2 with k2 | ⟨g, cap, cur, hv', hg, r⟩
      · exact Or.inl k2
      · exact Or.inr ⟨g, cap, cur, hv', Nat.le_trans w8.size hg, r⟩
    · exact ⟨h8.os, h8.tape, h8.output, by simp; exact h8.size, fun k hk => (World.putObj_heap_other (by have := w8.size; omega)).trans (h8.block k hk)⟩
  · intro D c O pre rest V _ _ h
    exact h.elim
end Go.Proofs.Ytofaioabjkcaiaa
