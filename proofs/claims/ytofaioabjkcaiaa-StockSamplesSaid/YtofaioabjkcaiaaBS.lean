/- add and changed of the reference. -/
import Derived.Test.YtofaioabjkcaiaaBR
import Derived.Test.YtofaioabjkcaiaaBP
import Derived.BigQuiet
namespace Go.Proofs.Ytofaioabjkcaiaa
open Go.RowKit

/-- The cells of a run. -/
def runCells (x : Piece) : List Value := [.int .i64 x.1, .int .i64 x.2.1, .int .i64 x.2.2.st, .int .i64 x.2.2.lot, .int .i64 x.2.2.own, .int .i64 x.2.2.hold]

/-- A run as a value. -/
def runVal (x : Piece) : Value := .agg #[.int .i64 x.1, .int .i64 x.2.1, .int .i64 x.2.2.st, .int .i64 x.2.2.lot, .int .i64 x.2.2.own, .int .i64 x.2.2.hold]

/-- A row of runs in memory. -/
def RunRow (w : World) (base : Nat) (v : Value) (l : List Piece) : Prop := w.ownsRow base 63 6 v l.length (l.flatMap runCells)

theorem runs_len (l : List Piece) : (l.flatMap runCells).length = 6 * l.length := by
  induction l with
  | nil => rfl
  | cons x l ih => simp only [List.flatMap_cons, List.length_append, List.length_cons, ih, runCells, List.length_nil]; omega

theorem info63 : (Try.prog.info? 63).map (fun i => (i.zero, i.size, i.bytes)) = some (some (.agg #[.int .i64 0, .int .i64 0, .int .i64 0, .int .i64 0, .int .i64 0, .int .i64 0]), 6, 48) := by kernel_rfl

/-- The cells of one of the runs. -/
theorem runs_at {l : List Piece} {i : Nat} {x : Piece} (h : l[i]? = some x) {j : Nat} (hj : j < 6) : (l.flatMap runCells)[i * 6 + j]? = (runCells x)[j]? := by
  induction l generalizing i with
  | nil => simp at h
  | cons y l ih =>
    rw [List.flatMap_cons]
    cases i with
    | zero =>
      simp only [List.getElem?_cons_zero, Option.some.injEq] at h
      subst h
      rw [List.getElem?_append_left (by simp [runCells]; omega)]
      simp
    | succ i =>
      simp only [List.getElem?_cons_succ] at h
      rw [List.getElem?_append_right (by simp [runCells]; omega), show (i + 1) * 6 + j - (runCells y).length = i * 6 + j by simp [runCells]; omega]
      exact ih h

/-- What a row of runs says of its cells. -/
theorem RunRow.cells {w : World} {base : Nat} {v : Value} {l : List Piece} (h : RunRow w base v l) : (v = .slice none 0 0 ∧ l = []) ∨ ∃ g cap, v = .slice (some ⟨g, 0, none⟩) l.length cap ∧ base ≤ g ∧ g < w.heap.size ∧ l.length ≤ cap ∧ cap ≤ maxLen ∧
    (∀ (i : Nat) (x : Piece), l[i]? = some x → ∀ j, j < 6 → w.cell? ⟨g, i * 6 + j, none⟩ = (runCells x)[j]?) ∧ ∀ i, w.frozen? ⟨g, i, none⟩ = false := by
  obtain ⟨h1, h2⟩ := h
  rcases h2 with ⟨hv, hn⟩ | ⟨g, cap, cur, hv, hg, hh, hn, hcap, hs, ht⟩
  · exact Or.inl ⟨hv, List.length_eq_zero_iff.1 hn⟩
  · refine Or.inr ⟨g, cap, hv, hg, (Array.getElem?_eq_some_iff.1 hh).1, hn, hcap, fun i x hx j hj => ?_, fun i => by simp [World.frozen?, hh]⟩
    have hi : i < l.length := (List.getElem?_eq_some_iff.1 hx).1
    have : (cur.toList.take (l.length * 6))[i * 6 + j]? = (runCells x)[j]? := by rw [ht]; exact runs_at hx hj
    rw [List.getElem?_take, if_pos (by omega), Array.getElem?_toList] at this
    simp [World.cell?, hh, this]

theorem RunRow.later {w w' : World} {base : Nat} {v : Value} {l : List Piece} (h : RunRow w base v l) (ha : Adds w w') : RunRow w' base v l :=
  ownsRow_same h (fun g hg => ha.block g (h.lt g hg).2)

theorem runs_set (l : List Piece) (y : Piece) (c : Int) : ((l ++ [y]).flatMap runCells).set (l.length * 6 + 1) (.int .i64 c) = (l ++ [(y.1, c, y.2.2)]).flatMap runCells := by
  rw [List.flatMap_append, List.flatMap_append, List.set_append_right _ _ (by rw [runs_len]; omega), runs_len, show l.length * 6 + 1 - 6 * l.length = 1 by omega]
  rfl

theorem new_at {w : World} {vs : Array Value} {t : TypeId} {n : Nat} (h : w.heap.size = n) : (w.alloc (.cells vs t)).heap[n]? = some (.cells vs t (0, 0)) := by subst h; exact Box.new _ _ _

theorem RunRow.len_eq {w : World} {base : Nat} {v : Value} {l : List Piece} {n : Nat} (h : RunRow w base v l) (e : l.length = n) : w.ownsRow base 63 6 v n (l.flatMap runCells) := by subst e; exact h

theorem row_of {w : World} {base : Nat} {v : Value} {l : List Piece} {n : Nat} (h : w.ownsRow base 63 6 v n (l.flatMap runCells)) (e : l.length = n) : RunRow w base v l := by subst e; exact h

theorem row_grow {w Vb Vc : World} {v : Value} {g n cap : Nat} (A : Adds w Vb) (hg : Vb.grownBy Vc v.ownBlock) (hat : v.ownBlock = some g ∨ g = Vb.heap.size) :
    Grow (fun k => v.ownBlock = some k) w (fun k => (Value.slice (some ⟨g, 0, none⟩) n cap).ownBlock = some k) Vc := by
  have z := A.size
  have z2 := hg.size
  refine ⟨⟨hg.os.trans A.os, hg.tape.trans A.tape, hg.output.trans A.output, by omega, fun k hk hn => ?_⟩, fun k hk => ?_⟩
  · rw [hg.block k (by omega) (fun e => hn e.symm)]
    exact A.block k hk
  · simp only [Value.ownBlock, Option.some.injEq] at hk
    subst hk
    rcases hat with h | h
    · exact Or.inl h
    · exact Or.inr (by omega)

theorem pk_split (a b : Pk) : a = b ∨ (a.st == b.st) = false ∨ ((a.st == b.st) = true ∧ (a.lot == b.lot) = false) ∨ ((a.st == b.st) = true ∧ (a.lot == b.lot) = true ∧ (a.own == b.own) = false) ∨ ((a.st == b.st) = true ∧ (a.lot == b.lot) = true ∧ (a.own == b.own) = true ∧ (a.hold == b.hold) = false) := by
  obtain ⟨a1, a2, a3, a4⟩ := a
  obtain ⟨b1, b2, b3, b4⟩ := b
  simp only [Pk.mk.injEq]
  by_cases h1 : a1 = b1 <;> by_cases h2 : a2 = b2 <;> by_cases h3 : a3 = b3 <;> by_cases h4 : a4 = b4 <;> simp [h1, h2, h3, h4]

/-- What add returns. -/
def RowGot (base : Nat) (v : Value) (l : List Piece) (w : World) (e : Ending) (w' : World) : Prop :=
  ∃ v', e = .returned v' ∧ RunRow w' base v' l ∧ Grow (fun k => v.ownBlock = some k) w (fun k => v'.ownBlock = some k) w'

set_option maxRecDepth 100000 in
set_option maxHeartbeats 2000000 in
theorem add_any (base : Nat) (v : Value) (l : List Piece) (r : Piece) (w : World) (hr : RunRow w base v l) (hb : base ≤ w.heap.size) (hl : l.length ≤ 5000000) (hbd : ∀ x ∈ l, -10000000 ≤ x.2.1 ∧ x.2.1 ≤ 10000000) :
    Calls Try.prog 112 #[v, runVal r] w (RowGot base v (addR l r) w) := by
  obtain ⟨xa, xc, st, lot, ow, hd⟩ := r
  unfold runVal
  dsimp only
  have HR := Lib.hid hr
  have HBD := Lib.hid hbd
  clear hr hbd
  by_cases hA : xc < xa
  · go_enter Try.func112, Try.ntmps112
    go_wp2
    go_ret
    have A : Adds w (w.alloc (.cells #[.int .i64 xa, .int .i64 xc, .int .i64 st, .int .i64 lot, .int .i64 ow, .int .i64 hd] 63)) := (Adds.refl w).alloc _
    rw [addR_empty hA]
    exact ⟨v, rfl, HR.out.later A, Grow.of_adds A _⟩
  · by_cases hs : st = 0
    · subst hs
      go_enter Try.func112, Try.ntmps112
      go_wp2
      go_ret
      have A : Adds w (w.alloc (.cells #[.int .i64 xa, .int .i64 xc, .int .i64 0, .int .i64 lot, .int .i64 ow, .int .i64 hd] 63)) := (Adds.refl w).alloc _
      have e : addR l (xa, xc, ⟨0, lot, ow, hd⟩) = l := by unfold addR; rw [if_pos (Or.inr rfl)]
      rw [e]
      exact ⟨v, rfl, HR.out.later A, Grow.of_adds A _⟩
    · have hs' : (st == 0) = false := beq_eq_false_iff_ne.2 hs
      obtain ⟨j0, hj, hj0, hj1, hj2⟩ := info_parts info63
      have HJ := Lib.hid hj
      have HJ0 := Lib.hid hj0
      have HJ1 := Lib.hid hj1
      have HJ2 := Lib.hid hj2
      have hc : ¬ ((xa, xc, (⟨st, lot, ow, hd⟩ : Pk)).2.1 < (xa, xc, (⟨st, lot, ow, hd⟩ : Pk)).1 ∨ (xa, xc, (⟨st, lot, ow, hd⟩ : Pk)).2.2.st = 0) := by rintro (h | h); exact hA h; exact hs h
      have HC := Lib.hid hc
      clear hj hj0 hj1 hj2 hc
      rcases HR.out.cells with ⟨rfl, rfl⟩ | ⟨g, cap, rfl, hg, hgl, hcap, hcm, hcell, hfr⟩
      · rw [addR_nil HC.out]
        go_enter Try.func112, Try.ntmps112
        go_upto_region 4 with fail
        go_quiet (fail)
        go_wp2_with (at_builtin; ((refine wpList_append_lies _ rfl _ _ 37 rfl base 63 j0 (.agg #[.int .i64 0, .int .i64 0, .int .i64 0, .int .i64 0, .int .i64 0, .int .i64 0]) 6 48 Try.underlying37 HJ.out HJ0.out HJ1.out HJ2.out rfl (by decide) (.slice none 0 0) (0) (([] : List Piece).flatMap runCells) rfl (World.ownsRow_nil _ _ _ _) ⟨w.heap.size + 1, 0, none⟩ 1 1 (runCells (xa, xc, ⟨st, lot, ow, hd⟩)) rfl rfl (World.news_of_block (new_at (by simp))) (by simp [runCells, Value.oneCell']) (by omega) (by unfold maxLen; omega) (by omega) (by simp; omega) _ rfl ?_); intro g9 c9 Vc hown hgrow hgat hglt; have HOWN := Lib.hid hown; have HGR := Lib.hid hgrow; have HGA := Lib.hid hgat; clear hown hgrow hgat))
        go_ret
        refine ⟨.slice (some ⟨g9, 0, none⟩) (0 + 1) c9, rfl, ?_, row_grow ((((Adds.refl w).alloc _).drewN _).alloc _) HGR.out HGA.out⟩
        have h := HOWN.out
        rw [show runCells (xa, xc, ⟨st, lot, ow, hd⟩) = [(xa, xc, ⟨st, lot, ow, hd⟩)].flatMap runCells by simp, ← List.flatMap_append] at h
        exact row_of h (by simp)
      · rcases List.eq_nil_or_concat l with rfl | ⟨ini, ⟨ya, yc, ys, yl, yo, yh⟩, rfl⟩
        · rw [addR_nil HC.out]
          have HE := Lib.hid (show RunRow w base (.slice (some ⟨g, 0, none⟩) 0 cap) [] from HR.out)
          simp only [List.length_nil] at *
          clear hcell hfr HBD
          go_enter Try.func112, Try.ntmps112
          go_upto_region 4 with fail
          go_quiet (fail)
          go_wp2_with (at_builtin; ((refine wpList_append_lies _ rfl _ _ 37 rfl base 63 j0 (.agg #[.int .i64 0, .int .i64 0, .int .i64 0, .int .i64 0, .int .i64 0, .int .i64 0]) 6 48 Try.underlying37 HJ.out HJ0.out HJ1.out HJ2.out rfl (by decide) (.slice (some ⟨g, 0, none⟩) 0 cap) (0) (([] : List Piece).flatMap runCells) rfl (((HE.out.later ((Adds.refl w).alloc _)).later ((Adds.refl _).drewN _)).later ((Adds.refl _).alloc _)) ⟨w.heap.size + 1, 0, none⟩ 1 1 (runCells (xa, xc, ⟨st, lot, ow, hd⟩)) rfl rfl (World.news_of_block (new_at (by simp))) (by simp [runCells, Value.oneCell']) (by omega) (by unfold maxLen; omega) (by omega) (by simp; omega) _ rfl ?_); intro g9 c9 Vc hown hgrow hgat hglt; have HOWN := Lib.hid hown; have HGR := Lib.hid hgrow; have HGA := Lib.hid hgat; clear hown hgrow hgat))
          go_ret
          refine ⟨.slice (some ⟨g9, 0, none⟩) (0 + 1) c9, rfl, ?_, row_grow ((((Adds.refl w).alloc _).drewN _).alloc _) HGR.out HGA.out⟩
          have h := HOWN.out
          rw [show runCells (xa, xc, ⟨st, lot, ow, hd⟩) = [(xa, xc, ⟨st, lot, ow, hd⟩)].flatMap runCells by simp, ← List.flatMap_append] at h
          exact row_of h (by simp)
        · rw [List.concat_eq_append] at *
          obtain ⟨m, hm⟩ : ∃ m, m = ini.length := ⟨_, rfl⟩
          have hlen : (ini ++ [(ya, yc, (⟨ys, yl, yo, yh⟩ : Pk))]).length = m + 1 := by simp [hm]
          have hb2 := HBD.out (ya, yc, ⟨ys, yl, yo, yh⟩) (by simp)
          simp only at hb2
          have hat : (ini ++ [(ya, yc, (⟨ys, yl, yo, yh⟩ : Pk))])[m]? = some (ya, yc, ⟨ys, yl, yo, yh⟩) := by rw [hm]; simp
          have r1 := hcell _ _ hat 1 (by omega)
          have r2 := hcell _ _ hat 2 (by omega)
          have r3 := hcell _ _ hat 3 (by omega)
          have r4 := hcell _ _ hat 4 (by omega)
          have r5 := hcell _ _ hat 5 (by omega)
          have f1 := hfr (m * 6 + 1)
          simp only [runCells, List.getElem?_cons_zero, List.getElem?_cons_succ] at r1 r2 r3 r4 r5
          have HROW := Lib.hid (show RunRow w base (.slice (some ⟨g, 0, none⟩) (m + 1) cap) (ini ++ [(ya, yc, ⟨ys, yl, yo, yh⟩)]) by rw [← hlen]; exact HR.out)
          rw [hlen] at hl hcap ⊢
          have HM := Lib.hid hm
          have HLEN := Lib.hid hlen
          have hsub : ((m + 1 : Nat) : Int) - 1 = (m : Int) := by omega
          clear hcell hfr HBD HR hat hm hlen
          by_cases hj : yc + 1 = xa
          · have hj' : (yc + 1 == xa) = true := beq_iff_eq.2 hj
            rcases pk_split ⟨ys, yl, yo, yh⟩ ⟨st, lot, ow, hd⟩ with hp | hp | hp | hp | hp
            · simp only [Pk.mk.injEq] at hp
              obtain ⟨rfl, rfl, rfl, rfl⟩ := hp
              rw [addR_join (y := (ya, yc, ⟨ys, yl, yo, yh⟩)) HC.out ⟨hj, rfl⟩]
              have b0 := beq_self_eq_true ys
              have b1 := beq_self_eq_true yl
              have b2 := beq_self_eq_true yo
              have b3 := beq_self_eq_true yh
              go_enter Try.func112, Try.ntmps112
              go_upto_region 4 with fail
              go_quiet (fail)
              go_wp2
              go_ret
              have A : Adds w ((w.alloc (.cells #[.int .i64 xa, .int .i64 xc, .int .i64 ys, .int .i64 yl, .int .i64 yo, .int .i64 yh] 63)).drewN nq) := ((Adds.refl w).alloc _).drewN _
              refine ⟨.slice (some ⟨g, 0, none⟩) (m + 1) cap, rfl, ?_, ?_⟩
              · have h := owns_put (j := m * 6 + 1) (u := .int .i64 xc) ((HROW.out.later A).len_eq HLEN.out)
                rw [show ((ini ++ [(ya, yc, (⟨ys, yl, yo, yh⟩ : Pk))]).flatMap runCells).set (m * 6 + 1) (.int .i64 xc) = (ini ++ [(ya, xc, (⟨ys, yl, yo, yh⟩ : Pk))]).flatMap runCells by rw [HM.out]; exact runs_set ini (ya, yc, ⟨ys, yl, yo, yh⟩) xc] at h
                exact row_of h (by simp [HM.out])
              · refine ⟨⟨A.os, A.tape, A.output, by have := A.size; simp [World.setCell], fun k hk hn => ?_⟩, fun k hk => Or.inl hk⟩
                rw [Below.heap_setCell _ _ _ _ (fun e => hn (by simp [Value.ownBlock, e]))]
                exact A.block k hk
            all_goals
              rw [addR_new (y := (ya, yc, ⟨ys, yl, yo, yh⟩)) HC.out (by rintro ⟨_, h⟩; simp only [Pk.mk.injEq] at h; obtain ⟨rfl, rfl, rfl, rfl⟩ := h; simp at hp)]
              simp only at hp
              go_enter Try.func112, Try.ntmps112
              go_upto_region 4 with fail
              go_quiet (fail)
              go_wp2_with (at_builtin; ((refine wpList_append_lies _ rfl _ _ 37 rfl base 63 j0 (.agg #[.int .i64 0, .int .i64 0, .int .i64 0, .int .i64 0, .int .i64 0, .int .i64 0]) 6 48 Try.underlying37 HJ.out HJ0.out HJ1.out HJ2.out rfl (by decide) (.slice (some ⟨g, 0, none⟩) (m + 1) cap) (m + 1) ((ini ++ [(ya, yc, (⟨ys, yl, yo, yh⟩ : Pk))]).flatMap runCells) rfl ((((HROW.out.later ((Adds.refl w).alloc _)).later ((Adds.refl _).drewN _)).later ((Adds.refl _).alloc _)).len_eq HLEN.out) ⟨w.heap.size + 1, 0, none⟩ 1 1 (runCells (xa, xc, ⟨st, lot, ow, hd⟩)) rfl rfl (World.news_of_block (new_at (by simp))) (by simp [runCells, Value.oneCell']) (by omega) (by unfold maxLen; omega) (by omega) (by simp; omega) _ rfl ?_); intro g9 c9 Vc hown hgrow hgat hglt; have HOWN := Lib.hid hown; have HGR := Lib.hid hgrow; have HGA := Lib.hid hgat; clear hown hgrow hgat))
              go_ret
              refine ⟨.slice (some ⟨g9, 0, none⟩) (m + 1 + 1) c9, rfl, ?_, row_grow ((((Adds.refl w).alloc _).drewN _).alloc _) HGR.out HGA.out⟩
              have h := HOWN.out
              rw [show runCells (xa, xc, ⟨st, lot, ow, hd⟩) = [(xa, xc, ⟨st, lot, ow, hd⟩)].flatMap runCells by simp, ← List.flatMap_append] at h
              have h2 := row_of (l := ini ++ [(ya, yc, ⟨ys, yl, yo, yh⟩)] ++ [(xa, xc, ⟨st, lot, ow, hd⟩)]) h (by simp [HM.out])
              first | exact h2 | (rw [List.append_assoc] at h2; exact h2)
          · have hj' : (yc + 1 == xa) = false := beq_eq_false_iff_ne.2 hj
            rw [addR_new (y := (ya, yc, ⟨ys, yl, yo, yh⟩)) HC.out (by rintro ⟨h, _⟩; exact hj h)]
            go_enter Try.func112, Try.ntmps112
            go_upto_region 4 with fail
            go_quiet (fail)
            go_wp2_with (at_builtin; ((refine wpList_append_lies _ rfl _ _ 37 rfl base 63 j0 (.agg #[.int .i64 0, .int .i64 0, .int .i64 0, .int .i64 0, .int .i64 0, .int .i64 0]) 6 48 Try.underlying37 HJ.out HJ0.out HJ1.out HJ2.out rfl (by decide) (.slice (some ⟨g, 0, none⟩) (m + 1) cap) (m + 1) ((ini ++ [(ya, yc, (⟨ys, yl, yo, yh⟩ : Pk))]).flatMap runCells) rfl ((((HROW.out.later ((Adds.refl w).alloc _)).later ((Adds.refl _).drewN _)).later ((Adds.refl _).alloc _)).len_eq HLEN.out) ⟨w.heap.size + 1, 0, none⟩ 1 1 (runCells (xa, xc, ⟨st, lot, ow, hd⟩)) rfl rfl (World.news_of_block (new_at (by simp))) (by simp [runCells, Value.oneCell']) (by omega) (by unfold maxLen; omega) (by omega) (by simp; omega) _ rfl ?_); intro g9 c9 Vc hown hgrow hgat hglt; have HOWN := Lib.hid hown; have HGR := Lib.hid hgrow; have HGA := Lib.hid hgat; clear hown hgrow hgat))
            go_ret
            refine ⟨.slice (some ⟨g9, 0, none⟩) (m + 1 + 1) c9, rfl, ?_, row_grow ((((Adds.refl w).alloc _).drewN _).alloc _) HGR.out HGA.out⟩
            have h := HOWN.out
            rw [show runCells (xa, xc, ⟨st, lot, ow, hd⟩) = [(xa, xc, ⟨st, lot, ow, hd⟩)].flatMap runCells by simp, ← List.flatMap_append] at h
            have h2 := row_of (l := ini ++ [(ya, yc, ⟨ys, yl, yo, yh⟩)] ++ [(xa, xc, ⟨st, lot, ow, hd⟩)]) h (by simp [HM.out])
            first | exact h2 | (rw [List.append_assoc] at h2; exact h2)

set_option maxRecDepth 100000 in
set_option maxHeartbeats 1000000 in
theorem changed_pk (p t : Pk) (what : Int) (w : World) (hw : 0 ≤ what) (hw2 : what ≤ 5) :
    Calls Try.prog 113 #[p.val, t.val, .int .i64 what] w fun e w' => e = .returned (whatF p t what).val ∧ Adds w w' := by
  obtain ⟨ps, pl, po, ph⟩ := p
  obtain ⟨ts, tl, tt, th⟩ := t
  have h6 : what = 0 ∨ what = 1 ∨ what = 2 ∨ what = 3 ∨ what = 4 ∨ what = 5 := by omega
  unfold Pk.val
  dsimp only
  rcases h6 with rfl | rfl | rfl | rfl | rfl | rfl
  all_goals
    go_enter Try.func113, Try.ntmps113
    go_wp2
    refine bodyPost_ret (v := (whatF ⟨ps, pl, po, ph⟩ ⟨ts, tl, tt, th⟩ _).val) ?_ rfl ⟨rfl, ?_⟩
    · simp [results, Try.results113, go_sem, whatF, Pk.val]
    · exact (((Adds.refl w).alloc _).alloc _).alloc _
end Go.Proofs.Ytofaioabjkcaiaa
