/- StockAlphas: the walk. -/
import Derived.Test.YtofaioabjkcaiaaBH
import Derived.Test.YtofaioabjkcaiaaAF
import Derived.Deep.AppendLies
import Derived.OwnWalk
namespace Go.Proofs.Ytofaioabjkcaiaa
open Go.RowKit

/-- Pairs in memory: N of them. -/
def PairsAt (w : World) (p : Option Addr) (N : Nat) (f : Nat → Int × Int) : Prop :=
  ∀ i, i < N → ∃ g off, p = some ⟨g, off, none⟩ ∧ w.cell? ⟨g, off + i * 2, none⟩ = some (.int .i64 (f i).1) ∧ w.cell? ⟨g, off + i * 2 + 1, none⟩ = some (.int .i64 (f i).2)

def pairCells (x : Int × Int) : List Value := [.int .i64 x.1, .int .i64 x.2]

/-- The first k pairs. -/
def firstPairs (f : Nat → Int × Int) (k : Nat) : List (Int × Int) := (List.range k).map f

theorem firstPairs_len (f : Nat → Int × Int) (k : Nat) : (firstPairs f k).length = k := by simp [firstPairs]
theorem firstPairs_next (f : Nat → Int × Int) (k : Nat) : (firstPairs f (k + 1)).flatMap pairCells = (firstPairs f k).flatMap pairCells ++ pairCells (f k) := by simp [firstPairs, List.range_succ]

theorem pair_cell {l : List (Int × Int)} : ∀ (k : Nat) (t : Int × Int), l[k]? = some t → (l.flatMap pairCells)[k * 2]? = some (.int .i64 t.1) ∧ (l.flatMap pairCells)[k * 2 + 1]? = some (.int .i64 t.2) := by
  induction l with
  | nil => intro k t h; simp at h
  | cons y l ih =>
    intro k t h
    cases k with
    | zero => simp at h; subst h; exact ⟨rfl, rfl⟩
    | succ k =>
      obtain ⟨h1, h2⟩ := ih k t (by simpa using h)
      rw [List.flatMap_cons, List.getElem?_append_right (by simp [pairCells]; omega), List.getElem?_append_right (by simp [pairCells]; omega)]
      simp only [pairCells, List.length_cons, List.length_nil]
      rw [show (k + 1) * 2 - (0 + 1 + 1) = k * 2 by omega, show (k + 1) * 2 + 1 - (0 + 1 + 1) = k * 2 + 1 by omega]
      exact ⟨h1, h2⟩

theorem info91 : (Try.prog.info? 91).map (fun i => (i.zero, i.size, i.bytes)) = some (some (.agg #[.int .i64 0, .int .i64 0]), 2, 16) := by kernel_rfl
theorem info92 : (Try.prog.info? 92).map (fun i => (i.zero, i.size, i.bytes)) = some (some (.agg #[.int .i64 0, .int .i64 0]), 2, 16) := by kernel_rfl

/-- Rows of different types lie apart. -/
theorem rows_apart {w : World} {b b' e e' s s' n n' : Nat} {v v' : Value} {xs xs' : List Value} (h : w.ownsRow b e s v n xs) (h' : w.ownsRow b' e' s' v' n' xs') (hne : e ≠ e') : v.ownBlock = none ∨ v.ownBlock ≠ v'.ownBlock := by
  rcases h.2 with ⟨rfl, _⟩ | ⟨g, cap, cur, rfl, _, hg, _⟩
  · exact Or.inl rfl
  · right
    rcases h'.2 with ⟨rfl, _⟩ | ⟨g', cap', cur', rfl, _, hg', _⟩
    · simp [Value.ownBlock]
    · simp only [Value.ownBlock, ne_eq, Option.some.injEq]
      rintro rfl
      rw [hg] at hg'
      simp at hg'
      exact hne hg'.2

theorem row_reads {w : World} {b e n : Nat} {v : Value} {l : List (Int × Int)} (h : w.ownsRow b e 2 v l.length (l.flatMap pairCells)) (hn : n = l.length) : (v = .slice none 0 0 ∧ l = []) ∨ ∃ g cap, v = .slice (some ⟨g, 0, none⟩) l.length cap ∧ (∀ k t, l[k]? = some t → w.cell? ⟨g, k * 2, none⟩ = some (.int .i64 t.1) ∧ w.cell? ⟨g, k * 2 + 1, none⟩ = some (.int .i64 t.2)) := by
  have h0 := h
  rcases h.2 with ⟨rfl, hz⟩ | ⟨g, cap, cur, rfl, _, hg, _⟩
  · exact Or.inl ⟨rfl, List.length_eq_zero_iff.1 hz⟩
  · refine Or.inr ⟨g, cap, rfl, fun k t hk => ?_⟩
    have hlt : k < l.length := (List.getElem?_eq_some_iff.1 hk).1
    obtain ⟨h1, h2⟩ := pair_cell k t hk
    exact ⟨by rw [h0.cellAt (k * 2) (by omega), h1], by rw [h0.cellAt (k * 2 + 1) (by omega), h2]⟩

theorem row_later {w w' : World} {b e s n : Nat} {v : Value} {xs : List Value} (h : w.ownsRow b e s v n xs) (hb : Adds w w') : w'.ownsRow b e s v n xs :=
  h.kept (row := none) ⟨hb.os, hb.tape, hb.output, hb.size, fun k hk _ => hb.block k hk⟩ (by cases h' : v.ownBlock with | none => exact .inl rfl | some k => exact .inr (by simp))

theorem own_base {w : World} {b e s n : Nat} {v : Value} {xs : List Value} (h : w.ownsRow b e s v n xs) : ∀ k, v.ownBlock = some k → b ≤ k := by
  intro k hk
  rcases h.2 with ⟨rfl, _⟩ | ⟨g, cap, cur, rfl, hb, _⟩
  · simp [Value.ownBlock] at hk
  · simp [Value.ownBlock] at hk; omega

set_option maxRecDepth 100000 in
set_option maxHeartbeats 4000000 in
theorem alphas_any (p : Option Addr) (N cap : Nat) (f : Nat → Int × Int) (o0 o1 o2 o3 : Int) (w : World) (hN : N ≤ maxLen) (hL : PairsAt w p N f) :
    Calls Try.prog 12 #[.slice p N cap, .agg #[.int .i64 o0, .int .i64 o1, .int .i64 o2, .int .i64 o3]] w fun e w' => e = .returned (.bool true) ∧ Adds w w' := by
  unfold maxLen at hN
  have HL := Lib.hid hL
  clear hL
  obtain ⟨j0, hj, hj0, hj1, hj2⟩ := info_parts info91
  obtain ⟨i0, hi, hi0, hi1, hi2⟩ := info_parts info92
  have HJ := Lib.hid hj
  have HJ0 := Lib.hid hj0
  have HJ1 := Lib.hid hj1
  have HJ2 := Lib.hid hj2
  have HI := Lib.hid hi
  have HI0 := Lib.hid hi0
  have HI1 := Lib.hid hi1
  have HI2 := Lib.hid hi2
  clear hj hj0 hj1 hj2 hi hi0 hi1 hi2
  by_cases hbig : 4096 < N
  · obtain ⟨M, hM⟩ : ∃ M : Nat, M = 4097 := ⟨_, rfl⟩
    have hdN : decide ((4096 : Int) < (N : Int)) = true := decide_eq_true (by omega)
    go_enter Try.func12, Try.ntmps12
    go_wp2
    rw [show (4097 : Int) = (M : Int) by omega]
    have hMb : M ≤ 4097 := by omega
    obtain ⟨w0, hw0⟩ : ∃ V, V = w.alloc (.cells #[.int .i64 o0, .int .i64 o1, .int .i64 o2, .int .i64 o3] 88) := ⟨_, rfl⟩
    have A0 : Adds w w0 := by rw [hw0]; exact (Adds.refl w).alloc _
    have Z : Box w0 w.heap.size #[.int .i64 o0, .int .i64 o1, .int .i64 o2, .int .i64 o3] 88 := by rw [hw0]; exact Box.new w _ _
    rw [← hw0]
    clear hw0 hM
    generalize w.heap.size = ob at *
    have HZ := Lib.hid Z
    have HA0 := Lib.hid A0
    clear Z A0
    go_loopw [6, 7, 8] (fun va vb i wr => ∃ k : Nat, k ≤ N ∧ k ≤ M ∧ i = .int .i64 k ∧ wr.ownsRow w0.heap.size 91 2 va k ((firstPairs f k).flatMap pairCells) ∧ wr.ownsRow w0.heap.size 92 2 vb k ((firstPairs f k).flatMap pairCells) ∧ Adds w0 wr) (fun _ _ i _ => M - (intOf i).toNat)
    case atStart => exact ⟨0, by omega, by omega, rfl, World.ownsRow_nil _ _ _ _, World.ownsRow_nil _ _ _ _, Adds.refl _⟩
    case round =>
      obtain ⟨k, hkN, hkM, rfl, hra, hrb, haw⟩ := hrel
      have HRA := Lib.hid hra
      have HRB := Lib.hid hrb
      clear hra hrb
      by_cases h1 : k < N
      · by_cases h2 : k < M
        · obtain ⟨g, off, rfl, c0, c1⟩ := HL.out k h1
          have d0 := keep_cell (HA0.out.trans haw) c0
          have d1 := keep_cell (HA0.out.trans haw) c1
          have HC0 := Lib.hid c0
          have HC1 := Lib.hid c1
          clear c0 c1
          go_upto_region 9 with fail
          go_wp2_with (first
            | (at_builtin; (refine wpList_append_own _ rfl _ _ 89 rfl w0.heap.size 91 j0 (.agg #[.int .i64 0, .int .i64 0]) 2 16 Try.underlying89 HJ.out HJ0.out HJ1.out HJ2.out rfl (by decide) u6 k _ rfl (HRA.out.alloc _) ⟨wr.heap.size, 0, none⟩ 1 1 (pairCells (f k)) rfl rfl (World.news_of_block (Box.new wr _ _)) (by simp [pairCells, Value.oneCell']) (by unfold maxLen; omega) (by omega) (by have := haw.size; simp; omega) ?_); intro va1 w1 hra1 hg1 _; have A1 : Adds w0 w1 := Below.grown (haw.alloc _) hg1 (by have := haw.size; simp; omega) (own_base HRA.out); have hrb1 := (HRB.out.alloc (.cells #[.int .i64 (f k).1, .int .i64 (f k).2] 91)).kept hg1 (rows_apart HRB.out HRA.out (by decide)); have HRA1 := Lib.hid hra1; have HRB1 := Lib.hid hrb1; have e0 := keep_cell (HA0.out.trans A1) HC0.out; have e1 := keep_cell (HA0.out.trans A1) HC1.out; clear hra1 hrb1 hg1 d0 d1)
            | (at_builtin; (refine wpList_append_own _ rfl _ _ 87 rfl w0.heap.size 92 i0 (.agg #[.int .i64 0, .int .i64 0]) 2 16 Try.underlying87 HI.out HI0.out HI1.out HI2.out rfl (by decide) u7 k _ rfl (HRB1.out.alloc _) ⟨w1.heap.size, 0, none⟩ 1 1 (pairCells (f k)) rfl rfl (World.news_of_block (Box.new w1 _ _)) (by simp [pairCells, Value.oneCell']) (by unfold maxLen; omega) (by omega) (by have := A1.size; simp; omega) ?_); intro vb1 w2 hrb2 hg2 _; have A2 : Adds w0 w2 := Below.grown (A1.alloc _) hg2 (by have := A1.size; simp; omega) (own_base HRB1.out); have hra2 := (HRA1.out.alloc (.cells #[.int .i64 (f k).1, .int .i64 (f k).2] 92)).kept hg2 (rows_apart HRA1.out HRB1.out (by decide)); have HRA2 := Lib.hid hra2; have HRB2 := Lib.hid hrb2; clear hra2 hrb2 hg2 e0 e1))
          exact ⟨⟨k + 1, by omega, by omega, by go_num, by rw [firstPairs_next]; exact HRA2.out, by rw [firstPairs_next]; exact HRB2.out, A2⟩, by simp [intOf]; omega⟩
        · skip
          have hlk : (firstPairs f k).length ≤ 1000000 := by rw [firstPairs_len]; omega
          have HLK := Lib.hid hlk
          have HAW := Lib.hid haw
          have HR1 := Lib.hid (row_reads (by rw [firstPairs_len]; exact HRA.out) rfl)
          have HR2 : Hid (wr.ownsRow w0.heap.size 92 2 u7 (firstPairs f k).length ((firstPairs f k).flatMap pairCells)) := Lib.hid (by rw [firstPairs_len]; exact HRB.out)
          clear hlk haw
          go_wp2_with (first
            | (go_at_call 42; refine (Alpha_any (firstPairs f k) u6 _ HR1.out HLK.out).mono ?_; rintro e w3 ⟨rfl, hb3⟩)
            | (go_at_call 43; refine (RAlpha_any (firstPairs f k) u7 _ (row_reads (row_later HR2.out hb3) rfl) HLK.out).mono ?_; rintro e w4 ⟨rfl, hb4⟩; have Z4 := ((HZ.out.later HAW.out).later hb3).later hb4; have z0 := Z4.cell 0; have z1 := Z4.cell 1; have z2 := Z4.cell 2; have z3 := Z4.cell 3; simp only [List.getElem?_toArray, List.getElem?_cons_zero, List.getElem?_cons_succ] at z0 z1 z2 z3; have HZ4 := Lib.hid Z4; clear Z4)
            | (go_at_call 44; refine (Worth_any o0 o1 o2 o3 _).mono ?_; rintro e w5 ⟨rfl, hb5⟩; have Z5 := HZ4.out.later hb5; have z0 := Z5.cell 0; have z1 := Z5.cell 1; have z2 := Z5.cell 2; have z3 := Z5.cell 3; simp only [List.getElem?_toArray, List.getElem?_cons_zero, List.getElem?_cons_succ] at z0 z1 z2 z3; clear Z5)
            | (go_at_call 45; refine (RWorth_any o0 o1 o2 o3 _).mono ?_; rintro e w6 ⟨rfl, hb6⟩)
            | (go_at_call 19; refine (awake_any _).mono ?_; rintro e w7 ⟨rfl, hb7⟩))
          go_ret
          exact ⟨rfl, (((((HA0.out.trans HAW.out).trans hb3).trans hb4).trans hb5).trans hb6).trans hb7⟩
      · skip
        have hlk : (firstPairs f k).length ≤ 1000000 := by rw [firstPairs_len]; omega
        have HLK := Lib.hid hlk
        have HAW := Lib.hid haw
        have HR1 := Lib.hid (row_reads (by rw [firstPairs_len]; exact HRA.out) rfl)
        have HR2 : Hid (wr.ownsRow w0.heap.size 92 2 u7 (firstPairs f k).length ((firstPairs f k).flatMap pairCells)) := Lib.hid (by rw [firstPairs_len]; exact HRB.out)
        clear hlk haw
        go_wp2_with (first
          | (go_at_call 42; refine (Alpha_any (firstPairs f k) u6 _ HR1.out HLK.out).mono ?_; rintro e w3 ⟨rfl, hb3⟩)
          | (go_at_call 43; refine (RAlpha_any (firstPairs f k) u7 _ (row_reads (row_later HR2.out hb3) rfl) HLK.out).mono ?_; rintro e w4 ⟨rfl, hb4⟩; have Z4 := ((HZ.out.later HAW.out).later hb3).later hb4; have z0 := Z4.cell 0; have z1 := Z4.cell 1; have z2 := Z4.cell 2; have z3 := Z4.cell 3; simp only [List.getElem?_toArray, List.getElem?_cons_zero, List.getElem?_cons_succ] at z0 z1 z2 z3; have HZ4 := Lib.hid Z4; clear Z4)
          | (go_at_call 44; refine (Worth_any o0 o1 o2 o3 _).mono ?_; rintro e w5 ⟨rfl, hb5⟩; have Z5 := HZ4.out.later hb5; have z0 := Z5.cell 0; have z1 := Z5.cell 1; have z2 := Z5.cell 2; have z3 := Z5.cell 3; simp only [List.getElem?_toArray, List.getElem?_cons_zero, List.getElem?_cons_succ] at z0 z1 z2 z3; clear Z5)
          | (go_at_call 45; refine (RWorth_any o0 o1 o2 o3 _).mono ?_; rintro e w6 ⟨rfl, hb6⟩)
          | (go_at_call 19; refine (awake_any _).mono ?_; rintro e w7 ⟨rfl, hb7⟩))
        go_ret
        exact ⟨rfl, (((((HA0.out.trans HAW.out).trans hb3).trans hb4).trans hb5).trans hb6).trans hb7⟩
  · obtain ⟨M, hM⟩ : ∃ M : Nat, M = 30 := ⟨_, rfl⟩
    have hdN : decide ((4096 : Int) < (N : Int)) = false := decide_eq_false (by omega)
    go_enter Try.func12, Try.ntmps12
    go_wp2
    rw [show (30 : Int) = (M : Int) by omega]
    have hMb : M ≤ 4097 := by omega
    obtain ⟨w0, hw0⟩ : ∃ V, V = w.alloc (.cells #[.int .i64 o0, .int .i64 o1, .int .i64 o2, .int .i64 o3] 88) := ⟨_, rfl⟩
    have A0 : Adds w w0 := by rw [hw0]; exact (Adds.refl w).alloc _
    have Z : Box w0 w.heap.size #[.int .i64 o0, .int .i64 o1, .int .i64 o2, .int .i64 o3] 88 := by rw [hw0]; exact Box.new w _ _
    rw [← hw0]
    clear hw0 hM
    generalize w.heap.size = ob at *
    have HZ := Lib.hid Z
    have HA0 := Lib.hid A0
    clear Z A0
    go_loopw [6, 7, 8] (fun va vb i wr => ∃ k : Nat, k ≤ N ∧ k ≤ M ∧ i = .int .i64 k ∧ wr.ownsRow w0.heap.size 91 2 va k ((firstPairs f k).flatMap pairCells) ∧ wr.ownsRow w0.heap.size 92 2 vb k ((firstPairs f k).flatMap pairCells) ∧ Adds w0 wr) (fun _ _ i _ => M - (intOf i).toNat)
    case atStart => exact ⟨0, by omega, by omega, rfl, World.ownsRow_nil _ _ _ _, World.ownsRow_nil _ _ _ _, Adds.refl _⟩
    case round =>
      obtain ⟨k, hkN, hkM, rfl, hra, hrb, haw⟩ := hrel
      have HRA := Lib.hid hra
      have HRB := Lib.hid hrb
      clear hra hrb
      by_cases h1 : k < N
      · by_cases h2 : k < M
        · obtain ⟨g, off, rfl, c0, c1⟩ := HL.out k h1
          have d0 := keep_cell (HA0.out.trans haw) c0
          have d1 := keep_cell (HA0.out.trans haw) c1
          have HC0 := Lib.hid c0
          have HC1 := Lib.hid c1
          clear c0 c1
          go_upto_region 9 with fail
          go_wp2_with (first
            | (at_builtin; (refine wpList_append_own _ rfl _ _ 89 rfl w0.heap.size 91 j0 (.agg #[.int .i64 0, .int .i64 0]) 2 16 Try.underlying89 HJ.out HJ0.out HJ1.out HJ2.out rfl (by decide) u6 k _ rfl (HRA.out.alloc _) ⟨wr.heap.size, 0, none⟩ 1 1 (pairCells (f k)) rfl rfl (World.news_of_block (Box.new wr _ _)) (by simp [pairCells, Value.oneCell']) (by unfold maxLen; omega) (by omega) (by have := haw.size; simp; omega) ?_); intro va1 w1 hra1 hg1 _; have A1 : Adds w0 w1 := Below.grown (haw.alloc _) hg1 (by have := haw.size; simp; omega) (own_base HRA.out); have hrb1 := (HRB.out.alloc (.cells #[.int .i64 (f k).1, .int .i64 (f k).2] 91)).kept hg1 (rows_apart HRB.out HRA.out (by decide)); have HRA1 := Lib.hid hra1; have HRB1 := Lib.hid hrb1; have e0 := keep_cell (HA0.out.trans A1) HC0.out; have e1 := keep_cell (HA0.out.trans A1) HC1.out; clear hra1 hrb1 hg1 d0 d1)
            | (at_builtin; (refine wpList_append_own _ rfl _ _ 87 rfl w0.heap.size 92 i0 (.agg #[.int .i64 0, .int .i64 0]) 2 16 Try.underlying87 HI.out HI0.out HI1.out HI2.out rfl (by decide) u7 k _ rfl (HRB1.out.alloc _) ⟨w1.heap.size, 0, none⟩ 1 1 (pairCells (f k)) rfl rfl (World.news_of_block (Box.new w1 _ _)) (by simp [pairCells, Value.oneCell']) (by unfold maxLen; omega) (by omega) (by have := A1.size; simp; omega) ?_); intro vb1 w2 hrb2 hg2 _; have A2 : Adds w0 w2 := Below.grown (A1.alloc _) hg2 (by have := A1.size; simp; omega) (own_base HRB1.out); have hra2 := (HRA1.out.alloc (.cells #[.int .i64 (f k).1, .int .i64 (f k).2] 92)).kept hg2 (rows_apart HRA1.out HRB1.out (by decide)); have HRA2 := Lib.hid hra2; have HRB2 := Lib.hid hrb2; clear hra2 hrb2 hg2 e0 e1))
          exact ⟨⟨k + 1, by omega, by omega, by go_num, by rw [firstPairs_next]; exact HRA2.out, by rw [firstPairs_next]; exact HRB2.out, A2⟩, by simp [intOf]; omega⟩
        · skip
          have hlk : (firstPairs f k).length ≤ 1000000 := by rw [firstPairs_len]; omega
          have HLK := Lib.hid hlk
          have HAW := Lib.hid haw
          have HR1 := Lib.hid (row_reads (by rw [firstPairs_len]; exact HRA.out) rfl)
          have HR2 : Hid (wr.ownsRow w0.heap.size 92 2 u7 (firstPairs f k).length ((firstPairs f k).flatMap pairCells)) := Lib.hid (by rw [firstPairs_len]; exact HRB.out)
          clear hlk haw
          go_wp2_with (first
            | (go_at_call 42; refine (Alpha_any (firstPairs f k) u6 _ HR1.out HLK.out).mono ?_; rintro e w3 ⟨rfl, hb3⟩)
            | (go_at_call 43; refine (RAlpha_any (firstPairs f k) u7 _ (row_reads (row_later HR2.out hb3) rfl) HLK.out).mono ?_; rintro e w4 ⟨rfl, hb4⟩; have Z4 := ((HZ.out.later HAW.out).later hb3).later hb4; have z0 := Z4.cell 0; have z1 := Z4.cell 1; have z2 := Z4.cell 2; have z3 := Z4.cell 3; simp only [List.getElem?_toArray, List.getElem?_cons_zero, List.getElem?_cons_succ] at z0 z1 z2 z3; have HZ4 := Lib.hid Z4; clear Z4)
            | (go_at_call 44; refine (Worth_any o0 o1 o2 o3 _).mono ?_; rintro e w5 ⟨rfl, hb5⟩; have Z5 := HZ4.out.later hb5; have z0 := Z5.cell 0; have z1 := Z5.cell 1; have z2 := Z5.cell 2; have z3 := Z5.cell 3; simp only [List.getElem?_toArray, List.getElem?_cons_zero, List.getElem?_cons_succ] at z0 z1 z2 z3; clear Z5)
            | (go_at_call 45; refine (RWorth_any o0 o1 o2 o3 _).mono ?_; rintro e w6 ⟨rfl, hb6⟩)
            | (go_at_call 19; refine (awake_any _).mono ?_; rintro e w7 ⟨rfl, hb7⟩))
          go_ret
          exact ⟨rfl, (((((HA0.out.trans HAW.out).trans hb3).trans hb4).trans hb5).trans hb6).trans hb7⟩
      · skip
        have hlk : (firstPairs f k).length ≤ 1000000 := by rw [firstPairs_len]; omega
        have HLK := Lib.hid hlk
        have HAW := Lib.hid haw
        have HR1 := Lib.hid (row_reads (by rw [firstPairs_len]; exact HRA.out) rfl)
        have HR2 : Hid (wr.ownsRow w0.heap.size 92 2 u7 (firstPairs f k).length ((firstPairs f k).flatMap pairCells)) := Lib.hid (by rw [firstPairs_len]; exact HRB.out)
        clear hlk haw
        go_wp2_with (first
          | (go_at_call 42; refine (Alpha_any (firstPairs f k) u6 _ HR1.out HLK.out).mono ?_; rintro e w3 ⟨rfl, hb3⟩)
          | (go_at_call 43; refine (RAlpha_any (firstPairs f k) u7 _ (row_reads (row_later HR2.out hb3) rfl) HLK.out).mono ?_; rintro e w4 ⟨rfl, hb4⟩; have Z4 := ((HZ.out.later HAW.out).later hb3).later hb4; have z0 := Z4.cell 0; have z1 := Z4.cell 1; have z2 := Z4.cell 2; have z3 := Z4.cell 3; simp only [List.getElem?_toArray, List.getElem?_cons_zero, List.getElem?_cons_succ] at z0 z1 z2 z3; have HZ4 := Lib.hid Z4; clear Z4)
          | (go_at_call 44; refine (Worth_any o0 o1 o2 o3 _).mono ?_; rintro e w5 ⟨rfl, hb5⟩; have Z5 := HZ4.out.later hb5; have z0 := Z5.cell 0; have z1 := Z5.cell 1; have z2 := Z5.cell 2; have z3 := Z5.cell 3; simp only [List.getElem?_toArray, List.getElem?_cons_zero, List.getElem?_cons_succ] at z0 z1 z2 z3; clear Z5)
          | (go_at_call 45; refine (RWorth_any o0 o1 o2 o3 _).mono ?_; rintro e w6 ⟨rfl, hb6⟩)
          | (go_at_call 19; refine (awake_any _).mono ?_; rintro e w7 ⟨rfl, hb7⟩))
        go_ret
        exact ⟨rfl, (((((HA0.out.trans HAW.out).trans hb3).trans hb4).trans hb5).trans hb6).trans hb7⟩

end Go.Proofs.Ytofaioabjkcaiaa
