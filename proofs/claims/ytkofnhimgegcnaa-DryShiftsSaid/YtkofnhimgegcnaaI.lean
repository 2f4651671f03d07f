/- add: a way and the way back (the walk). -/
import Derived.Test.YtkofnhimgegcnaaH
import Derived.Test.YtkofnhimgegcnaaL
namespace Go.Proofs.Ytkofnhimgegcnaa
open Go Go.RowKit

theorem info125 : (Try.prog.info? 125).map (fun i => (i.zero, i.size, i.bytes)) = some (some (.agg #[.int .i64 0, .int .i64 0]), 2, 16) := by kernel_rfl

theorem RowsAt.base_le {w : World} {go base N : Nat} {L : Nat → List Nat} {vs : Nat → Value} (h : RowsAt w go base N L vs) {v g : Nat} (hv : v < N) (hg : (vs v).ownBlock = some g) : base ≤ g := (own_block (h.own v hv) hg).1

/-- What an append to a row leaves as it was. -/
theorem RowsAt.keep {w w0 w1 : World} {go base N u : Nat} {L : Nat → List Nat} {vs : Nat → Value} (h : RowsAt w go base N L vs) (hu : u < N) (hA : Adds w w0) (hg : w0.grownBy w1 (vs u).ownBlock) {k : Nat} (hk : k < base) (hkl : k < w.heap.size) : w1.heap[k]? = w.heap[k]? :=
  (hg.block k (by have := hA.size; omega) (fun e => by have := h.base_le hu e.symm; omega)).trans (hA.block k hkl)

set_option maxRecDepth 100000 in
set_option maxHeartbeats 4000000 in
theorem add_any (b go base N : Nat) (E : List Edge) (w : World) (vl vt vw v4 : Value) (co fr tt : Nat) (room : Int) (h : LaidAt b go base N E w vl vt vw v4 co) (hf : fr < N) (ht : tt < N) (hne : fr ≠ tt) (_hN : N ≤ 100000) (hm : E.length ≤ 1000000) (hbs : base ≤ w.heap.size) :
    Calls Try.prog 76 #[.pointer (some ⟨b, 0, none⟩), .int .i64 fr, .int .i64 tt, .int .i64 room] w fun e w' => e = .returned (.tuple #[]) ∧ ∃ vw', LaidAt b go base N (E ++ [(fr, tt, room)]) w' vl vt vw' v4 co ∧ Touch (fun k => k = b ∨ k = go ∨ base ≤ k) w w' ∧ (∀ k cu t0, w.heap[k]? = some (.cells cu t0 (0, 0)) → t0 ≠ 3 → t0 ≠ 125 → k ≠ b → k ≠ go → w'.heap[k]? = w.heap[k]?) := by
  obtain ⟨hnet, hways, ⟨vs, hrows⟩, hb1, hb2, hb3⟩ := h
  obtain ⟨j0, hj, hj0, hj1, hj2⟩ := info_parts info3
  obtain ⟨i0, hi, hi0, hi1, hi2⟩ := info_parts info125
  have HJ := Lib.hid hj
  have HJ0 := Lib.hid hj0
  have HJ1 := Lib.hid hj1
  have HJ2 := Lib.hid hj2
  have HI := Lib.hid hi
  have HI0 := Lib.hid hi0
  have HI1 := Lib.hid hi1
  have HI2 := Lib.hid hi2
  clear hj hj0 hj1 hj2 hi hi0 hi1 hi2
  obtain ⟨pw, cw, rfl⟩ := own_slice hways
  have HNET := Lib.hid hnet
  have HWAYS := Lib.hid hways
  have HROWS := Lib.hid hrows
  have hbl := hnet.lt
  have hgo := hrows.lt
  clear hnet hways hrows
  obtain ⟨pfa, cfa, hvfa⟩ := own_slice (HROWS.out.own fr hf)
  obtain ⟨lfa, hlfa⟩ : ∃ l, l = (outE E fr).length := ⟨_, rfl⟩
  have hlla : lfa ≤ 2 * E.length + 1 := by have := outE_len E fr; omega
  have kb2a : w.cell? ⟨b, 2, none⟩ = some (.slice pw (2 * E.length) cw) := HNET.out.cell 2
  have kb3a : w.cell? ⟨b, 3, none⟩ = some (.slice (some ⟨go, 0, none⟩) N co) := HNET.out.cell 3
  have kga : w.cell? ⟨go, fr, none⟩ = some (.slice pfa lfa cfa) := by rw [hlfa, ← hvfa]; exact HROWS.out.cell hf
  have HVFa := Lib.hid hvfa
  have HLFa := Lib.hid hlfa
  clear hvfa hlfa
  go_enter Try.func76, Try.ntmps76
  go_upto_region 0 with fail
  refine wp_region_Z 20 (fun w' => w'.cell? ⟨b, 2, none⟩ = some (.slice pw (2 * E.length) cw) ∧ w'.cell? ⟨b, 3, none⟩ = some (.slice (some ⟨go, 0, none⟩) N co) ∧ w'.cell? ⟨go, fr, none⟩ = some (.slice pfa lfa cfa)) (by kernel_rfl) ⟨kb2a, kb3a, kga⟩ (fun hHeld => ?_)
  refine wpAnyZ_take (i := 0) (oi := ⟨some 8, _, _, _, _, _⟩) (v := ?v1) rfl (by kernel_rfl) (by kernel_rfl) (by kernel_rfl) (by kernel_rfl) (fun _ _ _ h => h) (Or.inl ⟨by rfl, ?hy1⟩) (by assumption) ?rest1
  case hy1 => (intro w hSw; (try dsimp only at hSw); go_simp; try with_reducible rfl)
  try simp only [Act.put, List.setIfInBounds_toArray, List.set_cons_zero, List.set_cons_succ]
  refine wpAnyZ_take (i := 1) (oi := ⟨some 9, _, _, _, _, _⟩) (v := ?v2) rfl (by kernel_rfl) (by kernel_rfl) (by kernel_rfl) (by kernel_rfl) (fun _ _ _ h => h) (Or.inl ⟨by rfl, ?hy2⟩) (by assumption) ?rest2
  case hy2 => (intro w hSw; (try dsimp only at hSw); go_simp; try with_reducible rfl)
  try simp only [Act.put, List.setIfInBounds_toArray, List.set_cons_zero, List.set_cons_succ]
  refine wpAnyZ_take (i := 2) (oi := ⟨some 10, _, _, _, _, _⟩) (v := ?v3) rfl (by kernel_rfl) (by kernel_rfl) (by kernel_rfl) (by kernel_rfl) (fun _ _ _ h => h) (Or.inl ⟨by rfl, ?hy3⟩) (by assumption) ?rest3
  case hy3 => (intro w hSw; (try dsimp only at hSw); go_simp; try with_reducible rfl)
  try simp only [Act.put, List.setIfInBounds_toArray, List.set_cons_zero, List.set_cons_succ]
  refine wpAnyZ_take (i := 3) (oi := ⟨some 11, _, _, _, _, _⟩) (v := ?v4) rfl (by kernel_rfl) (by kernel_rfl) (by kernel_rfl) (by kernel_rfl) (fun _ _ _ h => h) (Or.inl ⟨by rfl, ?hy4⟩) (by assumption) ?rest4
  case hy4 => (intro w hSw; (try dsimp only at hSw); go_simp; try with_reducible rfl)
  try simp only [Act.put, List.setIfInBounds_toArray, List.set_cons_zero, List.set_cons_succ]
  refine wpAnyZ_take (i := 4) (oi := ⟨some 12, _, _, _, _, _⟩) (v := ?v5) rfl (by kernel_rfl) (by kernel_rfl) (by kernel_rfl) (by kernel_rfl) (fun _ _ _ h => h) (Or.inl ⟨by rfl, ?hy5⟩) (by assumption) ?rest5
  case hy5 => (intro w hSw; (try dsimp only at hSw); go_simp; try with_reducible rfl)
  try simp only [Act.put, List.setIfInBounds_toArray, List.set_cons_zero, List.set_cons_succ]
  refine wpAnyZ_take (i := 5) (oi := ⟨some 13, _, _, _, _, _⟩) (v := ?v6) rfl (by kernel_rfl) (by kernel_rfl) (by kernel_rfl) (by kernel_rfl) (fun _ _ _ h => h) (Or.inl ⟨by rfl, ?hy6⟩) (by assumption) ?rest6
  case hy6 => (intro w hSw; (try dsimp only at hSw); go_simp; try with_reducible rfl)
  try simp only [Act.put, List.setIfInBounds_toArray, List.set_cons_zero, List.set_cons_succ]
  refine wpAnyZ_take (i := 6) (oi := ⟨some 14, _, _, _, _, _⟩) (v := ?v7) rfl (by kernel_rfl) (by kernel_rfl) (by kernel_rfl) (by kernel_rfl) (fun _ _ _ h => h) (Or.inl ⟨by rfl, ?hy7⟩) (by assumption) ?rest7
  case hy7 => (intro w hSw; (try dsimp only at hSw); go_simp; try with_reducible rfl)
  try simp only [Act.put, List.setIfInBounds_toArray, List.set_cons_zero, List.set_cons_succ]
  refine wpAnyZ_take (i := 7) (oi := ⟨some 15, _, _, _, _, _⟩) (v := ?v8) rfl (by kernel_rfl) (by kernel_rfl) (by kernel_rfl) (by kernel_rfl) (fun _ _ _ h => h) (Or.inl ⟨by rfl, ?hy8⟩) (by assumption) ?rest8
  case hy8 => (intro w hSw; (try dsimp only at hSw); go_simp; try with_reducible rfl)
  try simp only [Act.put, List.setIfInBounds_toArray, List.set_cons_zero, List.set_cons_succ]
  refine wpAnyZ_take (i := 8) (oi := ⟨some 16, _, _, _, _, _⟩) (v := ?v9) rfl (by kernel_rfl) (by kernel_rfl) (by kernel_rfl) (by kernel_rfl) (fun _ _ _ h => h) (Or.inl ⟨by rfl, ?hy9⟩) (by assumption) ?rest9
  case hy9 => (intro w hSw; (try dsimp only at hSw); go_simp; try with_reducible rfl)
  try simp only [Act.put, List.setIfInBounds_toArray, List.set_cons_zero, List.set_cons_succ]
  refine wpAnyZ_take (i := 9) (oi := ⟨some 17, _, _, _, _, _⟩) (v := ?v10) rfl (by kernel_rfl) (by kernel_rfl) (by kernel_rfl) (by kernel_rfl) (fun _ _ _ h => h) (Or.inl ⟨by rfl, ?hy10⟩) (by assumption) ?rest10
  case hy10 => (intro w hSw; (try dsimp only at hSw); go_simp; try with_reducible rfl)
  try simp only [Act.put, List.setIfInBounds_toArray, List.set_cons_zero, List.set_cons_succ]
  refine wpAnyZ_take (i := 10) (oi := ⟨some 18, _, _, _, _, _⟩) (v := ?v11) rfl (by kernel_rfl) (by kernel_rfl) (by kernel_rfl) (by kernel_rfl) (fun _ _ _ h => h) (Or.inl ⟨by rfl, ?hy11⟩) (by assumption) ?rest11
  case hy11 => (intro w hSw; (try dsimp only at hSw); go_simp; try with_reducible rfl)
  try simp only [Act.put, List.setIfInBounds_toArray, List.set_cons_zero, List.set_cons_succ]
  refine wpAnyZ_take (i := 11) (oi := ⟨some 19, _, _, _, _, _⟩) (v := ?v12) rfl (by kernel_rfl) (by kernel_rfl) (by kernel_rfl) (by kernel_rfl) (fun _ _ _ h => h) (Or.inl ⟨by rfl, ?hy12⟩) (by assumption) ?rest12
  case hy12 => (intro w hSw; (try dsimp only at hSw); go_simp; try with_reducible rfl)
  try simp only [Act.put, List.setIfInBounds_toArray, List.set_cons_zero, List.set_cons_succ]
  refine wpAnyZ_take (i := 12) (oi := ⟨some 20, _, _, _, _, _⟩) (v := ?v13) rfl (by kernel_rfl) (by kernel_rfl) (by kernel_rfl) (by kernel_rfl) (fun _ _ _ h => h) (Or.inl ⟨by rfl, ?hy13⟩) (by assumption) ?rest13
  case hy13 => (intro w hSw; (try dsimp only at hSw); go_simp; try with_reducible rfl)
  try simp only [Act.put, List.setIfInBounds_toArray, List.set_cons_zero, List.set_cons_succ]
  refine wpAnyZ_take (i := 13) (oi := ⟨some 21, _, _, _, _, _⟩) (v := ?v14) rfl (by kernel_rfl) (by kernel_rfl) (by kernel_rfl) (by kernel_rfl) (fun _ _ _ h => h) (Or.inl ⟨by rfl, ?hy14⟩) (by assumption) ?rest14
  case hy14 => (intro w hSw; (try dsimp only at hSw); go_simp; try with_reducible rfl)
  try simp only [Act.put, List.setIfInBounds_toArray, List.set_cons_zero, List.set_cons_succ]
  refine wpAnyZ_take (i := 14) (oi := ⟨some 22, _, _, _, _, _⟩) (v := ?v15) rfl (by kernel_rfl) (by kernel_rfl) (by kernel_rfl) (by kernel_rfl) (fun _ _ _ h => h) (Or.inl ⟨by rfl, ?hy15⟩) (by assumption) ?rest15
  case hy15 => (intro w hSw; (try dsimp only at hSw); go_simp; try with_reducible rfl)
  try simp only [Act.put, List.setIfInBounds_toArray, List.set_cons_zero, List.set_cons_succ]
  refine wpAnyZ_take (i := 15) (oi := ⟨some 23, _, _, _, _, _⟩) (v := ?v16) rfl (by kernel_rfl) (by kernel_rfl) (by kernel_rfl) (by kernel_rfl) (fun _ _ _ h => h) (Or.inl ⟨by rfl, ?hy16⟩) (by assumption) ?rest16
  case hy16 => (intro w hSw; (try dsimp only at hSw); go_simp; try with_reducible rfl)
  try simp only [Act.put, List.setIfInBounds_toArray, List.set_cons_zero, List.set_cons_succ]
  refine wpAnyZ_take (i := 16) (oi := ⟨some 24, _, _, _, _, _⟩) (v := ?v17) rfl (by kernel_rfl) (by kernel_rfl) (by kernel_rfl) (by kernel_rfl) (fun _ _ _ h => h) (Or.inl ⟨by rfl, ?hy17⟩) (by assumption) ?rest17
  case hy17 => (intro w hSw; (try dsimp only at hSw); go_simp; try with_reducible rfl)
  try simp only [Act.put, List.setIfInBounds_toArray, List.set_cons_zero, List.set_cons_succ]
  refine wpAnyZ_loud (i := 17) (o := ⟨some 25, _, _, _, _, _⟩) (by kernel_rfl) rfl (fun K hK => ?_)
  go_simp
  skip
  obtain ⟨w0a, hw0a⟩ : ∃ V, V = (w.alloc (Obj.cells #[Value.int IntKind.i64 (2 * (E.length : Int))] 3)).drew := ⟨_, rfl⟩
  rw [← hw0a]
  have hA0a : Adds w w0a := by rw [hw0a]; exact ((Adds.refl _).alloc _).drew
  have hsz0a : w0a.heap.size = w.heap.size + 1 := by rw [hw0a]; simp
  have hbxa : Box w0a w.heap.size #[.int .i64 ((2 * E.length : Nat) : Int)] 3 := by
    rw [hw0a, show (((2 * E.length : Nat) : Int)) = 2 * (E.length : Int) by omega]
    exact (Box.new w _ _).drew
  have hofa : w0a.ownsRow base 3 1 (.slice pfa lfa cfa) lfa ((numsI (outE E fr)).map (Value.int .i64)) := by
    have := HROWS.out.own fr hf
    rw [HVFa.out, ← HLFa.out] at this
    exact own_same this (fun g hg => hA0a.block g (by obtain ⟨_, _, e⟩ := own_block this hg; exact (Array.getElem?_eq_some_iff.1 e).1))
  refine hK.out _ _ (Or.inr ⟨keep_cell hA0a kb2a, keep_cell hA0a kb3a, keep_cell hA0a kga⟩) ?_
  clear hK K hHeld
  try simp only [Act.put, List.setIfInBounds_toArray, List.set_cons_zero, List.set_cons_succ]
  refine wpAnyZ_loud (i := 18) (o := ⟨some 26, _, _, _, _, _⟩) (by kernel_rfl) rfl (fun K hK => ?_)
  refine step_append_lies _ (by rfl) _ _ 35 (by rfl) base 3 j0 (.int .i64 0) 1 8 Try.underlying35 HJ.out HJ0.out HJ1.out HJ2.out rfl (by decide) (.slice pfa lfa cfa) lfa _ (by rfl) hofa ⟨w.heap.size, 0, none⟩ 1 1 [.int .i64 ((2 * E.length : Nat) : Int)] (by rfl) (by rfl) (World.news_of_block hbxa) (by simp [Value.oneCell']) (by omega) (by unfold maxLen; omega) (by omega) (by omega) (w.heap.size + 1) hsz0a ?_
  intro ga ca w1a ho1 hg1 hl1 hs1
  have hkpa : ∀ k, k < base → k < w.heap.size → w1a.heap[k]? = w.heap[k]? := fun k h1 h2 => HROWS.out.keep hf hA0a (by rw [HVFa.out, ← HLFa.out]; exact hg1) h1 h2
  have q2 := (World.cell?_of_block (a := ⟨b, 2, none⟩) (hkpa b hb1 (by omega))).trans kb2a
  have q3 := (World.cell?_of_block (a := ⟨b, 3, none⟩) (hkpa b hb1 (by omega))).trans kb3a
  have qg := (World.cell?_of_block (a := ⟨go, fr, none⟩) (hkpa go hb2 (by omega))).trans kga
  have qf : w1a.frozen? ⟨go, fr, none⟩ = false := by
    obtain ⟨cur, z1, z2⟩ := HROWS.out.box
    have z3 := (hkpa go hb2 (by omega)).trans z1
    simp [World.frozen?, z3]
  refine hK.out _ _ (Or.inr ⟨q2, q3, qg⟩) ?_
  clear hK K
  have hHeld : w1a.cell? ⟨b, 2, none⟩ = some (.slice pw (2 * E.length) cw) ∧ w1a.cell? ⟨b, 3, none⟩ = some (.slice (some ⟨go, 0, none⟩) N co) ∧ w1a.cell? ⟨go, fr, none⟩ = some (.slice pfa lfa cfa) := ⟨q2, q3, qg⟩
  try simp only [Act.put, List.setIfInBounds_toArray, List.set_cons_zero, List.set_cons_succ]
  refine wpAnyZ_take (i := 19) (oi := ⟨some 27, _, _, _, _, _⟩) (v := ?v18) rfl (by kernel_rfl) (by kernel_rfl) (by kernel_rfl) (by kernel_rfl) (fun _ _ _ h => h) (Or.inl ⟨by rfl, ?hy18⟩) (by assumption) ?rest18
  case hy18 => (intro w hSw; (try dsimp only at hSw); go_simp; try with_reducible rfl)
  try simp only [Act.put, List.setIfInBounds_toArray, List.set_cons_zero, List.set_cons_succ]
  refine wpAnyZ_loud (i := 20) (o := ⟨none, _, _, _, _, _⟩) (by kernel_rfl) rfl (fun K hK => ?_)
  go_simp
  refine hK.out _ _ (Or.inl rfl) ?_
  clear hK K hHeld
  try simp only [Act.put, List.setIfInBounds_toArray, List.set_cons_zero, List.set_cons_succ]
  refine wpAnyZ_done (by kernel_rfl) ?_ _
  obtain ⟨w2, hw2⟩ : ∃ V, V = w1a.setCell ⟨go, fr, none⟩ (.slice (some ⟨ga, 0, none⟩) (lfa + 1) ca) := ⟨_, rfl⟩
  rw [← hw2]
  have hRw2 := HROWS.out.grow hf hb2 (w1 := w0a) (w2 := w1a) (g := ga) (cap := ca) (x := 2 * E.length) hA0a (by rw [← HLFa.out]; exact ho1) (by rw [HVFa.out, ← HLFa.out]; exact hg1) (by rw [HVFa.out, ← HLFa.out, hsz0a]; exact hl1)
  rw [← HLFa.out, ← hw2] at hRw2
  have hNw2 : Box w2 b #[vl, vt, .slice pw (2 * E.length) cw, .slice (some ⟨go, 0, none⟩) N co, v4] 100 := by
    rw [hw2]
    exact (HNET.out.same (hkpa b hb1 (by omega))).far (by simp; omega) _
  have hTw2 : Touch (fun k => k = b ∨ k = go ∨ base ≤ k) w w2 := by
    rw [hw2]
    refine Touch.set (p := ⟨go, fr, none⟩) ⟨hg1.os.trans hA0a.os, hg1.tape.trans hA0a.tape, hg1.output.trans hA0a.output, Nat.le_trans hA0a.size hg1.size, fun k hk hn => ?_⟩ (Or.inr (Or.inl rfl)) _
    by_cases hkb : k < base
    · exact hkpa k hkb hk
    · exact absurd (Or.inr (Or.inr (by omega))) hn
  have hWba : ∀ k, k < w.heap.size → k ≠ go → some k ≠ (Value.slice pfa lfa cfa).ownBlock → w2.heap[k]? = w.heap[k]? := fun k hk hne he => by
    rw [hw2, Below.heap_setCell _ _ _ _ (by simp; omega), hg1.block k (by omega) he]
    exact hA0a.block k hk
  have HRw2 := Lib.hid hRw2
  have HNw2 := Lib.hid hNw2
  have HTw2 := Lib.hid hTw2
  have HWBa := Lib.hid hWba
  have hsw2 : w.heap.size ≤ w2.heap.size := hTw2.size
  have hgoa : go < w2.heap.size := by omega
  have hbla : b < w2.heap.size := by omega
  clear hRw2 hNw2 hTw2 hWba hw2 q2 q3 qg qf hkpa ho1 hg1 hl1 hs1 hofa hbxa hsz0a hA0a hw0a kb2a kb3a kga
  obtain ⟨pfb, cfb, hvfb⟩ := own_slice (HRw2.out.own tt ht)
  obtain ⟨lfb, hlfb⟩ : ∃ l, l = ((fun v => if v = fr then outE E fr ++ [2 * E.length] else outE E v) tt).length := ⟨_, rfl⟩
  have hllb : lfb ≤ 2 * E.length + 1 := by rw [hlfb]; dsimp only; rw [if_neg (fun e => hne e.symm)]; have := outE_len E tt; omega
  have kb2b : w2.cell? ⟨b, 2, none⟩ = some (.slice pw (2 * E.length) cw) := HNw2.out.cell 2
  have kb3b : w2.cell? ⟨b, 3, none⟩ = some (.slice (some ⟨go, 0, none⟩) N co) := HNw2.out.cell 3
  have kgb : w2.cell? ⟨go, tt, none⟩ = some (.slice pfb lfb cfb) := by rw [hlfb, ← hvfb]; exact HRw2.out.cell ht
  have HVFb := Lib.hid hvfb
  have HLFb := Lib.hid hlfb
  clear hvfb hlfb
  go_upto_region 1 with fail
  refine wp_region_Z 21 (fun w' => w'.cell? ⟨b, 2, none⟩ = some (.slice pw (2 * E.length) cw) ∧ w'.cell? ⟨b, 3, none⟩ = some (.slice (some ⟨go, 0, none⟩) N co) ∧ w'.cell? ⟨go, tt, none⟩ = some (.slice pfb lfb cfb)) (by kernel_rfl) ⟨kb2b, kb3b, kgb⟩ (fun hHeld => ?_)
  refine wpAnyZ_take (i := 0) (oi := ⟨some 28, _, _, _, _, _⟩) (v := ?v19) rfl (by kernel_rfl) (by kernel_rfl) (by kernel_rfl) (by kernel_rfl) (fun _ _ _ h => h) (Or.inl ⟨by rfl, ?hy19⟩) (by assumption) ?rest19
  case hy19 => (intro w hSw; (try dsimp only at hSw); go_simp; try with_reducible rfl)
  try simp only [Act.put, List.setIfInBounds_toArray, List.set_cons_zero, List.set_cons_succ]
  refine wpAnyZ_take (i := 1) (oi := ⟨some 29, _, _, _, _, _⟩) (v := ?v20) rfl (by kernel_rfl) (by kernel_rfl) (by kernel_rfl) (by kernel_rfl) (fun _ _ _ h => h) (Or.inl ⟨by rfl, ?hy20⟩) (by assumption) ?rest20
  case hy20 => (intro w hSw; (try dsimp only at hSw); go_simp; try with_reducible rfl)
  try simp only [Act.put, List.setIfInBounds_toArray, List.set_cons_zero, List.set_cons_succ]
  refine wpAnyZ_take (i := 2) (oi := ⟨some 30, _, _, _, _, _⟩) (v := ?v21) rfl (by kernel_rfl) (by kernel_rfl) (by kernel_rfl) (by kernel_rfl) (fun _ _ _ h => h) (Or.inl ⟨by rfl, ?hy21⟩) (by assumption) ?rest21
  case hy21 => (intro w hSw; (try dsimp only at hSw); go_simp; try with_reducible rfl)
  try simp only [Act.put, List.setIfInBounds_toArray, List.set_cons_zero, List.set_cons_succ]
  refine wpAnyZ_take (i := 3) (oi := ⟨some 31, _, _, _, _, _⟩) (v := ?v22) rfl (by kernel_rfl) (by kernel_rfl) (by kernel_rfl) (by kernel_rfl) (fun _ _ _ h => h) (Or.inl ⟨by rfl, ?hy22⟩) (by assumption) ?rest22
  case hy22 => (intro w hSw; (try dsimp only at hSw); go_simp; try with_reducible rfl)
  try simp only [Act.put, List.setIfInBounds_toArray, List.set_cons_zero, List.set_cons_succ]
  refine wpAnyZ_take (i := 4) (oi := ⟨some 32, _, _, _, _, _⟩) (v := ?v23) rfl (by kernel_rfl) (by kernel_rfl) (by kernel_rfl) (by kernel_rfl) (fun _ _ _ h => h) (Or.inl ⟨by rfl, ?hy23⟩) (by assumption) ?rest23
  case hy23 => (intro w hSw; (try dsimp only at hSw); go_simp; try with_reducible rfl)
  try simp only [Act.put, List.setIfInBounds_toArray, List.set_cons_zero, List.set_cons_succ]
  refine wpAnyZ_take (i := 5) (oi := ⟨some 33, _, _, _, _, _⟩) (v := ?v24) rfl (by kernel_rfl) (by kernel_rfl) (by kernel_rfl) (by kernel_rfl) (fun _ _ _ h => h) (Or.inl ⟨by rfl, ?hy24⟩) (by assumption) ?rest24
  case hy24 => (intro w hSw; (try dsimp only at hSw); go_simp; try with_reducible rfl)
  try simp only [Act.put, List.setIfInBounds_toArray, List.set_cons_zero, List.set_cons_succ]
  refine wpAnyZ_take (i := 6) (oi := ⟨some 34, _, _, _, _, _⟩) (v := ?v25) rfl (by kernel_rfl) (by kernel_rfl) (by kernel_rfl) (by kernel_rfl) (fun _ _ _ h => h) (Or.inl ⟨by rfl, ?hy25⟩) (by assumption) ?rest25
  case hy25 => (intro w hSw; (try dsimp only at hSw); go_simp; try with_reducible rfl)
  try simp only [Act.put, List.setIfInBounds_toArray, List.set_cons_zero, List.set_cons_succ]
  refine wpAnyZ_take (i := 7) (oi := ⟨some 35, _, _, _, _, _⟩) (v := ?v26) rfl (by kernel_rfl) (by kernel_rfl) (by kernel_rfl) (by kernel_rfl) (fun _ _ _ h => h) (Or.inl ⟨by rfl, ?hy26⟩) (by assumption) ?rest26
  case hy26 => (intro w hSw; (try dsimp only at hSw); go_simp; try with_reducible rfl)
  try simp only [Act.put, List.setIfInBounds_toArray, List.set_cons_zero, List.set_cons_succ]
  refine wpAnyZ_take (i := 8) (oi := ⟨some 36, _, _, _, _, _⟩) (v := ?v27) rfl (by kernel_rfl) (by kernel_rfl) (by kernel_rfl) (by kernel_rfl) (fun _ _ _ h => h) (Or.inl ⟨by rfl, ?hy27⟩) (by assumption) ?rest27
  case hy27 => (intro w hSw; (try dsimp only at hSw); go_simp; try with_reducible rfl)
  try simp only [Act.put, List.setIfInBounds_toArray, List.set_cons_zero, List.set_cons_succ]
  refine wpAnyZ_take (i := 9) (oi := ⟨some 37, _, _, _, _, _⟩) (v := ?v28) rfl (by kernel_rfl) (by kernel_rfl) (by kernel_rfl) (by kernel_rfl) (fun _ _ _ h => h) (Or.inl ⟨by rfl, ?hy28⟩) (by assumption) ?rest28
  case hy28 => (intro w hSw; (try dsimp only at hSw); go_simp; try with_reducible rfl)
  try simp only [Act.put, List.setIfInBounds_toArray, List.set_cons_zero, List.set_cons_succ]
  refine wpAnyZ_take (i := 10) (oi := ⟨some 38, _, _, _, _, _⟩) (v := ?v29) rfl (by kernel_rfl) (by kernel_rfl) (by kernel_rfl) (by kernel_rfl) (fun _ _ _ h => h) (Or.inl ⟨by rfl, ?hy29⟩) (by assumption) ?rest29
  case hy29 => (intro w hSw; (try dsimp only at hSw); go_simp; try with_reducible rfl)
  try simp only [Act.put, List.setIfInBounds_toArray, List.set_cons_zero, List.set_cons_succ]
  refine wpAnyZ_take (i := 11) (oi := ⟨some 39, _, _, _, _, _⟩) (v := ?v30) rfl (by kernel_rfl) (by kernel_rfl) (by kernel_rfl) (by kernel_rfl) (fun _ _ _ h => h) (Or.inl ⟨by rfl, ?hy30⟩) (by assumption) ?rest30
  case hy30 => (intro w hSw; (try dsimp only at hSw); go_simp; try with_reducible rfl)
  try simp only [Act.put, List.setIfInBounds_toArray, List.set_cons_zero, List.set_cons_succ]
  refine wpAnyZ_take (i := 12) (oi := ⟨some 40, _, _, _, _, _⟩) (v := ?v31) rfl (by kernel_rfl) (by kernel_rfl) (by kernel_rfl) (by kernel_rfl) (fun _ _ _ h => h) (Or.inl ⟨by rfl, ?hy31⟩) (by assumption) ?rest31
  case hy31 => (intro w hSw; (try dsimp only at hSw); go_simp; try with_reducible rfl)
  try simp only [Act.put, List.setIfInBounds_toArray, List.set_cons_zero, List.set_cons_succ]
  refine wpAnyZ_take (i := 13) (oi := ⟨some 41, _, _, _, _, _⟩) (v := ?v32) rfl (by kernel_rfl) (by kernel_rfl) (by kernel_rfl) (by kernel_rfl) (fun _ _ _ h => h) (Or.inl ⟨by rfl, ?hy32⟩) (by assumption) ?rest32
  case hy32 => (intro w hSw; (try dsimp only at hSw); go_simp; try with_reducible rfl)
  try simp only [Act.put, List.setIfInBounds_toArray, List.set_cons_zero, List.set_cons_succ]
  refine wpAnyZ_take (i := 14) (oi := ⟨some 42, _, _, _, _, _⟩) (v := ?v33) rfl (by kernel_rfl) (by kernel_rfl) (by kernel_rfl) (by kernel_rfl) (fun _ _ _ h => h) (Or.inl ⟨by rfl, ?hy33⟩) (by assumption) ?rest33
  case hy33 => (intro w hSw; (try dsimp only at hSw); go_simp; try with_reducible rfl)
  try simp only [Act.put, List.setIfInBounds_toArray, List.set_cons_zero, List.set_cons_succ]
  refine wpAnyZ_take (i := 15) (oi := ⟨some 43, _, _, _, _, _⟩) (v := ?v34) rfl (by kernel_rfl) (by kernel_rfl) (by kernel_rfl) (by kernel_rfl) (fun _ _ _ h => h) (Or.inl ⟨by rfl, ?hy34⟩) (by assumption) ?rest34
  case hy34 => (intro w hSw; (try dsimp only at hSw); go_simp; try with_reducible rfl)
  try simp only [Act.put, List.setIfInBounds_toArray, List.set_cons_zero, List.set_cons_succ]
  refine wpAnyZ_take (i := 16) (oi := ⟨some 44, _, _, _, _, _⟩) (v := ?v35) rfl (by kernel_rfl) (by kernel_rfl) (by kernel_rfl) (by kernel_rfl) (fun _ _ _ h => h) (Or.inl ⟨by rfl, ?hy35⟩) (by assumption) ?rest35
  case hy35 => (intro w hSw; (try dsimp only at hSw); go_simp; try with_reducible rfl)
  try simp only [Act.put, List.setIfInBounds_toArray, List.set_cons_zero, List.set_cons_succ]
  refine wpAnyZ_take (i := 17) (oi := ⟨some 45, _, _, _, _, _⟩) (v := ?v36) rfl (by kernel_rfl) (by kernel_rfl) (by kernel_rfl) (by kernel_rfl) (fun _ _ _ h => h) (Or.inl ⟨by rfl, ?hy36⟩) (by assumption) ?rest36
  case hy36 => (intro w hSw; (try dsimp only at hSw); go_simp; try with_reducible rfl)
  try simp only [Act.put, List.setIfInBounds_toArray, List.set_cons_zero, List.set_cons_succ]
  refine wpAnyZ_loud (i := 18) (o := ⟨some 46, _, _, _, _, _⟩) (by kernel_rfl) rfl (fun K hK => ?_)
  go_simp
  rw [show IntKind.i64.wrap (2 * (E.length : Int) + 1) = 2 * (E.length : Int) + 1 by rw [IntKind.wrap_i64]; omega]
  obtain ⟨w0b, hw0b⟩ : ∃ V, V = (w2.alloc (Obj.cells #[Value.int IntKind.i64 (2 * (E.length : Int) + 1)] 3)).drew := ⟨_, rfl⟩
  rw [← hw0b]
  have hA0b : Adds w2 w0b := by rw [hw0b]; exact ((Adds.refl _).alloc _).drew
  have hsz0b : w0b.heap.size = w2.heap.size + 1 := by rw [hw0b]; simp
  have hbxb : Box w0b w2.heap.size #[.int .i64 ((2 * E.length + 1 : Nat) : Int)] 3 := by
    rw [hw0b, show (((2 * E.length + 1 : Nat) : Int)) = 2 * (E.length : Int) + 1 by omega]
    exact (Box.new w2 _ _).drew
  have hofb : w0b.ownsRow base 3 1 (.slice pfb lfb cfb) lfb ((numsI ((fun v => if v = fr then outE E fr ++ [2 * E.length] else outE E v) tt)).map (Value.int .i64)) := by
    have := HRw2.out.own tt ht
    rw [HVFb.out, ← HLFb.out] at this
    exact own_same this (fun g hg => hA0b.block g (by obtain ⟨_, _, e⟩ := own_block this hg; exact (Array.getElem?_eq_some_iff.1 e).1))
  refine hK.out _ _ (Or.inr ⟨keep_cell hA0b kb2b, keep_cell hA0b kb3b, keep_cell hA0b kgb⟩) ?_
  clear hK K hHeld
  try simp only [Act.put, List.setIfInBounds_toArray, List.set_cons_zero, List.set_cons_succ]
  refine wpAnyZ_loud (i := 19) (o := ⟨some 47, _, _, _, _, _⟩) (by kernel_rfl) rfl (fun K hK => ?_)
  refine step_append_lies _ (by rfl) _ _ 35 (by rfl) base 3 j0 (.int .i64 0) 1 8 Try.underlying35 HJ.out HJ0.out HJ1.out HJ2.out rfl (by decide) (.slice pfb lfb cfb) lfb _ (by rfl) hofb ⟨w2.heap.size, 0, none⟩ 1 1 [.int .i64 ((2 * E.length + 1 : Nat) : Int)] (by rfl) (by rfl) (World.news_of_block hbxb) (by simp [Value.oneCell']) (by omega) (by unfold maxLen; omega) (by omega) (by omega) (w2.heap.size + 1) hsz0b ?_
  intro gb cb w1b ho1 hg1 hl1 hs1
  have hkpb : ∀ k, k < base → k < w2.heap.size → w1b.heap[k]? = w2.heap[k]? := fun k h1 h2 => HRw2.out.keep ht hA0b (by rw [HVFb.out, ← HLFb.out]; exact hg1) h1 h2
  have q2 := (World.cell?_of_block (a := ⟨b, 2, none⟩) (hkpb b hb1 (by omega))).trans kb2b
  have q3 := (World.cell?_of_block (a := ⟨b, 3, none⟩) (hkpb b hb1 (by omega))).trans kb3b
  have qg := (World.cell?_of_block (a := ⟨go, tt, none⟩) (hkpb go hb2 (by omega))).trans kgb
  have qf : w1b.frozen? ⟨go, tt, none⟩ = false := by
    obtain ⟨cur, z1, z2⟩ := HRw2.out.box
    have z3 := (hkpb go hb2 (by omega)).trans z1
    simp [World.frozen?, z3]
  refine hK.out _ _ (Or.inr ⟨q2, q3, qg⟩) ?_
  clear hK K
  have hHeld : w1b.cell? ⟨b, 2, none⟩ = some (.slice pw (2 * E.length) cw) ∧ w1b.cell? ⟨b, 3, none⟩ = some (.slice (some ⟨go, 0, none⟩) N co) ∧ w1b.cell? ⟨go, tt, none⟩ = some (.slice pfb lfb cfb) := ⟨q2, q3, qg⟩
  try simp only [Act.put, List.setIfInBounds_toArray, List.set_cons_zero, List.set_cons_succ]
  refine wpAnyZ_take (i := 20) (oi := ⟨some 48, _, _, _, _, _⟩) (v := ?v37) rfl (by kernel_rfl) (by kernel_rfl) (by kernel_rfl) (by kernel_rfl) (fun _ _ _ h => h) (Or.inl ⟨by rfl, ?hy37⟩) (by assumption) ?rest37
  case hy37 => (intro w hSw; (try dsimp only at hSw); go_simp; try with_reducible rfl)
  try simp only [Act.put, List.setIfInBounds_toArray, List.set_cons_zero, List.set_cons_succ]
  refine wpAnyZ_loud (i := 21) (o := ⟨none, _, _, _, _, _⟩) (by kernel_rfl) rfl (fun K hK => ?_)
  go_simp
  refine hK.out _ _ (Or.inl rfl) ?_
  clear hK K hHeld
  try simp only [Act.put, List.setIfInBounds_toArray, List.set_cons_zero, List.set_cons_succ]
  refine wpAnyZ_done (by kernel_rfl) ?_ _
  obtain ⟨w3, hw3⟩ : ∃ V, V = w1b.setCell ⟨go, tt, none⟩ (.slice (some ⟨gb, 0, none⟩) (lfb + 1) cb) := ⟨_, rfl⟩
  rw [← hw3]
  have hRw3 := HRw2.out.grow ht hb2 (w1 := w0b) (w2 := w1b) (g := gb) (cap := cb) (x := 2 * E.length + 1) hA0b (by rw [← HLFb.out]; exact ho1) (by rw [HVFb.out, ← HLFb.out]; exact hg1) (by rw [HVFb.out, ← HLFb.out, hsz0b]; exact hl1)
  rw [← HLFb.out, ← hw3] at hRw3
  have hNw3 : Box w3 b #[vl, vt, .slice pw (2 * E.length) cw, .slice (some ⟨go, 0, none⟩) N co, v4] 100 := by
    rw [hw3]
    exact (HNw2.out.same (hkpb b hb1 (by omega))).far (by simp; omega) _
  have hTw3 : Touch (fun k => k = b ∨ k = go ∨ base ≤ k) w2 w3 := by
    rw [hw3]
    refine Touch.set (p := ⟨go, tt, none⟩) ⟨hg1.os.trans hA0b.os, hg1.tape.trans hA0b.tape, hg1.output.trans hA0b.output, Nat.le_trans hA0b.size hg1.size, fun k hk hn => ?_⟩ (Or.inr (Or.inl rfl)) _
    by_cases hkb : k < base
    · exact hkpb k hkb hk
    · exact absurd (Or.inr (Or.inr (by omega))) hn
  have hWbb : ∀ k, k < w2.heap.size → k ≠ go → some k ≠ (Value.slice pfb lfb cfb).ownBlock → w3.heap[k]? = w2.heap[k]? := fun k hk hne he => by
    rw [hw3, Below.heap_setCell _ _ _ _ (by simp; omega), hg1.block k (by omega) he]
    exact hA0b.block k hk
  have HRw3 := Lib.hid hRw3
  have HNw3 := Lib.hid hNw3
  have HTw3 := Lib.hid hTw3
  have HWBb := Lib.hid hWbb
  have hsw3 : w2.heap.size ≤ w3.heap.size := hTw3.size
  have hgob : go < w3.heap.size := by omega
  have hblb : b < w3.heap.size := by omega
  clear hRw3 hNw3 hTw3 hWbb hw3 q2 q3 qg qf hkpb ho1 hg1 hl1 hs1 hofb hbxb hsz0b hA0b hw0b kb2b kb3b kgb
  have hne35 : ∀ (W : World) (g : Nat) (c1 c2 : Array Value), W.heap[g]? = some (.cells c1 125 (0, 0)) → W.heap[g]? = some (.cells c2 3 (0, 0)) → False := fun W g c1 c2 e1 e2 => by
    rw [e1] at e2
    simp at e2
  have hwd : ∀ g, (Value.slice pw (2 * E.length) cw).ownBlock = some g → w3.heap[g]? = w.heap[g]? := fun g hg => by
    obtain ⟨z1, cu, e1⟩ := own_block HWAYS.out hg
    have hgl : g < w.heap.size := (Array.getElem?_eq_some_iff.1 e1).1
    have n1 : some g ≠ (Value.slice pfa lfa cfa).ownBlock := fun e => by
      have h1 := HROWS.out.own fr hf
      rw [HVFa.out, ← HLFa.out] at h1
      obtain ⟨_, c2, e2⟩ := own_block h1 e.symm
      exact hne35 _ _ _ _ e1 e2
    have s1 := HWBa.out g hgl (by omega) n1
    have n2 : some g ≠ (Value.slice pfb lfb cfb).ownBlock := fun e => by
      have h1 := HRw2.out.own tt ht
      have h2 := HVFb.out
      have h3 := HLFb.out
      rw [h2] at h1
      simp only [] at h1 h3
      rw [← h3] at h1
      obtain ⟨_, c2, e2⟩ := own_block h1 e.symm
      exact hne35 _ _ _ _ (s1.trans e1) e2
    exact (HWBb.out g (by have := HTw2.out.size; omega) (by omega) n2).trans s1
  have how : w3.ownsRow base 125 2 (.slice pw (2 * E.length) cw) (2 * E.length) (wayCells E) := own_same HWAYS.out hwd
  have hkp3 : ∀ (o : Obj) (w4 : World), (w3.alloc o).grownBy w4 (Value.slice pw (2 * E.length) cw).ownBlock → ∀ k, k < w3.heap.size → (∀ cu, w3.heap[k]? ≠ some (.cells cu 125 (0, 0))) ∨ k < base → w4.heap[k]? = w3.heap[k]? := fun o w4 hg k hk hor => by
    have hA : Adds w3 (w3.alloc o) := (Adds.refl _).alloc o
    refine (hg.block k (by have := hA.size; omega) (fun e => ?_)).trans (hA.block k hk)
    obtain ⟨z1, cu, e1⟩ := own_block how e.symm
    rcases hor with h | h
    · exact h cu e1
    · omega
  have HOW := Lib.hid how
  have HKP3 := Lib.hid hkp3
  have kb2 : w3.cell? ⟨b, 2, none⟩ = some (.slice pw (2 * E.length) cw) := HNw3.out.cell 2
  clear hwd how hkp3 hne35
  go_upto_region 2 with fail
  go_wp2_with (at_builtin; ((refine wpList_append_lies _ rfl _ _ 97 rfl base 125 i0 (.agg #[.int .i64 0, .int .i64 0]) 2 16 Try.underlying97 HI.out HI0.out HI1.out HI2.out rfl (by decide) (.slice pw (2 * E.length) cw) (2 * E.length) _ rfl (own_same HOW.out (fun g hg => Below.heap_alloc _ _ _ (by obtain ⟨_, _, e⟩ := own_block HOW.out hg; exact (Array.getElem?_eq_some_iff.1 e).1))) ⟨w3.heap.size, 0, none⟩ 2 2 [.int .i64 tt, .int .i64 room, .int .i64 fr, .int .i64 0] rfl rfl (World.news_of_block (Box.new w3 _ 125)) (by simp [Value.oneCell']) (by omega) (by unfold maxLen; omega) (by omega) (by simp; omega) (w3.heap.size + 1) (by simp) ?_); intro g4 c4 w4 ho4 hg4 hl4 hs4; have k42 := (World.cell?_of_block (a := ⟨b, 2, none⟩) (HKP3.out _ _ hg4 b hblb (Or.inr hb1))).trans kb2; have k4f : w4.frozen? ⟨b, 2, none⟩ = false := (HNw3.out.same (HKP3.out _ _ hg4 b hblb (Or.inr hb1))).free 2; have HO4 := Lib.hid ho4; have HG4 := Lib.hid hg4; clear ho4 hg4 hl4))
  go_end0
  have hN4 : Box w4 b #[vl, vt, .slice pw (2 * E.length) cw, .slice (some ⟨go, 0, none⟩) N co, v4] 100 := HNw3.out.same (HKP3.out _ _ HG4.out b hblb (Or.inr hb1))
  have hT : Touch (fun k => k = b ∨ k = go ∨ base ≤ k) w (w4.setCell ⟨b, 2, none⟩ (.slice (some ⟨g4, 0, none⟩) (2 * E.length + 2) c4)) := by
    refine Touch.set (p := ⟨b, 2, none⟩) (((HTw2.out).trans HTw3.out).trans ⟨HG4.out.os, HG4.out.tape, HG4.out.output, by have := HG4.out.size; simp at this; omega, fun k hk hn => ?_⟩) (Or.inl rfl) _
    by_cases hkb : k < base
    · exact HKP3.out _ _ HG4.out k hk (Or.inr hkb)
    · exact absurd (Or.inr (Or.inr (by omega))) hn
  have hN5 : Box (w4.setCell ⟨b, 2, none⟩ (.slice (some ⟨g4, 0, none⟩) (2 * E.length + 2) c4)) b #[vl, vt, .slice (some ⟨g4, 0, none⟩) (2 * E.length + 2) c4, .slice (some ⟨go, 0, none⟩) N co, v4] 100 := hN4.set 2 _
  have hrf : ∃ vs, RowsAt (w4.setCell ⟨b, 2, none⟩ (.slice (some ⟨g4, 0, none⟩) (2 * E.length + 2) c4)) go base N (outE (E ++ [(fr, tt, room)])) vs := by
    have hr := HRw3.out.same (w' := w4.setCell ⟨b, 2, none⟩ (.slice (some ⟨g4, 0, none⟩) (2 * E.length + 2) c4)) ((Below.heap_setCell _ _ _ _ (by simp; omega)).trans (HKP3.out _ _ HG4.out go hgob (Or.inr hb2))) (fun v g hv hg => by
      obtain ⟨z1, cu, e1⟩ := own_block (HRw3.out.own v hv) hg
      have hgl : g < w3.heap.size := (Array.getElem?_eq_some_iff.1 e1).1
      rw [Below.heap_setCell _ _ _ _ (by simp; omega)]
      exact HKP3.out _ _ HG4.out g hgl (Or.inl (fun cu2 e2 => by rw [e1] at e2; simp at e2)))
    have e3 : outE (E ++ [(fr, tt, room)]) = (fun v => if v = tt then (if tt = fr then outE E fr ++ [2 * E.length] else outE E tt) ++ [2 * E.length + 1] else if v = fr then outE E fr ++ [2 * E.length] else outE E v) := by
      funext v
      rw [outE_snoc]
      have hne' : ¬ tt = fr := fun e => hne e.symm
      by_cases a : v = tt
      · subst a; simp [hne']
      · by_cases c : v = fr
        · subst c; simp [hne]
        · simp [a, c]
    rw [e3]
    exact ⟨_, hr⟩
  have hspare : ∀ k cu t0, w.heap[k]? = some (.cells cu t0 (0, 0)) → t0 ≠ 3 → t0 ≠ 125 → k ≠ b → k ≠ go → (w4.setCell ⟨b, 2, none⟩ (.slice (some ⟨g4, 0, none⟩) (2 * E.length + 2) c4)).heap[k]? = w.heap[k]? := fun k cu t0 e1 h3 h125 hkb hkg => by
    have hkl : k < w.heap.size := (Array.getElem?_eq_some_iff.1 e1).1
    have n1 : some k ≠ (Value.slice pfa lfa cfa).ownBlock := fun e => by
      have h1 := HROWS.out.own fr hf
      rw [HVFa.out, ← HLFa.out] at h1
      obtain ⟨_, c2, e2⟩ := own_block h1 e.symm
      rw [e1] at e2
      simp at e2
      exact h3 e2.2
    have s1 := HWBa.out k hkl hkg n1
    have n2 : some k ≠ (Value.slice pfb lfb cfb).ownBlock := fun e => by
      have h1 := HRw2.out.own tt ht
      have h2 := HVFb.out
      have h4 := HLFb.out
      rw [h2] at h1
      try simp only [] at h1
      try simp only [] at h4
      rw [← h4] at h1
      obtain ⟨_, c2, e2⟩ := own_block h1 e.symm
      rw [s1, e1] at e2
      simp at e2
      exact h3 e2.2
    have s2 := (HWBb.out k (by have := HTw2.out.size; omega) hkg n2).trans s1
    rw [Below.heap_setCell _ _ _ _ (by simp; omega)]
    refine (HKP3.out _ _ HG4.out k (by have := HTw2.out.size; have := HTw3.out.size; omega) (Or.inl (fun c2 e2 => ?_))).trans s2
    rw [s2, e1] at e2
    simp at e2
    exact h125 e2.2
  refine ⟨rfl, ⟨_, hN5, ?_, hrf, hb1, hb2, hb3⟩, hT, hspare⟩
  · have e1 : wayCells (E ++ [(fr, tt, room)]) = wayCells E ++ [.int .i64 tt, .int .i64 room, .int .i64 fr, .int .i64 0] := by simp [wayCells]
    have e2 : 2 * (E ++ [(fr, tt, room)]).length = 2 * E.length + 2 := by simp; omega
    rw [e1, e2]
    exact own_same HO4.out (fun g hg => Below.heap_setCell _ _ _ _ (by have := (own_block HO4.out hg).1; simp; omega))

end Go.Proofs.Ytkofnhimgegcnaa
