/- run: a script done to both. -/
import Derived.Test.YtofaioabjkcaiaaBZ
import Derived.Test.YtofaioabjkcaiaaBC
namespace Go.Proofs.Ytofaioabjkcaiaa
open Go.RowKit

set_option maxHeartbeats 400000 in
theorem RNew2_any (w : World) : Calls Try.prog 14 #[] w fun e w' => ∃ g, e = .returned (.agg #[.slice (some ⟨g, 0, none⟩) 1 1]) ∧ w.heap.size ≤ g ∧ RefAt w' (.agg #[.slice (some ⟨g, 0, none⟩) 1 1]) [[]] ∧ Adds w w' := by
  go_enter Try.func14, Try.ntmps14
  go_wp2
  refine bodyPost_ret (v := .agg #[.slice (some ⟨w.heap.size + 1, 0, none⟩) 1 1]) ?_ rfl ⟨w.heap.size + 1, rfl, by omega, ?_, ?_⟩
  · simp [results, Try.results14, go_sem]
  · refine ⟨some ⟨w.heap.size + 1, 0, none⟩, 1, [.slice none 0 0], rfl, rfl, by simp, by simp, fun i u hu => ⟨_, rfl, ?_⟩, fun i u l hu hl => ?_⟩
    · match i, hu with
      | 0, hu => simp at hu; subst hu; go_simp
    · match i, hu, hl with
      | 0, hu, hl => simp at hu hl; subst hu; subst hl; exact runsAt_nil _
  · exact ((Adds.refl w).alloc _).alloc _

theorem link_new {w : World} {s g : Nat} (hS : StockAt w.heap.size w s (.slice none 0 0) [] []) (hR : RefAt w (.agg #[.slice (some ⟨g, 0, none⟩) 1 1]) [[]]) (hg : g ≠ s) : Link w s (.slice none 0 0) [] [] g 1 1 [[]] :=
  ⟨hS, hR, hg, rfl, fun i L hi => by
    match i, hi with
    | 0, hi => simp at hi; subst hi; exact (can_nil _).more (by omega) (fun k _ _ => rfl), fun i k hi _ _ => by
    have : i = 0 := by simpa using hi
    subst this; exact good_pk0⟩

theorem Link.touch {w : World} {s : Nat} {v : Value} {bs : List Nat} {Ts : List Tree} {g0 n0 c0 : Nat} {Ls : List (List Piece)} {b : Nat} {u : Value} {q : Option Addr} {n c : Nat} (h : Link w s v bs Ts g0 n0 c0 Ls) (hb : w.cell? ⟨b, 0, none⟩ = some (.slice q n c)) (hs : b ≠ s) (hg : g0 ≠ b) : Link (w.setCell ⟨b, 0, none⟩ u) s v bs Ts g0 n0 c0 Ls :=
  ⟨h.stock.put hb hs, h.ref.put hg hb, h.off, h.len, h.can, h.good⟩

theorem ref_lt {w : World} {g n c : Nat} {Ls : List (List Piece)} (hR : RefAt w (.agg #[.slice (some ⟨g, 0, none⟩) n c]) Ls) : g < w.heap.size := by
  obtain ⟨p, cap, vs, hx, h1, h2, h3, h4, h5⟩ := hR
  obtain ⟨g', hp, hc⟩ := h4 0 _ (List.getElem?_eq_getElem h2)
  simp only [Value.agg.injEq, Array.mk.injEq, List.cons.injEq, Value.slice.injEq, and_true] at hx
  have := hx.1.trans hp
  simp only [Option.some.injEq, Addr.mk.injEq, and_true] at this
  rw [this]; exact cell_lt hc

theorem adds_touch {w a b : World} {O : Nat → Prop} (h : Adds w a) (g : Touch O a b) (hO : ∀ k, O k → w.heap.size ≤ k) : Adds w b :=
  ⟨g.os.trans h.os, g.tape.trans h.tape, g.output.trans h.output, Nat.le_trans h.size g.size, fun k hk => (g.same k (Nat.lt_of_lt_of_le hk h.size) (fun ho => by have := hO k ho; omega)).trans (h.block k hk)⟩

/-- Between two changes of a script. -/
structure RunI (w W7 : World) (b5 b7 s most k : Nat) (wr : World) : Prop where
  ex : ∃ v bs Ts g0 n0 c0 Ls, Link wr s v bs Ts g0 n0 c0 Ls ∧ bs.length ≤ k ∧ Box wr b7 #[.slice (some ⟨g0, 0, none⟩) n0 c0] 27 ∧ Box wr b5 #[.slice none 0 0] 27 ∧ g0 ≠ b7 ∧ g0 ≠ b5 ∧ (∀ j, v.ownBlock = some j → W7.heap.size ≤ j) ∧ Adds w wr ∧ W7.heap.size ≤ wr.heap.size

/-- What run returns. -/
def RunGot (w : World) (most : Nat) (e : Ending) (w' : World) : Prop :=
  ∃ s v bs Ts g0 n0 c0 Ls, e = .returned (.tuple #[.pointer (some ⟨s, 0, none⟩), .agg #[.slice (some ⟨g0, 0, none⟩) n0 c0]]) ∧ Link w' s v bs Ts g0 n0 c0 Ls ∧ bs.length ≤ most ∧ w.heap.size ≤ s ∧ (∀ j, v.ownBlock = some j → w.heap.size ≤ j) ∧ Adds w w'

set_option maxRecDepth 100000 in
set_option maxHeartbeats 4000000 in
theorem run_any (p : Option Addr) (N cap most : Nat) (f : Nat → Nat → Int) (w : World) (hN : N ≤ maxLen) (hL : ActsAt w p N f) (hm : most ≤ 1000) : Calls Try.prog 20 #[.slice p N cap, .int .i64 most] w (RunGot w most) := by
  have HL := Lib.hid hL
  clear hL
  go_enter Try.func20, Try.ntmps20
  go_upto_region 1 with fail
  obtain ⟨b5, hb5⟩ : ∃ k, k = w.heap.size := ⟨_, rfl⟩
  obtain ⟨W1, hW1⟩ : ∃ V, V = w.alloc (.cells #[.slice none 0 0] 27) := ⟨_, rfl⟩
  have A1 : Adds w W1 := by rw [hW1]; exact (Adds.refl w).alloc _
  have X5 : Box W1 b5 #[.slice none 0 0] 27 := by rw [hW1, hb5]; exact Box.new _ _ _
  have hw5 : w.heap.size ≤ b5 := by omega
  rw [← hW1, ← hb5]
  have HA1 := Lib.hid A1
  have HX5 := Lib.hid X5
  clear hW1 hb5 A1 X5
  go_upto_region 2 with (first
    | (go_at_call 13; refine (new_any _).mono ?_; rintro e w2 ⟨s, rfl, hS, hs, hb2⟩; have HS := Lib.hid hS; have HB2 := Lib.hid hb2; clear hS hb2)
    | (go_at_call 14; refine (RNew2_any _).mono ?_; rintro e w3 ⟨g, rfl, hg, hR, hb3⟩; have HRR := Lib.hid hR; have HB3 := Lib.hid hb3; clear hR hb3))
  obtain ⟨b7, hb7⟩ : ∃ k, k = w3.heap.size := ⟨_, rfl⟩
  obtain ⟨W7, hW7⟩ : ∃ V, V = w3.alloc (.cells #[.slice (some ⟨g, 0, none⟩) 1 1] 27) := ⟨_, rfl⟩
  have A7 : Adds w3 W7 := by rw [hW7]; exact (Adds.refl _).alloc _
  have X7 : Box W7 b7 #[.slice (some ⟨g, 0, none⟩) 1 1] 27 := by rw [hW7, hb7]; exact Box.new _ _ _
  have hsw : W1.heap.size ≤ s := hs
  have hA1s := HA1.out.size
  have hsl : s < w2.heap.size := HS.out.box.lt
  have hgl : g < w3.heap.size := ref_lt HRR.out
  have h5l := HX5.out.lt
  have h12 := HB2.out.size
  have h23 := HB3.out.size
  have h37 := A7.size
  have h7l := X7.lt
  have hinit : RunI w W7 b5 b7 s most 0 W7 := ⟨_, [], [], g, 1, 1, [[]], (link_new (((HS.out.later HB3.out).later A7).tight) (HRR.out.later A7) (by omega)), by simp, X7, ((HX5.out.later HB2.out).later HB3.out).later A7, by omega, by omega, fun j hj => by simp [Value.ownBlock] at hj, ((HA1.out.trans HB2.out).trans HB3.out).trans A7, Nat.le_refl _⟩
  rw [← hW7, ← hb7]
  have HIN := Lib.hid hinit
  have hb7s : b7 ≠ s := by omega
  have hb5s : b5 ≠ s := by omega
  have hb57 : b5 ≠ b7 := by omega
  have hb7W : b7 < W7.heap.size := h7l
  have hb5W : b5 < W7.heap.size := by omega
  have hws : w.heap.size ≤ s := by omega
  have hwb7 : w.heap.size ≤ b7 := by omega
  have hwW7 : w.heap.size ≤ W7.heap.size := by omega
  have hsW7 : s < W7.heap.size := by omega
  clear hinit hW7 hb7 A7 X7 hsw hA1s hsl hgl h5l h12 h23 h37 h7l hg hs HS HRR HB2 HB3 HA1 HX5
  go_wp2_with fail
  go_loopw [8, 9] (fun v8 v9 wr => ∃ k : Nat, k ≤ N ∧ k ≤ most ∧ v9 = .int .i64 k ∧ v8 = .bool true ∧ Hid (RunI w W7 b5 b7 s most k wr)) (fun _ v9 _ => N - (intOf v9).toNat)
  case atStart => exact ⟨0, by omega, by omega, rfl, rfl, HIN⟩
  case round =>
    obtain ⟨k, hk, hk2, rfl, rfl, hrun⟩ := hrel
    obtain ⟨v, bs, Ts, g0, n0, c0, Ls, hlk, hbl, x7, x5, hg7, hg5, hown, hA, hsz⟩ := hrun.out.ex
    have HLK := Lib.hid hlk
    have HX7 := Lib.hid x7
    have HX5 := Lib.hid x5
    have HOW := Lib.hid hown
    have HA := Lib.hid hA
    have l7 := x7.cell 0
    have f7 := x7.free 0
    have l5 := x5.cell 0
    have f5 := x5.free 0
    simp only [List.getElem?_toArray, List.getElem?_cons_zero] at l7 l5
    clear hlk x7 x5 hown hA hrun
    by_cases h1 : k < N
    · by_cases h2 : k < most
      · obtain ⟨g, off, rfl, hc⟩ := HL.out k h1
        have d0 := keep_cell HA.out (hc 0 (by omega))
        have d1 := keep_cell HA.out (hc 1 (by omega))
        have d2 := keep_cell HA.out (hc 2 (by omega))
        have d3 := keep_cell HA.out (hc 3 (by omega))
        have d4 := keep_cell HA.out (hc 4 (by omega))
        have d5 := keep_cell HA.out (hc 5 (by omega))
        have hgw : g < w.heap.size := cell_lt (hc 0 (by omega))
        have hng : ¬ (g = s ∨ v.ownBlock = some g) := fun h => h.elim (fun h => by omega) (fun h => by have := HOW.out g h; omega)
        have hn7 : ¬ (b7 = s ∨ v.ownBlock = some b7) := fun h => h.elim (fun h => by omega) (fun h => by have := HOW.out b7 h; omega)
        have hn5 : ¬ (b5 = s ∨ v.ownBlock = some b5) := fun h => h.elim (fun h => by omega) (fun h => by have := HOW.out b5 h; omega)
        have hg7' : b7 ≠ g := by omega
        simp only [Nat.add_zero] at d0
        clear hc
        go_upto_region 6 with fail
        refine wp_region_held_drew (S := (fun w' => w'.cell? ⟨g, off + k * 6, none⟩ = some (.int .i64 (f k 0)) ∧ w'.cell? ⟨g, off + k * 6 + 1, none⟩ = some (.int .i64 (f k 1)) ∧ w'.cell? ⟨g, off + k * 6 + 2, none⟩ = some (.int .i64 (f k 2)) ∧ w'.cell? ⟨g, off + k * 6 + 3, none⟩ = some (.int .i64 (f k 3)) ∧ w'.cell? ⟨g, off + k * 6 + 4, none⟩ = some (.int .i64 (f k 4)) ∧ w'.cell? ⟨g, off + k * 6 + 5, none⟩ = some (.int .i64 (f k 5)))) (by kernel_rfl) ⟨d0, d1, d2, d3, d4, d5⟩ (fun hHeld => ?_)
        refine wpAnyH_take (i := 0) (oi := ⟨some 29, _, _, _, _, _⟩) (v := ?v1) rfl (by kernel_rfl) (by kernel_rfl) (by kernel_rfl) (fun _ _ _ h => h) (Or.inl ⟨by rfl, ?hy1⟩) (by assumption) ?rest1
        case hy1 => (intro w hSw; (try dsimp only at hSw); go_simp; try with_reducible rfl)
        try simp only [Act.put, List.setIfInBounds_toArray, List.set_cons_zero, List.set_cons_succ]
        refine wpAnyH_take (i := 2) (oi := ⟨some 31, _, _, _, _, _⟩) (v := ?v2) rfl (by kernel_rfl) (by kernel_rfl) (by kernel_rfl) (fun _ _ _ h => h) (Or.inl ⟨by rfl, ?hy2⟩) (by assumption) ?rest2
        case hy2 => (intro w hSw; (try dsimp only at hSw); go_simp; try with_reducible rfl)
        try simp only [Act.put, List.setIfInBounds_toArray, List.set_cons_zero, List.set_cons_succ]
        refine wpAnyH_take (i := 3) (oi := ⟨some 32, _, _, _, _, _⟩) (v := ?v3) rfl (by kernel_rfl) (by kernel_rfl) (by kernel_rfl) (fun _ _ _ h => h) (Or.inl ⟨by rfl, ?hy3⟩) (by assumption) ?rest3
        case hy3 => (intro w hSw; (try dsimp only at hSw); go_simp; try with_reducible rfl)
        try simp only [Act.put, List.setIfInBounds_toArray, List.set_cons_zero, List.set_cons_succ]
        refine wpAnyH_take (i := 4) (oi := ⟨some 33, _, _, _, _, _⟩) (v := ?v4) rfl (by kernel_rfl) (by kernel_rfl) (by kernel_rfl) (fun _ _ _ h => h) (Or.inl ⟨by rfl, ?hy4⟩) (by assumption) ?rest4
        case hy4 => (intro w hSw; (try dsimp only at hSw); go_simp; try with_reducible rfl)
        try simp only [Act.put, List.setIfInBounds_toArray, List.set_cons_zero, List.set_cons_succ]
        refine wpAnyH_take (i := 5) (oi := ⟨some 34, _, _, _, _, _⟩) (v := ?v5) rfl (by kernel_rfl) (by kernel_rfl) (by kernel_rfl) (fun _ _ _ h => h) (Or.inl ⟨by rfl, ?hy5⟩) (by assumption) ?rest5
        case hy5 => (intro w hSw; (try dsimp only at hSw); go_simp; try with_reducible rfl)
        try simp only [Act.put, List.setIfInBounds_toArray, List.set_cons_zero, List.set_cons_succ]
        have l7d : wr.drew.cell? ⟨b7, 0, none⟩ = some (.slice (some ⟨g0, 0, none⟩) n0 c0) := l7
        refine wpAnyH_ready (rs := [1]) (by kernel_rfl) (by simp) ?_
        refine AllReadyH.cons (o := ⟨some 30, _, _, _, _, _⟩) rfl (fun K hK => ?_) AllReadyH.nil
        go_simp
        refine hK.out _ _ ⟨d0, d1, d2, d3, d4, d5⟩ (fun hHeld => ?_)
        clear hK K
        try simp only [Act.put, List.setIfInBounds_toArray, List.set_cons_zero, List.set_cons_succ]
        refine wpAnyH_ready (rs := [6]) (by kernel_rfl) (by simp) ?_
        refine AllReadyH.cons (o := ⟨some 35, _, _, _, _, _⟩) rfl (fun K hK => ?_) AllReadyH.nil
        go_simp
        refine (do_link s v bs Ts g0 n0 c0 Ls (f k 0) (f k 1) (f k 2) (f k 3) (f k 4) (f k 5) _ (HLK.out.later (Adds.refl wr).drew) (by omega)).mono ?_
        rintro e w8 ⟨v', bs', Ts', g1, n1, c1, Ls', rfl, hlk', hb1, hb2, ht', hown', hg1⟩
        have ht : Touch (fun k => k = s ∨ v.ownBlock = some k) wr w8 := ht'.before (Adds.refl wr).drew
        replace d0 := touch_cell ht hng d0
        replace d1 := touch_cell ht hng d1
        replace d2 := touch_cell ht hng d2
        replace d3 := touch_cell ht hng d3
        replace d4 := touch_cell ht hng d4
        replace d5 := touch_cell ht hng d5
        have y7 : Box w8 b7 #[.slice (some ⟨g0, 0, none⟩) n0 c0] 27 := HX7.out.same (ht.same _ HX7.out.lt hn7)
        have y5 : Box w8 b5 #[.slice none 0 0] 27 := HX5.out.same (ht.same _ HX5.out.lt hn5)
        have m7 := y7.cell 0
        have mf := y7.free 0
        simp only [List.getElem?_toArray, List.getElem?_cons_zero] at m7
        clear l7 l7d f7 l5 f5
        refine hK.out _ _ ⟨d0, d1, d2, d3, d4, d5⟩ (fun hHeld => ?_)
        clear hK K
        try simp only [Act.put, List.setIfInBounds_toArray, List.set_cons_zero, List.set_cons_succ]
        refine wpAnyH_take (i := 7) (oi := ⟨some 28, _, _, _, _, _⟩) (v := ?v6) rfl (by kernel_rfl) (by kernel_rfl) (by kernel_rfl) (fun _ _ _ h => h) (Or.inl ⟨by rfl, ?hy6⟩) (by assumption) ?rest6
        case hy6 => (intro w hSw; (try dsimp only at hSw); go_simp; try with_reducible rfl)
        try simp only [Act.put, List.setIfInBounds_toArray, List.set_cons_zero, List.set_cons_succ]
        refine wpAnyH_take (i := 8) (oi := ⟨some 36, _, _, _, _, _⟩) (v := ?v7) rfl (by kernel_rfl) (by kernel_rfl) (by kernel_rfl) (fun _ _ _ h => h) (Or.inl ⟨by rfl, ?hy7⟩) (by assumption) ?rest7
        case hy7 => (intro w hSw; (try dsimp only at hSw); go_simp; try with_reducible rfl)
        try simp only [Act.put, List.setIfInBounds_toArray, List.set_cons_zero, List.set_cons_succ]
        refine wpAnyH_take (i := 9) (oi := ⟨some 37, _, _, _, _, _⟩) (v := ?v8) rfl (by kernel_rfl) (by kernel_rfl) (by kernel_rfl) (fun _ _ _ h => h) (Or.inl ⟨by rfl, ?hy8⟩) (by assumption) ?rest8
        case hy8 => (intro w hSw; (try dsimp only at hSw); go_simp; try with_reducible rfl)
        try simp only [Act.put, List.setIfInBounds_toArray, List.set_cons_zero, List.set_cons_succ]
        refine wpAnyH_ready (rs := [10]) (by kernel_rfl) (by simp) ?_
        refine AllReadyH.cons (o := ⟨none, _, _, _, _, _⟩) rfl (fun K hK => ?_) AllReadyH.nil
        go_simp
        replace d0 := (World.cell?_setCell_far (w := w8) ⟨b7, 0, none⟩ _ (.slice (some ⟨g1, 0, none⟩) n1 c1) (by exact hg7')).trans d0
        replace d1 := (World.cell?_setCell_far (w := w8) ⟨b7, 0, none⟩ _ (.slice (some ⟨g1, 0, none⟩) n1 c1) (by exact hg7')).trans d1
        replace d2 := (World.cell?_setCell_far (w := w8) ⟨b7, 0, none⟩ _ (.slice (some ⟨g1, 0, none⟩) n1 c1) (by exact hg7')).trans d2
        replace d3 := (World.cell?_setCell_far (w := w8) ⟨b7, 0, none⟩ _ (.slice (some ⟨g1, 0, none⟩) n1 c1) (by exact hg7')).trans d3
        replace d4 := (World.cell?_setCell_far (w := w8) ⟨b7, 0, none⟩ _ (.slice (some ⟨g1, 0, none⟩) n1 c1) (by exact hg7')).trans d4
        replace d5 := (World.cell?_setCell_far (w := w8) ⟨b7, 0, none⟩ _ (.slice (some ⟨g1, 0, none⟩) n1 c1) (by exact hg7')).trans d5
        refine hK.out _ _ ⟨d0, d1, d2, d3, d4, d5⟩ (fun hHeld => ?_)
        clear hK K
        try simp only [Act.put, List.setIfInBounds_toArray, List.set_cons_zero, List.set_cons_succ]
        refine wpAnyH_take (i := 11) (oi := ⟨some 8, _, _, _, _, _⟩) (v := ?v9) rfl (by kernel_rfl) (by kernel_rfl) (by kernel_rfl) (fun _ _ _ h => h) (Or.inl ⟨by rfl, ?hy9⟩) (by assumption) ?rest9
        case hy9 => (intro w hSw; (try dsimp only at hSw); go_simp; try with_reducible rfl)
        try simp only [Act.put, List.setIfInBounds_toArray, List.set_cons_zero, List.set_cons_succ]
        refine wpAnyH_done (by kernel_rfl) ?_ _
        clear hHeld
        go_wp2_with fail
        have zsz := ht.size
        have hg17 : g1 ≠ b7 := by
          rcases hg1 with h | h
          · rw [h]; exact hg7
          · have h' : wr.heap.size ≤ g1 := h
            omega
        have hg15 : g1 ≠ b5 := by
          rcases hg1 with h | h
          · rw [h]; exact hg5
          · have h' : wr.heap.size ≤ g1 := h
            omega
        have hown2 : ∀ j, v'.ownBlock = some j → W7.heap.size ≤ j := fun j hj => by
          rcases hown' j hj with h | h | h
          · subst h; exact (hlk'.stock.sep hj).elim
          · exact HOW.out j h
          · have h' : wr.heap.size ≤ j := h
            omega
        have AA : Adds w w8 := adds_touch HA.out ht (fun j hj => hj.elim (fun h => by omega) (fun h => by have := HOW.out j h; omega))
        refine ⟨⟨k + 1, by omega, by omega, by go_num, rfl, Lib.hid ⟨v', bs', Ts', g1, n1, c1, Ls', hlk'.touch m7 hb7s hg17, by omega, y7.set 0 _, y5.far (by exact hb57) _, hg17, hg15, hown2, AA.set hwb7 _, by simp [World.setCell]; omega⟩⟩, by simp [intOf]; omega⟩
      · go_wp2_with fail
        go_region
        all_goals
          go_wp2_with fail
          refine bodyPost_ret (v := .tuple #[.pointer (some ⟨s, 0, none⟩), .agg #[.slice (some ⟨g0, 0, none⟩) n0 c0]]) ?_ rfl ⟨s, v, bs, Ts, g0, n0, c0, Ls, rfl, ?_, by omega, hws, fun j hj => Nat.le_trans hwW7 (HOW.out j hj), ?_⟩
          · simp [results, Try.results20, go_sem, l5, l7]
          · exact (HLK.out.touch l5 hb5s hg5).later (Adds.refl _).drew
          · exact (HA.out.set hw5 _).drew
    · go_wp2_with fail
      go_region
      all_goals
        go_wp2_with fail
        refine bodyPost_ret (v := .tuple #[.pointer (some ⟨s, 0, none⟩), .agg #[.slice (some ⟨g0, 0, none⟩) n0 c0]]) ?_ rfl ⟨s, v, bs, Ts, g0, n0, c0, Ls, rfl, ?_, by omega, hws, fun j hj => Nat.le_trans hwW7 (HOW.out j hj), ?_⟩
        · simp [results, Try.results20, go_sem, l5, l7]
        · exact (HLK.out.touch l5 hb5s hg5).later (Adds.refl _).drew
        · exact (HA.out.set hw5 _).drew
end Go.Proofs.Ytofaioabjkcaiaa
