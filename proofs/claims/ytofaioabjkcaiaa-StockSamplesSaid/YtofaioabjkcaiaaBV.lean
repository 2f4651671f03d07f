/- At, owned and held of the reference. -/
import Derived.Test.YtofaioabjkcaiaaBT
namespace Go.Proofs.Ytofaioabjkcaiaa
open Go.RowKit

/-- The last run with a pocket in it: its state and end. -/
def lookR (n : Int) : List Piece → Pk × Int → Pk × Int
  | [], s => s
  | x :: l, s => lookR n l (if x.1 ≤ n ∧ n ≤ x.2.1 then (x.2.2, x.2.1) else s)

theorem lookR_append (n : Int) (l l' : List Piece) (s : Pk × Int) : lookR n (l ++ l') s = lookR n l' (lookR n l s) := by
  induction l generalizing s with
  | nil => rfl
  | cons x l ih => simp only [List.cons_append, lookR, ih]

theorem take_next {α : Type} {l : List α} {k : Nat} {x : α} (h : l[k]? = some x) : l.take (k + 1) = l.take k ++ [x] := by
  obtain ⟨hk, rfl⟩ := List.getElem?_eq_some_iff.1 h
  rw [List.take_succ_eq_append_getElem hk]

theorem lookR_next {n : Int} {l : List Piece} {k : Nat} {x : Piece} (h : l[k]? = some x) (s : Pk × Int) : lookR n (l.take (k + 1)) s = if x.1 ≤ n ∧ n ≤ x.2.1 then (x.2.2, x.2.1) else lookR n (l.take k) s := by
  rw [take_next h, lookR_append]
  rfl

/-- What is found: in canonical runs, the state of the pocket, and an end up to which it is the same. -/
theorem lookR_none {n : Int} : ∀ {l : List Piece} {s : Pk × Int}, (∀ x ∈ l, ¬ (x.1 ≤ n ∧ n ≤ x.2.1)) → lookR n l s = s
  | [], _, _ => rfl
  | x :: l, s, h => by
    rw [lookR, if_neg (h x (by simp))]
    exact lookR_none (fun y hy => h y (by simp [hy]))

theorem lookR_ok {f : Int → Pk} {n : Int} : ∀ {l : List Piece}, (∀ x ∈ l, ∀ k, x.1 ≤ k → k ≤ x.2.1 → f k = x.2.2) → ∀ {s : Pk × Int}, (n ≤ s.2 ∧ ((∃ x ∈ l, x.1 ≤ n ∧ n ≤ x.2.1) ∨ (∀ k, n ≤ k → k ≤ s.2 → f k = s.1))) →
    n ≤ (lookR n l s).2 ∧ ∀ k, n ≤ k → k ≤ (lookR n l s).2 → f k = (lookR n l s).1
  | [], _, s, h => by
    rcases h.2 with ⟨x, hx, _⟩ | h2
    · simp at hx
    · exact ⟨h.1, h2⟩
  | x :: l, hl, s, h => by
    rw [lookR]
    refine lookR_ok (fun y hy => hl y (by simp [hy])) ?_
    by_cases hx : x.1 ≤ n ∧ n ≤ x.2.1
    · rw [if_pos hx]
      exact ⟨hx.2, Or.inr (fun k k1 k2 => hl x (by simp) k (by omega) k2)⟩
    · rw [if_neg hx]
      refine ⟨h.1, ?_⟩
      rcases h.2 with ⟨y, hy, h3⟩ | h2
      · rcases List.mem_cons.1 hy with rfl | hy
        · exact (hx h3).elim
        · exact Or.inl ⟨y, hy, h3⟩
      · exact Or.inr h2

theorem can_look {f : Int → Pk} {l : List Piece} (h : Can f l 1000001) {n : Int} (h1 : 1 ≤ n) (h2 : n ≤ 1000000) :
    n ≤ (lookR n l (pk0, n)).2 ∧ ∀ k, n ≤ k → k ≤ (lookR n l (pk0, n)).2 → f k = (lookR n l (pk0, n)).1 := by
  refine lookR_ok (fun x hx => (h.one x hx).2.2.2.2) ⟨Int.le_refl _, ?_⟩
  rcases h.all n h1 (by omega) with h0 | h0
  · exact Or.inr (fun k k1 k2 => by simp only at k2; rw [show k = n by omega]; exact h0)
  · exact Or.inl h0

theorem lookR_le {n B : Int} : ∀ {l : List Piece} {s : Pk × Int}, (∀ x ∈ l, x.2.1 ≤ B) → s.2 ≤ B → (lookR n l s).2 ≤ B
  | [], _, _, h => h
  | x :: l, s, hl, h => by
    rw [lookR]
    refine lookR_le (fun y hy => hl y (by simp [hy])) ?_
    split
    · exact hl x (by simp)
    · exact h

theorem look_end {f : Int → Pk} {l : List Piece} (h : Can f l 1000001) {n : Int} (h2 : n ≤ 1000000) : (lookR n l (pk0, n)).2 ≤ 1000000 :=
  lookR_le (fun x hx => by have := (h.one x hx).2.2.1; omega) h2

/-- What owned and held return. -/
def ErrGot (rf : Pk → Int) (f : Int → Pk) (a n : Int) (w : World) (e : Ending) (w' : World) : Prop :=
  ∃ c, e = .returned (.int .i64 c) ∧ FirstErr rf f a n c ∧ Adds w w'

set_option maxRecDepth 100000 in
set_option maxHeartbeats 2000000 in
theorem owned_R (v : Value) (l : List Piece) (f : Int → Pk) (a n m : Int) (w : World) (hL : RunsAt w v l) (hC : Can f l 1000001) (ha : 1 ≤ a) (hn : 1 ≤ n) (hb : a + n - 1 ≤ 1000000) :
    Calls Try.prog 96 #[v, .agg #[.int .i64 a, .int .i64 n], .int .i64 m] w (ErrGot (rfFree m) f a n w) := by
  obtain ⟨p, cap, rfl, hc⟩ := hL
  have HC := Lib.hid hc
  have HCAN := Lib.hid hC
  obtain ⟨N, hN⟩ : ∃ N, N = l.length := ⟨_, rfl⟩
  have hlen : N ≤ 1000000 := by rw [hN]; exact hC.len
  rw [← hN]
  have HN := Lib.hid hN
  clear hc hC hN
  go_enter Try.func96, Try.ntmps96
  go_upto_region 1 with fail
  obtain ⟨b4, hb4⟩ : ∃ k, k = w.heap.size := ⟨_, rfl⟩
  obtain ⟨W1, hW1⟩ : ∃ V, V = w.alloc (.cells #[.int .i64 a, .int .i64 n] 32) := ⟨_, rfl⟩
  have A1 : Adds w W1 := by rw [hW1]; exact (Adds.refl w).alloc _
  have X4 : Box W1 b4 #[.int .i64 a, .int .i64 n] 32 := by rw [hW1, hb4]; exact Box.new _ _ _
  rw [← hW1, ← hb4]
  have HA1 := Lib.hid A1
  have HX4 := Lib.hid X4
  have x0 := X4.cell 0
  have x1 := X4.cell 1
  simp only [List.getElem?_toArray, List.getElem?_cons_zero, List.getElem?_cons_succ] at x0 x1
  clear hW1 hb4 A1 X4
  go_wp2_with fail
  go_loopw [7] (fun v7 wr => ∃ z : Int, v7 = .int .i64 z ∧ a ≤ z ∧ z ≤ 1000001 ∧ Hid (∀ j, a ≤ j → j < z → rfFree m (f j) = 0) ∧ Hid (Adds W1 wr)) (fun v7 _ => (a + n - intOf v7).toNat)
  case atStart => exact ⟨a, rfl, by omega, by omega, Lib.hid (fun j j1 j2 => by omega), Lib.hid (Adds.refl _)⟩
  case round =>
    obtain ⟨z, rfl, hz1, hz2, hpre, hadd⟩ := hrel
    replace x0 := keep_cell hadd.out x0
    replace x1 := keep_cell hadd.out x1
    by_cases hlt : z < a + n
    · have hlt' : z < a + n := hlt
      go_upto_region 4 with fail
      obtain ⟨b8, hb8⟩ : ∃ k, k = wr.heap.size := ⟨_, rfl⟩
      obtain ⟨Wp, hWp⟩ : ∃ V, V = wr.alloc (.cells #[.int .i64 0, .int .i64 0, .int .i64 0, .int .i64 0] 61) := ⟨_, rfl⟩
      have Ap : Adds wr Wp := by rw [hWp]; exact (Adds.refl wr).alloc _
      have X8 : Box Wp b8 #[.int .i64 0, .int .i64 0, .int .i64 0, .int .i64 0] 61 := by rw [hWp, hb8]; exact Box.new _ _ _
      have hb8' : wr.heap.size ≤ b8 := by omega
      rw [← hWp, ← hb8]
      have HAp := Lib.hid Ap
      have HX8 := Lib.hid X8
      clear hWp hb8 Ap X8
      go_wp2_with fail
      go_loopw [9, 10] (fun v9 v10 wx => ∃ (k : Nat) (E : Int) (q : Pk), k ≤ N ∧ v10 = .int .i64 k ∧ v9 = .int .i64 E ∧ Hid (lookR z (l.take k) (pk0, z) = (q, E)) ∧ Hid (Box wx b8 #[.int .i64 q.st, .int .i64 q.lot, .int .i64 q.own, .int .i64 q.hold] 61) ∧ Hid (Adds wr wx)) (fun _ v10 _ => N - (intOf v10).toNat)
      case atStart => exact ⟨0, z, pk0, by omega, rfl, rfl, Lib.hid rfl, HX8, HAp⟩
      case round =>
        obtain ⟨k, E, ⟨qs, ql, qo, qh⟩, hk, rfl, rfl, hlook, hbox, had⟩ := hrel
        have d0 := hbox.out.cell 0
        have d1 := hbox.out.cell 1
        have d2 := hbox.out.cell 2
        have d3 := hbox.out.cell 3
        have g0 := hbox.out.free 0
        have g1 := hbox.out.free 1
        have g2 := hbox.out.free 2
        have g3 := hbox.out.free 3
        simp only [List.getElem?_toArray, List.getElem?_cons_zero, List.getElem?_cons_succ] at d0 d1 d2 d3
        replace x0 := keep_cell had.out x0
        replace x1 := keep_cell had.out x1
        by_cases hkN : k < N
        · obtain ⟨⟨xa, xc, xs, xl, xo, xh⟩, hx⟩ : ∃ x, l[k]? = some x := ⟨_, List.getElem?_eq_getElem (by have := HN.out; omega)⟩
          obtain ⟨g, rfl, c0, c1, c2, c3, c4, c5⟩ := HC.out k _ hx
          have AA := HA1.out.trans (hadd.out.trans had.out)
          have hgb : g ≠ b8 := by have := cell_lt c0; have := HA1.out.size; have := hadd.out.size; simp only at *; omega
          have hgb2 : b8 ≠ g := Ne.symm hgb
          replace c0 := keep_cell AA c0
          replace c1 := keep_cell AA c1
          replace c2 := keep_cell AA c2
          replace c3 := keep_cell AA c3
          replace c4 := keep_cell AA c4
          replace c5 := keep_cell AA c5
          have hnx := lookR_next (n := z) hx (pk0, z)
          have HNX := Lib.hid hnx
          simp only at c0 c1 c2 c3 c4 c5
          clear hx AA hnx
          by_cases h1 : xa ≤ z
          · by_cases h2 : z ≤ xc
            · go_wp2
              refine ⟨⟨k + 1, xc, ⟨xs, xl, xo, xh⟩, by omega, by go_num, rfl, Lib.hid (by rw [HNX.out, if_pos ⟨h1, h2⟩]), Lib.hid ?_, Lib.hid ?_⟩, by simp [intOf]; omega⟩
              · exact (((hbox.out.set 0 _).set 1 _).set 2 _).set 3 _
              · exact (((had.out.set (p := ⟨b8, 0, none⟩) hb8' _).set (p := ⟨b8, 1, none⟩) hb8' _).set (p := ⟨b8, 2, none⟩) hb8' _).set (p := ⟨b8, 3, none⟩) hb8' _
            · go_wp2
              refine ⟨⟨k + 1, E, ⟨qs, ql, qo, qh⟩, by omega, by go_num, rfl, Lib.hid (by rw [HNX.out, if_neg (by simp only; omega)]; exact hlook.out), hbox, had⟩, by simp [intOf]; omega⟩
          · go_wp2
            refine ⟨⟨k + 1, E, ⟨qs, ql, qo, qh⟩, by omega, by go_num, rfl, Lib.hid (by rw [HNX.out, if_neg (by simp only; omega)]; exact hlook.out), hbox, had⟩, by simp [intOf]; omega⟩
        · have hfull : l.take k = l := List.take_of_length_le (by have := HN.out; omega)
          rw [hfull] at hlook
          obtain ⟨hz3, hsame⟩ := can_look HCAN.out (n := z) (by omega) (by omega)
          have hE := look_end HCAN.out (n := z) (by omega)
          rw [hlook.out] at hz3 hsame hE
          simp only at hz3 hsame hE
          have HSAME := Lib.hid hsame
          have AW := HA1.out.trans (hadd.out.trans had.out)
          have HAW := Lib.hid AW
          clear hsame hfull hlook AW
          by_cases h1 : qs = 1
          · have h1b : (qs != 1) = false := by simp [h1]
            have Hh1 := Lib.hid h1
            clear h1
            by_cases h2 : qo = m
            · have h2b : (qo != m) = false := by simp [h2]
              have Hh2 := Lib.hid h2
              clear h2
              by_cases h3 : qh = 0
              · have h3b : (qh != 0) = false := by simp [h3]
                have Hh3 := Lib.hid h3
                clear h3
                go_wp2
                refine ⟨⟨E + 1, rfl, by omega, by omega, Lib.hid (fun j j1 j2 => ?_), Lib.hid (hadd.out.trans had.out)⟩, by simp [intOf]; omega⟩
                by_cases hj : j < z
                · exact hpre.out j j1 hj
                · rw [HSAME.out j (by omega) (by omega)]; simp [rfFree, Hh1.out, Hh2.out, Hh3.out]
              · have h3b : (qh != 0) = true := by simp [h3]
                have Hh3 := Lib.hid h3
                clear h3
                go_wp2
                go_ret
                exact ⟨10, rfl, Or.inr ⟨z, by omega, by omega, by rw [HSAME.out z (by omega) (by omega)]; simp [rfFree, Hh1.out, Hh2.out, Hh3.out], by omega, hpre.out⟩, HAW.out⟩
            · have h2b : (qo != m) = true := by simp [h2]
              have Hh2 := Lib.hid h2
              clear h2
              go_wp2
              go_ret
              exact ⟨8, rfl, Or.inr ⟨z, by omega, by omega, by rw [HSAME.out z (by omega) (by omega)]; simp [rfFree, Hh1.out, Hh2.out], by omega, hpre.out⟩, HAW.out⟩
          · have h1b : (qs != 1) = true := by simp [h1]
            have Hh1 := Lib.hid h1
            clear h1
            go_wp2
            go_ret
            exact ⟨4, rfl, Or.inr ⟨z, by omega, by omega, by rw [HSAME.out z (by omega) (by omega)]; simp [rfFree, Hh1.out], by omega, hpre.out⟩, HAW.out⟩
    · go_wp2
      go_ret
      exact ⟨0, rfl, Or.inl ⟨rfl, fun j j1 j2 => hpre.out j j1 (by omega)⟩, HA1.out.trans hadd.out⟩

set_option maxRecDepth 100000 in
set_option maxHeartbeats 2000000 in
theorem held_R (v : Value) (l : List Piece) (f : Int → Pk) (a n m : Int) (w : World) (hL : RunsAt w v l) (hC : Can f l 1000001) (ha : 1 ≤ a) (hn : 1 ≤ n) (hb : a + n - 1 ≤ 1000000) :
    Calls Try.prog 97 #[v, .agg #[.int .i64 a, .int .i64 n], .int .i64 m] w (ErrGot (rfHeld m) f a n w) := by
  obtain ⟨p, cap, rfl, hc⟩ := hL
  have HC := Lib.hid hc
  have HCAN := Lib.hid hC
  obtain ⟨N, hN⟩ : ∃ N, N = l.length := ⟨_, rfl⟩
  have hlen : N ≤ 1000000 := by rw [hN]; exact hC.len
  rw [← hN]
  have HN := Lib.hid hN
  clear hc hC hN
  go_enter Try.func97, Try.ntmps97
  go_upto_region 1 with fail
  obtain ⟨b4, hb4⟩ : ∃ k, k = w.heap.size := ⟨_, rfl⟩
  obtain ⟨W1, hW1⟩ : ∃ V, V = w.alloc (.cells #[.int .i64 a, .int .i64 n] 32) := ⟨_, rfl⟩
  have A1 : Adds w W1 := by rw [hW1]; exact (Adds.refl w).alloc _
  have X4 : Box W1 b4 #[.int .i64 a, .int .i64 n] 32 := by rw [hW1, hb4]; exact Box.new _ _ _
  rw [← hW1, ← hb4]
  have HA1 := Lib.hid A1
  have HX4 := Lib.hid X4
  have x0 := X4.cell 0
  have x1 := X4.cell 1
  simp only [List.getElem?_toArray, List.getElem?_cons_zero, List.getElem?_cons_succ] at x0 x1
  clear hW1 hb4 A1 X4
  go_wp2_with fail
  go_loopw [7] (fun v7 wr => ∃ z : Int, v7 = .int .i64 z ∧ a ≤ z ∧ z ≤ 1000001 ∧ Hid (∀ j, a ≤ j → j < z → rfHeld m (f j) = 0) ∧ Hid (Adds W1 wr)) (fun v7 _ => (a + n - intOf v7).toNat)
  case atStart => exact ⟨a, rfl, by omega, by omega, Lib.hid (fun j j1 j2 => by omega), Lib.hid (Adds.refl _)⟩
  case round =>
    obtain ⟨z, rfl, hz1, hz2, hpre, hadd⟩ := hrel
    replace x0 := keep_cell hadd.out x0
    replace x1 := keep_cell hadd.out x1
    by_cases hlt : z < a + n
    · have hlt' : z < a + n := hlt
      go_upto_region 4 with fail
      obtain ⟨b8, hb8⟩ : ∃ k, k = wr.heap.size := ⟨_, rfl⟩
      obtain ⟨Wp, hWp⟩ : ∃ V, V = wr.alloc (.cells #[.int .i64 0, .int .i64 0, .int .i64 0, .int .i64 0] 61) := ⟨_, rfl⟩
      have Ap : Adds wr Wp := by rw [hWp]; exact (Adds.refl wr).alloc _
      have X8 : Box Wp b8 #[.int .i64 0, .int .i64 0, .int .i64 0, .int .i64 0] 61 := by rw [hWp, hb8]; exact Box.new _ _ _
      have hb8' : wr.heap.size ≤ b8 := by omega
      rw [← hWp, ← hb8]
      have HAp := Lib.hid Ap
      have HX8 := Lib.hid X8
      clear hWp hb8 Ap X8
      go_wp2_with fail
      go_loopw [9, 10] (fun v9 v10 wx => ∃ (k : Nat) (E : Int) (q : Pk), k ≤ N ∧ v10 = .int .i64 k ∧ v9 = .int .i64 E ∧ Hid (lookR z (l.take k) (pk0, z) = (q, E)) ∧ Hid (Box wx b8 #[.int .i64 q.st, .int .i64 q.lot, .int .i64 q.own, .int .i64 q.hold] 61) ∧ Hid (Adds wr wx)) (fun _ v10 _ => N - (intOf v10).toNat)
      case atStart => exact ⟨0, z, pk0, by omega, rfl, rfl, Lib.hid rfl, HX8, HAp⟩
      case round =>
        obtain ⟨k, E, ⟨qs, ql, qo, qh⟩, hk, rfl, rfl, hlook, hbox, had⟩ := hrel
        have d0 := hbox.out.cell 0
        have d1 := hbox.out.cell 1
        have d2 := hbox.out.cell 2
        have d3 := hbox.out.cell 3
        have g0 := hbox.out.free 0
        have g1 := hbox.out.free 1
        have g2 := hbox.out.free 2
        have g3 := hbox.out.free 3
        simp only [List.getElem?_toArray, List.getElem?_cons_zero, List.getElem?_cons_succ] at d0 d1 d2 d3
        replace x0 := keep_cell had.out x0
        replace x1 := keep_cell had.out x1
        by_cases hkN : k < N
        · obtain ⟨⟨xa, xc, xs, xl, xo, xh⟩, hx⟩ : ∃ x, l[k]? = some x := ⟨_, List.getElem?_eq_getElem (by have := HN.out; omega)⟩
          obtain ⟨g, rfl, c0, c1, c2, c3, c4, c5⟩ := HC.out k _ hx
          have AA := HA1.out.trans (hadd.out.trans had.out)
          have hgb : g ≠ b8 := by have := cell_lt c0; have := HA1.out.size; have := hadd.out.size; simp only at *; omega
          have hgb2 : b8 ≠ g := Ne.symm hgb
          replace c0 := keep_cell AA c0
          replace c1 := keep_cell AA c1
          replace c2 := keep_cell AA c2
          replace c3 := keep_cell AA c3
          replace c4 := keep_cell AA c4
          replace c5 := keep_cell AA c5
          have hnx := lookR_next (n := z) hx (pk0, z)
          have HNX := Lib.hid hnx
          simp only at c0 c1 c2 c3 c4 c5
          clear hx AA hnx
          by_cases h1 : xa ≤ z
          · by_cases h2 : z ≤ xc
            · go_wp2
              refine ⟨⟨k + 1, xc, ⟨xs, xl, xo, xh⟩, by omega, by go_num, rfl, Lib.hid (by rw [HNX.out, if_pos ⟨h1, h2⟩]), Lib.hid ?_, Lib.hid ?_⟩, by simp [intOf]; omega⟩
              · exact (((hbox.out.set 0 _).set 1 _).set 2 _).set 3 _
              · exact (((had.out.set (p := ⟨b8, 0, none⟩) hb8' _).set (p := ⟨b8, 1, none⟩) hb8' _).set (p := ⟨b8, 2, none⟩) hb8' _).set (p := ⟨b8, 3, none⟩) hb8' _
            · go_wp2
              refine ⟨⟨k + 1, E, ⟨qs, ql, qo, qh⟩, by omega, by go_num, rfl, Lib.hid (by rw [HNX.out, if_neg (by simp only; omega)]; exact hlook.out), hbox, had⟩, by simp [intOf]; omega⟩
          · go_wp2
            refine ⟨⟨k + 1, E, ⟨qs, ql, qo, qh⟩, by omega, by go_num, rfl, Lib.hid (by rw [HNX.out, if_neg (by simp only; omega)]; exact hlook.out), hbox, had⟩, by simp [intOf]; omega⟩
        · have hfull : l.take k = l := List.take_of_length_le (by have := HN.out; omega)
          rw [hfull] at hlook
          obtain ⟨hz3, hsame⟩ := can_look HCAN.out (n := z) (by omega) (by omega)
          have hE := look_end HCAN.out (n := z) (by omega)
          rw [hlook.out] at hz3 hsame hE
          simp only at hz3 hsame hE
          have HSAME := Lib.hid hsame
          have AW := HA1.out.trans (hadd.out.trans had.out)
          have HAW := Lib.hid AW
          clear hsame hfull hlook AW
          by_cases h1 : qs = 1
          · have h1b : (qs != 1) = false := by simp [h1]
            have Hh1 := Lib.hid h1
            clear h1
            by_cases h3 : qh = m
            · have h3b : (qh != m) = false := by simp [h3]
              have Hh3 := Lib.hid h3
              clear h3
              go_wp2
              refine ⟨⟨E + 1, rfl, by omega, by omega, Lib.hid (fun j j1 j2 => ?_), Lib.hid (hadd.out.trans had.out)⟩, by simp [intOf]; omega⟩
              by_cases hj : j < z
              · exact hpre.out j j1 hj
              · rw [HSAME.out j (by omega) (by omega)]; simp [rfHeld, Hh1.out, Hh3.out]
            · have h3b : (qh != m) = true := by simp [h3]
              have Hh3 := Lib.hid h3
              clear h3
              go_wp2
              go_ret
              exact ⟨10, rfl, Or.inr ⟨z, by omega, by omega, by rw [HSAME.out z (by omega) (by omega)]; simp [rfHeld, Hh1.out, Hh3.out], by omega, hpre.out⟩, HAW.out⟩
          · have h1b : (qs != 1) = true := by simp [h1]
            have Hh1 := Lib.hid h1
            clear h1
            go_wp2
            go_ret
            exact ⟨4, rfl, Or.inr ⟨z, by omega, by omega, by rw [HSAME.out z (by omega) (by omega)]; simp [rfHeld, Hh1.out], by omega, hpre.out⟩, HAW.out⟩
    · go_wp2
      go_ret
      exact ⟨0, rfl, Or.inl ⟨rfl, fun j j1 j2 => hpre.out j j1 (by omega)⟩, HA1.out.trans hadd.out⟩
end Go.Proofs.Ytofaioabjkcaiaa
