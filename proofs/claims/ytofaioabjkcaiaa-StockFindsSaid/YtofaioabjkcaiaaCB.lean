/- Version, At and edge of the reference. -/
import Derived.Test.YtofaioabjkcaiaaBV
import Derived.BigQuiet
namespace Go.Proofs.Ytofaioabjkcaiaa
open Go.RowKit

set_option maxHeartbeats 1000000 in
theorem Version_ok (x : Value) (Ls : List (List Piece)) (ver : Nat) (L : List Piece) (w : World) (h : RefAt w x Ls) (hv : Ls[ver]? = some L) :
    Calls Try.prog 29 #[x, .int .i64 ver] w fun e w' => ∃ u, e = .returned (.tuple #[u, .bool true]) ∧ RunsAt w' u L ∧ Adds w w' := by
  obtain ⟨p, cap, vs, rfl, h1, h2, h3, h4, h5⟩ := h
  have hlt : ver < vs.length := by have := (List.getElem?_eq_some_iff.1 hv).1; omega
  have hu : vs[ver]? = some (vs[ver]'hlt) := List.getElem?_eq_getElem _
  obtain ⟨g, rfl, hc⟩ := h4 ver _ hu
  have h6 := h5 ver _ _ hu hv
  have H6 := Lib.hid h6
  generalize vs[ver]'hlt = u at *
  generalize vs.length = n at *
  clear h4 h5 h6 hu hv h1
  go_enter Try.func29, Try.ntmps29
  go_upto_region 1 with fail
  obtain ⟨W1, hW1⟩ : ∃ V, V = w.alloc (.cells #[.slice (some ⟨g, 0, none⟩) n cap] 27) := ⟨_, rfl⟩
  have A1 : Adds w W1 := by rw [hW1]; exact (Adds.refl w).alloc _
  have x0 : W1.cell? ⟨w.heap.size, 0, none⟩ = some (.slice (some ⟨g, 0, none⟩) n cap) := by rw [hW1]; exact (Box.new w _ _).cell 0
  have hc1 := keep_cell A1 hc
  rw [← hW1]
  have HA1 := Lib.hid A1
  clear hW1 A1 hc
  have hn1 : ((ver : Int) < (n : Int)) := by omega
  go_wp2
  go_ret2
  exact ⟨u, rfl, H6.out.later HA1.out, HA1.out⟩

set_option maxHeartbeats 1000000 in
theorem Version_none (x : Value) (Ls : List (List Piece)) (ver : Int) (w : World) (h : RefAt w x Ls) (hv : ver < 0 ∨ (Ls.length : Int) ≤ ver) :
    Calls Try.prog 29 #[x, .int .i64 ver] w fun e w' => e = .returned (.tuple #[.slice none 0 0, .bool false]) ∧ Adds w w' := by
  obtain ⟨p, cap, vs, rfl, h1, h2, h3, h4, h5⟩ := h
  rw [← h1] at hv
  generalize vs.length = n at *
  clear h4 h5 h1
  by_cases h0 : ver < 0
  · go_enter Try.func29, Try.ntmps29
    go_wp2
    go_ret2
    exact ⟨rfl, (Adds.refl w).alloc _⟩
  · have hv2 : (n : Int) ≤ ver := by omega
    go_enter Try.func29, Try.ntmps29
    go_wp2
    go_ret2
    exact ⟨rfl, (Adds.refl w).alloc _⟩

set_option maxRecDepth 100000 in
set_option maxHeartbeats 1000000 in
theorem At_R (v : Value) (l : List Piece) (n : Int) (f : Int → Pk) (w : World) (hL : RunsAt w v l) (hC : Can f l 1000001) (h1 : 1 ≤ n) (h2 : n ≤ 1000000) :
    Calls Try.prog 52 #[v, .int .i64 n] w fun e w' => e = .returned (f n).val ∧ Adds w w' := by
  obtain ⟨p, cap, rfl, hc⟩ := hL
  have HC := Lib.hid hc
  have HCAN := Lib.hid hC
  obtain ⟨N, hN⟩ : ∃ N, N = l.length := ⟨_, rfl⟩
  have hlen : N ≤ 1000000 := by rw [hN]; exact hC.len
  rw [← hN]
  have HN := Lib.hid hN
  clear hc hC hN
  go_enter Try.func52, Try.ntmps52
  go_upto_region 1 with fail
  obtain ⟨b4, hb4⟩ : ∃ k, k = w.heap.size := ⟨_, rfl⟩
  obtain ⟨W1, hW1⟩ : ∃ V, V = w.alloc (.cells #[.int .i64 0, .int .i64 0, .int .i64 0, .int .i64 0] 61) := ⟨_, rfl⟩
  have A1 : Adds w W1 := by rw [hW1]; exact (Adds.refl w).alloc _
  have X4 : Box W1 b4 #[.int .i64 0, .int .i64 0, .int .i64 0, .int .i64 0] 61 := by rw [hW1, hb4]; exact Box.new _ _ _
  have hw4 : w.heap.size ≤ b4 := by omega
  rw [← hW1, ← hb4]
  have HA1 := Lib.hid A1
  have x0 := X4.cell 0
  have x1 := X4.cell 1
  have x2 := X4.cell 2
  have x3 := X4.cell 3
  have f0 := X4.free 0
  have f1 := X4.free 1
  have f2 := X4.free 2
  have f3 := X4.free 3
  simp only [List.getElem?_toArray, List.getElem?_cons_zero, List.getElem?_cons_succ] at x0 x1 x2 x3
  clear hW1 hb4 A1 X4
  go_wp2_with fail
  go_loopw [5] (fun v5 wr => ∃ k : Nat, k ≤ N ∧ v5 = .int .i64 k ∧ Hid (∀ y ∈ l.take k, ¬ (y.1 ≤ n ∧ n ≤ y.2.1)) ∧ W1 = wr) (fun v5 _ => N - (intOf v5).toNat)
  case atStart => exact ⟨0, by omega, rfl, Lib.hid (fun y hy => by simp at hy), rfl⟩
  case round =>
    obtain ⟨k, hk, rfl, hmiss, rfl⟩ := hrel
    by_cases hlt : k < N
    · obtain ⟨⟨xa, xc, xs, xl, xo, xh⟩, hx⟩ : ∃ x, l[k]? = some x := ⟨_, List.getElem?_eq_getElem (by have := HN.out; omega)⟩
      obtain ⟨g, rfl, c0, c1, c2, c3, c4, c5⟩ := HC.out k _ hx
      have hgb : g ≠ b4 := by have := cell_lt c0; omega
      have hgb2 : b4 ≠ g := Ne.symm hgb
      replace c0 := keep_cell HA1.out c0
      replace c1 := keep_cell HA1.out c1
      replace c2 := keep_cell HA1.out c2
      replace c3 := keep_cell HA1.out c3
      replace c4 := keep_cell HA1.out c4
      replace c5 := keep_cell HA1.out c5
      have HX := Lib.hid hx
      simp only at c0 c1 c2 c3 c4 c5
      clear hx
      by_cases h3 : xa ≤ n
      · by_cases h4 : n ≤ xc
        · go_wp2
          have hf : f n = ⟨xs, xl, xo, xh⟩ := (HCAN.out.one _ (List.mem_of_getElem? HX.out)).2.2.2.2 n h3 h4
          refine bodyPost_ret (v := (f n).val) ?_ rfl ⟨rfl, ?_⟩
          · rw [hf]; simp [results, Try.results52, go_sem, x0, x1, x2, x3, Pk.val]
          · exact (((HA1.out.set (p := ⟨b4, 0, none⟩) hw4 _).set (p := ⟨b4, 1, none⟩) hw4 _).set (p := ⟨b4, 2, none⟩) hw4 _).set (p := ⟨b4, 3, none⟩) hw4 _
        · go_wp2
          refine ⟨⟨k + 1, by omega, by go_num, Lib.hid (fun y hy => ?_), by trivial⟩, by simp [intOf]; omega⟩
          rw [take_next HX.out] at hy
          rcases List.mem_append.1 hy with hy | hy
          · exact hmiss.out y hy
          · rw [List.mem_singleton.1 hy]; simp only; omega
      · go_wp2
        refine ⟨⟨k + 1, by omega, by go_num, Lib.hid (fun y hy => ?_), by trivial⟩, by simp [intOf]; omega⟩
        rw [take_next HX.out] at hy
        rcases List.mem_append.1 hy with hy | hy
        · exact hmiss.out y hy
        · rw [List.mem_singleton.1 hy]; simp only; omega
    · have hfull : l.take k = l := List.take_of_length_le (by have := HN.out; omega)
      rw [hfull] at hmiss
      have hf : f n = pk0 := by
        rcases HCAN.out.all n h1 (by omega) with h | ⟨y, hy, h⟩
        · exact h
        · exact (hmiss.out y hy h).elim
      have HF := Lib.hid hf
      clear hf hfull
      go_wp2
      refine bodyPost_ret (v := (f n).val) ?_ rfl ⟨rfl, ?_⟩
      · rw [HF.out]; simp [results, Try.results52, go_sem, x0, x1, x2, x3, Pk.val, pk0]
      · exact (((HA1.out.set (p := ⟨b4, 0, none⟩) hw4 _).set (p := ⟨b4, 1, none⟩) hw4 _).set (p := ⟨b4, 2, none⟩) hw4 _).set (p := ⟨b4, 3, none⟩) hw4 _

/-- One run looked at for the next end. -/
def edgeStep (n : Int) (o : Int) (x : Piece) : Int :=
  let o1 := if n < x.1 then min o x.1 else o
  if n < x.2.1 + 1 then min o1 (x.2.1 + 1) else o1

/-- The next pocket at which a run begins or that follows one. -/
def edgeT (l : List Piece) (n : Int) : Int := l.foldl (edgeStep n) 1000001

theorem edge_fold {n : Int} : ∀ {l : List Piece} {o : Int}, n < o → n < l.foldl (edgeStep n) o ∧ l.foldl (edgeStep n) o ≤ o ∧ ∀ x ∈ l, (n < x.1 → l.foldl (edgeStep n) o ≤ x.1) ∧ (n < x.2.1 + 1 → l.foldl (edgeStep n) o ≤ x.2.1 + 1)
  | [], o, h => ⟨h, Int.le_refl _, fun x hx => by simp at hx⟩
  | x :: l, o, h => by
    have hs : n < edgeStep n o x ∧ edgeStep n o x ≤ o ∧ (n < x.1 → edgeStep n o x ≤ x.1) ∧ (n < x.2.1 + 1 → edgeStep n o x ≤ x.2.1 + 1) := by
      unfold edgeStep
      simp only
      split <;> split <;> omega
    obtain ⟨i1, i2, i3⟩ := edge_fold (l := l) hs.1
    rw [List.foldl_cons]
    refine ⟨i1, by omega, fun y hy => ?_⟩
    rcases List.mem_cons.1 hy with rfl | hy
    · exact ⟨fun h => by have := hs.2.2.1 h; omega, fun h => by have := hs.2.2.2 h; omega⟩
    · exact i3 y hy

theorem edge_same {f : Int → Pk} {l : List Piece} {n : Int} (h : Can f l 1000001) (h1 : 1 ≤ n) (h2 : n ≤ 1000000) : n < edgeT l n ∧ edgeT l n ≤ 1000001 ∧ ∀ k, n ≤ k → k < edgeT l n → f k = f n := by
  obtain ⟨e1, e2, e3⟩ := edge_fold (n := n) (l := l) (o := 1000001) (by omega)
  have e4 : edgeT l n ≤ 1000001 := e2
  refine ⟨e1, e2, fun k k1 k2 => ?_⟩
  rcases h.all k (by omega) (by omega) with hk | ⟨x, hx, x1, x2⟩
  · rcases h.all n h1 (by omega) with hn | ⟨y, hy, y1, y2⟩
    · rw [hk, hn]
    · have := (e3 y hy).2 (by omega)
      have k2' : k < l.foldl (edgeStep n) 1000001 := k2
      obtain ⟨_, _, _, _, hc⟩ := h.one y hy
      rw [hc k (by omega) (by omega), hc n y1 y2]
  · obtain ⟨_, _, _, _, hc⟩ := h.one x hx
    by_cases hn : n < x.1
    · have := (e3 x hx).1 hn
      have k2' : k < l.foldl (edgeStep n) 1000001 := k2
      omega
    · rw [hc k x1 x2, hc n (by omega) (by omega)]

theorem edge_next {n : Int} {l : List Piece} {k : Nat} {x : Piece} (h : l[k]? = some x) : edgeT (l.take (k + 1)) n = edgeStep n (edgeT (l.take k) n) x := by
  unfold edgeT
  rw [take_next h, List.foldl_append]
  rfl


set_option maxRecDepth 100000 in
set_option maxHeartbeats 2000000 in
theorem edge_R (v : Value) (l : List Piece) (n : Int) (w : World) (hL : RunsAt w v l) (hb : ∀ x ∈ l, 1 ≤ x.1 ∧ x.1 ≤ x.2.1 ∧ x.2.1 ≤ 1000000) (hlen : l.length ≤ 1000000) (h1 : 1 ≤ n) (h2 : n ≤ 1000000) :
    Calls Try.prog 72 #[v, .int .i64 n] w fun e w' => e = .returned (.int .i64 (edgeT l n)) ∧ Adds w w' := by
  obtain ⟨p, cap, rfl, hc⟩ := hL
  have HC := Lib.hid hc
  have HBD := Lib.hid hb
  obtain ⟨N, hN⟩ : ∃ N, N = l.length := ⟨_, rfl⟩
  rw [← hN] at hlen ⊢
  have HN := Lib.hid hN
  clear hc hb hN
  go_enter Try.func72, Try.ntmps72
  go_wp2_with fail
  go_loopw [5, 6] (fun v5 v6 wr => ∃ (k : Nat) (o : Int), k ≤ N ∧ v6 = .int .i64 k ∧ v5 = .int .i64 o ∧ 1 ≤ o ∧ o ≤ 1000001 ∧ Hid (o = edgeT (l.take k) n) ∧ w = wr) (fun _ v6 _ => N - (intOf v6).toNat)
  case atStart => exact ⟨0, 1000001, by omega, rfl, rfl, by omega, by omega, Lib.hid rfl, rfl⟩
  case round =>
    obtain ⟨k, o, hk, rfl, rfl, ho1, ho2, hoe, rfl⟩ := hrel
    by_cases hlt : k < N
    · obtain ⟨⟨xa, xc, xs, xl, xo, xh⟩, hx⟩ : ∃ x, l[k]? = some x := ⟨_, List.getElem?_eq_getElem (by have := HN.out; omega)⟩
      obtain ⟨g, rfl, c0, c1, _⟩ := HC.out k _ hx
      have HX := Lib.hid hx
      obtain ⟨b1, b2, b3⟩ := HBD.out _ (List.mem_of_getElem? hx)
      simp only at c0 c1 b1 b2 b3
      have HE : Hid (∀ o1, (if n < xc + 1 then min (if n < xa then min o xa else o) (xc + 1) else (if n < xa then min o xa else o)) = o1 → o1 = edgeT (l.take (k + 1)) n) := Lib.hid (fun o1 h => by rw [edge_next HX.out, ← hoe.out, ← h]; rfl)
      clear hx
      by_cases q1 : n < xa
      · by_cases q2 : n < xc + 1
        · go_wp2
          all_goals
            refine ⟨⟨k + 1, _, by omega, by go_num, rfl, by omega, by omega, Lib.hid (HE.out _ ?_), by trivial⟩, by simp [intOf]; omega⟩
            simp only [q1, q2, if_true]
            omega
        · exfalso; omega
      · by_cases q2 : n < xc + 1
        · go_wp2
          all_goals
            refine ⟨⟨k + 1, _, by omega, by go_num, rfl, by omega, by omega, Lib.hid (HE.out _ ?_), by trivial⟩, by simp [intOf]; omega⟩
            simp only [q1, q2, if_true, if_false]
            omega
        · go_wp2
          all_goals
            refine ⟨⟨k + 1, _, by omega, by go_num, rfl, by omega, by omega, Lib.hid (HE.out _ ?_), by trivial⟩, by simp [intOf]; omega⟩
            simp only [q1, q2, if_false]
    · have hfull : l.take k = l := List.take_of_length_le (by have := HN.out; omega)
      rw [hfull] at hoe
      clear hfull
      go_wp2
      go_ret
      exact ⟨ret_int hoe.out, Adds.refl _⟩

end Go.Proofs.Ytofaioabjkcaiaa
