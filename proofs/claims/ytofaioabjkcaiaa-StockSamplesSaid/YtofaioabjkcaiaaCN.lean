/- The reference's holds of a member, and how many pockets they are. -/
import Derived.Test.YtofaioabjkcaiaaCJ
import Derived.Test.YtofaioabjkcaiaaBV
namespace Go.Proofs.Ytofaioabjkcaiaa
open Go.RowKit

theorem memb_yes {wh : Pk → Int} {m : Int} {L : List Piece} {k : Nat} {x : Piece} (hx : L[k]? = some x) (h : x.2.2.st = 1 ∧ wh x.2.2 = m) : memb wh m (L.take (k + 1)) = memb wh m (L.take k) ++ [x] := by
  rw [take_next hx]; unfold memb; rw [List.filter_append]; simp [h]

theorem memb_no {wh : Pk → Int} {m : Int} {L : List Piece} {k : Nat} {x : Piece} (hx : L[k]? = some x) (h : ¬ (x.2.2.st = 1 ∧ wh x.2.2 = m)) : memb wh m (L.take (k + 1)) = memb wh m (L.take k) := by
  rw [take_next hx]; unfold memb; rw [List.filter_append]; simp only [List.filter_cons, List.filter_nil, decide_eq_true_eq, if_neg h, List.append_nil]

theorem memb_len {wh : Pk → Int} {m : Int} {L : List Piece} : (memb wh m L).length ≤ L.length := List.length_filter_le _ _

set_option maxRecDepth 100000 in
set_option maxHeartbeats 2000000 in
theorem RHolds_any (v : Value) (L : List Piece) (m : Int) (w : World) (hL : RunsAt w v L) (hlen : L.length ≤ 1000000) :
    Calls Try.prog 55 #[v, .int .i64 m] w fun e w' => ∃ u, e = .returned u ∧ RunRow w' w.heap.size u (memb (fun p => p.own) m L) ∧ Adds w w' := by
  obtain ⟨p, cap, rfl, hc⟩ := hL
  have HC := Lib.hid hc
  clear hc
  obtain ⟨n, hn⟩ : ∃ n, n = L.length := ⟨_, rfl⟩
  rw [← hn] at hlen ⊢
  have HNL := Lib.hid hn
  clear hn
  obtain ⟨j0, hj, hj0, hj1, hj2⟩ := info_parts info63
  have HJ := Lib.hid hj
  have HJ0 := Lib.hid hj0
  have HJ1 := Lib.hid hj1
  have HJ2 := Lib.hid hj2
  clear hj hj0 hj1 hj2
  go_enter Try.func55, Try.ntmps55
  go_wp2_with fail
  go_loopw [5, 6] (fun v5 v6 wr => ∃ (k : Nat) (u : Value), k ≤ n ∧ v6 = .int .i64 k ∧ u = v5 ∧ Hid (RunRow wr w.heap.size u (memb (fun p => p.own) m (L.take k))) ∧ Hid (Adds w wr)) (fun _ v6 _ => n - (intOf v6).toNat)
  case atStart => exact ⟨0, _, by omega, rfl, rfl, Lib.hid (World.ownsRow_nil _ _ _ _), Lib.hid (Adds.refl _)⟩
  case round =>
    obtain ⟨k, u, hk, rfl, rfl, hrow, hadd⟩ := hrel
    by_cases hlt : k < n
    · obtain ⟨x, hx⟩ : ∃ x, L[k]? = some x := ⟨_, List.getElem?_eq_getElem (by have := HNL.out; omega)⟩
      obtain ⟨g, rfl, c0, c1, c2, c3, c4, c5⟩ := HC.out k x hx
      have HX := Lib.hid hx
      clear hx
      replace c0 := keep_cell hadd.out c0
      replace c1 := keep_cell hadd.out c1
      replace c2 := keep_cell hadd.out c2
      replace c3 := keep_cell hadd.out c3
      replace c4 := keep_cell hadd.out c4
      replace c5 := keep_cell hadd.out c5
      obtain ⟨xa, xc, xs, xl, xo, xh⟩ := x
      simp only at c0 c1 c2 c3 c4 c5
      have hml : (memb (fun p => p.own) m (L.take k)).length ≤ 1000000 := by have h1 := memb_len (wh := fun p => p.own) (m := m) (L := L.take k); have h2 := List.length_take_le k L; omega
      have HML := Lib.hid hml
      clear hml
      have hww := hadd.out.size
      by_cases h1 : xs = 1
      · subst h1
        by_cases h2 : xo = m
        · subst h2
          have hb := beq_self_eq_true xo
          obtain ⟨M, hM⟩ : ∃ M, M = memb (fun p => p.own) xo (L.take k) := ⟨_, rfl⟩
          rw [← hM] at hrow HML
          have HM := Lib.hid hM
          clear hM
          go_wp2_with (at_builtin; ((refine wpList_append_lies _ rfl _ _ 37 rfl w.heap.size 63 j0 (.agg #[.int .i64 0, .int .i64 0, .int .i64 0, .int .i64 0, .int .i64 0, .int .i64 0]) 6 48 Try.underlying37 HJ.out HJ0.out HJ1.out HJ2.out rfl (by decide) u M.length (M.flatMap runCells) rfl (hrow.out.later ((Adds.refl wr).alloc _)) ⟨wr.heap.size, 0, none⟩ 1 1 (runCells (xa, xc, ⟨1, xl, xo, xh⟩)) rfl rfl (World.news_of_block (new_at rfl)) (by simp [runCells, Value.oneCell']) (by omega) (by have := HML.out; unfold maxLen; omega) (by have := HML.out; omega) (by simp; omega) _ rfl ?_); intro g9 c9 Vc hown hgrow hgat hglt; have HOWN := Lib.hid hown; have HGR := Lib.hid hgrow; have HGA := Lib.hid hgat; clear hown hgrow hgat))
          refine ⟨⟨k + 1, _, by omega, by go_num, rfl, Lib.hid ?_, Lib.hid ?_⟩, by simp [intOf]; omega⟩
          · have h := HOWN.out
            rw [show runCells (xa, xc, ⟨1, xl, xo, xh⟩) = [(xa, xc, (⟨1, xl, xo, xh⟩ : Pk))].flatMap runCells by simp, ← List.flatMap_append] at h
            rw [memb_yes HX.out ⟨rfl, rfl⟩, ← HM.out]
            exact row_of h (by simp)
          · exact adds_touch2 hadd.out (row_grow (n := M.length + 1) (cap := c9) ((Adds.refl wr).alloc _) HGR.out HGA.out).1 (fun k hk => (hrow.out.lt k hk).1)
        · have hb : (xo == m) = false := beq_eq_false_iff_ne.2 h2
          go_wp2_with fail
          exact ⟨⟨k + 1, _, by omega, by go_num, rfl, by rw [memb_no HX.out (fun h => h2 h.2)]; exact hrow, hadd⟩, by simp [intOf]; omega⟩
      · have hb : (xs == 1) = false := beq_eq_false_iff_ne.2 h1
        go_wp2_with fail
        exact ⟨⟨k + 1, _, by omega, by go_num, rfl, by rw [memb_no HX.out (fun h => h1 h.1)]; exact hrow, hadd⟩, by simp [intOf]; omega⟩
    · go_wp2_with fail
      go_ret
      have e : L.take k = L := List.take_of_length_le (by have := HNL.out; omega)
      have h := hrow.out
      rw [e] at h
      exact ⟨_, rfl, h, hadd.out⟩

set_option maxRecDepth 100000 in
set_option maxHeartbeats 2000000 in
theorem RPledged_any (v : Value) (L : List Piece) (m : Int) (w : World) (hL : RunsAt w v L) (hlen : L.length ≤ 1000000) :
    Calls Try.prog 56 #[v, .int .i64 m] w fun e w' => ∃ u, e = .returned u ∧ RunRow w' w.heap.size u (memb (fun p => p.hold) m L) ∧ Adds w w' := by
  obtain ⟨p, cap, rfl, hc⟩ := hL
  have HC := Lib.hid hc
  clear hc
  obtain ⟨n, hn⟩ : ∃ n, n = L.length := ⟨_, rfl⟩
  rw [← hn] at hlen ⊢
  have HNL := Lib.hid hn
  clear hn
  obtain ⟨j0, hj, hj0, hj1, hj2⟩ := info_parts info63
  have HJ := Lib.hid hj
  have HJ0 := Lib.hid hj0
  have HJ1 := Lib.hid hj1
  have HJ2 := Lib.hid hj2
  clear hj hj0 hj1 hj2
  go_enter Try.func56, Try.ntmps56
  go_wp2_with fail
  go_loopw [5, 6] (fun v5 v6 wr => ∃ (k : Nat) (u : Value), k ≤ n ∧ v6 = .int .i64 k ∧ u = v5 ∧ Hid (RunRow wr w.heap.size u (memb (fun p => p.hold) m (L.take k))) ∧ Hid (Adds w wr)) (fun _ v6 _ => n - (intOf v6).toNat)
  case atStart => exact ⟨0, _, by omega, rfl, rfl, Lib.hid (World.ownsRow_nil _ _ _ _), Lib.hid (Adds.refl _)⟩
  case round =>
    obtain ⟨k, u, hk, rfl, rfl, hrow, hadd⟩ := hrel
    by_cases hlt : k < n
    · obtain ⟨x, hx⟩ : ∃ x, L[k]? = some x := ⟨_, List.getElem?_eq_getElem (by have := HNL.out; omega)⟩
      obtain ⟨g, rfl, c0, c1, c2, c3, c4, c5⟩ := HC.out k x hx
      have HX := Lib.hid hx
      clear hx
      replace c0 := keep_cell hadd.out c0
      replace c1 := keep_cell hadd.out c1
      replace c2 := keep_cell hadd.out c2
      replace c3 := keep_cell hadd.out c3
      replace c4 := keep_cell hadd.out c4
      replace c5 := keep_cell hadd.out c5
      obtain ⟨xa, xc, xs, xl, xo, xh⟩ := x
      simp only at c0 c1 c2 c3 c4 c5
      have hml : (memb (fun p => p.hold) m (L.take k)).length ≤ 1000000 := by have h1 := memb_len (wh := fun p => p.hold) (m := m) (L := L.take k); have h2 := List.length_take_le k L; omega
      have HML := Lib.hid hml
      clear hml
      have hww := hadd.out.size
      by_cases h1 : xs = 1
      · subst h1
        by_cases h2 : xh = m
        · subst h2
          have hb := beq_self_eq_true xh
          obtain ⟨M, hM⟩ : ∃ M, M = memb (fun p => p.hold) xh (L.take k) := ⟨_, rfl⟩
          rw [← hM] at hrow HML
          have HM := Lib.hid hM
          clear hM
          go_wp2_with (at_builtin; ((refine wpList_append_lies _ rfl _ _ 37 rfl w.heap.size 63 j0 (.agg #[.int .i64 0, .int .i64 0, .int .i64 0, .int .i64 0, .int .i64 0, .int .i64 0]) 6 48 Try.underlying37 HJ.out HJ0.out HJ1.out HJ2.out rfl (by decide) u M.length (M.flatMap runCells) rfl (hrow.out.later ((Adds.refl wr).alloc _)) ⟨wr.heap.size, 0, none⟩ 1 1 (runCells (xa, xc, ⟨1, xl, xo, xh⟩)) rfl rfl (World.news_of_block (new_at rfl)) (by simp [runCells, Value.oneCell']) (by omega) (by have := HML.out; unfold maxLen; omega) (by have := HML.out; omega) (by simp; omega) _ rfl ?_); intro g9 c9 Vc hown hgrow hgat hglt; have HOWN := Lib.hid hown; have HGR := Lib.hid hgrow; have HGA := Lib.hid hgat; clear hown hgrow hgat))
          refine ⟨⟨k + 1, _, by omega, by go_num, rfl, Lib.hid ?_, Lib.hid ?_⟩, by simp [intOf]; omega⟩
          · have h := HOWN.out
            rw [show runCells (xa, xc, ⟨1, xl, xo, xh⟩) = [(xa, xc, (⟨1, xl, xo, xh⟩ : Pk))].flatMap runCells by simp, ← List.flatMap_append] at h
            rw [memb_yes HX.out ⟨rfl, rfl⟩, ← HM.out]
            exact row_of h (by simp)
          · exact adds_touch2 hadd.out (row_grow (n := M.length + 1) (cap := c9) ((Adds.refl wr).alloc _) HGR.out HGA.out).1 (fun k hk => (hrow.out.lt k hk).1)
        · have hb : (xh == m) = false := beq_eq_false_iff_ne.2 h2
          go_wp2_with fail
          exact ⟨⟨k + 1, _, by omega, by go_num, rfl, by rw [memb_no HX.out (fun h => h2 h.2)]; exact hrow, hadd⟩, by simp [intOf]; omega⟩
      · have hb : (xs == 1) = false := beq_eq_false_iff_ne.2 h1
        go_wp2_with fail
        exact ⟨⟨k + 1, _, by omega, by go_num, rfl, by rw [memb_no HX.out (fun h => h1 h.1)]; exact hrow, hadd⟩, by simp [intOf]; omega⟩
    · go_wp2_with fail
      go_ret
      have e : L.take k = L := List.take_of_length_le (by have := HNL.out; omega)
      have h := hrow.out
      rw [e] at h
      exact ⟨_, rfl, h, hadd.out⟩

theorem count_next {H : List Piece} {k : Nat} {x : Piece} (hx : H[k]? = some x) : countOf (H.take (k + 1)) = countOf (H.take k) + (x.2.1 - x.1 + 1) := by rw [take_next hx, countOf_snoc]

theorem count_bd {H : List Piece} (hb : ∀ x ∈ H, 1 ≤ x.1 ∧ x.1 ≤ x.2.1 ∧ x.2.1 ≤ 1000000) : ∀ k : Nat, k ≤ H.length → 0 ≤ countOf (H.take k) ∧ countOf (H.take k) ≤ 1000000 * k
  | 0, _ => by simp [countOf]
  | k + 1, hk => by
    obtain ⟨x, hx⟩ : ∃ x, H[k]? = some x := ⟨_, List.getElem?_eq_getElem (by omega)⟩
    have ih := count_bd hb k (by omega)
    have := hb x (List.mem_of_getElem? hx)
    rw [count_next hx]
    omega

set_option maxRecDepth 100000 in
set_option maxHeartbeats 2000000 in
theorem RCount_any (v : Value) (H : List Piece) (w : World) (hL : RunsAt w v H) (hlen : H.length ≤ 1000000) (hb : ∀ x ∈ H, 1 ≤ x.1 ∧ x.1 ≤ x.2.1 ∧ x.2.1 ≤ 1000000) :
    Calls Try.prog 57 #[v] w fun e w' => e = .returned (.int .i64 (countOf H)) ∧ Adds w w' := by
  obtain ⟨p, cap, rfl, hc⟩ := hL
  have HC := Lib.hid hc
  have HB := Lib.hid hb
  clear hc hb
  obtain ⟨n, hn⟩ : ∃ n, n = H.length := ⟨_, rfl⟩
  rw [← hn] at hlen ⊢
  have HNL := Lib.hid hn
  clear hn
  go_enter Try.func57, Try.ntmps57
  go_wp2_with fail
  go_loopw [3, 4] (fun v3 v4 wr => ∃ (k : Nat) (z : Int), k ≤ n ∧ v4 = .int .i64 k ∧ v3 = .int .i64 z ∧ Hid (z = countOf (H.take k)) ∧ Hid (Adds w wr)) (fun _ v4 _ => n - (intOf v4).toNat)
  case atStart => exact ⟨0, 0, by omega, rfl, rfl, Lib.hid rfl, Lib.hid (Adds.refl _)⟩
  case round =>
    obtain ⟨k, z, hk, rfl, rfl, hz, hadd⟩ := hrel
    have hbd : 0 ≤ z ∧ z ≤ 1000000 * k := by rw [hz.out]; exact count_bd HB.out k (by have := HNL.out; omega)
    by_cases hlt : k < n
    · obtain ⟨x, hx⟩ : ∃ x, H[k]? = some x := ⟨_, List.getElem?_eq_getElem (by have := HNL.out; omega)⟩
      obtain ⟨g, rfl, c0, c1, _, _, _, _⟩ := HC.out k x hx
      have hxb := HB.out x (List.mem_of_getElem? hx)
      have hnx := Lib.hid (count_next hx)
      clear hx
      replace c0 := keep_cell hadd.out c0
      replace c1 := keep_cell hadd.out c1
      obtain ⟨xa, xc, xp⟩ := x
      simp only at c0 c1 hxb
      go_upto_region 5 with fail
      go_quiet (fail)
      go_wp2_with fail
      refine ⟨⟨k + 1, _, by omega, by go_num, rfl, Lib.hid ?_, Lib.hid (hadd.out.drewN _)⟩, by simp [intOf]; omega⟩
      rw [hnx.out, ← hz.out]
      simp only
      first | omega | (go_num; omega)
    · go_wp2_with fail
      go_ret
      have e : H.take k = H := List.take_of_length_le (by have := HNL.out; omega)
      have h := hz.out
      rw [e] at h
      exact ⟨by rw [h]; rfl, hadd.out⟩

end Go.Proofs.Ytofaioabjkcaiaa
