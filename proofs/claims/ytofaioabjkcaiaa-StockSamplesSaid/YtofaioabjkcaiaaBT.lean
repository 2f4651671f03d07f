/- The reference's register in memory; its small functions. -/
import Derived.Test.YtofaioabjkcaiaaBS
namespace Go.Proofs.Ytofaioabjkcaiaa
open Go.RowKit

/-- A list of runs that can be read. -/
def RunsAt (w : World) (v : Value) (l : List Piece) : Prop :=
  ∃ p cap, v = .slice p l.length cap ∧ ∀ (i : Nat) (x : Piece), l[i]? = some x → ∃ g, p = some ⟨g, 0, none⟩ ∧
    w.cell? ⟨g, i * 6, none⟩ = some (.int .i64 x.1) ∧ w.cell? ⟨g, i * 6 + 1, none⟩ = some (.int .i64 x.2.1) ∧ w.cell? ⟨g, i * 6 + 2, none⟩ = some (.int .i64 x.2.2.st) ∧
    w.cell? ⟨g, i * 6 + 3, none⟩ = some (.int .i64 x.2.2.lot) ∧ w.cell? ⟨g, i * 6 + 4, none⟩ = some (.int .i64 x.2.2.own) ∧ w.cell? ⟨g, i * 6 + 5, none⟩ = some (.int .i64 x.2.2.hold)

theorem RunsAt.later {w w' : World} {v : Value} {l : List Piece} (h : RunsAt w v l) (ha : Adds w w') : RunsAt w' v l := by
  obtain ⟨p, cap, hv, hc⟩ := h
  refine ⟨p, cap, hv, fun i x hx => ?_⟩
  obtain ⟨g, hp, h0, h1, h2, h3, h4, h5⟩ := hc i x hx
  exact ⟨g, hp, keep_cell ha h0, keep_cell ha h1, keep_cell ha h2, keep_cell ha h3, keep_cell ha h4, keep_cell ha h5⟩

theorem RunRow.at {w : World} {base : Nat} {v : Value} {l : List Piece} (h : RunRow w base v l) : RunsAt w v l := by
  rcases h.cells with ⟨rfl, rfl⟩ | ⟨g, cap, rfl, _, _, _, _, hc, _⟩
  · exact ⟨none, 0, rfl, fun i x hx => by simp at hx⟩
  · refine ⟨some ⟨g, 0, none⟩, cap, rfl, fun i x hx => ⟨g, rfl, ?_⟩⟩
    have h0 := hc i x hx 0 (by omega)
    have h1 := hc i x hx 1 (by omega)
    have h2 := hc i x hx 2 (by omega)
    have h3 := hc i x hx 3 (by omega)
    have h4 := hc i x hx 4 (by omega)
    have h5 := hc i x hx 5 (by omega)
    exact ⟨h0, h1, h2, h3, h4, h5⟩

theorem runsAt_nil (w : World) : RunsAt w (.slice none 0 0) [] := ⟨none, 0, rfl, fun i x hx => by simp at hx⟩

/-- The reference's register: the runs of each version. -/
def RefAt (w : World) (x : Value) (Ls : List (List Piece)) : Prop :=
  ∃ (p : Option Addr) (cap : Nat) (vs : List Value), x = .agg #[.slice p vs.length cap] ∧ vs.length = Ls.length ∧ 0 < vs.length ∧ vs.length ≤ 1000000 ∧
    (∀ (i : Nat) (u : Value), vs[i]? = some u → ∃ g, p = some ⟨g, 0, none⟩ ∧ w.cell? ⟨g, i, none⟩ = some u) ∧
    ∀ (i : Nat) (u : Value) (l : List Piece), vs[i]? = some u → Ls[i]? = some l → RunsAt w u l

theorem RefAt.later {w w' : World} {x : Value} {Ls : List (List Piece)} (h : RefAt w x Ls) (ha : Adds w w') : RefAt w' x Ls := by
  obtain ⟨p, cap, vs, hx, h1, h2, h3, h4, h5⟩ := h
  exact ⟨p, cap, vs, hx, h1, h2, h3, fun i u hu => by obtain ⟨g, hp, hc⟩ := h4 i u hu; exact ⟨g, hp, keep_cell ha hc⟩, fun i u l hu hl => (h5 i u l hu hl).later ha⟩

theorem inRange (a b n : Int) : (decide (a ≤ n) && decide (n ≤ b)) = decide (a ≤ n ∧ n ≤ b) := by simp

set_option maxHeartbeats 400000 in
theorem RNew_any (w : World) : Calls Try.prog 14 #[] w fun e w' => ∃ x, e = .returned x ∧ RefAt w' x [[]] ∧ Adds w w' := by
  go_enter Try.func14, Try.ntmps14
  go_wp2
  refine bodyPost_ret (v := .agg #[.slice (some ⟨w.heap.size + 1, 0, none⟩) 1 1]) ?_ rfl ⟨_, rfl, ?_, ?_⟩
  · simp [results, Try.results14, go_sem]
  · refine ⟨some ⟨w.heap.size + 1, 0, none⟩, 1, [.slice none 0 0], rfl, rfl, by simp, by simp, fun i u hu => ⟨_, rfl, ?_⟩, fun i u l hu hl => ?_⟩
    · match i, hu with
      | 0, hu => simp at hu; subst hu; go_simp
    · match i, hu, hl with
      | 0, hu, hl => simp at hu hl; subst hu; subst hl; exact runsAt_nil _
  · exact ((Adds.refl w).alloc _).alloc _

set_option maxHeartbeats 400000 in
theorem RLast_any (x : Value) (Ls : List (List Piece)) (w : World) (h : RefAt w x Ls) :
    Calls Try.prog 18 #[x] w fun e w' => ∃ v, e = .returned v ∧ RunsAt w' v (Ls.getLastD []) ∧ Adds w w' := by
  obtain ⟨p, cap, vs, rfl, h1, h2, h3, h4, h5⟩ := h
  obtain ⟨n, hn⟩ : ∃ n, vs.length = n + 1 := ⟨vs.length - 1, by omega⟩
  have hu : vs[n]? = some (vs[n]'(by omega)) := List.getElem?_eq_getElem _
  obtain ⟨g, rfl, hc⟩ := h4 n _ hu
  have hl : Ls[n]? = some (Ls[n]'(by omega)) := List.getElem?_eq_getElem _
  have h6 := h5 n _ _ hu hl
  have hlast : Ls.getLastD [] = Ls[n]'(by omega) := by
    rw [List.getLastD_eq_getLast?, List.getLast?_eq_getElem?, show Ls.length - 1 = n by omega, hl]; rfl
  have H6 := Lib.hid h6
  have HL := Lib.hid hlast
  generalize vs[n]'(by omega) = u at *
  generalize Ls[n]'(by omega) = L0 at *
  rw [hn] at h3 ⊢
  have hsub : ((n + 1 : Nat) : Int) - 1 = (n : Int) := by omega
  clear h4 h5 h6 hu hl hlast h1 h2 hn
  go_enter Try.func18, Try.ntmps18
  go_upto_region 1 with fail
  have hc1 : (w.alloc (.cells #[.slice (some ⟨g, 0, none⟩) (n + 1) cap] 27)).cell? ⟨g, n, none⟩ = some u := keep_cell ((Adds.refl w).alloc _) hc
  go_wp2
  go_ret
  have A : Adds w (w.alloc (.cells #[.slice (some ⟨g, 0, none⟩) (n + 1) cap] 27)) := (Adds.refl w).alloc _
  exact ⟨u, rfl, by rw [HL.out]; exact H6.out.later A, A⟩

set_option maxHeartbeats 400000 in
theorem RValid_any (a n : Int) (w : World) : Calls Try.prog 93 #[.agg #[.int .i64 a, .int .i64 n]] w fun e w' => e = .returned (.bool (validB a n)) ∧ Adds w w' := by
  go_enter Try.func93, Try.ntmps93
  have hv : validB a n = (decide (1 ≤ a) && decide (a ≤ 1000000) && decide (1 ≤ n) && decide (n ≤ 1000000 - a + 1)) := by unfold validB; simp [Bool.and_assoc]
  rw [hv]
  have A : Adds w (w.alloc (.cells #[.int .i64 a, .int .i64 n] 32)) := (Adds.refl w).alloc _
  by_cases h1 : 1 ≤ a
  · by_cases h2 : a ≤ 1000000
    · by_cases h3 : 1 ≤ n
      · go_wp2
        go_ret
        exact ⟨ret_bool (by simp [h1, h2, h3]), A⟩
      · go_wp2
        go_ret
        exact ⟨ret_bool (by simp <;> omega), A⟩
    · go_wp2
      go_ret
      exact ⟨ret_bool (by simp <;> omega), A⟩
  · go_wp2
    go_ret
    exact ⟨ret_bool (by simp <;> omega), A⟩

set_option maxHeartbeats 400000 in
theorem Rmember_any (n : Int) (w : World) : Calls Try.prog 68 #[.int .i64 n] w fun e w' => e = .returned (.bool (inB 1000 n)) ∧ w = w' := by
  go_enter Try.func68, Try.ntmps68
  go_wp2
  all_goals
    go_ret
    exact ⟨ret_bool (by unfold inB; simp <;> omega), rfl⟩

set_option maxHeartbeats 400000 in
theorem Rlot_any (n : Int) (w : World) : Calls Try.prog 69 #[.int .i64 n] w fun e w' => e = .returned (.bool (inB 1000000 n)) ∧ w = w' := by
  go_enter Try.func69, Try.ntmps69
  go_wp2
  all_goals
    go_ret
    exact ⟨ret_bool (by unfold inB; simp <;> omega), rfl⟩

theorem info37 : (Try.prog.info? 37).map (fun i => (i.zero, i.size, i.bytes)) = some (some (.slice none 0 0), 1, 24) := by kernel_rfl

theorem news_add {W : World} {g : Nat} {vs : List Value} (h : ∀ (j : Nat) u, vs[j]? = some u → W.cell? ⟨g, j, none⟩ = some u) : ∀ (j : Nat) u, vs[j]? = some u → W.cell? ((⟨g, 0, none⟩ : Addr).add j) = some u := fun j u hu => by
  have hadd : (⟨g, 0, none⟩ : Addr).add j = ⟨g, j, none⟩ := by unfold Addr.add; split <;> simp_all
  rw [hadd]
  exact h j u hu

/-- What next returns. -/
def NextGot (w : World) (Ls : List (List Piece)) (e : Ending) (w' : World) : Prop := ∃ g n c, e = .returned (.agg #[.slice (some ⟨g, 0, none⟩) n c]) ∧ RefAt w' (.agg #[.slice (some ⟨g, 0, none⟩) n c]) Ls ∧ w.heap.size ≤ g ∧ Adds w w'

set_option maxRecDepth 100000 in
set_option maxHeartbeats 1000000 in
theorem Rnext_any (x v : Value) (l : List Piece) (Ls : List (List Piece)) (w : World) (h : RefAt w x Ls) (hl : RunsAt w v l) (hlen : Ls.length < 1000000) :
    Calls Try.prog 94 #[x, v] w (NextGot w (Ls ++ [l])) := by
  obtain ⟨p, cap, vs, rfl, h1, h2, h3, h4, h5⟩ := h
  obtain ⟨g, rfl⟩ : ∃ g, p = some ⟨g, 0, none⟩ := by obtain ⟨g, hp, _⟩ := h4 0 _ (List.getElem?_eq_getElem h2); exact ⟨g, hp⟩
  obtain ⟨j0, hj, hj0, hj1, hj2⟩ := info_parts info37
  have HJ := Lib.hid hj
  have HJ0 := Lib.hid hj0
  have HJ1 := Lib.hid hj1
  have HJ2 := Lib.hid hj2
  have hnews : ∀ (j : Nat) u, vs[j]? = some u → w.cell? ⟨g, j, none⟩ = some u := fun j u hu => by
    obtain ⟨g', hp, hc⟩ := h4 j u hu
    simp only [Option.some.injEq, Addr.mk.injEq, and_true] at hp
    subst hp
    exact hc
  have hone : ∀ u ∈ vs, u.oneCell' = true := fun u hu => by
    obtain ⟨i, hi, rfl⟩ := List.mem_iff_getElem.1 hu
    obtain ⟨p', c', hv, _⟩ := h5 i _ _ (List.getElem?_eq_getElem hi) (List.getElem?_eq_getElem (by omega))
    rw [hv]; rfl
  have HN := Lib.hid hnews
  have HO := Lib.hid hone
  have H1 := Lib.hid h1
  have H5 := Lib.hid h5
  have HL := Lib.hid hl
  obtain ⟨n, hn⟩ : ∃ n, n = vs.length := ⟨_, rfl⟩
  rw [← hn] at h2 h3 ⊢
  have HVN := Lib.hid hn
  obtain ⟨pv, cv, rfl, _⟩ := id hl
  clear h4 h5 hj hj0 hj1 hj2 hnews hone h1 hl hn
  go_enter Try.func94, Try.ntmps94
  go_upto_region 3 with (at_builtin; go_loud ((refine wpList_append_lies _ rfl _ _ 25 rfl w.heap.size 37 j0 (.slice none 0 0) 1 24 Try.underlying25 HJ.out HJ0.out HJ1.out HJ2.out rfl (by decide) (.slice none 0 0) 0 [] rfl (World.ownsRow_nil _ _ _ _) ⟨g, 0, none⟩ n cap vs rfl (by rw [HVN.out]; omega) (news_add (fun j u hu => keep_cell (((Adds.refl w).alloc _).alloc _) (HN.out j u hu))) HO.out h2 (by unfold maxLen; omega) (by omega) (by simp; omega) _ rfl ?_); intro g9 c9 Vc hown hgrow hgat hglt; have HOWN := Lib.hid hown; have HGR := Lib.hid hgrow; have HGA := Lib.hid hgat; clear hown hgrow hgat))
  obtain ⟨V2, hV2⟩ : ∃ V, V = (w.alloc (.cells #[.slice (some ⟨g, 0, none⟩) n cap] 27)).alloc (.cells #[.slice none 0 0] 27) := ⟨_, rfl⟩
  rw [← hV2] at HGR HGA
  have A2 : Adds w V2 := by rw [hV2]; exact ((Adds.refl w).alloc _).alloc _
  have X4 : Box V2 (w.heap.size + 1) #[.slice none 0 0] 27 := by rw [hV2]; exact new_at (by simp)
  have z2 : V2.heap.size = w.heap.size + 2 := by rw [hV2]; simp
  have hg9 : g9 = w.heap.size + 2 := by
    rcases HGA.out with h | h
    · simp [Value.ownBlock] at h
    · omega
  have X4c : Box Vc (w.heap.size + 1) #[.slice none 0 0] 27 := X4.same (HGR.out.block _ (by omega) (by simp [Value.ownBlock]))
  have HX4 := Lib.hid X4c
  have HGR2 : Hid (Adds w Vc) := Lib.hid (Below.grown A2 HGR.out (by omega) (fun j hj => by simp [Value.ownBlock] at hj))
  have HOWN1 : Hid (Vc.ownsRow w.heap.size 37 1 (.slice (some ⟨g9, 0, none⟩) n c9) n vs) := Lib.hid (by have h := HOWN.out; rw [Nat.zero_add, List.nil_append] at h; exact h)
  have hz : w.heap.size ≤ Vc.heap.size := HGR2.out.size
  clear hV2 A2 X4 X4c HGR HGA HOWN z2
  go_upto_region 4 with (at_builtin; go_loud ((refine wpList_append_lies _ rfl _ _ 25 rfl w.heap.size 37 j0 (.slice none 0 0) 1 24 Try.underlying25 HJ.out HJ0.out HJ1.out HJ2.out rfl (by decide) (.slice (some ⟨g9, 0, none⟩) n c9) n vs rfl (ownsRow_same HOWN1.out (fun k hk => ((Adds.refl Vc).alloc _).block k (HOWN1.out.lt k hk).2)) ⟨Vc.heap.size, 0, none⟩ 1 1 [.slice pv l.length cv] rfl rfl (World.news_of_block (new_at (by simp))) (by simp [Value.oneCell']) (by omega) (by unfold maxLen; omega) (by omega) (by simp; omega) _ rfl ?_); intro g8 c8 Vd hown hgrow hgat hglt; have HOWN2 := Lib.hid hown; have HGRB := Lib.hid hgrow; have HGAB := Lib.hid hgat; clear hown hgrow hgat))
  have A3 : Adds w (Vc.alloc (.cells #[.slice pv l.length cv] 37)) := HGR2.out.alloc _
  have X4d : Box Vd (w.heap.size + 1) #[.slice none 0 0] 27 := (HX4.out.later ((Adds.refl _).alloc _)).same (HGRB.out.block _ (by have := HX4.out.lt; simp; omega) (by simp [Value.ownBlock]; omega))
  have A4 : Adds w Vd := Below.grown A3 HGRB.out (by simp; omega) (fun j hj => by simp only [Value.ownBlock, Option.some.injEq] at hj; omega)
  have d0 := X4d.cell 0
  have df := X4d.free 0
  simp only [List.getElem?_toArray, List.getElem?_cons_zero] at d0
  have HD := Lib.hid A4
  clear A3 X4d A4
  go_wp2
  refine bodyPost_ret (v := .agg #[.slice (some ⟨g8, 0, none⟩) (n + 1) c8]) ?_ rfl ⟨g8, n + 1, c8, rfl, ?_, ?_, ?_⟩
  · simp [results, Try.results94, go_sem, d0]
  · have HD2 : Adds w (Vd.setCell ⟨w.heap.size + 1, 0, none⟩ (.slice (some ⟨g8, 0, none⟩) (n + 1) c8)) := HD.out.set (by simp) _
    have hg8 : g8 ≠ w.heap.size + 1 := by
      rcases HGAB.out with h | h
      · simp only [Value.ownBlock, Option.some.injEq] at h; omega
      · have := HX4.out.lt; simp only [World.size_alloc] at h; omega
    have HR := ownsRow_setCell_other HOWN2.out (a := ⟨w.heap.size + 1, 0, none⟩) (by simp only [Value.ownBlock, ne_eq, Option.some.injEq]; exact hg8) (.slice (some ⟨g8, 0, none⟩) (n + 1) c8)
    have e1 := HVN.out
    have e2 := H1.out
    refine ⟨some ⟨g8, 0, none⟩, c8, vs ++ [.slice pv l.length cv], by simp [← e1], by simp [e2], by simp, by simp; omega, fun i u hu => ⟨g8, rfl, ?_⟩, fun i u l' hu hl' => ?_⟩
    · have hi := (List.getElem?_eq_some_iff.1 hu).1
      simp only [List.length_append, List.length_singleton] at hi
      rw [HR.cellAt i (by omega)]
      exact hu
    · by_cases hi : i < n
      · rw [List.getElem?_append_left (by omega)] at hu hl'
        exact (H5.out i u l' hu hl').later HD2
      · have hi2 := (List.getElem?_eq_some_iff.1 hu).1
        simp only [List.length_append, List.length_singleton] at hi2
        have : i = n := by omega
        subst this
        rw [List.getElem?_append_right (by omega)] at hu hl'
        rw [show i - vs.length = 0 by omega] at hu
        rw [show i - Ls.length = 0 by omega] at hl'
        simp only [List.getElem?_cons_zero, Option.some.injEq] at hu hl'
        subst hu; subst hl'
        exact HL.out.later HD2
  · rcases HGAB.out with h | h
    · simp only [Value.ownBlock, Option.some.injEq] at h; omega
    · simp only [World.size_alloc] at h; omega
  · exact HD.out.set (by simp) _

theorem cell_put_other {w : World} {b g o : Nat} {u x : Value} (h : w.cell? ⟨g, o, none⟩ = some x) (hne : ¬ (g = b ∧ o = 0)) : (w.setCell ⟨b, 0, none⟩ u).cell? ⟨g, o, none⟩ = some x := by
  by_cases hg : g = b
  · subst hg
    have ho : o ≠ 0 := fun h => hne ⟨rfl, h⟩
    rw [World.cell?_setCell_other]
    · exact h
    · simp <;> omega
  · rw [World.cell?_setCell_far _ _ _ _ (by exact fun e => hg e.symm)]; exact h

/-- A cell turned that holds a slice: no run lies there. -/
theorem RunsAt.put {w : World} {v : Value} {l : List Piece} {b : Nat} {u : Value} {q : Option Addr} {n c : Nat} (h : RunsAt w v l) (hb : w.cell? ⟨b, 0, none⟩ = some (.slice q n c)) : RunsAt (w.setCell ⟨b, 0, none⟩ u) v l := by
  obtain ⟨p, cap, hv, hc⟩ := h
  refine ⟨p, cap, hv, fun i x hx => ?_⟩
  obtain ⟨g, hp, h0, h1, h2, h3, h4, h5⟩ := hc i x hx
  refine ⟨g, hp, cell_put_other h0 ?_, cell_put_other h1 (by omega), cell_put_other h2 (by omega), cell_put_other h3 (by omega), cell_put_other h4 (by omega), cell_put_other h5 (by omega)⟩
  rintro ⟨rfl, h⟩
  rw [h, hb] at h0
  simp at h0

theorem RefAt.put {w : World} {g n c b : Nat} {Ls : List (List Piece)} {u : Value} {q : Option Addr} {n' c' : Nat} (h : RefAt w (.agg #[.slice (some ⟨g, 0, none⟩) n c]) Ls) (hg : g ≠ b) (hb : w.cell? ⟨b, 0, none⟩ = some (.slice q n' c')) : RefAt (w.setCell ⟨b, 0, none⟩ u) (.agg #[.slice (some ⟨g, 0, none⟩) n c]) Ls := by
  obtain ⟨p, cap, vs, hx, h1, h2, h3, h4, h5⟩ := h
  refine ⟨p, cap, vs, hx, h1, h2, h3, fun i v hv => ?_, fun i v l hv hl => (h5 i v l hv hl).put hb⟩
  obtain ⟨g', hp, hc⟩ := h4 i v hv
  refine ⟨g', hp, cell_put_other hc ?_⟩
  simp only [Value.agg.injEq, Array.mk.injEq, List.cons.injEq, Value.slice.injEq, and_true] at hx
  rintro ⟨rfl, _⟩
  have := hx.1.trans hp
  simp only [Option.some.injEq, Addr.mk.injEq, and_true] at this
  exact hg this

end Go.Proofs.Ytofaioabjkcaiaa
