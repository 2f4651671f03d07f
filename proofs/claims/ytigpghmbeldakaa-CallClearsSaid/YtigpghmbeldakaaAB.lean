/- The small functions of the laws: some, give, tame, nothing; Check of the reference. -/
import Derived.Test.YtigpghmbeldakaaAA
namespace Go.Proofs.Ytigpghmbeldakaa
open Go.RowKit

/-- A row of spots in a block that the call has made. -/
def RowT (t : TypeId) (w : World) (g cap : Nat) (l : List (Int × Int × Int)) : Prop :=
  ∃ cur : Array Value, w.heap[g]? = some (.cells cur t (0, 0)) ∧ cur.size = cap * 3 ∧ l.length ≤ cap ∧ cap ≤ maxLen ∧ cur.toList.take (l.length * 3) = l.flatMap enc3

theorem RowT.lt {t : TypeId} {w : World} {g cap : Nat} {l : List (Int × Int × Int)} (h : RowT t w g cap l) : g < w.heap.size := by
  obtain ⟨cur, hg, _⟩ := h
  exact (Array.getElem?_eq_some_iff.1 hg).1
theorem RowT.free {t : TypeId} {w : World} {g cap : Nat} {l : List (Int × Int × Int)} (h : RowT t w g cap l) (o : Nat) : w.frozen? ⟨g, o, none⟩ = false := by
  obtain ⟨cur, hg, _⟩ := h
  simp [World.frozen?, hg]
theorem RowT.same {t : TypeId} {w w' : World} {g cap : Nat} {l : List (Int × Int × Int)} (h : RowT t w g cap l) (e : w'.heap[g]? = w.heap[g]?) : RowT t w' g cap l := by
  obtain ⟨cur, hg, r⟩ := h
  exact ⟨cur, e.trans hg, r⟩
theorem RowT.later {t : TypeId} {w w' : World} {g cap : Nat} {l : List (Int × Int × Int)} (h : RowT t w g cap l) (hb : Adds w w') : RowT t w' g cap l := h.same (hb.block g h.lt)
theorem RowT.touch {t : TypeId} {O : Nat → Prop} {w w' : World} {g cap : Nat} {l : List (Int × Int × Int)} (h : RowT t w g cap l) (hb : Touch O w w') (hn : ¬ O g) : RowT t w' g cap l := h.same (hb.same g h.lt hn)
theorem RowT.len {t : TypeId} {w : World} {g cap : Nat} {l : List (Int × Int × Int)} (h : RowT t w g cap l) : l.length ≤ cap ∧ cap ≤ maxLen := by
  obtain ⟨cur, _, _, h1, h2, _⟩ := h
  exact ⟨h1, h2⟩

theorem RowT.cells {t : TypeId} {w : World} {g cap : Nat} {l : List (Int × Int × Int)} (h : RowT t w g cap l) (j : Nat) (u : Value) (hj : (l.flatMap enc3)[j]? = some u) : w.cell? ⟨g, j, none⟩ = some u := by
  obtain ⟨cur, hg, hs, hl, hm, ht⟩ := h
  rw [← ht, List.getElem?_take] at hj
  split at hj
  · have : cur[j]? = some u := by simpa using hj
    simp [World.cell?, hg, this]
  · cases hj

theorem RowT.at3 {t : TypeId} {w : World} {g cap : Nat} {l : List (Int × Int × Int)} (h : RowT t w g cap l) : At3 w (some ⟨g, 0, none⟩) l := fun i x hx => by
  obtain ⟨h0, h1, h2⟩ := flat3_cell i x hx
  exact ⟨g, 0, rfl, by rw [Nat.zero_add]; exact h.cells _ _ h0, by rw [Nat.zero_add]; exact h.cells _ _ h1, by rw [Nat.zero_add]; exact h.cells _ _ h2⟩

theorem RowT.own {t : TypeId} {w : World} {g cap base : Nat} {l : List (Int × Int × Int)} (h : RowT t w g cap l) (hb : base ≤ g) : w.ownsRow base t 3 (.slice (some ⟨g, 0, none⟩) l.length cap) l.length (l.flatMap enc3) := by
  obtain ⟨cur, hg, hs, hl, hm, ht⟩ := h
  exact ⟨flat3_len l, Or.inr ⟨g, cap, cur, rfl, hb, hg, hl, hm, hs, ht⟩⟩

theorem own_rowT {t : TypeId} {w : World} {base n : Nat} {v : Value} {l : List (Int × Int × Int)} (h : w.ownsRow base t 3 v n (l.flatMap enc3)) :
    n = l.length ∧ ((v = .slice none 0 0 ∧ l = []) ∨ ∃ g cap, v = .slice (some ⟨g, 0, none⟩) l.length cap ∧ base ≤ g ∧ RowT t w g cap l) := by
  obtain ⟨h1, h2⟩ := h
  rw [flat3_len] at h1
  have hn : n = l.length := by omega
  subst hn
  refine ⟨rfl, ?_⟩
  rcases h2 with ⟨hv, hz⟩ | ⟨g, cap, cur, hv, hb, hg, hl, hm, hs, ht⟩
  · exact Or.inl ⟨hv, List.length_eq_zero_iff.1 hz⟩
  · exact Or.inr ⟨g, cap, hv, hb, cur, hg, hs, hl, hm, ht⟩

theorem RowT.set1 {t : TypeId} {w : World} {g cap : Nat} {cur : Array Value} (hg : w.heap[g]? = some (.cells cur t (0, 0))) (p : Nat) (u : Value) : (w.setCell ⟨g, p, none⟩ u).heap[g]? = some (.cells (cur.setIfInBounds p u) t (0, 0)) := by
  have := Box.set (w := w) (b := g) (vs := cur) (t := t) hg p u
  exact this

theorem RowT.put {t : TypeId} {w : World} {g cap : Nat} {l : List (Int × Int × Int)} (h : RowT t w g cap l) {k : Nat} (hk : k < l.length) (x : Int × Int × Int) :
    RowT t (((w.setCell ⟨g, k * 3, none⟩ (.int .i64 x.1)).setCell ⟨g, k * 3 + 1, none⟩ (.int .i64 x.2.1)).setCell ⟨g, k * 3 + 2, none⟩ (.int .i64 x.2.2)) g cap (l.set k x) := by
  obtain ⟨cur, hg, hs, hl, hm, ht⟩ := h
  have h1 := RowT.set1 (cap := cap) hg (k * 3) (.int .i64 x.1)
  have h2 := RowT.set1 (cap := cap) h1 (k * 3 + 1) (.int .i64 x.2.1)
  have h3 := RowT.set1 (cap := cap) h2 (k * 3 + 2) (.int .i64 x.2.2)
  refine ⟨_, h3, by simpa using hs, by simpa using hl, hm, ?_⟩
  rw [List.length_set, flat3_set x l k hk, ← ht]
  simp only [Array.toList_setIfInBounds, List.take_set]

theorem RowT.pre {t : TypeId} {w : World} {g cap : Nat} {l m : List (Int × Int × Int)} (h : RowT t w g cap (l ++ m)) : RowT t w g cap l := by
  obtain ⟨cur, hg, hs, hl, hm, ht⟩ := h
  refine ⟨cur, hg, hs, by simp at hl; omega, hm, ?_⟩
  have : (cur.toList.take ((l ++ m).length * 3)).take (l.length * 3) = ((l ++ m).flatMap enc3).take (l.length * 3) := by rw [ht]
  have e : ((l ++ m).flatMap enc3).take (l.length * 3) = l.flatMap enc3 := by rw [List.flatMap_append, ← flat3_len l, List.take_left]
  rw [List.take_take, Nat.min_eq_left (by simp; omega), e] at this
  exact this


theorem own_at3 {w : World} {base n : Nat} {t : TypeId} {v : Value} {l : List (Int × Int × Int)} (h : w.ownsRow base t 3 v n (l.flatMap enc3)) : ∃ p cap, v = .slice p l.length cap ∧ At3 w p l ∧ ∀ g off, p = some ⟨g, off, none⟩ → base ≤ g := by
  rcases (own_rowT h).2 with ⟨hv, hn⟩ | ⟨g, cap, hv, hb, hr⟩
  · subst hn
    exact ⟨none, 0, hv, (fun i x hx => by simp at hx), (fun g off h => by cases h)⟩
  · exact ⟨some ⟨g, 0, none⟩, cap, hv, hr.at3, (fun g' off h => by cases h; exact hb)⟩

/-- A new slice of bids. -/
def OwnGot (t : TypeId) (l : List (Int × Int × Int)) (w : World) (e : Ending) (w' : World) : Prop :=
  ∃ v, e = .returned v ∧ w'.ownsRow w.heap.size t 3 v l.length (l.flatMap enc3) ∧ Adds w w'

theorem info61 : (Try.prog.info? 61).map (fun i => (i.zero, i.size, i.bytes)) = some (some (.agg #[.int .i64 0, .int .i64 0, .int .i64 0]), 3, 24) := by kernel_rfl
theorem info75 : (Try.prog.info? 75).map (fun i => (i.zero, i.size, i.bytes)) = some (some (.agg #[.int .i64 0, .int .i64 0, .int .i64 0]), 3, 24) := by kernel_rfl

theorem at3_news {w : World} {g off : Nat} {l : List (Int × Int × Int)} (h : At3 w (some ⟨g, off, none⟩) l) : ∀ j u, (l.flatMap enc3)[j]? = some u → w.cell? ((⟨g, off, none⟩ : Addr).add j) = some u := by
  intro j u hu
  have hlt : j < (l.flatMap enc3).length := (List.getElem?_eq_some_iff.1 hu).1
  rw [flat3_len] at hlt
  obtain ⟨x, hx⟩ : ∃ x, l[j / 3]? = some x := ⟨_, List.getElem?_eq_getElem (by omega)⟩
  obtain ⟨_, _, e, c0, c1, c2⟩ := h _ _ hx
  cases e
  obtain ⟨f0, f1, f2⟩ := flat3_cell _ _ hx
  have hadd : (⟨g, off, none⟩ : Addr).add j = ⟨g, off + j, none⟩ := by unfold Addr.add; split <;> simp_all
  rw [hadd]
  have hm : j % 3 = 0 ∨ j % 3 = 1 ∨ j % 3 = 2 := by omega
  rcases hm with h' | h' | h'
  · rw [show j / 3 * 3 = j by omega] at f0 c0
    rw [hu] at f0; rw [c0, f0]
  · rw [show j / 3 * 3 + 1 = j by omega] at f1
    rw [show off + j / 3 * 3 + 1 = off + j by omega] at c1
    rw [hu] at f1; rw [c1, f1]
  · rw [show j / 3 * 3 + 2 = j by omega] at f2
    rw [show off + j / 3 * 3 + 2 = off + j by omega] at c2
    rw [hu] at f2; rw [c2, f2]

set_option maxRecDepth 100000 in
set_option maxHeartbeats 2000000 in
theorem some_any (p : Option Addr) (cap : Nat) (l : List Bd) (most : Nat) (w : World) (hcap : l.length ≤ cap) (hcm : cap ≤ maxLen) (hp : p = none → cap = 0) (hM : most ≤ 5000) (hL : At3 w p l) :
    Calls Try.prog 14 #[.slice p l.length cap, .int .i64 most] w (OwnGot 61 (l.take most) w) := by
  unfold maxLen at hcm
  obtain ⟨j0, hj, hj0, hj1, hj2⟩ := info_parts info61
  have HJ := Lib.hid hj
  have HJ0 := Lib.hid hj0
  have HJ1 := Lib.hid hj1
  have HJ2 := Lib.hid hj2
  have HL := Lib.hid hL
  clear hj hj0 hj1 hj2 hL
  cases p with
  | none =>
    have hc0 := hp rfl
    have hl0 : l = [] := List.length_eq_zero_iff.1 (by omega)
    subst hl0
    subst hc0
    clear hp hcap hcm
    go_enter Try.func14, Try.ntmps14
    go_wp2
    go_ret
    exact ⟨.slice none 0 0, rfl, by simpa using World.ownsRow_nil w w.heap.size 61 3, Adds.refl w⟩
  | some a =>
    obtain ⟨k, hk⟩ : ∃ k, k = min l.length most := ⟨_, rfl⟩
    have hkl : (l.take most).length = k := by rw [List.length_take]; omega
    have hnews : ∀ j u, ((l.take most).flatMap enc3)[j]? = some u → w.cell? (a.add j) = some u := by
      by_cases hz : l.length = 0
      · have : l = [] := List.length_eq_zero_iff.1 hz
        subst this
        intro j u hu
        simp at hu
      · obtain ⟨x, hx⟩ : ∃ x, l[0]? = some x := ⟨_, List.getElem?_eq_getElem (by omega)⟩
        obtain ⟨g, off, e, _⟩ := HL.out _ _ hx
        cases e
        exact at3_news (fun i y hy => HL.out i y (by rw [List.getElem?_take] at hy; split at hy <;> first | exact hy | cases hy))
    have HNW := Lib.hid hnews
    have HKL := Lib.hid hkl
    have hmin : min (l.length : Int) (most : Int) = (k : Int) := by omega
    have hk1 : k ≤ 5000 := by omega
    have hk2 : k ≤ cap := by omega
    generalize l.length = N at *
    clear hp hnews hkl hk
    go_enter Try.func14, Try.ntmps14
    go_wp2_with (at_builtin; ((refine wpList_append_own _ rfl _ _ 22 rfl w.heap.size 61 j0 (.agg #[.int .i64 0, .int .i64 0, .int .i64 0]) 3 24 Try.underlying22 HJ.out HJ0.out HJ1.out HJ2.out rfl (by decide) (.slice none 0 0) 0 [] rfl (World.ownsRow_nil _ _ _ _) a k cap ((l.take most).flatMap enc3) rfl (by rw [flat3_len, HKL.out]) HNW.out (by intro u hu; obtain ⟨x, _, hx⟩ := List.mem_flatMap.1 hu; simp [enc3] at hx; rcases hx with rfl | rfl | rfl <;> rfl) (by unfold maxLen; omega) (by omega) (Nat.le_refl _) ?_); intro va1 w1 hra1 hg1 _; have HR1 := Lib.hid hra1; have HG1 := Lib.hid hg1; clear hra1 hg1))
    go_ret
    refine ⟨va1, rfl, ?_, ⟨HG1.out.os, HG1.out.tape, HG1.out.output, HG1.out.size, fun k hk => HG1.out.block k hk (by simp [Value.ownBlock])⟩⟩
    have := HR1.out
    rw [Nat.zero_add, List.nil_append] at this
    rw [HKL.out]
    exact this

set_option maxRecDepth 100000 in
set_option maxHeartbeats 2000000 in
theorem give_any (p : Option Addr) (cap : Nat) (l : List Bd) (w : World) (hN : l.length ≤ 5000) (hL : At3 w p l) :
    Calls Try.prog 16 #[.slice p l.length cap] w (OwnGot 75 l w) := by
  obtain ⟨j0, hj, hj0, hj1, hj2⟩ := info_parts info75
  have HJ := Lib.hid hj
  have HJ0 := Lib.hid hj0
  have HJ1 := Lib.hid hj1
  have HJ2 := Lib.hid hj2
  have HL := Lib.hid hL
  obtain ⟨N, hNl⟩ : ∃ N, N = l.length := ⟨_, rfl⟩
  rw [← hNl] at hN ⊢
  have HN := Lib.hid hNl
  clear hj hj0 hj1 hj2 hL hNl
  go_enter Try.func16, Try.ntmps16
  go_wp2
  go_loopw [3, 4] (fun v i wr => ∃ k : Nat, k ≤ N ∧ i = .int .i64 k ∧ Hid (wr.ownsRow w.heap.size 75 3 v k ((l.take k).flatMap enc3)) ∧ Adds w wr) (fun _ i _ => N - (intOf i).toNat)
  case atStart => exact ⟨0, by omega, rfl, Lib.hid (World.ownsRow_nil _ _ _ _), Adds.refl w⟩
  case round =>
    obtain ⟨k, hk, rfl, hrow, hb⟩ := hrel
    by_cases hlt : k < N
    · obtain ⟨⟨s, pp, q⟩, hb3⟩ : ∃ t, l[k]? = some t := ⟨_, List.getElem?_eq_getElem (by have := HN.out; omega)⟩
      obtain ⟨g, off, rfl, d0, d1, d2⟩ := HL.out k _ hb3
      have c0 := keep_cell hb d0
      have c1 := keep_cell hb d1
      have c2 := keep_cell hb d2
      have HT := Lib.hid (take_next hb3)
      simp only at c0 c1 c2
      have HB := Lib.hid hb
      have hz := hb.size
      clear d0 d1 d2 hb3 hb
      go_wp2_with (at_builtin; ((refine wpList_append_own _ rfl _ _ 25 rfl w.heap.size 75 j0 (.agg #[.int .i64 0, .int .i64 0, .int .i64 0]) 3 24 Try.underlying25 HJ.out HJ0.out HJ1.out HJ2.out rfl (by decide) u3 k _ rfl (hrow.out.alloc _) ⟨wr.heap.size, 0, none⟩ 1 1 (enc3 (s, pp, q)) rfl rfl (World.news_of_block (Box.new wr #[.int .i64 s, .int .i64 pp, .int .i64 q] 75)) (by simp [enc3, Value.oneCell']) (by unfold maxLen; omega) (by omega) (by simp; omega) ?_); intro va1 w2 hra1 hg1 _; have HR1 := Lib.hid hra1; have HG1 := Lib.hid hg1; clear hra1 hg1))
      refine ⟨⟨k + 1, by omega, by go_num, Lib.hid ?_, Below.grown (HB.out.alloc _) HG1.out (by simp; omega) (fun j hj => (hrow.out.lt j hj).1)⟩, by simp [intOf]; omega⟩
      rw [HT.out, List.flatMap_append, List.flatMap_cons, List.flatMap_nil, List.append_nil]
      exact HR1.out
    · have hkN : k = N := by omega
      have hfull : l.take k = l := List.take_of_length_le (by have := HN.out; omega)
      rw [hfull] at hrow
      subst hkN
      clear hfull
      go_wp2
      go_ret
      exact ⟨_, rfl, by rw [← HN.out]; exact hrow.out, hb⟩

set_option maxRecDepth 100000 in
set_option maxHeartbeats 1000000 in
theorem RCheck_any (p : Option Addr) (cap : Nat) (l : List Bd) (w : World) (hN : l.length ≤ 100000) (hL : At3 w p l) :
    Calls Try.prog 15 #[.slice p l.length cap] w fun e w' => e = .returned (.int .i64 (checkT l)) ∧ Adds w w' := by
  have HL := Lib.hid hL
  obtain ⟨N, hNl⟩ : ∃ N, N = l.length := ⟨_, rfl⟩
  have HC : Hid (∀ c, checkT l = c → (checkT l = c)) := Lib.hid (fun _ h => h)
  by_cases hbig : 4096 < l.length
  · have H0 : Hid (checkT l = 2) := Lib.hid (by unfold checkT; rw [if_pos hbig])
    clear hL hNl
    go_enter Try.func15, Try.ntmps15
    go_wp2
    go_ret
    exact ⟨ret_int H0.out.symm, Adds.refl w⟩
  · have HBG := Lib.hid hbig
    rw [← hNl] at hN hbig ⊢
    have HN := Lib.hid hNl
    clear hL hNl
    go_enter Try.func15, Try.ntmps15
    go_wp2
    go_loopw [3] (fun i wr => ∃ k : Nat, k ≤ N ∧ i = .int .i64 k ∧ Hid ((l.take k).any (fun b => !okB b) = false) ∧ Adds w wr) (fun i _ => N - (intOf i).toNat)
    case atStart => exact ⟨0, by omega, rfl, Lib.hid (by simp), Adds.refl w⟩
    case round =>
      obtain ⟨k, hk, rfl, hany, hb⟩ := hrel
      by_cases hlt : k < N
      · obtain ⟨⟨s, pp, q⟩, hb3⟩ : ∃ t, l[k]? = some t := ⟨_, List.getElem?_eq_getElem (by have := HN.out; omega)⟩
        obtain ⟨gg, off, rfl, d0, d1, d2⟩ := HL.out k _ hb3
        have c0 := keep_cell hb d0
        have c1 := keep_cell hb d1
        have c2 := keep_cell hb d2
        have hc := fun W => Valid_any s pp q W
        have HK := Lib.hid hb3
        simp only at c0 c1 c2
        clear d0 d1 d2 hb3
        cases ht : okB (s, pp, q) with
        | true =>
          rw [ht] at hc
          have HT := Lib.hid ht
          clear ht
          go_wp2_with (go_at_call 39; refine (hc _).mono ?_; rintro e w1 ⟨rfl, hb1⟩)
          exact ⟨⟨k + 1, by omega, by go_num, Lib.hid (any_next hany.out HK.out (by rw [HT.out]; rfl)), hb.trans hb1⟩, by simp [intOf]; omega⟩
        | false =>
          rw [ht] at hc
          have HT := Lib.hid ht
          clear ht
          have H1 : Hid (checkT l = 1) := Lib.hid (by
            unfold checkT
            rw [if_neg HBG.out, if_pos]
            exact List.any_eq_true.2 ⟨_, List.mem_of_getElem? HK.out, by rw [HT.out]; rfl⟩)
          go_wp2_with (go_at_call 39; refine (hc _).mono ?_; rintro e w1 ⟨rfl, hb1⟩)
          go_ret
          exact ⟨ret_int H1.out.symm, hb.trans hb1⟩
      · have H1 : Hid (checkT l = 0) := Lib.hid (by
          have := hany.out
          rw [List.take_of_length_le (by have := HN.out; omega)] at this
          unfold checkT
          rw [if_neg HBG.out, this]
          rfl)
        go_wp2
        go_ret
        exact ⟨ret_int H1.out.symm, hb⟩

set_option maxHeartbeats 400000 in
theorem nothing_zero (w : World) : Calls Try.prog 25 #[.agg #[.int .i64 0, .int .i64 0, .int .i64 0, .slice none 0 0]] w fun e w' => e = .returned (.bool true) ∧ Adds w w' := by
  go_enter Try.func25, Try.ntmps25
  go_wp2
  go_ret
  exact ⟨rfl, (Adds.refl w).alloc _⟩

end Go.Proofs.Ytigpghmbeldakaa
