/- Greatest of the reference: the walk. -/
import Derived.Test.YtigpghmbeldakaaBQ
import Derived.Deep.LoopGhost
namespace Go.Proofs.Ytigpghmbeldakaa
open Go.RowKit

/-- What Greatest of the reference returns. -/
def GreatGot (l : List Bd) (w : World) (e : Ending) (w' : World) : Prop := ∃ A, Greedy l A ∧ Closed l A ∧ e = .returned (.int .i64 (gainN l (servedL l A))) ∧ Adds w w'

/-- All that is left. -/
def totN (A : List Int) : Nat := (A.map Int.toNat).sum
theorem totN_set : ∀ (A : List Int) (i : Nat) (v : Int), i < A.length → 0 ≤ v → v < A[i]! → totN (A.set i v) < totN A
  | [], i, v, h, _, _ => by simp at h
  | x :: A, 0, v, _, h0, h => by
    simp only [List.getElem!_cons_zero] at h
    simp only [totN, List.set_cons_zero, List.map_cons, List.sum_cons]
    omega
  | x :: A, i + 1, v, hi, h0, h => by
    have := totN_set A i v (by simpa using hi) h0 (by simpa using h)
    simp only [totN, List.set_cons_succ, List.map_cons, List.sum_cons] at this ⊢
    omega

/-- What the scan for the best buyer has found, and for the best seller. -/
def Scan1 (l : List Bd) (A : List Int) (k : Nat) (b : Int) : Prop := (b = -1 ∧ ∀ j, j < k → (l[j]!).1 = 1 → A[j]! = 0) ∨ ∃ u : Nat, b = u ∧ Best1 l A k u
def Scan2 (l : List Bd) (A : List Int) (k : Nat) (s : Int) : Prop := (s = -1 ∧ ∀ j, j < k → (l[j]!).1 = 2 → A[j]! = 0) ∨ ∃ u : Nat, s = u ∧ Best2 l A k u

theorem Scan1.skip {l : List Bd} {A : List Int} {k : Nat} {b : Int} (h : Scan1 l A k b) (hk : (l[k]!).1 = 1 → A[k]! = 0) : Scan1 l A (k + 1) b := by
  rcases h with ⟨h1, h2⟩ | ⟨u, h1, h2⟩
  · refine Or.inl ⟨h1, fun j hj hs => ?_⟩
    rcases Nat.lt_or_ge j k with h3 | h3
    · exact h2 j h3 hs
    · have : j = k := by omega
      subst this
      exact hk hs
  · refine Or.inr ⟨u, h1, by have := h2.lt; omega, h2.side, h2.left, fun j hj hs hz => ?_⟩
    rcases Nat.lt_or_ge j k with h3 | h3
    · exact h2.best j h3 hs hz
    · have : j = k := by omega
      subst this
      exact absurd (hk hs) hz
theorem Scan2.skip {l : List Bd} {A : List Int} {k : Nat} {b : Int} (h : Scan2 l A k b) (hk : (l[k]!).1 = 2 → A[k]! = 0) : Scan2 l A (k + 1) b := by
  rcases h with ⟨h1, h2⟩ | ⟨u, h1, h2⟩
  · refine Or.inl ⟨h1, fun j hj hs => ?_⟩
    rcases Nat.lt_or_ge j k with h3 | h3
    · exact h2 j h3 hs
    · have : j = k := by omega
      subst this
      exact hk hs
  · refine Or.inr ⟨u, h1, by have := h2.lt; omega, h2.side, h2.left, fun j hj hs hz => ?_⟩
    rcases Nat.lt_or_ge j k with h3 | h3
    · exact h2.best j h3 hs hz
    · have : j = k := by omega
      subst this
      exact absurd (hk hs) hz
theorem Scan1.take {l : List Bd} {A : List Int} {k : Nat} {b : Int} (h : Scan1 l A k b) (hs : (l[k]!).1 = 1) (hz : A[k]! ≠ 0) (hb : ∀ u : Nat, b = u → priceOf l u < priceOf l k) : Scan1 l A (k + 1) k := by
  refine Or.inr ⟨k, rfl, by omega, hs, hz, fun j hj hs1 hz1 => ?_⟩
  rcases Nat.lt_or_ge j k with h3 | h3
  · rcases h with ⟨_, h2⟩ | ⟨u, h1, h2⟩
    · exact absurd (h2 j h3 hs1) hz1
    · have := hb u h1
      have := h2.best j h3 hs1 hz1
      omega
  · have : j = k := by omega
    subst this
    omega
theorem Scan2.take {l : List Bd} {A : List Int} {k : Nat} {b : Int} (h : Scan2 l A k b) (hs : (l[k]!).1 = 2) (hz : A[k]! ≠ 0) (hb : ∀ u : Nat, b = u → priceOf l k < priceOf l u) : Scan2 l A (k + 1) k := by
  refine Or.inr ⟨k, rfl, by omega, hs, hz, fun j hj hs1 hz1 => ?_⟩
  rcases Nat.lt_or_ge j k with h3 | h3
  · rcases h with ⟨_, h2⟩ | ⟨u, h1, h2⟩
    · exact absurd (h2 j h3 hs1) hz1
    · have := hb u h1
      have := h2.best j h3 hs1 hz1
      omega
  · have : j = k := by omega
    subst this
    omega
theorem Scan1.keep {l : List Bd} {A : List Int} {k u : Nat} (h : Scan1 l A k u) (hb : priceOf l k ≤ priceOf l u) : Scan1 l A (k + 1) u := by
  rcases h with ⟨h1, _⟩ | ⟨v, h1, h2⟩
  · omega
  · have : u = v := by omega
    subst this
    refine Or.inr ⟨u, rfl, by have := h2.lt; omega, h2.side, h2.left, fun j hj hs hz => ?_⟩
    rcases Nat.lt_or_ge j k with h3 | h3
    · exact h2.best j h3 hs hz
    · have : j = k := by omega
      subst this
      exact hb
theorem Scan2.keep {l : List Bd} {A : List Int} {k u : Nat} (h : Scan2 l A k u) (hb : priceOf l u ≤ priceOf l k) : Scan2 l A (k + 1) u := by
  rcases h with ⟨h1, _⟩ | ⟨v, h1, h2⟩
  · omega
  · have : u = v := by omega
    subst this
    refine Or.inr ⟨u, rfl, by have := h2.lt; omega, h2.side, h2.left, fun j hj hs hz => ?_⟩
    rcases Nat.lt_or_ge j k with h3 | h3
    · exact h2.best j h3 hs hz
    · have : j = k := by omega
      subst this
      exact hb

theorem price_lt {l : List Bd} {u v k : Nat} {pu pp : Int} (hv : (u : Int) = (v : Int)) (h1 : priceOf l u = pu) (h2 : priceOf l k = pp) (h : pu < pp) : priceOf l v < priceOf l k := by
  have e : u = v := by omega
  subst e
  omega
theorem price_gt {l : List Bd} {u v k : Nat} {pu pp : Int} (hv : (u : Int) = (v : Int)) (h1 : priceOf l u = pu) (h2 : priceOf l k = pp) (h : pp < pu) : priceOf l k < priceOf l v := by
  have e : u = v := by omega
  subst e
  omega

theorem gainN_bd {l : List Bd} (hok : ∀ b ∈ l, okB b = true) {G : List Int} (hG : ∀ i, i < l.length → 0 ≤ G[i]! ∧ G[i]! ≤ qtyOf l i) (hn : l.length ≤ 40) : -40000000000000000 ≤ gainN l G ∧ gainN l G ≤ 40000000000000000 := by
  have hb : ∀ i, i < l.length → -1000000000000000 ≤ worthT l[i]! G[i]! ∧ worthT l[i]! G[i]! ≤ 1000000000000000 := fun i hi => by
    have hg := hG i hi
    unfold qtyOf at hg
    have := worth_bd (hok l[i]! (by rw [getElem!_pos l i hi]; exact List.getElem_mem hi)) hg
    exact ⟨this.1, this.2.1⟩
  have : ∀ n, n ≤ l.length → -(n : Int) * 1000000000000000 ≤ sumN n (fun i => worthT l[i]! G[i]!) ∧ sumN n (fun i => worthT l[i]! G[i]!) ≤ (n : Int) * 1000000000000000 := fun n => by
    induction n with
    | zero => intro _; simp [sumN]
    | succ n ih =>
      intro h
      have h1 := ih (by omega)
      have h2 := hb n (by omega)
      rw [sumN_succ]
      omega
  have h := this l.length (Nat.le_refl _)
  unfold gainN
  omega

set_option maxRecDepth 100000 in
set_option maxHeartbeats 8000000 in
theorem RGreatest_any (p : Option Addr) (cap : Nat) (l : List Bd) (w : World) (hn : l.length ≤ 40) (hL : At3 w p l) (hok : ∀ b ∈ l, okB b = true) : Calls Try.prog 38 #[.slice p l.length cap] w (GreatGot l w) := by
  obtain ⟨j0, hj, hj0, hj1, hj2⟩ := info_parts info2
  have HJ := Lib.hid hj
  have HJ0 := Lib.hid hj0
  have HJ1 := Lib.hid hj1
  have HJ2 := Lib.hid hj2
  obtain ⟨N, hNl⟩ : ∃ N, N = l.length := ⟨_, rfl⟩
  have HL := Lib.hid hL
  have HOK := Lib.hid hok
  have HN := Lib.hid hNl
  have hN40 : N ≤ 40 := by omega
  rw [← hNl]
  clear hL hok hNl hj hj0 hj1 hj2 hn
  go_enter Try.func38, Try.ntmps38
  go_upto_region 2 with (refine wpList_make_full _ rfl _ _ 36 rfl w.heap.size 2 j0 (.int .i64 0) 1 Try.underlying36 HJ.out HJ0.out HJ1.out .i64 .i64 (N : Int) (N : Int) N rfl rfl rfl rfl (by rw [HJ2.out]; omega) (by unfold maxLen; omega) (Nat.le_refl _) ?_; intro w1 ho hg; have HO := Lib.hid (made_rowI ho); have HA : Hid (Adds w w1) := Lib.hid ⟨hg.os, hg.tape, hg.output, hg.size, fun k hk => hg.block k hk (by simp)⟩; clear ho hg)
  obtain ⟨g, hg⟩ : ∃ b, b = w.heap.size := ⟨_, rfl⟩
  have HG : Hid (w.heap.size ≤ g) := Lib.hid (by omega)
  rw [← hg] at HO ⊢
  clear hg
  go_wp2
  go_loopw [4] (fun i wr => ∃ k : Nat, k ≤ N ∧ i = .int .i64 k ∧ Hid (RowI 2 .i64 wr g N (Filled ((l.take k).map fun b => b.2.2) N)) ∧ Hid (Adds w wr)) (fun i _ => N - (intOf i).toNat)
  case atStart => exact ⟨0, by omega, rfl, Lib.hid (by simpa [Filled] using HO.out), HA⟩
  case round =>
    obtain ⟨k, hk, rfl, hrow, hb⟩ := hrel
    clear HO HA
    have hkl : ((l.take k).map fun b => b.2.2).length = k := by rw [List.length_map, List.length_take]; have := HN.out; omega
    by_cases hlt : k < N
    · obtain ⟨⟨s, pp, q⟩, hb3⟩ : ∃ t, l[k]? = some t := ⟨_, List.getElem?_eq_getElem (by have := HN.out; omega)⟩
      obtain ⟨g5, off5, rfl, d0, d1, d2⟩ := HL.out k _ hb3
      have c2 := keep_cell hb.out d2
      have o0 := hrow.out.cell (j := k) (x := 0) (Filled.at hkl hlt)
      have o1 := hrow.out.free k
      have HR2 := Lib.hid (hrow.out.put k q)
      have HTN := Lib.hid (take_next hb3)
      have hkl' := Lib.hid hkl
      simp only at c2
      clear hb3 d0 d1 d2 hkl
      go_wp2
      refine ⟨⟨k + 1, by omega, by go_num, Lib.hid ?_, Lib.hid (hb.out.set HG.out _)⟩, by simp [intOf]; omega⟩
      rw [HTN.out, List.map_append, List.map_cons, List.map_nil, ← Filled.next hkl'.out hlt]
      exact HR2.out
    · have hkN : k = N := by omega
      have hfull : Filled ((l.take k).map fun b => b.2.2) N = l.map fun b => b.2.2 := by
        rw [List.take_of_length_le (by have := HN.out; omega)]
        exact Filled.full (by rw [List.length_map]; exact HN.out.symm)
      rw [hfull] at hrow
      obtain ⟨A0, hA0⟩ : ∃ A0, A0 = l.map fun b => b.2.2 := ⟨_, rfl⟩
      have hst := greedy_start HOK.out (A := A0) (by rw [hA0, List.length_map]) (fun i hi => by rw [hA0, getElem!_pos _ i (by rw [List.length_map]; exact hi), List.getElem_map]; unfold qtyOf; rw [getElem!_pos l i hi])
      rw [← hA0] at hrow
      have HGR : Hid (Greedy l A0) := Lib.hid hst.1
      have HZ : Hid (0 = gainN l (servedL l A0)) := Lib.hid hst.2.symm
      clear hkN hfull hkl hA0 hst
      go_wp2
      go_loopg [5] (totN A0) (fun gh v5 wr => ∃ (A : List Int) (z : Int), v5 = .int .i64 z ∧ Hid (z = gainN l (servedL l A)) ∧ Hid (Greedy l A) ∧ totN A ≤ gh ∧ Hid (RowI 2 .i64 wr g N A) ∧ Hid (Adds w wr))
      case atStart => exact ⟨A0, 0, rfl, HZ, HGR, Nat.le_refl _, hrow, hb⟩
      case round =>
        obtain ⟨A, z, rfl, hz, hgr, htot, hra, ha⟩ := hrel
        rename World => wo
        clear HGR HZ hrow hb
        go_wp2
        go_loopw [6, 7, 8] (fun v6 v7 v8 wx => ∃ (k : Nat) (bi si : Int), v6 = .int .i64 bi ∧ v7 = .int .i64 si ∧ v8 = .int .i64 k ∧ k ≤ N ∧ Hid (Scan1 l A k bi) ∧ Hid (Scan2 l A k si) ∧ Hid (Adds wo wx)) (fun _ _ v8 _ => N - (intOf v8).toNat)
        case atStart => exact ⟨0, -1, -1, rfl, rfl, rfl, by omega, Lib.hid (Or.inl ⟨rfl, fun j hj => by omega⟩), Lib.hid (Or.inl ⟨rfl, fun j hj => by omega⟩), Lib.hid (Adds.refl _)⟩
        case round =>
          obtain ⟨k, bi, si, rfl, rfl, rfl, hk2, h1, h2, hadd⟩ := hrel
          have hra2 := hra.out.later hadd.out
          by_cases hlt : k < N
          · obtain ⟨⟨s, pp, q⟩, hb3⟩ : ∃ t, l[k]? = some t := ⟨_, List.getElem?_eq_getElem (by have := HN.out; omega)⟩
            obtain ⟨y, hy⟩ : ∃ y, A[k]? = some y := ⟨_, List.getElem?_eq_getElem (by have := hgr.out.len; have := HN.out; omega)⟩
            obtain ⟨g5, off5, rfl, d0, d1, _⟩ := HL.out k _ hb3
            have a0 := hra2.cell hy
            have hlk : l[k]! = (s, pp, q) := get!_some hb3
            have hsd := side_of HOK.out (show k < l.length by rw [← HN.out]; exact hlt)
            have hAk : A[k]! = y := by rw [List.getElem!_eq_getElem?_getD, hy]; rfl
            have hpk : priceOf l k = pp := by unfold priceOf; rw [hlk]
            have hsk : (l[k]!).1 = s := by rw [hlk]
            rw [hsk] at hsd
            simp only at d0 d1
            have hki : (k : Int) < (N : Int) := by omega
            have HAK := Lib.hid hAk
            have HPK := Lib.hid hpk
            have HSK := Lib.hid hsk
            clear hb3 hy hlk hAk hpk hsk hra2
            have c0 := keep_cell (ha.out.trans hadd.out) d0
            have c1 := keep_cell (ha.out.trans hadd.out) d1
            by_cases hz0 : y = 0
            · subst hz0
              clear hsd
              go_wp2
              go_roundw
              case rel => exact ⟨k + 1, bi, si, rfl, rfl, by go_num, by omega, Lib.hid (h1.out.skip (fun _ => HAK.out)), Lib.hid (h2.out.skip (fun _ => HAK.out)), hadd⟩
              case measure => simp [intOf]; omega
            · have hyb : (y == 0) = false := beq_eq_false_iff_ne.2 hz0
              have HZ0 : Hid (A[k]! ≠ 0) := Lib.hid (by rw [HAK.out]; exact hz0)
              clear hz0
              rcases hsd with rfl | rfl
              · have hsk2 : Scan2 l A (k + 1) si := h2.out.skip (fun h => by rw [HSK.out] at h; omega)
                have HSC2 := Lib.hid hsk2
                clear hsk2
                rcases h1.out with ⟨hbi, _⟩ | ⟨u, hbi, hbest⟩
                · subst hbi
                  go_wp2_with fail
                  go_quiet (fail)
                  go_wp2_with fail
                  obtain ⟨w9, hw9⟩ : ∃ V, V = wr.drewN nq := ⟨_, rfl⟩
                  have HADD9 : Hid (Adds wo w9) := Lib.hid (by rw [hw9]; exact hadd.out.drewN nq)
                  rw [← hw9]
                  clear hw9 c0 c1
                  have c0 := keep_cell (ha.out.trans HADD9.out) d0
                  have c1 := keep_cell (ha.out.trans HADD9.out) d1
                  go_quiet (fail)
                  go_wp2
                  go_roundw
                  case rel => exact ⟨k + 1, k, si, rfl, rfl, by go_num, by omega, Lib.hid (h1.out.take HSK.out HZ0.out (fun u hu => by omega)), Lib.hid (HSC2.out), Lib.hid (HADD9.out.drewN _)⟩
                  case measure => simp [intOf]; omega
                · subst hbi
                  have hul := hbest.lt
                  obtain ⟨⟨su, pu, qu⟩, hbu⟩ : ∃ t, l[u]? = some t := ⟨_, List.getElem?_eq_getElem (by have := HN.out; omega)⟩
                  obtain ⟨_, _, he, _, du1, _⟩ := HL.out u _ hbu
                  cases he
                  have hpu : priceOf l u = pu := by unfold priceOf; rw [get!_some hbu]
                  simp only at du1
                  have hui : (u : Int) < (N : Int) := by omega
                  have hzu : decide ((u : Int) < 0) = false := decide_eq_false (by omega)
                  have e1 := keep_cell (ha.out.trans hadd.out) du1
                  have HPU := Lib.hid hpu
                  clear hbu hpu hbest
                  by_cases hpp : pu < pp
                  · have HPP := Lib.hid hpp
                    go_wp2_with fail
                    go_quiet (fail)
                    go_wp2_with fail
                    obtain ⟨w9, hw9⟩ : ∃ V, V = wr.drewN nq := ⟨_, rfl⟩
                    have HADD9 : Hid (Adds wo w9) := Lib.hid (by rw [hw9]; exact hadd.out.drewN nq)
                    rw [← hw9]
                    clear hw9 c0 c1 e1
                    have c0 := keep_cell (ha.out.trans HADD9.out) d0
                    have c1 := keep_cell (ha.out.trans HADD9.out) d1
                    have e1 := keep_cell (ha.out.trans HADD9.out) du1
                    go_quiet (fail)
                    go_wp2
                    go_roundw
                    case rel => exact ⟨k + 1, k, si, rfl, rfl, by go_num, by omega, Lib.hid (h1.out.take HSK.out HZ0.out (fun v hv => price_lt hv HPU.out HPK.out HPP.out)), Lib.hid (HSC2.out), Lib.hid (HADD9.out.drewN _)⟩
                    case measure => simp [intOf]; omega
                  · have HPP := Lib.hid hpp
                    have hpp2 : pp ≤ pu := by omega
                    have hppd : decide (pu < pp) = false := decide_eq_false hpp
                    go_wp2_with fail
                    go_quiet (fail)
                    go_wp2_with fail
                    obtain ⟨w9, hw9⟩ : ∃ V, V = wr.drewN nq := ⟨_, rfl⟩
                    have HADD9 : Hid (Adds wo w9) := Lib.hid (by rw [hw9]; exact hadd.out.drewN nq)
                    rw [← hw9]
                    clear hw9 c0 c1 e1
                    have c0 := keep_cell (ha.out.trans HADD9.out) d0
                    have c1 := keep_cell (ha.out.trans HADD9.out) d1
                    have e1 := keep_cell (ha.out.trans HADD9.out) du1
                    go_quiet (fail)
                    go_wp2
                    go_roundw
                    case rel => exact ⟨k + 1, u, si, rfl, rfl, by go_num, by omega, Lib.hid (h1.out.keep (by rw [HPU.out, HPK.out]; have := HPP.out; omega)), Lib.hid (HSC2.out), Lib.hid (HADD9.out.drewN _)⟩
                    case measure => simp [intOf]; omega
              · have hsk1 : Scan1 l A (k + 1) bi := h1.out.skip (fun h => by rw [HSK.out] at h; omega)
                have HSC1 := Lib.hid hsk1
                clear hsk1
                rcases h2.out with ⟨hbi, _⟩ | ⟨u, hbi, hbest⟩
                · subst hbi
                  go_wp2_with fail
                  go_quiet (fail)
                  go_wp2_with fail
                  obtain ⟨w9, hw9⟩ : ∃ V, V = wr.drewN nq := ⟨_, rfl⟩
                  have HADD9 : Hid (Adds wo w9) := Lib.hid (by rw [hw9]; exact hadd.out.drewN nq)
                  rw [← hw9]
                  clear hw9 c0 c1
                  have c0 := keep_cell (ha.out.trans HADD9.out) d0
                  have c1 := keep_cell (ha.out.trans HADD9.out) d1
                  go_quiet (fail)
                  go_wp2
                  go_roundw
                  case rel => exact ⟨k + 1, bi, k, rfl, rfl, by go_num, by omega, Lib.hid (HSC1.out), Lib.hid (h2.out.take HSK.out HZ0.out (fun u hu => by omega)), Lib.hid (HADD9.out.drewN _)⟩
                  case measure => simp [intOf]; omega
                · subst hbi
                  have hul := hbest.lt
                  obtain ⟨⟨su, pu, qu⟩, hbu⟩ : ∃ t, l[u]? = some t := ⟨_, List.getElem?_eq_getElem (by have := HN.out; omega)⟩
                  obtain ⟨_, _, he, _, du1, _⟩ := HL.out u _ hbu
                  cases he
                  have hpu : priceOf l u = pu := by unfold priceOf; rw [get!_some hbu]
                  simp only at du1
                  have hui : (u : Int) < (N : Int) := by omega
                  have hzu : decide ((u : Int) < 0) = false := decide_eq_false (by omega)
                  have e1 := keep_cell (ha.out.trans hadd.out) du1
                  have HPU := Lib.hid hpu
                  clear hbu hpu hbest
                  by_cases hpp : pp < pu
                  · have HPP := Lib.hid hpp
                    go_wp2_with fail
                    go_quiet (fail)
                    go_wp2_with fail
                    obtain ⟨w9, hw9⟩ : ∃ V, V = wr.drewN nq := ⟨_, rfl⟩
                    have HADD9 : Hid (Adds wo w9) := Lib.hid (by rw [hw9]; exact hadd.out.drewN nq)
                    rw [← hw9]
                    clear hw9 c0 c1 e1
                    have c0 := keep_cell (ha.out.trans HADD9.out) d0
                    have c1 := keep_cell (ha.out.trans HADD9.out) d1
                    have e1 := keep_cell (ha.out.trans HADD9.out) du1
                    go_quiet (fail)
                    go_wp2
                    go_roundw
                    case rel => exact ⟨k + 1, bi, k, rfl, rfl, by go_num, by omega, Lib.hid (HSC1.out), Lib.hid (h2.out.take HSK.out HZ0.out (fun v hv => price_gt hv HPU.out HPK.out HPP.out)), Lib.hid (HADD9.out.drewN _)⟩
                    case measure => simp [intOf]; omega
                  · have HPP := Lib.hid hpp
                    have hpp2 : pu ≤ pp := by omega
                    have hppd : decide (pp < pu) = false := decide_eq_false hpp
                    go_wp2_with fail
                    go_quiet (fail)
                    go_wp2_with fail
                    obtain ⟨w9, hw9⟩ : ∃ V, V = wr.drewN nq := ⟨_, rfl⟩
                    have HADD9 : Hid (Adds wo w9) := Lib.hid (by rw [hw9]; exact hadd.out.drewN nq)
                    rw [← hw9]
                    clear hw9 c0 c1 e1
                    have c0 := keep_cell (ha.out.trans HADD9.out) d0
                    have c1 := keep_cell (ha.out.trans HADD9.out) d1
                    have e1 := keep_cell (ha.out.trans HADD9.out) du1
                    go_quiet (fail)
                    go_wp2
                    go_roundw
                    case rel => exact ⟨k + 1, bi, u, rfl, rfl, by go_num, by omega, Lib.hid (HSC1.out), Lib.hid (h2.out.keep (by rw [HPU.out, HPK.out]; have := HPP.out; omega)), Lib.hid (HADD9.out.drewN _)⟩
                    case measure => simp [intOf]; omega
          · have hkN2 : k = N := by omega
            have hkl : k = l.length := by rw [hkN2]; exact HN.out
            have S1 : Hid (Scan1 l A l.length bi) := Lib.hid (by rw [← hkl]; exact h1.out)
            have S2 : Hid (Scan2 l A l.length si) := Lib.hid (by rw [← hkl]; exact h2.out)
            clear hkN2 hkl h1 h2
            rcases S1.out with ⟨hbi, hno⟩ | ⟨u, hbi, hb1⟩
            · subst hbi
              have HCL : Hid (Closed l A) := Lib.hid (fun i j hi _ h1 _ hz _ => absurd (hno i hi h1) hz)
              clear hno
              go_wp2_with fail
              go_quiet (fail)
              go_wp2
              go_ret
              exact ⟨A, hgr.out, HCL.out, ret_int hz.out, (ha.out.trans hadd.out).drewN _⟩
            · subst hbi
              have HB1 := Lib.hid hb1
              have hul : u < N := by have := hb1.lt; have := HN.out; omega
              obtain ⟨⟨su, pu, qu⟩, hbu⟩ : ∃ t, l[u]? = some t := ⟨_, List.getElem?_eq_getElem (by have := HN.out; omega)⟩
              obtain ⟨xu, hyu⟩ : ∃ y, A[u]? = some y := ⟨_, List.getElem?_eq_getElem (by have := hgr.out.len; have := HN.out; omega)⟩
              clear hb1
              obtain ⟨g5, off5, rfl, _, du, _⟩ := HL.out u _ hbu
              simp only at du
              have pue : priceOf l u = pu := by unfold priceOf; rw [get!_some hbu]
              have aue : A[u]! = xu := by rw [List.getElem!_eq_getElem?_getD, hyu]; rfl
              have ku := keep_cell (ha.out.trans hadd.out) du
              have au := (hra.out.later hadd.out).cell hyu
              have HPu := Lib.hid pue
              have HAu := Lib.hid aue
              have HYu := Lib.hid hyu
              have hiu : (u : Int) < (N : Int) := by omega
              have hzu : decide ((u : Int) < 0) = false := decide_eq_false (by omega)
              clear hbu hyu pue aue
              rcases S2.out with ⟨hsi, hno⟩ | ⟨v, hsi, hs1⟩
              · subst hsi
                have HCL : Hid (Closed l A) := Lib.hid (fun i j _ hj _ h2 _ hz => absurd (hno j hj h2) hz)
                clear hno
                go_wp2_with fail
                go_quiet (fail)
                go_wp2
                go_ret
                exact ⟨A, hgr.out, HCL.out, ret_int hz.out, (ha.out.trans hadd.out).drewN _⟩
              · subst hsi
                have HS1 := Lib.hid hs1
                have hvl : v < N := by have := hs1.lt; have := HN.out; omega
                obtain ⟨⟨sv, pv, qv⟩, hbv⟩ : ∃ t, l[v]? = some t := ⟨_, List.getElem?_eq_getElem (by have := HN.out; omega)⟩
                obtain ⟨xv, hyv⟩ : ∃ y, A[v]? = some y := ⟨_, List.getElem?_eq_getElem (by have := hgr.out.len; have := HN.out; omega)⟩
                clear hs1
                obtain ⟨_, _, he, _, dv, _⟩ := HL.out v _ hbv
                cases he
                simp only at dv
                have pve : priceOf l v = pv := by unfold priceOf; rw [get!_some hbv]
                have ave : A[v]! = xv := by rw [List.getElem!_eq_getElem?_getD, hyv]; rfl
                have kv := keep_cell (ha.out.trans hadd.out) dv
                have av := (hra.out.later hadd.out).cell hyv
                have HPv := Lib.hid pve
                have HAv := Lib.hid ave
                have HYv := Lib.hid hyv
                have hiv : (v : Int) < (N : Int) := by omega
                have hzv : decide ((v : Int) < 0) = false := decide_eq_false (by omega)
                clear hbv hyv pve ave
                by_cases hpp : pu ≤ pv
                · have HPP := Lib.hid hpp
                  have HCL : Hid (Closed l A) := Lib.hid (fun i j hi hj h1 h2 z1 z2 => by
                    have b1 := HB1.out.best i hi h1 z1
                    have b2 := HS1.out.best j hj h2 z2
                    rw [HPu.out] at b1
                    rw [HPv.out] at b2
                    have := HPP.out
                    omega)
                  go_wp2_with fail
                  go_quiet (fail)
                  go_wp2
                  go_ret
                  exact ⟨A, hgr.out, HCL.out, ret_int hz.out, (ha.out.trans hadd.out).drewN _⟩
                · have hppd : decide (pu ≤ pv) = false := decide_eq_false hpp
                  have hbu := hgr.out.bd u (HB1.out.lt)
                  have hbv := hgr.out.bd v (HS1.out.lt)
                  have hqu := qty_of HOK.out HB1.out.lt
                  have hqv := qty_of HOK.out HS1.out.lt
                  rw [HAu.out] at hbu
                  rw [HAv.out] at hbv
                  have hru := price_in HOK.out HB1.out.lt
                  have hrv := price_in HOK.out HS1.out.lt
                  unfold InR at hru hrv
                  rw [HPu.out] at hru
                  rw [HPv.out] at hrv
                  obtain ⟨mm, hmm⟩ : ∃ m, m = min xu xv := ⟨_, rfl⟩
                  obtain ⟨st1, st2, st3⟩ := greedy_step hgr.out HB1.out HS1.out (by rw [HPu.out, HPv.out]; omega) (m := mm) (by rw [HAu.out, HAv.out]; exact hmm)
                  rw [HAu.out, HAv.out] at st1 st2
                  rw [HPu.out, HPv.out] at st2
                  have hne : u ≠ v := fun e => by have h1 := HB1.out.side; have h2 := HS1.out.side; rw [e] at h1; omega
                  have hgb := gainN_bd HOK.out (G := servedL l A) (fun i hi => by rw [servedL_at hi]; have := hgr.out.bd i hi; omega) (by rw [← HN.out]; exact hN40)
                  have hgb2 := gainN_bd HOK.out (G := servedL l ((A.set u (xu - mm)).set v (xv - mm))) (fun i hi => by rw [servedL_at hi]; have := st1.bd i hi; omega) (by rw [← HN.out]; exact hN40)
                  have htn : totN ((A.set u (xu - mm)).set v (xv - mm)) < totN A := by
                    have t1 := totN_set A u (xu - mm) (by rw [hgr.out.len, ← HN.out]; exact hul) (by omega) (by rw [HAu.out]; omega)
                    have t2 := totN_set (A.set u (xu - mm)) v (xv - mm) (by rw [List.length_set, hgr.out.len, ← HN.out]; exact hvl) (by omega) (by rw [get!_set (by rw [hgr.out.len, ← HN.out]; exact hul), if_neg hne, HAv.out]; omega)
                    omega
                  obtain ⟨dd, hdd⟩ : ∃ d, d = pu - pv := ⟨_, rfl⟩
                  obtain ⟨pr, hpr⟩ : ∃ d, d = mm * dd := ⟨_, rfl⟩
                  obtain ⟨z2, hz2⟩ : ∃ d, d = z + pr := ⟨_, rfl⟩
                  have hzz : z2 = gainN l (servedL l ((A.set u (xu - mm)).set v (xv - mm))) := by rw [st2, hz2, hpr, hdd, hz.out]
                  have hprb : 0 ≤ pr ∧ pr ≤ 1000000000000000 := by
                    rw [hpr]
                    have h1 : mm * dd ≤ 1000000000 * 1000000 := Int.mul_le_mul (by omega) (by omega) (by omega) (by omega)
                    have h2 : 0 ≤ mm * dd := Int.mul_nonneg (by omega) (by omega)
                    omega
                  have hD := hdd.symm
                  have hDw : IntKind.i64.wrap dd = dd := IntWalk.i64_in _ (by omega)
                  have hP := hpr.symm
                  have hPw : IntKind.i64.wrap pr = pr := IntWalk.i64_in _ (by omega)
                  have hS := hz2.symm
                  have hSw : IntKind.i64.wrap z2 = z2 := IntWalk.i64_in _ (by rw [hzz]; omega)
                  have hM := hmm.symm
                  have hx1 : 0 ≤ xu - mm := by omega
                  have hx2 : xu - mm ≤ 1000000000 := by omega
                  have hx3 : 0 ≤ xv - mm := by omega
                  have hx4 : xv - mm ≤ 1000000000 := by omega
                  have hux : xu ≤ 1000000000 := by omega
                  have hvx : xv ≤ 1000000000 := by omega
                  have hmb : 0 ≤ mm := by omega
                  have hmb2 : mm ≤ 1000000000 := by omega
                  have hux0 : 0 ≤ xu := by omega
                  have hvx0 : 0 ≤ xv := by omega
                  have HST := Lib.hid st1
                  have HZZ := Lib.hid hzz
                  have HTN := Lib.hid htn
                  have hrow := hra.out.later hadd.out
                  have HROW := Lib.hid hrow
                  clear hrow st1 st2 st3 hgb hgb2 hdd hpr hz2 hzz hmm htn hbu hbv hqu hqv hru hrv hprb
                  go_wp2_with fail
                  go_quiet (fail)
                  go_wp2_with fail
                  obtain ⟨w9, hw9⟩ : ∃ V, V = wr.drewN nq := ⟨_, rfl⟩
                  have HADDw9 : Hid (Adds wo w9) := Lib.hid (by rw [hw9]; exact hadd.out.drewN nq)
                  have HROWw9 : Hid (RowI 2 .i64 w9 g N A) := Lib.hid (by rw [hw9]; exact HROW.out.drewN nq)
                  rw [← hw9]
                  clear hw9 au av ku kv
                  have au := HROWw9.out.cell HYu.out
                  have av := HROWw9.out.cell HYv.out
                  have ku := keep_cell (ha.out.trans HADDw9.out) du
                  have kv := keep_cell (ha.out.trans HADDw9.out) dv
                  go_quiet (fail)
                  go_wp2_with fail
                  obtain ⟨w10, hw10⟩ : ∃ V, V = w9.drewN nq := ⟨_, rfl⟩
                  have HADDw10 : Hid (Adds wo w10) := Lib.hid (by rw [hw10]; exact HADDw9.out.drewN nq)
                  have HROWw10 : Hid (RowI 2 .i64 w10 g N A) := Lib.hid (by rw [hw10]; exact HROWw9.out.drewN nq)
                  rw [← hw10]
                  clear hw10 au av ku kv
                  have au := HROWw10.out.cell HYu.out
                  have av := HROWw10.out.cell HYv.out
                  have ku := keep_cell (ha.out.trans HADDw10.out) du
                  have kv := keep_cell (ha.out.trans HADDw10.out) dv
                  go_quiet (fail)
                  go_upto_region 20 with fail
                  obtain ⟨w11, hw11⟩ : ∃ V, V = w10.drewN nq := ⟨_, rfl⟩
                  have HADDw11 : Hid (Adds wo w11) := Lib.hid (by rw [hw11]; exact HADDw10.out.drewN nq)
                  have HROWw11 : Hid (RowI 2 .i64 w11 g N A) := Lib.hid (by rw [hw11]; exact HROWw10.out.drewN nq)
                  rw [← hw11]
                  clear hw11 au av ku kv
                  have au := HROWw11.out.cell HYu.out
                  have av := HROWw11.out.cell HYv.out
                  have ku := keep_cell (ha.out.trans HADDw11.out) du
                  have kv := keep_cell (ha.out.trans HADDw11.out) dv
                  have fu := HROWw11.out.free u
                  have fv := HROWw11.out.free v
                  have HR1 := Lib.hid (HROWw11.out.put u (xu - mm))
                  have HR2 := Lib.hid ((HROWw11.out.put u (xu - mm)).put v (xv - mm))
                  have hlu : u < A.length := by rw [hgr.out.len, ← HN.out]; exact hul
                  have av2 := HR1.out.cell (j := v) (x := xv) (by rw [List.getElem?_set, if_neg hne]; exact HYv.out)
                  clear hlu
                  go_wp2
                  go_roundg (totN ((A.set u (xu - mm)).set v (xv - mm)))
                  case measure => have := HTN.out; omega
                  case rel => exact ⟨_, z2, rfl, HZZ, HST, Nat.le_refl _, HR2, Lib.hid ((((ha.out.trans HADDw11.out).set HG.out _).set HG.out _))⟩

end Go.Proofs.Ytigpghmbeldakaa
