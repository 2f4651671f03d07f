/- ranked: the bids of a side that take part, by their prices. -/
import Derived.Test.YtigpghmbeldakaaT
import Derived.Test.YtigpghmbeldakaaC
namespace Go.Proofs.Ytigpghmbeldakaa
open Go.RowKit

/-- The price of the i-th bid. -/
def priceOf (l : List Bd) (i : Nat) : Int := (l[i]!).2.1
/-- By what the bids of a side are ranked. -/
def keyT (l : List Bd) (side : Int) (i : Nat) : Int := if side = 1 then -priceOf l i else priceOf l i
/-- The i-th bid takes part on a side. -/
def partB (l : List Bd) (x side : Int) (i : Nat) : Bool := decide ((l[i]!).1 = side) && takesB l[i]! x
/-- The numbers of the bids that take part on a side. -/
def partT (l : List Bd) (x side : Int) (n : Nat) : List Int := ((List.range n).filter (partB l x side)).map Int.ofNat

theorem partT_next (l : List Bd) (x side : Int) (n : Nat) : partT l x side (n + 1) = partT l x side n ++ if partB l x side n then [(n : Int)] else [] := by
  unfold partT
  rw [List.range_succ, List.filter_append, List.map_append]
  congr 1
  by_cases h : partB l x side n <;> simp [h]
theorem partT_len (l : List Bd) (x side : Int) (n : Nat) : (partT l x side n).length ≤ n := by
  unfold partT
  rw [List.length_map]
  exact Nat.le_trans (List.length_filter_le _ _) (by simp)
theorem partT_in (l : List Bd) (x side : Int) (n : Nat) : ∀ i ∈ partT l x side n, 0 ≤ i ∧ i < n := by
  intro i hi
  unfold partT at hi
  obtain ⟨j, hj, rfl⟩ := List.mem_map.1 hi
  have := List.mem_range.1 (List.mem_filter.1 hj).1
  simp only [Int.ofNat_eq_natCast]
  omega
theorem partT_asc (l : List Bd) (x side : Int) (n : Nat) : (partT l x side n).Pairwise (fun a b => a < b) := by
  unfold partT
  rw [List.pairwise_map]
  exact (List.Pairwise.imp (fun {a b} h => by simp only [Int.ofNat_eq_natCast]; omega) (List.pairwise_lt_range (n := n))).filter _

theorem bcell' {W w1 : World} (hb : Below W.heap.size W w1) : (∀ b o, b < W.heap.size → w1.cell? ⟨b, o, none⟩ = W.cell? ⟨b, o, none⟩) := fun b o h => hb.cell (p := ⟨b, o, none⟩) h

theorem get!_some {l : List Bd} {i : Nat} {b : Bd} (h : l[i]? = some b) : l[i]! = b := by rw [List.getElem!_eq_getElem?_getD, h]; rfl

theorem cmp_neg (a b : Int) : cmpT a b = cmpT (-b) (-a) := by unfold cmpT; split <;> split <;> (try split) <;> (try split) <;> omega

set_option maxRecDepth 100000 in
set_option maxHeartbeats 2000000 in
theorem rank1_any (l : List Bd) (p : Option Addr) (cap sb xb : Nat) (side : Int) (i j : Nat) (hi : i < l.length) (hj : j < l.length) (w : World) (hN : l.length ≤ 5000) (hL : At3 w p l) (hs : w.cell? ⟨sb, 0, none⟩ = some (.int .i64 side)) (hx : w.cell? ⟨xb, 0, none⟩ = some (.slice p l.length cap)) :
    Calls Try.prog 98 #[.int .i64 i, .int .i64 j, .pointer (some ⟨sb, 0, none⟩), .pointer (some ⟨xb, 0, none⟩)] w fun e w' => e = .returned (.int .i64 (cmpT (keyT l side i) (keyT l side j))) ∧ ∃ q, w' = w.drewN q := by
  obtain ⟨⟨s1, p1, q1⟩, h1⟩ : ∃ t, l[i]? = some t := ⟨_, List.getElem?_eq_getElem hi⟩
  obtain ⟨⟨s2, p2, q2⟩, h2⟩ : ∃ t, l[j]? = some t := ⟨_, List.getElem?_eq_getElem hj⟩
  obtain ⟨g, off, rfl, _, c1, _⟩ := hL i _ h1
  obtain ⟨_, _, e', _, d1, _⟩ := hL j _ h2
  cases e'
  have HK : Hid (keyT l side i = if side = 1 then -p1 else p1) := Lib.hid (by unfold keyT priceOf; rw [get!_some h1])
  have HK2 : Hid (keyT l side j = if side = 1 then -p2 else p2) := Lib.hid (by unfold keyT priceOf; rw [get!_some h2])
  obtain ⟨N, hN'⟩ : ∃ N, N = l.length := ⟨_, rfl⟩
  rw [← hN'] at hi hj hN hx
  simp only at c1 d1
  clear h1 h2 hL hN'
  have hii : (i : Int) < (N : Int) := by omega
  have hjj : (j : Int) < (N : Int) := by omega
  by_cases hsd : side = 1
  · subst hsd
    have hc : ∀ W, Calls Try.prog 60 #[.int .i64 p2, .int .i64 p1] W fun e w' => e = .returned (.int .i64 (cmpT p2 p1)) ∧ w' = W := fun W => (cmp_i p2 p1 W).mono fun _ _ ⟨he, hw⟩ => ⟨he, hw.symm⟩
    have HR : Hid (cmpT p2 p1 = cmpT (keyT l 1 i) (keyT l 1 j)) := Lib.hid (by rw [HK.out, HK2.out, if_pos rfl, if_pos rfl, cmp_neg])
    generalize cmpT p2 p1 = r at hc HR
    go_enter Try.func98, Try.ntmps98
    go_wp2
    go_quiet ((go_at_call 60; exact Calls.quiet_of_same (hc _)))
    go_wp2
    go_ret
    exact ⟨ret_int HR.out, ⟨_, rfl⟩⟩
  · have hsd' : (side == 1) = false := beq_eq_false_iff_ne.2 hsd
    have hc : ∀ W, Calls Try.prog 60 #[.int .i64 p1, .int .i64 p2] W fun e w' => e = .returned (.int .i64 (cmpT p1 p2)) ∧ w' = W := fun W => (cmp_i p1 p2 W).mono fun _ _ ⟨he, hw⟩ => ⟨he, hw.symm⟩
    have HR : Hid (cmpT p1 p2 = cmpT (keyT l side i) (keyT l side j)) := Lib.hid (by rw [HK.out, HK2.out, if_neg hsd, if_neg hsd])
    generalize cmpT p1 p2 = r at hc HR
    go_enter Try.func98, Try.ntmps98
    go_wp2
    go_quiet ((go_at_call 60; exact Calls.quiet_of_same (hc _)))
    go_wp2
    go_ret
    exact ⟨ret_int HR.out, ⟨_, rfl⟩⟩

theorem At3.touch {O : Nat → Prop} {w0 w W : World} {p : Option Addr} {l : List (Int × Int × Int)} (h : At3 w0 p l) (hb : Adds w0 w) (hW : Touch O w W) (hO : ∀ i, O i → w0.heap.size ≤ i) : At3 W p l := fun i x hx => by
  obtain ⟨g, off, e, h0, h1, h2⟩ := h i x hx
  have hg := cell_lt h0
  have hn : ¬ O g := fun ho => by have := hO g ho; omega
  exact ⟨g, off, e, touch_cell hW hn (keep_cell hb h0), touch_cell hW hn (keep_cell hb h1), touch_cell hW hn (keep_cell hb h2)⟩

/-- The bids of a side that take part, ranked. -/
def RankOf (l : List Bd) (x side : Int) (R : List Int) : Prop := R.Perm (partT l x side l.length) ∧ LexSorted (keyT l side) R

/-- What ranked returns. -/
def RankGot (l : List Bd) (x side : Int) (w : World) (e : Ending) (w' : World) : Prop :=
  ∃ v R, RankOf l x side R ∧ e = .returned v ∧ w'.ownsRow w.heap.size 3 1 v R.length (R.map (Value.int .i64)) ∧ Adds w w'

set_option maxRecDepth 100000 in
set_option maxHeartbeats 4000000 in
theorem ranked_any (m : Nat) (hst : StableUpTo m) (p : Option Addr) (cap : Nat) (l : List Bd) (x side : Int) (w : World) (hN : l.length ≤ 5000) (hm : l.length ≤ m) (hL : At3 w p l) (hok : ∀ b ∈ l, okB b = true) :
    Calls Try.prog 88 #[.slice p l.length cap, .int .i64 x, .int .i64 side] w (RankGot l x side w) := by
  obtain ⟨j0, hj, hj0, hj1, hj2⟩ := info_parts info3
  have HJ := Lib.hid hj
  have HJ0 := Lib.hid hj0
  have HJ1 := Lib.hid hj1
  have HJ2 := Lib.hid hj2
  obtain ⟨N, hNl⟩ : ∃ N, N = l.length := ⟨_, rfl⟩
  have HL := Lib.hid hL
  have HO := Lib.hid hok
  have HST := Lib.hid hst
  have HMM := Lib.hid hm
  rw [← hNl] at hN ⊢
  have HN := Lib.hid hNl
  clear hL hok hst hm hNl hj hj0 hj1 hj2
  go_enter Try.func88, Try.ntmps88
  go_wp2
  obtain ⟨W2, hW2⟩ : ∃ V, V = (w.alloc (.cells #[.slice p N cap] 25)).alloc (.cells #[.int .i64 side] 3) := ⟨_, rfl⟩
  have A2 : Adds w W2 := by rw [hW2]; exact ((Adds.refl w).alloc _).alloc _
  have z2 : W2.heap.size = w.heap.size + 1 + 1 := by rw [hW2]; simp
  have X0 : Box W2 w.heap.size #[.slice p N cap] 25 := by rw [hW2]; exact (Box.new w _ _).alloc _
  have X1 : Box W2 (w.heap.size + 1) #[.int .i64 side] 3 := by rw [hW2]; have := Box.new (w.alloc (.cells #[.slice p N cap] 25)) #[.int .i64 side] 3; simpa using this
  rw [← hW2]
  clear hW2
  have HA2 := Lib.hid A2
  have HX0 := Lib.hid X0
  have HX1 := Lib.hid X1
  have HZ2 := Lib.hid z2
  clear A2 z2 X0 X1
  go_loopw [7, 12] (fun v i wr => ∃ k : Nat, k ≤ N ∧ i = .int .i64 k ∧ Hid (wr.ownsRow W2.heap.size 3 1 v (partT l x side k).length ((partT l x side k).map (Value.int .i64))) ∧ Adds W2 wr) (fun _ i _ => N - (intOf i).toNat)
  case atStart => exact ⟨0, by omega, rfl, Lib.hid (World.ownsRow_nil _ _ _ _), Adds.refl W2⟩
  case round =>
    obtain ⟨k, hk, rfl, hrow, hb⟩ := hrel
    by_cases hlt : k < N
    · obtain ⟨⟨s, pp, q⟩, hb3⟩ : ∃ t, l[k]? = some t := ⟨_, List.getElem?_eq_getElem (by have := HN.out; omega)⟩
      obtain ⟨g, off, rfl, d0, d1, d2⟩ := HL.out k _ hb3
      have c0 := keep_cell hb (keep_cell HA2.out d0)
      have c1 := keep_cell hb (keep_cell HA2.out d1)
      have c2 := keep_cell hb (keep_cell HA2.out d2)
      have y1 := keep_cell (v := .int .i64 side) hb (HX1.out.cell 0)
      have hz2 := HZ2.out
      have hzb := hb.size
      have hzw : w.heap.size + 1 < wr.heap.size := by omega
      have hpl := partT_len l x side k
      have HP : Hid (partT l x side (k + 1) = partT l x side k ++ if (decide (s = side) && takesB (s, pp, q) x) then [(k : Int)] else []) := Lib.hid (by rw [partT_next]; unfold partB; rw [get!_some hb3])
      simp only at c0 c1 c2
      have HB := Lib.hid hb
      clear d0 d1 d2 hb3 hb hz2 hzb
      have htk := fun W => takes_any s pp q x W
      by_cases hs : s = side
      · subst hs
        cases ht : takesB (s, pp, q) x with
        | true =>
          rw [ht] at htk HP
          clear ht
          go_wp2_with (first
            | (go_at_call 57; refine (htk _).mono ?_; rintro e w1 ⟨rfl, hb1⟩; have A1 := Lib.hid ((HB.out.alloc _).trans hb1); have O1 := Lib.hid ((hrow.out.alloc (.cells #[.int .i64 s, .int .i64 pp, .int .i64 q] 75)).kept (row := none) ⟨hb1.os, hb1.tape, hb1.output, hb1.size, fun k hk _ => hb1.block k hk⟩ (by cases h' : Value.ownBlock u7 with | none => exact .inl rfl | some k => exact .inr (by simp))); clear hb1)
            | (at_builtin; ((refine wpList_append_own _ rfl _ _ 107 rfl W2.heap.size 3 j0 (.int .i64 0) 1 8 Try.underlying107 HJ.out HJ0.out HJ1.out HJ2.out rfl (by decide) u7 (partT l x s k).length _ rfl (O1.out.alloc _) ⟨w1.heap.size, 0, none⟩ 1 1 [.int .i64 k] rfl rfl (World.news_of_block (Box.new w1 #[.int .i64 k] 3)) (by simp [Value.oneCell']) (by unfold maxLen; omega) (by omega) (by have := A1.out.size; simp; omega) ?_); intro va1 w2 hra1 hg1 _; have HR1 := Lib.hid hra1; have HG1 := Lib.hid hg1; clear hra1 hg1)))
          refine ⟨⟨k + 1, by omega, by go_num, Lib.hid ?_, Below.grown (A1.out.alloc _) HG1.out (by have := A1.out.size; simp; omega) (fun j hj => (O1.out.lt j hj).1)⟩, by simp [intOf]; omega⟩
          rw [HP.out]
          simp only [decide_true, Bool.and_self, if_true, List.length_append, List.length_singleton, List.map_append, List.map_cons, List.map_nil]
          exact HR1.out
        | false =>
          rw [ht] at htk HP
          clear ht
          go_wp2_with (go_at_call 57; refine (htk _).mono ?_; rintro e w1 ⟨rfl, hb1⟩; have A1 := Lib.hid ((HB.out.alloc _).trans hb1); have O1 := Lib.hid ((hrow.out.alloc (.cells #[.int .i64 s, .int .i64 pp, .int .i64 q] 75)).kept (row := none) ⟨hb1.os, hb1.tape, hb1.output, hb1.size, fun k hk _ => hb1.block k hk⟩ (by cases h' : Value.ownBlock u7 with | none => exact .inl rfl | some k => exact .inr (by simp))); clear hb1)
          refine ⟨⟨k + 1, by omega, by go_num, Lib.hid ?_, A1.out⟩, by simp [intOf]; omega⟩
          rw [HP.out]
          simpa using O1.out
      · have hs' : (s == side) = false := beq_eq_false_iff_ne.2 hs
        have HS := Lib.hid hs
        clear hs
        go_wp2
        refine ⟨⟨k + 1, by omega, by go_num, Lib.hid ?_, HB.out.alloc _⟩, by simp [intOf]; omega⟩
        rw [HP.out, decide_eq_false HS.out]
        simpa using hrow.out.alloc (.cells #[.int .i64 s, .int .i64 pp, .int .i64 q] 75)
    · have hkN : k = N := by omega
      have hkl : k = l.length := by have := HN.out; omega
      rw [hkl] at hrow
      have hor := (own_rowI hrow.out).2
      have hzz := HZ2.out
      have HB := Lib.hid hb
      clear hb hkl hkN
      rcases hor with ⟨hv, hnil⟩ | ⟨g, cap', hv, hbase, hri⟩
      · subst hv
        have HNIL := Lib.hid hnil
        clear hnil hrow hzz
        go_wp2_with (go_at_call 79; refine (stable_nil 0 98 _ _).mono ?_; rintro e w3 ⟨rfl, rfl⟩)
        go_ret
        exact ⟨.slice none 0 0, [], ⟨by rw [HNIL.out], List.Pairwise.nil⟩, rfl, World.ownsRow_nil _ _ _ _, HA2.out.trans HB.out⟩
      · subst hv
        have hgw : w.heap.size + 1 < g := by omega
        have hcmp : ∀ (i j : Nat), i < l.length → j < l.length → ∀ W, Touch (fun k => k = g) wr W → Calls Try.prog 98 (#[.int .i64 i, .int .i64 j] ++ #[.pointer (some ⟨w.heap.size + 1, 0, none⟩), .pointer (some ⟨w.heap.size, 0, none⟩)]) W fun e w' => e = .returned (.int .i64 (cmpT (keyT l side i) (keyT l side j))) ∧ ∃ q, w' = W.drewN q := fun i j hi hj W hW =>
          rank1_any l p cap (w.heap.size + 1) w.heap.size side i j hi hj W (by have := HN.out; omega) (HL.out.touch (HA2.out.trans HB.out) hW (fun i hi => by omega))
            (touch_cell hW (by omega) (keep_cell HB.out (HX1.out.cell 0)))
            (touch_cell hW (by omega) (by rw [← HN.out]; exact keep_cell HB.out (HX0.out.cell 0)))
        have hcon := HST.out g cap' 98 #[.pointer (some ⟨w.heap.size + 1, 0, none⟩), .pointer (some ⟨w.heap.size, 0, none⟩)] l.length (keyT l side) (partT l x side l.length) wr (Nat.le_trans (partT_len _ _ _ _) HMM.out) (partT_in _ _ _ _) (partT_asc _ _ _ _) hri (fun args w => enters_of Try.func98 (by kernel_rfl) rfl args w) hcmp
        have HCO := Lib.hid hcon
        have HBA := Lib.hid hbase
        have HZZ := Lib.hid hzz
        clear hri hbase hrow hzz hcmp hcon hgw
        go_wp2_with (go_at_call 79; refine HCO.out.mono ?_; rintro e w3 ⟨rfl, R, r1, r2, r3, r4⟩; have R1 := Lib.hid r1; have R2 := Lib.hid r2; have R3 := Lib.hid r3; have R4 := Lib.hid r4; clear r1 r2 r3 r4)
        go_ret
        refine ⟨.slice (some ⟨g, 0, none⟩) R.length cap', R, ⟨R1.out, R2.out⟩, by rw [R1.out.length_eq]; rfl, R3.out.own (by have := HBA.out; have := HZZ.out; omega), Touch.adds (HA2.out.trans HB.out) R4.out (fun i hi => by rw [hi]; have := HBA.out; have := HZZ.out; omega)⟩

end Go.Proofs.Ytigpghmbeldakaa
