/- byShare: shares by largest remainders, in the program. -/
import Derived.Test.YtigpghmbeldakaaBD
import Derived.Test.YtigpghmbeldakaaBE
import Derived.Test.YtigpghmbeldakaaBF
import Derived.Test.YtigpghmbeldakaaV
import Derived.Deep.DeepCutAuto
import Derived.Deep.RegionWith
namespace Go.Proofs.Ytigpghmbeldakaa
open Go.RowKit

/-- A row that make has laid. -/
theorem made_rowI {t : TypeId} {k : IntKind} {w : World} {b n : Nat} (ho : w.ownsRow b t 1 (.slice (some ⟨b, 0, none⟩) n n) n (madeCells (Value.int k 0).cells (n * 1)).toList) : RowI t k w b n (List.replicate n 0) := by
  have hor := (own_rowI (made_row ho)).2
  rcases hor with ⟨h, _⟩ | ⟨g', cap', h, _, h2⟩
  · simp at h
  · simp only [Value.slice.injEq, Option.some.injEq, Addr.mk.injEq, and_true] at h
    obtain ⟨rfl, h3, rfl⟩ := h
    exact h2

set_option maxRecDepth 100000 in
set_option maxHeartbeats 1000000 in
theorem less_any (rests : List Int) (rb gr capr n : Nat) (i j : Nat) (key : Nat → Int) (hn : n = rests.length) (hN : n ≤ 5000) (hi : i < n) (hj : j < n) (hk : ∀ k x, rests[k]? = some x → key k = -x) (w : World) (hr : RowI 46 .u64 w gr capr rests) (hb : w.cell? ⟨rb, 0, none⟩ = some (.slice (some ⟨gr, 0, none⟩) n capr)) :
    Calls Try.prog 80 #[.int .i64 i, .int .i64 j, .pointer (some ⟨rb, 0, none⟩)] w fun e w' => e = .returned (.int .i64 (cmpT (key i) (key j))) ∧ ∃ q, w' = w.drewN q := by
  obtain ⟨x, hx⟩ : ∃ x, rests[i]? = some x := ⟨_, List.getElem?_eq_getElem (by omega)⟩
  obtain ⟨y, hy⟩ : ∃ x, rests[j]? = some x := ⟨_, List.getElem?_eq_getElem (by omega)⟩
  have c1 := hr.cell hx
  have c2 := hr.cell hy
  have HK : Hid (cmpT (key i) (key j) = cmpT y x) := Lib.hid (by rw [hk i x hx, hk j y hy, ← cmp_neg])
  have hc : ∀ W, Calls Try.prog 81 #[.int .u64 y, .int .u64 x] W fun e w' => e = .returned (.int .i64 (cmpT y x)) ∧ w' = W := fun W => (cmp_u y x W).mono fun _ _ ⟨he, hw⟩ => ⟨he, hw.symm⟩
  rw [HK.out]
  generalize cmpT y x = c at hc
  have hii : (i : Int) < (n : Int) := by omega
  have hjj : (j : Int) < (n : Int) := by omega
  clear hx hy hr hk HK hn
  go_enter Try.func80, Try.ntmps80
  go_wp2
  go_quiet ((go_at_call 81; exact Calls.quiet_of_same (hc _)))
  go_wp2
  go_ret
  exact ⟨rfl, ⟨_, rfl⟩⟩

theorem left_k_bd {S t : Int} {ws : List Int} {k : Nat} (hS : 0 < S) (hSe : S = ws.sum) (ht : 0 ≤ t) (hw : ∀ x ∈ ws, 0 ≤ x) :
    0 ≤ t - ((ws.take k).map fun x => t * x / S).sum ∧ t - ((ws.take k).map fun x => t * x / S).sum ≤ t := by
  have hnn : ∀ l : List Int, (∀ x ∈ l, 0 ≤ x) → 0 ≤ (l.map fun x => t * x / S).sum := by
    intro l
    induction l with
    | nil => intro _; simp
    | cons x l ih =>
      intro h
      have h1 := ih (fun y hy => h y (by simp [hy]))
      have h2 : 0 ≤ t * x / S := Int.ediv_nonneg (Int.mul_nonneg ht (h x (by simp))) (by omega)
      simp only [List.map_cons, List.sum_cons]
      omega
  have h1 := hnn (ws.take k) (fun x hx => hw x (List.mem_of_mem_take hx))
  have h2 := hnn (ws.drop k) (fun x hx => hw x (List.mem_of_mem_drop hx))
  have h3 : (ws.map fun x => t * x / S).sum = ((ws.take k).map fun x => t * x / S).sum + ((ws.drop k).map fun x => t * x / S).sum := by
    rw [← List.sum_append, ← List.map_append, List.take_append_drop]
  have h4 := (left_bd2 (t := t) (ws := ws) (by omega)).1
  unfold shareLeft at h4
  rw [← hSe] at h4
  omega

theorem numsT_succ (n : Nat) : numsT (n + 1) = numsT n ++ [(n : Int)] := by
  unfold numsT
  rw [List.range_succ, List.map_append]
  rfl
theorem keep_far {w : World} {b o : Nat} {v : Value} {p : Addr} (hp : b ≠ p.block) (h : w.cell? ⟨b, o, none⟩ = some v) (u : Value) : (w.setCell p u).cell? ⟨b, o, none⟩ = some v :=
  (World.cell?_of_block (w := w) (a := ⟨b, o, none⟩) (Below.heap_setCell w p u b hp)).trans h

/-- Some of them, raised by one. -/
def bumpT (Q R : List Int) (j : Nat) : List Int := (List.range Q.length).map fun i : Nat => Q[i]! + if (i : Int) ∈ R.take j then 1 else 0

theorem bumpT_len (Q R : List Int) (j : Nat) : (bumpT Q R j).length = Q.length := by simp [bumpT]
theorem bumpT_at {Q R : List Int} {j i : Nat} (h : i < Q.length) : (bumpT Q R j)[i]? = some (Q[i]! + if (i : Int) ∈ R.take j then 1 else 0) := by
  unfold bumpT
  rw [List.getElem?_map, List.getElem?_range h, Option.map_some]
theorem bumpT_zero (Q R : List Int) : bumpT Q R 0 = Q := by
  apply List.ext_getElem?
  intro i
  by_cases h : i < Q.length
  · rw [bumpT_at h, List.take_zero, getElem!_pos Q i h, List.getElem?_eq_getElem h]
    simp
  · rw [List.getElem?_eq_none (by rw [bumpT_len]; omega), List.getElem?_eq_none (by omega)]
theorem bumpT_next {Q R : List Int} {j m : Nat} (hR : R.Nodup) (hj : R[j]? = some (m : Int)) (hm : m < Q.length) : (bumpT Q R j)[m]? = some Q[m]! ∧ (bumpT Q R j).set m (Q[m]! + 1) = bumpT Q R (j + 1) := by
  obtain ⟨h1, h2⟩ := List.getElem?_eq_some_iff.1 hj
  have hn : (m : Int) ∉ R.take j := by
    intro h
    obtain ⟨i, hi, he⟩ := List.getElem_of_mem h
    rw [List.length_take] at hi
    rw [List.getElem_take] at he
    have := (List.pairwise_iff_getElem.1 hR) i j (by omega) h1 (by omega)
    exact this (by rw [he, h2])
  constructor
  · rw [bumpT_at hm, if_neg hn, Int.add_zero]
  · apply List.ext_getElem?
    intro i
    by_cases hi : i < Q.length
    · rw [List.getElem?_set, bumpT_at hi, bumpT_len, bumpT_at hi]
      have ht : R.take (j + 1) = R.take j ++ [(m : Int)] := by rw [List.take_succ_eq_append_getElem h1, h2]
      by_cases he : m = i
      · subst he
        rw [if_pos rfl, if_pos hi, ht]
        simp
      · rw [if_neg he, ht]
        have : ((i : Int) ∈ R.take j ++ [(m : Int)]) ↔ (i : Int) ∈ R.take j := by
          rw [List.mem_append, List.mem_singleton]
          constructor
          · rintro (h | h)
            · exact h
            · omega
          · exact Or.inl
        simp only [this]
    · rw [List.getElem?_eq_none (by rw [List.length_set, bumpT_len]; omega), List.getElem?_eq_none (by rw [bumpT_len]; omega)]
theorem bumpT_share {t : Int} {ws R : List Int} {z : Nat} (hR : R.Perm (numsT ws.length)) (hs : R.Pairwise (lexLt (shareKey t ws))) (hz : (z : Int) = shareLeft t ws) : bumpT (ws.map fun x => t * x / ws.sum) R z = shareT t ws := by
  unfold bumpT shareT
  rw [List.length_map]
  apply List.map_congr_left
  intro i hi
  have hi := List.mem_range.1 hi
  rw [← hz, getElem!_pos ws i hi, getElem!_pos (ws.map fun x => t * x / ws.sum) i (by rw [List.length_map]; exact hi), List.getElem_map]
  congr 1
  have := mem_take_iff (k := z) hR hs hi
  by_cases h : rankOf (shareKey t ws) ws.length i < z
  · rw [if_pos (this.2 h), if_pos (by omega)]
  · rw [if_neg (fun h2 => h (this.1 h2)), if_neg (by omega)]

/-- The rows of a sharing under way: the quotients, the remainders, the numbers. -/
structure Sharing (W w : World) (S t : Nat) (ws : List Int) (bl br bo bx N k : Nat) : Prop where
  l : RowI 2 .i64 w bl N (Filled ((ws.take k).map fun x => (t : Int) * x / S) N)
  r : RowI 46 .u64 w br N (Filled ((ws.take k).map fun x => (t : Int) * x % S) N)
  o : RowI 3 .i64 w bo N (Filled ((numsT k)) N)
  x : w.cell? ⟨bx, 0, none⟩ = some (.slice (some ⟨br, 0, none⟩) N N)
  adds : Adds W w

set_option maxRecDepth 100000 in
set_option maxHeartbeats 4000000 in
theorem byShare_any (m : Nat) (hst : StableUpTo m) (hm : m ≤ 5000) (t : Nat) (p : Option Addr) (cap : Nat) (ws : List Int) (w : World) (hN : ws.length ≤ m) (hL : At1 .i64 w p ws) (hq : qOk ws) (h0 : 0 < t) (h1 : (t : Int) ≤ ws.sum) :
    Calls Try.prog 55 #[.int .i64 t, .slice p ws.length cap] w (RowGot 2 (shareT t ws) w) := by
  obtain ⟨j0, hj, hj0, hj1, hj2⟩ := info_parts info2
  obtain ⟨k0, hk, hk0, hk1, hk2⟩ := info_parts info46
  obtain ⟨l0, hl, hl0, hl1, hl2⟩ := info_parts info3
  have HJ := Lib.hid hj
  have HJ0 := Lib.hid hj0
  have HJ1 := Lib.hid hj1
  have HJ2 := Lib.hid hj2
  have HK := Lib.hid hk
  have HK0 := Lib.hid hk0
  have HK1 := Lib.hid hk1
  have HK2 := Lib.hid hk2
  have HM := Lib.hid hl
  have HM0 := Lib.hid hl0
  have HM1 := Lib.hid hl1
  have HM2 := Lib.hid hl2
  have hsum := fun W hW => sum_any p cap ws W (by omega) hW hq
  have hSb := (sum_take_bd ws hq).2
  obtain ⟨S, hS⟩ : ∃ S : Nat, (S : Int) = ws.sum := ⟨ws.sum.toNat, by omega⟩
  obtain ⟨N, hNl⟩ : ∃ N, N = ws.length := ⟨_, rfl⟩
  rw [← hS] at hsum h1 hSb
  rw [← hNl] at hsum hN hSb ⊢
  have HS := Lib.hid hsum
  have HSE := Lib.hid hS
  have HN := Lib.hid hNl
  have HL := Lib.hid hL
  have HQ := Lib.hid hq
  have HST := Lib.hid hst
  have hN0 : 0 < N := by
    rcases Nat.eq_zero_or_pos N with h | h
    · rw [h] at hSb; simp at hSb; omega
    · exact h
  clear hj hj0 hj1 hj2 hk hk0 hk1 hk2 hl hl0 hl1 hl2 hsum hS hNl hL hq hst
  have ht0 : ((t : Int) == 0) = false := beq_eq_false_iff_ne.2 (by omega)
  have hS0 : (N : Int) ≤ 5000 := by omega
  have hS1 : S ≤ 5000000000000 := by omega
  clear hS0
  have hN5 : N ≤ 5000 := by omega
  go_enter Try.func55, Try.ntmps55
  go_upto_region 5 with (first
    | (refine wpList_make_full _ rfl _ _ 36 rfl w.heap.size 2 j0 (.int .i64 0) 1 Try.underlying36 HJ.out HJ0.out HJ1.out .i64 .i64 (N : Int) (N : Int) N rfl rfl rfl rfl (by rw [HJ2.out]; omega) (by unfold maxLen; omega) (Nat.le_refl _) ?_; intro w1 ho hg; have HO := Lib.hid (made_rowI ho); have HA : Hid (Adds w w1) := Lib.hid ⟨hg.os, hg.tape, hg.output, hg.size, fun k hk => hg.block k hk (by simp)⟩; clear ho hg)
    | (go_at_call 54; refine (HS.out _ (HL.out.later HA.out)).mono ?_; rintro e w1 ⟨rfl, rfl⟩))
  go_upto_region 6 with (refine wpList_make_full _ rfl _ _ 106 rfl w1.heap.size 46 k0 (.int .u64 0) 1 Try.underlying106 HK.out HK0.out HK1.out .i64 .i64 (N : Int) (N : Int) N rfl rfl rfl rfl (by rw [HK2.out]; omega) (by unfold maxLen; omega) (Nat.le_refl _) ?_; intro w2 ho hg; have HO2 := Lib.hid (made_rowI ho); have HA2 : Hid (Adds w1 w2) := Lib.hid ⟨hg.os, hg.tape, hg.output, hg.size, fun k hk => hg.block k hk (by simp)⟩; clear ho hg)
  obtain ⟨W3, hW3⟩ : ∃ V, V = w2.alloc (.cells #[.slice (some ⟨w1.heap.size, 0, none⟩) N N] 106) := ⟨_, rfl⟩
  obtain ⟨bl, hbl⟩ : ∃ b, b = w.heap.size := ⟨_, rfl⟩
  obtain ⟨br, hbr⟩ : ∃ b, b = w1.heap.size := ⟨_, rfl⟩
  obtain ⟨bx, hbx⟩ : ∃ b, b = w2.heap.size := ⟨_, rfl⟩
  have X0 : Box W3 bx #[.slice (some ⟨br, 0, none⟩) N N] 106 := by rw [hW3, hbx, hbr]; exact Box.new _ _ _
  have HX := Lib.hid X0
  have A3 : Hid (Adds w W3) := Lib.hid (by rw [hW3]; exact (HA.out.trans HA2.out).alloc _)
  have L3 : Hid (RowI 2 .i64 W3 bl N (List.replicate N 0)) := Lib.hid (by rw [hW3, hbl]; exact (HO.out.later HA2.out).later ((Adds.refl _).alloc _))
  have Q3 : Hid (RowI 46 .u64 W3 br N (List.replicate N 0)) := Lib.hid (by rw [hW3, hbr]; exact HO2.out.later ((Adds.refl _).alloc _))
  have hz1 := HO.out.lt
  have hz2 := HO2.out.lt
  have hz3 := HX.out.lt
  rw [← hbl] at hz1
  rw [← hbr] at hz2 hz1
  rw [← hbx] at hz2
  rw [← hW3, ← hbl, ← hbr, ← hbx]
  have HBL := Lib.hid hbl
  clear HO HO2 HA HA2 X0 hW3 hbl hbr hbx
  go_upto_region 7 with (refine wpList_make_full _ rfl _ _ 107 rfl W3.heap.size 3 l0 (.int .i64 0) 1 Try.underlying107 HM.out HM0.out HM1.out .i64 .i64 (N : Int) (N : Int) N rfl rfl rfl rfl (by rw [HM2.out]; omega) (by unfold maxLen; omega) (Nat.le_refl _) ?_; intro w4 ho hg; have HO4 := Lib.hid (made_rowI ho); have HA4 : Hid (Adds W3 w4) := Lib.hid ⟨hg.os, hg.tape, hg.output, hg.size, fun k hk => hg.block k hk (by simp)⟩; clear ho hg)
  obtain ⟨bo, hbo⟩ : ∃ b, b = W3.heap.size := ⟨_, rfl⟩
  rw [← hbo] at hz3 HO4
  rw [← hbo]
  have hsh : Hid (Sharing w w4 S t ws bl br bo bx N 0) := Lib.hid ⟨by simpa [Filled] using L3.out.later HA4.out, by simpa [Filled] using Q3.out.later HA4.out, by simpa [Filled, numsT] using HO4.out, keep_cell HA4.out (HX.out.cell 0), A3.out.trans HA4.out⟩
  clear hbo HO4 HA4 A3 L3 Q3 HX
  have h00 : Hid ((t : Int) = (t : Int) - ((ws.take 0).map fun x => (t : Int) * x / S).sum) := Lib.hid (by simp)
  go_wp2
  go_loopw [6, 31] (fun v6 v31 wr => ∃ (k : Nat) (z : Int), k ≤ N ∧ v31 = .int .i64 k ∧ v6 = .int .i64 z ∧ Hid (z = (t : Int) - ((ws.take k).map fun x => (t : Int) * x / S).sum) ∧ Hid (Sharing w wr S t ws bl br bo bx N k)) (fun _ v31 _ => N - (intOf v31).toNat)
  case atStart => exact ⟨0, t, by omega, rfl, rfl, h00, hsh⟩
  case round =>
    obtain ⟨k, z, hk, rfl, rfl, hz, hs⟩ := hrel
    by_cases hlt : k < N
    · obtain ⟨x0, hx⟩ : ∃ x, ws[k]? = some x := ⟨_, List.getElem?_eq_getElem (by have := HN.out; omega)⟩
      have hxb := HQ.out x0 (List.mem_of_getElem? hx)
      obtain ⟨x, rfl⟩ : ∃ x : Nat, x0 = (x : Int) := ⟨x0.toNat, by omega⟩
      obtain ⟨gp, offp, rfl, d0⟩ := HL.out k _ hx
      have c0 := keep_cell hs.out.adds d0
      have cx := hs.out.x
      obtain ⟨q, hqe⟩ : ∃ q, q = t * x / S := ⟨_, rfl⟩
      obtain ⟨r, hre⟩ : ∃ r, r = t * x % S := ⟨_, rfl⟩
      have hport := fun W => portion_any t x S W (by omega) (by omega) (by omega) (by omega)
      rw [← hqe, ← hre] at hport
      have HQI : Hid ((t : Int) * (x : Int) / (S : Int) = (q : Int)) := Lib.hid (by rw [hqe]; push_cast; rfl)
      have HRI : Hid ((t : Int) * (x : Int) % (S : Int) = (r : Int)) := Lib.hid (by rw [hre]; push_cast; rfl)
      have HP := Lib.hid hport
      have hki : (k : Int) < (N : Int) := by omega
      have lf := hs.out.l.free k
      have rf := hs.out.r.free k
      have of := hs.out.o.free k
      clear hport hqe hre d0 hxb hsh
      go_upto_region 10 with fail
      have lc := hs.out.l.cell (j := k) (x := 0) (Filled.at (by rw [List.length_map, List.length_take]; have := HN.out; omega) hlt)
      have rc := hs.out.r.cell (j := k) (x := 0) (Filled.at (by rw [List.length_map, List.length_take]; have := HN.out; omega) hlt)
      have hne1 : bl ≠ br := by omega
      have hne2 : br ≠ bl := by omega
      have hne3 : bl ≠ bx := by omega
      have hne4 : br ≠ bx := by omega
      go_cut [] (fun wc => Hid (RowI 2 .i64 wc bl N ((Filled ((ws.take k).map fun x => (t : Int) * x / S) N).set k q) ∧ RowI 46 .u64 wc br N ((Filled ((ws.take k).map fun x => (t : Int) * x % S) N).set k r) ∧ Touch (fun z => z = bl ∨ z = br) wr wc))
      case first =>
        go_region_with ((go_at_call 78; refine (HP.out _).mono ?_; rintro e w1 ⟨rfl, n, rfl⟩))
        all_goals
          go_wp2_with fail
          go_meet
          exact Lib.hid ⟨by first | exact ((hs.out.l.drewN _).put k q).far hne1 _ | exact ((hs.out.l.drewN _).far hne1 _).put k q, by first | exact ((hs.out.r.drewN _).far hne2 _).put k r | exact ((hs.out.r.drewN _).put k r).far hne2 _, by first | exact (((Touch.refl _ wr).drewN _).set (Or.inl rfl) _).set (Or.inr rfl) _ | exact (((Touch.refl _ wr).drewN _).set (Or.inr rfl) _).set (Or.inl rfl) _⟩
      case rest =>
        have hbo1 : bo ≠ bl := by omega
        have hbo2 : bo ≠ br := by omega
        have hbo3 : bl ≠ bo := by omega
        have hbo4 : br ≠ bo := by omega
        have hbo5 : bx ≠ bo := by omega
        have O1 := Lib.hid (hs.out.o.touch hcut.out.2.2 (by rintro (h | h) <;> omega))
        have X1 := Lib.hid (touch_cell hcut.out.2.2 (by rintro (h | h) <;> omega) hs.out.x)
        have A1 : Hid (Adds w wc) := Lib.hid (Touch.adds hs.out.adds hcut.out.2.2 (by have := HBL.out; rintro i (h | h) <;> omega))
        have oc := O1.out.cell (j := k) (x := 0) (Filled.at (by rw [numsT_len]) hlt)
        have of1 := O1.out.free k
        have lc1 := hcut.out.1.cell (j := k) (x := (q : Int)) (by rw [List.getElem?_set_self (by rw [Filled.len (by rw [List.length_map, List.length_take]; omega)]; exact hlt)])
        have HNX : Hid (∀ f : Int → Int, (ws.take (k + 1)).map f = (ws.take k).map f ++ [f (x : Int)]) := Lib.hid (fun f => by rw [take_next hx, List.map_append]; rfl)
        have hzb := left_k_bd (k := k) (show 0 < (S : Int) by omega) HSE.out (show 0 ≤ (t : Int) by omega) (fun y hy => (HQ.out y hy).1)
        rw [← hz.out] at hzb
        have HLK : Hid (((ws.take k).map fun x => (t : Int) * x / S).length = k ∧ ((ws.take k).map fun x => (t : Int) * x % S).length = k) := Lib.hid (by constructor <;> (rw [List.length_map, List.length_take]; have := HN.out; omega))
        obtain ⟨hzb1, hzb2⟩ := hzb
        have htb : (t : Int) ≤ 5000000000000 := by omega
        have hqb : (q : Int) ≤ 5000000000000 := by
          have h1 := left_k_bd (k := k + 1) (show 0 < (S : Int) by omega) HSE.out (show 0 ≤ (t : Int) by omega) (fun y hy => (HQ.out y hy).1)
          rw [HNX.out, List.sum_append] at h1
          simp only [List.sum_cons, List.sum_nil, Int.add_zero, HQI.out] at h1
          have h2 := hz.out
          omega
        clear hx lc rc lf rf of cx c0
        go_wp2
        go_roundw
        case rel =>
          exact ⟨k + 1, z - q, by omega, by go_num, rfl, Lib.hid (by rw [HNX.out, List.sum_append, hz.out]; simp only [List.sum_cons, List.sum_nil, Int.add_zero, HQI.out]; omega),
            Lib.hid ⟨by rw [HNX.out, HQI.out, ← Filled.next HLK.out.1 hlt]; exact hcut.out.1.far hbo3 _, by rw [HNX.out, HRI.out, ← Filled.next HLK.out.2 hlt]; exact hcut.out.2.1.far hbo4 _,
              by rw [numsT_succ, ← Filled.next (numsT_len k) hlt]; exact O1.out.put k k, keep_far hbo5 X1.out _, A1.out.set (by have := HBL.out; show w.heap.size ≤ bo; omega) _⟩⟩
        case measure => simp [intOf]; omega
    · have hkN : k = N := by omega
      subst hkN
      have hcmp : ∀ (i j : Nat), i < k → j < k → ∀ W, Touch (fun z => z = bo) wr W → Calls Try.prog 80 (#[.int .i64 i, .int .i64 j] ++ #[.pointer (some ⟨bx, 0, none⟩)]) W fun e w' => e = .returned (.int .i64 (cmpT (shareKey t ws i) (shareKey t ws j))) ∧ ∃ q, w' = W.drewN q := fun i j hi hj W hW => by
        have hr := hs.out.r
        have hlen : (ws.map fun x => (t : Int) * x % S).length = k := by rw [List.length_map]; exact HN.out.symm
        rw [List.take_of_length_le (by rw [← HN.out]; omega), Filled.full hlen] at hr
        exact less_any (ws.map fun x => (t : Int) * x % S) bx br k k i j (shareKey t ws) hlen.symm hN5 hi hj (fun a x hx => by
          rw [List.getElem?_map] at hx
          obtain ⟨y, hy, rfl⟩ := Option.map_eq_some_iff.1 hx
          unfold shareKey
          rw [List.getElem!_eq_getElem?_getD, hy, ← HSE.out]
          rfl) W (hr.touch hW (by omega)) (touch_cell hW (by omega) hs.out.x)
      have hro := hs.out.o
      rw [Filled.full (numsT_len k)] at hro
      have hcon := HST.out bo k 80 #[.pointer (some ⟨bx, 0, none⟩)] k (shareKey t ws) (numsT k) wr (by rw [numsT_len]; omega) (fun x hx => numsT_mem.1 hx) (numsT_asc k) hro (fun args w => enters_of Try.func80 (by kernel_rfl) rfl args w) hcmp
      rw [numsT_len] at hcon
      have HCO := Lib.hid hcon
      clear hcmp hro hcon hsh
      have HZ : Hid (z = shareLeft t ws) := Lib.hid (by rw [hz.out, List.take_of_length_le (by rw [← HN.out]; omega)]; unfold shareLeft; rw [← HSE.out])
      have hzb : 0 ≤ z ∧ z < k := by have := left_bd2 (t := t) (ws := ws) (by rw [← HSE.out]; omega); rw [← HZ.out, ← HN.out] at this; exact this
      obtain ⟨hz0, hz1'⟩ := hzb
      obtain ⟨zn, rfl⟩ : ∃ zn : Nat, z = (zn : Int) := ⟨z.toNat, by omega⟩
      have hznk : zn ≤ k := by omega
      go_wp2_with (go_at_call 79; refine HCO.out.mono ?_; rintro e w3 ⟨rfl, R, r1, r2, r3, r4⟩; have R1 := Lib.hid r1; have R2 := Lib.hid r2; have R3 := Lib.hid r3; have R4 := Lib.hid r4; clear r1 r2 r3 r4)
      have hlen : (ws.map fun x => (t : Int) * x / S).length = k := by rw [List.length_map]; exact HN.out.symm
      have L3 : Hid (RowI 2 .i64 w3 bl k (ws.map fun x => (t : Int) * x / S)) := Lib.hid (by
        have hl := hs.out.l
        rw [List.take_of_length_le (by rw [← HN.out]; omega), Filled.full hlen] at hl
        exact hl.touch R4.out (by omega))
      have A3 : Hid (Adds w w3) := Lib.hid (Touch.adds hs.out.adds R4.out (by have := HBL.out; rintro i rfl; omega))
      have HQB : Hid (∀ i, i < k → 0 ≤ (ws.map fun x => (t : Int) * x / S)[i]! ∧ (ws.map fun x => (t : Int) * x / S)[i]! ≤ 5000000000000) := Lib.hid (fun i hi => by
        have hiw : i < ws.length := by rw [← HN.out]; exact hi
        have hb := HQ.out ws[i] (List.getElem_mem hiw)
        rw [getElem!_pos _ i (by omega), List.getElem_map]
        have h2 : 0 ≤ (t : Int) * ws[i] / (S : Int) := Int.ediv_nonneg (Int.mul_nonneg (by omega) hb.1) (by omega)
        refine ⟨h2, ?_⟩
        have h3 : (t : Int) * ws[i] / (S : Int) ≤ 1000000000 := by
          refine Int.ediv_le_of_le_mul (by omega) ?_
          rw [Int.mul_comm]
          exact Int.mul_le_mul hb.2 h1 (by omega) (by omega)
        omega)
      obtain ⟨Q, hQ⟩ : ∃ Q, Q = ws.map fun x => (t : Int) * x / S := ⟨_, rfl⟩
      rw [← hQ] at L3 HQB hlen
      have HQE := Lib.hid hQ
      have HLEN := Lib.hid hlen
      have HND : Hid (R.Nodup) := Lib.hid (R1.out.nodup_iff.2 ((numsT_asc k).imp (fun {a b} h => by omega)))
      have hRl : R.length = k := by rw [R1.out.length_eq, numsT_len]
      have HRL := Lib.hid hRl
      have HSS := Lib.hid hs
      clear hQ hlen hs hRl HCO
      go_loopw [67] (fun v67 wr => ∃ j : Nat, j ≤ zn ∧ v67 = .int .i64 j ∧ Hid (RowI 2 .i64 wr bl k (bumpT Q R j)) ∧ Hid (RowI 3 .i64 wr bo k R) ∧ Hid (Adds w wr)) (fun v67 _ => zn - (intOf v67).toNat)
      case atStart => exact ⟨0, by omega, rfl, Lib.hid (by rw [bumpT_zero]; exact L3.out), R3, A3⟩
      case round =>
        obtain ⟨j, hj, rfl, hl, ho, ha⟩ := hrel
        clear L3 R3 A3
        by_cases hlt : j < zn
        · obtain ⟨y, hy⟩ : ∃ y, R[j]? = some y := ⟨_, List.getElem?_eq_getElem (by have := HRL.out; omega)⟩
          have hyb := numsT_mem.1 (R1.out.mem_iff.1 (List.mem_of_getElem? hy))
          obtain ⟨i, rfl⟩ : ∃ i : Nat, y = (i : Int) := ⟨y.toNat, by omega⟩
          have hik : i < k := by omega
          obtain ⟨b1, b2⟩ := bumpT_next (Q := Q) HND.out hy (by rw [HLEN.out]; exact hik)
          have oc := ho.out.cell hy
          have lc := hl.out.cell b1
          have lf := hl.out.free i
          have hqb := HQB.out i hik
          generalize Q[i]! = v at *
          obtain ⟨hv1, hv2⟩ := hqb
          have HB2 := Lib.hid b2
          have hji : (j : Int) < (zn : Int) := by omega
          have hiki : (i : Int) < (k : Int) := by omega
          have hne : bo ≠ bl := by omega
          clear hy b1 b2 hyb
          go_wp2
          go_roundw
          case rel => exact ⟨j + 1, by omega, by go_num, Lib.hid (by rw [← HB2.out]; exact hl.out.put i _), Lib.hid (ho.out.far hne _), Lib.hid (ha.out.set (by have := HBL.out; show w.heap.size ≤ bl; omega) _)⟩
          case measure => simp [intOf]; omega
        · have hjz : j = zn := by omega
          subst hjz
          have HF : Hid (bumpT Q R j = shareT t ws) := Lib.hid (by
            rw [HQE.out, HSE.out]
            exact bumpT_share (by rw [← HN.out]; exact R1.out) R2.out HZ.out)
          go_wp2
          go_ret
          exact ⟨bl, k, by rw [shareT_len, ← HN.out]; rfl, by have := HBL.out; omega, by rw [← HF.out]; exact hl.out, ha.out⟩

end Go.Proofs.Ytigpghmbeldakaa
