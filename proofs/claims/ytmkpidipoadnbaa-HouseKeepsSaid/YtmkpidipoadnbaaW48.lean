/- copied. -/
import Derived.Test.YtmkpidipoadnbaaW47
namespace Go.Proofs.Ytmkpidipoadnbaa
open Go Go.RowKit Go.Sort

/-- A configuration cut off. -/
def copyT (c : Cfg) : Cfg := { c with prices := c.prices.take 20, moves := (c.moves.take 66).map (List.take 20) }
theorem info_row : (Try.prog.info? 22).map (fun i => (i.zero, i.size, i.bytes)) = some (some (.slice none 0 0), 1, 24) := by kernel_rfl
theorem moves_snoc {w7 : World} {base cm' c : Nat} {mp' p : Option Addr} {moves : List (List Int)} {m : List Int} {sl : List (Option Addr × Nat)} (h1 : sl.length = moves.length) (ho : w7.ownsRow base 22 1 (.slice mp' (moves.length + 1) cm') (moves.length + 1) (List.zipWith (fun s m => Value.slice s.1 (List.length m) s.2) sl moves ++ [.slice p m.length c])) (h3 : ∀ (i : Nat) (s : Option Addr × Nat) (m : List Int), sl[i]? = some s → moves[i]? = some m → w7.ownsRow base 2 1 (.slice s.1 m.length s.2) m.length (List.map (Value.int .i64) m)) (h4 : w7.ownsRow base 2 1 (.slice p m.length c) m.length (m.map (Value.int .i64))) : MovesO w7 base mp' cm' (moves ++ [m]) := by
  refine ⟨sl ++ [(p, c)], by simp [h1], ?_, fun i s m' a b => ?_⟩
  · rw [List.zipWith_append (by rw [h1]), List.length_append]
    exact ho
  · by_cases hi : i < moves.length
    · rw [List.getElem?_append_left (by omega)] at a
      rw [List.getElem?_append_left hi] at b
      exact h3 i s m' a b
    · have hi2 := (List.getElem?_eq_some_iff.1 b).1
      have hi3 : i = moves.length := by simp at hi2; omega
      subst hi3
      rw [List.getElem?_append_right (by omega)] at a b
      simp [h1] at a b
      subst a b
      exact h4
theorem info_cfg : (Try.prog.info? 25).map (·.size) = some 6 := by kernel_rfl
theorem cut_longs (p : Option Addr) (n c k : Nat) (hk : k ≤ c) (W : World) : (Instr.sliceAt 22 (.slice p n c) none (some (.int .i64 (k : Int))) none).run Try.prog W = .ok (.slice p k c) W := by
  have he : Try.prog.elem 22 = 2 := by kernel_rfl
  have hu : Try.prog.underlying 22 = some (.slice (Try.prog.elem 22)) := by rw [he]; exact Try.underlying22
  rw [run_sliceAt_slice W 22 _ _ _ _ hu, run_slice_h W 22 p n c hu .i64 (k : Int) (by omega) (by omega), he, Try.sizeOf2]
  cases p <;> simp [sliced, Result.andThen, Addr.add]
theorem take_min {α : Type} (l : List α) (k : Nat) : l.take (min l.length k) = l.take k := by
  rcases Nat.le_total l.length k with h | h
  · rw [Nat.min_eq_left h, List.take_length, List.take_of_length_le h]
  · rw [Nat.min_eq_right h]
theorem min_cast (a b : Nat) : min (a : Int) (b : Int) = ((min a b : Nat) : Int) := by omega

set_option maxRecDepth 100000 in
set_option maxHeartbeats 8000000 in
theorem copied_any (c : Cfg) (pp : Option Addr) (cp : Nat) (mp : Option Addr) (cm : Nat) (w : World) (hP : SrcAt w pp c.prices.length cp (c.prices.map (Value.int .i64))) (hM : MovesS w mp cm c.moves) :
    Calls Try.prog 20 #[.agg (cfgCells c pp cp mp cm)] w fun r w' => ∃ pp' cp' mp' cm', r = .returned (.agg (cfgCells (copyT c) pp' cp' mp' cm')) ∧ w'.ownsRow w.heap.size 2 1 (.slice pp' (copyT c).prices.length cp') (copyT c).prices.length ((copyT c).prices.map (Value.int .i64)) ∧ MovesO w' w.heap.size mp' cm' (copyT c).moves ∧ Adds w w' := by
  obtain ⟨members, months, prices, moves, rate, cap⟩ := c
  unfold cfgCells copyT at *
  dsimp only at *
  have HP := Lib.hid hP
  have HM := Lib.hid hM
  obtain ⟨n, hn⟩ : ∃ n, n = prices.length := ⟨_, rfl⟩
  obtain ⟨nm, hnm⟩ : ∃ n, n = moves.length := ⟨_, rfl⟩
  have HN := Lib.hid hn
  have HNM := Lib.hid hnm
  rw [← hn] at HP
  have hk20 : min n 20 ≤ n := by omega
  have hap := fun W (hW : Adds w W) => append_ints W pp (min n 20) cp (prices.take 20) (by rw [List.length_take, hn]; omega) (by have := (HP.out.later hW).take (min n 20) hk20; rw [← List.map_take, hn, take_min] at this; rw [hn]; exact this) (by omega)
  have HAP := Lib.hid hap
  have hcp := HP.out.2.2
  have hkc : ((min n 20 : Nat) : Int) ≤ (cp : Int) := by omega
  have hk0 : (0 : Int) ≤ ((min n 20 : Nat) : Int) := by omega
  have hmin : min (n : Int) 20 = ((min n 20 : Nat) : Int) := min_cast n 20
  have HKL : Hid ((prices.take 20).length = min n 20) := Lib.hid (by rw [List.length_take, hn]; omega)
  rw [HKL.out, ← hn, ← hnm]
  obtain ⟨kn, hkn⟩ : ∃ k, k = min n 20 := ⟨_, rfl⟩
  rw [← hkn] at hkc hk0 hmin HAP ⊢
  obtain ⟨s, hs⟩ : ∃ s, s = w.heap.size := ⟨_, rfl⟩
  have HS := Lib.hid hs
  clear hP hM hn hnm hap hk20 HKL hkn hcp
  go_enter Try.func20, Try.ntmps20
  go_upto_region 3 with fail
  rw [← hs]
  have b0 : Box (((w.alloc (.cells #[.int .i64 members, .int .i64 months, .slice pp n cp, .slice mp nm cm, .int .i64 rate, .int .i64 cap] 25)).alloc (.cells #[.int .i64 0, .int .i64 0, .slice none 0 0, .slice none 0 0, .int .i64 0, .int .i64 0] 25)).alloc (.cells #[.int .i64 members, .int .i64 months, .slice none 0 0, .slice none 0 0, .int .i64 rate, .int .i64 cap] 25)) s #[.int .i64 members, .int .i64 months, .slice pp n cp, .slice mp nm cm, .int .i64 rate, .int .i64 cap] 25 := ((box_new hs).alloc _).alloc _
  have b1 : Box (((w.alloc (.cells #[.int .i64 members, .int .i64 months, .slice pp n cp, .slice mp nm cm, .int .i64 rate, .int .i64 cap] 25)).alloc (.cells #[.int .i64 0, .int .i64 0, .slice none 0 0, .slice none 0 0, .int .i64 0, .int .i64 0] 25)).alloc (.cells #[.int .i64 members, .int .i64 months, .slice none 0 0, .slice none 0 0, .int .i64 rate, .int .i64 cap] 25)) (s + 1) #[.int .i64 0, .int .i64 0, .slice none 0 0, .slice none 0 0, .int .i64 0, .int .i64 0] 25 := (box_new (by simp [hs])).alloc _
  have b2 : Box (((w.alloc (.cells #[.int .i64 members, .int .i64 months, .slice pp n cp, .slice mp nm cm, .int .i64 rate, .int .i64 cap] 25)).alloc (.cells #[.int .i64 0, .int .i64 0, .slice none 0 0, .slice none 0 0, .int .i64 0, .int .i64 0] 25)).alloc (.cells #[.int .i64 members, .int .i64 months, .slice none 0 0, .slice none 0 0, .int .i64 rate, .int .i64 cap] 25)) (s + 1 + 1) #[.int .i64 members, .int .i64 months, .slice none 0 0, .slice none 0 0, .int .i64 rate, .int .i64 cap] 25 := box_new (by simp [hs])
  have hA3 : Adds w (((w.alloc (.cells #[.int .i64 members, .int .i64 months, .slice pp n cp, .slice mp nm cm, .int .i64 rate, .int .i64 cap] 25)).alloc (.cells #[.int .i64 0, .int .i64 0, .slice none 0 0, .slice none 0 0, .int .i64 0, .int .i64 0] 25)).alloc (.cells #[.int .i64 members, .int .i64 months, .slice none 0 0, .slice none 0 0, .int .i64 rate, .int .i64 cap] 25)) := (((Adds.refl w).alloc _).alloc _).alloc _
  obtain ⟨X3, hX3⟩ : ∃ V, V = (((w.alloc (.cells #[.int .i64 members, .int .i64 months, .slice pp n cp, .slice mp nm cm, .int .i64 rate, .int .i64 cap] 25)).alloc (.cells #[.int .i64 0, .int .i64 0, .slice none 0 0, .slice none 0 0, .int .i64 0, .int .i64 0] 25)).alloc (.cells #[.int .i64 members, .int .i64 months, .slice none 0 0, .slice none 0 0, .int .i64 rate, .int .i64 cap] 25)) := ⟨_, rfl⟩
  rw [← hX3] at b0 b1 b2 hA3 ⊢
  obtain ⟨q1, d1, X4, hap, ho4, ha4⟩ := HAP.out X3 hA3
  have e2 := b0.cell 2
  have B0 := Lib.hid (b0.later ha4)
  have B1 := Lib.hid (b1.later ha4)
  have b24 := b2.later ha4
  have B2 := Lib.hid b24
  have O4 := Lib.hid (own_base_le ho4 hA3.size)
  have A4 := Lib.hid (hA3.trans ha4)
  have hsl := cut_longs pp n cp kn (by omega)
  clear b0 b1 b2 hX3 ho4 ha4 hA3 HAP hs
  have HAQ := Lib.hid hap
  clear hap
  go_upto_region 4 with (at_builtin; refine wpList_append_run rfl _ _ 22 rfl _ _ rfl rfl _ _ HAQ.out ?_)
  clear HAQ e2 hsl
  have e2 := b24.cell 2
  have g2 := b24.free 2
  clear b24
  go_upto_region 5 with fail
  have B0' := Lib.hid (B0.out.far (p := ⟨s + 1 + 1, 2, none⟩) (by show s ≠ s + 1 + 1; omega) (.slice q1 kn d1))
  have B1' := Lib.hid (B1.out.far (p := ⟨s + 1 + 1, 2, none⟩) (by show s + 1 ≠ s + 1 + 1; omega) (.slice q1 kn d1))
  have B2' : Hid (Box (X4.setCell ⟨s + 1 + 1, 2, none⟩ (.slice q1 kn d1)) (s + 1 + 1) #[.int .i64 members, .int .i64 months, .slice q1 kn d1, .slice none 0 0, .int .i64 rate, .int .i64 cap] 25) := Lib.hid (B2.out.set 2 _)
  have O4' := Lib.hid (own_heap O4.out B2.out (by decide) (fun kk hk => Below.heap_setCell X4 ⟨s + 1 + 1, 2, none⟩ (.slice q1 kn d1) kk hk))
  have A4' := Lib.hid (A4.out.set (p := ⟨s + 1 + 1, 2, none⟩) (by have := HS.out; show w.heap.size ≤ s + 1 + 1; omega) (.slice q1 kn d1))
  obtain ⟨X5, hX5⟩ : ∃ V, V = X4.setCell ⟨s + 1 + 1, 2, none⟩ (.slice q1 kn d1) := ⟨_, rfl⟩
  rw [← hX5] at B0' B1' B2' O4' A4' ⊢
  clear hX5 B0 B1 B2 O4 A4 e2 g2
  go_upto_region 6 with fail
  obtain ⟨j0, hj, hj0, hj1, hj2⟩ := info_parts info_row
  have HJ := Lib.hid hj
  have HJ0 := Lib.hid hj0
  have HJ1 := Lib.hid hj1
  have HJ2 := Lib.hid hj2
  clear hj hj0 hj1 hj2
  go_loopw [5] (fun v5 wr => ∃ (k : Nat) (m2 : Option Addr) (d2 : Nat), k ≤ nm ∧ k ≤ 66 ∧ v5 = .int .i64 k ∧ Hid (Box wr s #[.int .i64 members, .int .i64 months, .slice pp n cp, .slice mp nm cm, .int .i64 rate, .int .i64 cap] 25) ∧ Hid (Box wr (s + 1) #[.int .i64 0, .int .i64 0, .slice none 0 0, .slice none 0 0, .int .i64 0, .int .i64 0] 25) ∧ Hid (Box wr (s + 1 + 1) #[.int .i64 members, .int .i64 months, .slice q1 kn d1, .slice m2 k d2, .int .i64 rate, .int .i64 cap] 25) ∧ Hid (World.ownsRow wr w.heap.size 2 1 (.slice q1 kn d1) kn ((prices.take 20).map (Value.int .i64))) ∧ Hid (MovesO wr w.heap.size m2 d2 ((moves.take k).map (List.take 20))) ∧ Hid (Adds w wr)) (fun v5 _ => nm - (intOf v5).toNat)
  case atStart => exact ⟨0, none, 0, by omega, by omega, rfl, B0', B1', B2', O4', Lib.hid ⟨[], rfl, World.ownsRow_nil _ _ _ _, fun i s m a b => by simp at a⟩, A4'⟩
  case round =>
    obtain ⟨k, m2, d2, hk, hk66, rfl, RB, RB1, RB2, RO, RM, RA⟩ := hrel
    clear B0' B1' B2' O4' A4'
    by_cases hlt : k < nm
    · have hlt2 : (k : Int) < (nm : Int) := by omega
      have hkk0 : (0 : Int) ≤ (k : Int) := by omega
      have c3 := RB.out.cell 3
      by_cases hl6 : k < 66
      · have hl62 : (k : Int) < 66 := by omega
        have hd : decide ((k : Int) < 66) = true := decide_eq_true hl62
        go_upto_region 8 with fail
        obtain ⟨m, hm⟩ : ∃ m, moves[k]? = some m := ⟨_, List.getElem?_eq_getElem (by have := HNM.out; omega)⟩
        obtain ⟨g, o, u, e, hmp, hc, hcl⟩ := (HM.out.later RA.out).get hm
        subst hmp
        have HX := Lib.hid hm
        obtain ⟨X, hX⟩ : ∃ V, V = wr.drew := ⟨_, rfl⟩
        have HXE := Lib.hid hX
        have hRX : Adds wr X := by rw [hX]; exact (Adds.refl wr).drew
        have hk20 : min m.length 20 ≤ m.length := by omega
        obtain ⟨q2, d3, X6, hap, ho6, ha6⟩ := append_ints X u (min m.length 20) e (m.take 20) (by rw [List.length_take]; omega) (by have := (hcl.later hRX).take (min m.length 20) hk20; rw [← List.map_take, take_min] at this; exact this) (by omega)
        have hme := hcl.2.2
        have hsl := cut_longs u m.length e (min m.length 20) (by omega)
        have hmin2 : min (m.length : Int) 20 = ((min m.length 20 : Nat) : Int) := min_cast m.length 20
        have hc2 : X.cell? ⟨g, o + k, none⟩ = some (.slice u m.length e) := keep_cell hRX hc
        have c32 := (RB.out.later hRX).cell 3
        have hkx : ((min m.length 20 : Nat) : Int) ≤ (e : Int) := by omega
        have hkx0 : (0 : Int) ≤ ((min m.length 20 : Nat) : Int) := by omega
        obtain ⟨ml, hml⟩ : ∃ l, l = m.length := ⟨_, rfl⟩
        rw [← hml] at hap hsl hmin2 hc hc2 hkx hkx0 ho6
        obtain ⟨km, hkm⟩ : ∃ l, l = min ml 20 := ⟨_, rfl⟩
        rw [← hkm] at hap hsl hmin2 hkx hkx0 ho6
        have HKM : Hid ((m.take 20).length = km) := Lib.hid (by rw [List.length_take, hkm, hml]; omega)
        have HAQ := Lib.hid hap
        have B6 := Lib.hid ((RB.out.later hRX).later ha6)
        have B61 := Lib.hid ((RB1.out.later hRX).later ha6)
        have B62 := Lib.hid ((RB2.out.later hRX).later ha6)
        have O6 := Lib.hid (own_later (own_later RO.out hRX) ha6)
        have M6 := Lib.hid ((RM.out.later hRX).later ha6)
        have A6 := Lib.hid ((RA.out.trans hRX).trans ha6)
        have N6 := Lib.hid (own_base_le ho6 (RA.out.trans hRX).size)
        have HMN : Hid (min (ml : Int) 20 = (km : Int)) := Lib.hid hmin2
        have HC2 := Lib.hid hc2
        have C32 := Lib.hid c32
        have HSL := Lib.hid hsl
        have HKX := Lib.hid hkx
        clear hm hcl hX hk20 hap ho6 ha6 hsl hmin2 hc hc2 c32 c3 hkx hkx0 hml hkm RB RB1 RB2 RO RM hme hRX
        go_upto_region 9 with fail
        have hmin2 := HMN.out
        have hsl := HSL.out
        have hkx := HKX.out
        have hX := HXE.out
        subst hX
        have hc2 := HC2.out
        have c32 := C32.out
        have hc20 : wr.cell? ⟨g, o + k, none⟩ = some (.slice u ml e) := hc2
        have c320 : wr.cell? ⟨s, 3, none⟩ = some (.slice (some ⟨g, o, none⟩) nm cm) := c32
        go_cut [6] from 39 to 53 (fun z6 wc => z6 = .slice q2 km d3 ∧ Hid (wc = X6))
        case first =>
          go_region_law (refine step_append_run rfl _ _ 22 rfl _ _ rfl rfl _ _ HAQ.out ?_)
          all_goals
            go_wp2
            go_meet
            exact ⟨rfl, Lib.hid rfl⟩
        case rest =>
          obtain ⟨rfl, hwc⟩ := hcut
          have hwc2 := hwc.out
          subst hwc2
          clear HAQ HC2 C32 HSL HMN hmin2 hsl hkx hc2 c32 hc20 c320 hwc HKX
          have hlen : ((moves.take k).map (List.take 20)).length = k := by rw [List.length_map, List.length_take, ← HNM.out]; omega
          have HLE := Lib.hid hlen
          obtain ⟨sl, h1, h2, h3⟩ := M6.out
          rw [hlen] at h1 h2
          have H1 := Lib.hid h1
          have H2 := Lib.hid h2
          have H3 := Lib.hid h3
          obtain ⟨XS, hXS⟩ : ∃ xs, xs = List.zipWith (fun s m => Value.slice s.1 (List.length m) s.2) sl ((moves.take k).map (List.take 20)) := ⟨_, rfl⟩
          have HXS := Lib.hid hXS
          rw [← hXS] at H2
          have c3 := B62.out.cell 3
          have hk2 := hk66
          have hA6 := A6.out.size
          clear h1 h2 h3 hXS hlen M6
          go_upto_region 11 with fail
          clear c3
          go_upto_region 12 with (at_builtin; ((refine wpList_append_lies _ rfl _ _ 23 rfl w.heap.size 22 j0 (.slice none 0 0) 1 24 Try.underlying23 HJ.out HJ0.out HJ1.out HJ2.out rfl (by decide) (.slice m2 k d2) k XS rfl (own_allocd H2.out _) ⟨wc.heap.size, 0, none⟩ 1 1 [.slice q2 km d3] rfl rfl (World.news_of_block (Box.new wc _ 22)) (by simp [Value.oneCell']) (by omega) (by unfold maxLen; omega) (by omega) (by simp; omega) (wc.heap.size + 1) (by simp) ?_); intro g7 c7 w7 ho hg hor hl7; have HO7 := Lib.hid ho; have HG7 := Lib.hid hg; clear ho hg hor hl7))
          have hblk : ∀ (p : Nat) (vs : Array Value), Box wc p vs 25 → (Value.slice m2 k d2).ownBlock ≠ some p := fun p vs hb e => by
            obtain ⟨_, cur, hcur⟩ := own_block H2.out e
            unfold Box at hb
            rw [hb] at hcur
            simp only [Option.some.injEq, Obj.cells.injEq] at hcur
            exact absurd hcur.2.1 (by decide)
          have B7 := Lib.hid (box_grow (B6.out.alloc (.cells #[.slice q2 km d3] 22)) HG7.out (hblk _ _ B6.out))
          have B71 := Lib.hid (box_grow (B61.out.alloc (.cells #[.slice q2 km d3] 22)) HG7.out (hblk _ _ B61.out))
          have b72 := box_grow (B62.out.alloc (.cells #[.slice q2 km d3] 22)) HG7.out (hblk _ _ B62.out)
          have B72 := Lib.hid b72
          have hty : ∀ j, (Value.slice m2 k d2).ownBlock = some j → ∃ cur, (wc.alloc (.cells #[.slice q2 km d3] 22)).heap[j]? = some (.cells cur 22 (0, 0)) := fun j hj => (own_block (own_allocd H2.out _) hj).2
          have O7 := Lib.hid (own_apart (own_allocd O6.out (.cells #[.slice q2 km d3] 22)) HG7.out hty (by decide))
          have N7 := Lib.hid (own_apart (own_allocd N6.out (.cells #[.slice q2 km d3] 22)) HG7.out hty (by decide))
          have R7 := Lib.hid (fun (i : Nat) (s : Option Addr × Nat) (m : List Int) (a : sl[i]? = some s) (b : ((moves.take k).map (List.take 20))[i]? = some m) => own_apart (own_allocd (H3.out i s m a b) (.cells #[.slice q2 km d3] 22)) HG7.out hty (by decide))
          have A7 : Hid (Adds w w7) := Lib.hid (Below.grown (A6.out.alloc _) HG7.out (by simp; omega) (fun j hj => (own_block H2.out hj).1))
          have c3 := b72.cell 3
          have g3 := b72.free 3
          clear HG7 B6 B61 B62 hty hblk O6 N6 H2 H3 b72 A6
          go_wp2
          have e1 : (moves.take (k + 1)).map (List.take 20) = (moves.take k).map (List.take 20) ++ [m.take 20] := by
            obtain ⟨h1, h2⟩ := List.getElem?_eq_some_iff.1 HX.out
            rw [List.take_succ_eq_append_getElem h1, h2, List.map_append]
            rfl
          refine ⟨⟨k + 1, some ⟨g7, 0, none⟩, c7, by omega, by omega, by go_num, Lib.hid ?_, Lib.hid ?_, Lib.hid ?_, Lib.hid ?_, Lib.hid ?_, Lib.hid ?_⟩, by simp [intOf]; omega⟩
          · exact B7.out.far (by show s ≠ s + 1 + 1; omega) _
          · exact B71.out.far (by show s + 1 ≠ s + 1 + 1; omega) _
          · exact B72.out.set 3 _
          · exact own_heap O7.out B72.out (by decide) (fun kk hk => Below.heap_setCell w7 _ _ kk hk)
          · rw [e1]
            have hm7 : MovesO w7 w.heap.size (some ⟨g7, 0, none⟩) c7 ((moves.take k).map (List.take 20) ++ [m.take 20]) := by
              refine moves_snoc (sl := sl) (p := q2) (c := d3) (by rw [H1.out, HLE.out]) ?_ R7.out ?_
              · rw [HLE.out, HKM.out, ← HXS.out]
                exact HO7.out
              · rw [HKM.out]
                exact N7.out
            exact hm7.heap B72.out (by decide) (by decide) (fun kk hk => Below.heap_setCell w7 _ _ kk hk)
          · exact A7.out.set (p := ⟨s + 1 + 1, 3, none⟩) (by have := HS.out; show w.heap.size ≤ s + 1 + 1; omega) _
      · have hd : decide ((k : Int) < 66) = false := decide_eq_false (by omega)
        have hT : (moves.take 66).map (List.take 20) = (moves.take k).map (List.take 20) := by rw [show k = 66 by omega]
        have hlen : ((moves.take k).map (List.take 20)).length = k := by rw [List.length_map, List.length_take, ← HNM.out]; omega
        have v0 := RB2.out.cell 0
        have v1 := RB2.out.cell 1
        have v2 := RB2.out.cell 2
        have v3 := RB2.out.cell 3
        have v4 := RB2.out.cell 4
        have v5 := RB2.out.cell 5
        have z0 := RB1.out.cell 0
        have g0 := RB1.out.free 0
        have z1 := RB1.out.cell 1
        have g1 := RB1.out.free 1
        have z2 := RB1.out.cell 2
        have g2 := RB1.out.free 2
        have z3 := RB1.out.cell 3
        have g3 := RB1.out.free 3
        have z4 := RB1.out.cell 4
        have g4 := RB1.out.free 4
        have z5 := RB1.out.cell 5
        have g5 := RB1.out.free 5
        go_wp2
        have bF : Box (wr.setCells (s + 1) 0 [.int .i64 members, .int .i64 months, .slice q1 kn d1, .slice m2 k d2, .int .i64 rate, .int .i64 cap]) (s + 1) #[.int .i64 members, .int .i64 months, .slice q1 kn d1, .slice m2 k d2, .int .i64 rate, .int .i64 cap] 25 := RB1.out.setCells [.int .i64 members, .int .i64 months, .slice q1 kn d1, .slice m2 k d2, .int .i64 rate, .int .i64 cap] 0
        refine post_row (vs := #[.int .i64 members, .int .i64 months, .slice q1 kn d1, .slice m2 k d2, .int .i64 rate, .int .i64 cap]) rfl rfl rfl rfl Try.underlying25 info_cfg bF ⟨q1, d1, m2, d2, ?_, ?_, ?_, ?_⟩
        · rw [hT, hlen]
        · exact own_heap (w' := wr.setCells (s + 1) 0 [.int .i64 members, .int .i64 months, .slice q1 kn d1, .slice m2 k d2, .int .i64 rate, .int .i64 cap]) RO.out RB1.out (by decide) (fun kk hk => heap_setCells _ _ kk hk)
        · rw [hT]
          exact MovesO.heap (w' := wr.setCells (s + 1) 0 [.int .i64 members, .int .i64 months, .slice q1 kn d1, .slice m2 k d2, .int .i64 rate, .int .i64 cap]) RM.out RB1.out (by decide) (by decide) (fun kk hk => heap_setCells _ _ kk hk)
        · exact (show Adds w (wr.setCells (s + 1) 0 [.int .i64 members, .int .i64 months, .slice q1 kn d1, .slice m2 k d2, .int .i64 rate, .int .i64 cap]) from Adds.setCells (b := s + 1) (by have := HS.out; omega) _ 0 RA.out)
    · have hkn : nm = k := by omega
      subst hkn
      have hdq : decide ((nm : Int) < (nm : Int)) = false := decide_eq_false (by omega)
      have c3 := RB.out.cell 3
      have hT : (moves.take 66).map (List.take 20) = (moves.take nm).map (List.take 20) := by rw [List.take_of_length_le (by rw [← HNM.out]; omega), List.take_of_length_le (by rw [← HNM.out]; omega)]
      have hlen : ((moves.take nm).map (List.take 20)).length = nm := by rw [List.length_map, List.length_take, ← HNM.out]; omega
      have v0 := RB2.out.cell 0
      have v1 := RB2.out.cell 1
      have v2 := RB2.out.cell 2
      have v3 := RB2.out.cell 3
      have v4 := RB2.out.cell 4
      have v5 := RB2.out.cell 5
      have z0 := RB1.out.cell 0
      have g0 := RB1.out.free 0
      have z1 := RB1.out.cell 1
      have g1 := RB1.out.free 1
      have z2 := RB1.out.cell 2
      have g2 := RB1.out.free 2
      have z3 := RB1.out.cell 3
      have g3 := RB1.out.free 3
      have z4 := RB1.out.cell 4
      have g4 := RB1.out.free 4
      have z5 := RB1.out.cell 5
      have g5 := RB1.out.free 5
      go_wp2
      have bF : Box (wr.setCells (s + 1) 0 [.int .i64 members, .int .i64 months, .slice q1 kn d1, .slice m2 nm d2, .int .i64 rate, .int .i64 cap]) (s + 1) #[.int .i64 members, .int .i64 months, .slice q1 kn d1, .slice m2 nm d2, .int .i64 rate, .int .i64 cap] 25 := RB1.out.setCells [.int .i64 members, .int .i64 months, .slice q1 kn d1, .slice m2 nm d2, .int .i64 rate, .int .i64 cap] 0
      refine post_row (vs := #[.int .i64 members, .int .i64 months, .slice q1 kn d1, .slice m2 nm d2, .int .i64 rate, .int .i64 cap]) rfl rfl rfl rfl Try.underlying25 info_cfg bF ⟨q1, d1, m2, d2, ?_, ?_, ?_, ?_⟩
      · rw [hT, hlen]
      · exact own_heap (w' := wr.setCells (s + 1) 0 [.int .i64 members, .int .i64 months, .slice q1 kn d1, .slice m2 nm d2, .int .i64 rate, .int .i64 cap]) RO.out RB1.out (by decide) (fun kk hk => heap_setCells _ _ kk hk)
      · rw [hT]
        exact MovesO.heap (w' := wr.setCells (s + 1) 0 [.int .i64 members, .int .i64 months, .slice q1 kn d1, .slice m2 nm d2, .int .i64 rate, .int .i64 cap]) RM.out RB1.out (by decide) (by decide) (fun kk hk => heap_setCells _ _ kk hk)
      · exact (show Adds w (wr.setCells (s + 1) 0 [.int .i64 members, .int .i64 months, .slice q1 kn d1, .slice m2 nm d2, .int .i64 rate, .int .i64 cap]) from Adds.setCells (b := s + 1) (by have := HS.out; omega) _ 0 RA.out)

end Go.Proofs.Ytmkpidipoadnbaa
