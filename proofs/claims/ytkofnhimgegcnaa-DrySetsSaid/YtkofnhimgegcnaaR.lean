/- Proof: the crush. -/
import Derived.Test.YtkofnhimgegcnaaQ
namespace Go.Proofs.Ytkofnhimgegcnaa
open Go Go.RowKit

theorem own_cell {w : World} {base t size n g cap j : Nat} {xs : List Value} {u : Value} (h : w.ownsRow base t size (.slice (some ⟨g, 0, none⟩) n cap) n xs) (hj : xs[j]? = some u) : w.cell? ⟨g, j, none⟩ = some u ∧ w.frozen? ⟨g, j, none⟩ = false := by
  obtain ⟨h1, h2⟩ := h
  rcases h2 with ⟨h2, _⟩ | ⟨g', cap', cur, hv, hb, hg, hle, hmx, hsz, htk⟩
  · cases h2
  · simp only [Value.slice.injEq, Option.some.injEq, Addr.mk.injEq] at hv
    obtain ⟨⟨rfl, -, -⟩, -, -⟩ := hv
    have hjl := (List.getElem?_eq_some_iff.1 hj).1
    have : (cur.toList.take (n * size))[j]? = some u := by rw [htk]; exact hj
    rw [List.getElem?_take] at this
    split at this
    · refine ⟨?_, by simp [World.frozen?, hg]⟩
      have e : cur[j]? = some u := by simpa using this
      simp [World.cell?, hg, e]
    · cases this

theorem own_put {w : World} {base t size n g cap j : Nat} {xs : List Value} (h : w.ownsRow base t size (.slice (some ⟨g, 0, none⟩) n cap) n xs) (u : Value) : (w.setCell ⟨g, j, none⟩ u).ownsRow base t size (.slice (some ⟨g, 0, none⟩) n cap) n (xs.set j u) := by
  obtain ⟨h1, h2⟩ := h
  rcases h2 with ⟨h2, _⟩ | ⟨g', cap', cur, hv, hb, hg, hle, hmx, hsz, htk⟩
  · cases h2
  · simp only [Value.slice.injEq, Option.some.injEq, Addr.mk.injEq] at hv
    obtain ⟨⟨rfl, -, -⟩, -, rfl⟩ := hv
    refine ⟨by rw [List.length_set]; exact h1, Or.inr ⟨g, cap, _, rfl, hb, Box.set (t := t) hg j u, hle, hmx, by simpa using hsz, ?_⟩⟩
    rw [Array.toList_setIfInBounds, List.take_set, htk]

theorem own_base_le {w : World} {base base' t size n : Nat} {v : Value} {xs : List Value} (h : w.ownsRow base t size v n xs) (hb : base' ≤ base) : w.ownsRow base' t size v n xs := by
  obtain ⟨h1, h2⟩ := h
  refine ⟨h1, ?_⟩
  rcases h2 with h2 | ⟨g, cap, cur, hv, hbb, r⟩
  · exact Or.inl h2
  · exact Or.inr ⟨g, cap, cur, hv, Nat.le_trans hb hbb, r⟩

theorem own_some {w : World} {base t size n : Nat} {v : Value} {xs : List Value} (h : w.ownsRow base t size v n xs) (hn : 0 < n) : ∃ g cap, v = .slice (some ⟨g, 0, none⟩) n cap ∧ base ≤ g := by
  obtain ⟨h1, h2⟩ := h
  rcases h2 with ⟨_, h2⟩ | ⟨g', cap', cur, hv, hb, hg, hle, hmx, hsz, htk⟩
  · omega
  · exact ⟨g', cap', hv, hb⟩

theorem info91 : (Try.prog.info? 91).map (fun i => (i.zero, i.size, i.bytes)) = some (some (.agg #[.int .i64 0, .int .i64 0]), 2, 16) := by kernel_rfl

/-- A span of hours as cells. -/
abbrev enc2 (x : Int × Int) : List Value := [.int .i64 x.1, .int .i64 x.2]

/-- The loads that can be reached. -/
def metL (lev : Nat → Int) (n : Nat) : List Nat := (List.range n).filter (fun j => decide (0 ≤ lev (2 + j)))

/-- A span more. -/
def addH (H : List (Int × Int)) (a b : Int) : List (Int × Int) :=
  match H.getLast? with
  | some x => if x.2 = a then H.set (H.length - 1) (x.1, b) else H ++ [(a, b)]
  | none => [(a, b)]

/-- The hours of the first s spans that can be reached. -/
def metH (lev : Nat → Int) (n : Nat) (T : List Int) : Nat → List (Int × Int)
  | 0 => []
  | s + 1 => if 0 ≤ lev (2 + n + s) then addH (metH lev n T s) (T[s]?.getD 0) (T[s + 1]?.getD 0) else metH lev n T s

theorem metL_next (lev : Nat → Int) (k : Nat) : metL lev (k + 1) = if 0 ≤ lev (2 + k) then metL lev k ++ [k] else metL lev k := by
  unfold metL
  rw [List.range_succ, List.filter_append]
  by_cases h : 0 ≤ lev (2 + k)
  · rw [if_pos h]; simp [h]
  · rw [if_neg h]; simp [h]
theorem metL_len (lev : Nat → Int) (k : Nat) : (metL lev k).length ≤ k := by
  unfold metL
  have := List.length_filter_le (fun j => decide (0 ≤ lev (2 + j))) (List.range k)
  rwa [List.length_range] at this
theorem addH_len (H : List (Int × Int)) (a b : Int) : (addH H a b).length ≤ H.length + 1 := by
  unfold addH
  split
  · split
    · rw [List.length_set]; omega
    · simp
  · simp
theorem metH_len (lev : Nat → Int) (n : Nat) (T : List Int) : ∀ s, (metH lev n T s).length ≤ s
  | 0 => Nat.le_refl _
  | s + 1 => by
    have := metH_len lev n T s
    rw [metH]
    split
    · have := addH_len (metH lev n T s) (T[s]?.getD 0) (T[s + 1]?.getD 0); omega
    · omega

theorem flat2_get : ∀ {H : List (Int × Int)} {z : Nat} {x : Int × Int}, H[z]? = some x → (H.flatMap enc2)[z * 2]? = some (.int .i64 x.1) ∧ (H.flatMap enc2)[z * 2 + 1]? = some (.int .i64 x.2)
  | [], z, x, h => by simp at h
  | y :: H, 0, x, h => by simp at h; subst h; simp
  | y :: H, z + 1, x, h => by
    have ih := flat2_get (H := H) (z := z) (x := x) (by simpa using h)
    rw [show (z + 1) * 2 = z * 2 + 1 + 1 by omega]
    simp only [List.flatMap_cons, enc2, List.cons_append, List.nil_append, List.getElem?_cons_succ]
    exact ih

theorem flat2_set : ∀ {H : List (Int × Int)} {z : Nat} {xa xb b : Int}, H[z]? = some (xa, xb) → (H.flatMap enc2).set (z * 2 + 1) (.int .i64 b) = (H.set z (xa, b)).flatMap enc2
  | [], z, xa, xb, b, h => by simp at h
  | y :: H, 0, xa, xb, b, h => by simp at h; subst h; simp
  | y :: H, z + 1, xa, xb, b, h => by
    have ih := flat2_set (H := H) (z := z) (b := b) (by simpa using h)
    rw [show (z + 1) * 2 + 1 = (z * 2 + 1) + 1 + 1 by omega]
    simp only [List.set_cons_succ, List.flatMap_cons, enc2, List.cons_append, List.nil_append]
    rw [← ih]

/-- What Proof has returned. -/
structure CrushGot (l : List Ld) (lev : Nat → Int) (v1 v2 : Value) (base : Nat) (w' : World) : Prop where
  loads : w'.ownsRow base 3 1 v1 (metL lev l.length).length ((numsI (metL lev l.length)).map (Value.int .i64))
  hours : w'.ownsRow base 91 2 v2 (metH lev l.length (timesOf l) ((timesOf l).length - 1)).length ((metH lev l.length (timesOf l) ((timesOf l).length - 1)).flatMap enc2)

/-- What Proof returns. -/
def ProofGot (l : List Ld) (kq : Int) (w : World) (e : Ending) (w' : World) : Prop :=
  ∃ v1 v2 ok, e = .returned (.tuple #[.agg #[v1, v2], .bool ok]) ∧ Adds w w' ∧
    (checkK l kq ≠ 0 → ok = false ∧ v1 = nilV ∧ v2 = nilV) ∧
    (checkK l kq = 0 → ∃ val f lev, Flow (netE (timesOf l) kq l) f val ∧ Lev (netE (timesOf l) kq l) (2 + l.length + (timesOf l).length) f lev ∧ lev 1 < 0 ∧
      (val = totalL l → ok = false ∧ v1 = nilV ∧ v2 = nilV) ∧ (val ≠ totalL l → ok = true ∧ CrushGot l lev v1 v2 w.heap.size w'))

set_option maxRecDepth 100000 in
set_option maxHeartbeats 4000000 in
theorem Proof_any (p : Option Addr) (cl : Nat) (l : List Ld) (kq : Int) (w : World) (hN : l.length ≤ maxLen) (hL : LoadsAt w p l) :
    Calls Try.prog 23 #[.slice p l.length cl, .int .i64 kq] w (ProofGot l kq w) := by
  have hc := fun W (hW : Adds w W) => check_any p cl l kq W hN (hL.later hW)
  by_cases h0 : checkK l kq = 0
  · obtain ⟨o1, o2, o3, o4⟩ := okB_all h0
    have hlay := fun W (hW : Adds w W) => lay_laid p cl l kq W (hL.later hW) o2 o1 (by omega) (by omega)
    have htot := fun W (hW : Adds w W) => total_any p cl l W o1 (hL.later hW) o2
    have hS := laid_sane (kq := kq) o2 o1 (by omega) (by omega)
    have hTl := timesOf_len l
    obtain ⟨n, hn⟩ : ∃ n, n = l.length := ⟨_, rfl⟩
    obtain ⟨t, ht⟩ : ∃ t, t = totalL l := ⟨_, rfl⟩
    rw [← ht] at htot
    rw [← hn] at hlay htot hc hTl o1 ⊢
    rw [h0] at hc
    have HS := Lib.hid hS
    have HN := Lib.hid hn
    have HT := Lib.hid ht
    have HC := Lib.hid hc
    have HLAY := Lib.hid hlay
    have HTOT := Lib.hid htot
    have H0 := Lib.hid h0
    have HOK := Lib.hid o2
    have HTS := Lib.hid (span_bd (timesOf_spec l) o2).1
    clear hc hlay htot hS hn ht h0 o2 hL hN
    go_enter Try.func23, Try.ntmps23
    obtain ⟨rb, hrb⟩ : ∃ b, b = w.heap.size := ⟨_, rfl⟩
    have hA0 : Adds w (w.alloc (.cells #[nilV, nilV] 46)) := (Adds.refl w).alloc _
    go_upto_region 4 with (first
      | (go_at_call 41; refine (HC.out _ hA0).mono ?_; rintro e w1 ⟨rfl, hb1⟩; have HB1 := Lib.hid (hA0.trans hb1); have HX1 : Hid (Box w1 w.heap.size #[nilV, nilV] 46) := Lib.hid ((Box.new w _ _).later hb1); clear hb1)
      | (go_at_call 50; refine (HLAY.out _ HB1.out).mono ?_; rintro e w2 ⟨K, rfl, hk⟩; have HK := Lib.hid hk; clear hk))
    have hKl := HK.out.low
    have hX1s := HX1.out.lt
    go_upto_region 6 with (first
      | (go_at_call 51; refine (fill_any K _ _ nilV _ HS.out HK.out.net).mono ?_; rintro e w3 ⟨val, f, lev, gs, rfl, h1, h2, h3, h4, h5, h6, h7, h8⟩; have HF := Lib.hid h1; have HLV := Lib.hid h3; have HL1 := Lib.hid h4; have HST := Lib.hid h5; have HGS := Lib.hid h6; have HK3 := Lib.hid h7; have HT3 := Lib.hid h8; have HA3 : Hid (Adds w w3) := Lib.hid (Touch.adds (HB1.out.trans HK.out.adds) h8 (fun i hi => by have := HB1.out.size; rcases hi with hi | hi <;> omega)); clear h1 h2 h3 h4 h5 h6 h7 h8)
      | (go_at_call 52; refine (HTOT.out _ HA3.out).mono ?_; rintro e w4 ⟨rfl, hb4⟩; have HB4 := Lib.hid hb4; have HX3 : Hid (Box w3 w.heap.size #[nilV, nilV] 46) := Lib.hid ((HX1.out.later HK.out.adds).same (HT3.out.same _ (by have := HK.out.adds.size; omega) (by have := HB1.out.size; omega))); have HX4 := Lib.hid (HX3.out.later hb4); have HA4 := Lib.hid (HA3.out.trans hb4); have kf0 : w4.frozen? ⟨w.heap.size, 0, none⟩ = false := HX4.out.free 0; have kf1 : w4.frozen? ⟨w.heap.size, 1, none⟩ = false := HX4.out.free 1; have kc0 : w4.cell? ⟨w.heap.size, 0, none⟩ = some nilV := HX4.out.cell 0; have kc1 : w4.cell? ⟨w.heap.size, 1, none⟩ = some nilV := HX4.out.cell 1; clear hb4 HX3; obtain ⟨q, hq⟩ : ∃ q, (val == t) = q := ⟨_, rfl⟩; cases q))
    · have HVT : Hid (val ≠ t) := Lib.hid (by simpa using hq)
      have hn0 : 0 < n := by
        rcases Nat.eq_zero_or_pos n with h | h
        · exfalso
          have hl : l = [] := List.length_eq_zero_iff.1 (by rw [← HN.out]; exact h)
          have h1 := HF.out.div 0
          have h2 := HT.out
          subst hl
          rw [timesOf_nil] at h1
          simp [netE, loadsE, sinkE, divE, sumN, totalL] at h1 h2
          exact HVT.out (by omega)
        · exact h
      obtain ⟨gt, ct, hkt, hrt, hg1, hg2, hg3⟩ := HK.out.times (by have := HN.out; omega)
      obtain ⟨tl, htl⟩ : ∃ t, t = (timesOf l).length := ⟨_, rfl⟩
      obtain ⟨N, hNN⟩ : ∃ N, N = 2 + n + tl := ⟨_, rfl⟩
      have hNe : 2 + l.length + (timesOf l).length = N := by have := HN.out; omega
      have hrt4 : RowI 3 .i64 w4 gt ct (timesOf l) := (hrt.touch HT3.out (by intro e; rcases e with e | e <;> omega)).later HB4.out
      have hb3 := HK3.out.net
      rw [hNe, HK.out.loads, hkt, ← htl] at hb3
      have hst := HST.out
      rw [hNe] at hst
      have HKB := Lib.hid (hb3.later HB4.out)
      have HST4 := Lib.hid (hst.later HB4.out)
      have HRT := Lib.hid hrt4
      have HTL := Lib.hid htl
      have hlev : ∀ v, v < N → -1 ≤ lev v ∧ lev v < (N : Int) := by have := HLV.out.top; rw [hNe] at this; exact this
      have HLEV := Lib.hid hlev
      have hNb : N ≤ 1000 := by omega
      have HNE := Lib.hid hNN
      obtain ⟨j0, hj, hj0, hj1, hj2⟩ := info_parts info3
      have HJ := Lib.hid hj
      have HJ0 := Lib.hid hj0
      have HJ1 := Lib.hid hj1
      have HJ2 := Lib.hid hj2
      obtain ⟨i0, hi, hi0, hi1, hi2⟩ := info_parts info91
      have HI := Lib.hid hi
      have HI0 := Lib.hid hi0
      have HI1 := Lib.hid hi1
      have HI2 := Lib.hid hi2
      clear hj hj0 hj1 hj2 hi hi0 hi1 hi2 hkt hrt hg1 hg2 hg3 hrt4 hb3 hst hlev hq HST hNN
      rw [← htl] at hTl
      clear htl
      go_upto_region 8 with fail
      obtain ⟨cb, hcb⟩ : ∃ c, c = w4.heap.size := ⟨_, rfl⟩
      obtain ⟨W5, hW5⟩ : ∃ V, V = w4.alloc (.cells #[nilV, nilV] 46) := ⟨_, rfl⟩
      rw [← hW5, ← hcb]
      have hA5 : Adds w4 W5 := by rw [hW5]; exact (Adds.refl _).alloc _
      have hC5 : Box W5 cb #[nilV, nilV] 46 := by rw [hW5, hcb]; exact Box.new _ _ _
      have HA5 := Lib.hid hA5
      have HC5 := Lib.hid hC5
      have HCB := Lib.hid hcb
      clear hA5 hC5 hW5 hcb kf0 kf1 kc0 kc1
      go_loopw [27] (fun v27 wr => ∃ (k : Nat) (v1 : Value), k ≤ n ∧ v27 = .int .i64 k ∧ Hid (Box wr cb #[v1, nilV] 46) ∧ Hid (wr.ownsRow (cb + 1) 3 1 v1 (metL lev k).length ((numsI (metL lev k)).map (Value.int .i64))) ∧ Hid (Adds w4 wr)) (fun v27 _ => n - (intOf v27).toNat)
      case atStart => exact ⟨0, nilV, by omega, rfl, HC5, Lib.hid (World.ownsRow_nil _ _ _ _), HA5⟩
      case round =>
        clear HA5 HC5
        obtain ⟨k, v1, hk, rfl, HCX, HO, HAD⟩ := hrel
        by_cases hlt : k < n
        · have hlt2 : (k : Int) < (n : Int) := by omega
          have hbk := HKB.out.later HAD.out
          have kb4 : wr.cell? ⟨K.b, 4, none⟩ = some (.slice (some ⟨gs, 0, none⟩) N N) := hbk.cell 4
          have hNN := HNE.out
          obtain ⟨y, hy⟩ : ∃ y, y = lev (2 + k) := ⟨_, rfl⟩
          have ky : wr.cell? ⟨gs, 2 + k, none⟩ = some (.int .i64 y) := by rw [hy]; exact (HST4.out.later HAD.out).cell (by omega)
          obtain ⟨hy0, hy1⟩ := HLEV.out (2 + k) (by omega)
          rw [← hy] at hy0 hy1
          have HY := Lib.hid hy
          have hNk : (2 : Int) + (k : Int) < (N : Int) := by omega
          clear hbk hy hNN
          by_cases hys : 0 ≤ y
          · have hg : decide (0 ≤ y) = true := decide_eq_true hys
            obtain ⟨p1, c1, rfl⟩ := own_slice HO.out
            have kc0 : wr.cell? ⟨cb, 0, none⟩ = some (.slice p1 (metL lev k).length c1) := HCX.out.cell 0
            have hml := metL_len lev k
            have hnx : metL lev (k + 1) = metL lev k ++ [k] := by rw [metL_next, if_pos (by rw [← HY.out]; exact hys)]
            have HNX := Lib.hid hnx
            obtain ⟨m, hm⟩ : ∃ m, m = (metL lev k).length := ⟨_, rfl⟩
            have ho := HO.out
            rw [← hm] at ho kc0 hml
            have HM := Lib.hid hm
            have hcl := HCX.out.lt
            have hkeep : ∀ (o : Obj) (w' : World), (wr.alloc o).grownBy w' (Value.slice p1 m c1).ownBlock → w'.heap[cb]? = wr.heap[cb]? ∧ Adds w4 w' := fun o w' hg => by
              have hA : Adds wr (wr.alloc o) := (Adds.refl _).alloc o
              have hb : ∀ q, q ≤ cb → some q ≠ (Value.slice p1 m c1).ownBlock := fun q hq e => by have := (own_block ho e.symm).1; omega
              refine ⟨(hg.block cb (by have := hA.size; omega) (hb cb (Nat.le_refl _))).trans (hA.block cb hcl), ?_⟩
              have h1 : Adds w4 (wr.alloc o) := HAD.out.trans hA
              exact ⟨hg.os.trans h1.os, hg.tape.trans h1.tape, hg.output.trans h1.output, Nat.le_trans h1.size hg.size, fun q hq => (hg.block q (by have := h1.size; omega) (hb q (by have := HCB.out; omega))).trans (h1.block q hq)⟩
            have HO2 := Lib.hid ho
            have HKP := Lib.hid hkeep
            clear hnx hm ho hkeep
            go_wp2_with (at_builtin; ((refine wpList_append_lies _ rfl _ _ 35 rfl (cb + 1) 3 j0 (.int .i64 0) 1 8 Try.underlying35 HJ.out HJ0.out HJ1.out HJ2.out rfl (by decide) (.slice p1 m c1) m _ rfl (HO2.out.alloc _) ⟨wr.heap.size, 0, none⟩ 1 1 [.int .i64 k] rfl rfl (World.news_of_block (Box.new wr #[.int .i64 k] 3)) (by simp [Value.oneCell']) (by omega) (by unfold maxLen; omega) (by omega) (by simp; omega) (wr.heap.size + 1) (by simp) ?_); intro g6 c6 w6 ho6 hg6 hl6 hs6; have HK6 := Lib.hid (HKP.out _ _ hg6); have HX6 : Hid (Box w6 cb #[.slice p1 m c1, nilV] 46) := Lib.hid (by have := HCX.out; rw [← HM.out] at this; exact this.same HK6.out.1); have k60 : w6.cell? ⟨cb, 0, none⟩ = some (.slice p1 m c1) := HX6.out.cell 0; have k6f : w6.frozen? ⟨cb, 0, none⟩ = false := HX6.out.free 0; have HO6 := Lib.hid ho6; clear ho6 hg6 hl6))
            refine ⟨⟨k + 1, _, by omega, by go_num, Lib.hid (HX6.out.set 0 _), Lib.hid ?_, Lib.hid (HK6.out.2.set (p := ⟨cb, 0, none⟩) (by have := HCB.out; simp; omega) _)⟩, by simp [intOf]; omega⟩
            rw [HNX.out]
            have e1 : (numsI (metL lev k ++ [k])).map (Value.int .i64) = (numsI (metL lev k)).map (Value.int .i64) ++ [.int .i64 k] := by simp
            have e2 : (metL lev k ++ [k]).length = m + 1 := by rw [List.length_append, ← HM.out]; rfl
            rw [e1, e2]
            exact own_same HO6.out (fun q hq => Below.heap_setCell _ _ _ _ (by have := (own_block HO6.out hq).1; simp; omega))
          · have hg : decide (0 ≤ y) = false := decide_eq_false hys
            have HNX : Hid (metL lev (k + 1) = metL lev k) := Lib.hid (by rw [metL_next, if_neg (by rw [← HY.out]; exact hys)])
            go_wp2
            exact ⟨⟨k + 1, v1, by omega, by go_num, HCX, Lib.hid (by rw [HNX.out]; exact HO.out), HAD⟩, by simp [intOf]; omega⟩
        · have hkn : n = k := by omega
          subst hkn
          have HCXn := HCX
          have HL1n := HO
          clear HCX HO hlt hk
          have kb1 : wr.cell? ⟨K.b, 1, none⟩ = some (.slice (some ⟨gt, 0, none⟩) tl ct) := (HKB.out.later HAD.out).cell 1
          go_upto_region 14 with fail
          clear kb1
          go_loopw [52] (fun v52 wr => ∃ (s : Nat) (v2 : Value), s ≤ tl - 1 ∧ v52 = .int .i64 s ∧ Hid (Box wr cb #[v1, v2] 46) ∧ Hid (wr.ownsRow (cb + 1) 3 1 v1 (metL lev n).length ((numsI (metL lev n)).map (Value.int .i64))) ∧ Hid (wr.ownsRow (cb + 1) 91 2 v2 (metH lev n (timesOf l) s).length ((metH lev n (timesOf l) s).flatMap enc2)) ∧ Hid (Adds w4 wr)) (fun v52 _ => tl - (intOf v52).toNat)
          case atStart => exact ⟨0, nilV, by omega, rfl, HCXn, HL1n, Lib.hid (World.ownsRow_nil _ _ _ _), HAD⟩
          case round =>
            clear HCXn HL1n HAD
            obtain ⟨s, v2, hs1, rfl, HCX, HO1, HO2, HAD⟩ := hrel
            by_cases hlt : s < tl - 1
            · have hlt2 : (s : Int) < (tl : Int) - 1 := by omega
              have htl := HTL.out
              obtain ⟨a, hta⟩ : ∃ a, (timesOf l)[s]? = some a := ⟨_, List.getElem?_eq_getElem (by omega)⟩
              obtain ⟨bb, htb⟩ : ∃ a, (timesOf l)[s + 1]? = some a := ⟨_, List.getElem?_eq_getElem (by omega)⟩
              have hNN := HNE.out
              obtain ⟨y, hy⟩ : ∃ y, y = lev (2 + n + s) := ⟨_, rfl⟩
              obtain ⟨hy0, hy1⟩ := HLEV.out (2 + n + s) (by omega)
              rw [← hy] at hy0 hy1
              have HND : Hid (∀ W, Adds w4 W → Calls Try.prog 59 #[.pointer (some ⟨K.b, 0, none⟩), .int .i64 s] W fun e w' => e = .returned (.int .i64 (2 + (n : Int) + (s : Int))) ∧ w' = W) := Lib.hid (fun W hW => (node_int K.b n s cl _ _ _ _ _ W (HKB.out.later hW) (by omega) (by omega)).mono fun _ _ ⟨he, hw⟩ => ⟨he, hw.symm⟩)
              have kb4 : wr.cell? ⟨K.b, 4, none⟩ = some (.slice (some ⟨gs, 0, none⟩) N N) := (HKB.out.later HAD.out).cell 4
              have ky : wr.cell? ⟨gs, 2 + n + s, none⟩ = some (.int .i64 y) := by rw [hy]; exact (HST4.out.later HAD.out).cell (by omega)
              have hNk : (2 : Int) + (n : Int) + (s : Int) < (N : Int) := by omega
              have HTA := Lib.hid hta
              have HTB := Lib.hid htb
              have HY := Lib.hid hy
              have hwrs : IntKind.i64.wrap ((s : Int) + 1) = (s : Int) + 1 := by rw [IntKind.wrap_i64]; omega
              have hst5 : (0 : Int) ≤ (s : Int) + 1 := by omega
              have hst1 : s < tl := by omega
              have hst2 : s + 1 < tl := by omega
              have hst3 : (s : Int) < (tl : Int) := by omega
              have hst4 : (s : Int) + 1 < (tl : Int) := by omega
              clear hta htb hy hNN htl
              obtain ⟨H, hH⟩ : ∃ H, H = metH lev n (timesOf l) s := ⟨_, rfl⟩
              have hHs : metH lev n (timesOf l) (s + 1) = if 0 ≤ y then addH H a bb else H := by
                rw [hH, metH, ← HY.out, HTA.out, HTB.out]; rfl
              have hml : H.length ≤ s := by rw [hH]; exact metH_len lev n (timesOf l) s
              rw [← hH] at HO2
              have HHH := Lib.hid hH
              have HHS := Lib.hid hHs
              clear hH hHs
              by_cases hys : y < 0
              · have hg : decide (y < 0) = true := decide_eq_true hys
                have HNX : Hid (metH lev n (timesOf l) (s + 1) = H) := Lib.hid (by rw [HHS.out, if_neg (by omega)])
                go_upto_region 16 with fail
                go_quiet ((go_at_call 59; exact Calls.quiet_of_same (HND.out _ (by first | exact HAD.out | exact HAD.out.drew | exact HAD.out.drewN _))))
                go_wp2
                have hd : ∀ nq, Adds wr (wr.drewN nq) := fun nq => (Adds.refl _).drewN nq
                exact ⟨⟨s + 1, v2, by omega, by go_num, Lib.hid (HCX.out.later (hd _)), Lib.hid (own_same HO1.out (fun q hq => (hd _).block q (by obtain ⟨_, _, e⟩ := own_block HO1.out hq; exact (Array.getElem?_eq_some_iff.1 e).1))), Lib.hid (by rw [HNX.out]; exact own_same HO2.out (fun q hq => (hd _).block q (by obtain ⟨_, _, e⟩ := own_block HO2.out hq; exact (Array.getElem?_eq_some_iff.1 e).1))), Lib.hid (HAD.out.drewN _)⟩, by simp [intOf]; omega⟩
              · have hg : decide (y < 0) = false := decide_eq_false hys
                have HNX : Hid (metH lev n (timesOf l) (s + 1) = addH H a bb) := Lib.hid (by rw [HHS.out, if_pos (by omega)])
                obtain ⟨p2, c2, rfl⟩ := own_slice HO2.out
                obtain ⟨m, hm⟩ : ∃ m, m = H.length := ⟨_, rfl⟩
                rw [← hm] at HO2 HCX hml
                have HM := Lib.hid hm
                clear hm
                go_upto_region 16 with fail
                go_quiet ((go_at_call 59; exact Calls.quiet_of_same (HND.out _ (by first | exact HAD.out | exact HAD.out.drew | exact HAD.out.drewN _))))
                go_upto_region 17 with fail
                obtain ⟨W6, hW6⟩ : ∃ V, V = wr.drewN nq := ⟨_, rfl⟩
                rw [← hW6]
                have hd : Adds wr W6 := by rw [hW6]; exact (Adds.refl _).drewN _
                have HCX6 := Lib.hid (HCX.out.later hd)
                have HO16 := Lib.hid (own_same (w' := W6) HO1.out (fun q hq => hd.block q (by obtain ⟨_, _, e⟩ := own_block HO1.out hq; exact (Array.getElem?_eq_some_iff.1 e).1)))
                have HO26 := Lib.hid (own_same (w' := W6) HO2.out (fun q hq => hd.block q (by obtain ⟨_, _, e⟩ := own_block HO2.out hq; exact (Array.getElem?_eq_some_iff.1 e).1)))
                have HAD6 := Lib.hid (HAD.out.trans hd)
                clear hW6 hd HCX HO1 HO2 HAD kb4 ky
                have k1 : W6.cell? ⟨cb, 1, none⟩ = some (.slice p2 m c2) := HCX6.out.cell 1
                have kb1 : W6.cell? ⟨K.b, 1, none⟩ = some (.slice (some ⟨gt, 0, none⟩) tl ct) := (HKB.out.later HAD6.out).cell 1
                have kta : W6.cell? ⟨gt, s, none⟩ = some (.int .i64 a) := (HRT.out.later HAD6.out).cell HTA.out
                go_upto_region 18 with fail
                by_cases hm0 : m = 0
                · have hmi : (m : Int) - 1 = -1 := by omega
                  rw [hmi]
                  clear hmi
                  have HNEXT : Hid (metH lev n (timesOf l) (s + 1) = H ++ [(a, bb)]) := Lib.hid (by
                    have hH0 : H = [] := List.length_eq_zero_iff.1 (by rw [← HM.out]; exact hm0)
                    rw [HNX.out, hH0]; rfl)
                  clear hm0
                  go_quiet (fail)
                  go_upto_region 20 with fail
                  obtain ⟨W7, hW7⟩ : ∃ V, V = W6.drewN nq := ⟨_, rfl⟩
                  rw [← hW7]
                  have HAD7 : Hid (Adds w4 W7) := Lib.hid (by rw [hW7]; exact HAD6.out.drewN _)
                  have HCX7 : Hid (Box W7 cb #[v1, .slice p2 m c2] 46) := Lib.hid (by rw [hW7]; exact HCX6.out.later ((Adds.refl _).drewN _))
                  have HO17 : Hid (W7.ownsRow (cb + 1) 3 1 v1 (metL lev n).length ((numsI (metL lev n)).map (Value.int .i64))) := Lib.hid (by rw [hW7]; exact own_same HO16.out (fun q hq => ((Adds.refl W6).drewN nq).block q (by obtain ⟨_, _, e⟩ := own_block HO16.out hq; exact (Array.getElem?_eq_some_iff.1 e).1)))
                  have HO27 : Hid (W7.ownsRow (cb + 1) 91 2 (.slice p2 m c2) m (H.flatMap enc2)) := Lib.hid (by rw [hW7]; exact own_same HO26.out (fun q hq => ((Adds.refl W6).drewN nq).block q (by obtain ⟨_, _, e⟩ := own_block HO26.out hq; exact (Array.getElem?_eq_some_iff.1 e).1)))
                  clear hW7
                  have r1 : W7.cell? ⟨cb, 1, none⟩ = some (.slice p2 m c2) := HCX7.out.cell 1
                  have r2 : W7.cell? ⟨K.b, 1, none⟩ = some (.slice (some ⟨gt, 0, none⟩) tl ct) := (HKB.out.later HAD7.out).cell 1
                  have r3 : W7.cell? ⟨gt, s, none⟩ = some (.int .i64 a) := (HRT.out.later HAD7.out).cell HTA.out
                  have r4 : W7.cell? ⟨gt, s + 1, none⟩ = some (.int .i64 bb) := (HRT.out.later HAD7.out).cell HTB.out
                  refine wp_region_Z 21 (fun w' => w'.cell? ⟨cb, 1, none⟩ = some (.slice p2 m c2) ∧ w'.cell? ⟨K.b, 1, none⟩ = some (.slice (some ⟨gt, 0, none⟩) tl ct) ∧ w'.cell? ⟨gt, s, none⟩ = some (.int .i64 a) ∧ w'.cell? ⟨gt, s + 1, none⟩ = some (.int .i64 bb)) (by kernel_rfl) ⟨r1, r2, r3, r4⟩ (fun hHeld => ?_)
                  refine wpAnyZ_take (i := 0) (oi := ⟨some 100, _, _, _, _, _⟩) (v := ?v1) rfl (by kernel_rfl) (by kernel_rfl) (by kernel_rfl) (by kernel_rfl) (fun _ _ _ h => h) (Or.inl ⟨by rfl, ?hy1⟩) (by assumption) ?rest1
                  case hy1 => (intro w hSw; (try dsimp only at hSw); go_simp; try with_reducible rfl)
                  try simp only [Act.put, List.setIfInBounds_toArray, List.set_cons_zero, List.set_cons_succ]
                  refine wpAnyZ_take (i := 1) (oi := ⟨some 101, _, _, _, _, _⟩) (v := ?v2) rfl (by kernel_rfl) (by kernel_rfl) (by kernel_rfl) (by kernel_rfl) (fun _ _ _ h => h) (Or.inl ⟨by rfl, ?hy2⟩) (by assumption) ?rest2
                  case hy2 => (intro w hSw; (try dsimp only at hSw); go_simp; try with_reducible rfl)
                  try simp only [Act.put, List.setIfInBounds_toArray, List.set_cons_zero, List.set_cons_succ]
                  refine wpAnyZ_take (i := 2) (oi := ⟨some 102, _, _, _, _, _⟩) (v := ?v3) rfl (by kernel_rfl) (by kernel_rfl) (by kernel_rfl) (by kernel_rfl) (fun _ _ _ h => h) (Or.inl ⟨by rfl, ?hy3⟩) (by assumption) ?rest3
                  case hy3 => (intro w hSw; (try dsimp only at hSw); go_simp; try with_reducible rfl)
                  try simp only [Act.put, List.setIfInBounds_toArray, List.set_cons_zero, List.set_cons_succ]
                  refine wpAnyZ_take (i := 3) (oi := ⟨some 103, _, _, _, _, _⟩) (v := ?v4) rfl (by kernel_rfl) (by kernel_rfl) (by kernel_rfl) (by kernel_rfl) (fun _ _ _ h => h) (Or.inl ⟨by rfl, ?hy4⟩) (by assumption) ?rest4
                  case hy4 => (intro w hSw; (try dsimp only at hSw); go_simp; try with_reducible rfl)
                  try simp only [Act.put, List.setIfInBounds_toArray, List.set_cons_zero, List.set_cons_succ]
                  refine wpAnyZ_take (i := 4) (oi := ⟨some 104, _, _, _, _, _⟩) (v := ?v5) rfl (by kernel_rfl) (by kernel_rfl) (by kernel_rfl) (by kernel_rfl) (fun _ _ _ h => h) (Or.inl ⟨by rfl, ?hy5⟩) (by assumption) ?rest5
                  case hy5 => (intro w hSw; (try dsimp only at hSw); go_simp; try with_reducible rfl)
                  try simp only [Act.put, List.setIfInBounds_toArray, List.set_cons_zero, List.set_cons_succ]
                  refine wpAnyZ_take (i := 5) (oi := ⟨some 105, _, _, _, _, _⟩) (v := ?v6) rfl (by kernel_rfl) (by kernel_rfl) (by kernel_rfl) (by kernel_rfl) (fun _ _ _ h => h) (Or.inl ⟨by rfl, ?hy6⟩) (by assumption) ?rest6
                  case hy6 => (intro w hSw; (try dsimp only at hSw); go_simp; try with_reducible rfl)
                  try simp only [Act.put, List.setIfInBounds_toArray, List.set_cons_zero, List.set_cons_succ]
                  refine wpAnyZ_take (i := 6) (oi := ⟨some 106, _, _, _, _, _⟩) (v := ?v7) rfl (by kernel_rfl) (by kernel_rfl) (by kernel_rfl) (by kernel_rfl) (fun _ _ _ h => h) (Or.inl ⟨by rfl, ?hy7⟩) (by assumption) ?rest7
                  case hy7 => (intro w hSw; (try dsimp only at hSw); go_simp; try with_reducible rfl)
                  try simp only [Act.put, List.setIfInBounds_toArray, List.set_cons_zero, List.set_cons_succ]
                  refine wpAnyZ_take (i := 7) (oi := ⟨some 107, _, _, _, _, _⟩) (v := ?v8) rfl (by kernel_rfl) (by kernel_rfl) (by kernel_rfl) (by kernel_rfl) (fun _ _ _ h => h) (Or.inl ⟨by rfl, ?hy8⟩) (by assumption) ?rest8
                  case hy8 => (intro w hSw; (try dsimp only at hSw); go_simp; try with_reducible rfl)
                  try simp only [Act.put, List.setIfInBounds_toArray, List.set_cons_zero, List.set_cons_succ]
                  refine wpAnyZ_take (i := 8) (oi := ⟨some 108, _, _, _, _, _⟩) (v := ?v9) rfl (by kernel_rfl) (by kernel_rfl) (by kernel_rfl) (by kernel_rfl) (fun _ _ _ h => h) (Or.inl ⟨by rfl, ?hy9⟩) (by assumption) ?rest9
                  case hy9 => (intro w hSw; (try dsimp only at hSw); go_simp; try with_reducible rfl)
                  try simp only [Act.put, List.setIfInBounds_toArray, List.set_cons_zero, List.set_cons_succ]
                  refine wpAnyZ_take (i := 9) (oi := ⟨some 109, _, _, _, _, _⟩) (v := ?v10) rfl (by kernel_rfl) (by kernel_rfl) (by kernel_rfl) (by kernel_rfl) (fun _ _ _ h => h) (Or.inl ⟨by rfl, ?hy10⟩) (by assumption) ?rest10
                  case hy10 => (intro w hSw; (try dsimp only at hSw); go_simp; try with_reducible rfl)
                  try simp only [Act.put, List.setIfInBounds_toArray, List.set_cons_zero, List.set_cons_succ]
                  refine wpAnyZ_take (i := 10) (oi := ⟨some 110, _, _, _, _, _⟩) (v := ?v11) rfl (by kernel_rfl) (by kernel_rfl) (by kernel_rfl) (by kernel_rfl) (fun _ _ _ h => h) (Or.inl ⟨by rfl, ?hy11⟩) (by assumption) ?rest11
                  case hy11 => (intro w hSw; (try dsimp only at hSw); go_simp; try with_reducible rfl)
                  try simp only [Act.put, List.setIfInBounds_toArray, List.set_cons_zero, List.set_cons_succ]
                  refine wpAnyZ_take (i := 11) (oi := ⟨some 111, _, _, _, _, _⟩) (v := ?v12) rfl (by kernel_rfl) (by kernel_rfl) (by kernel_rfl) (by kernel_rfl) (fun _ _ _ h => h) (Or.inl ⟨by rfl, ?hy12⟩) (by assumption) ?rest12
                  case hy12 => (intro w hSw; (try dsimp only at hSw); go_simp; try with_reducible rfl)
                  try simp only [Act.put, List.setIfInBounds_toArray, List.set_cons_zero, List.set_cons_succ]
                  refine wpAnyZ_take (i := 12) (oi := ⟨some 112, _, _, _, _, _⟩) (v := ?v13) rfl (by kernel_rfl) (by kernel_rfl) (by kernel_rfl) (by kernel_rfl) (fun _ _ _ h => h) (Or.inl ⟨by rfl, ?hy13⟩) (by assumption) ?rest13
                  case hy13 => (intro w hSw; (try dsimp only at hSw); go_simp; try with_reducible rfl)
                  try simp only [Act.put, List.setIfInBounds_toArray, List.set_cons_zero, List.set_cons_succ]
                  refine wpAnyZ_take (i := 13) (oi := ⟨some 113, _, _, _, _, _⟩) (v := ?v14) rfl (by kernel_rfl) (by kernel_rfl) (by kernel_rfl) (by kernel_rfl) (fun _ _ _ h => h) (Or.inl ⟨by rfl, ?hy14⟩) (by assumption) ?rest14
                  case hy14 => (intro w hSw; (try dsimp only at hSw); go_simp; try with_reducible rfl)
                  try simp only [Act.put, List.setIfInBounds_toArray, List.set_cons_zero, List.set_cons_succ]
                  refine wpAnyZ_take (i := 14) (oi := ⟨some 114, _, _, _, _, _⟩) (v := ?v15) rfl (by kernel_rfl) (by kernel_rfl) (by kernel_rfl) (by kernel_rfl) (fun _ _ _ h => h) (Or.inl ⟨by rfl, ?hy15⟩) (by assumption) ?rest15
                  case hy15 => (intro w hSw; (try dsimp only at hSw); go_simp; try with_reducible rfl)
                  try simp only [Act.put, List.setIfInBounds_toArray, List.set_cons_zero, List.set_cons_succ]
                  refine wpAnyZ_take (i := 15) (oi := ⟨some 115, _, _, _, _, _⟩) (v := ?v16) rfl (by kernel_rfl) (by kernel_rfl) (by kernel_rfl) (by kernel_rfl) (fun _ _ _ h => h) (Or.inl ⟨by rfl, ?hy16⟩) (by assumption) ?rest16
                  case hy16 => (intro w hSw; (try dsimp only at hSw); go_simp; try with_reducible rfl)
                  try simp only [Act.put, List.setIfInBounds_toArray, List.set_cons_zero, List.set_cons_succ]
                  refine wpAnyZ_take (i := 16) (oi := ⟨some 116, _, _, _, _, _⟩) (v := ?v17) rfl (by kernel_rfl) (by kernel_rfl) (by kernel_rfl) (by kernel_rfl) (fun _ _ _ h => h) (Or.inl ⟨by rfl, ?hy17⟩) (by assumption) ?rest17
                  case hy17 => (intro w hSw; (try dsimp only at hSw); go_simp; try with_reducible rfl)
                  try simp only [Act.put, List.setIfInBounds_toArray, List.set_cons_zero, List.set_cons_succ]
                  refine wpAnyZ_take (i := 17) (oi := ⟨some 117, _, _, _, _, _⟩) (v := ?v18) rfl (by kernel_rfl) (by kernel_rfl) (by kernel_rfl) (by kernel_rfl) (fun _ _ _ h => h) (Or.inl ⟨by rfl, ?hy18⟩) (by assumption) ?rest18
                  case hy18 => (intro w hSw; (try dsimp only at hSw); go_simp; try with_reducible rfl)
                  try simp only [Act.put, List.setIfInBounds_toArray, List.set_cons_zero, List.set_cons_succ]
                  refine wpAnyZ_loud (i := 18) (o := ⟨some 118, _, _, _, _, _⟩) (by kernel_rfl) rfl (fun K_ hK => ?_)
                  go_simp
                  obtain ⟨W8, hW8⟩ : ∃ V, V = (W7.alloc (.cells #[.int .i64 a, .int .i64 bb] 91)).drew := ⟨_, rfl⟩
                  rw [← hW8]
                  have hA8 : Adds W7 W8 := by rw [hW8]; exact ((Adds.refl _).alloc _).drew
                  have hs8 : W8.heap.size = W7.heap.size + 1 := by rw [hW8]; simp
                  have hbx8 : Box W8 W7.heap.size #[.int .i64 a, .int .i64 bb] 91 := by rw [hW8]; exact (Box.new W7 _ _).drew
                  have hO8 := own_same (w' := W8) HO27.out (fun q hq => hA8.block q (by obtain ⟨_, _, e⟩ := own_block HO27.out hq; exact (Array.getElem?_eq_some_iff.1 e).1))
                  refine hK.out _ _ (Or.inr ⟨keep_cell hA8 r1, keep_cell hA8 r2, keep_cell hA8 r3, keep_cell hA8 r4⟩) ?_
                  clear hK K_ hHeld
                  try simp only [Act.put, List.setIfInBounds_toArray, List.set_cons_zero, List.set_cons_succ]
                  refine wpAnyZ_loud (i := 19) (o := ⟨some 119, _, _, _, _, _⟩) (by kernel_rfl) rfl (fun K_ hK => ?_)
                  refine step_append_lies _ (by rfl) _ _ 36 (by rfl) (cb + 1) 91 i0 (.agg #[.int .i64 0, .int .i64 0]) 2 16 Try.underlying36 HI.out HI0.out HI1.out HI2.out rfl (by decide) (.slice p2 m c2) m _ (by rfl) hO8 ⟨W7.heap.size, 0, none⟩ 1 1 [.int .i64 a, .int .i64 bb] (by rfl) (by rfl) (World.news_of_block hbx8) (by simp [Value.oneCell']) (by omega) (by unfold maxLen; omega) (by omega) (by have := HAD7.out.size; have := HCB.out; have := HCX7.out.lt; omega) (W7.heap.size + 1) hs8 ?_
                  intro g9 c9 w9 ho9 hg9 hl9 hs9
                  have hk9 : ∀ q, q < W7.heap.size → some q ≠ (Value.slice p2 m c2).ownBlock → w9.heap[q]? = W7.heap[q]? := fun q h1 h2 => (hg9.block q (by have := hA8.size; omega) h2).trans (hA8.block q h1)
                  have hlow : ∀ q, q ≤ cb → some q ≠ (Value.slice p2 m c2).ownBlock := fun q hq e => by have := (own_block HO27.out e.symm).1; omega
                  have hA9 : Adds w4 w9 := ⟨hg9.os.trans (HAD7.out.trans hA8).os, hg9.tape.trans (HAD7.out.trans hA8).tape, hg9.output.trans (HAD7.out.trans hA8).output, Nat.le_trans (HAD7.out.trans hA8).size hg9.size, fun q hq => (hk9 q (by have := HAD7.out.size; omega) (hlow q (by have := HCB.out; omega))).trans (HAD7.out.block q hq)⟩
                  have hX9 := HCX7.out.same (hk9 cb HCX7.out.lt (hlow cb (Nat.le_refl _)))
                  have q1 : w9.cell? ⟨cb, 1, none⟩ = some (.slice p2 m c2) := hX9.cell 1
                  have q2 : w9.cell? ⟨K.b, 1, none⟩ = some (.slice (some ⟨gt, 0, none⟩) tl ct) := (HKB.out.later hA9).cell 1
                  have q3 : w9.cell? ⟨gt, s, none⟩ = some (.int .i64 a) := (HRT.out.later hA9).cell HTA.out
                  have q4 : w9.cell? ⟨gt, s + 1, none⟩ = some (.int .i64 bb) := (HRT.out.later hA9).cell HTB.out
                  have qf : w9.frozen? ⟨cb, 1, none⟩ = false := hX9.free 1
                  have hO19 := own_same (w' := w9) HO17.out (fun q hq => by
                    obtain ⟨_, c3, e3⟩ := own_block HO17.out hq
                    refine hk9 q (Array.getElem?_eq_some_iff.1 e3).1 (fun e => ?_)
                    obtain ⟨_, c4, e4⟩ := own_block HO27.out e.symm
                    rw [e3] at e4
                    simp at e4)
                  refine hK.out _ _ (Or.inr ⟨q1, q2, q3, q4⟩) ?_
                  clear hK K_
                  have hHeld : w9.cell? ⟨cb, 1, none⟩ = some (.slice p2 m c2) ∧ w9.cell? ⟨K.b, 1, none⟩ = some (.slice (some ⟨gt, 0, none⟩) tl ct) ∧ w9.cell? ⟨gt, s, none⟩ = some (.int .i64 a) ∧ w9.cell? ⟨gt, s + 1, none⟩ = some (.int .i64 bb) := ⟨q1, q2, q3, q4⟩
                  try simp only [Act.put, List.setIfInBounds_toArray, List.set_cons_zero, List.set_cons_succ]
                  refine wpAnyZ_take (i := 20) (oi := ⟨some 120, _, _, _, _, _⟩) (v := ?v19) rfl (by kernel_rfl) (by kernel_rfl) (by kernel_rfl) (by kernel_rfl) (fun _ _ _ h => h) (Or.inl ⟨by rfl, ?hy19⟩) (by assumption) ?rest19
                  case hy19 => (intro w hSw; (try dsimp only at hSw); go_simp; try with_reducible rfl)
                  try simp only [Act.put, List.setIfInBounds_toArray, List.set_cons_zero, List.set_cons_succ]
                  refine wpAnyZ_loud (i := 21) (o := ⟨none, _, _, _, _, _⟩) (by kernel_rfl) rfl (fun K_ hK => ?_)
                  go_simp
                  refine hK.out _ _ (Or.inl rfl) ?_
                  clear hK K_ hHeld
                  try simp only [Act.put, List.setIfInBounds_toArray, List.set_cons_zero, List.set_cons_succ]
                  refine wpAnyZ_done (by kernel_rfl) ?_ _
                  obtain ⟨W10, hW10⟩ : ∃ V, V = w9.setCell ⟨cb, 1, none⟩ (.slice (some ⟨g9, 0, none⟩) (m + 1) c9) := ⟨_, rfl⟩
                  rw [← hW10]
                  have HX10 : Hid (Box W10 cb #[v1, .slice (some ⟨g9, 0, none⟩) (m + 1) c9] 46) := Lib.hid (by rw [hW10]; exact hX9.set 1 _)
                  have HA10 : Hid (Adds w4 W10) := Lib.hid (by rw [hW10]; exact hA9.set (p := ⟨cb, 1, none⟩) (by have := HCB.out; simp; omega) _)
                  have HO110 : Hid (W10.ownsRow (cb + 1) 3 1 v1 (metL lev n).length ((numsI (metL lev n)).map (Value.int .i64))) := Lib.hid (by rw [hW10]; exact own_same hO19 (fun q hq => Below.heap_setCell _ _ _ _ (by have := (own_block hO19 hq).1; simp; omega)))
                  have HO210 : Hid (W10.ownsRow (cb + 1) 91 2 (.slice (some ⟨g9, 0, none⟩) (m + 1) c9) (metH lev n (timesOf l) (s + 1)).length ((metH lev n (timesOf l) (s + 1)).flatMap enc2)) := Lib.hid (by
                    have e1 : metH lev n (timesOf l) (s + 1) = H ++ [(a, bb)] := HNEXT.out
                    have e2 : (H ++ [(a, bb)]).length = m + 1 := by rw [List.length_append, ← HM.out]; rfl
                    have e3 : (H ++ [(a, bb)]).flatMap enc2 = H.flatMap enc2 ++ [.int .i64 a, .int .i64 bb] := by simp
                    rw [e1, e2, e3, hW10]
                    exact own_same ho9 (fun q hq => Below.heap_setCell _ _ _ _ (by have := (own_block ho9 hq).1; simp; omega)))
                  clear hW10 hX9 hA9 hO19 ho9 hg9 hl9 hs9 hk9 hlow q1 q2 q3 q4 qf hO8 hbx8 hs8 hA8 hW8 r1 r2 r3 r4
                  go_wp2
                  exact ⟨⟨s + 1, _, by omega, by go_num, HX10, HO110, HO210, HA10⟩, by simp [intOf]; omega⟩
                · obtain ⟨z, hz⟩ : ∃ z : Nat, m = z + 1 := ⟨m - 1, by omega⟩
                  have hzi : (m : Int) - 1 = (z : Int) := by omega
                  rw [hzi]
                  obtain ⟨g2, c2', hp2, hg2⟩ := own_some HO26.out (by omega)
                  simp only [Value.slice.injEq] at hp2
                  obtain ⟨rfl, -, rfl⟩ := hp2
                  have hzl : z < H.length := by have := HM.out; omega
                  obtain ⟨⟨xa, xb⟩, hx⟩ : ∃ x, H[z]? = some x := ⟨_, List.getElem?_eq_getElem hzl⟩
                  have hlast : H.getLast? = some (xa, xb) := by
                    rw [List.getLast?_eq_getElem?, show H.length - 1 = z by have := HM.out; omega]
                    exact hx
                  have hcx := own_cell HO26.out (flat2_get hx).2
                  have kx : W6.cell? ⟨g2, z * 2 + 1, none⟩ = some (.int .i64 xb) := hcx.1
                  have hge : decide ((0 : Int) ≤ (z : Int)) = true := decide_eq_true (by omega)
                  have hzm : (z : Int) < (m : Int) := by omega
                  have HLAST := Lib.hid hlast
                  have HZ := Lib.hid hz
                  have HHX := Lib.hid hx
                  clear hz hzi hx hlast hcx hzl hm0
                  by_cases hxa : xb = a
                  · have heq : (xb == a) = true := by rw [hxa]; simp
                    have HNEXT : Hid (metH lev n (timesOf l) (s + 1) = H.set z (xa, bb)) := Lib.hid (by
                      rw [HNX.out]
                      unfold addH
                      rw [HLAST.out]
                      dsimp only
                      rw [if_pos hxa, ← HM.out, HZ.out, Nat.add_sub_cancel])
                    clear hxa
                    go_quiet (fail)
                    go_upto_region 19 with fail
                    obtain ⟨W7, hW7⟩ : ∃ V, V = W6.drewN nq := ⟨_, rfl⟩
                    rw [← hW7]
                    have hd7 : Adds W6 W7 := by rw [hW7]; exact (Adds.refl _).drewN _
                    have HAD7 := Lib.hid (HAD6.out.trans hd7)
                    have HCX7 := Lib.hid (HCX6.out.later hd7)
                    have HO17 := Lib.hid (own_same (w' := W7) HO16.out (fun q hq => hd7.block q (by obtain ⟨_, _, e⟩ := own_block HO16.out hq; exact (Array.getElem?_eq_some_iff.1 e).1)))
                    have HO27 := Lib.hid (own_same (w' := W7) HO26.out (fun q hq => hd7.block q (by obtain ⟨_, _, e⟩ := own_block HO26.out hq; exact (Array.getElem?_eq_some_iff.1 e).1)))
                    clear hW7 hd7 k1 kb1 kta kx
                    have k1 : W7.cell? ⟨cb, 1, none⟩ = some (.slice (some ⟨g2, 0, none⟩) m c2) := HCX7.out.cell 1
                    have kb1 : W7.cell? ⟨K.b, 1, none⟩ = some (.slice (some ⟨gt, 0, none⟩) tl ct) := (HKB.out.later HAD7.out).cell 1
                    have ktb : W7.cell? ⟨gt, s + 1, none⟩ = some (.int .i64 bb) := (HRT.out.later HAD7.out).cell HTB.out
                    have hcx7 := own_cell HO27.out (flat2_get HHX.out).2
                    have kx : W7.cell? ⟨g2, z * 2 + 1, none⟩ = some (.int .i64 xb) := hcx7.1
                    have kxf : W7.frozen? ⟨g2, z * 2 + 1, none⟩ = false := hcx7.2
                    clear hcx7
                    go_still_tail 13, (by kernel_rfl)
                    change wpList _ _ _ _ _ W7.drew
                    go_wp2
                    have hcbl := HCX7.out.lt
                    have hwe : W7.drew.setCell ⟨g2, z * 2 + 1, none⟩ (.int .i64 bb) = W7.drew.setCell ⟨g2, z * 2 + 1, none⟩ (.int .i64 bb) := rfl
                    have hcxn : Box (W7.setCell ⟨g2, z * 2 + 1, none⟩ (.int .i64 bb)) cb #[v1, .slice (some ⟨g2, 0, none⟩) m c2] 46 := HCX7.out.far (by simp; omega) _
                    have ho1n := own_same (w' := W7.setCell ⟨g2, z * 2 + 1, none⟩ (.int .i64 bb)) HO17.out (fun q hq => Below.heap_setCell _ _ _ _ (by
                      obtain ⟨_, c3, e3⟩ := own_block HO17.out hq
                      intro e
                      simp only at e
                      obtain ⟨_, c4, e4⟩ := own_block HO27.out (g := g2) rfl
                      rw [← e, e3] at e4
                      simp at e4))
                    have ho2n := own_put (j := z * 2 + 1) HO27.out (.int .i64 bb)
                    rw [flat2_set HHX.out] at ho2n
                    have hadn : Adds w4 (W7.setCell ⟨g2, z * 2 + 1, none⟩ (.int .i64 bb)) := HAD7.out.set (p := ⟨g2, z * 2 + 1, none⟩) (by have := HCB.out; simp; omega) _
                    have hln : (H.set z (xa, bb)).length = m := by rw [List.length_set]; exact HM.out.symm
                    refine ⟨⟨s + 1, .slice (some ⟨g2, 0, none⟩) m c2, by omega, by go_num, Lib.hid hcxn.drew, Lib.hid (own_same ho1n (fun _ _ => rfl)), Lib.hid (by rw [HNEXT.out, hln]; exact own_same ho2n (fun _ _ => rfl)), Lib.hid hadn.drew⟩, by simp [intOf]; omega⟩
                  · have heq : (xb == a) = false := by simpa using hxa
                    have HNEXT : Hid (metH lev n (timesOf l) (s + 1) = H ++ [(a, bb)]) := Lib.hid (by
                      rw [HNX.out]
                      unfold addH
                      rw [HLAST.out]
                      dsimp only
                      rw [if_neg hxa])
                    clear hxa
                    go_quiet (fail)
                    go_upto_region 20 with fail
                    obtain ⟨W7, hW7⟩ : ∃ V, V = W6.drewN nq := ⟨_, rfl⟩
                    rw [← hW7]
                    have HAD7 : Hid (Adds w4 W7) := Lib.hid (by rw [hW7]; exact HAD6.out.drewN _)
                    have HCX7 : Hid (Box W7 cb #[v1, .slice (some ⟨g2, 0, none⟩) m c2] 46) := Lib.hid (by rw [hW7]; exact HCX6.out.later ((Adds.refl _).drewN _))
                    have HO17 : Hid (W7.ownsRow (cb + 1) 3 1 v1 (metL lev n).length ((numsI (metL lev n)).map (Value.int .i64))) := Lib.hid (by rw [hW7]; exact own_same HO16.out (fun q hq => ((Adds.refl W6).drewN nq).block q (by obtain ⟨_, _, e⟩ := own_block HO16.out hq; exact (Array.getElem?_eq_some_iff.1 e).1)))
                    have HO27 : Hid (W7.ownsRow (cb + 1) 91 2 (.slice (some ⟨g2, 0, none⟩) m c2) m (H.flatMap enc2)) := Lib.hid (by rw [hW7]; exact own_same HO26.out (fun q hq => ((Adds.refl W6).drewN nq).block q (by obtain ⟨_, _, e⟩ := own_block HO26.out hq; exact (Array.getElem?_eq_some_iff.1 e).1)))
                    clear hW7
                    have r1 : W7.cell? ⟨cb, 1, none⟩ = some (.slice (some ⟨g2, 0, none⟩) m c2) := HCX7.out.cell 1
                    have r2 : W7.cell? ⟨K.b, 1, none⟩ = some (.slice (some ⟨gt, 0, none⟩) tl ct) := (HKB.out.later HAD7.out).cell 1
                    have r3 : W7.cell? ⟨gt, s, none⟩ = some (.int .i64 a) := (HRT.out.later HAD7.out).cell HTA.out
                    have r4 : W7.cell? ⟨gt, s + 1, none⟩ = some (.int .i64 bb) := (HRT.out.later HAD7.out).cell HTB.out
                    refine wp_region_Z 21 (fun w' => w'.cell? ⟨cb, 1, none⟩ = some (.slice (some ⟨g2, 0, none⟩) m c2) ∧ w'.cell? ⟨K.b, 1, none⟩ = some (.slice (some ⟨gt, 0, none⟩) tl ct) ∧ w'.cell? ⟨gt, s, none⟩ = some (.int .i64 a) ∧ w'.cell? ⟨gt, s + 1, none⟩ = some (.int .i64 bb)) (by kernel_rfl) ⟨r1, r2, r3, r4⟩ (fun hHeld => ?_)
                    refine wpAnyZ_take (i := 0) (oi := ⟨some 100, _, _, _, _, _⟩) (v := ?v20) rfl (by kernel_rfl) (by kernel_rfl) (by kernel_rfl) (by kernel_rfl) (fun _ _ _ h => h) (Or.inl ⟨by rfl, ?hy20⟩) (by assumption) ?rest20
                    case hy20 => (intro w hSw; (try dsimp only at hSw); go_simp; try with_reducible rfl)
                    try simp only [Act.put, List.setIfInBounds_toArray, List.set_cons_zero, List.set_cons_succ]
                    refine wpAnyZ_take (i := 1) (oi := ⟨some 101, _, _, _, _, _⟩) (v := ?v21) rfl (by kernel_rfl) (by kernel_rfl) (by kernel_rfl) (by kernel_rfl) (fun _ _ _ h => h) (Or.inl ⟨by rfl, ?hy21⟩) (by assumption) ?rest21
                    case hy21 => (intro w hSw; (try dsimp only at hSw); go_simp; try with_reducible rfl)
                    try simp only [Act.put, List.setIfInBounds_toArray, List.set_cons_zero, List.set_cons_succ]
                    refine wpAnyZ_take (i := 2) (oi := ⟨some 102, _, _, _, _, _⟩) (v := ?v22) rfl (by kernel_rfl) (by kernel_rfl) (by kernel_rfl) (by kernel_rfl) (fun _ _ _ h => h) (Or.inl ⟨by rfl, ?hy22⟩) (by assumption) ?rest22
                    case hy22 => (intro w hSw; (try dsimp only at hSw); go_simp; try with_reducible rfl)
                    try simp only [Act.put, List.setIfInBounds_toArray, List.set_cons_zero, List.set_cons_succ]
                    refine wpAnyZ_take (i := 3) (oi := ⟨some 103, _, _, _, _, _⟩) (v := ?v23) rfl (by kernel_rfl) (by kernel_rfl) (by kernel_rfl) (by kernel_rfl) (fun _ _ _ h => h) (Or.inl ⟨by rfl, ?hy23⟩) (by assumption) ?rest23
                    case hy23 => (intro w hSw; (try dsimp only at hSw); go_simp; try with_reducible rfl)
                    try simp only [Act.put, List.setIfInBounds_toArray, List.set_cons_zero, List.set_cons_succ]
                    refine wpAnyZ_take (i := 4) (oi := ⟨some 104, _, _, _, _, _⟩) (v := ?v24) rfl (by kernel_rfl) (by kernel_rfl) (by kernel_rfl) (by kernel_rfl) (fun _ _ _ h => h) (Or.inl ⟨by rfl, ?hy24⟩) (by assumption) ?rest24
                    case hy24 => (intro w hSw; (try dsimp only at hSw); go_simp; try with_reducible rfl)
                    try simp only [Act.put, List.setIfInBounds_toArray, List.set_cons_zero, List.set_cons_succ]
                    refine wpAnyZ_take (i := 5) (oi := ⟨some 105, _, _, _, _, _⟩) (v := ?v25) rfl (by kernel_rfl) (by kernel_rfl) (by kernel_rfl) (by kernel_rfl) (fun _ _ _ h => h) (Or.inl ⟨by rfl, ?hy25⟩) (by assumption) ?rest25
                    case hy25 => (intro w hSw; (try dsimp only at hSw); go_simp; try with_reducible rfl)
                    try simp only [Act.put, List.setIfInBounds_toArray, List.set_cons_zero, List.set_cons_succ]
                    refine wpAnyZ_take (i := 6) (oi := ⟨some 106, _, _, _, _, _⟩) (v := ?v26) rfl (by kernel_rfl) (by kernel_rfl) (by kernel_rfl) (by kernel_rfl) (fun _ _ _ h => h) (Or.inl ⟨by rfl, ?hy26⟩) (by assumption) ?rest26
                    case hy26 => (intro w hSw; (try dsimp only at hSw); go_simp; try with_reducible rfl)
                    try simp only [Act.put, List.setIfInBounds_toArray, List.set_cons_zero, List.set_cons_succ]
                    refine wpAnyZ_take (i := 7) (oi := ⟨some 107, _, _, _, _, _⟩) (v := ?v27) rfl (by kernel_rfl) (by kernel_rfl) (by kernel_rfl) (by kernel_rfl) (fun _ _ _ h => h) (Or.inl ⟨by rfl, ?hy27⟩) (by assumption) ?rest27
                    case hy27 => (intro w hSw; (try dsimp only at hSw); go_simp; try with_reducible rfl)
                    try simp only [Act.put, List.setIfInBounds_toArray, List.set_cons_zero, List.set_cons_succ]
                    refine wpAnyZ_take (i := 8) (oi := ⟨some 108, _, _, _, _, _⟩) (v := ?v28) rfl (by kernel_rfl) (by kernel_rfl) (by kernel_rfl) (by kernel_rfl) (fun _ _ _ h => h) (Or.inl ⟨by rfl, ?hy28⟩) (by assumption) ?rest28
                    case hy28 => (intro w hSw; (try dsimp only at hSw); go_simp; try with_reducible rfl)
                    try simp only [Act.put, List.setIfInBounds_toArray, List.set_cons_zero, List.set_cons_succ]
                    refine wpAnyZ_take (i := 9) (oi := ⟨some 109, _, _, _, _, _⟩) (v := ?v29) rfl (by kernel_rfl) (by kernel_rfl) (by kernel_rfl) (by kernel_rfl) (fun _ _ _ h => h) (Or.inl ⟨by rfl, ?hy29⟩) (by assumption) ?rest29
                    case hy29 => (intro w hSw; (try dsimp only at hSw); go_simp; try with_reducible rfl)
                    try simp only [Act.put, List.setIfInBounds_toArray, List.set_cons_zero, List.set_cons_succ]
                    refine wpAnyZ_take (i := 10) (oi := ⟨some 110, _, _, _, _, _⟩) (v := ?v30) rfl (by kernel_rfl) (by kernel_rfl) (by kernel_rfl) (by kernel_rfl) (fun _ _ _ h => h) (Or.inl ⟨by rfl, ?hy30⟩) (by assumption) ?rest30
                    case hy30 => (intro w hSw; (try dsimp only at hSw); go_simp; try with_reducible rfl)
                    try simp only [Act.put, List.setIfInBounds_toArray, List.set_cons_zero, List.set_cons_succ]
                    refine wpAnyZ_take (i := 11) (oi := ⟨some 111, _, _, _, _, _⟩) (v := ?v31) rfl (by kernel_rfl) (by kernel_rfl) (by kernel_rfl) (by kernel_rfl) (fun _ _ _ h => h) (Or.inl ⟨by rfl, ?hy31⟩) (by assumption) ?rest31
                    case hy31 => (intro w hSw; (try dsimp only at hSw); go_simp; try with_reducible rfl)
                    try simp only [Act.put, List.setIfInBounds_toArray, List.set_cons_zero, List.set_cons_succ]
                    refine wpAnyZ_take (i := 12) (oi := ⟨some 112, _, _, _, _, _⟩) (v := ?v32) rfl (by kernel_rfl) (by kernel_rfl) (by kernel_rfl) (by kernel_rfl) (fun _ _ _ h => h) (Or.inl ⟨by rfl, ?hy32⟩) (by assumption) ?rest32
                    case hy32 => (intro w hSw; (try dsimp only at hSw); go_simp; try with_reducible rfl)
                    try simp only [Act.put, List.setIfInBounds_toArray, List.set_cons_zero, List.set_cons_succ]
                    refine wpAnyZ_take (i := 13) (oi := ⟨some 113, _, _, _, _, _⟩) (v := ?v33) rfl (by kernel_rfl) (by kernel_rfl) (by kernel_rfl) (by kernel_rfl) (fun _ _ _ h => h) (Or.inl ⟨by rfl, ?hy33⟩) (by assumption) ?rest33
                    case hy33 => (intro w hSw; (try dsimp only at hSw); go_simp; try with_reducible rfl)
                    try simp only [Act.put, List.setIfInBounds_toArray, List.set_cons_zero, List.set_cons_succ]
                    refine wpAnyZ_take (i := 14) (oi := ⟨some 114, _, _, _, _, _⟩) (v := ?v34) rfl (by kernel_rfl) (by kernel_rfl) (by kernel_rfl) (by kernel_rfl) (fun _ _ _ h => h) (Or.inl ⟨by rfl, ?hy34⟩) (by assumption) ?rest34
                    case hy34 => (intro w hSw; (try dsimp only at hSw); go_simp; try with_reducible rfl)
                    try simp only [Act.put, List.setIfInBounds_toArray, List.set_cons_zero, List.set_cons_succ]
                    refine wpAnyZ_take (i := 15) (oi := ⟨some 115, _, _, _, _, _⟩) (v := ?v35) rfl (by kernel_rfl) (by kernel_rfl) (by kernel_rfl) (by kernel_rfl) (fun _ _ _ h => h) (Or.inl ⟨by rfl, ?hy35⟩) (by assumption) ?rest35
                    case hy35 => (intro w hSw; (try dsimp only at hSw); go_simp; try with_reducible rfl)
                    try simp only [Act.put, List.setIfInBounds_toArray, List.set_cons_zero, List.set_cons_succ]
                    refine wpAnyZ_take (i := 16) (oi := ⟨some 116, _, _, _, _, _⟩) (v := ?v36) rfl (by kernel_rfl) (by kernel_rfl) (by kernel_rfl) (by kernel_rfl) (fun _ _ _ h => h) (Or.inl ⟨by rfl, ?hy36⟩) (by assumption) ?rest36
                    case hy36 => (intro w hSw; (try dsimp only at hSw); go_simp; try with_reducible rfl)
                    try simp only [Act.put, List.setIfInBounds_toArray, List.set_cons_zero, List.set_cons_succ]
                    refine wpAnyZ_take (i := 17) (oi := ⟨some 117, _, _, _, _, _⟩) (v := ?v37) rfl (by kernel_rfl) (by kernel_rfl) (by kernel_rfl) (by kernel_rfl) (fun _ _ _ h => h) (Or.inl ⟨by rfl, ?hy37⟩) (by assumption) ?rest37
                    case hy37 => (intro w hSw; (try dsimp only at hSw); go_simp; try with_reducible rfl)
                    try simp only [Act.put, List.setIfInBounds_toArray, List.set_cons_zero, List.set_cons_succ]
                    refine wpAnyZ_loud (i := 18) (o := ⟨some 118, _, _, _, _, _⟩) (by kernel_rfl) rfl (fun K_ hK => ?_)
                    go_simp
                    obtain ⟨W8, hW8⟩ : ∃ V, V = (W7.alloc (.cells #[.int .i64 a, .int .i64 bb] 91)).drew := ⟨_, rfl⟩
                    rw [← hW8]
                    have hA8 : Adds W7 W8 := by rw [hW8]; exact ((Adds.refl _).alloc _).drew
                    have hs8 : W8.heap.size = W7.heap.size + 1 := by rw [hW8]; simp
                    have hbx8 : Box W8 W7.heap.size #[.int .i64 a, .int .i64 bb] 91 := by rw [hW8]; exact (Box.new W7 _ _).drew
                    have hO8 := own_same (w' := W8) HO27.out (fun q hq => hA8.block q (by obtain ⟨_, _, e⟩ := own_block HO27.out hq; exact (Array.getElem?_eq_some_iff.1 e).1))
                    refine hK.out _ _ (Or.inr ⟨keep_cell hA8 r1, keep_cell hA8 r2, keep_cell hA8 r3, keep_cell hA8 r4⟩) ?_
                    clear hK K_ hHeld
                    try simp only [Act.put, List.setIfInBounds_toArray, List.set_cons_zero, List.set_cons_succ]
                    refine wpAnyZ_loud (i := 19) (o := ⟨some 119, _, _, _, _, _⟩) (by kernel_rfl) rfl (fun K_ hK => ?_)
                    refine step_append_lies _ (by rfl) _ _ 36 (by rfl) (cb + 1) 91 i0 (.agg #[.int .i64 0, .int .i64 0]) 2 16 Try.underlying36 HI.out HI0.out HI1.out HI2.out rfl (by decide) (.slice (some ⟨g2, 0, none⟩) m c2) m _ (by rfl) hO8 ⟨W7.heap.size, 0, none⟩ 1 1 [.int .i64 a, .int .i64 bb] (by rfl) (by rfl) (World.news_of_block hbx8) (by simp [Value.oneCell']) (by omega) (by unfold maxLen; omega) (by omega) (by have := HAD7.out.size; have := HCB.out; have := HCX7.out.lt; omega) (W7.heap.size + 1) hs8 ?_
                    intro g9 c9 w9 ho9 hg9 hl9 hs9
                    have hk9 : ∀ q, q < W7.heap.size → some q ≠ (Value.slice (some ⟨g2, 0, none⟩) m c2).ownBlock → w9.heap[q]? = W7.heap[q]? := fun q h1 h2 => (hg9.block q (by have := hA8.size; omega) h2).trans (hA8.block q h1)
                    have hlow : ∀ q, q ≤ cb → some q ≠ (Value.slice (some ⟨g2, 0, none⟩) m c2).ownBlock := fun q hq e => by have := (own_block HO27.out e.symm).1; omega
                    have hA9 : Adds w4 w9 := ⟨hg9.os.trans (HAD7.out.trans hA8).os, hg9.tape.trans (HAD7.out.trans hA8).tape, hg9.output.trans (HAD7.out.trans hA8).output, Nat.le_trans (HAD7.out.trans hA8).size hg9.size, fun q hq => (hk9 q (by have := HAD7.out.size; omega) (hlow q (by have := HCB.out; omega))).trans (HAD7.out.block q hq)⟩
                    have hX9 := HCX7.out.same (hk9 cb HCX7.out.lt (hlow cb (Nat.le_refl _)))
                    have q1 : w9.cell? ⟨cb, 1, none⟩ = some (.slice (some ⟨g2, 0, none⟩) m c2) := hX9.cell 1
                    have q2 : w9.cell? ⟨K.b, 1, none⟩ = some (.slice (some ⟨gt, 0, none⟩) tl ct) := (HKB.out.later hA9).cell 1
                    have q3 : w9.cell? ⟨gt, s, none⟩ = some (.int .i64 a) := (HRT.out.later hA9).cell HTA.out
                    have q4 : w9.cell? ⟨gt, s + 1, none⟩ = some (.int .i64 bb) := (HRT.out.later hA9).cell HTB.out
                    have qf : w9.frozen? ⟨cb, 1, none⟩ = false := hX9.free 1
                    have hO19 := own_same (w' := w9) HO17.out (fun q hq => by
                      obtain ⟨_, c3, e3⟩ := own_block HO17.out hq
                      refine hk9 q (Array.getElem?_eq_some_iff.1 e3).1 (fun e => ?_)
                      obtain ⟨_, c4, e4⟩ := own_block HO27.out e.symm
                      rw [e3] at e4
                      simp at e4)
                    refine hK.out _ _ (Or.inr ⟨q1, q2, q3, q4⟩) ?_
                    clear hK K_
                    have hHeld : w9.cell? ⟨cb, 1, none⟩ = some (.slice (some ⟨g2, 0, none⟩) m c2) ∧ w9.cell? ⟨K.b, 1, none⟩ = some (.slice (some ⟨gt, 0, none⟩) tl ct) ∧ w9.cell? ⟨gt, s, none⟩ = some (.int .i64 a) ∧ w9.cell? ⟨gt, s + 1, none⟩ = some (.int .i64 bb) := ⟨q1, q2, q3, q4⟩
                    try simp only [Act.put, List.setIfInBounds_toArray, List.set_cons_zero, List.set_cons_succ]
                    refine wpAnyZ_take (i := 20) (oi := ⟨some 120, _, _, _, _, _⟩) (v := ?v38) rfl (by kernel_rfl) (by kernel_rfl) (by kernel_rfl) (by kernel_rfl) (fun _ _ _ h => h) (Or.inl ⟨by rfl, ?hy38⟩) (by assumption) ?rest38
                    case hy38 => (intro w hSw; (try dsimp only at hSw); go_simp; try with_reducible rfl)
                    try simp only [Act.put, List.setIfInBounds_toArray, List.set_cons_zero, List.set_cons_succ]
                    refine wpAnyZ_loud (i := 21) (o := ⟨none, _, _, _, _, _⟩) (by kernel_rfl) rfl (fun K_ hK => ?_)
                    go_simp
                    refine hK.out _ _ (Or.inl rfl) ?_
                    clear hK K_ hHeld
                    try simp only [Act.put, List.setIfInBounds_toArray, List.set_cons_zero, List.set_cons_succ]
                    refine wpAnyZ_done (by kernel_rfl) ?_ _
                    obtain ⟨W10, hW10⟩ : ∃ V, V = w9.setCell ⟨cb, 1, none⟩ (.slice (some ⟨g9, 0, none⟩) (m + 1) c9) := ⟨_, rfl⟩
                    rw [← hW10]
                    have HX10 : Hid (Box W10 cb #[v1, .slice (some ⟨g9, 0, none⟩) (m + 1) c9] 46) := Lib.hid (by rw [hW10]; exact hX9.set 1 _)
                    have HA10 : Hid (Adds w4 W10) := Lib.hid (by rw [hW10]; exact hA9.set (p := ⟨cb, 1, none⟩) (by have := HCB.out; simp; omega) _)
                    have HO110 : Hid (W10.ownsRow (cb + 1) 3 1 v1 (metL lev n).length ((numsI (metL lev n)).map (Value.int .i64))) := Lib.hid (by rw [hW10]; exact own_same hO19 (fun q hq => Below.heap_setCell _ _ _ _ (by have := (own_block hO19 hq).1; simp; omega)))
                    have HO210 : Hid (W10.ownsRow (cb + 1) 91 2 (.slice (some ⟨g9, 0, none⟩) (m + 1) c9) (metH lev n (timesOf l) (s + 1)).length ((metH lev n (timesOf l) (s + 1)).flatMap enc2)) := Lib.hid (by
                      have e1 : metH lev n (timesOf l) (s + 1) = H ++ [(a, bb)] := HNEXT.out
                      have e2 : (H ++ [(a, bb)]).length = m + 1 := by rw [List.length_append, ← HM.out]; rfl
                      have e3 : (H ++ [(a, bb)]).flatMap enc2 = H.flatMap enc2 ++ [.int .i64 a, .int .i64 bb] := by simp
                      rw [e1, e2, e3, hW10]
                      exact own_same ho9 (fun q hq => Below.heap_setCell _ _ _ _ (by have := (own_block ho9 hq).1; simp; omega)))
                    clear hW10 hX9 hA9 hO19 ho9 hg9 hl9 hs9 hk9 hlow q1 q2 q3 q4 qf hO8 hbx8 hs8 hA8 hW8 r1 r2 r3 r4
                    go_wp2
                    exact ⟨⟨s + 1, _, by omega, by go_num, HX10, HO110, HO210, HA10⟩, by simp [intOf]; omega⟩
            · have hse : s = tl - 1 := by omega
              have HSE := Lib.hid hse
              have hdq : decide ((s : Int) < (tl : Int) - 1) = false := decide_eq_false (by omega)
              clear hse
              obtain ⟨p1, c1, rfl⟩ := own_slice HO1.out
              obtain ⟨p2, c2, rfl⟩ := own_slice HO2.out
              have kc0 := HCX.out.cell 0
              have kc1 := HCX.out.cell 1
              have HR := Lib.hid (HX4.out.later HAD.out)
              have kf0 : wr.frozen? ⟨w.heap.size, 0, none⟩ = false := HR.out.free 0
              have kf1 : wr.frozen? ⟨w.heap.size, 1, none⟩ = false := HR.out.free 1
              have kr0 : wr.cell? ⟨w.heap.size, 0, none⟩ = some nilV := HR.out.cell 0
              have kr1 : wr.cell? ⟨w.heap.size, 1, none⟩ = some nilV := HR.out.cell 1
              simp only [List.getElem?_toArray, List.getElem?_cons_zero, List.getElem?_cons_succ] at kc0 kc1
              go_wp2
              have hrb : w.heap.size < wr.heap.size := HR.out.lt
              have hl0 : l.length = n := HN.out.symm
              have htl := HTL.out
              have hq0 : ((wr.setCell ⟨w.heap.size, 0, none⟩ (.slice p1 (metL lev n).length c1)).setCell ⟨w.heap.size, 1, none⟩ (.slice p2 (metH lev n (timesOf l) s).length c2)).cell? ⟨w.heap.size, 0, none⟩ = some (.slice p1 (metL lev n).length c1) := ((HR.out.set 0 _).set 1 _).cell 0
              have hq1 : ((wr.setCell ⟨w.heap.size, 0, none⟩ (.slice p1 (metL lev n).length c1)).setCell ⟨w.heap.size, 1, none⟩ (.slice p2 (metH lev n (timesOf l) s).length c2)).cell? ⟨w.heap.size, 1, none⟩ = some (.slice p2 (metH lev n (timesOf l) s).length c2) := ((HR.out.set 0 _).set 1 _).cell 1
              have hAf : Adds w ((wr.setCell ⟨w.heap.size, 0, none⟩ (.slice p1 (metL lev n).length c1)).setCell ⟨w.heap.size, 1, none⟩ (.slice p2 (metH lev n (timesOf l) s).length c2)) := ((HA4.out.trans HAD.out).set (p := ⟨w.heap.size, 0, none⟩) (Nat.le_refl _) _).set (p := ⟨w.heap.size, 1, none⟩) (Nat.le_refl _) _
              have hcbw : w.heap.size < cb + 1 := by have := HCB.out; have := HA4.out.size; omega
              have hsame : ∀ q, cb + 1 ≤ q → ((wr.setCell ⟨w.heap.size, 0, none⟩ (.slice p1 (metL lev n).length c1)).setCell ⟨w.heap.size, 1, none⟩ (.slice p2 (metH lev n (timesOf l) s).length c2)).heap[q]? = wr.heap[q]? := fun q hq => by
                rw [Below.heap_setCell _ _ _ _ (by simp; omega), Below.heap_setCell _ _ _ _ (by simp; omega)]
              have ho1f := own_base_le (own_same HO1.out (fun q hq => hsame q (own_block HO1.out hq).1)) (Nat.le_of_lt hcbw)
              have ho2f := own_base_le (own_same HO2.out (fun q hq => hsame q (own_block HO2.out hq).1)) (Nat.le_of_lt hcbw)
              refine bodyPost_ret (v := .tuple #[.agg #[.slice p1 (metL lev n).length c1, .slice p2 (metH lev n (timesOf l) s).length c2], .bool true]) ?_ rfl ⟨_, _, true, rfl, hAf, fun h => absurd H0.out h, fun _ => ⟨val, f, lev, HF.out, HLV.out, HL1.out, fun h => absurd (h.trans HT.out.symm) HVT.out, fun _ => ⟨rfl, ⟨?_, ?_⟩⟩⟩⟩
              · simp [results, Try.results23, go_sem, hq0, hq1]
              · rw [hl0]; exact ho1f
              · rw [hl0, ← htl, ← HSE.out]; exact ho2f
    · have HVT : Hid (val = t) := Lib.hid (by simpa using hq)
      refine bodyPost_ret (v := .tuple #[.agg #[nilV, nilV], .bool false]) ?_ rfl ⟨nilV, nilV, false, rfl, ?_, fun h => absurd H0.out h, fun _ => ⟨val, f, lev, HF.out, HLV.out, HL1.out, fun _ => ⟨rfl, rfl, rfl⟩, fun h => absurd (HVT.out.trans HT.out) h⟩⟩
      · have q0 : ((w4.setCell ⟨w.heap.size, 0, none⟩ nilV).setCell ⟨w.heap.size, 1, none⟩ nilV).cell? ⟨w.heap.size, 0, none⟩ = some nilV := ((HX4.out.set 0 nilV).set 1 nilV).cell 0
        have q1 : ((w4.setCell ⟨w.heap.size, 0, none⟩ nilV).setCell ⟨w.heap.size, 1, none⟩ nilV).cell? ⟨w.heap.size, 1, none⟩ = some nilV := ((HX4.out.set 0 nilV).set 1 nilV).cell 1
        simp [results, Try.results23, go_sem, q0, q1]
      · exact (HA4.out.set (p := ⟨w.heap.size, 0, none⟩) (Nat.le_refl _) _).set (p := ⟨w.heap.size, 1, none⟩) (Nat.le_refl _) _
  · have H0 := Lib.hid h0
    obtain ⟨c, hcc⟩ : ∃ c, c = checkK l kq := ⟨_, rfl⟩
    rw [← hcc] at hc h0
    have g0 : (c != 0) = true := by simp [bne, h0]
    have HC := Lib.hid hc
    generalize l.length = n at *
    clear hL h0 hc hcc
    go_enter Try.func23, Try.ntmps23
    have hA0 : Adds w (w.alloc (.cells #[nilV, nilV] 46)) := (Adds.refl w).alloc _
    go_wp2_with (go_at_call 41; refine (HC.out _ hA0).mono ?_; rintro e w1 ⟨rfl, hb1⟩; have HB1 := Lib.hid (hA0.trans hb1); have HX1 : Hid (Box w1 w.heap.size #[nilV, nilV] 46) := Lib.hid ((Box.new w _ _).later hb1); have kf0 : w1.frozen? ⟨w.heap.size, 0, none⟩ = false := HX1.out.free 0; have kf1 : w1.frozen? ⟨w.heap.size, 1, none⟩ = false := HX1.out.free 1; have kc0 : w1.cell? ⟨w.heap.size, 0, none⟩ = some nilV := HX1.out.cell 0; have kc1 : w1.cell? ⟨w.heap.size, 1, none⟩ = some nilV := HX1.out.cell 1; clear hb1)
    refine bodyPost_ret (v := .tuple #[.agg #[nilV, nilV], .bool false]) ?_ rfl ⟨nilV, nilV, false, rfl, ?_, fun _ => ⟨rfl, rfl, rfl⟩, fun h => absurd h H0.out⟩
    · have q0 : ((w1.setCell ⟨w.heap.size, 0, none⟩ nilV).setCell ⟨w.heap.size, 1, none⟩ nilV).cell? ⟨w.heap.size, 0, none⟩ = some nilV := ((HX1.out.set 0 nilV).set 1 nilV).cell 0
      have q1 : ((w1.setCell ⟨w.heap.size, 0, none⟩ nilV).setCell ⟨w.heap.size, 1, none⟩ nilV).cell? ⟨w.heap.size, 1, none⟩ = some nilV := ((HX1.out.set 0 nilV).set 1 nilV).cell 1
      simp [results, Try.results23, go_sem, q0, q1]
    · exact (HB1.out.set (p := ⟨w.heap.size, 0, none⟩) (Nat.le_refl _) _).set (p := ⟨w.heap.size, 1, none⟩) (Nat.le_refl _) _

end Go.Proofs.Ytkofnhimgegcnaa
