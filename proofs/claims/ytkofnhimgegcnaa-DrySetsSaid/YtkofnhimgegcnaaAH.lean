/- tame: a few loads, each made valid. -/
import Derived.Test.YtkofnhimgegcnaaAG
namespace Go.Proofs.Ytkofnhimgegcnaa
open Go Go.RowKit Go.Sort

theorem flat4_set (x : Ld) : ∀ (l : List Ld) (k : Nat), k < l.length → (l.set k x).flatMap enc4 = ((((l.flatMap enc4).set (k * 4) (.int .i64 x.1)).set (k * 4 + 1) (.int .i64 x.2.1)).set (k * 4 + 2) (.int .i64 x.2.2.1)).set (k * 4 + 3) (.int .i64 x.2.2.2)
  | [], k, h => by simp at h
  | y :: l, 0, _ => by simp [enc4]
  | y :: l, k + 1, h => by
    have ih := flat4_set x l k (by simpa using h)
    rw [show (k + 1) * 4 = k * 4 + 1 + 1 + 1 + 1 by omega, show k * 4 + 1 + 1 + 1 + 1 + 1 = (k * 4 + 1) + 1 + 1 + 1 + 1 by omega, show k * 4 + 1 + 1 + 1 + 1 + 2 = (k * 4 + 2) + 1 + 1 + 1 + 1 by omega, show k * 4 + 1 + 1 + 1 + 1 + 3 = (k * 4 + 3) + 1 + 1 + 1 + 1 by omega]
    simp only [List.set_cons_succ, List.flatMap_cons, enc4, List.cons_append, List.nil_append]
    rw [← ih]

theorem check_one (x : Ld) : checkL [x] = if okB x then 0 else 1 := by
  unfold checkL
  rw [if_neg (by simp)]
  simp

/-- Loads made valid; short ones. -/
def tamed (sh : Bool) (x : Ld) : Prop := okB x = true ∧ (sh = true → x.2.2.1 = 1)

theorem u64_nonneg (a : Int) : 0 ≤ IntKind.u64.wrap a := by
  have : IntKind.u64.wrap a = a % 18446744073709551616 := by simp [IntKind.wrap, IntKind.signed, IntKind.bits]
  omega
theorem u64_small {a : Int} (h0 : 0 ≤ a) (h1 : a ≤ 1000000) : IntKind.u64.wrap a = a := by
  have : IntKind.u64.wrap a = a % 18446744073709551616 := by simp [IntKind.wrap, IntKind.signed, IntKind.bits]
  omega

theorem wmod (a m : Int) (h0 : 1 ≤ m) (h1 : m ≤ 1000) : 0 ≤ wrap64 ((IntKind.u64.wrap a).tmod m) ∧ wrap64 ((IntKind.u64.wrap a).tmod m) < m := by
  have k1 := Int.tmod_nonneg m (u64_nonneg a)
  have k2 := Int.tmod_lt_of_pos (IntKind.u64.wrap a) (show 0 < m by omega)
  generalize (IntKind.u64.wrap a).tmod m = y at *
  unfold wrap64
  omega

/-- A load written over one of a row. -/
def put4W (w : World) (g k : Nat) (y : Ld) : World := (((w.setCell ⟨g, k * 4, none⟩ (.int .i64 y.1)).setCell ⟨g, k * 4 + 1, none⟩ (.int .i64 y.2.1)).setCell ⟨g, k * 4 + 2, none⟩ (.int .i64 y.2.2.1)).setCell ⟨g, k * 4 + 3, none⟩ (.int .i64 y.2.2.2)
theorem put4 {w : World} {base n c g k : Nat} {L : List Ld} (h : w.ownsRow base 72 4 (.slice (some ⟨g, 0, none⟩) n c) n (L.flatMap enc4)) (hk : k < L.length) (y : Ld) : (put4W w g k y).ownsRow base 72 4 (.slice (some ⟨g, 0, none⟩) n c) n ((L.set k y).flatMap enc4) := by
  rw [flat4_set _ _ _ hk]
  exact own_put (own_put (own_put (own_put h _) _) _) _
theorem put4_adds {w0 w : World} {g k : Nat} (h : Adds w0 w) (hg : w0.heap.size ≤ g) (y : Ld) : Adds w0 (put4W w g k y) := (((h.set (p := ⟨g, k * 4, none⟩) hg _).set (p := ⟨g, k * 4 + 1, none⟩) hg _).set (p := ⟨g, k * 4 + 2, none⟩) hg _).set (p := ⟨g, k * 4 + 3, none⟩) hg _
theorem tam_next {L : List Ld} {k : Nat} {y : Ld} {sh : Bool} (hG : ∀ i x, i < k → L[i]? = some x → tamed sh x) (hy : tamed sh y) : ∀ i x, i < k + 1 → (L.set k y)[i]? = some x → tamed sh x := fun i x hi hx => by
  by_cases e : i = k
  · subst e
    rw [List.getElem?_set_self'] at hx
    cases h : L[i]? with
    | none => rw [h] at hx; cases hx
    | some z => rw [h] at hx; cases hx; exact hy
  · rw [List.getElem?_set_ne (fun h => e h.symm)] at hx
    exact hG i x (by omega) hx

set_option maxRecDepth 100000 in
set_option maxHeartbeats 2000000 in
theorem tame_any (p : Option Addr) (cl most : Nat) (sh : Bool) (l : List Ld) (w : World) (hL : LoadsAt w p l) (hm : most ≤ 1000) (hcl : l.length ≤ cl) (hmx : cl ≤ maxLen) :
    Calls Try.prog 13 #[.slice p l.length cl, .int .i64 most, .bool sh] w fun e w' => ∃ c q l', l'.length = min most l.length ∧ (∀ x ∈ l', tamed sh x) ∧ e = .returned (.slice q l'.length c) ∧ Loads w' 72 w.heap.size (.slice q l'.length c) l' ∧ Adds w w' := by
  have hsome := some_any p cl most l w hL hm hcl hmx
  obtain ⟨m, hm2⟩ : ∃ m, m = l.take most := ⟨_, rfl⟩
  have hmn : m.length = min most l.length := by rw [hm2, List.length_take]
  rw [← hm2] at hsome
  rw [← hmn]
  obtain ⟨n, hn⟩ : ∃ n, n = m.length := ⟨_, rfl⟩
  rw [← hn] at hsome ⊢
  have hnb : n ≤ 1000 := by omega
  have HN := Lib.hid hn
  generalize l.length = N at *
  clear hL hmn hm2 hn hmx hcl
  go_enter Try.func13, Try.ntmps13
  go_upto_region 3 with (go_at_call 38; refine hsome.mono ?_; rintro e w1 ⟨c, q, rfl, hr, hb1⟩; have HR := Lib.hid hr; have HB1 := Lib.hid hb1; clear hr hb1)
  have HR' : Hid (w1.ownsRow w.heap.size 72 4 (.slice q n c) n (m.flatMap enc4)) := Lib.hid (by have := HR.out; unfold Loads at this; rw [← HN.out] at this; exact this)
  clear HR hsome
  go_loopw [8] (fun v8 wr => ∃ (k : Nat) (L : List Ld), k ≤ n ∧ v8 = .int .i64 k ∧ L.length = n ∧ Hid (wr.ownsRow w.heap.size 72 4 (.slice q n c) n (L.flatMap enc4)) ∧ Hid (∀ i x, i < k → L[i]? = some x → tamed sh x) ∧ Hid (Adds w wr)) (fun v8 _ => n - (intOf v8).toNat)
  case atStart => exact ⟨0, m, by omega, rfl, HN.out.symm, HR', Lib.hid (fun i x hi => by omega), HB1⟩
  case round =>
    obtain ⟨k, L, hk, rfl, hLn, HO, HG, HAD⟩ := hrel
    by_cases hlt : k < n
    · have hlt2 : (k : Int) < (n : Int) := by omega
      obtain ⟨g, c', e, hbg⟩ := own_some HO.out (by omega)
      injection e with e1 e2 e3
      subst e1
      clear e2 e3
      obtain ⟨⟨x0, x1, x2, x3⟩, hx⟩ : ∃ x, L[k]? = some x := ⟨_, List.getElem?_eq_getElem (by omega)⟩
      obtain ⟨f0, f1, f2, f3⟩ := flat4_cell k _ hx
      have d0 := (own_cell HO.out f0).1
      have d1 := (own_cell HO.out f1).1
      have d2 := (own_cell HO.out f2).1
      have d3 := (own_cell HO.out f3).1
      dsimp only at d0 d1 d2 d3
      clear f0 f1 f2 f3
      go_upto_region 6 with fail
      have hws := HAD.out.size
      have hgl : g < wr.heap.size := by obtain ⟨_, _, e⟩ := own_block HO.out (show Value.ownBlock _ = some g from rfl); exact (Array.getElem?_eq_some_iff.1 e).1
      obtain ⟨xb, hxb⟩ : ∃ b, b = wr.heap.size := ⟨_, rfl⟩
      obtain ⟨W2, hW2⟩ : ∃ V, V = wr.alloc (.cells #[.int .i64 x0, .int .i64 x1, .int .i64 x2, .int .i64 x3] 72) := ⟨_, rfl⟩
      rw [← hW2, ← hxb]
      have hA2 : Adds wr W2 := by rw [hW2]; exact (Adds.refl _).alloc _
      have HX2 : Hid (Box W2 xb #[.int .i64 x0, .int .i64 x1, .int .i64 x2, .int .i64 x3] 72) := Lib.hid (by rw [hW2, hxb]; exact Box.new _ _ _)
      have HO2 := Lib.hid (own_same (w' := W2) HO.out (fun q hq => hA2.block q (by obtain ⟨_, _, e⟩ := own_block HO.out hq; exact (Array.getElem?_eq_some_iff.1 e).1)))
      have HA2 := Lib.hid (HAD.out.trans hA2)
      have hgx : g ≠ xb := by omega
      have hwx : w.heap.size ≤ xb := by omega
      have HX := Lib.hid hx
      clear hA2 hW2 hxb HO HAD d0 d1 d2 d3 hx hgl
      have hchk := RCheck_any (some ⟨W2.heap.size, 0, none⟩) 1 [(x0, x1, x2, x3)] (W2.alloc (.cells #[.int .i64 x0, .int .i64 x1, .int .i64 x2, .int .i64 x3] 72)) (fun i x hx => by
        have hi : i = 0 := by have := (List.getElem?_eq_some_iff.1 hx).1; simp at this; omega
        subst hi
        simp at hx
        subst hx
        have hb := Box.new W2 #[.int .i64 x0, .int .i64 x1, .int .i64 x2, .int .i64 x3] 72
        exact ⟨W2.heap.size, 0, rfl, hb.cell 0, hb.cell 1, hb.cell 2, hb.cell 3⟩) (by unfold maxLen; simp)
      rw [check_one] at hchk
      have HCH := Lib.hid hchk
      clear hchk
      have xx0 : W2.cell? ⟨xb, 0, none⟩ = some (.int .i64 x0) := HX2.out.cell 0
      have xx1 : W2.cell? ⟨xb, 1, none⟩ = some (.int .i64 x1) := HX2.out.cell 1
      have xx2 : W2.cell? ⟨xb, 2, none⟩ = some (.int .i64 x2) := HX2.out.cell 2
      have xx3 : W2.cell? ⟨xb, 3, none⟩ = some (.int .i64 x3) := HX2.out.cell 3
      cases hb : okB (x0, x1, x2, x3)
      · rw [hb, if_neg (by simp)] at HCH
        clear hb
        go_upto_region 7 with (go_at_call 26; refine HCH.out.mono ?_; rintro e w3 ⟨rfl, ha3⟩; have HA3 := Lib.hid ha3; clear ha3)
        have ha : Adds W2 w3 := ((Adds.refl W2).alloc _).trans HA3.out
        have HX3 := Lib.hid (HX2.out.later ha)
        have HO3 := Lib.hid (own_same (w' := w3) HO2.out (fun q hq => ha.block q (by obtain ⟨_, _, e⟩ := own_block HO2.out hq; exact (Array.getElem?_eq_some_iff.1 e).1)))
        have HA3' := Lib.hid (HA2.out.trans ha)
        clear ha HA3 xx0 xx1 xx2 xx3 HX2 HO2 HA2 HCH
        have xx0 : w3.cell? ⟨xb, 0, none⟩ = some (.int .i64 x0) := HX3.out.cell 0
        have ff0 : w3.frozen? ⟨xb, 0, none⟩ = false := HX3.out.free 0
        go_upto_region 8 with fail
        obtain ⟨a0, a1⟩ := wmod x0 12 (by omega) (by omega)
        obtain ⟨y0, hy0⟩ : ∃ y, y = wrap64 ((IntKind.u64.wrap x0).tmod 12) := ⟨_, rfl⟩
        rw [← hy0] at a0 a1 ⊢
        clear hy0
        obtain ⟨V1, hV1⟩ : ∃ V, V = w3.setCell ⟨xb, 0, none⟩ (.int .i64 y0) := ⟨_, rfl⟩
        rw [← hV1]
        have HV1 : Hid (Box V1 xb #[.int .i64 y0, .int .i64 x1, .int .i64 x2, .int .i64 x3] 72) := Lib.hid (by rw [hV1]; exact HX3.out.set 0 _)
        have HR1 : Hid (∀ i, i ≠ xb → V1.heap[i]? = w3.heap[i]?) := Lib.hid (fun i hi => by rw [hV1]; exact Below.heap_setCell _ _ _ _ hi)
        have HB1' : Hid (Adds w V1) := Lib.hid (by rw [hV1]; exact HA3'.out.set (p := ⟨xb, 0, none⟩) hwx _)
        clear hV1 xx0 ff0 HX3 HA3'
        have xx0 : V1.cell? ⟨xb, 0, none⟩ = some (.int .i64 y0) := HV1.out.cell 0
        have xx1 : V1.cell? ⟨xb, 1, none⟩ = some (.int .i64 x1) := HV1.out.cell 1
        have ff1 : V1.frozen? ⟨xb, 1, none⟩ = false := HV1.out.free 1
        go_upto_region 9 with fail
        obtain ⟨b0, b1⟩ := wmod x1 8 (by omega) (by omega)
        obtain ⟨z1, hz1⟩ : ∃ y, y = wrap64 ((IntKind.u64.wrap x1).tmod 8) := ⟨_, rfl⟩
        rw [← hz1] at b0 b1 ⊢
        have hyw : wrap64 (y0 + 1 + z1) = y0 + 1 + z1 := by unfold wrap64; omega
        rw [hyw]
        obtain ⟨y1, hy1⟩ : ∃ y, y = y0 + 1 + z1 := ⟨_, rfl⟩
        rw [← hy1]
        have c0 : y0 < y1 := by omega
        have c1 : y1 ≤ y0 + 8 := by omega
        clear hz1 hyw hy1 b0 b1
        obtain ⟨V2, hV2⟩ : ∃ V, V = V1.setCell ⟨xb, 1, none⟩ (.int .i64 y1) := ⟨_, rfl⟩
        rw [← hV2]
        have HV2 : Hid (Box V2 xb #[.int .i64 y0, .int .i64 y1, .int .i64 x2, .int .i64 x3] 72) := Lib.hid (by rw [hV2]; exact HV1.out.set 1 _)
        have HR2 : Hid (∀ i, i ≠ xb → V2.heap[i]? = w3.heap[i]?) := Lib.hid (fun i hi => by rw [hV2]; exact (Below.heap_setCell _ _ _ _ hi).trans (HR1.out i hi))
        have HB2' : Hid (Adds w V2) := Lib.hid (by rw [hV2]; exact HB1'.out.set (p := ⟨xb, 1, none⟩) hwx _)
        clear hV2 xx0 xx1 ff1 HV1 HR1 HB1'
        have xx0 : V2.cell? ⟨xb, 0, none⟩ = some (.int .i64 y0) := HV2.out.cell 0
        have xx1 : V2.cell? ⟨xb, 1, none⟩ = some (.int .i64 y1) := HV2.out.cell 1
        have xx2 : V2.cell? ⟨xb, 2, none⟩ = some (.int .i64 x2) := HV2.out.cell 2
        have ff2 : V2.frozen? ⟨xb, 2, none⟩ = false := HV2.out.free 2
        obtain ⟨d, hd⟩ : ∃ y, y = y1 - y0 := ⟨_, rfl⟩
        have hu : IntKind.u64.wrap (y1 - y0) = d := by rw [u64_small (by omega) (by omega), hd]
        have hd0 : 0 < d := by omega
        have hd8 : d ≤ 8 := by omega
        have hdz : (d == 0) = false := by simp; omega
        go_upto_region 10 with fail
        obtain ⟨b0, b1⟩ := wmod x2 (y1 - y0) (by omega) (by omega)
        obtain ⟨z2, hz2⟩ : ∃ y, y = wrap64 ((IntKind.u64.wrap x2).tmod (y1 - y0)) := ⟨_, rfl⟩
        rw [← hz2] at b0 b1 ⊢
        have hyw : wrap64 (1 + z2) = 1 + z2 := by unfold wrap64; omega
        rw [hyw]
        obtain ⟨y2, hy2⟩ : ∃ y, y = 1 + z2 := ⟨_, rfl⟩
        rw [← hy2]
        have e0 : 1 ≤ y2 := by omega
        have e1 : y2 ≤ y1 - y0 := by omega
        clear hz2 hyw hy2 b0 b1 hu hdz hd0 hd8 hd
        obtain ⟨V3, hV3⟩ : ∃ V, V = V2.setCell ⟨xb, 2, none⟩ (.int .i64 y2) := ⟨_, rfl⟩
        rw [← hV3]
        have HV3 : Hid (Box V3 xb #[.int .i64 y0, .int .i64 y1, .int .i64 y2, .int .i64 x3] 72) := Lib.hid (by rw [hV3]; exact HV2.out.set 2 _)
        have HR3 : Hid (∀ i, i ≠ xb → V3.heap[i]? = w3.heap[i]?) := Lib.hid (fun i hi => by rw [hV3]; exact (Below.heap_setCell _ _ _ _ hi).trans (HR2.out i hi))
        have HB3' : Hid (Adds w V3) := Lib.hid (by rw [hV3]; exact HB2'.out.set (p := ⟨xb, 2, none⟩) hwx _)
        clear hV3 xx0 xx1 xx2 ff2 HV2 HR2 HB2'
        have xx3 : V3.cell? ⟨xb, 3, none⟩ = some (.int .i64 x3) := HV3.out.cell 3
        have ff3 : V3.frozen? ⟨xb, 3, none⟩ = false := HV3.out.free 3
        go_upto_region 11 with fail
        obtain ⟨g0, g1⟩ := wmod x3 20 (by omega) (by omega)
        obtain ⟨y3, hy3⟩ : ∃ y, y = wrap64 ((IntKind.u64.wrap x3).tmod 20) := ⟨_, rfl⟩
        rw [← hy3] at g0 g1 ⊢
        clear hy3
        obtain ⟨V4, hV4⟩ : ∃ V, V = V3.setCell ⟨xb, 3, none⟩ (.int .i64 y3) := ⟨_, rfl⟩
        rw [← hV4]
        have HV4 : Hid (Box V4 xb #[.int .i64 y0, .int .i64 y1, .int .i64 y2, .int .i64 y3] 72) := Lib.hid (by rw [hV4]; exact HV3.out.set 3 _)
        have HR4 : Hid (∀ i, i ≠ xb → V4.heap[i]? = w3.heap[i]?) := Lib.hid (fun i hi => by rw [hV4]; exact (Below.heap_setCell _ _ _ _ hi).trans (HR3.out i hi))
        have HB4' : Hid (Adds w V4) := Lib.hid (by rw [hV4]; exact HB3'.out.set (p := ⟨xb, 3, none⟩) hwx _)
        have HO4 := Lib.hid (own_same (w' := V4) HO3.out (fun q hq => HR4.out q (by have : q = g := by simpa [Value.ownBlock] using hq.symm
                                                                                    rw [this]; exact hgx)))
        clear hV4 xx3 ff3 HV3 HR3 HB3'
        have HOK : Hid (okB (y0, y1, y2, y3) = true) := Lib.hid (by rw [okB_iff]; dsimp only; omega)
        have HOK1 : Hid (okB (y0, y1, 1, y3) = true) := Lib.hid (by rw [okB_iff]; dsimp only; omega)
        cases sh
        · skip
          have xx0 : V4.cell? ⟨xb, 0, none⟩ = some (.int .i64 y0) := HV4.out.cell 0
          have xx1 : V4.cell? ⟨xb, 1, none⟩ = some (.int .i64 y1) := HV4.out.cell 1
          have xx2 : V4.cell? ⟨xb, 2, none⟩ = some (.int .i64 y2) := HV4.out.cell 2
          have xx3 : V4.cell? ⟨xb, 3, none⟩ = some (.int .i64 y3) := HV4.out.cell 3
          have ff2 : V4.frozen? ⟨xb, 2, none⟩ = false := HV4.out.free 2
          obtain ⟨f0, f1, f2, f3⟩ := flat4_cell k _ HX.out
          have q0 := own_cell HO4.out f0
          have q1 := own_cell HO4.out f1
          have q2 := own_cell HO4.out f2
          have q3 := own_cell HO4.out f3
          obtain ⟨d0, h0⟩ := q0
          obtain ⟨d1, h1⟩ := q1
          obtain ⟨d2, h2⟩ := q2
          obtain ⟨d3, h3⟩ := q3
          dsimp only at d0 d1 d2 d3
          clear f0 f1 f2 f3
          go_wp2
          refine ⟨⟨k + 1, L.set k (y0, y1, y2, y3), by omega, by go_num, by rw [List.length_set]; exact hLn, Lib.hid (put4 HO4.out (by omega) (y0, y1, y2, y3)), Lib.hid (tam_next HG.out ⟨HOK.out, fun h => by cases h⟩), Lib.hid (put4_adds HB4'.out hbg (y0, y1, y2, y3))⟩, by simp [intOf]; omega⟩
        · skip
          have xx0 : V4.cell? ⟨xb, 0, none⟩ = some (.int .i64 y0) := HV4.out.cell 0
          have xx1 : V4.cell? ⟨xb, 1, none⟩ = some (.int .i64 y1) := HV4.out.cell 1
          have xx2 : V4.cell? ⟨xb, 2, none⟩ = some (.int .i64 y2) := HV4.out.cell 2
          have xx3 : V4.cell? ⟨xb, 3, none⟩ = some (.int .i64 y3) := HV4.out.cell 3
          have ff2 : V4.frozen? ⟨xb, 2, none⟩ = false := HV4.out.free 2
          obtain ⟨f0, f1, f2, f3⟩ := flat4_cell k _ HX.out
          have q0 := own_cell HO4.out f0
          have q1 := own_cell HO4.out f1
          have q2 := own_cell HO4.out f2
          have q3 := own_cell HO4.out f3
          obtain ⟨d0, h0⟩ := q0
          obtain ⟨d1, h1⟩ := q1
          obtain ⟨d2, h2⟩ := q2
          obtain ⟨d3, h3⟩ := q3
          dsimp only at d0 d1 d2 d3
          clear f0 f1 f2 f3
          go_wp2
          refine ⟨⟨k + 1, L.set k (y0, y1, 1, y3), by omega, by go_num, by rw [List.length_set]; exact hLn, Lib.hid (put4 (w := V4.setCell ⟨xb, 2, none⟩ (.int .i64 1)) (own_same HO4.out (fun q hq => ?_)) (by omega) (y0, y1, 1, y3)), Lib.hid (tam_next HG.out ⟨HOK1.out, fun _ => rfl⟩), Lib.hid (put4_adds (w := V4.setCell ⟨xb, 2, none⟩ (.int .i64 1)) (HB4'.out.set (p := ⟨xb, 2, none⟩) hwx _) hbg (y0, y1, 1, y3))⟩, by simp [intOf]; omega⟩
          have : q = g := by simpa [Value.ownBlock] using hq.symm
          exact Below.heap_setCell _ _ _ _ (by rw [this]; exact hgx)
      · have HB := Lib.hid hb
        rw [hb, if_pos rfl] at HCH
        clear hb
        go_upto_region 11 with (go_at_call 26; refine HCH.out.mono ?_; rintro e w3 ⟨rfl, ha3⟩; have HA3 := Lib.hid ha3; clear ha3)
        have ha : Adds W2 w3 := ((Adds.refl W2).alloc _).trans HA3.out
        have HX3 := Lib.hid (HX2.out.later ha)
        have HO3 := Lib.hid (own_same (w' := w3) HO2.out (fun q hq => ha.block q (by obtain ⟨_, _, e⟩ := own_block HO2.out hq; exact (Array.getElem?_eq_some_iff.1 e).1)))
        have HA3' := Lib.hid (HA2.out.trans ha)
        clear ha HA3 xx0 xx1 xx2 xx3 HX2 HO2 HA2 HCH
        cases sh
        · skip
          have xx0 : w3.cell? ⟨xb, 0, none⟩ = some (.int .i64 x0) := HX3.out.cell 0
          have xx1 : w3.cell? ⟨xb, 1, none⟩ = some (.int .i64 x1) := HX3.out.cell 1
          have xx2 : w3.cell? ⟨xb, 2, none⟩ = some (.int .i64 x2) := HX3.out.cell 2
          have xx3 : w3.cell? ⟨xb, 3, none⟩ = some (.int .i64 x3) := HX3.out.cell 3
          have ff2 : w3.frozen? ⟨xb, 2, none⟩ = false := HX3.out.free 2
          obtain ⟨f0, f1, f2, f3⟩ := flat4_cell k _ HX.out
          have q0 := own_cell HO3.out f0
          have q1 := own_cell HO3.out f1
          have q2 := own_cell HO3.out f2
          have q3 := own_cell HO3.out f3
          obtain ⟨d0, g0⟩ := q0
          obtain ⟨d1, g1⟩ := q1
          obtain ⟨d2, g2⟩ := q2
          obtain ⟨d3, g3⟩ := q3
          dsimp only at d0 d1 d2 d3
          clear f0 f1 f2 f3
          go_wp2
          refine ⟨⟨k + 1, L.set k (x0, x1, x2, x3), by omega, by go_num, by rw [List.length_set]; exact hLn, Lib.hid (put4 HO3.out (by omega) (x0, x1, x2, x3)), Lib.hid (tam_next HG.out ⟨HB.out, fun h => by cases h⟩), Lib.hid (put4_adds HA3'.out hbg (x0, x1, x2, x3))⟩, by simp [intOf]; omega⟩
        · skip
          have xx0 : w3.cell? ⟨xb, 0, none⟩ = some (.int .i64 x0) := HX3.out.cell 0
          have xx1 : w3.cell? ⟨xb, 1, none⟩ = some (.int .i64 x1) := HX3.out.cell 1
          have xx2 : w3.cell? ⟨xb, 2, none⟩ = some (.int .i64 x2) := HX3.out.cell 2
          have xx3 : w3.cell? ⟨xb, 3, none⟩ = some (.int .i64 x3) := HX3.out.cell 3
          have ff2 : w3.frozen? ⟨xb, 2, none⟩ = false := HX3.out.free 2
          obtain ⟨f0, f1, f2, f3⟩ := flat4_cell k _ HX.out
          have q0 := own_cell HO3.out f0
          have q1 := own_cell HO3.out f1
          have q2 := own_cell HO3.out f2
          have q3 := own_cell HO3.out f3
          obtain ⟨d0, g0⟩ := q0
          obtain ⟨d1, g1⟩ := q1
          obtain ⟨d2, g2⟩ := q2
          obtain ⟨d3, g3⟩ := q3
          dsimp only at d0 d1 d2 d3
          clear f0 f1 f2 f3
          go_wp2
          have hB := HB.out
          rw [okB_iff] at hB
          dsimp only at hB
          refine ⟨⟨k + 1, L.set k (x0, x1, 1, x3), by omega, by go_num, by rw [List.length_set]; exact hLn, Lib.hid (put4 (w := w3.setCell ⟨xb, 2, none⟩ (.int .i64 1)) (own_same HO3.out (fun q hq => ?_)) (by omega) (x0, x1, 1, x3)), Lib.hid (tam_next HG.out ⟨?_, fun _ => rfl⟩), Lib.hid (put4_adds (w := w3.setCell ⟨xb, 2, none⟩ (.int .i64 1)) (HA3'.out.set (p := ⟨xb, 2, none⟩) hwx _) hbg (x0, x1, 1, x3))⟩, by simp [intOf]; omega⟩
          · have : q = g := by simpa [Value.ownBlock] using hq.symm
            exact Below.heap_setCell _ _ _ _ (by rw [this]; exact hgx)
          · rw [okB_iff]; dsimp only; omega
    · have hkn : n = k := by omega
      subst hkn
      go_wp2
      go_ret
      refine ⟨c, q, L, hLn, fun x hx => ?_, by rw [hLn]; rfl, ?_, HAD.out⟩
      · obtain ⟨i, hi⟩ := List.mem_iff_getElem?.1 hx
        exact HG.out i x (by have := (List.getElem?_eq_some_iff.1 hi).1; omega) hi
      · unfold Loads
        rw [hLn]
        exact HO.out

end Go.Proofs.Ytkofnhimgegcnaa
