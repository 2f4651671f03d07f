/- lay: the network of loads, with nothing in it (the walk). -/
import Derived.Test.YtkofnhimgegcnaaJ
namespace Go.Proofs.Ytkofnhimgegcnaa
open Go Go.RowKit Go.Maps

abbrev nilV : Value := .slice none 0 0
/-- The times that occur. -/
def timesOf (l : List Ld) : List Int := Lib.compact ((timesL l).mergeSort fun x y => decide (x ≤ y))
theorem info35 : (Try.prog.info? 35).map (fun i => (i.zero, i.size, i.bytes)) = some (some (.slice none 0 0), 1, 24) := by kernel_rfl

theorem law3m : Keyed Try.prog 3 := int_keyed Try.underlying3
theorem und117 : Try.prog.underlying 117 = some (.map 3 3) := by kernel_rfl
theorem zero3m (w : World) : (zeroValue 3).run Try.prog w = .ok (.int .i64 0) w := by kernel_rfl

/-- A map that has the numbers of the first k times. -/
def MapT (w : World) (bm k : Nat) (T : List Int) : Prop :=
  ∃ D : DataW Unit, w.ownsMap Try.prog 3 (plainElem Try.prog 3) bm k D ∧ ∀ (s : Nat) (t : Int), s < k → T[s]? = some t → D.atKey (.int .i64 t) (.lit (.int .i64 0)) = .lit (.int .i64 s)

theorem look_yield {w : World} {bm n : Nat} {D : DataW Unit} {a : Act} {o : Oper} {m x : Operand} {t a0 : Int} (hown : w.ownsMap Try.prog 3 (plainElem Try.prog 3) bm n D) (hop : o.op = Op.lookup 117 m x false) (hm : a.eval m = .map (some bm)) (hx : a.eval x = .int .i64 t)
    (hkey : keyOf Try.prog 3 (.int .i64 t) = some (.int .i64 t)) (hat : D.atKey (.int .i64 t) (.lit (.int .i64 0)) = .lit (.int .i64 a0)) : (execOp a.eval o).run Try.prog w = .ok (.value (.int .i64 a0)) w := by
  obtain ⟨c, hrun, h2, _⟩ := hown.lookup_int law3m und117 Try.underlying3 (zero3m w) hkey
  rw [hat] at h2
  have hc : c = a0 := by simpa using h2.symm
  subst hc
  simp [execOp, hop, hm, hx, hrun, Result.andThen]

theorem MapT.made (w : World) (T : List Int) : MapT (w.alloc (.map #[] 0)) w.heap.size 0 T :=
  ⟨_, World.ownsMap_made _ _ _ _, fun s t h => by omega⟩
theorem MapT.same {w w' : World} {bm k : Nat} {T : List Int} (h : MapT w bm k T) (e : w'.heap[bm]? = w.heap[bm]?) : MapT w' bm k T := by
  obtain ⟨D, ⟨es, c, h1, h2⟩, h3⟩ := h
  exact ⟨D, ⟨es, c, e.trans h1, h2⟩, h3⟩
theorem MapT.lt {w : World} {bm k : Nat} {T : List Int} (h : MapT w bm k T) : bm < w.heap.size := by
  obtain ⟨D, ⟨es, c, h1, h2⟩, h3⟩ := h
  exact (Array.getElem?_eq_some_iff.1 h1).1

theorem add_int (b go base N : Nat) (E : List Edge) (w : World) (vl vt vw v4 : Value) (co fr tt : Nat) (fi ti room : Int) (hfi : fi = fr) (hti : ti = tt) (h : LaidAt b go base N E w vl vt vw v4 co) (hf : fr < N) (ht : tt < N) (hne : fr ≠ tt) (hN : N ≤ 100000) (hm : E.length ≤ 1000000) (hbs : base ≤ w.heap.size) :
    Calls Try.prog 76 #[.pointer (some ⟨b, 0, none⟩), .int .i64 fi, .int .i64 ti, .int .i64 room] w fun e w' => e = .returned (.tuple #[]) ∧ ∃ vw', LaidAt b go base N (E ++ [(fr, tt, room)]) w' vl vt vw' v4 co ∧ Touch (fun k => k = b ∨ k = go ∨ base ≤ k) w w' ∧ (∀ k cu t0, w.heap[k]? = some (.cells cu t0 (0, 0)) → t0 ≠ 3 → t0 ≠ 125 → k ≠ b → k ≠ go → w'.heap[k]? = w.heap[k]?) := by
  subst hfi; subst hti
  exact add_any b go base N E w vl vt vw v4 co fr tt room h hf ht hne hN hm hbs

theorem node_int (b n s cl : Nat) (pl : Option Addr) (vt vw vo vs : Value) (w : World) (hb : Box w b #[.slice pl n cl, vt, vw, vo, vs] 100) (hn : n ≤ 1000) (hs : s ≤ 100000) :
    Calls Try.prog 59 #[.pointer (some ⟨b, 0, none⟩), .int .i64 s] w fun e w' => e = .returned (.int .i64 (2 + (n : Int) + (s : Int))) ∧ w = w' :=
  (node_any b n s cl pl vt vw vo vs w hb hn hs).mono (by rintro e w' ⟨rfl, rfl⟩; exact ⟨by simp, rfl⟩)

theorem span_bd {T : List Int} {l : List Ld} (hT : Times T (timesL l)) (hok : ∀ x ∈ l, okN x) : (∀ t ∈ T, 0 ≤ t ∧ t ≤ 1000000000) ∧ ∀ s, 0 ≤ spanL T s ∨ T.length ≤ s + 1 := by
  refine ⟨fun t ht => ?_, fun s => ?_⟩
  · have hm := (hT.mem t).1 ht
    unfold timesL at hm
    rw [List.mem_flatMap] at hm
    obtain ⟨x, hx, hm⟩ := hm
    obtain ⟨o1, o2, o3, o4, o5, o6⟩ := hok x hx
    simp at hm
    omega
  · rcases Nat.lt_or_ge (s + 1) T.length with h | h
    · left
      unfold spanL
      rw [List.getElem?_eq_getElem h, List.getElem?_eq_getElem (show s < T.length by omega)]
      have := List.pairwise_iff_getElem.1 hT.lt s (s + 1) (by omega) h (by omega)
      simp only [Option.getD_some]
      omega
    · exact Or.inr h
theorem span_le {T : List Int} (h : ∀ t ∈ T, 0 ≤ t ∧ t ≤ 1000000000) (s : Nat) : spanL T s ≤ 1000000000 := by
  unfold spanL
  have a : T[s + 1]?.getD 0 ≤ 1000000000 := by
    cases e : T[s + 1]? with
    | none => simp
    | some t => have := h t (List.mem_of_getElem? e); simp; omega
  have b : 0 ≤ T[s]?.getD 0 := by
    cases e : T[s]? with
    | none => simp
    | some t => have := h t (List.mem_of_getElem? e); simp; omega
  omega

theorem LaidAt.later {b go base N : Nat} {E : List Edge} {w w' : World} {vl vt vw v4 : Value} {co : Nat} (h : LaidAt b go base N E w vl vt vw v4 co) (ha : Adds w w') : LaidAt b go base N E w' vl vt vw v4 co := by
  obtain ⟨vs, hr⟩ := h.rows
  exact ⟨h.net.later ha, own_same h.ways (fun g hg => ha.block g (by obtain ⟨_, _, e⟩ := own_block h.ways hg; exact (Array.getElem?_eq_some_iff.1 e).1)),
    ⟨vs, hr.same (ha.block _ hr.lt) (fun v g hv hg => ha.block g (by obtain ⟨_, _, e⟩ := own_block (hr.own v hv) hg; exact (Array.getElem?_eq_some_iff.1 e).1))⟩, h.lt⟩

set_option maxRecDepth 100000 in
set_option maxHeartbeats 8000000 in
theorem lay_any (p : Option Addr) (cl : Nat) (l : List Ld) (kq : Int) (w : World) (hL : LoadsAt w p l) (hok : ∀ x ∈ l, okN x) (hn1 : 0 < l.length) (hn : l.length ≤ 256) (hK0 : 0 ≤ kq) (hK1 : kq ≤ 256) :
    Calls Try.prog 50 #[.slice p l.length cl, .int .i64 kq] w fun e w' => ∃ b go gt ct base co vw T, e = .returned (.pointer (some ⟨b, 0, none⟩)) ∧ T = timesOf l ∧ Times T (timesL l) ∧ RowI 3 .i64 w' gt ct T ∧
      LaidAt b go base (2 + l.length + T.length) (netE T kq l) w' (.slice p l.length cl) (.slice (some ⟨gt, 0, none⟩) T.length ct) vw nilV co ∧ w.heap.size ≤ b ∧ w.heap.size ≤ go ∧ w.heap.size ≤ gt ∧ gt < base ∧ gt ≠ b ∧ gt ≠ go ∧ Adds w w' := by
  obtain ⟨j0, hj, hj0, hj1, hj2⟩ := info_parts info3
  have HJ := Lib.hid hj
  have HJ0 := Lib.hid hj0
  have HJ1 := Lib.hid hj1
  have HJ2 := Lib.hid hj2
  clear hj hj0 hj1 hj2
  have HL := Lib.hid hL
  have HOK := Lib.hid hok
  obtain ⟨n, hnl⟩ : ∃ n, n = l.length := ⟨_, rfl⟩
  rw [← hnl] at hn1 hn ⊢
  have HN := Lib.hid hnl
  clear hL hok hnl
  go_enter Try.func50, Try.ntmps50
  go_upto_region 3 with fail
  obtain ⟨b, hb⟩ : ∃ b, b = w.heap.size := ⟨_, rfl⟩
  obtain ⟨W1, hW1⟩ : ∃ V, V = w.alloc (.cells #[.slice p n cl, nilV, nilV, nilV, nilV] 100) := ⟨_, rfl⟩
  rw [← hW1, ← hb]
  have hB1 : Box W1 b #[.slice p n cl, nilV, nilV, nilV, nilV] 100 := by rw [hW1, hb]; exact Box.new _ _ _
  have hA1 : Adds w W1 := by rw [hW1]; exact (Adds.refl _).alloc _
  have HB1 := Lib.hid hB1
  have HA1 := Lib.hid hA1
  have HBW := Lib.hid hb
  clear hB1 hA1 hW1 hb
  go_loopw [22] (fun v22 wr => ∃ (k : Nat) (vt : Value), k ≤ n ∧ v22 = .int .i64 k ∧ Hid (Box wr b #[.slice p n cl, vt, nilV, nilV, nilV] 100) ∧ Hid (wr.ownsRow (b + 1) 3 1 vt (2 * k) ((timesL (l.take k)).map (Value.int .i64))) ∧ Hid (Adds w wr)) (fun v22 _ => n - (intOf v22).toNat)
  case atStart => exact ⟨0, nilV, by omega, rfl, HB1, Lib.hid (by simpa [timesL] using World.ownsRow_nil _ _ _ _), HA1⟩
  case round =>
    clear HB1 HA1 W1
    obtain ⟨k, vt, hk, rfl, HB, HO, HA⟩ := hrel
    obtain ⟨pt, ct, rfl⟩ := own_slice HO.out
    by_cases hlt : k < n
    · have hlt2 : (k : Int) < (n : Int) := by omega
      obtain ⟨x, hx⟩ : ∃ x, l[k]? = some x := ⟨_, List.getElem?_eq_getElem (by have := HN.out; omega)⟩
      obtain ⟨x0, x1, x2, x3⟩ := x
      obtain ⟨g, off, rfl, c0, c1, c2, c3⟩ := HL.out k _ hx
      have d0 := keep_cell HA.out c0
      have d1 := keep_cell HA.out c1
      have d2 := keep_cell HA.out c2
      have d3 := keep_cell HA.out c3
      have HX := Lib.hid hx
      dsimp only at d0 d1 d2 d3
      clear c0 c1 c2 c3 hx
      go_upto_region 5 with fail
      obtain ⟨xb, hxb⟩ : ∃ b, b = wr.heap.size := ⟨_, rfl⟩
      obtain ⟨W2, hW2⟩ : ∃ V, V = wr.alloc (.cells #[.int .i64 x0, .int .i64 x1, .int .i64 x2, .int .i64 x3] 84) := ⟨_, rfl⟩
      rw [← hW2, ← hxb]
      have hbl := HB.out.lt
      have hA2 : Adds wr W2 := by rw [hW2]; exact (Adds.refl _).alloc _
      have hX2 : Box W2 xb #[.int .i64 x0, .int .i64 x1, .int .i64 x2, .int .i64 x3] 84 := by rw [hW2, hxb]; exact Box.new _ _ _
      have hB2 : Box W2 b #[.slice (some ⟨g, off, none⟩) n cl, .slice pt (2 * k) ct, nilV, nilV, nilV] 100 := HB.out.later hA2
      have hO2 := own_same (w' := W2) HO.out (fun q hq => hA2.block q (by obtain ⟨_, _, e⟩ := own_block HO.out hq; exact (Array.getElem?_eq_some_iff.1 e).1))
      have hxbl : b < xb := by omega
      have hxs : W2.heap.size = xb + 1 := by rw [hW2, hxb]; simp
      have kb1 : W2.cell? ⟨b, 1, none⟩ = some (.slice pt (2 * k) ct) := hB2.cell 1
      have kx0 : W2.cell? ⟨xb, 0, none⟩ = some (.int .i64 x0) := hX2.cell 0
      have kx1 : W2.cell? ⟨xb, 1, none⟩ = some (.int .i64 x1) := hX2.cell 1
      have HA2 := Lib.hid (HA.out.trans hA2)
      have HX2 := Lib.hid hX2
      have HB2 := Lib.hid hB2
      have HO2 := Lib.hid hO2
      clear hA2 hX2 hB2 hO2 hW2 hxb d0 d1 d2 d3 HB HO HA
      refine wp_region_Z 13 (fun w' => w'.cell? ⟨b, 1, none⟩ = some (.slice pt (2 * k) ct) ∧ w'.cell? ⟨xb, 0, none⟩ = some (.int .i64 x0) ∧ w'.cell? ⟨xb, 1, none⟩ = some (.int .i64 x1)) (by kernel_rfl) ⟨kb1, kx0, kx1⟩ (fun hHeld => ?_)
      refine wpAnyZ_take (i := 0) (oi := ⟨some 26, _, _, _, _, _⟩) (v := ?v1) rfl (by kernel_rfl) (by kernel_rfl) (by kernel_rfl) (by kernel_rfl) (fun _ _ _ h => h) (Or.inl ⟨by rfl, ?hy1⟩) (by assumption) ?rest1
      case hy1 => (intro w hSw; (try dsimp only at hSw); go_simp; try with_reducible rfl)
      try simp only [Act.put, List.setIfInBounds_toArray, List.set_cons_zero, List.set_cons_succ]
      refine wpAnyZ_take (i := 1) (oi := ⟨some 27, _, _, _, _, _⟩) (v := ?v2) rfl (by kernel_rfl) (by kernel_rfl) (by kernel_rfl) (by kernel_rfl) (fun _ _ _ h => h) (Or.inl ⟨by rfl, ?hy2⟩) (by assumption) ?rest2
      case hy2 => (intro w hSw; (try dsimp only at hSw); go_simp; try with_reducible rfl)
      try simp only [Act.put, List.setIfInBounds_toArray, List.set_cons_zero, List.set_cons_succ]
      refine wpAnyZ_take (i := 2) (oi := ⟨some 28, _, _, _, _, _⟩) (v := ?v3) rfl (by kernel_rfl) (by kernel_rfl) (by kernel_rfl) (by kernel_rfl) (fun _ _ _ h => h) (Or.inl ⟨by rfl, ?hy3⟩) (by assumption) ?rest3
      case hy3 => (intro w hSw; (try dsimp only at hSw); go_simp; try with_reducible rfl)
      try simp only [Act.put, List.setIfInBounds_toArray, List.set_cons_zero, List.set_cons_succ]
      refine wpAnyZ_take (i := 3) (oi := ⟨some 29, _, _, _, _, _⟩) (v := ?v4) rfl (by kernel_rfl) (by kernel_rfl) (by kernel_rfl) (by kernel_rfl) (fun _ _ _ h => h) (Or.inl ⟨by rfl, ?hy4⟩) (by assumption) ?rest4
      case hy4 => (intro w hSw; (try dsimp only at hSw); go_simp; try with_reducible rfl)
      try simp only [Act.put, List.setIfInBounds_toArray, List.set_cons_zero, List.set_cons_succ]
      refine wpAnyZ_take (i := 4) (oi := ⟨some 30, _, _, _, _, _⟩) (v := ?v5) rfl (by kernel_rfl) (by kernel_rfl) (by kernel_rfl) (by kernel_rfl) (fun _ _ _ h => h) (Or.inl ⟨by rfl, ?hy5⟩) (by assumption) ?rest5
      case hy5 => (intro w hSw; (try dsimp only at hSw); go_simp; try with_reducible rfl)
      try simp only [Act.put, List.setIfInBounds_toArray, List.set_cons_zero, List.set_cons_succ]
      refine wpAnyZ_take (i := 5) (oi := ⟨some 31, _, _, _, _, _⟩) (v := ?v6) rfl (by kernel_rfl) (by kernel_rfl) (by kernel_rfl) (by kernel_rfl) (fun _ _ _ h => h) (Or.inl ⟨by rfl, ?hy6⟩) (by assumption) ?rest6
      case hy6 => (intro w hSw; (try dsimp only at hSw); go_simp; try with_reducible rfl)
      try simp only [Act.put, List.setIfInBounds_toArray, List.set_cons_zero, List.set_cons_succ]
      refine wpAnyZ_take (i := 6) (oi := ⟨some 32, _, _, _, _, _⟩) (v := ?v7) rfl (by kernel_rfl) (by kernel_rfl) (by kernel_rfl) (by kernel_rfl) (fun _ _ _ h => h) (Or.inl ⟨by rfl, ?hy7⟩) (by assumption) ?rest7
      case hy7 => (intro w hSw; (try dsimp only at hSw); go_simp; try with_reducible rfl)
      try simp only [Act.put, List.setIfInBounds_toArray, List.set_cons_zero, List.set_cons_succ]
      refine wpAnyZ_take (i := 7) (oi := ⟨some 33, _, _, _, _, _⟩) (v := ?v8) rfl (by kernel_rfl) (by kernel_rfl) (by kernel_rfl) (by kernel_rfl) (fun _ _ _ h => h) (Or.inl ⟨by rfl, ?hy8⟩) (by assumption) ?rest8
      case hy8 => (intro w hSw; (try dsimp only at hSw); go_simp; try with_reducible rfl)
      try simp only [Act.put, List.setIfInBounds_toArray, List.set_cons_zero, List.set_cons_succ]
      refine wpAnyZ_take (i := 8) (oi := ⟨some 34, _, _, _, _, _⟩) (v := ?v9) rfl (by kernel_rfl) (by kernel_rfl) (by kernel_rfl) (by kernel_rfl) (fun _ _ _ h => h) (Or.inl ⟨by rfl, ?hy9⟩) (by assumption) ?rest9
      case hy9 => (intro w hSw; (try dsimp only at hSw); go_simp; try with_reducible rfl)
      try simp only [Act.put, List.setIfInBounds_toArray, List.set_cons_zero, List.set_cons_succ]
      refine wpAnyZ_loud (i := 9) (o := ⟨some 35, _, _, _, _, _⟩) (by kernel_rfl) rfl (fun K hK => ?_)
      go_simp
      obtain ⟨W3, hW3⟩ : ∃ V, V = (W2.alloc (Obj.cells #[Value.int IntKind.i64 x0, Value.int IntKind.i64 x1] 3)).drew := ⟨_, rfl⟩
      rw [← hW3]
      have hA3 : Adds W2 W3 := by rw [hW3]; exact ((Adds.refl _).alloc _).drew
      have hs3 : W3.heap.size = xb + 1 + 1 := by rw [hW3, ← hxs]; simp
      have hbx : Box W3 (xb + 1) #[.int .i64 x0, .int .i64 x1] 3 := by rw [hW3, ← hxs]; exact (Box.new W2 _ _).drew
      have hO3 := own_same (w' := W3) HO2.out (fun q hq => hA3.block q (by obtain ⟨_, _, e⟩ := own_block HO2.out hq; exact (Array.getElem?_eq_some_iff.1 e).1))
      refine hK.out _ _ (Or.inr ⟨keep_cell hA3 kb1, keep_cell hA3 kx0, keep_cell hA3 kx1⟩) ?_
      clear hK K hHeld
      try simp only [Act.put, List.setIfInBounds_toArray, List.set_cons_zero, List.set_cons_succ]
      refine wpAnyZ_loud (i := 10) (o := ⟨some 36, _, _, _, _, _⟩) (by kernel_rfl) rfl (fun K hK => ?_)
      refine step_append_lies _ (by rfl) _ _ 35 (by rfl) (b + 1) 3 j0 (.int .i64 0) 1 8 Try.underlying35 HJ.out HJ0.out HJ1.out HJ2.out rfl (by decide) (.slice pt (2 * k) ct) (2 * k) _ (by rfl) hO3 ⟨xb + 1, 0, none⟩ 2 2 [.int .i64 x0, .int .i64 x1] (by rfl) (by rfl) (World.news_of_block hbx) (by simp [Value.oneCell']) (by omega) (by unfold maxLen; omega) (by omega) (by omega) (xb + 1 + 1) hs3 ?_
      intro g4 c4 w4 ho4 hg4 hl4 hs4
      have hk4 : ∀ q, q < W2.heap.size → some q ≠ (Value.slice pt (2 * k) ct).ownBlock → w4.heap[q]? = W2.heap[q]? := fun q h1 h2 => (hg4.block q (by have := hA3.size; omega) h2).trans (hA3.block q h1)
      have hxne : ∀ q, q ≤ b ∨ q = xb → some q ≠ (Value.slice pt (2 * k) ct).ownBlock := fun q hq e => by
        obtain ⟨z1, cu, z2⟩ := own_block HO2.out e.symm
        rcases hq with hq | hq
        · omega
        · have z3 := HX2.out
          unfold Box at z3
          rw [← hq, z2] at z3
          simp at z3
      have q1 := (World.cell?_of_block (a := ⟨b, 1, none⟩) (hk4 b (by omega) (hxne b (Or.inl (Nat.le_refl _))))).trans kb1
      have q2 := (World.cell?_of_block (a := ⟨xb, 0, none⟩) (hk4 xb (by omega) (hxne xb (Or.inr rfl)))).trans kx0
      have q3 := (World.cell?_of_block (a := ⟨xb, 1, none⟩) (hk4 xb (by omega) (hxne xb (Or.inr rfl)))).trans kx1
      have hB4 := HB2.out.same (hk4 b (by omega) (hxne b (Or.inl (Nat.le_refl _))))
      have qf : w4.frozen? ⟨b, 1, none⟩ = false := hB4.free 1
      refine hK.out _ _ (Or.inr ⟨q1, q2, q3⟩) ?_
      clear hK K
      have hHeld : w4.cell? ⟨b, 1, none⟩ = some (.slice pt (2 * k) ct) ∧ w4.cell? ⟨xb, 0, none⟩ = some (.int .i64 x0) ∧ w4.cell? ⟨xb, 1, none⟩ = some (.int .i64 x1) := ⟨q1, q2, q3⟩
      try simp only [Act.put, List.setIfInBounds_toArray, List.set_cons_zero, List.set_cons_succ]
      refine wpAnyZ_loud (i := 11) (o := ⟨some 37, _, _, _, _, _⟩) (by kernel_rfl) rfl (fun K hK => ?_)
      go_simp
      refine hK.out _ _ (Or.inr hHeld) ?_
      clear hK K
      try simp only [Act.put, List.setIfInBounds_toArray, List.set_cons_zero, List.set_cons_succ]
      refine wpAnyZ_take (i := 12) (oi := ⟨some 38, _, _, _, _, _⟩) (v := ?v10) rfl (by kernel_rfl) (by kernel_rfl) (by kernel_rfl) (by kernel_rfl) (fun _ _ _ h => h) (Or.inl ⟨by rfl, ?hy10⟩) (by assumption) ?rest10
      case hy10 => (intro w hSw; (try dsimp only at hSw); go_simp; try with_reducible rfl)
      try simp only [Act.put, List.setIfInBounds_toArray, List.set_cons_zero, List.set_cons_succ]
      refine wpAnyZ_loud (i := 13) (o := ⟨none, _, _, _, _, _⟩) (by kernel_rfl) rfl (fun K hK => ?_)
      go_simp
      refine hK.out _ _ (Or.inl rfl) ?_
      clear hK K hHeld
      try simp only [Act.put, List.setIfInBounds_toArray, List.set_cons_zero, List.set_cons_succ]
      refine wpAnyZ_done (by kernel_rfl) ?_ _
      have hB5 : Box (w4.setCell ⟨b, 1, none⟩ (.slice (some ⟨g4, 0, none⟩) (2 * k + 2) c4)) b #[.slice (some ⟨g, off, none⟩) n cl, .slice (some ⟨g4, 0, none⟩) (2 * k + 2) c4, nilV, nilV, nilV] 100 := hB4.set 1 _
      have hO5 := own_same (w' := w4.setCell ⟨b, 1, none⟩ (.slice (some ⟨g4, 0, none⟩) (2 * k + 2) c4)) ho4 (fun q hq => Below.heap_setCell _ _ _ _ (by have := (own_block ho4 hq).1; simp; omega))
      have hA5 : Adds w (w4.setCell ⟨b, 1, none⟩ (.slice (some ⟨g4, 0, none⟩) (2 * k + 2) c4)) := by
        have hbw := HBW.out
        refine Adds.set (p := ⟨b, 1, none⟩) ?_ (by simp; omega) _
        have h1 : Adds w W3 := HA2.out.trans hA3
        refine ⟨hg4.os.trans h1.os, hg4.tape.trans h1.tape, hg4.output.trans h1.output, Nat.le_trans h1.size hg4.size, fun q hq => ?_⟩
        rw [hk4 q (by have := HA2.out.size; omega) (hxne q (Or.inl (by omega)))]
        exact HA2.out.block q hq
      have hnext : (timesL (l.take k)).map (Value.int .i64) ++ [.int .i64 x0, .int .i64 x1] = (timesL (l.take (k + 1))).map (Value.int .i64) := by
        have hk' : k < l.length := (List.getElem?_eq_some_iff.1 HX.out).1
        have e : l[k] = (x0, x1, x2, x3) := (List.getElem?_eq_some_iff.1 HX.out).2
        rw [List.take_succ_eq_append_getElem hk', e]
        simp [timesL]
      rw [hnext] at hO5
      obtain ⟨W5, hW5⟩ : ∃ V, V = w4.setCell ⟨b, 1, none⟩ (.slice (some ⟨g4, 0, none⟩) (2 * k + 2) c4) := ⟨_, rfl⟩
      rw [← hW5] at hB5 hO5 hA5 ⊢
      have HB5 := Lib.hid hB5
      have HO5 := Lib.hid hO5
      have HA5 := Lib.hid hA5
      clear hB5 hO5 hA5 hW5 hnext q1 q2 q3 qf hB4 hk4 hxne ho4 hg4 hl4 hs4 hO3 hbx hs3 hA3 hW3 kb1 kx0 kx1 HO2 HB2 HX2 HA2 hxs
      go_wp2
      exact ⟨⟨k + 1, _, by omega, by go_num, HB5, Lib.hid (by rw [show 2 * (k + 1) = 2 * k + 2 by omega]; exact HO5.out), HA5⟩, by simp [intOf]; omega⟩
    · have hkn : n = k := by omega
      subst hkn
      have HNL := HN.out
      have e1 : l.take n = l := by rw [HNL]; exact List.take_length
      have hO := HO.out
      rw [e1] at hO
      have hlen := timesL_len l
      rw [← HNL] at hlen
      obtain ⟨-, hrow⟩ := own_rowI hO
      rcases hrow with ⟨_, hnil⟩ | ⟨gt, ct', hv, hbase, hR⟩
      · rw [hnil] at hlen; simp at hlen; omega
      · simp only [Value.slice.injEq] at hv
        obtain ⟨rfl, -, rfl⟩ := hv
        have hsort := fun W (h : RowI 3 .i64 W gt ct (timesL l)) => sort_any gt ct (timesL l) W h (by omega)
        rw [hlen] at hsort
        obtain ⟨Z, hZ⟩ : ∃ Z, Z = (timesL l).mergeSort fun x y => decide (x ≤ y) := ⟨_, rfl⟩
        have hZl : Z.length = 2 * n := by rw [hZ, List.length_mergeSort, hlen]
        rw [← hZ] at hsort
        have hcomp := fun W (h : RowI 3 .i64 W gt ct Z) => compact_any gt ct Z W h (by omega)
        rw [hZl] at hcomp
        obtain ⟨T, hT⟩ : ∃ T, T = Lib.compact Z := ⟨_, rfl⟩
        rw [← hT] at hcomp
        have hTl : T.length ≤ 2 * n := by rw [hT, ← hZl]; exact compact_len Z
        have hTT : Times T (timesL l) := by rw [hT, hZ]; exact times_of _
        have HTQ : Hid (T = timesOf l) := Lib.hid (by rw [hT, hZ]; rfl)
        have hT0 : 0 < T.length := by
          obtain ⟨x, hx⟩ : ∃ x, x ∈ l := ⟨l[0]'(by omega), by simp⟩
          exact List.length_pos_of_mem ((hTT.mem _).2 (timesL_mem hx).1)
        have HSORT := Lib.hid hsort
        have HCOMP := Lib.hid hcomp
        have HTT := Lib.hid hTT
        have HR := Lib.hid hR
        obtain ⟨tl, htl⟩ : ∃ t, t = T.length := ⟨_, rfl⟩
        rw [← htl] at hTl hT0
        have HTL := Lib.hid htl
        have hbw := HBW.out
        have kb1 : wr.cell? ⟨b, 1, none⟩ = some (.slice (some ⟨gt, 0, none⟩) (2 * n) ct) := HB.out.cell 1
        clear HO hO hR hsort hcomp hTT hT hZ hZl hlen e1 hlt hk htl HNL hbw
        obtain ⟨j5, hj5, hj50, hj51, hj52⟩ := info_parts info35
        have HJ5 := Lib.hid hj5
        have HJ50 := Lib.hid hj50
        have HJ51 := Lib.hid hj51
        have HJ52 := Lib.hid hj52
        clear hj5 hj50 hj51 hj52
        have hgtb : gt ≠ b := by omega
        go_upto_region 8 with (go_at_call 69; refine (HSORT.out _ HR.out).mono ?_; rintro e W2 ⟨rfl, hR2, ht2⟩; have HR2 := Lib.hid hR2; have HT2 := Lib.hid ht2; clear hR2 ht2)
        have HB2 : Hid (Box W2 b #[.slice p n cl, .slice (some ⟨gt, 0, none⟩) (2 * n) ct, nilV, nilV, nilV] 100) := Lib.hid (HB.out.same (HT2.out.same b HB.out.lt (fun e => hgtb e.symm)))
        have kb1 : W2.cell? ⟨b, 1, none⟩ = some (.slice (some ⟨gt, 0, none⟩) (2 * n) ct) := HB2.out.cell 1
        go_upto_region 9 with (go_at_call 75; refine (HCOMP.out _ HR2.out).mono ?_; rintro e W3 ⟨rfl, hR3, ht3⟩; have HR3 := Lib.hid hR3; have HT3 := Lib.hid ht3; rw [← HTL.out]; have HB3 : Hid (Box W3 b #[.slice p n cl, .slice (some ⟨gt, 0, none⟩) (2 * n) ct, nilV, nilV, nilV] 100) := Lib.hid (HB2.out.same (ht3.same b HB2.out.lt (fun e => hgtb e.symm))); have kb3 : W3.cell? ⟨b, 1, none⟩ = some (.slice (some ⟨gt, 0, none⟩) (2 * n) ct) := HB3.out.cell 1; have kf3 : W3.frozen? ⟨b, 1, none⟩ = false := HB3.out.free 1; clear hR3 ht3)
        obtain ⟨W4, hW4⟩ : ∃ V, V = W3.setCell ⟨b, 1, none⟩ (.slice (some ⟨gt, 0, none⟩) tl ct) := ⟨_, rfl⟩
        rw [← hW4]
        have HB4 : Hid (Box W4 b #[.slice p n cl, .slice (some ⟨gt, 0, none⟩) tl ct, nilV, nilV, nilV] 100) := Lib.hid (by rw [hW4]; exact HB3.out.set 1 _)
        have HR4 : Hid (RowI 3 .i64 W4 gt ct T) := Lib.hid (by rw [hW4]; exact HR3.out.far (by simp; omega) _)
        have HA4 : Hid (Adds w W4) := Lib.hid (by
          have hbw := HBW.out
          rw [hW4]
          exact (Touch.adds (HA.out) (HT2.out.trans HT3.out) (fun i hi => by omega)).set (p := ⟨b, 1, none⟩) (by simp; omega) _)
        have kb1 : W4.cell? ⟨b, 1, none⟩ = some (.slice (some ⟨gt, 0, none⟩) tl ct) := HB4.out.cell 1
        have kb3 : W4.cell? ⟨b, 3, none⟩ = some nilV := HB4.out.cell 3
        have kf3 : W4.frozen? ⟨b, 3, none⟩ = false := HB4.out.free 3
        clear hW4 kb1 HB3 HB2 HR3 HR2 HT2 HT3 HR HB HA HSORT HCOMP
        have kb1 : W4.cell? ⟨b, 1, none⟩ = some (.slice (some ⟨gt, 0, none⟩) tl ct) := HB4.out.cell 1
        have hb4l := HB4.out.lt
        have hmm := @run_makeMap Try.prog
        obtain ⟨N, hN⟩ : ∃ N, N = 2 + n + tl := ⟨_, rfl⟩
        have hNb : N ≤ 1000 := by omega
        have HNI : Hid (2 + (n : Int) + (tl : Int) = (N : Int)) := Lib.hid (by omega)
        have HNN := Lib.hid hN
        clear hN
        go_upto_region 10 with (first
          | (refine wpList_make_full _ rfl _ _ 98 rfl W4.heap.size 35 j5 nilV 1 Try.underlying98 HJ5.out HJ50.out HJ51.out .i64 .i64 (2 + (n : Int) + (tl : Int)) (2 + (n : Int) + (tl : Int)) N rfl rfl HNI.out HNI.out (by rw [HJ52.out]; omega) (by unfold maxLen; omega) (Nat.le_refl _) ?_; intro W5 ho5 hg5; have HO5 := Lib.hid ho5; have HG5 := Lib.hid hg5; have kb53 : W5.cell? ⟨b, 3, none⟩ = some nilV := (World.cell?_of_block (a := ⟨b, 3, none⟩) (hg5.block b hb4l (by simp))).trans kb3; have kf53 : W5.frozen? ⟨b, 3, none⟩ = false := (HB4.out.same (hg5.block b hb4l (by simp))).free 3; clear ho5 hg5)
          | go_in)
        obtain ⟨go, hgo⟩ : ∃ g, g = W4.heap.size := ⟨_, rfl⟩
        rw [← hgo]
        have HR5 : Hid (RowI 3 .i64 W5 gt ct T) := Lib.hid (HR4.out.same (HG5.out.block gt HR4.out.lt (by simp)))
        have HB5 := HB4.out.same (HG5.out.block b hb4l (by simp))
        have HA5 : Adds w W5 := HA4.out.grown HG5.out HA4.out.size (fun j hj => by cases hj)
        have hown5 := HO5.out
        obtain ⟨hl5, h5⟩ := hown5
        rcases h5 with ⟨h5, _⟩ | ⟨g', cap', cur, hv5, hb5, hg5, hle5, hmx5, hsz5, htk5⟩
        · cases h5
        simp only [Value.slice.injEq, Option.some.injEq, Addr.mk.injEq] at hv5
        obtain ⟨⟨hg', -, -⟩, -, hcap⟩ := hv5
        have hgogo : go < W5.heap.size := by rw [hgo, hg']; exact (Array.getElem?_eq_some_iff.1 hg5).1
        have hcur : ∀ v, v < N → cur[v]? = some nilV := fun v hv => by
          have e1 : (madeCells nilV.cells (N * 1)).toList = List.replicate N nilV := by rw [Nat.mul_one]; exact toList_madeCells_one _ _
          rw [e1, Nat.mul_one] at htk5
          have : (cur.toList.take N)[v]? = some nilV := by rw [htk5, List.getElem?_replicate, if_pos hv]
          rw [List.getElem?_take, if_pos hv] at this
          simpa using this
        rw [← hg', ← hgo] at hg5
        obtain ⟨W6, hW6⟩ : ∃ V, V = W5.setCell ⟨b, 3, none⟩ (.slice (some ⟨go, 0, none⟩) N N) := ⟨_, rfl⟩
        rw [← hW6]
        have hbgo : b ≠ go := by omega
        have HB6 : Box W6 b #[.slice p n cl, .slice (some ⟨gt, 0, none⟩) tl ct, nilV, .slice (some ⟨go, 0, none⟩) N N, nilV] 100 := by rw [hW6]; exact HB5.set 3 _
        have hg6 : W6.heap[go]? = some (.cells cur 35 (0, 0)) := by rw [hW6, Below.heap_setCell _ _ _ _ (by simp; omega)]; exact hg5
        have HR6 : RowI 3 .i64 W6 gt ct T := by rw [hW6]; exact HR5.out.far (by simp; omega) _
        have HA6 : Adds w W6 := by have hbw := HBW.out; rw [hW6]; exact HA5.set (p := ⟨b, 3, none⟩) (by simp; omega) _
        have hs6 : W6.heap.size = W5.heap.size := by rw [hW6]; simp [World.setCell]
        have HB6 := Lib.hid HB6
        have HG6 := Lib.hid hg6
        have HR6 := Lib.hid HR6
        have HA6 := Lib.hid HA6
        have HCUR := Lib.hid hcur
        have hgtl : gt < W4.heap.size := HR4.out.lt
        clear hW6 hg6 hcur HB5 HA5 HR5 HO5 HG5 HB4 HR4 HA4 kb53 kf53 kb3 kf3 kb1 hg5 hl5 hb5 hle5 hmx5 hsz5 htk5 hg' hcap
        have kb1 : W6.cell? ⟨b, 1, none⟩ = some (.slice (some ⟨gt, 0, none⟩) tl ct) := HB6.out.cell 1
        have hbl6 := HB6.out.lt
        have hgo6 : go < W6.heap.size := by omega
        have hgt6 : gt < W6.heap.size := HR6.out.lt
        clear hs6
        go_upto_region 12 with fail
        obtain ⟨bm, hbm⟩ : ∃ g, g = W6.heap.size := ⟨_, rfl⟩
        obtain ⟨W7, hW7⟩ : ∃ V, V = W6.alloc (.map #[] 0) := ⟨_, rfl⟩
        rw [← hW7, ← hbm]
        have hA7 : Adds W6 W7 := by rw [hW7]; exact (Adds.refl _).alloc _
        have HM7 : Hid (MapT W7 bm 0 T) := Lib.hid (by rw [hW7, hbm]; exact MapT.made W6 T)
        have HB7 := Lib.hid (HB6.out.later hA7)
        have HG7 : Hid (W7.heap[go]? = some (.cells cur 35 (0, 0))) := Lib.hid ((hA7.block go (by omega)).trans HG6.out)
        have HR7 := Lib.hid (HR6.out.later hA7)
        have HA7 := Lib.hid (HA6.out.trans hA7)
        have hs7 : W7.heap.size = bm + 1 := by rw [hW7, hbm]; simp
        have hord : b < bm ∧ go < bm ∧ gt < bm := by omega
        obtain ⟨ho1, ho2, ho3⟩ := hord
        have hwb := HBW.out
        have HGE : Hid (w.heap.size ≤ go ∧ w.heap.size ≤ bm ∧ w.heap.size ≤ b ∧ w.heap.size ≤ gt) := Lib.hid (by have := HA7.out.size; omega)
        have hgtgo : gt ≠ go := by omega
        clear hW7 hA7 HB6 HG6 HR6 HA6 kb1 hbm hbl6 hgo hwb hgogo hb4l hgtl hmm hbase hgo6 hgt6
        go_loopw [72] (fun v72 wr => ∃ k : Nat, k ≤ tl ∧ v72 = .int .i64 k ∧ Hid (MapT wr bm k T) ∧ Hid (Touch (fun q => q = bm) W7 wr)) (fun v72 _ => tl - (intOf v72).toNat)
        case atStart => exact ⟨0, by omega, rfl, HM7, Lib.hid (Touch.refl _ _)⟩
        case round =>
          clear HM7
          obtain ⟨k, hk, rfl, HM, HTO⟩ := hrel
          by_cases hlt : k < tl
          · have hlt2 : (k : Int) < (tl : Int) := by omega
            obtain ⟨t, ht⟩ : ∃ t, T[k]? = some t := ⟨_, List.getElem?_eq_getElem (by have := HTL.out; omega)⟩
            have kt : wr.cell? ⟨gt, k, none⟩ = some (.int .i64 t) := (HR7.out.touch HTO.out (by omega)).cell ht
            have htb : 0 ≤ t ∧ t ≤ 1000000000 := by
              have hm := (HTT.out.mem t).1 (List.mem_of_getElem? ht)
              unfold timesL at hm
              rw [List.mem_flatMap] at hm
              obtain ⟨x, hx, hm⟩ := hm
              obtain ⟨o1, o2, o3, o4, o5, o6⟩ := HOK.out x hx
              simp at hm
              omega
            obtain ⟨htb0, htb1⟩ := htb
            have hwft : (Lit.int .i64 t).wf = true := WalkArith.wf_i64 (by omega)
            have hwfk : (Lit.int .i64 (k : Int)).wf = true := WalkArith.wf_i64 (by omega)
            have hkey : keyOf Try.prog 3 (.int .i64 t) = some (.int .i64 t) := keyOf_int_mk Try.underlying3 hwft
            obtain ⟨D, hown, hD⟩ := HM.out
            have HOWN := Lib.hid hown
            have HDD := Lib.hid hD
            have HTK := Lib.hid ht
            clear hown hD ht
            go_wp2_with (first
              | (at_mapUpdate; refine wpList_mapUpdate_own _ rfl _ _ _ 117 rfl 3 3 law3m und117 (plainElem (H := Unit) Try.prog 3) bm k D rfl HOWN.out (by unfold maxLen; omega) _ _ _ rfl rfl hkey _ [] (plainElem_int Try.underlying3 hwfk) ?_; intro w4 hown4 hgr4; have HW4 := Lib.hid hown4; have HG4 := Lib.hid hgr4; clear hown4 hgr4)
              | go_in)
            refine ⟨⟨k + 1, by omega, by go_num, Lib.hid ⟨_, HW4.out, ?_⟩, Lib.hid ?_⟩, by simp [intOf]; omega⟩
            · intro s u hs hu
              by_cases e : s = k
              · subst e
                have hut : u = t := by have := HTK.out; rw [hu] at this; cases this; rfl
                subst hut
                have hmp := HOWN.out.isMap
                rw [atKey_put_same hmp (by trivial)]
              · have hne : (Lit.int .i64 u) ≠ (Lit.int .i64 t) := fun z => by
                  have hut : u = t := by simpa using z
                  rw [hut] at hu
                  exact e (up_inj HTT.out.lt hu HTK.out)
                rw [atKey_put_other hne]
                exact HDD.out s u (by omega) hu
            · exact HTO.out.trans ⟨HG4.out.os, HG4.out.tape, HG4.out.output, HG4.out.size, fun q hq hn => HG4.out.block q hq (by simpa using fun e => hn e)⟩
          · have hktl : tl = k := by omega
            subst hktl
            have HM8 := HM
            obtain ⟨base, hbase⟩ : ∃ x, x = bm + 1 := ⟨_, rfl⟩
            obtain ⟨W8, hW8⟩ : ∃ V, V = wr := ⟨_, rfl⟩
            rw [← hW8] at HM HTO ⊢
            have hT8 := HTO.out
            have hA8 : Adds w W8 := Touch.adds HA7.out hT8 (fun i hi => by have := HGE.out; omega)
            have hs8 : base ≤ W8.heap.size := by have := hT8.size; omega
            have hLA : LaidAt b go base N (loadsE n T (l.take 0) 0) W8 (.slice p n cl) (.slice (some ⟨gt, 0, none⟩) tl ct) nilV nilV N := by
              refine ⟨HB7.out.same (hT8.same b HB7.out.lt (by omega)), World.ownsRow_nil _ _ _ _, ⟨fun _ => nilV, ⟨cur, (hT8.same go (Array.getElem?_eq_some_iff.1 HG7.out).1 (by omega)).trans HG7.out, HCUR.out⟩, fun v _ => ?_, fun u v _ _ _ g hg => by cases hg⟩, by omega, by omega, hbgo⟩
              have e : outE (loadsE n T (l.take 0) 0) v = [] := by simp [outE, loadsE]
              rw [e]
              exact World.ownsRow_nil _ _ _ _
            have HLA := Lib.hid hLA
            have HA8 := Lib.hid hA8
            have HR8 := Lib.hid (HR7.out.touch hT8 (by omega))
            have HBS : Hid (base = bm + 1) := Lib.hid hbase
            obtain ⟨hT9a, hT9b⟩ := span_bd HTT.out HOK.out
            have HSB := Lib.hid hT9a
            have HSN := Lib.hid hT9b
            have hbase2 : b < base ∧ go < base ∧ gt < base ∧ bm < base := by omega
            obtain ⟨hbs1, hbs2, hbs3, hbs4⟩ := hbase2
            have HGE2 : Hid (∀ q, q < w.heap.size → ¬ (q = b ∨ q = go ∨ base ≤ q)) := Lib.hid (fun q hq => by have := HGE.out; omega)
            clear hLA hA8 hT8 hW8 HB7 HG7 HA7 HR7 HTO HM8 hs7 hbase hT9a hT9b hlt hk ho3 HCUR
            go_upto_region 17 with fail
            go_loopw [83] (fun v83 wr => ∃ (k : Nat) (vw : Value), k ≤ n ∧ v83 = .int .i64 k ∧ Hid (LaidAt b go base N (loadsE n T (l.take k) 0) wr (.slice p n cl) (.slice (some ⟨gt, 0, none⟩) tl ct) vw nilV N) ∧ Hid (Touch (fun q => q = b ∨ q = go ∨ base ≤ q) W8 wr)) (fun v83 _ => n - (intOf v83).toNat)
            case atStart => exact ⟨0, nilV, by omega, rfl, HLA, Lib.hid (Touch.refl _ _)⟩
            case round =>
              clear HLA
              obtain ⟨k, vw, hk, rfl, HLA, HTO⟩ := hrel
              by_cases hlt : k < n
              · have hlt2 : (k : Int) < (n : Int) := by omega
                obtain ⟨x, hx⟩ : ∃ x, l[k]? = some x := ⟨_, List.getElem?_eq_getElem (by have := HN.out; omega)⟩
                have hokx := HOK.out x (List.mem_of_getElem? hx)
                obtain ⟨x0, x1, x2, x3⟩ := x
                obtain ⟨g, off, rfl, c0, c1, c2, c3⟩ := HL.out k _ hx
                have hgn := HGE2.out g (cell_lt c0)
                have d0 := touch_cell HTO.out hgn (keep_cell HA8.out c0)
                have d1 := touch_cell HTO.out hgn (keep_cell HA8.out c1)
                have d2 := touch_cell HTO.out hgn (keep_cell HA8.out c2)
                have d3 := touch_cell HTO.out hgn (keep_cell HA8.out c3)
                have HX := Lib.hid hx
                have HOX := Lib.hid hokx
                dsimp only at d0 d1 d2 d3
                clear c0 c1 c2 c3 hx hgn hokx
                go_upto_region 19 with fail
                obtain ⟨xb, hxb⟩ : ∃ b, b = wr.heap.size := ⟨_, rfl⟩
                obtain ⟨W9, hW9⟩ : ∃ V, V = wr.alloc (.cells #[.int .i64 x0, .int .i64 x1, .int .i64 x2, .int .i64 x3] 84) := ⟨_, rfl⟩
                rw [← hW9, ← hxb]
                have hA9 : Adds wr W9 := by rw [hW9]; exact (Adds.refl _).alloc _
                have HX9 : Hid (Box W9 xb #[.int .i64 x0, .int .i64 x1, .int .i64 x2, .int .i64 x3] 84) := Lib.hid (by rw [hW9, hxb]; exact Box.new _ _ _)
                have HL9 := Lib.hid (HLA.out.later hA9)
                have HT9 := Lib.hid (HTO.out.behind hA9)
                have hxg : base ≤ xb := by have := HTO.out.size; omega
                have hs9 : base ≤ W9.heap.size := by have := hA9.size; omega
                have hel : (loadsE n T (l.take k) 0).length ≤ 300000 := by
                  have h1 := loadsE_len n T (l.take k) 0
                  have h2 : (l.take k).length ≤ 256 := by have := List.length_take_le k l; omega
                  have h3 : T.length ≤ 512 := by have := HTL.out; omega
                  have := Nat.mul_le_mul h2 (Nat.succ_le_succ h3)
                  simp only [Nat.succ_eq_add_one] at this
                  omega
                have kx2 : W9.cell? ⟨xb, 2, none⟩ = some (.int .i64 x2) := HX9.out.cell 2
                have HXB := Lib.hid hxb
                have hNN := HNN.out
                have HEL := Lib.hid hel
                clear hA9 hW9 hxb d0 d1 d2 d3 HLA hel hNN
                go_upto_region 20 with (go_at_call 76; refine (add_int b go base N _ _ _ _ _ _ _ 0 (2 + k) 0 (2 + (k : Int)) x2 rfl (by omega) HL9.out (by have := HNN.out; omega) (by have := HNN.out; omega) (by omega) (by omega) (by have := HEL.out; omega) hs9).mono ?_; rintro e W10 ⟨rfl, vw10, hl10, ht10, hsp10⟩; have HL10 := Lib.hid hl10; have HT10 := Lib.hid ht10; have HX10 : Hid (Box W10 xb #[.int .i64 x0, .int .i64 x1, .int .i64 x2, .int .i64 x3] 84) := Lib.hid ((hsp10 xb _ 84 HX9.out (by decide) (by decide) (by omega) (by omega)).trans HX9.out); clear hl10 ht10 hsp10)
                clear kx2
                obtain ⟨xr0, xd0⟩ : (x0 ∈ T) ∧ (x1 ∈ T) := by
                  have hm := timesL_mem (List.mem_of_getElem? HX.out)
                  exact ⟨(HTT.out.mem _).2 hm.1, (HTT.out.mem _).2 hm.2⟩
                obtain ⟨a0, ha0⟩ : ∃ a, a = posT T x0 := ⟨_, rfl⟩
                obtain ⟨a1, ha1⟩ : ∃ a, a = posT T x1 := ⟨_, rfl⟩
                have hpa := posT_spec xr0
                have hpb := posT_spec xd0
                have hpl := posT_le HTT.out.lt xr0 xd0 HOX.out.2.1
                rw [← ha0] at hpa hpl
                rw [← ha1] at hpb hpl
                have HA0 := Lib.hid ha0
                have HA1 := Lib.hid ha1
                have hT10 := HT9.out.trans HT10.out
                have hM10 : MapT W10 bm tl T := HM.out.same (hT10.same bm HM.out.lt (by have := HGE.out; omega))
                obtain ⟨D, hown, hD⟩ := hM10
                have hat0 := hD a0 x0 (by rw [HTL.out]; exact hpa.1) hpa.2
                have hat1 := hD a1 x1 (by rw [HTL.out]; exact hpb.1) hpb.2
                have hbx0 : 0 ≤ x0 ∧ x0 ≤ 1000000000 := HSB.out x0 xr0
                have hbx1 : 0 ≤ x1 ∧ x1 ≤ 1000000000 := HSB.out x1 xd0
                have hkey0 : keyOf Try.prog 3 (.int .i64 x0) = some (.int .i64 x0) := keyOf_int_mk Try.underlying3 (WalkArith.wf_i64 (by omega))
                have hkey1 : keyOf Try.prog 3 (.int .i64 x1) = some (.int .i64 x1) := keyOf_int_mk Try.underlying3 (WalkArith.wf_i64 (by omega))
                have HAT0 := Lib.hid hat0
                have HAT1 := Lib.hid hat1
                have HKEY0 := Lib.hid hkey0
                have HKEY1 := Lib.hid hkey1
                have HPA := Lib.hid hpa
                have HPB := Lib.hid hpb
                have HT10' := Lib.hid hT10
                have kx0 : W10.cell? ⟨xb, 0, none⟩ = some (.int .i64 x0) := HX10.out.cell 0
                have kx1 : W10.cell? ⟨xb, 1, none⟩ = some (.int .i64 x1) := HX10.out.cell 1
                have hown' := hown.drew
                clear hpa hpb hat0 hat1 hkey0 hkey1 hD hT10 hbx0 hbx1 xr0 xd0 ha0 ha1 HT9 HT10 HL9 HX9 hs9
                refine wp_region_held_drew (S := fun w' => w'.cell? ⟨xb, 0, none⟩ = some (.int .i64 x0) ∧ w'.cell? ⟨xb, 1, none⟩ = some (.int .i64 x1) ∧ w'.ownsMap Try.prog 3 (plainElem Try.prog 3) bm tl D) (by kernel_rfl) ⟨kx0, kx1, hown'⟩ (fun hHeld => ?_)
                refine wpAnyH_take (i := 0) (oi := ⟨some 94, _, _, _, _, _⟩) (v := ?v11) rfl (by kernel_rfl) (by kernel_rfl) (by kernel_rfl) (fun _ _ _ h => h) (Or.inl ⟨by rfl, ?hy11⟩) (by assumption) ?rest11
                case hy11 => (intro w hSw; (try dsimp only at hSw); go_simp; try with_reducible rfl)
                try simp only [Act.put, List.setIfInBounds_toArray, List.set_cons_zero, List.set_cons_succ]
                refine wpAnyH_take (i := 1) (oi := ⟨some 95, _, _, _, _, _⟩) (v := ?v12) rfl (by kernel_rfl) (by kernel_rfl) (by kernel_rfl) (fun _ _ _ h => h) (Or.inl ⟨by rfl, ?hy12⟩) (by assumption) ?rest12
                case hy12 => (intro w hSw; (try dsimp only at hSw); go_simp; try with_reducible rfl)
                try simp only [Act.put, List.setIfInBounds_toArray, List.set_cons_zero, List.set_cons_succ]
                refine wpAnyH_take (i := 2) (oi := ⟨some 96, _, _, _, _, _⟩) (v := ?v13) rfl (by kernel_rfl) (by kernel_rfl) (by kernel_rfl) (fun _ _ _ h => h) (Or.inl ⟨by rfl, ?hy13⟩) (by assumption) ?rest13
                case hy13 => (intro w hSw; (try dsimp only at hSw); go_simp; try with_reducible rfl)
                try simp only [Act.put, List.setIfInBounds_toArray, List.set_cons_zero, List.set_cons_succ]
                refine wpAnyH_take (i := 3) (oi := ⟨some 97, _, _, _, _, _⟩) (v := .int .i64 (a0 : Int)) rfl (by kernel_rfl) (by kernel_rfl) (by kernel_rfl) (fun _ _ _ h => h) (Or.inl ⟨by rfl, ?hy14⟩) (by assumption) ?rest14
                case hy14 =>
                  intro w hSw
                  obtain ⟨-, -, ho⟩ := hSw
                  exact look_yield ho rfl rfl rfl HKEY0.out HAT0.out
                try simp only [Act.put, List.setIfInBounds_toArray, List.set_cons_zero, List.set_cons_succ]
                refine wpAnyH_take (i := 4) (oi := ⟨some 98, _, _, _, _, _⟩) (v := ?v15) rfl (by kernel_rfl) (by kernel_rfl) (by kernel_rfl) (fun _ _ _ h => h) (Or.inl ⟨by rfl, ?hy15⟩) (by assumption) ?rest15
                case hy15 => (intro w hSw; (try dsimp only at hSw); go_simp; try with_reducible rfl)
                try simp only [Act.put, List.setIfInBounds_toArray, List.set_cons_zero, List.set_cons_succ]
                refine wpAnyH_take (i := 5) (oi := ⟨some 99, _, _, _, _, _⟩) (v := ?v16) rfl (by kernel_rfl) (by kernel_rfl) (by kernel_rfl) (fun _ _ _ h => h) (Or.inl ⟨by rfl, ?hy16⟩) (by assumption) ?rest16
                case hy16 => (intro w hSw; (try dsimp only at hSw); go_simp; try with_reducible rfl)
                try simp only [Act.put, List.setIfInBounds_toArray, List.set_cons_zero, List.set_cons_succ]
                refine wpAnyH_take (i := 6) (oi := ⟨some 100, _, _, _, _, _⟩) (v := ?v17) rfl (by kernel_rfl) (by kernel_rfl) (by kernel_rfl) (fun _ _ _ h => h) (Or.inl ⟨by rfl, ?hy17⟩) (by assumption) ?rest17
                case hy17 => (intro w hSw; (try dsimp only at hSw); go_simp; try with_reducible rfl)
                try simp only [Act.put, List.setIfInBounds_toArray, List.set_cons_zero, List.set_cons_succ]
                refine wpAnyH_take (i := 7) (oi := ⟨some 101, _, _, _, _, _⟩) (v := .int .i64 (a1 : Int)) rfl (by kernel_rfl) (by kernel_rfl) (by kernel_rfl) (fun _ _ _ h => h) (Or.inl ⟨by rfl, ?hy18⟩) (by assumption) ?rest18
                case hy18 =>
                  intro w hSw
                  obtain ⟨-, -, ho⟩ := hSw
                  exact look_yield ho rfl rfl rfl HKEY1.out HAT1.out
                try simp only [Act.put, List.setIfInBounds_toArray, List.set_cons_zero, List.set_cons_succ]
                refine wpAnyH_take (i := 8) (oi := ⟨some 13, _, _, _, _, _⟩) (v := ?v19) rfl (by kernel_rfl) (by kernel_rfl) (by kernel_rfl) (fun _ _ _ h => h) (Or.inl ⟨by rfl, ?hy19⟩) (by assumption) ?rest19
                case hy19 => (intro w hSw; (try dsimp only at hSw); go_simp; try with_reducible rfl)
                try simp only [Act.put, List.setIfInBounds_toArray, List.set_cons_zero, List.set_cons_succ]
                refine wpAnyH_take (i := 9) (oi := ⟨some 14, _, _, _, _, _⟩) (v := ?v20) rfl (by kernel_rfl) (by kernel_rfl) (by kernel_rfl) (fun _ _ _ h => h) (Or.inl ⟨by rfl, ?hy20⟩) (by assumption) ?rest20
                case hy20 => (intro w hSw; (try dsimp only at hSw); go_simp; try with_reducible rfl)
                try simp only [Act.put, List.setIfInBounds_toArray, List.set_cons_zero, List.set_cons_succ]
                refine wpAnyH_done (by kernel_rfl) ?_ _
                clear hHeld
                obtain ⟨W11, hW11⟩ : ∃ V, V = W10.drew := ⟨_, rfl⟩
                rw [← hW11]
                have HL11 : Hid (LaidAt b go base N (loadsE n T (l.take k) 0 ++ loadE n T k (x0, x1, x2, x3) (a0 - a0)) W11 (.slice (some ⟨g, off, none⟩) n cl) (.slice (some ⟨gt, 0, none⟩) tl ct) vw10 nilV N) := Lib.hid (by
                  rw [hW11, Nat.sub_self]
                  exact HL10.out.later (Adds.refl _).drew)
                have HT11 : Hid (Touch (fun q => q = b ∨ q = go ∨ base ≤ q) W8 W11) := Lib.hid (by rw [hW11]; exact HT10'.out.behind (Adds.refl _).drew)
                have hpl2 : a0 < a1 := hpl
                have ha1t : a1 < tl := by have := HPB.out.1; have := HTL.out; omega
                clear hW11 HL10 HT10' kx0 kx1 hown hown' HX10 HAT0 HAT1 hpl
                go_upto_region 22 with fail
                go_loopw [15] (fun v15 wr => ∃ (s : Nat) (vw : Value), a0 ≤ s ∧ s ≤ a1 ∧ v15 = .int .i64 s ∧ Hid (LaidAt b go base N (loadsE n T (l.take k) 0 ++ loadE n T k (x0, x1, x2, x3) (s - a0)) wr (.slice (some ⟨g, off, none⟩) n cl) (.slice (some ⟨gt, 0, none⟩) tl ct) vw nilV N) ∧ Hid (Touch (fun q => q = b ∨ q = go ∨ base ≤ q) W8 wr)) (fun v15 _ => a1 - (intOf v15).toNat)
                case atStart => exact ⟨a0, vw10, Nat.le_refl _, by omega, rfl, HL11, HT11⟩
                case round =>
                  clear HL11 HT11
                  obtain ⟨s, vw, hs0, hs1, rfl, HLA, HTO⟩ := hrel
                  by_cases hlt : s < a1
                  · have hlt2 : (s : Int) < (a1 : Int) := by omega
                    have hrow : RowI 3 .i64 wr gt ct T := HR8.out.touch HTO.out (by have := HGE.out; omega)
                    obtain ⟨sp, hsp⟩ : ∃ x, x = spanL T s := ⟨_, rfl⟩
                    have hlen : ∀ W, Adds wr W → Calls Try.prog 77 #[.pointer (some ⟨b, 0, none⟩), .int .i64 s] W fun e w' => e = .returned (.int .i64 sp) ∧ Adds W w' := fun W hW => by
                      rw [hsp]
                      have hnet := HLA.out.net.later hW
                      rw [HTL.out] at hnet
                      exact length_any b gt ct s T _ _ _ _ W hnet (hrow.later hW) (by have := HTL.out; omega) (by have := HTL.out; omega) HSB.out
                    have hnod : ∀ W, Adds wr W → Calls Try.prog 59 #[.pointer (some ⟨b, 0, none⟩), .int .i64 s] W fun e w' => e = .returned (.int .i64 (2 + (n : Int) + (s : Int))) ∧ W = w' := fun W hW => node_int b n s cl _ _ _ _ _ W (HLA.out.net.later hW) (by omega) (by omega)
                    have hel : (loadsE n T (l.take k) 0 ++ loadE n T k (x0, x1, x2, x3) (s - a0)).length ≤ 600000 := by
                      rw [List.length_append, loadE_len]
                      have := HEL.out
                      omega
                    have hsz : base ≤ wr.heap.size := by have := HTO.out.size; omega
                    have hadd : ∀ W, Adds wr W → Calls Try.prog 76 #[.pointer (some ⟨b, 0, none⟩), .int .i64 (2 + (k : Int)), .int .i64 (2 + (n : Int) + (s : Int)), .int .i64 sp] W fun e w' => e = .returned (.tuple #[]) ∧ ∃ vw', LaidAt b go base N (loadsE n T (l.take k) 0 ++ loadE n T k (x0, x1, x2, x3) (s + 1 - a0)) w' (.slice (some ⟨g, off, none⟩) n cl) (.slice (some ⟨gt, 0, none⟩) tl ct) vw' nilV N ∧ Touch (fun q => q = b ∨ q = go ∨ base ≤ q) W w' := fun W hW => by
                      have h1 := add_int b go base N _ W _ _ _ _ _ (2 + k) (2 + n + s) (2 + (k : Int)) (2 + (n : Int) + (s : Int)) sp (by omega) (by omega) (HLA.out.later hW) (by have := HNN.out; omega) (by have := HNN.out; omega) (by omega) (by omega) (by omega) (by have := hW.size; omega)
                      refine h1.mono ?_
                      rintro e w' ⟨rfl, vw', h2, h3, _⟩
                      refine ⟨rfl, vw', ?_, h3⟩
                      rw [List.append_assoc] at h2
                      rw [show s + 1 - a0 = (s - a0) + 1 by omega, loadE_next]
                      have e : posT T x0 + (s - a0) = s := by have := HA0.out; omega
                      dsimp only
                      rw [e, ← hsp]
                      exact h2
                    have HLEN := Lib.hid hlen
                    have HNOD := Lib.hid hnod
                    have HADD := Lib.hid hadd
                    clear hrow hsp hlen hnod hel hadd hsz
                    go_wp2_with (first
                      | (go_at_call 59; refine (HNOD.out _ (by first | exact Adds.refl _ | exact (Adds.refl _).drew)).mono ?_; rintro e w' ⟨rfl, rfl⟩)
                      | (go_at_call 77; refine (HLEN.out _ (by first | exact Adds.refl _ | exact (Adds.refl _).drew)).mono ?_; rintro e w12 ⟨rfl, hb12⟩; have HB12 := Lib.hid hb12; clear hb12)
                      | (go_at_call 76; refine (HADD.out _ HB12.out).mono ?_; rintro e w13 ⟨rfl, vw13, hl13, ht13⟩; have HL13 := Lib.hid hl13; have HT13 := Lib.hid ht13; clear hl13 ht13))
                    exact ⟨⟨s + 1, vw13, by omega, by omega, by go_num, HL13, Lib.hid ((HTO.out.behind HB12.out).trans HT13.out)⟩, by simp [intOf]; omega⟩
                  · have hsa : s = a1 := by omega
                    subst hsa
                    have HLN : Hid (LaidAt b go base N (loadsE n T (l.take (k + 1)) 0) wr (.slice (some ⟨g, off, none⟩) n cl) (.slice (some ⟨gt, 0, none⟩) tl ct) vw nilV N) := Lib.hid (by
                      rw [loadsE_next HX.out]
                      have e : spansOf T (x0, x1, x2, x3) = s - a0 := by unfold spansOf; have := HA0.out; have := HA1.out; dsimp only; omega
                      rw [e]
                      exact HLA.out)
                    clear HLA
                    go_wp2
                    exact ⟨⟨k + 1, vw, by omega, by go_num, HLN, HTO⟩, by simp [intOf]; omega⟩
              · have hkn : n = k := by omega
                subst hkn
                have e1 : l.take n = l := by have := HN.out; rw [this]; exact List.take_length
                rw [e1] at HLA
                have HL5 : Hid (LaidAt b go base N (loadsE n T l 0 ++ sinkE n T kq 0) wr (.slice p n cl) (.slice (some ⟨gt, 0, none⟩) tl ct) vw nilV N) := Lib.hid (by
                  have e : sinkE n T kq 0 = [] := rfl
                  rw [e, List.append_nil]
                  exact HLA.out)
                have kb1 : wr.cell? ⟨b, 1, none⟩ = some (.slice (some ⟨gt, 0, none⟩) tl ct) := HLA.out.net.cell 1
                have hell : (loadsE n T l 0).length ≤ 300000 := by
                  have h1 := loadsE_len n T l 0
                  have h2 : l.length ≤ 256 := by have := HN.out; omega
                  have h3 : T.length ≤ 512 := by have := HTL.out; omega
                  have := Nat.mul_le_mul h2 (Nat.succ_le_succ h3)
                  simp only [Nat.succ_eq_add_one] at this
                  omega
                have HEL := Lib.hid hell
                clear e1 HLA hell
                go_upto_region 27 with fail
                clear kb1
                go_loopw [125] (fun v125 wr => ∃ (s : Nat) (vw : Value), s ≤ tl - 1 ∧ v125 = .int .i64 s ∧ Hid (LaidAt b go base N (loadsE n T l 0 ++ sinkE n T kq s) wr (.slice p n cl) (.slice (some ⟨gt, 0, none⟩) tl ct) vw nilV N) ∧ Hid (Touch (fun q => q = b ∨ q = go ∨ base ≤ q) W8 wr)) (fun v125 _ => tl - (intOf v125).toNat)
                case atStart => exact ⟨0, vw, by omega, rfl, HL5, HTO⟩
                case round =>
                  clear HL5 HTO
                  obtain ⟨s, vw, hs1, rfl, HLA, HTO⟩ := hrel
                  by_cases hlt : s < tl - 1
                  · have hlt2 : (s : Int) < (tl : Int) - 1 := by omega
                    have hrow : RowI 3 .i64 wr gt ct T := HR8.out.touch HTO.out (by have := HGE.out; omega)
                    obtain ⟨sp, hsp⟩ : ∃ x, x = spanL T s := ⟨_, rfl⟩
                    have hsp0 : 0 ≤ sp ∧ sp ≤ 1000000000 := by
                      rw [hsp]
                      refine ⟨?_, span_le HSB.out s⟩
                      rcases HSN.out s with h | h
                      · exact h
                      · have := HTL.out; omega
                    obtain ⟨pr, hpr⟩ : ∃ x, x = kq * sp := ⟨_, rfl⟩
                    have hpr0 : 0 ≤ pr ∧ pr ≤ 256000000000 := by
                      rw [hpr]
                      refine ⟨Int.mul_nonneg hK0 hsp0.1, ?_⟩
                      have h1 := Int.mul_le_mul_of_nonneg_right hK1 hsp0.1
                      have h2 := hsp0.2
                      omega
                    have hw1 : IntKind.i64.wrap (kq * sp) = pr := by rw [IntKind.wrap_i64, ← hpr]; omega
                    have hlen : ∀ W, Adds wr W → Calls Try.prog 77 #[.pointer (some ⟨b, 0, none⟩), .int .i64 s] W fun e w' => e = .returned (.int .i64 sp) ∧ Adds W w' := fun W hW => by
                      rw [hsp]
                      have hnet := HLA.out.net.later hW
                      rw [HTL.out] at hnet
                      exact length_any b gt ct s T _ _ _ _ W hnet (hrow.later hW) (by have := HTL.out; omega) (by have := HTL.out; omega) HSB.out
                    have hnod : ∀ W, Adds wr W → Calls Try.prog 59 #[.pointer (some ⟨b, 0, none⟩), .int .i64 s] W fun e w' => e = .returned (.int .i64 (2 + (n : Int) + (s : Int))) ∧ W = w' := fun W hW => node_int b n s cl _ _ _ _ _ W (HLA.out.net.later hW) (by omega) (by omega)
                    have hel : (loadsE n T l 0 ++ sinkE n T kq s).length ≤ 600000 := by
                      rw [List.length_append, sinkE_len]
                      have := HEL.out
                      omega
                    have hsz : base ≤ wr.heap.size := by have := HTO.out.size; omega
                    have hadd : ∀ W, Adds wr W → Calls Try.prog 76 #[.pointer (some ⟨b, 0, none⟩), .int .i64 (2 + (n : Int) + (s : Int)), .int .i64 1, .int .i64 pr] W fun e w' => e = .returned (.tuple #[]) ∧ ∃ vw', LaidAt b go base N (loadsE n T l 0 ++ sinkE n T kq (s + 1)) w' (.slice p n cl) (.slice (some ⟨gt, 0, none⟩) tl ct) vw' nilV N ∧ Touch (fun q => q = b ∨ q = go ∨ base ≤ q) W w' := fun W hW => by
                      have h1 := add_int b go base N _ W _ _ _ _ _ (2 + n + s) 1 (2 + (n : Int) + (s : Int)) 1 pr (by omega) (by omega) (HLA.out.later hW) (by have := HNN.out; omega) (by have := HNN.out; omega) (by omega) (by omega) (by omega) (by have := hW.size; omega)
                      refine h1.mono ?_
                      rintro e w' ⟨rfl, vw', h2, h3, _⟩
                      refine ⟨rfl, vw', ?_, h3⟩
                      rw [List.append_assoc] at h2
                      rw [sinkE_next, ← hsp, ← hpr]
                      exact h2
                    have HLEN := Lib.hid hlen
                    have HNOD := Lib.hid hnod
                    have HADD := Lib.hid hadd
                    obtain ⟨hpr1, hpr2⟩ := hpr0
                    obtain ⟨hsp1, hsp2⟩ := hsp0
                    clear hrow hsp hlen hnod hel hadd hsz hpr
                    go_wp2_with (first
                      | (go_at_call 59; refine (HNOD.out _ (by first | exact Adds.refl _ | exact (Adds.refl _).drew)).mono ?_; rintro e w' ⟨rfl, rfl⟩)
                      | (go_at_call 77; refine (HLEN.out _ (by first | exact Adds.refl _ | exact (Adds.refl _).drew)).mono ?_; rintro e w12 ⟨rfl, hb12⟩; have HB12 := Lib.hid hb12; clear hb12)
                      | (go_at_call 76; refine (HADD.out _ HB12.out).mono ?_; rintro e w13 ⟨rfl, vw13, hl13, ht13⟩; have HL13 := Lib.hid hl13; have HT13 := Lib.hid ht13; clear hl13 ht13))
                    exact ⟨⟨s + 1, vw13, by omega, by go_num, HL13, Lib.hid ((HTO.out.behind HB12.out).trans HT13.out)⟩, by simp [intOf]; omega⟩
                  · have hsa : s = tl - 1 := by omega
                    have HSA := Lib.hid hsa
                    clear hsa
                    have hdq : decide ((s : Int) < (tl : Int) - 1) = false := decide_eq_false (by omega)
                    go_wp2
                    go_ret
                    have hA : Adds w wr := Touch.adds HA8.out HTO.out (fun i hi => by have := HGE.out; omega)
                    have hge := HGE.out
                    have htl := HTL.out
                    have hnn := HNN.out
                    have hlaid := HLA.out
                    have hgtb' : gt ≠ b := by omega
                    rw [HSA.out] at hlaid
                    refine ⟨b, go, gt, ct, base, N, vw, T, rfl, HTQ.out, HTT.out, HR8.out.touch HTO.out (by omega), ?_, hge.2.2.1, hge.1, hge.2.2.2, hbs3, hgtb', hgtgo, hA⟩
                    have e2 : netE T kq l = loadsE n T l 0 ++ sinkE n T kq (tl - 1) := by unfold netE; rw [← HN.out, htl]
                    rw [e2, ← htl, ← hnn]
                    exact hlaid

end Go.Proofs.Ytkofnhimgegcnaa
