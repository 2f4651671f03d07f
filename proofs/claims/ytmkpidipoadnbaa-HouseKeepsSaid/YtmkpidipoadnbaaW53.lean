/- What stays of a call that only adds. -/
import Derived.Test.YtmkpidipoadnbaaW51
import Derived.OpenShut
import Derived.ProofKit
import Derived.Deep.Slices
import Derived.ChangeSame
import Derived.Carry
import Derived.WideKeyArgs
namespace Go.Proofs.Ytmkpidipoadnbaa
open Go Go.ChangeShapes Go.WideShapes Go.ChangeAt Go.RowKit Go.Deep

theorem row_own : ownKnob Try.prog.godebug = none := by kernel_rfl
theorem row_laid : laidOutB Try.prog = true := by kernel_rfl
theorem cells_int : Try.prog.cellsOf 3 = 1 := by kernel_rfl
theorem cells_long : Try.prog.cellsOf 2 = 1 := by kernel_rfl
theorem cells_row : Try.prog.cellsOf 22 = 1 := by kernel_rfl
theorem cells_rows : Try.prog.cellsOf 23 = 1 := by kernel_rfl
theorem cells_cfg : Try.prog.cellsOf 25 = 6 := by kernel_rfl
theorem cells_act : Try.prog.cellsOf 35 = 7 := by kernel_rfl
theorem wf_i64 {x : Int} (h : (Lit.int .i64 x).wf = true) : I64 x := by
  simp [Lit.wf, IntKind.min, IntKind.max, IntKind.bits, IntKind.signed] at h
  unfold I64
  omega
theorem flat_at {α : Type} {f : α → List Value} {k : Nat} (hf : ∀ x, (f x).length = k) (hk : 0 < k) : ∀ (l : List α) (j : Nat) (u : Value), (l.flatMap f)[j]? = some u → ∃ x, l[j / k]? = some x ∧ (f x)[j % k]? = some u
  | [], j, u, h => by simp at h
  | x :: l, j, u, h => by
    rw [List.flatMap_cons] at h
    by_cases hj : j < k
    · rw [List.getElem?_append_left (by rw [hf]; exact hj)] at h
      exact ⟨x, by rw [Nat.div_eq_of_lt hj]; rfl, by rw [Nat.mod_eq_of_lt hj]; exact h⟩
    · rw [List.getElem?_append_right (by rw [hf]; omega), hf] at h
      obtain ⟨y, h1, h2⟩ := flat_at hf hk l (j - k) u h
      refine ⟨y, ?_, ?_⟩
      · rw [show j = (j - k) + k by omega, Nat.add_div_right _ hk, List.getElem?_cons_succ]
        exact h1
      · rw [show j = (j - k) + k by omega, Nat.add_mod_right]
        exact h2
section
variable {H : Type} {enc : TypeId × Value → H} {P : Program} {w : World} {base : Nat} {α : Type} {f : α → List Value} {R : α → Prop} {k : Nat} {t e : TypeId} {fuel : Nat} {cs : List Value} {x : DataW H × List MemPlace}
/-- A slice whose elements are what f makes of numbers. -/
theorem open_cells [Inhabited α] (ht : P.underlying t = some (.slice e)) (hc : P.cellsOf e = k) (hk : 0 < k) (hf : ∀ x, (f x).length = k)
    (hel : ∀ (n : Nat) (cs : List Value) (x : DataW H × List MemPlace), DataW.trod enc P w base (fun _ => true) true n e cs = some x → ∃ g : α, cs = f g ∧ R g)
    (h : DataW.trod enc P w base (fun _ => true) true fuel t cs = some x) :
    ∃ (q : Option Addr) (cap : Nat) (l : List α), cs = [.slice q l.length cap] ∧ cap ≤ maxLen ∧ SrcAt w q l.length cap (l.flatMap f) ∧ ∀ g ∈ l, R g := by
  rcases open_slice ht h with ⟨hcs, _⟩ | ⟨a, len, cap, m, n, D, Pl, hcs, _, hl, hm, hmm, _, hi⟩
  · exact ⟨none, 0, [], hcs, by simp [maxLen], ⟨fun j u hj => by simp at hj, fun _ => ⟨rfl, rfl⟩, Nat.le_refl _⟩, fun g hg => by cases hg⟩
  · simp only [if_true] at hmm
    subst hmm
    have key : ∀ i, i < len → ∃ g : α, R g ∧ ∀ j u, (f g)[j]? = some u → w.cell? ((a.add (i * k)).add j) = some u := fun i him => by
      obtain ⟨cs', hc', ht'⟩ := hi i (by omega)
      rw [hc] at hc'
      obtain ⟨g, rfl, hR⟩ := hel _ _ _ ht'
      obtain ⟨_, hcl, hat⟩ := World.cells?_some hc'
      exact ⟨g, hR, fun j u hj => by rw [hat j (by have := (List.getElem?_eq_some_iff.1 hj).1; rw [hf] at this; exact this)]; exact hj⟩
    obtain ⟨l, hll, hlR, hlc⟩ : ∃ l : List α, l.length = len ∧ (∀ g ∈ l, R g) ∧ ∀ i g, l[i]? = some g → ∀ j u, (f g)[j]? = some u → w.cell? ((a.add (i * k)).add j) = some u := by
      refine ⟨(List.range len).map fun i => if h : i < len then Classical.choose (key i h) else default, by simp, fun g hg => ?_, fun i x hx => ?_⟩
      · obtain ⟨i, hi2, rfl⟩ := List.mem_map.1 hg
        have hlt := List.mem_range.1 hi2
        simp only [dif_pos hlt]
        exact (Classical.choose_spec (key i hlt)).1
      · rw [List.getElem?_map] at hx
        obtain ⟨j, hj, rfl⟩ := Option.map_eq_some_iff.1 hx
        have hlt : i < len := by have := (List.getElem?_eq_some_iff.1 hj).1; simpa using this
        have hij : j = i := by have := (List.getElem?_eq_some_iff.1 hj).2; simpa using this.symm
        subst hij
        simp only [dif_pos hlt]
        exact (Classical.choose_spec (key j hlt)).2
    refine ⟨some a, _, l, by rw [hll]; exact hcs, hm, ⟨fun j u hj => ?_, (fun h => by cases h), by omega⟩, hlR⟩
    obtain ⟨g, h1, h2⟩ := flat_at hf hk l j u hj
    have hcell := hlc _ _ h1 _ _ h2
    obtain ⟨b, off, spot⟩ := a
    have hspot : spot = none := by
      obtain ⟨g0, hg0⟩ : ∃ y, l[0]? = some y := ⟨_, List.getElem?_eq_getElem (Nat.lt_of_le_of_lt (Nat.zero_le _) (List.getElem?_eq_some_iff.1 h1).1)⟩
      have := hlc 0 g0 hg0 0 _ (List.getElem?_eq_getElem (by rw [hf]; exact hk))
      simpa [Addr.add] using World.cell?_spot this
    subst hspot
    rw [addr_add2, addr_add2, Nat.add_assoc] at hcell
    refine ⟨b, off, rfl, ?_⟩
    have e1 : j / k * k + j % k = j := by have := Nat.div_add_mod j k; rw [Nat.mul_comm] at this; exact this
    rw [e1] at hcell
    exact hcell
end

section
variable {H : Type} {enc : TypeId × Value → H} {w : World} {fuel : Nat} {cs : List Value} {x : DataW H × List MemPlace}
/-- A slice of numbers. -/
theorem longs_of (h : DataW.trod enc Try.prog w 0 (fun _ => true) true fuel 22 cs = some x) : ∃ (q : Option Addr) (cap : Nat) (l : List Int), cs = [.slice q l.length cap] ∧ cap ≤ maxLen ∧ SrcAt w q l.length cap (l.map (Value.int .i64)) ∧ ∀ g ∈ l, I64 g := by
  obtain ⟨q, cap, l, h1, h2, h3, h4⟩ := open_cells (f := fun g : Int => [Value.int .i64 g]) (R := I64) Try.underlying22 cells_long (by omega) (fun _ => rfl) (fun n cs x hx => by
    obtain ⟨g, e, _, hw⟩ := DataW.trod_int Try.underlying2 hx
    exact ⟨g, e, wf_i64 hw⟩) h
  rw [← List.map_eq_flatMap] at h3
  exact ⟨q, cap, l, h1, h2, h3, h4⟩
structure SlI where
  p : Option Addr
  c : Nat
  l : List Int
instance : Inhabited SlI := ⟨⟨none, 0, []⟩⟩
/-- A slice of slices of numbers. -/
theorem rows_of (h : DataW.trod enc Try.prog w 0 (fun _ => true) true fuel 23 cs = some x) : ∃ (q : Option Addr) (cap : Nat) (l : List (List Int)), cs = [.slice q l.length cap] ∧ cap ≤ maxLen ∧ MovesS w q cap l ∧ ∀ m ∈ l, m.length ≤ maxLen := by
  obtain ⟨q, cap, l, h1, h2, h3, h4⟩ := open_cells (f := fun g : SlI => [Value.slice g.p g.l.length g.c]) (R := fun g => SrcAt w g.p g.l.length g.c (g.l.map (Value.int .i64)) ∧ g.c ≤ maxLen) Try.underlying23 cells_row (by omega) (fun _ => rfl) (fun n cs x hx => by
    obtain ⟨q, cap, l, e, hc, hs, _⟩ := longs_of hx
    exact ⟨⟨q, cap, l⟩, e, hs, hc⟩) h
  rw [← List.map_eq_flatMap] at h3
  refine ⟨q, cap, l.map fun g => g.l, by rw [List.length_map]; exact h1, h2, ⟨l.map fun g => (g.p, g.c), by simp, ?_, fun i s m hs hm => ?_⟩, fun m hm => ?_⟩
  · rw [List.length_map]
    have e : List.zipWith (fun s m => Value.slice s.1 (List.length m) s.2) (l.map fun g => (g.p, g.c)) (l.map fun g => g.l) = l.map fun g => Value.slice g.p g.l.length g.c := by
      rw [List.zipWith_map]
      clear h1 h3 h4
      induction l with
      | nil => rfl
      | cons a l ih => rw [List.zipWith_cons_cons, ih]; rfl
    rw [e]
    exact h3
  · rw [List.getElem?_map] at hs hm
    obtain ⟨g, hg, rfl⟩ := Option.map_eq_some_iff.1 hs
    rw [hg] at hm
    simp only [Option.map_some, Option.some.injEq] at hm
    subst hm
    exact (h4 g (List.mem_of_getElem? hg)).1
  · obtain ⟨g, hg, rfl⟩ := List.mem_map.1 hm
    have := (h4 g hg).1.2.2
    have := (h4 g hg).2
    omega
instance : Inhabited ActT := ⟨⟨0, 0, 0, 0, 0, 0, 0⟩⟩
set_option maxRecDepth 100000 in
theorem act_of (h : DataW.trod enc Try.prog w 0 (fun _ => true) true fuel 35 cs = some x) : ∃ t : ActT, cs = encT t ∧ t.In := by
  obtain ⟨xs, n, _, hx, hcl, hlen, hg⟩ := DataW.trod_struct Try.underlying35 h
  have h7 : cs.length = 7 := hcl.trans cells_act
  match xs, hlen with
  | [y0, y1, y2, y3, y4, y5, y6], _ =>
    have g0 := hg 0 _ rfl
    have g1 := hg 1 _ rfl
    have g2 := hg 2 _ rfl
    have g3 := hg 3 _ rfl
    have g4 := hg 4 _ rfl
    have g5 := hg 5 _ rfl
    have g6 := hg 6 _ rfl
    match cs, h7 with
    | [c0, c1, c2, c3, c4, c5, c6], _ =>
      simp [cells_int, cells_long] at g0 g1 g2 g3 g4 g5 g6
      obtain ⟨a0, e0, _, w0⟩ := DataW.trod_int Try.underlying3 g0
      obtain ⟨a1, e1, _, w1⟩ := DataW.trod_int Try.underlying3 g1
      obtain ⟨a2, e2, _, w2⟩ := DataW.trod_int Try.underlying3 g2
      obtain ⟨a3, e3, _, w3⟩ := DataW.trod_int Try.underlying3 g3
      obtain ⟨a4, e4, _, w4⟩ := DataW.trod_int Try.underlying2 g4
      obtain ⟨a5, e5, _, w5⟩ := DataW.trod_int Try.underlying2 g5
      obtain ⟨a6, e6, _, w6⟩ := DataW.trod_int Try.underlying2 g6
      simp only [List.cons.injEq, and_true] at e0 e1 e2 e3 e4 e5 e6
      subst e0 e1 e2 e3 e4 e5 e6
      exact ⟨⟨a0, a1, a2, a3, a4, a5, a6⟩, rfl, wf_i64 w0, wf_i64 w1, wf_i64 w2, wf_i64 w3, wf_i64 w4, wf_i64 w5, wf_i64 w6⟩
set_option maxRecDepth 100000 in
/-- A list of acts that a law is given. -/
theorem open_acts {r : Reach} {b0 : Nat} {v : Value} {d : DataW H} {p : List MemPlace} (hv : Value.okWide Try.prog w r b0 26 v) (h : DataW.Trod enc Try.prog w 0 (fun _ => true) true 26 v d p) :
    ∃ (q : Option Addr) (cap : Nat) (l : List ActT), v = .slice q l.length cap ∧ cap ≤ maxLen ∧ SrcAt w q l.length cap (l.flatMap encT) ∧ ∀ t ∈ l, t.In := by
  obtain ⟨q, len, cap, rfl⟩ := okWide_slice Try.underlying26 hv
  obtain ⟨fuel, hf⟩ := h
  obtain ⟨q', cap', l, h1, h2, h3, h4⟩ := open_cells (f := encT) (R := ActT.In) Try.underlying26 cells_act (by omega) encT_len (fun n cs x hx => act_of hx) hf
  simp [Value.cells] at h1
  obtain ⟨rfl, rfl, rfl⟩ := h1
  exact ⟨q, cap, l, rfl, h2, h3, h4⟩
set_option maxRecDepth 100000 in
/-- A configuration that a law is given. -/
theorem open_cfg {r : Reach} {b0 : Nat} {v : Value} {d : DataW H} {p : List MemPlace} (hv : Value.okWide Try.prog w r b0 25 v) (h : DataW.Trod enc Try.prog w 0 (fun _ => true) true 25 v d p) :
    ∃ (c : Cfg) (pp : Option Addr) (cp : Nat) (mp : Option Addr) (cm : Nat), v = .agg (cfgCells c pp cp mp cm) ∧ (∀ x ∈ [c.members, c.months, c.rate, c.cap], -9223372036854775808 ≤ x ∧ x ≤ 9223372036854775807) ∧ SrcAt w pp c.prices.length cp (c.prices.map (Value.int .i64)) ∧ MovesS w mp cm c.moves ∧ c.prices.length ≤ maxLen ∧ c.moves.length ≤ maxLen ∧ (∀ m ∈ c.moves, m.length ≤ maxLen) ∧ ∀ x ∈ c.prices, I64 x := by
  obtain ⟨cs, rfl, hsz⟩ := okWide_struct Try.underlying25 hv
  obtain ⟨cs⟩ := cs
  match cs, hsz.trans cells_cfg with
  | [c0, c1, c2, c3, c4, c5], _ =>
    obtain ⟨fuel, hf⟩ := h
    obtain ⟨xs, n, _, hx, _, hlen, hg⟩ := DataW.trod_struct Try.underlying25 hf
    match xs, hlen with
    | [y0, y1, y2, y3, y4, y5], _ =>
      have g0 := hg 0 _ rfl
      have g1 := hg 1 _ rfl
      have g2 := hg 2 _ rfl
      have g3 := hg 3 _ rfl
      have g4 := hg 4 _ rfl
      have g5 := hg 5 _ rfl
      simp [cells_int, cells_long, cells_row, cells_rows, Value.cells] at g0 g1 g2 g3 g4 g5
      obtain ⟨a0, e0, _, w0⟩ := DataW.trod_int Try.underlying3 g0
      obtain ⟨a1, e1, _, w1⟩ := DataW.trod_int Try.underlying3 g1
      obtain ⟨q2, k2, l2, e2, m2, s2, i2⟩ := longs_of g2
      obtain ⟨q3, k3, l3, e3, m3, s3, i3⟩ := rows_of g3
      obtain ⟨a4, e4, _, w4⟩ := DataW.trod_int Try.underlying2 g4
      obtain ⟨a5, e5, _, w5⟩ := DataW.trod_int Try.underlying2 g5
      simp only [List.cons.injEq, and_true] at e0 e1 e2 e3 e4 e5
      subst e0 e1 e2 e3 e4 e5
      refine ⟨⟨a0, a1, l2, l3, a4, a5⟩, q2, k2, q3, k3, rfl, fun x hx => ?_, s2, s3, by have := s2.2.2; show l2.length ≤ maxLen; omega, ?_, i3, i2⟩
      · simp at hx
        rcases hx with rfl | rfl | rfl | rfl
        · exact wf_i64 w0
        · exact wf_i64 w1
        · exact wf_i64 w4
        · exact wf_i64 w5
      · obtain ⟨_, _, hsr, _⟩ := s3
        have := hsr.2.2
        show l3.length ≤ maxLen
        omega
end
/-- An argument that nothing turned reads as it did. -/
theorem arg_stays {H : Type} {enc : TypeId × Value → H} {t : TypeId} (hr : Try.prog.readableRec t = true) (ht : t < Try.prog.types.size) {W W' : World} {v : Value} {d : DataW H} {ps : List MemPlace} (h : DataW.Trod enc Try.prog W 0 (fun _ => true) true t v d ps)
    (hb : Adds W W') (hlt : ∀ x ∈ ps, x.block < W.heap.size) {sp : Nat → Bool} (hs : ∀ x ∈ ps, sp x.block = true) : DataW.Trod enc Try.prog W' 0 sp true t v d ps :=
  WideElems.Trod_stays row_laid hr ht h (fun x hx => Below.same hb (hlt x hx)) hs

end Go.Proofs.Ytmkpidipoadnbaa

namespace Go.Proofs.Ytmkpidipoadnbaa
open Go.RowKit
open Go.ChangeShapes Go.WideShapes Go.ChangeAt Go.Deep

theorem Adds.frame {w w' : World} (h : Adds w w') (may : MemPlace → Prop) : w.keptBut w' may := by
  refine ⟨h.os, h.output, fun i hi => ?_⟩
  rw [h.block i hi]
  cases hc : w.heap[i]? with
  | none => rfl
  | some o => cases o <;> first | exact ⟨rfl, rfl, rfl, fun _ _ => rfl⟩ | exact Or.inr ⟨rfl, rfl⟩ | rfl

/-- What stays of a call that only adds: the arguments read as they did. -/
theorem post_of_adds {H : Type} {enc : TypeId × Value → H} {P : Program} {f : Func} {s : ChangeSpec} {apart fresh handsOn again : Bool} {W W' : World} {args : Array Value} {v : Value} {ds gs : List (DataW H)} {before pa pv : List MemPlace}
    (hW : DataW.Whole enc P f.params.toList s.vars apart W args.toList ds gs before)
    (hres : ∀ (b : Nat) (sp : Nat → Bool) (hd : Bool), DataW.TrodAll enc P W' b sp hd f.resultTypes.toList (v.resultList f.resultTypes.size) (s.fn H (ds ++ gs)).results [])
    (hargs : ∀ sp : Nat → Bool, (∀ p ∈ before, sp p.block = true) → DataW.TrodAll enc P W' 0 sp true f.params.toList args.toList (s.fn H (ds ++ gs)).args pa)
    (hvars : ∀ sp : Nat → Bool, (∀ p ∈ before, sp p.block = true) → DataW.TrodVars enc P W' sp s.vars (s.fn H (ds ++ gs)).vars pv)
    (hps : before = pa ++ pv) (hb : Adds W W')
    (hok : ∀ (j : Nat) (t : TypeId) (r : Value), f.resultTypes[j]? = some t → (v.resultList f.resultTypes.size)[j]? = some r → Value.okWide P W' .any 0 t r) :
    s.post enc P f apart fresh handsOn again W args v W' := by
  have hlt : ∀ p ∈ before, p.block < W.heap.size := fun p hp => hW.lt p hp
  have hold : ∀ p ∈ before, (fun b => decide (b < W.heap.size)) p.block = true := fun p hp => by simpa using hlt p hp
  refine ⟨ds, gs, before, [], pa, pv, hW, hres _ _ _, hargs _ hold, hvars _ hold, hb.frame _, fun _ => ?_⟩
  obtain ⟨_, _, _, _, _, hz, hn⟩ := hW
  refine ⟨hok, _, _, ([] ++ pa) ++ pv, ⟨[] ++ pa, pv, trodAll_append (hargs _ (fun _ _ => rfl)) (hres _ _ _), hvars _ (fun _ _ => rfl), rfl, ?_, ?_⟩, ?_⟩
  · intro b off hp
    have hp' : MemPlace.cell b off ∈ before := by rw [hps]; simpa using hp
    rw [hb.frozen (hlt _ hp')]
    exact hz b off hp'
  · intro ha
    have := hn ha
    rw [hps] at this
    simpa using this
  · intro p hp _
    rw [hps]
    simpa using hp



end Go.Proofs.Ytmkpidipoadnbaa
