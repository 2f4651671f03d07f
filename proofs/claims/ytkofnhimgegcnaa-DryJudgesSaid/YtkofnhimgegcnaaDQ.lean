/- For every input the law DryJudges of package oastlaw07 returns true (whether any turns are a plan, and any crush a proof), and its inputs read afterwards as they did before.
   Conditions: none beyond those of the given statement. -/
import Derived.Test.YtkofnhimgegcnaaAT
import Derived.ProofKit
import Derived.OpenShut
import Derived.Deep.Slices
import Derived.Carry
import Derived.WideKeyArgs
import Derived.Test.YtkofnhimgegcnaaDK
namespace Go.Proofs.Ytkofnhimgegcnaa
open Go.RowKit
open Go.ChangeShapes Go.WideShapes Go.ChangeAt Go.Deep

theorem own : ownKnob Try.prog.godebug = none := by kernel_rfl
theorem laidOut : laidOutB Try.prog = true := by kernel_rfl

theorem cells72 : Try.prog.cellsOf 72 = 4 := by kernel_rfl
theorem cells3 : Try.prog.cellsOf 3 = 1 := by kernel_rfl

theorem Adds.frame {w w' : World} (h : Adds w w') (may : MemPlace → Prop) : w.keptBut w' may := by
  refine ⟨h.os, h.output, fun i hi => ?_⟩
  rw [h.block i hi]
  cases hc : w.heap[i]? with
  | none => rfl
  | some o => cases o <;> first | exact ⟨rfl, rfl, rfl, fun _ _ => rfl⟩ | exact Or.inr ⟨rfl, rfl⟩ | rfl

/-- What stays of a call that only adds: the arguments read as they did. -/
theorem post_of_adds {H : Type} {enc : TypeId × Value → H} {P : Program} {f : Func} {s : ChangeSpec} {apart fresh handsOn again : Bool} {W W' : World} {args : Array Value} {v : Value} {ds gs : List (DataW H)} {before pa pv : List MemPlace}
    (hW : DataW.Whole enc P f.params.toList s.vars apart W args.toList ds gs before)
    (hres : ∀ (b : Nat) (sp : Nat → Bool) (hd : Bool), DataW.TrodAll enc P W' b sp hd f.resultTypes.toList (v.resultList f.resultTypes.size) (s.fn H (ds ++ gs)).results [])
    (hargs : ∀ sp : Nat → Bool, (∀ p ∈ before, sp p.block = true) → DataW.TrodAll enc P W' 0 sp true f.params.toList args.toList (s.fn H (ds ++ gs)).args pa)
    (hvars : ∀ sp : Nat → Bool, (∀ p ∈ before, sp p.block = true) → DataW.TrodVars enc P W' sp s.vars (s.fn H (ds ++ gs)).vars pv)
    (hps : before = pa ++ pv) (hb : Adds W W')
    (hok : ∀ (j : Nat) (t : TypeId) (r : Value), f.resultTypes[j]? = some t → (v.resultList f.resultTypes.size)[j]? = some r → Value.okWide P W' .any 0 t r) :
    s.post enc P f apart fresh handsOn again W args v W' := by
  have hlt : ∀ p ∈ before, p.block < W.heap.size := fun p hp => hW.lt p hp
  have hold : ∀ p ∈ before, (fun b => decide (b < W.heap.size)) p.block = true := fun p hp => by simpa using hlt p hp
  refine ⟨ds, gs, before, [], pa, pv, hW, hres _ _ _, hargs _ hold, hvars _ hold, hb.frame _, fun _ => ?_⟩
  obtain ⟨_, _, _, _, _, hz, hn⟩ := hW
  refine ⟨hok, _, _, ([] ++ pa) ++ pv, ⟨[] ++ pa, pv, trodAll_append (hargs _ (fun _ _ => rfl)) (hres _ _ _), hvars _ (fun _ _ => rfl), rfl, ?_, ?_⟩, ?_⟩
  · intro b off hp
    have hp' : MemPlace.cell b off ∈ before := by rw [hps]; simpa using hp
    rw [hb.frozen (hlt _ hp')]
    exact hz b off hp'
  · intro ha
    have := hn ha
    rw [hps] at this
    simpa using this
  · intro p hp _
    rw [hps]
    simpa using hp


/-- An argument that nothing turned reads as it did. -/
theorem arg_stays {H : Type} {enc : TypeId × Value → H} {t : TypeId} (hr : Try.prog.readableRec t = true) (ht : t < Try.prog.types.size) {W W' : World} {v : Value} {d : DataW H} {ps : List MemPlace} (h : DataW.Trod enc Try.prog W 0 (fun _ => true) true t v d ps)
    (hb : Adds W W') (hlt : ∀ x ∈ ps, x.block < W.heap.size) {sp : Nat → Bool} (hs : ∀ x ∈ ps, sp x.block = true) : DataW.Trod enc Try.prog W' 0 sp true t v d ps :=
  WideElems.Trod_stays laidOut hr ht h (fun x hx => Below.same hb (hlt x hx)) hs

set_option maxRecDepth 100000 in
theorem load_cells {H : Type} {enc : TypeId × Value → H} {w : World} {base : Nat} {spare : Nat → Bool} {held : Bool} {n : Nat} {cs : List Value} {x : DataW H × List MemPlace}
    (h : DataW.trod enc Try.prog w base spare held n 72 cs = some x) : ∃ g : Ld, cs[0]? = some (.int .i64 g.1) ∧ cs[1]? = some (.int .i64 g.2.1) ∧ cs[2]? = some (.int .i64 g.2.2.1) ∧ cs[3]? = some (.int .i64 g.2.2.2) := by
  obtain ⟨xs, n, _, hx, hsz, hlen, hg⟩ := DataW.trod_struct Try.underlying72 h
  match xs, hlen with
  | [y0, y1, y2, y3], _ =>
    have g0 := hg 0 _ rfl
    have g1 := hg 1 _ rfl
    have g2 := hg 2 _ rfl
    have g3 := hg 3 _ rfl
    have h4 : cs.length = 4 := by first | exact hsz | (have := hsz; rw [cells72] at this; omega)
    match cs, h4 with
    | [c0, c1, c2, c3], _ =>
      simp [cells3] at g0 g1 g2 g3
      obtain ⟨a, e0, _, _⟩ := DataW.trod_int Try.underlying3 g0
      obtain ⟨b, e1, _, _⟩ := DataW.trod_int Try.underlying3 g1
      obtain ⟨c, e2, _, _⟩ := DataW.trod_int Try.underlying3 g2
      obtain ⟨d, e3, _, _⟩ := DataW.trod_int Try.underlying3 g3
      simp only [List.cons.injEq, and_true] at e0 e1 e2 e3
      subst e0 e1 e2 e3
      exact ⟨(a, b, c, d), rfl, rfl, rfl, rfl⟩

theorem add_plain (b o j : Nat) : (⟨b, o, none⟩ : Addr).add j = ⟨b, o + j, none⟩ := addr_add2 b o j

set_option maxRecDepth 100000 in
/-- A list of loads, opened. -/
theorem open_loads {H : Type} {enc : TypeId × Value → H} {w : World} {r : Reach} {b0 : Nat} {v : Value} {d : DataW H} {p : List MemPlace}
    (hv : Value.okWide Try.prog w r b0 22 v) (h : DataW.Trod enc Try.prog w 0 (fun _ => true) true 22 v d p) :
    ∃ (q : Option Addr) (cap : Nat) (l : List Ld), v = .slice q l.length cap ∧ l.length ≤ cap ∧ cap ≤ maxLen ∧ LoadsAt w q l := by
  obtain ⟨q, len, cap, rfl⟩ := okWide_slice Try.underlying22 hv
  obtain ⟨fuel, hf⟩ := h
  rcases open_slice Try.underlying22 hf with ⟨hcs, _⟩ | ⟨a, len', cap', m, n, D, Pl, hcs, _, hl, hm, hmm, _, hi⟩
  · simp [Value.cells] at hcs
    obtain ⟨rfl, rfl, rfl⟩ := hcs
    exact ⟨none, 0, [], rfl, Nat.le_refl _, by simp [maxLen], fun i x hx => by simp at hx⟩
  · simp [Value.cells] at hcs
    obtain ⟨rfl, rfl, rfl⟩ := hcs
    simp only [if_true] at hmm
    subst hmm
    have key : ∀ i, i < len → ∃ g : Ld, w.cell? ((a.add (i * 4)).add 0) = some (.int .i64 g.1) ∧ w.cell? ((a.add (i * 4)).add 1) = some (.int .i64 g.2.1) ∧ w.cell? ((a.add (i * 4)).add 2) = some (.int .i64 g.2.2.1) ∧ w.cell? ((a.add (i * 4)).add 3) = some (.int .i64 g.2.2.2) := fun i him => by
      obtain ⟨cs', hc, ht⟩ := hi i (by omega)
      rw [cells72] at hc
      obtain ⟨g, h0, h1, h2, h3⟩ := load_cells ht
      obtain ⟨_, hcl, hat⟩ := World.cells?_some hc
      exact ⟨g, by rw [hat 0 (by omega)]; exact h0, by rw [hat 1 (by omega)]; exact h1, by rw [hat 2 (by omega)]; exact h2, by rw [hat 3 (by omega)]; exact h3⟩
    have hl' : ∃ l : List Ld, l.length = len ∧ ∀ i x, l[i]? = some x → w.cell? ((a.add (i * 4)).add 0) = some (.int .i64 x.1) ∧ w.cell? ((a.add (i * 4)).add 1) = some (.int .i64 x.2.1) ∧ w.cell? ((a.add (i * 4)).add 2) = some (.int .i64 x.2.2.1) ∧ w.cell? ((a.add (i * 4)).add 3) = some (.int .i64 x.2.2.2) := by
      refine ⟨(List.range len).map fun i => if h : i < len then Classical.choose (key i h) else (0, 0, 0, 0), by simp, fun i x hx => ?_⟩
      rw [List.getElem?_map] at hx
      obtain ⟨j, hj, rfl⟩ := Option.map_eq_some_iff.1 hx
      have hlt : i < len := by have := (List.getElem?_eq_some_iff.1 hj).1; simpa using this
      have hij : j = i := by have := (List.getElem?_eq_some_iff.1 hj).2; simpa using this.symm
      subst hij
      simp only [dif_pos hlt]
      exact Classical.choose_spec (key j hlt)
    obtain ⟨l, hll, hlc⟩ := hl'
    refine ⟨some a, _, l, by rw [hll], by omega, hm, fun i x hx => ?_⟩
    obtain ⟨h0, h1, h2, h3⟩ := hlc i x hx
    obtain ⟨b, off, spot⟩ := a
    have hspot : spot = none := by
      obtain ⟨y, hy⟩ : ∃ y, l[0]? = some y := ⟨_, List.getElem?_eq_getElem (by have := (List.getElem?_eq_some_iff.1 hx).1; omega)⟩
      simpa [Addr.add] using World.cell?_spot (hlc 0 y hy).1
    subst hspot
    rw [add_plain, add_plain] at h0 h1 h2 h3
    exact ⟨b, off, rfl, h0, h1, h2, h3⟩

end Go.Proofs.Ytkofnhimgegcnaa

namespace Go.Proofs.Ytkofnhimgegcnaa
open Go Go.RowKit
open Go.ChangeShapes Go.WideShapes Go.ChangeAt Go.Deep

theorem flat_at {α : Type} {f : α → List Value} {k : Nat} (hf : ∀ x, (f x).length = k) (hk : 0 < k) : ∀ (l : List α) (j : Nat) (u : Value), (l.flatMap f)[j]? = some u → ∃ x, l[j / k]? = some x ∧ (f x)[j % k]? = some u
  | [], j, u, h => by simp at h
  | x :: l, j, u, h => by
    rw [List.flatMap_cons] at h
    by_cases hj : j < k
    · rw [List.getElem?_append_left (by rw [hf]; exact hj)] at h
      exact ⟨x, by rw [Nat.div_eq_of_lt hj]; rfl, by rw [Nat.mod_eq_of_lt hj]; exact h⟩
    · rw [List.getElem?_append_right (by rw [hf]; omega), hf] at h
      obtain ⟨y, h1, h2⟩ := flat_at hf hk l (j - k) u h
      refine ⟨y, ?_, ?_⟩
      · rw [show j = (j - k) + k by omega, Nat.add_div_right _ hk, List.getElem?_cons_succ]
        exact h1
      · rw [show j = (j - k) + k by omega, Nat.add_mod_right]
        exact h2

section
variable {H : Type} {enc : TypeId × Value → H} {P : Program} {w : World} {base : Nat} {α : Type} {f : α → List Value} {k : Nat} {t e : TypeId} {fuel : Nat} {cs : List Value} {x : DataW H × List MemPlace}
/-- A slice whose elements are encoded numbers. -/
theorem open_cells [Inhabited α] (ht : P.underlying t = some (.slice e)) (hc : P.cellsOf e = k) (hk : 0 < k) (hf : ∀ x, (f x).length = k)
    (hel : ∀ (n : Nat) (cs : List Value) (x : DataW H × List MemPlace), DataW.trod enc P w base (fun _ => true) true n e cs = some x → ∃ g : α, cs = f g)
    (h : DataW.trod enc P w base (fun _ => true) true fuel t cs = some x) :
    ∃ (q : Option Addr) (cap : Nat) (l : List α), cs = [.slice q l.length cap] ∧ l.length ≤ cap ∧ cap ≤ maxLen ∧ CellsAt w q (l.flatMap f) := by
  rcases open_slice ht h with ⟨hcs, _⟩ | ⟨a, len, cap, m, n, D, Pl, hcs, _, hl, hm, hmm, _, hi⟩
  · exact ⟨none, 0, [], hcs, Nat.le_refl _, by simp [maxLen], fun j u hj => by simp at hj⟩
  · simp only [if_true] at hmm
    subst hmm
    have key : ∀ i, i < len → ∃ g : α, ∀ j u, (f g)[j]? = some u → w.cell? ((a.add (i * k)).add j) = some u := fun i him => by
      obtain ⟨cs', hc', ht'⟩ := hi i (by omega)
      rw [hc] at hc'
      obtain ⟨g, rfl⟩ := hel _ _ _ ht'
      obtain ⟨_, hcl, hat⟩ := World.cells?_some hc'
      exact ⟨g, fun j u hj => by rw [hat j (by have := (List.getElem?_eq_some_iff.1 hj).1; rw [hf] at this; exact this)]; exact hj⟩
    obtain ⟨l, hll, hlc⟩ : ∃ l : List α, l.length = len ∧ ∀ i g, l[i]? = some g → ∀ j u, (f g)[j]? = some u → w.cell? ((a.add (i * k)).add j) = some u := by
      refine ⟨(List.range len).map fun i => if h : i < len then Classical.choose (key i h) else default, by simp, fun i x hx => ?_⟩
      rw [List.getElem?_map] at hx
      obtain ⟨j, hj, rfl⟩ := Option.map_eq_some_iff.1 hx
      have hlt : i < len := by have := (List.getElem?_eq_some_iff.1 hj).1; simpa using this
      have hij : j = i := by have := (List.getElem?_eq_some_iff.1 hj).2; simpa using this.symm
      subst hij
      simp only [dif_pos hlt]
      exact Classical.choose_spec (key j hlt)
    refine ⟨some a, _, l, by rw [hll]; exact hcs, by omega, hm, fun j u hj => ?_⟩
    obtain ⟨g, h1, h2⟩ := flat_at hf hk l j u hj
    have hcell := hlc _ _ h1 _ _ h2
    obtain ⟨b, off, spot⟩ := a
    have hspot : spot = none := by
      obtain ⟨g0, hg0⟩ : ∃ y, l[0]? = some y := ⟨_, List.getElem?_eq_getElem (Nat.lt_of_le_of_lt (Nat.zero_le _) (List.getElem?_eq_some_iff.1 h1).1)⟩
      have := hlc 0 g0 hg0 0 _ (List.getElem?_eq_getElem (by rw [hf]; exact hk))
      simpa [Addr.add] using World.cell?_spot this
    subst hspot
    rw [addr_add2, addr_add2] at hcell
    refine ⟨b, off, rfl, ?_⟩
    rw [show off + j = off + j / k * k + j % k by have := Nat.div_add_mod j k; rw [Nat.mul_comm] at this; omega]
    exact hcell
end

theorem cells42 : Try.prog.cellsOf 42 = 3 := by kernel_rfl
theorem cells91 : Try.prog.cellsOf 91 = 2 := by kernel_rfl
theorem cells35 : Try.prog.cellsOf 35 = 1 := by kernel_rfl
theorem cells36 : Try.prog.cellsOf 36 = 1 := by kernel_rfl
theorem cells38 : Try.prog.cellsOf 38 = 2 := by kernel_rfl

section
variable {H : Type} {enc : TypeId × Value → H} {w : World} {base : Nat} {spare : Nat → Bool} {held : Bool} {n : Nat} {cs : List Value} {x : DataW H × List MemPlace}
set_option maxRecDepth 100000 in
theorem turn_cells (h : DataW.trod enc Try.prog w base spare held n 42 cs = some x) : ∃ g : Tn, cs = enc3 g := by
  obtain ⟨xs, n, _, hx, hsz, hlen, hg⟩ := DataW.trod_struct Try.underlying42 h
  match xs, hlen with
  | [y0, y1, y2], _ =>
    have g0 := hg 0 _ rfl
    have g1 := hg 1 _ rfl
    have g2 := hg 2 _ rfl
    have h4 : cs.length = 3 := by first | exact hsz | (have := hsz; rw [cells42] at this; omega)
    match cs, h4 with
    | [c0, c1, c2], _ =>
      simp [cells3] at g0 g1 g2
      obtain ⟨a, e0, _, _⟩ := DataW.trod_int Try.underlying3 g0
      obtain ⟨b, e1, _, _⟩ := DataW.trod_int Try.underlying3 g1
      obtain ⟨c, e2, _, _⟩ := DataW.trod_int Try.underlying3 g2
      simp only [List.cons.injEq, and_true] at e0 e1 e2
      subst e0 e1 e2
      exact ⟨(a, b, c), rfl⟩
set_option maxRecDepth 100000 in
theorem span_cells (h : DataW.trod enc Try.prog w base spare held n 91 cs = some x) : ∃ g : Int × Int, cs = enc2 g := by
  obtain ⟨xs, n, _, hx, hsz, hlen, hg⟩ := DataW.trod_array Try.underlying91 h
  match xs, hlen with
  | [y0, y1], _ =>
    have g0 := hg 0 (by omega)
    have g1 := hg 1 (by omega)
    have h4 : cs.length = 2 := by first | exact hsz | (have := hsz; rw [cells91] at this; omega)
    match cs, h4 with
    | [c0, c1], _ =>
      simp [cells3] at g0 g1
      obtain ⟨a, e0, _, _⟩ := DataW.trod_int Try.underlying3 g0
      obtain ⟨b, e1, _, _⟩ := DataW.trod_int Try.underlying3 g1
      simp only [List.cons.injEq, and_true] at e0 e1
      subst e0 e1
      exact ⟨(a, b), rfl⟩
theorem int_cells (h : DataW.trod enc Try.prog w base spare held n 3 cs = some x) : ∃ g : Int, cs = [.int .i64 g] := by
  obtain ⟨a, e0, _, _⟩ := DataW.trod_int Try.underlying3 h
  exact ⟨a, e0⟩
end

theorem flat_one (l : List Int) : l.flatMap (fun g => [Value.int .i64 g]) = l.map (Value.int .i64) := by
  induction l with
  | nil => rfl
  | cons x l ih => rw [List.flatMap_cons, ih]; rfl

set_option maxRecDepth 100000 in
theorem open_turns {H : Type} {enc : TypeId × Value → H} {w : World} {r : Reach} {b0 : Nat} {v : Value} {d : DataW H} {p : List MemPlace}
    (hv : Value.okWide Try.prog w r b0 34 v) (h : DataW.Trod enc Try.prog w 0 (fun _ => true) true 34 v d p) :
    ∃ (q : Option Addr) (cap : Nat) (l : List Tn), v = .slice q l.length cap ∧ l.length ≤ cap ∧ cap ≤ maxLen ∧ CellsAt w q (l.flatMap enc3) := by
  obtain ⟨q, len, cap, rfl⟩ := okWide_slice Try.underlying34 hv
  obtain ⟨fuel, hf⟩ := h
  obtain ⟨q', cap', l, h1, h2⟩ := open_cells (f := enc3) Try.underlying34 cells42 (by omega) (fun _ => rfl) (fun _ _ _ => turn_cells) hf
  simp [Value.cells] at h1
  obtain ⟨rfl, rfl, rfl⟩ := h1
  exact ⟨_, _, l, rfl, h2⟩

set_option maxRecDepth 100000 in
/-- A crush by value, opened. -/
theorem open_crush {H : Type} {enc : TypeId × Value → H} {w : World} {r : Reach} {b0 : Nat} {v : Value} {d : DataW H} {p : List MemPlace}
    (hv : Value.okWide Try.prog w r b0 38 v) (h : DataW.Trod enc Try.prog w 0 (fun _ => true) true 38 v d p) :
    ∃ (p1 p2 : Option Addr) (c1 c2 : Nat) (L : List Int) (H : List (Int × Int)), v = .agg #[.slice p1 L.length c1, .slice p2 H.length c2] ∧ L.length ≤ c1 ∧ H.length ≤ c2 ∧ CellsAt w p1 (L.map (Value.int .i64)) ∧ CellsAt w p2 (H.flatMap enc2) := by
  obtain ⟨cs, rfl, hsz⟩ := okWide_struct Try.underlying38 hv
  obtain ⟨l⟩ := cs
  match l, hsz.trans cells38 with
  | [c0, c1], _ =>
    obtain ⟨fuel, hf⟩ := h
    obtain ⟨xs, n, _, hx, _, hlen, hg⟩ := DataW.trod_struct Try.underlying38 hf
    match xs, hlen with
    | [y0, y1], _ =>
      have g0 := hg 0 _ rfl
      have g1 := hg 1 _ rfl
      simp [cells35, cells36, Value.cells] at g0 g1
      obtain ⟨q1, cap1, L, e1, h11, _, h12⟩ := open_cells (f := fun g : Int => [Value.int .i64 g]) Try.underlying35 cells3 (by omega) (fun _ => rfl) (fun _ _ _ => int_cells) g0
      obtain ⟨q2, cap2, Hs, e2, h21, _, h22⟩ := open_cells (f := enc2) Try.underlying36 cells91 (by omega) (fun _ => rfl) (fun _ _ _ => span_cells) g1
      simp only [List.cons.injEq, and_true] at e1 e2
      subst e1 e2
      rw [flat_one] at h12
      exact ⟨q1, q2, cap1, cap2, L, Hs, rfl, h11, h21, h12, h22⟩

end Go.Proofs.Ytkofnhimgegcnaa

namespace Go.Proofs.Ytkofnhimgegcnaa
open Go.ChangeShapes Go.WideShapes Go.ChangeAt Go.RowKit Go.Deep

set_option maxRecDepth 100000 in
theorem judges_lifted (os : Os) (started : os.Started) (H : Type) (enc : TypeId × Value → H) :
    ReturnsInHanded {} Try.checked os 4 .any (Rows.dryJudgesSpec.pre6 enc Try.prog Try.f4 Rows.dryJudgesRow.domain false) (Rows.dryJudgesSpec.post enc Try.prog Try.f4 false true false false) := by
  refine returnsInHanded_of_change (C := Try.checked) own started (by kernel_rfl) Try.func4
    (ChangeSpec.witness6 (enc := enc) (C := Try.checked) false ⟨#[], #[.slice none 0 0, .slice none 0 0, .agg #[.slice none 0 0, .slice none 0 0]], []⟩ 4 (by kernel_rfl) (by kernel_rfl) (by kernel_rfl) (by kernel_rfl)) ?_
  intro W base args ds gs before hval0 hW hcnd _
  have hval : ∀ (j : Nat) t v, Try.f4.params[j]? = some t → args[j]? = some v → Value.okWide Try.prog W .any base t v := hval0
  have hW' := hW
  obtain ⟨p, q, hA0, hV, rfl, hfz, hnd⟩ := hW
  have hA : DataW.TrodAll enc Try.prog W 0 (fun _ => true) true Try.f4.params.toList args.toList ds p := hA0
  rw [Try.params4] at hA hval
  obtain ⟨v0, v1, v2, d0, d1, d2, p0, p1, p2, rfl, rfl, rfl, h0, h1, h2⟩ := trodAll_three hA
  obtain ⟨rfl, rfl⟩ := trodVars_none hV
  obtain ⟨a, cap, l, rfl, hcap, hcm, hloads⟩ := open_loads (hval 0 22 v0 rfl rfl) h0
  obtain ⟨pp, pc, Pa, rfl, hpc, hpm, hP⟩ := open_turns (hval 1 34 v1 rfl rfl) h1
  obtain ⟨q1, q2, c1, c2, La, Ha, rfl, hc1, hc2, hLa, hHa⟩ := open_crush (hval 2 38 v2 rfl rfl) h2
  clear hA0 hval0
  simp only [List.append_nil] at hW'
  refine (judges_law a cap l pp pc Pa q1 q2 c1 c2 La Ha W hloads hcap hcm hP hLa hHa hc1 hc2 (Nat.le_trans hpc hpm)).mono fun e W' ⟨he, hb⟩ => ?_
  subst he
  have hlt : ∀ x ∈ p0 ++ p1 ++ p2, x.block < W.heap.size := fun x hx => hW'.lt x (by simpa using hx)
  exact ⟨_, rfl, post_of_adds (pa := p0 ++ (p1 ++ p2)) (pv := []) hW' (fun _ _ _ => trodAll_mk1 (shut_bool Try.underlying4 _))
    (fun sp hs => trodAll_mk3 (arg_stays (by kernel_rfl) (of_decide_eq_true (by kernel_rfl)) h0 hb (fun x hx => hlt x (List.mem_append_left _ (List.mem_append_left _ hx))) (fun x hx => hs x (List.mem_append_left _ (List.mem_append_left _ hx)))) (arg_stays (by kernel_rfl) (of_decide_eq_true (by kernel_rfl)) h1 hb (fun x hx => hlt x (List.mem_append_left _ (List.mem_append_right _ hx))) (fun x hx => hs x (List.mem_append_left _ (List.mem_append_right _ hx)))) (arg_stays (by kernel_rfl) (of_decide_eq_true (by kernel_rfl)) h2 hb (fun x hx => hlt x (List.mem_append_right _ hx)) (fun x hx => hs x (List.mem_append_right _ hx)))) (fun _ _ => rfl) (by simp)
    hb (ok_one (by kernel_rfl) rfl (okWide_bool_mk Try.underlying4 _))⟩

theorem judges_holds : Rows.DryJudgesSaid :=
  OpenClaim.holds_of_wide 4 Try.f4 rfl rfl rfl rfl rfl rfl rfl ⟨rfl, rfl, rfl, rfl, rfl⟩ rfl rfl rfl rfl rfl (by kernel_rfl) Try.func4 (by kernel_rfl)
    (of_decide_eq_true (by kernel_rfl)) (by unfold Func.isWrapper; first | (rw [if_pos (by decide +kernel)]; kernel_rfl) | (rw [if_neg (by decide +kernel)]; exact ⟨rfl, rfl⟩))
    (fun os started H enc _ => judges_lifted os started H enc)

end Go.Proofs.Ytkofnhimgegcnaa
