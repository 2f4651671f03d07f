/- The rows of the laws: arguments opened, and what they read as afterwards. -/
import Derived.Test.YtkofnhimgegcnaaAT
import Derived.ProofKit
import Derived.OpenShut
import Derived.Deep.Slices
import Derived.Carry
import Derived.WideKeyArgs
namespace Go.Proofs.Ytkofnhimgegcnaa
open Go.RowKit
open Go.ChangeShapes Go.WideShapes Go.ChangeAt Go.Deep

theorem own : ownKnob Try.prog.godebug = none := by kernel_rfl
theorem laidOut : laidOutB Try.prog = true := by kernel_rfl

theorem cells72 : Try.prog.cellsOf 72 = 4 := by kernel_rfl
theorem cells3 : Try.prog.cellsOf 3 = 1 := by kernel_rfl

theorem Adds.frame {w w' : World} (h : Adds w w') (may : MemPlace → Prop) : w.keptBut w' may := by
  refine ⟨h.os, h.output, fun i hi => ?_⟩
  rw [h.block i hi]
  cases hc : w.heap[i]? with
  | none => rfl
  | some o => cases o <;> first | exact ⟨rfl, rfl, rfl, fun _ _ => rfl⟩ | exact Or.inr ⟨rfl, rfl⟩ | rfl

/-- What stays of a call that only adds: the arguments read as they did. -/
theorem post_of_adds {H : Type} {enc : TypeId × Value → H} {P : Program} {f : Func} {s : ChangeSpec} {apart fresh handsOn again : Bool} {W W' : World} {args : Array Value} {v : Value} {ds gs : List (DataW H)} {before pa pv : List MemPlace}
    (hW : DataW.Whole enc P f.params.toList s.vars apart W args.toList ds gs before)
    (hres : ∀ (b : Nat) (sp : Nat → Bool) (hd : Bool), DataW.TrodAll enc P W' b sp hd f.resultTypes.toList (v.resultList f.resultTypes.size) (s.fn H (ds ++ gs)).results [])
    (hargs : ∀ sp : Nat → Bool, (∀ p ∈ before, sp p.block = true) → DataW.TrodAll enc P W' 0 sp true f.params.toList args.toList (s.fn H (ds ++ gs)).args pa)
    (hvars : ∀ sp : Nat → Bool, (∀ p ∈ before, sp p.block = true) → DataW.TrodVars enc P W' sp s.vars (s.fn H (ds ++ gs)).vars pv)
    (hps : before = pa ++ pv) (hb : Adds W W')
    (hok : ∀ (j : Nat) (t : TypeId) (r : Value), f.resultTypes[j]? = some t → (v.resultList f.resultTypes.size)[j]? = some r → Value.okWide P W' .any 0 t r) :
    s.post enc P f apart fresh handsOn again W args v W' := by
  have hlt : ∀ p ∈ before, p.block < W.heap.size := fun p hp => hW.lt p hp
  have hold : ∀ p ∈ before, (fun b => decide (b < W.heap.size)) p.block = true := fun p hp => by simpa using hlt p hp
  refine ⟨ds, gs, before, [], pa, pv, hW, hres _ _ _, hargs _ hold, hvars _ hold, hb.frame _, fun _ => ?_⟩
  obtain ⟨_, _, _, _, _, hz, hn⟩ := hW
  refine ⟨hok, _, _, ([] ++ pa) ++ pv, ⟨[] ++ pa, pv, trodAll_append (hargs _ (fun _ _ => rfl)) (hres _ _ _), hvars _ (fun _ _ => rfl), rfl, ?_, ?_⟩, ?_⟩
  · intro b off hp
    have hp' : MemPlace.cell b off ∈ before := by rw [hps]; simpa using hp
    rw [hb.frozen (hlt _ hp')]
    exact hz b off hp'
  · intro ha
    have := hn ha
    rw [hps] at this
    simpa using this
  · intro p hp _
    rw [hps]
    simpa using hp


/-- An argument that nothing turned reads as it did. -/
theorem arg_stays {H : Type} {enc : TypeId × Value → H} {t : TypeId} (hr : Try.prog.readableRec t = true) (ht : t < Try.prog.types.size) {W W' : World} {v : Value} {d : DataW H} {ps : List MemPlace} (h : DataW.Trod enc Try.prog W 0 (fun _ => true) true t v d ps)
    (hb : Adds W W') (hlt : ∀ x ∈ ps, x.block < W.heap.size) {sp : Nat → Bool} (hs : ∀ x ∈ ps, sp x.block = true) : DataW.Trod enc Try.prog W' 0 sp true t v d ps :=
  WideElems.Trod_stays laidOut hr ht h (fun x hx => Below.same hb (hlt x hx)) hs

set_option maxRecDepth 100000 in
theorem load_cells {H : Type} {enc : TypeId × Value → H} {w : World} {base : Nat} {spare : Nat → Bool} {held : Bool} {n : Nat} {cs : List Value} {x : DataW H × List MemPlace}
    (h : DataW.trod enc Try.prog w base spare held n 72 cs = some x) : ∃ g : Ld, cs[0]? = some (.int .i64 g.1) ∧ cs[1]? = some (.int .i64 g.2.1) ∧ cs[2]? = some (.int .i64 g.2.2.1) ∧ cs[3]? = some (.int .i64 g.2.2.2) := by
  obtain ⟨xs, n, _, hx, hsz, hlen, hg⟩ := DataW.trod_struct Try.underlying72 h
  match xs, hlen with
  | [y0, y1, y2, y3], _ =>
    have g0 := hg 0 _ rfl
    have g1 := hg 1 _ rfl
    have g2 := hg 2 _ rfl
    have g3 := hg 3 _ rfl
    have h4 : cs.length = 4 := by first | exact hsz | (have := hsz; rw [cells72] at this; omega)
    match cs, h4 with
    | [c0, c1, c2, c3], _ =>
      simp [cells3] at g0 g1 g2 g3
      obtain ⟨a, e0, _, _⟩ := DataW.trod_int Try.underlying3 g0
      obtain ⟨b, e1, _, _⟩ := DataW.trod_int Try.underlying3 g1
      obtain ⟨c, e2, _, _⟩ := DataW.trod_int Try.underlying3 g2
      obtain ⟨d, e3, _, _⟩ := DataW.trod_int Try.underlying3 g3
      simp only [List.cons.injEq, and_true] at e0 e1 e2 e3
      subst e0 e1 e2 e3
      exact ⟨(a, b, c, d), rfl, rfl, rfl, rfl⟩

theorem add_plain (b o j : Nat) : (⟨b, o, none⟩ : Addr).add j = ⟨b, o + j, none⟩ := addr_add2 b o j

set_option maxRecDepth 100000 in
/-- A list of loads, opened. -/
theorem open_loads {H : Type} {enc : TypeId × Value → H} {w : World} {r : Reach} {b0 : Nat} {v : Value} {d : DataW H} {p : List MemPlace}
    (hv : Value.okWide Try.prog w r b0 22 v) (h : DataW.Trod enc Try.prog w 0 (fun _ => true) true 22 v d p) :
    ∃ (q : Option Addr) (cap : Nat) (l : List Ld), v = .slice q l.length cap ∧ l.length ≤ cap ∧ cap ≤ maxLen ∧ LoadsAt w q l := by
  obtain ⟨q, len, cap, rfl⟩ := okWide_slice Try.underlying22 hv
  obtain ⟨fuel, hf⟩ := h
  rcases open_slice Try.underlying22 hf with ⟨hcs, _⟩ | ⟨a, len', cap', m, n, D, Pl, hcs, _, hl, hm, hmm, _, hi⟩
  · simp [Value.cells] at hcs
    obtain ⟨rfl, rfl, rfl⟩ := hcs
    exact ⟨none, 0, [], rfl, Nat.le_refl _, by simp [maxLen], fun i x hx => by simp at hx⟩
  · simp [Value.cells] at hcs
    obtain ⟨rfl, rfl, rfl⟩ := hcs
    simp only [if_true] at hmm
    subst hmm
    have key : ∀ i, i < len → ∃ g : Ld, w.cell? ((a.add (i * 4)).add 0) = some (.int .i64 g.1) ∧ w.cell? ((a.add (i * 4)).add 1) = some (.int .i64 g.2.1) ∧ w.cell? ((a.add (i * 4)).add 2) = some (.int .i64 g.2.2.1) ∧ w.cell? ((a.add (i * 4)).add 3) = some (.int .i64 g.2.2.2) := fun i him => by
      obtain ⟨cs', hc, ht⟩ := hi i (by omega)
      rw [cells72] at hc
      obtain ⟨g, h0, h1, h2, h3⟩ := load_cells ht
      obtain ⟨_, hcl, hat⟩ := World.cells?_some hc
      exact ⟨g, by rw [hat 0 (by omega)]; exact h0, by rw [hat 1 (by omega)]; exact h1, by rw [hat 2 (by omega)]; exact h2, by rw [hat 3 (by omega)]; exact h3⟩
    have hl' : ∃ l : List Ld, l.length = len ∧ ∀ i x, l[i]? = some x → w.cell? ((a.add (i * 4)).add 0) = some (.int .i64 x.1) ∧ w.cell? ((a.add (i * 4)).add 1) = some (.int .i64 x.2.1) ∧ w.cell? ((a.add (i * 4)).add 2) = some (.int .i64 x.2.2.1) ∧ w.cell? ((a.add (i * 4)).add 3) = some (.int .i64 x.2.2.2) := by
      refine ⟨(List.range len).map fun i => if h : i < len then Classical.choose (key i h) else (0, 0, 0, 0), by simp, fun i x hx => ?_⟩
      rw [List.getElem?_map] at hx
      obtain ⟨j, hj, rfl⟩ := Option.map_eq_some_iff.1 hx
      have hlt : i < len := by have := (List.getElem?_eq_some_iff.1 hj).1; simpa using this
      have hij : j = i := by have := (List.getElem?_eq_some_iff.1 hj).2; simpa using this.symm
      subst hij
      simp only [dif_pos hlt]
      exact Classical.choose_spec (key j hlt)
    obtain ⟨l, hll, hlc⟩ := hl'
    refine ⟨some a, _, l, by rw [hll], by omega, hm, fun i x hx => ?_⟩
    obtain ⟨h0, h1, h2, h3⟩ := hlc i x hx
    obtain ⟨b, off, spot⟩ := a
    have hspot : spot = none := by
      obtain ⟨y, hy⟩ : ∃ y, l[0]? = some y := ⟨_, List.getElem?_eq_getElem (by have := (List.getElem?_eq_some_iff.1 hx).1; omega)⟩
      simpa [Addr.add] using World.cell?_spot (hlc 0 y hy).1
    subst hspot
    rw [add_plain, add_plain] at h0 h1 h2 h3
    exact ⟨b, off, rfl, h0, h1, h2, h3⟩

end Go.Proofs.Ytkofnhimgegcnaa
