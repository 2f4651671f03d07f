/- The row of StockVoid: its opened argument and its frame. -/
import Derived.Test.YtofaioabjkcaiaaA
import Derived.ProofKit
import Derived.OpenShut
namespace Go.Proofs.Ytofaioabjkcaiaa
open Go.ChangeShapes Go.WideShapes Go.ChangeAt Go.RowKit

theorem own : ownKnob Try.prog.godebug = none := by kernel_rfl
theorem laidOut : laidOutB Try.prog = true := by kernel_rfl

theorem cells34 : Try.prog.cellsOf 34 = 6 := by kernel_rfl
theorem cells3 : Try.prog.cellsOf 3 = 1 := by kernel_rfl
theorem cells32 : Try.prog.cellsOf 32 = 2 := by kernel_rfl

set_option maxRecDepth 100000 in
/-- An Act by value, opened. -/
theorem open_act {H : Type} {enc : TypeId × Value → H} {w : World} {base : Nat} {spare : Nat → Bool} {held : Bool} {r : Reach} {b0 : Nat} {v : Value} {d : DataW H} {p : List MemPlace}
    (hv : Value.okWide Try.prog w r b0 34 v) (h : DataW.Trod enc Try.prog w base spare held 34 v d p) :
    ∃ k a n l b c : Int, v = .agg #[.int .i64 k, .int .i64 a, .int .i64 n, .int .i64 l, .int .i64 b, .int .i64 c] ∧ p = [] ∧
      d = .agg [.lit (.int .i64 k), .agg [.lit (.int .i64 a), .lit (.int .i64 n)], .lit (.int .i64 l), .lit (.int .i64 b), .lit (.int .i64 c)] ∧
      (Lit.int .i64 k).wf = true ∧ (Lit.int .i64 a).wf = true ∧ (Lit.int .i64 n).wf = true ∧ (Lit.int .i64 l).wf = true ∧ (Lit.int .i64 b).wf = true ∧ (Lit.int .i64 c).wf = true := by
  have hs := Try.underlying34
  obtain ⟨cs, rfl, hsz⟩ := okWide_struct hs hv
  obtain ⟨l⟩ := cs
  match l, hsz.trans cells34 with
  | [c0, c1, c2, c3, c4, c5], _ =>
    obtain ⟨fuel, hf⟩ := h
    obtain ⟨xs, n, _, hx, _, hlen, hg⟩ := DataW.trod_struct hs hf
    match xs, hlen with
    | [y0, y1, y2, y3, y4], _ =>
      have g0 := hg 0 _ rfl
      have g1 := hg 1 _ rfl
      have g2 := hg 2 _ rfl
      have g3 := hg 3 _ rfl
      have g4 := hg 4 _ rfl
      simp [cells3, cells32, Value.cells] at g0 g1 g2 g3 g4
      obtain ⟨k, e0, rfl, wk⟩ := DataW.trod_int Try.underlying3 g0
      obtain ⟨lo, e3, rfl, wl⟩ := DataW.trod_int Try.underlying3 g2
      obtain ⟨b, e4, rfl, wb⟩ := DataW.trod_int Try.underlying3 g3
      obtain ⟨c, e5, rfl, wc⟩ := DataW.trod_int Try.underlying3 g4
      obtain ⟨zs, m, _, hz, _, hzl, hgz⟩ := DataW.trod_struct Try.underlying32 g1
      match zs, hzl with
      | [z0, z1], _ =>
        have q0 := hgz 0 _ rfl
        have q1 := hgz 1 _ rfl
        simp [cells3] at q0 q1
        obtain ⟨a, e1, rfl, wa⟩ := DataW.trod_int Try.underlying3 q0
        obtain ⟨cn, e2, rfl, wn⟩ := DataW.trod_int Try.underlying3 q1
        simp only [List.cons.injEq, and_true] at e0 e1 e2 e3 e4 e5
        subst e0 e1 e2 e3 e4 e5
        simp only [Prod.mk.injEq] at hx
        subst hz
        refine ⟨k, a, cn, lo, b, c, rfl, by rw [hx.2]; rfl, by rw [hx.1]; rfl, wk, wa, wn, wl, wb, wc⟩

theorem shut_act {H : Type} {enc : TypeId × Value → H} {w : World} {base : Nat} {spare : Nat → Bool} {held : Bool} {k a n l b c : Int}
    (wk : (Lit.int .i64 k).wf = true) (wa : (Lit.int .i64 a).wf = true) (wn : (Lit.int .i64 n).wf = true) (wl : (Lit.int .i64 l).wf = true) (wb : (Lit.int .i64 b).wf = true) (wc : (Lit.int .i64 c).wf = true) :
    DataW.Trod enc Try.prog w base spare held 34 (.agg #[.int .i64 k, .int .i64 a, .int .i64 n, .int .i64 l, .int .i64 b, .int .i64 c])
      (.agg [.lit (.int .i64 k), .agg [.lit (.int .i64 a), .lit (.int .i64 n)], .lit (.int .i64 l), .lit (.int .i64 b), .lit (.int .i64 c)]) [] :=
  ⟨3, by simp [DataW.trod, Try.underlying34, Try.underlying32, Try.underlying3, cells34, cells32, cells3, Value.cells, wk, wa, wn, wl, wb, wc]⟩

theorem Adds.frame {w w' : World} (h : Adds w w') (may : MemPlace → Prop) : w.keptBut w' may := by
  refine ⟨h.os, h.output, fun i hi => ?_⟩
  rw [h.block i hi]
  cases hc : w.heap[i]? with
  | none => rfl
  | some o => cases o <;> first | exact ⟨rfl, rfl, rfl, fun _ _ => rfl⟩ | exact Or.inr ⟨rfl, rfl⟩ | rfl

/-- What stays of a call that only adds: the arguments read as they did. -/
theorem post_of_adds {H : Type} {enc : TypeId × Value → H} {P : Program} {f : Func} {s : ChangeSpec} {apart fresh handsOn again : Bool} {W W' : World} {args : Array Value} {v : Value} {ds gs : List (DataW H)} {before pa pv : List MemPlace}
    (hW : DataW.Whole enc P f.params.toList s.vars apart W args.toList ds gs before)
    (hres : ∀ (b : Nat) (sp : Nat → Bool) (hd : Bool), DataW.TrodAll enc P W' b sp hd f.resultTypes.toList (v.resultList f.resultTypes.size) (s.fn H (ds ++ gs)).results [])
    (hargs : ∀ sp : Nat → Bool, (∀ p ∈ before, sp p.block = true) → DataW.TrodAll enc P W' 0 sp true f.params.toList args.toList (s.fn H (ds ++ gs)).args pa)
    (hvars : ∀ sp : Nat → Bool, (∀ p ∈ before, sp p.block = true) → DataW.TrodVars enc P W' sp s.vars (s.fn H (ds ++ gs)).vars pv)
    (hps : before = pa ++ pv) (hb : Adds W W')
    (hok : ∀ (j : Nat) (t : TypeId) (r : Value), f.resultTypes[j]? = some t → (v.resultList f.resultTypes.size)[j]? = some r → Value.okWide P W' .any 0 t r) :
    s.post enc P f apart fresh handsOn again W args v W' := by
  have hlt : ∀ p ∈ before, p.block < W.heap.size := fun p hp => hW.lt p hp
  have hold : ∀ p ∈ before, (fun b => decide (b < W.heap.size)) p.block = true := fun p hp => by simpa using hlt p hp
  refine ⟨ds, gs, before, [], pa, pv, hW, hres _ _ _, hargs _ hold, hvars _ hold, hb.frame _, fun _ => ?_⟩
  obtain ⟨_, _, _, _, _, hz, hn⟩ := hW
  refine ⟨hok, _, _, ([] ++ pa) ++ pv, ⟨[] ++ pa, pv, trodAll_append (hargs _ (fun _ _ => rfl)) (hres _ _ _), hvars _ (fun _ _ => rfl), rfl, ?_, ?_⟩, ?_⟩
  · intro b off hp
    have hp' : MemPlace.cell b off ∈ before := by rw [hps]; simpa using hp
    rw [hb.frozen (hlt _ hp')]
    exact hz b off hp'
  · intro ha
    have := hn ha
    rw [hps] at this
    simpa using this
  · intro p hp _
    rw [hps]
    simpa using hp

end Go.Proofs.Ytofaioabjkcaiaa
