/- A list of calls as an argument: opened to its cells; what it reads as afterwards. -/
import Derived.Test.YtofaioabjkcaiaaA
import Derived.Test.YtofaioabjkcaiaaAK
import Derived.Deep.Slices
import Derived.Carry
import Derived.WideKeyArgs
namespace Go.Proofs.Ytofaioabjkcaiaa
open Go.RowKit
open Go.ChangeShapes Go.WideShapes Go.ChangeAt Go.Deep

/-- Acts in memory: N of them, f i j is the number j of act i. -/
def ActsAt (w : World) (p : Option Addr) (N : Nat) (f : Nat → Nat → Int) : Prop :=
  ∀ i, i < N → ∃ g off, p = some ⟨g, off, none⟩ ∧ ∀ j, j < 6 → w.cell? ⟨g, off + i * 6 + j, none⟩ = some (.int .i64 (f i j))

set_option maxRecDepth 100000 in
theorem act_cells {H : Type} {enc : TypeId × Value → H} {w : World} {base : Nat} {spare : Nat → Bool} {held : Bool} {n : Nat} {cs : List Value} {x : DataW H × List MemPlace}
    (h : DataW.trod enc Try.prog w base spare held n 34 cs = some x) : ∃ g : Nat → Int, ∀ j, j < 6 → cs[j]? = some (.int .i64 (g j)) := by
  have hs := Try.underlying34
  obtain ⟨xs, n, _, hx, hsz, hlen, hg⟩ := DataW.trod_struct hs h
  match xs, hlen with
  | [y0, y1, y2, y3, y4], _ =>
    have g0 := hg 0 _ rfl
    have g1 := hg 1 _ rfl
    have g2 := hg 2 _ rfl
    have g3 := hg 3 _ rfl
    have g4 := hg 4 _ rfl
    have h6 : cs.length = 6 := by first | exact hsz | (have := hsz; rw [cells34] at this; omega)
    match cs, h6 with
    | [c0, c1, c2, c3, c4, c5], _ =>
      simp [cells3, cells32] at g0 g1 g2 g3 g4
      obtain ⟨k, e0, _, _⟩ := DataW.trod_int Try.underlying3 g0
      obtain ⟨lo, e3, _, _⟩ := DataW.trod_int Try.underlying3 g2
      obtain ⟨b, e4, _, _⟩ := DataW.trod_int Try.underlying3 g3
      obtain ⟨c, e5, _, _⟩ := DataW.trod_int Try.underlying3 g4
      obtain ⟨zs, m, _, hz, _, hzl, hgz⟩ := DataW.trod_struct Try.underlying32 g1
      match zs, hzl with
      | [z0, z1], _ =>
        have q0 := hgz 0 _ rfl
        have q1 := hgz 1 _ rfl
        simp [cells3] at q0 q1
        obtain ⟨a, e1, _, _⟩ := DataW.trod_int Try.underlying3 q0
        obtain ⟨cn, e2, _, _⟩ := DataW.trod_int Try.underlying3 q1
        simp only [List.cons.injEq, and_true] at e0 e1 e2 e3 e4 e5
        subst e0 e1 e2 e3 e4 e5
        refine ⟨fun j => if j = 0 then k else if j = 1 then a else if j = 2 then cn else if j = 3 then lo else if j = 4 then b else c, fun j hj => ?_⟩
        match j, hj with
        | 0, _ => rfl
        | 1, _ => rfl
        | 2, _ => rfl
        | 3, _ => rfl
        | 4, _ => rfl
        | 5, _ => rfl

set_option maxRecDepth 100000 in
/-- A list of acts, opened. -/
theorem open_acts {H : Type} {enc : TypeId × Value → H} {w : World} {r : Reach} {b0 : Nat} {v : Value} {d : DataW H} {p : List MemPlace}
    (hv : Value.okWide Try.prog w r b0 22 v) (h : DataW.Trod enc Try.prog w 0 (fun _ => true) true 22 v d p) :
    ∃ (q : Option Addr) (N cap : Nat) (f : Nat → Nat → Int), v = .slice q N cap ∧ N ≤ maxLen ∧ ActsAt w q N f := by
  obtain ⟨q, len, cap, rfl⟩ := okWide_slice Try.underlying22 hv
  obtain ⟨fuel, hf⟩ := h
  rcases open_slice Try.underlying22 hf with ⟨hcs, _⟩ | ⟨a, len', cap', m, n, D, Pl, hcs, _, hl, hm, hmm, _, hi⟩
  · simp [Value.cells] at hcs
    obtain ⟨rfl, rfl, rfl⟩ := hcs
    exact ⟨none, 0, 0, fun _ _ => 0, rfl, by simp [maxLen], fun i hi => absurd hi (Nat.not_lt_zero i)⟩
  · simp [Value.cells] at hcs
    obtain ⟨rfl, rfl, rfl⟩ := hcs
    simp only [if_true] at hmm
    subst hmm
    have key : ∀ i, i < len → ∃ g : Nat → Int, ∀ j, j < 6 → w.cell? ((a.add (i * 6)).add j) = some (.int .i64 (g j)) := fun i him => by
      obtain ⟨cs', hc, ht⟩ := hi i (by omega)
      rw [cells34] at hc
      obtain ⟨g, hg⟩ := act_cells ht
      obtain ⟨_, hcl, hat⟩ := World.cells?_some hc
      exact ⟨g, fun j hj => by rw [hat j hj]; exact hg j hj⟩
    by_cases h0 : len = 0
    · exact ⟨some a, len, _, fun _ _ => 0, rfl, by omega, fun i hi => absurd hi (by omega)⟩
    · obtain ⟨b, off, spot⟩ := a
      obtain ⟨g0, hg0⟩ := key 0 (by omega)
      have hspot : spot = none := by simpa [Addr.add] using World.cell?_spot (hg0 0 (by omega))
      subst hspot
      refine ⟨some ⟨b, off, none⟩, len, _, fun i j => if h : i < len then (Classical.choose (key i h)) j else 0, rfl, by omega, fun i hi => ⟨b, off, rfl, fun j hj => ?_⟩⟩
      simp only [dif_pos hi]
      have := Classical.choose_spec (key i hi) j hj
      rw [← this, add_plain, add_plain]

/-- An argument that nothing turned reads as it did. -/
theorem arg_stays {H : Type} {enc : TypeId × Value → H} {t : TypeId} (hr : Try.prog.readableRec t = true) (ht : t < Try.prog.types.size) {W W' : World} {v : Value} {d : DataW H} {ps : List MemPlace} (h : DataW.Trod enc Try.prog W 0 (fun _ => true) true t v d ps)
    (hb : Adds W W') (hlt : ∀ x ∈ ps, x.block < W.heap.size) {sp : Nat → Bool} (hs : ∀ x ∈ ps, sp x.block = true) : DataW.Trod enc Try.prog W' 0 sp true t v d ps :=
  WideElems.Trod_stays laidOut hr ht h (fun x hx => Below.same hb (hlt x hx)) hs

end Go.Proofs.Ytofaioabjkcaiaa
