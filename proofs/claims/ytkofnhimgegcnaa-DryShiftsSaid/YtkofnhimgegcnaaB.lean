/- The network in memory. -/
import Derived.Test.YtkofnhimgegcnaaA
import Derived.Test.YtkofnhimgegcnaaMC
namespace Go.Proofs.Ytkofnhimgegcnaa
open Go.RowKit

/-- The ways that leave each node: nothing of that lies in a block of X. -/
def OutAt (w : World) (go : Nat) (X : Nat → Prop) (E : List Edge) (N : Nat) : Prop :=
  ¬ X go ∧ ∀ v, v < N → ∃ pv cv, w.cell? ⟨go, v, none⟩ = some (.slice pv (outE E v).length cv) ∧
    ∀ p x : Nat, (outE E v)[p]? = some x → ∃ g', pv = some ⟨g', 0, none⟩ ∧ ¬ X g' ∧ w.cell? ⟨g', p, none⟩ = some (.int .i64 x)

/-- The ways: where each leads, and its room. -/
def WaysAt (w : World) (pw : Option Addr) (gw : Nat) (E : List Edge) (f : Nat → Int) : Prop :=
  0 < E.length → pw = some ⟨gw, 0, none⟩ ∧ ∃ cur : Array Value, w.heap[gw]? = some (.cells cur 125 (0, 0)) ∧
    ∀ i, i < 2 * E.length → cur[2 * i]? = some (.int .i64 (headE E i)) ∧ cur[2 * i + 1]? = some (.int .i64 (roomE E f i))

theorem OutAt.touch {w w' : World} {go : Nat} {O X : Nat → Prop} {E : List Edge} {N : Nat} (h : OutAt w go X E N) (ht : Touch O w w') (hO : ∀ k, k < w.heap.size → O k → X k) : OutAt w' go X E N := by
  obtain ⟨h0, h1⟩ := h
  have keep : ∀ {b o : Nat} {u : Value}, ¬ X b → w.cell? ⟨b, o, none⟩ = some u → w'.cell? ⟨b, o, none⟩ = some u := fun {b o u} hb hc =>
    touch_cell ht (fun ho => hb (hO _ (cell_lt hc) ho)) hc
  refine ⟨h0, fun v hv => ?_⟩
  obtain ⟨pv, cv, h2, h3⟩ := h1 v hv
  refine ⟨pv, cv, keep h0 h2, fun p x hx => ?_⟩
  obtain ⟨g', h4, h5, h6⟩ := h3 p x hx
  exact ⟨g', h4, h5, keep h5 h6⟩

theorem OutAt.widen {w : World} {go : Nat} {X Y : Nat → Prop} {E : List Edge} {N : Nat} (h : OutAt w go X E N) (hY : ∀ k, k < w.heap.size → Y k → X k) : OutAt w go (fun k => k < w.heap.size ∧ X k ∨ k < w.heap.size ∧ Y k) E N := by
  obtain ⟨h0, h1⟩ := h
  refine ⟨fun h => h.elim (fun a => h0 a.2) (fun a => h0 (hY _ a.1 a.2)), fun v hv => ?_⟩
  obtain ⟨pv, cv, h2, h3⟩ := h1 v hv
  refine ⟨pv, cv, h2, fun p x hx => ?_⟩
  obtain ⟨g', h4, h5, h6⟩ := h3 p x hx
  exact ⟨g', h4, fun h => h.elim (fun a => h5 a.2) (fun a => h5 (hY _ a.1 a.2)), h6⟩

section
variable {w w' : World} {pw : Option Addr} {gw : Nat} {E : List Edge} {f : Nat → Int}
theorem WaysAt.lt (h : WaysAt w pw gw E f) (hE : 0 < E.length) : gw < w.heap.size := by
  obtain ⟨_, cur, hg, _⟩ := h hE
  exact (Array.getElem?_eq_some_iff.1 hg).1
theorem WaysAt.ptr (h : WaysAt w pw gw E f) {i : Nat} (hi : i < 2 * E.length) : pw = some ⟨gw, 0, none⟩ := (h (by omega)).1
theorem WaysAt.to (h : WaysAt w pw gw E f) {i : Nat} (hi : i < 2 * E.length) : w.cell? ⟨gw, i * 2, none⟩ = some (.int .i64 (headE E i)) := by
  obtain ⟨_, cur, hg, hc⟩ := h (by omega)
  rw [Nat.mul_comm i 2]
  simp [World.cell?, hg, (hc i hi).1]
theorem WaysAt.room (h : WaysAt w pw gw E f) {i : Nat} (hi : i < 2 * E.length) : w.cell? ⟨gw, i * 2 + 1, none⟩ = some (.int .i64 (roomE E f i)) := by
  obtain ⟨_, cur, hg, hc⟩ := h (by omega)
  rw [Nat.mul_comm i 2]
  simp [World.cell?, hg, (hc i hi).2]
theorem WaysAt.set (h : WaysAt w pw gw E f) {p : Addr} (hp : gw ≠ p.block) (u : Value) : WaysAt (w.setCell p u) pw gw E f := fun hE => by
  obtain ⟨hq, cur, hg, r⟩ := h hE
  exact ⟨hq, cur, (Below.heap_setCell w p u gw hp).trans hg, r⟩
theorem WaysAt.free (h : WaysAt w pw gw E f) (hE : 0 < E.length) (o : Nat) : w.frozen? ⟨gw, o, none⟩ = false := by
  obtain ⟨_, cur, hg, _⟩ := h hE
  simp [World.frozen?, hg]
theorem WaysAt.same (h : WaysAt w pw gw E f) (e : 0 < E.length → w'.heap[gw]? = w.heap[gw]?) : WaysAt w' pw gw E f := fun hE => by
  obtain ⟨hp, cur, hg, r⟩ := h hE
  exact ⟨hp, cur, (e hE).trans hg, r⟩

/-- The other way of a pair. -/
def mate (i : Nat) : Nat := if i % 2 = 0 then i + 1 else i - 1

theorem mate_div (i : Nat) : mate i / 2 = i / 2 := by unfold mate; split <;> omega
theorem mate_mod (i : Nat) : mate i % 2 ≠ i % 2 := by unfold mate; split <;> omega
theorem mate_lt {i m : Nat} (h : i < 2 * m) : mate i < 2 * m := by unfold mate; split <;> omega
theorem mate_eq {i j : Nat} (h : j / 2 = i / 2) : j = i ∨ j = mate i := by unfold mate; split <;> omega
theorem mate_xor (i : Nat) : i ^^^ 1 = mate i := by
  unfold mate
  have h1 : (i ^^^ 1) / 2 = i / 2 := by
    have := Nat.shiftRight_xor_distrib (a := i) (b := 1) (i := 1)
    simpa [Nat.shiftRight_eq_div_pow] using this
  have h2 : (i ^^^ 1) % 2 = (i % 2) ^^^ 1 := by
    have := Nat.xor_mod_two_pow (a := i) (b := 1) (n := 1)
    simpa using this
  rcases Nat.mod_two_eq_zero_or_one i with e | e
  · rw [e] at h2
    have h3 : (i ^^^ 1) % 2 = 1 := h2
    rw [if_pos e]; omega
  · rw [e] at h2
    have h3 : (i ^^^ 1) % 2 = 0 := h2
    rw [if_neg (by omega)]; omega

theorem bits_mate (i : Nat) (h : i < 4611686018427387904) : bits BinOp.xor IntKind.i64 (i : Int) 1 = (mate i : Int) := by
  have hm : mate i < 4611686018427387904 + 1 := by unfold mate; split <;> omega
  have e1 : (BitVec.ofInt 64 (i : Int)).toNat = i := by rw [BitVec.toNat_ofInt]; omega
  have e2 : (BitVec.ofInt 64 (1 : Int)).toNat = 1 := by decide
  have e3 : (BitVec.ofInt 64 (i : Int) ^^^ BitVec.ofInt 64 1).toNat = mate i := by rw [BitVec.toNat_xor, e1, e2, mate_xor]
  unfold bits
  change IntKind.i64.wrap ((BitVec.ofInt 64 (i : Int) ^^^ BitVec.ofInt 64 1).toNat : Int) = _
  rw [e3]
  rw [IntKind.wrap_i64]; omega

theorem WaysAt.push (h : WaysAt w pw gw E f) {i : Nat} (hi : i < 2 * E.length) (x : Int) :
    WaysAt ((w.setCell ⟨gw, i * 2 + 1, none⟩ (.int .i64 (roomE E f i - x))).setCell ⟨gw, mate i * 2 + 1, none⟩ (.int .i64 (roomE E f (mate i) + x))) pw gw E (pushF f i x) := fun hE => by
  rw [Nat.mul_comm i 2, Nat.mul_comm (mate i) 2]
  obtain ⟨hp, cur, hg, hc⟩ := h hE
  have h1 := Box.set (t := 125) hg (2 * i + 1) (.int .i64 (roomE E f i - x))
  have h2 := Box.set h1 (2 * mate i + 1) (.int .i64 (roomE E f (mate i) + x))
  refine ⟨hp, _, h2, fun j hj => ?_⟩
  obtain ⟨c1, c2⟩ := hc j hj
  have m1 := mate_mod i
  have m2 := mate_div i
  have hlt := (Array.getElem?_eq_some_iff.1 c2).1
  refine ⟨?_, ?_⟩
  · rw [Array.getElem?_setIfInBounds, if_neg (by omega), Array.getElem?_setIfInBounds, if_neg (by omega)]; exact c1
  · rw [room_push]
    by_cases e : j / 2 = i / 2
    · rw [if_pos e]
      rcases mate_eq e with rfl | rfl
      · rw [if_pos rfl, Array.getElem?_setIfInBounds, if_neg (by omega), Array.getElem?_setIfInBounds, if_pos rfl, if_pos hlt]
      · rw [if_neg m1, Array.getElem?_setIfInBounds, if_pos rfl, if_pos (by simpa using hlt)]
    · rw [if_neg e, Array.getElem?_setIfInBounds, if_neg (by omega), Array.getElem?_setIfInBounds, if_neg (by omega)]; exact c2
end

end Go.Proofs.Ytkofnhimgegcnaa
