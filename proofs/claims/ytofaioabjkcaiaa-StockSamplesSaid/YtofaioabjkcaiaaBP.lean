/- differences; spans joined; a row of spans. -/
import Derived.Test.YtofaioabjkcaiaaBO
import Derived.Test.YtofaioabjkcaiaaAC
namespace Go.Proofs.Ytofaioabjkcaiaa
open Go.RowKit

/-- What differences returns. -/
def DiffOf (w : World) (b b' : Nat) (e : Ending) (w' : World) : Prop :=
  ∃ nb ob, e = .returned (.func (.func 102) #[] #[.pointer (some ⟨nb, 0, none⟩), .pointer (some ⟨ob, 0, none⟩)]) ∧ w'.cell? ⟨nb, 0, none⟩ = some (.pointer (some ⟨b, 0, none⟩)) ∧ w'.cell? ⟨ob, 0, none⟩ = some (.pointer (some ⟨b', 0, none⟩)) ∧ w.heap.size ≤ nb ∧ w.heap.size ≤ ob ∧ Adds w w'

set_option maxHeartbeats 400000 in
theorem diffs_any (b b' : Nat) (w : World) :
    Calls Try.prog 70 #[.pointer (some ⟨b, 0, none⟩), .pointer (some ⟨b', 0, none⟩)] w (DiffOf w b b') := by
  go_enter Try.func70, Try.ntmps70
  go_wp2
  go_ret
  exact ⟨w.heap.size, w.heap.size + 1, rfl, by go_simp, by go_simp, by omega, by omega, ((Adds.refl w).alloc _).alloc _⟩

/-- The cells of a span. -/
def spanCells (x : Int × Int) : List Value := [.int .i64 x.1, .int .i64 (x.2 - x.1 + 1)]
/-- Pieces joined so far. -/
def accT (pre : List (Int × Int)) : List (Int × Int) := pre.foldl joinAdd []

theorem accT_nil : accT [] = [] := rfl
theorem accT_snoc (pre : List (Int × Int)) (x : Int × Int) : accT (pre ++ [x]) = joinAdd (accT pre) x := by simp [accT, List.foldl_append]

/-- Spans within the pockets. -/
def SpanOk (x : Int × Int) : Prop := 1 ≤ x.1 ∧ x.1 ≤ x.2 ∧ x.2 ≤ 1000000

theorem joinAdd_last {acc : List (Int × Int)} {y x : Int × Int} (h : acc.getLast? = some y) : joinAdd acc x = if y.2 + 1 = x.1 then acc.dropLast ++ [(y.1, x.2)] else acc ++ [x] := by
  unfold joinAdd
  rw [h]
theorem joinAdd_none {acc : List (Int × Int)} {x : Int × Int} (h : acc = []) : joinAdd acc x = [x] := by
  subst h
  rfl
theorem joinAdd_len (acc : List (Int × Int)) (x : Int × Int) : (joinAdd acc x).length ≤ acc.length + 1 := by
  cases h : acc.getLast? with
  | none => rw [joinAdd_none (List.getLast?_eq_none_iff.1 h)]; simp
  | some y =>
    rw [joinAdd_last h]
    split
    · simp only [List.length_append, List.length_dropLast, List.length_singleton]; omega
    · simp
theorem joinAdd_ok {acc : List (Int × Int)} {x : Int × Int} (h : ∀ y ∈ acc, SpanOk y) (hx : SpanOk x) : ∀ y ∈ joinAdd acc x, SpanOk y := by
  cases hl : acc.getLast? with
  | none => rw [joinAdd_none (List.getLast?_eq_none_iff.1 hl)]; intro y hy; rw [List.mem_singleton] at hy; subst hy; exact hx
  | some z =>
    rw [joinAdd_last hl]
    have hz := h z (List.mem_of_getLast? hl)
    split
    · intro y hy
      rcases List.mem_append.1 hy with hy | hy
      · exact h y ((List.dropLast_sublist acc).subset hy)
      · rw [List.mem_singleton] at hy
        subst hy
        unfold SpanOk at *
        simp only
        omega
    · intro y hy
      rcases List.mem_append.1 hy with hy | hy
      · exact h y hy
      · rw [List.mem_singleton] at hy; subst hy; exact hx
theorem accT_fold : ∀ (pre : List (Int × Int)) (acc : List (Int × Int)), (∀ y ∈ acc, SpanOk y) → (∀ y ∈ pre, SpanOk y) → (∀ y ∈ pre.foldl joinAdd acc, SpanOk y) ∧ (pre.foldl joinAdd acc).length ≤ acc.length + pre.length
  | [], acc, h, _ => ⟨h, by simp⟩
  | x :: pre, acc, h, hp => by
    have h1 := joinAdd_ok h (hp x (by simp))
    obtain ⟨h2, h3⟩ := accT_fold pre (joinAdd acc x) h1 (fun y hy => hp y (by simp [hy]))
    refine ⟨h2, ?_⟩
    have := joinAdd_len acc x
    simp only [List.foldl_cons, List.length_cons]
    omega
theorem accT_ok {pre : List (Int × Int)} (h : ∀ y ∈ pre, SpanOk y) : (∀ y ∈ accT pre, SpanOk y) ∧ (accT pre).length ≤ pre.length := by
  obtain ⟨h1, h2⟩ := accT_fold pre [] (fun y hy => by simp at hy) h
  exact ⟨h1, by unfold accT; simpa using h2⟩

theorem DCover.all {f g : Int → Pk} : ∀ {l : List (Int × Int)} {a c : Int}, DCover f g a c l → (l.length : Int) ≤ max 0 (c + 1 - a) ∧ ∀ x ∈ l, a ≤ x.1 ∧ x.1 ≤ x.2 ∧ x.2 ≤ c
  | [], a, c, _ => ⟨by simp; omega, fun x hx => by simp at hx⟩
  | y :: l, a, c, ⟨h1, h2, h3, _, _, h6⟩ => by
    obtain ⟨i1, i2⟩ := h6.all
    refine ⟨by simp only [List.length_cons]; omega, fun x hx => ?_⟩
    rcases List.mem_cons.1 hx with rfl | hx
    · exact ⟨h1, h2, h3⟩
    · have := i2 x hx
      omega

theorem diff_ok {t t' : Tree} (h : t.ok 1 1000000) (h' : t'.ok 1 1000000) : (diffT 1000000 t t').length ≤ 1000000 ∧ ∀ x ∈ diffT 1000000 t t', SpanOk x := by
  obtain ⟨h1, h2⟩ := (diff_cover 1000000 h h' (by omega)).all
  refine ⟨by omega, fun x hx => ?_⟩
  have := h2 x hx
  exact ⟨by omega, by omega, by omega⟩

theorem flat_len (l : List (Int × Int)) : (l.flatMap spanCells).length = 2 * l.length := by
  induction l with
  | nil => rfl
  | cons x l ih => simp only [List.flatMap_cons, List.length_append, List.length_cons, ih, spanCells, List.length_nil]; omega
theorem flat_last (l : List (Int × Int)) (y : Int × Int) : ((l ++ [y]).flatMap spanCells)[2 * l.length]? = some (.int .i64 y.1) ∧ ((l ++ [y]).flatMap spanCells)[2 * l.length + 1]? = some (.int .i64 (y.2 - y.1 + 1)) := by
  rw [List.flatMap_append]
  constructor
  · rw [List.getElem?_append_right (by rw [flat_len]; omega), flat_len, Nat.sub_self]
    rfl
  · rw [List.getElem?_append_right (by rw [flat_len]; omega), flat_len, show 2 * l.length + 1 - 2 * l.length = 1 by omega]
    rfl
theorem flat_set (l : List (Int × Int)) (y : Int × Int) (c : Int) : ((l ++ [y]).flatMap spanCells).set (2 * l.length + 1) (.int .i64 (c - y.1 + 1)) = (l ++ [(y.1, c)]).flatMap spanCells := by
  rw [List.flatMap_append, List.flatMap_append, List.set_append_right _ _ (by rw [flat_len]; omega), flat_len, show 2 * l.length + 1 - 2 * l.length = 1 by omega]
  rfl

/-- A cell of an own row turned. -/
theorem owns_put {w : World} {base : Nat} {t : TypeId} {size g n cap j : Nat} {xs : List Value} {u : Value} (h : w.ownsRow base t size (.slice (some ⟨g, 0, none⟩) n cap) n xs) :
    (w.setCell ⟨g, j, none⟩ u).ownsRow base t size (.slice (some ⟨g, 0, none⟩) n cap) n (xs.set j u) := by
  obtain ⟨h1, h2⟩ := h
  refine ⟨by simpa using h1, ?_⟩
  rcases h2 with ⟨h2, _⟩ | ⟨g', cap', cur, hv, hg, hh, hn, hcap, hs, ht⟩
  · cases h2
  · simp only [Value.slice.injEq, Option.some.injEq, Addr.mk.injEq, and_true, true_and] at hv
    obtain ⟨rfl, rfl⟩ := hv
    refine Or.inr ⟨g, cap, cur.setIfInBounds j u, rfl, hg, Box.set (t := t) hh j u, hn, hcap, by simpa using hs, ?_⟩
    rw [Array.toList_setIfInBounds, List.take_set, ht]

end Go.Proofs.Ytofaioabjkcaiaa
