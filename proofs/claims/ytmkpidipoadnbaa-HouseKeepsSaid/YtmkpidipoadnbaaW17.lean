/- A house in memory: HouseAt; its accounts read and written. -/
import Derived.Test.YtmkpidipoadnbaaW16
namespace Go.Proofs.Ytmkpidipoadnbaa
open Go Go.RowKit Go.Sort

set_option maxRecDepth 100000 in
set_option maxHeartbeats 4000000 in
theorem book_any (ga o m : Nat) (p q c g : Int) (w : World) (hm : m < 12) (hp : w.cell? ⟨ga, o + 2 + m, none⟩ = some (.int .i64 p)) (hpf : w.frozen? ⟨ga, o + 2 + m, none⟩ = false) (hc : w.cell? ⟨ga, o, none⟩ = some (.int .i64 c)) (hcf : w.frozen? ⟨ga, o, none⟩ = false)
    (hp1 : -9223372036854775808 ≤ p + q) (hp2 : p + q ≤ 9223372036854775807) (hc1 : -9223372036854775808 ≤ c + g) (hc2 : c + g ≤ 9223372036854775807) :
    Calls Try.prog 25 #[.pointer (some ⟨ga, o, none⟩), .int .i64 m, .int .i64 q, .int .i64 g] w fun e w' => e = .returned (.tuple #[]) ∧ w' = ((w.setCell ⟨ga, o + 2 + m, none⟩ (.int .i64 (p + q))).drew).setCell ⟨ga, o, none⟩ (.int .i64 (c + g)) := by
  have hm0 : (0 : Int) ≤ (m : Int) := by omega
  have hm1 : (m : Int) < 12 := by omega
  go_enter Try.func25, Try.ntmps25
  go_upto_region 0 with fail
  go_region
  have d0 : ((w.setCell ⟨ga, o + 2 + m, none⟩ (.int .i64 (p + q))).drew).cell? ⟨ga, o, none⟩ = some (.int .i64 c) := by
    show (w.setCell ⟨ga, o + 2 + m, none⟩ (.int .i64 (p + q))).cell? ⟨ga, o, none⟩ = some (.int .i64 c)
    exact (World.cell?_setCell_other _ _ _ _ (by intro h; simp only [Addr.mk.injEq] at h; omega)).trans hc
  have d1 : ((w.setCell ⟨ga, o + 2 + m, none⟩ (.int .i64 (p + q))).drew).frozen? ⟨ga, o, none⟩ = false := by
    show (w.setCell ⟨ga, o + 2 + m, none⟩ (.int .i64 (p + q))).frozen? ⟨ga, o, none⟩ = false
    rw [World.frozen?_setCell]
    exact hcf
  obtain ⟨V, hV⟩ : ∃ V, V = (w.setCell ⟨ga, o + 2 + m, none⟩ (.int .i64 (p + q))).drew := ⟨_, rfl⟩
  rw [← hV] at d0 d1 ⊢
  have HV := Lib.hid hV
  clear hV hp hpf hc hcf
  go_wp2
  refine bodyPost_end (results_none rfl _ _ _) rfl ?_
  exact ⟨rfl, by rw [HV.out]⟩

end Go.Proofs.Ytmkpidipoadnbaa

namespace Go.Proofs.Ytmkpidipoadnbaa
open Go Go.RowKit Go.Sort

theorem flat_set {α : Type} {f : α → List Value} {k : Nat} (hf : ∀ x, (f x).length = k) : ∀ {l : List α} {i : Nat} {x x' : α} {j : Nat} {u : Value}, l[i]? = some x → j < k → f x' = (f x).set j u → (l.flatMap f).set (i * k + j) u = (l.set i x').flatMap f
  | [], i, x, _, j, _, h, _, _ => by simp at h
  | y :: l, 0, x, x', j, u, h, hj, he => by
    simp at h; subst h
    rw [List.flatMap_cons, Nat.zero_mul, Nat.zero_add, List.set_append_left _ _ (by rw [hf]; exact hj), List.set_cons_zero, List.flatMap_cons, he]
  | y :: l, i + 1, x, x', j, u, h, hj, he => by
    rw [List.flatMap_cons, List.set_append_right _ _ (by rw [hf, Nat.add_mul]; omega), hf, show (i + 1) * k + j - k = i * k + j by rw [Nat.add_mul]; omega, List.set_cons_succ, List.flatMap_cons, flat_set hf (by simpa using h) hj he]
theorem own_putCells {base t size n g cap : Nat} : ∀ (vs : List Value) (o : Nat) {w : World} {xs : List Value}, w.ownsRow base t size (.slice (some ⟨g, 0, none⟩) n cap) n xs → (w.setCells g o vs).ownsRow base t size (.slice (some ⟨g, 0, none⟩) n cap) n (putAt xs.toArray o vs).toList
  | [], o, w, xs, h => h
  | v :: r, o, w, xs, h => by
    have h1 := own_putCells r (o + 1) (own_put (j := o) h v)
    have e : (xs.set o v).toArray = xs.toArray.setIfInBounds o v := by simp
    rw [e] at h1
    exact h1
theorem own_heap {w w' : World} {base t size n : Nat} {v : Value} {xs : List Value} {g : Nat} {cur : Array Value} {u : TypeId} (h : w.ownsRow base t size v n xs) (hg : w.heap[g]? = some (.cells cur u (0, 0))) (hne : t ≠ u) (hs : ∀ k, k ≠ g → w'.heap[k]? = w.heap[k]?) : w'.ownsRow base t size v n xs :=
  own_same h fun k hk => hs k fun e => by
    subst e
    obtain ⟨_, cur2, h2⟩ := own_block h hk
    rw [hg] at h2
    simp only [Option.some.injEq, Obj.cells.injEq] at h2
    exact hne h2.2.1.symm
theorem heap_setCells {g : Nat} : ∀ (vs : List Value) (o : Nat) {w : World} (k : Nat), k ≠ g → (w.setCells g o vs).heap[k]? = w.heap[k]?
  | [], _, _, _, _ => rfl
  | v :: r, o, w, k, h => by
    have h1 := heap_setCells r (o + 1) (w := w.setCell ⟨g, o, none⟩ v) k h
    exact h1.trans (Below.heap_setCell w ⟨g, o, none⟩ v k h)

theorem cells_heap {w w' : World} {p : Option Addr} {xs : List Value} {g : Nat} {cur : Array Value} {t u : TypeId} (h : CellsAt w p xs) (hp : ∀ a, p = some a → ∃ cu, w.heap[a.block]? = some (.cells cu t (0, 0))) (hg : w.heap[g]? = some (.cells cur u (0, 0))) (hne : t ≠ u) (hs : ∀ k, k ≠ g → w'.heap[k]? = w.heap[k]?) : CellsAt w' p xs ∧ ∀ a, p = some a → ∃ cu, w'.heap[a.block]? = some (.cells cu t (0, 0)) := by
  have hb : ∀ a, p = some a → w'.heap[a.block]? = w.heap[a.block]? := fun a ha => hs a.block fun e => by
    obtain ⟨cu, h2⟩ := hp a ha
    rw [e, hg] at h2
    simp only [Option.some.injEq, Obj.cells.injEq] at h2
    exact hne h2.2.1.symm
  refine ⟨fun j u hj => ?_, fun a ha => ?_⟩
  · obtain ⟨k, off, e, c⟩ := h j u hj
    refine ⟨k, off, e, ?_⟩
    exact (World.cell?_of_block (w := w) (a := ⟨k, off + j, none⟩) (show w'.heap[k]? = w.heap[k]? from hb ⟨k, off, none⟩ e)).trans c
  · rw [hb a ha]
    exact hp a ha
/-- The contracts of a house: its own row, or one that it has in common with another, without room. -/
def KsAt (w : World) (base : Nat) (pk : Option Addr) (ck : Nat) (l : List Kt) : Prop :=
  w.ownsRow base 42 5 (.slice pk l.length ck) l.length (l.flatMap encK) ∨
    (ck = l.length ∧ CellsAt w pk (l.flatMap encK) ∧ ∀ a, pk = some a → ∃ cu, w.heap[a.block]? = some (.cells cu 42 (0, 0)))
theorem KsAt.later {w w' : World} {base ck : Nat} {pk : Option Addr} {l : List Kt} (h : KsAt w base pk ck l) (ha : Adds w w') : KsAt w' base pk ck l := by
  rcases h with h | ⟨h1, h2, h3⟩
  · exact .inl (own_later h ha)
  · refine .inr ⟨h1, h2.later ha, fun a e => ?_⟩
    obtain ⟨cu, h4⟩ := h3 a e
    exact ⟨cu, (ha.block _ (Array.getElem?_eq_some_iff.1 h4).1).trans h4⟩
theorem KsAt.heap {w w' : World} {base ck g : Nat} {pk : Option Addr} {l : List Kt} {cur : Array Value} {u : TypeId} (h : KsAt w base pk ck l) (hg : w.heap[g]? = some (.cells cur u (0, 0))) (hne : 42 ≠ u) (hs : ∀ k, k ≠ g → w'.heap[k]? = w.heap[k]?) : KsAt w' base pk ck l := by
  rcases h with h | ⟨h1, h2, h3⟩
  · exact .inl (own_heap h hg hne hs)
  · have := cells_heap h2 h3 hg hne hs
    exact .inr ⟨h1, this.1, this.2⟩

/-- A house in memory. -/
structure HouseAt (w : World) (base b ga ca : Nat) (pm : Option Addr) (cm : Nat) (pk : Option Addr) (ck : Nat) (h : Hs) : Prop where
  bx : Box w b (houseCells h ga ca pm cm pk ck) 66
  ac : w.ownsRow base 72 15 (.slice (some ⟨ga, 0, none⟩) h.ac.length ca) h.ac.length (h.ac.flatMap encA)
  mv : w.ownsRow base 61 12 (.slice pm h.moves.length cm) h.moves.length (h.moves.flatMap encM)
  ks : KsAt w base pk ck h.ks
  lo : base ≤ b

section
variable {w w' : World} {base b ga ca cm ck : Nat} {pm pk : Option Addr} {h : Hs}
theorem HouseAt.later (hh : HouseAt w base b ga ca pm cm pk ck h) (ha : Adds w w') : HouseAt w' base b ga ca pm cm pk ck h := ⟨hh.bx.later ha, own_later hh.ac ha, own_later hh.mv ha, hh.ks.later ha, hh.lo⟩
theorem HouseAt.drew (hh : HouseAt w base b ga ca pm cm pk ck h) : HouseAt w.drew base b ga ca pm cm pk ck h := hh.later (Adds.refl w).drew
theorem HouseAt.c0 (hh : HouseAt w base b ga ca pm cm pk ck h) : w.cell? ⟨b, 0, none⟩ = some (.slice (some ⟨ga, 0, none⟩) h.ac.length ca) := by rw [hh.bx.cell]; rfl
theorem HouseAt.c1 (hh : HouseAt w base b ga ca pm cm pk ck h) : w.cell? ⟨b, 1, none⟩ = some (.int .i64 h.months) := by rw [hh.bx.cell]; rfl
theorem HouseAt.ctail (hh : HouseAt w base b ga ca pm cm pk ck h) (hp : h.prices.length = 12) (j : Nat) (v : Value) (hv : [Value.slice pm h.moves.length cm, .int .i64 h.rate, .int .i64 h.capital, .int .i64 h.hole, .slice pk h.ks.length ck][j]? = some v) : w.cell? ⟨b, 14 + j, none⟩ = some v := by
  rw [hh.bx.cell]
  unfold houseCells
  rw [List.getElem?_toArray, show 14 + j = (12 + j) + 1 + 1 by omega, List.getElem?_cons_succ, List.getElem?_cons_succ, List.getElem?_append_right (by simp [hp]), List.length_map, hp, show 12 + j - 12 = j by omega]
  exact hv
theorem HouseAt.pr (hh : HouseAt w base b ga ca pm cm pk ck h) : w.rangeAt b 2 (h.prices.map (Value.int .i64)) := fun j v hj => by
  rw [hh.bx.cell]
  unfold houseCells
  have hj2 := (List.getElem?_eq_some_iff.1 hj).1
  rw [List.getElem?_toArray, show 2 + j = j + 1 + 1 by omega, List.getElem?_cons_succ, List.getElem?_cons_succ, List.getElem?_append_left hj2]
  exact hj
theorem own_cellsAt {base t size n c : Nat} {p : Option Addr} {xs : List Value} (h : w.ownsRow base t size (.slice p n c) n xs) : CellsAt w p xs := by
  by_cases hn : 0 < n
  · exact own_cells h hn
  · have h0 : n = 0 := by omega
    subst h0
    have hl : xs = [] := List.eq_nil_of_length_eq_zero (by simpa using h.1)
    subst hl
    intro j u hj
    simp at hj
theorem HouseAt.r (hh : HouseAt w base b ga ca pm cm pk ck h) (hp : h.prices.length = 12) : HouseR w b h pm cm := ⟨hh.ctail hp 0 _ rfl, hh.ctail hp 1 _ rfl, hh.pr, own_cellsAt hh.mv⟩
theorem HouseAt.acc (hh : HouseAt w base b ga ca pm cm pk ck h) {i : Nat} {a : Ac} (hi : h.ac[i]? = some a) : w.rangeAt ga (i * 15) (encA a) := fun j v hj => by
  have hj2 := (List.getElem?_eq_some_iff.1 hj).1
  rw [encA_len] at hj2
  exact (own_cell hh.ac ((flat_get encA_len hi hj2).trans hj)).1
theorem HouseAt.there (hh : HouseAt w base b ga ca pm cm pk ck h) {i : Nat} {a : Ac} (hi : h.ac[i]? = some a) : w.there ga (i * 15) 15 := fun j hj => by
  obtain ⟨v, hv⟩ : ∃ v, (encA a)[j]? = some v := ⟨_, List.getElem?_eq_getElem (by rw [encA_len]; exact hj)⟩
  have h1 := own_cell hh.ac ((flat_get encA_len hi hj).trans hv)
  exact ⟨by rw [h1.1]; rfl, h1.2⟩

theorem HouseAt.blk (hh : HouseAt w base b ga ca pm cm pk ck h) : base ≤ ga ∧ ∃ cur, w.heap[ga]? = some (.cells cur 72 (0, 0)) := own_block hh.ac rfl
/-- Another world that has other accounts, and all else as before. -/
theorem HouseAt.other (hh : HouseAt w base b ga ca pm cm pk ck h) {l : List Ac} (hl : l.length = h.ac.length) (hs : ∀ k, k ≠ ga → w'.heap[k]? = w.heap[k]?) (hr : w'.ownsRow base 72 15 (.slice (some ⟨ga, 0, none⟩) h.ac.length ca) h.ac.length (l.flatMap encA)) : HouseAt w' base b ga ca pm cm pk ck { h with ac := l } := by
  obtain ⟨_, cur, hg⟩ := hh.blk
  have hb : b ≠ ga := fun e => by
    subst e
    have := hh.bx
    unfold Box at this
    rw [hg] at this
    simp only [Option.some.injEq, Obj.cells.injEq] at this
    exact absurd this.2.1 (by decide)
  refine ⟨?_, ?_, own_heap hh.mv hg (by decide) hs, hh.ks.heap hg (by decide) hs, hh.lo⟩
  · have := hh.bx.same (hs b hb)
    unfold houseCells at this ⊢
    simp only [hl]
    exact this
  · simp only [hl]
    exact hr
/-- One cell of an account written. -/
theorem HouseAt.put (hh : HouseAt w base b ga ca pm cm pk ck h) {i j : Nat} {a a' : Ac} {u : Value} (hi : h.ac[i]? = some a) (hj : j < 15) (he : encA a' = (encA a).set j u) : HouseAt (w.setCell ⟨ga, i * 15 + j, none⟩ u) base b ga ca pm cm pk ck { h with ac := h.ac.set i a' } :=
  hh.other (by simp) (fun k hk => Below.heap_setCell w ⟨ga, i * 15 + j, none⟩ u k hk) (by
    have h1 := own_put (j := i * 15 + j) hh.ac u
    rw [flat_set encA_len hi hj he] at h1
    exact h1)
/-- An account written. -/
theorem HouseAt.puts (hh : HouseAt w base b ga ca pm cm pk ck h) {i : Nat} (a' : Ac) (hi : i < h.ac.length) : HouseAt (w.setCells ga (i * 15) (encA a')) base b ga ca pm cm pk ck { h with ac := h.ac.set i a' } :=
  hh.other (by simp) (fun k hk => heap_setCells (w := w) _ _ k hk) (by
    have h1 := own_putCells (encA a') (i * 15) hh.ac
    rw [flat_putAt encA_len a' hi] at h1
    exact h1)
end

end Go.Proofs.Ytmkpidipoadnbaa
