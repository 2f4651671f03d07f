/- The steps to each node. No Go. -/
import Derived.Test.YtkofnhimgegcnaaMA
namespace Go.Proofs.Ytkofnhimgegcnaa

def updL (lev : Nat → Int) (v : Nat) (x : Int) : Nat → Int := fun u => if u = v then x else lev u

/-- How many are not reached. -/
def unmet (N : Nat) (lev : Nat → Int) : Int := sumN N (fun v => if lev v < 0 then 1 else 0)

theorem unmet_nonneg (N : Nat) (lev : Nat → Int) : 0 ≤ unmet N lev := by
  have := sumN_le (n := N) (g := fun _ => 0) (h := fun v => if lev v < 0 then 1 else 0) (fun k _ => by split <;> omega)
  rw [sumN_zero] at this
  exact this

theorem unmet_upd {N : Nat} {lev : Nat → Int} {v : Nat} {x : Int} (hv : v < N) (h : lev v < 0) (hx : 0 ≤ x) : unmet N (updL lev v x) = unmet N lev - 1 := by
  have : unmet N (updL lev v x) + sumN N (fun u => if u = v then 1 else 0) = unmet N lev := by
    unfold unmet
    rw [← sumN_add]
    refine sumN_congr fun u _ => ?_
    unfold updL
    by_cases e : u = v
    · subst e; simp [h, Int.not_lt.2 hx]
    · simp [e]
  rw [sumN_one, if_pos hv] at this
  omega

/-- A look that has come so far: the first i of q have been looked at, and of the next one p ways. -/
structure Look (E : List Edge) (N : Nat) (f : Nat → Int) (lev : Nat → Int) (q : List Nat) (i p : Nat) : Prop where
  src : lev 0 = 0
  has : ∀ v, v < N → (0 ≤ lev v ↔ v ∈ q)
  low : ∀ v, v < N → -1 ≤ lev v
  lt : ∀ v ∈ q, v < N
  at' : ∀ (j v : Nat), q[j]? = some v → lev v ≤ (j : Int)
  led : ∀ v ∈ q, v = 0 ∨ ∃ j, j < 2 * E.length ∧ headE E j = v ∧ tailE E j ∈ q ∧ 0 < roomE E f j ∧ lev v = lev (tailE E j) + 1
  done : ∀ (j v : Nat), j < i → q[j]? = some v → ∀ w, w < 2 * E.length → tailE E w = v → 0 < roomE E f w → 0 ≤ lev (headE E w)
  part : ∀ (v : Nat), q[i]? = some v → ∀ (r w : Nat), r < p → (outE E v)[r]? = some w → 0 < roomE E f w → 0 ≤ lev (headE E w)
  cnt : unmet N lev + q.length = N

theorem sumN_less {N : Nat} (v : Nat) (hv : v < N) : unmet N (updL (fun _ => -1) v 0) + 1 = N := by
  have h : ∀ n : Nat, unmet n (fun _ => -1) = n := fun n => by
    unfold unmet
    induction n with
    | zero => rfl
    | succ n ih => rw [sumN, ih]; simp
  rw [unmet_upd hv (by omega) (by omega), h]; omega

theorem Look.start {E : List Edge} {N : Nat} (f : Nat → Int) (hN : 0 < N) : Look E N f (updL (fun _ => -1) 0 0) [0] 0 0 where
  src := by simp [updL]
  has := fun v _ => by unfold updL; by_cases e : v = 0 <;> simp [e]
  low := fun v _ => by unfold updL; dsimp only; split <;> omega
  lt := fun v hv => by simp at hv; omega
  at' := fun j v h => by
    have : v = 0 := by
      have := List.mem_of_getElem? h
      simpa using this
    subst this
    simp [updL]
  led := fun v hv => Or.inl (by simpa using hv)
  done := fun j v h => by omega
  part := fun v _ r w h => by omega
  cnt := by
    have := sumN_less (N := N) 0 hN
    simpa using this

/-- A node that is not met before. -/
theorem Look.meet {E : List Edge} {N : Nat} {f lev : Nat → Int} {q : List Nat} {i p v w : Nat} (h : Look E N f lev q i p) (hv : q[i]? = some v) (hw : (outE E v)[p]? = some w) (hr : 0 < roomE E f w)
    (hh : headE E w < N) (hn : lev (headE E w) < 0) : Look E N f (updL lev (headE E w) (lev v + 1)) (q ++ [headE E w]) i (p + 1) := by
  obtain ⟨hw1, hw2⟩ := outE_mem hw
  have hvm := List.mem_of_getElem? hv
  have hvN := h.lt v hvm
  have hv0 := (h.has v hvN).2 hvm
  have hkeep : ∀ u ∈ q, updL lev (headE E w) (lev v + 1) u = lev u := fun u hu => by
    unfold updL
    rw [if_neg]
    rintro rfl
    have := (h.has _ hh).2 hu
    omega
  have hup : ∀ u, 0 ≤ lev u → 0 ≤ updL lev (headE E w) (lev v + 1) u := fun u hu => by
    unfold updL
    split <;> omega
  have hnew : updL lev (headE E w) (lev v + 1) (headE E w) = lev v + 1 := by simp [updL]
  have hold : ∀ j u, (q ++ [headE E w])[j]? = some u → q[j]? = some u ∨ (j = q.length ∧ u = headE E w) := fun j u hj => by
    rw [List.getElem?_append] at hj
    split at hj
    · exact Or.inl hj
    · rename_i hlt
      have : j = q.length := by
        have := (List.getElem?_eq_some_iff.1 hj).1
        simp at this; omega
      subst this
      simp at hj
      exact Or.inr ⟨rfl, hj.symm⟩
  have hil : i < q.length := (List.getElem?_eq_some_iff.1 hv).1
  refine { src := ?_, has := ?_, low := ?_, lt := ?_, at' := ?_, led := ?_, done := ?_, part := ?_, cnt := ?_ }
  · have h0 := h.src
    unfold updL
    split
    · next e => rw [← e] at hn; omega
    · exact h0
  · intro u hu
    by_cases e : u = headE E w
    · subst e; rw [hnew]; simp; omega
    · have : updL lev (headE E w) (lev v + 1) u = lev u := by simp [updL, e]
      rw [this, h.has u hu]; simp [e]
  · intro u hu
    have := h.low u hu
    unfold updL
    split <;> omega
  · intro u hu
    rw [List.mem_append, List.mem_singleton] at hu
    rcases hu with hu | rfl
    · exact h.lt u hu
    · exact hh
  · intro j u hj
    rcases hold j u hj with hj | ⟨rfl, rfl⟩
    · rw [hkeep u (List.mem_of_getElem? hj)]; exact h.at' j u hj
    · rw [hnew]
      have := h.at' i v hv
      omega
  · intro u hu
    rw [List.mem_append, List.mem_singleton] at hu
    rcases hu with hu | rfl
    · rcases h.led u hu with e | ⟨j, h1, h2, h3, h4, h5⟩
      · exact Or.inl e
      · exact Or.inr ⟨j, h1, h2, List.mem_append_left _ h3, h4, by rw [hkeep u hu, hkeep _ h3]; exact h5⟩
    · exact Or.inr ⟨w, hw1, rfl, by rw [hw2]; exact List.mem_append_left _ hvm, hr, by rw [hnew, hw2, hkeep v hvm]⟩
  · intro j u hj hu x hx1 hx2 hx3
    rcases hold j u hu with hu | ⟨rfl, rfl⟩
    · exact hup _ (h.done j u hj hu x hx1 hx2 hx3)
    · omega
  · intro u hu r x hr2 hx hx3
    rcases hold i u hu with hu | ⟨e, rfl⟩
    · by_cases e : r = p
      · subst e
        rw [hv] at hu
        cases hu
        rw [hw] at hx
        cases hx
        rw [hnew]; omega
      · exact hup _ (h.part u hu r x (by omega) hx hx3)
    · omega
  · have := h.cnt
    rw [unmet_upd hh hn (by omega)]
    simp; omega

/-- A way that leads to no other node. -/
theorem Look.pass {E : List Edge} {N : Nat} {f lev : Nat → Int} {q : List Nat} {i p v w : Nat} (h : Look E N f lev q i p) (hv : q[i]? = some v) (hw : (outE E v)[p]? = some w) (hn : ¬ (0 < roomE E f w ∧ lev (headE E w) < 0)) :
    Look E N f lev q i (p + 1) := by
  refine { h with part := ?_ }
  intro u hu r x hr hx h3
  by_cases e : r = p
  · subst e
    rw [hv] at hu
    cases hu
    rw [hw] at hx
    cases hx
    exact Int.not_lt.1 (fun h2 => hn ⟨h3, h2⟩)
  · exact h.part u hu r x (by omega) hx h3

theorem Look.next {E : List Edge} {N : Nat} {f lev : Nat → Int} {q : List Nat} {i p v : Nat} (h : Look E N f lev q i p) (hv : q[i]? = some v) (hp : (outE E v).length ≤ p) : Look E N f lev q (i + 1) 0 := by
  refine { h with done := ?_, part := ?_ }
  · intro j u hj hu x h1 h2 h3
    by_cases e : j = i
    · subst e
      rw [hv] at hu
      cases hu
      obtain ⟨r, hr⟩ := outE_get h1 h2
      have := (List.getElem?_eq_some_iff.1 hr).1
      exact h.part v hv r x (by omega) hr h3
    · exact h.done j u (by omega) hu x h1 h2 h3
  · intro u _ r x hr
    omega

theorem Look.short {E : List Edge} {N : Nat} {f lev : Nat → Int} {q : List Nat} {i p : Nat} (h : Look E N f lev q i p) : q.length ≤ N := by
  have := h.cnt
  have := unmet_nonneg N lev
  omega

/-- The steps to each node. -/
structure Lev (E : List Edge) (N : Nat) (f lev : Nat → Int) : Prop where
  src : lev 0 = 0
  top : ∀ v, v < N → -1 ≤ lev v ∧ lev v < (N : Int)
  clo : ∀ i, i < 2 * E.length → 0 < roomE E f i → 0 ≤ lev (tailE E i) → 0 ≤ lev (headE E i)
  good : 0 ≤ lev 1 → Good E lev f 0

theorem Look.led' {E : List Edge} {N : Nat} {f lev : Nat → Int} {q : List Nat} {i p : Nat} (h : Look E N f lev q i p) : ∀ (n : Nat) (v : Nat), v ∈ q → lev v ≤ (n : Int) → Led E lev f v := by
  intro n
  induction n with
  | zero =>
    intro v hv hn
    rcases h.led v hv with e | ⟨j, h1, h2, h3, h4, h5⟩
    · subst e; exact .source
    · have := (h.has _ (h.lt _ h3)).2 h3
      omega
  | succ n ih =>
    intro v hv hn
    rcases h.led v hv with e | ⟨j, h1, h2, h3, h4, h5⟩
    · subst e; exact .source
    · subst h2
      exact .step h1 h4 h5 (ih _ h3 (by omega))

theorem Look.lev {E : List Edge} {N : Nat} {f lev : Nat → Int} {q : List Nat} {i p : Nat} (h : Look E N f lev q i p) (hi : q.length ≤ i) (hE : ∀ j, j < 2 * E.length → tailE E j < N) (h1 : 1 < N) : Lev E N f lev where
  src := h.src
  top := fun v hv => by
    refine ⟨h.low v hv, ?_⟩
    by_cases h0 : 0 ≤ lev v
    · obtain ⟨j, hj, he⟩ := List.getElem_of_mem ((h.has v hv).1 h0)
      have := h.at' j v (by rw [List.getElem?_eq_getElem hj, he])
      have := h.short
      omega
    · omega
  clo := fun w hw hr ht => by
    obtain ⟨j, hj, he⟩ := List.getElem_of_mem ((h.has _ (hE w hw)).1 ht)
    exact h.done j _ (by omega) (by rw [List.getElem?_eq_getElem hj, he]) w hw rfl hr
  good := fun h0 => (h.led' (lev 1).toNat 1 ((h.has 1 h1).1 h0) (by omega)).good .sink

end Go.Proofs.Ytkofnhimgegcnaa
