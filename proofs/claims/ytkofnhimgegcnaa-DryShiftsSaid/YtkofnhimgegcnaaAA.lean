/- The ways out of a span's node. No Go. -/
import Derived.Test.YtkofnhimgegcnaaZ
namespace Go.Proofs.Ytkofnhimgegcnaa
open Go Go.RowKit Go.Sort

theorem tailE_even (E : List Edge) (k : Nat) : tailE E (2 * k) = (eAt E k).1 := by
  unfold tailE
  rw [if_pos (by omega), show 2 * k / 2 = k by omega]
theorem tailE_odd (E : List Edge) (k : Nat) : tailE E (2 * k + 1) = (eAt E k).2.1 := by
  unfold tailE
  rw [if_neg (by omega), show (2 * k + 1) / 2 = k by omega]
theorem headE_even (E : List Edge) (k : Nat) : headE E (2 * k) = (eAt E k).2.1 := by
  unfold headE
  rw [if_pos (by omega), show 2 * k / 2 = k by omega]
theorem headE_odd (E : List Edge) (k : Nat) : headE E (2 * k + 1) = (eAt E k).1 := by
  unfold headE
  rw [if_neg (by omega), show (2 * k + 1) / 2 = k by omega]
theorem roomE_odd (E : List Edge) (f : Nat → Int) (k : Nat) : roomE E f (2 * k + 1) = f k := by
  unfold roomE
  rw [if_neg (by omega), show (2 * k + 1) / 2 = k by omega]

theorem out_sum (E : List Edge) (v : Nat) (g : Nat → Int) : ∀ m : Nat, sumJ g ((List.range (2 * m)).filter (fun i => decide (tailE E i = v))) = sumN m (fun k => (if (eAt E k).1 = v then g (2 * k) else 0) + (if (eAt E k).2.1 = v then g (2 * k + 1) else 0))
  | 0 => rfl
  | m + 1 => by
    rw [sumN, ← out_sum E v g m, show 2 * (m + 1) = 2 * m + 1 + 1 by omega, List.range_succ, List.range_succ, List.filter_append, List.filter_append]
    simp only [sumJ, List.map_append, List.sum_append, List.filter_cons, List.filter_nil, tailE_even, tailE_odd]
    by_cases h1 : (eAt E m).1 = v <;> by_cases h2 : (eAt E m).2.1 = v <;> simp [h1, h2] <;> omega

theorem outE_sum (E : List Edge) (v : Nat) (g : Nat → Int) : sumJ g (outE E v) = sumN E.length (fun k => (if (eAt E k).1 = v then g (2 * k) else 0) + (if (eAt E k).2.1 = v then g (2 * k + 1) else 0)) := out_sum E v g E.length

/-- What edges there are. -/
theorem netE_kind {T : List Int} {K : Int} {l : List Ld} {e : Edge} (h : e ∈ netE T K l) :
    (∃ i x, l[i]? = some x ∧ e = (0, 2 + i, x.2.2.1)) ∨ (∃ i x q, l[i]? = some x ∧ q < spansOf T x ∧ e = (2 + i, 2 + l.length + (posT T x.1 + q), spanL T (posT T x.1 + q))) ∨ (∃ s, s < T.length - 1 ∧ e = (2 + l.length + s, 1, K * spanL T s)) := by
  unfold netE at h
  rcases List.mem_append.1 h with h | h
  · obtain ⟨i, x, hx, h1⟩ := loadsE_mem h
    rcases h1 with h1 | ⟨q, hq, h1⟩
    · exact Or.inl ⟨i, x, hx, by rw [h1, Nat.zero_add]⟩
    · exact Or.inr (Or.inl ⟨i, x, q, hx, hq, by rw [h1, Nat.zero_add]⟩)
  · unfold sinkE at h
    obtain ⟨s, hs, rfl⟩ := List.mem_map.1 h
    exact Or.inr (Or.inr ⟨s, List.mem_range.1 hs, rfl⟩)

theorem eAt_mem {E : List Edge} {k : Nat} (h : k < E.length) : eAt E k ∈ E := by
  unfold eAt
  rw [List.getElem?_eq_getElem h]
  exact List.getElem_mem h

theorem range_one (g : Nat → Int) (a : Nat) : ∀ q : Nat, (∀ k, k ≠ a → g k = 0) → ((List.range q).map g).sum = if a < q then g a else 0
  | 0, _ => rfl
  | q + 1, h => by
    rw [List.range_succ, List.map_append, List.sum_append, range_one g a q h]
    simp only [List.map_cons, List.map_nil, List.sum_cons, List.sum_nil]
    by_cases h1 : a < q
    · rw [if_pos h1, if_pos (by omega), h q (by omega)]; omega
    · by_cases h2 : q = a
      · rw [if_neg h1, if_pos (by omega), h2]; omega
      · rw [if_neg h1, if_neg (by omega), h q h2]; omega

/-- The sink's edge of a span. -/
theorem net_cap {T : List Int} {K : Int} {l : List Ld} {s : Nat} (hs : s < T.length - 1) : ((netE T K l).map (fun e => if e.1 = 2 + l.length + s then e.2.2 else 0)).sum = K * spanL T s := by
  unfold netE
  rw [List.map_append, List.sum_append, sum_zero_of, Int.zero_add]
  · unfold sinkE
    rw [List.map_map, range_one _ s]
    · rw [if_pos hs]; simp
    · intro k hk
      simp only [Function.comp]
      rw [if_neg (by omega)]
  · intro e he
    obtain ⟨i, x, hx, h1⟩ := loadsE_mem he
    have hi := (List.getElem?_eq_some_iff.1 hx).1
    rcases h1 with rfl | ⟨q, hq, rfl⟩
    · rw [if_neg (by omega)]
    · rw [if_neg (by omega)]

/-- A sum over a load's edges that no other load's have. -/
theorem loads_one (n : Nat) (T : List Int) (g : Edge → Int) (i : Nat) : ∀ (l : List Ld) (j : Nat), (∀ k x, l[k]? = some x → j + k ≠ i → ((loadE n T (j + k) x (spansOf T x)).map g).sum = 0) →
    ((loadsE n T l j).map g).sum = (match l[i - j]? with | some x => if j ≤ i then ((loadE n T i x (spansOf T x)).map g).sum else 0 | none => 0)
  | [], j, _ => by simp [loadsE]
  | x :: l, j, h => by
    have h0 := h 0 x rfl
    have ih := loads_one n T g i l (j + 1) (fun k y hk hne => by have := h (k + 1) y (by simpa using hk) (by omega); rw [show j + (k + 1) = j + 1 + k by omega] at this; exact this)
    rw [loadsE, List.map_append, List.sum_append, ih]
    rcases Nat.lt_trichotomy i j with hij | hij | hij
    · rw [Nat.add_zero] at h0
      rw [h0 (by omega)]
      rw [show i - (j + 1) = i - j by omega, show i - j = 0 by omega]
      simp only [List.getElem?_cons_zero]
      rw [if_neg (by omega)]
      split
      · rw [if_neg (by omega)]; rfl
      · rfl
    · subst hij
      rw [show i - i = 0 by omega]
      simp only [List.getElem?_cons_zero]
      rw [if_pos (Nat.le_refl _)]
      split
      · rw [if_neg (by omega)]; omega
      · omega
    · rw [Nat.add_zero] at h0
      rw [h0 (by omega), show i - j = (i - (j + 1)) + 1 by omega]
      simp only [List.getElem?_cons_succ]
      split
      · rw [if_pos (by omega), if_pos (by omega)]; omega
      · rfl

/-- A load's own edge. -/
theorem net_load {T : List Int} {K : Int} {l : List Ld} {i : Nat} {x : Ld} (hx : l[i]? = some x) : ((netE T K l).map (fun e => if e.2.1 = 2 + i then e.2.2 else 0)).sum = x.2.2.1 := by
  have hi := (List.getElem?_eq_some_iff.1 hx).1
  unfold netE
  rw [List.map_append, List.sum_append, loads_one l.length T _ i l 0]
  · rw [Nat.sub_zero, hx]
    dsimp only
    rw [if_pos (Nat.zero_le _), sum_zero_of _ (sinkE _ _ _ _)]
    · unfold loadE
      rw [List.map_cons, List.sum_cons, List.map_map, sum_zero_of]
      · simp
      · intro q _
        simp only [Function.comp]
        rw [if_neg (by omega)]
    · intro e he
      unfold sinkE at he
      obtain ⟨s, _, rfl⟩ := List.mem_map.1 he
      rw [if_neg (by dsimp only; omega)]
  · intro k y hk hne
    refine sum_zero_of _ _ (fun e he => ?_)
    unfold loadE at he
    rcases List.mem_cons.1 he with rfl | he
    · rw [if_neg (by dsimp only; omega)]
    · obtain ⟨q, _, rfl⟩ := List.mem_map.1 he
      rw [if_neg (by dsimp only; omega)]

/-- A load has one way to a span. -/
theorem net_once {T : List Int} {K : Int} {l : List Ld} {i s : Nat} : ((netE T K l).map (fun e => if e.1 = 2 + i ∧ e.2.1 = 2 + l.length + s then (1 : Int) else 0)).sum ≤ 1 := by
  unfold netE
  rw [List.map_append, List.sum_append, loads_one l.length T _ i l 0]
  · rw [sum_zero_of _ (sinkE _ _ _ _)]
    · split
      · rename_i x hx
        rw [if_pos (Nat.zero_le _)]
        unfold loadE
        rw [List.map_cons, List.sum_cons, List.map_map, if_neg (by dsimp only; omega), range_one _ (s - posT T x.1)]
        · split
          · simp only [Function.comp]
            split <;> omega
          · omega
        · intro k hk
          simp only [Function.comp]
          rw [if_neg (by omega)]
      · omega
    · intro e he
      unfold sinkE at he
      obtain ⟨s, _, rfl⟩ := List.mem_map.1 he
      rw [if_neg (by dsimp only; omega)]
  · intro k y hk hne
    refine sum_zero_of _ _ (fun e he => ?_)
    unfold loadE at he
    rcases List.mem_cons.1 he with rfl | he
    · rw [if_neg (by dsimp only; omega)]
    · obtain ⟨q, _, rfl⟩ := List.mem_map.1 he
      rw [if_neg (by dsimp only; omega)]

end Go.Proofs.Ytkofnhimgegcnaa
