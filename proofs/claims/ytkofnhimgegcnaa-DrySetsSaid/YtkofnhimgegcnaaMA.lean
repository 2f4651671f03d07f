/- Networks: flows, and what a search sends. No Go. -/
namespace Go.Proofs.Ytkofnhimgegcnaa

/-- The sum of g 0 to g (n - 1). -/
def sumN : Nat → (Nat → Int) → Int
  | 0, _ => 0
  | n + 1, g => sumN n g + g n

theorem sumN_congr {g h : Nat → Int} : ∀ {n : Nat}, (∀ k, k < n → g k = h k) → sumN n g = sumN n h
  | 0, _ => rfl
  | n + 1, H => by rw [sumN, sumN, sumN_congr (fun k hk => H k (by omega)), H n (by omega)]
theorem sumN_add (g h : Nat → Int) : ∀ n : Nat, sumN n (fun k => g k + h k) = sumN n g + sumN n h
  | 0 => rfl
  | n + 1 => by rw [sumN, sumN, sumN, sumN_add]; omega
theorem sumN_sub (g h : Nat → Int) : ∀ n : Nat, sumN n (fun k => g k - h k) = sumN n g - sumN n h
  | 0 => rfl
  | n + 1 => by rw [sumN, sumN, sumN, sumN_sub]; omega
theorem sumN_one (a : Nat) (c : Int) : ∀ n : Nat, sumN n (fun k => if k = a then c else 0) = if a < n then c else 0
  | 0 => rfl
  | n + 1 => by
    rw [sumN, sumN_one a c n]
    by_cases h1 : a < n
    · rw [if_pos h1, if_neg (by omega), if_pos (by omega)]; omega
    · by_cases h2 : n = a
      · rw [if_neg h1, if_pos h2, if_pos (by omega)]; omega
      · rw [if_neg h1, if_neg h2, if_neg (by omega)]; rfl
theorem sumN_zero (n : Nat) : sumN n (fun _ => 0) = 0 := by
  induction n with
  | zero => rfl
  | succ n ih => rw [sumN, ih]; rfl
theorem sumN_le {g h : Nat → Int} : ∀ {n : Nat}, (∀ k, k < n → g k ≤ h k) → sumN n g ≤ sumN n h
  | 0, _ => Int.le_refl _
  | n + 1, H => by
    have := sumN_le (n := n) (fun k hk => H k (by omega))
    have := H n (by omega)
    rw [sumN, sumN]; omega

/-- An edge: from, to, how much can flow. -/
abbrev Edge := Nat × Nat × Int

def eAt (E : List Edge) (k : Nat) : Edge := E[k]?.getD (0, 0, 0)
def tailE (E : List Edge) (i : Nat) : Nat := if i % 2 = 0 then (eAt E (i / 2)).1 else (eAt E (i / 2)).2.1
def headE (E : List Edge) (i : Nat) : Nat := if i % 2 = 0 then (eAt E (i / 2)).2.1 else (eAt E (i / 2)).1
def roomE (E : List Edge) (f : Nat → Int) (i : Nat) : Int := if i % 2 = 0 then (eAt E (i / 2)).2.2 - f (i / 2) else f (i / 2)
/-- The ways that leave a node, rising. -/
def outE (E : List Edge) (v : Nat) : List Nat := (List.range (2 * E.length)).filter (fun i => decide (tailE E i = v))
/-- So much more along a way. -/
def pushF (f : Nat → Int) (i : Nat) (x : Int) : Nat → Int := fun k => if k = i / 2 then (if i % 2 = 0 then f k + x else f k - x) else f k
/-- What leaves a node less what comes. -/
def divE (E : List Edge) (f : Nat → Int) (v : Nat) : Int := sumN E.length (fun k => (if (eAt E k).1 = v then f k else 0) - (if (eAt E k).2.1 = v then f k else 0))
def Okf (E : List Edge) (f : Nat → Int) : Prop := ∀ k, k < E.length → 0 ≤ f k ∧ f k ≤ (eAt E k).2.2

theorem outE_mem {E : List Edge} {v p i : Nat} (h : (outE E v)[p]? = some i) : i < 2 * E.length ∧ tailE E i = v := by
  have := List.mem_of_getElem? h
  rw [outE, List.mem_filter, List.mem_range] at this
  exact ⟨this.1, of_decide_eq_true this.2⟩
theorem outE_get {E : List Edge} {v i : Nat} (h : i < 2 * E.length) (ht : tailE E i = v) : ∃ p : Nat, (outE E v)[p]? = some i := by
  have hm : i ∈ outE E v := by rw [outE, List.mem_filter, List.mem_range]; exact ⟨h, decide_eq_true ht⟩
  obtain ⟨p, hp, he⟩ := List.getElem_of_mem hm
  exact ⟨p, by rw [List.getElem?_eq_getElem hp, he]⟩

theorem pushF_zero (f : Nat → Int) (i : Nat) : pushF f i 0 = f := by
  funext k
  unfold pushF
  split
  · split <;> omega
  · rfl

theorem div_push {E : List Edge} (f : Nat → Int) {i : Nat} (hi : i < 2 * E.length) (x : Int) (v : Nat) :
    divE E (pushF f i x) v = divE E f v + (if v = tailE E i then x else 0) - (if v = headE E i then x else 0) := by
  have hd : ∃ d : Int, d = (if v = tailE E i then x else 0) - (if v = headE E i then x else 0) := ⟨_, rfl⟩
  obtain ⟨d, hd⟩ := hd
  have h1 : divE E (pushF f i x) v = sumN E.length (fun k => ((if (eAt E k).1 = v then f k else 0) - (if (eAt E k).2.1 = v then f k else 0)) + (if k = i / 2 then d else 0)) := by
    refine sumN_congr fun k hk => ?_
    by_cases hki : k = i / 2
    · subst hki
      rw [if_pos rfl, hd]
      unfold pushF tailE headE
      simp only [if_true]
      rcases Nat.mod_two_eq_zero_or_one i with h | h
      · simp only [h, if_true]
        by_cases a : (eAt E (i / 2)).1 = v <;> by_cases b : (eAt E (i / 2)).2.1 = v <;> simp [a, b] <;> (try omega)
        all_goals (try (rw [if_neg (fun e => a e.symm)])) <;> (try (rw [if_neg (fun e => b e.symm)])) <;> try omega
      · simp only [h, Nat.one_ne_zero, if_false]
        by_cases a : (eAt E (i / 2)).1 = v <;> by_cases b : (eAt E (i / 2)).2.1 = v <;> simp [a, b] <;> (try omega)
        all_goals (try (rw [if_neg (fun e => a e.symm)])) <;> (try (rw [if_neg (fun e => b e.symm)])) <;> try omega
    · rw [if_neg hki]
      unfold pushF
      simp only [if_neg hki, Int.add_zero]
  rw [h1, sumN_add, sumN_one, if_pos (by omega)]
  unfold divE
  omega

theorem push_ok {E : List Edge} {f : Nat → Int} (h : Okf E f) {i : Nat} {x : Int} (h0 : 0 ≤ x) (h1 : x ≤ roomE E f i) : Okf E (pushF f i x) := fun k hk => by
  have := h k hk
  unfold pushF
  unfold roomE at h1
  by_cases hki : k = i / 2
  · subst hki
    rcases Nat.mod_two_eq_zero_or_one i with hm | hm
    · simp only [hm, if_true] at h1 ⊢; omega
    · simp only [hm, Nat.one_ne_zero, if_true, if_false] at h1 ⊢; omega
  · simp only [if_neg hki]; exact this

theorem room_pos {E : List Edge} {f : Nat → Int} (h : Okf E f) {i : Nat} (hi : i < 2 * E.length) : 0 ≤ roomE E f i ∧ roomE E f i ≤ (eAt E (i / 2)).2.2 := by
  have := h (i / 2) (by omega)
  unfold roomE
  split <;> omega

theorem room_push {E : List Edge} (f : Nat → Int) (i : Nat) (x : Int) (j : Nat) : roomE E (pushF f i x) j = if j / 2 = i / 2 then (if j % 2 = i % 2 then roomE E f j - x else roomE E f j + x) else roomE E f j := by
  unfold roomE pushF
  by_cases h : j / 2 = i / 2
  · rw [if_pos h, if_pos h]
    rcases Nat.mod_two_eq_zero_or_one i with hi | hi <;> rcases Nat.mod_two_eq_zero_or_one j with hj | hj <;> simp [hi, hj] <;> omega
  · rw [if_neg h, if_neg h]

/-- From here ways that go a step further each lead to the sink. -/
inductive Good (E : List Edge) (lev : Nat → Int) (f : Nat → Int) : Nat → Prop
  | sink : Good E lev f 1
  | step {i : Nat} : i < 2 * E.length → 0 < roomE E f i → lev (headE E i) = lev (tailE E i) + 1 → Good E lev f (headE E i) → Good E lev f (tailE E i)

/-- Of each node from which the sink can be reached such a way is still to be tried. -/
def GoodInv (E : List Edge) (lev : Nat → Int) (f : Nat → Int) (T : Nat → Nat) : Prop :=
  ∀ v, v ≠ 1 → Good E lev f v → ∃ p i : Nat, T v ≤ p ∧ (outE E v)[p]? = some i ∧ 0 < roomE E f i ∧ lev (headE E i) = lev v + 1 ∧ Good E lev f (headE E i)

theorem good_start (E : List Edge) (lev : Nat → Int) (f : Nat → Int) : GoodInv E lev f (fun _ => 0) := by
  intro v hv hg
  cases hg with
  | sink => exact absurd rfl hv
  | step hi hr hl hg =>
    obtain ⟨p, hp⟩ := outE_get hi rfl
    exact ⟨p, _, Nat.zero_le _, hp, hr, hl, hg⟩

def bump (T : Nat → Nat) (v : Nat) : Nat → Nat := fun u => if u = v then T v + 1 else T u

/-- What a search sends. -/
structure Sent (E : List Edge) (lev : Nat → Int) (node : Nat) (f f' : Nat → Int) (T T' : Nat → Nat) (most sum : Int) : Prop where
  pos : 0 ≤ sum
  le : sum ≤ most
  ok : Okf E f'
  div : ∀ v, divE E f' v = divE E f v + (if v = node then sum else 0) - (if v = 1 then sum else 0)
  low : ∀ k, k < E.length → lev (eAt E k).1 < lev node ∨ lev (eAt E k).2.1 < lev node → f' k = f k
  tlow : ∀ v, lev v < lev node → T' v = T v
  tle : (∀ v, T v ≤ (outE E v).length) → ∀ v, T' v ≤ (outE E v).length
  good : sum = 0 → f' = f ∧ (GoodInv E lev f T → GoodInv E lev f T' ∧ ¬ Good E lev f node)

theorem Sent.sink {E : List Edge} {lev : Nat → Int} {f : Nat → Int} (hf : Okf E f) (T : Nat → Nat) {most : Int} (hm : 1 ≤ most) : Sent E lev 1 f f T T most most where
  pos := by omega
  le := Int.le_refl _
  ok := hf
  div := fun v => by split <;> omega
  low := fun _ _ _ => rfl
  tlow := fun _ _ => rfl
  tle := fun h => h
  good := fun h => by omega

/-- What a node has sent so far. -/
structure Part (E : List Edge) (lev : Nat → Int) (node : Nat) (f f' : Nat → Int) (T T' : Nat → Nat) (most sum : Int) : Prop where
  pos : 0 ≤ sum
  le : sum ≤ most
  ok : Okf E f'
  div : ∀ v, divE E f' v = divE E f v + (if v = node then sum else 0) - (if v = 1 then sum else 0)
  low : ∀ k, k < E.length → lev (eAt E k).1 < lev node ∨ lev (eAt E k).2.1 < lev node → f' k = f k
  tlow : ∀ v, lev v < lev node → T' v = T v
  tle : (∀ v, T v ≤ (outE E v).length) → ∀ v, T' v ≤ (outE E v).length
  good : sum = 0 → f' = f ∧ (GoodInv E lev f T → GoodInv E lev f T')

theorem Part.start {E : List Edge} {lev : Nat → Int} {f : Nat → Int} (hf : Okf E f) (node : Nat) (T : Nat → Nat) {most : Int} (hm : 1 ≤ most) : Part E lev node f f T T most 0 where
  pos := by omega
  le := by omega
  ok := hf
  div := fun v => by split <;> split <;> omega
  low := fun _ _ _ => rfl
  tlow := fun _ _ => rfl
  tle := fun h => h
  good := fun _ => ⟨rfl, fun h => h⟩

theorem Part.full {E : List Edge} {lev : Nat → Int} {node : Nat} {f f' : Nat → Int} {T T' : Nat → Nat} {most : Int} (h : Part E lev node f f' T T' most most) (hm : 1 ≤ most) : Sent E lev node f f' T T' most most where
  pos := h.pos
  le := h.le
  ok := h.ok
  div := h.div
  low := h.low
  tlow := h.tlow
  tle := h.tle
  good := fun e => by omega

theorem Part.spent {E : List Edge} {lev : Nat → Int} {node : Nat} {f f' : Nat → Int} {T T' : Nat → Nat} {most sum : Int} (h : Part E lev node f f' T T' most sum) (hn : node ≠ 1) (ht : (outE E node).length ≤ T' node) : Sent E lev node f f' T T' most sum where
  pos := h.pos
  le := h.le
  ok := h.ok
  div := h.div
  low := h.low
  tlow := h.tlow
  tle := h.tle
  good := fun e => ⟨(h.good e).1, fun hg => ⟨(h.good e).2 hg, fun hG => by
    obtain ⟨p, i, hp, hi, _⟩ := (h.good e).2 hg node hn hG
    have := (List.getElem?_eq_some_iff.1 hi).1
    omega⟩⟩

theorem GoodInv.bump {E : List Edge} {lev : Nat → Int} {f : Nat → Int} {T : Nat → Nat} {node i : Nat} (h : GoodInv E lev f T) (hi : (outE E node)[T node]? = some i)
    (hb : ¬ (0 < roomE E f i ∧ lev (headE E i) = lev node + 1 ∧ Good E lev f (headE E i))) : GoodInv E lev f (bump T node) := by
  intro v hv hg
  obtain ⟨p, j, hp, hj, hr, hl, hG⟩ := h v hv hg
  refine ⟨p, j, ?_, hj, hr, hl, hG⟩
  unfold Proofs.Ytkofnhimgegcnaa.bump
  split
  · next e =>
    subst e
    by_cases e2 : p = T v
    · subst e2
      rw [hi] at hj
      cases hj
      exact absurd ⟨hr, hl, hG⟩ hb
    · omega
  · exact hp

/-- A way that can't be taken. -/
theorem Part.pass {E : List Edge} {lev : Nat → Int} {node i : Nat} {f f' : Nat → Int} {T T' : Nat → Nat} {most sum : Int} (h : Part E lev node f f' T T' most sum) (hi : (outE E node)[T' node]? = some i)
    (hb : ¬ (0 < roomE E f' i ∧ lev (headE E i) = lev node + 1)) : Part E lev node f f' T (bump T' node) most sum where
  pos := h.pos
  le := h.le
  ok := h.ok
  div := h.div
  low := h.low
  tlow := fun v hv => by
    unfold bump
    rw [if_neg (fun e => by rw [e] at hv; omega)]
    exact h.tlow v hv
  tle := fun ht v => by
    have h1 := h.tle ht v
    unfold bump
    split
    · next e => subst e; have := (List.getElem?_eq_some_iff.1 hi).1; omega
    · exact h1
  good := fun e => ⟨(h.good e).1, fun hg => ((h.good e).2 hg).bump hi (fun hh => hb (by rw [(h.good e).1]; exact ⟨hh.1, hh.2.1⟩))⟩

/-- A way that is taken. -/
theorem Part.send {E : List Edge} {lev : Nat → Int} {node i : Nat} {f f1 f2 : Nat → Int} {T T1 T2 : Nat → Nat} {most sum sent : Int} (h : Part E lev node f f1 T T1 most sum) (hi : (outE E node)[T1 node]? = some i)
    (hl : lev (headE E i) = lev node + 1) (hs : Sent E lev (headE E i) f1 f2 T1 T2 (min (roomE E f1 i) (most - sum)) sent) :
    roomE E f2 i = roomE E f1 i ∧ T2 node = T1 node ∧ Part E lev node f (pushF f2 i sent) T T2 most (sum + sent) := by
  obtain ⟨hi1, hi2⟩ := outE_mem hi
  have htl : tailE E i = (eAt E (i / 2)).1 ∧ headE E i = (eAt E (i / 2)).2.1 ∨ tailE E i = (eAt E (i / 2)).2.1 ∧ headE E i = (eAt E (i / 2)).1 := by
    unfold tailE headE
    split
    · exact Or.inl ⟨rfl, rfl⟩
    · exact Or.inr ⟨rfl, rfl⟩
  have hf2 : f2 (i / 2) = f1 (i / 2) := hs.low _ (by omega) (by
    rcases htl with ⟨a, b⟩ | ⟨a, b⟩
    · left; rw [← a, hi2, hl]; omega
    · right; rw [← a, hi2, hl]; omega)
  have hr : roomE E f2 i = roomE E f1 i := by unfold roomE; rw [hf2]
  have ht : T2 node = T1 node := hs.tlow node (by rw [hl]; omega)
  have hp := hs.pos
  have hle := hs.le
  refine ⟨hr, ht, ?_⟩
  refine { pos := by have := h.pos; omega, le := by omega, ok := push_ok hs.ok hp (by rw [hr]; omega), div := ?_, low := ?_, tlow := ?_, tle := fun a => hs.tle (h.tle a), good := ?_ }
  · intro v
    rw [div_push f2 hi1, hs.div v, h.div v, hi2]
    by_cases a : v = node <;> by_cases b : v = headE E i <;> by_cases c : v = 1 <;> simp only [a, b, c, if_true, if_false] <;> (repeat' split) <;> omega
  · intro k hk hlow
    have h1 := h.low k hk hlow
    have h2 := hs.low k hk (by
      rw [hl]
      rcases hlow with a | a
      · left; omega
      · right; omega)
    unfold pushF
    rw [if_neg, h2, h1]
    intro e
    subst e
    rcases htl with ⟨a, b⟩ | ⟨a, b⟩ <;> rcases hlow with c | c
    · rw [← a, hi2] at c; omega
    · rw [← b, hl] at c; omega
    · rw [← b, hl] at c; omega
    · rw [← a, hi2] at c; omega
  · intro v hv
    rw [hs.tlow v (by rw [hl]; omega), h.tlow v hv]
  · intro e
    have h0 := h.pos
    have e1 : sum = 0 := by omega
    have e2 : sent = 0 := by omega
    obtain ⟨g1, g2⟩ := h.good e1
    obtain ⟨g3, g4⟩ := hs.good e2
    refine ⟨by rw [e2, pushF_zero, g3, g1], fun hg => ?_⟩
    rw [g1] at g4
    exact (g4 (g2 hg)).1

/-- A way that was taken and is done with. -/
theorem Part.sendOn {E : List Edge} {lev : Nat → Int} {node i : Nat} {f f1 f2 : Nat → Int} {T T1 T2 : Nat → Nat} {most sum sent : Int} (h : Part E lev node f f1 T T1 most sum) (hi : (outE E node)[T1 node]? = some i)
    (hl : lev (headE E i) = lev node + 1) (hs : Sent E lev (headE E i) f1 f2 T1 T2 (min (roomE E f1 i) (most - sum)) sent) :
    Part E lev node f (pushF f2 i sent) T (bump T2 node) most (sum + sent) := by
  obtain ⟨hr, ht, hP⟩ := h.send hi hl hs
  have hi' : (outE E node)[T2 node]? = some i := by rw [ht]; exact hi
  refine { hP with tlow := ?_, tle := ?_, good := ?_ }
  · intro v hv
    unfold bump
    rw [if_neg (fun e => by rw [e] at hv; omega)]
    exact hP.tlow v hv
  · intro a v
    have h1 := hP.tle a v
    unfold bump
    split
    · next e => subst e; have := (List.getElem?_eq_some_iff.1 hi').1; omega
    · exact h1
  · intro e
    have h0 := h.pos
    have h3 := hs.pos
    have e1 : sum = 0 := by omega
    have e2 : sent = 0 := by omega
    obtain ⟨g1, g2⟩ := h.good e1
    obtain ⟨g3, g4⟩ := hs.good e2
    refine ⟨(hP.good e).1, fun hg => ?_⟩
    rw [g1] at g4
    obtain ⟨g5, g6⟩ := g4 (g2 hg)
    exact g5.bump hi' (fun hh => g6 hh.2.2)

/-- A flow of so much. -/
structure Flow (E : List Edge) (f : Nat → Int) (val : Int) : Prop where
  ok : Okf E f
  div : ∀ v, divE E f v = (if v = 0 then val else 0) - (if v = 1 then val else 0)

theorem Flow.send {E : List Edge} {lev : Nat → Int} {f f' : Nat → Int} {T T' : Nat → Nat} {val most sum : Int} (h : Flow E f val) (hs : Sent E lev 0 f f' T T' most sum) : Flow E f' (val + sum) where
  ok := hs.ok
  div := fun v => by
    rw [hs.div v, h.div v]
    by_cases a : v = 0 <;> by_cases b : v = 1 <;> simp only [a, b, if_true, if_false] <;> (repeat' split) <;> omega

/-- Nothing flows at first. -/
theorem Flow.none {E : List Edge} (hc : ∀ k, k < E.length → 0 ≤ (eAt E k).2.2) : Flow E (fun _ => 0) 0 where
  ok := fun k hk => ⟨Int.le_refl _, hc k hk⟩
  div := fun v => by
    unfold divE
    rw [sumN_congr (h := fun _ => 0) (fun k _ => by simp), sumN_zero]
    simp

/-- What leaves the source at most. -/
def capE (E : List Edge) : Int := sumN E.length (fun k => if (eAt E k).1 = 0 then (eAt E k).2.2 else 0)

theorem Flow.bound {E : List Edge} {f : Nat → Int} {val : Int} (h : Flow E f val) : val ≤ capE E := by
  have h0 := h.div 0
  simp only [if_true, Nat.zero_ne_one, if_false, Int.sub_zero] at h0
  rw [← h0]
  refine sumN_le fun k hk => ?_
  have := h.ok k hk
  split <;> split <;> omega

/-- From the source ways that go a step further each lead here. -/
inductive Led (E : List Edge) (lev : Nat → Int) (f : Nat → Int) : Nat → Prop
  | source : Led E lev f 0
  | step {i : Nat} : i < 2 * E.length → 0 < roomE E f i → lev (headE E i) = lev (tailE E i) + 1 → Led E lev f (tailE E i) → Led E lev f (headE E i)

theorem Led.good {E : List Edge} {lev : Nat → Int} {f : Nat → Int} {v : Nat} (h : Led E lev f v) : Good E lev f v → Good E lev f 0 := by
  induction h with
  | source => exact fun h => h
  | step hi hr hl _ ih => exact fun hg => ih (.step hi hr hl hg)

end Go.Proofs.Ytkofnhimgegcnaa
