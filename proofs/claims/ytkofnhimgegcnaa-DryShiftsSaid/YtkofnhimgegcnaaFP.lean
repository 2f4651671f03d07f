/- Whether loads are short. -/
import Derived.Test.YtkofnhimgegcnaaAV
import Derived.Lib.BufferMore
import Derived.Maps.OwnSet
import Derived.Test.YtkofnhimgegcnaaL
import Derived.Shelf.Abstract
namespace Go.Proofs.Ytkofnhimgegcnaa

/-- How many of the first n are so. -/
def cntN : Nat → (Nat → Bool) → Nat
  | 0, _ => 0
  | n + 1, f => cntN n f + if f n = true then 1 else 0

theorem cntN_congr {f g : Nat → Bool} : ∀ {n : Nat}, (∀ i, i < n → f i = g i) → cntN n f = cntN n g
  | 0, _ => rfl
  | n + 1, h => by rw [cntN, cntN, cntN_congr (n := n) (fun i hi => h i (by omega)), h n (by omega)]
theorem cntN_le {f g : Nat → Bool} : ∀ {n : Nat}, (∀ i, i < n → f i = true → g i = true) → cntN n f ≤ cntN n g
  | 0, _ => Nat.le_refl _
  | n + 1, h => by
    have ih := cntN_le (n := n) (fun i hi => h i (by omega))
    have h1 := h n (by omega)
    rw [cntN, cntN]
    by_cases c : f n = true
    · rw [if_pos c, if_pos (h1 c)]; omega
    · rw [if_neg c]; split <;> omega
theorem cntN_bd (f : Nat → Bool) : ∀ n : Nat, cntN n f ≤ n
  | 0 => Nat.le_refl _
  | n + 1 => by
    have := cntN_bd f n
    rw [cntN]
    split <;> omega
theorem cntN_none {f : Nat → Bool} : ∀ {n : Nat}, (∀ i, i < n → f i = false) → cntN n f = 0
  | 0, _ => rfl
  | n + 1, h => by rw [cntN, cntN_none (n := n) (fun i hi => h i (by omega)), h n (by omega)]; rfl
theorem cntN_or {f g h : Nat → Bool} : ∀ {n : Nat}, (∀ i, i < n → f i = (g i || h i)) → (∀ i, i < n → ¬ (g i = true ∧ h i = true)) → cntN n f = cntN n g + cntN n h
  | 0, _, _ => rfl
  | n + 1, e, d => by
    have ih := cntN_or (n := n) (fun i hi => e i (by omega)) (fun i hi => d i (by omega))
    have e1 := e n (by omega)
    have d1 := d n (by omega)
    rw [cntN, cntN, cntN, ih, e1]
    cases hg : g n <;> cases hh : h n <;> simp_all <;> try omega
theorem cntN_one {f : Nat → Bool} {x : Nat} : ∀ {n : Nat}, x < n → (∀ i, i < n → (f i = true ↔ i = x)) → cntN n f = 1
  | 0, h, _ => by omega
  | n + 1, h, e => by
    rw [cntN]
    by_cases c : x = n
    · subst c
      rw [if_pos ((e x (by omega)).2 rfl), cntN_none]
      intro i hi
      cases hf : f i with
      | false => rfl
      | true => have := (e i (by omega)).1 hf; omega
    · rw [cntN_one (n := n) (x := x) (by omega) (fun i hi => e i (by omega)), if_neg]
      intro hf
      have := (e n (by omega)).1 hf
      omega
/-- One more. -/
theorem cntN_put {f g : Nat → Bool} {x n : Nat} (hx : x < n) (h : ∀ i, i < n → i ≠ x → f i = g i) (h0 : f x = false) (h1 : g x = true) : cntN n g = cntN n f + 1 := by
  rw [cntN_or (f := g) (g := f) (h := fun i => i == x) (n := n), cntN_one (f := fun i => i == x) hx]
  · intro i _; simp
  · intro i hi
    by_cases c : i = x
    · subst c; rw [h0, h1]; simp
    · rw [h i hi c]; simp [c]
  · intro i hi
    rintro ⟨a, b⟩
    simp only [beq_iff_eq] at b
    subst b
    rw [h0] at a
    cases a
/-- Of two lists of which one has as many, it has one that the other hasn't. -/
theorem cntN_more {f g : Nat → Bool} {x n : Nat} (h : cntN n f ≤ cntN n g) (hx : x < n) (hfx : f x = true) (hgx : g x = false) : ∃ j, j < n ∧ g j = true ∧ f j = false := by
  apply Classical.byContradiction
  intro hc
  have h1 : cntN n g ≤ cntN n (fun i => f i && i != x) := cntN_le fun i hi hg => by
    have hf : f i = true := by
      cases e : f i with
      | true => rfl
      | false => exact absurd ⟨i, hi, hg, e⟩ hc
    have : i ≠ x := fun e => by subst e; rw [hgx] at hg; cases hg
    simp [hf, this]
  have h2 := cntN_put (f := fun i => f i && i != x) (g := f) hx (fun i _ hne => by simp [hne]) (by simp) hfx
  omega
/-- Hour by hour. -/
theorem cntN_hours (f : Nat → Bool) (t : Nat → Nat) (n a : Nat) (K : Nat) : ∀ m : Nat, (∀ h, a ≤ h → h < a + m → cntN n (fun i => f i && t i == h) ≤ K) → cntN n (fun i => f i && (decide (a ≤ t i) && decide (t i < a + m))) ≤ K * m
  | 0, _ => by
    rw [cntN_none]
    · exact Nat.zero_le _
    · intro i _
      cases f i <;> simp
  | m + 1, h => by
    have ih := cntN_hours f t n a K m (fun u h1 h2 => h u h1 (by omega))
    have h1 := h (a + m) (by omega) (by omega)
    rw [cntN_or (g := fun i => f i && (decide (a ≤ t i) && decide (t i < a + m))) (h := fun i => f i && t i == a + m)]
    · rw [Nat.mul_succ]; omega
    · intro i _
      cases f i <;> simp
      by_cases c : t i = a + m
      · simp [c]
      · have : (decide (t i < a + (m + 1))) = (decide (t i < a + m)) := by
          rw [decide_eq_decide]; omega
        rw [this]
        simp [c]
    · intro i _
      simp
      omega
theorem cntN_hours_ge (f : Nat → Bool) (t : Nat → Nat) (n a : Nat) (K : Nat) : ∀ m : Nat, (∀ h, a ≤ h → h < a + m → K ≤ cntN n (fun i => f i && t i == h)) → K * m ≤ cntN n (fun i => f i && (decide (a ≤ t i) && decide (t i < a + m)))
  | 0, _ => by omega
  | m + 1, h => by
    have ih := cntN_hours_ge f t n a K m (fun u h1 h2 => h u h1 (by omega))
    have h1 := h (a + m) (by omega) (by omega)
    rw [cntN_or (g := fun i => f i && (decide (a ≤ t i) && decide (t i < a + m))) (h := fun i => f i && t i == a + m)]
    · rw [Nat.mul_succ]; omega
    · intro i _
      cases f i <;> simp
      by_cases c : t i = a + m
      · simp [c]
      · have : (decide (t i < a + (m + 1))) = (decide (t i < a + m)) := by
          rw [decide_eq_decide]; omega
        rw [this]
        simp [c]
    · intro i _
      simp
      omega

/-- Short loads: how many, when they are ready and due; the kilns. -/
structure Sh where
  n : Nat
  r : Nat → Nat
  d : Nat → Nat
  K : Nat

/-- The order in which loads are dried. -/
def Sh.lt (q : Sh) (i j : Nat) : Prop := q.d i < q.d j ∨ (q.d i = q.d j ∧ i < j)
theorem Sh.lt_trans {q : Sh} {i j k : Nat} (h : q.lt i j) (h2 : q.lt j k) : q.lt i k := by unfold Sh.lt at *; omega
theorem Sh.lt_irrefl {q : Sh} {i : Nat} (h : q.lt i i) : False := by unfold Sh.lt at *; omega
theorem Sh.lt_asymm {q : Sh} {i j : Nat} (h : q.lt i j) (h2 : q.lt j i) : False := Sh.lt_irrefl (Sh.lt_trans h h2)
theorem Sh.lt_total {q : Sh} {i j : Nat} (h : i ≠ j) : q.lt i j ∨ q.lt j i := by unfold Sh.lt; omega
theorem Sh.lt_due {q : Sh} {i j : Nat} (h : q.lt i j) : q.d i ≤ q.d j := by unfold Sh.lt at *; omega

/-- How many loads of a set have an hour. -/
def Sh.at (q : Sh) (S : Nat → Bool) (t : Nat → Nat) (h : Nat) : Nat := cntN q.n (fun i => S i && t i == h)

/-- A set can be dried. -/
def Sh.Fit (q : Sh) (S : Nat → Bool) : Prop := ∃ t : Nat → Nat, (∀ i, i < q.n → S i = true → q.r i ≤ t i ∧ t i < q.d i) ∧ ∀ h, q.at S t h ≤ q.K

theorem Sh.Fit.less {q : Sh} {S T : Nat → Bool} (h : q.Fit S) (hT : ∀ i, i < q.n → T i = true → S i = true) : q.Fit T := by
  obtain ⟨t, h1, h2⟩ := h
  exact ⟨t, fun i hi hc => h1 i hi (hT i hi hc), fun u => Nat.le_trans (cntN_le fun i hi hc => by
    simp only [Bool.and_eq_true] at hc ⊢
    exact ⟨hT i hi hc.1, hc.2⟩) (h2 u)⟩

/-- The rota of the earliest due up to an hour: what comes at H or behind has no hour yet. -/
structure Sh.Ed (q : Sh) (S : Nat → Bool) (H : Nat) (t : Nat → Nat) : Prop where
  rdy : ∀ i, i < q.n → S i = true → t i < H → q.r i ≤ t i
  few : ∀ h, h < H → q.at S t h ≤ q.K
  gre : ∀ i, i < q.n → S i = true → ∀ h, q.r i ≤ h → h < H → h < t i → q.at S t h = q.K ∧ ∀ j, j < q.n → S j = true → t j = h → q.lt j i

theorem Sh.Ed.same {q : Sh} {S : Nat → Bool} {H : Nat} {t u : Nat → Nat} (a : q.Ed S H t) (b : q.Ed S H u) : ∀ h, h ≤ H → ∀ i, i < q.n → S i = true → (t i < h ∨ u i < h) → t i = u i := by
  have half : ∀ {t u : Nat → Nat}, q.Ed S H t → q.Ed S H u → ∀ h, h < H → (∀ i, i < q.n → S i = true → (t i < h ∨ u i < h) → t i = u i) → ∀ i, i < q.n → S i = true → t i = h → u i = h := by
    intro t u a b h hH ih i hi hS ht
    apply Classical.byContradiction
    intro hne
    have h1 : h < u i := by
      by_cases c : u i < h
      · have := ih i hi hS (.inr c); omega
      · omega
    have h2 := a.rdy i hi hS (by omega)
    obtain ⟨g1, g2⟩ := b.gre i hi hS h (by omega) hH h1
    have g3 := a.few h hH
    obtain ⟨j, hj, j1, j2⟩ := cntN_more (n := q.n) (f := fun i => S i && t i == h) (g := fun i => S i && u i == h) (x := i) (by unfold Sh.at at g1 g3; omega) hi (by simp [hS, ht]) (by simp; exact fun _ => hne)
    simp only [Bool.and_eq_true, beq_iff_eq, Bool.and_eq_false_iff] at j1 j2
    obtain ⟨jS, jh⟩ := j1
    have jt : t j ≠ h := by
      rcases j2 with e | e
      · rw [jS] at e; cases e
      · simpa using e
    have h3 : h < t j := by
      by_cases c : t j < h
      · have := ih j hj jS (.inl c); omega
      · omega
    have h4 := b.rdy j hj jS (by omega)
    have h5 := (a.gre j hj jS h (by omega) hH h3).2 i hi hS ht
    exact Sh.lt_asymm h5 (g2 j hj jS jh)
  intro h
  induction h with
  | zero => intro _ i _ _ hc; omega
  | succ h ih =>
    intro hH i hi hS hc
    have ih1 := ih (by omega)
    by_cases c : t i < h ∨ u i < h
    · exact ih1 i hi hS c
    · by_cases c1 : t i = h
      · rw [c1, half a b h (by omega) ih1 i hi hS c1]
      · have c2 : u i = h := by omega
        rw [c2, half b a h (by omega) (fun j hj hs hd => (ih1 j hj hs hd.symm).symm) i hi hS c2]

theorem run_back (P : Nat → Prop) : ∀ d : Nat, ∃ s, s ≤ d ∧ (∀ h, s ≤ h → h < d → P h) ∧ (s = 0 ∨ ¬ P (s - 1))
  | 0 => ⟨0, Nat.le_refl _, fun h _ h2 => by omega, .inl rfl⟩
  | d + 1 => by
    by_cases c : P d
    · obtain ⟨s, h1, h2, h3⟩ := run_back P d
      exact ⟨s, by omega, fun h a b => if e : h = d then e ▸ c else h2 h a (by omega), h3⟩
    · exact ⟨d + 1, Nat.le_refl _, fun h a b => by omega, .inr c⟩

/-- If one is late, nothing fits. -/
theorem Sh.Ed.late {q : Sh} {S : Nat → Bool} {H : Nat} {t : Nat → Nat} (a : q.Ed S H t) {x : Nat} (hx : x < q.n) (hS : S x = true) (hr : q.r x < q.d x) (hd : q.d x ≤ H) (ht : q.d x ≤ t x) : ¬ q.Fit S := by
  rintro ⟨u, u1, u2⟩
  obtain ⟨s, s1, s2, s3⟩ := run_back (fun h => q.at S t h = q.K ∧ ∀ j, j < q.n → S j = true → t j = h → q.lt j x) (q.d x)
  have s4 : s ≤ q.r x := by
    apply Classical.byContradiction
    intro c
    rcases s3 with e | e
    · omega
    · exact e (a.gre x hx hS (s - 1) (by omega) (by omega) (by omega))
  have z1 : ∀ i, i < q.n → S i = true → s ≤ t i → t i < q.d x → s ≤ q.r i ∧ q.d i ≤ q.d x := fun i hi hSi h1 h2 => by
    have h3 := (s2 (t i) h1 h2).2 i hi hSi rfl
    refine ⟨?_, Sh.lt_due h3⟩
    apply Classical.byContradiction
    intro c
    rcases s3 with e | e
    · omega
    · obtain ⟨g1, g2⟩ := a.gre i hi hSi (s - 1) (by omega) (by omega) (by omega)
      exact e ⟨g1, fun j hj hSj htj => Sh.lt_trans (g2 j hj hSj htj) h3⟩
  have n1 := cntN_hours_ge S t q.n s q.K (q.d x - s) (fun h h1 h2 => by
    have := (s2 h h1 (by omega)).1
    unfold Sh.at at this
    omega)
  have n2 := cntN_hours S u q.n s q.K (q.d x - s) (fun h _ _ => u2 h)
  rw [show s + (q.d x - s) = q.d x by omega] at n1 n2
  have n3 := cntN_put (f := fun i => S i && (decide (s ≤ t i) && decide (t i < q.d x))) (g := fun i => (S i && (decide (s ≤ t i) && decide (t i < q.d x))) || i == x) hx (fun i _ hne => by simp [hne]) (by simp; omega) (by simp)
  have n4 : cntN q.n (fun i => (S i && (decide (s ≤ t i) && decide (t i < q.d x))) || i == x) ≤ cntN q.n (fun i => S i && (decide (s ≤ u i) && decide (u i < q.d x))) := cntN_le fun i hi hc => by
    simp only [Bool.or_eq_true, Bool.and_eq_true, decide_eq_true_eq, beq_iff_eq] at hc ⊢
    rcases hc with ⟨c1, c2, c3⟩ | c
    · obtain ⟨z2, z3⟩ := z1 i hi c1 c2 c3
      obtain ⟨v1, v2⟩ := u1 i hi c1
      exact ⟨c1, by omega, by omega⟩
    · subst c
      obtain ⟨v1, v2⟩ := u1 i hx hS
      exact ⟨hS, by omega, v2⟩
  omega

/-- A rota in which all are in time. -/
theorem Sh.Ed.fit {q : Sh} {S : Nat → Bool} {H : Nat} {t : Nat → Nat} (a : q.Ed S H t) (h1 : ∀ i, i < q.n → S i = true → t i < q.d i) (h2 : ∀ i, i < q.n → S i = true → t i < H) : q.Fit S :=
  ⟨t, fun i hi hS => ⟨a.rdy i hi hS (h2 i hi hS), h1 i hi hS⟩, fun h => by
    by_cases c : h < H
    · exact a.few h c
    · unfold Sh.at
      rw [cntN_none]
      · omega
      · intro i hi
        cases e : S i with
        | false => rfl
        | true => have := h2 i hi e; simp; omega⟩

/-- On the way of a load through the hours: it comes at hour h, all that it met is before it. -/
structure Sh.Way (q : Sh) (W : Nat → Bool) (t : Nat → Nat) (z h : Nat) : Prop where
  rdy : ∀ i, i < q.n → W i = true → q.r i ≤ t i
  few : ∀ g, q.at W t g ≤ q.K
  gre : ∀ i, i < q.n → W i = true → ∀ g, q.r i ≤ g → g < t i → q.at W t g = q.K ∧ ∀ j, j < q.n → W j = true → t j = g → q.lt j i
  tim : ∀ i, i < q.n → W i = true → t i < q.d i
  lt : z < q.n
  out : W z = false
  come : q.r z ≤ h
  met : ∀ g, q.r z ≤ g → g < h → q.at W t g = q.K ∧ ∀ j, j < q.n → W j = true → t j = g → q.lt j z

/-- With one more. -/
def putS (S : Nat → Bool) (z : Nat) : Nat → Bool := fun i => S i || i == z
def delS (S : Nat → Bool) (y : Nat) : Nat → Bool := fun i => S i && i != y
def setT (t : Nat → Nat) (z h : Nat) : Nat → Nat := fun i => if i = z then h else t i

theorem at_put {q : Sh} {W : Nat → Bool} {t : Nat → Nat} {z h : Nat} (ho : W z = false) (g : Nat) (hz : z < q.n) : q.at (putS W z) (setT t z h) g = q.at W t g + if g = h then 1 else 0 := by
  unfold Sh.at
  by_cases c : g = h
  · subst c
    rw [if_pos rfl, cntN_put (f := fun i => W i && t i == g) hz]
    · intro i _ hne
      have hb : (i == z) = false := by simpa using hne
      simp [putS, setT, hne, hb]
    · simp [ho]
    · simp [putS, setT]
  · rw [if_neg c, Nat.add_zero]
    refine cntN_congr fun i _ => ?_
    by_cases e : i = z
    · subst e
      simp [putS, setT, ho]
      omega
    · have hb : (i == z) = false := by simpa using e
      simp [putS, setT, e, hb]

theorem mem_put {S : Nat → Bool} {z i : Nat} : putS S z i = true ↔ S i = true ∨ i = z := by simp [putS]
theorem Sh.Way.full {q : Sh} {W : Nat → Bool} {t : Nat → Nat} {z h : Nat} (a : q.Way W t z h) : q.Ed (putS W z) h (setT t z h) := by
  refine ⟨fun i hi hS ht => ?_, fun g hg => ?_, fun i hi hS g h1 h2 h3 => ?_⟩
  · by_cases e : i = z
    · subst e; simp [setT] at ht
    · have hW : W i = true := (mem_put.1 hS).resolve_right e
      simp only [setT, if_neg e]
      exact a.rdy i hi hW
  · rw [at_put a.out g a.lt, if_neg (by omega)]
    exact a.few g
  · rw [at_put a.out g a.lt, if_neg (by omega), Nat.add_zero]
    have hj : ∀ j, j < q.n → putS W z j = true → setT t z h j = g → W j = true ∧ t j = g := fun j hj hSj htj => by
      by_cases e : j = z
      · subst e; simp [setT] at htj; omega
      · simp only [setT, if_neg e] at htj
        exact ⟨(mem_put.1 hSj).resolve_right e, htj⟩
    by_cases e : i = z
    · subst e
      obtain ⟨g1, g2⟩ := a.met g h1 h2
      exact ⟨g1, fun j h4 h5 h6 => by obtain ⟨h7, h8⟩ := hj j h4 h5 h6; exact g2 j h4 h7 h8⟩
    · have hW : W i = true := (mem_put.1 hS).resolve_right e
      simp only [setT, if_neg e] at h3
      obtain ⟨g1, g2⟩ := a.gre i hi hW g h1 h3
      exact ⟨g1, fun j h4 h5 h6 => by obtain ⟨h7, h8⟩ := hj j h4 h5 h6; exact g2 j h4 h7 h8⟩

/-- It is too late: nothing fits. -/
theorem Sh.Way.late {q : Sh} {W : Nat → Bool} {t : Nat → Nat} {z h : Nat} (a : q.Way W t z h) (hr : q.r z < q.d z) (hd : q.d z ≤ h) : ¬ q.Fit (putS W z) :=
  a.full.late a.lt (mem_put.2 (.inr rfl)) hr hd (by simp [setT]; exact hd)

/-- There is room: it has its hour. -/
structure Sh.Full (q : Sh) (W : Nat → Bool) (t : Nat → Nat) : Prop where
  rdy : ∀ i, i < q.n → W i = true → q.r i ≤ t i
  few : ∀ g, q.at W t g ≤ q.K
  gre : ∀ i, i < q.n → W i = true → ∀ g, q.r i ≤ g → g < t i → q.at W t g = q.K ∧ ∀ j, j < q.n → W j = true → t j = g → q.lt j i
  tim : ∀ i, i < q.n → W i = true → t i < q.d i

theorem Sh.Full.ed {q : Sh} {W : Nat → Bool} {t : Nat → Nat} (a : q.Full W t) (H : Nat) : q.Ed W H t := ⟨fun i hi hS _ => a.rdy i hi hS, fun h _ => a.few h, fun i hi hS h h1 _ h3 => a.gre i hi hS h h1 h3⟩
theorem Sh.Full.fit {q : Sh} {W : Nat → Bool} {t : Nat → Nat} (a : q.Full W t) : q.Fit W := ⟨t, fun i hi hS => ⟨a.rdy i hi hS, a.tim i hi hS⟩, a.few⟩
theorem Sh.Full.none (q : Sh) (t : Nat → Nat) : q.Full (fun _ => false) t :=
  ⟨fun _ _ h => by simp at h, fun g => (by unfold Sh.at; rw [cntN_none (fun _ _ => by simp)]; omega), fun _ _ h => by simp at h, fun _ _ h => by simp at h⟩
theorem Sh.Full.unique {q : Sh} {W : Nat → Bool} {t u : Nat → Nat} (a : q.Full W t) (b : q.Full W u) : ∀ i, i < q.n → W i = true → t i = u i := fun i hi hS =>
  (a.ed (t i + 1)).same (b.ed (t i + 1)) (t i + 1) (Nat.le_refl _) i hi hS (.inl (by omega))
theorem Sh.Full.way {q : Sh} {W : Nat → Bool} {t : Nat → Nat} {z : Nat} (a : q.Full W t) (hz : z < q.n) (ho : W z = false) : q.Way W t z (q.r z) := ⟨a.rdy, a.few, a.gre, a.tim, hz, ho, Nat.le_refl _, fun g h1 h2 => by omega⟩

theorem Sh.Way.room {q : Sh} {W : Nat → Bool} {t : Nat → Nat} {z h : Nat} (a : q.Way W t z h) (hd : h < q.d z) (hK : q.at W t h < q.K) : q.Full (putS W z) (setT t z h) := by
  have hj : ∀ j g, j < q.n → putS W z j = true → setT t z h j = g → (W j = true ∧ t j = g) ∨ (j = z ∧ g = h) := fun j g hj hSj htj => by
    by_cases e : j = z
    · subst e; simp [setT] at htj; exact .inr ⟨rfl, htj.symm⟩
    · simp only [setT, if_neg e] at htj
      exact .inl ⟨(mem_put.1 hSj).resolve_right e, htj⟩
  refine ⟨fun i hi hS => ?_, fun g => ?_, fun i hi hS g h1 h2 => ?_, fun i hi hS => ?_⟩
  · by_cases e : i = z
    · subst e; simp [setT]; exact a.come
    · simp only [setT, if_neg e]; exact a.rdy i hi ((mem_put.1 hS).resolve_right e)
  · rw [at_put a.out g a.lt]
    split
    · next c => subst c; omega
    · exact a.few g
  · have hgh : g ≠ h := fun c => by
      subst c
      by_cases e : i = z
      · subst e; simp [setT] at h2
      · simp only [setT, if_neg e] at h2
        have := (a.gre i hi ((mem_put.1 hS).resolve_right e) g h1 h2).1
        omega
    rw [at_put a.out g a.lt, if_neg hgh, Nat.add_zero]
    have hres : ∃ P : Prop, P ∧ (P → q.at W t g = q.K ∧ ∀ j, j < q.n → W j = true → t j = g → q.lt j i) := ⟨True, trivial, fun _ => by
      by_cases e : i = z
      · subst e; simp [setT] at h2; exact a.met g h1 h2
      · simp only [setT, if_neg e] at h2; exact a.gre i hi ((mem_put.1 hS).resolve_right e) g h1 h2⟩
    obtain ⟨P, p1, p2⟩ := hres
    obtain ⟨g1, g2⟩ := p2 p1
    exact ⟨g1, fun j h4 h5 h6 => by
      rcases hj j g h4 h5 h6 with ⟨h7, h8⟩ | ⟨_, h7⟩
      · exact g2 j h4 h7 h8
      · exact absurd h7 hgh⟩
  · by_cases e : i = z
    · subst e; simp [setT]; exact hd
    · simp only [setT, if_neg e]; exact a.tim i hi ((mem_put.1 hS).resolve_right e)

/-- All that are dried in this hour come before it: it goes on. -/
theorem Sh.Way.pass {q : Sh} {W : Nat → Bool} {t : Nat → Nat} {z h : Nat} (a : q.Way W t z h) (hK : q.at W t h = q.K) (hl : ∀ j, j < q.n → W j = true → t j = h → q.lt j z) : q.Way W t z (h + 1) :=
  ⟨a.rdy, a.few, a.gre, a.tim, a.lt, a.out, by have := a.come; omega, fun g h1 h2 => if c : g = h then c ▸ ⟨hK, hl⟩ else a.met g h1 (by omega)⟩

/-- The last one of this hour comes behind it: that one goes on. -/
theorem Sh.Way.swap {q : Sh} {W : Nat → Bool} {t : Nat → Nat} {z h y : Nat} (a : q.Way W t z h) (hK : q.at W t h = q.K) (hy : y < q.n) (hWy : W y = true) (hty : t y = h) (hzy : q.lt z y) (hl : ∀ j, j < q.n → W j = true → t j = h → j ≠ y → q.lt j y) (hd : h < q.d z) : q.Way (putS (delS W y) z) (setT t z h) y (h + 1) := by
  have hyz : y ≠ z := fun e => by subst e; exact Sh.lt_irrefl hzy
  have mem : ∀ i, putS (delS W y) z i = true → i ≠ y ∧ (i = z ∨ (i ≠ z ∧ W i = true)) := fun i hi => by
    rcases mem_put.1 hi with c | c
    · simp only [delS, Bool.and_eq_true, bne_iff_ne, ne_eq] at c
      refine ⟨c.2, ?_⟩
      by_cases e : i = z
      · exact .inl e
      · exact .inr ⟨e, c.1⟩
    · exact ⟨fun e => hyz (by omega), .inl c⟩
  have cnt : ∀ g, q.at (putS (delS W y) z) (setT t z h) g = q.at W t g := fun g => by
    rw [at_put (by simp [delS, a.out]) g a.lt]
    unfold Sh.at
    by_cases c : g = h
    · subst c
      rw [if_pos rfl, ← cntN_put (f := fun i => delS W y i && t i == g) (g := fun i => W i && t i == g) hy]
      · intro i _ hne
        have hb : (i != y) = true := by simpa using hne
        simp [delS, hb]
      · simp [delS]
      · simp [hWy, hty]
    · rw [if_neg c, Nat.add_zero]
      refine cntN_congr fun i _ => ?_
      by_cases e : i = y
      · subst e; simp [delS, hty]; exact fun _ => fun k => c k.symm
      · have hb : (i != y) = true := by simpa using e
        simp [delS, hb]
  have hj : ∀ j g, j < q.n → putS (delS W y) z j = true → setT t z h j = g → (j ≠ y ∧ W j = true ∧ t j = g) ∨ (j = z ∧ g = h) := fun j g hj hSj htj => by
    obtain ⟨m1, m2⟩ := mem j hSj
    rcases m2 with e | ⟨e, m3⟩
    · subst e; simp [setT] at htj; exact .inr ⟨rfl, htj.symm⟩
    · simp only [setT, if_neg e] at htj
      exact .inl ⟨m1, m3, htj⟩
  refine ⟨fun i hi hS => ?_, fun g => ?_, fun i hi hS g h1 h2 => ?_, fun i hi hS => ?_, hy, ?_, ?_, fun g h1 h2 => ?_⟩
  · obtain ⟨_, m2⟩ := mem i hS
    rcases m2 with e | ⟨e, m3⟩
    · subst e; simp [setT]; exact a.come
    · simp only [setT, if_neg e]; exact a.rdy i hi m3
  · rw [cnt]; exact a.few g
  · rw [cnt]
    obtain ⟨m1, m2⟩ := mem i hS
    rcases m2 with e | ⟨e, m3⟩
    · subst e
      simp [setT] at h2
      obtain ⟨g1, g2⟩ := a.met g h1 h2
      exact ⟨g1, fun j h4 h5 h6 => by
        rcases hj j g h4 h5 h6 with ⟨_, h7, h8⟩ | ⟨_, h7⟩
        · exact g2 j h4 h7 h8
        · omega⟩
    · simp only [setT, if_neg e] at h2
      obtain ⟨g1, g2⟩ := a.gre i hi m3 g h1 h2
      exact ⟨g1, fun j h4 h5 h6 => by
        rcases hj j g h4 h5 h6 with ⟨_, h7, h8⟩ | ⟨h7, h8⟩
        · exact g2 j h4 h7 h8
        · subst h7 h8
          exact Sh.lt_trans hzy (g2 y hy hWy hty)⟩
  · obtain ⟨_, m2⟩ := mem i hS
    rcases m2 with e | ⟨e, m3⟩
    · subst e; simp [setT]; exact hd
    · simp only [setT, if_neg e]; exact a.tim i hi m3
  · simp [putS, delS, hyz]
  · have := a.rdy y hy hWy; omega
  · rw [cnt]
    by_cases c : g = h
    · subst c
      exact ⟨hK, fun j h4 h5 h6 => by
        rcases hj j g h4 h5 h6 with ⟨m1, h7, h8⟩ | ⟨h7, _⟩
        · exact hl j h4 h7 h8 m1
        · subst h7; exact hzy⟩
    · obtain ⟨g1, g2⟩ := a.gre y hy hWy g h1 (by omega)
      exact ⟨g1, fun j h4 h5 h6 => by
        rcases hj j g h4 h5 h6 with ⟨_, h7, h8⟩ | ⟨_, h7⟩
        · exact g2 j h4 h7 h8
        · omega⟩
end Go.Proofs.Ytkofnhimgegcnaa

namespace Go.Proofs.Ytkofnhimgegcnaa

/-- Too many loads in some hours. -/
def Sh.Over (q : Sh) (S : Nat → Bool) : Prop := ∃ s e, s ≤ e ∧ q.K * (e - s) < cntN q.n (fun i => S i && (decide (s ≤ q.r i) && decide (q.d i ≤ e)))

theorem Sh.Fit.hall {q : Sh} {S : Nat → Bool} (h : q.Fit S) {s e : Nat} (hse : s ≤ e) : cntN q.n (fun i => S i && (decide (s ≤ q.r i) && decide (q.d i ≤ e))) ≤ q.K * (e - s) := by
  obtain ⟨t, t1, t2⟩ := h
  have n2 := cntN_hours S t q.n s q.K (e - s) (fun h _ _ => t2 h)
  rw [show s + (e - s) = e by omega] at n2
  refine Nat.le_trans (cntN_le fun i hi hc => ?_) n2
  simp only [Bool.and_eq_true, decide_eq_true_eq] at hc ⊢
  obtain ⟨c1, c2, c3⟩ := hc
  obtain ⟨v1, v2⟩ := t1 i hi c1
  exact ⟨c1, by omega, by omega⟩
theorem Sh.Over.none {q : Sh} {S : Nat → Bool} (h : q.Over S) : ¬ q.Fit S := fun hf => by
  obtain ⟨s, e, h1, h2⟩ := h
  have := hf.hall h1
  omega
theorem Sh.Over.more {q : Sh} {S T : Nat → Bool} (h : q.Over S) (hT : ∀ i, i < q.n → S i = true → T i = true) : q.Over T := by
  obtain ⟨s, e, h1, h2⟩ := h
  exact ⟨s, e, h1, Nat.lt_of_lt_of_le h2 (cntN_le fun i hi hc => by
    simp only [Bool.and_eq_true] at hc ⊢
    exact ⟨hT i hi hc.1, hc.2⟩)⟩

theorem Sh.Ed.over {q : Sh} {S : Nat → Bool} {H : Nat} {t : Nat → Nat} (a : q.Ed S H t) {x : Nat} (hx : x < q.n) (hS : S x = true) (hr : q.r x < q.d x) (hd : q.d x ≤ H) (ht : q.d x ≤ t x) : q.Over S := by
  obtain ⟨s, s1, s2, s3⟩ := run_back (fun h => q.at S t h = q.K ∧ ∀ j, j < q.n → S j = true → t j = h → q.lt j x) (q.d x)
  have s4 : s ≤ q.r x := by
    apply Classical.byContradiction
    intro c
    rcases s3 with e | e
    · omega
    · exact e (a.gre x hx hS (s - 1) (by omega) (by omega) (by omega))
  have z1 : ∀ i, i < q.n → S i = true → s ≤ t i → t i < q.d x → s ≤ q.r i ∧ q.d i ≤ q.d x := fun i hi hSi h1 h2 => by
    have h3 := (s2 (t i) h1 h2).2 i hi hSi rfl
    refine ⟨?_, Sh.lt_due h3⟩
    apply Classical.byContradiction
    intro c
    rcases s3 with e | e
    · omega
    · obtain ⟨g1, g2⟩ := a.gre i hi hSi (s - 1) (by omega) (by omega) (by omega)
      exact e ⟨g1, fun j hj hSj htj => Sh.lt_trans (g2 j hj hSj htj) h3⟩
  have n1 := cntN_hours_ge S t q.n s q.K (q.d x - s) (fun h h1 h2 => by
    have := (s2 h h1 (by omega)).1
    unfold Sh.at at this
    omega)
  rw [show s + (q.d x - s) = q.d x by omega] at n1
  have n3 := cntN_put (f := fun i => S i && (decide (s ≤ t i) && decide (t i < q.d x))) (g := fun i => (S i && (decide (s ≤ t i) && decide (t i < q.d x))) || i == x) hx (fun i _ hne => by simp [hne]) (by simp; omega) (by simp)
  have n4 : cntN q.n (fun i => (S i && (decide (s ≤ t i) && decide (t i < q.d x))) || i == x) ≤ cntN q.n (fun i => S i && (decide (s ≤ q.r i) && decide (q.d i ≤ q.d x))) := cntN_le fun i hi hc => by
    simp only [Bool.or_eq_true, Bool.and_eq_true, decide_eq_true_eq, beq_iff_eq] at hc ⊢
    rcases hc with ⟨c1, c2, c3⟩ | c
    · obtain ⟨z2, z3⟩ := z1 i hi c1 c2 c3
      exact ⟨c1, by omega, by omega⟩
    · subst c
      exact ⟨hS, by omega, by omega⟩
  exact ⟨s, q.d x, s1, by omega⟩

theorem Sh.Full.congr {q : Sh} {S T : Nat → Bool} {t : Nat → Nat} (a : q.Full S t) (h : ∀ i, S i = T i) : q.Full T t := by
  have : S = T := funext h
  exact this ▸ a

/-- On its way a load finds room in the end, or is too late. -/
theorem Sh.Way.ends {q : Sh} (hr : ∀ i, i < q.n → q.r i < q.d i) : ∀ (m : Nat) {W : Nat → Bool} {t : Nat → Nat} {z h : Nat}, q.Way W t z h → (∀ i, i < q.n → q.d i ≤ h + m) → (∃ u, q.Full (putS W z) u) ∨ q.Over (putS W z)
  | 0, W, t, z, h, a, hm => .inr (a.full.over a.lt (mem_put.2 (.inr rfl)) (hr z a.lt) (hm z a.lt) (by have := hm z a.lt; simp [setT]; omega))
  | m + 1, W, t, z, h, a, hm => by
    by_cases hd : q.d z ≤ h
    · exact .inr (a.full.over a.lt (mem_put.2 (.inr rfl)) (hr z a.lt) hd (by simp [setT]; exact hd))
    · by_cases hK : q.at W t h < q.K
      · exact .inl ⟨_, a.room (by omega) hK⟩
      · have hK2 : q.at W t h = q.K := by have := a.few h; omega
        by_cases hl : ∀ j, j < q.n → W j = true → t j = h → q.lt j z
        · exact Sh.Way.ends hr m (a.pass hK2 hl) (fun i hi => by have := hm i hi; omega)
        · -- the last one of the hour
          have hex : ∃ j, j < q.n ∧ W j = true ∧ t j = h ∧ ¬ q.lt j z := by
            apply Classical.byContradiction
            intro c
            exact hl fun j h1 h2 h3 => Classical.byContradiction fun h4 => c ⟨j, h1, h2, h3, h4⟩
          have hmax : ∃ y, (y < q.n ∧ W y = true ∧ t y = h ∧ ¬ q.lt y z) ∧ ∀ j, j < q.n → W j = true → t j = h → j ≠ y → q.lt j y := by
            obtain ⟨j0, j1, j2, j3, j4⟩ := hex
            have aux : ∀ k, k ≤ q.n → ∃ y, (y < q.n ∧ W y = true ∧ t y = h ∧ ¬ q.lt y z) ∧ ∀ j, j < k → W j = true → t j = h → j ≠ y → q.lt j y := by
              intro k
              induction k with
              | zero => intro _; exact ⟨j0, ⟨j1, j2, j3, j4⟩, fun j hj => by omega⟩
              | succ k ih =>
                intro hk
                obtain ⟨y, ⟨y1, y2, y3, y4⟩, y5⟩ := ih (by omega)
                by_cases c : W k = true ∧ t k = h ∧ q.lt y k
                · refine ⟨k, ⟨by omega, c.1, c.2.1, fun e => y4 (Sh.lt_trans c.2.2 e)⟩, fun j hj hj2 hj3 hj4 => ?_⟩
                  by_cases e : j = y
                  · rw [e]; exact c.2.2
                  · exact Sh.lt_trans (y5 j (by omega) hj2 hj3 e) c.2.2
                · refine ⟨y, ⟨y1, y2, y3, y4⟩, fun j hj hj2 hj3 hj4 => ?_⟩
                  by_cases e : j = k
                  · subst e
                    rcases Sh.lt_total (q := q) hj4 with e | e
                    · exact e
                    · exact absurd ⟨hj2, hj3, e⟩ c
                  · exact y5 j (by omega) hj2 hj3 hj4
            exact aux q.n (Nat.le_refl _)
          obtain ⟨y, ⟨y1, y2, y3, y4⟩, y5⟩ := hmax
          have hzy : q.lt z y := by
            have hne : z ≠ y := fun e => by subst e; rw [a.out] at y2; cases y2
            rcases Sh.lt_total (q := q) hne with e | e
            · exact e
            · exact absurd e y4
          have hsame : ∀ i, putS (putS (delS W y) z) y i = putS W z i := fun i => by
            by_cases e : i = y
            · subst e; simp [putS, y2]
            · have hb : (i != y) = true := by simpa using e
              have hb2 : (i == y) = false := by simpa using e
              simp [putS, delS, hb, hb2]
          have hS : putS (putS (delS W y) z) y = putS W z := funext hsame
          have := Sh.Way.ends hr m (a.swap hK2 y1 y2 y3 hzy y5 (by omega)) (fun i hi => by have := hm i hi; omega)
          rw [hS] at this
          exact this

/-- A set has a rota, or too many loads in some hours. -/
theorem Sh.full_or (q : Sh) (hr : ∀ i, i < q.n → q.r i < q.d i) (S : Nat → Bool) : (∃ t, q.Full S t) ∨ q.Over S := by
  obtain ⟨D, hD⟩ : ∃ D, ∀ i, i < q.n → q.d i ≤ D := by
    have : ∀ k, ∃ D, ∀ i, i < k → q.d i ≤ D := fun k => by
      induction k with
      | zero => exact ⟨0, fun i hi => by omega⟩
      | succ k ih =>
        obtain ⟨D, h⟩ := ih
        exact ⟨max D (q.d k), fun i hi => by
          by_cases e : i = k
          · subst e; omega
          · have := h i (by omega); omega⟩
    exact this q.n
  have aux : ∀ k, k ≤ q.n → (∃ t, q.Full (fun i => S i && decide (i < k)) t) ∨ q.Over S := by
    intro k
    induction k with
    | zero => intro _; exact .inl ⟨fun _ => 0, (Sh.Full.none q _).congr fun i => by simp⟩
    | succ k ih =>
      intro hk
      rcases ih (by omega) with ⟨t, h⟩ | h
      · by_cases c : S k = true
        · have hw := h.way (z := k) (by omega) (by simp)
          have e : ∀ i, putS (fun i => S i && decide (i < k)) k i = (S i && decide (i < k + 1)) := fun i => by
            by_cases e : i = k
            · subst e; simp [putS, c]
            · have hb2 : (i == k) = false := by simpa using e
              have : (decide (i < k)) = (decide (i < k + 1)) := by rw [decide_eq_decide]; omega
              simp [putS, hb2, this]
          rcases hw.ends hr D (fun i hi => by have := hD i hi; omega) with ⟨u, hu⟩ | ho
          · exact .inl ⟨u, hu.congr e⟩
          · exact .inr (ho.more fun i hi hc => by rw [e] at hc; simp at hc; exact hc.1)
        · exact .inl ⟨t, h.congr fun i => by
            by_cases e : i = k
            · subst e; simp at c; simp [c]
            · have : (decide (i < k)) = (decide (i < k + 1)) := by rw [decide_eq_decide]; omega
              simp [this]⟩
      · exact .inr h
  rcases aux q.n (Nat.le_refl _) with ⟨t, h⟩ | h
  · refine .inl ⟨t, ?_⟩
    have e : ∀ i, i < q.n → (S i && decide (i < q.n)) = S i := fun i hi => by simp [hi]
    have ha : ∀ g, q.at S t g = q.at (fun i => S i && decide (i < q.n)) t g := fun g => cntN_congr fun i hi => by simp only [e i hi]
    exact ⟨fun i hi hS => h.rdy i hi (by rw [e i hi]; exact hS), fun g => by rw [ha]; exact h.few g, fun i hi hS g h1 h2 => by
      obtain ⟨g1, g2⟩ := h.gre i hi (by rw [e i hi]; exact hS) g h1 h2
      exact ⟨by rw [ha]; exact g1, fun j hj hSj => g2 j hj (by rw [e j hj]; exact hSj)⟩, fun i hi hS => h.tim i hi (by rw [e i hi]; exact hS)⟩
  · exact .inr h
theorem Sh.fit_iff (q : Sh) (hr : ∀ i, i < q.n → q.r i < q.d i) (S : Nat → Bool) : q.Fit S ↔ ∃ t, q.Full S t := by
  constructor
  · intro h
    rcases q.full_or hr S with h1 | h1
    · exact h1
    · exact absurd h h1.none
  · rintro ⟨t, h⟩; exact h.fit

/-- The hours of some loads, hour by hour. -/
theorem cntN_set (f : Nat → Bool) (t : Nat → Nat) (u : Nat → Bool) (n : Nat) (K : Nat) : ∀ D : Nat, (∀ h, h < D → u h = true → cntN n (fun i => f i && t i == h) ≤ K) → cntN n (fun i => f i && (u (t i) && decide (t i < D))) ≤ K * cntN D u
  | 0, _ => by
    rw [cntN_none]
    · exact Nat.zero_le _
    · intro i _
      simp
  | D + 1, h => by
    have ih := cntN_set f t u n K D (fun v h1 h2 => h v (by omega) h2)
    rw [cntN_or (g := fun i => f i && (u (t i) && decide (t i < D))) (h := fun i => u D && (f i && t i == D))]
    · rw [cntN, Nat.mul_add]
      cases c : u D with
      | true =>
        have := h D (by omega) c
        simp only [Bool.true_and, if_pos, Nat.mul_one]
        omega
      | false =>
        rw [cntN_none (f := fun i => false && (f i && t i == D)) (fun _ _ => by simp)]
        simp
        exact ih
    · intro i _
      by_cases c : t i = D
      · subst c; cases f i <;> simp
      · have hb : (t i == D) = false := by simpa using c
        have : (decide (t i < D + 1)) = (decide (t i < D)) := by rw [decide_eq_decide]; omega
        rw [this, hb]
        simp
    · intro i _
      simp
      omega
theorem cntN_set_ge (f : Nat → Bool) (t : Nat → Nat) (u : Nat → Bool) (n : Nat) (K : Nat) : ∀ D : Nat, (∀ h, h < D → u h = true → K ≤ cntN n (fun i => f i && t i == h)) → K * cntN D u ≤ cntN n (fun i => f i && (u (t i) && decide (t i < D)))
  | 0, _ => by simp [cntN]
  | D + 1, h => by
    have ih := cntN_set_ge f t u n K D (fun v h1 h2 => h v (by omega) h2)
    rw [cntN_or (f := fun i => f i && (u (t i) && decide (t i < D + 1))) (g := fun i => f i && (u (t i) && decide (t i < D))) (h := fun i => u D && (f i && t i == D))]
    · rw [cntN, Nat.mul_add]
      cases c : u D with
      | true =>
        have := h D (by omega) c
        simp only [Bool.true_and, if_pos, Nat.mul_one]
        omega
      | false =>
        rw [cntN_none (f := fun i => false && (f i && t i == D)) (fun _ _ => by simp)]
        simp
        exact ih
    · intro i _
      by_cases c : t i = D
      · subst c; cases f i <;> simp
      · have hb : (t i == D) = false := by simpa using c
        have : (decide (t i < D + 1)) = (decide (t i < D)) := by rw [decide_eq_decide]; omega
        rw [this, hb]
        simp
    · intro i _
      simp
      omega
theorem cntN_eq {f g : Nat → Bool} {n : Nat} (h : ∀ i, i < n → f i = true → g i = true) (hc : cntN n g ≤ cntN n f) : ∀ i, i < n → g i = true → f i = true := fun i hi hg => by
  apply Classical.byContradiction
  intro hf
  have hf : f i = false := by simpa using hf
  have h2 := cntN_put (f := f) (g := fun k => f k || k == i) hi (fun k _ hne => by simp [hne]) hf (by simp)
  have h3 : cntN n (fun k => f k || k == i) ≤ cntN n g := cntN_le fun k hk hc => by
    simp only [Bool.or_eq_true, beq_iff_eq] at hc
    rcases hc with c | c
    · exact h k hk c
    · exact c ▸ hg
  omega

/-- Hours that are full with loads that can't be elsewhere. -/
theorem Sh.tight {q : Sh} {A : Nat → Bool} {t : Nat → Nat} (h1 : ∀ i, i < q.n → A i = true → q.r i ≤ t i ∧ t i < q.d i) (h2 : ∀ h, q.at A t h ≤ q.K) {s e : Nat} (hse : s ≤ e) (ht : q.K * (e - s) ≤ cntN q.n (fun i => A i && (decide (s ≤ q.r i) && decide (q.d i ≤ e)))) :
    (∀ i, i < q.n → A i = true → s ≤ t i → t i < e → s ≤ q.r i ∧ q.d i ≤ e) ∧ ∀ h, s ≤ h → h < e → q.at A t h = q.K := by
  have n1 := cntN_hours A t q.n s q.K (e - s) (fun h _ _ => h2 h)
  rw [show s + (e - s) = e by omega] at n1
  have sub : ∀ i, i < q.n → (A i && (decide (s ≤ q.r i) && decide (q.d i ≤ e))) = true → (A i && (decide (s ≤ t i) && decide (t i < e))) = true := fun i hi hc => by
    simp only [Bool.and_eq_true, decide_eq_true_eq] at hc ⊢
    obtain ⟨v1, v2⟩ := h1 i hi hc.1
    exact ⟨hc.1, by omega, by omega⟩
  refine ⟨fun i hi hA c1 c2 => ?_, fun h c1 c2 => ?_⟩
  · have := cntN_eq sub (by omega) i hi (by simp [hA, c1, c2])
    simp only [Bool.and_eq_true, decide_eq_true_eq] at this
    exact this.2
  · apply Classical.byContradiction
    intro hne
    have h3 := h2 h
    have m1 := cntN_hours A t q.n s q.K (h - s) (fun g _ _ => h2 g)
    have m2 := cntN_hours A t q.n (h + 1) q.K (e - (h + 1)) (fun g _ _ => h2 g)
    rw [show s + (h - s) = h by omega] at m1
    rw [show h + 1 + (e - (h + 1)) = e by omega] at m2
    have m3 : cntN q.n (fun i => A i && (decide (s ≤ t i) && decide (t i < e))) = cntN q.n (fun i => A i && (decide (s ≤ t i) && decide (t i < h))) + cntN q.n (fun i => (A i && t i == h) || (A i && (decide (h + 1 ≤ t i) && decide (t i < e)))) := by
      refine cntN_or (fun i _ => ?_) (fun i _ => ?_)
      · cases A i <;> simp
        by_cases c : t i = h
        · subst c; simp; omega
        · have hb : (t i == h) = false := by simpa using c
          rw [hb, Bool.eq_iff_iff]
          simp
          omega
      · simp
        omega
    have m4 : cntN q.n (fun i => (A i && t i == h) || (A i && (decide (h + 1 ≤ t i) && decide (t i < e)))) = cntN q.n (fun i => A i && t i == h) + cntN q.n (fun i => A i && (decide (h + 1 ≤ t i) && decide (t i < e))) := by
      refine cntN_or (fun i _ => rfl) (fun i _ => ?_)
      simp
      omega
    have m5 := cntN_le sub
    unfold Sh.at at h3 hne
    have m6 : q.K * (e - s) = q.K * (h - s) + q.K + q.K * (e - (h + 1)) := by
      rw [show e - s = (h - s) + 1 + (e - (h + 1)) by omega, Nat.mul_add, Nat.mul_add]
      omega
    omega

theorem dec_fun (P : Nat → Prop) : ∃ u : Nat → Bool, ∀ h, u h = true ↔ P h := ⟨fun h => @decide (P h) (Classical.propDecidable _), fun h => by simp⟩

/-- No set that fits has more loads than one to which none of its loads can be added. -/
theorem Sh.exchange {q : Sh} (hr : ∀ i, i < q.n → q.r i < q.d i) {A B : Nat → Bool} (hA : q.Fit A) (hB : q.Fit B) (hno : ∀ b, b < q.n → B b = true → A b = false → ¬ q.Fit (putS A b)) : cntN q.n B ≤ cntN q.n A := by
  obtain ⟨t, t1, t2⟩ := id hA
  obtain ⟨v, v1, v2⟩ := hB
  obtain ⟨u, hu⟩ : ∃ u : Nat → Bool, ∀ h, u h = true ↔ ∃ s e, s ≤ h ∧ h < e ∧ q.K * (e - s) ≤ cntN q.n (fun i => A i && (decide (s ≤ q.r i) && decide (q.d i ≤ e))) := dec_fun _
  obtain ⟨win, hwin⟩ : ∃ u2 : Nat → Bool, ∀ i, u2 i = true ↔ ∀ h, q.r i ≤ h → h < q.d i → u h = true := dec_fun _
  obtain ⟨D, hD⟩ : ∃ D, ∀ i, i < q.n → t i < D ∧ v i < D := by
    have : ∀ k, ∃ D, ∀ i, i < k → t i < D ∧ v i < D := fun k => by
      induction k with
      | zero => exact ⟨0, fun i hi => by omega⟩
      | succ k ih =>
        obtain ⟨D, h⟩ := ih
        exact ⟨max D (max (t k) (v k) + 1), fun i hi => by
          by_cases e : i = k
          · subst e; omega
          · have := h i (by omega); omega⟩
    exact this q.n
  -- those whose hours are all full
  have b1 : cntN q.n (fun i => B i && win i) ≤ q.K * cntN D u := by
    refine Nat.le_trans (cntN_le (g := fun i => B i && (u (v i) && decide (v i < D))) fun i hi hc => ?_) (cntN_set B v u q.n q.K D (fun h _ _ => v2 h))
    simp only [Bool.and_eq_true, decide_eq_true_eq] at hc ⊢
    obtain ⟨w1, w2⟩ := v1 i hi hc.1
    exact ⟨hc.1, (hwin i).1 hc.2 _ w1 w2, (hD i hi).2⟩
  have a1 : q.K * cntN D u ≤ cntN q.n (fun i => A i && win i) := by
    refine Nat.le_trans (cntN_set_ge A t u q.n q.K D (fun h _ hh => ?_)) (cntN_le fun i hi hc => ?_)
    · obtain ⟨s, e, c1, c2, c3⟩ := (hu h).1 hh
      have := (Sh.tight t1 t2 (by omega) c3).2 h c1 c2
      unfold Sh.at at this
      omega
    · simp only [Bool.and_eq_true, decide_eq_true_eq] at hc ⊢
      obtain ⟨s, e, c1, c2, c3⟩ := (hu _).1 hc.2.1
      obtain ⟨d1, d2⟩ := (Sh.tight t1 t2 (by omega) c3).1 i hi hc.1 c1 c2
      exact ⟨hc.1, (hwin i).2 fun h h3 h4 => (hu h).2 ⟨s, e, by omega, by omega, c3⟩⟩
  have b2 : cntN q.n (fun i => B i && !win i) ≤ cntN q.n (fun i => A i && !win i) := cntN_le fun i hi hc => by
    simp only [Bool.and_eq_true, Bool.not_eq_true'] at hc ⊢
    refine ⟨?_, hc.2⟩
    cases hAi : A i with
    | true => rfl
    | false =>
      exfalso
      have hnf := hno i hi hc.1 hAi
      rcases q.full_or hr (putS A i) with ⟨t', h⟩ | ⟨s, e, h3, h4⟩
      · exact hnf h.fit
      · have h5 := hA.hall h3
        by_cases c : s ≤ q.r i ∧ q.d i ≤ e
        · have h6 := cntN_put (f := fun k => A k && (decide (s ≤ q.r k) && decide (q.d k ≤ e))) (g := fun k => putS A i k && (decide (s ≤ q.r k) && decide (q.d k ≤ e))) hi (fun k _ hne => by
            have hb : (k == i) = false := by simpa using hne
            simp [putS, hb]) (by simp [hAi]) (by simp [putS, c.1, c.2])
          have hw : win i = true := (hwin i).2 fun h h7 h8 => (hu h).2 ⟨s, e, by omega, by omega, by omega⟩
          rw [hw] at hc
          cases hc.2
        · have h6 : cntN q.n (fun k => putS A i k && (decide (s ≤ q.r k) && decide (q.d k ≤ e))) ≤ cntN q.n (fun k => A k && (decide (s ≤ q.r k) && decide (q.d k ≤ e))) := cntN_le fun k hk hk2 => by
            simp only [Bool.and_eq_true, decide_eq_true_eq] at hk2 ⊢
            rcases mem_put.1 hk2.1 with e2 | e2
            · exact ⟨e2, hk2.2⟩
            · subst e2; exact absurd hk2.2 c
          omega
  have sp : ∀ f : Nat → Bool, cntN q.n f = cntN q.n (fun i => f i && win i) + cntN q.n (fun i => f i && !win i) := fun f => cntN_or (fun i _ => by cases f i <;> cases win i <;> rfl) (fun i _ => by cases f i <;> cases win i <;> simp)
  rw [sp A, sp B]
  omega
end Go.Proofs.Ytkofnhimgegcnaa

namespace Go.Proofs.Ytkofnhimgegcnaa

/-- The sum of a function over those of a list that are in a set. -/
def sumV (v : Nat → Nat) (S : Nat → Bool) (O : List Nat) : Nat := (O.map fun i => if S i = true then v i else 0).sum
theorem sumV_cons (v : Nat → Nat) (S : Nat → Bool) (i : Nat) (O : List Nat) : sumV v S (i :: O) = (if S i = true then v i else 0) + sumV v S O := by simp [sumV]
theorem sumV_snoc (v : Nat → Nat) (S : Nat → Bool) (i : Nat) (O : List Nat) : sumV v S (O ++ [i]) = sumV v S O + (if S i = true then v i else 0) := by simp [sumV, List.sum_append]
theorem sumV_perm {v : Nat → Nat} {S : Nat → Bool} {O P : List Nat} (h : O.Perm P) : sumV v S O = sumV v S P := (h.map _).sum_nat

theorem cnt_list (S : Nat → Bool) (n : Nat) : ∀ (L : List Nat), L.Nodup → (∀ i ∈ L, i < n) → cntN n (fun i => S i && decide (i ∈ L)) = L.countP S
  | [], _, _ => by rw [cntN_none (fun i _ => by simp)]; rfl
  | x :: L, hn, hb => by
    obtain ⟨h1, h2⟩ := List.nodup_cons.1 hn
    have ih := cnt_list S n L h2 fun i hi => hb i (by simp [hi])
    rw [List.countP_cons, ← ih]
    cases hx : S x with
    | true =>
      rw [cntN_put (f := fun i => S i && decide (i ∈ L)) (x := x) (hb x (by simp))]
      · simp
      · intro i _ hne; simp [hne]
      · simp [h1]
      · simp [hx]
    | false =>
      simp
      refine cntN_congr fun i _ => ?_
      by_cases e : i = x
      · subst e; simp [hx]
      · simp [e]

theorem abel (v : Nat → Nat) (B G : Nat → Bool) (O : List Nat) (hs : O.Pairwise (fun a b => v b ≤ v a)) (hc : ∀ k, (O.take k).countP B ≤ (O.take k).countP G) : ∀ k, k ≤ O.length → ∀ w, (∀ i ∈ O.take k, w ≤ v i) → sumV v B (O.take k) + w * ((O.take k).countP G - (O.take k).countP B) ≤ sumV v G (O.take k)
  | 0, _, w, _ => by simp [sumV]
  | k + 1, hk, w, hw => by
    obtain ⟨i, hi⟩ : ∃ i, i = O[k] := ⟨_, rfl⟩
    have e : O.take (k + 1) = O.take k ++ [i] := by rw [hi, List.take_succ_eq_append_getElem]
    have ih := abel v B G O hs hc k (by omega) (v i) (fun j hj => by
      obtain ⟨m, hm⟩ := List.getElem?_of_mem hj
      obtain ⟨m1, m2⟩ := List.getElem?_eq_some_iff.1 hm
      rw [List.getElem_take] at m2
      rw [List.length_take] at m1
      have := List.pairwise_iff_getElem.1 hs m k (by omega) (by omega) (by omega)
      rw [← m2, hi]
      exact this)
    have h0 := hc k
    have h1 := hc (k + 1)
    have hwi : w ≤ v i := hw i (by rw [e]; simp)
    rw [e] at h1 ⊢
    rw [sumV_snoc, sumV_snoc, List.countP_append, List.countP_append] at *
    simp only [List.countP_cons, List.countP_nil, Nat.zero_add] at h1 ⊢
    generalize (O.take k).countP G = g at *
    generalize (O.take k).countP B = b at *
    generalize sumV v B (O.take k) = x at *
    generalize sumV v G (O.take k) = y at *
    generalize v i = a at *
    have m1 : w * (g - b) ≤ a * (g - b) := Nat.mul_le_mul_right _ hwi
    cases hB : B i <;> cases hG : G i <;> simp only [hB, hG, if_true, Bool.false_eq_true, if_false, Nat.add_zero] at h1 ⊢
    · omega
    · have m2 : w * (g + 1 - b) ≤ a * (g + 1 - b) := Nat.mul_le_mul_right _ hwi
      rw [show g + 1 - b = (g - b) + 1 by omega, Nat.mul_add, Nat.mul_add] at m2
      rw [show g + 1 - b = (g - b) + 1 by omega, Nat.mul_add]
      omega
    · have m2 : w * (g - (b + 1)) ≤ a * (g - (b + 1)) := Nat.mul_le_mul_right _ hwi
      have m3 : a * (g - b) = a * (g - (b + 1)) + a := by
        rw [show g - b = (g - (b + 1)) + 1 by omega, Nat.mul_add]
        omega
      omega
    · rw [show g + 1 - (b + 1) = g - b by omega]
      omega

/-- A set that was taken load by load, each that fits. -/
structure Sh.Greedy (q : Sh) (O : List Nat) (G : Nat → Bool) : Prop where
  inn : ∀ i, G i = true → i ∈ O
  all : ∀ j i, O[j]? = some i → (G i = true ↔ q.Fit (putS (fun i => G i && decide (i ∈ O.take j)) i))

theorem take_nodup {O : List Nat} (hn : O.Nodup) {j i : Nat} (h : O[j]? = some i) : i ∉ O.take j ∧ ∀ x, x ∈ O.take (j + 1) ↔ x ∈ O.take j ∨ x = i := by
  obtain ⟨h1, h2⟩ := List.getElem?_eq_some_iff.1 h
  refine ⟨fun hm => ?_, fun x => ?_⟩
  · obtain ⟨m, hm⟩ := List.getElem?_of_mem hm
    obtain ⟨m1, m2⟩ := List.getElem?_eq_some_iff.1 hm
    rw [List.getElem_take] at m2
    rw [List.length_take] at m1
    have := List.pairwise_iff_getElem.1 hn m j (by omega) h1 (by omega)
    exact this (m2.trans h2.symm)
  · rw [List.take_succ_eq_append_getElem h1, h2]
    simp

theorem Sh.Greedy.fit {q : Sh} {O : List Nat} {G : Nat → Bool} (h : q.Greedy O G) (hn : O.Nodup) : ∀ k, k ≤ O.length → q.Fit (fun i => G i && decide (i ∈ O.take k))
  | 0, _ => (Sh.Full.none q (fun _ => 0)).fit.less fun i _ hc => by simp at hc
  | k + 1, hk => by
    obtain ⟨i, hi⟩ : ∃ i, O[k]? = some i := ⟨_, List.getElem?_eq_getElem (by omega)⟩
    obtain ⟨t1, t2⟩ := take_nodup hn hi
    have ih := h.fit hn k (by omega)
    by_cases c : G i = true
    · exact ((h.all k i hi).1 c).less fun x _ hx => by
        simp only [Bool.and_eq_true, decide_eq_true_eq] at hx
        rcases (t2 x).1 hx.2 with e | e
        · exact mem_put.2 (.inl (by simp [hx.1, e]))
        · exact mem_put.2 (.inr e)
    · exact ih.less fun x _ hx => by
        simp only [Bool.and_eq_true, decide_eq_true_eq] at hx ⊢
        rcases (t2 x).1 hx.2 with e | e
        · exact ⟨hx.1, e⟩
        · subst e; exact absurd hx.1 c

/-- No set that fits is worth more. -/
theorem Sh.Greedy.best {q : Sh} (hr : ∀ i, i < q.n → q.r i < q.d i) {O : List Nat} {G B : Nat → Bool} (h : q.Greedy O G) (hn : O.Nodup) (hb : ∀ i ∈ O, i < q.n) (v : Nat → Nat) (hs : O.Pairwise (fun a b => v b ≤ v a)) (hB : q.Fit B) : sumV v B O ≤ sumV v G O := by
  have := abel v B G O hs (fun k => by
    by_cases hk : k ≤ O.length
    · have hnk : (O.take k).Nodup := hn.sublist (List.take_sublist _ _)
      have hbk : ∀ i ∈ O.take k, i < q.n := fun i hi => hb i (List.mem_of_mem_take hi)
      rw [← cnt_list B q.n _ hnk hbk, ← cnt_list G q.n _ hnk hbk]
      refine Sh.exchange hr (h.fit hn k hk) (hB.less fun i _ hc => by simp at hc; exact hc.1) fun b hbn hBb hGb hf => ?_
      simp only [Bool.and_eq_true, decide_eq_true_eq] at hBb
      have hGf : G b = false := by
        cases c : G b with
        | false => rfl
        | true => simp [c, hBb.2] at hGb
      obtain ⟨j, hj⟩ := List.getElem?_of_mem hBb.2
      obtain ⟨j1, j2⟩ := List.getElem?_eq_some_iff.1 hj
      rw [List.getElem_take] at j2
      rw [List.length_take] at j1
      have hj' : O[j]? = some b := by rw [List.getElem?_eq_getElem (by omega), j2]
      have := (h.all j b hj').2 (hf.less fun x _ hx => by
        rcases mem_put.1 hx with e | e
        · simp only [Bool.and_eq_true, decide_eq_true_eq] at e
          refine mem_put.2 (.inl ?_)
          simp only [Bool.and_eq_true, decide_eq_true_eq]
          refine ⟨e.1, ?_⟩
          have hsub : O.take j = (O.take k).take j := by rw [List.take_take]; congr 1; omega
          rw [hsub] at e
          exact List.mem_of_mem_take e.2
        · exact mem_put.2 (.inr e))
      rw [hGf] at this
      cases this
    · rw [List.take_of_length_le (by omega)]
      have hbO : ∀ i ∈ O, i < q.n := hb
      rw [← cnt_list B q.n _ hn hbO, ← cnt_list G q.n _ hn hbO]
      have hf := h.fit hn O.length (Nat.le_refl _)
      rw [List.take_length] at hf
      refine Sh.exchange hr hf (hB.less fun i _ hc => by simp at hc; exact hc.1) fun b hbn hBb hGb hf2 => ?_
      simp only [Bool.and_eq_true, decide_eq_true_eq] at hBb
      have hGf : G b = false := by
        cases c : G b with
        | false => rfl
        | true => simp [c, hBb.2] at hGb
      obtain ⟨j, hj'⟩ := List.getElem?_of_mem hBb.2
      have := (h.all j b hj').2 (hf2.less fun x _ hx => by
        rcases mem_put.1 hx with e | e
        · simp only [Bool.and_eq_true, decide_eq_true_eq] at e
          refine mem_put.2 (.inl ?_)
          simp only [Bool.and_eq_true, decide_eq_true_eq]
          exact ⟨e.1, List.mem_of_mem_take e.2⟩
        · exact mem_put.2 (.inr e))
      rw [hGf] at this
      cases this) O.length (Nat.le_refl _) 0 (fun _ _ => Nat.zero_le _)
  rw [List.take_length] at this
  omega

/-- There is one such set. -/
theorem Sh.Greedy.unique {q : Sh} {O : List Nat} {G G' : Nat → Bool} (h : q.Greedy O G) (h' : q.Greedy O G') : G = G' := by
  have aux : ∀ k, k ≤ O.length → ∀ i ∈ O.take k, G i = G' i := by
    intro k
    induction k with
    | zero => intro _ i hi; simp at hi
    | succ k ih =>
      intro hk i hi
      obtain ⟨x, hx⟩ : ∃ i, O[k]? = some i := ⟨_, List.getElem?_eq_getElem (by omega)⟩
      obtain ⟨h1, h2⟩ := List.getElem?_eq_some_iff.1 hx
      rw [List.take_succ_eq_append_getElem h1, h2] at hi
      rcases List.mem_append.1 hi with e | e
      · exact ih (by omega) i e
      · simp at e
        subst e
        have hsame : (fun y => G y && decide (y ∈ O.take k)) = (fun y => G' y && decide (y ∈ O.take k)) := funext fun y => by
          by_cases c : y ∈ O.take k
          · rw [ih (by omega) y c]
          · simp [c]
        have a := h.all k i hx
        have b := h'.all k i hx
        rw [hsame] at a
        rw [Bool.eq_iff_iff, a, b]
  funext i
  by_cases c : i ∈ O
  · exact aux O.length (Nat.le_refl _) i (by rw [List.take_length]; exact c)
  · have h1 : G i = false := by
      cases e : G i with
      | false => rfl
      | true => exact absurd (h.inn i e) c
    have h2 : G' i = false := by
      cases e : G' i with
      | false => rfl
      | true => exact absurd (h'.inn i e) c
    rw [h1, h2]
end Go.Proofs.Ytkofnhimgegcnaa

namespace Go.Proofs.Ytkofnhimgegcnaa

/-- The rota hour by hour, before an hour: those that are done have one before it. -/
def doneT (dn : Nat → Bool) (t : Nat → Nat) (H : Nat) : Nat → Nat := fun i => if dn i = true then t i else H
structure Sh.Part (q : Sh) (S : Nat → Bool) (H : Nat) (dn : Nat → Bool) (t : Nat → Nat) : Prop where
  sub : ∀ i, dn i = true → S i = true
  lt : ∀ i, dn i = true → t i < H
  ed : q.Ed S H (doneT dn t H)
  tim : ∀ i, i < q.n → dn i = true → t i < q.d i
/-- Within an hour: k have come. -/
structure Sh.Pick (q : Sh) (S : Nat → Bool) (H : Nat) (dn : Nat → Bool) (t : Nat → Nat) (k : Nat) : Prop where
  sub : ∀ i, dn i = true → S i = true
  le : ∀ i, dn i = true → t i ≤ H
  ed : q.Ed S H (doneT dn t H)
  tim : ∀ i, i < q.n → dn i = true → t i < q.d i
  cnt : cntN q.n (fun i => dn i && t i == H) = k
  rdy : ∀ i, i < q.n → dn i = true → t i = H → q.r i ≤ H
  pri : ∀ j, j < q.n → dn j = true → t j = H → ∀ i, i < q.n → S i = true → dn i = false → q.r i ≤ H → q.lt j i

theorem Sh.Part.start (q : Sh) (S : Nat → Bool) (t : Nat → Nat) : q.Part S 0 (fun _ => false) t :=
  ⟨fun _ h => by simp at h, fun _ h => by simp at h, ⟨fun _ _ _ h => by omega, fun _ h => by omega, fun _ _ _ _ _ h => by omega⟩, fun _ _ h => by simp at h⟩

theorem done_at {q : Sh} {S dn : Nat → Bool} {t : Nat → Nat} (hs : ∀ i, dn i = true → S i = true) {H h : Nat} (hh : h < H) : q.at S (doneT dn t H) h = cntN q.n (fun i => dn i && t i == h) := by
  unfold Sh.at
  refine cntN_congr fun i _ => ?_
  unfold doneT
  cases c : dn i with
  | true => rw [hs i c]; simp
  | false =>
    simp
    omega

theorem Sh.Part.skip {q : Sh} {S dn : Nat → Bool} {t : Nat → Nat} {H H' : Nat} (a : q.Part S H dn t) (hH : H ≤ H') (hn : ∀ i, i < q.n → S i = true → dn i = false → H' ≤ q.r i) : q.Part S H' dn t := by
  refine ⟨a.sub, fun i hi => by have := a.lt i hi; omega, ⟨fun i hi hS ht => ?_, fun h hh => ?_, fun i hi hS h h1 h2 h3 => ?_⟩, a.tim⟩
  · unfold doneT at ht ⊢
    cases c : dn i with
    | false => rw [c] at ht; simp at ht
    | true =>
      have := a.ed.rdy i hi hS (by unfold doneT; rw [if_pos c]; exact a.lt i c)
      unfold doneT at this
      rw [if_pos c] at this
      simp
      exact this
  · rw [done_at a.sub hh]
    by_cases c : h < H
    · rw [← done_at (q := q) a.sub c]; exact a.ed.few h c
    · rw [cntN_none]
      · exact Nat.zero_le _
      · intro i _
        cases c2 : dn i with
        | false => rfl
        | true => have := a.lt i c2; simp; omega
  · unfold doneT at h3
    cases c : dn i with
    | false => have := hn i hi hS c; omega
    | true =>
      rw [if_pos c] at h3
      have hlt := a.lt i c
      have hhH : h < H := by omega
      rw [done_at a.sub h2, ← done_at (q := q) a.sub hhH]
      obtain ⟨g1, g2⟩ := a.ed.gre i hi hS h h1 hhH (by unfold doneT; rw [if_pos c]; exact h3)
      refine ⟨g1, fun j hj hSj htj => g2 j hj hSj ?_⟩
      unfold doneT at htj ⊢
      cases c2 : dn j with
      | true => rw [if_pos c2] at htj; simp; exact htj
      | false => rw [c2] at htj; simp at htj; omega

theorem Sh.Part.pick {q : Sh} {S dn : Nat → Bool} {t : Nat → Nat} {H : Nat} (a : q.Part S H dn t) : q.Pick S H dn t 0 :=
  ⟨a.sub, fun i hi => Nat.le_of_lt (a.lt i hi), a.ed, a.tim, cntN_none fun i _ => by
    cases c2 : dn i with
    | false => rfl
    | true => have := a.lt i c2; simp; omega, fun i _ hd ht => by have := a.lt i hd; omega, fun j _ hd ht => by have := a.lt j hd; omega⟩

theorem Sh.Pick.next {q : Sh} {S dn : Nat → Bool} {t : Nat → Nat} {H k b : Nat} (a : q.Pick S H dn t k) (hb : b < q.n) (hS : S b = true) (hd : dn b = false) (hr : q.r b ≤ H) (hlt : H < q.d b) (hm : ∀ i, i < q.n → S i = true → dn i = false → q.r i ≤ H → i ≠ b → q.lt b i) :
    q.Pick S H (putS dn b) (setT t b H) (k + 1) := by
  have hdone : ∀ i, doneT (putS dn b) (setT t b H) H i = doneT dn t H i := fun i => by
    unfold doneT
    by_cases e : i = b
    · subst e; simp [putS, setT, hd]
    · have hb2 : (i == b) = false := by simpa using e
      simp [putS, setT, e, hb2]
  have hde : doneT (putS dn b) (setT t b H) H = doneT dn t H := funext hdone
  have hpi : ∀ i, putS dn b i = true → setT t b H i = H → i ≠ b → dn i = true ∧ t i = H := fun i h1 h2 h3 => by
    simp only [setT, if_neg h3] at h2
    exact ⟨(mem_put.1 h1).resolve_right h3, h2⟩
  refine ⟨fun i hi => ?_, fun i hi => ?_, by rw [hde]; exact a.ed, fun i hi hdi => ?_, ?_, fun i hi hdi hti => ?_, fun j hj hdj htj i hi hSi hdi hri => ?_⟩
  · rcases mem_put.1 hi with e | e
    · exact a.sub i e
    · exact e ▸ hS
  · by_cases e : i = b
    · subst e; simp [setT]
    · simp only [setT, if_neg e]; exact a.le i ((mem_put.1 hi).resolve_right e)
  · by_cases e : i = b
    · subst e; simp [setT]; exact hlt
    · simp only [setT, if_neg e]; exact a.tim i hi ((mem_put.1 hdi).resolve_right e)
  · rw [← a.cnt]
    refine cntN_put hb (fun i _ hne => ?_) (by simp [hd]) (by simp [putS, setT])
    have hb2 : (i == b) = false := by simpa using hne
    simp [putS, setT, hne, hb2]
  · by_cases e : i = b
    · subst e; exact hr
    · obtain ⟨e1, e2⟩ := hpi i hdi hti e
      exact a.rdy i hi e1 e2
  · have hdi2 : dn i = false := by
      cases c : dn i with
      | false => rfl
      | true => rw [show putS dn b i = true from mem_put.2 (.inl c)] at hdi; cases hdi
    have hib : i ≠ b := fun e => by subst e; simp [putS] at hdi
    by_cases e : j = b
    · subst e; exact hm i hi hSi hdi2 hri hib
    · obtain ⟨e1, e2⟩ := hpi j hdj htj e
      exact a.pri j hj e1 e2 i hi hSi hdi2 hri

theorem Sh.Pick.part {q : Sh} {S dn : Nat → Bool} {t : Nat → Nat} {H k : Nat} (a : q.Pick S H dn t k) (hk : k ≤ q.K) (he : k = q.K ∨ ∀ i, i < q.n → S i = true → dn i = false → H < q.r i) : q.Part S (H + 1) dn t := by
  have hat : ∀ h, h < H → q.at S (doneT dn t (H + 1)) h = q.at S (doneT dn t H) h := fun h hh => by rw [done_at a.sub (by omega), done_at a.sub hh]
  have hatH : q.at S (doneT dn t (H + 1)) H = k := by rw [done_at a.sub (by omega)]; exact a.cnt
  have hdone : ∀ j h, h ≤ H → doneT dn t (H + 1) j = h → dn j = true ∧ t j = h := fun j h hh htj => by
    unfold doneT at htj
    cases c2 : dn j with
    | true => rw [if_pos c2] at htj; exact ⟨rfl, htj⟩
    | false => rw [c2] at htj; simp at htj; omega
  refine ⟨a.sub, fun i hi => by have := a.le i hi; omega, ⟨fun i hi hS ht => ?_, fun h hh => ?_, fun i hi hS h h1 h2 h3 => ?_⟩, a.tim⟩
  · obtain ⟨d1, d2⟩ := hdone i (doneT dn t (H + 1) i) (by omega) rfl
    rw [← d2]
    by_cases c : t i = H
    · rw [c]; exact a.rdy i hi d1 c
    · have hle := a.le i d1
      have := a.ed.rdy i hi hS (by unfold doneT; rw [if_pos d1]; omega)
      unfold doneT at this
      rw [if_pos d1] at this
      exact this
  · by_cases c : h = H
    · subst c; rw [hatH]; exact hk
    · rw [hat h (by omega)]; exact a.ed.few h (by omega)
  · by_cases c : h = H
    · subst c
      have hd : dn i = false := by
        cases c2 : dn i with
        | false => rfl
        | true => have := a.le i c2; unfold doneT at h3; rw [if_pos c2] at h3; omega
      rw [hatH]
      rcases he with e | e
      · exact ⟨e, fun j hj hSj htj => by
          obtain ⟨d1, d2⟩ := hdone j h (by omega) htj
          exact a.pri j hj d1 d2 i hi hS hd h1⟩
      · have := e i hi hS hd; omega
    · rw [hat h (by omega)]
      have h4 : h < doneT dn t H i := by
        unfold doneT at h3 ⊢
        cases c2 : dn i with
        | true => rw [if_pos c2] at h3; simp; exact h3
        | false => simp; omega
      obtain ⟨g1, g2⟩ := a.ed.gre i hi hS h h1 (by omega) h4
      exact ⟨g1, fun j hj hSj htj => by
        obtain ⟨d1, d2⟩ := hdone j h (by omega) htj
        exact g2 j hj hSj (by unfold doneT; rw [if_pos d1]; exact d2)⟩

/-- One is too late. -/
theorem Sh.Pick.over {q : Sh} {S dn : Nat → Bool} {t : Nat → Nat} {H k b : Nat} (a : q.Pick S H dn t k) (hb : b < q.n) (hS : S b = true) (hd : dn b = false) (hr : q.r b < q.d b) (hlt : q.d b ≤ H) : q.Over S :=
  a.ed.over hb hS hr hlt (by unfold doneT; rw [hd]; simp; exact hlt)

/-- All have their hours. -/
theorem Sh.Part.full {q : Sh} {S dn : Nat → Bool} {t : Nat → Nat} {H : Nat} (a : q.Part S H dn t) (h : ∀ i, i < q.n → S i = true → dn i = true) : q.Full S t := by
  have hd : ∀ i, i < q.n → S i = true → doneT dn t H i = t i := fun i hi hS => by unfold doneT; rw [if_pos (h i hi hS)]
  have hat : ∀ g, q.at S t g = q.at S (doneT dn t H) g := fun g => cntN_congr fun i hi => by
    cases c : S i with
    | false => rfl
    | true => rw [hd i hi c]
  have lt : ∀ i, i < q.n → S i = true → t i < H := fun i hi hS => a.lt i (h i hi hS)
  refine ⟨fun i hi hS => ?_, fun g => ?_, fun i hi hS g h1 h2 => ?_, fun i hi hS => a.tim i hi (h i hi hS)⟩
  · have := a.ed.rdy i hi hS (by rw [hd i hi hS]; exact lt i hi hS)
    rw [hd i hi hS] at this
    exact this
  · by_cases c : g < H
    · rw [hat]; exact a.ed.few g c
    · unfold Sh.at
      rw [cntN_none]
      · exact Nat.zero_le _
      · intro i hi
        cases e : S i with
        | false => rfl
        | true => have := lt i hi e; simp; omega
  · have := lt i hi hS
    rw [hat]
    obtain ⟨g1, g2⟩ := a.ed.gre i hi hS g h1 (by omega) (by rw [hd i hi hS]; exact h2)
    exact ⟨g1, fun j hj hSj htj => g2 j hj hSj (by rw [hd j hj hSj]; exact htj)⟩
end Go.Proofs.Ytkofnhimgegcnaa

namespace Go.Proofs.Ytkofnhimgegcnaa

/-- Who is dried in which hour. -/
def Rep (q : Sh) (W : Nat → Bool) (t : Nat → Nat) (C : Nat → List Nat) : Prop := ∀ g, (C g).Nodup ∧ ∀ i, i ∈ C g ↔ i < q.n ∧ W i = true ∧ t i = g
/-- One place of an hour with another load; a load more in an hour. -/
def setC (C : Nat → List Nat) (x : Nat × Nat × Nat) : Nat → List Nat := fun g => if g = x.1 then (C g).set x.2.1 x.2.2 else C g
def putC (C : Nat → List Nat) (h z : Nat) : Nat → List Nat := fun g => if g = h then C g ++ [z] else C g

theorem Rep.none (q : Sh) (t : Nat → Nat) : Rep q (fun _ => false) t (fun _ => []) := fun g => ⟨List.nodup_nil, fun i => by simp⟩
theorem Rep.len {q : Sh} {W : Nat → Bool} {t : Nat → Nat} {C : Nat → List Nat} (h : Rep q W t C) (g : Nat) : (C g).length = q.at W t g := by
  obtain ⟨h1, h2⟩ := h g
  have e := cnt_list (fun _ => true) q.n (C g) h1 (fun i hi => ((h2 i).1 hi).1)
  have e2 : (C g).countP (fun _ => true) = (C g).length := by simp
  rw [← e2, ← e]
  refine cntN_congr fun i hi => ?_
  rw [Bool.eq_iff_iff]
  simp only [Bool.true_and, decide_eq_true_eq, Bool.and_eq_true, beq_iff_eq]
  rw [h2]
  exact ⟨fun h => h.2, fun h => ⟨hi, h⟩⟩
theorem Rep.get {q : Sh} {W : Nat → Bool} {t : Nat → Nat} {C : Nat → List Nat} (h : Rep q W t C) {g j x : Nat} (hj : (C g)[j]? = some x) : x < q.n ∧ W x = true ∧ t x = g := ((h g).2 x).1 (List.mem_of_getElem? hj)
theorem nodup_get {L : List Nat} (hn : L.Nodup) {i j x : Nat} (hi : L[i]? = some x) (hj : L[j]? = some x) : i = j := by
  obtain ⟨a1, a2⟩ := List.getElem?_eq_some_iff.1 hi
  obtain ⟨b1, b2⟩ := List.getElem?_eq_some_iff.1 hj
  apply Classical.byContradiction
  intro hne
  rcases Nat.lt_or_gt_of_ne hne with c | c
  · exact List.pairwise_iff_getElem.1 hn i j a1 b1 c (a2.trans b2.symm)
  · exact List.pairwise_iff_getElem.1 hn j i b1 a1 c (b2.trans a2.symm)
theorem Rep.room {q : Sh} {W : Nat → Bool} {t : Nat → Nat} {C : Nat → List Nat} (a : Rep q W t C) {z h : Nat} (hz : z < q.n) (ho : W z = false) : Rep q (putS W z) (setT t z h) (putC C h z) := fun g => by
  obtain ⟨h1, h2⟩ := a g
  have hnz : z ∉ C g := fun hm => by have := ((h2 z).1 hm).2.1; rw [ho] at this; cases this
  unfold putC
  by_cases c : g = h
  · subst c
    rw [if_pos rfl]
    refine ⟨List.nodup_append.2 ⟨h1, by simp, fun x hx y hy => by simp at hy; subst hy; exact fun e => hnz (e ▸ hx)⟩, fun i => ?_⟩
    simp only [List.mem_append, List.mem_singleton, h2]
    by_cases e : i = z
    · subst e; simp [putS, setT, hz]
    · simp only [e, or_false, setT, if_false, mem_put]
  · rw [if_neg c]
    refine ⟨h1, fun i => ?_⟩
    rw [h2]
    by_cases e : i = z
    · subst e
      simp only [ho, setT, if_true]
      constructor
      · intro h; simp at h
      · intro h; exact absurd h.2.2.symm c
    · simp only [setT, mem_put, e, or_false, if_false]
theorem Rep.swap {q : Sh} {W : Nat → Bool} {t : Nat → Nat} {C : Nat → List Nat} (a : Rep q W t C) {z h pos y : Nat} (hz : z < q.n) (ho : W z = false) (hp : (C h)[pos]? = some y) : Rep q (putS (delS W y) z) (setT t z h) (setC C (h, pos, z)) := fun g => by
  obtain ⟨h1, h2⟩ := a g
  obtain ⟨y1, y2, y3⟩ := a.get hp
  have hzy : z ≠ y := fun e => by subst e; rw [ho] at y2; cases y2
  have hnz : z ∉ C g := fun hm => by have := ((h2 z).1 hm).2.1; rw [ho] at this; cases this
  unfold setC
  dsimp only
  by_cases c : g = h
  · subst c
    rw [if_pos rfl]
    obtain ⟨p1, p2⟩ := List.getElem?_eq_some_iff.1 hp
    have hmem : ∀ i, i ∈ (C g).set pos z ↔ (i ∈ C g ∧ i ≠ y) ∨ i = z := fun i => by
      constructor
      · intro hi
        obtain ⟨j, hj⟩ := List.getElem?_of_mem hi
        by_cases e : j = pos
        · subst e
          rw [List.getElem?_set_self' , hp] at hj
          simp at hj
          exact .inr hj.symm
        · rw [List.getElem?_set_ne (fun h => e h.symm)] at hj
          exact .inl ⟨List.mem_of_getElem? hj, fun e2 => by subst e2; exact e (nodup_get h1 hj hp)⟩
      · rintro (⟨hi, hne⟩ | e)
        · obtain ⟨j, hj⟩ := List.getElem?_of_mem hi
          have e : j ≠ pos := fun e => by subst e; rw [hp] at hj; exact hne (by simpa using hj.symm)
          exact List.mem_of_getElem? (i := j) (by rw [List.getElem?_set_ne (fun h => e h.symm)]; exact hj)
        · subst e
          exact List.mem_of_getElem? (i := pos) (by rw [List.getElem?_set_self', hp]; rfl)
    refine ⟨?_, fun i => ?_⟩
    · rw [List.nodup_iff_pairwise_ne] at h1 ⊢
      rw [List.pairwise_iff_getElem] at h1 ⊢
      intro i j hi hj hij
      rw [List.length_set] at hi hj
      rw [List.getElem_set, List.getElem_set]
      by_cases e1 : pos = i
      · rw [if_pos e1, if_neg (by omega)]
        exact fun e => hnz (e ▸ List.getElem_mem hj)
      · rw [if_neg e1]
        by_cases e2 : pos = j
        · rw [if_pos e2]
          exact fun e => hnz (e ▸ List.getElem_mem hi)
        · rw [if_neg e2]
          exact h1 i j hi hj hij
    · rw [hmem, h2, mem_put]
      by_cases e : i = z
      · subst e; simp [setT, hz]
      · simp only [setT, e, or_false, delS, Bool.and_eq_true, bne_iff_ne, ne_eq]
        constructor
        · rintro ⟨⟨b1, b2, b3⟩, b4⟩; exact ⟨b1, ⟨b2, b4⟩, b3⟩
        · rintro ⟨b1, ⟨b2, b4⟩, b3⟩; exact ⟨⟨b1, b2, b3⟩, b4⟩
  · rw [if_neg c]
    refine ⟨h1, fun i => ?_⟩
    rw [h2, mem_put]
    by_cases e : i = z
    · subst e
      simp only [ho, setT, if_true]
      constructor
      · intro h; simp at h
      · intro h; exact absurd h.2.2.symm c
    · simp only [setT, e, or_false, delS, Bool.and_eq_true, bne_iff_ne, ne_eq]
      constructor
      · rintro ⟨b1, b2, b3⟩; exact ⟨b1, ⟨b2, fun e2 => by subst e2; omega⟩, b3⟩
      · rintro ⟨b1, ⟨b2, _⟩, b3⟩; exact ⟨b1, b2, b3⟩

/-- The last one of the first k of an hour. -/
def LastOf (q : Sh) (L : List Nat) (k last : Nat) : Prop := last < L.length ∧ ∀ j x y, j < k → L[j]? = some x → L[last]? = some y → j ≠ last → q.lt x y
theorem LastOf.start {q : Sh} {L : List Nat} (h : 0 < L.length) : LastOf q L 0 0 := ⟨h, fun j _ _ hj => by omega⟩
theorem LastOf.keep {q : Sh} {L : List Nat} {k last x y : Nat} (a : LastOf q L k last) (hn : L.Nodup) (hx : L[k]? = some x) (hy : L[last]? = some y) (h : ¬ q.lt y x) : LastOf q L (k + 1) last := ⟨a.1, fun j u v hj hu hv hne => by
  by_cases e : j = k
  · subst e
    rw [hx] at hu
    rw [hy] at hv
    cases hu
    cases hv
    have hxy : x ≠ y := fun e2 => by subst e2; exact hne (nodup_get hn hx hy)
    rcases Sh.lt_total (q := q) hxy with c | c
    · exact c
    · exact absurd c h
  · exact a.2 j u v (by omega) hu hv hne⟩
theorem LastOf.turn {q : Sh} {L : List Nat} {k last x y : Nat} (a : LastOf q L k last) (hx : L[k]? = some x) (hy : L[last]? = some y) (h : q.lt y x) : LastOf q L (k + 1) k := ⟨(List.getElem?_eq_some_iff.1 hx).1, fun j u v hj hu hv hne => by
  rw [hx] at hv
  cases hv
  by_cases e : j = last
  · subst e
    rw [hy] at hu
    cases hu
    exact h
  · exact Sh.lt_trans (a.2 j u y (by omega) hu hy e) h⟩
theorem LastOf.all {q : Sh} {W : Nat → Bool} {t : Nat → Nat} {C : Nat → List Nat} (r : Rep q W t C) {h last y : Nat} (a : LastOf q (C h) (C h).length last) (hy : (C h)[last]? = some y) : ∀ j, j < q.n → W j = true → t j = h → j ≠ y → q.lt j y := fun j hj hW ht hne => by
  obtain ⟨i, hi⟩ := List.getElem?_of_mem (((r h).2 j).2 ⟨hj, hW, ht⟩)
  exact a.2 i j y (List.getElem?_eq_some_iff.1 hi).1 hi hy (fun e => by subst e; rw [hi] at hy; exact hne (by simpa using hy))

theorem foldl_setC_len : ∀ (X : List (Nat × Nat × Nat)) (C : Nat → List Nat) (g : Nat), ((X.foldl setC C) g).length = (C g).length
  | [], _, _ => rfl
  | x :: X, C, g => by
    rw [List.foldl_cons, foldl_setC_len X]
    unfold setC
    split <;> simp
theorem foldl_setC_far : ∀ (X : List (Nat × Nat × Nat)) (C : Nat → List Nat) (g : Nat), (∀ x ∈ X, x.1 ≠ g) → (X.foldl setC C) g = C g
  | [], _, _, _ => rfl
  | x :: X, C, g, h => by
    rw [List.foldl_cons, foldl_setC_far X _ g fun y hy => h y (by simp [hy])]
    unfold setC
    rw [if_neg (fun e => h x (by simp) e.symm)]
theorem swap_set (W : Nat → Bool) {z y : Nat} (hy : W y = true) : putS (putS (delS W y) z) y = putS W z := funext fun i => by
  by_cases e : i = y
  · subst e; simp [putS, hy]
  · have hb : (i != y) = true := by simpa using e
    have hb2 : (i == y) = false := by simpa using e
    simp [putS, delS, hb, hb2]
end Go.Proofs.Ytkofnhimgegcnaa

namespace Go.Proofs.Ytkofnhimgegcnaa
open Go Go.RowKit Go.Sort

theorem news_add4 {w : World} {g off : Nat} {us : List Value} (h : ∀ (j : Nat) (u : Value), us[j]? = some u → w.cell? ⟨g, off + j, none⟩ = some u) : ∀ (j : Nat) (u : Value), us[j]? = some u → w.cell? ((⟨g, off, none⟩ : Addr).add j) = some u := fun j u hu => by
  rw [addr_add2]
  exact h j u hu

set_option maxRecDepth 100000 in
set_option maxHeartbeats 2000000 in
theorem clone_any (g off cl : Nat) (l : List Ld) (w : World) (hL : LoadsAt w (some ⟨g, off, none⟩) l) (h0 : 0 < l.length) (hl : l.length ≤ 1000) :
    Calls Try.prog 84 #[.slice (some ⟨g, off, none⟩) l.length cl] w fun e w' => ∃ c q, e = .returned (.slice q l.length c) ∧ Loads w' 84 w.heap.size (.slice q l.length c) l ∧ Adds w w' := by
  obtain ⟨i0, hi, hi0, hi1, hi2⟩ := info_parts info84
  have HI := Lib.hid hi
  have HI0 := Lib.hid hi0
  have HI1 := Lib.hid hi1
  have HI2 := Lib.hid hi2
  have HNW : Hid (∀ W, Adds w W → ∀ (j : Nat) (u : Value), (l.flatMap enc4)[j]? = some u → W.cell? ((⟨g, off, none⟩ : Addr).add j) = some u) := Lib.hid (fun W hW => news_add4 (fun j u hu => loads_flat (hL.later hW) j u hu))
  obtain ⟨n, hn⟩ : ∃ n, n = l.length := ⟨_, rfl⟩
  rw [← hn] at hl h0 ⊢
  have HN := Lib.hid hn
  clear hi hi0 hi1 hi2 hL hn
  have hnil := fun (w : World) => Go.Lib.run_eql_slice_some_nil (P := Try.prog) w (⟨g, off, none⟩ : Addr) n cl Try.underlying30
  have hw0 : ∀ V : World, V = w.alloc (.cells #[] 84) → V.ownsRow w.heap.size 84 4 (.slice (some ⟨w.heap.size, 0, none⟩) 0 0) 0 [] := fun V hV => by
    subst hV
    exact ⟨rfl, Or.inr ⟨w.heap.size, 0, #[], rfl, Nat.le_refl _, Box.new _ _ _, Nat.le_refl _, by unfold maxLen; omega, rfl, rfl⟩⟩
  have HW0 := Lib.hid hw0
  clear hw0
  go_enter Try.func84, Try.ntmps84
  go_wp2_with (at_builtin; ((refine wpList_append_lies _ rfl _ _ 30 rfl w.heap.size 84 i0 (.agg #[.int .i64 0, .int .i64 0, .int .i64 0, .int .i64 0]) 4 32 Try.underlying30 HI.out HI0.out HI1.out HI2.out rfl (by decide) (.slice (some ⟨w.heap.size, 0, none⟩) 0 0) 0 [] rfl (HW0.out _ rfl) ⟨g, off, none⟩ n cl (l.flatMap enc4) rfl (by rw [flat4_len, HN.out]) (HNW.out _ ((Adds.refl w).alloc _)) (flat4_one _) h0 (by unfold maxLen; omega) (by omega) (by simp) (w.heap.size + 1) (by simp) ?_); intro g6 c6 w6 ho6 hg6 hl6 hs6; have HO6 := Lib.hid ho6; have HG6 := Lib.hid hg6; clear ho6 hg6 hl6))
  go_ret
  refine ⟨c6, some ⟨g6, 0, none⟩, by simp, ?_, ?_⟩
  · have := HO6.out
    rw [Nat.zero_add, List.nil_append] at this
    unfold Loads
    rw [← HN.out]
    exact this
  · exact Below.grown ((Adds.refl w).alloc _) HG6.out (by simp) (fun j hj => by simp [Value.ownBlock] at hj; omega)

/-- Loads that are due later. -/
def laterL (l : List Ld) (d : Int) : List Ld := l.map (fun x => (x.1, x.2.1 + d, x.2.2.1, x.2.2.2))
theorem laterL_len (l : List Ld) (d : Int) : (laterL l d).length = l.length := by simp [laterL]
theorem laterL_total (l : List Ld) (d : Int) : totalL (laterL l d) = totalL l := by simp [totalL, laterL, Function.comp_def]

theorem flat4_due : ∀ {L : List Ld} {k : Nat} {x : Ld} (v : Int), L[k]? = some x → (L.flatMap enc4).set (k * 4 + 1) (.int .i64 v) = (L.set k (x.1, v, x.2.2.1, x.2.2.2)).flatMap enc4
  | [], k, x, v, h => by simp at h
  | y :: L, 0, x, v, h => by simp at h; subst h; simp [enc4]
  | y :: L, k + 1, x, v, h => by
    have ih := flat4_due (L := L) (k := k) v (by simpa using h)
    rw [show (k + 1) * 4 + 1 = (k * 4 + 1) + 1 + 1 + 1 + 1 by omega]
    simp only [List.set_cons_succ, List.flatMap_cons, enc4, List.cons_append, List.nil_append]
    rw [← ih]

set_option maxRecDepth 100000 in
set_option maxHeartbeats 2000000 in
theorem later_any (p : Option Addr) (cl : Nat) (l : List Ld) (d : Int) (w : World) (hL : LoadsAt w p l) (h0 : 0 < l.length) (hl : l.length ≤ 256) (hd : 0 ≤ d ∧ d ≤ 1000000000) (hok : ∀ x ∈ l, okN x) :
    Calls Try.prog 64 #[.slice p l.length cl, .int .i64 d] w fun e w' => ∃ c q, e = .returned (.slice q l.length c) ∧ LoadsAt w' q (laterL l d) ∧ Adds w w' := by
  obtain ⟨x0, hx0⟩ : ∃ x, l[0]? = some x := ⟨_, List.getElem?_eq_getElem h0⟩
  obtain ⟨g, off, rfl, _⟩ := hL 0 x0 hx0
  have HCL := Lib.hid (clone_any g off cl l w hL h0 (by omega))
  have HBD : Hid (∀ (i : Nat) (x : Ld), l[i]? = some x → 0 ≤ x.2.1 ∧ x.2.1 ≤ 1000000000) := Lib.hid (fun i x hx => by have := hok x (List.mem_of_getElem? hx); unfold okN at this; omega)
  obtain ⟨n, hn⟩ : ∃ n, n = l.length := ⟨_, rfl⟩
  rw [← hn] at hl h0 HCL ⊢
  have HN := Lib.hid hn
  obtain ⟨hd0, hd1⟩ := hd
  clear hL hn hx0 hok
  go_enter Try.func64, Try.ntmps64
  go_upto_region 3 with (go_at_call 84; refine HCL.out.mono ?_; rintro e w1 ⟨c, q, rfl, hq, hb1⟩; have HQ := Lib.hid hq; have HB1 := Lib.hid hb1; clear hq hb1)
  have HQ0 : Hid (w1.ownsRow w.heap.size 84 4 (.slice q n c) n (l.flatMap enc4)) := Lib.hid (by have := HQ.out; unfold Loads at this; rw [← HN.out] at this; exact this)
  obtain ⟨g1, c', e, hg1⟩ := own_some HQ0.out h0
  injection e with e1 e2 e3
  subst e1
  clear e2 e3 HQ HCL
  have HG1 := Lib.hid hg1
  clear hg1
  go_loopw [10] (fun v10 wr => ∃ (k : Nat) (L : List Ld), k ≤ n ∧ v10 = .int .i64 k ∧ Hid (L.length = n) ∧ Hid (∀ i, i < k → L[i]? = (laterL l d)[i]?) ∧ Hid (∀ i, k ≤ i → L[i]? = l[i]?) ∧ Hid (wr.ownsRow w.heap.size 84 4 (.slice (some ⟨g1, 0, none⟩) n c) n (L.flatMap enc4)) ∧ Hid (Adds w wr)) (fun v10 _ => n - (intOf v10).toNat)
  case atStart => exact ⟨0, l, by omega, rfl, Lib.hid HN.out.symm, Lib.hid (fun i hi => by omega), Lib.hid (fun i _ => rfl), HQ0, HB1⟩
  case round =>
    obtain ⟨k, L, hk, rfl, HLN, HLO, HHI, HO, HAD⟩ := hrel
    by_cases hlt : k < n
    · have hlt2 : (k : Int) < (n : Int) := by omega
      obtain ⟨⟨x0, x1, x2, x3⟩, hx⟩ : ∃ x, L[k]? = some x := ⟨_, List.getElem?_eq_getElem (by have := HLN.out; omega)⟩
      have hlx : l[k]? = some (x0, x1, x2, x3) := by rw [← HHI.out k (Nat.le_refl _)]; exact hx
      obtain ⟨b0, b1⟩ := HBD.out k _ hlx
      try dsimp only at b0 b1
      obtain ⟨f0, f1, f2, f3⟩ := flat4_cell k _ hx
      obtain ⟨d1, e1⟩ := own_cell HO.out f1
      dsimp only at d1 e1
      have HX := Lib.hid hx
      have HLX := Lib.hid hlx
      clear hx hlx f0 f1 f2 f3
      go_wp2
      refine ⟨⟨k + 1, L.set k (x0, x1 + d, x2, x3), by omega, by go_num, Lib.hid (by rw [List.length_set]; exact HLN.out), Lib.hid (fun i hi => ?_), Lib.hid (fun i hi => ?_), Lib.hid ?_, Lib.hid (HAD.out.set (p := ⟨g1, k * 4 + 1, none⟩) (by have := HG1.out; simp; omega) _)⟩, by simp [intOf]; omega⟩
      · by_cases e : i = k
        · subst e
          rw [List.getElem?_set_self (by have := HLN.out; omega)]
          unfold laterL
          rw [List.getElem?_map, HLX.out]
          rfl
        · rw [List.getElem?_set_ne (fun h => e h.symm)]
          exact HLO.out i (by omega)
      · rw [List.getElem?_set_ne (by omega)]
        exact HHI.out i (by omega)
      · have := own_put (j := k * 4 + 1) HO.out (.int .i64 (x1 + d))
        rw [flat4_due _ HX.out] at this
        exact this
    · have hkn : n = k := by omega
      subst hkn
      have HE : Hid (L = laterL l d) := Lib.hid (List.ext_getElem? (fun i => by
        by_cases h : i < n
        · exact HLO.out i h
        · rw [List.getElem?_eq_none (by have := HLN.out; omega), List.getElem?_eq_none (by rw [laterL_len]; have := HN.out; omega)]))
      rw [HE.out] at HO
      go_wp2
      go_ret
      refine ⟨c, some ⟨g1, 0, none⟩, rfl, ?_, HAD.out⟩
      have h : Loads wr 84 w.heap.size (.slice (some ⟨g1, 0, none⟩) (laterL l d).length c) (laterL l d) := by
        unfold Loads
        rw [laterL_len, ← HN.out]
        exact HO.out
      exact h.at

end Go.Proofs.Ytkofnhimgegcnaa

namespace Go.Proofs.Ytkofnhimgegcnaa
open Go Go.RowKit Go.Sort

theorem later_ok {l : List Ld} {d : Int} (hok : ∀ x ∈ l, okB x = true) (hd : 0 ≤ d ∧ d ≤ 256000000) : ∀ x ∈ laterL l d, okN x := fun x hx => by
  unfold laterL at hx
  obtain ⟨y, hy, rfl⟩ := List.mem_map.1 hx
  have := okB_iff.1 (hok y hy)
  unfold okN
  dsimp only
  omega

theorem total_bd {l : List Ld} (hok : ∀ x ∈ l, okB x = true) (hn : l.length ≤ 256) : 0 ≤ totalL l ∧ totalL l ≤ 256000000 ∧ (l = [] → totalL l = 0) := by
  have key : ∀ l : List Ld, (∀ x ∈ l, okB x = true) → 0 ≤ totalL l ∧ totalL l ≤ l.length * 1000000 := by
    intro l
    induction l with
    | nil => intro _; simp [totalL]
    | cons x l ih =>
      intro h
      have e : totalL (x :: l) = x.2.2.1 + totalL l := by simp [totalL]
      have h1 := ih (fun y hy => h y (by simp [hy]))
      have h2 := okB_iff.1 (h x (by simp))
      rw [e, List.length_cons]
      omega
  have := key l hok
  refine ⟨this.1, by omega, fun h => by rw [h]; rfl⟩

/-- If all loads are due later by all their hours, there is a plan. -/
theorem dry_late (w : World) {l : List Ld} {K : Int} (hok : ∀ x ∈ l, okB x = true) (hn : l.length ≤ 256) (hK : 1 ≤ K ∧ K ≤ 64) : CanDry (laterL l (totalL l)) K := by
  obtain ⟨t0, t1, _⟩ := total_bd hok hn
  have hokN := later_ok hok ⟨t0, t1⟩
  apply Classical.byContradiction
  intro hc
  obtain ⟨H, L, h⟩ := crush_ex w hokN (by rw [laterL_len]; exact hn) (by omega) (by omega) hc
  have h1 := h.gt
  have hw : 0 ≤ sumH (fun h => h.2 - h.1) H := sumH_nonneg (fun y hy => by have := h.rise.inn y hy; omega)
  have hWK : sumH (fun h => h.2 - h.1) H * 1 ≤ sumH (fun h => h.2 - h.1) H * K := Int.mul_le_mul_of_nonneg_left hK.1 hw
  have hget : ∀ i ∈ L, ∃ y, l[i]? = some y ∧ okB y = true ∧ (laterL l (totalL l))[i]? = some (y.1, y.2.1 + totalL l, y.2.2.1, y.2.2.2) := fun i hi => by
    have hlt := h.mem i hi
    rw [laterL_len] at hlt
    obtain ⟨y, hy⟩ : ∃ y, l[i]? = some y := ⟨_, List.getElem?_eq_getElem hlt⟩
    exact ⟨y, hy, hok y (List.mem_of_getElem? hy), by unfold laterL; rw [List.getElem?_map, hy]; rfl⟩
  by_cases hle : sumH (fun h => h.2 - h.1) H ≤ totalL l
  · have h2 : needsL (laterL l (totalL l)) H L ≤ L.length * 0 := needsL_le (fun i hi => by
      obtain ⟨y, hy, hb, hx⟩ := hget i hi
      have hb := okB_iff.1 hb
      have := within_le h.rise (y.1, y.2.1 + totalL l, y.2.2.1, y.2.2.2)
      unfold needL
      rw [hx]
      dsimp only
      omega)
    omega
  · have h2 : needsL (laterL l (totalL l)) H L ≤ (L.map (lenAt (laterL l (totalL l)))).sum := needsL_le2 (fun i hi => by
      obtain ⟨y, hy, hb, hx⟩ := hget i hi
      have hb := okB_iff.1 hb
      have h3 := within_span (y.1, y.2.1 + totalL l, y.2.2.1, y.2.2.2) h.rise (by omega)
      dsimp only at h3
      unfold needL lenAt
      rw [hx]
      dsimp only
      omega)
    have h3 := h.lens
    rw [laterL_total] at h3
    omega

set_option maxHeartbeats 2000000 in
theorem DelayF_any (b1 b2 : Nat) (p : Option Addr) (cl : Nat) (l : List Ld) (K d : Int) (w : World) (hc1 : w.cell? ⟨b1, 0, none⟩ = some (.slice p l.length cl)) (hc2 : w.cell? ⟨b2, 0, none⟩ = some (.int .i64 K)) (hL : LoadsAt w p l) (hok : ∀ x ∈ l, okB x = true) (h0 : 0 < l.length) (hn : l.length ≤ 256) (hK : 1 ≤ K ∧ K ≤ 64) (hd : 0 ≤ d ∧ d ≤ 256000000) :
    Calls Try.prog 63 (#[.int .i64 d] ++ #[.pointer (some ⟨b1, 0, none⟩), .pointer (some ⟨b2, 0, none⟩)]) w fun e w' => ∃ v, e = .returned (.bool v) ∧ (v = true ↔ CanDry (laterL l d) K) ∧ Adds w w' := by
  have hok2 : ∀ x ∈ l, okN x := fun x hx => okB_okN (hok x hx)
  have h64 := fun (W : World) (hW : Adds w W) => later_any p cl l d W (hL.later hW) h0 hn (by omega) hok2
  have h42 : ∀ (q : Option Addr) (c : Nat) (W : World), LoadsAt W q (laterL l d) → Calls Try.prog 42 #[.slice q l.length c, .int .i64 K] W fun e w' => ∃ v, e = .returned (.bool v) ∧ (v = true ↔ CanDry (laterL l d) K) ∧ Adds W w' := fun q c W hq => by
    have := fits_any q c (laterL l d) K W hq (later_ok hok hd) (by rw [laterL_len]; exact hn) (by omega) (by omega)
    rw [laterL_len] at this
    exact this
  have H64 := Lib.hid h64
  have H42 := Lib.hid h42
  generalize l.length = n at *
  clear hL hok hok2 h64 h42 h0
  go_enter Try.func63, Try.ntmps63
  go_upto_region 1 with fail
  go_region_held3 (fun w' => w'.cell? ⟨b1, 0, none⟩ = some (.slice p n cl) ∧ w'.cell? ⟨b2, 0, none⟩ = some (.int .i64 K) ∧ Hid (Adds w w'))
    (first | (refine ⟨?_, ?_, Lib.hid (Adds.refl _).drew⟩ <;> go_keep; done) | (have hqq := Lib.hid (Adds.trans hh.2.2.out hb6); exact ⟨keep_cell hqq.out hc1, keep_cell hqq.out hc2, hqq⟩) | (have hqq := Lib.hid (Adds.trans hh.2.2.out hb7); exact ⟨keep_cell hqq.out hc1, keep_cell hqq.out hc2, hqq⟩))
    ((first
      | (go_simp; go_at_call 64; rename_i hh _ _; refine (H64.out _ hh.2.2.out).mono ?_; rintro e w6 ⟨c6, q6, rfl, hq6, hb6⟩; have HQ6 := Lib.hid hq6; clear hq6)
      | (go_simp; go_at_call 42; rename_i hh _ _; refine (H42.out _ _ _ HQ6.out).mono ?_; rintro e w7 ⟨v, rfl, hv, hb7⟩; have HV := Lib.hid hv; clear hv)))
  go_wp2
  go_ret
  exact ⟨v, rfl, HV.out, hh.2.2.out.trans hb7⟩

set_option maxHeartbeats 2000000 in
theorem Delay_any (p : Option Addr) (cl : Nat) (l : List Ld) (K : Int) (w : World) (hL : LoadsAt w p l) (hok : ∀ x ∈ l, okB x = true) (hn : l.length ≤ 256) (hK : 1 ≤ K ∧ K ≤ 64) :
    Calls Try.prog 25 #[.slice p l.length cl, .int .i64 K] w fun e w' => ∃ r, e = .returned (.tuple #[.int .i64 r, .int .i64 0]) ∧ LeastGot (fun d => CanDry (laterL l d) K) 0 (totalL l) r ∧ Adds w w' := by
  obtain ⟨t0, t1, t2⟩ := total_bd hok hn
  have hokN : ∀ x ∈ l, okN x := fun x hx => okB_okN (hok x hx)
  have hc := fun W (hW : Adds w W) => check_any p cl l K W (by unfold maxLen; omega) (hL.later hW)
  rw [checkK_ok hn hok hK] at hc
  have ht := fun W (hW : Adds w W) => total_any p cl l W hn (hL.later hW) hokN
  have h63 : ∀ (args : Array Value) (w : World), (callFunc 63 args).run Try.prog w = .ok (.enter 63 args) w := fun args w => enters_of Try.func63 (by kernel_rfl) rfl args w
  have hls : ∀ (W : World) (b1 b2 : Nat), Adds w W → W.cell? ⟨b1, 0, none⟩ = some (.slice p l.length cl) → W.cell? ⟨b2, 0, none⟩ = some (.int .i64 K) → Calls Try.prog 61 #[.int .i64 0, .int .i64 (totalL l), .func (.func 63) #[] #[.pointer (some ⟨b1, 0, none⟩), .pointer (some ⟨b2, 0, none⟩)]] W fun e w' => ∃ r, e = .returned (.int .i64 r) ∧ LeastGot (fun d => CanDry (laterL l d) K) 0 (totalL l) r ∧ Adds W w' := fun W b1 b2 hW hc1 hc2 =>
    least_any 63 #[.pointer (some ⟨b1, 0, none⟩), .pointer (some ⟨b2, 0, none⟩)] (fun d => CanDry (laterL l d) K) 0 (totalL l) W (by omega) t0 (by omega) h63 (fun k hk0 hk1 W2 hW2 => DelayF_any b1 b2 p cl l K k W2 (keep_cell hW2 hc1) (keep_cell hW2 hc2) ((hL.later hW).later hW2) hok (by
      rcases Nat.eq_zero_or_pos l.length with h | h
      · have := t2 (List.length_eq_zero_iff.1 h); omega
      · exact h) hn hK ⟨hk0, by omega⟩)
  generalize totalL l = T at *
  have HC := Lib.hid hc
  have HT := Lib.hid ht
  have HLS := Lib.hid hls
  generalize l.length = n at *
  clear hc ht hls hL hok hokN h63 t2
  go_enter Try.func25, Try.ntmps25
  have hA1 : Adds w ((w.alloc (.cells #[.slice p n cl] 30)).alloc (.cells #[.int .i64 K] 3)) := ((Adds.refl w).alloc _).alloc _
  have hX1 : Box ((w.alloc (.cells #[.slice p n cl] 30)).alloc (.cells #[.int .i64 K] 3)) w.heap.size #[.slice p n cl] 30 := (Box.new _ _ _).alloc _
  have hX2 : Box ((w.alloc (.cells #[.slice p n cl] 30)).alloc (.cells #[.int .i64 K] 3)) (w.heap.size + 1) #[.int .i64 K] 3 := by
    have := Box.new (w.alloc (.cells #[.slice p n cl] 30)) #[.int .i64 K] 3
    rw [World.size_alloc] at this
    exact this
  go_upto_region 1 with fail
  obtain ⟨b1, hb1⟩ : ∃ b, b = w.heap.size := ⟨_, rfl⟩
  obtain ⟨b2, hb2⟩ : ∃ b, b = w.heap.size + 1 := ⟨_, rfl⟩
  obtain ⟨W1, hW1⟩ : ∃ V, V = (w.alloc (.cells #[.slice p n cl] 30)).alloc (.cells #[.int .i64 K] 3) := ⟨_, rfl⟩
  rw [← hW1] at hA1 hX1 hX2
  rw [← hb1] at hX1
  rw [← hb2] at hX2
  rw [← hW1, ← hb2, ← hb1]
  have HA1 := Lib.hid hA1
  have HX1 := Lib.hid hX1
  have HX2 := Lib.hid hX2
  have k1 : W1.cell? ⟨b1, 0, none⟩ = some (.slice p n cl) := hX1.cell 0
  have k2 : W1.cell? ⟨b2, 0, none⟩ = some (.int .i64 K) := hX2.cell 0
  clear hA1 hX1 hX2 hb1 hb2 hW1
  go_upto_region 4 with (go_at_call 41; refine (HC.out _ HA1.out).mono ?_; rintro e w2 ⟨rfl, hb2⟩; have HB2 := Lib.hid hb2; clear hb2)
  have k3 : w2.cell? ⟨b1, 0, none⟩ = some (.slice p n cl) := (HX1.out.later HB2.out).cell 0
  have k4 : w2.cell? ⟨b2, 0, none⟩ = some (.int .i64 K) := (HX2.out.later HB2.out).cell 0
  clear k1 k2
  go_wp2_with (first
    | (go_at_call 52; refine (HT.out _ (HA1.out.trans HB2.out)).mono ?_; rintro e w3 ⟨rfl, hb3⟩; have HB3 := Lib.hid hb3; clear hb3)
    | (go_at_call 61; refine (HLS.out _ b1 b2 ((HA1.out.trans HB2.out).trans HB3.out) (keep_cell HB3.out k3) (keep_cell HB3.out k4)).mono ?_; rintro e w4 ⟨r, rfl, hr, hb4⟩; have HR := Lib.hid hr; have HB4 := Lib.hid hb4; clear hr hb4))
  go_ret2
  exact ⟨r, rfl, HR.out, ((HA1.out.trans HB2.out).trans HB3.out).trans HB4.out⟩

set_option maxRecDepth 100000 in
set_option maxHeartbeats 2000000 in
theorem laterL_any (p : Option Addr) (cl : Nat) (l : List Ld) (d : Int) (w : World) (hL : LoadsAt w p l) (hl : l.length ≤ 256) (hd : 0 ≤ d ∧ d ≤ 1000000000) (hok : ∀ x ∈ l, okN x) :
    Calls Try.prog 27 #[.slice p l.length cl, .int .i64 d] w fun e w' => ∃ c q, e = .returned (.slice q l.length c) ∧ LoadsAt w' q (laterL l d) ∧ Adds w w' := by
  obtain ⟨i0, hi, hi0, hi1, hi2⟩ := info_parts info72
  have HI := Lib.hid hi
  have HI0 := Lib.hid hi0
  have HI1 := Lib.hid hi1
  have HI2 := Lib.hid hi2
  have HBD : Hid (∀ (i : Nat) (x : Ld), l[i]? = some x → 0 ≤ x.2.1 ∧ x.2.1 ≤ 1000000000) := Lib.hid (fun i x hx => by have := hok x (List.mem_of_getElem? hx); unfold okN at this; omega)
  have HNX : Hid (∀ (k : Nat) (x : Ld), l[k]? = some x → ((laterL l d).take (k + 1)).flatMap enc4 = ((laterL l d).take k).flatMap enc4 ++ enc4 (x.1, x.2.1 + d, x.2.2.1, x.2.2.2)) := Lib.hid (fun k x hx => take_flat (by unfold laterL; rw [List.getElem?_map, hx]; rfl))
  have HLL : Hid ((laterL l d).length = l.length) := Lib.hid (laterL_len l d)
  obtain ⟨n, hn⟩ : ∃ n, n = l.length := ⟨_, rfl⟩
  rw [← hn] at hl HLL ⊢
  have HN := Lib.hid hn
  have HL := Lib.hid hL
  obtain ⟨L, hLd⟩ : ∃ L, L = laterL l d := ⟨_, rfl⟩
  rw [← hLd] at HLL HNX ⊢
  obtain ⟨hd0, hd1⟩ := hd
  clear hi hi0 hi1 hi2 hL hn hLd hok
  go_enter Try.func27, Try.ntmps27
  go_upto_region 3 with fail
  go_loopw [5, 6] (fun v5 v6 wr => ∃ k : Nat, k ≤ n ∧ v6 = .int .i64 k ∧ Hid (wr.ownsRow w.heap.size 72 4 v5 k ((L.take k).flatMap enc4)) ∧ Hid (Adds w wr)) (fun _ v6 _ => n - (intOf v6).toNat)
  case atStart => exact ⟨0, by omega, rfl, Lib.hid (World.ownsRow_nil _ _ _ _), Lib.hid (Adds.refl _)⟩
  case round =>
    obtain ⟨k, hk, rfl, HO, HAD⟩ := hrel
    by_cases hlt : k < n
    · have hlt2 : (k : Int) < (n : Int) := by omega
      obtain ⟨⟨x0, x1, x2, x3⟩, hx⟩ : ∃ x, l[k]? = some x := ⟨_, List.getElem?_eq_getElem (by have := HN.out; omega)⟩
      obtain ⟨g, off, rfl, d0, d1, d2, d3⟩ := HL.out.later HAD.out k _ hx
      dsimp only at d0 d1 d2 d3
      have HNX2 := Lib.hid (HNX.out _ _ hx)
      obtain ⟨b0, b1⟩ := HBD.out _ _ hx
      try dsimp only at b0 b1
      have hws := HAD.out.size
      clear hx
      obtain ⟨pj, cj, rfl⟩ := own_slice HO.out
      have hnews : Hid (World.cell? ((wr.alloc (.cells #[.int .i64 x0, .int .i64 (x1 + d), .int .i64 x2, .int .i64 x3] 72)).alloc (.cells #[.int .i64 x0, .int .i64 (x1 + d), .int .i64 x2, .int .i64 x3] 72)) ⟨wr.heap.size + 1, 0, none⟩ = some (.int .i64 x0)) := Lib.hid (by
        have := Box.new (wr.alloc (.cells #[.int .i64 x0, .int .i64 (x1 + d), .int .i64 x2, .int .i64 x3] 72)) #[.int .i64 x0, .int .i64 (x1 + d), .int .i64 x2, .int .i64 x3] 72
        rw [World.size_alloc] at this
        exact this.cell 0)
      have hbox : Hid (Box ((wr.alloc (.cells #[.int .i64 x0, .int .i64 (x1 + d), .int .i64 x2, .int .i64 x3] 72)).alloc (.cells #[.int .i64 x0, .int .i64 (x1 + d), .int .i64 x2, .int .i64 x3] 72)) (wr.heap.size + 1) #[.int .i64 x0, .int .i64 (x1 + d), .int .i64 x2, .int .i64 x3] 72) := Lib.hid (by
        have := Box.new (wr.alloc (.cells #[.int .i64 x0, .int .i64 (x1 + d), .int .i64 x2, .int .i64 x3] 72)) #[.int .i64 x0, .int .i64 (x1 + d), .int .i64 x2, .int .i64 x3] 72
        rw [World.size_alloc] at this
        exact this)
      clear hnews
      go_wp2_with (at_builtin; ((refine wpList_append_lies _ rfl _ _ 22 rfl w.heap.size 72 i0 (.agg #[.int .i64 0, .int .i64 0, .int .i64 0, .int .i64 0]) 4 32 Try.underlying22 HI.out HI0.out HI1.out HI2.out rfl (by decide) (.slice pj k cj) k _ rfl ((HO.out.alloc _).alloc _) ⟨wr.heap.size + 1, 0, none⟩ 1 1 [.int .i64 x0, .int .i64 (x1 + d), .int .i64 x2, .int .i64 x3] rfl rfl (World.news_of_block hbox.out) (by simp [Value.oneCell']) (by omega) (by unfold maxLen; omega) (by omega) (by simp; omega) (wr.heap.size + 2) (by simp) ?_); intro g6 c6 w6 ho6 hg6 hl6 hs6; have HO6 := Lib.hid ho6; have HG6 := Lib.hid hg6; clear ho6 hg6 hl6))
      refine ⟨⟨k + 1, by omega, by go_num, Lib.hid ?_, Lib.hid (Below.grown ((HAD.out.alloc _).alloc _) HG6.out (by simp; omega) (fun j hj => (own_block HO.out hj).1))⟩, by simp [intOf]; omega⟩
      rw [HNX2.out]
      exact HO6.out
    · have hkn : n = k := by omega
      subst hkn
      have e1 : L.take n = L := List.take_of_length_le (by rw [HLL.out]; omega)
      rw [e1] at HO
      obtain ⟨pj, cj, rfl⟩ := own_slice HO.out
      go_wp2
      go_ret
      refine ⟨cj, pj, rfl, ?_, HAD.out⟩
      have h : Loads wr 72 w.heap.size (.slice pj L.length cj) L := by
        unfold Loads
        rw [HLL.out]
        exact HO.out
      exact h.at

end Go.Proofs.Ytkofnhimgegcnaa

namespace Go.Proofs.Ytkofnhimgegcnaa
open Go Go.RowKit Go.Sort

/-- Which loads are dried in which of the first M hours. -/
structure Rota (l : List Ld) (K : Int) (M : Nat) (g : Nat → Nat → Int) : Prop where
  bit : ∀ i h, 0 ≤ g i h ∧ g i h ≤ 1
  inn : ∀ (i : Nat) (x : Ld) (h : Nat), l[i]? = some x → g i h ≠ 0 → x.1 ≤ (h : Int) ∧ (h : Int) < x.2.1
  len : ∀ (i : Nat) (x : Ld), l[i]? = some x → sumN M (g i) = x.2.2.1
  few : ∀ h, sumN l.length (fun i => g i h) ≤ K

theorem sumN_span (a b : Int) : ∀ M : Nat, sumN M (fun h => if a ≤ (h : Int) ∧ (h : Int) < b then 1 else 0) = max 0 (min b M - max a 0)
  | 0 => by simp [sumN]; omega
  | M + 1 => by
    rw [sumN, sumN_span a b M]
    split <;> omega

/-- Whether an hour lies in spans. -/
def inH (H : List (Int × Int)) (h : Int) : Int := sumH (fun s => if s.1 ≤ h ∧ h < s.2 then 1 else 0) H

theorem inH_low {h : Int} : ∀ {lo hi : Int} {H : List (Int × Int)}, Rising lo hi H → h < lo → inH H h = 0
  | _, _, [], _, _ => rfl
  | lo, hi, s :: H, hr, hl => by
    have h1 := hr.inn s (by simp)
    have ih := inH_low hr.tail (show h < s.2 by omega)
    unfold inH at ih ⊢
    rw [sumH_cons, ih, if_neg (by omega)]
    rfl
theorem inH_bit {h : Int} : ∀ {lo hi : Int} {H : List (Int × Int)}, Rising lo hi H → inH H h = 0 ∨ inH H h = 1
  | _, _, [], _ => Or.inl rfl
  | lo, hi, s :: H, hr => by
    have h1 := hr.inn s (by simp)
    by_cases hc : s.1 ≤ h ∧ h < s.2
    · have h2 := inH_low hr.tail hc.2
      unfold inH at h2 ⊢
      rw [sumH_cons, h2, if_pos hc]
      exact Or.inr rfl
    · have ih := inH_bit (h := h) hr.tail
      unfold inH at ih ⊢
      rw [sumH_cons, if_neg hc, Int.zero_add]
      exact ih

theorem inH_sum {M : Nat} : ∀ {H : List (Int × Int)}, (∀ s ∈ H, 0 ≤ s.1 ∧ s.1 ≤ s.2 ∧ s.2 ≤ (M : Int)) → sumN M (fun h => inH H (h : Int)) = sumH (fun h => h.2 - h.1) H
  | [], _ => by
    have : (fun h : Nat => inH [] (h : Int)) = fun _ => 0 := rfl
    rw [this, sumN_zero]
    rfl
  | s :: H, hb => by
    have ih := inH_sum (H := H) (fun t ht => hb t (by simp [ht]))
    have h1 := hb s (by simp)
    have e : (fun h : Nat => inH (s :: H) (h : Int)) = fun h : Nat => (if s.1 ≤ (h : Int) ∧ (h : Int) < s.2 then 1 else 0) + inH H (h : Int) := by
      funext h
      unfold inH
      rw [sumH_cons]
    rw [e, sumN_add, ih, sumN_span, sumH_cons]
    omega

theorem within_sum {M : Nat} {x : Ld} (hx : 0 ≤ x.1 ∧ x.2.1 ≤ (M : Int)) : ∀ {H : List (Int × Int)}, (∀ s ∈ H, 0 ≤ s.1) → sumN M (fun h => if x.1 ≤ (h : Int) ∧ (h : Int) < x.2.1 then inH H (h : Int) else 0) = withinL x H
  | [], _ => by
    have : (fun h : Nat => if x.1 ≤ (h : Int) ∧ (h : Int) < x.2.1 then inH [] (h : Int) else 0) = fun _ => 0 := by
      funext h
      split <;> rfl
    rw [this, sumN_zero]
    rfl
  | s :: H, hb => by
    have ih := within_sum hx (H := H) (fun t ht => hb t (by simp [ht]))
    have h1 := hb s (by simp)
    have e : (fun h : Nat => if x.1 ≤ (h : Int) ∧ (h : Int) < x.2.1 then inH (s :: H) (h : Int) else 0) = fun h : Nat => (if max x.1 s.1 ≤ (h : Int) ∧ (h : Int) < min x.2.1 s.2 then 1 else 0) + (if x.1 ≤ (h : Int) ∧ (h : Int) < x.2.1 then inH H (h : Int) else 0) := by
      funext h
      unfold inH
      rw [sumH_cons]
      by_cases c1 : x.1 ≤ (h : Int) ∧ (h : Int) < x.2.1
      · rw [if_pos c1, if_pos c1]
        by_cases c2 : s.1 ≤ (h : Int) ∧ (h : Int) < s.2
        · rw [if_pos c2, if_pos (by omega)]
        · rw [if_neg c2, if_neg (by omega)]
      · rw [if_neg c1, if_neg c1, if_neg (by omega)]; rfl
    rw [e, sumN_add, ih, sumN_span, within_eq, within_eq, sumH_cons]
    unfold lapL
    omega

theorem rise_sum {f : Nat → Int} (hf : ∀ i, 0 ≤ f i) : ∀ {L : List Nat} {a n : Nat}, L.Pairwise (· < ·) → (∀ i ∈ L, a ≤ i ∧ i < n) → a ≤ n → (L.map f).sum + sumN a f ≤ sumN n f
  | [], a, n, _, _, han => by
    have : ∀ k, sumN a f ≤ sumN (a + k) f := fun k => by
      rw [sumN_split]
      have := sumN_le (n := k) (g := fun _ => 0) (h := fun j => f (a + j)) (fun j _ => hf _)
      rw [sumN_zero] at this
      omega
    have h1 := this (n - a)
    rw [show a + (n - a) = n by omega] at h1
    simp
    omega
  | i :: L, a, n, hp, hb, han => by
    rw [List.pairwise_cons] at hp
    have h1 := hb i (by simp)
    have ih := rise_sum hf (L := L) (a := i + 1) (n := n) hp.2 (fun j hj => ⟨hp.1 j hj, (hb j (by simp [hj])).2⟩) (by omega)
    rw [sumN] at ih
    have h2 : sumN a f ≤ sumN i f := by
      have := rise_sum hf (L := []) (a := a) (n := i) List.Pairwise.nil (fun j hj => by cases hj) h1.1
      simpa using this
    rw [List.map_cons, List.sum_cons]
    omega
termination_by L => L.length

theorem list_swap (M : Nat) (t : Nat → Nat → Int) : ∀ L : List Nat, (L.map (fun i => sumN M (t i))).sum = sumN M (fun h => (L.map (fun i => t i h)).sum)
  | [] => by
    have : (fun h : Nat => (([] : List Nat).map (fun i => t i h)).sum) = fun _ => 0 := rfl
    rw [this, sumN_zero]; rfl
  | i :: L => by
    rw [List.map_cons, List.sum_cons, list_swap M t L, ← sumN_add]
    refine sumN_congr (fun h _ => ?_)
    rw [List.map_cons, List.sum_cons]

/-- What a rota dries can be dried. -/
theorem Rota.dry (w : World) {l : List Ld} {K : Int} {M : Nat} {g : Nat → Nat → Int} (h : Rota l K M g) (hM : ∀ x ∈ l, x.2.1 ≤ (M : Int)) (hok : ∀ x ∈ l, okN x) (hn : l.length ≤ 256) (hK0 : 0 ≤ K) (hK1 : K ≤ 256) : CanDry l K := by
  apply Classical.byContradiction
  intro hc
  obtain ⟨H, L, cr⟩ := crush_ex w hok hn hK0 hK1 hc
  have hgt := cr.gt
  have hHM : ∀ s ∈ H, 0 ≤ s.1 ∧ s.1 ≤ s.2 ∧ s.2 ≤ (M : Int) := fun s hs => by
    have h1 := cr.rise.inn s hs
    have h2 := cr.top M hM s hs
    omega
  have hneed : ∀ i ∈ L, needL l H i ≤ sumN M (fun t => if inH H (t : Int) = 1 then g i t else 0) := fun i hi => by
    obtain ⟨x, hx⟩ : ∃ x, l[i]? = some x := ⟨_, List.getElem?_eq_getElem (cr.mem i hi)⟩
    have hxm := List.mem_of_getElem? hx
    have hb := hok x hxm
    unfold okN at hb
    have h1 := h.len i x hx
    have h2 := within_sum (M := M) (x := x) ⟨hb.1, hM x hxm⟩ (fun s hs => (hHM s hs).1)
    have h3 := sumN_span x.1 x.2.1 M
    have h4 : sumN M (fun t => g i t - (if x.1 ≤ (t : Int) ∧ (t : Int) < x.2.1 then 1 else 0) + (if x.1 ≤ (t : Int) ∧ (t : Int) < x.2.1 then inH H (t : Int) else 0)) ≤ sumN M (fun t => if inH H (t : Int) = 1 then g i t else 0) := sumN_le (fun t _ => by
      have hbit := h.bit i t
      have hinn := h.inn i x t hx
      rcases inH_bit (h := (t : Int)) cr.rise with e | e
      · rw [e, if_neg (show ¬ (0 : Int) = 1 by omega)]
        by_cases hg : g i t = 0
        · rw [hg]; split <;> omega
        · rw [if_pos (hinn hg)]; split <;> omega
      · rw [e, if_pos rfl]
        split <;> omega)
    rw [sumN_add, sumN_sub, h2, h3] at h4
    have h5 : 0 ≤ sumN M (fun t => if inH H (t : Int) = 1 then g i t else 0) := by
      have := sumN_le (n := M) (g := fun _ => 0) (h := fun t => if inH H (t : Int) = 1 then g i t else 0) (fun t _ => by
        have := h.bit i t
        split <;> omega)
      rw [sumN_zero] at this
      exact this
    have h6 : sumN M (fun t => g i t) = x.2.2.1 := h1
    rw [h6] at h4
    unfold needL
    rw [hx]
    dsimp only
    have := hM x hxm
    omega
  have h1 := needsL_le2 hneed
  rw [list_swap] at h1
  have h2 : sumN M (fun t => (L.map (fun i => if inH H (t : Int) = 1 then g i t else 0)).sum) ≤ sumN M (fun t => K * inH H (t : Int)) := sumN_le (fun t _ => by
    have h3 := rise_sum (f := fun i => g i t) (fun i => (h.bit i t).1) (L := L) (a := 0) (n := l.length) cr.up (fun i hi => ⟨by omega, cr.mem i hi⟩) (by omega)
    have h4 := h.few t
    rcases inH_bit (h := (t : Int)) cr.rise with e | e
    · rw [e]
      have : (L.map (fun i => if (0 : Int) = 1 then g i t else 0)).sum = 0 := sum_zero_of _ L (fun i _ => by rw [if_neg (by omega)])
      rw [this]; omega
    · rw [e]
      have : L.map (fun i => if (1 : Int) = 1 then g i t else 0) = L.map (fun i => g i t) := List.map_congr_left (fun i _ => if_pos rfl)
      rw [this]
      simp only [sumN] at h3
      omega)
  rw [sumN_mul, inH_sum hHM] at h2
  rw [Int.mul_comm] at hgt
  omega

theorem sumT_swap (n : Nat) (t : Nat → Tn → Int) : ∀ P : List Tn, sumN n (fun k => sumT (t k) P) = sumT (fun x => sumN n (fun k => t k x)) P
  | [] => by
    have : (fun k : Nat => sumT (t k) []) = fun _ => 0 := rfl
    rw [this, sumN_zero]; rfl
  | x :: P => by
    rw [sumT_cons, ← sumT_swap n t P, ← sumN_add]
    exact sumN_congr (fun k _ => sumT_cons _ _ _)

theorem sumT_congr {μ ν : Tn → Int} {P : List Tn} (h : ∀ t ∈ P, μ t = ν t) : sumT μ P = sumT ν P := by
  unfold sumT
  rw [List.map_congr_left h]

/-- What can be dried has a rota. -/
theorem CanDry.rota {l : List Ld} {K : Int} (h : CanDry l K) (hok : ∀ x ∈ l, okN x) (hK0 : 0 ≤ K) {M : Nat} (hM : ∀ x ∈ l, x.2.1 ≤ (M : Int)) : ∃ g, Rota l K M g := by
  obtain ⟨f, hf⟩ := h
  have hp := Dry.all ⟨timesOf_spec l, hok, hf⟩ hK0
  obtain ⟨P, hP⟩ : ∃ P, P = allT (netE (timesOf l) K l) f (timesOf l) l.length ((timesOf l).length - 1) := ⟨_, rfl⟩
  rw [← hP] at hp
  refine ⟨fun i h => sumT (covL1 (i : Int) (h : Int)) P, fun i h => ⟨sumT_nonneg (fun t _ => by unfold covL1; split <;> omega), hp.one _ _⟩, fun i x h hx hne => ?_, fun i x hx => ?_, fun h => ?_⟩
  · have hex : ∃ t ∈ P, covL1 (i : Int) (h : Int) t ≠ 0 := by
      apply Classical.byContradiction
      intro hno
      exact hne (sumT_none (fun t ht => by
        apply Classical.byContradiction
        intro h0
        exact hno ⟨t, ht, h0⟩))
    obtain ⟨t, ht, h0⟩ := hex
    obtain ⟨j, y, e, hy, b1, b2, b3⟩ := hp.inn t ht
    unfold covL1 at h0
    split at h0
    · rename_i hc
      have hij : i = j := by omega
      subst hij
      rw [hx] at hy
      cases hy
      omega
    · exact absurd rfl h0
  · have h1 := sumT_swap M (fun h t => covL1 (i : Int) (h : Int) t) P
    have h2 : sumT (fun t => sumN M (fun h => covL1 (i : Int) (h : Int) t)) P = sumT (len1 (i : Int)) P := sumT_congr (fun t ht => by
      obtain ⟨j, y, e, hy, b1, b2, b3⟩ := hp.inn t ht
      have hb := hok y (List.mem_of_getElem? hy)
      have hm := hM y (List.mem_of_getElem? hy)
      unfold okN at hb
      by_cases hi : t.1 = (i : Int)
      · have e1 : (fun h : Nat => covL1 (i : Int) (h : Int) t) = fun h : Nat => if t.2.1 ≤ (h : Int) ∧ (h : Int) < t.2.2 then 1 else 0 := by
          funext h
          unfold covL1
          by_cases hc : t.2.1 ≤ (h : Int) ∧ (h : Int) < t.2.2
          · rw [if_pos ⟨hi, hc⟩, if_pos hc]
          · rw [if_neg (fun hh => hc hh.2), if_neg hc]
        rw [e1, sumN_span]
        unfold len1
        rw [if_pos hi]
        omega
      · have e1 : (fun h : Nat => covL1 (i : Int) (h : Int) t) = fun _ => 0 := by
          funext h
          unfold covL1
          rw [if_neg (fun hh => hi hh.1)]
        rw [e1, sumN_zero]
        unfold len1
        rw [if_neg hi])
    have h3 := hp.len i x hx
    have h4 : sumN M (fun h => sumT (covL1 (i : Int) (h : Int)) P) = x.2.2.1 := by rw [← h3, ← h2, ← h1]
    exact h4
  · have h1 := sumT_swap l.length (fun i t => covL1 (i : Int) (h : Int) t) P
    have h2 : sumT (fun t => sumN l.length (fun i => covL1 (i : Int) (h : Int) t)) P = sumT (cov1 (h : Int)) P := sumT_congr (fun t ht => by
      obtain ⟨j, y, e, hy, b1, b2, b3⟩ := hp.inn t ht
      have hj := (List.getElem?_eq_some_iff.1 hy).1
      have e1 : (fun i : Nat => covL1 (i : Int) (h : Int) t) = fun i : Nat => if i = j then cov1 (h : Int) t else 0 := by
        funext i
        unfold covL1 cov1
        by_cases hi : i = j
        · rw [if_pos hi]
          by_cases hc : t.2.1 ≤ (h : Int) ∧ (h : Int) < t.2.2
          · rw [if_pos ⟨by omega, hc⟩, if_pos hc]
          · rw [if_neg (fun hh => hc hh.2), if_neg hc]
        · rw [if_neg hi, if_neg (fun hh => hi (by omega))]
      rw [e1, sumN_one, if_pos hj])
    have h3 := hp.few (h : Int)
    have h4 : sumN l.length (fun i => sumT (covL1 (i : Int) (h : Int)) P) ≤ K := by rw [h1, h2]; exact h3
    exact h4

end Go.Proofs.Ytkofnhimgegcnaa

namespace Go.Proofs.Ytkofnhimgegcnaa
open Go Go.RowKit Go.Sort

/-- Short loads as numbers. -/
def shOf (l : List Ld) (K : Nat) : Sh := ⟨l.length, fun i => ((l[i]?.map (fun x : Ld => x.1)).getD 0).toNat, fun i => ((l[i]?.map (fun x : Ld => x.2.1)).getD 0).toNat, K⟩
theorem shOf_r {l : List Ld} {K i : Nat} {x : Ld} (h : l[i]? = some x) (h0 : 0 ≤ x.1) : ((shOf l K).r i : Int) = x.1 := by
  show ((((l[i]?.map (fun x : Ld => x.1)).getD 0).toNat : Nat) : Int) = x.1
  rw [h]
  simp
  omega
theorem shOf_d {l : List Ld} {K i : Nat} {x : Ld} (h : l[i]? = some x) (h0 : 0 ≤ x.2.1) : ((shOf l K).d i : Int) = x.2.1 := by
  show ((((l[i]?.map (fun x : Ld => x.2.1)).getD 0).toNat : Nat) : Int) = x.2.1
  rw [h]
  simp
  omega
theorem shOf_n (l : List Ld) (K : Nat) : (shOf l K).n = l.length := rfl
theorem shOf_lt {l : List Ld} {K : Nat} (hok : ∀ x ∈ l, okN x) : ∀ i, i < (shOf l K).n → (shOf l K).r i < (shOf l K).d i := fun i hi => by
  obtain ⟨x, hx⟩ : ∃ x, l[i]? = some x := ⟨_, List.getElem?_eq_getElem hi⟩
  have hb := hok x (List.mem_of_getElem? hx)
  unfold okN at hb
  have h1 := shOf_r (K := K) hx hb.1
  have h2 := shOf_d (K := K) hx (by omega)
  omega

theorem cnt_sum {f : Nat → Bool} {g : Nat → Int} : ∀ {n : Nat}, (∀ i, i < n → f i = true → 1 ≤ g i) → (∀ i, i < n → 0 ≤ g i) → (cntN n f : Int) ≤ sumN n g
  | 0, _, _ => by simp [cntN, sumN]
  | n + 1, h, h0 => by
    have ih := cnt_sum (n := n) (fun i hi => h i (by omega)) (fun i hi => h0 i (by omega))
    have h1 := h n (by omega)
    have h2 := h0 n (by omega)
    rw [cntN, sumN]
    by_cases c : f n = true
    · have := h1 c; rw [if_pos c]; omega
    · rw [if_neg c]; omega
theorem sum_cnt (f : Nat → Bool) : ∀ n : Nat, sumN n (fun i => if f i = true then 1 else 0) = (cntN n f : Int)
  | 0 => rfl
  | n + 1 => by
    rw [cntN, sumN, sum_cnt f n]
    split <;> simp
theorem sumN_pos {g : Nat → Int} : ∀ {n : Nat}, 0 < sumN n g → ∃ i, i < n ∧ 0 < g i
  | 0, h => by simp [sumN] at h
  | n + 1, h => by
    by_cases c : 0 < g n
    · exact ⟨n, by omega, c⟩
    · rw [sumN] at h
      obtain ⟨i, h1, h2⟩ := sumN_pos (n := n) (g := g) (by omega)
      exact ⟨i, by omega, h2⟩

theorem dry_fit (w : World) {l : List Ld} {K : Nat} (hok : ∀ x ∈ l, okN x) (hsh : ∀ x ∈ l, x.2.2.1 = 1) (hn : l.length ≤ 256) (hK : K ≤ 256) : CanDry l K ↔ (shOf l K).Fit (fun _ => true) := by
  constructor
  · intro h
    obtain ⟨g, hg⟩ := h.rota hok (by omega) (M := 1000000000) (fun x hx => by have := hok x hx; unfold okN at this; omega)
    have hex : ∀ i, ∃ h : Nat, i < l.length → 0 < g i h := fun i => by
      by_cases c : i < l.length
      · obtain ⟨x, hx⟩ : ∃ x, l[i]? = some x := ⟨_, List.getElem?_eq_getElem c⟩
        have h1 := hg.len i x hx
        rw [hsh x (List.mem_of_getElem? hx)] at h1
        obtain ⟨h, _, h2⟩ := sumN_pos (g := g i) (n := 1000000000) (by omega)
        exact ⟨h, fun _ => h2⟩
      · exact ⟨0, fun c2 => absurd c2 c⟩
    obtain ⟨t, ht⟩ := Classical.axiomOfChoice hex
    refine ⟨t, fun i hi _ => ?_, fun h => ?_⟩
    · obtain ⟨x, hx⟩ : ∃ x, l[i]? = some x := ⟨_, List.getElem?_eq_getElem hi⟩
      have hb := hok x (List.mem_of_getElem? hx)
      unfold okN at hb
      have h1 := shOf_r (K := K) hx hb.1
      have h2 := shOf_d (K := K) hx (by omega)
      have h3 := hg.inn i x (t i) hx (by have := ht i hi; omega)
      omega
    · have h1 := cnt_sum (n := l.length) (f := fun i => true && t i == h) (g := fun i => g i h) (fun i hi hf => by
        simp at hf
        have := ht i hi
        rw [hf] at this
        omega) (fun i _ => (hg.bit i h).1)
      have h2 := hg.few h
      show cntN l.length (fun i => true && t i == h) ≤ K
      omega
  · rintro ⟨t, t1, t2⟩
    have hr : Rota l K 1000000000 (fun i h => if decide (i < l.length ∧ t i = h) = true then 1 else 0) := by
      refine ⟨fun i h => by split <;> omega, fun i x h hx hne => ?_, fun i x hx => ?_, fun h => ?_⟩
      · have hi := (List.getElem?_eq_some_iff.1 hx).1
        have e : t i = h := by
          apply Classical.byContradiction
          intro c
          exact hne (if_neg (by simp; exact fun _ => c))
        have hb := hok x (List.mem_of_getElem? hx)
        unfold okN at hb
        have h1 := shOf_r (K := K) hx hb.1
        have h2 := shOf_d (K := K) hx (by omega)
        have h3 := t1 i hi rfl
        omega
      · have hi := (List.getElem?_eq_some_iff.1 hx).1
        have hb := hok x (List.mem_of_getElem? hx)
        unfold okN at hb
        have h2 := shOf_d (K := K) hx (by omega)
        have h3 := t1 i hi rfl
        rw [sum_cnt (fun h => decide (i < l.length ∧ t i = h)), hsh x (List.mem_of_getElem? hx), cntN_one (x := t i) (by omega)]
        · rfl
        · intro h _
          simp [hi]
          exact eq_comm
      · rw [sum_cnt (fun i => decide (i < l.length ∧ t i = h))]
        have h1 := t2 h
        have h2 : cntN l.length (fun i => decide (i < l.length ∧ t i = h)) ≤ cntN l.length (fun i => true && t i == h) := cntN_le fun i _ hc => by
          simp at hc ⊢
          exact hc.2
        have h3 : cntN l.length (fun i => true && t i == h) ≤ K := h1
        omega
    exact hr.dry w (fun x hx => by have := hok x hx; unfold okN at this; omega) hok hn (by omega) (by omega)
end Go.Proofs.Ytkofnhimgegcnaa

namespace Go.Proofs.Ytkofnhimgegcnaa
open Go Go.RowKit Go.Sort

/-- A rota as a value. -/
abbrev rotaV (p : Option Addr) (n cl : Nat) (K : Int) (bm : Nat) : Value := .agg #[.slice p n cl, .int .i64 K, .map (some bm)]
def ordT (di dj : Int) (i j : Nat) : Int := orT (cmpT di dj) (cmpT i j)
theorem ordT_pos {di dj : Int} {i j : Nat} : 0 < ordT di dj i j ↔ dj < di ∨ (di = dj ∧ j < i) := by
  unfold ordT orT cmpT
  repeat' split
  all_goals omega
theorem ordT_neg {di dj : Int} {i j : Nat} : ordT di dj i j < 0 ↔ di < dj ∨ (di = dj ∧ i < j) := by
  unfold ordT orT cmpT
  repeat' split
  all_goals omega

set_option maxRecDepth 100000 in
set_option maxHeartbeats 2000000 in
theorem compare_any (p : Option Addr) (n cl bm i j : Nat) (K di dj : Int) (l : List Ld) (w : World) (hL : LoadsAt w p l) (hn : n = l.length) (_hnb : n ≤ 256) (hi : ∃ x, l[i]? = some x ∧ x.2.1 = di) (hj : ∃ x, l[j]? = some x ∧ x.2.1 = dj) :
    Calls Try.prog 86 #[rotaV p n cl K bm, .int .i64 i, .int .i64 j] w fun e w' => e = .returned (.int .i64 (ordT di dj i j)) ∧ Adds w w' := by
  obtain ⟨⟨x0, x1, x2, x3⟩, hx, ex⟩ := hi
  obtain ⟨⟨y0, y1, y2, y3⟩, hy, ey⟩ := hj
  dsimp only at ex ey
  subst ex
  subst ey
  obtain ⟨g, off, rfl, -, c1, -, -⟩ := hL i _ hx
  obtain ⟨g', off', e, -, d1, -, -⟩ := hL j _ hy
  simp only [Option.some.injEq, Addr.mk.injEq, and_true] at e
  obtain ⟨rfl, rfl⟩ := e
  dsimp only at c1 d1
  have hil : i < n := by rw [hn]; exact (List.getElem?_eq_some_iff.1 hx).1
  have hjl : j < n := by rw [hn]; exact (List.getElem?_eq_some_iff.1 hy).1
  have hil2 : (i : Int) < (n : Int) := by omega
  have hjl2 : (j : Int) < (n : Int) := by omega
  clear hx hy hL hn
  go_enter Try.func86, Try.ntmps86
  go_upto_region 1 with fail
  obtain ⟨W, hW⟩ : ∃ V, V = w.alloc (.cells #[.slice (some ⟨g, off, none⟩) n cl, .int .i64 K, .map (some bm)] 114) := ⟨_, rfl⟩
  obtain ⟨bx, hbx⟩ : ∃ b, b = w.heap.size := ⟨_, rfl⟩
  rw [← hW, ← hbx]
  have hA : Adds w W := by rw [hW]; exact (Adds.refl _).alloc _
  have k0 : W.cell? ⟨bx, 0, none⟩ = some (.slice (some ⟨g, off, none⟩) n cl) := by rw [hW, hbx]; exact (Box.new w _ _).cell 0
  have c1' := keep_cell hA c1
  have d1' := keep_cell hA d1
  have HA := Lib.hid hA
  clear hA hW hbx c1 d1
  go_region_held3 (fun w' => w'.cell? ⟨bx, 0, none⟩ = some (.slice (some ⟨g, off, none⟩) n cl) ∧ w'.cell? ⟨g, off + i * 4 + 1, none⟩ = some (.int .i64 x1) ∧ w'.cell? ⟨g, off + j * 4 + 1, none⟩ = some (.int .i64 y1))
    (first | (go_keep; done))
    ((first
      | (go_simp; go_at_call 58; refine (cmp_i _ _ _).mono ?_; rintro e w1 ⟨rfl, rfl⟩)
      | (go_simp; go_at_call 57; refine (Or_any W.heap.size 2 (cmpT x1 y1) (cmpT i j) _ ((Box.new W _ 3).drew.cell 0) ((Box.new W _ 3).drew.cell 1)).mono ?_; rintro e w1 ⟨rfl, rfl⟩)))
  all_goals
    go_wp2
    go_ret
    exact ⟨rfl, (HA.out.alloc _).drew⟩
end Go.Proofs.Ytkofnhimgegcnaa

namespace Go.Proofs.Ytkofnhimgegcnaa
open Go Go.RowKit Go.Sort Go.Maps

def heldR (v : Value) : Option (DataW Value × List MemPlace) := some (.held v, [])
theorem und112 : Try.prog.underlying 112 = some (.map 3 35) := by kernel_rfl
theorem zero35m (w : World) : (zeroValue 35).run Try.prog w = .ok nilV w := by kernel_rfl
/-- A map of the call's own: what it has at each number; nil where it has nothing. -/
def MapV (w : World) (bm n : Nat) (F : Int → Value) : Prop :=
  ∃ D : DataW Value, w.ownsMap Try.prog 3 heldR bm n D ∧ (∀ t, D.atKey (.int .i64 t) (.held nilV) = .held (F t)) ∧ ∀ t, Maps.has D (.int .i64 t) = true ↔ F t ≠ nilV
def updV (F : Int → Value) (t : Int) (v : Value) : Int → Value := fun u => if u = t then v else F u
theorem MapV.made (w : World) : MapV (w.alloc (.map #[] 0)) w.heap.size 0 (fun _ => nilV) :=
  ⟨_, World.ownsMap_made _ _ _ _, fun t => by simp [DataW.atKey], fun t => by simp [Maps.has]⟩
theorem MapV.same {w w' : World} {bm k : Nat} {F : Int → Value} (h : MapV w bm k F) (e : w'.heap[bm]? = w.heap[bm]?) : MapV w' bm k F := by
  obtain ⟨D, ⟨es, c, h1, h2⟩, h3⟩ := h
  exact ⟨D, ⟨es, c, e.trans h1, h2⟩, h3⟩
theorem MapV.lt {w : World} {bm k : Nat} {F : Int → Value} (h : MapV w bm k F) : bm < w.heap.size := by
  obtain ⟨D, ⟨es, c, h1, h2⟩, h3⟩ := h
  exact (Array.getElem?_eq_some_iff.1 h1).1
theorem MapV.later {w w' : World} {bm k : Nat} {F : Int → Value} (h : MapV w bm k F) (ha : Adds w w') : MapV w' bm k F := h.same (ha.block _ h.lt)
theorem MapV.look {w : World} {bm n : Nat} {F : Int → Value} {t : Int} (h : MapV w bm n F) (hwf : (Lit.int .i64 t).wf = true) : (Instr.lookup 112 (.map (some bm)) (.int .i64 t) false).run Try.prog w = .ok (F t) w := by
  obtain ⟨D, hown, hat, _⟩ := h
  obtain ⟨v, ps, hrun, hv⟩ := hown.lookup law3m und112 (zero35m w) (zd := .held nilV) (zp := []) rfl (keyOf_int_mk Try.underlying3 hwf)
  rw [hat] at hv
  simp only [heldR, Option.some.injEq, Prod.mk.injEq, DataW.held.injEq] at hv
  rw [hrun, hv.1]
theorem MapV.turn {w : World} {bm n : Nat} {F : Int → Value} {t : Int} {v : Value} (h : MapV w bm n F) (hwf : (Lit.int .i64 t).wf = true) (hn : n < maxLen) (hv : v ≠ nilV) :
    ∃ w', (Instr.mapUpdate 112 (.map (some bm)) (.int .i64 t) v).run Try.prog w = .ok () w' ∧ MapV w' bm (n + 1) (updV F t v) ∧ w.grownBy w' (some bm) := by
  obtain ⟨D, hown, hat, hhas⟩ := h
  obtain ⟨w', hrun, h1, h2⟩ := hown.update law3m und112 hn (keyOf_int_mk Try.underlying3 hwf) (val := v) (d := .held v) (ps := []) rfl
  refine ⟨w', hrun, ⟨_, h1, fun u => ?_, fun u => ?_⟩, h2⟩
  · unfold updV
    by_cases e : u = t
    · subst e
      rw [atKey_put_same hown.isMap (by trivial), if_pos rfl]
    · have hne : (Lit.int .i64 u) ≠ (Lit.int .i64 t) := fun x => by cases x; exact e rfl
      rw [atKey_put_other hne, hat, if_neg e]
  · unfold updV
    by_cases e : u = t
    · subst e
      rw [has_put_same hown.isMap (by trivial), if_pos rfl]
      simp [hv]
    · have hne : (Lit.int .i64 u) ≠ (Lit.int .i64 t) := fun x => by cases x; exact e rfl
      rw [has_put_other hne, hhas, if_neg e]

theorem look_yieldV {w : World} {bm n : Nat} {F : Int → Value} {a : Act} {o : Oper} {m x : Operand} {t : Int} {v : Value} (h : MapV w bm n F) (hop : o.op = Op.lookup 112 m x false) (hm : a.eval m = .map (some bm)) (hx : a.eval x = .int .i64 t)
    (hwf : (Lit.int .i64 t).wf = true) (hv : F t = v) : (execOp a.eval o).run Try.prog w = .ok (.value v) w := by
  simp [execOp, hop, hm, hx, h.look hwf, hv, Result.andThen]

theorem wpList_lookV (w : World) {ops : Array Oper} {rest : List Oper} {o : Oper} {a : Act} {Q : Exit → Act → World → Prop} (hg : o.guard = none) (m x : Operand) (hop : o.op = Op.lookup 112 m x false) (bm n : Nat) (F : Int → Value) (t : Int) (v : Value)
    (hm : a.eval m = .map (some bm)) (h : MapV w bm n F) (hx : a.eval x = .int .i64 t) (hwf : (Lit.int .i64 t).wf = true) (hv : F t = v) (hK : wpList Try.prog ops Q rest (a.put o.dst v) w) : wpList Try.prog ops Q (o :: rest) a w := by
  refine wpList_plain hg fun K' hK' => ?_
  unfold Oper.wp
  simp [execOp, hop, hm, hx, h.look hwf, hv, Result.andThen]
  exact hK' _ _ hK

theorem step_turnV {w : World} {ops : Array Oper} {o : Oper} {a : Act} {K : Act → World → Prop} {Q : Exit → Act → World → Prop} {E : Prop} (hgd : o.guard = none) (m x y : Operand) (hop : o.op = Op.mapUpdate 112 m x y) (bm n : Nat) (F : Int → Value) (t : Int) (v : Value)
    (hm : a.eval m = .map (some bm)) (h : MapV w bm n F) (hx : a.eval x = .int .i64 t) (hwf : (Lit.int .i64 t).wf = true) (hy : a.eval y = v) (hn : n < maxLen) (hv : v ≠ nilV)
    (hK : ∀ w', MapV w' bm (n + 1) (updV F t v) → w.grownBy w' (some bm) → K (a.put o.dst undef) w') : if Region.wanted o (yielded ops a.tmps) = true then Oper.wp Try.prog o a w K Q else E := by
  have hw : Region.wanted o (yielded ops a.tmps) = true := by simp [Region.wanted, hgd]
  rw [if_pos hw]
  obtain ⟨w', hrun, h1, h2⟩ := h.turn hwf hn hv
  unfold Oper.wp
  simp [execOp, hop, hm, hx, hy, hrun, Result.andThen]
  exact hK w' h1 h2

/-- The crews in memory. -/
structure CrewsAt (w : World) (bm n base : Nat) (C : Nat → List Nat) (F : Int → Value) : Prop where
  map : MapV w bm n F
  low : bm < base
  empty : ∀ t : Int, (∀ h : Nat, t = h → C h = []) → F t = nilV
  row : ∀ h : Nat, C h ≠ [] → ∃ g c, F h = .slice (some ⟨g, 0, none⟩) (C h).length c ∧ base ≤ g ∧ RowI 3 .i64 w g c (numsI (C h))
  apart : ∀ (h h' g : Nat) (n c n' c' : Nat), F h = .slice (some ⟨g, 0, none⟩) n c → F h' = .slice (some ⟨g, 0, none⟩) n' c' → h = h'

theorem numsI_len (l : List Nat) : (numsI l).length = l.length := by simp [numsI]

theorem CrewsAt.made (w : World) : CrewsAt (w.alloc (.map #[] 0)) w.heap.size 0 (w.heap.size + 1) (fun _ => []) (fun _ => nilV) :=
  ⟨MapV.made w, by omega, fun _ _ => rfl, fun h c => absurd rfl c, fun h h' g n c n' c' e => by cases e⟩
theorem CrewsAt.later {w w' : World} {bm n base : Nat} {C : Nat → List Nat} {F : Int → Value} (h : CrewsAt w bm n base C F) (ha : Adds w w') : CrewsAt w' bm n base C F :=
  ⟨h.map.later ha, h.low, h.empty, fun k hk => by
    obtain ⟨g, c, e1, e2, e3⟩ := h.row k hk
    exact ⟨g, c, e1, e2, e3.later ha⟩, h.apart⟩
theorem CrewsAt.nil {w : World} {bm n base : Nat} {C : Nat → List Nat} {F : Int → Value} (h : CrewsAt w bm n base C F) {k : Nat} (e : C k = []) : F k = nilV :=
  h.empty k fun j hj => by
    have : k = j := by omega
    subst this
    exact e
theorem CrewsAt.value {w : World} {bm n base : Nat} {C : Nat → List Nat} {F : Int → Value} (h : CrewsAt w bm n base C F) (k : Nat) : ∃ p c, F k = .slice p (C k).length c := by
  by_cases e : C k = []
  · refine ⟨.none, 0, ?_⟩
    rw [h.nil e, e]
    rfl
  · obtain ⟨g, c, e1, _⟩ := h.row k e
    exact ⟨_, c, e1⟩

/-- One place of a crew written. -/
theorem CrewsAt.store {w : World} {bm n base : Nat} {C : Nat → List Nat} {F : Int → Value} (h : CrewsAt w bm n base C F) {k pos z g m c : Nat} (hF : F k = .slice (some ⟨g, 0, none⟩) m c) (hp : pos < (C k).length) :
    CrewsAt (w.setCell ⟨g, pos, none⟩ (.int .i64 z)) bm n base (setC C (k, pos, z)) F := by
  have hk : C k ≠ [] := fun e => by rw [e] at hp; simp at hp
  obtain ⟨g1, c1, e1, e2, e3⟩ := h.row k hk
  rw [hF] at e1
  simp only [Value.slice.injEq, Option.some.injEq, Addr.mk.injEq, and_true] at e1
  obtain ⟨rfl, em, rfl⟩ := e1
  refine ⟨h.map.same (Below.heap_setCell _ _ _ _ (by have := h.low; simp; omega)), h.low, fun t ht => h.empty t fun j hj => ?_, fun j hj => ?_, h.apart⟩
  · have := ht j hj
    unfold setC at this
    split at this
    · next e => rw [← List.length_eq_zero_iff] at this ⊢; rwa [List.length_set] at this
    · exact this
  · have hj2 : C j ≠ [] := fun e => hj (by unfold setC; split <;> simp [e])
    obtain ⟨g2, c2, f1, f2, f3⟩ := h.row j hj2
    have hlen : (setC C (k, pos, z) j).length = (C j).length := by unfold setC; split <;> simp
    by_cases e : j = k
    · subst e
      rw [hF] at f1
      simp only [Value.slice.injEq, Option.some.injEq, Addr.mk.injEq, and_true] at f1
      obtain ⟨rfl, _, rfl⟩ := f1
      refine ⟨g, c, by rw [hlen, hF, em], f2, ?_⟩
      have := e3.put pos (z : Int)
      have e4 : numsI (setC C (j, pos, z) j) = (numsI (C j)).set pos (z : Int) := by unfold setC numsI; simp [List.map_set]
      rw [e4]
      exact this
    · refine ⟨g2, c2, by rw [hlen]; exact f1, f2, ?_⟩
      have e4 : setC C (k, pos, z) j = C j := by unfold setC; rw [if_neg e]
      rw [e4]
      exact f3.far (fun eg => by
        simp at eg
        subst eg
        exact e (h.apart j k _ _ _ _ _ f1 hF)) _

/-- A load more in an hour. -/
theorem CrewsAt.put {w W w' : World} {bm n n' base : Nat} {C : Nat → List Nat} {F : Int → Value} (h : CrewsAt w bm n base C F) {k z g c : Nat} (_hb : base ≤ w.heap.size) (hg : w.grownBy W (F k).ownBlock)
    (ho : W.ownsRow base 3 1 (.slice (some ⟨g, 0, none⟩) ((C k).length + 1) c) ((C k).length + 1) ((numsI (C k ++ [z])).map (Value.int .i64))) (hl : (F k).ownBlock = some g ∨ w.heap.size ≤ g)
    (hm : MapV w' bm n' (updV F k (.slice (some ⟨g, 0, none⟩) ((C k).length + 1) c))) (hgm : W.grownBy w' (some bm)) :
    CrewsAt w' bm n' base (putC C k z) (updV F k (.slice (some ⟨g, 0, none⟩) ((C k).length + 1) c)) := by
  obtain ⟨_, hr⟩ := own_rowI ho
  rcases hr with ⟨hr, _⟩ | ⟨g1, c1, er, hbg, hrow⟩
  · cases hr
  · rw [numsI_len, List.length_append] at er
    simp only [Value.slice.injEq, Option.some.injEq, Addr.mk.injEq, and_true] at er
    obtain ⟨rfl, _, rfl⟩ := er
    have hlow := h.low
    have hrow2 : RowI 3 .i64 w' g c (numsI (C k ++ [z])) := hrow.same (hgm.block g hrow.lt (by simp; omega))
    refine ⟨hm, hlow, fun t ht => ?_, fun j hj => ?_, fun a b x n1 c1 n2 c2 ea eb => ?_⟩
    · unfold updV
      by_cases e : t = k
      · have := ht k e
        unfold putC at this
        simp at this
      · rw [if_neg e]
        refine h.empty t fun j hj => ?_
        have := ht j hj
        unfold putC at this
        rw [if_neg (fun e2 => e (by omega))] at this
        exact this
    · unfold updV
      by_cases e : j = k
      · subst e
        refine ⟨g, c, by rw [if_pos rfl]; unfold putC; simp, hbg, ?_⟩
        have : putC C j z j = C j ++ [z] := by unfold putC; simp
        rw [this]
        exact hrow2
      · have ej : putC C k z j = C j := by unfold putC; rw [if_neg e]
        rw [ej] at hj ⊢
        obtain ⟨g2, c2, f1, f2, f3⟩ := h.row j hj
        refine ⟨g2, c2, by rw [if_neg (by omega)]; exact f1, f2, ?_⟩
        have n1 : some g2 ≠ (F k).ownBlock := fun e2 => by
          obtain ⟨p, cc, hv⟩ := h.value k
          rw [hv] at e2
          cases p with
          | none => simp [Value.ownBlock] at e2
          | some a =>
            by_cases hk0 : C k = []
            · have := h.nil hk0
              rw [hv] at this
              cases this
            · obtain ⟨g3, c3, q1, q2, q3⟩ := h.row k hk0
              rw [hv] at q1
              simp only [Value.slice.injEq, Option.some.injEq] at q1
              obtain ⟨rfl, _, rfl⟩ := q1
              simp [Value.ownBlock] at e2
              subst e2
              exact e (h.apart j k _ _ _ _ _ f1 hv)
        have f4 : RowI 3 .i64 W g2 c2 (numsI (C j)) := f3.same (hg.block g2 f3.lt n1)
        exact f4.same (hgm.block g2 f4.lt (by simp; omega))
    · unfold updV at ea eb
      have new : ∀ (a : Nat) (n1 c1 : Nat), a ≠ k → F a = .slice (some ⟨g, 0, none⟩) n1 c1 → False := fun a n1 c1 hak ha => by
        have hCa : C a ≠ [] := fun e => by
          rw [h.nil e] at ha
          cases ha
        obtain ⟨g3, c3, q1, q2, q3⟩ := h.row a hCa
        rw [ha] at q1
        simp only [Value.slice.injEq, Option.some.injEq, Addr.mk.injEq, and_true] at q1
        obtain ⟨rfl, _, rfl⟩ := q1
        rcases hl with hl | hl
        · obtain ⟨p, cc, hv⟩ := h.value k
          rw [hv] at hl
          cases p with
          | none => simp [Value.ownBlock] at hl
          | some pa =>
            by_cases hk0 : C k = []
            · have := h.nil hk0
              rw [hv] at this
              cases this
            · obtain ⟨g4, c4, r1, r2, r3⟩ := h.row k hk0
              rw [hv] at r1
              simp only [Value.slice.injEq, Option.some.injEq] at r1
              obtain ⟨rfl, _, rfl⟩ := r1
              simp [Value.ownBlock] at hl
              subst hl
              exact hak (h.apart a k _ _ _ _ _ ha hv)
        · have := q3.lt
          omega
      by_cases e1 : a = k
      · by_cases e2 : b = k
        · omega
        · subst e1
          rw [if_pos rfl] at ea
          rw [if_neg (by omega)] at eb
          simp only [Value.slice.injEq, Option.some.injEq, Addr.mk.injEq, and_true] at ea
          obtain ⟨rfl, _⟩ := ea
          exact absurd eb (fun h => new b _ _ e2 h)
      · rw [if_neg (by omega)] at ea
        by_cases e2 : b = k
        · subst e2
          rw [if_pos rfl] at eb
          simp only [Value.slice.injEq, Option.some.injEq, Addr.mk.injEq, and_true] at eb
          obtain ⟨rfl, _⟩ := eb
          exact absurd ea (fun h => new a _ _ e1 h)
        · rw [if_neg (by omega)] at eb
          exact h.apart a b x _ _ _ _ ea eb
end Go.Proofs.Ytkofnhimgegcnaa

namespace Go.Proofs.Ytkofnhimgegcnaa
open Go Go.RowKit Go.Sort Go.Maps

def blkV : Value → Nat
  | .slice (some a) _ _ => a.block
  | _ => 0
def encX (F : Int → Value) (x : Nat × Nat × Nat) : List Value := [.pointer (some ⟨blkV (F x.1), x.2.1, none⟩), .int .i64 x.2.2]
theorem flatX_get (F : Int → Value) : ∀ {X : List (Nat × Nat × Nat)} {k : Nat} {x : Nat × Nat × Nat}, X[k]? = some x → (X.flatMap (encX F))[k * 2]? = some (.pointer (some ⟨blkV (F x.1), x.2.1, none⟩)) ∧ (X.flatMap (encX F))[k * 2 + 1]? = some (.int .i64 x.2.2)
  | [], k, x, h => by simp at h
  | y :: X, 0, x, h => by
    simp at h
    subst h
    simp [encX]
  | y :: X, k + 1, x, h => by
    have ih := flatX_get F (X := X) (k := k) (x := x) (by simpa using h)
    rw [show (k + 1) * 2 = k * 2 + 1 + 1 by omega, show k * 2 + 1 + 1 + 1 = (k * 2 + 1) + 1 + 1 by omega]
    simpa [encX] using ih
theorem info134 : (Try.prog.info? 134).map (fun i => (i.zero, i.size, i.bytes)) = some (some (.agg #[.pointer none, .int .i64 0]), 2, 16) := by kernel_rfl
theorem Sh.Way.over {q : Sh} {W : Nat → Bool} {t : Nat → Nat} {z h : Nat} (a : q.Way W t z h) (hr : q.r z < q.d z) (hd : q.d z ≤ h) : q.Over (putS W z) :=
  a.full.over a.lt (mem_put.2 (.inr rfl)) hr hd (by simp [setT]; exact hd)

theorem CrewsAt.own {w : World} {bm n base : Nat} {C : Nat → List Nat} {F : Int → Value} (h : CrewsAt w bm n base C F) (k : Nat) : w.ownsRow base 3 1 (F k) (C k).length ((numsI (C k)).map (Value.int .i64)) := by
  by_cases e : C k = []
  · rw [h.nil e, e]
    exact World.ownsRow_nil _ _ _ _
  · obtain ⟨g, c, e1, e2, e3⟩ := h.row k e
    rw [e1]
    have := e3.own e2
    rw [numsI_len] at this
    exact this
theorem take_foldl {X : List (Nat × Nat × Nat)} {j : Nat} {x : Nat × Nat × Nat} (h : X[j]? = some x) (C : Nat → List Nat) : (X.take (j + 1)).foldl setC C = setC ((X.take j).foldl setC C) x := by
  obtain ⟨h1, h2⟩ := List.getElem?_eq_some_iff.1 h
  rw [List.take_succ_eq_append_getElem h1, h2, List.foldl_append]
  rfl

theorem touch_grown {O : Nat → Prop} {a b c : World} {row : Option Nat} (h : Touch O a b) (hg : b.grownBy c row) (hr : ∀ r, row = some r → O r) : Touch O a c :=
  ⟨hg.os.trans h.os, hg.tape.trans h.tape, hg.output.trans h.output, Nat.le_trans h.size hg.size, fun k hk hn => (hg.block k (Nat.lt_of_lt_of_le hk h.size) (fun e => hn (hr k e.symm))).trans (h.same k hk hn)⟩

theorem meas_lt (h : Nat) (hh : h < 1000000) : (1000000 - intOf (.int .i64 ((h : Int) + 1))).toNat < (1000000 - intOf (.int .i64 (h : Int))).toNat := by
  show (1000000 - ((h : Int) + 1)).toNat < (1000000 - (h : Int)).toNat
  omega

/-- A block that holds a crew. -/
def CrewIn (F : Int → Value) (k : Nat) : Prop := ∃ (j : Int) (m c : Nat), F j = .slice (some ⟨k, 0, none⟩) m c
theorem CrewsAt.block {w : World} {bm n base : Nat} {C : Nat → List Nat} {F : Int → Value} (h : CrewsAt w bm n base C F) {k : Nat} (a : CrewIn F k) : base ≤ k ∧ k < w.heap.size := by
  obtain ⟨j, m, c, e⟩ := a
  by_cases c1 : ∀ i : Nat, j = i → C i = []
  · rw [h.empty j c1] at e
    cases e
  · obtain ⟨i, hi⟩ := Classical.not_forall.1 c1
    obtain ⟨rfl, hi⟩ := Classical.not_imp.1 hi
    obtain ⟨g, c', e1, e2, e3⟩ := h.row i (fun e => hi (fun _ => e))
    rw [e] at e1
    simp only [Value.slice.injEq, Option.some.injEq, Addr.mk.injEq, and_true] at e1
    obtain ⟨rfl, -, -⟩ := e1
    exact ⟨e2, e3.lt⟩
theorem Touch.mono {O O' : Nat → Prop} {w w' : World} (h : Touch O w w') (e : ∀ k, O k → O' k) : Touch O' w w' := ⟨h.os, h.tape, h.output, h.size, fun k hk hn => h.same k hk (fun ho => hn (e k ho))⟩
theorem own_crew {F : Int → Value} {j : Int} {w : World} {base n : Nat} {xs : List Value} (h : w.ownsRow base 3 1 (F j) n xs) {r : Nat} (e : (F j).ownBlock = some r) : CrewIn F r := by
  obtain ⟨_, h2⟩ := h
  rcases h2 with ⟨h2, _⟩ | ⟨g, cap, cur, hv, _⟩
  · rw [h2] at e; simp [Value.ownBlock] at e
  · rw [hv] at e
    simp [Value.ownBlock] at e
    subst e
    exact ⟨j, _, _, hv⟩
theorem crew_upd {F : Int → Value} {t : Int} {ga m c k : Nat} (h : CrewIn (updV F t (.slice (some ⟨ga, 0, none⟩) m c)) k) : CrewIn F k ∨ k = ga := by
  obtain ⟨j, m', c', e⟩ := h
  unfold updV at e
  split at e
  · simp only [Value.slice.injEq, Option.some.injEq, Addr.mk.injEq, and_true] at e
    exact .inr e.1.symm
  · exact .inl ⟨j, m', c', e⟩

/-- What add says and does. -/
def AddGot (q : Sh) (S : Nat → Bool) (bm n base : Nat) (F0 : Int → Value) (w : World) (e : Ending) (w' : World) : Prop :=
  (∃ (t : Nat → Nat) (C : Nat → List Nat) (F : Int → Value), e = .returned (.bool true) ∧ q.Full S t ∧ Rep q S t C ∧ CrewsAt w' bm (n + 1) base C F ∧ Touch (fun k => k = bm ∨ CrewIn F0 k) w w' ∧ ∀ k, CrewIn F k → CrewIn F0 k ∨ w.heap.size ≤ k) ∨
  (e = .returned (.bool false) ∧ q.Over S ∧ Adds w w')

set_option maxRecDepth 100000 in
set_option maxHeartbeats 4000000 in
theorem add_rota (p : Option Addr) (cl bm n base z0 K : Nat) (l : List Ld) (w : World) (hL : LoadsAt w p l) (hl : l.length ≤ 256) (hok : ∀ x ∈ l, okB x = true) (hK1 : 1 ≤ K) (hK2 : K ≤ 256) (hz : z0 < l.length) {W0 : Nat → Bool} {t0 : Nat → Nat} {C0 : Nat → List Nat} {F0 : Int → Value}
    (hF : (shOf l K).Full W0 t0) (hR : Rep (shOf l K) W0 t0 C0) (ho : W0 z0 = false) (hC : CrewsAt w bm n base C0 F0) (hb : base ≤ w.heap.size) (hn : n ≤ 1000) :
    Calls Try.prog 66 #[rotaV p l.length cl K bm, .int .i64 z0] w (AddGot (shOf l K) (putS W0 z0) bm n base F0 w) := by
  obtain ⟨x, hx⟩ : ∃ x, l[z0]? = some x := ⟨_, List.getElem?_eq_getElem hz⟩
  obtain ⟨g, off, rfl, c0, -, -, -⟩ := hL z0 x hx
  obtain ⟨q, hq⟩ : ∃ q, q = shOf l K := ⟨_, rfl⟩
  rw [← hq] at hF hR ⊢
  have hqn : q.n = l.length := by rw [hq]; rfl
  have hqK : q.K = K := by rw [hq]; rfl
  have hlt : ∀ i, i < q.n → q.r i < q.d i := by rw [hq]; exact shOf_lt (fun x hx => okB_okN (hok x hx))
  have hdb : ∀ i, i < l.length → q.d i ≤ 1000000 := fun i hi => by
    obtain ⟨y, hy⟩ : ∃ y, l[i]? = some y := ⟨_, List.getElem?_eq_getElem hi⟩
    have := okB_iff.1 (hok y (List.mem_of_getElem? hy))
    have h2 := shOf_d (K := K) hy (by omega)
    rw [← hq] at h2
    omega
  have hxb := okB_iff.1 (hok x (List.mem_of_getElem? hx))
  have hr0 := shOf_r (K := K) hx hxb.1
  rw [← hq] at hr0
  rw [← hr0] at c0
  have hdc : ∀ (W : World), Adds w W → ∀ i, i < l.length → W.cell? ⟨g, off + i * 4 + 1, none⟩ = some (.int .i64 (q.d i : Int)) := fun W hW i hi => by
    obtain ⟨y, hy⟩ : ∃ y, l[i]? = some y := ⟨_, List.getElem?_eq_getElem hi⟩
    have := okB_iff.1 (hok y (List.mem_of_getElem? hy))
    have h2 := shOf_d (K := K) hy (by omega)
    rw [← hq] at h2
    obtain ⟨g', off', e, -, c1, -, -⟩ := (hL.later hW) i y hy
    simp only [Option.some.injEq, Addr.mk.injEq, and_true] at e
    obtain ⟨rfl, rfl⟩ := e
    rw [h2]
    exact c1
  have hcmp : ∀ (W : World), Adds w W → ∀ i j, i < l.length → j < l.length → Calls Try.prog 86 #[rotaV (some ⟨g, off, none⟩) l.length cl K bm, .int .i64 i, .int .i64 j] W fun e w' => e = .returned (.int .i64 (ordT (q.d i) (q.d j) i j)) ∧ Adds W w' := fun W hW i j hi hj => by
    obtain ⟨y, hy⟩ : ∃ y, l[i]? = some y := ⟨_, List.getElem?_eq_getElem hi⟩
    obtain ⟨u, hu⟩ : ∃ y, l[j]? = some y := ⟨_, List.getElem?_eq_getElem hj⟩
    have h1 := okB_iff.1 (hok y (List.mem_of_getElem? hy))
    have h2 := shOf_d (K := K) hy (by omega)
    have h3 := okB_iff.1 (hok u (List.mem_of_getElem? hu))
    have h4 := shOf_d (K := K) hu (by omega)
    rw [← hq] at h2 h4
    exact compare_any _ _ _ _ _ _ _ _ _ l W (hL.later hW) rfl hl ⟨y, hy, h2.symm⟩ ⟨u, hu, h4.symm⟩
  have hway := hF.way (z := z0) (by rw [hqn]; exact hz) ho
  obtain ⟨N, hN⟩ : ∃ N, N = l.length := ⟨_, rfl⟩
  rw [← hN] at hl hz hqn hdb hdc hcmp ⊢
  have HLT := Lib.hid hlt
  have HDB := Lib.hid hdb
  have HDC := Lib.hid hdc
  have HCMP := Lib.hid hcmp
  have HWAY := Lib.hid hway
  have HQN := Lib.hid hqn
  have HQK := Lib.hid hqK
  have HREP := Lib.hid hR
  have HC := Lib.hid hC
  have hlow := hC.low
  have hrb : q.r z0 ≤ 1000000 := by have := hlt z0 (by omega); have := hdb z0 hz; omega
  obtain ⟨r0, hr⟩ : ∃ r, r = q.r z0 := ⟨_, rfl⟩
  rw [← hr] at c0 hrb
  have HR0 := Lib.hid hr
  have hz2 : (z0 : Int) < (N : Int) := by omega
  clear hx hxb hr0 hlt hdb hdc hcmp hway hqn hqK hN hF hR hC hq hL hok hr
  go_enter Try.func66, Try.ntmps66
  go_wp2
  go_step3
  go_upto_region 2 with fail
  obtain ⟨bx, hbx⟩ : ∃ b, b = w.heap.size := ⟨_, rfl⟩
  obtain ⟨W1, hW1⟩ : ∃ V, V = w.alloc (.cells #[.slice (some ⟨g, off, none⟩) N cl, .int .i64 (K : Int), .map (some bm)] 114) := ⟨_, rfl⟩
  rw [← hW1, ← hbx]
  have hA1 : Adds w W1 := by rw [hW1]; exact (Adds.refl _).alloc _
  have hX1 : Box W1 bx #[.slice (some ⟨g, off, none⟩) N cl, .int .i64 (K : Int), .map (some bm)] 114 := by rw [hW1, hbx]; exact Box.new _ _ _
  have HA1 := Lib.hid hA1
  have HX1 := Lib.hid hX1
  have HBX := Lib.hid hbx
  have hw1 : W1.heap.size = bx + 1 := by rw [hW1, hbx]; simp
  have HW1 := Lib.hid hw1
  clear hw1
  have kc0 := keep_cell hA1 c0
  have kx0 : W1.cell? ⟨bx, 0, none⟩ = some (.slice (some ⟨g, off, none⟩) N cl) := hX1.cell 0
  clear hA1 hX1 hW1 hbx c0
  go_wp2
  go_step3
  go_wp2
  clear kx0 kc0
  go_loopw [1, 5, 6] (fun v1 v5 v6 wr => ∃ (z h : Nat) (Wc : Nat → Bool) (t : Nat → Nat) (X : List (Nat × Nat × Nat)), v1 = .int .i64 z ∧ v6 = .int .i64 h ∧ Hid (q.Way Wc t z h) ∧ Hid (Rep q Wc t (X.foldl setC C0)) ∧ Hid (putS Wc z = putS W0 z0) ∧ Hid (∀ x ∈ X, x.1 < h ∧ x.2.1 < (C0 x.1).length) ∧ Hid (wr.ownsRow (bx + 1) 134 2 v5 X.length (X.flatMap (encX F0))) ∧ X.length ≤ h ∧ h ≤ 1000000 ∧ Hid (Adds W1 wr)) (fun _ _ v6 _ => (1000000 - intOf v6).toNat)
  case atStart => exact ⟨z0, r0, W0, t0, [], rfl, rfl, by rw [HR0.out]; exact HWAY, HREP, Lib.hid rfl, Lib.hid (fun x hx => by simp at hx), Lib.hid (World.ownsRow_nil _ _ _ _), by simp, hrb, Lib.hid (Adds.refl _)⟩
  case round =>
    clear HWAY HREP HR0
    obtain ⟨z, h, Wc, t, X, rfl, rfl, HWY, HRP, HPS, HXS, HO, hXl, hhb, HAD⟩ := hrel
    have hzn : z < N := by rw [← HQN.out]; exact HWY.out.lt
    have hzn2 : (z : Int) < (N : Int) := by omega
    have hAw : Adds w wr := HA1.out.trans HAD.out
    have HAW := Lib.hid hAw
    obtain ⟨d, hd⟩ : ∃ d, d = q.d z := ⟨_, rfl⟩
    have kd : wr.cell? ⟨g, off + z * 4 + 1, none⟩ = some (.int .i64 (d : Int)) := by rw [hd]; exact HDC.out wr hAw z hzn
    have HX := Lib.hid (HX1.out.later HAD.out)
    have kx0 : wr.cell? ⟨bx, 0, none⟩ = some (.slice (some ⟨g, off, none⟩) N cl) := HX.out.cell 0
    have kx1 : wr.cell? ⟨bx, 1, none⟩ = some (.int .i64 (K : Int)) := HX.out.cell 1
    have kx2 : wr.cell? ⟨bx, 2, none⟩ = some (.map (some bm)) := HX.out.cell 2
    have hdz : d ≤ 1000000 := by rw [hd]; exact HDB.out z hzn
    have HD := Lib.hid hd
    have HCW := Lib.hid (HC.out.later hAw)
    obtain ⟨pc, cc, hv⟩ := HCW.out.value h
    obtain ⟨m, hm⟩ : ∃ m, m = (C0 h).length := ⟨_, rfl⟩
    rw [← hm] at hv
    have HV := Lib.hid hv
    have HM := Lib.hid hm
    have hwfh : (Lit.int .i64 (h : Int)).wf = true := WalkArith.wf_i64 (by omega)
    have hmK : m ≤ K := by
      have e1 := HRP.out.len h
      rw [foldl_setC_far X C0 h (fun x hx => by have := (HXS.out x hx).1; omega)] at e1
      have := HWY.out.few h
      have := HQK.out
      omega
    clear hd hv hm hAw
    obtain ⟨pp, cp, rfl⟩ := own_slice HO.out
    obtain ⟨xl, hxl⟩ : ∃ y, y = X.length := ⟨_, rfl⟩
    rw [← hxl] at HO hXl ⊢
    have HXL := Lib.hid hxl
    clear hxl
    by_cases hdh : d ≤ h
    · have hdq : decide ((d : Int) ≤ (h : Int)) = true := decide_eq_true (by omega)
      have hdq2 : decide (d ≤ h) = true := decide_eq_true hdh
      go_wp2_with (first
        | (at_lookup; refine wpList_lookV _ rfl _ _ rfl bm n F0 (h : Int) (.slice pc m cc) rfl HCW.out.map rfl hwfh HV.out ?_)
        | go_in)
      go_ret
      refine Or.inr ⟨rfl, ?_, HAW.out⟩
      have := HWY.out.over (HLT.out z (by rw [HQN.out]; exact hzn)) (by rw [← HD.out]; exact hdh)
      rw [HPS.out] at this
      exact this
    · have hdq : decide ((d : Int) ≤ (h : Int)) = false := decide_eq_false (by omega)
      have hdq2 : decide (d ≤ h) = false := decide_eq_false hdh
      by_cases hroom : m < K
      · have hmq : decide ((m : Int) < (K : Int)) = true := decide_eq_true (by omega)
        have hmq2 : decide (m < K) = true := decide_eq_true hroom
        go_upto_region 19 with (first
          | (at_lookup; refine wpList_lookV _ rfl _ _ rfl bm n F0 (h : Int) (.slice pc m cc) rfl HCW.out.map rfl hwfh HV.out ?_)
          | go_in)
        obtain ⟨j0, hj, hj0, hj1, hj2⟩ := info_parts info3
        have HJ := Lib.hid hj
        have HJ0 := Lib.hid hj0
        have HJ1 := Lib.hid hj1
        have HJ2 := Lib.hid hj2
        clear hj hj0 hj1 hj2 hmq hmq2 kd kx0 kx1 kx2 hdq hdq2
        go_loopw [79] (fun v79 wr => ∃ j : Nat, j ≤ xl ∧ v79 = .int .i64 j ∧ Hid (CrewsAt wr bm n base ((X.take j).foldl setC C0) F0) ∧ Hid (wr.ownsRow (bx + 1) 134 2 (.slice pp xl cp) xl (X.flatMap (encX F0))) ∧ Hid (Box wr bx #[.slice (some ⟨g, off, none⟩) N cl, .int .i64 (K : Int), .map (some bm)] 114) ∧ Hid (Touch (fun k => k = bm ∨ CrewIn F0 k) w wr)) (fun v79 _ => xl - (intOf v79).toNat)
        case atStart => exact ⟨0, by omega, rfl, HCW, HO, HX, Lib.hid (Touch.of_adds HAW.out _)⟩
        case round =>
          obtain ⟨j, hj, rfl, HCJ, HOJ, HXJ, HTJ⟩ := hrel
          by_cases hjx : j < xl
          · have hjx2 : (j : Int) < (xl : Int) := by omega
            obtain ⟨⟨hr, pos, ld⟩, hxj⟩ : ∃ x, X[j]? = some x := ⟨_, List.getElem?_eq_getElem (by have := HXL.out; omega)⟩
            obtain ⟨q1, q2⟩ := HXS.out _ (List.mem_of_getElem? hxj)
            dsimp only at q1 q2
            have hne : C0 hr ≠ [] := fun e => by rw [e] at q2; simp at q2
            obtain ⟨gc, c1, e1, e2, e3⟩ := HC.out.row hr hne
            obtain ⟨f0, f1⟩ := flatX_get F0 hxj
            dsimp only at f0 f1
            rw [e1] at f0
            obtain ⟨gp, cp', eg, hgp⟩ := own_some HOJ.out (by omega)
            injection eg with eg1 eg2 eg3
            subst eg1
            clear eg2 eg3
            have k0 : wr.cell? ⟨gp, j * 2, none⟩ = some (.pointer (some ⟨gc, pos, none⟩)) := (own_cell HOJ.out f0).1
            have k1 := (own_cell HOJ.out f1).1
            have hgl := e3.lt
            have hbxx := HBX.out
            have HF := Lib.hid e1
            have hpos : pos < ((X.take j).foldl setC C0 hr).length := by rw [foldl_setC_len]; exact q2
            have HPOS := Lib.hid hpos
            have HXJ2 := Lib.hid hxj
            have hne2 : (X.take j).foldl setC C0 hr ≠ [] := fun e => by rw [e] at hpos; simp at hpos
            obtain ⟨gc2, c2, r1, r2, r3⟩ := HCJ.out.row hr hne2
            rw [e1] at r1
            simp only [Value.slice.injEq, Option.some.injEq, Addr.mk.injEq, and_true] at r1
            obtain ⟨rfl, -, rfl⟩ := r1
            have HRC := Lib.hid r3
            clear q1 q2 hne e1 e3 f0 f1 hpos hne2 r2 r3 hxj
            go_upto_region 21 with fail
            obtain ⟨xb, hxb⟩ : ∃ b, b = wr.heap.size := ⟨_, rfl⟩
            obtain ⟨W3, hW3⟩ : ∃ V, V = wr.alloc (.cells #[.pointer (some ⟨gc, pos, none⟩), .int .i64 (ld : Int)] 134) := ⟨_, rfl⟩
            rw [← hW3, ← hxb]
            have hA3 : Adds wr W3 := by rw [hW3]; exact (Adds.refl _).alloc _
            have hX3 : Box W3 xb #[.pointer (some ⟨gc, pos, none⟩), .int .i64 (ld : Int)] 134 := by rw [hW3, hxb]; exact Box.new _ _ _
            have kk0 : W3.cell? ⟨xb, 0, none⟩ = some (.pointer (some ⟨gc, pos, none⟩)) := hX3.cell 0
            have kk1 : W3.cell? ⟨xb, 1, none⟩ = some (.int .i64 (ld : Int)) := hX3.cell 1
            have hrow := HRC.out.later hA3
            have kf : W3.frozen? ⟨gc, pos, none⟩ = false := hrow.free pos
            obtain ⟨u, hu⟩ : ∃ u, W3.cell? ⟨gc, pos, none⟩ = some u := by
              obtain ⟨v, hv⟩ : ∃ v, (numsI ((X.take j).foldl setC C0 hr))[pos]? = some v := ⟨_, List.getElem?_eq_getElem (by rw [numsI_len]; exact HPOS.out)⟩
              exact ⟨_, hrow.cell hv⟩
            have HA3 := Lib.hid hA3
            clear hA3 hX3 hW3 hxb hrow k0 k1
            go_wp2
            refine ⟨⟨j + 1, by omega, by go_num, Lib.hid ?_, Lib.hid (own_same HOJ.out fun q hq => ?_), Lib.hid ((HXJ.out.later HA3.out).far (by simp; omega) _), Lib.hid ((HTJ.out.behind HA3.out).set (p := ⟨gc, pos, none⟩) (Or.inr ⟨_, _, _, HF.out⟩) _)⟩, by simp [intOf]; omega⟩
            · rw [take_foldl HXJ2.out]
              exact (HCJ.out.later HA3.out).store HF.out HPOS.out
            · have hqg : q = gp := by simpa [Value.ownBlock] using hq.symm
              subst hqg
              exact (Below.heap_setCell _ _ _ _ (by simp; omega)).trans (HA3.out.block _ (by obtain ⟨_, _, e⟩ := own_block HOJ.out hq; exact (Array.getElem?_eq_some_iff.1 e).1))
          · have hjx2 : decide ((j : Int) < (xl : Int)) = false := decide_eq_false (by omega)
            have hjj : X.take j = X := List.take_of_length_le (by have := HXL.out; omega)
            rw [hjj] at HCJ
            have hCl : ((X.foldl setC C0) h).length = m := by rw [foldl_setC_len]; exact HM.out.symm
            have hown := HCJ.out.own h
            rw [HV.out, hCl] at hown
            have HOWN := Lib.hid hown
            have HCL := Lib.hid hCl
            have kx2 : wr.cell? ⟨bx, 2, none⟩ = some (.map (some bm)) := HXJ.out.cell 2
            have HMV := Lib.hid HCJ.out.map
            have hbw : base ≤ wr.heap.size := by have := HTJ.out.size; omega
            have hbmw := HMV.out.lt
            have hbxl := HXJ.out.lt
            have hpcb : ∀ b, b = bx ∨ b = bm → some b ≠ (Value.slice pc m cc).ownBlock := fun b hb e => by
              obtain ⟨z1, cu, z2⟩ := own_block HOWN.out e.symm
              rcases hb with rfl | rfl
              · have z3 := HXJ.out
                unfold Box at z3
                rw [z2] at z3
                simp at z3
              · omega
            have HPCB := Lib.hid hpcb
            clear hjj hown hCl hpcb
            go_upto_region 23 with fail
            refine wp_region_Z 10 (fun w' => w'.cell? ⟨bx, 2, none⟩ = some (.map (some bm)) ∧ MapV w' bm n F0) (by kernel_rfl) ⟨kx2, HMV.out.later (Adds.refl _).drew⟩ (fun hHeld => ?_)
            refine wpAnyZ_take (i := 0) (oi := ⟨some 89, _, _, _, _, _⟩) (v := ?v101) rfl (by kernel_rfl) (by kernel_rfl) (by kernel_rfl) (by kernel_rfl) (fun _ _ _ h => h) (Or.inl ⟨by rfl, ?hy101⟩) (by assumption) ?rest101
            case hy101 => (intro w hSw; (try dsimp only at hSw); go_simp; try with_reducible rfl)
            try simp only [Act.put, List.setIfInBounds_toArray, List.set_cons_zero, List.set_cons_succ]
            refine wpAnyZ_take (i := 1) (oi := ⟨some 90, _, _, _, _, _⟩) (v := ?v102) rfl (by kernel_rfl) (by kernel_rfl) (by kernel_rfl) (by kernel_rfl) (fun _ _ _ h => h) (Or.inl ⟨by rfl, ?hy102⟩) (by assumption) ?rest102
            case hy102 => (intro w hSw; (try dsimp only at hSw); go_simp; try with_reducible rfl)
            try simp only [Act.put, List.setIfInBounds_toArray, List.set_cons_zero, List.set_cons_succ]
            refine wpAnyZ_take (i := 2) (oi := ⟨some 91, _, _, _, _, _⟩) (v := ?v103) rfl (by kernel_rfl) (by kernel_rfl) (by kernel_rfl) (by kernel_rfl) (fun _ _ _ h => h) (Or.inl ⟨by rfl, ?hy103⟩) (by assumption) ?rest103
            case hy103 => (intro w hSw; (try dsimp only at hSw); go_simp; try with_reducible rfl)
            try simp only [Act.put, List.setIfInBounds_toArray, List.set_cons_zero, List.set_cons_succ]
            refine wpAnyZ_take (i := 3) (oi := ⟨some 92, _, _, _, _, _⟩) (v := ?v104) rfl (by kernel_rfl) (by kernel_rfl) (by kernel_rfl) (by kernel_rfl) (fun _ _ _ h => h) (Or.inl ⟨by rfl, ?hy104⟩) (by assumption) ?rest104
            case hy104 => (intro w hSw; (try dsimp only at hSw); go_simp; try with_reducible rfl)
            try simp only [Act.put, List.setIfInBounds_toArray, List.set_cons_zero, List.set_cons_succ]
            refine wpAnyZ_take (i := 4) (oi := ⟨some 93, _, _, _, _, _⟩) (v := ?v105) rfl (by kernel_rfl) (by kernel_rfl) (by kernel_rfl) (by kernel_rfl) (fun _ _ _ h => h) (Or.inl ⟨by rfl, ?hy105⟩) (by assumption) ?rest105
            case hy105 => (intro w hSw; (try dsimp only at hSw); go_simp; try with_reducible rfl)
            try simp only [Act.put, List.setIfInBounds_toArray, List.set_cons_zero, List.set_cons_succ]
            refine wpAnyZ_take (i := 5) (oi := ⟨some 94, _, _, _, _, _⟩) (v := ?v106) rfl (by kernel_rfl) (by kernel_rfl) (by kernel_rfl) (by kernel_rfl) (fun _ _ _ h => h) (Or.inl ⟨by rfl, ?hy106⟩) (by assumption) ?rest106
            case hy106 => (intro w hSw; (try dsimp only at hSw); go_simp; try with_reducible rfl)
            try simp only [Act.put, List.setIfInBounds_toArray, List.set_cons_zero, List.set_cons_succ]
            refine wpAnyZ_take (i := 6) (oi := ⟨some 95, _, _, _, _, _⟩) (v := .slice pc m cc) rfl (by kernel_rfl) (by kernel_rfl) (by kernel_rfl) (by kernel_rfl) (fun _ _ _ h => h) (Or.inl ⟨by rfl, ?hy107⟩) (by assumption) ?rest107
            case hy107 =>
              intro w hSw
              exact look_yieldV hSw.2 rfl rfl rfl hwfh HV.out
            try simp only [Act.put, List.setIfInBounds_toArray, List.set_cons_zero, List.set_cons_succ]
            refine wpAnyZ_take (i := 7) (oi := ⟨some 96, _, _, _, _, _⟩) (v := ?v108) rfl (by kernel_rfl) (by kernel_rfl) (by kernel_rfl) (by kernel_rfl) (fun _ _ _ h => h) (Or.inl ⟨by rfl, ?hy108⟩) (by assumption) ?rest108
            case hy108 => (intro w hSw; (try dsimp only at hSw); go_simp; try with_reducible rfl)
            try simp only [Act.put, List.setIfInBounds_toArray, List.set_cons_zero, List.set_cons_succ]
            refine wpAnyZ_loud (i := 8) (o := ⟨some 97, _, _, _, _, _⟩) (by kernel_rfl) rfl (fun K hK => ?_)
            go_simp
            obtain ⟨Wa, hWa⟩ : ∃ V, V = (wr.alloc (.cells #[.int .i64 (z : Int)] 3)).drew := ⟨_, rfl⟩
            rw [← hWa]
            have hAa : Adds wr Wa := by rw [hWa]; exact ((Adds.refl _).alloc _).drew
            have hsa : Wa.heap.size = wr.heap.size + 1 := by rw [hWa]; simp
            have hba : Box Wa wr.heap.size #[.int .i64 (z : Int)] 3 := by rw [hWa]; exact (Box.new wr _ _).drew
            have hoa := own_later HOWN.out hAa
            refine hK.out _ _ (Or.inr ⟨keep_cell hAa kx2, HMV.out.later hAa⟩) ?_
            clear hK K hHeld
            try simp only [Act.put, List.setIfInBounds_toArray, List.set_cons_zero, List.set_cons_succ]
            refine wpAnyZ_loud (i := 9) (o := ⟨some 98, _, _, _, _, _⟩) (by kernel_rfl) rfl (fun K hK => ?_)
            refine step_append_lies _ (by rfl) _ _ 35 (by rfl) base 3 j0 (.int .i64 0) 1 8 Try.underlying35 HJ.out HJ0.out HJ1.out HJ2.out rfl (by decide) (.slice pc m cc) m _ (by rfl) hoa ⟨wr.heap.size, 0, none⟩ 1 1 [.int .i64 (z : Int)] (by rfl) (by rfl) (World.news_of_block hba) (by simp [Value.oneCell']) (by omega) (by unfold maxLen; omega) (by omega) (by omega) (wr.heap.size + 1) hsa ?_
            intro ga ca Wb hob hgb hlb hsb
            have hkb : ∀ b, b < wr.heap.size → (b = bx ∨ b = bm) → Wb.heap[b]? = wr.heap[b]? := fun b h1 h2 => (hgb.block b (by omega) (HPCB.out b h2)).trans (hAa.block b h1)
            have hHeld : Wb.cell? ⟨bx, 2, none⟩ = some (.map (some bm)) ∧ MapV Wb bm n F0 := ⟨(World.cell?_of_block (a := ⟨bx, 2, none⟩) (hkb bx hbxl (Or.inl rfl))).trans kx2, HMV.out.same (hkb bm hbmw (Or.inr rfl))⟩
            refine hK.out _ _ (Or.inr hHeld) ?_
            clear hK K
            try simp only [Act.put, List.setIfInBounds_toArray, List.set_cons_zero, List.set_cons_succ]
            refine wpAnyZ_loud (i := 10) (o := ⟨none, _, _, _, _, _⟩) (by kernel_rfl) rfl (fun K hK => ?_)
            refine step_turnV rfl _ _ _ rfl bm n F0 (h : Int) (.slice (some ⟨ga, 0, none⟩) (m + 1) ca) rfl hHeld.2 rfl hwfh rfl (by unfold maxLen; omega) (by intro e; cases e) ?_
            intro Wc' hmc hgc
            refine hK.out _ _ (Or.inl rfl) ?_
            clear hK K hHeld
            try simp only [Act.put]
            refine wpAnyZ_done (by kernel_rfl) ?_ _
            have hfull := HWY.out.room (by rw [← HD.out]; omega) (by have e := HRP.out.len h; rw [HCL.out] at e; rw [← e, HQK.out]; exact hroom)
            have hrep := HRP.out.room (h := h) (z := z) (by rw [HQN.out]; exact hzn) HWY.out.out
            rw [HPS.out] at hfull hrep
            have HFU := Lib.hid hfull
            have HRE := Lib.hid hrep
            clear hfull hrep
            go_wp2
            go_ret
            refine Or.inl ⟨_, _, updV F0 h (.slice (some ⟨ga, 0, none⟩) (m + 1) ca), rfl, HFU.out, HRE.out, ?_, ?_, fun k hk => ?_⟩
            · have hput := (HCJ.out.later hAa).put (k := h) (z := z) (g := ga) (c := ca) (W := Wb) (w' := Wc') (n' := n + 1) (by omega) (by rw [HV.out]; exact hgb) (by rw [HCL.out]; simpa [numsI] using hob) (by rw [HV.out]; rcases hlb with e | e; exact Or.inl e; exact Or.inr (by omega)) (by rw [HCL.out]; exact hmc) hgc
              rw [HCL.out] at hput
              exact hput
            · refine touch_grown (touch_grown (HTJ.out.behind hAa) hgb fun r hr => ?_) hgc fun r hr => Or.inl (by simpa using hr.symm)
              have hOW := HOWN.out
              rw [← HV.out] at hOW hr
              exact Or.inr (own_crew hOW hr)
            · rcases crew_upd hk with e | e
              · exact .inl e
              · subst e
                rcases hlb with e | e
                · have hOW := HOWN.out
                  rw [← HV.out] at hOW e
                  exact .inl (own_crew hOW e)
                · exact .inr (by have := HTJ.out.size; omega)
      · have hmq : decide ((m : Int) < (K : Int)) = false := decide_eq_false (by omega)
        have hmq2 : decide (m < K) = false := decide_eq_false hroom
        go_upto_region 9 with (first
          | (at_lookup; refine wpList_lookV _ rfl _ _ rfl bm n F0 (h : Int) (.slice pc m cc) rfl HCW.out.map rfl hwfh HV.out ?_)
          | go_in)
        have hmKK : m = K := by omega
        have hC' : (X.foldl setC C0) h = C0 h := foldl_setC_far X C0 h (fun x hx => by have := (HXS.out x hx).1; omega)
        have hnd : (C0 h).Nodup := by rw [← hC']; exact (HRP.out h).1
        have hmem : ∀ (j x : Nat), (C0 h)[j]? = some x → x < N ∧ Wc x = true ∧ t x = h := fun j x hx => by rw [← hC'] at hx; have := HRP.out.get hx; rw [HQN.out] at this; exact this
        have hne : C0 h ≠ [] := fun e => by have := HM.out; rw [e] at this; simp at this; omega
        obtain ⟨gc, c1, e1, e2, e3⟩ := HC.out.row h hne
        have e4 := HV.out
        rw [e1] at e4
        simp only [Value.slice.injEq] at e4
        obtain ⟨rfl, -, rfl⟩ := e4
        have HRO := Lib.hid e3
        have HND := Lib.hid hnd
        have HMEM := Lib.hid hmem
        have HC' := Lib.hid hC'
        have hst : LastOf q (C0 h) 0 0 := LastOf.start (by have := HM.out; omega)
        have HST := Lib.hid hst
        have hmp : 0 < m := by omega
        have HMK := Lib.hid hmKK
        clear hmKK hC' hnd hmem hne e1 e2 e3 hst hmq hmq2 hdq hdq2 kx0 kx1 kx2 kd
        rename World => Wo
        go_loopw [8, 39] (fun v8 v39 wr => ∃ (k last : Nat), k ≤ m ∧ v39 = .int .i64 k ∧ v8 = .int .i64 last ∧ Hid (LastOf q (C0 h) k last) ∧ last < m ∧ Hid (Adds Wo wr)) (fun _ v39 _ => m - (intOf v39).toNat)
        case atStart => exact ⟨0, 0, by omega, rfl, rfl, HST, hmp, Lib.hid (Adds.refl _)⟩
        case round =>
          obtain ⟨k, last, hk, rfl, rfl, HLA, hlm, HAI⟩ := hrel
          have hlm2 : (last : Int) < (m : Int) := by omega
          have hl0 : (0 : Int) ≤ (last : Int) := by omega
          have hk0 : (0 : Int) ≤ (k : Int) := by omega
          obtain ⟨y, hy⟩ : ∃ y, (C0 h)[last]? = some y := ⟨_, List.getElem?_eq_getElem (by have := HM.out; omega)⟩
          have hyN := (HMEM.out last y hy).1
          have ky : wr.cell? ⟨gc, last, none⟩ = some (.int .i64 (y : Int)) := (HRO.out.later (HAW.out.trans HAI.out)).cell (numsI_get hy)
          have HXI := Lib.hid (HX.out.later HAI.out)
          have b0 : wr.cell? ⟨bx, 0, none⟩ = some (.slice (some ⟨g, off, none⟩) N cl) := HXI.out.cell 0
          have b1 : wr.cell? ⟨bx, 1, none⟩ = some (.int .i64 (K : Int)) := HXI.out.cell 1
          have b2 : wr.cell? ⟨bx, 2, none⟩ = some (.map (some bm)) := HXI.out.cell 2
          have HY := Lib.hid hy
          clear hy
          by_cases hkm : k < m
          · have hkm2 : (k : Int) < (m : Int) := by omega
            obtain ⟨x, hx⟩ : ∃ x, (C0 h)[k]? = some x := ⟨_, List.getElem?_eq_getElem (by have := HM.out; omega)⟩
            have hxN := (HMEM.out k x hx).1
            have kx : wr.cell? ⟨gc, k, none⟩ = some (.int .i64 (x : Int)) := (HRO.out.later (HAW.out.trans HAI.out)).cell (numsI_get hx)
            have hcmp := HCMP.out wr.drew ((HAW.out.trans HAI.out).drew) x y hxN hyN
            have hop := ordT_pos (di := (q.d x : Int)) (dj := (q.d y : Int)) (i := x) (j := y)
            obtain ⟨o, hoo⟩ : ∃ o, o = ordT (q.d x) (q.d y) x y := ⟨_, rfl⟩
            rw [← hoo] at hcmp hop
            have HCP := Lib.hid hcmp
            have HXX := Lib.hid hx
            have hiff : q.lt y x ↔ 0 < o := by rw [hop]; unfold Sh.lt; omega
            clear hcmp hop hoo hx
            by_cases hyx : q.lt y x
            · have hoq : decide (0 < o) = true := decide_eq_true (hiff.1 hyx)
              have HYX := Lib.hid hyx
              clear hiff hyx
              go_upto_region 11 with fail
              go_region_held3 (fun w' => w'.cell? ⟨bx, 0, none⟩ = some (.slice (some ⟨g, off, none⟩) N cl) ∧ w'.cell? ⟨bx, 1, none⟩ = some (.int .i64 (K : Int)) ∧ w'.cell? ⟨bx, 2, none⟩ = some (.map (some bm)) ∧ w'.cell? ⟨gc, k, none⟩ = some (.int .i64 (x : Int)) ∧ w'.cell? ⟨gc, last, none⟩ = some (.int .i64 (y : Int)))
                (first | (go_keep; done) | (exact ⟨keep_cell HCA.out b0, keep_cell HCA.out b1, keep_cell HCA.out b2, keep_cell HCA.out kx, keep_cell HCA.out ky⟩))
                ((first
                  | (go_simp; go_at_call 86; refine HCP.out.mono ?_; rintro e w1 ⟨rfl, hca⟩; have HCA := Lib.hid hca; clear hca)))
              go_wp2
              exact ⟨⟨k + 1, k, by omega, by go_num, rfl, Lib.hid (HLA.out.turn HXX.out HY.out HYX.out), hkm, Lib.hid (HAI.out.drew.trans HCA.out)⟩, by simp [intOf]; omega⟩
            · have hoq : decide (0 < o) = false := decide_eq_false (fun e => hyx (hiff.2 e))
              have HYX := Lib.hid hyx
              clear hiff hyx
              go_upto_region 11 with fail
              go_region_held3 (fun w' => w'.cell? ⟨bx, 0, none⟩ = some (.slice (some ⟨g, off, none⟩) N cl) ∧ w'.cell? ⟨bx, 1, none⟩ = some (.int .i64 (K : Int)) ∧ w'.cell? ⟨bx, 2, none⟩ = some (.map (some bm)) ∧ w'.cell? ⟨gc, k, none⟩ = some (.int .i64 (x : Int)) ∧ w'.cell? ⟨gc, last, none⟩ = some (.int .i64 (y : Int)))
                (first | (go_keep; done) | (exact ⟨keep_cell HCA.out b0, keep_cell HCA.out b1, keep_cell HCA.out b2, keep_cell HCA.out kx, keep_cell HCA.out ky⟩))
                ((first
                  | (go_simp; go_at_call 86; refine HCP.out.mono ?_; rintro e w1 ⟨rfl, hca⟩; have HCA := Lib.hid hca; clear hca)))
              go_wp2
              exact ⟨⟨k + 1, last, by omega, by go_num, rfl, Lib.hid (HLA.out.keep HND.out HXX.out HY.out HYX.out), hlm, Lib.hid (HAI.out.drew.trans HCA.out)⟩, by simp [intOf]; omega⟩
          · have hkk : k = m := by omega
            subst hkk
            have hkq : decide ((k : Int) < (k : Int)) = false := by simp
            have hzW := HWY.out.out
            obtain ⟨hyN2, hyW, hyt⟩ := HMEM.out last y HY.out
            have hzy0 : z ≠ y := fun e => by rw [e, hyW] at hzW; cases hzW
            have hat : q.at Wc t h = q.K := by have e := HRP.out.len h; rw [HC'.out, ← HM.out, HMK.out] at e; rw [← e, HQK.out]
            have hlast := HLA.out
            have hlast2 : LastOf q (C0 h) (C0 h).length last := by rw [← HM.out]; exact hlast
            rw [← HC'.out] at hlast2
            have hall := LastOf.all HRP.out hlast2 (by rw [HC'.out]; exact HY.out)
            have hcmp := HCMP.out wr.drew ((HAW.out.trans HAI.out).drew) z y hzn hyN
            have hop := ordT_neg (di := (q.d z : Int)) (dj := (q.d y : Int)) (i := z) (j := y)
            obtain ⟨o, hoo⟩ : ∃ o, o = ordT (q.d z) (q.d y) z y := ⟨_, rfl⟩
            rw [← hoo] at hcmp hop
            have HCP := Lib.hid hcmp
            have hiff : q.lt z y ↔ o < 0 := by rw [hop]; unfold Sh.lt; omega
            have HALL := Lib.hid hall
            have HAT := Lib.hid hat
            have hdl : h < q.d z := by have := HD.out; omega
            have HDL := Lib.hid hdl
            clear hcmp hop hoo hat hlast hlast2 hall hdl hzW
            by_cases hzy : q.lt z y
            · have hoq : decide (o < 0) = true := decide_eq_true (hiff.1 hzy)
              have hway := HWY.out.swap HAT.out (by rw [HQN.out]; exact hyN) hyW hyt hzy HALL.out HDL.out
              have hrep := HRP.out.swap (z := z) (h := h) (pos := last) (y := y) (by rw [HQN.out]; exact hzn) HWY.out.out (by rw [HC'.out]; exact HY.out)
              have hps : putS (putS (delS Wc y) z) y = putS W0 z0 := (swap_set Wc hyW).trans HPS.out
              have HWY2 := Lib.hid hway
              have HRP2 := Lib.hid hrep
              have HPS2 := Lib.hid hps
              have HHL := Lib.hid (show last < (C0 h).length by rw [← HM.out]; exact hlm)
              have hdz2 : d ≤ 1000000 := hdz
              clear hiff hzy hway hrep hps hyW hyt hzy0
              go_upto_region 14 with fail
              go_region_held3 (fun w' => w'.cell? ⟨bx, 0, none⟩ = some (.slice (some ⟨g, off, none⟩) N cl) ∧ w'.cell? ⟨bx, 1, none⟩ = some (.int .i64 (K : Int)) ∧ w'.cell? ⟨bx, 2, none⟩ = some (.map (some bm)) ∧ w'.cell? ⟨gc, last, none⟩ = some (.int .i64 (y : Int)))
                (first | (go_keep; done) | (exact ⟨keep_cell HCA.out b0, keep_cell HCA.out b1, keep_cell HCA.out b2, keep_cell HCA.out ky⟩))
                ((first
                  | (go_simp; go_at_call 86; refine HCP.out.mono ?_; rintro e w1 ⟨rfl, hca⟩; have HCA := Lib.hid hca; clear hca)))
              have HOI := Lib.hid (own_later HO.out ((HAI.out.drew).trans HCA.out))
              have ky1 := keep_cell HCA.out (show wr.drew.cell? ⟨gc, last, none⟩ = some (.int .i64 (y : Int)) from ky)
              obtain ⟨i0, hi, hi0, hi1, hi2⟩ := info_parts info134
              have HI := Lib.hid hi
              have HI0 := Lib.hid hi0
              have HI1 := Lib.hid hi1
              have HI2 := Lib.hid hi2
              have hbx1 : bx + 1 ≤ w1.heap.size := by have h1 := HAI.out.size; have h2 := HCA.out.size; have h3 := HAD.out.size; have h4 := HW1.out; simp at h2; omega
              clear hi hi0 hi1 hi2 ky b0 b1 b2
              go_upto_region 16 with (at_builtin; ((refine wpList_append_lies _ rfl _ _ 131 rfl (bx + 1) 134 i0 (.agg #[.pointer none, .int .i64 0]) 2 16 Try.underlying131 HI.out HI0.out HI1.out HI2.out rfl (by decide) (.slice pp xl cp) xl _ rfl (HOI.out.alloc _) ⟨w1.heap.size, 0, none⟩ 1 1 [.pointer (some ⟨gc, last, none⟩), .int .i64 (z : Int)] rfl rfl (World.news_of_block (Box.new w1 _ 134)) (by simp [Value.oneCell']) (by omega) (by unfold maxLen; omega) (by omega) (by simp; omega) (w1.heap.size + 1) (by simp) ?_); intro g6 c6 w6 ho6 hg6 hl6 hs6; have HO6 := Lib.hid ho6; have HG6 := Lib.hid hg6; clear ho6 hg6 hl6))
              have hA6 : Adds W1 w6 := Below.grown ((HAD.out.trans (HAI.out.drew.trans HCA.out)).alloc _) HG6.out (by have h3 := (HAD.out.trans (HAI.out.drew.trans HCA.out)).size; simp; omega) (fun q hq => by have := (own_block HOI.out hq).1; rw [HW1.out]; exact this)
              have HA6 := Lib.hid hA6
              have ky6 : w6.cell? ⟨gc, last, none⟩ = some (.int .i64 (y : Int)) := (HRO.out.later (HA1.out.trans hA6)).cell (numsI_get HY.out)
              clear hA6 ky1
              go_wp2
              refine ⟨⟨y, h + 1, putS (delS Wc y) z, setT t z h, X ++ [(h, last, z)], rfl, by go_num, HWY2, Lib.hid (by rw [List.foldl_append]; exact HRP2.out), HPS2, Lib.hid (fun x hx => ?_), Lib.hid ?_, by rw [List.length_append, ← HXL.out]; simp; omega, by omega, HA6⟩, meas_lt h (by omega)⟩
              · rcases List.mem_append.1 hx with hx | hx
                · have := HXS.out x hx
                  exact ⟨by omega, this.2⟩
                · simp only [List.mem_singleton] at hx
                  subst hx
                  exact ⟨by show h < h + 1; omega, HHL.out⟩
              · have h6 := HO6.out
                rw [List.flatMap_append, List.length_append, ← HXL.out]
                have e : [(h, last, z)].flatMap (encX F0) = [.pointer (some ⟨gc, last, none⟩), .int .i64 (z : Int)] := by
                  simp only [List.flatMap_cons, List.flatMap_nil, List.append_nil, encX, HV.out, blkV]
                rw [e]
                exact h6
            · have hoq : decide (o < 0) = false := decide_eq_false (fun e => hzy (hiff.2 e))
              have hyz : q.lt y z := (Sh.lt_total (q := q) hzy0).resolve_left hzy
              have hway := HWY.out.pass HAT.out (fun j hj hW ht => by
                by_cases e : j = y
                · rw [e]; exact hyz
                · exact Sh.lt_trans (HALL.out j hj hW ht e) hyz)
              have HWY2 := Lib.hid hway
              clear hiff hzy hway hyz hyW hyt hzy0
              go_upto_region 14 with fail
              go_region_held3 (fun w' => w'.cell? ⟨bx, 0, none⟩ = some (.slice (some ⟨g, off, none⟩) N cl) ∧ w'.cell? ⟨bx, 1, none⟩ = some (.int .i64 (K : Int)) ∧ w'.cell? ⟨bx, 2, none⟩ = some (.map (some bm)) ∧ w'.cell? ⟨gc, last, none⟩ = some (.int .i64 (y : Int)))
                (first | (go_keep; done) | (exact ⟨keep_cell HCA.out b0, keep_cell HCA.out b1, keep_cell HCA.out b2, keep_cell HCA.out ky⟩))
                ((first
                  | (go_simp; go_at_call 86; refine HCP.out.mono ?_; rintro e w1 ⟨rfl, hca⟩; have HCA := Lib.hid hca; clear hca)))
              have hA6 : Adds Wo w1 := HAI.out.drew.trans HCA.out
              have HA6 := Lib.hid hA6
              clear hA6
              go_wp2
              exact ⟨⟨z, h + 1, Wc, t, X, rfl, by go_num, HWY2, HRP, HPS, Lib.hid (fun x hx => by have := HXS.out x hx; exact ⟨by omega, this.2⟩), Lib.hid (by rw [← HXL.out]; exact own_later HO.out HA6.out), by rw [← HXL.out]; omega, by omega, Lib.hid (HAD.out.trans HA6.out)⟩, meas_lt h (by omega)⟩
end Go.Proofs.Ytkofnhimgegcnaa

namespace Go.Proofs.Ytkofnhimgegcnaa
open Go Go.RowKit Go.Sort

def longB (x : Ld) : Bool := x.2.2.1 != 1
/-- The first load that is so, or -1. -/
def idxL (pr : Ld → Bool) (l : List Ld) : Int := if l.any pr then (l.findIdx pr : Int) else -1
theorem idxL_hit {pr : Ld → Bool} : ∀ {l : List Ld} {k : Nat} {x : Ld}, (l.take k).any pr = false → l[k]? = some x → pr x = true → idxL pr l = (k : Int)
  | [], k, x, _, h, _ => by simp at h
  | y :: l, 0, x, _, h, hx => by simp at h; subst h; simp [idxL, hx, List.findIdx_cons]
  | y :: l, k + 1, x, h, h1, hx => by
    simp only [List.take_succ_cons, List.any_cons, Bool.or_eq_false_iff] at h
    have ih := idxL_hit (l := l) h.2 (by simpa using h1) hx
    have hm : l.any pr = true := List.any_eq_true.2 ⟨x, List.mem_of_getElem? (by simpa using h1), hx⟩
    simp only [idxL, hm, if_true] at ih
    simp only [idxL, List.any_cons, h.1, hm, Bool.false_or, if_true, List.findIdx_cons, cond_false]
    omega
theorem any_nextL {pr : Ld → Bool} {l : List Ld} {k : Nat} {x : Ld} (h : (l.take k).any pr = false) (h1 : l[k]? = some x) (hx : pr x = false) : (l.take (k + 1)).any pr = false := by
  obtain ⟨a, b⟩ := List.getElem?_eq_some_iff.1 h1
  rw [List.take_succ_eq_append_getElem a, b, List.any_append, h]
  simp [hx]

set_option maxHeartbeats 1000000 in
theorem long_any (x0 x1 x2 x3 : Int) (w : World) : Calls Try.prog 103 #[.agg #[.int .i64 x0, .int .i64 x1, .int .i64 x2, .int .i64 x3]] w fun e w' => e = .returned (.bool (longB (x0, x1, x2, x3))) ∧ Adds w w' := by
  go_enter Try.func103, Try.ntmps103
  go_wp2
  go_ret
  exact ⟨rfl, (Adds.refl _).alloc _⟩

set_option maxHeartbeats 1000000 in
theorem indexL_any (p : Option Addr) (cap : Nat) (l : List Ld) (w : World) (hN : l.length ≤ 256) (hL : LoadsAt w p l) :
    Calls Try.prog 121 #[.slice p l.length cap, .func (.func 103) #[] #[]] w fun e w' => e = .returned (.int .i64 (idxL longB l)) ∧ Adds w w' := by
  obtain ⟨N, hNl⟩ : ∃ N, N = l.length := ⟨_, rfl⟩
  rw [← hNl] at hN ⊢
  have HL := Lib.hid hL
  have HN := Lib.hid hNl
  clear hL hNl
  go_enter Try.func121, Try.ntmps121
  go_wp2
  go_loopw [8] (fun i wr => ∃ k : Nat, k ≤ N ∧ i = .int .i64 k ∧ Hid ((l.take k).any longB = false) ∧ Hid (Adds w wr)) (fun i _ => N - (intOf i).toNat)
  case atStart => exact ⟨0, by omega, rfl, Lib.hid (by simp), Lib.hid (Adds.refl w)⟩
  case round =>
    obtain ⟨k, hk, rfl, hany, hb⟩ := hrel
    by_cases hlt : k < N
    · have hlt2 : (k : Int) < (N : Int) := by omega
      obtain ⟨⟨x0, x1, x2, x3⟩, hx⟩ : ∃ t, l[k]? = some t := ⟨_, List.getElem?_eq_getElem (by have := HN.out; omega)⟩
      obtain ⟨g, off, rfl, d0, d1, d2, d3⟩ := HL.out.later hb.out k _ hx
      have HX := Lib.hid hx
      dsimp only at d0 d1 d2 d3
      have hc := fun W => long_any x0 x1 x2 x3 W
      clear hx
      cases ht : longB (x0, x1, x2, x3) with
      | true =>
        rw [ht] at hc
        have HC := Lib.hid hc
        have HT := Lib.hid ht
        clear ht hc
        go_wp2_with (go_at_call 103; refine (HC.out _).mono ?_; rintro e w1 ⟨rfl, hb1⟩)
        go_ret
        exact ⟨ret_int (by rw [idxL_hit hany.out HX.out HT.out]), hb.out.trans hb1⟩
      | false =>
        rw [ht] at hc
        have HC := Lib.hid hc
        have HT := Lib.hid ht
        clear ht hc
        go_wp2_with (go_at_call 103; refine (HC.out _).mono ?_; rintro e w1 ⟨rfl, hb1⟩)
        exact ⟨⟨k + 1, by omega, by go_num, Lib.hid (any_nextL hany.out HX.out HT.out), Lib.hid (hb.out.trans hb1)⟩, by simp [intOf]; omega⟩
    · have hdq : decide ((k : Int) < (N : Int)) = false := decide_eq_false (by omega)
      have HE : Hid (idxL longB l = -1) := Lib.hid (by
        have := hany.out
        rw [List.take_of_length_le (by have := HN.out; omega)] at this
        simp [idxL, this])
      go_wp2
      go_ret
      exact ⟨ret_int HE.out.symm, hb.out⟩

set_option maxHeartbeats 1000000 in
theorem containsL_any (p : Option Addr) (cap : Nat) (l : List Ld) (w : World) (hN : l.length ≤ 256) (hL : LoadsAt w p l) :
    Calls Try.prog 102 #[.slice p l.length cap, .func (.func 103) #[] #[]] w fun e w' => e = .returned (.bool (l.any longB)) ∧ Adds w w' := by
  have hc := indexL_any p cap l w hN hL
  have hr : decide (0 ≤ idxL longB l) = l.any longB := by
    unfold idxL
    cases h : l.any longB <;> simp
  generalize idxL longB l = v at hc hr
  generalize l.any longB = b at hr
  generalize l.length = n at hc ⊢
  have HC := Lib.hid hc
  clear hc hL hN
  go_enter Try.func102, Try.ntmps102
  go_wp2_with (go_at_call 121; refine HC.out.mono ?_; rintro e w1 ⟨rfl, hb1⟩)
  go_ret
  exact ⟨by rw [← hr]; rfl, hb1⟩

set_option maxHeartbeats 1000000 in
theorem isShort_any (p : Option Addr) (cap : Nat) (l : List Ld) (w : World) (hN : l.length ≤ 256) (hL : LoadsAt w p l) :
    Calls Try.prog 85 #[.slice p l.length cap] w fun e w' => e = .returned (.bool (!l.any longB)) ∧ Adds w w' := by
  have hc := containsL_any p cap l w hN hL
  generalize l.any longB = b at hc ⊢
  generalize l.length = n at hc ⊢
  have HC := Lib.hid hc
  clear hc hL hN
  go_enter Try.func85, Try.ntmps85
  go_wp2_with (go_at_call 102; refine HC.out.mono ?_; rintro e w1 ⟨rfl, hb1⟩)
  go_ret
  exact ⟨rfl, hb1⟩

set_option maxHeartbeats 1000000 in
/-- What checkShort returns of valid loads. -/
theorem checkShort_any (p : Option Addr) (cap : Nat) (l : List Ld) (k : Int) (w : World) (hN : l.length ≤ 256) (hL : LoadsAt w p l) (hok : ∀ x ∈ l, okB x = true) (hk : 1 ≤ k ∧ k ≤ 64) (b : Bool) (hb : l.any longB = b) :
    Calls Try.prog 65 #[.slice p l.length cap, .int .i64 k] w fun e w' => e = .returned (.int .i64 (if b = true then 7 else 0)) ∧ Adds w w' := by
  have h1 := check_any p cap l k w (by unfold maxLen; omega) hL
  rw [checkK_ok (by omega) hok hk] at h1
  have h2 := fun W (hW : Adds w W) => isShort_any p cap l W hN (hL.later hW)
  rw [hb] at h2
  generalize l.length = n at h1 h2 ⊢
  have H1 := Lib.hid h1
  have H2 := Lib.hid h2
  clear h1 h2 hL hN hok hk hb
  cases b
  · go_enter Try.func65, Try.ntmps65
    go_wp2_with (first
      | (go_at_call 41; refine H1.out.mono ?_; rintro e w1 ⟨rfl, hb1⟩; have HB1 := Lib.hid hb1; clear hb1)
      | (go_at_call 85; refine (H2.out _ HB1.out).mono ?_; rintro e w2 ⟨rfl, hb2⟩; have HB2 := Lib.hid hb2; clear hb2))
    go_ret
    exact ⟨rfl, HB1.out.trans HB2.out⟩
  · go_enter Try.func65, Try.ntmps65
    go_wp2_with (first
      | (go_at_call 41; refine H1.out.mono ?_; rintro e w1 ⟨rfl, hb1⟩; have HB1 := Lib.hid hb1; clear hb1)
      | (go_at_call 85; refine (H2.out _ HB1.out).mono ?_; rintro e w2 ⟨rfl, hb2⟩; have HB2 := Lib.hid hb2; clear hb2))
    go_ret
    exact ⟨rfl, HB1.out.trans HB2.out⟩
end Go.Proofs.Ytkofnhimgegcnaa
