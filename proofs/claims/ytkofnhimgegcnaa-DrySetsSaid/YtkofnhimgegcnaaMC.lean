/- Cuts. No Go. -/
import Derived.Test.YtkofnhimgegcnaaMB
namespace Go.Proofs.Ytkofnhimgegcnaa

theorem sumN_mul (c : Int) (g : Nat → Int) : ∀ n : Nat, sumN n (fun k => c * g k) = c * sumN n g
  | 0 => by simp [sumN]
  | n + 1 => by rw [sumN, sumN, sumN_mul c g n, Int.mul_add]
theorem sumN_swap (n : Nat) (t : Nat → Nat → Int) : ∀ m : Nat, sumN n (fun v => sumN m (fun k => t k v)) = sumN m (fun k => sumN n (fun v => t k v))
  | 0 => by simp only [sumN]; exact sumN_zero n
  | m + 1 => by simp only [sumN]; rw [sumN_add, sumN_swap n t m]
theorem sumN_split (a : Nat) (g : Nat → Int) : ∀ b : Nat, sumN (a + b) g = sumN a g + sumN b (fun k => g (a + k))
  | 0 => by simp [sumN]
  | b + 1 => by rw [← Nat.add_assoc, sumN, sumN, sumN_split a g b]; omega

theorem sumN_list (g : Edge → Int) : ∀ E : List Edge, sumN E.length (fun k => g (eAt E k)) = (E.map g).sum := by
  intro E
  have h : ∀ (E : List Edge) (n : Nat), n ≤ E.length → sumN n (fun k => g (eAt E k)) = ((E.take n).map g).sum := by
    intro E n
    induction n with
    | zero => intro _; rfl
    | succ n ih =>
      intro hn
      have hlt : n < E.length := by omega
      rw [sumN, ih (by omega), List.take_succ_eq_append_getElem hlt, List.map_append, List.sum_append]
      simp [eAt, List.getElem?_eq_getElem hlt]
  have := h E E.length (Nat.le_refl _)
  rwa [List.take_length] at this

/-- Ends of all edges are below N. -/
def Ends (E : List Edge) (N : Nat) : Prop := ∀ k, k < E.length → (eAt E k).1 < N ∧ (eAt E k).2.1 < N

theorem Ends.tail {E : List Edge} {N : Nat} (h : Ends E N) {i : Nat} (hi : i < 2 * E.length) : tailE E i < N := by
  have := h (i / 2) (by omega)
  unfold tailE; split <;> omega
theorem Ends.head {E : List Edge} {N : Nat} (h : Ends E N) {i : Nat} (hi : i < 2 * E.length) : headE E i < N := by
  have := h (i / 2) (by omega)
  unfold headE; split <;> omega

/-- A flow, weighed by the nodes. -/
theorem Flow.weigh {E : List Edge} {N : Nat} {f : Nat → Int} {val : Int} (h : Flow E f val) (hE : Ends E N) (hN : 1 < N) (q : Nat → Int) :
    q 0 * val - q 1 * val = sumN E.length (fun k => f k * (q (eAt E k).1 - q (eAt E k).2.1)) := by
  have h1 : sumN N (fun v => q v * divE E f v) = q 0 * val - q 1 * val := by
    rw [sumN_congr (h := fun v => (if v = 0 then q 0 * val else 0) - (if v = 1 then q 1 * val else 0)), sumN_sub, sumN_one, sumN_one, if_pos (by omega), if_pos hN]
    intro v _
    rw [h.div v]
    by_cases a : v = 0
    · subst a; simp
    · by_cases b : v = 1
      · subst b; simp [Int.mul_neg]
      · simp [a, b]
  rw [← h1]
  have h2 : sumN N (fun v => q v * divE E f v) = sumN N (fun v => sumN E.length (fun k => q v * ((if (eAt E k).1 = v then f k else 0) - (if (eAt E k).2.1 = v then f k else 0)))) := by
    refine sumN_congr fun v _ => ?_
    rw [sumN_mul]; rfl
  rw [h2, sumN_swap N (fun k v => q v * ((if (eAt E k).1 = v then f k else 0) - (if (eAt E k).2.1 = v then f k else 0)))]
  refine sumN_congr fun k hk => ?_
  obtain ⟨a, b⟩ := hE k hk
  rw [sumN_congr (h := fun v => (if v = (eAt E k).1 then q (eAt E k).1 * f k else 0) - (if v = (eAt E k).2.1 then q (eAt E k).2.1 * f k else 0)), sumN_sub, sumN_one, sumN_one, if_pos a, if_pos b, Int.mul_sub, Int.mul_comm (f k), Int.mul_comm (f k)]
  intro v _
  rw [Int.mul_sub]
  congr 1
  · by_cases e : (eAt E k).1 = v
    · subst e; simp
    · rw [if_neg e, if_neg (fun x => e x.symm)]; simp
  · by_cases e : (eAt E k).2.1 = v
    · subst e; simp
    · rw [if_neg e, if_neg (fun x => e x.symm)]; simp

/-- What a cut lets through at most. -/
def cutE (E : List Edge) (S : Nat → Bool) : Int := (E.map (fun e => if S e.1 = true ∧ S e.2.1 = false then e.2.2 else 0)).sum

theorem Flow.cut_le {E : List Edge} {N : Nat} {f : Nat → Int} {val : Int} (h : Flow E f val) (hE : Ends E N) (hN : 1 < N) (S : Nat → Bool) (h0 : S 0 = true) (h1 : S 1 = false) : val ≤ cutE E S := by
  have := h.weigh hE hN (fun v => if S v = true then 1 else 0)
  simp only [h0, h1, if_true, Bool.false_eq_true, if_false, Int.one_mul, Int.zero_mul, Int.sub_zero] at this
  rw [this, cutE, ← sumN_list]
  refine sumN_le fun k hk => ?_
  have ho := h.ok k hk
  by_cases a : S (eAt E k).1 = true <;> by_cases b : S (eAt E k).2.1 = true
  · simp [a, b]
  · have b' : S (eAt E k).2.1 = false := by simpa using b
    simp [a, b']; omega
  · have a' : S (eAt E k).1 = false := by simpa using a
    simp [a', b]; omega
  · have a' : S (eAt E k).1 = false := by simpa using a
    have b' : S (eAt E k).2.1 = false := by simpa using b
    simp [a', b']

/-- What can be reached. -/
def metS (lev : Nat → Int) (v : Nat) : Bool := decide (0 ≤ lev v)

theorem Flow.cut_eq {E : List Edge} {N : Nat} {f lev : Nat → Int} {val : Int} (h : Flow E f val) (hE : Ends E N) (hN : 1 < N) (hl : Lev E N f lev) (h1 : lev 1 < 0) : val = cutE E (metS lev) := by
  have := h.weigh hE hN (fun v => if metS lev v = true then 1 else 0)
  have m0 : metS lev 0 = true := by simp [metS, hl.src]
  have m1 : metS lev 1 = false := by simp [metS]; omega
  simp only [m0, m1, if_true, Bool.false_eq_true, if_false, Int.one_mul, Int.zero_mul, Int.sub_zero] at this
  rw [this, cutE, ← sumN_list]
  refine sumN_congr fun k hk => ?_
  have ho := h.ok k hk
  have c1 := hl.clo (2 * k) (by omega)
  have c2 := hl.clo (2 * k + 1) (by omega)
  have e1 : 2 * k / 2 = k := by omega
  have e2 : (2 * k + 1) / 2 = k := by omega
  have e3 : 2 * k % 2 = 0 := by omega
  have e4 : (2 * k + 1) % 2 = 1 := by omega
  simp only [roomE, tailE, headE, e1, e2, e3, e4, if_true, Nat.one_ne_zero, if_false] at c1 c2
  by_cases a : 0 ≤ lev (eAt E k).1 <;> by_cases b : 0 ≤ lev (eAt E k).2.1
  · simp [metS, a, b]
  · simp [metS, a, b]
    have : ¬ 0 < (eAt E k).2.2 - f k := fun x => b (c1 x a)
    omega
  · simp [metS, a, b]
    have : ¬ 0 < f k := fun x => a (c2 x b)
    omega
  · simp [metS, a, b]

/-- So much flows at most, and can. -/
def IsMax (E : List Edge) (N : Nat) (val : Int) : Prop := ∃ f lev, Flow E f val ∧ Lev E N f lev ∧ lev 1 < 0

theorem IsMax.ge {E : List Edge} {N : Nat} {a b : Int} {f : Nat → Int} (ha : IsMax E N a) (hb : Flow E f b) (hE : Ends E N) (hN : 1 < N) : b ≤ a := by
  obtain ⟨g, lev, h1, h2, h3⟩ := ha
  rw [h1.cut_eq hE hN h2 h3]
  exact hb.cut_le hE hN _ (by simp [metS, h2.src]) (by simp [metS]; omega)

theorem IsMax.unique {E : List Edge} {N : Nat} {a b : Int} (ha : IsMax E N a) (hb : IsMax E N b) (hE : Ends E N) (hN : 1 < N) : a = b := by
  obtain ⟨g, _, h1, _⟩ := ha
  obtain ⟨g', _, h1', _⟩ := hb
  have := IsMax.ge ⟨_, _, h1, ‹_›⟩ h1' hE hN
  have := IsMax.ge ⟨_, _, h1', ‹_›⟩ h1 hE hN
  omega

end Go.Proofs.Ytkofnhimgegcnaa
