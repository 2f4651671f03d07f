/- Counting pockets: what StockKeeps keeps. No Go here. -/
import Derived.Test.YtofaioabjkcaiaaAF
namespace Go.Proofs.Ytofaioabjkcaiaa

/-- How many of n numbers from a on are as asked. -/
def cnt (P : Int → Bool) (a : Int) : Nat → Int
  | 0 => 0
  | n + 1 => cnt P a n + (if P (a + n) then 1 else 0)

theorem cnt_congr {P Q : Int → Bool} {a : Int} : ∀ {n : Nat}, (∀ k, a ≤ k → k < a + n → P k = Q k) → cnt P a n = cnt Q a n
  | 0, _ => rfl
  | n + 1, h => by
    have h1 := cnt_congr (n := n) (fun k k1 k2 => h k k1 (by omega))
    have h2 := h (a + n) (by omega) (by omega)
    simp only [cnt]
    rw [h1, h2]

theorem cnt_add {P : Int → Bool} {a : Int} {m : Nat} : ∀ {n : Nat}, cnt P a (m + n) = cnt P a m + cnt P (a + m) n
  | 0 => by simp [cnt]
  | n + 1 => by
    have h := cnt_add (P := P) (a := a) (m := m) (n := n)
    show cnt P a (m + n) + (if P (a + ((m + n : Nat) : Int)) then 1 else 0) = cnt P a m + (cnt P (a + m) n + (if P (a + m + n) then 1 else 0))
    rw [h, show a + ((m + n : Nat) : Int) = a + (m : Int) + (n : Int) by omega]
    omega

theorem cnt_all {P : Int → Bool} {a : Int} : ∀ {n : Nat}, (∀ k, a ≤ k → k < a + n → P k = true) → cnt P a n = n
  | 0, _ => rfl
  | n + 1, h => by
    have h1 := cnt_all (n := n) (fun k k1 k2 => h k k1 (by omega))
    have h2 := h (a + n) (by omega) (by omega)
    simp only [cnt]
    rw [h1, h2]
    simp

theorem cnt_no {P : Int → Bool} {a : Int} : ∀ {n : Nat}, (∀ k, a ≤ k → k < a + n → P k = false) → cnt P a n = 0
  | 0, _ => rfl
  | n + 1, h => by
    have h1 := cnt_no (n := n) (fun k k1 k2 => h k k1 (by omega))
    have h2 := h (a + n) (by omega) (by omega)
    simp only [cnt]
    rw [h1, h2]
    simp

theorem countOf_nil : countOf [] = 0 := rfl
theorem countOf_cons (x : Piece) (l : List Piece) : countOf (x :: l) = x.2.1 - x.1 + 1 + countOf l := by simp [countOf]

/-- The pieces that are as asked have as many pockets as are as asked. -/
theorem count_cnt {f : Int → Pk} {q : Pk → Bool} : ∀ {l : List Piece} {a c : Int}, Cover f a c l → countOf (l.filter fun x => q x.2.2) = cnt (fun k => q (f k)) a (c + 1 - a).toNat
  | [], a, c, h => by
    have : c + 1 = a := h
    rw [show (c + 1 - a).toNat = 0 by omega]
    rfl
  | x :: l, a, c, ⟨h1, h2, h3, h4⟩ => by
    have ih := count_cnt (q := q) h4
    have hle := h4.le
    obtain ⟨m, hm⟩ : ∃ m : Nat, x.2.1 + 1 = a + m := ⟨(x.2.1 + 1 - a).toNat, by omega⟩
    obtain ⟨n, hn⟩ : ∃ n : Nat, c + 1 = a + m + n := ⟨(c + 1 - a - m).toNat, by omega⟩
    rw [show (c + 1 - a).toNat = m + n by omega, cnt_add]
    rw [show (c + 1 - (x.2.1 + 1)).toNat = n by omega, hm] at ih
    rw [List.filter_cons]
    by_cases hq : q x.2.2 = true
    · rw [if_pos hq, countOf_cons, ih, cnt_all (n := m) (fun k k1 k2 => by show q (f k) = true; rw [h3 k (by omega) (by omega)]; exact hq)]
      omega
    · have hq' : q x.2.2 = false := by simpa using hq
      rw [if_neg hq, ih, cnt_no (n := m) (fun k k1 k2 => by show q (f k) = false; rw [h3 k (by omega) (by omega)]; exact hq')]
      omega

/-- A part in which all are the one way before, all the other way after. -/
theorem cnt_more {P Q : Int → Bool} {a n : Int} {N : Nat} (h1 : 1 ≤ a) (h2 : 0 ≤ n) (h3 : a + n - 1 ≤ N) (hin : ∀ k, a ≤ k → k ≤ a + n - 1 → P k = false ∧ Q k = true)
    (hout : ∀ k : Int, 1 ≤ k → k ≤ N → ¬ (a ≤ k ∧ k ≤ a + n - 1) → Q k = P k) : cnt Q 1 N = cnt P 1 N + n := by
  by_cases h0 : n = 0
  · subst h0
    rw [cnt_congr (n := N) (fun k k1 k2 => hout k k1 (by omega) (by omega))]
    omega
  obtain ⟨x, hx⟩ : ∃ x : Nat, a = 1 + x := ⟨(a - 1).toNat, by omega⟩
  obtain ⟨y, hy⟩ : ∃ y : Nat, n = y := ⟨n.toNat, by omega⟩
  obtain ⟨z, hz⟩ : ∃ z : Nat, N = x + y + z := ⟨N - x - y, by omega⟩
  subst hz
  rw [cnt_add, cnt_add, cnt_add (P := P), cnt_add (P := P)]
  rw [cnt_congr (P := Q) (Q := P) (a := 1) (n := x) (fun k k1 k2 => hout k k1 (by omega) (by omega)),
    cnt_congr (P := Q) (Q := P) (a := 1 + ((x + y : Nat) : Int)) (n := z) (fun k k1 k2 => hout k (by omega) (by omega) (by omega)),
    cnt_all (P := Q) (fun k k1 k2 => (hin k (by omega) (by omega)).2), cnt_no (P := P) (a := 1 + (x : Int)) (fun k k1 k2 => (hin k (by omega) (by omega)).1)]
  omega

/-- What a register of tame calls keeps: who is in has an owner from 1 to 4 and lies among the first pockets, who is not has none; tot are in. -/
def Kept (f : Int → Pk) (tot : Int) : Prop :=
  (∀ k, 1 ≤ k → k ≤ 1000000 → ((f k).st = 1 ∧ 1 ≤ (f k).own ∧ (f k).own ≤ 4 ∧ k ≤ 74) ∨ ((f k).st ≠ 1 ∧ (f k).own = 0)) ∧ tot = cnt (fun k => (f k).st == 1) 1 1000000

theorem kept_new : Kept (fun _ => pk0) 0 := ⟨fun _ _ _ => Or.inr ⟨by simp [pk0], rfl⟩, (cnt_no (fun _ _ _ => rfl)).symm⟩

section
variable {f g : Int → Pk} {F : Pk → Pk} {a n tot : Int}

theorem kept_more (hk : Kept f tot) (h1 : 1 ≤ a) (h2 : 0 ≤ n) (h3 : a + n - 1 ≤ 74) (hg : ∀ k, 1 ≤ k → k ≤ 1000000 → g k = if a ≤ k ∧ k ≤ a + n - 1 then F (f k) else f k)
    (hF : ∀ k, a ≤ k → k ≤ a + n - 1 → (f k).st ≠ 1 ∧ (F (f k)).st = 1 ∧ 1 ≤ (F (f k)).own ∧ (F (f k)).own ≤ 4) : Kept g (tot + n) := by
  refine ⟨fun k k1 k2 => ?_, ?_⟩
  · by_cases hs : a ≤ k ∧ k ≤ a + n - 1
    · rw [hg k k1 k2, if_pos hs]
      obtain ⟨_, h5, h6, h7⟩ := hF k hs.1 hs.2
      exact Or.inl ⟨h5, h6, h7, by omega⟩
    · rw [hg k k1 k2, if_neg hs]
      exact hk.1 k k1 k2
  · rw [hk.2]
    refine (cnt_more h1 h2 (by omega) (fun k k1 k2 => ?_) (fun k k1 k2 k3 => ?_)).symm
    · rw [hg k (by omega) (by omega), if_pos ⟨k1, k2⟩]
      obtain ⟨h4, h5, _⟩ := hF k k1 k2
      exact ⟨by simp [h4], by simp [h5]⟩
    · rw [hg k k1 (by omega), if_neg k3]

theorem kept_less (hk : Kept f tot) (h1 : 1 ≤ a) (h2 : 0 ≤ n) (h3 : a + n - 1 ≤ 74) (hg : ∀ k, 1 ≤ k → k ≤ 1000000 → g k = if a ≤ k ∧ k ≤ a + n - 1 then F (f k) else f k)
    (hF : ∀ k, a ≤ k → k ≤ a + n - 1 → (f k).st = 1 ∧ (F (f k)).st ≠ 1 ∧ (F (f k)).own = 0) : Kept g (tot - n) := by
  refine ⟨fun k k1 k2 => ?_, ?_⟩
  · by_cases hs : a ≤ k ∧ k ≤ a + n - 1
    · rw [hg k k1 k2, if_pos hs]
      obtain ⟨_, h5, h6⟩ := hF k hs.1 hs.2
      exact Or.inr ⟨h5, h6⟩
    · rw [hg k k1 k2, if_neg hs]
      exact hk.1 k k1 k2
  · rw [hk.2]
    have := cnt_more (P := fun k => (g k).st == 1) (Q := fun k => (f k).st == 1) (N := 1000000) h1 h2 (by omega) (fun k k1 k2 => by
      rw [hg k (by omega) (by omega), if_pos ⟨k1, k2⟩]
      obtain ⟨h4, h5, _⟩ := hF k k1 k2
      exact ⟨by simp [h5], by simp [h4]⟩) (fun k k1 k2 k3 => by rw [hg k k1 (by omega), if_neg k3])
    omega

theorem kept_same (hk : Kept f tot) (h1 : 1 ≤ a) (h3 : a + n - 1 ≤ 74) (hg : ∀ k, 1 ≤ k → k ≤ 1000000 → g k = if a ≤ k ∧ k ≤ a + n - 1 then F (f k) else f k)
    (hF : ∀ k, a ≤ k → k ≤ a + n - 1 → (f k).st = 1 ∧ (F (f k)).st = 1 ∧ 1 ≤ (F (f k)).own ∧ (F (f k)).own ≤ 4) : Kept g tot := by
  refine ⟨fun k k1 k2 => ?_, ?_⟩
  · by_cases hs : a ≤ k ∧ k ≤ a + n - 1
    · rw [hg k k1 k2, if_pos hs]
      obtain ⟨_, h5, h6, h7⟩ := hF k hs.1 hs.2
      exact Or.inl ⟨h5, h6, h7, by omega⟩
    · rw [hg k k1 k2, if_neg hs]
      exact hk.1 k k1 k2
  · rw [hk.2]
    refine cnt_congr (fun k k1 k2 => ?_)
    rw [hg k k1 (by omega)]
    by_cases hs : a ≤ k ∧ k ≤ a + n - 1
    · obtain ⟨h4, h5, _⟩ := hF k hs.1 hs.2
      rw [if_pos hs, h4, h5]
    · rw [if_neg hs]
end

/-- The changes, one by one. -/
theorem kept_enter {f g : Int → Pk} {a n tot lot own : Int} (hk : Kept f tot) (h1 : 1 ≤ a) (h2 : 0 ≤ n) (h3 : a + n - 1 ≤ 74) (ho : 1 ≤ own) (ho4 : own ≤ 4)
    (hr : ∀ k, a ≤ k → k ≤ a + n - 1 → rfOut (f k) = 0) (hg : ∀ k, 1 ≤ k → k ≤ 1000000 → g k = if a ≤ k ∧ k ≤ a + n - 1 then ⟨1, lot, own, 0⟩ else f k) : Kept g (tot + n) :=
  kept_more (F := fun _ => ⟨1, lot, own, 0⟩) hk h1 h2 h3 hg (fun k k1 k2 => ⟨by have := hr k k1 k2; unfold rfOut at this; split at this <;> omega, rfl, ho, ho4⟩)

theorem free_in {m : Int} {p : Pk} (h : rfFree m p = 0) : p.st = 1 ∧ p.own = m ∧ p.hold = 0 := by
  unfold rfFree at h
  split at h
  · split at h
    · split at h
      · exact ⟨by assumption, by assumption, by assumption⟩
      · omega
    · omega
  · omega

theorem held_in {m : Int} {p : Pk} (h : rfHeld m p = 0) : p.st = 1 ∧ p.hold = m := by
  unfold rfHeld at h
  split at h
  · split at h
    · exact ⟨by assumption, by assumption⟩
    · omega
  · omega

/-- What is in has an owner from 1 to 4. -/
theorem Kept.own {f : Int → Pk} {tot k : Int} (h : Kept f tot) (k1 : 1 ≤ k) (k2 : k ≤ 1000000) (hs : (f k).st = 1) : 1 ≤ (f k).own ∧ (f k).own ≤ 4 := by
  rcases h.1 k k1 k2 with ⟨_, h2, h3, _⟩ | ⟨h1, _⟩
  · exact ⟨h2, h3⟩
  · exact (h1 hs).elim

/-- Four members' pockets together. -/
theorem cnt_four {f : Int → Pk} {a : Int} : ∀ {n : Nat}, (∀ k, a ≤ k → k < a + n → ((f k).st = 1 ∧ 1 ≤ (f k).own ∧ (f k).own ≤ 4) ∨ ((f k).st ≠ 1 ∧ (f k).own = 0)) →
    cnt (fun k => decide ((f k).own = 1)) a n + cnt (fun k => decide ((f k).own = 2)) a n + cnt (fun k => decide ((f k).own = 3)) a n + cnt (fun k => decide ((f k).own = 4)) a n = cnt (fun k => (f k).st == 1) a n
  | 0, _ => rfl
  | n + 1, h => by
    have ih := cnt_four (n := n) (fun k k1 k2 => h k k1 (by omega))
    have hl := h (a + n) (by omega) (by omega)
    simp only [cnt]
    rcases hl with ⟨h1, h2, h3⟩ | ⟨h1, h2⟩
    · have : (f (a + n)).own = 1 ∨ (f (a + n)).own = 2 ∨ (f (a + n)).own = 3 ∨ (f (a + n)).own = 4 := by omega
      rcases this with e | e | e | e <;> simp [e, h1] <;> omega
    · simp [h1, h2]; omega

end Go.Proofs.Ytofaioabjkcaiaa
