/- The pieces in which two trees differ. No Go here. -/
import Derived.Test.YtofaioabjkcaiaaT
namespace Go.Proofs.Ytofaioabjkcaiaa

/-- The halves of a tree of more than one pocket. -/
def Tree.halfL : Tree → Tree
  | .leaf lo hi p => .leaf lo (mid lo hi) p
  | .node _ _ _ l _ => l
def Tree.halfR : Tree → Tree
  | .leaf lo hi p => .leaf (mid lo hi + 1) hi p
  | .node _ _ _ _ r => r

/-- The pieces in which two trees differ, as compare comes to them; n bounds how deep. -/
def diffT : Nat → Tree → Tree → List (Int × Int)
  | 0, _, _ => []
  | _ + 1, .leaf lo hi p, .leaf _ _ q => if p = q then [] else [(lo, hi)]
  | n + 1, t, t' => diffT n t.halfL t'.halfL ++ diffT n t.halfR t'.halfR

theorem diffT_self : ∀ (n : Nat) (t : Tree), diffT n t t = []
  | 0, t => by cases t <;> rfl
  | n + 1, .leaf lo hi p => by simp [diffT]
  | n + 1, .node lo hi p l r => by simp only [diffT, Tree.halfL, Tree.halfR]; rw [diffT_self n l, diffT_self n r]; rfl

/-- Pieces in order between a and c; f and g differ in them, and are the same elsewhere. -/
def DCover (f g : Int → Pk) : Int → Int → List (Int × Int) → Prop
  | a, c, [] => ∀ k, a ≤ k → k ≤ c → f k = g k
  | a, c, x :: l => a ≤ x.1 ∧ x.1 ≤ x.2 ∧ x.2 ≤ c ∧ (∀ k, a ≤ k → k < x.1 → f k = g k) ∧ (∀ k, x.1 ≤ k → k ≤ x.2 → f k ≠ g k) ∧ DCover f g (x.2 + 1) c l

section
variable {f g f' g' : Int → Pk}

theorem DCover.congr : ∀ {l : List (Int × Int)} {a c : Int}, (∀ k, a ≤ k → k ≤ c → f k = f' k ∧ g k = g' k) → DCover f g a c l → DCover f' g' a c l
  | [], a, c, h, hd => fun k k1 k2 => by rw [← (h k k1 k2).1, ← (h k k1 k2).2]; exact hd k k1 k2
  | x :: l, a, c, h, ⟨h1, h2, h3, h4, h5, h6⟩ => ⟨h1, h2, h3, fun k k1 k2 => by rw [← (h k k1 (by omega)).1, ← (h k k1 (by omega)).2]; exact h4 k k1 k2,
      fun k k1 k2 => by rw [← (h k (by omega) (by omega)).1, ← (h k (by omega) (by omega)).2]; exact h5 k k1 k2, h6.congr (fun k k1 k2 => h k (by omega) k2)⟩

theorem DCover.append : ∀ {l l' : List (Int × Int)} {a m c : Int}, a ≤ m + 1 → m ≤ c → DCover f g a m l → DCover f g (m + 1) c l' → DCover f g a c (l ++ l')
  | [], [], a, m, c, _, _, h, h' => fun k k1 k2 => by
    by_cases hk : k ≤ m
    · exact h k k1 hk
    · exact h' k (by omega) k2
  | [], y :: l', a, m, c, ham, _, h, ⟨h1, h2, h3, h4, h5, h6⟩ => ⟨by omega, h2, h3, fun k k1 k2 => by
    by_cases hk : k ≤ m
    · exact h k k1 hk
    · exact h4 k (by omega) k2, h5, h6⟩
  | x :: l, l', a, m, c, ham, hmc, ⟨h1, h2, h3, h4, h5, h6⟩, h' => ⟨h1, h2, by omega, h4, h5, h6.append (by omega) hmc h'⟩

end

theorem half_look {t : Tree} {lo hi : Int} (hok : t.ok lo hi) (hlt : lo < hi) : t.halfL.ok lo (mid lo hi) ∧ t.halfR.ok (mid lo hi + 1) hi ∧ (∀ k, k ≤ mid lo hi → t.halfL.look k = t.look k) ∧ (∀ k, mid lo hi < k → t.halfR.look k = t.look k) := by
  have hm := mid_bd hlt
  cases t with
  | leaf x y p =>
    obtain ⟨rfl, rfl, _⟩ := hok
    exact ⟨⟨rfl, rfl, hm.1⟩, ⟨rfl, rfl, by omega⟩, fun _ _ => rfl, fun _ _ => rfl⟩
  | node x y p l r =>
    obtain ⟨rfl, rfl, _, hl, hr⟩ := hok
    have e := Tree.ok_hi hl
    refine ⟨hl, hr, fun k k1 => ?_, fun k k1 => ?_⟩
    · show l.look k = if k ≤ l.hi then l.look k else r.look k
      rw [if_pos (by omega)]
    · show r.look k = if k ≤ l.hi then l.look k else r.look k
      rw [if_neg (by omega)]

theorem diffT_succ {n : Nat} {t t' : Tree} (h : ¬ ((∃ lo hi p, t = .leaf lo hi p) ∧ ∃ lo hi p, t' = .leaf lo hi p)) : diffT (n + 1) t t' = diffT n t.halfL t'.halfL ++ diffT n t.halfR t'.halfR := by
  cases t with
  | node lo hi p l r => simp only [diffT]
  | leaf lo hi p =>
    cases t' with
    | node lo' hi' p' l' r' => simp only [diffT]
    | leaf lo' hi' p' => exact (h ⟨⟨_, _, _, rfl⟩, ⟨_, _, _, rfl⟩⟩).elim

theorem diff_cover : ∀ (n : Nat) {t t' : Tree} {lo hi : Int}, t.ok lo hi → t'.ok lo hi → hi - lo < n → DCover t.look t'.look lo hi (diffT n t t')
  | 0, t, t', lo, hi, h, h', hn => by have := Tree.ok_le h; omega
  | n + 1, t, t', lo, hi, h, h', hn => by
    by_cases hb : (∃ lo hi p, t = .leaf lo hi p) ∧ ∃ lo hi p, t' = .leaf lo hi p
    · obtain ⟨⟨x, y, p, rfl⟩, ⟨x', y', q, rfl⟩⟩ := hb
      obtain ⟨rfl, rfl, hle⟩ := h
      obtain ⟨rfl, rfl, _⟩ := h'
      simp only [diffT]
      by_cases hpq : p = q
      · rw [if_pos hpq]
        exact fun k _ _ => hpq
      · rw [if_neg hpq]
        refine ⟨by omega, hle, by omega, fun k k1 k2 => ?_, fun k _ _ => hpq, fun k k1 k2 => ?_⟩
        · exfalso; simp only at k2; omega
        · exfalso; simp only at k1; omega
    · have hlt : lo < hi := by
        have hle := Tree.ok_le h
        rcases Int.lt_or_eq_of_le hle with hlt | he
        · exact hlt
        · exfalso
          apply hb
          cases t with
          | node x y p l r => obtain ⟨_, _, h3, _⟩ := h; omega
          | leaf x y p =>
            cases t' with
            | node x' y' p' l' r' => obtain ⟨_, _, h3, _⟩ := h'; omega
            | leaf x' y' p' => exact ⟨⟨_, _, _, rfl⟩, ⟨_, _, _, rfl⟩⟩
      have hm := mid_bd hlt
      obtain ⟨a1, a2, a3, a4⟩ := half_look h hlt
      obtain ⟨b1, b2, b3, b4⟩ := half_look h' hlt
      have hmid : mid lo hi = lo + (hi - lo) / 2 := rfl
      rw [diffT_succ hb]
      have c1 := (diff_cover n a1 b1 (by omega)).congr (f' := t.look) (g' := t'.look) (fun k _ k2 => ⟨a3 k k2, b3 k k2⟩)
      have c2 := (diff_cover n a2 b2 (by omega)).congr (f' := t.look) (g' := t'.look) (fun k k1 _ => ⟨a4 k (by omega), b4 k (by omega)⟩)
      exact c1.append (by omega) (by omega) c2

/-- A span more: joined with the last one if it touches it. -/
def joinAdd (acc : List (Int × Int)) (x : Int × Int) : List (Int × Int) := match acc.getLast? with
  | some y => if y.2 + 1 = x.1 then acc.dropLast ++ [(y.1, x.2)] else acc ++ [x]
  | none => [x]

/-- Pieces joined as far as they touch. -/
def joinFrom : Int × Int → List (Int × Int) → List (Int × Int)
  | cur, [] => [cur]
  | cur, y :: l => if cur.2 + 1 = y.1 then joinFrom (cur.1, y.2) l else cur :: joinFrom y l
def joinD : List (Int × Int) → List (Int × Int)
  | [] => []
  | x :: l => joinFrom x l

theorem joinAdd_snoc (acc : List (Int × Int)) (y x : Int × Int) : joinAdd (acc ++ [y]) x = if y.2 + 1 = x.1 then acc ++ [(y.1, x.2)] else acc ++ [y, x] := by
  unfold joinAdd
  simp

theorem foldl_join : ∀ (l : List (Int × Int)) (acc : List (Int × Int)) (cur : Int × Int), l.foldl joinAdd (acc ++ [cur]) = acc ++ joinFrom cur l
  | [], acc, cur => rfl
  | y :: l, acc, cur => by
    simp only [List.foldl_cons, joinFrom]
    rw [joinAdd_snoc]
    by_cases h : cur.2 + 1 = y.1
    · rw [if_pos h, if_pos h, foldl_join l acc]
    · rw [if_neg h, if_neg h, show acc ++ [cur, y] = (acc ++ [cur]) ++ [y] by simp, foldl_join l (acc ++ [cur])]
      simp

theorem foldl_joinD (l : List (Int × Int)) : l.foldl joinAdd [] = joinD l := by
  cases l with
  | nil => rfl
  | cons x l => exact foldl_join l [] x

/-- Spans as long as they can be: where f and g differ. -/
def SCover (f g : Int → Pk) : Int → Int → List (Int × Int) → Prop
  | a, c, [] => ∀ k, a ≤ k → k ≤ c → f k = g k
  | a, c, x :: l => a ≤ x.1 ∧ x.1 ≤ x.2 ∧ x.2 ≤ c ∧ (∀ k, a ≤ k → k < x.1 → f k = g k) ∧ (∀ k, x.1 ≤ k → k ≤ x.2 → f k ≠ g k) ∧ (x.2 < c → f (x.2 + 1) = g (x.2 + 1)) ∧ SCover f g (x.2 + 1) c l

section
variable {f g : Int → Pk}

theorem joinFrom_cover : ∀ {l : List (Int × Int)} {cur : Int × Int} {a c : Int}, a ≤ cur.1 → cur.1 ≤ cur.2 → cur.2 ≤ c → (∀ k, a ≤ k → k < cur.1 → f k = g k) → (∀ k, cur.1 ≤ k → k ≤ cur.2 → f k ≠ g k) → DCover f g (cur.2 + 1) c l → SCover f g a c (joinFrom cur l)
  | [], cur, a, c, h1, h2, h3, h4, h5, h6 => ⟨h1, h2, h3, h4, h5, fun h => h6 _ (by omega) (by omega), h6⟩
  | y :: l, cur, a, c, h1, h2, h3, h4, h5, ⟨k1, k2, k3, k4, k5, k6⟩ => by
    simp only [joinFrom]
    by_cases h : cur.2 + 1 = y.1
    · rw [if_pos h]
      refine joinFrom_cover h1 (by simp only; omega) k3 h4 (fun k n1 n2 => ?_) k6
      by_cases hk : k ≤ cur.2
      · exact h5 k n1 hk
      · exact k5 k (by omega) n2
    · rw [if_neg h]
      exact ⟨h1, h2, h3, h4, h5, fun _ => k4 _ (by omega) (by omega), joinFrom_cover k1 k2 k3 k4 k5 k6⟩

theorem joinD_cover {l : List (Int × Int)} {a c : Int} (h : DCover f g a c l) : SCover f g a c (joinD l) := by
  cases l with
  | nil => exact h
  | cons x l =>
    obtain ⟨h1, h2, h3, h4, h5, h6⟩ := h
    exact joinFrom_cover h1 h2 h3 h4 h5 h6

theorem scover_unique : ∀ {l l' : List (Int × Int)} {a c : Int}, SCover f g a c l → SCover f g a c l' → l = l'
  | [], [], _, _, _, _ => rfl
  | [], y :: l', a, c, h, ⟨k1, k2, k3, _, k5, _⟩ => (k5 y.1 (by omega) k2 (h y.1 k1 (by omega))).elim
  | x :: l, [], a, c, ⟨h1, h2, h3, _, h5, _⟩, h => (h5 x.1 (by omega) h2 (h x.1 h1 (by omega))).elim
  | x :: l, y :: l', a, c, ⟨h1, h2, h3, h4, h5, h6, h7⟩, ⟨k1, k2, k3, k4, k5, k6, k7⟩ => by
    have e1 : x.1 = y.1 := by
      rcases Int.lt_trichotomy x.1 y.1 with h | h | h
      · exact (h5 x.1 (by omega) h2 (k4 x.1 h1 h)).elim
      · exact h
      · exact (k5 y.1 (by omega) k2 (h4 y.1 k1 h)).elim
    have e2 : x.2 = y.2 := by
      rcases Int.lt_trichotomy x.2 y.2 with h | h | h
      · exact (k5 (x.2 + 1) (by omega) (by omega) (h6 (by omega))).elim
      · exact h
      · exact (h5 (y.2 + 1) (by omega) (by omega) (k6 (by omega))).elim
    rw [← e2] at k7
    rw [scover_unique h7 k7]
    congr 1
    exact Prod.ext e1 e2

/-- Nothing differs. -/
theorem scover_none {l : List (Int × Int)} {a c : Int} (h : SCover f g a c l) (he : ∀ k, a ≤ k → k ≤ c → f k = g k) : l = [] := scover_unique h he

/-- Just one span differs. -/
theorem scover_one {l : List (Int × Int)} {a c x y : Int} (h : SCover f g a c l) (h1 : a ≤ x) (h2 : x ≤ y) (h3 : y ≤ c) (hin : ∀ k, x ≤ k → k ≤ y → f k ≠ g k) (hout : ∀ k, a ≤ k → k ≤ c → ¬ (x ≤ k ∧ k ≤ y) → f k = g k) : l = [(x, y)] :=
  scover_unique h ⟨h1, h2, h3, fun k k1 k2 => hout k k1 (by simp only at k2; omega) (by simp only at k2; omega), hin, fun hlt => hout _ (by simp only at hlt ⊢; omega) (by simp only at hlt ⊢; omega) (by simp only; omega), fun k k1 k2 => hout k (by simp only at k1; omega) k2 (by simp only at k1; omega)⟩

end

end Go.Proofs.Ytofaioabjkcaiaa
