/- Lists that are exchanged and merged: the mathematics of the stable sort. No Go here. -/
import Derived.Test.YtigpghmbeldakaaT
namespace Go.Proofs.Ytigpghmbeldakaa
open Go.RowKit

theorem set_at {P Q : List Int} {x v : Int} {i : Nat} (h : i = P.length) : (P ++ x :: Q).set i v = P ++ v :: Q := by
  subst h
  rw [List.set_append_right _ _ (Nat.le_refl _), Nat.sub_self, List.set_cons_zero]
theorem get_at {P Q : List Int} {x : Int} {i : Nat} (h : i = P.length) : (P ++ x :: Q)[i]? = some x := by
  subst h
  rw [List.getElem?_append_right (Nat.le_refl _), Nat.sub_self, List.getElem?_cons_zero]

/-- Two ranges of one length, exchanged as far as k. -/
def swapK (A X C Y B : List Int) (k : Nat) : List Int := A ++ (Y.take k ++ (X.drop k ++ (C ++ (X.take k ++ (Y.drop k ++ B)))))

theorem swapK_zero (A X C Y B : List Int) : swapK A X C Y B 0 = A ++ (X ++ (C ++ (Y ++ B))) := by simp [swapK]
theorem swapK_all {A X C Y B : List Int} {n : Nat} (hx : X.length = n) (hy : Y.length = n) : swapK A X C Y B n = A ++ (Y ++ (C ++ (X ++ B))) := by
  unfold swapK
  rw [List.take_of_length_le (by omega), List.drop_of_length_le (by omega), List.take_of_length_le (by omega), List.drop_of_length_le (l := Y) (by omega)]
  simp
theorem swapK_len {A X C Y B : List Int} {n k : Nat} (hx : X.length = n) (hy : Y.length = n) (hk : k ≤ n) : (swapK A X C Y B k).length = (A ++ (X ++ (C ++ (Y ++ B)))).length := by
  unfold swapK
  simp only [List.length_append, List.length_take, List.length_drop]
  omega
theorem swapK_next {A X C Y B : List Int} {n k : Nat} (hx : X.length = n) (hy : Y.length = n) (hk : k < n) :
    ∃ x y, (swapK A X C Y B k)[A.length + k]? = some x ∧ (swapK A X C Y B k)[A.length + X.length + C.length + k]? = some y ∧
      ((swapK A X C Y B k).set (A.length + k) y).set (A.length + X.length + C.length + k) x = swapK A X C Y B (k + 1) ∧
      ((swapK A X C Y B k).set (A.length + X.length + C.length + k) x).set (A.length + k) y = swapK A X C Y B (k + 1) := by
  obtain ⟨x, hxk⟩ : ∃ x, X[k]? = some x := ⟨_, List.getElem?_eq_getElem (by omega)⟩
  obtain ⟨y, hyk⟩ : ∃ x, Y[k]? = some x := ⟨_, List.getElem?_eq_getElem (by omega)⟩
  have dx : X.drop k = x :: X.drop (k + 1) := by
    obtain ⟨h1, h2⟩ := List.getElem?_eq_some_iff.1 hxk
    rw [List.drop_eq_getElem_cons h1, h2]
  have dy : Y.drop k = y :: Y.drop (k + 1) := by
    obtain ⟨h1, h2⟩ := List.getElem?_eq_some_iff.1 hyk
    rw [List.drop_eq_getElem_cons h1, h2]
  have tx : X.take (k + 1) = X.take k ++ [x] := by
    obtain ⟨h1, h2⟩ := List.getElem?_eq_some_iff.1 hxk
    rw [List.take_succ_eq_append_getElem h1, h2]
  have ty : Y.take (k + 1) = Y.take k ++ [y] := by
    obtain ⟨h1, h2⟩ := List.getElem?_eq_some_iff.1 hyk
    rw [List.take_succ_eq_append_getElem h1, h2]
  have lx : (X.take k).length = k := by rw [List.length_take]; omega
  have ly : (Y.take k).length = k := by rw [List.length_take]; omega
  have lx2 : (X.drop (k + 1)).length = n - (k + 1) := by rw [List.length_drop]; omega
  have e1 : swapK A X C Y B k = (A ++ Y.take k) ++ x :: (X.drop (k + 1) ++ (C ++ (X.take k ++ (y :: (Y.drop (k + 1) ++ B))))) := by
    unfold swapK
    rw [dx, dy]
    simp
  have e2 : swapK A X C Y B k = ((A ++ Y.take k) ++ x :: (X.drop (k + 1) ++ (C ++ X.take k))) ++ y :: (Y.drop (k + 1) ++ B) := by
    rw [e1]; simp
  have e3 : swapK A X C Y B (k + 1) = ((A ++ Y.take k) ++ y :: (X.drop (k + 1) ++ (C ++ X.take k))) ++ x :: (Y.drop (k + 1) ++ B) := by
    unfold swapK
    rw [tx, ty]
    simp
  refine ⟨x, y, ?_, ?_, ?_, ?_⟩
  · rw [e1]
    exact get_at (by rw [List.length_append, ly])
  · rw [e2]
    refine get_at ?_
    simp only [List.length_append, List.length_cons, lx, ly, lx2]
    omega
  · rw [e1, set_at (by rw [List.length_append, ly]), e3]
    have e4 : (A ++ Y.take k) ++ y :: (X.drop (k + 1) ++ (C ++ (X.take k ++ (y :: (Y.drop (k + 1) ++ B))))) = ((A ++ Y.take k) ++ y :: (X.drop (k + 1) ++ (C ++ X.take k))) ++ y :: (Y.drop (k + 1) ++ B) := by simp
    rw [e4]
    refine set_at ?_
    simp only [List.length_append, List.length_cons, lx, ly, lx2]
    omega
  · have hp : A.length + X.length + C.length + k = ((A ++ Y.take k) ++ x :: (X.drop (k + 1) ++ (C ++ X.take k))).length := by
      simp only [List.length_append, List.length_cons, lx, ly, lx2]
      omega
    rw [e2, set_at hp, e3]
    have e4 : ((A ++ Y.take k) ++ x :: (X.drop (k + 1) ++ (C ++ X.take k))) ++ x :: (Y.drop (k + 1) ++ B) = (A ++ Y.take k) ++ x :: ((X.drop (k + 1) ++ (C ++ X.take k)) ++ x :: (Y.drop (k + 1) ++ B)) := by simp
    rw [e4, set_at (by rw [List.length_append, ly])]
    simp

/-- The order of a stable sort. -/
def lexLt (key : Nat → Int) (x y : Int) : Prop := key x.toNat < key y.toNat ∨ key x.toNat = key y.toNat ∧ x < y
theorem lexLt.trans {key : Nat → Int} {x y z : Int} (h : lexLt key x y) (k : lexLt key y z) : lexLt key x z := by
  unfold lexLt at *; omega
theorem lexSorted_iff {key : Nat → Int} {l : List Int} : LexSorted key l ↔ l.Pairwise (lexLt key) := Iff.rfl

/-- Of a smaller number x and a greater one y: y's key is less, or x comes first. -/
theorem lex_of_key {key : Nat → Int} {x y : Int} (h : x < y) : (key y.toNat < key x.toNat ↔ lexLt key y x) ∧ (¬ key y.toNat < key x.toNat ↔ lexLt key x y) := by
  unfold lexLt; omega

theorem pairwise_split {key : Nat → Int} {l m : List Int} (h : (l ++ m).Pairwise (lexLt key)) : l.Pairwise (lexLt key) ∧ m.Pairwise (lexLt key) ∧ ∀ x ∈ l, ∀ y ∈ m, lexLt key x y := List.pairwise_append.1 h

/-- All of a list come before x, if its last one does. -/
theorem all_before {key : Nat → Int} {l : List Int} (h : l.Pairwise (lexLt key)) {z : Int} {i : Nat} (hi : i + 1 = l.length) {y : Int} (hy : l[i]? = some y) (hz : lexLt key y z) : ∀ x ∈ l, lexLt key x z := by
  intro x hx
  obtain ⟨j, hj, rfl⟩ := List.getElem_of_mem hx
  obtain ⟨h1, h2⟩ := List.getElem?_eq_some_iff.1 hy
  by_cases e : j = i
  · subst e; rw [h2]; exact hz
  · have := (List.pairwise_iff_getElem.1 h) j i hj h1 (by omega)
    rw [h2] at this
    exact this.trans hz
/-- x comes before all of a list, if it comes before its first one. -/
theorem all_behind {key : Nat → Int} {l : List Int} (h : l.Pairwise (lexLt key)) {z y : Int} (hy : l[0]? = some y) (hz : lexLt key z y) : ∀ x ∈ l, lexLt key z x := by
  intro x hx
  obtain ⟨j, hj, rfl⟩ := List.getElem_of_mem hx
  obtain ⟨h1, h2⟩ := List.getElem?_eq_some_iff.1 hy
  by_cases e : j = 0
  · subst e; rw [h2]; exact hz
  · have := (List.pairwise_iff_getElem.1 h) 0 j h1 hj (by omega)
    rw [h2] at this
    exact hz.trans this

/-- Four ordered lists that are exchanged at their middle, and merged two by two, are all merged. -/
theorem merge_four {key : Nat → Int} {L1 L2 R1 R2 M1 M2 : List Int} (hL : (L1 ++ L2).Pairwise (lexLt key)) (hR : (R1 ++ R2).Pairwise (lexLt key))
    (h1 : ∀ x ∈ L1, ∀ y ∈ R2, lexLt key x y) (h2 : ∀ x ∈ R1, ∀ y ∈ L2, lexLt key x y)
    (p1 : M1.Perm (L1 ++ R1)) (p2 : M2.Perm (L2 ++ R2)) (s1 : M1.Pairwise (lexLt key)) (s2 : M2.Pairwise (lexLt key)) :
    (M1 ++ M2).Perm ((L1 ++ L2) ++ (R1 ++ R2)) ∧ (M1 ++ M2).Pairwise (lexLt key) := by
  obtain ⟨_, _, a3⟩ := pairwise_split hL
  obtain ⟨_, _, b3⟩ := pairwise_split hR
  constructor
  · refine (p1.append p2).trans ?_
    have : (L1 ++ R1 ++ (L2 ++ R2)).Perm (L1 ++ (L2 ++ (R1 ++ R2))) := by
      rw [List.append_assoc]
      refine List.Perm.append_left L1 ?_
      rw [← List.append_assoc, ← List.append_assoc]
      exact List.Perm.append_right R2 List.perm_append_comm
    rw [List.append_assoc] at this
    rw [List.append_assoc, List.append_assoc]
    exact this
  · refine List.pairwise_append.2 ⟨s1, s2, fun x hx y hy => ?_⟩
    have hx' := p1.mem_iff.1 hx
    have hy' := p2.mem_iff.1 hy
    rw [List.mem_append] at hx' hy'
    rcases hx' with hx' | hx' <;> rcases hy' with hy' | hy'
    · exact a3 x hx' y hy'
    · exact h1 x hx' y hy'
    · exact h2 x hx' y hy'
    · exact b3 x hx' y hy'

/-- Where the binary search of a merge has stopped, the four parts fit. -/
theorem sym_split {key : Nat → Int} {A L R B ns : List Int} {a m b mid s s0 r0 : Nat} (hns : ns = A ++ (L ++ (R ++ B))) (ha : a = A.length) (hm : m = a + L.length) (hb : b = m + R.length) (hmid : mid = (a + b) / 2)
    (hL : L.Pairwise (lexLt key)) (hR : R.Pairwise (lexLt key)) (hLR : ∀ x ∈ L, ∀ y ∈ R, x < y) (h0 : (mid < m ∧ s0 = mid + m - b ∧ r0 = mid) ∨ (m ≤ mid ∧ s0 = a ∧ r0 = m)) (hs0 : s0 ≤ s) (hs1 : s ≤ r0) (hLn : 0 < L.length) (hRn : 0 < R.length)
    (hi : s = s0 ∨ ∃ x y, ns[s - 1]? = some x ∧ ns[mid + m - s]? = some y ∧ ¬ key y.toNat < key x.toNat) (hj : s = r0 ∨ ∃ x y, ns[s]? = some x ∧ ns[mid + m - 1 - s]? = some y ∧ key y.toNat < key x.toNat) :
    (∀ x ∈ L.take (s - a), ∀ y ∈ R.drop (mid + m - s - m), lexLt key x y) ∧ (∀ x ∈ R.take (mid + m - s - m), ∀ y ∈ L.drop (s - a), lexLt key x y) := by
  have gL : ∀ k, a ≤ k → k < m → ns[k]? = L[k - a]? := fun k h1 h2 => by
    rw [hns, List.getElem?_append_right (by omega), List.getElem?_append_left (by omega), ha]
  have gR : ∀ k, m ≤ k → k < b → ns[k]? = R[k - m]? := fun k h1 h2 => by
    rw [hns, List.getElem?_append_right (by omega), List.getElem?_append_right (by omega), List.getElem?_append_left (by omega)]
    congr 1
    omega
  have HI := Lib.hid hi
  have HJ := Lib.hid hj
  clear hi hj
  have hLt := hL.sublist (List.take_sublist (s - a) L)
  have hLd := hL.sublist (List.drop_sublist (s - a) L)
  have hRt := hR.sublist (List.take_sublist (mid + m - s - m) R)
  have hRd := hR.sublist (List.drop_sublist (mid + m - s - m) R)
  constructor
  · intro x hx y hy
    have l1 : 0 < (L.take (s - a)).length := List.length_pos_of_mem hx
    have l2 : 0 < (R.drop (mid + m - s - m)).length := List.length_pos_of_mem hy
    rw [List.length_take] at l1
    rw [List.length_drop] at l2
    rcases HI.out with hi | ⟨x', y', hx', hy', hk⟩
    · omega
    · rw [gL (s - 1) (by omega) (by omega)] at hx'
      rw [gR (mid + m - s) (by omega) (by omega)] at hy'
      have hlt := hLR x' (List.mem_of_getElem? hx') y' (List.mem_of_getElem? hy')
      have hz := (lex_of_key hlt).2.1 hk
      have ht : (L.take (s - a))[s - a - 1]? = some x' := by rw [List.getElem?_take, if_pos (by omega), ← hx']; congr 1; omega
      have hd : (R.drop (mid + m - s - m))[0]? = some y' := by rw [List.getElem?_drop, Nat.add_zero]; exact hy'
      have b1 := all_before hLt (i := s - a - 1) (by rw [List.length_take]; omega) ht hz x hx
      exact all_behind hRd hd b1 y hy
  · intro x hx y hy
    have l1 : 0 < (R.take (mid + m - s - m)).length := List.length_pos_of_mem hx
    have l2 : 0 < (L.drop (s - a)).length := List.length_pos_of_mem hy
    rw [List.length_take] at l1
    rw [List.length_drop] at l2
    rcases HJ.out with hj | ⟨x', y', hx', hy', hk⟩
    · omega
    · rw [gL s (by omega) (by omega)] at hx'
      rw [gR (mid + m - 1 - s) (by omega) (by omega)] at hy'
      have hlt := hLR x' (List.mem_of_getElem? hx') y' (List.mem_of_getElem? hy')
      have hz := (lex_of_key hlt).1.1 hk
      have ht : (R.take (mid + m - s - m))[mid + m - s - m - 1]? = some y' := by rw [List.getElem?_take, if_pos (by omega), ← hy']; congr 1; omega
      have hd : (L.drop (s - a))[0]? = some x' := by rw [List.getElem?_drop, Nat.add_zero]; exact hx'
      have b1 := all_before hRt (i := mid + m - s - m - 1) (by rw [List.length_take]; omega) ht hz x hx
      exact all_behind hLd hd b1 y hy

/-- One number put into its place of an ordered list that it comes before or behind. -/
theorem merge_one {key : Nat → Int} {x : Int} {R1 R2 : List Int} (hR : (R1 ++ R2).Pairwise (lexLt key)) (h1 : ∀ y ∈ R1, lexLt key y x) (h2 : ∀ y ∈ R2, lexLt key x y) : (R1 ++ x :: R2).Perm (x :: (R1 ++ R2)) ∧ (R1 ++ x :: R2).Pairwise (lexLt key) := by
  refine ⟨List.perm_middle, ?_⟩
  obtain ⟨a1, a2, a3⟩ := pairwise_split hR
  refine List.pairwise_append.2 ⟨a1, List.pairwise_cons.2 ⟨h2, a2⟩, fun y hy z hz => ?_⟩
  rcases List.mem_cons.1 hz with rfl | hz
  · exact h1 y hy
  · exact a3 y hy z hz

end Go.Proofs.Ytigpghmbeldakaa
