/- The iterator that runs returns. -/
import Derived.Test.YtofaioabjkcaiaaI
namespace Go.Proofs.Ytofaioabjkcaiaa
open Go.RowKit

/-- What holds between two calls of the closure that joins pieces. -/
def JP (L X : List Piece) (r4 r5 y0 l : Nat) (J : (Nat → Prop) → List Piece → World → Prop) (Op : Nat → Prop) (pre : List Piece) (V : World) : Prop :=
  ∃ (Ob : Nat → Prop) (R : List Piece) (x y : Int) (s : Pk) (rest : List Piece), Op = (fun k => Ob k ∨ k = r4 ∨ k = r5) ∧ J Ob R V ∧ ¬ Ob r4 ∧ ¬ Ob r5 ∧ ¬ Ob y0 ∧ pre ++ rest = L ∧ R ++ mergeT (x, y, s) rest = X ∧
    Box V r4 #[.int .i64 x, .int .i64 y] 124 ∧ Box V r5 #[.int .i64 s.st, .int .i64 s.lot, .int .i64 s.own, .int .i64 s.hold] 44 ∧ Box V y0 #[.func (.yield l) #[] #[]] 157

def JPx (X : List Piece) (Jx : (Nat → Prop) → List Piece → World → Prop) (_ : Nat → Prop) (_ : List Piece) (V : World) : Prop :=
  ∃ (Ob : Nat → Prop) (R rest : List Piece), R ++ rest = X ∧ Jx Ob R V

theorem yields_101 (L X : List Piece) (r4 r5 y0 l B : Nat) (J Jx : (Nat → Prop) → List Piece → World → Prop)
    (hlt : ∀ O pre V, J O pre V → ∀ k, O k → k < V.heap.size) (hst : ∀ O pre V V', J O pre V → Keeps B O V V' → J O pre V') (hstx : ∀ O pre V V', Jx O pre V → Keeps B O V V' → Jx O pre V')
    (hy : ∀ O pre x rest V, pre ++ x :: rest = X → J O pre V → YieldAt Fence.wide 0 Try.prog l (Piece.encs x) V (Yielded (fun k => k = l) J Jx O V (pre ++ [x])))
    (b4 : B ≤ r4) (b5 : B ≤ r5) (by0 : B ≤ y0) (hl : l < B) (n45 : r4 ≠ r5) (n4y : r4 ≠ y0) (n5y : r5 ≠ y0) :
    Yields 101 #[.pointer (some ⟨r5, 0, none⟩), .pointer (some ⟨y0, 0, none⟩), .pointer (some ⟨r4, 0, none⟩)] L (fun k => k = l) (JP L X r4 r5 y0 l J) (JPx X Jx) where
  enter := fun args w => by go_simp
  lt := by
    rintro O pre V ⟨Ob, R, x, y, s, rest, rfl, hJ, _, _, _, _, _, h4, h5, _⟩ k hk
    rcases hk with hk | rfl | rfl
    · exact hlt _ _ _ hJ k hk
    · exact h4.lt
    · exact h5.lt
  st := by
    rintro O pre V V' ⟨Ob, R, x, y, s, rest, rfl, hJ, h1, h2, h3, h4, h5, h6, h7, h8⟩ hA
    exact ⟨Ob, R, x, y, s, rest, rfl, hst _ _ _ _ hJ (.of_adds hA _ _), h1, h2, h3, h4, h5, h6.later hA, h7.later hA, h8.later hA⟩
  stx := by
    rintro O pre V V' ⟨Ob, R, rest, h1, h2⟩ hA
    exact ⟨Ob, R, rest, h1, hstx _ _ _ _ h2 (.of_adds hA _ _)⟩
  call := by
    rintro O pre x' rest' V hL ⟨Ob, R, x, y, s, rest, rfl, hJ, no4, no5, noy, hpre, hX, h4, h5, h6⟩
    have hrest : rest = x' :: rest' := List.append_cancel_left (hpre.trans hL.symm)
    subst hrest
    have hl4 := h4.lt
    have hl5 := h5.lt
    have hly := h6.lt
    have hV : ∀ k, Ob k → k < V.heap.size := hlt _ _ _ hJ
    by_cases hp : x'.2.2 = s
    · obtain ⟨xa, xc, xp⟩ := x'
      simp only at hp
      subst hp
      refine (step_same xa xc xp r5 y0 r4 x y V h4 h5).mono ?_
      rintro e V' ⟨rfl, hb4, ht⟩
      have hk : Keeps B Ob V V' := ⟨ht.os, ht.tape, ht.output, ht.size, fun k hk ho => ht.same k hk (fun e => by subst e; rcases ho with ho | ho; omega; exact no4 ho)⟩
      refine ⟨true, _, rfl, ⟨ht.os, ht.tape, ht.output, ht.size, fun k hk ho => ht.same k hk (fun e => ho (Or.inl (Or.inr (Or.inl e))))⟩, fun _ => ⟨⟨Ob, R, x, xc, xp, rest', rfl, hst _ _ _ _ hJ hk, no4, no5, noy, by rw [List.append_assoc]; exact hL, ?_, hb4,
        h5.same (ht.same _ hl5 (Ne.symm n45)), h6.same (ht.same _ hly (Ne.symm n4y))⟩, ⟨ht.os, ht.tape, ht.output, ht.size, fun k hk ho => ht.same k hk (fun e => ho (Or.inr (Or.inl e)))⟩, fun _ => Or.inl⟩, fun e => Bool.noConfusion e⟩
      rw [← hX]
      simp only [mergeT, if_true]
    · have hm : mergeT (x, y, s) (x' :: rest') = (x, y, s) :: mergeT x' rest' := by simp only [mergeT]; rw [if_neg hp]
      rw [hm] at hX
      have hlV : l < V.heap.size := by omega
      obtain ⟨xa, xc, xp⟩ := x'
      refine (step_other l X J Jx xa xc xp s r5 y0 r4 x y Ob R _ V h4 h5 (by have := h6.cell 0; simpa using this) hp hX hJ (fun O pre V V' h hA => hst O pre V V' h (.of_adds hA _ _)) hy hV hlV (fun h => h.elim no4 (fun h => by omega)) (fun h => h.elim no5 (fun h => by omega)) n45).mono ?_
      rintro e V' ⟨v, O', w1, rfl, ht1, ht2, hj, hx⟩
      have hz1 := ht1.size
      have hlast : Touch (fun k => (Ob k ∨ k = r4 ∨ k = r5) ∨ k = l) V V' := ⟨ht2.os.trans ht1.os, ht2.tape.trans ht1.tape, ht2.output.trans ht1.output, Nat.le_trans ht1.size ht2.size, fun k hk ho =>
        (ht2.same k (by omega) (fun h => ho (Or.inl (Or.inr h)))).trans (ht1.same k hk (fun h => ho (h.imp Or.inl id)))⟩
      cases v with
      | false =>
        obtain ⟨rfl, hjx⟩ := hx rfl
        exact ⟨false, O', rfl, hlast, fun e => Bool.noConfusion e, fun _ => ⟨O', _, mergeT (xa, xc, xp) rest', by rw [List.append_assoc]; exact hX, hjx⟩⟩
      | true =>
        obtain ⟨hJ1, hG, hb4, hb5⟩ := hj rfl
        have m4 : ¬ O' r4 := fun h => (hG.2 _ h).elim no4 (fun h => by omega)
        have m5 : ¬ O' r5 := fun h => (hG.2 _ h).elim no5 (fun h => by omega)
        have my : ¬ O' y0 := fun h => (hG.2 _ h).elim noy (fun h => by omega)
        have hk : Keeps B O' w1 V' := ⟨ht2.os, ht2.tape, ht2.output, ht2.size, fun k hk ho => ht2.same k hk (fun e => by
          rcases e with rfl | rfl
          · rcases ho with ho | ho; omega; exact m4 ho
          · rcases ho with ho | ho; omega; exact m5 ho)⟩
        refine ⟨true, fun k => O' k ∨ k = r4 ∨ k = r5, rfl, hlast, fun _ => ⟨⟨O', _, xa, xc, xp, rest', rfl, hst _ _ _ _ hJ1 hk, m4, m5, my, by rw [List.append_assoc]; exact hL, by rw [List.append_assoc]; exact hX, hb4, hb5, ?_⟩, ⟨ht2.os.trans hG.1.os, ht2.tape.trans hG.1.tape, ht2.output.trans hG.1.output, Nat.le_trans hG.1.size ht2.size, fun k hk ho => ?_⟩, ?_⟩, fun e => Bool.noConfusion e⟩
        · exact h6.same (((ht2.same _ (by omega) (fun h => h.elim (fun h => n4y h.symm) (fun h => n5y h.symm)))).trans (hG.1.same _ hly noy))
        · exact (ht2.same k (by omega) (fun h => ho (Or.inr h))).trans (hG.1.same k hk (fun h => ho (Or.inl h)))
        · rintro k (hk | hk)
          · exact (hG.2 k hk).imp Or.inl id
          · exact Or.inl (Or.inr hk)

end Go.Proofs.Ytofaioabjkcaiaa
