/- The register and the reference go together. -/
import Derived.Test.YtofaioabjkcaiaaBY
import Derived.Test.YtofaioabjkcaiaaAO
namespace Go.Proofs.Ytofaioabjkcaiaa
open Go.RowKit

theorem spec_same {z lt A B : Int} {r : Bool} {rf : Pk → Int} {FR FS : Pk → Pk} (h : Spec z lt A B r rf FR FS) (q : Pk) (hq : rf q = 0) : FR q = FS q := by
  rcases h with ⟨_, _, rfl, rfl, rfl⟩ | ⟨_, _, rfl, rfl, rfl⟩ | ⟨_, _, rfl, rfl, rfl⟩ | ⟨_, _, rfl, rfl, rfl⟩ | ⟨_, _, rfl, rfl, rfl⟩ | ⟨_, _, rfl, rfl, rfl⟩
  · rfl
  · rfl
  · rfl
  · rfl
  · have hh : q.st = 1 ∧ q.hold = A := by
      unfold rfHeld at hq
      split at hq
      · split at hq
        · exact ⟨by assumption, by assumption⟩
        · omega
      · omega
    show (⟨q.st, q.lot, q.hold, 0⟩ : Pk) = ⟨q.st, q.lot, A, 0⟩
    rw [hh.2]
  · rfl

theorem chgF_same {f : Int → Pk} {a n : Int} {rf : Pk → Int} {FR FS : Pk → Pk} (h0 : FirstErr rf f a n 0) (h : ∀ q, rf q = 0 → FR q = FS q) (k : Int) : chgF f a n FR k = chgF f a n FS k := by
  unfold chgF
  split
  · rename_i hk
    rcases h0 with ⟨_, h0⟩ | ⟨j, _, _, _, hj, _⟩
    · exact h _ (h0 k hk.1 hk.2)
    · exact (hj rfl).elim
  · rfl

theorem treeOf_old {Ts : List Tree} {T : Tree} {v : Nat} (h : v ≤ Ts.length) : treeOf (Ts ++ [T]) v = treeOf Ts v := by
  unfold treeOf
  split
  · rfl
  · rw [List.getD_eq_getElem?_getD, List.getD_eq_getElem?_getD, List.getElem?_append_left (by omega)]

theorem treeOf_new {Ts : List Tree} {T : Tree} : treeOf (Ts ++ [T]) (Ts.length + 1) = T := by
  unfold treeOf
  rw [if_neg (by omega), List.getD_eq_getElem?_getD]
  simp

theorem firstErr_all {rf : Pk → Int} {f : Int → Pk} {a n : Int} (h : FirstErr rf f a n 0) : ∀ k, a ≤ k → k ≤ a + n - 1 → rf (f k) = 0 := by
  rcases h with ⟨_, h⟩ | ⟨_, _, _, _, hc, _⟩
  · exact h
  · exact (hc rfl).elim

/-- What holds of the state of every pocket: who is not in has no owner and no holder; both are members or 0. -/
def GoodP (p : Pk) : Prop := (p.st = 1 ∨ (p.own = 0 ∧ p.hold = 0)) ∧ 0 ≤ p.own ∧ p.own ≤ 1000 ∧ 0 ≤ p.hold ∧ p.hold ≤ 1000

theorem good_pk0 : GoodP pk0 := ⟨Or.inr ⟨rfl, rfl⟩, by decide, by decide, by decide, by decide⟩

theorem spec_good {z lt A B : Int} {r : Bool} {rf : Pk → Int} {FR FS : Pk → Pk} (h : Spec z lt A B r rf FR FS) (hr : r = true) (q : Pk) (hg : GoodP q) (hq : rf q = 0) : GoodP (FS q) := by
  obtain ⟨g1, g2, g3, g4, g5⟩ := hg
  rcases h with ⟨_, rfl, rfl, rfl, rfl⟩ | ⟨_, rfl, rfl, rfl, rfl⟩ | ⟨_, rfl, rfl, rfl, rfl⟩ | ⟨_, rfl, rfl, rfl, rfl⟩ | ⟨_, rfl, rfl, rfl, rfl⟩ | ⟨_, rfl, rfl, rfl, rfl⟩
  · simp [inB] at hr
    exact ⟨Or.inl rfl, by simp only; omega, by simp only; omega, by simp only; omega, by simp only; omega⟩
  · simp [inB] at hr
    obtain ⟨h1, h2, h3⟩ := free_in hq
    exact ⟨Or.inl h1, by simp only; omega, by simp only; omega, by simp only; omega, by simp only; omega⟩
  · simp [inB] at hr
    obtain ⟨h1, h2, h3⟩ := free_in hq
    exact ⟨Or.inl h1, by simp only; omega, by simp only; omega, by simp only; omega, by simp only; omega⟩
  · simp [inB] at hr
    obtain ⟨h1, h2⟩ := held_in hq
    exact ⟨Or.inl h1, by simp only; omega, by simp only; omega, by simp only; omega, by simp only; omega⟩
  · simp [inB] at hr
    obtain ⟨h1, h2⟩ := held_in hq
    exact ⟨Or.inl h1, by simp only; omega, by simp only; omega, by simp only; omega, by simp only; omega⟩
  · exact ⟨Or.inr ⟨rfl, rfl⟩, by simp only; omega, by simp only; omega, by simp only; omega, by simp only; omega⟩

/-- Register and reference have the same versions. -/
structure Link (w : World) (s : Nat) (v : Value) (bs : List Nat) (Ts : List Tree) (g0 n0 c0 : Nat) (Ls : List (List Piece)) : Prop where
  stock : StockAt w.heap.size w s v bs Ts
  ref : RefAt w (.agg #[.slice (some ⟨g0, 0, none⟩) n0 c0]) Ls
  off : g0 ≠ s
  len : Ls.length = bs.length + 1
  can : ∀ (i : Nat) (L : List Piece), Ls[i]? = some L → Can (treeOf Ts i).look L 1000001
  good : ∀ (i : Nat) (k : Int), i ≤ bs.length → 1 ≤ k → k ≤ 1000000 → GoodP ((treeOf Ts i).look k)

theorem Link.last {w : World} {s : Nat} {v : Value} {bs : List Nat} {Ts : List Tree} {g0 n0 c0 : Nat} {Ls : List (List Piece)} (h : Link w s v bs Ts g0 n0 c0 Ls) : Can (treeOf Ts bs.length).look (Ls.getLastD []) 1000001 := by
  have hl : Ls[bs.length]? = some (Ls[bs.length]'(by have := h.len; omega)) := List.getElem?_eq_getElem _
  have : Ls.getLastD [] = Ls[bs.length]'(by have := h.len; omega) := by
    rw [List.getLastD_eq_getLast?, List.getLast?_eq_getElem?, show Ls.length - 1 = bs.length by have := h.len; omega, hl]; rfl
  rw [this]
  exact h.can _ _ hl

theorem Link.later {w w' : World} {s : Nat} {v : Value} {bs : List Nat} {Ts : List Tree} {g0 n0 c0 : Nat} {Ls : List (List Piece)} (h : Link w s v bs Ts g0 n0 c0 Ls) (hA : Adds w w') : Link w' s v bs Ts g0 n0 c0 Ls :=
  ⟨(h.stock.later hA).tight, h.ref.later hA, h.off, h.len, h.can, h.good⟩

/-- What do gives where both go together. -/
def DoLink (s : Nat) (v : Value) (bs : List Nat) (g0 : Nat) (w : World) (e : Ending) (w' : World) : Prop :=
  ∃ v' bs' Ts' g1 n1 c1 Ls', e = .returned (.tuple #[.agg #[.slice (some ⟨g1, 0, none⟩) n1 c1], .bool true]) ∧ Link w' s v' bs' Ts' g1 n1 c1 Ls' ∧ bs.length ≤ bs'.length ∧ bs'.length ≤ bs.length + 1 ∧
    Touch (fun k => k = s ∨ v.ownBlock = some k) w w' ∧ (∀ k, v'.ownBlock = some k → k = s ∨ v.ownBlock = some k ∨ w.heap.size ≤ k) ∧ (g1 = g0 ∨ w.heap.size ≤ g1)

theorem do_link (s : Nat) (v : Value) (bs : List Nat) (Ts : List Tree) (g0 n0 c0 : Nat) (Ls : List (List Piece)) (kd a n lt A B : Int) (w : World) (h : Link w s v bs Ts g0 n0 c0 Ls) (hlen : bs.length ≤ 900000) :
    Calls Try.prog 15 #[.pointer (some ⟨s, 0, none⟩), .agg #[.slice (some ⟨g0, 0, none⟩) n0 c0], .agg #[.int .i64 kd, .int .i64 a, .int .i64 n, .int .i64 lt, .int .i64 A, .int .i64 B]] w (DoLink s v bs g0 w) :=
  (do_any w.heap.size s v bs Ts (treeOf Ts bs.length).look g0 n0 c0 Ls kd a n lt A B w h.stock (by omega) h.ref h.off h.last (by have := h.len; omega)).mono fun e w' hd => by
    obtain ⟨r, rf, FR, FS, cR, cS, g1, n1, c1, bd, hsp, rfl, hbd, hoff, hro, hso, ht⟩ := hd
    rcases hro with ⟨h1, h2, h3, h4, h5⟩ | ⟨h1, h2, h3, h4, L', h5, h6⟩
    · rcases hso with ⟨k1, k2, k3⟩ | ⟨k1, k2, k3, _⟩
      · have hc : cS = cR := by
          rcases h4 with ⟨p, q⟩ | ⟨p, q⟩
          · rcases k2 with ⟨p', q'⟩ | ⟨p', q'⟩
            · omega
            · rw [p] at p'; cases p'
          · rcases k2 with ⟨p', q'⟩ | ⟨p', q'⟩
            · rw [p] at p'; cases p'
            · exact q'.unique q
        have hb : (cS == cR) = true := beq_iff_eq.2 hc
        rw [hb]
        simp only [Value.agg.injEq, Array.mk.injEq, List.cons.injEq, and_true] at h2
        refine ⟨v, bs, Ts, g1, n1, c1, Ls, rfl, ⟨k3, h5, hoff, h.len, h.can, h.good⟩, Nat.le_refl _, by omega, ht, fun k hk => Or.inr (Or.inl hk), Or.inl h3⟩
      · exfalso
        rcases h4 with ⟨p, _⟩ | ⟨_, q⟩
        · rw [p] at k2; cases k2
        · exact h1 (q.unique k3)
    · rcases hso with ⟨k1, k2, _⟩ | ⟨k1, k2, k3, v', b', T', k4, k5, k6⟩
      · exfalso
        rcases k2 with ⟨p, _⟩ | ⟨_, q⟩
        · rw [h2] at p; cases p
        · exact k1 (q.unique h3)
      · have hb : (cS == cR) = true := beq_iff_eq.2 (by omega)
        rw [hb]
        have hTl : Ts.length = bs.length := h.stock.len
        refine ⟨v', bs ++ [b'], Ts ++ [T'], g1, n1, c1, Ls ++ [L'], rfl, ⟨k4, h5, hoff, by simp [h.len], fun i L hi => ?_, fun i k hi x1 x2 => ?_⟩, by simp, by simp, ht, k5, Or.inr (Nat.le_trans hbd h4)⟩
        · have hi2 := (List.getElem?_eq_some_iff.1 hi).1
          simp only [List.length_append, List.length_singleton] at hi2
          by_cases hil : i < Ls.length
          · rw [List.getElem?_append_left hil] at hi
            rw [treeOf_old (by have := h.len; omega)]
            exact h.can i L hi
          · have hie : i = Ts.length + 1 := by have := h.len; omega
            rw [List.getElem?_append_right (by omega), show i - Ls.length = 0 by have := h.len; omega] at hi
            simp only [List.getElem?_cons_zero, Option.some.injEq] at hi
            subst hi
            rw [hie, treeOf_new]
            refine h6.congr (fun k x1 x2 => ?_)
            rw [chgF_same h3 (spec_same hsp) k, k6 k x1 (by omega)]
        · simp only [List.length_append, List.length_singleton] at hi
          by_cases hil : i ≤ bs.length
          · rw [treeOf_old (by omega)]
            exact h.good i k hil x1 x2
          · rw [show i = Ts.length + 1 by omega, treeOf_new, k6 k x1 x2]
            have hgk := h.good bs.length k (Nat.le_refl _) x1 x2
            unfold chgF
            split
            · rename_i hk
              exact spec_good hsp (by revert h2; cases r <;> simp) _ hgk (firstErr_all k3 k hk.1 hk.2)
            · exact hgk

end Go.Proofs.Ytofaioabjkcaiaa
