/- StockReturns: one change of a span whose pockets are alike; what is different behind four of them; holds in memory. -/
import Derived.Test.YtofaioabjkcaiaaCH
import Derived.Test.YtofaioabjkcaiaaCO
namespace Go.Proofs.Ytofaioabjkcaiaa
open Go.RowKit

/-- One change of a span whose pockets are alike. -/
def StepGot (w : World) (s : Nat) (v : Value) (bs : List Nat) (Ts : List Tree) (a c : Int) (Q : Pk) (e : Ending) (w' : World) : Prop :=
  ∃ v' b T', e = .returned (.int .i64 0) ∧ StockAt w'.heap.size w' s v' (bs ++ [b]) (Ts ++ [T']) ∧ (∀ k, 1 ≤ k → k ≤ 1000000 → T'.look k = if a ≤ k ∧ k ≤ c then Q else (treeOf Ts bs.length).look k) ∧
    Touch (fun k => k = s ∨ v.ownBlock = some k) w w' ∧ ∀ k, v'.ownBlock = some k → k = s ∨ v.ownBlock = some k ∨ w.heap.size ≤ k

theorem step_good {w w' : World} {s : Nat} {v : Value} {bs : List Nat} {Ts : List Tree} {a c n : Int} {r : Bool} {rf : Pk → Int} {F : Pk → Pk} {P Q : Pk} {e : Ending} (h : ChangeAll w s v bs Ts a n r rf F e w') (hn : n = c - a + 1) (ha : 1 ≤ a) (hac : a ≤ c) (hc : c ≤ 1000000) (hr : r = true)
    (hP : ∀ k, a ≤ k → k ≤ c → (treeOf Ts bs.length).look k = P) (h0 : rf P = 0) (hF : F P = Q) : StepGot w s v bs Ts a c Q e w' := by
  subst hn
  have hv : (r && validB a (c - a + 1)) = true := by simp [hr, validB]; omega
  obtain ⟨he, v', b, T', k1, k2, k3⟩ := change_good h hv (fun k x1 x2 => by rw [hP k x1 (by omega)]; exact h0)
  refine ⟨v', b, T', he, k1, fun k x1 x2 => ?_, k3.1, fun k hk => (k3.2 k (Or.inr hk)).elim (fun h => h.elim Or.inl (fun h => Or.inr (Or.inl h))) (fun h => Or.inr (Or.inr h))⟩
  rw [k2 k x1 x2]
  by_cases hk : a ≤ k ∧ k ≤ c
  · rw [if_pos (by omega), if_pos hk, hP k hk.1 hk.2, hF]
  · rw [if_neg (by omega), if_neg hk]

theorem move_step (s : Nat) (v : Value) (bs : List Nat) (Ts : List Tree) (a c fr dst : Int) (st lot : Int) (w : World) (hS : StockAt w.heap.size w s v bs Ts) (hlen : bs.length ≤ 1000000) (ha : 1 ≤ a) (hac : a ≤ c) (hc : c ≤ 1000000) (h1 : 1 ≤ fr) (h2 : fr ≤ 1000) (h3 : 1 ≤ dst) (h4 : dst ≤ 1000) (h5 : fr ≠ dst) (hst : st = 1)
    (hP : ∀ k, a ≤ k → k ≤ c → (treeOf Ts bs.length).look k = ⟨st, lot, fr, 0⟩) : Calls Try.prog 33 #[.pointer (some ⟨s, 0, none⟩), .agg #[.int .i64 a, .int .i64 (c - a + 1)], .int .i64 fr, .int .i64 dst] w (StepGot w s v bs Ts a c ⟨st, lot, dst, 0⟩) :=
  (move_any _ s v bs Ts a (c - a + 1) fr dst w hS hlen).mono fun e w' h => step_good h rfl ha hac hc (by simp [inB, bne, h5]; omega) hP (by simp [rfFree, hst]) rfl

theorem pledge_step (s : Nat) (v : Value) (bs : List Nat) (Ts : List Tree) (a c fr dst : Int) (st lot : Int) (w : World) (hS : StockAt w.heap.size w s v bs Ts) (hlen : bs.length ≤ 1000000) (ha : 1 ≤ a) (hac : a ≤ c) (hc : c ≤ 1000000) (h1 : 1 ≤ fr) (h2 : fr ≤ 1000) (h3 : 1 ≤ dst) (h4 : dst ≤ 1000) (hst : st = 1)
    (hP : ∀ k, a ≤ k → k ≤ c → (treeOf Ts bs.length).look k = ⟨st, lot, fr, 0⟩) : Calls Try.prog 34 #[.pointer (some ⟨s, 0, none⟩), .agg #[.int .i64 a, .int .i64 (c - a + 1)], .int .i64 fr, .int .i64 dst] w (StepGot w s v bs Ts a c ⟨st, lot, fr, dst⟩) :=
  (pledge_any _ s v bs Ts a (c - a + 1) fr dst w hS hlen).mono fun e w' h => step_good h rfl ha hac hc (by simp [inB]; omega) hP (by simp [rfFree, hst]) rfl

theorem release_step (s : Nat) (v : Value) (bs : List Nat) (Ts : List Tree) (a c fr dst : Int) (st lot : Int) (w : World) (hS : StockAt w.heap.size w s v bs Ts) (hlen : bs.length ≤ 1000000) (ha : 1 ≤ a) (hac : a ≤ c) (hc : c ≤ 1000000) (h3 : 1 ≤ dst) (h4 : dst ≤ 1000) (hst : st = 1)
    (hP : ∀ k, a ≤ k → k ≤ c → (treeOf Ts bs.length).look k = ⟨st, lot, fr, dst⟩) : Calls Try.prog 35 #[.pointer (some ⟨s, 0, none⟩), .agg #[.int .i64 a, .int .i64 (c - a + 1)], .int .i64 dst] w (StepGot w s v bs Ts a c ⟨st, lot, fr, 0⟩) :=
  (release_any _ s v bs Ts a (c - a + 1) dst w hS hlen).mono fun e w' h => step_good h rfl ha hac hc (by simp [inB]; omega) hP (by simp [rfHeld, hst]) rfl

/-- The last tree behind a change. -/
theorem last_look {B : Nat} {w : World} {s : Nat} {v : Value} {bs : List Nat} {Ts : List Tree} {b : Nat} {T : Tree} (h : StockAt B w s v (bs ++ [b]) (Ts ++ [T])) : treeOf (Ts ++ [T]) (bs ++ [b]).length = T := by
  have hl := h.len
  simp only [List.length_append, List.length_singleton] at hl ⊢
  rw [show bs.length + 1 = Ts.length + 1 by omega, treeOf_new]

theorem step_look {B : Nat} {w : World} {s : Nat} {v : Value} {bs : List Nat} {Ts : List Tree} {b : Nat} {T : Tree} {a c : Int} {Q : Pk} (h : StockAt B w s v (bs ++ [b]) (Ts ++ [T])) (ha : 1 ≤ a) (hc : c ≤ 1000000) (hT : ∀ k, 1 ≤ k → k ≤ 1000000 → T.look k = if a ≤ k ∧ k ≤ c then Q else (treeOf Ts bs.length).look k) :
    ∀ k, a ≤ k → k ≤ c → (treeOf (Ts ++ [T]) (bs ++ [b]).length).look k = Q := fun k k1 k2 => by
  rw [last_look h, hT k (by omega) (by omega), if_pos ⟨k1, k2⟩]

/-- Behind the four changes: what is different. -/
structure Turned (w : World) (s : Nat) (bs : List Nat) (Ts : List Tree) (a c : Int) (v4 : Value) (bs4 : List Nat) (Ts4 : List Tree) : Prop where
  stock : StockAt w.heap.size w s v4 bs4 Ts4
  len : bs4.length = bs.length + 4
  whole : joinD (diffT 1000000 (treeOf Ts4 bs.length) (treeOf Ts4 (bs.length + 4))) = []
  moved : joinD (diffT 1000000 (treeOf Ts4 bs.length) (treeOf Ts4 (bs.length + 1))) = [(a, c)]
  freed : joinD (diffT 1000000 (treeOf Ts4 (bs.length + 3)) (treeOf Ts4 (bs.length + 2))) = [(a, c)]
  last : ∀ k, 1 ≤ k → k ≤ 1000000 → (treeOf Ts4 bs4.length).look k = (treeOf Ts bs.length).look k
  old : ∀ i, i ≤ bs.length → treeOf Ts4 i = treeOf Ts i

theorem turned {w : World} {s : Nat} {v4 : Value} {bs : List Nat} {Ts : List Tree} {b1 b2 b3 b4 : Nat} {T1 T2 T3 T4 : Tree} {a c st lot fr dst : Int} (hS : StockAt w.heap.size w s v4 ((((bs ++ [b1]) ++ [b2]) ++ [b3]) ++ [b4]) ((((Ts ++ [T1]) ++ [T2]) ++ [T3]) ++ [T4])) (ha : 1 ≤ a) (hac : a ≤ c) (hc : c ≤ 1000000) (hne : fr ≠ dst) (hd : dst ≠ 0)
    (hP : ∀ k, a ≤ k → k ≤ c → (treeOf Ts bs.length).look k = ⟨st, lot, fr, 0⟩)
    (h1 : ∀ k, 1 ≤ k → k ≤ 1000000 → T1.look k = if a ≤ k ∧ k ≤ c then ⟨st, lot, dst, 0⟩ else (treeOf Ts bs.length).look k)
    (h2 : ∀ k, 1 ≤ k → k ≤ 1000000 → T2.look k = if a ≤ k ∧ k ≤ c then ⟨st, lot, fr, 0⟩ else T1.look k)
    (h3 : ∀ k, 1 ≤ k → k ≤ 1000000 → T3.look k = if a ≤ k ∧ k ≤ c then ⟨st, lot, fr, dst⟩ else T2.look k)
    (h4 : ∀ k, 1 ≤ k → k ≤ 1000000 → T4.look k = if a ≤ k ∧ k ≤ c then ⟨st, lot, fr, 0⟩ else T3.look k) :
    Turned w s bs Ts a c v4 ((((bs ++ [b1]) ++ [b2]) ++ [b3]) ++ [b4]) ((((Ts ++ [T1]) ++ [T2]) ++ [T3]) ++ [T4]) := by
  have hl0 := hS.len
  simp only [List.length_append, List.length_singleton] at hl0
  have hl : Ts.length = bs.length := by omega
  have e0 : ∀ i, i ≤ bs.length → treeOf ((((Ts ++ [T1]) ++ [T2]) ++ [T3]) ++ [T4]) i = treeOf Ts i := fun i hi => by
    rw [treeOf_old (by simp; omega), treeOf_old (by simp; omega), treeOf_old (by simp; omega), treeOf_old (by omega)]
  have e1 : treeOf ((((Ts ++ [T1]) ++ [T2]) ++ [T3]) ++ [T4]) (bs.length + 1) = T1 := by
    rw [treeOf_old (by simp; omega), treeOf_old (by simp; omega), treeOf_old (by simp; omega), ← hl, treeOf_new]
  have e2 : treeOf ((((Ts ++ [T1]) ++ [T2]) ++ [T3]) ++ [T4]) (bs.length + 2) = T2 := by
    rw [treeOf_old (by simp; omega), treeOf_old (by simp; omega), show bs.length + 2 = (Ts ++ [T1]).length + 1 by simp; omega, treeOf_new]
  have e3 : treeOf ((((Ts ++ [T1]) ++ [T2]) ++ [T3]) ++ [T4]) (bs.length + 3) = T3 := by
    rw [treeOf_old (by simp; omega), show bs.length + 3 = ((Ts ++ [T1]) ++ [T2]).length + 1 by simp; omega, treeOf_new]
  have e4 : treeOf ((((Ts ++ [T1]) ++ [T2]) ++ [T3]) ++ [T4]) (bs.length + 4) = T4 := by
    rw [show bs.length + 4 = (((Ts ++ [T1]) ++ [T2]) ++ [T3]).length + 1 by simp; omega, treeOf_new]
  have hbl : ((((bs ++ [b1]) ++ [b2]) ++ [b3]) ++ [b4]).length = bs.length + 4 := by simp
  have g4 : ∀ k, 1 ≤ k → k ≤ 1000000 → T4.look k = (treeOf Ts bs.length).look k := fun k k1 k2 => by
    rw [h4 k k1 k2, h3 k k1 k2, h2 k k1 k2, h1 k k1 k2]
    by_cases hk : a ≤ k ∧ k ≤ c
    · rw [if_pos hk, hP k hk.1 hk.2]
    · rw [if_neg hk, if_neg hk, if_neg hk, if_neg hk]
  refine ⟨hS, hbl, ?_, ?_, ?_, fun k k1 k2 => by rw [hbl, e4]; exact g4 k k1 k2, e0⟩
  · refine scover_none (changed_cover hS (a := bs.length) (b := bs.length + 4) (by omega) (by omega)) (fun k k1 k2 => ?_)
    rw [e4, e0 _ (Nat.le_refl _), g4 k k1 k2]
  · refine scover_one (changed_cover hS (a := bs.length) (b := bs.length + 1) (by omega) (by omega)) ha hac hc (fun k k1 k2 => ?_) (fun k k1 k2 hk => ?_)
    · rw [e1, e0 _ (Nat.le_refl _), h1 k (by omega) (by omega), if_pos ⟨k1, k2⟩, hP k k1 k2]
      simp [hne]
    · rw [e1, e0 _ (Nat.le_refl _), h1 k k1 k2, if_neg hk]
  · refine scover_one (changed_cover hS (a := bs.length + 3) (b := bs.length + 2) (by omega) (by omega)) ha hac hc (fun k k1 k2 => ?_) (fun k k1 k2 hk => ?_)
    · rw [e3, e2, h3 k (by omega) (by omega), if_pos ⟨k1, k2⟩, h2 k (by omega) (by omega), if_pos ⟨k1, k2⟩]
      simp [hd]
    · rw [e3, e2, h3 k k1 k2, if_neg hk]

/-- Behind the first loop, and between two rounds of the second one. -/
structure First (w W2 : World) (s b3 : Nat) (x0 x1 x2 : Int) (most : Nat) (v : Value) (bs : List Nat) (Ts : List Tree) (wr : World) : Prop where
  stock : StockAt wr.heap.size wr s v bs Ts
  few : bs.length ≤ most
  kept : ∃ tot, Kept (treeOf Ts bs.length).look tot
  box : Box wr b3 #[.int .i64 x0, .int .i64 x1, .int .i64 x2] 54
  own : ∀ k, v.ownBlock = some k → W2.heap.size ≤ k
  adds : Adds w wr
  size : W2.heap.size ≤ wr.heap.size

/-- What the second loop keeps beside the register. -/
structure Side (w : World) (s : Nat) (hv : Value) (hs : List Piece) (v : Value) (wr : World) : Prop where
  holds : HoldAt wr hv hs
  off : ∀ g, hv.ownBlock = some g → g ≠ s ∧ v.ownBlock ≠ some g ∧ g < wr.heap.size
  own : ∀ k, v.ownBlock = some k → w.heap.size ≤ k
  adds : Adds w wr

theorem Side.later {w : World} {s : Nat} {hv : Value} {hs : List Piece} {v : Value} {wr w' : World} (h : Side w s hv hs v wr) (hA : Adds wr w') : Side w s hv hs v w' :=
  ⟨h.holds.later hA, fun g hg => by obtain ⟨a, b, c⟩ := h.off g hg; exact ⟨a, b, Nat.lt_of_lt_of_le c hA.size⟩, h.own, h.adds.trans hA⟩

theorem Side.step {w : World} {s : Nat} {hv : Value} {hs : List Piece} {v v' : Value} {wr w' : World} (h : Side w s hv hs v wr) (hws : w.heap.size ≤ s) (hsep : v'.ownBlock ≠ some s) (ht : Touch (fun k => k = s ∨ v.ownBlock = some k) wr w')
    (ho : ∀ k, v'.ownBlock = some k → k = s ∨ v.ownBlock = some k ∨ wr.heap.size ≤ k) : Side w s hv hs v' w' := by
  refine ⟨h.holds.touch ht (fun g hg => ?_), fun g hg => ?_, fun k hk => ?_, adds_touch h.adds ht (fun k hk => hk.elim (fun e => by omega) (fun e => h.own k e))⟩
  · obtain ⟨a, b, _⟩ := h.off g hg
    exact fun hh => hh.elim a b
  · obtain ⟨a, b, c⟩ := h.off g hg
    refine ⟨a, fun hk => ?_, Nat.lt_of_lt_of_le c ht.size⟩
    rcases ho g hk with e | e | e
    · exact a e
    · exact b e
    · omega
  · rcases ho k hk with e | e | e
    · subst e; exact (hsep hk).elim
    · exact h.own k e
    · have := h.adds.size; omega

theorem version_is (B s : Nat) (v : Value) (bs : List Nat) (Ts : List Tree) (z : Int) (w : World) (h : StockAt B w s v bs Ts) (hz : (bs.length : Int) = z) :
    Calls Try.prog 16 #[.pointer (some ⟨s, 0, none⟩)] w fun e w' => e = .returned (.int .i64 z) ∧ w = w' := by subst hz; exact version_any B s v bs Ts w h

theorem span_no {w : World} {base : Nat} {hv : Value} (h : w.ownsRow base 32 2 hv ([] : List (Int × Int)).length (([] : List (Int × Int)).flatMap spanCells)) : ∃ p cap, hv = .slice p 0 cap := by
  obtain ⟨_, ⟨hv, _⟩ | ⟨g, cap, cur, hv, _⟩⟩ := h
  · exact ⟨none, 0, hv⟩
  · exact ⟨_, cap, hv⟩

theorem span_one {w : World} {base : Nat} {hv : Value} {x y : Int} (h : w.ownsRow base 32 2 hv [(x, y)].length ([(x, y)].flatMap spanCells)) : ∃ g cap, hv = .slice (some ⟨g, 0, none⟩) 1 cap ∧ w.cell? ⟨g, 0, none⟩ = some (.int .i64 x) ∧ w.cell? ⟨g, 1, none⟩ = some (.int .i64 (y - x + 1)) := by
  obtain ⟨_, ⟨_, hn⟩ | ⟨g, cap, cur, hv, hg, hh, hn, hcap, hs, ht⟩⟩ := h
  · simp at hn
  · have hc : ∀ j, j < 2 → w.cell? ⟨g, j, none⟩ = (spanCells (x, y))[j]? := fun j hj => by
      have : (cur.toList.take ([(x, y)].length * 2))[j]? = (spanCells (x, y))[j]? := by rw [ht]; simp
      rw [List.getElem?_take, if_pos (by simpa using hj), Array.getElem?_toList] at this
      simp [World.cell?, hh, this]
    exact ⟨g, cap, hv, hc 0 (by omega), hc 1 (by omega)⟩

/-- Changed where nothing did. -/
theorem changed_no (s : Nat) (v : Value) (bs : List Nat) (Ts : List Tree) (a b : Nat) (A B : Int) (w : World) (hS : StockAt w.heap.size w s v bs Ts) (ha : a ≤ bs.length) (hb : b ≤ bs.length) (hA : A = a) (hB : B = b) (hd : joinD (diffT 1000000 (treeOf Ts a) (treeOf Ts b)) = []) :
    Calls Try.prog 28 #[.pointer (some ⟨s, 0, none⟩), .int .i64 A, .int .i64 B] w fun e w' => ∃ p cap, e = .returned (.tuple #[.slice p 0 cap, .int .i64 0]) ∧ Adds w w' := by
  subst hA hB
  refine (changed_ok _ s v bs Ts a b w hS ha hb).mono fun e w' hg => ?_
  rw [hd] at hg
  obtain ⟨hv, he, hr, hA⟩ := hg
  obtain ⟨p, cap, hv'⟩ := span_no hr
  subst hv'
  exact ⟨p, cap, he, hA⟩

/-- Changed where one span did. -/
theorem changed_one (s : Nat) (v : Value) (bs : List Nat) (Ts : List Tree) (a b : Nat) (A B x y : Int) (w : World) (hS : StockAt w.heap.size w s v bs Ts) (ha : a ≤ bs.length) (hb : b ≤ bs.length) (hA : A = a) (hB : B = b) (hd : joinD (diffT 1000000 (treeOf Ts a) (treeOf Ts b)) = [(x, y)]) :
    Calls Try.prog 28 #[.pointer (some ⟨s, 0, none⟩), .int .i64 A, .int .i64 B] w fun e w' => ∃ g cap, e = .returned (.tuple #[.slice (some ⟨g, 0, none⟩) 1 cap, .int .i64 0]) ∧ (w'.cell? ⟨g, 0, none⟩ = some (.int .i64 x) ∧ w'.cell? ⟨g, 1, none⟩ = some (.int .i64 (y - x + 1))) ∧ Adds w w' := by
  subst hA hB
  refine (changed_ok _ s v bs Ts a b w hS ha hb).mono fun e w' hg => ?_
  rw [hd] at hg
  obtain ⟨hv, he, hr, hA⟩ := hg
  obtain ⟨g, cap, hv', c0, c1⟩ := span_one hr
  subst hv'
  exact ⟨g, cap, he, ⟨c0, c1⟩, hA⟩

theorem First.next {w W2 wr wa w' : World} {s b3 k : Nat} {x0 x1 x2 : Int} {v : Value} {bs : List Nat} {Ts : List Tree} {e : Ending} (h : First w W2 s b3 x0 x1 x2 k v bs Ts wr) (hws : w.heap.size ≤ s) (hwb : w.heap.size ≤ b3) (hbs : b3 ≠ s) (hbW : b3 < W2.heap.size) (hwW : w.heap.size ≤ W2.heap.size)
    (hA : Adds wr wa) (hd : DoKept s v bs wa e w') : ∃ r0 b v' bs' Ts', e = .returned (.tuple #[r0, .bool b]) ∧ First w W2 s b3 x0 x1 x2 (k + 1) v' bs' Ts' w' ∧ Touch (fun k => k = s ∨ v.ownBlock = some k) wr w' := by
  obtain ⟨r0, b, v', bs', Ts', tot', he, hS, hk, hl, ht, ho⟩ := hd
  have ht' := ht.before hA
  have hno : ¬ (b3 = s ∨ v.ownBlock = some b3) := fun h' => h'.elim hbs (fun e => by have := h.own b3 e; omega)
  refine ⟨r0, b, v', bs', Ts', he, ⟨hS, by have := h.few; omega, ⟨tot', hk⟩, h.box.same (ht'.same b3 h.box.lt hno), fun j hj => ?_, adds_touch h.adds ht' (fun j hj => hj.elim (fun e => by omega) (fun e => by have := h.own j e; omega)), Nat.le_trans h.size ht'.size⟩, ht'⟩
  rcases ho j hj with e | e | e
  · subst e; exact (hS.sep hj).elim
  · exact h.own j e
  · have := h.size; have := hA.size; omega

/-- Between two rounds of the second loop. -/
structure Second (w : World) (s v0 : Nat) (T0 : Tree) (hv : Value) (hs : List Piece) (most : Nat) (v : Value) (bs : List Nat) (Ts : List Tree) (wr : World) : Prop where
  stock : StockAt wr.heap.size wr s v bs Ts
  few : bs.length ≤ most
  old : v0 ≤ bs.length ∧ treeOf Ts v0 = T0
  same : ∀ k, 1 ≤ k → k ≤ 1000000 → (treeOf Ts bs.length).look k = T0.look k
  side : Side w s hv hs v wr

theorem Second.next {w : World} {s v0 : Nat} {T0 : Tree} {hv : Value} {hs : List Piece} {most : Nat} {v v4 : Value} {bs bs4 : List Nat} {Ts Ts4 : List Tree} {wr w4 w5 : World} {a c : Int} (h : Second w s v0 T0 hv hs most v bs Ts wr) (hT : Turned w4 s bs Ts a c v4 bs4 Ts4) (hD : Side w s hv hs v4 w4) (hA : Adds w4 w5) :
    Second w s v0 T0 hv hs (most + 4) v4 bs4 Ts4 w5 :=
  ⟨(hT.stock.later hA).tight, by have := h.few; have := hT.len; omega, ⟨by have := h.old.1; have := hT.len; omega, by rw [hT.old _ h.old.1]; exact h.old.2⟩, fun k k1 k2 => by rw [hT.last k k1 k2]; exact h.same k k1 k2, hD.later hA⟩

theorem Second.done {w : World} {s v0 : Nat} {T0 : Tree} {hv : Value} {hs : List Piece} {most : Nat} {v : Value} {bs : List Nat} {Ts : List Tree} {wr : World} (h : Second w s v0 T0 hv hs most v bs Ts wr) : joinD (diffT 1000000 (treeOf Ts v0) (treeOf Ts bs.length)) = [] :=
  scover_none (changed_cover h.stock h.old.1 (Nat.le_refl _)) (fun k k1 k2 => by rw [h.old.2, h.same k k1 k2])

end Go.Proofs.Ytofaioabjkcaiaa
