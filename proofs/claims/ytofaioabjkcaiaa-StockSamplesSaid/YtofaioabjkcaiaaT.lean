/- The plain part: what a pocket is, a tree of pockets, and what it says of each pocket. No Go here. -/
import Derived.KernelRfl
namespace Go.Proofs.Ytofaioabjkcaiaa

/-- A pocket: state, lot, owner, holder. -/
structure Pk where
  st : Int
  lot : Int
  own : Int
  hold : Int

instance : DecidableEq Pk := fun a b =>
  decidable_of_iff (a.st = b.st ∧ a.lot = b.lot ∧ a.own = b.own ∧ a.hold = b.hold) (by cases a; cases b; simp)

inductive Tree where
  | leaf (lo hi : Int) (p : Pk)
  | node (lo hi : Int) (p : Pk) (l r : Tree)

def Tree.hi : Tree → Int
  | .leaf _ h _ => h
  | .node _ h _ _ _ => h

def mid (lo hi : Int) : Int := lo + (hi - lo) / 2

/-- The tree is one of the pockets from lo to hi. -/
def Tree.ok : Tree → Int → Int → Prop
  | .leaf a b _, lo, hi => a = lo ∧ b = hi ∧ lo ≤ hi
  | .node a b _ l r, lo, hi => a = lo ∧ b = hi ∧ lo < hi ∧ l.ok lo (mid lo hi) ∧ r.ok (mid lo hi + 1) hi

/-- What a tree says of a pocket. -/
def Tree.look : Tree → Int → Pk
  | .leaf _ _ p, _ => p
  | .node _ _ _ l r, n => if n ≤ l.hi then l.look n else r.look n

theorem Tree.ok_le {t : Tree} {lo hi : Int} (h : t.ok lo hi) : lo ≤ hi := by
  cases t with
  | leaf a b p => exact h.2.2
  | node a b p l r => have := h.2.2.1; omega

theorem Tree.ok_hi {t : Tree} {lo hi : Int} (h : t.ok lo hi) : t.hi = hi := by
  cases t with
  | leaf a b p => exact h.2.1
  | node a b p l r => exact h.2.1

theorem mid_bd {lo hi : Int} (h : lo < hi) : lo ≤ mid lo hi ∧ mid lo hi < hi := by
  unfold mid; omega

end Go.Proofs.Ytofaioabjkcaiaa
