/- What a cut of a network of loads costs. No Go. -/
import Derived.Test.YtkofnhimgegcnaaAK
namespace Go.Proofs.Ytkofnhimgegcnaa
open Go Go.RowKit Go.Sort

/-- The hours of a load outside the spans that are met. -/
def outL (S : Nat → Bool) (n : Nat) (T : List Int) (x : Ld) : Int := ((List.range (spansOf T x)).map (fun q => if S (2 + n + (posT T x.1 + q)) = false then spanL T (posT T x.1 + q) else 0)).sum
/-- What a load costs. -/
def costL (S : Nat → Bool) (n : Nat) (T : List Int) (j : Nat) (x : Ld) : Int := if S (2 + j) = true then outL S n T x else x.2.2.1
def costs (S : Nat → Bool) (n : Nat) (T : List Int) : List Ld → Nat → Int
  | [], _ => 0
  | x :: l, j => costL S n T j x + costs S n T l (j + 1)
/-- The hours of the spans that are met. -/
def hoursS (S : Nat → Bool) (n : Nat) (T : List Int) (q : Nat) : Int := ((List.range q).map (fun s => if S (2 + n + s) = true then spanL T s else 0)).sum

theorem cost_load (S : Nat → Bool) (n : Nat) (T : List Int) (j : Nat) (x : Ld) (h0 : S 0 = true) : ((loadE n T j x (spansOf T x)).map (fun e => if S e.1 = true ∧ S e.2.1 = false then e.2.2 else 0)).sum = costL S n T j x := by
  unfold loadE costL outL
  rw [List.map_cons, List.sum_cons, List.map_map]
  dsimp only
  cases hj : S (2 + j)
  · rw [if_pos ⟨h0, rfl⟩, if_neg (by simp), sum_zero_of]
    · omega
    · intro q _
      simp [Function.comp, hj]
  · rw [if_neg (by simp), if_pos rfl, Int.zero_add]
    congr 1
    refine List.map_congr_left (fun q _ => ?_)
    simp [Function.comp, hj]

theorem cost_loads (S : Nat → Bool) (n : Nat) (T : List Int) (h0 : S 0 = true) : ∀ (l : List Ld) (j : Nat), ((loadsE n T l j).map (fun e => if S e.1 = true ∧ S e.2.1 = false then e.2.2 else 0)).sum = costs S n T l j
  | [], _ => rfl
  | x :: l, j => by rw [loadsE, List.map_append, List.sum_append, cost_load S n T j x h0, cost_loads S n T h0 l (j + 1)]; rfl

theorem cost_sink (S : Nat → Bool) (n : Nat) (T : List Int) (K : Int) (h1 : S 1 = false) : ∀ q : Nat, ((sinkE n T K q).map (fun e => if S e.1 = true ∧ S e.2.1 = false then e.2.2 else 0)).sum = K * hoursS S n T q
  | 0 => by simp [sinkE, hoursS]
  | q + 1 => by
    have ih := cost_sink S n T K h1 q
    have e2 : hoursS S n T (q + 1) = hoursS S n T q + (if S (2 + n + q) = true then spanL T q else 0) := by simp [hoursS, List.range_succ]
    rw [sinkE_next, List.map_append, List.sum_append, ih, e2, Int.mul_add]
    cases hs : S (2 + n + q) <;> simp [hs, h1]

/-- What a cut costs. -/
theorem cut_net {S : Nat → Bool} {T : List Int} {K : Int} {l : List Ld} (h0 : S 0 = true) (h1 : S 1 = false) : cutE (netE T K l) S = costs S l.length T l 0 + K * hoursS S l.length T (T.length - 1) := by
  unfold cutE netE
  rw [List.map_append, List.sum_append, cost_loads S l.length T h0, cost_sink S l.length T K h1]

/-- What the loads that are met need in the spans that are met. -/
def needs (S : Nat → Bool) (n : Nat) (T : List Int) : List Ld → Nat → Int
  | [], _ => 0
  | x :: l, j => (if S (2 + j) = true then x.2.2.1 - outL S n T x else 0) + needs S n T l (j + 1)

theorem needs_costs (S : Nat → Bool) (n : Nat) (T : List Int) : ∀ (l : List Ld) (j : Nat), needs S n T l j = totalL l - costs S n T l j
  | [], _ => rfl
  | x :: l, j => by
    have e : totalL (x :: l) = x.2.2.1 + totalL l := by simp [totalL]
    rw [needs, costs, needs_costs S n T l (j + 1), e]
    unfold costL
    split <;> omega

/-- A crush: the loads that are met need more than the spans that are met have. -/
theorem crush {l : List Ld} {K val : Int} {T : List Int} {f lev : Nat → Int} {N : Nat} (hF : Flow (netE T K l) f val) (hE : Ends (netE T K l) N) (hN : 1 < N) (hV : Lev (netE T K l) N f lev) (h1 : lev 1 < 0) (hlt : val < totalL l) :
    K * hoursS (metS lev) l.length T (T.length - 1) < needs (metS lev) l.length T l 0 := by
  have h := hF.cut_eq hE hN hV h1
  have m0 : metS lev 0 = true := by simp [metS, hV.src]
  have m1 : metS lev 1 = false := by simp [metS]; omega
  rw [cut_net m0 m1] at h
  rw [needs_costs]
  omega

end Go.Proofs.Ytkofnhimgegcnaa
