/- A sample drawn by a list of exchanges. -/
import Derived.Test.YtofaioabjkcaiaaDJ
namespace Go.Proofs.Ytofaioabjkcaiaa
open Go.RowKit

/-- Who is at i behind the exchanges E. -/
def exF (E : List (Int × Int)) (i : Int) : Int := E.foldl (fun a x => if x.1 = i then x.2 else a) i

theorem ex_keep (i : Int) : ∀ (E : List (Int × Int)) (a : Int), (∀ x ∈ E, x.1 ≠ i) → E.foldl (fun a x => if x.1 = i then x.2 else a) a = a
  | [], _, _ => rfl
  | x :: E, a, h => by
    rw [List.foldl_cons, if_neg (h x (by simp))]
    exact ex_keep i E a (fun y hy => h y (by simp [hy]))

theorem exF_none {E : List (Int × Int)} {i : Int} (h : ∀ (j : Nat) (x : Int × Int), E[j]? = some x → x.1 ≠ i) : exF E i = i := by
  refine ex_keep i E i (fun x hx => ?_)
  obtain ⟨j, hj⟩ := List.getElem?_of_mem hx
  exact h j x hj

theorem exF_hit {E : List (Int × Int)} {i : Int} {m : Nat} {x : Int × Int} (hm : E[m]? = some x) (hx : x.1 = i) (h : ∀ (j : Nat) (y : Int × Int), m < j → E[j]? = some y → y.1 ≠ i) : exF E i = x.2 := by
  have hlt := (List.getElem?_eq_some_iff.1 hm).1
  have he := (List.getElem?_eq_some_iff.1 hm).2
  have e : E = E.take m ++ x :: E.drop (m + 1) := by
    rw [← he, List.getElem_cons_drop, List.take_append_drop]
  unfold exF
  rw [e, List.foldl_append, List.foldl_cons, if_pos hx]
  refine ex_keep i _ _ (fun y hy => ?_)
  obtain ⟨j, hj⟩ := List.getElem?_of_mem hy
  rw [List.getElem?_drop] at hj
  exact h _ y (by omega) hj

theorem exF_more (E : List (Int × Int)) (a b : Int) : exF (E ++ [(a, b)]) = updF (exF E) a b := by
  funext i
  unfold exF updF
  rw [List.foldl_append]
  simp only [List.foldl_cons, List.foldl_nil]
  by_cases h : a = i
  · rw [if_pos h, if_pos h.symm]
  · rw [if_neg h, if_neg (fun x => h x.symm)]

/-- Exchanges that can be read. -/
def ExAt (w : World) (v : Value) (E : List (Int × Int)) : Prop :=
  ∃ p cap, v = .slice p E.length cap ∧ ∀ (i : Nat) (x : Int × Int), E[i]? = some x → ∃ g, p = some ⟨g, 0, none⟩ ∧ w.cell? ⟨g, i * 2, none⟩ = some (.int .i64 x.1) ∧ w.cell? ⟨g, i * 2 + 1, none⟩ = some (.int .i64 x.2)

def exCells (x : Int × Int) : List Value := [.int .i64 x.1, .int .i64 x.2]

theorem exCells_at : ∀ (E : List (Int × Int)) (i : Nat) (x : Int × Int), E[i]? = some x → (E.flatMap exCells)[i * 2]? = some (.int .i64 x.1) ∧ (E.flatMap exCells)[i * 2 + 1]? = some (.int .i64 x.2)
  | [], i, x, h => by simp at h
  | y :: E, 0, x, h => by
    simp only [List.getElem?_cons_zero] at h
    cases h
    simp [exCells]
  | y :: E, i + 1, x, h => by
    have := exCells_at E i x (by simpa using h)
    have e1 : (i + 1) * 2 = i * 2 + 1 + 1 := by omega
    rw [e1]
    simpa [exCells] using this

theorem exCells_len : ∀ (E : List (Int × Int)), (E.flatMap exCells).length = E.length * 2
  | [] => rfl
  | y :: E => by rw [List.flatMap_cons, List.length_append, exCells_len E]; simp [exCells]; omega

theorem own_exAt {w : World} {base n : Nat} {hv : Value} {E : List (Int × Int)} (h : w.ownsRow base 149 2 hv n (E.flatMap exCells)) (hn : n = E.length) : ExAt w hv E := by
  subst hn
  obtain ⟨h1, h2⟩ := h
  rcases h2 with ⟨hv, hn⟩ | ⟨g, cap, cur, hv, hg, hh, hn, hcap, hs, ht⟩
  · have := List.length_eq_zero_iff.1 hn
    subst this
    exact ⟨none, 0, hv, fun i x hx => by simp at hx⟩
  · refine ⟨some ⟨g, 0, none⟩, cap, hv, fun i x hx => ⟨g, rfl, ?_⟩⟩
    have hi := (List.getElem?_eq_some_iff.1 hx).1
    obtain ⟨c1, c2⟩ := exCells_at E i x hx
    rw [← ht, List.getElem?_take, if_pos (by omega), Array.getElem?_toList] at c1 c2
    constructor
    · simp [World.cell?, hh, c1]
    · simp [World.cell?, hh, c2]

/-- Rows of different types lie apart. -/
theorem rows_apart {w : World} {base k k' : Nat} {e e' : TypeId} {s s' : Nat} {u v : Value} {xs ys : List Value} (h : w.ownsRow base e s u k xs) (h' : w.ownsRow base e' s' v k' ys) (hne : e ≠ e') : v.ownBlock = none ∨ v.ownBlock ≠ u.ownBlock := by
  obtain ⟨_, h2⟩ := h
  obtain ⟨_, h3⟩ := h'
  rcases h3 with ⟨hv, _⟩ | ⟨g, cap, cur, hv, _, hh, _⟩
  · exact Or.inl (by rw [hv]; rfl)
  · right
    rcases h2 with ⟨hu, _⟩ | ⟨g', cap', cur', hu, _, hh', _⟩
    · rw [hu, hv]; exact fun x => by cases x
    · rw [hu, hv]
      intro x
      have x' : g = g' := by
        have : some g = some g' := x
        injection this
      subst x'
      rw [hh] at hh'
      injection hh' with hh'
      injection hh' with e1 e2
      exact hne e2.symm

set_option maxRecDepth 100000 in
set_option maxHeartbeats 2000000 in
theorem value_any (v : Value) (i : Int) (E : List (Int × Int)) (w : World) (hE : ExAt w v E) (hlen : E.length ≤ 1000000) :
    Calls Try.prog 88 #[v, .int .i64 i] w fun e w' => e = .returned (.int .i64 (exF E i)) ∧ w = w' := by
  obtain ⟨p, cap, rfl, hc⟩ := hE
  have HC := Lib.hid hc
  clear hc
  obtain ⟨n, hn⟩ : ∃ n, n = E.length := ⟨_, rfl⟩
  rw [← hn] at hlen ⊢
  have HN := Lib.hid hn
  clear hn
  go_enter Try.func88, Try.ntmps88
  go_wp2_with fail
  go_loopw [5] (fun v5 wr => ∃ (z : Int) (k : Nat), v5 = .int .i64 z ∧ Hid (z = (k : Int) - 1) ∧ k ≤ n ∧ Hid (∀ (j : Nat) (x : Int × Int), k ≤ j → E[j]? = some x → x.1 ≠ i) ∧ w = wr) (fun v5 _ => (intOf v5 + 1).toNat)
  case atStart => exact ⟨_, n, rfl, Lib.hid rfl, Nat.le_refl _, Lib.hid (fun j x hj hx => by have := (List.getElem?_eq_some_iff.1 hx).1; have := HN.out; omega), rfl⟩
  case round =>
    obtain ⟨z, k, rfl, hz, hk, hno, rfl⟩ := hrel
    by_cases h0 : k = 0
    · have hz0 : z < 0 := by have := hz.out; omega
      have hz1 : ¬ 0 ≤ z := by omega
      go_wp2_with fail
      go_ret
      exact ⟨by rw [exF_none (fun j x hx => hno.out j x (by omega) hx)]; rfl, rfl⟩
    · obtain ⟨m, hm⟩ : ∃ m : Nat, z = (m : Int) := ⟨k - 1, by have := hz.out; omega⟩
      have hmk : k = m + 1 := by have := hz.out; omega
      subst hm
      subst hmk
      clear h0
      obtain ⟨x, hx⟩ : ∃ x, E[m]? = some x := ⟨_, List.getElem?_eq_getElem (by have := HN.out; omega)⟩
      obtain ⟨g, rfl, c0, c1⟩ := HC.out m x hx
      have HX := Lib.hid hx
      clear hx
      obtain ⟨xi, xv⟩ := x
      simp only at c0 c1
      by_cases he : xi = i
      · subst he
        have hb := beq_self_eq_true xi
        go_wp2_with fail
        go_ret
        exact ⟨by rw [exF_hit HX.out rfl (fun j y hj hy => hno.out j y (by omega) hy)]; rfl, rfl⟩
      · have hb : (xi == i) = false := beq_eq_false_iff_ne.2 he
        go_wp2_with fail
        refine ⟨⟨_, m, rfl, Lib.hid (by omega), by omega, Lib.hid (fun j y hj hy => ?_), trivial⟩, by simp [intOf]⟩
        by_cases e : j = m
        · subst e
          rw [HX.out] at hy
          cases hy
          exact he
        · exact hno.out j y (by omega) hy

end Go.Proofs.Ytofaioabjkcaiaa
