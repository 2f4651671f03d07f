/- Rows of turns of any length: none, too. -/
import Derived.Test.YtkofnhimgegcnaaV
import Derived.Deep.Upon
import Derived.Shelf.SlSortCmp.NoneTotal
namespace Go.Proofs.Ytkofnhimgegcnaa
open Go Go.RowKit Go.Sort

section
variable {P : Program}
/-- Nothing is appended, at the list of a plain region's operations. -/
theorem wpList_append_nil {w : World} {ops : Array Oper} {rest : List Oper} {o : Oper} {a : Act} {Q : Exit → Act → World → Prop} (hgd : o.guard = none) (s x : Operand) (t : TypeId)
    (ho : o.op = .call { callee := .builtin .append, args := #[s, x], argTypes := #[t, t] }) (e : TypeId) (i : TypeInfo) (ht : P.underlying t = some (.slice e)) (hi : P.info? e = some i)
    (base : Option Addr) (n cap : Nat) (hle : n ≤ cap) (hs : a.eval s = .slice base n cap) (u : Value) (hu : Src P i.size t u 0 [] w) (hx : a.eval x = u)
    (h : wpList P ops Q rest (a.put o.dst (.slice base n cap)) w) : wpList P ops Q (o :: rest) a w :=
  wpList_plain hgd fun _ hK => by
    have hr := run_append_nothing w t t o.type e i ht hi base n cap hle u hu
    unfold Oper.wp execOp
    simp only [ho, resolve, invoke, builtin, Sem.run_bind, Sem.run_pure, Result.andThen_ok, List.map_toArray, List.map_cons, List.map_nil, hs, hx, hr]
    exact hK _ _ h
end

theorem sortT_nil (p : Option Addr) (cap : Nat) (fv : Value) (w : World) : Calls Try.prog 55 #[.slice p 0 cap, fv] w fun e w' => e = .returned (.tuple #[]) ∧ w = w' := by
  have h := AnyF.slices_SortFunc_none (P := Try.prog) (ρ := sortTurn_ren) { sortTurn with } p cap fv w
  change Calls Try.prog 55 _ _ _ at h
  exact h.mono (by rintro e w' ⟨rfl, rfl⟩; exact ⟨rfl, rfl⟩)

set_option maxHeartbeats 1000000 in
theorem join_nil (w : World) : Calls Try.prog 54 #[.slice none 0 0] w fun e w' => e = .returned (.slice none 0 0) ∧ w = w' := by
  have hsort := sortT_nil none 0 (.func (.func 73) #[] #[]) w
  go_enter Try.func54, Try.ntmps54
  go_upto_region 4 with (go_at_call 55; refine hsort.mono ?_; rintro e w1 ⟨rfl, rfl⟩)
  go_loopw [3, 11] (fun v3 v11 wr => v3 = .slice none 0 0 ∧ v11 = .int .i64 0 ∧ Hid (w = wr)) (fun _ _ _ => 0)
  case atStart => exact ⟨rfl, rfl, Lib.hid rfl⟩
  case round =>
    obtain ⟨rfl, rfl, HW⟩ := hrel
    go_wp2
    go_ret
    exact ⟨rfl, HW.out⟩

/-- A row of turns, anywhere above base. -/
def Turns (w : World) (base : Nat) (v : Value) (l : List Tn) : Prop := w.ownsRow base 41 3 v l.length (l.flatMap enc3)

theorem join_row (base : Nat) (v : Value) (l : List Tn) (w : World) (hr : Turns w base v l) (hb : base ≤ w.heap.size) (hl : l.length ≤ 1000000) :
    Calls Try.prog 54 #[v] w fun e w' => ∃ l' u, l'.Perm l ∧ l'.Pairwise (fun x y => ltOf cfL y x = false) ∧ e = .returned u ∧ Turns w' base u (joinT l') ∧ Touch (fun k => base ≤ k) w w' := by
  obtain ⟨_, h⟩ := own_row3 hr
  rcases h with ⟨rfl, rfl⟩ | ⟨g, cap, rfl, hbg, h⟩
  · refine (join_nil w).mono ?_
    rintro e w' ⟨rfl, rfl⟩
    exact ⟨[], _, List.Perm.refl _, List.Pairwise.nil, rfl, World.ownsRow_nil _ _ _ _, Touch.of_adds (Adds.refl _) _⟩
  · refine (join_any g cap l w h hl).mono ?_
    rintro e w' ⟨l', u, h1, h2, h3, h4, h5⟩
    exact ⟨l', u, h1, h2, h3, own_base_le h4 hb, ⟨h5.os, h5.tape, h5.output, h5.size, fun k hk hn => h5.same k hk (fun e => hn (by rw [e]; exact hbg))⟩⟩

theorem sortF_row (base : Nat) (v : Value) (l : List Tn) (w : World) (hr : Turns w base v l) (hl : l.length ≤ 1000000) :
    Calls Try.prog 55 #[v, .func (.func 56) #[] #[]] w fun e w' => e = .returned (.tuple #[]) ∧ ∃ l', l'.Perm l ∧ l'.Pairwise (fun x y => ltOf cfF y x = false) ∧ Turns w' base v l' ∧ Touch (fun k => base ≤ k) w w' := by
  obtain ⟨_, h⟩ := own_row3 hr
  rcases h with ⟨rfl, rfl⟩ | ⟨g, cap, rfl, hbg, h⟩
  · refine (sortT_nil none 0 _ w).mono ?_
    rintro e w' ⟨rfl, rfl⟩
    exact ⟨rfl, [], List.Perm.refl _, List.Pairwise.nil, World.ownsRow_nil _ _ _ _, Touch.of_adds (Adds.refl _) _⟩
  · refine (sortF_any g cap l w h hl).mono ?_
    rintro e w' ⟨rfl, l', h1, h2, h3, h5⟩
    refine ⟨rfl, l', h1, h2, ?_, ⟨h5.os, h5.tape, h5.output, h5.size, fun k hk hn => h5.same k hk (fun e => hn (by rw [e]; exact hbg))⟩⟩
    have := h3.own (base := base) hbg
    unfold Turns
    rw [← h1.length_eq]
    exact this

theorem src_none {w : World} {base : Nat} {u : Value} {n : Nat} (h : w.ownsRow base 41 3 u n ([] : List Value)) : Src Try.prog 3 39 u 0 [] w := by
  have h' : w.ownsRow base 41 3 u n (([] : List Tn).flatMap enc3) := h
  obtain ⟨_, h2⟩ := own_row3 h'
  rcases h2 with ⟨rfl, _⟩ | ⟨g, cap, rfl, _, _⟩
  · exact Src.ofNil w Try.underlying39 0
  · exact Src.ofSlice w Try.underlying39 _ 0 cap [] rfl (fun j u hj => by simp at hj) (fun u hu => by cases hu)

theorem own_cap {w : World} {base t size n cap : Nat} {p : Option Addr} {xs : List Value} (h : w.ownsRow base t size (.slice p n cap) n xs) : n ≤ cap := by
  obtain ⟨h1, h2⟩ := h
  rcases h2 with ⟨hv, hn⟩ | ⟨g, cap', cur, hv, hb, hg, hle, r⟩
  · omega
  · injection hv with _ _ e
    omega

/-- The turns of the first q spans. -/
def allT (E : List Edge) (f : Nat → Int) (T : List Int) (n q : Nat) : List Tn := (List.range q).flatMap (fun s => (dealL E f (T[s]?.getD 0) (spanL T s) (outE E (2 + n + s))).1)
theorem allT_next (E : List Edge) (f : Nat → Int) (T : List Int) (n q : Nat) : allT E f T n (q + 1) = allT E f T n q ++ (dealL E f (T[q]?.getD 0) (spanL T q) (outE E (2 + n + q))).1 := by
  simp [allT, List.range_succ]

theorem filter_parts (p q r : Nat → Bool) (h1 : ∀ i, p i = true → r i = true ∧ q i = false) (h2 : ∀ i, q i = true → r i = true) : ∀ l : List Nat, (l.filter p).length + (l.filter q).length ≤ (l.filter r).length
  | [] => by simp
  | i :: l => by
    have ih := filter_parts p q r h1 h2 l
    cases hp : p i
    · cases hq : q i
      · cases hr : r i <;> simp [hp, hq, hr] <;> omega
      · have := h2 i hq
        simp [hp, hq, this]; omega
    · obtain ⟨a1, a2⟩ := h1 i hp
      simp [hp, a1, a2]; omega

theorem allT_len (E : List Edge) (f : Nat → Int) (T : List Int) (n : Nat) : ∀ q, (allT E f T n q).length ≤ 2 * ((List.range (2 * E.length)).filter (fun i => decide (tailE E i < 2 + n + q))).length
  | 0 => by simp [allT]
  | q + 1 => by
    have ih := allT_len E f T n q
    rw [allT_next, List.length_append]
    have h1 := dealL_len E f (T[q]?.getD 0) (spanL T q) (outE E (2 + n + q)) (outE E (2 + n + q)).length
    rw [List.take_length] at h1
    have h2 := filter_parts (fun i => decide (tailE E i = 2 + n + q)) (fun i => decide (tailE E i < 2 + n + q)) (fun i => decide (tailE E i < 2 + n + (q + 1))) (fun i h => by simp at h ⊢; omega) (fun i h => by simp at h ⊢; omega) (List.range (2 * E.length))
    unfold outE at h1 ⊢
    omega
theorem allT_le (E : List Edge) (f : Nat → Int) (T : List Int) (n q : Nat) : (allT E f T n q).length ≤ 4 * E.length := by
  have h1 := allT_len E f T n q
  have h2 := List.length_filter_le (fun i => decide (tailE E i < 2 + n + q)) (List.range (2 * E.length))
  rw [List.length_range] at h2
  omega
theorem addJ_lens (l : List Tn) : (joinT l).length ≤ l.length := by
  have := joinT_len l l.length
  rwa [List.take_length] at this

end Go.Proofs.Ytkofnhimgegcnaa
