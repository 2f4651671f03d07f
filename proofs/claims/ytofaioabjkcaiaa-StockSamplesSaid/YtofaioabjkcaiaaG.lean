/- A range over a function, over any program: the caller's law, where the iterator and the loop's body each own blocks of memory. -/
import Derived.Test.YtofaioabjkcaiaaD
import Derived.RangeFuncOwn
namespace Go.Proofs.Ytofaioabjkcaiaa
open Go.RowKit

/-- Nothing that was there turns, but blocks in O. -/
structure Touch (O : Nat → Prop) (w w' : World) : Prop where
  os : w'.os = w.os
  tape : w'.tape = w.tape
  output : w'.output = w.output
  size : w.heap.size ≤ w'.heap.size
  same : ∀ k, k < w.heap.size → ¬ O k → w'.heap[k]? = w.heap[k]?

/-- Of what was there, nothing below B and nothing in O turns. -/
structure Keeps (B : Nat) (O : Nat → Prop) (w w' : World) : Prop where
  os : w'.os = w.os
  tape : w'.tape = w.tape
  output : w'.output = w.output
  size : w.heap.size ≤ w'.heap.size
  same : ∀ k, k < w.heap.size → (k < B ∨ O k) → w'.heap[k]? = w.heap[k]?

/-- The owner of O turns blocks in O, and owns O' then: O and new ones. -/
def Grow (O : Nat → Prop) (w : World) (O' : Nat → Prop) (w' : World) : Prop := Touch O w w' ∧ ∀ k, O' k → O k ∨ w.heap.size ≤ k

theorem Keeps.of_adds {w w' : World} (h : Adds w w') (B : Nat) (O : Nat → Prop) : Keeps B O w w' := ⟨h.os, h.tape, h.output, h.size, fun k hk _ => h.block k hk⟩
theorem Touch.of_adds {w w' : World} (h : Adds w w') (O : Nat → Prop) : Touch O w w' := ⟨h.os, h.tape, h.output, h.size, fun k hk _ => h.block k hk⟩
theorem Grow.of_adds {w w' : World} (h : Adds w w') (O : Nat → Prop) : Grow O w O w' := ⟨.of_adds h O, fun _ => Or.inl⟩
theorem Grow.refl (O : Nat → Prop) (w : World) : Grow O w O w := .of_adds (Adds.refl w) O
theorem Grow.trans {O O' O'' : Nat → Prop} {a b c : World} (h : Grow O a O' b) (k : Grow O' b O'' c) : Grow O a O'' c :=
  ⟨⟨k.1.os.trans h.1.os, k.1.tape.trans h.1.tape, k.1.output.trans h.1.output, Nat.le_trans h.1.size k.1.size, fun i hi ho =>
      (k.1.same i (Nat.lt_of_lt_of_le hi h.1.size) (fun h' => (h.2 i h').elim ho (fun h'' => by omega))).trans (h.1.same i hi ho)⟩,
    fun i hi => (k.2 i hi).elim (h.2 i) (fun h' => Or.inr (Nat.le_trans h.1.size h'))⟩
theorem Keeps.refl (B : Nat) (O : Nat → Prop) (w : World) : Keeps B O w w := .of_adds (Adds.refl w) B O
theorem Keeps.trans {B : Nat} {O : Nat → Prop} {a b c : World} (h : Keeps B O a b) (k : Keeps B O b c) : Keeps B O a c :=
  ⟨k.os.trans h.os, k.tape.trans h.tape, k.output.trans h.output, Nat.le_trans h.size k.size, fun i hi ho => (k.same i (Nat.lt_of_lt_of_le hi h.size) ho).trans (h.same i hi ho)⟩

/-- A block turned that is neither below B nor in O. -/
theorem Keeps.putObj {B : Nat} {O : Nat → Prop} (w : World) {l : Nat} (o : Obj) (h1 : B ≤ l) (h2 : ¬ O l) : Keeps B O w (w.putObj l o) :=
  ⟨rfl, rfl, rfl, by simp, fun k _ hk => World.putObj_heap_other (fun e => by subst e; rcases hk with h | h; omega; exact h2 h)⟩

theorem roundIn_any {F : Fence} {n m : Nat} (hF : F = Fence.wide) {P : Program} {l : Nat} {f : FuncId} {tmps : Array Value} {assign body : Code} {w : World} {R : Ending → World → Prop}
    (h : RoundIn F n P l f tmps assign body w R) : RoundIn F m P l f tmps assign body w R :=
  ⟨h.1, fun c cs _ => h.2 c cs (by subst hF; exact room_wide _)⟩

/-- What a call of yield gives. -/
def Yielded {α : Type} (Z : Nat → Prop) (J Jx : (Nat → Prop) → List α → World → Prop) (O : Nat → Prop) (V : World) (xs : List α) (e : Ending) (V' : World) : Prop :=
  ∃ (v : Bool) (O' : Nat → Prop), e = .returned (.bool v) ∧ Touch (fun k => O k ∨ Z k) V V' ∧ (v = true → J O' xs V' ∧ Grow O V O' V') ∧ (v = false → Jx O' xs V')

theorem touch_cell {O : Nat → Prop} {w w' : World} (h : Touch O w w') {b o : Nat} {v : Value} (hn : ¬ O b) (hc : w.cell? ⟨b, o, none⟩ = some v) : w'.cell? ⟨b, o, none⟩ = some v :=
  (World.cell?_of_block (w := w) (a := ⟨b, o, none⟩) (h.same b (cell_lt hc) hn)).trans hc

theorem Touch.before {O : Nat → Prop} {a b c : World} (h : Adds a b) (k : Touch O b c) : Touch O a c :=
  ⟨k.os.trans h.os, k.tape.trans h.tape, k.output.trans h.output, Nat.le_trans h.size k.size, fun i hi ho => (k.same i (Nat.lt_of_lt_of_le hi h.size) ho).trans (h.block i hi)⟩
theorem Touch.behind {O : Nat → Prop} {a b c : World} (k : Touch O a b) (h : Adds b c) : Touch O a c :=
  ⟨h.os.trans k.os, h.tape.trans k.tape, h.output.trans k.output, Nat.le_trans k.size h.size, fun i hi ho => (h.block i (Nat.lt_of_lt_of_le hi k.size)).trans (k.same i hi ho)⟩
theorem Grow.before {O O' : Nat → Prop} {a b c : World} (h : Adds a b) (k : Grow O b O' c) : Grow O a O' c := ⟨k.1.before h, fun i hi => (k.2 i hi).imp id (fun h' => Nat.le_trans h.size h')⟩
theorem Grow.behind {O O' : Nat → Prop} {a b c : World} (k : Grow O a O' b) (h : Adds b c) : Grow O a O' c := ⟨k.1.behind h, k.2⟩

theorem Touch.trans {O O' Z : Nat → Prop} {a b c : World} (h : Touch (fun k => O k ∨ Z k) a b) (hO : ∀ k, O' k → O k ∨ a.heap.size ≤ k) (k : Touch (fun k => O' k ∨ Z k) b c) : Touch (fun k => O k ∨ Z k) a c :=
  ⟨k.os.trans h.os, k.tape.trans h.tape, k.output.trans h.output, Nat.le_trans h.size k.size, fun i hi ho =>
    (k.same i (Nat.lt_of_lt_of_le hi h.size) (fun h' => h'.elim (fun h' => (hO i h').elim (fun h'' => ho (Or.inl h'')) (fun h'' => by omega)) (fun h' => ho (Or.inr h')))).trans (h.same i hi ho)⟩

/-- What a whole call of an iterator gives. -/
def Ran {α : Type} (J Jx : (Nat → Prop) → List α → World → Prop) (xs : List α) (e : Ending) (W' : World) : Prop :=
  (∃ v, e = .returned v) ∧ ((∃ O', J O' xs W') ∨ (∃ O' pre rest, pre ++ rest = xs ∧ Jx O' pre W'))

/-- What an iterator does: it hands the elements of xs to yield, one after the other, until yield says no. What it leaves alone: what was there when its call began, and what the body owns. Pr: blocks that the body must not own. -/
def Iter {α : Type} (P : Program) (gf : Nat) (lb : Array Value) (encs : α → Array Value) (xs : List α) (Pr : Nat → Prop) (w0 : World) : Prop :=
  ∀ (l : Nat) (J Jx : (Nat → Prop) → List α → World → Prop) (O : Nat → Prop) (W : World), Adds w0 W → (∀ k, Pr k → ¬ O k) →
    (∀ O pre V, J O pre V → ∀ k, O k → k < V.heap.size) →
    (∀ O pre V V', J O pre V → Keeps W.heap.size O V V' → J O pre V') →
    (∀ O pre V V', Jx O pre V → Keeps W.heap.size O V V' → Jx O pre V') →
    (∀ O pre x rest V, pre ++ x :: rest = xs → J O pre V → YieldAt Fence.wide 0 P l (encs x) V (Yielded (fun k => k = l) J Jx O V (pre ++ [x]))) →
    w0.heap.size ≤ l → l < W.heap.size →
    J O [] W →
    Calls P gf (#[.func (.yield l) #[] #[]] ++ lb) W (Ran J Jx xs)

theorem Iter.later {α : Type} {P : Program} {gf : Nat} {lb : Array Value} {encs : α → Array Value} {xs : List α} {Pr : Nat → Prop} {w0 w1 : World} (h : Iter P gf lb encs xs Pr w0) (hb : Adds w0 w1) :
    Iter P gf lb encs xs Pr w1 := fun l J Jx O W hW a1 a2 a3 a4 a5 a6 a7 => h l J Jx O W (hb.trans hW) a1 a2 a3 a4 a5 (Nat.le_trans hb.size a6) a7

/-- How a round may be left. -/
def roundEnd {α : Type} (I : (Nat → Prop) → List α → World → Prop) (Ix : Code → (Nat → Prop) → List α → World → Prop) (O : Nat → Prop) (V : World) (xs : List α) : Exit → Act → World → Prop
  | .normal, _, V' => ∃ O', I O' xs V' ∧ Grow O V O' V'
  | .ret, _, V' => ∃ O', Ix .ret O' xs V' ∧ Grow O V O' V'
  | .exit id, _, V' => ∃ O', Ix (.exit id) O' xs V' ∧ Grow O V O' V'
  | _, _, _ => False

theorem wp_rangeFunc_iter {P : Program} {α : Type} {g : Operand} {ps : Array Tmp} {assign body : Code} {Q : Exit → Act → World → Prop} {a : Act} {w : World}
    {gf : Nat} {lb : Array Value} (hg : a.eval g = .func (.func gf) #[] lb) (eg : ∀ args w, (callFunc gf args).run P w = .ok (.enter gf args) w)
    {encs : α → Array Value} {xs : List α} {Pr : Nat → Prop} {w0 : World} (hit : Iter P gf lb encs xs Pr w0) (hb0 : Adds w0 w) (hps : ∀ x, (encs x).size = ps.size)
    (I : (Nat → Prop) → List α → World → Prop) (Ix : Code → (Nat → Prop) → List α → World → Prop) (O : Nat → Prop) (hPr : ∀ k, Pr k → ¬ O k)
    (hlt : ∀ O pre V, I O pre V → ∀ k, O k → k < V.heap.size)
    (hI : ∀ O pre V V', I O pre V → Keeps w.heap.size O V V' → I O pre V') (hIx : ∀ c O pre V V', Ix c O pre V → Keeps w.heap.size O V V' → Ix c O pre V')
    (h0 : I O [] w)
    (hround : ∀ (l d : Nat) (O : Nat → Prop) (pre : List α) (x : α) (rest : List α) (V : World), pre ++ x :: rest = xs → w.heap.size ≤ l → w.heap.size ≤ d → l < V.heap.size → d < V.heap.size → ¬ O l → ¬ O d → I O pre V →
      assign.wpIn (Fence.wide.inRound l) 0 P (Exit.then (fun a₁ V1 => Adds V V1 ∧ ∀ V2, V2.heap.size = V1.heap.size → (∀ k, k ≠ l → V2.heap[k]? = V1.heap[k]?) → I O pre V2 → Keeps w.heap.size O V V2 →
          body.wpIn (Fence.wide.inRound l) 0 P (roundEnd I Ix O V2 (pre ++ [x])) a₁ V2) (fun _ _ _ => False))
        { tmps := (ps.zip (encs x)).foldl (fun t (p, v) => t.setIfInBounds p v) a.tmps, defers := [] } V)
    (hdone : ∀ (D : Nat) (O : Nat → Prop) (V : World), w.heap.size ≤ D → I O xs V → V.heap[D]? = some (.deferred (some [])) → ¬ O D → Q .normal { a with defers := { target := .collected D, args := #[] } :: a.defers } V)
    (hstop : ∀ (D : Nat) (c : Code) (O : Nat → Prop) (pre rest : List α) (V : World), pre ++ rest = xs → w.heap.size ≤ D → Ix c O pre V → V.heap[D]? = some (.deferred (some [])) → ¬ O D → c.wp P Q { a with defers := { target := .collected D, args := #[] } :: a.defers } V) :
    (Code.rangeFunc g ps assign body).wp P Q a w := by
  refine (wpIn_wide (n := 0)).1 (wpIn_rangeFunc ?_)
  intro fn hfn
  obtain ⟨rec, hrec⟩ : ∃ rec : LoopState → Option Code → Loop, rec = fun st pe => { state := st, pending := pe, fn, tmps := a.tmps, params := ps, assign, body, defers := w.heap.size } := ⟨_, rfl⟩
  obtain ⟨W1, hW1⟩ : ∃ W1, (w.alloc (.deferred (some []))).alloc (.loop (rec .ready none)) = W1 := ⟨_, rfl⟩
  have hz1 : W1.heap.size = w.heap.size + 2 := by rw [← hW1]; simp
  have hL1 : W1.heap[w.heap.size + 1]? = some (.loop (rec .ready none)) := by
    rw [← hW1]; have := World.alloc_heap_new (w.alloc (.deferred (some []))) (.loop (rec .ready none)); rwa [World.size_alloc] at this
  have hK1 : W1.heap[w.heap.size]? = some (.deferred (some [])) := by
    rw [← hW1]; exact (Below.heap_alloc _ _ _ (by simp)).trans (World.alloc_heap_new w _)
  have hb1 : Adds w W1 := by rw [← hW1]; exact ((Adds.refl w).alloc _).alloc _
  have hk1 : ∀ O, Keeps w.heap.size O w W1 := fun O => .of_adds hb1 _ _
  have mono : ∀ {O : Nat → Prop} {V V' : World}, Keeps W1.heap.size O V V' → Keeps w.heap.size O V V' := fun h => ⟨h.os, h.tape, h.output, h.size, fun k hk ho => h.same k hk (ho.imp (fun h' => by omega) id)⟩
  refine ⟨w.heap.size + 1, [{ target := .collected w.heap.size, args := #[] }], W1, { target := .fn (.func gf) lb, args := #[.func (.yield (w.heap.size + 1)) #[] #[]] }, W1, gf,
    #[.func (.yield (w.heap.size + 1)) #[] #[]] ++ lb, W1, ?_, ?_, ?_, ?_, ?_, ?_⟩
  · rw [← hW1, hrec]; exact run_enterLoop_outer _ _ _ _ _
  · simp only [resolve, hg]
    simp [go_sem]
  · intro f' _; trivial
  · simp [invoke, go_sem, eg]
  · intro h; simp [Fence.wide] at h
  · refine callsIn_wide.2 ((hit (w.heap.size + 1)
      (fun O pre V => I O pre V ∧ V.heap[w.heap.size + 1]? = some (.loop (rec .ready none)) ∧ V.heap[w.heap.size]? = some (.deferred (some [])) ∧ ¬ O (w.heap.size + 1) ∧ ¬ O w.heap.size)
      (fun O pre V => ∃ c, Ix c O pre V ∧ V.heap[w.heap.size + 1]? = some (.loop (rec .done (some c))) ∧ V.heap[w.heap.size]? = some (.deferred (some [])) ∧ ¬ O (w.heap.size + 1) ∧ ¬ O w.heap.size)
      O W1 (hb0.trans hb1) hPr ?_ ?_ ?_ ?_ (by have := hb0.size; omega) (by omega) ?_).mono ?_)
    · rintro O pre V ⟨hi, _⟩ k hk; exact hlt O pre V hi k hk
    · rintro O pre V V' ⟨hi, h1, h2, h3⟩ hk
      exact ⟨hI O pre V V' hi (mono hk), (hk.same _ (Array.getElem?_eq_some_iff.1 h1).1 (Or.inl (by omega))).trans h1, (hk.same _ (Array.getElem?_eq_some_iff.1 h2).1 (Or.inl (by omega))).trans h2, h3⟩
    · rintro O pre V V' ⟨c, hi, h1, h2, h3⟩ hk
      exact ⟨c, hIx c O pre V V' hi (mono hk), (hk.same _ (Array.getElem?_eq_some_iff.1 h1).1 (Or.inl (by omega))).trans h1, (hk.same _ (Array.getElem?_eq_some_iff.1 h2).1 (Or.inl (by omega))).trans h2, h3⟩
    · rintro O pre x rest V hxs ⟨hi, hl, hd, no1, no2⟩
      have hlV := (Array.getElem?_eq_some_iff.1 hl).1
      have hdV := (Array.getElem?_eq_some_iff.1 hd).1
      have hy := run_yield (P := P) (args := encs x) hl (by rw [hrec]; exact hps x)
      rw [hrec] at hy
      refine ⟨fn, _, assign, body, hy, roundIn_of_wpIn hfn (wpIn_mono (hround (w.heap.size + 1) w.heap.size O pre x rest V hxs (by omega) (Nat.le_refl _) hlV hdV no1 no2 hi) ?_)⟩
      intro e a₁ V1 he
      cases e with
      | normal =>
        obtain ⟨hadd, hbody⟩ := he
        have hl1 : V1.heap[w.heap.size + 1]? = some (.loop (rec .ready none)) := (hadd.block _ hlV).trans hl
        have hd1 : V1.heap[w.heap.size]? = some (.deferred (some [])) := (hadd.block _ hdV).trans hd
        have hkV : Keeps w.heap.size O V (V1.putObj (w.heap.size + 1) (.loop { rec .ready none with state := .busy })) :=
          Keeps.trans (.of_adds hadd _ _) (Keeps.putObj V1 _ (by omega) no1)
        refine ⟨_, run_beginRound hl1 (by rw [hrec]), ?_⟩
        have hl2 : (V1.putObj (w.heap.size + 1) (.loop { rec .ready none with state := .busy })).heap[w.heap.size + 1]? = some (.loop { rec .ready none with state := .busy }) :=
          World.putObj_heap_same (Array.getElem?_eq_some_iff.1 hl1).1
        have hd2 : (V1.putObj (w.heap.size + 1) (.loop { rec .ready none with state := .busy })).heap[w.heap.size]? = some (.deferred (some [])) := (World.putObj_heap_other (by omega)).trans hd1
        refine wpIn_mono (hbody _ (by simp) (fun k hk => World.putObj_heap_other hk) (hI O pre _ _ hi hkV) hkV) ?_
        have fin : ∀ (jump : Option Code) (W3 : World), W3.heap[w.heap.size + 1]? = some (.loop { rec .ready none with state := .busy }) → W3.heap[w.heap.size]? = some (.deferred (some [])) →
            (Instr.endRound (w.heap.size + 1) jump).run P W3 = .ok (.bool jump.isNone) (W3.putObj (w.heap.size + 1) (.loop (rec (if jump.isNone then .ready else .done) jump))) ∧
            (W3.putObj (w.heap.size + 1) (.loop (rec (if jump.isNone then .ready else .done) jump))).heap[w.heap.size + 1]? = some (.loop (rec (if jump.isNone then .ready else .done) jump)) ∧
            (W3.putObj (w.heap.size + 1) (.loop (rec (if jump.isNone then .ready else .done) jump))).heap[w.heap.size]? = some (.deferred (some [])) := fun jump W3 hl3 hd3 => by
          have := run_endRound (P := P) jump hl3
          rw [hrec] at this ⊢
          exact ⟨this, World.putObj_heap_same (Array.getElem?_eq_some_iff.1 hl3).1, (World.putObj_heap_other (by omega)).trans hd3⟩
        intro e a3 W3 hp
        have hs2 := (Array.getElem?_eq_some_iff.1 hl2).1
        have hs3 := (Array.getElem?_eq_some_iff.1 hd2).1
        have common : ∀ (O' : Nat → Prop) (o : Obj), Grow O (V1.putObj (w.heap.size + 1) (.loop { rec .ready none with state := .busy })) O' W3 →
            W3.heap[w.heap.size + 1]? = some (.loop { rec .ready none with state := .busy }) ∧ W3.heap[w.heap.size]? = some (.deferred (some [])) ∧ ¬ O' (w.heap.size + 1) ∧ ¬ O' w.heap.size ∧
            Touch (fun k => O k ∨ k = w.heap.size + 1) V (W3.putObj (w.heap.size + 1) o) ∧ (∀ k, O' k → O k ∨ V.heap.size ≤ k) := by
          intro O' o hgr
          refine ⟨(hgr.1.same _ hs2 no1).trans hl2, (hgr.1.same _ hs3 no2).trans hd2, fun h => (hgr.2 _ h).elim no1 (fun h => by rw [World.putObj_size] at h; have := hadd.size; omega),
            fun h => (hgr.2 _ h).elim no2 (fun h => by rw [World.putObj_size] at h; have := hadd.size; omega), ⟨?_, ?_, ?_, ?_, ?_⟩, ?_⟩
          · exact hgr.1.os.trans hadd.os
          · exact hgr.1.tape.trans hadd.tape
          · exact hgr.1.output.trans hadd.output
          · have h1 := hgr.1.size; have h2 := hadd.size; simp at h1 ⊢; omega
          · intro k hk ho
            have e : k ≠ w.heap.size + 1 := fun e => ho (Or.inr e)
            rw [World.putObj_heap_other e, hgr.1.same k (by have := hadd.size; simp; omega) (fun h => ho (Or.inl h)), World.putObj_heap_other e]
            exact hadd.block k hk
          · intro k hk
            refine (hgr.2 k hk).imp id (fun h => ?_)
            have := hadd.size; simp at h; omega
        cases e with
        | normal =>
          obtain ⟨O', hi3, hgr⟩ := hp
          obtain ⟨hl3, hd3, nol, nod, htch, hO⟩ := common O' (.loop (rec .ready none)) hgr
          obtain ⟨hr, hl4, hd4⟩ := fin none W3 hl3 hd3
          refine ⟨_, _, hr, true, O', rfl, htch, fun _ => ⟨⟨hI _ _ _ _ hi3 (Keeps.putObj W3 _ (by omega) nol), hl4, hd4, nol, nod⟩, ⟨htch.os, htch.tape, htch.output, htch.size, fun k hk ho => ?_⟩, hO⟩, fun e => Bool.noConfusion e⟩
          by_cases e : k = w.heap.size + 1
          · subst e; rw [hl4, hl]; rfl
          · exact htch.same k hk (fun h => h.elim ho e)
        | ret =>
          obtain ⟨O', hi3, hgr⟩ := hp
          obtain ⟨hl3, hd3, nol, nod, htch, hO⟩ := common O' (.loop (rec .done (some .ret))) hgr
          obtain ⟨hr, hl4, hd4⟩ := fin (some .ret) W3 hl3 hd3
          exact ⟨_, _, hr, false, O', rfl, htch, fun e => Bool.noConfusion e, fun _ => ⟨.ret, hIx _ _ _ _ _ hi3 (Keeps.putObj W3 _ (by omega) nol), hl4, hd4, nol, nod⟩⟩
        | exit id =>
          obtain ⟨O', hi3, hgr⟩ := hp
          obtain ⟨hl3, hd3, nol, nod, htch, hO⟩ := common O' (.loop (rec .done (some (.exit id)))) hgr
          obtain ⟨hr, hl4, hd4⟩ := fin (some (.exit id)) W3 hl3 hd3
          exact ⟨_, _, hr, false, O', rfl, htch, fun e => Bool.noConfusion e, fun _ => ⟨.exit id, hIx _ _ _ _ _ hi3 (Keeps.putObj W3 _ (by omega) nol), hl4, hd4, nol, nod⟩⟩
        | goto t => exact hp.elim
        | panic ch => exact hp.elim
        | outgrown => exact hp.elim
      | exit id => exact he.elim
      | goto t => exact he.elim
      | ret => exact he.elim
      | panic ch => exact he.elim
      | outgrown => exact he.elim
    · exact ⟨hI _ _ _ _ h0 (hk1 O), hL1, hK1, fun h => by have := hlt _ _ _ h0 _ h; omega, fun h => by have := hlt _ _ _ h0 _ h; omega⟩
    · rintro e W2 ⟨⟨v, rfl⟩, (⟨O', hi, hl, hd, no1, no2⟩ | ⟨O', pre, rest, hpre, c, hi, hl, hd, no1, no2⟩)⟩
      · exact ⟨none, _, by have := run_endLoop (P := P) hl (by rw [hrec]; simp); rw [hrec] at this; exact this,
          hdone _ _ _ (Nat.le_refl _) (hI _ _ _ _ hi (Keeps.putObj _ _ (by omega) no1)) ((World.putObj_heap_other (by omega)).trans hd) no2⟩
      · exact ⟨some c, _, by have := run_endLoop (P := P) hl (by rw [hrec]; simp); rw [hrec] at this; exact this,
          wpIn_wide.2 (hstop _ c _ pre rest _ hpre (Nat.le_refl _) (hIx _ _ _ _ _ hi (Keeps.putObj _ _ (by omega) no1)) ((World.putObj_heap_other (by omega)).trans hd) no2)⟩

end Go.Proofs.Ytofaioabjkcaiaa
