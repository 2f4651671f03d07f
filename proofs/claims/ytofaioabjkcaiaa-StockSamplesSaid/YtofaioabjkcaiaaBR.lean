/- The reference's runs in plain words: canonical runs, a run added, a list changed. No Go here. -/
import Derived.Test.YtofaioabjkcaiaaP
namespace Go.Proofs.Ytofaioabjkcaiaa

def Apart (x y : Piece) : Prop := x.2.1 < y.1 ∧ (x.2.1 + 1 = y.1 → x.2.2 ≠ y.2.2)

/-- The runs say of the pockets before e what f says, as long as they can be. -/
structure Can (f : Int → Pk) (l : List Piece) (e : Int) : Prop where
  one : ∀ x ∈ l, 1 ≤ x.1 ∧ x.1 ≤ x.2.1 ∧ x.2.1 < e ∧ x.2.2.st ≠ 0 ∧ ∀ k, x.1 ≤ k → k ≤ x.2.1 → f k = x.2.2
  all : ∀ k, 1 ≤ k → k < e → f k = pk0 ∨ ∃ x ∈ l, x.1 ≤ k ∧ k ≤ x.2.1
  row : l.Pairwise Apart

theorem can_nil (f : Int → Pk) : Can f [] 1 := ⟨by simp, fun k h1 h2 => by omega, List.Pairwise.nil⟩

theorem Can.more {f : Int → Pk} {l : List Piece} {e e' : Int} (h : Can f l e) (he : e ≤ e') (hg : ∀ k, e ≤ k → k < e' → f k = pk0) : Can f l e' :=
  ⟨fun x hx => by obtain ⟨h1, h2, h3, h4, h5⟩ := h.one x hx; exact ⟨h1, h2, by omega, h4, h5⟩,
   fun k h1 h2 => by
    by_cases hk : k < e
    · exact h.all k h1 hk
    · exact Or.inl (hg k (by omega) h2), h.row⟩

/-- A run added. -/
def addR (l : List Piece) (r : Piece) : List Piece :=
  if r.2.1 < r.1 ∨ r.2.2.st = 0 then l else
  match l.getLast? with
  | none => l ++ [r]
  | some y => if y.2.1 + 1 = r.1 ∧ y.2.2 = r.2.2 then l.dropLast ++ [(y.1, r.2.1, y.2.2)] else l ++ [r]

theorem addR_empty {l : List Piece} {r : Piece} (h : r.2.1 < r.1) : addR l r = l := by
  unfold addR; rw [if_pos (Or.inl h)]

theorem addR_len (l : List Piece) (r : Piece) : (addR l r).length ≤ l.length + 1 := by
  unfold addR
  split
  · omega
  · split
    · simp
    · rename_i y hy
      have : l ≠ [] := by rintro rfl; simp at hy
      have := List.length_pos_iff.2 this
      split <;> simp <;> omega

theorem addR_nil {r : Piece} (h : ¬ (r.2.1 < r.1 ∨ r.2.2.st = 0)) : addR [] r = [r] := by
  unfold addR; rw [if_neg h]; rfl

theorem addR_join {ini : List Piece} {y r : Piece} (h : ¬ (r.2.1 < r.1 ∨ r.2.2.st = 0)) (hj : y.2.1 + 1 = r.1 ∧ y.2.2 = r.2.2) : addR (ini ++ [y]) r = ini ++ [(y.1, r.2.1, y.2.2)] := by
  unfold addR; rw [if_neg h]; simp [hj]

theorem addR_new {ini : List Piece} {y r : Piece} (h : ¬ (r.2.1 < r.1 ∨ r.2.2.st = 0)) (hj : ¬ (y.2.1 + 1 = r.1 ∧ y.2.2 = r.2.2)) : addR (ini ++ [y]) r = ini ++ [y] ++ [r] := by
  unfold addR; rw [if_neg h]; simp only [List.getLast?_append, List.getLast?_singleton, Option.some_or]; rw [if_neg hj]

theorem can_add {f : Int → Pk} {l : List Piece} {e : Int} {r : Piece} (h : Can f l e) (he : e ≤ r.1) (h1 : 1 ≤ r.1) (hn : r.1 ≤ r.2.1) (hs : r.2.2.st ≠ 0) (hg : ∀ k, e ≤ k → k < r.1 → f k = pk0) (hf : ∀ k, r.1 ≤ k → k ≤ r.2.1 → f k = r.2.2) :
    Can f (addR l r) (r.2.1 + 1) := by
  have hc : ¬ (r.2.1 < r.1 ∨ r.2.2.st = 0) := by rintro (h | h); omega; exact hs h
  have hone : ∀ x ∈ l, x.2.1 < r.1 := fun x hx => by have := (h.one x hx).2.2.1; omega
  have hall : ∀ k, 1 ≤ k → k < r.1 → f k = pk0 ∨ ∃ x ∈ l, x.1 ≤ k ∧ k ≤ x.2.1 := fun k k1 k2 => by
    by_cases hk : k < e
    · exact h.all k k1 hk
    · exact Or.inl (hg k (by omega) k2)
  have happ : (∀ x ∈ l, x.2.1 + 1 = r.1 → x.2.2 ≠ r.2.2) → Can f (l ++ [r]) (r.2.1 + 1) := fun hx => by
    refine ⟨fun x hx => ?_, fun k k1 k2 => ?_, ?_⟩
    · rcases List.mem_append.1 hx with hx | hx
      · obtain ⟨a1, a2, a3, a4, a5⟩ := h.one x hx
        exact ⟨a1, a2, by omega, a4, a5⟩
      · rw [List.mem_singleton.1 hx]
        exact ⟨h1, hn, by omega, hs, hf⟩
    · by_cases hk : k < r.1
      · rcases hall k k1 hk with h | ⟨x, hx, h⟩
        · exact Or.inl h
        · exact Or.inr ⟨x, by simp [hx], h⟩
      · exact Or.inr ⟨r, by simp, by omega, by omega⟩
    · rw [List.pairwise_append]
      exact ⟨h.row, by simp, fun x hx' y hy => by rw [List.mem_singleton.1 hy]; exact ⟨hone x hx', hx x hx'⟩⟩
  rcases List.eq_nil_or_concat l with rfl | ⟨ini, y, rfl⟩
  · rw [addR_nil hc]; exact happ (by simp)
  · rw [List.concat_eq_append] at *
    have hrow := h.row
    rw [List.pairwise_append] at hrow
    by_cases hj : y.2.1 + 1 = r.1 ∧ y.2.2 = r.2.2
    · rw [addR_join hc hj]
      obtain ⟨y1, y2, y3, y4, y5⟩ := h.one y (by simp)
      refine ⟨fun x hx => ?_, fun k k1 k2 => ?_, ?_⟩
      · rcases List.mem_append.1 hx with hx | hx
        · obtain ⟨a1, a2, a3, a4, a5⟩ := h.one x (by simp [hx])
          exact ⟨a1, a2, by omega, a4, a5⟩
        · rw [List.mem_singleton.1 hx]
          refine ⟨y1, by simp only; omega, by simp only; omega, y4, fun k k1 k2 => ?_⟩
          simp only at k1 k2 ⊢
          by_cases hk : k ≤ y.2.1
          · exact y5 k k1 hk
          · rw [hf k (by omega) k2, hj.2]
      · by_cases hk : k < r.1
        · rcases hall k k1 hk with h | ⟨x, hx, h⟩
          · exact Or.inl h
          · rcases List.mem_append.1 hx with hx | hx
            · exact Or.inr ⟨x, by simp [hx], h⟩
            · rw [List.mem_singleton.1 hx] at h
              exact Or.inr ⟨(y.1, r.2.1, y.2.2), by simp, h.1, by simp only; omega⟩
        · exact Or.inr ⟨(y.1, r.2.1, y.2.2), by simp, by simp only; omega, by simp only; omega⟩
      · rw [List.pairwise_append]
        exact ⟨hrow.1, by simp, fun x hx z hz => by rw [List.mem_singleton.1 hz]; exact hrow.2.2 x hx y (by simp)⟩
    · rw [addR_new hc hj]
      refine happ (fun x hx hxr heq => ?_)
      rcases List.mem_append.1 hx with hx | hx
      · have := (hrow.2.2 x hx y (by simp)).1
        have := h.one y (by simp)
        omega
      · rw [List.mem_singleton.1 hx] at hxr heq
        exact hj ⟨hxr, heq⟩

/-- A run of which the pockets from a to b get another state. -/
def threeR (out : List Piece) (r : Piece) (a b : Int) (q : Pk) : List Piece :=
  addR (addR (addR out (r.1, min r.2.1 (a - 1), r.2.2)) (max r.1 a, min r.2.1 b, q)) (max r.1 (b + 1), r.2.1, r.2.2)

theorem can_three {f : Int → Pk} {l : List Piece} {e a b : Int} {r : Piece} {q : Pk} (h : Can f l e) (he : e ≤ r.1) (h1 : 1 ≤ r.1) (hn : r.1 ≤ r.2.1) (hs : r.2.2.st ≠ 0) (hab : a ≤ b) (hg : ∀ k, e ≤ k → k < r.1 → f k = pk0)
    (hf : ∀ k, r.1 ≤ k → k ≤ r.2.1 → f k = if a ≤ k ∧ k ≤ b then q else r.2.2) (hq : max r.1 a ≤ min r.2.1 b → q.st ≠ 0) : Can f (threeR l r a b q) (r.2.1 + 1) := by
  unfold threeR
  have k1 : r.1 ≤ min r.2.1 (a - 1) → Can f (addR l (r.1, min r.2.1 (a - 1), r.2.2)) (min r.2.1 (a - 1) + 1) := fun hk =>
    can_add h he h1 hk hs hg (fun k x1 x2 => by simp only at x1 x2; rw [hf k x1 (by omega), if_neg (by omega)])
  have k2 : ∀ {m : List Piece} {e' : Int}, Can f m e' → e' ≤ max r.1 a → (∀ k, e' ≤ k → k < max r.1 a → f k = pk0) → max r.1 a ≤ min r.2.1 b → Can f (addR m (max r.1 a, min r.2.1 b, q)) (min r.2.1 b + 1) := fun hm hle hgap hk =>
    can_add hm hle (by simp only; omega) hk (hq hk) hgap (fun k x1 x2 => by simp only at x1 x2; rw [hf k (by omega) (by omega), if_pos (by omega)])
  have k3 : ∀ {m : List Piece} {e' : Int}, Can f m e' → e' ≤ max r.1 (b + 1) → (∀ k, e' ≤ k → k < max r.1 (b + 1) → f k = pk0) → max r.1 (b + 1) ≤ r.2.1 → Can f (addR m (max r.1 (b + 1), r.2.1, r.2.2)) (r.2.1 + 1) := fun hm hle hgap hk =>
    can_add hm hle (by simp only; omega) hk hs hgap (fun k x1 x2 => by simp only at x1 x2; rw [hf k (by omega) (by omega), if_neg (by omega)])
  by_cases c1 : r.1 ≤ min r.2.1 (a - 1)
  · have h1' := k1 c1
    by_cases c2 : max r.1 a ≤ min r.2.1 b
    · have h2' := k2 h1' (by omega) (fun k x1 x2 => by omega) c2
      by_cases c3 : max r.1 (b + 1) ≤ r.2.1
      · exact k3 h2' (by omega) (fun k x1 x2 => by omega) c3
      · rw [addR_empty (by simp only; omega)]
        rw [show min r.2.1 b + 1 = r.2.1 + 1 by omega] at h2'
        exact h2'
    · rw [addR_empty (l := addR l _) (by simp only; omega), addR_empty (by simp only; omega)]
      rw [show min r.2.1 (a - 1) + 1 = r.2.1 + 1 by omega] at h1'
      exact h1'
  · rw [addR_empty (l := l) (by simp only; omega)]
    by_cases c2 : max r.1 a ≤ min r.2.1 b
    · have h2' := k2 h (by omega) (fun k x1 x2 => hg k x1 (by omega)) c2
      by_cases c3 : max r.1 (b + 1) ≤ r.2.1
      · exact k3 h2' (by omega) (fun k x1 x2 => by omega) c3
      · rw [addR_empty (by simp only; omega)]
        rw [show min r.2.1 b + 1 = r.2.1 + 1 by omega] at h2'
        exact h2'
    · rw [addR_empty (l := l) (by simp only; omega)]
      exact k3 h (by omega) (fun k x1 x2 => hg k x1 (by omega)) (by omega)

/-- What a change does to a pocket. -/
def whatF (p t : Pk) (what : Int) : Pk :=
  if what = 1 then ⟨p.st, p.lot, t.own, p.hold⟩ else
  if what = 2 then ⟨p.st, p.lot, p.own, t.hold⟩ else
  if what = 3 then ⟨p.st, p.lot, p.own, 0⟩ else
  if what = 4 then ⟨p.st, p.lot, p.hold, 0⟩ else
  if what = 5 then ⟨2, 0, 0, 0⟩ else p

/-- The rest of a list changed. -/
def chgGo (a b : Int) (t : Pk) (what : Int) : List Piece → List Piece → Bool → List Piece
  | [], out, ent => if what = 0 ∧ ent = false then addR out (a, b, t) else out
  | r :: rs, out, ent =>
    if what = 0 ∧ ent = false ∧ b < r.1 then chgGo a b t what rs (threeR (addR out (a, b, t)) r a b (whatF r.2.2 t what)) true
    else chgGo a b t what rs (threeR out r a b (whatF r.2.2 t what)) ent

/-- What is left of a list of runs from e on. -/
structure Rest (f : Int → Pk) (l : List Piece) (e : Int) : Prop where
  one : ∀ x ∈ l, e ≤ x.1 ∧ x.1 ≤ x.2.1 ∧ x.2.1 ≤ 1000000 ∧ x.2.2.st ≠ 0 ∧ ∀ k, x.1 ≤ k → k ≤ x.2.1 → f k = x.2.2
  all : ∀ k, e ≤ k → k ≤ 1000000 → f k = pk0 ∨ ∃ x ∈ l, x.1 ≤ k ∧ k ≤ x.2.1
  row : l.Pairwise Apart

theorem Can.rest {f : Int → Pk} {l : List Piece} (h : Can f l 1000001) : Rest f l 1 :=
  ⟨fun x hx => by obtain ⟨h1, h2, h3, h4, h5⟩ := h.one x hx; exact ⟨h1, h2, by omega, h4, h5⟩, fun k k1 k2 => h.all k k1 (by omega), h.row⟩

theorem Rest.tail {f : Int → Pk} {r : Piece} {l : List Piece} {e : Int} (h : Rest f (r :: l) e) : Rest f l (r.2.1 + 1) := by
  obtain ⟨hr, hl⟩ := List.pairwise_cons.1 h.row
  obtain ⟨r1, r2, _⟩ := h.one r (by simp)
  refine ⟨fun x hx => ?_, fun k k1 k2 => ?_, hl⟩
  · obtain ⟨h1, h2, h3, h4, h5⟩ := h.one x (by simp [hx])
    have := (hr x hx).1
    exact ⟨by omega, h2, h3, h4, h5⟩
  · rcases h.all k (by omega) k2 with h | ⟨x, hx, h⟩
    · exact Or.inl h
    · rcases List.mem_cons.1 hx with rfl | hx
      · omega
      · exact Or.inr ⟨x, hx, h⟩

theorem Rest.gap {f : Int → Pk} {r : Piece} {l : List Piece} {e : Int} (h : Rest f (r :: l) e) : ∀ k, e ≤ k → k < r.1 → f k = pk0 := fun k k1 k2 => by
  obtain ⟨hr, _⟩ := List.pairwise_cons.1 h.row
  obtain ⟨r1, r2, r3, _⟩ := h.one r (by simp)
  rcases h.all k k1 (by omega) with h | ⟨x, hx, h⟩
  · exact h
  · rcases List.mem_cons.1 hx with rfl | hx
    · omega
    · have := (hr x hx).1; omega

theorem Rest.more {f : Int → Pk} {l : List Piece} {e e' : Int} (h : Rest f l e) (hx : ∀ x ∈ l, e' ≤ x.1) (he : e ≤ e') : Rest f l e' :=
  ⟨fun x hx' => by obtain ⟨h1, h2, h3, h4, h5⟩ := h.one x hx'; exact ⟨hx x hx', h2, h3, h4, h5⟩, fun k k1 k2 => h.all k (by omega) k2, h.row⟩

/-- Pockets that are there, changed. -/
theorem can_chg {f g : Int → Pk} {a b what : Int} {t : Pk} (hab : a ≤ b) (hw : what ≠ 0) (hg : ∀ k, 1 ≤ k → k ≤ 1000000 → g k = if a ≤ k ∧ k ≤ b then whatF (f k) t what else f k)
    (hin : ∀ k, a ≤ k → k ≤ b → (f k).st ≠ 0) : ∀ {l out : List Piece} {e : Int} {ent : Bool}, Can g out e → 1 ≤ e → e ≤ 1000001 → Rest f l e → Can g (chgGo a b t what l out ent) 1000001
  | [], out, e, ent, hc, h1, he, hr => by
    unfold chgGo
    rw [if_neg (by omega)]
    refine hc.more he (fun k k1 k2 => ?_)
    rcases hr.all k k1 (by omega) with h | ⟨x, hx, _⟩
    · rw [hg k (by omega) (by omega), if_neg, h]
      intro hk
      exact hin k hk.1 hk.2 (by rw [h]; rfl)
    · simp at hx
  | r :: rs, out, e, ent, hc, h1, he, hr => by
    unfold chgGo
    rw [if_neg (by omega)]
    obtain ⟨r1, r2, r3, r4, r5⟩ := hr.one r (by simp)
    refine can_chg hab hw hg hin (e := r.2.1 + 1) (can_three hc r1 (by omega) r2 r4 hab (fun k k1 k2 => ?_) (fun k k1 k2 => ?_) (fun hq => ?_)) (by omega) (by omega) hr.tail
    · have h := hr.gap k k1 k2
      rw [hg k (by omega) (by omega), if_neg, h]
      intro hk
      exact hin k hk.1 hk.2 (by rw [h]; rfl)
    · rw [hg k (by omega) (by omega), r5 k k1 k2]
    · unfold whatF
      split
      · exact r4
      · split
        · exact r4
        · split
          · exact r4
          · split
            · exact r4
            · split
              · show (2 : Int) ≠ 0; omega
              · exact r4

/-- Pockets that enter. -/
theorem can_enter {f g : Int → Pk} {a b : Int} {t : Pk} (h1a : 1 ≤ a) (hab : a ≤ b) (hb : b ≤ 1000000) (ht : t.st ≠ 0) (hg : ∀ k, 1 ≤ k → k ≤ 1000000 → g k = if a ≤ k ∧ k ≤ b then t else f k)
    (hin : ∀ k, a ≤ k → k ≤ b → f k = pk0) : ∀ {l out : List Piece} {e : Int} {ent : Bool}, Can g out e → 1 ≤ e → e ≤ 1000001 → (ent = true → b < e) → (ent = false → e ≤ a) → Rest f l e → Can g (chgGo a b t 0 l out ent) 1000001
  | [], out, e, ent, hc, h1, he, hy, hn, hr => by
    have hz : ∀ k, e ≤ k → k ≤ 1000000 → f k = pk0 := fun k k1 k2 => by
      rcases hr.all k k1 k2 with h | ⟨x, hx, _⟩
      · exact h
      · simp at hx
    unfold chgGo
    cases ent with
    | true =>
      rw [if_neg (by simp)]
      exact hc.more he (fun k k1 k2 => by rw [hg k (by omega) (by omega), if_neg (by have := hy rfl; omega)]; exact hz k k1 (by omega))
    | false =>
      rw [if_pos ⟨rfl, rfl⟩]
      have hea := hn rfl
      refine (can_add (r := (a, b, t)) hc hea h1a hab ht (fun k k1 k2 => ?_) (fun k k1 k2 => ?_)).more (by simp only; omega) (fun k k1 k2 => ?_)
      · simp only at k2; rw [hg k (by omega) (by omega), if_neg (by omega)]; exact hz k k1 (by omega)
      · simp only at k1 k2 ⊢; rw [hg k (by omega) (by omega), if_pos ⟨k1, k2⟩]
      · simp only at k1; rw [hg k (by omega) (by omega), if_neg (by omega)]; exact hz k (by omega) (by omega)
  | r :: rs, out, e, ent, hc, h1, he, hy, hn, hr => by
    obtain ⟨r1, r2, r3, r4, r5⟩ := hr.one r (by simp)
    have hdis : ∀ k, r.1 ≤ k → k ≤ r.2.1 → ¬ (a ≤ k ∧ k ≤ b) := fun k k1 k2 hk => r4 (by rw [← r5 k k1 k2, hin k hk.1 hk.2]; rfl)
    have hfr : ∀ k, r.1 ≤ k → k ≤ r.2.1 → g k = if a ≤ k ∧ k ≤ b then whatF r.2.2 t 0 else r.2.2 := fun k k1 k2 => by
      rw [hg k (by omega) (by omega), if_neg (hdis k k1 k2), if_neg (hdis k k1 k2)]; exact r5 k k1 k2
    have hqs : max r.1 a ≤ min r.2.1 b → (whatF r.2.2 t 0).st ≠ 0 := fun _ => r4
    unfold chgGo
    by_cases hb' : ent = false ∧ b < r.1
    · rw [if_pos ⟨rfl, hb'⟩]
      have hea := hn hb'.1
      have hc2 := can_add (r := (a, b, t)) hc hea h1a hab ht (fun k k1 k2 => by simp only at k2; rw [hg k (by omega) (by omega), if_neg (by omega)]; exact hr.gap k k1 (by omega)) (fun k k1 k2 => by simp only at k1 k2 ⊢; rw [hg k (by omega) (by omega), if_pos ⟨k1, k2⟩])
      exact can_enter h1a hab hb ht hg hin (e := r.2.1 + 1) (can_three hc2 (by simp only; omega) (by omega) r2 r4 hab (fun k k1 k2 => by simp only at k1; rw [hg k (by omega) (by omega), if_neg (by omega)]; exact hr.gap k (by omega) k2) hfr hqs) (by omega) (by omega) (fun _ => by omega) (fun h => by cases h) hr.tail
    · rw [if_neg (by rintro ⟨_, h⟩; exact hb' h)]
      have hgap : ∀ k, e ≤ k → k < r.1 → g k = pk0 := fun k k1 k2 => by
        rw [hg k (by omega) (by omega), if_neg]
        · exact hr.gap k k1 k2
        · intro hk
          cases ent with
          | true => have := hy rfl; omega
          | false =>
            have h' : ¬ b < r.1 := fun h => hb' ⟨rfl, h⟩
            exact hdis (r.1) (by omega) r2 ⟨by omega, by omega⟩
      refine can_enter h1a hab hb ht hg hin (e := r.2.1 + 1) (can_three hc r1 (by omega) r2 r4 hab hgap hfr hqs) (by omega) (by omega) (fun h => by have := hy h; omega) (fun h => ?_) hr.tail
      have h' : ¬ b < r.1 := fun h' => hb' ⟨h, h'⟩
      have := hn h
      by_cases hra : r.2.1 < a
      · omega
      · exfalso
        exact hdis (max r.1 a) (by omega) (by omega) ⟨by omega, by omega⟩

/-- Canonical runs are unique. -/
theorem rest_unique {f : Int → Pk} : ∀ {l l' : List Piece} {e : Int}, Rest f l e → Rest f l' e → l = l'
  | [], [], _, _, _ => rfl
  | [], y :: l', e, h, h' => by
    obtain ⟨y1, y2, y3, y4, y5⟩ := h'.one y (by simp)
    rcases h.all y.1 y1 (by omega) with h0 | ⟨x, hx, _⟩
    · exact (y4 (by rw [← y5 y.1 (by omega) y2, h0]; rfl)).elim
    · simp at hx
  | x :: l, [], e, h, h' => by
    obtain ⟨y1, y2, y3, y4, y5⟩ := h.one x (by simp)
    rcases h'.all x.1 y1 (by omega) with h0 | ⟨z, hz, _⟩
    · exact (y4 (by rw [← y5 x.1 (by omega) y2, h0]; rfl)).elim
    · simp at hz
  | x :: l, y :: l', e, h, h' => by
    obtain ⟨x1, x2, x3, x4, x5⟩ := h.one x (by simp)
    obtain ⟨y1, y2, y3, y4, y5⟩ := h'.one y (by simp)
    have e1 : x.1 = y.1 := by
      rcases Int.lt_trichotomy x.1 y.1 with hlt | heq | hlt
      · exact (x4 (by rw [← x5 x.1 (by omega) x2, h'.gap x.1 x1 hlt]; rfl)).elim
      · exact heq
      · exact (y4 (by rw [← y5 y.1 (by omega) y2, h.gap y.1 y1 hlt]; rfl)).elim
    have e2 : x.2.2 = y.2.2 := by rw [← x5 x.1 (by omega) x2, ← y5 x.1 (by omega) (by omega)]
    have key : ∀ {u v : Piece} {m m' : List Piece}, Rest f (u :: m) e → Rest f (v :: m') e → u.1 = v.1 → u.2.2 = v.2.2 → ¬ u.2.1 < v.2.1 := by
      intro u v m m' hu hv e1 e2 hlt
      obtain ⟨u1, u2, u3, u4, u5⟩ := hu.one u (by simp)
      obtain ⟨v1, v2, v3, v4, v5⟩ := hv.one v (by simp)
      have hk := v5 (u.2.1 + 1) (by omega) (by omega)
      rcases hu.all (u.2.1 + 1) (by omega) (by omega) with h0 | ⟨z, hz, z1, z2⟩
      · exact v4 (by rw [← hk, h0]; rfl)
      · rcases List.mem_cons.1 hz with rfl | hz
        · omega
        · have ha := (List.pairwise_cons.1 hu.row).1 z hz
          obtain ⟨_, _, _, _, z5⟩ := hu.one z (by simp [hz])
          have ha1 := ha.1
          exact ha.2 (by omega) (by rw [e2, ← hk, z5 _ z1 z2])
    have e3 : x.2.1 = y.2.1 := by
      have g1 := key h h' e1 e2
      have g2 := key h' h e1.symm e2.symm
      omega
    have ht := h.tail
    rw [e3] at ht
    rw [rest_unique ht h'.tail]
    congr 1
    obtain ⟨xa, xc, xp⟩ := x
    obtain ⟨ya, yc, yp⟩ := y
    simp only at e1 e2 e3
    rw [e1, e2, e3]

theorem Can.unique {f : Int → Pk} {l l' : List Piece} (h : Can f l 1000001) (h' : Can f l' 1000001) : l = l' := rest_unique h.rest h'.rest

/-- There are no more runs than pockets. -/
theorem rest_len {f : Int → Pk} : ∀ {l : List Piece} {e : Int}, Rest f l e → e ≤ 1000001 → (l.length : Int) ≤ 1000001 - e
  | [], _, _, h => by simp; omega
  | x :: l, e, h, he => by
    obtain ⟨x1, x2, x3, _⟩ := h.one x (by simp)
    have := rest_len h.tail (by omega)
    simp only [List.length_cons]
    omega

theorem Can.len {f : Int → Pk} {l : List Piece} (h : Can f l 1000001) : l.length ≤ 1000000 := by
  have := rest_len h.rest (by omega); omega

theorem Can.congr {f g : Int → Pk} {l : List Piece} {e : Int} (h : Can f l e) (hg : ∀ k, 1 ≤ k → k < e → f k = g k) : Can g l e :=
  ⟨fun x hx => by obtain ⟨h1, h2, h3, h4, h5⟩ := h.one x hx; exact ⟨h1, h2, h3, h4, fun k k1 k2 => by rw [← hg k (by omega) (by omega)]; exact h5 k k1 k2⟩,
   fun k k1 k2 => by rw [← hg k k1 k2]; exact h.all k k1 k2, h.row⟩

/-- The error of the first pocket that has one. -/
def FirstErr (rf : Pk → Int) (f : Int → Pk) (a n c : Int) : Prop :=
  (c = 0 ∧ ∀ k, a ≤ k → k ≤ a + n - 1 → rf (f k) = 0) ∨ ∃ k, a ≤ k ∧ k ≤ a + n - 1 ∧ c = rf (f k) ∧ c ≠ 0 ∧ ∀ j, a ≤ j → j < k → rf (f j) = 0

theorem FirstErr.unique {rf : Pk → Int} {f : Int → Pk} {a n c d : Int} (h : FirstErr rf f a n c) (h' : FirstErr rf f a n d) : c = d := by
  rcases h with ⟨rfl, h⟩ | ⟨k, k1, k2, rfl, k3, k4⟩
  · rcases h' with ⟨rfl, _⟩ | ⟨j, j1, j2, rfl, j3, j4⟩
    · rfl
    · exact (j3 (h j j1 j2)).elim
  · rcases h' with ⟨rfl, h'⟩ | ⟨j, j1, j2, rfl, j3, j4⟩
    · exact (k3 (h' k k1 k2)).elim
    · rcases Int.lt_trichotomy k j with hlt | rfl | hlt
      · exact (k3 (j4 k k1 hlt)).elim
      · rfl
      · exact (j3 (k4 j j1 hlt)).elim

end Go.Proofs.Ytofaioabjkcaiaa
