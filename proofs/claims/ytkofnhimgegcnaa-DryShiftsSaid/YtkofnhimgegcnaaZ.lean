/- What deal's turns of a span cover. No Go. -/
import Derived.Test.YtkofnhimgegcnaaY
namespace Go.Proofs.Ytkofnhimgegcnaa
open Go Go.RowKit Go.Sort

def sumJ (g : Nat → Int) (js : List Nat) : Int := (js.map g).sum
theorem sumJ_snoc (g : Nat → Int) (js : List Nat) (j : Nat) : sumJ g (js ++ [j]) = sumJ g js + g j := by simp [sumJ]

theorem emod_one {x long : Int} (h0 : long ≤ x) (h1 : x < long + long) : x % long = x - long := by
  have e : x = (x - long) + long * 1 := by omega
  have h2 : x % long = ((x - long) + long * 1) % long := by rw [← e]
  rw [h2, Int.add_mul_emod_self_left, Int.emod_eq_of_lt (by omega) (by omega)]

/-- How much a way out of a span is dealt. -/
def gR (E : List Edge) (f : Nat → Int) (j : Nat) : Int := if headE E j = 1 then 0 else roomE E f j
def gRi (E : List Edge) (f : Nat → Int) (i : Int) (j : Nat) : Int := if headE E j = 1 then 0 else if (headE E j : Int) - 2 = i then roomE E f j else 0
def gNi (E : List Edge) (f : Nat → Int) (i : Int) (j : Nat) : Int := if headE E j = 1 then 0 else if (headE E j : Int) - 2 = i ∧ 0 < roomE E f j then 1 else 0

/-- What is dealt. -/
structure Dealt (E : List Edge) (f : Nat → Int) (base long : Int) (js : List Nat) (st : List Tn × Int) (q : Int) : Prop where
  q0 : 0 ≤ q
  c : 0 ≤ st.2 ∧ st.2 < long
  sum : sumJ (gR E f) js = q * long + st.2
  cov : ∀ o, 0 ≤ o → o < long → sumT (cov1 (base + o)) st.1 = q + (if o < st.2 then 1 else 0)
  len : ∀ i, sumT (len1 i) st.1 = sumJ (gRi E f i) js
  inn : ∀ x ∈ st.1, base ≤ x.2.1 ∧ x.2.1 < x.2.2 ∧ x.2.2 ≤ base + long
  few : ∀ i h, sumT (covL1 i h) st.1 ≤ sumJ (gNi E f i) js
  load : ∀ x ∈ st.1, ∃ j ∈ js, headE E j ≠ 1 ∧ 0 < roomE E f j ∧ x.1 = (headE E j : Int) - 2

theorem Dealt.start (E : List Edge) (f : Nat → Int) (base long : Int) (hl : 0 < long) : Dealt E f base long [] ([], 0) 0 :=
  ⟨Int.le_refl _, ⟨Int.le_refl _, hl⟩, by simp [sumJ], fun o h0 h1 => by rw [if_neg (by dsimp only; omega)]; rfl, fun i => rfl, fun x h => (by cases h), fun i h => Int.le_refl _, fun x h => (by cases h)⟩

theorem Dealt.step {E : List Edge} {f : Nat → Int} {base long : Int} {js : List Nat} {st : List Tn × Int} {q : Int} (h : Dealt E f base long js st q) {j : Nat} (hr0 : 0 ≤ roomE E f j) (hr1 : headE E j ≠ 1 → roomE E f j ≤ long) :
    ∃ q', Dealt E f base long (js ++ [j]) (dealS E f base long st j) q' := by
  obtain ⟨J, c⟩ := st
  obtain ⟨hq, ⟨hc0, hc1⟩, hsum, hcov, hlen, hinn, hfew, hload⟩ := h
  dsimp only at hc0 hc1 hsum hcov hlen hinn hfew hload
  have hload' : ∀ x ∈ J, ∃ k ∈ js ++ [j], headE E k ≠ 1 ∧ 0 < roomE E f k ∧ x.1 = (headE E k : Int) - 2 := fun x hx => by
    obtain ⟨k, hk, r⟩ := hload x hx
    exact ⟨k, by simp [hk], r⟩
  unfold dealS
  by_cases hskip : headE E j = 1 ∨ roomE E f j = 0
  · rw [if_pos hskip]
    have e1 : gR E f j = 0 := by unfold gR; split <;> omega
    have e2 : ∀ i, gRi E f i j = 0 := fun i => by unfold gRi; (repeat' split) <;> omega
    have e3 : ∀ i, gNi E f i j = 0 := fun i => by unfold gNi; (repeat' split) <;> omega
    exact ⟨q, hq, ⟨hc0, hc1⟩, by rw [sumJ_snoc, e1, hsum]; dsimp only; omega, hcov, fun i => by rw [sumJ_snoc, e2, ← hlen]; dsimp only; omega, hinn, fun i h => by rw [sumJ_snoc, e3]; have := hfew i h; dsimp only; omega, hload'⟩
  · rw [if_neg hskip]
    have hh : headE E j ≠ 1 := fun e => hskip (Or.inl e)
    have hrz : roomE E f j ≠ 0 := fun e => hskip (Or.inr e)
    have hr2 := hr1 hh
    have hrp : 0 < roomE E f j := by omega
    obtain ⟨r, hr⟩ : ∃ r, r = roomE E f j := ⟨_, rfl⟩
    obtain ⟨a, ha⟩ : ∃ a, a = (headE E j : Int) - 2 := ⟨_, rfl⟩
    have e1 : gR E f j = r := by unfold gR; rw [if_neg hh, hr]
    have e2 : ∀ i, gRi E f i j = if a = i then r else 0 := fun i => by unfold gRi; rw [if_neg hh, ← ha, ← hr]
    have e3 : ∀ i, gNi E f i j = if a = i then 1 else 0 := fun i => by
      unfold gNi
      rw [if_neg hh, ← ha, ← hr]
      by_cases hi : a = i
      · rw [if_pos ⟨hi, by omega⟩, if_pos hi]
      · rw [if_neg (fun h => hi h.1), if_neg hi]
    have hnew : ∃ k ∈ js ++ [j], headE E k ≠ 1 ∧ 0 < roomE E f k ∧ a = (headE E k : Int) - 2 := ⟨j, by simp, hh, hrp, ha⟩
    dsimp only
    rw [← hr] at hr2 hrp hr0 ⊢
    rw [← ha]
    clear hskip hr1
    by_cases hx : long < c + r
    · rw [if_pos hx]
      have hm : (c + r) % long = c + r - long := emod_one (by omega) (by omega)
      refine ⟨q + 1, by omega, ?_, ?_, ?_, ?_, ?_, ?_, ?_⟩
      · dsimp only; rw [hm]; omega
      · dsimp only
        rw [sumJ_snoc, hsum, e1, hm, Int.add_mul, Int.one_mul]; omega
      · intro o h0 h1
        dsimp only
        rw [sumT_append, sumT_append, hcov o h0 h1, hm]
        simp only [sumT_cons, sumT_nil, cov1]
        (repeat' split) <;> omega
      · intro i
        dsimp only
        rw [sumJ_snoc, sumT_append, sumT_append, hlen i, e2]
        simp only [sumT_cons, sumT_nil, len1]
        split <;> omega
      · intro x hx'
        simp only [List.mem_append, List.mem_singleton] at hx'
        rcases hx' with (hx' | rfl) | rfl
        · exact hinn x hx'
        · dsimp only; omega
        · dsimp only; omega
      · intro i h
        dsimp only
        rw [sumJ_snoc, sumT_append, sumT_append, e3]
        have := hfew i h
        simp only [sumT_cons, sumT_nil, covL1]
        by_cases hi : a = i
        · simp only [hi, true_and, if_true]
          (repeat' split) <;> omega
        · simp only [hi, false_and, if_false]; omega
      · intro x hx'
        simp only [List.mem_append, List.mem_singleton] at hx'
        rcases hx' with (hx' | rfl) | rfl
        · exact hload' x hx'
        · exact hnew
        · exact hnew
    · rw [if_neg hx]
      obtain ⟨q', c', hm, hqc, hq', hc', hcv⟩ : ∃ q' c', (c + r) % long = c' ∧ q * long + c + r = q' * long + c' ∧ 0 ≤ q' ∧ (0 ≤ c' ∧ c' < long) ∧ ∀ o, 0 ≤ o → o < long → q' + (if o < c' then (1 : Int) else 0) = q + (if o < c then 1 else 0) + (if c ≤ o ∧ o < c + r then 1 else 0) := by
        by_cases he : c + r = long
        · refine ⟨q + 1, 0, by rw [he, Int.emod_self], by rw [Int.add_mul, Int.one_mul]; omega, by omega, by omega, fun o h0 h1 => ?_⟩
          (repeat' split) <;> omega
        · refine ⟨q, c + r, Int.emod_eq_of_lt (by omega) (by omega), by omega, hq, by omega, fun o h0 h1 => ?_⟩
          (repeat' split) <;> omega
      refine ⟨q', hq', ?_, ?_, ?_, ?_, ?_, ?_, ?_⟩
      · dsimp only; rw [hm]; exact hc'
      · dsimp only
        rw [sumJ_snoc, hsum, e1, hm, hqc]
      · intro o h0 h1
        dsimp only
        rw [sumT_append, hcov o h0 h1, hm, hcv o h0 h1]
        simp only [sumT_cons, sumT_nil, cov1]
        (repeat' split) <;> omega
      · intro i
        dsimp only
        rw [sumJ_snoc, sumT_append, hlen i, e2]
        simp only [sumT_cons, sumT_nil, len1]
        split <;> omega
      · intro x hx'
        simp only [List.mem_append, List.mem_singleton] at hx'
        rcases hx' with hx' | rfl
        · exact hinn x hx'
        · dsimp only; omega
      · intro i h
        dsimp only
        rw [sumJ_snoc, sumT_append, e3]
        have := hfew i h
        simp only [sumT_cons, sumT_nil, covL1]
        (repeat' split) <;> omega
      · intro x hx'
        simp only [List.mem_append, List.mem_singleton] at hx'
        rcases hx' with hx' | rfl
        · exact hload' x hx'
        · exact hnew

theorem dealt {E : List Edge} {f : Nat → Int} {base long : Int} (hl : 0 < long) (js : List Nat) (hr : ∀ j ∈ js, 0 ≤ roomE E f j ∧ (headE E j ≠ 1 → roomE E f j ≤ long)) : ∃ q, Dealt E f base long js (dealL E f base long js) q := by
  have key : ∀ (ks is : List Nat) (st : List Tn × Int) (q : Int), Dealt E f base long is st q → (∀ j ∈ ks, 0 ≤ roomE E f j ∧ (headE E j ≠ 1 → roomE E f j ≤ long)) → ∃ q', Dealt E f base long (is ++ ks) (ks.foldl (dealS E f base long) st) q' := by
    intro ks
    induction ks with
    | nil => intro is st q h _; exact ⟨q, by rw [List.append_nil]; exact h⟩
    | cons k ks ih =>
      intro is st q h hk
      obtain ⟨q', h'⟩ := h.step (hk k (by simp)).1 (hk k (by simp)).2
      obtain ⟨q2, h2⟩ := ih (is ++ [k]) _ q' h' (fun j hj => hk j (by simp [hj]))
      exact ⟨q2, by rw [List.foldl_cons]; rw [List.append_assoc] at h2; exact h2⟩
  have := key js [] ([], 0) 0 (Dealt.start E f base long hl) hr
  rw [List.nil_append] at this
  exact this

end Go.Proofs.Ytkofnhimgegcnaa
