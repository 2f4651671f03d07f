/- The law DryBusy, walked. -/
import Derived.Shelf.SlIterI.Nil
import Derived.Ground.GgzProg
import Derived.Test.YtkofnhimgegcnaaSH
import Derived.Test.YtkofnhimgegcnaaAV
import Derived.Laws.StructEq
import Derived.ChangeKeysEq
namespace Go.Proofs.Ytkofnhimgegcnaa


/-- The spans from an hour on, each as long as it can be, in which what f says is constant and above 0. -/
inductive Spans (f : Int → Int) : Int → List (Int × Int × Int) → Prop
  | nil {lo : Int} (h : ∀ t, lo ≤ t → f t = 0) : Spans f lo []
  | cons {lo a b n : Int} {S : List (Int × Int × Int)} (h1 : lo ≤ a) (h2 : ∀ t, lo ≤ t → t < a → f t = 0) (h3 : a < b) (h4 : 0 < n) (h5 : ∀ t, a ≤ t → t < b → f t = n) (h6 : f b ≠ n) (h7 : Spans f b S) : Spans f lo ((a, b, n) :: S)

theorem Spans.unique {f : Int → Int} {lo : Int} {S : List (Int × Int × Int)} (h : Spans f lo S) : ∀ {T : List (Int × Int × Int)}, Spans f lo T → S = T := by
  induction h with
  | nil h0 =>
    intro T k
    cases k with
    | nil => rfl
    | cons k1 k2 k3 k4 k5 k6 k7 =>
      have := k5 _ (Int.le_refl _) k3
      have := h0 _ k1
      omega
  | @cons lo a b n S h1 h2 h3 h4 h5 h6 h7 ih =>
    intro T k
    cases k with
    | nil k0 =>
      have := h5 _ (Int.le_refl _) h3
      have := k0 _ h1
      omega
    | @cons _ a' b' n' T' k1 k2 k3 k4 k5 k6 k7 =>
      have ea : f a = n := h5 _ (Int.le_refl _) h3
      have ea' : f a' = n' := k5 _ (Int.le_refl _) k3
      have e1 : a = a' := by
        by_cases c : a < a'
        · have := k2 a h1 c
          omega
        · by_cases c' : a' < a
          · have := h2 a' k1 c'
            omega
          · omega
      subst e1
      have e2 : n = n' := by omega
      subst e2
      have e3 : b = b' := by
        by_cases c : b < b'
        · exact absurd (k5 b (by omega) c) h6
        · by_cases c' : b' < b
          · exact absurd (h5 b' (by omega) c') k6
          · omega
      subst e3
      rw [ih k7]

/-- The spans so far, if those from x on are still to come. -/
def Opn (f : Int → Int) (S : List (Int × Int × Int)) (x : Int) : Prop := ∀ R, Spans f x R → Spans f 0 (S ++ R)
theorem Opn.start (f : Int → Int) : Opn f [] 0 := fun _ h => h
theorem Spans.back {f : Int → Int} {x t : Int} {R : List (Int × Int × Int)} (h : Spans f t R) (hx : x ≤ t) (hz : ∀ u, x ≤ u → u < t → f u = 0) : Spans f x R := by
  cases h with
  | nil h0 => exact .nil fun u hu => if c : u < t then hz u hu c else h0 u (by omega)
  | cons h1 h2 h3 h4 h5 h6 h7 => exact .cons (by omega) (fun u hu hu2 => if c : u < t then hz u hu c else h2 u (by omega) hu2) h3 h4 h5 h6 h7
theorem Opn.skip {f : Int → Int} {S : List (Int × Int × Int)} {x t : Int} (h : Opn f S x) (hx : x ≤ t) (hz : ∀ u, x ≤ u → u < t → f u = 0) : Opn f S t := fun R hR => h R (hR.back hx hz)
theorem Opn.add {f : Int → Int} {S : List (Int × Int × Int)} {x t n : Int} (h : Opn f S x) (hx : x < t) (hn : 0 < n) (hz : ∀ u, x ≤ u → u < t → f u = n) (ht : f t ≠ n) : Opn f (S ++ [(x, t, n)]) t := fun R hR => by
  rw [List.append_assoc]
  exact h _ (.cons (Int.le_refl _) (fun u h1 h2 => by omega) hx hn hz ht hR)
theorem Opn.done {f : Int → Int} {S : List (Int × Int × Int)} {x : Int} (h : Opn f S x) (hz : ∀ u, x ≤ u → f u = 0) : Spans f 0 S := by
  have := h [] (.nil hz)
  rwa [List.append_nil] at this

/-- The numbers of loads, hour by hour; what changes in an hour. -/
def cntS (L : List (Int × Int)) (t : Int) : Int := (L.map fun x => if x.1 ≤ t ∧ t < x.2 then (1 : Int) else 0).sum
def chgS (L : List (Int × Int)) (t : Int) : Int := (L.map fun x => (if x.1 = t then (1 : Int) else 0) - (if x.2 = t then (1 : Int) else 0)).sum
theorem cntS_bd (L : List (Int × Int)) (t : Int) : 0 ≤ cntS L t ∧ cntS L t ≤ L.length := by
  induction L with
  | nil => simp [cntS]
  | cons x L ih =>
    unfold cntS at ih ⊢
    simp only [List.map_cons, List.sum_cons, List.length_cons]
    split <;> omega
theorem cntS_step {L : List (Int × Int)} (h : ∀ x ∈ L, x.1 < x.2) (t : Int) : cntS L t = cntS L (t - 1) + chgS L t := by
  induction L with
  | nil => simp [cntS, chgS]
  | cons x L ih =>
    have h1 := ih fun y hy => h y (by simp [hy])
    have h2 := h x (by simp)
    unfold cntS chgS at h1 ⊢
    simp only [List.map_cons, List.sum_cons]
    have : (if x.1 ≤ t ∧ t < x.2 then (1 : Int) else 0) = (if x.1 ≤ t - 1 ∧ t - 1 < x.2 then (1 : Int) else 0) + ((if x.1 = t then (1 : Int) else 0) - (if x.2 = t then (1 : Int) else 0)) := by
      repeat' split
      all_goals omega
    omega
theorem chgS_none {L : List (Int × Int)} {t : Int} (h : ∀ x ∈ L, x.1 ≠ t ∧ x.2 ≠ t) : chgS L t = 0 := by
  induction L with
  | nil => rfl
  | cons x L ih =>
    have h1 := ih fun y hy => h y (by simp [hy])
    have h2 := h x (by simp)
    unfold chgS at h1 ⊢
    simp only [List.map_cons, List.sum_cons]
    rw [if_neg h2.1, if_neg h2.2]
    omega
theorem cntS_zero {L : List (Int × Int)} {t : Int} (h : ∀ x ∈ L, t < x.1 ∨ x.2 ≤ t) : cntS L t = 0 := by
  induction L with
  | nil => rfl
  | cons x L ih =>
    have h1 := ih fun y hy => h y (by simp [hy])
    have h2 := h x (by simp)
    unfold cntS at h1 ⊢
    simp only [List.map_cons, List.sum_cons]
    rw [if_neg (by omega)]
    omega
theorem cntS_const {L : List (Int × Int)} (h : ∀ x ∈ L, x.1 < x.2) {a : Int} : ∀ (n : Nat), (∀ u, a < u → u ≤ a + n → chgS L u = 0) → cntS L (a + n) = cntS L a
  | 0, _ => by simp
  | n + 1, hz => by
    have h1 := cntS_const h (a := a) n fun u h1 h2 => hz u h1 (by omega)
    have h2 := cntS_step h (a + (n + 1 : Nat))
    have h3 := hz (a + (n + 1 : Nat)) (by omega) (by omega)
    rw [h3, show a + ((n + 1 : Nat) : Int) - 1 = a + n by omega, h1] at h2
    omega
theorem cntS_gap {L : List (Int × Int)} (h : ∀ x ∈ L, x.1 < x.2) {a b : Int} (hab : a ≤ b) (hz : ∀ u, a < u → u ≤ b → chgS L u = 0) : cntS L b = cntS L a := by
  have := cntS_const h (a := a) (b - a).toNat fun u h1 h2 => hz u h1 (by omega)
  rwa [show a + ((b - a).toNat : Int) = b by omega] at this
theorem cntS_same {L : List (Int × Int)} {t u : Int} (h : ∀ x ∈ L, (x.1 ≤ t ∧ t < x.2) ↔ (x.1 ≤ u ∧ u < x.2)) : cntS L t = cntS L u := by
  induction L with
  | nil => rfl
  | cons x L ih =>
    have h1 := ih fun y hy => h y (by simp [hy])
    have h2 := h x (by simp)
    unfold cntS at h1 ⊢
    simp only [List.map_cons, List.sum_cons]
    rw [h1]
    by_cases c : x.1 ≤ t ∧ t < x.2
    · rw [if_pos c, if_pos (h2.1 c)]
    · rw [if_neg c, if_neg (fun d => c (h2.2 d))]

/-- What holds on the way through the times at which something may change. -/
structure Way (L : List (Int × Int)) (T : List Int) (k : Nat) (S : List (Int × Int × Int)) (a n : Int) : Prop where
  op : Opn (cntS L) S a
  on : ∀ u, a ≤ u → (∀ x ∈ T.drop k, u < x) → cntS L u = n
  at_ : ∀ x, T[k]? = some x → cntS L (x - 1) = n ∧ a ≤ x ∧ (a < x ∨ n = 0)
  lo : 0 ≤ a ∧ 0 ≤ n ∧ n ≤ L.length
  len : S.length ≤ k

theorem up_drop {T : List Int} (hT : T.Pairwise (· < ·)) {k : Nat} {t : Int} (hk : T[k]? = some t) : (∀ x ∈ T.drop (k + 1), t < x) ∧ T.drop k = t :: T.drop (k + 1) := by
  obtain ⟨h1, h2⟩ := List.getElem?_eq_some_iff.1 hk
  have e : T.drop k = t :: T.drop (k + 1) := by rw [List.drop_eq_getElem_cons h1, h2]
  have hp : (T.drop k).Pairwise (· < ·) := hT.drop
  rw [e, List.pairwise_cons] at hp
  exact ⟨hp.1, e⟩

theorem Way.start {L : List (Int × Int)} {T : List Int} (hT : T.Pairwise (· < ·)) (hL : ∀ x ∈ L, 0 ≤ x.1 ∧ x.1 < x.2) (hm : ∀ t, (∃ x ∈ L, x.1 = t ∨ x.2 = t) → t ∈ T) (hn : ∀ t ∈ T, 0 ≤ t) : Way L T 0 [] 0 0 := by
  have hz : ∀ u, u < 0 → cntS L u = 0 := fun u hu => cntS_zero fun x hx => .inl (by have := hL x hx; omega)
  have hc : ∀ t, t ∉ T → chgS L t = 0 := fun t ht => chgS_none fun x hx => ⟨fun e => ht (hm t ⟨x, hx, .inl e⟩), fun e => ht (hm t ⟨x, hx, .inr e⟩)⟩
  have hL2 : ∀ x ∈ L, x.1 < x.2 := fun x hx => (hL x hx).2
  refine ⟨.start _, fun u hu hx => ?_, fun x hx => ?_, by omega, by simp⟩
  · have := cntS_gap hL2 (a := -1) (b := u) (by omega) fun v h1 h2 => hc v fun hv => by have := hx v (by simpa using hv); omega
    rw [this, hz _ (by omega)]
  · have hx0 := hn x (List.mem_of_getElem? hx)
    refine ⟨?_, hx0, .inr rfl⟩
    obtain ⟨h1, h2⟩ := up_drop hT hx
    have := cntS_gap hL2 (a := -1) (b := x - 1) (by omega) fun v h3 h4 => hc v fun hv => by
      have hv2 : v ∈ T.drop 0 := by simpa using hv
      rw [h2] at hv2
      rcases List.mem_cons.1 hv2 with e | e
      · omega
      · have := h1 v e; omega
    rw [this, hz _ (by omega)]

theorem Way.next {L : List (Int × Int)} {T : List Int} (hT : T.Pairwise (· < ·)) (hL : ∀ x ∈ L, x.1 < x.2) (hm : ∀ t, (∃ x ∈ L, x.1 = t ∨ x.2 = t) → t ∈ T) {k : Nat} {S : List (Int × Int × Int)} {a n t : Int} (h : Way L T k S a n) (ht : T[k]? = some t) :
    (chgS L t = 0 → Way L T (k + 1) S a n) ∧ (chgS L t ≠ 0 → n = 0 → Way L T (k + 1) S t (n + chgS L t)) ∧ (chgS L t ≠ 0 → 0 < n → Way L T (k + 1) (S ++ [(a, t, n)]) t (n + chgS L t)) := by
  obtain ⟨hd, ed⟩ := up_drop hT ht
  obtain ⟨i1, i2, i3⟩ := h.at_ t ht
  have hc : ∀ t, t ∉ T → chgS L t = 0 := fun t ht => chgS_none fun x hx => ⟨fun e => ht (hm t ⟨x, hx, .inl e⟩), fun e => ht (hm t ⟨x, hx, .inr e⟩)⟩
  have ft : cntS L t = n + chgS L t := by rw [cntS_step hL t, i1]
  have bd := cntS_bd L t
  have hle : ∀ v ∈ T, v ≤ t ∨ v ∈ T.drop (k + 1) := fun v hv => by
    obtain ⟨j, hj⟩ := List.getElem?_of_mem hv
    obtain ⟨j1, j2⟩ := List.getElem?_eq_some_iff.1 hj
    obtain ⟨k1, k2⟩ := List.getElem?_eq_some_iff.1 ht
    by_cases c : j ≤ k
    · left
      by_cases c2 : j = k
      · subst c2; omega
      · have := List.pairwise_iff_getElem.1 hT j k j1 k1 (by omega)
        omega
    · right
      rw [List.mem_iff_getElem?]
      exact ⟨j - (k + 1), by rw [List.getElem?_drop, show k + 1 + (j - (k + 1)) = j by omega]; exact hj⟩
  have gap : ∀ u, t ≤ u → (∀ x ∈ T.drop (k + 1), u < x) → cntS L u = n + chgS L t := fun u hu hx => by
    rw [← ft]
    exact cntS_gap hL hu fun v h1 h2 => hc v fun hv => by
      rcases hle v hv with c | c
      · omega
      · have := hx v c; omega
  have on2 : ∀ u, a ≤ u → u < t → cntS L u = n := fun u h1 h2 => h.on u h1 fun x hx => by
    rw [ed] at hx
    rcases List.mem_cons.1 hx with e | e
    · omega
    · have := hd x e; omega
  have at2 : ∀ x, T[k + 1]? = some x → t < x ∧ cntS L (x - 1) = n + chgS L t := fun x hx => by
    obtain ⟨hd2, ed2⟩ := up_drop hT hx
    have htx : t < x := hd x (by rw [ed2]; simp)
    exact ⟨htx, gap (x - 1) (by omega) fun y hy => by
      rw [ed2] at hy
      rcases List.mem_cons.1 hy with e | e
      · omega
      · have := hd2 y e; omega⟩
  have len := h.len
  have lo := h.lo
  refine ⟨fun c => ⟨h.op, fun u h1 h2 => ?_, fun x hx => ?_, h.lo, by omega⟩, fun c c0 => ⟨?_, fun u h1 h2 => gap u h1 h2, fun x hx => ?_, by omega, by omega⟩, fun c c0 => ⟨?_, fun u h1 h2 => gap u h1 h2, fun x hx => ?_, by omega, by simp; omega⟩⟩
  · by_cases c2 : u < t
    · exact on2 u h1 c2
    · rw [gap u (by omega) h2, c]; omega
  · obtain ⟨h1, h2⟩ := at2 x hx
    exact ⟨by omega, by omega, .inl (by omega)⟩
  · exact h.op.skip i2 fun u h1 h2 => by rw [on2 u h1 h2, c0]
  · obtain ⟨h1, h2⟩ := at2 x hx
    exact ⟨h2, by omega, .inl h1⟩
  · exact h.op.add (by omega) c0 on2 (by omega)
  · obtain ⟨h1, h2⟩ := at2 x hx
    exact ⟨h2, by omega, .inl h1⟩

theorem Way.done {L : List (Int × Int)} {T : List Int} {k : Nat} {S : List (Int × Int × Int)} {a n : Int} (h : Way L T k S a n) (hk : T.length ≤ k) (hb : ∀ x ∈ L, x.2 ≤ 1000000000) : Spans (cntS L) 0 S := by
  have h0 : ∀ u, a ≤ u → cntS L u = n := fun u hu => h.on u hu fun x hx => by rw [List.drop_of_length_le hk] at hx; simp at hx
  have hn : n = 0 := by
    rw [← h0 (max a 1000000000) (by omega)]
    exact cntS_zero fun x hx => .inr (by have := hb x hx; omega)
  exact h.op.done fun u hu => by rw [h0 u hu, hn]

/-- The next hour at which something may change. -/
def endS (hour : Int) (e : Int) (x : Int × Int) : Int :=
  let e1 := if x.1 ≤ hour ∧ hour < x.2 then min e x.2 else e
  if hour < x.1 then min e1 x.1 else e1
def endsS (hour : Int) (L : List (Int × Int)) : Int := L.foldl (endS hour) 1000000
theorem endS_fold {hour : Int} : ∀ {L : List (Int × Int)} {e : Int}, hour < e → hour < L.foldl (endS hour) e ∧ L.foldl (endS hour) e ≤ e ∧ ∀ x ∈ L, (x.1 ≤ hour ∧ hour < x.2 → L.foldl (endS hour) e ≤ x.2) ∧ (hour < x.1 → L.foldl (endS hour) e ≤ x.1)
  | [], e, h => by simp [h]
  | y :: L, e, h => by
    have h1 : hour < endS hour e y ∧ endS hour e y ≤ e ∧ (y.1 ≤ hour ∧ hour < y.2 → endS hour e y ≤ y.2) ∧ (hour < y.1 → endS hour e y ≤ y.1) := by
      unfold endS
      dsimp only
      repeat' split
      all_goals (refine ⟨?_, ?_, fun _ => ?_, fun _ => ?_⟩ <;> omega)
    obtain ⟨i1, i2, i3⟩ := endS_fold (L := L) h1.1
    rw [List.foldl_cons]
    refine ⟨i1, by omega, fun x hx => ?_⟩
    rcases List.mem_cons.1 hx with e | e
    · subst e
      exact ⟨fun c => by have := h1.2.2.1 c; omega, fun c => by have := h1.2.2.2 c; omega⟩
    · exact i3 x e
theorem endsS_spec {hour : Int} {L : List (Int × Int)} (h : hour < 1000000) : hour < endsS hour L ∧ endsS hour L ≤ 1000000 ∧ ∀ u, hour ≤ u → u < endsS hour L → cntS L u = cntS L hour := by
  obtain ⟨h1, h2, h3⟩ := endS_fold (L := L) h
  refine ⟨h1, h2, fun u hu1 hu2 => cntS_same fun x hx => ?_⟩
  obtain ⟨a, b⟩ := h3 x hx
  unfold endsS at hu2
  constructor
  · rintro ⟨c1, c2⟩
    have : ¬ hour < x.1 := fun c => by have := b c; omega
    exact ⟨by omega, by omega⟩
  · rintro ⟨c1, c2⟩
    have := a ⟨c1, c2⟩
    exact ⟨by omega, by omega⟩

/-- What holds on the way hour by hour: the last span may go on. -/
def Join (f : Int → Int) (S : List (Int × Int × Int)) (t : Int) : Prop :=
  (Opn f S t ∧ ∀ s, S.getLast? = some s → s.2.1 < t) ∨ ∃ S0 a n, S = S0 ++ [(a, t, n)] ∧ Opn f S0 a ∧ a < t ∧ 0 < n ∧ ∀ u, a ≤ u → u < t → f u = n
theorem Join.start (f : Int → Int) : Join f [] 0 := .inl ⟨.start f, fun s h => by simp at h⟩
theorem Join.zero {f : Int → Int} {S : List (Int × Int × Int)} {t e : Int} (h : Join f S t) (he : t < e) (hz : ∀ u, t ≤ u → u < e → f u = 0) : Join f S e := by
  rcases h with ⟨h1, h2⟩ | ⟨S0, a, n, rfl, h1, h2, h3, h4⟩
  · exact .inl ⟨h1.skip (by omega) hz, fun s hs => by have := h2 s hs; omega⟩
  · refine .inl ⟨(h1.add h2 h3 h4 ?_).skip (by omega) hz, fun s hs => ?_⟩
    · have := hz t (by omega) he; omega
    · rw [List.getLast?_append] at hs
      simp at hs
      subst hs
      exact he
theorem Join.grow {f : Int → Int} {S0 : List (Int × Int × Int)} {t e a n : Int} (h : Join f (S0 ++ [(a, t, n)]) t) (he : t < e) (hz : ∀ u, t ≤ u → u < e → f u = n) : Join f (S0 ++ [(a, e, n)]) e := by
  rcases h with ⟨_, h2⟩ | ⟨S1, a1, n1, e1, h1, h2, h3, h4⟩
  · have := h2 (a, t, n) (by simp)
    simp at this
  · obtain ⟨e2, e3⟩ := List.append_inj' e1 rfl
    simp only [List.cons.injEq, Prod.mk.injEq, and_true, true_and] at e3
    obtain ⟨rfl, rfl⟩ := e3
    subst e2
    exact .inr ⟨S0, a, n, rfl, h1, by omega, h3, fun u c1 c2 => if c : u < t then h4 u c1 c else hz u (by omega) c2⟩
theorem Join.more {f : Int → Int} {S : List (Int × Int × Int)} {t e n : Int} (h : Join f S t) (he : t < e) (hn : 0 < n) (hz : ∀ u, t ≤ u → u < e → f u = n) (hne : ∀ S0 a m, S = S0 ++ [(a, t, m)] → m ≠ n) : Join f (S ++ [(t, e, n)]) e := by
  rcases h with ⟨h1, h2⟩ | ⟨S1, a1, n1, rfl, h1, h2, h3, h4⟩
  · exact .inr ⟨S, t, n, rfl, h1, he, hn, hz⟩
  · refine .inr ⟨_, t, n, rfl, h1.add h2 h3 h4 ?_, he, hn, hz⟩
    have := hne _ _ _ rfl
    have := hz t (by omega) he
    omega
theorem Join.done {f : Int → Int} {S : List (Int × Int × Int)} {t : Int} (h : Join f S t) (hz : ∀ u, t ≤ u → f u = 0) : Spans f 0 S := by
  rcases h with ⟨h1, _⟩ | ⟨S0, a, n, rfl, h1, h2, h3, h4⟩
  · exact h1.done hz
  · exact (h1.add h2 h3 h4 (by have := hz t (by omega); omega)).done hz
end Go.Proofs.Ytkofnhimgegcnaa

namespace Go.Proofs.Ytkofnhimgegcnaa
open Go.Shelf
def keysA_ren : Go.Shelf.Ren := ⟨fun | 7 => 71 | 10 => 90 | n => n, fun | 23 => 117 | 26 => 3 | 3 => 3 | 28 => 120 | 0 => 0 | 27 => 119 | 33 => 110 | 4 => 4 | n => n, fun | n => n⟩
theorem keysA : Go.Proofs.SlLaysZI.n7 Try.prog keysA_ren := {
  mixed := by kernel_rfl
  f7 := ⟨Try.f71.name, by decide, Try.func71.trans (congrArg some (by kernel_rfl))⟩
  f10 := ⟨Try.f90.name, by decide, Try.func90.trans (congrArg some (by kernel_rfl))⟩
  t0 := Try.underlying0
  a0 := Try.isAgg0
  z0 := Try.sizeOf0
  v0 := Try.zeroValue0
  t4 := Try.underlying4
  a4 := Try.isAgg4
  z4 := Try.sizeOf4
  v4 := Try.zeroValue4
  t23 := Try.underlying117
  a23 := Try.isAgg117
  z23 := Try.sizeOf117
  v23 := Try.zeroValue117
  t26 := Try.underlying3
  a26 := Try.isAgg3
  z26 := Try.sizeOf3
  v26 := Try.zeroValue3
  t27 := Try.underlying119
  a27 := Try.isAgg119
  z27 := Try.sizeOf119
  v27 := Try.zeroValue119
  t28 := Try.underlying120
  a28 := Try.isAgg120
  z28 := Try.sizeOf120
  v28 := Try.zeroValue120
  t33 := Try.underlying110
  a33 := Try.isAgg110
  z33 := Try.sizeOf110
  v33 := Try.zeroValue110 }
def sortedA_ren : Go.Shelf.Ren := ⟨fun | 6 => 70 | 8 => 89 | 9 => 69 | 11 => 115 | 13 => 81 | 12 => 88 | 23 => 100 | 24 => 101 | 14 => 106 | 15 => 107 | 16 => 108 | 17 => 109 | 18 => 110 | 19 => 111 | 20 => 112 | 21 => 113 | 22 => 114 | 25 => 123 | 26 => 117 | 27 => 118 | 28 => 124 | 29 => 125 | 30 => 82 | 31 => 128 | n => n, fun | 26 => 3 | 28 => 120 | 24 => 35 | 0 => 0 | 3 => 3 | 37 => 24 | 48 => 146 | 50 => 148 | 4 => 4 | 40 => 139 | 39 => 138 | 45 => 143 | 5 => 5 | 9 => 9 | 51 => 159 | 55 => 132 | 57 => 167 | 58 => 168 | 33 => 110 | n => n, fun | n => n⟩
theorem sortedA : Go.Proofs.SlLaysZI.n6 Try.prog sortedA_ren := {
  mixed := by kernel_rfl
  f6 := ⟨Try.f70.name, by decide, Try.func70.trans (congrArg some (by kernel_rfl))⟩
  f8 := ⟨Try.f89.name, by decide, Try.func89.trans (congrArg some (by kernel_rfl))⟩
  f11 := ⟨Try.f115.name, by decide, Try.func115.trans (congrArg some (by kernel_rfl))⟩
  t0 := Try.underlying0
  a0 := Try.isAgg0
  z0 := Try.sizeOf0
  v0 := Try.zeroValue0
  t24 := Try.underlying35
  a24 := Try.isAgg35
  z24 := Try.sizeOf35
  v24 := Try.zeroValue35
  t26 := Try.underlying3
  a26 := Try.isAgg3
  z26 := Try.sizeOf3
  v26 := Try.zeroValue3
  t28 := Try.underlying120
  a28 := Try.isAgg120
  z28 := Try.sizeOf120
  v28 := Try.zeroValue120
  i26 := by kernel_rfl }

open Go.RowKit Go.Maps Go.Sort in
theorem sortsA (m : Nat) : AnyZI.SortsIn Try.prog sortedA_ren Fence.wide m :=
  ⟨fun blk off cap ss W hH hblk hsz => callsIn_wide.2 (slices_Sort_int blk off cap ss W hH hblk hsz),
   fun p cap W => callsIn_wide.2 (slices_Sort_int_none p cap W)⟩
open Go.RowKit Go.Maps Go.Sort in
theorem keys_any (mb : Option Nat) (w : World) : Calls Try.prog 71 #[.map mb] w fun e w' => e = .returned (.func (.func 90) #[] #[.pointer (some ⟨w.heap.size, 0, none⟩)]) ∧ w' = w.alloc (.cells #[.map mb] 117) :=
  (callsIn_wide (n := 6)).1 (AnyZI.keys_in keysA Fence.wide 6 trivial rfl mb w)
open Go.RowKit Go.Maps Go.Sort in
theorem sorted_any {H : Type} (Bm b nn : Nat) (D0 : DataW H) (R : Value → Option (DataW H × List MemPlace)) (w : World) (hB : Bm < w.heap.size) (hm : w.cell? ⟨Bm, 0, none⟩ = some (.map (some b))) (hown : w.ownsMap Try.prog 3 R b nn D0) (hmax : Maps.size D0 ≤ 100000) :
    Calls Try.prog 70 #[.func (.func 90) #[] #[.pointer (some ⟨Bm, 0, none⟩)]] w fun e w' => ∃ (v : Value) (ss : List Int), e = .returned v ∧ ss.Perm (intKeys D0) ∧
      w'.ownsRow w.heap.size 3 1 v ss.length ((ss.mergeSort (fun x y => decide (x ≤ y))).map (Value.int .i64)) ∧ (v = .slice none 0 0 ↔ ss = []) ∧ Below w.heap.size w w' := by
  have hseq : SeqGives Fence.wide 2 Try.prog 90 #[.pointer (some ⟨Bm, 0, none⟩)] encZ (fun ss => ss.Perm (intKeys D0)) (Maps.size D0) w :=
    AnyZI.keys_gives (ρ := keysA_ren) { keysA with } Fence.wide _ trivial rfl (by omega) Bm b nn D0 w hB hm hown
  have cS := AnyZI.sorted_in sortedA Fence.wide 5 trivial trivial trivial trivial rfl (by omega) (sortsA _) (enters_of Try.func69 (by kernel_rfl) rfl) 90 #[.pointer (some ⟨Bm, 0, none⟩)] trivial (enters_of Try.func90 (by kernel_rfl) rfl) _ _ (by unfold maxLen; omega) (by omega) w hseq
  change CallsIn _ _ Try.prog 70 _ _ _ at cS
  exact callsIn_wide.1 cS
end Go.Proofs.Ytkofnhimgegcnaa

namespace Go.Proofs.Ytkofnhimgegcnaa
open Go Go.RowKit Go.Sort

def twoL (l : List Ld) : List (Int × Int) := l.map fun x => (x.1, x.2.1)
theorem flat3_get : ∀ {S : List (Int × Int × Int)} {k : Nat} {s : Int × Int × Int}, S[k]? = some s → (S.flatMap enc3)[k * 3]? = some (.int .i64 s.1) ∧ (S.flatMap enc3)[k * 3 + 1]? = some (.int .i64 s.2.1) ∧ (S.flatMap enc3)[k * 3 + 2]? = some (.int .i64 s.2.2)
  | [], k, s, h => by simp at h
  | t :: S, 0, s, h => by
    simp at h
    subst h
    simp [enc3]
  | t :: S, k + 1, s, h => by
    have ih := flat3_get (S := S) (k := k) (s := s) (by simpa using h)
    rw [show (k + 1) * 3 = k * 3 + 1 + 1 + 1 by omega, show k * 3 + 1 + 1 + 1 + 1 = (k * 3 + 1) + 1 + 1 + 1 by omega, show k * 3 + 1 + 1 + 1 + 2 = (k * 3 + 2) + 1 + 1 + 1 by omega]
    simpa [enc3] using ih
theorem flat3_last (S : List (Int × Int × Int)) (a b n e : Int) : ((S ++ [(a, b, n)]).flatMap enc3).set (S.length * 3 + 1) (.int .i64 e) = (S ++ [(a, e, n)]).flatMap enc3 := by
  rw [List.flatMap_append, List.flatMap_append, List.set_append_right _ _ (by rw [flat3_len]; omega), flat3_len, show S.length * 3 + 1 - S.length * 3 = 1 by omega]
  simp [enc3]
theorem twoL_take {l : List Ld} {k : Nat} {x : Ld} (h : l[k]? = some x) : (twoL l).take (k + 1) = (twoL l).take k ++ [(x.1, x.2.1)] := by
  obtain ⟨h1, h2⟩ := List.getElem?_eq_some_iff.1 h
  unfold twoL
  rw [List.take_succ_eq_append_getElem (by simpa using h1), List.getElem_map, h2]
theorem cntS_snoc (P : List (Int × Int)) (x : Int × Int) (t : Int) : cntS (P ++ [x]) t = cntS P t + if x.1 ≤ t ∧ t < x.2 then 1 else 0 := by simp [cntS, List.sum_append]
theorem endsS_snoc (P : List (Int × Int)) (x : Int × Int) (t : Int) : endsS t (P ++ [x]) = endS t (endsS t P) x := by simp [endsS, List.foldl_append]
theorem endsS_bd (t : Int) (P : List (Int × Int)) (h : t < 1000000) : t < endsS t P ∧ endsS t P ≤ 1000000 := ⟨(endsS_spec h).1, (endsS_spec h).2.1⟩
theorem endS_in {t e a b : Int} (h1 : a ≤ t) (h2 : t < b) : endS t e (a, b) = min e b := by unfold endS; simp only [h1, h2, and_self, if_true]; rw [if_neg (by omega)]
theorem endS_past {t e a b : Int} (h1 : a ≤ t) (h2 : ¬ t < b) : endS t e (a, b) = e := by unfold endS; simp only [h2, and_false, if_false]; rw [if_neg (by omega)]
theorem endS_later {t e a b : Int} (h1 : ¬ a ≤ t) : endS t e (a, b) = min e a := by unfold endS; simp only [h1, false_and, if_false]; rw [if_pos (by omega)]
theorem info78 : (Try.prog.info? 78).map (fun i => (i.zero, i.size, i.bytes)) = some (some (.agg #[.int .i64 0, .int .i64 0, .int .i64 0]), 3, 24) := by kernel_rfl

def RBusyGot (l : List Ld) (w : World) (e : Ending) (w' : World) : Prop :=
  ∃ (c : Nat) (q : Option Addr) (S : List (Int × Int × Int)), e = .returned (.slice q S.length c) ∧ w'.ownsRow w.heap.size 78 3 (.slice q S.length c) S.length (S.flatMap enc3) ∧ Spans (cntS (twoL l)) 0 S ∧ S.length ≤ 1000000 ∧ Adds w w'

set_option maxRecDepth 100000 in
set_option maxHeartbeats 4000000 in
theorem RBusy_any (p : Option Addr) (cl : Nat) (l : List Ld) (w : World) (hL : LoadsAt w p l) (hok : ∀ x ∈ l, okB x = true) (hn : l.length ≤ 256) :
    Calls Try.prog 37 #[.slice p l.length cl] w (RBusyGot l w) := by
  obtain ⟨i0, hi, hi0, hi1, hi2⟩ := info_parts info78
  have HI := Lib.hid hi
  have HI0 := Lib.hid hi0
  have HI1 := Lib.hid hi1
  have HI2 := Lib.hid hi2
  obtain ⟨n, hnn⟩ : ∃ n, n = l.length := ⟨_, rfl⟩
  rw [← hnn] at hn ⊢
  have HN := Lib.hid hnn
  have HL := Lib.hid hL
  have HOK := Lib.hid hok
  obtain ⟨P, hP⟩ : ∃ P, P = twoL l := ⟨_, rfl⟩
  have HP := Lib.hid hP
  clear hi hi0 hi1 hi2 hL hnn hok hP
  go_enter Try.func37, Try.ntmps37
  go_upto_region 3 with fail
  go_loopw [3, 4] (fun v3 v4 wr => ∃ (t : Int) (S : List (Int × Int × Int)), 0 ≤ t ∧ t ≤ 1000000 ∧ v4 = .int .i64 t ∧ Hid (wr.ownsRow w.heap.size 78 3 v3 S.length (S.flatMap enc3)) ∧ Hid (Join (cntS P) S t) ∧ (S.length : Int) ≤ t ∧ Hid (Adds w wr)) (fun _ v4 _ => (1000000 - intOf v4).toNat)
  case atStart => exact ⟨0, [], by omega, by omega, rfl, Lib.hid (World.ownsRow_nil _ _ _ _), Lib.hid (Join.start _), by simp, Lib.hid (Adds.refl _)⟩
  case round =>
    obtain ⟨t, S, ht0, ht1, rfl, HO, HJ, hSl, HAD⟩ := hrel
    by_cases hlt : t < 1000000
    · have hLW := Lib.hid (HL.out.later HAD.out)
      go_upto_region 6 with fail
      go_loop [5, 6, 7] (fun v5 v6 v7 => ∃ k : Nat, k ≤ n ∧ v7 = .int .i64 k ∧ v6 = .int .i64 (cntS (P.take k) t) ∧ v5 = .int .i64 (endsS t (P.take k))) (fun _ _ v7 => n - (intOf v7).toNat)
      case atStart => exact ⟨0, by omega, rfl, rfl, rfl⟩
      case round =>
        obtain ⟨k, hk, rfl, rfl, rfl⟩ := hrel
        have hb := cntS_bd (P.take k) t
        have hkl : (P.take k).length ≤ 256 := by rw [List.length_take]; omega
        have he := endsS_bd t (P.take k) hlt
        by_cases hkn : k < n
        · have hkn2 : (k : Int) < (n : Int) := by omega
          obtain ⟨⟨x0, x1, x2, x3⟩, hx⟩ : ∃ x, l[k]? = some x := ⟨_, List.getElem?_eq_getElem (by have := HN.out; omega)⟩
          have hox := okB_iff.1 (HOK.out _ (List.mem_of_getElem? hx))
          obtain ⟨g, off, rfl, d0, d1, d2, d3⟩ := hLW.out k _ hx
          have HT : Hid (P.take (k + 1) = P.take k ++ [(x0, x1)]) := Lib.hid (by rw [HP.out]; exact twoL_take hx)
          dsimp only at d0 d1 d2 d3 hox
          obtain ⟨o1, o2, o3, _⟩ := hox
          have HC : Hid (cntS (P.take (k + 1)) t = cntS (P.take k) t + if x0 ≤ t ∧ t < x1 then 1 else 0) := Lib.hid (by rw [HT.out, cntS_snoc])
          have HE : Hid (endsS t (P.take (k + 1)) = endS t (endsS t (P.take k)) (x0, x1)) := Lib.hid (by rw [HT.out, endsS_snoc])
          generalize cntS (P.take k) t = c at *
          generalize endsS t (P.take k) = e at *
          have hcb2 : 0 ≤ c ∧ c ≤ 256 := by omega
          obtain ⟨hcb3, hcb4⟩ := hcb2
          clear hx HT d2 d3 hkl hb
          by_cases cA : x0 ≤ t
          · by_cases cB : t < x1
            · obtain ⟨u, hu⟩ : ∃ u, min e x1 = u := ⟨_, rfl⟩
              have HU : Hid (endS t e (x0, x1) = u) := Lib.hid ((endS_in cA cB).trans hu)
              have HC2 : Hid (cntS (P.take (k + 1)) t = c + 1) := Lib.hid (by rw [HC.out, if_pos ⟨cA, cB⟩])
              clear HC
              go_wp2
              go_round
              case rel => exact ⟨k + 1, by omega, by go_num, by rw [HC2.out], by rw [HE.out, HU.out]⟩
              case measure => simp [intOf]; omega
            · have HU : Hid (endS t e (x0, x1) = e) := Lib.hid (endS_past cA cB)
              have HC2 : Hid (cntS (P.take (k + 1)) t = c) := Lib.hid (by rw [HC.out, if_neg (by omega), Int.add_zero])
              clear HC
              go_wp2
              go_round
              case rel => exact ⟨k + 1, by omega, by go_num, by rw [HC2.out], by rw [HE.out, HU.out]⟩
              case measure => simp [intOf]; omega
          · obtain ⟨u, hu⟩ : ∃ u, min e x0 = u := ⟨_, rfl⟩
            have HU : Hid (endS t e (x0, x1) = u) := Lib.hid ((endS_later cA).trans hu)
            have HC2 : Hid (cntS (P.take (k + 1)) t = c) := Lib.hid (by rw [HC.out, if_neg (by omega), Int.add_zero])
            clear HC
            go_wp2
            go_round
            case rel => exact ⟨k + 1, by omega, by go_num, by rw [HC2.out], by rw [HE.out, HU.out]⟩
            case measure => simp [intOf]; omega
        · have hkn2 : decide ((k : Int) < (n : Int)) = false := decide_eq_false (by omega)
          have e1 : P.take k = P := List.take_of_length_le (by rw [HP.out]; unfold twoL; rw [List.length_map]; have := HN.out; omega)
          rw [e1] at hb he ⊢
          have HS := Lib.hid ((endsS_spec (L := P) hlt).2.2)
          obtain ⟨c, hc⟩ : ∃ c, c = cntS P t := ⟨_, rfl⟩
          obtain ⟨e, hee⟩ : ∃ e, e = endsS t P := ⟨_, rfl⟩
          rw [← hc] at hb HS ⊢
          rw [← hee] at he HS ⊢
          clear e1 hc hee hkl
          obtain ⟨p0, c0, rfl⟩ := own_slice HO.out
          obtain ⟨m, hm⟩ : ∃ m, m = S.length := ⟨_, rfl⟩
          rw [← hm] at HO hSl ⊢
          have HM := Lib.hid hm
          clear hm
          have hws := HAD.out.size
          have happ : ∀ (hcp : 0 < c) (hne : ∀ S0 a x, S = S0 ++ [(a, t, x)] → x ≠ c), Join (cntS P) (S ++ [(t, e, c)]) e := fun hcp hne => HJ.out.more he.1 hcp HS.out hne
          have HAPP := Lib.hid happ
          clear happ
          by_cases hc0 : c = 0
          · subst hc0
            go_wp2
            exact ⟨⟨e, S, by omega, by omega, rfl, by rw [← HM.out]; exact HO, Lib.hid (HJ.out.zero (by omega) HS.out), by have := HM.out; omega, HAD⟩, by simp [intOf]; omega⟩
          · have hcp : 0 < c := by omega
            have hcb : (c == 0) = false := by simpa using hc0
            by_cases hm0 : m = 0
            · have hS : S = [] := List.length_eq_zero_iff.1 (by have := HM.out; omega)
              subst hm0
              go_wp2_with (at_builtin; ((refine wpList_append_lies _ rfl _ _ 74 rfl w.heap.size 78 i0 (.agg #[.int .i64 0, .int .i64 0, .int .i64 0]) 3 24 Try.underlying74 HI.out HI0.out HI1.out HI2.out rfl (by decide) (.slice p0 0 c0) 0 _ rfl (HO.out.alloc _) ⟨wr.heap.size, 0, none⟩ 1 1 [.int .i64 t, .int .i64 e, .int .i64 c] rfl rfl (World.news_of_block (Box.new wr _ 78)) (by simp [Value.oneCell']) (by omega) (by unfold maxLen; omega) (by omega) (by simp; omega) (wr.heap.size + 1) (by simp) ?_); intro g6 c6 w6 ho6 hg6 hl6 hs6; have HO6 := Lib.hid ho6; have HG6 := Lib.hid hg6; clear ho6 hg6 hl6))
              refine ⟨⟨e, S ++ [(t, e, c)], by omega, by omega, rfl, Lib.hid ?_, Lib.hid (HAPP.out hcp (fun S0 a x h => by rw [hS] at h; simp at h)), by rw [List.length_append, ← HM.out]; simp; omega, Lib.hid (Below.grown (HAD.out.alloc _) HG6.out (by simp; omega) (fun j hj => (own_block HO.out hj).1))⟩, by simp [intOf]; omega⟩
              have h6 := HO6.out
              rw [List.flatMap_append, List.length_append, ← HM.out]
              exact h6
            · obtain ⟨m0, hm1⟩ : ∃ m0, m = m0 + 1 := ⟨m - 1, by omega⟩
              obtain ⟨S0, ⟨a, b, x⟩, hS⟩ : ∃ S0 y, S = S0 ++ [y] := by
                rcases List.eq_nil_or_concat S with h | ⟨S0, y, h⟩
                · rw [h] at HM; have := HM.out; simp at this; omega
                · exact ⟨S0, y, by rw [h, List.concat_eq_append]⟩
              have hS0 : S0.length = m0 := by have := HM.out; rw [hS, List.length_append] at this; simp at this; omega
              have hget : S[m0]? = some (a, b, x) := by rw [hS, ← hS0]; simp
              obtain ⟨g, c', eg, hbg⟩ := own_some HO.out (by omega)
              injection eg with eg1 eg2 eg3
              subst eg1
              clear eg2 eg3
              obtain ⟨f0, f1, f2⟩ := flat3_get hget
              obtain ⟨d1, q1⟩ := own_cell HO.out f1
              obtain ⟨d2, q2⟩ := own_cell HO.out f2
              dsimp only at d1 d2
              have hmm : (m : Int) - 1 = (m0 : Int) := by omega
              have hmlt : m0 < m := by omega
              have hmp : decide (0 < (m : Int)) = true := decide_eq_true (by omega)
              have HS1 := Lib.hid hS
              have HS0 := Lib.hid hS0
              have HM1 := Lib.hid hm1
              clear hS hS0 hget f0 f1 f2 hm1 hm0 hc0
              by_cases cb : b = t
              · by_cases cx : x = c
                · subst cb
                  subst cx
                  go_wp2
                  refine ⟨⟨e, S0 ++ [(a, e, x)], by omega, by omega, rfl, Lib.hid ?_, Lib.hid (Join.grow (by have := HJ.out; rw [HS1.out] at this; exact this) he.1 HS.out), by rw [List.length_append, HS0.out]; simp; omega, Lib.hid (HAD.out.set (p := ⟨g, _, none⟩) hbg _)⟩, by simp [intOf]; omega⟩
                  have h6 := own_put (j := m0 * 3 + 1) HO.out (.int .i64 e)
                  rw [HS1.out, ← HS0.out, flat3_last, HS0.out] at h6
                  rw [List.length_append, HS0.out, show m0 + [(a, e, x)].length = m by rw [HM1.out]; rfl]
                  exact h6
                · have hcx : (x == c) = false := by simpa using cx
                  have hbt : (b == t) = true := by simpa using cb
                  go_wp2_with (at_builtin; ((refine wpList_append_lies _ rfl _ _ 74 rfl w.heap.size 78 i0 (.agg #[.int .i64 0, .int .i64 0, .int .i64 0]) 3 24 Try.underlying74 HI.out HI0.out HI1.out HI2.out rfl (by decide) (.slice (some ⟨g, 0, none⟩) m c0) m _ rfl (HO.out.alloc _) ⟨wr.heap.size, 0, none⟩ 1 1 [.int .i64 t, .int .i64 e, .int .i64 c] rfl rfl (World.news_of_block (Box.new wr _ 78)) (by simp [Value.oneCell']) (by omega) (by unfold maxLen; omega) (by omega) (by simp; omega) (wr.heap.size + 1) (by simp) ?_); intro g6 c6 w6 ho6 hg6 hl6 hs6; have HO6 := Lib.hid ho6; have HG6 := Lib.hid hg6; clear ho6 hg6 hl6))
                  refine ⟨⟨e, S ++ [(t, e, c)], by omega, by omega, rfl, Lib.hid ?_, Lib.hid (HAPP.out hcp (fun S1 a1 x1 h => by
                    rw [HS1.out] at h
                    have := (List.append_inj' h rfl).2
                    simp at this
                    omega)), by rw [List.length_append, ← HM.out]; simp; omega, Lib.hid (Below.grown (HAD.out.alloc _) HG6.out (by simp; omega) (fun j hj => (own_block HO.out hj).1))⟩, by simp [intOf]; omega⟩
                  have h6 := HO6.out
                  rw [List.flatMap_append, List.length_append, ← HM.out]
                  exact h6
              · have hbt : (b == t) = false := by simpa using cb
                go_wp2_with (at_builtin; ((refine wpList_append_lies _ rfl _ _ 74 rfl w.heap.size 78 i0 (.agg #[.int .i64 0, .int .i64 0, .int .i64 0]) 3 24 Try.underlying74 HI.out HI0.out HI1.out HI2.out rfl (by decide) (.slice (some ⟨g, 0, none⟩) m c0) m _ rfl (HO.out.alloc _) ⟨wr.heap.size, 0, none⟩ 1 1 [.int .i64 t, .int .i64 e, .int .i64 c] rfl rfl (World.news_of_block (Box.new wr _ 78)) (by simp [Value.oneCell']) (by omega) (by unfold maxLen; omega) (by omega) (by simp; omega) (wr.heap.size + 1) (by simp) ?_); intro g6 c6 w6 ho6 hg6 hl6 hs6; have HO6 := Lib.hid ho6; have HG6 := Lib.hid hg6; clear ho6 hg6 hl6))
                refine ⟨⟨e, S ++ [(t, e, c)], by omega, by omega, rfl, Lib.hid ?_, Lib.hid (HAPP.out hcp (fun S1 a1 x1 h => by
                    rw [HS1.out] at h
                    have := (List.append_inj' h rfl).2
                    simp at this
                    omega)), by rw [List.length_append, ← HM.out]; simp; omega, Lib.hid (Below.grown (HAD.out.alloc _) HG6.out (by simp; omega) (fun j hj => (own_block HO.out hj).1))⟩, by simp [intOf]; omega⟩
                have h6 := HO6.out
                rw [List.flatMap_append, List.length_append, ← HM.out]
                exact h6
    · have htt : t = 1000000 := by omega
      have hdq : decide (t < 1000000) = false := decide_eq_false (by omega)
      have HSP : Hid (Spans (cntS P) 0 S) := Lib.hid (HJ.out.done (fun u hu => cntS_zero (fun y hy => by
        rw [HP.out] at hy
        unfold twoL at hy
        rw [List.mem_map] at hy
        obtain ⟨x, hx, rfl⟩ := hy
        have := okB_iff.1 (HOK.out x hx)
        dsimp only
        omega)))
      obtain ⟨p0, c0, rfl⟩ := own_slice HO.out
      clear htt
      go_wp2
      go_ret
      exact ⟨c0, p0, S, rfl, HO.out, by rw [← HP.out]; exact HSP.out, by omega, HAD.out⟩
end Go.Proofs.Ytkofnhimgegcnaa

namespace Go.Proofs.Ytkofnhimgegcnaa
open Go Go.RowKit Go.Sort Go.Maps

theorem chgS_snoc (P : List (Int × Int)) (x : Int × Int) (t : Int) : chgS (P ++ [x]) t = chgS P t + ((if x.1 = t then 1 else 0) - (if x.2 = t then 1 else 0)) := by simp [chgS, List.sum_append]
theorem chgS_bd (P : List (Int × Int)) (t : Int) : -(P.length : Int) ≤ chgS P t ∧ chgS P t ≤ P.length := by
  induction P with
  | nil => simp [chgS]
  | cons x P ih =>
    unfold chgS at ih ⊢
    simp only [List.map_cons, List.sum_cons, List.length_cons]
    repeat' split
    all_goals omega

/-- A map of the call's own: what has changed at each time; the times that it has. -/
def MapC (w : World) (bm n : Nat) (F : Int → Int) (T : List Int) : Prop :=
  ∃ D : DataW Unit, w.ownsMap Try.prog 3 (plainElem Try.prog 3) bm n D ∧ (∀ t, D.atKey (.int .i64 t) (.lit (.int .i64 0)) = .lit (.int .i64 (F t))) ∧ ∀ t, Maps.has D (.int .i64 t) = true ↔ t ∈ T
theorem MapC.made (w : World) : MapC (w.alloc (.map #[] 0)) w.heap.size 0 (fun _ => 0) [] :=
  ⟨_, World.ownsMap_made _ _ _ _, fun t => by simp [DataW.atKey], fun t => by simp [Maps.has]⟩
theorem MapC.put {w' : World} {bm n : Nat} {F : Int → Int} {T : List Int} {D : DataW Unit} (hD : IsMap D) (h1 : ∀ t, D.atKey (.int .i64 t) (.lit (.int .i64 0)) = .lit (.int .i64 (F t))) (h2 : ∀ t, Maps.has D (.int .i64 t) = true ↔ t ∈ T)
    (j a : Int) (h' : w'.ownsMap Try.prog 3 (plainElem Try.prog 3) bm n (D.put (.int .i64 j) (.lit (.int .i64 a)))) : MapC w' bm n (fun t => if t = j then a else F t) (T ++ [j]) := by
  refine ⟨_, h', fun t => ?_, fun t => ?_⟩
  · by_cases e : t = j
    · subst e
      rw [atKey_put_same hD (by trivial)]
      simp
    · have hne : (Lit.int .i64 t) ≠ (Lit.int .i64 j) := fun x => by cases x; exact e rfl
      rw [atKey_put_other hne, h1]
      simp only [if_neg e]
  · by_cases e : t = j
    · subst e
      rw [has_put_same hD (by trivial)]
      simp
    · have hne : (Lit.int .i64 t) ≠ (Lit.int .i64 j) := fun x => by cases x; exact e rfl
      rw [has_put_other hne, h2]
      simp [e]
theorem MapC.same {w w' : World} {bm k : Nat} {F : Int → Int} {T : List Int} (h : MapC w bm k F T) (e : w'.heap[bm]? = w.heap[bm]?) : MapC w' bm k F T := by
  obtain ⟨D, ⟨es, c, h1, h2⟩, h3⟩ := h
  exact ⟨D, ⟨es, c, e.trans h1, h2⟩, h3⟩
theorem MapC.lt {w : World} {bm k : Nat} {F : Int → Int} {T : List Int} (h : MapC w bm k F T) : bm < w.heap.size := by
  obtain ⟨D, ⟨es, c, h1, h2⟩, h3⟩ := h
  exact (Array.getElem?_eq_some_iff.1 h1).1
theorem MapC.later {w w' : World} {bm k : Nat} {F : Int → Int} {T : List Int} (h : MapC w bm k F T) (ha : Adds w w') : MapC w' bm k F T := h.same (ha.block _ h.lt)

theorem timesL_take {l : List Ld} {k : Nat} {x : Ld} (h : l[k]? = some x) : timesL (l.take (k + 1)) = timesL (l.take k) ++ [x.1] ++ [x.2.1] := by
  obtain ⟨h1, h2⟩ := List.getElem?_eq_some_iff.1 h
  unfold timesL
  rw [List.take_succ_eq_append_getElem h1, List.flatMap_append, h2]
  simp

/-- The keys of the map, sorted, are its times. -/
def KeysGot (T : List Int) (W : World) (e : Ending) (w' : World) : Prop :=
  ∃ (p : Option Addr) (c : Nat), e = .returned (.slice p T.length c) ∧ w'.ownsRow W.heap.size 3 1 (.slice p T.length c) T.length (T.map (Value.int .i64)) ∧ Adds W w'
def KeysG (T : List Int) (tl b : Nat) (W : World) : Prop :=
  tl = T.length ∧ Calls Try.prog 70 #[.func (.func 90) #[] #[.pointer (some ⟨b, 0, none⟩)]] W (KeysGot T W)
theorem keysG_of {D : DataW Unit} {T : List Int} {W : World} {a : Addr}
    (h : Calls Try.prog 70 #[.func (.func 90) #[] #[.pointer (some a)]] W fun e w' => ∃ (v : Value) (ss : List Int), e = .returned v ∧ ss.Perm (intKeys D) ∧
      w'.ownsRow W.heap.size 3 1 v ss.length ((ss.mergeSort (fun x y => decide (x ≤ y))).map (Value.int .i64)) ∧ (v = .slice none 0 0 ↔ ss = []) ∧ Below W.heap.size W w') (hT : T.Pairwise (· < ·)) (hp : T.Perm (intKeys D)) :
    Calls Try.prog 70 #[.func (.func 90) #[] #[.pointer (some a)]] W (KeysGot T W) := by
  refine h.mono fun e w' ⟨v, ss, he, h1, h2, h3, h4⟩ => ?_
  have hsT : ss.Perm T := h1.trans hp.symm
  have e1 : ss.mergeSort (fun x y => decide (x ≤ y)) = T.mergeSort (fun x y => decide (x ≤ y)) := mergeSort_of_perm_i hsT
  have e2 : T.mergeSort (fun x y => decide (x ≤ y)) = T := List.mergeSort_of_pairwise (hT.imp (fun h => by simp; omega))
  rw [e1, e2, hsT.length_eq] at h2
  obtain ⟨p, c, rfl⟩ := own_slice h2
  exact ⟨p, c, he, h2, h4⟩
theorem own_low {w : World} {base base' t size n : Nat} {v : Value} {xs : List Value} (h : w.ownsRow base t size v n xs) (hb : base' ≤ base) : w.ownsRow base' t size v n xs := by
  obtain ⟨h1, h2⟩ := h
  refine ⟨h1, ?_⟩
  rcases h2 with h2 | ⟨g, cap, cur, e1, e2, e3⟩
  · exact .inl h2
  · exact .inr ⟨g, cap, cur, e1, by omega, e3⟩

def BusyGot (l : List Ld) (w : World) (e : Ending) (w' : World) : Prop :=
  ∃ (c : Nat) (q : Option Addr) (S : List (Int × Int × Int)), e = .returned (.tuple #[.slice q S.length c, .int .i64 0]) ∧ w'.ownsRow w.heap.size 78 3 (.slice q S.length c) S.length (S.flatMap enc3) ∧ Spans (cntS (twoL l)) 0 S ∧ S.length ≤ 1000000 ∧ Adds w w'

set_option maxRecDepth 100000 in
set_option maxHeartbeats 4000000 in
theorem Busy_any (p : Option Addr) (cl : Nat) (l : List Ld) (w : World) (hL : LoadsAt w p l) (hok : ∀ x ∈ l, okB x = true) (hn : l.length ≤ 256) :
    Calls Try.prog 36 #[.slice p l.length cl] w (BusyGot l w) := by
  have hc := Check_any p cl l w (by unfold maxLen; omega) hL
  rw [checkL_zero.2 ⟨hn, hok⟩] at hc
  have HC := Lib.hid hc
  obtain ⟨i0, hi, hi0, hi1, hi2⟩ := info_parts info78
  have HI := Lib.hid hi
  have HI0 := Lib.hid hi0
  have HI1 := Lib.hid hi1
  have HI2 := Lib.hid hi2
  obtain ⟨n, hnn⟩ : ∃ n, n = l.length := ⟨_, rfl⟩
  rw [← hnn] at hn HC ⊢
  have HN := Lib.hid hnn
  have HL := Lib.hid hL
  have HOK := Lib.hid hok
  obtain ⟨P, hP⟩ : ∃ P, P = twoL l := ⟨_, rfl⟩
  have HP := Lib.hid hP
  have hmm := @run_makeMap Try.prog
  clear hi hi0 hi1 hi2 hL hnn hok hP hc
  go_enter Try.func36, Try.ntmps36
  go_upto_region 6 with (first
    | (go_at_call 60; refine HC.out.mono ?_; rintro e w1 ⟨rfl, hb1⟩; have HB1 := Lib.hid hb1; clear hb1)
    | go_in)
  obtain ⟨bm, hbm⟩ : ∃ b, b = w1.heap.size := ⟨_, rfl⟩
  obtain ⟨W2, hW2⟩ : ∃ V, V = w1.alloc (.map #[] 0) := ⟨_, rfl⟩
  rw [← hW2, ← hbm]
  have HM2 : Hid (MapC W2 bm 0 (fun _ => 0) []) := Lib.hid (by rw [hW2, hbm]; exact MapC.made _)
  have HA2 : Hid (Adds w W2) := Lib.hid (by rw [hW2]; exact HB1.out.alloc _)
  have hbw : w.heap.size ≤ bm := by have := HB1.out.size; omega
  clear hW2 hbm hmm
  go_loopw [21] (fun v21 wr => ∃ k : Nat, k ≤ n ∧ v21 = .int .i64 k ∧ Hid (MapC wr bm (2 * k) (chgS (P.take k)) (timesL (l.take k))) ∧ Hid (Adds w wr)) (fun v21 _ => n - (intOf v21).toNat)
  case atStart => exact ⟨0, by omega, rfl, Lib.hid (by
    have e : chgS (P.take 0) = fun _ => 0 := by funext t; simp [chgS]
    rw [e]
    exact HM2.out), HA2⟩
  case round =>
    clear HM2 HA2
    obtain ⟨k, hk, rfl, HM, HAD⟩ := hrel
    by_cases hlt : k < n
    · have hlt2 : (k : Int) < (n : Int) := by omega
      obtain ⟨⟨x0, x1, x2, x3⟩, hx⟩ : ∃ x, l[k]? = some x := ⟨_, List.getElem?_eq_getElem (by have := HN.out; omega)⟩
      have hox := okB_iff.1 (HOK.out _ (List.mem_of_getElem? hx))
      obtain ⟨g, off, rfl, d0, d1, d2, d3⟩ := HL.out.later HAD.out k _ hx
      have HT : Hid (P.take (k + 1) = P.take k ++ [(x0, x1)]) := Lib.hid (by rw [HP.out]; exact twoL_take hx)
      have HTL : Hid (timesL (l.take (k + 1)) = timesL (l.take k) ++ [x0] ++ [x1]) := Lib.hid (timesL_take hx)
      dsimp only at d0 d1 d2 d3 hox
      obtain ⟨o1, o2, o3, _⟩ := hox
      clear hx
      go_upto_region 8 with fail
      obtain ⟨xb, hxb⟩ : ∃ b, b = wr.heap.size := ⟨_, rfl⟩
      obtain ⟨W3, hW3⟩ : ∃ V, V = wr.alloc (.cells #[.int .i64 x0, .int .i64 x1, .int .i64 x2, .int .i64 x3] 84) := ⟨_, rfl⟩
      rw [← hW3, ← hxb]
      have hA3 : Adds wr W3 := by rw [hW3]; exact (Adds.refl _).alloc _
      have hX3 : Box W3 xb #[.int .i64 x0, .int .i64 x1, .int .i64 x2, .int .i64 x3] 84 := by rw [hW3, hxb]; exact Box.new _ _ _
      have hM3 := HM.out.later hA3
      have hxm : xb ≠ bm := by have := HM.out.lt; omega
      have HA3 := Lib.hid (HAD.out.trans hA3)
      have HX3 := Lib.hid hX3
      obtain ⟨D, hown, hat, hhas⟩ := hM3
      have HOWN := Lib.hid hown
      have HHAS := Lib.hid hhas
      have HATS := Lib.hid hat
      have kx0 : W3.cell? ⟨xb, 0, none⟩ = some (.int .i64 x0) := hX3.cell 0
      obtain ⟨y0, hy0⟩ : ∃ y, y = chgS (P.take k) x0 := ⟨_, rfl⟩
      have HAT0 : Hid (D.atKey (.int .i64 x0) (.lit (.int .i64 0)) = .lit (.int .i64 y0)) := Lib.hid (by rw [hy0]; exact hat x0)
      have hkl : (P.take k).length ≤ 256 := by rw [List.length_take]; omega
      have hyb : -256 ≤ y0 ∧ y0 ≤ 256 := by have := chgS_bd (P.take k) x0; omega
      obtain ⟨hy1, hy2⟩ := hyb
      have hwf0 : (Lit.int .i64 x0).wf = true := WalkArith.wf_i64 (by omega)
      have hwf1 : (Lit.int .i64 x1).wf = true := WalkArith.wf_i64 (by omega)
      have hwfy : (Lit.int .i64 (y0 + 1)).wf = true := WalkArith.wf_i64 (by omega)
      have hkey0 : keyOf Try.prog 3 (.int .i64 x0) = some (.int .i64 x0) := keyOf_int_mk Try.underlying3 hwf0
      have hkey1 : keyOf Try.prog 3 (.int .i64 x1) = some (.int .i64 x1) := keyOf_int_mk Try.underlying3 hwf1
      have HY0 := Lib.hid hy0
      clear hA3 hX3 hW3 hxb hown hat hhas hy0 d0 d1 d2 d3 HM
      go_upto_region 9 with (first
        | (at_lookup; refine wpList_lookup_own_int _ rfl _ _ 117 rfl 3 3 .i64 law3m und117 Try.underlying3 (zero3m _) bm (2 * k) D rfl HOWN.out _ _ rfl hkey0 ?_; intro c hat hwc; rw [HAT0.out] at hat; injection hat with hat; injection hat with _ hat; subst hat)
        | (at_mapUpdate; refine wpList_mapUpdate_own _ rfl _ _ _ 117 rfl 3 3 law3m und117 (plainElem (H := Unit) Try.prog 3) bm (2 * k) D rfl HOWN.out (by unfold maxLen; omega) _ _ _ rfl rfl hkey0 _ [] (plainElem_int Try.underlying3 hwfy) ?_; intro w4 hown4 hgr4; have HW4 := Lib.hid hown4; have HG4 := Lib.hid hgr4; clear hown4 hgr4)
        | go_in)
      have hM4 := MapC.put HOWN.out.isMap HATS.out HHAS.out x0 (y0 + 1) HW4.out
      have HX4 := Lib.hid (HX3.out.same (HG4.out.block xb HX3.out.lt (by simpa using hxm)))
      have HA4 : Hid (Adds w w4) := Lib.hid (HA3.out.grown HG4.out HA3.out.size (fun j hj => by cases hj; exact hbw))
      obtain ⟨D4, hown4, hat4, hhas4⟩ := hM4
      have HOWN4 := Lib.hid hown4
      have HHAS4 := Lib.hid hhas4
      have HATS4 := Lib.hid hat4
      have kx1 : w4.cell? ⟨xb, 1, none⟩ = some (.int .i64 x1) := HX4.out.cell 1
      obtain ⟨y1, hy1'⟩ : ∃ y, y = chgS (P.take k) x1 := ⟨_, rfl⟩
      have HAT1 : Hid (D4.atKey (.int .i64 x1) (.lit (.int .i64 0)) = .lit (.int .i64 y1)) := Lib.hid (by rw [hy1']; have := hat4 x1; dsimp only at this; rw [if_neg (show ¬ x1 = x0 by omega)] at this; exact this)
      have hyb : -256 ≤ y1 ∧ y1 ≤ 256 := by have := chgS_bd (P.take k) x1; omega
      obtain ⟨hz1, hz2⟩ := hyb
      have hwfz : (Lit.int .i64 (y1 - 1)).wf = true := WalkArith.wf_i64 (by omega)
      have HY1 := Lib.hid hy1'
      clear hown4 hat4 hhas4 hy1' HOWN HATS HHAS HAT0 HW4 hwfy kx0 HX3 hkl
      go_upto_region 10 with (first
        | (at_lookup; refine wpList_lookup_own_int _ rfl _ _ 117 rfl 3 3 .i64 law3m und117 Try.underlying3 (zero3m _) bm (2 * k + 1) D4 rfl HOWN4.out _ _ rfl hkey1 ?_; intro c hat hwc; rw [HAT1.out] at hat; injection hat with hat; injection hat with _ hat; subst hat)
        | (at_mapUpdate; refine wpList_mapUpdate_own _ rfl _ _ _ 117 rfl 3 3 law3m und117 (plainElem (H := Unit) Try.prog 3) bm (2 * k + 1) D4 rfl HOWN4.out (by unfold maxLen; omega) _ _ _ rfl rfl hkey1 _ [] (plainElem_int Try.underlying3 hwfz) ?_; intro w5 hown5 hgr5; have HW5 := Lib.hid hown5; have HG5 := Lib.hid hgr5; clear hown5 hgr5)
        | go_in)
      have hM5 := MapC.put HOWN4.out.isMap HATS4.out HHAS4.out x1 (y1 - 1) HW5.out
      have HM5 : Hid (MapC w5 bm (2 * (k + 1)) (chgS (P.take (k + 1))) (timesL (l.take (k + 1)))) := Lib.hid (by
        rw [HTL.out, HT.out]
        have e : chgS (P.take k ++ [(x0, x1)]) = fun t => if t = x1 then y1 - 1 else if t = x0 then y0 + 1 else chgS (P.take k) t := by
          funext t
          rw [chgS_snoc, HY0.out, HY1.out]
          dsimp only
          by_cases e1 : t = x1
          · subst e1
            rw [if_pos rfl, if_neg (by omega), if_pos rfl]
            omega
          · by_cases e0 : t = x0
            · subst e0
              rw [if_neg e1, if_pos rfl, if_pos rfl, if_neg (by omega)]
              omega
            · rw [if_neg e1, if_neg e0, if_neg (by omega), if_neg (by omega)]
              omega
        rw [e]
        exact hM5)
      have HA5 : Hid (Adds w w5) := Lib.hid (HA4.out.grown HG5.out HA4.out.size (fun j hj => by cases hj; exact hbw))
      clear hM5
      go_wp2
      exact ⟨⟨k + 1, by omega, by go_num, HM5, HA5⟩, by simp [intOf]; omega⟩
    · have hkn : k = n := by omega
      have hdq : decide ((k : Int) < (n : Int)) = false := decide_eq_false (by omega)
      have e1 : P.take k = P := List.take_of_length_le (by rw [HP.out]; unfold twoL; rw [List.length_map]; have := HN.out; omega)
      have e2 : l.take k = l := List.take_of_length_le (by have := HN.out; omega)
      rw [e1, e2] at HM
      obtain ⟨D, hown, hat, hhas⟩ := HM.out
      have HATS := Lib.hid hat
      have htl : (timesOf l).length ≤ 512 := by have := timesOf_len l; have := HN.out; omega
      have hcol : CollectedI D (fun _ => false) (timesOf l) := ⟨(timesOf_spec l).lt.imp (fun h => by omega), fun t => by rw [(timesOf_spec l).mem, ← hhas t]; simp⟩
      have hperm := hcol.perm hown law3m Try.underlying3 (fun _ => rfl)
      have hsz : Maps.size D ≤ 1000 := by have := hown.size_le; omega
      have hsrt := keysG_of (sorted_any wr.heap.size bm (2 * k) D _ (wr.alloc (.cells #[.map (some bm)] 117)) (by simp) (by simp) (hown.alloc _) (by omega)) (timesOf_spec l).lt hperm
      have hws := HAD.out.size
      have hbl := hown.lt
      obtain ⟨T, hT⟩ : ∃ T, T = timesOf l := ⟨_, rfl⟩
      have hTS := timesOf_spec l
      rw [← hT] at hsrt htl hTS
      have HTS := Lib.hid hTS
      obtain ⟨tl, htll⟩ : ∃ t, t = T.length := ⟨_, rfl⟩
      have HSRT : Hid (KeysG T tl wr.heap.size (wr.alloc (.cells #[.map (some bm)] 117))) := Lib.hid ⟨htll, hsrt⟩
      rw [← htll] at htl
      have HTLL := Lib.hid htll
      have hPm : ∀ t, (∃ x ∈ P, x.1 = t ∨ x.2 = t) → t ∈ T := fun t ht => by
        obtain ⟨x, hx, h⟩ := ht
        rw [HP.out] at hx
        unfold twoL at hx
        rw [List.mem_map] at hx
        obtain ⟨z, hz, rfl⟩ := hx
        have := timesL_mem hz
        rcases h with e | e
        · rw [← e]; exact (hTS.mem _).2 this.1
        · rw [← e]; exact (hTS.mem _).2 this.2
      have hPb : ∀ x ∈ P, 0 ≤ x.1 ∧ x.1 < x.2 ∧ x.2 ≤ 1000000 := fun x hx => by
        rw [HP.out] at hx
        unfold twoL at hx
        rw [List.mem_map] at hx
        obtain ⟨z, hz, rfl⟩ := hx
        have := okB_iff.1 (HOK.out z hz)
        dsimp only
        omega
      have hTb : ∀ t ∈ T, 0 ≤ t ∧ t ≤ 1000000 := fun t ht => by
        have h1 := (hTS.mem t).1 ht
        unfold timesL at h1
        rw [List.mem_flatMap] at h1
        obtain ⟨x, hx, h2⟩ := h1
        have := okB_iff.1 (HOK.out x hx)
        simp at h2
        omega
      have hPl : P.length = n := by rw [HP.out]; unfold twoL; rw [List.length_map, HN.out]
      have HPM := Lib.hid hPm
      have HPB := Lib.hid hPb
      have HTB := Lib.hid hTb
      have HPL := Lib.hid hPl
      have HWS := Lib.hid (Way.start (L := P) hTS.lt (fun x hx => by have := hPb x hx; omega) hPm (fun t ht => (hTb t ht).1))
      subst hkn
      clear hsrt hperm hown hat hhas hcol e1 e2 hT htll hTS hPm hPb hTb hPl HATS hsz
      go_upto_region 14 with (first
        | (go_at_call 71; refine (keys_any _ _).mono ?_; rintro e w5 ⟨rfl, rfl⟩)
        | (go_at_call 70; refine HSRT.out.2.mono ?_; rintro e w6 ⟨pT, cT, rfl, h2, h4⟩; rw [← HTLL.out] at h2 ⊢; have HOS := Lib.hid h2; have HB6 := Lib.hid h4; clear h2 h4)
        | go_in)
      obtain ⟨W6, hW6⟩ : ∃ V, V = w6 := ⟨_, rfl⟩
      rw [← hW6] at HOS HB6 ⊢
      have HA6 : Hid (Adds w W6) := Lib.hid ((HAD.out.alloc _).trans HB6.out)
      have HM6 : Hid (MapC W6 bm (2 * k) (chgS P) (timesL l)) := Lib.hid ((HM.out.later ((Adds.refl _).alloc _)).later HB6.out)
      clear hW6 HSRT
      have hw6 : wr.heap.size + 1 ≤ W6.heap.size := by have := HB6.out.size; simp at this; omega
      go_loopw [8, 9, 10, 40] (fun v8 v9 v10 v40 wi => ∃ (j : Nat) (S : List (Int × Int × Int)) (a m : Int), j ≤ tl ∧ v40 = .int .i64 j ∧ v9 = .int .i64 a ∧ v10 = .int .i64 m ∧ Hid (Way P T j S a m) ∧ Hid (wi.ownsRow W6.heap.size 78 3 v8 S.length (S.flatMap enc3)) ∧ Hid (Adds W6 wi)) (fun _ _ _ v40 _ => tl - (intOf v40).toNat)
      case atStart => exact ⟨0, [], 0, 0, by omega, rfl, rfl, rfl, HWS, Lib.hid (World.ownsRow_nil _ _ _ _), Lib.hid (Adds.refl _)⟩
      case round =>
        obtain ⟨j, S, a, m, hj, rfl, rfl, rfl, HW, HO, HAI⟩ := hrel
        obtain ⟨p0, c0, rfl⟩ := own_slice HO.out
        have hSj : S.length ≤ j := HW.out.len
        obtain ⟨s, hs⟩ : ∃ s, s = S.length := ⟨_, rfl⟩
        rw [← hs] at HO hSj ⊢
        have HS := Lib.hid hs
        have hwi := HAI.out.size
        have hlo := HW.out.lo
        rw [HPL.out] at hlo
        obtain ⟨ha0, hm0, hm1⟩ := hlo
        clear hs
        by_cases hjt : j < tl
        · have hlt2 : (j : Int) < (tl : Int) := by omega
          obtain ⟨t, ht⟩ : ∃ t, T[j]? = some t := ⟨_, List.getElem?_eq_getElem (by have := HTLL.out; omega)⟩
          obtain ⟨gT, cT', eg, hgT⟩ := own_some HOS.out (by omega)
          injection eg with eg1 eg2 eg3
          subst eg1
          clear eg2 eg3
          have kt : wr.cell? ⟨gT, j, none⟩ = some (.int .i64 t) := keep_cell HAI.out (own_cell HOS.out (by rw [List.getElem?_map, ht]; rfl)).1
          obtain ⟨ht0, ht1⟩ := HTB.out t (List.mem_of_getElem? ht)
          have hat2 := (HW.out.at_ t ht).2
          have HNX := Lib.hid (Way.next HTS.out.lt (fun x hx => (HPB.out x hx).2.1) HPM.out HW.out ht)
          obtain ⟨y, hy⟩ : ∃ y, y = chgS P t := ⟨_, rfl⟩
          have hyb : -256 ≤ y ∧ y ≤ 256 := by have := chgS_bd P t; have := HPL.out; omega
          obtain ⟨hy1, hy2⟩ := hyb
          obtain ⟨DI, howni, hati, hhasi⟩ := HM6.out.later HAI.out
          have HOWNI := Lib.hid howni
          have HATI : Hid (DI.atKey (.int .i64 t) (.lit (.int .i64 0)) = .lit (.int .i64 y)) := Lib.hid (by rw [hy]; exact hati t)
          rw [← hy] at HNX
          have hwft : (Lit.int .i64 t).wf = true := WalkArith.wf_i64 (by omega)
          have hkey : keyOf Try.prog 3 (.int .i64 t) = some (.int .i64 t) := keyOf_int_mk Try.underlying3 hwft
          have hwr : IntKind.i64.wrap (m + y) = m + y := IntWalk.i64_in _ (by omega)
          obtain ⟨ha1, ha2⟩ := hat2
          clear ht hy howni hati hhasi
          by_cases hy0 : y = 0
          · subst hy0
            go_wp2_with (first
              | (at_lookup; refine wpList_lookup_own_int _ rfl _ _ 117 rfl 3 3 .i64 law3m und117 Try.underlying3 (zero3m _) bm (2 * k) DI rfl HOWNI.out _ _ rfl hkey ?_; intro c hat hwc; rw [HATI.out] at hat; injection hat with hat; injection hat with _ hat; subst hat)
              | go_in)
            exact ⟨⟨j + 1, S, a, m, by omega, by go_num, rfl, rfl, Lib.hid (HNX.out.1 rfl), by rw [← HS.out]; exact HO, HAI⟩, by simp [intOf]; omega⟩
          · have hyq : (y == 0) = false := by simpa using hy0
            by_cases hmp : 0 < m
            · go_upto_region 19 with (first
                | (at_lookup; refine wpList_lookup_own_int _ rfl _ _ 117 rfl 3 3 .i64 law3m und117 Try.underlying3 (zero3m _) bm (2 * k) DI rfl HOWNI.out _ _ rfl hkey ?_; intro c hat hwc; rw [HATI.out] at hat; injection hat with hat; injection hat with _ hat; subst hat)
                | (at_builtin; ((refine wpList_append_lies _ rfl _ _ 74 rfl W6.heap.size 78 i0 (.agg #[.int .i64 0, .int .i64 0, .int .i64 0]) 3 24 Try.underlying74 HI.out HI0.out HI1.out HI2.out rfl (by decide) (.slice p0 s c0) s _ rfl (HO.out.alloc _) ⟨wr.heap.size, 0, none⟩ 1 1 [.int .i64 a, .int .i64 t, .int .i64 m] rfl rfl (World.news_of_block (Box.new wr _ 78)) (by simp [Value.oneCell']) (by omega) (by unfold maxLen; omega) (by omega) (by simp; omega) (wr.heap.size + 1) (by simp) ?_); intro g6 c6 w8 ho6 hg6 hl6 hs6; have HO6 := Lib.hid ho6; have HG6 := Lib.hid hg6; clear ho6 hg6 hl6))
                | go_in)
              have HAX : Hid (Adds W6 w8) := Lib.hid (Below.grown (HAI.out.alloc _) HG6.out (by simp; omega) (fun q hq => (own_block HO.out hq).1))
              have hAX := HAX.out
              have HOWNX : Hid (w8.ownsMap Try.prog 3 (plainElem Try.prog 3) bm (2 * k) DI) := Lib.hid (by
                obtain ⟨es, ck, h1, h2⟩ := HOWNI.out
                refine ⟨es, ck, ?_, h2⟩
                have hb6 : bm < W6.heap.size := by omega
                exact (hAX.block bm hb6).trans ((HAI.out.block bm hb6).symm.trans h1))
              clear hAX
              refine wp_region_held_drew (S := fun w' => w'.ownsMap Try.prog 3 (plainElem Try.prog 3) bm (2 * k) DI) (by kernel_rfl) (show w8.ownsMap Try.prog 3 (plainElem Try.prog 3) bm (2 * k) DI from HOWNX.out) (fun hHeld => ?_)
              refine wpAnyH_take (i := 0) (oi := ⟨some 57, _, _, _, _, _⟩) (v := ?v101) rfl (by kernel_rfl) (by kernel_rfl) (by kernel_rfl) (fun _ _ _ h => h) (Or.inl ⟨by rfl, ?hy101⟩) (by assumption) ?rest101
              case hy101 => (intro w hSw; (try dsimp only at hSw); go_simp; try with_reducible rfl)
              try simp only [Act.put, List.setIfInBounds_toArray, List.set_cons_zero, List.set_cons_succ]
              refine wpAnyH_take (i := 1) (oi := ⟨some 58, _, _, _, _, _⟩) (v := ?v102) rfl (by kernel_rfl) (by kernel_rfl) (by kernel_rfl) (fun _ _ _ h => h) (Or.inl ⟨by rfl, ?hy102⟩) (by assumption) ?rest102
              case hy102 => (intro w hSw; (try dsimp only at hSw); go_simp; try with_reducible rfl)
              try simp only [Act.put, List.setIfInBounds_toArray, List.set_cons_zero, List.set_cons_succ]
              refine wpAnyH_take (i := 2) (oi := ⟨some 59, _, _, _, _, _⟩) (v := ?v103) rfl (by kernel_rfl) (by kernel_rfl) (by kernel_rfl) (fun _ _ _ h => h) (Or.inl ⟨by rfl, ?hy103⟩) (by assumption) ?rest103
              case hy103 => (intro w hSw; (try dsimp only at hSw); go_simp; try with_reducible rfl)
              try simp only [Act.put, List.setIfInBounds_toArray, List.set_cons_zero, List.set_cons_succ]
              refine wpAnyH_take (i := 3) (oi := ⟨some 60, _, _, _, _, _⟩) (v := ?v104) rfl (by kernel_rfl) (by kernel_rfl) (by kernel_rfl) (fun _ _ _ h => h) (Or.inl ⟨by rfl, ?hy104⟩) (by assumption) ?rest104
              case hy104 => (intro w hSw; (try dsimp only at hSw); go_simp; try with_reducible rfl)
              try simp only [Act.put, List.setIfInBounds_toArray, List.set_cons_zero, List.set_cons_succ]
              refine wpAnyH_take (i := 4) (oi := ⟨some 61, _, _, _, _, _⟩) (v := .int .i64 y) rfl (by kernel_rfl) (by kernel_rfl) (by kernel_rfl) (fun _ _ _ h => h) (Or.inl ⟨by rfl, ?hy105⟩) (by assumption) ?rest105
              case hy105 =>
                intro w hSw
                exact look_yield hSw rfl rfl rfl hkey HATI.out
              try simp only [Act.put, List.setIfInBounds_toArray, List.set_cons_zero, List.set_cons_succ]
              refine wpAnyH_take (i := 5) (oi := ⟨some 62, _, _, _, _, _⟩) (v := ?v106) rfl (by kernel_rfl) (by kernel_rfl) (by kernel_rfl) (fun _ _ _ h => h) (Or.inl ⟨by rfl, ?hy106⟩) (by assumption) ?rest106
              case hy106 => (intro w hSw; (try dsimp only at hSw); go_simp; try with_reducible rfl)
              try simp only [Act.put, List.setIfInBounds_toArray, List.set_cons_zero, List.set_cons_succ]
              refine wpAnyH_take (i := 6) (oi := ⟨some 9, _, _, _, _, _⟩) (v := ?v107) rfl (by kernel_rfl) (by kernel_rfl) (by kernel_rfl) (fun _ _ _ h => h) (Or.inl ⟨by rfl, ?hy107⟩) (by assumption) ?rest107
              case hy107 => (intro w hSw; (try dsimp only at hSw); go_simp; try with_reducible rfl)
              try simp only [Act.put, List.setIfInBounds_toArray, List.set_cons_zero, List.set_cons_succ]
              refine wpAnyH_take (i := 7) (oi := ⟨some 10, _, _, _, _, _⟩) (v := ?v108) rfl (by kernel_rfl) (by kernel_rfl) (by kernel_rfl) (fun _ _ _ h => h) (Or.inl ⟨by rfl, ?hy108⟩) (by assumption) ?rest108
              case hy108 => (intro w hSw; (try dsimp only at hSw); go_simp; try with_reducible rfl)
              try simp only [Act.put, List.setIfInBounds_toArray, List.set_cons_zero, List.set_cons_succ]
              refine wpAnyH_done (by kernel_rfl) ?_ _
              clear hHeld
              go_wp2
              refine ⟨⟨j + 1, S ++ [(a, t, m)], t, m + y, by omega, by go_num, rfl, rfl, Lib.hid (HNX.out.2.2 hy0 hmp), Lib.hid ?_, Lib.hid HAX.out.drew⟩, by simp [intOf]; omega⟩
              have h6 := HO6.out
              rw [List.flatMap_append, List.length_append, ← HS.out]
              exact h6
            · have hm00 : m = 0 := by omega
              subst hm00
              have HOWNX := HOWNI
              have hwy : IntKind.i64.wrap y = y := IntWalk.i64_in _ (by omega)
              clear hwr
              go_upto_region 19 with (first
                | (at_lookup; refine wpList_lookup_own_int _ rfl _ _ 117 rfl 3 3 .i64 law3m und117 Try.underlying3 (zero3m _) bm (2 * k) DI rfl HOWNI.out _ _ rfl hkey ?_; intro c hat hwc; rw [HATI.out] at hat; injection hat with hat; injection hat with _ hat; subst hat)
                | go_in)
              refine wp_region_held_drew (S := fun w' => w'.ownsMap Try.prog 3 (plainElem Try.prog 3) bm (2 * k) DI) (by kernel_rfl) (show wr.ownsMap Try.prog 3 (plainElem Try.prog 3) bm (2 * k) DI from HOWNX.out) (fun hHeld => ?_)
              refine wpAnyH_take (i := 0) (oi := ⟨some 57, _, _, _, _, _⟩) (v := ?v109) rfl (by kernel_rfl) (by kernel_rfl) (by kernel_rfl) (fun _ _ _ h => h) (Or.inl ⟨by rfl, ?hy109⟩) (by assumption) ?rest109
              case hy109 => (intro w hSw; (try dsimp only at hSw); go_simp; try with_reducible rfl)
              try simp only [Act.put, List.setIfInBounds_toArray, List.set_cons_zero, List.set_cons_succ]
              refine wpAnyH_take (i := 1) (oi := ⟨some 58, _, _, _, _, _⟩) (v := ?v110) rfl (by kernel_rfl) (by kernel_rfl) (by kernel_rfl) (fun _ _ _ h => h) (Or.inl ⟨by rfl, ?hy110⟩) (by assumption) ?rest110
              case hy110 => (intro w hSw; (try dsimp only at hSw); go_simp; try with_reducible rfl)
              try simp only [Act.put, List.setIfInBounds_toArray, List.set_cons_zero, List.set_cons_succ]
              refine wpAnyH_take (i := 2) (oi := ⟨some 59, _, _, _, _, _⟩) (v := ?v111) rfl (by kernel_rfl) (by kernel_rfl) (by kernel_rfl) (fun _ _ _ h => h) (Or.inl ⟨by rfl, ?hy111⟩) (by assumption) ?rest111
              case hy111 => (intro w hSw; (try dsimp only at hSw); go_simp; try with_reducible rfl)
              try simp only [Act.put, List.setIfInBounds_toArray, List.set_cons_zero, List.set_cons_succ]
              refine wpAnyH_take (i := 3) (oi := ⟨some 60, _, _, _, _, _⟩) (v := ?v112) rfl (by kernel_rfl) (by kernel_rfl) (by kernel_rfl) (fun _ _ _ h => h) (Or.inl ⟨by rfl, ?hy112⟩) (by assumption) ?rest112
              case hy112 => (intro w hSw; (try dsimp only at hSw); go_simp; try with_reducible rfl)
              try simp only [Act.put, List.setIfInBounds_toArray, List.set_cons_zero, List.set_cons_succ]
              refine wpAnyH_take (i := 4) (oi := ⟨some 61, _, _, _, _, _⟩) (v := .int .i64 y) rfl (by kernel_rfl) (by kernel_rfl) (by kernel_rfl) (fun _ _ _ h => h) (Or.inl ⟨by rfl, ?hy113⟩) (by assumption) ?rest113
              case hy113 =>
                intro w hSw
                exact look_yield hSw rfl rfl rfl hkey HATI.out
              try simp only [Act.put, List.setIfInBounds_toArray, List.set_cons_zero, List.set_cons_succ]
              refine wpAnyH_take (i := 5) (oi := ⟨some 62, _, _, _, _, _⟩) (v := ?v114) rfl (by kernel_rfl) (by kernel_rfl) (by kernel_rfl) (fun _ _ _ h => h) (Or.inl ⟨by rfl, ?hy114⟩) (by assumption) ?rest114
              case hy114 => (intro w hSw; (try dsimp only at hSw); go_simp; try with_reducible rfl)
              try simp only [Act.put, List.setIfInBounds_toArray, List.set_cons_zero, List.set_cons_succ]
              refine wpAnyH_take (i := 6) (oi := ⟨some 9, _, _, _, _, _⟩) (v := ?v115) rfl (by kernel_rfl) (by kernel_rfl) (by kernel_rfl) (fun _ _ _ h => h) (Or.inl ⟨by rfl, ?hy115⟩) (by assumption) ?rest115
              case hy115 => (intro w hSw; (try dsimp only at hSw); go_simp; try with_reducible rfl)
              try simp only [Act.put, List.setIfInBounds_toArray, List.set_cons_zero, List.set_cons_succ]
              refine wpAnyH_take (i := 7) (oi := ⟨some 10, _, _, _, _, _⟩) (v := ?v116) rfl (by kernel_rfl) (by kernel_rfl) (by kernel_rfl) (fun _ _ _ h => h) (Or.inl ⟨by rfl, ?hy116⟩) (by assumption) ?rest116
              case hy116 => (intro w hSw; (try dsimp only at hSw); go_simp; try with_reducible rfl)
              try simp only [Act.put, List.setIfInBounds_toArray, List.set_cons_zero, List.set_cons_succ]
              refine wpAnyH_done (by kernel_rfl) ?_ _
              clear hHeld
              go_wp2
              exact ⟨⟨j + 1, S, t, y, by omega, by go_num, rfl, rfl, Lib.hid (by have := HNX.out.2.1 hy0 rfl; rw [Int.zero_add] at this; exact this), Lib.hid (by rw [← HS.out]; exact HO.out), Lib.hid HAI.out.drew⟩, by simp [intOf]; omega⟩
        · have hdq : decide ((j : Int) < (tl : Int)) = false := decide_eq_false (by omega)
          have HSP : Hid (Spans (cntS P) 0 S) := Lib.hid (HW.out.done (by have := HTLL.out; omega) (fun x hx => by have := HPB.out x hx; omega))
          go_wp2
          go_ret2
          exact ⟨c0, p0, S, by rw [← HS.out]; rfl, by rw [← HS.out]; exact own_low HO.out (by omega), by rw [← HP.out]; exact HSP.out, by have := HS.out; omega, HA6.out.trans HAI.out⟩
end Go.Proofs.Ytkofnhimgegcnaa

namespace Go.Proofs.Ytkofnhimgegcnaa
open Go Go.RowKit Go.Sort

theorem und78 : Try.prog.underlying 78 = some (.array 3 3) := by kernel_rfl
theorem guard78 : Try.prog.eqGuardType Try.prog.depth 78 = false := by kernel_rfl
theorem neq78 (a b c : Int) (w : World) : (binOp .neq 78 (.agg #[.int .i64 a, .int .i64 b, .int .i64 c]) (.agg #[.int .i64 a, .int .i64 b, .int .i64 c])).run Try.prog w = .ok (.bool false) w := by
  obtain ⟨j0, hj, hj0, hj1, hj2⟩ := info_parts info3
  have hc : Try.prog.cellsOf 3 = 1 := by kernel_rfl
  have u3 : Try.prog.underlying 3 = some (.int .i64) := Try.underlying3
  rw [run_neq_struct, show (10000 : Nat) = 9999 + 1 from rfl, run_equalIn_array w 9999 _ _ und78 hj, hc]
  simp [go_sem, List.range_succ, Op.eqItems, part, Try.sizeOf3, Try.isAgg3, run_equalIn_int w 9998 3 .i64 .i64 _ _ u3]
theorem neqg78 (x y : Operand) (a b : Array Value) (w : World) : (eqGuard .neq 78 x y (.agg a) (.agg b)).run Try.prog w = .ok () w := run_eqGuard_agg w .neq 78 x y a b guard78

set_option maxRecDepth 100000 in
set_option maxHeartbeats 4000000 in
theorem busy_law (p : Option Addr) (cl : Nat) (l : List Ld) (w : World) (hL : LoadsAt w p l) (hcl : l.length ≤ cl) (hmx : cl ≤ maxLen) :
    Calls Try.prog 10 #[.slice p l.length cl] w fun e w' => e = .returned (.bool true) ∧ Adds w w' := by
  have HTM := Lib.hid (tame_at p cl 30 l w hL (by omega) hcl hmx)
  generalize l.length = N at *
  clear hL hcl hmx
  go_enter Try.func10, Try.ntmps10
  go_upto_region 2 with (go_at_call 13; refine HTM.out.mono ?_; rintro e w1 ⟨c, q, l', rfl, h1, h2, h3, _, hb1⟩; have HL := Lib.hid h1; have HOK := Lib.hid h3; have HB1 := Lib.hid hb1; clear h1 h3 hb1)
  have HGV := Lib.hid (give_at q c l' w1 HL.out (by omega))
  have HBU := Lib.hid (fun (q2 : Option Addr) (c2 : Nat) (W : World) (hW : LoadsAt W q2 l') => Busy_any q2 c2 l' W hW HOK.out (by omega))
  have HRB := Lib.hid (fun (W : World) (hW : Adds w1 W) => RBusy_any q c l' W (HL.out.later hW) HOK.out (by omega))
  obtain ⟨m, hm⟩ : ∃ m, m = l'.length := ⟨_, rfl⟩
  rw [← hm] at h2 HGV HBU HRB ⊢
  clear hm HTM
  go_upto_region 3 with (first
    | (go_at_call 16; refine HGV.out.mono ?_; rintro e w2 ⟨c2, q2, rfl, hq2, hb2⟩; have HQ2 := Lib.hid hq2; have HB2 := Lib.hid hb2; clear hq2 hb2)
    | (go_at_call 36; refine (HBU.out _ _ _ HQ2.out).mono ?_; rintro e w3 ⟨c3, q3, S, rfl, ho3, hs3, hl3, hb3⟩; have HO3 := Lib.hid ho3; have HS3 := Lib.hid hs3; have HB3 := Lib.hid hb3; clear ho3 hs3 hb3))
  go_upto_region 4 with (go_at_call 37; refine (HRB.out _ (HB2.out.trans HB3.out)).mono ?_; rintro e w4 ⟨c4, q4, S4, rfl, ho4, hs4, hl4, hb4⟩; have HO4 := Lib.hid ho4; have HS4 := Lib.hid hs4; have HB4 := Lib.hid hb4; clear ho4 hs4 hb4)
  have hSS : S4 = S := HS4.out.unique HS3.out
  subst hSS
  have HO3' := Lib.hid (own_later HO3.out HB4.out)
  obtain ⟨s, hs⟩ : ∃ s, s = S4.length := ⟨_, rfl⟩
  rw [← hs] at HO3' HO4 hl3 ⊢
  have HSL := Lib.hid hs
  have hss : (s : Int) = (s : Int) := rfl
  clear hs HO3 HS3 HS4 HGV HBU HRB hl4 hss
  go_upto_region 7 with fail
  go_loopw [7] (fun v7 wr => ∃ k : Nat, k ≤ s ∧ v7 = .int .i64 k ∧ Hid (Adds w4 wr)) (fun v7 _ => s - (intOf v7).toNat)
  case atStart => exact ⟨0, by omega, rfl, Lib.hid (Adds.refl _)⟩
  case round =>
    obtain ⟨k, hk, rfl, HAD⟩ := hrel
    by_cases hlt : k < s
    · have hlt2 : (k : Int) < (s : Int) := by omega
      obtain ⟨⟨a, b, x⟩, hx⟩ : ∃ x, S4[k]? = some x := ⟨_, List.getElem?_eq_getElem (by have := HSL.out; omega)⟩
      obtain ⟨g3, c3', eg, _⟩ := own_some HO3'.out (by omega)
      injection eg with eg1 eg2 eg3
      subst eg1
      clear eg2 eg3
      obtain ⟨g4, c4', eg, _⟩ := own_some HO4.out (by omega)
      injection eg with eg1 eg2 eg3
      subst eg1
      clear eg2 eg3
      obtain ⟨f0, f1, f2⟩ := flat3_get hx
      have d0 := keep_cell HAD.out (own_cell HO3'.out f0).1
      have d1 := keep_cell HAD.out (own_cell HO3'.out f1).1
      have d2 := keep_cell HAD.out (own_cell HO3'.out f2).1
      have k0 := keep_cell HAD.out (own_cell HO4.out f0).1
      have k1 := keep_cell HAD.out (own_cell HO4.out f1).1
      have k2 := keep_cell HAD.out (own_cell HO4.out f2).1
      dsimp only at d0 d1 d2 k0 k1 k2
      clear f0 f1 f2 hx
      have hnq := neq78 a b x
      have hng := neqg78
      go_upto_region 9 with fail
      go_quiet (fail)
      go_wp2
      exact ⟨⟨k + 1, by omega, by go_num, Lib.hid (HAD.out.drewN _)⟩, by simp [intOf]; omega⟩
    · have hdq : decide ((k : Int) < (s : Int)) = false := decide_eq_false (by omega)
      go_wp2_with (go_at_call 17; refine (awake_any _).mono ?_; rintro e w6 ⟨rfl, hb6⟩)
      go_ret
      exact ⟨rfl, (((((HB1.out.trans HB2.out).trans HB3.out).trans HB4.out).trans HAD.out)).trans hb6⟩
end Go.Proofs.Ytkofnhimgegcnaa
