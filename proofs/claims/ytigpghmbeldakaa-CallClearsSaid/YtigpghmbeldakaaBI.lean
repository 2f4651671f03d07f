/- What fills are: bounds, sums, the better price first. No Go here. -/
import Derived.Test.YtigpghmbeldakaaBH
namespace Go.Proofs.Ytigpghmbeldakaa
open Go.RowKit

/-- A function that shares gives nobody more than its weight. -/
def FUpTo (f : Int → List Int → List Int) : Prop := ∀ t ws, 0 ≤ t → qOk ws → ∀ (i : Nat) x, ws[i]? = some x → ∃ y, (f t ws)[i]? = some y ∧ 0 ≤ y ∧ y ≤ x

theorem turn_upto : FUpTo turnT := fun t ws ht hq i x hx => by
  have hb := left_bd ht hq i
  have hxb := hq x (List.mem_of_getElem? hx)
  exact ⟨_, turn_next hx, by omega, by omega⟩
theorem share_upto : FUpTo shareAll := fun t ws ht hq i x hx => by
  have hxb := hq x (List.mem_of_getElem? hx)
  have hs := sum_take_bd ws hq
  unfold shareAll
  rcases Int.lt_or_le 0 ws.sum with h | h
  · exact shareT_bd h (by omega) (by omega) hx hxb.1
  · rw [shareT_zero (Or.inr trivial) _ (by omega)]
    exact ⟨0, by rw [List.getElem?_replicate, if_pos (List.getElem?_eq_some_iff.1 hx).1], by omega, hxb.1⟩

/-- The quantity of the i-th bid. -/
def qtyOf (l : List Bd) (i : Nat) : Int := (l[i]!).2.2

/-- What lies at the places of a queue. -/
def atQ (F : List Int) (Q : List Int) : List Int := Q.map fun n => F[n.toNat]!

theorem qtyT_eq (l : List Bd) (Q : List Int) : qtyT l Q = Q.map fun n => qtyOf l n.toNat := rfl

theorem get!_set {F : List Int} {i j : Nat} {v : Int} (hi : i < F.length) : (F.set i v)[j]! = if i = j then v else F[j]! := by
  by_cases h : i = j
  · subst h
    simp [List.getElem!_eq_getElem?_getD, hi]
  · simp [List.getElem!_eq_getElem?_getD, List.getElem?_set, h]

/-- Numbers laid at different places are there. -/
theorem putT_spec : ∀ (g v F : List Int), g.Nodup → g.length = v.length → (∀ n ∈ g, 0 ≤ n ∧ n < F.length) →
    (∀ j : Nat, (j : Int) ∉ g → (putT F (g.zip v))[j]! = F[j]!) ∧ (∀ (k : Nat) n x, g[k]? = some n → v[k]? = some x → (putT F (g.zip v))[n.toNat]! = x)
  | [], v, F, _, _, _ => ⟨fun _ _ => by simp [putT], fun k n x h => by simp at h⟩
  | n :: g, [], F, _, hl, _ => by simp at hl
  | n :: g, x :: v, F, hnd, hl, hin => by
    obtain ⟨h1, h2⟩ := List.nodup_cons.1 hnd
    obtain ⟨hn0, hn1⟩ := hin n (by simp)
    obtain ⟨i1, i2⟩ := putT_spec g v (F.set n.toNat x) h2 (by simpa using hl) (fun m hm => by rw [List.length_set]; exact hin m (by simp [hm]))
    have e : putT F ((n :: g).zip (x :: v)) = putT (F.set n.toNat x) (g.zip v) := rfl
    rw [e]
    constructor
    · intro j hj
      rw [i1 j (fun h => hj (by simp [h])), get!_set (by omega), if_neg (fun h => hj (by simp [← h]; omega))]
    · intro k m y hm hy
      cases k with
      | zero =>
        simp only [List.getElem?_cons_zero, Option.some.injEq] at hm hy
        subst hm; subst hy
        rw [i1 n.toNat (fun h => h1 (by rwa [show ((n.toNat : Nat) : Int) = n by omega] at h)), get!_set (by omega), if_pos rfl]
      | succ k => exact i2 k m y (by simpa using hm) (by simpa using hy)

theorem atQ_congr {F F' Q : List Int} (h : ∀ n ∈ Q, F'[n.toNat]! = F[n.toNat]!) : atQ F' Q = atQ F Q := List.map_congr_left fun n hn => h n hn

/-- All that is given adds up to all that is asked: each is given what it asks. -/
theorem full_of_sum : ∀ (g : List Int) (u v : Int → Int), (∀ n ∈ g, u n ≤ v n) → (g.map u).sum = (g.map v).sum → ∀ n ∈ g, u n = v n
  | [], _, _, _, _ => fun n hn => by simp at hn
  | x :: g, u, v, hle, hs => by
    have hx := hle x (by simp)
    have hr : (g.map u).sum ≤ (g.map v).sum := by
      have : ∀ g : List Int, (∀ n ∈ g, u n ≤ v n) → (g.map u).sum ≤ (g.map v).sum := by
        intro g
        induction g with
        | nil => intro _; simp
        | cons y g ih => intro h; have := h y (by simp); have := ih (fun n hn => h n (by simp [hn])); simp only [List.map_cons, List.sum_cons]; omega
      exact this g (fun n hn => hle n (by simp [hn]))
    simp only [List.map_cons, List.sum_cons] at hs
    have ih := full_of_sum g u v (fun n hn => hle n (by simp [hn])) (by omega)
    intro n hn
    rcases List.mem_cons.1 hn with rfl | hn
    · omega
    · exact ih n hn

/-- What is served to a queue. -/
structure Serve (l : List Bd) (left : Int) (Q F F' : List Int) : Prop where
  len : F'.length = F.length
  out : ∀ j : Nat, (j : Int) ∉ Q → F'[j]! = F[j]!
  bd : ∀ n ∈ Q, 0 ≤ F'[n.toNat]! ∧ F'[n.toNat]! ≤ qtyOf l n.toNat
  sum : (atQ F' Q).sum = left
  prio : Q.Pairwise fun (i j : Int) => priceOf l i.toNat ≠ priceOf l j.toNat → 0 < F'[j.toNat]! → F'[i.toNat]! = qtyOf l i.toNat

theorem grp_price {l : List Bd} {Q : List Int} {x : Int} {Q' : List Int} (hQ : Q = x :: Q') : ∀ n ∈ grpT l Q, priceOf l n.toNat = priceOf l x.toNat := by
  subst hQ
  intro n hn
  unfold grpT at hn
  have h := List.all_takeWhile (p := fun i => decide (priceOf l i.toNat = priceOf l x.toNat)) (l := x :: Q')
  have := List.all_eq_true.1 h n hn
  simpa using this

theorem qty_nn {l : List Bd} (hok : ∀ b ∈ l, okB b = true) {n : Nat} (h : n < l.length) : 1 ≤ qtyOf l n := by
  have := okB_iff.1 (hok l[n]! (by rw [getElem!_pos l n h]; exact List.getElem_mem h))
  exact this.2.2.1

theorem serve_spec (f : Int → List Int → List Int) (hf : FShare f) (hu : FUpTo f) (l : List Bd) (hok : ∀ b ∈ l, okB b = true) : ∀ (n : Nat) (left : Int) (Q F : List Int), Q.length ≤ n → 0 ≤ left → left ≤ (qtyT l Q).sum → Q.Nodup → (∀ i ∈ Q, 0 ≤ i ∧ i < l.length) → F.length = l.length → (∀ i ∈ Q, F[i.toNat]! = 0) →
    Serve l left Q F (serveT f l n left Q F)
  | 0, left, Q, F, hn, h0, h1, hnd, hin, hl, hz => by
    have hQ : Q = [] := List.length_eq_zero_iff.1 (by omega)
    subst hQ
    exact ⟨rfl, fun _ _ => rfl, fun n hn => by simp at hn, by simp [atQ, qtyT] at h1 ⊢; omega, List.Pairwise.nil⟩
  | n + 1, left, Q, F, hn, h0, h1, hnd, hin, hl, hz => by
    rw [serveT]
    by_cases hleft : 0 < left
    · rw [if_pos hleft]
      cases hQ : Q with
      | nil => subst hQ; simp [qtyT] at h1; omega
      | cons x Q' =>
        rw [← hQ]
        have hsp := grp_split l Q
        have hpos := grp_pos (l := l) (Q := Q) (by rw [hQ]; simp)
        obtain ⟨g, hg⟩ : ∃ g, g = grpT l Q := ⟨_, rfl⟩
        obtain ⟨r, hr⟩ : ∃ r, r = Q.drop (grpT l Q).length := ⟨_, rfl⟩
        have hgp := grp_price (l := l) hQ
        have hrl : r.length < Q.length := by rw [hr, List.length_drop]; have : 0 < Q.length := by rw [hQ]; simp
                                             omega
        rw [← hr] at hsp ⊢
        rw [← hg] at hsp hpos hgp ⊢
        have hsp' : Q = g ++ r := hsp.symm
        clear hr
        have hq1 : (qtyT l Q).sum = (qtyT l g).sum + (qtyT l r).sum := by rw [hsp']; simp [qtyT]
        rw [hsp'] at hnd hin hz
        obtain ⟨hnd1, hnd2, hnd3⟩ := List.nodup_append.1 hnd
        have hing := fun i hi => hin i (List.mem_append_left r hi)
        have hinr := fun i hi => hin i (List.mem_append_right g hi)
        have hqok := qty_ok (l := l) hok (Q := g) hing
        obtain ⟨f1, f2, f3⟩ := hf left (qtyT l g) h0 hqok
        have hfu := hu left (qtyT l g) h0 hqok
        have hr0 := (sum_take_bd _ (qty_ok (l := l) hok (Q := r) hinr)).1
        obtain ⟨v, hv⟩ : ∃ v, v = f left (qtyT l g) := ⟨_, rfl⟩
        rw [← hv] at f1 f2 f3 hfu ⊢
        have hgl : (qtyT l g).length = g.length := by simp [qtyT]
        obtain ⟨p1, p2⟩ := putT_spec g v F hnd1 (by omega) (fun n hn => by rw [hl]; exact hing n hn)
        have hlen := putT_len (g.zip v) F
        obtain ⟨F1, hF1⟩ : ∃ F1, F1 = putT F (g.zip v) := ⟨_, rfl⟩
        rw [← hF1] at p1 p2 hlen ⊢
        have hat : atQ F1 g = v := by
          apply List.ext_getElem?
          intro k
          unfold atQ
          rw [List.getElem?_map]
          by_cases hk : k < g.length
          · have a1 : g[k]? = some g[k] := List.getElem?_eq_getElem hk
            have a2 : v[k]? = some v[k] := List.getElem?_eq_getElem (by omega)
            rw [a1, a2, Option.map_some, p2 k _ _ a1 a2]
          · rw [List.getElem?_eq_none (by omega), List.getElem?_eq_none (by omega)]
            rfl
        have hbd1 : ∀ n ∈ g, 0 ≤ F1[n.toNat]! ∧ F1[n.toNat]! ≤ qtyOf l n.toNat := fun n hn => by
          obtain ⟨k, hk, rfl⟩ := List.getElem_of_mem hn
          have a1 : g[k]? = some g[k] := List.getElem?_eq_getElem hk
          obtain ⟨y, b1, b2, b3⟩ := hfu k (qtyOf l (g[k]).toNat) (by rw [qtyT_eq, List.getElem?_map, a1]; rfl)
          rw [p2 k _ _ a1 b1]
          exact ⟨b2, b3⟩
        have hnotg : ∀ i ∈ r, (i.toNat : Int) ∉ g := fun i hi h => by
          have := hinr i hi
          rw [show ((i.toNat : Nat) : Int) = i by omega] at h
          exact hnd3 i h i hi rfl
        have hz1 : ∀ i ∈ r, F1[i.toNat]! = 0 := fun i hi => by rw [p1 _ (hnotg i hi)]; exact hz i (List.mem_append_right g hi)
        have hsumg : (atQ F1 g).sum = min left (qtyT l g).sum := by rw [hat, f2]
        have ih := serve_spec f hf hu l hok n (left - v.sum) r F1 (by omega) (by rw [f2]; omega) (by rw [f2]; omega) hnd2 hinr (by rw [hlen, hl]) hz1
        obtain ⟨i1, i2, i3, i4, i5⟩ := ih
        obtain ⟨F2, hF2⟩ : ∃ F2, F2 = serveT f l n (left - v.sum) r F1 := ⟨_, rfl⟩
        rw [← hF2] at i1 i2 i3 i4 i5 ⊢
        have hnotr : ∀ i ∈ g, (i.toNat : Int) ∉ r := fun i hi h => by
          have := hing i hi
          rw [show ((i.toNat : Nat) : Int) = i by omega] at h
          exact hnd3 i hi i h rfl
        have hsame : ∀ i ∈ g, F2[i.toNat]! = F1[i.toNat]! := fun i hi => i2 _ (hnotr i hi)
        rw [hsp']
        refine ⟨by rw [i1, hlen], ?_, ?_, ?_, ?_⟩
        · intro j hj
          rw [i2 j (fun h => hj (List.mem_append_right g h)), p1 j (fun h => hj (List.mem_append_left r h))]
        · intro m hm
          rcases List.mem_append.1 hm with hm | hm
          · rw [hsame m hm]; exact hbd1 m hm
          · exact i3 m hm
        · have e : atQ F2 (g ++ r) = atQ F2 g ++ atQ F2 r := by simp [atQ]
          rw [e, List.sum_append, i4, atQ_congr hsame, hat]
          omega
        · refine List.pairwise_append.2 ⟨?_, i5, ?_⟩
          · rw [List.pairwise_iff_getElem]
            intro i j hi hj _ hne
            exact absurd ((hgp _ (List.getElem_mem hi)).trans (hgp _ (List.getElem_mem hj)).symm) hne
          · intro i hi j hj _ hpos2
            have hlp : (qtyT l g).sum < left := by
              refine Int.not_le.1 fun hc => ?_
              have hall : (atQ F2 r).sum = 0 := by rw [i4, f2]; omega
              have : ∀ l' : List Int, (∀ n ∈ l', 0 ≤ F2[n.toNat]!) → (atQ F2 l').sum = 0 → ∀ n ∈ l', F2[n.toNat]! = 0 := by
                intro l'
                induction l' with
                | nil => intro _ _ n hn; simp at hn
                | cons y l' ih =>
                  intro h1 h2 n hn
                  have hy := h1 y (by simp)
                  have hs : 0 ≤ (atQ F2 l').sum := by
                    have : ∀ l' : List Int, (∀ n ∈ l', 0 ≤ F2[n.toNat]!) → 0 ≤ (atQ F2 l').sum := by
                      intro l'
                      induction l' with
                      | nil => intro _; simp [atQ]
                      | cons z l' ih2 => intro h; have := h z (by simp); have := ih2 (fun n hn => h n (by simp [hn])); simp only [atQ, List.map_cons, List.sum_cons] at *; omega
                    exact this l' (fun n hn => h1 n (by simp [hn]))
                  have e : (atQ F2 (y :: l')).sum = F2[y.toNat]! + (atQ F2 l').sum := by simp [atQ]
                  rw [e] at h2
                  rcases List.mem_cons.1 hn with rfl | hn
                  · omega
                  · exact ih (fun n hn => h1 n (by simp [hn])) (by omega) n hn
              have := this r (fun n hn => (i3 n hn).1) hall j hj
              omega
            have hfull := full_of_sum g (fun n => F1[n.toNat]!) (fun n => qtyOf l n.toNat) (fun n hn => (hbd1 n hn).2) (by
              have : (g.map fun n => F1[n.toNat]!).sum = (atQ F1 g).sum := rfl
              rw [this, hsumg, ← qtyT_eq]
              omega) i hi
            rw [hsame i hi]
            exact hfull
    · rw [if_neg hleft]
      have hl0 : left = 0 := by omega
      subst hl0
      refine ⟨rfl, fun _ _ => rfl, fun n hn => ?_, ?_, ?_⟩
      · rw [hz n hn]
        have := qty_nn hok (show n.toNat < l.length by have := hin n hn; omega)
        omega
      · have : atQ F Q = List.replicate Q.length 0 := by
          rw [List.eq_replicate_iff]
          refine ⟨by simp [atQ], fun b hb => ?_⟩
          obtain ⟨n, hn, rfl⟩ := List.mem_map.1 hb
          exact hz n hn
        rw [this]
        simp
      · rw [List.pairwise_iff_getElem]
        intro i j hi hj _ _ hp
        rw [hz _ (List.getElem_mem hj)] at hp
        omega

/-- What fills at a price are. -/
structure FillOk (l : List Bd) (x V : Int) (F : List Int) : Prop where
  len : F.length = l.length
  bd : ∀ i, i < l.length → 0 ≤ F[i]! ∧ F[i]! ≤ qtyOf l i
  out : ∀ i, i < l.length → takesB l[i]! x = false → F[i]! = 0
  buy : (atQ F (partT l x 1 l.length)).sum = V
  sell : (atQ F (partT l x 2 l.length)).sum = V
  prio : ∀ side, side = 1 ∨ side = 2 → ∀ i j, i < l.length → j < l.length → partB l x side i = true → partB l x side j = true → keyT l side i < keyT l side j → 0 < F[j]! → F[i]! = qtyOf l i

theorem part_nodup (l : List Bd) (x side : Int) (n : Nat) : (partT l x side n).Nodup := (partT_asc l x side n).imp (fun {a b} h => by omega)
theorem part_mem {l : List Bd} {x side : Int} {n i : Nat} : (i : Int) ∈ partT l x side n ↔ i < n ∧ partB l x side i = true := by
  unfold partT
  rw [List.mem_map]
  constructor
  · rintro ⟨j, hj, he⟩
    have := List.mem_filter.1 hj
    simp only [Int.ofNat_eq_natCast] at he
    have : j = i := by omega
    subst this
    exact ⟨List.mem_range.1 (List.mem_filter.1 hj).1, (List.mem_filter.1 hj).2⟩
  · intro h
    exact ⟨i, List.mem_filter.2 ⟨List.mem_range.2 h.1, h.2⟩, rfl⟩
theorem rank_mem {l : List Bd} {x side : Int} {R : List Int} (h : RankOf l x side R) {i : Nat} : (i : Int) ∈ R ↔ i < l.length ∧ partB l x side i = true := by
  rw [h.1.mem_iff, part_mem]
theorem atQ_perm {F Q Q' : List Int} (h : Q.Perm Q') : (atQ F Q).sum = (atQ F Q').sum := perm_sum' (h.map _)

theorem price_of_key {l : List Bd} {side : Int} {i j : Nat} (h : keyT l side i < keyT l side j) : priceOf l i ≠ priceOf l j := by
  unfold keyT at h
  split at h <;> omega

/-- One side of the fills. -/
theorem prio_of {l : List Bd} {x side : Int} {R F F' : List Int} {left : Int} (hR : RankOf l x side R) (hs : Serve l left R F F') {i j : Nat} (hi : i < l.length) (hj : j < l.length) (pi : partB l x side i = true) (pj : partB l x side j = true) (hk : keyT l side i < keyT l side j) (hp : 0 < F'[j]!) : F'[i]! = qtyOf l i := by
  have mi := (rank_mem hR).2 ⟨hi, pi⟩
  have mj := (rank_mem hR).2 ⟨hj, pj⟩
  obtain ⟨a, ha, hae⟩ := List.getElem_of_mem mi
  obtain ⟨b, hb, hbe⟩ := List.getElem_of_mem mj
  have hab : a < b := by
    rcases Nat.lt_trichotomy a b with h | h | h
    · exact h
    · subst h
      rw [hae] at hbe
      have : i = j := by omega
      subst this
      omega
    · have := (List.pairwise_iff_getElem.1 hR.2) b a hb ha h
      rw [hae, hbe] at this
      simp only [Int.toNat_natCast] at this
      omega
  have := (List.pairwise_iff_getElem.1 hs.prio) a b ha hb hab
  rw [hae, hbe] at this
  simp only [Int.toNat_natCast] at this
  exact this (price_of_key hk) hp

theorem sides_apart {l : List Bd} {x : Int} {i : Nat} (h1 : partB l x 1 i = true) (h2 : partB l x 2 i = true) : False := by
  unfold partB at h1 h2
  simp only [Bool.and_eq_true, decide_eq_true_eq] at h1 h2
  omega

theorem fill_ok {f : Int → List Int → List Int} (hf : FShare f) (hu : FUpTo f) {l : List Bd} (hok : ∀ b ∈ l, okB b = true) {x V : Int} {F : List Int} (h : FillAt f l x V 2 F) (h0 : 0 ≤ V) (h1 : V ≤ dem l x) (h2 : V ≤ sup l x) : FillOk l x V F := by
  unfold FillAt at h
  obtain ⟨R, R', hR, hR', rfl⟩ := h
  have s1 : (qtyT l R).sum = dem l x := by rw [rank_sum hR (Or.inl rfl), if_pos rfl]
  have s2 : (qtyT l R').sum = sup l x := by rw [rank_sum hR' (Or.inr rfl), if_neg (by omega)]
  have nd1 : R.Nodup := hR.1.nodup_iff.2 (part_nodup _ _ _ _)
  have nd2 : R'.Nodup := hR'.1.nodup_iff.2 (part_nodup _ _ _ _)
  have z0 : ∀ i : Nat, (List.replicate l.length (0 : Int))[i]! = 0 := fun i => by
    rw [List.getElem!_eq_getElem?_getD, List.getElem?_replicate]
    split <;> rfl
  have a1 := serve_spec f hf hu l hok R.length V R (List.replicate l.length 0) (Nat.le_refl _) h0 (by omega) nd1 (rank_in hR) (by simp) (fun i _ => z0 _)
  obtain ⟨F1, hF1⟩ : ∃ F1, F1 = serveT f l R.length V R (List.replicate l.length 0) := ⟨_, rfl⟩
  rw [← hF1] at a1 ⊢
  have hnot : ∀ i : Nat, (i : Int) ∈ R' → (i : Int) ∉ R := fun i hi hi2 => sides_apart ((rank_mem hR).1 hi2).2 ((rank_mem hR').1 hi).2
  have a2 := serve_spec f hf hu l hok R'.length V R' F1 (Nat.le_refl _) h0 (by omega) nd2 (rank_in hR') (by rw [a1.len]; simp) (fun i hi => by
    have := rank_in hR' i hi
    obtain ⟨k, rfl⟩ : ∃ k : Nat, i = (k : Int) := ⟨i.toNat, by omega⟩
    rw [Int.toNat_natCast, a1.out k (hnot k hi), z0])
  obtain ⟨F2, hF2⟩ : ∃ F2, F2 = serveT f l R'.length V R' F1 := ⟨_, rfl⟩
  rw [← hF2] at a2 ⊢
  have same1 : ∀ i : Nat, (i : Int) ∈ R → F2[i]! = F1[i]! := fun i hi => a2.out i (fun h => hnot i h hi)
  have hq : ∀ i, i < l.length → 1 ≤ qtyOf l i := fun i hi => qty_nn hok hi
  refine ⟨by rw [a2.len, a1.len]; simp, ?_, ?_, ?_, ?_, ?_⟩
  · intro i hi
    by_cases m2 : (i : Int) ∈ R'
    · have := a2.bd _ m2
      rwa [Int.toNat_natCast] at this
    · rw [a2.out i m2]
      by_cases m1 : (i : Int) ∈ R
      · have := a1.bd _ m1
        rwa [Int.toNat_natCast] at this
      · rw [a1.out i m1, z0]
        have := hq i hi
        omega
  · intro i hi ht
    have m1 : (i : Int) ∉ R := fun h => by
      have := ((rank_mem hR).1 h).2
      unfold partB at this
      rw [ht] at this
      simp at this
    have m2 : (i : Int) ∉ R' := fun h => by
      have := ((rank_mem hR').1 h).2
      unfold partB at this
      rw [ht] at this
      simp at this
    rw [a2.out i m2, a1.out i m1, z0]
  · rw [← atQ_perm hR.1, atQ_congr (F := F1) (fun n hn => by
      have := rank_in hR n hn
      obtain ⟨k, rfl⟩ : ∃ k : Nat, n = (k : Int) := ⟨n.toNat, by omega⟩
      rw [Int.toNat_natCast]
      exact same1 k hn)]
    exact a1.sum
  · rw [← atQ_perm hR'.1]
    exact a2.sum
  · intro side hside i j hi hj pi pj hk hp
    rcases hside with rfl | rfl
    · have mi := (rank_mem hR).2 ⟨hi, pi⟩
      have mj := (rank_mem hR).2 ⟨hj, pj⟩
      rw [same1 i mi]
      rw [same1 j mj] at hp
      exact prio_of hR a1 hi hj pi pj hk hp
    · exact prio_of hR' a2 hi hj pi pj hk hp

end Go.Proofs.Ytigpghmbeldakaa
