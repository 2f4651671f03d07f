/- Equal bids are served alike. -/
import Derived.Test.YtigpghmbeldakaaBJ
namespace Go.Proofs.Ytigpghmbeldakaa
open Go.RowKit

/-- Of two equal weights the later one is given as much as the earlier one, or 1 less. -/
def FEven (f : Int → List Int → List Int) : Prop := ∀ t ws, 0 ≤ t → qOk ws → ∀ (a b : Nat) x, a < b → ws[a]? = some x → ws[b]? = some x → ∃ y z, (f t ws)[a]? = some y ∧ (f t ws)[b]? = some z ∧ z ≤ y ∧ y ≤ z + 1

theorem rank_mono {key : Nat → Int} {n a b : Nat} (h : a < b) (hk : key a = key b) : rankOf key n a ≤ rankOf key n b := by
  unfold rankOf
  rw [← List.countP_eq_length_filter, ← List.countP_eq_length_filter]
  refine List.countP_mono_left fun j _ hj => ?_
  have := of_decide_eq_true hj
  refine decide_eq_true ?_
  rw [← hk]
  omega

theorem share_even : FEven shareAll := by
  intro t ws ht hq a b x hab ha hb
  unfold shareAll
  have h1 := shareT_at (t := min t ws.sum) ha
  have h2 := shareT_at (t := min t ws.sum) hb
  refine ⟨_, _, h1, h2, ?_⟩
  have hk : shareKey (min t ws.sum) ws a = shareKey (min t ws.sum) ws b := by
    unfold shareKey
    rw [List.getElem!_eq_getElem?_getD, List.getElem!_eq_getElem?_getD, ha, hb]
  have hr := rank_mono (n := ws.length) hab hk
  split <;> split <;> omega

theorem drop_while_sorted {k : Int → Int} (c : Int) : ∀ (Q : List Int), (Q.Pairwise fun a b => k a ≤ k b) → (∀ a ∈ Q, c ≤ k a) → ∀ j ∈ Q.drop (Q.takeWhile fun i => decide (k i = c)).length, k j ≠ c
  | [], _, _ => fun j hj => by simp at hj
  | a :: Q, hp, hc => by
    intro j hj
    obtain ⟨h1, h2⟩ := List.pairwise_cons.1 hp
    by_cases ha : k a = c
    · rw [List.takeWhile_cons, if_pos (decide_eq_true ha), List.length_cons, List.drop_succ_cons] at hj
      exact drop_while_sorted c Q h2 (fun b hb => hc b (List.mem_cons_of_mem a hb)) j hj
    · rw [List.takeWhile_cons, if_neg (by simp [ha]), List.length_nil, List.drop_zero] at hj
      have := hc a (by simp)
      rcases List.mem_cons.1 hj with rfl | hj
      · exact ha
      · have := h1 j hj
        omega

theorem grp_apart {l : List Bd} {side x : Int} {Q Q' : List Int} (hQ : Q = x :: Q') (hs : LexSorted (keyT l side) Q) : ∀ j ∈ Q.drop (grpT l Q).length, priceOf l j.toNat ≠ priceOf l x.toNat := by
  have hle : Q.Pairwise fun a b : Int => keyT l side a.toNat ≤ keyT l side b.toNat := hs.imp (fun {a b} h => by omega)
  have hfun : (fun i : Int => decide (priceOf l i.toNat = priceOf l x.toNat)) = fun i : Int => decide (keyT l side i.toNat = keyT l side x.toNat) := by
    funext i
    rw [decide_eq_decide]
    unfold keyT
    split <;> omega
  have hmin : ∀ a ∈ Q, keyT l side x.toNat ≤ keyT l side a.toNat := by
    intro a ha
    rw [hQ] at ha hle
    rcases List.mem_cons.1 ha with rfl | ha
    · omega
    · exact (List.pairwise_cons.1 hle).1 a ha
  intro j hj
  have hg : grpT l Q = Q.takeWhile fun i => decide (keyT l side i.toNat = keyT l side x.toNat) := by
    rw [← hfun, hQ]
    rfl
  rw [hg] at hj
  have := drop_while_sorted (k := fun i => keyT l side i.toNat) _ Q hle hmin j hj
  intro he
  refine this ?_
  show keyT l side j.toNat = keyT l side x.toNat
  unfold keyT
  rw [he]

/-- Equal bids of one price. -/
def Even (l : List Bd) (F : List Int) (i j : Int) : Prop := priceOf l i.toNat = priceOf l j.toNat → qtyOf l i.toNat = qtyOf l j.toNat → F[j.toNat]! ≤ F[i.toNat]! ∧ F[i.toNat]! ≤ F[j.toNat]! + 1

theorem serve_even (f : Int → List Int → List Int) (hf : FShare f) (hu : FUpTo f) (he : FEven f) (l : List Bd) (hok : ∀ b ∈ l, okB b = true) (side : Int) : ∀ (n : Nat) (left : Int) (Q F : List Int), Q.length ≤ n → 0 ≤ left → left ≤ (qtyT l Q).sum → Q.Nodup → (∀ i ∈ Q, 0 ≤ i ∧ i < l.length) → F.length = l.length → (∀ i ∈ Q, F[i.toNat]! = 0) → LexSorted (keyT l side) Q →
    Q.Pairwise (Even l (serveT f l n left Q F))
  | 0, left, Q, F, hn, h0, h1, hnd, hin, hl, hz, hs => by
    have hQ : Q = [] := List.length_eq_zero_iff.1 (by omega)
    subst hQ
    exact List.Pairwise.nil
  | n + 1, left, Q, F, hn, h0, h1, hnd, hin, hl, hz, hs => by
    rw [serveT]
    by_cases hleft : 0 < left
    · rw [if_pos hleft]
      cases hQ : Q with
      | nil => exact List.Pairwise.nil
      | cons x Q' =>
        rw [← hQ]
        have hap := grp_apart hQ hs
        have hsp := grp_split l Q
        have hpos := grp_pos (l := l) (Q := Q) (by rw [hQ]; simp)
        obtain ⟨g, hg⟩ : ∃ g, g = grpT l Q := ⟨_, rfl⟩
        obtain ⟨r, hr⟩ : ∃ r, r = Q.drop (grpT l Q).length := ⟨_, rfl⟩
        have hgp := grp_price (l := l) hQ
        have hrl : r.length < Q.length := by rw [hr, List.length_drop]; have : 0 < Q.length := by rw [hQ]; simp
                                             omega
        rw [← hr] at hsp hap ⊢
        rw [← hg] at hsp hpos hgp ⊢
        have hsp' : Q = g ++ r := hsp.symm
        clear hr
        have hq1 : (qtyT l Q).sum = (qtyT l g).sum + (qtyT l r).sum := by rw [hsp']; simp [qtyT]
        rw [hsp'] at hnd hin hz hs
        obtain ⟨hnd1, hnd2, hnd3⟩ := List.nodup_append.1 hnd
        have hing := fun i hi => hin i (List.mem_append_left r hi)
        have hinr := fun i hi => hin i (List.mem_append_right g hi)
        have hqok := qty_ok (l := l) hok (Q := g) hing
        obtain ⟨f1, f2, f3⟩ := hf left (qtyT l g) h0 hqok
        have hfe := he left (qtyT l g) h0 hqok
        have hr0 := (sum_take_bd _ (qty_ok (l := l) hok (Q := r) hinr)).1
        obtain ⟨v, hv⟩ : ∃ v, v = f left (qtyT l g) := ⟨_, rfl⟩
        rw [← hv] at f1 f2 f3 hfe ⊢
        have hgl : (qtyT l g).length = g.length := by simp [qtyT]
        obtain ⟨p1, p2⟩ := putT_spec g v F hnd1 (by omega) (fun n hn => by rw [hl]; exact hing n hn)
        have hlen := putT_len (g.zip v) F
        obtain ⟨F1, hF1⟩ : ∃ F1, F1 = putT F (g.zip v) := ⟨_, rfl⟩
        rw [← hF1] at p1 p2 hlen ⊢
        have hnotg : ∀ i ∈ r, (i.toNat : Int) ∉ g := fun i hi h => by
          have := hinr i hi
          rw [show ((i.toNat : Nat) : Int) = i by omega] at h
          exact hnd3 i h i hi rfl
        have hz1 : ∀ i ∈ r, F1[i.toNat]! = 0 := fun i hi => by rw [p1 _ (hnotg i hi)]; exact hz i (List.mem_append_right g hi)
        have ih := serve_even f hf hu he l hok side n (left - v.sum) r F1 (by omega) (by rw [f2]; omega) (by rw [f2]; omega) hnd2 hinr (by rw [hlen, hl]) hz1 (List.pairwise_append.1 hs).2.1
        have i2 := (serve_spec f hf hu l hok n (left - v.sum) r F1 (by omega) (by rw [f2]; omega) (by rw [f2]; omega) hnd2 hinr (by rw [hlen, hl]) hz1).out
        obtain ⟨F2, hF2⟩ : ∃ F2, F2 = serveT f l n (left - v.sum) r F1 := ⟨_, rfl⟩
        rw [← hF2] at ih i2 ⊢
        have hnotr : ∀ i ∈ g, (i.toNat : Int) ∉ r := fun i hi h => by
          have := hing i hi
          rw [show ((i.toNat : Nat) : Int) = i by omega] at h
          exact hnd3 i hi i h rfl
        have hsame : ∀ i ∈ g, F2[i.toNat]! = F1[i.toNat]! := fun i hi => i2 _ (hnotr i hi)
        rw [hsp']
        refine List.pairwise_append.2 ⟨?_, ih, ?_⟩
        · rw [List.pairwise_iff_getElem]
          intro a b ha hb hab _ hqe
          rw [hsame _ (List.getElem_mem ha), hsame _ (List.getElem_mem hb)]
          have ga : g[a]? = some g[a] := List.getElem?_eq_getElem ha
          have gb : g[b]? = some g[b] := List.getElem?_eq_getElem hb
          obtain ⟨y, z, e1, e2, e3, e4⟩ := hfe a b (qtyOf l (g[a]).toNat) hab (by rw [qtyT_eq, List.getElem?_map, ga]; rfl) (by rw [qtyT_eq, List.getElem?_map, gb, hqe]; rfl)
          rw [p2 a _ _ ga e1, p2 b _ _ gb e2]
          exact ⟨e3, e4⟩
        · intro i hi j hj hpe
          exact absurd ((hgp i hi).symm.trans hpe).symm (hap j hj)
    · rw [if_neg hleft]
      rw [List.pairwise_iff_getElem]
      intro a b ha hb _ _ _
      rw [hz _ (List.getElem_mem ha), hz _ (List.getElem_mem hb)]
      omega

/-- Of two numbers of one key the lesser one stands first. -/
theorem rank_before {l : List Bd} {x side : Int} {R : List Int} {P : Int → Int → Prop} (hR : RankOf l x side R) (hp : R.Pairwise P) {i k : Nat} (hk : k < i) (mi : (i : Int) ∈ R) (mk : (k : Int) ∈ R) (he : keyT l side i = keyT l side k) : P k i := by
  obtain ⟨a, ha, hae⟩ := List.getElem_of_mem mi
  obtain ⟨b, hb, hbe⟩ := List.getElem_of_mem mk
  have hba : b < a := by
    rcases Nat.lt_trichotomy a b with h | h | h
    · have := (List.pairwise_iff_getElem.1 hR.2) a b ha hb h
      rw [hae, hbe] at this
      simp only [Int.toNat_natCast] at this
      omega
    · subst h
      rw [hae] at hbe
      omega
    · exact h
  have := (List.pairwise_iff_getElem.1 hp) b a hb ha hba
  rwa [hae, hbe] at this

/-- Of two equal bids the later one trades as much as the earlier one, or 1 less. -/
theorem fill_even {f : Int → List Int → List Int} (hf : FShare f) (hu : FUpTo f) (he : FEven f) {l : List Bd} (hok : ∀ b ∈ l, okB b = true) {x V : Int} {F : List Int} (h : FillAt f l x V 2 F) (h0 : 0 ≤ V) (h1 : V ≤ dem l x) (h2 : V ≤ sup l x) {i k : Nat} (hk : k < i) (hi : i < l.length) (heq : l[i]! = l[k]!) : F[i]! ≤ F[k]! ∧ F[k]! ≤ F[i]! + 1 := by
  unfold FillAt at h
  obtain ⟨R, R', hR, hR', rfl⟩ := h
  have s1 : (qtyT l R).sum = dem l x := by rw [rank_sum hR (Or.inl rfl), if_pos rfl]
  have s2 : (qtyT l R').sum = sup l x := by rw [rank_sum hR' (Or.inr rfl), if_neg (by omega)]
  have nd1 : R.Nodup := hR.1.nodup_iff.2 (part_nodup _ _ _ _)
  have nd2 : R'.Nodup := hR'.1.nodup_iff.2 (part_nodup _ _ _ _)
  have z0 : ∀ i : Nat, (List.replicate l.length (0 : Int))[i]! = 0 := fun i => by
    rw [List.getElem!_eq_getElem?_getD, List.getElem?_replicate]
    split <;> rfl
  have a1 := serve_spec f hf hu l hok R.length V R (List.replicate l.length 0) (Nat.le_refl _) h0 (by omega) nd1 (rank_in hR) (by simp) (fun i _ => z0 _)
  have e1 := serve_even f hf hu he l hok 1 R.length V R (List.replicate l.length 0) (Nat.le_refl _) h0 (by omega) nd1 (rank_in hR) (by simp) (fun i _ => z0 _) hR.2
  obtain ⟨F1, hF1⟩ : ∃ F1, F1 = serveT f l R.length V R (List.replicate l.length 0) := ⟨_, rfl⟩
  rw [← hF1] at a1 e1 ⊢
  have hnot : ∀ i : Nat, (i : Int) ∈ R' → (i : Int) ∉ R := fun i hi hi2 => sides_apart ((rank_mem hR).1 hi2).2 ((rank_mem hR').1 hi).2
  have hz : ∀ i ∈ R', F1[i.toNat]! = 0 := fun i hi => by
    have := rank_in hR' i hi
    obtain ⟨k, rfl⟩ : ∃ k : Nat, i = (k : Int) := ⟨i.toNat, by omega⟩
    rw [Int.toNat_natCast, a1.out k (hnot k hi), z0]
  have a2 := serve_spec f hf hu l hok R'.length V R' F1 (Nat.le_refl _) h0 (by omega) nd2 (rank_in hR') (by rw [a1.len]; simp) hz
  have e2 := serve_even f hf hu he l hok 2 R'.length V R' F1 (Nat.le_refl _) h0 (by omega) nd2 (rank_in hR') (by rw [a1.len]; simp) hz hR'.2
  obtain ⟨F2, hF2⟩ : ∃ F2, F2 = serveT f l R'.length V R' F1 := ⟨_, rfl⟩
  rw [← hF2] at a2 e2 ⊢
  have hpr : priceOf l k = priceOf l i := by unfold priceOf; rw [heq]
  have hqt : qtyOf l k = qtyOf l i := by unfold qtyOf; rw [heq]
  have hpart : ∀ side, partB l x side k = partB l x side i := fun side => by unfold partB; rw [heq]
  have hkey : ∀ side, keyT l side i = keyT l side k := fun side => by unfold keyT; rw [hpr]
  have hkl : k < l.length := by omega
  by_cases m2 : (i : Int) ∈ R'
  · have mk : (k : Int) ∈ R' := (rank_mem hR').2 ⟨hkl, by rw [hpart]; exact ((rank_mem hR').1 m2).2⟩
    have := rank_before hR' e2 hk m2 mk (hkey 2)
    unfold Even at this
    simp only [Int.toNat_natCast] at this
    exact this hpr hqt
  · have mk2 : (k : Int) ∉ R' := fun h => m2 ((rank_mem hR').2 ⟨hi, by rw [← hpart]; exact ((rank_mem hR').1 h).2⟩)
    rw [a2.out i m2, a2.out k mk2]
    by_cases m1 : (i : Int) ∈ R
    · have mk : (k : Int) ∈ R := (rank_mem hR).2 ⟨hkl, by rw [hpart]; exact ((rank_mem hR).1 m1).2⟩
      have := rank_before hR e1 hk m1 mk (hkey 1)
      unfold Even at this
      simp only [Int.toNat_natCast] at this
      exact this hpr hqt
    · have mk : (k : Int) ∉ R := fun h => m1 ((rank_mem hR).2 ⟨hi, by rw [← hpart]; exact ((rank_mem hR).1 h).2⟩)
      rw [a1.out i m1, a1.out k mk, z0, z0]
      omega

/-- The order of the bids counts for nothing. -/
theorem dem_rev (l : List Bd) (x : Int) : dem l.reverse x = dem l x := by unfold dem; exact perm_sum' ((List.reverse_perm l).map _)
theorem sup_rev (l : List Bd) (x : Int) : sup l.reverse x = sup l x := by unfold sup; exact perm_sum' ((List.reverse_perm l).map _)
theorem vol_rev (l : List Bd) : volAt l.reverse = volAt l := by funext x; unfold volAt; rw [dem_rev, sup_rev]
theorem sur_rev (l : List Bd) : surAt l.reverse = surAt l := by funext x; unfold surAt; rw [dem_rev, sup_rev]
theorem best_rev (l : List Bd) : BestAt l.reverse = BestAt l := by funext x; unfold BestAt; rw [vol_rev]
theorem few_rev (l : List Bd) : FewAt l.reverse = FewAt l := by funext x; unfold FewAt; rw [best_rev, sur_rev]
theorem price_rev {l : List Bd} {p x : Int} (h : PriceAt l.reverse p x) : PriceAt l p x := by
  have ha : Above l.reverse = Above l := by unfold Above; rw [few_rev, sur_rev]
  have hu : Under l.reverse = Under l := by unfold Under; rw [few_rev, sur_rev]
  obtain ⟨h1, h2, h3, h4⟩ := h
  rw [ha, few_rev] at h2
  rw [hu, few_rev] at h3
  rw [ha, hu, few_rev] at h4
  rw [few_rev] at h1
  exact ⟨h1, h2, h3, h4⟩

theorem orders_res {L : List Bd} {p r1 r2 px v sr er px2 v2 sr2 er2 : Int} {fv fv2 : Value} {w w1 w2 w3 : World} (h1 : ClearRes (PriceAt L p) L r1 px v sr fv er w w1) (h2 : ClearRes (PriceAt L.reverse p) L.reverse r2 px2 v2 sr2 fv2 er2 w2 w3) : er = er2 ∧ px = px2 ∧ v = v2 ∧ sr = sr2 := by
  by_cases e1 : er = 0
  · obtain ⟨a1, a2, a3, a4, _⟩ := h1.yes e1
    by_cases e2 : er2 = 0
    · obtain ⟨b1, b2, b3, b4, _⟩ := h2.yes e2
      have := a1.unique (price_rev b1)
      subst this
      rw [vol_rev] at b2
      rw [sur_rev] at b4
      exact ⟨by omega, rfl, by omega, by omega⟩
    · obtain ⟨_, _, _, _, _, x, hx, hv⟩ := h2.no e2
      have := a1.unique (price_rev hx)
      subst this
      rw [vol_rev] at hv
      omega
  · obtain ⟨c1, c2, c3, c4, _, x, hx, hv⟩ := h1.no e1
    by_cases e2 : er2 = 0
    · obtain ⟨b1, b2, b3, b4, _⟩ := h2.yes e2
      have := hx.unique (price_rev b1)
      subst this
      rw [vol_rev] at b2
      omega
    · obtain ⟨d1, d2, d3, d4, _⟩ := h2.no e2
      omega

end Go.Proofs.Ytigpghmbeldakaa
