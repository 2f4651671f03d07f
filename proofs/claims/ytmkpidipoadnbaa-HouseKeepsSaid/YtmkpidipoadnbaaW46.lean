/- A loss covered keeps what a house keeps. -/
import Derived.Test.YtmkpidipoadnbaaW45
namespace Go.Proofs.Ytmkpidipoadnbaa
open Go Go.RowKit Go.Sort

theorem sum_parts (f : Nat → Int) (p : Nat → Bool) : ∀ l : List Nat, (l.map f).sum = ((l.filter p).map f).sum + ((l.filter fun i => !p i).map f).sum
  | [] => by simp
  | i :: l => by
    have ih := sum_parts f p l
    cases h : p i <;> simp [h, ih] <;> omega
theorem sum_le_one {f : Nat → Int} : ∀ {l : List Nat} {i : Nat}, i ∈ l → (∀ j ∈ l, j ≠ i → f j ≤ 0) → l.Nodup → (l.map f).sum ≤ f i
  | [], i, h, _, _ => by cases h
  | j :: l, i, h, hf, hn => by
    rw [List.nodup_cons] at hn
    have key : ∀ l : List Nat, (∀ j ∈ l, f j ≤ 0) → (l.map f).sum ≤ 0 := fun l => by
      induction l with
      | nil => intro _; simp
      | cons j l ih => intro hl; have h1 := hl j (by simp); have h2 := ih (fun k hk => hl k (by simp [hk])); simp only [List.map_cons, List.sum_cons]; omega
    rcases List.mem_cons.1 h with e | e
    · subst e
      have := key l (fun k hk => hf k (by simp [hk]) (fun e => hn.1 (e ▸ hk)))
      simp only [List.map_cons, List.sum_cons]
      omega
    · have h1 := hf j (by simp) (fun e2 => hn.1 (e2 ▸ e))
      have h2 := sum_le_one e (fun k hk => hf k (by simp [hk])) hn.2
      simp only [List.map_cons, List.sum_cons]
      omega
theorem sumG_range (g : Ac → Int) (l : List Ac) : sumG g l = ((List.range l.length).map fun i => (l[i]?.map g).getD 0).sum := by
  unfold sumG
  congr 1
  apply List.ext_getElem?
  intro i
  by_cases h : i < l.length
  · simp [h]
  · rw [List.getElem?_eq_none (by rw [List.length_map]; omega), List.getElem?_eq_none (by rw [List.length_map, List.length_range]; omega)]
theorem sizeL_of {ab : Bool} : ∀ (l : List Int), (∀ v ∈ l, if ab then 0 < v else v < 0) → (sizeL l).sum = if ab then l.sum else -l.sum
  | [], _ => by cases ab <;> rfl
  | v :: l, h => by
    have ih := sizeL_of (ab := ab) l (fun x hx => h x (by simp [hx]))
    have h1 := h v (by simp)
    unfold sizeL at ih ⊢
    simp only [List.map_cons, List.sum_cons, ih]
    cases ab
    · simp at h1 ⊢; omega
    · simp at h1 ⊢; omega
/-- A position of a member that is out finds as much on the other side. -/
theorem pots_enough {h : Hs} {k i : Nat} {b : Ac} (hs : sumG (valP k) h.ac = 0) (hb : h.ac[i]? = some b) (ho : b.out = true) (hz : ∀ j a, j ≠ i → h.ac[j]? = some a → a.out = true → valP k a = 0) :
    (potF h (decide (valP k b < 0)) (valP k) (max (valP k b) (-(valP k b)))).sum = max (valP k b) (-(valP k b)) := by
  unfold potF
  rw [shareU_sum (by omega) (sizes_pos _), sizeL_of _ (potV_sign h (decide (valP k b < 0)) (valP k))]
  have hi := (List.getElem?_eq_some_iff.1 hb).1
  have hsum := hs
  rw [sumG_range, sum_parts _ (potB h (decide (valP k b < 0)) (valP k))] at hsum
  have hpv : potV h (valP k) (potL h (decide (valP k b < 0)) (valP k) h.ac.length) = ((List.range h.ac.length).filter (potB h (decide (valP k b < 0)) (valP k))).map fun i => (h.ac[i]?.map (valP k)).getD 0 := rfl
  rw [← hpv] at hsum
  have hni : i ∈ (List.range h.ac.length).filter fun j => !potB h (decide (valP k b < 0)) (valP k) j := by
    refine List.mem_filter.2 ⟨List.mem_range.2 hi, ?_⟩
    unfold potB
    rw [hb]
    simp [ho]
  have hnd : ((List.range h.ac.length).filter fun j => !potB h (decide (valP k b < 0)) (valP k) j).Nodup := List.Pairwise.filter _ List.nodup_range
  have hfi : (fun j => (h.ac[j]?.map (valP k)).getD 0) i = valP k b := by simp [hb]
  by_cases hneg : valP k b < 0
  · have hle := sum_le_one (f := fun j => (h.ac[j]?.map (valP k)).getD 0) hni (fun j hj hne => by
      obtain ⟨hj1, hj2⟩ := List.mem_filter.1 hj
      obtain ⟨a, ha⟩ : ∃ a, h.ac[j]? = some a := ⟨_, List.getElem?_eq_getElem (List.mem_range.1 hj1)⟩
      simp only [ha, Option.map_some, Option.getD_some]
      unfold potB at hj2
      rw [ha] at hj2
      dsimp only at hj2
      cases hao : a.out with
      | true => rw [hz j a hne ha hao]; omega
      | false =>
        obtain ⟨va, hva⟩ : ∃ v, v = valP k a := ⟨_, rfl⟩
        obtain ⟨vb, hvb⟩ : ∃ v, v = valP k b := ⟨_, rfl⟩
        rw [← hva] at hj2 ⊢
        rw [← hvb] at hj2 hneg
        by_cases hc : 0 < va
        · have e1 : (va != 0) = true := by rw [bne_iff_ne]; omega
          have e2 : decide (0 < va) = true := decide_eq_true hc
          have e3 : decide (vb < 0) = true := decide_eq_true hneg
          rw [hao, e1, e2, e3] at hj2
          exact absurd hj2 (by decide)
        · omega) hnd
    simp only [hb, Option.map_some, Option.getD_some] at hle
    rw [decide_eq_true hneg] at hsum hle ⊢
    simp only [if_true]
    omega
  · have hle := sum_le_one (f := fun j => -((h.ac[j]?.map (valP k)).getD 0)) hni (fun j hj hne => by
      obtain ⟨hj1, hj2⟩ := List.mem_filter.1 hj
      obtain ⟨a, ha⟩ : ∃ a, h.ac[j]? = some a := ⟨_, List.getElem?_eq_getElem (List.mem_range.1 hj1)⟩
      simp only [ha, Option.map_some, Option.getD_some]
      unfold potB at hj2
      rw [ha] at hj2
      dsimp only at hj2
      cases hao : a.out with
      | true => rw [hz j a hne ha hao]; omega
      | false =>
        obtain ⟨va, hva⟩ : ∃ v, v = valP k a := ⟨_, rfl⟩
        obtain ⟨vb, hvb⟩ : ∃ v, v = valP k b := ⟨_, rfl⟩
        rw [← hva] at hj2 ⊢
        rw [← hvb] at hj2 hneg
        by_cases hc : va < 0
        · have e1 : (va != 0) = true := by rw [bne_iff_ne]; omega
          have e2 : decide (0 < va) = false := decide_eq_false (by omega)
          have e3 : decide (vb < 0) = false := decide_eq_false hneg
          rw [hao, e1, e2, e3] at hj2
          exact absurd hj2 (by decide)
        · omega) hnd
    have hneg2 : ∀ l : List Nat, (l.map fun j => -((h.ac[j]?.map (valP k)).getD 0)).sum = -(l.map fun j => (h.ac[j]?.map (valP k)).getD 0).sum := fun l => by
      induction l with
      | nil => simp
      | cons j l ih => simp only [List.map_cons, List.sum_cons, ih]; omega
    rw [hneg2] at hle
    simp only [hb, Option.map_some, Option.getD_some] at hle
    rw [decide_eq_false hneg] at hsum hle ⊢
    simp only [Bool.false_eq_true, if_false]
    omega

end Go.Proofs.Ytmkpidipoadnbaa

namespace Go.Proofs.Ytmkpidipoadnbaa
open Go Go.RowKit Go.Sort

theorem valP_upd {a : Ac} {k : Nat} (x : Int) (hl : k < a.pos.length) (m : Nat) : valP m (updP k a x) = if m = k then x else valP m a := by
  show (a.pos.set k x).getD m 0 = _
  simp only [List.getD_eq_getElem?_getD, List.getElem?_set]
  by_cases e : k = m
  · subst e
    rw [if_pos rfl, if_pos hl, if_pos rfl]
    rfl
  · rw [if_neg e, if_neg (fun h => e h.symm)]
theorem valP_upd_ne {a : Ac} {k m : Nat} (x : Int) (h : m ≠ k) : valP m (updP k a x) = valP m a := by
  show (a.pos.set k x).getD m 0 = _
  simp only [List.getD_eq_getElem?_getD]
  rw [List.getElem?_set_ne (fun e => h e.symm)]
structure Handed (h0 : Hs) (i : Nat) (ps : List Int) (k : Nat) (h : Hs) : Prop where
  me : ∃ b, h.ac[i]? = some b ∧ b.out = true ∧ ∀ m, valP m b = if m < k then 0 else ps.getD m 0
  sum : ∀ m, sumG (valP m) h.ac = 0
  oth : ∀ j a, j ≠ i → h.ac[j]? = some a → a.out = true → ∀ m, valP m a = 0
  money : sumG cashF h.ac = sumG cashF h0.ac
  fund : ∀ a ∈ h.ac, 0 ≤ a.fund
  len : ∀ a ∈ h.ac, a.pos.length = 12
theorem Handed.next {h0 h : Hs} {i : Nat} {ps : List Int} {k : Nat} (H : Handed h0 i ps k h) (hk : k < 12) : Handed h0 i ps (k + 1) (handS h i k (ps.getD k 0)) := by
  obtain ⟨b, hb, ho, hv⟩ := H.me
  have hP : ps.getD k 0 = valP k b := by rw [hv k, if_neg (by omega)]
  have hT := pots_enough (H.sum k) hb ho (fun j a hj ha hao => H.oth j a hj ha hao k)
  rw [hP]
  have hbl := H.len b (List.mem_of_getElem? hb)
  have hDi := draw_out h (decide (valP k b < 0)) (valP k) (updP k) (max (valP k b) (-(valP k b))) hb ho
  have hDs := draw_sum (P := fun a => a.pos.length = 12) h (decide (valP k b < 0)) (valP k) (updP k) (max (valP k b) (-(valP k b))) (g := valP k) H.len (fun a x hl => by show (a.pos.set k x).length = 12; rw [List.length_set]; exact hl) (fun a x hl => by rw [valP_upd x (by omega), if_pos rfl]; omega)
  have hDn := fun m (hm : m ≠ k) => draw_same h (decide (valP k b < 0)) (valP k) (updP k) (max (valP k b) (-(valP k b))) (g := valP m) (fun a x => valP_upd_ne x hm)
  have hDm := draw_same h (decide (valP k b < 0)) (valP k) (updP k) (max (valP k b) (-(valP k b))) (g := cashF) (fun a x => rfl)
  have hDk := fun j => draw_keep h (decide (valP k b < 0)) (valP k) (upd := updP k) (max (valP k b) (-(valP k b))) (fun _ _ => rfl) j
  have hDo := fun j a (ha : h.ac[j]? = some a) (hao : a.out = true) => draw_out h (decide (valP k b < 0)) (valP k) (updP k) (max (valP k b) (-(valP k b))) ha hao
  have hDf : ∀ a ∈ (drawH h (decide (valP k b < 0)) (valP k) (updP k) (max (valP k b) (-(valP k b)))).ac, 0 ≤ a.fund := putAcs_all (P := fun a => 0 ≤ a.fund) (Q := fun _ => True) (upd := updP k) (fun a x h _ => h) _ _ H.fund (fun _ _ => trivial)
  have hDl : ∀ a ∈ (drawH h (decide (valP k b < 0)) (valP k) (updP k) (max (valP k b) (-(valP k b)))).ac, a.pos.length = 12 := putAcs_all (P := fun a => a.pos.length = 12) (Q := fun _ => True) (fun a x h _ => by show (a.pos.set k x).length = 12; rw [List.length_set]; exact h) _ _ H.len (fun _ _ => trivial)
  unfold handS
  rw [hT, H.sum k] at hDs
  generalize drawH h (decide (valP k b < 0)) (valP k) (updP k) (max (valP k b) (-(valP k b))) = D at hDi hDs hDn hDm hDk hDo hDf hDl
  have hz : zeroA D i k = { D with ac := D.ac.set i (updP k b 0) } := by unfold zeroA; rw [hDi]
  rw [hz]
  have hil := (List.getElem?_eq_some_iff.1 hDi).1
  refine ⟨⟨updP k b 0, by show (D.ac.set i _)[i]? = _; rw [List.getElem?_set_self hil], ho, fun m => ?_⟩, fun m => ?_, fun j a hj ha hao m => ?_, ?_, fun a ha => ?_, fun a ha => ?_⟩
  · rw [valP_upd 0 (by omega), hv m]
    by_cases e : m = k
    · rw [if_pos e, if_pos (by omega)]
    · rw [if_neg e]
      by_cases e2 : m < k
      · rw [if_pos e2, if_pos (by omega)]
      · rw [if_neg e2, if_neg (by omega)]
  · show sumG (valP m) (D.ac.set i (updP k b 0)) = 0
    rw [sum_set hDi, valP_upd 0 (by omega)]
    by_cases e : m = k
    · subst e
      rw [if_pos rfl, hDs]
      by_cases hn : valP m b < 0
      · rw [decide_eq_true hn]
        simp only [if_true]
        omega
      · rw [decide_eq_false hn]
        simp only [Bool.false_eq_true, if_false]
        omega
    · rw [if_neg e, hDn m e, H.sum m]
      omega
  · have ha2 : D.ac[j]? = some a := by
      have : (D.ac.set i (updP k b 0))[j]? = some a := ha
      rw [List.getElem?_set_ne (fun e => hj e.symm)] at this
      exact this
    have hk2 := hDk j
    rw [ha2] at hk2
    cases e : h.ac[j]? with
    | none => rw [e] at hk2; cases hk2
    | some a0 =>
      rw [e] at hk2
      simp only [Option.map_some, Option.some.injEq] at hk2
      have := hDo j a0 e (by rw [← hk2]; exact hao)
      rw [ha2] at this
      injection this with this
      rw [this]
      exact H.oth j a0 hj e (by rw [← hk2]; exact hao) m
  · show sumG cashF (D.ac.set i (updP k b 0)) = _
    rw [sum_set hDi, hDm, H.money]
    show _ - cashF b + cashF b = _
    omega
  · have ha : a ∈ D.ac.set i (updP k b 0) := ha
    rcases List.mem_or_eq_of_mem_set ha with e | e
    · exact hDf a e
    · rw [e]; exact H.fund b (List.mem_of_getElem? hb)
  · have ha : a ∈ D.ac.set i (updP k b 0) := ha
    rcases List.mem_or_eq_of_mem_set ha with e | e
    · exact hDl a e
    · rw [e]; show (b.pos.set k 0).length = 12; rw [List.length_set]; exact hbl
theorem handed {h0 : Hs} {i : Nat} {ps : List Int} (H : Handed h0 i ps 0 h0) : ∀ k, k ≤ 12 → Handed h0 i ps k (handK h0 i ps k)
  | 0, _ => H
  | k + 1, hk => (handed H k (by omega)).next (by omega)
theorem Kept.dealt {h : Hs} (kp : Kept h) (hl : ∀ a ∈ h.ac, a.pos.length = 12) {i : Nat} {a : Ac} (ha : h.ac[i]? = some a) : Kept (dealtH h i a) ∧ sumG cashF (dealtH h i a).ac = sumG cashF h.ac := by
  have hal := hl a (List.mem_of_getElem? ha)
  have hil := (List.getElem?_eq_some_iff.1 ha).1
  have H0 : Handed { h with ac := h.ac.set i (outA a) } i a.pos 0 { h with ac := h.ac.set i (outA a) } := by
    refine ⟨⟨outA a, by show (h.ac.set i _)[i]? = _; rw [List.getElem?_set_self hil], rfl, fun m => by rw [if_neg (by omega)]⟩, fun m => ?_, fun j b hj hb ho m => ?_, rfl, fun b hb => ?_, fun b hb => ?_⟩
    · show sumG (valP m) (h.ac.set i (outA a)) = 0
      rw [sum_set ha, kp.sum0 m]
      show 0 - valP m a + valP m a = 0
      omega
    · have hb : (h.ac.set i (outA a))[j]? = some b := hb
      rw [List.getElem?_set_ne (fun e => hj e.symm)] at hb
      exact kp.out0 b (List.mem_of_getElem? hb) ho m
    · have hb : b ∈ h.ac.set i (outA a) := hb
      rcases List.mem_or_eq_of_mem_set hb with e | e
      · exact kp.fund0 b e
      · rw [e]; exact kp.fund0 a (List.mem_of_getElem? ha)
    · have hb : b ∈ h.ac.set i (outA a) := hb
      rcases List.mem_or_eq_of_mem_set hb with e | e
      · exact hl b e
      · rw [e]; exact hal
  have H : Handed { h with ac := h.ac.set i (outA a) } i a.pos 12 (dealtH h i a) := handed H0 12 (Nat.le_refl _)
  have hm0 : sumG cashF ({ h with ac := h.ac.set i (outA a) } : Hs).ac = sumG cashF h.ac := by
    show sumG cashF (h.ac.set i (outA a)) = _
    rw [sum_set ha]
    show _ - cashF a + cashF a = _
    omega
  refine ⟨⟨fun c hc ho m => ?_, H.sum, H.fund⟩, H.money.trans hm0⟩
  obtain ⟨j, hj⟩ := List.getElem?_of_mem hc
  by_cases e : j = i
  · subst e
    obtain ⟨b, hb, _, hv⟩ := H.me
    have hj2 : (dealtH h j a).ac[j]? = some c := hj
    have hbc : b = c := Option.some.inj (hb.symm.trans hj2)
    clear hj hj2 H H0 hm0
    rw [← hbc, hv m]
    split
    · rfl
    · rw [List.getD_eq_getElem?_getD, List.getElem?_eq_none (by omega)]; rfl
  · exact H.oth j c e hj ho m

end Go.Proofs.Ytmkpidipoadnbaa

namespace Go.Proofs.Ytmkpidipoadnbaa
open Go Go.RowKit Go.Sort

theorem near_pos {vs : List Int} {A : Int} (hA : 0 ≤ A) (hv : ∀ v ∈ vs, 0 ≤ v) : ∀ x ∈ nearL vs (shareU A (sizeL vs)), 0 ≤ x := fun x hx => by
  obtain ⟨i, hi⟩ := List.getElem?_of_mem hx
  have hil := (List.getElem?_eq_some_iff.1 hi).1
  have hlen : i < vs.length := by unfold nearL at hil; rw [List.length_zipWith] at hil; omega
  obtain ⟨v, hvi⟩ : ∃ v, vs[i]? = some v := ⟨_, List.getElem?_eq_getElem hlen⟩
  obtain ⟨f, h1, h2, h3⟩ := shareU_bd hA (sizes_pos vs) (i := i) (x := max v (-v)) (by unfold sizeL; rw [List.getElem?_map, hvi]; rfl)
  rw [nearL_get hvi h1] at hi
  injection hi with hi
  have := hv v (List.mem_of_getElem? hvi)
  unfold nearV at hi
  split at hi <;> omega
/-- Updates that leave positions. -/
structure Still (upd : Ac → Int → Ac) : Prop where
  pos : ∀ a x, (upd a x).pos = a.pos
  out : ∀ a x, (upd a x).out = a.out
theorem still_F : Still updF := ⟨fun _ _ => rfl, fun _ _ => rfl⟩
theorem still_C : Still updC := ⟨fun _ _ => rfl, fun _ _ => rfl⟩
theorem Kept.puts {h : Hs} (k : Kept h) {upd : Ac → Int → Ac} (S : Still upd) (r : List (Nat × Int)) (hn : (r.map Prod.fst).Nodup) (hl : ∀ x ∈ r, x.1 < h.ac.length) (hf : ∀ x ∈ r, ∀ a, 0 ≤ a.fund → 0 ≤ (upd a x.2).fund) : Kept { h with ac := putAcs upd h.ac r } := by
  refine ⟨?_, fun m => ?_, ?_⟩
  · refine putAcs_all (P := fun a => a.out = true → ∀ m, valP m a = 0) (Q := fun _ => True) (fun a x p _ ho m => ?_) r h.ac k.out0 (fun _ _ => trivial)
    show (upd a x).pos.getD m 0 = 0
    rw [S.pos]
    exact p (by rw [← S.out a x]; exact ho) m
  · show sumG (valP m) (putAcs upd h.ac r) = 0
    rw [putAcs_sum (P := fun _ => True) (d := fun _ _ => 0) (fun _ _ _ => trivial) (fun a x _ => by show (upd a x).pos.getD m 0 = a.pos.getD m 0 + 0; rw [S.pos]; omega) r h.ac (fun _ _ => trivial) hn hl, k.sum0 m]
    have : ∀ r : List (Nat × Int), (r.map fun _ => (0 : Int)).sum = 0 := fun r => by induction r with
      | nil => rfl
      | cons _ _ ih => simp [ih]
    rw [this]
    omega
  · exact putAcs_all (P := fun a => 0 ≤ a.fund) (Q := fun y => ∀ a, 0 ≤ a.fund → 0 ≤ (upd a y).fund) (fun a x p q => q a p) r h.ac k.fund0 (fun x hx => hf x hx)
theorem pot_zip (h : Hs) (ab : Bool) (val : Ac → Int) (A : Int) : (((potL h ab val h.ac.length).zip (nearL (potV h val (potL h ab val h.ac.length)) (potF h ab val A))).map Prod.fst).Nodup ∧ ∀ x ∈ (potL h ab val h.ac.length).zip (nearL (potV h val (potL h ab val h.ac.length)) (potF h ab val A)), x.1 < h.ac.length := by
  have hnl : (potL h ab val h.ac.length).length ≤ (nearL (potV h val (potL h ab val h.ac.length)) (potF h ab val A)).length := by
    unfold nearL
    rw [List.length_zipWith, potF_len]
    unfold potV
    rw [List.length_map]
    omega
  refine ⟨by rw [map_zip_fst _ _ hnl]; exact pot_nodup h ab val, fun x hx => ?_⟩
  obtain ⟨a, ha, _⟩ := pot_lt (List.of_mem_zip hx).1
  exact (List.getElem?_eq_some_iff.1 ha).1
/-- One step of a loss covered. -/
theorem Kept.step {h : Hs} (k : Kept h) (hc : 0 ≤ h.capital) (i : Nat) {a : Ac} (ha : h.ac[i]? = some a) {A : Int} (hA : 0 ≤ A) (n : Nat) : Kept (coverN h i A n) ∧ moneyT (coverN h i A n) = moneyT h - coverT h i A n := by
  have hil := (List.getElem?_eq_some_iff.1 ha).1
  match n with
  | 0 =>
    have hv : fundI h i = a.fund := by unfold fundI; rw [ha]; rfl
    have hf0 := k.fund0 a (List.mem_of_getElem? ha)
    obtain ⟨f, hf⟩ := one_ex A (fundI h i)
    have hfs := one_sum hA hf
    have e : coverN h i A 0 = { h with ac := putAcs updF h.ac [(i, nearV (fundI h i) f)] } := by
      show ownH h i (fundI h i) A = _
      unfold ownH
      rw [hf]
      rfl
    have et : coverT h i A 0 = f := by show (oneF A (fundI h i)).sum = f; rw [hf]; simp
    have hnv : nearV (fundI h i) f = a.fund - f := by rw [hv]; unfold nearV; rw [if_neg (by omega)]
    rw [e, et, hnv]
    rw [hv] at hfs
    refine ⟨k.puts still_F _ (by simp) (fun x hx => by simp at hx; rw [hx]; exact hil) (fun x hx b _ => by simp at hx; rw [hx]; show 0 ≤ a.fund - f; omega), ?_⟩
    show h.capital - h.hole + sumG cashF (putAcs updF h.ac [(i, a.fund - f)]) = _
    rw [putAcs_sum (P := fun _ => True) (d := fun b x => x - b.fund) (fun _ _ _ => trivial) (fun b x _ => by unfold cashF updF; dsimp only; omega) _ _ (fun _ _ => trivial) (by simp) (fun x hx => by simp at hx; rw [hx]; exact hil)]
    simp only [List.map_cons, List.map_nil, List.sum_cons, List.sum_nil, ha, Option.getD_some]
    unfold moneyT
    omega
  | 1 =>
    obtain ⟨f, hf⟩ := one_ex A h.capital
    have hfs := one_sum hA hf
    have et : coverT h i A 1 = f := by show (oneF A h.capital).sum = f; rw [hf]; simp
    have e : coverN h i A 1 = { h with capital := nearV h.capital f } := by
      show capH h A = _
      unfold capH
      rw [hf]
      rfl
    have hnv : nearV h.capital f = h.capital - f := by unfold nearV; rw [if_neg (by omega)]
    rw [e, et, hnv]
    refine ⟨⟨k.out0, k.sum0, k.fund0⟩, ?_⟩
    show h.capital - f - h.hole + sumG cashF h.ac = _
    unfold moneyT
    omega
  | 2 =>
    have hz := pot_zip h true valF A
    refine ⟨k.puts still_F _ hz.1 hz.2 (fun x hx b _ => ?_), ?_⟩
    · exact near_pos hA (fun v hv => by have := potV_sign h true valF v hv; simp at this; omega) x.2 (List.of_mem_zip hx).2
    · show h.capital - h.hole + sumG cashF (drawH h true valF updF A).ac = _
      rw [draw_sum (P := fun _ => True) h true valF updF A (fun _ _ => trivial) (fun _ _ _ => trivial) (fun b x _ => by unfold cashF updF valF; dsimp only; omega)]
      show _ = moneyT h - (potF h true valF A).sum
      simp only [if_true]
      unfold moneyT
      omega
  | 3 =>
    have hz := pot_zip h true valC A
    refine ⟨k.puts still_C _ hz.1 hz.2 (fun x hx b hb => hb), ?_⟩
    show h.capital - h.hole + sumG cashF (drawH h true valC updC A).ac = _
    rw [draw_sum (P := fun _ => True) h true valC updC A (fun _ _ => trivial) (fun _ _ _ => trivial) (fun b x _ => by unfold cashF updC valC; dsimp only; omega)]
    show _ = moneyT h - (potF h true valC A).sum
    simp only [if_true]
    unfold moneyT
    omega
  | n + 4 =>
    refine ⟨⟨k.out0, k.sum0, k.fund0⟩, ?_⟩
    show h.capital - (h.hole + A) + sumG cashF h.ac = moneyT h - A
    unfold moneyT
    omega
theorem coverN_there (h : Hs) (i : Nat) (A : Int) (n j : Nat) (hj : j < h.ac.length) : ∃ a, (coverN h i A n).ac[j]? = some a := ⟨_, List.getElem?_eq_getElem (by rw [coverN_len]; exact hj)⟩
theorem Kept.steps {h : Hs} (k : Kept h) (ok : CovOK h) (hc : 0 ≤ h.capital) (i : Nat) (hi : i < h.ac.length) {L : Int} (hL : 0 ≤ L) : ∀ n, Kept (coverS h i L n).h ∧ moneyT (coverS h i L n).h = moneyT h - (L - (coverS h i L n).left)
  | 0 => ⟨k, by show moneyT h = moneyT h - (L - L); omega⟩
  | n + 1 => by
    obtain ⟨k1, m1⟩ := Kept.steps k ok hc i hi hL n
    have r := coverS_ok ok i hL n
    obtain ⟨a, ha⟩ : ∃ a, (coverS h i L n).h.ac[i]? = some a := ⟨_, List.getElem?_eq_getElem (by rw [r.acs]; exact hi)⟩
    obtain ⟨k2, m2⟩ := k1.step (coverS_cap ok hc i hL n).1 i ha r.l0 n
    refine ⟨k2, ?_⟩
    show moneyT (coverN (coverS h i L n).h i (coverS h i L n).left n) = moneyT h - (L - ((coverS h i L n).left - coverT (coverS h i L n).h i (coverS h i L n).left n))
    rw [m2, m1]
    omega
theorem Kept.up {h : Hs} (k : Kept h) {i : Nat} {a : Ac} (ha : h.ac[i]? = some a) : Kept (upA h i) ∧ moneyT (upA h i) = moneyT h + lackI h i := by
  have e : upA h i = { h with ac := h.ac.set i (updC a (max a.cash 0)) } := by unfold upA; rw [ha]
  have el : lackI h i = max 0 (-a.cash) := by unfold lackI cashI; rw [ha]; rfl
  rw [e, el]
  refine ⟨k.set ha rfl rfl (k.fund0 a (List.mem_of_getElem? ha)), ?_⟩
  rw [money_set ha]
  unfold cashF updC
  dsimp only
  omega
theorem Kept.default {B : Nat} {h : Hs} (k : Kept h) (g : Good B h) (hB : B ≤ 200) (x : Int) : Kept (defaultT h x) ∧ moneyT (defaultT h x) = moneyT h := by
  by_cases e : traderE h x = 0
  · obtain ⟨a, ha, _, et, _⟩ := default_got e
    rw [et]
    have h2 := (accOf_some ha).2.1
    have hm := List.mem_of_getElem? h2
    obtain ⟨ok, pk⟩ := good_cov g hB
    have od := dealt_ok ok pk (accI x) a hm
    obtain ⟨kd, md⟩ := k.dealt g.t.len h2
    obtain ⟨d1, d2, d3, d4, d5, d6, d7⟩ := dealt_rest h (accI x) a
    have hil : accI x < (dealtH h (accI x) a).ac.length := by rw [dealt_len]; exact (accOf_some ha).2.2
    obtain ⟨b, hb⟩ : ∃ b, (dealtH h (accI x) a).ac[accI x]? = some b := ⟨_, List.getElem?_eq_getElem hil⟩
    have hmd : moneyT (dealtH h (accI x) a) = moneyT h := by unfold moneyT; rw [md, d6, d7]
    have hcd : 0 ≤ (dealtH h (accI x) a).capital := by rw [d6]; exact g.cap0
    unfold defaultV coverR
    generalize dealtH h (accI x) a = D at od kd hb hil hmd hcd
    obtain ⟨ku, mu⟩ := kd.up hb
    have hL : 0 ≤ lackI D (accI x) := by unfold lackI; omega
    obtain ⟨k5, m5⟩ := ku.steps (upA_cov od (accI x)) hcd (accI x) (by rw [upA_len]; exact hil) hL 5
    refine ⟨k5, ?_⟩
    rw [m5, (coverS_hole (upA_cov od (accI x)) (accI x) hL).2, mu, hmd]
    omega
  · unfold defaultT
    rw [if_neg e]
    exact ⟨k, rfl⟩

end Go.Proofs.Ytmkpidipoadnbaa
