/- Crushes: what there is where there is no plan; and what there is none of. No Go but for the greatest flow. -/
import Derived.Test.YtkofnhimgegcnaaAO
namespace Go.Proofs.Ytkofnhimgegcnaa
open Go Go.RowKit Go.Sort

/-- A greatest flow with its levels. -/
theorem max_ex (w : World) {l : List Ld} {K : Int} (hok : ∀ x ∈ l, okN x) (hn : l.length ≤ 256) (hK0 : 0 ≤ K) (hK1 : K ≤ 256) :
    ∃ val f lev, Flow (netE (timesOf l) K l) f val ∧ Lev (netE (timesOf l) K l) (2 + l.length + (timesOf l).length) f lev ∧ lev 1 < 0 := by
  have hb := Box.new w (l.flatMap enc4).toArray 84
  have hL : LoadsAt (w.alloc (.cells (l.flatMap enc4).toArray 84)) (some ⟨w.heap.size, 0, none⟩) l := fun i x hx => by
    obtain ⟨f0, f1, f2, f3⟩ := flat4_cell i x hx
    refine ⟨w.heap.size, 0, rfl, ?_⟩
    rw [Nat.zero_add]
    exact ⟨(hb.cell _).trans (by simpa using f0), (hb.cell _).trans (by simpa using f1), (hb.cell _).trans (by simpa using f2), (hb.cell _).trans (by simpa using f3)⟩
  obtain ⟨_, w1, _, ⟨K', _, hlaid⟩, _⟩ := lay_laid (some ⟨w.heap.size, 0, none⟩) l.length l K _ hL hok hn hK0 hK1 []
  obtain ⟨_, w2, _, ⟨val, f, lev, gs, _, h1, h2, h3, h4, _⟩, _⟩ := fill_any K' _ _ nilV w1 (laid_sane hok hn hK0 hK1) hlaid.net []
  exact ⟨val, f, lev, h1, h3, h4⟩

def lenAt (l : List Ld) (i : Nat) : Int := match l[i]? with | some x => x.2.2.1 | none => 0

theorem total_sum : ∀ l : List Ld, totalL l = sumN l.length (lenAt l)
  | [] => rfl
  | x :: l => by
    have e : totalL (x :: l) = x.2.2.1 + totalL l := by simp [totalL]
    rw [e, total_sum l, List.length_cons, Nat.add_comm l.length 1, sumN_split]
    have e1 : sumN 1 (lenAt (x :: l)) = x.2.2.1 := by simp [sumN, lenAt]
    rw [e1]
    congr 1
    refine sumN_congr (fun i _ => ?_)
    unfold lenAt
    rw [Nat.add_comm 1 i, List.getElem?_cons_succ]

/-- A crush. -/
structure Crush (l : List Ld) (K : Int) (H : List (Int × Int)) (L : List Nat) : Prop where
  rise : Rising 0 1000000000 H
  top : ∀ B, (∀ x ∈ l, x.2.1 ≤ B) → ∀ h ∈ H, h.2 ≤ B
  mem : ∀ i ∈ L, i < l.length
  up : L.Pairwise (· < ·)
  short : L.length ≤ l.length
  lens : (L.map (lenAt l)).sum ≤ totalL l
  gt : sumH (fun h => h.2 - h.1) H * K < needsL l H L

theorem metL_up (lev : Nat → Int) (n : Nat) : (metL lev n).Pairwise (· < ·) := List.Pairwise.filter _ List.pairwise_lt_range

theorem lenAt_nonneg {l : List Ld} (hok : ∀ x ∈ l, okN x) (i : Nat) : 0 ≤ lenAt l i := by
  unfold lenAt
  split
  · rename_i x hx
    have := hok x (List.mem_of_getElem? hx)
    unfold okN at this
    omega
  · omega

theorem crush_of {l : List Ld} {K val : Int} {f lev : Nat → Int} (hF : Flow (netE (timesOf l) K l) f val) (hV : Lev (netE (timesOf l) K l) (2 + l.length + (timesOf l).length) f lev) (h1 : lev 1 < 0) (hok : ∀ x ∈ l, okN x) (hn : l.length ≤ 256) (hK0 : 0 ≤ K) (hK1 : K ≤ 256) (hne : val ≠ totalL l) :
    Crush l K (metH lev l.length (timesOf l) ((timesOf l).length - 1)) (metL lev l.length) := by
  have hS := laid_sane (kq := K) hok hn hK0 hK1
  have hle : val ≤ totalL l := by rw [← netE_cap (timesOf l) K l]; exact hF.bound
  have hlt : val < totalL l := by omega
  have hT := timesOf_spec l
  have hTB : ∀ {s : Nat} {t : Int} (B : Int), (∀ x ∈ l, x.2.1 ≤ B) → (timesOf l)[s]? = some t → 0 ≤ t ∧ t ≤ B := fun {s t} B hB ht => by
    have h2 := (hT.mem t).1 (List.mem_of_getElem? ht)
    unfold timesL at h2
    obtain ⟨x, hx, hm⟩ := List.mem_flatMap.1 h2
    have hb := hok x hx
    have hb2 := hB x hx
    unfold okN at hb
    simp at hm
    omega
  have h0 : 0 < (timesOf l).length := by
    match l, hlt with
    | [], hlt =>
      exfalso
      have h2 : totalL [] = 0 := rfl
      have h3 := hF.cut_le hS.ends hS.two (fun v => decide (v = 0)) (by simp) (by simp)
      have h4 := hF.cut_eq hS.ends hS.two hV h1
      have h5 : netE (timesOf []) K [] = sinkE 0 (timesOf []) K 0 := by
        have : (timesOf []).length = 0 := by rw [timesOf_nil]; rfl
        unfold netE
        rw [this]
        rfl
      rw [h5] at h4
      have h6 : val = 0 := by rw [h4]; rfl
      omega
    | x :: l, _ =>
      have h2 := (hT.mem x.1).2 (by unfold timesL; simp)
      exact List.length_pos_of_mem h2
  have hlast : ∀ B, (∀ x ∈ l, x.2.1 ≤ B) → Rising 0 B (metH lev l.length (timesOf l) ((timesOf l).length - 1)) := fun B hB => by
    have hr := metH_rising (lev := lev) (n := l.length) hT.lt ((timesOf l).length - 1) (by omega)
    have a1 := hTB (s := 0) B hB (List.getElem?_eq_getElem h0)
    have a2 := hTB (s := (timesOf l).length - 1) B hB (List.getElem?_eq_getElem (by omega))
    rw [List.getElem?_eq_getElem h0, List.getElem?_eq_getElem (show (timesOf l).length - 1 < (timesOf l).length by omega)] at hr
    simp only [Option.getD_some] at hr
    exact ⟨fun h hh => by obtain ⟨b1, b2, b3⟩ := hr.inn h hh; exact ⟨by omega, b2, by omega⟩, hr.up⟩
  exact {
    rise := hlast 1000000000 (fun x hx => by have := hok x hx; unfold okN at this; omega)
    top := fun B hB h hh => ((hlast B hB).inn h hh).2.2
    mem := fun i hi => by unfold metL at hi; exact List.mem_range.1 (List.mem_filter.1 hi).1
    up := metL_up _ _
    short := metL_len _ _
    lens := by
      rw [metL_sum, total_sum]
      refine sumN_le (fun i _ => ?_)
      have := lenAt_nonneg hok i
      split <;> omega
    gt := crush_needs hF hS.ends hS.two hV h1 hlt hok h0 }

theorem crush_ex (w : World) {l : List Ld} {K : Int} (hok : ∀ x ∈ l, okN x) (hn : l.length ≤ 256) (hK0 : 0 ≤ K) (hK1 : K ≤ 256) (h : ¬ CanDry l K) : ∃ H L, Crush l K H L := by
  obtain ⟨val, f, lev, h1, h2, h3⟩ := max_ex w hok hn hK0 hK1
  exact ⟨_, _, crush_of h1 h2 h3 hok hn hK0 hK1 (fun e => h ⟨f, by rw [← e]; exact h1⟩)⟩

theorem sumH_nonneg {μ : Int × Int → Int} {H : List (Int × Int)} (h : ∀ x ∈ H, 0 ≤ μ x) : 0 ≤ sumH μ H := by
  induction H with
  | nil => exact Int.le_refl _
  | cons x H ih =>
    rw [sumH_cons]
    have := h x (by simp)
    have := ih (fun t ht => h t (by simp [ht]))
    omega
theorem sumH_le {μ ν : Int × Int → Int} {H : List (Int × Int)} (h : ∀ x ∈ H, μ x ≤ ν x) : sumH μ H ≤ sumH ν H := by
  induction H with
  | nil => exact Int.le_refl _
  | cons x H ih =>
    rw [sumH_cons, sumH_cons]
    have := h x (by simp)
    have := ih (fun t ht => h t (by simp [ht]))
    omega

theorem within_eq (x : Ld) (H : List (Int × Int)) : withinL x H = sumH (lapL x) H := rfl
theorem within_le {lo hi : Int} {H : List (Int × Int)} (h : Rising lo hi H) (x : Ld) : 0 ≤ withinL x H ∧ withinL x H ≤ sumH (fun h => h.2 - h.1) H := by
  rw [within_eq]
  refine ⟨sumH_nonneg (fun y _ => by unfold lapL; omega), sumH_le (fun y hy => ?_)⟩
  have := h.inn y hy
  unfold lapL
  omega

theorem Rising.tail {lo hi : Int} {h : Int × Int} {H : List (Int × Int)} (hr : Rising lo hi (h :: H)) : Rising h.2 hi H := by
  have hup : ∀ i x y, H[i]? = some x → H[i + 1]? = some y → x.2 ≤ y.1 := fun i x y hx hy => hr.up (i + 1) x y (by simpa using hx) (by simpa using hy)
  have key : ∀ (i : Nat) (y : Int × Int), H[i]? = some y → h.2 ≤ y.1 := by
    intro i
    induction i with
    | zero => intro y hy; exact hr.up 0 h y rfl (by simpa using hy)
    | succ i ih =>
      intro y hy
      have hi : i < H.length := by have := (List.getElem?_eq_some_iff.1 hy).1; omega
      have hz := List.getElem?_eq_getElem hi
      have h1 := ih _ hz
      have h2 := hup i _ y hz hy
      have h3 := hr.inn H[i] (List.mem_cons_of_mem _ (List.getElem_mem hi))
      omega
  exact ⟨fun y hy => by
    obtain ⟨i, hi⟩ := List.mem_iff_getElem?.1 hy
    have := key i y hi
    have := hr.inn y (List.mem_cons_of_mem _ hy)
    exact ⟨by omega, by omega, by omega⟩, hup⟩

theorem within_span (x : Ld) : ∀ {lo hi : Int} {H : List (Int × Int)}, Rising lo hi H → lo ≤ hi → withinL x H ≤ max 0 (min x.2.1 hi - max x.1 lo)
  | lo, hi, [], _, _ => by rw [within_eq]; simp [sumH]; omega
  | lo, hi, h :: H, hr, hlh => by
    have h1 := hr.inn h (by simp)
    have ih := within_span x hr.tail (by omega)
    rw [within_eq] at ih ⊢
    rw [sumH_cons]
    unfold lapL at *
    omega

theorem needsL_le {l : List Ld} {H : List (Int × Int)} {c : Int} : ∀ {L : List Nat}, (∀ i ∈ L, needL l H i ≤ c) → needsL l H L ≤ L.length * c
  | [], _ => by simp [needsL]
  | i :: L, h => by
    have ih := needsL_le (L := L) (fun j hj => h j (by simp [hj]))
    have h1 := h i (by simp)
    have e : needsL l H (i :: L) = needL l H i + needsL l H L := by simp [needsL]
    rw [e, List.length_cons]
    have e2 : ((L.length + 1 : Nat) : Int) * c = (L.length : Int) * c + c := by rw [Int.natCast_add, Int.add_mul]; omega
    omega

theorem needsL_le2 {l : List Ld} {H : List (Int × Int)} {g : Nat → Int} : ∀ {L : List Nat}, (∀ i ∈ L, needL l H i ≤ g i) → needsL l H L ≤ (L.map g).sum
  | [], _ => by simp [needsL]
  | i :: L, h => by
    have ih := needsL_le2 (L := L) (fun j hj => h j (by simp [hj]))
    have h1 := h i (by simp)
    have e : needsL l H (i :: L) = needL l H i + needsL l H L := by simp [needsL]
    rw [e, List.map_cons, List.sum_cons]
    omega

/-- With a kiln for each load there is a plan. -/
theorem dry_all (w : World) {l : List Ld} (hok : ∀ x ∈ l, okN x) (hn : l.length ≤ 256) : CanDry l l.length := by
  apply Classical.byContradiction
  intro hc
  obtain ⟨H, L, h⟩ := crush_ex w hok hn (by omega) (by omega) hc
  have h1 := h.gt
  have hw : 0 ≤ sumH (fun h => h.2 - h.1) H := sumH_nonneg (fun y hy => by have := h.rise.inn y hy; omega)
  have h2 : needsL l H L ≤ L.length * sumH (fun h => h.2 - h.1) H := needsL_le (fun i hi => by
    obtain ⟨x, hx⟩ : ∃ x, l[i]? = some x := ⟨_, List.getElem?_eq_getElem (h.mem i hi)⟩
    have hb := hok x (List.mem_of_getElem? hx)
    unfold okN at hb
    have := within_le h.rise x
    unfold needL
    rw [hx]
    dsimp only
    omega)
  have h3 : (L.length : Int) * sumH (fun h => h.2 - h.1) H ≤ (l.length : Int) * sumH (fun h => h.2 - h.1) H := Int.mul_le_mul_of_nonneg_right (by have := h.short; omega) hw
  rw [Int.mul_comm] at h1
  omega

/-- Without a kiln only no loads are dried. -/
theorem dry_none (_w : World) {l : List Ld} (hok : ∀ x ∈ l, okN x) (hn : l.length ≤ 256) (h : CanDry l 0) : l = [] := by
  obtain ⟨f, hf⟩ := h
  have hS := laid_sane (kq := 0) hok hn (by omega) (by omega)
  have h1 := hf.div 1
  rw [if_neg (by omega), if_pos rfl] at h1
  match l, hok with
  | [], _ => rfl
  | x :: l, hok =>
    exfalso
    have hx := hok x (by simp)
    have ht : 1 ≤ totalL (x :: l) := by
      have e : totalL (x :: l) = x.2.2.1 + totalL l := by simp [totalL]
      have h2 : 0 ≤ totalL l := by
        rw [total_sum]
        have := sumN_le (n := l.length) (g := fun _ => 0) (h := lenAt l) (fun i _ => lenAt_nonneg (fun y hy => hok y (by simp [hy])) i)
        rw [sumN_zero] at this
        exact this
      unfold okN at hx
      omega
    have h2 : 0 ≤ divE (netE (timesOf (x :: l)) 0 (x :: l)) f 1 := by
      unfold divE
      have := sumN_le (n := (netE (timesOf (x :: l)) 0 (x :: l)).length) (g := fun _ => 0) (h := fun k => (if (eAt (netE (timesOf (x :: l)) 0 (x :: l)) k).1 = 1 then f k else 0) - (if (eAt (netE (timesOf (x :: l)) 0 (x :: l)) k).2.1 = 1 then f k else 0)) (fun k hk => ?_)
      · rw [sumN_zero] at this
        exact this
      · have hb := hf.ok k hk
        rcases netE_kind (eAt_mem hk) with ⟨i, y, hy, e⟩ | ⟨i, y, q, hy, hq, e⟩ | ⟨s', _, e⟩
        · rw [e] at hb ⊢; dsimp only at hb ⊢
          rw [if_neg (by omega), if_neg (by omega)]; omega
        · rw [e] at hb ⊢; dsimp only at hb ⊢
          rw [if_neg (by omega), if_neg (by omega)]; omega
        · rw [e] at hb ⊢; dsimp only at hb ⊢
          rw [Int.zero_mul] at hb
          rw [if_neg (by omega), if_pos rfl]; omega
    omega

end Go.Proofs.Ytkofnhimgegcnaa
