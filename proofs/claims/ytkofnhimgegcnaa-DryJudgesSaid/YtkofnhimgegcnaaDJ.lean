/- sums: how many hours the first spans have together. -/
import Derived.Test.YtkofnhimgegcnaaAV
import Derived.StillTailTactics
import Derived.Lib.BufferMore
import Derived.Deep.DeepCutAuto
namespace Go.Proofs.Ytkofnhimgegcnaa
open Go Go.RowKit Go.Sort

/-- A turn within its load's hours. -/
def okT (l : List Ld) (t : Tn) : Prop := ∃ (i : Nat) (x : Ld), t.1 = (i : Int) ∧ l[i]? = some x ∧ x.1 ≤ t.2.1 ∧ t.2.1 < t.2.2 ∧ t.2.2 ≤ x.2.1

theorem covL_le (i h : Int) (t : Tn) : 0 ≤ covL1 i h t ∧ covL1 i h t ≤ 1 := by unfold covL1; split <;> omega

/-- The covering turn that begins last. -/
theorem last_begin (h : Int) : ∀ {P : List Tn}, 0 < sumT (cov1 h) P → ∃ t ∈ P, (t.2.1 ≤ h ∧ h < t.2.2) ∧ ∀ s ∈ P, s.2.1 ≤ h ∧ h < s.2.2 → s.2.1 ≤ t.2.1
  | [], hp => by simp [sumT] at hp
  | x :: P, hp => by
    rw [sumT_cons] at hp
    by_cases hP : 0 < sumT (cov1 h) P
    · obtain ⟨t, ht, hc, hl⟩ := last_begin h hP
      by_cases hx : (x.2.1 ≤ h ∧ h < x.2.2) ∧ t.2.1 < x.2.1
      · refine ⟨x, by simp, hx.1, fun s hs hsc => ?_⟩
        rcases List.mem_cons.1 hs with rfl | hs
        · exact Int.le_refl _
        · have := hl s hs hsc; omega
      · refine ⟨t, by simp [ht], hc, fun s hs hsc => ?_⟩
        rcases List.mem_cons.1 hs with rfl | hs
        · apply Classical.byContradiction
          intro hn
          exact hx ⟨hsc, by omega⟩
        · exact hl s hs hsc
    · have hz := sumT_nonneg (μ := cov1 h) (P := P) (fun t _ => (cov1_bd h t).1)
      have hx1 : 0 < cov1 h x := by omega
      have hxc : x.2.1 ≤ h ∧ h < x.2.2 := by
        unfold cov1 at hx1
        split at hx1
        · assumption
        · omega
      refine ⟨x, by simp, hxc, fun s hs hsc => ?_⟩
      rcases List.mem_cons.1 hs with rfl | hs
      · exact Int.le_refl _
      · have := sumT_mem (μ := cov1 h) (P := P) (fun t _ => (cov1_bd h t).1) hs
        unfold cov1 at this
        rw [if_pos hsc] at this
        unfold cov1 at hP
        omega

theorem sumT_le {μ ν : Tn → Int} : ∀ {P : List Tn}, (∀ t ∈ P, μ t ≤ ν t) → sumT μ P ≤ sumT ν P
  | [], _ => Int.le_refl _
  | x :: P, h => by
    rw [sumT_cons, sumT_cons]
    have := h x (by simp)
    have := sumT_le (P := P) (fun t ht => h t (by simp [ht]))
    omega

/-- At most one of a load's turns has an hour, if no turn begins within another one of its load. -/
theorem one_of {P : List Tn} (hlt : ∀ t ∈ P, t.2.1 < t.2.2) (hoth : ∀ (i k : Nat) (x y : Tn), k ≠ i → P[i]? = some x → P[k]? = some y → y.2.1 ≤ x.2.1 ∧ x.2.1 < y.2.2 → y.1 ≠ x.1) (a h : Int) : sumT (covL1 a h) P ≤ 1 := by
  have key : ∀ (Q : List Tn) (m : Nat), Q = P.take m → sumT (covL1 a h) Q ≤ 1 ∧ (sumT (covL1 a h) Q = 1 → ∃ (k : Nat) (y : Tn), k < m ∧ P[k]? = some y ∧ y.1 = a ∧ y.2.1 ≤ h ∧ h < y.2.2) := by
    intro Q m
    induction m generalizing Q with
    | zero => intro e; rw [e, List.take_zero]; simp [sumT]
    | succ m ih =>
      intro e
      by_cases hm : m < P.length
      · obtain ⟨x, hx⟩ : ∃ x, P[m]? = some x := ⟨_, List.getElem?_eq_getElem hm⟩
        obtain ⟨h1, h2⟩ := ih _ rfl
        rw [e, sumT_next hx]
        have hb := covL_le a h x
        by_cases hc : covL1 a h x = 1
        · have hcx : x.1 = a ∧ x.2.1 ≤ h ∧ h < x.2.2 := by
            unfold covL1 at hc
            split at hc
            · assumption
            · omega
          have hz : sumT (covL1 a h) (P.take m) ≠ 1 := fun h3 => by
            obtain ⟨k, y, hk, hy, e1, e2, e3⟩ := h2 h3
            rcases Int.le_total y.2.1 x.2.1 with hle | hle
            · exact hoth m k x y (by omega) hx hy ⟨hle, by omega⟩ (by omega)
            · exact hoth k m y x (by omega) hy hx ⟨hle, by omega⟩ (by omega)
          have h0 := (sumT_nonneg (μ := covL1 a h) (P := P.take m) (fun t _ => (covL_le a h t).1))
          exact ⟨by omega, fun _ => ⟨m, x, by omega, hx, hcx.1, hcx.2.1, hcx.2.2⟩⟩
        · refine ⟨by omega, fun h3 => ?_⟩
          obtain ⟨k, y, hk, r⟩ := h2 (by omega)
          exact ⟨k, y, by omega, r⟩
      · obtain ⟨h1, h2⟩ := ih _ rfl
        have e2 : P.take (m + 1) = P.take m := by rw [List.take_of_length_le (by omega), List.take_of_length_le (by omega)]
        rw [e, e2]
        refine ⟨h1, fun h3 => ?_⟩
        obtain ⟨k, y, hk, r⟩ := h2 h3
        exact ⟨k, y, by omega, r⟩
  have := (key _ P.length rfl).1
  rwa [List.take_length] at this

/-- What the judge by the definition looks at is a plan. -/
theorem plan_of {l : List Ld} {K : Int} {P : List Tn} (hin : ∀ t ∈ P, okT l t) (hK : 0 ≤ K) (hfew : ∀ t ∈ P, sumT (cov1 t.2.1) P ≤ K)
    (hoth : ∀ (i k : Nat) (x y : Tn), k ≠ i → P[i]? = some x → P[k]? = some y → y.2.1 ≤ x.2.1 ∧ x.2.1 < y.2.2 → y.1 ≠ x.1) (hlen : ∀ (i : Nat) (x : Ld), l[i]? = some x → sumT (len1 i) P = x.2.2.1) : PlanOK l K P where
  inn := hin
  len := hlen
  few := fun h => by
    by_cases hp : 0 < sumT (cov1 h) P
    · obtain ⟨t, ht, hc, hl⟩ := last_begin h hp
      refine Int.le_trans (sumT_le (fun s hs => ?_)) (hfew t ht)
      unfold cov1
      split
      · rename_i hsc
        rw [if_pos ⟨hl s hs hsc, by omega⟩]
        exact Int.le_refl _
      · split <;> omega
    · omega
  one := fun a h => one_of (fun t ht => by obtain ⟨_, _, _, _, _, h2, _⟩ := hin t ht; exact h2) hoth a h

/-- Turns in the order of loads and times: one after the other of each load. -/
def Chain (Q : List Tn) : Prop := ∀ (i : Nat) (x y : Tn), Q[i]? = some x → Q[i + 1]? = some y → x.1 = y.1 → x.2.2 ≤ y.2.1

theorem sortedL_le {Q : List Tn} (hs : Q.Pairwise (fun x y => ltOf cfL y x = false)) {i k : Nat} {x y : Tn} (hik : i < k) (hx : Q[i]? = some x) (hy : Q[k]? = some y) : x.1 < y.1 ∨ x.1 = y.1 ∧ x.2.1 ≤ y.2.1 := by
  obtain ⟨h1, e1⟩ := List.getElem?_eq_some_iff.1 hx
  obtain ⟨h2, e2⟩ := List.getElem?_eq_some_iff.1 hy
  have := List.pairwise_iff_getElem.1 hs i k h1 h2 hik
  rw [e1, e2, ltL] at this
  simp at this
  omega

theorem chain_later {Q : List Tn} (hs : Q.Pairwise (fun x y => ltOf cfL y x = false)) (hlt : ∀ t ∈ Q, t.2.1 < t.2.2) (hc : Chain Q) : ∀ (d i : Nat) (x y : Tn), Q[i]? = some x → Q[i + 1 + d]? = some y → x.1 = y.1 → x.2.2 ≤ y.2.1 := by
  intro d
  induction d with
  | zero => intro i x y hx hy e; exact hc i x y hx hy e
  | succ d ih =>
    intro i x y hx hy e
    have hlen := (List.getElem?_eq_some_iff.1 hy).1
    obtain ⟨z, hz⟩ : ∃ z, Q[i + 1 + d]? = some z := ⟨_, List.getElem?_eq_getElem (by omega)⟩
    have h1 := sortedL_le hs (show i < i + 1 + d by omega) hx hz
    have h2 := sortedL_le hs (show i + 1 + d < i + 1 + (d + 1) by omega) hz hy
    have h3 := ih i x z hx hz (by omega)
    have h4 := hc (i + 1 + d) z y hz hy (by omega)
    have h5 := hlt z (List.mem_of_getElem? hz)
    omega

/-- The judge by sorted turns sees what the definition says of each load. -/
theorem chain_iff {P Q : List Tn} (hp : Q.Perm P) (hs : Q.Pairwise (fun x y => ltOf cfL y x = false)) (hlt : ∀ t ∈ P, t.2.1 < t.2.2) : Chain Q ↔ ∀ a h, sumT (covL1 a h) P ≤ 1 := by
  have hltQ : ∀ t ∈ Q, t.2.1 < t.2.2 := fun t ht => hlt t (hp.mem_iff.1 ht)
  constructor
  · intro hc a h
    rw [← sumT_perm _ hp]
    refine one_of hltQ (fun i k x y hki hx hy hcov he => ?_) a h
    rcases Nat.lt_or_gt_of_ne hki with hlt' | hgt
    · have := chain_later hs hltQ hc (i - k - 1) k y x hy (by rw [show k + 1 + (i - k - 1) = i by omega]; exact hx) he
      omega
    · have h1 := sortedL_le hs hgt hx hy
      have := chain_later hs hltQ hc (k - i - 1) i x y hx (by rw [show i + 1 + (k - i - 1) = k by omega]; exact hy) (by omega)
      have := hltQ x (List.mem_of_getElem? hx)
      omega
  · intro h i x y hx hy e
    apply Classical.byContradiction
    intro hn
    have h1 := sortedL_le hs (show i < i + 1 by omega) hx hy
    have h2 := sumT_two (μ := covL1 y.1 y.2.1) (P := Q) (fun t _ => (covL_le _ _ t).1) (show i ≠ i + 1 by omega) hx hy
    rw [sumT_perm _ hp] at h2
    have h3 := h y.1 y.2.1
    have h4 := hltQ y (List.mem_of_getElem? hy)
    have h5 : covL1 y.1 y.2.1 x = 1 := by unfold covL1; rw [if_pos ⟨e, by omega, by omega⟩]
    have h6 : covL1 y.1 y.2.1 y = 1 := by unfold covL1; rw [if_pos ⟨rfl, by omega, by omega⟩]
    omega

/-- How many numbers are at most h. -/
def cntL (h : Int) (L : List Int) : Int := (L.map (fun x => if x ≤ h then (1 : Int) else 0)).sum
theorem cntL_perm (h : Int) {L M : List Int} (hp : L.Perm M) : cntL h L = cntL h M := by
  induction hp with
  | nil => rfl
  | cons x _ ih => unfold cntL at *; simp only [List.map_cons, List.sum_cons, ih]
  | swap x y l => unfold cntL; simp only [List.map_cons, List.sum_cons]; omega
  | trans _ _ ih1 ih2 => exact ih1.trans ih2

theorem cntL_append (h : Int) (L M : List Int) : cntL h (L ++ M) = cntL h L + cntL h M := by unfold cntL; rw [List.map_append, List.sum_append]
theorem cntL_all (h : Int) : ∀ {L : List Int}, (∀ x ∈ L, x ≤ h) → cntL h L = L.length
  | [], _ => rfl
  | x :: L, hl => by
    have ih := cntL_all h (L := L) (fun y hy => hl y (by simp [hy]))
    unfold cntL at ih ⊢
    rw [List.map_cons, List.sum_cons, ih, if_pos (hl x (by simp)), List.length_cons]
    omega
theorem cntL_none (h : Int) : ∀ {L : List Int}, (∀ x ∈ L, h < x) → cntL h L = 0
  | [], _ => rfl
  | x :: L, hl => by
    have ih := cntL_none h (L := L) (fun y hy => hl y (by simp [hy]))
    have := hl x (by simp)
    unfold cntL at ih ⊢
    rw [List.map_cons, List.sum_cons, ih, if_neg (by omega)]
    rfl
theorem cntL_bd (h : Int) : ∀ L : List Int, 0 ≤ cntL h L ∧ cntL h L ≤ L.length
  | [] => by simp [cntL]
  | x :: L => by
    have ih := cntL_bd h L
    unfold cntL at ih ⊢
    rw [List.map_cons, List.sum_cons, List.length_cons]
    split <;> omega

/-- In a list that rises, the j-th number is at most h just if more than j are. -/
theorem cntL_get {L : List Int} (hs : L.Pairwise (· ≤ ·)) {j : Nat} {x : Int} (hx : L[j]? = some x) (h : Int) : x ≤ h ↔ (j : Int) < cntL h L := by
  obtain ⟨hj, ex⟩ := List.getElem?_eq_some_iff.1 hx
  have hsplit : cntL h L = cntL h (L.take j) + cntL h (L.drop j) := by rw [← cntL_append, List.take_append_drop]
  constructor
  · intro hle
    have h1 : cntL h (L.take (j + 1)) = (j + 1 : Nat) := by
      rw [cntL_all h (fun y hy => ?_), List.length_take, Nat.min_eq_left (by omega)]
      obtain ⟨i, hi⟩ := List.mem_iff_getElem?.1 hy
      rw [List.getElem?_take] at hi
      split at hi
      · rename_i hij
        obtain ⟨h2, e2⟩ := List.getElem?_eq_some_iff.1 hi
        rcases Nat.lt_or_ge i j with h' | h'
        · have := List.pairwise_iff_getElem.1 hs i j h2 hj h'
          omega
        · have : i = j := by omega
          subst this
          rw [hi] at hx
          cases hx
          exact hle
      · cases hi
    have h2 : cntL h L = cntL h (L.take (j + 1)) + cntL h (L.drop (j + 1)) := by rw [← cntL_append, List.take_append_drop]
    have := (cntL_bd h (L.drop (j + 1))).1
    omega
  · intro hlt
    apply Classical.byContradiction
    intro hn
    have h1 : cntL h (L.drop j) = 0 := cntL_none h (fun y hy => by
      obtain ⟨i, hi⟩ := List.mem_iff_getElem?.1 hy
      rw [List.getElem?_drop] at hi
      obtain ⟨h2, e2⟩ := List.getElem?_eq_some_iff.1 hi
      rcases Nat.eq_zero_or_pos i with h' | h'
      · subst h'
        rw [Nat.add_zero, hx] at hi
        cases hi
        omega
      · have := List.pairwise_iff_getElem.1 hs j (j + i) hj h2 (by omega)
        omega)
    have h2 := (cntL_bd h (L.take j)).2
    rw [List.length_take] at h2
    omega

theorem cov_count (h : Int) : ∀ {P : List Tn}, (∀ t ∈ P, t.2.1 < t.2.2) → sumT (cov1 h) P = cntL h (P.map (fun t => t.2.1)) - cntL h (P.map (fun t => t.2.2))
  | [], _ => rfl
  | x :: P, hl => by
    have ih := cov_count h (P := P) (fun t ht => hl t (by simp [ht]))
    have hx := hl x (by simp)
    rw [sumT_cons, ih]
    unfold cntL cov1
    simp only [List.map_cons, List.sum_cons]
    by_cases h1 : x.2.1 ≤ h
    · by_cases h2 : x.2.2 ≤ h
      · rw [if_neg (by omega), if_pos h1, if_pos h2]; omega
      · rw [if_pos ⟨h1, by omega⟩, if_pos h1, if_neg h2]; omega
    · rw [if_neg (fun hh => h1 hh.1), if_neg h1, if_neg (by omega)]; omega

/-- The judge by sorted begins and ends sees what the definition says of each hour. -/
theorem room_iff {P : List Tn} {K : Nat} {B E : List Int} (hlt : ∀ t ∈ P, t.2.1 < t.2.2) (hB : B.Perm (P.map (fun t => t.2.1))) (hE : E.Perm (P.map (fun t => t.2.2))) (sB : B.Pairwise (· ≤ ·)) (sE : E.Pairwise (· ≤ ·)) :
    (∀ (i : Nat) (b e : Int), K ≤ i → B[i]? = some b → E[i - K]? = some e → e ≤ b) ↔ ∀ h, sumT (cov1 h) P ≤ K := by
  have lB : B.length = P.length := by rw [hB.length_eq, List.length_map]
  have lE : E.length = P.length := by rw [hE.length_eq, List.length_map]
  constructor
  · intro hr h
    rw [cov_count h hlt, ← cntL_perm h hB, ← cntL_perm h hE]
    apply Classical.byContradiction
    intro hn
    have b1 := cntL_bd h B
    have e1 := cntL_bd h E
    obtain ⟨i, hi⟩ : ∃ i : Nat, (i : Int) = cntL h B - 1 := ⟨(cntL h B - 1).toNat, by omega⟩
    obtain ⟨b, hb⟩ : ∃ b, B[i]? = some b := ⟨_, List.getElem?_eq_getElem (by omega)⟩
    obtain ⟨e, he⟩ : ∃ e, E[i - K]? = some e := ⟨_, List.getElem?_eq_getElem (by omega)⟩
    have h1 := (cntL_get sB hb h).2 (by omega)
    have h2 := hr i b e (by omega) hb he
    have h3 := (cntL_get sE he h).1 (by omega)
    omega
  · intro hc i b e hKi hb he
    have h1 := hc b
    rw [cov_count b hlt, ← cntL_perm b hB, ← cntL_perm b hE] at h1
    have h2 := (cntL_get sB hb b).1 (Int.le_refl _)
    exact (cntL_get sE he b).2 (by omega)

end Go.Proofs.Ytkofnhimgegcnaa

namespace Go.Proofs.Ytkofnhimgegcnaa
open Go Go.RowKit Go.Sort

theorem okT_bd {l : List Ld} (hok : ∀ x ∈ l, okN x) {P : List Tn} {k : Nat} (h : ∀ (i : Nat) (x : Tn), i < k → P[i]? = some x → okT l x) (j : Int) : 0 ≤ sumT (len1 j) (P.take k) ∧ sumT (len1 j) (P.take k) ≤ k * 1000000000 := by
  induction k with
  | zero => simp [sumT]
  | succ k ih =>
    have ih := ih (fun i x hi hx => h i x (by omega) hx)
    by_cases hk : k < P.length
    · obtain ⟨x, hx⟩ : ∃ x, P[k]? = some x := ⟨_, List.getElem?_eq_getElem hk⟩
      obtain ⟨i, y, e, hy, b1, b2, b3⟩ := h k x (by omega) hx
      have hb := hok y (List.mem_of_getElem? hy)
      unfold okN at hb
      rw [sumT_next hx]
      have : 0 ≤ len1 j x ∧ len1 j x ≤ 1000000000 := by unfold len1; split <;> omega
      omega
    · rw [List.take_of_length_le (by omega)]
      rw [List.take_of_length_le (by omega)] at ih
      omega

set_option maxRecDepth 100000 in
set_option maxHeartbeats 4000000 in
theorem RPlan_no (lp : Option Addr) (lc : Nat) (l : List Ld) (K : Int) (p : Option Addr) (cl base : Nat) (P : List Tn) (w : World) (hl : LoadsAt w lp l) (hn : l.length ≤ 1000) (hok : ∀ x ∈ l, okN x)
    (hP : TurnsR w base (.slice p P.length cl) P) (hm : P.length ≤ 1000) (hK0 : 0 ≤ K) (hnp : ¬ PlanOK l K P) :
    Calls Try.prog 19 #[.slice lp l.length lc, .int .i64 K, .slice p P.length cl] w fun e w' => e = .returned (.bool false) ∧ Adds w w' := by
  obtain ⟨j0, hj, hj0, hj1, hj2⟩ := info_parts info3
  have HJ := Lib.hid hj
  have HJ0 := Lib.hid hj0
  have HJ1 := Lib.hid hj1
  have HJ2 := Lib.hid hj2
  clear hj hj0 hj1 hj2
  unfold TurnsR at hP
  obtain ⟨n, hn'⟩ : ∃ n, n = l.length := ⟨_, rfl⟩
  obtain ⟨m, hm'⟩ : ∃ m, m = P.length := ⟨_, rfl⟩
  rw [← hn'] at hn ⊢
  rw [← hm'] at hm hP ⊢
  have HN := Lib.hid hn'
  have HM := Lib.hid hm'
  have HL := Lib.hid hl
  have HP := Lib.hid hP
  have HNP := Lib.hid hnp
  have HOK := Lib.hid hok
  have HK0 := Lib.hid hK0
  clear hl hP hnp hok hn' hm' hK0
  go_enter Try.func19, Try.ntmps19
  go_upto_region 2 with (refine wpList_make_full _ rfl _ _ 35 rfl w.heap.size 3 j0 (.int .i64 0) 1 Try.underlying35 HJ.out HJ0.out HJ1.out .i64 .i64 (n : Int) (n : Int) n rfl rfl rfl rfl (by rw [HJ2.out]; omega) (by unfold maxLen; omega) (by simp) ?_; intro y5 ho hg; have HO := Lib.hid (made_row ho); have HG := Lib.hid hg; clear ho hg)
  obtain ⟨g, hg⟩ : ∃ g, g = w.heap.size := ⟨_, rfl⟩
  have HGW := Lib.hid hg
  rw [← hg] at HO ⊢
  have HROW : Hid (RowI 3 .i64 y5 g n (sumsL n (P.take 0))) := Lib.hid (by
    obtain ⟨e1, e2⟩ := own_rowI HO.out
    rcases e2 with ⟨e2, _⟩ | ⟨g', cap, e2, _, e3⟩
    · cases e2
    · injection e2 with e4 e5 e6
      injection e4 with e4
      injection e4 with e4
      subst e6
      subst e4
      rw [List.take_zero, sumsL_nil]
      exact e3)
  have HA0 : Hid (Adds w y5) := Lib.hid ((Adds.refl w).grown HG.out (Nat.le_refl _) (fun j hj => by cases hj))
  clear HO HG hg
  go_upto_region 3 with fail
  go_loopw [8] (fun v8 wr => ∃ i : Nat, i ≤ m ∧ v8 = .int .i64 i ∧ Hid (RowI 3 .i64 wr g n (sumsL n (P.take i))) ∧ Hid (∀ (i' : Nat) (x : Tn), i' < i → P[i']? = some x → okT l x ∧ sumT (cov1 x.2.1) P ≤ K ∧ ∀ (k : Nat) (y : Tn), k ≠ i' → P[k]? = some y → y.2.1 ≤ x.2.1 ∧ x.2.1 < y.2.2 → y.1 ≠ x.1) ∧ Hid (Adds w wr)) (fun v8 _ => m - (intOf v8).toNat)
  case atStart => exact ⟨0, by omega, rfl, HROW, Lib.hid (fun i' x hi' => by omega), HA0⟩
  case round =>
    obtain ⟨i, hi, rfl, HR, HG, HAD⟩ := hrel
    by_cases hlt : i < m
    · have hlt2 : (i : Int) < (m : Int) := by omega
      obtain ⟨⟨x0, x1, x2⟩, hx⟩ : ∃ x, P[i]? = some x := ⟨_, List.getElem?_eq_getElem (by have := HM.out; omega)⟩
      obtain ⟨tg, c', e, _⟩ := own_some HP.out (by omega)
      injection e with e1 e2 e3
      subst e1
      clear e2 e3
      obtain ⟨f0, f1, f2⟩ := flat3_cell i _ hx
      have d0 := keep_cell HAD.out (own_cell HP.out f0).1
      have d1 := keep_cell HAD.out (own_cell HP.out f1).1
      have d2 := keep_cell HAD.out (own_cell HP.out f2).1
      dsimp only at d0 d1 d2
      have HX := Lib.hid hx
      clear hx f0 f1 f2
      go_upto_region 6 with fail
      obtain ⟨xb, hxb⟩ : ∃ b, b = wr.heap.size := ⟨_, rfl⟩
      obtain ⟨W2, hW2⟩ : ∃ V, V = wr.alloc (.cells #[.int .i64 x0, .int .i64 x1, .int .i64 x2] 42) := ⟨_, rfl⟩
      rw [← hW2, ← hxb]
      have hgl := HR.out.lt
      have hA2 : Adds wr W2 := by rw [hW2]; exact (Adds.refl _).alloc _
      have HA2 : Hid (Adds w W2) := Lib.hid (HAD.out.trans hA2)
      have HX2' : Hid (Box W2 xb #[.int .i64 x0, .int .i64 x1, .int .i64 x2] 42) := Lib.hid (by rw [hW2, hxb]; exact Box.new _ _ _)
      have HR2 : Hid (RowI 3 .i64 W2 g n (sumsL n (P.take i))) := Lib.hid (HR.out.later hA2)
      have hgx : g ≠ xb := by omega
      have k0 : W2.cell? ⟨xb, 0, none⟩ = some (.int .i64 x0) := HX2'.out.cell 0
      have k1 : W2.cell? ⟨xb, 1, none⟩ = some (.int .i64 x1) := HX2'.out.cell 1
      have k2 : W2.cell? ⟨xb, 2, none⟩ = some (.int .i64 x2) := HX2'.out.cell 2
      clear hW2 hxb d0 d1 d2 HAD HR hgl
      by_cases c0 : x0 < 0
      · have g1 : decide (x0 < 0) = true := decide_eq_true c0
        clear c0 hA2
        go_quiet (fail)
        go_wp2
        go_ret
        exact ⟨rfl, HA2.out.drewN _⟩
      have g1 : decide (x0 < 0) = false := decide_eq_false c0
      by_cases c1 : (n : Int) ≤ x0
      · have g2 : decide ((n : Int) ≤ x0) = true := decide_eq_true c1
        clear c0 c1 hA2
        go_quiet (fail)
        go_wp2
        go_ret
        exact ⟨rfl, HA2.out.drewN _⟩
      obtain ⟨j, hj⟩ : ∃ j : Nat, x0 = (j : Int) := ⟨x0.toNat, by omega⟩
      subst hj
      have hjn : j < n := by omega
      have g2 : decide ((n : Int) ≤ (j : Int)) = false := decide_eq_false (by omega)
      have g2n : decide (n ≤ j) = false := decide_eq_false (by omega)
      have q0 : (0 : Int) ≤ (j : Int) := by omega
      have q1 : (j : Int) < (n : Int) := by omega
      by_cases c2 : x2 ≤ x1
      · have g3 : decide (x2 ≤ x1) = true := decide_eq_true c2
        clear c0 c1 c2 hA2
        go_quiet (fail)
        go_wp2
        go_ret
        exact ⟨rfl, HA2.out.drewN _⟩
      have g3 : decide (x2 ≤ x1) = false := decide_eq_false c2
      obtain ⟨⟨y0, y1, y2, y3⟩, hy⟩ : ∃ x, l[j]? = some x := ⟨_, List.getElem?_eq_getElem (by have := HN.out; omega)⟩
      have hok := HOK.out _ (List.mem_of_getElem? hy)
      unfold okN at hok
      dsimp only at hok
      obtain ⟨o1, o2, o3, o4, o5, o6⟩ := hok
      obtain ⟨lg, off, rfl, e0, e1, e2, e3⟩ := HL.out.later HA2.out j _ hy
      dsimp only at e0 e1 e2 e3
      have HY := Lib.hid hy
      clear hy e2 e3 hA2
      by_cases c3 : x1 < y0
      · have g4 : decide (x1 < y0) = true := decide_eq_true c3
        clear c0 c1 c2 c3
        go_quiet (fail)
        go_wp2
        go_ret
        exact ⟨rfl, HA2.out.drewN _⟩
      have g4 : decide (x1 < y0) = false := decide_eq_false c3
      by_cases c4 : y1 < x2
      · have g5 : decide (y1 < x2) = true := decide_eq_true c4
        clear c0 c1 c2 c3 c4
        go_quiet (fail)
        go_wp2
        go_ret
        exact ⟨rfl, HA2.out.drewN _⟩
      have g5 : decide (y1 < x2) = false := decide_eq_false c4
      have HT : Hid (okT l ((j : Int), x1, x2)) := Lib.hid ⟨j, _, rfl, HY.out, by dsimp only; omega, by dsimp only; omega, by dsimp only; omega⟩
      have b1 : y0 ≤ x1 := by omega
      have b2 : x1 < x2 := by omega
      have b3 : x2 ≤ y1 := by omega
      have HX2 : Hid (Box W2 xb #[.int .i64 (j : Int), .int .i64 x1, .int .i64 x2] 42) := HX2'
      have u0 := e0
      have u1 := e1
      clear c0 c1 c2 c3 c4 e0 e1 HX2'
      go_quiet (fail)
      go_upto_region 8 with fail
      obtain ⟨W3, hW3⟩ : ∃ V, V = W2.drewN nq := ⟨_, rfl⟩
      rw [← hW3]
      have hA3 : Adds W2 W3 := by rw [hW3]; exact (Adds.refl _).drewN _
      have HA3 : Hid (Adds w W3) := Lib.hid (HA2.out.trans hA3)
      have HX3 : Hid (Box W3 xb #[.int .i64 (j : Int), .int .i64 x1, .int .i64 x2] 42) := Lib.hid (HX2.out.later hA3)
      have HR3 : Hid (RowI 3 .i64 W3 g n (sumsL n (P.take i))) := Lib.hid (HR2.out.later hA3)
      obtain ⟨s0, s1⟩ := okT_bd HOK.out (fun i' x hi' hx => (HG.out i' x hi' hx).1) (j : Int)
      obtain ⟨s, hs⟩ : ∃ s, s = sumT (len1 (j : Int)) (P.take i) := ⟨_, rfl⟩
      rw [← hs] at s0 s1
      have k3 : W3.cell? ⟨g, j, none⟩ = some (.int .i64 s) := HR3.out.cell (by rw [sumsL_get _ hjn, hs])
      have kf : W3.frozen? ⟨g, j, none⟩ = false := HR3.out.free j
      clear hW3 hA3 k0 k1 k2 u0 u1 g1 g2 g3 g4 g5
      have k0 : W3.cell? ⟨xb, 0, none⟩ = some (.int .i64 (j : Int)) := HX3.out.cell 0
      have k1 : W3.cell? ⟨xb, 1, none⟩ = some (.int .i64 x1) := HX3.out.cell 1
      have k2 : W3.cell? ⟨xb, 2, none⟩ = some (.int .i64 x2) := HX3.out.cell 2
      have hw1 : IntKind.i64.wrap (s + x2) = s + x2 := by rw [IntKind.wrap_i64]; omega
      have hw2 : IntKind.i64.wrap (s + x2 - x1) = s + x2 - x1 := by rw [IntKind.wrap_i64]; omega
      have HNS : Hid (sumsL n (P.take (i + 1)) = (sumsL n (P.take i)).set j (s + x2 - x1)) := Lib.hid (by rw [sumsL_next HX.out rfl hjn, hs]; dsimp only; congr 1; omega)
      clear hs
      go_still_tail 15, (by kernel_rfl)
      change wpList _ _ _ _ _ W3.drew
      go_upto_region 9 with fail
      obtain ⟨W4, hW4⟩ : ∃ V, V = (W3.setCell ⟨g, j, none⟩ (.int .i64 (s + x2 - x1))).drew := ⟨_, rfl⟩
      rw [← hW4]
      have HA4 : Hid (Adds w W4) := Lib.hid (by rw [hW4]; exact (HA3.out.set (p := ⟨g, j, none⟩) (by have := HGW.out; simp; omega) _).drew)
      have HR4 : Hid (RowI 3 .i64 W4 g n (sumsL n (P.take (i + 1)))) := Lib.hid (by
        rw [hW4, HNS.out]
        have h1 := HR3.out.put j (s + x2 - x1)
        exact h1.same rfl)
      have HX4 : Hid (Box W4 xb #[.int .i64 (j : Int), .int .i64 x1, .int .i64 x2] 42) := Lib.hid (by rw [hW4]; exact (HX3.out.far (by simp; omega) _).drew)
      clear hW4 k0 k1 k2 k3 kf hw1 hw2 s0 s1
      go_upto_region 11 with fail
      go_loopw [10, 11] (fun v10 v11 wi => ∃ k : Nat, k ≤ m ∧ v11 = .int .i64 k ∧ v10 = .int .i64 (sumT (cov1 x1) (P.take k)) ∧ Hid (∀ (k' : Nat) (y : Tn), k' < k → k' ≠ i → P[k']? = some y → y.2.1 ≤ x1 ∧ x1 < y.2.2 → y.1 ≠ (j : Int)) ∧ Hid (Adds W4 wi)) (fun _ v11 _ => m - (intOf v11).toNat)
      case atStart => exact ⟨0, by omega, rfl, rfl, Lib.hid (fun k' y hk' => by omega), Lib.hid (Adds.refl _)⟩
      case round =>
        obtain ⟨k, hk, rfl, rfl, HGK, HAI⟩ := hrel
        by_cases hkl : k < m
        · have hkl2 : (k : Int) < (m : Int) := by omega
          obtain ⟨⟨z0, z1, z2⟩, hz⟩ : ∃ x, P[k]? = some x := ⟨_, List.getElem?_eq_getElem (by have := HM.out; omega)⟩
          obtain ⟨f0, f1, f2⟩ := flat3_cell k _ hz
          have hA := HA4.out.trans HAI.out
          have d0 := keep_cell hA (own_cell HP.out f0).1
          have d1 := keep_cell hA (own_cell HP.out f1).1
          have d2 := keep_cell hA (own_cell HP.out f2).1
          dsimp only at d0 d1 d2
          have k0 : wr.cell? ⟨xb, 0, none⟩ = some (.int .i64 (j : Int)) := (HX4.out.later HAI.out).cell 0
          have k1 : wr.cell? ⟨xb, 1, none⟩ = some (.int .i64 x1) := (HX4.out.later HAI.out).cell 1
          have HZ := Lib.hid hz
          have HNX : Hid (sumT (cov1 x1) (P.take (k + 1)) = sumT (cov1 x1) (P.take k) + cov1 x1 (z0, z1, z2)) := Lib.hid (sumT_next hz)
          obtain ⟨c0, c1⟩ := cov_le x1 (P.take k)
          have hcl : ((P.take k).length : Int) ≤ (k : Int) := by rw [List.length_take]; omega
          obtain ⟨c, hc⟩ : ∃ c, c = sumT (cov1 x1) (P.take k) := ⟨_, rfl⟩
          rw [← hc] at c0 c1 HNX ⊢
          have cb : c ≤ 1000000 := by omega
          clear hz f0 f1 f2 hA hc c1 hcl
          by_cases b1 : z1 ≤ x1
          · have g1 : decide (z1 ≤ x1) = true := decide_eq_true b1
            by_cases b2 : x1 < z2
            · have g2 : decide (x1 < z2) = true := decide_eq_true b2
              have HN1 : Hid (sumT (cov1 x1) (P.take (k + 1)) = c + 1) := Lib.hid (by rw [HNX.out]; unfold cov1; rw [if_pos ⟨b1, b2⟩])
              by_cases hki : k = i
              · have g3 : ((k : Int) != (i : Int)) = false := by simp [hki]
                have HGN : Hid (∀ (k' : Nat) (y : Tn), k' < k + 1 → k' ≠ i → P[k']? = some y → y.2.1 ≤ x1 ∧ x1 < y.2.2 → y.1 ≠ (j : Int)) := Lib.hid (fun k' y hk' hne hy => HGK.out k' y (by omega) hne hy)
                clear hki
                go_upto_region 13 with fail
                go_quiet (fail)
                go_upto_region 15 with fail
                go_quiet (fail)
                go_wp2
                exact ⟨⟨k + 1, by omega, by go_num, by rw [HN1.out], HGN, Lib.hid (HAI.out.drewN _)⟩, by simp [intOf]; omega⟩
              · have g3 : ((k : Int) != (i : Int)) = true := by simp; omega
                have HKI := Lib.hid hki
                clear hki
                go_upto_region 13 with fail
                go_quiet (fail)
                go_upto_region 15 with fail
                obtain ⟨W5, hW5⟩ : ∃ V, V = wr.drewN nq := ⟨_, rfl⟩
                rw [← hW5]
                have hd5 : Adds wr W5 := by rw [hW5]; exact (Adds.refl _).drewN _
                have m0 := keep_cell hd5 d0
                have m1 := keep_cell hd5 k0
                have HA5 := Lib.hid (HAI.out.trans hd5)
                clear hW5 hd5 d0 d1 d2 k0 k1
                by_cases he : z0 = (j : Int)
                · have g4 : (z0 == (j : Int)) = true := by rw [he]; simp
                  clear he
                  go_quiet (fail)
                  go_wp2
                  go_ret
                  exact ⟨rfl, (HA4.out.trans HA5.out).drewN _⟩
                · have g4 : (z0 == (j : Int)) = false := beq_eq_false_iff_ne.2 he
                  have HGN : Hid (∀ (k' : Nat) (y : Tn), k' < k + 1 → k' ≠ i → P[k']? = some y → y.2.1 ≤ x1 ∧ x1 < y.2.2 → y.1 ≠ (j : Int)) := Lib.hid (fun k' y hk' hne hy hc => by
                    by_cases hkk : k' = k
                    · subst hkk
                      rw [HZ.out] at hy
                      cases hy
                      exact he
                    · exact HGK.out k' y (by omega) hne hy hc)
                  clear he
                  go_quiet (fail)
                  go_wp2
                  exact ⟨⟨k + 1, by omega, by go_num, by rw [HN1.out], HGN, Lib.hid (HA5.out.drewN _)⟩, by simp [intOf]; omega⟩
            · have g2 : decide (x1 < z2) = false := decide_eq_false b2
              have HN1 : Hid (sumT (cov1 x1) (P.take (k + 1)) = c) := Lib.hid (by rw [HNX.out]; unfold cov1; rw [if_neg (fun h => b2 h.2)]; omega)
              have HGN : Hid (∀ (k' : Nat) (y : Tn), k' < k + 1 → k' ≠ i → P[k']? = some y → y.2.1 ≤ x1 ∧ x1 < y.2.2 → y.1 ≠ (j : Int)) := Lib.hid (fun k' y hk' hne hy hc => by
                by_cases hkk : k' = k
                · subst hkk
                  rw [HZ.out] at hy
                  cases hy
                  exact absurd hc.2 b2
                · exact HGK.out k' y (by omega) hne hy hc)
              go_upto_region 13 with fail
              go_quiet (fail)
              go_wp2
              exact ⟨⟨k + 1, by omega, by go_num, by rw [HN1.out], HGN, Lib.hid (HAI.out.drewN _)⟩, by simp [intOf]; omega⟩
          · have g1 : decide (z1 ≤ x1) = false := decide_eq_false b1
            have HN1 : Hid (sumT (cov1 x1) (P.take (k + 1)) = c) := Lib.hid (by rw [HNX.out]; unfold cov1; rw [if_neg (fun h => b1 h.1)]; omega)
            have HGN : Hid (∀ (k' : Nat) (y : Tn), k' < k + 1 → k' ≠ i → P[k']? = some y → y.2.1 ≤ x1 ∧ x1 < y.2.2 → y.1 ≠ (j : Int)) := Lib.hid (fun k' y hk' hne hy hc => by
              by_cases hkk : k' = k
              · subst hkk
                rw [HZ.out] at hy
                cases hy
                exact absurd hc.1 b1
              · exact HGK.out k' y (by omega) hne hy hc)
            go_upto_region 13 with fail
            go_quiet (fail)
            go_wp2
            exact ⟨⟨k + 1, by omega, by go_num, by rw [HN1.out], HGN, Lib.hid (HAI.out.drewN _)⟩, by simp [intOf]; omega⟩
        · have hdq : decide ((k : Int) < (m : Int)) = false := decide_eq_false (by omega)
          have e1 : P.take k = P := List.take_of_length_le (by have := HM.out; omega)
          rw [e1]
          obtain ⟨c, hc⟩ : ∃ c, c = sumT (cov1 x1) P := ⟨_, rfl⟩
          rw [← hc]
          by_cases hfew : K < c
          · have g1 : decide (K < c) = true := decide_eq_true hfew
            clear e1 hc
            go_wp2
            go_ret
            exact ⟨rfl, HA4.out.trans HAI.out⟩
          · have g1 : decide (K < c) = false := decide_eq_false hfew
            have HGI : Hid (∀ (i' : Nat) (x : Tn), i' < i + 1 → P[i']? = some x → okT l x ∧ sumT (cov1 x.2.1) P ≤ K ∧ ∀ (k : Nat) (y : Tn), k ≠ i' → P[k]? = some y → y.2.1 ≤ x.2.1 ∧ x.2.1 < y.2.2 → y.1 ≠ x.1) := Lib.hid (fun i' x hi' hx => by
              by_cases hii : i' = i
              · subst hii
                rw [HX.out] at hx
                cases hx
                refine ⟨HT.out, by dsimp only; omega, fun k' y hne hy hcv => ?_⟩
                exact HGK.out k' y (by have := (List.getElem?_eq_some_iff.1 hy).1; have := HM.out; omega) hne hy hcv
              · exact HG.out i' x (by omega) hx)
            clear e1 hc hfew
            go_wp2
            exact ⟨⟨i + 1, by omega, by go_num, Lib.hid (HR4.out.later HAI.out), HGI, Lib.hid (HA4.out.trans HAI.out)⟩, by simp [intOf]; omega⟩
    · have hdq : decide ((i : Int) < (m : Int)) = false := decide_eq_false (by omega)
      have e1 : P.take i = P := List.take_of_length_le (by have := HM.out; omega)
      have HBQ : Hid (∀ j : Int, 0 ≤ sumT (len1 j) P ∧ sumT (len1 j) P ≤ 1000000000000000) := Lib.hid (fun j => by
        have := okT_bd HOK.out (P := P) (k := i) (fun i' x hi' hx => (HG.out i' x hi' hx).1) j
        rw [e1] at this
        omega)
      rw [e1] at HR
      clear e1
      go_upto_region 20 with fail
      go_loopw [12] (fun v12 wi => ∃ q : Nat, q ≤ n ∧ v12 = .int .i64 q ∧ Hid (∀ (q' : Nat) (x : Ld), q' < q → l[q']? = some x → sumT (len1 (q' : Int)) P = x.2.2.1) ∧ Hid (Adds wr wi)) (fun v12 _ => n - (intOf v12).toNat)
      case atStart => exact ⟨0, by omega, rfl, Lib.hid (fun q' x hq' => by omega), Lib.hid (Adds.refl _)⟩
      case round =>
        obtain ⟨q, hq, rfl, HGQ, HAI⟩ := hrel
        by_cases hql : q < n
        · have hql2 : (q : Int) < (n : Int) := by omega
          obtain ⟨⟨y0, y1, y2, y3⟩, hy⟩ : ∃ x, l[q]? = some x := ⟨_, List.getElem?_eq_getElem (by have := HN.out; omega)⟩
          have HY := Lib.hid hy
          obtain ⟨lg, off, rfl, e0, e1, e2, e3⟩ := HL.out.later (HAD.out.trans HAI.out) q _ hy
          dsimp only at e2
          obtain ⟨s, hs⟩ : ∃ s, s = sumT (len1 (q : Int)) P := ⟨_, rfl⟩
          have ks : wr.cell? ⟨g, q, none⟩ = some (.int .i64 s) := (HR.out.later HAI.out).cell (by rw [sumsL_get _ hql, hs])
          have HSQ := Lib.hid hs
          clear hy e0 e1 e3 hs
          by_cases hse : s = y2
          · have g1 : (s != y2) = false := by simp [hse]
            have HGN : Hid (∀ (q' : Nat) (x : Ld), q' < q + 1 → l[q']? = some x → sumT (len1 (q' : Int)) P = x.2.2.1) := Lib.hid (fun q' x hq' hx => by
              by_cases hqq : q' = q
              · subst hqq
                rw [HY.out] at hx
                cases hx
                rw [← HSQ.out, hse]
              · exact HGQ.out q' x (by omega) hx)
            clear hse
            go_upto_region 22 with fail
            go_quiet (fail)
            go_wp2
            exact ⟨⟨q + 1, by omega, by go_num, HGN, Lib.hid (HAI.out.drewN _)⟩, by simp [intOf]; omega⟩
          · have g1 : (s != y2) = true := by simpa using hse
            clear hse
            go_upto_region 22 with fail
            go_quiet (fail)
            go_wp2
            go_ret
            exact ⟨rfl, (HAD.out.trans HAI.out).drewN _⟩
        · exfalso
          refine HNP.out (plan_of (fun t ht => ?_) HK0.out (fun t ht => ?_) (fun i' k' x y hki hx hy hcv => ?_) (fun q' x hx => ?_))
          · obtain ⟨i', hi'⟩ := List.mem_iff_getElem?.1 ht
            exact (HG.out i' t (by have := (List.getElem?_eq_some_iff.1 hi').1; have := HM.out; omega) hi').1
          · obtain ⟨i', hi'⟩ := List.mem_iff_getElem?.1 ht
            exact (HG.out i' t (by have := (List.getElem?_eq_some_iff.1 hi').1; have := HM.out; omega) hi').2.1
          · exact (HG.out i' x (by have := (List.getElem?_eq_some_iff.1 hx).1; have := HM.out; omega) hx).2.2 k' y hki hy hcv
          · exact HGQ.out q' x (by have := (List.getElem?_eq_some_iff.1 hx).1; have := HN.out; omega) hx

end Go.Proofs.Ytkofnhimgegcnaa

namespace Go.Proofs.Ytkofnhimgegcnaa
open Go Go.RowKit Go.Sort

set_option maxRecDepth 100000 in
set_option maxHeartbeats 2000000 in
theorem cloneT_any (v : Value) (base : Nat) (P : List Tn) (w : World) (hr : Turns w base v P) (hm : P.length ≤ 1000) :
    Calls Try.prog 72 #[v] w fun e w' => ∃ u, e = .returned u ∧ Turns w' w.heap.size u P ∧ Adds w w' := by
  obtain ⟨i0, hi, hi0, hi1, hi2⟩ := info_parts info41
  have HI := Lib.hid hi
  have HI0 := Lib.hid hi0
  have HI1 := Lib.hid hi1
  have HI2 := Lib.hid hi2
  clear hi hi0 hi1 hi2
  obtain ⟨_, h⟩ := own_row3 hr
  rcases h with ⟨rfl, rfl⟩ | ⟨g, cap, rfl, hbg, h⟩
  · clear hr
    have hnil := fun (w : World) => Go.Lib.run_eql_slice_nil_nil (P := Try.prog) w 0 0 Try.underlying39
    go_enter Try.func72, Try.ntmps72
    go_wp2
    go_ret
    exact ⟨.slice none 0 0, rfl, World.ownsRow_nil _ _ _ _, Adds.refl _⟩
  · have HNW : Hid (∀ W, Adds w W → ∀ (j : Nat) (u : Value), (P.flatMap enc3)[j]? = some u → W.cell? ((⟨g, 0, none⟩ : Addr).add j) = some u) := Lib.hid (fun W hW j u hj => by rw [addr_add]; exact (h.later hW).cells j u hj)
    have hone := Lib.hid (flat3_one P)
    obtain ⟨n, hn⟩ : ∃ n, n = P.length := ⟨_, rfl⟩
    rw [← hn] at hm ⊢
    have HN := Lib.hid hn
    clear hr h hn
    have hnil := fun (w : World) => Go.Lib.run_eql_slice_some_nil (P := Try.prog) w (⟨g, 0, none⟩ : Addr) n cap Try.underlying39
    have hw0 : ∀ V : World, V = w.alloc (.cells #[] 41) → V.ownsRow w.heap.size 41 3 (.slice (some ⟨w.heap.size, 0, none⟩) 0 0) 0 [] := fun V hV => by
      subst hV
      exact ⟨rfl, Or.inr ⟨w.heap.size, 0, #[], rfl, Nat.le_refl _, Box.new _ _ _, Nat.le_refl _, by unfold maxLen; omega, rfl, rfl⟩⟩
    have HW0 := Lib.hid hw0
    clear hw0
    by_cases hz : n = 0
    · have hPn : P = [] := List.length_eq_zero_iff.1 (HN.out.symm.trans hz)
      subst hz
      have HSR : Hid (Src Try.prog i0.size 39 (.slice (some ⟨g, 0, none⟩) 0 cap) 0 [] (w.alloc (.cells #[] 41))) := Lib.hid (Src.ofSlice _ Try.underlying39 ⟨g, 0, none⟩ 0 cap [] (by simp) (fun j u hj => by simp at hj) (fun u hu => by cases hu))
      go_enter Try.func72, Try.ntmps72
      go_wp2_with (at_builtin; refine wpList_append_nil (P := Try.prog) rfl _ _ 39 rfl 41 i0 Try.underlying39 HI.out (some ⟨w.heap.size, 0, none⟩) 0 0 (Nat.le_refl _) rfl _ HSR.out rfl ?_)
      go_ret
      refine ⟨.slice (some ⟨w.heap.size, 0, none⟩) 0 0, rfl, ?_, (Adds.refl w).alloc _⟩
      exact HW0.out _ rfl
    · have hpos : 0 < n := by omega
      clear hz
      go_enter Try.func72, Try.ntmps72
      go_wp2_with (at_builtin; ((refine wpList_append_lies _ rfl _ _ 39 rfl w.heap.size 41 i0 (.agg #[.int .i64 0, .int .i64 0, .int .i64 0]) 3 24 Try.underlying39 HI.out HI0.out HI1.out HI2.out rfl (by decide) (.slice (some ⟨w.heap.size, 0, none⟩) 0 0) 0 [] rfl (HW0.out _ rfl) ⟨g, 0, none⟩ n cap (P.flatMap enc3) rfl (by rw [flat3_len, HN.out]) (HNW.out _ ((Adds.refl w).alloc _)) hone.out hpos (by unfold maxLen; omega) (by omega) (by simp) (w.heap.size + 1) (by simp) ?_); intro g6 c6 w6 ho6 hg6 hl6 hs6; have HO6 := Lib.hid ho6; have HG6 := Lib.hid hg6; clear ho6 hg6 hl6))
      go_ret
      refine ⟨.slice (some ⟨g6, 0, none⟩) n c6, by simp, ?_, Below.grown ((Adds.refl w).alloc _) HG6.out (by simp) (fun j hj => by simp [Value.ownBlock] at hj; omega)⟩
      have := HO6.out
      rw [Nat.zero_add, List.nil_append] at this
      unfold Turns
      rw [← HN.out]
      exact this

theorem sortL_row (base : Nat) (v : Value) (l : List Tn) (w : World) (hr : Turns w base v l) (hl : l.length ≤ 1000000) :
    Calls Try.prog 55 #[v, .func (.func 73) #[] #[]] w fun e w' => e = .returned (.tuple #[]) ∧ ∃ l', l'.Perm l ∧ l'.Pairwise (fun x y => ltOf cfL y x = false) ∧ Turns w' base v l' ∧ Touch (fun k => base ≤ k) w w' := by
  obtain ⟨_, h⟩ := own_row3 hr
  rcases h with ⟨rfl, rfl⟩ | ⟨g, cap, rfl, hbg, h⟩
  · refine (sortT_nil none 0 _ w).mono ?_
    rintro e w' ⟨rfl, rfl⟩
    exact ⟨rfl, [], List.Perm.refl _, List.Pairwise.nil, World.ownsRow_nil _ _ _ _, Touch.of_adds (Adds.refl _) _⟩
  · refine (sortL_any g cap l w h hl).mono ?_
    rintro e w' ⟨rfl, l', hp, hs, hr', ht⟩
    refine ⟨rfl, l', hp, hs, ?_, ⟨ht.os, ht.tape, ht.output, ht.size, fun k hk hn => ht.same k hk (fun e => hn (by subst e; exact hbg))⟩⟩
    have := hr'.own hbg
    rw [hp.length_eq] at this
    unfold Turns
    rw [hp.length_eq]
    exact this

end Go.Proofs.Ytkofnhimgegcnaa

namespace Go.Proofs.Ytkofnhimgegcnaa
open Go Go.RowKit Go.Sort

/-- What isDrying looks at. -/
def DryOK (l : List Ld) (P : List Tn) : Prop := (∀ a h, sumT (covL1 a h) P ≤ 1) ∧ ∀ (i : Nat) (x : Ld), l[i]? = some x → sumT (len1 (i : Int)) P = x.2.2.1

set_option maxRecDepth 100000 in
set_option maxHeartbeats 4000000 in
theorem isDrying_any (lp : Option Addr) (lc : Nat) (l : List Ld) (v : Value) (base : Nat) (P : List Tn) (w : World) (hl : LoadsAt w lp l) (hn : l.length ≤ 1000) (hok : ∀ x ∈ l, okN x) (hr : Turns w base v P) (hm : P.length ≤ 1000) (hin : ∀ t ∈ P, okT l t) :
    Calls Try.prog 43 #[.slice lp l.length lc, v] w fun e w' => ∃ b, e = .returned (.bool b) ∧ (b = true ↔ DryOK l P) ∧ Adds w w' := by
  obtain ⟨j0, hj, hj0, hj1, hj2⟩ := info_parts info3
  have HJ := Lib.hid hj
  have HJ0 := Lib.hid hj0
  have HJ1 := Lib.hid hj1
  have HJ2 := Lib.hid hj2
  have HCL := Lib.hid (cloneT_any v base P w hr hm)
  have hltP : ∀ t ∈ P, t.2.1 < t.2.2 := fun t ht => by obtain ⟨_, _, _, _, _, h2, _⟩ := hin t ht; exact h2
  obtain ⟨n, hn'⟩ : ∃ n, n = l.length := ⟨_, rfl⟩
  rw [← hn'] at hn ⊢
  have HN := Lib.hid hn'
  have HL := Lib.hid hl
  have HIN := Lib.hid hin
  have HOK := Lib.hid hok
  have HLT := Lib.hid hltP
  clear hj hj0 hj1 hj2 hr hl hin hok hn' hltP
  go_enter Try.func43, Try.ntmps43
  go_upto_region 2 with (go_at_call 72; refine HCL.out.mono ?_; rintro e w1 ⟨u, rfl, hu, hb1⟩; have HU := Lib.hid hu; have HB1 := Lib.hid hb1; clear hu hb1)
  have HSO := Lib.hid (sortL_row w.heap.size u P w1 HU.out (by omega))
  clear HCL
  go_upto_region 3 with (go_at_call 55; refine HSO.out.mono ?_; rintro e w2 ⟨rfl, Q, hp, hs, hq, ht⟩; have HP := Lib.hid hp; have HS := Lib.hid hs; have HQ0 := Lib.hid hq; have HA2 : Hid (Adds w w2) := Lib.hid (Touch.adds HB1.out ht (fun i hi => hi)); clear hp hs hq ht)
  obtain ⟨pu, cu, rfl⟩ := own_slice HQ0.out
  have hQm : Q.length ≤ 1000 := by rw [HP.out.length_eq]; exact hm
  have HLTQ : Hid (∀ t ∈ Q, okT l t) := Lib.hid (fun t ht => HIN.out t (HP.out.mem_iff.1 ht))
  obtain ⟨m, hm'⟩ : ∃ m, m = Q.length := ⟨_, rfl⟩
  have HQ : Hid (w2.ownsRow w.heap.size 41 3 (.slice pu m cu) m (Q.flatMap enc3)) := Lib.hid (by rw [hm']; exact HQ0.out)
  have HM := Lib.hid hm'
  rw [← hm'] at hQm ⊢
  clear hm' HSO HU HQ0 hm
  go_upto_region 4 with (refine wpList_make_full _ rfl _ _ 35 rfl w2.heap.size 3 j0 (.int .i64 0) 1 Try.underlying35 HJ.out HJ0.out HJ1.out .i64 .i64 (n : Int) (n : Int) n rfl rfl rfl rfl (by rw [HJ2.out]; omega) (by unfold maxLen; omega) (by simp) ?_; intro y5 ho hg; have HO := Lib.hid (made_row ho); have HG := Lib.hid hg; clear ho hg)
  obtain ⟨g, hg⟩ : ∃ g, g = w2.heap.size := ⟨_, rfl⟩
  have HGW := Lib.hid hg
  rw [← hg] at HO ⊢
  have HROW : Hid (RowI 3 .i64 y5 g n (sumsL n (Q.take 0))) := Lib.hid (by
    obtain ⟨e1, e2⟩ := own_rowI HO.out
    rcases e2 with ⟨e2, _⟩ | ⟨g', cap, e2, _, e3⟩
    · cases e2
    · injection e2 with e4 e5 e6
      injection e4 with e4
      injection e4 with e4
      subst e6
      subst e4
      rw [List.take_zero, sumsL_nil]
      exact e3)
  have HA5 : Hid (Adds w2 y5) := Lib.hid ((Adds.refl w2).grown HG.out (Nat.le_refl _) (fun j hj => by cases hj))
  clear HO HG hg
  go_upto_region 5 with fail
  go_loopw [19] (fun v19 wr => ∃ k : Nat, k ≤ m ∧ v19 = .int .i64 k ∧ Hid (RowI 3 .i64 wr g n (sumsL n (Q.take k))) ∧ Hid (∀ (i : Nat) (x y : Tn), i + 1 < k → Q[i]? = some x → Q[i + 1]? = some y → x.1 = y.1 → x.2.2 ≤ y.2.1) ∧ Hid (Adds w2 wr)) (fun v19 _ => m - (intOf v19).toNat)
  case atStart => exact ⟨0, by omega, rfl, HROW, Lib.hid (fun i x y hi => by omega), HA5⟩
  case round =>
    obtain ⟨k, hk, rfl, HR, HC, HAD⟩ := hrel
    by_cases hlt : k < m
    · have hlt2 : (k : Int) < (m : Int) := by omega
      obtain ⟨⟨x0, x1, x2⟩, hx⟩ : ∃ x, Q[k]? = some x := ⟨_, List.getElem?_eq_getElem (by have := HM.out; omega)⟩
      obtain ⟨j, ⟨y0, y1, y2, y3⟩, ex, hy, b1, b2, b3⟩ := HLTQ.out _ (List.mem_of_getElem? hx)
      dsimp only at ex b1 b2 b3
      subst ex
      have hjn : j < n := by have := (List.getElem?_eq_some_iff.1 hy).1; have := HN.out; omega
      have hok := HOK.out _ (List.mem_of_getElem? hy)
      unfold okN at hok
      dsimp only at hok
      obtain ⟨o1, o2, o3, o4, o5, o6⟩ := hok
      obtain ⟨tg, c', e, _⟩ := own_some HQ.out (by omega)
      injection e with e1 e2 e3
      subst e1
      clear e2 e3
      obtain ⟨f0, f1, f2⟩ := flat3_cell k _ hx
      have d0 := keep_cell HAD.out (own_cell HQ.out f0).1
      have d1 := keep_cell HAD.out (own_cell HQ.out f1).1
      have d2 := keep_cell HAD.out (own_cell HQ.out f2).1
      dsimp only at d0 d1 d2
      have HX := Lib.hid hx
      clear hx hy f0 f1 f2
      go_upto_region 7 with fail
      obtain ⟨xb, hxb⟩ : ∃ b, b = wr.heap.size := ⟨_, rfl⟩
      obtain ⟨W2, hW2⟩ : ∃ V, V = wr.alloc (.cells #[.int .i64 (j : Int), .int .i64 x1, .int .i64 x2] 41) := ⟨_, rfl⟩
      rw [← hW2, ← hxb]
      have hgl := HR.out.lt
      have hA2 : Adds wr W2 := by rw [hW2]; exact (Adds.refl _).alloc _
      have HAW : Hid (Adds w2 W2) := Lib.hid (HAD.out.trans hA2)
      have HX2 : Hid (Box W2 xb #[.int .i64 (j : Int), .int .i64 x1, .int .i64 x2] 41) := Lib.hid (by rw [hW2, hxb]; exact Box.new _ _ _)
      have HR2 : Hid (RowI 3 .i64 W2 g n (sumsL n (Q.take k))) := Lib.hid (HR.out.later hA2)
      have hgx : g ≠ xb := by omega
      have k0 : W2.cell? ⟨xb, 0, none⟩ = some (.int .i64 (j : Int)) := HX2.out.cell 0
      have k1 : W2.cell? ⟨xb, 1, none⟩ = some (.int .i64 x1) := HX2.out.cell 1
      have q0 : (0 : Int) ≤ (j : Int) := by omega
      have q1 : (j : Int) < (n : Int) := by omega
      clear hW2 hxb hA2 d0 d1 d2 HAD HR hgl
      have hbd : ∃ bd : Bool, (k = 0 ∧ bd = false) ∨ ∃ (z : Nat) (z0 z1 z2 : Int), k = z + 1 ∧ Q[z]? = some (z0, z1, z2) ∧ bd = (decide (z0 = (j : Int)) && decide (x1 < z2)) := by
        rcases Nat.eq_zero_or_pos k with h | h
        · exact ⟨false, Or.inl ⟨h, rfl⟩⟩
        · obtain ⟨⟨z0, z1, z2⟩, hz⟩ : ∃ x, Q[k - 1]? = some x := ⟨_, List.getElem?_eq_getElem (by have := HM.out; omega)⟩
          exact ⟨_, Or.inr ⟨k - 1, z0, z1, z2, by omega, hz, rfl⟩⟩
      obtain ⟨bd, hbd⟩ := hbd
      have HBD := Lib.hid hbd
      clear hbd
      go_cut [47] (fun vb wc => vb = .bool bd ∧ Hid (Adds W2 wc))
      case first =>
        rcases HBD.out with ⟨hk0, rfl⟩ | ⟨z, z0, z1, z2, hkz, hz, hbe⟩
        · have g4 : decide ((0 : Int) < (k : Int)) = false := decide_eq_false (by omega)
          have g4n : decide (0 < k) = false := decide_eq_false (by omega)
          clear hk0
          go_quiet (fail)
          go_wp2_with fail
          go_meet
          exact ⟨rfl, Lib.hid ((Adds.refl _).drewN _)⟩
        · have g4 : decide ((0 : Int) < (k : Int)) = true := decide_eq_true (by omega)
          have g4n : decide (0 < k) = true := decide_eq_true (by omega)
          have hw1 : IntKind.i64.wrap ((k : Int) - 1) = (z : Int) := by rw [IntKind.wrap_i64]; omega
          have hw2 : (k : Int) - 1 = (z : Int) := by omega
          have p0 : (0 : Int) ≤ (z : Int) := by omega
          have p1 : (z : Int) < (m : Int) := by omega
          obtain ⟨f0, f1, f2⟩ := flat3_cell z _ hz
          have e0 := keep_cell HAW.out (own_cell HQ.out f0).1
          have e2 := keep_cell HAW.out (own_cell HQ.out f2).1
          dsimp only at e0 e2
          clear hz hkz f0 f1 f2
          by_cases hzj : z0 = (j : Int)
          · have g5 : (z0 == (j : Int)) = true := by rw [hzj]; simp
            by_cases hb : x1 < z2
            · have g6 : decide (x1 < z2) = true := decide_eq_true hb
              have hbt : bd = true := by rw [hbe, decide_eq_true hzj, g6]; rfl
              subst hbt
              clear hbe hzj hb
              go_quiet (fail)
              go_wp2_with fail
              go_meet
              exact ⟨rfl, Lib.hid ((Adds.refl _).drewN _)⟩
            · have g6 : decide (x1 < z2) = false := decide_eq_false hb
              have hbt : bd = false := by rw [hbe, g6]; simp
              subst hbt
              clear hbe hzj hb
              go_quiet (fail)
              go_wp2_with fail
              go_meet
              exact ⟨rfl, Lib.hid ((Adds.refl _).drewN _)⟩
          · have g5 : (z0 == (j : Int)) = false := beq_eq_false_iff_ne.2 hzj
            have hbt : bd = false := by rw [hbe, decide_eq_false hzj]; rfl
            subst hbt
            clear hbe hzj
            go_quiet (fail)
            go_wp2_with fail
            go_meet
            exact ⟨rfl, Lib.hid ((Adds.refl _).drewN _)⟩
      case rest =>
      obtain ⟨rfl, HW3⟩ := hcut
      rename World => W3
      have HA3 : Hid (Adds w2 W3) := Lib.hid (HAW.out.trans HW3.out)
      have HX3 := Lib.hid (HX2.out.later HW3.out)
      have HR3 := Lib.hid (HR2.out.later HW3.out)
      clear HX2 HR2 HW3
      cases bd with
      | true =>
        go_wp2
        go_ret
        refine ⟨false, rfl, ⟨(fun e => by cases e), fun h => ?_⟩, HA2.out.trans HA3.out⟩
        exfalso
        rcases HBD.out with ⟨_, h0⟩ | ⟨z, z0, z1, z2, hkz, hz, hbe⟩
        · cases h0
        · have hch := (chain_iff HP.out HS.out HLT.out).2 h.1
          rw [eq_comm, Bool.and_eq_true, decide_eq_true_iff, decide_eq_true_iff] at hbe
          have := hch z _ _ hz (by rw [← hkz]; exact HX.out) hbe.1
          dsimp only at this
          omega
      | false =>
      have HCN : Hid (∀ (i : Nat) (x y : Tn), i + 1 < k + 1 → Q[i]? = some x → Q[i + 1]? = some y → x.1 = y.1 → x.2.2 ≤ y.2.1) := Lib.hid (fun i x y hi hx hy he => by
        by_cases hik : i + 1 = k
        · rw [hik, HX.out] at hy
          cases hy
          rcases HBD.out with ⟨hk0, _⟩ | ⟨z, z0, z1, z2, hkz, hz, hbe⟩
          · omega
          · have : i = z := by omega
            subst this
            rw [hz] at hx
            cases hx
            dsimp only at he ⊢
            rw [decide_eq_true he, Bool.true_and] at hbe
            have := of_decide_eq_false hbe.symm
            omega
        · exact HC.out i x y (by omega) hx hy he)
      obtain ⟨s0, s1⟩ := okT_bd HOK.out (P := Q) (k := k) (fun i' x _ hx => HLTQ.out x (List.mem_of_getElem? hx)) (j : Int)
      obtain ⟨s, hs⟩ : ∃ s, s = sumT (len1 (j : Int)) (Q.take k) := ⟨_, rfl⟩
      rw [← hs] at s0 s1
      have k3 : W3.cell? ⟨g, j, none⟩ = some (.int .i64 s) := HR3.out.cell (by rw [sumsL_get _ hjn, hs])
      have kf : W3.frozen? ⟨g, j, none⟩ = false := HR3.out.free j
      clear k0 k1
      have k0 : W3.cell? ⟨xb, 0, none⟩ = some (.int .i64 (j : Int)) := HX3.out.cell 0
      have k1 : W3.cell? ⟨xb, 1, none⟩ = some (.int .i64 x1) := HX3.out.cell 1
      have k2 : W3.cell? ⟨xb, 2, none⟩ = some (.int .i64 x2) := HX3.out.cell 2
      have hw1 : IntKind.i64.wrap (x2 - x1) = x2 - x1 := by rw [IntKind.wrap_i64]; omega
      have hw2 : IntKind.i64.wrap (s + (x2 - x1)) = s + (x2 - x1) := by rw [IntKind.wrap_i64]; omega
      have HNS : Hid (sumsL n (Q.take (k + 1)) = (sumsL n (Q.take k)).set j (s + (x2 - x1))) := Lib.hid (by rw [sumsL_next HX.out rfl hjn, hs])
      clear hs HC HBD
      go_upto_region 9 with fail
      go_still_tail 12, (by kernel_rfl)
      change wpList _ _ _ _ _ W3.drew
      go_wp2
      refine ⟨⟨k + 1, by omega, by go_num, Lib.hid ?_, HCN, Lib.hid (HA3.out.set (p := ⟨g, j, none⟩) (by have := HGW.out; simp; omega) _).drew⟩, by simp [intOf]; omega⟩
      rw [HNS.out]
      have h1 := HR3.out.put j (s + (x2 - x1))
      exact h1.same rfl
    · have hkm : k = m := by omega
      subst hkm
      have hch : Chain Q := fun i x y hx hy he => HC.out i x y (by have := (List.getElem?_eq_some_iff.1 hy).1; have := HM.out; omega) hx hy he
      have HONE := Lib.hid ((chain_iff HP.out HS.out HLT.out).1 hch)
      have e1 : Q.take k = Q := List.take_of_length_le (by have := HM.out; omega)
      rw [e1] at HR
      have HSUM : Hid (∀ j : Int, sumT (len1 j) Q = sumT (len1 j) P) := Lib.hid (fun j => sumT_perm _ HP.out)
      have HAR := HAD
      clear e1 HC hch
      go_upto_region 12 with fail
      go_loopw [63] (fun v63 wi => ∃ q : Nat, q ≤ n ∧ v63 = .int .i64 q ∧ Hid (∀ (q' : Nat) (x : Ld), q' < q → l[q']? = some x → sumT (len1 (q' : Int)) P = x.2.2.1) ∧ Hid (Adds wr wi)) (fun v63 _ => n - (intOf v63).toNat)
      case atStart => exact ⟨0, by omega, rfl, Lib.hid (fun q' x hq' => by omega), Lib.hid (Adds.refl _)⟩
      case round =>
        obtain ⟨q, hq, rfl, HGQ, HAI⟩ := hrel
        by_cases hql : q < n
        · have hql2 : (q : Int) < (n : Int) := by omega
          obtain ⟨⟨y0, y1, y2, y3⟩, hy⟩ : ∃ x, l[q]? = some x := ⟨_, List.getElem?_eq_getElem (by have := HN.out; omega)⟩
          have HY := Lib.hid hy
          obtain ⟨lg, off, rfl, e0, e1, e2, e3⟩ := HL.out.later (HA2.out.trans (HAR.out.trans HAI.out)) q _ hy
          dsimp only at e0 e1 e2 e3
          obtain ⟨s, hs⟩ : ∃ s, s = sumT (len1 (q : Int)) Q := ⟨_, rfl⟩
          have HSQ := Lib.hid hs
          have ks : wr.cell? ⟨g, q, none⟩ = some (.int .i64 s) := (HR.out.later HAI.out).cell (by rw [sumsL_get _ hql, hs])
          clear hy hs
          go_upto_region 14 with fail
          obtain ⟨xb, hxb⟩ : ∃ b, b = wr.heap.size := ⟨_, rfl⟩
          obtain ⟨W2, hW2⟩ : ∃ V, V = wr.alloc (.cells #[.int .i64 y0, .int .i64 y1, .int .i64 y2, .int .i64 y3] 84) := ⟨_, rfl⟩
          rw [← hW2, ← hxb]
          have hA2 : Adds wr W2 := by rw [hW2]; exact (Adds.refl _).alloc _
          have kx : W2.cell? ⟨xb, 2, none⟩ = some (.int .i64 y2) := by
            have hb : Box W2 xb #[.int .i64 y0, .int .i64 y1, .int .i64 y2, .int .i64 y3] 84 := by rw [hW2, hxb]; exact Box.new _ _ _
            exact hb.cell 2
          have ks2 := keep_cell hA2 ks
          have HAI2 := Lib.hid (HAI.out.trans hA2)
          clear hW2 hxb hA2 ks e0 e1 e2 e3
          by_cases hse : s = y2
          · have g1 : (s != y2) = false := by simp [hse]
            have HGN : Hid (∀ (q' : Nat) (x : Ld), q' < q + 1 → l[q']? = some x → sumT (len1 (q' : Int)) P = x.2.2.1) := Lib.hid (fun q' x hq' hx => by
              by_cases hqq : q' = q
              · subst hqq
                rw [HY.out] at hx
                cases hx
                rw [← HSUM.out, ← HSQ.out, hse]
              · exact HGQ.out q' x (by omega) hx)
            clear hse
            go_quiet (fail)
            go_wp2
            exact ⟨⟨q + 1, by omega, by go_num, HGN, Lib.hid (HAI2.out.drewN _)⟩, by simp [intOf]; omega⟩
          · have g1 : (s != y2) = true := by simpa using hse
            have HBAD : Hid (¬ DryOK l P) := Lib.hid (fun h => hse (by rw [HSQ.out, HSUM.out]; exact h.2 q _ HY.out))
            clear hse
            go_quiet (fail)
            go_wp2
            go_ret
            exact ⟨false, rfl, ⟨(fun e => by cases e), fun h => absurd h HBAD.out⟩, (HA2.out.trans (HAR.out.trans HAI2.out)).drewN _⟩
        · have hdq : decide ((q : Int) < (n : Int)) = false := decide_eq_false (by omega)
          have HGOOD : Hid (DryOK l P) := Lib.hid ⟨HONE.out, fun q' x hx => HGQ.out q' x (by have := (List.getElem?_eq_some_iff.1 hx).1; have := HN.out; omega) hx⟩
          go_wp2
          go_ret
          exact ⟨true, rfl, ⟨fun _ => HGOOD.out, fun _ => rfl⟩, HA2.out.trans (HAR.out.trans HAI.out)⟩

end Go.Proofs.Ytkofnhimgegcnaa

namespace Go.Proofs.Ytkofnhimgegcnaa
open Go Go.RowKit Go.Sort

theorem own_grow {W W' : World} {base t size n : Nat} {v : Value} {xs : List Value} {u : Option Nat} (h : W.ownsRow base t size v n xs) (hg : W.grownBy W' u) (hne : ∀ j, v.ownBlock = some j → u ≠ some j) : W'.ownsRow base t size v n xs :=
  own_same h (fun q hq => by
    obtain ⟨_, cur, hc⟩ := own_block h hq
    exact hg.block q (Array.getElem?_eq_some_iff.1 hc).1 (fun e => hne q hq e.symm))
theorem box_grow {W W' : World} {b : Nat} {vs : Array Value} {t : TypeId} {u : Option Nat} (h : Box W b vs t) (hg : W.grownBy W' u) (hne : u ≠ some b) : Box W' b vs t := h.same (hg.block b h.lt (fun e => hne e.symm))
theorem box_new {w : World} {b : Nat} {vs : Array Value} {t : TypeId} (h : b = w.heap.size) : Box (w.alloc (.cells vs t)) b vs t := by subst h; exact Box.new _ _ _
theorem own_allocd {W : World} {base t size n : Nat} {v : Value} {xs : List Value} (h : W.ownsRow base t size v n xs) (o : Obj) : (W.alloc o).ownsRow base t size v n xs := h.alloc o
theorem own_drawn {W : World} {base t size n : Nat} {v : Value} {xs : List Value} (h : W.ownsRow base t size v n xs) : W.drew.ownsRow base t size v n xs := h

theorem take_map {α β : Type} (f : α → β) {l : List α} {k : Nat} {x : α} (h : l[k]? = some x) : (l.take (k + 1)).map f = (l.take k).map f ++ [f x] := by
  have hk' : k < l.length := (List.getElem?_eq_some_iff.1 h).1
  have e : l[k] = x := (List.getElem?_eq_some_iff.1 h).2
  rw [List.take_succ_eq_append_getElem hk', List.map_append, e]
  rfl

/-- A row of numbers is sorted in its place. -/
theorem sortI_row (base : Nat) (v : Value) (l : List Int) (w : World) (hr : w.ownsRow base 3 1 v l.length (l.map (Value.int .i64))) (hl : l.length ≤ 1000000) :
    Calls Try.prog 69 #[v] w fun e w' => e = .returned (.tuple #[]) ∧ ∃ l' : List Int, l'.Perm l ∧ l'.Pairwise (· ≤ ·) ∧ w'.ownsRow base 3 1 v l.length (l'.map (Value.int .i64)) ∧ Touch (fun k => v.ownBlock = some k) w w' := by
  obtain ⟨_, h⟩ := own_rowI hr
  rcases h with ⟨rfl, rfl⟩ | ⟨g, cap, rfl, hbg, h⟩
  · refine (sort_nil none 0 w).mono ?_
    rintro e w' ⟨rfl, rfl⟩
    exact ⟨rfl, [], List.Perm.refl _, List.Pairwise.nil, hr, Touch.of_adds (Adds.refl _) _⟩
  · refine (sort_any g cap l w h hl).mono ?_
    rintro e w' ⟨rfl, h1, h2⟩
    have hp := List.mergeSort_perm l (fun x y => decide (x ≤ y))
    refine ⟨rfl, _, hp, ?_, ?_, ⟨h2.os, h2.tape, h2.output, h2.size, fun k hk hn => h2.same k hk (fun e => hn (by subst e; rfl))⟩⟩
    · have hs := List.pairwise_mergeSort (le := fun x y : Int => decide (x ≤ y)) (fun a b c h1 h2 => by simp at *; omega) (fun a b => by simp; omega) l
      exact hs.imp (fun h => of_decide_eq_true h)
    · have := h1.own hbg
      rw [hp.length_eq] at this
      exact this

set_option maxRecDepth 100000 in
set_option maxHeartbeats 8000000 in
theorem isRoom_any (v : Value) (base : Nat) (P : List Tn) (K : Nat) (w : World) (hr : Turns w base v P) (hm : P.length ≤ 1000) (hlt : ∀ t ∈ P, t.2.1 < t.2.2) (hK : K ≤ 1000) :
    Calls Try.prog 44 #[v, .int .i64 (K : Int)] w fun e w' => ∃ b : Bool, e = .returned (.bool b) ∧ (b = true ↔ ∀ h, sumT (cov1 h) P ≤ (K : Int)) ∧ Adds w w' := by
  obtain ⟨j0, hj, hj0, hj1, hj2⟩ := info_parts info3
  have HJ := Lib.hid hj
  have HJ0 := Lib.hid hj0
  have HJ1 := Lib.hid hj1
  have HJ2 := Lib.hid hj2
  obtain ⟨pv, cv, rfl⟩ := own_slice hr
  unfold Turns at hr
  obtain ⟨m, hm'⟩ : ∃ m, m = P.length := ⟨_, rfl⟩
  rw [← hm'] at hm hr ⊢
  have HM := Lib.hid hm'
  have HP := Lib.hid hr
  have HLT := Lib.hid hlt
  clear hj hj0 hj1 hj2 hr hm' hlt
  obtain ⟨B, hB⟩ : ∃ B, B = w.heap.size := ⟨_, rfl⟩
  have HBW := Lib.hid hB
  clear hB
  go_enter Try.func44, Try.ntmps44
  go_upto_region 3 with fail
  go_loopw [5, 6, 12] (fun v5 v6 v12 wr => ∃ k : Nat, k ≤ m ∧ v12 = .int .i64 k ∧ Hid (wr.ownsRow B 3 1 v5 k ((P.take k).map (fun t => Value.int .i64 t.2.1))) ∧ Hid (wr.ownsRow B 3 1 v6 k ((P.take k).map (fun t => Value.int .i64 t.2.2))) ∧ Hid (∀ j, v5.ownBlock = some j → v6.ownBlock ≠ some j) ∧ Hid (Adds w wr)) (fun _ _ v12 _ => m - (intOf v12).toNat)
  case atStart => exact ⟨0, by omega, rfl, Lib.hid (World.ownsRow_nil _ _ _ _), Lib.hid (World.ownsRow_nil _ _ _ _), Lib.hid (fun j hj => by cases hj), Lib.hid (Adds.refl _)⟩
  case round =>
    obtain ⟨k, hk, rfl, HO5, HO6, HAP, HAD⟩ := hrel
    obtain ⟨p5, c5, rfl⟩ := own_slice HO5.out
    obtain ⟨p6, c6, rfl⟩ := own_slice HO6.out
    by_cases hlt : k < m
    · have hlt2 : (k : Int) < (m : Int) := by omega
      obtain ⟨⟨x0, x1, x2⟩, hx⟩ : ∃ x, P[k]? = some x := ⟨_, List.getElem?_eq_getElem (by have := HM.out; omega)⟩
      obtain ⟨tg, c', e, _⟩ := own_some HP.out (by omega)
      injection e with e1 e2 e3
      subst e1
      clear e2 e3
      obtain ⟨f0, f1, f2⟩ := flat3_cell k _ hx
      have d0 := keep_cell HAD.out (own_cell HP.out f0).1
      have d1 := keep_cell HAD.out (own_cell HP.out f1).1
      have d2 := keep_cell HAD.out (own_cell HP.out f2).1
      dsimp only at d0 d1 d2
      have HX := Lib.hid hx
      have HN5 : Hid ((P.take (k + 1)).map (fun t => Value.int .i64 t.2.1) = (P.take k).map (fun t => Value.int .i64 t.2.1) ++ [.int .i64 x1]) := Lib.hid (take_map _ hx)
      have HN6 : Hid ((P.take (k + 1)).map (fun t => Value.int .i64 t.2.2) = (P.take k).map (fun t => Value.int .i64 t.2.2) ++ [.int .i64 x2]) := Lib.hid (take_map _ hx)
      clear hx f0 f1 f2
      go_upto_region 5 with fail
      obtain ⟨xb, hxb⟩ : ∃ b, b = wr.heap.size := ⟨_, rfl⟩
      obtain ⟨W2, hW2⟩ : ∃ V, V = wr.alloc (.cells #[.int .i64 x0, .int .i64 x1, .int .i64 x2] 41) := ⟨_, rfl⟩
      rw [← hW2, ← hxb]
      have hA2 : Adds wr W2 := by rw [hW2]; exact (Adds.refl _).alloc _
      have hW2s : W2.heap.size = wr.heap.size + 1 := by rw [hW2]; simp
      have HA2 : Hid (Adds w W2) := Lib.hid (HAD.out.trans hA2)
      have hX2 : Box W2 xb #[.int .i64 x0, .int .i64 x1, .int .i64 x2] 41 := by rw [hW2, hxb]; exact Box.new _ _ _
      have HP5 : Hid (W2.ownsRow B 3 1 (.slice p5 k c5) k ((P.take k).map (fun t => Value.int .i64 t.2.1))) := Lib.hid (own_later HO5.out hA2)
      have HP6 : Hid (W2.ownsRow B 3 1 (.slice p6 k c6) k ((P.take k).map (fun t => Value.int .i64 t.2.2))) := Lib.hid (own_later HO6.out hA2)
      have HV5 : Hid (∀ b, wr.heap.size ≤ b → (Value.slice p5 k c5).ownBlock ≠ some b) := Lib.hid (fun b hb e => by obtain ⟨_, cur, hc⟩ := own_block HO5.out e; have := (Array.getElem?_eq_some_iff.1 hc).1; omega)
      have HV6 : Hid (∀ b, wr.heap.size ≤ b → (Value.slice p6 k c6).ownBlock ≠ some b) := Lib.hid (fun b hb e => by obtain ⟨_, cur, hc⟩ := own_block HO6.out e; have := (Array.getElem?_eq_some_iff.1 hc).1; omega)
      have HAP' : Hid (∀ j, (Value.slice p6 k c6).ownBlock = some j → (Value.slice p5 k c5).ownBlock ≠ some j) := Lib.hid (fun j hj e => HAP.out j e hj)
      have hBs : B ≤ wr.heap.size := by have := HAD.out.size; have := HBW.out; omega
      have k1 : W2.cell? ⟨xb, 1, none⟩ = some (.int .i64 x1) := hX2.cell 1
      have k2 : W2.cell? ⟨xb, 2, none⟩ = some (.int .i64 x2) := hX2.cell 2
      have k1a : ∀ o : Obj, (W2.alloc o).cell? ⟨xb, 1, none⟩ = some (.int .i64 x1) := fun o => (hX2.alloc o).cell 1
      have k2a : ∀ o : Obj, (W2.alloc o).cell? ⟨xb, 2, none⟩ = some (.int .i64 x2) := fun o => (hX2.alloc o).cell 2
      have HXB := Lib.hid hX2
      have HWS := Lib.hid hW2s
      have hxbv : xb = wr.heap.size := hxb
      have HXV := Lib.hid hxbv
      clear hW2 hxb hxbv hA2 d0 d1 d2 hX2 hW2s
      go_region_law (first
        | ((first | (refine step_append_lies _ rfl _ _ 35 rfl B 3 j0 (.int .i64 0) 1 8 Try.underlying35 HJ.out HJ0.out HJ1.out HJ2.out rfl (by decide) (.slice p5 k c5) k ((P.take k).map (fun t => Value.int .i64 t.2.1)) rfl (by repeat first | with_reducible exact HP5.out | with_reducible refine own_drawn ?_ | with_reducible refine own_allocd ?_ _ | with_reducible refine own_grow ?_ HG8.out HAP.out) ⟨W2.heap.size, 0, none⟩ 1 1 [.int .i64 x1] rfl rfl (World.news_of_block (t := 3) (fr := (0, 0)) (by (change Box _ _ #[.int .i64 x1] 3); repeat first | with_reducible exact box_new (by simp) | with_reducible refine Box.drew ?_ | with_reducible refine Box.alloc ?_ _ | with_reducible refine box_grow ?_ HG8.out (HV6.out _ (by have := HWS.out; simp; omega)))) (by simp [Value.oneCell']) (by omega) (by unfold maxLen; omega) (by omega) (by have := HWS.out; first | omega | (simp; omega)) _ rfl ?_) | (refine step_append_lies _ rfl _ _ 35 rfl B 3 j0 (.int .i64 0) 1 8 Try.underlying35 HJ.out HJ0.out HJ1.out HJ2.out rfl (by decide) (.slice p5 k c5) k ((P.take k).map (fun t => Value.int .i64 t.2.1)) rfl (by repeat first | with_reducible exact HP5.out | with_reducible refine own_drawn ?_ | with_reducible refine own_allocd ?_ _ | with_reducible refine own_grow ?_ HG8.out HAP.out) ⟨(W2.heap.size + 1), 0, none⟩ 1 1 [.int .i64 x1] rfl rfl (World.news_of_block (t := 3) (fr := (0, 0)) (by (change Box _ _ #[.int .i64 x1] 3); repeat first | with_reducible exact box_new (by simp) | with_reducible refine Box.drew ?_ | with_reducible refine Box.alloc ?_ _ | with_reducible refine box_grow ?_ HG8.out (HV6.out _ (by have := HWS.out; simp; omega)))) (by simp [Value.oneCell']) (by omega) (by unfold maxLen; omega) (by omega) (by have := HWS.out; first | omega | (simp; omega)) _ rfl ?_) | (refine step_append_lies _ rfl _ _ 35 rfl B 3 j0 (.int .i64 0) 1 8 Try.underlying35 HJ.out HJ0.out HJ1.out HJ2.out rfl (by decide) (.slice p5 k c5) k ((P.take k).map (fun t => Value.int .i64 t.2.1)) rfl (by repeat first | with_reducible exact HP5.out | with_reducible refine own_drawn ?_ | with_reducible refine own_allocd ?_ _ | with_reducible refine own_grow ?_ HG8.out HAP.out) ⟨w8.heap.size, 0, none⟩ 1 1 [.int .i64 x1] rfl rfl (World.news_of_block (t := 3) (fr := (0, 0)) (by (change Box _ _ #[.int .i64 x1] 3); repeat first | with_reducible exact box_new (by simp) | with_reducible refine Box.drew ?_ | with_reducible refine Box.alloc ?_ _ | with_reducible refine box_grow ?_ HG8.out (HV6.out _ (by have := HWS.out; simp; omega)))) (by simp [Value.oneCell']) (by omega) (by unfold maxLen; omega) (by omega) (by have := HWS.out; first | omega | (simp; omega)) _ rfl ?_)); intro g7 c7 w7 ho7 hg7 hor7 hl7; have hb7 : Box w7 xb #[.int .i64 x0, .int .i64 x1, .int .i64 x2] 41 := box_grow (by repeat first | with_reducible exact HXB.out | with_reducible refine Box.drew ?_ | with_reducible refine Box.alloc ?_ _ | with_reducible refine box_grow ?_ HG8.out (HV6.out _ (by have := HXV.out; omega))) hg7 (HV5.out _ (by have := HXV.out; omega)); have kb7 : w7.cell? ⟨xb, 2, none⟩ = some (.int .i64 x2) := hb7.cell 2; have kb7a : ∀ o : Obj, (w7.alloc o).cell? ⟨xb, 2, none⟩ = some (.int .i64 x2) := fun o => (hb7.alloc o).cell 2; have hs7 : W2.heap.size ≤ w7.heap.size := (by have := hg7.size; (try simp at this); omega); have HN7 : Hid (∀ j, (Value.slice (some ⟨g7, 0, none⟩) (k + 1) c7).ownBlock = some j → (Value.slice p6 k c6).ownBlock ≠ some j) := Lib.hid (fun j hj e => (by simp [Value.ownBlock] at hj; subst hj; rcases hor7 with h | h; exact HAP.out _ h e; exact HV6.out _ (by have := HWS.out; rw [h]; first | omega | (simp; omega)) e)); have HO7 := Lib.hid ho7; have HG7 := Lib.hid hg7; have HR7 := Lib.hid hor7; have HL7 := Lib.hid hl7; clear ho7 hg7 hor7 hb7 hl7)
        | ((first | (refine step_append_lies _ rfl _ _ 35 rfl B 3 j0 (.int .i64 0) 1 8 Try.underlying35 HJ.out HJ0.out HJ1.out HJ2.out rfl (by decide) (.slice p6 k c6) k ((P.take k).map (fun t => Value.int .i64 t.2.2)) rfl (by repeat first | with_reducible exact HP6.out | with_reducible refine own_drawn ?_ | with_reducible refine own_allocd ?_ _ | with_reducible refine own_grow ?_ HG7.out HAP'.out) ⟨W2.heap.size, 0, none⟩ 1 1 [.int .i64 x2] rfl rfl (World.news_of_block (t := 3) (fr := (0, 0)) (by (change Box _ _ #[.int .i64 x2] 3); repeat first | with_reducible exact box_new (by simp) | with_reducible refine Box.drew ?_ | with_reducible refine Box.alloc ?_ _ | with_reducible refine box_grow ?_ HG7.out (HV5.out _ (by have := HWS.out; simp; omega)))) (by simp [Value.oneCell']) (by omega) (by unfold maxLen; omega) (by omega) (by have := HWS.out; first | omega | (simp; omega)) _ rfl ?_) | (refine step_append_lies _ rfl _ _ 35 rfl B 3 j0 (.int .i64 0) 1 8 Try.underlying35 HJ.out HJ0.out HJ1.out HJ2.out rfl (by decide) (.slice p6 k c6) k ((P.take k).map (fun t => Value.int .i64 t.2.2)) rfl (by repeat first | with_reducible exact HP6.out | with_reducible refine own_drawn ?_ | with_reducible refine own_allocd ?_ _ | with_reducible refine own_grow ?_ HG7.out HAP'.out) ⟨(W2.heap.size + 1), 0, none⟩ 1 1 [.int .i64 x2] rfl rfl (World.news_of_block (t := 3) (fr := (0, 0)) (by (change Box _ _ #[.int .i64 x2] 3); repeat first | with_reducible exact box_new (by simp) | with_reducible refine Box.drew ?_ | with_reducible refine Box.alloc ?_ _ | with_reducible refine box_grow ?_ HG7.out (HV5.out _ (by have := HWS.out; simp; omega)))) (by simp [Value.oneCell']) (by omega) (by unfold maxLen; omega) (by omega) (by have := HWS.out; first | omega | (simp; omega)) _ rfl ?_) | (refine step_append_lies _ rfl _ _ 35 rfl B 3 j0 (.int .i64 0) 1 8 Try.underlying35 HJ.out HJ0.out HJ1.out HJ2.out rfl (by decide) (.slice p6 k c6) k ((P.take k).map (fun t => Value.int .i64 t.2.2)) rfl (by repeat first | with_reducible exact HP6.out | with_reducible refine own_drawn ?_ | with_reducible refine own_allocd ?_ _ | with_reducible refine own_grow ?_ HG7.out HAP'.out) ⟨w7.heap.size, 0, none⟩ 1 1 [.int .i64 x2] rfl rfl (World.news_of_block (t := 3) (fr := (0, 0)) (by (change Box _ _ #[.int .i64 x2] 3); repeat first | with_reducible exact box_new (by simp) | with_reducible refine Box.drew ?_ | with_reducible refine Box.alloc ?_ _ | with_reducible refine box_grow ?_ HG7.out (HV5.out _ (by have := HWS.out; simp; omega)))) (by simp [Value.oneCell']) (by omega) (by unfold maxLen; omega) (by omega) (by have := HWS.out; first | omega | (simp; omega)) _ rfl ?_)); intro g8 c8 w8 ho8 hg8 hor8 hl8; have hb8 : Box w8 xb #[.int .i64 x0, .int .i64 x1, .int .i64 x2] 41 := box_grow (by repeat first | with_reducible exact HXB.out | with_reducible refine Box.drew ?_ | with_reducible refine Box.alloc ?_ _ | with_reducible refine box_grow ?_ HG7.out (HV5.out _ (by have := HXV.out; omega))) hg8 (HV6.out _ (by have := HXV.out; omega)); have kb8 : w8.cell? ⟨xb, 1, none⟩ = some (.int .i64 x1) := hb8.cell 1; have kb8a : ∀ o : Obj, (w8.alloc o).cell? ⟨xb, 1, none⟩ = some (.int .i64 x1) := fun o => (hb8.alloc o).cell 1; have hs8 : W2.heap.size ≤ w8.heap.size := (by have := hg8.size; (try simp at this); omega); have HN8 : Hid (∀ j, (Value.slice (some ⟨g8, 0, none⟩) (k + 1) c8).ownBlock = some j → (Value.slice p5 k c5).ownBlock ≠ some j) := Lib.hid (fun j hj e => (by simp [Value.ownBlock] at hj; subst hj; rcases hor8 with h | h; exact HAP'.out _ h e; exact HV5.out _ (by have := HWS.out; rw [h]; first | omega | (simp; omega)) e)); have HO8 := Lib.hid ho8; have HG8 := Lib.hid hg8; have HR8 := Lib.hid hor8; have HL8 := Lib.hid hl8; clear ho8 hg8 hor8 hb8 hl8))
      all_goals
        have hR7 := HR7.out
        have hR8 := HR8.out
        have hL7 := HL7.out
        have hL8 := HL8.out
        have hV5 := HV5.out g7
        have hV6 := HV6.out g8
        have hws := HWS.out
        have hne : g7 ≠ g8 := by
          intro e
          rcases hR7 with h7 | h7
          · rcases hR8 with h8 | h8
            · exact HAP.out g7 h7 (by rw [e]; exact h8)
            · refine hV5 ?_ h7
              rw [e, h8]
              first | omega | (simp; omega)
          · rcases hR8 with h8 | h8
            · refine hV6 ?_ h8
              rw [← e, h7]
              first | omega | (simp; omega)
            · (try simp at h7)
              (try simp at h8)
              omega
        have HNE := Lib.hid hne
        clear hR7 hR8 hL7 hL8 hV5 hV6 hws hne
        go_wp2
        refine ⟨⟨k + 1, by omega, by go_num, Lib.hid ?_, Lib.hid ?_, Lib.hid ?_, Lib.hid ?_⟩, by simp [intOf]; omega⟩
        · rw [HN5.out]
          repeat first | with_reducible exact HO7.out | with_reducible refine own_drawn ?_ | with_reducible refine own_allocd ?_ _ | with_reducible refine own_grow ?_ HG8.out HN7.out
        · rw [HN6.out]
          repeat first | with_reducible exact HO8.out | with_reducible refine own_drawn ?_ | with_reducible refine own_allocd ?_ _ | with_reducible refine own_grow ?_ HG7.out HN8.out
        · intro j hj e
          simp [Value.ownBlock] at hj e
          exact HNE.out (hj.trans e.symm)
        · repeat first | with_reducible exact HA2.out | with_reducible refine Adds.drew ?_ | with_reducible refine Adds.alloc ?_ _ | with_reducible refine Below.grown ?_ HG7.out (by have := HWS.out; have := HBW.out; (try simp); omega) (fun j hj => by have := (own_block HP5.out hj).1; have := HBW.out; omega) | with_reducible refine Below.grown ?_ HG8.out (by have := HWS.out; have := HBW.out; (try simp); omega) (fun j hj => by have := (own_block HP6.out hj).1; have := HBW.out; omega)
    · have hkm : k = m := by omega
      subst hkm
      have hdq : decide ((k : Int) < (k : Int)) = false := by simp
      have eP : P.take k = P := List.take_of_length_le (by have := HM.out; omega)
      have hmB : P.map (fun t => Value.int .i64 t.2.1) = (P.map (fun t => t.2.1)).map (Value.int .i64) := by rw [List.map_map]; rfl
      have hmE : P.map (fun t => Value.int .i64 t.2.2) = (P.map (fun t => t.2.2)).map (Value.int .i64) := by rw [List.map_map]; rfl
      have hQ5 := HO5.out
      have hQ6 := HO6.out
      rw [eP, hmB] at hQ5
      rw [eP, hmE] at hQ6
      have lB : (P.map (fun t => t.2.1)).length = k := by rw [List.length_map]; exact HM.out.symm
      have lE : (P.map (fun t => t.2.2)).length = k := by rw [List.length_map]; exact HM.out.symm
      obtain ⟨Bs, hBs⟩ : ∃ L, L = P.map (fun t => t.2.1) := ⟨_, rfl⟩
      obtain ⟨Es, hEs⟩ : ∃ L, L = P.map (fun t => t.2.2) := ⟨_, rfl⟩
      rw [← hBs] at hQ5 lB
      rw [← hEs] at hQ6 lE
      have HBS := Lib.hid hBs
      have HES := Lib.hid hEs
      have HLB := Lib.hid lB
      have HLE := Lib.hid lE
      have HS5 : Hid (Calls Try.prog 69 #[.slice p5 k c5] wr fun e w' => e = .returned (.tuple #[]) ∧ ∃ l' : List Int, l'.Perm Bs ∧ l'.Pairwise (· ≤ ·) ∧ w'.ownsRow B 3 1 (.slice p5 k c5) k (l'.map (Value.int .i64)) ∧ Touch (fun j => (Value.slice p5 k c5).ownBlock = some j) wr w') := Lib.hid (by
        have h := sortI_row B (.slice p5 k c5) Bs wr (by rw [lB]; exact hQ5) (by omega)
        rw [lB] at h
        exact h)
      have HQ6 := Lib.hid hQ6
      have HOL5 : Hid (∀ j, (Value.slice p5 k c5).ownBlock = some j → w.heap.size ≤ j) := Lib.hid (fun j hj => by have := (own_block HO5.out hj).1; have := HBW.out; omega)
      have HOL6 : Hid (∀ j, (Value.slice p6 k c6).ownBlock = some j → w.heap.size ≤ j) := Lib.hid (fun j hj => by have := (own_block HO6.out hj).1; have := HBW.out; omega)
      clear eP hmB hmE hQ5 hQ6 hBs hEs lB lE HO5 HO6
      go_upto_region 8 with (go_at_call 69; refine HS5.out.mono ?_; rintro e w2 ⟨rfl, SB, hpB, hsB, hrB, htB⟩; have HPB := Lib.hid hpB; have HSB := Lib.hid hsB; have HRB := Lib.hid hrB; have HTB := Lib.hid htB; have HA2 : Hid (Adds w w2) := Lib.hid (Touch.adds HAD.out htB HOL5.out); clear hpB hsB hrB htB)
      have HQ6' : Hid (w2.ownsRow B 3 1 (.slice p6 k c6) k (Es.map (Value.int .i64))) := Lib.hid (own_same HQ6.out (fun q hq => by
        obtain ⟨_, cur, hc⟩ := own_block HQ6.out hq
        exact HTB.out.same q (Array.getElem?_eq_some_iff.1 hc).1 (fun e => HAP.out q e hq)))
      have HS6 : Hid (Calls Try.prog 69 #[.slice p6 k c6] w2 fun e w' => e = .returned (.tuple #[]) ∧ ∃ l' : List Int, l'.Perm Es ∧ l'.Pairwise (· ≤ ·) ∧ w'.ownsRow B 3 1 (.slice p6 k c6) k (l'.map (Value.int .i64)) ∧ Touch (fun j => (Value.slice p6 k c6).ownBlock = some j) w2 w') := Lib.hid (by
        have h := sortI_row B (.slice p6 k c6) Es w2 (by rw [HLE.out]; exact HQ6'.out) (by rw [HLE.out]; omega)
        rw [HLE.out] at h
        exact h)
      go_upto_region 9 with (go_at_call 69; refine HS6.out.mono ?_; rintro e w3 ⟨rfl, SE, hpE, hsE, hrE, htE⟩; have HPE := Lib.hid hpE; have HSE := Lib.hid hsE; have HRE := Lib.hid hrE; have HRB3 : Hid (w3.ownsRow B 3 1 (.slice p5 k c5) k (SB.map (Value.int .i64))) := Lib.hid (own_same HRB.out (fun q hq => (by obtain ⟨_, cur, hc⟩ := own_block HRB.out hq; exact htE.same q (Array.getElem?_eq_some_iff.1 hc).1 (fun e => HAP.out q hq e)))); have HA3 : Hid (Adds w w3) := Lib.hid (Touch.adds HA2.out htE HOL6.out); clear hpE hsE hrE htE)
      have HROOM := Lib.hid (room_iff (P := P) (K := K) (B := SB) (E := SE) HLT.out (by rw [← HBS.out]; exact HPB.out) (by rw [← HES.out]; exact HPE.out) HSB.out HSE.out)
      have HLSB : Hid (SB.length = k) := Lib.hid (by rw [HPB.out.length_eq]; exact HLB.out)
      have HLSE : Hid (SE.length = k) := Lib.hid (by rw [HPE.out.length_eq]; exact HLE.out)
      clear HS5 HS6 HQ6 HQ6' HPB HPE HSB HSE HBS HES HLB HLE HRB HTB
      go_upto_region 10 with fail
      go_loopw [9] (fun v9 wi => ∃ i : Nat, K ≤ i ∧ (i ≤ k ∨ i = K) ∧ v9 = .int .i64 i ∧ Hid (∀ (i' : Nat) (b e : Int), i' < i → K ≤ i' → SB[i']? = some b → SE[i' - K]? = some e → e ≤ b) ∧ Hid (Adds w3 wi)) (fun v9 _ => k - (intOf v9).toNat)
      case atStart => exact ⟨K, Nat.le_refl _, Or.inr rfl, rfl, Lib.hid (fun i' b e h1 h2 => by omega), Lib.hid (Adds.refl _)⟩
      case round =>
        obtain ⟨i, hKi, hik, rfl, HG, HAI⟩ := hrel
        by_cases hlt3 : i < k
        · have hlt4 : (i : Int) < (k : Int) := by omega
          obtain ⟨b, hb⟩ : ∃ b, SB[i]? = some b := ⟨_, List.getElem?_eq_getElem (by have := HLSB.out; omega)⟩
          obtain ⟨z, hz⟩ : ∃ z, z = i - K := ⟨_, rfl⟩
          obtain ⟨e, he⟩ : ∃ e, SE[z]? = some e := ⟨_, List.getElem?_eq_getElem (by have := HLSE.out; omega)⟩
          obtain ⟨g5, c5', e5, _⟩ := own_some HRB3.out (by omega)
          injection e5 with e51 e52 e53
          subst e51
          clear e52 e53
          obtain ⟨g6, c6', e6, _⟩ := own_some HRE.out (by omega)
          injection e6 with e61 e62 e63
          subst e61
          clear e62 e63
          have d5 := keep_cell HAI.out (own_cell (j := i) (u := .int .i64 b) HRB3.out (by rw [List.getElem?_map, hb]; rfl)).1
          have d6 := keep_cell HAI.out (own_cell (j := z) (u := .int .i64 e) HRE.out (by rw [List.getElem?_map, he]; rfl)).1
          have hw1 : IntKind.i64.wrap ((i : Int) - (K : Int)) = (z : Int) := by rw [IntKind.wrap_i64]; omega
          have hw2 : (i : Int) - (K : Int) = (z : Int) := by omega
          have q0 : (0 : Int) ≤ (z : Int) := by omega
          have q1 : (z : Int) < (k : Int) := by omega
          have HB := Lib.hid hb
          have HE : Hid (SE[i - K]? = some e) := Lib.hid (by rw [← hz]; exact he)
          clear hb he hz
          by_cases hbe : b < e
          · have g1 : decide (b < e) = true := decide_eq_true hbe
            have HBAD : Hid (¬ ∀ h, sumT (cov1 h) P ≤ (K : Int)) := Lib.hid (fun h => by
              have := HROOM.out.2 h i b e hKi HB.out HE.out
              omega)
            clear hbe
            go_upto_region 12 with fail
            go_quiet (fail)
            go_wp2
            go_ret
            exact ⟨false, rfl, ⟨(fun e => by cases e), fun h => absurd h HBAD.out⟩, (HA3.out.trans HAI.out).drewN _⟩
          · have g1 : decide (b < e) = false := decide_eq_false hbe
            have HGN : Hid (∀ (i' : Nat) (b e : Int), i' < i + 1 → K ≤ i' → SB[i']? = some b → SE[i' - K]? = some e → e ≤ b) := Lib.hid (fun i' b' e' h1 h2 h3 h4 => by
              by_cases hii : i' = i
              · subst hii
                rw [HB.out] at h3
                rw [HE.out] at h4
                cases h3
                cases h4
                omega
              · exact HG.out i' b' e' (by omega) h2 h3 h4)
            clear hbe
            go_upto_region 12 with fail
            go_quiet (fail)
            go_wp2
            exact ⟨⟨i + 1, by omega, by omega, by go_num, HGN, Lib.hid (HAI.out.drewN _)⟩, by simp [intOf]; omega⟩
        · have hdq3 : decide ((i : Int) < (k : Int)) = false := decide_eq_false (by omega)
          have HGOOD : Hid (∀ h, sumT (cov1 h) P ≤ (K : Int)) := Lib.hid (HROOM.out.1 (fun i' b e h1 h2 h3 => HG.out i' b e (by have := (List.getElem?_eq_some_iff.1 h2).1; have := HLSB.out; omega) h1 h2 h3))
          go_wp2
          go_ret
          exact ⟨true, rfl, ⟨fun _ => HGOOD.out, fun _ => rfl⟩, HA3.out.trans HAI.out⟩

end Go.Proofs.Ytkofnhimgegcnaa

namespace Go.Proofs.Ytkofnhimgegcnaa
open Go Go.RowKit Go.Sort

theorem plan_iff {l : List Ld} {K : Int} {P : List Tn} : PlanOK l K P ↔ (∀ t ∈ P, okT l t) ∧ DryOK l P ∧ ∀ h, sumT (cov1 h) P ≤ K :=
  ⟨fun h => ⟨h.inn, ⟨h.one, h.len⟩, h.few⟩, fun h => ⟨h.1, h.2.1.2, h.2.2, h.2.1.1⟩⟩

set_option maxRecDepth 100000 in
set_option maxHeartbeats 8000000 in
theorem IsPlan_any (lp : Option Addr) (lc : Nat) (l : List Ld) (K : Nat) (v : Value) (base : Nat) (P : List Tn) (w : World) (hl : LoadsAt w lp l) (hn : l.length ≤ 256) (hok : ∀ x ∈ l, okB x = true) (hK : 1 ≤ K ∧ K ≤ 64) (hr : Turns w base v P) (hm : P.length ≤ 1000) :
    Calls Try.prog 18 #[.slice lp l.length lc, .int .i64 (K : Int), v] w fun e w' => ∃ b : Bool, e = .returned (.bool b) ∧ (b = true ↔ PlanOK l K P) ∧ Adds w w' := by
  have hokN : ∀ x ∈ l, okN x := fun x hx => okB_okN (hok x hx)
  have hck := check_any lp lc l K w (by unfold maxLen; omega) hl
  rw [checkK_ok hn hok (by omega)] at hck
  have hD := fun (W : World) (hW : Adds w W) (hin : ∀ t ∈ P, okT l t) => isDrying_any lp lc l v base P W (hl.later hW) (by omega) hokN (own_later hr hW) hm hin
  have hR := fun (W : World) (hW : Adds w W) (hin : ∀ t ∈ P, okT l t) => isRoom_any v base P K W (own_later hr hW) hm (fun t ht => by obtain ⟨_, _, _, _, _, h2, _⟩ := hin t ht; exact h2) (by omega)
  obtain ⟨pv, cv, rfl⟩ := own_slice hr
  unfold Turns at hr
  obtain ⟨n, hn'⟩ : ∃ n, n = l.length := ⟨_, rfl⟩
  obtain ⟨m, hm'⟩ : ∃ m, m = P.length := ⟨_, rfl⟩
  rw [← hn'] at hn hck hD ⊢
  rw [← hm'] at hm hr hD hR ⊢
  have HN := Lib.hid hn'
  have HM := Lib.hid hm'
  have HL := Lib.hid hl
  have HP := Lib.hid hr
  have HOK := Lib.hid hokN
  have HCK := Lib.hid hck
  have HD := Lib.hid hD
  have HRM := Lib.hid hR
  clear hl hr hok hokN hn' hm' hck hD hR
  go_enter Try.func18, Try.ntmps18
  go_upto_region 4 with (go_at_call 41; refine HCK.out.mono ?_; rintro e w1 ⟨rfl, hb1⟩; have HB1 := Lib.hid hb1; clear hb1)
  clear HCK
  go_loopw [15] (fun v15 wr => ∃ i : Nat, i ≤ m ∧ v15 = .int .i64 i ∧ Hid (∀ (i' : Nat) (x : Tn), i' < i → P[i']? = some x → okT l x) ∧ Hid (Adds w wr)) (fun v15 _ => m - (intOf v15).toNat)
  case atStart => exact ⟨0, by omega, rfl, Lib.hid (fun i' x hi' => by omega), HB1⟩
  case round =>
    obtain ⟨i, hi, rfl, HG, HAD⟩ := hrel
    by_cases hlt : i < m
    · have hlt2 : (i : Int) < (m : Int) := by omega
      obtain ⟨⟨x0, x1, x2⟩, hx⟩ : ∃ x, P[i]? = some x := ⟨_, List.getElem?_eq_getElem (by have := HM.out; omega)⟩
      obtain ⟨tg, c', e, _⟩ := own_some HP.out (by omega)
      injection e with e1 e2 e3
      subst e1
      clear e2 e3
      obtain ⟨f0, f1, f2⟩ := flat3_cell i _ hx
      have d0 := keep_cell HAD.out (own_cell HP.out f0).1
      have d1 := keep_cell HAD.out (own_cell HP.out f1).1
      have d2 := keep_cell HAD.out (own_cell HP.out f2).1
      dsimp only at d0 d1 d2
      have HX := Lib.hid hx
      have HBAD : Hid (¬ okT l (x0, x1, x2) → ¬ PlanOK l (K : Int) P) := Lib.hid (fun h hp => h (hp.inn _ (List.mem_of_getElem? hx)))
      clear hx f0 f1 f2
      go_upto_region 6 with fail
      obtain ⟨xb, hxb⟩ : ∃ b, b = wr.heap.size := ⟨_, rfl⟩
      obtain ⟨W2, hW2⟩ : ∃ V, V = wr.alloc (.cells #[.int .i64 x0, .int .i64 x1, .int .i64 x2] 41) := ⟨_, rfl⟩
      rw [← hW2, ← hxb]
      have hA2 : Adds wr W2 := by rw [hW2]; exact (Adds.refl _).alloc _
      have HA2 : Hid (Adds w W2) := Lib.hid (HAD.out.trans hA2)
      have HX2' : Hid (Box W2 xb #[.int .i64 x0, .int .i64 x1, .int .i64 x2] 41) := Lib.hid (by rw [hW2, hxb]; exact Box.new _ _ _)
      have k0 : W2.cell? ⟨xb, 0, none⟩ = some (.int .i64 x0) := HX2'.out.cell 0
      have k1 : W2.cell? ⟨xb, 1, none⟩ = some (.int .i64 x1) := HX2'.out.cell 1
      have k2 : W2.cell? ⟨xb, 2, none⟩ = some (.int .i64 x2) := HX2'.out.cell 2
      clear hW2 hxb d0 d1 d2 HAD hA2
      by_cases c0 : x0 < 0
      · have g1 : decide (x0 < 0) = true := decide_eq_true c0
        have HB := Lib.hid (HBAD.out (fun h => by obtain ⟨j, y, e, _⟩ := h; dsimp only at e; omega))
        clear c0
        go_quiet (fail)
        go_wp2
        go_ret
        exact ⟨false, rfl, ⟨(fun e => by cases e), fun h => absurd h HB.out⟩, HA2.out.drewN _⟩
      have g1 : decide (x0 < 0) = false := decide_eq_false c0
      by_cases c1 : (n : Int) ≤ x0
      · have g2 : decide ((n : Int) ≤ x0) = true := decide_eq_true c1
        have HB := Lib.hid (HBAD.out (fun h => by
          obtain ⟨j, y, e, hy, _⟩ := h
          have := (List.getElem?_eq_some_iff.1 hy).1
          have := HN.out
          dsimp only at e
          omega))
        clear c0 c1
        go_quiet (fail)
        go_wp2
        go_ret
        exact ⟨false, rfl, ⟨(fun e => by cases e), fun h => absurd h HB.out⟩, HA2.out.drewN _⟩
      obtain ⟨j, hj⟩ : ∃ j : Nat, x0 = (j : Int) := ⟨x0.toNat, by omega⟩
      subst hj
      have hjn : j < n := by omega
      have g2 : decide ((n : Int) ≤ (j : Int)) = false := decide_eq_false (by omega)
      have g2n : decide (n ≤ j) = false := decide_eq_false (by omega)
      have q0 : (0 : Int) ≤ (j : Int) := by omega
      have q1 : (j : Int) < (n : Int) := by omega
      obtain ⟨⟨y0, y1, y2, y3⟩, hy⟩ : ∃ x, l[j]? = some x := ⟨_, List.getElem?_eq_getElem (by have := HN.out; omega)⟩
      obtain ⟨lg, off, rfl, e0, e1, e2, e3⟩ := HL.out.later HA2.out j _ hy
      dsimp only at e0 e1 e2 e3
      have HIFF : Hid (okT l ((j : Int), x1, x2) ↔ y0 ≤ x1 ∧ x1 < x2 ∧ x2 ≤ y1) := Lib.hid ⟨fun h => by
          obtain ⟨j', y, e, hy', b1, b2, b3⟩ := h
          dsimp only at e b1 b2 b3
          have : j = j' := by omega
          subst this
          rw [hy] at hy'
          cases hy'
          exact ⟨b1, b2, b3⟩,
        fun h => ⟨j, _, rfl, hy, h.1, h.2.1, h.2.2⟩⟩
      clear hy e2 e3 c0 c1
      by_cases c3 : x1 < y0
      · have g4 : decide (x1 < y0) = true := decide_eq_true c3
        have HB := Lib.hid (HBAD.out (fun h => by have := HIFF.out.1 h; omega))
        clear c3
        go_quiet (fail)
        go_wp2
        go_ret
        exact ⟨false, rfl, ⟨(fun e => by cases e), fun h => absurd h HB.out⟩, HA2.out.drewN _⟩
      have g4 : decide (x1 < y0) = false := decide_eq_false c3
      by_cases c2 : x2 ≤ x1
      · have g3 : decide (x2 ≤ x1) = true := decide_eq_true c2
        have HB := Lib.hid (HBAD.out (fun h => by have := HIFF.out.1 h; omega))
        clear c2 c3
        go_quiet (fail)
        go_wp2
        go_ret
        exact ⟨false, rfl, ⟨(fun e => by cases e), fun h => absurd h HB.out⟩, HA2.out.drewN _⟩
      have g3 : decide (x2 ≤ x1) = false := decide_eq_false c2
      by_cases c4 : y1 < x2
      · have g5 : decide (y1 < x2) = true := decide_eq_true c4
        have HB := Lib.hid (HBAD.out (fun h => by have := HIFF.out.1 h; omega))
        clear c2 c3 c4
        go_quiet (fail)
        go_wp2
        go_ret
        exact ⟨false, rfl, ⟨(fun e => by cases e), fun h => absurd h HB.out⟩, HA2.out.drewN _⟩
      have g5 : decide (y1 < x2) = false := decide_eq_false c4
      have HGN : Hid (∀ (i' : Nat) (x : Tn), i' < i + 1 → P[i']? = some x → okT l x) := Lib.hid (fun i' x hi' hx => by
        by_cases hii : i' = i
        · subst hii
          rw [HX.out] at hx
          cases hx
          exact HIFF.out.2 ⟨by omega, by omega, by omega⟩
        · exact HG.out i' x (by omega) hx)
      clear c2 c3 c4
      go_quiet (fail)
      go_wp2
      exact ⟨⟨i + 1, by omega, by go_num, HGN, Lib.hid (HA2.out.drewN _)⟩, by simp [intOf]; omega⟩
    · have hdq : decide ((i : Int) < (m : Int)) = false := decide_eq_false (by omega)
      have hin : ∀ t ∈ P, okT l t := fun t ht => by
        obtain ⟨i', hi'⟩ := List.mem_iff_getElem?.1 ht
        exact HG.out i' t (by have := (List.getElem?_eq_some_iff.1 hi').1; have := HM.out; omega) hi'
      have HD2 := Lib.hid (HD.out wr HAD.out hin)
      have HR2 := Lib.hid (fun (W : World) (hW : Adds w W) => HRM.out W hW hin)
      have HPI : Hid (PlanOK l (K : Int) P ↔ DryOK l P ∧ ∀ h, sumT (cov1 h) P ≤ (K : Int)) := Lib.hid (plan_iff.trans ⟨fun h => h.2, fun h => ⟨hin, h⟩⟩)
      clear HD HRM hin
      by_cases hdry : DryOK l P
      · have HD3 : Hid (Calls Try.prog 43 #[.slice lp n lc, .slice pv m cv] wr fun e w' => e = .returned (.bool true) ∧ Adds wr w') := Lib.hid (HD2.out.mono (by
          rintro e w' ⟨b, rfl, h1, h2⟩
          rw [h1.2 hdry]
          exact ⟨rfl, h2⟩))
        have HPI2 : Hid (PlanOK l (K : Int) P ↔ ∀ h, sumT (cov1 h) P ≤ (K : Int)) := Lib.hid (HPI.out.trans ⟨fun h => h.2, fun h => ⟨hdry, h⟩⟩)
        clear HD2 hdry
        go_wp2_with (first
          | (go_at_call 43; refine HD3.out.mono ?_; rintro e w3 ⟨rfl, hb3⟩; have HB3 := Lib.hid (HAD.out.trans hb3); clear hb3)
          | (go_at_call 44; refine (HR2.out _ HB3.out).mono ?_; rintro e w4 ⟨b, rfl, hb, hb4⟩; have HBB := Lib.hid hb; have HB4 := Lib.hid hb4; clear hb hb4))
        go_ret
        exact ⟨b, rfl, HBB.out.trans HPI2.out.symm, HB3.out.trans HB4.out⟩
      · have HD3 : Hid (Calls Try.prog 43 #[.slice lp n lc, .slice pv m cv] wr fun e w' => e = .returned (.bool false) ∧ Adds wr w') := Lib.hid (HD2.out.mono (by
          rintro e w' ⟨b, rfl, h1, h2⟩
          have : b = false := (by cases b with | false => rfl | true => exact absurd (h1.1 rfl) hdry)
          rw [this]
          exact ⟨rfl, h2⟩))
        have HB : Hid (¬ PlanOK l (K : Int) P) := Lib.hid (fun h => hdry (HPI.out.1 h).1)
        clear HD2 hdry
        go_wp2_with (go_at_call 43; refine HD3.out.mono ?_; rintro e w3 ⟨rfl, hb3⟩; have HB3 := Lib.hid (HAD.out.trans hb3); clear hb3)
        go_ret
        exact ⟨false, rfl, ⟨(fun e => by cases e), fun h => absurd h HB.out⟩, HB3.out⟩

end Go.Proofs.Ytkofnhimgegcnaa

namespace Go.Proofs.Ytkofnhimgegcnaa
open Go Go.RowKit Go.Sort

/-- Where the first k spans end. -/
def EndAt (H : List (Int × Int)) (k : Nat) (z : Int) : Prop := (k = 0 ∧ z = 0) ∨ ∃ j x, k = j + 1 ∧ H[j]? = some x ∧ z = x.2

theorem rise_next {H : List (Int × Int)} {k : Nat} {z : Int} {h : Int × Int} (hr : Rising 0 z (H.take k)) (he : EndAt H k z) (hh : H[k]? = some h) (h1 : z ≤ h.1) (h2 : h.1 < h.2) : Rising 0 h.2 (H.take (k + 1)) := by
  have hk : k < H.length := (List.getElem?_eq_some_iff.1 hh).1
  have hz : 0 ≤ z := by
    rcases he with ⟨_, e⟩ | ⟨j, x, rfl, hx, e⟩
    · omega
    · have := hr.inn x (List.mem_of_getElem? (i := j) (by rw [List.getElem?_take_of_lt (by omega)]; exact hx))
      omega
  have hs : H.take (k + 1) = H.take k ++ [h] := by
    rw [List.take_succ_eq_append_getElem hk, (List.getElem?_eq_some_iff.1 hh).2]
  constructor
  · intro y hy
    rw [hs] at hy
    rcases List.mem_append.1 hy with hy | hy
    · have := hr.inn y hy; omega
    · cases List.mem_singleton.1 hy; omega
  · intro i x y hx hy
    have hi := (List.getElem?_eq_some_iff.1 hy).1
    rw [List.length_take] at hi
    by_cases hik : i + 1 < k
    · refine hr.up i x y ?_ ?_
      · rw [List.getElem?_take_of_lt (by omega)] at hx ⊢; exact hx
      · rw [List.getElem?_take_of_lt (by omega)] at hy ⊢; exact hy
    · have hik' : i + 1 = k := by omega
      rw [List.getElem?_take_of_lt (by omega)] at hx hy
      rw [hik', hh] at hy
      cases hy
      rcases he with ⟨e, _⟩ | ⟨j, x', e, hx', e'⟩
      · omega
      · have : j = i := by omega
        subst this
        rw [hx] at hx'
        cases hx'
        omega

theorem rise_bad {H : List (Int × Int)} {k : Nat} {z M : Int} {h : Int × Int} (he : EndAt H k z) (hh : H[k]? = some h) (hr : Rising 0 M H) : z ≤ h.1 ∧ h.1 < h.2 := by
  have h1 := hr.inn h (List.mem_of_getElem? hh)
  rcases he with ⟨_, e⟩ | ⟨j, x, rfl, hx, e⟩
  · omega
  · have := hr.up j x h hx hh
    omega

theorem rise_end {H : List (Int × Int)} {z : Int} (hr : Rising 0 z H) (he : EndAt H H.length z) : z ≤ 1000000 ↔ Rising 0 1000000 H := by
  constructor
  · intro h; exact hr.more h
  · intro h
    rcases he with ⟨_, e⟩ | ⟨j, x, _, hx, e⟩
    · omega
    · have := h.inn x (List.mem_of_getElem? hx); omega

set_option maxRecDepth 100000 in
set_option maxHeartbeats 4000000 in
theorem areSpans_any (p : Option Addr) (c base : Nat) (H : List (Int × Int)) (w : World) (hH : w.ownsRow base 91 2 (.slice p H.length c) H.length (H.flatMap enc2)) (hm : H.length ≤ 1000000) :
    Calls Try.prog 46 #[.slice p H.length c] w fun e w' => ∃ b : Bool, e = .returned (.bool b) ∧ (b = true ↔ Rising 0 1000000 H) ∧ Adds w w' := by
  obtain ⟨m, hm'⟩ : ∃ m, m = H.length := ⟨_, rfl⟩
  rw [← hm'] at hH hm ⊢
  have HM := Lib.hid hm'
  have HH := Lib.hid hH
  clear hm' hH
  go_enter Try.func46, Try.ntmps46
  go_upto_region 3 with fail
  go_loopw [3, 8] (fun v3 v8 wr => ∃ (k : Nat) (z : Int), k ≤ m ∧ v8 = .int .i64 k ∧ v3 = .int .i64 z ∧ Hid (Rising 0 z (H.take k)) ∧ Hid (EndAt H k z) ∧ Hid (Adds w wr)) (fun _ v8 _ => m - (intOf v8).toNat)
  case atStart => exact ⟨0, 0, by omega, rfl, rfl, Lib.hid ⟨fun h hh => by simp at hh, fun i x y hx => by simp at hx⟩, Lib.hid (Or.inl ⟨rfl, rfl⟩), Lib.hid (Adds.refl _)⟩
  case round =>
    obtain ⟨k, z, hk, rfl, rfl, HR, HE, HAD⟩ := hrel
    by_cases hlt : k < m
    · have hlt2 : (k : Int) < (m : Int) := by omega
      obtain ⟨⟨a, b⟩, hh⟩ : ∃ x, H[k]? = some x := ⟨_, List.getElem?_eq_getElem (by have := HM.out; omega)⟩
      obtain ⟨hg, c', e, _⟩ := own_some HH.out (by omega)
      injection e with e1 e2 e3
      subst e1
      clear e2 e3
      obtain ⟨f0, f1⟩ := flat2_get hh
      have d0 := keep_cell HAD.out (own_cell HH.out f0).1
      have d1 := keep_cell HAD.out (own_cell HH.out f1).1
      dsimp only at d0 d1
      have HK := Lib.hid hh
      clear hh f0 f1
      go_upto_region 5 with fail
      obtain ⟨xb, hxb⟩ : ∃ b, b = wr.heap.size := ⟨_, rfl⟩
      obtain ⟨W2, hW2⟩ : ∃ V, V = wr.alloc (.cells #[.int .i64 a, .int .i64 b] 91) := ⟨_, rfl⟩
      rw [← hW2, ← hxb]
      have hA2 : Adds wr W2 := by rw [hW2]; exact (Adds.refl _).alloc _
      have HX2 : Hid (Box W2 xb #[.int .i64 a, .int .i64 b] 91) := Lib.hid (by rw [hW2, hxb]; exact Box.new _ _ _)
      have HA2 : Hid (Adds w W2) := Lib.hid (HAD.out.trans hA2)
      have k0 : W2.cell? ⟨xb, 0, none⟩ = some (.int .i64 a) := HX2.out.cell 0
      have k1 : W2.cell? ⟨xb, 1, none⟩ = some (.int .i64 b) := HX2.out.cell 1
      clear hW2 hxb d0 d1 hA2 HAD
      by_cases c0 : a < z
      · have g1 : decide (a < z) = true := decide_eq_true c0
        have HB : Hid (¬ Rising 0 1000000 H) := Lib.hid (fun h => by have := rise_bad HE.out HK.out h; dsimp only at this; omega)
        clear c0
        go_wp2
        go_ret
        exact ⟨false, rfl, ⟨(fun e => by cases e), fun h => absurd h HB.out⟩, HA2.out⟩
      have g1 : decide (a < z) = false := decide_eq_false c0
      by_cases c1 : b ≤ a
      · have g2 : decide (b ≤ a) = true := decide_eq_true c1
        have HB : Hid (¬ Rising 0 1000000 H) := Lib.hid (fun h => by have := rise_bad HE.out HK.out h; dsimp only at this; omega)
        clear c0 c1
        go_wp2
        go_ret
        exact ⟨false, rfl, ⟨(fun e => by cases e), fun h => absurd h HB.out⟩, HA2.out⟩
      have g2 : decide (b ≤ a) = false := decide_eq_false c1
      have HR2 : Hid (Rising 0 b (H.take (k + 1))) := Lib.hid (rise_next HR.out HE.out HK.out (by dsimp only; omega) (by dsimp only; omega))
      have HE2 : Hid (EndAt H (k + 1) b) := Lib.hid (Or.inr ⟨k, _, rfl, HK.out, rfl⟩)
      clear c0 c1
      go_wp2
      exact ⟨⟨k + 1, b, by omega, by go_num, rfl, HR2, HE2, HA2⟩, by simp [intOf]; omega⟩
    · have hdq : decide ((k : Int) < (m : Int)) = false := decide_eq_false (by omega)
      have HF : Hid (z ≤ 1000000 ↔ Rising 0 1000000 H) := Lib.hid (by
        have ek : k = H.length := by have := HM.out; omega
        have h1 := HR.out
        have h2 := HE.out
        rw [ek] at h2
        rw [List.take_of_length_le (by omega)] at h1
        exact rise_end h1 h2)
      by_cases c : z ≤ 1000000
      · have g : decide (z ≤ 1000000) = true := decide_eq_true c
        have HB := Lib.hid (HF.out.1 c)
        clear c
        go_wp2
        go_ret
        exact ⟨true, rfl, ⟨fun _ => HB.out, fun _ => rfl⟩, HAD.out⟩
      · have g : decide (z ≤ 1000000) = false := decide_eq_false c
        have HB : Hid (¬ Rising 0 1000000 H) := Lib.hid (fun h => c (HF.out.2 h))
        clear c
        go_wp2
        go_ret
        exact ⟨false, rfl, ⟨(fun e => by cases e), fun h => absurd h HB.out⟩, HAD.out⟩

/-- Numbers below n, none twice. -/
def NumsOK (n : Nat) (L : List Int) : Prop := (∀ x ∈ L, 0 ≤ x ∧ x < (n : Int)) ∧ L.Nodup

theorem nums_seen {n k i : Nat} {L : List Int} (hok : NumsOK n L) (hk : L[k]? = some (i : Int)) : i ∉ (L.map Int.toNat).take k := by
  intro hm
  obtain ⟨j, hj⟩ := List.mem_iff_getElem?.1 hm
  rw [List.getElem?_take] at hj
  split at hj
  · rename_i hjk
    rw [List.getElem?_map] at hj
    obtain ⟨y, hy, e⟩ := Option.map_eq_some_iff.1 hj
    have hy0 := hok.1 y (List.mem_of_getElem? hy)
    have : y = (i : Int) := by omega
    subst this
    obtain ⟨h1, e1⟩ := List.getElem?_eq_some_iff.1 hy
    obtain ⟨h2, e2⟩ := List.getElem?_eq_some_iff.1 hk
    exact List.pairwise_iff_getElem.1 hok.2 j k h1 h2 hjk (e1.trans e2.symm)
  · cases hj

theorem nums_next {k i : Nat} {L : List Int} (hn : ((L.map Int.toNat).take k).Nodup) (hk : L[k]? = some (i : Int)) (hi : i ∉ (L.map Int.toNat).take k) : ((L.map Int.toNat).take (k + 1)).Nodup := by
  have hk' : k < (L.map Int.toNat).length := by rw [List.length_map]; exact (List.getElem?_eq_some_iff.1 hk).1
  have e : (L.map Int.toNat)[k] = i := by
    have := (List.getElem?_eq_some_iff.1 hk).2
    rw [List.getElem_map, this]; rfl
  rw [List.take_succ_eq_append_getElem hk', e]
  exact List.nodup_append.2 ⟨hn, by simp, fun x hx y hy => by
    cases List.mem_singleton.1 hy
    intro h
    subst h
    exact hi hx⟩

theorem nums_end {n : Nat} {L : List Int} (h1 : ∀ x ∈ L, 0 ≤ x ∧ x < (n : Int)) (h2 : (L.map Int.toNat).Nodup) : NumsOK n L :=
  ⟨h1, List.Pairwise.imp (fun h e => h (by rw [e])) (List.pairwise_map.1 h2)⟩

set_option maxRecDepth 100000 in
set_option maxHeartbeats 4000000 in
theorem areNumbers_any (p : Option Addr) (c base n : Nat) (L : List Int) (w : World) (hL : w.ownsRow base 3 1 (.slice p L.length c) L.length (L.map (Value.int .i64))) (hn : n ≤ 256) (hm : L.length ≤ 1000000) :
    Calls Try.prog 45 #[.slice p L.length c, .int .i64 (n : Int)] w fun e w' => ∃ b : Bool, e = .returned (.bool b) ∧ (b = true ↔ NumsOK n L) ∧ Adds w w' := by
  obtain ⟨j4, hj, hj0, hj1, hj2⟩ := info_parts (show (Try.prog.info? 4).map (fun i => (i.zero, i.size, i.bytes)) = some (some (.bool false), 1, 1) by kernel_rfl)
  have HJ := Lib.hid hj
  have HJ0 := Lib.hid hj0
  have HJ1 := Lib.hid hj1
  have HJ2 := Lib.hid hj2
  clear hj hj0 hj1 hj2
  obtain ⟨m, hm'⟩ : ∃ m, m = L.length := ⟨_, rfl⟩
  rw [← hm'] at hL hm ⊢
  have HM := Lib.hid hm'
  have HLL := Lib.hid hL
  clear hm' hL
  go_enter Try.func45, Try.ntmps45
  go_upto_region 2 with (refine wpList_make_full _ rfl _ _ 65 rfl w.heap.size 4 j4 (.bool false) 1 Try.underlying65 HJ.out HJ0.out HJ1.out .i64 .i64 (n : Int) (n : Int) n rfl rfl rfl rfl (by rw [HJ2.out]; omega) (by unfold maxLen; omega) (by simp) ?_; intro y5 ho hg; have HO := Lib.hid (made_bools ho); have HG := Lib.hid hg; clear ho hg)
  obtain ⟨g, hg⟩ : ∃ g, g = w.heap.size := ⟨_, rfl⟩
  rw [← hg] at HO ⊢
  have HGW := Lib.hid hg
  have HA5 : Hid (Adds w y5) := Lib.hid ((Adds.refl w).grown HG.out (Nat.le_refl _) (fun j hj => by cases hj))
  have HO0 : Hid (y5.ownsRow g 4 1 (.slice (some ⟨g, 0, none⟩) n n) n (seenL n ((L.map Int.toNat).take 0))) := Lib.hid (by rw [List.take_zero]; exact HO.out)
  clear HG HO hg
  go_upto_region 3 with fail
  go_loopw [12] (fun v12 wr => ∃ q : Nat, q ≤ m ∧ v12 = .int .i64 q ∧ Hid (∀ (i : Nat) (x : Int), i < q → L[i]? = some x → 0 ≤ x ∧ x < (n : Int)) ∧ Hid (((L.map Int.toNat).take q).Nodup) ∧ Hid (wr.ownsRow g 4 1 (.slice (some ⟨g, 0, none⟩) n n) n (seenL n ((L.map Int.toNat).take q))) ∧ Hid (Adds w wr)) (fun v12 _ => m - (intOf v12).toNat)
  case atStart => exact ⟨0, by omega, rfl, Lib.hid (fun i x hi => by omega), Lib.hid (by simp), HO0, HA5⟩
  case round =>
    obtain ⟨q, hq, rfl, HIN, HND, HOQ, HAD⟩ := hrel
    by_cases hlt : q < m
    · have hlt2 : (q : Int) < (m : Int) := by omega
      obtain ⟨x, hx⟩ : ∃ x, L[q]? = some x := ⟨_, List.getElem?_eq_getElem (by have := HM.out; omega)⟩
      obtain ⟨g1, c', e, _⟩ := own_some HLL.out (by omega)
      injection e with e1 e2 e3
      subst e1
      clear e2 e3
      have d0 := keep_cell HAD.out (own_cell (j := q) (u := .int .i64 x) HLL.out (by rw [List.getElem?_map, hx]; rfl)).1
      have HX := Lib.hid hx
      clear hx
      go_upto_region 5 with fail
      clear d0
      by_cases c0 : x < 0
      · have g1 : decide (x < 0) = true := decide_eq_true c0
        have HB : Hid (¬ NumsOK n L) := Lib.hid (fun h => by have := h.1 _ (List.mem_of_getElem? HX.out); omega)
        clear c0
        go_wp2
        go_ret
        exact ⟨false, rfl, ⟨(fun e => by cases e), fun h => absurd h HB.out⟩, HAD.out⟩
      have g1 : decide (x < 0) = false := decide_eq_false c0
      by_cases c1 : (n : Int) ≤ x
      · have g2 : decide ((n : Int) ≤ x) = true := decide_eq_true c1
        have HB : Hid (¬ NumsOK n L) := Lib.hid (fun h => by have := h.1 _ (List.mem_of_getElem? HX.out); omega)
        clear c0 c1
        go_wp2
        go_ret
        exact ⟨false, rfl, ⟨(fun e => by cases e), fun h => absurd h HB.out⟩, HAD.out⟩
      obtain ⟨i, hi⟩ : ∃ i : Nat, x = (i : Int) := ⟨x.toNat, by omega⟩
      subst hi
      have hin : i < n := by omega
      have g2 : decide ((n : Int) ≤ (i : Int)) = false := decide_eq_false (by omega)
      have g2n : decide (n ≤ i) = false := decide_eq_false (by omega)
      have q0 : (0 : Int) ≤ (i : Int) := by omega
      have q1 : (i : Int) < (n : Int) := by omega
      obtain ⟨ks, kf⟩ := own_cell HOQ.out (seenL_get ((L.map Int.toNat).take q) hin)
      by_cases hs : i ∈ (L.map Int.toNat).take q
      · rw [decide_eq_true hs] at ks
        have HB : Hid (¬ NumsOK n L) := Lib.hid (fun h => nums_seen h HX.out hs)
        clear c0 c1 hs kf
        go_wp2
        go_ret
        exact ⟨false, rfl, ⟨(fun e => by cases e), fun h => absurd h HB.out⟩, HAD.out⟩
      rw [decide_eq_false hs] at ks
      have HND2 := Lib.hid (nums_next HND.out HX.out hs)
      have HIN2 : Hid (∀ (i' : Nat) (x : Int), i' < q + 1 → L[i']? = some x → 0 ≤ x ∧ x < (n : Int)) := Lib.hid (fun i' x hi' hx => by
        by_cases hii : i' = q
        · subst hii
          rw [HX.out] at hx
          cases hx
          omega
        · exact HIN.out i' x (by omega) hx)
      clear c0 c1 hs
      go_upto_region 7 with fail
      go_upto_region 8 with fail
      obtain ⟨W4, hW4⟩ : ∃ V, V = wr.setCell ⟨g, i, none⟩ (.bool true) := ⟨_, rfl⟩
      rw [← hW4]
      have HO4 : Hid (W4.ownsRow g 4 1 (.slice (some ⟨g, 0, none⟩) n n) n (seenL n ((L.map Int.toNat).take (q + 1)))) := Lib.hid (by
        rw [hW4, ← seenL_next (by rw [List.getElem?_map, HX.out]; rfl) hin]
        exact own_put HOQ.out (.bool true))
      have HA4 : Hid (Adds w W4) := Lib.hid (by rw [hW4]; exact HAD.out.set (p := ⟨g, i, none⟩) (by have := HGW.out; simp; omega) _)
      clear hW4 ks kf
      go_wp2
      exact ⟨⟨q + 1, by omega, by go_num, HIN2, HND2, HO4, HA4⟩, by simp [intOf]; omega⟩
    · have hdq : decide ((q : Int) < (m : Int)) = false := decide_eq_false (by omega)
      have HB : Hid (NumsOK n L) := Lib.hid (nums_end (fun x hx => by
          obtain ⟨i', hi'⟩ := List.mem_iff_getElem?.1 hx
          exact HIN.out i' x (by have := (List.getElem?_eq_some_iff.1 hi').1; have := HM.out; omega) hi') (by
          have h := HND.out
          rw [List.take_of_length_le (by rw [List.length_map]; have := HM.out; omega)] at h
          exact h))
      go_wp2
      go_ret
      exact ⟨true, rfl, ⟨fun _ => HB.out, fun _ => rfl⟩, HAD.out⟩

end Go.Proofs.Ytkofnhimgegcnaa

namespace Go.Proofs.Ytkofnhimgegcnaa
open Go Go.RowKit Go.Sort

/-- The hours of the first 0, 1, .., k spans. -/
def sumsH (H : List (Int × Int)) (k : Nat) : List Int := (List.range (k + 1)).map (fun i => sumH (fun h => h.2 - h.1) (H.take i))
theorem sumsH_len (H : List (Int × Int)) (k : Nat) : (sumsH H k).length = k + 1 := by simp [sumsH]
theorem sumsH_get (H : List (Int × Int)) {k i : Nat} (hi : i < k + 1) : (sumsH H k)[i]? = some (sumH (fun h => h.2 - h.1) (H.take i)) := by simp [sumsH, hi]
theorem sumsH_next (H : List (Int × Int)) (k : Nat) : sumsH H (k + 1) = sumsH H k ++ [sumH (fun h => h.2 - h.1) (H.take (k + 1))] := by
  unfold sumsH
  rw [List.range_succ (n := k + 1), List.map_append]
  rfl
theorem sumsH_zero (H : List (Int × Int)) : sumsH H 0 = [0] := by simp [sumsH, sumH]

set_option maxRecDepth 100000 in
set_option maxHeartbeats 4000000 in
theorem sums_any (p : Option Addr) (c base : Nat) (H : List (Int × Int)) (w : World) (hH : w.ownsRow base 91 2 (.slice p H.length c) H.length (H.flatMap enc2)) (hm : H.length ≤ 1000) (hb : ∀ h ∈ H, 0 ≤ h.1 ∧ h.1 < h.2 ∧ h.2 ≤ 1000000) :
    Calls Try.prog 47 #[.slice p H.length c] w fun e w' => ∃ v : Value, e = .returned v ∧ w'.ownsRow w.heap.size 3 1 v (H.length + 1) ((sumsH H H.length).map (Value.int .i64)) ∧ Adds w w' := by
  obtain ⟨j0, hj, hj0, hj1, hj2⟩ := info_parts info3
  have HJ := Lib.hid hj
  have HJ0 := Lib.hid hj0
  have HJ1 := Lib.hid hj1
  have HJ2 := Lib.hid hj2
  have hsb := sumH_take_bd hb
  obtain ⟨m, hm'⟩ : ∃ m, m = H.length := ⟨_, rfl⟩
  rw [← hm'] at hH hm ⊢
  have HM := Lib.hid hm'
  have HH := Lib.hid hH
  have HSB := Lib.hid hsb
  have HB := Lib.hid hb
  clear hj hj0 hj1 hj2 hm' hH hsb hb
  obtain ⟨B, hB⟩ : ∃ B, B = w.heap.size := ⟨_, rfl⟩
  rw [← hB]
  have HBW := Lib.hid hB
  clear hB
  go_enter Try.func47, Try.ntmps47
  go_upto_region 3 with fail
  obtain ⟨W1, hW1⟩ : ∃ V, V = w.alloc (.cells #[.int .i64 0] 3) := ⟨_, rfl⟩
  try rw [← hW1]
  have HR1 : Hid (W1.ownsRow B 3 1 (.slice (some ⟨w.heap.size, 0, none⟩) 1 1) 1 ((sumsH H 0).map (Value.int .i64))) := Lib.hid (by
    rw [hW1, sumsH_zero]
    exact World.ownsRow_lit w #[.int .i64 0] 1 (by have := HBW.out; omega) (by unfold maxLen; omega) rfl)
  have HA1 : Hid (Adds w W1) := Lib.hid (by rw [hW1]; exact (Adds.refl _).alloc _)
  clear hW1
  go_loopw [3, 9] (fun v3 v9 wr => ∃ k : Nat, k ≤ m ∧ v9 = .int .i64 k ∧ Hid (wr.ownsRow B 3 1 v3 (k + 1) ((sumsH H k).map (Value.int .i64))) ∧ Hid (Adds w wr)) (fun _ v9 _ => m - (intOf v9).toNat)
  case atStart => exact ⟨0, by omega, rfl, HR1, HA1⟩
  case round =>
    obtain ⟨k, hk, rfl, HO, HAD⟩ := hrel
    by_cases hlt : k < m
    · have hlt2 : (k : Int) < (m : Int) := by omega
      obtain ⟨⟨a, b⟩, hh⟩ : ∃ x, H[k]? = some x := ⟨_, List.getElem?_eq_getElem (by have := HM.out; omega)⟩
      obtain ⟨i1, i2, i3⟩ := HB.out _ (List.mem_of_getElem? hh)
      dsimp only at i1 i2 i3
      obtain ⟨hg, c', e, _⟩ := own_some HH.out (by omega)
      injection e with e1 e2 e3
      subst e1
      clear e2 e3
      obtain ⟨f0, f1⟩ := flat2_get hh
      have d0 := keep_cell HAD.out (own_cell HH.out f0).1
      have d1 := keep_cell HAD.out (own_cell HH.out f1).1
      dsimp only at d0 d1
      obtain ⟨s0, s1⟩ := HSB.out k
      obtain ⟨S, hS⟩ : ∃ S, S = sumH (fun h => h.2 - h.1) (H.take k) := ⟨_, rfl⟩
      rw [← hS] at s0 s1
      have HNX : Hid ((sumsH H (k + 1)).map (Value.int .i64) = (sumsH H k).map (Value.int .i64) ++ [.int .i64 (S + b - a)]) := Lib.hid (by
        rw [sumsH_next, List.map_append, sumH_next hh, ← hS]
        have : S + (b - a) = S + b - a := by omega
        dsimp only
        rw [this]
        rfl)
      obtain ⟨g3, c3, rfl, hbg⟩ := own_some HO.out (by omega)
      have dS : wr.cell? ⟨g3, k, none⟩ = some (.int .i64 S) := (own_cell (j := k) (u := .int .i64 S) HO.out (by rw [List.getElem?_map, sumsH_get H (by omega), ← hS]; rfl)).1
      have hS' := Lib.hid hS
      clear hh f0 f1 hS
      go_upto_region 5 with fail
      obtain ⟨xb, hxb⟩ : ∃ b, b = wr.heap.size := ⟨_, rfl⟩
      obtain ⟨W2, hW2⟩ : ∃ V, V = wr.alloc (.cells #[.int .i64 a, .int .i64 b] 91) := ⟨_, rfl⟩
      rw [← hW2, ← hxb]
      have hA2 : Adds wr W2 := by rw [hW2]; exact (Adds.refl _).alloc _
      have hW2s : W2.heap.size = wr.heap.size + 1 := by rw [hW2]; simp
      have HX2 : Hid (Box W2 xb #[.int .i64 a, .int .i64 b] 91) := Lib.hid (by rw [hW2, hxb]; exact Box.new _ _ _)
      have HA2 : Hid (Adds w W2) := Lib.hid (HAD.out.trans hA2)
      have k0 : W2.cell? ⟨xb, 0, none⟩ = some (.int .i64 a) := HX2.out.cell 0
      have k1 : W2.cell? ⟨xb, 1, none⟩ = some (.int .i64 b) := HX2.out.cell 1
      have kS := keep_cell hA2 dS
      obtain ⟨m1, hm1⟩ : ∃ m1, m1 = k + 1 := ⟨_, rfl⟩
      have HO2 : Hid (W2.ownsRow B 3 1 (.slice (some ⟨g3, 0, none⟩) m1 c3) m1 ((sumsH H k).map (Value.int .i64))) := Lib.hid (by rw [hm1]; exact own_later HO.out hA2)
      rw [← hm1]
      have q0 : (0 : Int) ≤ (k : Int) := by omega
      have q1 : (k : Int) < (m1 : Int) := by omega
      have q1n : k < m1 := by omega
      have hw1 : IntKind.i64.wrap (S + b) = S + b := by rw [IntKind.wrap_i64]; omega
      have hw2 : IntKind.i64.wrap (S + b - a) = S + b - a := by rw [IntKind.wrap_i64]; omega
      have hBs : B ≤ W2.heap.size := by have := HA2.out.size; have := HBW.out; omega
      have hm1b : m1 ≤ 1000 := by omega
      have HM1 := Lib.hid hm1
      clear hW2 hxb d0 d1 dS hA2 hW2s hm1
      go_region_law ((refine step_append_lies _ rfl _ _ 35 rfl B 3 j0 (.int .i64 0) 1 8 Try.underlying35 HJ.out HJ0.out HJ1.out HJ2.out rfl (by decide) (.slice (some ⟨g3, 0, none⟩) m1 c3) m1 ((sumsH H k).map (Value.int .i64)) rfl (by repeat first | with_reducible exact HO2.out | with_reducible refine own_drawn ?_ | with_reducible refine own_allocd ?_ _) ⟨W2.heap.size, 0, none⟩ 1 1 [.int .i64 (S + b - a)] rfl rfl (World.news_of_block (t := 3) (fr := (0, 0)) (by (change Box _ _ #[.int .i64 (S + b - a)] 3); repeat first | with_reducible exact box_new (by simp) | with_reducible refine Box.drew ?_ | with_reducible refine Box.alloc ?_ _)) (by simp [Value.oneCell']) (by omega) (by unfold maxLen; omega) (by omega) (by first | omega | (simp; omega)) _ rfl ?_); intro g7 c7 w7 ho7 hg7 hor7 hl7; have HO7 := Lib.hid ho7; have HG7 := Lib.hid hg7; clear ho7 hg7 hor7 hl7)
      all_goals
        go_wp2
        refine ⟨⟨k + 1, by omega, by go_num, Lib.hid ?_, Lib.hid ?_⟩, by simp [intOf]; omega⟩
        · rw [HNX.out, ← HM1.out]
          repeat first | with_reducible exact HO7.out | with_reducible refine own_drawn ?_ | with_reducible refine own_allocd ?_ _
        · repeat first | with_reducible exact HA2.out | with_reducible refine Adds.drew ?_ | with_reducible refine Adds.alloc ?_ _ | with_reducible refine Below.grown ?_ HG7.out (by have := HA2.out.size; (try simp); omega) (fun j hj => by have := (own_block HO2.out hj).1; have := HBW.out; omega)
    · have hkm : k = m := by omega
      subst hkm
      have hdq : decide ((k : Int) < (k : Int)) = false := by simp
      obtain ⟨p3, c3, rfl⟩ := own_slice HO.out
      have HO2 := Lib.hid HO.out
      go_wp2
      go_ret
      exact ⟨_, rfl, HO2.out, HAD.out⟩

end Go.Proofs.Ytkofnhimgegcnaa
