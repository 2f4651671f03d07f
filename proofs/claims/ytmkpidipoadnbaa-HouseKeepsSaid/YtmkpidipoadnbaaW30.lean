/- The library's stable sort of a few members by what the closure of shares compares. -/
import Derived.Test.YtmkpidipoadnbaaW28
import Derived.BigRegion
import Derived.RegionTactic
import Derived.IntWalk
namespace Go.Proofs.Ytmkpidipoadnbaa
open Go Go.RowKit Go.Sort

/-- The order of the members: the greater worth first, of equal ones the first. -/
def bef (v : Nat → Int) (x y : Nat) : Prop := v y < v x ∨ (v x = v y ∧ x < y)
theorem bef_trans {v : Nat → Int} {x y z : Nat} (h : bef v x y) (k : bef v y z) : bef v x z := by unfold bef at *; omega
def SortedW (v : Nat → Int) (n : Nat) (X : Nat → Nat) : Prop := (∀ a, a < n → X a < n) ∧ (∀ a b, a < n → b < n → X a = X b → a = b) ∧ ∀ a b, a < b → b < n → bef v (X a) (X b)
def DoneW (v : Nat → Int) (i : Nat) (X : Nat → Nat) : Prop := SortedW v i X ∧ ∀ a, i ≤ a → X a = a
structure MidW (v : Nat → Int) (i j : Nat) (X : Nat → Nat) : Prop where
  inn : ∀ a, a ≤ i → X a ≤ i
  inj : ∀ a b, a ≤ i → b ≤ i → X a = X b → a = b
  rest : ∀ a, i < a → X a = a
  le : j ≤ i
  me : X j = i
  ord : ∀ a b, a < b → b ≤ i → b ≠ j → bef v (X a) (X b)
def swapF (X : Nat → Nat) (j : Nat) : Nat → Nat := fun a => if a = j then X (j - 1) else if a = j - 1 then X j else X a
theorem DoneW.one (v : Nat → Int) : DoneW v 1 (fun a => a) := ⟨⟨fun a h => h, fun a b _ _ h => h, fun a b h1 h2 => by omega⟩, fun a _ => rfl⟩
theorem DoneW.start {v : Nat → Int} {i : Nat} {X : Nat → Nat} (h : DoneW v i X) : MidW v i i X := by
  obtain ⟨⟨h1, h2, h3⟩, h4⟩ := h
  have hi := h4 i (Nat.le_refl _)
  refine ⟨fun a ha => ?_, fun a b ha hb e => ?_, fun a ha => h4 a (by omega), Nat.le_refl _, hi, fun a b hab hb hne => h3 a b hab (by omega)⟩
  · by_cases c : a = i
    · subst c; omega
    · have := h1 a (by omega); omega
  · by_cases c : a = i
    · by_cases d : b = i
      · omega
      · subst c; have := h1 b (by omega); omega
    · by_cases d : b = i
      · subst d; have := h1 a (by omega); omega
      · exact h2 a b (by omega) (by omega) e
theorem MidW.swap {v : Nat → Int} {i j : Nat} {X : Nat → Nat} (h : MidW v i j X) (h0 : 0 < j) (hv : v (X (j - 1)) < v (X j)) : MidW v i (j - 1) (swapF X j) := by
  have hj := h.le
  refine ⟨fun a ha => ?_, fun a b ha hb e => ?_, fun a ha => ?_, by omega, ?_, fun a b hab hb hne => ?_⟩
  · unfold swapF
    split
    · exact h.inn _ (by omega)
    · split
      · exact h.inn _ (by omega)
      · exact h.inn _ ha
  · unfold swapF at e
    have i1 := h.inj (j - 1) (by omega)
    split at e <;> split at e <;> (try split at e) <;> (try split at e) <;> first | omega | (have := h.inj _ _ (by omega) (by omega) e; omega)
  · unfold swapF
    rw [if_neg (by omega), if_neg (by omega)]
    exact h.rest a ha
  · unfold swapF
    rw [if_neg (by omega), if_pos rfl]
    exact h.me
  · unfold swapF
    by_cases c : b = j
    · rw [if_pos c]
      by_cases d : a = j - 1
      · rw [if_neg (by omega), if_pos d]
        exact .inl hv
      · rw [if_neg (by omega), if_neg d]
        exact h.ord a (j - 1) (by omega) (by omega) (by omega)
    · rw [if_neg c, if_neg hne]
      by_cases d : a = j
      · rw [if_pos d]
        exact h.ord (j - 1) b (by omega) hb c
      · rw [if_neg d]
        by_cases f : a = j - 1
        · rw [if_pos f]
          exact h.ord j b (by omega) hb c
        · rw [if_neg f]
          exact h.ord a b hab hb c
theorem MidW.stop {v : Nat → Int} {i j : Nat} {X : Nat → Nat} (h : MidW v i j X) (h0 : j = 0 ∨ ¬ v (X (j - 1)) < v (X j)) : DoneW v (i + 1) X := by
  refine ⟨⟨fun a ha => by have := h.inn a (by omega); omega, fun a b ha hb => h.inj a b (by omega) (by omega), fun a b hab hb => ?_⟩, fun a ha => h.rest a (by omega)⟩
  by_cases c : b = j
  · subst c
    rcases h0 with h0 | h0
    · omega
    · have hl := h.inn (b - 1) (by omega)
      have hm := h.me
      have hne : X (b - 1) ≠ X b := fun e => by have := h.inj _ _ (by omega) (by omega) e; omega
      have hlast : bef v (X (b - 1)) (X b) := by unfold bef; omega
      by_cases d : a = b - 1
      · rw [d]; exact hlast
      · exact bef_trans (h.ord a (b - 1) (by omega) (by omega) (by omega)) hlast
  · exact h.ord a b hab (by omega) c

/-- The list of an order. -/
def lstX (X : Nat → Nat) (n : Nat) : List Int := (List.range n).map fun i => (X i : Int)
theorem lstX_len (X : Nat → Nat) (n : Nat) : (lstX X n).length = n := by simp [lstX]
theorem lstX_get {X : Nat → Nat} {n i : Nat} (h : i < n) : (lstX X n)[i]? = some (X i : Int) := by
  unfold lstX
  rw [List.getElem?_map, List.getElem?_range h]
  rfl
theorem lstX_swap {X : Nat → Nat} {n j : Nat} (h0 : 0 < j) (hj : j < n) : ((lstX X n).set j (X (j - 1) : Int)).set (j - 1) (X j : Int) = lstX (swapF X j) n ∧ ((lstX X n).set (j - 1) (X j : Int)).set j (X (j - 1) : Int) = lstX (swapF X j) n := by
  have key : ∀ i, i < n → (((lstX X n).set j (X (j - 1) : Int)).set (j - 1) (X j : Int))[i]? = (lstX (swapF X j) n)[i]? := fun i hi => by
    rw [lstX_get hi, List.getElem?_set, List.getElem?_set, List.length_set, lstX_len, lstX_get hi]
    unfold swapF
    by_cases c : j - 1 = i
    · rw [if_pos c, if_pos (by omega), if_neg (by omega), if_pos c.symm]
    · rw [if_neg c]
      by_cases d : j = i
      · rw [if_pos d, if_pos (by omega), if_pos d.symm]
      · rw [if_neg d, if_neg (fun e => d e.symm), if_neg (fun e => c e.symm)]
  have e1 : ((lstX X n).set j (X (j - 1) : Int)).set (j - 1) (X j : Int) = lstX (swapF X j) n := by
    refine List.ext_getElem? fun i => ?_
    by_cases hi : i < n
    · exact key i hi
    · rw [List.getElem?_eq_none (by simp [lstX_len]; omega), List.getElem?_eq_none (by rw [lstX_len]; omega)]
  exact ⟨e1, by rw [List.set_comm _ _ (by omega)]; exact e1⟩

theorem cmp_test (a b : Int) : decide (cmpT a b < 0) = decide (a < b) := by
  unfold cmpT
  by_cases h : a < b
  · simp [h]
  · by_cases h' : b < a <;> simp [h, h']

theorem Touch.drewN {O : Nat → Prop} {a b : World} (h : Touch O a b) (q : Nat) : Touch O a (b.drewN q) := h.behind ((Adds.refl b).drewN q)
theorem Touch.drew {O : Nat → Prop} {a b : World} (h : Touch O a b) : Touch O a b.drew := h.behind (Adds.refl b).drew
theorem RowI.drew {t : TypeId} {k : IntKind} {w : World} {g cap : Nat} {l : List Int} (h : RowI t k w g cap l) : RowI t k w.drew g cap l := h
theorem RowI.drewN {t : TypeId} {k : IntKind} {w : World} {g cap : Nat} {l : List Int} (h : RowI t k w g cap l) (q : Nat) : RowI t k (w.drewN q) g cap l := h
/-- What a sort of an order leaves. -/
def SortW (g cap n : Nat) (v : Nat → Int) (w : World) (e : Ending) (w' : World) : Prop := e = .returned (.tuple #[]) ∧ ∃ X, SortedW v n X ∧ RowI 3 .i64 w' g cap (lstX X n) ∧ Touch (fun z => z = g) w w'

set_option maxRecDepth 100000 in
set_option maxHeartbeats 4000000 in
theorem insW_any (g cap n : Nat) (fv : Value) (cb : Nat) (v : Nat → Int) (w : World) (hfv : fv = .func (.func 75) #[] #[.pointer (some ⟨cb, 0, none⟩)]) (hn : n ≤ 256) (hr : RowI 3 .i64 w g cap (lstX (fun a => a) n))
    (hc : ∀ a b, a < n → b < n → ∀ W, Touch (fun z => z = g) w W → Calls Try.prog 75 #[.int .i64 a, .int .i64 b, .pointer (some ⟨cb, 0, none⟩)] W fun e w' => e = .returned (.int .i64 (cmpT (v b) (v a))) ∧ Adds W w') :
    Calls Try.prog 80 #[.slice (some ⟨g, 0, none⟩) n cap, .int .i64 0, .int .i64 n, fv] w (SortW g cap n v w) := by
  subst hfv
  unfold SortW
  have HC := Lib.hid hc
  have HR := Lib.hid hr
  clear hc hr
  go_enter Try.func80, Try.ntmps80
  go_upto_region 1 with fail
  go_loopw [8] (fun v8 wr => ∃ (i : Nat) (X : Nat → Nat), v8 = .int .i64 i ∧ 1 ≤ i ∧ (i ≤ n ∨ i = 1) ∧ Hid (DoneW v i X) ∧ Hid (RowI 3 .i64 wr g cap (lstX X n)) ∧ Hid (Touch (fun z => z = g) w wr)) (fun v8 _ => n - (intOf v8).toNat)
  case atStart => exact ⟨1, fun a => a, by go_num, by omega, by omega, Lib.hid (DoneW.one v), HR, Lib.hid (Touch.refl _ _)⟩
  case round => as_aux_lemma =>
    clear HR
    obtain ⟨i, X, rfl, hi1, hin, HD, HR, HT⟩ := hrel
    by_cases hlt : i < n
    · have hlt2 : (i : Int) < (n : Int) := by omega
      have HM := Lib.hid HD.out.start
      clear HD
      go_upto_region 4 with fail
      go_loopw [9] (fun v9 wr => ∃ (j : Nat) (X : Nat → Nat), v9 = .int .i64 j ∧ j ≤ i ∧ Hid (MidW v i j X) ∧ Hid (RowI 3 .i64 wr g cap (lstX X n)) ∧ Hid (Touch (fun z => z = g) w wr)) (fun v9 _ => (intOf v9).toNat)
      case atStart => exact ⟨i, X, rfl, Nat.le_refl _, HM, HR, HT⟩
      case round => as_aux_lemma =>
        clear HM HR HT
        obtain ⟨j, X, rfl, hji, HM, HR, HT⟩ := hrel
        by_cases hj0 : 0 < j
        · have hjq : (0 : Int) < (j : Int) := by omega
          have hjn : (j : Int) < (n : Int) := by omega
          have hjn1 : (j : Int) - 1 < (n : Int) := by omega
          obtain ⟨p, hp⟩ : ∃ p, j = p + 1 := ⟨j - 1, by omega⟩
          have hpj : (j : Int) - 1 = (p : Int) := by omega
          have hpw : IntKind.i64.wrap (p : Int) = (p : Int) := by rw [IntKind.wrap_i64]; omega
          have hpn : (p : Int) < (n : Int) := by omega
          have hp0 : (0 : Int) ≤ (p : Int) := by omega
          have c1 := HR.out.cell (lstX_get (X := X) (show j < n by omega))
          have c2 := HR.out.cell (lstX_get (X := X) (show p < n by omega))
          have xn : X j < n := by have := HM.out.inn j (by omega); omega
          have yn : X p < n := by have := HM.out.inn p (by omega); omega
          obtain ⟨x, hx⟩ : ∃ x, x = X j := ⟨_, rfl⟩
          obtain ⟨y, hy⟩ : ∃ y, y = X p := ⟨_, rfl⟩
          rw [← hx] at c1 xn
          rw [← hy] at c2 yn
          have hcal : Calls Try.prog 75 #[.int .i64 x, .int .i64 y, .pointer (some ⟨cb, 0, none⟩)] wr.drew fun e w' => e = .returned (.int .i64 (cmpT (v y) (v x))) ∧ Adds wr.drew w' := HC.out x y xn yn _ HT.out.drew
          obtain ⟨c, hc⟩ : ∃ c, c = cmpT (v y) (v x) := ⟨_, rfl⟩
          rw [← hc] at hcal
          have hct : decide (c < 0) = decide (v y < v x) := by rw [hc]; exact cmp_test _ _
          have HX := Lib.hid hx
          have HY := Lib.hid hy
          have HP := Lib.hid hp
          clear hx hy hc hp
          by_cases hkey : v y < v x
          · have hct' : decide (c < 0) = true := by rw [hct]; exact decide_eq_true hkey
            have hc0 : c < 0 := of_decide_eq_true hct'
            have hsw : lstX (swapF X j) n = ((lstX X n).set j (y : Int)).set p (x : Int) ∧ lstX (swapF X j) n = ((lstX X n).set p (x : Int)).set j (y : Int) := by
              have := lstX_swap (X := X) (n := n) hj0 (by omega)
              rw [show j - 1 = p by have := HP.out; omega, ← HX.out, ← HY.out] at this
              exact ⟨this.1.symm, this.2.symm⟩
            have HM2 := Lib.hid (HM.out.swap hj0 (by rw [show j - 1 = p by have := HP.out; omega, ← HX.out, ← HY.out]; exact hkey))
            have HCAL := Lib.hid hcal
            have HSWP := Lib.hid hsw
            clear hct hkey hsw hcal
            go_upto_region 4 with fail
            go_still_tail 14, (by kernel_rfl)
            change wpList _ _ _ _ _ wr.drew
            go_upto_region 6 with (go_at_call 75; refine HCAL.out.mono ?_; rintro e w3 ⟨rfl, ha⟩; have HA3 := Lib.hid ha; clear ha)
            have hA3 : Adds wr w3 := (Adds.refl wr).drew.trans HA3.out
            have HR3 := Lib.hid (HR.out.later hA3)
            have HT3 := Lib.hid (HT.out.behind hA3)
            have R1 : Hid (RowI 3 .i64 ((w3.setCell ⟨g, j, none⟩ (.int .i64 y)).setCell ⟨g, p, none⟩ (.int .i64 x)) g cap (lstX (swapF X j) n)) := Lib.hid (by rw [HSWP.out.1]; exact (HR3.out.put j y).put p x)
            have R2 : Hid (RowI 3 .i64 ((w3.setCell ⟨g, p, none⟩ (.int .i64 x)).setCell ⟨g, j, none⟩ (.int .i64 y)) g cap (lstX (swapF X j) n)) := Lib.hid (by rw [HSWP.out.2]; exact (HR3.out.put p x).put j y)
            have k1 := keep_cell hA3 c1
            have k2 := keep_cell hA3 c2
            have f1 := HR3.out.free j
            have f2 := HR3.out.free p
            clear hct' hc0 c1 c2 hA3
            go_region
            go_wp2
            refine ⟨⟨p, swapF X j, by have := HP.out; go_num, by omega, Lib.hid ?_, by first | exact R1 | exact R2, Lib.hid (by first | exact ((HT3.out.drew).set (p := ⟨g, j, none⟩) rfl _).set (p := ⟨g, p, none⟩) rfl _ | exact ((HT3.out.drew).set (p := ⟨g, p, none⟩) rfl _).set (p := ⟨g, j, none⟩) rfl _ | exact ((HT3.out).set (p := ⟨g, j, none⟩) rfl _).set (p := ⟨g, p, none⟩) rfl _ | exact ((HT3.out).set (p := ⟨g, p, none⟩) rfl _).set (p := ⟨g, j, none⟩) rfl _)⟩, by have := HP.out; simp [intOf]; omega⟩
            have := HM2.out
            rw [show j - 1 = p by have := HP.out; omega] at this
            exact this
          · have hct' : decide (c < 0) = false := by rw [hct]; exact decide_eq_false hkey
            have hc0 : ¬ c < 0 := of_decide_eq_false hct'
            have hc1 : 0 ≤ c := by omega
            have HD2 := Lib.hid (HM.out.stop (.inr (by rw [show j - 1 = p by have := HP.out; omega, ← HX.out, ← HY.out]; exact hkey)))
            have HCAL := Lib.hid hcal
            clear hct hkey hc0 hcal
            go_upto_region 4 with fail
            go_still_tail 14, (by kernel_rfl)
            change wpList _ _ _ _ _ wr.drew
            go_wp2_with (go_at_call 75; refine HCAL.out.mono ?_; rintro e w3 ⟨rfl, ha⟩; have HA3 := Lib.hid ha; clear ha)
            exact ⟨⟨i + 1, X, by go_num, by omega, by omega, HD2, Lib.hid (HR.out.later ((Adds.refl wr).drew.trans HA3.out)), Lib.hid (HT.out.behind ((Adds.refl wr).drew.trans HA3.out))⟩, by simp [intOf]; omega⟩
        · have hj00 : j = 0 := by omega
          subst hj00
          have HD2 := Lib.hid (HM.out.stop (.inl rfl))
          go_wp2_with fail
          go_quiet (fail)
          go_wp2
          exact ⟨⟨i + 1, X, by go_num, by omega, by omega, HD2, Lib.hid (HR.out.drewN _), Lib.hid (HT.out.drewN _)⟩, by simp [intOf]; omega⟩
    · have hd : decide ((i : Int) < (n : Int)) = false := decide_eq_false (by omega)
      have hres : SortedW v n X := by
        obtain ⟨⟨h1, h2, h3⟩, _⟩ := HD.out
        by_cases e : i = n
        · subst e; exact ⟨h1, h2, h3⟩
        · have : n = 0 := by omega
          subst this
          exact ⟨fun a ha => by omega, fun a b ha => by omega, fun a b _ hb => by omega⟩
      have HRS := Lib.hid hres
      go_wp2
      go_end0
      exact ⟨rfl, X, HRS.out, HR.out, HT.out⟩
set_option maxRecDepth 100000 in
set_option maxHeartbeats 400000 in
theorem insW_none (g cap n m : Nat) (fv : Value) (w : World) (_hn : n ≤ 256) (hm : m ≤ 256) : Calls Try.prog 80 #[.slice (some ⟨g, 0, none⟩) n cap, .int .i64 m, .int .i64 m, fv] w fun e w' => e = .returned (.tuple #[]) ∧ w' = w := by
  have hq : decide ((m : Int) + 1 < (m : Int)) = false := decide_eq_false (by omega)
  go_enter Try.func80, Try.ntmps80
  go_upto_region 1 with fail
  go_loopw [8] (fun v8 wr => v8 = .int .i64 ((m : Int) + 1) ∧ wr = w) (fun v8 _ => 0)
  case atStart => exact ⟨by go_num, rfl⟩
  case round =>
    obtain ⟨rfl, rfl⟩ := hrel
    go_wp2
    go_end0
    exact ⟨rfl, rfl⟩

set_option maxRecDepth 100000 in
set_option maxHeartbeats 400000 in
theorem sortW_few (g cap n : Nat) (fv : Value) (v : Nat → Int) (w : World) (hn : n < 20) (hi : Calls Try.prog 80 #[.slice (some ⟨g, 0, none⟩) n cap, .int .i64 0, .int .i64 n, fv] w (SortW g cap n v w)) :
    Calls Try.prog 79 #[.slice (some ⟨g, 0, none⟩) n cap, .int .i64 n, fv] w (SortW g cap n v w) := by
  have HI := Lib.hid hi
  clear hi
  unfold SortW at HI ⊢
  have hq : decide ((20 : Int) ≤ (n : Int)) = false := decide_eq_false (by omega)
  have hq2 : decide ((20 : Int) < (n : Int)) = false := decide_eq_false (by omega)
  go_enter Try.func79, Try.ntmps79
  go_upto_region 2 with fail
  go_loopw [7, 8] (fun v7 v8 wr => v7 = .int .i64 0 ∧ v8 = .int .i64 20 ∧ wr = w) (fun _ _ _ => 0)
  case atStart => exact ⟨rfl, rfl, rfl⟩
  case round =>
    obtain ⟨rfl, rfl, rfl⟩ := hrel
    go_upto_region 7 with (go_at_call 80; refine HI.out.mono ?_; rintro e w1 ⟨rfl, X, h1, h2, h3⟩; have H1 := Lib.hid h1; have H2 := Lib.hid h2; have H3 := Lib.hid h3; clear h1 h2 h3)
    go_loopw [6, 7, 8, 9] (fun v6 _ _ _ wr => v6 = .int .i64 20 ∧ wr = w1) (fun _ _ _ _ _ => 0)
    case atStart => exact ⟨rfl, rfl⟩
    case round =>
      obtain ⟨rfl, rfl⟩ := hrel
      go_wp2
      go_end0
      exact ⟨rfl, X, H1.out, H2.out, H3.out⟩

set_option maxRecDepth 100000 in
set_option maxHeartbeats 400000 in
theorem sortW_twenty (g cap : Nat) (fv : Value) (v : Nat → Int) (w : World) (hi : Calls Try.prog 80 #[.slice (some ⟨g, 0, none⟩) 20 cap, .int .i64 0, .int .i64 20, fv] w (SortW g cap 20 v w)) :
    Calls Try.prog 79 #[.slice (some ⟨g, 0, none⟩) 20 cap, .int .i64 20, fv] w (SortW g cap 20 v w) := by
  have HI := Lib.hid hi
  have HN : Hid (∀ (W : World), Calls Try.prog 80 #[.slice (some ⟨g, 0, none⟩) 20 cap, .int .i64 20, .int .i64 20, fv] W fun e w' => e = .returned (.tuple #[]) ∧ w' = W) := Lib.hid (fun W => insW_none g cap 20 20 fv W (by omega) (by omega))
  clear hi
  unfold SortW at HI ⊢
  go_enter Try.func79, Try.ntmps79
  go_upto_region 2 with fail
  go_loopw [7, 8] (fun v7 v8 wr => (v7 = .int .i64 0 ∧ v8 = .int .i64 20 ∧ wr = w) ∨ (v7 = .int .i64 20 ∧ v8 = .int .i64 40 ∧ ∃ X, Hid (SortedW v 20 X) ∧ Hid (RowI 3 .i64 wr g cap (lstX X 20)) ∧ Hid (Touch (fun z => z = g) w wr))) (fun _ v8 _ => 40 - (intOf v8).toNat)
  case atStart => exact .inl ⟨rfl, rfl, rfl⟩
  case round =>
    rcases hrel with ⟨rfl, rfl, rfl⟩ | ⟨rfl, rfl, X, H1, H2, H3⟩
    · go_wp2_with (go_at_call 80; refine HI.out.mono ?_; rintro e w1 ⟨rfl, X, h1, h2, h3⟩; have H1 := Lib.hid h1; have H2 := Lib.hid h2; have H3 := Lib.hid h3; clear h1 h2 h3)
      exact ⟨.inr ⟨rfl, rfl, X, H1, H2, H3⟩, by simp [intOf]⟩
    · go_upto_region 7 with (go_at_call 80; refine (HN.out _).mono ?_; rintro e w2 ⟨rfl, rfl⟩)
      go_loopw [6, 7, 8, 9] (fun v6 _ _ _ wv => v6 = .int .i64 20 ∧ wv = w2) (fun _ _ _ _ _ => 0)
      case atStart => exact ⟨rfl, rfl⟩
      case round =>
        obtain ⟨rfl, rfl⟩ := hrel
        go_wp2
        go_end0
        exact ⟨rfl, X, H1.out, H2.out, H3.out⟩

set_option maxRecDepth 100000 in
set_option maxHeartbeats 400000 in
theorem sort_any2 (g cap n cb : Nat) (v : Nat → Int) (w : World) (hn : n ≤ 20) (hr : RowI 3 .i64 w g cap (lstX (fun a => a) n))
    (hc : ∀ a b, a < n → b < n → ∀ W, Touch (fun z => z = g) w W → Calls Try.prog 75 #[.int .i64 a, .int .i64 b, .pointer (some ⟨cb, 0, none⟩)] W fun e w' => e = .returned (.int .i64 (cmpT (v b) (v a))) ∧ Adds W w') :
    Calls Try.prog 74 #[.slice (some ⟨g, 0, none⟩) n cap, .func (.func 75) #[] #[.pointer (some ⟨cb, 0, none⟩)]] w (SortW g cap n v w) := by
  obtain ⟨fv, hfv⟩ : ∃ fv : Value, fv = .func (.func 75) #[] #[.pointer (some ⟨cb, 0, none⟩)] := ⟨_, rfl⟩
  have hi := insW_any g cap n fv cb v w hfv (by omega) hr hc
  have h87 : Calls Try.prog 79 #[.slice (some ⟨g, 0, none⟩) n cap, .int .i64 n, fv] w (SortW g cap n v w) := by
    by_cases h : n = 20
    · subst h
      exact sortW_twenty g cap fv v w hi
    · exact sortW_few g cap n fv v w (by omega) hi
  rw [← hfv]
  have H87 := Lib.hid h87
  clear h87 hi hc hr hfv
  unfold SortW at H87 ⊢
  go_enter Try.func74, Try.ntmps74
  go_wp2_with (go_at_call 79; refine H87.out.mono ?_; rintro e w1 ⟨rfl, X, h1, h2, h3⟩; have H1 := Lib.hid h1; have H2 := Lib.hid h2; have H3 := Lib.hid h3; clear h1 h2 h3)
  go_end0
  exact ⟨rfl, X, H1.out, H2.out, H3.out⟩
end Go.Proofs.Ytmkpidipoadnbaa
