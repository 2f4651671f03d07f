/- Alpha. -/
import Derived.Test.YtofaioabjkcaiaaA
namespace Go.Proofs.Ytofaioabjkcaiaa
open Go.RowKit

theorem keep_cell0 {w w' : World} (hb : Adds w w') {b o : Nat} {v : Value} (h : w.cell? ⟨b, o, none⟩ = some v) : w'.cell? ⟨b, o, none⟩ = some v :=
  (hb.cell (p := ⟨b, o, none⟩) (World.block_lt_of_cell? w _ h)).trans h

/-- An alpha acid. -/
def alphaB (a : Int) : Bool := decide (0 ≤ a ∧ a ≤ 3000)

set_option maxHeartbeats 400000 in
theorem isAlpha_any (a : Int) (w : World) : Calls Try.prog 89 #[.int .i64 a] w fun e w' => e = .returned (.bool (alphaB a)) ∧ w = w' := by
  go_enter Try.func89, Try.ntmps89
  go_wp2
  all_goals
    go_ret
    exact ⟨ret_bool (by unfold alphaB; simp <;> omega), rfl⟩

/-- The quotient, rounded to the nearest integer, to the even one of two. -/
def nearestT (a b : Int) : Int := if a % b > b - a % b ∨ (a % b = b - a % b ∧ a / b % 2 = 1) then a / b + 1 else a / b

set_option maxHeartbeats 1000000 in
theorem nearest_any (a b : Int) (w : World) (ha : 0 ≤ a) (ha2 : a ≤ 1000000000000000000) (hb : 1 ≤ b) (hb2 : b ≤ 1000000000000000000) :
    Calls Try.prog 90 #[.int .i64 a, .int .i64 b] w fun e w' => e = .returned (.int .i64 (nearestT a b)) ∧ Adds w w' := by
  have q1 : a.tdiv b = a / b := Int.tdiv_eq_ediv_of_nonneg ha
  have q2 : a.tmod b = a % b := Int.tmod_eq_emod_of_nonneg ha
  have r0 : 0 ≤ a % b := Int.emod_nonneg _ (by omega)
  have r1 : a % b < b := Int.emod_lt_of_pos _ (by omega)
  have d0 : 0 ≤ a / b := Int.ediv_nonneg ha (by omega)
  have d1 : a / b ≤ a := Int.ediv_le_self _ ha
  have q3 : (a / b).tmod 2 = a / b % 2 := Int.tmod_eq_emod_of_nonneg d0
  have HN : Hid (nearestT a b = if a % b > b - a % b ∨ (a % b = b - a % b ∧ a / b % 2 = 1) then a / b + 1 else a / b) := Lib.hid rfl
  have w1 : IntKind.i64.wrap (a / b) = a / b := IntWalk.i64_in _ (by omega)
  have w2 : IntKind.i64.wrap (a % b) = a % b := IntWalk.i64_in _ (by omega)
  generalize hq : a / b = q at *
  generalize hr : a % b = r at *
  clear hq hr
  have HQ1 := Lib.hid q1
  go_enter Try.func90, Try.ntmps90
  go_wp2
  go_quiet (fail)
  by_cases h1 : r > b - r
  · go_wp2
    go_ret
    exact ⟨ret_int (by rw [HN.out, if_pos (Or.inl h1)]), (Adds.refl w).drewN _⟩
  · by_cases h2 : r = b - r
    · have k2 : (r == b - r) = true := beq_iff_eq.2 h2
      have H2 := Lib.hid h2
      clear h2
      by_cases h3 : q % 2 = 1
      · have k3 : (q % 2 == 1) = true := beq_iff_eq.2 h3
        have H3 := Lib.hid h3
        clear h3
        go_wp2
        go_ret
        exact ⟨ret_int (by rw [HN.out, if_pos (Or.inr ⟨H2.out, H3.out⟩)]), (Adds.refl w).drewN _⟩
      · have k3 : (q % 2 == 1) = false := beq_eq_false_iff_ne.2 h3
        have H3 := Lib.hid h3
        clear h3
        go_wp2
        go_ret
        exact ⟨ret_int (by rw [HN.out, if_neg (fun h => h.elim (fun h => by omega) (fun h => H3.out h.2))]), (Adds.refl w).drewN _⟩
    · have k2 : (r == b - r) = false := beq_eq_false_iff_ne.2 h2
      have H2 := Lib.hid h2
      clear h2
      go_wp2
      go_ret
      exact ⟨ret_int (by rw [HN.out, if_neg (fun h => h.elim (fun h => by omega) (fun h => H2.out h.1))]), (Adds.refl w).drewN _⟩

/-- A test is valid. -/
def testB (t : Int × Int) : Bool := decide (1 ≤ t.1 ∧ t.1 ≤ 1000000000) && alphaB t.2

def sumT (l : List (Int × Int)) : Int := (l.map fun t => t.1 * t.2).sum
def gramsT (l : List (Int × Int)) : Int := (l.map fun t => t.1).sum

/-- What Alpha returns. -/
def alphaT (l : List (Int × Int)) : Int × Int :=
  if 4096 < l.length then (0, 2) else if l = [] then (0, 1) else if l.all testB then (nearestT (sumT l) (gramsT l), 0) else (0, 1)

theorem sum_bound : ∀ (l : List (Int × Int)), l.all testB = true → l.length ≤ gramsT l ∧ gramsT l ≤ 1000000000 * l.length ∧ 0 ≤ sumT l ∧ sumT l ≤ 3000000000000 * l.length
  | [], _ => by simp [gramsT, sumT]
  | t :: l, h => by
    simp only [List.all_cons, Bool.and_eq_true] at h
    obtain ⟨h1, h2⟩ := h
    have ih := sum_bound l h2
    have h3 : (1 ≤ t.1 ∧ t.1 ≤ 1000000000) ∧ 0 ≤ t.2 ∧ t.2 ≤ 3000 := by simpa [testB, alphaB] using h1
    have e1 : gramsT (t :: l) = t.1 + gramsT l := by simp [gramsT]
    have e2 : sumT (t :: l) = t.1 * t.2 + sumT l := by simp [sumT]
    have m0 : 0 ≤ t.1 * t.2 := Int.mul_nonneg (by omega) h3.2.1
    have m1 : t.1 * t.2 ≤ 1000000000 * 3000 := Int.mul_le_mul h3.1.2 h3.2.2 h3.2.1 (by omega)
    rw [e1, e2]
    simp only [List.length_cons]
    omega

theorem all_take_bad {l : List (Int × Int)} {k : Nat} {t : Int × Int} (h : l[k]? = some t) (ht : testB t = false) : l.all testB = false := by
  rw [List.all_eq_false]
  exact ⟨t, List.mem_of_getElem? h, by rw [ht]; simp⟩

set_option maxHeartbeats 2000000 in
theorem Alpha_any (l : List (Int × Int)) (v : Value) (w : World) (hv : (v = .slice none 0 0 ∧ l = []) ∨ ∃ g cap, v = .slice (some ⟨g, 0, none⟩) l.length cap ∧ (∀ k t, l[k]? = some t → w.cell? ⟨g, k * 2, none⟩ = some (.int .i64 t.1) ∧ w.cell? ⟨g, k * 2 + 1, none⟩ = some (.int .i64 t.2))) (hlen : l.length ≤ 1000000) :
    Calls Try.prog 42 #[v] w fun e w' => e = .returned (.tuple #[.int .i64 (alphaT l).1, .int .i64 (alphaT l).2]) ∧ Adds w w' := by
  rcases hv with ⟨rfl, rfl⟩ | ⟨g, cap, rfl, hc⟩
  · go_enter Try.func42, Try.ntmps42
    go_wp2
    go_ret2
    exact ⟨rfl, Adds.refl w⟩
  · by_cases hbig : 4096 < l.length
    · have HA : Hid (alphaT l = (0, 2)) := Lib.hid (by unfold alphaT; rw [if_pos hbig])
      clear hc
      go_enter Try.func42, Try.ntmps42
      go_wp2
      go_ret2
      exact ⟨by rw [HA.out]; rfl, Adds.refl w⟩
    · by_cases he : l = []
      · subst he
        clear hc
        simp only [List.length_nil] at hbig hlen ⊢
        go_enter Try.func42, Try.ntmps42
        go_wp2
        go_ret2
        exact ⟨rfl, Adds.refl w⟩
      · have hpos : 0 < l.length := List.length_pos_iff.2 he
        have hne : ((l.length : Int) == 0) = false := by rw [beq_eq_false_iff_ne]; omega
        have HC := Lib.hid hc
        have HE := Lib.hid he
        clear hc he
        go_enter Try.func42, Try.ntmps42
        go_wp2
        go_loopw [4, 5, 16] (fun sm gm i wr => ∃ k : Nat, k ≤ l.length ∧ i = .int .i64 k ∧ (l.take k).all testB = true ∧ sm = .int .i64 (sumT (l.take k)) ∧ gm = .int .i64 (gramsT (l.take k)) ∧ Adds w wr) (fun _ _ i _ => l.length - (intOf i).toNat)
        case atStart => exact ⟨0, Nat.zero_le _, rfl, rfl, rfl, rfl, Adds.refl w⟩
        case round =>
          obtain ⟨k, hk, rfl, hall, rfl, rfl, ha⟩ := hrel
          have HALL := Lib.hid hall
          have hsb := sum_bound _ hall
          have hlt0 : (l.take k).length ≤ 4096 := by simp; omega
          clear hall
          by_cases hlt : k < l.length
          · have hx : l[k]? = some (l[k]'hlt) := List.getElem?_eq_getElem hlt
            obtain ⟨c0, c1⟩ := HC.out k _ hx
            have d0 := keep_cell0 ha c0
            have d1 := keep_cell0 ha c1
            have hsnoc : l.take (k + 1) = l.take k ++ [l[k]'hlt] := List.take_succ_eq_append_getElem hlt
            generalize l[k]'hlt = t at *
            have HX := Lib.hid hx
            have HS := Lib.hid hsnoc
            clear hx hsnoc c0 c1
            by_cases h1 : 1 ≤ t.1
            · by_cases h2 : t.1 ≤ 1000000000
              · by_cases h3 : alphaB t.2 = true
                · have h3' : 0 ≤ t.2 ∧ t.2 ≤ 3000 := by simpa [alphaB] using h3
                  have m0 : 0 ≤ t.1 * t.2 := Int.mul_nonneg (by omega) h3'.1
                  have m1 : t.1 * t.2 ≤ 1000000000 * 3000 := Int.mul_le_mul h2 h3'.2 h3'.1 (by omega)
                  have HT : Hid (testB t = true) := Lib.hid (by simp [testB, h1, h2, h3])
                  have p1 : IntKind.i64.wrap (t.1 * t.2) = t.1 * t.2 := IntWalk.i64_in _ (by omega)
                  have p2 : IntKind.i64.wrap (sumT (l.take k) + t.1 * t.2) = sumT (l.take k) + t.1 * t.2 := IntWalk.i64_in _ (by omega)
                  have SL : Hid (3000000000000 * ((l.take k).length : Int) ≤ 3000000000000 * 4096) := Lib.hid (by omega)
                  clear h3'
                  go_wp2_with (go_at_call 89; refine (isAlpha_any t.2 _).mono ?_; rintro e w' ⟨rfl, rfl⟩)
                  refine ⟨⟨k + 1, by omega, by go_num, ?_, ?_, ?_, ha.alloc _⟩, by simp [intOf]; omega⟩
                  · rw [HS.out, List.all_append, HALL.out]; simp [HT.out]
                  · rw [HS.out]; simp [sumT]
                  · rw [HS.out]; simp [gramsT]
                · have h3' : alphaB t.2 = false := by simpa using h3
                  clear h3
                  have HT : Hid (testB t = false) := Lib.hid (by simp [testB, h3'])
                  clear hsb hlt0
                  go_wp2_with (go_at_call 89; refine (isAlpha_any t.2 _).mono ?_; rintro e w' ⟨rfl, rfl⟩)
                  go_ret2
                  exact ⟨by rw [show alphaT l = (0, 1) from by unfold alphaT; rw [if_neg hbig, if_neg HE.out, all_take_bad HX.out HT.out]; rfl]; first | done | rfl, ha.alloc _⟩
              · have HT : Hid (testB t = false) := Lib.hid (by simp [testB, h2])
                clear hsb hlt0
                go_wp2
                go_ret2
                exact ⟨by rw [show alphaT l = (0, 1) from by unfold alphaT; rw [if_neg hbig, if_neg HE.out, all_take_bad HX.out HT.out]; rfl]; first | done | rfl, ha.alloc _⟩
            · have HT : Hid (testB t = false) := Lib.hid (by simp [testB, h1])
              clear hsb hlt0
              go_wp2
              go_ret2
              exact ⟨by rw [show alphaT l = (0, 1) from by unfold alphaT; rw [if_neg hbig, if_neg HE.out, all_take_bad HX.out HT.out]; rfl]; first | done | rfl, ha.alloc _⟩
          · have hkl : k = l.length := by omega
            have HT : Hid (l.all testB = true) := Lib.hid (by have := HALL.out; rwa [List.take_of_length_le (by omega)] at this)
            have e1 : l.take k = l := List.take_of_length_le (by omega)
            rw [e1] at hsb ⊢
            clear hlt0 e1
            go_wp2_with (go_at_call 90; refine (nearest_any (sumT l) (gramsT l) _ (by omega) (by omega) (by omega) (by omega)).mono ?_; rintro e w' ⟨rfl, hb⟩)
            go_ret2
            exact ⟨by rw [show alphaT l = (nearestT (sumT l) (gramsT l), 0) from by unfold alphaT; rw [if_neg hbig, if_neg HE.out, if_pos HT.out]]; first | done | rfl, ha.trans hb⟩

end Go.Proofs.Ytofaioabjkcaiaa
