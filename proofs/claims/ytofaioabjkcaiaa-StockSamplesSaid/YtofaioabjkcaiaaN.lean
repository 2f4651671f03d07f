/- The register's small methods. -/
import Derived.Test.YtofaioabjkcaiaaI
import Derived.BigGuardPart
namespace Go.Proofs.Ytofaioabjkcaiaa
open Go.RowKit

/-- A span is valid. -/
def validB (f n : Int) : Bool := decide (1 ≤ f ∧ f ≤ 1000000 ∧ 1 ≤ n ∧ n ≤ 1000000 - f + 1)

set_option maxHeartbeats 400000 in
theorem isValid_any (f n : Int) (w : World) :
    Calls Try.prog 104 #[.agg #[.int .i64 f, .int .i64 n]] w fun e w' => e = .returned (.bool (validB f n)) ∧ Adds w w' := by
  by_cases h : 1 ≤ f ∧ f ≤ 1000000
  · have hp : inB 1000000 f = true := by unfold inB; simpa using h
    have s1 := i64_in (1000000 - f) (by omega) (by omega)
    have s2 := i64_in (1000000 - f + 1) (by omega) (by omega)
    have HH := Lib.hid h
    clear h
    by_cases h2 : 1 ≤ n
    · have HN := Lib.hid h2
      go_enter Try.func104, Try.ntmps104
      go_wp2_with (go_at_call 59; refine (isPocket_any f _).mono ?_; rintro e w' ⟨rfl, rfl⟩)
      go_ret
      exact ⟨ret_bool (decide_eq_decide.2 (by have h1 := HH.out; have h2 := HN.out; clear s1 s2; omega)), (Adds.refl _).alloc _⟩
    · have HN := Lib.hid h2
      go_enter Try.func104, Try.ntmps104
      go_wp2_with (go_at_call 59; refine (isPocket_any f _).mono ?_; rintro e w' ⟨rfl, rfl⟩)
      go_ret
      exact ⟨ret_bool (by have := HN.out; unfold validB; simp; omega), (Adds.refl _).alloc _⟩
  · have hp : inB 1000000 f = false := by unfold inB; simpa using h
    have HH := Lib.hid h
    clear h
    go_enter Try.func104, Try.ntmps104
    go_wp2_with (go_at_call 59; refine (isPocket_any f _).mono ?_; rintro e w' ⟨rfl, rfl⟩)
    go_ret
    exact ⟨ret_bool (by have := HH.out; unfold validB; simp; omega), (Adds.refl _).alloc _⟩

/-- All are members. -/
def membersB (zs : List Int) : Bool := zs.all (inB 1000)

theorem all_false (zs : List Int) (k : Nat) (h : k < zs.length) (hk : inB 1000 (zs.getD k 0) = false) : membersB zs = false := by
  unfold membersB
  rw [List.all_eq_false]
  exact ⟨zs[k], List.getElem_mem h, by have e : zs.getD k 0 = zs[k] := by simp [h]
                                       rw [← e, hk]; simp⟩

set_option maxHeartbeats 400000 in
theorem areMembers_any (g cap : Nat) (zs : List Int) (w : World) (hz : zs.length ≤ 10) (hcell : ∀ i, i < zs.length → w.cell? ⟨g, i, none⟩ = some (.int .i64 (zs.getD i 0))) :
    Calls Try.prog 64 #[.slice (some ⟨g, 0, none⟩) zs.length cap] w fun e w' => e = .returned (.bool (membersB zs)) ∧ w = w' := by
  have HC := Lib.hid hcell
  clear hcell
  go_enter Try.func64, Try.ntmps64
  go_wp2
  go_loop [7] (fun i => ∃ k : Nat, k ≤ zs.length ∧ i = .int .i64 k ∧ membersB (zs.take k) = true) (fun i => zs.length - (intOf i).toNat)
  case atStart => exact ⟨0, Nat.zero_le _, rfl, rfl⟩
  case round =>
    obtain ⟨k, hk, rfl, hall⟩ := hrel
    have HA := Lib.hid hall
    clear hall
    by_cases hlt : k < zs.length
    · have hc := HC.out k hlt
      by_cases hm : 1 ≤ zs.getD k 0
      · by_cases hm2 : zs.getD k 0 ≤ 1000
        · generalize hz0 : zs.getD k 0 = z at *
          have HZ := Lib.hid hz0
          clear hz0
          go_wp2
          go_round
          case rel =>
            refine ⟨k + 1, by omega, by go_num, ?_⟩
            have hz := HZ.out
            unfold membersB at *
            rw [List.take_succ_eq_append_getElem hlt, List.all_append, HA.out]
            have e : zs[k] = z := by rw [← hz]; simp [hlt]
            simp [inB, e, hm, hm2]
          case measure => simp [intOf]; omega
        · have HM := Lib.hid (all_false zs k hlt (decide_eq_false (by omega)))
          generalize zs.getD k 0 = z at *
          go_wp2
          all_goals go_ret
          all_goals exact ⟨ret_bool HM.out.symm, rfl⟩
      · have HM := Lib.hid (all_false zs k hlt (decide_eq_false (by omega)))
        generalize zs.getD k 0 = z at *
        go_wp2
        all_goals go_ret
        all_goals exact ⟨ret_bool HM.out.symm, rfl⟩
    · go_wp2
      go_ret
      exact ⟨ret_bool (by rw [← HA.out, List.take_of_length_le (by omega)]), rfl⟩

end Go.Proofs.Ytofaioabjkcaiaa
