/- Samples of any arguments; two rows of numbers compared. -/
import Derived.Test.YtofaioabjkcaiaaDL
namespace Go.Proofs.Ytofaioabjkcaiaa
open Go.RowKit

theorem RowI.nums {w : World} {g k : Nat} {l : List Int} (h : RowI 3 .i64 w g k l) (hl : l.length = k) : NumsAt w (.slice (some ⟨g, 0, none⟩) k k) l :=
  ⟨some ⟨g, 0, none⟩, k, by rw [hl], fun _ _ hx => ⟨g, rfl, h.cell hx⟩⟩

theorem nums_nil (w : World) : NumsAt w (.slice none 0 0) [] := ⟨none, 0, rfl, fun i x hx => by simp at hx⟩

set_option maxRecDepth 100000 in
set_option maxHeartbeats 2000000 in
theorem Sample_err (x0 n k : Int) (w : World) (h : k < 0 ∨ n < k ∨ 1000000 < n) :
    Calls Try.prog 39 #[.int .u64 x0, .int .i64 n, .int .i64 k] w fun e w' => e = .returned (.tuple #[.slice none 0 0, .int .i64 1]) ∧ w = w' := by
  by_cases a1 : k < 0
  · have g1 : decide (k < 0) = true := decide_eq_true a1
    go_enter Try.func39, Try.ntmps39
    go_wp2_with fail
    go_ret2
    exact ⟨rfl, rfl⟩
  · have g1 : decide (k < 0) = false := decide_eq_false a1
    by_cases a2 : n < k
    · have g2 : decide (n < k) = true := decide_eq_true a2
      go_enter Try.func39, Try.ntmps39
      go_wp2_with fail
      go_ret2
      exact ⟨rfl, rfl⟩
    · have g2 : decide (n < k) = false := decide_eq_false a2
      have a3 : 1000000 < n := by omega
      have g3 : decide (1000000 < n) = true := decide_eq_true a3
      go_enter Try.func39, Try.ntmps39
      go_wp2_with fail
      go_ret2
      exact ⟨rfl, rfl⟩

set_option maxRecDepth 100000 in
set_option maxHeartbeats 2000000 in
theorem RSample_err (x0 n k : Int) (w : World) (h : k < 0 ∨ n < k ∨ 1000000 < n) :
    Calls Try.prog 40 #[.int .u64 x0, .int .i64 n, .int .i64 k] w fun e w' => e = .returned (.tuple #[.slice none 0 0, .int .i64 1]) ∧ w = w' := by
  by_cases a1 : k < 0
  · have g1 : decide (k < 0) = true := decide_eq_true a1
    go_enter Try.func40, Try.ntmps40
    go_wp2_with fail
    go_ret2
    exact ⟨rfl, rfl⟩
  · have g1 : decide (k < 0) = false := decide_eq_false a1
    by_cases a2 : n < k
    · have g2 : decide (n < k) = true := decide_eq_true a2
      go_enter Try.func40, Try.ntmps40
      go_wp2_with fail
      go_ret2
      exact ⟨rfl, rfl⟩
    · have g2 : decide (n < k) = false := decide_eq_false a2
      have a3 : 1000000 < n := by omega
      have g3 : decide (1000000 < n) = true := decide_eq_true a3
      go_enter Try.func40, Try.ntmps40
      go_wp2_with fail
      go_ret2
      exact ⟨rfl, rfl⟩

set_option maxRecDepth 100000 in
set_option maxHeartbeats 2000000 in
theorem ints_any (u v : Value) (l : List Int) (w : World) (hu : NumsAt w u l) (hv : NumsAt w v l) (hlen : l.length ≤ 1000000) :
    Calls Try.prog 41 #[u, v] w fun e w' => e = .returned (.bool true) ∧ Adds w w' := by
  obtain ⟨p, cap, rfl, hc⟩ := hu
  obtain ⟨q, cap2, rfl, hd⟩ := hv
  have HC := Lib.hid hc
  have HD := Lib.hid hd
  clear hc hd
  obtain ⟨n, hn⟩ : ∃ n, n = l.length := ⟨_, rfl⟩
  rw [← hn] at hlen ⊢
  have HN := Lib.hid hn
  clear hn
  have hb0 := beq_self_eq_true (n : Int)
  go_enter Try.func41, Try.ntmps41
  go_wp2_with fail
  go_loopw [5] (fun v5 wr => ∃ i : Nat, i ≤ n ∧ v5 = .int .i64 i ∧ Hid (Adds w wr)) (fun v5 _ => n - (intOf v5).toNat)
  case atStart => exact ⟨0, Nat.zero_le _, rfl, Lib.hid (Adds.refl _)⟩
  case round =>
    obtain ⟨i, hi, rfl, had⟩ := hrel
    by_cases hlt : i < n
    · obtain ⟨x, hx⟩ : ∃ x, l[i]? = some x := ⟨_, List.getElem?_eq_getElem (by have := HN.out; omega)⟩
      obtain ⟨g, rfl, c0⟩ := HC.out i x hx
      obtain ⟨g2, rfl, c1⟩ := HD.out i x hx
      replace c0 := keep_cell had.out c0
      replace c1 := keep_cell had.out c1
      clear hx
      have hb := beq_self_eq_true x
      go_upto_region 6 with fail
      go_region
      all_goals
        go_wp2_with fail
        refine ⟨⟨i + 1, by omega, by go_num, Lib.hid (by first | exact had.out | exact had.out.drew | exact had.out.drewN _)⟩, by simp [intOf]; omega⟩
    · go_wp2_with fail
      go_ret
      exact ⟨rfl, had.out⟩

end Go.Proofs.Ytofaioabjkcaiaa
