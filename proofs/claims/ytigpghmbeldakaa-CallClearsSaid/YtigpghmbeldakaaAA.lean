/- awake. -/
import Derived.Test.YtigpghmbeldakaaZ
namespace Go.Proofs.Ytigpghmbeldakaa
open Go.RowKit

/-- The bids of awake. -/
def awB : List Bd := [(1, 52, 10), (1, 50, 5), (2, 49, 8), (2, 51, 4)]

theorem aw_dem (x : Int) : dem awB x = (if x ≤ 52 then 10 else 0) + (if x ≤ 50 then 5 else 0) := by
  simp only [dem, awB, List.map_cons, List.map_nil, List.sum_cons, List.sum_nil]
  simp
theorem aw_sup (x : Int) : sup awB x = (if 49 ≤ x then 8 else 0) + (if 51 ≤ x then 4 else 0) := by
  simp only [sup, awB, List.map_cons, List.map_nil, List.sum_cons, List.sum_nil]
  simp
theorem aw_best {x : Int} (h : BestAt awB x) : x = 51 ∨ x = 52 := by
  have h1 := h.2 51 ⟨by omega, by omega⟩
  unfold volAt at h1
  rw [aw_dem, aw_sup, aw_dem, aw_sup] at h1
  have h2 := h.1
  unfold InR at h2
  simp only [show ((51 : Int) ≤ 52) = True by simp, show ((51 : Int) ≤ 50) = False by simp, show ((49 : Int) ≤ 51) = True by simp, show ((51 : Int) ≤ 51) = True by simp, if_true, if_false] at h1
  repeat' split at h1
  all_goals omega
theorem aw_sur {x : Int} (h : x = 51 ∨ x = 52) : surAt awB x = -2 ∧ volAt awB x = 10 := by
  rcases h with rfl | rfl <;> exact ⟨by decide, by decide⟩
theorem aw_price {x : Int} (h : PriceAt awB 50 x) : x = 51 := by
  have hb := aw_best h.few.1
  have few51 : FewAt awB 51 := by
    refine ⟨⟨⟨by omega, by omega⟩, fun y hy => ?_⟩, fun y hy => ?_⟩
    · have h1 := h.few.1.2 y hy
      have h2 := (aw_sur hb).2
      have h3 := (aw_sur (x := 51) (Or.inl rfl)).2
      omega
    · rw [(aw_sur (aw_best hy)).1, (aw_sur (x := 51) (Or.inl rfl)).1]
      exact Int.le_refl _
  have := h.under (fun y hy => by rw [(aw_sur (aw_best hy.1)).1]; omega) 51 few51
  omega

theorem aw_rank1 {R : List Int} (h : RankOf awB 51 1 R) : R = [0] := by
  have e : partT awB 51 1 awB.length = [0] := by decide
  have := h.1
  rw [e] at this
  exact List.perm_singleton.1 this
theorem aw_rank2 {R : List Int} (h : RankOf awB 51 2 R) : R = [2, 3] := by
  have e : partT awB 51 2 awB.length = [2, 3] := by decide
  obtain ⟨hp, hs⟩ := h
  rw [e] at hp
  have hl := hp.length_eq
  match R, hl with
  | [a, b], _ =>
    have ha : a = 2 ∨ a = 3 := by have := hp.mem_iff.1 (show a ∈ [a, b] by simp); simpa using this
    have h2 : (2 : Int) = a ∨ (2 : Int) = b := by have := hp.mem_iff.2 (show (2 : Int) ∈ [2, 3] by simp); simpa using this
    have h3 : (3 : Int) = a ∨ (3 : Int) = b := by have := hp.mem_iff.2 (show (3 : Int) ∈ [2, 3] by simp); simpa using this
    rcases ha with rfl | rfl
    · have : b = 3 := by omega
      rw [this]
    · have : b = 2 := by omega
      subst this
      unfold LexSorted at hs
      rw [List.pairwise_cons] at hs
      have := hs.1 2 (by simp)
      have k2 : keyT awB 2 (2 : Int).toNat = 49 := by decide
      have k3 : keyT awB 2 (3 : Int).toNat = 51 := by decide
      rw [k2, k3] at this
      omega

theorem aw_fill {F : List Int} (h : FillAt turnT awB 51 10 2 F) : F = [10, 0, 8, 2] := by
  obtain ⟨R, R', h1, h2, rfl⟩ := h
  rw [aw_rank1 h1, aw_rank2 h2]
  decide

theorem aw_check : checkT awB = 0 := by decide

/-- The cells of the bids of awake. -/
theorem aw_at (w : World) : At3 (w.alloc (.cells #[.int .i64 1, .int .i64 52, .int .i64 10, .int .i64 1, .int .i64 50, .int .i64 5, .int .i64 2, .int .i64 49, .int .i64 8, .int .i64 2, .int .i64 51, .int .i64 4] 75)) (some ⟨w.heap.size, 0, none⟩) awB := by
  intro i x hx
  have hB := Box.new w #[.int .i64 1, .int .i64 52, .int .i64 10, .int .i64 1, .int .i64 50, .int .i64 5, .int .i64 2, .int .i64 49, .int .i64 8, .int .i64 2, .int .i64 51, .int .i64 4] 75
  have hi : i < 4 := by have := (List.getElem?_eq_some_iff.1 hx).1; simpa [awB] using this
  have hcase : i = 0 ∨ i = 1 ∨ i = 2 ∨ i = 3 := by omega
  rcases hcase with rfl | rfl | rfl | rfl <;> (simp [awB] at hx; subst hx; exact ⟨w.heap.size, 0, rfl, hB.cell _, hB.cell _, hB.cell _⟩)

theorem aw_res {px v sr er : Int} {fv : Value} {w w' : World} (h : TradeRes turnT (PriceAt awB 50) awB 50 1 px v sr fv er w w') :
    px = 51 ∧ v = 10 ∧ sr = -2 ∧ er = 0 ∧ ∃ g, fv = .slice (some ⟨g, 0, none⟩) 4 4 ∧ RowI 2 .i64 w' g 4 [10, 0, 8, 2] := by
  obtain ⟨x, hP, hh⟩ := h.fine aw_check (by decide)
  have hx := aw_price hP
  subst hx
  obtain ⟨s1, s2⟩ := aw_sur (x := 51) (Or.inl rfl)
  rcases hh with ⟨h0, _⟩ | ⟨_, h1, h2, h3, h4, g, F, hF, hfv, _, hr⟩
  · omega
  · rw [s2] at hF h2
    rw [s1] at h3
    rw [aw_fill hF] at hr
    exact ⟨h1, h2, h3, h4, g, hfv, hr⟩

set_option maxRecDepth 100000 in
set_option maxHeartbeats 2000000 in
theorem awake_any (w : World) : Calls Try.prog 18 #[] w fun e w' => e = .returned (.bool true) ∧ Adds w w' := by
  have A0 := Lib.hid ((Adds.refl w).alloc (.cells #[.int .i64 1, .int .i64 52, .int .i64 10, .int .i64 1, .int .i64 50, .int .i64 5, .int .i64 2, .int .i64 49, .int .i64 8, .int .i64 2, .int .i64 51, .int .i64 4] 75))
  have hcon := Clear_any 19 stable19 turnT 50 1 awB (fun _ _ => shareTime 19 (by omega)) turn_share (some ⟨w.heap.size, 0, none⟩) 4 _ (by unfold maxLen; decide) (fun _ => by decide) (aw_at w)
  have HCON := Lib.hid hcon
  clear hcon
  go_enter Try.func18, Try.ntmps18
  go_wp2_with fail
  refine HCON.out.mono ?_
  rintro e w1 ⟨px, v, sr, fv, er, hres, rfl, hb1⟩
  obtain ⟨rfl, rfl, rfl, rfl, g, rfl, hr⟩ := aw_res hres
  have c3 := hr.cell (j := 3) (x := 2) rfl
  have hg := hr.lt
  have HB1 := Lib.hid hb1
  clear hres hr hb1
  go_wp2
  go_ret
  exact ⟨rfl, (A0.out.trans HB1.out).alloc _⟩

end Go.Proofs.Ytigpghmbeldakaa
