/- The sums of both sides; Clear of tame bids. -/
import Derived.Test.YtigpghmbeldakaaBI
import Derived.Test.YtigpghmbeldakaaAH
import Derived.Test.YtigpghmbeldakaaZ
namespace Go.Proofs.Ytigpghmbeldakaa
open Go.RowKit

/-- What the first n bids of a side get. -/
def sideSum (l : List Bd) (F : List Int) (side : Int) (n : Nat) : Int := ((List.range n).map fun i => if (l[i]!).1 = side then F[i]! else 0).sum

theorem sideSum_next (l : List Bd) (F : List Int) (side : Int) (n : Nat) : sideSum l F side (n + 1) = sideSum l F side n + if (l[n]!).1 = side then F[n]! else 0 := by
  unfold sideSum
  rw [List.range_succ, List.map_append, List.sum_append]
  simp
theorem sideSum_bd {l : List Bd} {F : List Int} {side : Int} : ∀ (n : Nat), (∀ i, i < n → 0 ≤ F[i]! ∧ F[i]! ≤ 1000000000) → 0 ≤ sideSum l F side n ∧ sideSum l F side n ≤ (n : Int) * 1000000000
  | 0, _ => by simp [sideSum]
  | n + 1, h => by
    have h1 := sideSum_bd n (fun i hi => h i (by omega)) (l := l) (side := side)
    have h2 := h n (by omega)
    rw [sideSum_next]
    split <;> omega

theorem sum_of_part {l : List Bd} {F : List Int} {x side : Int} (hz : ∀ i, i < l.length → takesB l[i]! x = false → F[i]! = 0) : ∀ n, n ≤ l.length → (atQ F (partT l x side n)).sum = sideSum l F side n
  | 0, _ => by simp [partT, atQ, sideSum]
  | n + 1, h => by
    have ih := sum_of_part hz n (by omega) (side := side)
    rw [partT_next, sideSum_next, ← ih]
    unfold atQ
    rw [List.map_append, List.sum_append]
    congr 1
    by_cases hp : partB l x side n = true
    · have hp' := hp
      unfold partB at hp'
      simp only [Bool.and_eq_true, decide_eq_true_eq] at hp'
      rw [if_pos hp, if_pos hp'.1]
      simp
    · rw [if_neg hp]
      unfold partB at hp
      by_cases hs : (l[n]!).1 = side
      · rw [if_pos hs]
        have ht : takesB l[n]! x = false := by
          cases h' : takesB l[n]! x with
          | false => rfl
          | true => exact absurd (by rw [decide_eq_true hs, h']; rfl) hp
        rw [hz n (by omega) ht]
        rfl
      · rw [if_neg hs]
        rfl

theorem side_of {l : List Bd} (hok : ∀ b ∈ l, okB b = true) {i : Nat} (hi : i < l.length) : (l[i]!).1 = 1 ∨ (l[i]!).1 = 2 := by
  have := okB_iff.1 (hok l[i]! (by rw [getElem!_pos l i hi]; exact List.getElem_mem hi))
  exact this.1
theorem qty_of {l : List Bd} (hok : ∀ b ∈ l, okB b = true) {i : Nat} (hi : i < l.length) : qtyOf l i ≤ 1000000000 := by
  have := okB_iff.1 (hok l[i]! (by rw [getElem!_pos l i hi]; exact List.getElem_mem hi))
  exact this.2.2.2

set_option maxRecDepth 100000 in
set_option maxHeartbeats 2000000 in
theorem sums_any (p : Option Addr) (cap : Nat) (l : List Bd) (q : Option Addr) (cap2 : Nat) (F : List Int) (w : World) (hN : l.length ≤ 5000) (hFl : F.length = l.length) (hL : At3 w p l) (hF : At1 .i64 w q F) (hok : ∀ b ∈ l, okB b = true) (hb : ∀ i, i < l.length → 0 ≤ F[i]! ∧ F[i]! ≤ 1000000000) :
    Calls Try.prog 37 #[.slice p l.length cap, .slice q F.length cap2] w fun e w' => e = .returned (.tuple #[.int .i64 (sideSum l F 1 l.length), .int .i64 (sideSum l F 2 l.length)]) ∧ w = w' := by
  have HL := Lib.hid hL
  have HF := Lib.hid hF
  have HO := Lib.hid hok
  have HB := Lib.hid hb
  obtain ⟨N, hNl⟩ : ∃ N, N = l.length := ⟨_, rfl⟩
  have hFN : F.length = N := by omega
  rw [hFN, ← hNl]
  have HN := Lib.hid hNl
  have HFN := Lib.hid hFN
  have hN5 : N ≤ 5000 := by omega
  clear hL hF hok hb hN hFl hNl hFN
  go_enter Try.func37, Try.ntmps37
  go_wp2
  go_loop [6, 7, 8] (fun b s i => ∃ k : Nat, k ≤ N ∧ i = .int .i64 k ∧ b = .int .i64 (sideSum l F 1 k) ∧ s = .int .i64 (sideSum l F 2 k)) (fun _ _ i => N - (intOf i).toNat)
  case atStart => exact ⟨0, by omega, rfl, by simp [sideSum], by simp [sideSum]⟩
  case round =>
    obtain ⟨k, hk, rfl, rfl, rfl⟩ := hrel
    by_cases hlt : k < N
    · obtain ⟨⟨s, pp, qq⟩, hb3⟩ : ∃ t, l[k]? = some t := ⟨_, List.getElem?_eq_getElem (by have := HN.out; omega)⟩
      obtain ⟨y, hy⟩ : ∃ y, F[k]? = some y := ⟨_, List.getElem?_eq_getElem (by have := HFN.out; omega)⟩
      obtain ⟨g, off, rfl, c0, _, _⟩ := HL.out k _ hb3
      obtain ⟨g2, off2, rfl, d0⟩ := HF.out k _ hy
      have hyb := HB.out k (by rw [← HN.out]; exact hlt)
      have hsd := side_of HO.out (show k < l.length by rw [← HN.out]; exact hlt)
      have hFk : F[k]! = y := by rw [List.getElem!_eq_getElem?_getD, hy]; rfl
      have hlk : (l[k]!).1 = s := by rw [get!_some hb3]
      rw [hFk] at hyb
      rw [hlk] at hsd
      have h1 := sideSum_bd (l := l) (F := F) (side := 1) k (fun i hi => HB.out i (by have := HN.out; omega))
      have h2 := sideSum_bd (l := l) (F := F) (side := 2) k (fun i hi => HB.out i (by have := HN.out; omega))
      have HS1 : Hid (sideSum l F 1 (k + 1) = sideSum l F 1 k + if s = 1 then y else 0) := Lib.hid (by rw [sideSum_next, hlk, hFk])
      have HS2 : Hid (sideSum l F 2 (k + 1) = sideSum l F 2 k + if s = 2 then y else 0) := Lib.hid (by rw [sideSum_next, hlk, hFk])
      generalize sideSum l F 1 k = b at *
      generalize sideSum l F 2 k = sv at *
      have hk5 : (k : Int) ≤ 5000 := by omega
      obtain ⟨h11, h12⟩ := h1
      obtain ⟨h21, h22⟩ := h2
      obtain ⟨hy1, hy2⟩ := hyb
      have hb2 : b ≤ 5000000000000 := by omega
      have hs2 : sv ≤ 5000000000000 := by omega
      simp only at c0
      clear hb3 hy hFk hlk h12 h22
      rcases hsd with rfl | rfl
      · go_wp2
        go_round
        case rel => exact ⟨k + 1, by omega, by go_num, by rw [HS1.out, if_pos rfl], by rw [HS2.out, if_neg (by omega), Int.add_zero]⟩
        case measure => simp [intOf]; omega
      · go_wp2
        go_round
        case rel => exact ⟨k + 1, by omega, by go_num, by rw [HS1.out, if_neg (by omega), Int.add_zero], by rw [HS2.out, if_pos rfl]⟩
        case measure => simp [intOf]; omega
    · have hkN : k = N := by omega
      subst hkN
      go_wp2
      go_ret2
      exact ⟨rfl, rfl⟩

/-- How a rule shares. -/
def ruleF (rule : Int) : Int → List Int → List Int := if rule = 1 then turnT else shareAll
theorem ruleF_share (rule : Int) : FShare (ruleF rule) := by unfold ruleF; split; exact turn_share; exact share_share
theorem ruleF_upto (rule : Int) : FUpTo (ruleF rule) := by unfold ruleF; split; exact turn_upto; exact share_upto
theorem ruleF_at {rule : Int} (h : rule = 1 ∨ rule = 2) : ShareAt 40 rule (ruleF rule) := by
  rcases h with rfl | rfl
  · exact shareTime 40 (by omega)
  · exact shareShare

/-- What Clear of valid bids returns. -/
structure ClearRes (P : Int → Prop) (l : List Bd) (rule px v sr : Int) (fv : Value) (er : Int) (w w' : World) : Prop where
  no : er ≠ 0 → er = 30 ∧ px = 0 ∧ v = 0 ∧ sr = 0 ∧ fv = .slice none 0 0 ∧ ∃ x, P x ∧ volAt l x = 0
  yes : er = 0 → P px ∧ v = volAt l px ∧ 0 < v ∧ sr = surAt l px ∧ ∃ g F, FillAt (ruleF rule) l px v 2 F ∧ FillOk l px v F ∧ fv = .slice (some ⟨g, 0, none⟩) l.length l.length ∧ w.heap.size ≤ g ∧ RowI 2 .i64 w' g l.length F

theorem vol_le (l : List Bd) (x : Int) : volAt l x ≤ dem l x ∧ volAt l x ≤ sup l x := by unfold volAt; omega

theorem clear_res {P : Int → Prop} {l : List Bd} {price rule px v sr er : Int} {fv : Value} {w w' : World} (h : TradeRes (ruleF rule) P l price rule px v sr fv er w w') (h0 : checkT l = 0) (hp : 1 ≤ price ∧ price ≤ 1000000) (hr : rule = 1 ∨ rule = 2) : ClearRes P l rule px v sr fv er w w' := by
  have hg : (inB 1000000 price && (decide (rule = 1) || decide (rule = 2))) = true := by
    rw [inB_iff.2 hp, Bool.true_and, Bool.or_eq_true, decide_eq_true_eq, decide_eq_true_eq]
    exact hr
  obtain ⟨x, hP, hh⟩ := h.fine h0 hg
  have hok := (check_zero.1 h0).2
  rcases hh with ⟨a1, a2, a3, a4, a5, a6⟩ | ⟨a1, a2, a3, a4, a5, g, F, hF, hfv, hgs, hrow⟩
  · exact ⟨fun _ => ⟨a6, a2, a3, a4, a5, x, hP, a1⟩, fun hz => by omega⟩
  · refine ⟨fun hz => absurd a5 hz, fun _ => ?_⟩
    subst a2
    subst a3
    have hv := vol_le l px
    exact ⟨hP, rfl, a1, a4, g, F, hF, fill_ok (ruleF_share rule) (ruleF_upto rule) hok hF (by omega) hv.1 hv.2, hfv, hgs, hrow⟩

def ClearGot (P : Int → Prop) (l : List Bd) (rule : Int) (w : World) (e : Ending) (w' : World) : Prop :=
  ∃ px v sr fv er, ClearRes P l rule px v sr fv er w w' ∧ e = .returned (.tuple #[.agg #[.int .i64 px, .int .i64 v, .int .i64 sr, fv], .int .i64 er]) ∧ Adds w w'

theorem Clear_tame (p : Option Addr) (cap : Nat) (l : List Bd) (price rule : Int) (w : World) (hm : l.length ≤ 40) (hok : ∀ b ∈ l, okB b = true) (hp : 1 ≤ price ∧ price ≤ 1000000) (hr : rule = 1 ∨ rule = 2) (hL : At3 w p l) :
    Calls Try.prog 22 #[.slice p l.length cap, .int .i64 price, .int .i64 rule] w (ClearGot (PriceAt l price) l rule w) := by
  have h0 : checkT l = 0 := check_zero.2 ⟨by omega, hok⟩
  refine (Clear_any 40 stable40 (ruleF rule) price rule l (fun _ h => ruleF_at h) (ruleF_share rule) p cap w (by unfold maxLen; omega) (fun _ => hm) hL).mono ?_
  rintro e w' ⟨px, v, sr, fv, er, hres, he, hb⟩
  exact ⟨px, v, sr, fv, er, clear_res hres h0 hp hr, he, hb⟩

theorem ClearAt_tame (p : Option Addr) (cap : Nat) (l : List Bd) (price rule : Int) (w : World) (hm : l.length ≤ 40) (hok : ∀ b ∈ l, okB b = true) (hp : 1 ≤ price ∧ price ≤ 1000000) (hr : rule = 1 ∨ rule = 2) (hL : At3 w p l) :
    Calls Try.prog 23 #[.slice p l.length cap, .int .i64 price, .int .i64 rule] w (ClearGot (fun x => x = price) l rule w) := by
  have h0 : checkT l = 0 := check_zero.2 ⟨by omega, hok⟩
  refine (ClearAt_any 40 stable40 (ruleF rule) price rule l (fun _ h => ruleF_at h) (ruleF_share rule) p cap w (by unfold maxLen; omega) (fun _ => hm) hL).mono ?_
  rintro e w' ⟨px, v, sr, fv, er, hres, he, hb⟩
  exact ⟨px, v, sr, fv, er, clear_res hres h0 hp hr, he, hb⟩

end Go.Proofs.Ytigpghmbeldakaa
