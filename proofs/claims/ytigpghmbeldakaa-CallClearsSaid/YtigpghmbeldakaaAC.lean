/- Gain. -/
import Derived.Test.YtigpghmbeldakaaAB
namespace Go.Proofs.Ytigpghmbeldakaa
open Go.RowKit

/-- What a fill is worth. -/
def worthT (b : Bd) (x : Int) : Int := if b.1 = 2 then -(b.2.1 * x) else b.2.1 * x
/-- The gain of fills. -/
def gainT (l : List Bd) (F : List Int) : Int := ((l.zip F).map fun p => worthT p.1 p.2).sum
/-- A fill fits a bid. -/
def fitB (p : Bd × Int) : Bool := decide (0 ≤ p.2 ∧ p.2 ≤ p.1.2.2)
/-- What Gain says. -/
def gainR (l : List Bd) (F : List Int) : Int × Int :=
  if checkT l ≠ 0 then (0, checkT l) else if F.length = l.length ∧ (l.zip F).all fitB = true then (gainT l F, 0) else (0, 1)

def GainGot (l : List Bd) (F : List Int) (w : World) (e : Ending) (w' : World) : Prop :=
  e = .returned (.tuple #[.int .i64 (gainR l F).1, .int .i64 (gainR l F).2]) ∧ Adds w w'

theorem worth_bd {b : Bd} {x : Int} (hb : okB b = true) (hx : 0 ≤ x ∧ x ≤ b.2.2) : -1000000000000000 ≤ worthT b x ∧ worthT b x ≤ 1000000000000000 ∧ 0 ≤ b.2.1 * x ∧ b.2.1 * x ≤ 1000000000000000 := by
  have hv := okB_iff.1 hb
  have h1 : b.2.1 * x ≤ 1000000 * 1000000000 := Int.mul_le_mul hv.2.1.2 (by omega) hx.1 (by omega)
  have h0 : 0 ≤ b.2.1 * x := Int.mul_nonneg (by omega) hx.1
  unfold worthT
  split <;> omega

theorem gain_bd : ∀ (ps : List (Bd × Int)), (∀ p ∈ ps, okB p.1 = true ∧ 0 ≤ p.2 ∧ p.2 ≤ p.1.2.2) → -(ps.length : Int) * 1000000000000000 ≤ (ps.map fun p => worthT p.1 p.2).sum ∧ (ps.map fun p => worthT p.1 p.2).sum ≤ (ps.length : Int) * 1000000000000000
  | [], _ => by simp
  | p :: ps, h => by
    have h1 := h p (by simp)
    have h2 := gain_bd ps (fun x hx => h x (by simp [hx]))
    have h3 := worth_bd h1.1 h1.2
    simp only [List.map_cons, List.sum_cons, List.length_cons, Int.natCast_add, Int.natCast_one]
    constructor <;> omega

set_option maxRecDepth 100000 in
set_option maxHeartbeats 4000000 in
theorem Gain_any (p : Option Addr) (cap : Nat) (l : List Bd) (q : Option Addr) (cap2 : Nat) (F : List Int) (w : World) (hN : l.length ≤ maxLen) (hFN : F.length ≤ maxLen) (hL : At3 w p l) (hF : At1 .i64 w q F) :
    Calls Try.prog 24 #[.slice p l.length cap, .slice q F.length cap2] w (GainGot l F w) := by
  have hck := Check_any p cap l w hN hL
  have HL := Lib.hid hL
  have HF := Lib.hid hF
  unfold maxLen at hN hFN
  by_cases h0 : checkT l = 0
  · obtain ⟨c1, c2⟩ := check_zero.1 h0
    have HO := Lib.hid c2
    have HC1 := Lib.hid c1
    have H0 := Lib.hid h0
    rw [h0] at hck
    by_cases hlen : F.length = l.length
    · obtain ⟨N, hNl⟩ : ∃ N, N = l.length := ⟨_, rfl⟩
      have hFl : F.length = N := by omega
      rw [hFl, ← hNl]
      rw [← hNl] at hck
      have hN4 : N ≤ 4096 := by omega
      have HN := Lib.hid hNl
      have HFL := Lib.hid hFl
      have HZL : Hid ((l.zip F).length = N) := Lib.hid (by rw [List.length_zip]; omega)
      clear hL hF hN hFN c1 c2 h0 hlen hNl hFl
      go_enter Try.func24, Try.ntmps24
      go_wp2_with (go_at_call 17; refine hck.mono ?_; rintro e w1 ⟨rfl, hb1⟩)
      have HB1 := Lib.hid hb1
      clear hb1
      go_loopw [7, 23] (fun g i wr => ∃ k : Nat, k ≤ N ∧ i = .int .i64 k ∧ g = .int .i64 (((l.zip F).take k).map fun p => worthT p.1 p.2).sum ∧ Hid (((l.zip F).take k).all fitB = true) ∧ Adds w wr) (fun _ i _ => N - (intOf i).toNat)
      case atStart => exact ⟨0, by omega, rfl, by simp, Lib.hid (by simp), HB1.out⟩
      case round =>
        obtain ⟨k, hk, rfl, rfl, hall, hb⟩ := hrel
        by_cases hlt : k < N
        · obtain ⟨⟨s, pp, qq⟩, hb3⟩ : ∃ t, l[k]? = some t := ⟨_, List.getElem?_eq_getElem (by have := HN.out; omega)⟩
          obtain ⟨x, hb4⟩ : ∃ t, F[k]? = some t := ⟨_, List.getElem?_eq_getElem (by have := HFL.out; omega)⟩
          obtain ⟨gg, off, rfl, d0, d1, d2⟩ := HL.out k _ hb3
          obtain ⟨g2, off2, rfl, e0⟩ := HF.out k _ hb4
          have c0 := keep_cell hb d0
          have c1 := keep_cell hb d1
          have c2 := keep_cell hb d2
          have cx := keep_cell hb e0
          have hgx := cell_lt cx
          have hzip : (l.zip F)[k]? = some ((s, pp, qq), x) := by rw [List.getElem?_zip_eq_some]; exact ⟨hb3, hb4⟩
          have hv := HO.out _ (List.mem_of_getElem? hb3)
          have HV := Lib.hid hv
          have hvv := okB_iff.1 hv
          have HTN := Lib.hid (take_next hzip)
          have HMZ := Lib.hid (List.mem_of_getElem? hzip)
          have hgb := gain_bd ((l.zip F).take k) (fun p hp => by
            have h1 := List.all_eq_true.1 hall.out p hp
            simp only [fitB, decide_eq_true_eq] at h1
            exact ⟨HO.out _ (List.of_mem_zip (List.mem_of_mem_take hp)).1, h1⟩)
          have hgl : ((l.zip F).take k).length ≤ 4096 := by have := List.length_take_le k (l.zip F); omega
          have HS : Hid ((((l.zip F).take (k + 1)).map fun p => worthT p.1 p.2).sum = (((l.zip F).take k).map fun p => worthT p.1 p.2).sum + worthT (s, pp, qq) x) := Lib.hid (by rw [HTN.out]; simp)
          generalize (((l.zip F).take k).map fun p => worthT p.1 p.2).sum = gs at *
          have g1 : -4096000000000000000 ≤ gs := by omega
          have g2' : gs ≤ 4096000000000000000 := by omega
          have X := Box.new wr #[.int .i64 s, .int .i64 pp, .int .i64 qq] 75
          simp only at c0 c1 c2 hvv
          have hklt : (k : Int) < (N : Int) := by omega
          have HB := Lib.hid hb
          clear d0 d1 d2 e0 hb3 hb4 hzip hv hgb hgl hb
          go_upto_region 10 with fail
          have bb : Hid (Adds w (wr.alloc (.cells #[.int .i64 s, .int .i64 pp, .int .i64 qq] 75))) := Lib.hid (HB.out.alloc _)
          by_cases hx0 : x < 0
          · have hd : decide (x < 0) = true := decide_eq_true hx0
            have HNF : Hid (gainR l F = (0, 1)) := Lib.hid (by
              unfold gainR
              rw [if_neg (by simpa using H0.out), if_neg]
              rintro ⟨_, ha⟩
              have := List.all_eq_true.1 ha _ HMZ.out
              simp only [fitB, decide_eq_true_eq] at this
              omega)
            go_quiet (fail)
            go_wp2
            go_ret2
            exact ⟨by rw [HNF.out]; rfl, bb.out.drewN _⟩
          · have hd : decide (x < 0) = false := decide_eq_false hx0
            by_cases hxq : qq < x
            · have hd2 : decide (qq < x) = true := decide_eq_true hxq
              have HNF : Hid (gainR l F = (0, 1)) := Lib.hid (by
                unfold gainR
                rw [if_neg (by simpa using H0.out), if_neg]
                rintro ⟨_, ha⟩
                have := List.all_eq_true.1 ha _ HMZ.out
                simp only [fitB, decide_eq_true_eq] at this
                omega)
              go_quiet (fail)
              go_wp2
              go_ret2
              exact ⟨by rw [HNF.out]; rfl, bb.out.drewN _⟩
            · have hd2 : decide (qq < x) = false := decide_eq_false hxq
              have hw := worth_bd (b := (s, pp, qq)) (x := x) HV.out ⟨by omega, by simp only; omega⟩
              have HW2 : Hid (worthT (s, pp, qq) x = if s = 2 then -(pp * x) else pp * x) := Lib.hid rfl
              have HFI : Hid (((l.zip F).take (k + 1)).all fitB = true) := Lib.hid (by
                rw [HTN.out, List.all_append, hall.out]
                simp [fitB]
                omega)
              obtain ⟨m, hm⟩ : ∃ m, m = pp * x := ⟨_, rfl⟩
              rw [← hm] at HW2
              simp only at hw
              rw [← hm] at hw
              obtain ⟨_, _, hw3, hw4⟩ := hw
              have hmul : IntKind.i64.wrap (pp * x) = m := by rw [← hm]; exact IntWalk.i64_in _ (by omega)
              clear hm
              go_quiet (fail)
              go_wp2_with fail
              go_quiet (fail)
              clear hmul
              rcases hvv.1 with rfl | rfl
              · go_wp2
                refine ⟨⟨k + 1, by omega, by go_num, by rw [HS.out, HW2.out, if_neg (by omega)], HFI, bb.out.drewN _⟩, by simp [intOf]; omega⟩
              · go_wp2
                refine ⟨⟨k + 1, by omega, by go_num, by rw [HS.out, HW2.out, if_pos rfl], HFI, bb.out.drewN _⟩, by simp [intOf]; omega⟩
        · have hkz : (l.zip F).take k = l.zip F := List.take_of_length_le (by rw [HZL.out]; omega)
          rw [hkz] at hall
          have HE : Hid (gainR l F = (gainT l F, 0)) := Lib.hid (by unfold gainR; rw [if_neg (by simpa using H0.out), if_pos ⟨by have := HN.out; have := HFL.out; omega, hall.out⟩])
          have HGT : Hid ((((l.zip F).take k).map fun p => worthT p.1 p.2).sum = gainT l F) := Lib.hid (by rw [hkz]; rfl)
          clear hkz
          go_wp2
          go_ret2
          exact ⟨by rw [HE.out, ← HGT.out]; rfl, hb⟩
    · have HE : Hid (gainR l F = (0, 1)) := Lib.hid (by unfold gainR; rw [if_neg (by simpa using h0), if_neg (fun h => hlen h.1)])
      have hne : ((F.length : Int) == (l.length : Int)) = false := beq_eq_false_iff_ne.2 (by omega)
      have hne2 : ((F.length : Int) != (l.length : Int)) = true := by simp [bne, hne]
      generalize F.length = M at *
      generalize l.length = N at *
      clear hL hF h0
      go_enter Try.func24, Try.ntmps24
      go_wp2_with (go_at_call 17; refine hck.mono ?_; rintro e w1 ⟨rfl, hb1⟩)
      go_ret2
      exact ⟨by rw [HE.out]; rfl, hb1⟩
  · have HE : Hid (gainR l F = (0, checkT l)) := Lib.hid (by unfold gainR; rw [if_pos h0])
    generalize checkT l = c at *
    have hc0 : (c == 0) = false := beq_eq_false_iff_ne.2 h0
    clear hL hF hN hFN
    go_enter Try.func24, Try.ntmps24
    go_wp2_with (go_at_call 17; refine hck.mono ?_; rintro e w1 ⟨rfl, hb1⟩)
    go_ret2
    exact ⟨by rw [HE.out]; rfl, hb1⟩

end Go.Proofs.Ytigpghmbeldakaa
