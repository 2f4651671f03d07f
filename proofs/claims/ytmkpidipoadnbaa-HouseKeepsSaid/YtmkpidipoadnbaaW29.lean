/- monthlyOf: a list as a row of twelve. -/
import Derived.Test.YtmkpidipoadnbaaW28
import Derived.Laws.CopyRow
import Derived.Laws.IdiomCopy
import Derived.Laws.CopyOwn
namespace Go.Proofs.Ytmkpidipoadnbaa
open Go Go.RowKit Go.Sort

/-- A configuration. -/
structure Cfg where
  members : Int
  months : Int
  prices : List Int
  moves : List (List Int)
  rate : Int
  cap : Int
def cfgCells (c : Cfg) (pp : Option Addr) (cp : Nat) (mp : Option Addr) (cm : Nat) : Array Value := #[.int .i64 c.members, .int .i64 c.months, .slice pp c.prices.length cp, .slice mp c.moves.length cm, .int .i64 c.rate, .int .i64 c.cap]
/-- Rows of numbers, somewhere. -/
def MovesAt (w : World) (mp : Option Addr) (moves : List (List Int)) : Prop :=
  ∃ sl : List (Option Addr × Nat), sl.length = moves.length ∧ CellsAt w mp (List.zipWith (fun s m => Value.slice s.1 (List.length m) s.2) sl moves) ∧ ∀ (i : Nat) (s : Option Addr × Nat) (m : List Int), sl[i]? = some s → moves[i]? = some m → CellsAt w (Prod.fst s) (List.map (Value.int .i64) m)
theorem MovesAt.later {w w' : World} {mp : Option Addr} {moves : List (List Int)} (h : MovesAt w mp moves) (ha : Adds w w') : MovesAt w' mp moves := by
  obtain ⟨sl, h1, h2, h3⟩ := h
  exact ⟨sl, h1, h2.later ha, fun i s m a b => (h3 i s m a b).later ha⟩
theorem MovesAt.get {w : World} {mp : Option Addr} {moves : List (List Int)} (h : MovesAt w mp moves) {i : Nat} {m : List Int} (hi : moves[i]? = some m) : ∃ g o p c, mp = some ⟨g, o, none⟩ ∧ w.cell? ⟨g, o + i, none⟩ = some (.slice p m.length c) ∧ CellsAt w p (m.map (Value.int .i64)) := by
  obtain ⟨sl, h1, h2, h3⟩ := h
  have hl := (List.getElem?_eq_some_iff.1 hi).1
  obtain ⟨s, hs⟩ : ∃ s, sl[i]? = some s := ⟨_, List.getElem?_eq_getElem (by omega)⟩
  obtain ⟨g, o, e, hc⟩ := h2 i (.slice s.1 m.length s.2) (by rw [List.getElem?_zipWith, hs, hi])
  exact ⟨g, o, s.1, s.2, e, hc, h3 i s m hs hi⟩
def lenIs (c : Cfg) (m : List Int) : Bool := (m.length : Int) == c.months
/-- What is wrong with a configuration. -/
def cfgE (c : Cfg) : Int :=
  if (inB c.members 2 64 && inB c.months 1 12 && inB c.rate 0 1000 && inB c.cap 0 1000000000000) = false then 1
  else if ((c.prices.length : Int) != c.months || decide (64 < c.moves.length)) = true then 7
  else if c.moves.all (lenIs c) = false then 7
  else if allIn c.prices 1 1000000 = false then 1
  else if (c.moves.all fun m => allIn m (-1000000) 1000000) = false then 1
  else 0
theorem all_next {α : Type} {p : α → Bool} {l : List α} {k : Nat} {x : α} (h : l[k]? = some x) : (l.take (k + 1)).all p = ((l.take k).all p && p x) := by
  obtain ⟨h1, e1⟩ := List.getElem?_eq_some_iff.1 h
  rw [List.take_succ_eq_append_getElem h1, e1, List.all_append]
  simp
theorem all_bad {α : Type} {p : α → Bool} {l : List α} {k : Nat} {x : α} (h : l[k]? = some x) (hb : p x = false) : l.all p = false := by
  rw [List.all_eq_false]
  exact ⟨x, List.mem_of_getElem? h, by simp [hb]⟩

set_option maxRecDepth 100000 in
set_option maxHeartbeats 4000000 in
theorem checkConfig_any (c : Cfg) (pp : Option Addr) (cp : Nat) (mp : Option Addr) (cm : Nat) (w : World) (hP : CellsAt w pp (c.prices.map (Value.int .i64))) (hM : MovesAt w mp c.moves) (hlp : c.prices.length ≤ 1000000) (hlm : c.moves.length ≤ 1000000) (hlr : ∀ m ∈ c.moves, m.length ≤ 1000000) :
    Calls Try.prog 18 #[.agg (cfgCells c pp cp mp cm)] w fun e w' => e = .returned (.int .i64 (cfgE c)) ∧ Adds w w' := by
  have HW := Lib.hid (fun x a b W => within_any x a b W)
  have HP := Lib.hid hP
  have HM := Lib.hid hM
  obtain ⟨members, months, prices, moves, rate, cap⟩ := c
  have HBX : Hid (∀ W, Adds (w.alloc (.cells (cfgCells ⟨members, months, prices, moves, rate, cap⟩ pp cp mp cm) 32)) W → Box W w.heap.size (cfgCells ⟨members, months, prices, moves, rate, cap⟩ pp cp mp cm) 32) := Lib.hid (fun W hW => (box_new rfl).later hW)
  have HA : Hid (Adds (w.alloc (.cells (cfgCells ⟨members, months, prices, moves, rate, cap⟩ pp cp mp cm) 32)) (w.alloc (.cells (cfgCells ⟨members, months, prices, moves, rate, cap⟩ pp cp mp cm) 32))) := Lib.hid (Adds.refl _)
  have HA0 : Hid (Adds w (w.alloc (.cells (cfgCells ⟨members, months, prices, moves, rate, cap⟩ pp cp mp cm) 32))) := Lib.hid ((Adds.refl w).alloc _)
  unfold cfgCells at *
  dsimp only at *
  clear hP hM
  cases b1 : inB members 2 64
  case false =>
    have HE : Hid (cfgE ⟨members, months, prices, moves, rate, cap⟩ = 1) := Lib.hid (by unfold cfgE; simp [b1])
    go_enter Try.func18, Try.ntmps18
    go_wp2_with (go_at_call 35; refine (HW.out _ _ _ _).mono ?_; rintro e w1 ⟨rfl, ha⟩; replace HA := Lib.hid (HA.out.trans ha); have bx := HBX.out w1 HA.out; have e0 := bx.cell 0; have e1 := bx.cell 1; have e2 := bx.cell 2; have e3 := bx.cell 3; have e4 := bx.cell 4; have e5 := bx.cell 5; clear ha bx; first | rw [b1])
    go_ret
    exact ⟨ret_int HE.out.symm, HA0.out.trans HA.out⟩
  cases b2 : inB months 1 12
  case false =>
    have HE : Hid (cfgE ⟨members, months, prices, moves, rate, cap⟩ = 1) := Lib.hid (by unfold cfgE; simp [b1, b2])
    go_enter Try.func18, Try.ntmps18
    go_wp2_with (go_at_call 35; refine (HW.out _ _ _ _).mono ?_; rintro e w1 ⟨rfl, ha⟩; replace HA := Lib.hid (HA.out.trans ha); have bx := HBX.out w1 HA.out; have e0 := bx.cell 0; have e1 := bx.cell 1; have e2 := bx.cell 2; have e3 := bx.cell 3; have e4 := bx.cell 4; have e5 := bx.cell 5; clear ha bx; first | rw [b1] | rw [b2])
    go_ret
    exact ⟨ret_int HE.out.symm, HA0.out.trans HA.out⟩
  cases b3 : inB rate 0 1000
  case false =>
    have HE : Hid (cfgE ⟨members, months, prices, moves, rate, cap⟩ = 1) := Lib.hid (by unfold cfgE; simp [b1, b2, b3])
    go_enter Try.func18, Try.ntmps18
    go_wp2_with (go_at_call 35; refine (HW.out _ _ _ _).mono ?_; rintro e w1 ⟨rfl, ha⟩; replace HA := Lib.hid (HA.out.trans ha); have bx := HBX.out w1 HA.out; have e0 := bx.cell 0; have e1 := bx.cell 1; have e2 := bx.cell 2; have e3 := bx.cell 3; have e4 := bx.cell 4; have e5 := bx.cell 5; clear ha bx; first | rw [b1] | rw [b2] | rw [b3])
    go_ret
    exact ⟨ret_int HE.out.symm, HA0.out.trans HA.out⟩
  cases b4 : inB cap 0 1000000000000
  case false =>
    have HE : Hid (cfgE ⟨members, months, prices, moves, rate, cap⟩ = 1) := Lib.hid (by unfold cfgE; simp [b1, b2, b3, b4])
    go_enter Try.func18, Try.ntmps18
    go_wp2_with (go_at_call 35; refine (HW.out _ _ _ _).mono ?_; rintro e w1 ⟨rfl, ha⟩; replace HA := Lib.hid (HA.out.trans ha); have bx := HBX.out w1 HA.out; have e0 := bx.cell 0; have e1 := bx.cell 1; have e2 := bx.cell 2; have e3 := bx.cell 3; have e4 := bx.cell 4; have e5 := bx.cell 5; clear ha bx; first | rw [b1] | rw [b2] | rw [b3] | rw [b4])
    go_ret
    exact ⟨ret_int HE.out.symm, HA0.out.trans HA.out⟩
  obtain ⟨n, hn⟩ : ∃ n, n = prices.length := ⟨_, rfl⟩
  obtain ⟨nm, hnm⟩ : ∃ n, n = moves.length := ⟨_, rfl⟩
  have HN := Lib.hid hn
  have HNM := Lib.hid hnm
  have hB4 : (inB members 2 64 && inB months 1 12 && inB rate 0 1000 && inB cap 0 1000000000000) = true := by rw [b1, b2, b3, b4]; rfl
  have HB4 := Lib.hid hB4
  simp only [← hn, ← hnm] at HBX HA HA0 hlp hlm ⊢
  clear hn hnm hB4
  cases b5 : ((n : Int) == months)
  case false =>
    have HE : Hid (cfgE ⟨members, months, prices, moves, rate, cap⟩ = 7) := Lib.hid (by unfold cfgE; dsimp only; rw [HB4.out, ← HN.out]; simp only [bne, b5]; rfl)
    have b5n : ((n : Int) != months) = true := by simp only [bne, b5]; rfl
    go_enter Try.func18, Try.ntmps18
    go_wp2_with (go_at_call 35; refine (HW.out _ _ _ _).mono ?_; rintro e w1 ⟨rfl, ha⟩; replace HA := Lib.hid (HA.out.trans ha); have bx := HBX.out w1 HA.out; have e0 := bx.cell 0; have e1 := bx.cell 1; have e2 := bx.cell 2; have e3 := bx.cell 3; have e4 := bx.cell 4; have e5 := bx.cell 5; clear ha bx; first | rw [b1] | rw [b2] | rw [b3] | rw [b4])
    go_ret
    exact ⟨ret_int HE.out.symm, HA0.out.trans HA.out⟩
  have hmo : months = (n : Int) := (beq_iff_eq.1 b5).symm
  subst hmo
  clear b5
  cases b6 : decide (64 < nm)
  case false =>
    have hle : nm ≤ 64 := by simp at b6; omega
    have hd : decide ((64 : Int) < (nm : Int)) = false := by simp; omega
    have HR : Hid (∀ m ∈ moves, m.length ≤ 1000000) := Lib.hid hlr
    have HAW := Lib.hid (fun (l : List Int) q c (W : World) (hL : CellsAt W q (l.map (Value.int .i64))) (hl : l.length ≤ 1000000) a b => areWithin_any q c l a b W hL hl)
    have HPW : Hid (∀ W, Adds w W → Calls Try.prog 36 #[.slice pp n cp, .int .i64 1, .int .i64 1000000] W fun e w' => e = .returned (.bool (allIn prices 1 1000000)) ∧ Adds W w') := Lib.hid (fun W hW => by rw [HN.out]; exact areWithin_any pp cp prices 1 1000000 W (HP.out.later hW) (by rw [← HN.out]; exact hlp))
    have HE0 : Hid (cfgE ⟨members, (n : Int), prices, moves, rate, cap⟩ = if moves.all (lenIs ⟨members, (n : Int), prices, moves, rate, cap⟩) = false then 7 else if allIn prices 1 1000000 = false then 1 else if (moves.all fun m => allIn m (-1000000) 1000000) = false then 1 else 0) := Lib.hid (by unfold cfgE; dsimp only; rw [HB4.out, ← HN.out, ← HNM.out, b6]; simp)
    go_enter Try.func18, Try.ntmps18
    go_upto_region 5 with (go_at_call 35; refine (HW.out _ _ _ _).mono ?_; rintro e w1 ⟨rfl, ha⟩; replace HA := Lib.hid (HA.out.trans ha); have bx := HBX.out w1 HA.out; have e0 := bx.cell 0; have e1 := bx.cell 1; have e2 := bx.cell 2; have e3 := bx.cell 3; have e4 := bx.cell 4; have e5 := bx.cell 5; clear ha bx; first | rw [b1] | rw [b2] | rw [b3] | rw [b4])
    go_upto_region 6 with fail
    clear b1 b2 b3 b4 b6 hd e0 e1 e2 e3 e4 e5 hlr
    go_loopw [44] (fun v44 wr => ∃ k : Nat, k ≤ nm ∧ v44 = .int .i64 k ∧ Hid ((moves.take k).all (lenIs ⟨members, (n : Int), prices, moves, rate, cap⟩) = true) ∧ Hid (Adds (w.alloc (.cells #[.int .i64 members, .int .i64 (n : Int), .slice pp n cp, .slice mp nm cm, .int .i64 rate, .int .i64 cap] 32)) wr)) (fun v44 _ => nm - (intOf v44).toNat)
    case atStart => exact ⟨0, by omega, rfl, Lib.hid rfl, HA⟩
    case round =>
      obtain ⟨k, hk, rfl, RT, RA⟩ := hrel
      clear HA
      have HAW0 := Lib.hid (HA0.out.trans RA.out)
      by_cases hlt : k < nm
      · have hlt2 : (k : Int) < (nm : Int) := by omega
        have hk0 : (0 : Int) ≤ (k : Int) := by omega
        obtain ⟨m, hm⟩ : ∃ m, moves[k]? = some m := ⟨_, List.getElem?_eq_getElem (by have := HNM.out; omega)⟩
        obtain ⟨g, o, q, c, rfl, hc, hcl⟩ := (HM.out.later HAW0.out).get hm
        have HX := Lib.hid hm
        have r1 := (HBX.out wr RA.out).cell 1
        obtain ⟨ml, hml⟩ : ∃ l, l = m.length := ⟨_, rfl⟩
        rw [← hml] at hc
        have HML := Lib.hid hml
        clear hm hml
        cases hq : ((ml : Int) == (n : Int))
        · have hq2 : ((ml : Int) != (n : Int)) = true := by simp only [bne, hq]; rfl
          have hqn : (ml == n) = false := by rw [beq_eq_false_iff_ne] at hq ⊢; omega
          have hqn2 : (ml != n) = true := by simp only [bne, hqn]; rfl
          have HBAD : Hid (lenIs ⟨members, (n : Int), prices, moves, rate, cap⟩ m = false) := Lib.hid (by unfold lenIs; rw [← HML.out]; exact hq)
          go_wp2
          go_ret
          exact ⟨ret_int (by rw [HE0.out, if_pos (all_bad HX.out HBAD.out)]), HAW0.out⟩
        · have hmln : ml = n := by have := beq_iff_eq.1 hq; omega
          subst hmln
          have HGOOD : Hid (lenIs ⟨members, (ml : Int), prices, moves, rate, cap⟩ m = true) := Lib.hid (by unfold lenIs; rw [← HML.out]; exact hq)
          clear hq
          go_wp2
          exact ⟨⟨k + 1, by omega, by go_num, Lib.hid (by rw [all_next HX.out, RT.out, HGOOD.out]; rfl), RA⟩, by simp [intOf]; omega⟩
      · have hkn : k = nm := by omega
        subst hkn
        have HALL : Hid (moves.all (lenIs ⟨members, (n : Int), prices, moves, rate, cap⟩) = true) := Lib.hid (by rw [← RT.out, HNM.out, List.take_length])
        have hdq : decide ((k : Int) < (k : Int)) = false := decide_eq_false (by omega)
        have r2 := (HBX.out wr RA.out).cell 2
        have HPC := Lib.hid (HPW.out wr HAW0.out)
        cases hal : allIn prices 1 1000000
        · rw [hal] at HPC
          have HAL := Lib.hid hal
          clear hal
          go_wp2_with (go_at_call 36; refine HPC.out.mono ?_; rintro e w2 ⟨rfl, ha⟩; have HA2 := Lib.hid ha; clear ha)
          go_ret
          exact ⟨ret_int (by rw [HE0.out, HALL.out, HAL.out]; rfl), HAW0.out.trans HA2.out⟩
        · rw [hal] at HPC
          have HAL := Lib.hid hal
          clear hal
          go_upto_region 13 with (go_at_call 36; refine HPC.out.mono ?_; rintro e w2 ⟨rfl, ha⟩; have HA2 := Lib.hid ha; clear ha)
          have r3 := (HBX.out w2 (RA.out.trans HA2.out)).cell 3
          have HA : Hid (Adds (w.alloc (.cells #[.int .i64 members, .int .i64 (n : Int), .slice pp n cp, .slice mp k cm, .int .i64 rate, .int .i64 cap] 32)) w2) := Lib.hid (RA.out.trans HA2.out)
          go_upto_region 14 with fail
          clear r2 r3 hdq hlt hk RA HA2 HAW0 HPC RT
          go_loopw [61] (fun v61 wr => ∃ j : Nat, j ≤ k ∧ v61 = .int .i64 j ∧ Hid (((moves.take j).all fun m => allIn m (-1000000) 1000000) = true) ∧ Hid (Adds (w.alloc (.cells #[.int .i64 members, .int .i64 (n : Int), .slice pp n cp, .slice mp k cm, .int .i64 rate, .int .i64 cap] 32)) wr)) (fun v61 _ => k - (intOf v61).toNat)
          case atStart => exact ⟨0, by omega, rfl, Lib.hid rfl, HA⟩
          case round =>
            obtain ⟨j, hj, rfl, RT, RA⟩ := hrel
            clear HA
            have HAW0 := Lib.hid (HA0.out.trans RA.out)
            by_cases hlt : j < k
            · have hlt2 : (j : Int) < (k : Int) := by omega
              have hk0 : (0 : Int) ≤ (j : Int) := by omega
              obtain ⟨m, hm⟩ : ∃ m, moves[j]? = some m := ⟨_, List.getElem?_eq_getElem (by have := HNM.out; omega)⟩
              obtain ⟨g, o, q, c, rfl, hc, hcl⟩ := (HM.out.later HAW0.out).get hm
              have HX := Lib.hid hm
              have HCW := Lib.hid (HAW.out m q c wr hcl (HR.out m (List.mem_of_getElem? hm)) (-1000000) 1000000)
              obtain ⟨ml, hml⟩ : ∃ l, l = m.length := ⟨_, rfl⟩
              rw [← hml] at hc HCW
              clear hm hml hcl
              cases hal : allIn m (-1000000) 1000000
              · rw [hal] at HCW
                have HB := Lib.hid hal
                clear hal
                go_wp2_with (go_at_call 36; refine HCW.out.mono ?_; rintro e w3 ⟨rfl, ha⟩; have HA3 := Lib.hid ha; clear ha)
                go_ret
                exact ⟨ret_int (by rw [HE0.out, HALL.out, HAL.out, all_bad HX.out HB.out]; rfl), HAW0.out.trans HA3.out⟩
              · rw [hal] at HCW
                have HB := Lib.hid hal
                clear hal
                go_wp2_with (go_at_call 36; refine HCW.out.mono ?_; rintro e w3 ⟨rfl, ha⟩; have HA3 := Lib.hid ha; clear ha)
                exact ⟨⟨j + 1, by omega, by go_num, Lib.hid (by rw [all_next HX.out, RT.out, HB.out]; rfl), Lib.hid (RA.out.trans HA3.out)⟩, by simp [intOf]; omega⟩
            · have hjk : j = k := by omega
              subst hjk
              have HALM : Hid ((moves.all fun m => allIn m (-1000000) 1000000) = true) := Lib.hid (by rw [← RT.out, HNM.out, List.take_length])
              have hdq : decide ((j : Int) < (j : Int)) = false := decide_eq_false (by omega)
              go_wp2
              go_ret
              exact ⟨ret_int (by rw [HE0.out, HALL.out, HAL.out, HALM.out]; rfl), HAW0.out⟩
  case true =>
    have HE : Hid (cfgE ⟨members, (n : Int), prices, moves, rate, cap⟩ = 7) := Lib.hid (by unfold cfgE; dsimp only; rw [HB4.out, ← HNM.out, b6, Bool.or_true]; rfl)
    have hd : decide ((64 : Int) < (nm : Int)) = true := by simp at b6 ⊢; omega
    go_enter Try.func18, Try.ntmps18
    go_wp2_with (go_at_call 35; refine (HW.out _ _ _ _).mono ?_; rintro e w1 ⟨rfl, ha⟩; replace HA := Lib.hid (HA.out.trans ha); have bx := HBX.out w1 HA.out; have e0 := bx.cell 0; have e1 := bx.cell 1; have e2 := bx.cell 2; have e3 := bx.cell 3; have e4 := bx.cell 4; have e5 := bx.cell 5; clear ha bx; first | rw [b1] | rw [b2] | rw [b3] | rw [b4])
    go_ret
    exact ⟨ret_int HE.out.symm, HA0.out.trans HA.out⟩

end Go.Proofs.Ytmkpidipoadnbaa

namespace Go.Proofs.Ytmkpidipoadnbaa
open Go Go.RowKit Go.Sort

/-- A list with noughts behind it. -/
def padM (l : List Int) : List Int := l.take 12 ++ List.replicate (12 - l.length) 0
theorem padM_len (l : List Int) : (padM l).length = 12 := by unfold padM; simp; omega
theorem padM_map {l : List Int} (h : l.length ≤ 12) : (padM l).map (Value.int .i64) = l.map (Value.int .i64) ++ List.replicate (12 - l.length) (.int .i64 0) := by
  unfold padM
  rw [List.map_append, List.map_replicate, List.take_of_length_le h]
def zero12 : Array Value := #[.int .i64 0, .int .i64 0, .int .i64 0, .int .i64 0, .int .i64 0, .int .i64 0, .int .i64 0, .int .i64 0, .int .i64 0, .int .i64 0, .int .i64 0, .int .i64 0]
theorem info_i64 : (Try.prog.info? 2).map (·.size) = some 1 := by kernel_rfl
theorem pad_row {l : List Int} (h : l.length ≤ 12) : (zero12.toList.take 0 ++ l.map (Value.int .i64) ++ zero12.toList.drop (0 + (l.map (Value.int .i64)).length)).toArray = ((padM l).map (Value.int .i64)).toArray := by
  rw [padM_map h, List.length_map]
  congr 1
  have : zero12.toList.drop (0 + l.length) = List.replicate (12 - l.length) (.int .i64 0) := by
    rw [show zero12.toList = List.replicate 12 (.int .i64 0) from rfl, List.drop_replicate]
    congr 1
    omega
  rw [this]
  rfl
/-- What copy does to a row of noughts. -/
theorem copy12 (W : World) (s : Nat) (pp : Option Addr) (c : Nat) (l : List Int) (hb : Box W s zero12 61) (hL : CellsAt W pp (l.map (Value.int .i64))) (hl : l.length ≤ 12) :
    ∃ k W', (Builtin.copy_ #[22, 22] 3 #[.slice (some ⟨s, 0, none⟩) 12 12, .slice pp l.length c]).run Try.prog W = .ok (goInt k) W' ∧ Box W' s ((padM l).map (Value.int .i64)).toArray 61 ∧ (∀ j, j ≠ s → W'.heap[j]? = W.heap[j]?) ∧ (∀ w, Adds w W → w.heap.size ≤ s → Adds w W') ∧ W'.heap.size = W.heap.size := by
  by_cases h0 : l.length = 0
  · have hl0 : l = [] := List.eq_nil_of_length_eq_zero h0
    subst hl0
    refine ⟨0, W, run_copy_none W _ _ _ 2 _ _ _ _ _ _ Try.underlying22 info_i64 rfl, hb, fun _ _ => rfl, fun _ h _ => h, rfl⟩
  · obtain ⟨v, hv⟩ : ∃ v, l[0]? = some v := ⟨_, List.getElem?_eq_getElem (by omega)⟩
    obtain ⟨g, o, e, _⟩ := hL 0 (.int .i64 v) (by rw [List.getElem?_map, hv]; rfl)
    subst e
    have hm : l.length = Nat.min l.length 12 := (Nat.min_eq_left hl).symm
    have hr := run_copy_row (P := Try.prog) W 22 22 3 2 s 0 12 12 ⟨g, o, none⟩ l.length c zero12 61 (l.map (Value.int .i64)) Try.underlying22 info_i64 hb (by rw [List.length_map]; exact hm) (fun j u hj => by
      obtain ⟨g2, o2, e2, hc2⟩ := hL j u hj
      injection e2 with e2
      injection e2 with e2 e3 e4
      subst e2 e3
      by_cases hj0 : j = 0
      · subst hj0; exact hc2
      · simp only [Addr.add, if_neg hj0]; exact hc2) (by rw [List.length_map]; show 0 + l.length ≤ 12; omega) (ints_one l)
    rw [pad_row hl] at hr
    refine ⟨_, _, hr, ?_, fun j hj => setRow_other _ _ _ _ hj, fun w hA hs => below_setRow hA hs _, setRow_size _ _ _⟩
    exact setRow_heap W s zero12 _ 61 (0, 0) hb
set_option maxRecDepth 100000 in
theorem monthlyOf_any (pp : Option Addr) (c : Nat) (l : List Int) (w : World) (hL : CellsAt w pp (l.map (Value.int .i64))) (hl : l.length ≤ 12) :
    Calls Try.prog 19 #[.slice pp l.length c] w fun e w' => e = .returned (monthV (padM l)) ∧ Adds w w' := by
  obtain ⟨s, hs⟩ : ∃ s, s = w.heap.size := ⟨_, rfl⟩
  have b0 : Box (w.alloc (.cells zero12 61)) s zero12 61 := box_new hs
  have z0 : (w.alloc (.cells zero12 61)).heap.size = s + 1 := by rw [World.size_alloc, hs]
  have b1 : Box ((w.alloc (.cells zero12 61)).alloc (.cells zero12 61)) s zero12 61 := b0.alloc _
  have c1 : Box ((w.alloc (.cells zero12 61)).alloc (.cells zero12 61)) (s + 1) zero12 61 := box_new z0.symm
  have hA : Adds w ((w.alloc (.cells zero12 61)).alloc (.cells zero12 61)) := ((Adds.refl w).alloc _).alloc _
  obtain ⟨k, W', hcp, b2, hsame, hadd, hsz⟩ := copy12 _ (s + 1) pp c l c1 (hL.later hA) hl
  have B1 : Hid (Box W' s zero12 61) := Lib.hid (b1.same (hsame s (by omega)))
  have B2 := Lib.hid b2
  have HA := Lib.hid (hadd w hA (by omega))
  have HPL := Lib.hid (padM_len l)
  have HS : Hid (s = w.heap.size) := Lib.hid hs
  obtain ⟨n, hn⟩ : ∃ n, n = l.length := ⟨_, rfl⟩
  rw [← hn] at hcp ⊢
  obtain ⟨pl, hpl⟩ : ∃ p, p = padM l := ⟨_, rfl⟩
  rw [← hpl] at B2 HPL ⊢
  clear b0 z0 b1 c1 hA hsame hadd hsz b2 hL hl hn hpl hs
  unfold zero12 at hcp
  go_enter Try.func19, Try.ntmps19
  go_upto_region 2 with fail
  simp only [← HS.out]
  go_upto_region 3 with fail
  go_wp2_with (first
    | (refine wpList_load_row rfl 61 _ rfl (s + 1) rfl 61 (pl.map (Value.int .i64)).toArray (0, 0) _ B2.out Try.underlying61 rfl (by rw [info_month]; simp [HPL.out]) ?_)
    | (refine wpList_store_mid rfl 61 _ _ rfl s 0 (pl.map (Value.int .i64)).toArray rfl rfl (B1.out.there 0 _ (by simp [HPL.out, zero12])) (by rw [info_month]; simp [HPL.out]) (months_one _) ?_))
  have hbx := B1.out.setCells ((pl.map (Value.int .i64)).toArray).toList 0
  rw [putAt_whole _ _ (by simp [HPL.out, zero12])] at hbx
  exact post_row rfl rfl rfl rfl Try.underlying61 (by rw [info_month]; simp [HPL.out]) hbx ⟨rfl, Adds.setCells (b := s) (by have := HS.out; omega) _ 0 HA.out⟩

end Go.Proofs.Ytmkpidipoadnbaa
