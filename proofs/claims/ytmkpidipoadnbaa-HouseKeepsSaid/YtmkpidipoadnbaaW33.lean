/- shares: the first part: the sum, the amount, the rows. -/
import Derived.Test.YtmkpidipoadnbaaW32
import Derived.BigRegion
import Derived.RegionTactic
import Derived.Deep.DeepCutAuto
namespace Go.Proofs.Ytmkpidipoadnbaa
open Go Go.RowKit Go.Sort

theorem info_u64 : (Try.prog.info? 67).map (fun i => (i.zero, i.size, i.bytes)) = some (some (.int .u64 0), 1, 8) := by kernel_rfl
/-- What shares returns. -/
def ShareGot (A : Int) (ws : List Int) (w : World) (e : Ending) (w' : World) : Prop := ∃ g', e = .returned (.slice (some ⟨g', 0, none⟩) ws.length ws.length) ∧ w.heap.size ≤ g' ∧ RowI 67 .u64 w' g' ws.length (shareU A ws) ∧ Adds w w'
/-- The rows of a sharing under way: the quotients, the remainders, the numbers. -/
structure Sharing (W w : World) (S t : Int) (ws : List Int) (bl br bo bx ba N k : Nat) : Prop where
  l : RowI 67 .u64 w bl N (Filled ((ws.take k).map fun x => t * x / S) N)
  r : RowD w W.heap.size br N (Filled ((ws.take k).map fun x => t * x % S) N)
  o : RowI 3 .i64 w bo N (Filled ((numsT k)) N)
  x : w.cell? ⟨bx, 0, none⟩ = some (.slice (some ⟨br, 0, none⟩) N N)
  s : Box w ba #[.int .i64 (hiW S), .int .u64 (loW S)] 89
  adds : Adds W w

set_option maxRecDepth 100000 in
set_option maxHeartbeats 4000000 in
theorem shares_any (A : Int) (p : Option Addr) (c : Nat) (ws : List Int) (w : World) (hL : CellsAt w p (ws.map (Value.int .u64))) (hn : ws.length ≤ 20) (hq : ∀ x ∈ ws, 0 ≤ x ∧ x ≤ 4611686018427387904) (hA0 : 0 ≤ A) (hA1 : A ≤ 9223372036854775807) :
    Calls Try.prog 63 #[.int .u64 A, .slice p ws.length c] w (ShareGot A ws w) := by
  obtain ⟨j0, hj, hj0, hj1, hj2⟩ := info_parts info_u64
  have HJ := Lib.hid hj
  have HJ0 := Lib.hid hj0
  have HJ1 := Lib.hid hj1
  have HJ2 := Lib.hid hj2
  have hS0 := sum_nonneg (fun x hx => (hq x hx).1)
  have hS1 := sum_bd (fun x hx => (hq x hx).2)
  have hT0 : ∀ k, 0 ≤ (ws.take k).sum ∧ (ws.take k).sum ≤ ws.sum := fun k => ⟨sum_nonneg (fun x hx => (hq x (List.mem_of_mem_take hx)).1), sum_take_le k (fun x hx => (hq x hx).1)⟩
  have HT0 := Lib.hid hT0
  unfold ShareGot
  obtain ⟨S, hS⟩ : ∃ S, S = ws.sum := ⟨_, rfl⟩
  have hsu : shareU A ws = shareT (min A S) ws := by unfold shareU; rw [hS]
  rw [hsu]
  rw [← hS] at hS0 hS1 HT0
  obtain ⟨N, hNl⟩ : ∃ N, N = ws.length := ⟨_, rfl⟩
  rw [← hNl] at hn hS1 ⊢
  have hS2 : S ≤ 92233720368547758080 := by omega
  have HSE := Lib.hid hS
  have HN := Lib.hid hNl
  have HL := Lib.hid hL
  have HQ := Lib.hid hq
  have HPL := Lib.hid (fun (k : Nat) (x : Int) (h0 : 0 ≤ x) (h1 : x ≤ 4611686018427387904) W => by
    have := plus_any (ws.take k).sum x W (by have := HT0.out k; unfold InW; omega) (by unfold InW; omega)
    unfold wideV at this
    rw [show hiW x = 0 by unfold hiW; omega, show loW x = x by unfold loW; omega] at this
    exact this)
  have HCM := Lib.hid (fun W => by
    have := compare_adds S A W
    unfold wideV at this
    rw [show hiW A = 0 by unfold hiW; omega, show loW A = A by unfold loW; omega] at this
    exact this)
  have hcmp := cmp_test S A
  obtain ⟨cc, hcc⟩ : ∃ cc, cc = cmpT S A := ⟨_, rfl⟩
  rw [← hcc] at HCM hcmp
  have HCT := Lib.hid hcmp
  clear hj hj0 hj1 hj2 hS hsu hNl hL hq hT0 hS1 hcc hcmp
  go_enter Try.func63, Try.ntmps63
  go_upto_region 2 with fail
  have k0 := Box.new w #[.int .i64 0, .int .u64 0] 89
  obtain ⟨W0, hW0⟩ : ∃ V, V = w.alloc (.cells #[.int .i64 0, .int .u64 0] 89) := ⟨_, rfl⟩
  have hA : Adds w W0 := by rw [hW0]; exact (Adds.refl w).alloc _
  rw [← hW0] at k0 ⊢
  obtain ⟨ba, hba⟩ : ∃ s, s = w.heap.size := ⟨_, rfl⟩
  rw [← hba] at k0 ⊢
  have HA := Lib.hid hA
  have K0 := Lib.hid k0
  have HBA := Lib.hid hba
  clear hW0 hba k0 hA
  go_upto_region 3 with fail
  go_loopw [19] (fun v19 wr => ∃ k : Nat, k ≤ N ∧ v19 = .int .i64 k ∧ Hid (Box wr ba #[.int .i64 (hiW (ws.take k).sum), .int .u64 (loW (ws.take k).sum)] 89) ∧ Hid (Adds w wr)) (fun v19 _ => N - (intOf v19).toNat)
  case atStart => exact ⟨0, by omega, rfl, K0, HA⟩
  case round =>
    obtain ⟨k, hk, rfl, HB, HAD⟩ := hrel
    by_cases hlt : k < N
    · have hlt2 : (k : Int) < (N : Int) := by omega
      have hk0 : (0 : Int) ≤ (k : Int) := by omega
      obtain ⟨x, hx⟩ : ∃ x, ws[k]? = some x := ⟨_, List.getElem?_eq_getElem (by have := HN.out; omega)⟩
      have hxb := HQ.out x (List.mem_of_getElem? hx)
      obtain ⟨g, off, rfl, d0⟩ := HL.out k (.int .u64 x) (by rw [List.getElem?_map, hx]; rfl)
      have c0 := keep_cell HAD.out d0
      have s0 := HB.out.cell 0
      have s1 := HB.out.cell 1
      simp at s0 s1
      have HP := Lib.hid (fun W => HPL.out k x hxb.1 hxb.2 W)
      have HNX : Hid ((ws.take (k + 1)).sum = (ws.take k).sum + x) := Lib.hid (by
        obtain ⟨h1, h2⟩ := List.getElem?_eq_some_iff.1 hx
        rw [List.take_succ_eq_append_getElem h1, h2, List.sum_append]
        simp)
      obtain ⟨a, ha⟩ : ∃ a, a = (ws.take k).sum := ⟨_, rfl⟩
      rw [← ha] at s0 s1 HP HB HNX
      clear hx hxb d0 ha
      go_wp2_with (go_at_call 41; refine (HP.out _).mono ?_; rintro e w2 ⟨rfl, ha⟩; have HA2 := Lib.hid ha; have t0 := (HB.out.later ha).cell 0; have t1 := (HB.out.later ha).cell 1; have f0 := (HB.out.later ha).free 0; have f1 := (HB.out.later ha).free 1; simp at t0 t1; clear ha)
      exact ⟨⟨k + 1, by omega, by go_num, Lib.hid (by rw [HNX.out]; exact ((HB.out.later HA2.out).set 0 _).set 1 _), Lib.hid (((HAD.out.trans HA2.out).set (p := ⟨ba, 0, none⟩) (by have := HBA.out; show w.heap.size ≤ ba; omega) _).set (p := ⟨ba, 1, none⟩) (by have := HBA.out; show w.heap.size ≤ ba; omega) _)⟩, by simp [intOf]; omega⟩
    · have hkN : N = k := by omega
      subst hkN
      have e1 : (ws.take N).sum = S := by rw [List.take_of_length_le (by rw [← HN.out]; exact Nat.le_refl _), HSE.out]
      rw [e1] at HB
      clear e1 hlt
      obtain ⟨W1, rfl⟩ : ∃ W1 : World, W1 = wr := ⟨_, rfl⟩
      have s0 := HB.out.cell 0
      have s1 := HB.out.cell 1
      simp at s0 s1
      have HSA := Lib.hid (show min A S = if S < A then S else A by omega)
      obtain ⟨M, hM⟩ : ∃ M, M = min A S := ⟨_, rfl⟩
      have hMb : 0 ≤ M ∧ M ≤ 9223372036854775807 ∧ M ≤ S := by omega
      obtain ⟨hM0, hM1, hM2⟩ := hMb
      have HMS := Lib.hid hM
      rw [← hM] at HSA
      go_upto_if 32 with (go_at_call 42; refine (HCM.out _).mono ?_; rintro e w2 ⟨rfl, ha⟩; have HA2 := Lib.hid ha; have t1 := (HB.out.later ha).cell 1; simp at t1; clear ha)
      go_cut [0] (fun z0 wc => z0 = .int .u64 M ∧ Hid (Adds W1 wc))
      case first =>
        have hct := HCT.out
        by_cases hlt : S < A
        · have hM3 : M = S := by omega
          have hls : loW S = M := by rw [lo_small hS0 (by omega), hM3]
          rw [decide_eq_true hlt] at hct
          have hct2 : cc < 0 := of_decide_eq_true hct
          rw [hls] at t1
          clear hls hM hM3 HSA s0 s1
          go_wp2
          go_meet
          exact ⟨rfl, HA2⟩
        · have hM3 : A = M := by omega
          rw [decide_eq_false hlt] at hct
          have hct2 : ¬ cc < 0 := of_decide_eq_false hct
          subst hM3
          clear hM HSA
          go_wp2
          go_meet
          exact ⟨rfl, HA2⟩
      case rest =>
        obtain ⟨rfl, HW⟩ := hcut
        have HAW : Hid (Adds w wc) := Lib.hid (HAD.out.trans HW.out)
        have HBW : Hid (Box wc ba #[.int .i64 (hiW S), .int .u64 (loW S)] 89) := Lib.hid (HB.out.later HW.out)
        clear s0 s1 t1 hM HSA HCM HCT HB HAD HW HA2
        go_upto_region 10 with (refine wpList_make_full _ rfl _ _ 118 rfl wc.heap.size 67 j0 (.int .u64 0) 1 Try.underlying118 HJ.out HJ0.out HJ1.out .i64 .i64 (N : Int) (N : Int) N rfl rfl rfl rfl (by rw [HJ2.out]; omega) (by unfold maxLen; omega) (Nat.le_refl _) ?_; intro w3 ho hg; have HO3 := Lib.hid (made_rowI ho); have HA3 : Hid (Adds wc w3) := Lib.hid ⟨hg.os, hg.tape, hg.output, hg.size, fun k hk => hg.block k hk (by simp)⟩; clear ho hg)
        obtain ⟨bl, hbl⟩ : ∃ b, b = wc.heap.size := ⟨_, rfl⟩
        rw [← hbl] at HO3 ⊢
        have hblw : w.heap.size ≤ bl := by rw [hbl]; exact HAW.out.size
        have hbab : ba < bl := by rw [hbl]; exact HBW.out.lt
        by_cases hM4 : M = 0
        · subst hM4
          go_wp2
          go_ret
          refine ⟨bl, rfl, hblw, ?_, HAW.out.trans HA3.out⟩
          rw [← HMS.out, shareT_zero, ← HN.out]
          exact HO3.out
        · have hMq : (M == 0) = false := beq_eq_false_iff_ne.2 hM4
          have hMp : 0 < M := by omega
          have hSp : 0 < S := by omega
          have A3 := Lib.hid (HAW.out.trans HA3.out)
          have B3 := Lib.hid (HBW.out.later HA3.out)
          have hl3 := HO3.out.lt
          clear HAW HBW HA3 hbl
          go_upto_region 13 with fail
          go_cut [10, 11] (fun z10 z11 wd => ∃ bx br bo : Nat, z10 = .pointer (some ⟨bx, 0, none⟩) ∧ z11 = .slice (some ⟨bo, 0, none⟩) N N ∧ w3.heap.size ≤ bx ∧ w3.heap.size ≤ br ∧ w3.heap.size ≤ bo ∧ bx ≠ br ∧ bx ≠ bo ∧ br ≠ bo ∧ Hid (Box wd bx #[.slice (some ⟨br, 0, none⟩) N N] 111) ∧ Hid (RowD wd w.heap.size br N (List.replicate N 0)) ∧ Hid (RowI 3 .i64 wd bo N (List.replicate N 0)) ∧ Hid (Adds w3 wd))
          case first =>
            have hmk1 := run_makeW N (by omega)
            have hmk2 := run_makeO N (by omega)
            have hws := A3.out.size
            go_region
            clear hmk1 hmk2
            all_goals
              go_wp2
              go_meet
              first
                | (refine ⟨_, w3.heap.size, _, rfl, rfl, ?_, ?_, ?_, ?_, ?_, ?_, Lib.hid ?_, Lib.hid ?_, Lib.hid ?_, Lib.hid ?_⟩ <;> first
                  | omega
                  | ((repeat first | with_reducible exact Adds.refl _ | with_reducible refine Adds.drew ?_ | with_reducible refine Adds.alloc ?_ _); done)
                  | ((repeat first | with_reducible exact box_new (by simp) | with_reducible refine Box.drew ?_ | with_reducible refine Box.alloc ?_ _); done)
                  | ((repeat first | with_reducible exact made_D2 (by simp) (by first | omega | (simp; omega)) (by omega) | with_reducible refine RowD.drew ?_ | with_reducible refine RowD.alloc ?_ _); done)
                  | ((repeat first | with_reducible exact made_O2 (by simp) (by omega) | with_reducible refine RowI.drew ?_ | with_reducible refine RowI.allocd ?_ _); done))
                | (refine ⟨_, (w3.heap.size + 1), _, rfl, rfl, ?_, ?_, ?_, ?_, ?_, ?_, Lib.hid ?_, Lib.hid ?_, Lib.hid ?_, Lib.hid ?_⟩ <;> first
                  | omega
                  | ((repeat first | with_reducible exact Adds.refl _ | with_reducible refine Adds.drew ?_ | with_reducible refine Adds.alloc ?_ _); done)
                  | ((repeat first | with_reducible exact box_new (by simp) | with_reducible refine Box.drew ?_ | with_reducible refine Box.alloc ?_ _); done)
                  | ((repeat first | with_reducible exact made_D2 (by simp) (by first | omega | (simp; omega)) (by omega) | with_reducible refine RowD.drew ?_ | with_reducible refine RowD.alloc ?_ _); done)
                  | ((repeat first | with_reducible exact made_O2 (by simp) (by omega) | with_reducible refine RowI.drew ?_ | with_reducible refine RowI.allocd ?_ _); done))
                | (refine ⟨_, (w3.heap.size + 1 + 1), _, rfl, rfl, ?_, ?_, ?_, ?_, ?_, ?_, Lib.hid ?_, Lib.hid ?_, Lib.hid ?_, Lib.hid ?_⟩ <;> first
                  | omega
                  | ((repeat first | with_reducible exact Adds.refl _ | with_reducible refine Adds.drew ?_ | with_reducible refine Adds.alloc ?_ _); done)
                  | ((repeat first | with_reducible exact box_new (by simp) | with_reducible refine Box.drew ?_ | with_reducible refine Box.alloc ?_ _); done)
                  | ((repeat first | with_reducible exact made_D2 (by simp) (by first | omega | (simp; omega)) (by omega) | with_reducible refine RowD.drew ?_ | with_reducible refine RowD.alloc ?_ _); done)
                  | ((repeat first | with_reducible exact made_O2 (by simp) (by omega) | with_reducible refine RowI.drew ?_ | with_reducible refine RowI.allocd ?_ _); done))
          case rest =>
            obtain ⟨bx, br, bo, rfl, rfl, hx1, hr1, ho1, hxr, hxo, hro, XB, RB, OB, AW⟩ := hcut
            have A4 := Lib.hid (A3.out.trans AW.out)
            have hw3 := A3.out.size
            have hlr : bl ≠ br := Nat.ne_of_lt (Nat.lt_of_lt_of_le hl3 hr1)
            have hlo : bl ≠ bo := Nat.ne_of_lt (Nat.lt_of_lt_of_le hl3 ho1)
            have hlx : bl ≠ bx := Nat.ne_of_lt (Nat.lt_of_lt_of_le hl3 hx1)
            have har : ba ≠ br := Nat.ne_of_lt (Nat.lt_of_lt_of_le (Nat.lt_trans hbab hl3) hr1)
            have hao : ba ≠ bo := Nat.ne_of_lt (Nat.lt_of_lt_of_le (Nat.lt_trans hbab hl3) ho1)
            have hal : ba ≠ bl := Nat.ne_of_lt hbab
            have hwbr : w.heap.size ≤ br := Nat.le_trans hw3 hr1
            have hwbo : w.heap.size ≤ bo := Nat.le_trans hw3 ho1
            have hsh : Hid (Sharing w wc S M ws bl br bo bx ba N 0) := Lib.hid ⟨by simpa [Filled] using HO3.out.later AW.out, by simpa [Filled] using RB.out, by simpa [Filled, numsT] using OB.out, XB.out.cell 0, B3.out.later AW.out, A4.out⟩
            have h00 : Hid (M = M - ((ws.take 0).map fun x => M * x / S).sum) := Lib.hid (by simp)
            clear XB RB OB AW A4 A3 B3 HO3
            go_upto_region 15 with fail
            go_loopw [50, 9] (fun v50 v9 wr => ∃ (k : Nat) (z : Int), k ≤ N ∧ v50 = .int .i64 k ∧ v9 = .int .u64 z ∧ Hid (z = M - ((ws.take k).map fun x => M * x / S).sum) ∧ Hid (Sharing w wr S M ws bl br bo bx ba N k)) (fun v50 _ _ => N - (intOf v50).toNat)
            case atStart => exact ⟨0, M, by omega, rfl, rfl, h00, hsh⟩
            case round => as_aux_lemma =>
              obtain ⟨k, z, hk, rfl, rfl, HZ, HS⟩ := hrel
              by_cases hlt : k < N
              · have hlt2 : (k : Int) < (N : Int) := by omega
                have hk0 : (0 : Int) ≤ (k : Int) := by omega
                obtain ⟨x, hx⟩ : ∃ x, ws[k]? = some x := ⟨_, List.getElem?_eq_getElem (by have := HN.out; omega)⟩
                obtain ⟨hxa, hxb⟩ := HQ.out x (List.mem_of_getElem? hx)
                obtain ⟨g, off, rfl, d0⟩ := HL.out k (.int .u64 x) (by rw [List.getElem?_map, hx]; rfl)
                have c0 := keep_cell HS.out.adds d0
                have hxS : x ≤ S := by
                  rw [HSE.out]
                  have h1 := sum_take_le (ws := ws) (k + 1) (fun y hy => (HQ.out y hy).1)
                  obtain ⟨g1, g2⟩ := List.getElem?_eq_some_iff.1 hx
                  rw [List.take_succ_eq_append_getElem g1, g2, List.sum_append] at h1
                  have h2 := sum_nonneg (ws := ws.take k) (fun y hy => (HQ.out y (List.mem_of_mem_take hy)).1)
                  simp at h1
                  omega
                have HNX : Hid (∀ f : Int → Int, (ws.take (k + 1)).map f = (ws.take k).map f ++ [f x]) := Lib.hid (fun f => by
                  obtain ⟨h1, h2⟩ := List.getElem?_eq_some_iff.1 hx
                  rw [List.take_succ_eq_append_getElem h1, h2, List.map_append]
                  rfl)
                have hmul : 0 ≤ M * x ∧ M * x ≤ 9223372036854775807 * 4611686018427387904 := ⟨Int.mul_nonneg hM0 hxa, Int.mul_le_mul hM1 hxb hxa (by omega)⟩
                obtain ⟨P, hP⟩ : ∃ P, P = M * x := ⟨_, rfl⟩
                have hPI : InW (M * x) := by unfold InW; omega
                have HTM := Lib.hid (fun W => times_any M x W hM0 (by omega) hxa (by omega) hPI)
                rw [← hP] at HTM hmul hPI
                have HOV := Lib.hid (fun W => over_any P S W hPI hmul.1 hSp (by omega))
                have hq0 : 0 ≤ P / S := Int.ediv_nonneg hmul.1 (by omega)
                have hqx : P / S ≤ x := by
                  refine Int.ediv_le_of_le_mul hSp ?_
                  rw [hP, Int.mul_comm x S]
                  exact Int.mul_le_mul_of_nonneg_right hM2 hxa
                obtain ⟨q, hqe⟩ : ∃ q, q = P / S := ⟨_, rfl⟩
                obtain ⟨r, hre⟩ : ∃ r, r = P % S := ⟨_, rfl⟩
                rw [← hqe] at HOV hq0 hqx
                rw [← hre] at HOV
                have HQI : Hid (M * x / S = q) := Lib.hid (by rw [hqe, hP])
                have HRI : Hid (M * x % S = r) := Lib.hid (by rw [hre, hP])
                have HLQ : Hid (loW q = q) := Lib.hid (lo_small hq0 (by omega))
                have hzb := left_k_bd (k := k) hSp HSE.out hM0 (fun y hy => (HQ.out y hy).1)
                have hzc := left_k_bd (k := k + 1) hSp HSE.out hM0 (fun y hy => (HQ.out y hy).1)
                rw [HNX.out, List.sum_append] at hzc
                simp only [List.sum_cons, List.sum_nil, Int.add_zero, HQI.out] at hzc
                have hz := HZ.out
                have hz0 : 0 ≤ z - q ∧ z ≤ M := by omega
                obtain ⟨hza, hzm⟩ := hz0
                have hzw : IntKind.u64.wrap (z - q) = z - q := by
                  have : IntKind.u64.wrap (z - q) = (z - q) % 18446744073709551616 := by simp [IntKind.wrap, IntKind.signed, IntKind.bits]
                  omega
                have HLK : Hid (((ws.take k).map fun x => M * x / S).length = k ∧ ((ws.take k).map fun x => M * x % S).length = k) := Lib.hid (by constructor <;> (rw [List.length_map, List.length_take]; have := HN.out; omega))
                clear hz hzb hzc hP hPI hmul hqe hre d0 hx hxS
                go_upto_region 18 with fail
                obtain ⟨bp, hbp⟩ : ∃ b, b = wr.heap.size := ⟨_, rfl⟩
                obtain ⟨wv, hwv⟩ : ∃ V, V = wr.alloc (.cells #[.int .i64 0, .int .u64 0] 89) := ⟨_, rfl⟩
                have hAv : Adds wr wv := by rw [hwv]; exact (Adds.refl wr).alloc _
                have PB : Hid (Box wv bp #[.int .i64 0, .int .u64 0] 89) := Lib.hid (by rw [hwv, hbp]; exact Box.new _ _ _)
                have hp1 : bl < bp := by rw [hbp]; exact HS.out.l.lt
                have hp2 : br < bp := by rw [hbp]; exact HS.out.r.lt
                have hp3 : bo < bp := by rw [hbp]; exact HS.out.o.lt
                have hp4 : bx < bp := by rw [hbp]; exact cell_lt HS.out.x
                have hp5 : ba < bp := by rw [hbp]; exact HS.out.s.lt
                rw [← hwv, ← hbp]
                have CX := Lib.hid (keep_cell hAv HS.out.x)
                have BA := Lib.hid (HS.out.s.later hAv)
                have LV := Lib.hid (HS.out.l.later hAv)
                have RV := Lib.hid (HS.out.r.later hAv)
                have OV := Lib.hid (HS.out.o.later hAv)
                have AV := Lib.hid (HS.out.adds.trans hAv)
                have hn1 : bp ≠ br := (Nat.ne_of_lt hp2).symm
                have hn2 : br ≠ bp := Nat.ne_of_lt hp2
                have hd1 : ¬ (bx = bp ∨ bx = br) := fun h => h.elim (Nat.ne_of_lt hp4) hxr
                have hd2 : ¬ (ba = bp ∨ ba = br) := fun h => h.elim (Nat.ne_of_lt hp5) har
                have hd3 : ¬ (bl = bp ∨ bl = br) := fun h => h.elim (Nat.ne_of_lt hp1) hlr
                have hd4 : ¬ (bo = bp ∨ bo = br) := fun h => h.elim (Nat.ne_of_lt hp3) (fun e => hro e.symm)
                have hwbp : w.heap.size ≤ bp := Nat.le_trans hwbr (Nat.le_of_lt hp2)
                obtain ⟨L0, hL0⟩ : ∃ L, L = Filled ((ws.take k).map fun x => M * x % S) N := ⟨_, rfl⟩
                rw [← hL0] at RV
                have HLL : Hid (k < L0.length) := Lib.hid (by rw [hL0, Filled.len (by rw [HLK.out.2]; omega)]; exact hlt)
                have HL0 := Lib.hid hL0
                clear hwv hbp hAv c0 hL0
                refine wp_region_rules (fun i => i != i) (fun wq => Hid (SS wv w.heap.size bp br N k L0 r wq) ∧ True) (StS bp br k q r) (fun i v wq => match i with | 0 => v = .slice (some ⟨br, 0, none⟩) N N | 1 => v = .int .i64 (k : Int) | 2 => v = .int .u64 M | 3 => v = .int .u64 x | 4 => v = .agg #[.int .i64 (hiW P), .int .u64 (loW P)] | 5 => v = .agg #[.int .i64 (hiW S), .int .u64 (loW S)] | 6 => v = .tuple #[.agg #[.int .i64 (hiW q), .int .u64 (loW q)], .agg #[.int .i64 (hiW r), .int .u64 (loW r)]] | 7 => v = .tuple #[.agg #[.int .i64 (hiW q), .int .u64 (loW q)], .agg #[.int .i64 (hiW r), .int .u64 (loW r)]] | 8 => v = .agg #[.int .i64 (hiW q), .int .u64 (loW q)] | 9 => v = .agg #[.int .i64 (hiW r), .int .u64 (loW r)] | 10 => Box wq bp #[.int .i64 (hiW q), .int .u64 (loW q)] 89 | 11 => v = .pointer (some ⟨br, k * 2, none⟩) | 12 => RowD wq w.heap.size br N (L0.set k r) | _ => True) (by kernel_rfl) (by kernel_rfl) (by kernel_rfl) (by kernel_rfl) 13 (by kernel_rfl) [some 56, some 57, some 58, some 59, some 60, some 61, some 62, some 55, some 63, some 64, none, some 65, none] (by kernel_rfl) 0 #[true, true, true, true, true, true, true, true, true, true, true, true, true] (by kernel_rfl) (by kernel_rfl) ?hS ?hstab ?hrules ?hrest
                case hS => exact ⟨Lib.hid ⟨(Touch.refl _ wv).behind ((Adds.refl wv).drew), ⟨_, _, PB.out.drew⟩, .inl (RV.out.drew)⟩, trivial⟩
                case hstab =>
                  intro j v w1 w2 hst _ h
                  match j, h with
                  | 10, h => exact SS.box hst hn1 h
                  | 12, h => exact SS.row hst hn2 HLL.out h
                  | 0, h => exact h
                  | 1, h => exact h
                  | 2, h => exact h
                  | 3, h => exact h
                  | 4, h => exact h
                  | 5, h => exact h
                  | 6, h => exact h
                  | 7, h => exact h
                  | 8, h => exact h
                  | 9, h => exact h
                  | 11, h => exact h
                  | _ + 13, h => trivial
                case hrules =>
                  refine rules_cons (n := 13) (ds := [some 56, some 57, some 58, some 59, some 60, some 61, some 62, some 55, some 63, some 64, none, some 65, none]) (by kernel_rfl) (by kernel_rfl) [] rfl (by kernel_rfl) ?_ ?_
                  · intro x wq hx hS hdep K hK
                    obtain ⟨x0, x1, x2, x3, x4, x5, x6, x7, x8, x9, x10, x11, x12, rfl⟩ := len13 hx
                    have sA := hS.1
                    have sT := hS.2
                    clear hdep hx hS
                    simp only [putD, Act.put, List.setIfInBounds_toArray, List.set_cons_zero, List.set_cons_succ]
                    have cx := touch_cell sA.out.t hd1 CX.out
                    go_simp
                    have hk := hK.out (.slice (some ⟨br, 0, none⟩) N N) _ StS.refl ⟨sA, trivial⟩ rfl (fun _ _ _ _ => ⟨trivial, trivial⟩)
                    simp only [putD, Act.put, List.setIfInBounds_toArray, List.set_cons_zero, List.set_cons_succ] at hk
                    exact hk
                  refine rules_cons (n := 13) (ds := [some 56, some 57, some 58, some 59, some 60, some 61, some 62, some 55, some 63, some 64, none, some 65, none]) (by kernel_rfl) (by kernel_rfl) [] rfl (by kernel_rfl) ?_ ?_
                  · intro x wq hx hS hdep K hK
                    obtain ⟨x0, x1, x2, x3, x4, x5, x6, x7, x8, x9, x10, x11, x12, rfl⟩ := len13 hx
                    have sA := hS.1
                    have sT := hS.2
                    clear hdep hx hS
                    simp only [putD, Act.put, List.setIfInBounds_toArray, List.set_cons_zero, List.set_cons_succ]
                    go_simp
                    have hk := hK.out (.int .i64 (k : Int)) _ StS.refl ⟨sA, sT⟩ rfl (fun _ _ _ _ => ⟨trivial, trivial⟩)
                    simp only [putD, Act.put, List.setIfInBounds_toArray, List.set_cons_zero, List.set_cons_succ] at hk
                    exact hk
                  refine rules_cons (n := 13) (ds := [some 56, some 57, some 58, some 59, some 60, some 61, some 62, some 55, some 63, some 64, none, some 65, none]) (by kernel_rfl) (by kernel_rfl) [] rfl (by kernel_rfl) ?_ ?_
                  · intro x wq hx hS hdep K hK
                    obtain ⟨x0, x1, x2, x3, x4, x5, x6, x7, x8, x9, x10, x11, x12, rfl⟩ := len13 hx
                    have sA := hS.1
                    have sT := hS.2
                    clear hdep hx hS
                    simp only [putD, Act.put, List.setIfInBounds_toArray, List.set_cons_zero, List.set_cons_succ]
                    go_simp
                    have hk := hK.out (.int .u64 M) _ StS.refl ⟨sA, sT⟩ rfl (fun _ _ _ _ => ⟨trivial, trivial⟩)
                    simp only [putD, Act.put, List.setIfInBounds_toArray, List.set_cons_zero, List.set_cons_succ] at hk
                    exact hk
                  refine rules_cons (n := 13) (ds := [some 56, some 57, some 58, some 59, some 60, some 61, some 62, some 55, some 63, some 64, none, some 65, none]) (by kernel_rfl) (by kernel_rfl) [] rfl (by kernel_rfl) ?_ ?_
                  · intro x wq hx hS hdep K hK
                    obtain ⟨x0, x1, x2, x3, x4, x5, x6, x7, x8, x9, x10, x11, x12, rfl⟩ := len13 hx
                    have sA := hS.1
                    have sT := hS.2
                    clear hdep hx hS
                    simp only [putD, Act.put, List.setIfInBounds_toArray, List.set_cons_zero, List.set_cons_succ]
                    go_simp
                    have hk := hK.out (.int .u64 x) _ StS.refl ⟨sA, sT⟩ rfl (fun _ _ _ _ => ⟨trivial, trivial⟩)
                    simp only [putD, Act.put, List.setIfInBounds_toArray, List.set_cons_zero, List.set_cons_succ] at hk
                    exact hk
                  refine rules_cons (n := 13) (ds := [some 56, some 57, some 58, some 59, some 60, some 61, some 62, some 55, some 63, some 64, none, some 65, none]) (by kernel_rfl) (by kernel_rfl) [2, 3] rfl (by kernel_rfl) ?_ ?_
                  · intro x wq hx hS hdep K hK
                    obtain ⟨x0, x1, x2, x3, x4, x5, x6, x7, x8, x9, x10, x11, x12, rfl⟩ := len13 hx
                    obtain rfl : x2 = .int .u64 M := hdep 2 (by simp)
                    obtain rfl : x3 = .int .u64 x := hdep 3 (by simp)
                    have sA := hS.1
                    have sT := hS.2
                    clear hdep hx hS
                    simp only [putD, Act.put, List.setIfInBounds_toArray, List.set_cons_zero, List.set_cons_succ]
                    go_simp
                    go_at_call 73
                    refine (HTM.out _).mono ?_
                    rintro e w1 ⟨rfl, ha⟩
                    have hk := hK.out (.agg #[.int .i64 (hiW P), .int .u64 (loW P)]) _ (StS.adds ha) ⟨Lib.hid (SS.st (q := q) sA.out (StS.adds ha) hn1 HLL.out), trivial⟩ rfl (fun _ _ _ _ => ⟨trivial, trivial⟩)
                    simp only [putD, Act.put, List.setIfInBounds_toArray, List.set_cons_zero, List.set_cons_succ] at hk
                    exact hk
                  refine rules_cons (n := 13) (ds := [some 56, some 57, some 58, some 59, some 60, some 61, some 62, some 55, some 63, some 64, none, some 65, none]) (by kernel_rfl) (by kernel_rfl) [] rfl (by kernel_rfl) ?_ ?_
                  · intro x wq hx hS hdep K hK
                    obtain ⟨x0, x1, x2, x3, x4, x5, x6, x7, x8, x9, x10, x11, x12, rfl⟩ := len13 hx
                    have sA := hS.1
                    have sT := hS.2
                    clear hdep hx hS
                    simp only [putD, Act.put, List.setIfInBounds_toArray, List.set_cons_zero, List.set_cons_succ]
                    have e0 : wq.cell? ⟨ba, 0, none⟩ = some (.int .i64 (hiW S)) := (box_touch BA.out sA.out.t hd2).cell 0
                    have e1 : wq.cell? ⟨ba, 1, none⟩ = some (.int .u64 (loW S)) := (box_touch BA.out sA.out.t hd2).cell 1
                    go_simp
                    have hk := hK.out (.agg #[.int .i64 (hiW S), .int .u64 (loW S)]) _ StS.refl ⟨sA, trivial⟩ rfl (fun _ _ _ _ => ⟨trivial, trivial⟩)
                    simp only [putD, Act.put, List.setIfInBounds_toArray, List.set_cons_zero, List.set_cons_succ] at hk
                    exact hk
                  refine rules_cons (n := 13) (ds := [some 56, some 57, some 58, some 59, some 60, some 61, some 62, some 55, some 63, some 64, none, some 65, none]) (by kernel_rfl) (by kernel_rfl) [4, 5] rfl (by kernel_rfl) ?_ ?_
                  · intro x wq hx hS hdep K hK
                    obtain ⟨x0, x1, x2, x3, x4, x5, x6, x7, x8, x9, x10, x11, x12, rfl⟩ := len13 hx
                    obtain rfl : x4 = .agg #[.int .i64 (hiW P), .int .u64 (loW P)] := hdep 4 (by simp)
                    obtain rfl : x5 = .agg #[.int .i64 (hiW S), .int .u64 (loW S)] := hdep 5 (by simp)
                    have sA := hS.1
                    have sT := hS.2
                    clear hdep hx hS
                    simp only [putD, Act.put, List.setIfInBounds_toArray, List.set_cons_zero, List.set_cons_succ]
                    go_simp
                    go_at_call 56
                    refine (HOV.out _).mono ?_
                    rintro e w1 ⟨rfl, ha⟩
                    have hk := hK.out (.tuple #[.agg #[.int .i64 (hiW q), .int .u64 (loW q)], .agg #[.int .i64 (hiW r), .int .u64 (loW r)]]) _ (StS.adds ha) ⟨Lib.hid (SS.st (q := q) sA.out (StS.adds ha) hn1 HLL.out), trivial⟩ rfl (fun _ _ _ _ => ⟨trivial, trivial⟩)
                    simp only [putD, Act.put, List.setIfInBounds_toArray, List.set_cons_zero, List.set_cons_succ] at hk
                    exact hk
                  refine rules_cons (n := 13) (ds := [some 56, some 57, some 58, some 59, some 60, some 61, some 62, some 55, some 63, some 64, none, some 65, none]) (by kernel_rfl) (by kernel_rfl) [6] rfl (by kernel_rfl) ?_ ?_
                  · intro x wq hx hS hdep K hK
                    obtain ⟨x0, x1, x2, x3, x4, x5, x6, x7, x8, x9, x10, x11, x12, rfl⟩ := len13 hx
                    obtain rfl : x6 = .tuple #[.agg #[.int .i64 (hiW q), .int .u64 (loW q)], .agg #[.int .i64 (hiW r), .int .u64 (loW r)]] := hdep 6 (by simp)
                    have sA := hS.1
                    have sT := hS.2
                    clear hdep hx hS
                    simp only [putD, Act.put, List.setIfInBounds_toArray, List.set_cons_zero, List.set_cons_succ]
                    go_simp
                    have hk := hK.out (.tuple #[.agg #[.int .i64 (hiW q), .int .u64 (loW q)], .agg #[.int .i64 (hiW r), .int .u64 (loW r)]]) _ StS.refl ⟨sA, sT⟩ rfl (fun _ _ _ _ => ⟨trivial, trivial⟩)
                    simp only [putD, Act.put, List.setIfInBounds_toArray, List.set_cons_zero, List.set_cons_succ] at hk
                    exact hk
                  refine rules_cons (n := 13) (ds := [some 56, some 57, some 58, some 59, some 60, some 61, some 62, some 55, some 63, some 64, none, some 65, none]) (by kernel_rfl) (by kernel_rfl) [7] rfl (by kernel_rfl) ?_ ?_
                  · intro x wq hx hS hdep K hK
                    obtain ⟨x0, x1, x2, x3, x4, x5, x6, x7, x8, x9, x10, x11, x12, rfl⟩ := len13 hx
                    obtain rfl : x7 = .tuple #[.agg #[.int .i64 (hiW q), .int .u64 (loW q)], .agg #[.int .i64 (hiW r), .int .u64 (loW r)]] := hdep 7 (by simp)
                    have sA := hS.1
                    have sT := hS.2
                    clear hdep hx hS
                    simp only [putD, Act.put, List.setIfInBounds_toArray, List.set_cons_zero, List.set_cons_succ]
                    go_simp
                    have hk := hK.out (.agg #[.int .i64 (hiW q), .int .u64 (loW q)]) _ StS.refl ⟨sA, sT⟩ rfl (fun _ _ _ _ => ⟨trivial, trivial⟩)
                    simp only [putD, Act.put, List.setIfInBounds_toArray, List.set_cons_zero, List.set_cons_succ] at hk
                    exact hk
                  refine rules_cons (n := 13) (ds := [some 56, some 57, some 58, some 59, some 60, some 61, some 62, some 55, some 63, some 64, none, some 65, none]) (by kernel_rfl) (by kernel_rfl) [7] rfl (by kernel_rfl) ?_ ?_
                  · intro x wq hx hS hdep K hK
                    obtain ⟨x0, x1, x2, x3, x4, x5, x6, x7, x8, x9, x10, x11, x12, rfl⟩ := len13 hx
                    obtain rfl : x7 = .tuple #[.agg #[.int .i64 (hiW q), .int .u64 (loW q)], .agg #[.int .i64 (hiW r), .int .u64 (loW r)]] := hdep 7 (by simp)
                    have sA := hS.1
                    have sT := hS.2
                    clear hdep hx hS
                    simp only [putD, Act.put, List.setIfInBounds_toArray, List.set_cons_zero, List.set_cons_succ]
                    go_simp
                    have hk := hK.out (.agg #[.int .i64 (hiW r), .int .u64 (loW r)]) _ StS.refl ⟨sA, sT⟩ rfl (fun _ _ _ _ => ⟨trivial, trivial⟩)
                    simp only [putD, Act.put, List.setIfInBounds_toArray, List.set_cons_zero, List.set_cons_succ] at hk
                    exact hk
                  refine rules_cons (n := 13) (ds := [some 56, some 57, some 58, some 59, some 60, some 61, some 62, some 55, some 63, some 64, none, some 65, none]) (by kernel_rfl) (by kernel_rfl) [8] rfl (by kernel_rfl) ?_ ?_
                  · intro x wq hx hS hdep K hK
                    obtain ⟨x0, x1, x2, x3, x4, x5, x6, x7, x8, x9, x10, x11, x12, rfl⟩ := len13 hx
                    obtain rfl : x8 = .agg #[.int .i64 (hiW q), .int .u64 (loW q)] := hdep 8 (by simp)
                    have sA := hS.1
                    have sT := hS.2
                    clear hdep hx hS
                    simp only [putD, Act.put, List.setIfInBounds_toArray, List.set_cons_zero, List.set_cons_succ]
                    obtain ⟨y0, y1, hb⟩ := sA.out.b
                    have z0 : wq.cell? ⟨bp, 0, none⟩ = some y0 := hb.cell 0
                    have z1 : wq.cell? ⟨bp, 1, none⟩ = some y1 := hb.cell 1
                    have z2 : wq.frozen? ⟨bp, 0, none⟩ = false := hb.free 0
                    have z3 : wq.frozen? ⟨bp, 1, none⟩ = false := hb.free 1
                    go_simp
                    have hk := hK.out undef _ StS.putq ⟨Lib.hid (SS.st (q := q) sA.out StS.putq hn1 HLL.out), trivial⟩ ((hb.set 0 _).set 1 _) (fun _ _ _ _ => ⟨trivial, trivial⟩)
                    simp only [putD, Act.put, List.setIfInBounds_toArray, List.set_cons_zero, List.set_cons_succ] at hk
                    exact hk
                  refine rules_cons (n := 13) (ds := [some 56, some 57, some 58, some 59, some 60, some 61, some 62, some 55, some 63, some 64, none, some 65, none]) (by kernel_rfl) (by kernel_rfl) [0, 1] rfl (by kernel_rfl) ?_ ?_
                  · intro x wq hx hS hdep K hK
                    obtain ⟨x0, x1, x2, x3, x4, x5, x6, x7, x8, x9, x10, x11, x12, rfl⟩ := len13 hx
                    obtain rfl : x0 = .slice (some ⟨br, 0, none⟩) N N := hdep 0 (by simp)
                    obtain rfl : x1 = .int .i64 (k : Int) := hdep 1 (by simp)
                    have sA := hS.1
                    have sT := hS.2
                    clear hdep hx hS
                    simp only [putD, Act.put, List.setIfInBounds_toArray, List.set_cons_zero, List.set_cons_succ]
                    go_simp
                    have hk := hK.out (.pointer (some ⟨br, k * 2, none⟩)) _ StS.refl ⟨sA, sT⟩ rfl (fun _ _ _ _ => ⟨trivial, trivial⟩)
                    simp only [putD, Act.put, List.setIfInBounds_toArray, List.set_cons_zero, List.set_cons_succ] at hk
                    exact hk
                  refine rules_cons (n := 13) (ds := [some 56, some 57, some 58, some 59, some 60, some 61, some 62, some 55, some 63, some 64, none, some 65, none]) (by kernel_rfl) (by kernel_rfl) [9, 11] rfl (by kernel_rfl) ?_ ?_
                  · intro x wq hx hS hdep K hK
                    obtain ⟨x0, x1, x2, x3, x4, x5, x6, x7, x8, x9, x10, x11, x12, rfl⟩ := len13 hx
                    obtain rfl : x9 = .agg #[.int .i64 (hiW r), .int .u64 (loW r)] := hdep 9 (by simp)
                    obtain rfl : x11 = .pointer (some ⟨br, k * 2, none⟩) := hdep 11 (by simp)
                    have sA := hS.1
                    have sT := hS.2
                    clear hdep hx hS
                    simp only [putD, Act.put, List.setIfInBounds_toArray, List.set_cons_zero, List.set_cons_succ]
                    obtain ⟨y, z0, z1, z2, z3⟩ := sA.out.cells HLL.out
                    go_simp
                    have hk := hK.out undef _ StS.putr ⟨Lib.hid (SS.st (q := q) sA.out StS.putr hn1 HLL.out), trivial⟩ (sA.out.put HLL.out) (fun _ _ _ _ => ⟨trivial, trivial⟩)
                    simp only [putD, Act.put, List.setIfInBounds_toArray, List.set_cons_zero, List.set_cons_succ] at hk
                    exact hk
                  exact rules_nil
                case hrest =>
                  intro x wq hx hS hP
                  obtain ⟨x0, x1, x2, x3, x4, x5, x6, x7, x8, x9, x10, x11, x12, rfl⟩ := len13 hx
                  obtain rfl : x0 = .slice (some ⟨br, 0, none⟩) N N := hP 0 (by decide) (by rfl)
                  obtain rfl : x1 = .int .i64 (k : Int) := hP 1 (by decide) (by rfl)
                  obtain rfl : x2 = .int .u64 M := hP 2 (by decide) (by rfl)
                  obtain rfl : x3 = .int .u64 x := hP 3 (by decide) (by rfl)
                  obtain rfl : x4 = .agg #[.int .i64 (hiW P), .int .u64 (loW P)] := hP 4 (by decide) (by rfl)
                  obtain rfl : x5 = .agg #[.int .i64 (hiW S), .int .u64 (loW S)] := hP 5 (by decide) (by rfl)
                  obtain rfl : x6 = .tuple #[.agg #[.int .i64 (hiW q), .int .u64 (loW q)], .agg #[.int .i64 (hiW r), .int .u64 (loW r)]] := hP 6 (by decide) (by rfl)
                  obtain rfl : x7 = .tuple #[.agg #[.int .i64 (hiW q), .int .u64 (loW q)], .agg #[.int .i64 (hiW r), .int .u64 (loW r)]] := hP 7 (by decide) (by rfl)
                  obtain rfl : x8 = .agg #[.int .i64 (hiW q), .int .u64 (loW q)] := hP 8 (by decide) (by rfl)
                  obtain rfl : x9 = .agg #[.int .i64 (hiW r), .int .u64 (loW r)] := hP 9 (by decide) (by rfl)
                  obtain b10 : Box wq bp #[.int .i64 (hiW q), .int .u64 (loW q)] 89 := hP 10 (by decide) (by rfl)
                  obtain rfl : x11 = .pointer (some ⟨br, k * 2, none⟩) := hP 11 (by decide) (by rfl)
                  obtain b12 : RowD wq w.heap.size br N (L0.set k r) := hP 12 (by decide) (by rfl)
                  have sA := hS.1
                  have sT := hS.2
                  clear hP hx hS
                  simp only [putD, Act.put, List.setIfInBounds_toArray, List.set_cons_zero, List.set_cons_succ]
                  refine rest_done (by kernel_rfl) ?_ _
                  obtain ⟨W5, hW5⟩ : ∃ V, V = wq := ⟨_, rfl⟩
                  rw [← hW5] at sA b10 b12 ⊢
                  have P5 := Lib.hid b10
                  have R5 : Hid (RowD W5 w.heap.size br N ((Filled ((ws.take k).map fun x => M * x % S) N).set k r)) := Lib.hid (by rw [← HL0.out]; exact b12)
                  have T5 := Lib.hid sA.out.t
                  have A5 : Hid (Adds w W5) := Lib.hid (Touch.adds AV.out T5.out (fun y h => h.elim (fun e => e ▸ hwbp) (fun e => e ▸ hwbr)))
                  have L5 := Lib.hid (LV.out.touch T5.out hd3)
                  have O5 := Lib.hid (OV.out.touch T5.out hd4)
                  have X5 := Lib.hid (touch_cell T5.out hd1 CX.out)
                  have S5 := Lib.hid (box_touch BA.out T5.out hd2)
                  clear hW5 PB RV LV OV CX BA AV sA sT b10 b12 T5 HTM HOV
                  have p1 : W5.cell? ⟨bp, 1, none⟩ = some (.int .u64 q) := by have := P5.out.cell 1; simp [HLQ.out] at this; exact this
                  have lc := L5.out.cell (j := k) (x := 0) (Filled.at HLK.out.1 hlt)
                  have lf := L5.out.free k
                  have oc := O5.out.cell (j := k) (x := 0) (Filled.at (numsT_len k) hlt)
                  have of := O5.out.free k
                  have hol : bo ≠ bl := hlo.symm
                  go_wp2
                  refine ⟨⟨k + 1, z - q, by omega, by go_num, rfl, Lib.hid ?_, Lib.hid ⟨?_, ?_, ?_, ?_, ?_, ?_⟩⟩, by simp [intOf]; omega⟩
                  · rw [HNX.out, List.sum_append, HZ.out]
                    simp only [List.sum_cons, List.sum_nil, Int.add_zero, HQI.out]
                    omega
                  · rw [HNX.out, HQI.out, ← Filled.next HLK.out.1 hlt]
                    exact (L5.out.put k q).far hlo _
                  · rw [HNX.out, HRI.out, ← Filled.next HLK.out.2 hlt]
                    exact (R5.out.far (p := ⟨bl, k, none⟩) hlr.symm _).far (p := ⟨bo, k, none⟩) hro _
                  · rw [numsT_succ, ← Filled.next (numsT_len k) hlt]
                    exact (O5.out.far (p := ⟨bl, k, none⟩) hol _).put k k
                  · exact keep_far2 (p := ⟨bo, k, none⟩) hxo (keep_far2 (p := ⟨bl, k, none⟩) hlx.symm X5.out _) _
                  · exact (S5.out.far (p := ⟨bl, k, none⟩) hal _).far (p := ⟨bo, k, none⟩) hao _
                  · exact (A5.out.set (p := ⟨bl, k, none⟩) hblw _).set (p := ⟨bo, k, none⟩) hwbo _
              · have hkN : N = k := by omega
                subst hkN
                have hfl : ∀ f : Int → Int, (ws.take N).map f = ws.map f := fun f => by rw [List.take_of_length_le (by rw [← HN.out]; exact Nat.le_refl _)]
                have hml : ∀ f : Int → Int, (ws.map f).length = N := fun f => by rw [List.length_map]; exact HN.out.symm
                obtain ⟨vv, hvv⟩ : ∃ vv : Nat → Int, vv = fun i => M * ws[i]! % S := ⟨_, rfl⟩
                have hgv : ∀ a, a < N → (ws.map fun x => M * x % S)[a]? = some (vv a) := fun a ha => by
                  have haw : a < ws.length := by rw [← HN.out]; exact ha
                  rw [hvv, List.getElem?_map, List.getElem?_eq_getElem haw, Option.map_some]
                  dsimp only
                  rw [getElem!_pos ws a haw]
                have hrr := HS.out.r
                rw [hfl, Filled.full (hml _)] at hrr
                have hro2 := HS.out.o
                rw [Filled.full (numsT_len N)] at hro2
                have hlx2 := HS.out.l
                rw [hfl, Filled.full (hml _)] at hlx2
                have hcon := sort_any2 bo N N bx vv wr hn hro2 (fun a b ha hb W hW => by
                  have hr := hrr.touch hW (fun e => hro e)
                  have ca := hr.cells (hgv a ha)
                  have cb := hr.cells (hgv b hb)
                  exact cmpS_any bx br N N a b vv W (touch_cell hW (fun e => hxo e) HS.out.x) ha hb (by omega) ca.1 ca.2.1 cb.1 cb.2.1)
                unfold SortW at hcon
                have HCO := Lib.hid hcon
                have hzl : z = shareLeft M ws := by rw [HZ.out, hfl]; unfold shareLeft; rw [← HSE.out]
                have hzb := left_bd2 (t := M) (ws := ws) (by rw [← HSE.out]; exact hSp)
                rw [← hzl, ← HN.out] at hzb
                obtain ⟨hz0, hz1⟩ := hzb
                obtain ⟨zn, rfl⟩ : ∃ zn : Nat, z = (zn : Int) := ⟨z.toNat, by omega⟩
                have HZL := Lib.hid hzl
                have hznk : zn ≤ N := by omega
                have L3 := Lib.hid hlx2
                have A3 := Lib.hid HS.out.adds
                have HVV := Lib.hid hvv
                have hmf : ∀ (fn : Fn) (first cap : Array Value) (w : World), (Instr.makeFunc fn first cap).run Try.prog w = .ok (.func fn first cap) w := fun _ _ _ _ => rfl
                clear hcon hro2 hlx2 hrr hgv hvv hzl hsh h00
                go_upto_region 23 with (go_at_call 74; refine HCO.out.mono ?_; rintro e w3 ⟨rfl, X, x1, x2, x3⟩; have X1 := Lib.hid x1; have X2 := Lib.hid x2; have X3 := Lib.hid x3; clear x1 x2 x3)
                have L4 := Lib.hid (L3.out.touch X3.out (fun e => hlo e))
                have A4 : Hid (Adds w w3) := Lib.hid (Touch.adds A3.out X3.out (fun y e => e ▸ hwbo))
                obtain ⟨R, hR⟩ : ∃ R, R = lstX X N := ⟨_, rfl⟩
                have R1 : Hid (R.Perm (numsT N)) := Lib.hid (by rw [hR]; exact sorted_perm X1.out)
                have R2 : Hid (R.Pairwise (lexLt (shareKey M ws))) := Lib.hid (by
                  rw [hR]
                  refine sorted_lex X1.out fun i hi => ?_
                  unfold shareKey
                  rw [HVV.out, ← HSE.out])
                rw [← hR] at X2
                obtain ⟨Q, hQ⟩ : ∃ Q, Q = ws.map fun x => M * x / S := ⟨_, rfl⟩
                have HQB : Hid (∀ i, i < N → 0 ≤ Q[i]! ∧ Q[i]! ≤ 4611686018427387904) := Lib.hid (fun i hi => by
                  have hiw : i < ws.length := by rw [← HN.out]; exact hi
                  have hb := HQ.out ws[i] (List.getElem_mem hiw)
                  rw [hQ, getElem!_pos _ i (by rw [hml]; exact hi), List.getElem_map]
                  refine ⟨Int.ediv_nonneg (Int.mul_nonneg hM0 hb.1) (by omega), Int.le_trans (Int.ediv_le_of_le_mul hSp ?_) hb.2⟩
                  rw [Int.mul_comm (ws[i]) S]
                  exact Int.mul_le_mul_of_nonneg_right hM2 hb.1)
                have HLEN : Hid (Q.length = N) := Lib.hid (by rw [hQ]; exact hml _)
                rw [← hQ] at L4
                have HQE := Lib.hid hQ
                have HND : Hid (R.Nodup) := Lib.hid (R1.out.nodup_iff.2 ((numsT_asc N).imp (fun {a b} h => by omega)))
                have HRL : Hid (R.length = N) := Lib.hid (by rw [R1.out.length_eq, numsT_len])
                clear hQ hR hfl hml HCO L3 A3 HS
                go_upto_region 24 with fail
                go_loopw [89] (fun v89 wr => ∃ j : Nat, j ≤ zn ∧ v89 = .int .i64 j ∧ Hid (RowI 67 .u64 wr bl N (bumpT Q R j)) ∧ Hid (RowI 3 .i64 wr bo N R) ∧ Hid (Adds w wr)) (fun v89 _ => zn - (intOf v89).toNat)
                case atStart => exact ⟨0, by omega, rfl, Lib.hid (by rw [bumpT_zero]; exact L4.out), X2, A4⟩
                case round =>
                  clear L4 X2 A4
                  obtain ⟨j, hj, rfl, hl, ho, ha⟩ := hrel
                  by_cases hjlt : j < zn
                  · obtain ⟨y, hy⟩ : ∃ y, R[j]? = some y := ⟨_, List.getElem?_eq_getElem (by have := HRL.out; omega)⟩
                    have hyb := numsT_mem.1 (R1.out.mem_iff.1 (List.mem_of_getElem? hy))
                    obtain ⟨i, rfl⟩ : ∃ i : Nat, y = (i : Int) := ⟨y.toNat, by omega⟩
                    have hik : i < N := by omega
                    obtain ⟨b1, b2⟩ := bumpT_next (Q := Q) HND.out hy (by rw [HLEN.out]; exact hik)
                    have oc := ho.out.cell hy
                    have lc := hl.out.cell b1
                    have lf := hl.out.free i
                    have hqb := HQB.out i hik
                    generalize Q[i]! = v at *
                    obtain ⟨hv1, hv2⟩ := hqb
                    have HB2 := Lib.hid b2
                    have hvw : IntKind.u64.wrap (v + 1) = v + 1 := by
                      have : IntKind.u64.wrap (v + 1) = (v + 1) % 18446744073709551616 := by simp [IntKind.wrap, IntKind.signed, IntKind.bits]
                      omega
                    have hji : (j : Int) < (zn : Int) := by omega
                    have hj0 : (0 : Int) ≤ (j : Int) := by omega
                    have hiki : (i : Int) < (N : Int) := by omega
                    have hi0 : (0 : Int) ≤ (i : Int) := by omega
                    clear hy b1 b2 hyb
                    go_wp2
                    exact ⟨⟨j + 1, by omega, by go_num, Lib.hid (by rw [← HB2.out]; exact hl.out.put i _), Lib.hid (ho.out.far (p := ⟨bl, i, none⟩) hlo.symm _), Lib.hid (ha.out.set (p := ⟨bl, i, none⟩) hblw _)⟩, by simp [intOf]; omega⟩
                  · have hjz : zn = j := by omega
                    subst hjz
                    have HF : Hid (bumpT Q R zn = shareT M ws) := Lib.hid (by
                      rw [HQE.out, HSE.out]
                      exact bumpT_share (by rw [← HN.out]; exact R1.out) R2.out HZL.out)
                    go_wp2
                    go_ret
                    exact ⟨bl, rfl, hblw, by rw [← HMS.out, ← HF.out]; exact hl.out, ha.out⟩

end Go.Proofs.Ytmkpidipoadnbaa
