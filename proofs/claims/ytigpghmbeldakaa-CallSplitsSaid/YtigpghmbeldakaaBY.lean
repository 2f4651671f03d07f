/- Share of the reference: the walk. -/
import Derived.Test.YtigpghmbeldakaaBW
import Derived.Test.YtigpghmbeldakaaBX
import Derived.Deep.LoopGhost
namespace Go.Proofs.Ytigpghmbeldakaa
open Go.RowKit

theorem le_sum : ∀ {ws : List Int}, (∀ x ∈ ws, 0 ≤ x) → ∀ x ∈ ws, x ≤ ws.sum
  | [], _ => fun x hx => by simp at hx
  | y :: ws, h => fun x hx => by
    have hs : 0 ≤ ws.sum := by
      have : ∀ l : List Int, (∀ x ∈ l, 0 ≤ x) → 0 ≤ l.sum := by
        intro l
        induction l with
        | nil => intro _; simp
        | cons z l ih => intro h; have := h z (by simp); have := ih (fun x hx => h x (by simp [hx])); simp only [List.sum_cons]; omega
      exact this ws (fun x hx => h x (by simp [hx]))
    have hy := h y (by simp)
    simp only [List.sum_cons]
    rcases List.mem_cons.1 hx with rfl | hx
    · omega
    · have := le_sum (ws := ws) (fun x hx => h x (by simp [hx])) x hx
      omega

theorem FirstMax.start {M : List Int} (h : 0 < M.length) : FirstMax M 1 0 := by
  refine ⟨h, fun j hj => ?_⟩
  have : j = 0 := by omega
  subst this
  omega

/-- The rows of the reference's sharing. -/
structure RSharing (W w : World) (t S : Int) (ws : List Int) (bl br N k : Nat) : Prop where
  l : RowI 2 .i64 w bl N (Filled ((ws.take k).map fun x => t * x / S) N)
  r : RowI 2 .i64 w br N (Filled ((ws.take k).map fun x => t * x % S) N)
  adds : Adds W w

set_option maxRecDepth 100000 in
set_option maxHeartbeats 4000000 in
theorem RShare_any (t : Int) (p : Option Addr) (cap : Nat) (ws : List Int) (w : World) (hN : ws.length ≤ 5000) (hL : At1 .i64 w p ws) (hq : qOk ws) (h0 : 0 ≤ t) (h1 : t ≤ ws.sum) :
    Calls Try.prog 52 #[.int .i64 t, .slice p ws.length cap] w (RowGot 2 (shareT t ws) w) := by
  obtain ⟨j0, hj, hj0, hj1, hj2⟩ := info_parts info2
  have HJ := Lib.hid hj
  have HJ0 := Lib.hid hj0
  have HJ1 := Lib.hid hj1
  have HJ2 := Lib.hid hj2
  have hSb := (sum_take_bd ws hq)
  obtain ⟨S, hS⟩ : ∃ S : Int, S = ws.sum := ⟨_, rfl⟩
  obtain ⟨N, hNl⟩ : ∃ N, N = ws.length := ⟨_, rfl⟩
  rw [← hS] at h1 hSb
  rw [← hNl] at hN hSb ⊢
  have HSE := Lib.hid hS
  have HN := Lib.hid hNl
  have HL := Lib.hid hL
  have HQ := Lib.hid hq
  have hS1 : S ≤ 5000000000000 := by omega
  have hS0 : 0 ≤ S := hSb.1
  clear hj hj0 hj1 hj2 hS hNl hL hq hSb
  go_enter Try.func52, Try.ntmps52
  go_wp2
  go_loopw [5, 6] (fun v5 v6 wr => ∃ k : Nat, k ≤ N ∧ v6 = .int .i64 k ∧ v5 = .int .i64 (ws.take k).sum ∧ w = wr) (fun _ v6 _ => N - (intOf v6).toNat)
  case atStart => exact ⟨0, by omega, rfl, by simp, rfl⟩
  case round =>
    obtain ⟨k, hk, rfl, rfl, rfl⟩ := hrel
    by_cases hlt : k < N
    · obtain ⟨x, hx⟩ : ∃ x, ws[k]? = some x := ⟨_, List.getElem?_eq_getElem (by have := HN.out; omega)⟩
      obtain ⟨gp, offp, rfl, d0⟩ := HL.out k _ hx
      have hb1 := sum_take_bd _ (HQ.out.take k)
      have hlen : ((ws.take k).length : Int) ≤ 5000 := by rw [List.length_take]; omega
      have hxb := HQ.out x (List.mem_of_getElem? hx)
      have HT : Hid ((ws.take (k + 1)).sum = (ws.take k).sum + x) := Lib.hid (by rw [take_next hx, List.sum_append]; simp)
      generalize (ws.take k).sum = sk at *
      have hs0 : 0 ≤ sk := hb1.1
      have hs1 : sk ≤ 5000000000000 := by have := hb1.2; omega
      clear hx hb1 hlen
      go_wp2
      exact ⟨⟨k + 1, by omega, by go_num, by rw [HT.out], trivial⟩, by simp [intOf]; omega⟩
    · have hkN : k = N := by omega
      have hfull : (ws.take k).sum = S := by rw [List.take_of_length_le (by have := HN.out; omega)]; exact HSE.out.symm
      rw [hfull]
      clear hfull hlt hk
      subst hkN
      go_upto_region 7 with (refine wpList_make_full _ rfl _ _ 36 rfl w.heap.size 2 j0 (.int .i64 0) 1 Try.underlying36 HJ.out HJ0.out HJ1.out .i64 .i64 (k : Int) (k : Int) k rfl rfl rfl rfl (by rw [HJ2.out]; omega) (by unfold maxLen; omega) (Nat.le_refl _) ?_; intro w1 ho hg; have HO := Lib.hid (made_rowI ho); have HA : Hid (Adds w w1) := Lib.hid ⟨hg.os, hg.tape, hg.output, hg.size, fun k hk => hg.block k hk (by simp)⟩; clear ho hg)
      by_cases hSz : S = 0
      · have ht0 : t = 0 := by omega
        have HSH : Hid (shareT t ws = List.replicate k 0) := Lib.hid (by rw [HN.out]; exact shareT_zero (Or.inr trivial) t ht0)
        subst hSz
        clear ht0
        go_wp2
        go_ret
        exact ⟨w.heap.size, k, by rw [HSH.out, List.length_replicate]; rfl, Nat.le_refl _, by rw [HSH.out]; exact HO.out, HA.out⟩
      · have hSp : 0 < S := by omega
        have hSd : (S == 0) = false := beq_eq_false_iff_ne.2 hSz
        have hN0 : 0 < k := by
          rcases Nat.eq_zero_or_pos k with h | h
          · have h1 := HN.out
            rw [h] at h1
            have : ws = [] := List.length_eq_zero_iff.1 h1.symm
            have h2 := HSE.out
            rw [this] at h2
            simp at h2
            omega
          · exact h
        clear hSz
        obtain ⟨bl, hbl⟩ : ∃ b, b = w.heap.size := ⟨_, rfl⟩
        have HBL := Lib.hid hbl
        rw [← hbl] at HO ⊢
        clear hbl
        have hl1 := HO.out.lt
        go_upto_region 11 with (refine wpList_make_full _ rfl _ _ 36 rfl w1.heap.size 2 j0 (.int .i64 0) 1 Try.underlying36 HJ.out HJ0.out HJ1.out .i64 .i64 (k : Int) (k : Int) k rfl rfl rfl rfl (by rw [HJ2.out]; omega) (by unfold maxLen; omega) (Nat.le_refl _) ?_; intro w2 ho hg; have HO2 := Lib.hid (made_rowI ho); have HA2 : Hid (Adds w1 w2) := Lib.hid ⟨hg.os, hg.tape, hg.output, hg.size, fun k hk => hg.block k hk (by simp)⟩; clear ho hg)
        obtain ⟨br, hbr⟩ : ∃ b, b = w1.heap.size := ⟨_, rfl⟩
        have HBR : Hid (w.heap.size ≤ br) := Lib.hid (by rw [hbr]; exact HA.out.size)
        rw [← hbr] at HO2 hl1 ⊢
        have hne : bl ≠ br := by omega
        have hne2 : br ≠ bl := by omega
        have hsh : Hid (RSharing w w2 t S ws bl br k 0) := Lib.hid ⟨by simpa [Filled] using HO.out.later HA2.out, by simpa [Filled] using HO2.out, HA.out.trans HA2.out⟩
        have h00 : Hid (t = t - ((ws.take 0).map fun x => t * x / S).sum) := Lib.hid (by simp)
        clear hbr HO HO2 HA HA2 hl1
        go_wp2
        go_loopw [9, 10] (fun v9 v10 wr => ∃ (i : Nat) (z : Int), i ≤ k ∧ v10 = .int .i64 i ∧ v9 = .int .i64 z ∧ Hid (z = t - ((ws.take i).map fun x => t * x / S).sum) ∧ Hid (RSharing w wr t S ws bl br k i)) (fun _ v10 _ => k - (intOf v10).toNat)
        case atStart => exact ⟨0, t, by omega, rfl, rfl, h00, hsh⟩
        case round =>
          obtain ⟨i, z, hi, rfl, rfl, hz, hs⟩ := hrel
          clear hsh h00
          by_cases hlt : i < k
          · obtain ⟨x, hx⟩ : ∃ x, ws[i]? = some x := ⟨_, List.getElem?_eq_getElem (by have := HN.out; omega)⟩
            have hxb := HQ.out x (List.mem_of_getElem? hx)
            have hxS : x ≤ S := by rw [HSE.out]; exact le_sum (fun y hy => (HQ.out y hy).1) x (List.mem_of_getElem? hx)
            obtain ⟨gp, offp, rfl, d0⟩ := HL.out i _ hx
            have c0 := keep_cell hs.out.adds d0
            obtain ⟨q, hqe⟩ : ∃ q, q = t * x / S := ⟨_, rfl⟩
            obtain ⟨r, hre⟩ : ∃ r, r = t * x % S := ⟨_, rfl⟩
            have hport := fun W => muldiv_any t x S W h0 h1 hxb.1 hxS hSp (by omega)
            rw [← hqe, ← hre] at hport
            have HQI : Hid (t * x / S = q) := Lib.hid hqe.symm
            have HRI : Hid (t * x % S = r) := Lib.hid hre.symm
            have HP := Lib.hid hport
            have lf := hs.out.l.free i
            have rf := hs.out.r.free i
            have HLK : Hid (((ws.take i).map fun x => t * x / S).length = i ∧ ((ws.take i).map fun x => t * x % S).length = i) := Lib.hid (by constructor <;> (rw [List.length_map, List.length_take]; have := HN.out; omega))
            have lc := hs.out.l.cell (j := i) (x := 0) (Filled.at HLK.out.1 hlt)
            have rc := hs.out.r.cell (j := i) (x := 0) (Filled.at HLK.out.2 hlt)
            have HNX : Hid (∀ f : Int → Int, (ws.take (i + 1)).map f = (ws.take i).map f ++ [f x]) := Lib.hid (fun f => by rw [take_next hx, List.map_append]; rfl)
            have hzb := left_k_bd (k := i) hSp HSE.out h0 (fun y hy => (HQ.out y hy).1)
            rw [← hz.out] at hzb
            obtain ⟨hzb1, hzb2⟩ := hzb
            have hqb : 0 ≤ q ∧ q ≤ t := by
              have h1 := left_k_bd (k := i + 1) hSp HSE.out h0 (fun y hy => (HQ.out y hy).1)
              rw [HNX.out, List.sum_append] at h1
              simp only [List.sum_cons, List.sum_nil, Int.add_zero, HQI.out] at h1
              have h2 := hz.out
              refine ⟨?_, by omega⟩
              rw [hqe]
              exact Int.ediv_nonneg (Int.mul_nonneg h0 hxb.1) (by omega)
            obtain ⟨hqb1, hqb2⟩ := hqb
            have HR1 := Lib.hid ((hs.out.l.put i q).far (p := ⟨br, i, none⟩) hne (.int .i64 r))
            have HR2 := Lib.hid ((hs.out.r.far (p := ⟨bl, i, none⟩) hne2 (.int .i64 q)).put i r)
            have hki : (i : Int) < (k : Int) := by omega
            clear hport hqe hre d0 hxb hx
            go_wp2_with (go_at_call 77; refine (HP.out _).mono ?_; rintro e w1 ⟨rfl, rfl⟩)
            go_roundw
            case rel =>
              exact ⟨i + 1, z - q, by omega, by go_num, rfl, Lib.hid (by rw [HNX.out, List.sum_append, hz.out]; simp only [List.sum_cons, List.sum_nil, Int.add_zero, HQI.out]; omega),
                Lib.hid ⟨by rw [HNX.out, HQI.out, ← Filled.next HLK.out.1 hlt]; exact HR1.out, by rw [HNX.out, HRI.out, ← Filled.next HLK.out.2 hlt]; exact HR2.out, (hs.out.adds.set (by have := HBL.out; show w.heap.size ≤ bl; omega) _).set (by have := HBR.out; show w.heap.size ≤ br; omega) _⟩⟩
            case measure => simp [intOf]; omega
          · have hik : i = k := by omega
            subst hik
            have hlenq : (ws.map fun x => t * x / S).length = i := by rw [List.length_map]; exact HN.out.symm
            have hlenr : (ws.map fun x => t * x % S).length = i := by rw [List.length_map]; exact HN.out.symm
            have hl := hs.out.l
            have hr := hs.out.r
            rw [List.take_of_length_le (by rw [← HN.out]; omega), Filled.full hlenq] at hl
            rw [List.take_of_length_le (by rw [← HN.out]; omega), Filled.full hlenr] at hr
            have hZ : z = shareLeft t ws := by rw [hz.out, List.take_of_length_le (by rw [← HN.out]; omega)]; unfold shareLeft; rw [← HSE.out]
            have hzb := left_bd2 (t := t) (ws := ws) (by rw [← HSE.out]; exact hSp)
            rw [← hZ, ← HN.out] at hzb
            obtain ⟨zl, rfl⟩ : ∃ zl : Nat, z = (zl : Int) := ⟨z.toNat, by omega⟩
            have hzi : zl < i := by omega
            obtain ⟨R, hR1, hR2⟩ := order_ex (shareKey t ws) i
            have HRP := Lib.hid hR1
            have HRS := Lib.hid hR2
            have HND : Hid (R.Nodup) := Lib.hid (hR1.nodup_iff.2 ((numsT_asc i).imp (fun {a b} h => by omega)))
            have hgw : ∀ j, j < i → ∃ x, ws[j]? = some x ∧ ws[j]! = x ∧ 0 ≤ x ∧ x ≤ 1000000000 := fun j hj => by
              obtain ⟨x, hx⟩ : ∃ x, ws[j]? = some x := ⟨_, List.getElem?_eq_getElem (by have := HN.out; omega)⟩
              have := HQ.out x (List.mem_of_getElem? hx)
              exact ⟨x, hx, by rw [List.getElem!_eq_getElem?_getD, hx]; rfl, this.1, this.2⟩
            have hgm : ∀ j, j < i → (ws.map fun x => t * x % S)[j]! = t * ws[j]! % S ∧ (ws.map fun x => t * x / S)[j]! = t * ws[j]! / S := fun j hj => by
              obtain ⟨x, hx, hx2, _⟩ := hgw j hj
              constructor <;> (rw [List.getElem!_eq_getElem?_getD, List.getElem?_map, hx, hx2]; rfl)
            have HMB : Hid (∀ j, j < (ws.map fun x => t * x % S).length → 0 ≤ (ws.map fun x => t * x % S)[j]!) := Lib.hid (fun j hj => by rw [(hgm j (by omega)).1]; exact Int.emod_nonneg _ (by omega))
            have HMB2 : Hid (∀ j, j < i → (ws.map fun x => t * x % S)[j]! ≤ 5000000000000) := Lib.hid (fun j hj => by rw [(hgm j hj).1]; have := Int.emod_lt_of_pos (t * ws[j]!) hSp; omega)
            have HKEY : Hid (∀ j, j < (ws.map fun x => t * x % S).length → shareKey t ws j = -(ws.map fun x => t * x % S)[j]!) := Lib.hid (fun j hj => by rw [(hgm j (by omega)).1]; unfold shareKey; rw [← HSE.out])
            have HQB : Hid (∀ j, j < i → 0 ≤ (ws.map fun x => t * x / S)[j]! ∧ (ws.map fun x => t * x / S)[j]! ≤ 1000000000) := Lib.hid (fun j hj => by
              obtain ⟨x, hx, hx2, hx3, hx4⟩ := hgw j hj
              rw [(hgm j hj).2, hx2]
              refine ⟨Int.ediv_nonneg (Int.mul_nonneg h0 hx3) (by omega), ?_⟩
              refine Int.ediv_le_of_le_mul hSp ?_
              rw [Int.mul_comm]
              exact Int.mul_le_mul hx4 h1 (by omega) (by omega))
            have HSH : Hid (bumpT (ws.map fun x => t * x / S) R zl = shareT t ws) := Lib.hid (by
              have := bumpT_share (t := t) (ws := ws) (R := R) (z := zl) (by rw [← HN.out]; exact hR1) hR2 hZ
              rw [← HSE.out] at this
              exact this)
            obtain ⟨Q, hQ⟩ : ∃ Q, Q = ws.map fun x => t * x / S := ⟨_, rfl⟩
            obtain ⟨M, hM⟩ : ∃ M, M = ws.map fun x => t * x % S := ⟨_, rfl⟩
            rw [← hQ] at hl hlenq HQB HSH
            rw [← hM] at hr hlenr HMB HMB2 HKEY
            have HLQ := Lib.hid hlenq
            have HLM := Lib.hid hlenr
            have HL0 : Hid (RowI 2 .i64 wr bl i (bumpT Q R 0)) := Lib.hid (by rw [bumpT_zero]; exact hl)
            have HM0 : Hid (RowI 2 .i64 wr br i (maskT M R 0)) := Lib.hid (by rw [maskT_zero]; exact hr)
            have HAW := Lib.hid hs.out.adds
            obtain ⟨z0, hz0⟩ : ∃ z0 : Int, z0 = (zl : Int) := ⟨_, rfl⟩
            rw [← hz0]
            have HZ0 := Lib.hid hz0
            clear hl hr hZ hzb hR1 hR2 hgw hgm hQ hM hlenq hlenr hs hz hz0 hlt hi
            go_wp2
            go_loopw [9] (fun v9 wr => ∃ (a : Nat) (y : Int), a ≤ zl ∧ v9 = .int .i64 y ∧ Hid (y = (zl : Int) - a) ∧ Hid (RowI 2 .i64 wr bl i (bumpT Q R a)) ∧ Hid (RowI 2 .i64 wr br i (maskT M R a)) ∧ Hid (Adds w wr)) (fun v9 _ => (intOf v9).toNat)
            case atStart => exact ⟨0, z0, by omega, rfl, Lib.hid (by have := HZ0.out; omega), HL0, HM0, HAW⟩
            case round =>
              obtain ⟨a, y, ha, rfl, hy, hrl, hrm, hadd⟩ := hrel
              rename World => wo
              clear HL0 HM0 HAW HZ0
              by_cases hy0 : 0 < y
              · have hai : a < i := by have := hy.out; omega
                have hy1 : y ≤ 5000 := by have := hy.out; omega
                have HF1 : Hid (FirstMax (maskT M R a) 1 0) := Lib.hid (FirstMax.start (by rw [maskT_len, HLM.out]; exact hN0))
                go_wp2
                go_loopw [13, 14] (fun v13 v14 wx => ∃ (u j : Nat), u < i ∧ j ≤ i ∧ u ≤ j ∧ v13 = .int .i64 u ∧ v14 = .int .i64 j ∧ Hid (FirstMax (maskT M R a) j u) ∧ Hid (Adds wo wx)) (fun _ v14 _ => i - (intOf v14).toNat)
                case atStart => exact ⟨0, 1, hN0, by omega, by omega, rfl, rfl, HF1, Lib.hid (Adds.refl _)⟩
                case round =>
                  obtain ⟨u, j, hu, hj, huj, rfl, rfl, hfm, hax⟩ := hrel
                  clear HF1
                  have hrm2 := hrm.out.later hax.out
                  by_cases hlt : j < i
                  · obtain ⟨mj, hmj⟩ : ∃ x, (maskT M R a)[j]? = some x := ⟨_, List.getElem?_eq_getElem (by rw [maskT_len, HLM.out]; exact hlt)⟩
                    obtain ⟨mu, hmu⟩ : ∃ x, (maskT M R a)[u]? = some x := ⟨_, List.getElem?_eq_getElem (by rw [maskT_len, HLM.out]; exact hu)⟩
                    have c1 := hrm2.cell hmj
                    have c2 := hrm2.cell hmu
                    have HJ1' : Hid ((maskT M R a)[j]! = mj) := Lib.hid (by rw [List.getElem!_eq_getElem?_getD, hmj]; rfl)
                    have HU1 : Hid ((maskT M R a)[u]! = mu) := Lib.hid (by rw [List.getElem!_eq_getElem?_getD, hmu]; rfl)
                    have hji : (j : Int) < (i : Int) := by omega
                    have hui : (u : Int) < (i : Int) := by omega
                    clear hmj hmu hrm2
                    go_upto_region 24 with fail
                    by_cases hc : mu < mj
                    · have hd : decide (mu < mj) = true := decide_eq_true hc
                      have HFN := Lib.hid (hfm.out.take (by rw [HJ1'.out, HU1.out]; exact hc) (by rw [maskT_len, HLM.out]; exact hlt))
                      go_quiet (fail)
                      go_wp2
                      go_roundw
                      case rel => exact ⟨j, j + 1, hlt, by omega, by omega, rfl, by go_num, HFN, Lib.hid (hax.out.drewN _)⟩
                      case measure => simp [intOf]; omega
                    · have hd : decide (mu < mj) = false := decide_eq_false hc
                      have HFN := Lib.hid (hfm.out.skip (by rw [HJ1'.out, HU1.out]; omega) huj)
                      go_quiet (fail)
                      go_wp2
                      go_roundw
                      case rel => exact ⟨u, j + 1, hu, by omega, by omega, rfl, by go_num, HFN, Lib.hid (hax.out.drewN _)⟩
                      case measure => simp [intOf]; omega
                  · have hji : j = i := by omega
                    subst hji
                    have hpk : R[a]? = some (u : Int) := pick_next HKEY.out HMB.out (by rw [HLM.out]; exact HRP.out) HRS.out (by rw [HLM.out]; exact hai) (by rw [HLM.out]; exact hfm.out)
                    obtain ⟨b1, b2⟩ := bumpT_next (Q := Q) HND.out hpk (by rw [HLQ.out]; exact hu)
                    have b3 := maskT_next (M := M) hpk (by rw [HLM.out]; exact hu)
                    have hqb := HQB.out u hu
                    obtain ⟨mu, hmu⟩ : ∃ x, (maskT M R a)[u]? = some x := ⟨_, List.getElem?_eq_getElem (by rw [maskT_len, HLM.out]; exact hu)⟩
                    have hrl2 := hrl.out.later hax.out
                    have c1 := hrl2.cell b1
                    have c2 := hrm2.cell hmu
                    have f1 := hrl2.free u
                    have f2 := hrm2.free u
                    obtain ⟨qu, hqu⟩ : ∃ x, x = Q[u]! := ⟨_, rfl⟩
                    rw [← hqu] at c1 b2 hqb
                    have HR1 := Lib.hid ((hrl2.put u (qu + 1)).far (p := ⟨br, u, none⟩) hne (.int .i64 (-1)))
                    have HR2 := Lib.hid ((hrm2.far (p := ⟨bl, u, none⟩) hne2 (.int .i64 (qu + 1))).put u (-1))
                    have HAX : Hid (Adds w wr) := Lib.hid (hadd.out.trans hax.out)
                    rw [b2] at HR1
                    rw [b3] at HR2
                    obtain ⟨hq0, hq1⟩ := hqb
                    have hui : (u : Int) < (j : Int) := by omega
                    clear hpk b1 b2 b3 hmu hqu hrl2 hrm2
                    go_wp2
                    go_roundw
                    case rel => exact ⟨a + 1, y - 1, by have := hy.out; omega, rfl, Lib.hid (by have := hy.out; omega), HR1, HR2, Lib.hid ((HAX.out.set (by have := HBL.out; show w.heap.size ≤ bl; omega) _).set (by have := HBR.out; show w.heap.size ≤ br; omega) _)⟩
                    case measure => simp [intOf]; omega
              · have haz : a = zl := by have := hy.out; omega
                subst haz
                have hrl2 := hrl.out
                rw [HSH.out] at hrl2
                have HRL := Lib.hid hrl2
                have hyd : decide (0 < y) = false := decide_eq_false hy0
                clear hrl2
                go_wp2
                go_ret
                exact ⟨bl, i, by rw [shareT_len, ← HN.out]; rfl, by have := HBL.out; omega, HRL.out, hadd.out⟩

end Go.Proofs.Ytigpghmbeldakaa
