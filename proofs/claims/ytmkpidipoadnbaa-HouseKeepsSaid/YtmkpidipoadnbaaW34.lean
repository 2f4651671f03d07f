/- draw: an amount taken out of pots. -/
import Derived.Test.YtmkpidipoadnbaaW33
namespace Go.Proofs.Ytmkpidipoadnbaa
open Go Go.RowKit Go.Sort

abbrev At := Nat × Nat
def ptrV (a : At) : Value := .pointer (some ⟨a.1, a.2, none⟩)
/-- Numbers written one after the other. -/
def putAll : World → List (At × Int) → World
  | w, [] => w
  | w, (a, v) :: r => putAll (w.setCell ⟨a.1, a.2, none⟩ (.int .i64 v)) r
theorem putAll_snoc : ∀ (l : List (At × Int)) (w : World) (a : At) (v : Int), putAll w (l ++ [(a, v)]) = (putAll w l).setCell ⟨a.1, a.2, none⟩ (.int .i64 v)
  | [], _, _, _ => rfl
  | (b, u) :: l, w, a, v => putAll_snoc l (w.setCell ⟨b.1, b.2, none⟩ (.int .i64 u)) a v
theorem set_other {w : World} {a b : At} (h : a ≠ b) (v u : Value) (hc : w.cell? ⟨a.1, a.2, none⟩ = some u) : (w.setCell ⟨b.1, b.2, none⟩ v).cell? ⟨a.1, a.2, none⟩ = some u := by
  by_cases c : a.1 = b.1
  · have hne : (⟨b.1, b.2, none⟩ : Addr) ≠ ⟨a.1, a.2, none⟩ := fun e => h (by injection e with e1 e2 e3; exact Prod.ext e1.symm e2.symm)
    exact (show (w.setCell ⟨b.1, b.2, none⟩ v).cell? ⟨a.1, a.2, none⟩ = w.cell? ⟨a.1, a.2, none⟩ by first | exact World.cell?_setCell_other _ _ _ _ hne | exact World.cell?_setCell_other _ _ _ hne | exact World.cell?_setCell_other _ _ hne | exact World.cell?_setCell_other _ hne | (rw [World.cell?_setCell_other]; exact hne)).trans hc
  · exact keep_far2 (p := ⟨b.1, b.2, none⟩) c hc v
theorem putAll_cell : ∀ (l : List (At × Int)) {w : World} {a : At} {u : Value}, (∀ x ∈ l, x.1 ≠ a) → w.cell? ⟨a.1, a.2, none⟩ = some u → (putAll w l).cell? ⟨a.1, a.2, none⟩ = some u
  | [], _, _, _, _, h => h
  | (b, v) :: l, w, a, u, hne, h => putAll_cell l (fun x hx => hne x (by simp [hx])) (set_other (fun e => hne (b, v) (by simp) e.symm) _ _ h)
theorem putAll_touch {O : Nat → Prop} {a : World} : ∀ (l : List (At × Int)) {w : World}, (∀ x ∈ l, O x.1.1) → Touch O a w → Touch O a (putAll w l)
  | [], _, _, h => h
  | (b, v) :: l, w, hO, h => putAll_touch l (fun x hx => hO x (by simp [hx])) (h.set (p := ⟨b.1, b.2, none⟩) (hO (b, v) (by simp)) _)
theorem putAll_free : ∀ (l : List (At × Int)) {w : World} {a : At} , w.frozen? ⟨a.1, a.2, none⟩ = false → (putAll w l).frozen? ⟨a.1, a.2, none⟩ = false
  | [], _, _, h => h
  | (b, v) :: l, w, a, h => putAll_free l (by rw [World.frozen?_setCell]; exact h)

def sizeL (vs : List Int) : List Int := vs.map fun v => max v (-v)
/-- A number that is nearer to 0 by a share. -/
def nearV (v f : Int) : Int := if v < 0 then v + f else v - f
def nearL (vs fs : List Int) : List Int := List.zipWith nearV vs fs
theorem sizeL_len (vs : List Int) : (sizeL vs).length = vs.length := by simp [sizeL]
theorem nearL_get {vs fs : List Int} {i : Nat} {v f : Int} (h1 : vs[i]? = some v) (h2 : fs[i]? = some f) : (nearL vs fs)[i]? = some (nearV v f) := by
  unfold nearL
  rw [List.getElem?_zipWith, h1, h2]
theorem shareU_len (A : Int) (ws : List Int) : (shareU A ws).length = ws.length := shareT_len _ _
theorem shareU_bd {A : Int} {ws : List Int} (hA : 0 ≤ A) (hw : ∀ x ∈ ws, 0 ≤ x) {i : Nat} {x : Int} (hx : ws[i]? = some x) : ∃ y, (shareU A ws)[i]? = some y ∧ 0 ≤ y ∧ y ≤ x := by
  have h0 := sum_nonneg hw
  by_cases h : ws.sum = 0
  · refine ⟨0, ?_, by omega, hw x (List.mem_of_getElem? hx)⟩
    unfold shareU
    rw [h, show min A 0 = 0 by omega, shareT_zero, List.getElem?_replicate, if_pos (List.getElem?_eq_some_iff.1 hx).1]
  · exact shareT_bd (by omega) (by omega) (by omega) hx (hw x (List.mem_of_getElem? hx))
theorem shareU_sum {A : Int} {ws : List Int} (hA : 0 ≤ A) (hw : ∀ x ∈ ws, 0 ≤ x) : (shareU A ws).sum = min A ws.sum := by
  have h0 := sum_nonneg hw
  by_cases h : ws.sum = 0
  · unfold shareU
    rw [h, show min A 0 = 0 by omega, shareT_zero]
    induction ws.length with
    | zero => rfl
    | succ n ih => rw [List.replicate_succ, List.sum_cons, ih]; rfl
  · exact shareT_sum (by omega)
/-- What draw does. -/
def DrawGot (A : Int) (ads : List At) (vs : List Int) (w : World) (e : Ending) (w' : World) : Prop := ∃ W1, e = .returned (.int .u64 (shareU A (sizeL vs)).sum) ∧ Adds w W1 ∧ w' = putAll W1 (ads.zip (nearL vs (shareU A (sizeL vs))))

set_option maxRecDepth 100000 in
set_option maxHeartbeats 2000000 in
theorem draw_any (A : Int) (p : Option Addr) (c : Nat) (ads : List At) (vs : List Int) (w : World) (hlen : vs.length = ads.length) (hn : ads.length ≤ 20) (hP : CellsAt w p (ads.map ptrV)) (hsep : ∀ a ∈ ads, ∀ q, p = some q → a.1 ≠ q.block)
    (hv : ∀ (i : Nat) (a : At) (v : Int), ads[i]? = some a → vs[i]? = some v → w.cell? ⟨a.1, a.2, none⟩ = some (.int .i64 v) ∧ w.frozen? ⟨a.1, a.2, none⟩ = false) (hnd : ads.Nodup) (hb : ∀ v ∈ vs, -4611686018427387904 ≤ v ∧ v ≤ 4611686018427387904) (hA0 : 0 ≤ A) (hA1 : A ≤ 9223372036854775807) :
    Calls Try.prog 43 #[.int .u64 A, .slice p ads.length c] w (DrawGot A ads vs w) := by
  obtain ⟨j0, hj, hj0, hj1, hj2⟩ := info_parts info_u64
  have HJ := Lib.hid hj
  have HJ0 := Lib.hid hj0
  have HJ1 := Lib.hid hj1
  have HJ2 := Lib.hid hj2
  have hwn : ∀ x ∈ sizeL vs, 0 ≤ x ∧ x ≤ 4611686018427387904 := fun x hx => by
    obtain ⟨v, h1, rfl⟩ := List.mem_map.1 hx
    have := hb v h1
    omega
  have HSH := Lib.hid (fun (p : Option Addr) (c : Nat) (W : World) (h : CellsAt W p ((sizeL vs).map (Value.int .u64))) => shares_any A p c (sizeL vs) W h (by rw [sizeL_len]; omega) hwn hA0 hA1)
  unfold DrawGot
  unfold ShareGot at HSH
  have hsum := shareU_sum (A := A) hA0 (fun x hx => (hwn x hx).1)
  have HFB : Hid (∀ (i : Nat) (v : Int), vs[i]? = some v → ∃ f, (shareU A (sizeL vs))[i]? = some f ∧ 0 ≤ f ∧ f ≤ max v (-v)) := Lib.hid (fun i v hi => shareU_bd hA0 (fun x hx => (hwn x hx).1) (by unfold sizeL; rw [List.getElem?_map, hi]; rfl))
  obtain ⟨fs, hfs⟩ : ∃ fs, fs = shareU A (sizeL vs) := ⟨_, rfl⟩
  have hfl : fs.length = vs.length := by rw [hfs, shareU_len, sizeL_len]
  rw [← hfs] at HSH hsum HFB ⊢
  obtain ⟨n, hnn⟩ : ∃ n, n = ads.length := ⟨_, rfl⟩
  rw [← hnn] at hn hlen ⊢
  have HSL : Hid ((sizeL vs).length = n) := Lib.hid (by rw [sizeL_len]; exact hlen)
  rw [HSL.out] at HSH
  have hft : ∀ k, 0 ≤ (fs.take k).sum ∧ (fs.take k).sum ≤ A := fun k => by
    have hf0 : ∀ x ∈ fs, 0 ≤ x := fun x hx => by
      obtain ⟨i, hi⟩ := List.getElem?_of_mem hx
      have hil := (List.getElem?_eq_some_iff.1 hi).1
      obtain ⟨v, hv1⟩ : ∃ v, vs[i]? = some v := ⟨_, List.getElem?_eq_getElem (by omega)⟩
      obtain ⟨f, h1, h2, _⟩ := HFB.out i v hv1
      rw [hi] at h1
      injection h1 with h1
      omega
    have h1 := sum_nonneg (ws := fs.take k) (fun x hx => hf0 x (List.mem_of_mem_take hx))
    have h2 := sum_take_le (ws := fs) k hf0
    omega
  have HFT := Lib.hid hft
  have HNN := Lib.hid hnn
  have HVL := Lib.hid hlen
  have HFL := Lib.hid hfl
  have HV := Lib.hid hv
  have HB := Lib.hid hb
  have HP := Lib.hid hP
  have HSEP := Lib.hid hsep
  have HND := Lib.hid hnd
  clear hj hj0 hj1 hj2 hsum hwn hfs hfl hnn hlen hft hv hb hP hsep hnd
  go_enter Try.func43, Try.ntmps43
  go_upto_region 3 with (refine wpList_make_full _ rfl _ _ 118 rfl w.heap.size 67 j0 (.int .u64 0) 1 Try.underlying118 HJ.out HJ0.out HJ1.out .i64 .i64 (n : Int) (n : Int) n rfl rfl rfl rfl (by rw [HJ2.out]; omega) (by unfold maxLen; omega) (Nat.le_refl _) ?_; intro w1 ho hg; have HO1 := Lib.hid (made_rowI ho); have HA1 : Hid (Adds w w1) := Lib.hid ⟨hg.os, hg.tape, hg.output, hg.size, fun k hk => hg.block k hk (by simp)⟩; clear ho hg)
  obtain ⟨bs, hbs⟩ : ∃ b, b = w.heap.size := ⟨_, rfl⟩
  rw [← hbs] at HO1 ⊢
  have hbw : w.heap.size ≤ bs := Nat.le_of_eq hbs.symm
  clear hbs
  go_loopw [16] (fun v16 wr => ∃ k : Nat, k ≤ n ∧ v16 = .int .i64 k ∧ Hid (RowI 67 .u64 wr bs n (Filled (sizeL (vs.take k)) n)) ∧ Hid (Adds w wr)) (fun v16 _ => n - (intOf v16).toNat)
  case atStart => exact ⟨0, by omega, rfl, Lib.hid (by simpa [Filled, sizeL] using HO1.out), HA1⟩
  case round =>
    obtain ⟨k, hk, rfl, HR, HAD⟩ := hrel
    by_cases hlt : k < n
    · have hlt2 : (k : Int) < (n : Int) := by omega
      have hk0 : (0 : Int) ≤ (k : Int) := by omega
      obtain ⟨⟨ab, ao⟩, ha⟩ : ∃ a, ads[k]? = some a := ⟨_, List.getElem?_eq_getElem (by have := HNN.out; omega)⟩
      obtain ⟨v, hvk⟩ : ∃ v, vs[k]? = some v := ⟨_, List.getElem?_eq_getElem (by have := HVL.out; omega)⟩
      obtain ⟨g, off, rfl, d0⟩ := HP.out k (ptrV (ab, ao)) (by rw [List.getElem?_map, ha]; rfl)
      have c0 := keep_cell HAD.out d0
      unfold ptrV at c0
      dsimp only at c0
      have c1 := keep_cell HAD.out (HV.out k _ v ha hvk).1
      dsimp only at c1
      have hvb := HB.out v (List.mem_of_getElem? hvk)
      have HSZ := Lib.hid (fun W => size_any v W (by omega) (by omega))
      have HNX : Hid (sizeL (vs.take (k + 1)) = sizeL (vs.take k) ++ [max v (-v)]) := Lib.hid (by
        obtain ⟨h1, h2⟩ := List.getElem?_eq_some_iff.1 hvk
        unfold sizeL
        rw [List.take_succ_eq_append_getElem h1, h2, List.map_append]
        rfl)
      have hsl : (sizeL (vs.take k)).length = k := by rw [sizeL_len, List.length_take]; have := HVL.out; omega
      have rc := HR.out.cell (j := k) (x := 0) (Filled.at hsl hlt)
      have rf := HR.out.free k
      obtain ⟨m, hm⟩ : ∃ m, m = max v (-v) := ⟨_, rfl⟩
      rw [← hm] at HSZ HNX
      have HSLK := Lib.hid hsl
      clear ha hvk d0 hvb hm hsl
      go_wp2_with (go_at_call 44; refine (HSZ.out _).mono ?_; rintro e w2 ⟨rfl, rfl⟩)
      exact ⟨⟨k + 1, by omega, by go_num, Lib.hid (by rw [HNX.out, ← Filled.next HSLK.out hlt]; exact HR.out.put k m), Lib.hid (HAD.out.set (p := ⟨bs, k, none⟩) hbw _)⟩, by simp [intOf]; omega⟩
    · have hkn : n = k := by omega
      subst hkn
      have e1 : Filled (sizeL (vs.take n)) n = sizeL vs := by rw [List.take_of_length_le (by rw [HVL.out]; exact Nat.le_refl _), Filled.full HSL.out]
      rw [e1] at HR
      have HCE := Lib.hid (own_cellsAt (HR.out.own (Nat.zero_le bs)))
      clear e1
      go_upto_region 9 with (go_at_call 63; refine (HSH.out _ _ _ HCE.out).mono ?_; rintro e w3 ⟨gs, rfl, h1, h2, h3⟩; have HGS := Lib.hid (Nat.le_trans HAD.out.size h1); have RS := Lib.hid h2; have A3 := Lib.hid (HAD.out.trans h3); clear h1 h2 h3)
      obtain ⟨L, hL⟩ : ∃ L, L = ads.zip (nearL vs fs) := ⟨_, rfl⟩
      have HLG : Hid (∀ (i : Nat) (a : At) (v f : Int), ads[i]? = some a → vs[i]? = some v → fs[i]? = some f → L[i]? = some (a, nearV v f)) := Lib.hid (fun i a v f h1 h2 h3 => by rw [hL, List.getElem?_zip_eq_some]; exact ⟨h1, nearL_get h2 h3⟩)
      have HLM : Hid (∀ (i : Nat) (x : At × Int), L[i]? = some x → ads[i]? = some x.1) := Lib.hid (fun i x h => by rw [hL, List.getElem?_zip_eq_some] at h; exact h.1)
      have HLL : Hid (L.length ≤ n) := Lib.hid (by rw [hL, List.length_zip]; have := HNN.out; omega)
      have HLE := Lib.hid hL
      have HTO : Hid (∀ k, Touch (fun y => ∃ x ∈ ads, x.1 = y) w3 (putAll w3 (L.take k))) := Lib.hid (fun k => putAll_touch _ (fun x hx => by
        obtain ⟨i, hi⟩ := List.getElem?_of_mem (List.mem_of_mem_take hx)
        exact ⟨_, List.mem_of_getElem? (HLM.out i x hi), rfl⟩) (Touch.refl _ _))
      have HBW : Hid (∀ a ∈ ads, a.1 < w.heap.size) := Lib.hid (fun a ha => by
        obtain ⟨i, hi⟩ := List.getElem?_of_mem ha
        have hil := (List.getElem?_eq_some_iff.1 hi).1
        obtain ⟨v, hvi⟩ : ∃ v, vs[i]? = some v := ⟨_, List.getElem?_eq_getElem (by have := HVL.out; have := HNN.out; omega)⟩
        exact cell_lt (HV.out i a v hi hvi).1)
      have hgs : ¬ ∃ x ∈ ads, x.1 = gs := fun ⟨x, hx, e⟩ => by have := HBW.out x hx; have := HGS.out; omega
      clear hL HR HCE HSH HAD hlt HA1 HO1
      go_loopw [33, 8] (fun v33 v8 wr => ∃ (k : Nat) (t : Int), k ≤ n ∧ v33 = .int .i64 k ∧ v8 = .int .u64 t ∧ Hid (t = (fs.take k).sum) ∧ Hid (wr = putAll w3 (L.take k))) (fun v33 _ _ => n - (intOf v33).toNat)
      case atStart => exact ⟨0, 0, by omega, rfl, rfl, Lib.hid rfl, Lib.hid rfl⟩
      case round =>
        obtain ⟨k, t, hk, rfl, rfl, HT, HW⟩ := hrel
        by_cases hlt : k < n
        · have hlt2 : (k : Int) < (n : Int) := by omega
          have hk0 : (0 : Int) ≤ (k : Int) := by omega
          obtain ⟨⟨ab, ao⟩, ha⟩ : ∃ a, ads[k]? = some a := ⟨_, List.getElem?_eq_getElem (by have := HNN.out; omega)⟩
          obtain ⟨v, hvk⟩ : ∃ v, vs[k]? = some v := ⟨_, List.getElem?_eq_getElem (by have := HVL.out; omega)⟩
          obtain ⟨f, hfk, hf0, hf1⟩ := HFB.out k v hvk
          obtain ⟨g, off, rfl, d0⟩ := HP.out k (ptrV (ab, ao)) (by rw [List.getElem?_map, ha]; rfl)
          have hTO := HTO.out k
          rw [← HW.out] at hTO
          have c0 := touch_cell hTO (fun ⟨x, hx, e⟩ => HSEP.out x hx _ rfl e) (keep_cell A3.out d0)
          unfold ptrV at c0
          dsimp only at c0
          have hca := HV.out k _ v ha hvk
          have c1 : wr.cell? ⟨ab, ao, none⟩ = some (.int .i64 v) := by
            rw [HW.out]
            refine putAll_cell (a := (ab, ao)) _ (fun x hx e => ?_) (keep_cell A3.out hca.1)
            obtain ⟨i, hi⟩ := List.getElem?_of_mem hx
            have hil := (List.getElem?_eq_some_iff.1 hi).1
            rw [List.length_take] at hil
            rw [List.getElem?_take_of_lt (by omega)] at hi
            have h1 := HLM.out i x hi
            rw [e] at h1
            obtain ⟨p1, p2⟩ := List.getElem?_eq_some_iff.1 h1
            obtain ⟨q1, q2⟩ := List.getElem?_eq_some_iff.1 ha
            have := (List.getElem_inj HND.out).1 (p2.trans q2.symm)
            omega
          have f1 : wr.frozen? ⟨ab, ao, none⟩ = false := by
            rw [HW.out]
            exact putAll_free (a := (ab, ao)) _ (keep_free A3.out hca.1 hca.2)
          have s1 := (RS.out.touch hTO hgs).cell hfk
          have hvb := HB.out v (List.mem_of_getElem? hvk)
          have HLK := Lib.hid (HLG.out k _ v f ha hvk hfk)
          have HTK : Hid ((fs.take (k + 1)).sum = t + f) := Lib.hid (by
            obtain ⟨h1, h2⟩ := List.getElem?_eq_some_iff.1 hfk
            rw [List.take_succ_eq_append_getElem h1, h2, List.sum_append, HT.out]
            simp)
          have htk := HFT.out (k + 1)
          rw [HTK.out] at htk
          have htb := HFT.out k
          rw [← HT.out] at htb
          have hw1 : IntKind.u64.wrap (t + f) = t + f := by
            have : IntKind.u64.wrap (t + f) = (t + f) % 18446744073709551616 := by simp [IntKind.wrap, IntKind.signed, IntKind.bits]
            omega
          have hw2 : IntKind.i64.wrap f = f := by rw [IntKind.wrap_i64]; omega
          have HWN : Hid (∀ u : Int, (putAll w3 (L.take k)).setCell ⟨ab, ao, none⟩ (.int .i64 u) = putAll w3 (L.take k ++ [((ab, ao), u)])) := Lib.hid (fun u => (putAll_snoc _ _ (ab, ao) u).symm)
          have HTS : Hid (L.take (k + 1) = L.take k ++ [((ab, ao), nearV v f)]) := Lib.hid (by
            obtain ⟨h1, h2⟩ := List.getElem?_eq_some_iff.1 HLK.out
            rw [List.take_succ_eq_append_getElem h1, h2])
          by_cases hneg : v < 0
          · have hw3 : IntKind.i64.wrap (v + f) = v + f := by rw [IntKind.wrap_i64]; omega
            have hd : decide (v < 0) = true := decide_eq_true hneg
            have HNV : Hid (nearV v f = v + f) := Lib.hid (if_pos hneg)
            clear ha hvk hfk d0 hca hTO htk htb hvb hneg
            go_wp2
            exact ⟨⟨k + 1, t + f, by omega, by go_num, rfl, Lib.hid HTK.out.symm, Lib.hid (by rw [HTS.out, HNV.out, ← HWN.out, ← HW.out])⟩, by simp [intOf]; omega⟩
          · have hw3 : IntKind.i64.wrap (v - f) = v - f := by rw [IntKind.wrap_i64]; omega
            have hd : decide (v < 0) = false := decide_eq_false hneg
            have HNV : Hid (nearV v f = v - f) := Lib.hid (if_neg hneg)
            clear ha hvk hfk d0 hca hTO htk htb hvb hneg
            go_wp2
            exact ⟨⟨k + 1, t + f, by omega, by go_num, rfl, Lib.hid HTK.out.symm, Lib.hid (by rw [HTS.out, HNV.out, ← HWN.out, ← HW.out])⟩, by simp [intOf]; omega⟩
        · have hkn : n = k := by omega
          subst hkn
          have e1 : (fs.take n).sum = fs.sum := by rw [List.take_of_length_le (by rw [HFL.out, HVL.out]; exact Nat.le_refl _)]
          have e2 : L.take n = L := List.take_of_length_le HLL.out
          have ht : t = fs.sum := HT.out.trans e1
          rw [e2] at HW
          have HTF := Lib.hid ht
          clear e1 e2 ht
          go_wp2
          go_ret
          exact ⟨w3, (by rw [HTF.out]; rfl), A3.out, by rw [HW.out, HLE.out]⟩

end Go.Proofs.Ytmkpidipoadnbaa
