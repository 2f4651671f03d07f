/- The law DryMore, walked. -/
import Derived.Test.YtkofnhimgegcnaaAV
import Derived.Lib.BufferMore
import Derived.Deep.DeepCutAuto
namespace Go.Proofs.Ytkofnhimgegcnaa
open Go Go.RowKit Go.Sort

theorem news_add4 {w : World} {g off : Nat} {us : List Value} (h : ∀ (j : Nat) (u : Value), us[j]? = some u → w.cell? ⟨g, off + j, none⟩ = some u) : ∀ (j : Nat) (u : Value), us[j]? = some u → w.cell? ((⟨g, off, none⟩ : Addr).add j) = some u := fun j u hu => by
  rw [addr_add2]
  exact h j u hu

set_option maxRecDepth 100000 in
set_option maxHeartbeats 2000000 in
theorem clone_any (g off cl : Nat) (l : List Ld) (w : World) (hL : LoadsAt w (some ⟨g, off, none⟩) l) (h0 : 0 < l.length) (hl : l.length ≤ 1000) :
    Calls Try.prog 84 #[.slice (some ⟨g, off, none⟩) l.length cl] w fun e w' => ∃ c q, e = .returned (.slice q l.length c) ∧ Loads w' 84 w.heap.size (.slice q l.length c) l ∧ Adds w w' := by
  obtain ⟨i0, hi, hi0, hi1, hi2⟩ := info_parts info84
  have HI := Lib.hid hi
  have HI0 := Lib.hid hi0
  have HI1 := Lib.hid hi1
  have HI2 := Lib.hid hi2
  have HNW : Hid (∀ W, Adds w W → ∀ (j : Nat) (u : Value), (l.flatMap enc4)[j]? = some u → W.cell? ((⟨g, off, none⟩ : Addr).add j) = some u) := Lib.hid (fun W hW => news_add4 (fun j u hu => loads_flat (hL.later hW) j u hu))
  obtain ⟨n, hn⟩ : ∃ n, n = l.length := ⟨_, rfl⟩
  rw [← hn] at hl h0 ⊢
  have HN := Lib.hid hn
  clear hi hi0 hi1 hi2 hL hn
  have hnil := fun (w : World) => Go.Lib.run_eql_slice_some_nil (P := Try.prog) w (⟨g, off, none⟩ : Addr) n cl Try.underlying30
  have hw0 : ∀ V : World, V = w.alloc (.cells #[] 84) → V.ownsRow w.heap.size 84 4 (.slice (some ⟨w.heap.size, 0, none⟩) 0 0) 0 [] := fun V hV => by
    subst hV
    exact ⟨rfl, Or.inr ⟨w.heap.size, 0, #[], rfl, Nat.le_refl _, Box.new _ _ _, Nat.le_refl _, by unfold maxLen; omega, rfl, rfl⟩⟩
  have HW0 := Lib.hid hw0
  clear hw0
  go_enter Try.func84, Try.ntmps84
  go_wp2_with (at_builtin; ((refine wpList_append_lies _ rfl _ _ 30 rfl w.heap.size 84 i0 (.agg #[.int .i64 0, .int .i64 0, .int .i64 0, .int .i64 0]) 4 32 Try.underlying30 HI.out HI0.out HI1.out HI2.out rfl (by decide) (.slice (some ⟨w.heap.size, 0, none⟩) 0 0) 0 [] rfl (HW0.out _ rfl) ⟨g, off, none⟩ n cl (l.flatMap enc4) rfl (by rw [flat4_len, HN.out]) (HNW.out _ ((Adds.refl w).alloc _)) (flat4_one _) h0 (by unfold maxLen; omega) (by omega) (by simp) (w.heap.size + 1) (by simp) ?_); intro g6 c6 w6 ho6 hg6 hl6 hs6; have HO6 := Lib.hid ho6; have HG6 := Lib.hid hg6; clear ho6 hg6 hl6))
  go_ret
  refine ⟨c6, some ⟨g6, 0, none⟩, by simp, ?_, ?_⟩
  · have := HO6.out
    rw [Nat.zero_add, List.nil_append] at this
    unfold Loads
    rw [← HN.out]
    exact this
  · exact Below.grown ((Adds.refl w).alloc _) HG6.out (by simp) (fun j hj => by simp [Value.ownBlock] at hj; omega)

/-- Loads that are due later. -/
def laterL (l : List Ld) (d : Int) : List Ld := l.map (fun x => (x.1, x.2.1 + d, x.2.2.1, x.2.2.2))
theorem laterL_len (l : List Ld) (d : Int) : (laterL l d).length = l.length := by simp [laterL]
theorem laterL_total (l : List Ld) (d : Int) : totalL (laterL l d) = totalL l := by simp [totalL, laterL, Function.comp_def]

theorem flat4_due : ∀ {L : List Ld} {k : Nat} {x : Ld} (v : Int), L[k]? = some x → (L.flatMap enc4).set (k * 4 + 1) (.int .i64 v) = (L.set k (x.1, v, x.2.2.1, x.2.2.2)).flatMap enc4
  | [], k, x, v, h => by simp at h
  | y :: L, 0, x, v, h => by simp at h; subst h; simp [enc4]
  | y :: L, k + 1, x, v, h => by
    have ih := flat4_due (L := L) (k := k) v (by simpa using h)
    rw [show (k + 1) * 4 + 1 = (k * 4 + 1) + 1 + 1 + 1 + 1 by omega]
    simp only [List.set_cons_succ, List.flatMap_cons, enc4, List.cons_append, List.nil_append]
    rw [← ih]

set_option maxRecDepth 100000 in
set_option maxHeartbeats 2000000 in
theorem later_any (p : Option Addr) (cl : Nat) (l : List Ld) (d : Int) (w : World) (hL : LoadsAt w p l) (h0 : 0 < l.length) (hl : l.length ≤ 256) (hd : 0 ≤ d ∧ d ≤ 1000000000) (hok : ∀ x ∈ l, okN x) :
    Calls Try.prog 64 #[.slice p l.length cl, .int .i64 d] w fun e w' => ∃ c q, e = .returned (.slice q l.length c) ∧ LoadsAt w' q (laterL l d) ∧ Adds w w' := by
  obtain ⟨x0, hx0⟩ : ∃ x, l[0]? = some x := ⟨_, List.getElem?_eq_getElem h0⟩
  obtain ⟨g, off, rfl, _⟩ := hL 0 x0 hx0
  have HCL := Lib.hid (clone_any g off cl l w hL h0 (by omega))
  have HBD : Hid (∀ (i : Nat) (x : Ld), l[i]? = some x → 0 ≤ x.2.1 ∧ x.2.1 ≤ 1000000000) := Lib.hid (fun i x hx => by have := hok x (List.mem_of_getElem? hx); unfold okN at this; omega)
  obtain ⟨n, hn⟩ : ∃ n, n = l.length := ⟨_, rfl⟩
  rw [← hn] at hl h0 HCL ⊢
  have HN := Lib.hid hn
  obtain ⟨hd0, hd1⟩ := hd
  clear hL hn hx0 hok
  go_enter Try.func64, Try.ntmps64
  go_upto_region 3 with (go_at_call 84; refine HCL.out.mono ?_; rintro e w1 ⟨c, q, rfl, hq, hb1⟩; have HQ := Lib.hid hq; have HB1 := Lib.hid hb1; clear hq hb1)
  have HQ0 : Hid (w1.ownsRow w.heap.size 84 4 (.slice q n c) n (l.flatMap enc4)) := Lib.hid (by have := HQ.out; unfold Loads at this; rw [← HN.out] at this; exact this)
  obtain ⟨g1, c', e, hg1⟩ := own_some HQ0.out h0
  injection e with e1 e2 e3
  subst e1
  clear e2 e3 HQ HCL
  have HG1 := Lib.hid hg1
  clear hg1
  go_loopw [10] (fun v10 wr => ∃ (k : Nat) (L : List Ld), k ≤ n ∧ v10 = .int .i64 k ∧ Hid (L.length = n) ∧ Hid (∀ i, i < k → L[i]? = (laterL l d)[i]?) ∧ Hid (∀ i, k ≤ i → L[i]? = l[i]?) ∧ Hid (wr.ownsRow w.heap.size 84 4 (.slice (some ⟨g1, 0, none⟩) n c) n (L.flatMap enc4)) ∧ Hid (Adds w wr)) (fun v10 _ => n - (intOf v10).toNat)
  case atStart => exact ⟨0, l, by omega, rfl, Lib.hid HN.out.symm, Lib.hid (fun i hi => by omega), Lib.hid (fun i _ => rfl), HQ0, HB1⟩
  case round =>
    obtain ⟨k, L, hk, rfl, HLN, HLO, HHI, HO, HAD⟩ := hrel
    by_cases hlt : k < n
    · have hlt2 : (k : Int) < (n : Int) := by omega
      obtain ⟨⟨x0, x1, x2, x3⟩, hx⟩ : ∃ x, L[k]? = some x := ⟨_, List.getElem?_eq_getElem (by have := HLN.out; omega)⟩
      have hlx : l[k]? = some (x0, x1, x2, x3) := by rw [← HHI.out k (Nat.le_refl _)]; exact hx
      obtain ⟨b0, b1⟩ := HBD.out k _ hlx
      try dsimp only at b0 b1
      obtain ⟨f0, f1, f2, f3⟩ := flat4_cell k _ hx
      obtain ⟨d1, e1⟩ := own_cell HO.out f1
      dsimp only at d1 e1
      have HX := Lib.hid hx
      have HLX := Lib.hid hlx
      clear hx hlx f0 f1 f2 f3
      go_wp2
      refine ⟨⟨k + 1, L.set k (x0, x1 + d, x2, x3), by omega, by go_num, Lib.hid (by rw [List.length_set]; exact HLN.out), Lib.hid (fun i hi => ?_), Lib.hid (fun i hi => ?_), Lib.hid ?_, Lib.hid (HAD.out.set (p := ⟨g1, k * 4 + 1, none⟩) (by have := HG1.out; simp; omega) _)⟩, by simp [intOf]; omega⟩
      · by_cases e : i = k
        · subst e
          rw [List.getElem?_set_self (by have := HLN.out; omega)]
          unfold laterL
          rw [List.getElem?_map, HLX.out]
          rfl
        · rw [List.getElem?_set_ne (fun h => e h.symm)]
          exact HLO.out i (by omega)
      · rw [List.getElem?_set_ne (by omega)]
        exact HHI.out i (by omega)
      · have := own_put (j := k * 4 + 1) HO.out (.int .i64 (x1 + d))
        rw [flat4_due _ HX.out] at this
        exact this
    · have hkn : n = k := by omega
      subst hkn
      have HE : Hid (L = laterL l d) := Lib.hid (List.ext_getElem? (fun i => by
        by_cases h : i < n
        · exact HLO.out i h
        · rw [List.getElem?_eq_none (by have := HLN.out; omega), List.getElem?_eq_none (by rw [laterL_len]; have := HN.out; omega)]))
      rw [HE.out] at HO
      go_wp2
      go_ret
      refine ⟨c, some ⟨g1, 0, none⟩, rfl, ?_, HAD.out⟩
      have h : Loads wr 84 w.heap.size (.slice (some ⟨g1, 0, none⟩) (laterL l d).length c) (laterL l d) := by
        unfold Loads
        rw [laterL_len, ← HN.out]
        exact HO.out
      exact h.at

end Go.Proofs.Ytkofnhimgegcnaa

namespace Go.Proofs.Ytkofnhimgegcnaa
open Go Go.RowKit Go.Sort

theorem later_ok {l : List Ld} {d : Int} (hok : ∀ x ∈ l, okB x = true) (hd : 0 ≤ d ∧ d ≤ 256000000) : ∀ x ∈ laterL l d, okN x := fun x hx => by
  unfold laterL at hx
  obtain ⟨y, hy, rfl⟩ := List.mem_map.1 hx
  have := okB_iff.1 (hok y hy)
  unfold okN
  dsimp only
  omega

theorem total_bd {l : List Ld} (hok : ∀ x ∈ l, okB x = true) (hn : l.length ≤ 256) : 0 ≤ totalL l ∧ totalL l ≤ 256000000 ∧ (l = [] → totalL l = 0) := by
  have key : ∀ l : List Ld, (∀ x ∈ l, okB x = true) → 0 ≤ totalL l ∧ totalL l ≤ l.length * 1000000 := by
    intro l
    induction l with
    | nil => intro _; simp [totalL]
    | cons x l ih =>
      intro h
      have e : totalL (x :: l) = x.2.2.1 + totalL l := by simp [totalL]
      have h1 := ih (fun y hy => h y (by simp [hy]))
      have h2 := okB_iff.1 (h x (by simp))
      rw [e, List.length_cons]
      omega
  have := key l hok
  refine ⟨this.1, by omega, fun h => by rw [h]; rfl⟩

/-- If all loads are due later by all their hours, there is a plan. -/
theorem dry_late (w : World) {l : List Ld} {K : Int} (hok : ∀ x ∈ l, okB x = true) (hn : l.length ≤ 256) (hK : 1 ≤ K ∧ K ≤ 64) : CanDry (laterL l (totalL l)) K := by
  obtain ⟨t0, t1, _⟩ := total_bd hok hn
  have hokN := later_ok hok ⟨t0, t1⟩
  apply Classical.byContradiction
  intro hc
  obtain ⟨H, L, h⟩ := crush_ex w hokN (by rw [laterL_len]; exact hn) (by omega) (by omega) hc
  have h1 := h.gt
  have hw : 0 ≤ sumH (fun h => h.2 - h.1) H := sumH_nonneg (fun y hy => by have := h.rise.inn y hy; omega)
  have hWK : sumH (fun h => h.2 - h.1) H * 1 ≤ sumH (fun h => h.2 - h.1) H * K := Int.mul_le_mul_of_nonneg_left hK.1 hw
  have hget : ∀ i ∈ L, ∃ y, l[i]? = some y ∧ okB y = true ∧ (laterL l (totalL l))[i]? = some (y.1, y.2.1 + totalL l, y.2.2.1, y.2.2.2) := fun i hi => by
    have hlt := h.mem i hi
    rw [laterL_len] at hlt
    obtain ⟨y, hy⟩ : ∃ y, l[i]? = some y := ⟨_, List.getElem?_eq_getElem hlt⟩
    exact ⟨y, hy, hok y (List.mem_of_getElem? hy), by unfold laterL; rw [List.getElem?_map, hy]; rfl⟩
  by_cases hle : sumH (fun h => h.2 - h.1) H ≤ totalL l
  · have h2 : needsL (laterL l (totalL l)) H L ≤ L.length * 0 := needsL_le (fun i hi => by
      obtain ⟨y, hy, hb, hx⟩ := hget i hi
      have hb := okB_iff.1 hb
      have := within_le h.rise (y.1, y.2.1 + totalL l, y.2.2.1, y.2.2.2)
      unfold needL
      rw [hx]
      dsimp only
      omega)
    omega
  · have h2 : needsL (laterL l (totalL l)) H L ≤ (L.map (lenAt (laterL l (totalL l)))).sum := needsL_le2 (fun i hi => by
      obtain ⟨y, hy, hb, hx⟩ := hget i hi
      have hb := okB_iff.1 hb
      have h3 := within_span (y.1, y.2.1 + totalL l, y.2.2.1, y.2.2.2) h.rise (by omega)
      dsimp only at h3
      unfold needL lenAt
      rw [hx]
      dsimp only
      omega)
    have h3 := h.lens
    rw [laterL_total] at h3
    omega

set_option maxHeartbeats 2000000 in
theorem DelayF_any (b1 b2 : Nat) (p : Option Addr) (cl : Nat) (l : List Ld) (K d : Int) (w : World) (hc1 : w.cell? ⟨b1, 0, none⟩ = some (.slice p l.length cl)) (hc2 : w.cell? ⟨b2, 0, none⟩ = some (.int .i64 K)) (hL : LoadsAt w p l) (hok : ∀ x ∈ l, okB x = true) (h0 : 0 < l.length) (hn : l.length ≤ 256) (hK : 1 ≤ K ∧ K ≤ 64) (hd : 0 ≤ d ∧ d ≤ 256000000) :
    Calls Try.prog 63 (#[.int .i64 d] ++ #[.pointer (some ⟨b1, 0, none⟩), .pointer (some ⟨b2, 0, none⟩)]) w fun e w' => ∃ v, e = .returned (.bool v) ∧ (v = true ↔ CanDry (laterL l d) K) ∧ Adds w w' := by
  have hok2 : ∀ x ∈ l, okN x := fun x hx => okB_okN (hok x hx)
  have h64 := fun (W : World) (hW : Adds w W) => later_any p cl l d W (hL.later hW) h0 hn (by omega) hok2
  have h42 : ∀ (q : Option Addr) (c : Nat) (W : World), LoadsAt W q (laterL l d) → Calls Try.prog 42 #[.slice q l.length c, .int .i64 K] W fun e w' => ∃ v, e = .returned (.bool v) ∧ (v = true ↔ CanDry (laterL l d) K) ∧ Adds W w' := fun q c W hq => by
    have := fits_any q c (laterL l d) K W hq (later_ok hok hd) (by rw [laterL_len]; exact hn) (by omega) (by omega)
    rw [laterL_len] at this
    exact this
  have H64 := Lib.hid h64
  have H42 := Lib.hid h42
  generalize l.length = n at *
  clear hL hok hok2 h64 h42 h0
  go_enter Try.func63, Try.ntmps63
  go_upto_region 1 with fail
  go_region_held3 (fun w' => w'.cell? ⟨b1, 0, none⟩ = some (.slice p n cl) ∧ w'.cell? ⟨b2, 0, none⟩ = some (.int .i64 K) ∧ Hid (Adds w w'))
    (first | (refine ⟨?_, ?_, Lib.hid (Adds.refl _).drew⟩ <;> go_keep; done) | (have hqq := Lib.hid (Adds.trans hh.2.2.out hb6); exact ⟨keep_cell hqq.out hc1, keep_cell hqq.out hc2, hqq⟩) | (have hqq := Lib.hid (Adds.trans hh.2.2.out hb7); exact ⟨keep_cell hqq.out hc1, keep_cell hqq.out hc2, hqq⟩))
    ((first
      | (go_simp; go_at_call 64; rename_i hh _ _; refine (H64.out _ hh.2.2.out).mono ?_; rintro e w6 ⟨c6, q6, rfl, hq6, hb6⟩; have HQ6 := Lib.hid hq6; clear hq6)
      | (go_simp; go_at_call 42; rename_i hh _ _; refine (H42.out _ _ _ HQ6.out).mono ?_; rintro e w7 ⟨v, rfl, hv, hb7⟩; have HV := Lib.hid hv; clear hv)))
  go_wp2
  go_ret
  exact ⟨v, rfl, HV.out, hh.2.2.out.trans hb7⟩

set_option maxHeartbeats 2000000 in
theorem Delay_any (p : Option Addr) (cl : Nat) (l : List Ld) (K : Int) (w : World) (hL : LoadsAt w p l) (hok : ∀ x ∈ l, okB x = true) (hn : l.length ≤ 256) (hK : 1 ≤ K ∧ K ≤ 64) :
    Calls Try.prog 25 #[.slice p l.length cl, .int .i64 K] w fun e w' => ∃ r, e = .returned (.tuple #[.int .i64 r, .int .i64 0]) ∧ LeastGot (fun d => CanDry (laterL l d) K) 0 (totalL l) r ∧ Adds w w' := by
  obtain ⟨t0, t1, t2⟩ := total_bd hok hn
  have hokN : ∀ x ∈ l, okN x := fun x hx => okB_okN (hok x hx)
  have hc := fun W (hW : Adds w W) => check_any p cl l K W (by unfold maxLen; omega) (hL.later hW)
  rw [checkK_ok hn hok hK] at hc
  have ht := fun W (hW : Adds w W) => total_any p cl l W hn (hL.later hW) hokN
  have h63 : ∀ (args : Array Value) (w : World), (callFunc 63 args).run Try.prog w = .ok (.enter 63 args) w := fun args w => enters_of Try.func63 (by kernel_rfl) rfl args w
  have hls : ∀ (W : World) (b1 b2 : Nat), Adds w W → W.cell? ⟨b1, 0, none⟩ = some (.slice p l.length cl) → W.cell? ⟨b2, 0, none⟩ = some (.int .i64 K) → Calls Try.prog 61 #[.int .i64 0, .int .i64 (totalL l), .func (.func 63) #[] #[.pointer (some ⟨b1, 0, none⟩), .pointer (some ⟨b2, 0, none⟩)]] W fun e w' => ∃ r, e = .returned (.int .i64 r) ∧ LeastGot (fun d => CanDry (laterL l d) K) 0 (totalL l) r ∧ Adds W w' := fun W b1 b2 hW hc1 hc2 =>
    least_any 63 #[.pointer (some ⟨b1, 0, none⟩), .pointer (some ⟨b2, 0, none⟩)] (fun d => CanDry (laterL l d) K) 0 (totalL l) W (by omega) t0 (by omega) h63 (fun k hk0 hk1 W2 hW2 => DelayF_any b1 b2 p cl l K k W2 (keep_cell hW2 hc1) (keep_cell hW2 hc2) ((hL.later hW).later hW2) hok (by
      rcases Nat.eq_zero_or_pos l.length with h | h
      · have := t2 (List.length_eq_zero_iff.1 h); omega
      · exact h) hn hK ⟨hk0, by omega⟩)
  generalize totalL l = T at *
  have HC := Lib.hid hc
  have HT := Lib.hid ht
  have HLS := Lib.hid hls
  generalize l.length = n at *
  clear hc ht hls hL hok hokN h63 t2
  go_enter Try.func25, Try.ntmps25
  have hA1 : Adds w ((w.alloc (.cells #[.slice p n cl] 30)).alloc (.cells #[.int .i64 K] 3)) := ((Adds.refl w).alloc _).alloc _
  have hX1 : Box ((w.alloc (.cells #[.slice p n cl] 30)).alloc (.cells #[.int .i64 K] 3)) w.heap.size #[.slice p n cl] 30 := (Box.new _ _ _).alloc _
  have hX2 : Box ((w.alloc (.cells #[.slice p n cl] 30)).alloc (.cells #[.int .i64 K] 3)) (w.heap.size + 1) #[.int .i64 K] 3 := by
    have := Box.new (w.alloc (.cells #[.slice p n cl] 30)) #[.int .i64 K] 3
    rw [World.size_alloc] at this
    exact this
  go_upto_region 1 with fail
  obtain ⟨b1, hb1⟩ : ∃ b, b = w.heap.size := ⟨_, rfl⟩
  obtain ⟨b2, hb2⟩ : ∃ b, b = w.heap.size + 1 := ⟨_, rfl⟩
  obtain ⟨W1, hW1⟩ : ∃ V, V = (w.alloc (.cells #[.slice p n cl] 30)).alloc (.cells #[.int .i64 K] 3) := ⟨_, rfl⟩
  rw [← hW1] at hA1 hX1 hX2
  rw [← hb1] at hX1
  rw [← hb2] at hX2
  rw [← hW1, ← hb2, ← hb1]
  have HA1 := Lib.hid hA1
  have HX1 := Lib.hid hX1
  have HX2 := Lib.hid hX2
  have k1 : W1.cell? ⟨b1, 0, none⟩ = some (.slice p n cl) := hX1.cell 0
  have k2 : W1.cell? ⟨b2, 0, none⟩ = some (.int .i64 K) := hX2.cell 0
  clear hA1 hX1 hX2 hb1 hb2 hW1
  go_upto_region 4 with (go_at_call 41; refine (HC.out _ HA1.out).mono ?_; rintro e w2 ⟨rfl, hb2⟩; have HB2 := Lib.hid hb2; clear hb2)
  have k3 : w2.cell? ⟨b1, 0, none⟩ = some (.slice p n cl) := (HX1.out.later HB2.out).cell 0
  have k4 : w2.cell? ⟨b2, 0, none⟩ = some (.int .i64 K) := (HX2.out.later HB2.out).cell 0
  clear k1 k2
  go_wp2_with (first
    | (go_at_call 52; refine (HT.out _ (HA1.out.trans HB2.out)).mono ?_; rintro e w3 ⟨rfl, hb3⟩; have HB3 := Lib.hid hb3; clear hb3)
    | (go_at_call 61; refine (HLS.out _ b1 b2 ((HA1.out.trans HB2.out).trans HB3.out) (keep_cell HB3.out k3) (keep_cell HB3.out k4)).mono ?_; rintro e w4 ⟨r, rfl, hr, hb4⟩; have HR := Lib.hid hr; have HB4 := Lib.hid hb4; clear hr hb4))
  go_ret2
  exact ⟨r, rfl, HR.out, ((HA1.out.trans HB2.out).trans HB3.out).trans HB4.out⟩

set_option maxRecDepth 100000 in
set_option maxHeartbeats 2000000 in
theorem laterL_any (p : Option Addr) (cl : Nat) (l : List Ld) (d : Int) (w : World) (hL : LoadsAt w p l) (hl : l.length ≤ 256) (hd : 0 ≤ d ∧ d ≤ 1000000000) (hok : ∀ x ∈ l, okN x) :
    Calls Try.prog 27 #[.slice p l.length cl, .int .i64 d] w fun e w' => ∃ c q, e = .returned (.slice q l.length c) ∧ LoadsAt w' q (laterL l d) ∧ Adds w w' := by
  obtain ⟨i0, hi, hi0, hi1, hi2⟩ := info_parts info72
  have HI := Lib.hid hi
  have HI0 := Lib.hid hi0
  have HI1 := Lib.hid hi1
  have HI2 := Lib.hid hi2
  have HBD : Hid (∀ (i : Nat) (x : Ld), l[i]? = some x → 0 ≤ x.2.1 ∧ x.2.1 ≤ 1000000000) := Lib.hid (fun i x hx => by have := hok x (List.mem_of_getElem? hx); unfold okN at this; omega)
  have HNX : Hid (∀ (k : Nat) (x : Ld), l[k]? = some x → ((laterL l d).take (k + 1)).flatMap enc4 = ((laterL l d).take k).flatMap enc4 ++ enc4 (x.1, x.2.1 + d, x.2.2.1, x.2.2.2)) := Lib.hid (fun k x hx => take_flat (by unfold laterL; rw [List.getElem?_map, hx]; rfl))
  have HLL : Hid ((laterL l d).length = l.length) := Lib.hid (laterL_len l d)
  obtain ⟨n, hn⟩ : ∃ n, n = l.length := ⟨_, rfl⟩
  rw [← hn] at hl HLL ⊢
  have HN := Lib.hid hn
  have HL := Lib.hid hL
  obtain ⟨L, hLd⟩ : ∃ L, L = laterL l d := ⟨_, rfl⟩
  rw [← hLd] at HLL HNX ⊢
  obtain ⟨hd0, hd1⟩ := hd
  clear hi hi0 hi1 hi2 hL hn hLd hok
  go_enter Try.func27, Try.ntmps27
  go_upto_region 3 with fail
  go_loopw [5, 6] (fun v5 v6 wr => ∃ k : Nat, k ≤ n ∧ v6 = .int .i64 k ∧ Hid (wr.ownsRow w.heap.size 72 4 v5 k ((L.take k).flatMap enc4)) ∧ Hid (Adds w wr)) (fun _ v6 _ => n - (intOf v6).toNat)
  case atStart => exact ⟨0, by omega, rfl, Lib.hid (World.ownsRow_nil _ _ _ _), Lib.hid (Adds.refl _)⟩
  case round =>
    obtain ⟨k, hk, rfl, HO, HAD⟩ := hrel
    by_cases hlt : k < n
    · have hlt2 : (k : Int) < (n : Int) := by omega
      obtain ⟨⟨x0, x1, x2, x3⟩, hx⟩ : ∃ x, l[k]? = some x := ⟨_, List.getElem?_eq_getElem (by have := HN.out; omega)⟩
      obtain ⟨g, off, rfl, d0, d1, d2, d3⟩ := HL.out.later HAD.out k _ hx
      dsimp only at d0 d1 d2 d3
      have HNX2 := Lib.hid (HNX.out _ _ hx)
      obtain ⟨b0, b1⟩ := HBD.out _ _ hx
      try dsimp only at b0 b1
      have hws := HAD.out.size
      clear hx
      obtain ⟨pj, cj, rfl⟩ := own_slice HO.out
      have hnews : Hid (World.cell? ((wr.alloc (.cells #[.int .i64 x0, .int .i64 (x1 + d), .int .i64 x2, .int .i64 x3] 72)).alloc (.cells #[.int .i64 x0, .int .i64 (x1 + d), .int .i64 x2, .int .i64 x3] 72)) ⟨wr.heap.size + 1, 0, none⟩ = some (.int .i64 x0)) := Lib.hid (by
        have := Box.new (wr.alloc (.cells #[.int .i64 x0, .int .i64 (x1 + d), .int .i64 x2, .int .i64 x3] 72)) #[.int .i64 x0, .int .i64 (x1 + d), .int .i64 x2, .int .i64 x3] 72
        rw [World.size_alloc] at this
        exact this.cell 0)
      have hbox : Hid (Box ((wr.alloc (.cells #[.int .i64 x0, .int .i64 (x1 + d), .int .i64 x2, .int .i64 x3] 72)).alloc (.cells #[.int .i64 x0, .int .i64 (x1 + d), .int .i64 x2, .int .i64 x3] 72)) (wr.heap.size + 1) #[.int .i64 x0, .int .i64 (x1 + d), .int .i64 x2, .int .i64 x3] 72) := Lib.hid (by
        have := Box.new (wr.alloc (.cells #[.int .i64 x0, .int .i64 (x1 + d), .int .i64 x2, .int .i64 x3] 72)) #[.int .i64 x0, .int .i64 (x1 + d), .int .i64 x2, .int .i64 x3] 72
        rw [World.size_alloc] at this
        exact this)
      clear hnews
      go_wp2_with (at_builtin; ((refine wpList_append_lies _ rfl _ _ 22 rfl w.heap.size 72 i0 (.agg #[.int .i64 0, .int .i64 0, .int .i64 0, .int .i64 0]) 4 32 Try.underlying22 HI.out HI0.out HI1.out HI2.out rfl (by decide) (.slice pj k cj) k _ rfl ((HO.out.alloc _).alloc _) ⟨wr.heap.size + 1, 0, none⟩ 1 1 [.int .i64 x0, .int .i64 (x1 + d), .int .i64 x2, .int .i64 x3] rfl rfl (World.news_of_block hbox.out) (by simp [Value.oneCell']) (by omega) (by unfold maxLen; omega) (by omega) (by simp; omega) (wr.heap.size + 2) (by simp) ?_); intro g6 c6 w6 ho6 hg6 hl6 hs6; have HO6 := Lib.hid ho6; have HG6 := Lib.hid hg6; clear ho6 hg6 hl6))
      refine ⟨⟨k + 1, by omega, by go_num, Lib.hid ?_, Lib.hid (Below.grown ((HAD.out.alloc _).alloc _) HG6.out (by simp; omega) (fun j hj => (own_block HO.out hj).1))⟩, by simp [intOf]; omega⟩
      rw [HNX2.out]
      exact HO6.out
    · have hkn : n = k := by omega
      subst hkn
      have e1 : L.take n = L := List.take_of_length_le (by rw [HLL.out]; omega)
      rw [e1] at HO
      obtain ⟨pj, cj, rfl⟩ := own_slice HO.out
      go_wp2
      go_ret
      refine ⟨cj, pj, rfl, ?_, HAD.out⟩
      have h : Loads wr 72 w.heap.size (.slice pj L.length cj) L := by
        unfold Loads
        rw [HLL.out]
        exact HO.out
      exact h.at

end Go.Proofs.Ytkofnhimgegcnaa

namespace Go.Proofs.Ytkofnhimgegcnaa
open Go Go.RowKit Go.Sort

/-- Which loads are dried in which of the first M hours. -/
structure Rota (l : List Ld) (K : Int) (M : Nat) (g : Nat → Nat → Int) : Prop where
  bit : ∀ i h, 0 ≤ g i h ∧ g i h ≤ 1
  inn : ∀ (i : Nat) (x : Ld) (h : Nat), l[i]? = some x → g i h ≠ 0 → x.1 ≤ (h : Int) ∧ (h : Int) < x.2.1
  len : ∀ (i : Nat) (x : Ld), l[i]? = some x → sumN M (g i) = x.2.2.1
  few : ∀ h, sumN l.length (fun i => g i h) ≤ K

theorem sumN_span (a b : Int) : ∀ M : Nat, sumN M (fun h => if a ≤ (h : Int) ∧ (h : Int) < b then 1 else 0) = max 0 (min b M - max a 0)
  | 0 => by simp [sumN]; omega
  | M + 1 => by
    rw [sumN, sumN_span a b M]
    split <;> omega

/-- Whether an hour lies in spans. -/
def inH (H : List (Int × Int)) (h : Int) : Int := sumH (fun s => if s.1 ≤ h ∧ h < s.2 then 1 else 0) H

theorem inH_low {h : Int} : ∀ {lo hi : Int} {H : List (Int × Int)}, Rising lo hi H → h < lo → inH H h = 0
  | _, _, [], _, _ => rfl
  | lo, hi, s :: H, hr, hl => by
    have h1 := hr.inn s (by simp)
    have ih := inH_low hr.tail (show h < s.2 by omega)
    unfold inH at ih ⊢
    rw [sumH_cons, ih, if_neg (by omega)]
    rfl
theorem inH_bit {h : Int} : ∀ {lo hi : Int} {H : List (Int × Int)}, Rising lo hi H → inH H h = 0 ∨ inH H h = 1
  | _, _, [], _ => Or.inl rfl
  | lo, hi, s :: H, hr => by
    have h1 := hr.inn s (by simp)
    by_cases hc : s.1 ≤ h ∧ h < s.2
    · have h2 := inH_low hr.tail hc.2
      unfold inH at h2 ⊢
      rw [sumH_cons, h2, if_pos hc]
      exact Or.inr rfl
    · have ih := inH_bit (h := h) hr.tail
      unfold inH at ih ⊢
      rw [sumH_cons, if_neg hc, Int.zero_add]
      exact ih

theorem inH_sum {M : Nat} : ∀ {H : List (Int × Int)}, (∀ s ∈ H, 0 ≤ s.1 ∧ s.1 ≤ s.2 ∧ s.2 ≤ (M : Int)) → sumN M (fun h => inH H (h : Int)) = sumH (fun h => h.2 - h.1) H
  | [], _ => by
    have : (fun h : Nat => inH [] (h : Int)) = fun _ => 0 := rfl
    rw [this, sumN_zero]
    rfl
  | s :: H, hb => by
    have ih := inH_sum (H := H) (fun t ht => hb t (by simp [ht]))
    have h1 := hb s (by simp)
    have e : (fun h : Nat => inH (s :: H) (h : Int)) = fun h : Nat => (if s.1 ≤ (h : Int) ∧ (h : Int) < s.2 then 1 else 0) + inH H (h : Int) := by
      funext h
      unfold inH
      rw [sumH_cons]
    rw [e, sumN_add, ih, sumN_span, sumH_cons]
    omega

theorem within_sum {M : Nat} {x : Ld} (hx : 0 ≤ x.1 ∧ x.2.1 ≤ (M : Int)) : ∀ {H : List (Int × Int)}, (∀ s ∈ H, 0 ≤ s.1) → sumN M (fun h => if x.1 ≤ (h : Int) ∧ (h : Int) < x.2.1 then inH H (h : Int) else 0) = withinL x H
  | [], _ => by
    have : (fun h : Nat => if x.1 ≤ (h : Int) ∧ (h : Int) < x.2.1 then inH [] (h : Int) else 0) = fun _ => 0 := by
      funext h
      split <;> rfl
    rw [this, sumN_zero]
    rfl
  | s :: H, hb => by
    have ih := within_sum hx (H := H) (fun t ht => hb t (by simp [ht]))
    have h1 := hb s (by simp)
    have e : (fun h : Nat => if x.1 ≤ (h : Int) ∧ (h : Int) < x.2.1 then inH (s :: H) (h : Int) else 0) = fun h : Nat => (if max x.1 s.1 ≤ (h : Int) ∧ (h : Int) < min x.2.1 s.2 then 1 else 0) + (if x.1 ≤ (h : Int) ∧ (h : Int) < x.2.1 then inH H (h : Int) else 0) := by
      funext h
      unfold inH
      rw [sumH_cons]
      by_cases c1 : x.1 ≤ (h : Int) ∧ (h : Int) < x.2.1
      · rw [if_pos c1, if_pos c1]
        by_cases c2 : s.1 ≤ (h : Int) ∧ (h : Int) < s.2
        · rw [if_pos c2, if_pos (by omega)]
        · rw [if_neg c2, if_neg (by omega)]
      · rw [if_neg c1, if_neg c1, if_neg (by omega)]; rfl
    rw [e, sumN_add, ih, sumN_span, within_eq, within_eq, sumH_cons]
    unfold lapL
    omega

theorem rise_sum {f : Nat → Int} (hf : ∀ i, 0 ≤ f i) : ∀ {L : List Nat} {a n : Nat}, L.Pairwise (· < ·) → (∀ i ∈ L, a ≤ i ∧ i < n) → a ≤ n → (L.map f).sum + sumN a f ≤ sumN n f
  | [], a, n, _, _, han => by
    have : ∀ k, sumN a f ≤ sumN (a + k) f := fun k => by
      rw [sumN_split]
      have := sumN_le (n := k) (g := fun _ => 0) (h := fun j => f (a + j)) (fun j _ => hf _)
      rw [sumN_zero] at this
      omega
    have h1 := this (n - a)
    rw [show a + (n - a) = n by omega] at h1
    simp
    omega
  | i :: L, a, n, hp, hb, han => by
    rw [List.pairwise_cons] at hp
    have h1 := hb i (by simp)
    have ih := rise_sum hf (L := L) (a := i + 1) (n := n) hp.2 (fun j hj => ⟨hp.1 j hj, (hb j (by simp [hj])).2⟩) (by omega)
    rw [sumN] at ih
    have h2 : sumN a f ≤ sumN i f := by
      have := rise_sum hf (L := []) (a := a) (n := i) List.Pairwise.nil (fun j hj => by cases hj) h1.1
      simpa using this
    rw [List.map_cons, List.sum_cons]
    omega
termination_by L => L.length

theorem list_swap (M : Nat) (t : Nat → Nat → Int) : ∀ L : List Nat, (L.map (fun i => sumN M (t i))).sum = sumN M (fun h => (L.map (fun i => t i h)).sum)
  | [] => by
    have : (fun h : Nat => (([] : List Nat).map (fun i => t i h)).sum) = fun _ => 0 := rfl
    rw [this, sumN_zero]; rfl
  | i :: L => by
    rw [List.map_cons, List.sum_cons, list_swap M t L, ← sumN_add]
    refine sumN_congr (fun h _ => ?_)
    rw [List.map_cons, List.sum_cons]

/-- What a rota dries can be dried. -/
theorem Rota.dry (w : World) {l : List Ld} {K : Int} {M : Nat} {g : Nat → Nat → Int} (h : Rota l K M g) (hM : ∀ x ∈ l, x.2.1 ≤ (M : Int)) (hok : ∀ x ∈ l, okN x) (hn : l.length ≤ 256) (hK0 : 0 ≤ K) (hK1 : K ≤ 256) : CanDry l K := by
  apply Classical.byContradiction
  intro hc
  obtain ⟨H, L, cr⟩ := crush_ex w hok hn hK0 hK1 hc
  have hgt := cr.gt
  have hHM : ∀ s ∈ H, 0 ≤ s.1 ∧ s.1 ≤ s.2 ∧ s.2 ≤ (M : Int) := fun s hs => by
    have h1 := cr.rise.inn s hs
    have h2 := cr.top M hM s hs
    omega
  have hneed : ∀ i ∈ L, needL l H i ≤ sumN M (fun t => if inH H (t : Int) = 1 then g i t else 0) := fun i hi => by
    obtain ⟨x, hx⟩ : ∃ x, l[i]? = some x := ⟨_, List.getElem?_eq_getElem (cr.mem i hi)⟩
    have hxm := List.mem_of_getElem? hx
    have hb := hok x hxm
    unfold okN at hb
    have h1 := h.len i x hx
    have h2 := within_sum (M := M) (x := x) ⟨hb.1, hM x hxm⟩ (fun s hs => (hHM s hs).1)
    have h3 := sumN_span x.1 x.2.1 M
    have h4 : sumN M (fun t => g i t - (if x.1 ≤ (t : Int) ∧ (t : Int) < x.2.1 then 1 else 0) + (if x.1 ≤ (t : Int) ∧ (t : Int) < x.2.1 then inH H (t : Int) else 0)) ≤ sumN M (fun t => if inH H (t : Int) = 1 then g i t else 0) := sumN_le (fun t _ => by
      have hbit := h.bit i t
      have hinn := h.inn i x t hx
      rcases inH_bit (h := (t : Int)) cr.rise with e | e
      · rw [e, if_neg (show ¬ (0 : Int) = 1 by omega)]
        by_cases hg : g i t = 0
        · rw [hg]; split <;> omega
        · rw [if_pos (hinn hg)]; split <;> omega
      · rw [e, if_pos rfl]
        split <;> omega)
    rw [sumN_add, sumN_sub, h2, h3] at h4
    have h5 : 0 ≤ sumN M (fun t => if inH H (t : Int) = 1 then g i t else 0) := by
      have := sumN_le (n := M) (g := fun _ => 0) (h := fun t => if inH H (t : Int) = 1 then g i t else 0) (fun t _ => by
        have := h.bit i t
        split <;> omega)
      rw [sumN_zero] at this
      exact this
    have h6 : sumN M (fun t => g i t) = x.2.2.1 := h1
    rw [h6] at h4
    unfold needL
    rw [hx]
    dsimp only
    have := hM x hxm
    omega
  have h1 := needsL_le2 hneed
  rw [list_swap] at h1
  have h2 : sumN M (fun t => (L.map (fun i => if inH H (t : Int) = 1 then g i t else 0)).sum) ≤ sumN M (fun t => K * inH H (t : Int)) := sumN_le (fun t _ => by
    have h3 := rise_sum (f := fun i => g i t) (fun i => (h.bit i t).1) (L := L) (a := 0) (n := l.length) cr.up (fun i hi => ⟨by omega, cr.mem i hi⟩) (by omega)
    have h4 := h.few t
    rcases inH_bit (h := (t : Int)) cr.rise with e | e
    · rw [e]
      have : (L.map (fun i => if (0 : Int) = 1 then g i t else 0)).sum = 0 := sum_zero_of _ L (fun i _ => by rw [if_neg (by omega)])
      rw [this]; omega
    · rw [e]
      have : L.map (fun i => if (1 : Int) = 1 then g i t else 0) = L.map (fun i => g i t) := List.map_congr_left (fun i _ => if_pos rfl)
      rw [this]
      simp only [sumN] at h3
      omega)
  rw [sumN_mul, inH_sum hHM] at h2
  rw [Int.mul_comm] at hgt
  omega

theorem sumT_swap (n : Nat) (t : Nat → Tn → Int) : ∀ P : List Tn, sumN n (fun k => sumT (t k) P) = sumT (fun x => sumN n (fun k => t k x)) P
  | [] => by
    have : (fun k : Nat => sumT (t k) []) = fun _ => 0 := rfl
    rw [this, sumN_zero]; rfl
  | x :: P => by
    rw [sumT_cons, ← sumT_swap n t P, ← sumN_add]
    exact sumN_congr (fun k _ => sumT_cons _ _ _)

theorem sumT_congr {μ ν : Tn → Int} {P : List Tn} (h : ∀ t ∈ P, μ t = ν t) : sumT μ P = sumT ν P := by
  unfold sumT
  rw [List.map_congr_left h]

/-- What can be dried has a rota. -/
theorem CanDry.rota {l : List Ld} {K : Int} (h : CanDry l K) (hok : ∀ x ∈ l, okN x) (hK0 : 0 ≤ K) {M : Nat} (hM : ∀ x ∈ l, x.2.1 ≤ (M : Int)) : ∃ g, Rota l K M g := by
  obtain ⟨f, hf⟩ := h
  have hp := Dry.all ⟨timesOf_spec l, hok, hf⟩ hK0
  obtain ⟨P, hP⟩ : ∃ P, P = allT (netE (timesOf l) K l) f (timesOf l) l.length ((timesOf l).length - 1) := ⟨_, rfl⟩
  rw [← hP] at hp
  refine ⟨fun i h => sumT (covL1 (i : Int) (h : Int)) P, fun i h => ⟨sumT_nonneg (fun t _ => by unfold covL1; split <;> omega), hp.one _ _⟩, fun i x h hx hne => ?_, fun i x hx => ?_, fun h => ?_⟩
  · have hex : ∃ t ∈ P, covL1 (i : Int) (h : Int) t ≠ 0 := by
      apply Classical.byContradiction
      intro hno
      exact hne (sumT_none (fun t ht => by
        apply Classical.byContradiction
        intro h0
        exact hno ⟨t, ht, h0⟩))
    obtain ⟨t, ht, h0⟩ := hex
    obtain ⟨j, y, e, hy, b1, b2, b3⟩ := hp.inn t ht
    unfold covL1 at h0
    split at h0
    · rename_i hc
      have hij : i = j := by omega
      subst hij
      rw [hx] at hy
      cases hy
      omega
    · exact absurd rfl h0
  · have h1 := sumT_swap M (fun h t => covL1 (i : Int) (h : Int) t) P
    have h2 : sumT (fun t => sumN M (fun h => covL1 (i : Int) (h : Int) t)) P = sumT (len1 (i : Int)) P := sumT_congr (fun t ht => by
      obtain ⟨j, y, e, hy, b1, b2, b3⟩ := hp.inn t ht
      have hb := hok y (List.mem_of_getElem? hy)
      have hm := hM y (List.mem_of_getElem? hy)
      unfold okN at hb
      by_cases hi : t.1 = (i : Int)
      · have e1 : (fun h : Nat => covL1 (i : Int) (h : Int) t) = fun h : Nat => if t.2.1 ≤ (h : Int) ∧ (h : Int) < t.2.2 then 1 else 0 := by
          funext h
          unfold covL1
          by_cases hc : t.2.1 ≤ (h : Int) ∧ (h : Int) < t.2.2
          · rw [if_pos ⟨hi, hc⟩, if_pos hc]
          · rw [if_neg (fun hh => hc hh.2), if_neg hc]
        rw [e1, sumN_span]
        unfold len1
        rw [if_pos hi]
        omega
      · have e1 : (fun h : Nat => covL1 (i : Int) (h : Int) t) = fun _ => 0 := by
          funext h
          unfold covL1
          rw [if_neg (fun hh => hi hh.1)]
        rw [e1, sumN_zero]
        unfold len1
        rw [if_neg hi])
    have h3 := hp.len i x hx
    have h4 : sumN M (fun h => sumT (covL1 (i : Int) (h : Int)) P) = x.2.2.1 := by rw [← h3, ← h2, ← h1]
    exact h4
  · have h1 := sumT_swap l.length (fun i t => covL1 (i : Int) (h : Int) t) P
    have h2 : sumT (fun t => sumN l.length (fun i => covL1 (i : Int) (h : Int) t)) P = sumT (cov1 (h : Int)) P := sumT_congr (fun t ht => by
      obtain ⟨j, y, e, hy, b1, b2, b3⟩ := hp.inn t ht
      have hj := (List.getElem?_eq_some_iff.1 hy).1
      have e1 : (fun i : Nat => covL1 (i : Int) (h : Int) t) = fun i : Nat => if i = j then cov1 (h : Int) t else 0 := by
        funext i
        unfold covL1 cov1
        by_cases hi : i = j
        · rw [if_pos hi]
          by_cases hc : t.2.1 ≤ (h : Int) ∧ (h : Int) < t.2.2
          · rw [if_pos ⟨by omega, hc⟩, if_pos hc]
          · rw [if_neg (fun hh => hc hh.2), if_neg hc]
        · rw [if_neg hi, if_neg (fun hh => hi (by omega))]
      rw [e1, sumN_one, if_pos hj])
    have h3 := hp.few (h : Int)
    have h4 : sumN l.length (fun i => sumT (covL1 (i : Int) (h : Int)) P) ≤ K := by rw [h1, h2]; exact h3
    exact h4

end Go.Proofs.Ytkofnhimgegcnaa

namespace Go.Proofs.Ytkofnhimgegcnaa
open Go Go.RowKit Go.Sort

/-- A bound of all times. -/
theorem top_of (l : List Ld) : ∃ M : Nat, ∀ x ∈ l, x.2.1 ≤ (M : Int) := by
  induction l with
  | nil => exact ⟨0, fun x hx => by cases hx⟩
  | cons y l ih =>
    obtain ⟨M, hM⟩ := ih
    refine ⟨M + y.2.1.toNat, fun x hx => ?_⟩
    rcases List.mem_cons.1 hx with rfl | hx
    · omega
    · have := hM x hx; omega

/-- With more kilns. -/
theorem CanDry.more {l : List Ld} {K K' : Int} (w : World) (h : CanDry l K) (hok : ∀ x ∈ l, okN x) (hn : l.length ≤ 256) (hK0 : 0 ≤ K) (hKK : K ≤ K') (hK1 : K' ≤ 256) : CanDry l K' := by
  obtain ⟨M, hM⟩ := top_of l
  obtain ⟨g, hg⟩ := h.rota hok hK0 hM
  have h2 : Rota l K' M g := ⟨hg.bit, hg.inn, hg.len, fun t => by have := hg.few t; omega⟩
  exact h2.dry w hM hok hn (by omega) hK1

theorem later_get {l : List Ld} {d : Int} {i : Nat} {x : Ld} (h : (laterL l d)[i]? = some x) : ∃ y, l[i]? = some y ∧ x = (y.1, y.2.1 + d, y.2.2.1, y.2.2.2) := by
  unfold laterL at h
  rw [List.getElem?_map] at h
  obtain ⟨y, hy, rfl⟩ := Option.map_eq_some_iff.1 h
  exact ⟨y, hy, rfl⟩

/-- With later times. -/
theorem CanDry.late {l : List Ld} {K d e : Int} (w : World) (h : CanDry (laterL l d) K) (hok : ∀ x ∈ l, okB x = true) (hn : l.length ≤ 256) (hK0 : 0 ≤ K) (hK1 : K ≤ 256) (h0 : 0 ≤ d) (hde : d ≤ e) (he : e ≤ 256000000) : CanDry (laterL l e) K := by
  obtain ⟨M, hM⟩ := top_of (laterL l e)
  have hM2 : ∀ x ∈ laterL l d, x.2.1 ≤ (M : Int) := fun x hx => by
    unfold laterL at hx
    obtain ⟨y, hy, rfl⟩ := List.mem_map.1 hx
    have := hM (y.1, y.2.1 + e, y.2.2.1, y.2.2.2) (by unfold laterL; exact List.mem_map_of_mem hy)
    dsimp only at this ⊢
    omega
  obtain ⟨g, hg⟩ := h.rota (later_ok hok ⟨h0, by omega⟩) hK0 hM2
  have h2 : Rota (laterL l e) K M g := by
    refine ⟨hg.bit, fun i x t hx hne => ?_, fun i x hx => ?_, fun t => by have := hg.few t; rw [laterL_len] at this ⊢; exact this⟩
    · obtain ⟨y, hy, rfl⟩ := later_get hx
      have := hg.inn i (y.1, y.2.1 + d, y.2.2.1, y.2.2.2) t (by unfold laterL; rw [List.getElem?_map, hy]; rfl) hne
      dsimp only at this ⊢
      omega
    · obtain ⟨y, hy, rfl⟩ := later_get hx
      exact hg.len i (y.1, y.2.1 + d, y.2.2.1, y.2.2.2) (by unfold laterL; rw [List.getElem?_map, hy]; rfl)
  exact h2.dry w hM (later_ok hok ⟨by omega, he⟩) (by rw [laterL_len]; exact hn) hK0 hK1

theorem laterL_zero (l : List Ld) : laterL l 0 = l := by
  unfold laterL
  have : (fun x : Ld => (x.1, x.2.1 + 0, x.2.2.1, x.2.2.2)) = id := by
    funext x
    obtain ⟨a, b, c, e⟩ := x
    simp
  rw [this, List.map_id]

/-- A list without a place. -/
def lessL (l : List Ld) (x : Nat) : List Ld := l.take x ++ l.drop (x + 1)

theorem less_get {l : List Ld} {x : Nat} (hx : x < l.length) (i : Nat) : (lessL l x)[i]? = l[if i < x then i else i + 1]? := by
  unfold lessL
  by_cases h : i < x
  · rw [if_pos h, List.getElem?_append_left (by rw [List.length_take]; omega), List.getElem?_take, if_pos h]
  · rw [if_neg h, List.getElem?_append_right (by rw [List.length_take]; omega), List.length_take, List.getElem?_drop]
    congr 1
    omega
theorem less_len {l : List Ld} {x : Nat} (hx : x < l.length) : (lessL l x).length + 1 = l.length := by
  unfold lessL
  rw [List.length_append, List.length_take, List.length_drop]
  omega
theorem less_mem {l : List Ld} {x : Nat} : ∀ y ∈ lessL l x, y ∈ l := fun y hy => by
  unfold lessL at hy
  rcases List.mem_append.1 hy with h | h
  · exact List.mem_of_mem_take h
  · exact List.mem_of_mem_drop h

theorem sumN_less1 (f : Nat → Int) : ∀ {n x : Nat}, x < n + 1 → sumN (n + 1) f = sumN n (fun i => f (if i < x then i else i + 1)) + f x
  | 0, x, h => by
    have : x = 0 := by omega
    subst this
    simp [sumN]
  | n + 1, x, h => by
    by_cases hx : x < n + 1
    · have ih := sumN_less1 f (n := n) hx
      have e : sumN (n + 1 + 1) f = sumN (n + 1) f + f (n + 1) := rfl
      have e2 : sumN (n + 1) (fun i => f (if i < x then i else i + 1)) = sumN n (fun i => f (if i < x then i else i + 1)) + f (if n < x then n else n + 1) := rfl
      rw [e, e2, ih]
      by_cases hnx : n < x
      · have hx' : x = n + 1 := by omega
        omega
      · rw [if_neg hnx]; omega
    · have hx' : x = n + 1 := by omega
      subst hx'
      have e : sumN (n + 1 + 1) f = sumN (n + 1) f + f (n + 1) := rfl
      rw [e]
      congr 1
      exact sumN_congr (fun i hi => by rw [if_pos hi])

/-- Without a load. -/
theorem CanDry.less {l : List Ld} {K : Int} (w : World) (h : CanDry l K) (hok : ∀ x ∈ l, okN x) (hn : l.length ≤ 256) (hK0 : 0 ≤ K) (hK1 : K ≤ 256) {x : Nat} (hx : x < l.length) : CanDry (lessL l x) K := by
  obtain ⟨M, hM⟩ := top_of l
  obtain ⟨g, hg⟩ := h.rota hok hK0 hM
  have hl := less_len hx
  have h2 : Rota (lessL l x) K M (fun i t => g (if i < x then i else i + 1) t) := by
    refine ⟨fun i t => hg.bit _ t, fun i y t hy hne => ?_, fun i y hy => ?_, fun t => ?_⟩
    · rw [less_get hx] at hy
      exact hg.inn _ y t hy hne
    · rw [less_get hx] at hy
      exact hg.len _ y hy
    · have h3 := hg.few t
      rw [← hl, sumN_less1 (fun i => g i t) (by omega : x < (lessL l x).length + 1)] at h3
      have := hg.bit x t
      omega
  exact h2.dry w (fun y hy => hM y (less_mem y hy)) (fun y hy => hok y (less_mem y hy)) (by omega) hK0 hK1

/-- With a load and a kiln more. -/
theorem CanDry.add {l : List Ld} {K : Int} (w : World) {x : Nat} (hx : x < l.length) (h : CanDry (lessL l x) K) (hok : ∀ x ∈ l, okN x) (hn : l.length ≤ 256) (hK0 : 0 ≤ K) (hK1 : K + 1 ≤ 256) : CanDry l (K + 1) := by
  obtain ⟨M, hM⟩ := top_of l
  have hl := less_len hx
  obtain ⟨g, hg⟩ := h.rota (fun y hy => hok y (less_mem y hy)) hK0 (fun y hy => hM y (less_mem y hy))
  obtain ⟨a, ha⟩ : ∃ a, l[x]? = some a := ⟨_, List.getElem?_eq_getElem hx⟩
  have hoka := hok a (List.mem_of_getElem? ha)
  have hMa := hM a (List.mem_of_getElem? ha)
  unfold okN at hoka
  have hback : ∀ i y, i ≠ x → l[i]? = some y → (lessL l x)[if i < x then i else i - 1]? = some y := fun i y hi hy => by
    rw [less_get hx, ← hy]
    congr 1
    by_cases hix : i < x
    · rw [if_pos hix, if_pos hix]
    · rw [if_neg hix, if_neg (by omega)]; omega
  have h2 : Rota l (K + 1) M (fun i t => if i = x then (if a.1 ≤ (t : Int) ∧ (t : Int) < a.1 + a.2.2.1 then 1 else 0) else g (if i < x then i else i - 1) t) := by
    refine ⟨fun i t => ?_, fun i y t hy hne => ?_, fun i y hy => ?_, fun t => ?_⟩
    · by_cases hi : i = x
      · rw [if_pos hi]; split <;> omega
      · rw [if_neg hi]; exact hg.bit _ t
    · by_cases hi : i = x
      · rw [if_pos hi] at hne
        subst hi
        rw [ha] at hy
        cases hy
        split at hne
        · omega
        · exact absurd rfl hne
      · rw [if_neg hi] at hne
        exact hg.inn _ y t (hback i y hi hy) hne
    · by_cases hi : i = x
      · subst hi
        rw [ha] at hy
        cases hy
        have e : (fun t : Nat => if i = i then (if a.1 ≤ (t : Int) ∧ (t : Int) < a.1 + a.2.2.1 then (1 : Int) else 0) else g (if i < i then i else i - 1) t) = fun t : Nat => if a.1 ≤ (t : Int) ∧ (t : Int) < a.1 + a.2.2.1 then (1 : Int) else 0 := by
          funext t
          rw [if_pos rfl]
        have h3 : sumN M (fun t : Nat => if i = i then (if a.1 ≤ (t : Int) ∧ (t : Int) < a.1 + a.2.2.1 then (1 : Int) else 0) else g (if i < i then i else i - 1) t) = a.2.2.1 := by
          rw [e, sumN_span]
          omega
        exact h3
      · have e : (fun t : Nat => if i = x then (if a.1 ≤ (t : Int) ∧ (t : Int) < a.1 + a.2.2.1 then (1 : Int) else 0) else g (if i < x then i else i - 1) t) = g (if i < x then i else i - 1) := by
          funext t
          rw [if_neg hi]
        have h3 := hg.len _ y (hback i y hi hy)
        rw [← e] at h3
        exact h3
    · have h3 := hg.few t
      rw [← hl, sumN_less1 _ (by omega : x < (lessL l x).length + 1)]
      have e : sumN (lessL l x).length (fun i => (fun i : Nat => if i = x then (if a.1 ≤ (t : Int) ∧ (t : Int) < a.1 + a.2.2.1 then (1 : Int) else 0) else g (if i < x then i else i - 1) t) (if i < x then i else i + 1)) = sumN (lessL l x).length (fun i => g i t) := sumN_congr (fun i _ => by
        dsimp only
        by_cases hix : i < x
        · rw [if_pos hix, if_neg (by omega), if_pos hix]
        · rw [if_neg hix, if_neg (by omega), if_neg (by omega), Nat.add_sub_cancel])
      rw [e, if_pos rfl]
      split <;> omega
  exact h2.dry w hM hok hn (by omega) hK1

end Go.Proofs.Ytkofnhimgegcnaa

namespace Go.Proofs.Ytkofnhimgegcnaa
open Go Go.RowKit Go.Sort

theorem own_caps {w : World} {base t size n c : Nat} {q : Option Addr} {xs : List Value} (h : w.ownsRow base t size (.slice q n c) n xs) : n ≤ c ∧ c ≤ maxLen := by
  obtain ⟨h1, h2⟩ := h
  rcases h2 with ⟨h2, _⟩ | ⟨g', cap', cur, hv, hb, hg, hle, hmx, hsz, htk⟩
  · injection h2 with e1 e2 e3
    subst e3 e2
    exact ⟨Nat.le_refl _, by unfold maxLen; omega⟩
  · injection hv with e1 e2 e3
    subst e3
    exact ⟨hle, hmx⟩

/-- What tame leaves, with its room. -/
theorem tame_cap (p : Option Addr) (cl most : Nat) (l : List Ld) (w : World) (hL : LoadsAt w p l) (hm : most ≤ 256) (hcl : l.length ≤ cl) (hmx : cl ≤ maxLen) :
    Calls Try.prog 13 #[.slice p l.length cl, .int .i64 most, .bool false] w fun e w' => ∃ c q l', e = .returned (.slice q (List.length l') c) ∧ LoadsAt w' q l' ∧ l'.length ≤ most ∧ l'.length ≤ c ∧ c ≤ maxLen ∧ (∀ x ∈ l', okB x = true) ∧ Adds w w' :=
  (tame_any p cl most false l w hL (by omega) hcl hmx).mono (by
    rintro e w' ⟨c, q, l', h1, h2, rfl, h3, h4⟩
    have hc := own_caps h3
    exact ⟨c, q, l', rfl, h3.at, by omega, hc.1, hc.2, fun x hx => (h2 x hx).1, h4⟩)

theorem loads_drop {w : World} {g off : Nat} {l : List Ld} (h : LoadsAt w (some ⟨g, off, none⟩) l) (k : Nat) : LoadsAt w (some ⟨g, off + k * 4, none⟩) (l.drop k) := fun i x hx => by
  rw [List.getElem?_drop] at hx
  obtain ⟨g', o', e, h0, h1, h2, h3⟩ := h (k + i) x hx
  injection e with e
  injection e with e1 e2
  subst e1; subst e2
  refine ⟨g, off + k * 4, rfl, ?_⟩
  rw [show off + k * 4 + i * 4 = off + (k + i) * 4 by omega]
  exact ⟨h0, h1, h2, h3⟩
theorem loads_take {w : World} {p : Option Addr} {l : List Ld} (h : LoadsAt w p l) (k : Nat) : LoadsAt w p (l.take k) := fun i x hx => by
  rw [List.getElem?_take] at hx
  split at hx
  · exact h i x hx
  · cases hx

set_option maxRecDepth 100000 in
set_option maxHeartbeats 4000000 in
theorem more_law (p : Option Addr) (cl : Nat) (l : List Ld) (x y : Int) (w : World) (hL : LoadsAt w p l) (hcl : l.length ≤ cl) (hmx : cl ≤ maxLen) :
    Calls Try.prog 12 #[.slice p l.length cl, .int .i64 x, .int .i64 y] w fun e w' => e = .returned (.bool true) ∧ Adds w w' := by
  have HTM := Lib.hid (tame_cap p cl 14 l w hL (by omega) hcl hmx)
  generalize l.length = N at *
  clear hL hcl hmx
  obtain ⟨i0, hi, hi0, hi1, hi2⟩ := info_parts info72
  have HI := Lib.hid hi
  have HI0 := Lib.hid hi0
  have HI1 := Lib.hid hi1
  have HI2 := Lib.hid hi2
  clear hi hi0 hi1 hi2
  obtain ⟨hx0, hx1⟩ := wmod x 3 (by omega) (by omega)
  go_enter Try.func12, Try.ntmps12
  go_upto_region 2 with fail
  obtain ⟨K, hK⟩ : ∃ K, K = 1 + wrap64 ((IntKind.u64.wrap x).tmod 3) := ⟨_, rfl⟩
  simp only [← hK]
  have hKb : 1 ≤ K ∧ K ≤ 3 := by omega
  clear hK hx0 hx1
  go_upto_region 3 with (go_at_call 13; refine HTM.out.mono ?_; rintro e w1 ⟨c, q, l', rfl, h1, h2, hcl, hcm, h3, hb1⟩; have HL := Lib.hid h1; have HOK := Lib.hid h3; have HB1 := Lib.hid hb1; clear h1 h3 hb1)
  have hokN : ∀ x ∈ l', okN x := fun x hx => okB_okN (HOK.out x hx)
  have htb := total_bd HOK.out (by omega)
  have HGV := Lib.hid (fun (W : World) (hW : Adds w1 W) => give_at q c l' W (HL.out.later hW) (by omega))
  have HFT : Hid (∀ (q2 : Option Addr) (c2 : Nat) (k : Int) (W : World), 1 ≤ k ∧ k ≤ 64 → LoadsAt W q2 l' → Calls Try.prog 15 #[.slice q2 l'.length c2, .int .i64 k] W fun e w' => ∃ v, e = .returned (.tuple #[.bool v, .int .i64 0]) ∧ (v = true ↔ CanDry l' k) ∧ Adds W w') := Lib.hid (fun q2 c2 k W hk hq => (Fits_any q2 c2 l' k W (by unfold maxLen; omega) hq).mono (by
    rintro e w' ⟨v, rfl, _, h4, h5⟩
    have h0 := checkK_ok (by omega) HOK.out hk (l := l')
    exact ⟨v, by rw [h0], h4 h0, h5⟩))
  have hcl0 : checkL l' = 0 := checkL_zero.2 ⟨by omega, HOK.out⟩
  have HKI : Hid (∀ (q2 : Option Addr) (c2 : Nat) (W : World), LoadsAt W q2 l' → Calls Try.prog 24 #[.slice q2 l'.length c2] W fun e w' => ∃ r, e = .returned (.tuple #[.int .i64 r, .int .i64 0]) ∧ LeastGot (CanDry l') 0 l'.length r ∧ Adds W w') := Lib.hid (fun q2 c2 W hq => (Kilns_any q2 c2 l' W (by unfold maxLen; omega) hq).mono (by
    rintro e w' ⟨r, rfl, _, h4, h5⟩
    exact ⟨r, by rw [hcl0], h4 hcl0, h5⟩))
  have HDL := Lib.hid (fun (q2 : Option Addr) (c2 : Nat) (k : Int) (W : World) (hk : 1 ≤ k ∧ k ≤ 64) (hq : LoadsAt W q2 l') => Delay_any q2 c2 l' k W hq HOK.out (by omega) hk)
  have HALL := Lib.hid (dry_all w hokN (by omega))
  have HLATE := Lib.hid (fun (k : Int) (hk : 1 ≤ k ∧ k ≤ 64) => dry_late w HOK.out (by omega) hk)
  obtain ⟨T, hT⟩ : ∃ T, T = totalL l' := ⟨_, rfl⟩
  rw [← hT] at HDL HLATE htb
  obtain ⟨m, hm⟩ : ∃ m, m = l'.length := ⟨_, rfl⟩
  rw [← hm] at h2 hcl HGV HFT HKI HDL HALL ⊢
  obtain ⟨t0, t1, _⟩ := htb
  have HM := Lib.hid hm
  have HOKN := Lib.hid hokN
  clear hm HTM hT hokN hcl0
  go_upto_region 4 with (first
    | (go_at_call 16; refine (HGV.out _ (Adds.refl _)).mono ?_; rintro e w2 ⟨c2, q2, rfl, hq2, hb2⟩; have HQ2 := Lib.hid hq2; have HB2 := Lib.hid hb2; clear hq2 hb2)
    | (go_at_call 15; refine (HFT.out _ _ K _ ⟨hKb.1, by omega⟩ HQ2.out).mono ?_; rintro e w3 ⟨a, rfl, hv, hb3⟩; have HVA := Lib.hid hv; have HB3 := Lib.hid (HB2.out.trans hb3); clear hv hb3))
  clear HQ2
  go_upto_region 5 with (first
    | (go_at_call 16; refine (HGV.out _ HB3.out).mono ?_; rintro e w4 ⟨c4, q4, rfl, hq4, hb4⟩; have HQ4 := Lib.hid hq4; have HB4 := Lib.hid (HB3.out.trans hb4); clear hq4 hb4)
    | (go_at_call 15; refine (HFT.out _ _ (K + 1) _ ⟨by omega, by omega⟩ HQ4.out).mono ?_; rintro e w5 ⟨b, rfl, hv, hb5⟩; have HVB := Lib.hid hv; have HB5 := Lib.hid (HB4.out.trans hb5); clear hv hb5))
  clear HQ4
  go_upto_region 6 with (first
    | (go_at_call 16; refine (HGV.out _ HB5.out).mono ?_; rintro e w6 ⟨c6, q6, rfl, hq6, hb6⟩; have HQ6 := Lib.hid hq6; have HB6 := Lib.hid (HB5.out.trans hb6); clear hq6 hb6)
    | (go_at_call 25; refine (HDL.out _ _ K _ ⟨hKb.1, by omega⟩ HQ6.out).mono ?_; rintro e w7 ⟨dc, rfl, hd, hb7⟩; have HDC := Lib.hid hd; have HB7 := Lib.hid (HB6.out.trans hb7); clear hd hb7))
  clear HQ6
  go_upto_region 7 with (first
    | (go_at_call 16; refine (HGV.out _ HB7.out).mono ?_; rintro e w8 ⟨c8, q8, rfl, hq8, hb8⟩; have HQ8 := Lib.hid hq8; have HB8 := Lib.hid (HB7.out.trans hb8); clear hq8 hb8)
    | (go_at_call 25; refine (HDL.out _ _ (K + 1) _ ⟨by omega, by omega⟩ HQ8.out).mono ?_; rintro e w9 ⟨dd, rfl, hd, hb9⟩; have HDD := Lib.hid hd; have HB9 := Lib.hid (HB8.out.trans hb9); clear hd hb9))
  clear HQ8
  go_upto_region 8 with (first
    | (go_at_call 16; refine (HGV.out _ HB9.out).mono ?_; rintro e w10 ⟨c10, q10, rfl, hq10, hb10⟩; have HQ10 := Lib.hid hq10; have HB10 := Lib.hid (HB9.out.trans hb10); clear hq10 hb10)
    | (go_at_call 24; refine (HKI.out _ _ _ HQ10.out).mono ?_; rintro e w11 ⟨kk, rfl, hr, hb11⟩; have HKK := Lib.hid hr; have HB11 := Lib.hid (HB10.out.trans hb11); clear hr hb11))
  clear HQ10
  have hn : l'.length ≤ 256 := by have := HM.out; omega
  have hPdc : CanDry (laterL l' dc) K := by
    rcases HDC.out.2.2.2 with h | h
    · rw [h]; exact HLATE.out K ⟨hKb.1, by omega⟩
    · exact h
  have hPkk : CanDry l' kk := by
    rcases HKK.out.2.2.2 with h | h
    · rw [h]; exact HALL.out
    · exact h
  have hdc0 : 0 ≤ dc ∧ dc ≤ T := ⟨HDC.out.1, HDC.out.2.1⟩
  have hdd0 : 0 ≤ dd ∧ dd ≤ T := ⟨HDD.out.1, HDD.out.2.1⟩
  have hkk0 : 0 ≤ kk ∧ kk ≤ (m : Int) := ⟨HKK.out.1, HKK.out.2.1⟩
  have HF1 : Hid (a = true → b = true) := Lib.hid (fun ha => HVB.out.2 ((HVA.out.1 ha).more w HOKN.out hn (by omega) (by omega) (by omega)))
  have HF2 : Hid (a = true ↔ dc = 0) := Lib.hid ⟨fun ha => by
      apply Classical.byContradiction
      intro hne
      rcases HDC.out.2.2.1 with h | h
      · exact hne h
      · have h0 : CanDry (laterL l' 0) K := by rw [laterL_zero]; exact HVA.out.1 ha
        exact h (h0.late w HOK.out hn (by omega) (by omega) (Int.le_refl _) (by omega) (by omega)),
    fun h => by
      rw [h, laterL_zero] at hPdc
      exact HVA.out.2 hPdc⟩
  have HF3 : Hid (a = true ↔ kk ≤ K) := Lib.hid ⟨fun ha => by
      apply Classical.byContradiction
      intro hne
      rcases HKK.out.2.2.1 with h | h
      · omega
      · exact h ((HVA.out.1 ha).more w HOKN.out hn (by omega) (by omega) (by omega)),
    fun h => HVA.out.2 (hPkk.more w HOKN.out hn (by omega) h (by omega))⟩
  have HF4 : Hid (dd ≤ dc) := Lib.hid (by
    apply Classical.byContradiction
    intro hne
    rcases HDD.out.2.2.1 with h | h
    · omega
    · have h1 := hPdc.late w HOK.out hn (by omega) (by omega) hdc0.1 (show dc ≤ dd - 1 by omega) (by omega)
      exact h (h1.more w (later_ok HOK.out ⟨by omega, by omega⟩) (by rw [laterL_len]; exact hn) (by omega) (by omega) (by omega)))
  have HPKK := Lib.hid hPkk
  clear hPdc hPkk HDC HDD HVB HLATE HALL HFT HKI HDL
  go_cut [110] (fun v wc => v = .bool false ∧ w11 = wc)
  case first =>
    cases a with
    | true =>
      have hb : b = true := HF1.out rfl
      have hd : dc = 0 := HF2.out.1 rfl
      have hk := HF3.out.1 rfl
      have h4 := HF4.out
      subst hb
      subst hd
      have g1 : decide (0 < dd) = false := decide_eq_false (by omega)
      have g2 : decide (kk ≤ K) = true := decide_eq_true hk
      clear hk h4
      go_wp2_with fail
      go_meet
      exact ⟨rfl, rfl⟩
    | false =>
      have h2 : dc ≠ 0 := fun h => by have := HF2.out.2 h; cases this
      have h3 : ¬ kk ≤ K := fun h => by have := HF3.out.2 h; cases this
      have h4 := HF4.out
      have g1 : (dc == 0) = false := beq_eq_false_iff_ne.2 h2
      have g2 : decide (kk ≤ K) = false := decide_eq_false h3
      have g3 : decide (dc < dd) = false := decide_eq_false (by omega)
      clear h2 h3 h4
      go_wp2_with fail
      go_meet
      exact ⟨rfl, rfl⟩
  case rest =>
  obtain ⟨rfl, rfl⟩ := hcut
  go_upto_region 10 with fail
  by_cases hm0 : m = 0
  · subst hm0
    go_wp2_with (go_at_call 17; refine (awake_any _).mono ?_; rintro e w12 ⟨rfl, hb12⟩)
    go_ret
    exact ⟨rfl, (HB1.out.trans HB11.out).trans hb12⟩
  · have hmz : ((m : Int) == 0) = false := beq_eq_false_iff_ne.2 (by omega)
    have hmz2 : (m == 0) = false := beq_eq_false_iff_ne.2 (by omega)
    have hu : IntKind.u64.wrap (m : Int) = (m : Int) := u64_small (by omega) (by omega)
    obtain ⟨hy0, hy1⟩ := wmod y (m : Int) (by omega) (by omega)
    go_upto_region 13 with fail
    obtain ⟨X, hX⟩ : ∃ X : Nat, (X : Int) = wrap64 ((IntKind.u64.wrap y).tmod (m : Int)) := ⟨(wrap64 ((IntKind.u64.wrap y).tmod (m : Int))).toNat, by omega⟩
    rw [← hX] at hy0 hy1 ⊢
    have hXm : X < m := by omega
    obtain ⟨x0, hx0⟩ : ∃ x, l'[0]? = some x := ⟨_, List.getElem?_eq_getElem (by have := HM.out; omega)⟩
    obtain ⟨g, off, rfl, _⟩ := HL.out 0 x0 hx0
    have HL11 := Lib.hid (HL.out.later HB11.out)
    clear hX hy0 hy1 hu hmz hmz2 hx0
    obtain ⟨B, hB⟩ : ∃ B, B = w11.heap.size := ⟨_, rfl⟩
    have HBW := Lib.hid hB
    clear hB
    go_upto_region 14 with fail
    go_cut [20] (fun v wc => ∃ pj cj, v = .slice pj X cj ∧ Hid (wc.ownsRow B 72 4 (.slice pj X cj) X ((l'.take X).flatMap enc4)) ∧ Hid (Adds w11 wc))
    case first =>
      have hc1 : (X : Int) ≤ (c : Int) := by omega
      have hc0 : (0 : Int) ≤ (X : Int) := by omega
      by_cases hX0 : X = 0
      · subst hX0
        have HSR : Hid (Src Try.prog i0.size 22 (.slice (some ⟨g, off, none⟩) 0 c) 0 [] w11) := Lib.hid (Src.ofSlice w11 Try.underlying22 ⟨g, off, none⟩ 0 c [] (by simp) (fun j u hj => by simp at hj) (fun u hu => by cases hu))
        go_wp2_with (at_builtin; refine wpList_append_nil (P := Try.prog) rfl _ _ 22 rfl 72 i0 Try.underlying22 HI.out none 0 0 (Nat.le_refl _) rfl _ HSR.out rfl ?_)
        go_meet
        exact ⟨none, 0, rfl, Lib.hid (World.ownsRow_nil _ _ _ _), Lib.hid (Adds.refl _)⟩
      · have HTK : Hid (LoadsAt w11 (some ⟨g, off, none⟩) (l'.take X)) := Lib.hid (loads_take HL11.out X)
        have HTL : Hid ((l'.take X).length = X) := Lib.hid (by rw [List.length_take, ← HM.out]; omega)
        go_wp2_with (at_builtin; ((refine wpList_append_lies _ rfl _ _ 22 rfl B 72 i0 (.agg #[.int .i64 0, .int .i64 0, .int .i64 0, .int .i64 0]) 4 32 Try.underlying22 HI.out HI0.out HI1.out HI2.out rfl (by decide) (.slice none 0 0) 0 [] rfl (World.ownsRow_nil _ _ _ _) ⟨g, off, none⟩ X c ((l'.take X).flatMap enc4) rfl (by rw [flat4_len, HTL.out]) (fun j u hj => by rw [addr_add2]; exact loads_flat HTK.out j u hj) (flat4_one _) (by omega) (by unfold maxLen; omega) (by omega) (by rw [HBW.out]; exact Nat.le_refl _) B HBW.out.symm ?_); intro g6 c6 w6 ho6 hg6 hl6 hs6; have HO6 := Lib.hid ho6; have HG6 := Lib.hid hg6; clear ho6 hg6 hl6))
        go_meet
        refine ⟨some ⟨g6, 0, none⟩, c6, by simp, Lib.hid ?_, Lib.hid ((Adds.refl w11).grown HG6.out (Nat.le_refl _) (fun j hj => by cases hj))⟩
        have := HO6.out
        rw [Nat.zero_add, List.nil_append] at this
        exact this
    case rest =>
    obtain ⟨pj, cj, rfl, HO12, HA12⟩ := hcut
    rename World => w12
    have HL12 := Lib.hid (HL11.out.later HA12.out)
    have hB12 : B ≤ w12.heap.size := by have := HA12.out.size; have := HBW.out; omega
    go_upto_region 15 with fail
    go_cut [20] (fun v wc => ∃ pj cj r, v = .slice pj r cj ∧ Hid (r = (lessL l' X).length) ∧ Hid (LoadsAt wc pj (lessL l' X)) ∧ Hid (Adds w11 wc))
    case first =>
      have hc1 : (m : Int) ≤ (c : Int) := by omega
      have hc0 : (0 : Int) ≤ (X : Int) + 1 := by omega
      have hc2 : (X : Int) + 1 ≤ (m : Int) := by omega
      have hTL : Hid ((l'.take X).length = X) := Lib.hid (by rw [List.length_take, ← HM.out]; omega)
      have hcj := own_caps HO12.out
      have hto : ((X : Int) + 1).toNat = X + 1 := by omega
      by_cases hlast : X + 1 = m
      · have hE : Hid (lessL l' X = l'.take X) := Lib.hid (by
          unfold lessL
          rw [hlast, List.drop_of_length_le (by rw [HM.out]; exact Nat.le_refl _), List.append_nil])
        have HAT : Hid (LoadsAt w12 pj (l'.take X)) := Lib.hid (by
          have h : Loads w12 72 B (.slice pj (l'.take X).length cj) (l'.take X) := by
            unfold Loads
            rw [hTL.out]
            exact HO12.out
          exact h.at)
        have hz : m - (X + 1) = 0 := by omega
        clear hlast
        by_cases hcx : c = X + 1
        · have hcx2 : (c = X + 1) = True := eq_true hcx
          clear hcx
          have HSR : Hid (Src Try.prog i0.size 22 (.slice (some ⟨g, off, none⟩) 0 (c - (X + 1))) 0 [] w12) := Lib.hid (Src.ofSlice w12 Try.underlying22 ⟨g, off, none⟩ 0 _ [] (by simp) (fun j u hj => by simp at hj) (fun u hu => by cases hu))
          go_wp2_with (at_builtin; refine wpList_append_nil (P := Try.prog) rfl _ _ 22 rfl 72 i0 Try.underlying22 HI.out pj X cj hcj.1 rfl _ HSR.out (by simp [go_sem]) ?_)
          go_meet
          exact ⟨pj, cj, X, rfl, Lib.hid (by rw [hE.out, hTL.out]), Lib.hid (by rw [hE.out]; exact HAT.out), HA12⟩
        · have HSR : Hid (Src Try.prog i0.size 22 (.slice (some ⟨g, off + (X + 1) * 4, none⟩) 0 (c - (X + 1))) 0 [] w12) := Lib.hid (Src.ofSlice w12 Try.underlying22 ⟨g, off + (X + 1) * 4, none⟩ 0 _ [] (by simp) (fun j u hj => by simp at hj) (fun u hu => by cases hu))
          go_wp2_with (at_builtin; refine wpList_append_nil (P := Try.prog) rfl _ _ 22 rfl 72 i0 Try.underlying22 HI.out pj X cj hcj.1 rfl _ HSR.out (by simp [go_sem]) ?_)
          go_meet
          exact ⟨pj, cj, X, rfl, Lib.hid (by rw [hE.out, hTL.out]), Lib.hid (by rw [hE.out]; exact HAT.out), HA12⟩
      · have hcx : c ≠ X + 1 := by omega
        have HDR : Hid (LoadsAt w12 (some ⟨g, off + (X + 1) * 4, none⟩) (l'.drop (X + 1))) := Lib.hid (loads_drop HL12.out (X + 1))
        have hDL : Hid ((l'.drop (X + 1)).length = m - (X + 1)) := Lib.hid (by rw [List.length_drop, ← HM.out])
        have hEf : Hid ((l'.take X).flatMap enc4 ++ (l'.drop (X + 1)).flatMap enc4 = (lessL l' X).flatMap enc4) := Lib.hid (by unfold lessL; rw [List.flatMap_append])
        have hEl : Hid (X + (m - (X + 1)) = (lessL l' X).length) := Lib.hid (by unfold lessL; rw [List.length_append, hTL.out, hDL.out])
        go_wp2_with (at_builtin; ((refine wpList_append_lies _ rfl _ _ 22 rfl B 72 i0 (.agg #[.int .i64 0, .int .i64 0, .int .i64 0, .int .i64 0]) 4 32 Try.underlying22 HI.out HI0.out HI1.out HI2.out rfl (by decide) (.slice pj X cj) X _ rfl HO12.out ⟨g, off + (X + 1) * 4, none⟩ (m - (X + 1)) (c - (X + 1)) ((l'.drop (X + 1)).flatMap enc4) (by simp [go_sem]) (by rw [flat4_len, hDL.out]) (fun j u hj => by rw [addr_add2]; exact loads_flat HDR.out j u hj) (flat4_one _) (by omega) (by unfold maxLen; omega) (by omega) hB12 w12.heap.size rfl ?_); intro g6 c6 w6 ho6 hg6 hl6 hs6; have HO6 := Lib.hid ho6; have HG6 := Lib.hid hg6; clear ho6 hg6 hl6))
        go_meet
        refine ⟨some ⟨g6, 0, none⟩, c6, _, rfl, hEl, Lib.hid ?_, Lib.hid (HA12.out.grown HG6.out (by have := HBW.out; omega) (fun j hj => by have := (own_block HO12.out hj).1; have := HBW.out; omega))⟩
        have h := HO6.out
        rw [hEf.out, hEl.out] at h
        have h2 : Loads w6 72 B (.slice (some ⟨g6, 0, none⟩) (lessL l' X).length c6) (lessL l' X) := h
        exact h2.at
    case rest =>
    obtain ⟨pj2, cj2, r, rfl, HRL, HAT, HA13⟩ := hcut
    rename World => w13
    have hX' : X < l'.length := by have := HM.out; omega
    have hll := less_len hX'
    have hokL : ∀ z ∈ lessL l' X, okB z = true := fun z hz => HOK.out z (less_mem z hz)
    have hokLN : ∀ z ∈ lessL l' X, okN z := fun z hz => okB_okN (hokL z hz)
    obtain ⟨Ls, hLs⟩ : ∃ L, L = lessL l' X := ⟨_, rfl⟩
    have HLE : Hid (∀ k, CanDry l' k → 0 ≤ k → k ≤ 256 → CanDry Ls k) := Lib.hid (fun k h h0 h1 => by rw [hLs]; exact h.less w HOKN.out hn h0 h1 hX')
    have HAD : Hid (∀ k, CanDry Ls k → 0 ≤ k → k + 1 ≤ 256 → CanDry l' (k + 1)) := Lib.hid (fun k h h0 h1 => by rw [hLs] at h; exact CanDry.add w hX' h HOKN.out hn h0 h1)
    rw [← hLs] at HRL HAT hll hokL hokLN
    have hr14 : r ≤ 14 := by have := HRL.out; have := HM.out; omega
    have HMO : Hid (∀ k k', CanDry Ls k → 0 ≤ k → k ≤ k' → k' ≤ 256 → CanDry Ls k') := Lib.hid (fun k k' h h0 h1 h2 => h.more w hokLN (by omega) h0 h1 h2)
    have HMO2 : Hid (∀ k k', CanDry l' k → 0 ≤ k → k ≤ k' → k' ≤ 256 → CanDry l' k') := Lib.hid (fun k k' h h0 h1 h2 => h.more w HOKN.out hn h0 h1 h2)
    have hchk : checkL Ls = 0 := checkL_zero.2 ⟨by omega, hokL⟩
    have HALL2 : Hid (CanDry Ls (r : Int)) := Lib.hid (by rw [HRL.out]; exact dry_all w hokLN (by omega))
    have HGV2 : Hid (∀ (W : World), Adds w13 W → Calls Try.prog 16 #[.slice pj2 r cj2] W fun e w' => ∃ c q, e = .returned (.slice q r c) ∧ LoadsAt w' q Ls ∧ Adds W w') := Lib.hid (fun W hW => by
      have := give_at pj2 cj2 Ls W (HAT.out.later hW) (by omega)
      rw [← HRL.out] at this
      exact this)
    have HFT2 : Hid (∀ (q2 : Option Addr) (c2 : Nat) (W : World), LoadsAt W q2 Ls → Calls Try.prog 15 #[.slice q2 r c2, .int .i64 K] W fun e w' => ∃ v, e = .returned (.tuple #[.bool v, .int .i64 0]) ∧ (v = true ↔ CanDry Ls K) ∧ Adds W w') := Lib.hid (fun q2 c2 W hq => by
      have h := (Fits_any q2 c2 Ls K W (by unfold maxLen; omega) hq).mono (R' := fun e w' => ∃ v, e = .returned (.tuple #[.bool v, .int .i64 0]) ∧ (v = true ↔ CanDry Ls K) ∧ Adds W w') (by
        rintro e w' ⟨v, rfl, _, h4, h5⟩
        have h0 := checkK_ok (by omega) hokL (l := Ls) (K := K) ⟨hKb.1, by omega⟩
        exact ⟨v, by rw [h0], h4 h0, h5⟩)
      rw [← HRL.out] at h
      exact h)
    have HKI2 : Hid (∀ (q2 : Option Addr) (c2 : Nat) (W : World), LoadsAt W q2 Ls → Calls Try.prog 24 #[.slice q2 r c2] W fun e w' => ∃ z, e = .returned (.tuple #[.int .i64 z, .int .i64 0]) ∧ LeastGot (CanDry Ls) 0 r z ∧ Adds W w') := Lib.hid (fun q2 c2 W hq => by
      have h := (Kilns_any q2 c2 Ls W (by unfold maxLen; omega) hq).mono (R' := fun e w' => ∃ z, e = .returned (.tuple #[.int .i64 z, .int .i64 0]) ∧ LeastGot (CanDry Ls) 0 Ls.length z ∧ Adds W w') (by
        rintro e w' ⟨z, rfl, _, h4, h5⟩
        exact ⟨z, by rw [hchk], h4 hchk, h5⟩)
      rw [← HRL.out] at h
      exact h)
    clear hLs hX' hll hokL hokLN hchk HAT HRL
    go_upto_region 17 with (first
      | (go_at_call 16; refine (HGV2.out _ (Adds.refl _)).mono ?_; rintro e w14 ⟨c14, q14, rfl, hq14, hb14⟩; have HQ14 := Lib.hid hq14; have HB14 := Lib.hid hb14; clear hq14 hb14)
      | (go_at_call 15; refine (HFT2.out _ _ _ HQ14.out).mono ?_; rintro e w15 ⟨o, rfl, hv, hb15⟩; have HVO := Lib.hid hv; have HB15 := Lib.hid (HB14.out.trans hb15); clear hv hb15))
    clear HQ14
    go_upto_region 18 with (first
      | (go_at_call 16; refine (HGV2.out _ HB15.out).mono ?_; rintro e w16 ⟨c16, q16, rfl, hq16, hb16⟩; have HQ16 := Lib.hid hq16; have HB16 := Lib.hid (HB15.out.trans hb16); clear hq16 hb16)
      | (go_at_call 24; refine (HKI2.out _ _ _ HQ16.out).mono ?_; rintro e w17 ⟨mm, rfl, hz, hb17⟩; have HMM := Lib.hid hz; have HB17 := Lib.hid (HB16.out.trans hb17); clear hz hb17))
    clear HQ16 HGV2 HFT2 HKI2
    have hm0' : 0 ≤ mm ∧ mm ≤ (r : Int) := ⟨HMM.out.1, HMM.out.2.1⟩
    have hPmm : CanDry Ls mm := by
      rcases HMM.out.2.2.2 with h | h
      · rw [h]; exact HALL2.out
      · exact h
    have hle1 : mm ≤ kk := by
      apply Classical.byContradiction
      intro hne
      rcases HMM.out.2.2.1 with h | h
      · omega
      · exact h (HMO.out kk (mm - 1) (HLE.out kk HPKK.out (by omega) (by omega)) (by omega) (by omega) (by omega))
    have hle2 : kk ≤ mm + 1 := by
      apply Classical.byContradiction
      intro hne
      rcases HKK.out.2.2.1 with h | h
      · omega
      · exact h (HMO2.out (mm + 1) (kk - 1) (HAD.out mm hPmm (by omega) (by omega)) (by omega) (by omega) (by omega))
    have HO : Hid (a = true → o = true) := Lib.hid (fun ha => HVO.out.2 (HLE.out K (HVA.out.1 ha) (by omega) (by omega)))
    have HEND := Lib.hid ((HB1.out.trans HB11.out).trans (HA13.out.trans HB17.out))
    have g1 : decide (mm ≤ kk) = true := decide_eq_true hle1
    have g2 : decide (kk ≤ mm + 1) = true := decide_eq_true hle2
    clear hPmm hle1 hle2
    cases a with
    | true =>
      have ho : o = true := HO.out rfl
      subst ho
      go_wp2_with (go_at_call 17; refine (awake_any _).mono ?_; rintro e w18 ⟨rfl, hb18⟩)
      go_ret
      exact ⟨rfl, HEND.out.trans hb18⟩
    | false =>
      go_wp2_with (go_at_call 17; refine (awake_any _).mono ?_; rintro e w18 ⟨rfl, hb18⟩)
      go_ret
      exact ⟨rfl, HEND.out.trans hb18⟩

end Go.Proofs.Ytkofnhimgegcnaa
