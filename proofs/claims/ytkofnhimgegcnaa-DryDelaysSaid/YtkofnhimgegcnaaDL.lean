/- The law DryDelays, walked. -/
import Derived.Test.YtkofnhimgegcnaaAV
import Derived.Lib.BufferMore
namespace Go.Proofs.Ytkofnhimgegcnaa
open Go Go.RowKit Go.Sort

theorem news_add4 {w : World} {g off : Nat} {us : List Value} (h : ∀ (j : Nat) (u : Value), us[j]? = some u → w.cell? ⟨g, off + j, none⟩ = some u) : ∀ (j : Nat) (u : Value), us[j]? = some u → w.cell? ((⟨g, off, none⟩ : Addr).add j) = some u := fun j u hu => by
  rw [addr_add2]
  exact h j u hu

set_option maxRecDepth 100000 in
set_option maxHeartbeats 2000000 in
theorem clone_any (g off cl : Nat) (l : List Ld) (w : World) (hL : LoadsAt w (some ⟨g, off, none⟩) l) (h0 : 0 < l.length) (hl : l.length ≤ 1000) :
    Calls Try.prog 84 #[.slice (some ⟨g, off, none⟩) l.length cl] w fun e w' => ∃ c q, e = .returned (.slice q l.length c) ∧ Loads w' 84 w.heap.size (.slice q l.length c) l ∧ Adds w w' := by
  obtain ⟨i0, hi, hi0, hi1, hi2⟩ := info_parts info84
  have HI := Lib.hid hi
  have HI0 := Lib.hid hi0
  have HI1 := Lib.hid hi1
  have HI2 := Lib.hid hi2
  have HNW : Hid (∀ W, Adds w W → ∀ (j : Nat) (u : Value), (l.flatMap enc4)[j]? = some u → W.cell? ((⟨g, off, none⟩ : Addr).add j) = some u) := Lib.hid (fun W hW => news_add4 (fun j u hu => loads_flat (hL.later hW) j u hu))
  obtain ⟨n, hn⟩ : ∃ n, n = l.length := ⟨_, rfl⟩
  rw [← hn] at hl h0 ⊢
  have HN := Lib.hid hn
  clear hi hi0 hi1 hi2 hL hn
  have hnil := fun (w : World) => Go.Lib.run_eql_slice_some_nil (P := Try.prog) w (⟨g, off, none⟩ : Addr) n cl Try.underlying30
  have hw0 : ∀ V : World, V = w.alloc (.cells #[] 84) → V.ownsRow w.heap.size 84 4 (.slice (some ⟨w.heap.size, 0, none⟩) 0 0) 0 [] := fun V hV => by
    subst hV
    exact ⟨rfl, Or.inr ⟨w.heap.size, 0, #[], rfl, Nat.le_refl _, Box.new _ _ _, Nat.le_refl _, by unfold maxLen; omega, rfl, rfl⟩⟩
  have HW0 := Lib.hid hw0
  clear hw0
  go_enter Try.func84, Try.ntmps84
  go_wp2_with (at_builtin; ((refine wpList_append_lies _ rfl _ _ 30 rfl w.heap.size 84 i0 (.agg #[.int .i64 0, .int .i64 0, .int .i64 0, .int .i64 0]) 4 32 Try.underlying30 HI.out HI0.out HI1.out HI2.out rfl (by decide) (.slice (some ⟨w.heap.size, 0, none⟩) 0 0) 0 [] rfl (HW0.out _ rfl) ⟨g, off, none⟩ n cl (l.flatMap enc4) rfl (by rw [flat4_len, HN.out]) (HNW.out _ ((Adds.refl w).alloc _)) (flat4_one _) h0 (by unfold maxLen; omega) (by omega) (by simp) (w.heap.size + 1) (by simp) ?_); intro g6 c6 w6 ho6 hg6 hl6 hs6; have HO6 := Lib.hid ho6; have HG6 := Lib.hid hg6; clear ho6 hg6 hl6))
  go_ret
  refine ⟨c6, some ⟨g6, 0, none⟩, by simp, ?_, ?_⟩
  · have := HO6.out
    rw [Nat.zero_add, List.nil_append] at this
    unfold Loads
    rw [← HN.out]
    exact this
  · exact Below.grown ((Adds.refl w).alloc _) HG6.out (by simp) (fun j hj => by simp [Value.ownBlock] at hj; omega)

/-- Loads that are due later. -/
def laterL (l : List Ld) (d : Int) : List Ld := l.map (fun x => (x.1, x.2.1 + d, x.2.2.1, x.2.2.2))
theorem laterL_len (l : List Ld) (d : Int) : (laterL l d).length = l.length := by simp [laterL]
theorem laterL_total (l : List Ld) (d : Int) : totalL (laterL l d) = totalL l := by simp [totalL, laterL, Function.comp_def]

theorem flat4_due : ∀ {L : List Ld} {k : Nat} {x : Ld} (v : Int), L[k]? = some x → (L.flatMap enc4).set (k * 4 + 1) (.int .i64 v) = (L.set k (x.1, v, x.2.2.1, x.2.2.2)).flatMap enc4
  | [], k, x, v, h => by simp at h
  | y :: L, 0, x, v, h => by simp at h; subst h; simp [enc4]
  | y :: L, k + 1, x, v, h => by
    have ih := flat4_due (L := L) (k := k) v (by simpa using h)
    rw [show (k + 1) * 4 + 1 = (k * 4 + 1) + 1 + 1 + 1 + 1 by omega]
    simp only [List.set_cons_succ, List.flatMap_cons, enc4, List.cons_append, List.nil_append]
    rw [← ih]

set_option maxRecDepth 100000 in
set_option maxHeartbeats 2000000 in
theorem later_any (p : Option Addr) (cl : Nat) (l : List Ld) (d : Int) (w : World) (hL : LoadsAt w p l) (h0 : 0 < l.length) (hl : l.length ≤ 256) (hd : 0 ≤ d ∧ d ≤ 1000000000) (hok : ∀ x ∈ l, okN x) :
    Calls Try.prog 64 #[.slice p l.length cl, .int .i64 d] w fun e w' => ∃ c q, e = .returned (.slice q l.length c) ∧ LoadsAt w' q (laterL l d) ∧ Adds w w' := by
  obtain ⟨x0, hx0⟩ : ∃ x, l[0]? = some x := ⟨_, List.getElem?_eq_getElem h0⟩
  obtain ⟨g, off, rfl, _⟩ := hL 0 x0 hx0
  have HCL := Lib.hid (clone_any g off cl l w hL h0 (by omega))
  have HBD : Hid (∀ (i : Nat) (x : Ld), l[i]? = some x → 0 ≤ x.2.1 ∧ x.2.1 ≤ 1000000000) := Lib.hid (fun i x hx => by have := hok x (List.mem_of_getElem? hx); unfold okN at this; omega)
  obtain ⟨n, hn⟩ : ∃ n, n = l.length := ⟨_, rfl⟩
  rw [← hn] at hl h0 HCL ⊢
  have HN := Lib.hid hn
  obtain ⟨hd0, hd1⟩ := hd
  clear hL hn hx0 hok
  go_enter Try.func64, Try.ntmps64
  go_upto_region 3 with (go_at_call 84; refine HCL.out.mono ?_; rintro e w1 ⟨c, q, rfl, hq, hb1⟩; have HQ := Lib.hid hq; have HB1 := Lib.hid hb1; clear hq hb1)
  have HQ0 : Hid (w1.ownsRow w.heap.size 84 4 (.slice q n c) n (l.flatMap enc4)) := Lib.hid (by have := HQ.out; unfold Loads at this; rw [← HN.out] at this; exact this)
  obtain ⟨g1, c', e, hg1⟩ := own_some HQ0.out h0
  injection e with e1 e2 e3
  subst e1
  clear e2 e3 HQ HCL
  have HG1 := Lib.hid hg1
  clear hg1
  go_loopw [10] (fun v10 wr => ∃ (k : Nat) (L : List Ld), k ≤ n ∧ v10 = .int .i64 k ∧ Hid (L.length = n) ∧ Hid (∀ i, i < k → L[i]? = (laterL l d)[i]?) ∧ Hid (∀ i, k ≤ i → L[i]? = l[i]?) ∧ Hid (wr.ownsRow w.heap.size 84 4 (.slice (some ⟨g1, 0, none⟩) n c) n (L.flatMap enc4)) ∧ Hid (Adds w wr)) (fun v10 _ => n - (intOf v10).toNat)
  case atStart => exact ⟨0, l, by omega, rfl, Lib.hid HN.out.symm, Lib.hid (fun i hi => by omega), Lib.hid (fun i _ => rfl), HQ0, HB1⟩
  case round =>
    obtain ⟨k, L, hk, rfl, HLN, HLO, HHI, HO, HAD⟩ := hrel
    by_cases hlt : k < n
    · have hlt2 : (k : Int) < (n : Int) := by omega
      obtain ⟨⟨x0, x1, x2, x3⟩, hx⟩ : ∃ x, L[k]? = some x := ⟨_, List.getElem?_eq_getElem (by have := HLN.out; omega)⟩
      have hlx : l[k]? = some (x0, x1, x2, x3) := by rw [← HHI.out k (Nat.le_refl _)]; exact hx
      obtain ⟨b0, b1⟩ := HBD.out k _ hlx
      try dsimp only at b0 b1
      obtain ⟨f0, f1, f2, f3⟩ := flat4_cell k _ hx
      obtain ⟨d1, e1⟩ := own_cell HO.out f1
      dsimp only at d1 e1
      have HX := Lib.hid hx
      have HLX := Lib.hid hlx
      clear hx hlx f0 f1 f2 f3
      go_wp2
      refine ⟨⟨k + 1, L.set k (x0, x1 + d, x2, x3), by omega, by go_num, Lib.hid (by rw [List.length_set]; exact HLN.out), Lib.hid (fun i hi => ?_), Lib.hid (fun i hi => ?_), Lib.hid ?_, Lib.hid (HAD.out.set (p := ⟨g1, k * 4 + 1, none⟩) (by have := HG1.out; simp; omega) _)⟩, by simp [intOf]; omega⟩
      · by_cases e : i = k
        · subst e
          rw [List.getElem?_set_self (by have := HLN.out; omega)]
          unfold laterL
          rw [List.getElem?_map, HLX.out]
          rfl
        · rw [List.getElem?_set_ne (fun h => e h.symm)]
          exact HLO.out i (by omega)
      · rw [List.getElem?_set_ne (by omega)]
        exact HHI.out i (by omega)
      · have := own_put (j := k * 4 + 1) HO.out (.int .i64 (x1 + d))
        rw [flat4_due _ HX.out] at this
        exact this
    · have hkn : n = k := by omega
      subst hkn
      have HE : Hid (L = laterL l d) := Lib.hid (List.ext_getElem? (fun i => by
        by_cases h : i < n
        · exact HLO.out i h
        · rw [List.getElem?_eq_none (by have := HLN.out; omega), List.getElem?_eq_none (by rw [laterL_len]; have := HN.out; omega)]))
      rw [HE.out] at HO
      go_wp2
      go_ret
      refine ⟨c, some ⟨g1, 0, none⟩, rfl, ?_, HAD.out⟩
      have h : Loads wr 84 w.heap.size (.slice (some ⟨g1, 0, none⟩) (laterL l d).length c) (laterL l d) := by
        unfold Loads
        rw [laterL_len, ← HN.out]
        exact HO.out
      exact h.at

end Go.Proofs.Ytkofnhimgegcnaa

namespace Go.Proofs.Ytkofnhimgegcnaa
open Go Go.RowKit Go.Sort

theorem later_ok {l : List Ld} {d : Int} (hok : ∀ x ∈ l, okB x = true) (hd : 0 ≤ d ∧ d ≤ 256000000) : ∀ x ∈ laterL l d, okN x := fun x hx => by
  unfold laterL at hx
  obtain ⟨y, hy, rfl⟩ := List.mem_map.1 hx
  have := okB_iff.1 (hok y hy)
  unfold okN
  dsimp only
  omega

theorem total_bd {l : List Ld} (hok : ∀ x ∈ l, okB x = true) (hn : l.length ≤ 256) : 0 ≤ totalL l ∧ totalL l ≤ 256000000 ∧ (l = [] → totalL l = 0) := by
  have key : ∀ l : List Ld, (∀ x ∈ l, okB x = true) → 0 ≤ totalL l ∧ totalL l ≤ l.length * 1000000 := by
    intro l
    induction l with
    | nil => intro _; simp [totalL]
    | cons x l ih =>
      intro h
      have e : totalL (x :: l) = x.2.2.1 + totalL l := by simp [totalL]
      have h1 := ih (fun y hy => h y (by simp [hy]))
      have h2 := okB_iff.1 (h x (by simp))
      rw [e, List.length_cons]
      omega
  have := key l hok
  refine ⟨this.1, by omega, fun h => by rw [h]; rfl⟩

/-- If all loads are due later by all their hours, there is a plan. -/
theorem dry_late (w : World) {l : List Ld} {K : Int} (hok : ∀ x ∈ l, okB x = true) (hn : l.length ≤ 256) (hK : 1 ≤ K ∧ K ≤ 64) : CanDry (laterL l (totalL l)) K := by
  obtain ⟨t0, t1, _⟩ := total_bd hok hn
  have hokN := later_ok hok ⟨t0, t1⟩
  apply Classical.byContradiction
  intro hc
  obtain ⟨H, L, h⟩ := crush_ex w hokN (by rw [laterL_len]; exact hn) (by omega) (by omega) hc
  have h1 := h.gt
  have hw : 0 ≤ sumH (fun h => h.2 - h.1) H := sumH_nonneg (fun y hy => by have := h.rise.inn y hy; omega)
  have hWK : sumH (fun h => h.2 - h.1) H * 1 ≤ sumH (fun h => h.2 - h.1) H * K := Int.mul_le_mul_of_nonneg_left hK.1 hw
  have hget : ∀ i ∈ L, ∃ y, l[i]? = some y ∧ okB y = true ∧ (laterL l (totalL l))[i]? = some (y.1, y.2.1 + totalL l, y.2.2.1, y.2.2.2) := fun i hi => by
    have hlt := h.mem i hi
    rw [laterL_len] at hlt
    obtain ⟨y, hy⟩ : ∃ y, l[i]? = some y := ⟨_, List.getElem?_eq_getElem hlt⟩
    exact ⟨y, hy, hok y (List.mem_of_getElem? hy), by unfold laterL; rw [List.getElem?_map, hy]; rfl⟩
  by_cases hle : sumH (fun h => h.2 - h.1) H ≤ totalL l
  · have h2 : needsL (laterL l (totalL l)) H L ≤ L.length * 0 := needsL_le (fun i hi => by
      obtain ⟨y, hy, hb, hx⟩ := hget i hi
      have hb := okB_iff.1 hb
      have := within_le h.rise (y.1, y.2.1 + totalL l, y.2.2.1, y.2.2.2)
      unfold needL
      rw [hx]
      dsimp only
      omega)
    omega
  · have h2 : needsL (laterL l (totalL l)) H L ≤ (L.map (lenAt (laterL l (totalL l)))).sum := needsL_le2 (fun i hi => by
      obtain ⟨y, hy, hb, hx⟩ := hget i hi
      have hb := okB_iff.1 hb
      have h3 := within_span (y.1, y.2.1 + totalL l, y.2.2.1, y.2.2.2) h.rise (by omega)
      dsimp only at h3
      unfold needL lenAt
      rw [hx]
      dsimp only
      omega)
    have h3 := h.lens
    rw [laterL_total] at h3
    omega

set_option maxHeartbeats 2000000 in
theorem DelayF_any (b1 b2 : Nat) (p : Option Addr) (cl : Nat) (l : List Ld) (K d : Int) (w : World) (hc1 : w.cell? ⟨b1, 0, none⟩ = some (.slice p l.length cl)) (hc2 : w.cell? ⟨b2, 0, none⟩ = some (.int .i64 K)) (hL : LoadsAt w p l) (hok : ∀ x ∈ l, okB x = true) (h0 : 0 < l.length) (hn : l.length ≤ 256) (hK : 1 ≤ K ∧ K ≤ 64) (hd : 0 ≤ d ∧ d ≤ 256000000) :
    Calls Try.prog 63 (#[.int .i64 d] ++ #[.pointer (some ⟨b1, 0, none⟩), .pointer (some ⟨b2, 0, none⟩)]) w fun e w' => ∃ v, e = .returned (.bool v) ∧ (v = true ↔ CanDry (laterL l d) K) ∧ Adds w w' := by
  have hok2 : ∀ x ∈ l, okN x := fun x hx => okB_okN (hok x hx)
  have h64 := fun (W : World) (hW : Adds w W) => later_any p cl l d W (hL.later hW) h0 hn (by omega) hok2
  have h42 : ∀ (q : Option Addr) (c : Nat) (W : World), LoadsAt W q (laterL l d) → Calls Try.prog 42 #[.slice q l.length c, .int .i64 K] W fun e w' => ∃ v, e = .returned (.bool v) ∧ (v = true ↔ CanDry (laterL l d) K) ∧ Adds W w' := fun q c W hq => by
    have := fits_any q c (laterL l d) K W hq (later_ok hok hd) (by rw [laterL_len]; exact hn) (by omega) (by omega)
    rw [laterL_len] at this
    exact this
  have H64 := Lib.hid h64
  have H42 := Lib.hid h42
  generalize l.length = n at *
  clear hL hok hok2 h64 h42 h0
  go_enter Try.func63, Try.ntmps63
  go_upto_region 1 with fail
  go_region_held3 (fun w' => w'.cell? ⟨b1, 0, none⟩ = some (.slice p n cl) ∧ w'.cell? ⟨b2, 0, none⟩ = some (.int .i64 K) ∧ Hid (Adds w w'))
    (first | (refine ⟨?_, ?_, Lib.hid (Adds.refl _).drew⟩ <;> go_keep; done) | (have hqq := Lib.hid (Adds.trans hh.2.2.out hb6); exact ⟨keep_cell hqq.out hc1, keep_cell hqq.out hc2, hqq⟩) | (have hqq := Lib.hid (Adds.trans hh.2.2.out hb7); exact ⟨keep_cell hqq.out hc1, keep_cell hqq.out hc2, hqq⟩))
    ((first
      | (go_simp; go_at_call 64; rename_i hh _ _; refine (H64.out _ hh.2.2.out).mono ?_; rintro e w6 ⟨c6, q6, rfl, hq6, hb6⟩; have HQ6 := Lib.hid hq6; clear hq6)
      | (go_simp; go_at_call 42; rename_i hh _ _; refine (H42.out _ _ _ HQ6.out).mono ?_; rintro e w7 ⟨v, rfl, hv, hb7⟩; have HV := Lib.hid hv; clear hv)))
  go_wp2
  go_ret
  exact ⟨v, rfl, HV.out, hh.2.2.out.trans hb7⟩

set_option maxHeartbeats 2000000 in
theorem Delay_any (p : Option Addr) (cl : Nat) (l : List Ld) (K : Int) (w : World) (hL : LoadsAt w p l) (hok : ∀ x ∈ l, okB x = true) (hn : l.length ≤ 256) (hK : 1 ≤ K ∧ K ≤ 64) :
    Calls Try.prog 25 #[.slice p l.length cl, .int .i64 K] w fun e w' => ∃ r, e = .returned (.tuple #[.int .i64 r, .int .i64 0]) ∧ LeastGot (fun d => CanDry (laterL l d) K) 0 (totalL l) r ∧ Adds w w' := by
  obtain ⟨t0, t1, t2⟩ := total_bd hok hn
  have hokN : ∀ x ∈ l, okN x := fun x hx => okB_okN (hok x hx)
  have hc := fun W (hW : Adds w W) => check_any p cl l K W (by unfold maxLen; omega) (hL.later hW)
  rw [checkK_ok hn hok hK] at hc
  have ht := fun W (hW : Adds w W) => total_any p cl l W hn (hL.later hW) hokN
  have h63 : ∀ (args : Array Value) (w : World), (callFunc 63 args).run Try.prog w = .ok (.enter 63 args) w := fun args w => enters_of Try.func63 (by kernel_rfl) rfl args w
  have hls : ∀ (W : World) (b1 b2 : Nat), Adds w W → W.cell? ⟨b1, 0, none⟩ = some (.slice p l.length cl) → W.cell? ⟨b2, 0, none⟩ = some (.int .i64 K) → Calls Try.prog 61 #[.int .i64 0, .int .i64 (totalL l), .func (.func 63) #[] #[.pointer (some ⟨b1, 0, none⟩), .pointer (some ⟨b2, 0, none⟩)]] W fun e w' => ∃ r, e = .returned (.int .i64 r) ∧ LeastGot (fun d => CanDry (laterL l d) K) 0 (totalL l) r ∧ Adds W w' := fun W b1 b2 hW hc1 hc2 =>
    least_any 63 #[.pointer (some ⟨b1, 0, none⟩), .pointer (some ⟨b2, 0, none⟩)] (fun d => CanDry (laterL l d) K) 0 (totalL l) W (by omega) t0 (by omega) h63 (fun k hk0 hk1 W2 hW2 => DelayF_any b1 b2 p cl l K k W2 (keep_cell hW2 hc1) (keep_cell hW2 hc2) ((hL.later hW).later hW2) hok (by
      rcases Nat.eq_zero_or_pos l.length with h | h
      · have := t2 (List.length_eq_zero_iff.1 h); omega
      · exact h) hn hK ⟨hk0, by omega⟩)
  generalize totalL l = T at *
  have HC := Lib.hid hc
  have HT := Lib.hid ht
  have HLS := Lib.hid hls
  generalize l.length = n at *
  clear hc ht hls hL hok hokN h63 t2
  go_enter Try.func25, Try.ntmps25
  have hA1 : Adds w ((w.alloc (.cells #[.slice p n cl] 30)).alloc (.cells #[.int .i64 K] 3)) := ((Adds.refl w).alloc _).alloc _
  have hX1 : Box ((w.alloc (.cells #[.slice p n cl] 30)).alloc (.cells #[.int .i64 K] 3)) w.heap.size #[.slice p n cl] 30 := (Box.new _ _ _).alloc _
  have hX2 : Box ((w.alloc (.cells #[.slice p n cl] 30)).alloc (.cells #[.int .i64 K] 3)) (w.heap.size + 1) #[.int .i64 K] 3 := by
    have := Box.new (w.alloc (.cells #[.slice p n cl] 30)) #[.int .i64 K] 3
    rw [World.size_alloc] at this
    exact this
  go_upto_region 1 with fail
  obtain ⟨b1, hb1⟩ : ∃ b, b = w.heap.size := ⟨_, rfl⟩
  obtain ⟨b2, hb2⟩ : ∃ b, b = w.heap.size + 1 := ⟨_, rfl⟩
  obtain ⟨W1, hW1⟩ : ∃ V, V = (w.alloc (.cells #[.slice p n cl] 30)).alloc (.cells #[.int .i64 K] 3) := ⟨_, rfl⟩
  rw [← hW1] at hA1 hX1 hX2
  rw [← hb1] at hX1
  rw [← hb2] at hX2
  rw [← hW1, ← hb2, ← hb1]
  have HA1 := Lib.hid hA1
  have HX1 := Lib.hid hX1
  have HX2 := Lib.hid hX2
  have k1 : W1.cell? ⟨b1, 0, none⟩ = some (.slice p n cl) := hX1.cell 0
  have k2 : W1.cell? ⟨b2, 0, none⟩ = some (.int .i64 K) := hX2.cell 0
  clear hA1 hX1 hX2 hb1 hb2 hW1
  go_upto_region 4 with (go_at_call 41; refine (HC.out _ HA1.out).mono ?_; rintro e w2 ⟨rfl, hb2⟩; have HB2 := Lib.hid hb2; clear hb2)
  have k3 : w2.cell? ⟨b1, 0, none⟩ = some (.slice p n cl) := (HX1.out.later HB2.out).cell 0
  have k4 : w2.cell? ⟨b2, 0, none⟩ = some (.int .i64 K) := (HX2.out.later HB2.out).cell 0
  clear k1 k2
  go_wp2_with (first
    | (go_at_call 52; refine (HT.out _ (HA1.out.trans HB2.out)).mono ?_; rintro e w3 ⟨rfl, hb3⟩; have HB3 := Lib.hid hb3; clear hb3)
    | (go_at_call 61; refine (HLS.out _ b1 b2 ((HA1.out.trans HB2.out).trans HB3.out) (keep_cell HB3.out k3) (keep_cell HB3.out k4)).mono ?_; rintro e w4 ⟨r, rfl, hr, hb4⟩; have HR := Lib.hid hr; have HB4 := Lib.hid hb4; clear hr hb4))
  go_ret2
  exact ⟨r, rfl, HR.out, ((HA1.out.trans HB2.out).trans HB3.out).trans HB4.out⟩

set_option maxRecDepth 100000 in
set_option maxHeartbeats 2000000 in
theorem laterL_any (p : Option Addr) (cl : Nat) (l : List Ld) (d : Int) (w : World) (hL : LoadsAt w p l) (hl : l.length ≤ 256) (hd : 0 ≤ d ∧ d ≤ 1000000000) (hok : ∀ x ∈ l, okN x) :
    Calls Try.prog 27 #[.slice p l.length cl, .int .i64 d] w fun e w' => ∃ c q, e = .returned (.slice q l.length c) ∧ LoadsAt w' q (laterL l d) ∧ Adds w w' := by
  obtain ⟨i0, hi, hi0, hi1, hi2⟩ := info_parts info72
  have HI := Lib.hid hi
  have HI0 := Lib.hid hi0
  have HI1 := Lib.hid hi1
  have HI2 := Lib.hid hi2
  have HBD : Hid (∀ (i : Nat) (x : Ld), l[i]? = some x → 0 ≤ x.2.1 ∧ x.2.1 ≤ 1000000000) := Lib.hid (fun i x hx => by have := hok x (List.mem_of_getElem? hx); unfold okN at this; omega)
  have HNX : Hid (∀ (k : Nat) (x : Ld), l[k]? = some x → ((laterL l d).take (k + 1)).flatMap enc4 = ((laterL l d).take k).flatMap enc4 ++ enc4 (x.1, x.2.1 + d, x.2.2.1, x.2.2.2)) := Lib.hid (fun k x hx => take_flat (by unfold laterL; rw [List.getElem?_map, hx]; rfl))
  have HLL : Hid ((laterL l d).length = l.length) := Lib.hid (laterL_len l d)
  obtain ⟨n, hn⟩ : ∃ n, n = l.length := ⟨_, rfl⟩
  rw [← hn] at hl HLL ⊢
  have HN := Lib.hid hn
  have HL := Lib.hid hL
  obtain ⟨L, hLd⟩ : ∃ L, L = laterL l d := ⟨_, rfl⟩
  rw [← hLd] at HLL HNX ⊢
  obtain ⟨hd0, hd1⟩ := hd
  clear hi hi0 hi1 hi2 hL hn hLd hok
  go_enter Try.func27, Try.ntmps27
  go_upto_region 3 with fail
  go_loopw [5, 6] (fun v5 v6 wr => ∃ k : Nat, k ≤ n ∧ v6 = .int .i64 k ∧ Hid (wr.ownsRow w.heap.size 72 4 v5 k ((L.take k).flatMap enc4)) ∧ Hid (Adds w wr)) (fun _ v6 _ => n - (intOf v6).toNat)
  case atStart => exact ⟨0, by omega, rfl, Lib.hid (World.ownsRow_nil _ _ _ _), Lib.hid (Adds.refl _)⟩
  case round =>
    obtain ⟨k, hk, rfl, HO, HAD⟩ := hrel
    by_cases hlt : k < n
    · have hlt2 : (k : Int) < (n : Int) := by omega
      obtain ⟨⟨x0, x1, x2, x3⟩, hx⟩ : ∃ x, l[k]? = some x := ⟨_, List.getElem?_eq_getElem (by have := HN.out; omega)⟩
      obtain ⟨g, off, rfl, d0, d1, d2, d3⟩ := HL.out.later HAD.out k _ hx
      dsimp only at d0 d1 d2 d3
      have HNX2 := Lib.hid (HNX.out _ _ hx)
      obtain ⟨b0, b1⟩ := HBD.out _ _ hx
      try dsimp only at b0 b1
      have hws := HAD.out.size
      clear hx
      obtain ⟨pj, cj, rfl⟩ := own_slice HO.out
      have hnews : Hid (World.cell? ((wr.alloc (.cells #[.int .i64 x0, .int .i64 (x1 + d), .int .i64 x2, .int .i64 x3] 72)).alloc (.cells #[.int .i64 x0, .int .i64 (x1 + d), .int .i64 x2, .int .i64 x3] 72)) ⟨wr.heap.size + 1, 0, none⟩ = some (.int .i64 x0)) := Lib.hid (by
        have := Box.new (wr.alloc (.cells #[.int .i64 x0, .int .i64 (x1 + d), .int .i64 x2, .int .i64 x3] 72)) #[.int .i64 x0, .int .i64 (x1 + d), .int .i64 x2, .int .i64 x3] 72
        rw [World.size_alloc] at this
        exact this.cell 0)
      have hbox : Hid (Box ((wr.alloc (.cells #[.int .i64 x0, .int .i64 (x1 + d), .int .i64 x2, .int .i64 x3] 72)).alloc (.cells #[.int .i64 x0, .int .i64 (x1 + d), .int .i64 x2, .int .i64 x3] 72)) (wr.heap.size + 1) #[.int .i64 x0, .int .i64 (x1 + d), .int .i64 x2, .int .i64 x3] 72) := Lib.hid (by
        have := Box.new (wr.alloc (.cells #[.int .i64 x0, .int .i64 (x1 + d), .int .i64 x2, .int .i64 x3] 72)) #[.int .i64 x0, .int .i64 (x1 + d), .int .i64 x2, .int .i64 x3] 72
        rw [World.size_alloc] at this
        exact this)
      clear hnews
      go_wp2_with (at_builtin; ((refine wpList_append_lies _ rfl _ _ 22 rfl w.heap.size 72 i0 (.agg #[.int .i64 0, .int .i64 0, .int .i64 0, .int .i64 0]) 4 32 Try.underlying22 HI.out HI0.out HI1.out HI2.out rfl (by decide) (.slice pj k cj) k _ rfl ((HO.out.alloc _).alloc _) ⟨wr.heap.size + 1, 0, none⟩ 1 1 [.int .i64 x0, .int .i64 (x1 + d), .int .i64 x2, .int .i64 x3] rfl rfl (World.news_of_block hbox.out) (by simp [Value.oneCell']) (by omega) (by unfold maxLen; omega) (by omega) (by simp; omega) (wr.heap.size + 2) (by simp) ?_); intro g6 c6 w6 ho6 hg6 hl6 hs6; have HO6 := Lib.hid ho6; have HG6 := Lib.hid hg6; clear ho6 hg6 hl6))
      refine ⟨⟨k + 1, by omega, by go_num, Lib.hid ?_, Lib.hid (Below.grown ((HAD.out.alloc _).alloc _) HG6.out (by simp; omega) (fun j hj => (own_block HO.out hj).1))⟩, by simp [intOf]; omega⟩
      rw [HNX2.out]
      exact HO6.out
    · have hkn : n = k := by omega
      subst hkn
      have e1 : L.take n = L := List.take_of_length_le (by rw [HLL.out]; omega)
      rw [e1] at HO
      obtain ⟨pj, cj, rfl⟩ := own_slice HO.out
      go_wp2
      go_ret
      refine ⟨cj, pj, rfl, ?_, HAD.out⟩
      have h : Loads wr 72 w.heap.size (.slice pj L.length cj) L := by
        unfold Loads
        rw [HLL.out]
        exact HO.out
      exact h.at

end Go.Proofs.Ytkofnhimgegcnaa

namespace Go.Proofs.Ytkofnhimgegcnaa
open Go Go.RowKit Go.Sort

theorem later_less {l : List Ld} {d : Int} (hok : ∀ x ∈ l, okB x = true) (h : ∀ x ∈ laterL l d, okB x = true) (hd : 1 ≤ d) : ∀ x ∈ laterL l (d - 1), okB x = true := fun x hx => by
  unfold laterL at hx
  obtain ⟨y, hy, rfl⟩ := List.mem_map.1 hx
  have h1 := okB_iff.1 (hok y hy)
  have h2 := okB_iff.1 (h (y.1, y.2.1 + d, y.2.2.1, y.2.2.2) (by unfold laterL; exact List.mem_map_of_mem hy))
  dsimp only at h2
  rw [okB_iff]
  dsimp only
  omega

set_option maxRecDepth 100000 in
set_option maxHeartbeats 4000000 in
theorem delays_law (p : Option Addr) (cl : Nat) (l : List Ld) (x : Int) (w : World) (hL : LoadsAt w p l) (hcl : l.length ≤ cl) (hmx : cl ≤ maxLen) :
    Calls Try.prog 6 #[.slice p l.length cl, .int .i64 x] w fun e w' => e = .returned (.bool true) ∧ Adds w w' := by
  have HTM := Lib.hid (tame_at p cl 20 l w hL (by omega) hcl hmx)
  generalize l.length = N at *
  clear hL hcl hmx
  go_enter Try.func6, Try.ntmps6
  go_upto_region 2 with (go_at_call 13; refine HTM.out.mono ?_; rintro e w1 ⟨c, q, l', rfl, h1, h2, h3, _, hb1⟩; have HL := Lib.hid h1; have HOK := Lib.hid h3; have HB1 := Lib.hid hb1; clear h1 h3 hb1)
  have hokN : ∀ x ∈ l', okN x := fun x hx => okB_okN (HOK.out x hx)
  have htb := total_bd HOK.out (by omega)
  have HGV := Lib.hid (give_at q c l' w1 HL.out (by omega))
  have HDL := Lib.hid (fun (q2 : Option Addr) (c2 : Nat) (K : Int) (W : World) (hK : 1 ≤ K ∧ K ≤ 64) (hq : LoadsAt W q2 l') => Delay_any q2 c2 l' K W hq HOK.out (by omega) hK)
  have HLT := Lib.hid (fun (d : Int) (W : World) (hW : Adds w1 W) (hd : 0 ≤ d ∧ d ≤ 1000000000) => laterL_any q c l' d W (HL.out.later hW) (by omega) hd hokN)
  have HPN : Hid (∀ (d K : Int) (q2 : Option Addr) (c2 : Nat) (W : World), (∀ x ∈ laterL l' d, okB x = true) → LoadsAt W q2 (laterL l' d) → 1 ≤ K ∧ K ≤ 64 → Calls Try.prog 14 #[.slice q2 l'.length c2, .int .i64 K] W fun e w' => ∃ b, e = .returned (.tuple #[.bool b, .bool true]) ∧ (b = true ↔ CanDry (laterL l' d) K) ∧ Adds W w') := Lib.hid (fun d K q2 c2 W ho hq hK => by
    have := planned_any q2 c2 (laterL l' d) K W hq (by rw [laterL_len]; omega) ho hK
    rw [laterL_len] at this
    exact this)
  have HCK : Hid (∀ (d : Int) (q2 : Option Addr) (c2 : Nat) (W : World), LoadsAt W q2 (laterL l' d) → Calls Try.prog 26 #[.slice q2 l'.length c2] W fun e w' => e = .returned (.int .i64 (checkL (laterL l' d))) ∧ Adds W w') := Lib.hid (fun d q2 c2 W hq => by
    have := RCheck_any q2 c2 (laterL l' d) W hq (by rw [laterL_len]; unfold maxLen; omega)
    rw [laterL_len] at this
    exact this)
  have HLATE := Lib.hid (fun (K : Int) (hK : 1 ≤ K ∧ K ≤ 64) => dry_late w HOK.out (by omega) hK)
  have HCZ : Hid (∀ d, checkL (laterL l' d) = 0 → ∀ x ∈ laterL l' d, okB x = true) := Lib.hid (fun d h => (checkL_zero.1 h).2)
  obtain ⟨T, hT⟩ : ∃ T, T = totalL l' := ⟨_, rfl⟩
  rw [← hT] at HDL HLATE htb
  obtain ⟨m, hm⟩ : ∃ m, m = l'.length := ⟨_, rfl⟩
  rw [← hm] at h2 HGV HPN HDL HLT HCK ⊢
  obtain ⟨t0, t1, _⟩ := htb
  clear hm HTM hT hokN
  obtain ⟨hx0, hx1⟩ := wmod x 3 (by omega) (by omega)
  go_upto_region 3 with fail
  obtain ⟨K, hK⟩ : ∃ K, K = 1 + wrap64 ((IntKind.u64.wrap x).tmod 3) := ⟨_, rfl⟩
  simp only [← hK]
  have hKb : 1 ≤ K ∧ K ≤ 64 := by omega
  clear hK hx0 hx1
  go_upto_region 4 with (first
    | (go_at_call 16; refine HGV.out.mono ?_; rintro e w2 ⟨c2, q2, rfl, hq2, hb2⟩; have HQ2 := Lib.hid hq2; have HB2 := Lib.hid hb2; clear hq2 hb2)
    | (go_at_call 25; refine (HDL.out _ _ K _ hKb HQ2.out).mono ?_; rintro e w3 ⟨d, rfl, hd, hb3⟩; have HD := Lib.hid hd; have HB3 := Lib.hid hb3; clear hd hb3))
  have HA3 := Lib.hid (HB2.out.trans HB3.out)
  obtain ⟨d0, d1, d2, d3⟩ := HD.out
  have hyes : CanDry (laterL l' d) K := by
    rcases d3 with h | h
    · rw [h]; exact HLATE.out K hKb
    · exact h
  have hno : 0 < d → ¬ CanDry (laterL l' (d - 1)) K := fun h2 => by
    rcases d2 with h | h
    · omega
    · exact h
  have HYES := Lib.hid hyes
  have HNO := Lib.hid hno
  have g1 : decide (d < 0) = false := decide_eq_false (by omega)
  clear hyes hno d2 d3 HD HLATE HDL HGV HQ2
  go_upto_region 6 with fail
  have HL6 := Lib.hid (HLT.out d _ HA3.out ⟨d0, by omega⟩)
  by_cases hz : checkL (laterL l' d) = 0
  · have HOD := Lib.hid (HCZ.out d hz)
    obtain ⟨z, hze⟩ : ∃ z, z = checkL (laterL l' d) := ⟨_, rfl⟩
    have HCK2 := Lib.hid (HCK.out d)
    rw [← hze] at HCK2 hz
    subst hz
    clear hze
    go_upto_region 8 with (first
      | (go_at_call 27; refine HL6.out.mono ?_; rintro e w4 ⟨c4, q4, rfl, hq4, hb4⟩; have HQ4 := Lib.hid hq4; have HB4 := Lib.hid hb4; clear hq4 hb4)
      | (go_at_call 26; refine (HCK2.out _ _ _ HQ4.out).mono ?_; rintro e w5 ⟨rfl, hb5⟩; have HB5 := Lib.hid hb5; clear hb5))
    have HA5 := Lib.hid (HA3.out.trans (HB4.out.trans HB5.out))
    have HL7 := Lib.hid (HLT.out d _ HA5.out ⟨d0, by omega⟩)
    clear HQ4 HL6
    go_upto_region 11 with (first
      | (go_at_call 27; refine HL7.out.mono ?_; rintro e w6 ⟨c6, q6, rfl, hq6, hb6⟩; have HQ6 := Lib.hid hq6; have HB6 := Lib.hid hb6; clear hq6 hb6)
      | (go_at_call 14; refine (HPN.out d K _ _ _ HOD.out HQ6.out hKb).mono ?_; rintro e w7 ⟨b7, rfl, hb, hb7⟩; have hbt : b7 = true := hb.2 HYES.out; subst hbt; have HB7 := Lib.hid hb7; clear hb7 hb))
    have HA7 := Lib.hid (HA5.out.trans (HB6.out.trans HB7.out))
    clear HQ6 HL7
    by_cases hdp : 0 < d
    · have g2 : decide (0 < d) = true := decide_eq_true hdp
      have HOD2 := Lib.hid (later_less HOK.out HOD.out (show 1 ≤ d by omega))
      have HL8 := Lib.hid (HLT.out (d - 1) _ HA7.out ⟨by omega, by omega⟩)
      go_wp2_with (first
        | (go_at_call 27; refine HL8.out.mono ?_; rintro e w8 ⟨c8, q8, rfl, hq8, hb8⟩; have HQ8 := Lib.hid hq8; have HB8 := Lib.hid hb8; clear hq8 hb8)
        | (go_at_call 14; refine (HPN.out (d - 1) K _ _ _ HOD2.out HQ8.out hKb).mono ?_; rintro e w9 ⟨b9, rfl, hb, hb9⟩; have hbf : b9 = false := (by cases b9 with | false => rfl | true => exact absurd (hb.1 rfl) (HNO.out hdp)); subst hbf; have HB9 := Lib.hid hb9; clear hb9 hb)
        | (go_at_call 17; refine (awake_any _).mono ?_; rintro e w10 ⟨rfl, hb10⟩))
      go_ret
      exact ⟨rfl, (((HB1.out.trans HA7.out).trans HB8.out).trans HB9.out).trans hb10⟩
    · have g2 : decide (0 < d) = false := decide_eq_false hdp
      go_wp2_with (go_at_call 17; refine (awake_any _).mono ?_; rintro e w10 ⟨rfl, hb10⟩)
      go_ret
      exact ⟨rfl, (HB1.out.trans HA7.out).trans hb10⟩
  · have HCK2 := Lib.hid (HCK.out d)
    obtain ⟨z, hze⟩ : ∃ z, z = checkL (laterL l' d) := ⟨_, rfl⟩
    rw [← hze] at HCK2 hz
    have g2 : (z != 0) = true := by simp [bne, hz]
    clear hze
    go_wp2_with (first
      | (go_at_call 27; refine HL6.out.mono ?_; rintro e w4 ⟨c4, q4, rfl, hq4, hb4⟩; have HQ4 := Lib.hid hq4; have HB4 := Lib.hid hb4; clear hq4 hb4)
      | (go_at_call 26; refine (HCK2.out _ _ _ HQ4.out).mono ?_; rintro e w5 ⟨rfl, hb5⟩; have HB5 := Lib.hid hb5; clear hb5)
      | (go_at_call 17; refine (awake_any _).mono ?_; rintro e w10 ⟨rfl, hb10⟩))
    go_ret
    exact ⟨rfl, (HB1.out.trans (HA3.out.trans (HB4.out.trans HB5.out))).trans hb10⟩

end Go.Proofs.Ytkofnhimgegcnaa
