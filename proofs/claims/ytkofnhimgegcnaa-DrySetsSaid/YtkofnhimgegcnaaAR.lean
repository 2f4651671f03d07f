/- Proves of the reference: true of a crush. -/
import Derived.Test.YtkofnhimgegcnaaAQ
namespace Go.Proofs.Ytkofnhimgegcnaa
open Go Go.RowKit Go.Sort

theorem own_later {w w' : World} {base t size n : Nat} {v : Value} {xs : List Value} (h : w.ownsRow base t size v n xs) (ha : Adds w w') : w'.ownsRow base t size v n xs := by
  obtain ⟨h1, h2⟩ := h
  refine ⟨h1, ?_⟩
  rcases h2 with h2 | ⟨g, cap, cur, hv, hb, hg, r⟩
  · exact Or.inl h2
  · exact Or.inr ⟨g, cap, cur, hv, hb, (ha.block g (Array.getElem?_eq_some_iff.1 hg).1).trans hg, r⟩

/-- Which loads were seen. -/
def seenL (n : Nat) (L : List Nat) : List Value := (List.range n).map (fun j => Value.bool (decide (j ∈ L)))
theorem seenL_get {n j : Nat} (L : List Nat) (hj : j < n) : (seenL n L)[j]? = some (.bool (decide (j ∈ L))) := by simp [seenL, hj]
theorem seenL_len (n : Nat) (L : List Nat) : (seenL n L).length = n := by simp [seenL]
theorem seenL_nil (n : Nat) : seenL n [] = List.replicate n (.bool false) := by
  refine List.ext_getElem? (fun j => ?_)
  by_cases hj : j < n
  · rw [seenL_get _ hj]; simp [hj]
  · rw [List.getElem?_eq_none (by rw [seenL_len]; omega), List.getElem?_eq_none (by simp; omega)]
theorem seenL_next {n k i : Nat} {L : List Nat} (h : L[k]? = some i) (_hi : i < n) : (seenL n (L.take k)).set i (.bool true) = seenL n (L.take (k + 1)) := by
  have hk' : k < L.length := (List.getElem?_eq_some_iff.1 h).1
  have e : L[k] = i := (List.getElem?_eq_some_iff.1 h).2
  refine List.ext_getElem? (fun j => ?_)
  by_cases hj : j < n
  · rw [seenL_get _ hj, List.take_succ_eq_append_getElem hk', e]
    by_cases hji : i = j
    · subst hji
      rw [List.getElem?_set_self (by rw [seenL_len]; exact hj)]
      simp
    · rw [List.getElem?_set_ne hji, seenL_get _ hj]
      have : ¬ j = i := fun h => hji h.symm
      simp [this]
  · rw [List.getElem?_eq_none (by rw [List.length_set, seenL_len]; omega), List.getElem?_eq_none (by rw [seenL_len]; omega)]
theorem not_seen {L : List Nat} (hup : L.Pairwise (· < ·)) {k i : Nat} (h : L[k]? = some i) : decide (i ∈ L.take k) = false := by
  refine decide_eq_false (fun hm => ?_)
  obtain ⟨j, hj⟩ := List.mem_iff_getElem?.1 hm
  rw [List.getElem?_take] at hj
  split at hj
  · rename_i hjk
    obtain ⟨h1, e1⟩ := List.getElem?_eq_some_iff.1 hj
    obtain ⟨h2, e2⟩ := List.getElem?_eq_some_iff.1 h
    have := List.pairwise_iff_getElem.1 hup j k h1 h2 hjk
    omega
  · cases hj

theorem made_bools {t : TypeId} {w : World} {base n : Nat} {v : Value} (h : w.ownsRow base t 1 v n (madeCells (Value.bool false).cells (n * 1)).toList) : w.ownsRow base t 1 v n (seenL n []) := by
  have e : (madeCells (Value.bool false).cells (n * 1)).toList = seenL n [] := by
    rw [Nat.mul_one, seenL_nil]
    exact toList_madeCells_one _ _
  rw [← e]
  exact h

theorem sumH_take_bd {H : List (Int × Int)} (hb : ∀ h ∈ H, 0 ≤ h.1 ∧ h.1 < h.2 ∧ h.2 ≤ 1000000) : ∀ k, 0 ≤ sumH (fun h => h.2 - h.1) (H.take k) ∧ sumH (fun h => h.2 - h.1) (H.take k) ≤ k * 1000000
  | 0 => by simp [sumH]
  | k + 1 => by
    have ih := sumH_take_bd hb k
    by_cases h : k < H.length
    · rw [List.take_succ_eq_append_getElem h, sumH_append]
      have := hb H[k] (List.getElem_mem h)
      have e : sumH (fun h : Int × Int => h.2 - h.1) [H[k]] = H[k].2 - H[k].1 := by simp [sumH]
      rw [e]
      omega
    · rw [List.take_of_length_le (by omega)]
      rw [List.take_of_length_le (by omega)] at ih
      omega
theorem sumH_next {H : List (Int × Int)} {k : Nat} {h : Int × Int} (hh : H[k]? = some h) : sumH (fun h => h.2 - h.1) (H.take (k + 1)) = sumH (fun h => h.2 - h.1) (H.take k) + (h.2 - h.1) := by
  have hk' : k < H.length := (List.getElem?_eq_some_iff.1 hh).1
  have e : H[k] = h := (List.getElem?_eq_some_iff.1 hh).2
  rw [List.take_succ_eq_append_getElem hk', sumH_append, e]
  simp [sumH]
theorem needsL_bd {l : List Ld} (hok : ∀ x ∈ l, okN x) {H : List (Int × Int)} (hr : Rising 0 1000000000 H) {L : List Nat} : ∀ k, 0 ≤ needsL l H (L.take k) ∧ needsL l H (L.take k) ≤ k * 1000000
  | 0 => by simp [needsL]
  | k + 1 => by
    have ih := needsL_bd hok hr (L := L) k
    by_cases h : k < L.length
    · rw [needsL_next (List.getElem?_eq_getElem h)]
      have : 0 ≤ needL l H L[k] ∧ needL l H L[k] ≤ 1000000 := by
        unfold needL
        split
        · rename_i x hx
          have hb := hok x (List.mem_of_getElem? hx)
          unfold okN at hb
          have := within_span x hr (by omega)
          omega
        · omega
      omega
    · rw [List.take_of_length_le (by omega)]
      rw [List.take_of_length_le (by omega)] at ih
      omega

set_option maxRecDepth 100000 in
set_option maxHeartbeats 4000000 in
theorem RProves_any (lp : Option Addr) (lc : Nat) (l : List Ld) (K : Int) (p1 p2 : Option Addr) (c1 c2 base : Nat) (L : List Nat) (H : List (Int × Int)) (w : World) (hl : LoadsAt w lp l) (hn : l.length ≤ 256) (hok : ∀ x ∈ l, okN x) (hK : 1 ≤ K ∧ K ≤ 64)
    (hL : w.ownsRow base 3 1 (.slice p1 L.length c1) L.length ((numsI L).map (Value.int .i64))) (hH : w.ownsRow base 91 2 (.slice p2 H.length c2) H.length (H.flatMap enc2)) (hHl : H.length ≤ 1000) (htop : ∀ h ∈ H, h.2 ≤ 1000000) (hcr : Crush l K H L) :
    Calls Try.prog 21 #[.slice lp l.length lc, .int .i64 K, .agg #[.slice p1 L.length c1, .slice p2 H.length c2]] w fun e w' => e = .returned (.bool true) ∧ Adds w w' := by
  obtain ⟨j4, hj, hj0, hj1, hj2⟩ := info_parts (show (Try.prog.info? 4).map (fun i => (i.zero, i.size, i.bytes)) = some (some (.bool false), 1, 1) by kernel_rfl)
  have HJ := Lib.hid hj
  have HJ0 := Lib.hid hj0
  have HJ1 := Lib.hid hj1
  have HJ2 := Lib.hid hj2
  clear hj hj0 hj1 hj2
  have hin : ∀ h ∈ H, 0 ≤ h.1 ∧ h.1 < h.2 ∧ h.2 ≤ 1000000 := fun h hh => by
    have := hcr.rise.inn h hh
    have := htop h hh
    omega
  have hwi : ∀ (x : Ld), okN x → ∀ W, Adds w W → Calls Try.prog 49 #[.agg #[.int .i64 x.1, .int .i64 x.2.1, .int .i64 x.2.2.1, .int .i64 x.2.2.2], .slice p2 H.length c2] W fun e w' => e = .returned (.int .i64 (withinL x H)) ∧ Adds W w' := fun x hx W hW =>
    within_any x p2 c2 base H W (by unfold okN at hx; omega) (own_later hH hW) hHl (fun h hh => by have := hin h hh; omega)
  have hsb := sumH_take_bd hin
  have hnb := needsL_bd hok hcr.rise (L := L)
  have hwb : ∀ (x : Ld), okN x → 0 ≤ withinL x H ∧ withinL x H ≤ 1000000000 := fun x hx => by
    have h1 := within_le hcr.rise x
    have h2 := within_span x hcr.rise (by omega)
    unfold okN at hx
    omega
  have hLs := hcr.short
  obtain ⟨n, hn'⟩ : ∃ n, n = l.length := ⟨_, rfl⟩
  obtain ⟨ml, hml⟩ : ∃ m, m = L.length := ⟨_, rfl⟩
  obtain ⟨mh, hmh⟩ : ∃ m, m = H.length := ⟨_, rfl⟩
  rw [← hn'] at hn hLs ⊢
  rw [← hml] at hL hLs ⊢
  rw [← hmh] at hH hHl hwi ⊢
  have HN := Lib.hid hn'
  have HML := Lib.hid hml
  have HMH := Lib.hid hmh
  have HL := Lib.hid hl
  have HLL := Lib.hid hL
  have HHH := Lib.hid hH
  have HOK := Lib.hid hok
  have HIN := Lib.hid hin
  have HWI := Lib.hid hwi
  have HSB := Lib.hid hsb
  have HNB := Lib.hid hnb
  have HWB := Lib.hid hwb
  have HCR := Lib.hid hcr
  obtain ⟨hK0, hK1⟩ := hK
  clear hl hL hH hok hin hwi hsb hnb hwb hcr hn' hml hmh htop
  go_enter Try.func21, Try.ntmps21
  go_upto_region 1 with fail
  obtain ⟨cb, hcb⟩ : ∃ b, b = w.heap.size := ⟨_, rfl⟩
  obtain ⟨W1, hW1⟩ : ∃ V, V = w.alloc (.cells #[.slice p1 ml c1, .slice p2 mh c2] 38) := ⟨_, rfl⟩
  try rw [← hW1, ← hcb]
  have HC1 : Hid (Box W1 cb #[.slice p1 ml c1, .slice p2 mh c2] 38) := Lib.hid (by rw [hW1, hcb]; exact Box.new _ _ _)
  have HA1 : Hid (Adds w W1) := Lib.hid (by rw [hW1]; exact (Adds.refl _).alloc _)
  have hcl := HC1.out.lt
  have hws := HA1.out.size
  clear hW1 hcb
  go_upto_region 2 with (refine wpList_make_full _ rfl _ _ 65 rfl W1.heap.size 4 j4 (.bool false) 1 Try.underlying65 HJ.out HJ0.out HJ1.out .i64 .i64 (n : Int) (n : Int) n rfl rfl rfl rfl (by rw [HJ2.out]; omega) (by unfold maxLen; omega) (by simp) ?_; intro y5 ho hg; have HO := Lib.hid (made_bools ho); have HG := Lib.hid hg; clear ho hg)
  obtain ⟨g, hg⟩ : ∃ g, g = W1.heap.size := ⟨_, rfl⟩
  rw [← hg] at HO ⊢
  have HGW := Lib.hid hg
  have hcg : cb < g := by omega
  have HA5 : Hid (Adds W1 y5) := Lib.hid ((Adds.refl W1).grown HG.out (Nat.le_refl _) (fun j hj => by cases hj))
  have HO0 : Hid (y5.ownsRow g 4 1 (.slice (some ⟨g, 0, none⟩) n n) n (seenL n (L.take 0))) := Lib.hid (by rw [List.take_zero]; exact HO.out)
  clear HG HO hg hcl
  go_upto_region 4 with fail
  go_loopw [8, 9] (fun v8 v9 wr => ∃ k : Nat, k ≤ mh ∧ v9 = .int .i64 k ∧ v8 = .int .i64 (sumH (fun h => h.2 - h.1) (H.take k)) ∧ Hid (Adds y5 wr)) (fun _ v9 _ => mh - (intOf v9).toNat)
  case atStart => exact ⟨0, by omega, rfl, rfl, Lib.hid (Adds.refl _)⟩
  case round =>
    obtain ⟨k, hk, rfl, rfl, HAD⟩ := hrel
    obtain ⟨s0, s1⟩ := HSB.out k
    obtain ⟨S, hS⟩ : ∃ S, S = sumH (fun h => h.2 - h.1) (H.take k) := ⟨_, rfl⟩
    rw [← hS] at s0 s1 ⊢
    have HS := Lib.hid hS
    clear hS
    by_cases hlt : k < mh
    · have hlt2 : (k : Int) < (mh : Int) := by omega
      obtain ⟨⟨a, b⟩, hh⟩ : ∃ x, H[k]? = some x := ⟨_, List.getElem?_eq_getElem (by have := HMH.out; omega)⟩
      obtain ⟨i1, i2, i3⟩ := HIN.out _ (List.mem_of_getElem? hh)
      dsimp only at i1 i2 i3
      obtain ⟨hgg, c', e, _⟩ := own_some HHH.out (by omega)
      injection e with e1 e2 e3
      subst e1
      clear e2 e3
      have hA := (HA1.out.trans HA5.out).trans HAD.out
      obtain ⟨f0, f1⟩ := flat2_get hh
      have d0 := keep_cell hA (own_cell HHH.out f0).1
      have d1 := keep_cell hA (own_cell HHH.out f1).1
      dsimp only at d0 d1
      have kc : wr.cell? ⟨cb, 1, none⟩ = some (.slice (some ⟨hgg, 0, none⟩) mh c2) := (HC1.out.later (HA5.out.trans HAD.out)).cell 1
      have HNX : Hid (sumH (fun h => h.2 - h.1) (H.take (k + 1)) = S + b - a) := Lib.hid (by rw [sumH_next hh, ← HS.out]; dsimp only; omega)
      have HHK := Lib.hid hh
      clear hh f0 f1
      go_upto_region 7 with fail
      obtain ⟨xb, hxb⟩ : ∃ b, b = wr.heap.size := ⟨_, rfl⟩
      obtain ⟨W2, hW2⟩ : ∃ V, V = wr.alloc (.cells #[.int .i64 a, .int .i64 b] 91) := ⟨_, rfl⟩
      rw [← hW2, ← hxb]
      have hA2 : Adds wr W2 := by rw [hW2]; exact (Adds.refl _).alloc _
      have HX2 : Hid (Box W2 xb #[.int .i64 a, .int .i64 b] 91) := Lib.hid (by rw [hW2, hxb]; exact Box.new _ _ _)
      have HA2 : Hid (Adds y5 W2) := Lib.hid (HAD.out.trans hA2)
      have k0 : W2.cell? ⟨xb, 0, none⟩ = some (.int .i64 a) := HX2.out.cell 0
      have k1 : W2.cell? ⟨xb, 1, none⟩ = some (.int .i64 b) := HX2.out.cell 1
      have kc2 := keep_cell hA2 kc
      have g1 : decide (a < 0) = false := decide_eq_false (by omega)
      have g2 : decide (b ≤ a) = false := decide_eq_false (by omega)
      have g3 : decide (1000000 < b) = false := decide_eq_false (by omega)
      by_cases hz : k = 0
      · have g4 : decide ((0 : Int) < (k : Int)) = false := decide_eq_false (by omega)
        have g4n : decide (0 < k) = false := decide_eq_false (by omega)
        clear hW2 hxb d0 d1 kc hz hA hA2
        go_quiet (fail)
        go_upto_region 9 with fail
        obtain ⟨W3, hW3⟩ : ∃ V, V = W2.drewN nq := ⟨_, rfl⟩
        rw [← hW3]
        have hA3 : Adds W2 W3 := by rw [hW3]; exact (Adds.refl _).drewN _
        have m0 := keep_cell hA3 k0
        have m1 := keep_cell hA3 k1
        have HA3 := Lib.hid (HA2.out.trans hA3)
        clear hW3 hA3 k0 k1 kc2 g1 g2 g3 g4 g4n
        go_wp2
        exact ⟨⟨k + 1, by omega, by go_num, by rw [HNX.out], HA3⟩, by simp [intOf]; omega⟩
      · obtain ⟨z, hzk⟩ : ∃ z, k = z + 1 := ⟨k - 1, by omega⟩
        obtain ⟨⟨a', b'⟩, hh'⟩ : ∃ x, H[z]? = some x := ⟨_, List.getElem?_eq_getElem (by have := HMH.out; omega)⟩
        have hup := HCR.out.rise.up z _ _ hh' (by rw [← hzk]; exact HHK.out)
        dsimp only at hup
        obtain ⟨f0, f1⟩ := flat2_get hh'
        have d3 := keep_cell (hA.trans hA2) (own_cell HHH.out f1).1
        dsimp only at d3
        have g4 : decide ((0 : Int) < (k : Int)) = true := decide_eq_true (by omega)
        have g4n : decide (0 < k) = true := decide_eq_true (by omega)
        have g5 : decide (a < b') = false := decide_eq_false (by omega)
        have hw1 : IntKind.i64.wrap ((k : Int) - 1) = (z : Int) := by rw [IntKind.wrap_i64]; omega
        have hw2 : (k : Int) - 1 = (z : Int) := by omega
        have q0 : (0 : Int) ≤ (z : Int) := by omega
        have q1 : (z : Int) < (mh : Int) := by omega
        clear hW2 hxb d0 d1 kc hz hA hA2 hh' f0 f1 hzk hup
        go_quiet (fail)
        go_upto_region 9 with fail
        obtain ⟨W3, hW3⟩ : ∃ V, V = W2.drewN nq := ⟨_, rfl⟩
        rw [← hW3]
        have hA3 : Adds W2 W3 := by rw [hW3]; exact (Adds.refl _).drewN _
        have m0 := keep_cell hA3 k0
        have m1 := keep_cell hA3 k1
        have HA3 := Lib.hid (HA2.out.trans hA3)
        clear hW3 hA3 k0 k1 kc2 g1 g2 g3 g4 g4n g5 d3 hw1 hw2 q0 q1
        go_wp2
        exact ⟨⟨k + 1, by omega, by go_num, by rw [HNX.out], HA3⟩, by simp [intOf]; omega⟩
    · have hdq : decide ((k : Int) < (mh : Int)) = false := decide_eq_false (by omega)
      have HSE : Hid (S = sumH (fun h => h.2 - h.1) H) := Lib.hid (by rw [HS.out, List.take_of_length_le (by have := HMH.out; omega)])
      have HO1 := Lib.hid (own_later HO0.out HAD.out)
      have HA6 := Lib.hid (HA5.out.trans HAD.out)
      have kcx : wr.cell? ⟨cb, 1, none⟩ = some (.slice p2 mh c2) := (HC1.out.later HA6.out).cell 1
      clear HS HAD
      go_upto_region 12 with fail
      go_loopw [11, 12] (fun v11 v12 wi => ∃ q : Nat, q ≤ ml ∧ v12 = .int .i64 q ∧ v11 = .int .i64 (needsL l H (L.take q)) ∧ Hid (wi.ownsRow g 4 1 (.slice (some ⟨g, 0, none⟩) n n) n (seenL n (L.take q))) ∧ Hid (Adds W1 wi)) (fun _ v12 _ => ml - (intOf v12).toNat)
      case atStart => exact ⟨0, by omega, rfl, rfl, HO1, HA6⟩
      case round =>
        obtain ⟨q, hq, rfl, rfl, HOQ, HAQ⟩ := hrel
        obtain ⟨n0, n1⟩ := HNB.out q
        obtain ⟨N, hNN⟩ : ∃ N, N = needsL l H (L.take q) := ⟨_, rfl⟩
        rw [← hNN] at n0 n1 ⊢
        have HNN := Lib.hid hNN
        clear hNN
        have kc0 : wr.cell? ⟨cb, 0, none⟩ = some (.slice p1 ml c1) := (HC1.out.later HAQ.out).cell 0
        have kc1 : wr.cell? ⟨cb, 1, none⟩ = some (.slice p2 mh c2) := (HC1.out.later HAQ.out).cell 1
        by_cases hql : q < ml
        · have hql2 : (q : Int) < (ml : Int) := by omega
          obtain ⟨i, hi⟩ : ∃ i, L[q]? = some i := ⟨_, List.getElem?_eq_getElem (by have := HML.out; omega)⟩
          have hin : i < n := by have := HCR.out.mem i (List.mem_of_getElem? hi); have := HN.out; omega
          obtain ⟨⟨y0, y1, y2, y3⟩, hy⟩ : ∃ x, l[i]? = some x := ⟨_, List.getElem?_eq_getElem (by have := HN.out; omega)⟩
          have hoky := HOK.out _ (List.mem_of_getElem? hy)
          have HNX : Hid (needsL l H (L.take (q + 1)) = N + max 0 (y2 - (y1 - y0 - withinL (y0, y1, y2, y3) H))) := Lib.hid (by
            rw [needsL_next hi, ← HNN.out]
            unfold needL
            rw [hy])
          have HWB2 := HWB.out _ hoky
          have HWI2 := Lib.hid (HWI.out _ hoky)
          obtain ⟨wi, hwi⟩ : ∃ v, v = withinL (y0, y1, y2, y3) H := ⟨_, rfl⟩
          rw [← hwi] at HNX HWB2 HWI2
          dsimp only at HWI2
          obtain ⟨wb0, wb1⟩ := HWB2
          unfold okN at hoky
          dsimp only at hoky
          obtain ⟨o1, o2, o3, o4, o5, o6⟩ := hoky
          obtain ⟨g1, c', e, _⟩ := own_some HLL.out (by omega)
          injection e with e1 e2 e3
          subst e1
          clear e2 e3
          have hA := HA1.out.trans HAQ.out
          have d0 := keep_cell hA (own_cell (j := q) (u := .int .i64 (i : Int)) HLL.out (by rw [List.getElem?_map, numsI_get hi]; rfl)).1
          have hcs := own_cell HOQ.out (seenL_get (L.take q) hin)
          rw [not_seen HCR.out.up hi] at hcs
          obtain ⟨ks, kf⟩ := hcs
          have HI := Lib.hid hi
          have HY := Lib.hid hy
          have g1' : decide ((i : Int) < 0) = false := decide_eq_false (by omega)
          have g2' : decide ((n : Int) ≤ (i : Int)) = false := decide_eq_false (by omega)
          have q0 : (0 : Int) ≤ (i : Int) := by omega
          have q1 : (i : Int) < (n : Int) := by omega
          clear hi hy hwi hA
          go_upto_region 17 with fail
          clear d0 kc0 kc1 g1' g2'
          go_upto_region 18 with fail
          obtain ⟨W4, hW4⟩ : ∃ V, V = wr.setCell ⟨g, i, none⟩ (.bool true) := ⟨_, rfl⟩
          rw [← hW4]
          have HO4 : Hid (W4.ownsRow g 4 1 (.slice (some ⟨g, 0, none⟩) n n) n (seenL n (L.take (q + 1)))) := Lib.hid (by
            rw [hW4, ← seenL_next HI.out hin]
            exact own_put HOQ.out (.bool true))
          have HA4 : Hid (Adds W1 W4) := Lib.hid (by rw [hW4]; exact HAQ.out.set (p := ⟨g, i, none⟩) (by have := HGW.out; simp; omega) _)
          obtain ⟨lg, off, rfl, e0, e1, e2, e3⟩ := HL.out.later (HA1.out.trans HA4.out) i _ HY.out
          dsimp only at e0 e1 e2 e3
          clear hW4 ks kf
          go_upto_region 19 with fail
          obtain ⟨xb, hxb⟩ : ∃ b, b = W4.heap.size := ⟨_, rfl⟩
          obtain ⟨W5, hW5⟩ : ∃ V, V = W4.alloc (.cells #[.int .i64 y0, .int .i64 y1, .int .i64 y2, .int .i64 y3] 72) := ⟨_, rfl⟩
          rw [← hW5, ← hxb]
          have hA5 : Adds W4 W5 := by rw [hW5]; exact (Adds.refl _).alloc _
          have HX5 : Hid (Box W5 xb #[.int .i64 y0, .int .i64 y1, .int .i64 y2, .int .i64 y3] 72) := Lib.hid (by rw [hW5, hxb]; exact Box.new _ _ _)
          have HA5' := Lib.hid (HA4.out.trans hA5)
          have HO5 := Lib.hid (own_later HO4.out hA5)
          have k0 : W5.cell? ⟨xb, 0, none⟩ = some (.int .i64 y0) := HX5.out.cell 0
          have k1 : W5.cell? ⟨xb, 1, none⟩ = some (.int .i64 y1) := HX5.out.cell 1
          have k2 : W5.cell? ⟨xb, 2, none⟩ = some (.int .i64 y2) := HX5.out.cell 2
          have k3 : W5.cell? ⟨xb, 3, none⟩ = some (.int .i64 y3) := HX5.out.cell 3
          have kc1 : W5.cell? ⟨cb, 1, none⟩ = some (.slice p2 mh c2) := (HC1.out.later HA5'.out).cell 1
          obtain ⟨t, ht⟩ : ∃ t, t = max 0 (y2 - (y1 - y0 - wi)) := ⟨_, rfl⟩
          rw [← ht] at HNX
          have ht' : max 0 (y2 - (y1 - y0 - wi)) = t := ht.symm
          have hw1 : IntKind.i64.wrap (y1 - y0) = y1 - y0 := by rw [IntKind.wrap_i64]; omega
          have hw2 : IntKind.i64.wrap (y1 - y0 - wi) = y1 - y0 - wi := by rw [IntKind.wrap_i64]; omega
          have hw3 : IntKind.i64.wrap (y2 - (y1 - y0 - wi)) = y2 - (y1 - y0 - wi) := by rw [IntKind.wrap_i64]; omega
          have htb : 0 ≤ t ∧ t ≤ 2000000000 := by omega
          have hw4 : IntKind.i64.wrap (N + t) = N + t := by rw [IntKind.wrap_i64]; omega
          clear hW5 hxb hA5 ht e0 e1 e2 e3
          go_region_held3 (fun w' => w'.cell? ⟨xb, 0, none⟩ = some (.int .i64 y0) ∧ w'.cell? ⟨xb, 1, none⟩ = some (.int .i64 y1) ∧ w'.cell? ⟨xb, 2, none⟩ = some (.int .i64 y2) ∧ w'.cell? ⟨xb, 3, none⟩ = some (.int .i64 y3) ∧ w'.cell? ⟨cb, 1, none⟩ = some (.slice p2 mh c2) ∧ Hid (Adds W5 w'))
            (first | (refine ⟨?_, ?_, ?_, ?_, ?_, Lib.hid (Adds.refl _).drew⟩ <;> go_keep; done) | (have hqq := Lib.hid (Adds.trans hh.2.2.2.2.2.out hb6); exact ⟨keep_cell hqq.out k0, keep_cell hqq.out k1, keep_cell hqq.out k2, keep_cell hqq.out k3, keep_cell hqq.out kc1, hqq⟩))
            ((go_simp; go_at_call 49; rename_i hh _ _; refine (HWI2.out _ ((HA1.out.trans HA5'.out).trans hh.2.2.2.2.2.out)).mono ?_; rintro e w6 ⟨rfl, hb6⟩))
          go_wp2
          exact ⟨⟨q + 1, by omega, by go_num, by rw [HNX.out], Lib.hid (own_later HO5.out (hh.2.2.2.2.2.out.trans hb6)), Lib.hid (HA5'.out.trans (hh.2.2.2.2.2.out.trans hb6))⟩, by simp [intOf]; omega⟩
        · have hdq : decide ((q : Int) < (ml : Int)) = false := decide_eq_false (by omega)
          have hgt := HCR.out.gt
          rw [← HSE.out] at hgt
          have eN : N = needsL l H L := by rw [HNN.out, List.take_of_length_le (by have := HML.out; omega)]
          rw [← eN] at hgt
          have hm1 : S * 1 ≤ S * K := Int.mul_le_mul_of_nonneg_left hK0 s0
          have hm2 : S * K ≤ S * 64 := Int.mul_le_mul_of_nonneg_left hK1 s0
          obtain ⟨p, hp⟩ : ∃ p, p = S * K := ⟨_, rfl⟩
          have hp' : S * K = p := hp.symm
          rw [hp'] at hgt hm1 hm2
          have hw : IntKind.i64.wrap p = p := by rw [IntKind.wrap_i64]; omega
          have hg : decide (p < N) = true := decide_eq_true hgt
          clear hgt eN hp hm1 hm2
          go_wp2
          go_ret
          exact ⟨rfl, HA1.out.trans HAQ.out⟩

end Go.Proofs.Ytkofnhimgegcnaa
