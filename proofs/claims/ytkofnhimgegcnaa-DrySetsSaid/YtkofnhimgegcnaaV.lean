/- deal: the turns of one span. -/
import Derived.Test.YtkofnhimgegcnaaU
namespace Go.Proofs.Ytkofnhimgegcnaa
open Go Go.RowKit Go.Sort

/-- One way out of a span's node: what deal does with it. -/
def dealS (E : List Edge) (f : Nat → Int) (base long : Int) (st : List Tn × Int) (j : Nat) : List Tn × Int :=
  if headE E j = 1 ∨ roomE E f j = 0 then st
  else if long < st.2 + roomE E f j then
    ((st.1 ++ [((headE E j : Int) - 2, base + st.2, base + long)]) ++ [((headE E j : Int) - 2, base, base + (st.2 + roomE E f j) - long)], (st.2 + roomE E f j) % long)
  else (st.1 ++ [((headE E j : Int) - 2, base + st.2, base + (st.2 + roomE E f j))], (st.2 + roomE E f j) % long)
def dealL (E : List Edge) (f : Nat → Int) (base long : Int) (js : List Nat) : List Tn × Int := js.foldl (dealS E f base long) ([], 0)

theorem dealL_next {E : List Edge} {f : Nat → Int} {base long : Int} {l : List Nat} {k j : Nat} (h : l[k]? = some j) : dealL E f base long (l.take (k + 1)) = dealS E f base long (dealL E f base long (l.take k)) j := by
  have hk' : k < l.length := (List.getElem?_eq_some_iff.1 h).1
  have e : l[k] = j := (List.getElem?_eq_some_iff.1 h).2
  unfold dealL
  rw [List.take_succ_eq_append_getElem hk', List.foldl_append, e]
  rfl
theorem dealS_len (E : List Edge) (f : Nat → Int) (base long : Int) (st : List Tn × Int) (j : Nat) : (dealS E f base long st j).1.length ≤ st.1.length + 2 := by
  unfold dealS
  split
  · omega
  · split <;> simp
theorem dealS_pos (E : List Edge) (f : Nat → Int) (base long : Int) (st : List Tn × Int) (j : Nat) (hl : 0 < long) (_h0 : 0 ≤ roomE E f j) (h1 : 0 ≤ st.2 ∧ st.2 < long) : 0 ≤ (dealS E f base long st j).2 ∧ (dealS E f base long st j).2 < long := by
  unfold dealS
  split
  · exact h1
  · split
    all_goals
      dsimp only
      exact ⟨Int.emod_nonneg _ (by omega), Int.emod_lt_of_pos _ hl⟩
theorem dealL_len (E : List Edge) (f : Nat → Int) (base long : Int) (l : List Nat) : ∀ k, (dealL E f base long (l.take k)).1.length ≤ 2 * k := by
  intro k
  induction k with
  | zero => simp [dealL]
  | succ k ih =>
    by_cases h : k < l.length
    · obtain ⟨t, ht⟩ : ∃ t, l[k]? = some t := ⟨_, List.getElem?_eq_getElem h⟩
      rw [dealL_next ht]
      have := dealS_len E f base long (dealL E f base long (l.take k)) t
      omega
    · rw [List.take_of_length_le (by omega)]
      rw [List.take_of_length_le (by omega)] at ih
      omega
theorem dealL_pos (E : List Edge) (f : Nat → Int) (base long : Int) (l : List Nat) (hl : 0 < long) (h0 : ∀ j ∈ l, 0 ≤ roomE E f j) : ∀ k, 0 ≤ (dealL E f base long (l.take k)).2 ∧ (dealL E f base long (l.take k)).2 < long := by
  intro k
  induction k with
  | zero => simp [dealL]; exact hl
  | succ k ih =>
    by_cases h : k < l.length
    · obtain ⟨t, ht⟩ : ∃ t, l[k]? = some t := ⟨_, List.getElem?_eq_getElem h⟩
      rw [dealL_next ht]
      exact dealS_pos _ _ _ _ _ _ hl (h0 t (List.mem_of_getElem? ht)) ih
    · rw [List.take_of_length_le (by omega)]
      rw [List.take_of_length_le (by omega)] at ih
      exact ih

set_option maxHeartbeats 400000 in
theorem length_q (b gt ct s : Nat) (T : List Int) (vl vw vo vs : Value) (w : World) (hb : Box w b #[vl, .slice (some ⟨gt, 0, none⟩) T.length ct, vw, vo, vs] 100) (hT : RowI 3 .i64 w gt ct T) (hs : s + 1 < T.length) (hl : T.length ≤ 100000) (hbd : ∀ t ∈ T, 0 ≤ t ∧ t ≤ 1000000000) :
    Calls Try.prog 77 #[.pointer (some ⟨b, 0, none⟩), .int .i64 s] w fun e w' => e = .returned (.int .i64 (spanL T s)) ∧ ∃ m, w' = w.drewN m := by
  obtain ⟨t0, h0⟩ : ∃ t, T[s]? = some t := ⟨_, List.getElem?_eq_getElem (by omega)⟩
  obtain ⟨t1, h1⟩ : ∃ t, T[s + 1]? = some t := ⟨_, List.getElem?_eq_getElem hs⟩
  have k1 : w.cell? ⟨b, 1, none⟩ = some (.slice (some ⟨gt, 0, none⟩) T.length ct) := hb.cell 1
  have kt0 := hT.cell h0
  have kt1 := hT.cell h1
  obtain ⟨b0, b1⟩ := hbd t0 (List.mem_of_getElem? h0)
  obtain ⟨b2, b3⟩ := hbd t1 (List.mem_of_getElem? h1)
  have HSP : Hid (spanL T s = t1 - t0) := Lib.hid (by unfold spanL; rw [h0, h1]; rfl)
  obtain ⟨L, hL⟩ : ∃ L, L = T.length := ⟨_, rfl⟩
  rw [← hL] at k1 hs hl
  clear h0 h1 hT hb hbd hL
  go_enter Try.func77, Try.ntmps77
  go_upto_region 1 with fail
  go_quiet (fail)
  go_wp2
  go_ret
  exact ⟨ret_int HSP.out.symm, nq, rfl⟩

/-- What deal returns. -/
def DealGot (E : List Edge) (f : Nat → Int) (base long : Int) (v : Nat) (w : World) (e : Ending) (w' : World) : Prop :=
  ∃ u, e = .returned u ∧ w'.ownsRow w.heap.size 41 3 u (dealL E f base long (outE E v)).1.length ((dealL E f base long (outE E v)).1.flatMap enc3) ∧ Adds w w'

set_option maxRecDepth 100000 in
set_option maxHeartbeats 4000000 in
theorem deal_any (K : Plot) (E : List Edge) (N n s gt ct cl : Nat) (pl : Option Addr) (T : List Int) (f : Nat → Int) (vs : Value) (w : World) (hS : Sane E N) (hF : Okf E f) (hK : NetAt K E N w f vs)
    (hvl : K.vl = .slice pl n cl) (hvt : K.vt = .slice (some ⟨gt, 0, none⟩) T.length ct) (hT : RowI 3 .i64 w gt ct T) (hs : s + 1 < T.length) (hl : T.length ≤ 1000) (hbd : ∀ t ∈ T, 0 ≤ t ∧ t ≤ 1000000000) (hup : 0 < spanL T s) (hn : n ≤ 256) (hv : 2 + n + s < N) :
    Calls Try.prog 53 #[.pointer (some ⟨K.b, 0, none⟩), .int .i64 s] w (DealGot E f (T[s]?.getD 0) (spanL T s) (2 + n + s) w) := by
  obtain ⟨b, go, gw, co, cw, pw, vl, vt⟩ := K
  dsimp only at *
  subst hvl hvt
  obtain ⟨i0, hi, hi0, hi1, hi2⟩ := info_parts info41
  have HI := Lib.hid hi
  have HI0 := Lib.hid hi0
  have HI1 := Lib.hid hi1
  have HI2 := Lib.hid hi2
  have hNN := hS.n
  obtain ⟨t0, h0⟩ : ∃ t, T[s]? = some t := ⟨_, List.getElem?_eq_getElem (by omega)⟩
  obtain ⟨b0, b1⟩ := hbd t0 (List.mem_of_getElem? h0)
  obtain ⟨t1, h1⟩ : ∃ t, T[s + 1]? = some t := ⟨_, List.getElem?_eq_getElem hs⟩
  obtain ⟨b2, b3⟩ := hbd t1 (List.mem_of_getElem? h1)
  have hsp : spanL T s = t1 - t0 := by unfold spanL; rw [h0, h1]; rfl
  rw [show T[s]?.getD 0 = t0 by rw [h0]; rfl]
  have k1 : w.cell? ⟨b, 1, none⟩ = some (.slice (some ⟨gt, 0, none⟩) T.length ct) := hK.net.cell 1
  have kt0 := hT.cell h0
  have hlen := fun m => length_q b gt ct s T _ _ _ _ _ (hK.net.later ((Adds.refl w).drewN m)) (hT.later ((Adds.refl w).drewN m)) hs (by omega) hbd
  have hnode := fun W (hW : Adds w W) => node_any b n s cl pl _ _ _ _ W (hK.net.later hW) (by omega) (by omega)
  obtain ⟨v, hvv⟩ : ∃ v, v = 2 + n + s := ⟨_, rfl⟩
  have hnode2 : ∀ W, Adds w W → Calls Try.prog 59 #[.pointer (some ⟨b, 0, none⟩), .int .i64 s] W fun e w' => e = .returned (.int .i64 (v : Int)) ∧ w' = W := fun W hW => (hnode W hW).mono (by rintro e w' ⟨rfl, rfl⟩; exact ⟨by rw [hvv], rfl⟩)
  have HND := Lib.hid hnode2
  rw [← hvv] at hv ⊢
  have HVV := Lib.hid hvv
  obtain ⟨pv, cv, hc5, hc6⟩ := hK.out.2 v hv
  dsimp only at hc5 hc6
  have hgob := hK.out.1
  dsimp only at hgob
  have HC6 := Lib.hid hc6
  have HC5 := Lib.hid hc5
  obtain ⟨L, hL⟩ : ∃ L, L = (outE E v).length := ⟨_, rfl⟩
  have hle := outE_len E v
  have hm := hS.m
  rw [← hL] at hle
  have HLL := Lib.hid hL
  obtain ⟨long, hlong⟩ : ∃ x, x = spanL T s := ⟨_, rfl⟩
  rw [← hlong] at hup hsp ⊢
  have hlg : long ≤ 1000000000 := by omega
  rw [← hlong] at hlen
  have HLN := Lib.hid hlen
  have HLG := Lib.hid hlong
  obtain ⟨TL, hTL⟩ : ∃ x, x = T.length := ⟨_, rfl⟩
  have HTL := Lib.hid hTL
  rw [← hTL] at hs hl k1
  have HS := Lib.hid hS
  have HF := Lib.hid hF
  have HK := Lib.hid hK
  clear hi hi0 hi1 hi2 hS hF hK hbd h0 h1 hT hlen hnode hnode2 hvv hc5 hc6 hL hsp hlong hTL hgob b2 b3 t1
  have hsi : (s : Int) < (TL : Int) := by omega
  have hsi0 : (0 : Int) ≤ (s : Int) := by omega
  go_enter Try.func53, Try.ntmps53
  go_upto_region 1 with fail
  go_quiet ((go_at_call 77; exact Calls.quiet_of (HLN.out _)))
  obtain ⟨W1, hW1⟩ : ∃ V, V = w.drewN nq := ⟨_, rfl⟩
  rw [← hW1]
  have hA1 : Adds w W1 := by rw [hW1]; exact (Adds.refl _).drewN _
  have HA1 := Lib.hid hA1
  clear hW1 k1 kt0 hA1
  go_upto_region 4 with fail
  have kb3 := keep_cell HA1.out (HK.out.net.cell 3)
  have kvv := keep_cell HA1.out HC5.out
  rw [← HLL.out] at kvv
  go_quiet ((go_at_call 59; exact Calls.quiet_of_same (HND.out _ (HA1.out.drewN _))))
  go_upto_region 5 with fail
  obtain ⟨W2, hW2⟩ : ∃ V, V = W1.drewN nq := ⟨_, rfl⟩
  rw [← hW2]
  have HA2 : Hid (Adds w W2) := Lib.hid (by rw [hW2]; exact HA1.out.drewN _)
  clear hW2 kb3 kvv HA1
  obtain ⟨js, hjs⟩ : ∃ x, x = outE E v := ⟨_, rfl⟩
  have HJS := Lib.hid hjs
  rw [← hjs] at HLL HC6
  clear hjs
  go_loopw [7, 8, 34] (fun v7 v8 v34 wr => ∃ k : Nat, k ≤ L ∧ v34 = .int .i64 k ∧ v8 = .int .i64 (dealL E f t0 long (js.take k)).2 ∧ Hid (wr.ownsRow w.heap.size 41 3 v7 (dealL E f t0 long (js.take k)).1.length ((dealL E f t0 long (js.take k)).1.flatMap enc3)) ∧ Hid (Adds w wr)) (fun _ _ v34 _ => L - (intOf v34).toNat)
  case atStart => exact ⟨0, by omega, rfl, rfl, Lib.hid (World.ownsRow_nil _ _ _ _), HA2⟩
  case round =>
    clear HA2
    obtain ⟨k, hk, rfl, rfl, HO, HAD⟩ := hrel
    by_cases hlt : k < L
    · have hlt2 : (k : Int) < (L : Int) := by omega
      obtain ⟨j, hj⟩ : ∃ j, js[k]? = some j := ⟨_, List.getElem?_eq_getElem (by have := HLL.out; omega)⟩
      have HNX := Lib.hid (dealL_next (E := E) (f := f) (base := t0) (long := long) hj)
      have hml := dealL_len E f t0 long js k
      have hroom : ∀ j ∈ js, 0 ≤ roomE E f j := fun j hj => by
        rw [HJS.out] at hj
        obtain ⟨q, hq⟩ := List.mem_iff_getElem?.1 hj
        exact (HS.out.room HF.out (outE_mem hq).1).1
      obtain ⟨hc0, hc1⟩ := dealL_pos E f t0 long js hup hroom k
      have hj1 : j < 2 * E.length := by
        rw [HJS.out] at hj
        exact (outE_mem hj).1
      obtain ⟨go1, rfl, hX, hci⟩ := HC6.out k j hj
      have kci := keep_cell HAD.out hci
      have hpw := HK.out.ways.ptr hj1
      dsimp only at hpw
      subst hpw
      obtain ⟨th, hth⟩ : ∃ th, th = headE E j := ⟨_, rfl⟩
      obtain ⟨r, hr⟩ : ∃ r, r = roomE E f j := ⟨_, rfl⟩
      obtain ⟨hr0, hr1⟩ := HS.out.room HF.out hj1
      have hhN := HS.out.ends.head hj1
      have kwt : wr.cell? ⟨gw, j * 2, none⟩ = some (.int .i64 th) := by rw [hth]; exact keep_cell HAD.out (HK.out.ways.to hj1)
      have kwr : wr.cell? ⟨gw, j * 2 + 1, none⟩ = some (.int .i64 r) := by rw [hr]; exact keep_cell HAD.out (HK.out.ways.room hj1)
      have kb2 := keep_cell HAD.out (HK.out.net.cell 2)
      rw [← hth] at hhN
      rw [← hr] at hr0 hr1
      have HTH := Lib.hid hth
      have HR := Lib.hid hr
      obtain ⟨J, hJ⟩ : ∃ J, J = (dealL E f t0 long (js.take k)).1 := ⟨_, rfl⟩
      obtain ⟨c, hc⟩ : ∃ J, J = (dealL E f t0 long (js.take k)).2 := ⟨_, rfl⟩
      rw [← hJ] at HO hml
      rw [← hc] at hc0 hc1 ⊢
      obtain ⟨m, hmj⟩ : ∃ m, m = J.length := ⟨_, rfl⟩
      rw [← hmj] at HO hml
      have HM := Lib.hid hmj
      have HST : Hid (dealL E f t0 long (js.take k) = (J, c)) := Lib.hid (by rw [hJ, hc])
      have hwsz := HAD.out.size
      clear hj hX hci hroom hth hr hJ hc hmj
      obtain ⟨pj, cj, rfl⟩ := own_slice HO.out
      go_upto_region 8 with fail
      obtain ⟨xb, hxb⟩ : ∃ b, b = wr.heap.size := ⟨_, rfl⟩
      obtain ⟨W2, hW2⟩ : ∃ V, V = wr.alloc (.cells #[.int .i64 th, .int .i64 r] 125) := ⟨_, rfl⟩
      rw [← hW2, ← hxb]
      have hA2 : Adds wr W2 := by rw [hW2]; exact (Adds.refl _).alloc _
      have HX2 : Hid (Box W2 xb #[.int .i64 th, .int .i64 r] 125) := Lib.hid (by rw [hW2, hxb]; exact Box.new _ _ _)
      have HO2 := Lib.hid (own_same (w' := W2) HO.out (fun q hq => hA2.block q (by obtain ⟨_, _, e⟩ := own_block HO.out hq; exact (Array.getElem?_eq_some_iff.1 e).1)))
      have HA2 := Lib.hid (HAD.out.trans hA2)
      clear hA2 hW2 hxb HO HAD kci kwt kwr kb2
      have kx0 : W2.cell? ⟨xb, 0, none⟩ = some (.int .i64 th) := HX2.out.cell 0
      have kx1 : W2.cell? ⟨xb, 1, none⟩ = some (.int .i64 r) := HX2.out.cell 1
      by_cases hskip : th = 1 ∨ r = 0
      · have HNEXT : Hid (dealL E f t0 long (js.take (k + 1)) = (J, c)) := Lib.hid (by
          rw [HNX.out, HST.out]
          unfold dealS
          rw [← HTH.out, ← HR.out, if_pos hskip])
        by_cases hth : th = 1
        · have heq : ((th : Int) == 1) = true := by rw [hth]; rfl
          clear hskip hth
          go_wp2
          refine ⟨⟨k + 1, by omega, by go_num, by rw [HNEXT.out], Lib.hid ?_, HA2⟩, by simp [intOf]; omega⟩
          rw [HNEXT.out]
          dsimp only
          rw [← HM.out]
          exact HO2.out
        · have heq : ((th : Int) == 1) = false := by simp; omega
          have hrz : (r == 0) = true := by rcases hskip with h | h; exact absurd h hth; rw [h]; rfl
          clear hskip hth
          go_wp2
          refine ⟨⟨k + 1, by omega, by go_num, by rw [HNEXT.out], Lib.hid ?_, HA2⟩, by simp [intOf]; omega⟩
          rw [HNEXT.out]
          dsimp only
          rw [← HM.out]
          exact HO2.out
      · have heq : ((th : Int) == 1) = false := by simp; omega
        have hrz : (r == 0) = false := by simp; omega
        have hrp : 0 < r := by omega
        obtain ⟨x, hx⟩ : ∃ x, x = c + r := ⟨_, rfl⟩
        have hxw : IntKind.i64.wrap (c + r) = x := by rw [IntKind.wrap_i64, hx]; omega
        obtain ⟨a, ha⟩ : ∃ x, x = (th : Int) - 2 := ⟨_, rfl⟩
        have haw : IntKind.i64.wrap ((th : Int) - 2) = a := by rw [IntKind.wrap_i64, ha]; omega
        go_upto_region 9 with fail
        go_quiet (fail)
        rw [← ha, ← hx]
        go_upto_region 10 with fail
        obtain ⟨W7, hW7⟩ : ∃ V, V = W2.drewN nq := ⟨_, rfl⟩
        rw [← hW7]
        have hd7 : Adds W2 W7 := by rw [hW7]; exact (Adds.refl _).drewN _
        have HA7 := Lib.hid (HA2.out.trans hd7)
        have HO7 := Lib.hid (own_same (w' := W7) HO2.out (fun q hq => hd7.block q (by obtain ⟨_, _, e⟩ := own_block HO2.out hq; exact (Array.getElem?_eq_some_iff.1 e).1)))
        clear hW7 hd7 kx0 kx1 HX2 HA2 HO2 hxw haw
        have hs7 := HA7.out.size
        have htm : 0 ≤ x % long ∧ x % long < long := ⟨Int.emod_nonneg _ (by omega), Int.emod_lt_of_pos _ hup⟩
        have hx0 : 0 < x := by omega
        have hx1 : x ≤ 1001000000000 := by omega
        have HX := Lib.hid hx
        have HAA := Lib.hid ha
        have HSK := Lib.hid hskip
        by_cases hlx : long < x
        · have hmin : min x long = long := by omega
          have HNEXT : Hid (dealL E f t0 long (js.take (k + 1)) = ((J ++ [(a, t0 + c, t0 + long)]) ++ [(a, t0, t0 + x - long)], x % long)) := Lib.hid (by
            rw [HNX.out, HST.out]
            unfold dealS
            rw [← HTH.out, ← HR.out, if_neg HSK.out, if_pos (by dsimp only; rw [← HX.out]; exact hlx)]
            dsimp only
            rw [← HX.out, ← HAA.out])
          clear hskip hx ha
          go_upto_region 11 with ((at_builtin; ((refine wpList_append_lies _ rfl _ _ 39 rfl w.heap.size 41 i0 (.agg #[.int .i64 0, .int .i64 0, .int .i64 0]) 3 24 Try.underlying39 HI.out HI0.out HI1.out HI2.out rfl (by decide) (.slice pj m cj) m _ rfl (HO7.out.alloc _) ⟨W7.heap.size, 0, none⟩ 1 1 [.int .i64 (a), .int .i64 (t0 + c), .int .i64 (t0 + long)] rfl rfl (World.news_of_block (Box.new W7 _ 41)) (by simp [Value.oneCell']) (by omega) (by unfold maxLen; omega) (by omega) (by simp; omega) (W7.heap.size + 1) (by simp) ?_); intro g6 c6 w6 ho6 hg6 hl6 hs6; have HO6 := Lib.hid ho6; have HG6 := Lib.hid hg6; have HL6 := Lib.hid hl6; clear ho6 hg6 hl6)))
          have hs6 : W7.heap.size + 1 ≤ w6.heap.size := by have := HG6.out.size; simpa using this
          have HAD6 : Hid (Adds w w6) := Lib.hid (Below.grown (HA7.out.alloc _) HG6.out (by simp; omega) (fun j hj => (own_block HO7.out hj).1))
          go_wp2_with ((at_builtin; ((refine wpList_append_lies _ rfl _ _ 39 rfl w.heap.size 41 i0 (.agg #[.int .i64 0, .int .i64 0, .int .i64 0]) 3 24 Try.underlying39 HI.out HI0.out HI1.out HI2.out rfl (by decide) (.slice (some ⟨g6, 0, none⟩) (m + 1) c6) (m + 1) _ rfl (HO6.out.alloc _) ⟨w6.heap.size, 0, none⟩ 1 1 [.int .i64 (a), .int .i64 (t0), .int .i64 (t0 + x - long)] rfl rfl (World.news_of_block (Box.new w6 _ 41)) (by simp [Value.oneCell']) (by omega) (by unfold maxLen; omega) (by omega) (by simp; omega) (w6.heap.size + 1) (by simp) ?_); intro g8 c8 w8 ho8 hg8 hl8 hs8; have HO8 := Lib.hid ho8; have HG8 := Lib.hid hg8; have HL8 := Lib.hid hl8; clear ho8 hg8 hl8)))
          have hs8 := HG8.out.size
          refine ⟨⟨k + 1, by omega, by go_num, by rw [HNEXT.out], Lib.hid ?_, Lib.hid (Below.grown (HAD6.out.alloc _) HG8.out (by simp; omega) (fun j hj => (own_block HO6.out hj).1))⟩, by simp [intOf]; omega⟩
          rw [HNEXT.out]
          have e1 : ((J ++ [(a, t0 + c, t0 + long)]) ++ [(a, t0, t0 + x - long)]).length = m + 1 + 1 := by rw [List.length_append, List.length_append, ← HM.out]; rfl
          have e2 : ((J ++ [(a, t0 + c, t0 + long)]) ++ [(a, t0, t0 + x - long)]).flatMap enc3 = J.flatMap enc3 ++ [.int .i64 a, .int .i64 (t0 + c), .int .i64 (t0 + long)] ++ [.int .i64 a, .int .i64 t0, .int .i64 (t0 + x - long)] := by simp [enc3]
          dsimp only
          rw [e1, e2]
          exact HO8.out
        · have hmin : min x long = x := by omega
          have HNEXT : Hid (dealL E f t0 long (js.take (k + 1)) = (J ++ [(a, t0 + c, t0 + x)], x % long)) := Lib.hid (by
            rw [HNX.out, HST.out]
            unfold dealS
            rw [← HTH.out, ← HR.out, if_neg HSK.out, if_neg (by dsimp only; rw [← HX.out]; exact hlx)]
            dsimp only
            rw [← HX.out, ← HAA.out])
          clear hskip hx ha
          go_wp2_with ((at_builtin; ((refine wpList_append_lies _ rfl _ _ 39 rfl w.heap.size 41 i0 (.agg #[.int .i64 0, .int .i64 0, .int .i64 0]) 3 24 Try.underlying39 HI.out HI0.out HI1.out HI2.out rfl (by decide) (.slice pj m cj) m _ rfl (HO7.out.alloc _) ⟨W7.heap.size, 0, none⟩ 1 1 [.int .i64 (a), .int .i64 (t0 + c), .int .i64 (t0 + x)] rfl rfl (World.news_of_block (Box.new W7 _ 41)) (by simp [Value.oneCell']) (by omega) (by unfold maxLen; omega) (by omega) (by simp; omega) (W7.heap.size + 1) (by simp) ?_); intro g6 c6 w6 ho6 hg6 hl6 hs6; have HO6 := Lib.hid ho6; have HG6 := Lib.hid hg6; have HL6 := Lib.hid hl6; clear ho6 hg6 hl6)))
          have hs6 : W7.heap.size + 1 ≤ w6.heap.size := by have := HG6.out.size; simpa using this
          refine ⟨⟨k + 1, by omega, by go_num, by rw [HNEXT.out], Lib.hid ?_, Lib.hid (Below.grown (HA7.out.alloc _) HG6.out (by simp; omega) (fun j hj => (own_block HO7.out hj).1))⟩, by simp [intOf]; omega⟩
          rw [HNEXT.out]
          have e1 : (J ++ [(a, t0 + c, t0 + x)]).length = m + 1 := by rw [List.length_append, ← HM.out]; rfl
          have e2 : (J ++ [(a, t0 + c, t0 + x)]).flatMap enc3 = J.flatMap enc3 ++ [.int .i64 a, .int .i64 (t0 + c), .int .i64 (t0 + x)] := by simp [enc3]
          dsimp only
          rw [e1, e2]
          exact HO6.out
    · have hkn : k = L := by omega
      have e1 : js.take k = js := List.take_of_length_le (by have := HLL.out; omega)
      rw [e1] at HO ⊢
      clear e1
      have hdq : decide ((k : Int) < (L : Int)) = false := decide_eq_false (by omega)
      clear hkn
      go_wp2
      go_ret
      exact ⟨_, rfl, by rw [← HJS.out]; exact HO.out, HAD.out⟩

end Go.Proofs.Ytkofnhimgegcnaa
