/- look: the steps to each node. -/
import Derived.Test.YtkofnhimgegcnaaD
import Derived.StillTailTactics
import Derived.Deep.AppendLies
namespace Go.Proofs.Ytkofnhimgegcnaa
open Go.RowKit

theorem row_one (w : World) (x : Int) : RowI 3 .i64 (w.alloc (.cells #[.int .i64 x] 3)) w.heap.size 1 [x] :=
  ⟨#[.int .i64 x], Box.new w _ _, rfl, by simp, by unfold maxLen; omega, rfl⟩

/-- Numbers as a row's. -/
abbrev numsI (q : List Nat) : List Int := q.map (fun n : Nat => Int.ofNat n)

theorem Touch.put {O : Nat → Prop} {a b : World} (h : Touch O a b) {p : Addr} (hp : a.heap.size ≤ p.block) (u : Value) : Touch O a (b.setCell p u) :=
  ⟨h.os, h.tape, h.output, by have := h.size; simp [World.setCell]; exact this, fun k hk hn => (Below.heap_setCell _ _ _ _ (by omega)).trans (h.same k hk hn)⟩

theorem numsI_get {q : List Nat} {i v : Nat} (h : q[i]? = some v) : (numsI q)[i]? = some (v : Int) := by simp [numsI, h]

set_option maxRecDepth 100000 in
set_option maxHeartbeats 4000000 in
theorem look_any (K : Plot) (E : List Edge) (N : Nat) (f : Nat → Int) (vs : Value) (w : World) (hS : Sane E N) (hF : Okf E f) (hK : NetAt K E N w f vs) :
    Calls Try.prog 78 #[.pointer (some ⟨K.b, 0, none⟩)] w fun e w' => e = .returned (.tuple #[]) ∧ ∃ lev gs, Lev E N f lev ∧ IntsAt w' gs N lev ∧ w.heap.size ≤ gs ∧ NetAt K E N w' f (.slice (some ⟨gs, 0, none⟩) N N) ∧ Touch (fun k => k = K.b) w w' := by
  obtain ⟨b, go, gw, co, cw, pw, vl, vt⟩ := K
  dsimp only at *
  obtain ⟨j0, hj, hj0, hj1, hj2⟩ := info_parts info3
  have HJ := Lib.hid hj
  have HJ0 := Lib.hid hj0
  have HJ1 := Lib.hid hj1
  have HJ2 := Lib.hid hj2
  clear hj hj0 hj1 hj2
  have hN := hS.n
  have hN2 := hS.two
  have HS := Lib.hid hS
  have HF := Lib.hid hF
  have HK := Lib.hid hK
  have kn3 : w.cell? ⟨b, 3, none⟩ = some (.slice (some ⟨go, 0, none⟩) N co) := hK.net.cell 3
  have kn4 : w.cell? ⟨b, 4, none⟩ = some vs := hK.net.cell 4
  have kf4 : w.frozen? ⟨b, 4, none⟩ = false := hK.net.free 4
  have hbl : b < w.heap.size := hK.net.lt
  clear hS hF hK
  go_enter Try.func78, Try.ntmps78
  go_upto_region 1 with (first
    | (refine wpList_make_full _ rfl _ _ 35 rfl w.heap.size 3 j0 (.int .i64 0) 1 Try.underlying35 HJ.out HJ0.out HJ1.out .i64 .i64 (N : Int) (N : Int) N rfl rfl rfl rfl (by rw [HJ2.out]; omega) (by unfold maxLen; omega) (by simp) ?_; intro y5 ho hg; have HO := Lib.hid (made_row ho); have HG := Lib.hid hg; have kn4' : y5.cell? ⟨b, 4, none⟩ = some vs := (World.cell?_of_block (a := ⟨b, 4, none⟩) (hg.block _ hbl (by simp))).trans kn4; have kf4' : y5.frozen? ⟨b, 4, none⟩ = false := HK.out.net.free 4 |> fun _ => (Box.same HK.out.net (hg.block _ hbl (by simp))).free 4; clear ho hg)
    | go_in)
  obtain ⟨gs, hgs⟩ : ∃ g, g = w.heap.size := ⟨_, rfl⟩
  have hA0 : Adds w y5 := (Adds.refl w).grown HG.out (Nat.le_refl _) (fun j hj => by cases hj)
  have hR0 : RowI 3 .i64 y5 gs N (List.replicate N 0) := by
    obtain ⟨e1, e2⟩ := own_rowI HO.out
    rcases e2 with ⟨e2, _⟩ | ⟨g, cap, e2, _, e3⟩
    · cases e2
    · injection e2 with e4 e5 e6
      injection e4 with e4
      injection e4 with e4
      subst e6
      rw [hgs, e4]
      exact e3
  have hbgs : b ≠ gs := by omega
  rw [← hgs]
  obtain ⟨W, hW⟩ : ∃ V, V = y5.setCell ⟨b, 4, none⟩ (.slice (some ⟨gs, 0, none⟩) N N) := ⟨_, rfl⟩
  rw [← hW]
  have hBX : Box W b #[vl, vt, .slice pw (2 * E.length) cw, .slice (some ⟨go, 0, none⟩) N co, .slice (some ⟨gs, 0, none⟩) N N] 100 := by
    have := (HK.out.net.later hA0).set 4 (.slice (some ⟨gs, 0, none⟩) N N)
    rw [← hW] at this
    exact this
  have hIN : IntsAt W gs N (fun v => if v < 0 then -1 else 0) := by
    rw [hW]
    have h1 := hR0.ints.congr (G := fun v => if v < 0 then -1 else 0) (fun v hv => by simp at hv; simp [hv])
    rw [List.length_replicate] at h1
    exact h1.same (Below.heap_setCell _ _ _ _ (by simp; omega))
  have hTO : Touch (fun k => k = b) w W := by
    rw [hW]
    exact (Touch.of_adds hA0 (fun k => k = b)).set (p := ⟨b, 4, none⟩) rfl _
  have HGS := Lib.hid hgs
  have HBX := Lib.hid hBX
  have HIN := Lib.hid hIN
  have HTO := Lib.hid hTO
  have kb4 : W.cell? ⟨b, 4, none⟩ = some (.slice (some ⟨gs, 0, none⟩) N N) := hBX.cell 4
  clear hgs hA0 hR0 hW hBX hIN hTO HO HG kn4 kn4' kf4 kf4' hbl kn3
  go_wp2
  clear kb4
  go_loopw [22] (fun v22 wr => ∃ k : Nat, k ≤ N ∧ v22 = .int .i64 k ∧ Hid (Box wr b #[vl, vt, .slice pw (2 * E.length) cw, .slice (some ⟨go, 0, none⟩) N co, .slice (some ⟨gs, 0, none⟩) N N] 100) ∧ Hid (IntsAt wr gs N (fun v => if v < k then -1 else 0)) ∧ Hid (Touch (fun k => k = b) w wr)) (fun v22 _ => N - (intOf v22).toNat)
  case atStart => exact ⟨0, by omega, rfl, HBX, HIN, HTO⟩
  case round =>
    clear HBX HIN HTO
    obtain ⟨k, hk, rfl, HBX, HIN, HTO⟩ := hrel
    have kb4 : wr.cell? ⟨b, 4, none⟩ = some (.slice (some ⟨gs, 0, none⟩) N N) := HBX.out.cell 4
    by_cases hlt : k < N
    · have hlt2 : (k : Int) < (N : Int) := by omega
      have kc : wr.cell? ⟨gs, k, none⟩ = some (.int .i64 0) := by have := HIN.out.cell hlt; simpa using this
      have kf : wr.frozen? ⟨gs, k, none⟩ = false := HIN.out.free k
      go_wp2
      have hgs := HGS.out
      refine ⟨⟨k + 1, by omega, by go_num, Lib.hid (HBX.out.far (by simp; omega) _), Lib.hid ((HIN.out.put _).congr (fun v hv => ?_)), Lib.hid (HTO.out.put (by simp; omega) _)⟩, by simp [intOf]; omega⟩
      by_cases e : v = k
      · subst e; simp
      · have e1 : (v < k + 1) = (v < k) := by simp; omega
        simp only [e, e1, if_false]
    · have hkN : N = k := by omega
      subst hkN
      have kc : wr.cell? ⟨gs, 0, none⟩ = some (.int .i64 (-1)) := by have := HIN.out.cell (v := 0) (by omega); rw [if_pos (by omega)] at this; exact this
      have kf : wr.frozen? ⟨gs, 0, none⟩ = false := HIN.out.free 0
      go_upto_region 9 with fail
      obtain ⟨W2, hW2⟩ : ∃ V, V = (wr.setCell ⟨gs, 0, none⟩ (.int .i64 0)).alloc (.cells #[.int .i64 0] 3) := ⟨_, rfl⟩
      obtain ⟨gq, hgq⟩ : ∃ g, g = wr.heap.size := ⟨_, rfl⟩
      rw [← hW2, ← hgq]
      have hgs := HGS.out
      have hsz : (wr.setCell ⟨gs, 0, none⟩ (.int .i64 0)).heap.size = gq := by simp [World.setCell, hgq]
      have hA2 : Adds (wr.setCell ⟨gs, 0, none⟩ (.int .i64 0)) W2 := by rw [hW2]; exact (Adds.refl _).alloc _
      have hgl : gs < wr.heap.size := HIN.out.lt
      have hRQ : RowI 3 .i64 W2 gq 1 (numsI [0]) := by rw [hW2, ← hsz]; exact row_one _ 0
      have hI2 : IntsAt W2 gs N (updL (fun _ => -1) 0 0) := ((HIN.out.put (v := 0) 0).later hA2).congr (fun v hv => by
        unfold updL
        by_cases e : v = 0
        · simp [e]
        · simp [e, hv])
      have hB2 : Box W2 b #[vl, vt, .slice pw (2 * E.length) cw, .slice (some ⟨go, 0, none⟩) N co, .slice (some ⟨gs, 0, none⟩) N N] 100 := (HBX.out.far (by simp; omega) _).later hA2
      have hT2 : Touch (fun k => k = b) w W2 := (HTO.out.put (by simp; omega) _).behind hA2
      have HRQ := Lib.hid hRQ
      have HI2 := Lib.hid hI2
      have HB2 := Lib.hid hB2
      have HT2 := Lib.hid hT2
      have HGQ : Hid (gs < gq) := Lib.hid (by omega)
      clear hW2 hgq hgs hsz hA2 hgl hRQ hI2 hB2 hT2 kb4 kc kf HBX HIN HTO
      go_loopw [3, 4] (fun v3 v4 wr => ∃ (i : Nat) (q : List Nat) (lev : Nat → Int) (gq cq : Nat), v4 = .int .i64 i ∧ i ≤ q.length ∧ v3 = .slice (some ⟨gq, 0, none⟩) q.length cq ∧ Hid (Look E N f lev q i 0) ∧ Hid (gs < gq) ∧ Hid (RowI 3 .i64 wr gq cq (numsI q)) ∧
        Hid (Box wr b #[vl, vt, .slice pw (2 * E.length) cw, .slice (some ⟨go, 0, none⟩) N co, .slice (some ⟨gs, 0, none⟩) N N] 100) ∧ Hid (IntsAt wr gs N lev) ∧ Hid (Touch (fun k => k = b) w wr)) (fun _ v4 _ => N - (intOf v4).toNat)
      case atStart => exact ⟨0, [0], _, gq, 1, rfl, by simp, rfl, Lib.hid (Look.start f (by omega)), HGQ, HRQ, HB2, HI2, HT2⟩
      case round =>
        clear HRQ HI2 HB2 HT2 HGQ
        obtain ⟨i, q, lev, gq, cq, rfl, hiq, rfl, HLK, HGQ, HRQ, HBX, HIN, HTO⟩ := hrel
        obtain ⟨Q, hQ⟩ : ∃ Q, Q = q.length := ⟨_, rfl⟩
        have hqN := HLK.out.short
        rw [← hQ] at hiq hqN ⊢
        have HQ := Lib.hid hQ
        clear hQ
        by_cases hlt : i < Q
        · have hlt2 : (i : Int) < (Q : Int) := by omega
          obtain ⟨v, hv⟩ : ∃ v, q[i]? = some v := ⟨_, List.getElem?_eq_getElem (by have := HQ.out; omega)⟩
          have hvN := HLK.out.lt v (List.mem_of_getElem? hv)
          have kq : wr.cell? ⟨gq, i, none⟩ = some (.int .i64 v) := HRQ.out.cell (numsI_get hv)
          have kb3 : wr.cell? ⟨b, 3, none⟩ = some (.slice (some ⟨go, 0, none⟩) N co) := HBX.out.cell 3
          obtain ⟨pv, cv, hc5, hc6⟩ := HK.out.out.2 v hvN
          dsimp only at hc5 hc6
          have hgob := HK.out.out.1
          dsimp only at hgob
          have ko : wr.cell? ⟨go, v, none⟩ = some (.slice pv (outE E v).length cv) := touch_cell HTO.out (fun e => hgob (Or.inr e)) hc5
          have HV := Lib.hid hv
          have HC6 := Lib.hid hc6
          obtain ⟨L, hL⟩ : ∃ L, L = (outE E v).length := ⟨_, rfl⟩
          have hlen := outE_len E v
          rw [← hL] at ko hlen
          have HLL := Lib.hid hL
          have hm := HS.out.m
          clear hv hc5 hc6 hL hgob
          go_upto_region 11 with fail
          go_quiet (fail)
          go_upto_region 12 with fail
          obtain ⟨w3, hw3⟩ : ∃ V, V = wr.drewN nq := ⟨_, rfl⟩
          rw [← hw3]
          have HAD : Hid (Adds wr w3) := Lib.hid (by rw [hw3]; exact (Adds.refl _).drewN _)
          have hRQ3 := HRQ.out.later HAD.out
          have hB3 := HBX.out.later HAD.out
          have hI3 := HIN.out.later HAD.out
          have hT3 := HTO.out.behind HAD.out
          have HRQ3 := Lib.hid hRQ3
          have HB3 := Lib.hid hB3
          have HI3 := Lib.hid hI3
          have HT3 := Lib.hid hT3
          clear hw3 HAD hRQ3 hB3 hI3 hT3 HRQ HBX HIN HTO kq kb3 ko
          go_loopw [3, 55] (fun v3 v55 wr => ∃ (p : Nat) (q : List Nat) (lev : Nat → Int) (gq cq : Nat), v55 = .int .i64 p ∧ p ≤ L ∧ v3 = .slice (some ⟨gq, 0, none⟩) q.length cq ∧ Hid (Look E N f lev q i p) ∧ Hid (q[i]? = some v) ∧ Hid (gs < gq) ∧ Hid (RowI 3 .i64 wr gq cq (numsI q)) ∧
            Hid (Box wr b #[vl, vt, .slice pw (2 * E.length) cw, .slice (some ⟨go, 0, none⟩) N co, .slice (some ⟨gs, 0, none⟩) N N] 100) ∧ Hid (IntsAt wr gs N lev) ∧ Hid (Touch (fun k => k = b) w wr)) (fun _ v55 _ => L - (intOf v55).toNat)
          case atStart => exact ⟨0, q, lev, gq, cq, rfl, by omega, by rw [HQ.out], HLK, HV, HGQ, HRQ3, HB3, HI3, HT3⟩
          case round =>
            clear HRQ3 HB3 HI3 HT3 HGQ HV HLK hlt hlt2 hiq hqN HQ
            obtain ⟨p, q, lev, gq, cq, rfl, hpL, rfl, HLK, HV, HGQ, HRQ, HBX, HIN, HTO⟩ := hrel
            obtain ⟨Q, hQ⟩ : ∃ Q, Q = q.length := ⟨_, rfl⟩
            have hqN := HLK.out.short
            rw [← hQ] at hqN ⊢
            have HQ := Lib.hid hQ
            have hiq : i < Q := by have := (List.getElem?_eq_some_iff.1 HV.out).1; omega
            clear hQ
            by_cases hlt : p < L
            · have hlt2 : (p : Int) < (L : Int) := by omega
              obtain ⟨j, hj⟩ : ∃ j, (outE E v)[p]? = some j := ⟨_, List.getElem?_eq_getElem (by have := HLL.out; omega)⟩
              obtain ⟨hj1, hj2⟩ := outE_mem hj
              obtain ⟨go1, rfl, hX, hci⟩ := HC6.out p j hj
              have kci : wr.cell? ⟨go1, p, none⟩ = some (.int .i64 j) := touch_cell HTO.out (fun e => hX (Or.inr e)) hci
              have hpw := HK.out.ways.ptr hj1
              dsimp only at hpw
              subst hpw
              have hdd := HK.out.d
              dsimp only at hdd
              obtain ⟨th, hth⟩ : ∃ th, th = headE E j := ⟨_, rfl⟩
              obtain ⟨r, hr⟩ : ∃ r, r = roomE E f j := ⟨_, rfl⟩
              have kwt : wr.cell? ⟨gw, j * 2, none⟩ = some (.int .i64 th) := by rw [hth]; exact touch_cell HTO.out (fun e => hdd e.symm) (HK.out.ways.to hj1)
              have kwr : wr.cell? ⟨gw, j * 2 + 1, none⟩ = some (.int .i64 r) := by rw [hr]; exact touch_cell HTO.out (fun e => hdd e.symm) (HK.out.ways.room hj1)
              have hhN : th < N := by rw [hth]; exact HS.out.ends.head hj1
              obtain ⟨y, hy⟩ : ∃ y, y = lev th := ⟨_, rfl⟩
              have kl : wr.cell? ⟨gs, th, none⟩ = some (.int .i64 y) := by rw [hy]; exact HIN.out.cell hhN
              have kfl : wr.frozen? ⟨gs, th, none⟩ = false := HIN.out.free th
              have kb2 : wr.cell? ⟨b, 2, none⟩ = some (.slice (some ⟨gw, 0, none⟩) (2 * E.length) cw) := HBX.out.cell 2
              have kb4 : wr.cell? ⟨b, 4, none⟩ = some (.slice (some ⟨gs, 0, none⟩) N N) := HBX.out.cell 4
              have kq : wr.cell? ⟨gq, i, none⟩ = some (.int .i64 v) := HRQ.out.cell (numsI_get HV.out)
              obtain ⟨z, hz⟩ : ∃ z, z = lev v := ⟨_, rfl⟩
              have kv : wr.cell? ⟨gs, v, none⟩ = some (.int .i64 z) := by rw [hz]; exact HIN.out.cell hvN
              have hz0 : 0 ≤ z ∧ z ≤ 100000 := by
                have h1 := (HLK.out.has v hvN).2 (List.mem_of_getElem? HV.out)
                have h2 := HLK.out.at' i v HV.out
                omega
              obtain ⟨hz1, hz2⟩ := hz0
              have HJ1' := Lib.hid hj
              have HTH := Lib.hid hth
              have HR := Lib.hid hr
              have HY := Lib.hid hy
              have HZ := Lib.hid hz
              have HHN := Lib.hid hhN
              clear hj hj2 hX hci hth hr hy hz hdd
              by_cases hr2 : 0 < r
              · have hg1 : decide (0 < r) = true := decide_eq_true hr2
                by_cases hy2 : y < 0
                · have hg2 : decide (y < 0) = true := decide_eq_true hy2
                  go_upto_region 16 with fail
                  go_still_tail 17, (by kernel_rfl)
                  change wpList _ _ _ _ _ wr.drew
                  go_upto_region 17 with fail
                  have hgs := HGS.out
                  have hgq := HGQ.out
                  obtain ⟨w4, hw4⟩ : ∃ V, V = (wr.setCell ⟨gs, th, none⟩ (.int .i64 (z + 1))).drew := ⟨_, rfl⟩
                  rw [← hw4]
                  have hB4 : Box w4 b #[vl, vt, .slice (some ⟨gw, 0, none⟩) (2 * E.length) cw, .slice (some ⟨go, 0, none⟩) N co, .slice (some ⟨gs, 0, none⟩) N N] 100 := by rw [hw4]; exact (HBX.out.far (by simp; omega) _).drew
                  have hI4 : IntsAt w4 gs N (updL lev th (z + 1)) := by
                    rw [hw4]
                    have := (HIN.out.put (v := th) (z + 1)).congr (G := updL lev th (z + 1)) (fun v _ => rfl)
                    exact this.same rfl
                  have hR4 : RowI 3 .i64 w4 gq cq (numsI q) := by
                    rw [hw4]
                    have := HRQ.out.far (p := ⟨gs, th, none⟩) (by simp; omega) (.int .i64 (z + 1))
                    exact this.same rfl
                  have hT4 : Touch (fun k => k = b) w w4 := by
                    rw [hw4]
                    exact (HTO.out.put (by simp; omega) _).behind ((Adds.refl _).drew)
                  have hO4 := hR4.own (base := gs + 1) (by omega)
                  rw [show (numsI q).length = Q by simp [numsI, HQ.out]] at hO4
                  have hsz4 := hR4.lt
                  have HB4 := Lib.hid hB4
                  have HI4 := Lib.hid hI4
                  have HT4 := Lib.hid hT4
                  have HO4 := Lib.hid hO4
                  clear hw4 hB4 hI4 hR4 hT4 hO4 kci kwt kwr kl kfl kb2 kb4 kq kv hgs hgq
                  have hgq2 := HGQ.out
                  go_wp2_with (at_builtin; ((refine wpList_append_own _ rfl _ _ 35 rfl (gs + 1) 3 j0 (.int .i64 0) 1 8 Try.underlying35 HJ.out HJ0.out HJ1.out HJ2.out rfl (by decide) (.slice (some ⟨gq, 0, none⟩) Q cq) Q _ rfl (HO4.out.alloc _) ⟨w4.heap.size, 0, none⟩ 1 1 [.int .i64 th] rfl rfl (World.news_of_block (Box.new w4 #[.int .i64 th] 3)) (by simp [Value.oneCell']) (by unfold maxLen; omega) (by omega) (by simp; omega) ?_); intro va1 w5 hra1 hg1 _; have HR1 := Lib.hid hra1; have HG1 := Lib.hid hg1; clear hra1 hg1))
                  have hgs := HGS.out
                  have hra := HR1.out
                  have hnum : ((numsI q).map (Value.int .i64)) ++ [Value.int .i64 th] = (numsI (q ++ [th])).map (Value.int .i64) := by simp
                  rw [hnum] at hra
                  obtain ⟨hn5, h5⟩ := own_rowI hra
                  rcases h5 with ⟨_, h5⟩ | ⟨g5, c5, rfl, hb5, hr5⟩
                  · simp at h5
                  · have hblk : ∀ k, k < w4.heap.size → k ≠ gq → w5.heap[k]? = w4.heap[k]? := fun k hk hne => by
                      have h1 := HG1.out.block k (by simp; omega) (by simpa [Value.ownBlock] using fun e => hne e)
                      rw [h1]
                      exact Below.heap_alloc _ _ _ hk
                    have hw4s : w.heap.size ≤ w4.heap.size := HT4.out.size
                    have hbl := HB4.out.lt
                    have hbw : b < w.heap.size := HK.out.net.lt
                    have hnew : Look E N f (updL lev th (z + 1)) (q ++ [th]) i (p + 1) := by
                      have := HLK.out.meet HV.out HJ1'.out (by rw [← HR.out]; exact hr2) (by rw [← HTH.out]; exact HHN.out) (by rw [← HTH.out, ← HY.out]; exact hy2)
                      rw [← HTH.out, ← HZ.out] at this
                      exact this
                    refine ⟨⟨p + 1, q ++ [th], updL lev th (z + 1), g5, c5, by go_num, by omega, by simp, Lib.hid hnew, Lib.hid ?_, Lib.hid (by omega), Lib.hid hr5, Lib.hid (HB4.out.same (hblk b hbl (by omega))), Lib.hid (HI4.out.same (hblk gs HI4.out.lt (by omega))), Lib.hid ⟨?_, ?_, ?_, ?_, ?_⟩⟩, by simp [intOf]; omega⟩
                    · rw [List.getElem?_append_left (by have := HQ.out; omega)]; exact HV.out
                    · exact HG1.out.os.trans HT4.out.os
                    · exact HG1.out.tape.trans HT4.out.tape
                    · exact HG1.out.output.trans HT4.out.output
                    · have := HG1.out.size; simp at this; omega
                    · intro k hk hne
                      exact (hblk k (by omega) (by omega)).trans (HT4.out.same k hk hne)
                · have hg2 : decide (y < 0) = false := decide_eq_false hy2
                  have hP : Hid (Look E N f lev q i (p + 1)) := Lib.hid (HLK.out.pass HV.out HJ1'.out (by rw [← HTH.out, ← HY.out]; omega))
                  go_wp2
                  exact ⟨⟨p + 1, q, lev, gq, cq, by go_num, by omega, by rw [HQ.out], hP, HV, HGQ, HRQ, HBX, HIN, HTO⟩, by simp [intOf]; omega⟩
              · have hg1 : decide (0 < r) = false := decide_eq_false hr2
                have hP : Hid (Look E N f lev q i (p + 1)) := Lib.hid (HLK.out.pass HV.out HJ1'.out (by rw [← HR.out]; omega))
                go_wp2
                exact ⟨⟨p + 1, q, lev, gq, cq, by go_num, by omega, by rw [HQ.out], hP, HV, HGQ, HRQ, HBX, HIN, HTO⟩, by simp [intOf]; omega⟩
            · have hdq : decide ((p : Int) < (L : Int)) = false := decide_eq_false (by omega)
              have hP : Hid (Look E N f lev q (i + 1) 0) := Lib.hid (HLK.out.next HV.out (by have := HLL.out; omega))
              go_wp2
              exact ⟨⟨i + 1, q, lev, gq, cq, by go_num, by have := HQ.out; omega, by rw [HQ.out], hP, HGQ, HRQ, HBX, HIN, HTO⟩, by simp [intOf]; omega⟩
        · have hdq : decide ((i : Int) < (Q : Int)) = false := decide_eq_false (by omega)
          go_wp2
          go_end0
          refine ⟨rfl, lev, gs, HLK.out.lev (by have := HQ.out; omega) (fun j hj => HS.out.ends.tail hj) HS.out.two, HIN.out, by have := HGS.out; omega, ⟨HBX.out, HK.out.out.touch HTO.out (fun k _ e => Or.inr e), HK.out.ways.same (fun hE => HTO.out.same _ (HK.out.ways.lt hE) (fun e => HK.out.d e.symm)), HK.out.d⟩, HTO.out⟩

end Go.Proofs.Ytkofnhimgegcnaa
