/- HouseKeeps: its walk. -/
import Derived.Test.YtmkpidipoadnbaaW51
import Derived.BigQuiet
namespace Go.Proofs.Ytmkpidipoadnbaa
open Go Go.RowKit Go.Sort

set_option maxRecDepth 100000 in
set_option maxHeartbeats 16000000 in
theorem keeps_any (c : Cfg) (pp : Option Addr) (cp : Nat) (mp : Option Addr) (cm : Nat) (pa : Option Addr) (al : List ActT) (ca0 : Nat) (w : World) (hb : ∀ x ∈ [c.members, c.months, c.rate, c.cap], -9223372036854775808 ≤ x ∧ x ≤ 9223372036854775807) (hP : SrcAt w pp c.prices.length cp (c.prices.map (Value.int .i64))) (hM : MovesS w mp cm c.moves) (hlp : c.prices.length ≤ 9223372036854775807) (hlm : c.moves.length ≤ 9223372036854775807) (hlr : ∀ m ∈ c.moves, m.length ≤ 9223372036854775807) (hA : CellsAt w pa (al.flatMap encT)) (hAI : ∀ t ∈ al, t.In) (hla : al.length ≤ 9223372036854775807) :
    Calls Try.prog 3 #[.agg (cfgCells c pp cp mp cm), .slice pa al.length ca0] w fun r w' => r = .returned (.bool true) ∧ Adds w w' := by
  have HTM := Lib.hid (fun W (hW : Adds w W) => tame_any c pp cp mp cm W hb (hP.later hW) (hM.later hW) hlp hlm hlr)
  have HOK := Lib.hid (tame_ok c)
  have HCP := Lib.hid (tame_copy c)
  have HME := Lib.hid (tame_members c)
  have HMO := Lib.hid (mo_bd c)
  have HG0 := Lib.hid (tameH_good c)
  have HK0 := Lib.hid (tameH_kept c)
  have HAC := Lib.hid hA
  have HAI := Lib.hid hAI
  have hms : (tameT c).months = ((tameMo c : Nat) : Int) := rfl
  have HMS := Lib.hid hms
  have hgive : ∀ W p q m n, (SrcAt W p (tameT c).prices.length q ((tameT c).prices.map (Value.int .i64))) → MovesS W m n (tameT c).moves → Calls Try.prog 6 #[.agg (cfgCells (tameT c) p q m n)] W fun r w' => ∃ pp' cp' mp' cm', r = .returned (.agg (cfgCells (tameT c) pp' cp' mp' cm')) ∧ CellsAt w' pp' ((tameT c).prices.map (Value.int .i64)) ∧ MovesAt w' mp' (tameT c).moves ∧ Adds W w' := fun W p q m n h1 h2 => by
    have := give_any (tameT c) p q m n W h1 h2
    rw [tame_copy] at this
    refine this.mono ?_
    rintro r w' ⟨a1, a2, a3, a4, e1, e2, e3, e4⟩
    exact ⟨a1, a2, a3, a4, e1, own_cellsAt e2, e3.src.at, e4⟩
  have hnew : ∀ W p q m n, CellsAt W p ((tameT c).prices.map (Value.int .i64)) → MovesAt W m (tameT c).moves → Calls Try.prog 5 #[.agg (cfgCells (tameT c) p q m n)] W fun r w' => ∃ b ga ca pm cm', r = .returned (.tuple #[.pointer (some ⟨b, 0, none⟩), .int .i64 0]) ∧ HouseSt w' W.heap.size b ga ca pm cm' (tameH c) ∧ Adds W w' := fun W p q m n h1 h2 => by
    refine (new_ok (tameT c) p q m n W h1 h2 (tame_ok c)).mono ?_
    rintro r w' ⟨b, ga, ca, pm, cm', e1, e2, e3, e4⟩
    exact ⟨b, ga, ca, pm, cm', e1, ⟨none, 0, e2, e3⟩, e4⟩
  have HGV := Lib.hid hgive
  have HNW := Lib.hid hnew
  obtain ⟨H0, hH0⟩ : ∃ x, x = tameH c := ⟨_, rfl⟩
  rw [← hH0] at HG0 HK0 HNW
  obtain ⟨mo, hmo⟩ : ∃ x, x = tameMo c := ⟨_, rfl⟩
  rw [← hmo] at HMO HMS
  have HH0M : Hid (H0.months = mo ∧ (H0.ac.length : Int) = (tameT c).members) := Lib.hid (by
    rw [hH0, hmo]
    refine ⟨?_, ?_⟩
    · show (tameT c).months.toNat = tameMo c
      rw [hms]; rfl
    · show ((List.replicate (tameT c).members.toNat acc0).length : Int) = _
      rw [List.length_replicate]
      have := tame_members c
      omega)
  obtain ⟨D, hD⟩ : ∃ x, x = tameT c := ⟨_, rfl⟩
  rw [← hD] at HTM HOK HCP HME HK0 HMS HH0M HGV HNW
  clear hb hP hM hlp hlm hlr hA hAI hms hgive hnew hH0 hmo hD
  obtain ⟨dm, dmo, dp, dv, dr, dc⟩ := D
  unfold cfgCells at *
  dsimp only at *
  have hdm := HMS.out
  subst hdm
  obtain ⟨np, hnp⟩ : ∃ n, n = dp.length := ⟨_, rfl⟩
  obtain ⟨nv, hnv⟩ : ∃ n, n = dv.length := ⟨_, rfl⟩
  simp only [← hnp, ← hnv] at HTM HGV HNW
  obtain ⟨m0, e0⟩ : ∃ x, x = c.members := ⟨_, rfl⟩
  obtain ⟨m1, e1⟩ : ∃ x, x = c.months := ⟨_, rfl⟩
  obtain ⟨m2, e2⟩ : ∃ x, x = c.prices.length := ⟨_, rfl⟩
  obtain ⟨m3, e3⟩ : ∃ x, x = c.moves.length := ⟨_, rfl⟩
  obtain ⟨m4, e4⟩ : ∃ x, x = c.rate := ⟨_, rfl⟩
  obtain ⟨m5, e5⟩ : ∃ x, x = c.cap := ⟨_, rfl⟩
  rw [← e0, ← e1, ← e2, ← e3, ← e4, ← e5] at HTM ⊢
  have HTM1 := Lib.hid (HTM.out (w.alloc (.cells #[.int .i64 m0, .int .i64 m1, .slice pp m2 cp, .slice mp m3 cm, .int .i64 m4, .int .i64 m5] 25)) ((Adds.refl w).alloc _))
  obtain ⟨na, hna⟩ : ∃ n, n = al.length := ⟨_, rfl⟩
  rw [← hna] at hla ⊢
  have HNA := Lib.hid hna
  clear HTM e0 e1 e2 e3 e4 e5 hna hnp hnv
  go_enter Try.func3, Try.ntmps3
  go_upto_region 2 with (go_at_call 4; refine HTM1.out.mono ?_; rintro e w1 ⟨p1, q1, p2, q2, rfl, ho1, ho2, ha⟩; have HO1 := Lib.hid ho1; have HO2 := Lib.hid ho2; have HA := Lib.hid (((Adds.refl w).alloc _).trans ha); clear ho1 ho2 ha)
  have hq0 : Box (w1.alloc (.cells #[.int .i64 dm, .int .i64 (mo : Int), .slice p1 np q1, .slice p2 nv q2, .int .i64 dr, .int .i64 dc] 25)) w1.heap.size #[.int .i64 dm, .int .i64 (mo : Int), .slice p1 np q1, .slice p2 nv q2, .int .i64 dr, .int .i64 dc] 25 := Box.new _ _ _
  have hs2 := own_src (own_allocd HO1.out (.cells #[.int .i64 dm, .int .i64 (mo : Int), .slice p1 np q1, .slice p2 nv q2, .int .i64 dr, .int .i64 dc] 25))
  have hm2 := (HO2.out.later ((Adds.refl w1).alloc (.cells #[.int .i64 dm, .int .i64 (mo : Int), .slice p1 np q1, .slice p2 nv q2, .int .i64 dr, .int .i64 dc] 25))).src
  have ha2 := HA.out.alloc (.cells #[.int .i64 dm, .int .i64 (mo : Int), .slice p1 np q1, .slice p2 nv q2, .int .i64 dr, .int .i64 dc] 25)
  obtain ⟨q, hq⟩ : ∃ q, q = w1.heap.size := ⟨_, rfl⟩
  obtain ⟨W2, hW2⟩ : ∃ V, V = w1.alloc (.cells #[.int .i64 dm, .int .i64 (mo : Int), .slice p1 np q1, .slice p2 nv q2, .int .i64 dr, .int .i64 dc] 25) := ⟨_, rfl⟩
  rw [← hW2, ← hq] at hq0
  rw [← hW2] at hs2 hm2 ha2 ⊢
  rw [← hq]
  have Q2 := Lib.hid hq0
  have A2 := Lib.hid ha2
  have S2 := Lib.hid hs2
  have M2 := Lib.hid hm2
  have z0 := hq0.cell 0
  have z1 := hq0.cell 1
  have z2 := hq0.cell 2
  have z3 := hq0.cell 3
  have z4 := hq0.cell 4
  have z5 := hq0.cell 5
  clear hq hW2 hq0 hs2 hm2 ha2 HA HO1 HO2 HTM1
  go_upto_region 3 with (first
    | (go_at_call 6; refine (HGV.out W2 p1 q1 p2 q2 S2.out M2.out).mono ?_; rintro e w3 ⟨p3, q3, p4, q4, rfl, hc3, hm3, ha3⟩; have C3 := Lib.hid hc3; have M3 := Lib.hid hm3; have A3 := Lib.hid ha3; clear hc3 hm3 ha3 HGV)
    | (go_at_call 5; refine (HNW.out w3 p3 q3 p4 q4 C3.out M3.out).mono ?_; rintro e w4 ⟨b, ga, ca, pm, cm4, rfl, hs4, ha4⟩; have HS4 := Lib.hid hs4; have A4 := Lib.hid ha4; clear hs4 ha4 HNW))
  have HBS : Hid (w.heap.size ≤ w3.heap.size) := Lib.hid ((A2.out.trans A3.out).size)
  have Q4 := Lib.hid ((Q2.out.later A3.out).later A4.out)
  have A5 := Lib.hid ((A2.out.trans A3.out).trans A4.out)
  obtain ⟨bs, hbs⟩ : ∃ x, x = w3.heap.size := ⟨_, rfl⟩
  rw [← hbs] at HS4 HBS
  have z5 := Q4.out.cell 5
  have HM0 : Hid (wrap64 (moneyT H0) = dc) := Lib.hid (by
    rw [HK0.out.2]
    have h1 := HOK.out
    have h2 := (cfg_ok h1).2.2.2.1
    unfold inB at h2
    simp at h2
    unfold wrap64
    omega)
  clear A2 A3 A4 Q2 S2 M2 C3 M3 z0 z1 z2 z3 z4 hbs
  go_upto_region 7 with fail
  clear z5
  go_loopw [9, 8] (fun v9 v8 wr => ∃ (k : Nat) (T : Int), k ≤ na ∧ k ≤ 50 ∧ v9 = .int .i64 k ∧ v8 = .int .i64 T ∧ Hid (T = wrap64 (moneyT (keepS H0 al k))) ∧ Hid (HouseSt wr bs b ga ca pm cm4 (keepS H0 al k)) ∧ Hid (Box wr q #[.int .i64 dm, .int .i64 (mo : Int), .slice p1 np q1, .slice p2 nv q2, .int .i64 dr, .int .i64 dc] 25) ∧ Hid (Adds w wr)) (fun v9 _ _ => na - (intOf v9).toNat)
  case atStart => exact ⟨0, dc, by omega, by omega, rfl, rfl, Lib.hid HM0.out.symm, HS4, Q4, A5⟩
  case round =>
    obtain ⟨k, T, hk, hk50, rfl, rfl, HT, RH, RQ, RA⟩ := hrel
    clear HS4 Q4 A5
    have HGK := Lib.hid (keepS_ok HG0.out HK0.out.1 al k hk50 (by have := HNA.out; omega))
    by_cases hlt : k < na
    · have hlt2 : (k : Int) < (na : Int) := by omega
      have hk0 : (0 : Int) ≤ (k : Int) := by omega
      by_cases hl5 : k < 50
      · have hl52 : (k : Int) < 50 := by omega
        have hd5 : decide ((k : Int) < 50) = true := decide_eq_true hl52
        obtain ⟨t, ht⟩ : ∃ t, al[k]? = some t := ⟨_, List.getElem?_eq_getElem (by have := HNA.out; omega)⟩
        have HNX := Lib.hid (keepS_next (h := H0) ht)
        have hti := HAI.out t (List.mem_of_getElem? ht)
        have hcell := fun j v (hj : (encT t)[j]? = some v) => HAC.out (k * 7 + j) v (by rw [flat_get encT_len ht (by have := (List.getElem?_eq_some_iff.1 hj).1; rw [encT_len] at this; exact this)]; exact hj)
        obtain ⟨g, o, epa, _⟩ := hcell 0 _ rfl
        subst epa
        have hc2 : ∀ j v, (encT t)[j]? = some v → wr.cell? ⟨g, o + (k * 7 + j), none⟩ = some v := fun j v hj => by
          obtain ⟨g2, o2, e, hc⟩ := hcell j v hj
          injection e with e
          injection e with e1 e2 e3
          subst e1 e2
          exact keep_cell RA.out hc
        obtain ⟨kind, xa, xb, mon, qty, price, amt⟩ := t
        have y0 : wr.cell? ⟨g, o + k * 7, none⟩ = some (.int .i64 kind) := hc2 0 _ rfl
        have y1 : wr.cell? ⟨g, o + k * 7 + 1, none⟩ = some (.int .i64 xa) := hc2 1 _ rfl
        have y2 : wr.cell? ⟨g, o + k * 7 + 2, none⟩ = some (.int .i64 xb) := hc2 2 _ rfl
        have y3 : wr.cell? ⟨g, o + k * 7 + 3, none⟩ = some (.int .i64 mon) := hc2 3 _ rfl
        have y4 : wr.cell? ⟨g, o + k * 7 + 4, none⟩ = some (.int .i64 qty) := hc2 4 _ rfl
        have y5 : wr.cell? ⟨g, o + k * 7 + 5, none⟩ = some (.int .i64 price) := hc2 5 _ rfl
        have y6 : wr.cell? ⟨g, o + k * 7 + 6, none⟩ = some (.int .i64 amt) := hc2 6 _ rfl
        have HSQ := Lib.hid (fun W => small_any qty 50 W (by omega) (by omega) hti.2.2.2.2.1.1 hti.2.2.2.2.1.2)
        have HSP := Lib.hid (fun W => small_any price 300 W (by omega) (by omega) hti.2.2.2.2.2.1.1 hti.2.2.2.2.2.1.2)
        have hb1 := small_bd (n := qty) (most := 50) (by omega)
        have hb2 := small_bd (n := price) (most := 300) (by omega)
        have HAM : Hid (I64 amt) := Lib.hid hti.2.2.2.2.2.2
        obtain ⟨sq, hsq⟩ : ∃ x, x = smallT qty 50 := ⟨_, rfl⟩
        obtain ⟨sp, hsp⟩ : ∃ x, x = smallT price 300 := ⟨_, rfl⟩
        have HQU : Hid (quT ⟨kind, xa, xb, mon, qty, price, amt⟩ = 1 + sq) := Lib.hid (by rw [hsq]; rfl)
        have HPR : Hid (prT ⟨kind, xa, xb, mon, qty, price, amt⟩ = 1 + sp) := Lib.hid (by rw [hsp]; rfl)
        rw [← hsq] at HSQ hb1
        rw [← hsp] at HSP hb2
        have hq0 := hb1.1
        have hq1 := hb1.2
        have hp0 := hb2.1
        have hp1 := hb2.2
        clear hcell hc2 hti hsq hsp hb1 hb2 ht
        go_upto_region 10 with fail
        obtain ⟨x, hx⟩ : ∃ x, x = wr.heap.size := ⟨_, rfl⟩
        rw [← hx]
        have b6 : Box (wr.alloc (.cells #[.int .i64 kind, .int .i64 xa, .int .i64 xb, .int .i64 mon, .int .i64 qty, .int .i64 price, .int .i64 amt] 35)) x #[.int .i64 kind, .int .i64 xa, .int .i64 xb, .int .i64 mon, .int .i64 qty, .int .i64 price, .int .i64 amt] 35 := box_new hx
        have a6 : Adds wr (wr.alloc (.cells #[.int .i64 kind, .int .i64 xa, .int .i64 xb, .int .i64 mon, .int .i64 qty, .int .i64 price, .int .i64 amt] 35)) := (Adds.refl wr).alloc _
        have HXW : Hid (wr.heap.size ≤ x) := Lib.hid (by omega)
        obtain ⟨W6, hW6⟩ : ∃ V, V = wr.alloc (.cells #[.int .i64 kind, .int .i64 xa, .int .i64 xb, .int .i64 mon, .int .i64 qty, .int .i64 price, .int .i64 amt] 35) := ⟨_, rfl⟩
        rw [← hW6] at b6 a6 ⊢
        have B6 := Lib.hid b6
        have A6 := Lib.hid a6
        have c4 := b6.cell 4
        clear hW6 b6 a6 hx y0 y1 y2 y3 y4 y5 y6
        go_upto_region 11 with (go_at_call 7; refine (HSQ.out _).mono ?_; rintro e w7 ⟨rfl, ha⟩; have A7 := Lib.hid ha; have b7 := B6.out.later ha; have c4 := b7.cell 4; have f4 := b7.free 4; clear ha b7)
        have b7 : Box (w7.setCell ⟨x, 4, none⟩ (.int .i64 (1 + sq))) x #[.int .i64 kind, .int .i64 xa, .int .i64 xb, .int .i64 mon, .int .i64 (1 + sq), .int .i64 price, .int .i64 amt] 35 := (B6.out.later A7.out).set 4 _
        have a7 : Adds wr (w7.setCell ⟨x, 4, none⟩ (.int .i64 (1 + sq))) := (A6.out.trans A7.out).set (p := ⟨x, 4, none⟩) HXW.out _
        obtain ⟨W7, hW7⟩ : ∃ V, V = w7.setCell ⟨x, 4, none⟩ (.int .i64 (1 + sq)) := ⟨_, rfl⟩
        rw [← hW7] at b7 a7 ⊢
        have B7 := Lib.hid b7
        have A70 := Lib.hid a7
        clear c4 f4
        have c5 := b7.cell 5
        clear hW7 b7 a7 A7 A6 B6 HSQ
        go_upto_region 12 with (go_at_call 7; refine (HSP.out _).mono ?_; rintro e w8 ⟨rfl, ha⟩; have A8 := Lib.hid ha; have b8 := B7.out.later ha; have c5 := b8.cell 5; have f5 := b8.free 5; clear ha b8)
        have b8 : Box (w8.setCell ⟨x, 5, none⟩ (.int .i64 (1 + sp))) x #[.int .i64 kind, .int .i64 xa, .int .i64 xb, .int .i64 mon, .int .i64 (1 + sq), .int .i64 (1 + sp), .int .i64 amt] 35 := (B7.out.later A8.out).set 5 _
        have a8 : Adds wr (w8.setCell ⟨x, 5, none⟩ (.int .i64 (1 + sp))) := (A70.out.trans A8.out).set (p := ⟨x, 5, none⟩) HXW.out _
        obtain ⟨W8, hW8⟩ : ∃ V, V = w8.setCell ⟨x, 5, none⟩ (.int .i64 (1 + sp)) := ⟨_, rfl⟩
        rw [← hW8] at b8 a8 ⊢
        have B8 := Lib.hid b8
        have H8 := Lib.hid (RH.out.later a8)
        have Q8 := Lib.hid (RQ.out.later a8)
        have A80 := Lib.hid (RA.out.trans a8)
        clear c5 f5
        have x0 := b8.cell 0
        have x1 := b8.cell 1
        have x2 := b8.cell 2
        have x3 := b8.cell 3
        have x4 := b8.cell 4
        have x5 := b8.cell 5
        have x6 := b8.cell 6
        clear hW8 b8 a8 A8 A70 B7 HSP RH RQ RA
        obtain ⟨ku, hku⟩ : ∃ v, v = kind % 18446744073709551616 := ⟨_, rfl⟩
        have hu : IntKind.u64.wrap kind = ku := by rw [IntKind.wrap_u64, hku]
        have hku0 : 0 ≤ ku := by omega
        obtain ⟨kd, hkd⟩ : ∃ v, v = ku % 12 := ⟨_, rfl⟩
        have htm : Int.tmod ku 12 = kd := by rw [hkd, Int.tmod_eq_emod_of_nonneg hku0]
        have HKD : Hid (kdT ⟨kind, xa, xb, mon, qty, price, amt⟩ = kd) := Lib.hid (by unfold kdT; dsimp only; rw [← hku, hkd])
        have hkb : 0 ≤ kd ∧ kd ≤ 11 := by omega
        have hkw : IntKind.u64.wrap kd = kd := by rw [IntKind.wrap_u64]; omega
        clear hku hku0 hkd
        obtain ⟨G, hG⟩ : ∃ x, x = keepS H0 al k := ⟨_, rfl⟩
        rw [← hG] at HT HGK HNX H8
        clear hG
        rcases (show kd = 0 ∨ kd = 1 ∨ kd = 2 ∨ kd = 3 ∨ kd = 4 ∨ kd = 5 ∨ kd = 6 ∨ kd = 7 ∨ kd = 8 ∨ kd = 9 ∨ kd = 10 ∨ kd = 11 by omega) with rfl | rfl | rfl | rfl | rfl | rfl | rfl | rfl | rfl | rfl | rfl | rfl
        · have HKH : Hid (keepH G ⟨kind, xa, xb, mon, qty, price, amt⟩ = depositT G xa amt) := Lib.hid (by unfold keepH; rw [HKD.out]; simp)
          have HC := Lib.hid (deposit_st H8.out (HGK.out.1.t.sound (by omega)) xa amt)
          have HKM := Lib.hid ((HGK.out.2.deposit xa amt).2)
          by_cases he : payerE G xa amt = 0
          · have HGN : Hid (Good (k + 1) (depositT G xa amt)) := Lib.hid (by rw [← HKH.out]; exact keep_good HGK.out.1 (by omega) _)
            obtain ⟨G2, hG2⟩ : ∃ x, x = depositT G xa amt := ⟨_, rfl⟩
            have HTO := Lib.hid (fun W (hW : HouseSt W bs b ga ca pm cm4 G2) => total_st hW (by rw [hG2]; exact HGN.out))
            obtain ⟨T2, hT2⟩ : ∃ x, x = wrap64 (moneyT G2) := ⟨_, rfl⟩
            have HT2 := Lib.hid hT2
            rw [← hT2] at HTO
            rw [← hG2] at HC HKH HGN
            rw [he, if_pos rfl] at HKM
            rw [he] at HC
            have hadd : wrap64 (T + amt) = T2 := by rw [hT2, hG2, HKM.out, HT.out]; unfold wrap64; omega
            have hadd2 : IntKind.i64.wrap (T + amt) = T2 := by rw [← hadd, IntKind.wrap_i64]; unfold wrap64; omega
            clear hG2 hT2
            have hne : (T2 != T2) = false := by rw [bne_self_eq_false]
            go_wp2_with (first
              | (go_at_call 8; refine HC.out.mono ?_; rintro e w9 ⟨rfl, hl⟩; have HL := Lib.hid hl; have b9 := hl.2.box x _ _ B8.out (by decide) (by decide) (by decide); have z6 := b9.cell 6; clear hl b9)
              | (go_at_call 15; refine (HTO.out _ HL.out.1).mono ?_; rintro e w10 ⟨rfl, ha⟩; have A10 := Lib.hid ha; clear ha))
            refine ⟨⟨k + 1, T2, by omega, by omega, by go_num, rfl, Lib.hid ?_, Lib.hid ?_, Lib.hid ?_, Lib.hid ?_⟩, by simp [intOf]; omega⟩
            · rw [HNX.out, HKH.out]; exact HT2.out
            · rw [HNX.out, HKH.out]; exact HL.out.1.later A10.out
            · exact (HL.out.2.box q _ _ Q8.out (by decide) (by decide) (by decide)).later A10.out
            · exact (HL.out.2.adds w HBS.out A80.out).trans A10.out
          · have HGN : Hid (Good (k + 1) (depositT G xa amt)) := Lib.hid (by rw [← HKH.out]; exact keep_good HGK.out.1 (by omega) _)
            obtain ⟨G2, hG2⟩ : ∃ x, x = depositT G xa amt := ⟨_, rfl⟩
            have HTO := Lib.hid (fun W (hW : HouseSt W bs b ga ca pm cm4 G2) => total_st hW (by rw [hG2]; exact HGN.out))
            obtain ⟨T2, hT2⟩ : ∃ x, x = wrap64 (moneyT G2) := ⟨_, rfl⟩
            have HT2 := Lib.hid hT2
            rw [← hT2] at HTO
            rw [← hG2] at HC HKH HGN
            rw [if_neg he] at HKM
            obtain ⟨ev, hev⟩ : ∃ v, v = payerE G xa amt := ⟨_, rfl⟩
            rw [← hev] at HC he
            have hev2 : (ev == 0) = false := beq_eq_false_iff_ne.2 he
            have hTT : T2 = T := by rw [hT2, hG2, HKM.out, HT.out]; congr 1; omega
            subst hTT
            clear hev
            clear hG2 hT2
            have hne : (T2 != T2) = false := by rw [bne_self_eq_false]
            go_wp2_with (first
              | (go_at_call 8; refine HC.out.mono ?_; rintro e w9 ⟨rfl, hl⟩; have HL := Lib.hid hl; have b9 := hl.2.box x _ _ B8.out (by decide) (by decide) (by decide); have z6 := b9.cell 6; clear hl b9)
              | (go_at_call 15; refine (HTO.out _ HL.out.1).mono ?_; rintro e w10 ⟨rfl, ha⟩; have A10 := Lib.hid ha; clear ha))
            refine ⟨⟨k + 1, T2, by omega, by omega, by go_num, rfl, Lib.hid ?_, Lib.hid ?_, Lib.hid ?_, Lib.hid ?_⟩, by simp [intOf]; omega⟩
            · rw [HNX.out, HKH.out]; exact HT2.out
            · rw [HNX.out, HKH.out]; exact HL.out.1.later A10.out
            · exact (HL.out.2.box q _ _ Q8.out (by decide) (by decide) (by decide)).later A10.out
            · exact (HL.out.2.adds w HBS.out A80.out).trans A10.out
        · have HKH : Hid (keepH G ⟨kind, xa, xb, mon, qty, price, amt⟩ = depositT G xa amt) := Lib.hid (by unfold keepH; rw [HKD.out]; simp)
          have HC := Lib.hid (deposit_st H8.out (HGK.out.1.t.sound (by omega)) xa amt)
          have HKM := Lib.hid ((HGK.out.2.deposit xa amt).2)
          by_cases he : payerE G xa amt = 0
          · have HGN : Hid (Good (k + 1) (depositT G xa amt)) := Lib.hid (by rw [← HKH.out]; exact keep_good HGK.out.1 (by omega) _)
            obtain ⟨G2, hG2⟩ : ∃ x, x = depositT G xa amt := ⟨_, rfl⟩
            have HTO := Lib.hid (fun W (hW : HouseSt W bs b ga ca pm cm4 G2) => total_st hW (by rw [hG2]; exact HGN.out))
            obtain ⟨T2, hT2⟩ : ∃ x, x = wrap64 (moneyT G2) := ⟨_, rfl⟩
            have HT2 := Lib.hid hT2
            rw [← hT2] at HTO
            rw [← hG2] at HC HKH HGN
            rw [he, if_pos rfl] at HKM
            rw [he] at HC
            have hadd : wrap64 (T + amt) = T2 := by rw [hT2, hG2, HKM.out, HT.out]; unfold wrap64; omega
            have hadd2 : IntKind.i64.wrap (T + amt) = T2 := by rw [← hadd, IntKind.wrap_i64]; unfold wrap64; omega
            clear hG2 hT2
            have hne : (T2 != T2) = false := by rw [bne_self_eq_false]
            go_wp2_with (first
              | (go_at_call 8; refine HC.out.mono ?_; rintro e w9 ⟨rfl, hl⟩; have HL := Lib.hid hl; have b9 := hl.2.box x _ _ B8.out (by decide) (by decide) (by decide); have z6 := b9.cell 6; clear hl b9)
              | (go_at_call 15; refine (HTO.out _ HL.out.1).mono ?_; rintro e w10 ⟨rfl, ha⟩; have A10 := Lib.hid ha; clear ha))
            refine ⟨⟨k + 1, T2, by omega, by omega, by go_num, rfl, Lib.hid ?_, Lib.hid ?_, Lib.hid ?_, Lib.hid ?_⟩, by simp [intOf]; omega⟩
            · rw [HNX.out, HKH.out]; exact HT2.out
            · rw [HNX.out, HKH.out]; exact HL.out.1.later A10.out
            · exact (HL.out.2.box q _ _ Q8.out (by decide) (by decide) (by decide)).later A10.out
            · exact (HL.out.2.adds w HBS.out A80.out).trans A10.out
          · have HGN : Hid (Good (k + 1) (depositT G xa amt)) := Lib.hid (by rw [← HKH.out]; exact keep_good HGK.out.1 (by omega) _)
            obtain ⟨G2, hG2⟩ : ∃ x, x = depositT G xa amt := ⟨_, rfl⟩
            have HTO := Lib.hid (fun W (hW : HouseSt W bs b ga ca pm cm4 G2) => total_st hW (by rw [hG2]; exact HGN.out))
            obtain ⟨T2, hT2⟩ : ∃ x, x = wrap64 (moneyT G2) := ⟨_, rfl⟩
            have HT2 := Lib.hid hT2
            rw [← hT2] at HTO
            rw [← hG2] at HC HKH HGN
            rw [if_neg he] at HKM
            obtain ⟨ev, hev⟩ : ∃ v, v = payerE G xa amt := ⟨_, rfl⟩
            rw [← hev] at HC he
            have hev2 : (ev == 0) = false := beq_eq_false_iff_ne.2 he
            have hTT : T2 = T := by rw [hT2, hG2, HKM.out, HT.out]; congr 1; omega
            subst hTT
            clear hev
            clear hG2 hT2
            have hne : (T2 != T2) = false := by rw [bne_self_eq_false]
            go_wp2_with (first
              | (go_at_call 8; refine HC.out.mono ?_; rintro e w9 ⟨rfl, hl⟩; have HL := Lib.hid hl; have b9 := hl.2.box x _ _ B8.out (by decide) (by decide) (by decide); have z6 := b9.cell 6; clear hl b9)
              | (go_at_call 15; refine (HTO.out _ HL.out.1).mono ?_; rintro e w10 ⟨rfl, ha⟩; have A10 := Lib.hid ha; clear ha))
            refine ⟨⟨k + 1, T2, by omega, by omega, by go_num, rfl, Lib.hid ?_, Lib.hid ?_, Lib.hid ?_, Lib.hid ?_⟩, by simp [intOf]; omega⟩
            · rw [HNX.out, HKH.out]; exact HT2.out
            · rw [HNX.out, HKH.out]; exact HL.out.1.later A10.out
            · exact (HL.out.2.box q _ _ Q8.out (by decide) (by decide) (by decide)).later A10.out
            · exact (HL.out.2.adds w HBS.out A80.out).trans A10.out
        · have HKH : Hid (keepH G ⟨kind, xa, xb, mon, qty, price, amt⟩ = withdrawT G xa amt) := Lib.hid (by unfold keepH; rw [HKD.out]; simp)
          have HC := Lib.hid (withdraw_st H8.out (HGK.out.1.t.sound (by omega)) xa amt)
          have HKM := Lib.hid ((HGK.out.2.withdraw xa amt).2)
          by_cases he : payE G xa amt = 0
          · have HGN : Hid (Good (k + 1) (withdrawT G xa amt)) := Lib.hid (by rw [← HKH.out]; exact keep_good HGK.out.1 (by omega) _)
            obtain ⟨G2, hG2⟩ : ∃ x, x = withdrawT G xa amt := ⟨_, rfl⟩
            have HTO := Lib.hid (fun W (hW : HouseSt W bs b ga ca pm cm4 G2) => total_st hW (by rw [hG2]; exact HGN.out))
            obtain ⟨T2, hT2⟩ : ∃ x, x = wrap64 (moneyT G2) := ⟨_, rfl⟩
            have HT2 := Lib.hid hT2
            rw [← hT2] at HTO
            rw [← hG2] at HC HKH HGN
            rw [he, if_pos rfl] at HKM
            rw [he] at HC
            have hadd : wrap64 (T - amt) = T2 := by rw [hT2, hG2, HKM.out, HT.out]; unfold wrap64; omega
            have hadd2 : IntKind.i64.wrap (T - amt) = T2 := by rw [← hadd, IntKind.wrap_i64]; unfold wrap64; omega
            clear hG2 hT2
            have hne : (T2 != T2) = false := by rw [bne_self_eq_false]
            go_wp2_with (first
              | (go_at_call 9; refine HC.out.mono ?_; rintro e w9 ⟨rfl, hl⟩; have HL := Lib.hid hl; have b9 := hl.2.box x _ _ B8.out (by decide) (by decide) (by decide); have z6 := b9.cell 6; clear hl b9)
              | (go_at_call 15; refine (HTO.out _ HL.out.1).mono ?_; rintro e w10 ⟨rfl, ha⟩; have A10 := Lib.hid ha; clear ha))
            refine ⟨⟨k + 1, T2, by omega, by omega, by go_num, rfl, Lib.hid ?_, Lib.hid ?_, Lib.hid ?_, Lib.hid ?_⟩, by simp [intOf]; omega⟩
            · rw [HNX.out, HKH.out]; exact HT2.out
            · rw [HNX.out, HKH.out]; exact HL.out.1.later A10.out
            · exact (HL.out.2.box q _ _ Q8.out (by decide) (by decide) (by decide)).later A10.out
            · exact (HL.out.2.adds w HBS.out A80.out).trans A10.out
          · have HGN : Hid (Good (k + 1) (withdrawT G xa amt)) := Lib.hid (by rw [← HKH.out]; exact keep_good HGK.out.1 (by omega) _)
            obtain ⟨G2, hG2⟩ : ∃ x, x = withdrawT G xa amt := ⟨_, rfl⟩
            have HTO := Lib.hid (fun W (hW : HouseSt W bs b ga ca pm cm4 G2) => total_st hW (by rw [hG2]; exact HGN.out))
            obtain ⟨T2, hT2⟩ : ∃ x, x = wrap64 (moneyT G2) := ⟨_, rfl⟩
            have HT2 := Lib.hid hT2
            rw [← hT2] at HTO
            rw [← hG2] at HC HKH HGN
            rw [if_neg he] at HKM
            obtain ⟨ev, hev⟩ : ∃ v, v = payE G xa amt := ⟨_, rfl⟩
            rw [← hev] at HC he
            have hev2 : (ev == 0) = false := beq_eq_false_iff_ne.2 he
            have hTT : T2 = T := by rw [hT2, hG2, HKM.out, HT.out]; congr 1; omega
            subst hTT
            clear hev
            clear hG2 hT2
            have hne : (T2 != T2) = false := by rw [bne_self_eq_false]
            go_wp2_with (first
              | (go_at_call 9; refine HC.out.mono ?_; rintro e w9 ⟨rfl, hl⟩; have HL := Lib.hid hl; have b9 := hl.2.box x _ _ B8.out (by decide) (by decide) (by decide); have z6 := b9.cell 6; clear hl b9)
              | (go_at_call 15; refine (HTO.out _ HL.out.1).mono ?_; rintro e w10 ⟨rfl, ha⟩; have A10 := Lib.hid ha; clear ha))
            refine ⟨⟨k + 1, T2, by omega, by omega, by go_num, rfl, Lib.hid ?_, Lib.hid ?_, Lib.hid ?_, Lib.hid ?_⟩, by simp [intOf]; omega⟩
            · rw [HNX.out, HKH.out]; exact HT2.out
            · rw [HNX.out, HKH.out]; exact HL.out.1.later A10.out
            · exact (HL.out.2.box q _ _ Q8.out (by decide) (by decide) (by decide)).later A10.out
            · exact (HL.out.2.adds w HBS.out A80.out).trans A10.out
        · have HKH : Hid (keepH G ⟨kind, xa, xb, mon, qty, price, amt⟩ = contributeT G xa amt) := Lib.hid (by unfold keepH; rw [HKD.out]; simp)
          have HC := Lib.hid (contribute_st H8.out (HGK.out.1.t.sound (by omega)) xa amt)
          have HGN : Hid (Good (k + 1) (contributeT G xa amt)) := Lib.hid (by rw [← HKH.out]; exact keep_good HGK.out.1 (by omega) _)
          obtain ⟨G2, hG2⟩ : ∃ x, x = contributeT G xa amt := ⟨_, rfl⟩
          have HTO := Lib.hid (fun W (hW : HouseSt W bs b ga ca pm cm4 G2) => total_st hW (by rw [hG2]; exact HGN.out))
          obtain ⟨T2, hT2⟩ : ∃ x, x = wrap64 (moneyT G2) := ⟨_, rfl⟩
          have HT2 := Lib.hid hT2
          rw [← hT2] at HTO
          rw [← hG2] at HC HKH HGN
          have hTT : T2 = T := by rw [hT2, hG2, (HGK.out.2.contribute xa amt).2, HT.out]
          subst hTT
          clear hG2 hT2
          have hne : (T2 != T2) = false := by rw [bne_self_eq_false]
          go_wp2_with (first
            | (go_at_call 10; refine HC.out.mono ?_; rintro e w9 ⟨rfl, hl⟩; have HL := Lib.hid hl; have b9 := hl.2.box x _ _ B8.out (by decide) (by decide) (by decide); have z6 := b9.cell 6; clear hl b9)
            | (go_at_call 15; refine (HTO.out _ HL.out.1).mono ?_; rintro e w10 ⟨rfl, ha⟩; have A10 := Lib.hid ha; clear ha))
          refine ⟨⟨k + 1, T2, by omega, by omega, by go_num, rfl, Lib.hid ?_, Lib.hid ?_, Lib.hid ?_, Lib.hid ?_⟩, by simp [intOf]; omega⟩
          · rw [HNX.out, HKH.out]; exact HT2.out
          · rw [HNX.out, HKH.out]; exact HL.out.1.later A10.out
          · exact (HL.out.2.box q _ _ Q8.out (by decide) (by decide) (by decide)).later A10.out
          · exact (HL.out.2.adds w HBS.out A80.out).trans A10.out
        · have HKH : Hid (keepH G ⟨kind, xa, xb, mon, qty, price, amt⟩ = tradeT G xa xb mon (1 + sq) (1 + sp)) := Lib.hid (by unfold keepH; rw [HKD.out, HQU.out, HPR.out]; simp)
          have HC := Lib.hid (show Calls _ _ _ _ _ from trade_st H8.out HGK.out.1 (by omega) xa xb mon (1 + sq) (1 + sp))
          have HGN : Hid (Good (k + 1) (tradeT G xa xb mon (1 + sq) (1 + sp))) := Lib.hid (by rw [← HKH.out]; exact keep_good HGK.out.1 (by omega) _)
          obtain ⟨G2, hG2⟩ : ∃ x, x = tradeT G xa xb mon (1 + sq) (1 + sp) := ⟨_, rfl⟩
          have HTO := Lib.hid (fun W (hW : HouseSt W bs b ga ca pm cm4 G2) => total_st hW (by rw [hG2]; exact HGN.out))
          obtain ⟨T2, hT2⟩ : ∃ x, x = wrap64 (moneyT G2) := ⟨_, rfl⟩
          have HT2 := Lib.hid hT2
          rw [← hT2] at HTO
          rw [← hG2] at HC HKH HGN
          have hTT : T2 = T := by rw [hT2, hG2, (HGK.out.2.trade HGK.out.1.t HGK.out.1.mo1 xa xb mon (1 + sq) (1 + sp)).2, HT.out]
          subst hTT
          clear hG2 hT2
          have hne : (T2 != T2) = false := by rw [bne_self_eq_false]
          go_wp2_with (first
            | (go_at_call 11; refine HC.out.mono ?_; rintro e w9 ⟨rfl, hl⟩; have HL := Lib.hid hl; have b9 := hl.2.box x _ _ B8.out (by decide) (by decide) (by decide); have z6 := b9.cell 6; clear hl b9)
            | (go_at_call 15; refine (HTO.out _ HL.out.1).mono ?_; rintro e w10 ⟨rfl, ha⟩; have A10 := Lib.hid ha; clear ha))
          refine ⟨⟨k + 1, T2, by omega, by omega, by go_num, rfl, Lib.hid ?_, Lib.hid ?_, Lib.hid ?_, Lib.hid ?_⟩, by simp [intOf]; omega⟩
          · rw [HNX.out, HKH.out]; exact HT2.out
          · rw [HNX.out, HKH.out]; exact HL.out.1.later A10.out
          · exact (HL.out.2.box q _ _ Q8.out (by decide) (by decide) (by decide)).later A10.out
          · exact (HL.out.2.adds w HBS.out A80.out).trans A10.out
        · have HKH : Hid (keepH G ⟨kind, xa, xb, mon, qty, price, amt⟩ = tradeT G xa xb mon (1 + sq) (1 + sp)) := Lib.hid (by unfold keepH; rw [HKD.out, HQU.out, HPR.out]; simp)
          have HC := Lib.hid (show Calls _ _ _ _ _ from trade_st H8.out HGK.out.1 (by omega) xa xb mon (1 + sq) (1 + sp))
          have HGN : Hid (Good (k + 1) (tradeT G xa xb mon (1 + sq) (1 + sp))) := Lib.hid (by rw [← HKH.out]; exact keep_good HGK.out.1 (by omega) _)
          obtain ⟨G2, hG2⟩ : ∃ x, x = tradeT G xa xb mon (1 + sq) (1 + sp) := ⟨_, rfl⟩
          have HTO := Lib.hid (fun W (hW : HouseSt W bs b ga ca pm cm4 G2) => total_st hW (by rw [hG2]; exact HGN.out))
          obtain ⟨T2, hT2⟩ : ∃ x, x = wrap64 (moneyT G2) := ⟨_, rfl⟩
          have HT2 := Lib.hid hT2
          rw [← hT2] at HTO
          rw [← hG2] at HC HKH HGN
          have hTT : T2 = T := by rw [hT2, hG2, (HGK.out.2.trade HGK.out.1.t HGK.out.1.mo1 xa xb mon (1 + sq) (1 + sp)).2, HT.out]
          subst hTT
          clear hG2 hT2
          have hne : (T2 != T2) = false := by rw [bne_self_eq_false]
          go_wp2_with (first
            | (go_at_call 11; refine HC.out.mono ?_; rintro e w9 ⟨rfl, hl⟩; have HL := Lib.hid hl; have b9 := hl.2.box x _ _ B8.out (by decide) (by decide) (by decide); have z6 := b9.cell 6; clear hl b9)
            | (go_at_call 15; refine (HTO.out _ HL.out.1).mono ?_; rintro e w10 ⟨rfl, ha⟩; have A10 := Lib.hid ha; clear ha))
          refine ⟨⟨k + 1, T2, by omega, by omega, by go_num, rfl, Lib.hid ?_, Lib.hid ?_, Lib.hid ?_, Lib.hid ?_⟩, by simp [intOf]; omega⟩
          · rw [HNX.out, HKH.out]; exact HT2.out
          · rw [HNX.out, HKH.out]; exact HL.out.1.later A10.out
          · exact (HL.out.2.box q _ _ Q8.out (by decide) (by decide) (by decide)).later A10.out
          · exact (HL.out.2.adds w HBS.out A80.out).trans A10.out
        · have HKH : Hid (keepH G ⟨kind, xa, xb, mon, qty, price, amt⟩ = tradeT G xa xb mon (1 + sq) (1 + sp)) := Lib.hid (by unfold keepH; rw [HKD.out, HQU.out, HPR.out]; simp)
          have HC := Lib.hid (show Calls _ _ _ _ _ from trade_st H8.out HGK.out.1 (by omega) xa xb mon (1 + sq) (1 + sp))
          have HGN : Hid (Good (k + 1) (tradeT G xa xb mon (1 + sq) (1 + sp))) := Lib.hid (by rw [← HKH.out]; exact keep_good HGK.out.1 (by omega) _)
          obtain ⟨G2, hG2⟩ : ∃ x, x = tradeT G xa xb mon (1 + sq) (1 + sp) := ⟨_, rfl⟩
          have HTO := Lib.hid (fun W (hW : HouseSt W bs b ga ca pm cm4 G2) => total_st hW (by rw [hG2]; exact HGN.out))
          obtain ⟨T2, hT2⟩ : ∃ x, x = wrap64 (moneyT G2) := ⟨_, rfl⟩
          have HT2 := Lib.hid hT2
          rw [← hT2] at HTO
          rw [← hG2] at HC HKH HGN
          have hTT : T2 = T := by rw [hT2, hG2, (HGK.out.2.trade HGK.out.1.t HGK.out.1.mo1 xa xb mon (1 + sq) (1 + sp)).2, HT.out]
          subst hTT
          clear hG2 hT2
          have hne : (T2 != T2) = false := by rw [bne_self_eq_false]
          go_wp2_with (first
            | (go_at_call 11; refine HC.out.mono ?_; rintro e w9 ⟨rfl, hl⟩; have HL := Lib.hid hl; have b9 := hl.2.box x _ _ B8.out (by decide) (by decide) (by decide); have z6 := b9.cell 6; clear hl b9)
            | (go_at_call 15; refine (HTO.out _ HL.out.1).mono ?_; rintro e w10 ⟨rfl, ha⟩; have A10 := Lib.hid ha; clear ha))
          refine ⟨⟨k + 1, T2, by omega, by omega, by go_num, rfl, Lib.hid ?_, Lib.hid ?_, Lib.hid ?_, Lib.hid ?_⟩, by simp [intOf]; omega⟩
          · rw [HNX.out, HKH.out]; exact HT2.out
          · rw [HNX.out, HKH.out]; exact HL.out.1.later A10.out
          · exact (HL.out.2.box q _ _ Q8.out (by decide) (by decide) (by decide)).later A10.out
          · exact (HL.out.2.adds w HBS.out A80.out).trans A10.out
        · have HKH : Hid (keepH G ⟨kind, xa, xb, mon, qty, price, amt⟩ = tradeT G xa xb mon (1 + sq) (1 + sp)) := Lib.hid (by unfold keepH; rw [HKD.out, HQU.out, HPR.out]; simp)
          have HC := Lib.hid (show Calls _ _ _ _ _ from trade_st H8.out HGK.out.1 (by omega) xa xb mon (1 + sq) (1 + sp))
          have HGN : Hid (Good (k + 1) (tradeT G xa xb mon (1 + sq) (1 + sp))) := Lib.hid (by rw [← HKH.out]; exact keep_good HGK.out.1 (by omega) _)
          obtain ⟨G2, hG2⟩ : ∃ x, x = tradeT G xa xb mon (1 + sq) (1 + sp) := ⟨_, rfl⟩
          have HTO := Lib.hid (fun W (hW : HouseSt W bs b ga ca pm cm4 G2) => total_st hW (by rw [hG2]; exact HGN.out))
          obtain ⟨T2, hT2⟩ : ∃ x, x = wrap64 (moneyT G2) := ⟨_, rfl⟩
          have HT2 := Lib.hid hT2
          rw [← hT2] at HTO
          rw [← hG2] at HC HKH HGN
          have hTT : T2 = T := by rw [hT2, hG2, (HGK.out.2.trade HGK.out.1.t HGK.out.1.mo1 xa xb mon (1 + sq) (1 + sp)).2, HT.out]
          subst hTT
          clear hG2 hT2
          have hne : (T2 != T2) = false := by rw [bne_self_eq_false]
          go_wp2_with (first
            | (go_at_call 11; refine HC.out.mono ?_; rintro e w9 ⟨rfl, hl⟩; have HL := Lib.hid hl; have b9 := hl.2.box x _ _ B8.out (by decide) (by decide) (by decide); have z6 := b9.cell 6; clear hl b9)
            | (go_at_call 15; refine (HTO.out _ HL.out.1).mono ?_; rintro e w10 ⟨rfl, ha⟩; have A10 := Lib.hid ha; clear ha))
          refine ⟨⟨k + 1, T2, by omega, by omega, by go_num, rfl, Lib.hid ?_, Lib.hid ?_, Lib.hid ?_, Lib.hid ?_⟩, by simp [intOf]; omega⟩
          · rw [HNX.out, HKH.out]; exact HT2.out
          · rw [HNX.out, HKH.out]; exact HL.out.1.later A10.out
          · exact (HL.out.2.box q _ _ Q8.out (by decide) (by decide) (by decide)).later A10.out
          · exact (HL.out.2.adds w HBS.out A80.out).trans A10.out
        · have HKH : Hid (keepH G ⟨kind, xa, xb, mon, qty, price, amt⟩ = deliverT G xa xb mon (1 + sq)) := Lib.hid (by unfold keepH; rw [HKD.out, HQU.out]; simp)
          have HC := Lib.hid (deliver_st H8.out (HGK.out.1.t.sound (by omega)) HGK.out.1.mo1 xa xb mon (1 + sq))
          have HGN : Hid (Good (k + 1) (deliverT G xa xb mon (1 + sq))) := Lib.hid (by rw [← HKH.out]; exact keep_good HGK.out.1 (by omega) _)
          obtain ⟨G2, hG2⟩ : ∃ x, x = deliverT G xa xb mon (1 + sq) := ⟨_, rfl⟩
          have HTO := Lib.hid (fun W (hW : HouseSt W bs b ga ca pm cm4 G2) => total_st hW (by rw [hG2]; exact HGN.out))
          obtain ⟨T2, hT2⟩ : ∃ x, x = wrap64 (moneyT G2) := ⟨_, rfl⟩
          have HT2 := Lib.hid hT2
          rw [← hT2] at HTO
          rw [← hG2] at HC HKH HGN
          have hTT : T2 = T := by rw [hT2, hG2, (HGK.out.2.deliver HGK.out.1.t HGK.out.1.mo1 xa xb mon (1 + sq)).2, HT.out]
          subst hTT
          clear hG2 hT2
          have hne : (T2 != T2) = false := by rw [bne_self_eq_false]
          go_wp2_with (first
            | (go_at_call 12; refine HC.out.mono ?_; rintro e w9 ⟨rfl, hl⟩; have HL := Lib.hid hl; have b9 := hl.2.box x _ _ B8.out (by decide) (by decide) (by decide); have z6 := b9.cell 6; clear hl b9)
            | (go_at_call 15; refine (HTO.out _ HL.out.1).mono ?_; rintro e w10 ⟨rfl, ha⟩; have A10 := Lib.hid ha; clear ha))
          refine ⟨⟨k + 1, T2, by omega, by omega, by go_num, rfl, Lib.hid ?_, Lib.hid ?_, Lib.hid ?_, Lib.hid ?_⟩, by simp [intOf]; omega⟩
          · rw [HNX.out, HKH.out]; exact HT2.out
          · rw [HNX.out, HKH.out]; exact HL.out.1.later A10.out
          · exact (HL.out.2.box q _ _ Q8.out (by decide) (by decide) (by decide)).later A10.out
          · exact (HL.out.2.adds w HBS.out A80.out).trans A10.out
        · have HKH : Hid (keepH G ⟨kind, xa, xb, mon, qty, price, amt⟩ = markR G mon (1 + sp)) := Lib.hid (by unfold keepH; rw [HKD.out, HPR.out]; simp)
          have HC := Lib.hid (mark_st H8.out HGK.out.1 (by omega) mon (1 + sp))
          have HGN : Hid (Good (k + 1) (markR G mon (1 + sp))) := Lib.hid (by rw [← HKH.out]; exact keep_good HGK.out.1 (by omega) _)
          obtain ⟨G2, hG2⟩ : ∃ x, x = markR G mon (1 + sp) := ⟨_, rfl⟩
          have HTO := Lib.hid (fun W (hW : HouseSt W bs b ga ca pm cm4 G2) => total_st hW (by rw [hG2]; exact HGN.out))
          obtain ⟨T2, hT2⟩ : ∃ x, x = wrap64 (moneyT G2) := ⟨_, rfl⟩
          have HT2 := Lib.hid hT2
          rw [← hT2] at HTO
          rw [← hG2] at HC HKH HGN
          have hTT : T2 = T := by rw [hT2, hG2, (HGK.out.2.mark mon (1 + sp)).2, HT.out]
          subst hTT
          clear hG2 hT2
          have hne : (T2 != T2) = false := by rw [bne_self_eq_false]
          go_wp2_with (first
            | (go_at_call 13; refine HC.out.mono ?_; rintro e w9 ⟨qm, dm9, rfl, _, hl⟩; have HL := Lib.hid hl; have b9 := hl.2.box x _ _ B8.out (by decide) (by decide) (by decide); have z6 := b9.cell 6; clear hl b9)
            | (go_at_call 15; refine (HTO.out _ HL.out.1).mono ?_; rintro e w10 ⟨rfl, ha⟩; have A10 := Lib.hid ha; clear ha))
          refine ⟨⟨k + 1, T2, by omega, by omega, by go_num, rfl, Lib.hid ?_, Lib.hid ?_, Lib.hid ?_, Lib.hid ?_⟩, by simp [intOf]; omega⟩
          · rw [HNX.out, HKH.out]; exact HT2.out
          · rw [HNX.out, HKH.out]; exact HL.out.1.later A10.out
          · exact (HL.out.2.box q _ _ Q8.out (by decide) (by decide) (by decide)).later A10.out
          · exact (HL.out.2.adds w HBS.out A80.out).trans A10.out
        · have HKH : Hid (keepH G ⟨kind, xa, xb, mon, qty, price, amt⟩ = markR G mon (1 + sp)) := Lib.hid (by unfold keepH; rw [HKD.out, HPR.out]; simp)
          have HC := Lib.hid (mark_st H8.out HGK.out.1 (by omega) mon (1 + sp))
          have HGN : Hid (Good (k + 1) (markR G mon (1 + sp))) := Lib.hid (by rw [← HKH.out]; exact keep_good HGK.out.1 (by omega) _)
          obtain ⟨G2, hG2⟩ : ∃ x, x = markR G mon (1 + sp) := ⟨_, rfl⟩
          have HTO := Lib.hid (fun W (hW : HouseSt W bs b ga ca pm cm4 G2) => total_st hW (by rw [hG2]; exact HGN.out))
          obtain ⟨T2, hT2⟩ : ∃ x, x = wrap64 (moneyT G2) := ⟨_, rfl⟩
          have HT2 := Lib.hid hT2
          rw [← hT2] at HTO
          rw [← hG2] at HC HKH HGN
          have hTT : T2 = T := by rw [hT2, hG2, (HGK.out.2.mark mon (1 + sp)).2, HT.out]
          subst hTT
          clear hG2 hT2
          have hne : (T2 != T2) = false := by rw [bne_self_eq_false]
          go_wp2_with (first
            | (go_at_call 13; refine HC.out.mono ?_; rintro e w9 ⟨qm, dm9, rfl, _, hl⟩; have HL := Lib.hid hl; have b9 := hl.2.box x _ _ B8.out (by decide) (by decide) (by decide); have z6 := b9.cell 6; clear hl b9)
            | (go_at_call 15; refine (HTO.out _ HL.out.1).mono ?_; rintro e w10 ⟨rfl, ha⟩; have A10 := Lib.hid ha; clear ha))
          refine ⟨⟨k + 1, T2, by omega, by omega, by go_num, rfl, Lib.hid ?_, Lib.hid ?_, Lib.hid ?_, Lib.hid ?_⟩, by simp [intOf]; omega⟩
          · rw [HNX.out, HKH.out]; exact HT2.out
          · rw [HNX.out, HKH.out]; exact HL.out.1.later A10.out
          · exact (HL.out.2.box q _ _ Q8.out (by decide) (by decide) (by decide)).later A10.out
          · exact (HL.out.2.adds w HBS.out A80.out).trans A10.out
        · have HKH : Hid (keepH G ⟨kind, xa, xb, mon, qty, price, amt⟩ = defaultT G xa) := Lib.hid (by unfold keepH; rw [HKD.out]; simp)
          have HC := Lib.hid (default_st H8.out HGK.out.1 (by omega) xa)
          have HGN : Hid (Good (k + 1) (defaultT G xa)) := Lib.hid (by rw [← HKH.out]; exact keep_good HGK.out.1 (by omega) _)
          obtain ⟨G2, hG2⟩ : ∃ x, x = defaultT G xa := ⟨_, rfl⟩
          have HTO := Lib.hid (fun W (hW : HouseSt W bs b ga ca pm cm4 G2) => total_st hW (by rw [hG2]; exact HGN.out))
          obtain ⟨T2, hT2⟩ : ∃ x, x = wrap64 (moneyT G2) := ⟨_, rfl⟩
          have HT2 := Lib.hid hT2
          rw [← hT2] at HTO
          rw [← hG2] at HC HKH HGN
          have hTT : T2 = T := by rw [hT2, hG2, (HGK.out.2.default HGK.out.1 (by omega) xa).2, HT.out]
          subst hTT
          clear hG2 hT2
          have hne : (T2 != T2) = false := by rw [bne_self_eq_false]
          go_wp2_with (first
            | (go_at_call 14; refine HC.out.mono ?_; rintro e w9 ⟨rfl, hl⟩; have HL := Lib.hid hl; have b9 := hl.2.box x _ _ B8.out (by decide) (by decide) (by decide); have z6 := b9.cell 6; clear hl b9)
            | (go_at_call 15; refine (HTO.out _ HL.out.1).mono ?_; rintro e w10 ⟨rfl, ha⟩; have A10 := Lib.hid ha; clear ha))
          refine ⟨⟨k + 1, T2, by omega, by omega, by go_num, rfl, Lib.hid ?_, Lib.hid ?_, Lib.hid ?_, Lib.hid ?_⟩, by simp [intOf]; omega⟩
          · rw [HNX.out, HKH.out]; exact HT2.out
          · rw [HNX.out, HKH.out]; exact HL.out.1.later A10.out
          · exact (HL.out.2.box q _ _ Q8.out (by decide) (by decide) (by decide)).later A10.out
          · exact (HL.out.2.adds w HBS.out A80.out).trans A10.out
      · have hd5 : decide ((k : Int) < 50) = false := decide_eq_false (by omega)
        have HRS := Lib.hid (keepS_rest HG0.out HK0.out.1 al k hk50 (by have := HNA.out; omega))
        obtain ⟨G, hG⟩ : ∃ x, x = keepS H0 al k := ⟨_, rfl⟩
        rw [← hG] at RH HGK HRS
        have HGM : Hid (G.months = mo ∧ (G.ac.length : Int) = dm ∧ 1 ≤ mo ∧ mo ≤ 3) := Lib.hid (by
          have h1 := HRS.out
          have h2 := HH0M.out
          have h3 := HMO.out
          exact ⟨h1.1.trans h2.1, by rw [h1.2]; exact h2.2, h3.1, h3.2⟩)
        obtain ⟨n, hn⟩ : ∃ n, n = G.ac.length := ⟨_, rfl⟩
        have hdn : dm = (n : Int) := by rw [hn]; exact HGM.out.2.1.symm
        subst hdn
        have HN := Lib.hid hn
        clear hG HRS HT hn
        go_upto_region 36 with fail
        go_loopw [11] (fun v11 wr => ∃ m : Nat, m ≤ mo ∧ v11 = .int .i64 m ∧ Hid (HouseSt wr bs b ga ca pm cm4 G) ∧ Hid (Box wr q #[.int .i64 (n : Int), .int .i64 (mo : Int), .slice p1 np q1, .slice p2 nv q2, .int .i64 dr, .int .i64 dc] 25) ∧ Hid (Adds w wr)) (fun v11 _ => mo - (intOf v11).toNat)
        case atStart => exact ⟨0, by omega, rfl, RH, RQ, RA⟩
        case round =>
          obtain ⟨m, hm, rfl, SH, SQ, SA⟩ := hrel
          have hmo3 : mo ≤ 3 := HGM.out.2.2.2
          clear RH RQ RA
          have z1 := SQ.out.cell 1
          by_cases hmm : m < mo
          · have hmm2 : (m : Int) < (mo : Int) := by omega
            have hm0 : (0 : Int) ≤ (m : Int) := by omega
            go_upto_region 40 with fail
            go_loopw [13, 12] (fun v13 v12 wr => ∃ (j : Nat) (S : Int), j ≤ n ∧ v13 = .int .i64 ((j : Int) + 1) ∧ v12 = .int .i64 S ∧ Hid (S = wrap64 (sumG (valP m) (G.ac.take j))) ∧ Hid (HouseSt wr bs b ga ca pm cm4 G) ∧ Hid (Box wr q #[.int .i64 (n : Int), .int .i64 (mo : Int), .slice p1 np q1, .slice p2 nv q2, .int .i64 dr, .int .i64 dc] 25) ∧ Hid (Adds w wr)) (fun v13 _ _ => n + 1 - (intOf v13).toNat)
            case atStart => exact ⟨0, 0, by omega, rfl, rfl, Lib.hid (by simp [sumG, wrap64]), SH, SQ, SA⟩
            case round =>
              obtain ⟨j, S, hj, rfl, rfl, HS, TH, TQ, TA⟩ := hrel
              clear SH SQ SA z1
              have z0 := TQ.out.cell 0
              have hn5 : (n : Int) ≤ 5 := HME.out.2
              by_cases hjn : j < n
              · have hj1 : (j : Int) + 1 ≤ (n : Int) := by omega
                obtain ⟨a, ha⟩ : ∃ a, G.ac[j]? = some a := ⟨_, List.getElem?_eq_getElem (by have := HN.out; omega)⟩
                have HAX := Lib.hid ha
                have hal := HGK.out.1.t.len a (List.mem_of_getElem? ha)
                have hfu := HGK.out.2.fund0 a (List.mem_of_getElem? ha)
                have HACC : Hid (Calls Try.prog 16 #[.pointer (some ⟨b, 0, none⟩), .int .i64 ((j : Int) + 1)] wr fun r w' => ∃ u d, r = .returned (.tuple #[.agg #[.int .i64 a.cash, .int .i64 a.fund, .slice u mo d, .bool a.out], .int .i64 0]) ∧ w'.ownsRow wr.heap.size 2 1 (.slice u mo d) mo ((a.pos.take mo).map (Value.int .i64)) ∧ Adds wr w') := Lib.hid (by
                  have := account_st TH.out HGK.out.1 (by omega) ha
                  rw [HGM.out.1] at this
                  exact this)
                have HVP : Hid (((a.pos.take mo).map (Value.int .i64))[m]? = some (.int .i64 (valP m a))) := Lib.hid (by
                  have h3 := HGM.out.2.2.2
                  rw [List.getElem?_map, List.getElem?_take, if_pos hmm]
                  have : a.pos[m]? = some (valP m a) := by
                    show a.pos[m]? = some (a.pos.getD m 0)
                    rw [List.getD_eq_getElem?_getD, List.getElem?_eq_getElem (by omega)]
                    rfl
                  rw [this]
                  rfl)
                have HSN : Hid (sumG (valP m) (G.ac.take (j + 1)) = sumG (valP m) (G.ac.take j) + valP m a) := Lib.hid (sumG_next ha)
                obtain ⟨xc, hxc⟩ : ∃ x, x = a.cash := ⟨_, rfl⟩
                obtain ⟨xf, hxf⟩ : ∃ x, x = a.fund := ⟨_, rfl⟩
                obtain ⟨xo, hxo⟩ : ∃ x, x = a.out := ⟨_, rfl⟩
                obtain ⟨xv, hxv⟩ : ∃ x, x = valP m a := ⟨_, rfl⟩
                rw [← hxc, ← hxf, ← hxo] at HACC
                rw [← hxf] at hfu
                rw [← hxv] at HVP HSN
                have hfd : decide (xf < 0) = false := decide_eq_false (by omega)
                have hmob := HGM.out.2.2
                have hmo1 : (mo == mo) = true := beq_self_eq_true mo
                clear hxc hxf hxo hxv ha hal
                go_upto_region 43 with (go_at_call 16; refine HACC.out.mono ?_; rintro e w5 ⟨u, d, rfl, ho, hA5⟩; have O5 := Lib.hid ho; have A5 := Lib.hid hA5; clear ho hA5)
                obtain ⟨g5, d5, eu, _⟩ := own_some O5.out (by omega)
                injection eu with eu1 eu2 eu3
                subst eu1 eu3
                have y6 : Box (w5.alloc (.cells #[.int .i64 xc, .int .i64 xf, .slice (some ⟨g5, 0, none⟩) mo d, .bool xo] 53)) w5.heap.size #[.int .i64 xc, .int .i64 xf, .slice (some ⟨g5, 0, none⟩) mo d, .bool xo] 53 := Box.new _ _ _
                have a6 : Adds wr (w5.alloc (.cells #[.int .i64 xc, .int .i64 xf, .slice (some ⟨g5, 0, none⟩) mo d, .bool xo] 53)) := A5.out.alloc _
                have o6 := own_cell (own_allocd O5.out (.cells #[.int .i64 xc, .int .i64 xf, .slice (some ⟨g5, 0, none⟩) mo d, .bool xo] 53)) HVP.out
                obtain ⟨y, hy⟩ : ∃ y, y = w5.heap.size := ⟨_, rfl⟩
                rw [← hy] at y6 ⊢
                obtain ⟨W6, hW6⟩ : ∃ V, V = w5.alloc (.cells #[.int .i64 xc, .int .i64 xf, .slice (some ⟨g5, 0, none⟩) mo d, .bool xo] 53) := ⟨_, rfl⟩
                rw [← hW6] at y6 a6 o6 ⊢
                have y61 := y6.cell 1
                have y62 := y6.cell 2
                have o60 := o6.1
                have H6 := Lib.hid (TH.out.later a6)
                have Q6 := Lib.hid (TQ.out.later a6)
                have A6 := Lib.hid (TA.out.trans a6)
                have z1 := Q6.out.cell 1
                have hmn : ((mo : Int) != (mo : Int)) = false := by rw [bne_self_eq_false]
                obtain ⟨S2, hS2⟩ : ∃ x, x = wrap64 (S + xv) := ⟨_, rfl⟩
                have hadd : wrap64 (S + xv) = S2 := hS2.symm
                have hadd2 : IntKind.i64.wrap (S + xv) = S2 := by rw [hS2, IntKind.wrap_i64]; unfold wrap64; omega
                have HS2 : Hid (S2 = wrap64 (sumG (valP m) (G.ac.take (j + 1)))) := Lib.hid (by rw [hS2, HSN.out, HS.out]; unfold wrap64; omega)
                clear hW6 hy y6 a6 o6 TH TQ TA O5 A5 HACC HS hS2 z0
                go_wp2
                first
                  | exact ⟨⟨j + 1, S2, by omega, by go_num, rfl, HS2, H6, Q6, A6⟩, by simp [intOf]; omega⟩
                  | exact ⟨⟨_, _, _, ⟨j + 1, by omega, by go_num, S2, rfl, HS2⟩, rfl, rfl, rfl⟩, by simp [intOf]; omega⟩
              · have hjj : n = j := by omega
                subst hjj
                have hS0 : S = 0 := by
                  rw [HS.out, HN.out, List.take_length, HGK.out.2.sum0 m]
                  simp [wrap64]
                subst hS0
                have hdj : decide ((n : Int) + 1 ≤ (n : Int)) = false := decide_eq_false (by omega)
                go_wp2
                exact ⟨⟨m + 1, by omega, by go_num, TH, TQ, TA⟩, by simp [intOf]; omega⟩
          · have hmo2 : mo = m := by omega
            subst hmo2
            have hdm : decide ((mo : Int) < (mo : Int)) = false := decide_eq_false (by omega)
            have HWK := Lib.hid (awake_any wr)
            go_wp2_with (go_at_call 17; refine HWK.out.mono ?_; rintro e w9 ⟨rfl, ha⟩; have A9 := Lib.hid ha; clear ha)
            go_ret
            exact ⟨rfl, SA.out.trans A9.out⟩
    · have hkn : na = k := by omega
      have hdk : decide ((k : Int) < (na : Int)) = false := decide_eq_false (by omega)
      have HRS := Lib.hid (keepS_rest HG0.out HK0.out.1 al k hk50 (by have := HNA.out; omega))
      obtain ⟨G, hG⟩ : ∃ x, x = keepS H0 al k := ⟨_, rfl⟩
      rw [← hG] at RH HGK HRS
      have HGM : Hid (G.months = mo ∧ (G.ac.length : Int) = dm ∧ 1 ≤ mo ∧ mo ≤ 3) := Lib.hid (by
        have h1 := HRS.out
        have h2 := HH0M.out
        have h3 := HMO.out
        exact ⟨h1.1.trans h2.1, by rw [h1.2]; exact h2.2, h3.1, h3.2⟩)
      obtain ⟨n, hn⟩ : ∃ n, n = G.ac.length := ⟨_, rfl⟩
      have hdn : dm = (n : Int) := by rw [hn]; exact HGM.out.2.1.symm
      subst hdn
      have HN := Lib.hid hn
      clear hG HRS HT hn
      go_upto_region 36 with fail
      go_loopw [11] (fun v11 wr => ∃ m : Nat, m ≤ mo ∧ v11 = .int .i64 m ∧ Hid (HouseSt wr bs b ga ca pm cm4 G) ∧ Hid (Box wr q #[.int .i64 (n : Int), .int .i64 (mo : Int), .slice p1 np q1, .slice p2 nv q2, .int .i64 dr, .int .i64 dc] 25) ∧ Hid (Adds w wr)) (fun v11 _ => mo - (intOf v11).toNat)
      case atStart => exact ⟨0, by omega, rfl, RH, RQ, RA⟩
      case round =>
        obtain ⟨m, hm, rfl, SH, SQ, SA⟩ := hrel
        have hmo3 : mo ≤ 3 := HGM.out.2.2.2
        clear RH RQ RA
        have z1 := SQ.out.cell 1
        by_cases hmm : m < mo
        · have hmm2 : (m : Int) < (mo : Int) := by omega
          have hm0 : (0 : Int) ≤ (m : Int) := by omega
          go_upto_region 40 with fail
          go_loopw [13, 12] (fun v13 v12 wr => ∃ (j : Nat) (S : Int), j ≤ n ∧ v13 = .int .i64 ((j : Int) + 1) ∧ v12 = .int .i64 S ∧ Hid (S = wrap64 (sumG (valP m) (G.ac.take j))) ∧ Hid (HouseSt wr bs b ga ca pm cm4 G) ∧ Hid (Box wr q #[.int .i64 (n : Int), .int .i64 (mo : Int), .slice p1 np q1, .slice p2 nv q2, .int .i64 dr, .int .i64 dc] 25) ∧ Hid (Adds w wr)) (fun v13 _ _ => n + 1 - (intOf v13).toNat)
          case atStart => exact ⟨0, 0, by omega, rfl, rfl, Lib.hid (by simp [sumG, wrap64]), SH, SQ, SA⟩
          case round =>
            obtain ⟨j, S, hj, rfl, rfl, HS, TH, TQ, TA⟩ := hrel
            clear SH SQ SA z1
            have z0 := TQ.out.cell 0
            have hn5 : (n : Int) ≤ 5 := HME.out.2
            by_cases hjn : j < n
            · have hj1 : (j : Int) + 1 ≤ (n : Int) := by omega
              obtain ⟨a, ha⟩ : ∃ a, G.ac[j]? = some a := ⟨_, List.getElem?_eq_getElem (by have := HN.out; omega)⟩
              have HAX := Lib.hid ha
              have hal := HGK.out.1.t.len a (List.mem_of_getElem? ha)
              have hfu := HGK.out.2.fund0 a (List.mem_of_getElem? ha)
              have HACC : Hid (Calls Try.prog 16 #[.pointer (some ⟨b, 0, none⟩), .int .i64 ((j : Int) + 1)] wr fun r w' => ∃ u d, r = .returned (.tuple #[.agg #[.int .i64 a.cash, .int .i64 a.fund, .slice u mo d, .bool a.out], .int .i64 0]) ∧ w'.ownsRow wr.heap.size 2 1 (.slice u mo d) mo ((a.pos.take mo).map (Value.int .i64)) ∧ Adds wr w') := Lib.hid (by
                have := account_st TH.out HGK.out.1 (by omega) ha
                rw [HGM.out.1] at this
                exact this)
              have HVP : Hid (((a.pos.take mo).map (Value.int .i64))[m]? = some (.int .i64 (valP m a))) := Lib.hid (by
                have h3 := HGM.out.2.2.2
                rw [List.getElem?_map, List.getElem?_take, if_pos hmm]
                have : a.pos[m]? = some (valP m a) := by
                  show a.pos[m]? = some (a.pos.getD m 0)
                  rw [List.getD_eq_getElem?_getD, List.getElem?_eq_getElem (by omega)]
                  rfl
                rw [this]
                rfl)
              have HSN : Hid (sumG (valP m) (G.ac.take (j + 1)) = sumG (valP m) (G.ac.take j) + valP m a) := Lib.hid (sumG_next ha)
              obtain ⟨xc, hxc⟩ : ∃ x, x = a.cash := ⟨_, rfl⟩
              obtain ⟨xf, hxf⟩ : ∃ x, x = a.fund := ⟨_, rfl⟩
              obtain ⟨xo, hxo⟩ : ∃ x, x = a.out := ⟨_, rfl⟩
              obtain ⟨xv, hxv⟩ : ∃ x, x = valP m a := ⟨_, rfl⟩
              rw [← hxc, ← hxf, ← hxo] at HACC
              rw [← hxf] at hfu
              rw [← hxv] at HVP HSN
              have hfd : decide (xf < 0) = false := decide_eq_false (by omega)
              have hmob := HGM.out.2.2
              have hmo1 : (mo == mo) = true := beq_self_eq_true mo
              clear hxc hxf hxo hxv ha hal
              go_upto_region 43 with (go_at_call 16; refine HACC.out.mono ?_; rintro e w5 ⟨u, d, rfl, ho, hA5⟩; have O5 := Lib.hid ho; have A5 := Lib.hid hA5; clear ho hA5)
              obtain ⟨g5, d5, eu, _⟩ := own_some O5.out (by omega)
              injection eu with eu1 eu2 eu3
              subst eu1 eu3
              have y6 : Box (w5.alloc (.cells #[.int .i64 xc, .int .i64 xf, .slice (some ⟨g5, 0, none⟩) mo d, .bool xo] 53)) w5.heap.size #[.int .i64 xc, .int .i64 xf, .slice (some ⟨g5, 0, none⟩) mo d, .bool xo] 53 := Box.new _ _ _
              have a6 : Adds wr (w5.alloc (.cells #[.int .i64 xc, .int .i64 xf, .slice (some ⟨g5, 0, none⟩) mo d, .bool xo] 53)) := A5.out.alloc _
              have o6 := own_cell (own_allocd O5.out (.cells #[.int .i64 xc, .int .i64 xf, .slice (some ⟨g5, 0, none⟩) mo d, .bool xo] 53)) HVP.out
              obtain ⟨y, hy⟩ : ∃ y, y = w5.heap.size := ⟨_, rfl⟩
              rw [← hy] at y6 ⊢
              obtain ⟨W6, hW6⟩ : ∃ V, V = w5.alloc (.cells #[.int .i64 xc, .int .i64 xf, .slice (some ⟨g5, 0, none⟩) mo d, .bool xo] 53) := ⟨_, rfl⟩
              rw [← hW6] at y6 a6 o6 ⊢
              have y61 := y6.cell 1
              have y62 := y6.cell 2
              have o60 := o6.1
              have H6 := Lib.hid (TH.out.later a6)
              have Q6 := Lib.hid (TQ.out.later a6)
              have A6 := Lib.hid (TA.out.trans a6)
              have z1 := Q6.out.cell 1
              have hmn : ((mo : Int) != (mo : Int)) = false := by rw [bne_self_eq_false]
              obtain ⟨S2, hS2⟩ : ∃ x, x = wrap64 (S + xv) := ⟨_, rfl⟩
              have hadd : wrap64 (S + xv) = S2 := hS2.symm
              have hadd2 : IntKind.i64.wrap (S + xv) = S2 := by rw [hS2, IntKind.wrap_i64]; unfold wrap64; omega
              have HS2 : Hid (S2 = wrap64 (sumG (valP m) (G.ac.take (j + 1)))) := Lib.hid (by rw [hS2, HSN.out, HS.out]; unfold wrap64; omega)
              clear hW6 hy y6 a6 o6 TH TQ TA O5 A5 HACC HS hS2 z0
              go_wp2
              first
                | exact ⟨⟨j + 1, S2, by omega, by go_num, rfl, HS2, H6, Q6, A6⟩, by simp [intOf]; omega⟩
                | exact ⟨⟨_, _, _, ⟨j + 1, by omega, by go_num, S2, rfl, HS2⟩, rfl, rfl, rfl⟩, by simp [intOf]; omega⟩
            · have hjj : n = j := by omega
              subst hjj
              have hS0 : S = 0 := by
                rw [HS.out, HN.out, List.take_length, HGK.out.2.sum0 m]
                simp [wrap64]
              subst hS0
              have hdj : decide ((n : Int) + 1 ≤ (n : Int)) = false := decide_eq_false (by omega)
              go_wp2
              exact ⟨⟨m + 1, by omega, by go_num, TH, TQ, TA⟩, by simp [intOf]; omega⟩
        · have hmo2 : mo = m := by omega
          subst hmo2
          have hdm : decide ((mo : Int) < (mo : Int)) = false := decide_eq_false (by omega)
          have HWK := Lib.hid (awake_any wr)
          go_wp2_with (go_at_call 17; refine HWK.out.mono ?_; rintro e w9 ⟨rfl, ha⟩; have A9 := Lib.hid ha; clear ha)
          go_ret
          exact ⟨rfl, SA.out.trans A9.out⟩

end Go.Proofs.Ytmkpidipoadnbaa
