/- Deliver. -/
import Derived.Test.YtmkpidipoadnbaaW20
namespace Go.Proofs.Ytmkpidipoadnbaa
open Go Go.RowKit Go.Sort

/-- What is wrong with a contract. -/
def contractE (h : Hs) (bu se mo q pr : Int) : Int :=
  match accOf h bu, accOf h se with
  | some a1, some a2 => if belowB mo h.months = true then (if bu = se ∨ inB q 1 1000000 = false ∨ inB pr 1 1000000 = false then 1 else if a1.out = true ∨ a2.out = true then 5 else 0) else 4
  | _, _ => 4
theorem accOf_in {h : Hs} {x : Int} {a : Ac} (e : accOf h x = some a) : inB x 1 h.ac.length = true := by
  unfold accOf at e
  split at e
  case isTrue hb => exact hb
  case isFalse => cases e

section
variable {w : World} {base b ga ca cm ck : Nat} {pm pk : Option Addr} {h : Hs}
theorem check_any (hh : HouseAt w base b ga ca pm cm pk ck h) (hn : h.ac.length ≤ 64) (bu se mo q pr : Int) : CheckTo (.pointer (some ⟨b, 0, none⟩)) bu se mo q pr w (contractE h bu se mo q pr) := by
  cases e1 : accOf h bu with
  | none =>
    have : contractE h bu se mo q pr = 4 := by unfold contractE; rw [e1]
    rw [this]
    exact check_1 hh bu se mo q pr (accOf_none e1)
  | some a1 =>
    have b1 := accOf_in e1
    cases e2 : accOf h se with
    | none =>
      have : contractE h bu se mo q pr = 4 := by unfold contractE; rw [e1, e2]
      rw [this]
      exact check_2 hh bu se mo q pr b1 (accOf_none e2)
    | some a2 =>
      have b2 := accOf_in e2
      cases b3 : belowB mo h.months with
      | false =>
        have : contractE h bu se mo q pr = 4 := by unfold contractE; rw [e1, e2, b3]; rfl
        rw [this]
        exact check_3 hh bu se mo q pr b1 b2 b3
      | true =>
        by_cases he : bu = se
        · have : contractE h bu se mo q pr = 1 := by unfold contractE; rw [e1, e2, b3]; simp [he]
          rw [this]
          exact check_4 hh bu se mo q pr b1 b2 b3 (by simpa using he)
        · have hne : (bu == se) = false := by simpa using he
          cases b4 : inB q 1 1000000 with
          | false =>
            have : contractE h bu se mo q pr = 1 := by unfold contractE; rw [e1, e2, b3]; simp [b4]
            rw [this]
            exact check_5 hh bu se mo q pr b1 b2 b3 hne b4
          | true =>
            cases b5 : inB pr 1 1000000 with
            | false =>
              have : contractE h bu se mo q pr = 1 := by unfold contractE; rw [e1, e2, b3]; simp [b5]
              rw [this]
              exact check_6 hh bu se mo q pr b1 b2 b3 hne b4 b5
            | true =>
              obtain ⟨x1, x2, _⟩ := accOf_some e1
              obtain ⟨y1, y2, _⟩ := accOf_some e2
              cases o1 : a1.out with
              | true =>
                have : contractE h bu se mo q pr = 5 := by unfold contractE; rw [e1, e2, b3]; simp [he, b4, b5, o1]
                rw [this]
                exact check_7 hh bu se mo q pr b1 b2 b3 hne b4 b5 hn (accI bu) (accI se) a1 a2 x1 y1 x2 y2 o1
              | false =>
                cases o2 : a2.out with
                | true =>
                  have : contractE h bu se mo q pr = 5 := by unfold contractE; rw [e1, e2, b3]; simp [he, b4, b5, o1, o2]
                  rw [this]
                  exact check_8 hh bu se mo q pr b1 b2 b3 hne b4 b5 hn (accI bu) (accI se) a1 a2 x1 y1 x2 y2 o1 o2
                | false =>
                  have : contractE h bu se mo q pr = 0 := by unfold contractE; rw [e1, e2, b3]; simp [he, b4, b5, o1, o2]
                  rw [this]
                  exact check_0 hh bu se mo q pr b1 b2 b3 hne b4 b5 hn (accI bu) (accI se) a1 a2 x1 y1 x2 y2 o1 o2
theorem check_ok {bu se mo q pr : Int} (e : contractE h bu se mo q pr = 0) : ∃ a1 a2, accOf h bu = some a1 ∧ accOf h se = some a2 ∧ a1.out = false ∧ a2.out = false ∧ bu ≠ se ∧ (0 ≤ mo ∧ mo < h.months) ∧ (1 ≤ q ∧ q ≤ 1000000) ∧ (1 ≤ pr ∧ pr ≤ 1000000) := by
  unfold contractE at e
  split at e
  · rename_i a1 a2 e1 e2
    refine ⟨a1, a2, e1, e2, ?_⟩
    split at e
    · rename_i hb
      split at e
      · omega
      · rename_i hx
        split at e
        · omega
        · rename_i ho
          unfold belowB at hb
          unfold inB at hx
          simp at hb hx ho
          refine ⟨ho.1, ho.2, hx.1, by omega, ?_, ?_⟩ <;> omega
    · omega
  · omega
end

end Go.Proofs.Ytmkpidipoadnbaa

namespace Go.Proofs.Ytmkpidipoadnbaa
open Go Go.RowKit Go.Sort

/-- An account after a booking. -/
def bookA (m : Nat) (q g : Int) (a : Ac) : Ac := { a with cash := a.cash + g, pos := a.pos.set m (a.pos.getD m 0 + q) }
theorem encA_set {a : Ac} {m : Nat} (hl : a.pos.length = 12) (hm : m < 12) (x : Int) : encA { a with pos := a.pos.set m x } = (encA a).set (2 + m) (.int .i64 x) := by
  unfold encA
  rw [show 2 + m = m + 1 + 1 by omega, List.set_cons_succ, List.set_cons_succ, encM_full hl, encM_full (by simp [hl]), List.set_append_left _ _ (by simp [hl, hm]), List.map_set]

section
variable {w : World} {base b ga ca cm ck : Nat} {pm pk : Option Addr} {h : Hs}
theorem book_at (hh : HouseAt w base b ga ca pm cm pk ck h) {i m : Nat} {a : Ac} (q g : Int) (hi : h.ac[i]? = some a) (hl : a.pos.length = 12) (hm : m < 12)
    (hp1 : -9223372036854775808 ≤ a.pos.getD m 0 + q) (hp2 : a.pos.getD m 0 + q ≤ 9223372036854775807) (hc1 : -9223372036854775808 ≤ a.cash + g) (hc2 : a.cash + g ≤ 9223372036854775807) :
    Calls Try.prog 25 #[.pointer (accP ga i), .int .i64 m, .int .i64 q, .int .i64 g] w fun e w' => e = .returned (.tuple #[]) ∧ HouseAt w' base b ga ca pm cm pk ck { h with ac := h.ac.set i (bookA m q g a) } ∧ Touch (fun k => k = ga) w w' := by
  have hil := (List.getElem?_eq_some_iff.1 hi).1
  have hpm : a.pos[m]? = some (a.pos.getD m 0) := by rw [List.getD_eq_getElem?_getD, List.getElem?_eq_getElem (by omega)]; rfl
  have hcell : w.cell? ⟨ga, i * 15 + 2 + m, none⟩ = some (.int .i64 (a.pos.getD m 0)) := by
    rw [Nat.add_assoc]
    refine hh.acc hi (2 + m) _ ?_
    rw [← List.getElem?_toArray]
    exact encA_pos hl m _ (by rw [List.getElem?_map, hpm]; rfl)
  have hfree : w.frozen? ⟨ga, i * 15 + 2 + m, none⟩ = false := by
    rw [Nat.add_assoc]
    exact (hh.there hi (2 + m) (by omega)).2
  refine (book_any ga (i * 15) m _ q a.cash g w hm hcell hfree (hh.acc hi 0 _ rfl) (hh.there hi 0 (by omega)).2 hp1 hp2 hc1 hc2).mono ?_
  rintro e w' ⟨rfl, rfl⟩
  refine ⟨rfl, ?_, ?_⟩
  · have k1 := hh.put (j := 2 + m) (a' := { a with pos := a.pos.set m (a.pos.getD m 0 + q) }) (u := .int .i64 (a.pos.getD m 0 + q)) hi (by omega) (encA_set hl hm _)
    rw [← Nat.add_assoc] at k1
    have k2 := k1.drew.put (i := i) (j := 0) (a := { a with pos := a.pos.set m (a.pos.getD m 0 + q) }) (a' := bookA m q g a) (u := .int .i64 (a.cash + g)) (by simp [hil]) (by omega) rfl
    simp only [List.set_set] at k2
    exact k2
  · exact Touch.set (O := fun k => k = ga) (p := ⟨ga, i * 15, none⟩) (Touch.behind (Touch.set (O := fun k => k = ga) (p := ⟨ga, i * 15 + 2 + m, none⟩) (Touch.refl _ w) rfl _) (Adds.refl _).drew) rfl _
end

end Go.Proofs.Ytmkpidipoadnbaa

namespace Go.Proofs.Ytmkpidipoadnbaa
open Go Go.RowKit Go.Sort

abbrev DeliverTo (v : Value) (x y m q : Int) (w : World) (Q : Ending → World → Prop) : Prop := Calls Try.prog 12 #[v, .int .i64 x, .int .i64 y, .int .i64 m, .int .i64 q] w Q

set_option maxRecDepth 100000 in
theorem deliver_bad (v : Value) (x y m q e : Int) (w : World) (he : e ≠ 0) (hf : CheckTo v x y m q 1 w e) : DeliverTo v x y m q w fun r w' => r = .returned (.int .i64 e) ∧ Adds w w' := by
  have HF := Lib.hid hf
  have hne : (e == 0) = false := by rw [beq_eq_false_iff_ne]; exact he
  clear hf
  unfold DeliverTo
  unfold CheckTo ktV at HF
  go_enter Try.func12, Try.ntmps12
  go_wp2_with (go_at_call 23; refine HF.out.mono ?_; rintro e w1 ⟨rfl, ha⟩; have HA := Lib.hid ha; clear ha)
  go_ret
  exact ⟨rfl, HA.out⟩

section
variable {w : World} {base b ga ca cm ck : Nat} {pm pk : Option Addr} {h : Hs}
theorem HouseAt.posc (hh : HouseAt w base b ga ca pm cm pk ck h) {i m : Nat} {a : Ac} (hi : h.ac[i]? = some a) (hl : a.pos.length = 12) (hm : m < 12) : w.cell? ⟨ga, i * 15 + 2 + m, none⟩ = some (.int .i64 (a.pos.getD m 0)) := by
  have hpm : a.pos[m]? = some (a.pos.getD m 0) := by rw [List.getD_eq_getElem?_getD, List.getElem?_eq_getElem (by omega)]; rfl
  rw [Nat.add_assoc]
  refine hh.acc hi (2 + m) _ ?_
  rw [← List.getElem?_toArray]
  exact encA_pos hl m _ (by rw [List.getElem?_map, hpm]; rfl)
theorem posb {a : Ac} (s : CalmA a) (m : Nat) : -1152921504606846976 ≤ a.pos.getD m 0 ∧ a.pos.getD m 0 ≤ 1152921504606846976 := by
  rw [List.getD_eq_getElem?_getD]
  cases e : a.pos[m]? with
  | none => exact ⟨by decide, by decide⟩
  | some x => exact s.few x (List.mem_of_getElem? e)
set_option maxRecDepth 100000 in
set_option maxHeartbeats 2000000 in
theorem deliver_1 (hh : HouseAt w base b ga ca pm cm pk ck h) (hn : h.ac.length ≤ 64) {i j m : Nat} {a1 a2 : Ac} (q : Int) (hf : CheckTo (.pointer (some ⟨b, 0, none⟩)) ((i : Int) + 1) ((j : Int) + 1) m q 1 w 0) (hq : 1 ≤ q ∧ q ≤ 1000000) (g1 : h.ac[i]? = some a1) (g2 : h.ac[j]? = some a2) (hij : i ≠ j) (hm : m < 12) (s1 : CalmA a1) (s2 : CalmA a2) (hlt : a1.pos.getD m 0 < q) :
    DeliverTo (.pointer (some ⟨b, 0, none⟩)) ((i : Int) + 1) ((j : Int) + 1) m q w fun r w' => r = .returned (.int .i64 9) ∧ Adds w w' := by
  have HF := Lib.hid hf
  have HC := Lib.hid (fun W (hW : Adds w W) => (hh.later hW).c0)
  have HP1 := Lib.hid (fun W (hW : Adds w W) => (hh.later hW).posc g1 s1.len hm)
  have HP2 := Lib.hid (fun W (hW : Adds w W) => (hh.later hW).posc g2 s2.len hm)
  have HH := Lib.hid (fun W (hW : Adds w W) => hh.later hW)
  have i0 := (List.getElem?_eq_some_iff.1 g1).1
  have j0 := (List.getElem?_eq_some_iff.1 g2).1
  have p1b := posb s1 m
  have p2b := posb s2 m
  have p11 := p1b.1
  have p12 := p1b.2
  have p21 := p2b.1
  have p22 := p2b.2
  have i1 : (i : Int) + 1 - 1 = i := by omega
  have i2 : (0 : Int) ≤ (i : Int) := by omega
  have i3 : (i : Int) < (h.ac.length : Int) := by omega
  have j1 : (j : Int) + 1 - 1 = j := by omega
  have j2 : (0 : Int) ≤ (j : Int) := by omega
  have j3 : (j : Int) < (h.ac.length : Int) := by omega
  have m2 : (0 : Int) ≤ (m : Int) := by omega
  have m3 : (m : Int) < 12 := by omega
  have hq1 := hq.1
  have hq2 := hq.2
  have HI := Lib.hid hij
  obtain ⟨p1, hp1⟩ : ∃ p, p = a1.pos.getD m 0 := ⟨_, rfl⟩
  obtain ⟨p2, hp2⟩ : ∃ p, p = a2.pos.getD m 0 := ⟨_, rfl⟩
  rw [← hp1] at p11 p12 HP1
  rw [← hp2] at p21 p22 HP2
  rw [← hp1] at hlt
  have hd : decide (p1 < q) = true := decide_eq_true hlt
  generalize h.ac.length = n at *
  clear hh hf hq g1 g2 hij s1 s2 p1b p2b hp1 hp2
  unfold DeliverTo
  unfold CheckTo ktV at HF
  unfold accP at *
  go_enter Try.func12, Try.ntmps12
  go_upto_region 4 with (go_at_call 23; refine HF.out.mono ?_; rintro e w1 ⟨rfl, ha⟩; have c0 := HC.out w1 ha; have c1 := HP1.out w1 ha; have c2 := HP2.out w1 ha; have HA := Lib.hid ha; clear ha)
  go_quiet (fail)
  go_wp2
  go_ret
  exact ⟨rfl, HA.out.drewN _⟩

set_option maxRecDepth 100000 in
set_option maxHeartbeats 2000000 in
theorem deliver_2 (hh : HouseAt w base b ga ca pm cm pk ck h) (hn : h.ac.length ≤ 64) {i j m : Nat} {a1 a2 : Ac} (q : Int) (hf : CheckTo (.pointer (some ⟨b, 0, none⟩)) ((i : Int) + 1) ((j : Int) + 1) m q 1 w 0) (hq : 1 ≤ q ∧ q ≤ 1000000) (g1 : h.ac[i]? = some a1) (g2 : h.ac[j]? = some a2) (hij : i ≠ j) (hm : m < 12) (s1 : CalmA a1) (s2 : CalmA a2) (hge : q ≤ a1.pos.getD m 0) (hlt : -q < a2.pos.getD m 0) :
    DeliverTo (.pointer (some ⟨b, 0, none⟩)) ((i : Int) + 1) ((j : Int) + 1) m q w fun r w' => r = .returned (.int .i64 9) ∧ Adds w w' := by
  have HF := Lib.hid hf
  have HC := Lib.hid (fun W (hW : Adds w W) => (hh.later hW).c0)
  have HP1 := Lib.hid (fun W (hW : Adds w W) => (hh.later hW).posc g1 s1.len hm)
  have HP2 := Lib.hid (fun W (hW : Adds w W) => (hh.later hW).posc g2 s2.len hm)
  have HH := Lib.hid (fun W (hW : Adds w W) => hh.later hW)
  have i0 := (List.getElem?_eq_some_iff.1 g1).1
  have j0 := (List.getElem?_eq_some_iff.1 g2).1
  have p1b := posb s1 m
  have p2b := posb s2 m
  have p11 := p1b.1
  have p12 := p1b.2
  have p21 := p2b.1
  have p22 := p2b.2
  have i1 : (i : Int) + 1 - 1 = i := by omega
  have i2 : (0 : Int) ≤ (i : Int) := by omega
  have i3 : (i : Int) < (h.ac.length : Int) := by omega
  have j1 : (j : Int) + 1 - 1 = j := by omega
  have j2 : (0 : Int) ≤ (j : Int) := by omega
  have j3 : (j : Int) < (h.ac.length : Int) := by omega
  have m2 : (0 : Int) ≤ (m : Int) := by omega
  have m3 : (m : Int) < 12 := by omega
  have hq1 := hq.1
  have hq2 := hq.2
  have HI := Lib.hid hij
  obtain ⟨p1, hp1⟩ : ∃ p, p = a1.pos.getD m 0 := ⟨_, rfl⟩
  obtain ⟨p2, hp2⟩ : ∃ p, p = a2.pos.getD m 0 := ⟨_, rfl⟩
  rw [← hp1] at p11 p12 HP1
  rw [← hp2] at p21 p22 HP2
  rw [← hp1] at hge
  rw [← hp2] at hlt
  have hd : decide (p1 < q) = false := decide_eq_false (by omega)
  have hd2 : decide (p2 > -q) = true := decide_eq_true hlt
  generalize h.ac.length = n at *
  clear hh hf hq g1 g2 hij s1 s2 p1b p2b hp1 hp2
  unfold DeliverTo
  unfold CheckTo ktV at HF
  unfold accP at *
  go_enter Try.func12, Try.ntmps12
  go_upto_region 4 with (go_at_call 23; refine HF.out.mono ?_; rintro e w1 ⟨rfl, ha⟩; have c0 := HC.out w1 ha; have c1 := HP1.out w1 ha; have c2 := HP2.out w1 ha; have HA := Lib.hid ha; clear ha)
  go_quiet (fail)
  go_wp2
  go_ret
  exact ⟨rfl, HA.out.drewN _⟩

set_option maxRecDepth 100000 in
set_option maxHeartbeats 2000000 in
theorem deliver_ok (hh : HouseAt w base b ga ca pm cm pk ck h) (hn : h.ac.length ≤ 64) {i j m : Nat} {a1 a2 : Ac} (q : Int) (hf : CheckTo (.pointer (some ⟨b, 0, none⟩)) ((i : Int) + 1) ((j : Int) + 1) m q 1 w 0) (hq : 1 ≤ q ∧ q ≤ 1000000) (g1 : h.ac[i]? = some a1) (g2 : h.ac[j]? = some a2) (hij : i ≠ j) (hm : m < 12) (s1 : CalmA a1) (s2 : CalmA a2) (hge : q ≤ a1.pos.getD m 0) (hge2 : a2.pos.getD m 0 ≤ -q) :
    DeliverTo (.pointer (some ⟨b, 0, none⟩)) ((i : Int) + 1) ((j : Int) + 1) m q w fun r w' => r = .returned (.int .i64 0) ∧ HouseAt w' base b ga ca pm cm pk ck { h with ac := (h.ac.set i (bookA m (-q) 0 a1)).set j (bookA m q 0 a2) } ∧ Touch (fun k => k = ga) w w' := by
  have HF := Lib.hid hf
  have HC := Lib.hid (fun W (hW : Adds w W) => (hh.later hW).c0)
  have HP1 := Lib.hid (fun W (hW : Adds w W) => (hh.later hW).posc g1 s1.len hm)
  have HP2 := Lib.hid (fun W (hW : Adds w W) => (hh.later hW).posc g2 s2.len hm)
  have HH := Lib.hid (fun W (hW : Adds w W) => hh.later hW)
  have i0 := (List.getElem?_eq_some_iff.1 g1).1
  have j0 := (List.getElem?_eq_some_iff.1 g2).1
  have p1b := posb s1 m
  have p2b := posb s2 m
  have p11 := p1b.1
  have p12 := p1b.2
  have p21 := p2b.1
  have p22 := p2b.2
  have i1 : (i : Int) + 1 - 1 = i := by omega
  have i2 : (0 : Int) ≤ (i : Int) := by omega
  have i3 : (i : Int) < (h.ac.length : Int) := by omega
  have j1 : (j : Int) + 1 - 1 = j := by omega
  have j2 : (0 : Int) ≤ (j : Int) := by omega
  have j3 : (j : Int) < (h.ac.length : Int) := by omega
  have m2 : (0 : Int) ≤ (m : Int) := by omega
  have m3 : (m : Int) < 12 := by omega
  have hq1 := hq.1
  have hq2 := hq.2
  have HI := Lib.hid hij
  have HB1 := Lib.hid (fun (W : World) (hW : Adds w W) => book_at (hh.later hW) (-q) 0 g1 s1.len hm (by omega) (by omega) (by have := s1.cash0; omega) (by have := s1.cash1; omega))
  have HB2 := Lib.hid (fun (W : World) (hW : HouseAt W base b ga ca pm cm pk ck { h with ac := h.ac.set i (bookA m (-q) 0 a1) }) => book_at (i := j) (a := a2) hW q 0 (by simp only; rw [List.getElem?_set_ne hij]; exact g2) s2.len hm (by omega) (by omega) (by have := s2.cash0; omega) (by have := s2.cash1; omega))
  obtain ⟨p1, hp1⟩ : ∃ p, p = a1.pos.getD m 0 := ⟨_, rfl⟩
  obtain ⟨p2, hp2⟩ : ∃ p, p = a2.pos.getD m 0 := ⟨_, rfl⟩
  rw [← hp1] at p11 p12 HP1
  rw [← hp2] at p21 p22 HP2
  rw [← hp1] at hge
  rw [← hp2] at hge2
  have hd : decide (p1 < q) = false := decide_eq_false (by omega)
  have hd2 : decide (p2 > -q) = false := decide_eq_false (by omega)
  generalize h.ac.length = n at *
  clear hh hf hq g1 g2 hij s1 s2 p1b p2b hp1 hp2 HH
  unfold DeliverTo
  unfold CheckTo ktV at HF
  unfold accP at HB1 HB2
  go_enter Try.func12, Try.ntmps12
  go_upto_region 4 with (go_at_call 23; refine HF.out.mono ?_; rintro e w1 ⟨rfl, ha⟩; have c0 := HC.out w1 ha; have c1 := HP1.out w1 ha; have c2 := HP2.out w1 ha; have HA := Lib.hid ha; clear ha)
  go_quiet (fail)
  have hA2 := HA.out.drewN nq
  have HA2 := Lib.hid hA2
  clear hA2
  go_upto_region 8 with (go_at_call 25; refine (HB1.out _ HA2.out).mono ?_; rintro e w2 ⟨rfl, ha, hb⟩; have K1 := Lib.hid ha; have T1 := Lib.hid hb; clear ha hb)
  go_wp2_with (go_at_call 25; refine (HB2.out _ K1.out).mono ?_; rintro e w3 ⟨rfl, ha, hb⟩; have K2 := Lib.hid ha; have T2 := Lib.hid hb; clear ha hb)
  go_ret
  exact ⟨rfl, K2.out, ((Touch.of_adds HA2.out _).trans T1.out).trans T2.out⟩

end

end Go.Proofs.Ytmkpidipoadnbaa
