/- Changed of the reference. -/
import Derived.Test.YtofaioabjkcaiaaCB
import Derived.Test.YtofaioabjkcaiaaBQ
import Derived.Test.YtofaioabjkcaiaaBU
import Derived.Deep.QuietTactic
namespace Go.Proofs.Ytofaioabjkcaiaa
open Go.RowKit

theorem span_cells {w : World} {base : Nat} {hv : Value} {l : List (Int × Int)} (h : w.ownsRow base 32 2 hv l.length (l.flatMap spanCells)) : (hv = .slice none 0 0 ∧ l = []) ∨ ∃ g cap, hv = .slice (some ⟨g, 0, none⟩) l.length cap ∧ base ≤ g ∧ g < w.heap.size ∧ l.length ≤ cap ∧ cap ≤ maxLen ∧
    (∀ (j : Nat) (u : Value), (l.flatMap spanCells)[j]? = some u → w.cell? ⟨g, j, none⟩ = some u) ∧ ∀ i, w.frozen? ⟨g, i, none⟩ = false := by
  obtain ⟨h1, h2⟩ := h
  rcases h2 with ⟨hv, hn⟩ | ⟨g, cap, cur, hv, hg, hh, hn, hcap, hs, ht⟩
  · exact Or.inl ⟨hv, List.length_eq_zero_iff.1 hn⟩
  · refine Or.inr ⟨g, cap, hv, hg, (Array.getElem?_eq_some_iff.1 hh).1, hn, hcap, fun j u hu => ?_, fun i => by simp [World.frozen?, hh]⟩
    have hlt := (List.getElem?_eq_some_iff.1 hu).1
    rw [flat_len] at hlt
    have : (cur.toList.take (l.length * 2))[j]? = some u := by rw [ht]; exact hu
    rw [List.getElem?_take, if_pos (by omega), Array.getElem?_toList] at this
    simp [World.cell?, hh, this]

/-- What Changed of the reference returns. -/
def RChangedGot (f g : Int → Pk) (w : World) (e : Ending) (w' : World) : Prop :=
  ∃ hv ds, e = .returned hv ∧ w'.ownsRow w.heap.size 32 2 hv ds.length (ds.flatMap spanCells) ∧ SCover f g 1 1000000 ds ∧ Adds w w'

theorem pk_val_eq (a b : Pk) : (a.st = b.st ∧ a.lot = b.lot ∧ a.own = b.own ∧ a.hold = b.hold) ↔ a = b := by
  cases a; cases b; simp

set_option maxRecDepth 100000 in
set_option maxHeartbeats 3000000 in
theorem Changed_R (va vb : Value) (la lb : List Piece) (f g : Int → Pk) (w : World) (ha : RunsAt w va la) (hb : RunsAt w vb lb) (hCa : Can f la 1000001) (hCb : Can g lb 1000001) :
    Calls Try.prog 30 #[va, vb] w (RChangedGot f g w) := by
  obtain ⟨j0, hj, hj0, hj1, hj2⟩ := info_parts info32
  have HJ := Lib.hid hj
  have HJ0 := Lib.hid hj0
  have HJ1 := Lib.hid hj1
  have HJ2 := Lib.hid hj2
  have HA := Lib.hid ha
  have HB := Lib.hid hb
  have HCA := Lib.hid hCa
  have HCB := Lib.hid hCb
  clear ha hb hCa hCb hj hj0 hj1 hj2
  go_enter Try.func30, Try.ntmps30
  go_wp2_with fail
  go_loopw [5, 6] (fun v5 v6 wr => ∃ (z : Int) (pcs : List (Int × Int)), v6 = .int .i64 z ∧ 1 ≤ z ∧ z ≤ 1000001 ∧ Hid (DCover f g 1 (z - 1) pcs) ∧ Hid (wr.ownsRow w.heap.size 32 2 v5 (accT pcs).length ((accT pcs).flatMap spanCells)) ∧ Hid (Adds w wr)) (fun _ v6 _ => (1000001 - intOf v6).toNat)
  case atStart => exact ⟨1, [], rfl, by omega, by omega, Lib.hid (fun k k1 k2 => by omega), Lib.hid (World.ownsRow_nil _ _ _ _), Lib.hid (Adds.refl _)⟩
  case round =>
    obtain ⟨z, pcs, rfl, hz1, hz2, hdc, hrow, hadd⟩ := hrel
    by_cases hz : z ≤ 1000000
    · obtain ⟨e1, he1⟩ : ∃ e, e = edgeT la z := ⟨_, rfl⟩
      obtain ⟨e2, he2⟩ : ∃ e, e = edgeT lb z := ⟨_, rfl⟩
      have hs1 := edge_same HCA.out hz1 hz
      have hs2 := edge_same HCB.out hz1 hz
      rw [← he1] at hs1
      rw [← he2] at hs2
      obtain ⟨p1, p2, p3⟩ := hs1
      obtain ⟨r1, r2, r3⟩ := hs2
      have hE1 : Hid (∀ W, Adds w W → Calls Try.prog 72 #[va, .int .i64 z] W fun e w' => e = .returned (.int .i64 e1) ∧ Adds W w') := Lib.hid (fun W hW => by rw [he1]; exact edge_R va la z W (HA.out.later hW) (fun x hx => by obtain ⟨q1, q2, q3, _⟩ := HCA.out.one x hx; exact ⟨q1, q2, by omega⟩) HCA.out.len hz1 hz)
      have hE2 : Hid (∀ W, Adds w W → Calls Try.prog 72 #[vb, .int .i64 z] W fun e w' => e = .returned (.int .i64 e2) ∧ Adds W w') := Lib.hid (fun W hW => by rw [he2]; exact edge_R vb lb z W (HB.out.later hW) (fun x hx => by obtain ⟨q1, q2, q3, _⟩ := HCB.out.one x hx; exact ⟨q1, q2, by omega⟩) HCB.out.len hz1 hz)
      obtain ⟨E, hE⟩ : ∃ E, E = min e1 e2 := ⟨_, rfl⟩
      have HE := Lib.hid hE
      have hEz : z < E := by omega
      have hEm : E ≤ 1000001 := by omega
      have HF : Hid (∀ k, z ≤ k → k < E → f k = f z ∧ g k = g z) := Lib.hid (fun k k1 k2 => ⟨p3 k k1 (by omega), r3 k k1 (by omega)⟩)
      obtain ⟨⟨fs, fl, fo, fh⟩, hfz⟩ : ∃ q, q = f z := ⟨_, rfl⟩
      obtain ⟨⟨gs, gl, go, gh⟩, hgz⟩ : ∃ q, q = g z := ⟨_, rfl⟩
      have hA1 : Hid (∀ W, Adds w W → Calls Try.prog 52 #[va, .int .i64 z] W fun e w' => e = .returned (.agg #[.int .i64 fs, .int .i64 fl, .int .i64 fo, .int .i64 fh]) ∧ Adds W w') := Lib.hid (fun W hW => by
        have h := At_R va la z f W (HA.out.later hW) HCA.out hz1 hz
        rw [← hfz] at h; exact h)
      have hA2 : Hid (∀ W, Adds w W → Calls Try.prog 52 #[vb, .int .i64 z] W fun e w' => e = .returned (.agg #[.int .i64 gs, .int .i64 gl, .int .i64 go, .int .i64 gh]) ∧ Adds W w') := Lib.hid (fun W hW => by
        have h := At_R vb lb z g W (HB.out.later hW) HCB.out hz1 hz
        rw [← hgz] at h; exact h)
      have HFZ := Lib.hid hfz
      have HGZ := Lib.hid hgz
      have hee : Hid (e1 ≤ e2 ∨ e2 < e1) := Lib.hid (by omega)
      clear hE he1 he2 p3 r3 hfz hgz
      go_upto_region 4 with fail
      go_cut [7] (fun v wc => v = .int .i64 E ∧ Adds wr wc)
      case first =>
        go_wp2_with (first
          | (go_at_call_of 72 va; refine (hE1.out _ hadd.out).mono ?_; rintro e w1 ⟨rfl, hb1⟩)
          | (go_at_call_of 72 vb; refine (hE2.out _ (hadd.out.trans hb1)).mono ?_; rintro e w2 ⟨rfl, hb2⟩))
        all_goals
          go_meet
          refine ⟨?_, hb1.trans hb2⟩
          rw [HE.out]
          show Value.int .i64 _ = Value.int .i64 _
          congr 1
          omega
      case rest =>
      rename World => w4
      obtain ⟨rfl, hb4⟩ := hcut
      have HB4 := Lib.hid (hadd.out.trans hb4)
      have HROW4 : Hid (w4.ownsRow w.heap.size 32 2 u5 (accT pcs).length ((accT pcs).flatMap spanCells)) := Lib.hid (ownsRow_same hrow.out (fun k hk => hb4.block k (hrow.out.lt k hk).2))
      clear hb4
      obtain ⟨df, hdf⟩ : ∃ b : Bool, b = decide ((⟨fs, fl, fo, fh⟩ : Pk) ≠ ⟨gs, gl, go, gh⟩) := ⟨_, rfl⟩
      have HDF := Lib.hid hdf
      clear hdf
      go_upto_region 5 with fail
      go_cut [24] (fun v wc => v = .bool df ∧ Adds w4 wc)
      case first =>
        have hdf := HDF.out
        rcases pk_split ⟨fs, fl, fo, fh⟩ ⟨gs, gl, go, gh⟩ with hp | hp | hp | hp | hp
        · have e : df = false := by rw [hdf, hp]; simp
          simp only [Pk.mk.injEq] at hp
          obtain ⟨rfl, rfl, rfl, rfl⟩ := hp
          subst e
          clear hdf HDF
          go_wp2_with (first
            | (go_at_call_of 52 va; refine (hA1.out _ HB4.out).mono ?_; rintro e w1 ⟨rfl, hb1⟩)
            | (go_at_call_of 52 vb; refine (hA2.out _ (HB4.out.trans hb1)).mono ?_; rintro e w2 ⟨rfl, hb2⟩))
          all_goals
            go_meet
            exact ⟨by simp, hb1.trans hb2⟩
        all_goals
          have e : df = true := by
            rw [hdf]
            refine decide_eq_true (fun h => ?_)
            simp only [Pk.mk.injEq] at h
            obtain ⟨rfl, rfl, rfl, rfl⟩ := h
            simp at hp
          subst e
          simp only at hp
          clear hdf HDF
          go_wp2_with (first
            | (go_at_call_of 52 va; refine (hA1.out _ HB4.out).mono ?_; rintro e w1 ⟨rfl, hb1⟩)
            | (go_at_call_of 52 vb; refine (hA2.out _ (HB4.out.trans hb1)).mono ?_; rintro e w2 ⟨rfl, hb2⟩))
          all_goals
            go_meet
            exact ⟨by simp [hp], hb1.trans hb2⟩
      case rest =>
      rename World => w6
      obtain ⟨rfl, hb6⟩ := hcut
      have HB6 := Lib.hid (HB4.out.trans hb6)
      have hrow6 : w6.ownsRow w.heap.size 32 2 u5 (accT pcs).length ((accT pcs).flatMap spanCells) := ownsRow_same HROW4.out (fun k hk => hb6.block k (HROW4.out.lt k hk).2)
      have HROW6 := Lib.hid hrow6
      clear hb6 HROW4
      cases hd : df with
      | false =>
        have hfg : f z = g z := by
          have h := HDF.out
          rw [hd] at h
          have h2 : (⟨fs, fl, fo, fh⟩ : Pk) = ⟨gs, gl, go, gh⟩ := by simpa using h
          rw [← HFZ.out, ← HGZ.out]; exact h2
        have HFG := Lib.hid hfg
        subst hd
        clear hfg hrow6 HDF
        go_wp2
        refine ⟨⟨E, pcs, rfl, by omega, hEm, Lib.hid ?_, HROW6, HB6⟩, by simp [intOf]; omega⟩
        have h := DCover.append (l := pcs) (l' := []) (a := 1) (m := z - 1) (c := E - 1) (by omega) (by omega) hdc.out (fun k k1 k2 => by
          obtain ⟨x1, x2⟩ := HF.out k (by omega) (by omega)
          rw [x1, x2]; exact HFG.out)
        rwa [List.append_nil] at h
      | true =>
        have hfg : f z ≠ g z := by
          have h := HDF.out
          rw [hd] at h
          rw [← HFZ.out, ← HGZ.out]
          exact of_decide_eq_true h.symm
        have hall := hdc.out.all
        have hok := accT_ok (pre := pcs) (fun y hy => by have := hall.2 y hy; exact ⟨by omega, by omega, by omega⟩)
        have hacl : (accT pcs).length ≤ 1000000 := by have := hall.1; have := hok.2; omega
        have HDN : Hid (DCover f g 1 (E - 1) (pcs ++ [(z, E - 1)])) := Lib.hid (DCover.append (a := 1) (m := z - 1) (c := E - 1) (by omega) (by omega) hdc.out ⟨by simp only; omega, by simp only; omega, by simp only; omega, fun k k1 k2 => by simp only at k2; omega, fun k k1 k2 => by
          simp only at k1 k2
          obtain ⟨x1, x2⟩ := HF.out k k1 (by omega)
          rw [x1, x2]; exact hfg, fun k k1 k2 => by simp only at k1; omega⟩)
        have HOK := Lib.hid hok.1
        subst hd
        clear hfg hall hok HDF
        rcases span_cells hrow6 with ⟨hv5, hac⟩ | ⟨gq, cap, hv5, hgq, hgl, hcap, hcm, hcell, hfr⟩
        · have HX : Hid (accT (pcs ++ [(z, E - 1)]) = [(z, E - 1)]) := Lib.hid (by rw [accT_snoc, joinAdd_none hac])
          subst hv5
          have HAC := Lib.hid hac
          clear hac hrow6 hacl
          go_upto_region 7 with fail
          go_quiet (fail)
          go_wp2_with (at_builtin; ((refine wpList_append_lies _ rfl _ _ 55 rfl w.heap.size 32 j0 (.agg #[.int .i64 0, .int .i64 0]) 2 16 Try.underlying55 HJ.out HJ0.out HJ1.out HJ2.out rfl (by decide) (.slice none 0 0) (0) [] rfl (ownsRow_same (World.ownsRow_nil _ _ _ _ : w6.ownsRow w.heap.size 32 2 (.slice none 0 0) 0 []) (fun k hk => (((Adds.refl w6).drewN _).alloc _).block k (World.ownsRow.lt (World.ownsRow_nil _ _ _ _ : w6.ownsRow w.heap.size 32 2 (.slice none 0 0) 0 []) k hk).2)) ⟨w6.heap.size, 0, none⟩ 1 1 [.int .i64 z, .int .i64 (E - z)] rfl rfl (World.news_of_block (new_at (by simp))) (by simp [Value.oneCell']) (by omega) (by unfold maxLen; omega) (by omega) (by have := HB6.out.size; simp; omega) _ rfl ?_); intro g9 c9 Vc hown hgrow hgat hglt; have HOWN := Lib.hid hown; have HGR := Lib.hid hgrow; clear hown hgrow hgat))
          refine ⟨⟨E, pcs ++ [(z, E - 1)], rfl, by omega, hEm, HDN, Lib.hid ?_, Lib.hid (Below.grown (((HB6.out.drewN _).alloc _)) HGR.out (by have := HB6.out.size; simp; omega) (fun j hj => (World.ownsRow.lt (World.ownsRow_nil _ _ _ _ : w6.ownsRow w.heap.size 32 2 (.slice none 0 0) 0 []) j hj).1))⟩, by simp [intOf]; omega⟩
          rw [HX.out]
          have h := HOWN.out
          rw [show [Value.int .i64 z, Value.int .i64 (E - z)] = spanCells (z, E - 1) by simp only [spanCells]; rw [show E - 1 - z + 1 = E - z by omega]] at h
          simpa using h
        · rcases List.eq_nil_or_concat (accT pcs) with hac | ⟨ini, y, hac⟩
          · have HX : Hid (accT (pcs ++ [(z, E - 1)]) = [(z, E - 1)]) := Lib.hid (by rw [accT_snoc, joinAdd_none hac])
            rw [hac] at hv5 hcap HROW6
            simp only [List.length_nil] at hv5 hcap
            subst hv5
            clear hac hrow6 hacl hcell hfr
            go_upto_region 7 with fail
            go_quiet (fail)
            go_wp2_with (at_builtin; ((refine wpList_append_lies _ rfl _ _ 55 rfl w.heap.size 32 j0 (.agg #[.int .i64 0, .int .i64 0]) 2 16 Try.underlying55 HJ.out HJ0.out HJ1.out HJ2.out rfl (by decide) (.slice (some ⟨gq, 0, none⟩) 0 cap) (0) [] rfl (ownsRow_same (HROW6.out : w6.ownsRow w.heap.size 32 2 (.slice (some ⟨gq, 0, none⟩) 0 cap) 0 []) (fun k hk => (((Adds.refl w6).drewN _).alloc _).block k (World.ownsRow.lt (HROW6.out : w6.ownsRow w.heap.size 32 2 (.slice (some ⟨gq, 0, none⟩) 0 cap) 0 []) k hk).2)) ⟨w6.heap.size, 0, none⟩ 1 1 [.int .i64 z, .int .i64 (E - z)] rfl rfl (World.news_of_block (new_at (by simp))) (by simp [Value.oneCell']) (by omega) (by unfold maxLen; omega) (by omega) (by have := HB6.out.size; simp; omega) _ rfl ?_); intro g9 c9 Vc hown hgrow hgat hglt; have HOWN := Lib.hid hown; have HGR := Lib.hid hgrow; clear hown hgrow hgat))
            refine ⟨⟨E, pcs ++ [(z, E - 1)], rfl, by omega, hEm, HDN, Lib.hid ?_, Lib.hid (Below.grown (((HB6.out.drewN _).alloc _)) HGR.out (by have := HB6.out.size; simp; omega) (fun j hj => (World.ownsRow.lt (HROW6.out : w6.ownsRow w.heap.size 32 2 (.slice (some ⟨gq, 0, none⟩) 0 cap) 0 []) j hj).1))⟩, by simp [intOf]; omega⟩
            rw [HX.out]
            have h := HOWN.out
            rw [show [Value.int .i64 z, Value.int .i64 (E - z)] = spanCells (z, E - 1) by simp only [spanCells]; rw [show E - 1 - z + 1 = E - z by omega]] at h
            simpa using h
          · rw [List.concat_eq_append] at hac
            obtain ⟨m, hm⟩ : ∃ m, m = ini.length := ⟨_, rfl⟩
            have hy := HOK.out y (by rw [hac]; simp)
            obtain ⟨hy1, hy2, hy3⟩ := hy
            obtain ⟨hf1, hf2⟩ := flat_last ini y
            rw [← hac, ← hm, Nat.mul_comm] at hf1 hf2
            have k0 := hcell _ _ hf1
            have k1 := hcell _ _ hf2
            have kf := hfr (m * 2 + 1)
            have hn0 : (accT pcs).length = m + 1 := by rw [hac, hm]; simp
            rw [hn0] at hv5 hcap hacl
            subst hv5
            have HAC := Lib.hid hac
            have HM := Lib.hid hm
            have HR6 : Hid (w6.ownsRow w.heap.size 32 2 (.slice (some ⟨gq, 0, none⟩) (m + 1) cap) (m + 1) ((accT pcs).flatMap spanCells)) := Lib.hid (by have h := HROW6.out; rw [hn0] at h; exact h)
            have hsub : ((m + 1 : Nat) : Int) - 1 = (m : Int) := by omega
            clear hac hm hn0 hrow6 hcell hfr hf1 hf2 HROW6
            by_cases hj : y.2 + 1 = z
            · have hj1 : (y.1 + (y.2 - y.1 + 1) == z) = true := beq_iff_eq.2 (by omega)
              have HJN := Lib.hid hj
              have HX : Hid (accT (pcs ++ [(z, E - 1)]) = ini ++ [(y.1, E - 1)]) := Lib.hid (by rw [accT_snoc, joinAdd_last (y := y) (by rw [HAC.out]; simp), if_pos hj, HAC.out, List.dropLast_concat])
              go_upto_region 7 with fail
              go_quiet (fail)
              go_wp2
              refine ⟨⟨E, pcs ++ [(z, E - 1)], rfl, by omega, hEm, HDN, Lib.hid ?_, Lib.hid ((HB6.out.drewN _).set (by exact hgq) _)⟩, by simp [intOf]; omega⟩
              rw [HX.out]
              have h := owns_put (j := m * 2 + 1) (u := .int .i64 (E - 1 - y.1 + 1)) (ownsRow_same (w' := w6.drewN nq) HR6.out (fun k hk => rfl))
              have hs := flat_set ini y (E - 1)
              rw [HAC.out, show m * 2 + 1 = 2 * ini.length + 1 by rw [HM.out]; omega, hs] at h
              rw [show 2 * ini.length + 1 = m * 2 + 1 by rw [HM.out]; omega, show E - 1 - y.1 + 1 = y.2 - y.1 + 1 + E - z by have := HJN.out; omega] at h
              rw [show (ini ++ [(y.1, E - 1)]).length = m + 1 by simp [HM.out]]
              exact h
            · have hj1 : (y.1 + (y.2 - y.1 + 1) == z) = false := beq_eq_false_iff_ne.2 (by omega)
              have HX : Hid (accT (pcs ++ [(z, E - 1)]) = accT pcs ++ [(z, E - 1)]) := Lib.hid (by rw [accT_snoc, joinAdd_last (y := y) (by rw [HAC.out]; simp), if_neg hj])
              go_upto_region 7 with fail
              go_quiet (fail)
              go_wp2_with (at_builtin; ((refine wpList_append_lies _ rfl _ _ 55 rfl w.heap.size 32 j0 (.agg #[.int .i64 0, .int .i64 0]) 2 16 Try.underlying55 HJ.out HJ0.out HJ1.out HJ2.out rfl (by decide) (.slice (some ⟨gq, 0, none⟩) (m + 1) cap) (m + 1) ((accT pcs).flatMap spanCells) rfl (ownsRow_same HR6.out (fun k hk => (((Adds.refl w6).drewN _).alloc _).block k (World.ownsRow.lt HR6.out k hk).2)) ⟨w6.heap.size, 0, none⟩ 1 1 [.int .i64 z, .int .i64 (E - z)] rfl rfl (World.news_of_block (new_at (by simp))) (by simp [Value.oneCell']) (by omega) (by unfold maxLen; omega) (by omega) (by have := HB6.out.size; simp; omega) _ rfl ?_); intro g9 c9 Vc hown hgrow hgat hglt; have HOWN := Lib.hid hown; have HGR := Lib.hid hgrow; clear hown hgrow hgat))
              refine ⟨⟨E, pcs ++ [(z, E - 1)], rfl, by omega, hEm, HDN, Lib.hid ?_, Lib.hid (Below.grown (((HB6.out.drewN _).alloc _)) HGR.out (by have := HB6.out.size; simp; omega) (fun j hj => (World.ownsRow.lt HR6.out j hj).1))⟩, by simp [intOf]; omega⟩
              rw [HX.out]
              have h := HOWN.out
              rw [show [Value.int .i64 z, Value.int .i64 (E - z)] = spanCells (z, E - 1) by simp only [spanCells]; rw [show E - 1 - z + 1 = E - z by omega]] at h
              rw [List.flatMap_append, List.length_append, show (accT pcs).length = m + 1 by rw [HAC.out, HM.out]; simp]
              simpa using h
    · have hze : z = 1000001 := by omega
      subst hze
      go_wp2
      go_ret
      exact ⟨u5, accT pcs, rfl, hrow.out, by rw [show accT pcs = joinD pcs from foldl_joinD pcs]; exact joinD_cover hdc.out, hadd.out⟩
end Go.Proofs.Ytofaioabjkcaiaa
