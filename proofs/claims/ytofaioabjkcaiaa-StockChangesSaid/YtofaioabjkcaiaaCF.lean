/- StockChanges: the law's walk. -/
import Derived.Test.YtofaioabjkcaiaaCE
import Derived.Test.YtofaioabjkcaiaaAF
namespace Go.Proofs.Ytofaioabjkcaiaa
open Go.RowKit

theorem ref_len {w : World} {g n c : Nat} {Ls : List (List Piece)} (h : RefAt w (.agg #[.slice (some ⟨g, 0, none⟩) n c]) Ls) : n = Ls.length ∧ 0 < n ∧ n ≤ 1000000 := by
  obtain ⟨p, cap, vs, hx, h1, h2, h3, _, _⟩ := h
  simp only [Value.agg.injEq, Array.mk.injEq, List.cons.injEq, Value.slice.injEq, and_true] at hx
  omega

theorem scover_len0 {f g : Int → Pk} : ∀ {l : List (Int × Int)} {a c : Int}, SCover f g a c l → (l.length : Int) ≤ max 0 (c + 1 - a)
  | [], a, c, _ => by simp; omega
  | x :: l, a, c, ⟨h1, h2, h3, _, _, _, h7⟩ => by
    have := scover_len0 h7
    simp only [List.length_cons]
    omega

theorem scover_len {f g : Int → Pk} {l : List (Int × Int)} (h : SCover f g 1 1000000 l) : l.length ≤ 2000000 := by
  have := scover_len0 h
  omega

theorem pair_turn {w w8 : World} {s : Nat} {v : Value} {bs : List Nat} {Ts : List Tree} {g0 n0 c0 : Nat} {Ls : List (List Piece)} {b3 b6 : Nat} {y0 y1 : Int} {X : Value} (hlk : Link w8 s v bs Ts g0 n0 c0 Ls) (h3 : Box w8 b3 #[.int .i64 y0, .int .i64 y1] 66) (h6 : Box w8 b6 #[X] 27)
    (hA : Adds w w8) (hw3 : w.heap.size ≤ b3) (h36 : b3 ≠ b6) (u0 u1 : Int) :
    Box ((w8.setCell ⟨b3, 0, none⟩ (.int .i64 u0)).setCell ⟨b3, 1, none⟩ (.int .i64 u1)).drew b3 #[.int .i64 u0, .int .i64 u1] 66 ∧ Box ((w8.setCell ⟨b3, 0, none⟩ (.int .i64 u0)).setCell ⟨b3, 1, none⟩ (.int .i64 u1)).drew b6 #[X] 27 ∧
      Link ((w8.setCell ⟨b3, 0, none⟩ (.int .i64 u0)).setCell ⟨b3, 1, none⟩ (.int .i64 u1)).drew s v bs Ts g0 n0 c0 Ls ∧ Adds w ((w8.setCell ⟨b3, 0, none⟩ (.int .i64 u0)).setCell ⟨b3, 1, none⟩ (.int .i64 u1)).drew := by
  refine ⟨((h3.set 0 _).set 1 _).later (Adds.refl _).drew, ((h6.far (by exact Ne.symm h36) _).far (by exact Ne.symm h36) _).later (Adds.refl _).drew, ?_, ((hA.set (p := ⟨b3, 0, none⟩) hw3 _).set (p := ⟨b3, 1, none⟩) hw3 _).drew⟩
  refine Link.later (w := (w8.setCell ⟨b3, 0, none⟩ (.int .i64 u0)).setCell ⟨b3, 1, none⟩ (.int .i64 u1)) (hlk.keep h3 (by simp [World.setCell]) (fun k hk => ?_)) (Adds.refl _).drew
  rw [Below.heap_setCell _ _ _ _ (fun e => hk (by exact e)), Below.heap_setCell _ _ _ _ (fun e => hk (by exact e))]

set_option maxRecDepth 100000 in
set_option maxHeartbeats 2000000 in
theorem changes_any (p : Option Addr) (N cap : Nat) (f : Nat → Nat → Int) (x0 x1 : Int) (w : World) (hN : N ≤ maxLen) (hL : ActsAt w p N f) : Calls Try.prog 6 #[.slice p N cap, .agg #[.int .i64 x0, .int .i64 x1]] w fun e w' => e = .returned (.bool true) ∧ Adds w w' := by
  have HL := Lib.hid hL
  clear hL
  go_enter Try.func6, Try.ntmps6
  go_upto_region 1 with fail
  obtain ⟨b3, hb3⟩ : ∃ k, k = w.heap.size := ⟨_, rfl⟩
  obtain ⟨W1, hW1⟩ : ∃ V, V = w.alloc (.cells #[.int .i64 x0, .int .i64 x1] 66) := ⟨_, rfl⟩
  have A1 : Adds w W1 := by rw [hW1]; exact (Adds.refl w).alloc _
  have X3 : Box W1 b3 #[.int .i64 x0, .int .i64 x1] 66 := by rw [hW1, hb3]; exact Box.new _ _ _
  have hw3 : w.heap.size ≤ b3 := by omega
  rw [← hW1, ← hb3]
  have HA1 := Lib.hid A1
  have HX3 := Lib.hid X3
  have hrun : Hid (Calls Try.prog 20 #[.slice p N cap, .int .i64 25] W1 (RunGot W1 25)) := Lib.hid (run_any p N cap 25 f W1 hN (fun i hi => by obtain ⟨g, off, hp, hc⟩ := HL.out i hi; exact ⟨g, off, hp, fun j hj => keep_cell A1 (hc j hj)⟩) (by omega))
  clear hW1 hb3 A1 X3
  go_upto_region 2 with (go_at_call 20; refine hrun.out.mono ?_; rintro e w2 ⟨s, v, bs, Ts, g0, n0, c0, Ls, rfl, hlk, hbl, hs, hown, hb2⟩; have HLK := Lib.hid hlk; have HB2 := Lib.hid hb2; clear hlk hb2 hs hown)
  obtain ⟨b6, hb6⟩ : ∃ k, k = w2.heap.size := ⟨_, rfl⟩
  obtain ⟨W3, hW3⟩ : ∃ V, V = w2.alloc (.cells #[.slice (some ⟨g0, 0, none⟩) n0 c0] 27) := ⟨_, rfl⟩
  have A3 : Adds w2 W3 := by rw [hW3]; exact (Adds.refl _).alloc _
  have X6 : Box W3 b6 #[.slice (some ⟨g0, 0, none⟩) n0 c0] 27 := by rw [hW3, hb6]; exact Box.new _ _ _
  have h36 : b3 ≠ b6 := by have := HX3.out.lt; have := HB2.out.size; omega
  have HNN := Lib.hid (ref_len HLK.out.ref)
  have HLN := Lib.hid HLK.out.len
  have hnn1 : 0 < n0 := HNN.out.2.1
  have hnn2 : n0 ≤ 1000000 := HNN.out.2.2
  have hw : IntKind.u64.wrap (n0 : Int) = n0 := by simp [IntKind.wrap, IntKind.signed, IntKind.bits]; omega
  have hn0 : ((n0 : Int) == 0) = false := beq_eq_false_iff_ne.2 (by omega)
  have X3 := (HX3.out.later HB2.out).later A3
  rw [← hW3, ← hb6]
  have HX6 := Lib.hid X6
  have HX3b := Lib.hid X3
  have HLKb := Lib.hid (HLK.out.later A3)
  have HAW := Lib.hid ((HA1.out.trans HB2.out).trans A3)
  clear hW3 hb6 A3 X6 X3 HX3 HLK HB2 HA1
  go_wp2_with fail
  go_loopw [7] (fun v7 wr => ∃ (k : Nat) (y0 y1 : Int), k ≤ 2 ∧ v7 = .int .i64 k ∧ Hid (Box wr b3 #[.int .i64 y0, .int .i64 y1] 66) ∧ Hid (Box wr b6 #[.slice (some ⟨g0, 0, none⟩) n0 c0] 27) ∧ Hid (Link wr s v bs Ts g0 n0 c0 Ls) ∧ Hid (Adds w wr)) (fun v7 _ => 2 - (intOf v7).toNat)
  case atStart => exact ⟨0, x0, x1, by omega, rfl, HX3b, HX6, HLKb, HAW⟩
  case round =>
    obtain ⟨k, y0, y1, hk, rfl, hx3, hx6, hlk, hadd⟩ := hrel
    by_cases hlt : k < 2
    · have z0 := hx3.out.cell 0
      have z1 := hx3.out.cell 1
      have l6 := hx6.out.cell 0
      simp only [List.getElem?_toArray, List.getElem?_cons_zero, List.getElem?_cons_succ] at z0 z1 l6
      by_cases hv0 : 0 ≤ y0 ∧ y0 ≤ bs.length
      · obtain ⟨a, rfl⟩ : ∃ a : Nat, y0 = a := ⟨y0.toNat, by omega⟩
        have ha : a ≤ bs.length := by omega
        obtain ⟨La, hLa⟩ : ∃ L, Ls[a]? = some L := ⟨_, List.getElem?_eq_getElem (by have := HLN.out; omega)⟩
        by_cases hv1 : 0 ≤ y1 ∧ y1 ≤ bs.length
        · obtain ⟨b, rfl⟩ : ∃ b : Nat, y1 = b := ⟨y1.toNat, by omega⟩
          have hb : b ≤ bs.length := by omega
          obtain ⟨Lb, hLb⟩ : ∃ L, Ls[b]? = some L := ⟨_, List.getElem?_eq_getElem (by have := HLN.out; omega)⟩
          have HCA := Lib.hid (hlk.out.can a La hLa)
          have HCB := Lib.hid (hlk.out.can b Lb hLb)
          have HSC := Lib.hid (changed_cover hlk.out.stock ha hb)
          have HLA := Lib.hid hLa
          have HLB := Lib.hid hLb
          clear hLa hLb
          go_upto_region 8 with (go_at_call 28; refine (changed_ok _ s v bs Ts a b _ hlk.out.stock ha hb).mono ?_; rintro e w4 ⟨hv, rfl, hrow, hb4⟩; have HRW := Lib.hid hrow; have HB4 := Lib.hid hb4; clear hrow hb4)
          replace z0 := keep_cell HB4.out z0
          replace z1 := keep_cell HB4.out z1
          replace l6 := keep_cell HB4.out l6
          go_upto_region 9 with (go_at_call 29; refine (Version_ok _ Ls a La _ (hlk.out.ref.later HB4.out) HLA.out).mono ?_; rintro e w5 ⟨ua, rfl, hua, hb5⟩; have HUA := Lib.hid hua; have HB5 := Lib.hid (HB4.out.trans hb5); replace z0 := keep_cell hb5 z0; replace z1 := keep_cell hb5 z1; replace l6 := keep_cell hb5 l6; have HS5 := Lib.hid hb5; clear hua hb5)
          go_upto_region 10 with (go_at_call 29; refine (Version_ok _ Ls b Lb _ (hlk.out.ref.later HB5.out) HLB.out).mono ?_; rintro e w6 ⟨ub, rfl, hub, hb6⟩; have HUB := Lib.hid hub; have HB6 := Lib.hid (HB5.out.trans hb6); replace z0 := keep_cell hb6 z0; replace z1 := keep_cell hb6 z1; replace l6 := keep_cell hb6 l6; have HS6 := Lib.hid hb6; clear hub hb6)
          have hco := HSC.out
          have hdl : (joinD (diffT 1000000 (treeOf Ts a) (treeOf Ts b))).length ≤ 2000000 := scover_len hco
          have HDL := Lib.hid hdl
          clear hco hdl
          go_upto_region 15 with (first
            | (go_at_call 30; refine (Changed_R ua ub La Lb _ _ _ (HUA.out.later HS6.out) HUB.out HCA.out HCB.out).mono ?_; rintro e w7 ⟨hv2, ds, rfl, hrow2, hsc2, hb7⟩; have hds := scover_unique hsc2 HSC.out; subst hds; have HR2 := Lib.hid hrow2; have HB7 := Lib.hid (HB6.out.trans hb7); have HS7 := Lib.hid hb7; replace z0 := keep_cell hb7 z0; replace z1 := keep_cell hb7 z1; replace l6 := keep_cell hb7 l6; clear hrow2 hsc2 hb7)
            | (go_at_call 27; refine (spans_same hv hv2 _ _ ((own_spanAt HRW.out).later ((HS5.out.trans HS6.out).trans HS7.out)) (own_spanAt HR2.out) HDL.out).mono ?_; rintro e w8 ⟨rfl, hb8⟩; have HB8 := Lib.hid (HB7.out.trans hb8); replace z0 := keep_cell hb8 z0; replace z1 := keep_cell hb8 z1; replace l6 := keep_cell hb8 l6; clear hb8))
          have rf0 := (hx3.out.later HB8.out).free 0
          have rf1 := (hx3.out.later HB8.out).free 1
          go_upto_region 16 with fail
          go_region
          all_goals
            go_wp2_with fail
            obtain ⟨t1, t2, t3, t4⟩ := pair_turn (hlk.out.later HB8.out) (hx3.out.later HB8.out) (hx6.out.later HB8.out) (hadd.out.trans HB8.out) hw3 h36 _ _
            exact ⟨⟨k + 1, _, _, by omega, by go_num, Lib.hid t1, Lib.hid t2, Lib.hid t3, Lib.hid t4⟩, by simp [intOf]; omega⟩
        · have HV1 := Lib.hid hv1
          have HLA := Lib.hid hLa
          clear hLa hv1
          go_upto_region 8 with (go_at_call 28; refine (changed_none _ s v bs Ts _ _ _ hlk.out.stock (Or.inr (by have := HV1.out; omega))).mono ?_; rintro e w4 ⟨rfl, hb4⟩; have HB4 := Lib.hid hb4; replace z0 := keep_cell hb4 z0; replace z1 := keep_cell hb4 z1; replace l6 := keep_cell hb4 l6; clear hb4)
          go_upto_region 9 with (go_at_call 29; refine (Version_ok _ Ls a La _ (hlk.out.ref.later HB4.out) HLA.out).mono ?_; rintro e w5 ⟨uu, rfl, huu, hb⟩; have HB5 := Lib.hid (HB4.out.trans hb); replace z0 := keep_cell hb z0; replace z1 := keep_cell hb z1; replace l6 := keep_cell hb l6; clear huu hb)
          go_upto_region 10 with (go_at_call 29; refine (Version_none _ Ls y1 _ (hlk.out.ref.later HB5.out) (by have := HLN.out; have := HV1.out; omega)).mono ?_; rintro e w6 ⟨rfl, hb⟩; have HB6 := Lib.hid (HB5.out.trans hb); replace z0 := keep_cell hb z0; replace z1 := keep_cell hb z1; replace l6 := keep_cell hb l6; clear hb)
          go_upto_region 15 with fail
          have rf0 := (hx3.out.later HB6.out).free 0
          have rf1 := (hx3.out.later HB6.out).free 1
          go_upto_region 16 with fail
          go_region
          all_goals
            go_wp2_with fail
            obtain ⟨t1, t2, t3, t4⟩ := pair_turn (hlk.out.later HB6.out) (hx3.out.later HB6.out) (hx6.out.later HB6.out) (hadd.out.trans HB6.out) hw3 h36 _ _
            exact ⟨⟨k + 1, _, _, by omega, by go_num, Lib.hid t1, Lib.hid t2, Lib.hid t3, Lib.hid t4⟩, by simp [intOf]; omega⟩
      · have HV0 := Lib.hid hv0
        clear hv0
        by_cases hv1 : 0 ≤ y1 ∧ y1 ≤ bs.length
        · obtain ⟨b, rfl⟩ : ∃ b : Nat, y1 = b := ⟨y1.toNat, by omega⟩
          have hb : b ≤ bs.length := by omega
          obtain ⟨Lb, hLb⟩ : ∃ L, Ls[b]? = some L := ⟨_, List.getElem?_eq_getElem (by have := HLN.out; omega)⟩
          have HLB := Lib.hid hLb
          clear hLb
          go_upto_region 8 with (go_at_call 28; refine (changed_none _ s v bs Ts _ _ _ hlk.out.stock (Or.inl (by have := HV0.out; omega))).mono ?_; rintro e w4 ⟨rfl, hb4⟩; have HB4 := Lib.hid hb4; replace z0 := keep_cell hb4 z0; replace z1 := keep_cell hb4 z1; replace l6 := keep_cell hb4 l6; clear hb4)
          go_upto_region 9 with (go_at_call 29; refine (Version_none _ Ls y0 _ (hlk.out.ref.later HB4.out) (by have := HLN.out; have := HV0.out; omega)).mono ?_; rintro e w5 ⟨rfl, hb⟩; have HB5 := Lib.hid (HB4.out.trans hb); replace z0 := keep_cell hb z0; replace z1 := keep_cell hb z1; replace l6 := keep_cell hb l6; clear hb)
          go_upto_region 10 with (go_at_call 29; refine (Version_ok _ Ls b Lb _ (hlk.out.ref.later HB5.out) HLB.out).mono ?_; rintro e w6 ⟨uu, rfl, huu, hb⟩; have HB6 := Lib.hid (HB5.out.trans hb); replace z0 := keep_cell hb z0; replace z1 := keep_cell hb z1; replace l6 := keep_cell hb l6; clear huu hb)
          go_upto_region 15 with fail
          have rf0 := (hx3.out.later HB6.out).free 0
          have rf1 := (hx3.out.later HB6.out).free 1
          go_upto_region 16 with fail
          go_region
          all_goals
            go_wp2_with fail
            obtain ⟨t1, t2, t3, t4⟩ := pair_turn (hlk.out.later HB6.out) (hx3.out.later HB6.out) (hx6.out.later HB6.out) (hadd.out.trans HB6.out) hw3 h36 _ _
            exact ⟨⟨k + 1, _, _, by omega, by go_num, Lib.hid t1, Lib.hid t2, Lib.hid t3, Lib.hid t4⟩, by simp [intOf]; omega⟩
        · have HV1 := Lib.hid hv1
          clear hv1
          go_upto_region 8 with (go_at_call 28; refine (changed_none _ s v bs Ts _ _ _ hlk.out.stock (Or.inl (by have := HV0.out; omega))).mono ?_; rintro e w4 ⟨rfl, hb4⟩; have HB4 := Lib.hid hb4; replace z0 := keep_cell hb4 z0; replace z1 := keep_cell hb4 z1; replace l6 := keep_cell hb4 l6; clear hb4)
          go_upto_region 9 with (go_at_call 29; refine (Version_none _ Ls y0 _ (hlk.out.ref.later HB4.out) (by have := HLN.out; have := HV0.out; omega)).mono ?_; rintro e w5 ⟨rfl, hb⟩; have HB5 := Lib.hid (HB4.out.trans hb); replace z0 := keep_cell hb z0; replace z1 := keep_cell hb z1; replace l6 := keep_cell hb l6; clear hb)
          go_upto_region 10 with (go_at_call 29; refine (Version_none _ Ls y1 _ (hlk.out.ref.later HB5.out) (by have := HLN.out; have := HV1.out; omega)).mono ?_; rintro e w6 ⟨rfl, hb⟩; have HB6 := Lib.hid (HB5.out.trans hb); replace z0 := keep_cell hb z0; replace z1 := keep_cell hb z1; replace l6 := keep_cell hb l6; clear hb)
          go_upto_region 15 with fail
          have rf0 := (hx3.out.later HB6.out).free 0
          have rf1 := (hx3.out.later HB6.out).free 1
          go_upto_region 16 with fail
          go_region
          all_goals
            go_wp2_with fail
            obtain ⟨t1, t2, t3, t4⟩ := pair_turn (hlk.out.later HB6.out) (hx3.out.later HB6.out) (hx6.out.later HB6.out) (hadd.out.trans HB6.out) hw3 h36 _ _
            exact ⟨⟨k + 1, _, _, by omega, by go_num, Lib.hid t1, Lib.hid t2, Lib.hid t3, Lib.hid t4⟩, by simp [intOf]; omega⟩
    · go_wp2_with (go_at_call 19; refine (awake_any _).mono ?_; rintro e w9 ⟨rfl, hb9⟩)
      go_ret
      exact ⟨rfl, hadd.out.trans hb9⟩
end Go.Proofs.Ytofaioabjkcaiaa
