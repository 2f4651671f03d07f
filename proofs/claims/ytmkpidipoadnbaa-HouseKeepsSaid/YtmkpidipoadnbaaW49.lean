/- give. -/
import Derived.Test.YtmkpidipoadnbaaW48
namespace Go.Proofs.Ytmkpidipoadnbaa
open Go Go.RowKit Go.Sort

theorem info_hcfg : (Try.prog.info? 32).map (·.size) = some 6 := by kernel_rfl
set_option maxRecDepth 100000 in
set_option maxHeartbeats 4000000 in
theorem give_any (c : Cfg) (pp : Option Addr) (cp : Nat) (mp : Option Addr) (cm : Nat) (w : World) (hP : SrcAt w pp c.prices.length cp (c.prices.map (Value.int .i64))) (hM : MovesS w mp cm c.moves) :
    Calls Try.prog 6 #[.agg (cfgCells c pp cp mp cm)] w fun r w' => ∃ pp' cp' mp' cm', r = .returned (.agg (cfgCells (copyT c) pp' cp' mp' cm')) ∧ w'.ownsRow w.heap.size 2 1 (.slice pp' (copyT c).prices.length cp') (copyT c).prices.length ((copyT c).prices.map (Value.int .i64)) ∧ MovesO w' w.heap.size mp' cm' (copyT c).moves ∧ Adds w w' := by
  have HCO := Lib.hid (fun W (hW : Adds w W) => copied_any c pp cp mp cm W (hP.later hW) (hM.later hW))
  obtain ⟨d, hd⟩ : ∃ d, d = copyT c := ⟨_, rfl⟩
  simp only [← hd] at HCO ⊢
  clear hP hM hd
  obtain ⟨m0, m1, pl, ml, rt, ca⟩ := d
  unfold cfgCells at *
  dsimp only at *
  obtain ⟨np, hnp⟩ : ∃ n, n = pl.length := ⟨_, rfl⟩
  obtain ⟨nm, hnm⟩ : ∃ n, n = ml.length := ⟨_, rfl⟩
  simp only [← hnp, ← hnm] at HCO ⊢
  clear hnp hnm
  obtain ⟨c0, hc0⟩ : ∃ x, x = c.members := ⟨_, rfl⟩
  obtain ⟨c1, hc1⟩ : ∃ x, x = c.months := ⟨_, rfl⟩
  obtain ⟨c2, hc2⟩ : ∃ x, x = c.prices.length := ⟨_, rfl⟩
  obtain ⟨c3, hc3⟩ : ∃ x, x = c.moves.length := ⟨_, rfl⟩
  obtain ⟨c4, hc4⟩ : ∃ x, x = c.rate := ⟨_, rfl⟩
  obtain ⟨c5, hc5⟩ : ∃ x, x = c.cap := ⟨_, rfl⟩
  rw [← hc0, ← hc1, ← hc2, ← hc3, ← hc4, ← hc5] at HCO ⊢
  clear hc0 hc1 hc2 hc3 hc4 hc5
  obtain ⟨s, hs⟩ : ∃ s, s = w.heap.size := ⟨_, rfl⟩
  have HS := Lib.hid hs
  have HC1 := Lib.hid (HCO.out ((w.alloc (.cells #[.int .i64 c0, .int .i64 c1, .slice pp c2 cp, .slice mp c3 cm, .int .i64 c4, .int .i64 c5] 25)).alloc (.cells #[.int .i64 0, .int .i64 0, .slice none 0 0, .slice none 0 0, .int .i64 0, .int .i64 0] 32)) (((Adds.refl w).alloc _).alloc _))
  have HB1 : Hid (Box ((w.alloc (.cells #[.int .i64 c0, .int .i64 c1, .slice pp c2 cp, .slice mp c3 cm, .int .i64 c4, .int .i64 c5] 25)).alloc (.cells #[.int .i64 0, .int .i64 0, .slice none 0 0, .slice none 0 0, .int .i64 0, .int .i64 0] 32)) (s + 1) #[.int .i64 0, .int .i64 0, .slice none 0 0, .slice none 0 0, .int .i64 0, .int .i64 0] 32) := Lib.hid (box_new (by simp [hs]))
  clear HCO hs
  go_enter Try.func6, Try.ntmps6
  go_upto_region 2 with (go_at_call 20; refine HC1.out.mono ?_; rintro e w1 ⟨pp', cp', mp', cm', rfl, ho, hm, ha⟩; have HO := Lib.hid ho; have HM := Lib.hid hm; have HA := Lib.hid ha; clear ho hm ha)
  rw [← HS.out]
  have B1 := HB1.out.later HA.out
  obtain ⟨q, hq⟩ : ∃ q, q = w1.heap.size := ⟨_, rfl⟩
  rw [← hq]
  have b2 := B1.alloc (.cells #[.int .i64 m0, .int .i64 m1, .slice pp' np cp', .slice mp' nm cm', .int .i64 rt, .int .i64 ca] 25)
  have q2 : Box (w1.alloc (.cells #[.int .i64 m0, .int .i64 m1, .slice pp' np cp', .slice mp' nm cm', .int .i64 rt, .int .i64 ca] 25)) q #[.int .i64 m0, .int .i64 m1, .slice pp' np cp', .slice mp' nm cm', .int .i64 rt, .int .i64 ca] 25 := box_new hq
  have a2 : Adds w1 (w1.alloc (.cells #[.int .i64 m0, .int .i64 m1, .slice pp' np cp', .slice mp' nm cm', .int .i64 rt, .int .i64 ca] 25)) := (Adds.refl w1).alloc _
  obtain ⟨W2, hW2⟩ : ∃ V, V = w1.alloc (.cells #[.int .i64 m0, .int .i64 m1, .slice pp' np cp', .slice mp' nm cm', .int .i64 rt, .int .i64 ca] 25) := ⟨_, rfl⟩
  rw [← hW2] at b2 q2 a2 ⊢
  have B2 := Lib.hid b2
  have A2 := Lib.hid a2
  have v0 := q2.cell 0
  have v1 := q2.cell 1
  have v2 := q2.cell 2
  have v3 := q2.cell 3
  have v4 := q2.cell 4
  have v5 := q2.cell 5
  have z0 := b2.cell 0
  have g0 := b2.free 0
  have z1 := b2.cell 1
  have g1 := b2.free 1
  have z2 := b2.cell 2
  have g2 := b2.free 2
  have z3 := b2.cell 3
  have g3 := b2.free 3
  have z4 := b2.cell 4
  have g4 := b2.free 4
  have z5 := b2.cell 5
  have g5 := b2.free 5
  clear hW2 b2 q2 a2 B1 hq HB1
  go_wp2
  have hA2 : Adds w W2 := ((((Adds.refl w).alloc _).alloc _).trans HA.out).trans A2.out
  have hle : w.heap.size ≤ ((w.alloc (.cells #[.int .i64 c0, .int .i64 c1, .slice pp c2 cp, .slice mp c3 cm, .int .i64 c4, .int .i64 c5] 25)).alloc (.cells #[.int .i64 0, .int .i64 0, .slice none 0 0, .slice none 0 0, .int .i64 0, .int .i64 0] 32)).heap.size := by simp; omega
  have bF : Box (W2.setCells (s + 1) 0 [.int .i64 m0, .int .i64 m1, .slice pp' np cp', .slice mp' nm cm', .int .i64 rt, .int .i64 ca]) (s + 1) #[.int .i64 m0, .int .i64 m1, .slice pp' np cp', .slice mp' nm cm', .int .i64 rt, .int .i64 ca] 32 := B2.out.setCells [.int .i64 m0, .int .i64 m1, .slice pp' np cp', .slice mp' nm cm', .int .i64 rt, .int .i64 ca] 0
  refine post_row (vs := #[.int .i64 m0, .int .i64 m1, .slice pp' np cp', .slice mp' nm cm', .int .i64 rt, .int .i64 ca]) rfl rfl rfl rfl Try.underlying32 info_hcfg bF ⟨pp', cp', mp', cm', rfl, ?_, ?_, ?_⟩
  · exact own_heap (w' := W2.setCells (s + 1) 0 [.int .i64 m0, .int .i64 m1, .slice pp' np cp', .slice mp' nm cm', .int .i64 rt, .int .i64 ca]) (own_base_le (own_later HO.out A2.out) hle) B2.out (by decide) (fun kk hk => heap_setCells _ _ kk hk)
  · exact MovesO.heap (w' := W2.setCells (s + 1) 0 [.int .i64 m0, .int .i64 m1, .slice pp' np cp', .slice mp' nm cm', .int .i64 rt, .int .i64 ca]) ((HM.out.later A2.out).le hle) B2.out (by decide) (by decide) (fun kk hk => heap_setCells _ _ kk hk)
  · exact (show Adds w (W2.setCells (s + 1) 0 [.int .i64 m0, .int .i64 m1, .slice pp' np cp', .slice mp' nm cm', .int .i64 rt, .int .i64 ca]) from Adds.setCells (b := s + 1) (by have := HS.out; omega) _ 0 hA2)

end Go.Proofs.Ytmkpidipoadnbaa
