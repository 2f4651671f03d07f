/- The reference's sample. -/
import Derived.Test.YtofaioabjkcaiaaDK
namespace Go.Proofs.Ytofaioabjkcaiaa
open Go.RowKit

theorem info149 : (Try.prog.info? 149).map (fun i => (i.zero, i.size, i.bytes)) = some (some (.agg #[.int .i64 0, .int .i64 0]), 2, 16) := by kernel_rfl
theorem und144 : Try.prog.underlying 144 = some (.slice 149) := by kernel_rfl

set_option maxRecDepth 100000 in
set_option maxHeartbeats 2000000 in
theorem RSample_ok (x0 : Int) (n k : Nat) (w : World) (h0 : 0 ≤ x0) (h1 : x0 < 18446744073709551616) (hk : k ≤ n) (hn : n ≤ 1000000) :
    Calls Try.prog 40 #[.int .u64 x0, .int .i64 n, .int .i64 k] w fun e w' => ∃ u x F l, e = .returned (.tuple #[u, .int .i64 0]) ∧ Samp n x0 k x F l ∧ NumsAt w' u l ∧ Adds w w' := by
  obtain ⟨j0, hj, hj0, hj1, hj2⟩ := info_parts info3'
  have HJ := Lib.hid hj
  have HJ0 := Lib.hid hj0
  have HJ1 := Lib.hid hj1
  have HJ2 := Lib.hid hj2
  clear hj hj0 hj1 hj2
  obtain ⟨k0, hk0, hk1, hk2, hk3⟩ := info_parts info149
  have HK := Lib.hid hk0
  have HK0 := Lib.hid hk1
  have HK1 := Lib.hid hk2
  have HK2 := Lib.hid hk3
  clear hk0 hk1 hk2 hk3
  have g1 : decide ((k : Int) < 0) = false := decide_eq_false (by omega)
  have g2 : decide ((n : Int) < (k : Int)) = false := decide_eq_false (by omega)
  have g3 : decide ((1000000 : Int) < (n : Int)) = false := decide_eq_false (by omega)
  go_enter Try.func40, Try.ntmps40
  go_wp2_with fail
  go_loopw [8, 9, 10, 11] (fun v8 v9 v10 v11 wr => ∃ (i : Nat) (x : Int) (l : List Int) (E : List (Int × Int)) (u e : Value), i ≤ k ∧ v11 = .int .i64 i ∧ v10 = .int .u64 x ∧ u = v8 ∧ e = v9 ∧ Hid (Samp n x0 i x (exF E) l) ∧ Hid (wr.ownsRow w.heap.size 3 1 u i (numCells l)) ∧ Hid (wr.ownsRow w.heap.size 149 2 e i (E.flatMap exCells)) ∧ Hid (E.length = i) ∧ Hid (Adds w wr)) (fun _ _ _ v11 _ => k - (intOf v11).toNat)
  case atStart => exact ⟨0, x0, [], [], _, _, Nat.zero_le _, rfl, rfl, rfl, rfl, Lib.hid .zero, Lib.hid (World.ownsRow_nil _ _ _ _), Lib.hid (World.ownsRow_nil _ _ _ _), Lib.hid rfl, Lib.hid (Adds.refl _)⟩
  case round =>
    obtain ⟨i, x, l, E, u, e, hi, rfl, rfl, rfl, rfl, HS, hro, hex, hel, had⟩ := hrel
    by_cases hik : i < k
    · have hik2 : (i : Int) < (k : Int) := by omega
      obtain ⟨s0, s1⟩ := HS.out.st h0 h1
      have hni : IntKind.u64.wrap ((n : Int) - (i : Int)) = (n : Int) - (i : Int) := by rw [u64_w]; omega
      go_upto_region 10 with (go_at_call 87; refine (RBelow_any x ((n : Int) - (i : Int)) wr s0 s1 (by omega) (by omega)).mono ?_; rintro y0 w1 ⟨x', v, rfl, hd, ha1⟩; obtain ⟨v0, v1⟩ := hd.bd (by omega); have HD := Lib.hid hd; have HA1 := Lib.hid ha1; clear hd ha1)
      have hro1 : w1.ownsRow w.heap.size 3 1 u i (numCells l) := ownsRow_same hro.out (fun g hg => HA1.out.block g (hro.out.lt g hg).2)
      have hex1 : w1.ownsRow w.heap.size 149 2 e i (E.flatMap exCells) := ownsRow_same hex.out (fun g hg => HA1.out.block g (hex.out.lt g hg).2)
      have had1 : Adds w w1 := had.out.trans HA1.out
      have hval : ∀ q : Int, Calls Try.prog 88 #[e, .int .i64 q] w1 fun r w' => r = .returned (.int .i64 (exF E q)) ∧ w1 = w' := fun q => value_any e q E w1 (own_exAt hex1 hel.out.symm) (by rw [hel.out]; omega)
      have HVAL := Lib.hid hval
      have HRO := Lib.hid hro1
      have HEX := Lib.hid hex1
      have HAD := Lib.hid had1
      clear hval hro1 hex1 had1 hro hex had
      go_upto_region 12 with (go_at_call 88; refine (HVAL.out _).mono ?_; rintro y0 w' ⟨rfl, rfl⟩)
      obtain ⟨a, ha⟩ : ∃ a, a = exF E i := ⟨_, rfl⟩
      obtain ⟨b, hb⟩ : ∃ b, b = exF E ((i : Int) + v) := ⟨_, rfl⟩
      rw [← ha, ← hb]
      have HA := Lib.hid ha
      have HB := Lib.hid hb
      clear ha hb HVAL
      have hww := HAD.out.size
      go_upto_region 13 with (at_builtin; ((refine wpList_append_lies _ rfl _ _ 77 rfl w.heap.size 3 j0 (.int .i64 0) 1 8 Try.underlying77 HJ.out HJ0.out HJ1.out HJ2.out rfl (by decide) u i (numCells l) rfl (ownsRow_same HRO.out (fun g hg => ((Adds.refl w1).alloc _).block g (HRO.out.lt g hg).2)) ⟨w1.heap.size, 0, none⟩ 1 1 [.int .i64 b] rfl rfl (World.news_of_block (new_at rfl)) (by simp [Value.oneCell']) (by omega) (by unfold maxLen; omega) (by omega) (by simp; omega) _ rfl ?_); intro g9 c9 Vc hown hgrow hgat hglt; have HOWN := Lib.hid hown; have HEX2 := Lib.hid ((HEX.out.alloc (.cells #[.int .i64 b] 3 (0, 0))).kept hgrow (rows_apart HRO.out HEX.out (by decide))); have HAD2 := Lib.hid (adds_touch2 HAD.out (row_grow (n := i + 1) (cap := c9) ((Adds.refl w1).alloc _) hgrow hgat).1 (fun k hk => (HRO.out.lt k hk).1)); clear hown hgrow hgat))
      have hvw := HAD2.out.size
      go_wp2_with (at_builtin; ((refine wpList_append_lies _ rfl _ _ 144 rfl w.heap.size 149 k0 (.agg #[.int .i64 0, .int .i64 0]) 2 16 und144 HK.out HK0.out HK1.out HK2.out rfl (by decide) e i (E.flatMap exCells) rfl (ownsRow_same HEX2.out (fun g hg => ((Adds.refl Vc).alloc _).block g (HEX2.out.lt g hg).2)) ⟨Vc.heap.size, 0, none⟩ 1 1 [.int .i64 ((i : Int) + v), .int .i64 a] rfl rfl (World.news_of_block (new_at rfl)) (by simp [Value.oneCell']) (by omega) (by unfold maxLen; omega) (by omega) (by simp; omega) _ rfl ?_); intro g8 c8 Vd hown hgrow hgat hglt; have HOWN2 := Lib.hid hown; have HRO2 := Lib.hid ((HOWN.out.alloc (.cells #[.int .i64 ((i : Int) + v), .int .i64 a] 149 (0, 0))).kept hgrow (rows_apart HEX2.out HOWN.out (by decide))); have HAD3 := Lib.hid (adds_touch2 HAD2.out (row_grow (n := i + 1) (cap := c8) ((Adds.refl Vc).alloc _) hgrow hgat).1 (fun k hk => (HEX2.out.lt k hk).1)); clear hown hgrow hgat))
      refine ⟨⟨i + 1, x', l ++ [b], E ++ [((i : Int) + v, a)], _, _, by omega, by go_num, rfl, rfl, rfl, Lib.hid ?_, Lib.hid (num_more HRO2.out), Lib.hid ?_, Lib.hid (by have := hel.out; simp; omega), HAD3⟩, by simp [intOf]; omega⟩
      · rw [exF_more, HA.out, HB.out]
        exact .step HS.out (by omega) HD.out
      · have h := HOWN2.out
        rw [List.flatMap_append]
        exact h
    · have : i = k := by omega
      subst this
      go_wp2_with fail
      go_ret2
      exact ⟨_, x, _, l, rfl, HS.out, own_numsAt hro.out HS.out.length.symm, had.out⟩

end Go.Proofs.Ytofaioabjkcaiaa
