/- StockPast: the law's walk. -/
import Derived.Test.YtofaioabjkcaiaaCR
import Derived.Test.YtofaioabjkcaiaaCA
import Derived.Test.YtofaioabjkcaiaaAF
namespace Go.Proofs.Ytofaioabjkcaiaa
open Go.RowKit

set_option maxRecDepth 100000 in
set_option maxHeartbeats 8000000 in
theorem past_any (p : Option Addr) (N cap : Nat) (f : Nat → Nat → Int) (y : Int) (w : World) (hN : N ≤ maxLen) (hL : ActsAt w p N f) : Calls Try.prog 4 #[.slice p N cap, .int .i64 y] w fun e w' => e = .returned (.bool true) ∧ Adds w w' := by
  have hrun : Hid (Calls Try.prog 20 #[.slice p N cap, .int .i64 30] w (RunGot w 30)) := Lib.hid (run_any p N cap 30 f w hN hL (by omega))
  clear hL
  go_enter Try.func4, Try.ntmps4
  go_upto_region 2 with (go_at_call 20; refine hrun.out.mono ?_; rintro e w2 ⟨s, v, bs, Ts, g0, n0, c0, Ls, rfl, hlk, hbl, hs, hown, hb2⟩; have HLK := Lib.hid hlk; have HB2 := Lib.hid hb2; clear hlk hb2 hs hown)
  obtain ⟨b6, hb6⟩ : ∃ k, k = w2.heap.size := ⟨_, rfl⟩
  obtain ⟨W3, hW3⟩ : ∃ V, V = w2.alloc (.cells #[.slice (some ⟨g0, 0, none⟩) n0 c0] 27) := ⟨_, rfl⟩
  have A3 : Adds w2 W3 := by rw [hW3]; exact (Adds.refl _).alloc _
  have X6 : Box W3 b6 #[.slice (some ⟨g0, 0, none⟩) n0 c0] 27 := by rw [hW3, hb6]; exact Box.new _ _ _
  rw [← hW3, ← hb6]
  have HX6 := Lib.hid X6
  have HLK3 := Lib.hid (HLK.out.later A3)
  have HB3 := Lib.hid (HB2.out.trans A3)
  clear hW3 hb6 A3 X6 HLK HB2 hrun
  have HNN := Lib.hid (ref_len' HLK3.out.ref)
  have hnn1 : 0 < n0 := HNN.out.2.1
  have hnn2 : n0 ≤ 1000000 := HNN.out.2.2
  have HNB : Hid (n0 = bs.length + 1) := Lib.hid (by have := HNN.out.1; have := HLK3.out.len; omega)
  go_wp2_with fail
  go_loopw [7] (fun v7 wr => ∃ k : Nat, k ≤ n0 ∧ v7 = .int .i64 k ∧ Hid (Adds W3 wr)) (fun v7 _ => n0 - (intOf v7).toNat)
  case atStart => exact ⟨0, by omega, rfl, Lib.hid (Adds.refl _)⟩
  case round =>
    obtain ⟨k, hk, rfl, hadd⟩ := hrel
    have l6 := (HX6.out.later hadd.out).cell 0
    simp only [List.getElem?_toArray, List.getElem?_cons_zero] at l6
    by_cases hlt : k < n0
    · obtain ⟨u, L, hkL, hcu, hru⟩ := ref_ver (HLK3.out.ref.later hadd.out) hlt
      have HSH := Lib.hid (HLK3.out.shows hadd.out hkL hru)
      clear hkL hru
      go_wp2_with (go_at_call 17; refine HSH.out.mono ?_; rintro e w4 ⟨rfl, hb4⟩)
      exact ⟨⟨k + 1, by omega, by go_num, Lib.hid (hadd.out.trans hb4)⟩, by simp [intOf]; omega⟩
    · have hst := Lib.hid (show StockAt wr.heap.size wr s v bs Ts from (HLK3.out.stock.later hadd.out).tight)
      by_cases hy0 : 0 ≤ y
      · by_cases hy1 : y < n0
        · have hz : (n0 : Int) < 0 ∨ (bs.length : Int) < n0 := by have := HNB.out; omega
          have HZ := Lib.hid hz
          clear hz
          go_wp2_with (first
            | (go_at_call 21; refine (Pocket_none _ s v bs Ts 1 n0 _ hst.out HZ.out).mono ?_; rintro e w5 ⟨rfl, hb5⟩; simp only [Pk.val, pk0]; have HP := Lib.hid (hb5.alloc (.cells #[.int .i64 0, .int .i64 0, .int .i64 0, .int .i64 0] 44)); have X8 := Box.new w5 #[.int .i64 0, .int .i64 0, .int .i64 0, .int .i64 0] 44; have z0 := X8.cell 0; have z1 := X8.cell 1; have z2 := X8.cell 2; have z3 := X8.cell 3; simp only [List.getElem?_toArray, List.getElem?_cons_zero, List.getElem?_cons_succ] at z0 z1 z2 z3; clear X8 hb5)
            | (go_at_call 22; refine (Holds_none _ s v bs Ts 0 n0 _ (hst.out.later HP.out) HZ.out).mono ?_; rintro e w6 ⟨rfl, hb⟩; replace z0 := keep_cell hb z0; replace z1 := keep_cell hb z1; replace z2 := keep_cell hb z2; replace z3 := keep_cell hb z3; replace HP := Lib.hid (HP.out.trans hb); clear hb)
            | (go_at_call 23; refine (Pledged_none _ s v bs Ts 1 n0 _ (hst.out.later HP.out) HZ.out).mono ?_; rintro e w7 ⟨rfl, hb⟩; replace z0 := keep_cell hb z0; replace z1 := keep_cell hb z1; replace z2 := keep_cell hb z2; replace z3 := keep_cell hb z3; replace HP := Lib.hid (HP.out.trans hb); clear hb)
            | (go_at_call 24; refine (Count_none _ s v bs Ts 1 n0 _ (hst.out.later HP.out) HZ.out).mono ?_; rintro e w8 ⟨rfl, hb⟩; replace z0 := keep_cell hb z0; replace z1 := keep_cell hb z1; replace z2 := keep_cell hb z2; replace z3 := keep_cell hb z3; replace HP := Lib.hid (HP.out.trans hb); clear hb)
            | (go_at_call 19; refine (awake_any _).mono ?_; rintro e w9 ⟨rfl, hb9⟩))
          go_ret
          exact ⟨rfl, ((HB3.out.trans hadd.out).trans HP.out).trans hb9⟩
        · have HZ := Lib.hid (show y < 0 ∨ (bs.length : Int) < y by have := HNB.out; omega)
          go_wp2_with (first
            | (go_at_call 21; refine (Pocket_none _ s v bs Ts 1 y _ hst.out HZ.out).mono ?_; rintro e w5 ⟨rfl, hb5⟩; simp only [Pk.val, pk0]; have HP := Lib.hid (hb5.alloc (.cells #[.int .i64 0, .int .i64 0, .int .i64 0, .int .i64 0] 44)); have X8 := Box.new w5 #[.int .i64 0, .int .i64 0, .int .i64 0, .int .i64 0] 44; have z0 := X8.cell 0; have z1 := X8.cell 1; have z2 := X8.cell 2; have z3 := X8.cell 3; simp only [List.getElem?_toArray, List.getElem?_cons_zero, List.getElem?_cons_succ] at z0 z1 z2 z3; clear X8 hb5)
            | (go_at_call 22; refine (Holds_none _ s v bs Ts 0 y _ (hst.out.later HP.out) HZ.out).mono ?_; rintro e w6 ⟨rfl, hb⟩; replace z0 := keep_cell hb z0; replace z1 := keep_cell hb z1; replace z2 := keep_cell hb z2; replace z3 := keep_cell hb z3; replace HP := Lib.hid (HP.out.trans hb); clear hb)
            | (go_at_call 23; refine (Pledged_none _ s v bs Ts 1 y _ (hst.out.later HP.out) HZ.out).mono ?_; rintro e w7 ⟨rfl, hb⟩; replace z0 := keep_cell hb z0; replace z1 := keep_cell hb z1; replace z2 := keep_cell hb z2; replace z3 := keep_cell hb z3; replace HP := Lib.hid (HP.out.trans hb); clear hb)
            | (go_at_call 24; refine (Count_none _ s v bs Ts 1 y _ (hst.out.later HP.out) HZ.out).mono ?_; rintro e w8 ⟨rfl, hb⟩; replace z0 := keep_cell hb z0; replace z1 := keep_cell hb z1; replace z2 := keep_cell hb z2; replace z3 := keep_cell hb z3; replace HP := Lib.hid (HP.out.trans hb); clear hb)
            | (go_at_call 19; refine (awake_any _).mono ?_; rintro e w9 ⟨rfl, hb9⟩))
          go_ret
          exact ⟨rfl, ((HB3.out.trans hadd.out).trans HP.out).trans hb9⟩
      · have HZ := Lib.hid (show y < 0 ∨ (bs.length : Int) < y by omega)
        go_wp2_with (first
          | (go_at_call 21; refine (Pocket_none _ s v bs Ts 1 y _ hst.out HZ.out).mono ?_; rintro e w5 ⟨rfl, hb5⟩; simp only [Pk.val, pk0]; have HP := Lib.hid (hb5.alloc (.cells #[.int .i64 0, .int .i64 0, .int .i64 0, .int .i64 0] 44)); have X8 := Box.new w5 #[.int .i64 0, .int .i64 0, .int .i64 0, .int .i64 0] 44; have z0 := X8.cell 0; have z1 := X8.cell 1; have z2 := X8.cell 2; have z3 := X8.cell 3; simp only [List.getElem?_toArray, List.getElem?_cons_zero, List.getElem?_cons_succ] at z0 z1 z2 z3; clear X8 hb5)
          | (go_at_call 22; refine (Holds_none _ s v bs Ts 0 y _ (hst.out.later HP.out) HZ.out).mono ?_; rintro e w6 ⟨rfl, hb⟩; replace z0 := keep_cell hb z0; replace z1 := keep_cell hb z1; replace z2 := keep_cell hb z2; replace z3 := keep_cell hb z3; replace HP := Lib.hid (HP.out.trans hb); clear hb)
          | (go_at_call 23; refine (Pledged_none _ s v bs Ts 1 y _ (hst.out.later HP.out) HZ.out).mono ?_; rintro e w7 ⟨rfl, hb⟩; replace z0 := keep_cell hb z0; replace z1 := keep_cell hb z1; replace z2 := keep_cell hb z2; replace z3 := keep_cell hb z3; replace HP := Lib.hid (HP.out.trans hb); clear hb)
          | (go_at_call 24; refine (Count_none _ s v bs Ts 1 y _ (hst.out.later HP.out) HZ.out).mono ?_; rintro e w8 ⟨rfl, hb⟩; replace z0 := keep_cell hb z0; replace z1 := keep_cell hb z1; replace z2 := keep_cell hb z2; replace z3 := keep_cell hb z3; replace HP := Lib.hid (HP.out.trans hb); clear hb)
          | (go_at_call 19; refine (awake_any _).mono ?_; rintro e w9 ⟨rfl, hb9⟩))
        go_ret
        exact ⟨rfl, ((HB3.out.trans hadd.out).trans HP.out).trans hb9⟩
end Go.Proofs.Ytofaioabjkcaiaa
