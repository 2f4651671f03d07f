/- StockForks: the law's walk. -/
import Derived.Test.YtofaioabjkcaiaaCX
import Derived.Test.YtofaioabjkcaiaaCR
import Derived.Test.YtofaioabjkcaiaaAF
import Derived.Deep.DeepCutAuto
import Derived.Deep.CutBlock
import Derived.Deep.RegionHeld3
namespace Go.Proofs.Ytofaioabjkcaiaa
open Go.RowKit

theorem link_atLast {w : World} {s : Nat} {v : Value} {bs : List Nat} {Ts : List Tree} {g0 n0 c0 : Nat} {Ls : List (List Piece)} (h : Link w s v bs Ts g0 n0 c0 Ls) : Ls[bs.length]? = some (Ls.getLastD []) := by
  have hl : Ls[bs.length]? = some (Ls[bs.length]'(by have := h.len; omega)) := List.getElem?_eq_getElem _
  rw [List.getLastD_eq_getLast?, List.getLast?_eq_getElem?, show Ls.length - 1 = bs.length by have := h.len; omega, hl]; rfl

theorem version_at {B : Nat} (s : Nat) (v : Value) (bs : List Nat) (Ts : List Tree) (z : Int) (w : World) (h : StockAt B w s v bs Ts) (hz : (bs.length : Int) = z) :
    Calls Try.prog 16 #[.pointer (some ⟨s, 0, none⟩)] w fun e w' => e = .returned (.int .i64 z) ∧ w = w' := by subst hz; exact version_any B s v bs Ts w h

set_option maxRecDepth 100000 in
set_option maxHeartbeats 8000000 in
theorem forks_any (p q : Option Addr) (N cap M cap2 : Nat) (f h : Nat → Nat → Int) (w : World) (hN : N ≤ maxLen) (hM : M ≤ maxLen) (hL : ActsAt w p N f) (hL2 : ActsAt w q M h) : Calls Try.prog 7 #[.slice p N cap, .slice q M cap2] w fun e w' => e = .returned (.bool true) ∧ Adds w w' := by
  have hrun : Hid (Calls Try.prog 20 #[.slice p N cap, .int .i64 20] w (RunGot w 20)) := Lib.hid (run_any p N cap 20 f w hN hL (by omega))
  have HL2 := Lib.hid hL2
  have hM63 : (M : Int) ≤ 9223372036854775807 := by unfold maxLen at hM; omega
  clear hL hL2
  go_enter Try.func7, Try.ntmps7
  go_upto_region 2 with (go_at_call 20; refine hrun.out.mono ?_; rintro e w2 ⟨s, v, bs, Ts, g0, n0, c0, Ls, rfl, hlk, hbl, hs, hown, hb2⟩; have HLK := Lib.hid hlk; have HB2 := Lib.hid hb2; have HOW := Lib.hid hown; clear hlk hb2 hown)
  obtain ⟨b6, hb6⟩ : ∃ k, k = w2.heap.size := ⟨_, rfl⟩
  obtain ⟨W3, hW3⟩ : ∃ V, V = w2.alloc (.cells #[.slice (some ⟨g0, 0, none⟩) n0 c0] 27) := ⟨_, rfl⟩
  have A3 : Adds w2 W3 := by rw [hW3]; exact (Adds.refl _).alloc _
  have X6 : Box W3 b6 #[.slice (some ⟨g0, 0, none⟩) n0 c0] 27 := by rw [hW3, hb6]; exact Box.new _ _ _
  have hs2 : s < w2.heap.size := HLK.out.stock.box.lt
  have hg2 : g0 < w2.heap.size := ref_lt HLK.out.ref
  rw [← hW3, ← hb6]
  have HX6 := Lib.hid X6
  have HLK3 := Lib.hid (HLK.out.later A3)
  have HB3 := Lib.hid (HB2.out.trans A3)
  have z3 := A3.size
  have x6l := X6.lt
  have hsb6 : b6 ≠ s := by omega
  have hb6w : w2.heap.size ≤ b6 := by omega
  clear hW3 A3 X6 HLK hrun hb6
  obtain ⟨nb, hnb⟩ : ∃ n, n = bs.length := ⟨_, rfl⟩
  have HNB := Lib.hid hnb
  have n1 : ((nb : Int) != (nb : Int)) = false := by simp
  clear hnb
  go_upto_region 5 with (go_at_call 31; refine (Fork_any s v bs Ts _ HLK3.out.stock (by omega)).mono ?_; rintro e w4 ⟨fk, vf, rfl, hF, hfw, hfo, hb4⟩; have HF := Lib.hid hF; have HFO := Lib.hid hfo; have HB4 := Lib.hid hb4; clear hF hfo hb4)
  go_upto_region 7 with (first
    | (go_at_call_of 16 (Value.pointer (some (⟨fk, 0, none⟩ : Addr))); refine (version_at fk vf bs Ts nb _ HF.out (by have := HNB.out; omega)).mono ?_; rintro e w' ⟨rfl, rfl⟩)
    | (go_at_call_of 16 (Value.pointer (some (⟨s, 0, none⟩ : Addr))); refine (version_at s v bs Ts nb _ (HLK3.out.stock.later HB4.out) (by have := HNB.out; omega)).mono ?_; rintro e w' ⟨rfl, rfl⟩))
  have hfl : fk < w4.heap.size := HF.out.box.lt
  have z4 := HB4.out.size
  have x6 := (HX6.out.later HB4.out).first
  go_upto_region 8 with fail
  obtain ⟨b8, hb8⟩ : ∃ k, k = w4.heap.size := ⟨_, rfl⟩
  obtain ⟨W8, hW8⟩ : ∃ V, V = w4.alloc (.cells #[.slice (some ⟨g0, 0, none⟩) n0 c0] 27) := ⟨_, rfl⟩
  have A8 : Adds w4 W8 := by rw [hW8]; exact (Adds.refl _).alloc _
  have X8 : Box W8 b8 #[.slice (some ⟨g0, 0, none⟩) n0 c0] 27 := by rw [hW8, hb8]; exact Box.new _ _ _
  have A38 := HB4.out.trans A8
  have hwW3 := HB3.out.size
  have hD0 : Duo w fk b8 s b6 b6 g0 n0 c0 Ls vf bs Ts g0 n0 c0 Ls v bs Ts g0 n0 c0 Ls W8 :=
    ⟨⟨(HF.out.later A8).tight, HLK3.out.ref.later A38, by omega, HLK3.out.len, HLK3.out.can, HLK3.out.good⟩, X8, HLK3.out.later A38, HX6.out.later A38, HLK3.out.ref.later A38, HX6.out.later A38,
      ⟨by omega, by omega, by omega, by omega, by omega⟩, ⟨by omega, by omega, by omega, by omega, by omega⟩, ⟨by omega, by omega⟩, HLK3.out.off,
      fun j hj => ⟨by have := HFO.out j hj; omega, fun e => by have := HFO.out j hj; have := (HLK3.out.stock.row.lt j e).2; omega⟩, HB3.out.trans A38⟩
  rw [← hW8, ← hb8]
  have HD0 := Lib.hid hD0
  have HCX := Lib.hid HLK3.out.last
  have HGX := Lib.hid (HLK3.out.good bs.length · (Nat.le_refl _))
  have HNX := Lib.hid (show n0 = nb + 1 by have h1 := ref_len' HLK3.out.ref; have h2 := HLK3.out.len; have := HNB.out; omega)
  have HOV : Hid (∀ j, v.ownBlock = some j → w.heap.size ≤ j) := HOW
  have hwf : w.heap.size ≤ fk := by omega
  have hwb8 : w.heap.size ≤ b8 := by omega
  have hws : w.heap.size ≤ s := hs
  have hnb20 : nb ≤ 20 := by have := HNB.out; omega
  clear hD0 hW8 hb8 A8 X8 A38 HLK3 HX6 HB3 HB4 HF HFO HB2 HOW x6 z3 z4 x6l hs2 hg2 hb6w hfl hfw hbl hs hwW3
  go_upto_block 0 with fail
  go_cut [9] (fun s9 wc => ∃ (vf : Value) (bf : List Nat) (Tf : List Tree) (gy ny cy : Nat) (Ly : List (List Piece)), s9 = .bool true ∧ Hid (Duo w fk b8 s b6 b6 g0 n0 c0 Ls vf bf Tf gy ny cy Ly v bs Ts g0 n0 c0 Ls wc) ∧ Hid (nb ≤ bf.length ∧ bf.length ≤ 32) ∧ Hid (∀ i, i ≤ nb → treeOf Tf i = treeOf Ts i))
  case first =>
    go_wp2_with fail
    go_loopw [9, 10] (fun v9 v10 wr => ∃ (k : Nat) (vf : Value) (bf : List Nat) (Tf : List Tree) (gy ny cy : Nat) (Ly : List (List Piece)), k ≤ M ∧ k ≤ 12 ∧ v10 = .int .i64 k ∧ v9 = .bool true ∧ Hid (Duo w fk b8 s b6 b6 g0 n0 c0 Ls vf bf Tf gy ny cy Ly v bs Ts g0 n0 c0 Ls wr) ∧ Hid (nb ≤ bf.length ∧ bf.length ≤ 20 + k) ∧ Hid (∀ i, i ≤ nb → treeOf Tf i = treeOf Ts i)) (fun _ v10 _ => M - (intOf v10).toNat)
    case atStart => exact ⟨0, vf, bs, Ts, g0, n0, c0, Ls, by omega, by omega, rfl, rfl, HD0, Lib.hid (by have := HNB.out; omega), Lib.hid (fun _ _ => rfl)⟩
    case round =>
      clear HD0
      obtain ⟨k, vf, bf, Tf, gy, ny, cy, Ly, hk, hk2, rfl, rfl, hD, hfew, hold0⟩ := hrel
      by_cases h1 : k < M
      · by_cases h2 : k < 12
        · have hk12 : decide ((k : Int) < 12) = true := decide_eq_true (by omega)
          go_upto_region 11 with fail
          obtain ⟨g, off, rfl, hc⟩ := HL2.out k h1
          have d0 := keep_cell hD.out.adds (hc 0 (by omega))
          have d1 := keep_cell hD.out.adds (hc 1 (by omega))
          have d2 := keep_cell hD.out.adds (hc 2 (by omega))
          have d3 := keep_cell hD.out.adds (hc 3 (by omega))
          have d4 := keep_cell hD.out.adds (hc 4 (by omega))
          have d5 := keep_cell hD.out.adds (hc 5 (by omega))
          have hgw : g < w.heap.size := cell_lt (hc 0 (by omega))
          have hng : Hid (¬ (g = fk ∨ vf.ownBlock = some g)) := Lib.hid (fun h => h.elim (fun h => by omega) (fun h => by have := (hD.out.own1 g h).1; omega))
          have hgb : b8 ≠ g := by omega
          simp only [Nat.add_zero] at d0
          clear hc
          have l7 := hD.out.box1.first
          refine wp_region_held_drew (S := (fun w' => w'.cell? ⟨g, off + k * 6, none⟩ = some (.int .i64 (h k 0)) ∧ w'.cell? ⟨g, off + k * 6 + 1, none⟩ = some (.int .i64 (h k 1)) ∧ w'.cell? ⟨g, off + k * 6 + 2, none⟩ = some (.int .i64 (h k 2)) ∧ w'.cell? ⟨g, off + k * 6 + 3, none⟩ = some (.int .i64 (h k 3)) ∧ w'.cell? ⟨g, off + k * 6 + 4, none⟩ = some (.int .i64 (h k 4)) ∧ w'.cell? ⟨g, off + k * 6 + 5, none⟩ = some (.int .i64 (h k 5)))) (by kernel_rfl) ⟨d0, d1, d2, d3, d4, d5⟩ (fun hHeld => ?_)
          refine wpAnyH_take (i := 0) (oi := ⟨some 46, _, _, _, _, _⟩) (v := ?v1) rfl (by kernel_rfl) (by kernel_rfl) (by kernel_rfl) (fun _ _ _ h => h) (Or.inl ⟨by rfl, ?hy1⟩) (by assumption) ?rest1
          case hy1 => (intro w hSw; (try dsimp only at hSw); go_simp; try with_reducible rfl)
          try simp only [Act.put, List.setIfInBounds_toArray, List.set_cons_zero, List.set_cons_succ]
          refine wpAnyH_take (i := 2) (oi := ⟨some 48, _, _, _, _, _⟩) (v := ?v2) rfl (by kernel_rfl) (by kernel_rfl) (by kernel_rfl) (fun _ _ _ h => h) (Or.inl ⟨by rfl, ?hy2⟩) (by assumption) ?rest2
          case hy2 => (intro w hSw; (try dsimp only at hSw); go_simp; try with_reducible rfl)
          try simp only [Act.put, List.setIfInBounds_toArray, List.set_cons_zero, List.set_cons_succ]
          refine wpAnyH_take (i := 3) (oi := ⟨some 49, _, _, _, _, _⟩) (v := ?v3) rfl (by kernel_rfl) (by kernel_rfl) (by kernel_rfl) (fun _ _ _ h => h) (Or.inl ⟨by rfl, ?hy3⟩) (by assumption) ?rest3
          case hy3 => (intro w hSw; (try dsimp only at hSw); go_simp; try with_reducible rfl)
          try simp only [Act.put, List.setIfInBounds_toArray, List.set_cons_zero, List.set_cons_succ]
          refine wpAnyH_take (i := 4) (oi := ⟨some 50, _, _, _, _, _⟩) (v := ?v4) rfl (by kernel_rfl) (by kernel_rfl) (by kernel_rfl) (fun _ _ _ h => h) (Or.inl ⟨by rfl, ?hy4⟩) (by assumption) ?rest4
          case hy4 => (intro w hSw; (try dsimp only at hSw); go_simp; try with_reducible rfl)
          try simp only [Act.put, List.setIfInBounds_toArray, List.set_cons_zero, List.set_cons_succ]
          refine wpAnyH_take (i := 5) (oi := ⟨some 51, _, _, _, _, _⟩) (v := ?v5) rfl (by kernel_rfl) (by kernel_rfl) (by kernel_rfl) (fun _ _ _ h => h) (Or.inl ⟨by rfl, ?hy5⟩) (by assumption) ?rest5
          case hy5 => (intro w hSw; (try dsimp only at hSw); go_simp; try with_reducible rfl)
          try simp only [Act.put, List.setIfInBounds_toArray, List.set_cons_zero, List.set_cons_succ]
          have l7d : wr.drew.cell? ⟨b8, 0, none⟩ = some (.slice (some ⟨gy, 0, none⟩) ny cy) := l7
          refine wpAnyH_ready (rs := [1]) (by kernel_rfl) (by simp) ?_
          refine AllReadyH.cons (o := ⟨some 47, _, _, _, _, _⟩) rfl (fun K hK => ?_) AllReadyH.nil
          go_simp
          refine hK.out _ _ ⟨d0, d1, d2, d3, d4, d5⟩ (fun hHeld => ?_)
          clear hK K
          try simp only [Act.put, List.setIfInBounds_toArray, List.set_cons_zero, List.set_cons_succ]
          refine wpAnyH_ready (rs := [6]) (by kernel_rfl) (by simp) ?_
          refine AllReadyH.cons (o := ⟨some 52, _, _, _, _, _⟩) rfl (fun K hK => ?_) AllReadyH.nil
          go_simp
          refine (do_link2 fk vf bf Tf gy ny cy Ly (h k 0) (h k 1) (h k 2) (h k 3) (h k 4) (h k 5) _ (hD.out.one.later (Adds.refl wr).drew) (by have := hfew.out; omega)).mono ?_
          rintro e w8 hd8
          obtain ⟨va', bsA', TsA', g1, n1, c1, LsA', rfl, ht, y7, hb2, hb1, hold, hD'⟩ := hD.out.next hwf hwb8 (Adds.refl wr).drew hd8
          replace d0 := touch_cell ht hng.out d0
          replace d1 := touch_cell ht hng.out d1
          replace d2 := touch_cell ht hng.out d2
          replace d3 := touch_cell ht hng.out d3
          replace d4 := touch_cell ht hng.out d4
          replace d5 := touch_cell ht hng.out d5
          have m7 := y7.first
          have mf := y7.free 0
          have HD' := Lib.hid hD'
          have HOLD := Lib.hid hold
          clear l7 l7d hd8 hD' ht hold
          refine hK.out _ _ ⟨d0, d1, d2, d3, d4, d5⟩ (fun hHeld => ?_)
          clear hK K
          try simp only [Act.put, List.setIfInBounds_toArray, List.set_cons_zero, List.set_cons_succ]
          refine wpAnyH_take (i := 7) (oi := ⟨some 45, _, _, _, _, _⟩) (v := ?v6) rfl (by kernel_rfl) (by kernel_rfl) (by kernel_rfl) (fun _ _ _ h => h) (Or.inl ⟨by rfl, ?hy6⟩) (by assumption) ?rest6
          case hy6 => (intro w hSw; (try dsimp only at hSw); go_simp; try with_reducible rfl)
          try simp only [Act.put, List.setIfInBounds_toArray, List.set_cons_zero, List.set_cons_succ]
          refine wpAnyH_take (i := 8) (oi := ⟨some 53, _, _, _, _, _⟩) (v := ?v7) rfl (by kernel_rfl) (by kernel_rfl) (by kernel_rfl) (fun _ _ _ h => h) (Or.inl ⟨by rfl, ?hy7⟩) (by assumption) ?rest7
          case hy7 => (intro w hSw; (try dsimp only at hSw); go_simp; try with_reducible rfl)
          try simp only [Act.put, List.setIfInBounds_toArray, List.set_cons_zero, List.set_cons_succ]
          refine wpAnyH_take (i := 9) (oi := ⟨some 54, _, _, _, _, _⟩) (v := ?v8) rfl (by kernel_rfl) (by kernel_rfl) (by kernel_rfl) (fun _ _ _ h => h) (Or.inl ⟨by rfl, ?hy8⟩) (by assumption) ?rest8
          case hy8 => (intro w hSw; (try dsimp only at hSw); go_simp; try with_reducible rfl)
          try simp only [Act.put, List.setIfInBounds_toArray, List.set_cons_zero, List.set_cons_succ]
          refine wpAnyH_ready (rs := [10]) (by kernel_rfl) (by simp) ?_
          refine AllReadyH.cons (o := ⟨none, _, _, _, _, _⟩) rfl (fun K hK => ?_) AllReadyH.nil
          go_simp
          replace d0 := (World.cell?_setCell_far (w := w8) ⟨b8, 0, none⟩ _ (.slice (some ⟨g1, 0, none⟩) n1 c1) (by exact hgb)).trans d0
          replace d1 := (World.cell?_setCell_far (w := w8) ⟨b8, 0, none⟩ _ (.slice (some ⟨g1, 0, none⟩) n1 c1) (by exact hgb)).trans d1
          replace d2 := (World.cell?_setCell_far (w := w8) ⟨b8, 0, none⟩ _ (.slice (some ⟨g1, 0, none⟩) n1 c1) (by exact hgb)).trans d2
          replace d3 := (World.cell?_setCell_far (w := w8) ⟨b8, 0, none⟩ _ (.slice (some ⟨g1, 0, none⟩) n1 c1) (by exact hgb)).trans d3
          replace d4 := (World.cell?_setCell_far (w := w8) ⟨b8, 0, none⟩ _ (.slice (some ⟨g1, 0, none⟩) n1 c1) (by exact hgb)).trans d4
          replace d5 := (World.cell?_setCell_far (w := w8) ⟨b8, 0, none⟩ _ (.slice (some ⟨g1, 0, none⟩) n1 c1) (by exact hgb)).trans d5
          refine hK.out _ _ ⟨d0, d1, d2, d3, d4, d5⟩ (fun hHeld => ?_)
          clear hK K
          try simp only [Act.put, List.setIfInBounds_toArray, List.set_cons_zero, List.set_cons_succ]
          refine wpAnyH_take (i := 11) (oi := ⟨some 9, _, _, _, _, _⟩) (v := ?v9) rfl (by kernel_rfl) (by kernel_rfl) (by kernel_rfl) (fun _ _ _ h => h) (Or.inl ⟨by rfl, ?hy9⟩) (by assumption) ?rest9
          case hy9 => (intro w hSw; (try dsimp only at hSw); go_simp; try with_reducible rfl)
          try simp only [Act.put, List.setIfInBounds_toArray, List.set_cons_zero, List.set_cons_succ]
          refine wpAnyH_done (by kernel_rfl) ?_ _
          clear hHeld
          go_wp2_with fail
          exact ⟨⟨k + 1, va', bsA', TsA', g1, n1, c1, LsA', by omega, by omega, by go_num, rfl, HD', Lib.hid (by have := hfew.out; omega), Lib.hid (fun i hi => by rw [HOLD.out i (by have := hfew.out; omega)]; exact hold0.out i hi)⟩, by simp [intOf]; omega⟩
        · have hk12 : decide ((k : Int) < 12) = false := decide_eq_false (by omega)
          have hk12' : ¬ ((k : Int) < 12) := by omega
          go_wp2_with fail
          go_meet
          exact ⟨vf, bf, Tf, gy, ny, cy, Ly, rfl, hD, Lib.hid (by have := hfew.out; omega), hold0⟩
      · go_wp2_with fail
        go_meet
        exact ⟨vf, bf, Tf, gy, ny, cy, Ly, rfl, hD, Lib.hid (by have := hfew.out; omega), hold0⟩
  case rest =>
    clear HD0
    rename World => wc
    obtain ⟨vf, bf, Tf, gy, ny, cy, Ly, rfl, hD, hfew, hold0⟩ := hcut
    have x6 := hD.out.box3.first
    go_upto_region 13 with fail
    obtain ⟨b11, hb11⟩ : ∃ k, k = wc.heap.size := ⟨_, rfl⟩
    obtain ⟨W11, hW11⟩ : ∃ V, V = wc.alloc (.cells #[.slice (some ⟨g0, 0, none⟩) n0 c0] 27) := ⟨_, rfl⟩
    have A11 : Adds wc W11 := by rw [hW11]; exact (Adds.refl _).alloc _
    have X11 : Box W11 b11 #[.slice (some ⟨g0, 0, none⟩) n0 c0] 27 := by rw [hW11, hb11]; exact Box.new _ _ _
    have hD1 : Duo w s b11 fk b8 b6 g0 n0 c0 Ls v bs Ts g0 n0 c0 Ls vf bf Tf gy ny cy Ly W11 := by
      obtain ⟨e1, e2, e3, e4, e5⟩ := hD.out.ne
      obtain ⟨f1, f2, f3, f4, f5⟩ := hD.out.ne2
      have t1 := hD.out.one.stock.box.lt
      have t2 := hD.out.two.stock.box.lt
      have t3 := hD.out.box1.lt
      have t4 := hD.out.box3.lt
      have t5 := ref_lt hD.out.ref
      have t6 := ref_lt hD.out.one.ref
      exact ⟨hD.out.two.later A11, X11, hD.out.one.later A11, hD.out.box1.later A11, hD.out.ref.later A11, hD.out.box3.later A11,
        ⟨Ne.symm e1, by omega, by omega, e3, hsb6⟩, ⟨by omega, hD.out.ne4, by omega, hD.out.two.off, by omega⟩, ⟨by omega, by omega⟩, f4,
        fun j hj => ⟨HOV.out j hj, fun e => (hD.out.own1 j e).2 hj⟩, hD.out.adds.trans A11⟩
    have hwb11 : w.heap.size ≤ b11 := by have := hD.out.adds.size; omega
    rw [← hW11, ← hb11]
    have HD1 := Lib.hid hD1
    clear hD1 hW11 hb11 A11 X11 x6 hD
    go_upto_block 2 with fail
    go_cut [9] (fun s9 wc => ∃ (v : Value) (bs' : List Nat) (Ts' : List Tree) (gz nz cz : Nat) (Lz : List (List Piece)), s9 = .bool true ∧ Hid (Duo w s b11 fk b8 b6 g0 n0 c0 Ls v bs' Ts' gz nz cz Lz vf bf Tf gy ny cy Ly wc) ∧ Hid (bs'.length ≤ 40))
    case first =>
      have e10 : wrap64 ((M : Int) - 10) = (M : Int) - 10 := by unfold wrap64; omega
      have e11 : IntKind.i64.wrap ((M : Int) - 10) = (M : Int) - 10 := by rw [i64_w', e10]
      have e12 : wrap64 ((M : Int) - 1) = (M : Int) - 1 := by unfold wrap64; omega
      go_wp2_with fail
      go_loopw [9, 12] (fun v9 v12 wr => ∃ (i : Int) (v : Value) (bs' : List Nat) (Ts' : List Tree) (gz nz cz : Nat) (Lz : List (List Piece)), -1 ≤ i ∧ i < M ∧ v12 = .int .i64 i ∧ v9 = .bool true ∧ Hid (Duo w s b11 fk b8 b6 g0 n0 c0 Ls v bs' Ts' gz nz cz Lz vf bf Tf gy ny cy Ly wr) ∧ Hid ((bs'.length : Int) ≤ 20 + ((M : Int) - 1 - i) ∧ (M : Int) - 1 - i ≤ 10)) (fun _ v12 _ => (intOf v12 + 1).toNat)
      case atStart => exact ⟨_, v, bs, Ts, g0, n0, c0, Ls, by omega, by omega, rfl, rfl, HD1, Lib.hid (by have := HNB.out; omega)⟩
      case round =>
        clear HD1
        obtain ⟨i, v, bs', Ts', gz, nz, cz, Lz, hi, hi2, rfl, rfl, hD, hfew2⟩ := hrel
        by_cases hi0 : 0 ≤ i
        · obtain ⟨k, rfl⟩ : ∃ k : Nat, i = k := ⟨i.toNat, by omega⟩
          have h1 : k < M := by omega
          by_cases h2 : (M : Int) - 10 < (k : Int)
          · have hk12 : decide ((M : Int) - 10 < (k : Int)) = true := decide_eq_true h2
            go_upto_region 16 with fail
            obtain ⟨g, off, rfl, hc⟩ := HL2.out k h1
            have d0 := keep_cell hD.out.adds (hc 0 (by omega))
            have d1 := keep_cell hD.out.adds (hc 1 (by omega))
            have d2 := keep_cell hD.out.adds (hc 2 (by omega))
            have d3 := keep_cell hD.out.adds (hc 3 (by omega))
            have d4 := keep_cell hD.out.adds (hc 4 (by omega))
            have d5 := keep_cell hD.out.adds (hc 5 (by omega))
            have hgw : g < w.heap.size := cell_lt (hc 0 (by omega))
            have hng : Hid (¬ (g = s ∨ v.ownBlock = some g)) := Lib.hid (fun h => h.elim (fun h => by omega) (fun h => by have := (hD.out.own1 g h).1; omega))
            have hgb : b11 ≠ g := by omega
            simp only [Nat.add_zero] at d0
            clear hc
            have l7 := hD.out.box1.first
            refine wp_region_held_drew (S := (fun w' => w'.cell? ⟨g, off + k * 6, none⟩ = some (.int .i64 (h k 0)) ∧ w'.cell? ⟨g, off + k * 6 + 1, none⟩ = some (.int .i64 (h k 1)) ∧ w'.cell? ⟨g, off + k * 6 + 2, none⟩ = some (.int .i64 (h k 2)) ∧ w'.cell? ⟨g, off + k * 6 + 3, none⟩ = some (.int .i64 (h k 3)) ∧ w'.cell? ⟨g, off + k * 6 + 4, none⟩ = some (.int .i64 (h k 4)) ∧ w'.cell? ⟨g, off + k * 6 + 5, none⟩ = some (.int .i64 (h k 5)))) (by kernel_rfl) ⟨d0, d1, d2, d3, d4, d5⟩ (fun hHeld => ?_)
            refine wpAnyH_take (i := 0) (oi := ⟨some 74, _, _, _, _, _⟩) (v := ?v10) rfl (by kernel_rfl) (by kernel_rfl) (by kernel_rfl) (fun _ _ _ h => h) (Or.inl ⟨by rfl, ?hy10⟩) (by assumption) ?rest10
            case hy10 => (intro w hSw; (try dsimp only at hSw); go_simp; try with_reducible rfl)
            try simp only [Act.put, List.setIfInBounds_toArray, List.set_cons_zero, List.set_cons_succ]
            refine wpAnyH_take (i := 2) (oi := ⟨some 76, _, _, _, _, _⟩) (v := ?v11) rfl (by kernel_rfl) (by kernel_rfl) (by kernel_rfl) (fun _ _ _ h => h) (Or.inl ⟨by rfl, ?hy11⟩) (by assumption) ?rest11
            case hy11 => (intro w hSw; (try dsimp only at hSw); go_simp; try with_reducible rfl)
            try simp only [Act.put, List.setIfInBounds_toArray, List.set_cons_zero, List.set_cons_succ]
            refine wpAnyH_take (i := 3) (oi := ⟨some 77, _, _, _, _, _⟩) (v := ?v12) rfl (by kernel_rfl) (by kernel_rfl) (by kernel_rfl) (fun _ _ _ h => h) (Or.inl ⟨by rfl, ?hy12⟩) (by assumption) ?rest12
            case hy12 => (intro w hSw; (try dsimp only at hSw); go_simp; try with_reducible rfl)
            try simp only [Act.put, List.setIfInBounds_toArray, List.set_cons_zero, List.set_cons_succ]
            refine wpAnyH_take (i := 4) (oi := ⟨some 78, _, _, _, _, _⟩) (v := ?v13) rfl (by kernel_rfl) (by kernel_rfl) (by kernel_rfl) (fun _ _ _ h => h) (Or.inl ⟨by rfl, ?hy13⟩) (by assumption) ?rest13
            case hy13 => (intro w hSw; (try dsimp only at hSw); go_simp; try with_reducible rfl)
            try simp only [Act.put, List.setIfInBounds_toArray, List.set_cons_zero, List.set_cons_succ]
            refine wpAnyH_take (i := 5) (oi := ⟨some 79, _, _, _, _, _⟩) (v := ?v14) rfl (by kernel_rfl) (by kernel_rfl) (by kernel_rfl) (fun _ _ _ h => h) (Or.inl ⟨by rfl, ?hy14⟩) (by assumption) ?rest14
            case hy14 => (intro w hSw; (try dsimp only at hSw); go_simp; try with_reducible rfl)
            try simp only [Act.put, List.setIfInBounds_toArray, List.set_cons_zero, List.set_cons_succ]
            have l7d : wr.drew.cell? ⟨b11, 0, none⟩ = some (.slice (some ⟨gz, 0, none⟩) nz cz) := l7
            refine wpAnyH_ready (rs := [1]) (by kernel_rfl) (by simp) ?_
            refine AllReadyH.cons (o := ⟨some 75, _, _, _, _, _⟩) rfl (fun K hK => ?_) AllReadyH.nil
            go_simp
            refine hK.out _ _ ⟨d0, d1, d2, d3, d4, d5⟩ (fun hHeld => ?_)
            clear hK K
            try simp only [Act.put, List.setIfInBounds_toArray, List.set_cons_zero, List.set_cons_succ]
            refine wpAnyH_ready (rs := [6]) (by kernel_rfl) (by simp) ?_
            refine AllReadyH.cons (o := ⟨some 80, _, _, _, _, _⟩) rfl (fun K hK => ?_) AllReadyH.nil
            go_simp
            refine (do_link2 s v bs' Ts' gz nz cz Lz (h k 0) (h k 1) (h k 2) (h k 3) (h k 4) (h k 5) _ (hD.out.one.later (Adds.refl wr).drew) (by have := hfew2.out; omega)).mono ?_
            rintro e w8 hd8
            obtain ⟨va', bsA', TsA', g1, n1, c1, LsA', rfl, ht, y7, hb2, hb1, hold, hD'⟩ := hD.out.next hws hwb11 (Adds.refl wr).drew hd8
            replace d0 := touch_cell ht hng.out d0
            replace d1 := touch_cell ht hng.out d1
            replace d2 := touch_cell ht hng.out d2
            replace d3 := touch_cell ht hng.out d3
            replace d4 := touch_cell ht hng.out d4
            replace d5 := touch_cell ht hng.out d5
            have m7 := y7.first
            have mf := y7.free 0
            have HD' := Lib.hid hD'
            have HOLD := Lib.hid hold
            clear l7 l7d hd8 hD' ht hold
            refine hK.out _ _ ⟨d0, d1, d2, d3, d4, d5⟩ (fun hHeld => ?_)
            clear hK K
            try simp only [Act.put, List.setIfInBounds_toArray, List.set_cons_zero, List.set_cons_succ]
            refine wpAnyH_take (i := 7) (oi := ⟨some 73, _, _, _, _, _⟩) (v := ?v15) rfl (by kernel_rfl) (by kernel_rfl) (by kernel_rfl) (fun _ _ _ h => h) (Or.inl ⟨by rfl, ?hy15⟩) (by assumption) ?rest15
            case hy15 => (intro w hSw; (try dsimp only at hSw); go_simp; try with_reducible rfl)
            try simp only [Act.put, List.setIfInBounds_toArray, List.set_cons_zero, List.set_cons_succ]
            refine wpAnyH_take (i := 8) (oi := ⟨some 81, _, _, _, _, _⟩) (v := ?v16) rfl (by kernel_rfl) (by kernel_rfl) (by kernel_rfl) (fun _ _ _ h => h) (Or.inl ⟨by rfl, ?hy16⟩) (by assumption) ?rest16
            case hy16 => (intro w hSw; (try dsimp only at hSw); go_simp; try with_reducible rfl)
            try simp only [Act.put, List.setIfInBounds_toArray, List.set_cons_zero, List.set_cons_succ]
            refine wpAnyH_take (i := 9) (oi := ⟨some 82, _, _, _, _, _⟩) (v := ?v17) rfl (by kernel_rfl) (by kernel_rfl) (by kernel_rfl) (fun _ _ _ h => h) (Or.inl ⟨by rfl, ?hy17⟩) (by assumption) ?rest17
            case hy17 => (intro w hSw; (try dsimp only at hSw); go_simp; try with_reducible rfl)
            try simp only [Act.put, List.setIfInBounds_toArray, List.set_cons_zero, List.set_cons_succ]
            refine wpAnyH_ready (rs := [10]) (by kernel_rfl) (by simp) ?_
            refine AllReadyH.cons (o := ⟨none, _, _, _, _, _⟩) rfl (fun K hK => ?_) AllReadyH.nil
            go_simp
            replace d0 := (World.cell?_setCell_far (w := w8) ⟨b11, 0, none⟩ _ (.slice (some ⟨g1, 0, none⟩) n1 c1) (by exact hgb)).trans d0
            replace d1 := (World.cell?_setCell_far (w := w8) ⟨b11, 0, none⟩ _ (.slice (some ⟨g1, 0, none⟩) n1 c1) (by exact hgb)).trans d1
            replace d2 := (World.cell?_setCell_far (w := w8) ⟨b11, 0, none⟩ _ (.slice (some ⟨g1, 0, none⟩) n1 c1) (by exact hgb)).trans d2
            replace d3 := (World.cell?_setCell_far (w := w8) ⟨b11, 0, none⟩ _ (.slice (some ⟨g1, 0, none⟩) n1 c1) (by exact hgb)).trans d3
            replace d4 := (World.cell?_setCell_far (w := w8) ⟨b11, 0, none⟩ _ (.slice (some ⟨g1, 0, none⟩) n1 c1) (by exact hgb)).trans d4
            replace d5 := (World.cell?_setCell_far (w := w8) ⟨b11, 0, none⟩ _ (.slice (some ⟨g1, 0, none⟩) n1 c1) (by exact hgb)).trans d5
            refine hK.out _ _ ⟨d0, d1, d2, d3, d4, d5⟩ (fun hHeld => ?_)
            clear hK K
            try simp only [Act.put, List.setIfInBounds_toArray, List.set_cons_zero, List.set_cons_succ]
            refine wpAnyH_take (i := 11) (oi := ⟨some 9, _, _, _, _, _⟩) (v := ?v18) rfl (by kernel_rfl) (by kernel_rfl) (by kernel_rfl) (fun _ _ _ h => h) (Or.inl ⟨by rfl, ?hy18⟩) (by assumption) ?rest18
            case hy18 => (intro w hSw; (try dsimp only at hSw); go_simp; try with_reducible rfl)
            try simp only [Act.put, List.setIfInBounds_toArray, List.set_cons_zero, List.set_cons_succ]
            refine wpAnyH_done (by kernel_rfl) ?_ _
            clear hHeld
            go_wp2_with fail
            exact ⟨⟨(k : Int) - 1, va', bsA', TsA', g1, n1, c1, LsA', by omega, by omega, by go_num, rfl, HD', Lib.hid (by have := hfew2.out; omega)⟩, by simp only [intOf]; omega⟩
          · have hk12 : decide ((M : Int) - 10 < (k : Int)) = false := decide_eq_false h2
            go_wp2_with fail
            go_meet
            exact ⟨v, bs', Ts', gz, nz, cz, Lz, rfl, hD, Lib.hid (by have := hfew2.out; omega)⟩
        · go_wp2_with fail
          go_meet
          exact ⟨v, bs', Ts', gz, nz, cz, Lz, rfl, hD, Lib.hid (by have := hfew2.out; omega)⟩
    case rest =>
      clear HD1
      rename World => wd
      obtain ⟨v, bs', Ts', gz, nz, cz, Lz, rfl, hD, hfew2⟩ := hcut
      obtain rfl := HNX.out
      have l6 := hD.out.box3.first
      have l8 := hD.out.box2.first
      have l11 := hD.out.box1.first
      obtain ⟨nf, hnf⟩ : ∃ n, n = bf.length := ⟨_, rfl⟩
      obtain ⟨ns, hns⟩ : ∃ n, n = bs'.length := ⟨_, rfl⟩
      have hV1 : Hid (∀ W, Adds wd W → Calls Try.prog 16 #[.pointer (some ⟨fk, 0, none⟩)] W fun e w' => e = .returned (.int .i64 nf) ∧ W = w') := Lib.hid (fun W hA => version_at fk vf bf Tf nf W (hD.out.two.stock.later hA) (by omega))
      have hV2 : Hid (∀ W, Adds wd W → Calls Try.prog 16 #[.pointer (some ⟨s, 0, none⟩)] W fun e w' => e = .returned (.int .i64 ns) ∧ W = w') := Lib.hid (fun W hA => version_at s v bs' Ts' ns W (hD.out.one.stock.later hA) (by omega))
      have hR1 : Hid (∀ W, Adds wd W → Calls Try.prog 18 #[.agg #[.slice (some ⟨gy, 0, none⟩) ny cy]] W fun e w' => ∃ u, e = .returned u ∧ RunsAt w' u (Ly.getLastD []) ∧ Adds W w') := Lib.hid (fun W hA => RLast_any _ Ly W (hD.out.two.ref.later hA))
      have hR2 : Hid (∀ W, Adds wd W → Calls Try.prog 18 #[.agg #[.slice (some ⟨gz, 0, none⟩) nz cz]] W fun e w' => ∃ u, e = .returned u ∧ RunsAt w' u (Lz.getLastD []) ∧ Adds W w') := Lib.hid (fun W hA => RLast_any _ Lz W (hD.out.one.ref.later hA))
      have hR3 : Hid (∀ W, Adds wd W → Calls Try.prog 18 #[.agg #[.slice (some ⟨g0, 0, none⟩) (nb + 1) c0]] W fun e w' => ∃ u, e = .returned u ∧ RunsAt w' u (Ls.getLastD []) ∧ Adds W w') := Lib.hid (fun W hA => RLast_any _ Ls W (hD.out.ref.later hA))
      have hS1 : Hid (∀ W u, Adds wd W → RunsAt W u (Ly.getLastD []) → Calls Try.prog 17 #[.pointer (some ⟨fk, 0, none⟩), .int .i64 nf, u] W fun e w' => e = .returned (.bool true) ∧ Adds W w') := Lib.hid (fun W u hA hu => hD.out.two.shows hA (by rw [hnf]; exact link_atLast hD.out.two) hu)
      have hS2 : Hid (∀ W u, Adds wd W → RunsAt W u (Lz.getLastD []) → Calls Try.prog 17 #[.pointer (some ⟨s, 0, none⟩), .int .i64 ns, u] W fun e w' => e = .returned (.bool true) ∧ Adds W w') := Lib.hid (fun W u hA hu => hD.out.one.shows hA (by rw [hns]; exact link_atLast hD.out.one) hu)
      have hS3 : Hid (∀ W u, Adds wd W → RunsAt W u (Ls.getLastD []) → Calls Try.prog 17 #[.pointer (some ⟨fk, 0, none⟩), .int .i64 nb, u] W fun e w' => e = .returned (.bool true) ∧ Adds W w') := Lib.hid (fun W u hA hu => shows_any fk vf bf Tf nb u _ W (hD.out.two.stock.later hA).tight (by have := hfew.out; omega) hu (by rw [hold0.out nb (Nat.le_refl _), HNB.out]; exact HCX.out) (fun k k1 k2 => by rw [hold0.out nb (Nat.le_refl _), HNB.out]; exact HGX.out k k1 k2))
      have hAD := Lib.hid hD.out.adds
      have e4 : IntKind.i64.wrap (nb : Int) = (nb : Int) := by rw [i64_w']; exact w64_in' _ ⟨by omega, by omega⟩
      clear hnf hns hD hfew hfew2 hold0 HCX HGX HNX HOV HNB n1
      go_upto_region 17 with fail
      go_region_held3 (fun w' => w'.cell? ⟨b8, 0, none⟩ = some (.slice (some ⟨gy, 0, none⟩) ny cy) ∧ w'.cell? ⟨b11, 0, none⟩ = some (.slice (some ⟨gz, 0, none⟩) nz cz) ∧ w'.cell? ⟨b6, 0, none⟩ = some (.slice (some ⟨g0, 0, none⟩) (nb + 1) c0))
        (first | (go_keep; done) | (refine ⟨keep_cell ?_ l8, keep_cell ?_ l11, keep_cell ?_ l6⟩ <;> (repeat (first | exact Adds.refl _ | apply Adds.drew | refine Adds.trans ?_ hb27 | refine Adds.trans ?_ hb26 | refine Adds.trans ?_ hb25 | refine Adds.trans ?_ hb24 | refine Adds.trans ?_ hb23 | refine Adds.trans ?_ hb22 | refine Adds.trans ?_ hb21))) | ((repeat' apply And.intro) <;> go_keep))
        ((first
          | (go_simp; go_at_call 19; refine (awake_any _).mono ?_; rintro e w27 ⟨rfl, hb27⟩; have k8 := keep_cell (show Adds wd w27 by (repeat (first | exact Adds.refl _ | apply Adds.drew | refine Adds.trans ?_ hb27 | refine Adds.trans ?_ hb26 | refine Adds.trans ?_ hb25 | refine Adds.trans ?_ hb24 | refine Adds.trans ?_ hb23 | refine Adds.trans ?_ hb22 | refine Adds.trans ?_ hb21))) l8; have k11 := keep_cell (show Adds wd w27 by (repeat (first | exact Adds.refl _ | apply Adds.drew | refine Adds.trans ?_ hb27 | refine Adds.trans ?_ hb26 | refine Adds.trans ?_ hb25 | refine Adds.trans ?_ hb24 | refine Adds.trans ?_ hb23 | refine Adds.trans ?_ hb22 | refine Adds.trans ?_ hb21))) l11; have k6 := keep_cell (show Adds wd w27 by (repeat (first | exact Adds.refl _ | apply Adds.drew | refine Adds.trans ?_ hb27 | refine Adds.trans ?_ hb26 | refine Adds.trans ?_ hb25 | refine Adds.trans ?_ hb24 | refine Adds.trans ?_ hb23 | refine Adds.trans ?_ hb22 | refine Adds.trans ?_ hb21))) l6)
          | (go_simp; go_at_call 17; refine (hS3.out _ _ (show Adds wd _ by (repeat (first | exact Adds.refl _ | apply Adds.drew | refine Adds.trans ?_ hb27 | refine Adds.trans ?_ hb26 | refine Adds.trans ?_ hb25 | refine Adds.trans ?_ hb24 | refine Adds.trans ?_ hb23 | refine Adds.trans ?_ hb22 | refine Adds.trans ?_ hb21))) hru3.out).mono ?_; rintro e w26 ⟨rfl, hb26⟩; have k8 := keep_cell (show Adds wd w26 by (repeat (first | exact Adds.refl _ | apply Adds.drew | refine Adds.trans ?_ hb27 | refine Adds.trans ?_ hb26 | refine Adds.trans ?_ hb25 | refine Adds.trans ?_ hb24 | refine Adds.trans ?_ hb23 | refine Adds.trans ?_ hb22 | refine Adds.trans ?_ hb21))) l8; have k11 := keep_cell (show Adds wd w26 by (repeat (first | exact Adds.refl _ | apply Adds.drew | refine Adds.trans ?_ hb27 | refine Adds.trans ?_ hb26 | refine Adds.trans ?_ hb25 | refine Adds.trans ?_ hb24 | refine Adds.trans ?_ hb23 | refine Adds.trans ?_ hb22 | refine Adds.trans ?_ hb21))) l11; have k6 := keep_cell (show Adds wd w26 by (repeat (first | exact Adds.refl _ | apply Adds.drew | refine Adds.trans ?_ hb27 | refine Adds.trans ?_ hb26 | refine Adds.trans ?_ hb25 | refine Adds.trans ?_ hb24 | refine Adds.trans ?_ hb23 | refine Adds.trans ?_ hb22 | refine Adds.trans ?_ hb21))) l6)
          | (go_simp; go_at_call 18; have hm := hmk2.out; refine (hR3.out _ (show Adds wd _ by (repeat (first | exact Adds.refl _ | apply Adds.drew | refine Adds.trans ?_ hb27 | refine Adds.trans ?_ hb26 | refine Adds.trans ?_ hb25 | refine Adds.trans ?_ hb24 | refine Adds.trans ?_ hb23 | refine Adds.trans ?_ hb22 | refine Adds.trans ?_ hb21)))).mono ?_; rintro e w25 ⟨u3, rfl, hr3, hb25⟩; have k8 := keep_cell (show Adds wd w25 by (repeat (first | exact Adds.refl _ | apply Adds.drew | refine Adds.trans ?_ hb27 | refine Adds.trans ?_ hb26 | refine Adds.trans ?_ hb25 | refine Adds.trans ?_ hb24 | refine Adds.trans ?_ hb23 | refine Adds.trans ?_ hb22 | refine Adds.trans ?_ hb21))) l8; have k11 := keep_cell (show Adds wd w25 by (repeat (first | exact Adds.refl _ | apply Adds.drew | refine Adds.trans ?_ hb27 | refine Adds.trans ?_ hb26 | refine Adds.trans ?_ hb25 | refine Adds.trans ?_ hb24 | refine Adds.trans ?_ hb23 | refine Adds.trans ?_ hb22 | refine Adds.trans ?_ hb21))) l11; have k6 := keep_cell (show Adds wd w25 by (repeat (first | exact Adds.refl _ | apply Adds.drew | refine Adds.trans ?_ hb27 | refine Adds.trans ?_ hb26 | refine Adds.trans ?_ hb25 | refine Adds.trans ?_ hb24 | refine Adds.trans ?_ hb23 | refine Adds.trans ?_ hb22 | refine Adds.trans ?_ hb21))) l6; have hru3 := Lib.hid hr3; clear hr3)
          | (go_simp; go_at_call 17; refine (hS2.out _ _ (show Adds wd _ by (repeat (first | exact Adds.refl _ | apply Adds.drew | refine Adds.trans ?_ hb27 | refine Adds.trans ?_ hb26 | refine Adds.trans ?_ hb25 | refine Adds.trans ?_ hb24 | refine Adds.trans ?_ hb23 | refine Adds.trans ?_ hb22 | refine Adds.trans ?_ hb21))) hru2.out).mono ?_; rintro e w24 ⟨rfl, hb24⟩; have k8 := keep_cell (show Adds wd w24 by (repeat (first | exact Adds.refl _ | apply Adds.drew | refine Adds.trans ?_ hb27 | refine Adds.trans ?_ hb26 | refine Adds.trans ?_ hb25 | refine Adds.trans ?_ hb24 | refine Adds.trans ?_ hb23 | refine Adds.trans ?_ hb22 | refine Adds.trans ?_ hb21))) l8; have k11 := keep_cell (show Adds wd w24 by (repeat (first | exact Adds.refl _ | apply Adds.drew | refine Adds.trans ?_ hb27 | refine Adds.trans ?_ hb26 | refine Adds.trans ?_ hb25 | refine Adds.trans ?_ hb24 | refine Adds.trans ?_ hb23 | refine Adds.trans ?_ hb22 | refine Adds.trans ?_ hb21))) l11; have k6 := keep_cell (show Adds wd w24 by (repeat (first | exact Adds.refl _ | apply Adds.drew | refine Adds.trans ?_ hb27 | refine Adds.trans ?_ hb26 | refine Adds.trans ?_ hb25 | refine Adds.trans ?_ hb24 | refine Adds.trans ?_ hb23 | refine Adds.trans ?_ hb22 | refine Adds.trans ?_ hb21))) l6; have hmk2 := Lib.hid True.intro)
          | (go_simp; go_at_call 18; have hm := hmk1.out; refine (hR2.out _ (show Adds wd _ by (repeat (first | exact Adds.refl _ | apply Adds.drew | refine Adds.trans ?_ hb27 | refine Adds.trans ?_ hb26 | refine Adds.trans ?_ hb25 | refine Adds.trans ?_ hb24 | refine Adds.trans ?_ hb23 | refine Adds.trans ?_ hb22 | refine Adds.trans ?_ hb21)))).mono ?_; rintro e w23 ⟨u2, rfl, hr2, hb23⟩; have k8 := keep_cell (show Adds wd w23 by (repeat (first | exact Adds.refl _ | apply Adds.drew | refine Adds.trans ?_ hb27 | refine Adds.trans ?_ hb26 | refine Adds.trans ?_ hb25 | refine Adds.trans ?_ hb24 | refine Adds.trans ?_ hb23 | refine Adds.trans ?_ hb22 | refine Adds.trans ?_ hb21))) l8; have k11 := keep_cell (show Adds wd w23 by (repeat (first | exact Adds.refl _ | apply Adds.drew | refine Adds.trans ?_ hb27 | refine Adds.trans ?_ hb26 | refine Adds.trans ?_ hb25 | refine Adds.trans ?_ hb24 | refine Adds.trans ?_ hb23 | refine Adds.trans ?_ hb22 | refine Adds.trans ?_ hb21))) l11; have k6 := keep_cell (show Adds wd w23 by (repeat (first | exact Adds.refl _ | apply Adds.drew | refine Adds.trans ?_ hb27 | refine Adds.trans ?_ hb26 | refine Adds.trans ?_ hb25 | refine Adds.trans ?_ hb24 | refine Adds.trans ?_ hb23 | refine Adds.trans ?_ hb22 | refine Adds.trans ?_ hb21))) l6; have hru2 := Lib.hid hr2; clear hr2)
          | (go_simp; go_at_call_of 16 (Value.pointer (some (⟨s, 0, none⟩ : Addr))); refine (hV2.out _ (show Adds wd _ by (repeat (first | exact Adds.refl _ | apply Adds.drew | refine Adds.trans ?_ hb27 | refine Adds.trans ?_ hb26 | refine Adds.trans ?_ hb25 | refine Adds.trans ?_ hb24 | refine Adds.trans ?_ hb23 | refine Adds.trans ?_ hb22 | refine Adds.trans ?_ hb21)))).mono ?_; rintro e w' ⟨rfl, rfl⟩)
          | (go_simp; go_at_call 17; refine (hS1.out _ _ (show Adds wd _ by (repeat (first | exact Adds.refl _ | apply Adds.drew | refine Adds.trans ?_ hb27 | refine Adds.trans ?_ hb26 | refine Adds.trans ?_ hb25 | refine Adds.trans ?_ hb24 | refine Adds.trans ?_ hb23 | refine Adds.trans ?_ hb22 | refine Adds.trans ?_ hb21))) hru1.out).mono ?_; rintro e w22 ⟨rfl, hb22⟩; have k8 := keep_cell (show Adds wd w22 by (repeat (first | exact Adds.refl _ | apply Adds.drew | refine Adds.trans ?_ hb27 | refine Adds.trans ?_ hb26 | refine Adds.trans ?_ hb25 | refine Adds.trans ?_ hb24 | refine Adds.trans ?_ hb23 | refine Adds.trans ?_ hb22 | refine Adds.trans ?_ hb21))) l8; have k11 := keep_cell (show Adds wd w22 by (repeat (first | exact Adds.refl _ | apply Adds.drew | refine Adds.trans ?_ hb27 | refine Adds.trans ?_ hb26 | refine Adds.trans ?_ hb25 | refine Adds.trans ?_ hb24 | refine Adds.trans ?_ hb23 | refine Adds.trans ?_ hb22 | refine Adds.trans ?_ hb21))) l11; have k6 := keep_cell (show Adds wd w22 by (repeat (first | exact Adds.refl _ | apply Adds.drew | refine Adds.trans ?_ hb27 | refine Adds.trans ?_ hb26 | refine Adds.trans ?_ hb25 | refine Adds.trans ?_ hb24 | refine Adds.trans ?_ hb23 | refine Adds.trans ?_ hb22 | refine Adds.trans ?_ hb21))) l6; have hmk1 := Lib.hid True.intro)
          | (go_simp; go_at_call 18; refine (hR1.out _ (show Adds wd _ by (repeat (first | exact Adds.refl _ | apply Adds.drew | refine Adds.trans ?_ hb27 | refine Adds.trans ?_ hb26 | refine Adds.trans ?_ hb25 | refine Adds.trans ?_ hb24 | refine Adds.trans ?_ hb23 | refine Adds.trans ?_ hb22 | refine Adds.trans ?_ hb21)))).mono ?_; rintro e w21 ⟨u1, rfl, hr1, hb21⟩; have k8 := keep_cell (show Adds wd w21 by (repeat (first | exact Adds.refl _ | apply Adds.drew | refine Adds.trans ?_ hb27 | refine Adds.trans ?_ hb26 | refine Adds.trans ?_ hb25 | refine Adds.trans ?_ hb24 | refine Adds.trans ?_ hb23 | refine Adds.trans ?_ hb22 | refine Adds.trans ?_ hb21))) l8; have k11 := keep_cell (show Adds wd w21 by (repeat (first | exact Adds.refl _ | apply Adds.drew | refine Adds.trans ?_ hb27 | refine Adds.trans ?_ hb26 | refine Adds.trans ?_ hb25 | refine Adds.trans ?_ hb24 | refine Adds.trans ?_ hb23 | refine Adds.trans ?_ hb22 | refine Adds.trans ?_ hb21))) l11; have k6 := keep_cell (show Adds wd w21 by (repeat (first | exact Adds.refl _ | apply Adds.drew | refine Adds.trans ?_ hb27 | refine Adds.trans ?_ hb26 | refine Adds.trans ?_ hb25 | refine Adds.trans ?_ hb24 | refine Adds.trans ?_ hb23 | refine Adds.trans ?_ hb22 | refine Adds.trans ?_ hb21))) l6; have hru1 := Lib.hid hr1; clear hr1)
          | (go_simp; go_at_call_of 16 (Value.pointer (some (⟨fk, 0, none⟩ : Addr))); refine (hV1.out _ (show Adds wd _ by (repeat (first | exact Adds.refl _ | apply Adds.drew | refine Adds.trans ?_ hb27 | refine Adds.trans ?_ hb26 | refine Adds.trans ?_ hb25 | refine Adds.trans ?_ hb24 | refine Adds.trans ?_ hb23 | refine Adds.trans ?_ hb22 | refine Adds.trans ?_ hb21)))).mono ?_; rintro e w' ⟨rfl, rfl⟩)))
      all_goals
        go_wp2_with fail
        go_ret
        exact ⟨rfl, hAD.out.trans (show Adds wd _ by (repeat (first | exact Adds.refl _ | apply Adds.drew | refine Adds.trans ?_ hb27 | refine Adds.trans ?_ hb26 | refine Adds.trans ?_ hb25 | refine Adds.trans ?_ hb24 | refine Adds.trans ?_ hb23 | refine Adds.trans ?_ hb22 | refine Adds.trans ?_ hb21)))⟩
end Go.Proofs.Ytofaioabjkcaiaa
