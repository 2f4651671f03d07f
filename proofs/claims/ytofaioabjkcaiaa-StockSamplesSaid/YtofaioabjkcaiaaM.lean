/- The iterator that runs returns, walked. -/
import Derived.Test.YtofaioabjkcaiaaK
namespace Go.Proofs.Ytofaioabjkcaiaa
open Go.RowKit

theorem TreeIn.lt {Pr : Nat → Prop} {w : World} : ∀ {t : Tree} {b : Nat}, TreeIn Pr w b t → TreeIn (fun k => Pr k ∧ k < w.heap.size) w b t
  | .leaf _ _ _, _, h => ⟨⟨h.1, cell_lt h.2.1⟩, h.2⟩
  | .node _ _ _ _ _, _, ⟨h0, bl, br, h, hl, hr⟩ => ⟨⟨h0, cell_lt h.1⟩, bl, br, h, hl.lt, hr.lt⟩

/-- What the first region of the iterator gives. -/
def Opened (W : World) (a : Int) (p : Pk) (s4 s5 : Value) (wc : World) : Prop :=
  ∃ r4 r5, s4 = .pointer (some ⟨r4, 0, none⟩) ∧ s5 = .pointer (some ⟨r5, 0, none⟩) ∧ Box wc r4 #[.int .i64 a, .int .i64 (a - 1)] 124 ∧ Box wc r5 #[.int .i64 p.st, .int .i64 p.lot, .int .i64 p.own, .int .i64 p.hold] 44 ∧ r4 ≠ r5 ∧ W.heap.size + 1 ≤ r4 ∧ W.heap.size + 1 ≤ r5 ∧ Adds W wc

set_option maxRecDepth 100000 in
set_option maxHeartbeats 2000000 in
theorem runs_iter (b pb nb : Nat) (t : Tree) (lo hi a c : Int) (w0 : World) (Pr : Nat → Prop) (ht : TreeIn Pr w0 b t) (hok : t.ok lo hi) (h1 : 1 ≤ lo) (h3 : hi ≤ 1000000) (ha : lo ≤ a) (hc : c ≤ hi) (hac : a ≤ c)
    (hpb : TwoAt w0 pb a c) (hnb : w0.cell? ⟨nb, 0, none⟩ = some (.pointer (some ⟨b, 0, none⟩))) (pPb : Pr pb) (pNb : Pr nb) :
    Iter Try.prog 99 #[.pointer (some ⟨pb, 0, none⟩), .pointer (some ⟨nb, 0, none⟩)] Piece.encs (runsT a c t) Pr w0 := by
  intro l J Jx O W hW hPr hlt hst hstx hy hl1 hl2 hJ
  have HPR := Lib.hid hPr
  have HLT := Lib.hid hlt
  have HST := Lib.hid hst
  have HSX := Lib.hid hstx
  have HY := Lib.hid hy
  have HJ := Lib.hid hJ
  have HT := Lib.hid (ht.later hW)
  have HOK := Lib.hid hok
  have hw0 := hW.size
  obtain ⟨p0, p1⟩ := hpb.later hW
  have nb0 := keep_cell hW hnb
  have HPB := Lib.hid (hPr pb pPb)
  have HNB := Lib.hid (hPr nb pNb)
  have lpb := cell_lt p0
  have lnb := cell_lt nb0
  have lp0 := cell_lt hpb.1
  have ln0 := cell_lt hnb
  have HTN := Lib.hid (ht.mono (Pr' := fun k => ¬ O k) hPr)
  clear hPr hlt hst hstx hy hJ ht hok hpb hnb
  have hs := i64_in (a - 1) (by omega) (by omega)
  go_enter Try.func99, Try.ntmps99
  go_wp2_with fail
  obtain ⟨W0, hW0⟩ : ∃ W0, W0 = w0 := ⟨_, rfl⟩
  have P0 : (W.alloc (.cells #[.func (.yield l) #[] #[]] 157)).cell? ⟨pb, 0, none⟩ = some (.int .i64 a) := keep_cell ((Adds.refl W).alloc _) p0
  have P1 : (W.alloc (.cells #[.func (.yield l) #[] #[]] 157)).cell? ⟨pb, 1, none⟩ = some (.int .i64 c) := keep_cell ((Adds.refl W).alloc _) p1
  have N0 : (W.alloc (.cells #[.func (.yield l) #[] #[]] 157)).cell? ⟨nb, 0, none⟩ = some (.pointer (some ⟨b, 0, none⟩)) := keep_cell ((Adds.refl W).alloc _) nb0
  go_cut [4, 5] (fun s4 s5 wc => Opened W a (t.look a) s4 s5 wc ∧ Adds (W.alloc (.cells #[.func (.yield l) #[] #[]] 157)) wc)
  case first =>
    obtain ⟨V0, hV0⟩ : ∃ V, V = (W.alloc (.cells #[.func (.yield l) #[] #[]] 157)).drew := ⟨_, rfl⟩
    have A0 : Adds W V0 := by rw [hV0]; exact ((Adds.refl W).alloc _).drew
    have A0' : Adds (W.alloc (.cells #[.func (.yield l) #[] #[]] 157)) V0 := by rw [hV0]; exact (Adds.refl _).drew
    have z0 : W.heap.size + 1 ≤ V0.heap.size := by rw [hV0]; simp
    clear P0 P1 N0
    have SW : (fun w' => w'.cell? ⟨pb, 0, none⟩ = some (.int .i64 a) ∧ w'.cell? ⟨pb, 1, none⟩ = some (.int .i64 c) ∧ w'.cell? ⟨nb, 0, none⟩ = some (.pointer (some ⟨b, 0, none⟩))) W := ⟨p0, p1, nb0⟩
    have S0 : (fun w' => w'.cell? ⟨pb, 0, none⟩ = some (.int .i64 a) ∧ w'.cell? ⟨pb, 1, none⟩ = some (.int .i64 c) ∧ w'.cell? ⟨nb, 0, none⟩ = some (.pointer (some ⟨b, 0, none⟩))) V0 := ⟨keep_cell A0 p0, keep_cell A0 p1, keep_cell A0 nb0⟩
    have SWH := Lib.hid SW
    clear p0 p1 nb0
    refine wp_region_held_drew (S := fun w' => w'.cell? ⟨pb, 0, none⟩ = some (.int .i64 a) ∧ w'.cell? ⟨pb, 1, none⟩ = some (.int .i64 c) ∧ w'.cell? ⟨nb, 0, none⟩ = some (.pointer (some ⟨b, 0, none⟩))) (by kernel_rfl) (by rw [← hV0]; exact S0) (fun _ => ?_)
    rw [← hV0]
    clear hV0
    have hHeld := S0
    refine wpAnyH_take (i := 0) (oi := ⟨some 7, _, _, _, _, _⟩) (v := ?v1) rfl (by kernel_rfl) (by kernel_rfl) (by kernel_rfl) (fun _ _ _ h => h) (Or.inl ⟨by rfl, ?hy1⟩) (by assumption) ?rest1
    case hy1 => (intro w hSw; (try dsimp only at hSw); go_simp; try with_reducible rfl)
    try simp only [Act.put, List.setIfInBounds_toArray, List.set_cons_zero, List.set_cons_succ]
    refine wpAnyH_take (i := 1) (oi := ⟨some 8, _, _, _, _, _⟩) (v := ?v2) rfl (by kernel_rfl) (by kernel_rfl) (by kernel_rfl) (fun _ _ _ h => h) (Or.inl ⟨by rfl, ?hy2⟩) (by assumption) ?rest2
    case hy2 => (intro w hSw; (try dsimp only at hSw); go_simp; try with_reducible rfl)
    try simp only [Act.put, List.setIfInBounds_toArray, List.set_cons_zero, List.set_cons_succ]
    refine wpAnyH_take (i := 2) (oi := ⟨some 9, _, _, _, _, _⟩) (v := ?v3) rfl (by kernel_rfl) (by kernel_rfl) (by kernel_rfl) (fun _ _ _ h => h) (Or.inl ⟨by rfl, ?hy3⟩) (by assumption) ?rest3
    case hy3 => (intro w hSw; (try dsimp only at hSw); go_simp; try with_reducible rfl)
    try simp only [Act.put, List.setIfInBounds_toArray, List.set_cons_zero, List.set_cons_succ]
    refine wpAnyH_take (i := 3) (oi := ⟨some 10, _, _, _, _, _⟩) (v := ?v4) rfl (by kernel_rfl) (by kernel_rfl) (by kernel_rfl) (fun _ _ _ h => h) (Or.inl ⟨by rfl, ?hy4⟩) (by assumption) ?rest4
    case hy4 => (intro w hSw; (try dsimp only at hSw); go_simp; try with_reducible rfl)
    try simp only [Act.put, List.setIfInBounds_toArray, List.set_cons_zero, List.set_cons_succ]
    refine wpAnyH_take (i := 4) (oi := ⟨some 11, _, _, _, _, _⟩) (v := ?v5) rfl (by kernel_rfl) (by kernel_rfl) (by kernel_rfl) (fun _ _ _ h => h) (Or.inl ⟨by rfl, ?hy5⟩) (by assumption) ?rest5
    case hy5 => (intro w hSw; (try dsimp only at hSw); go_simp; try with_reducible rfl)
    try simp only [Act.put, List.setIfInBounds_toArray, List.set_cons_zero, List.set_cons_succ]
    refine wpAnyH_take (i := 5) (oi := ⟨some 12, _, _, _, _, _⟩) (v := ?v6) rfl (by kernel_rfl) (by kernel_rfl) (by kernel_rfl) (fun _ _ _ h => h) (Or.inl ⟨by rfl, ?hy6⟩) (by assumption) ?rest6
    case hy6 => (intro w hSw; (try dsimp only at hSw); go_simp; try with_reducible rfl)
    try simp only [Act.put, List.setIfInBounds_toArray, List.set_cons_zero, List.set_cons_succ]
    refine wpAnyH_take (i := 6) (oi := ⟨some 13, _, _, _, _, _⟩) (v := ?v7) rfl (by kernel_rfl) (by kernel_rfl) (by kernel_rfl) (fun _ _ _ h => h) (Or.inl ⟨by rfl, ?hy7⟩) (by assumption) ?rest7
    case hy7 => (intro w hSw; (try dsimp only at hSw); go_simp; try with_reducible rfl)
    try simp only [Act.put, List.setIfInBounds_toArray, List.set_cons_zero, List.set_cons_succ]
    refine wpAnyH_take (i := 7) (oi := ⟨some 14, _, _, _, _, _⟩) (v := ?v8) rfl (by kernel_rfl) (by kernel_rfl) (by kernel_rfl) (fun _ _ _ h => h) (Or.inl ⟨by rfl, ?hy8⟩) (by assumption) ?rest8
    case hy8 => (intro w hSw; (try dsimp only at hSw); go_simp; try with_reducible rfl)
    try simp only [Act.put, List.setIfInBounds_toArray, List.set_cons_zero, List.set_cons_succ]
    refine wpAnyH_take (i := 8) (oi := ⟨some 15, _, _, _, _, _⟩) (v := ?v9) rfl (by kernel_rfl) (by kernel_rfl) (by kernel_rfl) (fun _ _ _ h => h) (Or.inl ⟨by rfl, ?hy9⟩) (by assumption) ?rest9
    case hy9 => (intro w hSw; (try dsimp only at hSw); go_simp; try with_reducible rfl)
    try simp only [Act.put, List.setIfInBounds_toArray, List.set_cons_zero, List.set_cons_succ]
    refine wpAnyH_ready (rs := [9, 10, 11]) (by kernel_rfl) (by simp) ?_
    refine AllReadyH.cons (o := ⟨some 16, _, _, _, _, _⟩) rfl (fun K hK => ?_) ?_
    · clear hHeld
      go_simp
      refine (at_any a t b lo hi _ (HT.out.tree.later A0) HOK.out (by omega) (by omega)).mono ?_
      rintro e V1 ⟨rfl, hb⟩
      have A1 : Adds W V1 := A0.trans hb
      have A1' : Adds (W.alloc (.cells #[.func (.yield l) #[] #[]] 157)) V1 := A0'.trans hb
      have S1 : (fun w' => w'.cell? ⟨pb, 0, none⟩ = some (.int .i64 a) ∧ w'.cell? ⟨pb, 1, none⟩ = some (.int .i64 c) ∧ w'.cell? ⟨nb, 0, none⟩ = some (.pointer (some ⟨b, 0, none⟩))) V1 := ⟨keep_cell hb S0.1, keep_cell hb S0.2.1, keep_cell hb S0.2.2⟩
      have z1 : W.heap.size + 1 ≤ V1.heap.size := Nat.le_trans z0 hb.size
      have hHeld := S1
      refine hK.out _ _ hHeld (fun _ => ?_)
      clear hK K
      try simp only [Act.put, List.setIfInBounds_toArray, List.set_cons_zero, List.set_cons_succ]
      refine wpAnyH_ready (rs := [10, 11]) (by kernel_rfl) (by simp) ?_
      refine AllReadyH.cons (o := ⟨some 4, _, _, _, _, _⟩) rfl (fun K hK => ?_) ?_
      · clear hHeld
        go_simp
        obtain ⟨V2, hV2⟩ : ∃ V, V = V1.alloc (.cells #[.int .i64 0, .int .i64 0] 124) := ⟨_, rfl⟩
        rw [← hV2]
        have hb : Adds V1 V2 := by rw [hV2]; exact (Adds.refl _).alloc _
        have bb4 : Box V2 V1.heap.size #[.int .i64 0, .int .i64 0] 124 := by rw [hV2]; exact Box.new _ _ _
        clear hV2
        have A2 : Adds W V2 := A1.trans hb
        have A2' : Adds (W.alloc (.cells #[.func (.yield l) #[] #[]] 157)) V2 := A1'.trans hb
        have S2 : (fun w' => w'.cell? ⟨pb, 0, none⟩ = some (.int .i64 a) ∧ w'.cell? ⟨pb, 1, none⟩ = some (.int .i64 c) ∧ w'.cell? ⟨nb, 0, none⟩ = some (.pointer (some ⟨b, 0, none⟩))) V2 := ⟨keep_cell hb S1.1, keep_cell hb S1.2.1, keep_cell hb S1.2.2⟩
        have z2 : W.heap.size + 1 ≤ V2.heap.size := Nat.le_trans z1 hb.size
        have hHeld := S2
        refine hK.out _ _ hHeld (fun _ => ?_)
        clear hK K
        try simp only [Act.put, List.setIfInBounds_toArray, List.set_cons_zero, List.set_cons_succ]
        refine wpAnyH_ready (rs := [11]) (by kernel_rfl) (by simp) ?_
        refine AllReadyH.cons (o := ⟨some 5, _, _, _, _, _⟩) rfl (fun K hK => ?_) ?_
        · clear hHeld
          go_simp
          obtain ⟨V3, hV3⟩ : ∃ V, V = V2.alloc (.cells #[.int .i64 0, .int .i64 0, .int .i64 0, .int .i64 0] 44) := ⟨_, rfl⟩
          rw [← hV3]
          have hb : Adds V2 V3 := by rw [hV3]; exact (Adds.refl _).alloc _
          have bb5 : Box V3 V2.heap.size #[.int .i64 0, .int .i64 0, .int .i64 0, .int .i64 0] 44 := by rw [hV3]; exact Box.new _ _ _
          clear hV3
          have A3 : Adds W V3 := A2.trans hb
          have A3' : Adds (W.alloc (.cells #[.func (.yield l) #[] #[]] 157)) V3 := A2'.trans hb
          have S3 : (fun w' => w'.cell? ⟨pb, 0, none⟩ = some (.int .i64 a) ∧ w'.cell? ⟨pb, 1, none⟩ = some (.int .i64 c) ∧ w'.cell? ⟨nb, 0, none⟩ = some (.pointer (some ⟨b, 0, none⟩))) V3 := ⟨keep_cell hb S2.1, keep_cell hb S2.2.1, keep_cell hb S2.2.2⟩
          have z3 : W.heap.size + 1 ≤ V3.heap.size := Nat.le_trans z2 hb.size
          have l4 := bb4.lt
          replace bb4 := bb4.later hb
          have hHeld := S3
          refine hK.out _ _ hHeld (fun _ => ?_)
          clear hK K
          try simp only [Act.put, List.setIfInBounds_toArray, List.set_cons_zero, List.set_cons_succ]
          have l4 := bb4.lt
          have l5 := bb5.lt
          have n45 : V1.heap.size ≠ V2.heap.size := by omega
          have w4 : W.heap.size + 1 ≤ V1.heap.size := by omega
          have w5 : W.heap.size + 1 ≤ V2.heap.size := by omega
          refine wpAnyH_ready (rs := [12]) (by kernel_rfl) (by simp) ?_
          refine AllReadyH.cons (o := ⟨none, _, _, _, _, _⟩) rfl (fun K hK => ?_) ?_
          · clear hHeld
            have c0 := bb4.cell 0
            have f0 := bb4.free 0
            have c1 := bb4.cell 1
            have f1 := bb4.free 1
            simp only [List.getElem?_toArray, List.getElem?_cons_zero, List.getElem?_cons_succ] at c0 c1
            have BB4 := Lib.hid bb4
            have BB5 := Lib.hid bb5
            clear bb4 bb5
            go_simp
            obtain ⟨V4, hV4⟩ : ∃ V, V = ((V3.setCell ⟨V1.heap.size, 0, none⟩ (.int .i64 a)).setCell ⟨V1.heap.size, 1, none⟩ (.int .i64 (a - 1))) := ⟨_, rfl⟩
            rw [← hV4]
            have nbb4 : Box V4 V1.heap.size #[.int .i64 a, .int .i64 (a - 1)] 124 := by rw [hV4]; exact ((BB4.out.set 0 (.int .i64 a)).set 1 (.int .i64 (a - 1)))
            have nbb5 : Box V4 V2.heap.size #[.int .i64 0, .int .i64 0, .int .i64 0, .int .i64 0] 44 := by rw [hV4]; exact ((BB5.out.far (p := ⟨V1.heap.size, 0, none⟩) n45.symm _).far (p := ⟨V1.heap.size, 1, none⟩) n45.symm _)
            have A4 : Adds W V4 := by rw [hV4]; exact ((A3.set (p := ⟨V1.heap.size, 0, none⟩) (Nat.le_of_succ_le w4) _).set (p := ⟨V1.heap.size, 1, none⟩) (Nat.le_of_succ_le w4) _)
            have A4' : Adds (W.alloc (.cells #[.func (.yield l) #[] #[]] 157)) V4 := by rw [hV4]; exact ((A3'.set (p := ⟨V1.heap.size, 0, none⟩) (by simp; omega) _).set (p := ⟨V1.heap.size, 1, none⟩) (by simp; omega) _)
            clear hV4 c0 f0 c1 f1 BB4 BB5
            have bb4 := nbb4
            have bb5 := nbb5
            clear nbb4 nbb5
            have S4 : (fun w' => w'.cell? ⟨pb, 0, none⟩ = some (.int .i64 a) ∧ w'.cell? ⟨pb, 1, none⟩ = some (.int .i64 c) ∧ w'.cell? ⟨nb, 0, none⟩ = some (.pointer (some ⟨b, 0, none⟩))) V4 := ⟨keep_cell A4 SW.1, keep_cell A4 SW.2.1, keep_cell A4 SW.2.2⟩
            have hHeld := S4
            refine hK.out _ _ hHeld (fun _ => ?_)
            clear hK K
            try simp only [Act.put, List.setIfInBounds_toArray, List.set_cons_zero, List.set_cons_succ]
            refine wpAnyH_ready (rs := [13]) (by kernel_rfl) (by simp) ?_
            refine AllReadyH.cons (o := ⟨none, _, _, _, _, _⟩) rfl (fun K hK => ?_) ?_
            · clear hHeld
              have c0 := bb5.cell 0
              have f0 := bb5.free 0
              have c1 := bb5.cell 1
              have f1 := bb5.free 1
              have c2 := bb5.cell 2
              have f2 := bb5.free 2
              have c3 := bb5.cell 3
              have f3 := bb5.free 3
              simp only [List.getElem?_toArray, List.getElem?_cons_zero, List.getElem?_cons_succ] at c0 c1 c2 c3
              have BB4 := Lib.hid bb4
              have BB5 := Lib.hid bb5
              clear bb4 bb5
              go_simp
              obtain ⟨V5, hV5⟩ : ∃ V, V = ((((V4.setCell ⟨V2.heap.size, 0, none⟩ (.int .i64 (t.look a).st)).setCell ⟨V2.heap.size, 1, none⟩ (.int .i64 (t.look a).lot)).setCell ⟨V2.heap.size, 2, none⟩ (.int .i64 (t.look a).own)).setCell ⟨V2.heap.size, 3, none⟩ (.int .i64 (t.look a).hold)) := ⟨_, rfl⟩
              rw [← hV5]
              have nbb5 : Box V5 V2.heap.size #[.int .i64 (t.look a).st, .int .i64 (t.look a).lot, .int .i64 (t.look a).own, .int .i64 (t.look a).hold] 44 := by rw [hV5]; exact ((((BB5.out.set 0 (.int .i64 (t.look a).st)).set 1 (.int .i64 (t.look a).lot)).set 2 (.int .i64 (t.look a).own)).set 3 (.int .i64 (t.look a).hold))
              have nbb4 : Box V5 V1.heap.size #[.int .i64 a, .int .i64 (a - 1)] 124 := by rw [hV5]; exact ((((BB4.out.far (p := ⟨V2.heap.size, 0, none⟩) n45 _).far (p := ⟨V2.heap.size, 1, none⟩) n45 _).far (p := ⟨V2.heap.size, 2, none⟩) n45 _).far (p := ⟨V2.heap.size, 3, none⟩) n45 _)
              have A5 : Adds W V5 := by rw [hV5]; exact ((((A4.set (p := ⟨V2.heap.size, 0, none⟩) (Nat.le_of_succ_le w5) _).set (p := ⟨V2.heap.size, 1, none⟩) (Nat.le_of_succ_le w5) _).set (p := ⟨V2.heap.size, 2, none⟩) (Nat.le_of_succ_le w5) _).set (p := ⟨V2.heap.size, 3, none⟩) (Nat.le_of_succ_le w5) _)
              have A5' : Adds (W.alloc (.cells #[.func (.yield l) #[] #[]] 157)) V5 := by rw [hV5]; exact ((((A4'.set (p := ⟨V2.heap.size, 0, none⟩) (by simp; omega) _).set (p := ⟨V2.heap.size, 1, none⟩) (by simp; omega) _).set (p := ⟨V2.heap.size, 2, none⟩) (by simp; omega) _).set (p := ⟨V2.heap.size, 3, none⟩) (by simp; omega) _)
              clear hV5 c0 f0 c1 f1 c2 f2 c3 f3 BB4 BB5
              have bb4 := nbb4
              have bb5 := nbb5
              clear nbb4 nbb5
              have S5 : (fun w' => w'.cell? ⟨pb, 0, none⟩ = some (.int .i64 a) ∧ w'.cell? ⟨pb, 1, none⟩ = some (.int .i64 c) ∧ w'.cell? ⟨nb, 0, none⟩ = some (.pointer (some ⟨b, 0, none⟩))) V5 := ⟨keep_cell A5 SW.1, keep_cell A5 SW.2.1, keep_cell A5 SW.2.2⟩
              have hHeld := S5
              refine hK.out _ _ hHeld (fun _ => ?_)
              clear hK K
              try simp only [Act.put, List.setIfInBounds_toArray, List.set_cons_zero, List.set_cons_succ]
              refine wpAnyH_done (by kernel_rfl) ?_ _
              have BB4 := Lib.hid bb4
              have BB5 := Lib.hid bb5
              clear bb4 bb5
              go_wp2_with fail
              go_meet
              exact ⟨⟨_, _, rfl, rfl, BB4.out, BB5.out, n45, w4, w5, A5⟩, A5'⟩
            exact AllReadyH.nil
          exact AllReadyH.nil
        exact AllReadyH.nil
      refine AllReadyH.cons (o := ⟨some 5, _, _, _, _, _⟩) rfl (fun K hK => ?_) ?_
      · clear hHeld
        go_simp
        obtain ⟨V2, hV2⟩ : ∃ V, V = V1.alloc (.cells #[.int .i64 0, .int .i64 0, .int .i64 0, .int .i64 0] 44) := ⟨_, rfl⟩
        rw [← hV2]
        have hb : Adds V1 V2 := by rw [hV2]; exact (Adds.refl _).alloc _
        have bb5 : Box V2 V1.heap.size #[.int .i64 0, .int .i64 0, .int .i64 0, .int .i64 0] 44 := by rw [hV2]; exact Box.new _ _ _
        clear hV2
        have A2 : Adds W V2 := A1.trans hb
        have A2' : Adds (W.alloc (.cells #[.func (.yield l) #[] #[]] 157)) V2 := A1'.trans hb
        have S2 : (fun w' => w'.cell? ⟨pb, 0, none⟩ = some (.int .i64 a) ∧ w'.cell? ⟨pb, 1, none⟩ = some (.int .i64 c) ∧ w'.cell? ⟨nb, 0, none⟩ = some (.pointer (some ⟨b, 0, none⟩))) V2 := ⟨keep_cell hb S1.1, keep_cell hb S1.2.1, keep_cell hb S1.2.2⟩
        have z2 : W.heap.size + 1 ≤ V2.heap.size := Nat.le_trans z1 hb.size
        have hHeld := S2
        refine hK.out _ _ hHeld (fun _ => ?_)
        clear hK K
        try simp only [Act.put, List.setIfInBounds_toArray, List.set_cons_zero, List.set_cons_succ]
        refine wpAnyH_ready (rs := [10]) (by kernel_rfl) (by simp) ?_
        refine AllReadyH.cons (o := ⟨some 4, _, _, _, _, _⟩) rfl (fun K hK => ?_) ?_
        · clear hHeld
          go_simp
          obtain ⟨V3, hV3⟩ : ∃ V, V = V2.alloc (.cells #[.int .i64 0, .int .i64 0] 124) := ⟨_, rfl⟩
          rw [← hV3]
          have hb : Adds V2 V3 := by rw [hV3]; exact (Adds.refl _).alloc _
          have bb4 : Box V3 V2.heap.size #[.int .i64 0, .int .i64 0] 124 := by rw [hV3]; exact Box.new _ _ _
          clear hV3
          have A3 : Adds W V3 := A2.trans hb
          have A3' : Adds (W.alloc (.cells #[.func (.yield l) #[] #[]] 157)) V3 := A2'.trans hb
          have S3 : (fun w' => w'.cell? ⟨pb, 0, none⟩ = some (.int .i64 a) ∧ w'.cell? ⟨pb, 1, none⟩ = some (.int .i64 c) ∧ w'.cell? ⟨nb, 0, none⟩ = some (.pointer (some ⟨b, 0, none⟩))) V3 := ⟨keep_cell hb S2.1, keep_cell hb S2.2.1, keep_cell hb S2.2.2⟩
          have z3 : W.heap.size + 1 ≤ V3.heap.size := Nat.le_trans z2 hb.size
          have l5 := bb5.lt
          replace bb5 := bb5.later hb
          have hHeld := S3
          refine hK.out _ _ hHeld (fun _ => ?_)
          clear hK K
          try simp only [Act.put, List.setIfInBounds_toArray, List.set_cons_zero, List.set_cons_succ]
          have l4 := bb4.lt
          have l5 := bb5.lt
          have n45 : V2.heap.size ≠ V1.heap.size := by omega
          have w4 : W.heap.size + 1 ≤ V2.heap.size := by omega
          have w5 : W.heap.size + 1 ≤ V1.heap.size := by omega
          refine wpAnyH_ready (rs := [12]) (by kernel_rfl) (by simp) ?_
          refine AllReadyH.cons (o := ⟨none, _, _, _, _, _⟩) rfl (fun K hK => ?_) ?_
          · clear hHeld
            have c0 := bb4.cell 0
            have f0 := bb4.free 0
            have c1 := bb4.cell 1
            have f1 := bb4.free 1
            simp only [List.getElem?_toArray, List.getElem?_cons_zero, List.getElem?_cons_succ] at c0 c1
            have BB4 := Lib.hid bb4
            have BB5 := Lib.hid bb5
            clear bb4 bb5
            go_simp
            obtain ⟨V4, hV4⟩ : ∃ V, V = ((V3.setCell ⟨V2.heap.size, 0, none⟩ (.int .i64 a)).setCell ⟨V2.heap.size, 1, none⟩ (.int .i64 (a - 1))) := ⟨_, rfl⟩
            rw [← hV4]
            have nbb4 : Box V4 V2.heap.size #[.int .i64 a, .int .i64 (a - 1)] 124 := by rw [hV4]; exact ((BB4.out.set 0 (.int .i64 a)).set 1 (.int .i64 (a - 1)))
            have nbb5 : Box V4 V1.heap.size #[.int .i64 0, .int .i64 0, .int .i64 0, .int .i64 0] 44 := by rw [hV4]; exact ((BB5.out.far (p := ⟨V2.heap.size, 0, none⟩) n45.symm _).far (p := ⟨V2.heap.size, 1, none⟩) n45.symm _)
            have A4 : Adds W V4 := by rw [hV4]; exact ((A3.set (p := ⟨V2.heap.size, 0, none⟩) (Nat.le_of_succ_le w4) _).set (p := ⟨V2.heap.size, 1, none⟩) (Nat.le_of_succ_le w4) _)
            have A4' : Adds (W.alloc (.cells #[.func (.yield l) #[] #[]] 157)) V4 := by rw [hV4]; exact ((A3'.set (p := ⟨V2.heap.size, 0, none⟩) (by simp; omega) _).set (p := ⟨V2.heap.size, 1, none⟩) (by simp; omega) _)
            clear hV4 c0 f0 c1 f1 BB4 BB5
            have bb4 := nbb4
            have bb5 := nbb5
            clear nbb4 nbb5
            have S4 : (fun w' => w'.cell? ⟨pb, 0, none⟩ = some (.int .i64 a) ∧ w'.cell? ⟨pb, 1, none⟩ = some (.int .i64 c) ∧ w'.cell? ⟨nb, 0, none⟩ = some (.pointer (some ⟨b, 0, none⟩))) V4 := ⟨keep_cell A4 SW.1, keep_cell A4 SW.2.1, keep_cell A4 SW.2.2⟩
            have hHeld := S4
            refine hK.out _ _ hHeld (fun _ => ?_)
            clear hK K
            try simp only [Act.put, List.setIfInBounds_toArray, List.set_cons_zero, List.set_cons_succ]
            refine wpAnyH_ready (rs := [13]) (by kernel_rfl) (by simp) ?_
            refine AllReadyH.cons (o := ⟨none, _, _, _, _, _⟩) rfl (fun K hK => ?_) ?_
            · clear hHeld
              have c0 := bb5.cell 0
              have f0 := bb5.free 0
              have c1 := bb5.cell 1
              have f1 := bb5.free 1
              have c2 := bb5.cell 2
              have f2 := bb5.free 2
              have c3 := bb5.cell 3
              have f3 := bb5.free 3
              simp only [List.getElem?_toArray, List.getElem?_cons_zero, List.getElem?_cons_succ] at c0 c1 c2 c3
              have BB4 := Lib.hid bb4
              have BB5 := Lib.hid bb5
              clear bb4 bb5
              go_simp
              obtain ⟨V5, hV5⟩ : ∃ V, V = ((((V4.setCell ⟨V1.heap.size, 0, none⟩ (.int .i64 (t.look a).st)).setCell ⟨V1.heap.size, 1, none⟩ (.int .i64 (t.look a).lot)).setCell ⟨V1.heap.size, 2, none⟩ (.int .i64 (t.look a).own)).setCell ⟨V1.heap.size, 3, none⟩ (.int .i64 (t.look a).hold)) := ⟨_, rfl⟩
              rw [← hV5]
              have nbb5 : Box V5 V1.heap.size #[.int .i64 (t.look a).st, .int .i64 (t.look a).lot, .int .i64 (t.look a).own, .int .i64 (t.look a).hold] 44 := by rw [hV5]; exact ((((BB5.out.set 0 (.int .i64 (t.look a).st)).set 1 (.int .i64 (t.look a).lot)).set 2 (.int .i64 (t.look a).own)).set 3 (.int .i64 (t.look a).hold))
              have nbb4 : Box V5 V2.heap.size #[.int .i64 a, .int .i64 (a - 1)] 124 := by rw [hV5]; exact ((((BB4.out.far (p := ⟨V1.heap.size, 0, none⟩) n45 _).far (p := ⟨V1.heap.size, 1, none⟩) n45 _).far (p := ⟨V1.heap.size, 2, none⟩) n45 _).far (p := ⟨V1.heap.size, 3, none⟩) n45 _)
              have A5 : Adds W V5 := by rw [hV5]; exact ((((A4.set (p := ⟨V1.heap.size, 0, none⟩) (Nat.le_of_succ_le w5) _).set (p := ⟨V1.heap.size, 1, none⟩) (Nat.le_of_succ_le w5) _).set (p := ⟨V1.heap.size, 2, none⟩) (Nat.le_of_succ_le w5) _).set (p := ⟨V1.heap.size, 3, none⟩) (Nat.le_of_succ_le w5) _)
              have A5' : Adds (W.alloc (.cells #[.func (.yield l) #[] #[]] 157)) V5 := by rw [hV5]; exact ((((A4'.set (p := ⟨V1.heap.size, 0, none⟩) (by simp; omega) _).set (p := ⟨V1.heap.size, 1, none⟩) (by simp; omega) _).set (p := ⟨V1.heap.size, 2, none⟩) (by simp; omega) _).set (p := ⟨V1.heap.size, 3, none⟩) (by simp; omega) _)
              clear hV5 c0 f0 c1 f1 c2 f2 c3 f3 BB4 BB5
              have bb4 := nbb4
              have bb5 := nbb5
              clear nbb4 nbb5
              have S5 : (fun w' => w'.cell? ⟨pb, 0, none⟩ = some (.int .i64 a) ∧ w'.cell? ⟨pb, 1, none⟩ = some (.int .i64 c) ∧ w'.cell? ⟨nb, 0, none⟩ = some (.pointer (some ⟨b, 0, none⟩))) V5 := ⟨keep_cell A5 SW.1, keep_cell A5 SW.2.1, keep_cell A5 SW.2.2⟩
              have hHeld := S5
              refine hK.out _ _ hHeld (fun _ => ?_)
              clear hK K
              try simp only [Act.put, List.setIfInBounds_toArray, List.set_cons_zero, List.set_cons_succ]
              refine wpAnyH_done (by kernel_rfl) ?_ _
              have BB4 := Lib.hid bb4
              have BB5 := Lib.hid bb5
              clear bb4 bb5
              go_wp2_with fail
              go_meet
              exact ⟨⟨_, _, rfl, rfl, BB4.out, BB5.out, n45, w4, w5, A5⟩, A5'⟩
            exact AllReadyH.nil
          exact AllReadyH.nil
        exact AllReadyH.nil
      exact AllReadyH.nil
    refine AllReadyH.cons (o := ⟨some 4, _, _, _, _, _⟩) rfl (fun K hK => ?_) ?_
    · clear hHeld
      go_simp
      obtain ⟨V1, hV1⟩ : ∃ V, V = V0.alloc (.cells #[.int .i64 0, .int .i64 0] 124) := ⟨_, rfl⟩
      rw [← hV1]
      have hb : Adds V0 V1 := by rw [hV1]; exact (Adds.refl _).alloc _
      have bb4 : Box V1 V0.heap.size #[.int .i64 0, .int .i64 0] 124 := by rw [hV1]; exact Box.new _ _ _
      clear hV1
      have A1 : Adds W V1 := A0.trans hb
      have A1' : Adds (W.alloc (.cells #[.func (.yield l) #[] #[]] 157)) V1 := A0'.trans hb
      have S1 : (fun w' => w'.cell? ⟨pb, 0, none⟩ = some (.int .i64 a) ∧ w'.cell? ⟨pb, 1, none⟩ = some (.int .i64 c) ∧ w'.cell? ⟨nb, 0, none⟩ = some (.pointer (some ⟨b, 0, none⟩))) V1 := ⟨keep_cell hb S0.1, keep_cell hb S0.2.1, keep_cell hb S0.2.2⟩
      have z1 : W.heap.size + 1 ≤ V1.heap.size := Nat.le_trans z0 hb.size
      have hHeld := S1
      refine hK.out _ _ hHeld (fun _ => ?_)
      clear hK K
      try simp only [Act.put, List.setIfInBounds_toArray, List.set_cons_zero, List.set_cons_succ]
      refine wpAnyH_ready (rs := [9, 11]) (by kernel_rfl) (by simp) ?_
      refine AllReadyH.cons (o := ⟨some 16, _, _, _, _, _⟩) rfl (fun K hK => ?_) ?_
      · clear hHeld
        go_simp
        refine (at_any a t b lo hi _ (HT.out.tree.later A1) HOK.out (by omega) (by omega)).mono ?_
        rintro e V2 ⟨rfl, hb⟩
        have A2 : Adds W V2 := A1.trans hb
        have A2' : Adds (W.alloc (.cells #[.func (.yield l) #[] #[]] 157)) V2 := A1'.trans hb
        have S2 : (fun w' => w'.cell? ⟨pb, 0, none⟩ = some (.int .i64 a) ∧ w'.cell? ⟨pb, 1, none⟩ = some (.int .i64 c) ∧ w'.cell? ⟨nb, 0, none⟩ = some (.pointer (some ⟨b, 0, none⟩))) V2 := ⟨keep_cell hb S1.1, keep_cell hb S1.2.1, keep_cell hb S1.2.2⟩
        have z2 : W.heap.size + 1 ≤ V2.heap.size := Nat.le_trans z1 hb.size
        have l4 := bb4.lt
        replace bb4 := bb4.later hb
        have hHeld := S2
        refine hK.out _ _ hHeld (fun _ => ?_)
        clear hK K
        try simp only [Act.put, List.setIfInBounds_toArray, List.set_cons_zero, List.set_cons_succ]
        refine wpAnyH_ready (rs := [11]) (by kernel_rfl) (by simp) ?_
        refine AllReadyH.cons (o := ⟨some 5, _, _, _, _, _⟩) rfl (fun K hK => ?_) ?_
        · clear hHeld
          go_simp
          obtain ⟨V3, hV3⟩ : ∃ V, V = V2.alloc (.cells #[.int .i64 0, .int .i64 0, .int .i64 0, .int .i64 0] 44) := ⟨_, rfl⟩
          rw [← hV3]
          have hb : Adds V2 V3 := by rw [hV3]; exact (Adds.refl _).alloc _
          have bb5 : Box V3 V2.heap.size #[.int .i64 0, .int .i64 0, .int .i64 0, .int .i64 0] 44 := by rw [hV3]; exact Box.new _ _ _
          clear hV3
          have A3 : Adds W V3 := A2.trans hb
          have A3' : Adds (W.alloc (.cells #[.func (.yield l) #[] #[]] 157)) V3 := A2'.trans hb
          have S3 : (fun w' => w'.cell? ⟨pb, 0, none⟩ = some (.int .i64 a) ∧ w'.cell? ⟨pb, 1, none⟩ = some (.int .i64 c) ∧ w'.cell? ⟨nb, 0, none⟩ = some (.pointer (some ⟨b, 0, none⟩))) V3 := ⟨keep_cell hb S2.1, keep_cell hb S2.2.1, keep_cell hb S2.2.2⟩
          have z3 : W.heap.size + 1 ≤ V3.heap.size := Nat.le_trans z2 hb.size
          have l4 := bb4.lt
          replace bb4 := bb4.later hb
          have hHeld := S3
          refine hK.out _ _ hHeld (fun _ => ?_)
          clear hK K
          try simp only [Act.put, List.setIfInBounds_toArray, List.set_cons_zero, List.set_cons_succ]
          have l4 := bb4.lt
          have l5 := bb5.lt
          have n45 : V0.heap.size ≠ V2.heap.size := by omega
          have w4 : W.heap.size + 1 ≤ V0.heap.size := by omega
          have w5 : W.heap.size + 1 ≤ V2.heap.size := by omega
          refine wpAnyH_ready (rs := [12]) (by kernel_rfl) (by simp) ?_
          refine AllReadyH.cons (o := ⟨none, _, _, _, _, _⟩) rfl (fun K hK => ?_) ?_
          · clear hHeld
            have c0 := bb4.cell 0
            have f0 := bb4.free 0
            have c1 := bb4.cell 1
            have f1 := bb4.free 1
            simp only [List.getElem?_toArray, List.getElem?_cons_zero, List.getElem?_cons_succ] at c0 c1
            have BB4 := Lib.hid bb4
            have BB5 := Lib.hid bb5
            clear bb4 bb5
            go_simp
            obtain ⟨V4, hV4⟩ : ∃ V, V = ((V3.setCell ⟨V0.heap.size, 0, none⟩ (.int .i64 a)).setCell ⟨V0.heap.size, 1, none⟩ (.int .i64 (a - 1))) := ⟨_, rfl⟩
            rw [← hV4]
            have nbb4 : Box V4 V0.heap.size #[.int .i64 a, .int .i64 (a - 1)] 124 := by rw [hV4]; exact ((BB4.out.set 0 (.int .i64 a)).set 1 (.int .i64 (a - 1)))
            have nbb5 : Box V4 V2.heap.size #[.int .i64 0, .int .i64 0, .int .i64 0, .int .i64 0] 44 := by rw [hV4]; exact ((BB5.out.far (p := ⟨V0.heap.size, 0, none⟩) n45.symm _).far (p := ⟨V0.heap.size, 1, none⟩) n45.symm _)
            have A4 : Adds W V4 := by rw [hV4]; exact ((A3.set (p := ⟨V0.heap.size, 0, none⟩) (Nat.le_of_succ_le w4) _).set (p := ⟨V0.heap.size, 1, none⟩) (Nat.le_of_succ_le w4) _)
            have A4' : Adds (W.alloc (.cells #[.func (.yield l) #[] #[]] 157)) V4 := by rw [hV4]; exact ((A3'.set (p := ⟨V0.heap.size, 0, none⟩) (by simp; omega) _).set (p := ⟨V0.heap.size, 1, none⟩) (by simp; omega) _)
            clear hV4 c0 f0 c1 f1 BB4 BB5
            have bb4 := nbb4
            have bb5 := nbb5
            clear nbb4 nbb5
            have S4 : (fun w' => w'.cell? ⟨pb, 0, none⟩ = some (.int .i64 a) ∧ w'.cell? ⟨pb, 1, none⟩ = some (.int .i64 c) ∧ w'.cell? ⟨nb, 0, none⟩ = some (.pointer (some ⟨b, 0, none⟩))) V4 := ⟨keep_cell A4 SW.1, keep_cell A4 SW.2.1, keep_cell A4 SW.2.2⟩
            have hHeld := S4
            refine hK.out _ _ hHeld (fun _ => ?_)
            clear hK K
            try simp only [Act.put, List.setIfInBounds_toArray, List.set_cons_zero, List.set_cons_succ]
            refine wpAnyH_ready (rs := [13]) (by kernel_rfl) (by simp) ?_
            refine AllReadyH.cons (o := ⟨none, _, _, _, _, _⟩) rfl (fun K hK => ?_) ?_
            · clear hHeld
              have c0 := bb5.cell 0
              have f0 := bb5.free 0
              have c1 := bb5.cell 1
              have f1 := bb5.free 1
              have c2 := bb5.cell 2
              have f2 := bb5.free 2
              have c3 := bb5.cell 3
              have f3 := bb5.free 3
              simp only [List.getElem?_toArray, List.getElem?_cons_zero, List.getElem?_cons_succ] at c0 c1 c2 c3
              have BB4 := Lib.hid bb4
              have BB5 := Lib.hid bb5
              clear bb4 bb5
              go_simp
              obtain ⟨V5, hV5⟩ : ∃ V, V = ((((V4.setCell ⟨V2.heap.size, 0, none⟩ (.int .i64 (t.look a).st)).setCell ⟨V2.heap.size, 1, none⟩ (.int .i64 (t.look a).lot)).setCell ⟨V2.heap.size, 2, none⟩ (.int .i64 (t.look a).own)).setCell ⟨V2.heap.size, 3, none⟩ (.int .i64 (t.look a).hold)) := ⟨_, rfl⟩
              rw [← hV5]
              have nbb5 : Box V5 V2.heap.size #[.int .i64 (t.look a).st, .int .i64 (t.look a).lot, .int .i64 (t.look a).own, .int .i64 (t.look a).hold] 44 := by rw [hV5]; exact ((((BB5.out.set 0 (.int .i64 (t.look a).st)).set 1 (.int .i64 (t.look a).lot)).set 2 (.int .i64 (t.look a).own)).set 3 (.int .i64 (t.look a).hold))
              have nbb4 : Box V5 V0.heap.size #[.int .i64 a, .int .i64 (a - 1)] 124 := by rw [hV5]; exact ((((BB4.out.far (p := ⟨V2.heap.size, 0, none⟩) n45 _).far (p := ⟨V2.heap.size, 1, none⟩) n45 _).far (p := ⟨V2.heap.size, 2, none⟩) n45 _).far (p := ⟨V2.heap.size, 3, none⟩) n45 _)
              have A5 : Adds W V5 := by rw [hV5]; exact ((((A4.set (p := ⟨V2.heap.size, 0, none⟩) (Nat.le_of_succ_le w5) _).set (p := ⟨V2.heap.size, 1, none⟩) (Nat.le_of_succ_le w5) _).set (p := ⟨V2.heap.size, 2, none⟩) (Nat.le_of_succ_le w5) _).set (p := ⟨V2.heap.size, 3, none⟩) (Nat.le_of_succ_le w5) _)
              have A5' : Adds (W.alloc (.cells #[.func (.yield l) #[] #[]] 157)) V5 := by rw [hV5]; exact ((((A4'.set (p := ⟨V2.heap.size, 0, none⟩) (by simp; omega) _).set (p := ⟨V2.heap.size, 1, none⟩) (by simp; omega) _).set (p := ⟨V2.heap.size, 2, none⟩) (by simp; omega) _).set (p := ⟨V2.heap.size, 3, none⟩) (by simp; omega) _)
              clear hV5 c0 f0 c1 f1 c2 f2 c3 f3 BB4 BB5
              have bb4 := nbb4
              have bb5 := nbb5
              clear nbb4 nbb5
              have S5 : (fun w' => w'.cell? ⟨pb, 0, none⟩ = some (.int .i64 a) ∧ w'.cell? ⟨pb, 1, none⟩ = some (.int .i64 c) ∧ w'.cell? ⟨nb, 0, none⟩ = some (.pointer (some ⟨b, 0, none⟩))) V5 := ⟨keep_cell A5 SW.1, keep_cell A5 SW.2.1, keep_cell A5 SW.2.2⟩
              have hHeld := S5
              refine hK.out _ _ hHeld (fun _ => ?_)
              clear hK K
              try simp only [Act.put, List.setIfInBounds_toArray, List.set_cons_zero, List.set_cons_succ]
              refine wpAnyH_done (by kernel_rfl) ?_ _
              have BB4 := Lib.hid bb4
              have BB5 := Lib.hid bb5
              clear bb4 bb5
              go_wp2_with fail
              go_meet
              exact ⟨⟨_, _, rfl, rfl, BB4.out, BB5.out, n45, w4, w5, A5⟩, A5'⟩
            exact AllReadyH.nil
          exact AllReadyH.nil
        exact AllReadyH.nil
      refine AllReadyH.cons (o := ⟨some 5, _, _, _, _, _⟩) rfl (fun K hK => ?_) ?_
      · clear hHeld
        go_simp
        obtain ⟨V2, hV2⟩ : ∃ V, V = V1.alloc (.cells #[.int .i64 0, .int .i64 0, .int .i64 0, .int .i64 0] 44) := ⟨_, rfl⟩
        rw [← hV2]
        have hb : Adds V1 V2 := by rw [hV2]; exact (Adds.refl _).alloc _
        have bb5 : Box V2 V1.heap.size #[.int .i64 0, .int .i64 0, .int .i64 0, .int .i64 0] 44 := by rw [hV2]; exact Box.new _ _ _
        clear hV2
        have A2 : Adds W V2 := A1.trans hb
        have A2' : Adds (W.alloc (.cells #[.func (.yield l) #[] #[]] 157)) V2 := A1'.trans hb
        have S2 : (fun w' => w'.cell? ⟨pb, 0, none⟩ = some (.int .i64 a) ∧ w'.cell? ⟨pb, 1, none⟩ = some (.int .i64 c) ∧ w'.cell? ⟨nb, 0, none⟩ = some (.pointer (some ⟨b, 0, none⟩))) V2 := ⟨keep_cell hb S1.1, keep_cell hb S1.2.1, keep_cell hb S1.2.2⟩
        have z2 : W.heap.size + 1 ≤ V2.heap.size := Nat.le_trans z1 hb.size
        have l4 := bb4.lt
        replace bb4 := bb4.later hb
        have hHeld := S2
        refine hK.out _ _ hHeld (fun _ => ?_)
        clear hK K
        try simp only [Act.put, List.setIfInBounds_toArray, List.set_cons_zero, List.set_cons_succ]
        refine wpAnyH_ready (rs := [9]) (by kernel_rfl) (by simp) ?_
        refine AllReadyH.cons (o := ⟨some 16, _, _, _, _, _⟩) rfl (fun K hK => ?_) ?_
        · clear hHeld
          go_simp
          refine (at_any a t b lo hi _ (HT.out.tree.later A2) HOK.out (by omega) (by omega)).mono ?_
          rintro e V3 ⟨rfl, hb⟩
          have A3 : Adds W V3 := A2.trans hb
          have A3' : Adds (W.alloc (.cells #[.func (.yield l) #[] #[]] 157)) V3 := A2'.trans hb
          have S3 : (fun w' => w'.cell? ⟨pb, 0, none⟩ = some (.int .i64 a) ∧ w'.cell? ⟨pb, 1, none⟩ = some (.int .i64 c) ∧ w'.cell? ⟨nb, 0, none⟩ = some (.pointer (some ⟨b, 0, none⟩))) V3 := ⟨keep_cell hb S2.1, keep_cell hb S2.2.1, keep_cell hb S2.2.2⟩
          have z3 : W.heap.size + 1 ≤ V3.heap.size := Nat.le_trans z2 hb.size
          have l4 := bb4.lt
          replace bb4 := bb4.later hb
          have l5 := bb5.lt
          replace bb5 := bb5.later hb
          have hHeld := S3
          refine hK.out _ _ hHeld (fun _ => ?_)
          clear hK K
          try simp only [Act.put, List.setIfInBounds_toArray, List.set_cons_zero, List.set_cons_succ]
          have l4 := bb4.lt
          have l5 := bb5.lt
          have n45 : V0.heap.size ≠ V1.heap.size := by omega
          have w4 : W.heap.size + 1 ≤ V0.heap.size := by omega
          have w5 : W.heap.size + 1 ≤ V1.heap.size := by omega
          refine wpAnyH_ready (rs := [12]) (by kernel_rfl) (by simp) ?_
          refine AllReadyH.cons (o := ⟨none, _, _, _, _, _⟩) rfl (fun K hK => ?_) ?_
          · clear hHeld
            have c0 := bb4.cell 0
            have f0 := bb4.free 0
            have c1 := bb4.cell 1
            have f1 := bb4.free 1
            simp only [List.getElem?_toArray, List.getElem?_cons_zero, List.getElem?_cons_succ] at c0 c1
            have BB4 := Lib.hid bb4
            have BB5 := Lib.hid bb5
            clear bb4 bb5
            go_simp
            obtain ⟨V4, hV4⟩ : ∃ V, V = ((V3.setCell ⟨V0.heap.size, 0, none⟩ (.int .i64 a)).setCell ⟨V0.heap.size, 1, none⟩ (.int .i64 (a - 1))) := ⟨_, rfl⟩
            rw [← hV4]
            have nbb4 : Box V4 V0.heap.size #[.int .i64 a, .int .i64 (a - 1)] 124 := by rw [hV4]; exact ((BB4.out.set 0 (.int .i64 a)).set 1 (.int .i64 (a - 1)))
            have nbb5 : Box V4 V1.heap.size #[.int .i64 0, .int .i64 0, .int .i64 0, .int .i64 0] 44 := by rw [hV4]; exact ((BB5.out.far (p := ⟨V0.heap.size, 0, none⟩) n45.symm _).far (p := ⟨V0.heap.size, 1, none⟩) n45.symm _)
            have A4 : Adds W V4 := by rw [hV4]; exact ((A3.set (p := ⟨V0.heap.size, 0, none⟩) (Nat.le_of_succ_le w4) _).set (p := ⟨V0.heap.size, 1, none⟩) (Nat.le_of_succ_le w4) _)
            have A4' : Adds (W.alloc (.cells #[.func (.yield l) #[] #[]] 157)) V4 := by rw [hV4]; exact ((A3'.set (p := ⟨V0.heap.size, 0, none⟩) (by simp; omega) _).set (p := ⟨V0.heap.size, 1, none⟩) (by simp; omega) _)
            clear hV4 c0 f0 c1 f1 BB4 BB5
            have bb4 := nbb4
            have bb5 := nbb5
            clear nbb4 nbb5
            have S4 : (fun w' => w'.cell? ⟨pb, 0, none⟩ = some (.int .i64 a) ∧ w'.cell? ⟨pb, 1, none⟩ = some (.int .i64 c) ∧ w'.cell? ⟨nb, 0, none⟩ = some (.pointer (some ⟨b, 0, none⟩))) V4 := ⟨keep_cell A4 SW.1, keep_cell A4 SW.2.1, keep_cell A4 SW.2.2⟩
            have hHeld := S4
            refine hK.out _ _ hHeld (fun _ => ?_)
            clear hK K
            try simp only [Act.put, List.setIfInBounds_toArray, List.set_cons_zero, List.set_cons_succ]
            refine wpAnyH_ready (rs := [13]) (by kernel_rfl) (by simp) ?_
            refine AllReadyH.cons (o := ⟨none, _, _, _, _, _⟩) rfl (fun K hK => ?_) ?_
            · clear hHeld
              have c0 := bb5.cell 0
              have f0 := bb5.free 0
              have c1 := bb5.cell 1
              have f1 := bb5.free 1
              have c2 := bb5.cell 2
              have f2 := bb5.free 2
              have c3 := bb5.cell 3
              have f3 := bb5.free 3
              simp only [List.getElem?_toArray, List.getElem?_cons_zero, List.getElem?_cons_succ] at c0 c1 c2 c3
              have BB4 := Lib.hid bb4
              have BB5 := Lib.hid bb5
              clear bb4 bb5
              go_simp
              obtain ⟨V5, hV5⟩ : ∃ V, V = ((((V4.setCell ⟨V1.heap.size, 0, none⟩ (.int .i64 (t.look a).st)).setCell ⟨V1.heap.size, 1, none⟩ (.int .i64 (t.look a).lot)).setCell ⟨V1.heap.size, 2, none⟩ (.int .i64 (t.look a).own)).setCell ⟨V1.heap.size, 3, none⟩ (.int .i64 (t.look a).hold)) := ⟨_, rfl⟩
              rw [← hV5]
              have nbb5 : Box V5 V1.heap.size #[.int .i64 (t.look a).st, .int .i64 (t.look a).lot, .int .i64 (t.look a).own, .int .i64 (t.look a).hold] 44 := by rw [hV5]; exact ((((BB5.out.set 0 (.int .i64 (t.look a).st)).set 1 (.int .i64 (t.look a).lot)).set 2 (.int .i64 (t.look a).own)).set 3 (.int .i64 (t.look a).hold))
              have nbb4 : Box V5 V0.heap.size #[.int .i64 a, .int .i64 (a - 1)] 124 := by rw [hV5]; exact ((((BB4.out.far (p := ⟨V1.heap.size, 0, none⟩) n45 _).far (p := ⟨V1.heap.size, 1, none⟩) n45 _).far (p := ⟨V1.heap.size, 2, none⟩) n45 _).far (p := ⟨V1.heap.size, 3, none⟩) n45 _)
              have A5 : Adds W V5 := by rw [hV5]; exact ((((A4.set (p := ⟨V1.heap.size, 0, none⟩) (Nat.le_of_succ_le w5) _).set (p := ⟨V1.heap.size, 1, none⟩) (Nat.le_of_succ_le w5) _).set (p := ⟨V1.heap.size, 2, none⟩) (Nat.le_of_succ_le w5) _).set (p := ⟨V1.heap.size, 3, none⟩) (Nat.le_of_succ_le w5) _)
              have A5' : Adds (W.alloc (.cells #[.func (.yield l) #[] #[]] 157)) V5 := by rw [hV5]; exact ((((A4'.set (p := ⟨V1.heap.size, 0, none⟩) (by simp; omega) _).set (p := ⟨V1.heap.size, 1, none⟩) (by simp; omega) _).set (p := ⟨V1.heap.size, 2, none⟩) (by simp; omega) _).set (p := ⟨V1.heap.size, 3, none⟩) (by simp; omega) _)
              clear hV5 c0 f0 c1 f1 c2 f2 c3 f3 BB4 BB5
              have bb4 := nbb4
              have bb5 := nbb5
              clear nbb4 nbb5
              have S5 : (fun w' => w'.cell? ⟨pb, 0, none⟩ = some (.int .i64 a) ∧ w'.cell? ⟨pb, 1, none⟩ = some (.int .i64 c) ∧ w'.cell? ⟨nb, 0, none⟩ = some (.pointer (some ⟨b, 0, none⟩))) V5 := ⟨keep_cell A5 SW.1, keep_cell A5 SW.2.1, keep_cell A5 SW.2.2⟩
              have hHeld := S5
              refine hK.out _ _ hHeld (fun _ => ?_)
              clear hK K
              try simp only [Act.put, List.setIfInBounds_toArray, List.set_cons_zero, List.set_cons_succ]
              refine wpAnyH_done (by kernel_rfl) ?_ _
              have BB4 := Lib.hid bb4
              have BB5 := Lib.hid bb5
              clear bb4 bb5
              go_wp2_with fail
              go_meet
              exact ⟨⟨_, _, rfl, rfl, BB4.out, BB5.out, n45, w4, w5, A5⟩, A5'⟩
            exact AllReadyH.nil
          exact AllReadyH.nil
        exact AllReadyH.nil
      exact AllReadyH.nil
    refine AllReadyH.cons (o := ⟨some 5, _, _, _, _, _⟩) rfl (fun K hK => ?_) ?_
    · clear hHeld
      go_simp
      obtain ⟨V1, hV1⟩ : ∃ V, V = V0.alloc (.cells #[.int .i64 0, .int .i64 0, .int .i64 0, .int .i64 0] 44) := ⟨_, rfl⟩
      rw [← hV1]
      have hb : Adds V0 V1 := by rw [hV1]; exact (Adds.refl _).alloc _
      have bb5 : Box V1 V0.heap.size #[.int .i64 0, .int .i64 0, .int .i64 0, .int .i64 0] 44 := by rw [hV1]; exact Box.new _ _ _
      clear hV1
      have A1 : Adds W V1 := A0.trans hb
      have A1' : Adds (W.alloc (.cells #[.func (.yield l) #[] #[]] 157)) V1 := A0'.trans hb
      have S1 : (fun w' => w'.cell? ⟨pb, 0, none⟩ = some (.int .i64 a) ∧ w'.cell? ⟨pb, 1, none⟩ = some (.int .i64 c) ∧ w'.cell? ⟨nb, 0, none⟩ = some (.pointer (some ⟨b, 0, none⟩))) V1 := ⟨keep_cell hb S0.1, keep_cell hb S0.2.1, keep_cell hb S0.2.2⟩
      have z1 : W.heap.size + 1 ≤ V1.heap.size := Nat.le_trans z0 hb.size
      have hHeld := S1
      refine hK.out _ _ hHeld (fun _ => ?_)
      clear hK K
      try simp only [Act.put, List.setIfInBounds_toArray, List.set_cons_zero, List.set_cons_succ]
      refine wpAnyH_ready (rs := [9, 10]) (by kernel_rfl) (by simp) ?_
      refine AllReadyH.cons (o := ⟨some 16, _, _, _, _, _⟩) rfl (fun K hK => ?_) ?_
      · clear hHeld
        go_simp
        refine (at_any a t b lo hi _ (HT.out.tree.later A1) HOK.out (by omega) (by omega)).mono ?_
        rintro e V2 ⟨rfl, hb⟩
        have A2 : Adds W V2 := A1.trans hb
        have A2' : Adds (W.alloc (.cells #[.func (.yield l) #[] #[]] 157)) V2 := A1'.trans hb
        have S2 : (fun w' => w'.cell? ⟨pb, 0, none⟩ = some (.int .i64 a) ∧ w'.cell? ⟨pb, 1, none⟩ = some (.int .i64 c) ∧ w'.cell? ⟨nb, 0, none⟩ = some (.pointer (some ⟨b, 0, none⟩))) V2 := ⟨keep_cell hb S1.1, keep_cell hb S1.2.1, keep_cell hb S1.2.2⟩
        have z2 : W.heap.size + 1 ≤ V2.heap.size := Nat.le_trans z1 hb.size
        have l5 := bb5.lt
        replace bb5 := bb5.later hb
        have hHeld := S2
        refine hK.out _ _ hHeld (fun _ => ?_)
        clear hK K
        try simp only [Act.put, List.setIfInBounds_toArray, List.set_cons_zero, List.set_cons_succ]
        refine wpAnyH_ready (rs := [10]) (by kernel_rfl) (by simp) ?_
        refine AllReadyH.cons (o := ⟨some 4, _, _, _, _, _⟩) rfl (fun K hK => ?_) ?_
        · clear hHeld
          go_simp
          obtain ⟨V3, hV3⟩ : ∃ V, V = V2.alloc (.cells #[.int .i64 0, .int .i64 0] 124) := ⟨_, rfl⟩
          rw [← hV3]
          have hb : Adds V2 V3 := by rw [hV3]; exact (Adds.refl _).alloc _
          have bb4 : Box V3 V2.heap.size #[.int .i64 0, .int .i64 0] 124 := by rw [hV3]; exact Box.new _ _ _
          clear hV3
          have A3 : Adds W V3 := A2.trans hb
          have A3' : Adds (W.alloc (.cells #[.func (.yield l) #[] #[]] 157)) V3 := A2'.trans hb
          have S3 : (fun w' => w'.cell? ⟨pb, 0, none⟩ = some (.int .i64 a) ∧ w'.cell? ⟨pb, 1, none⟩ = some (.int .i64 c) ∧ w'.cell? ⟨nb, 0, none⟩ = some (.pointer (some ⟨b, 0, none⟩))) V3 := ⟨keep_cell hb S2.1, keep_cell hb S2.2.1, keep_cell hb S2.2.2⟩
          have z3 : W.heap.size + 1 ≤ V3.heap.size := Nat.le_trans z2 hb.size
          have l5 := bb5.lt
          replace bb5 := bb5.later hb
          have hHeld := S3
          refine hK.out _ _ hHeld (fun _ => ?_)
          clear hK K
          try simp only [Act.put, List.setIfInBounds_toArray, List.set_cons_zero, List.set_cons_succ]
          have l4 := bb4.lt
          have l5 := bb5.lt
          have n45 : V2.heap.size ≠ V0.heap.size := by omega
          have w4 : W.heap.size + 1 ≤ V2.heap.size := by omega
          have w5 : W.heap.size + 1 ≤ V0.heap.size := by omega
          refine wpAnyH_ready (rs := [12]) (by kernel_rfl) (by simp) ?_
          refine AllReadyH.cons (o := ⟨none, _, _, _, _, _⟩) rfl (fun K hK => ?_) ?_
          · clear hHeld
            have c0 := bb4.cell 0
            have f0 := bb4.free 0
            have c1 := bb4.cell 1
            have f1 := bb4.free 1
            simp only [List.getElem?_toArray, List.getElem?_cons_zero, List.getElem?_cons_succ] at c0 c1
            have BB4 := Lib.hid bb4
            have BB5 := Lib.hid bb5
            clear bb4 bb5
            go_simp
            obtain ⟨V4, hV4⟩ : ∃ V, V = ((V3.setCell ⟨V2.heap.size, 0, none⟩ (.int .i64 a)).setCell ⟨V2.heap.size, 1, none⟩ (.int .i64 (a - 1))) := ⟨_, rfl⟩
            rw [← hV4]
            have nbb4 : Box V4 V2.heap.size #[.int .i64 a, .int .i64 (a - 1)] 124 := by rw [hV4]; exact ((BB4.out.set 0 (.int .i64 a)).set 1 (.int .i64 (a - 1)))
            have nbb5 : Box V4 V0.heap.size #[.int .i64 0, .int .i64 0, .int .i64 0, .int .i64 0] 44 := by rw [hV4]; exact ((BB5.out.far (p := ⟨V2.heap.size, 0, none⟩) n45.symm _).far (p := ⟨V2.heap.size, 1, none⟩) n45.symm _)
            have A4 : Adds W V4 := by rw [hV4]; exact ((A3.set (p := ⟨V2.heap.size, 0, none⟩) (Nat.le_of_succ_le w4) _).set (p := ⟨V2.heap.size, 1, none⟩) (Nat.le_of_succ_le w4) _)
            have A4' : Adds (W.alloc (.cells #[.func (.yield l) #[] #[]] 157)) V4 := by rw [hV4]; exact ((A3'.set (p := ⟨V2.heap.size, 0, none⟩) (by simp; omega) _).set (p := ⟨V2.heap.size, 1, none⟩) (by simp; omega) _)
            clear hV4 c0 f0 c1 f1 BB4 BB5
            have bb4 := nbb4
            have bb5 := nbb5
            clear nbb4 nbb5
            have S4 : (fun w' => w'.cell? ⟨pb, 0, none⟩ = some (.int .i64 a) ∧ w'.cell? ⟨pb, 1, none⟩ = some (.int .i64 c) ∧ w'.cell? ⟨nb, 0, none⟩ = some (.pointer (some ⟨b, 0, none⟩))) V4 := ⟨keep_cell A4 SW.1, keep_cell A4 SW.2.1, keep_cell A4 SW.2.2⟩
            have hHeld := S4
            refine hK.out _ _ hHeld (fun _ => ?_)
            clear hK K
            try simp only [Act.put, List.setIfInBounds_toArray, List.set_cons_zero, List.set_cons_succ]
            refine wpAnyH_ready (rs := [13]) (by kernel_rfl) (by simp) ?_
            refine AllReadyH.cons (o := ⟨none, _, _, _, _, _⟩) rfl (fun K hK => ?_) ?_
            · clear hHeld
              have c0 := bb5.cell 0
              have f0 := bb5.free 0
              have c1 := bb5.cell 1
              have f1 := bb5.free 1
              have c2 := bb5.cell 2
              have f2 := bb5.free 2
              have c3 := bb5.cell 3
              have f3 := bb5.free 3
              simp only [List.getElem?_toArray, List.getElem?_cons_zero, List.getElem?_cons_succ] at c0 c1 c2 c3
              have BB4 := Lib.hid bb4
              have BB5 := Lib.hid bb5
              clear bb4 bb5
              go_simp
              obtain ⟨V5, hV5⟩ : ∃ V, V = ((((V4.setCell ⟨V0.heap.size, 0, none⟩ (.int .i64 (t.look a).st)).setCell ⟨V0.heap.size, 1, none⟩ (.int .i64 (t.look a).lot)).setCell ⟨V0.heap.size, 2, none⟩ (.int .i64 (t.look a).own)).setCell ⟨V0.heap.size, 3, none⟩ (.int .i64 (t.look a).hold)) := ⟨_, rfl⟩
              rw [← hV5]
              have nbb5 : Box V5 V0.heap.size #[.int .i64 (t.look a).st, .int .i64 (t.look a).lot, .int .i64 (t.look a).own, .int .i64 (t.look a).hold] 44 := by rw [hV5]; exact ((((BB5.out.set 0 (.int .i64 (t.look a).st)).set 1 (.int .i64 (t.look a).lot)).set 2 (.int .i64 (t.look a).own)).set 3 (.int .i64 (t.look a).hold))
              have nbb4 : Box V5 V2.heap.size #[.int .i64 a, .int .i64 (a - 1)] 124 := by rw [hV5]; exact ((((BB4.out.far (p := ⟨V0.heap.size, 0, none⟩) n45 _).far (p := ⟨V0.heap.size, 1, none⟩) n45 _).far (p := ⟨V0.heap.size, 2, none⟩) n45 _).far (p := ⟨V0.heap.size, 3, none⟩) n45 _)
              have A5 : Adds W V5 := by rw [hV5]; exact ((((A4.set (p := ⟨V0.heap.size, 0, none⟩) (Nat.le_of_succ_le w5) _).set (p := ⟨V0.heap.size, 1, none⟩) (Nat.le_of_succ_le w5) _).set (p := ⟨V0.heap.size, 2, none⟩) (Nat.le_of_succ_le w5) _).set (p := ⟨V0.heap.size, 3, none⟩) (Nat.le_of_succ_le w5) _)
              have A5' : Adds (W.alloc (.cells #[.func (.yield l) #[] #[]] 157)) V5 := by rw [hV5]; exact ((((A4'.set (p := ⟨V0.heap.size, 0, none⟩) (by simp; omega) _).set (p := ⟨V0.heap.size, 1, none⟩) (by simp; omega) _).set (p := ⟨V0.heap.size, 2, none⟩) (by simp; omega) _).set (p := ⟨V0.heap.size, 3, none⟩) (by simp; omega) _)
              clear hV5 c0 f0 c1 f1 c2 f2 c3 f3 BB4 BB5
              have bb4 := nbb4
              have bb5 := nbb5
              clear nbb4 nbb5
              have S5 : (fun w' => w'.cell? ⟨pb, 0, none⟩ = some (.int .i64 a) ∧ w'.cell? ⟨pb, 1, none⟩ = some (.int .i64 c) ∧ w'.cell? ⟨nb, 0, none⟩ = some (.pointer (some ⟨b, 0, none⟩))) V5 := ⟨keep_cell A5 SW.1, keep_cell A5 SW.2.1, keep_cell A5 SW.2.2⟩
              have hHeld := S5
              refine hK.out _ _ hHeld (fun _ => ?_)
              clear hK K
              try simp only [Act.put, List.setIfInBounds_toArray, List.set_cons_zero, List.set_cons_succ]
              refine wpAnyH_done (by kernel_rfl) ?_ _
              have BB4 := Lib.hid bb4
              have BB5 := Lib.hid bb5
              clear bb4 bb5
              go_wp2_with fail
              go_meet
              exact ⟨⟨_, _, rfl, rfl, BB4.out, BB5.out, n45, w4, w5, A5⟩, A5'⟩
            exact AllReadyH.nil
          exact AllReadyH.nil
        exact AllReadyH.nil
      refine AllReadyH.cons (o := ⟨some 4, _, _, _, _, _⟩) rfl (fun K hK => ?_) ?_
      · clear hHeld
        go_simp
        obtain ⟨V2, hV2⟩ : ∃ V, V = V1.alloc (.cells #[.int .i64 0, .int .i64 0] 124) := ⟨_, rfl⟩
        rw [← hV2]
        have hb : Adds V1 V2 := by rw [hV2]; exact (Adds.refl _).alloc _
        have bb4 : Box V2 V1.heap.size #[.int .i64 0, .int .i64 0] 124 := by rw [hV2]; exact Box.new _ _ _
        clear hV2
        have A2 : Adds W V2 := A1.trans hb
        have A2' : Adds (W.alloc (.cells #[.func (.yield l) #[] #[]] 157)) V2 := A1'.trans hb
        have S2 : (fun w' => w'.cell? ⟨pb, 0, none⟩ = some (.int .i64 a) ∧ w'.cell? ⟨pb, 1, none⟩ = some (.int .i64 c) ∧ w'.cell? ⟨nb, 0, none⟩ = some (.pointer (some ⟨b, 0, none⟩))) V2 := ⟨keep_cell hb S1.1, keep_cell hb S1.2.1, keep_cell hb S1.2.2⟩
        have z2 : W.heap.size + 1 ≤ V2.heap.size := Nat.le_trans z1 hb.size
        have l5 := bb5.lt
        replace bb5 := bb5.later hb
        have hHeld := S2
        refine hK.out _ _ hHeld (fun _ => ?_)
        clear hK K
        try simp only [Act.put, List.setIfInBounds_toArray, List.set_cons_zero, List.set_cons_succ]
        refine wpAnyH_ready (rs := [9]) (by kernel_rfl) (by simp) ?_
        refine AllReadyH.cons (o := ⟨some 16, _, _, _, _, _⟩) rfl (fun K hK => ?_) ?_
        · clear hHeld
          go_simp
          refine (at_any a t b lo hi _ (HT.out.tree.later A2) HOK.out (by omega) (by omega)).mono ?_
          rintro e V3 ⟨rfl, hb⟩
          have A3 : Adds W V3 := A2.trans hb
          have A3' : Adds (W.alloc (.cells #[.func (.yield l) #[] #[]] 157)) V3 := A2'.trans hb
          have S3 : (fun w' => w'.cell? ⟨pb, 0, none⟩ = some (.int .i64 a) ∧ w'.cell? ⟨pb, 1, none⟩ = some (.int .i64 c) ∧ w'.cell? ⟨nb, 0, none⟩ = some (.pointer (some ⟨b, 0, none⟩))) V3 := ⟨keep_cell hb S2.1, keep_cell hb S2.2.1, keep_cell hb S2.2.2⟩
          have z3 : W.heap.size + 1 ≤ V3.heap.size := Nat.le_trans z2 hb.size
          have l4 := bb4.lt
          replace bb4 := bb4.later hb
          have l5 := bb5.lt
          replace bb5 := bb5.later hb
          have hHeld := S3
          refine hK.out _ _ hHeld (fun _ => ?_)
          clear hK K
          try simp only [Act.put, List.setIfInBounds_toArray, List.set_cons_zero, List.set_cons_succ]
          have l4 := bb4.lt
          have l5 := bb5.lt
          have n45 : V1.heap.size ≠ V0.heap.size := by omega
          have w4 : W.heap.size + 1 ≤ V1.heap.size := by omega
          have w5 : W.heap.size + 1 ≤ V0.heap.size := by omega
          refine wpAnyH_ready (rs := [12]) (by kernel_rfl) (by simp) ?_
          refine AllReadyH.cons (o := ⟨none, _, _, _, _, _⟩) rfl (fun K hK => ?_) ?_
          · clear hHeld
            have c0 := bb4.cell 0
            have f0 := bb4.free 0
            have c1 := bb4.cell 1
            have f1 := bb4.free 1
            simp only [List.getElem?_toArray, List.getElem?_cons_zero, List.getElem?_cons_succ] at c0 c1
            have BB4 := Lib.hid bb4
            have BB5 := Lib.hid bb5
            clear bb4 bb5
            go_simp
            obtain ⟨V4, hV4⟩ : ∃ V, V = ((V3.setCell ⟨V1.heap.size, 0, none⟩ (.int .i64 a)).setCell ⟨V1.heap.size, 1, none⟩ (.int .i64 (a - 1))) := ⟨_, rfl⟩
            rw [← hV4]
            have nbb4 : Box V4 V1.heap.size #[.int .i64 a, .int .i64 (a - 1)] 124 := by rw [hV4]; exact ((BB4.out.set 0 (.int .i64 a)).set 1 (.int .i64 (a - 1)))
            have nbb5 : Box V4 V0.heap.size #[.int .i64 0, .int .i64 0, .int .i64 0, .int .i64 0] 44 := by rw [hV4]; exact ((BB5.out.far (p := ⟨V1.heap.size, 0, none⟩) n45.symm _).far (p := ⟨V1.heap.size, 1, none⟩) n45.symm _)
            have A4 : Adds W V4 := by rw [hV4]; exact ((A3.set (p := ⟨V1.heap.size, 0, none⟩) (Nat.le_of_succ_le w4) _).set (p := ⟨V1.heap.size, 1, none⟩) (Nat.le_of_succ_le w4) _)
            have A4' : Adds (W.alloc (.cells #[.func (.yield l) #[] #[]] 157)) V4 := by rw [hV4]; exact ((A3'.set (p := ⟨V1.heap.size, 0, none⟩) (by simp; omega) _).set (p := ⟨V1.heap.size, 1, none⟩) (by simp; omega) _)
            clear hV4 c0 f0 c1 f1 BB4 BB5
            have bb4 := nbb4
            have bb5 := nbb5
            clear nbb4 nbb5
            have S4 : (fun w' => w'.cell? ⟨pb, 0, none⟩ = some (.int .i64 a) ∧ w'.cell? ⟨pb, 1, none⟩ = some (.int .i64 c) ∧ w'.cell? ⟨nb, 0, none⟩ = some (.pointer (some ⟨b, 0, none⟩))) V4 := ⟨keep_cell A4 SW.1, keep_cell A4 SW.2.1, keep_cell A4 SW.2.2⟩
            have hHeld := S4
            refine hK.out _ _ hHeld (fun _ => ?_)
            clear hK K
            try simp only [Act.put, List.setIfInBounds_toArray, List.set_cons_zero, List.set_cons_succ]
            refine wpAnyH_ready (rs := [13]) (by kernel_rfl) (by simp) ?_
            refine AllReadyH.cons (o := ⟨none, _, _, _, _, _⟩) rfl (fun K hK => ?_) ?_
            · clear hHeld
              have c0 := bb5.cell 0
              have f0 := bb5.free 0
              have c1 := bb5.cell 1
              have f1 := bb5.free 1
              have c2 := bb5.cell 2
              have f2 := bb5.free 2
              have c3 := bb5.cell 3
              have f3 := bb5.free 3
              simp only [List.getElem?_toArray, List.getElem?_cons_zero, List.getElem?_cons_succ] at c0 c1 c2 c3
              have BB4 := Lib.hid bb4
              have BB5 := Lib.hid bb5
              clear bb4 bb5
              go_simp
              obtain ⟨V5, hV5⟩ : ∃ V, V = ((((V4.setCell ⟨V0.heap.size, 0, none⟩ (.int .i64 (t.look a).st)).setCell ⟨V0.heap.size, 1, none⟩ (.int .i64 (t.look a).lot)).setCell ⟨V0.heap.size, 2, none⟩ (.int .i64 (t.look a).own)).setCell ⟨V0.heap.size, 3, none⟩ (.int .i64 (t.look a).hold)) := ⟨_, rfl⟩
              rw [← hV5]
              have nbb5 : Box V5 V0.heap.size #[.int .i64 (t.look a).st, .int .i64 (t.look a).lot, .int .i64 (t.look a).own, .int .i64 (t.look a).hold] 44 := by rw [hV5]; exact ((((BB5.out.set 0 (.int .i64 (t.look a).st)).set 1 (.int .i64 (t.look a).lot)).set 2 (.int .i64 (t.look a).own)).set 3 (.int .i64 (t.look a).hold))
              have nbb4 : Box V5 V1.heap.size #[.int .i64 a, .int .i64 (a - 1)] 124 := by rw [hV5]; exact ((((BB4.out.far (p := ⟨V0.heap.size, 0, none⟩) n45 _).far (p := ⟨V0.heap.size, 1, none⟩) n45 _).far (p := ⟨V0.heap.size, 2, none⟩) n45 _).far (p := ⟨V0.heap.size, 3, none⟩) n45 _)
              have A5 : Adds W V5 := by rw [hV5]; exact ((((A4.set (p := ⟨V0.heap.size, 0, none⟩) (Nat.le_of_succ_le w5) _).set (p := ⟨V0.heap.size, 1, none⟩) (Nat.le_of_succ_le w5) _).set (p := ⟨V0.heap.size, 2, none⟩) (Nat.le_of_succ_le w5) _).set (p := ⟨V0.heap.size, 3, none⟩) (Nat.le_of_succ_le w5) _)
              have A5' : Adds (W.alloc (.cells #[.func (.yield l) #[] #[]] 157)) V5 := by rw [hV5]; exact ((((A4'.set (p := ⟨V0.heap.size, 0, none⟩) (by simp; omega) _).set (p := ⟨V0.heap.size, 1, none⟩) (by simp; omega) _).set (p := ⟨V0.heap.size, 2, none⟩) (by simp; omega) _).set (p := ⟨V0.heap.size, 3, none⟩) (by simp; omega) _)
              clear hV5 c0 f0 c1 f1 c2 f2 c3 f3 BB4 BB5
              have bb4 := nbb4
              have bb5 := nbb5
              clear nbb4 nbb5
              have S5 : (fun w' => w'.cell? ⟨pb, 0, none⟩ = some (.int .i64 a) ∧ w'.cell? ⟨pb, 1, none⟩ = some (.int .i64 c) ∧ w'.cell? ⟨nb, 0, none⟩ = some (.pointer (some ⟨b, 0, none⟩))) V5 := ⟨keep_cell A5 SW.1, keep_cell A5 SW.2.1, keep_cell A5 SW.2.2⟩
              have hHeld := S5
              refine hK.out _ _ hHeld (fun _ => ?_)
              clear hK K
              try simp only [Act.put, List.setIfInBounds_toArray, List.set_cons_zero, List.set_cons_succ]
              refine wpAnyH_done (by kernel_rfl) ?_ _
              have BB4 := Lib.hid bb4
              have BB5 := Lib.hid bb5
              clear bb4 bb5
              go_wp2_with fail
              go_meet
              exact ⟨⟨_, _, rfl, rfl, BB4.out, BB5.out, n45, w4, w5, A5⟩, A5'⟩
            exact AllReadyH.nil
          exact AllReadyH.nil
        exact AllReadyH.nil
      exact AllReadyH.nil
    exact AllReadyH.nil
  case rest =>
    obtain ⟨⟨r4, r5, rfl, rfl, b4, b5, n45, g4, g5, hb⟩, hb2⟩ := hcut
    have hb3 := Lib.hid hb2
    have y0 : Box wc W.heap.size #[.func (.yield l) #[] #[]] 157 := (Box.new W _ _).later hb2
    have q0 := keep_cell hb p0
    have q1 := keep_cell hb p1
    have m0 := keep_cell hb nb0
    have hzc := hb2.size
    simp only [World.size_alloc] at hzc
    have HB := Lib.hid hb
    have B4 := Lib.hid b4
    have B5 := Lib.hid b5
    have Y0 := Lib.hid y0
    have hl4 := b4.lt
    have hl5 := b5.lt
    clear p0 p1 nb0 P0 P1 N0 hb hb2 b4 b5 y0
    have HYL := Lib.hid (yields_101 (piecesT a c t) (runsT a c t) r4 r5 W.heap.size l W.heap.size J Jx HLT.out HST.out HSX.out HY.out (by omega) (by omega) (Nat.le_refl _) hl2 n45 (by omega) (by omega))
    have HJ0 : Hid (JP (piecesT a c t) (runsT a c t) r4 r5 W.heap.size l J (fun k => O k ∨ k = r4 ∨ k = r5) [] wc) := Lib.hid
      ⟨O, [], a, a - 1, t.look a, piecesT a c t, rfl, HST.out _ _ _ _ HJ.out (.of_adds HB.out _ _), fun h => by have := HLT.out _ _ _ HJ.out _ h; omega, fun h => by have := HLT.out _ _ _ HJ.out _ h; omega, fun h => by have := HLT.out _ _ _ HJ.out _ h; omega, rfl, rfl, B4.out, B5.out, Y0.out⟩
    have HT0 : Hid (TreeIn (fun k => ¬ ((O k ∨ k = r4 ∨ k = r5) ∨ k = l)) wc b t) := Lib.hid
      (((HTN.out.lt.mono (Pr' := fun k => ¬ ((O k ∨ k = r4 ∨ k = r5) ∨ k = l)) (fun k hk h => by rcases h with (h | h | h) | h; exact hk.1 h; omega; omega; omega)).later hW).later HB.out)
    clear n45
    go_wp2_with fail
    refine (pieces_any 101 _ a c (by omega) (by omega) hac (piecesT a c t) (fun k => k = l) _ _ HYL.out 1000001 t b lo hi wc (fun k => O k ∨ k = r4 ∨ k = r5) [] [] (by omega) HOK.out h1 h3 HT0.out HJ0.out (by intro k hk; omega) (by simp)).mono ?_
    rintro e V ⟨v, O', rfl, htch, hj, hx⟩
    cases v
    · obtain ⟨pre, rest, _, Ob, R, rest', e1, hjx⟩ := hx rfl
      have HX := Lib.hid hjx
      have HE := Lib.hid e1
      clear hj hx hjx e1
      go_wp2_with fail
      go_end0
      exact ⟨⟨_, rfl⟩, Or.inr ⟨Ob, R, rest', HE.out, HX.out⟩⟩
    · obtain ⟨⟨Ob, R, x, y, s, rest, eO, hJ2, no4, no5, noy, hpre, hX, b4, b5, b6⟩, hG⟩ := hj rfl
      have hr : rest = [] := by simpa using hpre
      subst hr
      have HX := Lib.hid hX
      have HJ2 := Lib.hid hJ2
      have g0 := b4.cell 0
      have g1 := b4.cell 1
      have s0 := b5.cell 0
      have s1 := b5.cell 1
      have s2 := b5.cell 2
      have s3 := b5.cell 3
      have yy := b6.cell 0
      simp only [List.getElem?_toArray, List.getElem?_cons_zero, List.getElem?_cons_succ] at g0 g1 s0 s1 s2 s3 yy
      obtain ⟨fn, tmps, assign, body, hrun, hR⟩ := HY.out Ob R (x, y, s) [] V (by simpa [mergeT] using hX) hJ2
      clear hX hJ2 hpre hj hx eO b4 b5 b6 no4 no5 noy hG htch
      go_upto_region 4 with fail
      refine (wpIn_wide (n := 1)).1 ?_
      gi_wp2_with fail
      refine hR.mono ?_
      rintro e W3 ⟨v, O2, rfl, ht3, hj3, hx3⟩
      dsimp only
      gi_wp2_with fail
      go_end0
      refine ⟨⟨_, rfl⟩, ?_⟩
      have hX' : R ++ [(x, y, s)] = runsT a c t := by simpa [mergeT] using HX.out
      cases v
      · exact Or.inr ⟨O2, _, [], by rw [List.append_nil]; exact hX', hx3 rfl⟩
      · exact Or.inl ⟨O2, by rw [← hX']; exact (hj3 rfl).1⟩
end Go.Proofs.Ytofaioabjkcaiaa
