/- StockRuns: the law's walk. -/
import Derived.Test.YtofaioabjkcaiaaCR
import Derived.Test.YtofaioabjkcaiaaCA
import Derived.Test.YtofaioabjkcaiaaAF
import Derived.Deep.RegionHeld3
import Derived.Deep.DeepCutAuto
namespace Go.Proofs.Ytofaioabjkcaiaa
open Go.RowKit

theorem version_is {B : Nat} (s : Nat) (v : Value) (bs : List Nat) (Ts : List Tree) (z : Int) (w : World) (h : StockAt B w s v bs Ts) (hz : (bs.length : Int) = z) :
    Calls Try.prog 16 #[.pointer (some ⟨s, 0, none⟩)] w fun e w' => e = .returned (.int .i64 z) ∧ w = w' := by subst hz; exact version_any B s v bs Ts w h

theorem Link.atLast {w : World} {s : Nat} {v : Value} {bs : List Nat} {Ts : List Tree} {g0 n0 c0 : Nat} {Ls : List (List Piece)} (h : Link w s v bs Ts g0 n0 c0 Ls) : Ls[bs.length]? = some (Ls.getLastD []) := by
  have hl : Ls[bs.length]? = some (Ls[bs.length]'(by have := h.len; omega)) := List.getElem?_eq_getElem _
  rw [List.getLastD_eq_getLast?, List.getLast?_eq_getElem?, show Ls.length - 1 = bs.length by have := h.len; omega, hl]; rfl

/-- Between two changes of a script. -/
structure RunJ (w W7 : World) (b4 s k : Nat) (wr : World) : Prop where
  ex : ∃ v bs Ts g0 n0 c0 Ls, Link wr s v bs Ts g0 n0 c0 Ls ∧ bs.length ≤ k ∧ Box wr b4 #[.slice (some ⟨g0, 0, none⟩) n0 c0] 27 ∧ g0 ≠ b4 ∧ (∀ j, v.ownBlock = some j → W7.heap.size ≤ j) ∧ Adds w wr ∧ W7.heap.size ≤ wr.heap.size

/-- Behind a change, ahead of its being kept. -/
structure MidJ (w W7 : World) (b4 b6 s k : Nat) (X : Value) (v : Value) (bs : List Nat) (Ts : List Tree) (g1 n1 c1 : Nat) (Ls : List (List Piece)) (wc : World) : Prop where
  link : Link wc s v bs Ts g1 n1 c1 Ls
  few : bs.length ≤ k
  box6 : Box wc b6 #[.slice (some ⟨g1, 0, none⟩) n1 c1] 27
  box4 : Box wc b4 #[X] 27
  off : g1 ≠ b4
  own : ∀ j, v.ownBlock = some j → W7.heap.size ≤ j
  adds : Adds w wc
  size : W7.heap.size ≤ wc.heap.size

/-- The same without the new place. -/
structure MidK (w W7 : World) (b4 s k : Nat) (X : Value) (v : Value) (bs : List Nat) (Ts : List Tree) (g1 n1 c1 : Nat) (Ls : List (List Piece)) (wc : World) : Prop where
  link : Link wc s v bs Ts g1 n1 c1 Ls
  few : bs.length ≤ k
  box4 : Box wc b4 #[X] 27
  off : g1 ≠ b4
  own : ∀ j, v.ownBlock = some j → W7.heap.size ≤ j
  adds : Adds w wc
  size : W7.heap.size ≤ wc.heap.size

theorem MidK.alloc {w W7 : World} {b4 s k : Nat} {X : Value} {v : Value} {bs : List Nat} {Ts : List Tree} {g1 n1 c1 : Nat} {Ls : List (List Piece)} {wc : World} (h : MidK w W7 b4 s k X v bs Ts g1 n1 c1 Ls wc) :
    MidJ w W7 b4 wc.heap.size s k X v bs Ts g1 n1 c1 Ls (wc.alloc (.cells #[.slice (some ⟨g1, 0, none⟩) n1 c1] 27)) :=
  have A : Adds wc (wc.alloc (.cells #[.slice (some ⟨g1, 0, none⟩) n1 c1] 27)) := (Adds.refl _).alloc _
  ⟨h.link.later A, h.few, Box.new _ _ _, h.box4.later A, h.off, h.own, h.adds.trans A, Nat.le_trans h.size A.size⟩

theorem MidK.put {w W7 : World} {b b4 s k : Nat} {X : Value} {v : Value} {bs : List Nat} {Ts : List Tree} {g1 n1 c1 : Nat} {Ls : List (List Piece)} {wc : World} (h : MidK w W7 b4 s k X v bs Ts g1 n1 c1 Ls wc) (Y : Box wc b #[.slice none 0 0] 27) (h1 : b ≠ s) (h2 : g1 ≠ b) (h3 : b ≠ b4) (h4 : w.heap.size ≤ b) :
    MidJ w W7 b4 b s k X v bs Ts g1 n1 c1 Ls (wc.setCell ⟨b, 0, none⟩ (.slice (some ⟨g1, 0, none⟩) n1 c1)) := by
  have yc := Y.cell 0
  simp only [List.getElem?_toArray, List.getElem?_cons_zero] at yc
  exact ⟨h.link.touch yc h1 h2, h.few, Y.set 0 _, h.box4.far (by exact Ne.symm h3) _, h.off, h.own, h.adds.set h4 _, by have := h.size; simpa [World.setCell] using this⟩

theorem midK_of {w W7 wr w8 : World} {b4 s k g0 n0 c0 g1 n1 c1 bd : Nat} {v v' : Value} {bs bs' : List Nat} {Ts' : List Tree} {Ls' : List (List Piece)} (hA : Adds w wr) (hsz : W7.heap.size ≤ wr.heap.size) (hX : Box wr b4 #[.slice (some ⟨g0, 0, none⟩) n0 c0] 27) (how : ∀ j, v.ownBlock = some j → W7.heap.size ≤ j) (hwW : w.heap.size ≤ W7.heap.size) (hws : w.heap.size ≤ s) (hb4W : b4 < W7.heap.size)
    (hbs : bs.length ≤ k) (hn7 : ¬ (b4 = s ∨ v.ownBlock = some b4)) (hg7 : g0 ≠ b4) (ht : Touch (fun j => j = s ∨ v.ownBlock = some j) wr w8) (hlk : Link w8 s v' bs' Ts' g1 n1 c1 Ls') (hb2 : bs'.length ≤ bs.length + 1) (ho : ∀ j, v'.ownBlock = some j → j = s ∨ v.ownBlock = some j ∨ bd ≤ j) (hg1 : g1 = g0 ∨ bd ≤ g1) (hbd : wr.heap.size ≤ bd) :
    MidK w W7 b4 s (k + 1) (.slice (some ⟨g0, 0, none⟩) n0 c0) v' bs' Ts' g1 n1 c1 Ls' w8 := by
  refine ⟨hlk, by omega, hX.same (ht.same _ hX.lt hn7), ?_, fun j hj => ?_, adds_touch hA ht (fun j hj => hj.elim (fun h => by omega) (fun h => by have := how j h; omega)), Nat.le_trans hsz ht.size⟩
  · rcases hg1 with h | h
    · rw [h]; exact hg7
    · have := hX.lt; omega
  · rcases ho j hj with h | h | h
    · subst h; exact (hlk.stock.sep hj).elim
    · exact how j h
    · omega

set_option maxRecDepth 100000 in
set_option maxHeartbeats 8000000 in
theorem runs_law (p : Option Addr) (N cap : Nat) (f : Nat → Nat → Int) (w : World) (hN : N ≤ maxLen) (hL : ActsAt w p N f) : Calls Try.prog 3 #[.slice p N cap] w fun e w' => e = .returned (.bool true) ∧ Adds w w' := by
  have HL := Lib.hid hL
  clear hL
  go_enter Try.func3, Try.ntmps3
  go_upto_region 2 with (first
    | (go_at_call 13; refine (new_any _).mono ?_; rintro e w2 ⟨s, rfl, hS, hs, hb2⟩; have HS := Lib.hid hS; have HB2 := Lib.hid hb2; clear hS hb2)
    | (go_at_call 14; refine (RNew2_any _).mono ?_; rintro e w3 ⟨g, rfl, hg, hR, hb3⟩; have HRR := Lib.hid hR; have HB3 := Lib.hid hb3; clear hR hb3))
  obtain ⟨b4, hb4⟩ : ∃ k, k = w3.heap.size := ⟨_, rfl⟩
  obtain ⟨W7, hW7⟩ : ∃ V, V = w3.alloc (.cells #[.slice (some ⟨g, 0, none⟩) 1 1] 27) := ⟨_, rfl⟩
  have A7 : Adds w3 W7 := by rw [hW7]; exact (Adds.refl _).alloc _
  have X7 : Box W7 b4 #[.slice (some ⟨g, 0, none⟩) 1 1] 27 := by rw [hW7, hb4]; exact Box.new _ _ _
  have hsl : s < w2.heap.size := HS.out.box.lt
  have hgl : g < w3.heap.size := ref_lt HRR.out
  have h12 := HB2.out.size
  have h23 := HB3.out.size
  have h37 := A7.size
  have h7l := X7.lt
  have hinit : RunJ w W7 b4 s 0 W7 := ⟨_, [], [], g, 1, 1, [[]], (link_new (((HS.out.later HB3.out).later A7).tight) (HRR.out.later A7) (by omega)), by simp, X7, by omega, fun j hj => by simp [Value.ownBlock] at hj, (HB2.out.trans HB3.out).trans A7, Nat.le_refl _⟩
  rw [← hW7, ← hb4]
  have HIN := Lib.hid hinit
  have hb4s : b4 ≠ s := by omega
  have hb4W : b4 < W7.heap.size := h7l
  have hws : w.heap.size ≤ s := hs
  have hwb4 : w.heap.size ≤ b4 := by omega
  have hwW7 : w.heap.size ≤ W7.heap.size := by omega
  have hsW7 : s < W7.heap.size := by omega
  clear hinit hW7 hb4 A7 X7 hsl hgl h12 h23 h37 h7l hg hs HS HRR HB2 HB3
  go_wp2_with fail
  go_loopw [5] (fun v5 wr => ∃ k : Nat, k ≤ N ∧ k ≤ 30 ∧ v5 = .int .i64 k ∧ Hid (RunJ w W7 b4 s k wr)) (fun v5 _ => N - (intOf v5).toNat)
  case atStart => exact ⟨0, by omega, by omega, rfl, HIN⟩
  case round =>
    clear HIN
    obtain ⟨k, hk, hk2, rfl, hrun⟩ := hrel
    obtain ⟨v, bs, Ts, g0, n0, c0, Ls, hlk, hbl, x7, hg7, hown, hA, hsz⟩ := hrun.out.ex
    have HLK := Lib.hid hlk
    have HX7 := Lib.hid x7
    have HOW := Lib.hid hown
    have HA := Lib.hid hA
    have l7 := x7.cell 0
    have f7 := x7.free 0
    simp only [List.getElem?_toArray, List.getElem?_cons_zero] at l7
    clear hlk x7 hown hA hrun
    by_cases h1 : k < N
    · by_cases h2 : k < 30
      · obtain ⟨g, off, rfl, hc⟩ := HL.out k h1
        have d0 := keep_cell HA.out (hc 0 (by omega))
        have d1 := keep_cell HA.out (hc 1 (by omega))
        have d2 := keep_cell HA.out (hc 2 (by omega))
        have d3 := keep_cell HA.out (hc 3 (by omega))
        have d4 := keep_cell HA.out (hc 4 (by omega))
        have d5 := keep_cell HA.out (hc 5 (by omega))
        have hgw : g < w.heap.size := cell_lt (hc 0 (by omega))
        have hng : ¬ (g = s ∨ v.ownBlock = some g) := fun h => h.elim (fun h => by omega) (fun h => by have := HOW.out g h; omega)
        have hn7 : ¬ (b4 = s ∨ v.ownBlock = some b4) := fun h => h.elim (fun h => by omega) (fun h => by have := HOW.out b4 h; omega)
        simp only [Nat.add_zero] at d0
        clear hc
        go_upto_region 7 with fail
        go_cut [6, 7] (fun s6 s7 wc => ∃ (b6 : Nat) (v' : Value) (bs' : List Nat) (Ts' : List Tree) (g1 n1 c1 : Nat) (Ls' : List (List Piece)), s6 = .pointer (some ⟨b6, 0, none⟩) ∧ s7 = .bool true ∧ Hid (MidJ w W7 b4 b6 s (k + 1) (.slice (some ⟨g0, 0, none⟩) n0 c0) v' bs' Ts' g1 n1 c1 Ls' wc))
        case first =>
          have hg0w : g0 < wr.heap.size := ref_lt HLK.out.ref
          have hswr : s < wr.heap.size := HLK.out.stock.box.lt
          have hb4r : b4 < wr.heap.size := HX7.out.lt
          have hnb : ¬ (wr.heap.size = s ∨ v.ownBlock = some wr.heap.size) := fun h => h.elim (fun h => by omega) (fun h => by have := (HLK.out.stock.row.lt _ h).2; omega)
          have hwwr := HA.out.size
          have hgr : wr.heap.size ≠ g := by omega
          have hbr4 : wr.heap.size ≠ b4 := by omega
          have HNB := Lib.hid hnb
          have HNG := Lib.hid hng
          have HN7 := Lib.hid hn7
          clear hnb hng hn7
          go_region_held3 (fun w' => w'.cell? ⟨g, off + k * 6, none⟩ = some (.int .i64 (f k 0)) ∧ w'.cell? ⟨g, off + k * 6 + 1, none⟩ = some (.int .i64 (f k 1)) ∧ w'.cell? ⟨g, off + k * 6 + 2, none⟩ = some (.int .i64 (f k 2)) ∧ w'.cell? ⟨g, off + k * 6 + 3, none⟩ = some (.int .i64 (f k 3)) ∧ w'.cell? ⟨g, off + k * 6 + 4, none⟩ = some (.int .i64 (f k 4)) ∧ w'.cell? ⟨g, off + k * 6 + 5, none⟩ = some (.int .i64 (f k 5)) ∧ w'.cell? ⟨b4, 0, none⟩ = some (.slice (some ⟨g0, 0, none⟩) n0 c0))
            (first | (go_keep; done) | (refine ⟨(World.cell?_setCell_far (w := w8) ⟨wr.heap.size, 0, none⟩ _ _ (by exact hgr)).trans d0, (World.cell?_setCell_far (w := w8) ⟨wr.heap.size, 0, none⟩ _ _ (by exact hgr)).trans d1, (World.cell?_setCell_far (w := w8) ⟨wr.heap.size, 0, none⟩ _ _ (by exact hgr)).trans d2, (World.cell?_setCell_far (w := w8) ⟨wr.heap.size, 0, none⟩ _ _ (by exact hgr)).trans d3, (World.cell?_setCell_far (w := w8) ⟨wr.heap.size, 0, none⟩ _ _ (by exact hgr)).trans d4, (World.cell?_setCell_far (w := w8) ⟨wr.heap.size, 0, none⟩ _ _ (by exact hgr)).trans d5, (World.cell?_setCell_far (w := w8) ⟨wr.heap.size, 0, none⟩ _ _ (by exact hbr4)).trans l7⟩; done) | (refine ⟨keep_cell ?_ d0, keep_cell ?_ d1, keep_cell ?_ d2, keep_cell ?_ d3, keep_cell ?_ d4, keep_cell ?_ d5, keep_cell ?_ l7⟩ <;> (repeat (first | exact Adds.refl _ | apply Adds.drew | apply Adds.drewN | apply Adds.alloc | refine Adds.set ?_ (by first | (simp; done) | (simp; omega)) _))) | ((repeat' apply And.intro) <;> go_keep))
            ((first
              | (go_simp; go_at_call 15; refine (do_link s v bs Ts g0 n0 c0 Ls (f k 0) (f k 1) (f k 2) (f k 3) (f k 4) (f k 5) _ (HLK.out.later (show Adds wr _ by (repeat (first | exact Adds.refl _ | apply Adds.drew | apply Adds.drewN | apply Adds.alloc | refine Adds.set ?_ (by first | (simp; done) | (simp; omega)) _)))) (by omega)).mono ?_; rintro e w8 ⟨v', bs', Ts', g1, n1, c1, Ls', rfl, hlk', hb1, hb2, ht', hown', hg1⟩
                 have ht : Touch (fun k => k = s ∨ v.ownBlock = some k) wr w8 := ht'.before (show Adds wr _ by (repeat (first | exact Adds.refl _ | apply Adds.drew | apply Adds.drewN | apply Adds.alloc | refine Adds.set ?_ (by first | (simp; done) | (simp; omega)) _)))
                 replace d0 := touch_cell ht HNG.out d0
                 replace d1 := touch_cell ht HNG.out d1
                 replace d2 := touch_cell ht HNG.out d2
                 replace d3 := touch_cell ht HNG.out d3
                 replace d4 := touch_cell ht HNG.out d4
                 replace d5 := touch_cell ht HNG.out d5
                 replace l7 := touch_cell ht HN7.out l7
                 have HLN := Lib.hid hlk'
                 have HTT := Lib.hid ht
                 have HT' := Lib.hid ht'
                 have HO' := Lib.hid hown'
                 have HG1 := Lib.hid hg1
                 clear hlk' ht ht' hown' hg1
                 try (have Y : Box w8 wr.heap.size #[.slice none 0 0] 27 := Box.same (show Box (wr.drew.alloc (.cells #[.slice none 0 0] 27)) wr.heap.size #[.slice none 0 0] 27 from Box.new wr.drew _ _) (HT'.out.same _ (by simp) HNB.out)
                      have yc := Y.cell 0
                      have yf := Y.free 0
                      simp only [List.getElem?_toArray, List.getElem?_cons_zero] at yc
                      have HY := Lib.hid Y
                      clear Y))))
          · go_wp2_with fail
            go_meet
            have hK := midK_of HA.out hsz HX7.out HOW.out hwW7 hws hb4W hbl HN7.out hg7 HTT.out HLN.out hb2 HO'.out HG1.out (Nat.le_refl _)
            exact ⟨_, v', bs', Ts', g1, n1, c1, Ls', rfl, rfl, Lib.hid hK.alloc⟩
          · go_wp2_with fail
            go_meet
            have hK := midK_of HA.out hsz HX7.out HOW.out hwW7 hws hb4W hbl HN7.out hg7 HTT.out HLN.out hb2 HO'.out HG1.out (by simp)
            exact ⟨_, v', bs', Ts', g1, n1, c1, Ls', rfl, rfl, Lib.hid (hK.put HY.out (by omega) (by rcases HG1.out with h | h; { rw [h]; omega }; { simp at h; omega }) (by omega) (by omega))⟩
        case rest =>
          obtain ⟨b6, v', bs', Ts', g1, n1, c1, Ls', rfl, rfl, hmid⟩ := hcut
          rename World => wc
          have m6 := hmid.out.box6.cell 0
          have m4 := hmid.out.box4.cell 0
          have f4 := hmid.out.box4.free 0
          simp only [List.getElem?_toArray, List.getElem?_cons_zero] at m6 m4
          clear d0 d1 d2 d3 d4 d5 hgw hng hn7 l7 f7 HX7 HLK HOW HA hbl hg7 hsz
          go_upto_region 9 with fail
          obtain ⟨W9, hW9⟩ : ∃ V, V = wc.setCell ⟨b4, 0, none⟩ (.slice (some ⟨g1, 0, none⟩) n1 c1) := ⟨_, rfl⟩
          have HLK := Lib.hid (show Link W9 s v' bs' Ts' g1 n1 c1 Ls' by rw [hW9]; exact hmid.out.link.touch m4 hb4s hmid.out.off)
          have hX9 : Box W9 b4 #[.slice (some ⟨g1, 0, none⟩) n1 c1] 27 := by rw [hW9]; exact hmid.out.box4.set 0 _
          have hA9 : Adds w W9 := by rw [hW9]; exact hmid.out.adds.set hwb4 _
          have hz9 : W7.heap.size ≤ W9.heap.size := by rw [hW9]; have := hmid.out.size; simpa [World.setCell] using this
          have hfew := hmid.out.few
          have hoff := hmid.out.off
          have HOW := Lib.hid hmid.out.own
          rw [← hW9]
          have l9 := hX9.cell 0
          simp only [List.getElem?_toArray, List.getElem?_cons_zero] at l9
          have HX9 := Lib.hid hX9
          have HA9 := Lib.hid hA9
          have hn1 := (ref_len' HLK.out.ref)
          obtain ⟨nb, hnb⟩ : ∃ n, n = bs'.length := ⟨_, rfl⟩
          have hn1b : n1 = nb + 1 := by have := HLK.out.len; omega
          have HNB := Lib.hid hnb
          subst hn1b
          have hnb30 : nb ≤ 31 := by omega
          clear hnb hn1 hmid m6 m4 f4 hW9 hX9 hA9
          have e1 : ((nb + 1 : Nat) : Int) - 1 = (nb : Int) := by omega
          have e2 : IntKind.i64.wrap (((nb + 1 : Nat) : Int) - 1) = (nb : Int) := by rw [i64_w', e1]; exact w64_in' _ ⟨by omega, by omega⟩
          have e3 : ((nb : Int) != (nb : Int)) = false := by simp
          have e4 : IntKind.i64.wrap (nb : Int) = (nb : Int) := by rw [i64_w']; exact w64_in' _ ⟨by omega, by omega⟩
          go_region_held3 (fun w' => w'.cell? ⟨b4, 0, none⟩ = some (.slice (some ⟨g1, 0, none⟩) (nb + 1) c1))
            (first | (go_keep; done) | (refine (keep_cell ?_ l9) <;> (repeat (first | exact Adds.refl _ | exact hb10.out | exact HB11.out | apply Adds.drew | apply Adds.drewN | apply Adds.alloc | refine Adds.trans hb10.out ?_))) | ((repeat' apply And.intro) <;> go_keep))
            ((first
              | (go_simp; go_at_call 17; refine (HLK.out.shows (show Adds W9 _ by (repeat (first | exact Adds.refl _ | exact hb10.out | exact HB11.out | apply Adds.drew | apply Adds.drewN | apply Adds.alloc | refine Adds.trans hb10.out ?_))) HLL.out (hru.out.later (show Adds w10 _ by (repeat (first | exact Adds.refl _ | apply Adds.drew | apply Adds.drewN | apply Adds.alloc | refine Adds.set ?_ (by first | (simp; done) | (simp; omega)) _))))).mono ?_; rintro e w11 ⟨rfl, hb11⟩; have HB11 := Lib.hid (hb10.out.trans ((show Adds w10 _ by (repeat (first | exact Adds.refl _ | apply Adds.drew | apply Adds.drewN | apply Adds.alloc | refine Adds.set ?_ (by first | (simp; done) | (simp; omega)) _))).trans hb11)); replace l9 := keep_cell ((show Adds w10 _ by (repeat (first | exact Adds.refl _ | apply Adds.drew | apply Adds.drewN | apply Adds.alloc | refine Adds.set ?_ (by first | (simp; done) | (simp; omega)) _))).trans hb11) l9)
              | (go_simp; go_at_call 18; refine (RLast_any _ Ls' _ (HLK.out.ref.later (show Adds W9 _ by (repeat (first | exact Adds.refl _ | apply Adds.drew | apply Adds.drewN | apply Adds.alloc | refine Adds.set ?_ (by first | (simp; done) | (simp; omega)) _))))).mono ?_; rintro e w10 ⟨u, rfl, hru0, hb10'⟩; have hru := Lib.hid hru0; have hb10 : Hid (Adds W9 w10) := Lib.hid ((show Adds W9 _ by (repeat (first | exact Adds.refl _ | apply Adds.drew | apply Adds.drewN | apply Adds.alloc | refine Adds.set ?_ (by first | (simp; done) | (simp; omega)) _))).trans hb10'); have HLL : Hid (Ls'[nb]? = some (Ls'.getLastD [])) := Lib.hid (by rw [HNB.out]; exact HLK.out.atLast); replace l9 := keep_cell hb10.out l9; clear hru0 hb10')
              | (go_simp; go_at_call 16; refine (version_is s v' bs' Ts' nb _ (HLK.out.stock.later (show Adds W9 _ by (repeat (first | exact Adds.refl _ | apply Adds.drew | apply Adds.drewN | apply Adds.alloc | refine Adds.set ?_ (by first | (simp; done) | (simp; omega)) _)))) (by have := HNB.out; omega)).mono ?_; rintro e w' ⟨rfl, rfl⟩)))
          all_goals
            go_wp2_with fail
            exact ⟨⟨k + 1, by omega, by omega, by go_num, Lib.hid ⟨v', bs', Ts', g1, nb + 1, c1, Ls', HLK.out.later HB11.out, by omega, HX9.out.later HB11.out, hoff, HOW.out, HA9.out.trans HB11.out, Nat.le_trans hz9 HB11.out.size⟩⟩, by simp [intOf]; omega⟩
      · go_wp2_with (go_at_call 19; refine (awake_any _).mono ?_; rintro e w9 ⟨rfl, hb9⟩)
        go_ret
        exact ⟨rfl, HA.out.trans hb9⟩
    · go_wp2_with (go_at_call 19; refine (awake_any _).mono ?_; rintro e w9 ⟨rfl, hb9⟩)
      go_ret
      exact ⟨rfl, HA.out.trans hb9⟩
end Go.Proofs.Ytofaioabjkcaiaa
