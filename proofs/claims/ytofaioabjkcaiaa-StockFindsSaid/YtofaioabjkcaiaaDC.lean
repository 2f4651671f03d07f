/- StockFinds: Find of a register where an argument is out of its range; the law's walk. -/
import Derived.Test.YtofaioabjkcaiaaDB
import Derived.Test.YtofaioabjkcaiaaCE
import Derived.Test.YtofaioabjkcaiaaCD
import Derived.Test.YtofaioabjkcaiaaAF
import Derived.BigRegion
namespace Go.Proofs.Ytofaioabjkcaiaa
open Go.RowKit

set_option maxRecDepth 100000 in
set_option maxHeartbeats 2000000 in
theorem Find_arg (s : Nat) (v : Value) (bs : List Nat) (Ts : List Tree) (ow lt n : Int) (r : List (Int × Int) × Int) (w : World) (hS0 : StockAt w.heap.size w s v bs Ts) (hb : ((inB 1000 ow && inB 1000000 lt) && inB 1000000 n) = false) :
    Calls Try.prog 25 #[.pointer (some ⟨s, 0, none⟩), .int .i64 ow, .int .i64 lt, .int .i64 n] w (FindGot false r w) := by
  have HS := Lib.hid hS0
  clear hS0
  have key : ∀ (b1 b2 b3 : Bool), inB 1000 ow = b1 → inB 1000000 lt = b2 → inB 1000000 n = b3 → ((b1 && b2) && b3) = false → Calls Try.prog 25 #[.pointer (some ⟨s, 0, none⟩), .int .i64 ow, .int .i64 lt, .int .i64 n] w (FindGot false r w) := by
    intro b1 b2 b3 h1 h2 h3 hb
    refine calls_marks Try.func25 rfl ?_
    simp only [Try.ntmps25, List.size_toArray, List.length_cons, List.length_nil, Nat.reduceAdd, Nat.reduceSub, Array.replicate_succ, Array.replicate_zero, List.push_toArray, List.append_toArray, List.nil_append, List.cons_append]
    go_upto_region 1 with fail
    obtain ⟨W3, hW3⟩ : ∃ V, V = ((w.alloc (.cells #[.int .i64 n] 3)).alloc (.cells #[.slice none 0 0] 55)).alloc (.cells #[.int .i64 0] 45) := ⟨_, rfl⟩
    have A3 : Adds w W3 := by rw [hW3]; exact (((Adds.refl w).alloc _).alloc _).alloc _
    have XN : Box W3 w.heap.size #[.int .i64 n] 3 := by rw [hW3]; exact Box.later (Box.new w _ _) (((Adds.refl _).alloc _).alloc _)
    have XL : Box W3 (w.heap.size + 1) #[.slice none 0 0] 55 := by rw [hW3]; exact Box.later (new_at (w := w.alloc (.cells #[.int .i64 n] 3)) (by simp)) ((Adds.refl _).alloc _)
    have XE : Box W3 (w.heap.size + 1 + 1) #[.int .i64 0] 45 := by rw [hW3]; exact new_at (by simp)
    rw [← hW3]
    have A4 : Adds W3 (W3.alloc (.cells #[.int .i64 ow] 3)) := (Adds.refl W3).alloc _
    have n0 := (XN.later A4).cell 0
    have l0 := (XL.later A4).cell 0
    have lf := (XL.later A4).free 0
    have e0 := (XE.later A4).cell 0
    have ef := (XE.later A4).free 0
    simp only [List.getElem?_toArray, List.getElem?_cons_zero] at n0 l0 e0
    have HA3 := Lib.hid A3
    have HXL := Lib.hid (XL.later A4)
    have HXE := Lib.hid (XE.later A4)
    have HAA := Lib.hid (A3.trans A4)
    clear hW3 A3 XN XL XE
    cases b1 <;> cases b2 <;> cases b3 <;> first
      | (exfalso; revert hb; decide)
      | (go_wp2_with (first
          | (go_at_call 16; refine (version_any _ s v bs Ts _ (HS.out.later HA3.out)).mono ?_; rintro e w' ⟨rfl, rfl⟩)
          | (go_at_call 64; refine (members_one _ ow _ (by go_simp)).mono ?_; rintro e w' ⟨rfl, rfl⟩; simp only [h1])
          | (go_at_call 65; refine (isLot_any lt _).mono ?_; rintro e w' ⟨rfl, rfl⟩; simp only [h2])
          | (go_at_call 59; refine (isPocket_any n _).mono ?_; rintro e w' ⟨rfl, rfl⟩; simp only [h3])
          | (go_at_call 58; refine (tree_arg _ s v bs Ts bs.length _ (HS.out.later HAA.out) (by omega) (by omega)).mono ?_; rintro e w' ⟨rfl, rfl⟩))
         refine marks_ret (v := .tuple #[.slice none 0 0, .int .i64 1]) rfl ?_ ⟨Or.inl ⟨rfl, rfl⟩, ?_⟩
         · have b1 := (HXL.out.set 0 (.slice none 0 0)).far (b := w.heap.size + 1) (p := ⟨w.heap.size + 1 + 1, 0, none⟩) (by simp) (.int .i64 1)
           have c1 := b1.cell 0
           have b2 := (HXE.out.far (b := w.heap.size + 1 + 1) (p := ⟨w.heap.size + 1, 0, none⟩) (by simp) (.slice none 0 0)).set 0 (.int .i64 1)
           have c2 := b2.cell 0
           simp at c1 c2
           simp [results, Try.results25, go_sem, c1, c2]
         · exact (HAA.out.set (p := ⟨w.heap.size + 1, 0, none⟩) (Nat.le_succ _) _).set (p := ⟨w.heap.size + 1 + 1, 0, none⟩) (Nat.le_trans (Nat.le_succ _) (Nat.le_succ _)) _)
  exact key _ _ _ rfl rfl rfl hb

theorem Find_any (s : Nat) (v : Value) (bs : List Nat) (Ts : List Tree) (ow lt n : Int) (b : Bool) (w : World) (hS : StockAt w.heap.size w s v bs Ts) (hb : b = ((inB 1000 ow && inB 1000000 lt) && inB 1000000 n)) :
    Calls Try.prog 25 #[.pointer (some ⟨s, 0, none⟩), .int .i64 ow, .int .i64 lt, .int .i64 n] w (FindGot b (findF ⟨1, lt, ow, 0⟩ n (runsT 1 1000000 (treeOf Ts bs.length))) w) := by
  cases b with
  | false => exact Find_arg s v bs Ts ow lt n _ w hS hb.symm
  | true =>
    have h := hb.symm
    simp only [Bool.and_eq_true] at h
    exact Find_ok s v bs Ts ow lt n w hS h.1.1 h.1.2 h.2

def codeF (b : Bool) (r : List (Int × Int) × Int) : Int := if b = true then (if 0 < r.2 then 4 else 0) else 1
def listF (b : Bool) (r : List (Int × Int) × Int) : List (Int × Int) := if b = true then (if 0 < r.2 then [] else r.1) else []

theorem FindGot.same {b : Bool} {r : List (Int × Int) × Int} {w : World} {e : Ending} {w' : World} (h : FindGot b r w e w') : ∃ hv, e = .returned (.tuple #[hv, .int .i64 (codeF b r)]) ∧ SpanAt w' hv (listF b r) ∧ Adds w w' := by
  obtain ⟨h, hA⟩ := h
  have hnil : SpanAt w' (.slice none 0 0) [] := own_spanAt (base := 0) (World.ownsRow_nil _ _ _ _)
  rcases h with ⟨rfl, rfl⟩ | ⟨rfl, h0, rfl⟩ | ⟨rfl, h0, base, hv, rfl, hr⟩
  · exact ⟨_, rfl, hnil, hA⟩
  · exact ⟨.slice none 0 0, by simp [codeF, h0], by simp only [listF, if_true, if_pos h0]; exact hnil, hA⟩
  · exact ⟨hv, by simp only [codeF, if_true, if_neg (show ¬ 0 < r.2 by omega)], by simp only [listF, if_true, if_neg (show ¬ 0 < r.2 by omega)]; exact own_spanAt hr, hA⟩

theorem triple_cell {w : World} {b : Nat} {x y z : Int} {t : TypeId} (h : Box w b #[.int .i64 x, .int .i64 y, .int .i64 z] t) : w.cell? ⟨b, 0, none⟩ = some (.int .i64 x) ∧ ∀ j, 3 ≤ j → w.cell? ⟨b, j, none⟩ = none := by
  refine ⟨h.cell 0, fun j hj => ?_⟩
  rw [h.cell j]
  simp; omega

/-- Nothing of both lies in three numbers. -/
theorem Link.keep3 {w w' : World} {s : Nat} {v : Value} {bs : List Nat} {Ts : List Tree} {g0 n0 c0 : Nat} {Ls : List (List Piece)} {b : Nat} {x y z : Int} {t : TypeId} (h : Link w s v bs Ts g0 n0 c0 Ls) (hb : Box w b #[.int .i64 x, .int .i64 y, .int .i64 z] t)
    (hsz : w'.heap.size = w.heap.size) (hsame : ∀ k, k ≠ b → w'.heap[k]? = w.heap[k]?) : Link w' s v bs Ts g0 n0 c0 Ls := by
  obtain ⟨p0, p2⟩ := triple_cell hb
  have hS := h.stock
  have sc := hS.box.cell 0
  simp only [List.getElem?_toArray, List.getElem?_cons_zero] at sc
  have hsl : ∃ q m d, v = .slice q m d := by
    rcases hS.slice with ⟨rfl, _⟩ | ⟨g0, cap0, rfl, _⟩
    · exact ⟨_, _, _, rfl⟩
    · exact ⟨_, _, _, rfl⟩
  obtain ⟨q0, m0, d0, hv0⟩ := hsl
  have hs : s ≠ b := fun e => by rw [← e, sc, hv0] at p0; simp at p0
  have hown : ∀ k, v.ownBlock = some k → k ≠ b := fun k hk e => by
    subst e
    rcases hS.slice with ⟨rfl, _⟩ | ⟨g1, cap1, rfl, hc, _⟩
    · simp [Value.ownBlock] at hk
    · simp only [Value.ownBlock, Option.some.injEq] at hk
      subst hk
      by_cases hb' : bs = []
      · have := hS.nil hb'; simp at this
      · have := hc 0 _ (List.getElem?_eq_getElem (List.length_pos_iff.2 hb'))
        rw [p0] at this; simp at this
  have hcell : ∀ g o u, g ≠ b → w.cell? ⟨g, o, none⟩ = some u → w'.cell? ⟨g, o, none⟩ = some u := fun g o u hg hc =>
    (World.cell?_of_block (w := w) (a := ⟨g, o, none⟩) (hsame g hg)).trans hc
  refine ⟨⟨hS.box.same (hsame s hs), ownsRow_same hS.row (fun k hk => hsame k (hown k hk)), hS.len, fun i b' T h1 h2 => ?_, hS.sep, hS.nil⟩, ?_, h.off, h.len, h.can, h.good⟩
  · obtain ⟨ht, hok⟩ := hS.tree i b' T h1 h2
    refine ⟨?_, hok⟩
    have hp : TreeIn (fun k => (k ≠ s ∧ v.ownBlock ≠ some k ∧ k < w.heap.size) ∧ k ≠ b) w b' T := ht.tree.pred (fun k lo hi p l r hn => ⟨⟨(hS.apart hn).1, (hS.apart hn).2, cell_lt hn.1⟩, fun e => by
      subst e
      have h7 := hn.2.2.2.2.2.2.1
      rw [p2 6 (by omega)] at h7
      simp at h7⟩)
    exact (hp.keep (w' := w') (fun k _ hk => hsame k hk.2)).mono (fun k hk => ⟨hk.1.1, hk.1.2.1, by rw [hsz]; exact hk.1.2.2⟩)
  · obtain ⟨p, cap, vs, hx, h1, h2, h3, h4, h5⟩ := h.ref
    refine ⟨p, cap, vs, hx, h1, h2, h3, fun i u hu => ?_, fun i u l hu hl => ?_⟩
    · obtain ⟨g, hp, hc⟩ := h4 i u hu
      refine ⟨g, hp, hcell g _ _ ?_ hc⟩
      rintro rfl
      have e := List.getElem?_eq_getElem h2
      obtain ⟨g2, hp2, hc2⟩ := h4 0 _ e
      have hgg : g2 = g := by rw [hp] at hp2; simp at hp2; exact hp2.symm
      obtain ⟨q, d, hv, _⟩ := h5 0 _ _ e (List.getElem?_eq_getElem (by omega))
      rw [hgg, p0, hv] at hc2
      simp at hc2
    · obtain ⟨p', cap', hv, hc⟩ := h5 i u l hu hl
      refine ⟨p', cap', hv, fun j x' hx' => ?_⟩
      obtain ⟨g1, hp, e0, e1, e2, e3, e4, e5⟩ := hc j x' hx'
      have hn : g1 ≠ b := by
        rintro rfl
        rw [p2 (j * 6 + 5) (by omega)] at e5
        simp at e5
      exact ⟨g1, hp, hcell _ _ _ hn e0, hcell _ _ _ hn e1, hcell _ _ _ hn e2, hcell _ _ _ hn e3, hcell _ _ _ hn e4, hcell _ _ _ hn e5⟩


theorem ref_len3 {w : World} {g n c : Nat} {Ls : List (List Piece)} (h : RefAt w (.agg #[.slice (some ⟨g, 0, none⟩) n c]) Ls) : n = Ls.length ∧ 0 < n ∧ n ≤ 1000000 := by
  obtain ⟨p, cap, vs, hx, h1, h2, h3, _, _⟩ := h
  simp only [Value.agg.injEq, Array.mk.injEq, List.cons.injEq, Value.slice.injEq, and_true] at hx
  omega

theorem triple_turn {w w8 : World} {s : Nat} {v : Value} {bs : List Nat} {Ts : List Tree} {g0 n0 c0 : Nat} {Ls : List (List Piece)} {b3 b6 : Nat} {y0 y1 y2 : Int} {X : Value} (hlk : Link w8 s v bs Ts g0 n0 c0 Ls) (h3 : Box w8 b3 #[.int .i64 y0, .int .i64 y1, .int .i64 y2] 54) (h6 : Box w8 b6 #[X] 27)
    (hA : Adds w w8) (hw3 : w.heap.size ≤ b3) (h36 : b3 ≠ b6) (u0 u1 u2 : Int) :
    Box (((w8.setCell ⟨b3, 0, none⟩ (.int .i64 u0)).setCell ⟨b3, 1, none⟩ (.int .i64 u1)).setCell ⟨b3, 2, none⟩ (.int .i64 u2)).drew b3 #[.int .i64 u0, .int .i64 u1, .int .i64 u2] 54 ∧ Box (((w8.setCell ⟨b3, 0, none⟩ (.int .i64 u0)).setCell ⟨b3, 1, none⟩ (.int .i64 u1)).setCell ⟨b3, 2, none⟩ (.int .i64 u2)).drew b6 #[X] 27 ∧
      Link (((w8.setCell ⟨b3, 0, none⟩ (.int .i64 u0)).setCell ⟨b3, 1, none⟩ (.int .i64 u1)).setCell ⟨b3, 2, none⟩ (.int .i64 u2)).drew s v bs Ts g0 n0 c0 Ls ∧ Adds w (((w8.setCell ⟨b3, 0, none⟩ (.int .i64 u0)).setCell ⟨b3, 1, none⟩ (.int .i64 u1)).setCell ⟨b3, 2, none⟩ (.int .i64 u2)).drew := by
  refine ⟨(((h3.set 0 _).set 1 _).set 2 _).later (Adds.refl _).drew, (((h6.far (by exact Ne.symm h36) _).far (by exact Ne.symm h36) _).far (by exact Ne.symm h36) _).later (Adds.refl _).drew, ?_, (((hA.set (p := ⟨b3, 0, none⟩) hw3 _).set (p := ⟨b3, 1, none⟩) hw3 _).set (p := ⟨b3, 2, none⟩) hw3 _).drew⟩
  refine Link.later (w := ((w8.setCell ⟨b3, 0, none⟩ (.int .i64 u0)).setCell ⟨b3, 1, none⟩ (.int .i64 u1)).setCell ⟨b3, 2, none⟩ (.int .i64 u2)) (hlk.keep3 h3 (by simp [World.setCell]) (fun k hk => ?_)) (Adds.refl _).drew
  rw [Below.heap_setCell _ _ _ _ (fun e => hk (by exact e)), Below.heap_setCell _ _ _ _ (fun e => hk (by exact e)), Below.heap_setCell _ _ _ _ (fun e => hk (by exact e))]

/-- Register and reference find the same. -/
theorem Link.find {w : World} {s : Nat} {v : Value} {bs : List Nat} {Ts : List Tree} {g0 n0 c0 : Nat} {Ls : List (List Piece)} (h : Link w s v bs Ts g0 n0 c0 Ls) (q : Pk) (hq : q.st ≠ 0) (n : Int) : findF q n (Ls.getLastD []) = findF q n (runsT 1 1000000 (treeOf Ts bs.length)) := by
  have hok := treeOf_ok h.stock (Nat.le_refl bs.length)
  rw [runs_can (runs_cover (a := 1) (c := 1000000) hok (by omega) (by omega) (by omega)) runs_parted h.last]
  exact findF_filter hq

set_option maxRecDepth 100000 in
set_option maxHeartbeats 8000000 in
theorem finds_any (p : Option Addr) (N cap : Nat) (f : Nat → Nat → Int) (x0 x1 x2 : Int) (w : World) (hN : N ≤ maxLen) (hL : ActsAt w p N f) : Calls Try.prog 5 #[.slice p N cap, .agg #[.int .i64 x0, .int .i64 x1, .int .i64 x2]] w fun e w' => e = .returned (.bool true) ∧ Adds w w' := by
  have HL := Lib.hid hL
  clear hL
  go_enter Try.func5, Try.ntmps5
  go_upto_region 1 with fail
  obtain ⟨b3, hb3⟩ : ∃ k, k = w.heap.size := ⟨_, rfl⟩
  obtain ⟨W1, hW1⟩ : ∃ V, V = w.alloc (.cells #[.int .i64 x0, .int .i64 x1, .int .i64 x2] 54) := ⟨_, rfl⟩
  have A1 : Adds w W1 := by rw [hW1]; exact (Adds.refl w).alloc _
  have X3 : Box W1 b3 #[.int .i64 x0, .int .i64 x1, .int .i64 x2] 54 := by rw [hW1, hb3]; exact Box.new _ _ _
  have hw3 : w.heap.size ≤ b3 := by omega
  rw [← hW1, ← hb3]
  have HA1 := Lib.hid A1
  have HX3 := Lib.hid X3
  have hrun : Hid (Calls Try.prog 20 #[.slice p N cap, .int .i64 25] W1 (RunGot W1 25)) := Lib.hid (run_any p N cap 25 f W1 hN (fun i hi => by obtain ⟨g, off, hp, hc⟩ := HL.out i hi; exact ⟨g, off, hp, fun j hj => keep_cell A1 (hc j hj)⟩) (by omega))
  clear hW1 hb3 A1 X3
  go_upto_region 2 with (go_at_call 20; refine hrun.out.mono ?_; rintro e w2 ⟨s, v, bs, Ts, g0, n0, c0, Ls, rfl, hlk, hbl, hs, hown, hb2⟩; have HLK := Lib.hid hlk; have HB2 := Lib.hid hb2; clear hlk hb2 hs hown)
  obtain ⟨b6, hb6⟩ : ∃ k, k = w2.heap.size := ⟨_, rfl⟩
  obtain ⟨W3, hW3⟩ : ∃ V, V = w2.alloc (.cells #[.slice (some ⟨g0, 0, none⟩) n0 c0] 27) := ⟨_, rfl⟩
  have A3 : Adds w2 W3 := by rw [hW3]; exact (Adds.refl _).alloc _
  have X6 : Box W3 b6 #[.slice (some ⟨g0, 0, none⟩) n0 c0] 27 := by rw [hW3, hb6]; exact Box.new _ _ _
  have h36 : b3 ≠ b6 := by have := HX3.out.lt; have := HB2.out.size; omega
  have X3 := (HX3.out.later HB2.out).later A3
  rw [← hW3, ← hb6]
  have HX6 := Lib.hid X6
  have HX3b := Lib.hid X3
  have HLKb := Lib.hid (HLK.out.later A3)
  have HAW := Lib.hid ((HA1.out.trans HB2.out).trans A3)
  clear hW3 hb6 A3 X6 X3 HX3 HLK HB2 HA1 hrun
  go_wp2_with fail
  go_loopw [7] (fun v7 wr => ∃ (k : Nat) (y0 y1 y2 : Int), k ≤ 2 ∧ v7 = .int .i64 k ∧ Hid (Box wr b3 #[.int .i64 y0, .int .i64 y1, .int .i64 y2] 54) ∧ Hid (Box wr b6 #[.slice (some ⟨g0, 0, none⟩) n0 c0] 27) ∧ Hid (Link wr s v bs Ts g0 n0 c0 Ls) ∧ Hid (Adds w wr)) (fun v7 _ => 2 - (intOf v7).toNat)
  case atStart => exact ⟨0, x0, x1, x2, by omega, rfl, HX3b, HX6, HLKb, HAW⟩
  case round =>
    clear HX3b HX6 HLKb HAW
    obtain ⟨k, y0, y1, y2, hk, rfl, hx3, hx6, hlk, hadd⟩ := hrel
    by_cases hlt : k < 2
    · have z0 := hx3.out.cell 0
      have z1 := hx3.out.cell 1
      have z2 := hx3.out.cell 2
      have l6 := hx6.out.cell 0
      simp only [List.getElem?_toArray, List.getElem?_cons_zero, List.getElem?_cons_succ] at z0 z1 z2 l6
      obtain ⟨b, hb⟩ : ∃ b, b = ((inB 1000 y0 && inB 1000000 y1) && inB 1000000 y2) := ⟨_, rfl⟩
      obtain ⟨r, hr⟩ : ∃ r, r = findF ⟨1, y1, y0, 0⟩ y2 (runsT 1 1000000 (treeOf Ts bs.length)) := ⟨_, rfl⟩
      have hcl : (Ls.getLastD []).length ≤ 1000000 := hlk.out.last.len
      have hcb : ∀ y ∈ Ls.getLastD [], 1 ≤ y.1 ∧ y.1 ≤ y.2.1 ∧ y.2.1 ≤ 1000000 := fun y hy => by have := hlk.out.last.one y hy; exact ⟨this.1, this.2.1, by omega⟩
      have hF1 : Hid (∀ W, Adds wr W → Calls Try.prog 25 #[.pointer (some ⟨s, 0, none⟩), .int .i64 y0, .int .i64 y1, .int .i64 y2] W fun e w' => ∃ hv, e = .returned (.tuple #[hv, .int .i64 (codeF b r)]) ∧ SpanAt w' hv (listF b r) ∧ Adds W w') := Lib.hid (fun W hA => (Find_any s v bs Ts y0 y1 y2 b W (hlk.out.stock.later hA).tight hb).mono fun e w' h => by rw [← hr] at h; exact h.same)
      have hF2 : Hid (∀ W, Adds wr W → Calls Try.prog 26 #[.agg #[.slice (some ⟨g0, 0, none⟩) n0 c0], .int .i64 y0, .int .i64 y1, .int .i64 y2] W fun e w' => ∃ hv, e = .returned (.tuple #[hv, .int .i64 (codeF b r)]) ∧ SpanAt w' hv (listF b r) ∧ Adds W w') := Lib.hid (fun W hA => (RFind_any _ Ls y0 y1 y2 W (hlk.out.ref.later hA) hcl hcb).mono fun e w' h => by rw [hlk.out.find _ (show (1 : Int) ≠ 0 by decide) y2, ← hr, ← hb] at h; exact h.same)
      have hll : Hid ((listF b r).length ≤ 2000000) := Lib.hid (by
        have h := findF_len (q := (⟨1, y1, y0, 0⟩ : Pk)) (l := runsT 1 1000000 (treeOf Ts bs.length)) (s := ([], y2))
        have hc := (runs_cover (a := 1) (c := 1000000) (treeOf_ok hlk.out.stock (Nat.le_refl bs.length)) (by omega) (by omega) (by omega)).length
        have : (listF b r).length ≤ r.1.length := by { unfold listF; split; { split; { simp }; { exact Nat.le_refl _ } }; { simp } }
        have h2 : r.1.length ≤ _ := by { rw [hr]; exact h }
        simp at h2
        omega)
      obtain ⟨c, hc⟩ : ∃ c, c = codeF b r := ⟨_, rfl⟩
      obtain ⟨l, hl⟩ : ∃ l, l = listF b r := ⟨_, rfl⟩
      rw [← hc, ← hl] at hF1 hF2
      rw [← hl] at hll
      have n1 : (c != c) = false := by simp
      have HCB := Lib.hid hcb
      clear hb hr hc hl hcb
      go_upto_region 8 with (go_at_call 25; refine (hF1.out _ (Adds.refl wr)).mono ?_; rintro e w4 ⟨hv1, rfl, hs1, hb4⟩; have HS1 := Lib.hid hs1; have HB4 := Lib.hid hb4; replace z0 := keep_cell hb4 z0; replace z1 := keep_cell hb4 z1; replace z2 := keep_cell hb4 z2; replace l6 := keep_cell hb4 l6; clear hs1 hb4)
      go_upto_region 9 with (go_at_call 26; refine (hF2.out _ HB4.out).mono ?_; rintro e w5 ⟨hv2, rfl, hs2, hb5⟩; have HS2 := Lib.hid hs2; replace HS1 := Lib.hid (HS1.out.later hb5); have HB5 := Lib.hid (HB4.out.trans hb5); replace z0 := keep_cell hb5 z0; replace z1 := keep_cell hb5 z1; replace z2 := keep_cell hb5 z2; replace l6 := keep_cell hb5 l6; clear hs2 hb5)
      go_upto_region 12 with (first
        | (go_at_call 27; refine (spans_same hv1 hv2 l _ HS1.out HS2.out hll.out).mono ?_; rintro e w6 ⟨rfl, hb6⟩; have HB6 := Lib.hid (HB5.out.trans hb6); replace z0 := keep_cell hb6 z0; replace z1 := keep_cell hb6 z1; replace z2 := keep_cell hb6 z2; replace l6 := keep_cell hb6 l6; clear hb6)
        | (go_at_call 18; refine (RLast_any _ Ls _ (hlk.out.ref.later HB6.out)).mono ?_; rintro e w7 ⟨lv, rfl, hlv, hb7⟩; have HLV := Lib.hid hlv; have HB7 := Lib.hid (HB6.out.trans hb7); replace z0 := keep_cell hb7 z0; replace z1 := keep_cell hb7 z1; replace z2 := keep_cell hb7 z2; replace l6 := keep_cell hb7 l6; clear hlv hb7))
      obtain ⟨lp, lc, rfl, hlc⟩ := HLV.out
      obtain ⟨M, hM⟩ : ∃ M, M = (Ls.getLastD []).length := ⟨_, rfl⟩
      rw [← hM] at hcl HLV ⊢
      have HM := Lib.hid hM
      have HLC := Lib.hid hlc
      clear hM hlc HLV
      by_cases hM0 : M = 0
      · have hb0 : ((M : Int) == 0) = true := by simp [hM0]
        go_wp2_with (go_at_call 19; refine (awake_any _).mono ?_; rintro e w9 ⟨rfl, hb9⟩)
        go_ret
        exact ⟨rfl, (hadd.out.trans HB7.out).trans hb9⟩
      · have hb0 : ((M : Int) == 0) = false := beq_eq_false_iff_ne.2 (by omega)
        have hwM : IntKind.u64.wrap (M : Int) = M := by simp [IntKind.wrap, IntKind.signed, IntKind.bits]; omega
        have hM1 : ((M : Int) = 0) = False := eq_false (by omega)
        obtain ⟨i, hi, hiM⟩ : ∃ i : Nat, (IntKind.u64.wrap y0).tmod (M : Int) = (i : Int) ∧ i < M := by
          have h0 : 0 ≤ IntKind.u64.wrap y0 := by
            have : IntKind.u64.wrap y0 = y0 % 18446744073709551616 := by simp [IntKind.wrap, IntKind.signed, IntKind.bits]
            rw [this]; omega
          have k1 := Int.tmod_nonneg (M : Int) h0
          have k2 := Int.tmod_lt_of_pos (IntKind.u64.wrap y0) (show 0 < (M : Int) by omega)
          exact ⟨((IntKind.u64.wrap y0).tmod (M : Int)).toNat, by omega, by omega⟩
        have HI := Lib.hid hi
        clear hi
        have hi64 : wrap64 (i : Int) = i := w64_in' _ ⟨by omega, by omega⟩
        have hi64' : IntKind.i64.wrap (i : Int) = i := by rw [i64_w', hi64]
        obtain ⟨x, hx⟩ : ∃ x, (Ls.getLastD [])[i]? = some x := ⟨_, List.getElem?_eq_getElem (by rw [← HM.out]; exact hiM)⟩
        obtain ⟨g, rfl, c0, c1, c2, c3, c4, c5⟩ := HLC.out i x hx
        obtain ⟨hy1, hy2, hy3⟩ := HCB.out x (List.mem_of_getElem? hx)
        obtain ⟨xa, xc, xs, xl, xo, xh⟩ := x
        simp only at c0 c1 c2 c3 c4 c5 hy1 hy2 hy3
        clear hx
        have hi := HI.out
        go_upto_region 14 with fail
        clear hi hM1 hwM
        obtain ⟨pb, hpb⟩ : ∃ k, k = w7.heap.size := ⟨_, rfl⟩
        obtain ⟨W9, hW9⟩ : ∃ V, V = w7.alloc (.cells #[.int .i64 xa, .int .i64 xc, .int .i64 xs, .int .i64 xl, .int .i64 xo, .int .i64 xh] 63) := ⟨_, rfl⟩
        have A9 : Adds w7 W9 := by rw [hW9]; exact (Adds.refl _).alloc _
        have X9 : Box W9 pb #[.int .i64 xa, .int .i64 xc, .int .i64 xs, .int .i64 xl, .int .i64 xo, .int .i64 xh] 63 := by rw [hW9, hpb]; exact Box.new _ _ _
        rw [← hW9, ← hpb]
        have hb3l : b3 < w7.heap.size := by have := (hx3.out.later HB7.out).lt; exact this
        have hpb3 : pb ≠ b3 := by omega
        replace z0 := keep_cell A9 z0
        replace z1 := keep_cell A9 z1
        replace z2 := keep_cell A9 z2
        have p0 := X9.cell 0
        have p1 := X9.cell 1
        have p3 := X9.cell 3
        have p4 := X9.cell 4
        simp only [List.getElem?_toArray, List.getElem?_cons_zero, List.getElem?_cons_succ] at p0 p1 p3 p4
        have X39 := (hx3.out.later HB7.out).later A9
        have rf0 := X39.free 0
        have rf1 := X39.free 1
        have rf2 := X39.free 2
        have HB9 := Lib.hid (HB7.out.trans A9)
        obtain ⟨ct, hct⟩ : ∃ c, c = 2 * (xc - xa + 1) := ⟨_, rfl⟩
        have e1 : IntKind.i64.wrap (xc - xa) = xc - xa := by rw [i64_w']; exact w64_in' _ ⟨by omega, by omega⟩
        have e2 : IntKind.i64.wrap (xc - xa + 1) = xc - xa + 1 := by rw [i64_w']; exact w64_in' _ ⟨by omega, by omega⟩
        have e3 : IntKind.i64.wrap (2 * (xc - xa + 1)) = ct := by rw [i64_w', hct]; exact w64_in' _ ⟨by omega, by omega⟩
        have e5 : IntKind.u64.wrap ct = ct := by simp [IntKind.wrap, IntKind.signed, IntKind.bits]; omega
        have e6 : (ct = 0) = False := eq_false (by omega)
        have e7 : ¬ (ct = 0) := by omega
        clear c0 c1 c2 c3 c4 c5 hW9 hpb A9 X9 X39 hct
        go_region
        all_goals
          go_wp2_with fail
          obtain ⟨t1, t2, t3, t4⟩ := triple_turn (hlk.out.later HB9.out) (hx3.out.later HB9.out) (hx6.out.later HB9.out) (hadd.out.trans HB9.out) hw3 h36 _ _ _
          exact ⟨⟨k + 1, _, _, _, by omega, by go_num, Lib.hid t1, Lib.hid t2, Lib.hid t3, Lib.hid t4⟩, by simp [intOf]; omega⟩
    · go_wp2_with (go_at_call 19; refine (awake_any _).mono ?_; rintro e w9 ⟨rfl, hb9⟩)
      go_ret
      exact ⟨rfl, hadd.out.trans hb9⟩

end Go.Proofs.Ytofaioabjkcaiaa
