/- spots. -/
import Derived.Test.YtigpghmbeldakaaM
namespace Go.Proofs.Ytigpghmbeldakaa
open Go.RowKit

/-- What spots returns. -/
def SpotsGot (l : List Bd) (ref : Int) (w : World) (e : Ending) (w' : World) : Prop :=
  ∃ g cap S, Spots l ref S ∧ S.length ≤ 40000 ∧ e = .returned (.slice (some ⟨g, 0, none⟩) S.length cap) ∧ w.heap.size ≤ g ∧ Row3 w' g cap S ∧ Adds w w'

set_option maxRecDepth 100000 in
set_option maxHeartbeats 2000000 in
theorem spots_any (p : Option Addr) (cap : Nat) (l : List Bd) (ref : Int) (w : World) (hN : l.length ≤ 5000) (hL : At3 w p l) (hok : ∀ b ∈ l, okB b = true) :
    Calls Try.prog 45 #[.slice p l.length cap, .int .i64 ref] w (SpotsGot l ref w) := by
  have HL := Lib.hid hL
  have HO := Lib.hid hok
  have HN := Lib.hid hN
  clear hL hok hN
  go_enter Try.func45, Try.ntmps45
  go_upto_region 2 with fail
  have B0 : Box ((w.alloc (.cells #[.int .i64 ref] 2)).alloc (.cells #[.slice none 0 0] 82)) w.heap.size #[.int .i64 ref] 2 := (Box.new w _ _).alloc _
  have B1 : Box ((w.alloc (.cells #[.int .i64 ref] 2)).alloc (.cells #[.slice none 0 0] 82)) (w.heap.size + 1) #[.slice none 0 0] 82 := by
    have := Box.new (w.alloc (.cells #[.int .i64 ref] 2)) #[.slice none 0 0] 82
    simpa using this
  have HB0 := Lib.hid B0
  have HB1 := Lib.hid B1
  clear B0 B1
  have A0 : Adds w ((w.alloc (.cells #[.int .i64 ref] 2)).alloc (.cells #[.slice none 0 0] 82)) := ((Adds.refl w).alloc _).alloc _
  go_wp2_with (first
    | (go_at_call 64; refine (events_any p cap l _ HN.out (HL.out.later A0) HO.out).mono ?_; rintro e w1 ⟨g, cap', E, e1, e2, rfl, e3, e4, e5⟩; have HP := Lib.hid e1; have HS := Lib.hid e2; have HR := Lib.hid e4; have HA := Lib.hid e5; have HG := Lib.hid e3; clear e1 e2 e3 e4 e5)
    | (go_at_call 63; refine (walk_any w.heap.size (w.heap.size + 1) ref _ cap' E _ (by have := evs_len l; have := HN.out; have := HP.out.length_eq; omega) (by have := HP.out.length_eq; simp [evs] at this; omega) HR.out.at3 (by intro g1 o1 he; cases he; have := HG.out; simp at this; omega) (fun e he => evs_ok l HO.out e (HP.out.mem_iff.1 he)) (by have := (HB0.out.later HA.out).cell 0; simpa using this) (by omega) (HB1.out.later HA.out)).mono ?_; rintro e w2 ⟨hv, rfl, x1, x2, x3⟩; have HX1 := Lib.hid x1; have HX2 := Lib.hid x2; have HX3 := Lib.hid x3; have y0 := x1.cell 0; have y1 := x1.free 0; simp only [List.getElem?_toArray, List.getElem?_cons_zero] at y0; clear x1 x2 x3))
  have hsp := spots_of l HO.out ref E HP.out HS.out
  obtain ⟨_, hor⟩ := own_row3 HX2.out
  rcases hor with ⟨_, h0⟩ | ⟨g2, cap2, hv2, hb2, hr2⟩
  · have := hsp.pos; rw [h0] at this; simp at this
  · subst hv2
    go_ret
    have hz := HA.out.size
    refine ⟨g2, cap2, _, hsp, ?_, rfl, by simp at hz; omega, hr2, Touch.adds (A0.trans HA.out) HX3.out (fun i hi => by omega)⟩
    have a1 := accT_len ref E (E.length - 1)
    have a2 := evs_len l
    have a3 := HN.out
    have a4 := HP.out.length_eq
    omega

end Go.Proofs.Ytigpghmbeldakaa
