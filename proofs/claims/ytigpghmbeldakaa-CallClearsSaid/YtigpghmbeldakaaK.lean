/- least; every. -/
import Derived.Test.YtigpghmbeldakaaJ
namespace Go.Proofs.Ytigpghmbeldakaa
open Go.RowKit

/-- Those of the least score. -/
def leastT (f : Sp → Int) (l : List Sp) : List Sp := l.filter fun x => l.all fun y => decide (f x ≤ f y)

theorem leastT_of {f : Sp → Int} {l : List Sp} {m : Sp} (hm : m ∈ l) (h : ∀ y ∈ l, f m ≤ f y) : (l.filter fun x => !decide (f m < f x)) = leastT f l := by
  unfold leastT
  apply List.filter_congr
  intro x hx
  rw [Bool.eq_iff_iff]
  simp only [Bool.not_eq_true', decide_eq_false_iff_not, List.all_eq_true, decide_eq_true_eq]
  constructor
  · intro hn y hy
    have := h y hy
    omega
  · intro ha
    have := ha m hm
    omega

/-- What least returns. -/
def LeastGot (f : Sp → Int) (g cap : Nat) (l : List Sp) (w : World) (e : Ending) (w' : World) : Prop :=
  e = .returned (.slice (some ⟨g, 0, none⟩) (leastT f l).length cap) ∧ Row3 w' g cap (leastT f l) ∧ Touch (fun k => k = g) w w'

theorem Touch.ahead {O : Nat → Prop} {a b c : World} (h : Adds a b) (k : Touch O b c) : Touch O a c :=
  ⟨k.os.trans h.os, k.tape.trans h.tape, k.output.trans h.output, Nat.le_trans h.size k.size, fun i hi ho => (k.same i (Nat.lt_of_lt_of_le hi h.size) ho).trans (h.block i hi)⟩

set_option maxRecDepth 100000 in
set_option maxHeartbeats 2000000 in
theorem least_any (K : World → Prop) (sg : Nat) (slb : Array Value) (f : Sp → Int) (g cap : Nat) (l : List Sp) (w : World) (hN : l.length ≤ 100000) (h1 : 1 ≤ l.length) (hr : Row3 w g cap l) (hS : Scores K sg slb f l) (hK : ∀ W, Touch (fun k => k = g) w W → K W) :
    Calls Try.prog 44 #[.slice (some ⟨g, 0, none⟩) l.length cap, .func (.func sg) #[] slb] w (LeastGot f g cap l w) := by
  have HR := Lib.hid hr
  have HS := Lib.hid hS
  have HK := Lib.hid hK
  have he := hS.enter
  have hgl := hr.lt
  obtain ⟨N, hNl⟩ : ∃ N, N = l.length := ⟨_, rfl⟩
  have HN := Lib.hid hNl
  rw [← hNl] at hN h1 ⊢
  clear hr hS hK hNl
  go_enter Try.func44, Try.ntmps44
  go_upto_region 1 with fail
  have B0 : Box (w.alloc (.cells #[.func (.func sg) #[] slb] 85)) w.heap.size #[.func (.func sg) #[] slb] 85 := Box.new w _ _
  have HB0 := Lib.hid B0
  have A0 : Adds w (w.alloc (.cells #[.func (.func sg) #[] slb] 85)) := (Adds.refl w).alloc _
  have HA0 := Lib.hid A0
  clear B0 A0
  go_wp2_with fail
  have hmin := min_any K sg w.heap.size slb f (some ⟨g, 0, none⟩) cap l HS.out (w.alloc (.cells #[.func (.func sg) #[] slb] 85)) (by have := HN.out; omega) (by have := HN.out; omega) (HR.out.at3.later HA0.out) (HK.out _ (Touch.of_adds HA0.out _)) (by have := HB0.out.cell 0; simp)
  rw [← HN.out] at hmin
  refine hmin.mono ?_
  rintro e w1 ⟨a, b, c, hm, hle, rfl, hb⟩
  have HM := Lib.hid hm
  have HLE := Lib.hid hle
  have HBB := Lib.hid hb
  have x0 := keep_cell (v := .func (.func sg) #[] slb) hb (HB0.out.cell 0)
  have hz := hb.size
  simp only [World.size_alloc] at hz
  have hzw : w.heap.size < w1.heap.size := by omega
  clear hm hle hb hmin hz
  have A1 : Hid (Adds w (w1.alloc (.cells #[.int .i64 a, .int .i64 b, .int .i64 c] 80))) := Lib.hid ((HA0.out.trans HBB.out).alloc _)
  go_wp2_with (first
    | (go_at_fn sg; refine (HS.out.call a b c HM.out _ (HK.out _ (Touch.of_adds A1.out _))).mono ?_; rintro e w2 ⟨rfl, hb2⟩; have A2 := Lib.hid (A1.out.trans hb2); have x1 := keep_cell hb2 (keep_cell ((Adds.refl w1).alloc (.cells #[.int .i64 a, .int .i64 b, .int .i64 c] 80)) x0); have hz2 := hb2.size; simp only [World.size_alloc] at hz2; have hzw2 : w.heap.size < w2.heap.size := (by omega); clear hb2)
    | (go_at_call 61; rw [HN.out]; refine (delete_any 62 #[.pointer (some ⟨w.heap.size, 0, none⟩), .pointer (some ⟨w2.heap.size, 0, none⟩)] (fun x => decide (f (a, b, c) < f x)) g cap l _ (by have := HN.out; omega) (HR.out.later (A2.out.alloc _)) ⟨fun args w => enters_of Try.func62 (by kernel_rfl) rfl args w, fun x y z hx W hW => cut_any K sg w.heap.size w2.heap.size slb f l HS.out x y z (f (a, b, c)) hx W (HK.out _ (Touch.ahead (A2.out.alloc _) hW)) (touch_cell hW (by omega) (keep_cell ((Adds.refl w2).alloc _) x1)) (touch_cell hW (by omega) (by have := (Box.new w2 #[.int .i64 (f (a, b, c))] 2).cell 0; simp)), fun W W' h h' => h.behind h'⟩).mono ?_; rintro e w4 ⟨rfl, r1, r2⟩; have R1 := Lib.hid r1; have R2 := Lib.hid r2; clear r1 r2))
  go_ret
  rw [leastT_of HM.out HLE.out] at R1
  exact ⟨by rw [← leastT_of HM.out HLE.out]; rfl, R1.out, Touch.ahead (A2.out.alloc _) R2.out⟩

end Go.Proofs.Ytigpghmbeldakaa
