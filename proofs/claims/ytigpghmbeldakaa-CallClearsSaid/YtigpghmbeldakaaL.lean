/- every; the tests and the scores of the auction's steps. -/
import Derived.Test.YtigpghmbeldakaaK
namespace Go.Proofs.Ytigpghmbeldakaa
open Go.RowKit

set_option maxHeartbeats 1000000 in
theorem every1_any (K : World → Prop) (hg hb : Nat) (hlb : Array Value) (pr : Sp → Bool) (l : List Sp) (hJ : JudgeK K hg hlb pr l) (a b c : Int) (hm : (a, b, c) ∈ l) (w : World) (hK : K w) (hc : w.cell? ⟨hb, 0, none⟩ = some (.func (.func hg) #[] hlb)) :
    Calls Try.prog 87 #[.agg #[.int .i64 a, .int .i64 b, .int .i64 c], .pointer (some ⟨hb, 0, none⟩)] w fun e w' => e = .returned (.bool (!pr (a, b, c))) ∧ Adds w w' := by
  have he := hJ.enter
  have HC := Lib.hid (hJ.call a b c hm)
  have HP := Lib.hid hJ.keep
  have hlt := cell_lt hc
  generalize pr (a, b, c) = q at HC ⊢
  clear hJ hm
  go_enter Try.func87, Try.ntmps87
  go_wp2_with (go_at_fn hg; refine (HC.out _ (HP.out _ _ hK ((Adds.refl w).alloc _))).mono ?_; rintro e w1 ⟨rfl, hb1⟩)
  go_ret
  exact ⟨rfl, ((Adds.refl w).alloc _).trans hb1⟩

set_option maxHeartbeats 1000000 in
theorem every_any (K : World → Prop) (hg : Nat) (hlb : Array Value) (pr : Sp → Bool) (p : Option Addr) (cap : Nat) (l : List Sp) (w : World) (hN : l.length ≤ 100000) (hL : At3 w p l) (hJ : JudgeK K hg hlb pr l) (hK : K w) :
    Calls Try.prog 75 #[.slice p l.length cap, .func (.func hg) #[] hlb] w fun e w' => e = .returned (.bool (l.all pr)) ∧ Adds w w' := by
  have HL := Lib.hid hL
  have HJ := Lib.hid hJ
  have HK := Lib.hid hK
  have e1 : ∀ args w, (callFunc 87 args).run Try.prog w = .ok (.enter 87 args) w := fun args w => enters_of Try.func87 (by kernel_rfl) rfl args w
  have HE : Hid ((!(l.any fun x => !pr x)) = l.all pr) := Lib.hid (by rw [Bool.eq_iff_iff]; simp)
  have B0 : Box (w.alloc (.cells #[.func (.func hg) #[] hlb] 96)) w.heap.size #[.func (.func hg) #[] hlb] 96 := Box.new w _ _
  have HB0 := Lib.hid B0
  have A0 := Lib.hid ((Adds.refl w).alloc (.cells #[.func (.func hg) #[] hlb] 96))
  have hcon := contains_s p cap 87 #[.pointer (some ⟨w.heap.size, 0, none⟩)] (fun x => !pr x) l (w.alloc (.cells #[.func (.func hg) #[] hlb] 96)) (by unfold maxLen; omega) (HL.out.later A0.out)
    ⟨e1, fun x hx W hW => by
      obtain ⟨a, b, c⟩ := x
      exact every1_any K hg w.heap.size hlb pr l HJ.out a b c hx W (HJ.out.keep _ _ HK.out (A0.out.trans hW)) (keep_cell hW (HB0.out.cell 0))⟩
  generalize (l.any fun x => !pr x) = q at HE hcon
  clear hL hJ hK e1 B0
  go_enter Try.func75, Try.ntmps75
  go_wp2_with (go_at_call 86; refine hcon.mono ?_; rintro e w1 ⟨rfl, hb1⟩)
  go_ret
  exact ⟨ret_bool HE.out, A0.out.trans hb1⟩

/-- A spot as it may be. -/
def spOk (s : Sp) : Prop := 1 ≤ s.1 ∧ s.1 ≤ 1000000 ∧ 0 ≤ s.2.1 ∧ s.2.1 ≤ 10000000000000 ∧ 0 ≤ s.2.2 ∧ s.2.2 ≤ 10000000000000

theorem spOk_of {l : List Bd} {ref : Int} {S : List Sp} (hok : ∀ b ∈ l, okB b = true) (hN : l.length ≤ 5000) (h : Spots l ref S) : ∀ s ∈ S, spOk s := fun s hs => by
  obtain ⟨h1, h2, h3, h4⟩ := h.right s hs
  have hd := dem_bd s.1 l hok
  have hp := sup_bd s.1 l hok
  unfold spOk
  omega

set_option maxHeartbeats 400000 in
theorem t1_any (a b c : Int) (w : World) : Calls Try.prog 66 #[.agg #[.int .i64 a, .int .i64 b, .int .i64 c]] w fun e w' => e = .returned (.bool true) ∧ Adds w w' := by
  go_enter Try.func66, Try.ntmps66
  go_wp2
  go_ret
  exact ⟨rfl, (Adds.refl w).alloc _⟩

set_option maxHeartbeats 400000 in
theorem s2_any (a b c : Int) (w : World) (h : spOk (a, b, c)) : Calls Try.prog 67 #[.agg #[.int .i64 a, .int .i64 b, .int .i64 c]] w fun e w' => e = .returned (.int .i64 (max (b - c) (-(b - c)))) ∧ Adds w w' := by
  obtain ⟨h1, h2, h3, h4, h5, h6⟩ := h
  simp only at h1 h2 h3 h4 h5 h6
  have hc := fun W => surplus_any a b c W h3 h5 h4 h6
  obtain ⟨d, hd⟩ : ∃ d, d = b - c := ⟨_, rfl⟩
  have ha := fun W => abs_any d W (by omega) (by omega)
  rw [← hd] at hc ⊢
  clear hd h1 h2 h3 h4 h5 h6
  generalize max d (-d) = m at ha ⊢
  go_enter Try.func67, Try.ntmps67
  go_wp2_with (first | (go_at_call 69; refine (hc _).mono ?_; rintro e w1 ⟨rfl, hb1⟩) | (go_at_call 68; refine (ha _).mono ?_; rintro e w2 ⟨rfl, rfl⟩))
  go_ret
  exact ⟨rfl, ((Adds.refl w).alloc _).trans hb1⟩

set_option maxHeartbeats 400000 in
theorem t3_any (a b c : Int) (w : World) (h : spOk (a, b, c)) : Calls Try.prog 70 #[.agg #[.int .i64 a, .int .i64 b, .int .i64 c]] w fun e w' => e = .returned (.bool (decide (0 < b - c))) ∧ Adds w w' := by
  obtain ⟨h1, h2, h3, h4, h5, h6⟩ := h
  simp only at h1 h2 h3 h4 h5 h6
  have hc := fun W => surplus_any a b c W h3 h5 h4 h6
  obtain ⟨d, hd⟩ : ∃ d, d = b - c := ⟨_, rfl⟩
  rw [← hd] at hc ⊢
  clear hd h1 h2 h3 h4 h5 h6
  go_enter Try.func70, Try.ntmps70
  go_wp2_with (go_at_call 69; refine (hc _).mono ?_; rintro e w1 ⟨rfl, hb1⟩)
  go_ret
  exact ⟨rfl, ((Adds.refl w).alloc _).trans hb1⟩

set_option maxHeartbeats 400000 in
theorem s4_any (a b c : Int) (w : World) (h : spOk (a, b, c)) : Calls Try.prog 71 #[.agg #[.int .i64 a, .int .i64 b, .int .i64 c]] w fun e w' => e = .returned (.int .i64 (-a)) ∧ Adds w w' := by
  obtain ⟨h1, h2, _⟩ := h
  simp only at h1 h2
  go_enter Try.func71, Try.ntmps71
  go_wp2
  go_ret
  exact ⟨rfl, (Adds.refl w).alloc _⟩

set_option maxHeartbeats 400000 in
theorem t5_any (a b c : Int) (w : World) (h : spOk (a, b, c)) : Calls Try.prog 72 #[.agg #[.int .i64 a, .int .i64 b, .int .i64 c]] w fun e w' => e = .returned (.bool (decide (b - c < 0))) ∧ Adds w w' := by
  obtain ⟨h1, h2, h3, h4, h5, h6⟩ := h
  simp only at h1 h2 h3 h4 h5 h6
  have hc := fun W => surplus_any a b c W h3 h5 h4 h6
  obtain ⟨d, hd⟩ : ∃ d, d = b - c := ⟨_, rfl⟩
  rw [← hd] at hc ⊢
  clear hd h1 h2 h3 h4 h5 h6
  go_enter Try.func72, Try.ntmps72
  go_wp2_with (go_at_call 69; refine (hc _).mono ?_; rintro e w1 ⟨rfl, hb1⟩)
  go_ret
  exact ⟨rfl, ((Adds.refl w).alloc _).trans hb1⟩

set_option maxHeartbeats 400000 in
theorem s6_any (a b c : Int) (w : World) : Calls Try.prog 73 #[.agg #[.int .i64 a, .int .i64 b, .int .i64 c]] w fun e w' => e = .returned (.int .i64 a) ∧ Adds w w' := by
  go_enter Try.func73, Try.ntmps73
  go_wp2
  go_ret
  exact ⟨rfl, (Adds.refl w).alloc _⟩

set_option maxHeartbeats 400000 in
theorem s7_any (rb : Nat) (ref : Int) (hr1 : 1 ≤ ref) (hr2 : ref ≤ 1000000) (a b c : Int) (w : World) (h : spOk (a, b, c)) (hc : w.cell? ⟨rb, 0, none⟩ = some (.int .i64 ref)) :
    Calls Try.prog 74 #[.agg #[.int .i64 a, .int .i64 b, .int .i64 c], .pointer (some ⟨rb, 0, none⟩)] w fun e w' => e = .returned (.int .i64 (max (a - ref) (-(a - ref)))) ∧ Adds w w' := by
  obtain ⟨h1, h2, _⟩ := h
  simp only at h1 h2
  have ha := fun W => abs_any (a - ref) W (by omega) (by omega)
  generalize hm : max (a - ref) (-(a - ref)) = m at ha ⊢
  have hlt := cell_lt hc
  clear hm
  go_enter Try.func74, Try.ntmps74
  go_wp2_with (go_at_call 68; refine (ha _).mono ?_; rintro e w2 ⟨rfl, rfl⟩)
  go_ret
  exact ⟨rfl, (Adds.refl w).alloc _⟩

end Go.Proofs.Ytigpghmbeldakaa
