/- slices.MinFunc at spots. -/
import Derived.Test.YtigpghmbeldakaaH
namespace Go.Proofs.Ytigpghmbeldakaa
open Go.RowKit

/-- What slices.MinFunc returns: one of the least score. -/
def MinGot (f : Sp → Int) (l : List Sp) (w : World) (e : Ending) (w' : World) : Prop :=
  ∃ a b c, (a, b, c) ∈ l ∧ (∀ y ∈ l, f (a, b, c) ≤ f y) ∧ e = .returned (.agg #[.int .i64 a, .int .i64 b, .int .i64 c]) ∧ Adds w w'

set_option maxRecDepth 100000 in
set_option maxHeartbeats 4000000 in
theorem min_any (K : World → Prop) (g sb : Nat) (lb : Array Value) (f : Sp → Int) (p : Option Addr) (cap : Nat) (l : List Sp) (hS : Scores K g lb f l) (w : World) (hN : l.length ≤ 100000) (h1 : 1 ≤ l.length) (hL : At3 w p l) (hK : K w)
    (hc : w.cell? ⟨sb, 0, none⟩ = some (.func (.func g) #[] lb)) :
    Calls Try.prog 58 #[.slice p l.length cap, .func (.func 59) #[] #[.pointer (some ⟨sb, 0, none⟩)]] w (MinGot f l w) := by
  obtain ⟨N, hNl⟩ : ∃ N, N = l.length := ⟨_, rfl⟩
  rw [← hNl] at hN h1 ⊢
  have he : ∀ args w, (callFunc 59 args).run Try.prog w = .ok (.enter 59 args) w := fun args w => enters_of Try.func59 (by kernel_rfl) rfl args w
  have HL := Lib.hid hL
  have HS := Lib.hid hS
  have HK := Lib.hid hK
  have HC := Lib.hid hc
  have HN := Lib.hid hNl
  obtain ⟨⟨a, b, c⟩, hb3⟩ : ∃ t, l[0]? = some t := ⟨_, List.getElem?_eq_getElem (by omega)⟩
  obtain ⟨gg, off, rfl, d0, d1, d2⟩ := hL 0 _ hb3
  simp only [Nat.zero_mul, Nat.add_zero] at d0 d1 d2
  have HM := Lib.hid (List.mem_of_getElem? hb3)
  have H3 := Lib.hid hb3
  clear hL hS hK hc hNl hb3
  have hgl := cell_lt d0
  have hn0 : 0 < N := by omega
  have hn1 : decide ((N : Int) < 1) = false := decide_eq_false (by omega)
  have hn2 : ¬ (N : Int) < 1 := by omega
  go_enter Try.func58, Try.ntmps58
  go_wp2
  have B0 : Box ((w.alloc (.cells #[.int .i64 0, .int .i64 0, .int .i64 0] 80)).alloc (.cells #[.int .i64 a, .int .i64 b, .int .i64 c] 80)) w.heap.size #[.int .i64 0, .int .i64 0, .int .i64 0] 80 := (Box.new w _ _).alloc _
  have B1 : Box ((w.alloc (.cells #[.int .i64 0, .int .i64 0, .int .i64 0] 80)).alloc (.cells #[.int .i64 a, .int .i64 b, .int .i64 c] 80)) (w.heap.size + 1) #[.int .i64 a, .int .i64 b, .int .i64 c] 80 := by
    have := Box.new (w.alloc (.cells #[.int .i64 0, .int .i64 0, .int .i64 0] 80)) #[.int .i64 a, .int .i64 b, .int .i64 c] 80
    simpa using this
  have HB0 := Lib.hid B0
  have HB1 := Lib.hid B1
  clear B0 B1 hn1 hn2
  go_loopw [6] (fun i wr => ∃ k : Nat, 1 ≤ k ∧ k ≤ N ∧ i = .int .i64 k ∧ Hid (∃ x y z, (x, y, z) ∈ l ∧ (∀ u ∈ l.take k, f (x, y, z) ≤ f u) ∧ Box wr (w.heap.size + 1) #[.int .i64 x, .int .i64 y, .int .i64 z] 80) ∧ Hid (Box wr w.heap.size #[.int .i64 0, .int .i64 0, .int .i64 0] 80) ∧ Adds w wr) (fun i _ => N - (intOf i).toNat)
  case atStart => exact ⟨1, by omega, by omega, rfl, Lib.hid ⟨a, b, c, HM.out, fun u hu => by
      rw [show (1 : Nat) = 0 + 1 from rfl, take_next H3.out] at hu
      simp at hu
      rw [hu]; exact Int.le_refl _, HB1.out⟩, HB0, ((Adds.refl w).alloc _).alloc _⟩
  case round =>
    obtain ⟨k, hk1, hk, rfl, hmin, hb0, hb⟩ := hrel
    obtain ⟨x, y, z, hxm, hxl, hbx⟩ := hmin.out
    have HXM := Lib.hid hxm
    have HXL := Lib.hid hxl
    have HBX := Lib.hid hbx
    clear hxm hxl hmin
    by_cases hlt : k < N
    · obtain ⟨⟨s, pp, q⟩, hb3⟩ : ∃ t, l[k]? = some t := ⟨_, List.getElem?_eq_getElem (by have := HN.out; omega)⟩
      obtain ⟨gg', off', e', e0, e1, e2⟩ := HL.out k _ hb3
      cases e'
      have c0 := keep_cell hb e0
      have c1 := keep_cell hb e1
      have c2 := keep_cell hb e2
      have x0 := hbx.cell 0
      have x1 := hbx.cell 1
      have x2 := hbx.cell 2
      simp only [List.getElem?_toArray, List.getElem?_cons_zero, List.getElem?_cons_succ] at x0 x1 x2 c0 c1 c2
      have HP := Lib.hid (List.mem_of_getElem? hb3)
      have HT := Lib.hid (take_next hb3)
      have hzz := hbx.lt
      clear hbx e0 e1 e2 hb3 d0 d1 d2
      obtain ⟨r, hr⟩ : ∃ r, r = cmpT (f (s, pp, q)) (f (x, y, z)) := ⟨_, rfl⟩
      have hcall : ∀ W, Adds wr W → Calls Try.prog 59 #[.agg #[.int .i64 s, .int .i64 pp, .int .i64 q], .agg #[.int .i64 x, .int .i64 y, .int .i64 z], .pointer (some ⟨sb, 0, none⟩)] W fun e w' => e = .returned (.int .i64 r) ∧ Adds W w' := fun W hW => by
        rw [hr]; exact scmp_any K g sb lb f l HS.out s pp q x y z HP.out HXM.out W (HS.out.keep _ _ HK.out (hb.trans hW)) (keep_cell (hb.trans hW) HC.out)
      have HCL := Lib.hid hcall
      have HR := Lib.hid hr
      have HBB := Lib.hid hb
      clear hcall hr
      go_upto_region 7 with fail
      go_region_held3 (fun w' => w'.cell? ⟨gg, off + k * 3, none⟩ = some (.int .i64 s) ∧ w'.cell? ⟨gg, off + k * 3 + 1, none⟩ = some (.int .i64 pp) ∧ w'.cell? ⟨gg, off + k * 3 + 2, none⟩ = some (.int .i64 q) ∧ w'.cell? ⟨w.heap.size + 1, 0, none⟩ = some (.int .i64 x) ∧ w'.cell? ⟨w.heap.size + 1, 1, none⟩ = some (.int .i64 y) ∧ w'.cell? ⟨w.heap.size + 1, 2, none⟩ = some (.int .i64 z) ∧ Hid (Adds wr w'))
        (first | (refine ⟨?_, ?_, ?_, ?_, ?_, ?_, Lib.hid (Adds.refl _).drew⟩ <;> go_keep; done) | (have hq := Lib.hid (Adds.trans hh.2.2.2.2.2.2.out hb1); exact ⟨keep_cell hq.out c0, keep_cell hq.out c1, keep_cell hq.out c2, keep_cell hq.out x0, keep_cell hq.out x1, keep_cell hq.out x2, hq⟩))
        ((go_simp; go_at_fn 59; rename_i hh _ _; refine (HCL.out _ hh.2.2.2.2.2.2.out).mono ?_; rintro e w1 ⟨rfl, hb1⟩))
      have hA := hh.2.2.2.2.2.2.out.trans hb1
      have HA := Lib.hid hA
      have c0' := keep_cell hA c0
      have c1' := keep_cell hA c1
      have c2' := keep_cell hA c2
      have BX := HBX.out.later hA
      have x0' := BX.cell 0
      have x1' := BX.cell 1
      have x2' := BX.cell 2
      have f0' := BX.free 0
      have f1' := BX.free 1
      have f2' := BX.free 2
      have hzz' := BX.lt
      simp only [List.getElem?_toArray, List.getElem?_cons_zero, List.getElem?_cons_succ] at x0' x1' x2'
      have HBX' := Lib.hid BX
      clear BX hA c0 c1 c2 x0 x1 x2 hh hb1
      by_cases hneg : r < 0
      · have HNG := Lib.hid hneg
        go_wp2
        refine ⟨⟨k + 1, by omega, by omega, by go_num, Lib.hid ⟨s, pp, q, HP.out, fun u hu => ?_, ?_⟩, Lib.hid (((((hb0.out.later HA.out).far (by simp) _).far (by simp) _).far (by simp) _)), (((HBB.out.trans HA.out).set (by simp) _).set (by simp) _).set (by simp) _⟩, by simp [intOf]; omega⟩
        · have hn := HNG.out
          rw [HR.out] at hn
          have h2 : f (s, pp, q) < f (x, y, z) := by have := cmpT_neg (f (s, pp, q)) (f (x, y, z)); simp only [decide_eq_decide] at this; exact this.1 hn
          rw [HT.out, List.mem_append, List.mem_singleton] at hu
          rcases hu with hu | rfl
          · have := HXL.out u hu; omega
          · exact Int.le_refl _
        · have := ((HBX'.out.set 0 (.int .i64 s)).set 1 (.int .i64 pp)).set 2 (.int .i64 q)
          simpa using this
      · have HNG := Lib.hid hneg
        go_wp2
        refine ⟨⟨k + 1, by omega, by omega, by go_num, Lib.hid ⟨x, y, z, HXM.out, fun u hu => ?_, HBX'.out⟩, Lib.hid (hb0.out.later HA.out), HBB.out.trans HA.out⟩, by simp [intOf]; omega⟩
        have hn := HNG.out
        rw [HR.out] at hn
        have h2 : ¬ f (s, pp, q) < f (x, y, z) := by have := cmpT_neg (f (s, pp, q)) (f (x, y, z)); simp only [decide_eq_decide] at this; exact fun h => hn (this.2 h)
        rw [HT.out, List.mem_append, List.mem_singleton] at hu
        rcases hu with hu | rfl
        · exact HXL.out u hu
        · omega
    · have hkN : l.take k = l := List.take_of_length_le (by have := HN.out; omega)
      rw [hkN] at HXL
      have x0 := hbx.cell 0
      have x1 := hbx.cell 1
      have x2 := hbx.cell 2
      have y0 := hb0.out.cell 0
      have y1 := hb0.out.cell 1
      have y2 := hb0.out.cell 2
      have f0 := hb0.out.free 0
      have f1 := hb0.out.free 1
      have f2 := hb0.out.free 2
      simp only [List.getElem?_toArray, List.getElem?_cons_zero, List.getElem?_cons_succ] at x0 x1 x2 y0 y1 y2
      have hzz := hbx.lt
      have HBB := Lib.hid hb
      clear hkN hbx
      go_wp2
      refine bodyPost_ret (v := .agg #[.int .i64 x, .int .i64 y, .int .i64 z]) ?_ rfl ⟨x, y, z, HXM.out, HXL.out, rfl, ?_⟩
      · obtain ⟨q0, q1, q2⟩ := hb0.out.put3 (.int .i64 x) (.int .i64 y) (.int .i64 z)
        simp [results, Try.results58, go_sem, q0, q1, q2]
      · exact ((HBB.out.set (by simp) _).set (by simp) _).set (by simp) _

end Go.Proofs.Ytigpghmbeldakaa
