/- auction. -/
import Derived.Test.YtigpghmbeldakaaL
import Derived.Laws.EntriesVeiled
namespace Go.Proofs.Ytigpghmbeldakaa
open Go.RowKit

/-- The tests and the scores of the five steps. -/
def wgT : Nat → Nat
  | 2 => 70
  | 3 => 72
  | _ => 66
def sgT : Nat → Nat
  | 0 => 46
  | 1 => 67
  | 2 => 71
  | 3 => 73
  | _ => 74
def slbT (rb : Nat) : Nat → Array Value
  | 0 => #[]
  | 1 => #[]
  | 2 => #[]
  | 3 => #[]
  | _ => #[.pointer (some ⟨rb, 0, none⟩)]
def whT : Nat → Sp → Bool
  | 2 => fun s => decide (0 < s.2.1 - s.2.2)
  | 3 => fun s => decide (s.2.1 - s.2.2 < 0)
  | _ => fun _ => true
def scT (ref : Int) : Nat → Sp → Int
  | 0 => fun s => -(min s.2.1 s.2.2)
  | 1 => fun s => max (s.2.1 - s.2.2) (-(s.2.1 - s.2.2))
  | 2 => fun s => -s.1
  | 3 => fun s => s.1
  | _ => fun s => max (s.1 - ref) (-(s.1 - ref))
/-- The spots that are left behind k steps. -/
def stT (ref : Int) (S : List Sp) : Nat → List Sp
  | 0 => S
  | k + 1 => if (stT ref S k).all (whT k) then leastT (scT ref k) (stT ref S k) else stT ref S k

theorem leastT_sub {f : Sp → Int} {l : List Sp} : ∀ x ∈ leastT f l, x ∈ l := fun x hx => (List.mem_filter.1 hx).1
theorem min_ex (f : Sp → Int) : ∀ (l : List Sp), l ≠ [] → ∃ m ∈ l, ∀ y ∈ l, f m ≤ f y
  | [], h => absurd rfl h
  | [x], _ => ⟨x, by simp, fun y hy => by simp at hy; rw [hy]; exact Int.le_refl _⟩
  | x :: y :: l, _ => by
    obtain ⟨m, hm, h⟩ := min_ex f (y :: l) (by simp)
    by_cases hx : f x ≤ f m
    · exact ⟨x, by simp, fun z hz => by
        rcases List.mem_cons.1 hz with rfl | hz
        · exact Int.le_refl _
        · have := h z hz; omega⟩
    · exact ⟨m, List.mem_cons_of_mem _ hm, fun z hz => by
        rcases List.mem_cons.1 hz with rfl | hz
        · omega
        · exact h z hz⟩
theorem mem_leastT {f : Sp → Int} {l : List Sp} {x : Sp} : x ∈ leastT f l ↔ x ∈ l ∧ ∀ y ∈ l, f x ≤ f y := by
  unfold leastT
  rw [List.mem_filter]
  simp
theorem leastT_ne {f : Sp → Int} {l : List Sp} (h : l ≠ []) : leastT f l ≠ [] := by
  obtain ⟨m, hm, hl⟩ := min_ex f l h
  exact List.ne_nil_of_mem (mem_leastT.2 ⟨hm, hl⟩)
theorem stT_sub (ref : Int) (S : List Sp) : ∀ k, ∀ x ∈ stT ref S k, x ∈ S
  | 0 => fun x hx => hx
  | k + 1 => fun x hx => by
    unfold stT at hx
    split at hx
    · exact stT_sub ref S k x (leastT_sub x hx)
    · exact stT_sub ref S k x hx
theorem stT_ne (ref : Int) (S : List Sp) (h : S ≠ []) : ∀ k, stT ref S k ≠ []
  | 0 => h
  | k + 1 => by
    unfold stT
    split
    · exact leastT_ne (stT_ne ref S h k)
    · exact stT_ne ref S h k
theorem leastT_len (f : Sp → Int) (l : List Sp) : (leastT f l).length ≤ l.length := List.length_filter_le _ _
theorem stT_len (ref : Int) (S : List Sp) : ∀ k, (stT ref S k).length ≤ S.length
  | 0 => Nat.le_refl _
  | k + 1 => by
    unfold stT
    split
    · exact Nat.le_trans (leastT_len _ _) (stT_len ref S k)
    · exact stT_len ref S k

/-- The worlds in which the reference price lies in its box. -/
def RefAt (rb : Nat) (ref : Int) (W : World) : Prop := W.cell? ⟨rb, 0, none⟩ = some (.int .i64 ref)
theorem RefAt.keep {rb : Nat} {ref : Int} (W W' : World) (h : RefAt rb ref W) (hb : Adds W W') : RefAt rb ref W' := keep_cell hb h

theorem steps_judge (rb : Nat) (ref : Int) (L : List Sp) (hL : ∀ s ∈ L, spOk s) (k : Nat) (hk : k < 5) : JudgeK (RefAt rb ref) (wgT k) #[] (whT k) L := by
  have hcase : k = 0 ∨ k = 1 ∨ k = 2 ∨ k = 3 ∨ k = 4 := by omega
  rcases hcase with rfl | rfl | rfl | rfl | rfl
  · exact ⟨fun args w => enters_of Try.func66 (by kernel_rfl) rfl args w, fun a b c _ W _ => t1_any a b c W, RefAt.keep⟩
  · exact ⟨fun args w => enters_of Try.func66 (by kernel_rfl) rfl args w, fun a b c _ W _ => t1_any a b c W, RefAt.keep⟩
  · exact ⟨fun args w => enters_of Try.func70 (by kernel_rfl) rfl args w, fun a b c h W _ => t3_any a b c W (hL _ h), RefAt.keep⟩
  · exact ⟨fun args w => enters_of Try.func72 (by kernel_rfl) rfl args w, fun a b c h W _ => t5_any a b c W (hL _ h), RefAt.keep⟩
  · exact ⟨fun args w => enters_of Try.func66 (by kernel_rfl) rfl args w, fun a b c _ W _ => t1_any a b c W, RefAt.keep⟩

theorem missed_sp (a b c : Int) (w : World) (h : spOk (a, b, c)) : Calls Try.prog 46 #[.agg #[.int .i64 a, .int .i64 b, .int .i64 c]] w fun e w' => e = .returned (.int .i64 (-(min b c))) ∧ Adds w w' := by
  obtain ⟨h1, h2, h3, h4, h5, h6⟩ := h
  exact missed_any a b c w h3 h5 h4 h6

theorem steps_scores (rb : Nat) (ref : Int) (hr1 : 1 ≤ ref) (hr2 : ref ≤ 1000000) (L : List Sp) (hL : ∀ s ∈ L, spOk s) (k : Nat) (hk : k < 5) : Scores (RefAt rb ref) (sgT k) (slbT rb k) (scT ref k) L := by
  have hcase : k = 0 ∨ k = 1 ∨ k = 2 ∨ k = 3 ∨ k = 4 := by omega
  rcases hcase with rfl | rfl | rfl | rfl | rfl
  · exact ⟨fun args w => enters_of Try.func46 (by kernel_rfl) rfl args w, fun a b c h W _ => missed_sp a b c W (hL _ h), RefAt.keep⟩
  · exact ⟨fun args w => enters_of Try.func67 (by kernel_rfl) rfl args w, fun a b c h W _ => s2_any a b c W (hL _ h), RefAt.keep⟩
  · exact ⟨fun args w => enters_of Try.func71 (by kernel_rfl) rfl args w, fun a b c h W _ => s4_any a b c W (hL _ h), RefAt.keep⟩
  · exact ⟨fun args w => enters_of Try.func73 (by kernel_rfl) rfl args w, fun a b c h W _ => s6_any a b c W, RefAt.keep⟩
  · exact ⟨fun args w => enters_of Try.func74 (by kernel_rfl) rfl args w, fun a b c h W hc => s7_any rb ref hr1 hr2 a b c W (hL _ h) hc, RefAt.keep⟩

/-- The table of the steps in memory. -/
def stepCells (rb : Nat) : Array Value := #[.func (.func 66) #[] #[], .func (.func 46) #[] #[], .func (.func 66) #[] #[], .func (.func 67) #[] #[], .func (.func 70) #[] #[], .func (.func 71) #[] #[], .func (.func 72) #[] #[], .func (.func 73) #[] #[], .func (.func 66) #[] #[], .func (.func 74) #[] #[.pointer (some ⟨rb, 0, none⟩)]]
theorem stepCells_at (rb k : Nat) (hk : k < 5) : (stepCells rb)[k * 2]? = some (.func (.func (wgT k)) #[] #[]) ∧ (stepCells rb)[k * 2 + 1]? = some (.func (.func (sgT k)) #[] (slbT rb k)) := by
  have hcase : k = 0 ∨ k = 1 ∨ k = 2 ∨ k = 3 ∨ k = 4 := by omega
  rcases hcase with rfl | rfl | rfl | rfl | rfl <;> exact ⟨rfl, rfl⟩

/-- What auction returns. -/
def AuctionGot (l : List Bd) (ref : Int) (w : World) (e : Ending) (w' : World) : Prop :=
  ∃ S a b c, Spots l ref S ∧ (stT ref S 5)[0]? = some (a, b, c) ∧ e = .returned (.agg #[.int .i64 a, .int .i64 b, .int .i64 c]) ∧ Adds w w'

set_option maxRecDepth 100000 in
set_option maxHeartbeats 4000000 in
theorem auction_any (p : Option Addr) (cap : Nat) (l : List Bd) (ref : Int) (w : World) (hN : l.length ≤ 5000) (hL : At3 w p l) (hok : ∀ b ∈ l, okB b = true) (hr1 : 1 ≤ ref) (hr2 : ref ≤ 1000000) :
    Calls Try.prog 48 #[.slice p l.length cap, .int .i64 ref] w (AuctionGot l ref w) := by
  have HL := Lib.hid hL
  have HO := Lib.hid hok
  have HN := Lib.hid hN
  have HR1 := Lib.hid hr1
  have HR2 := Lib.hid hr2
  clear hL hok hN hr1 hr2
  go_enter Try.func48, Try.ntmps48
  go_upto_region 3 with fail
  obtain ⟨W3, hW3⟩ : ∃ V, V = ((w.alloc (.cells #[.int .i64 ref] 2)).alloc (.cells #[.int .i64 0, .int .i64 0, .int .i64 0] 80)).alloc (.cells (stepCells w.heap.size) 101) := ⟨_, rfl⟩
  have A3 : Adds w W3 := by rw [hW3]; exact (((Adds.refl w).alloc _).alloc _).alloc _
  have z3 : W3.heap.size = w.heap.size + 1 + 1 + 1 := by rw [hW3]; simp
  have X0 : Box W3 w.heap.size #[.int .i64 ref] 2 := by rw [hW3]; exact ((Box.new w _ _).alloc _).alloc _
  have X1 : Box W3 (w.heap.size + 1) #[.int .i64 0, .int .i64 0, .int .i64 0] 80 := by rw [hW3]; have := (Box.new (w.alloc (.cells #[.int .i64 ref] 2)) #[.int .i64 0, .int .i64 0, .int .i64 0] 80).alloc (.cells (stepCells w.heap.size) 101); simpa using this
  have X2 : Box W3 (w.heap.size + 1 + 1) (stepCells w.heap.size) 101 := by rw [hW3]; have := Box.new ((w.alloc (.cells #[.int .i64 ref] 2)).alloc (.cells #[.int .i64 0, .int .i64 0, .int .i64 0] 80)) (stepCells w.heap.size) 101; simpa using this
  unfold stepCells at hW3
  rw [← hW3]
  clear hW3
  have x0 := X0.cell 0
  simp only [List.getElem?_toArray, List.getElem?_cons_zero] at x0
  have HA3 := Lib.hid A3
  have HX0 := Lib.hid X0
  have HX1 := Lib.hid X1
  have HX2 := Lib.hid X2
  have HZ3 := Lib.hid z3
  clear A3 z3 X0 X1 X2
  go_wp2_with (go_at_call 45; refine (spots_any p cap l ref _ HN.out (HL.out.later HA3.out) HO.out).mono ?_; rintro e w1 ⟨g, cap', S, e1, e2, rfl, e3, e4, e5⟩; have HSP := Lib.hid e1; have HSL := Lib.hid e2; have HG := Lib.hid e3; have HRW := Lib.hid e4; have HB := Lib.hid e5; clear e1 e2 e3 e4 e5)
  have hne : Hid (S ≠ []) := Lib.hid (fun h => by have := HSP.out.pos; rw [h] at this; simp at this)
  go_loopw [7, 25] (fun v i wr => ∃ k : Nat, k ≤ 5 ∧ i = .int .i64 k ∧ v = .slice (some ⟨g, 0, none⟩) (stT ref S k).length cap' ∧ Hid (Row3 wr g cap' (stT ref S k)) ∧ Touch (fun j => j = g) w1 wr) (fun _ i _ => 5 - (intOf i).toNat)
  case atStart => exact ⟨0, by omega, rfl, rfl, HRW, Touch.refl _ w1⟩
  case round =>
    obtain ⟨k, hk, rfl, rfl, hrow, ht⟩ := hrel
    by_cases hlt : k < 5
    · have hz3 := HZ3.out
      have hg3 := HG.out
      have ok : Hid (∀ s ∈ stT ref S k, spOk s) := Lib.hid (fun s hs => spOk_of HO.out HN.out HSP.out s (stT_sub ref S k s hs))
      have hJ := steps_judge w.heap.size ref (stT ref S k) ok.out k hlt
      have hSc := steps_scores w.heap.size ref HR1.out HR2.out (stT ref S k) ok.out k hlt
      obtain ⟨s0, s1⟩ := stepCells_at w.heap.size k hlt
      have c0 := touch_cell ht (by omega) (keep_cell HB.out ((HX2.out.cell (k * 2)).trans s0))
      have c1 := touch_cell ht (by omega) (keep_cell HB.out ((HX2.out.cell (k * 2 + 1)).trans s1))
      have cr := touch_cell ht (by omega) (keep_cell HB.out x0)
      have hpos : 1 ≤ (stT ref S k).length := List.length_pos_iff.2 (stT_ne ref S hne.out k)
      have hle : (stT ref S k).length ≤ 40000 := Nat.le_trans (stT_len ref S k) HSL.out
      have hsb := cell_lt c0
      have HJ := Lib.hid hJ
      have HSC := Lib.hid hSc
      have HCR := Lib.hid cr
      have HLE := Lib.hid hle
      have HPO := Lib.hid hpos
      have ej := hJ.enter
      have es := hSc.enter
      have HST : Hid (stT ref S (k + 1) = if (stT ref S k).all (whT k) then leastT (scT ref k) (stT ref S k) else stT ref S k) := Lib.hid rfl
      have HT := Lib.hid ht
      have hlt' : (k : Int) < 5 := by omega
      generalize stT ref S k = T at *
      generalize wgT k = wg at *
      generalize sgT k = sg at *
      generalize slbT w.heap.size k = slb at *
      clear hJ hSc cr hle hpos x0 s0 s1 ht hz3
      have hev := every_any (RefAt w.heap.size ref) wg #[] (whT k) (some ⟨g, 0, none⟩) cap' T (wr.alloc (.cells #[.func (.func wg) #[] #[], .func (.func sg) #[] slb] 101)) (by have := HLE.out; omega) (hrow.out.at3.later ((Adds.refl wr).alloc _)) HJ.out (keep_cell ((Adds.refl wr).alloc _) HCR.out)
      have HEV := Lib.hid hev
      clear hev
      cases hall : T.all (whT k) with
      | true =>
        rw [hall, if_pos rfl] at HST
        rw [hall] at HEV
        have HAL := Lib.hid hall
        clear hall
        go_wp2_with (first
          | (go_at_call 75; refine HEV.out.mono ?_; rintro e w2 ⟨rfl, hb2⟩; have A2 := Lib.hid (((Adds.refl wr).alloc _).trans hb2); have d1 := keep_cell (v := .func (.func sg) #[] slb) hb2 ((Box.new wr #[.func (.func wg) #[] #[], .func (.func sg) #[] slb] 101).cell 1); clear hb2)
          | (go_at_call 44; refine (least_any (RefAt w.heap.size ref) sg slb (scT ref k) g cap' T _ (by have := HLE.out; omega) HPO.out (hrow.out.later A2.out) HSC.out (fun W hW => touch_cell hW (by have := HG.out; have := HZ3.out; omega) (keep_cell A2.out HCR.out))).mono ?_; rintro e w3 ⟨rfl, r1, r2⟩; have R1 := Lib.hid r1; have R2 := Lib.hid r2; clear r1 r2))
        exact ⟨⟨k + 1, by omega, by go_num, by rw [HST.out], Lib.hid (by rw [HST.out]; exact R1.out), (HT.out.behind A2.out).trans R2.out⟩, by simp [intOf]; omega⟩
      | false =>
        rw [hall, if_neg (by simp)] at HST
        rw [hall] at HEV
        have HAL := Lib.hid hall
        clear hall
        go_wp2_with (go_at_call 75; refine HEV.out.mono ?_; rintro e w2 ⟨rfl, hb2⟩; have A2 := Lib.hid (((Adds.refl wr).alloc _).trans hb2); clear hb2)
        exact ⟨⟨k + 1, by omega, by go_num, by rw [HST.out], Lib.hid (by rw [HST.out]; exact hrow.out.later A2.out), HT.out.behind A2.out⟩, by simp [intOf]; omega⟩
    · have hk5 : k = 5 := by omega
      subst hk5
      obtain ⟨⟨a, b, c⟩, hb3⟩ : ∃ t, (stT ref S 5)[0]? = some t := ⟨_, List.getElem?_eq_getElem (List.length_pos_iff.2 (stT_ne ref S hne.out 5))⟩
      obtain ⟨_, _, e', d0, d1, d2⟩ := hrow.out.at3 0 _ hb3
      cases e'
      simp only [Nat.zero_mul, Nat.add_zero, Nat.zero_add] at d0 d1 d2
      have hpos : 0 < (stT ref S 5).length := List.length_pos_iff.2 (stT_ne ref S hne.out 5)
      have hg3 := HG.out
      have hz3 := HZ3.out
      have RB := (HX1.out.later HB.out).same (ht.same _ (HX1.out.later HB.out).lt (by omega))
      have y0 := RB.cell 0
      have y1 := RB.cell 1
      have y2 := RB.cell 2
      have f0 := RB.free 0
      have f1 := RB.free 1
      have f2 := RB.free 2
      have hzz := RB.lt
      simp only [List.getElem?_toArray, List.getElem?_cons_zero, List.getElem?_cons_succ] at y0 y1 y2
      have HRB := Lib.hid RB
      have H3 := Lib.hid hb3
      have HT := Lib.hid ht
      have HH : Hid (w.heap.size ≤ g) := Lib.hid (by omega)
      clear RB hb3 ht x0 hz3
      go_wp2
      refine bodyPost_ret (v := .agg #[.int .i64 a, .int .i64 b, .int .i64 c]) ?_ rfl ⟨S, a, b, c, HSP.out, H3.out, rfl, ?_⟩
      · obtain ⟨q0, q1, q2⟩ := HRB.out.put3 (.int .i64 a) (.int .i64 b) (.int .i64 c)
        simp [results, Try.results48, go_sem, q0, q1, q2]
      · exact (((Touch.adds (HA3.out.trans HB.out) HT.out (fun i hi => by rw [hi]; exact HH.out)).set (by simp) _).set (by simp) _).set (by simp) _

end Go.Proofs.Ytigpghmbeldakaa
