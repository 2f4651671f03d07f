/- Rows of numbers in memory; demand and supply. -/
import Derived.Test.YtigpghmbeldakaaA
import Derived.IntWalk
namespace Go.Proofs.Ytigpghmbeldakaa
open Go.RowKit

/-- Triples of numbers in memory. -/
def At3 (w : World) (p : Option Addr) (l : List (Int × Int × Int)) : Prop :=
  ∀ i x, l[i]? = some x → ∃ g off, p = some ⟨g, off, none⟩ ∧ w.cell? ⟨g, off + i * 3, none⟩ = some (.int .i64 x.1) ∧ w.cell? ⟨g, off + i * 3 + 1, none⟩ = some (.int .i64 x.2.1) ∧ w.cell? ⟨g, off + i * 3 + 2, none⟩ = some (.int .i64 x.2.2)

/-- Numbers in memory. -/
def At1 (k : IntKind) (w : World) (p : Option Addr) (l : List Int) : Prop :=
  ∀ i x, l[i]? = some x → ∃ g off, p = some ⟨g, off, none⟩ ∧ w.cell? ⟨g, off + i, none⟩ = some (.int k x)

theorem At3.later {w w' : World} {p : Option Addr} {l : List (Int × Int × Int)} (h : At3 w p l) (hb : Adds w w') : At3 w' p l := fun i x hx => by
  obtain ⟨g, off, e, h0, h1, h2⟩ := h i x hx
  exact ⟨g, off, e, keep_cell hb h0, keep_cell hb h1, keep_cell hb h2⟩

theorem At1.later {k : IntKind} {w w' : World} {p : Option Addr} {l : List Int} (h : At1 k w p l) (hb : Adds w w') : At1 k w' p l := fun i x hx => by
  obtain ⟨g, off, e, h0⟩ := h i x hx
  exact ⟨g, off, e, keep_cell hb h0⟩

/-- The demand at a price. -/
def dem (l : List Bd) (x : Int) : Int := (l.map fun b => if b.1 = 1 ∧ x ≤ b.2.1 then b.2.2 else 0).sum
/-- The supply at a price. -/
def sup (l : List Bd) (x : Int) : Int := (l.map fun b => if b.1 = 2 ∧ b.2.1 ≤ x then b.2.2 else 0).sum

theorem take_next {α : Type} {l : List α} {k : Nat} {x : α} (h : l[k]? = some x) : l.take (k + 1) = l.take k ++ [x] := by
  rw [List.take_add_one, h]; rfl
theorem dem_next (l : List Bd) (b : Bd) (x : Int) : dem (l ++ [b]) x = dem l x + if b.1 = 1 ∧ x ≤ b.2.1 then b.2.2 else 0 := by simp [dem]
theorem sup_next (l : List Bd) (b : Bd) (x : Int) : sup (l ++ [b]) x = sup l x + if b.1 = 2 ∧ b.2.1 ≤ x then b.2.2 else 0 := by simp [sup]

theorem dem_bd (x : Int) : ∀ (l : List Bd), (∀ b ∈ l, okB b = true) → 0 ≤ dem l x ∧ dem l x ≤ l.length * 1000000000
  | [], _ => by simp [dem]
  | b :: l, h => by
    have hb := okB_iff.1 (h b (by simp))
    have ih := dem_bd x l (fun c hc => h c (by simp [hc]))
    simp only [dem, List.map_cons, List.sum_cons, List.length_cons] at ih ⊢
    split <;> (constructor <;> omega)
theorem sup_bd (x : Int) : ∀ (l : List Bd), (∀ b ∈ l, okB b = true) → 0 ≤ sup l x ∧ sup l x ≤ l.length * 1000000000
  | [], _ => by simp [sup]
  | b :: l, h => by
    have hb := okB_iff.1 (h b (by simp))
    have ih := sup_bd x l (fun c hc => h c (by simp [hc]))
    simp only [sup, List.map_cons, List.sum_cons, List.length_cons] at ih ⊢
    split <;> (constructor <;> omega)

theorem ok_take {l : List Bd} (h : ∀ b ∈ l, okB b = true) (k : Nat) : ∀ b ∈ l.take k, okB b = true := fun b hb => h b (List.mem_of_mem_take hb)

theorem Box.put3 {w : World} {b : Nat} {t : TypeId} {a0 a1 a2 : Value} (h : Box w b #[a0, a1, a2] t) (u0 u1 u2 : Value) :
    (w.setCell ⟨b, 0, none⟩ u0).cell? ⟨b, 0, none⟩ = some u0 ∧ ((w.setCell ⟨b, 0, none⟩ u0).setCell ⟨b, 1, none⟩ u1).cell? ⟨b, 1, none⟩ = some u1 ∧
      (((w.setCell ⟨b, 0, none⟩ u0).setCell ⟨b, 1, none⟩ u1).setCell ⟨b, 2, none⟩ u2).cell? ⟨b, 2, none⟩ = some u2 := by
  refine ⟨?_, ?_, ?_⟩
  · simpa using (h.set 0 u0).cell 0
  · simpa using ((h.set 0 u0).set 1 u1).cell 1
  · simpa using (((h.set 0 u0).set 1 u1).set 2 u2).cell 2

set_option maxHeartbeats 1000000 in
theorem spotAt_any (p : Option Addr) (cap : Nat) (l : List Bd) (x : Int) (w : World) (hN : l.length ≤ 5000) (hL : At3 w p l) (hok : ∀ b ∈ l, okB b = true) :
    Calls Try.prog 43 #[.slice p l.length cap, .int .i64 x] w fun e w' => e = .returned (.agg #[.int .i64 x, .int .i64 (dem l x), .int .i64 (sup l x)]) ∧ Adds w w' := by
  obtain ⟨N, hNl⟩ : ∃ N, N = l.length := ⟨_, rfl⟩
  rw [← hNl] at hN ⊢
  have HL := Lib.hid hL
  have HO := Lib.hid hok
  have HN := Lib.hid hNl
  clear hL hok hNl
  go_enter Try.func43, Try.ntmps43
  go_wp2
  have B0 : Box ((w.alloc (.cells #[.int .i64 0, .int .i64 0, .int .i64 0] 80)).alloc (.cells #[.int .i64 x, .int .i64 0, .int .i64 0] 80)) w.heap.size #[.int .i64 0, .int .i64 0, .int .i64 0] 80 := (Box.new w _ _).alloc _
  have B1 : Box ((w.alloc (.cells #[.int .i64 0, .int .i64 0, .int .i64 0] 80)).alloc (.cells #[.int .i64 x, .int .i64 0, .int .i64 0] 80)) (w.heap.size + 1) #[.int .i64 x, .int .i64 0, .int .i64 0] 80 := by
    have := Box.new (w.alloc (.cells #[.int .i64 0, .int .i64 0, .int .i64 0] 80)) #[.int .i64 x, .int .i64 0, .int .i64 0] 80
    simpa using this
  have HB0 := Lib.hid B0
  have HB1 := Lib.hid B1
  clear B0 B1
  go_loopw [12] (fun i wr => ∃ k : Nat, k ≤ N ∧ i = .int .i64 k ∧ Box wr w.heap.size #[.int .i64 0, .int .i64 0, .int .i64 0] 80 ∧ Box wr (w.heap.size + 1) #[.int .i64 x, .int .i64 (dem (l.take k) x), .int .i64 (sup (l.take k) x)] 80 ∧ Adds w wr) (fun i _ => N - (intOf i).toNat)
  case atStart => exact ⟨0, by omega, rfl, HB0.out, HB1.out, ((Adds.refl w).alloc _).alloc _⟩
  case round =>
    obtain ⟨k, hk, rfl, b0, b1, hb⟩ := hrel
    by_cases hlt : k < N
    · obtain ⟨⟨s, pp, q⟩, hb3⟩ : ∃ t, l[k]? = some t := ⟨_, List.getElem?_eq_getElem (by have := HN.out; omega)⟩
      obtain ⟨g, off, rfl, d0, d1, d2⟩ := HL.out k _ hb3
      have c0 := keep_cell hb d0
      have c1 := keep_cell hb d1
      have c2 := keep_cell hb d2
      have hv := okB_iff.1 (HO.out _ (List.mem_of_getElem? hb3))
      have hd := dem_bd x _ (ok_take HO.out k)
      have hs := sup_bd x _ (ok_take HO.out k)
      have hlk : (l.take k).length ≤ 5000 := by have := List.length_take_le k l; omega
      have z := b1.lt
      simp only at hv c0 c1 c2
      obtain ⟨hs1, hp1, hq1, hq2⟩ := hv
      have HD : Hid (dem (l.take (k + 1)) x = dem (l.take k) x + if s = 1 ∧ x ≤ pp then q else 0) := Lib.hid (by rw [take_next hb3, dem_next])
      have HS : Hid (sup (l.take (k + 1)) x = sup (l.take k) x + if s = 2 ∧ pp ≤ x then q else 0) := Lib.hid (by rw [take_next hb3, sup_next])
      generalize dem (l.take k) x = dd at *
      generalize sup (l.take k) x = ss at *
      have hdd : dd ≤ 5000000000000 := by omega
      have hss : ss ≤ 5000000000000 := by omega
      have HB0 := Lib.hid b0
      have HB1 := Lib.hid b1
      clear d0 d1 d2 hb3 b0 b1
      cases ht : takesB (s, pp, q) x with
      | true =>
        have hcall : ∀ W, Calls Try.prog 57 #[.agg #[.int .i64 s, .int .i64 pp, .int .i64 q], .int .i64 x] W fun e w' => e = .returned (.bool true) ∧ Adds W w' := fun W => by rw [← ht]; exact takes_any s pp q x W
        have HT := Lib.hid ht
        clear ht
        rcases hs1 with rfl | rfl
        · have hle : x ≤ pp := by simpa [takesB] using HT.out
          go_wp2_with (go_at_call 57; refine (hcall _).mono ?_; rintro e w1 ⟨rfl, hb1⟩; have C1 := (HB1.out.alloc _).later hb1; have C0 := (HB0.out.alloc _).later hb1; have x0 := keep_cell hb1 ((Box.new wr #[.int .i64 1, .int .i64 pp, .int .i64 q] 75).cell 0); have x2 := keep_cell hb1 ((Box.new wr #[.int .i64 1, .int .i64 pp, .int .i64 q] 75).cell 2); have y1 := C1.cell 1; have y2 := C1.free 1; have y3 := C1.cell 2; have y4 := C1.free 2; simp only [List.getElem?_toArray, List.getElem?_cons_zero, List.getElem?_cons_succ] at x0 x2 y1 y3)
          refine ⟨⟨k + 1, by omega, by go_num, C0.far (by simp) _, ?_, (((hb.alloc _).trans hb1).set (by simp) _)⟩, by simp [intOf]; omega⟩
          have := C1.set 1 (.int .i64 (dd + q))
          rw [HD.out, HS.out, if_pos (by simpa using hle), if_neg (by omega), Int.add_zero]
          simpa using this
        · have hle : pp ≤ x := by simpa [takesB] using HT.out
          go_wp2_with (go_at_call 57; refine (hcall _).mono ?_; rintro e w1 ⟨rfl, hb1⟩; have C1 := (HB1.out.alloc _).later hb1; have C0 := (HB0.out.alloc _).later hb1; have x0 := keep_cell hb1 ((Box.new wr #[.int .i64 2, .int .i64 pp, .int .i64 q] 75).cell 0); have x2 := keep_cell hb1 ((Box.new wr #[.int .i64 2, .int .i64 pp, .int .i64 q] 75).cell 2); have y1 := C1.cell 1; have y2 := C1.free 1; have y3 := C1.cell 2; have y4 := C1.free 2; simp only [List.getElem?_toArray, List.getElem?_cons_zero, List.getElem?_cons_succ] at x0 x2 y1 y3)
          refine ⟨⟨k + 1, by omega, by go_num, C0.far (by simp) _, ?_, (((hb.alloc _).trans hb1).set (by simp) _)⟩, by simp [intOf]; omega⟩
          have := C1.set 2 (.int .i64 (ss + q))
          rw [HD.out, HS.out, if_neg (by omega), if_pos (by simpa using hle), Int.add_zero]
          simpa using this
      | false =>
        have hcall : ∀ W, Calls Try.prog 57 #[.agg #[.int .i64 s, .int .i64 pp, .int .i64 q], .int .i64 x] W fun e w' => e = .returned (.bool false) ∧ Adds W w' := fun W => by rw [← ht]; exact takes_any s pp q x W
        have hn1 : ¬ (s = 1 ∧ x ≤ pp) := fun h => by simp [takesB, h.1, h.2] at ht
        have hn2 : ¬ (s = 2 ∧ pp ≤ x) := fun h => by simp [takesB, h.1, h.2] at ht
        rw [if_neg hn1, Int.add_zero] at HD
        rw [if_neg hn2, Int.add_zero] at HS
        clear ht hn1 hn2
        go_wp2_with (go_at_call 57; refine (hcall _).mono ?_; rintro e w1 ⟨rfl, hb1⟩)
        exact ⟨⟨k + 1, by omega, by go_num, (HB0.out.alloc _).later hb1, by rw [HD.out, HS.out]; exact (HB1.out.alloc _).later hb1, (hb.alloc _).trans hb1⟩, by simp [intOf]; omega⟩
    · have hkN : k = N := by omega
      have HE := Lib.hid hkN
      have HB0 := Lib.hid b0
      have HB1 := Lib.hid b1
      have x0 := b1.cell 0
      have x1 := b1.cell 1
      have x2 := b1.cell 2
      have y0 := b0.cell 0
      have y1 := b0.cell 1
      have y2 := b0.cell 2
      have f0 := b0.free 0
      have f1 := b0.free 1
      have f2 := b0.free 2
      simp only [List.getElem?_toArray, List.getElem?_cons_zero, List.getElem?_cons_succ] at x0 x1 x2 y0 y1 y2
      have hfin : l.take k = l := List.take_of_length_le (by have := HN.out; omega)
      have z := b1.lt
      clear hkN b0 b1
      rw [hfin] at x1 x2
      clear hfin
      go_wp2
      refine bodyPost_ret (v := .agg #[.int .i64 x, .int .i64 (dem l x), .int .i64 (sup l x)]) ?_ rfl ⟨rfl, ?_⟩
      · obtain ⟨q0, q1, q2⟩ := HB0.out.put3 (.int .i64 x) (.int .i64 (dem l x)) (.int .i64 (sup l x))
        simp [results, Try.results43, go_sem, q0, q1, q2]
      · exact ((hb.set (by simp) _).set (by simp) _).set (by simp) _
end Go.Proofs.Ytigpghmbeldakaa
