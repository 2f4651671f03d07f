/- swapRange and rotate of the library's stable sort, at a row of numbers. -/
import Derived.Test.YtigpghmbeldakaaAW
import Derived.BigRegion
import Derived.RegionTactic
namespace Go.Proofs.Ytigpghmbeldakaa
open Go.RowKit

/-- What a call leaves that only changes the row g. -/
def SwapGot (g cap : Nat) (ns' : List Int) (w : World) (e : Ending) (w' : World) : Prop := e = .returned (.tuple #[]) ∧ RowI 3 .i64 w' g cap ns' ∧ Touch (fun k => k = g) w w'

theorem RowI.drew {t : TypeId} {k : IntKind} {w : World} {g cap : Nat} {l : List Int} (h : RowI t k w g cap l) : RowI t k w.drew g cap l := h
theorem RowI.drewN {t : TypeId} {k : IntKind} {w : World} {g cap : Nat} {l : List Int} (h : RowI t k w g cap l) (q : Nat) : RowI t k (w.drewN q) g cap l := h
theorem Touch.drew {O : Nat → Prop} {a b : World} (h : Touch O a b) : Touch O a b.drew := h.behind ((Adds.refl b).drew)
theorem Touch.drewN {O : Nat → Prop} {a b : World} (h : Touch O a b) (q : Nat) : Touch O a (b.drewN q) := h.behind ((Adds.refl b).drewN q)

set_option maxRecDepth 100000 in
set_option maxHeartbeats 2000000 in
theorem swapRange_any (g cap : Nat) (A X C Y B : List Int) (n a b N : Nat) (fv : Value) (w : World) (hx : X.length = n) (hy : Y.length = n) (ha : a = A.length) (hb : b = A.length + X.length + C.length)
    (hN : N = (A ++ (X ++ (C ++ (Y ++ B)))).length) (hNb : N ≤ 5000) (hr : RowI 3 .i64 w g cap (A ++ (X ++ (C ++ (Y ++ B))))) :
    Calls Try.prog 121 #[.slice (some ⟨g, 0, none⟩) N cap, .int .i64 a, .int .i64 b, .int .i64 n, fv] w (SwapGot g cap (A ++ (Y ++ (C ++ (X ++ B)))) w) := by
  have HX := Lib.hid hx
  have HY := Lib.hid hy
  have HA := Lib.hid ha
  have HB := Lib.hid hb
  have HN := Lib.hid hN
  have HR := Lib.hid hr
  have hb1 : b + n ≤ N := by rw [hN, hb]; simp only [List.length_append]; omega
  have hab : a + n ≤ b := by omega
  clear hx hy ha hb hN hr
  go_enter Try.func121, Try.ntmps121
  go_wp2
  go_loopw [10] (fun i wr => ∃ k : Nat, k ≤ n ∧ i = .int .i64 k ∧ Hid (RowI 3 .i64 wr g cap (swapK A X C Y B k)) ∧ Hid (Touch (fun j => j = g) w wr)) (fun i _ => n - (intOf i).toNat)
  case atStart => exact ⟨0, by omega, rfl, Lib.hid (by rw [swapK_zero]; exact HR.out), Lib.hid (Touch.refl _ _)⟩
  case round =>
    obtain ⟨k, hk, rfl, hrow, ht⟩ := hrel
    by_cases hlt : k < n
    · obtain ⟨x, y, e1, e2, e3, e4⟩ := swapK_next (B := B) (C := C) (A := A) HX.out HY.out hlt
      rw [← HB.out] at e2 e3 e4
      rw [← HA.out] at e1 e3 e4
      obtain ⟨p, hp⟩ : ∃ p, p = a + k := ⟨_, rfl⟩
      obtain ⟨q, hq⟩ : ∃ q, q = b + k := ⟨_, rfl⟩
      have hpi : (a : Int) + (k : Int) = (p : Int) := by omega
      have hqi : (b : Int) + (k : Int) = (q : Int) := by omega
      rw [← hp] at e1 e3 e4
      rw [← hq] at e2 e3 e4
      have c1 := hrow.out.cell e1
      have c2 := hrow.out.cell e2
      have f1 := hrow.out.free p
      have f2 := hrow.out.free q
      have R1 : Hid (RowI 3 .i64 ((wr.setCell ⟨g, p, none⟩ (.int .i64 y)).setCell ⟨g, q, none⟩ (.int .i64 x)) g cap (swapK A X C Y B (k + 1))) := Lib.hid (by have := (hrow.out.put p y).put q x; rw [e3] at this; exact this)
      have R2 : Hid (RowI 3 .i64 ((wr.setCell ⟨g, q, none⟩ (.int .i64 x)).setCell ⟨g, p, none⟩ (.int .i64 y)) g cap (swapK A X C Y B (k + 1))) := Lib.hid (by have := (hrow.out.put q x).put p y; rw [e4] at this; exact this)
      have hpN : (p : Int) < (N : Int) := by omega
      have hqN : (q : Int) < (N : Int) := by omega
      have hpq : p < q := by omega
      have hm : n - (k + 1) < n - k := by omega
      clear e1 e2 e3 e4 hp hq hrow
      go_wp2_with fail
      go_region
      go_wp2
      go_roundw
      case rel => exact ⟨k + 1, by omega, by go_num, by first | exact R1 | exact R2, Lib.hid (((ht.out.set rfl _).set rfl _).drew)⟩
      case measure => simp [intOf]; omega
    · have hkn : k = n := by omega
      subst hkn
      have HE : Hid (RowI 3 .i64 wr g cap (A ++ (Y ++ (C ++ (X ++ B))))) := Lib.hid (by have := hrow.out; rw [swapK_all HX.out HY.out] at this; exact this)
      go_wp2
      go_end0
      exact ⟨rfl, HE.out, ht.out⟩

/-- A rotation under way. -/
structure Rot (g cap m : Nat) (T : List Int) (w : World) (i j : Nat) (A X Y B : List Int) : Prop where
  x : X.length = i
  y : Y.length = j
  a : A.length + i = m
  t : A ++ (Y ++ (X ++ B)) = T
  r : RowI 3 .i64 w g cap (A ++ (X ++ (Y ++ B)))

set_option maxRecDepth 100000 in
set_option maxHeartbeats 2000000 in
theorem rotate_any (g cap : Nat) (A X Y B : List Int) (a m b N : Nat) (fv : Value) (w : World) (hx : 0 < X.length) (hy : 0 < Y.length) (ha : a = A.length) (hm : m = a + X.length) (hb : b = m + Y.length)
    (hN : N = (A ++ (X ++ (Y ++ B))).length) (hNb : N ≤ 5000) (hr : RowI 3 .i64 w g cap (A ++ (X ++ (Y ++ B)))) :
    Calls Try.prog 115 #[.slice (some ⟨g, 0, none⟩) N cap, .int .i64 a, .int .i64 m, .int .i64 b, fv] w (SwapGot g cap (A ++ (Y ++ (X ++ B))) w) := by
  obtain ⟨i0, hi0⟩ : ∃ i0, i0 = X.length := ⟨_, rfl⟩
  obtain ⟨j0, hj0⟩ : ∃ j0, j0 = Y.length := ⟨_, rfl⟩
  obtain ⟨T, hT⟩ : ∃ T, T = A ++ (Y ++ (X ++ B)) := ⟨_, rfl⟩
  have HT := Lib.hid hT
  have hNT : N = T.length := by rw [hT, hN]; simp only [List.length_append]; omega
  have HNT := Lib.hid hNT
  have h0 : Hid (Rot g cap m T w i0 j0 A X Y B) := Lib.hid ⟨hi0.symm, hj0.symm, by omega, hT.symm, hr⟩
  have hb1 : b ≤ N := by rw [hN]; simp only [List.length_append]; omega
  have e1 : (m : Int) - (a : Int) = (i0 : Int) := by omega
  have e2 : (b : Int) - (m : Int) = (j0 : Int) := by omega
  have hip : 0 < i0 := by omega
  have hjp : 0 < j0 := by omega
  have him : i0 ≤ m := by omega
  have hjm : m + j0 ≤ N := by omega
  have hmN : m ≤ 5000 := by omega
  rw [← hT]
  clear hx hy ha hm hN hr hi0 hj0 hT hb hNT
  have haN : a ≤ 5000 := by omega
  go_enter Try.func115, Try.ntmps115
  go_wp2
  go_loopw [10, 11] (fun v10 v11 wr => ∃ (i j : Nat) (A' X' Y' B' : List Int), v10 = .int .i64 i ∧ v11 = .int .i64 j ∧ 0 < i ∧ 0 < j ∧ i ≤ m ∧ m + j ≤ N ∧ Hid (Rot g cap m T wr i j A' X' Y' B') ∧ Hid (Touch (fun z => z = g) w wr)) (fun v10 v11 _ => (intOf v10).toNat + (intOf v11).toNat)
  case atStart => exact ⟨i0, j0, A, X, Y, B, rfl, rfl, hip, hjp, him, hjm, h0, Lib.hid (Touch.refl _ _)⟩
  case round =>
    obtain ⟨i, j, A', X', Y', B', rfl, rfl, hi, hj, him', hjm', hrot, ht⟩ := hrel
    clear e1 e2 hip hjp him hjm h0 hb1
    obtain ⟨p, hp⟩ : ∃ p, p = m - i := ⟨_, rfl⟩
    have hpi : (m : Int) - (i : Int) = (p : Int) := by omega
    rcases Nat.lt_trichotomy i j with hlt | heq | hgt
    · obtain ⟨q, hq⟩ : ∃ q, q = m + j - i := ⟨_, rfl⟩
      obtain ⟨j', hj'⟩ : ∃ j', j' = j - i := ⟨_, rfl⟩
      have hqi : (m : Int) + (j : Int) - (i : Int) = (q : Int) := by omega
      have hji : (j : Int) - (i : Int) = (j' : Int) := by omega
      have hc : Calls Try.prog 121 #[.slice (some ⟨g, 0, none⟩) N cap, .int .i64 p, .int .i64 q, .int .i64 i, fv] wr (SwapGot g cap (A' ++ (Y'.drop j' ++ (Y'.take j' ++ (X' ++ B')))) wr) := by
        have x1 := hrot.out.x
        have y1 := hrot.out.y
        have a1 := hrot.out.a
        refine swapRange_any g cap A' X' (Y'.take j') (Y'.drop j') B' i p q N fv wr x1 (by rw [List.length_drop]; omega) (by omega) (by rw [List.length_take]; omega) ?_ hNb ?_
        · rw [HNT.out, ← hrot.out.t]
          simp only [List.length_append, List.length_take, List.length_drop]
          omega
        · have := hrot.out.r
          rw [← List.take_append_drop j' Y', List.append_assoc] at this
          exact this
      have HC := Lib.hid hc
      have hne : ((i : Int) == (j : Int)) = false := beq_eq_false_iff_ne.2 (by omega)
      have hne2 : (i == j) = false := beq_eq_false_iff_ne.2 (by omega)
      have hle : ¬ j < i := by omega
      clear hc hp hq
      go_wp2_with (go_at_call 121; refine HC.out.mono ?_; rintro e w1 ⟨rfl, hr1, ht1⟩; have HR1 := Lib.hid hr1; have HT1 := Lib.hid ht1; clear hr1 ht1)
      go_roundw
      case rel =>
        have x1 := hrot.out.x
        have y1 := hrot.out.y
        refine ⟨i, j', A', Y'.drop j', Y'.take j', X' ++ B', rfl, by rw [hj'], hi, by omega, him', by omega, Lib.hid ⟨by rw [List.length_drop]; omega, by rw [List.length_take]; omega, hrot.out.a, ?_, ?_⟩, Lib.hid (ht.out.trans HT1.out)⟩
        · rw [← hrot.out.t]
          conv => rhs; rw [← List.take_append_drop j' Y']
          simp only [List.append_assoc]
        · have := HR1.out
          simpa only [List.append_assoc] using this
      case measure => simp [intOf]; omega
    · subst heq
      have hc : Calls Try.prog 121 #[.slice (some ⟨g, 0, none⟩) N cap, .int .i64 p, .int .i64 m, .int .i64 i, fv] wr (SwapGot g cap (A' ++ (Y' ++ ([] ++ (X' ++ B')))) wr) := by
        have x1 := hrot.out.x
        have y1 := hrot.out.y
        have a1 := hrot.out.a
        refine swapRange_any g cap A' X' [] Y' B' i p m N fv wr x1 y1 (by omega) (by simp; omega) ?_ hNb ?_
        · rw [HNT.out, ← hrot.out.t]
          simp only [List.length_append, List.length_nil]
          omega
        · have := hrot.out.r
          simpa using this
      have HC := Lib.hid hc
      clear hc hp
      go_wp2_with (go_at_call 121; refine HC.out.mono ?_; rintro e w1 ⟨rfl, hr1, ht1⟩; have HR1 := Lib.hid hr1; have HT1 := Lib.hid ht1; clear hr1 ht1)
      go_end0
      exact ⟨rfl, by have := HR1.out; rw [List.nil_append, hrot.out.t] at this; exact this, ht.out.trans HT1.out⟩
    · obtain ⟨i', hi'⟩ : ∃ i', i' = i - j := ⟨_, rfl⟩
      have hii : (i : Int) - (j : Int) = (i' : Int) := by omega
      have hc : Calls Try.prog 121 #[.slice (some ⟨g, 0, none⟩) N cap, .int .i64 p, .int .i64 m, .int .i64 j, fv] wr (SwapGot g cap (A' ++ (Y' ++ (X'.drop j ++ (X'.take j ++ B')))) wr) := by
        have x1 := hrot.out.x
        have y1 := hrot.out.y
        have a1 := hrot.out.a
        refine swapRange_any g cap A' (X'.take j) (X'.drop j) Y' B' j p m N fv wr (by rw [List.length_take]; omega) y1 (by omega) (by rw [List.length_take, List.length_drop]; omega) ?_ hNb ?_
        · rw [HNT.out, ← hrot.out.t]
          simp only [List.length_append, List.length_take, List.length_drop]
          omega
        · have := hrot.out.r
          rw [← List.take_append_drop j X', List.append_assoc] at this
          exact this
      have HC := Lib.hid hc
      have hne : ((i : Int) == (j : Int)) = false := beq_eq_false_iff_ne.2 (by omega)
      have hne2 : (i == j) = false := beq_eq_false_iff_ne.2 (by omega)
      clear hc hp
      go_wp2_with (go_at_call 121; refine HC.out.mono ?_; rintro e w1 ⟨rfl, hr1, ht1⟩; have HR1 := Lib.hid hr1; have HT1 := Lib.hid ht1; clear hr1 ht1)
      go_roundw
      case rel =>
        have x1 := hrot.out.x
        have y1 := hrot.out.y
        have a1 := hrot.out.a
        refine ⟨i', j, A' ++ Y', X'.drop j, X'.take j, B', by rw [hi'], rfl, by omega, hj, by omega, hjm', Lib.hid ⟨by rw [List.length_drop]; omega, by rw [List.length_take]; omega, by rw [List.length_append]; omega, ?_, ?_⟩, Lib.hid (ht.out.trans HT1.out)⟩
        · rw [← hrot.out.t]
          conv => rhs; rw [← List.take_append_drop j X']
          simp only [List.append_assoc]
        · have := HR1.out
          simpa only [List.append_assoc] using this
      case measure => simp [intOf]; omega

end Go.Proofs.Ytigpghmbeldakaa
