/- checkContract: the last cases. -/
import Derived.Test.YtmkpidipoadnbaaW19
namespace Go.Proofs.Ytmkpidipoadnbaa
open Go Go.RowKit Go.Sort

section
variable {w : World} {base b ga ca cm ck : Nat} {pm pk : Option Addr} {h : Hs}
set_option maxRecDepth 100000 in
set_option maxHeartbeats 2000000 in
theorem check_7 (hh : HouseAt w base b ga ca pm cm pk ck h) (bu se mo q pr : Int) (b1 : inB bu 1 h.ac.length = true) (b2 : inB se 1 h.ac.length = true) (b3 : belowB mo h.months = true) (hne : (bu == se) = false) (b4 : inB q 1 1000000 = true) (b5 : inB pr 1 1000000 = true) (hn : h.ac.length ≤ 64) (i j : Nat) (a1 a2 : Ac) (e1 : bu = (i : Int) + 1) (e2 : se = (j : Int) + 1) (g1 : h.ac[i]? = some a1) (g2 : h.ac[j]? = some a2) (o1 : a1.out = true) : CheckTo (.pointer (some ⟨b, 0, none⟩)) bu se mo q pr w 5 := by
  have HB := Lib.hid (fun x W (hW : Adds w W) => member_any b h.ac.length ca _ x W (hh.later hW).c0)
  have HM := Lib.hid (fun W (hW : Adds w W) => month_any b h.months mo W (hh.later hW).c1)
  have HQ := Lib.hid (fun W => within_any q 1 1000000 W)
  have HP := Lib.hid (fun W => price_any pr W)
  rw [b3] at HM
  rw [b4] at HQ
  rw [b5] at HP
  unfold CheckTo ktV
  have HC := Lib.hid (fun W (hW : Adds w W) => (hh.later hW).c0)
  have HO1 := Lib.hid (fun W (hW : Adds w W) => (hh.later hW).acc g1 14 _ (encA_out a1))
  have HO2 := Lib.hid (fun W (hW : Adds w W) => (hh.later hW).acc g2 14 _ (encA_out a2))
  rw [o1] at HO1
  have i0 := (List.getElem?_eq_some_iff.1 g1).1
  have j0 := (List.getElem?_eq_some_iff.1 g2).1
  subst e1 e2
  have i1 : (i : Int) + 1 - 1 = i := by omega
  have i2 : (0 : Int) ≤ (i : Int) := by omega
  have i3 : (i : Int) < (h.ac.length : Int) := by omega
  have j1 : (j : Int) + 1 - 1 = j := by omega
  have j2 : (0 : Int) ≤ (j : Int) := by omega
  have j3 : (j : Int) < (h.ac.length : Int) := by omega
  generalize h.ac.length = n at *
  clear g1 g2 o1
  clear hh b3 b4 b5
  go_enter Try.func23, Try.ntmps23
  go_upto_region 3 with fail
  have k0 := Box.new w #[.int .i64 ((i : Int) + 1), .int .i64 ((j : Int) + 1), .int .i64 mo, .int .i64 q, .int .i64 pr] 42
  have hA : Adds w (w.alloc (.cells #[.int .i64 ((i : Int) + 1), .int .i64 ((j : Int) + 1), .int .i64 mo, .int .i64 q, .int .i64 pr] 42)) := (Adds.refl w).alloc _
  obtain ⟨W, hW⟩ : ∃ V, V = w.alloc (.cells #[.int .i64 ((i : Int) + 1), .int .i64 ((j : Int) + 1), .int .i64 mo, .int .i64 q, .int .i64 pr] 42) := ⟨_, rfl⟩
  rw [← hW] at k0 hA ⊢
  obtain ⟨s, hs⟩ : ∃ s, s = w.heap.size := ⟨_, rfl⟩
  rw [← hs] at k0 ⊢
  have HA := Lib.hid hA
  have d0 : W.cell? ⟨s, 0, none⟩ = some (.int .i64 ((i : Int) + 1)) := k0.cell 0
  have d1 : W.cell? ⟨s, 1, none⟩ = some (.int .i64 ((j : Int) + 1)) := k0.cell 1
  have d2 : W.cell? ⟨s, 2, none⟩ = some (.int .i64 mo) := k0.cell 2
  have d3 : W.cell? ⟨s, 3, none⟩ = some (.int .i64 q) := k0.cell 3
  have d4 : W.cell? ⟨s, 4, none⟩ = some (.int .i64 pr) := k0.cell 4
  clear hW hs k0 hA
  go_wp2_with (first
    | (go_at_call 38; refine (HB.out _ _ HA.out).mono ?_; rintro e w1 ⟨rfl, ha⟩; (try simp only [b1, b2]); replace d0 := keep_cell ha d0; replace d1 := keep_cell ha d1; replace d2 := keep_cell ha d2; replace d3 := keep_cell ha d3; replace d4 := keep_cell ha d4; have HA' := Lib.hid (HA.out.trans ha); clear HA ha; have HA := HA'; clear HA')
    | (go_at_call 26; refine (HM.out _ HA.out).mono ?_; rintro e w1 ⟨rfl, ha⟩; replace d0 := keep_cell ha d0; replace d1 := keep_cell ha d1; replace d2 := keep_cell ha d2; replace d3 := keep_cell ha d3; replace d4 := keep_cell ha d4; have HA' := Lib.hid (HA.out.trans ha); clear HA ha; have HA := HA'; clear HA')
    | (go_at_call 35; refine (HQ.out _).mono ?_; rintro e w1 ⟨rfl, ha⟩; replace d0 := keep_cell ha d0; replace d1 := keep_cell ha d1; replace d2 := keep_cell ha d2; replace d3 := keep_cell ha d3; replace d4 := keep_cell ha d4; have HA' := Lib.hid (HA.out.trans ha); clear HA ha; have HA := HA'; clear HA')
    | (go_at_call 27; refine (HP.out _).mono ?_; rintro e w1 ⟨rfl, ha⟩; replace d0 := keep_cell ha d0; replace d1 := keep_cell ha d1; replace d2 := keep_cell ha d2; replace d3 := keep_cell ha d3; replace d4 := keep_cell ha d4; have HA' := Lib.hid (HA.out.trans ha); clear HA ha; have HA := HA'; clear HA'))
  have c0 := HC.out _ HA.out
  have c1 := HO1.out _ HA.out
  have c2 := HO2.out _ HA.out
  go_quiet (fail)
  go_wp2
  go_ret
  exact ⟨rfl, HA.out.drewN _⟩

set_option maxRecDepth 100000 in
set_option maxHeartbeats 2000000 in
theorem check_8 (hh : HouseAt w base b ga ca pm cm pk ck h) (bu se mo q pr : Int) (b1 : inB bu 1 h.ac.length = true) (b2 : inB se 1 h.ac.length = true) (b3 : belowB mo h.months = true) (hne : (bu == se) = false) (b4 : inB q 1 1000000 = true) (b5 : inB pr 1 1000000 = true) (hn : h.ac.length ≤ 64) (i j : Nat) (a1 a2 : Ac) (e1 : bu = (i : Int) + 1) (e2 : se = (j : Int) + 1) (g1 : h.ac[i]? = some a1) (g2 : h.ac[j]? = some a2) (o1 : a1.out = false) (o2 : a2.out = true) : CheckTo (.pointer (some ⟨b, 0, none⟩)) bu se mo q pr w 5 := by
  have HB := Lib.hid (fun x W (hW : Adds w W) => member_any b h.ac.length ca _ x W (hh.later hW).c0)
  have HM := Lib.hid (fun W (hW : Adds w W) => month_any b h.months mo W (hh.later hW).c1)
  have HQ := Lib.hid (fun W => within_any q 1 1000000 W)
  have HP := Lib.hid (fun W => price_any pr W)
  rw [b3] at HM
  rw [b4] at HQ
  rw [b5] at HP
  unfold CheckTo ktV
  have HC := Lib.hid (fun W (hW : Adds w W) => (hh.later hW).c0)
  have HO1 := Lib.hid (fun W (hW : Adds w W) => (hh.later hW).acc g1 14 _ (encA_out a1))
  have HO2 := Lib.hid (fun W (hW : Adds w W) => (hh.later hW).acc g2 14 _ (encA_out a2))
  rw [o1] at HO1
  rw [o2] at HO2
  have i0 := (List.getElem?_eq_some_iff.1 g1).1
  have j0 := (List.getElem?_eq_some_iff.1 g2).1
  subst e1 e2
  have i1 : (i : Int) + 1 - 1 = i := by omega
  have i2 : (0 : Int) ≤ (i : Int) := by omega
  have i3 : (i : Int) < (h.ac.length : Int) := by omega
  have j1 : (j : Int) + 1 - 1 = j := by omega
  have j2 : (0 : Int) ≤ (j : Int) := by omega
  have j3 : (j : Int) < (h.ac.length : Int) := by omega
  generalize h.ac.length = n at *
  clear g1 g2 o1 o2
  clear hh b3 b4 b5
  go_enter Try.func23, Try.ntmps23
  go_upto_region 3 with fail
  have k0 := Box.new w #[.int .i64 ((i : Int) + 1), .int .i64 ((j : Int) + 1), .int .i64 mo, .int .i64 q, .int .i64 pr] 42
  have hA : Adds w (w.alloc (.cells #[.int .i64 ((i : Int) + 1), .int .i64 ((j : Int) + 1), .int .i64 mo, .int .i64 q, .int .i64 pr] 42)) := (Adds.refl w).alloc _
  obtain ⟨W, hW⟩ : ∃ V, V = w.alloc (.cells #[.int .i64 ((i : Int) + 1), .int .i64 ((j : Int) + 1), .int .i64 mo, .int .i64 q, .int .i64 pr] 42) := ⟨_, rfl⟩
  rw [← hW] at k0 hA ⊢
  obtain ⟨s, hs⟩ : ∃ s, s = w.heap.size := ⟨_, rfl⟩
  rw [← hs] at k0 ⊢
  have HA := Lib.hid hA
  have d0 : W.cell? ⟨s, 0, none⟩ = some (.int .i64 ((i : Int) + 1)) := k0.cell 0
  have d1 : W.cell? ⟨s, 1, none⟩ = some (.int .i64 ((j : Int) + 1)) := k0.cell 1
  have d2 : W.cell? ⟨s, 2, none⟩ = some (.int .i64 mo) := k0.cell 2
  have d3 : W.cell? ⟨s, 3, none⟩ = some (.int .i64 q) := k0.cell 3
  have d4 : W.cell? ⟨s, 4, none⟩ = some (.int .i64 pr) := k0.cell 4
  clear hW hs k0 hA
  go_wp2_with (first
    | (go_at_call 38; refine (HB.out _ _ HA.out).mono ?_; rintro e w1 ⟨rfl, ha⟩; (try simp only [b1, b2]); replace d0 := keep_cell ha d0; replace d1 := keep_cell ha d1; replace d2 := keep_cell ha d2; replace d3 := keep_cell ha d3; replace d4 := keep_cell ha d4; have HA' := Lib.hid (HA.out.trans ha); clear HA ha; have HA := HA'; clear HA')
    | (go_at_call 26; refine (HM.out _ HA.out).mono ?_; rintro e w1 ⟨rfl, ha⟩; replace d0 := keep_cell ha d0; replace d1 := keep_cell ha d1; replace d2 := keep_cell ha d2; replace d3 := keep_cell ha d3; replace d4 := keep_cell ha d4; have HA' := Lib.hid (HA.out.trans ha); clear HA ha; have HA := HA'; clear HA')
    | (go_at_call 35; refine (HQ.out _).mono ?_; rintro e w1 ⟨rfl, ha⟩; replace d0 := keep_cell ha d0; replace d1 := keep_cell ha d1; replace d2 := keep_cell ha d2; replace d3 := keep_cell ha d3; replace d4 := keep_cell ha d4; have HA' := Lib.hid (HA.out.trans ha); clear HA ha; have HA := HA'; clear HA')
    | (go_at_call 27; refine (HP.out _).mono ?_; rintro e w1 ⟨rfl, ha⟩; replace d0 := keep_cell ha d0; replace d1 := keep_cell ha d1; replace d2 := keep_cell ha d2; replace d3 := keep_cell ha d3; replace d4 := keep_cell ha d4; have HA' := Lib.hid (HA.out.trans ha); clear HA ha; have HA := HA'; clear HA'))
  have c0 := HC.out _ HA.out
  have c1 := HO1.out _ HA.out
  have c2 := HO2.out _ HA.out
  go_quiet (fail)
  go_wp2
  go_ret
  exact ⟨rfl, HA.out.drewN _⟩

set_option maxRecDepth 100000 in
set_option maxHeartbeats 2000000 in
theorem check_0 (hh : HouseAt w base b ga ca pm cm pk ck h) (bu se mo q pr : Int) (b1 : inB bu 1 h.ac.length = true) (b2 : inB se 1 h.ac.length = true) (b3 : belowB mo h.months = true) (hne : (bu == se) = false) (b4 : inB q 1 1000000 = true) (b5 : inB pr 1 1000000 = true) (hn : h.ac.length ≤ 64) (i j : Nat) (a1 a2 : Ac) (e1 : bu = (i : Int) + 1) (e2 : se = (j : Int) + 1) (g1 : h.ac[i]? = some a1) (g2 : h.ac[j]? = some a2) (o1 : a1.out = false) (o2 : a2.out = false) : CheckTo (.pointer (some ⟨b, 0, none⟩)) bu se mo q pr w 0 := by
  have HB := Lib.hid (fun x W (hW : Adds w W) => member_any b h.ac.length ca _ x W (hh.later hW).c0)
  have HM := Lib.hid (fun W (hW : Adds w W) => month_any b h.months mo W (hh.later hW).c1)
  have HQ := Lib.hid (fun W => within_any q 1 1000000 W)
  have HP := Lib.hid (fun W => price_any pr W)
  rw [b3] at HM
  rw [b4] at HQ
  rw [b5] at HP
  unfold CheckTo ktV
  have HC := Lib.hid (fun W (hW : Adds w W) => (hh.later hW).c0)
  have HO1 := Lib.hid (fun W (hW : Adds w W) => (hh.later hW).acc g1 14 _ (encA_out a1))
  have HO2 := Lib.hid (fun W (hW : Adds w W) => (hh.later hW).acc g2 14 _ (encA_out a2))
  rw [o1] at HO1
  rw [o2] at HO2
  have i0 := (List.getElem?_eq_some_iff.1 g1).1
  have j0 := (List.getElem?_eq_some_iff.1 g2).1
  subst e1 e2
  have i1 : (i : Int) + 1 - 1 = i := by omega
  have i2 : (0 : Int) ≤ (i : Int) := by omega
  have i3 : (i : Int) < (h.ac.length : Int) := by omega
  have j1 : (j : Int) + 1 - 1 = j := by omega
  have j2 : (0 : Int) ≤ (j : Int) := by omega
  have j3 : (j : Int) < (h.ac.length : Int) := by omega
  generalize h.ac.length = n at *
  clear g1 g2 o1 o2
  clear hh b3 b4 b5
  go_enter Try.func23, Try.ntmps23
  go_upto_region 3 with fail
  have k0 := Box.new w #[.int .i64 ((i : Int) + 1), .int .i64 ((j : Int) + 1), .int .i64 mo, .int .i64 q, .int .i64 pr] 42
  have hA : Adds w (w.alloc (.cells #[.int .i64 ((i : Int) + 1), .int .i64 ((j : Int) + 1), .int .i64 mo, .int .i64 q, .int .i64 pr] 42)) := (Adds.refl w).alloc _
  obtain ⟨W, hW⟩ : ∃ V, V = w.alloc (.cells #[.int .i64 ((i : Int) + 1), .int .i64 ((j : Int) + 1), .int .i64 mo, .int .i64 q, .int .i64 pr] 42) := ⟨_, rfl⟩
  rw [← hW] at k0 hA ⊢
  obtain ⟨s, hs⟩ : ∃ s, s = w.heap.size := ⟨_, rfl⟩
  rw [← hs] at k0 ⊢
  have HA := Lib.hid hA
  have d0 : W.cell? ⟨s, 0, none⟩ = some (.int .i64 ((i : Int) + 1)) := k0.cell 0
  have d1 : W.cell? ⟨s, 1, none⟩ = some (.int .i64 ((j : Int) + 1)) := k0.cell 1
  have d2 : W.cell? ⟨s, 2, none⟩ = some (.int .i64 mo) := k0.cell 2
  have d3 : W.cell? ⟨s, 3, none⟩ = some (.int .i64 q) := k0.cell 3
  have d4 : W.cell? ⟨s, 4, none⟩ = some (.int .i64 pr) := k0.cell 4
  clear hW hs k0 hA
  go_wp2_with (first
    | (go_at_call 38; refine (HB.out _ _ HA.out).mono ?_; rintro e w1 ⟨rfl, ha⟩; (try simp only [b1, b2]); replace d0 := keep_cell ha d0; replace d1 := keep_cell ha d1; replace d2 := keep_cell ha d2; replace d3 := keep_cell ha d3; replace d4 := keep_cell ha d4; have HA' := Lib.hid (HA.out.trans ha); clear HA ha; have HA := HA'; clear HA')
    | (go_at_call 26; refine (HM.out _ HA.out).mono ?_; rintro e w1 ⟨rfl, ha⟩; replace d0 := keep_cell ha d0; replace d1 := keep_cell ha d1; replace d2 := keep_cell ha d2; replace d3 := keep_cell ha d3; replace d4 := keep_cell ha d4; have HA' := Lib.hid (HA.out.trans ha); clear HA ha; have HA := HA'; clear HA')
    | (go_at_call 35; refine (HQ.out _).mono ?_; rintro e w1 ⟨rfl, ha⟩; replace d0 := keep_cell ha d0; replace d1 := keep_cell ha d1; replace d2 := keep_cell ha d2; replace d3 := keep_cell ha d3; replace d4 := keep_cell ha d4; have HA' := Lib.hid (HA.out.trans ha); clear HA ha; have HA := HA'; clear HA')
    | (go_at_call 27; refine (HP.out _).mono ?_; rintro e w1 ⟨rfl, ha⟩; replace d0 := keep_cell ha d0; replace d1 := keep_cell ha d1; replace d2 := keep_cell ha d2; replace d3 := keep_cell ha d3; replace d4 := keep_cell ha d4; have HA' := Lib.hid (HA.out.trans ha); clear HA ha; have HA := HA'; clear HA'))
  have c0 := HC.out _ HA.out
  have c1 := HO1.out _ HA.out
  have c2 := HO2.out _ HA.out
  go_quiet (fail)
  go_wp2
  go_ret
  exact ⟨rfl, HA.out.drewN _⟩

end

end Go.Proofs.Ytmkpidipoadnbaa
