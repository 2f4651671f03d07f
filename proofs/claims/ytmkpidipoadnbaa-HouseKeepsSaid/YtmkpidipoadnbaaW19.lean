/- checkContract: what is wrong with a contract, but for the margins. -/
import Derived.Test.YtmkpidipoadnbaaW18
namespace Go.Proofs.Ytmkpidipoadnbaa
open Go Go.RowKit Go.Sort

abbrev ktV (bu se mo q pr : Int) : Value := .agg #[.int .i64 bu, .int .i64 se, .int .i64 mo, .int .i64 q, .int .i64 pr]
abbrev CheckTo (v : Value) (bu se mo q pr : Int) (w : World) (e : Int) : Prop := Calls Try.prog 23 #[v, ktV bu se mo q pr] w fun r w' => r = .returned (.int .i64 e) ∧ Adds w w'

set_option maxRecDepth 100000 in
theorem check_nil (bu se mo q pr : Int) (w : World) : CheckTo (.pointer none) bu se mo q pr w 3 := by
  unfold CheckTo ktV
  go_enter Try.func23, Try.ntmps23
  go_wp2
  go_ret
  exact ⟨rfl, (Adds.refl w).alloc _⟩

section
variable {w : World} {base b ga ca cm ck : Nat} {pm pk : Option Addr} {h : Hs}
set_option maxRecDepth 100000 in
set_option maxHeartbeats 2000000 in
theorem check_1 (hh : HouseAt w base b ga ca pm cm pk ck h) (bu se mo q pr : Int) (b1 : inB bu 1 h.ac.length = false) : CheckTo (.pointer (some ⟨b, 0, none⟩)) bu se mo q pr w 4 := by
  have HB := Lib.hid (fun x W (hW : Adds w W) => member_any b h.ac.length ca _ x W (hh.later hW).c0)
  have HM := Lib.hid (fun W (hW : Adds w W) => month_any b h.months mo W (hh.later hW).c1)
  have HQ := Lib.hid (fun W => within_any q 1 1000000 W)
  have HP := Lib.hid (fun W => price_any pr W)
  unfold CheckTo ktV
  clear hh
  go_enter Try.func23, Try.ntmps23
  go_upto_region 3 with fail
  have k0 := Box.new w #[.int .i64 bu, .int .i64 se, .int .i64 mo, .int .i64 q, .int .i64 pr] 42
  have hA : Adds w (w.alloc (.cells #[.int .i64 bu, .int .i64 se, .int .i64 mo, .int .i64 q, .int .i64 pr] 42)) := (Adds.refl w).alloc _
  obtain ⟨W, hW⟩ : ∃ V, V = w.alloc (.cells #[.int .i64 bu, .int .i64 se, .int .i64 mo, .int .i64 q, .int .i64 pr] 42) := ⟨_, rfl⟩
  rw [← hW] at k0 hA ⊢
  obtain ⟨s, hs⟩ : ∃ s, s = w.heap.size := ⟨_, rfl⟩
  rw [← hs] at k0 ⊢
  have HA := Lib.hid hA
  have d0 : W.cell? ⟨s, 0, none⟩ = some (.int .i64 bu) := k0.cell 0
  have d1 : W.cell? ⟨s, 1, none⟩ = some (.int .i64 se) := k0.cell 1
  have d2 : W.cell? ⟨s, 2, none⟩ = some (.int .i64 mo) := k0.cell 2
  have d3 : W.cell? ⟨s, 3, none⟩ = some (.int .i64 q) := k0.cell 3
  have d4 : W.cell? ⟨s, 4, none⟩ = some (.int .i64 pr) := k0.cell 4
  clear hW hs k0 hA
  go_wp2_with (first
    | (go_at_call 38; refine (HB.out _ _ HA.out).mono ?_; rintro e w1 ⟨rfl, ha⟩; (try simp only [b1]); replace d0 := keep_cell ha d0; replace d1 := keep_cell ha d1; replace d2 := keep_cell ha d2; replace d3 := keep_cell ha d3; replace d4 := keep_cell ha d4; have HA' := Lib.hid (HA.out.trans ha); clear HA ha; have HA := HA'; clear HA')
    | (go_at_call 26; refine (HM.out _ HA.out).mono ?_; rintro e w1 ⟨rfl, ha⟩; replace d0 := keep_cell ha d0; replace d1 := keep_cell ha d1; replace d2 := keep_cell ha d2; replace d3 := keep_cell ha d3; replace d4 := keep_cell ha d4; have HA' := Lib.hid (HA.out.trans ha); clear HA ha; have HA := HA'; clear HA')
    | (go_at_call 35; refine (HQ.out _).mono ?_; rintro e w1 ⟨rfl, ha⟩; replace d0 := keep_cell ha d0; replace d1 := keep_cell ha d1; replace d2 := keep_cell ha d2; replace d3 := keep_cell ha d3; replace d4 := keep_cell ha d4; have HA' := Lib.hid (HA.out.trans ha); clear HA ha; have HA := HA'; clear HA')
    | (go_at_call 27; refine (HP.out _).mono ?_; rintro e w1 ⟨rfl, ha⟩; replace d0 := keep_cell ha d0; replace d1 := keep_cell ha d1; replace d2 := keep_cell ha d2; replace d3 := keep_cell ha d3; replace d4 := keep_cell ha d4; have HA' := Lib.hid (HA.out.trans ha); clear HA ha; have HA := HA'; clear HA'))
  go_ret
  exact ⟨rfl, HA.out⟩

set_option maxRecDepth 100000 in
set_option maxHeartbeats 2000000 in
theorem check_2 (hh : HouseAt w base b ga ca pm cm pk ck h) (bu se mo q pr : Int) (b1 : inB bu 1 h.ac.length = true) (b2 : inB se 1 h.ac.length = false) : CheckTo (.pointer (some ⟨b, 0, none⟩)) bu se mo q pr w 4 := by
  have HB := Lib.hid (fun x W (hW : Adds w W) => member_any b h.ac.length ca _ x W (hh.later hW).c0)
  have HM := Lib.hid (fun W (hW : Adds w W) => month_any b h.months mo W (hh.later hW).c1)
  have HQ := Lib.hid (fun W => within_any q 1 1000000 W)
  have HP := Lib.hid (fun W => price_any pr W)
  unfold CheckTo ktV
  clear hh
  go_enter Try.func23, Try.ntmps23
  go_upto_region 3 with fail
  have k0 := Box.new w #[.int .i64 bu, .int .i64 se, .int .i64 mo, .int .i64 q, .int .i64 pr] 42
  have hA : Adds w (w.alloc (.cells #[.int .i64 bu, .int .i64 se, .int .i64 mo, .int .i64 q, .int .i64 pr] 42)) := (Adds.refl w).alloc _
  obtain ⟨W, hW⟩ : ∃ V, V = w.alloc (.cells #[.int .i64 bu, .int .i64 se, .int .i64 mo, .int .i64 q, .int .i64 pr] 42) := ⟨_, rfl⟩
  rw [← hW] at k0 hA ⊢
  obtain ⟨s, hs⟩ : ∃ s, s = w.heap.size := ⟨_, rfl⟩
  rw [← hs] at k0 ⊢
  have HA := Lib.hid hA
  have d0 : W.cell? ⟨s, 0, none⟩ = some (.int .i64 bu) := k0.cell 0
  have d1 : W.cell? ⟨s, 1, none⟩ = some (.int .i64 se) := k0.cell 1
  have d2 : W.cell? ⟨s, 2, none⟩ = some (.int .i64 mo) := k0.cell 2
  have d3 : W.cell? ⟨s, 3, none⟩ = some (.int .i64 q) := k0.cell 3
  have d4 : W.cell? ⟨s, 4, none⟩ = some (.int .i64 pr) := k0.cell 4
  clear hW hs k0 hA
  go_wp2_with (first
    | (go_at_call 38; refine (HB.out _ _ HA.out).mono ?_; rintro e w1 ⟨rfl, ha⟩; (try simp only [b1, b2]); replace d0 := keep_cell ha d0; replace d1 := keep_cell ha d1; replace d2 := keep_cell ha d2; replace d3 := keep_cell ha d3; replace d4 := keep_cell ha d4; have HA' := Lib.hid (HA.out.trans ha); clear HA ha; have HA := HA'; clear HA')
    | (go_at_call 26; refine (HM.out _ HA.out).mono ?_; rintro e w1 ⟨rfl, ha⟩; replace d0 := keep_cell ha d0; replace d1 := keep_cell ha d1; replace d2 := keep_cell ha d2; replace d3 := keep_cell ha d3; replace d4 := keep_cell ha d4; have HA' := Lib.hid (HA.out.trans ha); clear HA ha; have HA := HA'; clear HA')
    | (go_at_call 35; refine (HQ.out _).mono ?_; rintro e w1 ⟨rfl, ha⟩; replace d0 := keep_cell ha d0; replace d1 := keep_cell ha d1; replace d2 := keep_cell ha d2; replace d3 := keep_cell ha d3; replace d4 := keep_cell ha d4; have HA' := Lib.hid (HA.out.trans ha); clear HA ha; have HA := HA'; clear HA')
    | (go_at_call 27; refine (HP.out _).mono ?_; rintro e w1 ⟨rfl, ha⟩; replace d0 := keep_cell ha d0; replace d1 := keep_cell ha d1; replace d2 := keep_cell ha d2; replace d3 := keep_cell ha d3; replace d4 := keep_cell ha d4; have HA' := Lib.hid (HA.out.trans ha); clear HA ha; have HA := HA'; clear HA'))
  go_ret
  exact ⟨rfl, HA.out⟩

set_option maxRecDepth 100000 in
set_option maxHeartbeats 2000000 in
theorem check_3 (hh : HouseAt w base b ga ca pm cm pk ck h) (bu se mo q pr : Int) (b1 : inB bu 1 h.ac.length = true) (b2 : inB se 1 h.ac.length = true) (b3 : belowB mo h.months = false) : CheckTo (.pointer (some ⟨b, 0, none⟩)) bu se mo q pr w 4 := by
  have HB := Lib.hid (fun x W (hW : Adds w W) => member_any b h.ac.length ca _ x W (hh.later hW).c0)
  have HM := Lib.hid (fun W (hW : Adds w W) => month_any b h.months mo W (hh.later hW).c1)
  have HQ := Lib.hid (fun W => within_any q 1 1000000 W)
  have HP := Lib.hid (fun W => price_any pr W)
  rw [b3] at HM
  unfold CheckTo ktV
  clear hh b3
  go_enter Try.func23, Try.ntmps23
  go_upto_region 3 with fail
  have k0 := Box.new w #[.int .i64 bu, .int .i64 se, .int .i64 mo, .int .i64 q, .int .i64 pr] 42
  have hA : Adds w (w.alloc (.cells #[.int .i64 bu, .int .i64 se, .int .i64 mo, .int .i64 q, .int .i64 pr] 42)) := (Adds.refl w).alloc _
  obtain ⟨W, hW⟩ : ∃ V, V = w.alloc (.cells #[.int .i64 bu, .int .i64 se, .int .i64 mo, .int .i64 q, .int .i64 pr] 42) := ⟨_, rfl⟩
  rw [← hW] at k0 hA ⊢
  obtain ⟨s, hs⟩ : ∃ s, s = w.heap.size := ⟨_, rfl⟩
  rw [← hs] at k0 ⊢
  have HA := Lib.hid hA
  have d0 : W.cell? ⟨s, 0, none⟩ = some (.int .i64 bu) := k0.cell 0
  have d1 : W.cell? ⟨s, 1, none⟩ = some (.int .i64 se) := k0.cell 1
  have d2 : W.cell? ⟨s, 2, none⟩ = some (.int .i64 mo) := k0.cell 2
  have d3 : W.cell? ⟨s, 3, none⟩ = some (.int .i64 q) := k0.cell 3
  have d4 : W.cell? ⟨s, 4, none⟩ = some (.int .i64 pr) := k0.cell 4
  clear hW hs k0 hA
  go_wp2_with (first
    | (go_at_call 38; refine (HB.out _ _ HA.out).mono ?_; rintro e w1 ⟨rfl, ha⟩; (try simp only [b1, b2]); replace d0 := keep_cell ha d0; replace d1 := keep_cell ha d1; replace d2 := keep_cell ha d2; replace d3 := keep_cell ha d3; replace d4 := keep_cell ha d4; have HA' := Lib.hid (HA.out.trans ha); clear HA ha; have HA := HA'; clear HA')
    | (go_at_call 26; refine (HM.out _ HA.out).mono ?_; rintro e w1 ⟨rfl, ha⟩; replace d0 := keep_cell ha d0; replace d1 := keep_cell ha d1; replace d2 := keep_cell ha d2; replace d3 := keep_cell ha d3; replace d4 := keep_cell ha d4; have HA' := Lib.hid (HA.out.trans ha); clear HA ha; have HA := HA'; clear HA')
    | (go_at_call 35; refine (HQ.out _).mono ?_; rintro e w1 ⟨rfl, ha⟩; replace d0 := keep_cell ha d0; replace d1 := keep_cell ha d1; replace d2 := keep_cell ha d2; replace d3 := keep_cell ha d3; replace d4 := keep_cell ha d4; have HA' := Lib.hid (HA.out.trans ha); clear HA ha; have HA := HA'; clear HA')
    | (go_at_call 27; refine (HP.out _).mono ?_; rintro e w1 ⟨rfl, ha⟩; replace d0 := keep_cell ha d0; replace d1 := keep_cell ha d1; replace d2 := keep_cell ha d2; replace d3 := keep_cell ha d3; replace d4 := keep_cell ha d4; have HA' := Lib.hid (HA.out.trans ha); clear HA ha; have HA := HA'; clear HA'))
  go_ret
  exact ⟨rfl, HA.out⟩

set_option maxRecDepth 100000 in
set_option maxHeartbeats 2000000 in
theorem check_4 (hh : HouseAt w base b ga ca pm cm pk ck h) (bu se mo q pr : Int) (b1 : inB bu 1 h.ac.length = true) (b2 : inB se 1 h.ac.length = true) (b3 : belowB mo h.months = true) (hne : (bu == se) = true) : CheckTo (.pointer (some ⟨b, 0, none⟩)) bu se mo q pr w 1 := by
  have HB := Lib.hid (fun x W (hW : Adds w W) => member_any b h.ac.length ca _ x W (hh.later hW).c0)
  have HM := Lib.hid (fun W (hW : Adds w W) => month_any b h.months mo W (hh.later hW).c1)
  have HQ := Lib.hid (fun W => within_any q 1 1000000 W)
  have HP := Lib.hid (fun W => price_any pr W)
  rw [b3] at HM
  unfold CheckTo ktV
  clear hh b3
  go_enter Try.func23, Try.ntmps23
  go_upto_region 3 with fail
  have k0 := Box.new w #[.int .i64 bu, .int .i64 se, .int .i64 mo, .int .i64 q, .int .i64 pr] 42
  have hA : Adds w (w.alloc (.cells #[.int .i64 bu, .int .i64 se, .int .i64 mo, .int .i64 q, .int .i64 pr] 42)) := (Adds.refl w).alloc _
  obtain ⟨W, hW⟩ : ∃ V, V = w.alloc (.cells #[.int .i64 bu, .int .i64 se, .int .i64 mo, .int .i64 q, .int .i64 pr] 42) := ⟨_, rfl⟩
  rw [← hW] at k0 hA ⊢
  obtain ⟨s, hs⟩ : ∃ s, s = w.heap.size := ⟨_, rfl⟩
  rw [← hs] at k0 ⊢
  have HA := Lib.hid hA
  have d0 : W.cell? ⟨s, 0, none⟩ = some (.int .i64 bu) := k0.cell 0
  have d1 : W.cell? ⟨s, 1, none⟩ = some (.int .i64 se) := k0.cell 1
  have d2 : W.cell? ⟨s, 2, none⟩ = some (.int .i64 mo) := k0.cell 2
  have d3 : W.cell? ⟨s, 3, none⟩ = some (.int .i64 q) := k0.cell 3
  have d4 : W.cell? ⟨s, 4, none⟩ = some (.int .i64 pr) := k0.cell 4
  clear hW hs k0 hA
  go_wp2_with (first
    | (go_at_call 38; refine (HB.out _ _ HA.out).mono ?_; rintro e w1 ⟨rfl, ha⟩; (try simp only [b1, b2]); replace d0 := keep_cell ha d0; replace d1 := keep_cell ha d1; replace d2 := keep_cell ha d2; replace d3 := keep_cell ha d3; replace d4 := keep_cell ha d4; have HA' := Lib.hid (HA.out.trans ha); clear HA ha; have HA := HA'; clear HA')
    | (go_at_call 26; refine (HM.out _ HA.out).mono ?_; rintro e w1 ⟨rfl, ha⟩; replace d0 := keep_cell ha d0; replace d1 := keep_cell ha d1; replace d2 := keep_cell ha d2; replace d3 := keep_cell ha d3; replace d4 := keep_cell ha d4; have HA' := Lib.hid (HA.out.trans ha); clear HA ha; have HA := HA'; clear HA')
    | (go_at_call 35; refine (HQ.out _).mono ?_; rintro e w1 ⟨rfl, ha⟩; replace d0 := keep_cell ha d0; replace d1 := keep_cell ha d1; replace d2 := keep_cell ha d2; replace d3 := keep_cell ha d3; replace d4 := keep_cell ha d4; have HA' := Lib.hid (HA.out.trans ha); clear HA ha; have HA := HA'; clear HA')
    | (go_at_call 27; refine (HP.out _).mono ?_; rintro e w1 ⟨rfl, ha⟩; replace d0 := keep_cell ha d0; replace d1 := keep_cell ha d1; replace d2 := keep_cell ha d2; replace d3 := keep_cell ha d3; replace d4 := keep_cell ha d4; have HA' := Lib.hid (HA.out.trans ha); clear HA ha; have HA := HA'; clear HA'))
  go_ret
  exact ⟨rfl, HA.out⟩

set_option maxRecDepth 100000 in
set_option maxHeartbeats 2000000 in
theorem check_5 (hh : HouseAt w base b ga ca pm cm pk ck h) (bu se mo q pr : Int) (b1 : inB bu 1 h.ac.length = true) (b2 : inB se 1 h.ac.length = true) (b3 : belowB mo h.months = true) (hne : (bu == se) = false) (b4 : inB q 1 1000000 = false) : CheckTo (.pointer (some ⟨b, 0, none⟩)) bu se mo q pr w 1 := by
  have HB := Lib.hid (fun x W (hW : Adds w W) => member_any b h.ac.length ca _ x W (hh.later hW).c0)
  have HM := Lib.hid (fun W (hW : Adds w W) => month_any b h.months mo W (hh.later hW).c1)
  have HQ := Lib.hid (fun W => within_any q 1 1000000 W)
  have HP := Lib.hid (fun W => price_any pr W)
  rw [b3] at HM
  rw [b4] at HQ
  unfold CheckTo ktV
  clear hh b3 b4
  go_enter Try.func23, Try.ntmps23
  go_upto_region 3 with fail
  have k0 := Box.new w #[.int .i64 bu, .int .i64 se, .int .i64 mo, .int .i64 q, .int .i64 pr] 42
  have hA : Adds w (w.alloc (.cells #[.int .i64 bu, .int .i64 se, .int .i64 mo, .int .i64 q, .int .i64 pr] 42)) := (Adds.refl w).alloc _
  obtain ⟨W, hW⟩ : ∃ V, V = w.alloc (.cells #[.int .i64 bu, .int .i64 se, .int .i64 mo, .int .i64 q, .int .i64 pr] 42) := ⟨_, rfl⟩
  rw [← hW] at k0 hA ⊢
  obtain ⟨s, hs⟩ : ∃ s, s = w.heap.size := ⟨_, rfl⟩
  rw [← hs] at k0 ⊢
  have HA := Lib.hid hA
  have d0 : W.cell? ⟨s, 0, none⟩ = some (.int .i64 bu) := k0.cell 0
  have d1 : W.cell? ⟨s, 1, none⟩ = some (.int .i64 se) := k0.cell 1
  have d2 : W.cell? ⟨s, 2, none⟩ = some (.int .i64 mo) := k0.cell 2
  have d3 : W.cell? ⟨s, 3, none⟩ = some (.int .i64 q) := k0.cell 3
  have d4 : W.cell? ⟨s, 4, none⟩ = some (.int .i64 pr) := k0.cell 4
  clear hW hs k0 hA
  go_wp2_with (first
    | (go_at_call 38; refine (HB.out _ _ HA.out).mono ?_; rintro e w1 ⟨rfl, ha⟩; (try simp only [b1, b2]); replace d0 := keep_cell ha d0; replace d1 := keep_cell ha d1; replace d2 := keep_cell ha d2; replace d3 := keep_cell ha d3; replace d4 := keep_cell ha d4; have HA' := Lib.hid (HA.out.trans ha); clear HA ha; have HA := HA'; clear HA')
    | (go_at_call 26; refine (HM.out _ HA.out).mono ?_; rintro e w1 ⟨rfl, ha⟩; replace d0 := keep_cell ha d0; replace d1 := keep_cell ha d1; replace d2 := keep_cell ha d2; replace d3 := keep_cell ha d3; replace d4 := keep_cell ha d4; have HA' := Lib.hid (HA.out.trans ha); clear HA ha; have HA := HA'; clear HA')
    | (go_at_call 35; refine (HQ.out _).mono ?_; rintro e w1 ⟨rfl, ha⟩; replace d0 := keep_cell ha d0; replace d1 := keep_cell ha d1; replace d2 := keep_cell ha d2; replace d3 := keep_cell ha d3; replace d4 := keep_cell ha d4; have HA' := Lib.hid (HA.out.trans ha); clear HA ha; have HA := HA'; clear HA')
    | (go_at_call 27; refine (HP.out _).mono ?_; rintro e w1 ⟨rfl, ha⟩; replace d0 := keep_cell ha d0; replace d1 := keep_cell ha d1; replace d2 := keep_cell ha d2; replace d3 := keep_cell ha d3; replace d4 := keep_cell ha d4; have HA' := Lib.hid (HA.out.trans ha); clear HA ha; have HA := HA'; clear HA'))
  go_ret
  exact ⟨rfl, HA.out⟩

set_option maxRecDepth 100000 in
set_option maxHeartbeats 2000000 in
theorem check_6 (hh : HouseAt w base b ga ca pm cm pk ck h) (bu se mo q pr : Int) (b1 : inB bu 1 h.ac.length = true) (b2 : inB se 1 h.ac.length = true) (b3 : belowB mo h.months = true) (hne : (bu == se) = false) (b4 : inB q 1 1000000 = true) (b5 : inB pr 1 1000000 = false) : CheckTo (.pointer (some ⟨b, 0, none⟩)) bu se mo q pr w 1 := by
  have HB := Lib.hid (fun x W (hW : Adds w W) => member_any b h.ac.length ca _ x W (hh.later hW).c0)
  have HM := Lib.hid (fun W (hW : Adds w W) => month_any b h.months mo W (hh.later hW).c1)
  have HQ := Lib.hid (fun W => within_any q 1 1000000 W)
  have HP := Lib.hid (fun W => price_any pr W)
  rw [b3] at HM
  rw [b4] at HQ
  rw [b5] at HP
  unfold CheckTo ktV
  clear hh b3 b4 b5
  go_enter Try.func23, Try.ntmps23
  go_upto_region 3 with fail
  have k0 := Box.new w #[.int .i64 bu, .int .i64 se, .int .i64 mo, .int .i64 q, .int .i64 pr] 42
  have hA : Adds w (w.alloc (.cells #[.int .i64 bu, .int .i64 se, .int .i64 mo, .int .i64 q, .int .i64 pr] 42)) := (Adds.refl w).alloc _
  obtain ⟨W, hW⟩ : ∃ V, V = w.alloc (.cells #[.int .i64 bu, .int .i64 se, .int .i64 mo, .int .i64 q, .int .i64 pr] 42) := ⟨_, rfl⟩
  rw [← hW] at k0 hA ⊢
  obtain ⟨s, hs⟩ : ∃ s, s = w.heap.size := ⟨_, rfl⟩
  rw [← hs] at k0 ⊢
  have HA := Lib.hid hA
  have d0 : W.cell? ⟨s, 0, none⟩ = some (.int .i64 bu) := k0.cell 0
  have d1 : W.cell? ⟨s, 1, none⟩ = some (.int .i64 se) := k0.cell 1
  have d2 : W.cell? ⟨s, 2, none⟩ = some (.int .i64 mo) := k0.cell 2
  have d3 : W.cell? ⟨s, 3, none⟩ = some (.int .i64 q) := k0.cell 3
  have d4 : W.cell? ⟨s, 4, none⟩ = some (.int .i64 pr) := k0.cell 4
  clear hW hs k0 hA
  go_wp2_with (first
    | (go_at_call 38; refine (HB.out _ _ HA.out).mono ?_; rintro e w1 ⟨rfl, ha⟩; (try simp only [b1, b2]); replace d0 := keep_cell ha d0; replace d1 := keep_cell ha d1; replace d2 := keep_cell ha d2; replace d3 := keep_cell ha d3; replace d4 := keep_cell ha d4; have HA' := Lib.hid (HA.out.trans ha); clear HA ha; have HA := HA'; clear HA')
    | (go_at_call 26; refine (HM.out _ HA.out).mono ?_; rintro e w1 ⟨rfl, ha⟩; replace d0 := keep_cell ha d0; replace d1 := keep_cell ha d1; replace d2 := keep_cell ha d2; replace d3 := keep_cell ha d3; replace d4 := keep_cell ha d4; have HA' := Lib.hid (HA.out.trans ha); clear HA ha; have HA := HA'; clear HA')
    | (go_at_call 35; refine (HQ.out _).mono ?_; rintro e w1 ⟨rfl, ha⟩; replace d0 := keep_cell ha d0; replace d1 := keep_cell ha d1; replace d2 := keep_cell ha d2; replace d3 := keep_cell ha d3; replace d4 := keep_cell ha d4; have HA' := Lib.hid (HA.out.trans ha); clear HA ha; have HA := HA'; clear HA')
    | (go_at_call 27; refine (HP.out _).mono ?_; rintro e w1 ⟨rfl, ha⟩; replace d0 := keep_cell ha d0; replace d1 := keep_cell ha d1; replace d2 := keep_cell ha d2; replace d3 := keep_cell ha d3; replace d4 := keep_cell ha d4; have HA' := Lib.hid (HA.out.trans ha); clear HA ha; have HA := HA'; clear HA'))
  go_ret
  exact ⟨rfl, HA.out⟩

end

end Go.Proofs.Ytmkpidipoadnbaa
