/- The orders of turns. -/
import Derived.Test.YtkofnhimgegcnaaS
namespace Go.Proofs.Ytkofnhimgegcnaa
open Go Go.RowKit Go.Sort

/-- What cmp.Compare returns. -/
def cmpT (a b : Int) : Int := if a < b then -1 else if b < a then 1 else 0
/-- What cmp.Or returns. -/
def orT (a b : Int) : Int := if a = 0 then b else a

set_option maxHeartbeats 400000 in
theorem nan_i (n : Int) (w : World) : Calls Try.prog 82 #[.int .i64 n] w fun e w' => e = .returned (.bool false) ∧ w = w' := by
  go_enter Try.func82, Try.ntmps82
  go_wp2
  go_ret
  exact ⟨rfl, rfl⟩

set_option maxHeartbeats 400000 in
theorem cmp_i (a b : Int) (w : World) : Calls Try.prog 58 #[.int .i64 a, .int .i64 b] w fun e w' => e = .returned (.int .i64 (cmpT a b)) ∧ w = w' := by
  go_enter Try.func58, Try.ntmps58
  go_wp2_with (go_at_call 82; refine (nan_i _ _).mono ?_; rintro e w1 ⟨rfl, rfl⟩)
  all_goals
    go_ret
    exact ⟨ret_int (by unfold cmpT; (repeat split) <;> first | rfl | omega), rfl⟩

set_option maxHeartbeats 400000 in
theorem Or_any (g c : Nat) (a b : Int) (w : World) (h0 : w.cell? ⟨g, 0, none⟩ = some (.int .i64 a)) (h1 : w.cell? ⟨g, 1, none⟩ = some (.int .i64 b)) :
    Calls Try.prog 57 #[.slice (some ⟨g, 0, none⟩) 2 c] w fun e w' => e = .returned (.int .i64 (orT a b)) ∧ w = w' := by
  have H0 := Lib.hid h0
  have H1 := Lib.hid h1
  clear h0 h1
  go_enter Try.func57, Try.ntmps57
  go_wp2
  go_loopw [8] (fun i wr => ∃ k : Nat, k ≤ 2 ∧ i = .int .i64 k ∧ Hid (1 ≤ k → a = 0) ∧ Hid (2 ≤ k → b = 0) ∧ Hid (w = wr)) (fun i _ => 2 - (intOf i).toNat)
  case atStart => exact ⟨0, by omega, rfl, Lib.hid (fun h => by omega), Lib.hid (fun h => by omega), Lib.hid rfl⟩
  case round =>
    obtain ⟨k, hk, rfl, hA, hB, hW⟩ := hrel
    have c0 : wr.cell? ⟨g, 0, none⟩ = some (.int .i64 a) := by rw [← hW.out]; exact H0.out
    have c1 : wr.cell? ⟨g, 1, none⟩ = some (.int .i64 b) := by rw [← hW.out]; exact H1.out
    have hkk : k = 0 ∨ k = 1 ∨ k = 2 := by omega
    rcases hkk with rfl | rfl | rfl
    · by_cases ha : a = 0
      · have hg : (a != 0) = false := by rw [ha]; rfl
        have HA := Lib.hid ha
        clear ha hA hB
        go_wp2
        exact ⟨⟨1, by omega, rfl, Lib.hid (fun _ => HA.out), Lib.hid (fun h => by omega), hW⟩, by simp [intOf]⟩
      · have hg : (a != 0) = true := by simp [bne, ha]
        have HA := Lib.hid ha
        clear ha hA hB
        go_wp2
        go_ret
        exact ⟨ret_int (by unfold orT; rw [if_neg HA.out]), hW.out⟩
    · have HA0 := Lib.hid (hA.out (Nat.le_refl _))
      by_cases hb : b = 0
      · have hg : (b != 0) = false := by rw [hb]; rfl
        have HB := Lib.hid hb
        clear hb hA hB
        go_wp2
        exact ⟨⟨2, by omega, rfl, Lib.hid (fun _ => HA0.out), Lib.hid (fun _ => HB.out), hW⟩, by simp [intOf]⟩
      · have hg : (b != 0) = true := by simp [bne, hb]
        clear hb hA hB
        go_wp2
        go_ret
        exact ⟨ret_int (by unfold orT; rw [if_pos HA0.out]), hW.out⟩
    · have HA0 := Lib.hid (hA.out (by omega))
      have HB0 := Lib.hid (hB.out (by omega))
      clear hA hB
      go_wp2
      go_ret
      exact ⟨ret_int (by unfold orT; rw [if_pos HA0.out, HB0.out]), hW.out⟩

/-- A turn as a value. -/
abbrev agg3 (x : Int × Int × Int) : Value := .agg #[.int .i64 x.1, .int .i64 x.2.1, .int .i64 x.2.2]

set_option maxRecDepth 100000 in
set_option maxHeartbeats 2000000 in
theorem byLoad_any (x0 x1 x2 y0 y1 y2 : Int) (w : World) : Calls Try.prog 73 #[.agg #[.int .i64 x0, .int .i64 x1, .int .i64 x2], .agg #[.int .i64 y0, .int .i64 y1, .int .i64 y2]] w fun e w' => e = .returned (.int .i64 (orT (cmpT x0 y0) (cmpT x1 y1))) ∧ ∃ q os', w' = grow (w.drewN q) os' := by
  go_enter Try.func73, Try.ntmps73
  go_upto_region 1 with fail
  have k0 : ((w.alloc (.cells #[.int .i64 x0, .int .i64 x1, .int .i64 x2] 41)).alloc (.cells #[.int .i64 y0, .int .i64 y1, .int .i64 y2] 41)).cell? ⟨w.heap.size, 0, none⟩ = some (.int .i64 x0) := ((Box.new w _ _).alloc _).cell 0
  have k1 : ((w.alloc (.cells #[.int .i64 x0, .int .i64 x1, .int .i64 x2] 41)).alloc (.cells #[.int .i64 y0, .int .i64 y1, .int .i64 y2] 41)).cell? ⟨w.heap.size, 1, none⟩ = some (.int .i64 x1) := ((Box.new w _ _).alloc _).cell 1
  have l0 : ((w.alloc (.cells #[.int .i64 x0, .int .i64 x1, .int .i64 x2] 41)).alloc (.cells #[.int .i64 y0, .int .i64 y1, .int .i64 y2] 41)).cell? ⟨w.heap.size + 1, 0, none⟩ = some (.int .i64 y0) := by
    have := (Box.new (w.alloc (.cells #[.int .i64 x0, .int .i64 x1, .int .i64 x2] 41)) #[.int .i64 y0, .int .i64 y1, .int .i64 y2] 41).cell 0
    rw [World.size_alloc] at this
    exact this
  have l1 : ((w.alloc (.cells #[.int .i64 x0, .int .i64 x1, .int .i64 x2] 41)).alloc (.cells #[.int .i64 y0, .int .i64 y1, .int .i64 y2] 41)).cell? ⟨w.heap.size + 1, 1, none⟩ = some (.int .i64 y1) := by
    have := (Box.new (w.alloc (.cells #[.int .i64 x0, .int .i64 x1, .int .i64 x2] 41)) #[.int .i64 y0, .int .i64 y1, .int .i64 y2] 41).cell 1
    rw [World.size_alloc] at this
    exact this
  obtain ⟨W, hW⟩ : ∃ V, V = (w.alloc (.cells #[.int .i64 x0, .int .i64 x1, .int .i64 x2] 41)).alloc (.cells #[.int .i64 y0, .int .i64 y1, .int .i64 y2] 41) := ⟨_, rfl⟩
  rw [← hW] at k0 k1 l0 l1 ⊢
  have HWW := Lib.hid hW
  clear hW
  obtain ⟨bx, hbx⟩ : ∃ b, b = w.heap.size := ⟨_, rfl⟩
  rw [← hbx] at k0 k1 l0 l1 ⊢
  clear hbx
  go_region_held3 (fun w' => w'.cell? ⟨bx, 0, none⟩ = some (.int .i64 x0) ∧ w'.cell? ⟨bx, 1, none⟩ = some (.int .i64 x1) ∧ w'.cell? ⟨bx + 1, 0, none⟩ = some (.int .i64 y0) ∧ w'.cell? ⟨bx + 1, 1, none⟩ = some (.int .i64 y1))
    (first | (go_keep; done))
    ((first
      | (go_simp; go_at_call 58; refine (cmp_i _ _ _).mono ?_; rintro e w1 ⟨rfl, rfl⟩)
      | (go_simp; go_at_call 57; refine (Or_any W.heap.size 2 (cmpT x0 y0) (cmpT x1 y1) _ ((Box.new W _ 3).drew.cell 0) ((Box.new W _ 3).drew.cell 1)).mono ?_; rintro e w1 ⟨rfl, rfl⟩)))
  all_goals
    go_wp2
    go_ret
    exact ⟨rfl, 1, _, by rw [HWW.out, alloc_eq_grow, alloc_eq_grow, alloc_eq_grow, grow_grow, grow_grow]; rfl⟩

set_option maxRecDepth 100000 in
set_option maxHeartbeats 2000000 in
theorem byFrom_any (x0 x1 x2 y0 y1 y2 : Int) (w : World) : Calls Try.prog 56 #[.agg #[.int .i64 x0, .int .i64 x1, .int .i64 x2], .agg #[.int .i64 y0, .int .i64 y1, .int .i64 y2]] w fun e w' => e = .returned (.int .i64 (orT (cmpT x1 y1) (cmpT x0 y0))) ∧ ∃ q os', w' = grow (w.drewN q) os' := by
  go_enter Try.func56, Try.ntmps56
  go_upto_region 1 with fail
  have k0 : ((w.alloc (.cells #[.int .i64 x0, .int .i64 x1, .int .i64 x2] 41)).alloc (.cells #[.int .i64 y0, .int .i64 y1, .int .i64 y2] 41)).cell? ⟨w.heap.size, 0, none⟩ = some (.int .i64 x0) := ((Box.new w _ _).alloc _).cell 0
  have k1 : ((w.alloc (.cells #[.int .i64 x0, .int .i64 x1, .int .i64 x2] 41)).alloc (.cells #[.int .i64 y0, .int .i64 y1, .int .i64 y2] 41)).cell? ⟨w.heap.size, 1, none⟩ = some (.int .i64 x1) := ((Box.new w _ _).alloc _).cell 1
  have l0 : ((w.alloc (.cells #[.int .i64 x0, .int .i64 x1, .int .i64 x2] 41)).alloc (.cells #[.int .i64 y0, .int .i64 y1, .int .i64 y2] 41)).cell? ⟨w.heap.size + 1, 0, none⟩ = some (.int .i64 y0) := by
    have := (Box.new (w.alloc (.cells #[.int .i64 x0, .int .i64 x1, .int .i64 x2] 41)) #[.int .i64 y0, .int .i64 y1, .int .i64 y2] 41).cell 0
    rw [World.size_alloc] at this
    exact this
  have l1 : ((w.alloc (.cells #[.int .i64 x0, .int .i64 x1, .int .i64 x2] 41)).alloc (.cells #[.int .i64 y0, .int .i64 y1, .int .i64 y2] 41)).cell? ⟨w.heap.size + 1, 1, none⟩ = some (.int .i64 y1) := by
    have := (Box.new (w.alloc (.cells #[.int .i64 x0, .int .i64 x1, .int .i64 x2] 41)) #[.int .i64 y0, .int .i64 y1, .int .i64 y2] 41).cell 1
    rw [World.size_alloc] at this
    exact this
  obtain ⟨W, hW⟩ : ∃ V, V = (w.alloc (.cells #[.int .i64 x0, .int .i64 x1, .int .i64 x2] 41)).alloc (.cells #[.int .i64 y0, .int .i64 y1, .int .i64 y2] 41) := ⟨_, rfl⟩
  rw [← hW] at k0 k1 l0 l1 ⊢
  have HWW := Lib.hid hW
  clear hW
  obtain ⟨bx, hbx⟩ : ∃ b, b = w.heap.size := ⟨_, rfl⟩
  rw [← hbx] at k0 k1 l0 l1 ⊢
  clear hbx
  go_region_held3 (fun w' => w'.cell? ⟨bx, 0, none⟩ = some (.int .i64 x0) ∧ w'.cell? ⟨bx, 1, none⟩ = some (.int .i64 x1) ∧ w'.cell? ⟨bx + 1, 0, none⟩ = some (.int .i64 y0) ∧ w'.cell? ⟨bx + 1, 1, none⟩ = some (.int .i64 y1))
    (first | (go_keep; done))
    ((first
      | (go_simp; go_at_call 58; refine (cmp_i _ _ _).mono ?_; rintro e w1 ⟨rfl, rfl⟩)
      | (go_simp; go_at_call 57; refine (Or_any W.heap.size 2 (cmpT x1 y1) (cmpT x0 y0) _ ((Box.new W _ 3).drew.cell 0) ((Box.new W _ 3).drew.cell 1)).mono ?_; rintro e w1 ⟨rfl, rfl⟩)))
  all_goals
    go_wp2
    go_ret
    exact ⟨rfl, 1, _, by rw [HWW.out, alloc_eq_grow, alloc_eq_grow, alloc_eq_grow, grow_grow, grow_grow]; rfl⟩


/-- Turns by load, then by from. -/
abbrev cfL : Int × Int × Int → Int × Int × Int → Int := fun x y => orT (cmpT x.1 y.1) (cmpT x.2.1 y.2.1)
/-- Turns by from, then by load. -/
abbrev cfF : Int × Int × Int → Int × Int × Int → Int := fun x y => orT (cmpT x.2.1 y.2.1) (cmpT x.1 y.1)

theorem orT_lt (a b c d : Int) : decide (orT (cmpT a b) (cmpT c d) < 0) = decide (a < b ∨ a = b ∧ c < d) := by
  unfold orT cmpT
  by_cases h1 : a < b
  · simp [h1]
  · by_cases h2 : b < a
    · simp [h1, h2]; omega
    · have h3 : a = b := by omega
      subst h3
      by_cases h4 : c < d
      · simp [h4]
      · by_cases h5 : d < c <;> simp [h4, h5]

theorem ltL (x y : Int × Int × Int) : ltOf cfL x y = decide (x.1 < y.1 ∨ x.1 = y.1 ∧ x.2.1 < y.2.1) := orT_lt _ _ _ _
theorem ltF (x y : Int × Int × Int) : ltOf cfF x y = decide (x.2.1 < y.2.1 ∨ x.2.1 = y.2.1 ∧ x.1 < y.1) := orT_lt _ _ _ _

theorem swoL : SWO (ltOf cfL) where
  irrefl x := by rw [ltL]; simp
  trans x y z h1 h2 := by rw [ltL] at *; simp at *; omega
  ntrans x y z h1 h2 := by rw [ltL] at *; simp at *; omega
theorem swoF : SWO (ltOf cfF) where
  irrefl x := by rw [ltF]; simp
  trans x y z h1 h2 := by rw [ltF] at *; simp at *; omega
  ntrans x y z h1 h2 := by rw [ltF] at *; simp at *; omega

/-- What a sort of turns leaves. -/
def SortGot (cf : Int × Int × Int → Int × Int × Int → Int) (g cap : Nat) (l : List (Int × Int × Int)) (w : World) (e : Ending) (w' : World) : Prop :=
  e = .returned (.tuple #[]) ∧ ∃ l', l'.Perm l ∧ l'.Pairwise (fun x y => ltOf cf y x = false) ∧ Row3 w' g cap l' ∧ Touch (fun k => k = g) w w'

theorem sort_turns (cf : Int × Int × Int → Int × Int × Int → Int) (gc : Nat) (hswo : SWO (ltOf cf)) (he : ∀ (args : Array Value) (w : World), (callFunc gc args).run Try.prog w = .ok (.enter gc args) w)
    (hcf : ∀ (x y : Int × Int × Int) (W : World), Calls Try.prog gc #[agg3 x, agg3 y] W fun e w' => e = .returned (.int .i64 (cf x y)) ∧ ∃ q os', w' = grow (W.drewN q) os')
    (g cap : Nat) (l : List (Int × Int × Int)) (w : World) (hr : Row3 w g cap l) (hsm : l.length ≤ 1000000) : Calls Try.prog 55 #[.slice (some ⟨g, 0, none⟩) l.length cap, .func (.func gc) #[] #[]] w (SortGot cf g cap l w) := by
  have h := AnyQ.slices_SortFunc sortTurn 3 Try.isAgg41 Try.sizeOf41 enc3 (fun _ => rfl) (fun x v hv => by simp [enc3] at hv; rcases hv with rfl | rfl | rfl <;> rfl) cf hswo gc #[] g 0 cap l.toArray w
    he (fun _ _ _ _ x y => hcf x y _) hr.holds hr.lt (by simp; omega)
  change Calls Try.prog 55 _ _ _ at h
  rw [List.size_toArray] at h
  refine h.mono ?_
  rintro e w' ⟨rfl, d', n, os, ⟨p1, p2, p3⟩, hs, rfl⟩
  have hsz : d'.size = l.length := by simpa using p1
  obtain ⟨r1, r2⟩ := hr.sorted d' hsz n os
  refine ⟨rfl, d'.toList, ?_, ?_, r1, r2⟩
  · have e1 : d'.extract 0 l.length = d' := by rw [← hsz]; simp
    rw [e1] at p3
    simpa using p3
  · rw [List.pairwise_iff_getElem]
    intro i j hi hj hij
    have h1 := hs i j (Nat.zero_le _) hij (by simpa [hsz] using hj)
    have hi' : i < d'.size := by simpa using hi
    have hj' : j < d'.size := by simpa using hj
    rw [getElem!_pos d' i hi', getElem!_pos d' j hj'] at h1
    simpa using h1

theorem sortL_any (g cap : Nat) (l : List (Int × Int × Int)) (w : World) (hr : Row3 w g cap l) (hsm : l.length ≤ 1000000) : Calls Try.prog 55 #[.slice (some ⟨g, 0, none⟩) l.length cap, .func (.func 73) #[] #[]] w (SortGot cfL g cap l w) :=
  sort_turns cfL 73 swoL (fun args w => enters_of Try.func73 (by kernel_rfl) rfl args w) (fun x y W => byLoad_any _ _ _ _ _ _ W) g cap l w hr hsm
theorem sortF_any (g cap : Nat) (l : List (Int × Int × Int)) (w : World) (hr : Row3 w g cap l) (hsm : l.length ≤ 1000000) : Calls Try.prog 55 #[.slice (some ⟨g, 0, none⟩) l.length cap, .func (.func 56) #[] #[]] w (SortGot cfF g cap l w) :=
  sort_turns cfF 56 swoF (fun args w => enters_of Try.func56 (by kernel_rfl) rfl args w) (fun x y W => byFrom_any _ _ _ _ _ _ W) g cap l w hr hsm

end Go.Proofs.Ytkofnhimgegcnaa
