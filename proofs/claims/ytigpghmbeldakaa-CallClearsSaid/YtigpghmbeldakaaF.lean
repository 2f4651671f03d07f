/- events: the changes of demand and supply, in the order of their prices. -/
import Derived.Test.YtigpghmbeldakaaE
import Derived.Test.YtigpghmbeldakaaSH
namespace Go.Proofs.Ytigpghmbeldakaa
open Go.RowKit Go.Sort

theorem ltPrice (x y : Sp) : ltOf (fun x y : Sp => cmpT x.1 y.1) x y = decide (x.1 < y.1) := by
  unfold ltOf cmpT
  by_cases h1 : x.1 < y.1
  · simp [h1]
  · by_cases h2 : y.1 < x.1 <;> simp [h1, h2]

theorem swoPrice : SWO (ltOf fun x y : Sp => cmpT x.1 y.1) where
  irrefl x := by rw [ltPrice]; simp
  trans x y z h1 h2 := by rw [ltPrice] at *; simp at *; omega
  ntrans x y z h1 h2 := by rw [ltPrice] at *; simp at *; omega

set_option maxHeartbeats 1000000 in
theorem evcmp_any (x y : Sp) (W : World) : Calls Try.prog 85 #[.agg #[.int .i64 x.1, .int .i64 x.2.1, .int .i64 x.2.2], .agg #[.int .i64 y.1, .int .i64 y.2.1, .int .i64 y.2.2]] W fun e w' => e = .returned (.int .i64 (cmpT x.1 y.1)) ∧ ∃ q os', w' = grow (W.drewN q) os' := by
  have hcon := fun W' => cmp_i x.1 y.1 W'
  generalize cmpT x.1 y.1 = r at hcon ⊢
  go_enter Try.func85, Try.ntmps85
  go_wp2_with (go_at_call 60; refine (hcon _).mono ?_; rintro e w' ⟨rfl, rfl⟩)
  go_ret
  exact ⟨rfl, 0, _, by rw [alloc_eq_grow, alloc_eq_grow, grow_grow]; rfl⟩

theorem evLays (blk off size : Nat) (w : World) : CmpLays Try.prog 85 #[] enc3 3 (fun x y => cmpT x.1 y.1) blk off size w :=
  fun _ _ _ _ x y => evcmp_any x y _

/-- A row sorted by its prices. -/
def Sorted3 (l : List Sp) : Prop := l.Pairwise fun x y => x.1 ≤ y.1

/-- What a sort of a row leaves. -/
def SortGot (g cap : Nat) (l : List Sp) (w : World) (e : Ending) (w' : World) : Prop :=
  e = .returned (.tuple #[]) ∧ ∃ l', l'.Perm l ∧ Sorted3 l' ∧ Row3 w' g cap l' ∧ Touch (fun k => k = g) w w'

theorem sortSp_any (g cap : Nat) (l : List Sp) (w : World) (hr : Row3 w g cap l) (hsm : l.length ≤ 100000) : Calls Try.prog 84 #[.slice (some ⟨g, 0, none⟩) l.length cap, .func (.func 85) #[] #[]] w (SortGot g cap l w) := by
  have hlen := hr.len
  have h := AnyQ.slices_SortFunc sortSp 3 Try.isAgg80 Try.sizeOf80 enc3 (fun _ => rfl) (fun x v hv => by simp [enc3] at hv; rcases hv with rfl | rfl | rfl <;> rfl) (fun x y => cmpT x.1 y.1) swoPrice 85 #[] g 0 cap l.toArray w
    (fun args w => enters_of Try.func85 (by kernel_rfl) rfl args w) (evLays g 0 _ w) hr.holds hr.lt (by simp; omega)
  change Calls Try.prog 84 _ _ _ at h
  rw [List.size_toArray] at h
  refine h.mono ?_
  rintro e w' ⟨rfl, d', n, os, ⟨p1, p2, p3⟩, hs, rfl⟩
  have hsz : d'.size = l.length := by simpa using p1
  obtain ⟨r1, r2⟩ := hr.sorted d' hsz n os
  refine ⟨rfl, d'.toList, ?_, ?_, r1, r2⟩
  · have e1 : d'.extract 0 l.length = d' := by rw [← hsz]; simp
    rw [e1] at p3
    simpa using p3
  · rw [Sorted3, List.pairwise_iff_getElem]
    intro i j hi hj hij
    have h1 := hs i j (Nat.zero_le _) hij (by simpa [hsz] using hj)
    rw [ltPrice] at h1
    have hi' : i < d'.size := by simpa using hi
    have hj' : j < d'.size := by simpa using hj
    rw [getElem!_pos d' i hi', getElem!_pos d' j hj'] at h1
    simp only [decide_eq_false_iff_not, Array.getElem_toList] at h1 ⊢
    omega

/-- The events of a bid. -/
def evOf (b : Bd) : List Sp := if b.1 = 1 then [(1, b.2.2, 0), (b.2.1 + 1, -b.2.2, 0)] else [(b.2.1, 0, b.2.2)]
/-- The events, in no order. -/
def evs (l : List Bd) : List Sp := (1, 0, 0) :: (1000001, 0, 0) :: l.flatMap evOf

theorem evs_next (l : List Bd) (b : Bd) : evs (l ++ [b]) = evs l ++ evOf b := by simp [evs]
theorem evs_len (l : List Bd) : (evs l).length ≤ 2 + 2 * l.length := by
  unfold evs
  induction l with
  | nil => simp
  | cons b l ih =>
    have h2 : (evOf b).length ≤ 2 := by unfold evOf; split <;> simp
    simp only [List.flatMap_cons, List.length_cons, List.length_append] at ih ⊢
    omega
theorem evs_ok (l : List Bd) (h : ∀ b ∈ l, okB b = true) : ∀ e ∈ evs l, evOk e := by
  intro e he
  simp only [evs, List.mem_cons, List.mem_flatMap] at he
  rcases he with rfl | rfl | ⟨b, hb, he⟩
  · simp [evOk]
  · simp [evOk]
  · have hv := okB_iff.1 (h b hb)
    unfold evOf at he
    split at he
    · simp only [List.mem_cons, List.not_mem_nil, or_false] at he
      rcases he with rfl | rfl
      · simp only [evOk]; omega
      · simp only [evOk]; omega
    · simp only [List.mem_cons, List.not_mem_nil, or_false] at he
      subst he
      simp only [evOk]; omega

/-- What events returns. -/
def EventsGot (l : List Bd) (w : World) (e : Ending) (w' : World) : Prop :=
  ∃ g cap l', l'.Perm (evs l) ∧ Sorted3 l' ∧ e = .returned (.slice (some ⟨g, 0, none⟩) l'.length cap) ∧ w.heap.size ≤ g ∧ Row3 w' g cap l' ∧ Adds w w'

theorem two_row (w : World) : Row3 (w.alloc (.cells #[.int .i64 1, .int .i64 0, .int .i64 0, .int .i64 1000001, .int .i64 0, .int .i64 0] 80)) w.heap.size 2 (evs []) :=
  ⟨_, Box.new w _ _, rfl, by simp [evs], by unfold maxLen; omega, rfl⟩

set_option maxRecDepth 100000 in
set_option maxHeartbeats 4000000 in
theorem events_any (p : Option Addr) (cap : Nat) (l : List Bd) (w : World) (hN : l.length ≤ 5000) (hL : At3 w p l) (hok : ∀ b ∈ l, okB b = true) :
    Calls Try.prog 64 #[.slice p l.length cap] w (EventsGot l w) := by
  obtain ⟨N, hNl⟩ : ∃ N, N = l.length := ⟨_, rfl⟩
  rw [← hNl] at hN ⊢
  obtain ⟨j0, hj, hj0, hj1, hj2⟩ := info_parts info80
  have HJ := Lib.hid hj
  have HJ0 := Lib.hid hj0
  have HJ1 := Lib.hid hj1
  have HJ2 := Lib.hid hj2
  have HL := Lib.hid hL
  have HO := Lib.hid hok
  have HN := Lib.hid hNl
  clear hL hok hNl hj hj0 hj1 hj2
  go_enter Try.func64, Try.ntmps64
  go_wp2
  have h0 := (two_row w).own (base := w.heap.size) (Nat.le_refl _)
  have H0 := Lib.hid h0
  clear h0
  go_loopw [3, 11] (fun v i wr => ∃ k : Nat, k ≤ N ∧ i = .int .i64 k ∧ Hid (wr.ownsRow w.heap.size 80 3 v (evs (l.take k)).length ((evs (l.take k)).flatMap enc3)) ∧ Adds w wr) (fun _ i _ => N - (intOf i).toNat)
  case atStart => exact ⟨0, by omega, rfl, Lib.hid (by simpa [evs] using H0.out), (Adds.refl w).alloc _⟩
  case round =>
    obtain ⟨k, hk, rfl, hrow, hb⟩ := hrel
    by_cases hlt : k < N
    · obtain ⟨⟨s, pp, q⟩, hb3⟩ : ∃ t, l[k]? = some t := ⟨_, List.getElem?_eq_getElem (by have := HN.out; omega)⟩
      obtain ⟨g, off, rfl, d0, d1, d2⟩ := HL.out k _ hb3
      have c0 := keep_cell hb d0
      have c1 := keep_cell hb d1
      have c2 := keep_cell hb d2
      have hv := okB_iff.1 (HO.out _ (List.mem_of_getElem? hb3))
      have hel : Hid ((evs (l.take k)).length ≤ 10002) := Lib.hid (by have := evs_len (l.take k); have := List.length_take_le k l; omega)
      simp only at hv c0 c1 c2
      obtain ⟨hs1, hp1, hq1, hq2⟩ := hv
      have HE : Hid (evs (l.take (k + 1)) = evs (l.take k) ++ evOf (s, pp, q)) := Lib.hid (by rw [take_next hb3, evs_next])
      have hz := hb.size
      clear d0 d1 d2 hb3
      rcases hs1 with rfl | rfl
      · skip
        go_wp2_with (at_builtin; ((refine wpList_append_own _ rfl _ _ 82 rfl w.heap.size 80 j0 (.agg #[.int .i64 0, .int .i64 0, .int .i64 0]) 3 24 Try.underlying82 HJ.out HJ0.out HJ1.out HJ2.out rfl (by decide) u3 (evs (l.take k)).length _ rfl ((hrow.out.alloc _).alloc _) ⟨wr.heap.size + 1, 0, none⟩ 2 2 ((evOf (1, pp, q)).flatMap enc3) rfl rfl (by have h := World.news_of_block (Box.new (wr.alloc (.cells #[.int .i64 1, .int .i64 pp, .int .i64 q] 75)) #[.int .i64 1, .int .i64 q, .int .i64 0, .int .i64 (pp + 1), .int .i64 (-q), .int .i64 0] 80); rw [World.size_alloc] at h; exact h) (by simp [evOf, enc3, Value.oneCell']) (by have := hel.out; unfold maxLen; omega) (by have := hel.out; omega) (by simp; omega) ?_); intro va1 w1 hra1 hg1 _; have HR1 := Lib.hid hra1; have HG1 := Lib.hid hg1; clear hra1 hg1))
        refine ⟨⟨k + 1, by omega, by go_num, Lib.hid ?_, Below.grown ((hb.alloc _).alloc _) HG1.out (by simp; omega) (fun j hj => (hrow.out.lt j hj).1)⟩, by simp [intOf]; omega⟩
        rw [HE.out, List.length_append, List.flatMap_append]
        exact HR1.out
      · skip
        go_wp2_with (at_builtin; ((refine wpList_append_own _ rfl _ _ 82 rfl w.heap.size 80 j0 (.agg #[.int .i64 0, .int .i64 0, .int .i64 0]) 3 24 Try.underlying82 HJ.out HJ0.out HJ1.out HJ2.out rfl (by decide) u3 (evs (l.take k)).length _ rfl ((hrow.out.alloc _).alloc _) ⟨wr.heap.size + 1, 0, none⟩ 1 1 ((evOf (2, pp, q)).flatMap enc3) rfl rfl (by have h := World.news_of_block (Box.new (wr.alloc (.cells #[.int .i64 2, .int .i64 pp, .int .i64 q] 75)) #[.int .i64 pp, .int .i64 0, .int .i64 q] 80); rw [World.size_alloc] at h; exact h) (by simp [evOf, enc3, Value.oneCell']) (by have := hel.out; unfold maxLen; omega) (by have := hel.out; omega) (by simp; omega) ?_); intro va1 w1 hra1 hg1 _; have HR1 := Lib.hid hra1; have HG1 := Lib.hid hg1; clear hra1 hg1))
        refine ⟨⟨k + 1, by omega, by go_num, Lib.hid ?_, Below.grown ((hb.alloc _).alloc _) HG1.out (by simp; omega) (fun j hj => (hrow.out.lt j hj).1)⟩, by simp [intOf]; omega⟩
        rw [HE.out, List.length_append, List.flatMap_append]
        exact HR1.out
    · have hkN : l.take k = l := List.take_of_length_le (by have := HN.out; omega)
      rw [hkN] at hrow
      clear hkN
      have hpos : 0 < (evs l).length := by simp [evs]
      obtain ⟨_, hor⟩ := own_row3 hrow.out
      rcases hor with ⟨_, h0⟩ | ⟨g, cap', hv, hbase, hr3⟩
      · rw [h0] at hpos; simp at hpos
      · subst hv
        have HR3 := Lib.hid hr3
        have HB3 := Lib.hid hbase
        clear hr3 hbase hpos hrow
        go_wp2_with (go_at_call 84; refine (sortSp_any g cap' (evs l) _ HR3.out (by have := evs_len l; have := HN.out; omega)).mono ?_; rintro e w2 ⟨rfl, l', x1, x2, x3, x4⟩; have X1 := Lib.hid x1; have X2 := Lib.hid x2; have X3 := Lib.hid x3; have X4 := Lib.hid x4; clear x1 x2 x3 x4)
        go_ret
        exact ⟨g, cap', l', X1.out, X2.out, by rw [X1.out.length_eq]; rfl, HB3.out, X3.out, Touch.adds hb X4.out (fun i hi => by rw [hi]; exact HB3.out)⟩

end Go.Proofs.Ytigpghmbeldakaa
