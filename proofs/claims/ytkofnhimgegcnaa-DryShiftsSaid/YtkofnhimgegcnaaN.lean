/- lay, for any loads: the network that is filled then. -/
import Derived.Test.YtkofnhimgegcnaaM
namespace Go.Proofs.Ytkofnhimgegcnaa
open Go Go.RowKit Go.Maps

theorem sort_nil (p : Option Addr) (cap : Nat) (w : World) : Calls Try.prog 69 #[.slice p 0 cap] w fun e w' => e = .returned (.tuple #[]) ∧ w = w' :=
  (slices_Sort_int_none p cap w).mono (by rintro e w' ⟨rfl, rfl⟩; exact ⟨rfl, rfl⟩)
theorem compact_nil (p : Option Addr) (cap : Nat) (w : World) : Calls Try.prog 75 #[.slice p 0 cap] w fun e w' => e = .returned (.slice p 0 cap) ∧ w = w' :=
  (slices_Compact_int_empty p cap w).mono (by rintro e w' ⟨rfl, rfl⟩; exact ⟨rfl, rfl⟩)

set_option maxRecDepth 100000 in
set_option maxHeartbeats 4000000 in
theorem lay_nil (p : Option Addr) (cl : Nat) (kq : Int) (w : World) :
    Calls Try.prog 50 #[.slice p 0 cl, .int .i64 kq] w fun e w' => ∃ b go gw co, e = .returned (.pointer (some ⟨b, 0, none⟩)) ∧ NetAt ⟨b, go, gw, co, 0, none, .slice p 0 cl, nilV⟩ [] 2 w' (fun _ => 0) nilV ∧ w.heap.size ≤ b ∧ w.heap.size ≤ gw ∧ Adds w w' := by
  obtain ⟨j5, hj5, hj50, hj51, hj52⟩ := info_parts info35
  have HJ5 := Lib.hid hj5
  have HJ50 := Lib.hid hj50
  have HJ51 := Lib.hid hj51
  have HJ52 := Lib.hid hj52
  clear hj5 hj50 hj51 hj52
  have hmm := @run_makeMap Try.prog
  go_enter Try.func50, Try.ntmps50
  go_upto_region 3 with fail
  obtain ⟨b, hb⟩ : ∃ b, b = w.heap.size := ⟨_, rfl⟩
  obtain ⟨W1, hW1⟩ : ∃ V, V = w.alloc (.cells #[.slice p 0 cl, nilV, nilV, nilV, nilV] 100) := ⟨_, rfl⟩
  rw [← hW1, ← hb]
  have hB1 : Box W1 b #[.slice p 0 cl, nilV, nilV, nilV, nilV] 100 := by rw [hW1, hb]; exact Box.new _ _ _
  have hA1 : Adds w W1 := by rw [hW1]; exact (Adds.refl _).alloc _
  have k1 : W1.cell? ⟨b, 1, none⟩ = some nilV := hB1.cell 1
  have f1 : W1.frozen? ⟨b, 1, none⟩ = false := hB1.free 1
  have HB1 := Lib.hid hB1
  have HA1 := Lib.hid hA1
  have HBW := Lib.hid hb
  clear hB1 hA1 hW1 hb
  go_loopw [22] (fun v22 wr => v22 = .int .i64 0 ∧ Hid (Box wr b #[.slice p 0 cl, nilV, nilV, nilV, nilV] 100) ∧ Hid (Adds w wr)) (fun _ _ => 0)
  case atStart => exact ⟨rfl, HB1, HA1⟩
  case round =>
    clear HB1 HA1 k1 f1
    obtain ⟨rfl, HB1, HA1⟩ := hrel
    obtain ⟨W1, hW1⟩ : ∃ V, V = wr := ⟨_, rfl⟩
    rw [← hW1] at HB1 HA1 ⊢
    clear hW1
    have k1 : W1.cell? ⟨b, 1, none⟩ = some nilV := HB1.out.cell 1
    have f1 : W1.frozen? ⟨b, 1, none⟩ = false := HB1.out.free 1
    go_upto_region 9 with (first
      | (go_at_call 69; refine (sort_nil none 0 _).mono ?_; rintro e w2 ⟨rfl, rfl⟩)
      | (go_at_call 75; refine (compact_nil none 0 _).mono ?_; rintro e w2 ⟨rfl, rfl⟩))
    obtain ⟨W4, hW4⟩ : ∃ V, V = W1.setCell ⟨b, 1, none⟩ (.slice none 0 0) := ⟨_, rfl⟩
    rw [← hW4]
    have hB4 : Box W4 b #[.slice p 0 cl, nilV, nilV, nilV, nilV] 100 := by rw [hW4]; exact HB1.out.set 1 _
    have hA4 : Adds w W4 := by have := HBW.out; rw [hW4]; exact HA1.out.set (p := ⟨b, 1, none⟩) (by simp; omega) _
    have kb1 : W4.cell? ⟨b, 1, none⟩ = some nilV := hB4.cell 1
    have kb3 : W4.cell? ⟨b, 3, none⟩ = some nilV := hB4.cell 3
    have hb4l := hB4.lt
    have HB4 := Lib.hid hB4
    have HA4 := Lib.hid hA4
    clear hB4 hA4 hW4 k1 f1 HB1 HA1
    go_upto_region 10 with (first
      | (refine wpList_make_full _ rfl _ _ 98 rfl W4.heap.size 35 j5 nilV 1 Try.underlying98 HJ5.out HJ50.out HJ51.out .i64 .i64 2 2 2 rfl rfl rfl rfl (by rw [HJ52.out]; omega) (by unfold maxLen; omega) (Nat.le_refl _) ?_; intro W5 ho5 hg5; have HO5 := Lib.hid ho5; have HG5 := Lib.hid hg5; have kb53 : W5.cell? ⟨b, 3, none⟩ = some nilV := (World.cell?_of_block (a := ⟨b, 3, none⟩) (hg5.block b hb4l (by simp))).trans kb3; have kf53 : W5.frozen? ⟨b, 3, none⟩ = false := (HB4.out.same (hg5.block b hb4l (by simp))).free 3; clear ho5 hg5)
      | go_in)
    obtain ⟨go, hgo⟩ : ∃ g, g = W4.heap.size := ⟨_, rfl⟩
    rw [← hgo]
    have HB5 := HB4.out.same (HG5.out.block b hb4l (by simp))
    have HA5 : Adds w W5 := HA4.out.grown HG5.out HA4.out.size (fun j hj => by cases hj)
    have hown5 := HO5.out
    obtain ⟨hl5, h5⟩ := hown5
    rcases h5 with ⟨h5, _⟩ | ⟨g', cap', cur, hv5, hb5, hg5, hle5, hmx5, hsz5, htk5⟩
    · cases h5
    simp only [Value.slice.injEq, Option.some.injEq, Addr.mk.injEq] at hv5
    obtain ⟨⟨hg', -, -⟩, -, hcap⟩ := hv5
    have hgogo : go < W5.heap.size := by rw [hgo, hg']; exact (Array.getElem?_eq_some_iff.1 hg5).1
    have hcur : ∀ v, v < 2 → cur[v]? = some nilV := fun v hv => by
      have e1 : (madeCells nilV.cells (2 * 1)).toList = List.replicate 2 nilV := by rw [Nat.mul_one]; exact toList_madeCells_one _ _
      rw [e1, Nat.mul_one] at htk5
      have : (cur.toList.take 2)[v]? = some nilV := by rw [htk5, List.getElem?_replicate, if_pos hv]
      rw [List.getElem?_take, if_pos hv] at this
      simpa using this
    rw [← hg', ← hgo] at hg5
    obtain ⟨W6, hW6⟩ : ∃ V, V = W5.setCell ⟨b, 3, none⟩ (.slice (some ⟨go, 0, none⟩) 2 2) := ⟨_, rfl⟩
    rw [← hW6]
    have hbgo : b ≠ go := by omega
    have hB6 : Box W6 b #[.slice p 0 cl, nilV, nilV, .slice (some ⟨go, 0, none⟩) 2 2, nilV] 100 := by rw [hW6]; exact HB5.set 3 _
    have hg6 : W6.heap[go]? = some (.cells cur 35 (0, 0)) := by rw [hW6, Below.heap_setCell _ _ _ _ (by simp; omega)]; exact hg5
    have hA6 : Adds w W6 := by have hbw := HBW.out; rw [hW6]; exact HA5.set (p := ⟨b, 3, none⟩) (by simp; omega) _
    have kb61 : W6.cell? ⟨b, 1, none⟩ = some nilV := hB6.cell 1
    have hbl6 := hB6.lt
    have hgo6 : go < W6.heap.size := (Array.getElem?_eq_some_iff.1 hg6).1
    have HB6 := Lib.hid hB6
    have HG6 := Lib.hid hg6
    have HA6 := Lib.hid hA6
    have HCUR := Lib.hid hcur
    have HBG := Lib.hid hbgo
    clear hW6 hg6 hcur HB5 HA5 HO5 HG5 HB4 HA4 kb53 kf53 kb3 kb1 hg5 hl5 hb5 hle5 hmx5 hsz5 htk5 hg' hcap hB6 hA6 hgo hgogo hb4l hbgo
    go_upto_region 12 with fail
    obtain ⟨W7, hW7⟩ : ∃ V, V = W6.alloc (.map #[] 0) := ⟨_, rfl⟩
    rw [← hW7]
    have hA7 : Adds W6 W7 := by rw [hW7]; exact (Adds.refl _).alloc _
    have HB7 := Lib.hid (HB6.out.later hA7)
    have HG7 : Hid (W7.heap[go]? = some (.cells cur 35 (0, 0))) := Lib.hid ((hA7.block go hgo6).trans HG6.out)
    have HA7 := Lib.hid (HA6.out.trans hA7)
    clear hW7 kb61 hA7 HB6 HG6 HA6 hbl6 hgo6 hmm
    go_loopw [72] (fun v72 wr => v72 = .int .i64 0 ∧ Hid (Box wr b #[.slice p 0 cl, nilV, nilV, .slice (some ⟨go, 0, none⟩) 2 2, nilV] 100) ∧ Hid (wr.heap[go]? = some (.cells cur 35 (0, 0))) ∧ Hid (Adds w wr)) (fun _ _ => 0)
    case atStart => exact ⟨rfl, HB7, HG7, HA7⟩
    case round =>
      clear HB7 HG7 HA7
      obtain ⟨rfl, HB7, HG7, HA7⟩ := hrel
      go_upto_region 17 with fail
      go_loopw [83] (fun v83 wr => v83 = .int .i64 0 ∧ Hid (Box wr b #[.slice p 0 cl, nilV, nilV, .slice (some ⟨go, 0, none⟩) 2 2, nilV] 100) ∧ Hid (wr.heap[go]? = some (.cells cur 35 (0, 0))) ∧ Hid (Adds w wr)) (fun _ _ => 0)
      case atStart => exact ⟨rfl, HB7, HG7, HA7⟩
      case round =>
        clear HB7 HG7 HA7
        obtain ⟨rfl, HB7, HG7, HA7⟩ := hrel
        have kb71 : wr.cell? ⟨b, 1, none⟩ = some nilV := HB7.out.cell 1
        go_upto_region 27 with fail
        clear kb71
        go_loopw [125] (fun v125 wr => v125 = .int .i64 0 ∧ Hid (Box wr b #[.slice p 0 cl, nilV, nilV, .slice (some ⟨go, 0, none⟩) 2 2, nilV] 100) ∧ Hid (wr.heap[go]? = some (.cells cur 35 (0, 0))) ∧ Hid (Adds w wr)) (fun _ _ => 0)
        case atStart => exact ⟨rfl, HB7, HG7, HA7⟩
        case round =>
          clear HB7 HG7 HA7
          obtain ⟨rfl, HB7, HG7, HA7⟩ := hrel
          go_wp2
          go_ret
          have hbw := HBW.out
          have hbg := HBG.out
          have hA := HA7.out
          have hgl : go < wr.heap.size := (Array.getElem?_eq_some_iff.1 HG7.out).1
          have hbl := HB7.out.lt
          refine ⟨b, go, wr.heap.size + 1, 2, rfl, ⟨HB7.out, ⟨fun e => ?_, fun v hv => ?_⟩, fun h => by simp at h, ?_⟩, by omega, by have := hA.size; omega, hA⟩
          · dsimp only at e
            omega
          · refine ⟨none, 0, ?_, fun p x hx => by simp [outE] at hx⟩
            have h0 : (outE [] v).length = 0 := by simp [outE]
            rw [h0]
            simp [World.cell?, HG7.out, HCUR.out v hv]
          · dsimp only
            omega

/-- What lay returns: a network with nothing in it. -/
structure Laid (l : List Ld) (kq : Int) (vl : Value) (w w' : World) (K : Plot) : Prop where
  net : NetAt K (netE (timesOf l) kq l) (2 + l.length + (timesOf l).length) w' (fun _ => 0) nilV
  loads : K.vl = vl
  times : 0 < l.length → ∃ gt ct, K.vt = .slice (some ⟨gt, 0, none⟩) (timesOf l).length ct ∧ RowI 3 .i64 w' gt ct (timesOf l) ∧ gt ≠ K.b ∧ gt ≠ K.gw ∧ w.heap.size ≤ gt
  nil : l.length = 0 → K.vt = nilV
  low : w.heap.size ≤ K.b ∧ w.heap.size ≤ K.gw
  adds : Adds w w'

theorem timesOf_nil : timesOf [] = [] := by
  have h := times_of (timesL [])
  have : ∀ x, x ∉ timesOf [] := fun x hx => by
    have := (h.mem x).1 hx
    simp [timesL] at this
  exact List.eq_nil_iff_forall_not_mem.2 this

theorem timesOf_len (l : List Ld) : (timesOf l).length ≤ 2 * l.length := by
  unfold timesOf
  have := compact_len ((timesL l).mergeSort fun x y => decide (x ≤ y))
  rw [List.length_mergeSort, timesL_len] at this
  exact this

theorem timesOf_spec (l : List Ld) : Times (timesOf l) (timesL l) := times_of _

theorem lay_laid (p : Option Addr) (cl : Nat) (l : List Ld) (kq : Int) (w : World) (hL : LoadsAt w p l) (hok : ∀ x ∈ l, okN x) (hn : l.length ≤ 256) (hK0 : 0 ≤ kq) (hK1 : kq ≤ 256) :
    Calls Try.prog 50 #[.slice p l.length cl, .int .i64 kq] w fun e w' => ∃ K, e = .returned (.pointer (some ⟨K.b, 0, none⟩)) ∧ Laid l kq (.slice p l.length cl) w w' K := by
  by_cases h0 : l.length = 0
  · have hl : l = [] := List.length_eq_zero_iff.1 h0
    subst hl
    refine (lay_nil p cl kq w).mono ?_
    rintro e w' ⟨b, go, gw, co, rfl, h1, h2, h3, h4⟩
    have e1 : netE (timesOf []) kq [] = [] := by rw [timesOf_nil]; rfl
    have e2 : 2 + ([] : List Ld).length + (timesOf []).length = 2 := by rw [timesOf_nil]; rfl
    refine ⟨⟨b, go, gw, co, 0, none, .slice p 0 cl, nilV⟩, rfl, ⟨?_, rfl, fun h => by simp at h, fun _ => rfl, ⟨h2, h3⟩, h4⟩⟩
    rw [e1, e2]
    exact h1
  · refine (lay_any p cl l kq w hL hok (by omega) hn hK0 hK1).mono ?_
    rintro e w' ⟨b, go, gt, ct, base, co, vw, T, rfl, rfl, h1, h2, h3, h4, h5, h6, h7, h8, h9, h10⟩
    obtain ⟨gw, cw, hgw, hnet⟩ := h3.netAt (netE_pos (by omega))
    have hlt := h3.lt
    exact ⟨⟨b, go, gw, co, cw, some ⟨gw, 0, none⟩, .slice p l.length cl, .slice (some ⟨gt, 0, none⟩) (timesOf l).length ct⟩, rfl, ⟨hnet, rfl, fun _ => ⟨gt, ct, rfl, h2, h8, by dsimp only; omega, h6⟩, fun h => absurd h h0, ⟨h4, by dsimp only; omega⟩, h10⟩⟩

theorem laid_sane {l : List Ld} {kq : Int} (hok : ∀ x ∈ l, okN x) (hn : l.length ≤ 256) (hK0 : 0 ≤ kq) (hK1 : kq ≤ 256) : Sane (netE (timesOf l) kq l) (2 + l.length + (timesOf l).length) := by
  by_cases h0 : l.length = 0
  · have hl : l = [] := List.length_eq_zero_iff.1 h0
    subst hl
    have e1 : netE (timesOf []) kq [] = [] := by rw [timesOf_nil]; rfl
    have e2 : 2 + ([] : List Ld).length + (timesOf []).length = 2 := by rw [timesOf_nil]; rfl
    rw [e1, e2]
    exact ⟨fun k hk => by simp at hk, by omega, by omega, by simp, fun k hk => by simp at hk⟩
  · exact netE_sane (timesOf_spec l) hok (by omega) hn (timesOf_len l) hK0 hK1

end Go.Proofs.Ytkofnhimgegcnaa
