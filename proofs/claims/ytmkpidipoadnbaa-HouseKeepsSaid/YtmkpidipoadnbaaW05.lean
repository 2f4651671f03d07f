/- monthly.sizes: the numbers without their signs. -/
import Derived.Test.YtmkpidipoadnbaaW04
import Derived.Deep.MidRow
import Derived.Laws.Rows
namespace Go.Proofs.Ytmkpidipoadnbaa
open Go Go.RowKit Go.Sort

/-- Cells put into an array. -/
def putAt (old : Array Value) : Nat → List Value → Array Value
  | _, [] => old
  | o, v :: r => putAt (old.setIfInBounds o v) (o + 1) r

theorem Box.setCells {b : Nat} {t : TypeId} : ∀ (vs : List Value) (o : Nat) {w : World} {old : Array Value}, Box w b old t → Box (w.setCells b o vs) b (putAt old o vs) t
  | [], _, _, _, h => h
  | v :: r, o, _, _, h => Box.setCells r (o + 1) (h.set o v)
theorem Box.setCells_far {b c : Nat} {t : TypeId} (hne : b ≠ c) : ∀ (vs : List Value) (o : Nat) {w : World} {old : Array Value}, Box w b old t → Box (w.setCells c o vs) b old t
  | [], _, _, _, h => h
  | v :: r, o, _, _, h => Box.setCells_far hne r (o + 1) (h.far hne v)
theorem Adds.setCells {w : World} {b : Nat} (hb : w.heap.size ≤ b) : ∀ (vs : List Value) (o : Nat) {w' : World}, Adds w w' → Adds w (w'.setCells b o vs)
  | [], _, _, h => h
  | v :: r, o, _, h => Adds.setCells hb r (o + 1) (h.set hb v)

theorem putAt_size : ∀ (vs : List Value) (o : Nat) (old : Array Value), (putAt old o vs).size = old.size
  | [], _, _ => rfl
  | v :: r, o, old => by rw [putAt, putAt_size r]; simp
theorem putAt_below : ∀ (vs : List Value) (o : Nat) (old : Array Value) (j : Nat), j < o → (putAt old o vs)[j]? = old[j]?
  | [], _, _, _, _ => rfl
  | v :: r, o, old, j, h => by
    rw [putAt, putAt_below r _ _ _ (by omega), Array.getElem?_setIfInBounds]
    rw [if_neg (by omega)]
theorem putAt_in : ∀ (vs : List Value) (o : Nat) (old : Array Value) (j : Nat), o + vs.length ≤ old.size → j < vs.length → (putAt old o vs)[o + j]? = vs[j]?
  | v :: r, o, old, 0, h, _ => by
    rw [putAt, putAt_below r _ _ _ (by omega)]
    simp at h
    simp [Array.getElem?_setIfInBounds]
    omega
  | v :: r, o, old, j + 1, h, hj => by
    rw [putAt]
    have := putAt_in r (o + 1) (old.setIfInBounds o v) j (by simp at h ⊢; omega) (by simpa using hj)
    rw [show o + (j + 1) = o + 1 + j by omega, this]
    rfl
theorem putAt_above : ∀ (vs : List Value) (o : Nat) (old : Array Value) (j : Nat), o + vs.length ≤ j → (putAt old o vs)[j]? = old[j]?
  | [], _, _, _, _ => rfl
  | v :: r, o, old, j, h => by
    simp at h
    rw [putAt, putAt_above r _ _ _ (by omega), Array.getElem?_setIfInBounds, if_neg (by omega)]
theorem putAt_whole (vs : List Value) (old : Array Value) (h : vs.length = old.size) : putAt old 0 vs = vs.toArray := by
  apply Array.ext_getElem?
  intro j
  by_cases hj : j < vs.length
  · have := putAt_in vs 0 old j (by omega) hj
    rw [Nat.zero_add] at this
    rw [this]
    simp
  · rw [putAt_above vs 0 old j (by omega)]
    rw [Array.getElem?_eq_none (by omega)]
    simp; omega
theorem Box.there {w : World} {b : Nat} {vs : Array Value} {t : TypeId} (h : Box w b vs t) (o n : Nat) (hn : o + n ≤ vs.size) : w.there b o n := fun j hj => by
  refine ⟨?_, h.free _⟩
  rw [h.cell]
  simp; omega

/-- A result of many cells, read out of its block. -/
theorem post_row {f : Func} {Q : Ending → World → Prop} {a : Act} {W : World} {b i : Nat} {vs : Array Value} {T ty : TypeId} {d : TypeDesc} (hr : f.results = #[ResultVar.cell i ty]) (hd : a.defers = []) (hp : a.tmps.getD i undef = .pointer (some ⟨b, 0, none⟩))
    (hdd : (match d with | .struct _ | .array _ _ => true | _ => false) = true) (hu : Try.prog.underlying ty = some d) (hi : (Try.prog.info? ty).map (·.size) = some vs.size)
    (hb : Box W b vs T) (hq : Q (.returned (.agg vs)) W) : bodyPost Try.prog f Q .ret a W :=
  bodyPost_ret (by refine results_cell_row hr a.tmps W b T vs (0, 0) d hp hb hu ?_ hi; cases d <;> simp_all) hd hq

theorem months_one (l : List Int) : ((l.map (Value.int .i64)).toArray).all (·.oneCell') = true := all_oneCell_toArray (ints_one l)
theorem info_month : (Try.prog.info? 61).map (·.size) = some 12 := by kernel_rfl

set_option maxRecDepth 100000 in
theorem run_index12 (l : List Int) (hl : l.length = 12) (k : Nat) (x : Int) (hx : l[k]? = some x) (w : World) :
    (Instr.index 61 (.agg (l.map (Value.int .i64)).toArray) (.int .i64 (k : Int))).run Try.prog w = .ok (.int .i64 x) w := by
  have hk : k < 12 := by have := (List.getElem?_eq_some_iff.1 hx).1; omega
  have hk2 : (k : Int) < 12 := by omega
  have hk3 : (0 : Int) ≤ (k : Int) := by omega
  have hz := Try.sizeOf2 w
  simp [Instr.index, asIntOf, part, go_sem, hk3, hk, hl]
  exact (List.getElem?_eq_some_iff.1 hx).2

/-- The numbers without their signs. -/
def absT (l : List Int) : List Int := l.map fun x => max x (-x)

theorem abs_len (l : List Int) : (absT l).length = l.length := by simp [absT]
/-- The first k without their signs. -/
def absK (l : List Int) (k : Nat) : List Int := absT (l.take k) ++ l.drop k
theorem absK_len (l : List Int) (k : Nat) : (absK l k).length = l.length := by simp [absK, absT]; omega
theorem abs_step {l : List Int} {k : Nat} {x : Int} (hx : l[k]? = some x) : (absK l k).set k (max x (-x)) = absK l (k + 1) := by
  obtain ⟨hk, he⟩ := List.getElem?_eq_some_iff.1 hx
  unfold absK
  rw [List.take_succ_eq_append_getElem hk, List.drop_eq_getElem_cons hk, he]
  have h1 : (absT (l.take k)).length = k := by simp [absT]; omega
  rw [List.set_append_right _ _ (by omega), h1, Nat.sub_self]
  simp [absT]
theorem set_ints (l : List Int) (k : Nat) (x : Int) : (l.map (Value.int .i64)).toArray.setIfInBounds k (.int .i64 x) = ((l.set k x).map (Value.int .i64)).toArray := by
  rw [List.setIfInBounds_toArray, List.map_set]

set_option maxRecDepth 100000 in
set_option maxHeartbeats 4000000 in
theorem sizes_any (l : List Int) (w : World) (hl : l.length = 12) (hb : Few 4611686018427387904 l) :
    Calls Try.prog 54 #[monthV l] w fun e w' => e = .returned (monthV (absT l)) ∧ Adds w w' := by
  have HL := Lib.hid hl
  have HB := Lib.hid hb
  have HIX := Lib.hid (fun k x hx w => run_index12 l hl k x hx w)
  unfold monthV at *
  obtain ⟨av, hav⟩ : ∃ v, v = (l.map (Value.int .i64)).toArray := ⟨_, rfl⟩
  rw [← hav] at HIX ⊢
  have HAV := Lib.hid hav
  clear hl hb hav
  go_enter Try.func54, Try.ntmps54
  go_upto_region 1 with fail
  have k0 := (Box.new w av 61).alloc (.cells #[.int .i64 0, .int .i64 0, .int .i64 0, .int .i64 0, .int .i64 0, .int .i64 0, .int .i64 0, .int .i64 0, .int .i64 0, .int .i64 0, .int .i64 0, .int .i64 0] 61)
  have k1 := Box.new (w.alloc (.cells av 61)) #[.int .i64 0, .int .i64 0, .int .i64 0, .int .i64 0, .int .i64 0, .int .i64 0, .int .i64 0, .int .i64 0, .int .i64 0, .int .i64 0, .int .i64 0, .int .i64 0] 61
  have hA : Adds w ((w.alloc (.cells av 61)).alloc (.cells #[.int .i64 0, .int .i64 0, .int .i64 0, .int .i64 0, .int .i64 0, .int .i64 0, .int .i64 0, .int .i64 0, .int .i64 0, .int .i64 0, .int .i64 0, .int .i64 0] 61)) := ((Adds.refl w).alloc _).alloc _
  rw [World.size_alloc] at k1
  obtain ⟨zv, hzv⟩ : ∃ v : Array Value, v = #[.int .i64 0, .int .i64 0, .int .i64 0, .int .i64 0, .int .i64 0, .int .i64 0, .int .i64 0, .int .i64 0, .int .i64 0, .int .i64 0, .int .i64 0, .int .i64 0] := ⟨_, rfl⟩
  have HZ : Hid (zv.size = 12) := Lib.hid (by rw [hzv]; rfl)
  rw [← hzv] at k0 k1 hA ⊢
  clear hzv
  obtain ⟨W, hW⟩ : ∃ V, V = (w.alloc (.cells av 61)).alloc (.cells zv 61) := ⟨_, rfl⟩
  rw [← hW] at k0 k1 hA ⊢
  have HA := Lib.hid hA
  clear hW hA
  obtain ⟨s, hs⟩ : ∃ s, s = w.heap.size := ⟨_, rfl⟩
  rw [← hs] at k0 k1 ⊢
  have K0 := Lib.hid k0
  have K1 := Lib.hid k1
  have HS := Lib.hid hs
  clear hs k0 k1
  go_upto_region 2 with (refine wpList_load_row rfl 61 _ rfl s rfl 61 av (0, 0) _ K0.out Try.underlying61 rfl (by rw [info_month, HAV.out]; simp [HL.out]) ?_)
  go_loopw [6] (fun v6 wr => ∃ k : Nat, k ≤ 12 ∧ v6 = .int .i64 k ∧ Hid (Box wr s ((absK l k).map (Value.int .i64)).toArray 61) ∧ Hid (Box wr (s + 1) zv 61) ∧ Hid (Adds w wr)) (fun v6 _ => 12 - (intOf v6).toNat)
  case atStart => exact ⟨0, by omega, rfl, Lib.hid (by rw [show absK l 0 = l by simp [absK, absT], ← HAV.out]; exact K0.out), K1, HA⟩
  case round =>
    obtain ⟨k, hk, rfl, R0, R1, RA⟩ := hrel
    clear K0 K1 HA
    by_cases hlt : k < 12
    · have hlt2 : (k : Int) < 12 := by omega
      obtain ⟨x, hx⟩ : ∃ x, l[k]? = some x := ⟨_, List.getElem?_eq_getElem (by have := HL.out; omega)⟩
      have hix := HIX.out k x hx
      have HNX := Lib.hid (abs_step hx)
      have hbx := HB.out x (List.mem_of_getElem? hx)
      have hbx1 := hbx.1
      have hbx2 := hbx.2
      obtain ⟨y, hy⟩ : ∃ y, (absK l k)[k]? = some y := ⟨_, List.getElem?_eq_getElem (by rw [absK_len]; have := HL.out; omega)⟩
      have d0 : wr.cell? ⟨s, k, none⟩ = some (.int .i64 y) := month_box R0.out hy
      have d1 : wr.frozen? ⟨s, k, none⟩ = false := R0.out.free k
      have hk0 : (0 : Int) ≤ (k : Int) := by omega
      clear hx hbx hy
      go_wp2
      exact ⟨⟨k + 1, by omega, by go_num, Lib.hid (by rw [← HNX.out, ← set_ints]; exact R0.out.set k _), Lib.hid (R1.out.far (by show s + 1 ≠ s; omega) _), Lib.hid (RA.out.set (by have := HS.out; show _ ≤ s; omega) _)⟩, by simp [intOf]; omega⟩
    · have hkk : k = 12 := by omega
      subst hkk
      have e1 : absK l 12 = absT l := by
        have := HL.out
        unfold absK
        rw [List.take_of_length_le (by omega), List.drop_eq_nil_of_le (by omega), List.append_nil]
      rw [e1] at R0
      clear e1 hlt
      have hsz : ((absT l).map (Value.int .i64)).toArray.size = 12 := by simp [abs_len, HL.out]
      have HSZ := Lib.hid hsz
      clear hsz
      go_wp2_with (first
        | (refine wpList_load_row rfl 61 _ rfl s rfl 61 ((absT l).map (Value.int .i64)).toArray (0, 0) _ R0.out Try.underlying61 rfl (by rw [info_month, HSZ.out]) ?_)
        | (refine wpList_store_mid rfl 61 _ _ rfl (s + 1) 0 ((absT l).map (Value.int .i64)).toArray rfl rfl (R1.out.there 0 _ (by rw [HSZ.out, HZ.out]; omega)) (by rw [info_month, HSZ.out]) (months_one _) ?_))
      have hbx := R1.out.setCells (((absT l).map (Value.int .i64)).toArray).toList 0
      rw [putAt_whole _ _ (by rw [Array.length_toList, HSZ.out, HZ.out])] at hbx
      exact post_row rfl rfl rfl rfl Try.underlying61 (by rw [info_month, HSZ.out]) hbx ⟨rfl, RA.out.setCells (by have := HS.out; omega) _ _⟩

end Go.Proofs.Ytmkpidipoadnbaa
