/- handOver: the positions of a member that is out are dealt to others. -/
import Derived.Test.YtmkpidipoadnbaaW34
import Derived.Shelf.Abstract
namespace Go.Proofs.Ytmkpidipoadnbaa
open Go Go.RowKit Go.Sort

theorem info_ptr : (Try.prog.info? 98).map (fun i => (i.zero, i.size, i.bytes)) = some (some (.pointer none), 1, 8) := by kernel_rfl
/-- Whether a member's number is a pot. -/
def potB (h : Hs) (ab : Bool) (val : Ac → Int) (i : Nat) : Bool := match h.ac[i]? with | some a => !a.out && (val a != 0 && decide (0 < val a) == ab) | none => false
def potL (h : Hs) (ab : Bool) (val : Ac → Int) (k : Nat) : List Nat := (List.range k).filter (potB h ab val)
theorem potL_succ (h : Hs) (ab : Bool) (val : Ac → Int) (k : Nat) : potL h ab val (k + 1) = potL h ab val k ++ (if potB h ab val k = true then [k] else []) := by
  unfold potL
  rw [List.range_succ, List.filter_append]
  congr 1
  by_cases c : potB h ab val k = true
  · rw [if_pos c]; simp [c]
  · rw [if_neg c]; simp [c]
theorem potL_len (h : Hs) (ab : Bool) (val : Ac → Int) (k : Nat) : (potL h ab val k).length ≤ k := by
  unfold potL
  have := List.length_filter_le (potB h ab val) (List.range k)
  rw [List.length_range] at this
  exact this
/-- Where a member's number lies. -/
def potAt (ga o : Nat) (i : Nat) : At := (ga, i * 15 + o)

section
variable {w : World} {base b ga ca cm ck : Nat} {pm pk : Option Addr} {h : Hs}
set_option maxRecDepth 100000 in
set_option maxHeartbeats 2000000 in
theorem pots_any (hh : HouseAt w base b ga ca pm cm pk ck h) (hn : h.ac.length ≤ 64) (ab : Bool) (val : Ac → Int) (o g : Nat) (cb : Array Value) (hval : ∀ a ∈ h.ac, (encA a)[o]? = some (.int .i64 (val a)))
    (hpick : ∀ i, i < h.ac.length → ∀ W, Adds w W → Calls Try.prog g (#[.pointer (some ⟨ga, i * 15, none⟩)] ++ cb) W fun e w' => e = .returned (.pointer (some ⟨ga, i * 15 + o, none⟩)) ∧ Adds W w') (he : ∀ (args : Array Value) (w : World), (callFunc g args).run Try.prog w = .ok (.enter g args) w) :
    Calls Try.prog 45 #[.pointer (some ⟨b, 0, none⟩), .bool ab, .func (.func g) #[] cb] w fun r w' => ∃ q c, r = .returned (.slice q (potL h ab val h.ac.length).length c) ∧ w'.ownsRow w.heap.size 98 1 (.slice q (potL h ab val h.ac.length).length c) (potL h ab val h.ac.length).length ((potL h ab val h.ac.length).map fun i => ptrV (potAt ga o i)) ∧ Adds w w' := by
  obtain ⟨j0, hj, hj0, hj1, hj2⟩ := info_parts info_ptr
  have HJ := Lib.hid hj
  have HJ0 := Lib.hid hj0
  have HJ1 := Lib.hid hj1
  have HJ2 := Lib.hid hj2
  clear hj hj0 hj1 hj2
  have HC0 := Lib.hid (fun W (hW : Adds w W) => (hh.later hW).c0)
  have HOUT := Lib.hid (fun W (hW : Adds w W) (i : Nat) (a : Ac) (hi : h.ac[i]? = some a) => (hh.later hW).acc hi 14 _ (encA_out a))
  have HVAL := Lib.hid (fun W (hW : Adds w W) (i : Nat) (a : Ac) (hi : h.ac[i]? = some a) => (hh.later hW).acc hi o _ (hval a (List.mem_of_getElem? hi)))
  have HPK := Lib.hid hpick
  obtain ⟨n, hnn⟩ : ∃ n, n = h.ac.length := ⟨_, rfl⟩
  rw [← hnn] at hn HC0 HPK ⊢
  have HNN := Lib.hid hnn
  clear hh hval hpick hnn
  go_enter Try.func45, Try.ntmps45
  have c0 := HC0.out w (Adds.refl w)
  go_upto_region 3 with fail
  clear c0
  go_loopw [16, 7] (fun v16 v7 wr => ∃ (k m : Nat), k ≤ n ∧ m ≤ k ∧ v16 = .int .i64 k ∧ Hid (m = (potL h ab val k).length) ∧ Hid (wr.ownsRow w.heap.size 98 1 v7 m ((potL h ab val k).map fun i => ptrV (potAt ga o i))) ∧ Hid (Adds w wr)) (fun v16 _ _ => n - (intOf v16).toNat)
  case atStart => exact ⟨0, 0, by omega, by omega, rfl, Lib.hid rfl, Lib.hid (World.ownsRow_nil _ _ _ _), Lib.hid (Adds.refl _)⟩
  case round =>
    obtain ⟨k, m, hk, hm, rfl, HM, HO, HAD⟩ := hrel
    by_cases hlt : k < n
    · have hlt2 : (k : Int) < (n : Int) := by omega
      have hk0 : (0 : Int) ≤ (k : Int) := by omega
      obtain ⟨a, ha⟩ : ∃ a, h.ac[k]? = some a := ⟨_, List.getElem?_eq_getElem (by have := HNN.out; omega)⟩
      have c0 := HC0.out wr HAD.out
      have HCA := Lib.hid (HPK.out k hlt wr HAD.out)
      have HE1 := Lib.hid (fun W hW => HOUT.out W hW k a ha)
      have HE2 := Lib.hid (fun W hW => HVAL.out W hW k a ha)
      have HSU := Lib.hid (potL_succ h ab val k)
      obtain ⟨v, hv⟩ : ∃ v, v = val a := ⟨_, rfl⟩
      obtain ⟨ot, hot⟩ : ∃ ot, ot = a.out := ⟨_, rfl⟩
      rw [← hv] at HE2
      rw [← hot] at HE1
      obtain ⟨b0, hb0⟩ : ∃ b0, (v != 0) = b0 := ⟨_, rfl⟩
      obtain ⟨b1, hb1⟩ : ∃ b1, decide (0 < v) = b1 := ⟨_, rfl⟩
      obtain ⟨pq, hpq⟩ : ∃ pq, (b1 == ab) = pq := ⟨_, rfl⟩
      have HCB : Hid (potB h ab val k = (!ot && (b0 && pq))) := Lib.hid (by unfold potB; rw [ha]; dsimp only; rw [← hot, ← hv, hb0, hb1, hpq])
      obtain ⟨p3, c3, rfl⟩ := own_slice HO.out
      have hws := HAD.out.size
      clear ha hv hot
      go_upto_region 7 with (go_at_fn g; refine HCA.out.mono ?_; rintro e w2 ⟨rfl, ha2⟩; have e1 := HE1.out w2 (HAD.out.trans ha2); have e2 := HE2.out w2 (HAD.out.trans ha2); have HA2 := Lib.hid (HAD.out.trans ha2); have HO2 := Lib.hid (own_later HO.out ha2); have hws2 := HA2.out.size; clear ha2)
      have hkeep : potB h ab val k = false → ∀ W, Hid (Adds w W) → Hid (W.ownsRow w.heap.size 98 1 (.slice p3 m c3) m ((potL h ab val k).map fun i => ptrV (potAt ga o i))) → Hid (m = (potL h ab val (k + 1)).length) ∧ Hid (W.ownsRow w.heap.size 98 1 (.slice p3 m c3) m ((potL h ab val (k + 1)).map fun i => ptrV (potAt ga o i))) := fun hb W _ ho => by
        rw [HSU.out, if_neg (by rw [hb]; simp), List.append_nil]
        exact ⟨HM, ho⟩
      have HKE := Lib.hid hkeep
      clear hkeep
      cases ot
      · cases b0
        · go_wp2
          have hq := HKE.out (by rw [HCB.out]; rfl) _ HA2 HO2
          exact ⟨⟨k + 1, m, by omega, by omega, by go_num, hq.1, hq.2, HA2⟩, by simp [intOf]; omega⟩
        · cases pq
          · go_wp2
            have hq := HKE.out (by rw [HCB.out]; rfl) _ HA2 HO2
            exact ⟨⟨k + 1, m, by omega, by omega, by go_num, hq.1, hq.2, HA2⟩, by simp [intOf]; omega⟩
          · go_wp2_with (at_builtin; ((refine wpList_append_lies _ rfl _ _ 96 rfl w.heap.size 98 j0 (.pointer none) 1 8 Try.underlying96 HJ.out HJ0.out HJ1.out HJ2.out rfl (by decide) (.slice p3 m c3) m _ rfl (HO2.out.alloc _) ⟨w2.heap.size, 0, none⟩ 1 1 [.pointer (some ⟨ga, k * 15 + o, none⟩)] rfl rfl (World.news_of_block (Box.new w2 _ 98)) (by simp [Value.oneCell']) (by omega) (by unfold maxLen; omega) (by omega) (by simp; omega) (w2.heap.size + 1) (by simp) ?_); intro g7 c7 w7 ho hg hl hs7; have HO7 := Lib.hid ho; have HA7 : Hid (Adds w w7) := Lib.hid (Below.grown (HA2.out.alloc _) hg (by simp; omega) (fun j hj => (own_block HO2.out hj).1)); clear ho hg hl))
            refine ⟨⟨k + 1, m + 1, by omega, by omega, by go_num, Lib.hid ?_, Lib.hid ?_, HA7⟩, by simp [intOf]; omega⟩
            · rw [HSU.out, if_pos (by rw [HCB.out]; rfl), List.length_append, HM.out]; rfl
            · rw [HSU.out, if_pos (by rw [HCB.out]; rfl), List.map_append]; exact HO7.out
      · go_wp2
        have hq := HKE.out (by rw [HCB.out]; rfl) _ HA2 HO2
        exact ⟨⟨k + 1, m, by omega, by omega, by go_num, hq.1, hq.2, HA2⟩, by simp [intOf]; omega⟩
    · have hkn : n = k := by omega
      subst hkn
      obtain ⟨p3, c3, rfl⟩ := own_slice HO.out
      go_wp2
      go_ret
      have hM := HM.out
      subst hM
      exact ⟨p3, c3, rfl, HO.out, HAD.out⟩
end

end Go.Proofs.Ytmkpidipoadnbaa

namespace Go.Proofs.Ytmkpidipoadnbaa
open Go Go.RowKit Go.Sort

/-- Accounts of which some have another number. -/
def putAcs (upd : Ac → Int → Ac) : List Ac → List (Nat × Int) → List Ac
  | l, [] => l
  | l, (i, x) :: r => putAcs upd (match l[i]? with | some a => l.set i (upd a x) | none => l) r
theorem putAcs_len (upd : Ac → Int → Ac) : ∀ (r : List (Nat × Int)) (l : List Ac), (putAcs upd l r).length = l.length
  | [], _ => rfl
  | (i, x) :: r, l => by
    rw [putAcs, putAcs_len upd r]
    split <;> simp
/-- A number of an account that can be written alone. -/
structure Field (o : Nat) (val : Ac → Int) (upd : Ac → Int → Ac) : Prop where
  lt : o < 15
  get : ∀ a, a.pos.length = 12 → (encA a)[o]? = some (.int .i64 (val a))
  set : ∀ a x, a.pos.length = 12 → encA (upd a x) = (encA a).set o (.int .i64 x)
  len : ∀ a x, a.pos.length = 12 → (upd a x).pos.length = 12
  out : ∀ a x, (upd a x).out = a.out
theorem field_fund : Field 1 (fun a => a.fund) (fun a x => { a with fund := x }) := ⟨by omega, fun _ _ => rfl, fun _ _ _ => rfl, fun _ _ h => h, fun _ _ => rfl⟩
theorem field_cash : Field 0 (fun a => a.cash) (fun a x => { a with cash := x }) := ⟨by omega, fun _ _ => rfl, fun _ _ _ => rfl, fun _ _ h => h, fun _ _ => rfl⟩
theorem field_pos {m : Nat} (hm : m < 12) : Field (2 + m) (fun a => a.pos.getD m 0) (fun a x => { a with pos := a.pos.set m x }) := by
  refine ⟨by omega, fun a h => ?_, fun a x h => encA_set h hm x, fun a x h => by simp [h], fun _ _ => rfl⟩
  have hpm : a.pos[m]? = some (a.pos.getD m 0) := by rw [List.getD_eq_getElem?_getD, List.getElem?_eq_getElem (by omega)]; rfl
  rw [← List.getElem?_toArray]
  exact encA_pos h m _ (by rw [List.getElem?_map, hpm]; rfl)

section
variable {w : World} {base b ga ca cm ck : Nat} {pm pk : Option Addr} {h : Hs}
theorem HouseAt.putAll {o : Nat} {val : Ac → Int} {upd : Ac → Int → Ac} (F : Field o val upd) : ∀ (l : List (Nat × Int)) {w : World} {h : Hs}, HouseAt w base b ga ca pm cm pk ck h → (∀ a ∈ h.ac, a.pos.length = 12) → (∀ x ∈ l, x.1 < h.ac.length) → HouseAt (putAll w (l.map fun x => (potAt ga o x.1, x.2))) base b ga ca pm cm pk ck { h with ac := putAcs upd h.ac l }
  | [], w, h, hh, _, _ => hh
  | (i, x) :: r, w, h, hh, h12, hlt => by
    have hi := hlt (i, x) (by simp)
    obtain ⟨a, ha⟩ : ∃ a, h.ac[i]? = some a := ⟨_, List.getElem?_eq_getElem hi⟩
    have k1 := hh.put ha F.lt (F.set a x (h12 a (List.mem_of_getElem? ha)))
    have k2 := HouseAt.putAll F r k1 (fun c hc => by
      rcases List.mem_or_eq_of_mem_set hc with e | e
      · exact h12 c e
      · rw [e]; exact F.len a x (h12 a (List.mem_of_getElem? ha))) (fun y hy => by simp only [List.length_set]; exact hlt y (by simp [hy]))
    have e : putAcs upd h.ac ((i, x) :: r) = putAcs upd (h.ac.set i (upd a x)) r := by rw [putAcs, ha]
    rw [e]
    exact k2
/-- The numbers of the pots. -/
def potV (h : Hs) (val : Ac → Int) (L : List Nat) : List Int := L.map fun i => (h.ac[i]?.map val).getD 0
/-- What is taken from each. -/
def potF (h : Hs) (ab : Bool) (val : Ac → Int) (A : Int) : List Int := shareU A (sizeL (potV h val (potL h ab val h.ac.length)))
/-- A house whose pots were drawn from. -/
def drawH (h : Hs) (ab : Bool) (val : Ac → Int) (upd : Ac → Int → Ac) (A : Int) : Hs :=
  { h with ac := putAcs upd h.ac ((potL h ab val h.ac.length).zip (nearL (potV h val (potL h ab val h.ac.length)) (potF h ab val A))) }
theorem draw_pots {o : Nat} {val : Ac → Int} {upd : Ac → Int → Ac} (F : Field o val upd) (hh : HouseAt w base b ga ca pm cm pk ck h) (h12 : ∀ a ∈ h.ac, a.pos.length = 12) (hn : h.ac.length ≤ 20) (ab : Bool) (A : Int) (hA0 : 0 ≤ A) (hA1 : A ≤ 9223372036854775807) (hb : ∀ a ∈ h.ac, -4611686018427387904 ≤ val a ∧ val a ≤ 4611686018427387904)
    (q : Option Addr) (c : Nat) (bq : Nat) (hq : w.ownsRow bq 98 1 (.slice q (potL h ab val h.ac.length).length c) (potL h ab val h.ac.length).length ((potL h ab val h.ac.length).map fun i => ptrV (potAt ga o i))) :
    Calls Try.prog 43 #[.int .u64 A, .slice q (potL h ab val h.ac.length).length c] w fun e w' => e = .returned (.int .u64 (potF h ab val A).sum) ∧ HouseAt w' base b ga ca pm cm pk ck (drawH h ab val upd A) ∧ Touch (fun k => k = ga) w w' := by
  unfold drawH potF
  obtain ⟨L, hL⟩ : ∃ L, L = potL h ab val h.ac.length := ⟨_, rfl⟩
  have hLn : L.length ≤ h.ac.length := by rw [hL]; exact potL_len _ _ _ _
  have hLt : ∀ i ∈ L, i < h.ac.length := fun i hi => by rw [hL] at hi; exact List.mem_range.1 (List.mem_filter.1 hi).1
  have hLd : L.Nodup := by rw [hL]; exact List.Pairwise.filter _ List.nodup_range
  rw [← hL] at hq ⊢
  have hml : (L.map fun i => potAt ga o i).length = L.length := List.length_map _
  have hcells : CellsAt w q ((L.map fun i => potAt ga o i).map ptrV) := by rw [List.map_map]; exact own_cellsAt hq
  have hd := draw_any A q c (L.map fun i => potAt ga o i) (potV h val L) w (by rw [hml]; unfold potV; rw [List.length_map]) (by rw [hml]; omega) hcells (fun a ha q' hq' => by
    obtain ⟨i, hi, rfl⟩ := List.mem_map.1 ha
    show ga ≠ q'.block
    intro e
    subst hq'
    obtain ⟨_, cur, z1⟩ := hh.blk
    by_cases hz : 0 < L.length
    · obtain ⟨g, cap, e2, _⟩ := own_some hq hz
      injection e2 with e3
      injection e3 with e3
      subst e3
      obtain ⟨_, cu2, z2⟩ := own_block hq rfl
      rw [← e, z1] at z2
      simp only [Option.some.injEq, Obj.cells.injEq] at z2
      exact absurd z2.2.1 (by decide)
    · have : L = [] := List.eq_nil_of_length_eq_zero (by omega)
      rw [this] at hi
      cases hi) (fun i a v h1 h2 => by
    rw [List.getElem?_map] at h1
    obtain ⟨k, hk, rfl⟩ := Option.map_eq_some_iff.1 h1
    unfold potV at h2
    rw [List.getElem?_map, hk] at h2
    have hkl := hLt k (List.mem_of_getElem? hk)
    obtain ⟨y, hy⟩ : ∃ y, h.ac[k]? = some y := ⟨_, List.getElem?_eq_getElem hkl⟩
    simp only [Option.map_some, hy, Option.getD_some, Option.some.injEq] at h2
    subst h2
    have hg := F.get y (h12 y (List.mem_of_getElem? hy))
    exact ⟨hh.acc hy o _ hg, (hh.there hy o F.lt).2⟩) (by
    refine List.pairwise_map.2 (hLd.imp fun {a b} hab e => hab ?_)
    unfold potAt at e
    simp at e
    omega) (fun v hv => by
    unfold potV at hv
    obtain ⟨i, hi, rfl⟩ := List.mem_map.1 hv
    obtain ⟨y, hy⟩ : ∃ y, h.ac[i]? = some y := ⟨_, List.getElem?_eq_getElem (hLt i hi)⟩
    rw [hy]
    exact hb y (List.mem_of_getElem? hy)) hA0 hA1
  rw [hml] at hd
  refine hd.mono ?_
  rintro e w' ⟨W1, rfl, hA, rfl⟩
  have hz : (L.map fun i => potAt ga o i).zip (nearL (potV h val L) (shareU A (sizeL (potV h val L)))) = (L.zip (nearL (potV h val L) (shareU A (sizeL (potV h val L))))).map fun x => (potAt ga o x.1, x.2) := by
    rw [List.zip_map_left]
    rfl
  rw [hz]
  refine ⟨rfl, (hh.later hA).putAll F _ h12 (fun x hx => hLt x.1 (List.of_mem_zip hx).1), putAll_touch _ (fun x hx => ?_) (Touch.of_adds hA _)⟩
  obtain ⟨y, hy, rfl⟩ := List.mem_map.1 hx
  rfl
end

end Go.Proofs.Ytmkpidipoadnbaa

namespace Go.Proofs.Ytmkpidipoadnbaa
open Go Go.RowKit Go.Sort

/-- Accounts whose positions can be dealt. -/
def PosOK (l : List Ac) : Prop := ∀ a ∈ l, a.pos.length = 12 ∧ ∀ x ∈ a.pos, -4611686018427387904 ≤ x ∧ x ≤ 4611686018427387904
theorem putAcs_all {P : Ac → Prop} {Q : Int → Prop} {upd : Ac → Int → Ac} (hu : ∀ a x, P a → Q x → P (upd a x)) : ∀ (r : List (Nat × Int)) (l : List Ac), (∀ a ∈ l, P a) → (∀ x ∈ r, Q x.2) → ∀ a ∈ putAcs upd l r, P a
  | [], _, h, _ => h
  | (i, x) :: r, l, h, hq => by
    rw [putAcs]
    refine putAcs_all hu r _ ?_ (fun y hy => hq y (by simp [hy]))
    split
    case h_1 a ha =>
      intro c hc
      rcases List.mem_or_eq_of_mem_set hc with e | e
      · exact h c e
      · rw [e]; exact hu a x (h a (List.mem_of_getElem? ha)) (hq (i, x) (by simp))
    case h_2 => exact h
theorem near_bd {vs : List Int} {A B : Int} (hA : 0 ≤ A) (hv : ∀ v ∈ vs, -B ≤ v ∧ v ≤ B) : ∀ x ∈ nearL vs (shareU A (sizeL vs)), -B ≤ x ∧ x ≤ B := fun x hx => by
  have hw : ∀ x ∈ sizeL vs, 0 ≤ x := fun x hx => by
    obtain ⟨v, _, rfl⟩ := List.mem_map.1 hx
    omega
  obtain ⟨i, hi⟩ := List.getElem?_of_mem hx
  have hil := (List.getElem?_eq_some_iff.1 hi).1
  have hlen : i < vs.length := by unfold nearL at hil; rw [List.length_zipWith] at hil; omega
  obtain ⟨v, hvi⟩ : ∃ v, vs[i]? = some v := ⟨_, List.getElem?_eq_getElem hlen⟩
  obtain ⟨f, h1, h2, h3⟩ := shareU_bd hA hw (i := i) (x := max v (-v)) (by unfold sizeL; rw [List.getElem?_map, hvi]; rfl)
  rw [nearL_get hvi h1] at hi
  injection hi with hi
  have := hv v (List.mem_of_getElem? hvi)
  unfold nearV at hi
  split at hi <;> omega
theorem posOK_getD {l : List Ac} (h : PosOK l) {a : Ac} (ha : a ∈ l) (m : Nat) : -4611686018427387904 ≤ a.pos.getD m 0 ∧ a.pos.getD m 0 ≤ 4611686018427387904 := by
  rw [List.getD_eq_getElem?_getD]
  cases e : a.pos[m]? with
  | none => exact ⟨by decide, by decide⟩
  | some x => exact (h a ha).2 x (List.mem_of_getElem? e)
theorem potV_bd {h : Hs} {val : Ac → Int} {B : Int} (hB : 0 ≤ B) (hb : ∀ a ∈ h.ac, -B ≤ val a ∧ val a ≤ B) (L : List Nat) : ∀ v ∈ potV h val L, -B ≤ v ∧ v ≤ B := fun v hv => by
  obtain ⟨i, _, rfl⟩ := List.mem_map.1 hv
  cases e : h.ac[i]? with
  | none => simp; omega
  | some a => exact hb a (List.mem_of_getElem? e)

abbrev valP (m : Nat) (a : Ac) : Int := a.pos.getD m 0
abbrev updP (m : Nat) (a : Ac) (x : Int) : Ac := { a with pos := a.pos.set m x }
theorem posOK_upd {m : Nat} {a : Ac} {x : Int} (h : a.pos.length = 12 ∧ ∀ x ∈ a.pos, -4611686018427387904 ≤ x ∧ x ≤ 4611686018427387904) (hx : -4611686018427387904 ≤ x ∧ x ≤ 4611686018427387904) : (updP m a x).pos.length = 12 ∧ ∀ y ∈ (updP m a x).pos, -4611686018427387904 ≤ y ∧ y ≤ 4611686018427387904 := by
  refine ⟨by simp [h.1], fun y hy => ?_⟩
  rcases List.mem_or_eq_of_mem_set hy with e | e
  · exact h.2 y e
  · rw [e]; exact hx
theorem drawH_pos {h : Hs} (hp : PosOK h.ac) (ab : Bool) (m : Nat) (A : Int) (hA : 0 ≤ A) : PosOK (drawH h ab (valP m) (updP m) A).ac :=
  putAcs_all (Q := fun x => -4611686018427387904 ≤ x ∧ x ≤ 4611686018427387904) (fun a x h hx => posOK_upd h hx) _ _ hp (fun y hy => near_bd hA (potV_bd (by omega) (fun a ha => posOK_getD hp ha m) _) y.2 (List.of_mem_zip hy).2)
theorem drawH_len (h : Hs) (ab : Bool) (val : Ac → Int) (upd : Ac → Int → Ac) (A : Int) : (drawH h ab val upd A).ac.length = h.ac.length := putAcs_len _ _ _
/-- A member's position set to nothing. -/
def zeroA (h : Hs) (i m : Nat) : Hs := { h with ac := match h.ac[i]? with | some a => h.ac.set i (updP m a 0) | none => h.ac }
/-- One month handed over, of which the member had P. -/
def handS (h : Hs) (i m : Nat) (P : Int) : Hs := zeroA (drawH h (decide (P < 0)) (valP m) (updP m) (max P (-P))) i m
def handK (h : Hs) (i : Nat) (ps : List Int) : Nat → Hs
  | 0 => h
  | k + 1 => handS (handK h i ps k) i k (ps.getD k 0)
theorem zeroA_len (h : Hs) (i m : Nat) : (zeroA h i m).ac.length = h.ac.length := by
  unfold zeroA
  dsimp only
  split <;> simp
theorem zeroA_pos {h : Hs} (hp : PosOK h.ac) (i m : Nat) : PosOK (zeroA h i m).ac := by
  unfold zeroA
  dsimp only
  split
  case h_1 a ha =>
    intro c hc
    rcases List.mem_or_eq_of_mem_set hc with e | e
    · exact hp c e
    · rw [e]; exact posOK_upd (hp a (List.mem_of_getElem? ha)) (by omega)
  case h_2 => exact hp
theorem handK_len (h : Hs) (i : Nat) (ps : List Int) : ∀ k, (handK h i ps k).ac.length = h.ac.length
  | 0 => rfl
  | k + 1 => by
    rw [handK, handS, zeroA_len, drawH_len]
    exact handK_len h i ps k
theorem handK_pos {h : Hs} (hp : PosOK h.ac) (i : Nat) (ps : List Int) : ∀ k, PosOK (handK h i ps k).ac
  | 0 => hp
  | k + 1 => by
    rw [handK, handS]
    exact zeroA_pos (drawH_pos (handK_pos hp i ps k) _ _ _ (by omega)) i k

section
variable {w : World} {base b ga ca cm ck : Nat} {pm pk : Option Addr} {h : Hs}
set_option maxRecDepth 100000 in
theorem pick_pos (i m bm : Nat) (w : World) (hm : m < 12) (hb : w.cell? ⟨bm, 0, none⟩ = some (.int .i64 (m : Int))) : Calls Try.prog 46 #[.pointer (some ⟨ga, i * 15, none⟩), .pointer (some ⟨bm, 0, none⟩)] w fun e w' => e = .returned (.pointer (some ⟨ga, i * 15 + (2 + m), none⟩)) ∧ Adds w w' := by
  have h1 : (0 : Int) ≤ (m : Int) := by omega
  have h2 : (m : Int) < 12 := by omega
  rw [← Nat.add_assoc]
  go_enter Try.func46, Try.ntmps46
  go_upto_region 1 with fail
  go_quiet (fail)
  go_wp2
  go_ret
  exact ⟨rfl, (Adds.refl w).drewN _⟩
theorem HouseAt.zero {i m : Nat} {a : Ac} (hh : HouseAt w base b ga ca pm cm pk ck h) (ha : h.ac[i]? = some a) (hl : a.pos.length = 12) (hm : m < 12) : HouseAt (w.setCell ⟨ga, i * 15 + 2 + m, none⟩ (.int .i64 0)) base b ga ca pm cm pk ck (zeroA h i m) := by
  have k := hh.put (j := 2 + m) (a' := updP m a 0) (u := .int .i64 0) ha (by omega) (encA_set hl hm 0)
  have e : zeroA h i m = { h with ac := h.ac.set i (updP m a 0) } := by unfold zeroA; rw [ha]
  rw [e, Nat.add_assoc]
  exact k
end

end Go.Proofs.Ytmkpidipoadnbaa
