/- Mark of a house in memory. -/
import Derived.Test.YtmkpidipoadnbaaW22
namespace Go.Proofs.Ytmkpidipoadnbaa
open Go Go.RowKit Go.Sort

theorem ints12 {l : List Int} (h : l.length = 12) : ∃ p0 p1 p2 p3 p4 p5 p6 p7 p8 p9 p10 p11, l = [p0, p1, p2, p3, p4, p5, p6, p7, p8, p9, p10, p11] := by
  match l, h with
  | [p0, p1, p2, p3, p4, p5, p6, p7, p8, p9, p10, p11], _ => exact ⟨_, _, _, _, _, _, _, _, _, _, _, _, rfl⟩
theorem acc_open {a : Ac} (h : a.pos.length = 12) : ∃ c f p0 p1 p2 p3 p4 p5 p6 p7 p8 p9 p10 p11 o, a = ⟨c, f, [p0, p1, p2, p3, p4, p5, p6, p7, p8, p9, p10, p11], o⟩ := by
  obtain ⟨c, f, ps, o⟩ := a
  obtain ⟨p0, p1, p2, p3, p4, p5, p6, p7, p8, p9, p10, p11, rfl⟩ := ints12 h
  exact ⟨c, f, _, _, _, _, _, _, _, _, _, _, _, _, o, rfl⟩
theorem accV_open (c f p0 p1 p2 p3 p4 p5 p6 p7 p8 p9 p10 p11 : Int) (o : Bool) : accV ⟨c, f, [p0, p1, p2, p3, p4, p5, p6, p7, p8, p9, p10, p11], o⟩ = .agg #[.int .i64 c, .int .i64 f, .int .i64 p0, .int .i64 p1, .int .i64 p2, .int .i64 p3, .int .i64 p4, .int .i64 p5, .int .i64 p6, .int .i64 p7, .int .i64 p8, .int .i64 p9, .int .i64 p10, .int .i64 p11, .bool o] := rfl
theorem info_int : (Try.prog.info? 3).map (fun i => (i.zero, i.size, i.bytes)) = some (some (.int .i64 0), 1, 8) := by kernel_rfl

/-- Whether a member is called. -/
def callB (h : Hs) (i : Nat) : Bool := match h.ac[i]? with | some a => !a.out && !coversB h a | none => false
/-- The members that are called, of the first k. -/
def callL (h : Hs) (k : Nat) : List Int := ((List.range k).filter (callB h)).map fun i : Nat => (i : Int) + 1
theorem callL_succ (h : Hs) (k : Nat) : callL h (k + 1) = callL h k ++ (if callB h k = true then [(k : Int) + 1] else []) := by
  unfold callL
  rw [List.range_succ, List.filter_append, List.map_append]
  congr 1
  by_cases c : callB h k = true
  · rw [if_pos c]; simp [c]
  · rw [if_neg c]; simp [c]
theorem callL_len (h : Hs) (k : Nat) : (callL h k).length ≤ k := by
  unfold callL
  rw [List.length_map]
  have := List.length_filter_le (callB h) (List.range k)
  rw [List.length_range] at this
  exact this

set_option maxRecDepth 100000 in
theorem calls_nil (w : World) : Calls Try.prog 28 #[.pointer none] w fun r w' => r = .returned (.slice none 0 0) ∧ Adds w w' := by
  go_enter Try.func28, Try.ntmps28
  go_wp2
  go_ret
  exact ⟨rfl, Adds.refl w⟩

section
variable {w : World} {base b ga ca cm ck : Nat} {pm pk : Option Addr} {h : Hs}
set_option maxRecDepth 100000 in
set_option maxHeartbeats 2000000 in
theorem Calls_any (hh : HouseAt w base b ga ca pm cm pk ck h) (hs : Sound h) :
    Calls Try.prog 28 #[.pointer (some ⟨b, 0, none⟩)] w fun r w' => ∃ q c, r = .returned (.slice q (callL h h.ac.length).length c) ∧ w'.ownsRow w.heap.size 3 1 (.slice q (callL h h.ac.length).length c) (callL h h.ac.length).length ((callL h h.ac.length).map (Value.int .i64)) ∧ Adds w w' := by
  obtain ⟨j0, hj, hj0, hj1, hj2⟩ := info_parts info_int
  have HJ := Lib.hid hj
  have HJ0 := Lib.hid hj0
  have HJ1 := Lib.hid hj1
  have HJ2 := Lib.hid hj2
  clear hj hj0 hj1 hj2
  have c0 := hh.c0
  have hn := hs.few
  have HACC := Lib.hid (fun W (hW : Adds w W) (i : Nat) (a : Ac) (hi : h.ac[i]? = some a) => (hh.later hW).acc hi)
  have HCOV := Lib.hid (fun W (hW : Adds w W) (i : Nat) (a : Ac) (hi : h.ac[i]? = some a) => covers_any b cm pm h a W hs.calm ((hh.later hW).r hs.calm.prices) (hs.acs a (List.mem_of_getElem? hi)).1)
  have HLEN := Lib.hid (fun (i : Nat) (a : Ac) (hi : h.ac[i]? = some a) => (hs.acs a (List.mem_of_getElem? hi)).1.len)
  obtain ⟨n, hnn⟩ : ∃ n, n = h.ac.length := ⟨_, rfl⟩
  rw [← hnn] at c0 hn ⊢
  have HNN := Lib.hid hnn
  clear hh hs hnn
  go_enter Try.func28, Try.ntmps28
  go_upto_region 5 with fail
  go_loopw [13, 3] (fun v13 v3 wr => ∃ (k m : Nat), k ≤ n ∧ m ≤ k ∧ v13 = .int .i64 k ∧ Hid (m = (callL h k).length) ∧ Hid (wr.ownsRow w.heap.size 3 1 v3 m ((callL h k).map (Value.int .i64))) ∧ Hid (Adds w wr)) (fun v13 _ _ => n - (intOf v13).toNat)
  case atStart => exact ⟨0, 0, by omega, by omega, rfl, Lib.hid rfl, Lib.hid (World.ownsRow_nil _ _ _ _), Lib.hid (Adds.refl _)⟩
  case round =>
    obtain ⟨k, m, hk, hm, rfl, HM, HO, HAD⟩ := hrel
    by_cases hlt : k < n
    · have hlt2 : (k : Int) < (n : Int) := by omega
      have hk0 : (0 : Int) ≤ (k : Int) := by omega
      obtain ⟨a, ha⟩ : ∃ a, h.ac[k]? = some a := ⟨_, List.getElem?_eq_getElem (by have := HNN.out; omega)⟩
      obtain ⟨c, f, p0, p1, p2, p3, p4, p5, p6, p7, p8, p9, p10, p11, o, rfl⟩ := acc_open (HLEN.out k a ha)
      have hacc := HACC.out wr HAD.out k _ ha
      have e0 : wr.cell? ⟨ga, k * 15, none⟩ = some (.int .i64 c) := hacc 0 _ rfl
      have e1 : wr.cell? ⟨ga, k * 15 + 1, none⟩ = some (.int .i64 f) := hacc 1 _ rfl
      have e2 : wr.cell? ⟨ga, k * 15 + 2, none⟩ = some (.int .i64 p0) := hacc 2 _ rfl
      have e3 : wr.cell? ⟨ga, k * 15 + 3, none⟩ = some (.int .i64 p1) := hacc 3 _ rfl
      have e4 : wr.cell? ⟨ga, k * 15 + 4, none⟩ = some (.int .i64 p2) := hacc 4 _ rfl
      have e5 : wr.cell? ⟨ga, k * 15 + 5, none⟩ = some (.int .i64 p3) := hacc 5 _ rfl
      have e6 : wr.cell? ⟨ga, k * 15 + 6, none⟩ = some (.int .i64 p4) := hacc 6 _ rfl
      have e7 : wr.cell? ⟨ga, k * 15 + 7, none⟩ = some (.int .i64 p5) := hacc 7 _ rfl
      have e8 : wr.cell? ⟨ga, k * 15 + 8, none⟩ = some (.int .i64 p6) := hacc 8 _ rfl
      have e9 : wr.cell? ⟨ga, k * 15 + 9, none⟩ = some (.int .i64 p7) := hacc 9 _ rfl
      have e10 : wr.cell? ⟨ga, k * 15 + 10, none⟩ = some (.int .i64 p8) := hacc 10 _ rfl
      have e11 : wr.cell? ⟨ga, k * 15 + 11, none⟩ = some (.int .i64 p9) := hacc 11 _ rfl
      have e12 : wr.cell? ⟨ga, k * 15 + 12, none⟩ = some (.int .i64 p10) := hacc 12 _ rfl
      have e13 : wr.cell? ⟨ga, k * 15 + 13, none⟩ = some (.int .i64 p11) := hacc 13 _ rfl
      have e14 : wr.cell? ⟨ga, k * 15 + 14, none⟩ = some (.bool o) := hacc 14 _ rfl
      have HCV := Lib.hid (fun W (hW : Adds w W) => HCOV.out W hW k _ ha)
      simp only [accV_open] at HCV
      have HSU := Lib.hid (callL_succ h k)
      have HCB : Hid (callB h k = (!o && !coversB h ⟨c, f, [p0, p1, p2, p3, p4, p5, p6, p7, p8, p9, p10, p11], o⟩)) := Lib.hid (by unfold callB; rw [ha])
      obtain ⟨cv, hcv⟩ : ∃ v, v = coversB h ⟨c, f, [p0, p1, p2, p3, p4, p5, p6, p7, p8, p9, p10, p11], o⟩ := ⟨_, rfl⟩
      rw [← hcv] at HCV HCB
      clear hacc ha hcv c0
      obtain ⟨p3, c3, rfl⟩ := own_slice HO.out
      have hws := HAD.out.size
      have hkw : IntKind.i64.wrap ((k : Int) + 1) = (k : Int) + 1 := by rw [IntKind.wrap_i64]; omega
      cases o
      · cases cv
        · go_wp2_with (first
            | (go_at_call 37; refine (HCV.out _ (HAD.out.alloc _)).mono ?_; rintro e w2 ⟨rfl, ha2⟩; have HA2 : Hid (Adds w w2) := Lib.hid ((HAD.out.alloc _).trans ha2); have HO2 := Lib.hid (own_later (own_allocd HO.out _) ha2); have hws2 := HA2.out.size; clear ha2)
            | (at_builtin; ((refine wpList_append_lies _ rfl _ _ 44 rfl w.heap.size 3 j0 (.int .i64 0) 1 8 Try.underlying44 HJ.out HJ0.out HJ1.out HJ2.out rfl (by decide) (.slice p3 m c3) m _ rfl (HO2.out.alloc _) ⟨w2.heap.size, 0, none⟩ 1 1 [.int .i64 ((k : Int) + 1)] rfl rfl (World.news_of_block (Box.new w2 _ 3)) (by simp [Value.oneCell']) (by omega) (by unfold maxLen; omega) (by omega) (by simp; omega) (w2.heap.size + 1) (by simp) ?_); intro g7 c7 w7 ho hg hl hs7; have HO7 := Lib.hid ho; have HA7 : Hid (Adds w w7) := Lib.hid (Below.grown (HA2.out.alloc _) hg (by simp; omega) (fun j hj => (own_block HO2.out hj).1)); clear ho hg hl)))
          refine ⟨⟨k + 1, m + 1, by omega, by omega, by go_num, Lib.hid ?_, Lib.hid ?_, HA7⟩, by simp [intOf]; omega⟩
          · rw [HSU.out, if_pos (by rw [HCB.out]; rfl), List.length_append, HM.out]; rfl
          · rw [HSU.out, if_pos (by rw [HCB.out]; rfl), List.map_append]; exact HO7.out
        · go_wp2_with (go_at_call 37; refine (HCV.out _ (HAD.out.alloc _)).mono ?_; rintro e w2 ⟨rfl, ha2⟩; have HA2 : Hid (Adds w w2) := Lib.hid ((HAD.out.alloc _).trans ha2); have HO2 := Lib.hid (own_later (own_allocd HO.out _) ha2); clear ha2)
          refine ⟨⟨k + 1, m, by omega, by omega, by go_num, Lib.hid ?_, Lib.hid ?_, HA2⟩, by simp [intOf]; omega⟩
          · rw [HSU.out, if_neg (by rw [HCB.out]; simp), List.append_nil]; exact HM.out
          · rw [HSU.out, if_neg (by rw [HCB.out]; simp), List.append_nil]; exact HO2.out
      · go_wp2
        refine ⟨⟨k + 1, m, by omega, by omega, by go_num, Lib.hid ?_, Lib.hid ?_, Lib.hid (HAD.out.alloc _)⟩, by simp [intOf]; omega⟩
        · rw [HSU.out, if_neg (by rw [HCB.out]; simp), List.append_nil]; exact HM.out
        · rw [HSU.out, if_neg (by rw [HCB.out]; simp), List.append_nil]; exact own_allocd HO.out _
    · have hkn : n = k := by omega
      subst hkn
      obtain ⟨p3, c3, rfl⟩ := own_slice HO.out
      go_wp2
      go_ret
      have hM := HM.out
      subst hM
      exact ⟨p3, c3, rfl, HO.out, HAD.out⟩
end

end Go.Proofs.Ytmkpidipoadnbaa

namespace Go.Proofs.Ytmkpidipoadnbaa
open Go Go.RowKit Go.Sort

/-- A house whose numbers are small. -/
structure Tame (B : Nat) (h : Hs) : Prop where
  calm : Calm h
  few : h.ac.length ≤ 64
  len : ∀ a ∈ h.ac, a.pos.length = 12
  pos : ∀ a ∈ h.ac, ∀ x ∈ a.pos, -(1000000 * (B : Int)) ≤ x ∧ x ≤ 1000000 * (B : Int)
  cash : ∀ a ∈ h.ac, -(1000000000000000 * (B : Int)) ≤ a.cash ∧ a.cash ≤ 1000000000000000 * (B : Int)
  fund : ∀ a ∈ h.ac, -(1000000000000000 * (B : Int)) ≤ a.fund ∧ a.fund ≤ 1000000000000000 * (B : Int)
theorem Tame.sound {B : Nat} {h : Hs} (t : Tame B h) (hB : B ≤ 200) : Sound h :=
  ⟨t.calm, t.few, fun a ha => ⟨⟨t.len a ha, fun x hx => by have := t.pos a ha x hx; omega, by have := t.cash a ha; omega, by have := t.cash a ha; omega⟩, by have := t.fund a ha; omega, by have := t.fund a ha; omega⟩⟩
theorem mul_bd2 {y d A B : Int} (h0 : -A ≤ y) (h1 : y ≤ A) (h2 : -B ≤ d) (h3 : d ≤ B) : -(A * B) ≤ y * d ∧ y * d ≤ A * B := by
  by_cases c : 0 ≤ y
  · exact mul_bd c h1 h2 h3
  · have := mul_bd (q := -y) (d := d) (A := A) (B := B) (by omega) (by omega) h2 h3
    rw [Int.neg_mul] at this
    omega
theorem pos_getD {B : Nat} {h : Hs} (t : Tame B h) {a : Ac} (ha : a ∈ h.ac) (m : Nat) : -(1000000 * (B : Int)) ≤ a.pos.getD m 0 ∧ a.pos.getD m 0 ≤ 1000000 * (B : Int) := by
  rw [List.getD_eq_getElem?_getD]
  cases e : a.pos[m]? with
  | none => simp; omega
  | some x => exact t.pos a ha x (List.mem_of_getElem? e)

def markA (m : Nat) (d : Int) (a : Ac) : Ac := bookA m 0 (a.pos.getD m 0 * d) a
def markT (h : Hs) (m : Nat) (p : Int) : Hs := { h with ac := h.ac.map (markA m (p - h.prices.getD m 0)), prices := h.prices.set m p }
def markE (h : Hs) (m p : Int) : Int := if belowB m h.months = true then (if inB p 1 1000000 = true then 0 else 1) else 4
theorem set_mid {α : Type} {l : List α} {i : Nat} {x : α} (f : α → α) (h : l[i]? = some x) : ((l.take i).map f ++ l.drop i).set i (f x) = (l.take (i + 1)).map f ++ l.drop (i + 1) := by
  obtain ⟨h1, h2⟩ := List.getElem?_eq_some_iff.1 h
  rw [List.set_append_right _ _ (by rw [List.length_map, List.length_take]; omega), List.length_map, List.length_take, show i - min i l.length = 0 by omega, List.drop_eq_getElem_cons h1, List.set_cons_zero, List.take_succ_eq_append_getElem h1, h2, List.map_append, List.append_assoc]
  rfl
theorem get_mid {α : Type} {l : List α} {i : Nat} {x : α} (f : α → α) (h : l[i]? = some x) : ((l.take i).map f ++ l.drop i)[i]? = some x := by
  obtain ⟨h1, h2⟩ := List.getElem?_eq_some_iff.1 h
  rw [List.getElem?_append_right (by rw [List.length_map, List.length_take]; omega), List.length_map, List.length_take, show i - min i l.length = 0 by omega, List.getElem?_drop]
  exact h
theorem len_mid {α : Type} (l : List α) (i : Nat) (f : α → α) : ((l.take i).map f ++ l.drop i).length = l.length := by
  rw [List.length_append, List.length_map, List.length_take, List.length_drop]
  omega
theorem mem_bookA {m : Nat} {q g x : Int} {a : Ac} (hx : x ∈ (bookA m q g a).pos) : x ∈ a.pos ∨ x = a.pos.getD m 0 + q := List.mem_or_eq_of_mem_set hx
theorem markT_tame {B : Nat} {h : Hs} (t : Tame B h) (hB : B ≤ 200) (m : Nat) (p : Int) (hp : 1 ≤ p ∧ p ≤ 1000000) : Tame (B + 1) (markT h m p) := by
  have hx : 0 ≤ h.prices.getD m 0 ∧ h.prices.getD m 0 ≤ 2000000 := by
    rw [List.getD_eq_getElem?_getD]
    cases e : h.prices[m]? with
    | none => simp
    | some x => exact t.calm.price x (List.mem_of_getElem? e)
  have key : ∀ a ∈ (markT h m p).ac, ∃ b ∈ h.ac, a = markA m (p - h.prices.getD m 0) b := fun a ha => by
    obtain ⟨b, hb, e⟩ := List.mem_map.1 ha
    exact ⟨b, hb, e.symm⟩
  refine ⟨⟨by show (h.prices.set m p).length = 12; rw [List.length_set]; exact t.calm.prices, t.calm.moves, t.calm.few, t.calm.rate0, t.calm.rate1, fun x hx => ?_⟩, by show (h.ac.map _).length ≤ 64; rw [List.length_map]; exact t.few, fun a ha => ?_, fun a ha x hxm => ?_, fun a ha => ?_, fun a ha => ?_⟩
  · rcases List.mem_or_eq_of_mem_set hx with e | e
    · exact t.calm.price x e
    · omega
  · obtain ⟨b, hb, rfl⟩ := key a ha
    show (b.pos.set m _).length = 12
    rw [List.length_set]
    exact t.len b hb
  · obtain ⟨b, hb, rfl⟩ := key a ha
    rcases mem_bookA hxm with e | e
    · have := t.pos b hb x e; omega
    · have := pos_getD t hb m; omega
  · obtain ⟨b, hb, rfl⟩ := key a ha
    have h1 := pos_getD t hb m
    have h2 := mul_bd2 (A := 1000000 * 200) (B := 2000000) (y := b.pos.getD m 0) (d := p - h.prices.getD m 0) (by omega) (by omega) (by omega) (by omega)
    have h3 := t.cash b hb
    show _ ≤ b.cash + b.pos.getD m 0 * (p - h.prices.getD m 0) ∧ b.cash + b.pos.getD m 0 * (p - h.prices.getD m 0) ≤ _
    omega
  · obtain ⟨b, hb, rfl⟩ := key a ha
    have h3 := t.fund b hb
    show _ ≤ b.fund ∧ b.fund ≤ _
    omega
theorem houseCells_price {h : Hs} (ga ca : Nat) (pm : Option Addr) (cm : Nat) (pk : Option Addr) (ck m : Nat) (p : Int) (hm : m < h.prices.length) : (houseCells h ga ca pm cm pk ck).setIfInBounds (2 + m) (.int .i64 p) = houseCells { h with prices := h.prices.set m p } ga ca pm cm pk ck := by
  unfold houseCells
  rw [List.setIfInBounds_toArray, show 2 + m = m + 1 + 1 by omega, List.set_cons_succ, List.set_cons_succ, List.set_append_left _ _ (by simpa using hm), List.map_set]

section
variable {w : World} {base b ga ca cm ck : Nat} {pm pk : Option Addr} {h : Hs}
/-- A price written. -/
theorem HouseAt.price (hh : HouseAt w base b ga ca pm cm pk ck h) (m : Nat) (p : Int) (hm : m < h.prices.length) : HouseAt (w.setCell ⟨b, 2 + m, none⟩ (.int .i64 p)) base b ga ca pm cm pk ck { h with prices := h.prices.set m p } := by
  have hs : ∀ k, k ≠ b → (w.setCell ⟨b, 2 + m, none⟩ (.int .i64 p)).heap[k]? = w.heap[k]? := fun k hk => Below.heap_setCell w ⟨b, 2 + m, none⟩ _ k hk
  refine ⟨?_, own_heap hh.ac hh.bx (by decide) hs, own_heap hh.mv hh.bx (by decide) hs, hh.ks.heap hh.bx (by decide) hs, hh.lo⟩
  have := hh.bx.set (2 + m) (.int .i64 p)
  rw [houseCells_price _ _ _ _ _ _ _ _ hm] at this
  exact this

set_option maxRecDepth 100000 in
theorem mark_nil (m p : Int) (w : World) : Calls Try.prog 13 #[.pointer none, .int .i64 m, .int .i64 p] w fun r w' => r = .returned (.tuple #[.slice none 0 0, .int .i64 3]) ∧ Adds w w' := by
  go_enter Try.func13, Try.ntmps13
  go_wp2
  go_ret2
  exact ⟨rfl, Adds.refl w⟩
set_option maxRecDepth 100000 in
theorem mark_none (hh : HouseAt w base b ga ca pm cm pk ck h) (m p : Int) (hb : belowB m h.months = false) : Calls Try.prog 13 #[.pointer (some ⟨b, 0, none⟩), .int .i64 m, .int .i64 p] w fun r w' => r = .returned (.tuple #[.slice none 0 0, .int .i64 4]) ∧ Adds w w' := by
  have HM := Lib.hid (month_any b h.months m w hh.c1)
  rw [hb] at HM
  clear hh hb
  go_enter Try.func13, Try.ntmps13
  go_wp2_with (go_at_call 26; refine HM.out.mono ?_; rintro e w1 ⟨rfl, ha⟩; have HA := Lib.hid ha; clear ha)
  go_ret2
  exact ⟨rfl, HA.out⟩
set_option maxRecDepth 100000 in
theorem mark_arg (hh : HouseAt w base b ga ca pm cm pk ck h) (m p : Int) (hb : belowB m h.months = true) (hp : inB p 1 1000000 = false) : Calls Try.prog 13 #[.pointer (some ⟨b, 0, none⟩), .int .i64 m, .int .i64 p] w fun r w' => r = .returned (.tuple #[.slice none 0 0, .int .i64 1]) ∧ Adds w w' := by
  have HM := Lib.hid (month_any b h.months m w hh.c1)
  have HP := Lib.hid (fun W => price_any p W)
  rw [hb] at HM
  rw [hp] at HP
  clear hh hb hp
  go_enter Try.func13, Try.ntmps13
  go_wp2_with (first
    | (go_at_call 26; refine HM.out.mono ?_; rintro e w1 ⟨rfl, ha⟩; have HA := Lib.hid ha; clear ha)
    | (go_at_call 27; refine (HP.out _).mono ?_; rintro e w2 ⟨rfl, ha⟩; have HA2 := Lib.hid ha; clear ha))
  go_ret2
  exact ⟨rfl, HA.out.trans HA2.out⟩
end

end Go.Proofs.Ytmkpidipoadnbaa
