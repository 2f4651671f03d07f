/- Intervals of the reference: stretches of prices with one demand and one supply. -/
import Derived.Test.YtigpghmbeldakaaAK
import Derived.Test.YtigpghmbeldakaaO
namespace Go.Proofs.Ytigpghmbeldakaa
open Go.RowKit

/-- An interval: from, to, volume, demand less supply. -/
abbrev Iv := Int × Int × Int × Int
def enc4 (i : Iv) : List Value := [.int .i64 i.1, .int .i64 i.2.1, .int .i64 i.2.2.1, .int .i64 i.2.2.2]

theorem flat4_len : ∀ (l : List Iv), (l.flatMap enc4).length = l.length * 4
  | [] => rfl
  | x :: l => by rw [List.flatMap_cons, List.length_append, flat4_len l, List.length_cons]; simp only [enc4, List.length_cons, List.length_nil]; omega
theorem flat4_cell {l : List Iv} : ∀ (k : Nat) (t : Iv), l[k]? = some t → (l.flatMap enc4)[k * 4]? = some (.int .i64 t.1) ∧ (l.flatMap enc4)[k * 4 + 1]? = some (.int .i64 t.2.1) ∧ (l.flatMap enc4)[k * 4 + 2]? = some (.int .i64 t.2.2.1) ∧ (l.flatMap enc4)[k * 4 + 3]? = some (.int .i64 t.2.2.2) := by
  induction l with
  | nil => intro k t h; simp at h
  | cons x l ih =>
    intro k t h
    cases k with
    | zero =>
      simp only [List.getElem?_cons_zero, Option.some.injEq] at h
      subst h
      simp [enc4]
    | succ k =>
      rw [List.getElem?_cons_succ] at h
      obtain ⟨h0, h1, h2, h3⟩ := ih k t h
      rw [List.flatMap_cons]
      have hl : (enc4 x).length = 4 := rfl
      refine ⟨?_, ?_, ?_, ?_⟩
      · rw [List.getElem?_append_right (by rw [hl]; omega), hl, show (k + 1) * 4 - 4 = k * 4 by omega]; exact h0
      · rw [List.getElem?_append_right (by rw [hl]; omega), hl, show (k + 1) * 4 + 1 - 4 = k * 4 + 1 by omega]; exact h1
      · rw [List.getElem?_append_right (by rw [hl]; omega), hl, show (k + 1) * 4 + 2 - 4 = k * 4 + 2 by omega]; exact h2
      · rw [List.getElem?_append_right (by rw [hl]; omega), hl, show (k + 1) * 4 + 3 - 4 = k * 4 + 3 by omega]; exact h3

theorem own_later {w w' : World} {base n size : Nat} {t : TypeId} {v : Value} {xs : List Value} (h : w.ownsRow base t size v n xs) (hb : Adds w w') : w'.ownsRow base t size v n xs :=
  h.kept (row := none) ⟨hb.os, hb.tape, hb.output, hb.size, fun k hk _ => hb.block k hk⟩ (by cases h' : Value.ownBlock v with | none => exact .inl rfl | some k => exact .inr (by simp))

/-- Where a bid's demand or supply may change. -/
def edgeT (b : Bd) : Int := if b.1 = 2 then b.2.1 - 1 else b.2.1
/-- The end of the stretch that begins at lo. -/
def hiT (l : List Bd) (lo : Int) : Int := l.foldl (fun h b => if lo ≤ edgeT b then min h (edgeT b) else h) 1000000

theorem hiT_next (l : List Bd) (b : Bd) (lo : Int) : hiT (l ++ [b]) lo = if lo ≤ edgeT b then min (hiT l lo) (edgeT b) else hiT l lo := by simp [hiT, List.foldl_append]

theorem hi_fold (lo : Int) : ∀ (l : List Bd) (h : Int), lo ≤ h → (lo ≤ l.foldl (fun h b => if lo ≤ edgeT b then min h (edgeT b) else h) h ∧ l.foldl (fun h b => if lo ≤ edgeT b then min h (edgeT b) else h) h ≤ h ∧ ∀ b ∈ l, lo ≤ edgeT b → l.foldl (fun h b => if lo ≤ edgeT b then min h (edgeT b) else h) h ≤ edgeT b)
  | [], h, hl => ⟨hl, Int.le_refl _, fun b hb => by simp at hb⟩
  | c :: l, h, hl => by
    rw [List.foldl_cons]
    obtain ⟨h1, h2, h3⟩ := hi_fold lo l (if lo ≤ edgeT c then min h (edgeT c) else h) (by split <;> omega)
    generalize l.foldl (fun h b => if lo ≤ edgeT b then min h (edgeT b) else h) (if lo ≤ edgeT c then min h (edgeT c) else h) = y at *
    refine ⟨h1, by split at h2 <;> omega, fun b hb he => ?_⟩
    rcases List.mem_cons.1 hb with rfl | hb
    · rw [if_pos he] at h2
      omega
    · exact h3 b hb he

theorem hi_in (l : List Bd) {lo : Int} (h : lo ≤ 1000000) : lo ≤ hiT l lo ∧ hiT l lo ≤ 1000000 ∧ ∀ b ∈ l, lo ≤ edgeT b → hiT l lo ≤ edgeT b := hi_fold lo l 1000000 h

theorem sum_congr {α : Type} {f g : α → Int} : ∀ {l : List α}, (∀ b ∈ l, f b = g b) → (l.map f).sum = (l.map g).sum
  | [], _ => rfl
  | b :: l, h => by rw [List.map_cons, List.map_cons, List.sum_cons, List.sum_cons, h b (by simp), sum_congr (fun c hc => h c (by simp [hc]))]

theorem hi_same {l : List Bd} {lo x : Int} (h : lo ≤ 1000000) (h1 : lo ≤ x) (h2 : x ≤ hiT l lo) : dem l x = dem l lo ∧ sup l x = sup l lo := by
  obtain ⟨_, _, h3⟩ := hi_in l h
  constructor
  · refine sum_congr fun b hb => ?_
    have hh := h3 b hb
    unfold edgeT at hh
    by_cases hs : b.1 = 1
    · rw [if_neg (by omega)] at hh
      by_cases hx : lo ≤ b.2.1
      · have := hh hx
        rw [if_pos ⟨hs, by omega⟩, if_pos ⟨hs, hx⟩]
      · rw [if_neg (fun h => by omega), if_neg (fun h => hx h.2)]
    · rw [if_neg (fun h => hs h.1), if_neg (fun h => hs h.1)]
  · refine sum_congr fun b hb => ?_
    have hh := h3 b hb
    unfold edgeT at hh
    by_cases hs : b.1 = 2
    · rw [if_pos hs] at hh
      by_cases hx : b.2.1 ≤ lo
      · rw [if_pos ⟨hs, by omega⟩, if_pos ⟨hs, hx⟩]
      · have := hh (by omega)
        rw [if_neg (fun h => by omega), if_neg (fun h => hx h.2)]
    · rw [if_neg (fun h => hs h.1), if_neg (fun h => hs h.1)]

/-- Stretches that cover the prices below lo. -/
structure Ivs (l : List Bd) (lo : Int) (L : List Iv) : Prop where
  each : ∀ i ∈ L, 1 ≤ i.1 ∧ i.1 ≤ i.2.1 ∧ i.2.1 < lo ∧ ∀ x, i.1 ≤ x → x ≤ i.2.1 → volAt l x = i.2.2.1 ∧ surAt l x = i.2.2.2
  sorted : L.Pairwise fun a b => a.2.1 < b.1
  cover : ∀ x, 1 ≤ x → x < lo → ∃ i ∈ L, i.1 ≤ x ∧ x ≤ i.2.1
  few : (L.length : Int) < lo

theorem Ivs.begin (l : List Bd) : Ivs l 1 [] := ⟨fun i hi => by simp at hi, List.Pairwise.nil, fun x h1 h2 => by omega, by simp⟩

theorem Ivs.next {l : List Bd} {lo : Int} {L : List Iv} (h : Ivs l lo L) (h1 : 1 ≤ lo) (hl : lo ≤ 1000000) : Ivs l (hiT l lo + 1) (L ++ [(lo, hiT l lo, min (dem l lo) (sup l lo), dem l lo - sup l lo)]) := by
  obtain ⟨a1, a2, _⟩ := hi_in l hl
  refine ⟨fun i hi => ?_, ?_, fun x hx1 hx2 => ?_, ?_⟩
  · rcases List.mem_append.1 hi with hi | hi
    · obtain ⟨b1, b2, b3, b4⟩ := h.each i hi
      exact ⟨b1, b2, by omega, b4⟩
    · rw [List.mem_singleton] at hi
      subst hi
      refine ⟨h1, a1, by simp only; omega, fun x hx hx2 => ?_⟩
      obtain ⟨e1, e2⟩ := hi_same hl hx hx2
      unfold volAt surAt
      rw [e1, e2]
      exact ⟨rfl, rfl⟩
  · rw [List.pairwise_append]
    refine ⟨h.sorted, List.pairwise_singleton _ _, fun a ha b hb => ?_⟩
    rw [List.mem_singleton] at hb
    subst hb
    exact (h.each a ha).2.2.1
  · by_cases hx : x < lo
    · obtain ⟨i, hi, hh⟩ := h.cover x hx1 hx
      exact ⟨i, List.mem_append_left _ hi, hh⟩
    · exact ⟨_, List.mem_append_right _ (List.mem_singleton.2 rfl), by simp only; omega, by simp only; omega⟩
  · have := h.few
    rw [List.length_append]
    simp only [List.length_cons, List.length_nil]
    omega

/-- All stretches, in a row of the call's own. -/
def IvsGot (l : List Bd) (w : World) (e : Ending) (w' : World) : Prop :=
  ∃ v L, e = .returned v ∧ Ivs l 1000001 L ∧ w'.ownsRow w.heap.size 50 4 v L.length (L.flatMap enc4) ∧ Adds w w'

theorem info50 : (Try.prog.info? 50).map (fun i => (i.zero, i.size, i.bytes)) = some (some (.agg #[.int .i64 0, .int .i64 0, .int .i64 0, .int .i64 0]), 4, 32) := by kernel_rfl

set_option maxRecDepth 100000 in
set_option maxHeartbeats 4000000 in
theorem Intervals_any (p : Option Addr) (cap : Nat) (l : List Bd) (w : World) (hN : l.length ≤ 5000) (hL : At3 w p l) (hok : ∀ b ∈ l, okB b = true) :
    Calls Try.prog 50 #[.slice p l.length cap] w (IvsGot l w) := by
  obtain ⟨j0, hj, hj0, hj1, hj2⟩ := info_parts info50
  have HJ := Lib.hid hj
  have HJ0 := Lib.hid hj0
  have HJ1 := Lib.hid hj1
  have HJ2 := Lib.hid hj2
  have HL := Lib.hid hL
  have HO := Lib.hid hok
  obtain ⟨N, hNl⟩ : ∃ N, N = l.length := ⟨_, rfl⟩
  have HAT : Hid (∀ x W, At3 W p l → Calls Try.prog 27 #[.slice p N cap, .int .i64 x] W fun e w' => e = .returned (.tuple #[.int .i64 (dem l x), .int .i64 (sup l x)]) ∧ Adds W w') := Lib.hid (fun x W hW => by rw [hNl]; exact RAt_any p cap l x W hN hW hok)
  have HBD : Hid (∀ x, 0 ≤ dem l x ∧ dem l x ≤ 5000000000000 ∧ 0 ≤ sup l x ∧ sup l x ≤ 5000000000000) := Lib.hid (fun x => by
    have h1 := dem_bd x l hok
    have h2 := sup_bd x l hok
    omega)
  rw [← hNl] at hN ⊢
  have HN := Lib.hid hNl
  clear hj hj0 hj1 hj2 hL hok hNl
  go_enter Try.func50, Try.ntmps50
  go_wp2
  go_loopw [3, 4] (fun v i wr => ∃ (lo : Int) (L : List Iv), 1 ≤ lo ∧ lo ≤ 1000001 ∧ i = .int .i64 lo ∧ Hid (Ivs l lo L) ∧ Hid (wr.ownsRow w.heap.size 50 4 v L.length (L.flatMap enc4)) ∧ Adds w wr) (fun _ i _ => 1000001 - (intOf i).toNat)
  case atStart => exact ⟨1, [], by omega, by omega, rfl, Lib.hid (Ivs.begin l), Lib.hid (World.ownsRow_nil _ _ _ _), Adds.refl w⟩
  case round =>
    obtain ⟨lo, L, hlo1, hlo2, rfl, hiv, hrow, hb⟩ := hrel
    have HB := Lib.hid hb
    clear hb
    by_cases hle : lo ≤ 1000000
    · go_wp2
      go_loopw [5, 6] (fun h i ws => ∃ k : Nat, k ≤ N ∧ i = .int .i64 k ∧ h = .int .i64 (hiT (l.take k) lo) ∧ ws = wr) (fun _ i _ => N - (intOf i).toNat)
      case atStart => exact ⟨0, by omega, rfl, by simp [hiT], rfl⟩
      case round =>
        obtain ⟨k, hk, rfl, rfl, rfl⟩ := hrel
        by_cases hlt : k < N
        · obtain ⟨⟨s, pp, q⟩, hb3⟩ : ∃ t, l[k]? = some t := ⟨_, List.getElem?_eq_getElem (by have := HN.out; omega)⟩
          obtain ⟨g, off, rfl, d0, d1, d2⟩ := HL.out k _ hb3
          have c0 := keep_cell HB.out d0
          have c1 := keep_cell HB.out d1
          have hv := okB_iff.1 (HO.out _ (List.mem_of_getElem? hb3))
          simp only at hv c0 c1
          obtain ⟨hs1, hp1, hq1, hq2⟩ := hv
          have HT : Hid (hiT (l.take (k + 1)) lo = if lo ≤ edgeT (s, pp, q) then min (hiT (l.take k) lo) (edgeT (s, pp, q)) else hiT (l.take k) lo) := Lib.hid (by rw [take_next hb3, hiT_next])
          generalize hiT (l.take k) lo = hh at *
          clear d0 d1 d2 hb3
          rcases hs1 with rfl | rfl
          · have HE : Hid (edgeT (1, pp, q) = pp) := Lib.hid rfl
            by_cases hge : lo ≤ pp
            · have HT2 : Hid (hiT (l.take (k + 1)) lo = min hh pp) := Lib.hid (by rw [HT.out, HE.out, if_pos hge])
              go_wp2
              exact ⟨⟨k + 1, by omega, by go_num, by rw [HT2.out], trivial⟩, by simp [intOf]; omega⟩
            · have HT2 : Hid (hiT (l.take (k + 1)) lo = hh) := Lib.hid (by rw [HT.out, HE.out, if_neg hge])
              go_wp2
              exact ⟨⟨k + 1, by omega, by go_num, by rw [HT2.out], trivial⟩, by simp [intOf]; omega⟩
          · have HE : Hid (edgeT (2, pp, q) = pp - 1) := Lib.hid rfl
            by_cases hge : lo ≤ pp - 1
            · have HT2 : Hid (hiT (l.take (k + 1)) lo = min hh (pp - 1)) := Lib.hid (by rw [HT.out, HE.out, if_pos hge])
              go_wp2
              exact ⟨⟨k + 1, by omega, by go_num, by rw [HT2.out], trivial⟩, by simp [intOf]; omega⟩
            · have HT2 : Hid (hiT (l.take (k + 1)) lo = hh) := Lib.hid (by rw [HT.out, HE.out, if_neg hge])
              go_wp2
              exact ⟨⟨k + 1, by omega, by go_num, by rw [HT2.out], trivial⟩, by simp [intOf]; omega⟩
        · have hkz : l.take k = l := List.take_of_length_le (by have := HN.out; omega)
          have HH : Hid (hiT (l.take k) lo = hiT l lo) := Lib.hid (by rw [hkz])
          rw [HH.out]
          obtain ⟨hi1, hi2, _⟩ := hi_in l hle
          have HNX := Lib.hid (hiv.out.next hlo1 hle)
          have hfew := hiv.out.few
          have hbd := HBD.out lo
          obtain ⟨dd, hdd⟩ : ∃ d, d = dem l lo := ⟨_, rfl⟩
          obtain ⟨ss, hss⟩ : ∃ s, s = sup l lo := ⟨_, rfl⟩
          have HC := HAT.out lo _ (HL.out.later HB.out)
          rw [← hdd, ← hss] at HNX HC hbd
          have HCC := Lib.hid HC
          generalize hiT l lo = hh at *
          have HLN : Hid ((L ++ [(lo, hh, min dd ss, dd - ss)]).length = L.length + 1) := Lib.hid (by simp)
          have HFL : Hid ((L ++ [(lo, hh, min dd ss, dd - ss)]).flatMap enc4 = L.flatMap enc4 ++ enc4 (lo, hh, min dd ss, dd - ss)) := Lib.hid (by simp)
          clear hkz hdd hss HC HAT HBD
          go_wp2_with (first
            | (go_at_call 27; refine HCC.out.mono ?_; rintro e w1 ⟨rfl, hb1⟩; have O1 := Lib.hid (own_later hrow.out hb1); have HB1 := Lib.hid (HB.out.trans hb1); have hz1 := HB1.out.size; clear hb1)
            | (at_builtin; ((refine wpList_append_own _ rfl _ _ 47 rfl w.heap.size 50 j0 (.agg #[.int .i64 0, .int .i64 0, .int .i64 0, .int .i64 0]) 4 32 Try.underlying47 HJ.out HJ0.out HJ1.out HJ2.out rfl (by decide) u3 L.length _ rfl (O1.out.alloc _) ⟨w1.heap.size, 0, none⟩ 1 1 (enc4 (lo, hh, min dd ss, dd - ss)) rfl rfl (World.news_of_block (Box.new w1 #[.int .i64 lo, .int .i64 hh, .int .i64 (min dd ss), .int .i64 (dd - ss)] 50)) (by simp [enc4, Value.oneCell']) (by unfold maxLen; omega) (by omega) (by simp; omega) ?_); intro va1 w2 hra1 hg1 _; have HR1 := Lib.hid hra1; have HG1 := Lib.hid hg1; clear hra1 hg1)))
          refine ⟨⟨hh + 1, L ++ [(lo, hh, min dd ss, dd - ss)], by omega, by omega, rfl, HNX, Lib.hid ?_, Below.grown (HB1.out.alloc _) HG1.out (by simp; omega) (fun j hj => (hrow.out.lt j hj).1)⟩, by simp [intOf]; omega⟩
          rw [HLN.out, HFL.out]
          exact HR1.out
    · have h1 : lo = 1000001 := by omega
      subst h1
      go_wp2
      go_ret
      exact ⟨_, L, rfl, hiv.out, hrow.out, HB.out⟩

end Go.Proofs.Ytigpghmbeldakaa
