/- The stretches of prices: the visitor that collects spots, and the walk over the events. -/
import Derived.Test.YtigpghmbeldakaaD
import Derived.OwnWalk
import Derived.Deep.DeepCutAuto
import Derived.Deep.CutBlock
import Derived.Outline
namespace Go.Proofs.Ytigpghmbeldakaa
open Go.RowKit

theorem info80 : (Try.prog.info? 80).map (fun i => (i.zero, i.size, i.bytes)) = some (some (.agg #[.int .i64 0, .int .i64 0, .int .i64 0]), 3, 24) := by kernel_rfl

theorem Touch.join {O O' : Nat → Prop} {a b c : World} (h : Touch O a b) (k : Touch O' b c) (hO : ∀ i, O' i → O i ∨ a.heap.size ≤ i) : Touch O a c :=
  ⟨k.os.trans h.os, k.tape.trans h.tape, k.output.trans h.output, Nat.le_trans h.size k.size, fun i hi ho => (k.same i (Nat.lt_of_lt_of_le hi h.size) (fun h' => (hO i h').elim ho (fun h'' => by omega))).trans (h.same i hi ho)⟩
theorem Touch.of_grown {w w' : World} {row : Option Nat} (h : w.grownBy w' row) {O : Nat → Prop} (hO : ∀ k, row = some k → O k) : Touch O w w' :=
  ⟨h.os, h.tape, h.output, h.size, fun k hk hn => h.block k hk (fun e => hn (hO k e.symm))⟩

theorem own_form {w : World} {base e size n : Nat} {v : Value} {xs : List Value} (h : w.ownsRow base e size v n xs) (hn : 0 < n) : ∃ g cap, v = .slice (some ⟨g, 0, none⟩) n cap := by
  rcases h.2 with ⟨_, hz⟩ | ⟨g, cap, cur, hv, _⟩
  · omega
  · exact ⟨g, cap, hv⟩

/-- The three spots of a stretch. -/
def three (ref lo hi d s : Int) : List Sp := [(lo, d, s), (min (max ref lo) hi, d, s), (hi, d, s)]

/-- What the visitor leaves. -/
def Visited (B lb : Nat) (w : World) (acc : List Sp) (e : Ending) (w' : World) : Prop :=
  ∃ hv, e = .returned (.tuple #[]) ∧ Box w' lb #[hv] 82 ∧ w'.ownsRow B 80 3 hv acc.length (acc.flatMap enc3) ∧ Touch (fun k => k = lb ∨ B ≤ k) w w'

set_option maxRecDepth 100000 in
set_option maxHeartbeats 1000000 in
theorem visit_any (B rb lb : Nat) (ref lo hi d s : Int) (hv : Value) (acc : List Sp) (w : World) (hr : w.cell? ⟨rb, 0, none⟩ = some (.int .i64 ref)) (hl : Box w lb #[hv] 82) (ho : w.ownsRow B 80 3 hv acc.length (acc.flatMap enc3))
    (hB : B ≤ w.heap.size) (hlB : lb < B) (hacc : acc.length ≤ 1000000) :
    Calls Try.prog 65 #[.int .i64 lo, .int .i64 hi, .int .i64 d, .int .i64 s, .pointer (some ⟨rb, 0, none⟩), .pointer (some ⟨lb, 0, none⟩)] w (Visited B lb w (acc ++ three ref lo hi d s)) := by
  obtain ⟨j0, hj, hj0, hj1, hj2⟩ := info_parts info80
  have HJ := Lib.hid hj
  have HJ0 := Lib.hid hj0
  have HJ1 := Lib.hid hj1
  have HJ2 := Lib.hid hj2
  have HL := Lib.hid hl
  have HO := Lib.hid ho
  have l0 := hl.cell 0
  have lf := hl.free 0
  have lt := hl.lt
  simp only [List.getElem?_toArray, List.getElem?_cons_zero] at l0
  clear hj hj0 hj1 hj2 hl ho
  go_enter Try.func65, Try.ntmps65
  go_upto_region 1 with fail
  go_wp2_with (at_builtin; ((refine wpList_append_own _ rfl _ _ 82 rfl B 80 j0 (.agg #[.int .i64 0, .int .i64 0, .int .i64 0]) 3 24 Try.underlying82 HJ.out HJ0.out HJ1.out HJ2.out rfl (by decide) hv acc.length _ rfl (HO.out.alloc _) ⟨w.heap.size, 0, none⟩ 3 3 ((three ref lo hi d s).flatMap enc3) rfl rfl (World.news_of_block (Box.new w _ _)) (by simp [three, enc3, Value.oneCell']) (by unfold maxLen; omega) (by omega) (by first | (simp; done) | (simp; omega)) ?_); intro va1 w1 hra1 hg1 _; obtain ⟨g1, cap1, rfl⟩ := own_form hra1 (by omega); have hne : some lb ≠ hv.ownBlock := (fun e => by have := (HO.out.lt lb e.symm).1; omega); have hq := hg1.block lb (by first | (simp; done) | (simp; omega)) hne; have L1 := (HL.out.alloc (.cells #[.int .i64 lo, .int .i64 d, .int .i64 s, .int .i64 (min (max ref lo) hi), .int .i64 d, .int .i64 s, .int .i64 hi, .int .i64 d, .int .i64 s] 80)).same hq; have m0 := L1.cell 0; have mf := L1.free 0; simp only [List.getElem?_toArray, List.getElem?_cons_zero] at m0; have HL1 := Lib.hid L1; have HG1 := Lib.hid hg1; have HR1 := Lib.hid hra1; clear hq L1 hg1 hra1 hne))
  go_end0
  have hz := HG1.out.size
  refine ⟨.slice (some ⟨g1, 0, none⟩) (acc.length + 3) cap1, rfl, ?_, ?_, ?_⟩
  · have := HL1.out.set 0 (.slice (some ⟨g1, 0, none⟩) (acc.length + 3) cap1)
    simpa using this
  · have := ownsRow_setCell_other HR1.out (a := ⟨lb, 0, none⟩) (fun e => by have := (HR1.out.lt _ e).1; simp at this; omega) (.slice (some ⟨g1, 0, none⟩) (acc.length + 3) cap1)
    rw [List.flatMap_append, List.length_append]
    exact this
  · refine Touch.set (Touch.join (O := fun k => k = lb ∨ B ≤ k) (Touch.of_adds ((Adds.refl w).alloc _) _) (Touch.of_grown HG1.out (O := fun k => B ≤ k) (fun k hk => (HO.out.lt k hk).1)) (fun i hi => Or.inl (Or.inr hi))) (Or.inl rfl) _

/-- Sums over the first k events. -/
def sumD (l : List Sp) (k : Nat) : Int := ((l.take k).map fun e => e.2.1).sum
def sumS (l : List Sp) (k : Nat) : Int := ((l.take k).map fun e => e.2.2).sum

/-- The spots of the k-th stretch. -/
def stretch (ref : Int) (l : List Sp) (k : Nat) : List Sp :=
  if l[k]!.1 ≤ l[k + 1]!.1 - 1 then three ref l[k]!.1 (l[k + 1]!.1 - 1) (sumD l (k + 1)) (sumS l (k + 1)) else []
/-- The spots of the first k stretches. -/
def accT (ref : Int) (l : List Sp) : Nat → List Sp
  | 0 => []
  | k + 1 => accT ref l k ++ stretch ref l k

theorem accT_len (ref : Int) (l : List Sp) : ∀ k, (accT ref l k).length ≤ 3 * k
  | 0 => by simp [accT]
  | k + 1 => by
    have := accT_len ref l k
    have h3 : (stretch ref l k).length ≤ 3 := by unfold stretch; split <;> simp [three]
    simp only [accT, List.length_append]
    omega

theorem sumD_next {l : List Sp} {k : Nat} {x : Sp} (h : l[k]? = some x) : sumD l (k + 1) = sumD l k + x.2.1 := by simp [sumD, take_next h]
theorem sumS_next {l : List Sp} {k : Nat} {x : Sp} (h : l[k]? = some x) : sumS l (k + 1) = sumS l k + x.2.2 := by simp [sumS, take_next h]

/-- An event as it may be. -/
def evOk (e : Sp) : Prop := 1 ≤ e.1 ∧ e.1 ≤ 1000001 ∧ -1000000000 ≤ e.2.1 ∧ e.2.1 ≤ 1000000000 ∧ -1000000000 ≤ e.2.2 ∧ e.2.2 ≤ 1000000000

theorem sum_bd (f : Sp → Int) : ∀ (l : List Sp), (∀ e ∈ l, -1000000000 ≤ f e ∧ f e ≤ 1000000000) → -(l.length : Int) * 1000000000 ≤ (l.map f).sum ∧ (l.map f).sum ≤ (l.length : Int) * 1000000000
  | [], _ => by simp
  | e :: l, h => by
    have h1 := h e (by simp)
    have h2 := sum_bd f l (fun x hx => h x (by simp [hx]))
    simp only [List.map_cons, List.sum_cons, List.length_cons, Int.natCast_add, Int.natCast_one]
    constructor <;> omega
theorem sumD_bd {l : List Sp} (h : ∀ e ∈ l, evOk e) (k : Nat) : -(l.length : Int) * 1000000000 ≤ sumD l k ∧ sumD l k ≤ (l.length : Int) * 1000000000 := by
  have h1 := sum_bd (fun e => e.2.1) (l.take k) (fun e he => by have := h e (List.mem_of_mem_take he); unfold evOk at this; omega)
  have h2 := List.length_take_le' k l
  unfold sumD
  constructor <;> omega
theorem sumS_bd {l : List Sp} (h : ∀ e ∈ l, evOk e) (k : Nat) : -(l.length : Int) * 1000000000 ≤ sumS l k ∧ sumS l k ≤ (l.length : Int) * 1000000000 := by
  have h1 := sum_bd (fun e => e.2.2) (l.take k) (fun e he => by have := h e (List.mem_of_mem_take he); unfold evOk at this; omega)
  have h2 := List.length_take_le' k l
  unfold sumS
  constructor <;> omega

/-- What the walk leaves. -/
def Walked (lb : Nat) (w : World) (acc : List Sp) (e : Ending) (w' : World) : Prop :=
  ∃ hv, e = .returned (.tuple #[]) ∧ Box w' lb #[hv] 82 ∧ w'.ownsRow w.heap.size 80 3 hv acc.length (acc.flatMap enc3) ∧ Touch (fun k => k = lb) w w'

set_option maxRecDepth 100000 in
set_option maxHeartbeats 4000000 in
theorem walk_any (rb lb : Nat) (ref : Int) (p : Option Addr) (cap : Nat) (l : List Sp) (w : World) (hN : l.length ≤ 20000) (h1 : 1 ≤ l.length) (hL : At3 w p l) (hp : ∀ g off, p = some ⟨g, off, none⟩ → g ≠ lb) (hok : ∀ e ∈ l, evOk e)
    (hr : w.cell? ⟨rb, 0, none⟩ = some (.int .i64 ref)) (hrl : rb ≠ lb) (hl : Box w lb #[.slice none 0 0] 82) :
    Calls Try.prog 63 #[.slice p l.length cap, .func (.func 65) #[] #[.pointer (some ⟨rb, 0, none⟩), .pointer (some ⟨lb, 0, none⟩)]] w (Walked lb w (accT ref l (l.length - 1))) := by
  obtain ⟨N, hNl⟩ : ∃ N, N = l.length := ⟨_, rfl⟩
  rw [← hNl] at hN h1 ⊢
  have HL := Lib.hid hL
  have HP := Lib.hid hp
  have HO := Lib.hid hok
  have HR := Lib.hid hr
  have HB := Lib.hid hl
  have HN := Lib.hid hNl
  have he : ∀ args w, (callFunc 65 args).run Try.prog w = .ok (.enter 65 args) w := fun args w => enters_of Try.func65 (by kernel_rfl) rfl args w
  clear hL hp hok hr hl hNl
  go_enter Try.func63, Try.ntmps63
  go_wp2
  go_loopw [4, 5, 12] (fun d s i wr => ∃ k : Nat, k + 1 ≤ N ∧ i = .int .i64 k ∧ d = .int .i64 (sumD l k) ∧ s = .int .i64 (sumS l k) ∧
    Hid (∃ hv, Box wr lb #[hv] 82 ∧ wr.ownsRow w.heap.size 80 3 hv (accT ref l k).length ((accT ref l k).flatMap enc3)) ∧ Touch (fun k => k = lb) w wr) (fun _ _ i _ => N - (intOf i).toNat)
  case atStart => exact ⟨0, by omega, rfl, rfl, rfl, Lib.hid ⟨_, HB.out, World.ownsRow_nil _ _ _ _⟩, Touch.refl _ w⟩
  case round =>
    obtain ⟨k, hk, rfl, rfl, rfl, hrow, ht⟩ := hrel
    by_cases hlt : k + 1 < N
    · obtain ⟨⟨pk, dk, sk⟩, hb3⟩ : ∃ t, l[k]? = some t := ⟨_, List.getElem?_eq_getElem (by have := HN.out; omega)⟩
      obtain ⟨⟨pn, dn, sn⟩, hb4⟩ : ∃ t, l[k + 1]? = some t := ⟨_, List.getElem?_eq_getElem (by have := HN.out; omega)⟩
      obtain ⟨gg, off, rfl, d0, d1, d2⟩ := HL.out k _ hb3
      obtain ⟨gg', off', e', n0, _, _⟩ := HL.out (k + 1) _ hb4
      cases e'
      have hne : ¬ gg = lb := HP.out _ _ rfl
      have c0 := touch_cell ht hne d0
      have c1 := touch_cell ht hne d1
      have c2 := touch_cell ht hne d2
      have cn := touch_cell ht hne n0
      have cr := touch_cell ht hrl HR.out
      have hv1 := HO.out _ (List.mem_of_getElem? hb3)
      have hv2 := HO.out _ (List.mem_of_getElem? hb4)
      unfold evOk at hv1 hv2
      have hD := sumD_bd HO.out k
      have hS := sumS_bd HO.out k
      have HD : Hid (sumD l (k + 1) = sumD l k + dk) := Lib.hid (sumD_next hb3)
      have HS : Hid (sumS l (k + 1) = sumS l k + sk) := Lib.hid (sumS_next hb3)
      have HG : Hid (stretch ref l k = if pk ≤ pn - 1 then three ref pk (pn - 1) (sumD l k + dk) (sumS l k + sk) else []) := Lib.hid (by
        unfold stretch
        rw [HD.out, HS.out, List.getElem!_eq_getElem?_getD, List.getElem!_eq_getElem?_getD, hb3, hb4]
        rfl)
      have hlen : l.length ≤ 20000 := by have := HN.out; omega
      generalize hDD : sumD l k = D at *
      generalize hSS : sumS l k = S at *
      have HDD := Lib.hid hDD
      have HSS := Lib.hid hSS
      simp only at hv1 hv2 c0 c1 c2 cn
      obtain ⟨v1, v2, v3, v4, v5, v6⟩ := hv1
      obtain ⟨v7, v8, _⟩ := hv2
      have b1 : -20000000000000 ≤ D := by omega
      have b2 : D ≤ 20000000000000 := by omega
      have b3 : -20000000000000 ≤ S := by omega
      have b4 : S ≤ 20000000000000 := by omega
      have hk2 : k ≤ 20000 := by omega
      have hlt1 : (k : Int) < (N : Int) - 1 := by omega
      have hlt2 : (k : Int) + 1 < (N : Int) := by omega
      have HT := Lib.hid ht
      have HLT := Lib.hid hlt
      clear d0 d1 d2 n0 hb3 hb4 hD hS hDD hSS ht hne hlt
      go_upto_region 6 with fail
      have q1 : IntKind.i64.wrap ((k : Int) + 1) = (k : Int) + 1 := IntWalk.i64_in _ (by omega)
      have q2 : ((k : Int) + 1).toNat = k + 1 := by omega
      have q3 : (0 : Int) ≤ (k : Int) + 1 := by omega
      have q4 : IntKind.i64.wrap (pn - 1) = pn - 1 := IntWalk.i64_in _ (by omega)
      go_quiet (fail)
      clear q1 q2 q3 q4
      by_cases hle : pk ≤ pn - 1
      · have HLE := Lib.hid hle
        have hacc := accT_len ref l k
        obtain ⟨hv, r1, r2⟩ := hrow.out
        have hz : Hid (w.heap.size ≤ wr.heap.size) := Lib.hid HT.out.size
        have hlb : Hid (lb < w.heap.size) := Lib.hid HB.out.lt
        have R1 := Lib.hid r1
        have R2 := Lib.hid r2
        have HA : Hid ((accT ref l k).length ≤ 1000000) := Lib.hid (by omega)
        have HCR := Lib.hid cr
        clear r1 r2 hacc cr
        go_wp2_with (go_at_fn 65; refine (visit_any w.heap.size rb lb ref pk (pn - 1) (D + dk) (S + sk) hv (accT ref l k) _ (by exact HCR.out) (by exact R1.out) (by exact R2.out) (by exact hz.out) hlb.out HA.out).mono ?_; rintro e w2 ⟨hv2, rfl, x1, x2, x3⟩)
        refine ⟨⟨k + 1, by omega, by go_num, by rw [HD.out], by rw [HS.out], Lib.hid ⟨hv2, x1, ?_⟩, ?_⟩, by simp [intOf]; omega⟩
        · have e : accT ref l (k + 1) = accT ref l k ++ three ref pk (pn - 1) (D + dk) (S + sk) := by rw [accT, HG.out, if_pos HLE.out]
          rw [e]
          exact x2
        · exact Touch.join HT.out (O' := fun j => j = lb ∨ w.heap.size ≤ j) ⟨x3.os, x3.tape, x3.output, x3.size, x3.same⟩ (fun i hi => hi)
      · have HLE := Lib.hid hle
        go_wp2
        refine ⟨⟨k + 1, by omega, by go_num, by rw [HD.out], by rw [HS.out], Lib.hid ?_, ?_⟩, by simp [intOf]; omega⟩
        · have e : accT ref l (k + 1) = accT ref l k := by rw [accT, HG.out, if_neg HLE.out, List.append_nil]
          rw [e]
          exact hrow.out
        · exact ⟨HT.out.os, HT.out.tape, HT.out.output, HT.out.size, HT.out.same⟩
    · have hkN : k = N - 1 := by omega
      have HE := Lib.hid hkN
      have hlt1 : ¬ (k : Int) < (N : Int) - 1 := by omega
      clear hkN hlt
      go_wp2
      go_end0
      obtain ⟨hv, r1, r2⟩ := hrow.out
      rw [HE.out] at r2
      exact ⟨hv, rfl, r1, r2, ht⟩

end Go.Proofs.Ytigpghmbeldakaa
