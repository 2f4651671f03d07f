/- byTime; quantities. -/
import Derived.Test.YtigpghmbeldakaaR
namespace Go.Proofs.Ytigpghmbeldakaa
open Go.RowKit

/-- One served after the other. -/
def turnT : Int → List Int → List Int
  | _, [] => []
  | t, w :: l => min w t :: turnT (t - min w t) l

theorem turnT_len : ∀ (l : List Int) (t : Int), (turnT t l).length = l.length
  | [], _ => rfl
  | w :: l, t => by simp [turnT, turnT_len l]
theorem turnT_bd : ∀ (l : List Int) (t : Int), 0 ≤ t → qOk l → qOk (turnT t l) ∧ (turnT t l).sum ≤ t ∧ 0 ≤ (turnT t l).sum
  | [], t, h, _ => ⟨fun x hx => by simp [turnT] at hx, by simpa [turnT] using h, by simp [turnT]⟩
  | w :: l, t, h, hq => by
    have hw := hq w (by simp)
    obtain ⟨i1, i2, i3⟩ := turnT_bd l (t - min w t) (by omega) (fun x hx => hq x (by simp [hx]))
    refine ⟨fun x hx => ?_, ?_, ?_⟩
    · rw [turnT, List.mem_cons] at hx
      rcases hx with rfl | hx
      · omega
      · exact i1 x hx
    · simp only [turnT, List.sum_cons]; omega
    · simp only [turnT, List.sum_cons]; omega
/-- What is left behind k of them. -/
def leftT (t : Int) (l : List Int) (k : Nat) : Int := t - ((turnT t l).take k).sum
theorem turn_next : ∀ {l : List Int} {t : Int} {k : Nat} {x : Int}, l[k]? = some x → (turnT t l)[k]? = some (min x (leftT t l k))
  | [], t, k, x, h => by simp at h
  | w :: l, t, 0, x, h => by simp at h; subst h; simp [turnT, leftT]
  | w :: l, t, k + 1, x, h => by
    have ih := turn_next (l := l) (t := t - min w t) (k := k) (x := x) (by simpa using h)
    simp only [turnT, List.getElem?_cons_succ, ih, leftT, List.take_succ_cons, List.sum_cons, Int.sub_sub]
theorem take_turn {l : List Int} {t : Int} {k : Nat} {x : Int} (h : l[k]? = some x) : leftT t l (k + 1) = leftT t l k - min x (leftT t l k) := by
  have := turn_next (t := t) h
  unfold leftT at this ⊢
  rw [take_next this, List.sum_append]
  simp
  omega
theorem left_bd {l : List Int} {t : Int} (ht : 0 ≤ t) (hq : qOk l) (k : Nat) : 0 ≤ leftT t l k ∧ leftT t l k ≤ t := by
  obtain ⟨h1, h2, h3⟩ := turnT_bd l t ht hq
  have e : (turnT t l).sum = ((turnT t l).take k).sum + ((turnT t l).drop k).sum := by
    conv => lhs; rw [← List.take_append_drop k (turnT t l)]
    rw [List.sum_append]
  have a := sum_take_bd _ (h1.take k)
  have b := sum_take_bd ((turnT t l).drop k) (fun x hx => h1 x (List.mem_of_mem_drop hx))
  unfold leftT
  constructor <;> omega

/-- A row that is filled from its head on. -/
def Filled (done : List Int) (n : Nat) : List Int := done ++ List.replicate (n - done.length) 0
theorem Filled.next {d : List Int} {n : Nat} {x : Int} {k : Nat} (hk : d.length = k) (h : k < n) : (Filled d n).set k x = Filled (d ++ [x]) n := by
  unfold Filled
  subst hk
  rw [List.set_append_right _ _ (Nat.le_refl _), Nat.sub_self]
  obtain ⟨m, hm⟩ : ∃ m, n - d.length = m + 1 := ⟨n - d.length - 1, by omega⟩
  rw [hm, List.replicate_succ, List.set_cons_zero, List.append_assoc, List.length_append, List.length_singleton, show n - (d.length + 1) = m by omega]
  rfl
theorem Filled.full {d : List Int} {n : Nat} (h : d.length = n) : Filled d n = d := by
  unfold Filled
  rw [h, Nat.sub_self]
  simp
theorem Filled.len {d : List Int} {n : Nat} (h : d.length ≤ n) : (Filled d n).length = n := by
  unfold Filled
  simp
  omega

theorem Filled.at {d : List Int} {n k : Nat} (hk : d.length = k) (h : k < n) : (Filled d n)[k]? = some 0 := by
  unfold Filled
  subst hk
  rw [List.getElem?_append_right (Nat.le_refl _), Nat.sub_self, List.getElem?_replicate, if_pos (by omega)]

/-- A row of numbers that a call returns. -/
def RowGot (t : TypeId) (l : List Int) (w : World) (e : Ending) (w' : World) : Prop :=
  ∃ g cap, e = .returned (.slice (some ⟨g, 0, none⟩) l.length cap) ∧ w.heap.size ≤ g ∧ RowI t .i64 w' g cap l ∧ Adds w w'

set_option maxRecDepth 100000 in
set_option maxHeartbeats 2000000 in
theorem byTime_any (tt : Int) (p : Option Addr) (cap : Nat) (l : List Int) (w : World) (hN : l.length ≤ 5000) (hL : At1 .i64 w p l) (hq : qOk l) (ht : 0 ≤ tt) (ht2 : tt ≤ 5000000000000) :
    Calls Try.prog 101 #[.int .i64 tt, .slice p l.length cap] w (RowGot 2 (turnT tt l) w) := by
  obtain ⟨j0, hj, hj0, hj1, hj2⟩ := info_parts info2
  have HJ := Lib.hid hj
  have HJ0 := Lib.hid hj0
  have HJ1 := Lib.hid hj1
  have HJ2 := Lib.hid hj2
  obtain ⟨N, hNl⟩ : ∃ N, N = l.length := ⟨_, rfl⟩
  have HL := Lib.hid hL
  have HQ := Lib.hid hq
  rw [← hNl] at hN ⊢
  have HN := Lib.hid hNl
  clear hL hq hNl hj hj0 hj1 hj2
  go_enter Try.func101, Try.ntmps101
  go_wp2_with (refine wpList_make_full _ rfl _ _ 36 rfl w.heap.size 2 j0 (.int .i64 0) 1 Try.underlying36 HJ.out HJ0.out HJ1.out .i64 .i64 (N : Int) (N : Int) N rfl rfl rfl rfl (by rw [HJ2.out]; omega) (by unfold maxLen; omega) (Nat.le_refl _) ?_; intro w1 ho hg; have HO := Lib.hid (made_row ho); have HG := Lib.hid hg; clear ho hg)
  have hor := (own_rowI HO.out).2
  have hr1 : RowI 2 .i64 w1 w.heap.size N (List.replicate N 0) := by
    rcases hor with ⟨h, _⟩ | ⟨g', cap', h, _, h2⟩
    · simp at h
    · simp only [Value.slice.injEq, Option.some.injEq, Addr.mk.injEq, and_true] at h
      obtain ⟨rfl, h3, rfl⟩ := h
      exact h2
  have HR := Lib.hid hr1
  have HA : Hid (Adds w w1) := Lib.hid ⟨HG.out.os, HG.out.tape, HG.out.output, HG.out.size, fun k hk => HG.out.block k hk (by simp)⟩
  clear hor hr1 HO HG
  go_loopw [0, 13] (fun vt i wr => ∃ k : Nat, k ≤ N ∧ i = .int .i64 k ∧ vt = .int .i64 (leftT tt l k) ∧ Hid (RowI 2 .i64 wr w.heap.size N (Filled ((turnT tt l).take k) N)) ∧ Adds w wr) (fun _ i _ => N - (intOf i).toNat)
  case atStart => exact ⟨0, by omega, rfl, by simp [leftT], Lib.hid (by simpa [Filled] using HR.out), HA.out⟩
  case round =>
    obtain ⟨k, hk, rfl, rfl, hrow, hb⟩ := hrel
    have hkl : ((turnT tt l).take k).length = k := by rw [List.length_take, turnT_len]; have := HN.out; omega
    by_cases hlt : k < N
    · obtain ⟨x, hx⟩ : ∃ t, l[k]? = some t := ⟨_, List.getElem?_eq_getElem (by have := HN.out; omega)⟩
      obtain ⟨g, off, rfl, d0⟩ := HL.out k _ hx
      have c0 := keep_cell hb d0
      have hxb := HQ.out x (List.mem_of_getElem? hx)
      have hlb := left_bd ht HQ.out k
      have HTN := Lib.hid (turn_next (t := tt) hx)
      have HLN := Lib.hid (take_turn (t := tt) hx)
      have o0 := hrow.out.cell (j := k) (x := 0) (Filled.at hkl hlt)
      have o1 := hrow.out.free k
      have HR2 : Hid (∀ u, RowI 2 .i64 (wr.setCell ⟨w.heap.size, k, none⟩ (.int .i64 u)) w.heap.size N ((Filled ((turnT tt l).take k) N).set k u)) := Lib.hid (fun u => hrow.out.put k u)
      have o2 : Hid (∀ u, (wr.setCell ⟨w.heap.size, k, none⟩ (.int .i64 u)).cell? ⟨w.heap.size, k, none⟩ = some (.int .i64 u)) := Lib.hid (fun u => (HR2.out u).cell (by rw [List.getElem?_set_self (by rw [Filled.len (by omega)]; exact hlt)]))
      generalize hlft : leftT tt l k = lf at *
      obtain ⟨hx1, hx2⟩ := hxb
      obtain ⟨hl1, hl2⟩ := hlb
      have hkl' := Lib.hid hkl
      have o3 := o2.out (min x lf)
      clear hx d0 hlft hkl
      go_wp2
      refine ⟨⟨k + 1, by omega, by go_num, by rw [HLN.out], Lib.hid ?_, hb.set (by simp) _⟩, by simp [intOf]; omega⟩
      rw [take_next HTN.out, ← Filled.next hkl'.out hlt]
      exact HR2.out _
    · have hkN : k = N := by omega
      have hfull : Filled ((turnT tt l).take k) N = turnT tt l := by
        rw [List.take_of_length_le (by rw [turnT_len]; have := HN.out; omega)]
        exact Filled.full (by rw [turnT_len]; exact HN.out.symm)
      rw [hfull] at hrow
      clear hkN hfull hkl
      go_wp2
      go_ret
      exact ⟨w.heap.size, N, by rw [turnT_len, ← HN.out]; rfl, Nat.le_refl _, hrow.out, hb⟩

set_option maxRecDepth 100000 in
set_option maxHeartbeats 2000000 in
theorem quantities_any (p : Option Addr) (cap : Nat) (l : List Bd) (q : Option Addr) (cap2 : Nat) (ns : List Int) (w : World) (hN : ns.length ≤ 5000) (hl5 : l.length ≤ 5000) (hL : At3 w p l) (hI : At1 .i64 w q ns) (hin : ∀ n ∈ ns, 0 ≤ n ∧ n < l.length) :
    Calls Try.prog 91 #[.slice p l.length cap, .slice q ns.length cap2] w (RowGot 2 (ns.map fun n => (l[n.toNat]!).2.2) w) := by
  obtain ⟨j0, hj, hj0, hj1, hj2⟩ := info_parts info2
  have HJ := Lib.hid hj
  have HJ0 := Lib.hid hj0
  have HJ1 := Lib.hid hj1
  have HJ2 := Lib.hid hj2
  obtain ⟨N, hNl⟩ : ∃ N, N = ns.length := ⟨_, rfl⟩
  obtain ⟨M, hMl⟩ : ∃ M, M = l.length := ⟨_, rfl⟩
  have HL := Lib.hid hL
  have HI := Lib.hid hI
  have HIN := Lib.hid hin
  rw [← hNl] at hN ⊢
  rw [← hMl] at hl5 ⊢
  have HN := Lib.hid hNl
  have HM := Lib.hid hMl
  clear hL hI hin hNl hMl hj hj0 hj1 hj2
  go_enter Try.func91, Try.ntmps91
  go_wp2_with (refine wpList_make_full _ rfl _ _ 36 rfl w.heap.size 2 j0 (.int .i64 0) 1 Try.underlying36 HJ.out HJ0.out HJ1.out .i64 .i64 (N : Int) (N : Int) N rfl rfl rfl rfl (by rw [HJ2.out]; omega) (by unfold maxLen; omega) (Nat.le_refl _) ?_; intro w1 ho hg; have HO := Lib.hid (made_row ho); have HG := Lib.hid hg; clear ho hg)
  have hor := (own_rowI HO.out).2
  have hr1 : RowI 2 .i64 w1 w.heap.size N (List.replicate N 0) := by
    rcases hor with ⟨h, _⟩ | ⟨g', cap', h, _, h2⟩
    · simp at h
    · simp only [Value.slice.injEq, Option.some.injEq, Addr.mk.injEq, and_true] at h
      obtain ⟨rfl, h3, rfl⟩ := h
      exact h2
  have HR := Lib.hid hr1
  have HA : Hid (Adds w w1) := Lib.hid ⟨HG.out.os, HG.out.tape, HG.out.output, HG.out.size, fun k hk => HG.out.block k hk (by simp)⟩
  clear hor hr1 HO HG
  go_loopw [13] (fun i wr => ∃ k : Nat, k ≤ N ∧ i = .int .i64 k ∧ Hid (RowI 2 .i64 wr w.heap.size N (Filled ((ns.take k).map fun n => (l[n.toNat]!).2.2) N)) ∧ Adds w wr) (fun i _ => N - (intOf i).toNat)
  case atStart => exact ⟨0, by omega, rfl, Lib.hid (by simpa [Filled] using HR.out), HA.out⟩
  case round =>
    obtain ⟨k, hk, rfl, hrow, hb⟩ := hrel
    have hkl : ((ns.take k).map fun n => (l[n.toNat]!).2.2).length = k := by rw [List.length_map, List.length_take]; have := HN.out; omega
    by_cases hlt : k < N
    · obtain ⟨x, hx⟩ : ∃ t, ns[k]? = some t := ⟨_, List.getElem?_eq_getElem (by have := HN.out; omega)⟩
      obtain ⟨hx1, hx2⟩ := HIN.out x (List.mem_of_getElem? hx)
      obtain ⟨m, rfl⟩ : ∃ m : Nat, x = (m : Int) := ⟨x.toNat, by omega⟩
      obtain ⟨⟨s, pp, qq⟩, hb3⟩ : ∃ t, l[m]? = some t := ⟨_, List.getElem?_eq_getElem (by omega)⟩
      obtain ⟨g, off, rfl, d0⟩ := HI.out k _ hx
      obtain ⟨g2, off2, rfl, _, _, e2⟩ := HL.out m _ hb3
      have c0 := keep_cell hb d0
      have c2 := keep_cell hb e2
      have HTN := Lib.hid (take_next hx)
      have HQQ : Hid ((l[(m : Int).toNat]!).2.2 = qq) := Lib.hid (by rw [Int.toNat_natCast, List.getElem!_eq_getElem?_getD, hb3]; rfl)
      have hmM : m < M := by have := HM.out; omega
      have o0 := hrow.out.cell (j := k) (x := 0) (Filled.at hkl hlt)
      have o1 := hrow.out.free k
      have HR2 := Lib.hid (hrow.out.put k qq)
      have hkl' := Lib.hid hkl
      simp only at c2
      clear hx d0 e2 hb3 hx1 hx2 hkl
      go_wp2
      refine ⟨⟨k + 1, by omega, by go_num, Lib.hid ?_, hb.set (by simp) _⟩, by simp [intOf]; omega⟩
      rw [HTN.out, List.map_append, List.map_cons, List.map_nil, HQQ.out, ← Filled.next hkl'.out hlt]
      exact HR2.out
    · have hkN : k = N := by omega
      have hfull : Filled ((ns.take k).map fun n => (l[n.toNat]!).2.2) N = ns.map fun n => (l[n.toNat]!).2.2 := by
        rw [List.take_of_length_le (by have := HN.out; omega)]
        exact Filled.full (by rw [List.length_map]; exact HN.out.symm)
      rw [hfull] at hrow
      clear hkN hfull hkl
      go_wp2
      go_ret
      exact ⟨w.heap.size, N, by rw [List.length_map, ← HN.out]; rfl, Nat.le_refl _, hrow.out, hb⟩

end Go.Proofs.Ytigpghmbeldakaa
