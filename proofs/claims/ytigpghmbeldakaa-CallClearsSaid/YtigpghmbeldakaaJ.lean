/- slices.DeleteFunc at spots. -/
import Derived.Test.YtigpghmbeldakaaI
namespace Go.Proofs.Ytigpghmbeldakaa
open Go.RowKit

/-- What is known of a function value that judges spots of a list, in the worlds K. -/
structure JudgeK (K : World → Prop) (g : Nat) (lb : Array Value) (pr : Sp → Bool) (l : List Sp) : Prop where
  enter : ∀ (args : Array Value) (w : World), (callFunc g args).run Try.prog w = .ok (.enter g args) w
  call : ∀ a b c, (a, b, c) ∈ l → ∀ W, K W → Calls Try.prog g (#[.agg #[.int .i64 a, .int .i64 b, .int .i64 c]] ++ lb) W fun e w' => e = .returned (.bool (pr (a, b, c))) ∧ Adds W w'
  keep : ∀ W W', K W → Adds W W' → K W'

theorem JudgeK.judge {K : World → Prop} {g : Nat} {lb : Array Value} {pr : Sp → Bool} {l : List Sp} (h : JudgeK K g lb pr l) {w : World} (hK : K w) : Judge w g lb pr l :=
  ⟨h.enter, fun x hx W hW => by obtain ⟨a, b, c⟩ := x; exact h.call a b c hx W (h.keep _ _ hK hW)⟩

theorem zeros3 (n : Nat) : (Builtin.zeroCells (Value.cells (.agg #[.int .i64 0, .int .i64 0, .int .i64 0])) n).toList = List.replicate (n * 3) (.int .i64 0) := by
  apply List.ext_getElem
  · simp [Builtin.zeroCells, Value.cells]
  · intro i h1 h2
    have hm : i % 3 = 0 ∨ i % 3 = 1 ∨ i % 3 = 2 := by omega
    rcases hm with h | h | h <;> simp [Builtin.zeroCells, Value.cells, h]

theorem clear3 (w : World) (ty : TypeId) (b o n c : Nat) (hn : 0 < n) (hc : ∀ j, j < n * 3 → (w.cell? ⟨b, o + j, none⟩).isSome = true) (hf : ∀ j, j < n * 3 → w.frozen? ⟨b, o + j, none⟩ = false) :
    (Builtin.clear_ #[82] ty #[.slice (some ⟨b, o, none⟩) n c]).run Try.prog w = .ok (.tuple #[]) (w.setCells b o (List.replicate (n * 3) (.int .i64 0))) := by
  have hst := run_storeCells_cells (P := Try.prog) b o (List.replicate (n * 3) (.int .i64 0)) 0 w (by simpa using hc) (by simpa using hf) (by intro v hv'; rw [List.eq_of_mem_replicate hv']; rfl)
  simp only [Nat.add_zero] at hst
  have hz := zeros3 n
  obtain ⟨m, rfl⟩ : ∃ m, n = m + 1 := ⟨n - 1, by omega⟩
  simp [Builtin.clear_, run_underlying Try.underlying82, Try.zeroValue80, hz, hst]

/-- What slices.DeleteFunc returns: the slice cut to what is kept. -/
def DelGot (pr : Sp → Bool) (g cap : Nat) (l : List Sp) (w : World) (e : Ending) (w' : World) : Prop :=
  e = .returned (.slice (some ⟨g, 0, none⟩) (l.filter fun x => !pr x).length cap) ∧ Row3 w' g cap (l.filter fun x => !pr x) ∧ Touch (fun k => k = g) w w'

/-- The row between two rounds. -/
def Mid (pr : Sp → Bool) (g cap : Nat) (l : List Sp) (i j : Nat) (wr : World) : Prop :=
  ∃ L : List Sp, Row3 wr g cap L ∧ L.length = l.length ∧ L.take i = (l.take j).filter (fun x => !pr x) ∧ (∀ m, j ≤ m → L[m]? = l[m]?) ∧ i < j ∧ j ≤ l.length

theorem filter_take_of_any {pr : Sp → Bool} {l : List Sp} {k : Nat} (h : (l.take k).any pr = false) : (l.take k).filter (fun x => !pr x) = l.take k := by
  rw [List.filter_eq_self]
  intro x hx
  have := List.any_eq_false.1 h x hx
  simpa using this

theorem find_spec {pr : Sp → Bool} : ∀ {l : List Sp}, l.any pr = true → ∃ (k : Nat) (x : Sp), idxT pr l = (k : Int) ∧ l[k]? = some x ∧ pr x = true ∧ (l.take k).any pr = false
  | [], h => by simp at h
  | y :: l, h => by
    by_cases hy : pr y = true
    · exact ⟨0, y, by simp [idxT, hy, List.findIdx_cons], rfl, hy, by simp⟩
    · have hy' : pr y = false := by simpa using hy
      rw [List.any_cons, hy', Bool.false_or] at h
      obtain ⟨k, x, h1, h2, h3, h4⟩ := find_spec h
      have h5 : ((y :: l).take (k + 1)).any pr = false := by simp only [List.take_succ_cons, List.any_cons, hy', h4, Bool.or_self]
      exact ⟨k + 1, x, idx_hit h5 (by simpa using h2) h3, by simpa using h2, h3, h5⟩

theorem Row3.alloc3 {w : World} {g cap : Nat} {l : List Sp} (h : Row3 w g cap l) (o : Obj) : Row3 (w.alloc o) g cap l := h.later ((Adds.refl w).alloc o)

set_option maxRecDepth 100000 in
set_option maxHeartbeats 4000000 in
theorem delete_any (pg : Nat) (plb : Array Value) (pr : Sp → Bool) (g cap : Nat) (l : List Sp) (w : World) (hN : l.length ≤ 100000) (hr : Row3 w g cap l) (hJ : JudgeK (Touch (fun k => k = g) w) pg plb pr l) :
    Calls Try.prog 61 #[.slice (some ⟨g, 0, none⟩) l.length cap, .func (.func pg) #[] plb] w (DelGot pr g cap l w) := by
  have hidx := index_s (some ⟨g, 0, none⟩) cap pg plb pr l w (by have := hr.len; omega) hr.at3 (hJ.judge (Touch.refl _ w))
  have hcap := hr.len
  have he := hJ.enter
  have HJ := Lib.hid hJ
  have HR := Lib.hid hr
  have hgl := hr.lt
  obtain ⟨N, hNl⟩ : ∃ N, N = l.length := ⟨_, rfl⟩
  have HN := Lib.hid hNl
  have hcN : N ≤ cap := by omega
  clear hJ hr hcap
  cases ha : l.any pr with
  | false =>
    have HF : Hid (l.filter (fun x => !pr x) = l) := Lib.hid (by
      have := filter_take_of_any (pr := pr) (l := l) (k := l.length) (by rw [List.take_length]; exact ha)
      rwa [List.take_length] at this)
    rw [idx_miss ha] at hidx
    clear ha
    rw [← hNl] at hidx hN ⊢
    clear hNl
    go_enter Try.func61, Try.ntmps61
    go_wp2_with (go_at_call 83; refine hidx.mono ?_; rintro e w1 ⟨rfl, hb⟩)
    go_ret
    exact ⟨by rw [HF.out, HN.out]; rfl, by rw [HF.out]; exact HR.out.later hb, Touch.of_adds hb _⟩
  | true =>
    obtain ⟨k0, x0, h1, h2, h3, h4⟩ := find_spec ha
    rw [h1] at hidx
    have hk0 : k0 < l.length := (List.getElem?_eq_some_iff.1 h2).1
    have hne1 : ((k0 : Int) == -1) = false := beq_eq_false_iff_ne.2 (by omega)
    have HM0 : Hid (Mid pr g cap l k0 (k0 + 1) w) := Lib.hid ⟨l, HR.out, rfl, by rw [take_next h2, List.filter_append, filter_take_of_any h4]; simp [h3], fun _ _ => rfl, by omega, by omega⟩
    clear ha h1 h2 h3 h4
    rw [← hNl] at hidx hN hk0 ⊢
    clear hNl
    go_enter Try.func61, Try.ntmps61
    go_wp2_with (go_at_call 83; refine hidx.mono ?_; rintro e w1 ⟨rfl, hb⟩)
    have HB := Lib.hid hb
    clear hidx hb
    go_loopw [5, 6] (fun vi vj wr => ∃ i j : Nat, vi = .int .i64 i ∧ vj = .int .i64 j ∧ j ≤ N ∧ i < j ∧ Hid (Mid pr g cap l i j wr) ∧ Touch (fun k => k = g) w wr) (fun _ vj _ => N - (intOf vj).toNat)
    case atStart =>
      refine ⟨k0, k0 + 1, rfl, by go_num, by omega, by omega, Lib.hid ?_, Touch.of_adds HB.out _⟩
      obtain ⟨L, q1, q2⟩ := HM0.out
      exact ⟨L, q1.later HB.out, q2⟩
    case round =>
      obtain ⟨i, j, rfl, rfl, hjN, hij, hmid, ht⟩ := hrel
      obtain ⟨L, m1, m2, m3, m4, _, _⟩ := hmid.out
      by_cases hlt : j < N
      · obtain ⟨⟨a, b, c⟩, hb3⟩ : ∃ t, l[j]? = some t := ⟨_, List.getElem?_eq_getElem (by have := HN.out; omega)⟩
        obtain ⟨⟨o0, o1, o2⟩, hb4⟩ : ∃ t, L[i]? = some t := ⟨_, List.getElem?_eq_getElem (by have := HN.out; omega)⟩
        obtain ⟨_, _, e', c0, c1, c2⟩ := m1.at3 j _ ((m4 j (Nat.le_refl _)).trans hb3)
        cases e'
        obtain ⟨_, _, e', d0, d1, d2⟩ := m1.at3 i _ hb4
        cases e'
        have f0 := m1.free (i * 3)
        have f1 := m1.free (i * 3 + 1)
        have f2 := m1.free (i * 3 + 2)
        have hgw := m1.lt
        simp only [Nat.zero_add] at c0 c1 c2 d0 d1 d2
        have HC := Lib.hid (HJ.out.call a b c (List.mem_of_getElem? hb3))
        have HKP := Lib.hid HJ.out.keep
        have HTN := Lib.hid (take_next hb3)
        have M1 := Lib.hid m1
        have M2 := Lib.hid m2
        have M3 := Lib.hid m3
        have M4 := Lib.hid m4
        clear m1 m2 m3 m4 hb3 hb4 hmid
        cases hq : pr (a, b, c) with
        | false =>
          rw [hq] at HC
          have HQ := Lib.hid hq
          clear hq
          go_wp2_with (go_at_fn pg; refine (HC.out _ (HKP.out _ _ ht ((Adds.refl wr).alloc _))).mono ?_; rintro e w2 ⟨rfl, hb2⟩; have A2 : Adds wr w2 := ((Adds.refl wr).alloc _).trans hb2; have d0' := keep_cell A2 d0; have d1' := keep_cell A2 d1; have d2' := keep_cell A2 d2; have f0' := keep_free A2 d0 f0; have f1' := keep_free A2 d1 f1; have f2' := keep_free A2 d2 f2; have X := (Box.new wr #[.int .i64 a, .int .i64 b, .int .i64 c] 80).later hb2; have x0 := X.cell 0; have x1 := X.cell 1; have x2 := X.cell 2; simp only [List.getElem?_toArray, List.getElem?_cons_zero, List.getElem?_cons_succ] at x0 x1 x2; have HA2 := Lib.hid A2; clear X A2 hb2)
          refine ⟨⟨i + 1, j + 1, by go_num, by go_num, by omega, by omega, Lib.hid ⟨L.set i (a, b, c), (M1.out.later HA2.out).put (by have := M2.out; have := HN.out; omega) (a, b, c), by rw [List.length_set]; exact M2.out, ?_, ?_, by omega, by have := HN.out; omega⟩, ?_⟩, by simp [intOf]; omega⟩
          · have hi : i < (L.set i (a, b, c)).length := by rw [List.length_set]; have := M2.out; have := HN.out; omega
            rw [take_next (x := (a, b, c)) (by rw [List.getElem?_set_self (by have := M2.out; have := HN.out; omega)]), List.take_set_of_le (Nat.le_refl i), M3.out, HTN.out, List.filter_append]
            simp [HQ.out]
          · intro m hm
            rw [List.getElem?_set_ne (by omega)]
            exact M4.out m (by omega)
          · exact ((Touch.set (Touch.set (Touch.set (ht.behind HA2.out) rfl _) rfl _) rfl _))
        | true =>
          rw [hq] at HC
          have HQ := Lib.hid hq
          clear hq
          go_wp2_with (go_at_fn pg; refine (HC.out _ (HKP.out _ _ ht ((Adds.refl wr).alloc _))).mono ?_; rintro e w2 ⟨rfl, hb2⟩)
          refine ⟨⟨i, j + 1, rfl, by go_num, by omega, by omega, Lib.hid ⟨L, (M1.out.alloc3 _).later hb2, M2.out, ?_, ?_, by omega, by have := HN.out; omega⟩, (ht.behind ((Adds.refl wr).alloc _)).behind hb2⟩, by simp [intOf]; omega⟩
          · rw [M3.out, HTN.out, List.filter_append]
            simp [HQ.out]
          · intro m hm
            exact M4.out m (by omega)
      · have hjN' : j = N := by omega
        have hfil : L.take i = l.filter (fun x => !pr x) := by rw [m3, List.take_of_length_le (by have := HN.out; omega)]
        have HFI := Lib.hid hfil
        have hlenf : (l.filter (fun x => !pr x)).length = i := by rw [← hfil, List.length_take]; have := HN.out; omega
        have HLF := Lib.hid hlenf
        have hiN : i < N := by omega
        have hci : ¬ cap = i := by omega
        have hcl : ∀ ty, (Builtin.clear_ #[82] ty #[.slice (some ⟨g, i * 3, none⟩) (N - i) (cap - i)]).run Try.prog wr = .ok (.tuple #[]) (wr.setCells g (i * 3) (List.replicate ((N - i) * 3) (.int .i64 0))) := fun ty => by
          refine clear3 wr ty g (i * 3) (N - i) (cap - i) (by omega) (fun t ht => ?_) (fun t ht => m1.free _)
          have hlt3 : i * 3 + t < (L.flatMap enc3).length := by rw [flat3_len]; have := HN.out; omega
          rw [m1.cells (i * 3 + t) _ (List.getElem?_eq_getElem hlt3)]
          rfl
        have M1 := Lib.hid m1
        have M2 := Lib.hid m2
        clear hfil hlenf m1 m2 m3 m4 hmid hjN'
        go_wp2
        go_ret
        refine ⟨by rw [HLF.out]; rfl, ?_, Touch.setCells (O := fun k => k = g) g rfl _ _ _ ht⟩
        rw [← HFI.out]
        exact M1.out.cleared (by have := M2.out; have := HN.out; omega) (Nat.le_refl _) _

end Go.Proofs.Ytigpghmbeldakaa
