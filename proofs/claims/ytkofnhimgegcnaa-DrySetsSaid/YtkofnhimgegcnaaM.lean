/- A network that is laid, as one that is filled; fits. -/
import Derived.Test.YtkofnhimgegcnaaK
namespace Go.Proofs.Ytkofnhimgegcnaa
open Go Go.RowKit

theorem wayCells_get : ∀ (E : List Edge) (k : Nat), k < E.length → (wayCells E)[4 * k]? = some (.int .i64 ((eAt E k).2.1 : Int)) ∧ (wayCells E)[4 * k + 1]? = some (.int .i64 (eAt E k).2.2) ∧
    (wayCells E)[4 * k + 2]? = some (.int .i64 ((eAt E k).1 : Int)) ∧ (wayCells E)[4 * k + 3]? = some (.int .i64 0)
  | [], k, h => by simp at h
  | e :: E, 0, _ => by simp [wayCells, eAt]
  | e :: E, k + 1, h => by
    have ih := wayCells_get E k (by simpa using h)
    have e1 : eAt (e :: E) (k + 1) = eAt E k := by simp [eAt]
    rw [e1]
    have e2 : ∀ j, (wayCells (e :: E))[4 * (k + 1) + j]? = (wayCells E)[4 * k + j]? := fun j => by
      have : wayCells (e :: E) = [.int .i64 (e.2.1 : Int), .int .i64 e.2.2, .int .i64 (e.1 : Int), .int .i64 0] ++ wayCells E := by simp [wayCells]
      rw [this, List.getElem?_append_right (by simp; omega)]
      congr 1
      simp; omega
    have h0 := e2 0
    rw [Nat.add_zero, Nat.add_zero] at h0
    rw [h0, e2 1, e2 2, e2 3]
    exact ih

theorem LaidAt.netAt {b go base N : Nat} {E : List Edge} {w : World} {vl vt vw : Value} {co : Nat} (h : LaidAt b go base N E w vl vt vw nilV co) (hE : 0 < E.length) :
    ∃ gw cw, base ≤ gw ∧ NetAt ⟨b, go, gw, co, cw, some ⟨gw, 0, none⟩, vl, vt⟩ E N w (fun _ => 0) nilV := by
  obtain ⟨hnet, hways, ⟨vs, hrows⟩, hb1, hb2, hb3⟩ := h
  have hways' := hways
  obtain ⟨hl, hw⟩ := hways
  rcases hw with ⟨_, hz⟩ | ⟨gw, cap, cur, rfl, hb, hg, hle, hmx, hsz, htk⟩
  · omega
  · refine ⟨gw, cap, hb, ⟨hnet, ⟨fun e => ?_, fun v hv => ?_⟩, fun _ => ⟨rfl, cur, hg, fun i hi => ?_⟩, ?_⟩⟩
    · dsimp only at e
      omega
    · obtain ⟨pv, cv, hpv⟩ := own_slice (hrows.own v hv)
      refine ⟨pv, cv, by rw [← hpv]; exact hrows.cell hv, fun p x hx => ?_⟩
      have ho := hrows.own v hv
      obtain ⟨_, ho2⟩ := own_rowI ho
      rcases ho2 with ⟨_, hnil⟩ | ⟨g', c', hv', hbase, hr⟩
      · have := (List.getElem?_eq_some_iff.1 hx).1
        have hz : (outE E v).length = 0 := by have := congrArg List.length hnil; simpa using this
        omega
      · rw [hv'] at hpv
        simp only [Value.slice.injEq] at hpv
        obtain ⟨hp1, _, _⟩ := hpv
        refine ⟨g', hp1.symm, fun e => ?_, hr.cell (numsI_get hx)⟩
        dsimp only at e
        rcases e with e | e
        · obtain ⟨cur2, hg2, _⟩ := hr
          rw [e, hg] at hg2
          simp at hg2
        · omega
    · obtain ⟨q0, q1, q2, q3⟩ := wayCells_get E (i / 2) (by omega)
      have key : ∀ j u, (wayCells E)[j]? = some u → cur[j]? = some u := fun j u hj => by
        have hjl : j < (wayCells E).length := (List.getElem?_eq_some_iff.1 hj).1
        rw [wayCells_len] at hjl
        have : (cur.toList.take (2 * E.length * 2))[j]? = some u := by rw [htk]; exact hj
        rw [List.getElem?_take, if_pos hjl] at this
        simpa using this
      rcases Nat.mod_two_eq_zero_or_one i with hm | hm
      · have e1 : 2 * i = 4 * (i / 2) := by omega
        unfold headE roomE
        rw [e1, if_pos hm, if_pos hm, Int.sub_zero]
        exact ⟨key _ _ q0, key _ _ q1⟩
      · have e1 : 2 * i = 4 * (i / 2) + 2 := by omega
        unfold headE roomE
        rw [e1, if_neg (by omega), if_neg (by omega)]
        exact ⟨key _ _ q2, key _ _ q3⟩
    · dsimp only
      omega

/-- What the edges of loads are. -/
theorem loadsE_mem {n : Nat} {T : List Int} : ∀ {l : List Ld} {j : Nat} {e : Edge}, e ∈ loadsE n T l j → ∃ i x, l[i]? = some x ∧ (e = (0, 2 + (j + i), x.2.2.1) ∨ ∃ q, q < spansOf T x ∧ e = (2 + (j + i), 2 + n + (posT T x.1 + q), spanL T (posT T x.1 + q)))
  | [], j, e, h => by simp [loadsE] at h
  | x :: l, j, e, h => by
    rw [loadsE, List.mem_append] at h
    rcases h with h | h
    · refine ⟨0, x, rfl, ?_⟩
      rw [loadE, List.mem_cons] at h
      rcases h with h | h
      · exact Or.inl h
      · rw [List.mem_map] at h
        obtain ⟨q, hq, he⟩ := h
        exact Or.inr ⟨q, List.mem_range.1 hq, he.symm⟩
    · obtain ⟨i, y, hi, ho⟩ := loadsE_mem h
      refine ⟨i + 1, y, by simpa using hi, ?_⟩
      rw [show j + (i + 1) = j + 1 + i by omega]
      exact ho

theorem netE_sane {T : List Int} {K : Int} {l : List Ld} (hT : Times T (timesL l)) (hok : ∀ x ∈ l, okN x) (hn1 : 0 < l.length) (hn : l.length ≤ 256) (hTl : T.length ≤ 2 * l.length) (hK0 : 0 ≤ K) (hK1 : K ≤ 256) : Sane (netE T K l) (2 + l.length + T.length) := by
  obtain ⟨hb1, hb2⟩ := span_bd hT hok
  have key : ∀ e ∈ netE T K l, (e.1 < 2 + l.length + T.length ∧ e.2.1 < 2 + l.length + T.length) ∧ 0 ≤ e.2.2 ∧ e.2.2 ≤ 1000000000000 := fun e he => by
    unfold netE at he
    rw [List.mem_append] at he
    rcases he with he | he
    · obtain ⟨i, x, hi, ho⟩ := loadsE_mem he
      have hil := (List.getElem?_eq_some_iff.1 hi).1
      have hxm := List.mem_of_getElem? hi
      obtain ⟨o1, o2, o3, o4, o5, o6⟩ := hok x hxm
      rcases ho with rfl | ⟨q, hq, rfl⟩
      · dsimp only; omega
      · unfold spansOf at hq
        have hm := timesL_mem hxm
        have hpb := posT_spec ((hT.mem _).2 hm.2)
        dsimp only
        have h1 := span_le hb1 (posT T x.1 + q)
        have h2 := hb2 (posT T x.1 + q)
        omega
    · unfold sinkE at he
      rw [List.mem_map] at he
      obtain ⟨s, hs, rfl⟩ := he
      rw [List.mem_range] at hs
      have h1 := span_le hb1 s
      have h2 := hb2 s
      have h3 : 0 ≤ spanL T s := by omega
      dsimp only
      have h4 := Int.mul_nonneg hK0 h3
      have h5 := Int.mul_le_mul_of_nonneg_right hK1 h3
      omega
  have hat : ∀ k, k < (netE T K l).length → eAt (netE T K l) k ∈ netE T K l := fun k hk => by
    unfold eAt
    rw [List.getElem?_eq_getElem hk]
    simp
  refine ⟨fun k hk => (key _ (hat k hk)).1, by omega, by omega, ?_, fun k hk => (key _ (hat k hk)).2⟩
  unfold netE
  rw [List.length_append, sinkE_len]
  have h1 := loadsE_len l.length T l 0
  have h3 : T.length ≤ 512 := by omega
  have := Nat.mul_le_mul hn (Nat.succ_le_succ h3)
  simp only [Nat.succ_eq_add_one] at this
  omega

theorem netE_pos {T : List Int} {K : Int} {l : List Ld} (hn1 : 0 < l.length) : 0 < (netE T K l).length := by
  unfold netE
  obtain ⟨x, l', rfl⟩ : ∃ x l', l = x :: l' := by
    cases l with
    | nil => simp at hn1
    | cons x l' => exact ⟨x, l', rfl⟩
  rw [List.length_append, loadsE, List.length_append, loadE_len]
  omega

end Go.Proofs.Ytkofnhimgegcnaa
