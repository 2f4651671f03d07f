/- The world behind a change of the register. -/
import Derived.Test.YtofaioabjkcaiaaP
import Derived.Test.YtofaioabjkcaiaaU
import Derived.Deep.AppendLies
namespace Go.Proofs.Ytofaioabjkcaiaa
open Go.RowKit

theorem cell_obj {w : World} {b o : Nat} {v : Value} (h : w.cell? ⟨b, o, none⟩ = some v) {ds : Option (List Deferred)} : w.heap[b]? ≠ some (.deferred ds) := by
  intro e
  simp [World.cell?, e] at h

theorem change_fin {w V Va Vb Vc : World} {s t10 D g cap b' : Nat} {v : Value} {bs : List Nat} {Ts : List Tree} {T' : Tree} {x : Value} (HS : StockAt w.heap.size w s v bs Ts) (AV : Adds w V)
    (hD : w.heap.size ≤ D) (hVD : V.heap[D]? = some (.deferred (some []))) (ht : w.heap.size ≤ t10) (hbt : Box V t10 #[x] 45) (Ab : Adds V Va) (hT : IsTree Va b' T') (hok : T'.ok 1 1000000) (Ac : Adds Va Vb)
    (hown : Vc.ownsRow 0 112 1 (.slice (some ⟨g, 0, none⟩) (bs.length + 1) cap) (bs.length + 1) ((bs.map fun b => .pointer (some ⟨b, 0, none⟩)) ++ [.pointer (some ⟨b', 0, none⟩)]))
    (hgrow : Vb.grownBy Vc v.ownBlock) (hgat : v.ownBlock = some g ∨ g = Vb.heap.size) (y : Value) :
    let Vf := ((Vc.setCell ⟨s, 0, none⟩ (.slice (some ⟨g, 0, none⟩) (bs.length + 1) cap)).setCell ⟨t10, 0, none⟩ y).putObj D (.deferred none)
    StockAt Vf.heap.size Vf s (.slice (some ⟨g, 0, none⟩) (bs.length + 1) cap) (bs ++ [b']) (Ts ++ [T']) ∧
      Grow (fun k => k = s ∨ v.ownBlock = some k) w (fun k => k = s ∨ (Value.slice (some ⟨g, 0, none⟩) (bs.length + 1) cap).ownBlock = some k) Vf ∧ Vf.cell? ⟨t10, 0, none⟩ = some y ∧
      ((Vc.setCell ⟨s, 0, none⟩ (.slice (some ⟨g, 0, none⟩) (bs.length + 1) cap)).setCell ⟨t10, 0, none⟩ y).heap[D]? = some (.deferred (some [])) := by
  intro Vf
  have hs := HS.box.lt
  have hDV := (Array.getElem?_eq_some_iff.1 hVD).1
  have htV := hbt.lt
  have z1 := AV.size
  have z2 := Ab.size
  have z3 := Ac.size
  have z4 := hgrow.size
  have hown' : ∀ k, v.ownBlock = some k → k < w.heap.size := fun k hk => (HS.row.lt k hk).2
  have hDt : D ≠ t10 := by
    rintro rfl
    rw [Box] at hbt
    rw [hbt] at hVD
    cases hVD
  have hDs : D ≠ s := by omega
  have hts : t10 ≠ s := by omega
  have hgD : g ≠ D := by rcases hgat with h | h; have := hown' g h; omega; omega
  have hgt : g ≠ t10 := by rcases hgat with h | h; have := hown' g h; omega; omega
  have hgs : g ≠ s := by
    rcases hgat with h | h
    · rintro rfl; exact HS.sep h
    · omega
  have hVfz : Vf.heap.size = Vc.heap.size := by simp [Vf, World.setCell]
  -- what a block holds at the end
  have same : ∀ k, k < Vb.heap.size → k ≠ s → k ≠ t10 → k ≠ D → v.ownBlock ≠ some k → Vf.heap[k]? = Vb.heap[k]? := by
    intro k hk h1 h2 h3 h4
    show (World.putObj _ D _).heap[k]? = _
    rw [World.putObj_heap_other h3, Below.heap_setCell _ _ _ _ h2, Below.heap_setCell _ _ _ _ h1]
    exact hgrow.block k hk (fun e => h4 e.symm)
  have bS : Box Vc s #[v] 102 := ((HS.box.later AV).later (Ab.trans Ac)).same (hgrow.block s (by omega) (fun e => HS.sep e.symm))
  refine ⟨⟨?_, ?_, ?_, ?_, ?_, ?_⟩, ⟨⟨?_, ?_, ?_, ?_, ?_⟩, ?_⟩, ?_, ?_⟩
  · exact (((bS.set 0 (.slice (some ⟨g, 0, none⟩) (bs.length + 1) cap)).far (p := ⟨t10, 0, none⟩) (Ne.symm hts) y)).same (World.putObj_heap_other (Ne.symm hDs))
  · have h1 : ((Vc.setCell ⟨s, 0, none⟩ (.slice (some ⟨g, 0, none⟩) (bs.length + 1) cap)).setCell ⟨t10, 0, none⟩ y).ownsRow 0 112 1 (.slice (some ⟨g, 0, none⟩) (bs.length + 1) cap) (bs.length + 1) ((bs.map fun b => .pointer (some ⟨b, 0, none⟩)) ++ [.pointer (some ⟨b', 0, none⟩)]) :=
      ownsRow_setCell_other (ownsRow_setCell_other hown (by simp [Value.ownBlock]; exact hgs) _) (by simp [Value.ownBlock]; exact hgt) _
    have h2 := h1.kept (row := some D) (grownBy_putObj' _ D (.deferred none)) (by simp [Value.ownBlock]; exact hgD)
    simpa using h2
  · simp [HS.len]
  · intro i b T h1 h2
    have hl := HS.len
    by_cases hi : i < bs.length
    · rw [List.getElem?_append_left hi] at h1
      rw [List.getElem?_append_left (by omega)] at h2
      obtain ⟨k1, k2⟩ := HS.tree i b T h1 h2
      refine ⟨((((k1.later AV).later Ab).later Ac).keep (w' := Vf) (fun k hk hp => same k hk hp.1 (by have := hp.2.2; omega) (by have := hp.2.2; omega) hp.2.1)).mono (fun k hk => ⟨hk.1, ?_, by have := hk.2.2; omega⟩), k2⟩
      simp only [Value.ownBlock, ne_eq, Option.some.injEq]
      rintro rfl
      rcases hgat with h | h
      · exact hk.2.1 h
      · have := hk.2.2; omega
    · have hi' : i = bs.length := by
        have := (List.getElem?_eq_some_iff.1 h1).1
        simp at this; omega
      subst hi'
      rw [List.getElem?_append_right (Nat.le_refl _)] at h1
      rw [List.getElem?_append_right (by omega)] at h2
      simp [hl] at h1 h2
      subst h1; subst h2
      refine ⟨?_, hok⟩
      have hVaD : Va.heap[D]? = some (.deferred (some [])) := (Ab.block D hDV).trans hVD
      have hVat : Box Va t10 #[x] 45 := hbt.later Ab
      have hSa := (HS.later AV).later Ab
      have k1 : TreeIn (fun k => k < Va.heap.size ∧ k ≠ s ∧ v.ownBlock ≠ some k ∧ k ≠ t10 ∧ k ≠ D) Va b' T' := hT.pred (fun k lo hi p l r hn => by
        refine ⟨cell_lt hn.1, (hSa.apart hn).1, (hSa.apart hn).2, ?_, ?_⟩
        · rintro rfl
          have := hVat.cell 1
          rw [hn.2.1] at this
          simp at this
        · rintro rfl
          exact cell_obj hn.1 hVaD)
      refine (((k1.later Ac).keep (w' := Vf) (fun k hk hp => same k hk hp.2.1 hp.2.2.2.1 hp.2.2.2.2 hp.2.2.1))).mono (fun k hk => ⟨hk.2.1, ?_, by have := hk.1; omega⟩)
      simp only [Value.ownBlock, ne_eq, Option.some.injEq]
      rintro rfl
      rcases hgat with h | h
      · exact hk.2.2.1 h
      · have := hk.1; omega
  · simp only [Value.ownBlock, ne_eq, Option.some.injEq]; exact hgs
  · intro h; simp at h
  · exact hgrow.os.trans (Ac.os.trans (Ab.os.trans AV.os))
  · exact hgrow.tape.trans (Ac.tape.trans (Ab.tape.trans AV.tape))
  · exact hgrow.output.trans (Ac.output.trans (Ab.output.trans AV.output))
  · omega
  · intro k hk hn
    rw [same k (by omega) (fun e => hn (Or.inl e)) (by omega) (by omega) (fun e => hn (Or.inr e))]
    exact (Ac.block k (by omega)).trans ((Ab.block k (by omega)).trans (AV.block k hk))
  · intro k hk
    rcases hk with hk | hk
    · exact Or.inl (Or.inl hk)
    · simp only [Value.ownBlock, Option.some.injEq] at hk
      subst hk
      rcases hgat with h | h
      · exact Or.inl (Or.inr h)
      · exact Or.inr (by omega)
  · have h1 : Box Vc t10 #[x] 45 := (hbt.later (Ab.trans Ac)).same (hgrow.block t10 (by omega) (fun e => by have := hown' _ e.symm; omega))
    have h2 : Box Vf t10 #[y] 45 := (((h1.far (p := ⟨s, 0, none⟩) hts _).set 0 y)).same (World.putObj_heap_other (Ne.symm hDt))
    have := h2.cell 0
    simpa using this
  · rw [Below.heap_setCell _ _ _ _ hDt, Below.heap_setCell _ _ _ _ hDs, hgrow.block D (by omega) (fun e => by have := hown' _ e.symm; omega)]
    exact (Ac.block D (by omega)).trans ((Ab.block D hDV).trans hVD)

end Go.Proofs.Ytofaioabjkcaiaa
