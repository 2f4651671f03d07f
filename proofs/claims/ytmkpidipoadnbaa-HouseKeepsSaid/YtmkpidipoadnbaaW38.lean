/- cover: its walk. -/
import Derived.Test.YtmkpidipoadnbaaW37
import Derived.Laws.EntriesVeiled
namespace Go.Proofs.Ytmkpidipoadnbaa
open Go Go.RowKit Go.Sort

/-- A return of a struct or array beside a second result. -/
theorem post_row2 {f : Func} {Q : Ending → World → Prop} {a : Act} {W : World} {b i u : Nat} {v : Value} {vs : Array Value} {T ty : TypeId} {d : TypeDesc} (hr : f.results = #[ResultVar.cell i ty, ResultVar.tmp u]) (hd : a.defers = []) (hp : a.tmps.getD i undef = .pointer (some ⟨b, 0, none⟩)) (hv : a.tmps.getD u undef = v)
    (hdd : (match d with | .struct _ | .array _ _ => true | _ => false) = true) (hu : Try.prog.underlying ty = some d) (hi : (Try.prog.info? ty).map (·.size) = some vs.size)
    (hb : Box W b vs T) (hq : Q (.returned (.tuple #[.agg vs, v])) W) : bodyPost Try.prog f Q .ret a W :=
  bodyPost_ret (by rw [results_cell_tmp hr, hp, hv]; simp [asAddr, run_loadVar_row W b T ty vs (0, 0) d hb hu (by cases d <;> simp_all) hi]) hd hq

theorem info_source : (Try.prog.info? 103).map (·.size) = some 2 := by kernel_rfl
section
variable {w : World} {base b ga ca cm ck : Nat} {pm pk : Option Addr} {h : Hs}
/-- Five numbers as they lie. -/
def five (l : List Int) : Array Value := #[.int .i64 (l.getD 0 0), .int .i64 (l.getD 1 0), .int .i64 (l.getD 2 0), .int .i64 (l.getD 3 0), .int .i64 (l.getD 4 0)]
theorem five_open (l : List Int) : ∃ x0 x1 x2 x3 x4, five l = #[.int .i64 x0, .int .i64 x1, .int .i64 x2, .int .i64 x3, .int .i64 x4] := ⟨_, _, _, _, _, rfl⟩
theorem five_set {ns : List Int} (h : ns.length = 5) {k : Nat} (hk : k < 5) (t : Int) : five (ns.set k t) = (five ns).setIfInBounds k (.int .i64 t) := by
  match ns, h with
  | [a, b, c, d, e], _ =>
    match k, hk with
    | 0, _ => rfl
    | 1, _ => rfl
    | 2, _ => rfl
    | 3, _ => rfl
    | 4, _ => rfl
/-- A block that is none of the house's. -/
theorem HouseAt.apart (hh : HouseAt w base b ga ca pm cm pk ck h) {g : Nat} {cur : Array Value} (hg : Box w g cur 48) (_h1 : g ≠ ga) (h2 : g ≠ b) (o : Nat) (v : Value) : HouseAt (w.setCell ⟨g, o, none⟩ v) base b ga ca pm cm pk ck h := by
  have hs : ∀ k, k ≠ g → (w.setCell ⟨g, o, none⟩ v).heap[k]? = w.heap[k]? := fun k hk => Below.heap_setCell w _ _ k hk
  exact ⟨hh.bx.far (fun e => h2 e.symm) v, own_heap hh.ac hg (by decide) hs, own_heap hh.mv hg (by decide) hs, hh.ks.heap hg (by decide) hs, hh.lo⟩
theorem HouseAt.aparts (hh : HouseAt w base b ga ca pm cm pk ck h) {g : Nat} {cur : Array Value} (hg : Box w g cur 48) (_h1 : g ≠ ga) (h2 : g ≠ b) (vs : List Value) (o : Nat) : HouseAt (w.setCells g o vs) base b ga ca pm cm pk ck h := by
  have hs : ∀ k, k ≠ g → (w.setCells g o vs).heap[k]? = w.heap[k]? := fun k hk => heap_setCells vs o k hk
  exact ⟨hh.bx.setCells_far (fun e => h2 e.symm) vs o, own_heap hh.ac hg (by decide) hs, own_heap hh.mv hg (by decide) hs, hh.ks.heap hg (by decide) hs, hh.lo⟩
theorem info_loss : (Try.prog.info? 48).map (·.size) = some 5 := by kernel_rfl
set_option maxRecDepth 100000 in
set_option maxHeartbeats 2000000 in
theorem cover_any (hh : HouseAt w base b ga ca pm cm pk ck h) (ok : CovOK h) (i : Nat) (hi : i < h.ac.length) (hh0 : 0 ≤ h.hole) (hh1 : h.hole < 4611686018427387904) :
    Calls Try.prog 31 #[.pointer (some ⟨b, 0, none⟩), .pointer (some ⟨ga, i * 15, none⟩)] w fun e w' => e = .returned (.agg (five (coverR h i).nums)) ∧ HouseAt w' base b ga ca pm cm pk ck (coverR h i).h ∧ Touch (fun k => k = ga ∨ k = b) w w' := by
  obtain ⟨a, ha⟩ : ∃ a, h.ac[i]? = some a := ⟨_, List.getElem?_eq_getElem hi⟩
  have hb := ok.cash a (List.mem_of_getElem? ha)
  have h12 := ok.len a (List.mem_of_getElem? ha)
  have hgb := hh.blk.2.elim fun _ e => (Array.getElem?_eq_some_iff.1 e).1
  have HGB := Lib.hid hgb
  have HBB := Lib.hid hh.bx.lt
  have HC := Lib.hid (fun W (hW : Adds w W) => (hh.later hW).acc ha 0 _ (field_cash.get a h12))
  have HF := Lib.hid (fun W (hW : Adds w W) => ((hh.later hW).there ha 0 (by omega)).2)
  have HSZ := Lib.hid (fun W => size_any (min a.cash 0) W (by have : valC a = a.cash := rfl; omega) (by omega))
  have HPUT := Lib.hid (fun W (hW : Adds w W) => (hh.later hW).put (j := 0) (a' := updC a (max a.cash 0)) ha (by omega) (field_cash.set a _ h12))
  have HG0 : Hid (upA h i = { h with ac := h.ac.set i (updC a (max a.cash 0)) }) := Lib.hid (by unfold upA; rw [ha])
  have HLK : Hid (lackI h i = max (min a.cash 0) (-(min a.cash 0))) := Lib.hid (by unfold lackI cashI; rw [ha]; show max 0 (-a.cash) = _; omega)
  have HLB : Hid (0 ≤ lackI h i ∧ lackI h i ≤ 4611686018427387904) := Lib.hid (by
    rw [HLK.out]
    have : valC a = a.cash := rfl
    omega)
  have HOK : Hid (CovOK (upA h i)) := Lib.hid (by
    rw [HG0.out]
    refine ⟨fun c hc => ?_, by simpa using ok.few, ok.pr, fun c hc => ?_, fun c hc => ?_, ok.cap⟩
    all_goals rcases List.mem_or_eq_of_mem_set hc with e | e
    · exact ok.len c e
    · rw [e]; exact h12
    · exact ok.cash c e
    · rw [e]
      have : valC a = a.cash := rfl
      show _ ≤ max a.cash 0 ∧ max a.cash 0 ≤ _
      omega
    · exact ok.fund c e
    · rw [e]; exact ok.fund a (List.mem_of_getElem? ha))
  have HLN : Hid ((upA h i).ac.length = h.ac.length) := Lib.hid (by rw [HG0.out]; simp)
  have HHO : Hid ((upA h i).hole = h.hole) := Lib.hid (by rw [HG0.out])
  have HI := Lib.hid hi
  have HH0 := Lib.hid hh0
  have HH1 := Lib.hid hh1
  obtain ⟨G0, hG0⟩ : ∃ G, G = upA h i := ⟨_, rfl⟩
  obtain ⟨L, hL⟩ : ∃ L, L = lackI h i := ⟨_, rfl⟩
  have HR : Hid (coverR h i = coverS G0 i L 5) := Lib.hid (by rw [coverR, hG0, hL])
  rw [← hG0] at HG0 HOK HLN HHO
  rw [← hL] at HLK HLB
  rw [← HG0.out] at HPUT
  rw [← HLK.out] at HSZ
  obtain ⟨x, hx⟩ : ∃ x, x = a.cash := ⟨_, rfl⟩
  simp only [Nat.add_zero] at HC HF HPUT
  rw [← hx] at HSZ HPUT HC
  clear hh ha hx hb h12 hgb hG0 hL HLK HG0 hi hh0 hh1 ok
  go_enter Try.func31, Try.ntmps31
  go_upto_region 1 with fail
  have d0 := HC.out _ ((Adds.refl w).alloc (.cells #[.int .i64 0, .int .i64 0, .int .i64 0, .int .i64 0, .int .i64 0] 48))
  have d1 := HF.out _ ((Adds.refl w).alloc (.cells #[.int .i64 0, .int .i64 0, .int .i64 0, .int .i64 0, .int .i64 0] 48))
  go_upto_region 4 with (go_at_call 44; refine (HSZ.out _).mono ?_; rintro e w2 ⟨rfl, rfl⟩)
  clear d0 d1
  obtain ⟨s, hs⟩ : ∃ s, s = w.heap.size := ⟨_, rfl⟩
  rw [← hs]
  have HSS := Lib.hid hs
  have hA0 : Adds w (w.alloc (.cells #[.int .i64 0, .int .i64 0, .int .i64 0, .int .i64 0, .int .i64 0] 48)) := (Adds.refl w).alloc _
  have b0 : Box (w.alloc (.cells #[.int .i64 0, .int .i64 0, .int .i64 0, .int .i64 0, .int .i64 0] 48)) s #[.int .i64 0, .int .i64 0, .int .i64 0, .int .i64 0, .int .i64 0] 48 := box_new hs
  have z0 : (w.alloc (.cells #[.int .i64 0, .int .i64 0, .int .i64 0, .int .i64 0, .int .i64 0] 48)).heap.size = s + 1 := by rw [World.size_alloc, hs]
  have h1 := HPUT.out _ hA0
  obtain ⟨W0, hW0⟩ : ∃ V, V = w.alloc (.cells #[.int .i64 0, .int .i64 0, .int .i64 0, .int .i64 0, .int .i64 0] 48) := ⟨_, rfl⟩
  rw [← hW0] at hA0 b0 z0 h1 ⊢
  have t0 : Touch (fun k => (k = ga ∨ k = b) ∨ w.heap.size ≤ k) w W0 := Touch.of_adds hA0 _
  have hsg : s ≠ ga := by have := HGB.out; omega
  have b1 := b0.far (p := ⟨ga, i * 15, none⟩) hsg (.int .i64 (max x 0))
  have t1 := t0.set (p := ⟨ga, i * 15, none⟩) (.inl (.inl rfl)) (.int .i64 (max x 0))
  have z1 : (W0.setCell ⟨ga, i * 15, none⟩ (.int .i64 (max x 0))).heap.size = s + 1 := (World.size_setCell _ _ _).trans z0
  obtain ⟨W1, hW1⟩ : ∃ V, V = W0.setCell ⟨ga, i * 15, none⟩ (.int .i64 (max x 0)) := ⟨_, rfl⟩
  rw [← hW1] at h1 b1 t1 z1 ⊢
  have hA2 : Adds W1 (W1.alloc (.cells #[.int .i64 0, .int .i64 0, .int .i64 0, .int .i64 0, .int .i64 0] 48)) := (Adds.refl W1).alloc _
  have c2 : Box (W1.alloc (.cells #[.int .i64 0, .int .i64 0, .int .i64 0, .int .i64 0, .int .i64 0] 48)) (s + 1) #[.int .i64 0, .int .i64 0, .int .i64 0, .int .i64 0, .int .i64 0] 48 := box_new z1.symm
  have z2 : (W1.alloc (.cells #[.int .i64 0, .int .i64 0, .int .i64 0, .int .i64 0, .int .i64 0] 48)).heap.size = s + 2 := by rw [World.size_alloc, z1]
  obtain ⟨W2, hW2⟩ : ∃ V, V = W1.alloc (.cells #[.int .i64 0, .int .i64 0, .int .i64 0, .int .i64 0, .int .i64 0] 48) := ⟨_, rfl⟩
  rw [← hW2] at hA2 c2 z2 ⊢
  have H2 : Hid (HouseAt W2 base b ga ca pm cm pk ck G0) := Lib.hid (h1.later hA2)
  have B2 : Hid (Box W2 s #[.int .i64 0, .int .i64 0, .int .i64 0, .int .i64 0, .int .i64 0] 48) := Lib.hid (b1.later hA2)
  have C2 := Lib.hid c2
  have Z2 := Lib.hid z2
  have T2 := Lib.hid (t1.behind hA2)
  clear hs hA0 b0 z0 h1 hW0 t0 hsg b1 t1 z1 hW1 hA2 c2 z2 hW2 HC HF HPUT HSZ
  go_upto_region 6 with fail
  rw [Z2.out]
  obtain ⟨tv, htv⟩ : ∃ v : Array Value, v = #[.func (.func 47) #[] #[], .pointer (some ⟨s + 1, 0, none⟩), .func (.func 48) #[] #[], .pointer (some ⟨s + 1, 1, none⟩), .func (.func 49) #[] #[], .pointer (some ⟨s + 1, 2, none⟩), .func (.func 50) #[] #[], .pointer (some ⟨s + 1, 3, none⟩), .func (.func 51) #[] #[], .pointer (some ⟨s + 1, 4, none⟩)] := ⟨_, rfl⟩
  rw [← htv]
  have hA3 : Adds W2 (W2.alloc (.cells tv 103)) := (Adds.refl W2).alloc _
  have H3 : Hid (HouseAt (W2.alloc (.cells tv 103)) base b ga ca pm cm pk ck G0) := Lib.hid (H2.out.later hA3)
  have B3 := Lib.hid (B2.out.later hA3)
  have C3 := Lib.hid (C2.out.later hA3)
  have D3 : Hid (Box (W2.alloc (.cells tv 103)) (s + 2) tv 103) := Lib.hid (box_new Z2.out.symm)
  have T3 := Lib.hid (T2.out.behind hA3)
  obtain ⟨W3, hW3⟩ : ∃ V, V = W2.alloc (.cells tv 103) := ⟨_, rfl⟩
  rw [← hW3] at H3 B3 C3 D3 T3 ⊢
  clear H2 B2 C2 Z2 T2 hA3 hW3
  have TV := Lib.hid htv
  clear htv
  go_loopw [38, 5] (fun v38 v5 wr => ∃ (k : Nat) (l : Int), k ≤ 5 ∧ v38 = .int .i64 k ∧ v5 = .int .u64 l ∧ Hid (l = (coverS G0 i L k).left) ∧ Hid (HouseAt wr base b ga ca pm cm pk ck (coverS G0 i L k).h) ∧ Hid (Box wr s #[.int .i64 0, .int .i64 0, .int .i64 0, .int .i64 0, .int .i64 0] 48) ∧ Hid (Box wr (s + 1) (five (coverS G0 i L k).nums) 48) ∧ Hid (Box wr (s + 2) tv 103) ∧ Hid (Touch (fun k => (k = ga ∨ k = b) ∨ w.heap.size ≤ k) w wr)) (fun v38 _ _ => 5 - (intOf v38).toNat)
  case atStart => exact ⟨0, L, by omega, rfl, rfl, Lib.hid rfl, H3, B3, C3, D3, T3⟩
  case round =>
    obtain ⟨k, l, hk, rfl, rfl, HL, RH, RB, RC, RD, RT⟩ := hrel
    clear H3 B3 C3 D3 T3
    have CV := Lib.hid (coverS_ok HOK.out i HLB.out.1 k)
    by_cases hlt : k < 5
    · have HT := Lib.hid (coverT_bd (h := (coverS G0 i L k).h) (i := i) CV.out.l0 k)
      have HNX : Hid (coverS G0 i L (k + 1) = ⟨coverN (coverS G0 i L k).h i l k, l - coverT (coverS G0 i L k).h i l k, (coverS G0 i L k).nums.set k (coverT (coverS G0 i L k).h i l k)⟩) := Lib.hid (by rw [coverS, HL.out])
      have HSRC := Lib.hid (fun W (hW : Adds wr W) => source_any (RH.out.later hW) CV.out.ok i (by rw [CV.out.acs, HLN.out]; exact HI.out) l (by rw [HL.out]; exact CV.out.l0) (by rw [HL.out]; have := CV.out.l1; have := HLB.out.2; omega) (by rw [CV.out.hole hlt, HHO.out]; exact HH0.out) (by rw [CV.out.hole hlt, HHO.out]; exact HH1.out) k)
      have HT2 : Hid (0 ≤ coverT (coverS G0 i L k).h i l k ∧ coverT (coverS G0 i L k).h i l k ≤ l ∧ l ≤ 4611686018427387904) := Lib.hid (by
        rw [HL.out]
        have := CV.out.l1
        have := HLB.out.2
        have := HT.out
        omega)
      have HN5 := Lib.hid CV.out.num
      obtain ⟨S, hS⟩ : ∃ S, S = coverS G0 i L k := ⟨_, rfl⟩
      rw [← hS] at HNX HSRC HT2 RH RC HN5
      obtain ⟨t, ht⟩ : ∃ t, t = coverT S.h i l k := ⟨_, rfl⟩
      rw [← ht] at HNX HSRC HT2
      obtain ⟨ns, hns⟩ : ∃ ns, ns = S.nums := ⟨_, rfl⟩
      rw [← hns] at HNX RC HN5
      have hws := RT.out.size
      have ht0 := HT2.out.1
      have ht1 := HT2.out.2.1
      have ht2 := HT2.out.2.2
      have hw1 : IntKind.i64.wrap t = t := by rw [IntKind.wrap_i64]; omega
      have hw2 : IntKind.u64.wrap (l - t) = l - t := by rw [IntKind.wrap_u64]; omega
      have HSGA : Hid (s + 1 ≠ ga ∧ s + 1 ≠ b ∧ s ≠ ga ∧ s ≠ b ∧ s + 2 ≠ ga ∧ s + 2 ≠ b ∧ s < wr.heap.size ∧ s + 1 < wr.heap.size ∧ s + 2 < wr.heap.size ∧ w.heap.size ≤ s) := Lib.hid (by
        have h1 := RC.out.lt
        have h2 := RD.out.lt
        have h3 := HGB.out
        have h4 := HBB.out
        have h5 := HSS.out
        omega)
      clear hS ht hns
      rcases (show k = 0 ∨ k = 1 ∨ k = 2 ∨ k = 3 ∨ k = 4 by omega) with rfl | rfl | rfl | rfl | rfl

      ·
        clear hk
        have d0 : wr.cell? ⟨s + 2, 0, none⟩ = some (.func (.func 47) #[] #[]) := by rw [RD.out.cell, TV.out]; rfl
        have d1 : wr.cell? ⟨s + 2, 1, none⟩ = some (.pointer (some ⟨s + 1, 0, none⟩)) := by rw [RD.out.cell, TV.out]; rfl
        go_upto_region 8 with fail
        obtain ⟨q, hq⟩ : ∃ q, q = wr.heap.size := ⟨_, rfl⟩
        rw [← hq]
        have q4 : Box (wr.alloc (.cells #[.func (.func 47) #[] #[], .pointer (some ⟨s + 1, 0, none⟩)] 103)) q #[.func (.func 47) #[] #[], .pointer (some ⟨s + 1, 0, none⟩)] 103 := box_new hq
        have hA4 : Adds wr (wr.alloc (.cells #[.func (.func 47) #[] #[], .pointer (some ⟨s + 1, 0, none⟩)] 103)) := (Adds.refl wr).alloc _
        obtain ⟨W4, hW4⟩ : ∃ V, V = wr.alloc (.cells #[.func (.func 47) #[] #[], .pointer (some ⟨s + 1, 0, none⟩)] 103) := ⟨_, rfl⟩
        rw [← hW4] at q4 hA4 ⊢
        have HA4 := Lib.hid hA4
        have Q4 := Lib.hid q4
        have f0 := q4.cell 0
        clear hW4 hA4 d0 d1
        have HCL : Hid (Calls Try.prog 47 #[.pointer (some ⟨b, 0, none⟩), .pointer (some ⟨ga, i * 15, none⟩), .int .u64 l] W4 fun e w' => e = .returned (.int .u64 t) ∧ HouseAt w' base b ga ca pm cm pk ck (coverN S.h i l 0) ∧ Touch (fun k => k = ga ∨ k = b) W4 w') := Lib.hid (HSRC.out W4 HA4.out)
        have HQ : Hid (¬ (q = ga ∨ q = b)) := Lib.hid (by have h1 := HSGA.out; have h2 := HGB.out; have h3 := HBB.out; omega)
        clear HSRC q4 hq
        go_upto_region 9 with ((first | go_at_call 47 | go_at_fn 47); refine HCL.out.mono ?_; rintro e w5 ⟨rfl, h5, t5⟩; have H5 := Lib.hid h5; have T5 := Lib.hid t5; clear h5 t5)
        have f1 : w5.cell? ⟨q, 1, none⟩ = some (.pointer (some ⟨s + 1, 0, none⟩)) := touch_cell T5.out HQ.out (Q4.out.cell 1)
        have c5 : Box w5 (s + 1) (five ns) 48 := (RC.out.later HA4.out).same (T5.out.same (s + 1) (by have := HSGA.out; have := HA4.out.size; omega) (by have := HSGA.out; omega))
        have C5 := Lib.hid c5
        have B5 : Hid (Box w5 s #[.int .i64 0, .int .i64 0, .int .i64 0, .int .i64 0, .int .i64 0] 48) := Lib.hid ((RB.out.later HA4.out).same (T5.out.same s (by have := HSGA.out; have := HA4.out.size; omega) (by have := HSGA.out; omega)))
        have D5 : Hid (Box w5 (s + 2) tv 103) := Lib.hid ((RD.out.later HA4.out).same (T5.out.same (s + 2) (by have := HSGA.out; have := HA4.out.size; omega) (by have := HSGA.out; omega)))
        have g0 : w5.cell? ⟨s + 1, 0, none⟩ = some (.int .i64 (ns.getD 0 0)) := c5.cell 0
        have g1 : w5.frozen? ⟨s + 1, 0, none⟩ = false := c5.free 0
        obtain ⟨zx, hzx⟩ : ∃ zx, zx = ns.getD 0 0 := ⟨_, rfl⟩
        rw [← hzx] at g0
        have TT : Hid (Touch (fun k => (k = ga ∨ k = b) ∨ w.heap.size ≤ k) w w5) := Lib.hid ((RT.out.behind HA4.out).trans (T5.out.mono fun k hk => .inl hk))
        clear RB RC RD RH RT Q4 HQ T5 HA4 hzx c5
        go_wp2
        refine ⟨⟨1, l - t, by omega, by go_num, rfl, Lib.hid ?_, Lib.hid ?_, Lib.hid ?_, Lib.hid ?_, Lib.hid ?_, Lib.hid ?_⟩, by simp [intOf]⟩
        · rw [HNX.out]
        · rw [HNX.out]
          exact H5.out.apart C5.out (by have := HSGA.out; omega) (by have := HSGA.out; omega) 0 _
        · exact B5.out.far (by show s ≠ s + 1; omega) _
        · rw [HNX.out]
          show Box _ _ (five (ns.set 0 t)) _
          rw [five_set HN5.out (by omega)]
          exact C5.out.set 0 _
        · exact D5.out.far (by show s + 2 ≠ s + 1; omega) _
        · exact TT.out.set (p := ⟨s + 1, 0, none⟩) (.inr (by have := HSGA.out; show w.heap.size ≤ s + 1; omega)) _
      ·
        clear hk
        have d0 : wr.cell? ⟨s + 2, 2, none⟩ = some (.func (.func 48) #[] #[]) := by rw [RD.out.cell, TV.out]; rfl
        have d1 : wr.cell? ⟨s + 2, 3, none⟩ = some (.pointer (some ⟨s + 1, 1, none⟩)) := by rw [RD.out.cell, TV.out]; rfl
        go_upto_region 8 with fail
        obtain ⟨q, hq⟩ : ∃ q, q = wr.heap.size := ⟨_, rfl⟩
        rw [← hq]
        have q4 : Box (wr.alloc (.cells #[.func (.func 48) #[] #[], .pointer (some ⟨s + 1, 1, none⟩)] 103)) q #[.func (.func 48) #[] #[], .pointer (some ⟨s + 1, 1, none⟩)] 103 := box_new hq
        have hA4 : Adds wr (wr.alloc (.cells #[.func (.func 48) #[] #[], .pointer (some ⟨s + 1, 1, none⟩)] 103)) := (Adds.refl wr).alloc _
        obtain ⟨W4, hW4⟩ : ∃ V, V = wr.alloc (.cells #[.func (.func 48) #[] #[], .pointer (some ⟨s + 1, 1, none⟩)] 103) := ⟨_, rfl⟩
        rw [← hW4] at q4 hA4 ⊢
        have HA4 := Lib.hid hA4
        have Q4 := Lib.hid q4
        have f0 := q4.cell 0
        clear hW4 hA4 d0 d1
        have HCL : Hid (Calls Try.prog 48 #[.pointer (some ⟨b, 0, none⟩), .pointer (some ⟨ga, i * 15, none⟩), .int .u64 l] W4 fun e w' => e = .returned (.int .u64 t) ∧ HouseAt w' base b ga ca pm cm pk ck (coverN S.h i l 1) ∧ Touch (fun k => k = ga ∨ k = b) W4 w') := Lib.hid (HSRC.out W4 HA4.out)
        have HQ : Hid (¬ (q = ga ∨ q = b)) := Lib.hid (by have h1 := HSGA.out; have h2 := HGB.out; have h3 := HBB.out; omega)
        clear HSRC q4 hq
        go_upto_region 9 with ((first | go_at_call 48 | go_at_fn 48); refine HCL.out.mono ?_; rintro e w5 ⟨rfl, h5, t5⟩; have H5 := Lib.hid h5; have T5 := Lib.hid t5; clear h5 t5)
        have f1 : w5.cell? ⟨q, 1, none⟩ = some (.pointer (some ⟨s + 1, 1, none⟩)) := touch_cell T5.out HQ.out (Q4.out.cell 1)
        have c5 : Box w5 (s + 1) (five ns) 48 := (RC.out.later HA4.out).same (T5.out.same (s + 1) (by have := HSGA.out; have := HA4.out.size; omega) (by have := HSGA.out; omega))
        have C5 := Lib.hid c5
        have B5 : Hid (Box w5 s #[.int .i64 0, .int .i64 0, .int .i64 0, .int .i64 0, .int .i64 0] 48) := Lib.hid ((RB.out.later HA4.out).same (T5.out.same s (by have := HSGA.out; have := HA4.out.size; omega) (by have := HSGA.out; omega)))
        have D5 : Hid (Box w5 (s + 2) tv 103) := Lib.hid ((RD.out.later HA4.out).same (T5.out.same (s + 2) (by have := HSGA.out; have := HA4.out.size; omega) (by have := HSGA.out; omega)))
        have g0 : w5.cell? ⟨s + 1, 1, none⟩ = some (.int .i64 (ns.getD 1 0)) := c5.cell 1
        have g1 : w5.frozen? ⟨s + 1, 1, none⟩ = false := c5.free 1
        obtain ⟨zx, hzx⟩ : ∃ zx, zx = ns.getD 1 0 := ⟨_, rfl⟩
        rw [← hzx] at g0
        have TT : Hid (Touch (fun k => (k = ga ∨ k = b) ∨ w.heap.size ≤ k) w w5) := Lib.hid ((RT.out.behind HA4.out).trans (T5.out.mono fun k hk => .inl hk))
        clear RB RC RD RH RT Q4 HQ T5 HA4 hzx c5
        go_wp2
        refine ⟨⟨2, l - t, by omega, by go_num, rfl, Lib.hid ?_, Lib.hid ?_, Lib.hid ?_, Lib.hid ?_, Lib.hid ?_, Lib.hid ?_⟩, by simp [intOf]⟩
        · rw [HNX.out]
        · rw [HNX.out]
          exact H5.out.apart C5.out (by have := HSGA.out; omega) (by have := HSGA.out; omega) 1 _
        · exact B5.out.far (by show s ≠ s + 1; omega) _
        · rw [HNX.out]
          show Box _ _ (five (ns.set 1 t)) _
          rw [five_set HN5.out (by omega)]
          exact C5.out.set 1 _
        · exact D5.out.far (by show s + 2 ≠ s + 1; omega) _
        · exact TT.out.set (p := ⟨s + 1, 1, none⟩) (.inr (by have := HSGA.out; show w.heap.size ≤ s + 1; omega)) _
      ·
        clear hk
        have d0 : wr.cell? ⟨s + 2, 4, none⟩ = some (.func (.func 49) #[] #[]) := by rw [RD.out.cell, TV.out]; rfl
        have d1 : wr.cell? ⟨s + 2, 5, none⟩ = some (.pointer (some ⟨s + 1, 2, none⟩)) := by rw [RD.out.cell, TV.out]; rfl
        go_upto_region 8 with fail
        obtain ⟨q, hq⟩ : ∃ q, q = wr.heap.size := ⟨_, rfl⟩
        rw [← hq]
        have q4 : Box (wr.alloc (.cells #[.func (.func 49) #[] #[], .pointer (some ⟨s + 1, 2, none⟩)] 103)) q #[.func (.func 49) #[] #[], .pointer (some ⟨s + 1, 2, none⟩)] 103 := box_new hq
        have hA4 : Adds wr (wr.alloc (.cells #[.func (.func 49) #[] #[], .pointer (some ⟨s + 1, 2, none⟩)] 103)) := (Adds.refl wr).alloc _
        obtain ⟨W4, hW4⟩ : ∃ V, V = wr.alloc (.cells #[.func (.func 49) #[] #[], .pointer (some ⟨s + 1, 2, none⟩)] 103) := ⟨_, rfl⟩
        rw [← hW4] at q4 hA4 ⊢
        have HA4 := Lib.hid hA4
        have Q4 := Lib.hid q4
        have f0 := q4.cell 0
        clear hW4 hA4 d0 d1
        have HCL : Hid (Calls Try.prog 49 #[.pointer (some ⟨b, 0, none⟩), .pointer (some ⟨ga, i * 15, none⟩), .int .u64 l] W4 fun e w' => e = .returned (.int .u64 t) ∧ HouseAt w' base b ga ca pm cm pk ck (coverN S.h i l 2) ∧ Touch (fun k => k = ga ∨ k = b) W4 w') := Lib.hid (HSRC.out W4 HA4.out)
        have HQ : Hid (¬ (q = ga ∨ q = b)) := Lib.hid (by have h1 := HSGA.out; have h2 := HGB.out; have h3 := HBB.out; omega)
        clear HSRC q4 hq
        go_upto_region 9 with ((first | go_at_call 49 | go_at_fn 49); refine HCL.out.mono ?_; rintro e w5 ⟨rfl, h5, t5⟩; have H5 := Lib.hid h5; have T5 := Lib.hid t5; clear h5 t5)
        have f1 : w5.cell? ⟨q, 1, none⟩ = some (.pointer (some ⟨s + 1, 2, none⟩)) := touch_cell T5.out HQ.out (Q4.out.cell 1)
        have c5 : Box w5 (s + 1) (five ns) 48 := (RC.out.later HA4.out).same (T5.out.same (s + 1) (by have := HSGA.out; have := HA4.out.size; omega) (by have := HSGA.out; omega))
        have C5 := Lib.hid c5
        have B5 : Hid (Box w5 s #[.int .i64 0, .int .i64 0, .int .i64 0, .int .i64 0, .int .i64 0] 48) := Lib.hid ((RB.out.later HA4.out).same (T5.out.same s (by have := HSGA.out; have := HA4.out.size; omega) (by have := HSGA.out; omega)))
        have D5 : Hid (Box w5 (s + 2) tv 103) := Lib.hid ((RD.out.later HA4.out).same (T5.out.same (s + 2) (by have := HSGA.out; have := HA4.out.size; omega) (by have := HSGA.out; omega)))
        have g0 : w5.cell? ⟨s + 1, 2, none⟩ = some (.int .i64 (ns.getD 2 0)) := c5.cell 2
        have g1 : w5.frozen? ⟨s + 1, 2, none⟩ = false := c5.free 2
        obtain ⟨zx, hzx⟩ : ∃ zx, zx = ns.getD 2 0 := ⟨_, rfl⟩
        rw [← hzx] at g0
        have TT : Hid (Touch (fun k => (k = ga ∨ k = b) ∨ w.heap.size ≤ k) w w5) := Lib.hid ((RT.out.behind HA4.out).trans (T5.out.mono fun k hk => .inl hk))
        clear RB RC RD RH RT Q4 HQ T5 HA4 hzx c5
        go_wp2
        refine ⟨⟨3, l - t, by omega, by go_num, rfl, Lib.hid ?_, Lib.hid ?_, Lib.hid ?_, Lib.hid ?_, Lib.hid ?_, Lib.hid ?_⟩, by simp [intOf]⟩
        · rw [HNX.out]
        · rw [HNX.out]
          exact H5.out.apart C5.out (by have := HSGA.out; omega) (by have := HSGA.out; omega) 2 _
        · exact B5.out.far (by show s ≠ s + 1; omega) _
        · rw [HNX.out]
          show Box _ _ (five (ns.set 2 t)) _
          rw [five_set HN5.out (by omega)]
          exact C5.out.set 2 _
        · exact D5.out.far (by show s + 2 ≠ s + 1; omega) _
        · exact TT.out.set (p := ⟨s + 1, 2, none⟩) (.inr (by have := HSGA.out; show w.heap.size ≤ s + 1; omega)) _
      ·
        clear hk
        have d0 : wr.cell? ⟨s + 2, 6, none⟩ = some (.func (.func 50) #[] #[]) := by rw [RD.out.cell, TV.out]; rfl
        have d1 : wr.cell? ⟨s + 2, 7, none⟩ = some (.pointer (some ⟨s + 1, 3, none⟩)) := by rw [RD.out.cell, TV.out]; rfl
        go_upto_region 8 with fail
        obtain ⟨q, hq⟩ : ∃ q, q = wr.heap.size := ⟨_, rfl⟩
        rw [← hq]
        have q4 : Box (wr.alloc (.cells #[.func (.func 50) #[] #[], .pointer (some ⟨s + 1, 3, none⟩)] 103)) q #[.func (.func 50) #[] #[], .pointer (some ⟨s + 1, 3, none⟩)] 103 := box_new hq
        have hA4 : Adds wr (wr.alloc (.cells #[.func (.func 50) #[] #[], .pointer (some ⟨s + 1, 3, none⟩)] 103)) := (Adds.refl wr).alloc _
        obtain ⟨W4, hW4⟩ : ∃ V, V = wr.alloc (.cells #[.func (.func 50) #[] #[], .pointer (some ⟨s + 1, 3, none⟩)] 103) := ⟨_, rfl⟩
        rw [← hW4] at q4 hA4 ⊢
        have HA4 := Lib.hid hA4
        have Q4 := Lib.hid q4
        have f0 := q4.cell 0
        clear hW4 hA4 d0 d1
        have HCL : Hid (Calls Try.prog 50 #[.pointer (some ⟨b, 0, none⟩), .pointer (some ⟨ga, i * 15, none⟩), .int .u64 l] W4 fun e w' => e = .returned (.int .u64 t) ∧ HouseAt w' base b ga ca pm cm pk ck (coverN S.h i l 3) ∧ Touch (fun k => k = ga ∨ k = b) W4 w') := Lib.hid (HSRC.out W4 HA4.out)
        have HQ : Hid (¬ (q = ga ∨ q = b)) := Lib.hid (by have h1 := HSGA.out; have h2 := HGB.out; have h3 := HBB.out; omega)
        clear HSRC q4 hq
        go_upto_region 9 with ((first | go_at_call 50 | go_at_fn 50); refine HCL.out.mono ?_; rintro e w5 ⟨rfl, h5, t5⟩; have H5 := Lib.hid h5; have T5 := Lib.hid t5; clear h5 t5)
        have f1 : w5.cell? ⟨q, 1, none⟩ = some (.pointer (some ⟨s + 1, 3, none⟩)) := touch_cell T5.out HQ.out (Q4.out.cell 1)
        have c5 : Box w5 (s + 1) (five ns) 48 := (RC.out.later HA4.out).same (T5.out.same (s + 1) (by have := HSGA.out; have := HA4.out.size; omega) (by have := HSGA.out; omega))
        have C5 := Lib.hid c5
        have B5 : Hid (Box w5 s #[.int .i64 0, .int .i64 0, .int .i64 0, .int .i64 0, .int .i64 0] 48) := Lib.hid ((RB.out.later HA4.out).same (T5.out.same s (by have := HSGA.out; have := HA4.out.size; omega) (by have := HSGA.out; omega)))
        have D5 : Hid (Box w5 (s + 2) tv 103) := Lib.hid ((RD.out.later HA4.out).same (T5.out.same (s + 2) (by have := HSGA.out; have := HA4.out.size; omega) (by have := HSGA.out; omega)))
        have g0 : w5.cell? ⟨s + 1, 3, none⟩ = some (.int .i64 (ns.getD 3 0)) := c5.cell 3
        have g1 : w5.frozen? ⟨s + 1, 3, none⟩ = false := c5.free 3
        obtain ⟨zx, hzx⟩ : ∃ zx, zx = ns.getD 3 0 := ⟨_, rfl⟩
        rw [← hzx] at g0
        have TT : Hid (Touch (fun k => (k = ga ∨ k = b) ∨ w.heap.size ≤ k) w w5) := Lib.hid ((RT.out.behind HA4.out).trans (T5.out.mono fun k hk => .inl hk))
        clear RB RC RD RH RT Q4 HQ T5 HA4 hzx c5
        go_wp2
        refine ⟨⟨4, l - t, by omega, by go_num, rfl, Lib.hid ?_, Lib.hid ?_, Lib.hid ?_, Lib.hid ?_, Lib.hid ?_, Lib.hid ?_⟩, by simp [intOf]⟩
        · rw [HNX.out]
        · rw [HNX.out]
          exact H5.out.apart C5.out (by have := HSGA.out; omega) (by have := HSGA.out; omega) 3 _
        · exact B5.out.far (by show s ≠ s + 1; omega) _
        · rw [HNX.out]
          show Box _ _ (five (ns.set 3 t)) _
          rw [five_set HN5.out (by omega)]
          exact C5.out.set 3 _
        · exact D5.out.far (by show s + 2 ≠ s + 1; omega) _
        · exact TT.out.set (p := ⟨s + 1, 3, none⟩) (.inr (by have := HSGA.out; show w.heap.size ≤ s + 1; omega)) _
      ·
        clear hk
        have d0 : wr.cell? ⟨s + 2, 8, none⟩ = some (.func (.func 51) #[] #[]) := by rw [RD.out.cell, TV.out]; rfl
        have d1 : wr.cell? ⟨s + 2, 9, none⟩ = some (.pointer (some ⟨s + 1, 4, none⟩)) := by rw [RD.out.cell, TV.out]; rfl
        go_upto_region 8 with fail
        obtain ⟨q, hq⟩ : ∃ q, q = wr.heap.size := ⟨_, rfl⟩
        rw [← hq]
        have q4 : Box (wr.alloc (.cells #[.func (.func 51) #[] #[], .pointer (some ⟨s + 1, 4, none⟩)] 103)) q #[.func (.func 51) #[] #[], .pointer (some ⟨s + 1, 4, none⟩)] 103 := box_new hq
        have hA4 : Adds wr (wr.alloc (.cells #[.func (.func 51) #[] #[], .pointer (some ⟨s + 1, 4, none⟩)] 103)) := (Adds.refl wr).alloc _
        obtain ⟨W4, hW4⟩ : ∃ V, V = wr.alloc (.cells #[.func (.func 51) #[] #[], .pointer (some ⟨s + 1, 4, none⟩)] 103) := ⟨_, rfl⟩
        rw [← hW4] at q4 hA4 ⊢
        have HA4 := Lib.hid hA4
        have Q4 := Lib.hid q4
        have f0 := q4.cell 0
        clear hW4 hA4 d0 d1
        have HCL : Hid (Calls Try.prog 51 #[.pointer (some ⟨b, 0, none⟩), .pointer (some ⟨ga, i * 15, none⟩), .int .u64 l] W4 fun e w' => e = .returned (.int .u64 t) ∧ HouseAt w' base b ga ca pm cm pk ck (coverN S.h i l 4) ∧ Touch (fun k => k = ga ∨ k = b) W4 w') := Lib.hid (HSRC.out W4 HA4.out)
        have HQ : Hid (¬ (q = ga ∨ q = b)) := Lib.hid (by have h1 := HSGA.out; have h2 := HGB.out; have h3 := HBB.out; omega)
        clear HSRC q4 hq
        go_upto_region 9 with ((first | go_at_call 51 | go_at_fn 51); refine HCL.out.mono ?_; rintro e w5 ⟨rfl, h5, t5⟩; have H5 := Lib.hid h5; have T5 := Lib.hid t5; clear h5 t5)
        have f1 : w5.cell? ⟨q, 1, none⟩ = some (.pointer (some ⟨s + 1, 4, none⟩)) := touch_cell T5.out HQ.out (Q4.out.cell 1)
        have c5 : Box w5 (s + 1) (five ns) 48 := (RC.out.later HA4.out).same (T5.out.same (s + 1) (by have := HSGA.out; have := HA4.out.size; omega) (by have := HSGA.out; omega))
        have C5 := Lib.hid c5
        have B5 : Hid (Box w5 s #[.int .i64 0, .int .i64 0, .int .i64 0, .int .i64 0, .int .i64 0] 48) := Lib.hid ((RB.out.later HA4.out).same (T5.out.same s (by have := HSGA.out; have := HA4.out.size; omega) (by have := HSGA.out; omega)))
        have D5 : Hid (Box w5 (s + 2) tv 103) := Lib.hid ((RD.out.later HA4.out).same (T5.out.same (s + 2) (by have := HSGA.out; have := HA4.out.size; omega) (by have := HSGA.out; omega)))
        have g0 : w5.cell? ⟨s + 1, 4, none⟩ = some (.int .i64 (ns.getD 4 0)) := c5.cell 4
        have g1 : w5.frozen? ⟨s + 1, 4, none⟩ = false := c5.free 4
        obtain ⟨zx, hzx⟩ : ∃ zx, zx = ns.getD 4 0 := ⟨_, rfl⟩
        rw [← hzx] at g0
        have TT : Hid (Touch (fun k => (k = ga ∨ k = b) ∨ w.heap.size ≤ k) w w5) := Lib.hid ((RT.out.behind HA4.out).trans (T5.out.mono fun k hk => .inl hk))
        clear RB RC RD RH RT Q4 HQ T5 HA4 hzx c5
        go_wp2
        refine ⟨⟨5, l - t, by omega, by go_num, rfl, Lib.hid ?_, Lib.hid ?_, Lib.hid ?_, Lib.hid ?_, Lib.hid ?_, Lib.hid ?_⟩, by simp [intOf]⟩
        · rw [HNX.out]
        · rw [HNX.out]
          exact H5.out.apart C5.out (by have := HSGA.out; omega) (by have := HSGA.out; omega) 4 _
        · exact B5.out.far (by show s ≠ s + 1; omega) _
        · rw [HNX.out]
          show Box _ _ (five (ns.set 4 t)) _
          rw [five_set HN5.out (by omega)]
          exact C5.out.set 4 _
        · exact D5.out.far (by show s + 2 ≠ s + 1; omega) _
        · exact TT.out.set (p := ⟨s + 1, 4, none⟩) (.inr (by have := HSGA.out; show w.heap.size ≤ s + 1; omega)) _
    · have hkk : k = 5 := by omega
      subst hkk
      obtain ⟨y0, y1, y2, y3, y4, hy⟩ := five_open (coverS G0 i L 5).nums
      have c0 := RC.out
      rw [hy] at c0
      have r0 := c0.cell 0
      have r1 := c0.cell 1
      have r2 := c0.cell 2
      have r3 := c0.cell 3
      have r4 := c0.cell 4
      have e0 := RB.out.cell 0
      have e1 := RB.out.cell 1
      have e2 := RB.out.cell 2
      have e3 := RB.out.cell 3
      have e4 := RB.out.cell 4
      have g0 := RB.out.free 0
      have g1 := RB.out.free 1
      have g2 := RB.out.free 2
      have g3 := RB.out.free 3
      have g4 := RB.out.free 4
      have HY := Lib.hid hy
      have HSG : Hid (s ≠ ga ∧ s ≠ b ∧ w.heap.size ≤ s) := Lib.hid (by
        have h3 := HGB.out
        have h4 := HBB.out
        have h5 := HSS.out
        omega)
      clear RC RD hy c0 CV
      go_wp2
      have bF : Box (wr.setCells s 0 [.int .i64 y0, .int .i64 y1, .int .i64 y2, .int .i64 y3, .int .i64 y4]) s #[.int .i64 y0, .int .i64 y1, .int .i64 y2, .int .i64 y3, .int .i64 y4] 48 := RB.out.setCells [.int .i64 y0, .int .i64 y1, .int .i64 y2, .int .i64 y3, .int .i64 y4] 0
      have hF := RH.out.aparts RB.out HSG.out.1 HSG.out.2.1 [.int .i64 y0, .int .i64 y1, .int .i64 y2, .int .i64 y3, .int .i64 y4] 0
      have tF : Touch (fun k => (k = ga ∨ k = b) ∨ w.heap.size ≤ k) w (wr.setCells s 0 [.int .i64 y0, .int .i64 y1, .int .i64 y2, .int .i64 y3, .int .i64 y4]) := Touch.setCells (O := fun k => (k = ga ∨ k = b) ∨ w.heap.size ≤ k) (g := s) (.inr HSG.out.2.2) _ _ RT.out
      refine post_row (vs := #[.int .i64 y0, .int .i64 y1, .int .i64 y2, .int .i64 y3, .int .i64 y4]) rfl rfl rfl rfl Try.underlying48 info_loss bF ⟨?_, ?_, tF.fresh⟩
      · rw [HR.out, HY.out]
      · rw [HR.out]; exact hF
end

end Go.Proofs.Ytmkpidipoadnbaa
