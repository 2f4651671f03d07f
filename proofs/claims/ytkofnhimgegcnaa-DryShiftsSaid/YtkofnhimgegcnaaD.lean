/- send: what flows along ways that go a step further each. -/
import Derived.Test.YtkofnhimgegcnaaC
import Derived.Laws.EntriesVeiled
namespace Go.Proofs.Ytkofnhimgegcnaa
open Go.RowKit

theorem info3 : (Try.prog.info? 3).map (fun i => (i.zero, i.size, i.bytes)) = some (some (.int .i64 0), 1, 8) := by kernel_rfl

/-- Where a network lies. -/
structure Plot where
  b : Nat
  go : Nat
  gw : Nat
  co : Nat
  cw : Nat
  pw : Option Addr
  vl : Value
  vt : Value

/-- A network in memory. -/
structure NetAt (K : Plot) (E : List Edge) (N : Nat) (w : World) (f : Nat → Int) (vs : Value) : Prop where
  net : Box w K.b #[K.vl, K.vt, .slice K.pw (2 * E.length) K.cw, .slice (some ⟨K.go, 0, none⟩) N K.co, vs] 100
  out : OutAt w K.go (fun k => k = K.gw ∨ k = K.b) E N
  ways : WaysAt w K.pw K.gw E f
  d : K.b ≠ K.gw

theorem OutAt.swap {w : World} {go : Nat} {X Y : Nat → Prop} {E : List Edge} {N : Nat} (h : OutAt w go X E N) (hN : 0 < N) (hY : ∀ k, k < w.heap.size → Y k → X k) : OutAt w go Y E N := by
  obtain ⟨h0, h1⟩ := h
  have key : ∀ {b o : Nat} {u : Value}, w.cell? ⟨b, o, none⟩ = some u → ¬ X b → ¬ Y b := fun hc hx hy => hx (hY _ (cell_lt hc) hy)
  refine ⟨?_, fun v hv => ?_⟩
  · obtain ⟨pv, cv, h2, _⟩ := h1 0 hN
    exact key h2 h0
  · obtain ⟨pv, cv, h2, h3⟩ := h1 v hv
    refine ⟨pv, cv, h2, fun p x hx => ?_⟩
    obtain ⟨g', h4, h5, h6⟩ := h3 p x hx
    exact ⟨g', h4, key h6 h5, h6⟩

theorem NetAt.touch {K : Plot} {E : List Edge} {N : Nat} {w w' : World} {f : Nat → Int} {vs : Value} (h : NetAt K E N w f vs) (ha : Adds w w') : NetAt K E N w' f vs where
  net := h.net.later ha
  out := h.out.touch (Touch.of_adds ha (fun _ => False)) (fun _ _ => False.elim)
  ways := h.ways.same (fun hE => ha.block _ (h.ways.lt hE))
  d := h.d

theorem Adds.narrow {O P : Nat → Prop} {a b c : World} (h : Adds a b) (k : Touch O b c) (hO : ∀ i, i < a.heap.size → O i → P i) : Touch P a c :=
  ⟨k.os.trans h.os, k.tape.trans h.tape, k.output.trans h.output, Nat.le_trans h.size k.size, fun i hi hp => (k.same i (Nat.lt_of_lt_of_le hi h.size) (fun ho => hp (hO i hi ho))).trans (h.block i hi)⟩

theorem IntsAt.later {w w' : World} {g N : Nat} {F : Nat → Int} (h : IntsAt w g N F) (ha : Adds w w') : IntsAt w' g N F := h.same (ha.block _ h.lt)

set_option maxRecDepth 100000 in
set_option maxHeartbeats 2000000 in
theorem send_any (K : Plot) (E : List Edge) (N : Nat) (lev : Nat → Int) (f : Nat → Int) (val : Int) (gs cs : Nat) (w : World) (hS : Sane E N) (hL : Lev E N f lev) (hF : Flow E f val) (hst : IntsAt w gs N lev) (hgs : (0 < E.length → gs ≠ K.gw) ∧ gs ≠ K.b)
    (hK : NetAt K E N w f (.slice (some ⟨gs, 0, none⟩) N cs)) :
    Calls Try.prog 79 #[.pointer (some ⟨K.b, 0, none⟩)] w fun e w' => ∃ f' sum, e = .returned (.int .i64 sum) ∧ 0 ≤ sum ∧ (0 ≤ lev 1 → 1 ≤ sum) ∧ Flow E f' (val + sum) ∧ NetAt K E N w' f' (.slice (some ⟨gs, 0, none⟩) N cs) ∧ Touch (fun k => k = K.gw) w w' := by
  obtain ⟨b, go, gw, co, cw, pw, vl, vt⟩ := K
  dsimp only at *
  obtain ⟨j0, hj, hj0, hj1, hj2⟩ := info_parts info3
  have HJ := Lib.hid hj
  have HJ0 := Lib.hid hj0
  have HJ1 := Lib.hid hj1
  have HJ2 := Lib.hid hj2
  clear hj hj0 hj1 hj2
  have hN := hS.n
  have HS := Lib.hid hS
  have HL := Lib.hid hL
  have HF := Lib.hid hF
  have HST := Lib.hid hst
  have HK := Lib.hid hK
  have kn : w.cell? ⟨b, 3, none⟩ = some (.slice (some ⟨go, 0, none⟩) N co) := hK.net.cell 3
  have hbl : b < w.heap.size := hK.net.lt
  clear hS hL hF hst hK
  go_enter Try.func79, Try.ntmps79
  go_upto_region 4 with (first
    | (refine wpList_make_full _ rfl _ _ 35 rfl w.heap.size 3 j0 (.int .i64 0) 1 Try.underlying35 HJ.out HJ0.out HJ1.out .i64 .i64 (N : Int) (N : Int) N rfl rfl rfl rfl (by rw [HJ2.out]; omega) (by unfold maxLen; omega) (by simp) ?_; intro y5 ho hg; have HO := Lib.hid (made_row ho); have HG := Lib.hid hg; clear ho hg)
    | go_in)
  obtain ⟨B, hB⟩ : ∃ B, B = w.heap.size := ⟨_, rfl⟩
  have hsz : (w.alloc (Obj.cells #[Value.pointer (some { block := b, off := 0 })] 93)).heap.size = B + 1 := by simp [hB]
  have HROW : RowI 3 .i64 y5 (B + 1) N (List.replicate N 0) := by
    obtain ⟨e1, e2⟩ := own_rowI HO.out
    rcases e2 with ⟨e2, _⟩ | ⟨g, cap, e2, _, e3⟩
    · cases e2
    · injection e2 with e4 e5 e6
      injection e4 with e4
      injection e4 with e4
      rw [hsz] at e4
      subst e6
      rw [e4]
      exact e3
  have hA0 : Adds w y5 := ((Adds.refl w).alloc _).grown HG.out (by simp) (fun j hj => by cases hj)
  have hbt := HROW.lt
  have hbw : Box y5 B #[.pointer (some ⟨b, 0, none⟩)] 93 := by
    have h1 := Box.new w #[.pointer (some ⟨b, 0, none⟩)] 93
    rw [← hB] at h1
    exact h1.same (HG.out.block _ (by rw [hsz]; omega) (by simp))
  obtain ⟨C, hC⟩ : ∃ C, C = y5.heap.size := ⟨_, rfl⟩
  rw [← hB, ← hC]
  rw [← hC] at hbt
  obtain ⟨W, hW⟩ : ∃ V, V = (y5.alloc (Obj.cells #[Value.slice (some ⟨B + 1, 0, none⟩) N N] 35)).alloc (Obj.cells #[Value.func (.func 91) #[] #[.pointer (some ⟨C, 0, none⟩), .pointer (some ⟨B, 0, none⟩), .pointer (some ⟨C + 1, 0, none⟩)]] 105) := ⟨_, rfl⟩
  rw [← hW]
  have hAy : Adds y5 W := by
    rw [hW]
    exact ((Adds.refl y5).alloc _).alloc _
  have hAw : Adds w W := hA0.trans hAy
  have kb : Box W C #[Value.slice (some ⟨B + 1, 0, none⟩) N N] 35 := by
    rw [hW, hC]
    exact (Box.new y5 _ _).alloc _
  have ks : W.cell? ⟨C + 1, 0, none⟩ = some (.func (.func 91) #[] #[.pointer (some ⟨C, 0, none⟩), .pointer (some ⟨B, 0, none⟩), .pointer (some ⟨C + 1, 0, none⟩)]) := by
    have h1 := Box.new (y5.alloc (Obj.cells #[Value.slice (some ⟨B + 1, 0, none⟩) N N] 35)) #[Value.func (.func 91) #[] #[.pointer (some ⟨C, 0, none⟩), .pointer (some ⟨B, 0, none⟩), .pointer (some ⟨C + 1, 0, none⟩)]] 105
    have h2 : (y5.alloc (Obj.cells #[Value.slice (some ⟨B + 1, 0, none⟩) N N] 35)).heap.size = C + 1 := by simp [hC]
    rw [h2, ← hW] at h1
    exact h1.cell 0
  obtain ⟨gw2, hg2⟩ : ∃ q, q = if 0 < E.length then gw else w.heap.size + y5.heap.size + 10 := ⟨_, rfl⟩
  have hg3 : 0 < E.length → gw2 = gw := fun h => by rw [hg2, if_pos h]
  have hg4 : ∀ k, k < w.heap.size → k = gw2 → k = gw := fun k hk e => by
    by_cases h : 0 < E.length
    · rw [e, hg3 h]
    · rw [hg2, if_neg h] at e; omega
  have hg5 : gw2 ≠ b ∧ gw2 ≠ gs ∧ gw2 ≠ B + 1 ∧ gw2 ≠ C ∧ gw2 ≠ B ∧ gw2 ≠ C + 1 := by
    have := HK.out.d
    dsimp only at this
    have hgsl := HST.out.lt
    by_cases h : 0 < E.length
    · have := HK.out.ways.lt h
      dsimp only at this
      rw [hg3 h]
      omega
    · rw [hg2, if_neg h]; omega
  obtain ⟨g1, g2, g3, g4, g5, g6⟩ := hg5
  have hlt := HK.out.net.lt
  have hgsl := HST.out.lt
  have hHunt : Hunt ⟨b, go, gs, gw2, B + 1, C, B, C + 1, N, co, cs, cw, pw, vl, vt⟩ E N lev W f (fun _ => 0) := by
    refine ⟨HK.out.net.later hAw, ?_, ?_, HST.out.later hAw, ?_, kb.cell 0, (hbw.later hAy).cell 0, ks, ?_⟩
    · refine (HK.out.out.swap (by have := HS.out.two; omega) (fun k hk e => ?_)).touch (Touch.of_adds hAw (fun _ => False)) (fun _ _ => False.elim)
      rcases e with e | e
      · exact Or.inl (hg4 k hk e)
      · dsimp only at e; omega
    · have : WaysAt W pw gw E f := HK.out.ways.same (fun hE => hAw.block _ (HK.out.ways.lt hE))
      intro hE
      dsimp only
      rw [hg3 hE]
      exact this hE
    · have h := ((HROW.later hAy).ints.congr (G := fun _ => 0) (fun v hv => by simp at hv; simp [hv]))
      rw [List.length_replicate] at h
      exact h
    · obtain ⟨z1, z2⟩ := hgs
      dsimp only
      omega
  have HH := Lib.hid hHunt
  have HAW := Lib.hid hAw
  have HB := Lib.hid hB
  have HG3 := Lib.hid hg3
  have HG4 := Lib.hid hg4
  clear hHunt hAw kb hAy hW hbw hA0 HROW HO HG hg2 hsz hbt hB hC hg3 hg4
  have h91 : ∀ args W, (callFunc 91 args).run Try.prog W = .ok (.enter 91 args) W := fun args W => enters_of Try.func91 (by kernel_rfl) rfl args W
  have hcall := fun d => search_any ⟨b, go, gs, gw2, B + 1, C, B, C + 1, N, co, cs, cw, pw, vl, vt⟩ E N lev HS.out HL.out.top d 0 9223372036854775807 f (fun _ => 0) W (by have := HS.out.two; omega) (by rw [HL.out.src]; omega)
  have hc2 := hcall N (by rw [HL.out.src]; omega) (by omega) (by omega) HF.out.ok (fun v => Nat.zero_le _) HH.out
  dsimp only at hc2
  have HC := Lib.hid hc2
  clear hcall hc2
  go_wp2_with (go_at_fn 91; refine HC.out.mono ?_; rintro e w5 ⟨f2, T2, sent, rfl, hs, hh2, ht2⟩; have HS2 := Lib.hid hs; have HH2 := Lib.hid hh2; have HT2 := Lib.hid ht2; clear hs hh2 ht2)
  go_ret
  refine ⟨f2, sent, rfl, HS2.out.pos, ?_, HF.out.send HS2.out, ?_, ?_⟩
  · intro h1
    have := HS2.out.pos
    rcases Int.lt_or_le sent 1 with h2 | h2
    · exact absurd (HL.out.good h1) ((HS2.out.good (by omega)).2 (good_start E lev f)).2
    · exact h2
  · have hTw : Touch (fun k => k = gw) w w5 := HAW.out.narrow HT2.out (fun k hk e => by
      rcases e with e | e
      · exact HG4.out k hk e
      · have := HB.out; omega)
    refine ⟨HK.out.net.same (hTw.same b hbl (by have := HK.out.d; dsimp only at this; omega)), HK.out.out.touch hTw (fun k _ e => Or.inl e), ?_, HK.out.d⟩
    intro hE
    have := HH2.out.ways hE
    dsimp only at this ⊢
    rw [HG3.out hE] at this
    exact this
  · exact HAW.out.narrow HT2.out (fun k hk e => by
      rcases e with e | e
      · exact HG4.out k hk e
      · have := HB.out; omega)

end Go.Proofs.Ytkofnhimgegcnaa
