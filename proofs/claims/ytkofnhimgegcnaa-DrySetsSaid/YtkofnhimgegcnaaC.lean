/- search: what it sends. -/
import Derived.Test.YtkofnhimgegcnaaB
import Derived.Shelf.Abstract
import Derived.Deep.DeepCutAuto
import Derived.Deep.CutBlock
namespace Go.Proofs.Ytkofnhimgegcnaa
open Go.RowKit

/-- Where a network lies while it is searched. -/
structure Lies where
  b : Nat
  go : Nat
  gs : Nat
  gw : Nat
  gt : Nat
  bt : Nat
  bw : Nat
  bs : Nat
  ct : Nat
  co : Nat
  cs : Nat
  cw : Nat
  pw : Option Addr
  vl : Value
  vt : Value

/-- A network while it is searched. -/
structure Hunt (K : Lies) (E : List Edge) (N : Nat) (lev : Nat → Int) (w : World) (f : Nat → Int) (T : Nat → Nat) : Prop where
  net : Box w K.b #[K.vl, K.vt, .slice K.pw (2 * E.length) K.cw, .slice (some ⟨K.go, 0, none⟩) N K.co, .slice (some ⟨K.gs, 0, none⟩) N K.cs] 100
  out : OutAt w K.go (fun k => k = K.gw ∨ k = K.gt) E N
  ways : WaysAt w K.pw K.gw E f
  steps : IntsAt w K.gs N lev
  tried : IntsAt w K.gt N (fun v => (T v : Int))
  c1 : w.cell? ⟨K.bt, 0, none⟩ = some (.slice (some ⟨K.gt, 0, none⟩) N K.ct)
  c2 : w.cell? ⟨K.bw, 0, none⟩ = some (.pointer (some ⟨K.b, 0, none⟩))
  c3 : w.cell? ⟨K.bs, 0, none⟩ = some (.func (.func 91) #[] #[.pointer (some ⟨K.bt, 0, none⟩), .pointer (some ⟨K.bw, 0, none⟩), .pointer (some ⟨K.bs, 0, none⟩)])
  d : K.gt ≠ K.gw ∧ K.b ≠ K.gw ∧ K.b ≠ K.gt ∧ K.gs ≠ K.gw ∧ K.gs ≠ K.gt ∧ K.bt ≠ K.gw ∧ K.bt ≠ K.gt ∧ K.bw ≠ K.gw ∧ K.bw ≠ K.gt ∧ K.bs ≠ K.gw ∧ K.bs ≠ K.gt

/-- Numbers are small. -/
structure Sane (E : List Edge) (N : Nat) : Prop where
  ends : Ends E N
  n : N ≤ 100000
  two : 1 < N
  m : E.length ≤ 1000000
  cap : ∀ k, k < E.length → 0 ≤ (eAt E k).2.2 ∧ (eAt E k).2.2 ≤ 1000000000000

theorem outE_len (E : List Edge) (v : Nat) : (outE E v).length ≤ 2 * E.length := by
  unfold outE
  have := List.length_filter_le (fun i => decide (tailE E i = v)) (List.range (2 * E.length))
  rwa [List.length_range] at this

theorem Sane.room {E : List Edge} {N : Nat} (h : Sane E N) {f : Nat → Int} (hf : Okf E f) {i : Nat} (hi : i < 2 * E.length) : 0 ≤ roomE E f i ∧ roomE E f i ≤ 1000000000000 := by
  have := room_pos hf hi
  have := h.cap (i / 2) (by omega)
  omega

theorem Hunt.adds {K : Lies} {E : List Edge} {N : Nat} {lev : Nat → Int} {w w' : World} {f : Nat → Int} {T : Nat → Nat} (h : Hunt K E N lev w f T) (ha : Adds w w') : Hunt K E N lev w' f T where
  net := h.net.later ha
  out := h.out.touch (Touch.of_adds ha (fun _ => False)) (fun _ _ => False.elim)
  ways := h.ways.same (fun hE => ha.block _ (h.ways.lt hE))
  steps := h.steps.same (ha.block _ h.steps.lt)
  tried := h.tried.same (ha.block _ h.tried.lt)
  c1 := keep_cell ha h.c1
  c2 := keep_cell ha h.c2
  c3 := keep_cell ha h.c3
  d := h.d

theorem bump_self (T : Nat → Nat) (v : Nat) : bump T v v = T v + 1 := by unfold bump; rw [if_pos rfl]

theorem cell_far {w : World} {b o c p : Nat} {u v : Value} (hn : c ≠ b) (h : w.cell? ⟨b, o, none⟩ = some v) : (w.setCell ⟨c, p, none⟩ u).cell? ⟨b, o, none⟩ = some v := by
  rw [World.cell?_setCell_other _ ⟨c, p, none⟩ ⟨b, o, none⟩ _ (fun e => hn (congrArg Addr.block e)), h]

theorem OutAt.set {w : World} {go : Nat} {X : Nat → Prop} {E : List Edge} {N : Nat} (h : OutAt w go X E N) {c p : Nat} (hc : X c) (u : Value) : OutAt (w.setCell ⟨c, p, none⟩ u) go X E N :=
  h.touch (O := fun k => k = c) ((Touch.refl (fun k => k = c) w).set (p := ⟨c, p, none⟩) rfl u) (fun k _ e => by rw [e]; exact hc)

theorem Hunt.tick {K : Lies} {E : List Edge} {N : Nat} {lev : Nat → Int} {w : World} {f : Nat → Int} {T : Nat → Nat} (h : Hunt K E N lev w f T) (node : Nat) : Hunt K E N lev (w.setCell ⟨K.gt, node, none⟩ (.int .i64 ((T node : Int) + 1))) f (bump T node) := by
  obtain ⟨d1, d2, d3, d4, d5, d6, d7, d8, d9, d10, d11⟩ := h.d
  exact {
    net := h.net.far (by simp; omega) _
    out := h.out.set (Or.inr rfl) _
    ways := h.ways.set (by simp; omega) _
    steps := h.steps.same (Below.heap_setCell _ _ _ _ (by simp; omega))
    tried := (h.tried.put _).congr (fun v _ => by unfold bump; by_cases e : v = node <;> simp [e])
    c1 := cell_far (by omega) h.c1
    c2 := cell_far (by omega) h.c2
    c3 := cell_far (by omega) h.c3
    d := h.d }

theorem Hunt.push {K : Lies} {E : List Edge} {N : Nat} {lev : Nat → Int} {w : World} {f : Nat → Int} {T : Nat → Nat} (h : Hunt K E N lev w f T) {i : Nat} (hi : i < 2 * E.length) (x : Int) :
    Hunt K E N lev ((w.setCell ⟨K.gw, i * 2 + 1, none⟩ (.int .i64 (roomE E f i - x))).setCell ⟨K.gw, mate i * 2 + 1, none⟩ (.int .i64 (roomE E f (mate i) + x))) (pushF f i x) T := by
  obtain ⟨d1, d2, d3, d4, d5, d6, d7, d8, d9, d10, d11⟩ := h.d
  exact {
    net := (h.net.far (by simp; omega) _).far (by simp; omega) _
    out := (h.out.set (Or.inl rfl) _).set (Or.inl rfl) _
    ways := h.ways.push hi x
    steps := h.steps.same ((Below.heap_setCell _ _ _ _ (by simp; omega)).trans (Below.heap_setCell _ _ _ _ (by simp; omega)))
    tried := h.tried.same ((Below.heap_setCell _ _ _ _ (by simp; omega)).trans (Below.heap_setCell _ _ _ _ (by simp; omega)))
    c1 := cell_far (by omega) (cell_far (by omega) h.c1)
    c2 := cell_far (by omega) (cell_far (by omega) h.c2)
    c3 := cell_far (by omega) (cell_far (by omega) h.c3)
    d := h.d }

abbrev triedCell (gt : Nat) (E : List Edge) (node : Nat) (w : World) : Nat :=
  match w.cell? ⟨gt, node, none⟩ with
  | some v => (outE E node).length - (intOf v).toNat
  | none => 0

theorem Hunt.left {K : Lies} {E : List Edge} {N : Nat} {lev : Nat → Int} {w : World} {f : Nat → Int} {T : Nat → Nat} (h : Hunt K E N lev w f T) {node : Nat} (hn : node < N) : triedCell K.gt E node w = (outE E node).length - T node := by
  unfold triedCell
  rw [h.tried.cell hn]
  simp [intOf]

set_option maxRecDepth 100000 in
set_option maxHeartbeats 2000000 in
theorem search_any (K : Lies) (E : List Edge) (N : Nat) (lev : Nat → Int) (hS : Sane E N) (hlev : ∀ v, v < N → -1 ≤ lev v ∧ lev v < (N : Int)) : ∀ (d node : Nat) (most : Int) (f : Nat → Int) (T : Nat → Nat) (w : World),
    node < N → 0 ≤ lev node → (N : Int) - lev node ≤ d → 1 ≤ most → most ≤ 9223372036854775807 → Okf E f → (∀ v, T v ≤ (outE E v).length) → Hunt K E N lev w f T →
    Calls Try.prog 91 #[.int .i64 node, .int .i64 most, .pointer (some ⟨K.bt, 0, none⟩), .pointer (some ⟨K.bw, 0, none⟩), .pointer (some ⟨K.bs, 0, none⟩)] w fun e w' =>
      ∃ f' T' sum, e = .returned (.int .i64 sum) ∧ Sent E lev node f f' T T' most sum ∧ Hunt K E N lev w' f' T' ∧ Touch (fun k => k = K.gw ∨ k = K.gt) w w' := by
  obtain ⟨b, go, gs, gw, gt, bt, bw, bs, ct, co, cs, cw, pw, vl, vt⟩ := K
  dsimp only
  intro d
  induction d with
  | zero => intro node most f T w hn h0 hd; have := hlev node hn; omega
  | succ d ih =>
    intro node most f T w hn h0 hd hm1 hm2 hf hT hH
    have HE := Lib.hid hS
    have HLV := Lib.hid hlev
    have HIH := Lib.hid ih
    have HH := Lib.hid hH
    have HF := Lib.hid hf
    have HT := Lib.hid hT
    have hN := hS.n
    have h91 : ∀ args W, (callFunc 91 args).run Try.prog W = .ok (.enter 91 args) W := fun args W => enters_of Try.func91 (by kernel_rfl) rfl args W
    clear hS hlev ih hH hf hT
    by_cases hsink : node = 1
    · subst hsink
      go_enter Try.func91, Try.ntmps91
      go_wp2
      go_ret
      exact ⟨f, T, most, rfl, Sent.sink HF.out T hm1, HH.out, Touch.refl _ _⟩
    · have g1 : ((node : Int) == 1) = false := by simp; omega
      go_enter Try.func91, Try.ntmps91
      go_wp2
      go_loopw [8] (fun v8 wr => ∃ (σ : Int) (f1 : Nat → Int) (T1 : Nat → Nat), v8 = .int .i64 σ ∧ Hid (Part E lev node f f1 T T1 most σ) ∧ Hid (σ < most) ∧ Hid (Hunt ⟨b, go, gs, gw, gt, bt, bw, bs, ct, co, cs, cw, pw, vl, vt⟩ E N lev wr f1 T1) ∧ Hid (Touch (fun k => k = gw ∨ k = gt) w wr)) (fun _ wr => triedCell gt E node wr)
      case atStart => exact ⟨0, f, T, rfl, Lib.hid (Part.start HF.out node T hm1), Lib.hid (by omega), HH, Lib.hid (Touch.refl _ _)⟩
      case round =>
        clear HH
        obtain ⟨σ, f1, T1, rfl, HP, HL, HH, HTo⟩ := hrel
        obtain ⟨a, ha⟩ : ∃ a, a = T1 node := ⟨_, rfl⟩
        obtain ⟨pv, cv, hc5, hc6⟩ := HH.out.out.2 node hn
        have HC1 : Hid (wr.cell? ⟨bt, 0, none⟩ = some (.slice (some ⟨gt, 0, none⟩) N ct)) := Lib.hid HH.out.c1
        have HC2 : Hid (wr.cell? ⟨bw, 0, none⟩ = some (.pointer (some ⟨b, 0, none⟩))) := Lib.hid HH.out.c2
        have HC3 : Hid (wr.cell? ⟨bs, 0, none⟩ = some (.func (.func 91) #[] #[.pointer (some ⟨bt, 0, none⟩), .pointer (some ⟨bw, 0, none⟩), .pointer (some ⟨bs, 0, none⟩)])) := Lib.hid HH.out.c3
        have HN0 : Hid (wr.cell? ⟨b, 2, none⟩ = some (.slice pw (2 * E.length) cw)) := Lib.hid (HH.out.net.cell 2)
        have HN1 : Hid (wr.cell? ⟨b, 3, none⟩ = some (.slice (some ⟨go, 0, none⟩) N co)) := Lib.hid (HH.out.net.cell 3)
        have HN2 : Hid (wr.cell? ⟨b, 4, none⟩ = some (.slice (some ⟨gs, 0, none⟩) N cs)) := Lib.hid (HH.out.net.cell 4)
        have HCT : Hid (wr.cell? ⟨gt, node, none⟩ = some (.int .i64 a)) := Lib.hid (by have := HH.out.tried.cell hn; rw [← ha] at this; exact this)
        have HCL : Hid (wr.cell? ⟨gs, node, none⟩ = some (.int .i64 (lev node))) := Lib.hid (HH.out.steps.cell hn)
        have hlen := outE_len E node
        have hm := HE.out.m
        have HA := Lib.hid ha
        clear ha
        obtain ⟨L, hL⟩ : ∃ L, L = (outE E node).length := ⟨_, rfl⟩
        rw [← hL] at hc5 hlen
        have HCO : Hid (wr.cell? ⟨go, node, none⟩ = some (.slice pv L cv)) := Lib.hid hc5
        have HC6 := Lib.hid hc6
        have HLL := Lib.hid hL
        clear hL hc5 hc6
        by_cases hal : a < L
        · have hdl : decide ((a : Int) < (L : Int)) = true := decide_eq_true (by omega)
          obtain ⟨i, hi⟩ : ∃ i, (outE E node)[T1 node]? = some i := ⟨_, List.getElem?_eq_getElem (by have := HA.out; have := HLL.out; omega)⟩
          obtain ⟨hi1, hi2⟩ := outE_mem hi
          obtain ⟨go1, rfl, hX, hci⟩ := HC6.out a i (by rw [HA.out]; exact hi)
          have HI := Lib.hid hi
          have HI2 := Lib.hid hi2
          have HX := Lib.hid hX
          have HCI : Hid (wr.cell? ⟨go1, a, none⟩ = some (.int .i64 i)) := Lib.hid hci
          clear hi hi2 hX hci
          have hpw := HH.out.ways.ptr hi1
          dsimp only at hpw
          subst hpw
          obtain ⟨th, hh⟩ : ∃ th, th = headE E i := ⟨_, rfl⟩
          obtain ⟨r, hr⟩ : ∃ r, r = roomE E f1 i := ⟨_, rfl⟩
          have HWT : Hid (wr.cell? ⟨gw, i * 2, none⟩ = some (.int .i64 th)) := Lib.hid (by rw [hh]; exact HH.out.ways.to hi1)
          have HWR : Hid (wr.cell? ⟨gw, i * 2 + 1, none⟩ = some (.int .i64 r)) := Lib.hid (by rw [hr]; exact HH.out.ways.room hi1)
          have hhN : th < N := by rw [hh]; exact HE.out.ends.head hi1
          have HLH : Hid (wr.cell? ⟨gs, th, none⟩ = some (.int .i64 (lev th))) := Lib.hid (HH.out.steps.cell hhN)
          obtain ⟨hr0, hr1⟩ := HE.out.room HP.out.ok hi1
          rw [← hr] at hr0 hr1
          obtain ⟨hlh0, hlh1⟩ := HLV.out th hhN
          obtain ⟨hln0, hln1⟩ := HLV.out node hn
          have HRR := Lib.hid hr
          have HHH := Lib.hid hh
          clear hr hh
          obtain ⟨yh, hy⟩ : ∃ yh, yh = lev th := ⟨_, rfl⟩
          obtain ⟨zn, hz⟩ : ∃ zn, zn = lev node := ⟨_, rfl⟩
          have HY := Lib.hid hy
          have HZ := Lib.hid hz
          rw [← hy] at HLH hlh0 hlh1
          rw [← hz] at HCL hln0 hln1 h0 hd
          clear hy hz
          have kc1 := HC1.out
          have kc2 := HC2.out
          have kc3 := HC3.out
          have kn0 := HN0.out
          have kn1 := HN1.out
          have kn2 := HN2.out
          have kct := HCT.out
          have kcl := HCL.out
          have kco := HCO.out
          have kci := HCI.out
          have kwt := HWT.out
          have kwr := HWR.out
          have klh := HLH.out
          go_upto_region 4 with fail
          go_quiet (fail)
          go_wp2_with fail
          obtain ⟨w1, hw1⟩ : ∃ V, V = wr.drewN nq := ⟨_, rfl⟩
          rw [← hw1]
          have HAD : Hid (Adds wr w1) := Lib.hid (by rw [hw1]; exact (Adds.refl _).drewN _)
          clear hw1
          clear kc1 kc2 kc3 kn0 kn1 kn2 kct kcl kco kci kwt kwr klh
          have kc1 := keep_cell HAD.out HC1.out
          have kc2 := keep_cell HAD.out HC2.out
          have kc3 := keep_cell HAD.out HC3.out
          have kn0 := keep_cell HAD.out HN0.out
          have kn1 := keep_cell HAD.out HN1.out
          have kn2 := keep_cell HAD.out HN2.out
          have kct := keep_cell HAD.out HCT.out
          have kcl := keep_cell HAD.out HCL.out
          have kco := keep_cell HAD.out HCO.out
          have kci := keep_cell HAD.out HCI.out
          have kwt := keep_cell HAD.out HWT.out
          have kwr := keep_cell HAD.out HWR.out
          have klh := keep_cell HAD.out HLH.out
          go_upto_region 5 with fail
          clear HC6
          go_quiet (fail)
          go_upto_region 6 with fail
          obtain ⟨w2, hw2⟩ : ∃ V, V = w1.drewN nq := ⟨_, rfl⟩
          rw [← hw2]
          have HAD2 : Hid (Adds wr w2) := Lib.hid (by rw [hw2]; exact HAD.out.drewN _)
          clear hw2 HAD kc1 kc2 kc3 kn0 kn1 kn2 kct kcl kco kci kwt kwr klh
          have HAD := HAD2
          clear HAD2
          have kc1 := keep_cell HAD.out HC1.out
          have kc2 := keep_cell HAD.out HC2.out
          have kc3 := keep_cell HAD.out HC3.out
          have kn0 := keep_cell HAD.out HN0.out
          have kn1 := keep_cell HAD.out HN1.out
          have kn2 := keep_cell HAD.out HN2.out
          have kct := keep_cell HAD.out HCT.out
          have kcl := keep_cell HAD.out HCL.out
          have kco := keep_cell HAD.out HCO.out
          have kci := keep_cell HAD.out HCI.out
          have kwt := keep_cell HAD.out HWT.out
          have kwr := keep_cell HAD.out HWR.out
          have klh := keep_cell HAD.out HLH.out
          go_upto_region 7 with fail
          obtain ⟨bx, hbx⟩ : ∃ q, q = w2.heap.size := ⟨_, rfl⟩
          rw [← hbx]
          obtain ⟨w3, hw3⟩ : ∃ V, V = w2.alloc (Obj.cells #[Value.int IntKind.i64 th, Value.int IntKind.i64 r] 125) := ⟨_, rfl⟩
          rw [← hw3]
          have HAD2 : Hid (Adds wr w3) := Lib.hid (by rw [hw3]; exact HAD.out.alloc _)
          have HX3 : Hid (Box w3 bx #[Value.int IntKind.i64 th, Value.int IntKind.i64 r] 125) := Lib.hid (by rw [hw3, hbx]; exact Box.new _ _ _)
          clear hw3 HAD kc1 kc2 kc3 kn0 kn1 kn2 kct kcl kco kci kwt kwr klh
          have HAD := HAD2
          clear HAD2
          have kc1 := keep_cell HAD.out HC1.out
          have kc2 := keep_cell HAD.out HC2.out
          have kc3 := keep_cell HAD.out HC3.out
          have kn0 := keep_cell HAD.out HN0.out
          have kn1 := keep_cell HAD.out HN1.out
          have kn2 := keep_cell HAD.out HN2.out
          have kct := keep_cell HAD.out HCT.out
          have kcl := keep_cell HAD.out HCL.out
          have kco := keep_cell HAD.out HCO.out
          have kci := keep_cell HAD.out HCI.out
          have kwt := keep_cell HAD.out HWT.out
          have kwr := keep_cell HAD.out HWR.out
          have klh := keep_cell HAD.out HLH.out
          clear hbx
          have kx0 : w3.cell? ⟨bx, 0, none⟩ = some (.int .i64 th) := HX3.out.cell 0
          have kx1 : w3.cell? ⟨bx, 1, none⟩ = some (.int .i64 r) := HX3.out.cell 1
          have hsm : (σ == most) = false := by have := HL.out; simp; omega
          by_cases hr2 : 0 < r
          · have hg1 : decide (0 < r) = true := decide_eq_true hr2
            by_cases hy2 : yh = zn + 1
            · have hg2 : (yh == zn + 1) = true := by rw [hy2]; simp
              go_quiet (fail)
              go_upto_region 8 with fail
              obtain ⟨w4, hw4⟩ : ∃ V, V = w3.drewN nq := ⟨_, rfl⟩
              rw [← hw4]
              have HAD2 : Hid (Adds wr w4) := Lib.hid (by rw [hw4]; exact HAD.out.drewN _)
              have HX4 : Hid (Box w4 bx #[Value.int IntKind.i64 th, Value.int IntKind.i64 r] 125) := Lib.hid (by rw [hw4]; exact HX3.out.later ((Adds.refl _).drewN _))
              clear hw4 HAD kc1 kc2 kc3 kn0 kn1 kn2 kct kcl kco kci kwt kwr klh kx0 kx1 HX3
              have HAD := HAD2
              clear HAD2
              have kc1 := keep_cell HAD.out HC1.out
              have kc2 := keep_cell HAD.out HC2.out
              have kc3 := keep_cell HAD.out HC3.out
              have kn0 := keep_cell HAD.out HN0.out
              have kn1 := keep_cell HAD.out HN1.out
              have kn2 := keep_cell HAD.out HN2.out
              have kct := keep_cell HAD.out HCT.out
              have kcl := keep_cell HAD.out HCL.out
              have kco := keep_cell HAD.out HCO.out
              have kci := keep_cell HAD.out HCI.out
              have kwt := keep_cell HAD.out HWT.out
              have kwr := keep_cell HAD.out HWR.out
              have klh := keep_cell HAD.out HLH.out
              have kx0 : w4.cell? ⟨bx, 0, none⟩ = some (.int .i64 th) := HX4.out.cell 0
              have kx1 : w4.cell? ⟨bx, 1, none⟩ = some (.int .i64 r) := HX4.out.cell 1
              have hσ0 := HP.out.pos
              have hσ1 := HL.out
              have HLE : Hid (0 ≤ lev th ∧ (N : Int) - lev th ≤ (d : Int)) := Lib.hid (by rw [← HY.out]; omega)
              by_cases hmn : r ≤ most - σ
              · have hmin : min r (most - σ) = r := by omega
                go_upto_region 9 with (go_at_fn 91; refine (HIH.out th r f1 T1 _ hhN HLE.out.1 HLE.out.2 (by omega) (by omega) HP.out.ok (HP.out.tle HT.out) (HH.out.adds (by first | exact HAD.out | exact HAD.out.drew))).mono ?_; rintro e w5 ⟨f2, T2, sent, rfl, hs, hh2, ht2⟩; have HS := Lib.hid hs; have HH2 := Lib.hid hh2; have HT2 := Lib.hid ht2; clear hs hh2 ht2)
                clear HX4 kx0 kx1 kc1 kc2 kc3 kn0 kn1 kn2 kct kcl kco kci kwt kwr klh
                have hs3 : Sent E lev (headE E i) f1 f2 T1 T2 (min (roomE E f1 i) (most - σ)) sent := by rw [← HHH.out, ← HRR.out, hmin]; exact HS.out
                have hlv3 : lev (headE E i) = lev node + 1 := by rw [← HHH.out, ← HY.out, ← HZ.out]; exact hy2
                obtain ⟨q1, q2, q3⟩ := HP.out.send HI.out hlv3 hs3
                have q4 := HP.out.sendOn HI.out hlv3 hs3
                have hs0 := HS.out.pos
                have hs1 := HS.out.le
                have Q3 := Lib.hid q3
                have Q4 := Lib.hid q4
                have Q2 := Lib.hid q2
                have hEl : 0 < E.length := by omega
                obtain ⟨hxm0, hxm1⟩ := HE.out.room HS.out.ok (mate_lt hi1)
                obtain ⟨xm, hxm⟩ : ∃ q, q = roomE E f2 (mate i) := ⟨_, rfl⟩
                rw [← hxm] at hxm0 hxm1
                have HXM := Lib.hid hxm
                have HR2 : Hid (roomE E f2 i = r) := Lib.hid (by rw [q1]; exact HRR.out.symm)
                clear hs3 hlv3 q1 q2 q3 q4 hxm hmin
                obtain ⟨d1, d2, d3, d4, d5, d6, d7, d8, d9, d10, d11⟩ := HH2.out.d
                dsimp only at d1 d2 d3 d4 d5 d6 d7 d8 d9 d10 d11
                have kc2 : w5.cell? ⟨bw, 0, none⟩ = some (.pointer (some ⟨b, 0, none⟩)) := HH2.out.c2
                have kn0 : w5.cell? ⟨b, 2, none⟩ = some (.slice (some ⟨gw, 0, none⟩) (2 * E.length) cw) := HH2.out.net.cell 2
                have kwr : w5.cell? ⟨gw, i * 2 + 1, none⟩ = some (.int .i64 r) := by rw [← HR2.out]; exact HH2.out.ways.room hi1
                have kwm : w5.cell? ⟨gw, mate i * 2 + 1, none⟩ = some (.int .i64 xm) := by rw [HXM.out]; exact HH2.out.ways.room (mate_lt hi1)
                have kf1 : w5.frozen? ⟨gw, i * 2 + 1, none⟩ = false := HH2.out.ways.free hEl _
                have kf2 : w5.frozen? ⟨gw, mate i * 2 + 1, none⟩ = false := HH2.out.ways.free hEl _
                have hmi := mate_lt hi1
                have hmne : mate i ≠ i := fun e => mate_mod i (by rw [e])
                go_upto_region 10 with fail
                obtain ⟨w6, hw6⟩ : ∃ V, V = w5.setCell ⟨gw, i * 2 + 1, none⟩ (.int .i64 (r - sent)) := ⟨_, rfl⟩
                rw [← hw6]
                have lc2 : w6.cell? ⟨bw, 0, none⟩ = some (.pointer (some ⟨b, 0, none⟩)) := by rw [hw6]; exact cell_far (fun e => d8 e.symm) kc2
                have ln0 : w6.cell? ⟨b, 2, none⟩ = some (.slice (some ⟨gw, 0, none⟩) (2 * E.length) cw) := by rw [hw6]; exact cell_far (fun e => d2 e.symm) kn0
                have lwm : w6.cell? ⟨gw, mate i * 2 + 1, none⟩ = some (.int .i64 xm) := by
                  rw [hw6, World.cell?_setCell_other _ ⟨gw, i * 2 + 1, none⟩ ⟨gw, mate i * 2 + 1, none⟩ _ (fun e => by have := congrArg Addr.off e; simp only at this; omega)]
                  exact kwm
                have lf2 : w6.frozen? ⟨gw, mate i * 2 + 1, none⟩ = false := by rw [hw6, World.frozen?_setCell]; exact kf2
                have HW6 := Lib.hid hw6
                clear hw6 kc2 kn0 kwr kwm kf1 kf2
                have hxor := bits_mate i (by omega)
                go_upto_region 12 with fail
                obtain ⟨w7, hw7⟩ : ∃ V, V = w6.setCell ⟨gw, mate i * 2 + 1, none⟩ (.int .i64 (xm + sent)) := ⟨_, rfl⟩
                rw [← hw7]
                have HH7 : Hid (Hunt ⟨b, go, gs, gw, gt, bt, bw, bs, ct, co, cs, cw, some ⟨gw, 0, none⟩, vl, vt⟩ E N lev w7 (pushF f2 i sent) T2) := Lib.hid (by
                  have := HH2.out.push hi1 sent
                  dsimp only at this
                  rw [HR2.out, ← HXM.out, ← HW6.out, ← hw7] at this
                  exact this)
                have HT7 : Hid (Touch (fun k => k = gw ∨ k = gt) w w7) := Lib.hid (by
                  rw [hw7, HW6.out]
                  exact (((HTo.out.behind HAD.out).trans HT2.out).set (p := ⟨gw, i * 2 + 1, none⟩) (Or.inl rfl) _).set (p := ⟨gw, mate i * 2 + 1, none⟩) (Or.inl rfl) _)
                clear hw7 lc2 ln0 lwm lf2 hxor
                by_cases hful : σ + sent = most
                · have hfb : (σ + sent == most) = true := by rw [hful]; simp
                  have HFU := Lib.hid hful
                  clear hful
                  go_wp2
                  go_ret
                  exact ⟨pushF f2 i sent, T2, σ + sent, rfl, by have q := Q3.out; rw [HFU.out] at q ⊢; exact q.full hm1, HH7.out, HT7.out⟩
                · have hfb : (σ + sent == most) = false := by simp; omega
                  have HFU : Hid (σ + sent < most) := Lib.hid (by have := Q3.out.le; omega)
                  clear hful
                  have kc1 : w7.cell? ⟨bt, 0, none⟩ = some (.slice (some ⟨gt, 0, none⟩) N ct) := HH7.out.c1
                  have kct : w7.cell? ⟨gt, node, none⟩ = some (.int .i64 a) := by rw [HA.out, ← Q2.out]; exact HH7.out.tried.cell hn
                  have kf : w7.frozen? ⟨gt, node, none⟩ = false := HH7.out.tried.free _
                  go_wp2
                  have hH := HH7.out.tick node
                  rw [Q2.out, ← HA.out] at hH
                  dsimp only at hH
                  refine ⟨⟨σ + sent, pushF f2 i sent, bump T2 node, rfl, Q4, HFU, Lib.hid hH, Lib.hid (HT7.out.set (p := ⟨gt, node, none⟩) (Or.inr rfl) _)⟩, ?_⟩
                  have e1 := hH.left hn
                  have e2 := HH.out.left hn
                  dsimp only at e1 e2
                  rw [e1, e2, bump_self, Q2.out, ← HA.out, ← HLL.out]
                  omega
              · have hmin : min r (most - σ) = most - σ := by omega
                go_upto_region 9 with (go_at_fn 91; refine (HIH.out th (most - σ) f1 T1 _ hhN HLE.out.1 HLE.out.2 (by omega) (by omega) HP.out.ok (HP.out.tle HT.out) (HH.out.adds (by first | exact HAD.out | exact HAD.out.drew))).mono ?_; rintro e w5 ⟨f2, T2, sent, rfl, hs, hh2, ht2⟩; have HS := Lib.hid hs; have HH2 := Lib.hid hh2; have HT2 := Lib.hid ht2; clear hs hh2 ht2)
                clear HX4 kx0 kx1 kc1 kc2 kc3 kn0 kn1 kn2 kct kcl kco kci kwt kwr klh
                have hs3 : Sent E lev (headE E i) f1 f2 T1 T2 (min (roomE E f1 i) (most - σ)) sent := by rw [← HHH.out, ← HRR.out, hmin]; exact HS.out
                have hlv3 : lev (headE E i) = lev node + 1 := by rw [← HHH.out, ← HY.out, ← HZ.out]; exact hy2
                obtain ⟨q1, q2, q3⟩ := HP.out.send HI.out hlv3 hs3
                have q4 := HP.out.sendOn HI.out hlv3 hs3
                have hs0 := HS.out.pos
                have hs1 := HS.out.le
                have Q3 := Lib.hid q3
                have Q4 := Lib.hid q4
                have Q2 := Lib.hid q2
                have hEl : 0 < E.length := by omega
                obtain ⟨hxm0, hxm1⟩ := HE.out.room HS.out.ok (mate_lt hi1)
                obtain ⟨xm, hxm⟩ : ∃ q, q = roomE E f2 (mate i) := ⟨_, rfl⟩
                rw [← hxm] at hxm0 hxm1
                have HXM := Lib.hid hxm
                have HR2 : Hid (roomE E f2 i = r) := Lib.hid (by rw [q1]; exact HRR.out.symm)
                clear hs3 hlv3 q1 q2 q3 q4 hxm hmin
                obtain ⟨d1, d2, d3, d4, d5, d6, d7, d8, d9, d10, d11⟩ := HH2.out.d
                dsimp only at d1 d2 d3 d4 d5 d6 d7 d8 d9 d10 d11
                have kc2 : w5.cell? ⟨bw, 0, none⟩ = some (.pointer (some ⟨b, 0, none⟩)) := HH2.out.c2
                have kn0 : w5.cell? ⟨b, 2, none⟩ = some (.slice (some ⟨gw, 0, none⟩) (2 * E.length) cw) := HH2.out.net.cell 2
                have kwr : w5.cell? ⟨gw, i * 2 + 1, none⟩ = some (.int .i64 r) := by rw [← HR2.out]; exact HH2.out.ways.room hi1
                have kwm : w5.cell? ⟨gw, mate i * 2 + 1, none⟩ = some (.int .i64 xm) := by rw [HXM.out]; exact HH2.out.ways.room (mate_lt hi1)
                have kf1 : w5.frozen? ⟨gw, i * 2 + 1, none⟩ = false := HH2.out.ways.free hEl _
                have kf2 : w5.frozen? ⟨gw, mate i * 2 + 1, none⟩ = false := HH2.out.ways.free hEl _
                have hmi := mate_lt hi1
                have hmne : mate i ≠ i := fun e => mate_mod i (by rw [e])
                go_upto_region 10 with fail
                obtain ⟨w6, hw6⟩ : ∃ V, V = w5.setCell ⟨gw, i * 2 + 1, none⟩ (.int .i64 (r - sent)) := ⟨_, rfl⟩
                rw [← hw6]
                have lc2 : w6.cell? ⟨bw, 0, none⟩ = some (.pointer (some ⟨b, 0, none⟩)) := by rw [hw6]; exact cell_far (fun e => d8 e.symm) kc2
                have ln0 : w6.cell? ⟨b, 2, none⟩ = some (.slice (some ⟨gw, 0, none⟩) (2 * E.length) cw) := by rw [hw6]; exact cell_far (fun e => d2 e.symm) kn0
                have lwm : w6.cell? ⟨gw, mate i * 2 + 1, none⟩ = some (.int .i64 xm) := by
                  rw [hw6, World.cell?_setCell_other _ ⟨gw, i * 2 + 1, none⟩ ⟨gw, mate i * 2 + 1, none⟩ _ (fun e => by have := congrArg Addr.off e; simp only at this; omega)]
                  exact kwm
                have lf2 : w6.frozen? ⟨gw, mate i * 2 + 1, none⟩ = false := by rw [hw6, World.frozen?_setCell]; exact kf2
                have HW6 := Lib.hid hw6
                clear hw6 kc2 kn0 kwr kwm kf1 kf2
                have hxor := bits_mate i (by omega)
                go_upto_region 12 with fail
                obtain ⟨w7, hw7⟩ : ∃ V, V = w6.setCell ⟨gw, mate i * 2 + 1, none⟩ (.int .i64 (xm + sent)) := ⟨_, rfl⟩
                rw [← hw7]
                have HH7 : Hid (Hunt ⟨b, go, gs, gw, gt, bt, bw, bs, ct, co, cs, cw, some ⟨gw, 0, none⟩, vl, vt⟩ E N lev w7 (pushF f2 i sent) T2) := Lib.hid (by
                  have := HH2.out.push hi1 sent
                  dsimp only at this
                  rw [HR2.out, ← HXM.out, ← HW6.out, ← hw7] at this
                  exact this)
                have HT7 : Hid (Touch (fun k => k = gw ∨ k = gt) w w7) := Lib.hid (by
                  rw [hw7, HW6.out]
                  exact (((HTo.out.behind HAD.out).trans HT2.out).set (p := ⟨gw, i * 2 + 1, none⟩) (Or.inl rfl) _).set (p := ⟨gw, mate i * 2 + 1, none⟩) (Or.inl rfl) _)
                clear hw7 lc2 ln0 lwm lf2 hxor
                by_cases hful : σ + sent = most
                · have hfb : (σ + sent == most) = true := by rw [hful]; simp
                  have HFU := Lib.hid hful
                  clear hful
                  go_wp2
                  go_ret
                  exact ⟨pushF f2 i sent, T2, σ + sent, rfl, by have q := Q3.out; rw [HFU.out] at q ⊢; exact q.full hm1, HH7.out, HT7.out⟩
                · have hfb : (σ + sent == most) = false := by simp; omega
                  have HFU : Hid (σ + sent < most) := Lib.hid (by have := Q3.out.le; omega)
                  clear hful
                  have kc1 : w7.cell? ⟨bt, 0, none⟩ = some (.slice (some ⟨gt, 0, none⟩) N ct) := HH7.out.c1
                  have kct : w7.cell? ⟨gt, node, none⟩ = some (.int .i64 a) := by rw [HA.out, ← Q2.out]; exact HH7.out.tried.cell hn
                  have kf : w7.frozen? ⟨gt, node, none⟩ = false := HH7.out.tried.free _
                  go_wp2
                  have hH := HH7.out.tick node
                  rw [Q2.out, ← HA.out] at hH
                  dsimp only at hH
                  refine ⟨⟨σ + sent, pushF f2 i sent, bump T2 node, rfl, Q4, HFU, Lib.hid hH, Lib.hid (HT7.out.set (p := ⟨gt, node, none⟩) (Or.inr rfl) _)⟩, ?_⟩
                  have e1 := hH.left hn
                  have e2 := HH.out.left hn
                  dsimp only at e1 e2
                  rw [e1, e2, bump_self, Q2.out, ← HA.out, ← HLL.out]
                  omega
            · have hg2 : (yh == zn + 1) = false := by simp; omega
              have hnot : ¬ (0 < r ∧ yh = zn + 1) := fun h => hy2 h.2
              go_quiet (fail)
              go_upto_region 13 with fail
              obtain ⟨w4, hw4⟩ : ∃ V, V = w3.drewN nq := ⟨_, rfl⟩
              rw [← hw4]
              have HAD2 : Hid (Adds wr w4) := Lib.hid (by rw [hw4]; exact HAD.out.drewN _)
              clear hw4 HAD kc1 kc2 kc3 kn0 kn1 kn2 kct kcl kco kci kwt kwr klh kx0 kx1 HX3
              have HAD := HAD2
              clear HAD2
              have kc1 := keep_cell HAD.out HC1.out
              have kc2 := keep_cell HAD.out HC2.out
              have kc3 := keep_cell HAD.out HC3.out
              have kn0 := keep_cell HAD.out HN0.out
              have kn1 := keep_cell HAD.out HN1.out
              have kn2 := keep_cell HAD.out HN2.out
              have kct := keep_cell HAD.out HCT.out
              have kcl := keep_cell HAD.out HCL.out
              have kco := keep_cell HAD.out HCO.out
              have kci := keep_cell HAD.out HCI.out
              have kwt := keep_cell HAD.out HWT.out
              have kwr := keep_cell HAD.out HWR.out
              have klh := keep_cell HAD.out HLH.out
              have kf : w4.frozen? ⟨gt, node, none⟩ = false := keep_free HAD.out HCT.out (HH.out.tried.free _)
              have HN := Lib.hid hnot
              clear hnot
              go_wp2
              have hP := HP.out.pass HI.out (by rw [← HRR.out, ← HHH.out, ← HY.out, ← HZ.out]; exact HN.out)
              have hH := (HH.out.adds HAD.out).tick node
              rw [← HA.out] at hH
              dsimp only at hH
              refine ⟨⟨σ, f1, bump T1 node, rfl, Lib.hid hP, HL, Lib.hid hH, Lib.hid ((HTo.out.behind HAD.out).set (p := ⟨gt, node, none⟩) (Or.inr rfl) _)⟩, ?_⟩
              have e1 := hH.left hn
              have e2 := HH.out.left hn
              dsimp only at e1 e2
              rw [e1, e2, bump_self, ← HA.out, ← HLL.out]
              omega
          · have hg1 : decide (0 < r) = false := decide_eq_false hr2
            have hnot : ¬ (0 < r ∧ yh = zn + 1) := fun h => hr2 h.1
            go_quiet (fail)
            go_upto_region 13 with fail
            obtain ⟨w4, hw4⟩ : ∃ V, V = w3.drewN nq := ⟨_, rfl⟩
            rw [← hw4]
            have HAD2 : Hid (Adds wr w4) := Lib.hid (by rw [hw4]; exact HAD.out.drewN _)
            clear hw4 HAD kc1 kc2 kc3 kn0 kn1 kn2 kct kcl kco kci kwt kwr klh kx0 kx1 HX3
            have HAD := HAD2
            clear HAD2
            have kc1 := keep_cell HAD.out HC1.out
            have kc2 := keep_cell HAD.out HC2.out
            have kc3 := keep_cell HAD.out HC3.out
            have kn0 := keep_cell HAD.out HN0.out
            have kn1 := keep_cell HAD.out HN1.out
            have kn2 := keep_cell HAD.out HN2.out
            have kct := keep_cell HAD.out HCT.out
            have kcl := keep_cell HAD.out HCL.out
            have kco := keep_cell HAD.out HCO.out
            have kci := keep_cell HAD.out HCI.out
            have kwt := keep_cell HAD.out HWT.out
            have kwr := keep_cell HAD.out HWR.out
            have klh := keep_cell HAD.out HLH.out
            have kf : w4.frozen? ⟨gt, node, none⟩ = false := keep_free HAD.out HCT.out (HH.out.tried.free _)
            have HN := Lib.hid hnot
            clear hnot
            go_wp2
            have hP := HP.out.pass HI.out (by rw [← HRR.out, ← HHH.out, ← HY.out, ← HZ.out]; exact HN.out)
            have hH := (HH.out.adds HAD.out).tick node
            rw [← HA.out] at hH
            dsimp only at hH
            refine ⟨⟨σ, f1, bump T1 node, rfl, Lib.hid hP, HL, Lib.hid hH, Lib.hid ((HTo.out.behind HAD.out).set (p := ⟨gt, node, none⟩) (Or.inr rfl) _)⟩, ?_⟩
            have e1 := hH.left hn
            have e2 := HH.out.left hn
            dsimp only at e1 e2
            rw [e1, e2, bump_self, ← HA.out, ← HLL.out]
            omega
        · have hdl : decide ((a : Int) < (L : Int)) = false := decide_eq_false (by omega)
          have HIN : Hid ((outE E node).length ≤ T1 node) := Lib.hid (by have := HA.out; have := HLL.out; omega)
          have kc1 := HC1.out
          have kc2 := HC2.out
          have kc3 := HC3.out
          have kn0 := HN0.out
          have kn1 := HN1.out
          have kn2 := HN2.out
          have kct := HCT.out
          have kcl := HCL.out
          have kco := HCO.out
          go_upto_region 4 with fail
          go_quiet (fail)
          go_wp2
          go_ret
          exact ⟨f1, T1, σ, rfl, HP.out.spent hsink HIN.out, HH.out.adds ((Adds.refl _).drewN _), HTo.out.behind ((Adds.refl _).drewN _)⟩

end Go.Proofs.Ytkofnhimgegcnaa
