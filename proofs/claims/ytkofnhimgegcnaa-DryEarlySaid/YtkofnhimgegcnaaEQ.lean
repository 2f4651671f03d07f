/- Which hours the two rotas give: where there is one, and where there is none. The law DryEarly, walked. -/
import Derived.Test.YtkofnhimgegcnaaEP
import Derived.Maps.RangeWalk
import Derived.Lib.SlKeysI
namespace Go.Proofs.Ytkofnhimgegcnaa
open Go Go.RowKit Go.Sort Go.Maps

theorem Sh.Full.congrN {q : Sh} {S T : Nat → Bool} {t : Nat → Nat} (h : q.Full S t) (e : ∀ i, i < q.n → S i = T i) : q.Full T t := by
  have ha : ∀ g, q.at T t g = q.at S t g := fun g => cntN_congr fun i hi => by simp only [e i hi]
  exact ⟨fun i hi hS => h.rdy i hi (by rw [e i hi]; exact hS), fun g => by rw [ha]; exact h.few g, fun i hi hS g h1 h2 => by
    obtain ⟨g1, g2⟩ := h.gre i hi (by rw [e i hi]; exact hS) g h1 h2
    exact ⟨by rw [ha]; exact g1, fun j hj hSj => g2 j hj (by rw [e j hj]; exact hSj)⟩, fun i hi hS => h.tim i hi (by rw [e i hi]; exact hS)⟩
theorem Rep.congrN {q : Sh} {S T : Nat → Bool} {t : Nat → Nat} {C : Nat → List Nat} (h : Rep q S t C) (e : ∀ i, i < q.n → S i = T i) : Rep q T t C := fun g => ⟨(h g).1, fun i => by
  rw [(h g).2]
  constructor
  · rintro ⟨a, b, c⟩; exact ⟨a, by rw [← e i a]; exact b, c⟩
  · rintro ⟨a, b, c⟩; exact ⟨a, by rw [e i a]; exact b, c⟩⟩

/-- What add does where the load fits, and where it doesn't. -/
def AddYes (q : Sh) (S : Nat → Bool) (bm n base : Nat) (w : World) (e : Ending) (w' : World) : Prop :=
  ∃ (t : Nat → Nat) (C : Nat → List Nat) (F : Int → Value), e = .returned (.bool true) ∧ q.Full S t ∧ Rep q S t C ∧ CrewsAt w' bm (n + 1) base C F ∧ Touch (fun k => k = bm ∨ base ≤ k) w w'
theorem add_yes {q : Sh} {S : Nat → Bool} {bm n base f : Nat} {args : Array Value} {w : World} (h : Calls Try.prog f args w (AddGot q S bm n base w)) (hf : q.Fit S) : Calls Try.prog f args w (AddYes q S bm n base w) :=
  h.mono fun e w' hg => by
    rcases hg with hg | ⟨_, ho, _⟩
    · exact hg
    · exact absurd hf ho.none
theorem add_no {q : Sh} {S : Nat → Bool} {bm n base f : Nat} {args : Array Value} {w : World} (h : Calls Try.prog f args w (AddGot q S bm n base w)) (hf : q.Over S) : Calls Try.prog f args w fun e w' => e = .returned (.bool false) ∧ Adds w w' :=
  h.mono fun e w' hg => by
    rcases hg with ⟨t, C, F, _, h1, _⟩ | ⟨he, _, ha⟩
    · exact absurd h1.fit hf.none
    · exact ⟨he, ha⟩
theorem CrewsAt.made2 (w : World) (o : Obj) : CrewsAt ((w.alloc (.map #[] 0)).alloc o) w.heap.size 0 (w.heap.size + 2) (fun _ => []) (fun _ => nilV) :=
  ⟨(MapV.made w).later ((Adds.refl _).alloc o), by omega, fun _ _ => rfl, fun h c => absurd rfl c, fun h h' g n c n' c' e => by cases e⟩
theorem grown_set (w : World) (p : Addr) (u : Value) : w.grownBy (w.setCell p u) (some p.block) :=
  ⟨rfl, rfl, rfl, by simp [World.setCell], fun k _ hne => Below.heap_setCell _ _ _ _ (fun e => hne (by rw [e]))⟩

theorem CrewsAt.far {w : World} {bm n base : Nat} {C : Nat → List Nat} {F : Int → Value} (h : CrewsAt w bm n base C F) {p : Addr} (u : Value) (hb : bm ≠ p.block) (hg : ∀ j g m c, C j ≠ [] → F (j : Nat) = .slice (some ⟨g, 0, none⟩) m c → g ≠ p.block) : CrewsAt (w.setCell p u) bm n base C F :=
  ⟨h.map.same (Below.heap_setCell _ _ _ _ hb), h.low, h.empty, fun j hj => by
    obtain ⟨g, c, e1, e2, e3⟩ := h.row j hj
    exact ⟨g, c, e1, e2, e3.far (hg j g _ _ hj e1) u⟩, h.apart⟩

/-- Hours that are written. -/
def hoursT (t : Nat → Nat) (n : Nat) : List Int := (List.range n).map fun i => (t i : Int)
def EarlyGot (l : List Ld) (K : Nat) (w : World) (e : Ending) (w' : World) : Prop :=
  (∃ (c : Nat) (q : Option Addr) (t : Nat → Nat), e = .returned (.tuple #[.slice q l.length c, .int .i64 0]) ∧ (shOf l K).Full (fun _ => true) t ∧ w'.ownsRow w.heap.size 3 1 (.slice q l.length c) l.length ((hoursT t l.length).map (Value.int .i64)) ∧ Adds w w') ∨
  (e = .returned (.tuple #[nilV, .int .i64 70]) ∧ (shOf l K).Over (fun _ => true) ∧ Adds w w')

set_option maxRecDepth 100000 in
set_option maxHeartbeats 4000000 in
theorem Early_any (p : Option Addr) (cl K : Nat) (l : List Ld) (w : World) (hL : LoadsAt w p l) (hl : l.length ≤ 256) (hok : ∀ x ∈ l, okB x = true) (hsh : l.any longB = false) (hK : 1 ≤ K ∧ K ≤ 64) :
    Calls Try.prog 29 #[.slice p l.length cl, .int .i64 K] w (EarlyGot l K w) := by
  have hck := checkShort_any p cl l K w hl hL hok (by omega) false hsh
  have HCK := Lib.hid hck
  have hadd := fun (bm n base z : Nat) (W : World) (hW : Adds w W) (hz : z < l.length) (W0 : Nat → Bool) (t0 : Nat → Nat) (C0 : Nat → List Nat) (F0 : Int → Value) (hF : (shOf l K).Full W0 t0) (hR : Rep (shOf l K) W0 t0 C0) (ho : W0 z = false) (hC : CrewsAt W bm n base C0 F0) (hb : base ≤ W.heap.size) (hn : n ≤ 1000) =>
    add_rota p cl bm n base z K l W (hL.later hW) hl hok hK.1 (by omega) hz hF hR ho hC hb hn
  unfold EarlyGot
  obtain ⟨q, hq⟩ : ∃ q, q = shOf l K := ⟨_, rfl⟩
  have hqn : q.n = l.length := by rw [hq]; rfl
  have hlt : ∀ i, i < q.n → q.r i < q.d i := by rw [hq]; exact shOf_lt (fun x hx => okB_okN (hok x hx))
  have hdb : ∀ i, i < l.length → q.d i ≤ 1000000 := fun i hi => by
    obtain ⟨y, hy⟩ : ∃ y, l[i]? = some y := ⟨_, List.getElem?_eq_getElem hi⟩
    have := okB_iff.1 (hok y (List.mem_of_getElem? hy))
    have h2 := shOf_d (K := K) hy (by omega)
    rw [← hq] at h2
    omega
  simp only [← hq] at hadd ⊢
  obtain ⟨N, hN⟩ : ∃ N, N = l.length := ⟨_, rfl⟩
  rw [← hN] at hl hqn hdb HCK ⊢
  simp only [← hN] at hadd
  have HADD := Lib.hid hadd
  have HQN := Lib.hid hqn
  have HLT := Lib.hid hlt
  have HDB := Lib.hid hdb
  have hmm := @run_makeMap Try.prog
  clear hck hadd hqn hlt hdb hN hq hsh hL hok
  go_enter Try.func29, Try.ntmps29
  go_upto_region 6 with (first
    | (go_at_call 65; refine HCK.out.mono ?_; rintro e w1 ⟨rfl, hb1⟩; have HB1 := Lib.hid hb1; clear hb1)
    | go_in)
  obtain ⟨bm, hbm⟩ : ∃ b, b = w1.heap.size := ⟨_, rfl⟩
  obtain ⟨W2, hW2⟩ : ∃ V, V = (w1.alloc (.map #[] 0)).alloc (.cells #[.slice p N cl, .int .i64 (K : Int), .map (some w1.heap.size)] 114) := ⟨_, rfl⟩
  have hC2 : CrewsAt W2 bm 0 (bm + 2) (fun _ => []) (fun _ => nilV) := by rw [hW2, hbm]; exact CrewsAt.made2 _ _
  have hX2 : Box W2 (bm + 1) #[.slice p N cl, .int .i64 (K : Int), .map (some bm)] 114 := by
    rw [hW2, hbm]
    have := Box.new (w1.alloc (.map #[] 0)) #[.slice p N cl, .int .i64 (K : Int), .map (some w1.heap.size)] 114
    rw [World.size_alloc] at this
    exact this
  have hA2 : Adds w W2 := by rw [hW2]; exact (HB1.out.alloc _).alloc _
  have hs2 : W2.heap.size = bm + 2 := by rw [hW2, hbm]; simp
  rw [← hW2, ← hbm]
  have HC2 := Lib.hid hC2
  have HX2 := Lib.hid hX2
  have HA2 := Lib.hid hA2
  have hbw : w.heap.size ≤ bm := by have := HB1.out.size; omega
  have hs2' : bm + 2 ≤ W2.heap.size := by omega
  clear hC2 hX2 hA2 hW2 hbm hs2 hmm
  go_loopw [26] (fun v26 wr => ∃ (k : Nat) (t : Nat → Nat) (C : Nat → List Nat) (F : Int → Value), k ≤ N ∧ v26 = .int .i64 k ∧ Hid (q.Full (fun i => decide (i < k)) t) ∧ Hid (Rep q (fun i => decide (i < k)) t C) ∧ Hid (CrewsAt wr bm k (bm + 2) C F) ∧ Hid (Box wr (bm + 1) #[.slice p N cl, .int .i64 (K : Int), .map (some bm)] 114) ∧ Hid (Adds w wr) ∧ bm + 2 ≤ wr.heap.size) (fun v26 _ => N - (intOf v26).toNat)
  case atStart => exact ⟨0, fun _ => 0, fun _ => [], fun _ => nilV, by omega, rfl, Lib.hid ((Sh.Full.none q _).congr (fun i => by simp)), Lib.hid ((Rep.none q _).congrN (fun i _ => by simp)), HC2, HX2, HA2, hs2'⟩
  case round =>
    clear HC2 HX2 HA2 hs2'
    obtain ⟨k, t, C, F, hk, rfl, HFU, HRE, HCR, HBX, HAD, hsz⟩ := hrel
    by_cases hkn : k < N
    · have hkn2 : (k : Int) < (N : Int) := by omega
      have hput : ∀ i, i < q.n → putS (fun i => decide (i < k)) k i = decide (i < k + 1) := fun i _ => by
        by_cases e : i = k
        · subst e; simp [putS]
        · have hb2 : (i == k) = false := by simpa using e
          have : (decide (i < k)) = (decide (i < k + 1)) := by rw [decide_eq_decide]; omega
          simp [putS, hb2, this]
      have hcl := HADD.out bm k (bm + 2) k wr HAD.out hkn _ t C F HFU.out HRE.out (by simp) HCR.out hsz (by omega)
      have HPUT := Lib.hid hput
      have b0 : wr.cell? ⟨bm + 1, 0, none⟩ = some (.slice p N cl) := HBX.out.cell 0
      have b1 : wr.cell? ⟨bm + 1, 1, none⟩ = some (.int .i64 (K : Int)) := HBX.out.cell 1
      have b2 : wr.cell? ⟨bm + 1, 2, none⟩ = some (.map (some bm)) := HBX.out.cell 2
      rcases q.full_or HLT.out (putS (fun i => decide (i < k)) k) with ⟨t', hf⟩ | hov
      · have hyes := add_yes hcl hf.fit
        have HY := Lib.hid hyes
        clear hyes hcl hput hf
        go_upto_region 10 with (go_at_call 66; refine HY.out.mono ?_; rintro e w3 ⟨t3, C3, F3, rfl, h1, h2, h3, h4⟩; have HF3 := Lib.hid h1; have HR3 := Lib.hid h2; have HC3 := Lib.hid h3; have HT3 := Lib.hid h4; clear h1 h2 h3 h4)
        have hbl := HBX.out.lt
        have HX3 : Hid (Box w3 (bm + 1) #[.slice p N cl, .int .i64 (K : Int), .map (some bm)] 114) := Lib.hid (HBX.out.same (HT3.out.same _ hbl (by omega)))
        have HA3 : Hid (Adds w w3) := Lib.hid (Touch.adds HAD.out HT3.out (fun i hi => by omega))
        have hs3 : bm + 2 ≤ w3.heap.size := by have := HT3.out.size; omega
        clear b0 b1 b2
        go_wp2
        exact ⟨⟨k + 1, t3, C3, F3, by omega, by go_num, Lib.hid (HF3.out.congrN HPUT.out), Lib.hid (HR3.out.congrN HPUT.out), HC3, HX3, HA3, hs3⟩, by simp [intOf]; omega⟩
      · have hno := add_no hcl hov
        have HNO := Lib.hid hno
        have HOV : Hid (q.Over (fun _ => true)) := Lib.hid (hov.more fun i _ _ => rfl)
        clear hno hcl hput hov
        go_wp2_with (go_at_call 66; refine HNO.out.mono ?_; rintro e w3 ⟨rfl, h4⟩; have HT3 := Lib.hid h4; clear h4)
        go_ret2
        exact Or.inr ⟨rfl, HOV.out, HAD.out.trans HT3.out⟩
    · have hkk : k = N := by omega
      subst hkk
      have hkq : decide ((k : Int) < (k : Int)) = false := by simp
      have hall : ∀ i, i < q.n → decide (i < k) = true := fun i hi => by rw [HQN.out] at hi; simpa using hi
      have HF2 := Lib.hid (HFU.out.congrN (T := fun _ => true) hall)
      have HR2 := Lib.hid (HRE.out.congrN (T := fun _ => true) hall)
      obtain ⟨j0, hj, hj0, hj1, hj2⟩ := info_parts info3
      have HJ := Lib.hid hj
      have HJ0 := Lib.hid hj0
      have HJ1 := Lib.hid hj1
      have HJ2 := Lib.hid hj2
      clear hj hj0 hj1 hj2 hall HFU HRE
      go_upto_region 12 with (first
        | (refine wpList_make_full _ rfl _ _ 35 rfl wr.heap.size 3 j0 (.int .i64 0) 1 Try.underlying35 HJ.out HJ0.out HJ1.out .i64 .i64 (k : Int) (k : Int) k rfl rfl rfl rfl (by rw [HJ2.out]; omega) (by unfold maxLen; omega) (Nat.le_refl _) ?_; intro W5 ho5 hg5; have HO5 := Lib.hid ho5; have HG5 := Lib.hid hg5; clear ho5 hg5)
        | go_in)
      obtain ⟨gh, hgh⟩ : ∃ g, g = wr.heap.size := ⟨_, rfl⟩
      rw [← hgh] at HO5 ⊢
      have hrow5 : RowI 3 .i64 W5 gh k (List.replicate k 0) := by
        obtain ⟨_, hr⟩ := own_rowI (made_row HO5.out)
        rcases hr with ⟨hr, _⟩ | ⟨g1, c1, er, _, hrow⟩
        · cases hr
        · rw [List.length_replicate] at er
          simp only [Value.slice.injEq, Option.some.injEq, Addr.mk.injEq, and_true, true_and] at er
          obtain ⟨rfl, rfl⟩ := er
          exact hrow
      have hA5 : Adds wr W5 := Below.grown (Adds.refl _) HG5.out (Nat.le_refl _) (fun j hj => by cases hj)
      have HC5 := Lib.hid (HCR.out.later hA5)
      have HX5 := Lib.hid (HBX.out.later hA5)
      have HA5 := Lib.hid (HAD.out.trans hA5)
      have b2 : W5.cell? ⟨bm + 1, 2, none⟩ = some (.map (some bm)) := HX5.out.cell 2
      have hgs : bm + 2 ≤ gh := by omega
      have hgw : w.heap.size ≤ gh := by omega
      have hgh5 := hrow5.lt
      obtain ⟨D, hown, hat, hhas⟩ := HC5.out.map
      have HROW := Lib.hid hrow5
      have HOWN := Lib.hid hown
      have HATS := Lib.hid hat
      have HHAS := Lib.hid hhas
      have HGH := Lib.hid hgh
      have HCB := HCR
      clear hA5 hrow5 hown hat hhas HBX hgh HO5 HG5 hsz
      go_wp2_with (first
        | (at_range; refine wpList_range_own _ rfl _ 112 rfl 3 35 law3m und112 heldR bm k D rfl HOWN.out ?_; intro w0 hrg0 hg0 hs0)
        | go_in)
      go_frame
      obtain ⟨r, hr⟩ : ∃ r, r = W5.heap.size := ⟨_, rfl⟩
      rw [← hr] at hrg0 hs0 ⊢
      have hgr : gh < r := by rw [hr]; exact hgh5
      have hA0 : Adds W5 w0 := Below.grown (Adds.refl _) hg0 (Nat.le_refl _) (fun j hj => by cases hj)
      have HRG0 := Lib.hid hrg0
      have HA0 := Lib.hid hA0
      have hs0' : r < w0.heap.size := by omega
      clear hrg0 hg0 hs0 hA0 hr
      go_loopw [10] (fun _ wr => ∃ (left : Lit → Bool) (cnt : Nat) (H : List Int), Hid (wr.ranges Try.prog 3 heldR bm r k D left cnt) ∧ Hid (RowI 3 .i64 wr gh k H) ∧ H.length = k ∧ Hid (∀ i v, H[i]? = some v → left (.int .i64 (t i : Int)) = false → v = (t i : Int)) ∧ Hid (CrewsAt wr bm k (bm + 2) C F) ∧ Hid (Adds w wr) ∧ r < wr.heap.size) (fun _ wr => wr.rangeLeft bm r)
      case atStart => exact ⟨_, _, List.replicate k 0, HRG0, Lib.hid (HROW.out.later HA0.out), by simp, Lib.hid (fun i v hi hl => by
        exfalso
        have hik : i < k := by have := (List.getElem?_eq_some_iff.1 hi).1; simpa using this
        have hmem : i ∈ C (t i) := ((HR2.out (t i)).2 i).2 ⟨by rw [HQN.out]; exact hik, rfl, rfl⟩
        have hne : C (t i) ≠ [] := fun e => by rw [e] at hmem; simp at hmem
        obtain ⟨g1, c1, e1, _⟩ := HC5.out.row (t i) hne
        have := (HHAS.out (t i : Int)).2 (by rw [e1]; intro e; cases e)
        rw [this] at hl
        cases hl), Lib.hid (HC5.out.later HA0.out), Lib.hid (HA5.out.trans HA0.out), hs0'⟩
      case round => as_aux_lemma =>
        obtain ⟨left, cnt, H, HRG, HRW, hHl, HDN, HCW, HAW, hrl⟩ := hrel
        have hrg := HRG.out
        go_wp2_with (first
          | (at_next; refine wpList_next_ranges _ rfl _ rfl 3 law3m heldR (Value.int .i64) id (fun key kl hk => by obtain ⟨x, hx, _⟩ := Maps.keyOf_i64 Try.underlying3 hk; exact ⟨x, hx⟩) (fun v _ _ => ⟨v, rfl⟩) bm r k _ _ _ rfl hrg ?_ ?_)
          | go_in)
        · intro hc0 hl0
          have HL0 := Lib.hid hl0
          clear hl0 hrg
          go_wp2
          go_ret2
          refine Or.inl ⟨k, some ⟨gh, 0, none⟩, t, rfl, HF2.out, ?_, HAW.out⟩
          have hH : H = hoursT t k := by
            refine List.ext_getElem? fun i => ?_
            by_cases hik : i < k
            · obtain ⟨v, hv⟩ : ∃ v, H[i]? = some v := ⟨_, List.getElem?_eq_getElem (by omega)⟩
              rw [hv, HDN.out i v hv (HL0.out _)]
              unfold hoursT
              rw [List.getElem?_map, List.getElem?_range hik]
              rfl
            · rw [List.getElem?_eq_none (by omega), List.getElem?_eq_none (by unfold hoursT; simp; omega)]
          have := HRW.out.own (base := w.heap.size) hgw
          rw [hHl, hH] at this
          exact this
        · intro x c kl yd yp w2 cnt2 hkey hlk hv hat hrg2 hltc hg2 hs2 hen
          obtain ⟨x', ex, rfl, hwfx⟩ := Maps.keyOf_i64 Try.underlying3 hkey
          obtain rfl : x = x' := encZ_inj ex
          have hcF : c = F x := by
            have h1 := hat (.held nilV)
            rw [HATS.out] at h1
            simp only [heldR, Option.some.injEq, Prod.mk.injEq] at hv
            rw [← hv.1] at h1
            exact (DataW.held.inj h1).symm
          have hFn : F x ≠ nilV := fun e => by
            have h2 : Maps.has D (.int .i64 x) = true := has_true_of_atKey hat
            exact (HHAS.out x).1 h2 e
          obtain ⟨h, hxh, hne⟩ : ∃ h : Nat, x = h ∧ C h ≠ [] := by
            apply Classical.byContradiction
            intro hno
            exact hFn (HCW.out.empty x fun h e => Classical.byContradiction fun e2 => hno ⟨h, e, e2⟩)
          subst hxh
          obtain ⟨gc, cc, e1, e2, e3⟩ := HCW.out.row h hne
          rw [hcF, e1] at hen ⊢
          obtain ⟨m, hm⟩ : ∃ m, m = (C h).length := ⟨_, rfl⟩
          rw [← hm] at hen ⊢
          have e1' := Lib.hid e1
          have hm256 : m ≤ 256 := by
            have e5 : m ≤ q.n := by rw [hm, HR2.out.len h]; exact cntN_bd _ _
            have := HQN.out
            omega
          have hA2 : ∀ b, b ≠ r → b < wr.heap.size → w2.heap[b]? = wr.heap[b]? := fun b hb hb2 => hg2.block b hb2 (by simpa using hb)
          have hgcb := e3.lt
          have hrw2 := HRW.out.same (hA2 gh (by omega) HRW.out.lt)
          have hcne : gc ≠ r := fun e => by
            subst e
            obtain ⟨cur, q1, _⟩ := e3
            obtain ⟨_, _, _, seen, c0, _, _, _, _, q2, _⟩ := hrg
            rw [q1] at q2
            cases q2
          have hrowc := e3.same (hA2 gc hcne hgcb)
          have hgcg : gc ≠ gh := fun e => by
            have h5 := (HC5.out.row h hne)
            obtain ⟨g5, c5, r1, r2, r3⟩ := (HCB.out.row h hne)
            rw [e1] at r1
            simp only [Value.slice.injEq, Option.some.injEq, Addr.mk.injEq, and_true] at r1
            have := r3.lt
            have := HGH.out
            omega
          have hCW2 : CrewsAt w2 bm k (bm + 2) C F := by
            refine ⟨HCW.out.map.same (hA2 bm (by omega) HCW.out.map.lt), HCW.out.low, HCW.out.empty, fun j hj => ?_, HCW.out.apart⟩
            obtain ⟨g1, c1, r1, r2, r3⟩ := HCW.out.row j hj
            refine ⟨g1, c1, r1, r2, r3.same (hA2 g1 (fun e => ?_) r3.lt)⟩
            subst e
            obtain ⟨cur, q1, _⟩ := r3
            obtain ⟨_, _, _, seen, c0, _, _, _, _, q2, _⟩ := hrg
            rw [q1] at q2
            cases q2
          have hAw2 : Adds w w2 := Below.grown HAW.out hg2 HAW.out.size (fun j hj => by cases hj; omega)
          have HRG2 := Lib.hid hrg2
          have HRW2 := Lib.hid hrw2
          have HRC2 := Lib.hid hrowc
          have HCW2 := Lib.hid hCW2
          have HAW2 := Lib.hid hAw2
          have HM := Lib.hid hm
          have HLT2 := Lib.hid hltc
          have hrl2 : r < w2.heap.size := by omega
          have HRL := Lib.hid (hrg.left_eq)
          clear hrg2 hrw2 hrowc hCW2 hAw2 hm hltc hkey hlk hv hat hcF hFn hne e1 e3 hs2 hg2 hA2 HRW HCW HAW hrl hrg HRG hgcb ex
          go_upto_region 16 with fail
          go_loopw [47] (fun v47 wr => ∃ (j : Nat) (H2 : List Int), j ≤ m ∧ v47 = .int .i64 j ∧ Hid (wr.ranges Try.prog 3 heldR bm r k D (fun z => left z && !z.sameKey (.int .i64 (h : Int))) cnt2) ∧ Hid (RowI 3 .i64 wr gh k H2) ∧ H2.length = k ∧ Hid (∀ i v, H2[i]? = some v → (left (.int .i64 (t i : Int)) = false → t i ≠ h → v = (t i : Int)) ∧ (i ∈ (C h).take j → v = (t i : Int))) ∧ Hid (CrewsAt wr bm k (bm + 2) C F) ∧ Hid (Adds w wr) ∧ r < wr.heap.size) (fun v47 _ => m - (intOf v47).toNat)
          case atStart => exact ⟨0, H, by omega, rfl, HRG2, HRW2, hHl, Lib.hid (fun i v hi => ⟨fun h1 _ => HDN.out i v hi h1, fun hm => by simp at hm⟩), HCW2, HAW2, hrl2⟩
          case round => as_aux_lemma =>
            clear HRG2 HRW2 HCW2 HAW2 hrl2 HDN HRC2
            obtain ⟨j, H2, hjm, rfl, HRGJ, HRWJ, hH2, HDJ, HCWJ, HAWJ, hrlj⟩ := hrel
            by_cases hlt : j < m
            · have hlt2 : (j : Int) < (m : Int) := by omega
              obtain ⟨i0, hi0⟩ : ∃ i0, (C h)[j]? = some i0 := ⟨_, List.getElem?_eq_getElem (by have := HM.out; omega)⟩
              obtain ⟨i1, _, i3⟩ := HR2.out.get hi0
              rw [HQN.out] at i1
              have i12 : (i0 : Int) < (k : Int) := by omega
              have hne : C h ≠ [] := fun e => by rw [e] at hi0; simp at hi0
              obtain ⟨g1, c1, r1, r2, r3⟩ := HCWJ.out.row h hne
              rw [e1'.out] at r1
              simp only [Value.slice.injEq, Option.some.injEq, Addr.mk.injEq, and_true] at r1
              obtain ⟨rfl, -, rfl⟩ := r1
              have kc : wr.cell? ⟨gc, j, none⟩ = some (.int .i64 (i0 : Int)) := r3.cell (numsI_get hi0)
              obtain ⟨v0, hv0⟩ : ∃ v0, H2[i0]? = some v0 := ⟨_, List.getElem?_eq_getElem (by omega)⟩
              have kh : wr.cell? ⟨gh, i0, none⟩ = some (.int .i64 v0) := HRWJ.out.cell hv0
              have kf : wr.frozen? ⟨gh, i0, none⟩ = false := HRWJ.out.free i0
              have HI0 := Lib.hid hi0
              have HI3 := Lib.hid i3
              clear hi0 i3 hne r3 hv0 r2
              go_wp2
              refine ⟨⟨j + 1, H2.set i0 (h : Int), by omega, by go_num, Lib.hid (HRGJ.out.kept (grown_set _ ⟨gh, i0, none⟩ _) (by simp; omega) (by simp; omega)), Lib.hid (HRWJ.out.put i0 (h : Int)), by rw [List.length_set]; exact hH2, Lib.hid (fun i v hi => ?_), Lib.hid (HCWJ.out.far _ (by simp; omega) (fun j2 g2 m2 c2 hj2 hf2 => ?_)), Lib.hid (HAWJ.out.set (p := ⟨gh, i0, none⟩) hgw _), by simp [World.setCell]; exact hrlj⟩, by simp [intOf]; omega⟩
              · by_cases e : i = i0
                · subst e
                  have hv : v = (h : Int) := by
                    have hl := (List.getElem?_eq_some_iff.1 hi).1
                    rw [List.length_set] at hl
                    rw [List.getElem?_set_self hl] at hi
                    exact (Option.some.inj hi).symm
                  rw [hv, HI3.out]
                  exact ⟨fun _ hn => absurd rfl hn, fun _ => rfl⟩
                · rw [List.getElem?_set_ne (fun h => e h.symm)] at hi
                  obtain ⟨d1, d2⟩ := HDJ.out i v hi
                  refine ⟨d1, fun hm2 => ?_⟩
                  obtain ⟨a1, a2⟩ := List.getElem?_eq_some_iff.1 HI0.out
                  rw [List.take_succ_eq_append_getElem a1, a2] at hm2
                  rcases List.mem_append.1 hm2 with h5 | h5
                  · exact d2 h5
                  · exact absurd (by simpa using h5) e
              · obtain ⟨g5, c5, q1, q2, q3⟩ := HCB.out.row j2 hj2
                rw [hf2] at q1
                simp only [Value.slice.injEq, Option.some.injEq, Addr.mk.injEq, and_true] at q1
                have := q3.lt
                have := HGH.out
                show g2 ≠ gh
                omega
            · have hjj : j = m := by omega
              subst hjj
              have hkq2 : decide ((j : Int) < (j : Int)) = false := by simp
              go_wp2
              refine ⟨⟨_, cnt2, H2, HRGJ, HRWJ, hH2, Lib.hid (fun i v hi hl => ?_), HCWJ, HAWJ, hrlj⟩, ?_⟩
              · obtain ⟨d1, d2⟩ := HDJ.out i v hi
                by_cases e : t i = h
                · refine d2 ?_
                  rw [List.take_of_length_le (by have := HM.out; omega)]
                  exact ((HR2.out h).2 i).2 ⟨by have := (List.getElem?_eq_some_iff.1 hi).1; have := HQN.out; omega, rfl, e⟩
                · refine d1 ?_ e
                  have hsk : (Lit.int .i64 (t i : Int)).sameKey (.int .i64 (h : Int)) = false := sameKey_ne (fun x => by cases x; exact e rfl)
                  simpa [hsk] using hl
              · have h1 := HRGJ.out.left_eq
                have h2 := HRL.out
                have h3 := HLT2.out
                rw [h1, h2]
                exact h3
end Go.Proofs.Ytkofnhimgegcnaa

namespace Go.Proofs.Ytkofnhimgegcnaa
open Go Go.RowKit Go.Sort Go.Maps

/-- A set as a slice of the call's own. -/
def BoolsAt (w : World) (ps : Option Addr) (n : Nat) (S : Nat → Bool) : Prop := ∀ i, i < n → ∃ g, ps = some ⟨g, 0, none⟩ ∧ w.cell? ⟨g, i, none⟩ = some (.bool (S i))
theorem BoolsAt.later {w w' : World} {ps : Option Addr} {n : Nat} {S : Nat → Bool} (h : BoolsAt w ps n S) (ha : Adds w w') : BoolsAt w' ps n S := fun i hi => by
  obtain ⟨g, e, c⟩ := h i hi
  exact ⟨g, e, keep_cell ha c⟩
/-- The hours of those that are done, -1 for the others. -/
def outT (dn : Nat → Bool) (t : Nat → Nat) (n : Nat) : List Int := (List.range n).map fun i => if dn i = true then (t i : Int) else -1
theorem outT_len (dn : Nat → Bool) (t : Nat → Nat) (n : Nat) : (outT dn t n).length = n := by simp [outT]
theorem outT_get {dn : Nat → Bool} {t : Nat → Nat} {n i : Nat} (h : i < n) : (outT dn t n)[i]? = some (if dn i = true then (t i : Int) else -1) := by
  unfold outT
  rw [List.getElem?_map, List.getElem?_range h]
  rfl
theorem outT_put (dn : Nat → Bool) (t : Nat → Nat) {n b : Nat} (h : Nat) (hb : b < n) : (outT dn t n).set b (h : Int) = outT (putS dn b) (setT t b h) n := by
  refine List.ext_getElem? fun i => ?_
  by_cases hi : i < n
  · rw [outT_get hi]
    by_cases e : i = b
    · subst e
      rw [List.getElem?_set_self (by rw [outT_len]; exact hi)]
      simp [putS, setT]
    · rw [List.getElem?_set_ne (fun h => e h.symm), outT_get hi]
      have hb2 : (i == b) = false := by simpa using e
      simp [putS, setT, e, hb2]
  · rw [List.getElem?_eq_none (by rw [List.length_set, outT_len]; omega), List.getElem?_eq_none (by rw [outT_len]; omega)]
theorem outT_none (t : Nat → Nat) (n : Nat) : outT (fun _ => false) t n = List.replicate n (-1) := by
  refine List.ext_getElem? fun i => ?_
  by_cases hi : i < n
  · rw [outT_get hi, List.getElem?_replicate, if_pos hi]
    simp
  · rw [List.getElem?_eq_none (by rw [outT_len]; omega), List.getElem?_eq_none (by simp; omega)]
theorem outT_congr {dn S : Nat → Bool} (t : Nat → Nat) {n : Nat} (h : ∀ i, i < n → dn i = S i) : outT dn t n = outT S t n := by
  refine List.ext_getElem? fun i => ?_
  by_cases hi : i < n
  · rw [outT_get hi, outT_get hi, h i hi]
  · rw [List.getElem?_eq_none (by rw [outT_len]; omega), List.getElem?_eq_none (by rw [outT_len]; omega)]
theorem mix_set (k m : Nat) : (List.replicate k (-1 : Int) ++ List.replicate (m + 1) 0).set k (-1) = List.replicate (k + 1) (-1) ++ List.replicate m 0 := by
  rw [List.set_append_right _ _ (by simp), List.length_replicate, Nat.sub_self, List.replicate_succ, List.set_cons_zero, List.replicate_succ', List.append_assoc]
  rfl

/-- How many are still to come. -/
def leftN (n : Nat) (S dn : Nat → Bool) : Nat := cntN n (fun i => S i && !dn i)
theorem leftN_some {n : Nat} {S dn : Nat → Bool} (h : 0 < leftN n S dn) : ∃ i, i < n ∧ S i = true ∧ dn i = false := by
  apply Classical.byContradiction
  intro hno
  have : leftN n S dn = 0 := cntN_none fun i hi => by
    cases hS : S i with
    | false => rfl
    | true =>
      cases hd : dn i with
      | true => rfl
      | false => exact absurd ⟨i, hi, hS, hd⟩ hno
  omega
theorem leftN_put {n : Nat} {S dn : Nat → Bool} {b : Nat} (hb : b < n) (hS : S b = true) (hd : dn b = false) : leftN n S dn = leftN n S (putS dn b) + 1 :=
  cntN_put hb (fun i _ hne => by
    have hb2 : (i == b) = false := by simpa using hne
    simp [putS, hb2]) (by simp [putS]) (by simp [hS, hd])
theorem leftN_zero {n : Nat} {S dn : Nat → Bool} (h : leftN n S dn = 0) : ∀ i, i < n → S i = true → dn i = true := fun i hi hS => by
  cases hd : dn i with
  | true => rfl
  | false =>
    have := leftN_put hi hS hd
    omega
theorem Sh.Part.skip2 {q : Sh} {S dn : Nat → Bool} {t : Nat → Nat} {H H' : Nat} (a : q.Part S H dn t) (hH : H ≤ H') (hn : ∀ i, i < q.n → S i = true → dn i = false → H' ≤ max H (q.r i)) : q.Part S H' dn t := by
  by_cases e : H' = H
  · subst e; exact a
  · exact a.skip hH fun i hi hS hd => by have := hn i hi hS hd; omega

/-- The next hour in which a load can come, of the first k. -/
def NextOf (q : Sh) (S dn : Nat → Bool) (H k x : Nat) : Prop := (∀ i, i < k → S i = true → dn i = false → x ≤ max H (q.r i)) ∧ (x = 1000000 ∨ ∃ i, i < k ∧ S i = true ∧ dn i = false ∧ x = max H (q.r i)) ∧ x ≤ 1000000
theorem NextOf.keep {q : Sh} {S dn : Nat → Bool} {H k x : Nat} (a : NextOf q S dn H k x) (h : ¬ (S k = true ∧ dn k = false)) : NextOf q S dn H (k + 1) x := by
  obtain ⟨a1, a2, a3⟩ := a
  refine ⟨fun i hi hS hd => ?_, ?_, a3⟩
  · by_cases e : i = k
    · subst e; exact absurd ⟨hS, hd⟩ h
    · exact a1 i (by omega) hS hd
  · rcases a2 with e | ⟨i, i1, i2, i3, i4⟩
    · exact .inl e
    · exact .inr ⟨i, by omega, i2, i3, i4⟩
theorem NextOf.turn {q : Sh} {S dn : Nat → Bool} {H k x : Nat} (a : NextOf q S dn H k x) (hS : S k = true) (hd : dn k = false) : NextOf q S dn H (k + 1) (min x (max H (q.r k))) := by
  obtain ⟨a1, a2, a3⟩ := a
  refine ⟨fun i hi hS hd => ?_, ?_, by omega⟩
  · by_cases e : i = k
    · subst e; omega
    · have := a1 i (by omega) hS hd; omega
  · by_cases c : x ≤ max H (q.r k)
    · rw [Nat.min_eq_left c]
      rcases a2 with e | ⟨i, i1, i2, i3, i4⟩
      · exact .inl e
      · exact .inr ⟨i, by omega, i2, i3, i4⟩
    · exact .inr ⟨k, by omega, hS, hd, by omega⟩

/-- The load that is dried next, of the first k that can be; -1 if there is none. -/
def BestOf (q : Sh) (S dn : Nat → Bool) (H k : Nat) (x : Int) : Prop :=
  (x = -1 ∧ ∀ i, i < k → S i = true → dn i = false → H < q.r i) ∨ ∃ b : Nat, x = b ∧ b < k ∧ S b = true ∧ dn b = false ∧ q.r b ≤ H ∧ ∀ i, i < k → S i = true → dn i = false → q.r i ≤ H → i ≠ b → q.lt b i
theorem BestOf.keep {q : Sh} {S dn : Nat → Bool} {H k : Nat} {x : Int} (a : BestOf q S dn H k x) (h : ¬ (S k = true ∧ dn k = false ∧ q.r k ≤ H) ∨ ∃ b : Nat, x = b ∧ q.lt b k) : BestOf q S dn H (k + 1) x := by
  rcases a with ⟨rfl, a⟩ | ⟨b, rfl, b1, b2, b3, b4, b5⟩
  · refine .inl ⟨rfl, fun i hi hS hd => ?_⟩
    by_cases e : i = k
    · subst e
      rcases h with h | ⟨b, hb, _⟩
      · by_cases c : q.r i ≤ H
        · exact absurd ⟨hS, hd, c⟩ h
        · omega
      · omega
    · exact a i (by omega) hS hd
  · refine .inr ⟨b, rfl, by omega, b2, b3, b4, fun i hi hS hd hr hne => ?_⟩
    by_cases e : i = k
    · subst e
      rcases h with h | ⟨b', hb, hlt⟩
      · exact absurd ⟨hS, hd, hr⟩ h
      · have : b = b' := by omega
        subst this
        exact hlt
    · exact b5 i (by omega) hS hd hr hne
theorem BestOf.turn {q : Sh} {S dn : Nat → Bool} {H k : Nat} {x : Int} (a : BestOf q S dn H k x) (hS : S k = true) (hd : dn k = false) (hr : q.r k ≤ H) (h : x = -1 ∨ ∃ b : Nat, x = b ∧ q.lt k b) : BestOf q S dn H (k + 1) k := by
  refine .inr ⟨k, rfl, by omega, hS, hd, hr, fun i hi hSi hdi hri hne => ?_⟩
  rcases a with ⟨rfl, a⟩ | ⟨b, rfl, b1, b2, b3, b4, b5⟩
  · have := a i (by omega) hSi hdi; omega
  · rcases h with h | ⟨b', hb, hlt⟩
    · omega
    · have : b = b' := by omega
      subst this
      by_cases e : i = b
      · rw [e]; exact hlt
      · exact Sh.lt_trans hlt (b5 i (by omega) hSi hdi hri e)

def REarlyGot (l : List Ld) (K : Nat) (S : Nat → Bool) (w : World) (e : Ending) (w' : World) : Prop :=
  (∃ (c : Nat) (q : Option Addr) (t : Nat → Nat), e = .returned (.tuple #[.slice q l.length c, .bool true]) ∧ (shOf l K).Full S t ∧ w'.ownsRow w.heap.size 3 1 (.slice q l.length c) l.length ((outT S t l.length).map (Value.int .i64)) ∧ Adds w w') ∨
  (e = .returned (.tuple #[nilV, .bool false]) ∧ (shOf l K).Over S ∧ Adds w w')

set_option maxRecDepth 100000 in
set_option maxHeartbeats 4000000 in
theorem REarly_any (p ps : Option Addr) (cl cs K : Nat) (l : List Ld) (S : Nat → Bool) (w : World) (hL : LoadsAt w p l) (hS : BoolsAt w ps l.length S) (hl : l.length ≤ 256) (hok : ∀ x ∈ l, okB x = true) (hK : 1 ≤ K ∧ K ≤ 64) :
    Calls Try.prog 31 #[.slice p l.length cl, .int .i64 K, .slice ps l.length cs] w (REarlyGot l K S w) := by
  unfold REarlyGot
  obtain ⟨q, hq⟩ : ∃ q, q = shOf l K := ⟨_, rfl⟩
  have hqn : q.n = l.length := by rw [hq]; rfl
  have hqK : q.K = K := by rw [hq]; rfl
  have hlt : ∀ i, i < q.n → q.r i < q.d i := by rw [hq]; exact shOf_lt (fun x hx => okB_okN (hok x hx))
  have hcells : ∀ (W : World), Adds w W → ∀ i, i < l.length → ∃ g off, p = some ⟨g, off, none⟩ ∧ W.cell? ⟨g, off + i * 4, none⟩ = some (.int .i64 (q.r i : Int)) ∧ W.cell? ⟨g, off + i * 4 + 1, none⟩ = some (.int .i64 (q.d i : Int)) ∧ q.r i ≤ 1000000 ∧ q.d i ≤ 1000000 := fun W hW i hi => by
    obtain ⟨y, hy⟩ : ∃ y, l[i]? = some y := ⟨_, List.getElem?_eq_getElem hi⟩
    have hb := okB_iff.1 (hok y (List.mem_of_getElem? hy))
    have h1 := shOf_r (K := K) hy hb.1
    have h2 := shOf_d (K := K) hy (by omega)
    rw [← hq] at h1 h2
    obtain ⟨g, off, e, c0, c1, -, -⟩ := (hL.later hW) i y hy
    exact ⟨g, off, e, by rw [h1]; exact c0, by rw [h2]; exact c1, by omega, by omega⟩
  simp only [← hq]
  obtain ⟨N, hN⟩ : ∃ N, N = l.length := ⟨_, rfl⟩
  rw [← hN] at hl hqn hS ⊢
  simp only [← hN] at hcells
  have HCE := Lib.hid hcells
  have HQN := Lib.hid hqn
  have HQK := Lib.hid hqK
  have HLT := Lib.hid hlt
  have HS := Lib.hid hS
  obtain ⟨j0, hj, hj0, hj1, hj2⟩ := info_parts info3
  have HJ := Lib.hid hj
  have HJ0 := Lib.hid hj0
  have HJ1 := Lib.hid hj1
  have HJ2 := Lib.hid hj2
  obtain ⟨hK1, hK2⟩ := hK
  clear hcells hqn hqK hlt hN hq hok hL hS hj hj0 hj1 hj2
  go_enter Try.func31, Try.ntmps31
  go_upto_region 4 with (first
    | (refine wpList_make_full _ rfl _ _ 35 rfl w.heap.size 3 j0 (.int .i64 0) 1 Try.underlying35 HJ.out HJ0.out HJ1.out .i64 .i64 (N : Int) (N : Int) N rfl rfl rfl rfl (by rw [HJ2.out]; omega) (by unfold maxLen; omega) (Nat.le_refl _) ?_; intro W1 ho1 hg1; have HO1 := Lib.hid ho1; have HG1 := Lib.hid hg1; clear ho1 hg1)
    | go_in)
  obtain ⟨go, hgo⟩ : ∃ g, g = w.heap.size := ⟨_, rfl⟩
  rw [← hgo] at HO1 ⊢
  have hrow1 : RowI 3 .i64 W1 go N (List.replicate 0 (-1) ++ List.replicate (N - 0) 0) := by
    obtain ⟨_, hr⟩ := own_rowI (made_row HO1.out)
    rcases hr with ⟨hr, _⟩ | ⟨g1, c1, er, _, hrow⟩
    · cases hr
    · rw [List.length_replicate] at er
      simp only [Value.slice.injEq, Option.some.injEq, Addr.mk.injEq, and_true, true_and] at er
      obtain ⟨rfl, rfl⟩ := er
      simpa using hrow
  have HA1 : Hid (Adds w W1) := Lib.hid (Below.grown (Adds.refl _) HG1.out (Nat.le_refl _) (fun j hj => by cases hj))
  have HR1 := Lib.hid hrow1
  have hgw : w.heap.size ≤ go := by omega
  clear hrow1 hgo HO1 HG1
  go_loopw [9, 10] (fun v9 v10 wr => ∃ k : Nat, k ≤ N ∧ v10 = .int .i64 k ∧ v9 = .int .i64 (cntN k S) ∧ Hid (RowI 3 .i64 wr go N (List.replicate k (-1) ++ List.replicate (N - k) 0)) ∧ Hid (Adds w wr)) (fun _ v10 _ => N - (intOf v10).toNat)
  case atStart => exact ⟨0, by omega, rfl, rfl, HR1, HA1⟩
  case round => as_aux_lemma =>
    clear HR1 HA1
    obtain ⟨k, hk, rfl, rfl, HR, HAD⟩ := hrel
    have hcb := cntN_bd S k
    have HCS : Hid (cntN (k + 1) S = cntN k S + if S k = true then 1 else 0) := Lib.hid rfl
    obtain ⟨c, hc⟩ : ∃ c, c = cntN k S := ⟨_, rfl⟩
    rw [← hc] at hcb HCS ⊢
    have HC := Lib.hid hc
    clear hc
    by_cases hkn : k < N
    · have hkn2 : (k : Int) < (N : Int) := by omega
      have hk0 : (0 : Int) ≤ (k : Int) := by omega
      obtain ⟨gs, rfl, cs0⟩ := HS.out.later HAD.out k hkn
      obtain ⟨m, hm⟩ : ∃ m, N - k = m + 1 := ⟨N - k - 1, by omega⟩
      rw [hm] at HR
      have kh : wr.cell? ⟨go, k, none⟩ = some (.int .i64 0) := HR.out.cell (by rw [List.getElem?_append_right (by simp), List.length_replicate, Nat.sub_self, List.replicate_succ]; rfl)
      have kf : wr.frozen? ⟨go, k, none⟩ = false := HR.out.free k
      have hsg : gs ≠ go := fun e => by
        subst e
        obtain ⟨_, e2, c2⟩ := HS.out k hkn
        cases e2
        have := cell_lt c2
        omega
      have HMM := Lib.hid hm
      clear hm
      cases hSk : S k with
      | true =>
        rw [hSk] at cs0 HCS
        have HSK := Lib.hid hSk
        clear hSk
        go_wp2
        refine ⟨⟨k + 1, by omega, by go_num, by rw [HCS.out]; go_num, Lib.hid ?_, Lib.hid (HAD.out.set (p := ⟨go, k, none⟩) hgw _)⟩, by simp [intOf]; omega⟩
        have := HR.out.put k (-1)
        rw [mix_set] at this
        rw [show N - (k + 1) = m by have := HMM.out; omega]
        exact this
      | false =>
        rw [hSk] at cs0 HCS
        have HSK := Lib.hid hSk
        clear hSk
        go_wp2
        refine ⟨⟨k + 1, by omega, by go_num, by rw [HCS.out]; rfl, Lib.hid ?_, Lib.hid (HAD.out.set (p := ⟨go, k, none⟩) hgw _)⟩, by simp [intOf]; omega⟩
        have := HR.out.put k (-1)
        rw [mix_set] at this
        rw [show N - (k + 1) = m by have := HMM.out; omega]
        exact this
    · have hkk : k = N := by omega
      subst hkk
      have hkq : decide ((k : Int) < (k : Int)) = false := by simp
      have hR0 : RowI 3 .i64 wr go k (outT (fun _ => false) (fun _ => 0) k) := by
        rw [outT_none]
        have := HR.out
        rw [Nat.sub_self, List.replicate_zero, List.append_nil] at this
        exact this
      have hcl : c = leftN k S (fun _ => false) := by rw [HC.out]; exact cntN_congr (fun i _ => by simp)
      have HR0 := Lib.hid hR0
      have HCL := Lib.hid hcl
      have hc256 : c ≤ 256 := by omega
      clear hR0 hcl HR HCS HC hcb
      go_upto_region 10 with fail
      go_loopw [9, 11] (fun v9 v11 wr => ∃ (c h : Nat) (dn : Nat → Bool) (t : Nat → Nat), v9 = .int .i64 c ∧ v11 = .int .i64 h ∧ h ≤ 1000000 ∧ c ≤ 256 ∧ Hid (c = leftN k S dn) ∧ Hid (q.Part S h dn t) ∧ Hid (RowI 3 .i64 wr go k (outT dn t k)) ∧ Hid (Adds w wr)) (fun v9 _ _ => (intOf v9).toNat)
      case atStart => exact ⟨c, 0, fun _ => false, fun _ => 0, rfl, rfl, by omega, hc256, HCL, Lib.hid (Sh.Part.start q S _), HR0, HAD⟩
      case round => as_aux_lemma =>
        clear HCL HR0 HAD hc256
        obtain ⟨c, h, dn, t, rfl, rfl, hh, hc256, HCL, HPT, HR, HAD⟩ := hrel
        by_cases hc0 : 0 < c
        · have hcq : decide (0 < c) = true := decide_eq_true hc0
          have hcq2 : decide ((0 : Int) < (c : Int)) = true := decide_eq_true (by omega)
          go_upto_region 13 with fail
          go_loop [12, 13] (fun v12 v13 => ∃ j x : Nat, j ≤ k ∧ v13 = .int .i64 j ∧ v12 = .int .i64 x ∧ Hid (NextOf q S dn h j x)) (fun _ v13 => k - (intOf v13).toNat)
          case atStart => exact ⟨0, 1000000, by omega, rfl, rfl, Lib.hid ⟨fun i hi => by omega, .inl rfl, by omega⟩⟩
          case round => as_aux_lemma =>
            obtain ⟨j, x, hj, rfl, rfl, HNX⟩ := hrel
            by_cases hjk : j < k
            · have hjk2 : (j : Int) < (k : Int) := by omega
              have hj0 : (0 : Int) ≤ (j : Int) := by omega
              obtain ⟨gs, eps, cs0⟩ := HS.out.later HAD.out j hjk
              subst eps
              obtain ⟨g, off, ep, r0, d0, hrb, hdb⟩ := HCE.out wr HAD.out j hjk
              subst ep
              have ko := HR.out.cell (outT_get (dn := dn) (t := t) hjk)
              have hx6 : x ≤ 1000000 := HNX.out.2.2
              obtain ⟨rj, hrj⟩ : ∃ r, r = q.r j := ⟨_, rfl⟩
              rw [← hrj] at r0 hrb
              have HRJ := Lib.hid hrj
              clear hrj d0 hdb
              cases hSk : S j with
              | false =>
                rw [hSk] at cs0
                have HSK := Lib.hid hSk
                clear hSk
                go_wp2
                go_round
                case rel => exact ⟨j + 1, x, by omega, by go_num, rfl, Lib.hid (HNX.out.keep (fun e => by have := HSK.out; rw [e.1] at this; cases this))⟩
                case measure => simp [intOf]; omega
              | true =>
                rw [hSk] at cs0
                have HSK := Lib.hid hSk
                clear hSk
                cases hdk : dn j with
                | true =>
                  rw [hdk, if_pos rfl] at ko
                  have HDK := Lib.hid hdk
                  have htq : decide ((t j : Int) < 0) = false := decide_eq_false (by omega)
                  clear hdk
                  go_wp2
                  go_round
                  case rel => exact ⟨j + 1, x, by omega, by go_num, rfl, Lib.hid (HNX.out.keep (fun e => by have := HDK.out; rw [e.2] at this; cases this))⟩
                  case measure => simp [intOf]; omega
                | false =>
                  rw [hdk, if_neg (by simp)] at ko
                  have HDK := Lib.hid hdk
                  obtain ⟨u, hu⟩ : ∃ u : Nat, u = max h rj := ⟨_, rfl⟩
                  obtain ⟨y, hy⟩ : ∃ y : Nat, y = min x u := ⟨_, rfl⟩
                  have hu' : max (h : Int) (rj : Int) = (u : Int) := by omega
                  have hy' : min (x : Int) (u : Int) = (y : Int) := by omega
                  have HYY : Hid (y = min x (max h (q.r j))) := Lib.hid (by rw [hy, hu, HRJ.out])
                  clear hdk hu hy
                  go_wp2
                  go_round
                  case rel => exact ⟨j + 1, y, by omega, by go_num, rfl, Lib.hid (by rw [HYY.out]; exact HNX.out.turn HSK.out HDK.out)⟩
                  case measure => simp [intOf]; omega
            · have hjj : j = k := by omega
              subst hjj
              have hkq3 : decide ((j : Int) < (j : Int)) = false := by simp
              obtain ⟨n1, n2, n3⟩ := HNX.out
              obtain ⟨u0, u1, u2, u3⟩ := leftN_some (show 0 < leftN j S dn by rw [← HCL.out]; exact hc0)
              have hhx : h ≤ x := by
                rcases n2 with e | ⟨i, _, _, _, e⟩
                · omega
                · omega
              have hex : ∃ i, i < j ∧ S i = true ∧ dn i = false ∧ q.r i ≤ x := by
                rcases n2 with e | ⟨i, i1, i2, i3, e⟩
                · obtain ⟨_, _, _, _, _, hrb, _⟩ := HCE.out wr HAD.out u0 u1
                  exact ⟨u0, u1, u2, u3, by omega⟩
                · exact ⟨i, i1, i2, i3, by omega⟩
              have HPT2 := Lib.hid (HPT.out.skip2 hhx (fun i hi hSi hdi => n1 i (by rw [← HQN.out]; exact hi) hSi hdi))
              have HEX := Lib.hid hex
              clear n1 n2 u1 u2 u3 u0 hhx hex HNX HPT
              go_upto_region 19 with fail
              have HPK := Lib.hid (HPT2.out.pick)
              clear HPT2
              go_loopw [9, 14] (fun v9 v14 wr => ∃ (i c2 : Nat) (dn : Nat → Bool) (t : Nat → Nat), i ≤ K ∧ v14 = .int .i64 i ∧ v9 = .int .i64 c2 ∧ c2 + i = c ∧ Hid (c2 = leftN j S dn) ∧ Hid (q.Pick S x dn t i) ∧ Hid (i = 0 → ∃ a, a < j ∧ S a = true ∧ dn a = false ∧ q.r a ≤ x) ∧ (0 < i → x < 1000000) ∧ Hid (RowI 3 .i64 wr go j (outT dn t j)) ∧ Hid (Adds w wr)) (fun _ v14 _ => K - (intOf v14).toNat)
              case atStart => exact ⟨0, c, dn, t, by omega, rfl, rfl, by omega, HCL, HPK, Lib.hid (fun _ => HEX.out), by omega, HR, HAD⟩
              case round => as_aux_lemma =>
                clear HPK HCL HEX HR HAD hkq3 hcq hcq2
                obtain ⟨i, c2, dn, t, hi, rfl, rfl, hcc, HCL, HPK, HEX, hx1, HR, HAD⟩ := hrel
                have HEND : Hid (0 < i → (i = K ∨ ∀ a, a < q.n → S a = true → dn a = false → x < q.r a) → q.Part S (x + 1) dn t) := Lib.hid (fun _ he => HPK.out.part (by rw [HQK.out]; exact hi) (by rw [HQK.out]; exact he))
                by_cases hiK : i < K
                · have hiK2 : (i : Int) < (K : Int) := by omega
                  go_upto_region 23 with fail
                  go_loopw [15, 16] (fun v15 v16 wr => ∃ (a : Nat) (b : Int), a ≤ j ∧ v16 = .int .i64 a ∧ v15 = .int .i64 b ∧ -1 ≤ b ∧ b < (j : Int) ∧ Hid (BestOf q S dn x a b) ∧ Hid (RowI 3 .i64 wr go j (outT dn t j)) ∧ Hid (Adds w wr)) (fun _ v16 _ => j - (intOf v16).toNat)
                  case atStart => exact ⟨0, -1, by omega, rfl, rfl, by omega, by omega, Lib.hid (.inl ⟨rfl, fun a ha => by omega⟩), HR, HAD⟩
                  case round => as_aux_lemma =>
                    clear HR HAD
                    obtain ⟨a, b, ha, rfl, rfl, hb1, hb2, HBS, HR, HAD⟩ := hrel
                    by_cases haj : a < j
                    · have haj2 : (a : Int) < (j : Int) := by omega
                      have ha0 : (0 : Int) ≤ (a : Int) := by omega
                      obtain ⟨gs, eps, cs0⟩ := HS.out.later HAD.out a haj
                      subst eps
                      obtain ⟨g, off, ep, r0, d0, hrb, hdb⟩ := HCE.out wr HAD.out a haj
                      subst ep
                      have ko := HR.out.cell (outT_get (dn := dn) (t := t) haj)
                      obtain ⟨ra, hra⟩ : ∃ r, r = q.r a := ⟨_, rfl⟩
                      obtain ⟨da, hda⟩ : ∃ r, r = q.d a := ⟨_, rfl⟩
                      rw [← hra] at r0 hrb
                      rw [← hda] at d0 hdb
                      have HRA := Lib.hid hra
                      have HDA := Lib.hid hda
                      clear hra hda
                      cases hSk : S a with
                      | false =>
                        rw [hSk] at cs0
                        have HSK := Lib.hid hSk
                        clear hSk
                        go_upto_region 25 with fail
                        go_quiet (fail)
                        go_wp2
                        exact ⟨⟨a + 1, b, by omega, by go_num, rfl, hb1, hb2, Lib.hid (HBS.out.keep (.inl (fun e => by have := HSK.out; rw [e.1] at this; cases this))), Lib.hid (HR.out.later ((Adds.refl _).drewN _)), Lib.hid (HAD.out.drewN _)⟩, by simp [intOf]; omega⟩
                      | true =>
                        rw [hSk] at cs0
                        have HSK := Lib.hid hSk
                        clear hSk
                        cases hdk : dn a with
                        | true =>
                          rw [hdk, if_pos rfl] at ko
                          have HDK := Lib.hid hdk
                          have htq : decide ((t a : Int) < 0) = false := decide_eq_false (by omega)
                          clear hdk
                          go_upto_region 25 with fail
                          go_quiet (fail)
                          go_wp2
                          exact ⟨⟨a + 1, b, by omega, by go_num, rfl, hb1, hb2, Lib.hid (HBS.out.keep (.inl (fun e => by have := HDK.out; rw [e.2.1] at this; cases this))), Lib.hid (HR.out.later ((Adds.refl _).drewN _)), Lib.hid (HAD.out.drewN _)⟩, by simp [intOf]; omega⟩
                        | false =>
                          rw [hdk, if_neg (by simp)] at ko
                          have HDK := Lib.hid hdk
                          clear hdk
                          by_cases hrx : ra ≤ x
                          · have hrq : decide (ra ≤ x) = true := decide_eq_true hrx
                            have hrq2 : decide ((ra : Int) ≤ (x : Int)) = true := decide_eq_true (by omega)
                            by_cases hb0 : b < 0
                            · have hbq : decide (b < 0) = true := decide_eq_true hb0
                              have hbm : b = -1 := by omega
                              have HBM := Lib.hid hbm
                              clear hbm
                              go_upto_region 25 with fail
                              go_quiet (fail)
                              go_wp2
                              exact ⟨⟨a + 1, (a : Int), by omega, by go_num, rfl, by omega, by omega, Lib.hid (HBS.out.turn HSK.out HDK.out (by rw [← HRA.out]; exact hrx) (.inl HBM.out)), Lib.hid (HR.out.later ((Adds.refl _).drewN _)), Lib.hid (HAD.out.drewN _)⟩, by simp [intOf]; omega⟩
                            · have hbq : decide (b < 0) = false := decide_eq_false hb0
                              obtain ⟨bb, rfl⟩ : ∃ bb : Nat, b = (bb : Int) := ⟨b.toNat, by omega⟩
                              have hbbj : bb < j := by omega
                              have hbb0 : (0 : Int) ≤ (bb : Int) := by omega
                              have hba : bb < a := by
                                rcases HBS.out with ⟨e, _⟩ | ⟨b2, e, h2, _⟩
                                · omega
                                · omega
                              obtain ⟨g2, off2, ep2, _, d02, _, hdb2⟩ := HCE.out wr HAD.out bb hbbj
                              simp only [Option.some.injEq, Addr.mk.injEq, and_true] at ep2
                              obtain ⟨rfl, rfl⟩ := ep2
                              obtain ⟨db, hdbq⟩ : ∃ r, r = q.d bb := ⟨_, rfl⟩
                              rw [← hdbq] at d02 hdb2
                              have HDB := Lib.hid hdbq
                              clear hdbq
                              by_cases hdd : da < db
                              · have hdq : decide (da < db) = true := decide_eq_true hdd
                                have hdq2 : decide ((da : Int) < (db : Int)) = true := decide_eq_true (by omega)
                                go_upto_region 25 with fail
                                go_quiet (fail)
                                go_wp2
                                exact ⟨⟨a + 1, (a : Int), by omega, by go_num, rfl, by omega, by omega, Lib.hid (HBS.out.turn HSK.out HDK.out (by rw [← HRA.out]; exact hrx) (.inr ⟨bb, rfl, .inl (by rw [← HDA.out, ← HDB.out]; exact hdd)⟩)), Lib.hid (HR.out.later ((Adds.refl _).drewN _)), Lib.hid (HAD.out.drewN _)⟩, by simp [intOf]; omega⟩
                              · have hdq : decide (da < db) = false := decide_eq_false hdd
                                have hdq2 : decide ((da : Int) < (db : Int)) = false := decide_eq_false (by omega)
                                go_upto_region 25 with fail
                                go_quiet (fail)
                                go_wp2
                                exact ⟨⟨a + 1, (bb : Int), by omega, by go_num, rfl, hb1, hb2, Lib.hid (HBS.out.keep (.inr ⟨bb, rfl, by unfold Sh.lt; rw [← HDA.out, ← HDB.out]; omega⟩)), Lib.hid (HR.out.later ((Adds.refl _).drewN _)), Lib.hid (HAD.out.drewN _)⟩, by simp [intOf]; omega⟩
                          · have hrq : decide (ra ≤ x) = false := decide_eq_false hrx
                            have hrq2 : decide ((ra : Int) ≤ (x : Int)) = false := decide_eq_false (by omega)
                            go_upto_region 25 with fail
                            go_quiet (fail)
                            go_wp2
                            exact ⟨⟨a + 1, b, by omega, by go_num, rfl, hb1, hb2, Lib.hid (HBS.out.keep (.inl (fun e => hrx (by rw [HRA.out]; exact e.2.2)))), Lib.hid (HR.out.later ((Adds.refl _).drewN _)), Lib.hid (HAD.out.drewN _)⟩, by simp [intOf]; omega⟩
                    · have hjj : a = j := by omega
                      subst hjj
                      have hkq5 : decide ((a : Int) < (a : Int)) = false := by simp
                      by_cases hb0 : b < 0
                      · have hbq : decide (b < 0) = true := decide_eq_true hb0
                        have hno : ∀ i, i < a → S i = true → dn i = false → x < q.r i := by
                          rcases HBS.out with ⟨_, h⟩ | ⟨b2, e, _⟩
                          · exact h
                          · omega
                        have hi0 : 0 < i := by
                          rcases Nat.eq_zero_or_pos i with e | e
                          · obtain ⟨a2, h1, h2, h3, h4⟩ := HEX.out e
                            have := hno a2 h1 h2 h3
                            omega
                          · exact e
                        have HP2 := Lib.hid (HEND.out hi0 (.inr (fun b hb => hno b (by rw [← HQN.out]; exact hb))))
                        have hx2 := hx1 hi0
                        clear hno HEND HPK HEX HBS hx1
                        go_wp2
                        exact ⟨⟨c2, x + 1, dn, t, rfl, by go_num, by omega, by omega, HCL, HP2, HR, HAD⟩, by simp [intOf]; omega⟩
                      · have hbq : decide (b < 0) = false := decide_eq_false hb0
                        obtain ⟨bb, rfl⟩ : ∃ bb : Nat, b = (bb : Int) := ⟨b.toNat, by omega⟩
                        have hbbj : bb < a := by omega
                        have hbb0 : (0 : Int) ≤ (bb : Int) := by omega
                        have hbest : S bb = true ∧ dn bb = false ∧ q.r bb ≤ x ∧ ∀ i, i < a → S i = true → dn i = false → q.r i ≤ x → i ≠ bb → q.lt bb i := by
                          rcases HBS.out with ⟨e, _⟩ | ⟨b2, e, h1, h2, h3, h4, h5⟩
                          · omega
                          · have : bb = b2 := by omega
                            subst this
                            exact ⟨h2, h3, h4, h5⟩
                        obtain ⟨g, off, ep, r0, d0, hrb, hdb⟩ := HCE.out wr HAD.out bb hbbj
                        subst ep
                        obtain ⟨db, hdbq⟩ : ∃ r, r = q.d bb := ⟨_, rfl⟩
                        rw [← hdbq] at d0 hdb
                        have HDB := Lib.hid hdbq
                        have HBE := Lib.hid hbest
                        clear hdbq hbest r0 hrb HBS HEND HEX
                        have hbn : bb < q.n := by rw [HQN.out]; exact hbbj
                        by_cases hdx : db ≤ x
                        · have hdq : decide (db ≤ x) = true := decide_eq_true hdx
                          have hdq2 : decide ((db : Int) ≤ (x : Int)) = true := decide_eq_true (by omega)
                          have HOV := Lib.hid (HPK.out.over hbn HBE.out.1 HBE.out.2.1 (HLT.out bb hbn) (by rw [← HDB.out]; exact hdx))
                          clear HPK
                          go_wp2
                          go_ret2
                          exact Or.inr ⟨rfl, HOV.out, HAD.out⟩
                        · have hdq : decide (db ≤ x) = false := decide_eq_false hdx
                          have hdq2 : decide ((db : Int) ≤ (x : Int)) = false := decide_eq_false (by omega)
                          have hxx : x < 1000000 := by omega
                          have HP2 := Lib.hid (HPK.out.next hbn HBE.out.1 HBE.out.2.1 HBE.out.2.2.1 (by rw [← HDB.out]; omega) (fun i hi => HBE.out.2.2.2 i (by rw [← HQN.out]; exact hi)))
                          have hl2 := leftN_put hbbj HBE.out.1 HBE.out.2.1
                          rw [← HCL.out] at hl2
                          obtain ⟨c3, hc3⟩ : ∃ c3, c3 = leftN a S (putS dn bb) := ⟨_, rfl⟩
                          rw [← hc3] at hl2
                          have HC3 := Lib.hid hc3
                          clear hc3 HPK HCL
                          subst hl2
                          have kf : wr.frozen? ⟨go, bb, none⟩ = false := HR.out.free bb
                          have kh := HR.out.cell (outT_get (dn := dn) (t := t) hbbj)
                          go_wp2
                          refine ⟨⟨i + 1, c3, putS dn bb, setT t bb x, by omega, by go_num, by go_num, by omega, HC3, HP2, Lib.hid (fun e => by omega), fun _ => hxx, Lib.hid ?_, Lib.hid (HAD.out.set (p := ⟨go, bb, none⟩) hgw _)⟩, by simp [intOf]; omega⟩
                          have := HR.out.put bb (x : Int)
                          rw [outT_put dn t x hbbj] at this
                          exact this
                · have hiq : decide ((i : Int) < (K : Int)) = false := decide_eq_false (by omega)
                  have hi0 : 0 < i := by omega
                  have HP2 := Lib.hid (HEND.out hi0 (.inl (by omega)))
                  have hx2 := hx1 hi0
                  clear HEND HPK HEX hx1
                  go_wp2
                  exact ⟨⟨c2, x + 1, dn, t, rfl, by go_num, by omega, by omega, HCL, HP2, HR, HAD⟩, by simp [intOf]; omega⟩
        · have hc00 : c = 0 := by omega
          subst hc00
          have hall := leftN_zero HCL.out.symm
          have hfull := HPT.out.full (fun i hi hSi => hall i (by rw [← HQN.out]; exact hi) hSi)
          have hrow := HR.out.own (base := w.heap.size) hgw
          rw [outT_len, outT_congr t (S := S) (fun i hi => by
            cases hd : dn i with
            | true => exact (HPT.out.sub i hd).symm
            | false =>
              cases hSi : S i with
              | false => rfl
              | true => have := hall i hi hSi; rw [hd] at this; cases this)] at hrow
          have HFU := Lib.hid hfull
          have HROW := Lib.hid hrow
          clear hall hfull hrow
          go_wp2
          go_ret2
          exact Or.inl ⟨_, _, t, rfl, HFU.out, HROW.out, HAD.out⟩
end Go.Proofs.Ytkofnhimgegcnaa

namespace Go.Proofs.Ytkofnhimgegcnaa
open Go Go.RowKit Go.Sort

theorem tame_short (p : Option Addr) (cl most : Nat) (l : List Ld) (w : World) (hL : LoadsAt w p l) (hm : most ≤ 256) (hcl : l.length ≤ cl) (hmx : cl ≤ maxLen) :
    Calls Try.prog 13 #[.slice p l.length cl, .int .i64 most, .bool true] w fun e w' => ∃ c q l', e = .returned (.slice q (List.length l') c) ∧ LoadsAt w' q l' ∧ l'.length ≤ most ∧ (∀ x ∈ l', okB x = true) ∧ (∀ x ∈ l', x.2.2.1 = 1) ∧ Adds w w' :=
  (tame_any p cl most true l w hL (by omega) hcl hmx).mono (by
    rintro e w' ⟨c, q, l', h1, h2, rfl, h3, h4⟩
    exact ⟨c, q, l', rfl, h3.at, by omega, fun x hx => (h2 x hx).1, fun x hx => (h2 x hx).2 rfl, h4⟩)
theorem short_any {l : List Ld} (h : ∀ x ∈ l, x.2.2.1 = 1) : l.any longB = false := by
  cases e : l.any longB with
  | false => rfl
  | true =>
    obtain ⟨x, hx, hb⟩ := List.any_eq_true.1 e
    unfold longB at hb
    rw [h x hx] at hb
    cases hb

set_option maxRecDepth 100000 in
set_option maxHeartbeats 2000000 in
theorem RShort_any (p : Option Addr) (cl : Nat) (l : List Ld) (w : World) (hL : LoadsAt w p l) (hl : l.length ≤ 256) :
    Calls Try.prog 28 #[.slice p l.length cl] w fun e w' => e = .returned (.bool (!l.any longB)) ∧ Adds w w' := by
  obtain ⟨N, hN⟩ : ∃ n, n = l.length := ⟨_, rfl⟩
  rw [← hN] at hl ⊢
  have HL := Lib.hid hL
  have HN := Lib.hid hN
  clear hL hN
  go_enter Try.func28, Try.ntmps28
  go_upto_region 2 with fail
  go_loopw [3] (fun i wr => ∃ k : Nat, k ≤ N ∧ i = .int .i64 k ∧ Hid ((l.take k).any longB = false) ∧ Hid (Adds w wr)) (fun i _ => N - (intOf i).toNat)
  case atStart => exact ⟨0, by omega, rfl, Lib.hid (by simp), Lib.hid (Adds.refl _)⟩
  case round =>
    obtain ⟨k, hk, rfl, HT, HAD⟩ := hrel
    by_cases hkn : k < N
    · have hkn2 : (k : Int) < (N : Int) := by omega
      obtain ⟨⟨x0, x1, x2, x3⟩, hx⟩ : ∃ x, l[k]? = some x := ⟨_, List.getElem?_eq_getElem (by have := HN.out; omega)⟩
      obtain ⟨g, off, rfl, c0, c1, c2, c3⟩ := HL.out.later HAD.out k _ hx
      dsimp only at c0 c1 c2 c3
      have htk : (l.take (k + 1)).any longB = ((l.take k).any longB || (x2 != 1)) := by
        rw [List.take_add_one, hx]
        simp [longB]
      have hmem : (x2 != 1) = true → l.any longB = true := fun h => List.any_eq_true.2 ⟨_, List.mem_of_getElem? hx, h⟩
      rw [HT.out, Bool.false_or] at htk
      by_cases h1 : x2 = 1
      · have hq : (x2 != 1) = false := by simp [h1]
        rw [hq] at htk
        have HTK := Lib.hid htk
        subst h1
        clear htk hmem hx
        go_wp2
        exact ⟨⟨k + 1, by omega, by go_num, HTK, HAD⟩, by simp [intOf]; omega⟩
      · have hq : (x2 != 1) = true := by simp [h1]
        have HM := Lib.hid (hmem hq)
        clear htk hmem hx
        go_wp2
        go_ret
        exact ⟨by rw [HM.out]; rfl, HAD.out⟩
    · have hd : decide ((k : Int) < (N : Int)) = false := decide_eq_false (by omega)
      have he : l.any longB = false := by
        have := HT.out
        rwa [List.take_of_length_le (by have := HN.out; omega)] at this
      have HE := Lib.hid he
      clear he
      go_wp2
      go_ret
      exact ⟨by rw [HE.out]; rfl, HAD.out⟩

/-- Numbers as a slice of the call's own. -/
def NumsAt (w : World) (p : Option Addr) (n : Nat) (f : Nat → Int) : Prop := ∀ i, i < n → ∃ g, p = some ⟨g, 0, none⟩ ∧ w.cell? ⟨g, i, none⟩ = some (.int .i64 (f i))
theorem NumsAt.later {w w' : World} {p : Option Addr} {n : Nat} {f : Nat → Int} (h : NumsAt w p n f) (ha : Adds w w') : NumsAt w' p n f := fun i hi => by
  obtain ⟨g, e, c⟩ := h i hi
  exact ⟨g, e, keep_cell ha c⟩
theorem NumsAt.congr {w : World} {p : Option Addr} {n : Nat} {f g : Nat → Int} (h : NumsAt w p n f) (e : ∀ i, i < n → f i = g i) : NumsAt w p n g := fun i hi => by
  obtain ⟨a, ea, c⟩ := h i hi
  exact ⟨a, ea, by rw [← e i hi]; exact c⟩
theorem nums_own {w : World} {base cap n : Nat} {p : Option Addr} {L : List Int} {f : Nat → Int} (ho : w.ownsRow base 3 1 (.slice p n cap) n (L.map (Value.int .i64))) (h : ∀ i, i < n → L[i]? = some (f i)) : NumsAt w p n f := fun i hi => by
  obtain ⟨g, c', eg, _⟩ := own_some ho (by omega)
  injection eg with eg1 eg2 eg3
  subst eg1
  refine ⟨g, rfl, ?_⟩
  have := (own_cell ho (j := i) (u := .int .i64 (f i)) (by rw [List.getElem?_map, h i hi]; rfl)).1
  exact this

set_option maxRecDepth 100000 in
set_option maxHeartbeats 2000000 in
theorem ints_same (p1 p2 : Option Addr) (c1 c2 n : Nat) (f : Nat → Int) (w : World) (h1 : NumsAt w p1 n f) (h2 : NumsAt w p2 n f) (hn : n ≤ 256) :
    Calls Try.prog 33 #[.slice p1 n c1, .slice p2 n c2] w fun e w' => e = .returned (.bool true) ∧ Adds w w' := by
  have H1 := Lib.hid h1
  have H2 := Lib.hid h2
  clear h1 h2
  go_enter Try.func33, Try.ntmps33
  go_upto_region 4 with fail
  go_loopw [5] (fun i wr => ∃ k : Nat, k ≤ n ∧ i = .int .i64 k ∧ Hid (Adds w wr)) (fun i _ => n - (intOf i).toNat)
  case atStart => exact ⟨0, by omega, rfl, Lib.hid (Adds.refl _)⟩
  case round =>
    obtain ⟨k, hk, rfl, HAD⟩ := hrel
    by_cases hkn : k < n
    · have hkn2 : (k : Int) < (n : Int) := by omega
      have hk0 : (0 : Int) ≤ (k : Int) := by omega
      obtain ⟨g1, rfl, d1⟩ := H1.out.later HAD.out k hkn
      obtain ⟨g2, rfl, d2⟩ := H2.out.later HAD.out k hkn
      go_upto_region 6 with fail
      go_quiet (fail)
      go_wp2
      exact ⟨⟨k + 1, by omega, by go_num, Lib.hid (HAD.out.drewN _)⟩, by simp [intOf]; omega⟩
    · have hd : decide ((k : Int) < (n : Int)) = false := decide_eq_false (by omega)
      go_wp2
      go_ret
      exact ⟨rfl, HAD.out⟩

/-- A set in a block that may be written. -/
def SetI (w : World) (g N : Nat) (S : Nat → Bool) : Prop := ∃ cur : Array Value, w.heap[g]? = some (.cells cur 4 (0, 0)) ∧ ∀ v, v < N → cur[v]? = some (.bool (S v))
section
variable {w w' : World} {g N : Nat} {S : Nat → Bool}
theorem SetI.lt (h : SetI w g N S) : g < w.heap.size := by
  obtain ⟨cur, hg, _⟩ := h
  exact (Array.getElem?_eq_some_iff.1 hg).1
theorem SetI.cell (h : SetI w g N S) {v : Nat} (hv : v < N) : w.cell? ⟨g, v, none⟩ = some (.bool (S v)) := by
  obtain ⟨cur, hg, hc⟩ := h
  simp [World.cell?, hg, hc v hv]
theorem SetI.free (h : SetI w g N S) (o : Nat) : w.frozen? ⟨g, o, none⟩ = false := by
  obtain ⟨cur, hg, _⟩ := h
  simp [World.frozen?, hg]
theorem SetI.later (h : SetI w g N S) (hb : Adds w w') : SetI w' g N S := by
  have hlt := h.lt
  obtain ⟨cur, hg, r⟩ := h
  exact ⟨cur, (hb.block g hlt).trans hg, r⟩
theorem SetI.far (h : SetI w g N S) {p : Addr} (hp : g ≠ p.block) (u : Value) : SetI (w.setCell p u) g N S := by
  obtain ⟨cur, hg, r⟩ := h
  exact ⟨cur, (Below.heap_setCell w p u g hp).trans hg, r⟩
theorem SetI.put (h : SetI w g N S) (v : Nat) (x : Bool) : SetI (w.setCell ⟨g, v, none⟩ (.bool x)) g N (fun u => if u = v then x else S u) := by
  obtain ⟨cur, hg, hc⟩ := h
  refine ⟨_, Box.set (t := 4) hg v (.bool x), fun u hu => ?_⟩
  have := hc u hu
  have hlt := (Array.getElem?_eq_some_iff.1 this).1
  rw [Array.getElem?_setIfInBounds]
  split
  · next e => subst e; simp [hlt]
  · next e => have e' : u ≠ v := fun x => e x.symm
              simp only [if_neg e']; exact this
theorem SetI.congr (h : SetI w g N S) {T : Nat → Bool} (e : ∀ v, v < N → S v = T v) : SetI w g N T := by
  obtain ⟨cur, hg, hc⟩ := h
  exact ⟨cur, hg, fun v hv => by rw [← e v hv]; exact hc v hv⟩
theorem SetI.bools (h : SetI w g N S) : BoolsAt w (some ⟨g, 0, none⟩) N S := fun _ hi => ⟨g, rfl, h.cell hi⟩
end
theorem made_set {w : World} {g n : Nat} (h : w.ownsRow g 4 1 (.slice (some ⟨g, 0, none⟩) n n) n (madeCells (Value.bool false).cells (n * 1)).toList) (_hz : 0 < n) : SetI w g n (fun _ => false) := by
  have h := made_bools h
  obtain ⟨h1, h2⟩ := h
  rcases h2 with ⟨e, _⟩ | ⟨g', cap, cur, hv, hb, hg, hl, hm, hs, ht⟩
  · cases e
  · simp only [Value.slice.injEq, Option.some.injEq, Addr.mk.injEq, and_true, true_and] at hv
    obtain ⟨rfl, rfl⟩ := hv
    refine ⟨cur, hg, fun v hv => ?_⟩
    have : (cur.toList.take (n * 1))[v]? = some (.bool false) := by rw [ht, seenL_get _ hv]; simp
    rw [List.getElem?_take, if_pos (by omega)] at this
    simpa using this
theorem made_set0 {w : World} {g : Nat} (S : Nat → Bool) (hg : ∃ cur, w.heap[g]? = some (.cells cur 4 (0, 0))) : SetI w g 0 S := by
  obtain ⟨cur, h⟩ := hg
  exact ⟨cur, h, fun v hv => by omega⟩
theorem own_blk {w : World} {g t n c : Nat} {xs : List Value} (h : w.ownsRow g t 1 (.slice (some ⟨g, 0, none⟩) n c) n xs) : ∃ cur, w.heap[g]? = some (.cells cur t (0, 0)) := by
  obtain ⟨h1, h2⟩ := h
  rcases h2 with ⟨e, _⟩ | ⟨g', cap, cur, hv, hb, hg, hl, hm, hs, ht⟩
  · cases e
  · simp only [Value.slice.injEq, Option.some.injEq, Addr.mk.injEq, and_true, true_and] at hv
    obtain ⟨rfl, rfl⟩ := hv
    exact ⟨cur, hg⟩
theorem made_sets {w : World} {g n : Nat} (h : w.ownsRow g 4 1 (.slice (some ⟨g, 0, none⟩) n n) n (madeCells (Value.bool false).cells (n * 1)).toList) : SetI w g n (fun _ => false) := by
  rcases Nat.eq_zero_or_pos n with e | e
  · subst e
    exact made_set0 _ (own_blk h)
  · exact made_set h e
theorem info4 : (Try.prog.info? 4).map (fun i => (i.zero, i.size, i.bytes)) = some (some (.bool false), 1, 1) := by kernel_rfl

set_option maxRecDepth 100000 in
set_option maxHeartbeats 2000000 in
theorem All_any (n : Nat) (w : World) (hn : n ≤ 256) :
    Calls Try.prog 32 #[.int .i64 n] w fun e w' => ∃ q c, e = .returned (.slice q n c) ∧ BoolsAt w' q n (fun _ => true) ∧ Adds w w' := by
  obtain ⟨j0, hj, hj0, hj1, hj2⟩ := info_parts info4
  have HJ := Lib.hid hj
  have HJ0 := Lib.hid hj0
  have HJ1 := Lib.hid hj1
  have HJ2 := Lib.hid hj2
  clear hj hj0 hj1 hj2
  go_enter Try.func32, Try.ntmps32
  go_upto_region 3 with (first
    | (refine wpList_make_full _ rfl _ _ 65 rfl w.heap.size 4 j0 (.bool false) 1 Try.underlying65 HJ.out HJ0.out HJ1.out .i64 .i64 (n : Int) (n : Int) n rfl rfl rfl rfl (by rw [HJ2.out]; omega) (by unfold maxLen; omega) (Nat.le_refl _) ?_; intro W1 ho1 hg1; have HO1 := Lib.hid (made_sets ho1); have HG1 := Lib.hid hg1; clear ho1 hg1)
    | go_in)
  obtain ⟨go, hgo⟩ : ∃ g, g = w.heap.size := ⟨_, rfl⟩
  rw [← hgo] at HO1 ⊢
  have HA1 : Hid (Adds w W1) := Lib.hid (Below.grown (Adds.refl _) HG1.out (Nat.le_refl _) (fun j hj => by cases hj))
  have HR1 : Hid (SetI W1 go n (fun i => decide (i < 0))) := Lib.hid (HO1.out.congr (fun v _ => by simp))
  have hgw : w.heap.size ≤ go := by omega
  clear hgo HO1 HG1
  go_loopw [4] (fun v4 wr => ∃ k : Nat, k ≤ n ∧ v4 = .int .i64 k ∧ Hid (SetI wr go n (fun i => decide (i < k))) ∧ Hid (Adds w wr)) (fun v4 _ => n - (intOf v4).toNat)
  case atStart => exact ⟨0, by omega, rfl, HR1, HA1⟩
  case round =>
    clear HR1 HA1
    obtain ⟨k, hk, rfl, HR, HAD⟩ := hrel
    by_cases hkn : k < n
    · have hkn2 : (k : Int) < (n : Int) := by omega
      have hk0 : (0 : Int) ≤ (k : Int) := by omega
      have kh := HR.out.cell hkn
      have kf : wr.frozen? ⟨go, k, none⟩ = false := HR.out.free k
      go_wp2
      refine ⟨⟨k + 1, by omega, by go_num, Lib.hid ((HR.out.put k true).congr (fun v _ => ?_)), Lib.hid (HAD.out.set (p := ⟨go, k, none⟩) hgw _)⟩, by simp [intOf]; omega⟩
      by_cases e : v = k
      · subst e; simp
      · simp only [if_neg e, decide_eq_decide]
        omega
    · have hkk : k = n := by omega
      have hd : decide ((k : Int) < (n : Int)) = false := decide_eq_false (by omega)
      have HB := Lib.hid (HR.out.congr (T := fun _ => true) (fun v hv => by simp; omega)).bools
      go_wp2
      go_ret
      exact ⟨_, _, rfl, HB.out, HAD.out⟩

set_option maxRecDepth 100000 in
set_option maxHeartbeats 2000000 in
theorem Early_long (p : Option Addr) (cl K : Nat) (l : List Ld) (w : World) (hL : LoadsAt w p l) (hl : l.length ≤ 256) (hok : ∀ x ∈ l, okB x = true) (hsh : l.any longB = true) (hK : 1 ≤ K ∧ K ≤ 64) :
    Calls Try.prog 29 #[.slice p l.length cl, .int .i64 K] w fun e w' => e = .returned (.tuple #[nilV, .int .i64 7]) ∧ Adds w w' := by
  have hck := checkShort_any p cl l K w hl hL hok (by omega) true hsh
  generalize l.length = N at *
  have HCK := Lib.hid hck
  clear hck hL hok hsh
  go_enter Try.func29, Try.ntmps29
  go_wp2_with (go_at_call 65; refine HCK.out.mono ?_; rintro e w1 ⟨rfl, hb1⟩; have HB1 := Lib.hid hb1; clear hb1)
  go_ret2
  exact ⟨rfl, HB1.out⟩

set_option maxRecDepth 100000 in
set_option maxHeartbeats 2000000 in
theorem Best_long (p : Option Addr) (cl K : Nat) (l : List Ld) (w : World) (hL : LoadsAt w p l) (hl : l.length ≤ 256) (hok : ∀ x ∈ l, okB x = true) (hsh : l.any longB = true) (hK : 1 ≤ K ∧ K ≤ 64) :
    Calls Try.prog 30 #[.slice p l.length cl, .int .i64 K] w fun e w' => e = .returned (.tuple #[nilV, .int .i64 0, .int .i64 7]) ∧ Adds w w' := by
  have hck := fun W (hW : Adds w W) => checkShort_any p cl l K W hl (hL.later hW) hok (by omega) true hsh
  generalize l.length = N at *
  have HCK := Lib.hid hck
  clear hck hL hok hsh
  go_enter Try.func30, Try.ntmps30
  go_upto_region 1 with fail
  obtain ⟨cb, hcb⟩ : ∃ b, b = w.heap.size := ⟨_, rfl⟩
  obtain ⟨W1, hW1⟩ : ∃ V, V = w.alloc (.cells #[.slice p N cl] 30) := ⟨_, rfl⟩
  try rw [← hW1, ← hcb]
  have HC1 : Hid (Box W1 cb #[.slice p N cl] 30) := Lib.hid (by rw [hW1, hcb]; exact Box.new _ _ _)
  have HA1 : Hid (Adds w W1) := Lib.hid (by rw [hW1]; exact (Adds.refl _).alloc _)
  have k0 : W1.cell? ⟨cb, 0, none⟩ = some (.slice p N cl) := HC1.out.cell 0
  clear hW1 hcb
  go_wp2_with (go_at_call 65; refine (HCK.out _ HA1.out).mono ?_; rintro e w1 ⟨rfl, hb1⟩; have HB1 := Lib.hid hb1; clear hb1)
  go_ret3
  exact ⟨rfl, HA1.out.trans HB1.out⟩
end Go.Proofs.Ytkofnhimgegcnaa

namespace Go.Proofs.Ytkofnhimgegcnaa
open Go Go.RowKit Go.Sort

theorem Early_yes (p : Option Addr) (cl K : Nat) (l : List Ld) (w : World) (t : Nat → Nat) (hL : LoadsAt w p l) (hl : l.length ≤ 256) (hok : ∀ x ∈ l, okB x = true) (hsh : l.any longB = false) (hK : 1 ≤ K ∧ K ≤ 64) (hF : (shOf l K).Full (fun _ => true) t) :
    Calls Try.prog 29 #[.slice p l.length cl, .int .i64 K] w fun e w' => ∃ c q, e = .returned (.tuple #[.slice q l.length c, .int .i64 0]) ∧ NumsAt w' q l.length (fun i => (t i : Int)) ∧ Adds w w' :=
  (Early_any p cl K l w hL hl hok hsh hK).mono (by
    rintro e w' (⟨c, q, u, rfl, h1, h2, h3⟩ | ⟨_, h1, _⟩)
    · refine ⟨c, q, rfl, nums_own h2 (fun i hi => ?_), h3⟩
      have := Sh.Full.unique h1 hF i (by rw [shOf_n]; exact hi) rfl
      simp [hoursT, hi, this]
    · exact absurd hF.fit h1.none)
theorem Early_no (p : Option Addr) (cl K : Nat) (l : List Ld) (w : World) (hL : LoadsAt w p l) (hl : l.length ≤ 256) (hok : ∀ x ∈ l, okB x = true) (hsh : l.any longB = false) (hK : 1 ≤ K ∧ K ≤ 64) (hO : (shOf l K).Over (fun _ => true)) :
    Calls Try.prog 29 #[.slice p l.length cl, .int .i64 K] w fun e w' => e = .returned (.tuple #[nilV, .int .i64 70]) ∧ Adds w w' :=
  (Early_any p cl K l w hL hl hok hsh hK).mono (by
    rintro e w' (⟨c, q, u, rfl, h1, h2, h3⟩ | ⟨rfl, _, h⟩)
    · exact absurd h1.fit hO.none
    · exact ⟨rfl, h⟩)
theorem REarly_yes (p ps : Option Addr) (cl cs K : Nat) (l : List Ld) (S : Nat → Bool) (w : World) (t : Nat → Nat) (hL : LoadsAt w p l) (hS : BoolsAt w ps l.length S) (hl : l.length ≤ 256) (hok : ∀ x ∈ l, okB x = true) (hK : 1 ≤ K ∧ K ≤ 64) (hF : (shOf l K).Full S t) :
    Calls Try.prog 31 #[.slice p l.length cl, .int .i64 K, .slice ps l.length cs] w fun e w' => ∃ c q, e = .returned (.tuple #[.slice q l.length c, .bool true]) ∧ NumsAt w' q l.length (fun i => if S i = true then (t i : Int) else -1) ∧ Adds w w' :=
  (REarly_any p ps cl cs K l S w hL hS hl hok hK).mono (by
    rintro e w' (⟨c, q, u, rfl, h1, h2, h3⟩ | ⟨_, h1, _⟩)
    · refine ⟨c, q, rfl, nums_own h2 (fun i hi => ?_), h3⟩
      rw [outT_get hi]
      by_cases c : S i = true
      · have := Sh.Full.unique h1 hF i (by rw [shOf_n]; exact hi) c
        rw [if_pos c, if_pos c, this]
      · rw [if_neg c, if_neg c]
    · exact absurd hF.fit h1.none)
theorem REarly_no (p ps : Option Addr) (cl cs K : Nat) (l : List Ld) (S : Nat → Bool) (w : World) (hL : LoadsAt w p l) (hS : BoolsAt w ps l.length S) (hl : l.length ≤ 256) (hok : ∀ x ∈ l, okB x = true) (hK : 1 ≤ K ∧ K ≤ 64) (hO : (shOf l K).Over S) :
    Calls Try.prog 31 #[.slice p l.length cl, .int .i64 K, .slice ps l.length cs] w fun e w' => e = .returned (.tuple #[nilV, .bool false]) ∧ Adds w w' :=
  (REarly_any p ps cl cs K l S w hL hS hl hok hK).mono (by
    rintro e w' (⟨c, q, u, rfl, h1, h2, h3⟩ | ⟨rfl, _, h⟩)
    · exact absurd h1.fit hO.none
    · exact ⟨rfl, h⟩)
theorem Fits_at (p : Option Addr) (cl K : Nat) (l : List Ld) (w : World) (hL : LoadsAt w p l) (hl : l.length ≤ 256) (hok : ∀ x ∈ l, okB x = true) (hK : 1 ≤ K ∧ K ≤ 64) (b : Bool) (hb : b = true ↔ CanDry l K) :
    Calls Try.prog 15 #[.slice p l.length cl, .int .i64 K] w fun e w' => e = .returned (.tuple #[.bool b, .int .i64 0]) ∧ Adds w w' :=
  (Fits_any p cl l K w (by unfold maxLen; omega) hL).mono (by
    rintro e w' ⟨v, rfl, _, h4, h5⟩
    have h0 := checkK_ok (by omega) hok (show (1 : Int) ≤ (K : Int) ∧ (K : Int) ≤ 64 by omega) (l := l)
    have hv : v = b := by
      have := h4 h0
      cases v <;> cases b <;> simp_all
    exact ⟨by rw [h0, hv], h5⟩)

set_option maxRecDepth 100000 in
set_option maxHeartbeats 2000000 in
theorem early_law (p : Option Addr) (cl : Nat) (l : List Ld) (x : Int) (w : World) (hL : LoadsAt w p l) (hcl : l.length ≤ cl) (hmx : cl ≤ maxLen) :
    Calls Try.prog 7 #[.slice p l.length cl, .int .i64 x] w fun e w' => e = .returned (.bool true) ∧ Adds w w' := by
  have HTM := Lib.hid (tame_at p cl 20 l w hL (by omega) hcl hmx)
  have HTS := Lib.hid (fun (W : World) (hW : Adds w W) => tame_short p cl 20 l W (hL.later hW) (by omega) hcl hmx)
  generalize l.length = N at *
  clear hL hcl hmx
  go_enter Try.func7, Try.ntmps7
  obtain ⟨hx0, hx1⟩ := wmod x 4 (by omega) (by omega)
  go_upto_region 2 with fail
  obtain ⟨K, hK⟩ : ∃ K : Nat, (K : Int) = 1 + wrap64 ((IntKind.u64.wrap x).tmod 4) := ⟨(1 + wrap64 ((IntKind.u64.wrap x).tmod 4)).toNat, by omega⟩
  simp only [← hK]
  have hKb : 1 ≤ K ∧ K ≤ 64 := by omega
  clear hK hx0 hx1
  go_upto_region 3 with (go_at_call 13; refine HTM.out.mono ?_; rintro e w1 ⟨c0, q0, l0, rfl, h1, h2, h3, _, hb1⟩; have HL0 := Lib.hid h1; have HOK0 := Lib.hid h3; have HB1 := Lib.hid hb1; clear h1 h3 hb1)
  have HRS := Lib.hid (RShort_any q0 c0 l0 w1 HL0.out (by omega))
  have HG0 := Lib.hid (fun (W : World) (hW : Adds w1 W) => give_at q0 c0 l0 W (HL0.out.later hW) (by omega))
  have HE0 := Lib.hid (fun (q2 : Option Addr) (c2 : Nat) (W : World) (hW : LoadsAt W q2 l0) (hs : l0.any longB = true) => Early_long q2 c2 K l0 W hW (by omega) HOK0.out hs hKb)
  have HB0 := Lib.hid (fun (q2 : Option Addr) (c2 : Nat) (W : World) (hW : LoadsAt W q2 l0) (hs : l0.any longB = true) => Best_long q2 c2 K l0 W hW (by omega) HOK0.out hs hKb)
  obtain ⟨m0, hm0⟩ : ∃ m, m = l0.length := ⟨_, rfl⟩
  rw [← hm0] at h2 HRS HG0 HE0 HB0 ⊢
  clear hm0 HTM HL0 HOK0
  cases hlg : l0.any longB with
  | true =>
    simp only [hlg, Bool.not_true] at HRS
    have HLG := Lib.hid hlg
    clear hlg
    go_upto_region 4 with (go_at_call 28; refine HRS.out.mono ?_; rintro e w2 ⟨rfl, hb2⟩; have HB2 := Lib.hid hb2; clear hb2)
    go_upto_region 5 with (first
      | (go_at_call 16; refine (HG0.out _ HB2.out).mono ?_; rintro e w3 ⟨c3, q3, rfl, hq3, hb3⟩; have HQ3 := Lib.hid hq3; have HB3 := Lib.hid hb3; clear hq3 hb3)
      | (go_at_call 29; refine (HE0.out _ _ _ HQ3.out HLG.out).mono ?_; rintro e w4 ⟨rfl, hb4⟩; have HB4 := Lib.hid hb4; clear hb4))
    go_upto_region 6 with (first
      | (go_at_call 16; refine (HG0.out _ ((HB2.out.trans HB3.out).trans HB4.out)).mono ?_; rintro e w5 ⟨c5, q5, rfl, hq5, hb5⟩; have HQ5 := Lib.hid hq5; have HB5 := Lib.hid hb5; clear hq5 hb5)
      | (go_at_call 30; refine (HB0.out _ _ _ HQ5.out HLG.out).mono ?_; rintro e w6 ⟨rfl, hb6⟩; have HB6 := Lib.hid hb6; clear hb6))
    have HAD := Lib.hid (((((HB1.out.trans HB2.out).trans HB3.out).trans HB4.out).trans HB5.out).trans HB6.out)
    clear HRS HG0 HE0 HB0 HB1 HB2 HB3 HB4 HB5 HB6 HQ3 HQ5 HLG
    go_upto_region 9 with (go_at_call 13; refine (HTS.out _ HAD.out).mono ?_; rintro e w7 ⟨c, q, l', rfl, h1, h2, h3, h4, hb⟩; have HL := Lib.hid h1; have HOK := Lib.hid h3; have HSH := Lib.hid h4; have HA := Lib.hid (HAD.out.trans hb); clear h1 h3 h4 hb)
    have hl' : l'.length ≤ 256 := by omega
    have hokN : ∀ x ∈ l', okN x := fun x hx => okB_okN (HOK.out x hx)
    have HAL := Lib.hid (fun (W : World) => All_any l'.length W hl')
    have HGV := Lib.hid (fun (W : World) (hW : Adds w7 W) => give_at q c l' W (HL.out.later hW) (by omega))
    have hdf := dry_fit w (K := K) hokN HSH.out hl' (by omega)
    rcases Sh.full_or (shOf l' K) (shOf_lt hokN) (fun _ => true) with ⟨t, ht⟩ | ho
    · have HEA := Lib.hid (fun (q2 : Option Addr) (c2 : Nat) (W : World) (hW : LoadsAt W q2 l') => Early_yes q2 c2 K l' W t hW hl' HOK.out (short_any HSH.out) hKb ht)
      have HRE := Lib.hid (fun (ps : Option Addr) (cs : Nat) (W : World) (hW : Adds w7 W) (hS : BoolsAt W ps l'.length (fun _ => true)) => REarly_yes q ps c cs K l' _ W t (HL.out.later hW) hS hl' HOK.out hKb ht)
      have HFT := Lib.hid (fun (q2 : Option Addr) (c2 : Nat) (W : World) (hW : LoadsAt W q2 l') => Fits_at q2 c2 K l' W hW hl' HOK.out hKb true ⟨fun _ => hdf.2 ht.fit, fun _ => rfl⟩)
      obtain ⟨m, hm⟩ : ∃ m, m = l'.length := ⟨_, rfl⟩
      rw [← hm] at h2 hl' HAL HGV HEA HRE HFT ⊢
      clear hdf ht hokN hm HTS
      go_upto_region 10 with (first
        | (go_at_call 16; refine (HGV.out _ (Adds.refl _)).mono ?_; rintro e w8 ⟨c8, q8, rfl, hq8, hb8⟩; have HQ8 := Lib.hid hq8; have HB8 := Lib.hid hb8; clear hq8 hb8)
        | (go_at_call 29; refine (HEA.out _ _ _ HQ8.out).mono ?_; rintro e w9 ⟨c9, q9, rfl, hq9, hb9⟩; have HQ9 := Lib.hid hq9; have HB9 := Lib.hid hb9; clear hq9 hb9))
      go_upto_region 11 with (first
        | (go_at_call 32; refine (HAL.out _).mono ?_; rintro e wa ⟨qa, ca, rfl, hqa, hba⟩; have HQA := Lib.hid hqa; have HBA := Lib.hid hba; clear hqa hba)
        | (go_at_call 31; refine (HRE.out _ _ _ ((HB8.out.trans HB9.out).trans HBA.out) HQA.out).mono ?_; rintro e wb ⟨cb, qb, rfl, hqb, hbb⟩; have HQB := Lib.hid hqb; have HBB := Lib.hid hbb; clear hqb hbb))
      go_upto_region 12 with (first
        | (go_at_call 16; refine (HGV.out _ (((HB8.out.trans HB9.out).trans HBA.out).trans HBB.out)).mono ?_; rintro e wc ⟨cc, qc, rfl, hqc, hbc⟩; have HQC := Lib.hid hqc; have HBC := Lib.hid hbc; clear hqc hbc)
        | (go_at_call 15; refine (HFT.out _ _ _ HQC.out).mono ?_; rintro e wd ⟨rfl, hbd⟩; have HBD := Lib.hid hbd; clear hbd))
      have HIN := Lib.hid (fun (c1 c2 : Nat) (W : World) (hW : Adds wd W) => ints_same q9 qb c1 c2 m (fun i => (t i : Int)) W (HQ9.out.later ((((HBA.out.trans HBB.out).trans HBC.out).trans HBD.out).trans hW)) ((HQB.out.congr (g := fun i => (t i : Int)) (fun i _ => by simp)).later ((HBC.out.trans HBD.out).trans hW)) hl')
      go_wp2_with (first
        | (go_at_call 33; refine (HIN.out _ _ _ (Adds.refl _)).mono ?_; rintro e we ⟨rfl, hbe⟩; have HBE := Lib.hid hbe; clear hbe)
        | (go_at_call 17; refine (awake_any _).mono ?_; rintro e wf ⟨rfl, hbf⟩))
      go_ret
      exact ⟨rfl, ((((((((HA.out.trans HB8.out).trans HB9.out).trans HBA.out).trans HBB.out).trans HBC.out).trans HBD.out).trans HBE.out).trans hbf)⟩
    · have HEA := Lib.hid (fun (q2 : Option Addr) (c2 : Nat) (W : World) (hW : LoadsAt W q2 l') => Early_no q2 c2 K l' W hW hl' HOK.out (short_any HSH.out) hKb ho)
      have HRE := Lib.hid (fun (ps : Option Addr) (cs : Nat) (W : World) (hW : Adds w7 W) (hS : BoolsAt W ps l'.length (fun _ => true)) => REarly_no q ps c cs K l' _ W (HL.out.later hW) hS hl' HOK.out hKb ho)
      have HFT := Lib.hid (fun (q2 : Option Addr) (c2 : Nat) (W : World) (hW : LoadsAt W q2 l') => Fits_at q2 c2 K l' W hW hl' HOK.out hKb false ⟨fun h => (by cases h), fun h => absurd (hdf.1 h) ho.none⟩)
      obtain ⟨m, hm⟩ : ∃ m, m = l'.length := ⟨_, rfl⟩
      rw [← hm] at h2 hl' HAL HGV HEA HRE HFT ⊢
      clear hdf ho hokN hm HTS
      go_upto_region 10 with (first
        | (go_at_call 16; refine (HGV.out _ (Adds.refl _)).mono ?_; rintro e w8 ⟨c8, q8, rfl, hq8, hb8⟩; have HQ8 := Lib.hid hq8; have HB8 := Lib.hid hb8; clear hq8 hb8)
        | (go_at_call 29; refine (HEA.out _ _ _ HQ8.out).mono ?_; rintro e w9 ⟨rfl, hb9⟩; have HB9 := Lib.hid hb9; clear hb9))
      go_upto_region 11 with (first
        | (go_at_call 32; refine (HAL.out _).mono ?_; rintro e wa ⟨qa, ca, rfl, hqa, hba⟩; have HQA := Lib.hid hqa; have HBA := Lib.hid hba; clear hqa hba)
        | (go_at_call 31; refine (HRE.out _ _ _ ((HB8.out.trans HB9.out).trans HBA.out) HQA.out).mono ?_; rintro e wb ⟨rfl, hbb⟩; have HBB := Lib.hid hbb; clear hbb))
      go_upto_region 12 with (first
        | (go_at_call 16; refine (HGV.out _ (((HB8.out.trans HB9.out).trans HBA.out).trans HBB.out)).mono ?_; rintro e wc ⟨cc, qc, rfl, hqc, hbc⟩; have HQC := Lib.hid hqc; have HBC := Lib.hid hbc; clear hqc hbc)
        | (go_at_call 15; refine (HFT.out _ _ _ HQC.out).mono ?_; rintro e wd ⟨rfl, hbd⟩; have HBD := Lib.hid hbd; clear hbd))
      go_wp2_with (go_at_call 17; refine (awake_any _).mono ?_; rintro e wf ⟨rfl, hbf⟩)
      go_ret
      exact ⟨rfl, (((((((HA.out.trans HB8.out).trans HB9.out).trans HBA.out).trans HBB.out).trans HBC.out).trans HBD.out).trans hbf)⟩
  | false =>
    simp only [hlg, Bool.not_false] at HRS
    clear hlg
    go_upto_region 8 with (go_at_call 28; refine HRS.out.mono ?_; rintro e w2 ⟨rfl, hb2⟩; have HB2 := Lib.hid hb2; clear hb2)
    have HAD := Lib.hid (HB1.out.trans HB2.out)
    clear HRS HG0 HE0 HB0 HB1 HB2
    go_upto_region 9 with (go_at_call 13; refine (HTS.out _ HAD.out).mono ?_; rintro e w7 ⟨c, q, l', rfl, h1, h2, h3, h4, hb⟩; have HL := Lib.hid h1; have HOK := Lib.hid h3; have HSH := Lib.hid h4; have HA := Lib.hid (HAD.out.trans hb); clear h1 h3 h4 hb)
    have hl' : l'.length ≤ 256 := by omega
    have hokN : ∀ x ∈ l', okN x := fun x hx => okB_okN (HOK.out x hx)
    have HAL := Lib.hid (fun (W : World) => All_any l'.length W hl')
    have HGV := Lib.hid (fun (W : World) (hW : Adds w7 W) => give_at q c l' W (HL.out.later hW) (by omega))
    have hdf := dry_fit w (K := K) hokN HSH.out hl' (by omega)
    rcases Sh.full_or (shOf l' K) (shOf_lt hokN) (fun _ => true) with ⟨t, ht⟩ | ho
    · have HEA := Lib.hid (fun (q2 : Option Addr) (c2 : Nat) (W : World) (hW : LoadsAt W q2 l') => Early_yes q2 c2 K l' W t hW hl' HOK.out (short_any HSH.out) hKb ht)
      have HRE := Lib.hid (fun (ps : Option Addr) (cs : Nat) (W : World) (hW : Adds w7 W) (hS : BoolsAt W ps l'.length (fun _ => true)) => REarly_yes q ps c cs K l' _ W t (HL.out.later hW) hS hl' HOK.out hKb ht)
      have HFT := Lib.hid (fun (q2 : Option Addr) (c2 : Nat) (W : World) (hW : LoadsAt W q2 l') => Fits_at q2 c2 K l' W hW hl' HOK.out hKb true ⟨fun _ => hdf.2 ht.fit, fun _ => rfl⟩)
      obtain ⟨m, hm⟩ : ∃ m, m = l'.length := ⟨_, rfl⟩
      rw [← hm] at h2 hl' HAL HGV HEA HRE HFT ⊢
      clear hdf ht hokN hm HTS
      go_upto_region 10 with (first
        | (go_at_call 16; refine (HGV.out _ (Adds.refl _)).mono ?_; rintro e w8 ⟨c8, q8, rfl, hq8, hb8⟩; have HQ8 := Lib.hid hq8; have HB8 := Lib.hid hb8; clear hq8 hb8)
        | (go_at_call 29; refine (HEA.out _ _ _ HQ8.out).mono ?_; rintro e w9 ⟨c9, q9, rfl, hq9, hb9⟩; have HQ9 := Lib.hid hq9; have HB9 := Lib.hid hb9; clear hq9 hb9))
      go_upto_region 11 with (first
        | (go_at_call 32; refine (HAL.out _).mono ?_; rintro e wa ⟨qa, ca, rfl, hqa, hba⟩; have HQA := Lib.hid hqa; have HBA := Lib.hid hba; clear hqa hba)
        | (go_at_call 31; refine (HRE.out _ _ _ ((HB8.out.trans HB9.out).trans HBA.out) HQA.out).mono ?_; rintro e wb ⟨cb, qb, rfl, hqb, hbb⟩; have HQB := Lib.hid hqb; have HBB := Lib.hid hbb; clear hqb hbb))
      go_upto_region 12 with (first
        | (go_at_call 16; refine (HGV.out _ (((HB8.out.trans HB9.out).trans HBA.out).trans HBB.out)).mono ?_; rintro e wc ⟨cc, qc, rfl, hqc, hbc⟩; have HQC := Lib.hid hqc; have HBC := Lib.hid hbc; clear hqc hbc)
        | (go_at_call 15; refine (HFT.out _ _ _ HQC.out).mono ?_; rintro e wd ⟨rfl, hbd⟩; have HBD := Lib.hid hbd; clear hbd))
      have HIN := Lib.hid (fun (c1 c2 : Nat) (W : World) (hW : Adds wd W) => ints_same q9 qb c1 c2 m (fun i => (t i : Int)) W (HQ9.out.later ((((HBA.out.trans HBB.out).trans HBC.out).trans HBD.out).trans hW)) ((HQB.out.congr (g := fun i => (t i : Int)) (fun i _ => by simp)).later ((HBC.out.trans HBD.out).trans hW)) hl')
      go_wp2_with (first
        | (go_at_call 33; refine (HIN.out _ _ _ (Adds.refl _)).mono ?_; rintro e we ⟨rfl, hbe⟩; have HBE := Lib.hid hbe; clear hbe)
        | (go_at_call 17; refine (awake_any _).mono ?_; rintro e wf ⟨rfl, hbf⟩))
      go_ret
      exact ⟨rfl, ((((((((HA.out.trans HB8.out).trans HB9.out).trans HBA.out).trans HBB.out).trans HBC.out).trans HBD.out).trans HBE.out).trans hbf)⟩
    · have HEA := Lib.hid (fun (q2 : Option Addr) (c2 : Nat) (W : World) (hW : LoadsAt W q2 l') => Early_no q2 c2 K l' W hW hl' HOK.out (short_any HSH.out) hKb ho)
      have HRE := Lib.hid (fun (ps : Option Addr) (cs : Nat) (W : World) (hW : Adds w7 W) (hS : BoolsAt W ps l'.length (fun _ => true)) => REarly_no q ps c cs K l' _ W (HL.out.later hW) hS hl' HOK.out hKb ho)
      have HFT := Lib.hid (fun (q2 : Option Addr) (c2 : Nat) (W : World) (hW : LoadsAt W q2 l') => Fits_at q2 c2 K l' W hW hl' HOK.out hKb false ⟨fun h => (by cases h), fun h => absurd (hdf.1 h) ho.none⟩)
      obtain ⟨m, hm⟩ : ∃ m, m = l'.length := ⟨_, rfl⟩
      rw [← hm] at h2 hl' HAL HGV HEA HRE HFT ⊢
      clear hdf ho hokN hm HTS
      go_upto_region 10 with (first
        | (go_at_call 16; refine (HGV.out _ (Adds.refl _)).mono ?_; rintro e w8 ⟨c8, q8, rfl, hq8, hb8⟩; have HQ8 := Lib.hid hq8; have HB8 := Lib.hid hb8; clear hq8 hb8)
        | (go_at_call 29; refine (HEA.out _ _ _ HQ8.out).mono ?_; rintro e w9 ⟨rfl, hb9⟩; have HB9 := Lib.hid hb9; clear hb9))
      go_upto_region 11 with (first
        | (go_at_call 32; refine (HAL.out _).mono ?_; rintro e wa ⟨qa, ca, rfl, hqa, hba⟩; have HQA := Lib.hid hqa; have HBA := Lib.hid hba; clear hqa hba)
        | (go_at_call 31; refine (HRE.out _ _ _ ((HB8.out.trans HB9.out).trans HBA.out) HQA.out).mono ?_; rintro e wb ⟨rfl, hbb⟩; have HBB := Lib.hid hbb; clear hbb))
      go_upto_region 12 with (first
        | (go_at_call 16; refine (HGV.out _ (((HB8.out.trans HB9.out).trans HBA.out).trans HBB.out)).mono ?_; rintro e wc ⟨cc, qc, rfl, hqc, hbc⟩; have HQC := Lib.hid hqc; have HBC := Lib.hid hbc; clear hqc hbc)
        | (go_at_call 15; refine (HFT.out _ _ _ HQC.out).mono ?_; rintro e wd ⟨rfl, hbd⟩; have HBD := Lib.hid hbd; clear hbd))
      go_wp2_with (go_at_call 17; refine (awake_any _).mono ?_; rintro e wf ⟨rfl, hbf⟩)
      go_ret
      exact ⟨rfl, (((((((HA.out.trans HB8.out).trans HB9.out).trans HBA.out).trans HBB.out).trans HBC.out).trans HBD.out).trans hbf)⟩
end Go.Proofs.Ytkofnhimgegcnaa
